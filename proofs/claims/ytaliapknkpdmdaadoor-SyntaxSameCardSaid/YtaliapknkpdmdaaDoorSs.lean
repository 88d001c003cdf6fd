/- The statement SyntaxSame, walked: whether two patterns' trees are the same, but for spans. -/
import Derived.Test.YtaliapknkpdmdaaDoorRgI
import Derived.Test.YtaliapknkpdmdaaDoorRgS
namespace Go.Proofs.YtaliapknkpdmdaaDoor
section
open Go Go.RowKit
attribute [local go_sem ↓] Go.wp_at_zero Go.wp_at_succ
attribute [local go_sem] eq4
theorem bin_nil (q : Nat) (W : World) : (binOp .eql 23 (.pointer none) (.pointer (some ⟨q, 0, none⟩))).run Tryd.prog W = .ok (.bool false) W := by
  have e : (Op.equal 23 (.pointer none) (.pointer (some ⟨q, 0, none⟩))).run Tryd.prog W = .ok false W := by
    unfold Op.equal
    rw [show Op.maxDepth = 9999 + 1 from rfl, Op.equalIn]
    simp only [Sem.run_bind, run_underlying Tryd.underlying23, Result.andThen_ok]
    go_simp
  simp only [binOp]
  simp [e]
set_option maxRecDepth 100000 in
set_option maxHeartbeats 2000000 in
theorem ssame_nx (q : Nat) (w : World) : Calls Tryd.prog 7 #[.pointer none, ndPtr q] w fun e w' => e = .returned (.bool false) ∧ Below w.heap.size w w' := by
  have hbn := bin_nil q
  have hmm := @run_makeMap Tryd.prog
  have b1 := below1 w (.map #[] 0)
  have b2 := below1 (w.alloc (.map #[] 0)) (.cells #[.pointer none, ndPtr q] 61)
  have HB := qhid (b1.trans (b2.mono b1.size))
  have he := heap_new (w.alloc (.map #[] 0)) (.cells #[.pointer none, ndPtr q] 61)
  rw [World.size_alloc] at he
  have HE := qhid he
  clear b1 b2 he
  go_enter Tryd.func7, Tryd.ntmps7
  go_wp2_with fail
  clear hmm
  go_loopg [6] 1 (fun rr l wr => Hid (rr = 1) ∧ l = .slice (some ⟨w.heap.size + 1, 0, none⟩) 1 1 ∧ Hid (wr.heap[w.heap.size + 1]? = some (.cells #[.pointer none, ndPtr q] 61)) ∧ Hid (Below w.heap.size w wr))
  case atStart => exact ⟨qhid rfl, rfl, HE, HB⟩
  case round =>
    clear HE HB
    obtain ⟨_, rfl, HE, HB⟩ := hrel
    have k0 := Joins.cell_of_block HE.out 0
    have k1 := Joins.cell_of_block HE.out 1
    simp only [List.getElem?_toArray, List.getElem?_cons_zero, List.getElem?_cons_succ] at k0 k1
    have hbx := below1 wr (.cells #[.pointer none, ndPtr q] 61)
    have HB2 := qhid (HB.out.trans (hbx.mono HB.out.size))
    clear hbx
    go_wp2_with fail
    exact bodyPost_ret (v := .bool false) (by simp [results, Tryd.results7, go_sem]) rfl ⟨rfl, HB2.out⟩
set_option maxRecDepth 100000 in
set_option maxHeartbeats 4000000 in
theorem ss_long (s r : ByteArray) (hs : 200 < s.size ∨ 200 < r.size) (w : World)
    (AW : ∀ X, Below w.heap.size w X → Calls Tryd.prog 4 #[] X fun e w' => e = .returned (.bool true) ∧ Below X.heap.size X w') :
    Calls Tryd.prog 3 #[.string s, .string r] w fun x w' => x = .returned (.bool true) ∧ Below w.heap.size w w' := by
  have HAW := qhid AW
  clear AW
  by_cases h : 200 < s.size
  · have h1 : decide ((200 : Int) < (s.size : Int)) = true := decide_eq_true (by omega)
    have h2 : (200 : Int) < (s.size : Int) := by omega
    clear hs h
    go_enter Tryd.func3, Tryd.ntmps3
    go_wp2_with fail
    refine (HAW.out w (Below.refl _ _)).mono ?_
    rintro x w2 ⟨rfl, hb2⟩
    have HB2 := qhid hb2
    clear hb2
    go_wp2_with fail
    go_ret
    exact ⟨rfl, HB2.out⟩
  · have h1 : decide ((200 : Int) < (s.size : Int)) = false := decide_eq_false (by omega)
    have h2 : (s.size : Int) ≤ 200 := by omega
    have h3 : decide ((200 : Int) < (r.size : Int)) = true := decide_eq_true (by omega)
    have h4 : (200 : Int) < (r.size : Int) := by omega
    clear hs h
    go_enter Tryd.func3, Tryd.ntmps3
    go_wp2_with fail
    refine (HAW.out w (Below.refl _ _)).mono ?_
    rintro x w2 ⟨rfl, hb2⟩
    have HB2 := qhid hb2
    clear hb2
    go_wp2_with fail
    go_ret
    exact ⟨rfl, HB2.out⟩
def ss_ggT (a b : Nat) (x y : Value) (res : Bool) : Nat → Value
  | 0 => .pointer (some ⟨a, 0, none⟩)
  | 1 => .pointer (some ⟨b, 0, none⟩)
  | 2 => .bool res
  | 3 => x
  | 4 => y
  | 5 => .bool res
  | 6 => .bool true
  | 7 => .bool true
  | 8 => .pointer (some ⟨a, 0, none⟩)
  | 9 => .pointer (some ⟨a, 0, none⟩)
  | 10 => .bool true
  | 11 => .bool true
  | 12 => .bool true
  | 13 => .bool true
  | 14 => .bool true
  | 15 => .bool true
  | _ => undef
set_option maxRecDepth 100000 in
set_option maxHeartbeats 8000000 in
theorem ss_gg (s r : ByteArray) (t1 : Tr) (t2 : Tr) (res : Bool) (hs : s.size ≤ 200) (hr : r.size ≤ 200) (w : World)
    (PA1 : Calls Tryd.prog 5 #[.string s] w fun x w' => ParseOut w w' (0, 0, some t1) x)
    (RP1 : ∀ X, Calls Tryd.prog 6 #[.string s] X fun e w' => ∃ lv, e = .returned (.tuple #[rnV t1 lv, .agg #[.int .i64 0, .int .i64 0]]) ∧ RnAt w' (fun b => X.heap.size ≤ b) t1 lv ∧ Below X.heap.size X w')
    (PA2 : ∀ X, Below w.heap.size w X → Calls Tryd.prog 5 #[.string r] X fun x w' => ParseOut X w' (0, 0, some t2) x)
    (RP2 : ∀ X, Calls Tryd.prog 6 #[.string r] X fun e w' => ∃ lv, e = .returned (.tuple #[rnV t2 lv, .agg #[.int .i64 0, .int .i64 0]]) ∧ RnAt w' (fun b => X.heap.size ≤ b) t2 lv ∧ Below X.heap.size X w')
    (SM : ∀ X a b, NdAt X (fun _ => True) t1 (ndPtr a) → NdAt X (fun _ => True) t2 (ndPtr b) → Calls Tryd.prog 7 #[ndPtr a, ndPtr b] X fun e w' => e = .returned (.bool res) ∧ Below X.heap.size X w')
    (SS : ∀ X a, NdAt X (fun _ => True) t1 (ndPtr a) → Calls Tryd.prog 7 #[ndPtr a, ndPtr a] X fun e w' => e = .returned (.bool true) ∧ Below X.heap.size X w')
    (RS : ∀ X lv lv', RnAt X (fun _ => True) t1 lv → RnAt X (fun _ => True) t2 lv' → Calls Tryd.prog 8 #[rnV t1 lv, rnV t2 lv'] X fun e w' => e = .returned (.bool res) ∧ Below X.heap.size X w')
    (AW : ∀ X, Below w.heap.size w X → Calls Tryd.prog 4 #[] X fun e w' => e = .returned (.bool true) ∧ Below X.heap.size X w') :
    Calls Tryd.prog 3 #[.string s, .string r] w fun x w' => x = .returned (.bool true) ∧ Below w.heap.size w w' := by
  have HPA1 := qhid PA1
  have HRP1 := qhid RP1
  have HPA2 := qhid PA2
  have HRP2 := qhid RP2
  have HAW := qhid AW
  have HSM := qhid SM
  have HSS := qhid SS
  have HRS := qhid RS
  have h1 : decide ((200 : Int) < (s.size : Int)) = false := decide_eq_false (by omega)
  have h2 : decide ((200 : Int) < (r.size : Int)) = false := decide_eq_false (by omega)
  have h3 : (s.size : Int) ≤ 200 := by omega
  have h4 : (r.size : Int) ≤ 200 := by omega
  clear PA1 RP1 PA2 RP2 AW hs hr SM SS RS
  go_enter Tryd.func3, Tryd.ntmps3
  go_wp2_with fail
  refine HPA1.out.mono ?_
  rintro x w1 ⟨v, rfl, hv, hb⟩
  have hv : NdAt w1 (fun b => w.heap.size ≤ b) t1 v := hv
  obtain ⟨a, rfl⟩ := hv.pointer
  have N1 := qhid (hv.mono (A' := fun _ => True) (fun _ _ _ => trivial))
  have HB1 := qhid hb
  clear hb HPA1 hv
  go_wp2_with fail
  refine (HPA2.out w1 HB1.out).mono ?_
  rintro x w2 ⟨v, rfl, hv, hb⟩
  have hv : NdAt w2 (fun b => w1.heap.size ≤ b) t2 v := hv
  obtain ⟨b, rfl⟩ := hv.pointer
  have M2 := qhid (hv.mono (A' := fun _ => True) (fun _ _ _ => trivial))
  have HB2 := qhid (HB1.out.trans (hb.mono HB1.out.size))
  have N2 := qhid (N1.out.up hb)
  clear N1
  clear hb HPA2 HB1 hv
  go_wp2_with fail
  refine (HRP1.out w2).mono ?_
  rintro x w3 ⟨lv, hx, hrn, hb⟩
  obtain ⟨k1, s1, lo1, hi1, z1, a1, b1, l1⟩ := t1
  obtain ⟨pp1, n1, cp1, rfl⟩ := hrn.slice
  have hx : x = .returned (.tuple #[.agg #[.int .i64 k1, .int .u64 s1.a, .int .u64 s1.b, .int .u64 s1.c, .int .u64 s1.d, .int .i64 lo1, .int .i64 hi1, .bool z1, .slice pp1 n1 cp1, .int .i64 (a1 : Int), .int .i64 (b1 : Int)], .agg #[.int .i64 0, .int .i64 0]]) := hx
  subst hx
  have R1 := qhid (hrn.mono (A' := fun _ => True) (fun _ _ _ => trivial))
  obtain ⟨W3, hW⟩ : ∃ X, X = (w3.alloc (.cells #[.int .i64 k1, .int .u64 s1.a, .int .u64 s1.b, .int .u64 s1.c, .int .u64 s1.d, .int .i64 lo1, .int .i64 hi1, .bool z1, .slice pp1 n1 cp1, .int .i64 (a1 : Int), .int .i64 (b1 : Int)] 32)).alloc (.cells #[.int .i64 0, .int .i64 0] 34) := ⟨_, rfl⟩
  have b3 : Below w3.heap.size w3 W3 := by rw [hW]; exact below2 w3 _ _
  have HN1 : Hid (W3.heap[w3.heap.size]? = some (.cells #[.int .i64 k1, .int .u64 s1.a, .int .u64 s1.b, .int .u64 s1.c, .int .u64 s1.d, .int .i64 lo1, .int .i64 hi1, .bool z1, .slice pp1 n1 cp1, .int .i64 (a1 : Int), .int .i64 (b1 : Int)] 32)) := qhid (by rw [hW]; exact below_kept (below1 _ _) (heap_new w3 (.cells #[.int .i64 k1, .int .u64 s1.a, .int .u64 s1.b, .int .u64 s1.c, .int .u64 s1.d, .int .i64 lo1, .int .i64 hi1, .bool z1, .slice pp1 n1 cp1, .int .i64 (a1 : Int), .int .i64 (b1 : Int)] 32)))
  have HF1 : Hid (W3.heap[w3.heap.size + 1]? = some (.cells #[.int .i64 0, .int .i64 0] 34)) := qhid (by have h := heap_new (w3.alloc (.cells #[.int .i64 k1, .int .u64 s1.a, .int .u64 s1.b, .int .u64 s1.c, .int .u64 s1.d, .int .i64 lo1, .int .i64 hi1, .bool z1, .slice pp1 n1 cp1, .int .i64 (a1 : Int), .int .i64 (b1 : Int)] 32)) (.cells #[.int .i64 0, .int .i64 0] 34); rw [World.size_alloc] at h; rw [hW]; exact h)
  have hbx : Below w2.heap.size w2 W3 := hb.trans (b3.mono hb.size)
  clear HRP1 hrn
  go_upto_region 6 with fail
  change Code.wp _ _ _ _ ((w3.alloc (.cells #[.int .i64 k1, .int .u64 s1.a, .int .u64 s1.b, .int .u64 s1.c, .int .u64 s1.d, .int .i64 lo1, .int .i64 hi1, .bool z1, .slice pp1 n1 cp1, .int .i64 (a1 : Int), .int .i64 (b1 : Int)] 32)).alloc (.cells #[.int .i64 0, .int .i64 0] 34))
  rw [← hW]
  have HB3 := qhid (HB2.out.trans (hbx.mono HB2.out.size))
  have N3 := qhid (N2.out.up hbx)
  have R3 := qhid (R1.out.up b3)
  clear N2 R1
  have M3 := qhid (M2.out.up hbx)
  clear M2
  clear hW hb b3 hbx HB2
  go_wp2_with fail
  refine (HRP2.out W3).mono ?_
  rintro x w4 ⟨lv, hx, hrn, hb⟩
  obtain ⟨k2, s2, lo2, hi2, z2, a2, b2, l2⟩ := t2
  obtain ⟨pp2, n2, cp2, rfl⟩ := hrn.slice
  have hx : x = .returned (.tuple #[.agg #[.int .i64 k2, .int .u64 s2.a, .int .u64 s2.b, .int .u64 s2.c, .int .u64 s2.d, .int .i64 lo2, .int .i64 hi2, .bool z2, .slice pp2 n2 cp2, .int .i64 (a2 : Int), .int .i64 (b2 : Int)], .agg #[.int .i64 0, .int .i64 0]]) := hx
  subst hx
  have R2 := qhid (hrn.mono (A' := fun _ => True) (fun _ _ _ => trivial))
  obtain ⟨W5, hW⟩ : ∃ X, X = (w4.alloc (.cells #[.int .i64 k2, .int .u64 s2.a, .int .u64 s2.b, .int .u64 s2.c, .int .u64 s2.d, .int .i64 lo2, .int .i64 hi2, .bool z2, .slice pp2 n2 cp2, .int .i64 (a2 : Int), .int .i64 (b2 : Int)] 32)).alloc (.cells #[.int .i64 0, .int .i64 0] 34) := ⟨_, rfl⟩
  have b3 : Below w4.heap.size w4 W5 := by rw [hW]; exact below2 w4 _ _
  have HN2 : Hid (W5.heap[w4.heap.size]? = some (.cells #[.int .i64 k2, .int .u64 s2.a, .int .u64 s2.b, .int .u64 s2.c, .int .u64 s2.d, .int .i64 lo2, .int .i64 hi2, .bool z2, .slice pp2 n2 cp2, .int .i64 (a2 : Int), .int .i64 (b2 : Int)] 32)) := qhid (by rw [hW]; exact below_kept (below1 _ _) (heap_new w4 (.cells #[.int .i64 k2, .int .u64 s2.a, .int .u64 s2.b, .int .u64 s2.c, .int .u64 s2.d, .int .i64 lo2, .int .i64 hi2, .bool z2, .slice pp2 n2 cp2, .int .i64 (a2 : Int), .int .i64 (b2 : Int)] 32)))
  have HF2 : Hid (W5.heap[w4.heap.size + 1]? = some (.cells #[.int .i64 0, .int .i64 0] 34)) := qhid (by have h := heap_new (w4.alloc (.cells #[.int .i64 k2, .int .u64 s2.a, .int .u64 s2.b, .int .u64 s2.c, .int .u64 s2.d, .int .i64 lo2, .int .i64 hi2, .bool z2, .slice pp2 n2 cp2, .int .i64 (a2 : Int), .int .i64 (b2 : Int)] 32)) (.cells #[.int .i64 0, .int .i64 0] 34); rw [World.size_alloc] at h; rw [hW]; exact h)
  have hbx : Below W3.heap.size W3 W5 := hb.trans (b3.mono hb.size)
  clear HRP2 hrn
  go_upto_region 7 with fail
  change Code.wp _ _ _ _ ((w4.alloc (.cells #[.int .i64 k2, .int .u64 s2.a, .int .u64 s2.b, .int .u64 s2.c, .int .u64 s2.d, .int .i64 lo2, .int .i64 hi2, .bool z2, .slice pp2 n2 cp2, .int .i64 (a2 : Int), .int .i64 (b2 : Int)] 32)).alloc (.cells #[.int .i64 0, .int .i64 0] 34))
  rw [← hW]
  have HB5 := qhid (HB3.out.trans (hbx.mono HB3.out.size))
  have N5 := qhid (N3.out.up hbx)
  have R5 := qhid (R3.out.up hbx)
  clear N3 R3
  have M5 := qhid (M3.out.up hbx)
  have S5 := qhid (R2.out.up b3)
  clear M3 R2
  have HN1' := qhid (below_kept hbx HN1.out)
  have HF1' := qhid (below_kept hbx HF1.out)
  clear HN1 HF1 hW hb b3 hbx HB3
  have c0 := Joins.cell_of_block HF1'.out 0
  have c1 := Joins.cell_of_block HF1'.out 1
  have d0 := Joins.cell_of_block HF2.out 0
  have d1 := Joins.cell_of_block HF2.out 1
  have hc := Reg.size_of_get HF1'.out
  have hd := Reg.size_of_get HF2.out
  simp only [List.getElem?_toArray, List.getElem?_cons_zero, List.getElem?_cons_succ] at c0 c1 d0 d1
  go_upto_region 9 with fail
  clear c0 c1 d0 d1 hc hd
  refine Reg.wp_region_C (ss_ggT a b (.agg #[.int .i64 k1, .int .u64 s1.a, .int .u64 s1.b, .int .u64 s1.c, .int .u64 s1.d, .int .i64 lo1, .int .i64 hi1, .bool z1, .slice pp1 n1 cp1, .int .i64 (a1 : Int), .int .i64 (b1 : Int)]) (.agg #[.int .i64 k2, .int .u64 s2.a, .int .u64 s2.b, .int .u64 s2.c, .int .u64 s2.d, .int .i64 lo2, .int .i64 hi2, .bool z2, .slice pp2 n2 cp2, .int .i64 (a2 : Int), .int .i64 (b2 : Int)]) res) (fun _ X => Below W5.heap.size W5 X) [0, 1, 2, 3, 4, 5, 6, 7, 8, 9, 10, 11, 12, 13, 14, 15] (by rfl) (by kernel_rfl) (by kernel_rfl) ?_ ?_ ?_
  · exact Below.drew (Below.refl _ _)
  · skip
    refine ⟨fun listed A X hI hcl hin hun hall => .inl ⟨Reg.wanted_none rfl, ?_⟩, ?_⟩
    · have e5 := hI.evo (d := 5) (by kernel_rfl) rfl
      have hX : Below W5.heap.size W5 X := hI.st
      have HX := qhid hX
      clear hI hall hX hcl
      unfold Reg.Yields
      go_simp
      first | rfl | exact ⟨rfl, HX.out⟩ | (refine ⟨?_, HX.out⟩; simp [ss_ggT]; done) | (refine ⟨?_, HX.out⟩; simp [ss_ggT]; assumption)
    refine ⟨fun listed A X hI hcl hin hun hall => .inl ⟨Reg.wanted_none rfl, ?_⟩, ?_⟩
    · have e8 := hI.evo (d := 8) (by kernel_rfl) rfl
      have hX : Below W5.heap.size W5 X := hI.st
      have HX := qhid hX
      clear hI hall hX hcl
      unfold Reg.Yields
      go_simp
      first | rfl | exact ⟨rfl, HX.out⟩ | (refine ⟨?_, HX.out⟩; simp [ss_ggT]; done) | (refine ⟨?_, HX.out⟩; simp [ss_ggT]; assumption)
    refine ⟨fun listed A X hI hcl hin hun hall => .inl ⟨Reg.wanted_none rfl, ?_⟩, ?_⟩
    · have e85 : A.tmps[85]? = some (.pointer (some ⟨a, 0, none⟩)) := hI.ev (i := 0) (d := 85) (by rfl) (hall ⟨0, .data⟩ (by simp) rfl)
      have e86 : A.tmps[86]? = some (.pointer (some ⟨b, 0, none⟩)) := hI.ev (i := 1) (d := 86) (by rfl) (hall ⟨1, .data⟩ (by simp) rfl)
      have hX : Below W5.heap.size W5 X := hI.st
      have HX := qhid hX
      clear hI hall hX hcl
      unfold Reg.Yields
      go_simp
      exact (HSM.out X a b (N5.out.up HX.out) (M5.out.up HX.out)).mono fun e w'' ⟨he, hb⟩ => ⟨_, he, rfl, HX.out.trans (hb.mono HX.out.size)⟩
    refine ⟨fun listed A X hI hcl hin hun hall => .inl ⟨Reg.wanted_none rfl, ?_⟩, ?_⟩
    · have e11 := hI.evo (d := 11) (by kernel_rfl) rfl
      have hX : Below W5.heap.size W5 X := hI.st
      have hb := (hX.block _ (Reg.size_of_get HN1'.out)).trans HN1'.out
      have v0 := Joins.cell_of_block hb 0
      have v1 := Joins.cell_of_block hb 1
      have v2 := Joins.cell_of_block hb 2
      have v3 := Joins.cell_of_block hb 3
      have v4 := Joins.cell_of_block hb 4
      have v5 := Joins.cell_of_block hb 5
      have v6 := Joins.cell_of_block hb 6
      have v7 := Joins.cell_of_block hb 7
      have v8 := Joins.cell_of_block hb 8
      have v9 := Joins.cell_of_block hb 9
      have v10 := Joins.cell_of_block hb 10
      have hyl := Reg.size_of_get hb
      simp only [List.getElem?_toArray, List.getElem?_cons_zero, List.getElem?_cons_succ] at v0 v1 v2 v3 v4 v5 v6 v7 v8 v9 v10
      clear hb
      have HX := qhid hX
      clear hI hall hX hcl
      unfold Reg.Yields
      go_simp
      first | rfl | exact ⟨rfl, HX.out⟩ | (refine ⟨?_, HX.out⟩; simp [ss_ggT]; done) | (refine ⟨?_, HX.out⟩; simp [ss_ggT]; assumption)
    refine ⟨fun listed A X hI hcl hin hun hall => .inl ⟨Reg.wanted_none rfl, ?_⟩, ?_⟩
    · have e13 := hI.evo (d := 13) (by kernel_rfl) rfl
      have hX : Below W5.heap.size W5 X := hI.st
      have hb := (hX.block _ (Reg.size_of_get HN2.out)).trans HN2.out
      have v0 := Joins.cell_of_block hb 0
      have v1 := Joins.cell_of_block hb 1
      have v2 := Joins.cell_of_block hb 2
      have v3 := Joins.cell_of_block hb 3
      have v4 := Joins.cell_of_block hb 4
      have v5 := Joins.cell_of_block hb 5
      have v6 := Joins.cell_of_block hb 6
      have v7 := Joins.cell_of_block hb 7
      have v8 := Joins.cell_of_block hb 8
      have v9 := Joins.cell_of_block hb 9
      have v10 := Joins.cell_of_block hb 10
      have hyl := Reg.size_of_get hb
      simp only [List.getElem?_toArray, List.getElem?_cons_zero, List.getElem?_cons_succ] at v0 v1 v2 v3 v4 v5 v6 v7 v8 v9 v10
      clear hb
      have HX := qhid hX
      clear hI hall hX hcl
      unfold Reg.Yields
      go_simp
      first | rfl | exact ⟨rfl, HX.out⟩ | (refine ⟨?_, HX.out⟩; simp [ss_ggT]; done) | (refine ⟨?_, HX.out⟩; simp [ss_ggT]; assumption)
    refine ⟨fun listed A X hI hcl hin hun hall => .inl ⟨Reg.wanted_none rfl, ?_⟩, ?_⟩
    · have e88 : A.tmps[88]? = some (.agg #[.int .i64 k1, .int .u64 s1.a, .int .u64 s1.b, .int .u64 s1.c, .int .u64 s1.d, .int .i64 lo1, .int .i64 hi1, .bool z1, .slice pp1 n1 cp1, .int .i64 (a1 : Int), .int .i64 (b1 : Int)]) := hI.ev (i := 3) (d := 88) (by rfl) (hall ⟨3, .data⟩ (by simp) rfl)
      have e89 : A.tmps[89]? = some (.agg #[.int .i64 k2, .int .u64 s2.a, .int .u64 s2.b, .int .u64 s2.c, .int .u64 s2.d, .int .i64 lo2, .int .i64 hi2, .bool z2, .slice pp2 n2 cp2, .int .i64 (a2 : Int), .int .i64 (b2 : Int)]) := hI.ev (i := 4) (d := 89) (by rfl) (hall ⟨4, .data⟩ (by simp) rfl)
      have hX : Below W5.heap.size W5 X := hI.st
      have HX := qhid hX
      clear hI hall hX hcl
      unfold Reg.Yields
      go_simp
      exact (HRS.out X _ _ (R5.out.up HX.out) (S5.out.up HX.out)).mono fun e w'' ⟨he, hb⟩ => ⟨_, he, rfl, HX.out.trans (hb.mono HX.out.size)⟩
    refine ⟨fun listed A X hI hcl hin hun hall => .inl ⟨Reg.wanted_none rfl, ?_⟩, ?_⟩
    · have e87 : A.tmps[87]? = some (.bool res) := hI.ev (i := 2) (d := 87) (by rfl) (hall ⟨2, .data⟩ (by simp) rfl)
      have e90 : A.tmps[90]? = some (.bool res) := hI.ev (i := 5) (d := 90) (by rfl) (hall ⟨5, .data⟩ (by simp) rfl)
      have hX : Below W5.heap.size W5 X := hI.st
      have HX := qhid hX
      clear hI hall hX hcl
      unfold Reg.Yields
      go_simp
      first | rfl | exact ⟨rfl, HX.out⟩ | (refine ⟨?_, HX.out⟩; simp [ss_ggT]; done) | (refine ⟨?_, HX.out⟩; simp [ss_ggT]; assumption)
    refine ⟨fun listed A X hI hcl hin hun hall => .inl ⟨Reg.wanted_none rfl, ?_⟩, ?_⟩
    · have e91 : A.tmps[91]? = some (.bool true) := hI.ev (i := 6) (d := 91) (by rfl) (hall ⟨6, .data⟩ (by simp) rfl)
      have hX : Below W5.heap.size W5 X := hI.st
      have HX := qhid hX
      clear hI hall hX hcl
      unfold Reg.Yields
      go_simp
      first | rfl | exact ⟨rfl, HX.out⟩ | (refine ⟨?_, HX.out⟩; simp [ss_ggT]; done) | (refine ⟨?_, HX.out⟩; simp [ss_ggT]; assumption)
    refine ⟨fun listed A X hI hcl hin hun hall => .inl ⟨(Reg.wanted_some (j := 7) (d := 92) rfl rfl (hI.ev (i := 7) (d := 92) (by rfl) (hall ⟨7, .guard⟩ (by simp) rfl) : A.tmps[92]? = some (.bool true))).trans rfl, ?_⟩, ?_⟩
    · have e5 := hI.evo (d := 5) (by kernel_rfl) rfl
      have hX : Below W5.heap.size W5 X := hI.st
      have HX := qhid hX
      clear hI hall hX hcl
      unfold Reg.Yields
      go_simp
      first | rfl | exact ⟨rfl, HX.out⟩ | (refine ⟨?_, HX.out⟩; simp [ss_ggT]; done) | (refine ⟨?_, HX.out⟩; simp [ss_ggT]; assumption)
    refine ⟨fun listed A X hI hcl hin hun hall => .inl ⟨(Reg.wanted_some (j := 7) (d := 92) rfl rfl (hI.ev (i := 7) (d := 92) (by rfl) (hall ⟨7, .guard⟩ (by simp) rfl) : A.tmps[92]? = some (.bool true))).trans rfl, ?_⟩, ?_⟩
    · have e5 := hI.evo (d := 5) (by kernel_rfl) rfl
      have hX : Below W5.heap.size W5 X := hI.st
      have HX := qhid hX
      clear hI hall hX hcl
      unfold Reg.Yields
      go_simp
      first | rfl | exact ⟨rfl, HX.out⟩ | (refine ⟨?_, HX.out⟩; simp [ss_ggT]; done) | (refine ⟨?_, HX.out⟩; simp [ss_ggT]; assumption)
    refine ⟨fun listed A X hI hcl hin hun hall => .inl ⟨(Reg.wanted_some (j := 7) (d := 92) rfl rfl (hI.ev (i := 7) (d := 92) (by rfl) (hall ⟨7, .guard⟩ (by simp) rfl) : A.tmps[92]? = some (.bool true))).trans rfl, ?_⟩, ?_⟩
    · have e93 : A.tmps[93]? = some (.pointer (some ⟨a, 0, none⟩)) := hI.ev (i := 8) (d := 93) (by rfl) (hall ⟨8, .data⟩ (by simp) rfl)
      have e94 : A.tmps[94]? = some (.pointer (some ⟨a, 0, none⟩)) := hI.ev (i := 9) (d := 94) (by rfl) (hall ⟨9, .data⟩ (by simp) rfl)
      have hX : Below W5.heap.size W5 X := hI.st
      have HX := qhid hX
      clear hI hall hX hcl
      unfold Reg.Yields
      go_simp
      exact (HSS.out X a (N5.out.up HX.out)).mono fun e w'' ⟨he, hb⟩ => ⟨_, he, rfl, HX.out.trans (hb.mono HX.out.size)⟩
    refine ⟨fun listed A X hI hcl hin hun hall => .inl ⟨Reg.wanted_none rfl, ?_⟩, ?_⟩
    · have e92 : A.tmps[92]? = some (.bool true) := hI.ev (i := 7) (d := 92) (by rfl) (hall ⟨7, .data⟩ (by simp) rfl)
      have e95 : A.tmps[95]? = some (.bool true) := hI.ev (i := 10) (d := 95) (by rfl) (hall ⟨10, .data⟩ (by simp) rfl)
      have hX : Below W5.heap.size W5 X := hI.st
      have HX := qhid hX
      clear hI hall hX hcl
      unfold Reg.Yields
      go_simp
      first | rfl | exact ⟨rfl, HX.out⟩ | (refine ⟨?_, HX.out⟩; simp [ss_ggT]; done) | (refine ⟨?_, HX.out⟩; simp [ss_ggT]; assumption)
    refine ⟨fun listed A X hI hcl hin hun hall => .inl ⟨Reg.wanted_none rfl, ?_⟩, ?_⟩
    · have e96 : A.tmps[96]? = some (.bool true) := hI.ev (i := 11) (d := 96) (by rfl) (hall ⟨11, .data⟩ (by simp) rfl)
      have hX : Below W5.heap.size W5 X := hI.st
      have HX := qhid hX
      clear hI hall hX hcl
      unfold Reg.Yields
      go_simp
      first | rfl | exact ⟨rfl, HX.out⟩ | (refine ⟨?_, HX.out⟩; simp [ss_ggT]; done) | (refine ⟨?_, HX.out⟩; simp [ss_ggT]; assumption)
    refine ⟨fun listed A X hI hcl hin hun hall => .inl ⟨(Reg.wanted_some (j := 12) (d := 97) rfl rfl (hI.ev (i := 12) (d := 97) (by rfl) (hall ⟨12, .guard⟩ (by simp) rfl) : A.tmps[97]? = some (.bool true))).trans rfl, ?_⟩, ?_⟩
    · have hX : Below W5.heap.size W5 X := hI.st
      have HX := qhid hX
      clear hI hall hX hcl
      unfold Reg.Yields
      go_simp
      exact (HAW.out X (HB5.out.trans (HX.out.mono HB5.out.size))).mono fun e w'' ⟨he, hb⟩ => ⟨_, he, rfl, HX.out.trans (hb.mono HX.out.size)⟩
    refine ⟨fun listed A X hI hcl hin hun hall => .inl ⟨Reg.wanted_none rfl, ?_⟩, ?_⟩
    · have e97 : A.tmps[97]? = some (.bool true) := hI.ev (i := 12) (d := 97) (by rfl) (hall ⟨12, .data⟩ (by simp) rfl)
      have e98 : A.tmps[98]? = some (.bool true) := hI.ev (i := 13) (d := 98) (by rfl) (hall ⟨13, .data⟩ (by simp) rfl)
      have hX : Below W5.heap.size W5 X := hI.st
      have HX := qhid hX
      clear hI hall hX hcl
      unfold Reg.Yields
      go_simp
      first | rfl | exact ⟨rfl, HX.out⟩ | (refine ⟨?_, HX.out⟩; simp [ss_ggT]; done) | (refine ⟨?_, HX.out⟩; simp [ss_ggT]; assumption)
    refine ⟨fun listed A X hI hcl hin hun hall => .inl ⟨Reg.wanted_none rfl, ?_⟩, ?_⟩
    · have e99 : A.tmps[99]? = some (.bool true) := hI.ev (i := 14) (d := 99) (by rfl) (hall ⟨14, .data⟩ (by simp) rfl)
      have hX : Below W5.heap.size W5 X := hI.st
      have HX := qhid hX
      clear hI hall hX hcl
      unfold Reg.Yields
      go_simp
      first | rfl | exact ⟨rfl, HX.out⟩ | (refine ⟨?_, HX.out⟩; simp [ss_ggT]; done) | (refine ⟨?_, HX.out⟩; simp [ss_ggT]; assumption)
    trivial
  · intro X hS
    have HX := qhid hS
    clear hS
    simp [Reg.finalTmps, Reg.dstAt, Reg.valOf, ss_ggT]
    have HBX := qhid (HB5.out.trans (HX.out.mono HB5.out.size))
    go_wp2_with fail
    go_ret
    exact ⟨rfl, HBX.out⟩
def ss_gbT (h1 h2 : Nat) (a : Nat) (e2 : Int) : Nat → Value
  | 0 => .int .i64 0
  | 1 => .bool true
  | 2 => .pointer (some ⟨h1 + 1, 1, none⟩)
  | 3 => .int .i64 0
  | 4 => .bool true
  | 5 => .bool true
  | 6 => .bool true
  | 7 => .int .i64 e2
  | 8 => .bool false
  | 9 => .pointer (some ⟨h2 + 1, 1, none⟩)
  | 10 => .int .i64 e2
  | 11 => .bool false
  | 12 => .bool true
  | 13 => .bool true
  | 14 => .bool true
  | 15 => .pointer (some ⟨a, 0, none⟩)
  | 16 => .pointer none
  | 17 => .bool false
  | 18 => .pointer (some ⟨h1 + 1, 1, none⟩)
  | 19 => .int .i64 0
  | 20 => .bool false
  | 21 => .bool false
  | 22 => undef
  | 23 => undef
  | 24 => undef
  | 25 => .bool false
  | 26 => .bool true
  | 27 => .bool true
  | 28 => .bool true
  | 29 => .bool true
  | 30 => .bool true
  | 31 => .bool true
  | _ => undef
set_option maxRecDepth 100000 in
set_option maxHeartbeats 8000000 in
theorem ss_gb (s r : ByteArray) (t1 : Tr) (e2 at2 : Int) (he2 : e2 ≠ 0) (hs : s.size ≤ 200) (hr : r.size ≤ 200) (w : World)
    (PA1 : Calls Tryd.prog 5 #[.string s] w fun x w' => ParseOut w w' (0, 0, some t1) x)
    (RP1 : ∀ X, Calls Tryd.prog 6 #[.string s] X fun e w' => ∃ lv, e = .returned (.tuple #[rnV t1 lv, .agg #[.int .i64 0, .int .i64 0]]) ∧ RnAt w' (fun b => X.heap.size ≤ b) t1 lv ∧ Below X.heap.size X w')
    (PA2 : ∀ X, Below w.heap.size w X → Calls Tryd.prog 5 #[.string r] X fun x w' => ParseOut X w' (e2, at2, none) x)
    (RP2 : ∀ X, Calls Tryd.prog 6 #[.string r] X fun x w' => x = .returned (.tuple #[.agg #[.int .i64 0, .int .u64 0, .int .u64 0, .int .u64 0, .int .u64 0, .int .i64 0, .int .i64 0, .bool false, .slice none 0 0, .int .i64 0, .int .i64 0], .agg #[.int .i64 at2, .int .i64 e2]]) ∧ Below X.heap.size X w')
    (AW : ∀ X, Below w.heap.size w X → Calls Tryd.prog 4 #[] X fun e w' => e = .returned (.bool true) ∧ Below X.heap.size X w') :
    Calls Tryd.prog 3 #[.string s, .string r] w fun x w' => x = .returned (.bool true) ∧ Below w.heap.size w w' := by
  have HSN := qhid (fun X a => ssame_xn a X)
  have HPA1 := qhid PA1
  have HRP1 := qhid RP1
  have HPA2 := qhid PA2
  have HRP2 := qhid RP2
  have HAW := qhid AW
  have h1 : decide ((200 : Int) < (s.size : Int)) = false := decide_eq_false (by omega)
  have h2 : decide ((200 : Int) < (r.size : Int)) = false := decide_eq_false (by omega)
  have h3 : (s.size : Int) ≤ 200 := by omega
  have h4 : (r.size : Int) ≤ 200 := by omega
  have q2 : ((e2 : Int) == 0) = false := by simpa using he2
  have u2 : ((e2 : Int) != 0) = true := by simpa using he2
  clear PA1 RP1 PA2 RP2 AW hs hr he2
  go_enter Tryd.func3, Tryd.ntmps3
  go_wp2_with fail
  refine HPA1.out.mono ?_
  rintro x w1 ⟨v, rfl, hv, hb⟩
  have hv : NdAt w1 (fun b => w.heap.size ≤ b) t1 v := hv
  obtain ⟨a, rfl⟩ := hv.pointer
  have N1 := qhid (hv.mono (A' := fun _ => True) (fun _ _ _ => trivial))
  have HB1 := qhid hb
  clear hb HPA1 hv
  go_wp2_with fail
  refine (HPA2.out w1 HB1.out).mono ?_
  rintro x w2 ⟨v, rfl, hv, hb⟩
  have hv : v = .pointer none := hv
  subst hv
  have HB2 := qhid (HB1.out.trans (hb.mono HB1.out.size))
  have N2 := qhid (N1.out.up hb)
  clear N1
  clear hb HPA2 HB1
  go_wp2_with fail
  refine (HRP1.out w2).mono ?_
  rintro x w3 ⟨lv, hx, hrn, hb⟩
  obtain ⟨k1, s1, lo1, hi1, z1, a1, b1, l1⟩ := t1
  obtain ⟨pp1, n1, cp1, rfl⟩ := hrn.slice
  have hx : x = .returned (.tuple #[.agg #[.int .i64 k1, .int .u64 s1.a, .int .u64 s1.b, .int .u64 s1.c, .int .u64 s1.d, .int .i64 lo1, .int .i64 hi1, .bool z1, .slice pp1 n1 cp1, .int .i64 (a1 : Int), .int .i64 (b1 : Int)], .agg #[.int .i64 0, .int .i64 0]]) := hx
  subst hx
  have R1 := qhid (hrn.mono (A' := fun _ => True) (fun _ _ _ => trivial))
  obtain ⟨W3, hW⟩ : ∃ X, X = (w3.alloc (.cells #[.int .i64 k1, .int .u64 s1.a, .int .u64 s1.b, .int .u64 s1.c, .int .u64 s1.d, .int .i64 lo1, .int .i64 hi1, .bool z1, .slice pp1 n1 cp1, .int .i64 (a1 : Int), .int .i64 (b1 : Int)] 32)).alloc (.cells #[.int .i64 0, .int .i64 0] 34) := ⟨_, rfl⟩
  have b3 : Below w3.heap.size w3 W3 := by rw [hW]; exact below2 w3 _ _
  have HN1 : Hid (W3.heap[w3.heap.size]? = some (.cells #[.int .i64 k1, .int .u64 s1.a, .int .u64 s1.b, .int .u64 s1.c, .int .u64 s1.d, .int .i64 lo1, .int .i64 hi1, .bool z1, .slice pp1 n1 cp1, .int .i64 (a1 : Int), .int .i64 (b1 : Int)] 32)) := qhid (by rw [hW]; exact below_kept (below1 _ _) (heap_new w3 (.cells #[.int .i64 k1, .int .u64 s1.a, .int .u64 s1.b, .int .u64 s1.c, .int .u64 s1.d, .int .i64 lo1, .int .i64 hi1, .bool z1, .slice pp1 n1 cp1, .int .i64 (a1 : Int), .int .i64 (b1 : Int)] 32)))
  have HF1 : Hid (W3.heap[w3.heap.size + 1]? = some (.cells #[.int .i64 0, .int .i64 0] 34)) := qhid (by have h := heap_new (w3.alloc (.cells #[.int .i64 k1, .int .u64 s1.a, .int .u64 s1.b, .int .u64 s1.c, .int .u64 s1.d, .int .i64 lo1, .int .i64 hi1, .bool z1, .slice pp1 n1 cp1, .int .i64 (a1 : Int), .int .i64 (b1 : Int)] 32)) (.cells #[.int .i64 0, .int .i64 0] 34); rw [World.size_alloc] at h; rw [hW]; exact h)
  have hbx : Below w2.heap.size w2 W3 := hb.trans (b3.mono hb.size)
  clear HRP1 hrn
  go_upto_region 6 with fail
  change Code.wp _ _ _ _ ((w3.alloc (.cells #[.int .i64 k1, .int .u64 s1.a, .int .u64 s1.b, .int .u64 s1.c, .int .u64 s1.d, .int .i64 lo1, .int .i64 hi1, .bool z1, .slice pp1 n1 cp1, .int .i64 (a1 : Int), .int .i64 (b1 : Int)] 32)).alloc (.cells #[.int .i64 0, .int .i64 0] 34))
  rw [← hW]
  have HB3 := qhid (HB2.out.trans (hbx.mono HB2.out.size))
  have N3 := qhid (N2.out.up hbx)
  have R3 := qhid (R1.out.up b3)
  clear N2 R1
  clear hW hb b3 hbx HB2
  go_wp2_with fail
  refine (HRP2.out W3).mono ?_
  rintro x w4 ⟨rfl, hb⟩
  obtain ⟨W5, hW⟩ : ∃ X, X = (w4.alloc (.cells #[.int .i64 0, .int .u64 0, .int .u64 0, .int .u64 0, .int .u64 0, .int .i64 0, .int .i64 0, .bool false, .slice none 0 0, .int .i64 0, .int .i64 0] 32)).alloc (.cells #[.int .i64 at2, .int .i64 e2] 34) := ⟨_, rfl⟩
  have b3 : Below w4.heap.size w4 W5 := by rw [hW]; exact below2 w4 _ _
  have HN2 : Hid (W5.heap[w4.heap.size]? = some (.cells #[.int .i64 0, .int .u64 0, .int .u64 0, .int .u64 0, .int .u64 0, .int .i64 0, .int .i64 0, .bool false, .slice none 0 0, .int .i64 0, .int .i64 0] 32)) := qhid (by rw [hW]; exact below_kept (below1 _ _) (heap_new w4 (.cells #[.int .i64 0, .int .u64 0, .int .u64 0, .int .u64 0, .int .u64 0, .int .i64 0, .int .i64 0, .bool false, .slice none 0 0, .int .i64 0, .int .i64 0] 32)))
  have HF2 : Hid (W5.heap[w4.heap.size + 1]? = some (.cells #[.int .i64 at2, .int .i64 e2] 34)) := qhid (by have h := heap_new (w4.alloc (.cells #[.int .i64 0, .int .u64 0, .int .u64 0, .int .u64 0, .int .u64 0, .int .i64 0, .int .i64 0, .bool false, .slice none 0 0, .int .i64 0, .int .i64 0] 32)) (.cells #[.int .i64 at2, .int .i64 e2] 34); rw [World.size_alloc] at h; rw [hW]; exact h)
  have hbx : Below W3.heap.size W3 W5 := hb.trans (b3.mono hb.size)
  clear HRP2
  go_upto_region 7 with fail
  change Code.wp _ _ _ _ ((w4.alloc (.cells #[.int .i64 0, .int .u64 0, .int .u64 0, .int .u64 0, .int .u64 0, .int .i64 0, .int .i64 0, .bool false, .slice none 0 0, .int .i64 0, .int .i64 0] 32)).alloc (.cells #[.int .i64 at2, .int .i64 e2] 34))
  rw [← hW]
  have HB5 := qhid (HB3.out.trans (hbx.mono HB3.out.size))
  have N5 := qhid (N3.out.up hbx)
  have R5 := qhid (R3.out.up hbx)
  clear N3 R3
  have HN1' := qhid (below_kept hbx HN1.out)
  have HF1' := qhid (below_kept hbx HF1.out)
  clear HN1 HF1 hW hb b3 hbx HB3
  have c0 := Joins.cell_of_block HF1'.out 0
  have c1 := Joins.cell_of_block HF1'.out 1
  have d0 := Joins.cell_of_block HF2.out 0
  have d1 := Joins.cell_of_block HF2.out 1
  have hc := Reg.size_of_get HF1'.out
  have hd := Reg.size_of_get HF2.out
  simp only [List.getElem?_toArray, List.getElem?_cons_zero, List.getElem?_cons_succ] at c0 c1 d0 d1
  go_upto_region 8 with fail
  clear c0 c1 d0 d1 hc hd
  refine Reg.wp_region_C (ss_gbT w3.heap.size w4.heap.size a e2) (fun _ X => Below W5.heap.size W5 X) [0, 1, 2, 3, 4, 5, 6, 7, 8, 9, 10, 11, 12, 13, 14, 15, 16, 17, 18, 19, 20, 21, 22, 23, 24, 25, 26, 27, 28, 29, 30, 31] (by rfl) (by kernel_rfl) (by kernel_rfl) ?_ ?_ ?_
  · exact Below.drew (Below.refl _ _)
  · skip
    refine ⟨fun listed A X hI hcl hin hun hall => .inl ⟨Reg.wanted_none rfl, ?_⟩, ?_⟩
    · have e7 := hI.evo (d := 7) (by kernel_rfl) rfl
      have hX : Below W5.heap.size W5 X := hI.st
      have HX := qhid hX
      clear hI hall hX hcl
      unfold Reg.Yields
      go_simp
      first | rfl | exact ⟨rfl, HX.out⟩ | (refine ⟨?_, HX.out⟩; simp [ss_gbT]; done) | (refine ⟨?_, HX.out⟩; simp [ss_gbT]; assumption)
    refine ⟨fun listed A X hI hcl hin hun hall => .inl ⟨Reg.wanted_none rfl, ?_⟩, ?_⟩
    · have e54 : A.tmps[54]? = some (.int .i64 0) := hI.ev (i := 0) (d := 54) (by rfl) (hall ⟨0, .data⟩ (by simp) rfl)
      have hX : Below W5.heap.size W5 X := hI.st
      have HX := qhid hX
      clear hI hall hX hcl
      unfold Reg.Yields
      go_simp
      first | rfl | exact ⟨rfl, HX.out⟩ | (refine ⟨?_, HX.out⟩; simp [ss_gbT]; done) | (refine ⟨?_, HX.out⟩; simp [ss_gbT]; assumption)
    refine ⟨fun listed A X hI hcl hin hun hall => .inl ⟨Reg.wanted_none rfl, ?_⟩, ?_⟩
    · have e12 := hI.evo (d := 12) (by kernel_rfl) rfl
      have hX : Below W5.heap.size W5 X := hI.st
      have hb := (hX.block _ (Reg.size_of_get HF1'.out)).trans HF1'.out
      have v0 := Joins.cell_of_block hb 0
      have v1 := Joins.cell_of_block hb 1
      have hyl := Reg.size_of_get hb
      simp only [List.getElem?_toArray, List.getElem?_cons_zero, List.getElem?_cons_succ] at v0 v1
      clear hb
      have HX := qhid hX
      clear hI hall hX hcl
      unfold Reg.Yields
      go_simp
      first | rfl | exact ⟨rfl, HX.out⟩ | (refine ⟨?_, HX.out⟩; simp [ss_gbT]; done) | (refine ⟨?_, HX.out⟩; simp [ss_gbT]; assumption)
    refine ⟨fun listed A X hI hcl hin hun hall => .inl ⟨Reg.wanted_none rfl, ?_⟩, ?_⟩
    · have e56 : A.tmps[56]? = some (.pointer (some ⟨w3.heap.size + 1, 1, none⟩)) := hI.ev (i := 2) (d := 56) (by rfl) (hall ⟨2, .data⟩ (by simp) rfl)
      have hX : Below W5.heap.size W5 X := hI.st
      have hb := (hX.block _ (Reg.size_of_get HF1'.out)).trans HF1'.out
      have v0 := Joins.cell_of_block hb 0
      have v1 := Joins.cell_of_block hb 1
      have hyl := Reg.size_of_get hb
      simp only [List.getElem?_toArray, List.getElem?_cons_zero, List.getElem?_cons_succ] at v0 v1
      clear hb
      have HX := qhid hX
      clear hI hall hX hcl
      unfold Reg.Yields
      go_simp
      first | rfl | exact ⟨rfl, HX.out⟩ | (refine ⟨?_, HX.out⟩; simp [ss_gbT]; done) | (refine ⟨?_, HX.out⟩; simp [ss_gbT]; assumption)
    refine ⟨fun listed A X hI hcl hin hun hall => .inl ⟨Reg.wanted_none rfl, ?_⟩, ?_⟩
    · have e57 : A.tmps[57]? = some (.int .i64 0) := hI.ev (i := 3) (d := 57) (by rfl) (hall ⟨3, .data⟩ (by simp) rfl)
      have hX : Below W5.heap.size W5 X := hI.st
      have HX := qhid hX
      clear hI hall hX hcl
      unfold Reg.Yields
      go_simp
      first | rfl | exact ⟨rfl, HX.out⟩ | (refine ⟨?_, HX.out⟩; simp [ss_gbT]; done) | (refine ⟨?_, HX.out⟩; simp [ss_gbT]; assumption)
    refine ⟨fun listed A X hI hcl hin hun hall => .inl ⟨Reg.wanted_none rfl, ?_⟩, ?_⟩
    · have e55 : A.tmps[55]? = some (.bool true) := hI.ev (i := 1) (d := 55) (by rfl) (hall ⟨1, .data⟩ (by simp) rfl)
      have e58 : A.tmps[58]? = some (.bool true) := hI.ev (i := 4) (d := 58) (by rfl) (hall ⟨4, .data⟩ (by simp) rfl)
      have hX : Below W5.heap.size W5 X := hI.st
      have HX := qhid hX
      clear hI hall hX hcl
      unfold Reg.Yields
      go_simp
      first | rfl | exact ⟨rfl, HX.out⟩ | (refine ⟨?_, HX.out⟩; simp [ss_gbT]; done) | (refine ⟨?_, HX.out⟩; simp [ss_gbT]; assumption)
    refine ⟨fun listed A X hI hcl hin hun hall => .inl ⟨Reg.wanted_none rfl, ?_⟩, ?_⟩
    · have e59 : A.tmps[59]? = some (.bool true) := hI.ev (i := 5) (d := 59) (by rfl) (hall ⟨5, .data⟩ (by simp) rfl)
      have hX : Below W5.heap.size W5 X := hI.st
      have HX := qhid hX
      clear hI hall hX hcl
      unfold Reg.Yields
      go_simp
      first | rfl | exact ⟨rfl, HX.out⟩ | (refine ⟨?_, HX.out⟩; simp [ss_gbT]; done) | (refine ⟨?_, HX.out⟩; simp [ss_gbT]; assumption)
    refine ⟨fun listed A X hI hcl hin hun hall => .inl ⟨(Reg.wanted_some (j := 6) (d := 60) rfl rfl (hI.ev (i := 6) (d := 60) (by rfl) (hall ⟨6, .guard⟩ (by simp) rfl) : A.tmps[60]? = some (.bool true))).trans rfl, ?_⟩, ?_⟩
    · have e10 := hI.evo (d := 10) (by kernel_rfl) rfl
      have hX : Below W5.heap.size W5 X := hI.st
      have HX := qhid hX
      clear hI hall hX hcl
      unfold Reg.Yields
      go_simp
      first | rfl | exact ⟨rfl, HX.out⟩ | (refine ⟨?_, HX.out⟩; simp [ss_gbT]; done) | (refine ⟨?_, HX.out⟩; simp [ss_gbT]; assumption)
    refine ⟨fun listed A X hI hcl hin hun hall => .inl ⟨(Reg.wanted_some (j := 6) (d := 60) rfl rfl (hI.ev (i := 6) (d := 60) (by rfl) (hall ⟨6, .guard⟩ (by simp) rfl) : A.tmps[60]? = some (.bool true))).trans rfl, ?_⟩, ?_⟩
    · have e61 : A.tmps[61]? = some (.int .i64 e2) := hI.ev (i := 7) (d := 61) (by rfl) (hall ⟨7, .data⟩ (by simp) rfl)
      have hX : Below W5.heap.size W5 X := hI.st
      have HX := qhid hX
      clear hI hall hX hcl
      unfold Reg.Yields
      go_simp
      first | rfl | exact ⟨rfl, HX.out⟩ | (refine ⟨?_, HX.out⟩; simp [ss_gbT]; done) | (refine ⟨?_, HX.out⟩; simp [ss_gbT]; assumption)
    refine ⟨fun listed A X hI hcl hin hun hall => .inl ⟨(Reg.wanted_some (j := 6) (d := 60) rfl rfl (hI.ev (i := 6) (d := 60) (by rfl) (hall ⟨6, .guard⟩ (by simp) rfl) : A.tmps[60]? = some (.bool true))).trans rfl, ?_⟩, ?_⟩
    · have e14 := hI.evo (d := 14) (by kernel_rfl) rfl
      have hX : Below W5.heap.size W5 X := hI.st
      have hb := (hX.block _ (Reg.size_of_get HF2.out)).trans HF2.out
      have v0 := Joins.cell_of_block hb 0
      have v1 := Joins.cell_of_block hb 1
      have hyl := Reg.size_of_get hb
      simp only [List.getElem?_toArray, List.getElem?_cons_zero, List.getElem?_cons_succ] at v0 v1
      clear hb
      have HX := qhid hX
      clear hI hall hX hcl
      unfold Reg.Yields
      go_simp
      first | rfl | exact ⟨rfl, HX.out⟩ | (refine ⟨?_, HX.out⟩; simp [ss_gbT]; done) | (refine ⟨?_, HX.out⟩; simp [ss_gbT]; assumption)
    refine ⟨fun listed A X hI hcl hin hun hall => .inl ⟨(Reg.wanted_some (j := 6) (d := 60) rfl rfl (hI.ev (i := 6) (d := 60) (by rfl) (hall ⟨6, .guard⟩ (by simp) rfl) : A.tmps[60]? = some (.bool true))).trans rfl, ?_⟩, ?_⟩
    · have e63 : A.tmps[63]? = some (.pointer (some ⟨w4.heap.size + 1, 1, none⟩)) := hI.ev (i := 9) (d := 63) (by rfl) (hall ⟨9, .data⟩ (by simp) rfl)
      have hX : Below W5.heap.size W5 X := hI.st
      have hb := (hX.block _ (Reg.size_of_get HF2.out)).trans HF2.out
      have v0 := Joins.cell_of_block hb 0
      have v1 := Joins.cell_of_block hb 1
      have hyl := Reg.size_of_get hb
      simp only [List.getElem?_toArray, List.getElem?_cons_zero, List.getElem?_cons_succ] at v0 v1
      clear hb
      have HX := qhid hX
      clear hI hall hX hcl
      unfold Reg.Yields
      go_simp
      first | rfl | exact ⟨rfl, HX.out⟩ | (refine ⟨?_, HX.out⟩; simp [ss_gbT]; done) | (refine ⟨?_, HX.out⟩; simp [ss_gbT]; assumption)
    refine ⟨fun listed A X hI hcl hin hun hall => .inl ⟨(Reg.wanted_some (j := 6) (d := 60) rfl rfl (hI.ev (i := 6) (d := 60) (by rfl) (hall ⟨6, .guard⟩ (by simp) rfl) : A.tmps[60]? = some (.bool true))).trans rfl, ?_⟩, ?_⟩
    · have e64 : A.tmps[64]? = some (.int .i64 e2) := hI.ev (i := 10) (d := 64) (by rfl) (hall ⟨10, .data⟩ (by simp) rfl)
      have hX : Below W5.heap.size W5 X := hI.st
      have HX := qhid hX
      clear hI hall hX hcl
      unfold Reg.Yields
      go_simp
      first | rfl | exact ⟨rfl, HX.out⟩ | (refine ⟨?_, HX.out⟩; simp [ss_gbT]; done) | (refine ⟨?_, HX.out⟩; simp [ss_gbT]; assumption)
    refine ⟨fun listed A X hI hcl hin hun hall => .inl ⟨(Reg.wanted_some (j := 6) (d := 60) rfl rfl (hI.ev (i := 6) (d := 60) (by rfl) (hall ⟨6, .guard⟩ (by simp) rfl) : A.tmps[60]? = some (.bool true))).trans rfl, ?_⟩, ?_⟩
    · have e62 : A.tmps[62]? = some (.bool false) := hI.ev (i := 8) (d := 62) (by rfl) (hall ⟨8, .data⟩ (by simp) rfl)
      have e65 : A.tmps[65]? = some (.bool false) := hI.ev (i := 11) (d := 65) (by rfl) (hall ⟨11, .data⟩ (by simp) rfl)
      have hX : Below W5.heap.size W5 X := hI.st
      have HX := qhid hX
      clear hI hall hX hcl
      unfold Reg.Yields
      go_simp
      first | rfl | exact ⟨rfl, HX.out⟩ | (refine ⟨?_, HX.out⟩; simp [ss_gbT]; done) | (refine ⟨?_, HX.out⟩; simp [ss_gbT]; assumption)
    refine ⟨fun listed A X hI hcl hin hun hall => .inl ⟨Reg.wanted_none rfl, ?_⟩, ?_⟩
    · have e60 : A.tmps[60]? = some (.bool true) := hI.ev (i := 6) (d := 60) (by rfl) (hall ⟨6, .data⟩ (by simp) rfl)
      have e66 : A.tmps[66]? = some (.bool true) := hI.ev (i := 12) (d := 66) (by rfl) (hall ⟨12, .data⟩ (by simp) rfl)
      have hX : Below W5.heap.size W5 X := hI.st
      have HX := qhid hX
      clear hI hall hX hcl
      unfold Reg.Yields
      go_simp
      first | rfl | exact ⟨rfl, HX.out⟩ | (refine ⟨?_, HX.out⟩; simp [ss_gbT]; done) | (refine ⟨?_, HX.out⟩; simp [ss_gbT]; assumption)
    refine ⟨fun listed A X hI hcl hin hun hall => .inl ⟨Reg.wanted_none rfl, ?_⟩, ?_⟩
    · have e67 : A.tmps[67]? = some (.bool true) := hI.ev (i := 13) (d := 67) (by rfl) (hall ⟨13, .data⟩ (by simp) rfl)
      have hX : Below W5.heap.size W5 X := hI.st
      have HX := qhid hX
      clear hI hall hX hcl
      unfold Reg.Yields
      go_simp
      first | rfl | exact ⟨rfl, HX.out⟩ | (refine ⟨?_, HX.out⟩; simp [ss_gbT]; done) | (refine ⟨?_, HX.out⟩; simp [ss_gbT]; assumption)
    refine ⟨fun listed A X hI hcl hin hun hall => .inl ⟨(Reg.wanted_some (j := 14) (d := 68) rfl rfl (hI.ev (i := 14) (d := 68) (by rfl) (hall ⟨14, .guard⟩ (by simp) rfl) : A.tmps[68]? = some (.bool true))).trans rfl, ?_⟩, ?_⟩
    · have e5 := hI.evo (d := 5) (by kernel_rfl) rfl
      have hX : Below W5.heap.size W5 X := hI.st
      have HX := qhid hX
      clear hI hall hX hcl
      unfold Reg.Yields
      go_simp
      first | rfl | exact ⟨rfl, HX.out⟩ | (refine ⟨?_, HX.out⟩; simp [ss_gbT]; done) | (refine ⟨?_, HX.out⟩; simp [ss_gbT]; assumption)
    refine ⟨fun listed A X hI hcl hin hun hall => .inl ⟨(Reg.wanted_some (j := 14) (d := 68) rfl rfl (hI.ev (i := 14) (d := 68) (by rfl) (hall ⟨14, .guard⟩ (by simp) rfl) : A.tmps[68]? = some (.bool true))).trans rfl, ?_⟩, ?_⟩
    · have e8 := hI.evo (d := 8) (by kernel_rfl) rfl
      have hX : Below W5.heap.size W5 X := hI.st
      have HX := qhid hX
      clear hI hall hX hcl
      unfold Reg.Yields
      go_simp
      first | rfl | exact ⟨rfl, HX.out⟩ | (refine ⟨?_, HX.out⟩; simp [ss_gbT]; done) | (refine ⟨?_, HX.out⟩; simp [ss_gbT]; assumption)
    refine ⟨fun listed A X hI hcl hin hun hall => .inl ⟨(Reg.wanted_some (j := 14) (d := 68) rfl rfl (hI.ev (i := 14) (d := 68) (by rfl) (hall ⟨14, .guard⟩ (by simp) rfl) : A.tmps[68]? = some (.bool true))).trans rfl, ?_⟩, ?_⟩
    · have e69 : A.tmps[69]? = some (.pointer (some ⟨a, 0, none⟩)) := hI.ev (i := 15) (d := 69) (by rfl) (hall ⟨15, .data⟩ (by simp) rfl)
      have e70 : A.tmps[70]? = some (.pointer none) := hI.ev (i := 16) (d := 70) (by rfl) (hall ⟨16, .data⟩ (by simp) rfl)
      have hX : Below W5.heap.size W5 X := hI.st
      have HX := qhid hX
      clear hI hall hX hcl
      unfold Reg.Yields
      go_simp
      exact (HSN.out X a).mono fun e w'' ⟨he, hb⟩ => ⟨_, he, rfl, HX.out.trans (hb.mono HX.out.size)⟩
    refine ⟨fun listed A X hI hcl hin hun hall => .inl ⟨(Reg.wanted_some (j := 14) (d := 68) rfl rfl (hI.ev (i := 14) (d := 68) (by rfl) (hall ⟨14, .guard⟩ (by simp) rfl) : A.tmps[68]? = some (.bool true))).trans rfl, ?_⟩, ?_⟩
    · have e12 := hI.evo (d := 12) (by kernel_rfl) rfl
      have hX : Below W5.heap.size W5 X := hI.st
      have hb := (hX.block _ (Reg.size_of_get HF1'.out)).trans HF1'.out
      have v0 := Joins.cell_of_block hb 0
      have v1 := Joins.cell_of_block hb 1
      have hyl := Reg.size_of_get hb
      simp only [List.getElem?_toArray, List.getElem?_cons_zero, List.getElem?_cons_succ] at v0 v1
      clear hb
      have HX := qhid hX
      clear hI hall hX hcl
      unfold Reg.Yields
      go_simp
      first | rfl | exact ⟨rfl, HX.out⟩ | (refine ⟨?_, HX.out⟩; simp [ss_gbT]; done) | (refine ⟨?_, HX.out⟩; simp [ss_gbT]; assumption)
    refine ⟨fun listed A X hI hcl hin hun hall => .inl ⟨(Reg.wanted_some (j := 14) (d := 68) rfl rfl (hI.ev (i := 14) (d := 68) (by rfl) (hall ⟨14, .guard⟩ (by simp) rfl) : A.tmps[68]? = some (.bool true))).trans rfl, ?_⟩, ?_⟩
    · have e72 : A.tmps[72]? = some (.pointer (some ⟨w3.heap.size + 1, 1, none⟩)) := hI.ev (i := 18) (d := 72) (by rfl) (hall ⟨18, .data⟩ (by simp) rfl)
      have hX : Below W5.heap.size W5 X := hI.st
      have hb := (hX.block _ (Reg.size_of_get HF1'.out)).trans HF1'.out
      have v0 := Joins.cell_of_block hb 0
      have v1 := Joins.cell_of_block hb 1
      have hyl := Reg.size_of_get hb
      simp only [List.getElem?_toArray, List.getElem?_cons_zero, List.getElem?_cons_succ] at v0 v1
      clear hb
      have HX := qhid hX
      clear hI hall hX hcl
      unfold Reg.Yields
      go_simp
      first | rfl | exact ⟨rfl, HX.out⟩ | (refine ⟨?_, HX.out⟩; simp [ss_gbT]; done) | (refine ⟨?_, HX.out⟩; simp [ss_gbT]; assumption)
    refine ⟨fun listed A X hI hcl hin hun hall => .inl ⟨(Reg.wanted_some (j := 14) (d := 68) rfl rfl (hI.ev (i := 14) (d := 68) (by rfl) (hall ⟨14, .guard⟩ (by simp) rfl) : A.tmps[68]? = some (.bool true))).trans rfl, ?_⟩, ?_⟩
    · have e73 : A.tmps[73]? = some (.int .i64 0) := hI.ev (i := 19) (d := 73) (by rfl) (hall ⟨19, .data⟩ (by simp) rfl)
      have hX : Below W5.heap.size W5 X := hI.st
      have HX := qhid hX
      clear hI hall hX hcl
      unfold Reg.Yields
      go_simp
      first | rfl | exact ⟨rfl, HX.out⟩ | (refine ⟨?_, HX.out⟩; simp [ss_gbT]; done) | (refine ⟨?_, HX.out⟩; simp [ss_gbT]; assumption)
    refine ⟨fun listed A X hI hcl hin hun hall => .inl ⟨(Reg.wanted_some (j := 14) (d := 68) rfl rfl (hI.ev (i := 14) (d := 68) (by rfl) (hall ⟨14, .guard⟩ (by simp) rfl) : A.tmps[68]? = some (.bool true))).trans rfl, ?_⟩, ?_⟩
    · have e74 : A.tmps[74]? = some (.bool false) := hI.ev (i := 20) (d := 74) (by rfl) (hall ⟨20, .data⟩ (by simp) rfl)
      have hX : Below W5.heap.size W5 X := hI.st
      have HX := qhid hX
      clear hI hall hX hcl
      unfold Reg.Yields
      go_simp
      first | rfl | exact ⟨rfl, HX.out⟩ | (refine ⟨?_, HX.out⟩; simp [ss_gbT]; done) | (refine ⟨?_, HX.out⟩; simp [ss_gbT]; assumption)
    refine ⟨fun listed A X hI hcl hin hun hall => .inr ⟨(Reg.wanted_some (j := 21) (d := 75) rfl rfl (hI.ev (i := 21) (d := 75) (by rfl) (hall ⟨21, .guard⟩ (by simp) rfl) : A.tmps[75]? = some (.bool false))).trans rfl, rfl, hI.st⟩, ?_⟩
    refine ⟨fun listed A X hI hcl hin hun hall => .inr ⟨(Reg.wanted_some (j := 21) (d := 75) rfl rfl (hI.ev (i := 21) (d := 75) (by rfl) (hall ⟨21, .guard⟩ (by simp) rfl) : A.tmps[75]? = some (.bool false))).trans rfl, rfl, hI.st⟩, ?_⟩
    refine ⟨fun listed A X hI hcl hin hun hall => .inr ⟨(Reg.wanted_some (j := 21) (d := 75) rfl rfl (hI.ev (i := 21) (d := 75) (by rfl) (hall ⟨21, .guard⟩ (by simp) rfl) : A.tmps[75]? = some (.bool false))).trans rfl, rfl, hI.st⟩, ?_⟩
    refine ⟨fun listed A X hI hcl hin hun hall => .inl ⟨(Reg.wanted_some (j := 14) (d := 68) rfl rfl (hI.ev (i := 14) (d := 68) (by rfl) (hall ⟨14, .guard⟩ (by simp) rfl) : A.tmps[68]? = some (.bool true))).trans rfl, ?_⟩, ?_⟩
    · have e75 : A.tmps[75]? = some (.bool false) := hI.ev (i := 21) (d := 75) (by rfl) (hall ⟨21, .data⟩ (by simp) rfl)
      have e78 : A.tmps[78]? = some (undef) := hI.ev (i := 24) (d := 78) (by rfl) (hall ⟨24, .data⟩ (by simp) rfl)
      have hX : Below W5.heap.size W5 X := hI.st
      have HX := qhid hX
      clear hI hall hX hcl
      unfold Reg.Yields
      go_simp
      first | rfl | exact ⟨rfl, HX.out⟩ | (refine ⟨?_, HX.out⟩; simp [ss_gbT]; done) | (refine ⟨?_, HX.out⟩; simp [ss_gbT]; assumption)
    refine ⟨fun listed A X hI hcl hin hun hall => .inl ⟨(Reg.wanted_some (j := 14) (d := 68) rfl rfl (hI.ev (i := 14) (d := 68) (by rfl) (hall ⟨14, .guard⟩ (by simp) rfl) : A.tmps[68]? = some (.bool true))).trans rfl, ?_⟩, ?_⟩
    · have e71 : A.tmps[71]? = some (.bool false) := hI.ev (i := 17) (d := 71) (by rfl) (hall ⟨17, .data⟩ (by simp) rfl)
      have e79 : A.tmps[79]? = some (.bool false) := hI.ev (i := 25) (d := 79) (by rfl) (hall ⟨25, .data⟩ (by simp) rfl)
      have hX : Below W5.heap.size W5 X := hI.st
      have HX := qhid hX
      clear hI hall hX hcl
      unfold Reg.Yields
      go_simp
      first | rfl | exact ⟨rfl, HX.out⟩ | (refine ⟨?_, HX.out⟩; simp [ss_gbT]; done) | (refine ⟨?_, HX.out⟩; simp [ss_gbT]; assumption)
    refine ⟨fun listed A X hI hcl hin hun hall => .inl ⟨Reg.wanted_none rfl, ?_⟩, ?_⟩
    · have e68 : A.tmps[68]? = some (.bool true) := hI.ev (i := 14) (d := 68) (by rfl) (hall ⟨14, .data⟩ (by simp) rfl)
      have e80 : A.tmps[80]? = some (.bool true) := hI.ev (i := 26) (d := 80) (by rfl) (hall ⟨26, .data⟩ (by simp) rfl)
      have hX : Below W5.heap.size W5 X := hI.st
      have HX := qhid hX
      clear hI hall hX hcl
      unfold Reg.Yields
      go_simp
      first | rfl | exact ⟨rfl, HX.out⟩ | (refine ⟨?_, HX.out⟩; simp [ss_gbT]; done) | (refine ⟨?_, HX.out⟩; simp [ss_gbT]; assumption)
    refine ⟨fun listed A X hI hcl hin hun hall => .inl ⟨Reg.wanted_none rfl, ?_⟩, ?_⟩
    · have e81 : A.tmps[81]? = some (.bool true) := hI.ev (i := 27) (d := 81) (by rfl) (hall ⟨27, .data⟩ (by simp) rfl)
      have hX : Below W5.heap.size W5 X := hI.st
      have HX := qhid hX
      clear hI hall hX hcl
      unfold Reg.Yields
      go_simp
      first | rfl | exact ⟨rfl, HX.out⟩ | (refine ⟨?_, HX.out⟩; simp [ss_gbT]; done) | (refine ⟨?_, HX.out⟩; simp [ss_gbT]; assumption)
    refine ⟨fun listed A X hI hcl hin hun hall => .inl ⟨(Reg.wanted_some (j := 28) (d := 82) rfl rfl (hI.ev (i := 28) (d := 82) (by rfl) (hall ⟨28, .guard⟩ (by simp) rfl) : A.tmps[82]? = some (.bool true))).trans rfl, ?_⟩, ?_⟩
    · have hX : Below W5.heap.size W5 X := hI.st
      have HX := qhid hX
      clear hI hall hX hcl
      unfold Reg.Yields
      go_simp
      exact (HAW.out X (HB5.out.trans (HX.out.mono HB5.out.size))).mono fun e w'' ⟨he, hb⟩ => ⟨_, he, rfl, HX.out.trans (hb.mono HX.out.size)⟩
    refine ⟨fun listed A X hI hcl hin hun hall => .inl ⟨Reg.wanted_none rfl, ?_⟩, ?_⟩
    · have e82 : A.tmps[82]? = some (.bool true) := hI.ev (i := 28) (d := 82) (by rfl) (hall ⟨28, .data⟩ (by simp) rfl)
      have e83 : A.tmps[83]? = some (.bool true) := hI.ev (i := 29) (d := 83) (by rfl) (hall ⟨29, .data⟩ (by simp) rfl)
      have hX : Below W5.heap.size W5 X := hI.st
      have HX := qhid hX
      clear hI hall hX hcl
      unfold Reg.Yields
      go_simp
      first | rfl | exact ⟨rfl, HX.out⟩ | (refine ⟨?_, HX.out⟩; simp [ss_gbT]; done) | (refine ⟨?_, HX.out⟩; simp [ss_gbT]; assumption)
    refine ⟨fun listed A X hI hcl hin hun hall => .inl ⟨Reg.wanted_none rfl, ?_⟩, ?_⟩
    · have e84 : A.tmps[84]? = some (.bool true) := hI.ev (i := 30) (d := 84) (by rfl) (hall ⟨30, .data⟩ (by simp) rfl)
      have hX : Below W5.heap.size W5 X := hI.st
      have HX := qhid hX
      clear hI hall hX hcl
      unfold Reg.Yields
      go_simp
      first | rfl | exact ⟨rfl, HX.out⟩ | (refine ⟨?_, HX.out⟩; simp [ss_gbT]; done) | (refine ⟨?_, HX.out⟩; simp [ss_gbT]; assumption)
    trivial
  · intro X hS
    have HX := qhid hS
    clear hS
    simp [Reg.finalTmps, Reg.dstAt, Reg.valOf, ss_gbT]
    have HBX := qhid (HB5.out.trans (HX.out.mono HB5.out.size))
    go_wp2_with fail
    go_ret
    exact ⟨rfl, HBX.out⟩
def ss_bgT (h1 h2 : Nat) (e1 : Int) (b : Nat) : Nat → Value
  | 0 => .int .i64 e1
  | 1 => .bool false
  | 2 => .pointer (some ⟨h1 + 1, 1, none⟩)
  | 3 => .int .i64 e1
  | 4 => .bool false
  | 5 => .bool true
  | 6 => .bool true
  | 7 => .int .i64 0
  | 8 => .bool true
  | 9 => .pointer (some ⟨h2 + 1, 1, none⟩)
  | 10 => .int .i64 0
  | 11 => .bool true
  | 12 => .bool true
  | 13 => .bool true
  | 14 => .bool true
  | 15 => .pointer none
  | 16 => .pointer (some ⟨b, 0, none⟩)
  | 17 => .bool false
  | 18 => .pointer (some ⟨h1 + 1, 1, none⟩)
  | 19 => .int .i64 e1
  | 20 => .bool true
  | 21 => .bool true
  | 22 => .pointer (some ⟨h2 + 1, 1, none⟩)
  | 23 => .int .i64 0
  | 24 => .bool false
  | 25 => .bool false
  | 26 => .bool true
  | 27 => .bool true
  | 28 => .bool true
  | 29 => .bool true
  | 30 => .bool true
  | 31 => .bool true
  | _ => undef
set_option maxRecDepth 100000 in
set_option maxHeartbeats 8000000 in
theorem ss_bg (s r : ByteArray) (e1 at1 : Int) (he1 : e1 ≠ 0) (t2 : Tr) (hs : s.size ≤ 200) (hr : r.size ≤ 200) (w : World)
    (PA1 : Calls Tryd.prog 5 #[.string s] w fun x w' => ParseOut w w' (e1, at1, none) x)
    (RP1 : ∀ X, Calls Tryd.prog 6 #[.string s] X fun x w' => x = .returned (.tuple #[.agg #[.int .i64 0, .int .u64 0, .int .u64 0, .int .u64 0, .int .u64 0, .int .i64 0, .int .i64 0, .bool false, .slice none 0 0, .int .i64 0, .int .i64 0], .agg #[.int .i64 at1, .int .i64 e1]]) ∧ Below X.heap.size X w')
    (PA2 : ∀ X, Below w.heap.size w X → Calls Tryd.prog 5 #[.string r] X fun x w' => ParseOut X w' (0, 0, some t2) x)
    (RP2 : ∀ X, Calls Tryd.prog 6 #[.string r] X fun e w' => ∃ lv, e = .returned (.tuple #[rnV t2 lv, .agg #[.int .i64 0, .int .i64 0]]) ∧ RnAt w' (fun b => X.heap.size ≤ b) t2 lv ∧ Below X.heap.size X w')
    (AW : ∀ X, Below w.heap.size w X → Calls Tryd.prog 4 #[] X fun e w' => e = .returned (.bool true) ∧ Below X.heap.size X w') :
    Calls Tryd.prog 3 #[.string s, .string r] w fun x w' => x = .returned (.bool true) ∧ Below w.heap.size w w' := by
  have HSN := qhid (fun X b => ssame_nx b X)
  have HPA1 := qhid PA1
  have HRP1 := qhid RP1
  have HPA2 := qhid PA2
  have HRP2 := qhid RP2
  have HAW := qhid AW
  have h1 : decide ((200 : Int) < (s.size : Int)) = false := decide_eq_false (by omega)
  have h2 : decide ((200 : Int) < (r.size : Int)) = false := decide_eq_false (by omega)
  have h3 : (s.size : Int) ≤ 200 := by omega
  have h4 : (r.size : Int) ≤ 200 := by omega
  have q1 : ((e1 : Int) == 0) = false := by simpa using he1
  have u1 : ((e1 : Int) != 0) = true := by simpa using he1
  clear PA1 RP1 PA2 RP2 AW hs hr he1
  go_enter Tryd.func3, Tryd.ntmps3
  go_wp2_with fail
  refine HPA1.out.mono ?_
  rintro x w1 ⟨v, rfl, hv, hb⟩
  have hv : v = .pointer none := hv
  subst hv
  have HB1 := qhid hb
  clear hb HPA1
  go_wp2_with fail
  refine (HPA2.out w1 HB1.out).mono ?_
  rintro x w2 ⟨v, rfl, hv, hb⟩
  have hv : NdAt w2 (fun b => w1.heap.size ≤ b) t2 v := hv
  obtain ⟨b, rfl⟩ := hv.pointer
  have M2 := qhid (hv.mono (A' := fun _ => True) (fun _ _ _ => trivial))
  have HB2 := qhid (HB1.out.trans (hb.mono HB1.out.size))
  clear hb HPA2 HB1 hv
  go_wp2_with fail
  refine (HRP1.out w2).mono ?_
  rintro x w3 ⟨rfl, hb⟩
  obtain ⟨W3, hW⟩ : ∃ X, X = (w3.alloc (.cells #[.int .i64 0, .int .u64 0, .int .u64 0, .int .u64 0, .int .u64 0, .int .i64 0, .int .i64 0, .bool false, .slice none 0 0, .int .i64 0, .int .i64 0] 32)).alloc (.cells #[.int .i64 at1, .int .i64 e1] 34) := ⟨_, rfl⟩
  have b3 : Below w3.heap.size w3 W3 := by rw [hW]; exact below2 w3 _ _
  have HN1 : Hid (W3.heap[w3.heap.size]? = some (.cells #[.int .i64 0, .int .u64 0, .int .u64 0, .int .u64 0, .int .u64 0, .int .i64 0, .int .i64 0, .bool false, .slice none 0 0, .int .i64 0, .int .i64 0] 32)) := qhid (by rw [hW]; exact below_kept (below1 _ _) (heap_new w3 (.cells #[.int .i64 0, .int .u64 0, .int .u64 0, .int .u64 0, .int .u64 0, .int .i64 0, .int .i64 0, .bool false, .slice none 0 0, .int .i64 0, .int .i64 0] 32)))
  have HF1 : Hid (W3.heap[w3.heap.size + 1]? = some (.cells #[.int .i64 at1, .int .i64 e1] 34)) := qhid (by have h := heap_new (w3.alloc (.cells #[.int .i64 0, .int .u64 0, .int .u64 0, .int .u64 0, .int .u64 0, .int .i64 0, .int .i64 0, .bool false, .slice none 0 0, .int .i64 0, .int .i64 0] 32)) (.cells #[.int .i64 at1, .int .i64 e1] 34); rw [World.size_alloc] at h; rw [hW]; exact h)
  have hbx : Below w2.heap.size w2 W3 := hb.trans (b3.mono hb.size)
  clear HRP1
  go_upto_region 6 with fail
  change Code.wp _ _ _ _ ((w3.alloc (.cells #[.int .i64 0, .int .u64 0, .int .u64 0, .int .u64 0, .int .u64 0, .int .i64 0, .int .i64 0, .bool false, .slice none 0 0, .int .i64 0, .int .i64 0] 32)).alloc (.cells #[.int .i64 at1, .int .i64 e1] 34))
  rw [← hW]
  have HB3 := qhid (HB2.out.trans (hbx.mono HB2.out.size))
  have M3 := qhid (M2.out.up hbx)
  clear M2
  clear hW hb b3 hbx HB2
  go_wp2_with fail
  refine (HRP2.out W3).mono ?_
  rintro x w4 ⟨lv, hx, hrn, hb⟩
  obtain ⟨k2, s2, lo2, hi2, z2, a2, b2, l2⟩ := t2
  obtain ⟨pp2, n2, cp2, rfl⟩ := hrn.slice
  have hx : x = .returned (.tuple #[.agg #[.int .i64 k2, .int .u64 s2.a, .int .u64 s2.b, .int .u64 s2.c, .int .u64 s2.d, .int .i64 lo2, .int .i64 hi2, .bool z2, .slice pp2 n2 cp2, .int .i64 (a2 : Int), .int .i64 (b2 : Int)], .agg #[.int .i64 0, .int .i64 0]]) := hx
  subst hx
  have R2 := qhid (hrn.mono (A' := fun _ => True) (fun _ _ _ => trivial))
  obtain ⟨W5, hW⟩ : ∃ X, X = (w4.alloc (.cells #[.int .i64 k2, .int .u64 s2.a, .int .u64 s2.b, .int .u64 s2.c, .int .u64 s2.d, .int .i64 lo2, .int .i64 hi2, .bool z2, .slice pp2 n2 cp2, .int .i64 (a2 : Int), .int .i64 (b2 : Int)] 32)).alloc (.cells #[.int .i64 0, .int .i64 0] 34) := ⟨_, rfl⟩
  have b3 : Below w4.heap.size w4 W5 := by rw [hW]; exact below2 w4 _ _
  have HN2 : Hid (W5.heap[w4.heap.size]? = some (.cells #[.int .i64 k2, .int .u64 s2.a, .int .u64 s2.b, .int .u64 s2.c, .int .u64 s2.d, .int .i64 lo2, .int .i64 hi2, .bool z2, .slice pp2 n2 cp2, .int .i64 (a2 : Int), .int .i64 (b2 : Int)] 32)) := qhid (by rw [hW]; exact below_kept (below1 _ _) (heap_new w4 (.cells #[.int .i64 k2, .int .u64 s2.a, .int .u64 s2.b, .int .u64 s2.c, .int .u64 s2.d, .int .i64 lo2, .int .i64 hi2, .bool z2, .slice pp2 n2 cp2, .int .i64 (a2 : Int), .int .i64 (b2 : Int)] 32)))
  have HF2 : Hid (W5.heap[w4.heap.size + 1]? = some (.cells #[.int .i64 0, .int .i64 0] 34)) := qhid (by have h := heap_new (w4.alloc (.cells #[.int .i64 k2, .int .u64 s2.a, .int .u64 s2.b, .int .u64 s2.c, .int .u64 s2.d, .int .i64 lo2, .int .i64 hi2, .bool z2, .slice pp2 n2 cp2, .int .i64 (a2 : Int), .int .i64 (b2 : Int)] 32)) (.cells #[.int .i64 0, .int .i64 0] 34); rw [World.size_alloc] at h; rw [hW]; exact h)
  have hbx : Below W3.heap.size W3 W5 := hb.trans (b3.mono hb.size)
  clear HRP2 hrn
  go_upto_region 7 with fail
  change Code.wp _ _ _ _ ((w4.alloc (.cells #[.int .i64 k2, .int .u64 s2.a, .int .u64 s2.b, .int .u64 s2.c, .int .u64 s2.d, .int .i64 lo2, .int .i64 hi2, .bool z2, .slice pp2 n2 cp2, .int .i64 (a2 : Int), .int .i64 (b2 : Int)] 32)).alloc (.cells #[.int .i64 0, .int .i64 0] 34))
  rw [← hW]
  have HB5 := qhid (HB3.out.trans (hbx.mono HB3.out.size))
  have M5 := qhid (M3.out.up hbx)
  have S5 := qhid (R2.out.up b3)
  clear M3 R2
  have HN1' := qhid (below_kept hbx HN1.out)
  have HF1' := qhid (below_kept hbx HF1.out)
  clear HN1 HF1 hW hb b3 hbx HB3
  have c0 := Joins.cell_of_block HF1'.out 0
  have c1 := Joins.cell_of_block HF1'.out 1
  have d0 := Joins.cell_of_block HF2.out 0
  have d1 := Joins.cell_of_block HF2.out 1
  have hc := Reg.size_of_get HF1'.out
  have hd := Reg.size_of_get HF2.out
  simp only [List.getElem?_toArray, List.getElem?_cons_zero, List.getElem?_cons_succ] at c0 c1 d0 d1
  go_upto_region 8 with fail
  clear c0 c1 d0 d1 hc hd
  refine Reg.wp_region_C (ss_bgT w3.heap.size w4.heap.size e1 b) (fun _ X => Below W5.heap.size W5 X) [0, 1, 2, 3, 4, 5, 6, 7, 8, 9, 10, 11, 12, 13, 14, 15, 16, 17, 18, 19, 20, 21, 22, 23, 24, 25, 26, 27, 28, 29, 30, 31] (by rfl) (by kernel_rfl) (by kernel_rfl) ?_ ?_ ?_
  · exact Below.drew (Below.refl _ _)
  · skip
    refine ⟨fun listed A X hI hcl hin hun hall => .inl ⟨Reg.wanted_none rfl, ?_⟩, ?_⟩
    · have e7 := hI.evo (d := 7) (by kernel_rfl) rfl
      have hX : Below W5.heap.size W5 X := hI.st
      have HX := qhid hX
      clear hI hall hX hcl
      unfold Reg.Yields
      go_simp
      first | rfl | exact ⟨rfl, HX.out⟩ | (refine ⟨?_, HX.out⟩; simp [ss_bgT]; done) | (refine ⟨?_, HX.out⟩; simp [ss_bgT]; assumption)
    refine ⟨fun listed A X hI hcl hin hun hall => .inl ⟨Reg.wanted_none rfl, ?_⟩, ?_⟩
    · have e54 : A.tmps[54]? = some (.int .i64 e1) := hI.ev (i := 0) (d := 54) (by rfl) (hall ⟨0, .data⟩ (by simp) rfl)
      have hX : Below W5.heap.size W5 X := hI.st
      have HX := qhid hX
      clear hI hall hX hcl
      unfold Reg.Yields
      go_simp
      first | rfl | exact ⟨rfl, HX.out⟩ | (refine ⟨?_, HX.out⟩; simp [ss_bgT]; done) | (refine ⟨?_, HX.out⟩; simp [ss_bgT]; assumption)
    refine ⟨fun listed A X hI hcl hin hun hall => .inl ⟨Reg.wanted_none rfl, ?_⟩, ?_⟩
    · have e12 := hI.evo (d := 12) (by kernel_rfl) rfl
      have hX : Below W5.heap.size W5 X := hI.st
      have hb := (hX.block _ (Reg.size_of_get HF1'.out)).trans HF1'.out
      have v0 := Joins.cell_of_block hb 0
      have v1 := Joins.cell_of_block hb 1
      have hyl := Reg.size_of_get hb
      simp only [List.getElem?_toArray, List.getElem?_cons_zero, List.getElem?_cons_succ] at v0 v1
      clear hb
      have HX := qhid hX
      clear hI hall hX hcl
      unfold Reg.Yields
      go_simp
      first | rfl | exact ⟨rfl, HX.out⟩ | (refine ⟨?_, HX.out⟩; simp [ss_bgT]; done) | (refine ⟨?_, HX.out⟩; simp [ss_bgT]; assumption)
    refine ⟨fun listed A X hI hcl hin hun hall => .inl ⟨Reg.wanted_none rfl, ?_⟩, ?_⟩
    · have e56 : A.tmps[56]? = some (.pointer (some ⟨w3.heap.size + 1, 1, none⟩)) := hI.ev (i := 2) (d := 56) (by rfl) (hall ⟨2, .data⟩ (by simp) rfl)
      have hX : Below W5.heap.size W5 X := hI.st
      have hb := (hX.block _ (Reg.size_of_get HF1'.out)).trans HF1'.out
      have v0 := Joins.cell_of_block hb 0
      have v1 := Joins.cell_of_block hb 1
      have hyl := Reg.size_of_get hb
      simp only [List.getElem?_toArray, List.getElem?_cons_zero, List.getElem?_cons_succ] at v0 v1
      clear hb
      have HX := qhid hX
      clear hI hall hX hcl
      unfold Reg.Yields
      go_simp
      first | rfl | exact ⟨rfl, HX.out⟩ | (refine ⟨?_, HX.out⟩; simp [ss_bgT]; done) | (refine ⟨?_, HX.out⟩; simp [ss_bgT]; assumption)
    refine ⟨fun listed A X hI hcl hin hun hall => .inl ⟨Reg.wanted_none rfl, ?_⟩, ?_⟩
    · have e57 : A.tmps[57]? = some (.int .i64 e1) := hI.ev (i := 3) (d := 57) (by rfl) (hall ⟨3, .data⟩ (by simp) rfl)
      have hX : Below W5.heap.size W5 X := hI.st
      have HX := qhid hX
      clear hI hall hX hcl
      unfold Reg.Yields
      go_simp
      first | rfl | exact ⟨rfl, HX.out⟩ | (refine ⟨?_, HX.out⟩; simp [ss_bgT]; done) | (refine ⟨?_, HX.out⟩; simp [ss_bgT]; assumption)
    refine ⟨fun listed A X hI hcl hin hun hall => .inl ⟨Reg.wanted_none rfl, ?_⟩, ?_⟩
    · have e55 : A.tmps[55]? = some (.bool false) := hI.ev (i := 1) (d := 55) (by rfl) (hall ⟨1, .data⟩ (by simp) rfl)
      have e58 : A.tmps[58]? = some (.bool false) := hI.ev (i := 4) (d := 58) (by rfl) (hall ⟨4, .data⟩ (by simp) rfl)
      have hX : Below W5.heap.size W5 X := hI.st
      have HX := qhid hX
      clear hI hall hX hcl
      unfold Reg.Yields
      go_simp
      first | rfl | exact ⟨rfl, HX.out⟩ | (refine ⟨?_, HX.out⟩; simp [ss_bgT]; done) | (refine ⟨?_, HX.out⟩; simp [ss_bgT]; assumption)
    refine ⟨fun listed A X hI hcl hin hun hall => .inl ⟨Reg.wanted_none rfl, ?_⟩, ?_⟩
    · have e59 : A.tmps[59]? = some (.bool true) := hI.ev (i := 5) (d := 59) (by rfl) (hall ⟨5, .data⟩ (by simp) rfl)
      have hX : Below W5.heap.size W5 X := hI.st
      have HX := qhid hX
      clear hI hall hX hcl
      unfold Reg.Yields
      go_simp
      first | rfl | exact ⟨rfl, HX.out⟩ | (refine ⟨?_, HX.out⟩; simp [ss_bgT]; done) | (refine ⟨?_, HX.out⟩; simp [ss_bgT]; assumption)
    refine ⟨fun listed A X hI hcl hin hun hall => .inl ⟨(Reg.wanted_some (j := 6) (d := 60) rfl rfl (hI.ev (i := 6) (d := 60) (by rfl) (hall ⟨6, .guard⟩ (by simp) rfl) : A.tmps[60]? = some (.bool true))).trans rfl, ?_⟩, ?_⟩
    · have e10 := hI.evo (d := 10) (by kernel_rfl) rfl
      have hX : Below W5.heap.size W5 X := hI.st
      have HX := qhid hX
      clear hI hall hX hcl
      unfold Reg.Yields
      go_simp
      first | rfl | exact ⟨rfl, HX.out⟩ | (refine ⟨?_, HX.out⟩; simp [ss_bgT]; done) | (refine ⟨?_, HX.out⟩; simp [ss_bgT]; assumption)
    refine ⟨fun listed A X hI hcl hin hun hall => .inl ⟨(Reg.wanted_some (j := 6) (d := 60) rfl rfl (hI.ev (i := 6) (d := 60) (by rfl) (hall ⟨6, .guard⟩ (by simp) rfl) : A.tmps[60]? = some (.bool true))).trans rfl, ?_⟩, ?_⟩
    · have e61 : A.tmps[61]? = some (.int .i64 0) := hI.ev (i := 7) (d := 61) (by rfl) (hall ⟨7, .data⟩ (by simp) rfl)
      have hX : Below W5.heap.size W5 X := hI.st
      have HX := qhid hX
      clear hI hall hX hcl
      unfold Reg.Yields
      go_simp
      first | rfl | exact ⟨rfl, HX.out⟩ | (refine ⟨?_, HX.out⟩; simp [ss_bgT]; done) | (refine ⟨?_, HX.out⟩; simp [ss_bgT]; assumption)
    refine ⟨fun listed A X hI hcl hin hun hall => .inl ⟨(Reg.wanted_some (j := 6) (d := 60) rfl rfl (hI.ev (i := 6) (d := 60) (by rfl) (hall ⟨6, .guard⟩ (by simp) rfl) : A.tmps[60]? = some (.bool true))).trans rfl, ?_⟩, ?_⟩
    · have e14 := hI.evo (d := 14) (by kernel_rfl) rfl
      have hX : Below W5.heap.size W5 X := hI.st
      have hb := (hX.block _ (Reg.size_of_get HF2.out)).trans HF2.out
      have v0 := Joins.cell_of_block hb 0
      have v1 := Joins.cell_of_block hb 1
      have hyl := Reg.size_of_get hb
      simp only [List.getElem?_toArray, List.getElem?_cons_zero, List.getElem?_cons_succ] at v0 v1
      clear hb
      have HX := qhid hX
      clear hI hall hX hcl
      unfold Reg.Yields
      go_simp
      first | rfl | exact ⟨rfl, HX.out⟩ | (refine ⟨?_, HX.out⟩; simp [ss_bgT]; done) | (refine ⟨?_, HX.out⟩; simp [ss_bgT]; assumption)
    refine ⟨fun listed A X hI hcl hin hun hall => .inl ⟨(Reg.wanted_some (j := 6) (d := 60) rfl rfl (hI.ev (i := 6) (d := 60) (by rfl) (hall ⟨6, .guard⟩ (by simp) rfl) : A.tmps[60]? = some (.bool true))).trans rfl, ?_⟩, ?_⟩
    · have e63 : A.tmps[63]? = some (.pointer (some ⟨w4.heap.size + 1, 1, none⟩)) := hI.ev (i := 9) (d := 63) (by rfl) (hall ⟨9, .data⟩ (by simp) rfl)
      have hX : Below W5.heap.size W5 X := hI.st
      have hb := (hX.block _ (Reg.size_of_get HF2.out)).trans HF2.out
      have v0 := Joins.cell_of_block hb 0
      have v1 := Joins.cell_of_block hb 1
      have hyl := Reg.size_of_get hb
      simp only [List.getElem?_toArray, List.getElem?_cons_zero, List.getElem?_cons_succ] at v0 v1
      clear hb
      have HX := qhid hX
      clear hI hall hX hcl
      unfold Reg.Yields
      go_simp
      first | rfl | exact ⟨rfl, HX.out⟩ | (refine ⟨?_, HX.out⟩; simp [ss_bgT]; done) | (refine ⟨?_, HX.out⟩; simp [ss_bgT]; assumption)
    refine ⟨fun listed A X hI hcl hin hun hall => .inl ⟨(Reg.wanted_some (j := 6) (d := 60) rfl rfl (hI.ev (i := 6) (d := 60) (by rfl) (hall ⟨6, .guard⟩ (by simp) rfl) : A.tmps[60]? = some (.bool true))).trans rfl, ?_⟩, ?_⟩
    · have e64 : A.tmps[64]? = some (.int .i64 0) := hI.ev (i := 10) (d := 64) (by rfl) (hall ⟨10, .data⟩ (by simp) rfl)
      have hX : Below W5.heap.size W5 X := hI.st
      have HX := qhid hX
      clear hI hall hX hcl
      unfold Reg.Yields
      go_simp
      first | rfl | exact ⟨rfl, HX.out⟩ | (refine ⟨?_, HX.out⟩; simp [ss_bgT]; done) | (refine ⟨?_, HX.out⟩; simp [ss_bgT]; assumption)
    refine ⟨fun listed A X hI hcl hin hun hall => .inl ⟨(Reg.wanted_some (j := 6) (d := 60) rfl rfl (hI.ev (i := 6) (d := 60) (by rfl) (hall ⟨6, .guard⟩ (by simp) rfl) : A.tmps[60]? = some (.bool true))).trans rfl, ?_⟩, ?_⟩
    · have e62 : A.tmps[62]? = some (.bool true) := hI.ev (i := 8) (d := 62) (by rfl) (hall ⟨8, .data⟩ (by simp) rfl)
      have e65 : A.tmps[65]? = some (.bool true) := hI.ev (i := 11) (d := 65) (by rfl) (hall ⟨11, .data⟩ (by simp) rfl)
      have hX : Below W5.heap.size W5 X := hI.st
      have HX := qhid hX
      clear hI hall hX hcl
      unfold Reg.Yields
      go_simp
      first | rfl | exact ⟨rfl, HX.out⟩ | (refine ⟨?_, HX.out⟩; simp [ss_bgT]; done) | (refine ⟨?_, HX.out⟩; simp [ss_bgT]; assumption)
    refine ⟨fun listed A X hI hcl hin hun hall => .inl ⟨Reg.wanted_none rfl, ?_⟩, ?_⟩
    · have e60 : A.tmps[60]? = some (.bool true) := hI.ev (i := 6) (d := 60) (by rfl) (hall ⟨6, .data⟩ (by simp) rfl)
      have e66 : A.tmps[66]? = some (.bool true) := hI.ev (i := 12) (d := 66) (by rfl) (hall ⟨12, .data⟩ (by simp) rfl)
      have hX : Below W5.heap.size W5 X := hI.st
      have HX := qhid hX
      clear hI hall hX hcl
      unfold Reg.Yields
      go_simp
      first | rfl | exact ⟨rfl, HX.out⟩ | (refine ⟨?_, HX.out⟩; simp [ss_bgT]; done) | (refine ⟨?_, HX.out⟩; simp [ss_bgT]; assumption)
    refine ⟨fun listed A X hI hcl hin hun hall => .inl ⟨Reg.wanted_none rfl, ?_⟩, ?_⟩
    · have e67 : A.tmps[67]? = some (.bool true) := hI.ev (i := 13) (d := 67) (by rfl) (hall ⟨13, .data⟩ (by simp) rfl)
      have hX : Below W5.heap.size W5 X := hI.st
      have HX := qhid hX
      clear hI hall hX hcl
      unfold Reg.Yields
      go_simp
      first | rfl | exact ⟨rfl, HX.out⟩ | (refine ⟨?_, HX.out⟩; simp [ss_bgT]; done) | (refine ⟨?_, HX.out⟩; simp [ss_bgT]; assumption)
    refine ⟨fun listed A X hI hcl hin hun hall => .inl ⟨(Reg.wanted_some (j := 14) (d := 68) rfl rfl (hI.ev (i := 14) (d := 68) (by rfl) (hall ⟨14, .guard⟩ (by simp) rfl) : A.tmps[68]? = some (.bool true))).trans rfl, ?_⟩, ?_⟩
    · have e5 := hI.evo (d := 5) (by kernel_rfl) rfl
      have hX : Below W5.heap.size W5 X := hI.st
      have HX := qhid hX
      clear hI hall hX hcl
      unfold Reg.Yields
      go_simp
      first | rfl | exact ⟨rfl, HX.out⟩ | (refine ⟨?_, HX.out⟩; simp [ss_bgT]; done) | (refine ⟨?_, HX.out⟩; simp [ss_bgT]; assumption)
    refine ⟨fun listed A X hI hcl hin hun hall => .inl ⟨(Reg.wanted_some (j := 14) (d := 68) rfl rfl (hI.ev (i := 14) (d := 68) (by rfl) (hall ⟨14, .guard⟩ (by simp) rfl) : A.tmps[68]? = some (.bool true))).trans rfl, ?_⟩, ?_⟩
    · have e8 := hI.evo (d := 8) (by kernel_rfl) rfl
      have hX : Below W5.heap.size W5 X := hI.st
      have HX := qhid hX
      clear hI hall hX hcl
      unfold Reg.Yields
      go_simp
      first | rfl | exact ⟨rfl, HX.out⟩ | (refine ⟨?_, HX.out⟩; simp [ss_bgT]; done) | (refine ⟨?_, HX.out⟩; simp [ss_bgT]; assumption)
    refine ⟨fun listed A X hI hcl hin hun hall => .inl ⟨(Reg.wanted_some (j := 14) (d := 68) rfl rfl (hI.ev (i := 14) (d := 68) (by rfl) (hall ⟨14, .guard⟩ (by simp) rfl) : A.tmps[68]? = some (.bool true))).trans rfl, ?_⟩, ?_⟩
    · have e69 : A.tmps[69]? = some (.pointer none) := hI.ev (i := 15) (d := 69) (by rfl) (hall ⟨15, .data⟩ (by simp) rfl)
      have e70 : A.tmps[70]? = some (.pointer (some ⟨b, 0, none⟩)) := hI.ev (i := 16) (d := 70) (by rfl) (hall ⟨16, .data⟩ (by simp) rfl)
      have hX : Below W5.heap.size W5 X := hI.st
      have HX := qhid hX
      clear hI hall hX hcl
      unfold Reg.Yields
      go_simp
      exact (HSN.out X b).mono fun e w'' ⟨he, hb⟩ => ⟨_, he, rfl, HX.out.trans (hb.mono HX.out.size)⟩
    refine ⟨fun listed A X hI hcl hin hun hall => .inl ⟨(Reg.wanted_some (j := 14) (d := 68) rfl rfl (hI.ev (i := 14) (d := 68) (by rfl) (hall ⟨14, .guard⟩ (by simp) rfl) : A.tmps[68]? = some (.bool true))).trans rfl, ?_⟩, ?_⟩
    · have e12 := hI.evo (d := 12) (by kernel_rfl) rfl
      have hX : Below W5.heap.size W5 X := hI.st
      have hb := (hX.block _ (Reg.size_of_get HF1'.out)).trans HF1'.out
      have v0 := Joins.cell_of_block hb 0
      have v1 := Joins.cell_of_block hb 1
      have hyl := Reg.size_of_get hb
      simp only [List.getElem?_toArray, List.getElem?_cons_zero, List.getElem?_cons_succ] at v0 v1
      clear hb
      have HX := qhid hX
      clear hI hall hX hcl
      unfold Reg.Yields
      go_simp
      first | rfl | exact ⟨rfl, HX.out⟩ | (refine ⟨?_, HX.out⟩; simp [ss_bgT]; done) | (refine ⟨?_, HX.out⟩; simp [ss_bgT]; assumption)
    refine ⟨fun listed A X hI hcl hin hun hall => .inl ⟨(Reg.wanted_some (j := 14) (d := 68) rfl rfl (hI.ev (i := 14) (d := 68) (by rfl) (hall ⟨14, .guard⟩ (by simp) rfl) : A.tmps[68]? = some (.bool true))).trans rfl, ?_⟩, ?_⟩
    · have e72 : A.tmps[72]? = some (.pointer (some ⟨w3.heap.size + 1, 1, none⟩)) := hI.ev (i := 18) (d := 72) (by rfl) (hall ⟨18, .data⟩ (by simp) rfl)
      have hX : Below W5.heap.size W5 X := hI.st
      have hb := (hX.block _ (Reg.size_of_get HF1'.out)).trans HF1'.out
      have v0 := Joins.cell_of_block hb 0
      have v1 := Joins.cell_of_block hb 1
      have hyl := Reg.size_of_get hb
      simp only [List.getElem?_toArray, List.getElem?_cons_zero, List.getElem?_cons_succ] at v0 v1
      clear hb
      have HX := qhid hX
      clear hI hall hX hcl
      unfold Reg.Yields
      go_simp
      first | rfl | exact ⟨rfl, HX.out⟩ | (refine ⟨?_, HX.out⟩; simp [ss_bgT]; done) | (refine ⟨?_, HX.out⟩; simp [ss_bgT]; assumption)
    refine ⟨fun listed A X hI hcl hin hun hall => .inl ⟨(Reg.wanted_some (j := 14) (d := 68) rfl rfl (hI.ev (i := 14) (d := 68) (by rfl) (hall ⟨14, .guard⟩ (by simp) rfl) : A.tmps[68]? = some (.bool true))).trans rfl, ?_⟩, ?_⟩
    · have e73 : A.tmps[73]? = some (.int .i64 e1) := hI.ev (i := 19) (d := 73) (by rfl) (hall ⟨19, .data⟩ (by simp) rfl)
      have hX : Below W5.heap.size W5 X := hI.st
      have HX := qhid hX
      clear hI hall hX hcl
      unfold Reg.Yields
      go_simp
      first | rfl | exact ⟨rfl, HX.out⟩ | (refine ⟨?_, HX.out⟩; simp [ss_bgT]; done) | (refine ⟨?_, HX.out⟩; simp [ss_bgT]; assumption)
    refine ⟨fun listed A X hI hcl hin hun hall => .inl ⟨(Reg.wanted_some (j := 14) (d := 68) rfl rfl (hI.ev (i := 14) (d := 68) (by rfl) (hall ⟨14, .guard⟩ (by simp) rfl) : A.tmps[68]? = some (.bool true))).trans rfl, ?_⟩, ?_⟩
    · have e74 : A.tmps[74]? = some (.bool true) := hI.ev (i := 20) (d := 74) (by rfl) (hall ⟨20, .data⟩ (by simp) rfl)
      have hX : Below W5.heap.size W5 X := hI.st
      have HX := qhid hX
      clear hI hall hX hcl
      unfold Reg.Yields
      go_simp
      first | rfl | exact ⟨rfl, HX.out⟩ | (refine ⟨?_, HX.out⟩; simp [ss_bgT]; done) | (refine ⟨?_, HX.out⟩; simp [ss_bgT]; assumption)
    refine ⟨fun listed A X hI hcl hin hun hall => .inl ⟨(Reg.wanted_some (j := 21) (d := 75) rfl rfl (hI.ev (i := 21) (d := 75) (by rfl) (hall ⟨21, .guard⟩ (by simp) rfl) : A.tmps[75]? = some (.bool true))).trans rfl, ?_⟩, ?_⟩
    · have e14 := hI.evo (d := 14) (by kernel_rfl) rfl
      have hX : Below W5.heap.size W5 X := hI.st
      have hb := (hX.block _ (Reg.size_of_get HF2.out)).trans HF2.out
      have v0 := Joins.cell_of_block hb 0
      have v1 := Joins.cell_of_block hb 1
      have hyl := Reg.size_of_get hb
      simp only [List.getElem?_toArray, List.getElem?_cons_zero, List.getElem?_cons_succ] at v0 v1
      clear hb
      have HX := qhid hX
      clear hI hall hX hcl
      unfold Reg.Yields
      go_simp
      first | rfl | exact ⟨rfl, HX.out⟩ | (refine ⟨?_, HX.out⟩; simp [ss_bgT]; done) | (refine ⟨?_, HX.out⟩; simp [ss_bgT]; assumption)
    refine ⟨fun listed A X hI hcl hin hun hall => .inl ⟨(Reg.wanted_some (j := 21) (d := 75) rfl rfl (hI.ev (i := 21) (d := 75) (by rfl) (hall ⟨21, .guard⟩ (by simp) rfl) : A.tmps[75]? = some (.bool true))).trans rfl, ?_⟩, ?_⟩
    · have e76 : A.tmps[76]? = some (.pointer (some ⟨w4.heap.size + 1, 1, none⟩)) := hI.ev (i := 22) (d := 76) (by rfl) (hall ⟨22, .data⟩ (by simp) rfl)
      have hX : Below W5.heap.size W5 X := hI.st
      have hb := (hX.block _ (Reg.size_of_get HF2.out)).trans HF2.out
      have v0 := Joins.cell_of_block hb 0
      have v1 := Joins.cell_of_block hb 1
      have hyl := Reg.size_of_get hb
      simp only [List.getElem?_toArray, List.getElem?_cons_zero, List.getElem?_cons_succ] at v0 v1
      clear hb
      have HX := qhid hX
      clear hI hall hX hcl
      unfold Reg.Yields
      go_simp
      first | rfl | exact ⟨rfl, HX.out⟩ | (refine ⟨?_, HX.out⟩; simp [ss_bgT]; done) | (refine ⟨?_, HX.out⟩; simp [ss_bgT]; assumption)
    refine ⟨fun listed A X hI hcl hin hun hall => .inl ⟨(Reg.wanted_some (j := 21) (d := 75) rfl rfl (hI.ev (i := 21) (d := 75) (by rfl) (hall ⟨21, .guard⟩ (by simp) rfl) : A.tmps[75]? = some (.bool true))).trans rfl, ?_⟩, ?_⟩
    · have e77 : A.tmps[77]? = some (.int .i64 0) := hI.ev (i := 23) (d := 77) (by rfl) (hall ⟨23, .data⟩ (by simp) rfl)
      have hX : Below W5.heap.size W5 X := hI.st
      have HX := qhid hX
      clear hI hall hX hcl
      unfold Reg.Yields
      go_simp
      first | rfl | exact ⟨rfl, HX.out⟩ | (refine ⟨?_, HX.out⟩; simp [ss_bgT]; done) | (refine ⟨?_, HX.out⟩; simp [ss_bgT]; assumption)
    refine ⟨fun listed A X hI hcl hin hun hall => .inl ⟨(Reg.wanted_some (j := 14) (d := 68) rfl rfl (hI.ev (i := 14) (d := 68) (by rfl) (hall ⟨14, .guard⟩ (by simp) rfl) : A.tmps[68]? = some (.bool true))).trans rfl, ?_⟩, ?_⟩
    · have e75 : A.tmps[75]? = some (.bool true) := hI.ev (i := 21) (d := 75) (by rfl) (hall ⟨21, .data⟩ (by simp) rfl)
      have e78 : A.tmps[78]? = some (.bool false) := hI.ev (i := 24) (d := 78) (by rfl) (hall ⟨24, .data⟩ (by simp) rfl)
      have hX : Below W5.heap.size W5 X := hI.st
      have HX := qhid hX
      clear hI hall hX hcl
      unfold Reg.Yields
      go_simp
      first | rfl | exact ⟨rfl, HX.out⟩ | (refine ⟨?_, HX.out⟩; simp [ss_bgT]; done) | (refine ⟨?_, HX.out⟩; simp [ss_bgT]; assumption)
    refine ⟨fun listed A X hI hcl hin hun hall => .inl ⟨(Reg.wanted_some (j := 14) (d := 68) rfl rfl (hI.ev (i := 14) (d := 68) (by rfl) (hall ⟨14, .guard⟩ (by simp) rfl) : A.tmps[68]? = some (.bool true))).trans rfl, ?_⟩, ?_⟩
    · have e71 : A.tmps[71]? = some (.bool false) := hI.ev (i := 17) (d := 71) (by rfl) (hall ⟨17, .data⟩ (by simp) rfl)
      have e79 : A.tmps[79]? = some (.bool false) := hI.ev (i := 25) (d := 79) (by rfl) (hall ⟨25, .data⟩ (by simp) rfl)
      have hX : Below W5.heap.size W5 X := hI.st
      have HX := qhid hX
      clear hI hall hX hcl
      unfold Reg.Yields
      go_simp
      first | rfl | exact ⟨rfl, HX.out⟩ | (refine ⟨?_, HX.out⟩; simp [ss_bgT]; done) | (refine ⟨?_, HX.out⟩; simp [ss_bgT]; assumption)
    refine ⟨fun listed A X hI hcl hin hun hall => .inl ⟨Reg.wanted_none rfl, ?_⟩, ?_⟩
    · have e68 : A.tmps[68]? = some (.bool true) := hI.ev (i := 14) (d := 68) (by rfl) (hall ⟨14, .data⟩ (by simp) rfl)
      have e80 : A.tmps[80]? = some (.bool true) := hI.ev (i := 26) (d := 80) (by rfl) (hall ⟨26, .data⟩ (by simp) rfl)
      have hX : Below W5.heap.size W5 X := hI.st
      have HX := qhid hX
      clear hI hall hX hcl
      unfold Reg.Yields
      go_simp
      first | rfl | exact ⟨rfl, HX.out⟩ | (refine ⟨?_, HX.out⟩; simp [ss_bgT]; done) | (refine ⟨?_, HX.out⟩; simp [ss_bgT]; assumption)
    refine ⟨fun listed A X hI hcl hin hun hall => .inl ⟨Reg.wanted_none rfl, ?_⟩, ?_⟩
    · have e81 : A.tmps[81]? = some (.bool true) := hI.ev (i := 27) (d := 81) (by rfl) (hall ⟨27, .data⟩ (by simp) rfl)
      have hX : Below W5.heap.size W5 X := hI.st
      have HX := qhid hX
      clear hI hall hX hcl
      unfold Reg.Yields
      go_simp
      first | rfl | exact ⟨rfl, HX.out⟩ | (refine ⟨?_, HX.out⟩; simp [ss_bgT]; done) | (refine ⟨?_, HX.out⟩; simp [ss_bgT]; assumption)
    refine ⟨fun listed A X hI hcl hin hun hall => .inl ⟨(Reg.wanted_some (j := 28) (d := 82) rfl rfl (hI.ev (i := 28) (d := 82) (by rfl) (hall ⟨28, .guard⟩ (by simp) rfl) : A.tmps[82]? = some (.bool true))).trans rfl, ?_⟩, ?_⟩
    · have hX : Below W5.heap.size W5 X := hI.st
      have HX := qhid hX
      clear hI hall hX hcl
      unfold Reg.Yields
      go_simp
      exact (HAW.out X (HB5.out.trans (HX.out.mono HB5.out.size))).mono fun e w'' ⟨he, hb⟩ => ⟨_, he, rfl, HX.out.trans (hb.mono HX.out.size)⟩
    refine ⟨fun listed A X hI hcl hin hun hall => .inl ⟨Reg.wanted_none rfl, ?_⟩, ?_⟩
    · have e82 : A.tmps[82]? = some (.bool true) := hI.ev (i := 28) (d := 82) (by rfl) (hall ⟨28, .data⟩ (by simp) rfl)
      have e83 : A.tmps[83]? = some (.bool true) := hI.ev (i := 29) (d := 83) (by rfl) (hall ⟨29, .data⟩ (by simp) rfl)
      have hX : Below W5.heap.size W5 X := hI.st
      have HX := qhid hX
      clear hI hall hX hcl
      unfold Reg.Yields
      go_simp
      first | rfl | exact ⟨rfl, HX.out⟩ | (refine ⟨?_, HX.out⟩; simp [ss_bgT]; done) | (refine ⟨?_, HX.out⟩; simp [ss_bgT]; assumption)
    refine ⟨fun listed A X hI hcl hin hun hall => .inl ⟨Reg.wanted_none rfl, ?_⟩, ?_⟩
    · have e84 : A.tmps[84]? = some (.bool true) := hI.ev (i := 30) (d := 84) (by rfl) (hall ⟨30, .data⟩ (by simp) rfl)
      have hX : Below W5.heap.size W5 X := hI.st
      have HX := qhid hX
      clear hI hall hX hcl
      unfold Reg.Yields
      go_simp
      first | rfl | exact ⟨rfl, HX.out⟩ | (refine ⟨?_, HX.out⟩; simp [ss_bgT]; done) | (refine ⟨?_, HX.out⟩; simp [ss_bgT]; assumption)
    trivial
  · intro X hS
    have HX := qhid hS
    clear hS
    simp [Reg.finalTmps, Reg.dstAt, Reg.valOf, ss_bgT]
    have HBX := qhid (HB5.out.trans (HX.out.mono HB5.out.size))
    go_wp2_with fail
    go_ret
    exact ⟨rfl, HBX.out⟩
def ss_bbT (h1 h2 : Nat) (e1 : Int) (e2 : Int) : Nat → Value
  | 0 => .int .i64 e1
  | 1 => .bool false
  | 2 => .pointer (some ⟨h1 + 1, 1, none⟩)
  | 3 => .int .i64 e1
  | 4 => .bool false
  | 5 => .bool true
  | 6 => .bool true
  | 7 => .int .i64 e2
  | 8 => .bool false
  | 9 => .pointer (some ⟨h2 + 1, 1, none⟩)
  | 10 => .int .i64 e2
  | 11 => .bool false
  | 12 => .bool true
  | 13 => .bool true
  | 14 => .bool true
  | 15 => .pointer none
  | 16 => .pointer none
  | 17 => .bool true
  | 18 => .pointer (some ⟨h1 + 1, 1, none⟩)
  | 19 => .int .i64 e1
  | 20 => .bool true
  | 21 => .bool true
  | 22 => .pointer (some ⟨h2 + 1, 1, none⟩)
  | 23 => .int .i64 e2
  | 24 => .bool true
  | 25 => .bool true
  | 26 => .bool true
  | 27 => .bool true
  | 28 => .bool true
  | 29 => .bool true
  | 30 => .bool true
  | 31 => .bool true
  | _ => undef
set_option maxRecDepth 100000 in
set_option maxHeartbeats 8000000 in
theorem ss_bb (s r : ByteArray) (e1 at1 : Int) (he1 : e1 ≠ 0) (e2 at2 : Int) (he2 : e2 ≠ 0) (hs : s.size ≤ 200) (hr : r.size ≤ 200) (w : World)
    (PA1 : Calls Tryd.prog 5 #[.string s] w fun x w' => ParseOut w w' (e1, at1, none) x)
    (RP1 : ∀ X, Calls Tryd.prog 6 #[.string s] X fun x w' => x = .returned (.tuple #[.agg #[.int .i64 0, .int .u64 0, .int .u64 0, .int .u64 0, .int .u64 0, .int .i64 0, .int .i64 0, .bool false, .slice none 0 0, .int .i64 0, .int .i64 0], .agg #[.int .i64 at1, .int .i64 e1]]) ∧ Below X.heap.size X w')
    (PA2 : ∀ X, Below w.heap.size w X → Calls Tryd.prog 5 #[.string r] X fun x w' => ParseOut X w' (e2, at2, none) x)
    (RP2 : ∀ X, Calls Tryd.prog 6 #[.string r] X fun x w' => x = .returned (.tuple #[.agg #[.int .i64 0, .int .u64 0, .int .u64 0, .int .u64 0, .int .u64 0, .int .i64 0, .int .i64 0, .bool false, .slice none 0 0, .int .i64 0, .int .i64 0], .agg #[.int .i64 at2, .int .i64 e2]]) ∧ Below X.heap.size X w')
    (AW : ∀ X, Below w.heap.size w X → Calls Tryd.prog 4 #[] X fun e w' => e = .returned (.bool true) ∧ Below X.heap.size X w') :
    Calls Tryd.prog 3 #[.string s, .string r] w fun x w' => x = .returned (.bool true) ∧ Below w.heap.size w w' := by
  have HSN := qhid (fun X => ssame_nn X)
  have HPA1 := qhid PA1
  have HRP1 := qhid RP1
  have HPA2 := qhid PA2
  have HRP2 := qhid RP2
  have HAW := qhid AW
  have h1 : decide ((200 : Int) < (s.size : Int)) = false := decide_eq_false (by omega)
  have h2 : decide ((200 : Int) < (r.size : Int)) = false := decide_eq_false (by omega)
  have h3 : (s.size : Int) ≤ 200 := by omega
  have h4 : (r.size : Int) ≤ 200 := by omega
  have q1 : ((e1 : Int) == 0) = false := by simpa using he1
  have u1 : ((e1 : Int) != 0) = true := by simpa using he1
  have q2 : ((e2 : Int) == 0) = false := by simpa using he2
  have u2 : ((e2 : Int) != 0) = true := by simpa using he2
  clear PA1 RP1 PA2 RP2 AW hs hr he1 he2
  go_enter Tryd.func3, Tryd.ntmps3
  go_wp2_with fail
  refine HPA1.out.mono ?_
  rintro x w1 ⟨v, rfl, hv, hb⟩
  have hv : v = .pointer none := hv
  subst hv
  have HB1 := qhid hb
  clear hb HPA1
  go_wp2_with fail
  refine (HPA2.out w1 HB1.out).mono ?_
  rintro x w2 ⟨v, rfl, hv, hb⟩
  have hv : v = .pointer none := hv
  subst hv
  have HB2 := qhid (HB1.out.trans (hb.mono HB1.out.size))
  clear hb HPA2 HB1
  go_wp2_with fail
  refine (HRP1.out w2).mono ?_
  rintro x w3 ⟨rfl, hb⟩
  obtain ⟨W3, hW⟩ : ∃ X, X = (w3.alloc (.cells #[.int .i64 0, .int .u64 0, .int .u64 0, .int .u64 0, .int .u64 0, .int .i64 0, .int .i64 0, .bool false, .slice none 0 0, .int .i64 0, .int .i64 0] 32)).alloc (.cells #[.int .i64 at1, .int .i64 e1] 34) := ⟨_, rfl⟩
  have b3 : Below w3.heap.size w3 W3 := by rw [hW]; exact below2 w3 _ _
  have HN1 : Hid (W3.heap[w3.heap.size]? = some (.cells #[.int .i64 0, .int .u64 0, .int .u64 0, .int .u64 0, .int .u64 0, .int .i64 0, .int .i64 0, .bool false, .slice none 0 0, .int .i64 0, .int .i64 0] 32)) := qhid (by rw [hW]; exact below_kept (below1 _ _) (heap_new w3 (.cells #[.int .i64 0, .int .u64 0, .int .u64 0, .int .u64 0, .int .u64 0, .int .i64 0, .int .i64 0, .bool false, .slice none 0 0, .int .i64 0, .int .i64 0] 32)))
  have HF1 : Hid (W3.heap[w3.heap.size + 1]? = some (.cells #[.int .i64 at1, .int .i64 e1] 34)) := qhid (by have h := heap_new (w3.alloc (.cells #[.int .i64 0, .int .u64 0, .int .u64 0, .int .u64 0, .int .u64 0, .int .i64 0, .int .i64 0, .bool false, .slice none 0 0, .int .i64 0, .int .i64 0] 32)) (.cells #[.int .i64 at1, .int .i64 e1] 34); rw [World.size_alloc] at h; rw [hW]; exact h)
  have hbx : Below w2.heap.size w2 W3 := hb.trans (b3.mono hb.size)
  clear HRP1
  go_upto_region 6 with fail
  change Code.wp _ _ _ _ ((w3.alloc (.cells #[.int .i64 0, .int .u64 0, .int .u64 0, .int .u64 0, .int .u64 0, .int .i64 0, .int .i64 0, .bool false, .slice none 0 0, .int .i64 0, .int .i64 0] 32)).alloc (.cells #[.int .i64 at1, .int .i64 e1] 34))
  rw [← hW]
  have HB3 := qhid (HB2.out.trans (hbx.mono HB2.out.size))
  clear hW hb b3 hbx HB2
  go_wp2_with fail
  refine (HRP2.out W3).mono ?_
  rintro x w4 ⟨rfl, hb⟩
  obtain ⟨W5, hW⟩ : ∃ X, X = (w4.alloc (.cells #[.int .i64 0, .int .u64 0, .int .u64 0, .int .u64 0, .int .u64 0, .int .i64 0, .int .i64 0, .bool false, .slice none 0 0, .int .i64 0, .int .i64 0] 32)).alloc (.cells #[.int .i64 at2, .int .i64 e2] 34) := ⟨_, rfl⟩
  have b3 : Below w4.heap.size w4 W5 := by rw [hW]; exact below2 w4 _ _
  have HN2 : Hid (W5.heap[w4.heap.size]? = some (.cells #[.int .i64 0, .int .u64 0, .int .u64 0, .int .u64 0, .int .u64 0, .int .i64 0, .int .i64 0, .bool false, .slice none 0 0, .int .i64 0, .int .i64 0] 32)) := qhid (by rw [hW]; exact below_kept (below1 _ _) (heap_new w4 (.cells #[.int .i64 0, .int .u64 0, .int .u64 0, .int .u64 0, .int .u64 0, .int .i64 0, .int .i64 0, .bool false, .slice none 0 0, .int .i64 0, .int .i64 0] 32)))
  have HF2 : Hid (W5.heap[w4.heap.size + 1]? = some (.cells #[.int .i64 at2, .int .i64 e2] 34)) := qhid (by have h := heap_new (w4.alloc (.cells #[.int .i64 0, .int .u64 0, .int .u64 0, .int .u64 0, .int .u64 0, .int .i64 0, .int .i64 0, .bool false, .slice none 0 0, .int .i64 0, .int .i64 0] 32)) (.cells #[.int .i64 at2, .int .i64 e2] 34); rw [World.size_alloc] at h; rw [hW]; exact h)
  have hbx : Below W3.heap.size W3 W5 := hb.trans (b3.mono hb.size)
  clear HRP2
  go_upto_region 7 with fail
  change Code.wp _ _ _ _ ((w4.alloc (.cells #[.int .i64 0, .int .u64 0, .int .u64 0, .int .u64 0, .int .u64 0, .int .i64 0, .int .i64 0, .bool false, .slice none 0 0, .int .i64 0, .int .i64 0] 32)).alloc (.cells #[.int .i64 at2, .int .i64 e2] 34))
  rw [← hW]
  have HB5 := qhid (HB3.out.trans (hbx.mono HB3.out.size))
  have HN1' := qhid (below_kept hbx HN1.out)
  have HF1' := qhid (below_kept hbx HF1.out)
  clear HN1 HF1 hW hb b3 hbx HB3
  have c0 := Joins.cell_of_block HF1'.out 0
  have c1 := Joins.cell_of_block HF1'.out 1
  have d0 := Joins.cell_of_block HF2.out 0
  have d1 := Joins.cell_of_block HF2.out 1
  have hc := Reg.size_of_get HF1'.out
  have hd := Reg.size_of_get HF2.out
  simp only [List.getElem?_toArray, List.getElem?_cons_zero, List.getElem?_cons_succ] at c0 c1 d0 d1
  go_upto_region 8 with fail
  clear c0 c1 d0 d1 hc hd
  refine Reg.wp_region_C (ss_bbT w3.heap.size w4.heap.size e1 e2) (fun _ X => Below W5.heap.size W5 X) [0, 1, 2, 3, 4, 5, 6, 7, 8, 9, 10, 11, 12, 13, 14, 15, 16, 17, 18, 19, 20, 21, 22, 23, 24, 25, 26, 27, 28, 29, 30, 31] (by rfl) (by kernel_rfl) (by kernel_rfl) ?_ ?_ ?_
  · exact Below.drew (Below.refl _ _)
  · skip
    refine ⟨fun listed A X hI hcl hin hun hall => .inl ⟨Reg.wanted_none rfl, ?_⟩, ?_⟩
    · have e7 := hI.evo (d := 7) (by kernel_rfl) rfl
      have hX : Below W5.heap.size W5 X := hI.st
      have HX := qhid hX
      clear hI hall hX hcl
      unfold Reg.Yields
      go_simp
      first | rfl | exact ⟨rfl, HX.out⟩ | (refine ⟨?_, HX.out⟩; simp [ss_bbT]; done) | (refine ⟨?_, HX.out⟩; simp [ss_bbT]; assumption)
    refine ⟨fun listed A X hI hcl hin hun hall => .inl ⟨Reg.wanted_none rfl, ?_⟩, ?_⟩
    · have e54 : A.tmps[54]? = some (.int .i64 e1) := hI.ev (i := 0) (d := 54) (by rfl) (hall ⟨0, .data⟩ (by simp) rfl)
      have hX : Below W5.heap.size W5 X := hI.st
      have HX := qhid hX
      clear hI hall hX hcl
      unfold Reg.Yields
      go_simp
      first | rfl | exact ⟨rfl, HX.out⟩ | (refine ⟨?_, HX.out⟩; simp [ss_bbT]; done) | (refine ⟨?_, HX.out⟩; simp [ss_bbT]; assumption)
    refine ⟨fun listed A X hI hcl hin hun hall => .inl ⟨Reg.wanted_none rfl, ?_⟩, ?_⟩
    · have e12 := hI.evo (d := 12) (by kernel_rfl) rfl
      have hX : Below W5.heap.size W5 X := hI.st
      have hb := (hX.block _ (Reg.size_of_get HF1'.out)).trans HF1'.out
      have v0 := Joins.cell_of_block hb 0
      have v1 := Joins.cell_of_block hb 1
      have hyl := Reg.size_of_get hb
      simp only [List.getElem?_toArray, List.getElem?_cons_zero, List.getElem?_cons_succ] at v0 v1
      clear hb
      have HX := qhid hX
      clear hI hall hX hcl
      unfold Reg.Yields
      go_simp
      first | rfl | exact ⟨rfl, HX.out⟩ | (refine ⟨?_, HX.out⟩; simp [ss_bbT]; done) | (refine ⟨?_, HX.out⟩; simp [ss_bbT]; assumption)
    refine ⟨fun listed A X hI hcl hin hun hall => .inl ⟨Reg.wanted_none rfl, ?_⟩, ?_⟩
    · have e56 : A.tmps[56]? = some (.pointer (some ⟨w3.heap.size + 1, 1, none⟩)) := hI.ev (i := 2) (d := 56) (by rfl) (hall ⟨2, .data⟩ (by simp) rfl)
      have hX : Below W5.heap.size W5 X := hI.st
      have hb := (hX.block _ (Reg.size_of_get HF1'.out)).trans HF1'.out
      have v0 := Joins.cell_of_block hb 0
      have v1 := Joins.cell_of_block hb 1
      have hyl := Reg.size_of_get hb
      simp only [List.getElem?_toArray, List.getElem?_cons_zero, List.getElem?_cons_succ] at v0 v1
      clear hb
      have HX := qhid hX
      clear hI hall hX hcl
      unfold Reg.Yields
      go_simp
      first | rfl | exact ⟨rfl, HX.out⟩ | (refine ⟨?_, HX.out⟩; simp [ss_bbT]; done) | (refine ⟨?_, HX.out⟩; simp [ss_bbT]; assumption)
    refine ⟨fun listed A X hI hcl hin hun hall => .inl ⟨Reg.wanted_none rfl, ?_⟩, ?_⟩
    · have e57 : A.tmps[57]? = some (.int .i64 e1) := hI.ev (i := 3) (d := 57) (by rfl) (hall ⟨3, .data⟩ (by simp) rfl)
      have hX : Below W5.heap.size W5 X := hI.st
      have HX := qhid hX
      clear hI hall hX hcl
      unfold Reg.Yields
      go_simp
      first | rfl | exact ⟨rfl, HX.out⟩ | (refine ⟨?_, HX.out⟩; simp [ss_bbT]; done) | (refine ⟨?_, HX.out⟩; simp [ss_bbT]; assumption)
    refine ⟨fun listed A X hI hcl hin hun hall => .inl ⟨Reg.wanted_none rfl, ?_⟩, ?_⟩
    · have e55 : A.tmps[55]? = some (.bool false) := hI.ev (i := 1) (d := 55) (by rfl) (hall ⟨1, .data⟩ (by simp) rfl)
      have e58 : A.tmps[58]? = some (.bool false) := hI.ev (i := 4) (d := 58) (by rfl) (hall ⟨4, .data⟩ (by simp) rfl)
      have hX : Below W5.heap.size W5 X := hI.st
      have HX := qhid hX
      clear hI hall hX hcl
      unfold Reg.Yields
      go_simp
      first | rfl | exact ⟨rfl, HX.out⟩ | (refine ⟨?_, HX.out⟩; simp [ss_bbT]; done) | (refine ⟨?_, HX.out⟩; simp [ss_bbT]; assumption)
    refine ⟨fun listed A X hI hcl hin hun hall => .inl ⟨Reg.wanted_none rfl, ?_⟩, ?_⟩
    · have e59 : A.tmps[59]? = some (.bool true) := hI.ev (i := 5) (d := 59) (by rfl) (hall ⟨5, .data⟩ (by simp) rfl)
      have hX : Below W5.heap.size W5 X := hI.st
      have HX := qhid hX
      clear hI hall hX hcl
      unfold Reg.Yields
      go_simp
      first | rfl | exact ⟨rfl, HX.out⟩ | (refine ⟨?_, HX.out⟩; simp [ss_bbT]; done) | (refine ⟨?_, HX.out⟩; simp [ss_bbT]; assumption)
    refine ⟨fun listed A X hI hcl hin hun hall => .inl ⟨(Reg.wanted_some (j := 6) (d := 60) rfl rfl (hI.ev (i := 6) (d := 60) (by rfl) (hall ⟨6, .guard⟩ (by simp) rfl) : A.tmps[60]? = some (.bool true))).trans rfl, ?_⟩, ?_⟩
    · have e10 := hI.evo (d := 10) (by kernel_rfl) rfl
      have hX : Below W5.heap.size W5 X := hI.st
      have HX := qhid hX
      clear hI hall hX hcl
      unfold Reg.Yields
      go_simp
      first | rfl | exact ⟨rfl, HX.out⟩ | (refine ⟨?_, HX.out⟩; simp [ss_bbT]; done) | (refine ⟨?_, HX.out⟩; simp [ss_bbT]; assumption)
    refine ⟨fun listed A X hI hcl hin hun hall => .inl ⟨(Reg.wanted_some (j := 6) (d := 60) rfl rfl (hI.ev (i := 6) (d := 60) (by rfl) (hall ⟨6, .guard⟩ (by simp) rfl) : A.tmps[60]? = some (.bool true))).trans rfl, ?_⟩, ?_⟩
    · have e61 : A.tmps[61]? = some (.int .i64 e2) := hI.ev (i := 7) (d := 61) (by rfl) (hall ⟨7, .data⟩ (by simp) rfl)
      have hX : Below W5.heap.size W5 X := hI.st
      have HX := qhid hX
      clear hI hall hX hcl
      unfold Reg.Yields
      go_simp
      first | rfl | exact ⟨rfl, HX.out⟩ | (refine ⟨?_, HX.out⟩; simp [ss_bbT]; done) | (refine ⟨?_, HX.out⟩; simp [ss_bbT]; assumption)
    refine ⟨fun listed A X hI hcl hin hun hall => .inl ⟨(Reg.wanted_some (j := 6) (d := 60) rfl rfl (hI.ev (i := 6) (d := 60) (by rfl) (hall ⟨6, .guard⟩ (by simp) rfl) : A.tmps[60]? = some (.bool true))).trans rfl, ?_⟩, ?_⟩
    · have e14 := hI.evo (d := 14) (by kernel_rfl) rfl
      have hX : Below W5.heap.size W5 X := hI.st
      have hb := (hX.block _ (Reg.size_of_get HF2.out)).trans HF2.out
      have v0 := Joins.cell_of_block hb 0
      have v1 := Joins.cell_of_block hb 1
      have hyl := Reg.size_of_get hb
      simp only [List.getElem?_toArray, List.getElem?_cons_zero, List.getElem?_cons_succ] at v0 v1
      clear hb
      have HX := qhid hX
      clear hI hall hX hcl
      unfold Reg.Yields
      go_simp
      first | rfl | exact ⟨rfl, HX.out⟩ | (refine ⟨?_, HX.out⟩; simp [ss_bbT]; done) | (refine ⟨?_, HX.out⟩; simp [ss_bbT]; assumption)
    refine ⟨fun listed A X hI hcl hin hun hall => .inl ⟨(Reg.wanted_some (j := 6) (d := 60) rfl rfl (hI.ev (i := 6) (d := 60) (by rfl) (hall ⟨6, .guard⟩ (by simp) rfl) : A.tmps[60]? = some (.bool true))).trans rfl, ?_⟩, ?_⟩
    · have e63 : A.tmps[63]? = some (.pointer (some ⟨w4.heap.size + 1, 1, none⟩)) := hI.ev (i := 9) (d := 63) (by rfl) (hall ⟨9, .data⟩ (by simp) rfl)
      have hX : Below W5.heap.size W5 X := hI.st
      have hb := (hX.block _ (Reg.size_of_get HF2.out)).trans HF2.out
      have v0 := Joins.cell_of_block hb 0
      have v1 := Joins.cell_of_block hb 1
      have hyl := Reg.size_of_get hb
      simp only [List.getElem?_toArray, List.getElem?_cons_zero, List.getElem?_cons_succ] at v0 v1
      clear hb
      have HX := qhid hX
      clear hI hall hX hcl
      unfold Reg.Yields
      go_simp
      first | rfl | exact ⟨rfl, HX.out⟩ | (refine ⟨?_, HX.out⟩; simp [ss_bbT]; done) | (refine ⟨?_, HX.out⟩; simp [ss_bbT]; assumption)
    refine ⟨fun listed A X hI hcl hin hun hall => .inl ⟨(Reg.wanted_some (j := 6) (d := 60) rfl rfl (hI.ev (i := 6) (d := 60) (by rfl) (hall ⟨6, .guard⟩ (by simp) rfl) : A.tmps[60]? = some (.bool true))).trans rfl, ?_⟩, ?_⟩
    · have e64 : A.tmps[64]? = some (.int .i64 e2) := hI.ev (i := 10) (d := 64) (by rfl) (hall ⟨10, .data⟩ (by simp) rfl)
      have hX : Below W5.heap.size W5 X := hI.st
      have HX := qhid hX
      clear hI hall hX hcl
      unfold Reg.Yields
      go_simp
      first | rfl | exact ⟨rfl, HX.out⟩ | (refine ⟨?_, HX.out⟩; simp [ss_bbT]; done) | (refine ⟨?_, HX.out⟩; simp [ss_bbT]; assumption)
    refine ⟨fun listed A X hI hcl hin hun hall => .inl ⟨(Reg.wanted_some (j := 6) (d := 60) rfl rfl (hI.ev (i := 6) (d := 60) (by rfl) (hall ⟨6, .guard⟩ (by simp) rfl) : A.tmps[60]? = some (.bool true))).trans rfl, ?_⟩, ?_⟩
    · have e62 : A.tmps[62]? = some (.bool false) := hI.ev (i := 8) (d := 62) (by rfl) (hall ⟨8, .data⟩ (by simp) rfl)
      have e65 : A.tmps[65]? = some (.bool false) := hI.ev (i := 11) (d := 65) (by rfl) (hall ⟨11, .data⟩ (by simp) rfl)
      have hX : Below W5.heap.size W5 X := hI.st
      have HX := qhid hX
      clear hI hall hX hcl
      unfold Reg.Yields
      go_simp
      first | rfl | exact ⟨rfl, HX.out⟩ | (refine ⟨?_, HX.out⟩; simp [ss_bbT]; done) | (refine ⟨?_, HX.out⟩; simp [ss_bbT]; assumption)
    refine ⟨fun listed A X hI hcl hin hun hall => .inl ⟨Reg.wanted_none rfl, ?_⟩, ?_⟩
    · have e60 : A.tmps[60]? = some (.bool true) := hI.ev (i := 6) (d := 60) (by rfl) (hall ⟨6, .data⟩ (by simp) rfl)
      have e66 : A.tmps[66]? = some (.bool true) := hI.ev (i := 12) (d := 66) (by rfl) (hall ⟨12, .data⟩ (by simp) rfl)
      have hX : Below W5.heap.size W5 X := hI.st
      have HX := qhid hX
      clear hI hall hX hcl
      unfold Reg.Yields
      go_simp
      first | rfl | exact ⟨rfl, HX.out⟩ | (refine ⟨?_, HX.out⟩; simp [ss_bbT]; done) | (refine ⟨?_, HX.out⟩; simp [ss_bbT]; assumption)
    refine ⟨fun listed A X hI hcl hin hun hall => .inl ⟨Reg.wanted_none rfl, ?_⟩, ?_⟩
    · have e67 : A.tmps[67]? = some (.bool true) := hI.ev (i := 13) (d := 67) (by rfl) (hall ⟨13, .data⟩ (by simp) rfl)
      have hX : Below W5.heap.size W5 X := hI.st
      have HX := qhid hX
      clear hI hall hX hcl
      unfold Reg.Yields
      go_simp
      first | rfl | exact ⟨rfl, HX.out⟩ | (refine ⟨?_, HX.out⟩; simp [ss_bbT]; done) | (refine ⟨?_, HX.out⟩; simp [ss_bbT]; assumption)
    refine ⟨fun listed A X hI hcl hin hun hall => .inl ⟨(Reg.wanted_some (j := 14) (d := 68) rfl rfl (hI.ev (i := 14) (d := 68) (by rfl) (hall ⟨14, .guard⟩ (by simp) rfl) : A.tmps[68]? = some (.bool true))).trans rfl, ?_⟩, ?_⟩
    · have e5 := hI.evo (d := 5) (by kernel_rfl) rfl
      have hX : Below W5.heap.size W5 X := hI.st
      have HX := qhid hX
      clear hI hall hX hcl
      unfold Reg.Yields
      go_simp
      first | rfl | exact ⟨rfl, HX.out⟩ | (refine ⟨?_, HX.out⟩; simp [ss_bbT]; done) | (refine ⟨?_, HX.out⟩; simp [ss_bbT]; assumption)
    refine ⟨fun listed A X hI hcl hin hun hall => .inl ⟨(Reg.wanted_some (j := 14) (d := 68) rfl rfl (hI.ev (i := 14) (d := 68) (by rfl) (hall ⟨14, .guard⟩ (by simp) rfl) : A.tmps[68]? = some (.bool true))).trans rfl, ?_⟩, ?_⟩
    · have e8 := hI.evo (d := 8) (by kernel_rfl) rfl
      have hX : Below W5.heap.size W5 X := hI.st
      have HX := qhid hX
      clear hI hall hX hcl
      unfold Reg.Yields
      go_simp
      first | rfl | exact ⟨rfl, HX.out⟩ | (refine ⟨?_, HX.out⟩; simp [ss_bbT]; done) | (refine ⟨?_, HX.out⟩; simp [ss_bbT]; assumption)
    refine ⟨fun listed A X hI hcl hin hun hall => .inl ⟨(Reg.wanted_some (j := 14) (d := 68) rfl rfl (hI.ev (i := 14) (d := 68) (by rfl) (hall ⟨14, .guard⟩ (by simp) rfl) : A.tmps[68]? = some (.bool true))).trans rfl, ?_⟩, ?_⟩
    · have e69 : A.tmps[69]? = some (.pointer none) := hI.ev (i := 15) (d := 69) (by rfl) (hall ⟨15, .data⟩ (by simp) rfl)
      have e70 : A.tmps[70]? = some (.pointer none) := hI.ev (i := 16) (d := 70) (by rfl) (hall ⟨16, .data⟩ (by simp) rfl)
      have hX : Below W5.heap.size W5 X := hI.st
      have HX := qhid hX
      clear hI hall hX hcl
      unfold Reg.Yields
      go_simp
      exact (HSN.out X ).mono fun e w'' ⟨he, hb⟩ => ⟨_, he, rfl, HX.out.trans (hb.mono HX.out.size)⟩
    refine ⟨fun listed A X hI hcl hin hun hall => .inl ⟨(Reg.wanted_some (j := 14) (d := 68) rfl rfl (hI.ev (i := 14) (d := 68) (by rfl) (hall ⟨14, .guard⟩ (by simp) rfl) : A.tmps[68]? = some (.bool true))).trans rfl, ?_⟩, ?_⟩
    · have e12 := hI.evo (d := 12) (by kernel_rfl) rfl
      have hX : Below W5.heap.size W5 X := hI.st
      have hb := (hX.block _ (Reg.size_of_get HF1'.out)).trans HF1'.out
      have v0 := Joins.cell_of_block hb 0
      have v1 := Joins.cell_of_block hb 1
      have hyl := Reg.size_of_get hb
      simp only [List.getElem?_toArray, List.getElem?_cons_zero, List.getElem?_cons_succ] at v0 v1
      clear hb
      have HX := qhid hX
      clear hI hall hX hcl
      unfold Reg.Yields
      go_simp
      first | rfl | exact ⟨rfl, HX.out⟩ | (refine ⟨?_, HX.out⟩; simp [ss_bbT]; done) | (refine ⟨?_, HX.out⟩; simp [ss_bbT]; assumption)
    refine ⟨fun listed A X hI hcl hin hun hall => .inl ⟨(Reg.wanted_some (j := 14) (d := 68) rfl rfl (hI.ev (i := 14) (d := 68) (by rfl) (hall ⟨14, .guard⟩ (by simp) rfl) : A.tmps[68]? = some (.bool true))).trans rfl, ?_⟩, ?_⟩
    · have e72 : A.tmps[72]? = some (.pointer (some ⟨w3.heap.size + 1, 1, none⟩)) := hI.ev (i := 18) (d := 72) (by rfl) (hall ⟨18, .data⟩ (by simp) rfl)
      have hX : Below W5.heap.size W5 X := hI.st
      have hb := (hX.block _ (Reg.size_of_get HF1'.out)).trans HF1'.out
      have v0 := Joins.cell_of_block hb 0
      have v1 := Joins.cell_of_block hb 1
      have hyl := Reg.size_of_get hb
      simp only [List.getElem?_toArray, List.getElem?_cons_zero, List.getElem?_cons_succ] at v0 v1
      clear hb
      have HX := qhid hX
      clear hI hall hX hcl
      unfold Reg.Yields
      go_simp
      first | rfl | exact ⟨rfl, HX.out⟩ | (refine ⟨?_, HX.out⟩; simp [ss_bbT]; done) | (refine ⟨?_, HX.out⟩; simp [ss_bbT]; assumption)
    refine ⟨fun listed A X hI hcl hin hun hall => .inl ⟨(Reg.wanted_some (j := 14) (d := 68) rfl rfl (hI.ev (i := 14) (d := 68) (by rfl) (hall ⟨14, .guard⟩ (by simp) rfl) : A.tmps[68]? = some (.bool true))).trans rfl, ?_⟩, ?_⟩
    · have e73 : A.tmps[73]? = some (.int .i64 e1) := hI.ev (i := 19) (d := 73) (by rfl) (hall ⟨19, .data⟩ (by simp) rfl)
      have hX : Below W5.heap.size W5 X := hI.st
      have HX := qhid hX
      clear hI hall hX hcl
      unfold Reg.Yields
      go_simp
      first | rfl | exact ⟨rfl, HX.out⟩ | (refine ⟨?_, HX.out⟩; simp [ss_bbT]; done) | (refine ⟨?_, HX.out⟩; simp [ss_bbT]; assumption)
    refine ⟨fun listed A X hI hcl hin hun hall => .inl ⟨(Reg.wanted_some (j := 14) (d := 68) rfl rfl (hI.ev (i := 14) (d := 68) (by rfl) (hall ⟨14, .guard⟩ (by simp) rfl) : A.tmps[68]? = some (.bool true))).trans rfl, ?_⟩, ?_⟩
    · have e74 : A.tmps[74]? = some (.bool true) := hI.ev (i := 20) (d := 74) (by rfl) (hall ⟨20, .data⟩ (by simp) rfl)
      have hX : Below W5.heap.size W5 X := hI.st
      have HX := qhid hX
      clear hI hall hX hcl
      unfold Reg.Yields
      go_simp
      first | rfl | exact ⟨rfl, HX.out⟩ | (refine ⟨?_, HX.out⟩; simp [ss_bbT]; done) | (refine ⟨?_, HX.out⟩; simp [ss_bbT]; assumption)
    refine ⟨fun listed A X hI hcl hin hun hall => .inl ⟨(Reg.wanted_some (j := 21) (d := 75) rfl rfl (hI.ev (i := 21) (d := 75) (by rfl) (hall ⟨21, .guard⟩ (by simp) rfl) : A.tmps[75]? = some (.bool true))).trans rfl, ?_⟩, ?_⟩
    · have e14 := hI.evo (d := 14) (by kernel_rfl) rfl
      have hX : Below W5.heap.size W5 X := hI.st
      have hb := (hX.block _ (Reg.size_of_get HF2.out)).trans HF2.out
      have v0 := Joins.cell_of_block hb 0
      have v1 := Joins.cell_of_block hb 1
      have hyl := Reg.size_of_get hb
      simp only [List.getElem?_toArray, List.getElem?_cons_zero, List.getElem?_cons_succ] at v0 v1
      clear hb
      have HX := qhid hX
      clear hI hall hX hcl
      unfold Reg.Yields
      go_simp
      first | rfl | exact ⟨rfl, HX.out⟩ | (refine ⟨?_, HX.out⟩; simp [ss_bbT]; done) | (refine ⟨?_, HX.out⟩; simp [ss_bbT]; assumption)
    refine ⟨fun listed A X hI hcl hin hun hall => .inl ⟨(Reg.wanted_some (j := 21) (d := 75) rfl rfl (hI.ev (i := 21) (d := 75) (by rfl) (hall ⟨21, .guard⟩ (by simp) rfl) : A.tmps[75]? = some (.bool true))).trans rfl, ?_⟩, ?_⟩
    · have e76 : A.tmps[76]? = some (.pointer (some ⟨w4.heap.size + 1, 1, none⟩)) := hI.ev (i := 22) (d := 76) (by rfl) (hall ⟨22, .data⟩ (by simp) rfl)
      have hX : Below W5.heap.size W5 X := hI.st
      have hb := (hX.block _ (Reg.size_of_get HF2.out)).trans HF2.out
      have v0 := Joins.cell_of_block hb 0
      have v1 := Joins.cell_of_block hb 1
      have hyl := Reg.size_of_get hb
      simp only [List.getElem?_toArray, List.getElem?_cons_zero, List.getElem?_cons_succ] at v0 v1
      clear hb
      have HX := qhid hX
      clear hI hall hX hcl
      unfold Reg.Yields
      go_simp
      first | rfl | exact ⟨rfl, HX.out⟩ | (refine ⟨?_, HX.out⟩; simp [ss_bbT]; done) | (refine ⟨?_, HX.out⟩; simp [ss_bbT]; assumption)
    refine ⟨fun listed A X hI hcl hin hun hall => .inl ⟨(Reg.wanted_some (j := 21) (d := 75) rfl rfl (hI.ev (i := 21) (d := 75) (by rfl) (hall ⟨21, .guard⟩ (by simp) rfl) : A.tmps[75]? = some (.bool true))).trans rfl, ?_⟩, ?_⟩
    · have e77 : A.tmps[77]? = some (.int .i64 e2) := hI.ev (i := 23) (d := 77) (by rfl) (hall ⟨23, .data⟩ (by simp) rfl)
      have hX : Below W5.heap.size W5 X := hI.st
      have HX := qhid hX
      clear hI hall hX hcl
      unfold Reg.Yields
      go_simp
      first | rfl | exact ⟨rfl, HX.out⟩ | (refine ⟨?_, HX.out⟩; simp [ss_bbT]; done) | (refine ⟨?_, HX.out⟩; simp [ss_bbT]; assumption)
    refine ⟨fun listed A X hI hcl hin hun hall => .inl ⟨(Reg.wanted_some (j := 14) (d := 68) rfl rfl (hI.ev (i := 14) (d := 68) (by rfl) (hall ⟨14, .guard⟩ (by simp) rfl) : A.tmps[68]? = some (.bool true))).trans rfl, ?_⟩, ?_⟩
    · have e75 : A.tmps[75]? = some (.bool true) := hI.ev (i := 21) (d := 75) (by rfl) (hall ⟨21, .data⟩ (by simp) rfl)
      have e78 : A.tmps[78]? = some (.bool true) := hI.ev (i := 24) (d := 78) (by rfl) (hall ⟨24, .data⟩ (by simp) rfl)
      have hX : Below W5.heap.size W5 X := hI.st
      have HX := qhid hX
      clear hI hall hX hcl
      unfold Reg.Yields
      go_simp
      first | rfl | exact ⟨rfl, HX.out⟩ | (refine ⟨?_, HX.out⟩; simp [ss_bbT]; done) | (refine ⟨?_, HX.out⟩; simp [ss_bbT]; assumption)
    refine ⟨fun listed A X hI hcl hin hun hall => .inl ⟨(Reg.wanted_some (j := 14) (d := 68) rfl rfl (hI.ev (i := 14) (d := 68) (by rfl) (hall ⟨14, .guard⟩ (by simp) rfl) : A.tmps[68]? = some (.bool true))).trans rfl, ?_⟩, ?_⟩
    · have e71 : A.tmps[71]? = some (.bool true) := hI.ev (i := 17) (d := 71) (by rfl) (hall ⟨17, .data⟩ (by simp) rfl)
      have e79 : A.tmps[79]? = some (.bool true) := hI.ev (i := 25) (d := 79) (by rfl) (hall ⟨25, .data⟩ (by simp) rfl)
      have hX : Below W5.heap.size W5 X := hI.st
      have HX := qhid hX
      clear hI hall hX hcl
      unfold Reg.Yields
      go_simp
      first | rfl | exact ⟨rfl, HX.out⟩ | (refine ⟨?_, HX.out⟩; simp [ss_bbT]; done) | (refine ⟨?_, HX.out⟩; simp [ss_bbT]; assumption)
    refine ⟨fun listed A X hI hcl hin hun hall => .inl ⟨Reg.wanted_none rfl, ?_⟩, ?_⟩
    · have e68 : A.tmps[68]? = some (.bool true) := hI.ev (i := 14) (d := 68) (by rfl) (hall ⟨14, .data⟩ (by simp) rfl)
      have e80 : A.tmps[80]? = some (.bool true) := hI.ev (i := 26) (d := 80) (by rfl) (hall ⟨26, .data⟩ (by simp) rfl)
      have hX : Below W5.heap.size W5 X := hI.st
      have HX := qhid hX
      clear hI hall hX hcl
      unfold Reg.Yields
      go_simp
      first | rfl | exact ⟨rfl, HX.out⟩ | (refine ⟨?_, HX.out⟩; simp [ss_bbT]; done) | (refine ⟨?_, HX.out⟩; simp [ss_bbT]; assumption)
    refine ⟨fun listed A X hI hcl hin hun hall => .inl ⟨Reg.wanted_none rfl, ?_⟩, ?_⟩
    · have e81 : A.tmps[81]? = some (.bool true) := hI.ev (i := 27) (d := 81) (by rfl) (hall ⟨27, .data⟩ (by simp) rfl)
      have hX : Below W5.heap.size W5 X := hI.st
      have HX := qhid hX
      clear hI hall hX hcl
      unfold Reg.Yields
      go_simp
      first | rfl | exact ⟨rfl, HX.out⟩ | (refine ⟨?_, HX.out⟩; simp [ss_bbT]; done) | (refine ⟨?_, HX.out⟩; simp [ss_bbT]; assumption)
    refine ⟨fun listed A X hI hcl hin hun hall => .inl ⟨(Reg.wanted_some (j := 28) (d := 82) rfl rfl (hI.ev (i := 28) (d := 82) (by rfl) (hall ⟨28, .guard⟩ (by simp) rfl) : A.tmps[82]? = some (.bool true))).trans rfl, ?_⟩, ?_⟩
    · have hX : Below W5.heap.size W5 X := hI.st
      have HX := qhid hX
      clear hI hall hX hcl
      unfold Reg.Yields
      go_simp
      exact (HAW.out X (HB5.out.trans (HX.out.mono HB5.out.size))).mono fun e w'' ⟨he, hb⟩ => ⟨_, he, rfl, HX.out.trans (hb.mono HX.out.size)⟩
    refine ⟨fun listed A X hI hcl hin hun hall => .inl ⟨Reg.wanted_none rfl, ?_⟩, ?_⟩
    · have e82 : A.tmps[82]? = some (.bool true) := hI.ev (i := 28) (d := 82) (by rfl) (hall ⟨28, .data⟩ (by simp) rfl)
      have e83 : A.tmps[83]? = some (.bool true) := hI.ev (i := 29) (d := 83) (by rfl) (hall ⟨29, .data⟩ (by simp) rfl)
      have hX : Below W5.heap.size W5 X := hI.st
      have HX := qhid hX
      clear hI hall hX hcl
      unfold Reg.Yields
      go_simp
      first | rfl | exact ⟨rfl, HX.out⟩ | (refine ⟨?_, HX.out⟩; simp [ss_bbT]; done) | (refine ⟨?_, HX.out⟩; simp [ss_bbT]; assumption)
    refine ⟨fun listed A X hI hcl hin hun hall => .inl ⟨Reg.wanted_none rfl, ?_⟩, ?_⟩
    · have e84 : A.tmps[84]? = some (.bool true) := hI.ev (i := 30) (d := 84) (by rfl) (hall ⟨30, .data⟩ (by simp) rfl)
      have hX : Below W5.heap.size W5 X := hI.st
      have HX := qhid hX
      clear hI hall hX hcl
      unfold Reg.Yields
      go_simp
      first | rfl | exact ⟨rfl, HX.out⟩ | (refine ⟨?_, HX.out⟩; simp [ss_bbT]; done) | (refine ⟨?_, HX.out⟩; simp [ss_bbT]; assumption)
    trivial
  · intro X hS
    have HX := qhid hS
    clear hS
    simp [Reg.finalTmps, Reg.dstAt, Reg.valOf, ss_bbT]
    have HBX := qhid (HB5.out.trans (HX.out.mono HB5.out.size))
    go_wp2_with fail
    go_ret
    exact ⟨rfl, HBX.out⟩
theorem samelaw_any (s r : ByteArray) (w : World) (hT : Tab w) :
    Calls Tryd.prog 3 #[.string s, .string r] w fun x w' => x = .returned (.bool true) ∧ Below w.heap.size w w' := by
  have AW := fun X (hX : Below w.heap.size w X) => syn_awake X (hT.up hX)
  by_cases hs : 200 < s.size
  · exact ss_long s r (.inl hs) w AW
  by_cases hr : 200 < r.size
  · exact ss_long s r (.inr hr) w AW
  have hs : s.size ≤ 200 := by omega
  have hr : r.size ≤ 200 := by omega
  have PA := parse_any s (by omega) w hT
  have PB := fun X (hX : Below w.heap.size w X) => parse_any r (by omega) X (hT.up hX)
  rcases parseR_cases s with ⟨t, ht⟩ | ⟨e, at_, he, hne⟩
  · rw [ht] at PA
    have ok := parse_ok (by omega) ht
    rcases parseR_cases r with ⟨u, hu⟩ | ⟨e, at_, he, hne⟩
    · rw [hu] at PB
      exact ss_gg s r t u (sameT t u) hs hr w PA (fun X => rparse_ok s t (by omega) ht X) PB (fun X => rparse_ok r u (by omega) hu X) (fun X a b ha hb => ssame_any _ t u a b X ha hb ok.size)
        (fun X a ha => by have h := ssame_any _ t t a a X ha ha ok.size; rw [sameT_refl _ t (Nat.le_refl _)] at h; exact h) (fun X lv lv' h1 h2 => rsame_any (trSize t) t u _ _ lv lv' X (Nat.le_refl _) ok.size h1 h2) AW
    · rw [he] at PB
      exact ss_gb s r t e at_ hne hs hr w PA (fun X => rparse_ok s t (by omega) ht X) PB (fun X => rparse_bad r e at_ hne (by omega) he X) AW
  · rw [he] at PA
    rcases parseR_cases r with ⟨u, hu⟩ | ⟨e', at', he', hne'⟩
    · rw [hu] at PB
      exact ss_bg s r e at_ hne u hs hr w PA (fun X => rparse_bad s e at_ hne (by omega) he X) PB (fun X => rparse_ok r u (by omega) hu X) AW
    · rw [he'] at PB
      exact ss_bb s r e at_ hne e' at' hne' hs hr w PA (fun X => rparse_bad s e at_ hne (by omega) he X) PB (fun X => rparse_bad r e' at' hne' (by omega) he' X) AW
end
end Go.Proofs.YtaliapknkpdmdaaDoor
