/- graph: Arrow told. -/
import Derived.Test.YtghfodjefjijdaaGrC
namespace Go.Proofs.Ytghfodjefjijdaa
section
open Go Go.RowKit Go.Shelf Go.Maps
attribute [local go_sem ↓] Go.wp_at_zero Go.wp_at_succ
set_option maxRecDepth 100000 in
theorem garrow_nil (w : World) (x y : Int) :
    Calls Try.prog 18 #[.pointer none, .int .i64 x, .int .i64 y] w fun e w' => e = .returned (.int .i64 1) ∧ w' = w := by
  go_enter Try.func18, Try.ntmps18
  go_wp2_with fail
  go_ret
  exact ⟨rfl, rfl⟩
set_option maxRecDepth 100000 in
theorem garrow_bad {w : World} {B gb tb n K : Nat} {mp : Nat → Option Nat} {m : Nat → Nat → Bool} {cnt : Nat} (h : GrAt w B gb tb n K mp m cnt) (x y : Int) (hb : (inB n x && inB n y) = false) :
    Calls Try.prog 18 #[.pointer (some ⟨gb, 0, none⟩), .int .i64 x, .int .i64 y] w fun e w' => e = .returned (.int .i64 2) ∧ w' = w := by
  have H1 := qhid (gthere_any h x)
  have H2 := qhid (gthere_any h y)
  clear h
  cases hx : inB n x with
  | false =>
    rw [hx] at H1
    clear H2 hb hx
    go_enter Try.func18, Try.ntmps18
    go_wp2_with (go_at_call 21; refine H1.out.mono ?_; rintro e w1 ⟨rfl, hw⟩; obtain rfl : w = w1 := hw.symm)
    go_ret
    exact ⟨rfl, rfl⟩
  | true =>
    have hy : inB n y = false := by simpa [hx] using hb
    rw [hx] at H1
    rw [hy] at H2
    clear hb hx hy
    go_enter Try.func18, Try.ntmps18
    go_wp2_with (first | (go_at_call 21; refine H1.out.mono ?_; clear H1; rintro e w1 ⟨rfl, hw⟩; obtain rfl : w = w1 := hw.symm) | (go_at_call 21; refine H2.out.mono ?_; clear H2; rintro e w1 ⟨rfl, hw⟩; obtain rfl : w = w1 := hw.symm))
    go_ret
    exact ⟨rfl, rfl⟩
theorem map_is (W : World) (r : Option Nat) : (binOp .eql 68 (.map r) (.map none)).run Try.prog W = .ok (.bool r.isNone) W := run_eql_map_nil W _ _ _ r Try.underlying68
/-- A table with one arrow more. -/
def upd2 (m : Nat → Nat → Bool) (a b : Nat) : Nat → Nat → Bool := upd m a (upd (m a) b true)
theorem KeepG.mapG {w w' : World} {mb K : Nat} {q : Nat → Bool} (h : ThAt w mb K q) (hg : w.grownBy w' (some mb)) : KeepG w w' := KeepG.grown hg (fun r e => by
  obtain ⟨es, c, h2⟩ := h.map
  obtain rfl := Option.some.inj e
  exact ⟨_, h2, fun cs t fr e' => by cases e'⟩)
theorem KeepG.setG {w : World} {b : Nat} {cs : Array Value} {t : TypeId} {fr : Nat × Nat} (h : w.heap[b]? = some (.cells cs t fr)) (ht : t = 50 ∨ t = 68) (i : Nat) (v : Value) : KeepG w (w.setCell ⟨b, i, none⟩ v) := KeepG.grown (set_grown w b i v) (fun r e => by
  obtain rfl := Option.some.inj e
  exact ⟨_, h, fun cs' t' fr' e' => by injection e' with _ e' _; rw [← e']; exact ht⟩)
/-- What Arrow leaves. -/
structure ArrowP (w w' : World) (B gb tb n K : Nat) (m : Nat → Nat → Bool) (cnt a b : Nat) : Prop where
  gr : ∃ mp', GrAt w' B gb tb n (K + 1) mp' (upd2 m a b) (if m a b then cnt else cnt + 1)
  be : Below B w w'
  kp : KeepG w w'
theorem inB_nat {n a : Nat} (h : a < n) : inB n (a : Int) = true := by simp [inB]; omega
theorem upd2_same {m : Nat → Nat → Bool} {a b : Nat} (h : m a b = true) : upd2 m a b = m := by
  funext i j
  unfold upd2 upd
  by_cases h1 : i = a
  · by_cases h2 : j = b
    · simp [h1, h2, h]
    · simp [h1, h2]
  · simp [h1]
set_option maxRecDepth 100000 in
set_option maxHeartbeats 4000000 in
theorem garrow_map {w : World} {B gb tb n K : Nat} {mp : Nat → Option Nat} {m : Nat → Nat → Bool} {cnt : Nat} (h : GrAt w B gb tb n K mp m cnt) (hB : B ≤ w.heap.size) (hK : K ≤ 1000000) (hc : cnt ≤ 1000000) (hn : n ≤ 1048576) (a b mb : Nat) (ha : a < n) (hb : b < n) (he : mp a = some mb) :
    Calls Try.prog 18 #[.pointer (some ⟨gb, 0, none⟩), .int .i64 (a : Int), .int .i64 (b : Int)] w fun e w' => e = .returned (.int .i64 0) ∧ ArrowP w w' B gb tb n K m cnt a b := by
  have H1 := qhid (gthere_any h (a : Int))
  have H2 := qhid (gthere_any h (b : Int))
  rw [inB_nat ha] at H1
  rw [inB_nat hb] at H2
  have HA := qhid (gadd_any mb K b (m a) w (h.th a mb ha he) (by omega) (by omega))
  have x0 := Joins.cell_of_block h.g 0
  have t0 := h.t.cell ha
  simp only [List.getElem?_toArray, List.getElem?_cons_zero] at x0
  rw [he] at t0
  have hai : decide ((a : Int) < (n : Int)) = true := decide_eq_true (by omega)
  have HH := qhid h
  have HE := qhid he
  have hms : ∀ W, (binOp .eql 68 (.map (some mb)) (.map none)).run Try.prog W = .ok (.bool false) W := fun W => map_is W (some mb)
  clear h he
  go_enter Try.func18, Try.ntmps18
  go_wp2_with (first | (go_at_call 21; refine H1.out.mono ?_; clear H1; rintro e w1 ⟨rfl, hw⟩; obtain rfl : w = w1 := hw.symm) | (go_at_call 21; refine H2.out.mono ?_; clear H2; rintro e w1 ⟨rfl, hw⟩; obtain rfl : w = w1 := hw.symm) | fail)
  refine HA.out.mono ?_
  rintro e w1 ⟨rfl, ht, hg⟩
  have h1 := HH.out.addkey ha hb HE.out ht hg
  have k1 := KeepG.mapG (HH.out.th a mb ha HE.out) hg
  have b1 : Below B w w1 := (Below.refl B w).grown hg hB (fun k e => by cases e; exact HH.out.lb.2.2 a mb ha HE.out)
  have H1' := qhid h1
  have K1 := qhid k1
  have B1 := qhid b1
  have y1 := Joins.cell_of_block h1.g 1
  have f1 := Joins.unfrozen_of_block h1.g 1
  simp only [List.getElem?_toArray, List.getElem?_cons_zero, List.getElem?_cons_succ] at y1
  clear ht hg h1 k1 b1 x0 t0
  cases hm : m a b with
  | true =>
    have HM := qhid hm
    clear hm
    go_wp2_with fail
    go_ret
    refine ⟨rfl, ⟨⟨mp, ?_⟩, B1.out, K1.out⟩⟩
    rw [if_pos HM.out]
    exact H1'.out
  | false =>
    have HM := qhid hm
    clear hm
    go_wp2_with fail
    go_ret
    refine ⟨rfl, ⟨⟨mp, ?_⟩, B1.out.setCell (p := ⟨gb, 1, none⟩) HH.out.lb.1 _, K1.out.trans (KeepG.setG H1'.out.g (.inl rfl) 1 _)⟩⟩
    rw [HM.out]
    exact H1'.out.count (cnt + 1)
set_option maxRecDepth 100000 in
set_option maxHeartbeats 4000000 in
theorem garrow_none {w : World} {B gb tb n K : Nat} {mp : Nat → Option Nat} {m : Nat → Nat → Bool} {cnt : Nat} (h : GrAt w B gb tb n K mp m cnt) (hB : B ≤ w.heap.size) (hK : K ≤ 1000000) (hc : cnt ≤ 1000000) (hn : n ≤ 1048576) (a b : Nat) (ha : a < n) (hb : b < n) (he : mp a = none) :
    Calls Try.prog 18 #[.pointer (some ⟨gb, 0, none⟩), .int .i64 (a : Int), .int .i64 (b : Int)] w fun e w' => e = .returned (.int .i64 0) ∧ ArrowP w w' B gb tb n K m cnt a b := by
  have H1 := qhid (gthere_any h (a : Int))
  have H2 := qhid (gthere_any h (b : Int))
  rw [inB_nat ha] at H1
  rw [inB_nat hb] at H2
  have x0 := Joins.cell_of_block h.g 0
  have t0 := h.t.cell ha
  have f0 := h.t.unfrozen a
  have htl := h.t.lt
  simp only [List.getElem?_toArray, List.getElem?_cons_zero] at x0
  rw [he] at t0
  have hai : decide ((a : Int) < (n : Int)) = true := decide_eq_true (by omega)
  have hm0 : m a b = false := h.no a ha he b
  have hmm := @run_makeMap Try.prog
  have hms : ∀ W, (binOp .eql 68 (.map none) (.map none)).run Try.prog W = .ok (.bool true) W := fun W => map_is W none
  have HW := qhid (h.addmap ha he hB)
  have HB0 : Hid (Below B w ((w.alloc (.map #[] 0)).setCell ⟨tb, a, none⟩ (.map (some w.heap.size)))) := qhid (((Below.refl B w).alloc hB _).setCell (p := ⟨tb, a, none⟩) h.lb.2.1 _)
  have HK0 : Hid (KeepG w ((w.alloc (.map #[] 0)).setCell ⟨tb, a, none⟩ (.map (some w.heap.size)))) := qhid ((KeepG.grown (World.grownBy_alloc w _ none) (fun r e => by cases e)).trans (KeepG.setG (heap_up h.t (below1 _ _)) (.inr rfl) a _))
  rw [World.setCell_alloc_past _ _ _ _ htl] at HW HB0 HK0
  have HLB := qhid h.lb
  clear h he
  go_enter Try.func18, Try.ntmps18
  go_upto_region 7 with (first | (go_at_call 21; refine H1.out.mono ?_; clear H1; rintro e w1 ⟨rfl, hw⟩; obtain rfl : w = w1 := hw.symm) | (go_at_call 21; refine H2.out.mono ?_; clear H2; rintro e w1 ⟨rfl, hw⟩; obtain rfl : w = w1 := hw.symm) | fail)
  obtain ⟨W1, hW1⟩ : ∃ X, X = (w.setCell ⟨tb, a, none⟩ (.map (some w.heap.size))).alloc (.map #[] 0) := ⟨_, rfl⟩
  change Code.wp _ _ _ _ ((w.setCell ⟨tb, a, none⟩ (.map (some w.heap.size))).alloc (.map #[] 0))
  rw [← hW1] at HW HB0 HK0 ⊢
  obtain ⟨mb, hmb⟩ : ∃ b, b = w.heap.size := ⟨_, rfl⟩
  rw [← hmb] at HW ⊢
  have HA := qhid (gadd_any mb K b (m a) W1 (HW.out.th a mb ha (upd_same _ _ _)) (by omega) (by omega))
  rw [hm0] at HA
  have HM := qhid hm0
  have y0 := Joins.cell_of_block HW.out.g 0
  have z0 := HW.out.t.cell ha
  simp only [List.getElem?_toArray, List.getElem?_cons_zero, upd_same] at y0 z0
  clear hW1 hmb x0 t0 f0 htl hm0
  go_wp2_with fail
  refine HA.out.mono ?_
  rintro e w1 ⟨rfl, ht, hg⟩
  have H1' := qhid (HW.out.addkey ha hb (upd_same _ _ _) ht hg)
  have K1 := qhid (HK0.out.trans (KeepG.mapG (HW.out.th a mb ha (upd_same _ _ _)) hg))
  have B1 : Hid (Below B w w1) := qhid (HB0.out.grown hg (Nat.le_trans hB HB0.out.size) (fun k e => by cases e; exact HW.out.lb.2.2 a mb ha (upd_same _ _ _)))
  have y1 := Joins.cell_of_block H1'.out.g 1
  have f1 := Joins.unfrozen_of_block H1'.out.g 1
  simp only [List.getElem?_toArray, List.getElem?_cons_zero, List.getElem?_cons_succ] at y1
  clear ht hg y0 z0
  go_wp2_with fail
  go_ret
  refine ⟨rfl, ⟨⟨upd mp a (some mb), ?_⟩, B1.out.setCell (p := ⟨gb, 1, none⟩) HLB.out.1 _, K1.out.trans (KeepG.setG H1'.out.g (.inl rfl) 1 _)⟩⟩
  rw [HM.out]
  exact H1'.out.count (cnt + 1)
theorem garrow_any {w : World} {B gb tb n K : Nat} {mp : Nat → Option Nat} {m : Nat → Nat → Bool} {cnt : Nat} (h : GrAt w B gb tb n K mp m cnt) (hB : B ≤ w.heap.size) (hK : K ≤ 1000000) (hc : cnt ≤ 1000000) (hn : n ≤ 1048576) (a b : Nat) (ha : a < n) (hb : b < n) :
    Calls Try.prog 18 #[.pointer (some ⟨gb, 0, none⟩), .int .i64 (a : Int), .int .i64 (b : Int)] w fun e w' => e = .returned (.int .i64 0) ∧ ArrowP w w' B gb tb n K m cnt a b := by
  cases he : mp a with
  | none => exact garrow_none h hB hK hc hn a b ha hb he
  | some mb => exact garrow_map h hB hK hc hn a b mb ha hb he
end
end Go.Proofs.Ytghfodjefjijdaa
