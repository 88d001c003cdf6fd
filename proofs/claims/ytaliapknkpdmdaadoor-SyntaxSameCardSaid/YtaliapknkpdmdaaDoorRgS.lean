/- The document's own answer: two trees, the same but for spans. -/
import Derived.Test.YtaliapknkpdmdaaDoorRgD
import Derived.Test.YtaliapknkpdmdaaDoorPbU
namespace Go.Proofs.YtaliapknkpdmdaaDoor
section
open Go Go.RowKit
attribute [local go_sem ↓] Go.wp_at_zero Go.wp_at_succ
attribute [local go_sem] eq4
def rsTold (g g' h1 h2 n n' cap cap' i : Nat) (v1 v2 : Value) (r : Bool) : Nat → Value
  | 0 => .pointer (some ⟨h1, 8, none⟩)
  | 1 => .slice (some ⟨g, 0, none⟩) n cap
  | 2 => .int .i64 (i : Int)
  | 3 => .pointer (some ⟨g, i * 11, none⟩)
  | 4 => v1
  | 5 => .pointer (some ⟨h2, 8, none⟩)
  | 6 => .slice (some ⟨g', 0, none⟩) n' cap'
  | 7 => .int .i64 (i : Int)
  | 8 => .pointer (some ⟨g', i * 11, none⟩)
  | 9 => v2
  | 10 => .bool r
  | 11 => .bool (!r)
  | _ => undef
set_option maxRecDepth 100000 in
set_option maxHeartbeats 8000000 in
theorem rsame_step (k : Int) (s : W4) (lo hi : Int) (z : Bool) (a b : Nat) (l : List Tr) (k' : Int) (s' : W4) (lo' hi' : Int) (z' : Bool) (a' b' : Nat) (l' : List Tr) (A A' : Nat → Prop) (lv lv' : Value) (w : World) (hlb : l.length ≤ 1099511000000)
    (ht : RnAt w A (.mk k s lo hi z a b l) lv) (hu : RnAt w A' (.mk k' s' lo' hi' z' a' b' l') lv')
    (ih : ∀ (c c' : Tr) {i : Nat}, l[i]? = some c → ∀ (X : World) (B B' : Nat → Prop) (v v' : Value), RnAt X B c v → RnAt X B' c' v' → Calls Tryd.prog 8 #[rnV c v, rnV c' v'] X fun e w' => e = .returned (.bool (sameT c c')) ∧ Below X.heap.size X w') :
    Calls Tryd.prog 8 #[rnV (.mk k s lo hi z a b l) lv, rnV (.mk k' s' lo' hi' z' a' b' l') lv'] w fun e w' => e = .returned (.bool (sameT (.mk k s lo hi z a b l) (.mk k' s' lo' hi' z' a' b' l'))) ∧ Below w.heap.size w w' := by
  obtain ⟨p, cap, rfl⟩ := ht.slice_len
  obtain ⟨p', cap', rfl⟩ := hu.slice_len
  have HT := qhid ht
  have HU := qhid hu
  have HIH := qhid ih
  have HLB := qhid hlb
  have HS : Hid (sameT (.mk k s lo hi z a b l) (.mk k' s' lo' hi' z' a' b' l') = (alikeT (.mk k s lo hi z a b l) (.mk k' s' lo' hi' z' a' b' l') && sameL l l')) := qhid (sameT_eq _ _)
  have HA : Hid (alikeT (.mk k s lo hi z a b l) (.mk k' s' lo' hi' z' a' b' l') = (k == k' && (eqW4 s s' && (lo == lo' && (hi == hi' && (z == z' && decide (l.length = l'.length))))))) := qhid rfl
  obtain ⟨res, hres⟩ : ∃ r, r = sameT (.mk k s lo hi z a b l) (.mk k' s' lo' hi' z' a' b' l') := ⟨_, rfl⟩
  rw [← hres] at HS ⊢
  obtain ⟨W1, hW1⟩ : ∃ X, X = (w.alloc (.cells #[.int .i64 k, .int .u64 s.a, .int .u64 s.b, .int .u64 s.c, .int .u64 s.d, .int .i64 lo, .int .i64 hi, .bool z, (.slice p l.length cap), .int .i64 (a : Int), .int .i64 (b : Int)] 32)).alloc (.cells #[.int .i64 k', .int .u64 s'.a, .int .u64 s'.b, .int .u64 s'.c, .int .u64 s'.d, .int .i64 lo', .int .i64 hi', .bool z', (.slice p' l'.length cap'), .int .i64 (a' : Int), .int .i64 (b' : Int)] 32) := ⟨_, rfl⟩
  have HB1 : Hid (Below w.heap.size w W1) := qhid (by rw [hW1]; exact below2 w _ _)
  have HK1 : Hid (W1.heap[w.heap.size]? = some (.cells #[.int .i64 k, .int .u64 s.a, .int .u64 s.b, .int .u64 s.c, .int .u64 s.d, .int .i64 lo, .int .i64 hi, .bool z, (.slice p l.length cap), .int .i64 (a : Int), .int .i64 (b : Int)] 32)) := qhid (by rw [hW1]; exact below_kept (below1 _ _) (heap_new w (.cells #[.int .i64 k, .int .u64 s.a, .int .u64 s.b, .int .u64 s.c, .int .u64 s.d, .int .i64 lo, .int .i64 hi, .bool z, (.slice p l.length cap), .int .i64 (a : Int), .int .i64 (b : Int)] 32)))
  have HK2 : Hid (W1.heap[w.heap.size + 1]? = some (.cells #[.int .i64 k', .int .u64 s'.a, .int .u64 s'.b, .int .u64 s'.c, .int .u64 s'.d, .int .i64 lo', .int .i64 hi', .bool z', (.slice p' l'.length cap'), .int .i64 (a' : Int), .int .i64 (b' : Int)] 32)) := qhid (by have h := heap_new (w.alloc (.cells #[.int .i64 k, .int .u64 s.a, .int .u64 s.b, .int .u64 s.c, .int .u64 s.d, .int .i64 lo, .int .i64 hi, .bool z, (.slice p l.length cap), .int .i64 (a : Int), .int .i64 (b : Int)] 32)) (.cells #[.int .i64 k', .int .u64 s'.a, .int .u64 s'.b, .int .u64 s'.c, .int .u64 s'.d, .int .i64 lo', .int .i64 hi', .bool z', (.slice p' l'.length cap'), .int .i64 (a' : Int), .int .i64 (b' : Int)] 32); rw [World.size_alloc] at h; rw [hW1]; exact h)
  have HW1 := qhid hW1
  change Calls _ _ #[.agg #[.int .i64 k, .int .u64 s.a, .int .u64 s.b, .int .u64 s.c, .int .u64 s.d, .int .i64 lo, .int .i64 hi, .bool z, (.slice p l.length cap), .int .i64 (a : Int), .int .i64 (b : Int)], .agg #[.int .i64 k', .int .u64 s'.a, .int .u64 s'.b, .int .u64 s'.c, .int .u64 s'.d, .int .i64 lo', .int .i64 hi', .bool z', (.slice p' l'.length cap'), .int .i64 (a' : Int), .int .i64 (b' : Int)]] _ _
  have x0 := Joins.cell_of_block HK1.out 0
  have y0 := Joins.cell_of_block HK2.out 0
  have x1 := Joins.cell_of_block HK1.out 1
  have y1 := Joins.cell_of_block HK2.out 1
  have x2 := Joins.cell_of_block HK1.out 2
  have y2 := Joins.cell_of_block HK2.out 2
  have x3 := Joins.cell_of_block HK1.out 3
  have y3 := Joins.cell_of_block HK2.out 3
  have x4 := Joins.cell_of_block HK1.out 4
  have y4 := Joins.cell_of_block HK2.out 4
  have x5 := Joins.cell_of_block HK1.out 5
  have y5 := Joins.cell_of_block HK2.out 5
  have x6 := Joins.cell_of_block HK1.out 6
  have y6 := Joins.cell_of_block HK2.out 6
  have x7 := Joins.cell_of_block HK1.out 7
  have y7 := Joins.cell_of_block HK2.out 7
  have x8 := Joins.cell_of_block HK1.out 8
  have y8 := Joins.cell_of_block HK2.out 8
  have hx1 := Reg.size_of_get HK1.out
  have hx2 := Reg.size_of_get HK2.out
  simp only [List.getElem?_toArray, List.getElem?_cons_zero, List.getElem?_cons_succ] at x0 y0 x1 y1 x2 y2 x3 y3 x4 y4 x5 y5 x6 y6 x7 y7 x8 y8
  clear ht hu ih hres hW1 hlb
  by_cases e0 : (k == k') = true
  · skip
    have f0 : (k != k') = false := by rw [bne, e0]; rfl
    by_cases e1 : (s.a == s'.a && s.b == s'.b && s.c == s'.c && s.d == s'.d) = true
    · skip
      have e1m : eqW4 s s' = true := e1
      have f1 : ((s.a = s'.a ∧ s.b = s'.b) ∧ s.c = s'.c) ∧ s.d = s'.d := by simpa using e1
      by_cases e2 : (lo == lo') = true
      · skip
        have f2 : (lo != lo') = false := by rw [bne, e2]; rfl
        by_cases e3 : (hi == hi') = true
        · skip
          have f3 : (hi != hi') = false := by rw [bne, e3]; rfl
          by_cases e4 : (z == z') = true
          · skip
            have f4 : (z != z') = false := by rw [bne, e4]; rfl
            by_cases e5 : ((l.length : Int) == (l'.length : Int)) = true
            · skip
              have e5m : decide (l.length = l'.length) = true := by simpa [Int.natCast_inj] using e5
              have f5 : ((l.length : Int) != (l'.length : Int)) = false := by rw [bne, e5]; rfl
              have HF : Hid (res = sameL l l') := qhid (by rw [HS.out, HA.out, e0, e1m, e2, e3, e4, e5m]; simp)
              clear HA HS
              have Ke0 := qhid e0
              have Kf0 := qhid f0
              have Ke1 := qhid e1
              have Ke1m := qhid e1m
              have Kf1 := qhid f1
              have Ke2 := qhid e2
              have Kf2 := qhid f2
              have Ke3 := qhid e3
              have Kf3 := qhid f3
              have Ke4 := qhid e4
              have Kf4 := qhid f4
              have Ke5 := qhid e5
              have Ke5m := qhid e5m
              have Kf5 := qhid f5
              clear e0 f0 e1 e1m f1 e2 f2 e3 f3 e4 f4 e5 e5m f5
              go_enter Tryd.func8, Tryd.ntmps8
              go_upto_region 1 with fail
              rw [← HW1.out]
              clear HW1
              have e0 := Ke0.out
              have f0 := Kf0.out
              have f1 := Kf1.out
              have e2 := Ke2.out
              have f2 := Kf2.out
              have e3 := Ke3.out
              have f3 := Kf3.out
              have e4 := Ke4.out
              have f4 := Kf4.out
              have e5 := Ke5.out
              have f5 := Kf5.out
              go_upto_region 3 with fail
              clear e0 e2 e3 e4 e5 f0 f1 f2 f3 f4 f5 x0 x1 x2 x3 x4 x5 x6 x7 y0 y1 y2 y3 y4 y5 y6 y7
              have hlb : l.length ≤ 1099511000000 := by have := HLB.out; omega
              have hll : l.length = l'.length := by simpa using Ke5m.out
              have HLL := qhid hll
              clear hll
              go_wp2_with fail
              go_loopw [5] (fun iv wr => ∃ i : Nat, i ≤ l.length ∧ iv = .int .i64 (i : Int) ∧ Hid (∀ (j : Nat) (c c' : Tr), j < i → l[j]? = some c → l'[j]? = some c' → sameT c c' = true) ∧ Hid (Below W1.heap.size W1 wr)) (fun iv _ => l.length - (intOf iv).toNat)
              case atStart => exact ⟨0, by omega, rfl, qhid (fun j _ _ hj => by omega), qhid (Below.refl _ _)⟩
              case round =>
                obtain ⟨i, hi2, rfl, HJ, HB⟩ := hrel
                have HBW := qhid (HB1.out.trans (HB.out.mono HB1.out.size))
                have hb1 := (HB.out.block _ (Reg.size_of_get HK1.out)).trans HK1.out
                have hb2 := (HB.out.block _ (Reg.size_of_get HK2.out)).trans HK2.out
                have HQ1 := qhid hb1
                have HQ2 := qhid hb2
                have x8 := Joins.cell_of_block hb1 8
                have y8 := Joins.cell_of_block hb2 8
                have hl1 := Reg.size_of_get hb1
                have hl2 := Reg.size_of_get hb2
                simp only [List.getElem?_toArray, List.getElem?_cons_zero, List.getElem?_cons_succ] at x8 y8
                clear hb1 hb2
                by_cases hlt : i < l.length
                · obtain ⟨c, hc⟩ : ∃ c, l[i]? = some c := ⟨_, List.getElem?_eq_getElem hlt⟩
                  obtain ⟨c', hc'⟩ : ∃ c, l'[i]? = some c := ⟨_, List.getElem?_eq_getElem (by have := HLL.out; omega)⟩
                  have HCC := qhid (And.intro hc hc')
                  obtain ⟨k1, s1, lo1, hi1, z1, a1, b1, l1⟩ := c
                  obtain ⟨k2, s2, lo2, hi2, z2, a2, b2, l2⟩ := c'
                  obtain ⟨g, cp1, lu1, hv1, hg1, hr1, cc⟩ := (HT.out.up HBW.out).get hc
                  injection hv1 with hv1 _ hv2
                  subst hv1 hv2
                  obtain ⟨g', cp2, lu2, hv3, hg2, hr2, dd⟩ := (HU.out.up HBW.out).get hc'
                  injection hv3 with hv3 _ hv4
                  subst hv3 hv4
                  obtain ⟨pp, n1, cq, rfl⟩ := hr1.slice
                  obtain ⟨pp', n1', cq', rfl⟩ := hr2.slice
                  have HR := qhid (fun (X : World) (hX : Below wr.heap.size wr X) => HIH.out _ _ hc X (fun _ => True) (fun _ => True) _ _ ((hr1.up hX).mono (fun _ _ _ => trivial)) ((hr2.up hX).mono (fun _ _ _ => trivial)))
                  have HC1 := qhid cc
                  have HC2 := qhid dd
                  have HG1 := qhid hg1
                  have HG2 := qhid hg2
                  obtain ⟨r, hr⟩ : ∃ r, r = sameT (.mk k1 s1 lo1 hi1 z1 a1 b1 l1) (.mk k2 s2 lo2 hi2 z2 a2 b2 l2) := ⟨_, rfl⟩
                  have HRR := qhid hr
                  rw [← hr] at HR
                  clear hr1 hr2 cc dd hc hc' hr hg1 hg2
                  have hi9 : i < l'.length := by have := HLL.out; omega
                  go_upto_region 6 with fail
                  refine Reg.wp_region_C (rsTold g g' w.heap.size (w.heap.size + 1) l.length l'.length cap cap' i (.agg #[.int .i64 k1, .int .u64 s1.a, .int .u64 s1.b, .int .u64 s1.c, .int .u64 s1.d, .int .i64 lo1, .int .i64 hi1, .bool z1, (.slice pp n1 cq), .int .i64 (a1 : Int), .int .i64 (b1 : Int)]) (.agg #[.int .i64 k2, .int .u64 s2.a, .int .u64 s2.b, .int .u64 s2.c, .int .u64 s2.d, .int .i64 lo2, .int .i64 hi2, .bool z2, (.slice pp' n1' cq'), .int .i64 (a2 : Int), .int .i64 (b2 : Int)]) r) (fun _ X => Below wr.heap.size wr X) [0, 1, 2, 3, 4, 5, 6, 7, 8, 9, 10, 11] (by rfl) (by kernel_rfl) (by kernel_rfl) ?_ ?_ ?_
                  · exact Below.drew (Below.refl _ _)
                  · skip
                    refine ⟨fun listed A X hI hcl hin hun hall => .inl ⟨Reg.wanted_none rfl, ?_⟩, ?_⟩
                    · have e2 := hI.evo (d := 2) (by kernel_rfl) rfl
                      have hX : Below wr.heap.size wr X := hI.st
                      have hb := (hX.block _ (Reg.size_of_get HQ1.out)).trans HQ1.out
                      have v8 := Joins.cell_of_block hb 8
                      have hyl := Reg.size_of_get hb
                      simp only [List.getElem?_toArray, List.getElem?_cons_zero, List.getElem?_cons_succ] at v8
                      clear hb
                      have HX := qhid hX
                      clear hI hall hX hcl
                      unfold Reg.Yields
                      go_simp
                      first | rfl | exact ⟨rfl, HX.out⟩ | (refine ⟨?_, HX.out⟩; simp [rsTold]; done) | (refine ⟨?_, HX.out⟩; simp [rsTold]; assumption)
                    refine ⟨fun listed A X hI hcl hin hun hall => .inl ⟨Reg.wanted_none rfl, ?_⟩, ?_⟩
                    · have e55 : A.tmps[55]? = some (.pointer (some ⟨w.heap.size, 8, none⟩)) := hI.ev (i := 0) (d := 55) (by rfl) (hall ⟨0, .data⟩ (by simp) rfl)
                      have hX : Below wr.heap.size wr X := hI.st
                      have hb := (hX.block _ (Reg.size_of_get HQ1.out)).trans HQ1.out
                      have v8 := Joins.cell_of_block hb 8
                      have hyl := Reg.size_of_get hb
                      simp only [List.getElem?_toArray, List.getElem?_cons_zero, List.getElem?_cons_succ] at v8
                      clear hb
                      have HX := qhid hX
                      clear hI hall hX hcl
                      unfold Reg.Yields
                      go_simp
                      first | rfl | exact ⟨rfl, HX.out⟩ | (refine ⟨?_, HX.out⟩; simp [rsTold]; done) | (refine ⟨?_, HX.out⟩; simp [rsTold]; assumption)
                    refine ⟨fun listed A X hI hcl hin hun hall => .inl ⟨Reg.wanted_none rfl, ?_⟩, ?_⟩
                    · have e5 := hI.evo (d := 5) (by kernel_rfl) rfl
                      have hX : Below wr.heap.size wr X := hI.st
                      have HX := qhid hX
                      clear hI hall hX hcl
                      unfold Reg.Yields
                      go_simp
                      first | rfl | exact ⟨rfl, HX.out⟩ | (refine ⟨?_, HX.out⟩; simp [rsTold]; done) | (refine ⟨?_, HX.out⟩; simp [rsTold]; assumption)
                    refine ⟨fun listed A X hI hcl hin hun hall => .inl ⟨Reg.wanted_none rfl, ?_⟩, ?_⟩
                    · have e56 : A.tmps[56]? = some (.slice (some ⟨g, 0, none⟩) l.length cap) := hI.ev (i := 1) (d := 56) (by rfl) (hall ⟨1, .data⟩ (by simp) rfl)
                      have e57 : A.tmps[57]? = some (.int .i64 (i : Int)) := hI.ev (i := 2) (d := 57) (by rfl) (hall ⟨2, .data⟩ (by simp) rfl)
                      have hX : Below wr.heap.size wr X := hI.st
                      have HX := qhid hX
                      clear hI hall hX hcl
                      unfold Reg.Yields
                      go_simp
                      first | rfl | exact ⟨rfl, HX.out⟩ | (refine ⟨?_, HX.out⟩; simp [rsTold]; done) | (refine ⟨?_, HX.out⟩; simp [rsTold]; assumption)
                    refine ⟨fun listed A X hI hcl hin hun hall => .inl ⟨Reg.wanted_none rfl, ?_⟩, ?_⟩
                    · have e58 : A.tmps[58]? = some (.pointer (some ⟨g, i * 11, none⟩)) := hI.ev (i := 3) (d := 58) (by rfl) (hall ⟨3, .data⟩ (by simp) rfl)
                      have hX : Below wr.heap.size wr X := hI.st
                      obtain ⟨c0, ⟨c1, c2, c3, c4⟩, c5, c6, c7, c8, c9, c10⟩ := HC1.out
                      have hgx := Nat.lt_of_lt_of_le HG1.out hX.size
                      have f0 := (hX.cell (p := ⟨g, i * 11, none⟩) HG1.out).trans c0
                      have f1 := (hX.cell (p := ⟨g, i * 11 + 1, none⟩) HG1.out).trans c1
                      have f2 := (hX.cell (p := ⟨g, i * 11 + 2, none⟩) HG1.out).trans c2
                      have f3 := (hX.cell (p := ⟨g, i * 11 + 3, none⟩) HG1.out).trans c3
                      have f4 := (hX.cell (p := ⟨g, i * 11 + 4, none⟩) HG1.out).trans c4
                      have f5 := (hX.cell (p := ⟨g, i * 11 + 5, none⟩) HG1.out).trans c5
                      have f6 := (hX.cell (p := ⟨g, i * 11 + 6, none⟩) HG1.out).trans c6
                      have f7 := (hX.cell (p := ⟨g, i * 11 + 7, none⟩) HG1.out).trans c7
                      have f8 := (hX.cell (p := ⟨g, i * 11 + 8, none⟩) HG1.out).trans c8
                      have f9 := (hX.cell (p := ⟨g, i * 11 + 9, none⟩) HG1.out).trans c9
                      have f10 := (hX.cell (p := ⟨g, i * 11 + 10, none⟩) HG1.out).trans c10
                      clear c0 c1 c2 c3 c4 c5 c6 c7 c8 c9 c10
                      have HX := qhid hX
                      clear hI hall hX hcl
                      unfold Reg.Yields
                      go_simp
                      first | rfl | exact ⟨rfl, HX.out⟩ | (refine ⟨?_, HX.out⟩; simp [rsTold]; done) | (refine ⟨?_, HX.out⟩; simp [rsTold]; assumption)
                    refine ⟨fun listed A X hI hcl hin hun hall => .inl ⟨Reg.wanted_none rfl, ?_⟩, ?_⟩
                    · have e3 := hI.evo (d := 3) (by kernel_rfl) rfl
                      have hX : Below wr.heap.size wr X := hI.st
                      have hb := (hX.block _ (Reg.size_of_get HQ2.out)).trans HQ2.out
                      have v8 := Joins.cell_of_block hb 8
                      have hyl := Reg.size_of_get hb
                      simp only [List.getElem?_toArray, List.getElem?_cons_zero, List.getElem?_cons_succ] at v8
                      clear hb
                      have HX := qhid hX
                      clear hI hall hX hcl
                      unfold Reg.Yields
                      go_simp
                      first | rfl | exact ⟨rfl, HX.out⟩ | (refine ⟨?_, HX.out⟩; simp [rsTold]; done) | (refine ⟨?_, HX.out⟩; simp [rsTold]; assumption)
                    refine ⟨fun listed A X hI hcl hin hun hall => .inl ⟨Reg.wanted_none rfl, ?_⟩, ?_⟩
                    · have e60 : A.tmps[60]? = some (.pointer (some ⟨w.heap.size + 1, 8, none⟩)) := hI.ev (i := 5) (d := 60) (by rfl) (hall ⟨5, .data⟩ (by simp) rfl)
                      have hX : Below wr.heap.size wr X := hI.st
                      have hb := (hX.block _ (Reg.size_of_get HQ2.out)).trans HQ2.out
                      have v8 := Joins.cell_of_block hb 8
                      have hyl := Reg.size_of_get hb
                      simp only [List.getElem?_toArray, List.getElem?_cons_zero, List.getElem?_cons_succ] at v8
                      clear hb
                      have HX := qhid hX
                      clear hI hall hX hcl
                      unfold Reg.Yields
                      go_simp
                      first | rfl | exact ⟨rfl, HX.out⟩ | (refine ⟨?_, HX.out⟩; simp [rsTold]; done) | (refine ⟨?_, HX.out⟩; simp [rsTold]; assumption)
                    refine ⟨fun listed A X hI hcl hin hun hall => .inl ⟨Reg.wanted_none rfl, ?_⟩, ?_⟩
                    · have e5 := hI.evo (d := 5) (by kernel_rfl) rfl
                      have hX : Below wr.heap.size wr X := hI.st
                      have HX := qhid hX
                      clear hI hall hX hcl
                      unfold Reg.Yields
                      go_simp
                      first | rfl | exact ⟨rfl, HX.out⟩ | (refine ⟨?_, HX.out⟩; simp [rsTold]; done) | (refine ⟨?_, HX.out⟩; simp [rsTold]; assumption)
                    refine ⟨fun listed A X hI hcl hin hun hall => .inl ⟨Reg.wanted_none rfl, ?_⟩, ?_⟩
                    · have e61 : A.tmps[61]? = some (.slice (some ⟨g', 0, none⟩) l'.length cap') := hI.ev (i := 6) (d := 61) (by rfl) (hall ⟨6, .data⟩ (by simp) rfl)
                      have e62 : A.tmps[62]? = some (.int .i64 (i : Int)) := hI.ev (i := 7) (d := 62) (by rfl) (hall ⟨7, .data⟩ (by simp) rfl)
                      have hX : Below wr.heap.size wr X := hI.st
                      have HX := qhid hX
                      clear hI hall hX hcl
                      unfold Reg.Yields
                      go_simp
                      first | rfl | exact ⟨rfl, HX.out⟩ | (refine ⟨?_, HX.out⟩; simp [rsTold]; done) | (refine ⟨?_, HX.out⟩; simp [rsTold]; assumption)
                    refine ⟨fun listed A X hI hcl hin hun hall => .inl ⟨Reg.wanted_none rfl, ?_⟩, ?_⟩
                    · have e63 : A.tmps[63]? = some (.pointer (some ⟨g', i * 11, none⟩)) := hI.ev (i := 8) (d := 63) (by rfl) (hall ⟨8, .data⟩ (by simp) rfl)
                      have hX : Below wr.heap.size wr X := hI.st
                      obtain ⟨c0, ⟨c1, c2, c3, c4⟩, c5, c6, c7, c8, c9, c10⟩ := HC2.out
                      have hgx := Nat.lt_of_lt_of_le HG2.out hX.size
                      have f0 := (hX.cell (p := ⟨g', i * 11, none⟩) HG2.out).trans c0
                      have f1 := (hX.cell (p := ⟨g', i * 11 + 1, none⟩) HG2.out).trans c1
                      have f2 := (hX.cell (p := ⟨g', i * 11 + 2, none⟩) HG2.out).trans c2
                      have f3 := (hX.cell (p := ⟨g', i * 11 + 3, none⟩) HG2.out).trans c3
                      have f4 := (hX.cell (p := ⟨g', i * 11 + 4, none⟩) HG2.out).trans c4
                      have f5 := (hX.cell (p := ⟨g', i * 11 + 5, none⟩) HG2.out).trans c5
                      have f6 := (hX.cell (p := ⟨g', i * 11 + 6, none⟩) HG2.out).trans c6
                      have f7 := (hX.cell (p := ⟨g', i * 11 + 7, none⟩) HG2.out).trans c7
                      have f8 := (hX.cell (p := ⟨g', i * 11 + 8, none⟩) HG2.out).trans c8
                      have f9 := (hX.cell (p := ⟨g', i * 11 + 9, none⟩) HG2.out).trans c9
                      have f10 := (hX.cell (p := ⟨g', i * 11 + 10, none⟩) HG2.out).trans c10
                      clear c0 c1 c2 c3 c4 c5 c6 c7 c8 c9 c10
                      have HX := qhid hX
                      clear hI hall hX hcl
                      unfold Reg.Yields
                      go_simp
                      first | rfl | exact ⟨rfl, HX.out⟩ | (refine ⟨?_, HX.out⟩; simp [rsTold]; done) | (refine ⟨?_, HX.out⟩; simp [rsTold]; assumption)
                    refine ⟨fun listed A X hI hcl hin hun hall => .inl ⟨Reg.wanted_none rfl, ?_⟩, ?_⟩
                    · have e59 : A.tmps[59]? = some (.agg #[.int .i64 k1, .int .u64 s1.a, .int .u64 s1.b, .int .u64 s1.c, .int .u64 s1.d, .int .i64 lo1, .int .i64 hi1, .bool z1, (.slice pp n1 cq), .int .i64 (a1 : Int), .int .i64 (b1 : Int)]) := hI.ev (i := 4) (d := 59) (by rfl) (hall ⟨4, .data⟩ (by simp) rfl)
                      have e64 : A.tmps[64]? = some (.agg #[.int .i64 k2, .int .u64 s2.a, .int .u64 s2.b, .int .u64 s2.c, .int .u64 s2.d, .int .i64 lo2, .int .i64 hi2, .bool z2, (.slice pp' n1' cq'), .int .i64 (a2 : Int), .int .i64 (b2 : Int)]) := hI.ev (i := 9) (d := 64) (by rfl) (hall ⟨9, .data⟩ (by simp) rfl)
                      have hX : Below wr.heap.size wr X := hI.st
                      have HX := qhid hX
                      clear hI hall hX hcl
                      unfold Reg.Yields
                      go_simp
                      exact (HR.out X HX.out).mono fun e w'' ⟨he, hb⟩ => ⟨_, he, rfl, HX.out.trans (hb.mono HX.out.size)⟩
                    refine ⟨fun listed A X hI hcl hin hun hall => .inl ⟨Reg.wanted_none rfl, ?_⟩, ?_⟩
                    · have e65 : A.tmps[65]? = some (.bool r) := hI.ev (i := 10) (d := 65) (by rfl) (hall ⟨10, .data⟩ (by simp) rfl)
                      have hX : Below wr.heap.size wr X := hI.st
                      have HX := qhid hX
                      clear hI hall hX hcl
                      unfold Reg.Yields
                      go_simp
                      first | rfl | exact ⟨rfl, HX.out⟩ | (refine ⟨?_, HX.out⟩; simp [rsTold]; done) | (refine ⟨?_, HX.out⟩; simp [rsTold]; assumption)
                    trivial
                  · intro X hS
                    have HX := qhid hS
                    clear hS
                    simp [Reg.finalTmps, Reg.dstAt, Reg.valOf, rsTold]
                    have HBX := qhid (HB.out.trans (HX.out.mono HB.out.size))
                    have HBY := qhid (HB1.out.trans (HBX.out.mono HB1.out.size))
                    clear HQ1 HQ2 HC1 HC2 HG1 HG2 HR x8 y8
                    cases r with
                    | false =>
                      have HFF : Hid (res = false) := qhid (by
                        rw [HF.out]
                        cases e : sameL l l' with
                        | false => rfl
                        | true => have h := (sameL_iff l l').1 e i _ _ HCC.out.1 HCC.out.2; rw [← HRR.out] at h; cases h)
                      go_wp2_with fail
                      exact bodyPost_ret (v := .bool false) (by simp [results, Tryd.results8, go_sem]) rfl ⟨by rw [HFF.out], HBY.out⟩
                    | true =>
                      have HJ2 : Hid (∀ (j : Nat) (c c' : Tr), j < i + 1 → l[j]? = some c → l'[j]? = some c' → sameT c c' = true) := qhid (fun j c c' hj h1 h2 => by
                        by_cases hji : j < i
                        · exact HJ.out j c c' hji h1 h2
                        · obtain rfl : j = i := by omega
                          obtain ⟨h3, h4⟩ := HCC.out
                          rw [h3] at h1; rw [h4] at h2
                          injection h1 with h1; injection h2 with h2
                          rw [← h1, ← h2, ← HRR.out])
                      go_wp2_with fail
                      go_roundw
                      case rel => exact ⟨i + 1, by omega, by go_num, HJ2, HBX⟩
                      case measure => simp [intOf]; omega
                · have HFF : Hid (res = true) := qhid (by rw [HF.out]; exact (sameL_iff l l').2 (fun j c c' h1 h2 => HJ.out j c c' (by have := (List.getElem?_eq_some_iff.1 h1).1; omega) h1 h2))
                  go_wp2_with fail
                  exact bodyPost_ret (v := .bool true) (by simp [results, Tryd.results8, go_sem]) rfl ⟨by rw [HFF.out], HBW.out⟩
            · skip
              replace e5 : ((l.length : Int) == (l'.length : Int)) = false := by simpa only [Bool.not_eq_true] using e5
              have e5m : decide (l.length = l'.length) = false := by simpa [Int.natCast_inj] using e5
              have f5 : ((l.length : Int) != (l'.length : Int)) = true := by rw [bne, e5]; rfl
              have HF : Hid (res = false) := qhid (by rw [HS.out, HA.out, e0, e1m, e2, e3, e4, e5m]; simp)
              clear HA HS HIH
              have Ke0 := qhid e0
              have Kf0 := qhid f0
              have Ke1 := qhid e1
              have Ke1m := qhid e1m
              have Kf1 := qhid f1
              have Ke2 := qhid e2
              have Kf2 := qhid f2
              have Ke3 := qhid e3
              have Kf3 := qhid f3
              have Ke4 := qhid e4
              have Kf4 := qhid f4
              have Ke5 := qhid e5
              have Ke5m := qhid e5m
              have Kf5 := qhid f5
              clear e0 f0 e1 e1m f1 e2 f2 e3 f3 e4 f4 e5 e5m f5
              go_enter Tryd.func8, Tryd.ntmps8
              go_upto_region 1 with fail
              rw [← HW1.out]
              clear HW1
              have e0 := Ke0.out
              have f0 := Kf0.out
              have f1 := Kf1.out
              have e2 := Ke2.out
              have f2 := Kf2.out
              have e3 := Ke3.out
              have f3 := Kf3.out
              have e4 := Ke4.out
              have f4 := Kf4.out
              have e5 := Ke5.out
              have f5 := Kf5.out
              go_wp2_with fail
              exact bodyPost_ret (v := .bool false) (by simp [results, Tryd.results8, go_sem]) rfl ⟨by rw [HF.out], HB1.out⟩
          · skip
            replace e4 : (z == z') = false := by simpa only [Bool.not_eq_true] using e4
            have f4 : (z != z') = true := by rw [bne, e4]; rfl
            have HF : Hid (res = false) := qhid (by rw [HS.out, HA.out, e0, e1m, e2, e3, e4]; simp)
            clear HA HS HIH
            have Ke0 := qhid e0
            have Kf0 := qhid f0
            have Ke1 := qhid e1
            have Ke1m := qhid e1m
            have Kf1 := qhid f1
            have Ke2 := qhid e2
            have Kf2 := qhid f2
            have Ke3 := qhid e3
            have Kf3 := qhid f3
            have Ke4 := qhid e4
            have Kf4 := qhid f4
            clear e0 f0 e1 e1m f1 e2 f2 e3 f3 e4 f4
            go_enter Tryd.func8, Tryd.ntmps8
            go_upto_region 1 with fail
            rw [← HW1.out]
            clear HW1
            have e0 := Ke0.out
            have f0 := Kf0.out
            have f1 := Kf1.out
            have e2 := Ke2.out
            have f2 := Kf2.out
            have e3 := Ke3.out
            have f3 := Kf3.out
            have e4 := Ke4.out
            have f4 := Kf4.out
            go_wp2_with fail
            exact bodyPost_ret (v := .bool false) (by simp [results, Tryd.results8, go_sem]) rfl ⟨by rw [HF.out], HB1.out⟩
        · skip
          replace e3 : (hi == hi') = false := by simpa only [Bool.not_eq_true] using e3
          have f3 : (hi != hi') = true := by rw [bne, e3]; rfl
          have HF : Hid (res = false) := qhid (by rw [HS.out, HA.out, e0, e1m, e2, e3]; simp)
          clear HA HS HIH
          have Ke0 := qhid e0
          have Kf0 := qhid f0
          have Ke1 := qhid e1
          have Ke1m := qhid e1m
          have Kf1 := qhid f1
          have Ke2 := qhid e2
          have Kf2 := qhid f2
          have Ke3 := qhid e3
          have Kf3 := qhid f3
          clear e0 f0 e1 e1m f1 e2 f2 e3 f3
          go_enter Tryd.func8, Tryd.ntmps8
          go_upto_region 1 with fail
          rw [← HW1.out]
          clear HW1
          have e0 := Ke0.out
          have f0 := Kf0.out
          have f1 := Kf1.out
          have e2 := Ke2.out
          have f2 := Kf2.out
          have e3 := Ke3.out
          have f3 := Kf3.out
          go_wp2_with fail
          exact bodyPost_ret (v := .bool false) (by simp [results, Tryd.results8, go_sem]) rfl ⟨by rw [HF.out], HB1.out⟩
      · skip
        replace e2 : (lo == lo') = false := by simpa only [Bool.not_eq_true] using e2
        have f2 : (lo != lo') = true := by rw [bne, e2]; rfl
        have HF : Hid (res = false) := qhid (by rw [HS.out, HA.out, e0, e1m, e2]; simp)
        clear HA HS HIH
        have Ke0 := qhid e0
        have Kf0 := qhid f0
        have Ke1 := qhid e1
        have Ke1m := qhid e1m
        have Kf1 := qhid f1
        have Ke2 := qhid e2
        have Kf2 := qhid f2
        clear e0 f0 e1 e1m f1 e2 f2
        go_enter Tryd.func8, Tryd.ntmps8
        go_upto_region 1 with fail
        rw [← HW1.out]
        clear HW1
        have e0 := Ke0.out
        have f0 := Kf0.out
        have f1 := Kf1.out
        have e2 := Ke2.out
        have f2 := Kf2.out
        go_wp2_with fail
        exact bodyPost_ret (v := .bool false) (by simp [results, Tryd.results8, go_sem]) rfl ⟨by rw [HF.out], HB1.out⟩
    · skip
      replace e1 : (s.a == s'.a && s.b == s'.b && s.c == s'.c && s.d == s'.d) = false := by simpa only [Bool.not_eq_true] using e1
      have e1m : eqW4 s s' = false := e1
      have f1 : ¬ (((s.a = s'.a ∧ s.b = s'.b) ∧ s.c = s'.c) ∧ s.d = s'.d) := by simpa using e1
      have HF : Hid (res = false) := qhid (by rw [HS.out, HA.out, e0, e1m]; simp)
      clear HA HS HIH
      have Ke0 := qhid e0
      have Kf0 := qhid f0
      have Ke1 := qhid e1
      have Ke1m := qhid e1m
      have Kf1 := qhid f1
      clear e0 f0 e1 e1m f1
      go_enter Tryd.func8, Tryd.ntmps8
      go_upto_region 1 with fail
      rw [← HW1.out]
      clear HW1
      have e0 := Ke0.out
      have f0 := Kf0.out
      have f1 := Kf1.out
      go_wp2_with fail
      exact bodyPost_ret (v := .bool false) (by simp [results, Tryd.results8, go_sem]) rfl ⟨by rw [HF.out], HB1.out⟩
  · skip
    replace e0 : (k == k') = false := by simpa only [Bool.not_eq_true] using e0
    have f0 : (k != k') = true := by rw [bne, e0]; rfl
    have HF : Hid (res = false) := qhid (by rw [HS.out, HA.out, e0]; simp)
    clear HA HS HIH
    have Ke0 := qhid e0
    have Kf0 := qhid f0
    clear e0 f0
    go_enter Tryd.func8, Tryd.ntmps8
    go_upto_region 1 with fail
    rw [← HW1.out]
    clear HW1
    have e0 := Ke0.out
    have f0 := Kf0.out
    go_wp2_with fail
    exact bodyPost_ret (v := .bool false) (by simp [results, Tryd.results8, go_sem]) rfl ⟨by rw [HF.out], HB1.out⟩
theorem rsame_any : ∀ (n : Nat) (t u : Tr) (A A' : Nat → Prop) (lv lv' : Value) (w : World), trSize t ≤ n → n ≤ 1099511000000 → RnAt w A t lv → RnAt w A' u lv' →
    Calls Tryd.prog 8 #[rnV t lv, rnV u lv'] w fun e w' => e = .returned (.bool (sameT t u)) ∧ Below w.heap.size w w'
  | 0, t, u, A, A', lv, lv', w, h, _, _, _ => by have := trSize_pos t; omega
  | n + 1, .mk k s lo hi z a b l, .mk k' s' lo' hi' z' a' b' l', A, A', lv, lv', w, h, hn, ht, hu => by
    rw [trSize] at h
    have hl := trSizes_len l
    exact rsame_step k s lo hi z a b l k' s' lo' hi' z' a' b' l' A A' lv lv' w (by omega) ht hu (fun c c' i hc X B B' v v' h1 h2 => rsame_any n c c' B B' v v' X (by have := trSize_mem (List.mem_of_getElem? hc); omega) (by omega) h1 h2)
end
end Go.Proofs.YtaliapknkpdmdaaDoor
