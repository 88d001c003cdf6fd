/- The law NatTables, walked. -/
import Derived.Test.YtcpdobldconnaaaNatH
import Derived.Test.YtcpdobldconnaaaOpenRows
namespace Go.Proofs.Ytcpdobldconnaaa
open Go Go.RowKit
attribute [local go_sem ↓] Go.wp_at_zero Go.wp_at_succ
theorem belowN {B : Nat} {a w : World} (h : Below B a w) (n : Nat) : Below B a (w.drewN n) := ⟨h.os, h.tape, h.output, h.size, h.block⟩
theorem refadd_q (a b : Int) (w : World) (ha : a ≤ top) (hb : b ≤ top) :
    Calls Try.prog 26 #[.int .i64 a, .int .i64 b] w fun e w' => e = .returned (.int .i64 (pl a b)) ∧ w' = w := (refadd_any a b w ha hb).mono fun _ _ ⟨he, hw⟩ => ⟨he, hw.symm⟩
theorem refmul_q (a b : Int) (w : World) (ha : a ≤ top) (hb : b ≤ top) :
    Calls Try.prog 27 #[.int .i64 a, .int .i64 b] w fun e w' => e = .returned (.int .i64 (ti a b)) ∧ w' = w := (refmul_any a b w ha hb).mono fun _ _ ⟨he, hw⟩ => ⟨he, hw.symm⟩
/-- A table of n rows of W numbers lies there. -/
def TabAt (w : World) (p : Option Addr) (n W : Nat) (F : Nat → Nat → Int) : Prop :=
  ∀ i, i < n → ∃ g h, p = some ⟨g, 0, none⟩ ∧ w.cell? ⟨g, i, none⟩ = some (.slice (some ⟨h, 0, none⟩) W W) ∧ g < w.heap.size ∧ h < w.heap.size ∧ ∀ c, c < W → w.cell? ⟨h, c, none⟩ = some (.int .i64 (F i c))
theorem TabAt.below {w w' : World} {p : Option Addr} {n W : Nat} {F : Nat → Nat → Int} (h : TabAt w p n W F) (hb : Below w.heap.size w w') : TabAt w' p n W F := by
  intro i hi
  obtain ⟨g, k, hp, hc, hg, hk, hF⟩ := h i hi
  exact ⟨g, k, hp, (hb.cell (p := ⟨g, i, none⟩) hg).trans hc, Nat.lt_of_lt_of_le hg hb.size, Nat.lt_of_lt_of_le hk hb.size, fun c hcW => (hb.cell (p := ⟨k, c, none⟩) hk).trans (hF c hcW)⟩
theorem MatRel.tab {w w' : World} {W : Nat} {F : Nat → Nat → Int} {n : Nat} {vm : Value} (h : MatRel w W F n vm w') : ∃ p cap, vm = .slice p n cap ∧ TabAt w' p n W F := by
  obtain ⟨G, ho, hG, _⟩ := h
  rcases ho.2 with ⟨rfl, rfl⟩ | ⟨g, cap, cur, rfl, _, hh, hn, _, hs, ht⟩
  · exact ⟨none, 0, rfl, fun i hi => absurd hi (by omega)⟩
  · refine ⟨_, cap, rfl, fun i hi => ⟨g, G i, rfl, ?_, sizeOfGet hh, sizeOfGet (hG i hi).1, fun c hc => ?_⟩⟩
    · rw [Joins.cell_of_block hh i]
      have e : cur.toList[i]? = (rowsOf G W n)[i]? := by
        rw [← ht, List.getElem?_take]; simp [hi]
      rw [← Array.getElem?_toList, e]
      unfold rowsOf; simp [hi]
    · rw [Joins.cell_of_block (hG i hi).1 c]; exact il_at _ _ _ hc
set_option maxHeartbeats 8000000 in
set_option maxRecDepth 100000 in
theorem tables_long (pa pb px py : Option Addr) (na nb nx ny ca cb cx cy : Nat) (A' : Nat → Option Addr) (L' C' : Nat → Nat) (Z' : Nat → Nat → Int) (A : Nat → Option Addr) (L C : Nat → Nat) (Z : Nat → Nat → Int) (x y : Nat → Int) (w : World)
    (ha : RowsAt w pa na A' L' C' Z') (hb : RowsAt w pb nb A L C Z) (hx : RowAt w px nx x) (hy : RowAt w py ny y) (h : 8 < na ∨ (na ≤ 8 ∧ 8 < nb) ∨ (na ≤ 8 ∧ nb ≤ 8 ∧ 50 < nx) ∨ (na ≤ 8 ∧ nb ≤ 8 ∧ nx ≤ 50 ∧ 50 < ny)) :
    Calls Try.prog 8 #[.slice pa na ca, .slice pb nb cb, .slice px nx cx, .slice py ny cy] w fun e w' => e = .returned (.bool true) ∧ Below w.heap.size w w' := by
  have na63 := ha.1
  have nb63 := hb.1
  have nx63 := hx.1
  have ny63 := hy.1
  clear ha hb hx hy
  rcases h with h | ⟨h1, h⟩ | ⟨h1, h2, h⟩ | ⟨h1, h2, h3, h⟩
  all_goals
    go_enter Try.func8, Try.ntmps8
    go_wp2_with fail
    refine (nawake_any _).mono ?_
    rintro e w1 ⟨rfl, hb1⟩
    go_wp2
    go_ret
    exact ⟨rfl, hb1⟩
set_option maxHeartbeats 8000000 in
set_option maxRecDepth 100000 in
theorem tables_a (pa pb px py : Option Addr) (na nb nx ny ca cb cx cy : Nat) (A' : Nat → Option Addr) (L' C' : Nat → Nat) (Z' : Nat → Nat → Int) (A : Nat → Option Addr) (L C : Nat → Nat) (Z : Nat → Nat → Int) (x y : Nat → Int) (w : World)
    (ha : RowsAt w pa na A' L' C' Z') (hb : RowsAt w pb nb A L C Z) (hx : RowAt w px nx x) (hy : RowAt w py ny y) (h8 : na ≤ 8) (h8b : nb ≤ 8) (h50 : nx ≤ 50) (h50y : ny ≤ 50) (N : Nat) (hc : ny < nx) (hN : N = ny) :
    Calls Try.prog 8 #[.slice pa na ca, .slice pb nb cb, .slice px nx cx, .slice py ny cy] w fun e w' => e = .returned (.bool true) ∧ Below w.heap.size w w' := by
  have na63 := ha.1
  have nb63 := hb.1
  have nx63 := hx.1
  have ny63 := hy.1
  have hmin : min nx ny = N := by omega
  have HA := nhid ha
  have HB := nhid hb
  have HX := nhid hx
  have HY := nhid hy
  have HN := nhid hN
  have HMIN := nhid hmin
  have hNx : N ≤ nx := by omega
  have hNy : N ≤ ny := by omega
  clear ha hb hx hy hN hmin na63 nb63 nx63 ny63
  go_enter Try.func8, Try.ntmps8
  go_wp2_with fail
  go_loopw [9, 10] (fun t i wr => ∃ k : Nat, k ≤ N ∧ i = .int .i64 k ∧ t = .int .i64 (dotf x y k) ∧ Below w.heap.size w wr) (fun _ i _ => N - (intOf i).toNat)
  case atStart => exact ⟨0, by omega, rfl, rfl, Below.refl _ _⟩
  case round =>
    obtain ⟨k, hk, rfl, rfl, hbl⟩ := hrel
    have HBL := nhid hbl
    clear hbl
    by_cases hlt : k < N
    · obtain ⟨g, o, rfl, hg, hx⟩ := HX.out.2.resolve_left (by omega)
      obtain ⟨g2, o2, rfl, hg2, hy⟩ := HY.out.2.resolve_left (by omega)
      have hcx : wr.cell? ⟨g, o + k, none⟩ = some (.int .i64 (x k)) := (HBL.out.cell (p := ⟨g, o + k, none⟩) hg).trans (hx k (by omega)).1
      have hcy : wr.cell? ⟨g2, o2 + k, none⟩ = some (.int .i64 (y k)) := (HBL.out.cell (p := ⟨g2, o2 + k, none⟩) hg2).trans (hy k (by omega)).1
      have TX := nhid (hx k (by omega)).2
      have TY := nhid (hy k (by omega)).2
      have hkn : (k : Int) < nx := by omega
      have hkm : (k : Int) < ny := by omega
      have k0 : (0 : Int) ≤ (k : Int) := by omega
      clear hx hy HX HY
      go_wp2_with fail
      go_quiet ((first
          | (go_at_call 27; exact Calls.quiet_of_same (refmul_q _ _ _ TX.out TY.out))
          | (go_at_call 26; exact Calls.quiet_of_same (refadd_q _ _ _ (dotf_le x y k) (ti_le _ _)))))
      go_wp2
      exact ⟨⟨k + 1, by omega, by go_num, rfl, belowN HBL.out nq⟩, by simp [intOf]; omega⟩
    · have e1 : k = N := by omega
      subst e1
      have HAw := nhid (HA.out.below HBL.out (Nat.le_refl _))
      have HBw := nhid (HB.out.below HBL.out (Nat.le_refl _))
      have HXw := nhid (HX.out.below HBL.out (Nat.le_refl _))
      have HYw := nhid (HY.out.below HBL.out (Nat.le_refl _))
      clear HA HB HX HY
      have hkn : (k : Int) < nx := by have := HN.out; omega
      have hkm : ¬ (k : Int) < ny := by have := HN.out; omega
      go_wp2_with fail
      go_loop [11, 12] (fun t i => ∃ j : Nat, j ≤ nb ∧ i = .int .i64 j ∧ t = .int .i64 (wid L j : Int) ∧ Hid (∀ i, i < j → L i ≤ 20)) (fun _ i => nb - (intOf i).toNat)
      case atStart => exact ⟨0, by omega, rfl, rfl, fun i hi => absurd hi (by omega)⟩
      case round =>
        obtain ⟨j, hj, rfl, rfl, HL⟩ := hrel
        by_cases hjl : j < nb
        · obtain ⟨g, o, rfl, hg, hr⟩ := HBw.out.2.resolve_left (by omega)
          have hcell := (hr j hjl).1
          have hl63 := (hr j hjl).2.1
          have hjb : (j : Int) < nb := by omega
          have HG := nhid HBw.out
          clear hr HBw
          by_cases h20 : 20 < L j
          · go_wp2_with fail
            refine (nawake_any _).mono ?_
            rintro e w1 ⟨rfl, hb1⟩
            have HF := nhid (HBL.out.trans (hb1.mono HBL.out.size))
            clear hb1
            go_wp2
            go_ret
            exact ⟨rfl, HF.out⟩
          · have hw20 := wid_le L 20 j HL.out
            have HL2 : Hid (∀ i, i < j + 1 → L i ≤ 20) := fun i hi => by
              by_cases e : i = j
              · subst e; omega
              · exact HL.out i (by omega)
            have h20' : L j ≤ 20 := by omega
            clear h20
            by_cases hmx : wid L j < L j
            · have HE := nhid (show wid L (j + 1) = L j by show max (wid L j) (L j) = _; omega)
              go_wp2_with fail
              go_round
              case rel => exact ⟨j + 1, by omega, by go_num, by rw [HE.out], HL2⟩
              case measure => simp [intOf]; omega
            · have HE := nhid (show wid L (j + 1) = wid L j by show max (wid L j) (L j) = _; omega)
              go_wp2_with fail
              go_round
              case rel => exact ⟨j + 1, by omega, by go_num, by rw [HE.out], HL2⟩
              case measure => simp [intOf]; omega
        · have e1 : j = nb := by omega
          subst e1
          go_wp2_with fail
          refine (matrix_any _ _ _ _ _ _ A' L' C' Z' A L C Z _ HAw.out HBw.out (by omega) (fun i hi => by have := HL.out i hi; omega)).mono ?_
          rintro e w2 ⟨vm, rfl, hm⟩
          obtain ⟨pm, cm, rfl, htab⟩ := hm.tab
          have HT := nhid htab
          have hb2 : Below wr.heap.size wr w2 := by obtain ⟨_, _, _, hb2⟩ := hm; exact hb2
          have HX2 := nhid (HXw.out.below hb2 (Nat.le_refl _))
          have HY2 := nhid (HYw.out.below hb2 (Nat.le_refl _))
          have HA2 := nhid (HAw.out.below hb2 (Nat.le_refl _))
          have HB2 := nhid (HBw.out.below hb2 (Nat.le_refl _))
          have HBL2 := nhid (HBL.out.trans (hb2.mono HBL.out.size))
          have hW20 := wid_le L 20 j HL.out
          clear hm htab hb2 HXw HYw HAw HBw HBL
          go_wp2_with fail
          refine (dot_any _ _ _ _ _ _ x y _ HX2.out HY2.out).mono ?_
          rintro e w3 ⟨rfl, jd, hw3⟩
          rw [HMIN.out]
          have hb3 : Below w2.heap.size w2 w3 := by rw [hw3]; exact belowN (Below.refl _ _) jd
          have HT3 := nhid (HT.out.below hb3)
          have HA3 := nhid (HA2.out.below hb3 (Nat.le_refl _))
          have HB3 := nhid (HB2.out.below hb3 (Nat.le_refl _))
          have HBL3 := nhid (HBL2.out.trans (hb3.mono HBL2.out.size))
          clear hw3 hb3 HT HA2 HB2 HBL2 HX2 HY2
          go_wp2_with fail
          go_loopw [14] (fun i wr => ∃ i' : Nat, i' ≤ na ∧ i = .int .i64 i' ∧ Below w3.heap.size w3 wr) (fun i _ => na - (intOf i).toNat)
          case atStart => exact ⟨0, by omega, rfl, Below.refl _ _⟩
          case round =>
            obtain ⟨i, hi, rfl, hbi⟩ := hrel
            have HBI := nhid hbi
            clear hbi
            by_cases hin : i < na
            · obtain ⟨gm, hm, rfl, hcm, hgm, hhm, hF⟩ := HT3.out i hin
              obtain ⟨ga, oa, rfl, hga, hra⟩ := HA3.out.2.resolve_left (by omega)
              have hra' := hra i hin
              have HF := nhid hF
              have HR := nhid hra'
              have HCM := nhid hcm
              have hinI : (i : Int) < na := by omega
              have hcm' : w3.cell? ⟨gm, i, none⟩ = some (.slice (some ⟨hm, 0, none⟩) (wid L j) (wid L j)) := hcm
              have hcm1 := (HBI.out.cell (p := ⟨gm, i, none⟩) hgm).trans hcm'
              clear hF hra hra' hcm hcm' HT3 HA3
              have HWn := nhid (show min (L' i) j ≤ L' i ∧ min (L' i) j ≤ j by omega)
              obtain ⟨N2, hN2⟩ : ∃ N2, min (L' i) j = N2 := ⟨_, rfl⟩
              have hA63 := HR.out.2.1
              have HN2 := nhid hN2
              have hN2a : N2 ≤ L' i := by omega
              have hN2b : N2 ≤ j := by omega
              clear hN2
              go_wp2_with fail
              go_loopw [15] (fun cc wr' => ∃ c : Nat, c ≤ wid L j ∧ cc = .int .i64 c ∧ Below w3.heap.size w3 wr') (fun cc _ => wid L j - (intOf cc).toNat)
              case atStart => exact ⟨0, by omega, rfl, HBI.out⟩
              case round =>
                clear HBI hcm1
                obtain ⟨c, hcW, rfl, hbc⟩ := hrel
                have HBC := nhid hbc
                clear hbc
                by_cases hcl : c < wid L j
                · go_wp2_with fail
                  go_loopw [16, 17] (fun ss qq wr' => ∃ q : Nat, q ≤ N2 ∧ qq = .int .i64 q ∧ ss = .int .i64 (com (Z' i) L Z c q) ∧ Below w3.heap.size w3 wr') (fun _ qq _ => N2 - (intOf qq).toNat)
                  case atStart => exact ⟨0, by omega, rfl, rfl, HBC.out⟩
                  case round =>
                    clear HBC
                    obtain ⟨q, hq, rfl, rfl, hbq⟩ := hrel
                    have HBQ := nhid hbq
                    clear hbq
                    by_cases hqn : q < N2
                    · obtain ⟨g5, o5, hA5, hg5, hz5⟩ := HR.out.2.2.resolve_left (by omega)
                      obtain ⟨gb, ob, rfl, hgb, hrb⟩ := HB3.out.2.resolve_left (by omega)
                      have hrow := HR.out.1
                      rw [hA5] at hrow
                      have hc1 := (HBQ.out.cell (p := ⟨ga, oa + i, none⟩) hga).trans hrow
                      have hc2 := (HBQ.out.cell (p := ⟨g5, o5 + q, none⟩) hg5).trans (hz5 q (by omega)).1
                      have TX := nhid (hz5 q (by omega)).2
                      have hb63 := (hrb q (by omega)).2.1
                      have hqj : (q : Int) < j := by omega
                      have hqa : (q : Int) < L' i := by omega
                      have hq0 : (0 : Int) ≤ (q : Int) := by omega
                      by_cases hcq : c < L q
                      · obtain ⟨g6, o6, hA6, hg6, hz6⟩ := (hrb q (by omega)).2.2.resolve_left (by omega)
                        have hrow2 := (hrb q (by omega)).1
                        rw [hA6] at hrow2
                        have hc3 := (HBQ.out.cell (p := ⟨gb, ob + q, none⟩) hgb).trans hrow2
                        have hc4 := (HBQ.out.cell (p := ⟨g6, o6 + c, none⟩) hg6).trans (hz6 c (by omega)).1
                        have TY := nhid (hz6 c (by omega)).2
                        have hcq' : (c : Int) < L q := by omega
                        have hc0 : (0 : Int) ≤ (c : Int) := by omega
                        have HE := nhid (show com (Z' i) L Z c (q + 1) = pl (com (Z' i) L Z c q) (ti (Z' i q) (Z q c)) by rw [com, if_pos hcq])
                        clear hz5 hrb hrow hz6 hrow2 hA5 hA6 HR HB3
                        go_wp2_with fail
                        go_quiet ((first
                          | (go_at_call 27; exact Calls.quiet_of_same (refmul_q _ _ _ TX.out TY.out))
                          | (go_at_call 26; exact Calls.quiet_of_same (refadd_q _ _ _ (com_le _ _ _ _ _) (ti_le _ _)))))
                        clear hc1 hc2 hc3 hc4
                        go_wp2
                        exact ⟨⟨q + 1, by omega, by go_num, by rw [HE.out], belowN HBQ.out nq⟩, by simp [intOf]; omega⟩
                      · have hrow2 := (hrb q (by omega)).1
                        have hc3 := (HBQ.out.cell (p := ⟨gb, ob + q, none⟩) hgb).trans hrow2
                        have hcq' : ¬ (c : Int) < L q := by omega
                        have HE := nhid (show com (Z' i) L Z c (q + 1) = com (Z' i) L Z c q by rw [com, if_neg hcq])
                        clear hz5 hrb hrow hrow2 hA5 HR HB3
                        go_wp2_with fail
                        exact ⟨⟨q + 1, by omega, by go_num, by rw [HE.out], HBQ.out⟩, by simp [intOf]; omega⟩
                    · have hcase : (q < j ∧ q = L' i) ∨ q = j := by have := HN2.out; omega
                      have hqN : q = N2 := by omega
                      have hcm2 := (HBQ.out.cell (p := ⟨gm, i, none⟩) hgm).trans HCM.out
                      have hcm3 := (HBQ.out.cell (p := ⟨hm, c, none⟩) hhm).trans (HF.out c hcl)
                      rw [HN2.out, ← hqN] at hcm3
                      have hc1 := (HBQ.out.cell (p := ⟨ga, oa + i, none⟩) hga).trans HR.out.1
                      have hclI : (c : Int) < wid L j := by omega
                      have hc0 : (0 : Int) ≤ (c : Int) := by omega
                      have HQN := nhid hqN
                      clear hqN hqn
                      rcases hcase with ⟨hqj, hqL⟩ | hqj
                      · have hqjI : (q : Int) < j := by omega
                        have hqaI : ¬ (q : Int) < L' i := by omega
                        clear hqL hqj
                        go_wp2_with fail
                        exact ⟨⟨c + 1, by omega, by go_num, HBQ.out⟩, by simp [intOf]; omega⟩
                      · have hqjI : ¬ (q : Int) < j := by omega
                        clear hqj hc1
                        go_wp2_with fail
                        exact ⟨⟨c + 1, by omega, by go_num, HBQ.out⟩, by simp [intOf]; omega⟩
                · have e1 : c = wid L j := by omega
                  have hcI : ¬ (c : Int) < wid L j := by omega
                  clear e1
                  go_wp2_with fail
                  exact ⟨⟨i + 1, by omega, by go_num, HBC.out⟩, by simp [intOf]; omega⟩
            · have e1 : i = na := by omega
              subst e1
              go_wp2_with fail
              refine (nawake_any _).mono ?_
              rintro e w4 ⟨rfl, hb4⟩
              have HF := nhid (HBL3.out.trans ((HBI.out.mono HBL3.out.size).trans (hb4.mono (Nat.le_trans HBL3.out.size HBI.out.size))))
              clear hb4
              go_wp2
              go_ret
              exact ⟨rfl, HF.out⟩
set_option maxHeartbeats 8000000 in
set_option maxRecDepth 100000 in
theorem tables_b (pa pb px py : Option Addr) (na nb nx ny ca cb cx cy : Nat) (A' : Nat → Option Addr) (L' C' : Nat → Nat) (Z' : Nat → Nat → Int) (A : Nat → Option Addr) (L C : Nat → Nat) (Z : Nat → Nat → Int) (x y : Nat → Int) (w : World)
    (ha : RowsAt w pa na A' L' C' Z') (hb : RowsAt w pb nb A L C Z) (hx : RowAt w px nx x) (hy : RowAt w py ny y) (h8 : na ≤ 8) (h8b : nb ≤ 8) (h50 : nx ≤ 50) (h50y : ny ≤ 50) (N : Nat) (hc : nx ≤ ny) (hN : N = nx) :
    Calls Try.prog 8 #[.slice pa na ca, .slice pb nb cb, .slice px nx cx, .slice py ny cy] w fun e w' => e = .returned (.bool true) ∧ Below w.heap.size w w' := by
  have na63 := ha.1
  have nb63 := hb.1
  have nx63 := hx.1
  have ny63 := hy.1
  have hmin : min nx ny = N := by omega
  have HA := nhid ha
  have HB := nhid hb
  have HX := nhid hx
  have HY := nhid hy
  have HN := nhid hN
  have HMIN := nhid hmin
  have hNx : N ≤ nx := by omega
  have hNy : N ≤ ny := by omega
  clear ha hb hx hy hN hmin na63 nb63 nx63 ny63
  go_enter Try.func8, Try.ntmps8
  go_wp2_with fail
  go_loopw [9, 10] (fun t i wr => ∃ k : Nat, k ≤ N ∧ i = .int .i64 k ∧ t = .int .i64 (dotf x y k) ∧ Below w.heap.size w wr) (fun _ i _ => N - (intOf i).toNat)
  case atStart => exact ⟨0, by omega, rfl, rfl, Below.refl _ _⟩
  case round =>
    obtain ⟨k, hk, rfl, rfl, hbl⟩ := hrel
    have HBL := nhid hbl
    clear hbl
    by_cases hlt : k < N
    · obtain ⟨g, o, rfl, hg, hx⟩ := HX.out.2.resolve_left (by omega)
      obtain ⟨g2, o2, rfl, hg2, hy⟩ := HY.out.2.resolve_left (by omega)
      have hcx : wr.cell? ⟨g, o + k, none⟩ = some (.int .i64 (x k)) := (HBL.out.cell (p := ⟨g, o + k, none⟩) hg).trans (hx k (by omega)).1
      have hcy : wr.cell? ⟨g2, o2 + k, none⟩ = some (.int .i64 (y k)) := (HBL.out.cell (p := ⟨g2, o2 + k, none⟩) hg2).trans (hy k (by omega)).1
      have TX := nhid (hx k (by omega)).2
      have TY := nhid (hy k (by omega)).2
      have hkn : (k : Int) < nx := by omega
      have hkm : (k : Int) < ny := by omega
      have k0 : (0 : Int) ≤ (k : Int) := by omega
      clear hx hy HX HY
      go_wp2_with fail
      go_quiet ((first
          | (go_at_call 27; exact Calls.quiet_of_same (refmul_q _ _ _ TX.out TY.out))
          | (go_at_call 26; exact Calls.quiet_of_same (refadd_q _ _ _ (dotf_le x y k) (ti_le _ _)))))
      go_wp2
      exact ⟨⟨k + 1, by omega, by go_num, rfl, belowN HBL.out nq⟩, by simp [intOf]; omega⟩
    · have e1 : k = N := by omega
      subst e1
      have HAw := nhid (HA.out.below HBL.out (Nat.le_refl _))
      have HBw := nhid (HB.out.below HBL.out (Nat.le_refl _))
      have HXw := nhid (HX.out.below HBL.out (Nat.le_refl _))
      have HYw := nhid (HY.out.below HBL.out (Nat.le_refl _))
      clear HA HB HX HY
      have hkn : ¬ (k : Int) < nx := by have := HN.out; omega
      skip
      go_wp2_with fail
      go_loop [11, 12] (fun t i => ∃ j : Nat, j ≤ nb ∧ i = .int .i64 j ∧ t = .int .i64 (wid L j : Int) ∧ Hid (∀ i, i < j → L i ≤ 20)) (fun _ i => nb - (intOf i).toNat)
      case atStart => exact ⟨0, by omega, rfl, rfl, fun i hi => absurd hi (by omega)⟩
      case round =>
        obtain ⟨j, hj, rfl, rfl, HL⟩ := hrel
        by_cases hjl : j < nb
        · obtain ⟨g, o, rfl, hg, hr⟩ := HBw.out.2.resolve_left (by omega)
          have hcell := (hr j hjl).1
          have hl63 := (hr j hjl).2.1
          have hjb : (j : Int) < nb := by omega
          have HG := nhid HBw.out
          clear hr HBw
          by_cases h20 : 20 < L j
          · go_wp2_with fail
            refine (nawake_any _).mono ?_
            rintro e w1 ⟨rfl, hb1⟩
            have HF := nhid (HBL.out.trans (hb1.mono HBL.out.size))
            clear hb1
            go_wp2
            go_ret
            exact ⟨rfl, HF.out⟩
          · have hw20 := wid_le L 20 j HL.out
            have HL2 : Hid (∀ i, i < j + 1 → L i ≤ 20) := fun i hi => by
              by_cases e : i = j
              · subst e; omega
              · exact HL.out i (by omega)
            have h20' : L j ≤ 20 := by omega
            clear h20
            by_cases hmx : wid L j < L j
            · have HE := nhid (show wid L (j + 1) = L j by show max (wid L j) (L j) = _; omega)
              go_wp2_with fail
              go_round
              case rel => exact ⟨j + 1, by omega, by go_num, by rw [HE.out], HL2⟩
              case measure => simp [intOf]; omega
            · have HE := nhid (show wid L (j + 1) = wid L j by show max (wid L j) (L j) = _; omega)
              go_wp2_with fail
              go_round
              case rel => exact ⟨j + 1, by omega, by go_num, by rw [HE.out], HL2⟩
              case measure => simp [intOf]; omega
        · have e1 : j = nb := by omega
          subst e1
          go_wp2_with fail
          refine (matrix_any _ _ _ _ _ _ A' L' C' Z' A L C Z _ HAw.out HBw.out (by omega) (fun i hi => by have := HL.out i hi; omega)).mono ?_
          rintro e w2 ⟨vm, rfl, hm⟩
          obtain ⟨pm, cm, rfl, htab⟩ := hm.tab
          have HT := nhid htab
          have hb2 : Below wr.heap.size wr w2 := by obtain ⟨_, _, _, hb2⟩ := hm; exact hb2
          have HX2 := nhid (HXw.out.below hb2 (Nat.le_refl _))
          have HY2 := nhid (HYw.out.below hb2 (Nat.le_refl _))
          have HA2 := nhid (HAw.out.below hb2 (Nat.le_refl _))
          have HB2 := nhid (HBw.out.below hb2 (Nat.le_refl _))
          have HBL2 := nhid (HBL.out.trans (hb2.mono HBL.out.size))
          have hW20 := wid_le L 20 j HL.out
          clear hm htab hb2 HXw HYw HAw HBw HBL
          go_wp2_with fail
          refine (dot_any _ _ _ _ _ _ x y _ HX2.out HY2.out).mono ?_
          rintro e w3 ⟨rfl, jd, hw3⟩
          rw [HMIN.out]
          have hb3 : Below w2.heap.size w2 w3 := by rw [hw3]; exact belowN (Below.refl _ _) jd
          have HT3 := nhid (HT.out.below hb3)
          have HA3 := nhid (HA2.out.below hb3 (Nat.le_refl _))
          have HB3 := nhid (HB2.out.below hb3 (Nat.le_refl _))
          have HBL3 := nhid (HBL2.out.trans (hb3.mono HBL2.out.size))
          clear hw3 hb3 HT HA2 HB2 HBL2 HX2 HY2
          go_wp2_with fail
          go_loopw [14] (fun i wr => ∃ i' : Nat, i' ≤ na ∧ i = .int .i64 i' ∧ Below w3.heap.size w3 wr) (fun i _ => na - (intOf i).toNat)
          case atStart => exact ⟨0, by omega, rfl, Below.refl _ _⟩
          case round =>
            obtain ⟨i, hi, rfl, hbi⟩ := hrel
            have HBI := nhid hbi
            clear hbi
            by_cases hin : i < na
            · obtain ⟨gm, hm, rfl, hcm, hgm, hhm, hF⟩ := HT3.out i hin
              obtain ⟨ga, oa, rfl, hga, hra⟩ := HA3.out.2.resolve_left (by omega)
              have hra' := hra i hin
              have HF := nhid hF
              have HR := nhid hra'
              have HCM := nhid hcm
              have hinI : (i : Int) < na := by omega
              have hcm' : w3.cell? ⟨gm, i, none⟩ = some (.slice (some ⟨hm, 0, none⟩) (wid L j) (wid L j)) := hcm
              have hcm1 := (HBI.out.cell (p := ⟨gm, i, none⟩) hgm).trans hcm'
              clear hF hra hra' hcm hcm' HT3 HA3
              have HWn := nhid (show min (L' i) j ≤ L' i ∧ min (L' i) j ≤ j by omega)
              obtain ⟨N2, hN2⟩ : ∃ N2, min (L' i) j = N2 := ⟨_, rfl⟩
              have hA63 := HR.out.2.1
              have HN2 := nhid hN2
              have hN2a : N2 ≤ L' i := by omega
              have hN2b : N2 ≤ j := by omega
              clear hN2
              go_wp2_with fail
              go_loopw [15] (fun cc wr' => ∃ c : Nat, c ≤ wid L j ∧ cc = .int .i64 c ∧ Below w3.heap.size w3 wr') (fun cc _ => wid L j - (intOf cc).toNat)
              case atStart => exact ⟨0, by omega, rfl, HBI.out⟩
              case round =>
                clear HBI hcm1
                obtain ⟨c, hcW, rfl, hbc⟩ := hrel
                have HBC := nhid hbc
                clear hbc
                by_cases hcl : c < wid L j
                · go_wp2_with fail
                  go_loopw [16, 17] (fun ss qq wr' => ∃ q : Nat, q ≤ N2 ∧ qq = .int .i64 q ∧ ss = .int .i64 (com (Z' i) L Z c q) ∧ Below w3.heap.size w3 wr') (fun _ qq _ => N2 - (intOf qq).toNat)
                  case atStart => exact ⟨0, by omega, rfl, rfl, HBC.out⟩
                  case round =>
                    clear HBC
                    obtain ⟨q, hq, rfl, rfl, hbq⟩ := hrel
                    have HBQ := nhid hbq
                    clear hbq
                    by_cases hqn : q < N2
                    · obtain ⟨g5, o5, hA5, hg5, hz5⟩ := HR.out.2.2.resolve_left (by omega)
                      obtain ⟨gb, ob, rfl, hgb, hrb⟩ := HB3.out.2.resolve_left (by omega)
                      have hrow := HR.out.1
                      rw [hA5] at hrow
                      have hc1 := (HBQ.out.cell (p := ⟨ga, oa + i, none⟩) hga).trans hrow
                      have hc2 := (HBQ.out.cell (p := ⟨g5, o5 + q, none⟩) hg5).trans (hz5 q (by omega)).1
                      have TX := nhid (hz5 q (by omega)).2
                      have hb63 := (hrb q (by omega)).2.1
                      have hqj : (q : Int) < j := by omega
                      have hqa : (q : Int) < L' i := by omega
                      have hq0 : (0 : Int) ≤ (q : Int) := by omega
                      by_cases hcq : c < L q
                      · obtain ⟨g6, o6, hA6, hg6, hz6⟩ := (hrb q (by omega)).2.2.resolve_left (by omega)
                        have hrow2 := (hrb q (by omega)).1
                        rw [hA6] at hrow2
                        have hc3 := (HBQ.out.cell (p := ⟨gb, ob + q, none⟩) hgb).trans hrow2
                        have hc4 := (HBQ.out.cell (p := ⟨g6, o6 + c, none⟩) hg6).trans (hz6 c (by omega)).1
                        have TY := nhid (hz6 c (by omega)).2
                        have hcq' : (c : Int) < L q := by omega
                        have hc0 : (0 : Int) ≤ (c : Int) := by omega
                        have HE := nhid (show com (Z' i) L Z c (q + 1) = pl (com (Z' i) L Z c q) (ti (Z' i q) (Z q c)) by rw [com, if_pos hcq])
                        clear hz5 hrb hrow hz6 hrow2 hA5 hA6 HR HB3
                        go_wp2_with fail
                        go_quiet ((first
                          | (go_at_call 27; exact Calls.quiet_of_same (refmul_q _ _ _ TX.out TY.out))
                          | (go_at_call 26; exact Calls.quiet_of_same (refadd_q _ _ _ (com_le _ _ _ _ _) (ti_le _ _)))))
                        clear hc1 hc2 hc3 hc4
                        go_wp2
                        exact ⟨⟨q + 1, by omega, by go_num, by rw [HE.out], belowN HBQ.out nq⟩, by simp [intOf]; omega⟩
                      · have hrow2 := (hrb q (by omega)).1
                        have hc3 := (HBQ.out.cell (p := ⟨gb, ob + q, none⟩) hgb).trans hrow2
                        have hcq' : ¬ (c : Int) < L q := by omega
                        have HE := nhid (show com (Z' i) L Z c (q + 1) = com (Z' i) L Z c q by rw [com, if_neg hcq])
                        clear hz5 hrb hrow hrow2 hA5 HR HB3
                        go_wp2_with fail
                        exact ⟨⟨q + 1, by omega, by go_num, by rw [HE.out], HBQ.out⟩, by simp [intOf]; omega⟩
                    · have hcase : (q < j ∧ q = L' i) ∨ q = j := by have := HN2.out; omega
                      have hqN : q = N2 := by omega
                      have hcm2 := (HBQ.out.cell (p := ⟨gm, i, none⟩) hgm).trans HCM.out
                      have hcm3 := (HBQ.out.cell (p := ⟨hm, c, none⟩) hhm).trans (HF.out c hcl)
                      rw [HN2.out, ← hqN] at hcm3
                      have hc1 := (HBQ.out.cell (p := ⟨ga, oa + i, none⟩) hga).trans HR.out.1
                      have hclI : (c : Int) < wid L j := by omega
                      have hc0 : (0 : Int) ≤ (c : Int) := by omega
                      have HQN := nhid hqN
                      clear hqN hqn
                      rcases hcase with ⟨hqj, hqL⟩ | hqj
                      · have hqjI : (q : Int) < j := by omega
                        have hqaI : ¬ (q : Int) < L' i := by omega
                        clear hqL hqj
                        go_wp2_with fail
                        exact ⟨⟨c + 1, by omega, by go_num, HBQ.out⟩, by simp [intOf]; omega⟩
                      · have hqjI : ¬ (q : Int) < j := by omega
                        clear hqj hc1
                        go_wp2_with fail
                        exact ⟨⟨c + 1, by omega, by go_num, HBQ.out⟩, by simp [intOf]; omega⟩
                · have e1 : c = wid L j := by omega
                  have hcI : ¬ (c : Int) < wid L j := by omega
                  clear e1
                  go_wp2_with fail
                  exact ⟨⟨i + 1, by omega, by go_num, HBC.out⟩, by simp [intOf]; omega⟩
            · have e1 : i = na := by omega
              subst e1
              go_wp2_with fail
              refine (nawake_any _).mono ?_
              rintro e w4 ⟨rfl, hb4⟩
              have HF := nhid (HBL3.out.trans ((HBI.out.mono HBL3.out.size).trans (hb4.mono (Nat.le_trans HBL3.out.size HBI.out.size))))
              clear hb4
              go_wp2
              go_ret
              exact ⟨rfl, HF.out⟩
theorem tables_walk (v0 v1 v2 v3 : Value) (w : World) (h0 : TableIn w v0) (h1 : TableIn w v1) (h2 : IntsIn w v2) (h3 : IntsIn w v3) :
    Calls Try.prog 8 #[v0, v1, v2, v3] w fun e w' => e = .returned (.bool true) ∧ Below w.heap.size w w' := by
  obtain ⟨pa, na, ca, A', L', C', Z', rfl, ha⟩ := h0
  obtain ⟨pb, nb, cb, A, L, C, Z, rfl, hb⟩ := h1
  obtain ⟨px, nx, cx, x, rfl, hx⟩ := row_of_ints h2
  obtain ⟨py, ny, cy, y, rfl, hy⟩ := row_of_ints h3
  by_cases h : na ≤ 8 ∧ nb ≤ 8 ∧ nx ≤ 50 ∧ ny ≤ 50
  · obtain ⟨q1, q2, q3, q4⟩ := h
    by_cases hc : ny < nx
    · exact tables_a _ _ _ _ _ _ _ _ _ _ _ _ _ _ _ _ _ _ _ _ _ _ _ ha hb hx hy q1 q2 q3 q4 _ hc rfl
    · exact tables_b _ _ _ _ _ _ _ _ _ _ _ _ _ _ _ _ _ _ _ _ _ _ _ ha hb hx hy q1 q2 q3 q4 _ (by omega) rfl
  · exact tables_long _ _ _ _ _ _ _ _ _ _ _ _ _ _ _ _ _ _ _ _ _ _ _ ha hb hx hy (by omega)
end Go.Proofs.Ytcpdobldconnaaa
