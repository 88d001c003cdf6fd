/- graph: the law GraphReaches told. -/
import Derived.Test.YtghfodjefjijdaaGrAr
namespace Go.Proofs.Ytghfodjefjijdaa
section
open Go Go.RowKit Go.Shelf
attribute [local go_sem ↓] Go.wp_at_zero Go.wp_at_succ
theorem cntTo_le (q : Nat → Bool) (j : Nat) : cntTo q j ≤ j := by
  induction j with
  | zero => exact Nat.le_refl _
  | succ j ih =>
    show cntTo q j + (if q j then 1 else 0) ≤ j + 1
    split <;> omega
theorem aN_le (n : Nat) (m : Nat → Nat → Bool) (i : Nat) : aN n m i ≤ i * n := by
  induction i with
  | zero => exact Nat.zero_le _
  | succ i ih =>
    show aN n m i + cntTo (m i) n ≤ (i + 1) * n
    have := cntTo_le (m i) n
    rw [Nat.succ_mul]
    omega
theorem cntTo_succ (q : Nat → Bool) (j : Nat) : cntTo q (j + 1) = cntTo q j + if q j then 1 else 0 := rfl
theorem aN_succ (n : Nat) (m : Nat → Nat → Bool) (i : Nat) : aN n m (i + 1) = aN n m i + cntTo (m i) n := rfl
/-- What lies there while the law goes on. -/
structure RcI (w W : World) (A n gb ob ob2 lb : Nat) (rb : Nat → Nat) (m c : Nat → Nat → Bool) (l : Nat → Int) (cnt : Nat) : Prop where
  gr : ∃ tb K mp, K ≤ 1000 ∧ GrAt W A gb tb n K mp m cnt
  tab : TbAt W A ob rb n n m
  clo : ∃ A2 rb2, TbAt W A2 ob2 rb2 n n c
  li : Vec W lb 3 n (fun i => .int .i64 (l i))
  be : Below w.heap.size w W
theorem RcI.up {w W W' : World} {A n gb ob ob2 lb : Nat} {rb : Nat → Nat} {m c : Nat → Nat → Bool} {l : Nat → Int} {cnt : Nat} (h : RcI w W A n gb ob ob2 lb rb m c l cnt) (hb : Below W.heap.size W W') : RcI w W' A n gb ob ob2 lb rb m c l cnt := by
  obtain ⟨tb, K, mp, hK, hg⟩ := h.gr
  obtain ⟨A2, rb2, h2⟩ := h.clo
  exact ⟨⟨tb, K, mp, hK, hg.up hb⟩, h.tab.up hb, ⟨A2, rb2, h2.up hb⟩, heap_up h.li hb, h.be.trans (hb.mono h.be.size)⟩
/-- What From and Reach answered for one thing. -/
structure FrI (W : World) (p : Option Addr) (rl n : Nat) (fs : List Nat) (r : Nat → Bool) : Prop where
  fr : ∀ (j x : Nat), fs[j]? = some x → ∃ g, p = some ⟨g, 0, none⟩ ∧ g < W.heap.size ∧ W.cell? ⟨g, j, none⟩ = some (.int .i64 (x : Int))
  re : Vec W rl 4 n (fun j => .bool (r j))
theorem FrI.up {W W' : World} {p : Option Addr} {rl n : Nat} {fs : List Nat} {r : Nat → Bool} (h : FrI W p rl n fs r) (hb : Below W.heap.size W W') : FrI W' p rl n fs r :=
  ⟨fun j x hx => by
    obtain ⟨g, hp, hg, hc⟩ := h.fr j x hx
    exact ⟨g, hp, Nat.lt_of_lt_of_le hg hb.size, (hb.cell (p := ⟨g, j, none⟩) hg).trans hc⟩, heap_up h.re hb⟩
set_option maxRecDepth 100000 in
set_option maxHeartbeats 16000000 in
theorem grlaw_any {w : World} (sz k c : Nat) (p : Option Addr) (xs ys : Nat → Int) (hs : sz < 256) (hp : PairsAt w p k xs ys) :
    Calls Try.prog 3 #[.int .u8 (sz : Int), .slice p k c] w fun e w' => e = .returned (.bool true) ∧ Below w.heap.size w w' := by
  have HA := qhid (gawake w)
  have hk63 := hp.1
  have HP := qhid hp
  clear hp
  by_cases hk : 80 < k
  · clear HP
    go_enter Try.func3, Try.ntmps3
    go_wp2_with fail
    refine HA.out.mono ?_
    rintro e w1 ⟨rfl, hb1⟩
    have HB := qhid hb1
    clear hb1 HA
    go_wp2_with fail
    go_ret
    exact ⟨rfl, HB.out⟩
  · obtain ⟨n, hn⟩ : ∃ n, n = sz % 14 := ⟨_, rfl⟩
    have E1 : Hid ((sz : Int) % 14 = (n : Int)) := qhid (by omega)
    have HN1 : Hid (n ≤ 13) := qhid (by omega)
    clear hn
    go_enter Try.func3, Try.ntmps3
    go_wp2_with fail
    refine HA.out.mono ?_
    rintro e w1 ⟨rfl, hb1⟩
    have HB1 := qhid hb1
    have HP1 := qhid (HP.out.up hb1)
    clear hb1 HA HP
    go_upto_region 4 with fail
    rw [E1.out]
    have hn1 := HN1.out
    have HBU := qhid (gbuild_any n k c p xs ys HP1.out (by omega) (by omega))
    clear HP1 E1
    go_wp2_with fail
    refine HBU.out.mono ?_
    rintro e w2 ⟨gb, ob, rb, rfl, ⟨tb, K, mp, hK, hg⟩, htab, hb2⟩
    rw [cOf_aN] at hg
    obtain ⟨m, hm⟩ : ∃ m, m = mOf n xs ys k := ⟨_, rfl⟩
    rw [← hm] at htab hg
    have HB2 := qhid (HB1.out.trans (hb2.mono HB1.out.size))
    have HG2 := qhid hg
    have HT2 := qhid htab
    have HBD := qhid hg.bd
    have HL := qhid (glen_any hg)
    have HCL := qhid (gclos_any htab (by omega) hg.bd)
    clear hg htab hb2 hm HB1 HBU
    go_wp2_with fail
    refine HL.out.mono ?_
    rintro e wx ⟨rfl, hw⟩
    obtain rfl : w2 = wx := hw.symm
    clear hw HL
    go_wp2_with fail
    refine HCL.out.mono ?_
    rintro e w3 ⟨ob2, cc, rfl, ⟨⟨rb2, hct⟩, hb3⟩, hcc⟩
    have HCC := qhid hcc
    have HK := qhid (gknots_any (HG2.out.up hb3) (by omega) (by omega))
    have HG3 := qhid (HG2.out.up hb3)
    have HT3 := qhid (HT2.out.up hb3)
    have HC3 := qhid hct
    have HB3 := qhid (HB2.out.trans (hb3.mono HB2.out.size))
    clear hct hb3 hcc HCL HG2 HT2 HB2
    go_wp2_with fail
    refine HK.out.mono ?_
    rintro e w4 ⟨r, rfl, ⟨lb, kn, rfl, _, hl, hsm⟩, hb4⟩
    have HI4 : Hid (RcI w w4 w1.heap.size n gb ob ob2 lb rb m cc (ln kn) (aN n m n)) := qhid ⟨⟨tb, K, mp, hK, HG3.out.up hb4⟩, HT3.out.up hb4, ⟨_, _, HC3.out.up hb4⟩, hl, HB3.out.trans (hb4.mono HB3.out.size)⟩
    have HSM := qhid hsm
    clear hl hsm hb4 HG3 HT3 HB3 HC3 HK
    go_wp2_with fail
    go_loopw [14, 12, 13] (fun iv av nv wr => ∃ i : Nat, i ≤ n ∧ iv = .int .i64 (i : Int) ∧ av = .int .i64 (aN n m i : Int) ∧ nv = .int .i64 (nx kn i : Int) ∧ Hid (RcI w wr w1.heap.size n gb ob ob2 lb rb m cc (ln kn) (aN n m n))) (fun iv _ _ _ => n - (intOf iv).toNat)
    case atStart => exact ⟨0, Nat.zero_le _, rfl, rfl, rfl, HI4⟩
    case round =>
      obtain ⟨i, hi, rfl, rfl, rfl, HI⟩ := hrel
      clear HI4
      by_cases hlt : i < n
      · obtain ⟨tb5, K5, mp5, hK5, hg5⟩ := HI.out.gr
        have HF := qhid (gfrom_any hg5 i hlt (by omega))
        clear hg5
        go_wp2_with fail
        refine HF.out.mono ?_
        rintro e w5 ⟨fv, rfl, hrow, hb5⟩
        have HI5 := qhid (HI.out.up hb5)
        obtain ⟨fp, fc, hfv⟩ := any_slice hrow
        subst hfv
        obtain ⟨tb6, K6, mp6, hK6, hg6⟩ := HI5.out.gr
        have HRE := qhid (greach_any hg6 i hlt (by omega) (by omega))
        have HROW := qhid hrow
        clear hg6 hrow hb5 HF HI
        go_wp2_with fail
        refine HRE.out.mono ?_
        rintro e w6 ⟨rl, r, rfl, hrv, hre, _, hb6⟩
        have HI6 := qhid (HI5.out.up hb6)
        have HRR := qhid hre
        have HF6 : Hid (FrI w6 fp rl n (succ n (m i)) r) := qhid ⟨fun j x hx => by
          have hlen := (List.getElem?_eq_some_iff.1 hx).1
          obtain ⟨g, cap, hv, _, hg, hc⟩ := row_form HROW.out (by omega)
          injection hv with hv
          exact ⟨g, hv, Nat.lt_of_lt_of_le hg hb6.size, (hb6.cell (p := ⟨g, j, none⟩) hg).trans (hc j x hx)⟩, hrv⟩
        have HLN : Hid ((succ n (m i)).length = cntTo (m i) n) := qhid (succ_cnt _ _)
        rw [HLN.out]
        clear hrv hre hb6 HRE HROW HI5
        go_wp2_with fail
        have hal := aN_le n m i
        have hal2 : i * n ≤ 13 * 13 := Nat.mul_le_mul (by omega) (by omega)
        go_loopw [19, 17, 12, 18] (fun jv kv av fv wr => ∃ j : Nat, j ≤ n ∧ jv = .int .i64 (j : Int) ∧ kv = .int .i64 (cntTo (m i) j : Int) ∧ av = .int .i64 ((aN n m i + cntTo (m i) j : Nat) : Int) ∧ fv = .bool (firstTo kn i j) ∧ Hid (RcI w wr w1.heap.size n gb ob ob2 lb rb m cc (ln kn) (aN n m n)) ∧ Hid (FrI wr fp rl n (succ n (m i)) r)) (fun jv _ _ _ _ => n - (intOf jv).toNat)
        case atStart => exact ⟨0, Nat.zero_le _, rfl, rfl, rfl, rfl, HI6, HF6⟩
        case round =>
          obtain ⟨j, hj, rfl, rfl, rfl, rfl, HJ, HF⟩ := hrel
          clear HI6 HF6
          by_cases hjl : j < n
          · obtain ⟨A2, rb3, h2⟩ := HJ.out.clo
            have htab := HJ.out.tab
            have ct : wr.cell? ⟨ob, i, none⟩ = some (.slice (some ⟨rb i, 0, none⟩) n n) := by rw [htab.o.cell hlt, if_pos hlt]
            have cm := (htab.r i hlt).cell hjl
            have c1 : wr.cell? ⟨ob2, i, none⟩ = some (.slice (some ⟨rb3 i, 0, none⟩) n n) := by rw [h2.o.cell hlt, if_pos hlt]
            have c2 := (h2.r i hlt).cell hjl
            have c3 : wr.cell? ⟨ob2, j, none⟩ = some (.slice (some ⟨rb3 j, 0, none⟩) n n) := by rw [h2.o.cell hjl, if_pos hjl]
            have c4 := (h2.r j hjl).cell hlt
            have l1 := HJ.out.li.cell hlt
            have l2 := HJ.out.li.cell hjl
            have cr := HF.out.re.cell hjl
            have er : r j = cc i j := by rw [Bool.eq_iff_iff, HRR.out j, HCC.out i j hlt hjl]
            have ek : (kn j == kn i) = (cc i j && cc j i) := by
              rw [Bool.eq_iff_iff, beq_iff_eq, eq_comm, HSM.out i j hlt hjl, Bool.and_eq_true, HCC.out i j hlt hjl, HCC.out j i hjl hlt]
              exact Iff.rfl
            have el : (ln kn i == ln kn j) = (cc i j && cc j i) := by
              rw [← ek, Bool.eq_iff_iff, beq_iff_eq, beq_iff_eq, ln_same]
              exact eq_comm
            have HFS := qhid (firstTo_succ kn i j)
            have HJN : Hid (∀ q, RcI w (wr.drewN q) w1.heap.size n gb ob ob2 lb rb m cc (ln kn) (aN n m n)) := qhid (fun q => HJ.out.up (below_drewN _ q))
            have HFN : Hid (∀ q, FrI (wr.drewN q) fp rl n (succ n (m i)) r) := qhid (fun q => HF.out.up (below_drewN _ q))
            have hkb := cntTo_le (m i) j
            have HCT := qhid (cntTo_succ (m i) j)
            have HFR := qhid (fun h : m i j = true => HF.out.fr _ _ (succ_at (q := m i) hjl h))
            have HKL := qhid (fun h : m i j = true => (List.getElem?_eq_some_iff.1 (succ_at (q := m i) hjl h)).1)
            obtain ⟨aa, haa⟩ : ∃ t, t = aN n m i + cntTo (m i) j := ⟨_, rfl⟩
            have HAV : Hid (aN n m i + cntTo (m i) (j + 1) = aa + if m i j then 1 else 0) := qhid (by rw [HCT.out]; omega)
            rw [← haa]
            have haa2 : aa ≤ 200 := by omega
            obtain ⟨kk, hkk⟩ : ∃ t, t = cntTo (m i) j := ⟨_, rfl⟩
            rw [← hkk] at HCT HFR HKL hkb ⊢
            obtain ⟨kl, hkl⟩ : ∃ t, t = cntTo (m i) n := ⟨_, rfl⟩
            rw [HLN.out] at HKL
            rw [← hkl] at HKL ⊢
            obtain ⟨ff, hff⟩ : ∃ t, t = firstTo kn i j := ⟨_, rfl⟩
            rw [ek, ← hff] at HFS
            rw [← hff]
            obtain ⟨mm, hmm⟩ : ∃ t, t = m i j := ⟨_, rfl⟩
            rw [← hmm] at HCT HFR HKL HAV cm
            obtain ⟨u1, hu1⟩ : ∃ t, t = ln kn i := ⟨_, rfl⟩
            obtain ⟨u2, hu2⟩ : ∃ t, t = ln kn j := ⟨_, rfl⟩
            rw [← hu1] at l1 el
            rw [← hu2] at l2 el
            obtain ⟨b1, hb1⟩ : ∃ t, t = cc i j := ⟨_, rfl⟩
            obtain ⟨b2, hb2⟩ : ∃ t, t = cc j i := ⟨_, rfl⟩
            rw [er, ← hb1] at cr
            rw [← hb1] at c2 el HFS
            rw [← hb2] at c4 el HFS
            clear haa hkk hkl hff hmm hu1 hu2 hb1 hb2 er ek h2 htab HJ HF
            cases mm with
            | false =>
              cases b1 <;> cases b2
              all_goals
                simp only [Bool.and_true, Bool.and_false] at el
                cases ff
                · as_aux_lemma =>
                    go_upto_region 26 with fail
                    go_quiet (fail)
                    go_wp2_with fail
                    go_roundw
                    case rel => exact ⟨j + 1, hjl, rfl, by rw [HCT.out]; rfl, by rw [HAV.out]; rfl, by rw [HFS.out]; rfl, qhid (HJN.out _), qhid (HFN.out _)⟩
                    case measure => simp [intOf]; omega
                · by_cases hij : i ≤ j
                  · rw [decide_eq_true hij] at HFS
                    have hd1 : decide ((i : Int) ≤ (j : Int)) = true := decide_eq_true (by omega)
                    have hd2 : decide (i ≤ j) = true := decide_eq_true hij
                    as_aux_lemma =>
                      go_upto_region 26 with fail
                      go_quiet (fail)
                      go_wp2_with fail
                      go_roundw
                      case rel => exact ⟨j + 1, hjl, rfl, by rw [HCT.out]; rfl, by rw [HAV.out]; rfl, by rw [HFS.out]; rfl, qhid (HJN.out _), qhid (HFN.out _)⟩
                      case measure => simp [intOf]; omega
                  · rw [decide_eq_false hij] at HFS
                    have hd1 : decide ((i : Int) ≤ (j : Int)) = false := decide_eq_false (by omega)
                    have hd2 : decide (i ≤ j) = false := decide_eq_false hij
                    as_aux_lemma =>
                      go_upto_region 26 with fail
                      go_quiet (fail)
                      go_wp2_with fail
                      go_roundw
                      case rel => exact ⟨j + 1, hjl, rfl, by rw [HCT.out]; rfl, by rw [HAV.out]; rfl, by rw [HFS.out]; rfl, qhid (HJN.out _), qhid (HFN.out _)⟩
                      case measure => simp [intOf]; omega
            | true =>
              obtain ⟨g, hfp, hgl, hfc⟩ := HFR.out rfl
              subst hfp
              have hkk2 : kk < kl := HKL.out rfl
              have hd3 : decide (kl ≤ kk) = false := decide_eq_false (by omega)
              cases b1 <;> cases b2
              all_goals
                simp only [Bool.and_true, Bool.and_false] at el
                cases ff
                · as_aux_lemma =>
                    go_upto_region 26 with fail
                    go_quiet (fail)
                    go_wp2_with fail
                    go_roundw
                    case rel => exact ⟨j + 1, hjl, rfl, by rw [HCT.out]; rfl, by rw [HAV.out]; rfl, by rw [HFS.out]; rfl, qhid (HJN.out _), qhid (HFN.out _)⟩
                    case measure => simp [intOf]; omega
                · by_cases hij : i ≤ j
                  · rw [decide_eq_true hij] at HFS
                    have hd1 : decide ((i : Int) ≤ (j : Int)) = true := decide_eq_true (by omega)
                    have hd2 : decide (i ≤ j) = true := decide_eq_true hij
                    as_aux_lemma =>
                      go_upto_region 26 with fail
                      go_quiet (fail)
                      go_wp2_with fail
                      go_roundw
                      case rel => exact ⟨j + 1, hjl, rfl, by rw [HCT.out]; rfl, by rw [HAV.out]; rfl, by rw [HFS.out]; rfl, qhid (HJN.out _), qhid (HFN.out _)⟩
                      case measure => simp [intOf]; omega
                  · rw [decide_eq_false hij] at HFS
                    have hd1 : decide ((i : Int) ≤ (j : Int)) = false := decide_eq_false (by omega)
                    have hd2 : decide (i ≤ j) = false := decide_eq_false hij
                    as_aux_lemma =>
                      go_upto_region 26 with fail
                      go_quiet (fail)
                      go_wp2_with fail
                      go_roundw
                      case rel => exact ⟨j + 1, hjl, rfl, by rw [HCT.out]; rfl, by rw [HAV.out]; rfl, by rw [HFS.out]; rfl, qhid (HJN.out _), qhid (HFN.out _)⟩
                      case measure => simp [intOf]; omega
          · obtain rfl : j = n := by omega
            have HFA := qhid (firstTo_all (kn := kn) hlt)
            obtain ⟨ff, hff⟩ : ∃ t, t = firstTo kn i j := ⟨_, rfl⟩
            rw [← hff] at HFA ⊢
            obtain ⟨tb7, K7, mp7, hK7, hg7⟩ := HJ.out.gr
            have HG7 := qhid (gring_any hg7 i hlt (by omega) (by omega))
            clear hg7 hff HF
            go_wp2_with fail
            refine HG7.out.mono ?_
            rintro e w7 ⟨r1, rfl, hr1, hb7⟩
            have HJ7 := qhid (HJ.out.up hb7)
            have HR1 := qhid hr1
            have HRG := qhid (grring_any HJ7.out.tab hlt (by omega) HBD.out)
            clear hr1 hb7 HG7 HJ
            go_wp2_with fail
            refine HRG.out.mono ?_
            rintro e w8 ⟨v, rfl, ⟨⟨r2, rfl, hr2⟩, hb8⟩⟩
            obtain rfl : r1 = r2 := by rw [Bool.eq_iff_iff, HR1.out, hr2]
            have HJ8 := qhid (HJ7.out.up hb8)
            have cl := HJ8.out.li.cell hlt
            have hnx := nx_le kn i
            clear hr2 hb8 HRG HJ7 HR1
            cases ff with
            | false =>
              have HNX : Hid (nx kn (i + 1) = nx kn i) := qhid (by rw [nx_succ, ← HFA.out]; rfl)
              clear cl
              go_wp2_with fail
              go_roundw
              case rel => exact ⟨i + 1, hlt, rfl, rfl, by rw [HNX.out], HJ8⟩
              case measure => simp [intOf]; omega
            | true =>
              have HNX : Hid (nx kn (i + 1) = nx kn i + 1) := qhid (by rw [nx_succ, ← HFA.out]; rfl)
              rw [ln_fresh HFA.out.symm] at cl
              go_wp2_with fail
              go_roundw
              case rel => exact ⟨i + 1, hlt, rfl, rfl, by rw [HNX.out]; rfl, HJ8⟩
              case measure => simp [intOf]; omega
      · obtain rfl : i = n := by omega
        obtain ⟨tb5, K5, mp5, hK5, hg5⟩ := HI.out.gr
        have HAR := qhid (garrows_any hg5)
        have HFB := qhid (gfrom_bad hg5 (i : Int) (by simp [inB]))
        have HRB := qhid (greach_bad hg5 (-1) (by simp [inB]))
        have HGB := qhid (gring_bad hg5 (i : Int) (by simp [inB]))
        clear hg5
        go_wp2_with fail
        refine HAR.out.mono ?_
        rintro e wx ⟨rfl, hw⟩
        obtain rfl : wr = wx := hw.symm
        clear hw
        go_wp2_with fail
        refine HFB.out.mono ?_
        rintro e wx ⟨rfl, hw⟩
        obtain rfl : wr = wx := hw.symm
        clear hw
        go_wp2_with fail
        refine HRB.out.mono ?_
        rintro e wx ⟨rfl, hw⟩
        obtain rfl : wr = wx := hw.symm
        clear hw
        go_wp2_with fail
        refine HGB.out.mono ?_
        rintro e w9 ⟨rfl, hb9⟩
        go_wp2_with fail
        go_ret
        exact ⟨rfl, HI.out.be.trans (hb9.mono HI.out.be.size)⟩
theorem grlaw_all (x0 : Int) (v : Value) (W : World) (b0 : 0 ≤ x0 ∧ x0 ≤ 255) (h : ∃ p n c xs ys, v = .slice p n c ∧ PairsAt W p n xs ys) :
    Calls Try.prog 3 #[.int .u8 x0, v] W fun e w' => e = .returned (.bool true) ∧ Below W.heap.size W w' := by
  obtain ⟨p, n, c, xs, ys, rfl, hp⟩ := h
  obtain ⟨s, rfl⟩ := Int.eq_ofNat_of_zero_le b0.1
  exact grlaw_any s n c p xs ys (by omega) hp
end
end Go.Proofs.Ytghfodjefjijdaa
