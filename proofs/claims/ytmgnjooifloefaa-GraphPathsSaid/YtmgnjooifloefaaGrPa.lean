/- graph: the law GraphPaths told. -/
import Derived.Test.YtmgnjooifloefaaGrZ
namespace Go.Proofs.Ytmgnjooifloefaa
section
open Go Go.RowKit Go.Shelf
attribute [local go_sem ↓] Go.wp_at_zero Go.wp_at_succ
theorem below_drewN (w : World) (q : Nat) : Below w.heap.size w (w.drewN q) := by
  induction q with
  | zero => exact Below.refl _ _
  | succ q ih => exact ih.drew
theorem dst_ltm {m : Nat → Nat → Bool} {n a b : Nat} (hbd : ∀ i j, m i j = true → i < n ∧ j < n) (ha : a < n) (h : Rch (Em m) a b) : dst (Em m) a b < n := by
  have h2 := dst_lt (E := fun u => succ n (m u)) (N := n) (fun u x hx => mem_range_succ hx) (by rw [em_succ hbd]; exact h) ha
  rw [em_succ hbd] at h2
  exact h2
theorem far_yes {m : Nat → Nat → Bool} {n a b : Nat} {out : Nat → Int} (hbd : ∀ i j, m i j = true → i < n ∧ j < n) (ha : a < n) (hb : b < n) (hf : FarI (Em m) a n n 0 0 out) (h : Rch (Em m) a b) : out b = (dst (Em m) a b : Int) :=
  hf.near b hb h (Nat.le_of_lt (dst_ltm hbd ha h))
theorem far_no {m : Nat → Nat → Bool} {n a b : Nat} {out : Nat → Int} (hb : b < n) (hf : FarI (Em m) a n n 0 0 out) (h : ¬ Rch (Em m) a b) : out b = -1 :=
  hf.no b hb (fun e => h e.1) (fun ⟨_, h1, _, h3, _⟩ => h (.tail h1 h3))
/-- A way in memory, with the table, while its steps are looked at. -/
structure PlI (w W : World) (B ob n g : Nat) (rb : Nat → Nat) (m : Nat → Nat → Bool) (ps : List Nat) : Prop where
  tab : TbAt W B ob rb n n m
  ps : ∀ (j x : Nat), ps[j]? = some x → g < W.heap.size ∧ W.cell? ⟨g, j, none⟩ = some (.int .i64 (x : Int))
  be : Below w.heap.size w W
theorem PlI.up {w W W' : World} {B ob n g : Nat} {rb : Nat → Nat} {m : Nat → Nat → Bool} {ps : List Nat} (h : PlI w W B ob n g rb m ps) (hb : Below W.heap.size W W') : PlI w W' B ob n g rb m ps :=
  ⟨h.tab.up hb, fun j x hx => ⟨Nat.lt_of_lt_of_le (h.ps j x hx).1 hb.size, (hb.cell (p := ⟨g, j, none⟩) (h.ps j x hx).1).trans (h.ps j x hx).2⟩, h.be.trans (hb.mono h.be.size)⟩
set_option maxRecDepth 100000 in
set_option maxHeartbeats 8000000 in
theorem gplaw_any {w : World} (sz k c : Nat) (f t : Int) (p : Option Addr) (xs ys : Nat → Int) (hs : sz < 256) (hp : PairsAt w p k xs ys) :
    Calls Try.prog 4 #[.int .u8 (sz : Int), .slice p k c, .int .i64 f, .int .i64 t] w fun e w' => e = .returned (.bool true) ∧ Below w.heap.size w w' := by
  have HA := qhid (gawake w)
  have hk63 := hp.1
  have HP := qhid hp
  clear hp
  by_cases hk : 80 < k
  · clear HP
    go_enter Try.func4, Try.ntmps4
    go_wp2_with fail
    refine HA.out.mono ?_
    rintro e w1 ⟨rfl, hb1⟩
    have HB := qhid hb1
    clear hb1 HA
    go_wp2_with fail
    go_ret
    exact ⟨rfl, HB.out⟩
  · obtain ⟨n, hn⟩ : ∃ n, n = sz % 14 := ⟨_, rfl⟩
    have E1 : Hid ((sz : Int) % 14 = (n : Int)) := qhid (by omega)
    have HN1 : Hid (n ≤ 13) := qhid (by omega)
    clear hn
    go_enter Try.func4, Try.ntmps4
    go_wp2_with fail
    refine HA.out.mono ?_
    rintro e w1 ⟨rfl, hb1⟩
    have HB1 := qhid hb1
    have HP1 := qhid (HP.out.up hb1)
    clear hb1 HA HP
    go_upto_region 4 with fail
    rw [E1.out]
    have hn1 := HN1.out
    have HBU := qhid (gbuild_any n k c p xs ys HP1.out (by omega) (by omega))
    clear HP1 E1
    go_wp2_with fail
    refine HBU.out.mono ?_
    rintro e w2 ⟨gb, ob, rb, rfl, ⟨tb, K, mp, hK, hg⟩, htab, hb2⟩
    obtain ⟨m, hm⟩ : ∃ m, m = mOf n xs ys k := ⟨_, rfl⟩
    obtain ⟨cnt, hcnt⟩ : ∃ m, m = cOf n xs ys k := ⟨_, rfl⟩
    rw [← hm] at htab hg
    rw [← hcnt] at hg
    have HB2 := qhid (HB1.out.trans (hb2.mono HB1.out.size))
    have HG2 := qhid hg
    have HT2 := qhid htab
    clear hg htab hb2 hm hcnt HB1 HBU
    by_cases hin : (inB n f && inB n t) = true
    · have hin' := hin
      unfold inB at hin'
      simp at hin'
      obtain ⟨⟨h1, h2⟩, h3, h4⟩ := hin'
      obtain ⟨a, rfl⟩ := Int.eq_ofNat_of_zero_le h1
      obtain ⟨b, rfl⟩ := Int.eq_ofNat_of_zero_le h3
      have han : a < n := by omega
      have hbn : b < n := by omega
      clear hin h1 h2 h3 h4
      have HPT := qhid (gpath_any HG2.out a b han hbn (by omega) (by omega))
      have HBD := qhid HG2.out.bd
      go_wp2_with fail
      refine HPT.out.mono ?_
      rintro e w3 ⟨v, r, rfl, hr⟩
      have HR := qhid hr
      have HB3 := qhid (HB2.out.trans (hr.be.mono HB2.out.size))
      have HFR := qhid (gfar_any (HT2.out.up hr.be) han (by omega) HBD.out)
      clear hr HPT
      go_wp2_with fail
      refine HFR.out.mono ?_
      rintro e w4 ⟨lb, out, rfl, hm4, hf4⟩
      have co := hm4.li.cell hbn
      have HM4 := qhid hm4
      have HF4 := qhid hf4
      clear hm4 hf4 HFR
      cases r with
      | false =>
        have hv := HR.out.no rfl
        subst hv
        have ho : out b = -1 := far_no hbn HF4.out (fun h => by have := HR.out.yes.2 h; cases this)
        rw [ho] at co
        go_wp2_with fail
        go_ret
        exact ⟨rfl, HB3.out.trans (HM4.out.be.mono HB3.out.size)⟩
      | true =>
        obtain ⟨ps, hrow, hok⟩ := HR.out.way rfl
        have ho : out b = (dst (Em m) a b : Int) := far_yes HBD.out han hbn HF4.out (HR.out.yes.1 rfl)
        have hdn := dst_ltm HBD.out han (HR.out.yes.1 rfl)
        have hed := hok.ed
        have hfst := hok.fst
        have hlst := hok.lst
        have hlen := hok.len
        obtain ⟨d, hd⟩ : ∃ d, d = dst (Em m) a b := ⟨_, rfl⟩
        rw [← hd] at ho hdn hlst hlen
        rw [hlen] at hrow
        obtain ⟨g, cap, hv, _, hgl, hcell⟩ := row_form hrow (by omega)
        subst hv
        rw [ho] at co
        have HPL : Hid (PlI w w4 w1.heap.size ob n g rb m ps) := qhid ⟨HM4.out.tab, fun j x hx => ⟨Nat.lt_of_lt_of_le hgl HM4.out.be.size, (HM4.out.be.cell (p := ⟨g, j, none⟩) hgl).trans (hcell j x hx)⟩, HB3.out.trans (HM4.out.be.mono HB3.out.size)⟩
        have HGT : Hid (∀ j, j < d + 1 → ps[j]? = some (ps.getD j 0)) := qhid (fun j hj => by rw [List.getD_eq_getElem?_getD, List.getElem?_eq_getElem (by omega)]; rfl)
        have c0 : w4.cell? ⟨g, 0, none⟩ = some (.int .i64 (a : Int)) := by rw [(HPL.out.ps 0 _ (HGT.out 0 (by omega))).2, hfst]
        have cd : w4.cell? ⟨g, d, none⟩ = some (.int .i64 (b : Int)) := by rw [(HPL.out.ps d _ (HGT.out d (by omega))).2, hlst]
        have HED := qhid hed
        have HLEN := qhid hlen
        clear hrow hok hed hfst hlst hlen hd hgl hcell ho HR HF4 HM4
        go_wp2_with fail
        clear co c0 cd
        go_loopw [16] (fun iv wr => ∃ i : Nat, i ≤ d ∧ iv = .int .i64 (i : Int) ∧ Hid (PlI w wr w1.heap.size ob n g rb m ps)) (fun iv _ => d - (intOf iv).toNat)
        case atStart => exact ⟨0, Nat.zero_le _, rfl, HPL⟩
        case round =>
          obtain ⟨i, hi, rfl, HI⟩ := hrel
          clear HPL
          by_cases hlt : i < d
          · obtain ⟨u, hu⟩ : ∃ u, u = ps.getD i 0 := ⟨_, rfl⟩
            obtain ⟨z, hz⟩ : ∃ z, z = ps.getD (i + 1) 0 := ⟨_, rfl⟩
            have he : m u z = true := by rw [hu, hz]; exact HED.out i (by rw [HLEN.out]; omega)
            obtain ⟨hun, hzn⟩ := HBD.out u z he
            have cu : wr.cell? ⟨g, i, none⟩ = some (.int .i64 (u : Int)) := by rw [(HI.out.ps i _ (HGT.out i (by omega))).2, hu]
            have cz : wr.cell? ⟨g, i + 1, none⟩ = some (.int .i64 (z : Int)) := by rw [(HI.out.ps (i + 1) _ (HGT.out (i + 1) (by omega))).2, hz]
            have ct : wr.cell? ⟨ob, u, none⟩ = some (.slice (some ⟨rb u, 0, none⟩) n n) := by rw [HI.out.tab.o.cell hun, if_pos hun]
            have cm : wr.cell? ⟨rb u, z, none⟩ = some (.bool true) := by rw [(HI.out.tab.r u hun).cell hzn, he]
            have HIN : Hid (∀ q, PlI w (wr.drewN q) w1.heap.size ob n g rb m ps) := qhid (fun q => HI.out.up (below_drewN _ q))
            have q1 : decide ((u : Int) < 0) = false := decide_eq_false (by omega)
            have q2 : decide ((z : Int) < 0) = false := decide_eq_false (by omega)
            have q3 : decide (n ≤ u) = false := decide_eq_false (by omega)
            have q4 : decide (n ≤ z) = false := decide_eq_false (by omega)
            have q5 : decide ((n : Int) ≤ (u : Int)) = false := decide_eq_false (by omega)
            have q6 : decide ((n : Int) ≤ (z : Int)) = false := decide_eq_false (by omega)
            clear hu hz he HI
            go_upto_region 18 with fail
            go_quiet (fail)
            go_wp2_with fail
            go_roundw
            case rel => exact ⟨i + 1, hlt, rfl, qhid (HIN.out _)⟩
            case measure => simp [intOf]; omega
          · obtain rfl : i = d := by omega
            go_wp2_with fail
            go_ret
            exact ⟨rfl, HI.out.be⟩
    · have hcase : f < 0 ∨ (0 ≤ f ∧ (n : Int) ≤ f) ∨ (0 ≤ f ∧ f < (n : Int) ∧ t < 0) ∨ (0 ≤ f ∧ f < (n : Int) ∧ 0 ≤ t ∧ (n : Int) ≤ t) := by
        have hin' := hin
        unfold inB at hin'
        simp at hin'
        by_cases h1 : f < 0
        · exact .inl h1
        · by_cases h2 : (n : Int) ≤ f
          · exact .inr (.inl ⟨by omega, h2⟩)
          · by_cases h3 : t < 0
            · exact .inr (.inr (.inl ⟨by omega, by omega, h3⟩))
            · exact .inr (.inr (.inr ⟨by omega, by omega, by omega, hin' (by omega) (by omega) (by omega)⟩))
      have HPT := qhid (gpath_bad HG2.out f t (by simpa using hin))
      clear hin HG2 HT2
      rcases hcase with h1 | ⟨h1, h2⟩ | ⟨h1, h2, h3⟩ | ⟨h1, h2, h3, h4⟩
      all_goals
        go_wp2_with fail
        refine HPT.out.mono ?_
        rintro e w3 ⟨rfl, hw⟩
        obtain rfl : w2 = w3 := hw.symm
        go_wp2_with fail
        go_ret
        exact ⟨rfl, HB2.out⟩
theorem gplaw_all (x0 : Int) (v : Value) (x2 x3 : Int) (W : World) (b0 : 0 ≤ x0 ∧ x0 ≤ 255) (h : ∃ p n c xs ys, v = .slice p n c ∧ PairsAt W p n xs ys) :
    Calls Try.prog 4 #[.int .u8 x0, v, .int .i64 x2, .int .i64 x3] W fun e w' => e = .returned (.bool true) ∧ Below W.heap.size W w' := by
  obtain ⟨p, n, c, xs, ys, rfl, hp⟩ := h
  obtain ⟨s, rfl⟩ := Int.eq_ofNat_of_zero_le b0.1
  exact gplaw_any s n c x2 x3 p xs ys (by omega) hp
end
end Go.Proofs.Ytmgnjooifloefaa
