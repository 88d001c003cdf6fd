/- The law BytesRanges, walked. -/
import Derived.Test.YtcpdobldconnaaaDoorRangesE
import Derived.Test.YtcpdobldconnaaaDoorBytesE
namespace Go.Proofs.YtcpdobldconnaaaDoor
open Go Go.RowKit
attribute [local go_sem ↓] Go.wp_at_zero Go.wp_at_succ
attribute [local go_sem] eq4
theorem belowN2 {B : Nat} {a w : World} (h : Below B a w) (n : Nat) : Below B a (w.drewN n) := ⟨h.os, h.tape, h.output, h.size, h.block⟩
def DoneR (w : World) (e : Ending) (w' : World) : Prop := e = .returned (.bool true) ∧ Below w.heap.size w w'
theorem from_at {a b c d : Int} {p : Option Addr} {n cap : Nat} {lo hi : Nat → Nat} {w : World} (fa : Fit a) (fb : Fit b) (fc : Fit c) (fd : Fit d) (h : ∀ m, m < 256 → frm lo hi n m = memb a b c d m) (hp : PairRow w p n lo hi) :
    Calls Tryd.prog 18 #[.slice p n cap] w fun e w' => e = .returned (.agg #[.int .u64 a, .int .u64 b, .int .u64 c, .int .u64 d]) ∧ Below w.heap.size w w' := by
  obtain ⟨e0, e1, e2, e3⟩ := memb_ext (fww_fit lo hi n 0) (fww_fit lo hi n 1) (fww_fit lo hi n 2) (fww_fit lo hi n 3) fa fb fc fd (fun m hm => (memb_fww lo hi hp.2.2.1 n m hm).trans (h m hm))
  have hc := rangesof_any p n cap lo hi w hp
  rw [e0, e1, e2, e3] at hc
  exact hc
def lrTold (a b c d : Int) (rs : List (Nat × Nat)) (pv : Option Addr) (cv : Nat) : Nat → Reg.Told
  | 0 => .inl (.slice pv rs.length cv)
  | 1 => .inl (.agg #[.int .u64 a, .int .u64 b, .int .u64 c, .int .u64 d])
  | 2 => .inl (.agg #[.int .u64 a, .int .u64 b, .int .u64 c, .int .u64 d])
  | 3 => .inl (.bool false)
  | _ => .inl undef
/-- What holds while the list's ranges are marked. -/
def OnR (w : World) (gon : Nat) (f : Nat → Bool) (wr : World) : Prop := wr.heap[gon]? = some (.cells (bl f) 4) ∧ Below w.heap.size w wr
theorem OnR.step {w wr : World} {gon b : Nat} {f : Nat → Bool} (h : OnR w gon f wr) (hw : w.heap.size ≤ gon) : OnR w gon (fun n => if n = b then true else f n) (wr.setCell ⟨gon, b, none⟩ (.bool true)) :=
  ⟨by rw [Joins.block_setCell h.1 _, bl_set], h.2.setCell hw _⟩
def upb (f : Nat → Bool) (lo b : Nat) : Nat → Bool := fun n => f n || decide (lo ≤ n ∧ n < b)
theorem upb_step (f : Nat → Bool) (lo b : Nat) (h : lo ≤ b) : (fun n => if n = b then true else upb f lo b n) = upb f lo (b + 1) := by
  funext n
  unfold upb
  by_cases e : n = b
  · subst e; simp [h]
  · have : (lo ≤ n ∧ n < b + 1) = (lo ≤ n ∧ n < b) := by apply propext; omega
    simp [e, this]
theorem upb_end (lo hi : Nat → Nat) (k b : Nat) (_ : lo k ≤ b) (h2 : b = lo k ∨ b ≤ hi k + 1) (h3 : hi k < b) : upb (frm lo hi k) (lo k) b = frm lo hi (k + 1) := by
  funext n
  unfold upb
  show (frm lo hi k n || decide (lo k ≤ n ∧ n < b)) = (frm lo hi k n || decide (lo k ≤ n ∧ n ≤ hi k))
  have : (lo k ≤ n ∧ n < b) = (lo k ≤ n ∧ n ≤ hi k) := by apply propext; omega
  simp only [this]
theorem upb_zero (f : Nat → Bool) (lo : Nat) : upb f lo lo = f := by
  funext n
  unfold upb
  have : ¬ (lo ≤ n ∧ n < lo) := by omega
  simp [this]
set_option maxRecDepth 100000 in
set_option maxHeartbeats 2000000 in
theorem lr_long (a b c d : Int) (p : Option Addr) (n cap : Nat) (w : World) (hn : 300 < n) (_ : n ≤ 9223372036854775807) :
    Calls Tryd.prog 4 #[.agg #[.int .u64 a, .int .u64 b, .int .u64 c, .int .u64 d], .slice p n cap] w (DoneR w) := by
  go_enter Tryd.func4, Tryd.ntmps4
  go_wp2_with fail
  refine (awake_any _).mono ?_
  rintro e w1 ⟨rfl, hb1⟩
  have HF := hid (below_next (below1 _ _) hb1 (by simp))
  clear hb1
  go_wp2
  go_ret
  exact ⟨rfl, HF.out⟩
set_option maxRecDepth 100000 in
set_option maxHeartbeats 8000000 in
theorem lr_walk (a b c d : Int) (p : Option Addr) (n cap : Nat) (lo hi : Nat → Nat) (w : World) (hl : PairRow w p n lo hi) (hn : n ≤ 300) (fa : Fit a) (fb : Fit b) (fc : Fit c) (fd : Fit d) (hT : Tab w) :
    Calls Tryd.prog 4 #[.agg #[.int .u64 a, .int .u64 b, .int .u64 c, .int .u64 d], .slice p n cap] w (DoneR w) := by
  have hmk : ∀ w, (Instr.makeSlice 24 (.int .i64 256) (.int .i64 256)).run Tryd.prog w = .ok (.slice (some ⟨w.heap.size, 0, none⟩) 256 256) (w.alloc (.cells (bl fun _ => false) 4)) := fun _ => by kernel_rfl
  have HL := hid hl
  have HT := hid hT
  clear hl hT
  go_enter Tryd.func4, Tryd.ntmps4
  go_wp2_with fail
  generalize hws : w.alloc _ = ws
  have HS : HeldS ws w.heap.size a b c d ws := by
    subst hws
    exact ⟨⟨by simp [go_sem], by simp [go_sem], by simp [go_sem], by simp [go_sem]⟩, by simp, Below.refl _ _⟩
  have HB := hid (show Below w.heap.size w ws by subst hws; exact below1 _ _)
  have HHS := hid HS
  clear hws HS
  generalize w.heap.size = gs at HHS ⊢
  refine (ranges_any _ _ _ _ _ fa fb fc fd (HT.out.up HB.out)).mono ?_
  rintro e w1 ⟨rs, vr, rfl, hR, hlen, hin, hown, hb1⟩
  obtain ⟨pv, cv, rfl, hP⟩ := pairs_of_row hown hR hlen
  have HP0 := hid hP
  have HE := hid (show ∀ m, m < 256 → frm (loR rs) (hiR rs) rs.length m = memb a b c d m from fun m hm => (frm_all rs m).trans (hin m hm))
  have HR := hid hR
  have HB1 := hid (HB.out.trans (hb1.mono HB.out.size))
  have HS1 := heldS_below hb1 HHS.out
  have HS1 : HeldS w1 gs a b c d w1 := ⟨HS1.1, HS1.2.1, Below.refl _ _⟩
  clear hP hin hown hb1 hR HB HHS
  go_wp2_with fail
  have HW := heldS_below (Below.refl _ w1).drew HS1
  have HP := HP0
  clear HS1
  refine Reg.wp_region_told (lrTold a b c d rs pv cv) [] [0, 1, 2, 3] (by kernel_rfl) (by kernel_rfl) (by kernel_rfl) (by intro f hf; cases hf) (by intro f hf; cases hf) ?_ ?_
  focus
    refine ⟨Reg.opOK_plain (by rfl) fun G listed A wv hI hall => .inl ⟨Reg.wanted_none rfl, ?_⟩, ?_⟩
    focus
      have e5 := hI.evo (d := 5) (by kernel_rfl) rfl
      clear hI hall HW
      unfold Reg.Yields
      go_simp
      exact Reg.good_val (by rfl) (by rfl) (Below.refl _ _)
    refine ⟨Reg.opOK_plain (by rfl) fun G listed A wv hI hall => .inl ⟨Reg.wanted_none rfl, ?_⟩, ?_⟩
    focus
      have H := heldS_below hI.base HW
      have e16 := hI.ev (i := 0) (d := 16) (by rfl) (by rfl) (hall ⟨0, .data⟩ (by simp) rfl)
      clear hI hall HW
      unfold Reg.Yields
      go_simp
      exact (from_at fa fb fc fd HE.out (HP.out.below H.2.2 (Nat.le_refl _))).mono fun e w'' ⟨he, hb⟩ => ⟨_, he, Reg.good_val (by rfl) (by rfl) hb⟩
    refine ⟨Reg.opOK_plain (by rfl) fun G listed A wv hI hall => .inl ⟨Reg.wanted_none rfl, ?_⟩, ?_⟩
    focus
      have H := heldS_below hI.base HW
      have e2 := hI.evo (d := 2) (by kernel_rfl) rfl
      clear hI hall HW
      unfold Reg.Yields
      go_simp
      exact Reg.good_val (by rfl) (by rfl) (Below.refl _ _)
    refine ⟨Reg.opOK_plain (by rfl) fun G listed A wv hI hall => .inl ⟨Reg.wanted_none rfl, ?_⟩, ?_⟩
    focus
      have e17 := hI.ev (i := 1) (d := 17) (by rfl) (by rfl) (hall ⟨1, .data⟩ (by simp) rfl)
      have e18 := hI.ev (i := 2) (d := 18) (by rfl) (by rfl) (hall ⟨2, .data⟩ (by simp) rfl)
      clear hI hall HW
      unfold Reg.Yields
      go_simp
      exact Reg.good_val (by rfl) (by rfl) (Below.refl _ _)
    trivial
  intro G w2 hI
  have H := heldS_below hI.base HW
  have HB2 := hid (HB1.out.trans (H.2.2.mono HB1.out.size))
  have HP2 := hid (HP0.out.below H.2.2 (Nat.le_refl _))
  clear hI HW H HP HP0 HB1
  simp [Reg.finalTmps, Reg.dstAt, Reg.valOf, lrTold]
  go_wp2_with fail
  go_loopw [6] (fun i wr => ∃ k : Nat, k ≤ rs.length ∧ i = .int .i64 k ∧ Below w2.heap.size w2 wr) (fun i _ => rs.length - (intOf i).toNat)
  case atStart => exact ⟨0, by omega, rfl, Below.refl _ _⟩
  case round =>
    obtain ⟨k, hk, rfl, hb⟩ := hrel
    have HBk := hid hb
    clear hb
    by_cases hlt : k < rs.length
    · obtain ⟨g, o, rfl, hg, hc⟩ := HP2.out.2.2.2.resolve_left (by omega)
      have hc0 := (HBk.out.cell (p := ⟨g, o + k * 2, none⟩) hg).trans (hc k hlt).1
      have hc1 := (HBk.out.cell (p := ⟨g, o + k * 2 + 1, none⟩) hg).trans (hc k hlt).2
      have hri := rise_each rs HR.out k hlt
      rw [← loR_in hlt, ← hiR_in hlt] at hri
      have hle : decide (hiR rs k < loR rs k) = false := by simp; omega
      have hkI : (k : Int) < rs.length := by omega
      have hk0 : (0 : Int) ≤ (k : Int) := by omega
      have hb0 := HP2.out.2.1
      have hb1 := HP2.out.2.2.1
      rcases (show k = 0 ∨ ∃ j, k = j + 1 from by cases k with | zero => exact .inl rfl | succ j => exact .inr ⟨j, rfl⟩) with rfl | ⟨j, rfl⟩
      · clear hc hri hb0 hb1
        have h0r : (0 : Int) < rs.length := by omega
        simp only [Nat.zero_mul, Nat.add_zero] at hc0 hc1
        go_wp2_with fail
        go_quiet (fail)
        clear hc0 hc1
        go_wp2_with fail
        exact ⟨⟨1, by omega, by go_num, belowN2 HBk.out nq⟩, by simp [intOf]; omega⟩
      · have hcp := (HBk.out.cell (p := ⟨g, o + j * 2 + 1, none⟩) hg).trans (hc j (by omega)).2
        have hrj := (rise_each rs HR.out j (by omega)).2.2 hlt
        rw [← hiR_in (show j < rs.length by omega), ← loR_in hlt] at hrj
        have hjI : (j : Int) + 1 < rs.length := by omega
        have hjI0 : (j : Int) < rs.length := by omega
        have hj0 : (0 : Int) ≤ (j : Int) := by omega
        have hj1 : (0 : Int) ≤ (j : Int) + 1 := by omega
        have hjn : ((j : Int) + 1).toNat = j + 1 := by omega
        have hw1 : IntKind.i64.wrap ((j : Int) + 1 - 1) = (j : Int) := by rw [IntWalk.i64_in _ (by omega)]; omega
        have hbj := hb1 j
        have hbl := hb0 (j + 1)
        have hw2 : IntKind.i64.wrap ((hiR rs j : Int) + 1) = (hiR rs j : Int) + 1 := IntWalk.i64_in _ (by omega)
        have hg1 : decide ((loR rs (j + 1) : Int) ≤ (hiR rs j : Int) + 1) = false := by simp; omega
        have hg2 : decide (loR rs (j + 1) ≤ hiR rs j + 1) = false := by simp; omega
        clear hc hri hb0 hb1
        go_wp2_with fail
        go_quiet (fail)
        clear hc0 hc1 hcp hw1 hw2
        go_wp2_with fail
        exact ⟨⟨j + 1 + 1, by omega, by go_num, belowN2 HBk.out nq⟩, by simp [intOf]; omega⟩
    · have e1 : k = rs.length := by omega
      subst e1
      have HBa := hid (HB2.out.trans (HBk.out.mono HB2.out.size))
      clear HBk HB2 HP2
      go_wp2_with fail
      generalize hWn : wr.alloc _ = W3
      have HO : Hid (OnR w wr.heap.size (frm lo hi 0) W3) := by
        subst hWn
        exact ⟨heap_new _ _, HBa.out.alloc HBa.out.size _⟩
      have hgo := HBa.out.size
      clear hWn HBa
      generalize wr.heap.size = gon at HO hgo ⊢
      go_loopw [8] (fun i wr => ∃ k : Nat, k ≤ n ∧ i = .int .i64 k ∧ OnR w gon (frm lo hi k) wr) (fun i _ => n - (intOf i).toNat)
      case atStart => exact ⟨0, by omega, rfl, HO.out⟩
      case round =>
        clear HO
        obtain ⟨k, hk, rfl, hm⟩ := hrel
        have HM := hid hm
        clear hm
        by_cases hlt2 : k < n
        · obtain ⟨g, o, rfl, hg, hc⟩ := HL.out.2.2.2.resolve_left (by omega)
          have hc0 := (HM.out.2.cell (p := ⟨g, o + k * 2, none⟩) hg).trans (hc k hlt2).1
          have HC1 := hid (hc k hlt2).2
          have hlk := HL.out.2.1 k
          have hhk := HL.out.2.2.1 k
          have hkI : (k : Int) < n := by omega
          have hk0 : (0 : Int) ≤ (k : Int) := by omega
          have hwl : IntKind.i64.wrap (lo k : Int) = (lo k : Int) := IntWalk.i64_in _ (by omega)
          clear hc
          go_wp2_with fail
          clear hc0 hwl
          go_loopw [9] (fun i wr => ∃ b : Nat, lo k ≤ b ∧ b ≤ 256 ∧ (b = lo k ∨ b ≤ hi k + 1) ∧ i = .int .i64 b ∧ OnR w gon (upb (frm lo hi k) (lo k) b) wr) (fun i _ => 257 - (intOf i).toNat)
          case atStart => exact ⟨lo k, by omega, by omega, .inl rfl, rfl, by rw [upb_zero]; exact HM.out⟩
          case round =>
            clear HM
            obtain ⟨b, hb1, hb2, hb3, rfl, hm⟩ := hrel
            have HM := hid hm
            clear hm
            have hc1 := (HM.out.2.cell (p := ⟨g, o + k * 2 + 1, none⟩) hg).trans HC1.out
            by_cases hle : b ≤ hi k
            · have hb256 : b < 256 := by omega
              have hq := (Joins.cell_of_block HM.out.1 b).trans (bl_at _ b hb256)
              have hz := Joins.unfrozen_of_block HM.out.1 b
              have hbI : (b : Int) < 256 := by omega
              have HS := hid (HM.out.step (b := b) hgo)
              rw [upb_step _ _ _ hb1] at HS
              go_wp2_with fail
              exact ⟨⟨b + 1, by omega, by omega, .inr (by omega), by go_num, HS.out⟩, by simp [intOf]; omega⟩
            · have HE2 := hid (upb_end lo hi k b hb1 hb3 (by omega))
              have HM2 := HM.out
              rw [HE2.out] at HM2
              have HM3 := hid HM2
              clear HM2
              go_wp2_with fail
              exact ⟨⟨k + 1, by omega, by go_num, HM3.out⟩, by simp [intOf]; omega⟩
        · have e1 : k = n := by omega
          subst e1
          have HLw := hid (HL.out.below HM.out.2 (Nat.le_refl _))
          have hsz := HM.out.2.size
          go_wp2_with fail
          refine (rangesof_any _ _ _ lo hi _ HLw.out).mono ?_
          rintro e w5 ⟨rfl, hb5⟩
          have HO5 := hid (show BoolsAt w5 gon (frm lo hi k) from (bools_of_block HM.out.1).below hb5 (sizeOfGet HM.out.1))
          have HB5 := hid (HM.out.2.trans (hb5.mono hsz))
          clear hb5
          go_wp2_with fail
          refine (make_known (fww lo hi k 0) (fww lo hi k 1) (fww lo hi k 2) (fww lo hi k 3) HO5.out (fww_fit _ _ _ _) (fww_fit _ _ _ _) (fww_fit _ _ _ _) (fww_fit _ _ _ _) (fun m hm => memb_fww lo hi HL.out.2.2.1 k m hm)).mono ?_
          rintro e w6 ⟨rfl, hb6⟩
          have HB6 := hid (HB5.out.trans (hb6.mono HB5.out.size))
          clear hb6
          go_wp2_with fail
          refine (awake_any _).mono ?_
          rintro e w7 ⟨rfl, hb7⟩
          have HB7 := hid (HB6.out.trans (hb7.mono HB6.out.size))
          clear hb7
          go_wp2
          go_ret
          exact ⟨rfl, HB7.out⟩
theorem lr_all (a b c d : Int) (v : Value) (w : World) (h : ∃ p n c lo hi, v = .slice p n c ∧ PairRow w p n lo hi) (fa : Fit a) (fb : Fit b) (fc : Fit c) (fd : Fit d) (hT : Tab w) :
    Calls Tryd.prog 4 #[.agg #[.int .u64 a, .int .u64 b, .int .u64 c, .int .u64 d], v] w (DoneR w) := by
  obtain ⟨p, n, cap, lo, hi, rfl, hl⟩ := h
  by_cases hn : n ≤ 300
  · exact lr_walk a b c d p n cap lo hi w hl hn fa fb fc fd hT
  · exact lr_long a b c d p n cap w (by omega) hl.1
end Go.Proofs.YtcpdobldconnaaaDoor
