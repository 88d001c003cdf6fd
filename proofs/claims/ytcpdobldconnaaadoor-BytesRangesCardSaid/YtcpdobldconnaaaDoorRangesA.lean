/- Contracts: the end of a range. -/
import Derived.Test.YtcpdobldconnaaaDoorMakes0
import Derived.Test.YtcpdobldconnaaaDoorRegionY
namespace Go.Proofs.YtcpdobldconnaaaDoor
open Go Go.RowKit
attribute [local go_sem ↓] Go.wp_at_zero Go.wp_at_succ
attribute [local go_sem] eq4
theorem firstIs_one {f : Nat → Bool} {v v' : Value} (h : FirstIs f v) (h' : FirstIs f v') : v = v' := by
  rcases h with ⟨h, rfl⟩ | ⟨n, hn, hf, hl, rfl⟩
  · rcases h' with ⟨_, rfl⟩ | ⟨m, hm, hg, _, _⟩
    · rfl
    · rw [h m hm] at hg; cases hg
  · rcases h' with ⟨h', _⟩ | ⟨m, hm, hg, hk, rfl⟩
    · rw [h' n hn] at hf; cases hf
    · rcases Nat.lt_trichotomy n m with e | e | e
      · rw [hk n e] at hf; cases hf
      · subst e; rfl
      · rw [hl m e] at hg; cases hg
theorem first_at {a b c d : Int} {w : World} {v : Value} (fa : Fit a) (fb : Fit b) (fc : Fit c) (fd : Fit d) (hT : Tab w) (hv : FirstIs (memb a b c d) v) :
    Calls Tryd.prog 10 #[.agg #[.int .u64 a, .int .u64 b, .int .u64 c, .int .u64 d]] w fun e w' => e = .returned v ∧ Below w.heap.size w w' :=
  (first_any a b c d w fa fb fc fd hT).mono fun e w' ⟨v', he, h', hb⟩ => ⟨by rw [he, firstIs_one h' hv], hb⟩
def endTold (lo : Nat) (a b c d g : Int) (okb : Bool) : Nat → Reg.Told
  | 0 => .inl (.int .u8 ((lo : Int)))
  | 1 => .inl (.agg #[.int .u64 (frw lo 0), .int .u64 (frw lo 1), .int .u64 (frw lo 2), .int .u64 (frw lo 3)])
  | 2 => .inl (.agg #[.int .u64 a, .int .u64 b, .int .u64 c, .int .u64 d])
  | 3 => .inl (.agg #[.int .u64 (an (frw lo 0) (nt a)), .int .u64 (an (frw lo 1) (nt b)), .int .u64 (an (frw lo 2) (nt c)), .int .u64 (an (frw lo 3) (nt d))])
  | 4 => .inl (.tuple #[.int .u8 g, .bool okb])
  | 5 => .inl (.tuple #[.int .u8 g, .bool okb])
  | 6 => .inl (.int .u8 g)
  | 7 => .inl (.bool okb)
  | 8 => .inl (.int .u8 g)
  | 9 => .inl (.bool okb)
  | _ => .inl undef
set_option maxRecDepth 100000 in
set_option maxHeartbeats 8000000 in
theorem end_at (lo : Nat) (a b c d g : Int) (okb : Bool) (r : Int) (w : World) (hlo : lo < 256) (hT : Tab w) (hF : FirstIs (memb (an (frw lo 0) (nt a)) (an (frw lo 1) (nt b)) (an (frw lo 2) (nt c)) (an (frw lo 3) (nt d))) (.tuple #[.int .u8 g, .bool okb])) (hr : (okb = false ∧ r = 255) ∨ (okb = true ∧ 1 ≤ g ∧ g ≤ 255 ∧ r = g - 1)) :
    Calls Tryd.prog 41 #[.agg #[.int .u64 a, .int .u64 b, .int .u64 c, .int .u64 d], .int .u8 lo] w fun e w' => e = .returned (.int .u8 r) ∧ Below w.heap.size w w' := by
  have HF := hid hF
  clear hF
  go_enter Tryd.func41, Tryd.ntmps41
  go_wp2_with fail
  generalize hws : w.alloc _ = ws
  have HS : HeldS ws w.heap.size a b c d ws := by
    subst hws
    exact ⟨⟨by simp [go_sem], by simp [go_sem], by simp [go_sem], by simp [go_sem]⟩, by simp, Below.refl _ _⟩
  have hba : Below w.heap.size w ws := by subst hws; exact below1 _ _
  clear hws
  have HT := hid (hT.up hba)
  have HB := hid hba
  have hs := hba.size
  have HW := heldS_below (Below.refl _ ws).drew HS
  clear hT hba HS
  generalize w.heap.size = gs at HW ⊢
  refine Reg.wp_region_told (endTold lo a b c d g okb) [] [0, 1, 2, 3, 4, 5, 6, 7, 8, 9] (by kernel_rfl) (by kernel_rfl) (by kernel_rfl) (by intro f hf; cases hf) (by intro f hf; cases hf) ?_ ?_
  focus
    refine ⟨Reg.opOK_plain (by rfl) fun G listed A wv hI hall => .inl ⟨Reg.wanted_none rfl, ?_⟩, ?_⟩
    focus
      have e1 := hI.evo (d := 1) (by kernel_rfl) rfl
      clear hI hall HW
      unfold Reg.Yields
      go_simp
      exact Reg.good_val (by rfl) (by rfl) (Below.refl _ _)
    refine ⟨Reg.opOK_plain (by rfl) fun G listed A wv hI hall => .inl ⟨Reg.wanted_none rfl, ?_⟩, ?_⟩
    focus
      have e8 := hI.ev (i := 0) (d := 8) (by rfl) (by rfl) (hall ⟨0, .data⟩ (by simp) rfl)
      clear hI hall HW
      unfold Reg.Yields
      go_simp
      exact (from_any lo hlo _).mono fun e w'' ⟨he, hb⟩ => ⟨_, he, Reg.good_val (by rfl) (by rfl) hb⟩
    refine ⟨Reg.opOK_plain (by rfl) fun G listed A wv hI hall => .inl ⟨Reg.wanted_none rfl, ?_⟩, ?_⟩
    focus
      have H := heldS_below hI.base HW
      have e2 := hI.evo (d := 2) (by kernel_rfl) rfl
      clear hI hall HW
      unfold Reg.Yields
      go_simp
      exact Reg.good_val (by rfl) (by rfl) (Below.refl _ _)
    refine ⟨Reg.opOK_plain (by rfl) fun G listed A wv hI hall => .inl ⟨Reg.wanted_none rfl, ?_⟩, ?_⟩
    focus
      have e9 := hI.ev (i := 1) (d := 9) (by rfl) (by rfl) (hall ⟨1, .data⟩ (by simp) rfl)
      have e10 := hI.ev (i := 2) (d := 10) (by rfl) (by rfl) (hall ⟨2, .data⟩ (by simp) rfl)
      clear hI hall HW
      unfold Reg.Yields
      go_simp
      exact (minus_any _ _ _ _ _ _ _ _ _).mono fun e w'' ⟨he, hb⟩ => ⟨_, he, Reg.good_val (by rfl) (by rfl) hb⟩
    refine ⟨Reg.opOK_plain (by rfl) fun G listed A wv hI hall => .inl ⟨Reg.wanted_none rfl, ?_⟩, ?_⟩
    focus
      have H := heldS_below hI.base HW
      have e11 := hI.ev (i := 3) (d := 11) (by rfl) (by rfl) (hall ⟨3, .data⟩ (by simp) rfl)
      clear hI hall HW
      unfold Reg.Yields
      go_simp
      exact (first_at (an_fit _ _) (an_fit _ _) (an_fit _ _) (an_fit _ _) (HT.out.below H.2.2 HT.out.lt) HF.out).mono fun e w'' ⟨he, hb⟩ => ⟨_, he, Reg.good_val (by rfl) (by rfl) hb⟩
    refine ⟨Reg.opOK_plain (by rfl) fun G listed A wv hI hall => .inl ⟨Reg.wanted_none rfl, ?_⟩, ?_⟩
    focus
      have e12 := hI.ev (i := 4) (d := 12) (by rfl) (by rfl) (hall ⟨4, .data⟩ (by simp) rfl)
      clear hI hall HW
      unfold Reg.Yields
      go_simp
      exact Reg.good_val (by rfl) (by rfl) (Below.refl _ _)
    refine ⟨Reg.opOK_plain (by rfl) fun G listed A wv hI hall => .inl ⟨Reg.wanted_none rfl, ?_⟩, ?_⟩
    focus
      have e7 := hI.ev (i := 5) (d := 7) (by rfl) (by rfl) (hall ⟨5, .data⟩ (by simp) rfl)
      clear hI hall HW
      unfold Reg.Yields
      go_simp
      exact Reg.good_val (by rfl) (by rfl) (Below.refl _ _)
    refine ⟨Reg.opOK_plain (by rfl) fun G listed A wv hI hall => .inl ⟨Reg.wanted_none rfl, ?_⟩, ?_⟩
    focus
      have e7 := hI.ev (i := 5) (d := 7) (by rfl) (by rfl) (hall ⟨5, .data⟩ (by simp) rfl)
      clear hI hall HW
      unfold Reg.Yields
      go_simp
      exact Reg.good_val (by rfl) (by rfl) (Below.refl _ _)
    refine ⟨Reg.opOK_plain (by rfl) fun G listed A wv hI hall => .inl ⟨Reg.wanted_none rfl, ?_⟩, ?_⟩
    focus
      have e13 := hI.ev (i := 6) (d := 13) (by rfl) (by rfl) (hall ⟨6, .data⟩ (by simp) rfl)
      clear hI hall HW
      unfold Reg.Yields
      go_simp
      exact Reg.good_val (by rfl) (by rfl) (Below.refl _ _)
    refine ⟨Reg.opOK_plain (by rfl) fun G listed A wv hI hall => .inl ⟨Reg.wanted_none rfl, ?_⟩, ?_⟩
    focus
      have e14 := hI.ev (i := 7) (d := 14) (by rfl) (by rfl) (hall ⟨7, .data⟩ (by simp) rfl)
      clear hI hall HW
      unfold Reg.Yields
      go_simp
      exact Reg.good_val (by rfl) (by rfl) (Below.refl _ _)
    trivial
  intro G w2 hI
  have H := heldS_below hI.base HW
  have HFin := hid (HB.out.trans (H.2.2.mono hs))
  clear hI HW H
  simp [Reg.finalTmps, Reg.dstAt, Reg.valOf, endTold]
  rcases hr with ⟨rfl, rfl⟩ | ⟨rfl, h1, h2, rfl⟩
  · go_wp2
    go_ret
    exact ⟨rfl, HFin.out⟩
  · have hu : IntKind.u8.wrap (g - 1) = g - 1 := by simp [IntKind.wrap, IntKind.signed, IntKind.bits]; omega
    go_wp2
    go_ret
    exact ⟨rfl, HFin.out⟩
end Go.Proofs.YtcpdobldconnaaaDoor
