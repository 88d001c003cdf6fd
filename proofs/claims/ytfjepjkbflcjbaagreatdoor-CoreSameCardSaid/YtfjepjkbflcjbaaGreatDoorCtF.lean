/- core.Text told. core: Same and Sets of nil. The document's example of layer 8. The statement CoreNone, walked. -/
import Derived.Test.YtfjepjkbflcjbaaGreatDoorCtB
namespace Go.Proofs.YtfjepjkbflcjbaaGreatDoor
section
section
open Go Go.RowKit
attribute [local go_sem ↓] Go.wp_at_zero Go.wp_at_succ
attribute [local go_sem] eq4
set_option maxRecDepth 100000 in
set_option maxHeartbeats 4000000 in
theorem ctext_any (c : Co) (p : Option Addr) (w : World) (hc : CoAt w c (.pointer p)) (hF : CoFit c) (hT : Tab w) (hz : 4 * coSize c + 1 ≤ 100000000) (hl : (coN c).length ≤ 2147483647) :
    Calls Tryz.prog 8 #[.pointer p] w fun e w' => e = .returned (.string (baN (coN c))) ∧ Below w.heap.size w w' := by
  have HLN := qhid (clen_any c _ w hc hF hT (by omega) (by unfold top; omega))
  obtain ⟨n, hn⟩ : ∃ n, n = (coN c).length := ⟨_, rfl⟩
  rw [← hn] at HLN
  have HN := qhid hn
  rcases hc.nil_iff with ⟨rfl, _⟩ | ⟨hne, q, hpq⟩
  · have h0 : n = 0 := hn
    subst h0
    clear hc hF hT hz hl hn
    go_enter Tryz.func8, Tryz.ntmps8
    go_wp2_with fail
    refine HLN.out.mono ?_
    rintro e w1 ⟨rfl, hb1⟩
    have HB1 := qhid hb1
    clear hb1
    go_wp2_with fail
    go_ret
    exact ⟨rfl, HB1.out⟩
  · have hpos : 0 < n := by
      cases c with
      | nil => exact absurd rfl hne
      | node k s z a b =>
        have := frN_pos k s z
        rw [hn, coN]
        unfold frN at this
        simp only [List.length_append]
        omega
    have hle : n ≤ 2147483647 := by omega
    have HC := qhid hc
    have HF := qhid hF
    have HT := qhid hT
    have HZ := qhid hz
    have HL := qhid hl
    have e0 : ((n : Int) == 0) = false := by simp; omega
    clear hc hF hT hz hl hn hne hpq
    go_enter Tryz.func8, Tryz.ntmps8
    go_wp2_with fail
    refine HLN.out.mono ?_
    rintro e w1 ⟨rfl, hb1⟩
    have HB1 := qhid hb1
    obtain ⟨w2, hw2⟩ : ∃ X, X = w1.alloc (.cells #[.pointer none, .slice none 0 0] 60) := ⟨_, rfl⟩
    obtain ⟨b, hb⟩ : ∃ b, b = w1.heap.size := ⟨_, rfl⟩
    have b2 : Below w1.heap.size w1 w2 := by rw [hw2]; exact below1 _ _
    have GR := qhid (sb_Grow w1.heap.size b n w2 (by omega) (by rw [hw2, hb]; exact heap_new _ _) b2.size (by omega))
    have HB2 := qhid b2
    have HW2 := qhid hw2
    have HBE := qhid hb
    clear hb1 b2 hw2 hb HLN
    go_wp2_with fail
    rw [← HW2.out, ← HBE.out]
    refine GR.out.mono ?_
    rintro e w3 ⟨rfl, h3, hb3⟩
    have TL := qhid (ctell_any w1 w3 b c p (HC.out.up HB1.out) HF.out (HT.out.below HB1.out HT.out.lt) (.inr h3) (HB2.out.trans hb3) HZ.out (by have := HL.out; omega))
    have HB3 := qhid (HB2.out.trans hb3)
    clear h3 hb3 GR
    go_wp2_with fail
    refine TL.out.mono ?_
    rintro e w4 ⟨rfl, h4, hb4⟩
    have ST := qhid (sb_string w1.heap.size b _ w4 h4 hb4.size)
    have HB4 := qhid hb4
    clear h4 hb4 TL
    go_wp2_with fail
    refine ST.out.mono ?_
    rintro e w5 ⟨rfl, hb5⟩
    have HB5 := qhid (HB1.out.trans ((HB4.out.trans hb5).mono HB1.out.size))
    clear hb5 ST
    go_wp2_with fail
    go_ret
    exact ⟨rfl, HB5.out⟩
end
end
section
section
open Go Go.RowKit
attribute [local go_sem ↓] Go.wp_at_zero Go.wp_at_succ
attribute [local go_sem] eq4
end
end
section
section
open Go Go.RowKit
attribute [local go_sem ↓] Go.wp_at_zero Go.wp_at_succ
attribute [local go_sem] eq4
def coExS : ByteArray := ⟨#[97, 123, 50, 44, 51, 125]⟩
def coExT : Tr := .mk 6 noW 2 3 false 0 6 [.mk 1 (oneW 97) 0 0 false 0 1 []]
theorem coEx_is : parseR coExS = (0, 0, some coExT) := by kernel_rfl
theorem coEx_rt : RtT coExT := .rep _ _ _ _ _ _ (by decide) (by first | exact .inl rfl | decide | trivial | simp [IsSingle, kdT]) (.set _ _ _ (oneW_fit 97))
theorem coEx_text : baN (coN (byC 0 (coreT coExT))) = ⟨#[40, 97, 40, 97, 40, 97, 124, 40, 41, 41, 41, 41]⟩ := by kernel_rfl
theorem coEx_size : coSize (byC 0 (coreT coExT)) = 7 := by kernel_rfl
theorem coEx_len : (coN (byC 0 (coreT coExT))).length = 12 := by kernel_rfl
theorem coEx_small : adL [szT coExT, addM 0] ≤ 4096 := by decide +kernel
theorem coEx_core : byC 0 (coreT coExT) = .node 2 noW false (.node 1 (oneW 97) false .nil .nil) (.node 2 noW false (.node 1 (oneW 97) false .nil .nil) (.node 3 noW false (.node 1 (oneW 97) false .nil .nil) emptyC)) := by kernel_rfl

theorem coEx_fit : CoFit (byC 0 (coreT coExT)) := by
  have h := oneW_fit 97
  have e := noW_fit
  rw [coEx_core]
  exact ⟨e, ⟨h, trivial, trivial⟩, e, ⟨h, trivial, trivial⟩, e, ⟨h, trivial, trivial⟩, e, trivial, trivial⟩
set_option maxRecDepth 100000 in
set_option maxHeartbeats 4000000 in
theorem core_awake (w : World) (hT : Tab w) : Calls Tryz.prog 4 #[] w fun e w' => e = .returned (.bool true) ∧ Below w.heap.size w w' := by
  have PA := qhid (cparse_ok coExS 0 (by decide) coExT (by decide) coEx_is coEx_rt (by decide +kernel) (by decide +kernel) w hT)
  have HT := qhid hT
  clear hT
  go_enter Tryz.func4, Tryz.ntmps4
  go_wp2_with fail
  refine PA.out.mono ?_
  rintro x w1 ⟨v, e, rfl, hbc, hb1⟩
  obtain ⟨rfl, hc⟩ : e = 0 ∧ CoAt w1 (byC 0 (coreT coExT)) v := by
    rcases hbc with ⟨h, _⟩ | ⟨_, h, h2⟩
    · have := coEx_small; omega
    · exact ⟨h, h2⟩
  obtain ⟨p, rfl⟩ := hc.ptr
  have TX := ctext_any _ p w1 hc coEx_fit (HT.out.below hb1 HT.out.lt) (by rw [coEx_size]; omega) (by rw [coEx_len]; omega)
  rw [coEx_text] at TX
  have HTX := qhid TX
  have HC := qhid hc
  have HB1 := qhid hb1
  clear TX hc hb1 hbc PA
  go_wp2_with fail
  refine HTX.out.mono ?_
  rintro x w2 ⟨rfl, hb2⟩
  have SZ := csize_any _ (.pointer p) w2 (HC.out.up hb2) (by rw [coEx_size]; omega)
  rw [coEx_size] at SZ
  have HSZ := qhid SZ
  have HB2 := qhid (HB1.out.trans (hb2.mono HB1.out.size))
  clear SZ hb2 HTX
  go_wp2_with fail
  refine HSZ.out.mono ?_
  rintro x w3 ⟨rfl, hb3⟩
  have HB3 := qhid (HB2.out.trans (hb3.mono HB2.out.size))
  clear hb3 HSZ
  go_wp2_with fail
  go_ret
  exact ⟨rfl, HB3.out⟩
end
end
section
section
open Go Go.RowKit
attribute [local go_sem ↓] Go.wp_at_zero Go.wp_at_succ
attribute [local go_sem] eq4
end
end
end Go.Proofs.YtfjepjkbflcjbaaGreatDoor
