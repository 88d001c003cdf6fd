/- core.Text told. core: Same and Sets of nil. The document's example of layer 8. The statement CoreNone, walked. -/
import Derived.Test.YtlmcgbieobklhaaGreatDoorCtB
namespace Go.Proofs.YtlmcgbieobklhaaGreatDoor
section
section
open Go Go.RowKit
attribute [local go_sem ↓] Go.wp_at_zero Go.wp_at_succ
attribute [local go_sem] eq4
set_option maxRecDepth 100000 in
set_option maxHeartbeats 4000000 in
theorem ctext_any (c : Co) (p : Option Addr) (w : World) (hc : CoAt w c (.pointer p)) (hF : CoFit c) (hT : Tab w) (hz : 4 * coSize c + 1 ≤ 100000000) (hl : (coN c).length ≤ 2147483647) :
    Calls Tryz.prog 23 #[.pointer p] w fun e w' => e = .returned (.string (baN (coN c))) ∧ Below w.heap.size w w' := by
  have HLN := qhid (clen_any c _ w hc hF hT (by omega) (by unfold top; omega))
  obtain ⟨n, hn⟩ : ∃ n, n = (coN c).length := ⟨_, rfl⟩
  rw [← hn] at HLN
  have HN := qhid hn
  rcases hc.nil_iff with ⟨rfl, _⟩ | ⟨hne, q, hpq⟩
  · have h0 : n = 0 := hn
    subst h0
    clear hc hF hT hz hl hn
    go_enter Tryz.func23, Tryz.ntmps23
    go_wp2_with fail
    refine HLN.out.mono ?_
    rintro e w1 ⟨rfl, hb1⟩
    have HB1 := qhid hb1
    clear hb1
    go_wp2_with fail
    go_ret
    exact ⟨rfl, HB1.out⟩
  · have hpos : 0 < n := by
      cases c with
      | nil => exact absurd rfl hne
      | node k s z a b =>
        have := frN_pos k s z
        rw [hn, coN]
        unfold frN at this
        simp only [List.length_append]
        omega
    have hle : n ≤ 2147483647 := by omega
    have HC := qhid hc
    have HF := qhid hF
    have HT := qhid hT
    have HZ := qhid hz
    have HL := qhid hl
    have e0 : ((n : Int) == 0) = false := by simp; omega
    clear hc hF hT hz hl hn hne hpq
    go_enter Tryz.func23, Tryz.ntmps23
    go_wp2_with fail
    refine HLN.out.mono ?_
    rintro e w1 ⟨rfl, hb1⟩
    have HB1 := qhid hb1
    obtain ⟨w2, hw2⟩ : ∃ X, X = w1.alloc (.cells #[.pointer none, .slice none 0 0] 101) := ⟨_, rfl⟩
    obtain ⟨b, hb⟩ : ∃ b, b = w1.heap.size := ⟨_, rfl⟩
    have b2 : Below w1.heap.size w1 w2 := by rw [hw2]; exact below1 _ _
    have GR := qhid (sb_Grow w1.heap.size b n w2 (by omega) (by rw [hw2, hb]; exact heap_new _ _) b2.size (by omega))
    have HB2 := qhid b2
    have HW2 := qhid hw2
    have HBE := qhid hb
    clear hb1 b2 hw2 hb HLN
    go_wp2_with fail
    rw [← HW2.out, ← HBE.out]
    refine GR.out.mono ?_
    rintro e w3 ⟨rfl, h3, hb3⟩
    have TL := qhid (ctell_any w1 w3 b c p (HC.out.up HB1.out) HF.out (HT.out.below HB1.out HT.out.lt) (.inr h3) (HB2.out.trans hb3) HZ.out (by have := HL.out; omega))
    have HB3 := qhid (HB2.out.trans hb3)
    clear h3 hb3 GR
    go_wp2_with fail
    refine TL.out.mono ?_
    rintro e w4 ⟨rfl, h4, hb4⟩
    have ST := qhid (sb_string w1.heap.size b _ w4 h4 hb4.size)
    have HB4 := qhid hb4
    clear h4 hb4 TL
    go_wp2_with fail
    refine ST.out.mono ?_
    rintro e w5 ⟨rfl, hb5⟩
    have HB5 := qhid (HB1.out.trans ((HB4.out.trans hb5).mono HB1.out.size))
    clear hb5 ST
    go_wp2_with fail
    go_ret
    exact ⟨rfl, HB5.out⟩
end
end
section
section
open Go Go.RowKit
attribute [local go_sem ↓] Go.wp_at_zero Go.wp_at_succ
attribute [local go_sem] eq4
set_option maxRecDepth 100000 in
set_option maxHeartbeats 4000000 in
theorem csame_nil (w : World) :
    Calls Tryz.prog 22 #[.pointer none, .pointer none] w fun e w' => e = .returned (.bool true) ∧ Below w.heap.size w w' := by
  have hmm := @run_makeMap Tryz.prog
  have H0 : Hid (Below w.heap.size w ((w.alloc (.map #[] 0)).alloc (.cells #[.pointer none, .pointer none] 86))) := qhid ((below1 _ _).trans ((below1 _ _).mono (by rw [World.size_alloc]; omega)))
  have HC : Hid (((w.alloc (.map #[] 0)).alloc (.cells #[.pointer none, .pointer none] 86)).heap[w.heap.size + 1]? = some (.cells #[.pointer none, .pointer none] 86)) := qhid (by
    have := heap_new (w.alloc (.map #[] 0)) (.cells #[.pointer none, .pointer none] 86)
    rwa [World.size_alloc] at this)
  go_enter Tryz.func22, Tryz.ntmps22
  go_wp2_with fail
  clear hmm
  go_loopg [6] 1 (fun rr l wr => Hid (Below w.heap.size w wr) ∧ rr ≤ 1 ∧ l = .slice (some ⟨w.heap.size + 1, 0, none⟩) rr 1 ∧ Hid (wr.heap[w.heap.size + 1]? = some (.cells #[.pointer none, .pointer none] 86)))
  case atStart => exact ⟨H0, Nat.le_refl _, rfl, HC⟩
  case round =>
    clear H0 HC
    obtain ⟨HB, h1, rfl, HC⟩ := hrel
    by_cases h0 : gk = 0
    · subst h0
      go_wp2_with fail
      go_ret
      exact ⟨rfl, HB.out⟩
    · obtain rfl : gk = 1 := by omega
      have k0 := Joins.cell_of_block HC.out 0
      have k1 := Joins.cell_of_block HC.out 1
      have hxl := Reg.size_of_get HC.out
      simp only [List.getElem?_toArray, List.getElem?_cons_zero, List.getElem?_cons_succ] at k0 k1
      have HB2 := qhid (HB.out.trans ((below1 wr (.cells #[.pointer none, .pointer none] 86)).mono HB.out.size))
      have HC2 := qhid (below_kept (below1 wr (.cells #[.pointer none, .pointer none] 86)) HC.out)
      go_wp2_with fail
      go_roundg 0
      case rel => exact ⟨HB2, by omega, rfl, HC2⟩
      case measure => omega
set_option maxRecDepth 100000 in
set_option maxHeartbeats 4000000 in
theorem ceach_nil (v : Value) (w : World) :
    Calls Tryz.prog 58 #[.pointer none, v] w fun e w' => e = .returned (.tuple #[]) ∧ Below w.heap.size w w' := by
  have HS := qhid (csize_any .nil (.pointer none) w .nil (by rw [coSize]; omega))
  go_enter Tryz.func58, Tryz.ntmps58
  go_wp2_with fail
  refine HS.out.mono ?_
  rintro e w2 ⟨rfl, hb⟩
  have HB := qhid hb
  have e0 : ((coSize .nil : Nat) : Int) = 0 := rfl
  rw [e0]
  clear hb e0
  go_wp2_with fail
  exact bodyPost_ret (v := .tuple #[]) (by simp [results, Tryz.results58, go_sem]) rfl ⟨rfl, HB.out⟩
set_option maxRecDepth 100000 in
set_option maxHeartbeats 4000000 in
theorem csets_nil (w : World) :
    Calls Tryz.prog 27 #[.pointer none] w fun e w' => e = .returned (.slice none 0 0) ∧ Below w.heap.size w w' := by
  obtain ⟨w1, hw1⟩ : ∃ X, X = w.alloc (.cells #[.slice none 0 0] 37) := ⟨_, rfl⟩
  obtain ⟨b, hb⟩ : ∃ b, b = w.heap.size := ⟨_, rfl⟩
  have HX : Hid (w1.heap[b]? = some (.cells #[.slice none 0 0] 37)) := qhid (by rw [hw1, hb]; exact heap_new _ _)
  have HB1 : Hid (Below w.heap.size w w1) := qhid (by rw [hw1]; exact below1 _ _)
  have HE := qhid (fun v => ceach_nil v w1)
  have HW1 := qhid hw1
  have HBE := qhid hb
  clear hw1 hb
  go_enter Tryz.func27, Tryz.ntmps27
  go_wp2_with fail
  rw [← HBE.out, ← HW1.out]
  refine (HE.out _).mono ?_
  rintro e w2 ⟨rfl, hb2⟩
  have hx2 := below_kept hb2 HX.out
  have k0 := Joins.cell_of_block hx2 0
  have hxl := Reg.size_of_get hx2
  simp only [List.getElem?_toArray, List.getElem?_cons_zero] at k0
  have HB2 := qhid (HB1.out.trans (hb2.mono HB1.out.size))
  clear hb2 hx2 HE
  go_wp2_with fail
  go_ret
  exact ⟨rfl, HB2.out⟩
end
end
section
section
open Go Go.RowKit
attribute [local go_sem ↓] Go.wp_at_zero Go.wp_at_succ
attribute [local go_sem] eq4
def coExS : ByteArray := ⟨#[97, 123, 50, 44, 51, 125]⟩
def coExT : Tr := .mk 6 noW 2 3 false 0 6 [.mk 1 (oneW 97) 0 0 false 0 1 []]
theorem coEx_is : parseR coExS = (0, 0, some coExT) := by kernel_rfl
theorem coEx_rt : RtT coExT := .rep _ _ _ _ _ _ (by decide) (by first | exact .inl rfl | decide | trivial | simp [IsSingle, kdT]) (.set _ _ _ (oneW_fit 97))
theorem coEx_text : baN (coN (byC 0 (coreT coExT))) = ⟨#[40, 97, 40, 97, 40, 97, 124, 40, 41, 41, 41, 41]⟩ := by kernel_rfl
theorem coEx_size : coSize (byC 0 (coreT coExT)) = 7 := by kernel_rfl
theorem coEx_len : (coN (byC 0 (coreT coExT))).length = 12 := by kernel_rfl
theorem coEx_small : adL [szT coExT, addM 0] ≤ 4096 := by decide +kernel
theorem coEx_core : byC 0 (coreT coExT) = .node 2 noW false (.node 1 (oneW 97) false .nil .nil) (.node 2 noW false (.node 1 (oneW 97) false .nil .nil) (.node 3 noW false (.node 1 (oneW 97) false .nil .nil) emptyC)) := by kernel_rfl

theorem coEx_fit : CoFit (byC 0 (coreT coExT)) := by
  have h := oneW_fit 97
  have e := noW_fit
  rw [coEx_core]
  exact ⟨e, ⟨h, trivial, trivial⟩, e, ⟨h, trivial, trivial⟩, e, ⟨h, trivial, trivial⟩, e, trivial, trivial⟩
set_option maxRecDepth 100000 in
set_option maxHeartbeats 4000000 in
theorem core_awake (w : World) (hT : Tab w) : Calls Tryz.prog 19 #[] w fun e w' => e = .returned (.bool true) ∧ Below w.heap.size w w' := by
  have PA := qhid (cparse_ok coExS 0 (by decide) coExT (by decide) coEx_is coEx_rt (by decide +kernel) (by decide +kernel) w hT)
  have HT := qhid hT
  clear hT
  go_enter Tryz.func19, Tryz.ntmps19
  go_wp2_with fail
  refine PA.out.mono ?_
  rintro x w1 ⟨v, e, rfl, hbc, hb1⟩
  obtain ⟨rfl, hc⟩ : e = 0 ∧ CoAt w1 (byC 0 (coreT coExT)) v := by
    rcases hbc with ⟨h, _⟩ | ⟨_, h, h2⟩
    · have := coEx_small; omega
    · exact ⟨h, h2⟩
  obtain ⟨p, rfl⟩ := hc.ptr
  have TX := ctext_any _ p w1 hc coEx_fit (HT.out.below hb1 HT.out.lt) (by rw [coEx_size]; omega) (by rw [coEx_len]; omega)
  rw [coEx_text] at TX
  have HTX := qhid TX
  have HC := qhid hc
  have HB1 := qhid hb1
  clear TX hc hb1 hbc PA
  go_wp2_with fail
  refine HTX.out.mono ?_
  rintro x w2 ⟨rfl, hb2⟩
  have SZ := csize_any _ (.pointer p) w2 (HC.out.up hb2) (by rw [coEx_size]; omega)
  rw [coEx_size] at SZ
  have HSZ := qhid SZ
  have HB2 := qhid (HB1.out.trans (hb2.mono HB1.out.size))
  clear SZ hb2 HTX
  go_wp2_with fail
  refine HSZ.out.mono ?_
  rintro x w3 ⟨rfl, hb3⟩
  have HB3 := qhid (HB2.out.trans (hb3.mono HB2.out.size))
  clear hb3 HSZ
  go_wp2_with fail
  go_ret
  exact ⟨rfl, HB3.out⟩
end
end
section
section
open Go Go.RowKit
attribute [local go_sem ↓] Go.wp_at_zero Go.wp_at_succ
attribute [local go_sem] eq4
theorem cmeasure_none (m : Int) (w : World) : Calls Tryz.prog 25 #[.pointer none, .int .i64 m] w fun e w' => e = .returned (.int .i64 0) ∧ Below w.heap.size w w' := by
  by_cases h : 0 ≤ m ∧ m < 4
  · exact cmeasure_nil m h w
  · exact cmeasure_bad m h none w
theorem ctext_none (w : World) (hT : Tab w) : Calls Tryz.prog 23 #[.pointer none] w fun e w' => e = .returned (.string ⟨#[]⟩) ∧ Below w.heap.size w w' :=
  ctext_any .nil none w .nil trivial hT (by rw [coSize]; omega) (by decide)
theorem csize_none (w : World) : Calls Tryz.prog 26 #[.pointer none] w fun e w' => e = .returned (.int .i64 0) ∧ Below w.heap.size w w' :=
  csize_any .nil (.pointer none) w .nil (by rw [coSize]; omega)
set_option maxRecDepth 100000 in
set_option maxHeartbeats 4000000 in
theorem corenone_any (m : Int) (w : World) (hT : Tab w) : Calls Tryz.prog 5 #[.int .i64 m] w fun e w' => e = .returned (.bool true) ∧ Below w.heap.size w w' := by
  have BU := qhid (cbuild_no m none w (cmeasure_none m w))
  have ME := qhid (fun X => cmeasure_none m X)
  have SI := qhid csize_none
  have SA := qhid csame_nil
  have SE := qhid csets_nil
  have TX := qhid (fun X (hX : Below w.heap.size w X) => ctext_none X (hT.below hX hT.lt))
  have AW := qhid (fun X (hX : Below w.heap.size w X) => core_awake X (hT.below hX hT.lt))
  clear hT
  go_enter Tryz.func5, Tryz.ntmps5
  go_wp2_with fail
  refine BU.out.mono ?_
  rintro x w1 ⟨rfl, hb1⟩
  have HB1 := qhid hb1
  clear hb1 BU
  go_wp2_with fail
  refine (ME.out w1).mono ?_
  rintro x w2 ⟨rfl, hb⟩
  have HB2 := qhid (HB1.out.trans (hb.mono HB1.out.size))
  clear hb ME HB1
  go_wp2_with fail
  refine (SI.out w2).mono ?_
  rintro x w3 ⟨rfl, hb⟩
  have HB3 := qhid (HB2.out.trans (hb.mono HB2.out.size))
  clear hb SI HB2
  go_wp2_with fail
  refine (SA.out w3).mono ?_
  rintro x w4 ⟨rfl, hb⟩
  have HB4 := qhid (HB3.out.trans (hb.mono HB3.out.size))
  clear hb SA HB3
  go_wp2_with fail
  refine (SE.out w4).mono ?_
  rintro x w5 ⟨rfl, hb⟩
  have HB5 := qhid (HB4.out.trans (hb.mono HB4.out.size))
  clear hb SE HB4
  go_wp2_with fail
  refine (TX.out w5 HB5.out).mono ?_
  rintro x w6 ⟨rfl, hb⟩
  have HB6 := qhid (HB5.out.trans (hb.mono HB5.out.size))
  clear hb TX HB5
  go_wp2_with fail
  refine (AW.out w6 HB6.out).mono ?_
  rintro x w7 ⟨rfl, hb⟩
  have HB7 := qhid (HB6.out.trans (hb.mono HB6.out.size))
  clear hb AW HB6
  go_wp2_with fail
  go_ret
  exact ⟨rfl, HB7.out⟩
end
end
end Go.Proofs.YtlmcgbieobklhaaGreatDoor
