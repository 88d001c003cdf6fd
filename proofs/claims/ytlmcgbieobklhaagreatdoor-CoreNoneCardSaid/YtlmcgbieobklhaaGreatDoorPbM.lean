/- Contracts of a fold: of nothing. -/
import Derived.Test.YtlmcgbieobklhaaGreatDoorPbE
namespace Go.Proofs.YtlmcgbieobklhaaGreatDoor
open Go Go.RowKit
attribute [local go_sem ↓] Go.wp_at_zero Go.wp_at_succ
attribute [local go_sem] eq4
theorem run_store_fncN (P : Program) (w : World) (a : Addr) (f : Fn) (x y : Array Value) (m : Mode) : (store a (.func f x y) m).run P w = stored P w a (.func f x y) m := run_store P w a _ m rfl
attribute [local go_sem] run_store_fncN
def foTold5n (pb n sq : Nat) (vp : Option Addr) (k vc nb ln nc : Nat) : Nat → Value
  | 0 => .pointer (some ⟨pb, n * 2, none⟩)
  | 1 => .pointer (some ⟨pb, n * 2, none⟩)
  | 2 => .pointer (some ⟨pb, n * 2, none⟩)
  | 3 => ndPtr sq
  | 4 => ndPtr sq
  | 5 => .pointer (some ⟨sq, 8, none⟩)
  | 6 => .slice (some ⟨nb, 0, none⟩) ln nc
  | 7 => .pointer (some ⟨pb, n * 2, none⟩)
  | 8 => .pointer (some ⟨pb, n * 2, none⟩)
  | 9 => .pointer (some ⟨pb, n * 2 + 1, none⟩)
  | 10 => .slice vp k vc
  | 11 => .int .i64 (k : Int)
  | 12 => .pointer (some ⟨nb, k, none⟩)
  | 13 => .pointer none
  | 14 => .bool true
  | 15 => .bool false
  | _ => undef
def foWn (w : World) (F : Value) : World :=
  ((((w.alloc (.map #[] 0)).alloc (.cells #[.pointer none] 23)).alloc (ndOb 0 noW 0 0 false (.slice (some ⟨w.heap.size + 1, 0, none⟩) 1 1) 0 0)).alloc (.cells #[ndPtr (w.heap.size + 1 + 1), .slice none 0 0] 130)).alloc
    (.cells #[F, .map (some w.heap.size), .slice (some ⟨w.heap.size + 1 + 1 + 1, 0, none⟩) 1 1] 133)
/-- A folder of nothing: its numbers are none, or 0. -/
structure FoNil (w W : World) (fb pb : Nat) (F : Value) (ps : List Int) : Prop where
  fo : ∃ cap v, FoAt W (w.heap.size + 3) fb pb cap ([] ++ [⟨w.heap.size + 2, ps, v⟩]) F (.map (some w.heap.size))
  nd : W.heap[w.heap.size + 2]? = some (ndOb 0 noW 0 0 false (.slice (some ⟨w.heap.size + 1, 0, none⟩) 1 1) 0 0)
  rt : W.heap[w.heap.size + 1]? = some (.cells #[.pointer none] 23)
  bel : Below w.heap.size w W
theorem FoNil.drew {w W : World} {fb pb : Nat} {F : Value} {ps : List Int} (h : FoNil w W fb pb F ps) : FoNil w W.drew fb pb F ps := by
  obtain ⟨cap, v, hF⟩ := h.fo
  exact ⟨⟨cap, v, hF.below (Below.refl _ _).drew⟩, h.nd, h.rt, h.bel.drew⟩
theorem foN_start (w : World) (F : Value) : FoNil w (foWn w F) (w.heap.size + 4) (w.heap.size + 3) F [] := by
  have b1 := below1 w (.map #[] 0)
  obtain ⟨w1, e1⟩ : ∃ X, X = w.alloc (.map #[] 0) := ⟨_, rfl⟩
  have s1 : w1.heap.size = w.heap.size + 1 := by rw [e1, World.size_alloc]
  rw [← e1] at b1
  obtain ⟨w2, e2⟩ : ∃ X, X = w1.alloc (.cells #[.pointer none] 23) := ⟨_, rfl⟩
  have b2 := below1 w1 (.cells #[.pointer none] 23)
  have s2 : w2.heap.size = w.heap.size + 2 := by rw [e2, World.size_alloc, s1]
  have h2 : w2.heap[w.heap.size + 1]? = some (.cells #[.pointer none] 23) := by rw [e2, ← s1]; exact heap_new _ _
  rw [← e2] at b2
  obtain ⟨w3, e3⟩ : ∃ X, X = w2.alloc (ndOb 0 noW 0 0 false (.slice (some ⟨w.heap.size + 1, 0, none⟩) 1 1) 0 0) := ⟨_, rfl⟩
  have b3 := below1 w2 (ndOb 0 noW 0 0 false (.slice (some ⟨w.heap.size + 1, 0, none⟩) 1 1) 0 0)
  have s3 : w3.heap.size = w.heap.size + 3 := by rw [e3, World.size_alloc, s2]
  have h3 : w3.heap[w.heap.size + 2]? = some (ndOb 0 noW 0 0 false (.slice (some ⟨w.heap.size + 1, 0, none⟩) 1 1) 0 0) := by rw [e3, ← s2]; exact heap_new _ _
  rw [← e3] at b3
  obtain ⟨w4, e4⟩ : ∃ X, X = w3.alloc (.cells #[ndPtr (w.heap.size + 2), .slice none 0 0] 130) := ⟨_, rfl⟩
  have b4 := below1 w3 (.cells #[ndPtr (w.heap.size + 2), .slice none 0 0] 130)
  have s4 : w4.heap.size = w.heap.size + 4 := by rw [e4, World.size_alloc, s3]
  have h4 : w4.heap[w.heap.size + 3]? = some (.cells #[ndPtr (w.heap.size + 2), .slice none 0 0] 130) := by rw [e4, ← s3]; exact heap_new _ _
  rw [← e4] at b4
  obtain ⟨w5, e5⟩ : ∃ X, X = w4.alloc (.cells #[F, .map (some w.heap.size), .slice (some ⟨w.heap.size + 3, 0, none⟩) 1 1] 133) := ⟨_, rfl⟩
  have b5 := below1 w4 (.cells #[F, .map (some w.heap.size), .slice (some ⟨w.heap.size + 3, 0, none⟩) 1 1] 133)
  have s5 : w5.heap.size = w.heap.size + 5 := by rw [e5, World.size_alloc, s4]
  have h5 : w5.heap[w.heap.size + 4]? = some (.cells #[F, .map (some w.heap.size), .slice (some ⟨w.heap.size + 3, 0, none⟩) 1 1] 133) := by rw [e5, ← s4]; exact heap_new _ _
  rw [← e5] at b5
  have e : foWn w F = w5 := by rw [e5, e4, e3, e2, e1]; rfl
  rw [e]
  have h4' := below_kept b5 h4
  refine ⟨⟨1, .slice none 0 0, ⟨?_, ?_, ?_, ?_, by omega, by omega, ?_, ?_, ?_, ?_, ?_⟩⟩, below_kept b5 (below_kept b4 h3), below_kept b5 (below_kept b4 (below_kept b3 h2)), b1.trans ((b2.mono (by omega)).trans ((b3.mono (by omega)).trans ((b4.mono (by omega)).trans (b5.mono (by omega)))))⟩
  · rw [Joins.cell_of_block h5]; rfl
  · rw [Joins.cell_of_block h5]; rfl
  · rw [Joins.cell_of_block h5]; rfl
  · exact Joins.unfrozen_of_block h5 _
  · intro s hs'
    obtain rfl : s = ⟨w.heap.size + 2, [], .slice none 0 0⟩ := by simpa using hs'
    intro e; cases e
  · exact ⟨rfl, .inr ⟨_, 1, _, rfl, by omega, h4', by simp, by decide, rfl, rfl⟩⟩
  · intro s hs'
    obtain rfl : s = ⟨w.heap.size + 2, [], .slice none 0 0⟩ := by simpa using hs'
    exact World.ownsRow_nil _ _ _ _
  · intro s hs'
    obtain rfl : s = ⟨w.heap.size + 2, [], .slice none 0 0⟩ := by simpa using hs'
    intro e; cases e
  · exact List.pairwise_singleton _ _
set_option maxRecDepth 100000 in
set_option maxHeartbeats 4000000 in
theorem pfold_nil (w : World) (fn : Fn) (caps : Array Value) :
    Calls Tryz.prog 39 #[.pointer none, .func fn #[] caps] w fun e w' => e = .returned (.tuple #[.int .i64 0, .bool true]) ∧ Below w.heap.size w w' := by
  have hmm := @run_makeMap Tryz.prog
  have HI := qhid (foN_start w (.func fn #[] caps))
  go_enter Tryz.func39, Tryz.ntmps39
  go_wp2_with fail
  obtain ⟨W0, hW0⟩ : ∃ X, X = foWn w (.func fn #[] caps) := ⟨_, rfl⟩
  rw [← hW0] at HI
  change Code.wp _ _ _ _ (foWn w (.func fn #[] caps))
  rw [← hW0]
  have efb : w.heap.size + 1 + 1 + 1 + 1 = w.heap.size + 4 := rfl
  rw [efb]
  obtain ⟨fb, hfb⟩ : ∃ b, b = w.heap.size + 4 := ⟨_, rfl⟩
  rw [← hfb] at HI ⊢
  obtain ⟨pb, hpb⟩ : ∃ b, b = w.heap.size + 3 := ⟨_, rfl⟩
  rw [← hpb] at HI
  clear hW0 efb hfb hpb hmm
  obtain ⟨n, hn⟩ : ∃ n, n = 0 := ⟨_, rfl⟩
  have HN := qhid hn
  obtain ⟨ln, hln⟩ : ∃ n, n = 1 := ⟨_, rfl⟩
  have HLN := qhid hln
  obtain ⟨sq, hsq⟩ : ∃ n, n = w.heap.size + 2 := ⟨_, rfl⟩
  have HSQ := qhid hsq
  obtain ⟨nb, hnb⟩ : ∃ n, n = w.heap.size + 1 := ⟨_, rfl⟩
  have HNB := qhid hnb
  clear hn hln hsq hnb
  go_loopg [] 1 (fun rr wr => ∃ ps : List Int, rr + ps.length = 1 ∧ Hid (ps = [] ∨ ps = [0]) ∧ Hid (FoNil w wr fb pb (.func fn #[] caps) ps))
  case atStart => exact ⟨[], rfl, qhid (.inl rfl), HI⟩
  case round =>
    obtain ⟨ps, hps, HPS, HF⟩ := hrel
    obtain ⟨cap, v, hF⟩ := HF.out.fo
    have hc2 := hF.c2
    have ht := hF.top
    have LA := qhid (plast_any fb pb n cap wr (by rw [HN.out]; exact hc2) (by rw [HN.out]; omega))
    obtain ⟨vp, vc, hsv, hvc⟩ := nums_own (hF.parts ⟨w.heap.size + 2, ps, v⟩ (by simp))
    have hsv : v = .slice vp ps.length vc := hsv
    obtain ⟨k, hk⟩ : ∃ k, k = ps.length := ⟨_, rfl⟩
    rw [hsv] at ht
    rw [← hk] at ht hps
    have HT0 : Hid (wr.drew.drew.cell? ⟨pb, n * 2, none⟩ = some (ndPtr sq)) := qhid (by rw [HN.out, HSQ.out]; exact ht.1)
    have HT1 : Hid (wr.drew.drew.cell? ⟨pb, n * 2 + 1, none⟩ = some (.slice vp k vc)) := qhid (by rw [HN.out]; exact ht.2.1)
    have HQ8 : Hid (wr.drew.drew.cell? ⟨sq, 8, none⟩ = some (.slice (some ⟨nb, 0, none⟩) ln 1)) := qhid (by rw [HSQ.out, HNB.out, HLN.out]; exact Joins.cell_of_block HF.out.nd 8)
    have HC2 : Hid (wr.drew.drew.cell? ⟨fb, 2, none⟩ = some (.slice (some ⟨pb, 0, none⟩) (n + 1) cap)) := qhid (by rw [HN.out]; exact hc2)
    have HVC : Hid (∀ (i : Nat) (x : Int), ps[i]? = some x → ∃ c, vp = some ⟨c, 0, none⟩ ∧ c < wr.heap.size ∧ wr.cell? ⟨c, i, none⟩ = some (.int .i64 x)) := qhid hvc
    have HK := qhid hk
    clear hF hc2 ht hsv hvc hk
    obtain ⟨np, hnp⟩ : ∃ p, p = some (⟨nb, 0, none⟩ : Addr) := ⟨_, rfl⟩
    rw [← hnp] at HQ8
    obtain ⟨bb, hbb⟩ : ∃ bb, bb = decide (k < ln) := ⟨_, rfl⟩
    obtain ⟨nc, hnc⟩ : ∃ x, x = 1 := ⟨_, rfl⟩
    have HQ8 : Hid (wr.drew.drew.cell? ⟨sq, 8, none⟩ = some (.slice np ln nc)) := qhid (by rw [hnc]; exact HQ8.out)
    have HNP := qhid hnp
    clear hnp hnc
    go_wp2_with fail
    refine LA.out.mono ?_
    rintro e w1 ⟨rfl, hw1⟩
    have HW1 : Hid (w1.drew = wr.drew.drew) := qhid (by rw [hw1])
    clear hw1 LA
    go_wp2_with fail
    obtain ⟨W1, hW1⟩ : ∃ X, X = wr.drew.drew := ⟨_, rfl⟩
    have HP2 : Hid (FoNil w W1 fb pb (.func fn #[] caps) ps) := qhid (by rw [hW1]; exact HF.out.drew.drew)
    rw [← hW1] at HT0 HT1 HQ8 HC2 HW1
    have HVC1 : Hid (∀ (i : Nat) (x : Int), ps[i]? = some x → ∃ c, vp = some ⟨c, 0, none⟩ ∧ c < W1.heap.size ∧ W1.cell? ⟨c, i, none⟩ = some (.int .i64 x)) := qhid (by rw [hW1]; exact HVC.out)
    clear hW1 HF HVC
    refine Reg.wp_region_S (foTold4 pb n sq vp k vc np ln nc bb) (fun _ X => X = W1) [0, 1, 2, 3, 4, 5, 6, 7, 8, 9, 10, 11, 12, 13, 14] (by rfl) (by kernel_rfl) (by kernel_rfl) ?_ ?_ ?_
    · rw [HW1.out]
    · skip
      refine ⟨fun listed A X hI hin hun hall => .inl ⟨Reg.wanted_none rfl, ?_⟩, ?_⟩
      · have e7 := hI.evo (d := 7) (by kernel_rfl) rfl
        have HS := hI.st
        subst HS
        clear hI hall
        unfold Reg.Yields
        go_simp
        first | rfl | exact ⟨rfl, rfl⟩ | (simp [foTold4, hbb]; done)
      refine ⟨fun listed A X hI hin hun hall => .inl ⟨Reg.wanted_none rfl, ?_⟩, ?_⟩
      · have e25 : A.tmps[25]? = some (.pointer (some ⟨pb, n * 2, none⟩)) := hI.ev (i := 0) (d := 25) (by rfl) (hall ⟨0, .data⟩ (by simp) rfl)
        have HS := hI.st
        subst HS
        clear hI hall
        unfold Reg.Yields
        go_simp
        first | rfl | exact ⟨rfl, rfl⟩ | (simp [foTold4, hbb]; done)
      refine ⟨fun listed A X hI hin hun hall => .inl ⟨Reg.wanted_none rfl, ?_⟩, ?_⟩
      · have e26 : A.tmps[26]? = some (.pointer (some ⟨pb, n * 2, none⟩)) := hI.ev (i := 1) (d := 26) (by rfl) (hall ⟨1, .data⟩ (by simp) rfl)
        have HS := hI.st
        subst HS
        clear hI hall
        unfold Reg.Yields
        go_simp
        first | rfl | exact ⟨rfl, rfl⟩ | (simp [foTold4, hbb]; done)
      refine ⟨fun listed A X hI hin hun hall => .inl ⟨Reg.wanted_none rfl, ?_⟩, ?_⟩
      · have e27 : A.tmps[27]? = some (.pointer (some ⟨pb, n * 2 + 1, none⟩)) := hI.ev (i := 2) (d := 27) (by rfl) (hall ⟨2, .data⟩ (by simp) rfl)
        have HS := hI.st
        subst HS
        have k0 := HT1.out
        clear hI hall
        unfold Reg.Yields
        go_simp
        first | rfl | exact ⟨rfl, rfl⟩ | (simp [foTold4, hbb]; done)
      refine ⟨fun listed A X hI hin hun hall => .inl ⟨Reg.wanted_none rfl, ?_⟩, ?_⟩
      · have e28 : A.tmps[28]? = some (.slice vp k vc) := hI.ev (i := 3) (d := 28) (by rfl) (hall ⟨3, .data⟩ (by simp) rfl)
        have HS := hI.st
        subst HS
        clear hI hall
        unfold Reg.Yields
        go_simp
        first | rfl | exact ⟨rfl, rfl⟩ | (simp [foTold4, hbb]; done)
      refine ⟨fun listed A X hI hin hun hall => .inl ⟨Reg.wanted_none rfl, ?_⟩, ?_⟩
      · have e7 := hI.evo (d := 7) (by kernel_rfl) rfl
        have HS := hI.st
        subst HS
        clear hI hall
        unfold Reg.Yields
        go_simp
        first | rfl | exact ⟨rfl, rfl⟩ | (simp [foTold4, hbb]; done)
      refine ⟨fun listed A X hI hin hun hall => .inl ⟨Reg.wanted_none rfl, ?_⟩, ?_⟩
      · have e30 : A.tmps[30]? = some (.pointer (some ⟨pb, n * 2, none⟩)) := hI.ev (i := 5) (d := 30) (by rfl) (hall ⟨5, .data⟩ (by simp) rfl)
        have HS := hI.st
        subst HS
        clear hI hall
        unfold Reg.Yields
        go_simp
        first | rfl | exact ⟨rfl, rfl⟩ | (simp [foTold4, hbb]; done)
      refine ⟨fun listed A X hI hin hun hall => .inl ⟨Reg.wanted_none rfl, ?_⟩, ?_⟩
      · have e31 : A.tmps[31]? = some (.pointer (some ⟨pb, n * 2, none⟩)) := hI.ev (i := 6) (d := 31) (by rfl) (hall ⟨6, .data⟩ (by simp) rfl)
        have HS := hI.st
        subst HS
        clear hI hall
        unfold Reg.Yields
        go_simp
        first | rfl | exact ⟨rfl, rfl⟩ | (simp [foTold4, hbb]; done)
      refine ⟨fun listed A X hI hin hun hall => .inl ⟨Reg.wanted_none rfl, ?_⟩, ?_⟩
      · have e32 : A.tmps[32]? = some (.pointer (some ⟨pb, n * 2, none⟩)) := hI.ev (i := 7) (d := 32) (by rfl) (hall ⟨7, .data⟩ (by simp) rfl)
        have HS := hI.st
        subst HS
        have k0 := HT0.out
        clear hI hall
        unfold Reg.Yields
        go_simp
        first | rfl | exact ⟨rfl, rfl⟩ | (simp [foTold4, hbb]; done)
      refine ⟨fun listed A X hI hin hun hall => .inl ⟨Reg.wanted_none rfl, ?_⟩, ?_⟩
      · have e33 : A.tmps[33]? = some (ndPtr sq) := hI.ev (i := 8) (d := 33) (by rfl) (hall ⟨8, .data⟩ (by simp) rfl)
        have HS := hI.st
        subst HS
        clear hI hall
        unfold Reg.Yields
        go_simp
        first | rfl | exact ⟨rfl, rfl⟩ | (simp [foTold4, hbb]; done)
      refine ⟨fun listed A X hI hin hun hall => .inl ⟨Reg.wanted_none rfl, ?_⟩, ?_⟩
      · have e34 : A.tmps[34]? = some (ndPtr sq) := hI.ev (i := 9) (d := 34) (by rfl) (hall ⟨9, .data⟩ (by simp) rfl)
        have HS := hI.st
        subst HS
        clear hI hall
        unfold Reg.Yields
        go_simp
        first | rfl | exact ⟨rfl, rfl⟩ | (simp [foTold4, hbb]; done)
      refine ⟨fun listed A X hI hin hun hall => .inl ⟨Reg.wanted_none rfl, ?_⟩, ?_⟩
      · have e35 : A.tmps[35]? = some (.pointer (some ⟨sq, 8, none⟩)) := hI.ev (i := 10) (d := 35) (by rfl) (hall ⟨10, .data⟩ (by simp) rfl)
        have HS := hI.st
        subst HS
        have k0 := HQ8.out
        clear hI hall
        unfold Reg.Yields
        go_simp
        first | rfl | exact ⟨rfl, rfl⟩ | (simp [foTold4, hbb]; done)
      refine ⟨fun listed A X hI hin hun hall => .inl ⟨Reg.wanted_none rfl, ?_⟩, ?_⟩
      · have e36 : A.tmps[36]? = some (.slice np ln nc) := hI.ev (i := 11) (d := 36) (by rfl) (hall ⟨11, .data⟩ (by simp) rfl)
        have HS := hI.st
        subst HS
        clear hI hall
        unfold Reg.Yields
        go_simp
        first | rfl | exact ⟨rfl, rfl⟩ | (simp [foTold4, hbb]; done)
      refine ⟨fun listed A X hI hin hun hall => .inl ⟨Reg.wanted_none rfl, ?_⟩, ?_⟩
      · have e29 : A.tmps[29]? = some (.int .i64 (k : Int)) := hI.ev (i := 4) (d := 29) (by rfl) (hall ⟨4, .data⟩ (by simp) rfl)
        have e37 : A.tmps[37]? = some (.int .i64 (ln : Int)) := hI.ev (i := 12) (d := 37) (by rfl) (hall ⟨12, .data⟩ (by simp) rfl)
        have HS := hI.st
        subst HS
        clear hI hall
        unfold Reg.Yields
        go_simp
        first | rfl | exact ⟨rfl, rfl⟩ | (simp [foTold4, hbb]; done)
      refine ⟨fun listed A X hI hin hun hall => .inl ⟨Reg.wanted_none rfl, ?_⟩, ?_⟩
      · have e38 : A.tmps[38]? = some (.bool bb) := hI.ev (i := 13) (d := 38) (by rfl) (hall ⟨13, .data⟩ (by simp) rfl)
        have HS := hI.st
        subst HS
        clear hI hall
        unfold Reg.Yields
        go_simp
        first | rfl | exact ⟨rfl, rfl⟩ | (simp [foTold4, hbb]; done)
      trivial
    · intro W2 hS
      obtain rfl : W1 = W2 := hS.symm
      clear hS HW1
      simp [Reg.finalTmps, Reg.dstAt, Reg.valOf, foTold4]
      cases bb with
      | true =>
        have hlt : k < ln := by simpa using hbb.symm
        clear hbb
        obtain rfl : np = some ⟨nb, 0, none⟩ := HNP.out
        have hps0 : ps = [] := by
          rcases HPS.out with h | h
          · exact h
          · have := HK.out; have := HLN.out; rw [h] at *; simp at *; omega
        subst hps0
        obtain ⟨cap2, v2, hF2⟩ := HP2.out.drew.fo
        have HEN := qhid ((penter_nil (w.heap.size + 3) fb pb cap2 [] _ _ _ W1.drew hF2 (by simp) (by simp)).mono (R' := fun e w' => e = .returned (.bool true) ∧ FoNil w w' fb pb (.func fn #[] caps) [0]) (by
          rintro e w' ⟨rfl, v4, h4, hb4⟩
          refine ⟨rfl, ⟨cap2, v4, h4⟩, (hb4.block _ (by omega)).trans HP2.out.nd, (hb4.block _ (by omega)).trans HP2.out.rt, HP2.out.bel.drew.trans (hb4.mono (by omega))⟩))
        have HNB2 : Hid (W1.drew.cell? ⟨nb, k, none⟩ = some (.pointer none)) := qhid (by
          have e : k = 0 := HK.out
          rw [e, HNB.out, Joins.cell_of_block (w := W1.drew) HP2.out.rt]; rfl)
        have hnb : nb < W1.drew.heap.size := by rw [HNB.out]; exact Reg.size_of_get HP2.out.rt
        have HT0 : Hid (W1.drew.cell? ⟨pb, n * 2, none⟩ = some (ndPtr sq)) := HT0
        have HT1 : Hid (W1.drew.cell? ⟨pb, n * 2 + 1, none⟩ = some (.slice vp k vc)) := HT1
        have HQ8 : Hid (W1.drew.cell? ⟨sq, 8, none⟩ = some (.slice (some ⟨nb, 0, none⟩) ln nc)) := HQ8
        have HNB := HNB2
        clear HNB2 HVC1 HP2 hF2 HC2 HI HNP
        go_wp2_with fail
        obtain ⟨W3, hW3⟩ : ∃ X, X = W1.drew := ⟨_, rfl⟩
        rw [← hW3] at HNB HT0 HT1 HQ8 HEN hnb
        have HW3 : Hid (W1.drew = W3) := qhid hW3.symm
        clear hW3
        refine Reg.wp_region_C (foTold5n pb n sq vp k vc nb ln nc) (Reg.OneC 14 W3 (fun X => FoNil w X fb pb (.func fn #[] caps) [0])) [0, 1, 2, 3, 4, 5, 6, 7, 8, 9, 10, 11, 12, 13, 14, 15] (by rfl) (by kernel_rfl) (by kernel_rfl) ?_ ?_ ?_
        · rw [HW3.out]; exact Reg.OneC.start _ _ _ _
        · skip
          refine ⟨fun listed A X hI hcl hin hun hall => .inl ⟨Reg.wanted_none rfl, ?_⟩, ?_⟩
          · have e7 := hI.evo (d := 7) (by kernel_rfl) rfl
            have HS := hI.st
            clear hI hall hcl
            unfold Reg.Yields
            go_simp
            first | rfl | exact ⟨rfl, HS.up (by decide)⟩ | (refine ⟨?_, HS.up (by decide)⟩; simp [foTold5n])
          refine ⟨fun listed A X hI hcl hin hun hall => .inl ⟨Reg.wanted_none rfl, ?_⟩, ?_⟩
          · have e39 : A.tmps[39]? = some (.pointer (some ⟨pb, n * 2, none⟩)) := hI.ev (i := 0) (d := 39) (by rfl) (hall ⟨0, .data⟩ (by simp) rfl)
            have HS := hI.st
            clear hI hall hcl
            unfold Reg.Yields
            go_simp
            first | rfl | exact ⟨rfl, HS.up (by decide)⟩ | (refine ⟨?_, HS.up (by decide)⟩; simp [foTold5n])
          refine ⟨fun listed A X hI hcl hin hun hall => .inl ⟨Reg.wanted_none rfl, ?_⟩, ?_⟩
          · have e40 : A.tmps[40]? = some (.pointer (some ⟨pb, n * 2, none⟩)) := hI.ev (i := 1) (d := 40) (by rfl) (hall ⟨1, .data⟩ (by simp) rfl)
            have HS := hI.st
            clear hI hall hcl
            unfold Reg.Yields
            go_simp
            first | rfl | exact ⟨rfl, HS.up (by decide)⟩ | (refine ⟨?_, HS.up (by decide)⟩; simp [foTold5n])
          refine ⟨fun listed A X hI hcl hin hun hall => .inl ⟨Reg.wanted_none rfl, ?_⟩, ?_⟩
          · have e41 : A.tmps[41]? = some (.pointer (some ⟨pb, n * 2, none⟩)) := hI.ev (i := 2) (d := 41) (by rfl) (hall ⟨2, .data⟩ (by simp) rfl)
            have HS := hI.st
            have hX := HS.at hcl (i := 3) (by kernel_rfl) (by simpa using hun)
            subst hX
            have k0 := HT0.out
            clear hI hall hcl
            unfold Reg.Yields
            go_simp
            first | rfl | exact ⟨rfl, HS.up (by decide)⟩ | (refine ⟨?_, HS.up (by decide)⟩; simp [foTold5n])
          refine ⟨fun listed A X hI hcl hin hun hall => .inl ⟨Reg.wanted_none rfl, ?_⟩, ?_⟩
          · have e42 : A.tmps[42]? = some (ndPtr sq) := hI.ev (i := 3) (d := 42) (by rfl) (hall ⟨3, .data⟩ (by simp) rfl)
            have HS := hI.st
            clear hI hall hcl
            unfold Reg.Yields
            go_simp
            first | rfl | exact ⟨rfl, HS.up (by decide)⟩ | (refine ⟨?_, HS.up (by decide)⟩; simp [foTold5n])
          refine ⟨fun listed A X hI hcl hin hun hall => .inl ⟨Reg.wanted_none rfl, ?_⟩, ?_⟩
          · have e43 : A.tmps[43]? = some (ndPtr sq) := hI.ev (i := 4) (d := 43) (by rfl) (hall ⟨4, .data⟩ (by simp) rfl)
            have HS := hI.st
            clear hI hall hcl
            unfold Reg.Yields
            go_simp
            first | rfl | exact ⟨rfl, HS.up (by decide)⟩ | (refine ⟨?_, HS.up (by decide)⟩; simp [foTold5n])
          refine ⟨fun listed A X hI hcl hin hun hall => .inl ⟨Reg.wanted_none rfl, ?_⟩, ?_⟩
          · have e44 : A.tmps[44]? = some (.pointer (some ⟨sq, 8, none⟩)) := hI.ev (i := 5) (d := 44) (by rfl) (hall ⟨5, .data⟩ (by simp) rfl)
            have HS := hI.st
            have hX := HS.at hcl (i := 6) (by kernel_rfl) (by simpa using hun)
            subst hX
            have k0 := HQ8.out
            clear hI hall hcl
            unfold Reg.Yields
            go_simp
            first | rfl | exact ⟨rfl, HS.up (by decide)⟩ | (refine ⟨?_, HS.up (by decide)⟩; simp [foTold5n])
          refine ⟨fun listed A X hI hcl hin hun hall => .inl ⟨Reg.wanted_none rfl, ?_⟩, ?_⟩
          · have e7 := hI.evo (d := 7) (by kernel_rfl) rfl
            have HS := hI.st
            clear hI hall hcl
            unfold Reg.Yields
            go_simp
            first | rfl | exact ⟨rfl, HS.up (by decide)⟩ | (refine ⟨?_, HS.up (by decide)⟩; simp [foTold5n])
          refine ⟨fun listed A X hI hcl hin hun hall => .inl ⟨Reg.wanted_none rfl, ?_⟩, ?_⟩
          · have e46 : A.tmps[46]? = some (.pointer (some ⟨pb, n * 2, none⟩)) := hI.ev (i := 7) (d := 46) (by rfl) (hall ⟨7, .data⟩ (by simp) rfl)
            have HS := hI.st
            clear hI hall hcl
            unfold Reg.Yields
            go_simp
            first | rfl | exact ⟨rfl, HS.up (by decide)⟩ | (refine ⟨?_, HS.up (by decide)⟩; simp [foTold5n])
          refine ⟨fun listed A X hI hcl hin hun hall => .inl ⟨Reg.wanted_none rfl, ?_⟩, ?_⟩
          · have e47 : A.tmps[47]? = some (.pointer (some ⟨pb, n * 2, none⟩)) := hI.ev (i := 8) (d := 47) (by rfl) (hall ⟨8, .data⟩ (by simp) rfl)
            have HS := hI.st
            clear hI hall hcl
            unfold Reg.Yields
            go_simp
            first | rfl | exact ⟨rfl, HS.up (by decide)⟩ | (refine ⟨?_, HS.up (by decide)⟩; simp [foTold5n])
          refine ⟨fun listed A X hI hcl hin hun hall => .inl ⟨Reg.wanted_none rfl, ?_⟩, ?_⟩
          · have e48 : A.tmps[48]? = some (.pointer (some ⟨pb, n * 2 + 1, none⟩)) := hI.ev (i := 9) (d := 48) (by rfl) (hall ⟨9, .data⟩ (by simp) rfl)
            have HS := hI.st
            have hX := HS.at hcl (i := 10) (by kernel_rfl) (by simpa using hun)
            subst hX
            have k0 := HT1.out
            clear hI hall hcl
            unfold Reg.Yields
            go_simp
            first | rfl | exact ⟨rfl, HS.up (by decide)⟩ | (refine ⟨?_, HS.up (by decide)⟩; simp [foTold5n])
          refine ⟨fun listed A X hI hcl hin hun hall => .inl ⟨Reg.wanted_none rfl, ?_⟩, ?_⟩
          · have e49 : A.tmps[49]? = some (.slice vp k vc) := hI.ev (i := 10) (d := 49) (by rfl) (hall ⟨10, .data⟩ (by simp) rfl)
            have HS := hI.st
            clear hI hall hcl
            unfold Reg.Yields
            go_simp
            first | rfl | exact ⟨rfl, HS.up (by decide)⟩ | (refine ⟨?_, HS.up (by decide)⟩; simp [foTold5n])
          refine ⟨fun listed A X hI hcl hin hun hall => .inl ⟨Reg.wanted_none rfl, ?_⟩, ?_⟩
          · have e45 : A.tmps[45]? = some (.slice (some ⟨nb, 0, none⟩) ln nc) := hI.ev (i := 6) (d := 45) (by rfl) (hall ⟨6, .data⟩ (by simp) rfl)
            have e50 : A.tmps[50]? = some (.int .i64 (k : Int)) := hI.ev (i := 11) (d := 50) (by rfl) (hall ⟨11, .data⟩ (by simp) rfl)
            have HS := hI.st
            clear hI hall hcl
            unfold Reg.Yields
            go_simp
            first | rfl | exact ⟨rfl, HS.up (by decide)⟩ | (refine ⟨?_, HS.up (by decide)⟩; simp [foTold5n])
          refine ⟨fun listed A X hI hcl hin hun hall => .inl ⟨Reg.wanted_none rfl, ?_⟩, ?_⟩
          · have e51 : A.tmps[51]? = some (.pointer (some ⟨nb, k, none⟩)) := hI.ev (i := 12) (d := 51) (by rfl) (hall ⟨12, .data⟩ (by simp) rfl)
            have HS := hI.st
            have hX := HS.at hcl (i := 13) (by kernel_rfl) (by simpa using hun)
            subst hX
            have k0 := HNB.out
            clear hI hall hcl
            unfold Reg.Yields
            go_simp
            first | rfl | exact ⟨rfl, HS.up (by decide)⟩ | (refine ⟨?_, HS.up (by decide)⟩; simp [foTold5n])
          refine ⟨fun listed A X hI hcl hin hun hall => .inl ⟨Reg.wanted_none rfl, ?_⟩, ?_⟩
          · have e6 := hI.evo (d := 6) (by kernel_rfl) rfl
            have e52 : A.tmps[52]? = some (.pointer none) := hI.ev (i := 13) (d := 52) (by rfl) (hall ⟨13, .data⟩ (by simp) rfl)
            have HS := hI.st
            have hn14 : listed.getD 14 false = false := by simpa using hun
            have hX := (HS.ahead hn14).symm
            subst hX
            have EN := HEN.out
            clear hI hall hcl
            unfold Reg.Yields
            go_simp
            exact EN.mono fun e w'' ⟨he, hp⟩ => ⟨_, he, rfl, Reg.OneC.put hin hp⟩
          refine ⟨fun listed A X hI hcl hin hun hall => .inl ⟨Reg.wanted_none rfl, ?_⟩, ?_⟩
          · have e53 : A.tmps[53]? = some (.bool true) := hI.ev (i := 14) (d := 53) (by rfl) (hall ⟨14, .data⟩ (by simp) rfl)
            have HS := hI.st
            clear hI hall hcl
            unfold Reg.Yields
            go_simp
            first | rfl | exact ⟨rfl, HS.up (by decide)⟩ | (refine ⟨?_, HS.up (by decide)⟩; simp [foTold5n])
          trivial
        · intro W4 hS
          have H4 := qhid (hS.done (by rfl))
          clear hS HEN HT0 HT1 HQ8 HNB
          simp [Reg.finalTmps, Reg.dstAt, Reg.valOf, foTold5n]
          have hk0 : k = 0 := HK.out
          go_wp2_with fail
          go_roundg 0
          case rel => exact ⟨[0], rfl, qhid (.inr rfl), H4⟩
          case measure => omega
      | false =>
        have hlt : ¬ k < ln := by simpa using hbb.symm
        clear hbb
        have hps1 : ps = [0] := by
          rcases HPS.out with h | h
          · exfalso; have := HK.out; have := HLN.out; rw [h] at *; simp at *; omega
          · exact h
        obtain rfl : k = 1 := by rw [HK.out, hps1]; rfl
        obtain ⟨c, rfl, hcl, hcell⟩ := HVC1.out 0 0 (by rw [hps1]; rfl)
        have HB := qhid HP2.out.bel
        obtain rfl : n = 0 := HN.out
        have HT1 : Hid (W1.cell? ⟨pb, 1, none⟩ = some (.slice (some ⟨c, 0, none⟩) 1 vc)) := HT1
        have k0 := HT1.out
        have k2 := HC2.out
        clear HVC1 HP2 HI HT0 HQ8 HN
        go_wp2_with fail
        exact bodyPost_ret (v := .tuple #[.int .i64 0, .bool true]) (by simp [results, Tryz.results39, go_sem]) rfl ⟨rfl, HB.out⟩
end Go.Proofs.YtlmcgbieobklhaaGreatDoor
