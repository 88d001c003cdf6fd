/- Contracts: the document's Meet; two lists held against one another. -/
import Derived.Test.YtkjbecdngjdkhaaDoorBlkP
import Derived.Deep.QuietTactic
import Derived.BigQuiet
namespace Go.Proofs.YtkjbecdngjdkhaaDoor
open Go Go.RowKit
attribute [local go_sem ↓] Go.wp_at_zero Go.wp_at_succ
attribute [local go_sem] eq4
/-- Two sets lie in two blocks of a world that is the old one as far as that goes. -/
abbrev HeldP (w : World) (g0 g1 : Nat) (s t : W4) (w' : World) : Prop :=
  (w'.cell? ⟨g0, 0, none⟩ = some (.int .u64 s.a) ∧ w'.cell? ⟨g0, 1, none⟩ = some (.int .u64 s.b) ∧ w'.cell? ⟨g0, 2, none⟩ = some (.int .u64 s.c) ∧ w'.cell? ⟨g0, 3, none⟩ = some (.int .u64 s.d)) ∧
  (w'.cell? ⟨g1, 0, none⟩ = some (.int .u64 t.a) ∧ w'.cell? ⟨g1, 1, none⟩ = some (.int .u64 t.b) ∧ w'.cell? ⟨g1, 2, none⟩ = some (.int .u64 t.c) ∧ w'.cell? ⟨g1, 3, none⟩ = some (.int .u64 t.d)) ∧
  g0 < w'.heap.size ∧ g1 < w'.heap.size ∧ Below w.heap.size w w'
theorem heldP_below {w : World} {g0 g1 : Nat} {s t : W4} {X Y : World} (hb : Below X.heap.size X Y) (h : HeldP w g0 g1 s t X) : HeldP w g0 g1 s t Y := by
  obtain ⟨hc, _, hz⟩ := bcell hb
  obtain ⟨h0, h1, l0, l1, k⟩ := h
  refine ⟨?_, ?_, by omega, by omega, below_next k hb k.size⟩
  · simp only [hc g0 _ l0]; exact h0
  · simp only [hc g1 _ l1]; exact h1
theorem heldP_drew {w : World} {g0 g1 : Nat} {s t : W4} {X : World} (h : HeldP w g0 g1 s t X) : HeldP w g0 g1 s t X.drew := ⟨h.1, h.2.1, h.2.2.1, h.2.2.2.1, h.2.2.2.2.drew⟩
theorem W4.boolsE (t : W4) (hf : t.fit) (w : World) :
    Calls Tryd.prog 46 #[.agg #[.int .u64 t.a, .int .u64 t.b, .int .u64 t.c, .int .u64 t.d]] w (IsBools w t.mem) := bools_any t.a t.b t.c t.d w hf.1 hf.2.1 hf.2.2.1 hf.2.2.2
/-- What a slice of bools holds while it is met with another one. -/
def mixf (X Y : Nat → Bool) (k j : Nat) : Bool := if j < k then X j && Y j else X j
/-- What holds at the head of round k: x is met with y up to k. -/
def MixRel (w : World) (gx gy : Nat) (X Y : Nat → Bool) (k : Nat) (wr : World) : Prop :=
  wr.heap[gx]? = some (.cells (bl (mixf X Y k)) 4) ∧ wr.heap[gy]? = some (.cells (bl Y) 4) ∧ gx ≠ gy ∧ w.heap.size ≤ gx ∧ Below w.heap.size w wr
theorem MixRel.next {w wr : World} {gx gy k : Nat} {X Y : Nat → Bool} (h : MixRel w gx gy X Y k wr) (hk : k < 256) : MixRel w gx gy X Y (k + 1) (wr.setCell ⟨gx, k, none⟩ (.bool (X k && Y k))) := by
  refine ⟨?_, ?_, h.2.2.1, h.2.2.2.1, h.2.2.2.2.setCell (by show w.heap.size ≤ gx; exact h.2.2.2.1) _⟩
  · rw [Joins.block_setCell h.1, bl_set]
    congr 2
    refine bl_congr fun i hi => ?_
    unfold mixf
    by_cases hik : i = k
    · subst hik; simp
    · by_cases h : i < k
      · simp [hik, h, show i < k + 1 by omega]
      · simp [hik, h, show ¬ i < k + 1 by omega]
  · exact (Below.heap_setCell wr ⟨gx, k, none⟩ _ gy (fun e => h.2.2.1 e.symm)).trans h.2.1
theorem MixRel.cells {w wr : World} {gx gy k : Nat} {X Y : Nat → Bool} (h : MixRel w gx gy X Y k wr) (hk : k < 256) :
    wr.cell? ⟨gx, k, none⟩ = some (.bool (X k)) ∧ wr.cell? ⟨gy, k, none⟩ = some (.bool (Y k)) ∧ wr.frozen? ⟨gx, k, none⟩ = false ∧ gx < wr.heap.size ∧ gy < wr.heap.size := by
  refine ⟨?_, (Joins.cell_of_block h.2.1 k).trans (bl_at _ k hk), Joins.unfrozen_of_block h.1 k, Reg.size_of_get h.1, Reg.size_of_get h.2.1⟩
  rw [Joins.cell_of_block h.1 k, bl_at _ k hk]
  unfold mixf
  rw [if_neg (by omega)]
theorem MixRel.ends {w wr : World} {gx gy : Nat} {X Y : Nat → Bool} (h : MixRel w gx gy X Y 256 wr) : BoolsAt wr gx (fun n => X n && Y n) := by
  have e : bl (mixf X Y 256) = bl (fun n => X n && Y n) := bl_congr fun i hi => by unfold mixf; rw [if_pos hi]
  have h1 := h.1
  rw [e] at h1
  exact bools_of_block h1
theorem mix_zero (X Y : Nat → Bool) : bl (mixf X Y 0) = bl X := bl_congr fun i _ => by unfold mixf; rw [if_neg (by omega)]
set_option maxRecDepth 100000 in
set_option maxHeartbeats 4000000 in
theorem refmeet_any (s t : W4) (hs : s.fit) (ht : t.fit) (w : World) :
    Calls Tryd.prog 21 #[.agg #[.int .u64 s.a, .int .u64 s.b, .int .u64 s.c, .int .u64 s.d], .agg #[.int .u64 t.a, .int .u64 t.b, .int .u64 t.c, .int .u64 t.d]] w fun e w' => e = .returned (s.meet t).val ∧ Below w.heap.size w w' := by
  have HX := hid (fun W => s.boolsE hs W)
  have HY := hid (fun W => t.boolsE ht W)
  have HMF := hid (meet_fit s t)
  have HMM := hid (fun n => mem_meet s t n)
  clear hs ht
  go_enter Tryd.func21, Tryd.ntmps21
  go_wp2_with fail
  obtain ⟨W, hW⟩ : ∃ W, W = ((w.alloc (.cells #[.int .u64 s.a, .int .u64 s.b, .int .u64 s.c, .int .u64 s.d] 35)).alloc (.cells #[.int .u64 t.a, .int .u64 t.b, .int .u64 t.c, .int .u64 t.d] 35)).alloc (.cells #[.int .u64 0, .int .u64 0, .int .u64 0, .int .u64 0] 35) := ⟨_, rfl⟩
  have H0 : HeldP W w.heap.size (w.heap.size + 1) s t W := by
    subst hW
    refine ⟨?_, ?_, by simp; omega, by simp, Below.refl _ _⟩
    · simp [go_sem]
    · simp [go_sem]
  have HRS : Hid ((∀ j : Nat, j < 4 → W.cell? ⟨w.heap.size + 1 + 1, j, none⟩ = some (.int .u64 0) ∧ W.frozen? ⟨w.heap.size + 1 + 1, j, none⟩ = false) ∧ w.heap.size + 1 + 1 < W.heap.size) := hid (by
    subst hW
    refine ⟨fun j hj => ?_, by simp⟩
    have hj' : j = 0 ∨ j = 1 ∨ j = 2 ∨ j = 3 := by omega
    rcases hj' with rfl | rfl | rfl | rfl <;> simp [go_sem])
  have HBW : Hid (Below w.heap.size w W) := hid (by subst hW; exact below3 _ _ _ _)
  rw [← hW]
  clear hW
  have hwW := HBW.out.size
  go_region_held3 (fun w' => HeldP W w.heap.size (w.heap.size + 1) s t w')
    (first | assumption | exact heldP_drew (by assumption) | exact heldP_below (by assumption) (by assumption))
    (first
      | (go_at_call 46; (with_reducible refine (HX.out _).mono ?_); rintro e w1 ⟨gx, rfl, hx0, hx1, hb1⟩)
      | (go_at_call 46; (with_reducible refine (HY.out _).mono ?_); rintro e w2 ⟨gy, rfl, hy0, hy1, hb2⟩))
  have H2 : HeldP W w.heap.size (w.heap.size + 1) s t w2 := by assumption
  have hx2 := (hb2.block _ (Reg.size_of_get hx1)).trans hx1
  have hl1 := Reg.size_of_get hx1
  have HM0 : Hid (MixRel W gx gy s.mem t.mem 0 w2) := hid ⟨by rw [mix_zero]; exact hx2, hy1, by omega, hx0, H2.2.2.2.2⟩
  clear hx0 hx1 hb1 hy0 hy1 hb2 H0 H2 hx2 hl1
  go_wp2_with fail
  go_loopw [7] (fun i wr => ∃ k : Nat, k ≤ 256 ∧ i = .int .i64 k ∧ Hid (MixRel W gx gy s.mem t.mem k wr)) (fun i _ => 256 - (intOf i).toNat)
  case atStart => exact ⟨0, by omega, rfl, HM0⟩
  case round =>
    obtain ⟨k, hk, rfl, HM⟩ := hrel
    by_cases hlk : k < 256
    · obtain ⟨q0, q1, f0, l0, l1⟩ := HM.out.cells hlk
      have HNX := hid (HM.out.next hlk)
      have dk : decide ((k : Int) < 256) = true := decide_eq_true (by omega)
      generalize s.mem k = x at *
      generalize t.mem k = y at *
      cases x
      all_goals
        go_wp2_with fail
        go_roundw
        case rel => exact ⟨k + 1, by omega, by go_num, HNX⟩
        case measure => simp [intOf]; omega
    · obtain rfl : k = 256 := by omega
      have HBA := hid HM.out.ends
      have HBM := hid HM.out.2.2.2.2
      have HMK := hid (fun W' (h : BoolsAt W' gx (fun n => s.mem n && t.mem n)) => make_known (cap := 256) (s.meet t).a (s.meet t).b (s.meet t).c (s.meet t).d h HMF.out.1 HMF.out.2.1 HMF.out.2.2.1 HMF.out.2.2.2 (fun n _ => HMM.out n))
      go_wp2_with fail
      refine (HMK.out _ HBA.out).mono ?_
      rintro e w3 ⟨rfl, hb3⟩
      have HB3 := hid (HBM.out.trans (hb3.mono HBM.out.size))
      clear hb3
      have hl2 : w.heap.size + 1 + 1 < w3.heap.size := by have := HRS.out.2; have := HB3.out.size; omega
      have r0 := (HB3.out.cell (p := ⟨w.heap.size + 1 + 1, 0, none⟩) HRS.out.2).trans (HRS.out.1 0 (by omega)).1
      have r1 := (HB3.out.cell (p := ⟨w.heap.size + 1 + 1, 1, none⟩) HRS.out.2).trans (HRS.out.1 1 (by omega)).1
      have r2 := (HB3.out.cell (p := ⟨w.heap.size + 1 + 1, 2, none⟩) HRS.out.2).trans (HRS.out.1 2 (by omega)).1
      have r3 := (HB3.out.cell (p := ⟨w.heap.size + 1 + 1, 3, none⟩) HRS.out.2).trans (HRS.out.1 3 (by omega)).1
      have z0 := (HB3.out.frozen (p := ⟨w.heap.size + 1 + 1, 0, none⟩) HRS.out.2).trans (HRS.out.1 0 (by omega)).2
      have z1 := (HB3.out.frozen (p := ⟨w.heap.size + 1 + 1, 1, none⟩) HRS.out.2).trans (HRS.out.1 1 (by omega)).2
      have z2 := (HB3.out.frozen (p := ⟨w.heap.size + 1 + 1, 2, none⟩) HRS.out.2).trans (HRS.out.1 2 (by omega)).2
      have z3 := (HB3.out.frozen (p := ⟨w.heap.size + 1 + 1, 3, none⟩) HRS.out.2).trans (HRS.out.1 3 (by omega)).2
      have HB4 := hid (HBW.out.trans (HB3.out.mono hwW))
      generalize hu : s.meet t = u at *
      have HU := hid hu
      clear hu
      go_wp2_with fail
      refine bodyPost_ret (v := u.val) (by simp [results, Tryd.results21, go_sem, W4.val, r0, r1, r2, r3]) rfl ⟨by rw [HU.out], ?_⟩
      exact below_set4 HB4.out (by omega) _ _ _ _
end Go.Proofs.YtkjbecdngjdkhaaDoor
