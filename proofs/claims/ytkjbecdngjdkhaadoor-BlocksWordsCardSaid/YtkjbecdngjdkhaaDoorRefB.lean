/- Contracts of the document's own answers on sets, continued: Bools. -/
import Derived.Test.YtkjbecdngjdkhaaDoorRefA
namespace Go.Proofs.YtkjbecdngjdkhaaDoor
open Go Go.RowKit
attribute [local go_sem ↓] Go.wp_at_zero Go.wp_at_succ
attribute [local go_sem] eq4
/-- A slice of 256 bools in a block of the call's own. -/
def IsBools (w : World) (f : Nat → Bool) (e : Ending) (w' : World) : Prop :=
  ∃ g, e = .returned (.slice (some ⟨g, 0, none⟩) 256 256) ∧ w.heap.size ≤ g ∧ w'.heap[g]? = some (.cells (bl f) 4) ∧ Below w.heap.size w w'
theorem bl_congr {f g : Nat → Bool} (h : ∀ i, i < 256 → f i = g i) : bl f = bl g := by
  unfold bl
  congr 1
  exact List.map_congr_left fun i hi => by rw [h i (List.mem_range.1 hi)]
set_option maxHeartbeats 2000000 in
theorem heap_new (w : World) (o : Obj) : (w.alloc o).heap[w.heap.size]? = some o := by
  show (w.heap.push o)[w.heap.size]? = _
  simp
/-- What holds at the head of round k of Bools. -/
def BRel (w : World) (a b c d : Int) (f : Nat → Bool) (k : Nat) (wr : World) : Prop :=
  wr.heap[w.heap.size + 1]? = some (.cells (bl fun j => decide (j < k) && f j) 4) ∧
  (wr.cell? ⟨w.heap.size, 0, none⟩ = some (.int .u64 a) ∧ wr.cell? ⟨w.heap.size, 1, none⟩ = some (.int .u64 b) ∧ wr.cell? ⟨w.heap.size, 2, none⟩ = some (.int .u64 c) ∧ wr.cell? ⟨w.heap.size, 3, none⟩ = some (.int .u64 d)) ∧ Below w.heap.size w wr
set_option maxRecDepth 100000 in
set_option maxHeartbeats 2000000 in
theorem bools_any (a b c d : Int) (w : World) (fa : Fit a) (fb : Fit b) (fc : Fit c) (fd : Fit d) :
    Calls Tryd.prog 46 #[.agg #[.int .u64 a, .int .u64 b, .int .u64 c, .int .u64 d]] w (IsBools w (memb a b c d)) := by
  have hmk : ∀ w, (Instr.makeSlice 32 (.int .i64 256) (.int .i64 256)).run Tryd.prog w = .ok (.slice (some ⟨w.heap.size, 0, none⟩) 256 256) (w.alloc (.cells (bl fun _ => false) 4)) := fun _ => by kernel_rfl
  go_enter Tryd.func46, Tryd.ntmps46
  go_wp2_with fail
  clear hmk
  go_loopw [4] (fun i wr => ∃ k : Nat, k ≤ 256 ∧ i = .int .i64 k ∧ BRel w a b c d (memb a b c d) k wr) (fun i _ => 256 - (intOf i).toNat)
  case atStart =>
    refine ⟨0, by omega, rfl, ?_, ?_, below2 _ _ _⟩
    · have e : (bl fun j => decide (j < 0) && memb a b c d j) = bl fun _ => false := bl_congr fun i _ => by simp
      rw [e]
      have h := heap_new (w.alloc (.cells #[.int .u64 a, .int .u64 b, .int .u64 c, .int .u64 d] 35)) (.cells (bl fun _ => false) 4)
      rw [World.size_alloc] at h
      exact h
    · simp [go_sem]
  case round =>
    obtain ⟨k, hk, rfl, hg, hc, hb⟩ := hrel
    by_cases hlt : k < 256
    · have hgs := Reg.size_of_get hg
      have HG := hid hg
      clear hg
      go_wp2_with fail
      refine (refhas_any a b c d k _ hlt fa fb fc fd).mono ?_
      rintro e w1 ⟨rfl, hb1⟩
      have hg1 : w1.heap[w.heap.size + 1]? = some (.cells (bl fun j => decide (j < k) && memb a b c d j) 4) := (hb1.block _ hgs).trans HG.out
      obtain ⟨hcc, hff, hz1⟩ := bcell hb1
      clear hff
      have l0 : w.heap.size < wr.heap.size := by omega
      have q0 := (Joins.cell_of_block hg1 k).trans (bl_at _ k hlt)
      have f0 := Joins.unfrozen_of_block hg1 k
      have hcb : w1.cell? ⟨w.heap.size, 0, none⟩ = some (.int .u64 a) ∧ w1.cell? ⟨w.heap.size, 1, none⟩ = some (.int .u64 b) ∧ w1.cell? ⟨w.heap.size, 2, none⟩ = some (.int .u64 c) ∧ w1.cell? ⟨w.heap.size, 3, none⟩ = some (.int .u64 d) := by
        simp only [hcc w.heap.size _ l0]; exact hc
      have HB := hid (below_next hb hb1 hb.size)
      have HG1 := hid hg1
      clear hg1 hcc hb1 hc
      go_wp2
      go_roundw
      case rel =>
        refine ⟨k + 1, by omega, by go_num, ?_, ?_, HB.out.setCell (by simp) _⟩
        · rw [Joins.block_setCell HG1.out, bl_set]
          congr 2
          refine bl_congr fun i hi => ?_
          by_cases hik : i = k
          · subst hik; simp
          · have : (decide (i < k + 1)) = decide (i < k) := by
              by_cases h : i < k
              · simp [h]; omega
              · simp [h]; omega
            simp [hik, this]
        · have n0 : ¬ w.heap.size + 1 = w.heap.size := by omega
          have n1 : ¬ w.heap.size = w.heap.size + 1 := by omega
          simp [go_sem, n0, n1, hcb]
      case measure => simp [intOf]; omega
    · have e : k = 256 := by omega
      subst e
      have HG := hid hg
      clear hg hc
      go_wp2
      go_ret
      refine ⟨_, rfl, Nat.le_succ _, ?_, hb⟩
      have e2 : (bl fun j => decide (j < 256) && memb a b c d j) = bl (memb a b c d) := bl_congr fun i hi => by simp [hi]
      rw [HG.out, e2]
end Go.Proofs.YtkjbecdngjdkhaaDoor
