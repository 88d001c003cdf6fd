/- Contracts of the document's own answers on sets, continued: Bools. -/
import Derived.Test.YtenibhmjcafbiaaGreatDoorRefA
namespace Go.Proofs.YtenibhmjcafbiaaGreatDoor
open Go Go.RowKit
attribute [local go_sem ↓] Go.wp_at_zero Go.wp_at_succ
attribute [local go_sem] eq4
/-- A slice of 256 bools in a block of the call's own. -/
def IsBools (w : World) (f : Nat → Bool) (e : Ending) (w' : World) : Prop :=
  ∃ g, e = .returned (.slice (some ⟨g, 0, none⟩) 256 256) ∧ w.heap.size ≤ g ∧ w'.heap[g]? = some (.cells (bl f) 4) ∧ Below w.heap.size w w'
theorem bl_congr {f g : Nat → Bool} (h : ∀ i, i < 256 → f i = g i) : bl f = bl g := by
  unfold bl
  congr 1
  exact List.map_congr_left fun i hi => by rw [h i (List.mem_range.1 hi)]
set_option maxHeartbeats 2000000 in
theorem heap_new (w : World) (o : Obj) : (w.alloc o).heap[w.heap.size]? = some o := by
  show (w.heap.push o)[w.heap.size]? = _
  simp
/-- What holds at the head of round k of Bools. -/
def BRel (w : World) (a b c d : Int) (f : Nat → Bool) (k : Nat) (wr : World) : Prop :=
  wr.heap[w.heap.size + 1]? = some (.cells (bl fun j => decide (j < k) && f j) 4) ∧
  (wr.cell? ⟨w.heap.size, 0, none⟩ = some (.int .u64 a) ∧ wr.cell? ⟨w.heap.size, 1, none⟩ = some (.int .u64 b) ∧ wr.cell? ⟨w.heap.size, 2, none⟩ = some (.int .u64 c) ∧ wr.cell? ⟨w.heap.size, 3, none⟩ = some (.int .u64 d)) ∧ Below w.heap.size w wr
end Go.Proofs.YtenibhmjcafbiaaGreatDoor
