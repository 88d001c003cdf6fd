/- Make's contract where the words are known. -/
import Derived.Test.YtenibhmjcafbiaaGreatDoorRefD
namespace Go.Proofs.YtenibhmjcafbiaaGreatDoor
open Go Go.RowKit
/-- A slice of 256 bools lies there. -/
def BoolsAt (W : World) (g : Nat) (f : Nat → Bool) : Prop := g < W.heap.size ∧ ∀ j, j < 256 → W.cell? ⟨g, j, none⟩ = some (.bool (f j))
theorem BoolsAt.below {B : Nat} {W W1 : World} {g : Nat} {f : Nat → Bool} (h : BoolsAt W g f) (hb : Below B W W1) (hB : g < B) : BoolsAt W1 g f :=
  ⟨Nat.lt_of_lt_of_le h.1 hb.size, fun j hj => (hb.cell (p := ⟨g, j, none⟩) hB).trans (h.2 j hj)⟩
theorem bools_of_block {W : World} {g : Nat} {f : Nat → Bool} (h : W.heap[g]? = some (.cells (bl f) 4)) : BoolsAt W g f :=
  ⟨Reg.size_of_get h, fun j hj => (Joins.cell_of_block h j).trans (bl_at f j hj)⟩
end Go.Proofs.YtenibhmjcafbiaaGreatDoor
