/- A range over a function in the body of an ordinary loop: each round leaves a mark; how a function leaves with all of them; a loop whose measure is a ghost. -/
import Derived.Test.YtfjepjkbflcjbaaGreatDoorBw
import Derived.Test.YtfjepjkbflcjbaaGreatDoorPbU
namespace Go.Proofs.YtfjepjkbflcjbaaGreatDoor
section
open Go Go.RowKit Go.Shelf
/-- A mark that an ended loop left. -/
def mk1 (D : Nat) : Deferred := { target := .collected D, args := #[] }
theorem row_isCells {W : World} {b e s k : Nat} {v : Value} {xs : List Value} (h : W.ownsRow b e s v k xs) : ∀ r, v.ownBlock = some r → ∃ o : Obj, W.heap[r]? = some o ∧ o.isCells = true := by
  intro r e'
  rcases h.2 with ⟨rfl, _⟩ | ⟨g, cap, cur, rfl, _, hg, _⟩
  · simp [Value.ownBlock] at e'
  · obtain rfl : g = r := by simpa [Value.ownBlock] using e'
    exact ⟨_, hg, rfl⟩
theorem ne_box {W : World} {B B' t t' : Nat} {v v' : Value} (h : Boxed W B t v) (h' : Boxed W B' t' v') (ht : t ≠ t') : B ≠ B' := by
  rintro rfl
  have := (show W.heap[B]? = _ from h).symm.trans h'
  simp at this
  exact ht this.2
end
end Go.Proofs.YtfjepjkbflcjbaaGreatDoor
