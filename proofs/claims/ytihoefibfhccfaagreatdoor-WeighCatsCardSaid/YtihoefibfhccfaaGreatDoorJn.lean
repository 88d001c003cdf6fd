/- Short names. -/
import Derived.Test.YtihoefibfhccfaaGreatDoorSa
namespace Go.Proofs.YtihoefibfhccfaaGreatDoor
open Go Go.RowKit
theorem jC {w : Go.World} {g : Nat} {cs : Array Go.Value} {t : Go.TypeId} {fr : Nat × Nat} (h : w.heap[g]? = some (Go.Obj.cells cs t fr)) (i : Nat) : w.cell? { block := g, off := i } = cs[i]? := Go.Joins.cell_of_block h i
theorem jU {w : Go.World} {g : Nat} {cs : Array Go.Value} {t : Go.TypeId} (h : w.heap[g]? = some (Go.Obj.cells cs t)) (i : Nat) : w.frozen? { block := g, off := i } = false := Go.Joins.unfrozen_of_block h i
theorem jS {w : Go.World} {g : Nat} {o : Go.Obj} (h : w.heap[g]? = some o) : g < w.heap.size := (Array.getElem?_eq_some_iff.1 h).1
theorem jF {p : Prop} [inst : Decidable p] (h : ¬ p) : decide p = false := decide_eq_false h
theorem jT {p : Prop} [inst : Decidable p] (h : p) : decide p = true := decide_eq_true h
theorem jN (n : Nat) : n ≤ n := Nat.le_refl n
end Go.Proofs.YtihoefibfhccfaaGreatDoor
