/- A part of the proof. -/
import Derived.RangeFuncNested
import Derived.RangeFuncBound
import Derived.RangeFuncCalls
import Derived.RangeFuncLeaves
import Derived.Shelf.Abstract
import Derived.Shelf.RegionOpen
import Derived.WalkKit
import Derived.OwnWalkIn
import Derived.TacticsInMore
import Derived.LoopNIn
import Derived.LoopIn
import Derived.Lib.Hide
import Derived.Test.YtnmalggmbeipaaaGreatDoorProg
import Derived.Test.YtnmalggmbeipaaaGreatDoorPbU
namespace Go.Proofs.YtnmalggmbeipaaaGreatDoor
section
section
open Go Go.RowKit Go.Shelf
attribute [local go_sem] Oper.semAt_some
def KeepB (Bs b : Nat) (W W' : World) : Prop := W'.heap[Bs]? = W.heap[Bs]? /\ W'.heap[b]? = W.heap[b]?
theorem KeepB.refl (Bs b : Nat) (W : World) : KeepB Bs b W W := ⟨rfl,rfl⟩
theorem KeepB.trans {Bs b : Nat} {A B C : World} (h : KeepB Bs b A B) (k : KeepB Bs b B C) : KeepB Bs b A C := ⟨k.1.trans h.1,k.2.trans h.2⟩
theorem keepB_b {Bs b : Nat} {w : World} (hBs : Bs < w.heap.size) (hb : b < w.heap.size) (W : World) (l : Nat) (o o' : Obj) (hl : w.heap.size <= l) (h : W.heap[l]? = some o) (_ : o.isCells = false) (_ : o.isWalk = false) : KeepB Bs b W (W.putObj l o') := by
 have hlt := (Array.getElem?_eq_some_iff.1 h).1;exact ⟨(grownBy_putObj' W l o').block Bs (by omega) (fun e => by injection e;omega),(grownBy_putObj' W l o').block b (by omega) (fun e => by injection e;omega)⟩
end
end
end Go.Proofs.YtnmalggmbeipaaaGreatDoor
namespace Go.Proofs.YtnmalggmbeipaaaGreatDoor
section
section
open Go Go.RowKit Go.Shelf
def mk1 (D : Nat) : Deferred := { target := .collected D,args := #[] }
theorem ne_box {W : World} {B B' t t' : Nat} {v v' : Value} (h : Boxed W B t v) (h' : Boxed W B' t' v') (ht : t ≠ t') : B ≠ B' := by
 rintro rfl;have := (show W.heap[B]? = _ from h).symm.trans h';simp at this;exact ht this.2
end
end
end Go.Proofs.YtnmalggmbeipaaaGreatDoor
