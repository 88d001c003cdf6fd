/- A part of the proof. -/
import Derived.RangeFuncNested
import Derived.RangeFuncBound
import Derived.RangeFuncCalls
import Derived.RangeFuncLeaves
import Derived.Shelf.Abstract
import Derived.Shelf.RegionOpen
import Derived.WalkKit
import Derived.OwnWalkIn
import Derived.TacticsInMore
import Derived.LoopNIn
import Derived.LoopIn
import Derived.Lib.Hide
import Derived.Test.YtnmalggmbeipaaaGreatDoorProg
import Derived.Test.YtnmalggmbeipaaaGreatDoorPbU
namespace Go.Proofs.YtnmalggmbeipaaaGreatDoor
section
section
open Go Go.RowKit Go.Shelf
attribute [local go_sem] Oper.semAt_some
def zw(Bs b:Nat)(W W':World):Prop:=W'.heap[Bs]? =W.heap[Bs]? /\W'.heap[b]? =W.heap[b]?
theorem zw.refl(Bs b:Nat)(W:World):zw Bs b W W:=⟨rfl,rfl⟩
theorem zw.trans{Bs b:Nat}{A B C:World}(h:zw Bs b A B)(k:zw Bs b B C):zw Bs b A C:=⟨k.1.trans h.1,k.2.trans h.2⟩
theorem keepB_b{Bs b:Nat}{w:World}(hBs:Bs<w.heap.size)(hb:b<w.heap.size)(W:World)(l:Nat)(o o':Obj)(hl:w.heap.size<=l)(h:W.heap[l]? =some o)(_:o.isCells=false)(_:o.isWalk=false):zw Bs b W (W.putObj l o'):=by
 have hlt:=(Array.getElem?_eq_some_iff.1 h).1;exact⟨(grownBy_putObj' W l o').block Bs (by omega) (fun e=>by injection e;omega),(grownBy_putObj' W l o').block b (by omega) (fun e=>by injection e;omega)⟩
end
end
end Go.Proofs.YtnmalggmbeipaaaGreatDoor
namespace Go.Proofs.YtnmalggmbeipaaaGreatDoor
section
section
open Go Go.RowKit Go.Shelf
def mk1(D:Nat):Deferred:={target:=.collected D,args:= #[]}
theorem Kt{W:World}{b e s k:Nat}{v:Value}{xs:List Value}(h:W.ownsRow b e s v k xs):∀r,v.ownBlock=some r->∃o:Obj,W.heap[r]? =some o/\o.isCells=true:=by
 intro r e'
 rcases h.2 with ⟨rfl,_⟩|⟨g,cap,cur,rfl,_,hg,_⟩
 ·simp [Value.ownBlock] at e'
 ·obtain rfl:g=r:=by simpa [Value.ownBlock] using e'
  exact⟨_,hg,rfl⟩
theorem Z3{W:World}{B B' t t':Nat}{v v':Value}(h:Boxed W B t v)(h':Boxed W B' t' v')(ht:t≠t'):B≠B':=by
 rintro rfl;have:=(show W.heap[B]? =_ from h).symm.trans h';simp at this;exact ht this.2
end
end
end Go.Proofs.YtnmalggmbeipaaaGreatDoor
