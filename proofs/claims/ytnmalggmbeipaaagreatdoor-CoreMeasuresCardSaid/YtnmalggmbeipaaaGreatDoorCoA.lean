/- A part of the proof. -/
import Derived.Test.YtnmalggmbeipaaaGreatDoorPaG
import Derived.Test.YtnmalggmbeipaaaGreatDoorEl
namespace Go.Proofs.YtnmalggmbeipaaaGreatDoor
section
open Go Go.RowKit
inductive Co where
 |nil:Co
 |node (k:Int) (s:W4) (z:Bool) (a b:Co):Co
abbrev yH(k:Int)(s:W4)(z:Bool)(va vb:Value):Obj:=.cells #[.int .i64 k,.int .u64 s.a,.int .u64 s.b,.int .u64 s.c,.int .u64 s.d,.bool z,va,vb] 78
inductive jD(w:World):Co->Value->Prop
 |nil:jD w .nil (.pointer none)
 |node (k:Int) (s:W4) (z:Bool) (a b:Co) (q:Nat) (va vb:Value) (hb:w.heap[q]? =some (yH k s z va vb)) (ha:jD w a va) (hc:jD w b vb):jD w (.node k s z a b) (.pointer (some ⟨q,0,none⟩))
def JT(o:Obj):Prop:=∀k s z va vb,o≠yH k s z va vb
theorem jD.kept{w w':World}{row:Option Nat}{c:Co}{v:Value}(h:jD w c v)(hg:w.grownBy w' row)(hr:∀r,row=some r->∃o,w.heap[r]? =some o/\JT o):jD w' c v:=by
 induction h with
 |nil=>exact .nil
 |node k s z a b q va vb hb ha hc iha ihc=>
  refine .node k s z a b q va vb ((hg.block q (Array.getElem?_eq_some_iff.1 hb).1 fun e=> ?_).trans hb) iha ihc;obtain⟨o,ho,hn⟩:=hr q e.symm;rw [hb] at ho;exact hn k s z va vb (Option.some.inj ho).symm
theorem jD.up{w w':World}{c:Co}{v:Value}(h:jD w c v)(hb:Below w.heap.size w w'):jD w' c v:=h.kept (qC none hb) (fun r e=>by cases e)
theorem JT.box{v:Value}{t:TypeId}{f:Nat×Nat}(ht:t≠78):JT (.cells #[v] t f):=fun k s z va vb e=>by
 injection e with _ e1;exact ht e1
theorem JT.row{cs:Array Value}{t:TypeId}{f:Nat×Nat}(ht:t≠78):JT (.cells cs t f):=fun k s z va vb e=>by
 injection e with _ e1;exact ht e1
theorem JT.other{o:Obj}(h:o.isCells=false):JT o:=fun k s z va vb e=>by subst e;cases h
theorem jD.nil_iff{w:World}{c:Co}{v:Value}(h:jD w c v):(c=.nil/\v=.pointer none)\/(c≠ .nil/\∃q,v=.pointer (some ⟨q,0,none⟩)):=by
 cases h with
 |nil=>exact .inl ⟨rfl,rfl⟩
 |node k s z a b q va vb hb ha hc=>exact .inr ⟨Co.noConfusion,q,rfl⟩
theorem jD.ptr{w:World}{c:Co}{v:Value}(h:jD w c v):∃p,v=.pointer p:=by
 cases h with
 |nil=>exact⟨_,rfl⟩
 |node k s z a b q va vb hb ha hc=>exact⟨_,rfl⟩
theorem jD.head{w:World}{k:Int}{s:W4}{z:Bool}{a b:Co}{v:Value}(h:jD w (.node k s z a b) v):∃q va vb,v=.pointer (some ⟨q,0,none⟩)/\w.heap[q]? =some (yH k s z va vb)/\jD w a va/\jD w b vb:=by
 cases h with
 |node k s z a b q va vb hb ha hc=>exact⟨q,va,vb,rfl,hb,ha,hc⟩
theorem jD.uniq{w:World}{c:Co}{v:Value}(h:jD w c v):∀{c':Co},jD w c' v->c=c':=by
 induction h with
 |nil=>intro c' h';cases h';rfl
 |node k s z a b q va vb hb ha hc iha ihc=>
  intro c' h'
  cases h' with
  |node k' s' z' a' b' _ va' vb' hb' ha' hc'=>
   have e:=hb.symm.trans hb';simp at e;obtain⟨rfl,e1,e2,e3,e4,rfl,rfl,rfl⟩:=e;obtain rfl:=iha ha';obtain rfl:=ihc hc';obtain⟨sa,sb,sc,sd⟩:=s;obtain⟨sa',sb',sc',sd'⟩:=s';simp only at e1 e2 e3 e4;subst e1 e2 e3 e4;rfl
theorem jD.new{w:World}{k:Int}{s:W4}{z:Bool}{a b:Co}{va vb:Value}(ha:jD w a va)(hb:jD w b vb):jD (w.alloc (yH k s z va vb)) (.node k s z a b) (.pointer (some ⟨w.heap.size,0,none⟩)):=
 .node k s z a b _ va vb (j1 w _) (ha.up (j3 _ _)) (hb.up (j3 _ _))
def jk:Co->Nat
 | .nil=>0
 | .node _ _ _ a b=>1+jk a+jk b
end
end Go.Proofs.YtnmalggmbeipaaaGreatDoor
