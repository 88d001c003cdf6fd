/- A part of the proof. -/
import Derived.Test.YtnmalggmbeipaaaGreatDoorPaG
namespace Go.Proofs.YtnmalggmbeipaaaGreatDoor
section
open Go Go.RowKit
def Jm:Tr->Value->List Value
 | .mk k s lo hi z a b _,lv=> [.int .i64 k,.int .u64 s.a,.int .u64 s.b,.int .u64 s.c,.int .u64 s.d,.int .i64 lo,.int .i64 hi,.bool z,lv,.int .i64 (a:Int),.int .i64 (b:Int)]
def rnV(t:Tr)(lv:Value):Value:=.agg (Jm t lv).toArray
theorem ZC(t:Tr)(lv:Value):(Jm t lv).length=11:=by cases t;rfl
theorem xz(t:Tr)(p:Option Addr)(n cap:Nat):∀u∈Jm t (.slice p n cap),u.oneCell'=true:=by
 cases t
 intro u hu;simp only [Jm,List.mem_cons,List.not_mem_nil,or_false] at hu
 rcases hu with rfl|rfl|rfl|rfl|rfl|rfl|rfl|rfl|rfl|rfl|rfl<;>rfl
inductive kU(w:World)(A:Nat->Prop):Tr->Value->Prop
 |node (k:Int) (s:W4) (lo hi:Int) (z:Bool) (a b:Nat) (l:List Tr) (p:Option Addr) (cap:Nat) (us:Nat->Value)
   (hc:∀(i:Nat) (u:Tr),l[i]? =some u->∃c,p=some ⟨c,0,none⟩/\A c/\c<w.heap.size/\∀(o:Nat) (x:Value),(Jm u (us i))[o]? =some x->w.cell? ⟨c,i*11+o,none⟩=some x)
   (ht:∀(i:Nat) (u:Tr),l[i]? =some u->kU w A u (us i)):kU w A (.mk k s lo hi z a b l) (.slice p l.length cap)
theorem kU.keep{w w':World}{A:Nat->Prop}{row:Option Nat}{t:Tr}{v:Value}(h:kU w A t v)(hg:w.grownBy w' row)(hA:∀b,A b->row≠some b):kU w' A t v:=by
 induction h with
 |node k s lo hi z a b l p cap us hc ht ih=>
  refine .node k s lo hi z a b l p cap us (fun i t hi=> ?_) (fun i t hi=>ih i t hi);obtain⟨c,h1,h2,h3,h4⟩:=hc i t hi;exact⟨c,h1,h2,Nat.lt_of_lt_of_le h3 hg.size,fun o x ho=>hg.cell (h4 o x ho) (fun e=>hA c h2 e.symm)⟩
theorem kU.up{w w':World}{A:Nat->Prop}{t:Tr}{v:Value}(h:kU w A t v)(hb:Below w.heap.size w w'):kU w' A t v:=
 h.keep (row:=none) ⟨hb.os,hb.tape,hb.output,hb.size,fun i hi _=>hb.block i hi⟩ (fun _ _ e=>by cases e)
theorem kU.mono{w:World}{A A':Nat->Prop}{t:Tr}{v:Value}(h:kU w A t v)(hA:∀b,b<w.heap.size->A b->A' b):kU w A' t v:=by
 induction h with
 |node k s lo hi z a b l p cap us hc ht ih=>
  refine .node k s lo hi z a b l p cap us (fun i t hi=> ?_) (fun i t hi=>ih i t hi);obtain⟨c,h1,h2,h3,h4⟩:=hc i t hi;exact⟨c,h1,hA c h3 h2,h3,h4⟩
theorem kU.slice{w:World}{A:Nat->Prop}{t:Tr}{v:Value}(h:kU w A t v):∃p n cap,v=.slice p n cap:=by
 cases h with
 |node k s lo hi z a b l p cap us hc ht=>exact⟨p,_,cap,rfl⟩
theorem kU.leaf(w:World)(A:Nat->Prop)(k:Int)(s:W4)(lo hi:Int)(z:Bool)(a b:Nat):kU w A (.mk k s lo hi z a b []) (.slice none 0 0):=
 .node k s lo hi z a b [] none 0 (fun _=>undef) (fun i u h=>by simp at h) (fun i u h=>by simp at h)
def rnRow:List Tr->List Value->List Value
 | [],_=> []
 |_::_,[]=> []
 |t::l,u::us=>Jm t u++rnRow l us
theorem Qn:∀(l:List Tr) (us:List Value) (t:Tr) (u:Value),us.length=l.length->rnRow (l++ [t]) (us++ [u])=rnRow l us++Jm t u
 | [],[],t,u,_=>by simp [rnRow]
 |t'::l,u'::us,t,u,h=>by
  show Jm t' u'++rnRow (l++ [t]) (us++ [u])=Jm t' u'++rnRow l us++Jm t u
  rw [Qn l us t u (by simpa using h),List.append_assoc]
theorem Xa:∀(l:List Tr) (us:List Value) (i o:Nat) (t:Tr) (u x:Value),l[i]? =some t->us[i]? =some u->(Jm t u)[o]? =some x->(rnRow l us)[i*11+o]? =some x
 | [],_,i,o,t,u,x,h,_,_=>by simp at h
 |_::_,[],i,o,t,u,x,_,h,_=>by simp at h
 |t'::l,u'::us,0,o,t,u,x,h1,h2,h3=>by
  have e1:t'=t:=by simpa using h1
  have e2:u'=u:=by simpa using h2
  subst e1 e2
  have ho:o<(Jm t' u').length:=by
   rcases Nat.lt_or_ge o (Jm t' u').length with h|h
   ·exact h
   ·rw [List.getElem?_eq_none h] at h3;cases h3
  show(Jm t' u'++rnRow l us)[0*11+o]? =some x
  rw [Nat.zero_mul,Nat.zero_add,List.getElem?_append_left ho,h3]
 |t'::l,u'::us,i+1,o,t,u,x,h1,h2,h3=>by
  show(Jm t' u'++rnRow l us)[(i+1)*11+o]? =some x
  rw [List.getElem?_append_right (by rw [ZC];omega),ZC,show(i+1)*11+o-11=i*11+o by omega];exact Xa l us i o t u x (by simpa using h1) (by simpa using h2) h3
structure yd(B:Nat)(l:List Tr)(us:List Value)(v:Value)(w:World):Prop where
 len:us.length=l.length
 own:w.ownsRow B 50 11 v l.length (rnRow l us)
 tr:∀(i:Nat) (t:Tr) (u:Value),l[i]? =some t->us[i]? =some u->kU w (fun b=>B<=b/\v.ownBlock≠some b) t u
theorem yd.start(B:Nat)(w:World):yd B [] [] (.slice none 0 0) w:=⟨rfl,⟨rfl,.inl ⟨rfl,rfl⟩⟩,fun i t u h=>by simp at h⟩
theorem yd.below{B:Nat}{l:List Tr}{us:List Value}{v:Value}{w w1:World}(h:yd B l us v w)(hb:Below w.heap.size w w1):yd B l us v w1:=
 ⟨h.len,vX h.own hb,fun i t u hi hu=>(h.tr i t u hi hu).up hb⟩
theorem yd.add{B lo:Nat}{l:List Tr}{us:List Value}{v v4 u:Value}{w w4:World}{t:Tr}{o:Obj}(h:yd B l us v w)(hlo:∀b,v.ownBlock=some b->b<lo)(hB:B<=lo)(ht:kU w (fun b=>lo<=b) t u)
  (ho:w4.ownsRow B 50 11 v4 (l.length+1) (rnRow l us++Jm t u)) (hg:(w.alloc o).grownBy w4 v.ownBlock) (hat:v4.ownBlock=v.ownBlock\/v4.ownBlock=some (w.alloc o).heap.size):yd B (l++ [t]) (us++ [u]) v4 w4:=by
 have key:∀(t:Tr) (u:Value),kU w (fun b=>B<=b/\v.ownBlock≠some b) t u->kU w4 (fun b=>B<=b/\v4.ownBlock≠some b) t u:=by
  intro t u h1;have h2:kU w (fun b=>(B<=b/\v.ownBlock≠some b)/\b<w.heap.size) t u:=h1.mono (fun b hb hA=>⟨hA,hb⟩);refine((h2.up (j3 w o)).keep hg (fun b hb=>hb.1.2)).mono (fun b _ hb=>⟨hb.1.1,?_⟩)
  rcases hat with e|e
  ·rw [e];exact hb.1.2
  ·rw [e,World.size_alloc];intro e2;injection e2 with e2;have:=hb.2;omega
 refine⟨by simp [h.len],by rw [Qn l us t u h.len];simpa using ho,fun i t' u' hi hu=> ?_⟩
 by_cases hil:i<l.length
 ·rw [List.getElem?_append_left hil] at hi;rw [List.getElem?_append_left (by rw [h.len];exact hil)] at hu;exact key _ _ (h.tr i t' u' hi hu)
 ·have hi':i=l.length:=by
   have:=(List.getElem?_eq_some_iff.1 hi).1;simp at this;omega
  subst hi';have e1:t=t':=by simpa using hi
  have e2:u=u':=by rw [<-h.len] at hu;simpa using hu
  subst e1 e2;exact key _ _ (ht.mono (fun b _ hb=>⟨Nat.le_trans hB hb,fun e=>by have:=hlo b e;omega⟩))
theorem yd.at{B:Nat}{l:List Tr}{us:List Value}{v:Value}{w:World}(h:yd B l us v w)(k:Int)(s:W4)(lo hi:Int)(z:Bool)(a b:Nat):kU w (fun b=>B<=b) (.mk k s lo hi z a b l) v:=by
 obtain⟨h1,h2,h3⟩:=h;have h2':=h2
 rcases h2.2 with ⟨rfl,hl⟩|⟨c,cap,cur,rfl,hb,hh,hcap,hmax,hcs,htake⟩
 ·have hl':l= []:=List.length_eq_zero_iff.1 hl;subst hl';exact .leaf w _ k s lo hi z a b
 ·refine .node k s lo hi z a b l _ cap (fun i=>us.getD i undef) (fun i t hi=> ?_) (fun i t hi=> ?_)
  ·have hil:=(List.getElem?_eq_some_iff.1 hi).1;have hiu:i<us.length:=by omega
   refine⟨c,rfl,hb,(Array.getElem?_eq_some_iff.1 hh).1,fun o x hx=> ?_⟩;have e:∀j,(⟨c,0,none⟩:Addr).add j=⟨c,j,none⟩:=fun j=>by unfold Addr.add;split<;>simp_all
   have hg:us[i]? =some (us.getD i undef):=by rw [List.getElem?_eq_getElem hiu];simp [hiu]
   have h4:=h2'.cells (g:=c) rfl _ _ (Xa l us i o t _ x hi hg hx);rw [e] at h4;exact h4
  ·have hil:=(List.getElem?_eq_some_iff.1 hi).1;have hiu:i<us.length:=by omega
   refine(h3 i t _ hi ?_).mono (fun b _ hb=>hb.1);rw [List.getElem?_eq_getElem hiu];simp [hiu]
end
end Go.Proofs.YtnmalggmbeipaaaGreatDoor
