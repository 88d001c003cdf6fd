/- A part of the proof. -/
import Derived.Test.YtnmalggmbeipaaaGreatDoorSa
import Derived.Lib.SmallJoins
import Derived.Maps.AppendAt
namespace Go.Proofs.YtnmalggmbeipaaaGreatDoor.Reg
section
open Go Go.RowKit
structure Blk where
 shape:Nat->Value
 ty:TypeId
 first:Array Value
abbrev Told:=Value ⊕ Blk
abbrev Fill:=Nat×Nat×Array Value
def now(fills:List Fill)(j:Nat)(c:Blk)(listed:Array Bool):Array Value:=
 match fills.find? (fun f=>f.2.1==j) with
 |some f=>if listed.getD f.1 false=true then f.2.2 else c.first
 |none=>c.first
section
variable {P:Program} {ops:Array Oper} {Q:Exit->Act->World->Prop}
structure Inv(ops:Array Oper)(told:Nat->Told)(fills:List Fill)(a0:Act)(w0:World)(G:Nat->Nat)(listed:Array Bool)(a:Act)(w:World):Prop where
 size:listed.size=ops.size
 len:a.tmps.size=a0.tmps.size
 defers:a.defers=a0.defers
 old:∀d,(∀(i:Nat) (o:Oper),ops[i]? =some o->listed.getD i false=true->o.dst≠some d)->a.tmps[d]? =a0.tmps[d]?
 base:Below w0.heap.size w0 w
 val:∀(i:Nat) (o:Oper) d x,ops[i]? =some o->o.dst=some d->told i=.inl x->listed.getD i false=true->a.tmps[d]? =some x
 mem:∀(i:Nat) (o:Oper) d c,ops[i]? =some o->o.dst=some d->told i=.inr c->listed.getD i false=true->
  a.tmps[d]? =some (c.shape (G i))/\w0.heap.size<=G i/\w.heap[G i]? =some (.cells (now fills i c listed) c.ty)
 filled:∀f∈fills,listed.getD f.1 false=true->listed.getD f.2.1 false=true
 apart:∀(i j:Nat) (o p:Oper) d e c c',ops[i]? =some o->o.dst=some d->told i=.inr c->listed.getD i false=true->
  ops[j]? =some p->p.dst=some e->told j=.inr c'->listed.getD j false=true->i≠j->G i≠G j
def Yields(P:Program)(o:Oper)(A:Act)(w:World)(R:Value->World->Prop):Prop:=
 match (execOp A.eval o).run P w with
 | .ok (.value v) w'=>R v w'
 | .ok .skip w'=>R undef w'
 | .ok (.enter f args) w'=>Calls P f args w' fun e w''=>∃v,e=.returned v/\R v w''
 |_=>False
theorem Yields.wp{o:Oper}{A:Act}{w:World}{R:Value->World->Prop}{K:Act->World->Prop}(h:Yields P o A w R)(hk:∀v w',R v w'->K (A.put o.dst v) w'):o.wp P A w K Q:=by
 unfold Yields at h;unfold Oper.wp;generalize (execOp A.eval o).run P w=r at*
 cases r with
 |ok n w'=>
  cases n<;>simp only [Oper.upon] at h ⊢
  case value v=>exact hk _ _ h
  case skip=>exact hk _ _ h
  case enter f args=>
   exact h.mono fun e w'' ⟨v,he,hr⟩=>by subst he;exact hk _ _ hr
 |halt x w'=>exact h.elim
def Good(told:Nat->Told)(k:Nat)(w:World)(v:Value)(w':World):Prop:=
 match told k with
 | .inl x=>v=x/\Below w.heap.size w w'
 | .inr c=>∃g,v=c.shape g/\w.heap.size<=g/\Below w.heap.size w w'/\w'.heap[g]? =some (.cells c.first c.ty)
def Filled(g:Nat)(cs:Array Value)(ty:TypeId)(w w':World):Prop:=
 w'.os=w.os/\w'.tape=w.tape/\w'.output=w.output/\w'.heap.size=w.heap.size/\(∀b,b≠g->w'.heap[b]? =w.heap[b]?)/\w'.heap[g]? =some (.cells cs ty)
def OpOK(P:Program)(ops:Array Oper)(told:Nat->Told)(fills:List Fill)(a0:Act)(w0:World)(k:Nat)(o:Oper):Prop:=
 ∀(G:Nat->Nat) (listed:Array Bool) (A:Act) (w:World),Inv ops told fills a0 w0 G listed A w->(∀e∈o.after,Region.binds .any e=true->listed.getD e.on false=true)->
  match fills.find? (fun f=>f.1==k) with
  |some f=>Region.wanted o (yielded ops A.tmps)=true/\o.dst=none/\∃c p d,told f.2.1=.inr c/\ops[f.2.1]? =some p/\p.dst=some d/\listed.getD f.2.1 false=true/\Yields P o A w fun _ w'=>Filled (G f.2.1) f.2.2 c.ty w w'
  |none=>(Region.wanted o (yielded ops A.tmps)=true/\Yields P o A w (Good told k w))\/(Region.wanted o (yielded ops A.tmps)=false/\told k=.inl undef)
theorem put_same{a:Act}{d:Tmp}{v:Value}(h:d<a.tmps.size):(a.put (some d) v).tmps[d]? =some v:=by
 simp [Act.put,h]
theorem put_other{a:Act}{x:Option Tmp}{d:Tmp}{v:Value}(h:x≠some d):(a.put x v).tmps[d]? =a.tmps[d]? :=by
 cases x with
 |none=>rfl
 |some y=>simp only [Act.put];rw [Array.getElem?_setIfInBounds_ne];intro e;exact h (by rw [e])
theorem put_size{a:Act}{x:Option Tmp}{v:Value}:(a.put x v).tmps.size=a.tmps.size:=by cases x<;>simp [Act.put]
theorem put_defers{a:Act}{x:Option Tmp}{v:Value}:(a.put x v).defers=a.defers:=by cases x<;>rfl
theorem set_true{listed:Array Bool}{i j:Nat}(h:(listed.setIfInBounds i true).getD j false=true):j=i\/listed.getD j false=true:=by
 by_cases e:i=j
 ·exact .inl e.symm
 ·rw [getD_set_ne false e] at h;exact .inr h
theorem now_other{fills:List Fill}{k:Nat}(hk:∀f∈fills,f.1≠k)(j:Nat)(c:Blk)(listed:Array Bool):now fills j c (listed.setIfInBounds k true)=now fills j c listed:=by
 unfold now
 split
 ·rename_i f hf
  rw [getD_set_ne false (fun e=>hk f (List.mem_of_find?_eq_some hf) e.symm)]
 ·rfl
variable {told:Nat->Told} {fills:List Fill} {a0:Act} {w0:World}
theorem set_self{listed:Array Bool}{k:Nat}(h:k<listed.size):(listed.setIfInBounds k true).getD k false=true:=by
 simp [h]
theorem un_false{listed:Array Bool}{k:Nat}(h:listed.getD k true=false):¬listed.getD k false=true:=by
 intro h1
 rcases Nat.lt_or_ge k listed.size with hl|hl
 ·simp [hl] at h h1;rw [h] at h1;cases h1
 ·simp [Array.getElem?_eq_none hl] at h1
theorem size_of_get{w:World}{g:Nat}{o:Obj}(h:w.heap[g]? =some o):g<w.heap.size:=by
 rcases Nat.lt_or_ge g w.heap.size with hl|hl
 ·exact hl
 ·rw [Array.getElem?_eq_none hl] at h;cases h
theorem old_step{G:Nat->Nat}{listed:Array Bool}{A:Act}{w:World}{k:Nat}{o:Oper}{v:Value}(ho:ops[k]? =some o)(hI:Inv ops told fills a0 w0 G listed A w):
  ∀d,(∀(i:Nat) (o:Oper),ops[i]? =some o->(listed.setIfInBounds k true).getD i false=true->o.dst≠some d)->(A.put o.dst v).tmps[d]? =a0.tmps[d]? :=by
 intro d hdd
 have hkn:k<listed.size:=by
  rw [hI.size]
  rcases Nat.lt_or_ge k ops.size with hl|hl
  ·exact hl
  ·rw [Array.getElem?_eq_none hl] at ho;cases ho
 rw [put_other (hdd k o ho (set_self hkn))];refine hI.old d fun i o' ho' hl=>hdd i o' ho' ?_
 exact getD_set_true hl
theorem step_plain{G:Nat->Nat}{listed:Array Bool}{A:Act}{w:World}{k:Nat}{o:Oper}(ho:ops[k]? =some o)
  (hd:∀(i j:Nat) (o p:Oper) d,ops[i]? =some o->ops[j]? =some p->o.dst=some d->p.dst=some d->i=j) (hs:∀(i:Nat) (o:Oper) d,ops[i]? =some o->o.dst=some d->d<a0.tmps.size)
  (hk:∀f∈fills,f.1≠k) (hI:Inv ops told fills a0 w0 G listed A w) (hun:¬listed.getD k false=true) (hin:k<listed.size) (v:Value) (w':World) (hg:Good told k w v w'):
  ∃G',Inv ops told fills a0 w0 G' (listed.setIfInBounds k true) (A.put o.dst v) w':=by
 unfold Good at hg;have hsz:(listed.setIfInBounds k true).size=ops.size:=by simpa using hI.size
 have hfil:∀f∈fills,(listed.setIfInBounds k true).getD f.1 false=true->(listed.setIfInBounds k true).getD f.2.1 false=true:=by
  intro f hf hl;have hcase:=set_true hl;clear hl
  rcases hcase with e|hl
  ·exact absurd e (hk f hf)
  ·exact getD_set_true (hI.filled f hf hl)
 cases ht:told k with
 |inl x=>
  simp only [ht] at hg;obtain⟨rfl,hb⟩:=hg;refine⟨G,hsz,put_size.trans hI.len,put_defers.trans hI.defers,old_step ho hI,hI.base.trans (hb.mono hI.base.size),?_,?_,hfil,?_⟩
  ·intro i p d x hp hpd hx hl;have hcase:=set_true hl;clear hl
   rcases hcase with rfl|hl
   ·rw [ho] at hp;obtain rfl:=Option.some.inj hp;rw [ht] at hx;obtain rfl:=Sum.inl.inj hx;rw [hpd];exact put_same (by rw [hI.len];exact hs i o d ho hpd)
   ·rw [put_other (fun e=>by rcases hd i k p o d hp ho hpd e with rfl;exact hun hl)];exact hI.val i p d x hp hpd hx hl
  ·intro i p d c hp hpd hc hl;have hcase:=set_true hl;clear hl
   rcases hcase with rfl|hl
   ·rw [ht] at hc;cases hc
   ·obtain⟨m1,m2,m3⟩:=hI.mem i p d c hp hpd hc hl;refine⟨?_,m2,?_⟩
    ·rw [put_other (fun e=>by rcases hd i k p o d hp ho hpd e with rfl;exact hun hl)];exact m1
    ·rw [now_other hk,hb.block _ (size_of_get m3)];exact m3
  ·intro i j p q d e c c' hp hpd hc hl hq hqd hc' hl' hne;have hcase:=set_true hl;clear hl
   rcases hcase with rfl|hl
   ·rw [ht] at hc;cases hc
   ·have hcase:=set_true hl';clear hl'
    rcases hcase with rfl|hl'
    ·rw [ht] at hc';cases hc'
    ·exact hI.apart i j p q d e c c' hp hpd hc hl hq hqd hc' hl' hne
 |inr c0=>
  simp only [ht] at hg;obtain⟨g,rfl,hg0,hb,hgc⟩:=hg
  have hnow:now fills k c0 (listed.setIfInBounds k true)=c0.first:=by
   rw [now_other hk];unfold now
   split
   ·rename_i f hf
    have hm:=List.mem_of_find?_eq_some hf;have h2:=List.find?_some hf;simp only [beq_iff_eq] at h2;rw [if_neg];intro hl;have:=hI.filled f hm hl;rw [h2] at this;exact hun this
   ·rfl
  refine⟨fun i=>if i=k then g else G i,hsz,put_size.trans hI.len,put_defers.trans hI.defers,old_step ho hI,hI.base.trans (hb.mono hI.base.size),?_,?_,hfil,?_⟩
  ·intro i p d x hp hpd hx hl;have hcase:=set_true hl;clear hl
   rcases hcase with rfl|hl
   ·rw [ht] at hx;cases hx
   ·rw [put_other (fun e=>by rcases hd i k p o d hp ho hpd e with rfl;exact hun hl)];exact hI.val i p d x hp hpd hx hl
  ·intro i p d c hp hpd hc hl;have hcase:=set_true hl;clear hl
   rcases hcase with rfl|hl
   ·rw [ho] at hp;obtain rfl:=Option.some.inj hp;rw [ht] at hc;obtain rfl:=Sum.inr.inj hc;simp only [if_true];refine⟨by rw [hpd];exact put_same (by rw [hI.len];exact hs i o d ho hpd),Nat.le_trans hI.base.size hg0,?_⟩;rw [hnow];exact hgc
   ·have hik:i≠k:=fun e=>by subst e;exact hun hl
    obtain⟨m1,m2,m3⟩:=hI.mem i p d c hp hpd hc hl;simp only [if_neg hik];refine⟨?_,m2,?_⟩
    ·rw [put_other (fun e=>by rcases hd i k p o d hp ho hpd e with rfl;exact hun hl)];exact m1
    ·rw [now_other hk,hb.block _ (size_of_get m3)];exact m3
  ·intro i j p q d e c c' hp hpd hc hl hq hqd hc' hl' hne;have hcase:=set_true hl;clear hl
   rcases hcase with rfl|hl
   ·have hcase:=set_true hl';clear hl'
    rcases hcase with rfl|hl'
    ·exact absurd rfl hne
    ·have hjk:j≠i:=Ne.symm hne;simp only [if_true,if_neg hjk];have:=size_of_get (hI.mem j q e c' hq hqd hc' hl').2.2;omega
   ·have hik:i≠k:=fun e=>by subst e;exact hun hl
    have hcase:=set_true hl';clear hl'
    rcases hcase with rfl|hl'
    ·simp only [if_true,if_neg hik];have:=size_of_get (hI.mem i p d c hp hpd hc hl).2.2;omega
    ·have hjk:j≠k:=fun e=>by subst e;exact hun hl'
     simp only [if_neg hik,if_neg hjk];exact hI.apart i j p q d e c c' hp hpd hc hl hq hqd hc' hl' hne
theorem step_fill{G:Nat->Nat}{listed:Array Bool}{A:Act}{w:World}{k:Nat}{o:Oper}(ho:ops[k]? =some o)(hdst:o.dst=none)
  (u1:∀f∈fills,∀f'∈fills,f.1=f'.1->f=f') (u2:∀f∈fills,∀f'∈fills,f.2.1=f'.2.1->f=f')
  (f:Fill) (hf:f∈fills) (hfk:f.1=k) (c:Blk) (p:Oper) (d:Tmp) (hc:told f.2.1=.inr c) (hp:ops[f.2.1]? =some p) (hpd:p.dst=some d) (hl:listed.getD f.2.1 false=true)
  (hI:Inv ops told fills a0 w0 G listed A w) (hin:k<listed.size) (w':World) (hg:Filled (G f.2.1) f.2.2 c.ty w w'):
  ∃G',Inv ops told fills a0 w0 G' (listed.setIfInBounds k true) A w':=by
 obtain⟨g1,g2,g3,g4,g5,g6⟩:=hg;obtain⟨m1,m2,m3⟩:=hI.mem _ p d c hp hpd hc hl
 have hold:∀d,(∀(i:Nat) (o:Oper),ops[i]? =some o->(listed.setIfInBounds k true).getD i false=true->o.dst≠some d)->A.tmps[d]? =a0.tmps[d]? :=
  fun d hdd=>hI.old d fun i o' ho' hl=>hdd i o' ho' (getD_set_true hl)
 refine⟨G,by simpa using hI.size,hI.len,hI.defers,hold,?_,?_,?_,?_,?_⟩
 ·exact⟨g1.trans hI.base.os,g2.trans hI.base.tape,g3.trans hI.base.output,by rw [g4];exact hI.base.size,fun b hb=>(g5 b (by omega)).trans (hI.base.block b hb)⟩
 ·intro i q e x hq hqe hx hli;have hcase:=set_true hli;clear hli
  rcases hcase with rfl|hli
  ·rw [ho] at hq;obtain rfl:=Option.some.inj hq;rw [hdst] at hqe;cases hqe
  ·exact hI.val i q e x hq hqe hx hli
 ·intro i q e c' hq hqe hc' hli;have hcase:=set_true hli;clear hli
  rcases hcase with rfl|hli
  ·rw [ho] at hq;obtain rfl:=Option.some.inj hq;rw [hdst] at hqe;cases hqe
  ·obtain⟨n1,n2,n3⟩:=hI.mem i q e c' hq hqe hc' hli;refine⟨n1,n2,?_⟩
   by_cases hij:i=f.2.1
   ·subst hij;rw [hc] at hc';obtain rfl:=Sum.inr.inj hc';rw [g6];congr 2;unfold now
    split
    ·rename_i f' hf'
     have h2:=List.find?_some hf';simp only [beq_iff_eq] at h2;have:=u2 f hf f' (List.mem_of_find?_eq_some hf') h2.symm;subst this;rw [if_pos (by rw [hfk];exact set_self hin)]
    ·rename_i hn
     exact absurd (List.find?_eq_none.1 hn f hf) (by simp)
   ·rw [g5 _ (hI.apart i f.2.1 q p e d c' c hq hqe hc' hli hp hpd hc hl hij),n3];congr 2;unfold now
    split
    ·rename_i f' hf'
     have h2:=List.find?_some hf';simp only [beq_iff_eq] at h2
     have hne:k≠f'.1:=fun e=>hij (by
      have:=u1 f hf f' (List.mem_of_find?_eq_some hf') (hfk.trans e)
      subst this;exact h2.symm)
     rw [getD_set_ne false hne]
    ·rfl
 ·intro f' hf' hl';have hcase:=set_true hl';clear hl'
  rcases hcase with e|hl'
  ·have:=u1 f hf f' hf' (hfk.trans e.symm);subst this;exact getD_set_true hl
  ·exact getD_set_true (hI.filled f' hf' hl')
 ·intro i j q r d e c c' hq hqd hc hli hr hre hc' hlj hne;have hcase:=set_true hli;clear hli
  rcases hcase with rfl|hli
  ·rw [ho] at hq;obtain rfl:=Option.some.inj hq;rw [hdst] at hqd;cases hqd
  ·have hcase:=set_true hlj;clear hlj
   rcases hcase with rfl|hlj
   ·rw [ho] at hr;obtain rfl:=Option.some.inj hr;rw [hdst] at hre;cases hre
   ·exact hI.apart i j q r d e c c' hq hqd hc hli hr hre hc' hlj hne
def left(n:Nat)(listed:Array Bool):List Nat:=(List.range n).filter fun i=> !listed.getD i true
theorem left_lt{n k:Nat}{listed:Array Bool}(hk:k<n)(hn:listed.size=n)(hun:listed.getD k true=false):(left n (listed.setIfInBounds k true)).length<(left n listed).length:=by
 have e:left n (listed.setIfInBounds k true)=(left n listed).filter fun i=> !(listed.setIfInBounds k true).getD i true:=by
  unfold left;rw [List.filter_filter];refine List.filter_congr fun i _=> ?_
  by_cases hik:k=i
  ·subst hik;have:(listed.setIfInBounds k true).getD k true=true:=by simp [hn,hk]
   simp [this]
  ·rw [getD_set_ne true hik];simp
 rw [e,List.length_filter_lt_length_iff_exists];refine⟨k,?_,?_⟩
 ·unfold left;rw [List.mem_filter];exact⟨List.mem_range.2 hk,by rw [hun];rfl⟩
 ·have:(listed.setIfInBounds k true).getD k true=true:=by simp [hn,hk]
  rw [this];simp
theorem lt_of_get{k:Nat}{o:Oper}(h:ops[k]? =some o):k<ops.size:=by
 rcases Nat.lt_or_ge k ops.size with hl|hl
 ·exact hl
 ·rw [Array.getElem?_eq_none hl] at h;cases h
theorem all_listed{listed:Array Bool}(hn:listed.size=ops.size)(back:∀(k:Nat) (o:Oper),ops[k]? =some o->∀e∈o.after,Region.binds .any e=true->e.on<k)(hr:Region.ready .any ops listed= []):listed=Array.replicate ops.size true:=by
 have all:∀k,k<ops.size->listed.getD k true=true:=by
  intro k
  induction k using Nat.strongRecOn with
  |ind k ih=>
   intro hk
   cases hx:listed.getD k true with
   |true=>rfl
   |false=>
    exfalso
    have:k∈Region.ready .any ops listed:=by
     rw [mem_ready];refine⟨hx,ops[k],Array.getElem?_eq_getElem hk,fun e he hbi=> ?_⟩;have hlt:=back k _ (Array.getElem?_eq_getElem hk) e he hbi;have:=ih e.on hlt (by omega);have hs:e.on<listed.size:=by omega
     simp [hs] at this ⊢;exact this
    rw [hr] at this
    cases this
 apply Array.ext
 ·simpa using hn
 ·intro i h1 h2;have:=all i (by omega);simp [h1] at this;simp [this]
theorem wpAny_posts{told:Nat->Told}{fills:List Fill}{a:Act}{w0:World}
  (hd:∀(i j:Nat) (o p:Oper) d,ops[i]? =some o->ops[j]? =some p->o.dst=some d->p.dst=some d->i=j) (hs:∀(i:Nat) (o:Oper) d,ops[i]? =some o->o.dst=some d->d<a.tmps.size)
  (u1:∀f∈fills,∀f'∈fills,f.1=f'.1->f=f') (u2:∀f∈fills,∀f'∈fills,f.2.1=f'.2.1->f=f')
  (back:∀(k:Nat) (o:Oper),ops[k]? =some o->∀e∈o.after,Region.binds .any e=true->e.on<k)
  (hok:∀(k:Nat) (o:Oper),ops[k]? =some o->OpOK P ops told fills a w0 k o)
  (hend:∀G a' w',Inv ops told fills a w0 G (Array.replicate ops.size true) a' w'->Q .normal a' w'):
  ∀(fuel:Nat) (G:Nat->Nat) (listed:Array Bool) (A:Act) (w:World),Inv ops told fills a w0 G listed A w->(left ops.size listed).length<=fuel->wpAny P .any ops Q fuel listed A w
 |0,G,listed,A,w,hI,hf=>by
  have hnil:left ops.size listed= []:=List.length_eq_zero_iff.1 (Nat.le_zero.1 hf)
  have hr:Region.ready .any ops listed= []:=by
   rw [List.eq_nil_iff_forall_not_mem];intro k hk;obtain⟨h0,o,ho,_⟩:=mem_ready.1 hk
   have:k∈left ops.size listed:=by
    unfold left;rw [List.mem_filter];exact⟨List.mem_range.2 (lt_of_get ho),by rw [h0];rfl⟩
   rw [hnil] at this;cases this
  exact⟨hr,hend G A w (by have:=all_listed hI.size back hr;rw [<-this];exact hI)⟩
 |fuel+1,G,listed,A,w,hI,hf=>by
  refine⟨fun hr=>hend G A w (by have:=all_listed hI.size back hr;rw [<-this];exact hI),fun k hk=> ?_⟩;obtain⟨h0,o,ho,hall⟩:=mem_ready.1 hk;have hkn:k<ops.size:=lt_of_get ho;have hin:k<listed.size:=by rw [hI.size];exact hkn
  have hun:=un_false h0;have hl:=left_lt hkn hI.size h0;have hop:=hok k o ho G listed A w hI hall
  have next:∀(A':Act) (w':World),(∃G',Inv ops told fills a w0 G' (listed.setIfInBounds k true) A' w')->wpAny P .any ops Q fuel (listed.setIfInBounds k true) A' w':=
   fun A' w' ⟨G',h'⟩=>wpAny_posts hd hs u1 u2 back hok hend fuel G' _ A' w' h' (by omega)
  unfold wpOp;simp only [ho]
  cases hfi:fills.find? (fun f=>f.1==k) with
  |some f=>
   rw [hfi] at hop;obtain⟨hw,hdst,c,p,d,hc,hp,hpd,hlf,hy⟩:=hop;have hfm:=List.mem_of_find?_eq_some hfi;have hfk:f.1=k:=by have:=List.find?_some hfi;simpa using this
   rw [if_pos hw];refine .inl (hy.wp fun v w' hg=>next _ _ ?_);rw [hdst];exact step_fill ho hdst u1 u2 f hfm hfk c p d hc hp hpd hlf hI hin w' hg
  |none=>
   rw [hfi] at hop
   have hkf:∀f∈fills,f.1≠k:=fun f hf e=>by
    have:=List.find?_eq_none.1 hfi f hf;simp [e] at this
   rcases hop with ⟨hw,hy⟩|⟨hw,hx⟩
   ·rw [if_pos hw];exact .inl (hy.wp fun v w' hg=>next _ _ (step_plain ho hd hs hkf hI hun hin v w' hg))
   ·rw [if_neg (by rw [hw];exact Bool.false_ne_true)];exact next _ _ (step_plain ho hd hs hkf hI hun hin undef w (by unfold Good;rw [hx];exact⟨rfl,Below.refl _ _⟩))
theorem wp_region_posts{id:Nat}{a:Act}{w:World}(told:Nat->Told)(fills:List Fill)(hm:P.follows .mixedOrders=true)
  (hd:∀(i j:Nat) (o p:Oper) d,ops[i]? =some o->ops[j]? =some p->o.dst=some d->p.dst=some d->i=j) (hs:∀(i:Nat) (o:Oper) d,ops[i]? =some o->o.dst=some d->d<a.tmps.size)
  (u1:∀f∈fills,∀f'∈fills,f.1=f'.1->f=f') (u2:∀f∈fills,∀f'∈fills,f.2.1=f'.2.1->f=f')
  (back:∀(k:Nat) (o:Oper),ops[k]? =some o->∀e∈o.after,Region.binds .any e=true->e.on<k)
  (hok:∀(k:Nat) (o:Oper),ops[k]? =some o->OpOK P ops told fills a w.drew k o)
  (hend:∀G a' w',Inv ops told fills a w.drew G (Array.replicate ops.size true) a' w'->Q .normal a' w'):(Code.region id ops true).wp P Q a w:=by
 refine wp_region_any hm (wpAny_posts hd hs u1 u2 back hok hend _ (fun _=>0) _ _ _ ?_ ?_)
 ·refine⟨by simp,rfl,rfl,fun _ _=>rfl,Below.refl _ _,?_,?_,?_,?_⟩
  ·intro i o d x ho _ _ hl;simp [lt_of_get ho] at hl
  ·intro i o d c ho _ _ hl;simp [lt_of_get ho] at hl
  ·intro f _ hl
   rcases Nat.lt_or_ge f.1 ops.size with h|h
   ·simp [h] at hl
   ·simp [h] at hl
  ·intro i j o p d e c c' ho _ _ hl;simp [lt_of_get ho] at hl
 ·unfold left;exact Nat.le_trans (List.length_filter_le _ _) (by simp)
def dstAt(ops:Array Oper)(i:Nat):Option Tmp:=(ops[i]?).bind (·.dst)
def checkB(ops:Array Oper)(n:Nat):Bool:=
 ((List.range ops.size).all fun i=>(List.range ops.size).all fun j=>i==j||(dstAt ops i).isNone||dstAt ops i !=dstAt ops j) &&
 ((List.range ops.size).all fun i=>match dstAt ops i with|some d=>decide (d<n)|none=>true) &&
 ((List.range ops.size).all fun i=>match ops[i]? with|some o=>o.after.all (fun e=> !Region.binds .any e||decide (e.on<i))|none=>true)
theorem dstAt_of{i:Nat}{o:Oper}(h:ops[i]? =some o):dstAt ops i=o.dst:=by unfold dstAt;rw [h];rfl
theorem checkB_spec{n:Nat}(h:checkB ops n=true):
  (∀(i j:Nat) (o p:Oper) d,ops[i]? =some o->ops[j]? =some p->o.dst=some d->p.dst=some d->i=j)/\
  (∀(i:Nat) (o:Oper) d,ops[i]? =some o->o.dst=some d->d<n)/\
  (∀(k:Nat) (o:Oper),ops[k]? =some o->∀e∈o.after,Region.binds .any e=true->e.on<k):=by
 unfold checkB at h;simp only [Bool.and_eq_true,List.all_eq_true,List.mem_range] at h;obtain⟨⟨h1,h2⟩,h3⟩:=h;refine⟨?_,?_,?_⟩
 ·intro i j o p d ho hp hd1 hd2;have:=h1 i (lt_of_get ho) j (lt_of_get hp);rw [dstAt_of ho,dstAt_of hp,hd1,hd2] at this;simpa using this
 ·intro i o d ho hd1;have:=h2 i (lt_of_get ho);rw [dstAt_of ho,hd1] at this;simpa using this
 ·intro k o ho e he hbi;have:=h3 k (lt_of_get ho);rw [ho] at this;simp only [Array.all_eq_true_iff_forall_mem,Bool.or_eq_true,Bool.not_eq_true',decide_eq_true_eq] at this
  rcases this e he with h|h
  ·rw [hbi] at h;cases h
  ·exact h
def valOf(told:Nat->Told)(G:Nat->Nat)(i:Nat):Value:=
 match told i with| .inl x=>x| .inr c=>c.shape (G i)
def finalTmps(ops:Array Oper)(told:Nat->Told)(G:Nat->Nat):List Nat->Array Value->Array Value
 | [],ts=>ts
 |i::r,ts=>finalTmps ops told G r (match dstAt ops i with|some d=>ts.setIfInBounds d (valOf told G i)|none=>ts)
theorem finalTmps_none(told:Nat->Told)(G:Nat->Nat)(d:Tmp):∀(l:List Nat) (ts:Array Value),(∀i∈l,dstAt ops i≠some d)->(finalTmps ops told G l ts)[d]? =ts[d]?
 | [],_,_=>rfl
 |i::r,ts,h=>by
  unfold finalTmps;rw [finalTmps_none told G d r _ (fun j hj=>h j (by simp [hj]))];have:=h i (by simp)
  split
  ·rename_i e he
   rw [Array.getElem?_setIfInBounds_ne];intro h';subst h';exact this he
  ·rfl
theorem finalTmps_at(told:Nat->Told)(G:Nat->Nat)(d:Tmp)(k:Nat)(hk:dstAt ops k=some d):∀(l:List Nat) (ts:Array Value),k∈l->d<ts.size->(∀i∈l,dstAt ops i=some d->i=k)->(finalTmps ops told G l ts)[d]? =some (valOf told G k)
 | [],_,h,_,_=>by cases h
 |i::r,ts,h,hs,hu=>by
  unfold finalTmps
  by_cases hr:k∈r
  ·refine finalTmps_at told G d k hk r _ hr ?_ (fun j hj=>hu j (by simp [hj]))
   split<;>simp [hs]
  ·have hik:i=k:=by
    cases h with
    |head=>rfl
    |tail _ h=>exact absurd h hr
   subst hik;rw [finalTmps_none told G d r _ (fun j hj e=>by have:=hu j (by simp [hj]) e;subst this;exact hr hj),hk];simp [hs]
theorem Inv.final{told:Nat->Told}{fills:List Fill}{a0:Act}{w0:World}{G:Nat->Nat}{A:Act}{w:World}(hB:checkB ops a0.tmps.size=true)(h:Inv ops told fills a0 w0 G (Array.replicate ops.size true) A w):
  A.tmps=finalTmps ops told G (List.range ops.size) a0.tmps:=by
 obtain⟨hd,hs,_⟩:=checkB_spec hB;apply Array.ext_getElem?;intro d
 by_cases he:∃(i:Nat) (o:Oper),ops[i]? =some o/\o.dst=some d
 ·obtain⟨i,o,ho,hod⟩:=he;have hin:=lt_of_get ho;have hl:(Array.replicate ops.size true).getD i false=true:=by simp [hin]
  rw [finalTmps_at told G d i (by rw [dstAt_of ho];exact hod) _ _ (List.mem_range.2 hin) (hs i o d ho hod) (fun j hj e=>by
   have hj':=List.mem_range.1 hj;have hoj:ops[j]? =some ops[j]:=Array.getElem?_eq_getElem hj';rw [dstAt_of hoj] at e
   exact hd j i _ o d hoj ho e hod)]
  unfold valOf
  cases ht:told i with
  |inl x=>exact h.val i o d x ho hod ht hl
  |inr c=>exact(h.mem i o d c ho hod ht hl).1
 ·rw [finalTmps_none told G d _ _ (fun i hi e=>by
   have hi':=List.mem_range.1 hi;have hoi:ops[i]? =some ops[i]:=Array.getElem?_eq_getElem hi';rw [dstAt_of hoi] at e
   exact he ⟨i,_,hoi,e⟩)]
  exact h.old d fun i o ho _ e=>he ⟨i,o,ho,e⟩
variable {told:Nat->Told} {fills:List Fill} {a0:Act} {w0:World} {G:Nat->Nat} {listed:Array Bool} {A:Act} {w:World}
theorem Inv.ev(h:Inv ops told fills a0 w0 G listed A w){i d:Nat}{x:Value}(hi:dstAt ops i=some d)(ht:told i=.inl x)(hl:listed.getD i false=true):A.tmps[d]? =some x:=by
 unfold dstAt at hi
 cases ho:ops[i]? with
 |none=>rw [ho] at hi;cases hi
 |some o=>rw [ho] at hi;exact h.val i o d x ho hi ht hl
theorem Inv.evm(h:Inv ops told fills a0 w0 G listed A w){i d:Nat}{c:Blk}(hi:dstAt ops i=some d)(ht:told i=.inr c)(hl:listed.getD i false=true):
  A.tmps[d]? =some (c.shape (G i))/\w0.heap.size<=G i/\w.heap[G i]? =some (.cells (now fills i c listed) c.ty):=by
 unfold dstAt at hi
 cases ho:ops[i]? with
 |none=>rw [ho] at hi;cases hi
 |some o=>rw [ho] at hi;exact h.mem i o d c ho hi ht hl
theorem Inv.evo(h:Inv ops told fills a0 w0 G listed A w){d:Nat}{x:Value}(hno:(ops.all fun o=>o.dst !=some d)=true)(h0:a0.tmps[d]? =some x):A.tmps[d]? =some x:=by
 rw [h.old d fun i o ho _ e=> ?_]
 ·exact h0
 ·have:=Array.all_eq_true_iff_forall_mem.1 hno o (Array.mem_of_getElem? ho);rw [e] at this;simp at this
theorem wanted_none{o:Oper}(h:o.guard=none):Region.wanted o (yielded ops A.tmps)=true:=by unfold Region.wanted;rw [h]
theorem wanted_some{o:Oper}{j d:Nat}{b c:Bool}(h:o.guard=some (j,b))(hj:dstAt ops j=some d)(hA:A.tmps[d]? =some (.bool c)):Region.wanted o (yielded ops A.tmps)=(c==b):=by
 unfold Region.wanted;rw [h];unfold dstAt at hj;simp only [yielded,hj,Option.bind_some,hA]
 cases b<;>cases c<;>rfl
theorem opOK_plain{k:Nat}{o:Oper}(hk:fills.find? (fun f=>f.1==k)=none)
  (h:∀(G:Nat->Nat) (listed:Array Bool) (A:Act) (w:World),Inv ops told fills a0 w0 G listed A w->(∀e∈o.after,Region.binds .any e=true->listed.getD e.on false=true)->
   (Region.wanted o (yielded ops A.tmps)=true/\Yields P o A w (Good told k w))\/(Region.wanted o (yielded ops A.tmps)=false/\told k=.inl undef)):OpOK P ops told fills a0 w0 k o:=by
 intro G listed A w hI hall;rw [hk];exact h G listed A w hI hall
theorem good_val{k:Nat}{x:Value}(ht:told k=.inl x){w:World}{v:Value}{w':World}(hv:v=x)(hb:Below w.heap.size w w'):Good told k w v w':=by
 unfold Good;rw [ht];exact⟨hv,hb⟩
theorem good_new{k:Nat}{c:Blk}(ht:told k=.inr c){w:World}{v:Value}{w':World}(hv:v=c.shape w.heap.size)(hw:w'=w.alloc (.cells c.first c.ty)):Good told k w v w':=by
 subst hw;unfold Good;rw [ht];refine⟨w.heap.size,hv,jN _,j3 _ _,?_⟩
 show(w.heap.push _)[w.heap.size]? =_
 simp
theorem opOK_fill{k:Nat}{o:Oper}{f:Fill}{c:Blk}{d:Tmp}(hk:fills.find? (fun f=>f.1==k)=some f)(hc:told f.2.1=.inr c)(hp:dstAt ops f.2.1=some d)(hdst:o.dst=none)(hg:o.guard=none)
  (he:(⟨f.2.1,.data⟩:Edge)∈o.after)
  (h:∀(G:Nat->Nat) (listed:Array Bool) (A:Act) (w:World),Inv ops told fills a0 w0 G listed A w->(∀e∈o.after,Region.binds .any e=true->listed.getD e.on false=true)->
   A.tmps[d]? =some (c.shape (G f.2.1))->(w.heap[G f.2.1]? =some (.cells c.first c.ty)\/w.heap[G f.2.1]? =some (.cells f.2.2 c.ty))->Yields P o A w fun _ w'=>Filled (G f.2.1) f.2.2 c.ty w w')
  (u2:∀f∈fills,∀f'∈fills,f.2.1=f'.2.1->f=f'):OpOK P ops told fills a0 w0 k o:=by
 intro G listed A w hI hall;rw [hk];unfold dstAt at hp
 cases ho:ops[f.2.1]? with
 |none=>rw [ho] at hp;cases hp
 |some p=>
  rw [ho] at hp;have hl:=hall _ he rfl;obtain⟨m1,_,m3⟩:=hI.mem f.2.1 p d c ho hp hc hl;refine⟨wanted_none hg,hdst,c,p,d,hc,ho,hp,hl,h G listed A w hI hall m1 ?_⟩;rw [m3];unfold now
  split
  ·rename_i f' hf'
   have h2:=List.find?_some hf';simp only [beq_iff_eq] at h2;have:=u2 f (List.mem_of_find?_eq_some hk) f' (List.mem_of_find?_eq_some hf') h2.symm;subst this
   split
   ·exact .inr rfl
   ·exact .inl rfl
  ·exact .inl rfl
theorem filled4{w:World}{g:Nat}{ty:TypeId}{x0 x1 x2 x3:Value}(h:w.heap[g]? =some (.cells #[x0,x1,x2,x3] ty))(v0 v1 v2 v3:Value):
  Filled g #[v0,v1,v2,v3] ty w ((((w.setCell ⟨g,0,none⟩ v0).setCell ⟨g,1,none⟩ v1).setCell ⟨g,2,none⟩ v2).setCell ⟨g,3,none⟩ v3):=by
 refine⟨rfl,rfl,rfl,by simp [World.setCell],fun b hb=> ?_,?_⟩
 ·rw [Below.heap_setCell _ _ _ _ hb,Below.heap_setCell _ _ _ _ hb,Below.heap_setCell _ _ _ _ hb,Below.heap_setCell _ _ _ _ hb]
 ·exact Joins.block_setCell (Joins.block_setCell (Joins.block_setCell (Joins.block_setCell h v0) v1) v2) v3
theorem cells4{w:World}{g:Nat}{ty:TypeId}{x0 x1 x2 x3:Value}(h:w.heap[g]? =some (.cells #[x0,x1,x2,x3] ty)):
  w.cell? ⟨g,0,none⟩=some x0/\w.cell? ⟨g,1,none⟩=some x1/\w.cell? ⟨g,2,none⟩=some x2/\w.cell? ⟨g,3,none⟩=some x3/\
  w.frozen? ⟨g,0,none⟩=false/\w.frozen? ⟨g,1,none⟩=false/\w.frozen? ⟨g,2,none⟩=false/\w.frozen? ⟨g,3,none⟩=false:=
 ⟨jC h 0,jC h 1,jC h 2,jC h 3,jU h 0,jU h 1,jU h 2,jU h 3⟩
def AllOK(P:Program)(ops:Array Oper)(told:Nat->Told)(fills:List Fill)(a0:Act)(w0:World):Nat->List Oper->Prop
 |_,[]=>True
 |k,o::r=>OpOK P ops told fills a0 w0 k o/\AllOK P ops told fills a0 w0 (k+1) r
theorem allOK_get:∀(l:List Oper) (k:Nat),AllOK P ops told fills a0 w0 k l->∀(i:Nat) (o:Oper),l[i]? =some o->OpOK P ops told fills a0 w0 (k+i) o
 | [],_,_,i,o,h=>by cases i<;>cases h
 |p::r,k,h,0,o,ho=>by
  obtain rfl:p=o:=by simpa using ho
  exact h.1
 |p::r,k,h,i+1,o,ho=>by
  have:=allOK_get r (k+1) h.2 i o (by simpa using ho);rw [show k+(i+1)=k+1+i by omega];exact this
theorem wp_region_told{id:Nat}{a:Act}{w:World}{l:List Oper}(told:Nat->Told)(fills:List Fill)(ks:List Nat)(hks:ks=List.range l.length)(hm:P.follows .mixedOrders=true)(hB:checkB l.toArray a.tmps.size=true)
  (u1:∀f∈fills,∀f'∈fills,f.1=f'.1->f=f') (u2:∀f∈fills,∀f'∈fills,f.2.1=f'.2.1->f=f')
  (hok:AllOK P l.toArray told fills a w.drew 0 l)
  (hend:∀G w',Inv l.toArray told fills a w.drew G (Array.replicate l.length true) {tmps:=finalTmps l.toArray told G ks a.tmps,defers:=a.defers} w'->Q .normal {tmps:=finalTmps l.toArray told G ks a.tmps,defers:=a.defers} w'):
  (Code.region id l.toArray true).wp P Q a w:=by
 subst hks;obtain⟨hd,hs,back⟩:=checkB_spec hB;refine wp_region_posts told fills hm hd hs u1 u2 back (fun k o ho=> ?_) (fun G a' w' hI=> ?_)
 ·have:=allOK_get l 0 hok k o (by simpa using ho);simpa using this
 ·have ht:=hI.final hB;have hdf:=hI.defers;obtain⟨ts,ds⟩:=a';simp only at ht hdf;subst ht hdf;simp only [List.size_toArray] at hI ⊢;exact hend G w' hI
theorem wn{o:Oper}{A:Act}(h:o.guard=none:=by rfl):Region.wanted o (yielded ops A.tmps)=true:=wanted_none h
theorem Inv.wo{told:Nat->Told}{fills:List Fill}{a0:Act}{w0:World}{G:Nat->Nat}{listed:Array Bool}{A:Act}{w:World}(h:Inv ops told fills a0 w0 G listed A w)(d:Nat){x:Value}(h0:a0.tmps[d]? =some x)(hno:(ops.all fun o=>o.dst !=some d)=true:=by kernel_rfl):A.tmps[d]? =some x:=h.evo hno h0
theorem la{α:Type}{l:List α}{i:Nat}:l.toArray[i]? =l[i]? :=List.getElem?_toArray
theorem lb{α:Type}{a:α}{l:List α}:(a::l)[0]? =some a:=List.getElem?_cons_zero
theorem lc{α:Type}{a:α}{l:List α}{i:Nat}:(a::l)[i+1]? =l[i]? :=List.getElem?_cons_succ
end
end
end Go.Proofs.YtnmalggmbeipaaaGreatDoor.Reg
namespace Go.Proofs.YtnmalggmbeipaaaGreatDoor.Reg
section
open Go Go.RowKit
section
variable {P:Program} {ops:Array Oper} {Q:Exit->Act->World->Prop}
structure InvS(ops:Array Oper)(told:Nat->Value)(S:Array Bool->World->Prop)(a0:Act)(listed:Array Bool)(a:Act)(w:World):Prop where
 size:listed.size=ops.size
 len:a.tmps.size=a0.tmps.size
 defers:a.defers=a0.defers
 old:∀d,(∀(i:Nat) (o:Oper),ops[i]? =some o->listed.getD i false=true->o.dst≠some d)->a.tmps[d]? =a0.tmps[d]?
 val:∀(i:Nat) (o:Oper) d,ops[i]? =some o->o.dst=some d->listed.getD i false=true->a.tmps[d]? =some (told i)
 st:S listed w
def OpOKS(P:Program)(ops:Array Oper)(told:Nat->Value)(S:Array Bool->World->Prop)(a0:Act)(k:Nat)(o:Oper):Prop:=
 ∀(listed:Array Bool) (A:Act) (w:World),InvS ops told S a0 listed A w->k<listed.size->listed.getD k false=false->(∀e∈o.after,Region.binds .any e=true->listed.getD e.on false=true)->
  (Region.wanted o (yielded ops A.tmps)=true/\Yields P o A w fun v w'=>v=told k/\S (listed.setIfInBounds k true) w')\/
  (Region.wanted o (yielded ops A.tmps)=false/\told k=undef/\S (listed.setIfInBounds k true) w)
theorem stepS{told:Nat->Value}{S:Array Bool->World->Prop}{a0:Act}{listed:Array Bool}{A:Act}{w w':World}{k:Nat}{o:Oper}(ho:ops[k]? =some o)
  (hd:∀(i j:Nat) (o p:Oper) d,ops[i]? =some o->ops[j]? =some p->o.dst=some d->p.dst=some d->i=j) (hs:∀(i:Nat) (o:Oper) d,ops[i]? =some o->o.dst=some d->d<a0.tmps.size)
  (h:InvS ops told S a0 listed A w) (hst:S (listed.setIfInBounds k true) w'):InvS ops told S a0 (listed.setIfInBounds k true) (A.put o.dst (told k)) w':=by
 have hin:k<listed.size:=by rw [h.size];exact lt_of_get ho
 refine⟨by simpa using h.size,by rw [put_size];exact h.len,by rw [put_defers];exact h.defers,?_,?_,hst⟩
 ·intro d hdd;rw [put_other (hdd k o ho (set_self hin))];exact h.old d fun i o' ho' hl=>hdd i o' ho' (getD_set_true hl)
 ·intro i p d hp hpd hl
  by_cases hod:o.dst=some d
  ·obtain rfl:=hd k i o p d ho hp hod hpd;rw [hod];exact put_same (by rw [h.len];exact hs k o d ho hod)
  ·rw [put_other hod]
   rcases set_true hl with e|hl'
   ·subst e;rw [ho] at hp;obtain rfl:=Option.some.inj hp;exact absurd hpd hod
   ·exact h.val i p d hp hpd hl'
theorem wpAny_postsS{told:Nat->Value}{S:Array Bool->World->Prop}{a:Act}
  (hd:∀(i j:Nat) (o p:Oper) d,ops[i]? =some o->ops[j]? =some p->o.dst=some d->p.dst=some d->i=j) (hs:∀(i:Nat) (o:Oper) d,ops[i]? =some o->o.dst=some d->d<a.tmps.size)
  (back:∀(k:Nat) (o:Oper),ops[k]? =some o->∀e∈o.after,Region.binds .any e=true->e.on<k)
  (hok:∀(k:Nat) (o:Oper),ops[k]? =some o->OpOKS P ops told S a k o)
  (hend:∀a' w',InvS ops told S a (Array.replicate ops.size true) a' w'->Q .normal a' w'):
  ∀(fuel:Nat) (listed:Array Bool) (A:Act) (w:World),InvS ops told S a listed A w->(left ops.size listed).length<=fuel->wpAny P .any ops Q fuel listed A w
 |0,listed,A,w,hI,hf=>by
  have hnil:left ops.size listed= []:=List.length_eq_zero_iff.1 (Nat.le_zero.1 hf)
  have hr:Region.ready .any ops listed= []:=by
   rw [List.eq_nil_iff_forall_not_mem];intro k hk;obtain⟨h0,o,ho,_⟩:=mem_ready.1 hk
   have:k∈left ops.size listed:=by
    unfold left;rw [List.mem_filter];exact⟨List.mem_range.2 (lt_of_get ho),by rw [h0];rfl⟩
   rw [hnil] at this;cases this
  exact⟨hr,hend A w (by have:=all_listed hI.size back hr;rw [<-this];exact hI)⟩
 |fuel+1,listed,A,w,hI,hf=>by
  refine⟨fun hr=>hend A w (by have:=all_listed hI.size back hr;rw [<-this];exact hI),fun k hk=> ?_⟩;obtain⟨h0,o,ho,hall⟩:=mem_ready.1 hk;have hkn:k<ops.size:=lt_of_get ho;have hin:k<listed.size:=by rw [hI.size];exact hkn
  have hun:=un_false h0;have hl:=left_lt hkn hI.size h0;have hop:=hok k o ho listed A w hI hin (by simpa using hun) hall
  have next:∀(A':Act) (w':World),InvS ops told S a (listed.setIfInBounds k true) A' w'->wpAny P .any ops Q fuel (listed.setIfInBounds k true) A' w':=
   fun A' w' h'=>wpAny_postsS hd hs back hok hend fuel _ A' w' h' (by omega)
  unfold wpOp;simp only [ho]
  rcases hop with ⟨hw,hy⟩|⟨hw,hx,hst⟩
  ·rw [if_pos hw];refine .inl (hy.wp fun v w' hg=> ?_);obtain⟨rfl,hst⟩:=hg;exact next _ _ (stepS ho hd hs hI hst)
  ·rw [if_neg (by rw [hw];exact Bool.false_ne_true)];have:=stepS (w':=w) ho hd hs hI hst;rw [hx] at this;exact next _ _ this
theorem InvS.final{told:Nat->Value}{S:Array Bool->World->Prop}{a0:Act}{A:Act}{w:World}(hB:checkB ops a0.tmps.size=true)(h:InvS ops told S a0 (Array.replicate ops.size true) A w):
  A.tmps=finalTmps ops (fun i=>.inl (told i)) (fun _=>0) (List.range ops.size) a0.tmps:=by
 obtain⟨hd,hs,_⟩:=checkB_spec hB;apply Array.ext_getElem?;intro d
 by_cases he:∃(i:Nat) (o:Oper),ops[i]? =some o/\o.dst=some d
 ·obtain⟨i,o,ho,hod⟩:=he;have hin:=lt_of_get ho;have hl:(Array.replicate ops.size true).getD i false=true:=by simp [hin]
  rw [finalTmps_at (fun i=>.inl (told i)) (fun _=>0) d i (by rw [dstAt_of ho];exact hod) _ _ (List.mem_range.2 hin) (hs i o d ho hod) (fun j hj e=>by
   have hj':=List.mem_range.1 hj;have hoj:ops[j]? =some ops[j]:=Array.getElem?_eq_getElem hj';rw [dstAt_of hoj] at e
   exact hd j i _ o d hoj ho e hod)]
  exact h.val i o d ho hod hl
 ·rw [finalTmps_none (fun i=>.inl (told i)) (fun _=>0) d _ _ (fun i hi e=>by
   have hi':=List.mem_range.1 hi;have hoi:ops[i]? =some ops[i]:=Array.getElem?_eq_getElem hi';rw [dstAt_of hoi] at e
   exact he ⟨i,_,hoi,e⟩)]
  exact h.old d fun i o ho _ e=>he ⟨i,o,ho,e⟩
theorem InvS.ev{told:Nat->Value}{S:Array Bool->World->Prop}{a0:Act}{listed:Array Bool}{A:Act}{w:World}(h:InvS ops told S a0 listed A w){i d:Nat}(hi:dstAt ops i=some d)(hl:listed.getD i false=true):A.tmps[d]? =some (told i):=by
 unfold dstAt at hi
 cases ho:ops[i]? with
 |none=>rw [ho] at hi;cases hi
 |some o=>rw [ho] at hi;exact h.val i o d ho hi hl
theorem InvS.evo{told:Nat->Value}{S:Array Bool->World->Prop}{a0:Act}{listed:Array Bool}{A:Act}{w:World}(h:InvS ops told S a0 listed A w){d:Nat}{x:Value}(hno:(ops.all fun o=>o.dst !=some d)=true)(h0:a0.tmps[d]? =some x):A.tmps[d]? =some x:=by
 rw [h.old d fun i o ho _ e=> ?_]
 ·exact h0
 ·have:=Array.all_eq_true_iff_forall_mem.1 hno o (Array.mem_of_getElem? ho);rw [e] at this;simp at this
def AllOKS(P:Program)(ops:Array Oper)(told:Nat->Value)(S:Array Bool->World->Prop)(a0:Act):Nat->List Oper->Prop
 |_,[]=>True
 |k,o::r=>OpOKS P ops told S a0 k o/\AllOKS P ops told S a0 (k+1) r
theorem allOKS_get{told:Nat->Value}{S:Array Bool->World->Prop}{a0:Act}:∀(l:List Oper) (k:Nat),AllOKS P ops told S a0 k l->∀(i:Nat) (o:Oper),l[i]? =some o->OpOKS P ops told S a0 (k+i) o
 | [],_,_,i,o,h=>by cases i<;>cases h
 |p::r,k,h,0,o,ho=>by
  obtain rfl:p=o:=by simpa using ho
  exact h.1
 |p::r,k,h,i+1,o,ho=>by
  have:=allOKS_get r (k+1) h.2 i o (by simpa using ho);rw [show k+(i+1)=k+1+i by omega];exact this
theorem wp_region_S{id:Nat}{a:Act}{w:World}{l:List Oper}(told:Nat->Value)(S:Array Bool->World->Prop)(ks:List Nat)(hks:ks=List.range l.length)(hm:P.follows .mixedOrders=true)(hB:checkB l.toArray a.tmps.size=true)
  (h0:S (Array.replicate l.length false) w.drew)
  (hok:AllOKS P l.toArray told S a 0 l)
  (hend:∀w',S (Array.replicate l.length true) w'->Q .normal {tmps:=finalTmps l.toArray (fun i=>.inl (told i)) (fun _=>0) ks a.tmps,defers:=a.defers} w'):
  (Code.region id l.toArray true).wp P Q a w:=by
 subst hks;obtain⟨hd,hs,back⟩:=checkB_spec hB
 have rep:∀i,(Array.replicate l.toArray.size false).getD i false=false:=by
  intro i
  rcases Nat.lt_or_ge i l.length with h|h
  ·simp [h]
  ·have:(Array.replicate l.length false)[i]? =none:=Array.getElem?_eq_none (by simpa using h);simp [this]
 refine wp_region_any hm (wpAny_postsS (told:=told) (S:=S) hd hs back (fun k o ho=> ?_) (fun a' w' hI=> ?_) _ _ _ _ ?_ ?_)
 ·have:=allOKS_get l 0 hok k o (by simpa using ho);simpa using this
 ·have ht:=hI.final hB;have hdf:=hI.defers;have hst:=hI.st;obtain⟨ts,ds⟩:=a';simp only at ht hdf;subst ht hdf;simp only [List.size_toArray] at hst ⊢;exact hend w' hst
 ·refine⟨by simp,rfl,rfl,fun _ _=>rfl,?_,by simpa using h0⟩;intro i o d ho _ hl;rw [rep] at hl;cases hl
 ·unfold left;exact Nat.le_trans (List.length_filter_le _ _) (by simp)
def TF(told:Nat->Value)(a0 A:Act):List (Nat×Nat)->Prop
 | []=>True
 |(d,0)::r=>A.tmps[d]? =a0.tmps[d]? /\TF told a0 A r
 |(d,i+1)::r=>A.tmps[d]? =some (told i)/\TF told a0 A r
def tfOK(ops:Array Oper)(o:Oper)(L:List (Nat×Nat)):Bool:=L.all fun p=>match p.2 with
 |0=>ops.all fun q=>q.dst !=some p.1
 |i+1=>dstAt ops i==some p.1 && o.after.any fun e=>e.on==i && Region.binds .any e
theorem InvS.tf{told:Nat->Value}{S:Array Bool->World->Prop}{a0:Act}{listed:Array Bool}{A:Act}{w:World}{k:Nat}{o:Oper}(h:InvS ops told S a0 listed A w)(_hun:listed.getD k false=false)(hall:∀e∈o.after,Region.binds .any e=true->listed.getD e.on false=true)(T:Nat->List (Nat×Nat))(hk:tfOK ops o (T k)=true:=by kernel_rfl):TF told a0 A (T k):=by
 generalize T k=L at hk
 induction L with
 |nil=>trivial
 |cons p r ih=>
  unfold tfOK at hk;rw [List.all_cons,Bool.and_eq_true] at hk;obtain⟨h1,h2⟩:=hk;obtain⟨d,i⟩:=p
  cases i with
  |zero=>
   refine⟨h.old d fun i o ho _ e=> ?_,ih h2⟩;have:=Array.all_eq_true_iff_forall_mem.1 h1 o (Array.mem_of_getElem? ho);rw [e] at this;simp at this
  |succ i=>
   simp only [Bool.and_eq_true] at h1;obtain⟨h3,h4⟩:=h1;rw [Array.any_eq_true'] at h4;obtain⟨e,he,h5⟩:=h4;rw [Bool.and_eq_true] at h5;have h6:=hall e he h5.2;rw [beq_iff_eq.1 h5.1] at h6;exact⟨h.ev (beq_iff_eq.1 h3) h6,ih h2⟩
theorem InvS.v{told:Nat->Value}{S:Array Bool->World->Prop}{a0:Act}{listed:Array Bool}{A:Act}{w:World}{o:Oper}(h:InvS ops told S a0 listed A w)(hall:∀e∈o.after,Region.binds .any e=true->listed.getD e.on false=true)(i d:Nat)(hi:dstAt ops i=some d:=by rfl)(hk:(o.after.any fun e=>e.on==i && Region.binds .any e)=true:=by kernel_rfl):A.tmps[d]? =some (told i):=by
 rw [Array.any_eq_true'] at hk;obtain⟨e,he,h5⟩:=hk;rw [Bool.and_eq_true] at h5;have h6:=hall e he h5.2;rw [beq_iff_eq.1 h5.1] at h6;exact h.ev hi h6
theorem InvS.wo{told:Nat->Value}{S:Array Bool->World->Prop}{a0:Act}{listed:Array Bool}{A:Act}{w:World}(h:InvS ops told S a0 listed A w)(d:Nat){x:Value}(h0:a0.tmps[d]? =some x)(hno:(ops.all fun o=>o.dst !=some d)=true:=by kernel_rfl):A.tmps[d]? =some x:=h.evo hno h0
theorem oS{told:Nat->Value}{S:Array Bool->World->Prop}{a0:Act}{k:Nat}{o:Oper}{l:List Oper}(h:∀(listed:Array Bool) (A:Act) (X:World),InvS ops told S a0 listed A X->k<listed.size->listed.getD k false=false->(∀e∈o.after,Region.binds .any e=true->listed.getD e.on false=true)->S listed X->
  match (execOp A.eval o).run P X with
  | .ok (.value v) w'=>v=told k/\S (listed.setIfInBounds k true) w'
  | .ok .skip w'=>undef=told k/\S (listed.setIfInBounds k true) w'
  | .ok (.enter f args) w'=>Calls P f args w' fun e w''=>∃v,e=.returned v/\v=told k/\S (listed.setIfInBounds k true) w''
  |_=>False) (r:AllOKS P ops told S a0 (k+1) l) (hg:o.guard=none:=by rfl):AllOKS P ops told S a0 k (o::l):=
 ⟨fun listed A w hI hin hun hall=>.inl ⟨wn hg,h listed A w hI hin hun hall hI.st⟩,r⟩
theorem ws{told:Nat->Value}{S:Array Bool->World->Prop}{a0:Act}{listed:Array Bool}{A:Act}{w:World}{o:Oper}{b:Bool}(h:InvS ops told S a0 listed A w)(hall:∀e∈o.after,Region.binds .any e=true->listed.getD e.on false=true)(j d:Nat)(c:Bool)(ht:told j=.bool c:=by rfl)(hg:o.guard=some (j,b):=by rfl)(hi:dstAt ops j=some d:=by rfl)(hk:(o.after.any fun e=>e.on==j && Region.binds .any e)=true:=by kernel_rfl):Region.wanted o (yielded ops A.tmps)=(c==b):=
 wanted_some hg hi (ht ▸ h.v hall j d hi hk)
end
end
end Go.Proofs.YtnmalggmbeipaaaGreatDoor.Reg
namespace Go.Proofs.YtnmalggmbeipaaaGreatDoor.Reg
section
open Go Go.RowKit
section
variable {P:Program} {ops:Array Oper} {Q:Exit->Act->World->Prop}
theorem Inv.skip{told:Nat->Told}{a0:Act}{w0:World}{G:Nat->Nat}{listed:Array Bool}{A:Act}{w:World}{k:Nat}{o:Oper}(h:Inv ops told [] a0 w0 G listed A w)(ho:ops[k]? =some o)(hd:o.dst=none):
  Inv ops told [] a0 w0 G (listed.setIfInBounds k true) A w:=by
 have other:∀(i:Nat) (p:Oper) d,ops[i]? =some p->p.dst=some d->(listed.setIfInBounds k true).getD i false=true->listed.getD i false=true:=by
  intro i p d hp hpd hl
  rcases set_true hl with e|hl
  ·subst e;rw [ho] at hp;obtain rfl:=Option.some.inj hp;rw [hd] at hpd;cases hpd
  ·exact hl
 refine⟨by simpa using h.size,h.len,h.defers,?_,h.base,?_,?_,?_,?_⟩
 ·exact fun d hdd=>h.old d fun i o' ho' hl=>hdd i o' ho' (getD_set_true hl)
 ·exact fun i p d x hp hpd hx hl=>h.val i p d x hp hpd hx (other i p d hp hpd hl)
 ·exact fun i p d c hp hpd hc hl=>h.mem i p d c hp hpd hc (other i p d hp hpd hl)
 ·intro f hf;cases hf
 ·exact fun i j p q d e c c' hp hpd hc hl hq hqd hc' hl' hne=>h.apart i j p q d e c c' hp hpd hc (other i p d hp hpd hl) hq hqd hc' (other j q e hq hqd hl') hne
theorem none_ready{n:Nat}(hn:n=ops.size):Region.ready .any ops (Array.replicate n true)= []:=by
 rw [List.eq_nil_iff_forall_not_mem];intro k hk;obtain⟨h0,o,ho,_⟩:=mem_ready.1 hk;have:=lt_of_get ho;subst hn;simp [this] at h0
theorem wpAny_done{fuel:Nat}{A:Act}{w:World}(h:Q .normal A w):wpAny P .any ops Q fuel (Array.replicate ops.size true) A w:=by
 have hr:=none_ready (ops:=ops) rfl
 cases fuel with
 |zero=>exact⟨hr,h⟩
 |succ n=>exact⟨fun _=>h,fun k hk=>by rw [hr] at hk;cases hk⟩
theorem wpAny_postsY{told:Nat->Told}{kT:Nat}{oT:Oper}{a:Act}{w0:World}
  (hd:∀(i j:Nat) (o p:Oper) d,ops[i]? =some o->ops[j]? =some p->o.dst=some d->p.dst=some d->i=j) (hs:∀(i:Nat) (o:Oper) d,ops[i]? =some o->o.dst=some d->d<a.tmps.size)
  (hT:ops[kT]? =some oT) (hTd:oT.dst=none) (hTall:∀i,i<ops.size->i≠kT->∃e∈oT.after,Region.binds .any e=true/\e.on=i)
  (back:∀(k:Nat) (o:Oper),ops[k]? =some o->∀e∈o.after,Region.binds .any e=true->e.on<k)
  (hok:∀(k:Nat) (o:Oper),ops[k]? =some o->k≠kT->OpOK P ops told [] a w0 k o)
  (hend:∀G A w',Inv ops told [] a w0 G (Array.replicate ops.size true) A w'->Region.wanted oT (yielded ops A.tmps)=true/\Yields P oT A w' fun _ w''=>Q .normal A w''):
  ∀(fuel:Nat) (G:Nat->Nat) (listed:Array Bool) (A:Act) (w:World),Inv ops told [] a w0 G listed A w->listed.getD kT true=false->(left ops.size listed).length<=fuel->wpAny P .any ops Q fuel listed A w
 |0,G,listed,A,w,hI,hun0,hf=>by
  exfalso;have hnil:left ops.size listed= []:=List.length_eq_zero_iff.1 (Nat.le_zero.1 hf)
  have:kT∈left ops.size listed:=by
   unfold left;rw [List.mem_filter];exact⟨List.mem_range.2 (lt_of_get hT),by rw [hun0];rfl⟩
  rw [hnil] at this;cases this
 |fuel+1,G,listed,A,w,hI,hun0,hf=>by
  refine⟨fun hr=>by
   exfalso;have hall:=all_listed hI.size back hr;subst hall
   simp [lt_of_get hT] at hun0,fun k hk=> ?_⟩
  obtain⟨h0,o,ho,hall⟩:=mem_ready.1 hk;have hkn:k<ops.size:=lt_of_get ho;have hin:k<listed.size:=by rw [hI.size];exact hkn
  have hun:=un_false h0;have hl:=left_lt hkn hI.size h0;have hkf:∀f∈([]:List Fill),f.1≠k:=fun f hf=>by cases hf
  by_cases e:k=kT
  ·subst e;rw [hT] at ho;obtain rfl:=Option.some.inj ho
   have hrep:listed.setIfInBounds k true=Array.replicate ops.size true:=by
    apply Array.ext
    ·simpa using hI.size
    ·intro i h1 h2;have hi:i<ops.size:=by simpa using h2
     by_cases hik:i=k
     ·subst hik;simp
     ·obtain⟨ed,hed,hb,hon⟩:=hTall i hi hik;have:=hall ed hed hb;rw [hon] at this;have hil:i<listed.size:=by rw [hI.size];exact hi
      simp [hil] at this;have h3:(listed.setIfInBounds k true)[i]? =some true:=by rw [Array.getElem?_setIfInBounds_ne (Ne.symm hik),Array.getElem?_eq_getElem hil,this]
      rw [Array.getElem?_eq_getElem h1] at h3;have h4:=Option.some.inj h3;rw [h4];simp
   have hI2:=hI.skip (k:=k) hT hTd;rw [hrep] at hI2;obtain⟨hw,hy⟩:=hend G A w hI2;unfold wpOp;simp only [hT];rw [if_pos hw];refine .inl (hy.wp fun v w' hg=> ?_);rw [hTd,hrep];exact wpAny_done hg
  ·have hop:=hok k o ho e G listed A w hI hall
   have next:∀(A':Act) (w':World),(∃G',Inv ops told [] a w0 G' (listed.setIfInBounds k true) A' w')->wpAny P .any ops Q fuel (listed.setIfInBounds k true) A' w':=
    fun A' w' ⟨G',h'⟩=>wpAny_postsY hd hs hT hTd hTall back hok hend fuel G' _ A' w' h' (by rw [getD_set_ne true e];exact hun0) (by omega)
   unfold wpOp;simp only [ho];have hfi:([]:List Fill).find? (fun f=>f.1==k)=none:=rfl;rw [hfi] at hop
   rcases hop with ⟨hw,hy⟩|⟨hw,hx⟩
   ·rw [if_pos hw];exact .inl (hy.wp fun v w' hg=>next _ _ (step_plain ho hd hs hkf hI hun hin v w' hg))
   ·rw [if_neg (by rw [hw];exact Bool.false_ne_true)];exact next _ _ (step_plain ho hd hs hkf hI hun hin undef w (by unfold Good;rw [hx];exact⟨rfl,Below.refl _ _⟩))
def AllOKY(P:Program)(ops:Array Oper)(told:Nat->Told)(a0:Act)(w0:World):Nat->List Oper->Prop
 |_,[]=>True
 |k,o::r=>OpOK P ops told [] a0 w0 k o/\AllOKY P ops told a0 w0 (k+1) r
theorem allOKY_get{told:Nat->Told}{a0:Act}{w0:World}:∀(l:List Oper) (k:Nat),AllOKY P ops told a0 w0 k l->∀(i:Nat) (o:Oper),l[i]? =some o->OpOK P ops told [] a0 w0 (k+i) o
 | [],_,_,i,o,h=>by cases i<;>cases h
 |p::r,k,h,0,o,ho=>by
  obtain rfl:p=o:=by simpa using ho
  exact h.1
 |p::r,k,h,i+1,o,ho=>by
  have:=allOKY_get r (k+1) h.2 i o (by simpa using ho);rw [show k+(i+1)=k+1+i by omega];exact this
def tailB(ops:Array Oper)(kT:Nat):Bool:=
 match ops[kT]? with
 |some o=>o.dst.isNone && (List.range ops.size).all fun i=>i==kT||o.after.any fun e=>Region.binds .any e && e.on==i
 |none=>false
theorem tailB_spec{kT:Nat}(h:tailB ops kT=true):∃oT,ops[kT]? =some oT/\oT.dst=none/\∀i,i<ops.size->i≠kT->∃e∈oT.after,Region.binds .any e=true/\e.on=i:=by
 unfold tailB at h
 split at h
 ·rename_i o ho
  simp only [Bool.and_eq_true,List.all_eq_true,List.mem_range,Bool.or_eq_true,beq_iff_eq] at h;refine⟨o,ho,by simpa using h.1,fun i hi hne=> ?_⟩
  rcases h.2 i hi with e|e
  ·exact absurd e hne
  ·obtain⟨ed,hed,hb⟩:=Array.any_eq_true'.1 e;simp only [Bool.and_eq_true,beq_iff_eq] at hb;exact⟨ed,hed,hb.1,hb.2⟩
 ·cases h
theorem wp_region_toldY{id:Nat}{a:Act}{w:World}{l:List Oper}(kT:Nat)(oT:Oper)(told:Nat->Told)(ks:List Nat)(hks:ks=List.range l.length)(hlen:l.length=kT+1)(hoT:l[kT]? =some oT)(hm:P.follows .mixedOrders=true)(hB:checkB l.toArray a.tmps.size=true)(hT:tailB l.toArray kT=true)
  (hok:AllOKY P l.toArray told a w.drew 0 (l.take kT))
  (hend:∀G w',Inv l.toArray told [] a w.drew G (Array.replicate l.length true) {tmps:=finalTmps l.toArray told G ks a.tmps,defers:=a.defers} w'->
   Region.wanted oT (yielded l.toArray (finalTmps l.toArray told G ks a.tmps))=true/\Yields P oT {tmps:=finalTmps l.toArray told G ks a.tmps,defers:=a.defers} w' fun _ w''=>Q .normal {tmps:=finalTmps l.toArray told G ks a.tmps,defers:=a.defers} w''):
  (Code.region id l.toArray true).wp P Q a w:=by
 subst hks;obtain⟨hd,hs,back⟩:=checkB_spec hB;obtain⟨o',ho',hod,hall⟩:=tailB_spec hT
 have hoe:o'=oT:=by
  have:l.toArray[kT]? =some oT:=by simpa using hoT
  rw [this] at ho';exact(Option.some.inj ho').symm
 subst hoe
 have rep:∀i,(Array.replicate l.toArray.size false).getD i false=false:=by
  intro i
  rcases Nat.lt_or_ge i l.length with h|h
  ·simp [h]
  ·have:(Array.replicate l.length false)[i]? =none:=Array.getElem?_eq_none (by simpa using h);simp [this]
 refine wp_region_any hm (wpAny_postsY (told:=told) (w0:=w.drew) hd hs ho' hod hall back (fun k o ho hne=> ?_) (fun G a' w' hI=> ?_) _ (fun _=>0) _ _ _ ?_ ?_ ?_)
 ·have hk:k<kT:=by
   have:=lt_of_get ho;simp at this;omega
  have:=allOKY_get (l.take kT) 0 hok k o (by
   have h2:l[k]? =some o:=by simpa using ho
   rw [List.getElem?_take];simp [hk,h2])
  simpa using this
 ·have ht:=hI.final hB;have hdf:=hI.defers;obtain⟨ts,ds⟩:=a';simp only at ht hdf;subst ht hdf;simp only [List.size_toArray] at hI ⊢;exact hend G w' hI
 ·refine⟨by simp,rfl,rfl,fun _ _=>rfl,Below.refl _ _,?_,?_,?_,?_⟩
  ·intro i o d x ho _ _ hl;rw [rep] at hl;cases hl
  ·intro i o d c ho _ _ hl;rw [rep] at hl;cases hl
  ·intro f hf
   cases hf
  ·intro i j o p d e c c' ho _ _ hl;rw [rep] at hl;cases hl
 ·have:kT<l.length:=by omega
  simp [this]
 ·unfold left;exact Nat.le_trans (List.length_filter_le _ _) (by simp)
end
end
end Go.Proofs.YtnmalggmbeipaaaGreatDoor.Reg
namespace Go.Proofs.YtnmalggmbeipaaaGreatDoor.Reg
section
open Go Go.RowKit
section
variable {P:Program} {ops:Array Oper} {Q:Exit->Act->World->Prop} {γ:Type}
def GoodG(told:γ->Nat->Value)(S:γ->Array Bool->World->Prop)(k:Nat)(g:γ)(listed:Array Bool)(v:Value)(w':World):Prop:=
 ∃g',(∀i,listed.getD i false=true->told g' i=told g i)/\v=told g' k/\S g' (listed.setIfInBounds k true) w'
theorem goodG_same{told:γ->Nat->Value}{S:γ->Array Bool->World->Prop}{k:Nat}{g:γ}{listed:Array Bool}{v:Value}{w':World}(hv:v=told g k)(hS:S g (listed.setIfInBounds k true) w'):GoodG told S k g listed v w':=⟨g,fun _ _=>rfl,hv,hS⟩
def OpOKG(P:Program)(ops:Array Oper)(told:γ->Nat->Value)(S:γ->Array Bool->World->Prop)(a0:Act)(k:Nat)(o:Oper):Prop:=
 ∀(g:γ) (listed:Array Bool) (A:Act) (w:World),InvS ops (told g) (S g) a0 listed A w->k<listed.size->listed.getD k false=false->(∀e∈o.after,Region.binds .any e=true->listed.getD e.on false=true)->
  Region.wanted o (yielded ops A.tmps)=true/\Yields P o A w (GoodG told S k g listed)
theorem stepG{told told':Nat->Value}{S S':Array Bool->World->Prop}{a0:Act}{listed:Array Bool}{A:Act}{w w':World}{k:Nat}{o:Oper}(ho:ops[k]? =some o)
  (hd:∀(i j:Nat) (o p:Oper) d,ops[i]? =some o->ops[j]? =some p->o.dst=some d->p.dst=some d->i=j) (hs:∀(i:Nat) (o:Oper) d,ops[i]? =some o->o.dst=some d->d<a0.tmps.size)
  (h:InvS ops told S a0 listed A w) (ht:∀i,listed.getD i false=true->told' i=told i) (hst:S' (listed.setIfInBounds k true) w'):InvS ops told' S' a0 (listed.setIfInBounds k true) (A.put o.dst (told' k)) w':=by
 have hin:k<listed.size:=by rw [h.size];exact lt_of_get ho
 refine⟨by simpa using h.size,by rw [put_size];exact h.len,by rw [put_defers];exact h.defers,?_,?_,hst⟩
 ·intro d hdd;rw [put_other (hdd k o ho (set_self hin))];exact h.old d fun i o' ho' hl=>hdd i o' ho' (getD_set_true hl)
 ·intro i p d hp hpd hl
  by_cases hod:o.dst=some d
  ·obtain rfl:=hd k i o p d ho hp hod hpd;rw [hod];exact put_same (by rw [h.len];exact hs k o d ho hod)
  ·rw [put_other hod]
   rcases set_true hl with e|hl'
   ·subst e;rw [ho] at hp;obtain rfl:=Option.some.inj hp;exact absurd hpd hod
   ·rw [ht i hl'];exact h.val i p d hp hpd hl'
theorem wpAny_postsG{told:γ->Nat->Value}{S:γ->Array Bool->World->Prop}{a:Act}
  (hd:∀(i j:Nat) (o p:Oper) d,ops[i]? =some o->ops[j]? =some p->o.dst=some d->p.dst=some d->i=j) (hs:∀(i:Nat) (o:Oper) d,ops[i]? =some o->o.dst=some d->d<a.tmps.size)
  (back:∀(k:Nat) (o:Oper),ops[k]? =some o->∀e∈o.after,Region.binds .any e=true->e.on<k)
  (hok:∀(k:Nat) (o:Oper),ops[k]? =some o->OpOKG P ops told S a k o)
  (hend:∀g a' w',InvS ops (told g) (S g) a (Array.replicate ops.size true) a' w'->Q .normal a' w'):
  ∀(fuel:Nat) (g:γ) (listed:Array Bool) (A:Act) (w:World),InvS ops (told g) (S g) a listed A w->(left ops.size listed).length<=fuel->wpAny P .any ops Q fuel listed A w
 |0,g,listed,A,w,hI,hf=>by
  have hnil:left ops.size listed= []:=List.length_eq_zero_iff.1 (Nat.le_zero.1 hf)
  have hr:Region.ready .any ops listed= []:=by
   rw [List.eq_nil_iff_forall_not_mem];intro k hk;obtain⟨h0,o,ho,_⟩:=mem_ready.1 hk
   have:k∈left ops.size listed:=by
    unfold left;rw [List.mem_filter];exact⟨List.mem_range.2 (lt_of_get ho),by rw [h0];rfl⟩
   rw [hnil] at this;cases this
  exact⟨hr,hend g A w (by have:=all_listed hI.size back hr;rw [<-this];exact hI)⟩
 |fuel+1,g,listed,A,w,hI,hf=>by
  refine⟨fun hr=>hend g A w (by have:=all_listed hI.size back hr;rw [<-this];exact hI),fun k hk=> ?_⟩;obtain⟨h0,o,ho,hall⟩:=mem_ready.1 hk;have hkn:k<ops.size:=lt_of_get ho;have hin:k<listed.size:=by rw [hI.size];exact hkn
  have hun:=un_false h0;have hl:=left_lt hkn hI.size h0;obtain⟨hw,hy⟩:=hok k o ho g listed A w hI hin (by simpa using hun) hall;unfold wpOp;simp only [ho];rw [if_pos hw];refine .inl (hy.wp fun v w' hg=> ?_);obtain⟨g',ht,rfl,hst⟩:=hg;exact wpAny_postsG hd hs back hok hend fuel g' _ _ _ (stepG (S:=S g) (S':=S g') ho hd hs hI ht hst) (by omega)
def AllOKG(P:Program)(ops:Array Oper)(told:γ->Nat->Value)(S:γ->Array Bool->World->Prop)(a0:Act):Nat->List Oper->Prop
 |_,[]=>True
 |k,o::r=>OpOKG P ops told S a0 k o/\AllOKG P ops told S a0 (k+1) r
theorem allOKG_get{told:γ->Nat->Value}{S:γ->Array Bool->World->Prop}{a0:Act}:∀(l:List Oper) (k:Nat),AllOKG P ops told S a0 k l->∀(i:Nat) (o:Oper),l[i]? =some o->OpOKG P ops told S a0 (k+i) o
 | [],_,_,i,o,h=>by cases i<;>cases h
 |p::r,k,h,0,o,ho=>by
  obtain rfl:p=o:=by simpa using ho
  exact h.1
 |p::r,k,h,i+1,o,ho=>by
  have:=allOKG_get r (k+1) h.2 i o (by simpa using ho);rw [show k+(i+1)=k+1+i by omega];exact this
theorem wp_region_G{id:Nat}{a:Act}{w:World}{l:List Oper}(told:γ->Nat->Value)(S:γ->Array Bool->World->Prop)(g0:γ)(ks:List Nat)(hks:ks=List.range l.length)(hm:P.follows .mixedOrders=true)(hB:checkB l.toArray a.tmps.size=true)
  (h0:S g0 (Array.replicate l.length false) w.drew)
  (hok:AllOKG P l.toArray told S a 0 l)
  (hend:∀g w',S g (Array.replicate l.length true) w'->Q .normal {tmps:=finalTmps l.toArray (fun i=>.inl (told g i)) (fun _=>0) ks a.tmps,defers:=a.defers} w'):
  (Code.region id l.toArray true).wp P Q a w:=by
 subst hks;obtain⟨hd,hs,back⟩:=checkB_spec hB
 have rep:∀i,(Array.replicate l.toArray.size false).getD i false=false:=by
  intro i
  rcases Nat.lt_or_ge i l.length with h|h
  ·simp [h]
  ·have:(Array.replicate l.length false)[i]? =none:=Array.getElem?_eq_none (by simpa using h);simp [this]
 refine wp_region_any hm (wpAny_postsG (told:=told) (S:=S) hd hs back (fun k o ho=> ?_) (fun g a' w' hI=> ?_) _ g0 _ _ _ ?_ ?_)
 ·have:=allOKG_get l 0 hok k o (by simpa using ho);simpa using this
 ·have ht:=hI.final hB;have hdf:=hI.defers;have hst:=hI.st;obtain⟨ts,ds⟩:=a';simp only at ht hdf;subst ht hdf;simp only [List.size_toArray] at hst ⊢;exact hend g w' hst
 ·refine⟨by simp,rfl,rfl,fun _ _=>rfl,?_,by simpa using h0⟩;intro i o d ho _ hl;rw [rep] at hl;cases hl
 ·unfold left;exact Nat.le_trans (List.length_filter_le _ _) (by simp)
end
end
end Go.Proofs.YtnmalggmbeipaaaGreatDoor.Reg
namespace Go.Proofs.YtnmalggmbeipaaaGreatDoor.Reg
section
open Go Go.RowKit
section
variable {P:Program} {ops:Array Oper} {Q:Exit->Act->World->Prop}
def ClosedL(ops:Array Oper)(l:Array Bool):Prop:=∀(k:Nat) (o:Oper),ops[k]? =some o->l.getD k false=true->∀e∈o.after,Region.binds .any e=true->l.getD e.on false=true
def reach(ops:Array Oper):Nat->Nat->Nat->Bool
 |0,k,i=>k==i
 |f+1,k,i=>k==i||match ops[k]? with
  |some o=>o.after.any fun e=>Region.binds .any e && reach ops f e.on i
  |none=>false
theorem closed_reach{l:Array Bool}(h:ClosedL ops l):∀(f k i:Nat),reach ops f k i=true->l.getD k false=true->l.getD i false=true
 |0,k,i,hr,hk=>by
  have e:k=i:=by simpa [reach] using hr
  rw [<-e];exact hk
 |f+1,k,i,hr,hk=>by
  rw [reach,Bool.or_eq_true] at hr
  rcases hr with hr|hr
  ·have e:k=i:=by simpa using hr
   rw [<-e];exact hk
  ·cases ho:ops[k]? with
   |none=>rw [ho] at hr;cases hr
   |some o=>
    rw [ho] at hr;simp only [Array.any_eq_true'] at hr;obtain⟨e,he,hb⟩:=hr;rw [Bool.and_eq_true] at hb;exact closed_reach h f e.on i hb.2 (h k o ho hk e he hb.1)
theorem closed_set{l:Array Bool}{k:Nat}{o:Oper}(h:ClosedL ops l)(ho:ops[k]? =some o)(hall:∀e∈o.after,Region.binds .any e=true->l.getD e.on false=true):ClosedL ops (l.setIfInBounds k true):=by
 intro j p hp hl e he hb
 by_cases hjk:j=k
 ·subst hjk;rw [ho] at hp;obtain rfl:=Option.some.inj hp;exact getD_set_true (hall e he hb)
 ·rw [getD_set_ne false (Ne.symm hjk)] at hl;exact getD_set_true (h j p hp hl e he hb)
def OpOKC(P:Program)(ops:Array Oper)(told:Nat->Value)(S:Array Bool->World->Prop)(a0:Act)(k:Nat)(o:Oper):Prop:=
 ∀(listed:Array Bool) (A:Act) (w:World),InvS ops told S a0 listed A w->ClosedL ops listed->k<listed.size->listed.getD k false=false->(∀e∈o.after,Region.binds .any e=true->listed.getD e.on false=true)->
  (Region.wanted o (yielded ops A.tmps)=true/\Yields P o A w fun v w'=>v=told k/\S (listed.setIfInBounds k true) w')\/
  (Region.wanted o (yielded ops A.tmps)=false/\told k=undef/\S (listed.setIfInBounds k true) w)
def AllOKC(P:Program)(ops:Array Oper)(told:Nat->Value)(S:Array Bool->World->Prop)(a0:Act):Nat->List Oper->Prop
 |_,[]=>True
 |k,o::r=>OpOKC P ops told S a0 k o/\AllOKC P ops told S a0 (k+1) r
theorem invS_weak{told:Nat->Value}{S S':Array Bool->World->Prop}{a0:Act}{listed:Array Bool}{A:Act}{w:World}(h:InvS ops told S a0 listed A w)(hS:S' listed w):InvS ops told S' a0 listed A w:=
 ⟨h.size,h.len,h.defers,h.old,h.val,hS⟩
theorem yields_mono{o:Oper}{A:Act}{w:World}{R R':Value->World->Prop}(h:Yields P o A w R)(hR:∀v w',R v w'->R' v w'):Yields P o A w R':=by
 unfold Yields at*;generalize (execOp A.eval o).run P w=r at*
 cases r with
 |ok n w'=>
  cases n<;>simp only at h ⊢
  case value v=>exact hR _ _ h
  case skip=>exact hR _ _ h
  case enter f args=>exact h.mono fun e w'' ⟨v,he,hr⟩=>⟨v,he,hR _ _ hr⟩
 |_=>exact h
theorem allOKC_S{told:Nat->Value}{S:Array Bool->World->Prop}{a0:Act}:∀(l:List Oper) (k:Nat),(∀i o,l[i]? =some o->ops[k+i]? =some o)->AllOKC P ops told S a0 k l->AllOKS P ops told (fun l X=>S l X/\ClosedL ops l) a0 k l
 | [],_,_,_=>trivial
 |o::r,k,hl,h=>by
  refine⟨fun listed A w hI hin hun hall=> ?_,allOKC_S r (k+1) (fun i o hi=>by rw [show k+1+i=k+(i+1) by omega];exact hl (i+1) o (by simpa using hi)) h.2⟩;have hc:=closed_set hI.st.2 (hl 0 o rfl) hall
  rcases h.1 listed A w (invS_weak hI hI.st.1) hI.st.2 hin hun hall with ⟨h1,h2⟩|⟨h1,h2,h3⟩
  ·exact .inl ⟨h1,yields_mono h2 fun v w' ⟨e,hs⟩=>⟨e,hs,hc⟩⟩
  ·exact .inr ⟨h1,h2,h3,hc⟩
theorem wp_region_C{id:Nat}{a:Act}{w:World}{l:List Oper}(told:Nat->Value)(S:Array Bool->World->Prop)(ks:List Nat)(hks:ks=List.range l.length)(hm:P.follows .mixedOrders=true)(hB:checkB l.toArray a.tmps.size=true)
  (h0:S (Array.replicate l.length false) w.drew)
  (hok:AllOKC P l.toArray told S a 0 l)
  (hend:∀w',S (Array.replicate l.length true) w'->Q .normal {tmps:=finalTmps l.toArray (fun i=>.inl (told i)) (fun _=>0) ks a.tmps,defers:=a.defers} w'):
  (Code.region id l.toArray true).wp P Q a w:=by
 refine wp_region_S told (fun l' X=>S l' X/\ClosedL l.toArray l') ks hks hm hB ⟨h0,?_⟩ (allOKC_S l 0 (fun i o hi=>by simpa using hi) hok) (fun w' h=>hend w' h.1);intro k o _ hl;rw [show(Array.replicate l.length false).getD k false=false by rw [Array.getD_eq_getD_getElem?,Array.getElem?_replicate];split<;>rfl] at hl
 cases hl
structure OneC(n:Nat)(W0:World)(R:World->Prop)(l:Array Bool)(X:World):Prop where
 ahead:l.getD n false=false->X=W0
 done:l.getD n false=true->R X
theorem OneC.at{n i:Nat}{W0:World}{R:World->Prop}{l:Array Bool}{X:World}(h:OneC n W0 R l X)(hcl:ClosedL ops l)(hr:reach ops 30 n i=true)(hun:l.getD i false=false):W0=X:=by
 cases e:l.getD n false with
 |false=>exact(h.ahead e).symm
 |true=>rw [closed_reach hcl _ _ _ hr e] at hun;cases hun
theorem OneC.up{n i:Nat}{W0:World}{R:World->Prop}{l:Array Bool}{X:World}(h:OneC n W0 R l X)(hi:i≠n):OneC n W0 R (l.setIfInBounds i true) X:=by
 refine⟨fun e=> ?_,fun e=> ?_⟩
 ·rw [getD_set_ne false hi] at e;exact h.ahead e
 ·rw [getD_set_ne false hi] at e;exact h.done e
theorem OneC.put{n:Nat}{W0 Y:World}{R:World->Prop}{l:Array Bool}(hin:n<l.size)(hR:R Y):OneC n W0 R (l.setIfInBounds n true) Y:=by
 refine⟨fun e=> ?_,fun _=>hR⟩;rw [set_self hin] at e;cases e
theorem OneC.start(n k:Nat)(W0:World)(R:World->Prop):OneC n W0 R (Array.replicate k false) W0:=
 ⟨fun _=>rfl,fun e=>by simp [Array.getD_eq_getD_getElem?,Array.getElem?_replicate] at e;split at e<;>simp_all⟩
theorem oC{told:Nat->Value}{S:Array Bool->World->Prop}{a0:Act}{k:Nat}{o:Oper}{l:List Oper}(h:∀(listed:Array Bool) (A:Act) (X:World),InvS ops told S a0 listed A X->ClosedL ops listed->k<listed.size->listed.getD k false=false->(∀e∈o.after,Region.binds .any e=true->listed.getD e.on false=true)->S listed X->
  match (execOp A.eval o).run P X with
  | .ok (.value v) w'=>v=told k/\S (listed.setIfInBounds k true) w'
  | .ok .skip w'=>undef=told k/\S (listed.setIfInBounds k true) w'
  | .ok (.enter f args) w'=>Calls P f args w' fun e w''=>∃v,e=.returned v/\v=told k/\S (listed.setIfInBounds k true) w''
  |_=>False) (r:AllOKC P ops told S a0 (k+1) l) (hg:o.guard=none:=by rfl):AllOKC P ops told S a0 k (o::l):=
 ⟨fun listed A w hI hcl hin hun hall=>.inl ⟨wn hg,h listed A w hI hcl hin hun hall hI.st⟩,r⟩
end
end
end Go.Proofs.YtnmalggmbeipaaaGreatDoor.Reg
namespace Go.Proofs.YtnmalggmbeipaaaGreatDoor.Reg
section
open Go Go.RowKit
section
variable {P:Program} {ops:Array Oper} {Q:Exit->Act->World->Prop} {γ:Type}
def OpOKH(P:Program)(ops:Array Oper)(told:γ->Nat->Value)(S:γ->Array Bool->World->Prop)(a0:Act)(k:Nat)(o:Oper):Prop:=
 ∀(g:γ) (listed:Array Bool) (A:Act) (w:World),InvS ops (told g) (S g) a0 listed A w->ClosedL ops listed->k<listed.size->listed.getD k false=false->(∀e∈o.after,Region.binds .any e=true->listed.getD e.on false=true)->
  Region.wanted o (yielded ops A.tmps)=true/\Yields P o A w (GoodG told S k g listed)
def AllOKH(P:Program)(ops:Array Oper)(told:γ->Nat->Value)(S:γ->Array Bool->World->Prop)(a0:Act):Nat->List Oper->Prop
 |_,[]=>True
 |k,o::r=>OpOKH P ops told S a0 k o/\AllOKH P ops told S a0 (k+1) r
theorem allOKH_G{told:γ->Nat->Value}{S:γ->Array Bool->World->Prop}{a0:Act}:∀(l:List Oper) (k:Nat),(∀i o,l[i]? =some o->ops[k+i]? =some o)->AllOKH P ops told S a0 k l->AllOKG P ops told (fun g l X=>S g l X/\ClosedL ops l) a0 k l
 | [],_,_,_=>trivial
 |o::r,k,hl,h=>by
  refine⟨fun g listed A w hI hin hun hall=> ?_,allOKH_G r (k+1) (fun i o hi=>by rw [show k+1+i=k+(i+1) by omega];exact hl (i+1) o (by simpa using hi)) h.2⟩;have hc:=closed_set hI.st.2 (hl 0 o rfl) hall;obtain⟨h1,h2⟩:=h.1 g listed A w (invS_weak hI hI.st.1) hI.st.2 hin hun hall;exact⟨h1,yields_mono h2 fun v w' ⟨g',e1,e2,hs⟩=>⟨g',e1,e2,hs,hc⟩⟩
theorem wp_region_H{id:Nat}{a:Act}{w:World}{l:List Oper}(told:γ->Nat->Value)(S:γ->Array Bool->World->Prop)(g0:γ)(ks:List Nat)(hks:ks=List.range l.length)(hm:P.follows .mixedOrders=true)(hB:checkB l.toArray a.tmps.size=true)
  (h0:S g0 (Array.replicate l.length false) w.drew)
  (hok:AllOKH P l.toArray told S a 0 l)
  (hend:∀g w',S g (Array.replicate l.length true) w'->Q .normal {tmps:=finalTmps l.toArray (fun i=>.inl (told g i)) (fun _=>0) ks a.tmps,defers:=a.defers} w'):
  (Code.region id l.toArray true).wp P Q a w:=by
 refine wp_region_G told (fun g l' X=>S g l' X/\ClosedL l.toArray l') g0 ks hks hm hB ⟨h0,?_⟩ (allOKH_G l 0 (fun i o hi=>by simpa using hi) hok) (fun g w' h=>hend g w' h.1);intro k o _ hl;rw [show(Array.replicate l.length false).getD k false=false by rw [Array.getD_eq_getD_getElem?,Array.getElem?_replicate];split<;>rfl] at hl
 cases hl
structure GenH(n:Nat)(R0:γ->Array Bool->World->Prop)(R1:γ->World->Prop)(g:γ)(l:Array Bool)(X:World):Prop where
 ahead:l.getD n false=false->R0 g l X
 done:l.getD n false=true->R1 g X
theorem un_of_reach{l:Array Bool}{n i:Nat}(hcl:ClosedL ops l)(hr:reach ops 60 n i=true)(hun:l.getD i false=false):l.getD n false=false:=by
 cases e:l.getD n false with
 |false=>rfl
 |true=>rw [closed_reach hcl _ _ _ hr e] at hun;cases hun
theorem GenH.start{n k:Nat}{X:World}{R0:γ->Array Bool->World->Prop}{R1:γ->World->Prop}{g:γ}(h:R0 g (Array.replicate k false) X):GenH n R0 R1 g (Array.replicate k false) X:=
 ⟨fun _=>h,fun e=>by simp [Array.getD_eq_getD_getElem?,Array.getElem?_replicate] at e;split at e<;>simp_all⟩
theorem GenH.step{n i:Nat}{told:γ->Nat->Value}{R0:γ->Array Bool->World->Prop}{R1:γ->World->Prop}{g g':γ}{l:Array Bool}{Y:World}{v:Value}(hn:l.getD n false=false)(hi:i≠n)
  (ht:∀j,l.getD j false=true->told g' j=told g j) (hv:v=told g' i) (hY:R0 g' (l.setIfInBounds i true) Y):GoodG told (GenH n R0 R1) i g l v Y:=
 ⟨g',ht,hv,fun _=>hY,fun e=>by rw [getD_set_ne false hi,hn] at e;cases e⟩
theorem GenH.put{n:Nat}{told:γ->Nat->Value}{R0:γ->Array Bool->World->Prop}{R1:γ->World->Prop}{g:γ}{l:Array Bool}{Y:World}{v:Value}(hin:n<l.size)(hv:v=told g n)(hY:R1 g Y):GoodG told (GenH n R0 R1) n g l v Y:=
 ⟨g,fun _ _=>rfl,hv,fun e=>(by rw [set_self hin] at e;cases e),fun _=>hY⟩
theorem oH{told:γ->Nat->Value}{n:Nat}{R0:γ->Array Bool->World->Prop}{R1:γ->World->Prop}{a0:Act}{k:Nat}{o:Oper}{l:List Oper}(h:∀(gh:γ) (listed:Array Bool) (A:Act) (X:World),InvS ops (told gh) (GenH n R0 R1 gh) a0 listed A X->ClosedL ops listed->k<listed.size->listed.getD k false=false->(∀e∈o.after,Region.binds .any e=true->listed.getD e.on false=true)->listed.getD n false=false->R0 gh listed X->
  match (execOp A.eval o).run P X with
  | .ok (.value v) w'=>GoodG told (GenH n R0 R1) k gh listed v w'
  | .ok .skip w'=>GoodG told (GenH n R0 R1) k gh listed undef w'
  | .ok (.enter f args) w'=>Calls P f args w' fun e w''=>∃v,e=.returned v/\GoodG told (GenH n R0 R1) k gh listed v w''
  |_=>False) (r:AllOKH P ops told (GenH n R0 R1) a0 (k+1) l) (hg:o.guard=none:=by rfl) (hr:reach ops 60 n k=true:=by kernel_rfl):AllOKH P ops told (GenH n R0 R1) a0 k (o::l):=
 ⟨fun gh listed A w hI hcl hin hun hall=>⟨wn hg,h gh listed A w hI hcl hin hun hall (un_of_reach hcl hr hun) (hI.st.ahead (un_of_reach hcl hr hun))⟩,r⟩
theorem GenH.s{told:γ->Nat->Value}{R0:γ->Array Bool->World->Prop}{R1:γ->World->Prop}{n i:Nat}{g:γ}{l:Array Bool}{Y:World}{v:Value}(hn:l.getD n false=false)(hY:R0 g (l.setIfInBounds i true) Y)(hi:i≠n:=by decide)(hv:v=told g i:=by rfl):GoodG told (GenH n R0 R1) i g l v Y:=GenH.step hn hi (fun _ _=>rfl) hv hY
end
end
end Go.Proofs.YtnmalggmbeipaaaGreatDoor.Reg
namespace Go.Proofs.YtnmalggmbeipaaaGreatDoor.Reg
section
open Go Go.RowKit
section
variable {γ:Type}
structure MkS(W:World)(i1 i2:Nat)(P1 P2:γ->World->Prop)(g:γ)(l:Array Bool)(X:World):Prop where
 bel:Below W.heap.size W X
 one:l.getD i1 false=true->P1 g X
 two:l.getD i2 false=true->P2 g X
def UpB(P:γ->World->Prop):Prop:=∀g X Y,Below X.heap.size X Y->P g X->P g Y
variable {W:World} {i1 i2:Nat} {P1 P2:γ->World->Prop}
theorem MkS.start(g:γ)(k:Nat):MkS W i1 i2 P1 P2 g (Array.replicate k false) W.drew:=by
 have e:∀i,¬((Array.replicate k false).getD i false=true):=fun i h=>by simp [Array.getD_eq_getD_getElem?,Array.getElem?_replicate] at h;split at h<;>simp_all
 exact⟨Below.drew (Below.refl _ _),fun h=>absurd h (e _),fun h=>absurd h (e _)⟩
theorem MkS.up{g:γ}{l:Array Bool}{X Y:World}{i:Nat}(h:MkS W i1 i2 P1 P2 g l X)(h1:i≠i1)(h2:i≠i2)(u1:UpB P1)(u2:UpB P2)(hb:Below X.heap.size X Y):MkS W i1 i2 P1 P2 g (l.setIfInBounds i true) Y:=
 ⟨h.bel.trans (hb.mono h.bel.size),fun e=>(by rw [getD_set_ne false h1] at e;exact u1 g X Y hb (h.one e)),fun e=>(by rw [getD_set_ne false h2] at e;exact u2 g X Y hb (h.two e))⟩
theorem MkS.first{g g':γ}{l:Array Bool}{X Y:World}(h:MkS W i1 i2 P1 P2 g l X)(hne:i1≠i2)(hun:l.getD i2 false=false)(hb:Below X.heap.size X Y)(hp:P1 g' Y):MkS W i1 i2 P1 P2 g' (l.setIfInBounds i1 true) Y:=
 ⟨h.bel.trans (hb.mono h.bel.size),fun _=>hp,fun e=>(by rw [getD_set_ne false hne,hun] at e;cases e)⟩
theorem MkS.second{g g':γ}{l:Array Bool}{X Y:World}(h:MkS W i1 i2 P1 P2 g l X)(hne:i2≠i1)(u1:UpB P1)(hk:∀X,P1 g X->P1 g' X)(hb:Below X.heap.size X Y)(hp:P2 g' Y):MkS W i1 i2 P1 P2 g' (l.setIfInBounds i2 true) Y:=
 ⟨h.bel.trans (hb.mono h.bel.size),fun e=>(by rw [getD_set_ne false hne] at e;exact u1 g' X Y hb (hk X (h.one e))),fun _=>hp⟩
end
end
end Go.Proofs.YtnmalggmbeipaaaGreatDoor.Reg
namespace Go.Proofs.YtnmalggmbeipaaaGreatDoor.Reg
section
open Go Go.RowKit
section
variable {W:World} {K:List Nat} {ob:(Nat->Nat)->Nat->Obj}
theorem heap_kept_up{w w':World}{b:Nat}{o:Obj}(h:w.heap[b]? =some o)(hb:Below w.heap.size w w'):w'.heap[b]? =some o:=(hb.block b (size_of_get h)).trans h
end
end
end Go.Proofs.YtnmalggmbeipaaaGreatDoor.Reg
namespace Go.Proofs.YtnmalggmbeipaaaGreatDoor.Reg
section
open Go Go.RowKit
section
variable {γ:Type}
theorem yields_append_own{P:Program}{o:Oper}{a:Act}{w:World}{R:Value->World->Prop}
  (s x:Operand) (t:TypeId) (ho:o.op=.call {callee:=.builtin .append,args:= #[s,x],argTypes:= #[t,t]})
  (base:Nat) (e:TypeId) (i:TypeInfo) (z:Value) (size bytes:Nat) (ht:P.underlying t=some (.slice e)) (hi:P.info? e=some i) (hz:i.zero=some z)
  (hsize:i.size=size) (hby:i.bytes=bytes) (hzs:z.cells.size=size) (hsz:0<size)
  (v:Value) (n:Nat) (xs:List Value) (hs:a.eval s=v) (hown:w.ownsRow base e size v n xs)
  (ad:Addr) (m c:Nat) (news:List Value) (hx:a.eval x=.slice (some ad) m c) (hl:news.length=m*size) (hnews:∀j u,news[j]? =some u->w.cell? (ad.add j)=some u) (h1:∀u∈news,u.oneCell'=true)
  (h63:n+m<=maxLen) (hbytes:(n+m)*bytes<=140737488355328) (hbase:base<=w.heap.size)
  (h:∀v' w',w'.ownsRow base e size v' (n+m) (xs++news)->w.grownBy w' v.ownBlock->(v'.ownBlock=v.ownBlock\/v'.ownBlock=some w.heap.size)->R v' w'):
  Yields P o a w R:=by
 obtain⟨v',w',hr,h2,h3,_,h5⟩:=run_append_own_at (P:=P) w base t o.type e i z size bytes ht hi hz hsize hby hzs hsz v n xs hown ad m c news hl hnews h1 h63 hbytes hbase;unfold Yields execOp;simp only [ho,resolve,invoke,builtin,Sem.run_bind,Sem.run_pure,Result.andThen_ok,List.map_toArray,List.map_cons,List.map_nil,hs,hx,hr];exact h v' w' h2 h3 h5
theorem InvS.evn{ops:Array Oper}{told:Nat->Value}{S:Array Bool->World->Prop}{a0:Act}{listed:Array Bool}{A:Act}{w:World}(h:InvS ops told S a0 listed A w){d j:Nat}{x:Value}
  (hno:((List.range ops.size).all fun i=>i==j||(match ops[i]? with|some o=>o.dst !=some d|none=>true))=true) (hu:listed.getD j false=false) (h0:a0.tmps[d]? =some x):A.tmps[d]? =some x:=by
 rw [h.old d fun i o ho hl e=> ?_]
 ·exact h0
 ·have hi:i<ops.size:=(Array.getElem?_eq_some_iff.1 ho).1;have:=List.all_eq_true.1 hno i (List.mem_range.2 hi);simp only [ho] at this
  rcases Bool.or_eq_true_iff.1 this with h1|h1
  ·obtain rfl:i=j:=by simpa using h1
   rw [hu] at hl
   cases hl
  ·rw [e] at h1;simp at h1
structure AppS(W:World)(i1 n:Nat)(P1 R1:γ->World->Prop)(g:γ)(l:Array Bool)(X:World):Prop where
 bel:l.getD n false=false->Below W.heap.size W X
 one:l.getD i1 false=true->l.getD n false=false->P1 g X
 done:l.getD n false=true->R1 g X
variable {W:World} {i1 n:Nat} {P1 R1:γ->World->Prop}
theorem AppS.start(g:γ)(k:Nat):AppS W i1 n P1 R1 g (Array.replicate k false) W.drew:=by
 have e:∀i,¬((Array.replicate k false).getD i false=true):=fun i h=>by simp [Array.getD_eq_getD_getElem?,Array.getElem?_replicate] at h;split at h<;>simp_all
 exact⟨fun _=>Below.drew (Below.refl _ _),fun h=>absurd h (e _),fun h=>absurd h (e _)⟩
theorem AppS.same{g:γ}{l:Array Bool}{X:World}{i:Nat}(h:AppS W i1 n P1 R1 g l X)(h1:i≠i1)(h2:i≠n):AppS W i1 n P1 R1 g (l.setIfInBounds i true) X:=
 ⟨fun e=>(by rw [getD_set_ne false h2] at e;exact h.bel e),fun e e'=>(by rw [getD_set_ne false h1] at e;rw [getD_set_ne false h2] at e';exact h.one e e'),fun e=>(by rw [getD_set_ne false h2] at e;exact h.done e)⟩
theorem AppS.first{g g':γ}{l:Array Bool}{X Y:World}(h:AppS W i1 n P1 R1 g l X)(hne:i1≠n)(hun:l.getD n false=false)(hb:Below X.heap.size X Y)(hp:P1 g' Y):AppS W i1 n P1 R1 g' (l.setIfInBounds i1 true) Y:=
 ⟨fun _=>(h.bel hun).trans (hb.mono (h.bel hun).size),fun _ _=>hp,fun e=>(by rw [getD_set_ne false hne,hun] at e;cases e)⟩
theorem AppS.last{g g':γ}{l:Array Bool}{X Y:World}(_h:AppS W i1 n P1 R1 g l X)(hin:n<l.size)(hR:R1 g' Y):AppS W i1 n P1 R1 g' (l.setIfInBounds n true) Y:=
 ⟨fun e=>(by rw [set_self hin] at e;cases e),fun _ e=>(by rw [set_self hin] at e;cases e),fun _=>hR⟩
end
end
end Go.Proofs.YtnmalggmbeipaaaGreatDoor.Reg
namespace Go.Proofs.YtnmalggmbeipaaaGreatDoor.Reg
section
open Go Go.RowKit
section
variable {β:Type}
def updP(g:Nat->β)(i:Nat)(b:β):Nat->β:=fun j=>if j=i then b else g j
theorem updP_same(g:Nat->β)(i:Nat)(b:β):updP g i b i=b:=if_pos rfl
theorem updP_other(g:Nat->β){i j:Nat}(b:β)(h:j≠i):updP g i b j=g j:=if_neg h
def UpP(P:Nat->β->World->Prop):Prop:=∀i b X Y,Below X.heap.size X Y->P i b X->P i b Y
structure MkP(W:World)(K:List Nat)(P:Nat->β->World->Prop)(g:Nat->β)(l:Array Bool)(X:World):Prop where
 bel:Below W.heap.size W X
 at_:∀i∈K,l.getD i false=true->P i (g i) X
variable {W:World} {K:List Nat} {P:Nat->β->World->Prop}
theorem MkP.start(g:Nat->β)(k:Nat):MkP W K P g (Array.replicate k false) W.drew:=by
 have e:∀i,¬((Array.replicate k false).getD i false=true):=fun i h=>by simp [Array.getD_eq_getD_getElem?,Array.getElem?_replicate] at h;split at h<;>simp_all
 exact⟨Below.drew (Below.refl _ _),fun i _ h=>absurd h (e _)⟩
theorem MkP.up{g:Nat->β}{l:Array Bool}{X Y:World}{i:Nat}(h:MkP W K P g l X)(hi:i ∉ K)(hP:UpP P)(hb:Below X.heap.size X Y):MkP W K P g (l.setIfInBounds i true) Y:=
 ⟨h.bel.trans (hb.mono h.bel.size),fun j hj e=>(by
  have hne:i≠j:=fun e2=>hi (by rw [e2];exact hj)
  rw [getD_set_ne false hne] at e
  exact hP _ _ _ _ hb (h.at_ j hj e))⟩
theorem MkP.new{g:Nat->β}{l:Array Bool}{X Y:World}{i:Nat}(b:β)(h:MkP W K P g l X)(hP:UpP P)(hb:Below X.heap.size X Y)(hp:P i b Y):MkP W K P (updP g i b) (l.setIfInBounds i true) Y:=by
 refine⟨h.bel.trans (hb.mono h.bel.size),fun j hj e=> ?_⟩
 by_cases hji:j=i
 ·subst hji;rw [updP_same];exact hp
 ·rw [getD_set_ne false (fun e=>hji e.symm)] at e;rw [updP_other _ _ hji];exact hP _ _ _ _ hb (h.at_ j hj e)
end
end
end Go.Proofs.YtnmalggmbeipaaaGreatDoor.Reg
namespace Go.Proofs.YtnmalggmbeipaaaGreatDoor.Reg
section
open Go Go.RowKit
section
variable {γ:Type}
variable {n s:Nat} {R0:γ->Array Bool->World->Prop} {R1 R2:γ->World->Prop}
end
end
end Go.Proofs.YtnmalggmbeipaaaGreatDoor.Reg
