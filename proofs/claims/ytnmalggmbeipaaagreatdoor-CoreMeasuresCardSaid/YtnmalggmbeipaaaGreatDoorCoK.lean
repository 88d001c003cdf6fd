/- A part of the proof. -/
import Derived.Test.YtnmalggmbeipaaaGreatDoorCoQ
import Derived.Maps.AppendAt
import Derived.Test.YtnmalggmbeipaaaGreatDoorRegion
set_option maxRecDepth 100000
set_option maxHeartbeats 16000000
namespace Go.Proofs.YtnmalggmbeipaaaGreatDoor
section
section
open Go Go.RowKit
attribute [local go_sem ↓] Go.wp_at_zero Go.wp_at_succ
attribute [local go_sem] qX
abbrev qc(q:Option Nat):Value:=.pointer (q.map fun a=>⟨a,0,none⟩)
def QV(w:World)(q:Option Nat):Prop:=∀a,q=some a->∃c t,w.heap[a]? =some (.cells c t (0,0))
theorem keq_ptr(q q':Option Nat)(w:World)(h:QV w q)(h':QV w q'):(Op.equal 23 (qc q) (qc q')).run Tryz.prog w=.ok (q==q') w:=by
 have u3:=Tryz.underlying23;unfold Op.equal;rw [show Op.maxDepth=9999+1 from rfl,Op.equalIn];simp only [Sem.run_bind,run_underlying Tryz.underlying23,Result.andThen_ok];have z3:=Tryz.sizeOf78
 cases q with
 |none=>
  cases q' with
  |none=>
   show Sem.run _ _ _=_
   simp only [qc,Option.map_none]
   go_simp
  |some b=>
   simp only [qc,Option.map_none,Option.map_some]
   go_simp
 |some a=>
  cases q' with
  |none=>
   simp only [qc,Option.map_none,Option.map_some]
   go_simp
  |some b=>
   simp only [qc,Option.map_some]
   go_simp
   by_cases hq:a=b
   ·subst hq;rw [run_sameAddr_same];simp
   ·obtain⟨c,t,hc⟩:=h a rfl;obtain⟨c',t',hc'⟩:=h' b rfl;rw [run_sameAddr_other w (fun e=>hq (congrArg Addr.block e)) hc hc'];simp [hq]
def klookD(D:List (Option Nat×Int))(q:Option Nat)(i:Nat):Option (Nat×Value):=match D with
 | []=>none
 |p::D=>if q=p.1 then some (i,.int .i64 p.2) else klookD D q (i+1)
def kP(es:List MapEntry)(D:List (Option Nat×Int)):Prop:=es.map (fun e=>(e.key,e.val))=D.map fun p=>(qc p.1,Value.int .i64 p.2)
theorem Ur(q:Option Nat)(w:World)(hq0:QV w q):∀(es:List MapEntry) (D:List (Option Nat×Int)) (i:Nat),(∀p∈D,QV w p.1)->kP es D->(Instr.findAsking 23 (qc q) es i).run Tryz.prog w=.ok (klookD D q i) w
 | [],[],i,_,_=>by simp [Instr.findAsking,klookD]
 | [],p::D,i,_,h=>by simp [kP] at h
 |e::es,[],i,_,h=>by simp [kP] at h
 |e::es,p::D,i,hD,h=>by
  simp only [kP,List.map_cons,List.cons.injEq,Prod.mk.injEq] at h;obtain⟨⟨h1,h2⟩,h3⟩:=h;have ih:=Ur q w hq0 es D (i+1) (fun p hp=>hD p (List.mem_cons_of_mem _ hp)) h3;rw [Instr.findAsking,klookD];simp only [Sem.run_bind,h1,keq_ptr q p.1 w hq0 (hD p (List.mem_cons_self ..)),Result.andThen_ok]
  by_cases hq:q=p.1
  ·simp [hq,h2]
  ·have hb:(q==p.1)=false:=by simpa using hq
   simp only [hb,hq,if_false];exact ih
theorem Vr(q:Option Nat):∀(es:List MapEntry) (D:List (Option Nat×Int)) (i:Nat),kP es D->D≠ []->∀d,Tryz.prog.underlying 23=some d->Instr.findNow d (qc q) es i=none
 | [],[],_,_,h,_,_=>absurd rfl h
 | [],p::D,_,h,_,_,_=>by simp [kP] at h
 |e::es,[],_,h,_,_,_=>by simp [kP] at h
 |e::es,p::D,i,h,_,d,hd=>by
  simp only [kP,List.map_cons,List.cons.injEq,Prod.mk.injEq] at h;have hd':=Tryz.underlying23;rw [hd] at hd';obtain rfl:=Option.some.inj hd';rw [Instr.findNow,h.1.1];rfl
theorem yy(q:Option Nat)(w:World)(es:List MapEntry)(D:List (Option Nat×Int))(hq0:QV w q)(hD:∀p∈D,QV w p.1)(h:kP es D):(Instr.findKey 23 (qc q) es).run Tryz.prog w=.ok (klookD D q 0) w:=by
 unfold Instr.findKey;simp only [Sem.run_bind,run_underlying Tryz.underlying23,Result.andThen_ok]
 cases D with
 |nil=>
  have he:es= []:=by simpa [kP] using h
  subst he;simp [Instr.findNow,klookD]
 |cons p D=>
  rw [Vr q es (p::D) 0 h (by simp) _ Tryz.underlying23];exact Ur q w hq0 es (p::D) 0 hD h
def kPtrMap(w:World)(b:Nat)(D:List (Option Nat×Int)):Prop:=∃es clock,w.heap[b]? =some (.map es clock)/\kP es.toList D
def qB:List (Option Nat×Int)->Option Nat->Int×Bool
 | [],_=>(0,false)
 |p::D,q=>if q=p.1 then(p.2,true) else qB D q
def qa:List (Option Nat×Int)->Option Nat->Int->List (Option Nat×Int)
 | [],q,v=> [(q,v)]
 |p::D,q,v=>if q=p.1 then(q,v)::D else p::qa D q v
theorem qb(D:List (Option Nat×Int))(q q':Option Nat)(v:Int):qB (qa D q v) q'=if q'=q then(v,true) else qB D q':=by
 induction D with
 |nil=>
  by_cases h:q'=q<;>simp [qa,qB,h]
 |cons p D ih=>
  rw [qa]
  by_cases h:q=p.1
  ·rw [if_pos h,qB,qB]
   by_cases h2:q'=q
   ·rw [if_pos h2,if_pos h2]
   ·rw [if_neg h2,if_neg h2,if_neg (by rw [<-h];exact h2)]
  ·rw [if_neg h,qB,qB]
   by_cases h2:q'=p.1
   ·rw [if_pos h2,if_pos h2,if_neg (by rw [h2];exact fun e=>h e.symm)]
   ·rw [if_neg h2,if_neg h2];exact ih
theorem zJ(D:List (Option Nat×Int))(q:Option Nat):∀i,(qB D q=(0,false)/\klookD D q i=none)\/∃j v,qB D q=(v,true)/\klookD D q i=some (j,.int .i64 v):=by
 induction D with
 |nil=>exact fun i=>.inl ⟨rfl,rfl⟩
 |cons p D ih=>
  intro i;rw [qB,klookD]
  by_cases h:q=p.1
  ·rw [if_pos h,if_pos h];exact .inr ⟨i,p.2,rfl,rfl⟩
  ·rw [if_neg h,if_neg h];exact ih (i+1)
theorem xL(q:Option Nat)(e:Bool)(w:World):(Instr.checkKey e 10000 23 (qc q)).run Tryz.prog w=.ok () w:=by
 rw [show(10000:Nat)=9999+1 from rfl];unfold Instr.checkKey;simp only [Sem.run_bind,run_underlying Tryz.underlying23,Result.andThen];rfl
theorem KB{w:World}{b:Nat}{q:Option Nat}{D:List (Option Nat×Int)}(h:kPtrMap w b D)(hq:QV w q)(hD:∀p∈D,QV w p.1):
  (Instr.lookup 153 (.map (some b)) (qc q) true).run Tryz.prog w=.ok (.tuple #[.int .i64 (qB D q).1,.bool (qB D q).2]) w:=by
 obtain⟨es,clock,hb,he⟩:=h;have hz:(zeroValue 3).run Tryz.prog w=.ok (.int .i64 0) w:=by kernel_rfl
 have hf:=yy q w es.toList D hq hD he;unfold Instr.lookup;simp only [Sem.run_bind,run_underlying Tryz.underlying153,Result.andThen_ok,Sem.run_pure,MapKept.run_getObj_map hb,xL,hf]
 rcases zJ D q 0 with ⟨h1,h2⟩|⟨j,v,h1,h2⟩
 ·rw [h1,h2];simp [hz]
 ·rw [h1,h2];simp
theorem kput_none{D:List (Option Nat×Int)}{q:Option Nat}{i:Nat}{v:Int}(h:klookD D q i=none):qa D q v=D++ [(q,v)]:=by
 induction D generalizing i with
 |nil=>rfl
 |cons p D ih=>
  rw [klookD] at h
  by_cases hq:q=p.1
  ·rw [if_pos hq] at h;cases h
  ·rw [if_neg hq] at h;rw [qa,if_neg hq,ih h];rfl
theorem kput_some{D:List (Option Nat×Int)}{q:Option Nat}{v:Int}:∀{i j:Nat} {x:Value},klookD D q i=some (j,x)->∃k,j=i+k/\∀es:List MapEntry,kP es D->(∃e,es[k]? =some e/\e.key=qc q)/\kP (es.modify k fun e=>{e with key:=qc q,val:=.int .i64 v}) (qa D q v):=by
 induction D with
 |nil=>intro i j x h;simp [klookD] at h
 |cons p D ih=>
  intro i j x h;rw [klookD] at h
  by_cases hq:q=p.1
  ·rw [if_pos hq] at h;injection h with h;injection h with h1 h2;subst h1;refine⟨0,rfl,fun es he=> ?_⟩
   cases es with
   |nil=>simp [kP] at he
   |cons e es=>
    simp only [kP,List.map_cons,List.cons.injEq,Prod.mk.injEq] at he;refine⟨⟨e,rfl,by rw [he.1.1,hq]⟩,?_⟩;rw [qa,if_pos hq];simp only [kP,List.modify_zero_cons,List.map_cons,List.cons.injEq,true_and];exact he.2
  ·rw [if_neg hq] at h;obtain⟨k,hk,hes⟩:=ih h;refine⟨k+1,by omega,fun es he=> ?_⟩
   cases es with
   |nil=>simp [kP] at he
   |cons e es=>
    simp only [kP,List.map_cons,List.cons.injEq,Prod.mk.injEq] at he;obtain⟨⟨e',h1,h2⟩,h3⟩:=hes es he.2;refine⟨⟨e',by simpa using h1,h2⟩,?_⟩;rw [qa,if_neg hq];simp only [kP,List.modify_succ_cons,List.map_cons,List.cons.injEq,Prod.mk.injEq];exact⟨he.1,h3⟩
theorem zj{w:World}{b:Nat}{q:Option Nat}{D:List (Option Nat×Int)}(v:Int)(h:kPtrMap w b D)(hq:QV w q)(hD:∀p∈D,QV w p.1):
  ∃w',(Instr.mapUpdate 153 (.map (some b)) (qc q) (.int .i64 v)).run Tryz.prog w=.ok () w'/\kPtrMap w' b (qa D q v)/\w.grownBy w' (some b):=by
 obtain⟨es,clock,hb,he⟩:=h;have hlt:=jS hb;have hf:=yy q w es.toList D hq hD he
 have grown:∀o,w.grownBy {w with heap:=w.heap.setIfInBounds b o} (some b):=fun o=>
  ⟨rfl,rfl,rfl,by simp,fun k hk hne=>by
   show(w.heap.setIfInBounds b o)[k]? =w.heap[k]?
   rw [Array.getElem?_setIfInBounds_ne (fun e=>hne (by rw [e]))]⟩
 have got:∀o,({w with heap:=w.heap.setIfInBounds b o}:World).heap[b]? =some o:=fun o=>by
  show(w.heap.setIfInBounds b o)[b]? =some o
  simp [hlt]
 unfold Instr.mapUpdate;simp only [Sem.run_bind,run_underlying Tryz.underlying153,Result.andThen_ok,MapKept.run_getObj_map hb,xL,hf]
 rcases zJ D q 0 with ⟨_,h2⟩|⟨j,x,_,h2⟩
 ·rw [h2];simp only [MapKept.run_setObj_map _ hb];refine⟨_,rfl,⟨_,_,got _,?_⟩,grown _⟩;rw [kput_none h2];simp only [kP,Array.toList_push,List.map_append,List.map_cons,List.map_nil];rw [show es.toList.map (fun e=>(e.key,e.val))=_ from he]
 ·rw [h2];obtain⟨k,hk,hes⟩:=kput_some (v:=v) h2;obtain rfl:j=k:=by omega
  obtain⟨⟨e,he1,he2⟩,he3⟩:=hes es.toList he
  have hek:((es[j]?).map (·.key)).getD (qc q)=qc q:=by
   rw [<-Array.getElem?_toList,he1];simp [he2]
  have hst:(Instr.keyThatStays (qc q) (qc q)).run Tryz.prog w=.ok (qc q) w:=by
   simp [Instr.keyThatStays,Instr.sameBits]
  simp only [Sem.run_bind,hek,hst,Result.andThen_ok,MapKept.run_setObj_map _ hb];refine⟨_,rfl,⟨_,_,got _,?_⟩,grown _⟩;rw [Array.toList_modify];exact he3
end
end
end Go.Proofs.YtnmalggmbeipaaaGreatDoor
namespace Go.Proofs.YtnmalggmbeipaaaGreatDoor
section
section
open Go Go.RowKit
attribute [local go_sem ↓] Go.wp_at_zero Go.wp_at_succ
attribute [local go_sem] qX
structure qR(w0 w:World)(kB pB mb:Nat)(D:List (Option Nat×Int))(P:List Nat)(pv:Value):Prop where
 lk:w0.heap.size<=kB
 lp:w0.heap.size<=pB
 lm:w0.heap.size<=mb
 kb:Boxed w kB 153 (.map (some mb))
 pb:Boxed w pB 152 pv
 mp:kPtrMap w mb D
 row:w.ownsRow w0.heap.size 23 1 pv P.length (P.map fun q=>qc (some q))
 be:Below w0.heap.size w0 w
theorem xF{w:World}{B mb:Nat}{t:TypeId}{v:Value}{D:List (Option Nat×Int)}(h:Boxed w B t v)(hm:kPtrMap w mb D):B≠mb:=by
 rintro rfl;obtain⟨es,c,h1,_⟩:=hm;have:=(show w.heap[B]? =_ from h).symm.trans h1
 cases this
theorem Ks{w:World}{b e s k mb:Nat}{v:Value}{xs:List Value}{D:List (Option Nat×Int)}(h:w.ownsRow b e s v k xs)(hm:kPtrMap w mb D):∀g,v.ownBlock=some g->g≠mb:=by
 rintro g e rfl;obtain⟨es,c,h1,_⟩:=hm;obtain⟨o,ho,hc⟩:=Kt h g e;rw [h1] at ho
 cases ho
 cases hc
theorem kPtrMap.keep{w w':World}{mb:Nat}{row:Option Nat}{D:List (Option Nat×Int)}(h:kPtrMap w mb D)(hg:w.grownBy w' row)(hr:row≠some mb):kPtrMap w' mb D:=by
 obtain⟨es,c,h1,h2⟩:=h;exact⟨es,c,(hg.block mb (jS h1) (fun e=>hr e.symm)).trans h1,h2⟩
theorem qR.map{w0 w w':World}{kB pB mb:Nat}{D D':List (Option Nat×Int)}{P:List Nat}{pv:Value}(h:qR w0 w kB pB mb D P pv)(hg:w.grownBy w' (some mb))(hm:kPtrMap w' mb D'):qR w0 w' kB pB mb D' P pv:=
 ⟨h.lk,h.lp,h.lm,h.kb.kept hg (fun e=>xF h.kb h.mp (Option.some.inj e)),h.pb.kept hg (fun e=>xF h.pb h.mp (Option.some.inj e)),hm,qp h.row hg (fun g e e'=>Ks h.row h.mp g e (Option.some.inj e').symm),h.be.grown hg h.be.size (fun k e=>by cases e;exact h.lm)⟩
theorem qR.up{w0 w w':World}{kB pB mb:Nat}{D:List (Option Nat×Int)}{P:List Nat}{pv:Value}(h:qR w0 w kB pB mb D P pv)(hb:Below w.heap.size w w'):qR w0 w' kB pB mb D P pv:=by
 have hg:=qC none hb;exact⟨h.lk,h.lp,h.lm,h.kb.kept hg (by simp),h.pb.kept hg (by simp),h.mp.keep hg (by simp),vX h.row hb,h.be.trans (hb.mono h.be.size)⟩
theorem qR.path{w0 w w4:World}{kB pB mb:Nat}{D:List (Option Nat×Int)}{P P':List Nat}{pv pv':Value}{o:Obj}(h:qR w0 w kB pB mb D P pv)(hg:(w.alloc o).grownBy w4 pv.ownBlock)(hr:w4.ownsRow w0.heap.size 23 1 pv' P'.length (P'.map fun q=>qc (some q))):
  Boxed w4 pB 152 pv/\qR w0 (w4.setCell ⟨pB,0,none⟩ pv') kB pB mb D P' pv':=by
 have h1:=h.up (j3 w o);have kb4:=h1.kb.kept hg (h1.kb.not_row (by decide) h1.row);have pb4:=h1.pb.kept hg (h1.pb.not_row (by decide) h1.row);have mp4:=h1.mp.keep hg (fun e=>Ks h1.row h1.mp _ e rfl);have be4:Below w0.heap.size w0 w4:=h1.be.grown hg h1.be.size (fun k e=>(kl h1.row e).1);have s:=grownBy_setCell' w4 pB pv';exact⟨pb4,h.lk,h.lp,h.lm,kb4.kept s (fun e=>Z3 kb4 pb4 (by decide) (Option.some.inj e)),pb4.set _,mp4.keep s (fun e=>xF pb4 mp4 (Option.some.inj e)),hr.kept s (.inr (pb4.not_row (by decide) hr).symm),be4.setCell (p:=⟨pB,0,none⟩) h.lp _⟩
theorem qR.pop{w0 w:World}{kB pB mb:Nat}{D:List (Option Nat×Int)}{P:List Nat}{q:Nat}{pv:Value}(h:qR w0 w kB pB mb D (P++ [q]) pv):
  ∃g cap,pv=.slice (some ⟨g,0,none⟩) (P.length+1) cap/\P.length+1<=cap/\w.cell? ⟨g,P.length,none⟩=some (qc (some q))/\g<w.heap.size/\qR w0 (w.setCell ⟨pB,0,none⟩ (.slice (some ⟨g,0,none⟩) P.length cap)) kB pB mb D P (.slice (some ⟨g,0,none⟩) P.length cap):=by
 have hl:(P++ [q]).length=P.length+1:=by simp
 rcases h.row.2 with ⟨_,h0⟩|⟨g,cap,cur,rfl,hb,hh,hn,hm,hs,ht⟩
 ·rw [hl] at h0;omega
 ·rw [hl] at hn ht;have key:∀j u,((P++ [q]).map fun q=>qc (some q))[j]? =some u->w.cell? ((⟨g,0,none⟩:Addr).add j)=some u:=h.row.cells (g:=g) rfl;have ha:∀j,(⟨g,0,none⟩:Addr).add j=⟨g,j,none⟩:=fun j=>by unfold Addr.add;split<;>simp_all
  have k0:=key P.length (qc (some q)) (by simp);rw [ha] at k0
  have hr:w.ownsRow w0.heap.size 23 1 (.slice (some ⟨g,0,none⟩) P.length cap) P.length (P.map fun q=>qc (some q)):=by
   refine⟨by simp,.inr ⟨g,cap,cur,rfl,hb,hh,by omega,hm,hs,?_⟩⟩;have:(cur.toList.take ((P.length+1)*1)).take (P.length*1)=((P++ [q]).map fun q=>qc (some q)).take (P.length*1):=by rw [ht]
   rw [List.take_take,Nat.min_eq_left (by omega)] at this;rw [this];simp
  have s:=grownBy_setCell' w pB (.slice (some ⟨g,0,none⟩) P.length cap);refine⟨g,cap,by rw [hl],hn,k0,(Array.getElem?_eq_some_iff.1 hh).1,h.lk,h.lp,h.lm,h.kb.kept s (fun e=>Z3 h.kb h.pb (by decide) (Option.some.inj e)),h.pb.set _,h.mp.keep s (fun e=>xF h.pb h.mp (Option.some.inj e)),hr.kept s (.inr (h.pb.not_row (by decide) hr).symm),h.be.setCell (p:=⟨pB,0,none⟩) h.lp _⟩
theorem K0(w0 w:World)(kB pB mb q:Nat)(D:List (Option Nat×Int))(P:List Nat)(pv:Value)(h:qR w0 w kB pB mb D P pv)(hq:QV w (some q))(hD:∀p∈D,QV w p.1)(hP:P.length<=1000000000):
  Calls Tryz.prog 81 #[.pointer (some ⟨q,0,none⟩),.pointer (some ⟨kB,0,none⟩),.pointer (some ⟨pB,0,none⟩)] w fun e w'=>e=.returned (.tuple #[])/\∃pv',qR w0 w' kB pB mb (qa D (some q) (-1)) (P++ [q]) pv':=by
 obtain⟨w2,hup,hm2,hg2⟩:=zj (-1) h.mp hq hD;have hup:(Instr.mapUpdate 153 (.map (some mb)) (.pointer (some ⟨q,0,none⟩)) (.int .i64 (-1))).run Tryz.prog w=.ok () w2:=hup;have h2:=h.map hg2 hm2;have hkb:=h.kb.cell;have hpb2:=h2.pb.cell;have H2:=j0 h2;have hsz:=h2.be.size;obtain⟨i0,hif,hy0,hy1,hy2⟩:=info_parts Tryz.infoCoP;clear hm2 hg2 h2 h hq hD
 go_enter Tryz.func81,Tryz.ntmps81
 go_wp2_with (at_builtin;go_must (refine wpList_append_own_at _ rfl (.tmp 6) (.tmp 8) 152 rfl w0.heap.size 23 i0 (.pointer none) 1 8 Tryz.underlying152 hif hy0 hy1 hy2 rfl (by decide) pv _ _ rfl (kt H2.out.row _) ⟨_,0,none⟩ 1 1 [.pointer (some ⟨q,0,none⟩)] rfl rfl (cell_one_new _ _ _) (by simp [Value.oneCell']) (by unfold maxLen;omega) (by omega) (by simp;omega) ?_;intro v4 w4 ho hg4 _ _;obtain⟨b4,c4,hs4⟩:∃b c,v4=.slice b (P.length+1) c:=Kb ho;subst hs4;have hpt:=H2.out.path (P':=P++ [q]) hg4 (by rw [List.length_append,List.map_append];exact ho);have HPT:=j0 hpt.2;have hc4:=hpt.1.cell;have hf4:=hpt.1.frozen;clear hpt ho hg4))
 go_end0
 exact⟨rfl,_,HPT.out⟩
end
end
end Go.Proofs.YtnmalggmbeipaaaGreatDoor
namespace Go.Proofs.YtnmalggmbeipaaaGreatDoor
section
section
open Go Go.RowKit
def qz(jP:Co->Int->Int->Int):Co->Int
 | .nil=>0
 | .node k s z a b=>jP (.node k s z a b) (qz jP a) (qz jP b)
structure KE where
 q:Nat
 k:Int
 s:W4
 z:Bool
 a:Co
 b:Co
 pa:Option Nat
 pb:Option Nat
def KE.co(x:KE):Co:=.node x.k x.s x.z x.a x.b
structure Zw(w:World)(x:KE):Prop where
 hb:w.heap[x.q]? =some (yH x.k x.s x.z (qc x.pa) (qc x.pb))
 ca:jD w x.a (qc x.pa)
 cb:jD w x.b (qc x.pb)
theorem Zw.co{w:World}{x:KE}(h:Zw w x):jD w x.co (qc (some x.q)):=.node _ _ _ _ _ _ _ _ h.hb h.ca h.cb
theorem ZO{w:World}{c:Co}{v:Value}(h:jD w c v):∃p,v=qc p:=by
 cases h with
 |nil=>exact⟨none,rfl⟩
 |node k s z a b q va vb hb ha hc=>exact⟨some q,rfl⟩
theorem ke_of{w:World}{c:Co}{q:Nat}(h:jD w c (qc (some q))):∃x:KE,x.q=q/\x.co=c/\Zw w x:=by
 cases h with
 |node k s z a b q va vb hb ha hc=>
  obtain⟨pa,rfl⟩:=ZO ha;obtain⟨pb,rfl⟩:=ZO hc;exact⟨⟨q,k,s,z,a,b,pa,pb⟩,rfl,rfl,hb,ha,hc⟩
def Ke(D:List (Option Nat×Int))(p:Option Nat)(c:Co):Nat:=if(qB D p).2 then 0 else 2*jk c
def xK(D:List (Option Nat×Int))(P:List KE):Nat:=(P.map fun x=>1+Ke D x.pa x.a+Ke D x.pb x.b).sum
theorem KY(D:List (Option Nat×Int))(p:Option Nat)(c:Co):Ke D p c<=2*jk c:=by
 unfold Ke
 split<;>omega
theorem Jo(D:List (Option Nat×Int))(k:Option Nat)(v:Int)(p:Option Nat)(c:Co):Ke (qa D k v) p c<=Ke D p c:=by
 unfold Ke;rw [qb]
 by_cases h:p=k
 ·rw [if_pos h];simp
 ·rw [if_neg h];exact jN _
theorem Xl(D:List (Option Nat×Int))(k:Option Nat)(v:Int)(c:Co):Ke (qa D k v) k c=0:=by
 unfold Ke;rw [qb,if_pos rfl];rfl
theorem Xw(D:List (Option Nat×Int))(k:Option Nat)(v:Int)(P:List KE):xK (qa D k v) P<=xK D P:=by
 unfold xK
 induction P with
 |nil=>exact jN _
 |cons x r ih=>
  simp only [List.map_cons,List.sum_cons];have:=Jo D k v x.pa x.a;have:=Jo D k v x.pb x.b;omega
theorem zI(D:List (Option Nat×Int))(P:List KE)(x:KE):xK D (P++ [x])=xK D P+(1+Ke D x.pa x.a+Ke D x.pb x.b):=by
 unfold xK;rw [List.map_append,List.sum_append];simp
structure yQ(jP:Co->Int->Int->Int)(w:World)(q0:Nat)(D:List (Option Nat×Int))(P:List KE):Prop where
 at_:∀x∈P,Zw w x
 inc:P.Pairwise fun x y=>jk y.co<jk x.co
 dd:∀k v,qB D k=(v,true)->(k=none/\v=0)\/∃q c,k=some q/\jD w c (qc (some q))/\((v= -1/\∃x∈P,x.q=q)\/v=qz jP c)
 nl:qB D none=(0,true)
 ks:∀p∈D,QV w p.1
 on:∀x∈P,qB D (some x.q)=(-1,true)
 rt:∃v,qB D (some q0)=(v,true)
theorem zm{w:World}{c:Co}{p:Option Nat}(h:jD w c (qc p)):QV w p:=by
 intro a e;subst e;obtain⟨x,rfl,_,hx⟩:=ke_of h;exact⟨_,_,hx.hb⟩
theorem Qz{D:List (Option Nat×Int)}{q:Option Nat}{v:Int}{p:Option Nat×Int}(h:p∈qa D q v):p∈D\/p=(q,v):=by
 induction D with
 |nil=>exact .inr (by simpa [qa] using h)
 |cons d D ih=>
  rw [qa] at h
  split at h
  ·rcases List.mem_cons.1 h with h|h
   ·exact .inr h
   ·exact .inl (List.mem_cons_of_mem _ h)
  ·rcases List.mem_cons.1 h with h|h
   ·exact .inl (h ▸ List.mem_cons_self ..)
   ·rcases ih h with h|h
    ·exact .inl (List.mem_cons_of_mem _ h)
    ·exact .inr h
theorem XT(x:KE):jk x.a<jk x.co/\jk x.b<jk x.co:=by
 unfold KE.co;rw [jk];omega
theorem yQ.part{jP:Co->Int->Int->Int}{w:World}{q0:Nat}{D:List (Option Nat×Int)}{P:List KE}{x:KE}(h:yQ jP w q0 D (P++ [x])){c:Co}{p:Option Nat}(hc:jD w c (qc p))(hs:jk c<jk x.co){v:Int}(hv:qB D p=(v,true)):v=qz jP c:=by
 rcases h.dd p v hv with ⟨rfl,rfl⟩|⟨q,c',rfl,hc',⟨rfl,y,hy,rfl⟩|rfl⟩
 ·cases hc;rfl
 ·have e:y.co=c:=(h.at_ y hy).co.uniq hc
  rcases List.mem_append.1 hy with hy|hy
  ·have:=(List.pairwise_append.1 h.inc).2.2 y hy x (by simp);rw [e] at this;omega
  ·obtain rfl:y=x:=by simpa using hy
   rw [e] at hs;omega
 ·rw [hc'.uniq hc]
theorem yQ.enter{jP:Co->Int->Int->Int}{w:World}{q0:Nat}{D:List (Option Nat×Int)}{P:List KE}{x y:KE}(h:yQ jP w q0 D (P++ [x]))(hy:Zw w y)(hs:jk y.co<jk x.co)(hn:(qB D (some y.q)).2=false):
  yQ jP w q0 (qa D (some y.q) (-1)) (P++ [x]++ [y]):=by
 refine⟨fun z hz=> ?_,?_,fun k v hv=> ?_,?_,fun p hp=> ?_,fun z hz=> ?_,?_⟩
 ·rcases List.mem_append.1 hz with hz|hz
  ·exact h.at_ z hz
  ·obtain rfl:z=y:=by simpa using hz
   exact hy
 ·rw [List.pairwise_append];refine⟨h.inc,List.pairwise_singleton _ _,fun z hz u hu=> ?_⟩;obtain rfl:u=y:=by simpa using hu
  rcases List.mem_append.1 hz with hz|hz
  ·have:=(List.pairwise_append.1 h.inc).2.2 z hz x (by simp);omega
  ·obtain rfl:z=x:=by simpa using hz
   exact hs
 ·rw [qb] at hv
  split at hv
  ·rename_i e
   injection hv with hv _;exact .inr ⟨y.q,y.co,e,hy.co,.inl ⟨hv.symm,y,by simp,rfl⟩⟩
  ·rcases h.dd k v hv with h1|⟨q,c,h1,h2,⟨h3,z,hz,h4⟩|h3⟩
   ·exact .inl h1
   ·exact .inr ⟨q,c,h1,h2,.inl ⟨h3,z,List.mem_append_left _ hz,h4⟩⟩
   ·exact .inr ⟨q,c,h1,h2,.inr h3⟩
 ·rw [qb,if_neg (by simp)];exact h.nl
 ·rcases Qz hp with hp|rfl
  ·exact h.ks p hp
  ·exact zm hy.co
 ·rw [qb]
  split
  ·rfl
  ·rename_i e
   rcases List.mem_append.1 hz with hz|hz
   ·exact h.on z hz
   ·obtain rfl:z=y:=by simpa using hz
    exact absurd rfl e
 ·obtain⟨v,hv⟩:=h.rt;rw [qb]
  split
  ·exact⟨_,rfl⟩
  ·exact⟨v,hv⟩
theorem yQ.told{jP:Co->Int->Int->Int}{w:World}{q0:Nat}{D:List (Option Nat×Int)}{P:List KE}{x:KE}(h:yQ jP w q0 D (P++ [x])):yQ jP w q0 (qa D (some x.q) (qz jP x.co)) P:=by
 have hx:=h.at_ x (by simp)
 have hne:∀z∈P,z.q≠x.q:=fun z hz e=>by
  have h1:=(List.pairwise_append.1 h.inc).2.2 z hz x (by simp);have h2:=(h.at_ z (List.mem_append_left _ hz)).co;rw [e] at h2;rw [h2.uniq hx.co] at h1;omega
 refine⟨fun z hz=>h.at_ z (List.mem_append_left _ hz),(List.pairwise_append.1 h.inc).1,fun k v hv=> ?_,?_,fun p hp=> ?_,fun z hz=> ?_,?_⟩
 ·rw [qb] at hv
  split at hv
  ·rename_i e
   injection hv with hv _;exact .inr ⟨x.q,x.co,e,hx.co,.inr hv.symm⟩
  ·rename_i e
   rcases h.dd k v hv with h1|⟨q,c,rfl,h2,⟨h3,z,hz,rfl⟩|h3⟩
   ·exact .inl h1
   ·rcases List.mem_append.1 hz with hz|hz
    ·exact .inr ⟨_,c,rfl,h2,.inl ⟨h3,z,hz,rfl⟩⟩
    ·obtain rfl:z=x:=by simpa using hz
     exact absurd rfl e
   ·exact .inr ⟨q,c,rfl,h2,.inr h3⟩
 ·rw [qb,if_neg (by simp)];exact h.nl
 ·rcases Qz hp with hp|rfl
  ·exact h.ks p hp
  ·exact zm hx.co
 ·rw [qb,if_neg (fun e=>hne z hz (Option.some.inj e))];exact h.on z (List.mem_append_left _ hz)
 ·obtain⟨v,hv⟩:=h.rt;rw [qb]
  split
  ·exact⟨_,rfl⟩
  ·exact⟨v,hv⟩
theorem yQ.done{jP:Co->Int->Int->Int}{w:World}{q0:Nat}{c0:Co}{D:List (Option Nat×Int)}(h:yQ jP w q0 D [])(hc:jD w c0 (qc (some q0))):qB D (some q0)=(qz jP c0,true):=by
 obtain⟨v,hv⟩:=h.rt
 rcases h.dd _ v hv with ⟨h1,_⟩|⟨q,c,e,h2,⟨_,z,hz,_⟩|h3⟩
 ·cases h1
 ·cases hz
 ·obtain rfl:=Option.some.inj e;rw [hv,h3,h2.uniq hc]
theorem yQ.start(jP:Co->Int->Int->Int){w:World}{y:KE}(hy:Zw w y):yQ jP w y.q (qa [(none,0)] (some y.q) (-1)) [y]:=by
 refine⟨fun z hz=> ?_,List.pairwise_singleton _ _,fun k v hv=> ?_,rfl,fun p hp=> ?_,fun z hz=> ?_,⟨-1,?_⟩⟩
 ·obtain rfl:z=y:=by simpa using hz
  exact hy
 ·rw [qb] at hv
  split at hv
  ·rename_i e
   injection hv with hv _;exact .inr ⟨y.q,y.co,e,hy.co,.inl ⟨hv.symm,y,by simp,rfl⟩⟩
  ·rw [qB] at hv
   split at hv
   ·rename_i e
    injection hv with hv _;exact .inl ⟨e,hv.symm⟩
   ·rw [qB] at hv
    cases hv
 ·rcases Qz hp with hp|rfl
  ·obtain rfl:p=(none,0):=by simpa using hp
   intro a e
   cases e
  ·exact zm hy.co
 ·obtain rfl:z=y:=by simpa using hz
  rw [qb,if_pos rfl]
 ·rw [qb,if_pos rfl]
end
end
end Go.Proofs.YtnmalggmbeipaaaGreatDoor
namespace Go.Proofs.YtnmalggmbeipaaaGreatDoor
section
section
open Go Go.RowKit
attribute [local go_sem ↓] Go.wp_at_zero Go.wp_at_succ
attribute [local go_sem] qX
theorem Vq{w:World}{b:Nat}{q:Option Nat}{v:Int}{D:List (Option Nat×Int)}(h:kPtrMap w b D)(hq:QV w q)(hD:∀p∈D,QV w p.1)(hv:qB D q=(v,true)):
  (Instr.lookup 153 (.map (some b)) (qc q) false).run Tryz.prog w=.ok (.int .i64 v) w:=by
 obtain⟨es,clock,hb,he⟩:=h;have hf:=yy q w es.toList D hq hD he;unfold Instr.lookup;simp only [Sem.run_bind,run_underlying Tryz.underlying153,Result.andThen_ok,Sem.run_pure,MapKept.run_getObj_map hb,xL,hf]
 rcases zJ D q 0 with ⟨h1,h2⟩|⟨j,v',h1,h2⟩
 ·rw [hv] at h1;cases h1
 ·rw [hv] at h1
  cases h1
  rw [h2];simp
theorem QV.below{w w':World}{B:Nat}{q:Option Nat}(h:QV w q)(hb:Below B w w')(hB:w.heap.size<=B):QV w' q:=by
 intro a e;obtain⟨c,t,hc⟩:=h a e;have hl:=jS hc;exact⟨c,t,(hb.block a (by omega)).trans hc⟩
theorem ZY(x:KE):jk x.co=jk x.a+jk x.b+1:=by
 unfold KE.co;rw [jk];omega
theorem meas_told(D:List (Option Nat×Int))(P:List KE)(x:KE)(v:Int):xK (qa D (some x.q) v) P+1<=xK D (P++ [x]):=by
 rw [zI];have:=Xw D (some x.q) v P;omega
theorem QA(D:List (Option Nat×Int))(P:List KE)(x y:KE)(h:(x.pa=some y.q/\x.a=y.co)\/(x.pb=some y.q/\x.b=y.co))(hn:(qB D (some y.q)).2=false):xK (qa D (some y.q) (-1)) (P++ [x]++ [y])+1<=xK D (P++ [x]):=by
 rw [zI,zI,zI];have h1:=Xw D (some y.q) (-1) P;have ha:=Jo D (some y.q) (-1) x.pa x.a;have hb:=Jo D (some y.q) (-1) x.pb x.b;have ya:=KY (qa D (some y.q) (-1)) y.pa y.a;have yb:=KY (qa D (some y.q) (-1)) y.pb y.b;have hs:=ZY y;have hp:Ke D (some y.q) y.co=2*jk y.co:=by unfold Ke;rw [hn];rfl
 rcases h with ⟨e1,e2⟩|⟨e1,e2⟩
 ·have z:=Xl D (some y.q) (-1) y.co;rw [e1,e2] at ha ⊢;omega
 ·have z:=Xl D (some y.q) (-1) y.co;rw [e1,e2] at hb ⊢;omega
theorem meas_len(D:List (Option Nat×Int))(P:List KE):P.length<=xK D P:=by
 unfold xK
 induction P with
 |nil=>exact jN _
 |cons x r ih=>
  simp only [List.map_cons,List.sum_cons,List.length_cons];omega
theorem Z4(y:KE)(D:List (Option Nat×Int)):xK D [y]<=2*jk y.co:=by
 have ya:=KY D y.pa y.a;have yb:=KY D y.pb y.b;have hs:=ZY y;unfold xK;simp only [List.map_cons,List.map_nil,List.sum_cons,List.sum_nil];omega
theorem tallyM_nn{jP:Co->Int->Int->Int}(hn:∀c a b,0<=jP c a b/\jP c a b<=top):∀c,0<=qz jP c/\qz jP c<=top
 | .nil=>by rw [qz];unfold top;omega
 | .node k s z a b=>by rw [qz];exact hn _ _ _
def tk9(mb q:Nat)(p:Option Addr)(a:Int)(h:Bool):Nat->Value
 |0=>.map (some mb)
 |1=>.pointer (some ⟨q,0,none⟩)
 |2=>.pointer (some ⟨q,0,none⟩)
 |3=>.pointer (some ⟨q,6,none⟩)
 |4=>.pointer p
 |5=>.tuple #[.int .i64 a,.bool h]
 |6=>.tuple #[.int .i64 a,.bool h]
 |7=>.int .i64 a
 |8=>.bool h
 |9=>.int .i64 a
 |10=>.bool h
 |_=>undef
def UQ(mb q:Nat)(p:Option Addr)(a:Int)(h:Bool):Nat->Value
 |0=>.map (some mb)
 |1=>.pointer (some ⟨q,0,none⟩)
 |2=>.pointer (some ⟨q,0,none⟩)
 |3=>.pointer (some ⟨q,7,none⟩)
 |4=>.pointer p
 |5=>.tuple #[.int .i64 a,.bool h]
 |6=>.tuple #[.int .i64 a,.bool h]
 |7=>.int .i64 a
 |8=>.bool h
 |9=>.int .i64 a
 |10=>.bool h
 |_=>undef
def tk11(mb q:Nat)(fn:FuncId)(a b n:Int):Nat->Value
 |0=>.map (some mb)
 |1=>.pointer (some ⟨q,0,none⟩)
 |2=>.func (.func fn) #[] #[]
 |3=>.pointer (some ⟨q,0,none⟩)
 |4=>.int .i64 a
 |5=>.int .i64 b
 |6=>.int .i64 n
 |7=>undef
 |_=>undef
theorem yQ.known{jP:Co->Int->Int->Int}(hn:∀c a b,0<=jP c a b/\jP c a b<=top){w:World}{q0:Nat}{D:List (Option Nat×Int)}{P:List KE}{x:KE}(h:yQ jP w q0 D (P++ [x])){c:Co}{p:Option Nat}(hc:jD w c (qc p))(hs:jk c<jk x.co):
  ∃v k,qB D p=(v,k)/\(0<=v/\v<=top)/\(k=true->v=qz jP c)/\(k=false->∃y:KE,Zw w y/\y.co=c/\p=some y.q):=by
 rcases zJ D p 0 with ⟨h1,_⟩|⟨j,v,h1,_⟩
 ·refine⟨0,false,h1,⟨by omega,by unfold top;omega⟩,fun e=>(by cases e),fun _=> ?_⟩
  cases p with
  |none=>rw [h.nl] at h1;cases h1
  |some q=>
   obtain⟨y,rfl,e2,hy⟩:=ke_of hc;exact⟨y,hy,e2,rfl⟩
 ·have e:=h.part hc hs h1;exact⟨v,true,h1,e ▸ tallyM_nn hn c,fun _=>e,fun e=>by cases e⟩
def Yh:Nat->List (Nat×Nat)
 |1=> [(8,0)]
 |2=> [(1,0)]
 |3=> [(8,0)]
 |4=> [(9,0)]
 |5=> [(11,0)]
 |_=> []
def JU:Nat->List (Nat×Nat)
 |2=> [(41,2)]
 |3=> [(42,3)]
 |4=> [(43,4)]
 |6=> [(45,6)]
 |7=> [(39,7)]
 |8=> [(39,7)]
 |9=> [(46,8)]
 |10=> [(47,9)]
 |_=> []
def JV:Nat->List (Nat×Nat)
 |2=> [(32,2)]
 |3=> [(33,3)]
 |4=> [(34,4)]
 |6=> [(36,6)]
 |7=> [(30,7)]
 |8=> [(30,7)]
 |9=> [(37,8)]
 |10=> [(38,9)]
 |_=> []
theorem QK(F:Co->Prop)(hF:∀k s z a b,F (.node k s z a b)->F a/\F b)(jP:Co->Int->Int->Int)(fn:FuncId)(c0:Co)(q0:Nat)(w:World)(hnn:∀c a b,0<=jP c a b/\jP c a b<=top)(hcf:∀args W,(callFunc fn args).run Tryz.prog W=.ok (.enter fn args) W)
  (hK:∀(c:Co) (q:Nat) (a b:Int) (X:World),Below w.heap.size w X->F c->jD w c (qc (some q))->(0<=a/\a<=top)->(0<=b/\b<=top)->Calls Tryz.prog fn #[qc (some q),.int .i64 a,.int .i64 b] X fun e w'=>e=.returned (.int .i64 (jP c a b))/\Below X.heap.size X w')
  (hc:jD w c0 (qc (some q0))) (hF0:F c0) (hsz:2*jk c0<=1000000000):
  Calls Tryz.prog 37 #[.pointer (some ⟨q0,0,none⟩),.func (.func fn) #[] #[]] w fun e w'=>e=.returned (.int .i64 (qz jP c0))/\Below w.heap.size w w':=by
 obtain⟨y,hyq,hyc,hy⟩:=ke_of hc;have hmm:= @run_makeMap Tryz.prog;obtain⟨w1,hw1⟩:∃X,X=w.alloc (.map #[] 0):=⟨_,rfl⟩;have b1:Below w.heap.size w w1:=by rw [hw1];exact j3 _ _
 have hmp:kPtrMap w1 w.heap.size []:=⟨#[],0,by rw [hw1];exact j1 w _,rfl⟩;obtain⟨w2,hup,hm2,hg2⟩:=zj 0 hmp (q:=none) (fun a e=>by cases e) (fun p h=>by cases h);have hup:(Instr.mapUpdate 153 (.map (some w.heap.size)) (.pointer none) (.int .i64 0)).run Tryz.prog w1=.ok () w2:=hup;have b2:Below w.heap.size w w2:=b1.grown hg2 b1.size (fun k e=>by cases e;exact jN _);rw [hw1] at hup;obtain⟨mb,hmb⟩:∃k,k=w.heap.size:=⟨_,rfl⟩;obtain⟨kB,hkB⟩:∃k,k=w2.heap.size:=⟨_,rfl⟩;obtain⟨pB,hpB⟩:∃k,k=w2.heap.size+1:=⟨_,rfl⟩;obtain⟨w3,hw3⟩:∃X,X=(w2.alloc (.cells #[.map (some w.heap.size)] 153)).alloc (.cells #[.slice none 0 0] 152):=⟨_,rfl⟩;have hs2:(w2.alloc (.cells #[.map (some w.heap.size)] 153)).heap.size=pB:=by rw [hpB,World.size_alloc]
 have h3:qR w w3 kB pB mb [(none,0)] [] (.slice none 0 0):=by
  have b3:Below w2.heap.size w2 w3:=by rw [hw3];exact(j3 _ _).trans ((j3 _ _).mono (by rw [World.size_alloc];omega))
  have hsz2:=b2.size;refine⟨by omega,by omega,by omega,?_,?_,?_,⟨rfl,.inl ⟨rfl,rfl⟩⟩,b2.trans (b3.mono b2.size)⟩
  ·show w3.heap[kB]? =_
   rw [hw3,hkB,hmb];exact j4 (j3 _ _) (j1 w2 _)
  ·show w3.heap[pB]? =_
   rw [hw3,<-hs2];exact j1 _ _
  ·rw [hmb];exact kPtrMap.keep hm2 (qC none b3) (by simp)
 have hyk:QV w3 (some q0):=(zm hc).below h3.be (jN _)
 have HE:=j0 (K0 w w3 kB pB mb q0 [(none,0)] [] (.slice none 0 0) h3 hyk (fun p hp=>by
  obtain rfl:p=(none,0):=by simpa using hp
  intro a e
  cases e) (by simp))
 have HNN:=j0 hnn;have HC0:=j0 hc;have HK:=j0 hK;have HI0:Hid (yQ jP w q0 (qa [(none,0)] (some q0) (-1)) [y]):=j0 (hyq ▸ yQ.start jP hy);have HM0:Hid (xK (qa [(none,0)] (some q0) (-1)) [y]<=2*jk c0):=j0 (hyc ▸ Z4 y _);have HYQ:=j0 hyq
 have HFF0:Hid (∀x∈ [y],F x.co):=j0 (fun x hx=>by
  have e:x=y:=(by simpa using hx)
  rw [e,hyc];exact hF0)
 have HFH:=j0 hF;have HW3:=j0 hw3;have HPB:=j0 hpB;have HKB:=j0 hkB;have HMB:=j0 hmb;clear hF0 hF hm2 hg2 hmp hw1 b1 hc hy hyc hK b2 hnn hyq hyk h3 hw3 hs2 hpB hkB hmb
 go_enter Tryz.func37,Tryz.ntmps37
 go_wp2_with fail
 rw [<-HW3.out,<-HPB.out,<-HKB.out,<-HMB.out];clear hup hmm;refine HE.out.mono ?_;rintro e w4 ⟨rfl,pv4,h4⟩;have H4:=j0 h4;clear h4 HE
 go_wp2_with fail
 go_loopg [] (2*jk c0) (fun gk wr=>∃(D:List (Option Nat×Int)) (P:List KE) (pv:Value),xK D P<=gk/\gk<=1000000000/\Hid (yQ jP w q0 D P)/\Hid (∀x∈P,F x.co)/\Hid (qR w wr kB pB mb D (P.map KE.q) pv))
 case atStart=>exact⟨_,[y],pv4,HM0.out,hsz,HI0,HFF0,by rw [List.map_cons,List.map_nil,HYQ.out];exact H4⟩
 case round=>
  clear HI0 HM0 H4 HFF0;obtain⟨D,P,pv,hme,hgk,HI,HFX,HC⟩:=hrel
  rcases List.eq_nil_or_concat P with rfl|⟨P,x,rfl⟩
  ·have hdn:=HI.out.done HC0.out;have LK:=Vq HC.out.mp ((zm HC0.out).below HC.out.be (jN _)) (fun p hp=>(HI.out.ks p hp).below HC.out.be (jN _)) hdn;have LK:(Instr.lookup 153 (.map (some mb)) (.pointer (some ⟨q0,0,none⟩)) false).run Tryz.prog wr=.ok (.int .i64 (qz jP c0)) wr:=LK
   obtain⟨bb,cc,rfl⟩:∃b c,pv=.slice b 0 c:=by rcases HC.out.row.2 with ⟨h,_⟩|⟨g,cap,cur,h,_⟩<;>exact⟨_,_,h⟩
   have hkb:=HC.out.kb.cell;have hpb:=HC.out.pb.cell;clear hdn
   go_wp2_with fail
   go_ret
   exact⟨rfl,HC.out.be⟩
  ·rw [List.concat_eq_append] at hme HI HFX HC;obtain⟨q,k,s,z,ca,cb,pa,pb⟩:=x;obtain⟨L,hL⟩:∃L,L=P.map KE.q++ [q]:=⟨_,rfl⟩;rw [show(P++ [(⟨q,k,s,z,ca,cb,pa,pb⟩:KE)]).map KE.q=L by rw [hL];simp] at HC;have HL:=j0 hL;have hC:=HC.out;rw [hL] at hC;obtain⟨g,cap,hpv,hcap,hcell,hgl,_⟩:=hC.pop;obtain⟨ln,hln⟩:∃n,n=(P.map KE.q).length:=⟨_,rfl⟩;have HLN:=j0 hln;have HPV:=j0 hpv;have hl1:L.length=ln+1:=by rw [hL,hln];simp
   have hll:=meas_len D (P++ [⟨q,k,s,z,ca,cb,pa,pb⟩]);have hll:ln+1<=1000000000:=by rw [List.length_append,List.length_singleton] at hll;rw [hln,List.length_map];omega
   have HLL:=j0 hl1;have HX:=HI.out.at_ ⟨q,k,s,z,ca,cb,pa,pb⟩ (by simp);have HQ:Hid (w.heap[q]? =some (yH k s z (qc pa) (qc pb))):=j0 HX.hb;have hsa:=XT ⟨q,k,s,z,ca,cb,pa,pb⟩;obtain⟨a,ha,hga,HAA,hta,hna⟩:=HI.out.known HNN.out HX.ca hsa.1;obtain⟨b,hb,hgb,HBB,htb,hnb⟩:=HI.out.known HNN.out HX.cb hsa.2;obtain⟨va,hva⟩:∃v,qc pa=.pointer v:=⟨_,rfl⟩;obtain⟨vb,hvb⟩:∃v,qc pb=.pointer v:=⟨_,rfl⟩;have KQ:∀(p:Option Nat) (c:Co) (X:World),jD w c (qc p)->qR w X kB pB mb D L pv->QV X p:=fun p c X hc hX=>(zm hc).below hX.be (jN _)
   have KD:∀X,qR w X kB pB mb D L pv->∀p∈D,QV X p.1:=fun X hX p hp=>(HI.out.ks p hp).below hX.be (jN _)
   have LKA:Hid (∀X,qR w X kB pB mb D L pv->(Instr.lookup 153 (.map (some mb)) (.pointer va) true).run Tryz.prog X=.ok (.tuple #[.int .i64 a,.bool ha]) X):=j0 (fun X hX=>by
    have:=KB hX.mp (KQ pa ca X HX.ca hX) (KD X hX);rw [hga,hva] at this
    exact this)
   have LKB:Hid (∀X,qR w X kB pB mb D L pv->(Instr.lookup 153 (.map (some mb)) (.pointer vb) true).run Tryz.prog X=.ok (.tuple #[.int .i64 b,.bool hb]) X):=j0 (fun X hX=>by
    have:=KB hX.mp (KQ pb cb X HX.cb hX) (KD X hX);rw [hgb,hvb] at this
    exact this)
   have HKQ:Hid (∀X,qR w X kB pB mb D L pv->QV X (some q)):=j0 (fun X hX=>KQ (some q) _ X HX.co hX);have HKD:=j0 KD;obtain⟨n,hnv⟩:∃n,n=jP (KE.co ⟨q,k,s,z,ca,cb,pa,pb⟩) a b:=⟨_,rfl⟩
   have HNK:Hid (∀X,qR w X kB pB mb D L pv->Calls Tryz.prog fn #[.pointer (some ⟨q,0,none⟩),.int .i64 a,.int .i64 b] X fun e w'=>e=.returned (.int .i64 n)/\Below X.heap.size X w'):=j0 (fun X hX=>by
    rw [hnv]
    exact HK.out _ q a b X hX.be (HFX.out ⟨q,k,s,z,ca,cb,pa,pb⟩ (by simp)) HX.co HAA HBB)
   have HITT:ha=true->hb=true->Hid (yQ jP w q0 (qa D (some q) n) P):=fun e1 e2=>j0 (by
    have:=HI.out.told;rw [show qz jP (KE.co ⟨q,k,s,z,ca,cb,pa,pb⟩)=n by rw [hnv,hta e1,htb e2];rfl] at this
    exact this)
   have hmt:xK (qa D (some q) n) P+1<=xK D (P++ [⟨q,k,s,z,ca,cb,pa,pb⟩]):=meas_told D P ⟨q,k,s,z,ca,cb,pa,pb⟩ n;have HIX:=j0 HITT;have hFk:=HFH.out _ _ _ _ _ (HFX.out ⟨q,k,s,z,ca,cb,pa,pb⟩ (by simp));have HGP:Hid (∀x∈P,F x.co):=j0 (fun x hx=>HFX.out x (List.mem_append_left _ hx))
   have HGa2:Hid (∀y:KE,y.co=ca->∀x∈P++ [(⟨q,k,s,z,ca,cb,pa,pb⟩:KE)]++ [y],F x.co):=j0 (fun y e x hx=>by
    rcases List.mem_append.1 hx with hx|hx
    ·exact HFX.out x hx
    ·obtain rfl:x=y:=by simpa using hx
     rw [e];exact hFk.1)
   have HGb2:Hid (∀y:KE,y.co=cb->∀x∈P++ [(⟨q,k,s,z,ca,cb,pa,pb⟩:KE)]++ [y],F x.co):=j0 (fun y e x hx=>by
    rcases List.mem_append.1 hx with hx|hx
    ·exact HFX.out x hx
    ·obtain rfl:x=y:=by simpa using hx
     rw [e];exact hFk.2)
   have HNa:=j0 hna;have HNb:=j0 hnb;have HVa:=j0 hva;have HVb:=j0 hvb;have HSa:=j0 hsa.1;have HSb:=j0 hsa.2;have HGa:=j0 hga;have HGb:=j0 hgb;have HAA:=j0 HAA;have HBB:=j0 HBB;have HPa:Hid (∀y:KE,y.co=ca->pa=some y.q->(pa=some y.q/\ca=y.co)\/(pb=some y.q/\cb=y.co)):=j0 (fun y e1 e2=>.inl ⟨e2,e1.symm⟩);have HPb:Hid (∀y:KE,y.co=cb->pb=some y.q->(pa=some y.q/\ca=y.co)\/(pb=some y.q/\cb=y.co)):=j0 (fun y e1 e2=>.inr ⟨e2,e1.symm⟩);have hpb:=HC.out.pb.cell;have hkb:=HC.out.kb.cell;rw [hpv,<-hln] at hpb;rw [<-hln] at hcell hcap;replace hcell:wr.cell? ⟨g,ln,none⟩=some (.pointer (some ⟨q,0,none⟩)):=hcell;rw [hva,hvb] at HQ;clear HITT hFk hL hC hln hpv hl1 HX hsa hga hta hna hgb htb hnb hva hvb KQ KD hnv
   go_upto_region 9 with fail
   clear hpb hkb hcell;refine Reg.wp_region_C (tk9 mb q va a ha) (fun _ X=>qR w X kB pB mb D L pv) [0,1,2,3,4,5,6,7,8,9,10] (by rfl) (by kernel_rfl) (by kernel_rfl) ?_ ?_ ?_
   ·exact HC.out.up (Below.drew (Below.refl _ _))
   ·refine Reg.oC (fun listed A X hI hcl hin hun hall _=> ?_) ?_
    ·have e5:=hI.wo 5 rfl;have hX:qR w X kB pB mb D L pv:=hI.st;have f:=hX.kb.cell;have HX:=j0 hX;clear hI hall hX hcl
     go_simp
     first|rfl|exact⟨rfl,HX.out⟩|(refine⟨?_,HX.out⟩;simp [tk9];done)
    refine Reg.oC (fun listed A X hI hcl hin hun hall _=> ?_) ?_
    ·have e8:=hI.wo 8 rfl;have hX:qR w X kB pB mb D L pv:=hI.st;have HX:=j0 hX;clear hI hall hX hcl
     go_simp
     first|rfl|exact⟨rfl,HX.out⟩|(refine⟨?_,HX.out⟩;simp [tk9];done)
    iterate 3
     refine Reg.oC (fun listed A X hI hcl hin hun hall _=> ?_) ?_
     ·have E:=hI.tf hun hall JV;simp only [Reg.TF,JV,tk9] at E;have hX:qR w X kB pB mb D L pv:=hI.st;have hb:=(hX.be.block _ (jS HQ.out)).trans HQ.out;have y6:=jC hb 6;have hyl:=jS hb;simp only [Reg.la,Reg.lb,Reg.lc] at y6;clear hb;have HX:=j0 hX;clear hI hall hX hcl
      go_simp
      first|rfl|exact⟨rfl,HX.out⟩|(refine⟨?_,HX.out⟩;simp [tk9];done)
    refine Reg.oC (fun listed A X hI hcl hin hun hall _=> ?_) ?_
    ·have e31:A.tmps[31]? =some (.map (some mb)):=hI.v hall 0 31;have e35:A.tmps[35]? =some (.pointer va):=hI.v hall 4 35;have hX:qR w X kB pB mb D L pv:=hI.st;have lk:=LKA.out X hX;have HX:=j0 hX;clear hI hall hX hcl
     go_simp
     first|rfl|exact⟨rfl,HX.out⟩|(refine⟨?_,HX.out⟩;simp [tk9];done)
    iterate 5
     refine Reg.oC (fun listed A X hI hcl hin hun hall _=> ?_) ?_
     ·have E:=hI.tf hun hall JV;simp only [Reg.TF,JV,tk9] at E;have hX:qR w X kB pB mb D L pv:=hI.st;have HX:=j0 hX;clear hI hall hX hcl
      go_simp
      first|rfl|exact⟨rfl,HX.out⟩|(refine⟨?_,HX.out⟩;simp [tk9];done)
    trivial
   ·intro X hS;have HX:=j0 hS;clear hS;simp [Reg.finalTmps,Reg.dstAt,Reg.valOf,tk9]
    go_upto_region 10 with fail
    refine Reg.wp_region_C (UQ mb q vb b hb) (fun _ X=>qR w X kB pB mb D L pv) [0,1,2,3,4,5,6,7,8,9,10] (by rfl) (by kernel_rfl) (by kernel_rfl) ?_ ?_ ?_
    ·exact HX.out.up (Below.drew (Below.refl _ _))
    ·refine Reg.oC (fun listed A X hI hcl hin hun hall _=> ?_) ?_
     ·have e5:=hI.wo 5 rfl;have hX:qR w X kB pB mb D L pv:=hI.st;have f:=hX.kb.cell;have HX:=j0 hX;clear hI hall hX hcl
      go_simp
      first|rfl|exact⟨rfl,HX.out⟩|(refine⟨?_,HX.out⟩;simp [UQ];done)
     refine Reg.oC (fun listed A X hI hcl hin hun hall _=> ?_) ?_
     ·have e8:=hI.wo 8 rfl;have hX:qR w X kB pB mb D L pv:=hI.st;have HX:=j0 hX;clear hI hall hX hcl
      go_simp
      first|rfl|exact⟨rfl,HX.out⟩|(refine⟨?_,HX.out⟩;simp [UQ];done)
     iterate 3
      refine Reg.oC (fun listed A X hI hcl hin hun hall _=> ?_) ?_
      ·have E:=hI.tf hun hall JU;simp only [Reg.TF,JU,UQ] at E;have hX:qR w X kB pB mb D L pv:=hI.st;have hb:=(hX.be.block _ (jS HQ.out)).trans HQ.out;have y7:=jC hb 7;have hyl:=jS hb;simp only [Reg.la,Reg.lb,Reg.lc] at y7;clear hb;have HX:=j0 hX;clear hI hall hX hcl
       go_simp
       first|rfl|exact⟨rfl,HX.out⟩|(refine⟨?_,HX.out⟩;simp [UQ];done)
     refine Reg.oC (fun listed A X hI hcl hin hun hall _=> ?_) ?_
     ·have e40:A.tmps[40]? =some (.map (some mb)):=hI.v hall 0 40;have e44:A.tmps[44]? =some (.pointer vb):=hI.v hall 4 44;have hX:qR w X kB pB mb D L pv:=hI.st;have lk:=LKB.out X hX;have HX:=j0 hX;clear hI hall hX hcl
      go_simp
      first|rfl|exact⟨rfl,HX.out⟩|(refine⟨?_,HX.out⟩;simp [UQ];done)
     iterate 5
      refine Reg.oC (fun listed A X hI hcl hin hun hall _=> ?_) ?_
      ·have E:=hI.tf hun hall JU;simp only [Reg.TF,JU,UQ] at E;have hX:qR w X kB pB mb D L pv:=hI.st;have HX:=j0 hX;clear hI hall hX hcl
       go_simp
       first|rfl|exact⟨rfl,HX.out⟩|(refine⟨?_,HX.out⟩;simp [UQ];done)
     trivial
    ·intro X hS;have HX:=j0 hS;clear hS;simp [Reg.finalTmps,Reg.dstAt,Reg.valOf,UQ];have ha1:((a:Int)== -1)=false:=by have:=HAA.out;simp;omega
     have hb1:((b:Int)== -1)=false:=by have:=HBB.out;simp;omega
     cases ha with
     |false=>
      obtain⟨y',hy',hyc',rfl⟩:=HNa.out rfl;obtain rfl:some ⟨y'.q,0,none⟩=va:=by injection HVa.out
      have HE:=j0 (K0 w X kB pB mb y'.q D L pv HX.out ((zm hy'.co).below HX.out.be (jN _)) (fun p hp=>(HI.out.ks p hp).below HX.out.be (jN _)) (by rw [HLL.out];omega));have HIe:=j0 (HI.out.enter hy' (by rw [hyc'];exact HSa.out) (by rw [HGa.out]));have hm4:=QA D P ⟨q,k,s,z,ca,cb,some y'.q,pb⟩ y' (HPa.out y' hyc' rfl) (by rw [HGa.out]);have hb:=(HX.out.be.block _ (jS HQ.out)).trans HQ.out;have y3:=jC hb 6;have hyl:=jS hb;have hkb:=HX.out.kb.cell;simp only [Reg.la,Reg.lb,Reg.lc] at y3;have HGF:=j0 (HGa2.out y' hyc');clear hb hyc'
      go_wp2_with fail
      refine HE.out.mono ?_;rintro e w4 ⟨rfl,pv4,h4⟩;have H4:=j0 h4;clear h4
      go_wp2_with fail
      go_roundg (xK (qa D (some y'.q) (-1)) (P++ [⟨q,k,s,z,ca,cb,some y'.q,pb⟩]++ [y']))
      case rel=>exact⟨_,_,pv4,jN _,by omega,HIe,HGF,by rw [List.map_append,List.map_append];rw [HL.out] at H4;exact H4⟩
      case measure=>omega
     |true=>
      cases hb with
      |false=>
       obtain⟨y',hy',hyc',rfl⟩:=HNb.out rfl;obtain rfl:some ⟨y'.q,0,none⟩=vb:=by injection HVb.out
       have HE:=j0 (K0 w X kB pB mb y'.q D L pv HX.out ((zm hy'.co).below HX.out.be (jN _)) (fun p hp=>(HI.out.ks p hp).below HX.out.be (jN _)) (by rw [HLL.out];omega));have HIe:=j0 (HI.out.enter hy' (by rw [hyc'];exact HSb.out) (by rw [HGb.out]));have hm4:=QA D P ⟨q,k,s,z,ca,cb,pa,some y'.q⟩ y' (HPb.out y' hyc' rfl) (by rw [HGb.out]);have hb:=(HX.out.be.block _ (jS HQ.out)).trans HQ.out;have y3:=jC hb 7;have hyl:=jS hb;have hkb:=HX.out.kb.cell;simp only [Reg.la,Reg.lb,Reg.lc] at y3;have HGF:=j0 (HGb2.out y' hyc');clear hb hyc'
       go_wp2_with fail
       refine HE.out.mono ?_;rintro e w4 ⟨rfl,pv4,h4⟩;have H4:=j0 h4;clear h4
       go_wp2_with fail
       go_roundg (xK (qa D (some y'.q) (-1)) (P++ [⟨q,k,s,z,ca,cb,pa,some y'.q⟩]++ [y']))
       case rel=>exact⟨_,_,pv4,jN _,by omega,HIe,HGF,by rw [List.map_append,List.map_append];rw [HL.out] at H4;exact H4⟩
       case measure=>omega
      |true=>
       have HIT:=HIX.out rfl rfl
       go_upto_region 11 with fail
       refine Reg.wp_region_C (tk11 mb q fn a b n) (Reg.GenC 7 (fun X=>qR w X kB pB mb D L pv) (fun X=>qR w X kB pB mb (qa D (some q) n) L pv)) [0,1,2,3,4,5,6,7] (by rfl) (by kernel_rfl) (by kernel_rfl) ?_ ?_ ?_
       ·exact Reg.GenC.start _ _ (HX.out.up (Below.drew (Below.refl _ _)))
       ·refine Reg.oC (fun listed A X hI hcl hin hun hall HS=> ?_) ?_
        ·have e5:=hI.wo 5 rfl;have hX:=HS.at hcl (by kernel_rfl) hun;have f:=hX.kb.cell;clear hI hall hcl;have HX:=j0 hX;clear hX
         go_simp
         first|rfl|exact⟨rfl,HS.up (by decide)⟩|(refine⟨?_,HS.up (by decide)⟩;simp [tk11])
        iterate 5
         refine Reg.oC (fun listed A X hI hcl hin hun hall HS=> ?_) ?_
         ·have E:=hI.tf hun hall Yh;simp only [Reg.TF,Yh,Reg.la,Reg.lb,Reg.lc] at E;clear hI hall hcl
          go_simp
          first|rfl|exact⟨rfl,HS.up (by decide)⟩|(refine⟨?_,HS.up (by decide)⟩;simp [tk11])
        refine Reg.oC (fun listed A X hI hcl hin hun hall HS=> ?_) ?_
        ·have e50:A.tmps[50]? =some (.func (.func fn) #[] #[]):=hI.v hall 2 50;have e51:A.tmps[51]? =some (.pointer (some ⟨q,0,none⟩)):=hI.v hall 3 51;have e52:A.tmps[52]? =some (.int .i64 a):=hI.v hall 4 52;have e53:A.tmps[53]? =some (.int .i64 b):=hI.v hall 5 53;have hX:=HS.at hcl (by kernel_rfl) hun;clear hI hall;have HX:=j0 hX;clear hX
         go_simp
         exact(HNK.out X HX.out).mono fun e w2 h=>⟨_,h.1,rfl,HS.step hcl (by kernel_rfl) (by simpa using hun) (by decide) (HX.out.up h.2)⟩
        refine Reg.oC (fun listed A X hI hcl hin hun hall HS=> ?_) ?_
        ·have e48:A.tmps[48]? =some (.map (some mb)):=hI.v hall 0 48;have e49:A.tmps[49]? =some (.pointer (some ⟨q,0,none⟩)):=hI.v hall 1 49;have e54:A.tmps[54]? =some (.int .i64 n):=hI.v hall 6 54;have hX:=HS.ahead (by simpa using hun);obtain⟨X2,hup,hm2,hg2⟩:=zj n hX.mp (HKQ.out X hX) (HKD.out X hX);have hup:(Instr.mapUpdate 153 (.map (some mb)) (.pointer (some ⟨q,0,none⟩)) (.int .i64 n)).run Tryz.prog X=.ok () X2:=hup;have HC2:=j0 (hX.map hg2 hm2);clear hI hall hcl;have HX:=j0 hX;clear hX
         go_simp
         exact⟨rfl,Reg.GenC.put hin HC2.out⟩
        trivial
       ·intro X hS;have hR:=hS.done (by rfl);clear hS;simp [Reg.finalTmps,Reg.dstAt,Reg.valOf,tk11];have HR:=j0 hR;clear hR;have hpop:=HR.out;rw [HL.out] at hpop;obtain⟨g',cap',e',hcap',_,hgl',hpop⟩:=hpop.pop;rw [HPV.out] at e';injection e' with e1 _ e2;injection e1 with e1;injection e1 with e1;subst e1;subst e2;have HPO:=j0 hpop;have hcap2:ln+1<=cap:=by rw [HLN.out];exact hcap'
        have hpb:=HR.out.pb.cell;have hpf:=HR.out.pb.frozen;rw [HPV.out,<-HLN.out] at hpb;clear hpop hcap' HR;rw [<-HLN.out] at HPO
        go_wp2_with fail
        go_roundg (xK (qa D (some q) n) P)
        case rel=>exact⟨_,P,_,jN _,by omega,HIT,HGP,HPO⟩
        case measure=>omega
end
end
end Go.Proofs.YtnmalggmbeipaaaGreatDoor
namespace Go.Proofs.YtnmalggmbeipaaaGreatDoor
section
section
section
open Go Go.RowKit
attribute [local go_sem ↓] Go.wp_at_zero Go.wp_at_succ
attribute [local go_sem] qX
theorem cf_csize1(args:Array Value)(W:World):(callFunc 38 args).run Tryz.prog W=.ok (.enter 38 args) W:=by
 simp [callFunc,go_sem,Tryz.func38];rfl
theorem Zp(v:Value)(a b:Int)(w:World)(ha:a<=top)(hb:b<=top)(_ha0:0<=a)(_hb0:0<=b):
  Calls Tryz.prog 38 #[v,.int .i64 a,.int .i64 b] w fun e w'=>e=.returned (.int .i64 (kL [1,a,b]))/\Below w.heap.size w w':=by
 obtain⟨w3,hw3⟩:∃Y,Y=w.alloc (.cells #[.int .i64 1,.int .i64 a,.int .i64 b] 3):=⟨_,rfl⟩;have b3:Below w.heap.size w w3:=by rw [hw3];exact j3 _ _
 have K3:=j0 (xY w.heap.size 3 [1,a,b] w3 (by simp) (fun z hz=>by
  simp only [List.mem_cons,List.not_mem_nil,or_false] at hz
  rcases hz with h|h|h
  ·rw [h];unfold top;omega
  ·rw [h];exact ha
  ·rw [h];exact hb) (by rw [hw3];exact j1 w _))
 have HB3:=j0 b3;clear b3 ha hb
 go_enter Tryz.func38,Tryz.ntmps38
 go_wp2_with fail
 rw [<-hw3];clear hw3;refine K3.out.mono ?_;rintro e wz ⟨rfl,hz⟩;obtain rfl:w3=wz:=hz;clear K3
 go_wp2_with fail
 go_ret
 exact⟨rfl,HB3.out⟩
def sizeM:Co->Int:=qz fun _ a b=>kL [1,a,b]
theorem pl_eq{a b:Int}(ha:0<=a)(hb:0<=b)(h:a+b<=top):pl a b=a+b:=by
 have h1:∀{x:Int},0<=x->zM x=x:=fun {x} hx=>by unfold zM;split<;>omega
 unfold pl;rw [h1 ha,h1 hb];unfold sat;rw [if_pos h]
theorem UH{n a b:Int}(hn:0<=n)(ha:0<=a)(hb:0<=b)(h:n+a+b<=top):kL [n,a,b]=n+a+b:=by
 show pl (pl (pl 0 n) a) b=_
 have h0:pl 0 n=n:=by rw [pl_eq (by omega) hn (by omega)];omega
 rw [h0,pl_eq hn ha (by omega),pl_eq (by omega) hb h]
theorem Qe:∀c:Co,(jk c:Int)<=top->sizeM c=jk c
 | .nil,_=>by unfold sizeM;rw [qz,jk];rfl
 | .node k s z a b,h=>by
  rw [jk] at h ⊢;have e:((1+jk a+jk b:Nat):Int)=1+jk a+jk b:=by omega
  rw [e] at h ⊢;have h1:=Qe a (by omega);have h2:=Qe b (by omega);unfold sizeM at h1 h2 ⊢;rw [qz,h1,h2,UH (by omega) (by omega) (by omega) (by omega)]
theorem Ux(c:Co)(v:Value)(w:World)(hc:jD w c v)(hz:2*jk c<=1000000000):
  Calls Tryz.prog 12 #[v] w fun e w'=>e=.returned (.int .i64 (jk c))/\Below w.heap.size w w':=by
 have key:Calls Tryz.prog 37 #[v,.func (.func 38) #[] #[]] w fun e w'=>e=.returned (.int .i64 (jk c))/\Below w.heap.size w w':=by
  rcases hc.nil_iff with ⟨rfl,rfl⟩|⟨hn,q,rfl⟩
  ·go_enter Tryz.func37,Tryz.ntmps37
   go_wp2_with fail
   go_ret
   exact⟨rfl,Below.refl _ _⟩
  ·have:=QK (fun _=>True) (fun _ _ _ _ _ _=>⟨trivial,trivial⟩) (fun _ a b=>kL [1,a,b]) 38 c q w (fun _ a b=>⟨xm _,xn _ _ _⟩) cf_csize1 (fun c q a b X _ _ _ ha hb=>Zp _ a b X ha.2 hb.2 ha.1 hb.1) hc trivial hz;rw [show qz (fun _ a b=>kL [1,a,b]) c=_ from Qe c (by unfold top;omega)] at this;exact this
 have HK:=j0 key;clear key hc
 go_enter Tryz.func12,Tryz.ntmps12
 go_wp2_with fail
 refine HK.out.mono ?_;rintro e w2 ⟨rfl,hb⟩;have HB:=j0 hb;clear hb
 go_wp2_with fail
 go_ret
 exact⟨rfl,HB.out⟩
end
end
section
section
open Go Go.RowKit
attribute [local go_sem ↓] Go.wp_at_zero Go.wp_at_succ
attribute [local go_sem] qX
def xU(k:Int)(s:W4)(z:Bool):List Nat×List Nat×List Nat:=
 if k=1 then(setN s,[],[]) else if k=2 then([40],[],[41]) else if k=3 then([40],[124],[41]) else if k=4 then([123],[],if z then [125,63] else [125]) else([40,41],[],[])
def frY(k:Int)(s:W4)(z:Bool):Value:=.agg #[.string (baN (xU k s z).1),.string (baN (xU k s z).2.1),.string (baN (xU k s z).2.2)]
def Ze(k:Int)(s:W4)(z:Bool):Int:=(xU k s z).1.length+(xU k s z).2.1.length+(xU k s z).2.2.length
theorem QM(k:Int)(s:W4)(z:Bool)(va vb:Value)(q:Nat)(w:World)(hq:w.heap[q]? =some (yH k s z va vb))(hs:s.fit)(hT:Tab w):
  Calls Tryz.prog 41 #[.pointer (some ⟨q,0,none⟩)] w fun e w'=>e=.returned (frY k s z)/\Below w.heap.size w w':=by
 have x0:=jC hq 0;have hql:=jS hq;have x1:=jC hq 1;have x2:=jC hq 2;have x3:=jC hq 3;have x4:=jC hq 4;have x5:=jC hq 5;simp only [Reg.la,Reg.lb,Reg.lc] at x0 x1 x2 x3 x4 x5;have HB:=fun(o:Obj)=>j3 w o
 have HB:=j0 HB
 by_cases k1:k=1
 ·subst k1;have HS:=j0 (fun X (hX:Below w.heap.size w X)=>set_any s hs X (hT.below hX hT.lt));have e1:frY 1 s z=.agg #[.string (baN (setN s)),.string ⟨#[]⟩,.string ⟨#[]⟩]:=rfl;have HE:=j0 e1;obtain⟨w1,hw1⟩:∃X,X=w.alloc (.cells #[.string ⟨#[]⟩,.string ⟨#[]⟩,.string ⟨#[]⟩] 84):=⟨_,rfl⟩;have b1:Below w.heap.size w w1:=by rw [hw1];exact j3 _ _
  have HS1:=j0 (HS.out w1 b1);have HB1:=j0 b1;obtain⟨rb,hrb⟩:∃b,b=w.heap.size:=⟨_,rfl⟩;have HRB:=j0 hrb;have hr:w1.heap[rb]? =some (.cells #[.string ⟨#[]⟩,.string ⟨#[]⟩,.string ⟨#[]⟩] 84):=by rw [hw1,hrb];exact j1 w _
  have HR:=j0 hr;obtain⟨nm,hnm⟩:∃n,n=baN (setN s):=⟨_,rfl⟩;rw [<-hnm] at HS1 HE;have HW1:=j0 hw1;clear hw1 b1 hrb hr e1 hnm hq hT hs HS
  go_enter Tryz.func41,Tryz.ntmps41
  go_wp2_with fail
  rw [<-HRB.out,<-HW1.out];refine HS1.out.mono ?_;rintro e w2 ⟨rfl,hb2⟩;have hr2:w2.heap[rb]? =some (.cells #[.string ⟨#[]⟩,.string ⟨#[]⟩,.string ⟨#[]⟩] 84):=j4 hb2 HR.out;have hrl:=jS hr2;have c0:=jC hr2 0;have c1:=jC hr2 1;have c2:=jC hr2 2;have HB2:=j0 (HB1.out.trans (hb2.mono HB1.out.size));simp only [Reg.la,Reg.lb,Reg.lc] at c0 c1 c2;have z0:w2.frozen? ⟨rb,0,none⟩=false:=by simp [World.frozen?,hr2]
  have z1:w2.frozen? ⟨rb,1,none⟩=false:=by simp [World.frozen?,hr2]
  have z2:w2.frozen? ⟨rb,2,none⟩=false:=by simp [World.frozen?,hr2]
  have HRL:Hid (w.heap.size<=rb):=j0 (by rw [HRB.out];exact jN _);clear hb2 hr2 x0 x1 x2 x3 x4 x5 HS1
  go_wp2_with fail
  refine bodyPost_ret (v:=.agg #[.string nm,.string ⟨#[]⟩,.string ⟨#[]⟩]) (by simp [results,Tryz.results41,go_sem,c0,c1,c2]) rfl ⟨by rw [HE.out],?_⟩;exact((HB2.out.setCell (p:=⟨rb,0,none⟩) HRL.out _).setCell (p:=⟨rb,1,none⟩) HRL.out _).setCell (p:=⟨rb,2,none⟩) HRL.out _
 by_cases k2:k=2
 ·subst k2;have HE:Hid (frY 2 s z=.agg #[.string ⟨#[40]⟩,.string ⟨#[]⟩,.string ⟨#[41]⟩]):=j0 rfl;clear hq hT hs k1
  go_enter Tryz.func41,Tryz.ntmps41
  go_wp2_with fail
  refine bodyPost_ret (v:=.agg #[.string ⟨#[40]⟩,.string ⟨#[]⟩,.string ⟨#[41]⟩]) (by simp [results,Tryz.results41,go_sem]) rfl ⟨by rw [HE.out],HB.out _⟩
 by_cases k3:k=3
 ·subst k3;have HE:Hid (frY 3 s z=.agg #[.string ⟨#[40]⟩,.string ⟨#[124]⟩,.string ⟨#[41]⟩]):=j0 rfl;clear hq hT hs k1
  go_enter Tryz.func41,Tryz.ntmps41
  go_wp2_with fail
  refine bodyPost_ret (v:=.agg #[.string ⟨#[40]⟩,.string ⟨#[124]⟩,.string ⟨#[41]⟩]) (by simp [results,Tryz.results41,go_sem]) rfl ⟨by rw [HE.out],HB.out _⟩
 by_cases k4:k=4
 ·subst k4
  cases z with
  |true=>
   have HE:Hid (frY 4 s true=.agg #[.string ⟨#[123]⟩,.string ⟨#[]⟩,.string ⟨#[125,63]⟩]):=j0 rfl;clear hq hT hs k1 k2 k3
   go_enter Tryz.func41,Tryz.ntmps41
   go_wp2_with fail
   refine bodyPost_ret (v:=.agg #[.string ⟨#[123]⟩,.string ⟨#[]⟩,.string ⟨#[125,63]⟩]) (by simp [results,Tryz.results41,go_sem]) rfl ⟨by rw [HE.out],HB.out _⟩
  |false=>
   have HE:Hid (frY 4 s false=.agg #[.string ⟨#[123]⟩,.string ⟨#[]⟩,.string ⟨#[125]⟩]):=j0 rfl;clear hq hT hs k1 k2 k3
   go_enter Tryz.func41,Tryz.ntmps41
   go_wp2_with fail
   refine bodyPost_ret (v:=.agg #[.string ⟨#[123]⟩,.string ⟨#[]⟩,.string ⟨#[125]⟩]) (by simp [results,Tryz.results41,go_sem]) rfl ⟨by rw [HE.out],HB.out _⟩
 ·have HE:Hid (frY k s z=.agg #[.string ⟨#[40,41]⟩,.string ⟨#[]⟩,.string ⟨#[]⟩]):=j0 (by unfold frY xU;rw [if_neg k1,if_neg k2,if_neg k3,if_neg k4];rfl);have e1:((k:Int)==1)=false:=by simpa using k1
  have e2:((k:Int)==2)=false:=by simpa using k2
  have e3:((k:Int)==3)=false:=by simpa using k3
  have e4:((k:Int)==4)=false:=by simpa using k4
  clear hq hT hs k1 k2 k3 k4
  go_enter Tryz.func41,Tryz.ntmps41
  go_wp2_with fail
  refine bodyPost_ret (v:=.agg #[.string ⟨#[40,41]⟩,.string ⟨#[]⟩,.string ⟨#[]⟩]) (by simp [results,Tryz.results41,go_sem]) rfl ⟨by rw [HE.out],HB.out _⟩
theorem clong_any(k:Int)(s:W4)(z:Bool)(w:World)(hl:(xU k s z).1.length<=100000/\(xU k s z).2.1.length<=100000/\(xU k s z).2.2.length<=100000):
  Calls Tryz.prog 42 #[frY k s z] w fun e w'=>e=.returned (.int .i64 (Ze k s z))/\Below w.heap.size w w':=by
 obtain⟨l1,l2,l3⟩:(xU k s z).1.length<=100000/\(xU k s z).2.1.length<=100000/\(xU k s z).2.2.length<=100000:=hl;have e1:=baN_size (xU k s z).1;have e2:=baN_size (xU k s z).2.1;have e3:=baN_size (xU k s z).2.2;obtain⟨N,hN⟩:∃N,N=Ze k s z:=⟨_,rfl⟩;rw [<-hN];unfold Ze at hN;unfold frY;generalize baN (xU k s z).1=s1 at*;generalize baN (xU k s z).2.1=s2 at*;generalize baN (xU k s z).2.2=s3 at*;generalize (xU k s z).1.length=n1 at*;generalize (xU k s z).2.1.length=n2 at*;generalize (xU k s z).2.2.length=n3 at*;have HB:=j0 (fun(o:Obj)=>j3 w o);have HN:Hid (N=((s1.size:Int)+s2.size)+s3.size):=j0 (by omega);clear hN
 go_enter Tryz.func42,Tryz.ntmps42
 go_wp2_with fail
 go_ret
 exact⟨by rw [HN.out,e1,e2,e3];rfl,HB.out _⟩
end
end
section
section
open Go Go.RowKit
attribute [local go_sem ↓] Go.wp_at_zero Go.wp_at_succ
attribute [local go_sem] qX
def Kl:Co->List Nat
 | .nil=> []
 | .node k s z a b=>(xU k s z).1++(Kl a++((xU k s z).2.1++(Kl b++(xU k s z).2.2)))
def zZ:Co->Prop
 | .nil=>True
 | .node _ s _ a b=>s.fit/\zZ a/\zZ b
def VO(c:Co)(x y:Int):Int:=match c with
 | .nil=>0
 | .node k s z _ _=>kL [Ze k s z,x,y]
theorem txNum_bd(c:Co)(x y:Int):0<=VO c x y/\VO c x y<=top:=by
 cases c with
 |nil=>exact⟨by show(0:Int)<=0;omega,by show(0:Int)<=top;unfold top;omega⟩
 |node k s z a b=>exact⟨xm _,xn _ _ _⟩
theorem frN_nn(k:Int)(s:W4)(z:Bool):0<=Ze k s z:=by unfold Ze;omega
theorem setN_pos(s:W4):0<(setN s).length:=by
 unfold setN
 split
 ·simp
 ·split
  ·simp
  ·exact br_len _
  ·unfold clsN;simp
theorem frN_pos(k:Int)(s:W4)(z:Bool):0<Ze k s z:=by
 unfold Ze xU
 split
 ·have:=setN_pos s;simp;omega
 ·split
  ·simp
  ·split
   ·simp
   ·split
    ·cases z<;>simp
    ·simp
theorem UR:∀c:Co,((Kl c).length:Int)<=top->qz VO c=(Kl c).length
 | .nil,_=>rfl
 | .node k s z a b,h=>by
  have e:((Kl (.node k s z a b)).length:Int)=Ze k s z+(Kl a).length+(Kl b).length:=by
   rw [Kl];unfold Ze;simp only [List.length_append];omega
  rw [e] at h ⊢;have h0:=frN_nn k s z;have h1:=UR a (by omega);have h2:=UR b (by omega);rw [qz,h1,h2];exact UH h0 (by omega) (by omega) h
theorem cf_text1(args:Array Value)(W:World):(callFunc 40 args).run Tryz.prog W=.ok (.enter 40 args) W:=by
 simp [callFunc,go_sem,Tryz.func40];rfl
theorem ZQ(k:Int)(s:W4)(z:Bool)(_hs:s.fit):(xU k s z).1.length<=100000/\(xU k s z).2.1.length<=100000/\(xU k s z).2.2.length<=100000:=by
 unfold xU;have:=setN_len s
 split
 ·exact⟨by show(setN s).length<=100000;omega,by simp,by simp⟩
 ·split
  ·simp
  ·split
   ·simp
   ·split
    ·cases z<;>simp
    ·simp
theorem Zn(c:Co)(q:Nat)(a b:Int)(w:World)(hc:jD w c (.pointer (some ⟨q,0,none⟩)))(hF:zZ c)(hT:Tab w)(ha:0<=a/\a<=top)(hb:0<=b/\b<=top):
  Calls Tryz.prog 40 #[.pointer (some ⟨q,0,none⟩),.int .i64 a,.int .i64 b] w fun e w'=>e=.returned (.int .i64 (VO c a b))/\Below w.heap.size w w':=by
 cases hc with
 |node k s z ca cb q va vb hq hca hcb=>
  have HFR:=j0 (QM k s z va vb q w hq hF.1 hT);have HLO:=j0 (fun X=>clong_any k s z X (ZQ k s z hF.1));have HLE:Hid (Ze k s z<=top):=j0 (by have:=ZQ k s z hF.1;unfold Ze top;omega);have HAB:=j0 (And.intro ha.2 hb.2)
  show Calls _ _ _ _ fun e w'=>e=.returned (.int .i64 (kL [Ze k s z,a,b]))/\_
  generalize frY k s z=FV at*;generalize Ze k s z=fn at*;clear hq hca hcb hF hT ha hb
  go_enter Tryz.func40,Tryz.ntmps40
  go_wp2_with fail
  refine HFR.out.mono ?_;rintro e w2 ⟨rfl,hb2⟩;have HB2:=j0 hb2;clear hb2 HFR
  go_wp2_with fail
  refine(HLO.out w2).mono ?_;rintro e w3 ⟨rfl,hb3⟩;have HB3:=j0 (HB2.out.trans (hb3.mono HB2.out.size));clear hb3 HLO HB2;obtain⟨w4,hw4⟩:∃Y,Y=w3.alloc (.cells #[.int .i64 fn,.int .i64 a,.int .i64 b] 3):=⟨_,rfl⟩;have b4:Below w3.heap.size w3 w4:=by rw [hw4];exact j3 _ _
  have K4:=j0 (xY w3.heap.size 3 [fn,a,b] w4 (by simp) (fun z hz=>by
   simp only [List.mem_cons,List.not_mem_nil,or_false] at hz
   rcases hz with h|h|h
   ·rw [h];exact HLE.out
   ·rw [h];exact HAB.out.1
   ·rw [h];exact HAB.out.2) (by rw [hw4];exact j1 w3 _))
  have HB4:=j0 (HB3.out.trans (b4.mono HB3.out.size));clear b4
  go_wp2_with fail
  rw [<-hw4];clear hw4;refine K4.out.mono ?_;rintro e wz ⟨rfl,hz⟩;obtain rfl:w4=wz:=hz;clear K4
  go_wp2_with fail
  go_ret
  exact⟨rfl,HB4.out⟩
theorem clen_any(c:Co)(v:Value)(w:World)(hc:jD w c v)(hF:zZ c)(hT:Tab w)(hz:2*jk c<=1000000000)(hl:((Kl c).length:Int)<=top):
  Calls Tryz.prog 37 #[v,.func (.func 40) #[] #[]] w fun e w'=>e=.returned (.int .i64 ((Kl c).length:Int))/\Below w.heap.size w w':=by
 rcases hc.nil_iff with ⟨rfl,rfl⟩|⟨hn,q,rfl⟩
 ·go_enter Tryz.func37,Tryz.ntmps37
  go_wp2_with fail
  go_ret
  exact⟨rfl,Below.refl _ _⟩
 ·have:=QK zZ (fun k s z a b h=>h.2) VO 40 c q w txNum_bd cf_text1 (fun c q a b X hX h1 h2 ha hb=>Zn c q a b X (h2.up hX) h1 (hT.below hX hT.lt) ha hb) hc hF hz;rw [UR c hl] at this;exact this
end
end
end
end Go.Proofs.YtnmalggmbeipaaaGreatDoor
