/- A part of the proof. -/
import Derived.Test.YtnmalggmbeipaaaGreatDoorPaG
import Derived.LaidEql
import Derived.Test.YtnmalggmbeipaaaGreatDoorPaE
import Derived.Lib.MinMax
import Derived.OneCell
set_option maxRecDepth 100000
set_option maxHeartbeats 16000000
namespace Go.Proofs.YtnmalggmbeipaaaGreatDoor
section
open Go Go.RowKit
abbrev j6(q:Nat):Value:=.pointer (some ⟨q,0,none⟩)
def Je(w:World)(q:Nat):Prop:=∃c t,w.heap[q]? =some (.cells c t (0,0))
theorem eq_ptr(q q':Nat)(w:World)(h:Je w q)(h':Je w q'):(Op.equal 45 (j6 q) (j6 q')).run Tryz.prog w=.ok (q==q') w:=by
 have u3:=Tryz.underlying45;unfold Op.equal;rw [show Op.maxDepth=9999+1 from rfl,Op.equalIn];simp only [Sem.run_bind,run_underlying Tryz.underlying45,Result.andThen_ok]
 go_simp
 by_cases hq:q=q'
 ·subst hq;rw [run_sameAddr_same];simp
 ·obtain⟨c,t,hc⟩:=h;obtain⟨c',t',hc'⟩:=h';rw [run_sameAddr_other w (fun e=>hq (congrArg Addr.block e)) hc hc'];simp [hq]
def xB(D:List (Nat×Int))(q i:Nat):Option (Nat×Value):=match D with
 | []=>none
 |p::D=>if q=p.1 then some (i,.int .i64 p.2) else xB D q (i+1)
def qu(es:List MapEntry)(D:List (Nat×Int)):Prop:=es.map (fun e=>(e.key,e.val))=D.map fun p=>(j6 p.1,Value.int .i64 p.2)
theorem XJ(q:Nat)(w:World)(hq0:Je w q):∀(es:List MapEntry) (D:List (Nat×Int)) (i:Nat),(∀p∈D,Je w p.1)->qu es D->(Instr.findAsking 45 (j6 q) es i).run Tryz.prog w=.ok (xB D q i) w
 | [],[],i,_,_=>by simp [Instr.findAsking,xB]
 | [],p::D,i,_,h=>by simp [qu] at h
 |e::es,[],i,_,h=>by simp [qu] at h
 |e::es,p::D,i,hD,h=>by
  simp only [qu,List.map_cons,List.cons.injEq,Prod.mk.injEq] at h;obtain⟨⟨h1,h2⟩,h3⟩:=h;have ih:=XJ q w hq0 es D (i+1) (fun p hp=>hD p (List.mem_cons_of_mem _ hp)) h3;rw [Instr.findAsking,xB];simp only [Sem.run_bind,h1,eq_ptr q p.1 w hq0 (hD p (List.mem_cons_self ..)),Result.andThen_ok]
  by_cases hq:q=p.1
  ·simp [hq,h2]
  ·have hb:(q==p.1)=false:=by simpa using hq
   simp only [hb,hq,if_false];exact ih
theorem XK(q:Nat):∀(es:List MapEntry) (D:List (Nat×Int)) (i:Nat),qu es D->D≠ []->∀d,Tryz.prog.underlying 45=some d->Instr.findNow d (j6 q) es i=none
 | [],[],_,_,h,_,_=>absurd rfl h
 | [],p::D,_,h,_,_,_=>by simp [qu] at h
 |e::es,[],_,h,_,_,_=>by simp [qu] at h
 |e::es,p::D,i,h,_,d,hd=>by
  simp only [qu,List.map_cons,List.cons.injEq,Prod.mk.injEq] at h;have hd':=Tryz.underlying45;rw [hd] at hd';obtain rfl:=Option.some.inj hd';rw [Instr.findNow,h.1.1];rfl
theorem xE(q:Nat)(w:World)(es:List MapEntry)(D:List (Nat×Int))(hq0:Je w q)(hD:∀p∈D,Je w p.1)(h:qu es D):(Instr.findKey 45 (j6 q) es).run Tryz.prog w=.ok (xB D q 0) w:=by
 unfold Instr.findKey;simp only [Sem.run_bind,run_underlying Tryz.underlying45,Result.andThen_ok]
 cases D with
 |nil=>
  have he:es= []:=by simpa [qu] using h
  subst he;simp [Instr.findNow,xB]
 |cons p D=>
  rw [XK q es (p::D) 0 h (by simp) _ Tryz.underlying45];exact XJ q w hq0 es (p::D) 0 hD h
def qH(w:World)(b:Nat)(D:List (Nat×Int)):Prop:=∃es clock,w.heap[b]? =some (.map es clock)/\qu es.toList D
def gotD:List (Nat×Int)->Nat->Int×Bool
 | [],_=>(0,false)
 |p::D,q=>if q=p.1 then(p.2,true) else gotD D q
def xq:List (Nat×Int)->Nat->Int->List (Nat×Int)
 | [],q,v=> [(q,v)]
 |p::D,q,v=>if q=p.1 then(q,v)::D else p::xq D q v
theorem XD(D:List (Nat×Int))(q q':Nat)(v:Int):gotD (xq D q v) q'=if q'=q then(v,true) else gotD D q':=by
 induction D with
 |nil=>
  by_cases h:q'=q<;>simp [xq,gotD,h]
 |cons p D ih=>
  rw [xq]
  by_cases h:q=p.1
  ·rw [if_pos h,gotD,gotD]
   by_cases h2:q'=q
   ·rw [if_pos h2,if_pos h2]
   ·rw [if_neg h2,if_neg h2,if_neg (by rw [<-h];exact h2)]
  ·rw [if_neg h,gotD,gotD]
   by_cases h2:q'=p.1
   ·rw [if_pos h2,if_pos h2,if_neg (by rw [h2];exact fun e=>h e.symm)]
   ·rw [if_neg h2,if_neg h2];exact ih
theorem Jv(D:List (Nat×Int))(q:Nat):∀i,(gotD D q=(0,false)/\xB D q i=none)\/∃j v,gotD D q=(v,true)/\xB D q i=some (j,.int .i64 v):=by
 induction D with
 |nil=>exact fun i=>.inl ⟨rfl,rfl⟩
 |cons p D ih=>
  intro i;rw [gotD,xB]
  by_cases h:q=p.1
  ·rw [if_pos h,if_pos h];exact .inr ⟨i,p.2,rfl,rfl⟩
  ·rw [if_neg h,if_neg h];exact ih (i+1)
theorem vV(q:Nat)(e:Bool)(w:World):(Instr.checkKey e 10000 45 (j6 q)).run Tryz.prog w=.ok () w:=by
 rw [show(10000:Nat)=9999+1 from rfl];unfold Instr.checkKey;simp only [Sem.run_bind,run_underlying Tryz.underlying45,Result.andThen];rfl
theorem QB{w:World}{b q:Nat}{D:List (Nat×Int)}(h:qH w b D)(hq:Je w q)(hD:∀p∈D,Je w p.1):
  (Instr.lookup 116 (.map (some b)) (j6 q) true).run Tryz.prog w=.ok (.tuple #[.int .i64 (gotD D q).1,.bool (gotD D q).2]) w:=by
 obtain⟨es,clock,hb,he⟩:=h;have hz:(zeroValue 3).run Tryz.prog w=.ok (.int .i64 0) w:=by kernel_rfl
 have hf:=xE q w es.toList D hq hD he;unfold Instr.lookup;simp only [Sem.run_bind,run_underlying Tryz.underlying116,Result.andThen_ok,Sem.run_pure,MapKept.run_getObj_map hb,vV,hf]
 rcases Jv D q 0 with ⟨h1,h2⟩|⟨j,v,h1,h2⟩
 ·rw [h1,h2];simp [hz]
 ·rw [h1,h2];simp
theorem Xg{D:List (Nat×Int)}{q i:Nat}{v:Int}(h:xB D q i=none):xq D q v=D++ [(q,v)]:=by
 induction D generalizing i with
 |nil=>rfl
 |cons p D ih=>
  rw [xB] at h
  by_cases hq:q=p.1
  ·rw [if_pos hq] at h;cases h
  ·rw [if_neg hq] at h;rw [xq,if_neg hq,ih h];rfl
theorem Xf{D:List (Nat×Int)}{q:Nat}{v:Int}:∀{i j:Nat} {x:Value},xB D q i=some (j,x)->∃k,j=i+k/\∀es:List MapEntry,qu es D->(∃e,es[k]? =some e/\e.key=j6 q)/\qu (es.modify k fun e=>{e with key:=j6 q,val:=.int .i64 v}) (xq D q v):=by
 induction D with
 |nil=>intro i j x h;simp [xB] at h
 |cons p D ih=>
  intro i j x h;rw [xB] at h
  by_cases hq:q=p.1
  ·rw [if_pos hq] at h;injection h with h;injection h with h1 h2;subst h1;refine⟨0,rfl,fun es he=> ?_⟩
   cases es with
   |nil=>simp [qu] at he
   |cons e es=>
    simp only [qu,List.map_cons,List.cons.injEq,Prod.mk.injEq] at he;refine⟨⟨e,rfl,by rw [he.1.1,hq]⟩,?_⟩;rw [xq,if_pos hq];simp only [qu,List.modify_zero_cons,List.map_cons,List.cons.injEq,true_and];exact he.2
  ·rw [if_neg hq] at h;obtain⟨k,hk,hes⟩:=ih h;refine⟨k+1,by omega,fun es he=> ?_⟩
   cases es with
   |nil=>simp [qu] at he
   |cons e es=>
    simp only [qu,List.map_cons,List.cons.injEq,Prod.mk.injEq] at he;obtain⟨⟨e',h1,h2⟩,h3⟩:=hes es he.2;refine⟨⟨e',by simpa using h1,h2⟩,?_⟩;rw [xq,if_neg hq];simp only [qu,List.modify_succ_cons,List.map_cons,List.cons.injEq,Prod.mk.injEq];exact⟨he.1,h3⟩
theorem Qa{w:World}{b q:Nat}{D:List (Nat×Int)}(v:Int)(h:qH w b D)(hq:Je w q)(hD:∀p∈D,Je w p.1):
  ∃w',(Instr.mapUpdate 116 (.map (some b)) (j6 q) (.int .i64 v)).run Tryz.prog w=.ok () w'/\qH w' b (xq D q v)/\w.grownBy w' (some b):=by
 obtain⟨es,clock,hb,he⟩:=h;have hlt:=jS hb;have hf:=xE q w es.toList D hq hD he
 have grown:∀o,w.grownBy {w with heap:=w.heap.setIfInBounds b o} (some b):=fun o=>
  ⟨rfl,rfl,rfl,by simp,fun k hk hne=>by
   show(w.heap.setIfInBounds b o)[k]? =w.heap[k]?
   rw [Array.getElem?_setIfInBounds_ne (fun e=>hne (by rw [e]))]⟩
 have got:∀o,({w with heap:=w.heap.setIfInBounds b o}:World).heap[b]? =some o:=fun o=>by
  show(w.heap.setIfInBounds b o)[b]? =some o
  simp [hlt]
 unfold Instr.mapUpdate;simp only [Sem.run_bind,run_underlying Tryz.underlying116,Result.andThen_ok,MapKept.run_getObj_map hb,vV,hf]
 rcases Jv D q 0 with ⟨_,h2⟩|⟨j,x,_,h2⟩
 ·rw [h2];simp only [MapKept.run_setObj_map _ hb];refine⟨_,rfl,⟨_,_,got _,?_⟩,grown _⟩;rw [Xg h2];simp only [qu,Array.toList_push,List.map_append,List.map_cons,List.map_nil];rw [show es.toList.map (fun e=>(e.key,e.val))=_ from he]
 ·rw [h2];obtain⟨k,hk,hes⟩:=Xf (v:=v) h2;obtain rfl:j=k:=by omega
  obtain⟨⟨e,he1,he2⟩,he3⟩:=hes es.toList he
  have hek:((es[j]?).map (·.key)).getD (j6 q)=j6 q:=by
   rw [<-Array.getElem?_toList,he1];simp [he2]
  have hst:(Instr.keyThatStays (j6 q) (j6 q)).run Tryz.prog w=.ok (j6 q) w:=by
   simp [Instr.keyThatStays,Instr.sameBits]
  simp only [Sem.run_bind,hek,hst,Result.andThen_ok,MapKept.run_setObj_map _ hb];refine⟨_,rfl,⟨_,_,got _,?_⟩,grown _⟩;rw [Array.toList_modify];exact he3
mutual
def jW(jP:Tr->List Int->Int):Tr->Int
 | .mk k s lo hi z a b l=>jP (.mk k s lo hi z a b l) (XH jP l)
def XH(jP:Tr->List Int->Int):List Tr->List Int
 | []=> []
 |t::l=>jW jP t::XH jP l
end
theorem foldL_map(jP:Tr->List Int->Int)(l:List Tr):XH jP l=l.map (jW jP):=by
 induction l with
 |nil=>rw [XH];rfl
 |cons t l ih=>rw [XH,ih];rfl
mutual
def jc:Tr->Nat
 | .mk _ _ _ _ _ _ _ l=>1+jz l
def jz:List Tr->Nat
 | []=>0
 |t::l=>jc t+jz l
end
theorem jZ{t:Tr}{l:List Tr}(h:t∈l):jc t<=jz l:=by
 induction l with
 |nil=>cases h
 |cons u l ih=>
  rw [jz]
  rcases List.mem_cons.1 h with rfl|h
  ·omega
  ·have:=ih h;omega
theorem jJ.uniq{w:World}{A A':Nat->Prop}{t t':Tr}{v:Value}(h:jJ w A t v)(h':jJ w A' t' v):t=t':=by
 induction h generalizing t' with
 |node k s lo hi z a b l q p cap us hq hb hc ht ih=>
  obtain⟨k',s',lo',hi',z',a',b',l'⟩:=t';obtain⟨q',p',cap',e,_,hb',hk'⟩:=h'.head;injection e with e;injection e with e;injection e with e;subst e;rw [hb] at hb';have e1:=Option.some.inj hb';simp only [vn,Obj.cells.injEq,and_true] at e1;have e2:=congrArg Array.toList e1;simp only [List.cons.injEq,Value.int.injEq,Value.bool.injEq,Value.slice.injEq,true_and,and_true] at e2;obtain⟨r1,r2,r3,r4,r5,r6,r7,r8,⟨r9,r10,r11⟩,r12,r13⟩:=e2;have hs:s=s':=by cases s;cases s';simp_all
  subst r1 hs r6 r7 r8;have ha:a=a':=by omega
  have hbb:b=b':=by omega
  subst ha hbb
  have hl:l=l':=by
   apply List.ext_getElem?;intro i
   by_cases hi:i<l.length
   ·obtain⟨x,hx⟩:∃x,l[i]? =some x:=⟨_,List.getElem?_eq_getElem hi⟩;obtain⟨y,hy⟩:∃y,l'[i]? =some y:=⟨_,List.getElem?_eq_getElem (by omega)⟩;obtain⟨c,g1,g2,g3,g4⟩:=hc i x hx;obtain⟨c',u',f1,f2,f3,f4⟩:=hk' i y hy;rw [g1,f1] at r9;injection r9 with r9;injection r9 with r9;subst r9;rw [g4] at f3;have hu:=Option.some.inj f3;rw [<-hu] at f4;rw [hx,hy,ih i x hx f4]
   ·rw [List.getElem?_eq_none (by omega),List.getElem?_eq_none (by omega)]
  subst hl;rfl
end
section
open Go Go.RowKit
attribute [local go_sem ↓] Go.wp_at_zero Go.wp_at_succ
attribute [local go_sem] qX
def NumsAt(w:World)(v:Value)(ps:List Int):Prop:=
 ∃p cap,v=.slice p ps.length cap/\∀(i:Nat) (x:Int),ps[i]? =some x->∃c,p=some ⟨c,0,none⟩/\c<w.heap.size/\w.cell? ⟨c,i,none⟩=some (.int .i64 x)
def yx(ps:List Int):Int:=ps.foldl max 0
theorem maxR_take(ps:List Int)(m:Nat)(x:Int)(h:ps[m]? =some x):yx (ps.take (m+1))=max (yx (ps.take m)) x:=by
 unfold yx;rw [List.take_add_one,h];simp
theorem ZK(ps:List Int)(c:Int)(hc:0<=c)(h:∀x∈ps,x<=c):0<=yx ps/\yx ps<=c:=by
 unfold yx
 have key:∀(l:List Int) (a:Int),0<=a->a<=c->(∀x∈l,x<=c)->0<=l.foldl max a/\l.foldl max a<=c:=by
  intro l
  induction l with
  |nil=>intro a h0 h1 _;exact⟨h0,h1⟩
  |cons y l ih=>
   intro a h0 h1 h2;have:=h2 y (List.mem_cons_self ..);exact ih (max a y) (by omega) (by omega) (fun x hx=>h2 x (List.mem_cons_of_mem _ hx))
 exact key ps 0 (by omega) hc h
def xk:Tr->List Int->Int
 | .mk k _ _ _ _ _ _ _,ps=>if k=2\/k=3 then yx ps+1 else yx ps
theorem Vh(q:Nat)(k:Int)(s:W4)(lo hi:Int)(z:Bool)(lv v:Value)(a b:Nat)(l:List Tr)(ps:List Int)(w:World)(hq:w.heap[q]? =some (vn k s lo hi z lv a b))(hp:NumsAt w v ps)(hle:∀x∈ps,x<=1099511627776)(hn:ps.length<=1099511627776):
  Calls Tryz.prog 99 #[.pointer (some ⟨q,0,none⟩),v] w fun e w'=>e=.returned (.int .i64 (xk (.mk k s lo hi z a b l) ps))/\w'=w:=by
 obtain⟨p,cap,rfl,hc⟩:=hp;have HC:=j0 hc;have HLE:=j0 hle;have n0:=jC hq 0;have hql:=jS hq;simp only [List.getElem?_toArray,List.getElem?_cons_zero] at n0;have HF:Hid (xk (.mk k s lo hi z a b l) ps=if k=2\/k=3 then yx ps+1 else yx ps):=j0 rfl;generalize xk (.mk k s lo hi z a b l) ps=res at*;clear hc hle hq
 go_enter Tryz.func99,Tryz.ntmps99
 go_wp2_with fail
 go_loopw [5,10] (fun m i wr=>∃j:Nat,j<=ps.length/\i=.int .i64 j/\m=.int .i64 (yx (ps.take j))/\wr=w) (fun _ i _=>ps.length-(intOf i).toNat)
 case atStart=>exact⟨0,by omega,rfl,rfl,rfl⟩
 case round=>
  obtain⟨j,hj,rfl,rfl,hwr⟩:=hrel;obtain rfl:w=wr:=hwr.symm
  by_cases hlt:j<ps.length
  ·obtain⟨x,hx⟩:∃x,ps[j]? =some x:=⟨_,List.getElem?_eq_getElem hlt⟩;obtain⟨c,rfl,hcl,hcell⟩:=HC.out j x hx;have HM:=j0 (maxR_take ps j x hx);clear hx;generalize yx (ps.take j)=y at*
   go_wp2_with fail
   go_roundw
   case rel=>exact⟨j+1,by omega,by go_num,by rw [HM.out],by first|rfl|trivial⟩
   case measure=>simp [intOf];omega
  ·obtain rfl:j=ps.length:=by omega
   have hb:=ZK ps 1099511627776 (by omega) HLE.out;have HT:Hid (yx (ps.take ps.length)=yx ps):=j0 (by rw [List.take_length]);rw [HT.out];generalize yx ps=y at*
   by_cases h2:k=2
   ·subst h2;have HR:Hid (res=y+1):=j0 (by rw [HF.out,if_pos (.inl rfl)])
    go_wp2_with fail
    go_ret
    exact⟨by rw [HR.out]<;>rfl,rfl⟩
   ·by_cases h3:k=3
    ·subst h3;have HR:Hid (res=y+1):=j0 (by rw [HF.out,if_pos (.inr rfl)])
     go_wp2_with fail
     go_ret
     exact⟨by rw [HR.out]<;>rfl,rfl⟩
    ·have HR:Hid (res=y):=j0 (by rw [HF.out,if_neg (by omega)]);have k2:(k==2)=false:=by simpa using h2
     have k3:(k==3)=false:=by simpa using h3
     clear h2 h3
     go_wp2_with fail
     go_ret
     exact⟨by rw [HR.out]<;>rfl,rfl⟩
def Vp(fb pb n cap:Nat):Nat->Value
 |0=>.pointer (some ⟨fb,0,none⟩)
 |1=>.pointer (some ⟨fb,0,none⟩)
 |2=>.pointer (some ⟨fb,2,none⟩)
 |3=>.slice (some ⟨pb,0,none⟩) (n+1) cap
 |4=>.pointer (some ⟨fb,0,none⟩)
 |5=>.pointer (some ⟨fb,0,none⟩)
 |6=>.pointer (some ⟨fb,2,none⟩)
 |7=>.slice (some ⟨pb,0,none⟩) (n+1) cap
 |8=>.int .i64 ((n:Int)+1)
 |9=>.int .i64 (n:Int)
 |10=>.pointer (some ⟨pb,n*2,none⟩)
 |11=>.pointer (some ⟨pb,n*2,none⟩)
 |_=>undef
def Yf:Nat->List (Nat×Nat)
 |0=> [(0,0)]
 |1=> [(3,1)]
 |2=> [(4,2)]
 |3=> [(5,3)]
 |4=> [(0,0)]
 |5=> [(7,5)]
 |6=> [(8,6)]
 |7=> [(9,7)]
 |8=> [(10,8)]
 |9=> [(11,9)]
 |10=> [(6,4),(12,10)]
 |11=> [(13,11)]
 |_=> []
theorem zE(fb pb n cap:Nat)(w:World)(hp:w.cell? ⟨fb,2,none⟩=some (.slice (some ⟨pb,0,none⟩) (n+1) cap))(hn:n<=1099511627776):
  Calls Tryz.prog 145 #[.pointer (some ⟨fb,0,none⟩)] w fun e w'=>e=.returned (.pointer (some ⟨pb,n*2,none⟩))/\w'=w.drew:=by
 have hnn:(n:Int)<(n:Int)+1:=by omega
 have hw:IntKind.i64.wrap (n:Int)=(n:Int):=by simp [IntKind.wrap,IntKind.signed,IntKind.bits];omega
 go_enter Tryz.func145,Tryz.ntmps145
 go_wp2_with fail
 refine Reg.wp_region_S (Vp fb pb n cap) (fun _ X=>X=w.drew) [0,1,2,3,4,5,6,7,8,9,10,11] (by rfl) (by kernel_rfl) (by kernel_rfl) ?_ ?_ ?_
 ·rfl
 ·iterate 12
   refine Reg.oS (fun listed A X hI hin hun hall HS=> ?_) ?_
   ·have E:=hI.tf hun hall Yf;simp only [Reg.TF,Yf,Vp,Reg.la,Reg.lb] at E;subst HS;clear hI hall
    go_simp
    first|rfl|exact⟨rfl,rfl⟩|(simp [Vp,hw])
  trivial
 ·intro W9 hS;have HS9:=j0 hS;clear hS;simp [Reg.finalTmps,Reg.dstAt,Reg.valOf,Vp]
  go_wp2_with fail
  refine bodyPost_ret (v:=.pointer (some ⟨pb,n*2,none⟩)) (by simp [results,Tryz.results145,go_sem]) rfl ⟨rfl,HS9.out⟩
theorem Tryz.infoIntL:(Tryz.prog.info? 3).map (fun i=>(i.zero,i.size,i.bytes))=some (some (.int .i64 0),1,8):=by kernel_rfl
theorem one_intL(n:Int):∀u∈ [Value.int .i64 n],u.oneCell'=true:=by
 intro u hu;obtain rfl:u=.int .i64 n:=by simpa using hu
 rfl
theorem Kb{w:World}{B sz k:Nat}{e:TypeId}{v:Value}{xs:List Value}(h:w.ownsRow B e sz v (k+1) xs):∃b c,v=.slice b (k+1) c:=by
 rcases h.2 with ⟨_,h0⟩|⟨g,cap,cur,h,_⟩
 ·omega
 ·exact⟨_,_,h⟩
theorem ptell_any(B fb pb n cap:Nat)(v:Value)(ps:List Int)(x:Int)(w:World)(hB:B<=w.heap.size)
  (hp:w.cell? ⟨fb,2,none⟩=some (.slice (some ⟨pb,0,none⟩) (n+1) cap)) (hn:n<=1099511627776)
  (hv:w.cell? ⟨pb,n*2+1,none⟩=some v) (hz:w.frozen? ⟨pb,n*2+1,none⟩=false) (hpb:pb<w.heap.size)
  (hown:w.ownsRow B 3 1 v ps.length (ps.map (Value.int .i64))) (hlen:ps.length<=1099511627776) (hne:v.ownBlock≠some pb):
  Calls Tryz.prog 194 #[.pointer (some ⟨fb,0,none⟩),.int .i64 x] w fun e w'=>e=.returned (.tuple #[])/\∃v4 w4 o,w'=w4.setCell ⟨pb,n*2+1,none⟩ v4/\w4.ownsRow B 3 1 v4 (ps.length+1) (ps.map (Value.int .i64)++ [.int .i64 x])/\(w.drew.alloc o).grownBy w4 v.ownBlock/\(v4.ownBlock=v.ownBlock\/v4.ownBlock=some (w.alloc o).heap.size):=by
 have LA:=j0 (zE fb pb n cap w hp hn);obtain⟨i0,hif,hy0,hy1,hy2⟩:=info_parts Tryz.infoIntL;have HNE:=j0 hne;clear hp hne
 go_enter Tryz.func194,Tryz.ntmps194
 go_wp2_with fail
 refine LA.out.mono ?_;rintro e w1 ⟨rfl,hw⟩;have hv1:w1.cell? ⟨pb,n*2+1,none⟩=some v:=by rw [hw];exact hv
 have hz1:w1.frozen? ⟨pb,n*2+1,none⟩=false:=by rw [hw];exact hz
 have hpb1:pb<w1.heap.size:=by rw [hw];exact hpb
 have hB1:B<=w1.heap.size:=by rw [hw];exact hB
 have hown1:w1.ownsRow B 3 1 v ps.length (ps.map (Value.int .i64)):=by rw [hw];exact hown
 have HW:=j0 hw;clear hv hz hpb hB hown hw LA;have HV1:=j0 hv1;have HZ1:=j0 hz1
 go_wp2_with (at_builtin;go_must (refine wpList_append_own_at _ rfl (.tmp 11) (.tmp 13) 60 rfl B 3 i0 (.int .i64 0) 1 8 Tryz.underlying60 hif hy0 hy1 hy2 rfl (by decide) v ps.length (ps.map (Value.int .i64)) rfl (kt hown1 _) ⟨_,0,none⟩ 1 1 _ rfl rfl (cell_one_new _ _ _) (one_intL _) (by unfold maxLen;omega) (by omega) (by simp;omega) ?_;intro v4 w4 ho hg4 _ hat;have hb4:w4.heap[pb]? =w1.heap[pb]? :=(hg4.block pb (by simp;omega) (fun e=>HNE.out e.symm)).trans ((j3 w1 _).block pb hpb1);have hz4:w4.frozen? ⟨pb,n*2+1,none⟩=false:=(World.frozen?_of_block (w:=w1) (a:=⟨pb,n*2+1,none⟩) hb4).trans HZ1.out;have hv4:w4.cell? ⟨pb,n*2+1,none⟩=some v:=(World.cell?_of_block (w:=w1) (a:=⟨pb,n*2+1,none⟩) hb4).trans HV1.out;obtain⟨b4,c4,hs4⟩:∃b c,v4=.slice b (ps.length+1) c:=Kb ho;subst hs4;clear hb4))
 go_end0
 refine⟨rfl,_,w4,.cells #[.int .i64 x] 3,rfl,ho,?_,?_⟩
 ·rw [<-HW.out];exact hg4
 ·rw [HW.out] at hat;exact hat
structure vu where
 q:Nat
 ps:List Int
 v:Value
def zO(s:vu):List Value:= [j6 s.q,s.v]
structure qN(w:World)(B fb pb cap:Nat)(S:List vu)(F M:Value):Prop where
 c0:w.cell? ⟨fb,0,none⟩=some F
 c1:w.cell? ⟨fb,1,none⟩=some M
 c2:w.cell? ⟨fb,2,none⟩=some (.slice (some ⟨pb,0,none⟩) S.length cap)
 fz:w.frozen? ⟨fb,2,none⟩=false
 lt:fb<w.heap.size
 ne:fb≠pb
 fbo:∀s∈S,s.v.ownBlock≠some fb
 row:w.ownsRow B 238 2 (.slice (some ⟨pb,0,none⟩) S.length cap) S.length (S.flatMap zO)
 parts:∀s∈S,w.ownsRow B 3 1 s.v s.ps.length (s.ps.map (Value.int .i64))
 apart:∀s∈S,s.v.ownBlock≠some pb
 pairs:S.Pairwise fun s t=>∀b,s.v.ownBlock=some b->t.v.ownBlock≠some b
theorem stpC_len(S:List vu):(S.flatMap zO).length=S.length*2:=by
 induction S with
 |nil=>rfl
 |cons s S ih=>simp [zO,ih];omega
theorem stpC_set(S:List vu)(s:vu)(u:Value)(ps:List Int):((S++ [s]).flatMap zO).set (S.length*2+1) u=(S++ [(⟨s.q,ps,u⟩:vu)]).flatMap zO:=by
 rw [List.flatMap_append,List.flatMap_append,List.set_append_right _ _ (by rw [stpC_len];omega),stpC_len];simp [zO]
theorem qN.pb_lt{w:World}{B fb pb cap:Nat}{S:List vu}{F M:Value}(h:qN w B fb pb cap S F M):B<=pb/\pb<w.heap.size:=kl h.row rfl
theorem qN.top{w:World}{B fb pb cap:Nat}{S:List vu}{s:vu}{F M:Value}(h:qN w B fb pb cap (S++ [s]) F M):
  w.cell? ⟨pb,S.length*2,none⟩=some (j6 s.q)/\w.cell? ⟨pb,S.length*2+1,none⟩=some s.v/\w.frozen? ⟨pb,S.length*2+1,none⟩=false:=by
 have key:∀j u,((S++ [s]).flatMap zO)[j]? =some u->w.cell? ((⟨pb,0,none⟩:Addr).add j)=some u:=h.row.cells (g:=pb) rfl;have k0:=key (S.length*2) (j6 s.q) (by rw [List.flatMap_append,List.getElem?_append_right (by rw [stpC_len];omega),stpC_len];simp [zO]);have k1:=key (S.length*2+1) s.v (by rw [List.flatMap_append,List.getElem?_append_right (by rw [stpC_len];omega),stpC_len];simp [zO]);have ha:∀j,(⟨pb,0,none⟩:Addr).add j=⟨pb,j,none⟩:=fun j=>by unfold Addr.add;split<;>simp_all
 rw [ha] at k0 k1;exact⟨k0,k1,h.row.frozenAt _⟩
theorem qN.tell{w w4:World}{B fb pb cap:Nat}{S:List vu}{s:vu}{F M v4:Value}{x:Int}{o:Obj}(h:qN w B fb pb cap (S++ [s]) F M)
  (ho:w4.ownsRow B 3 1 v4 (s.ps.length+1) (s.ps.map (Value.int .i64)++ [.int .i64 x])) (hg:(w.drew.alloc o).grownBy w4 s.v.ownBlock) (hat:v4.ownBlock=s.v.ownBlock\/v4.ownBlock=some (w.alloc o).heap.size):
  qN (w4.setCell ⟨pb,S.length*2+1,none⟩ v4) B fb pb cap (S++ [⟨s.q,s.ps++ [x],v4⟩]) F M:=by
 have hs:s∈S++ [s]:=by simp
 have hblk:∀k,k<w.heap.size->some k≠s.v.ownBlock->w4.heap[k]? =w.heap[k]? :=fun k hk hne=>(hg.block k (by rw [World.size_alloc];exact Nat.lt_succ_of_lt hk) hne).trans (Below.heap_alloc w.drew o k hk)
 have hkeep:∀{e:TypeId} {u:Value} {k sz:Nat} {xs:List Value},w.ownsRow B e sz u k xs->(∀b,u.ownBlock=some b->s.v.ownBlock≠some b)->w4.ownsRow B e sz u k xs:=fun hr hne=>qp (w:=w.drew.alloc o) (kt (w:=w.drew) hr o) hg hne
 have hpb:=h.pb_lt
 have hv4:v4.ownBlock≠some pb:=by
  rcases hat with e|e
  ·rw [e];exact h.apart s hs
  ·rw [e,World.size_alloc];intro e2;injection e2 with e2;omega
 have hfs:some fb≠s.v.ownBlock:=fun e=>h.fbo s hs e.symm
 have hf:(w4.setCell ⟨pb,S.length*2+1,none⟩ v4).heap[fb]? =w.heap[fb]? :=(Below.heap_setCell w4 _ v4 fb h.ne).trans (hblk fb h.lt hfs);have hlen:(S++ [(⟨s.q,s.ps++ [x],v4⟩:vu)]).length=(S++ [s]).length:=by simp
 refine⟨(World.cell?_of_block (w:=w) (a:=⟨fb,0,none⟩) hf).trans h.c0,(World.cell?_of_block (w:=w) (a:=⟨fb,1,none⟩) hf).trans h.c1,?_,(World.frozen?_of_block (w:=w) (a:=⟨fb,2,none⟩) hf).trans h.fz,?_,h.ne,?_,?_,?_,?_,?_⟩
 ·rw [hlen];exact(World.cell?_of_block (w:=w) (a:=⟨fb,2,none⟩) hf).trans h.c2
 ·have:=hg.size;rw [World.size_alloc] at this;have h3:w.drew.heap.size=w.heap.size:=rfl;have:=h.lt;simp;omega
 ·intro t ht
  rcases List.mem_append.1 ht with ht|ht
  ·exact h.fbo t (List.mem_append_left _ ht)
  ·obtain rfl:t=⟨s.q,s.ps++ [x],v4⟩:=by simpa using ht
   rcases hat with e|e
   ·show v4.ownBlock≠some fb
    rw [e];exact h.fbo s hs
   ·show v4.ownBlock≠some fb
    rw [e,World.size_alloc];intro e2;injection e2 with e2;have:=h.lt;omega
 ·rw [hlen,<-stpC_set S s v4 (s.ps++ [x])];exact((hkeep h.row (fun b hb=>by injection hb with hb;subst hb;exact h.apart s hs)).stored (S.length*2+1) v4).1
 ·intro t ht
  rcases List.mem_append.1 ht with ht|ht
  ·refine ownsRow_setCell_other (hkeep (h.parts t (List.mem_append_left _ ht)) (fun b hb=> ?_)) (h.apart t (List.mem_append_left _ ht)) _;exact(List.pairwise_append.1 h.pairs).2.2 t ht s (by simp) b hb
  ·obtain rfl:t=⟨s.q,s.ps++ [x],v4⟩:=by simpa using ht
   refine ownsRow_setCell_other ?_ hv4 _;simpa using ho
 ·intro t ht
  rcases List.mem_append.1 ht with ht|ht
  ·exact h.apart t (List.mem_append_left _ ht)
  ·obtain rfl:t=⟨s.q,s.ps++ [x],v4⟩:=by simpa using ht
   exact hv4
 ·have hp:=List.pairwise_append.1 h.pairs;refine List.pairwise_append.2 ⟨hp.1,List.pairwise_singleton _ _,fun t ht u hu b hb=> ?_⟩;obtain rfl:u=⟨s.q,s.ps++ [x],v4⟩:=by simpa using hu
  rcases hat with e|e
  ·show v4.ownBlock≠some b
   rw [e];exact hp.2.2 t ht s (by simp) b hb
  ·show v4.ownBlock≠some b
   rw [e,World.size_alloc];intro e2;injection e2 with e2;have:=(kl (h.parts t (List.mem_append_left _ ht)) hb).2;omega
theorem zK(B fb pb cap:Nat)(S:List vu)(s:vu)(F M:Value)(x:Int)(w:World)(h:qN w B fb pb cap (S++ [s]) F M)(hS:S.length<=1099511627776)(hps:s.ps.length<=1099511627776):
  Calls Tryz.prog 194 #[.pointer (some ⟨fb,0,none⟩),.int .i64 x] w fun e w'=>e=.returned (.tuple #[])/\∃v4,qN w' B fb pb cap (S++ [⟨s.q,s.ps++ [x],v4⟩]) F M/\Below B w w':=by
 have hpb:=h.pb_lt;have ht:=h.top;have hs:s∈S++ [s]:=by simp
 refine(ptell_any B fb pb S.length cap s.v s.ps x w (by omega) (by have:=h.c2;rw [List.length_append] at this;exact this) hS ht.2.1 ht.2.2 hpb.2 (h.parts s hs) hps (h.apart s hs)).mono ?_;rintro e w' ⟨rfl,v4,w4,o,rfl,ho,hg,hat⟩;refine⟨rfl,v4,h.tell ho hg hat,?_⟩;exact(Below.trans (Below.refl B w).drew (belowApp (w:=w.drew) (h.parts s hs) hg (by show B<=w.heap.size;omega))).setCell hpb.1 _
theorem YW(B fb pb cap:Nat)(S:List vu)(s:vu)(F M:Value)(w:World)(h:qN w B fb pb cap (S++ [s]) F M)(hS:S.length<=1099511627776)(hps:s.ps.length<=1099511627776):
  Calls Tryz.prog 146 #[.pointer (some ⟨fb,0,none⟩),.pointer none] w fun e w'=>e=.returned (.bool true)/\∃v4,qN w' B fb pb cap (S++ [⟨s.q,s.ps++ [0],v4⟩]) F M/\Below B w w':=by
 have FT:=j0 (zK B fb pb cap S s F M 0 w h hS hps);clear h
 go_enter Tryz.func146,Tryz.ntmps146
 go_wp2_with fail
 refine FT.out.mono ?_;rintro e w1 ⟨rfl,hw⟩;have HW:=j0 hw;clear hw FT
 go_wp2_with fail
 exact bodyPost_ret (v:=.bool true) (by simp [results,Tryz.results146,go_sem]) rfl ⟨rfl,HW.out⟩
theorem Vg(B fb pb cap mb:Nat)(S:List vu)(s:vu)(F:Value)(w:World)(h:qN w B fb pb cap (S++ [s]) F (.map (some mb)))(hS:S.length<=1099511627776)(hps:s.ps.length<=1099511627776)
  (q:Nat) (k:Int) (z4:W4) (lo hi:Int) (z:Bool) (lp:Option Addr) (n lc:Nat) (a b:Nat) (hq:w.heap[q]? =some (vn k z4 lo hi z (.slice lp (n+1) lc) a b)) (D:List (Nat×Int)) (hM:qH w mb D) (hD:∀p∈D,Je w p.1)
  (y:Int) (hg:gotD D q=(y,true)) (hy:y≠ -1):
  Calls Tryz.prog 146 #[.pointer (some ⟨fb,0,none⟩),.pointer (some ⟨q,0,none⟩)] w fun e w'=>e=.returned (.bool true)/\∃v4,qN w' B fb pb cap (S++ [⟨s.q,s.ps++ [y],v4⟩]) F (.map (some mb))/\Below B w w':=by
 have FT:=j0 (zK B fb pb cap S s F _ y w h hS hps);have c1:=h.c1;have n5:=jC hq 8;have hlk:=QB hM ⟨_,_,hq⟩ hD;rw [hg] at hlk;simp only [Reg.la,Reg.lb,Reg.lc] at n5;have n0:((n:Int)+1==0)=false:=by simp;omega
 have y1:(y== -1)=false:=by simpa using hy
 clear h hq hM hD hg hy
 go_enter Tryz.func146,Tryz.ntmps146
 go_wp2_with fail
 refine FT.out.mono ?_;rintro e w1 ⟨rfl,hw⟩;have HW:=j0 hw;clear hw FT
 go_wp2_with fail
 exact bodyPost_ret (v:=.bool true) (by simp [results,Tryz.results146,go_sem]) rfl ⟨rfl,HW.out⟩
theorem Tryz.infoStep:(Tryz.prog.info? 238).map (fun i=>(i.zero,i.size,i.bytes))=some (some (.agg #[.pointer none,.slice none 0 0]),2,32):=by kernel_rfl
theorem two_step(q:Nat):∀u∈ [j6 q,Value.slice none 0 0],u.oneCell'=true:=by
 intro u hu
 rcases List.mem_cons.1 hu with rfl|hu
 ·rfl
 ·obtain rfl:u=.slice none 0 0:=by simpa using hu
  rfl
theorem VC(w:World)(x y:Value)(t:TypeId):∀j u,[x,y][j]? =some u->(w.alloc (.cells #[x,y] t)).cell? ((⟨w.heap.size,0,none⟩:Addr).add j)=some u:=by
 intro j u hj;have ha:∀j,(⟨w.heap.size,0,none⟩:Addr).add j=⟨w.heap.size,j,none⟩:=fun j=>by unfold Addr.add;split<;>simp_all
 rw [ha,jC (j1 _ _)];simpa using hj
theorem Xk(B fb pb cap mb:Nat)(S:List vu)(F:Value)(w:World)(h:qN w B fb pb cap S F (.map (some mb)))(hS:S.length<=1099511627776)(hmf:mb≠fb)(hmB:mb<B)
  (q:Nat) (k:Int) (z4:W4) (lo hi:Int) (z:Bool) (lp:Option Addr) (n lc:Nat) (a b:Nat) (hq:w.heap[q]? =some (vn k z4 lo hi z (.slice lp (n+1) lc) a b)) (D:List (Nat×Int)) (hM:qH w mb D) (hD:∀p∈D,Je w p.1)
  (hg:gotD D q=(0,false)):
  Calls Tryz.prog 146 #[.pointer (some ⟨fb,0,none⟩),.pointer (some ⟨q,0,none⟩)] w fun e w'=>e=.returned (.bool true)/\∃w1 v4 w4 o,qH w1 mb (xq D q (-1))/\w.grownBy w1 (some mb)/\w4.ownsRow B 238 2 v4 (S.length+1) (S.flatMap zO++ [j6 q,.slice none 0 0])/\(w1.alloc o).grownBy w4 (some pb)/\(v4.ownBlock=some pb\/v4.ownBlock=some (w1.alloc o).heap.size)/\w'=w4.setCell ⟨fb,2,none⟩ v4:=by
 obtain⟨i0,hif,hy0,hy1,hy2⟩:=info_parts Tryz.infoStep;have c1:=h.c1;have n5:=jC hq 8;have hlk:=QB hM ⟨_,_,hq⟩ hD;rw [hg] at hlk;simp only [Reg.la,Reg.lb,Reg.lc] at n5;have n0:((n:Int)+1==0)=false:=by simp;omega
 obtain⟨w1,hup,hM1,hg1⟩:=Qa (-1) hM ⟨_,_,hq⟩ hD;have hpb:=h.pb_lt;have d1:=hg1.cell h.c1 (by show some fb≠some mb;intro e;injection e with e;omega);have d2:=hg1.cell h.c2 (by show some fb≠some mb;intro e;injection e with e;omega);have hrow1:=qp h.row hg1 (fun g hb e=>by have hb:pb=g:=Option.some.inj hb;have e:mb=g:=Option.some.inj e;omega);have hB1:B<=w1.heap.size:=by have:=hg1.size;omega
 have hblk1:w1.heap[fb]? =w.heap[fb]? :=hg1.block fb h.lt (by intro e;injection e with e;omega);have hf1:w1.frozen? ⟨fb,2,none⟩=false:=(World.frozen?_of_block (w:=w) (a:=⟨fb,2,none⟩) hblk1).trans h.fz;have hlo:=h.ne;have hfl:fb<w1.heap.size:=by have:=hg1.size;have:=h.lt;omega
 have HM1:=j0 hM1;have HG1:=j0 hg1;have HD2:=j0 d2;have HF1:=j0 hf1;clear h hq hM hD hg hM1 hg1 hblk1 hf1
 go_enter Tryz.func146,Tryz.ntmps146
 go_wp2_with (at_builtin;go_must (refine wpList_append_own_at _ rfl (.tmp 49) (.tmp 52) 239 rfl B 238 i0 (.agg #[.pointer none,.slice none 0 0]) 2 32 Tryz.underlying239 hif hy0 hy1 hy2 rfl (by decide) _ S.length (S.flatMap zO) rfl (kt hrow1 _) ⟨_,0,none⟩ 1 1 [j6 q,.slice none 0 0] rfl rfl (VC _ _ _ _) (two_step q) (by unfold maxLen;omega) (by omega) (by simp;omega) ?_;intro v4 w4 ho hg4 _ hat;have hb4:w4.heap[fb]? =w1.heap[fb]? :=(hg4.block fb (by simp;omega) (fun e=>by have e:fb=pb:=Option.some.inj e;omega)).trans ((j3 w1 _).block fb hfl);have hz4:w4.frozen? ⟨fb,2,none⟩=false:=(World.frozen?_of_block (w:=w1) (a:=⟨fb,2,none⟩) hb4).trans HF1.out;have hv4:=(World.cell?_of_block (w:=w1) (a:=⟨fb,2,none⟩) hb4).trans HD2.out;obtain⟨b4,c4,hs4⟩:∃b c,v4=.slice b (S.length+1) c:=Kb ho;subst hs4;clear hb4))
 exact bodyPost_ret (v:=.bool true) (by simp [results,Tryz.results146,go_sem]) rfl ⟨rfl,w1,HM1.out,HG1.out,_,w4,ho,⟨Obj.cells #[j6 q,.slice none 0 0] 238,hg4⟩,by rw [World.size_alloc] at hat;exact hat,rfl⟩
theorem qN.step{w w1 w4:World}{B fb pb cap mb q:Nat}{S:List vu}{F v4:Value}{o:Obj}(h:qN w B fb pb cap S F (.map (some mb)))(hmf:mb≠fb)(hmB:mb<B)(hg1:w.grownBy w1 (some mb))
  (ho:w4.ownsRow B 238 2 v4 (S.length+1) (S.flatMap zO++ [j6 q,.slice none 0 0])) (hg:(w1.alloc o).grownBy w4 (some pb)) (hat:v4.ownBlock=some pb\/v4.ownBlock=some (w1.alloc o).heap.size):
  ∃pb' cap',qN (w4.setCell ⟨fb,2,none⟩ v4) B fb pb' cap' (S++ [⟨q,[],.slice none 0 0⟩]) F (.map (some mb)):=by
 obtain⟨pb',cap',rfl⟩:∃g c,v4=.slice (some ⟨g,0,none⟩) (S.length+1) c:=by
  rcases ho.2 with ⟨_,h0⟩|⟨g,c,cur,e,_⟩
  ·omega
  ·exact⟨g,c,e⟩
 have hat:pb'=pb\/pb'=w1.heap.size+1:=by
  rcases hat with e|e
  ·exact .inl (Option.some.inj e)
  ·rw [World.size_alloc] at e;exact .inr (Option.some.inj e)
 have hpb:=h.pb_lt;have hlo:=h.ne;have hlt:=h.lt;have hsz:=hg1.size;have hsz4:=hg.size;rw [World.size_alloc] at hsz4;have hf:w4.heap[fb]? =w.heap[fb]? :=(hg.block fb (by rw [World.size_alloc];omega) (fun e=>by have e:fb=pb:=Option.some.inj e;omega)).trans (((j3 w1 o).block fb (by omega)).trans (hg1.block fb h.lt (fun e=>by have e:fb=mb:=Option.some.inj e;omega)))
 have hkeep:∀t∈S,w4.ownsRow B 3 1 t.v t.ps.length (t.ps.map (Value.int .i64)):=fun t ht=>
  qp (kt (qp (h.parts t ht) hg1 (fun g hb e=>by have e:mb=g:=Option.some.inj e;have:=(kl (h.parts t ht) hb).1;omega)) o) hg (fun g hb e=>h.apart t ht (by rw [hb];exact e.symm))
 have hlen:(S++ [(⟨q,[],.slice none 0 0⟩:vu)]).length=S.length+1:=by simp
 have hfm:(S++ [(⟨q,[],.slice none 0 0⟩:vu)]).flatMap zO=S.flatMap zO++ [j6 q,.slice none 0 0]:=by simp [zO]
 have c0:w4.cell? ⟨fb,0,none⟩=some F:=(World.cell?_of_block (w:=w) (a:=⟨fb,0,none⟩) hf).trans h.c0;have c1:w4.cell? ⟨fb,1,none⟩=some (.map (some mb)):=(World.cell?_of_block (w:=w) (a:=⟨fb,1,none⟩) hf).trans h.c1;have c2:=(World.cell?_of_block (w:=w) (a:=⟨fb,2,none⟩) hf).trans h.c2
 have hne':fb≠pb':=by
  rcases hat with rfl|rfl
  ·exact hlo
  ·omega
 refine⟨pb',cap',⟨?_,?_,?_,?_,?_,hne',?_,?_,?_,?_,?_⟩⟩
 ·rw [World.cell?_setCell_other _ _ _ _ (by simp)];exact c0
 ·rw [World.cell?_setCell_other _ _ _ _ (by simp)];exact c1
 ·rw [hlen];exact World.cell?_setCell_same _ _ _ c2
 ·rw [World.frozen?_setCell];exact(World.frozen?_of_block (w:=w) (a:=⟨fb,2,none⟩) hf).trans h.fz
 ·simp;omega
 ·intro t ht
  rcases List.mem_append.1 ht with ht|ht
  ·exact h.fbo t ht
  ·obtain rfl:t=⟨q,[],.slice none 0 0⟩:=by simpa using ht
   intro e;cases e
 ·rw [hlen,hfm];exact ownsRow_setCell_other ho (fun e=>hne' (Option.some.inj e).symm) _
 ·intro t ht
  rcases List.mem_append.1 ht with ht|ht
  ·exact ownsRow_setCell_other (hkeep t ht) (h.fbo t ht) _
  ·obtain rfl:t=⟨q,[],.slice none 0 0⟩:=by simpa using ht
   exact World.ownsRow_nil _ _ _ _
 ·intro t ht
  rcases List.mem_append.1 ht with ht|ht
  ·rcases hat with rfl|rfl
   ·exact h.apart t ht
   ·intro e;have:=(kl (h.parts t ht) e).2;omega
  ·obtain rfl:t=⟨q,[],.slice none 0 0⟩:=by simpa using ht
   intro e;cases e
 ·refine List.pairwise_append.2 ⟨h.pairs,List.pairwise_singleton _ _,fun t ht u hu b hb=> ?_⟩;obtain rfl:u=⟨q,[],.slice none 0 0⟩:=by simpa using hu
  intro e;cases e
structure FoKeep(B fb mb:Nat)(w w':World):Prop where
 os:w'.os=w.os
 tape:w'.tape=w.tape
 output:w'.output=w.output
 size:w.heap.size<=w'.heap.size
 block:∀k,k<B->k≠fb->k≠mb->w'.heap[k]? =w.heap[k]?
theorem FoKeep.trans{B fb mb:Nat}{w w1 w2:World}(h:FoKeep B fb mb w w1)(k:FoKeep B fb mb w1 w2):FoKeep B fb mb w w2:=
 ⟨k.os.trans h.os,k.tape.trans h.tape,k.output.trans h.output,Nat.le_trans h.size k.size,fun i hi h1 h2=>(k.block i hi h1 h2).trans (h.block i hi h1 h2)⟩
theorem FoKeep.below{B fb mb:Nat}{w w1:World}(h:Below B w w1):FoKeep B fb mb w w1:=⟨h.os,h.tape,h.output,h.size,fun i hi _ _=>h.block i hi⟩
theorem YX(B fb pb cap mb:Nat)(S:List vu)(F:Value)(w:World)(h:qN w B fb pb cap S F (.map (some mb)))(hS:S.length<=1099511627776)(hmf:mb≠fb)(hmB:mb<B)
  (q:Nat) (k:Int) (z4:W4) (lo hi:Int) (z:Bool) (lp:Option Addr) (n lc:Nat) (a b:Nat) (hq:w.heap[q]? =some (vn k z4 lo hi z (.slice lp (n+1) lc) a b)) (D:List (Nat×Int)) (hM:qH w mb D) (hD:∀p∈D,Je w p.1)
  (hg:gotD D q=(0,false)):
  Calls Tryz.prog 146 #[.pointer (some ⟨fb,0,none⟩),.pointer (some ⟨q,0,none⟩)] w fun e w'=>e=.returned (.bool true)/\(∃pb' cap',qN w' B fb pb' cap' (S++ [⟨q,[],.slice none 0 0⟩]) F (.map (some mb)))/\qH w' mb (xq D q (-1))/\FoKeep B fb mb w w':=by
 refine(Xk B fb pb cap mb S F w h hS hmf hmB q k z4 lo hi z lp n lc a b hq D hM hD hg).mono ?_;rintro e w' ⟨rfl,w1,v4,w4,o,hM1,hg1,ho,hg4,hat,rfl⟩;have hpb:=h.pb_lt;have hsz:=hg1.size;have hsz4:=hg4.size;rw [World.size_alloc] at hsz4
 have old:∀i,i<B->i≠fb->(w4.setCell ⟨fb,2,none⟩ v4).heap[i]? =w1.heap[i]? :=fun i hi hne=>
  (Below.heap_setCell w4 ⟨fb,2,none⟩ v4 i hne).trans ((hg4.block i (by rw [World.size_alloc];omega) (fun e=>by have e:i=pb:=Option.some.inj e;omega)).trans ((j3 w1 o).block i (by omega)))
 refine⟨rfl,h.step hmf hmB hg1 ho hg4 hat,?_,?_⟩
 ·obtain⟨es,clock,hb,he⟩:=hM1;exact⟨es,clock,(old mb hmB hmf).trans hb,he⟩
 ·exact⟨hg4.os.trans hg1.os,hg4.tape.trans hg1.tape,hg4.output.trans hg1.output,by simp;omega,fun i hi h1 h2=>(old i hi h1).trans (hg1.block i (by omega) (fun e=>h2 (Option.some.inj e)))⟩
theorem qN.pop{w:World}{B fb pb cap:Nat}{S:List vu}{s:vu}{F M:Value}(h:qN w B fb pb cap (S++ [s]) F M):
  qN (w.setCell ⟨fb,2,none⟩ (.slice (some ⟨pb,0,none⟩) S.length cap)) B fb pb cap S F M:=by
 have hlo:=h.ne;have hl:(S++ [s]).length=S.length+1:=by simp
 refine⟨?_,?_,?_,?_,?_,hlo,fun t ht=>h.fbo t (List.mem_append_left _ ht),?_,?_,?_,?_⟩
 ·rw [World.cell?_setCell_other _ _ _ _ (by simp)];exact h.c0
 ·rw [World.cell?_setCell_other _ _ _ _ (by simp)];exact h.c1
 ·exact World.cell?_setCell_same _ _ _ h.c2
 ·rw [World.frozen?_setCell];exact h.fz
 ·have:=h.lt;simp;omega
 ·refine ownsRow_setCell_other (a:=⟨fb,2,none⟩) (v:=.slice (some ⟨pb,0,none⟩) S.length cap) ⟨by rw [stpC_len],.inr ?_⟩ (fun e=>hlo (Option.some.inj (show some pb=some fb from e)).symm) _
  rcases h.row.2 with ⟨e,_⟩|⟨g,c,cur,e,hb,hh,hn,hm,hs,ht⟩
  ·cases e
  ·rw [hl] at e hn ht;simp only [Value.slice.injEq,Option.some.injEq,Addr.mk.injEq,and_true,true_and] at e;obtain⟨rfl,rfl⟩:=e;refine⟨pb,cap,cur,rfl,hb,hh,by omega,hm,hs,?_⟩;have:(cur.toList.take ((S.length+1)*2)).take (S.length*2)=((S++ [s]).flatMap zO).take (S.length*2):=by rw [ht]
   rw [List.take_take,Nat.min_eq_left (by omega)] at this;rw [this,List.flatMap_append,List.take_append_of_le_length (by rw [stpC_len];omega),List.take_of_length_le (by rw [stpC_len];omega)]
 ·exact fun t ht=>ownsRow_setCell_other (h.parts t (List.mem_append_left _ ht)) (h.fbo t (List.mem_append_left _ ht)) _
 ·exact fun t ht=>h.apart t (List.mem_append_left _ ht)
 ·exact(List.pairwise_append.1 h.pairs).1
theorem qN.mapped{w w1:World}{B fb pb cap mb:Nat}{S:List vu}{F M:Value}(h:qN w B fb pb cap S F M)(hmf:mb≠fb)(hmB:mb<B)(hg:w.grownBy w1 (some mb)):qN w1 B fb pb cap S F M:=by
 have hlo:=h.ne;have hpb:=h.pb_lt;have hf:w1.heap[fb]? =w.heap[fb]? :=hg.block fb h.lt (fun e=>by have e:fb=mb:=Option.some.inj e;omega);refine⟨(World.cell?_of_block (w:=w) (a:=⟨fb,0,none⟩) hf).trans h.c0,(World.cell?_of_block (w:=w) (a:=⟨fb,1,none⟩) hf).trans h.c1,(World.cell?_of_block (w:=w) (a:=⟨fb,2,none⟩) hf).trans h.c2,(World.frozen?_of_block (w:=w) (a:=⟨fb,2,none⟩) hf).trans h.fz,Nat.lt_of_lt_of_le h.lt hg.size,hlo,h.fbo,?_,?_,h.apart,h.pairs⟩
 ·exact qp h.row hg (fun g hb e=>by have hb:pb=g:=Option.some.inj hb;have e:mb=g:=Option.some.inj e;omega)
 ·exact fun t ht=>qp (h.parts t ht) hg (fun g hb e=>by have e:mb=g:=Option.some.inj e;have:=(kl (h.parts t ht) hb).1;omega)
end
end Go.Proofs.YtnmalggmbeipaaaGreatDoor
