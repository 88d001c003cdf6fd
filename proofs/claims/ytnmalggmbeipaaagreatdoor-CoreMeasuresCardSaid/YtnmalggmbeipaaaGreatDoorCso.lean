/- A part of the proof. -/
import Derived.Test.YtnmalggmbeipaaaGreatDoorCoK
import Derived.Test.YtnmalggmbeipaaaGreatDoorPbU
import Derived.Test.YtnmalggmbeipaaaGreatDoorRegion
import Derived.Test.YtnmalggmbeipaaaGreatDoorPrK
import Derived.Test.YtnmalggmbeipaaaGreatDoorCoC
import Derived.Test.YtnmalggmbeipaaaGreatDoorCtF
namespace Go.Proofs.YtnmalggmbeipaaaGreatDoor
section
section
open Go Go.RowKit
structure CEnt where
 p:Option Nat
 q:Option Nat
 t:Co
 u:Co
variable {w:World} {p q:Option Nat} {t u:Co} {S:List CEnt} {D:List (Nat×Nat)} {x:CEnt}
end
end
end Go.Proofs.YtnmalggmbeipaaaGreatDoor
namespace Go.Proofs.YtnmalggmbeipaaaGreatDoor
section
section
open Go Go.RowKit
attribute [local go_sem ↓] Go.wp_at_zero Go.wp_at_succ
attribute [local go_sem] qX
end
section
open Go Go.RowKit
attribute [local go_sem ↓] Go.wp_at_zero Go.wp_at_succ
attribute [local go_sem] qX
end
end
end Go.Proofs.YtnmalggmbeipaaaGreatDoor
namespace Go.Proofs.YtnmalggmbeipaaaGreatDoor
section
section
open Go Go.RowKit
attribute [local go_sem ↓] Go.wp_at_zero Go.wp_at_succ
attribute [local go_sem] qX
end
end
end Go.Proofs.YtnmalggmbeipaaaGreatDoor
namespace Go.Proofs.YtnmalggmbeipaaaGreatDoor
section
section
open Go Go.RowKit
end
end
end Go.Proofs.YtnmalggmbeipaaaGreatDoor
namespace Go.Proofs.YtnmalggmbeipaaaGreatDoor
section
section
open Go Go.RowKit
def QU:Co->Prop
 | .nil=>False
 | .node k s z a b=>s.fit/\((k=0/\s=j7/\z=false/\a=.nil/\b=.nil)\/(k=1/\z=false/\a=.nil/\b=.nil)\/((k=2\/k=3)/\s=j7/\z=false/\QU a/\QU b)\/(k=4/\s=j7/\QU a/\b=.nil))
theorem QU.ne{c:Co}(h:QU c):c≠ .nil:=by
 cases c with
 |nil=>exact h.elim
 |node=>exact Co.noConfusion
theorem Jh:QU yD:=⟨qf,.inl ⟨rfl,rfl,rfl,rfl,rfl⟩⟩
theorem zy{k:Int}(hk:k=2\/k=3){c b:Co}(hc:QU c)(hb:b=.nil\/QU b):QU (k9 k c b):=by
 rcases hb with rfl|hb
 ·exact hc
 ·rw [yA _ _ _ hb.ne];exact⟨qf,.inr (.inr (.inl ⟨hk,rfl,rfl,hc,hb⟩))⟩
theorem wf_choice{z:Bool}{c:Co}(hc:QU c):QU (qy z c):=by
 unfold qy
 split
 ·exact⟨qf,.inr (.inr (.inl ⟨.inr rfl,rfl,rfl,Jh,hc⟩))⟩
 ·exact⟨qf,.inr (.inr (.inl ⟨.inr rfl,rfl,rfl,hc,Jh⟩))⟩
theorem Jg{k:Int}(hk:k=2\/k=3):∀(cs:List Co) (b:Co),(∀c∈cs,QU c)->(b=.nil\/QU b)->cs.foldr (k9 k) b=.nil\/QU (cs.foldr (k9 k) b)
 | [],_,_,hb=>hb
 |c::r,b,hc,hb=>.inr (zy hk (hc c (List.mem_cons_self ..)) (Jg hk r b (fun c h=>hc c (List.mem_cons_of_mem _ h)) hb))
theorem wf_tail(lo hi:Int)(z:Bool){c:Co}(hc:QU c):yL lo hi z c=.nil\/QU (yL lo hi z c):=by
 unfold yL
 split
 ·exact .inr ⟨qf,.inr (.inr (.inr ⟨rfl,rfl,hc,rfl⟩))⟩
 ·generalize (hi-lo).toNat=n
  induction n with
  |zero=>exact .inl rfl
  |succ n ih=>exact .inr (wf_choice (zy (.inl rfl) hc ih))
theorem Zx{t:Tr}(h:zu t):QU (jo t):=by
 have or_:∀{c:Co},c=.nil\/QU c->QU (Jp c):=by
  intro c hc
  rcases hc with rfl|hc
  ·exact Jh
  ·cases c with
   |nil=>exact hc.elim
   |node=>exact hc
 induction h with
 |empty a b=>rw [jo];exact Jh
 |set s a b hs=>rw [jo];exact⟨hs,.inr (.inl ⟨rfl,rfl,rfl,rfl⟩)⟩
 |group k a b u hk hu ih=>
  rw [jo,kc]
  rcases hk with rfl|rfl<;>exact ih
 |cat a b l hl hi h ih=>
  rw [jo,kc]
  rcases Jg (k:=2) (.inl rfl) (l.map jo) .nil (fun c hc=>by obtain⟨u,hu,rfl⟩:=List.mem_map.1 hc;exact ih u hu) (.inl rfl) with e|e
  ·exact absurd e (zl 2 _ _ (fun c hc=>by obtain⟨u,hu,rfl⟩:=List.mem_map.1 hc;exact yF (h u hu)) (.inl (by intro e;rw [List.map_eq_nil_iff] at e;subst e;simp at hl)))
  ·exact e
 |alt a b l hl hi h ih=>
  rw [jo,kc]
  rcases Jg (k:=3) (.inr rfl) (l.map jo) .nil (fun c hc=>by obtain⟨u,hu,rfl⟩:=List.mem_map.1 hc;exact ih u hu) (.inl rfl) with e|e
  ·exact absurd e (zl 3 _ _ (fun c hc=>by obtain⟨u,hu,rfl⟩:=List.mem_map.1 hc;exact yF (h u hu)) (.inl (by intro e;rw [List.map_eq_nil_iff] at e;subst e;simp at hl)))
  ·exact e
 |rep lo hi z a b u hc hu h ih=>
  rw [jo,kc];exact or_ (Jg (k:=2) (.inl rfl) _ _ (fun c hc=>by rw [List.eq_of_mem_replicate hc];exact ih) (wf_tail lo hi z ih))
theorem allW_fit:allW.fit:=⟨zh _,zh _,zh _,zh _⟩
theorem KU:QU restC:=⟨qf,.inr (.inr (.inr ⟨rfl,rfl,⟨allW_fit,.inr (.inl ⟨rfl,rfl,rfl,rfl⟩)⟩,rfl⟩))⟩
theorem wf_by(m:Int){c:Co}(h:QU c):QU (UC m c):=by
 unfold UC
 split
 ·exact zy (.inl rfl) h (.inr KU)
 ·split
  ·exact zy (.inl rfl) KU (.inr h)
  ·split
   ·exact zy (.inl rfl) KU (.inr (zy (.inl rfl) h (.inr KU)))
   ·exact h
end
end
end Go.Proofs.YtnmalggmbeipaaaGreatDoor
namespace Go.Proofs.YtnmalggmbeipaaaGreatDoor
section
section
open Go Go.RowKit
theorem pl_small{a b:Int}(ha:0<=a)(hb:0<=b)(h:pl a b<top):pl a b=a+b:=by
 unfold pl at h ⊢;rw [qY ha,qY hb] at h ⊢;exact sat_lt h
theorem UX:∀{xs:List Int},(∀x∈xs,0<=x)->0<=xs.sum
 | [],_=>Int.le_refl _
 |x::r,h=>by
  rw [List.sum_cons];have:=h x (List.mem_cons_self ..);have:=UX (xs:=r) (fun y hy=>h y (List.mem_cons_of_mem _ hy));omega
theorem QF:∀(xs:List Int) (a:Int),0<=a->(∀x∈xs,0<=x)->xs.foldl pl a<top->xs.foldl pl a=a+xs.sum
 | [],a,_,_,_=>by simp
 |x::r,a,ha,hx,h=>by
  rw [List.foldl_cons] at h ⊢;have hr:∀y∈r,0<=y:=fun y hy=>hx y (List.mem_cons_of_mem _ hy)
  have e:=QF r (pl a x) (pl_nn _ _) hr h;have:=UX hr;have e2:=pl_small ha (hx x (List.mem_cons_self ..)) (by omega);rw [e,e2,List.sum_cons];omega
theorem vY{xs:List Int}(hx:∀x∈xs,0<=x)(h:kL xs<top):kL xs=xs.sum:=by
 unfold kL at h ⊢;rw [QF xs 0 (Int.le_refl _) hx h];omega
theorem QR:∀(xs:List Int) (a:Int),0<=a->(∀x∈xs,0<=x)->ve a xs<top->ve a xs=a+xs.sum
 | [],a,_,_,_=>by simp [ve]
 |x::r,a,ha,hx,h=>by
  have hr:∀y∈r,0<=y:=fun y hy=>hx y (List.mem_cons_of_mem _ hy)
  have hx0:=hx x (List.mem_cons_self ..);have e0:ve a (x::r)=ve (kL [a,x]) r:=rfl;rw [e0] at h ⊢;have e:=QR r (kL [a,x]) (xm _) hr h;have:=UX hr
  have e2:=vY (xs:= [a,x]) (fun y hy=>by
   simp only [List.mem_cons,List.not_mem_nil,or_false] at hy
   rcases hy with rfl|rfl
   ·exact ha
   ·exact hx0) (by omega)
  rw [e,e2,List.sum_cons,List.sum_cons,List.sum_cons,List.sum_nil];omega
theorem zH{x y:Int}(hx:0<=x)(hxt:x<=top)(hy:0<=y)(h:yR [x,y]<top):yR [x,y]=x*y:=by
 have e:yR [x,y]=ti (ti 1 x) y:=rfl;rw [e,Yt x hx hxt] at h ⊢;unfold ti at h ⊢;rw [qY hx,qY hy] at h ⊢;exact sat_lt h
theorem pl_ge{a b:Int}(ha:0<=a)(hat:a<=top)(hb:0<=b)(hbt:b<=top):a<=pl a b/\b<=pl a b:=by
 unfold pl;rw [qY ha,qY hb];unfold sat
 split<;>omega
theorem ZR:∀(xs:List Int) (a:Int),0<=a->a<=top->(∀x∈xs,0<=x/\x<=top)->a<=xs.foldl pl a/\∀x∈xs,x<=xs.foldl pl a
 | [],a,_,_,_=>⟨Int.le_refl _,fun x h=>by cases h⟩
 |x::r,a,ha,hat,hx=>by
  obtain⟨hx0,hxt⟩:=hx x (List.mem_cons_self ..);obtain⟨h1,h2⟩:=pl_ge ha hat hx0 hxt;obtain⟨h3,h4⟩:=ZR r (pl a x) (pl_nn _ _) (Qs _ _) (fun y hy=>hx y (List.mem_cons_of_mem _ hy));rw [List.foldl_cons];refine⟨Int.le_trans h1 h3,fun y hy=> ?_⟩
  rcases List.mem_cons.1 hy with rfl|hy
  ·exact Int.le_trans h2 h3
  ·exact h4 y hy
theorem Zu{xs:List Int}(hx:∀x∈xs,0<=x/\x<=top){x:Int}(h:x∈xs):x<=kL xs:=(ZR xs 0 (Int.le_refl _) (by unfold top;omega) hx).2 x h
theorem repM_ge{x lo hi:Int}(h0:0<=x)(ht:x<=top)(hh:hi≠0):x<=qQ x lo hi:=by
 have m:∀u v:Int,0<=yR [u,v]/\yR [u,v]<=top:=fun u v=>⟨ti_nn _ _,ti_le _ _⟩
 have t1:(1:Int)<=top/\(2:Int)<=top:=by unfold top;omega
 unfold qQ;simp only [if_neg hh]
 split
 ·refine Zu (fun y hy=> ?_) (show x∈_ by simp);simp only [List.mem_cons,List.not_mem_nil,or_false] at hy
  rcases hy with rfl|rfl|rfl
  ·exact m _ _
  ·exact⟨h0,ht⟩
  ·omega
 ·split
  ·refine Zu (fun y hy=> ?_) (show x∈_ by simp);simp only [List.mem_cons,List.not_mem_nil,or_false] at hy
   rcases hy with rfl|rfl
   ·exact m _ _
   ·exact⟨h0,ht⟩
  ·refine Zu (fun y hy=> ?_) (show x∈_ by simp);simp only [List.mem_cons,List.not_mem_nil,or_false] at hy
   rcases hy with rfl|rfl|rfl|rfl
   ·exact m _ _
   ·exact m _ _
   ·exact⟨h0,ht⟩
   ·omega
def Yi:Co->Nat
 | .nil=>0
 |c=>jk c+1
theorem UT{c:Co}(h:c≠ .nil):Yi c=jk c+1:=by
 cases c with
 |nil=>exact absurd rfl h
 |node=>rfl
theorem VX(k:Int)(c b:Co)(hc:c≠ .nil):Yi (k9 k c b)=jk c+1+Yi b:=by
 cases b with
 |nil=>rw [joinC_nil,UT hc];rfl
 |node k' s z a' b'=>
  rw [yA k c _ Co.noConfusion]
  show 1+jk c+jk (.node k' s z a' b')+1=jk c+1+(jk (.node k' s z a' b')+1)
  omega
theorem K1(k:Int):∀(cs:List Co) (b:Co),(∀c∈cs,c≠ .nil)->Yi (cs.foldr (k9 k) b)=(cs.map fun c=>jk c+1).sum+Yi b
 | [],b,_=>by simp
 |c::r,b,h=>by
  rw [List.foldr_cons,VX k c _ (h c (List.mem_cons_self ..)),K1 k r b (fun d hd=>h d (List.mem_cons_of_mem _ hd)),List.map_cons,List.sum_cons];omega
theorem szP_rep(k:Int)(n:Nat)(c b:Co)(hc:c≠ .nil):Yi ((List.replicate n c).foldr (k9 k) b)=n*(jk c+1)+Yi b:=by
 rw [K1 k _ _ (fun d hd=>by rw [List.eq_of_mem_replicate hd];exact hc),List.map_replicate];congr 1
 induction n with
 |zero=>simp
 |succ n ih=>rw [List.replicate_succ,List.sum_cons,ih,Nat.succ_mul];omega
theorem choice_ne(z:Bool)(c:Co):qy z c≠ .nil:=by
 unfold qy
 split<;>exact Co.noConfusion
theorem Yy(z:Bool)(c b:Co)(hc:c≠ .nil):Yi (qy z (k9 2 c b))=jk c+3+Yi b:=by
 have h1:=VX 2 c b hc;rw [UT (QC 2 c b hc)] at h1;rw [UT (choice_ne _ _)]
 have h2:jk (qy z (k9 2 c b))=2+jk (k9 2 c b):=by
  unfold qy
  split
  ·show 1+1+jk (k9 2 c b)=_
   omega
  ·show 1+jk (k9 2 c b)+1=_
   omega
 omega
theorem szP_tail(n:Nat)(z:Bool)(c:Co)(hc:c≠ .nil):Yi ((List.replicate n c).foldr (fun c b=>qy z (k9 2 c b)) .nil)=n*(jk c+3):=by
 induction n with
 |zero=>simp [Yi]
 |succ n ih=>rw [List.replicate_succ,List.foldr_cons,Yy z c _ hc,ih,Nat.succ_mul];omega
theorem Vj(c:Co):jk (Jp c)=if Yi c=0 then 1 else Yi c-1:=by
 cases c with
 |nil=>rfl
 |node k s z a b=>
  have:Yi (.node k s z a b)=jk (.node k s z a b)+1:=rfl;rw [this];rfl
theorem rep_size{lo hi:Int}(z:Bool){c:Co}(hc:c≠ .nil)(h0:0<=lo)(h1:lo<=1000)(h2:hi= -1\/(lo<=hi/\hi<=1000)){x:Int}(hx:(jk c:Int)=x)(hp:1<=x)(hr:qQ x lo hi<top):(jk (V3 lo hi z c):Int)=qQ x lo hi:=by
 obtain⟨a,rfl⟩:=Int.eq_ofNat_of_zero_le h0;have ht:(1000:Int)<top:=by unfold top;omega
 obtain⟨s,hs⟩:∃s:Nat,s=jk c:=⟨_,rfl⟩;rw [<-hs] at hx
 have two:∀{u v:Int},0<=u->0<=v->kL [u,v]<top->kL [u,v]=u+v:=fun hu hv h=>by
  rw [vY (fun y hy=>by
   simp only [List.mem_cons,List.not_mem_nil,or_false] at hy
   rcases hy with rfl|rfl<;>assumption) h]
  simp
 have three:∀{u v t:Int},0<=u->0<=v->0<=t->kL [u,v,t]<top->kL [u,v,t]=u+v+t:=fun hu hv ht h=>by
  rw [vY (fun y hy=>by
   simp only [List.mem_cons,List.not_mem_nil,or_false] at hy
   rcases hy with rfl|rfl|rfl<;>assumption) h]
  simp only [List.sum_cons,List.sum_nil];omega
 have add_le:∀k:Int,0<=k->0<=kL [x,k]:=fun k _=>xm _
 have mnn:∀u v:Int,0<=yR [u,v]:=fun u v=>ti_nn _ _
 unfold V3;rw [Vj,szP_rep 2 _ _ _ hc,<-hs,Int.toNat_natCast];unfold qQ at hr ⊢;unfold yL
 by_cases e1:hi= -1
 ·rw [if_pos e1] at hr ⊢;rw [if_pos e1];have q:=three (mnn (a:Int) (kL [x,1])) (by omega) (by omega) hr
  have q1:kL [x,1]=x+1:=two (by omega) (by omega) (by
   have:kL [x,1]=pl (pl 0 x) 1:=rfl;rw [this,Vd x (by omega) (by have:=mnn (a:Int) (kL [x,1]);omega)];unfold pl;rw [qY (by omega),qY (by omega),sat_self (by have:=mnn (a:Int) (kL [x,1]);omega)];have:=mnn (a:Int) (kL [x,1])
   omega)
  rw [q1] at q hr;have q2:=zH (x:=(a:Int)) (y:=x+1) (by omega) (by omega) (by omega) (by omega);rw [q1,q,q2,<-hx];have e:Yi (.node 4 j7 z c .nil)=s+2:=by rw [hs];show 1+jk c+0+1=_;omega
  rw [e,if_neg (by omega)];have:a*(s+1)+(s+2)-1=a*(s+1)+s+1:=by omega
  rw [this];simp
 ·rw [if_neg e1] at hr ⊢;rw [if_neg e1];obtain⟨h3,h4⟩:=h2.resolve_left e1;obtain⟨m,hm⟩:∃m:Nat,hi-(a:Int)=(m:Int):=⟨(hi-a).toNat,by omega⟩;rw [hm,Int.toNat_natCast,szP_tail m z c hc,<-hs]
  by_cases e2:hi=0
  ·rw [if_pos e2];have ha:a=0:=by omega
   have hm0:m=0:=by omega
   rw [ha,hm0];simp
  ·rw [if_neg e2] at hr ⊢
   by_cases e3:(a:Int)=hi
   ·rw [if_pos e3] at hr ⊢;have hm0:m=0:=by omega
    obtain⟨b,hb⟩:∃b,a=b+1:=⟨a-1,by omega⟩;have hb1:(a:Int)-1=(b:Int):=by omega
    rw [hb1] at hr ⊢;have q:=two (mnn (b:Int) (kL [x,1])) (by omega) hr
    by_cases hb0:b=0
    ·subst hb0
     have q2:yR [((0:Nat):Int),kL [x,1]]=0:=by
      have:yR [((0:Nat):Int),kL [x,1]]=ti (ti 1 0) (kL [x,1]):=rfl;rw [this,Yt 0 (by omega) (by omega)];unfold ti zM;simp [sat,top]
     rw [q,q2,hb,hm0,<-hx];rw [if_neg (by omega)];simp
    ·have q1:kL [x,1]=x+1:=two (by omega) (by omega) (by
      have e:yR [(b:Int),kL [x,1]]=(b:Int)*kL [x,1]:=zH (by omega) (by omega) (xm _) (by omega);have h5:1*kL [x,1]<=(b:Int)*kL [x,1]:=Int.mul_le_mul_of_nonneg_right (by omega) (xm _)
      omega)
     rw [q1] at q hr;have q2:=zH (x:=(b:Int)) (y:=x+1) (by omega) (by omega) (by omega) (by omega);rw [q1,q,q2,<-hx,hb,hm0];rw [if_neg (by rw [Nat.succ_mul];omega),Nat.succ_mul];have:b*(s+1)+(s+1)+0*(s+3)-1=b*(s+1)+s:=by omega
     rw [this];simp
   ·rw [if_neg e3] at hr ⊢;obtain⟨b,hb⟩:∃b,m=b+1:=⟨m-1,by omega⟩;have hb1:hi-(a:Int)-1=(b:Int):=by omega
    have hb2:(m:Int)-1=(b:Int):=by omega
    rw [hb1] at hr;rw [hb2]
    have four:kL [yR [(a:Int),kL [x,1]],yR [(b:Int),kL [x,3]],x,2]=yR [(a:Int),kL [x,1]]+yR [(b:Int),kL [x,3]]+x+2:=by
     rw [vY (fun y hy=>by
      simp only [List.mem_cons,List.not_mem_nil,or_false] at hy
      rcases hy with rfl|rfl|rfl|rfl
      ·exact mnn _ _
      ·exact mnn _ _
      ·omega
      ·omega) hr]
     simp only [List.sum_cons,List.sum_nil];omega
    have n1:=mnn (a:Int) (kL [x,1]);have n2:=mnn (b:Int) (kL [x,3])
    have mul_of:∀(n:Nat) (k:Int),(n:Int)<=1000->0<=k->k<=1000->yR [(n:Int),kL [x,k]]<top->yR [(n:Int),kL [x,k]]+x+2<top->yR [(n:Int),kL [x,k]]=(n:Int)*(x+k):=by
     intro n k hn hk0 hk h6 h7;have e:yR [(n:Int),kL [x,k]]=(n:Int)*kL [x,k]:=zH (by omega) (by omega) (xm _) h6
     by_cases hn0:n=0
     ·rw [e,hn0];simp
     ·have h5:1*kL [x,k]<=(n:Int)*kL [x,k]:=Int.mul_le_mul_of_nonneg_right (by omega) (xm _);rw [e,two (by omega) hk0 (by omega)]
    rw [four] at hr ⊢;rw [mul_of a 1 (by omega) (by omega) (by omega) (by omega) (by omega),mul_of b 3 (by omega) (by omega) (by omega) (by omega) (by omega),<-hx,hb];rw [if_neg (by rw [Nat.succ_mul];omega),Nat.succ_mul];have:a*(s+1)+(b*(s+3)+(s+3))-1=a*(s+1)+b*(s+3)+s+2:=by omega
    rw [this];simp
theorem Uy{t:Tr}(h:zu t):jc t<=1000000000->qt t<top->(jk (jo t):Int)=qt t:=by
 have many:∀(k:Int) (l:List Tr),(∀u∈l,zu u)->(∀u∈l,qt u<top->(jk (jo u):Int)=qt u)->2<=l.length->ve ((l.length:Int)-1) (l.map qt)<top->(jk ((l.map jo).foldr (k9 k) .nil):Int)=ve ((l.length:Int)-1) (l.map qt):=by
  intro k l hr ih hl hs
  have hn:∀x∈l.map qt,0<=x:=fun x hx=>by
   obtain⟨u,hu,rfl⟩:=List.mem_map.1 hx;have:=xx (hr u hu);omega
  have e:=QR _ _ (by omega) hn hs;rw [e] at hs ⊢
  have hne:∀c∈l.map jo,c≠ .nil:=fun c hc=>by
   obtain⟨u,hu,rfl⟩:=List.mem_map.1 hc;exact yF (hr u hu)
  have q:=K1 k (l.map jo) .nil hne;rw [UT (zl k _ _ hne (.inl (by intro e;rw [List.map_eq_nil_iff] at e;subst e;simp at hl)))] at q
  have hsum:∀(r:List Tr),(∀u∈r,u∈l)->(((r.map jo).map fun c=>jk c+1).sum:Int)=(r.map qt).sum+r.length:=by
   intro r
   induction r with
   |nil=>intro _;simp
   |cons u r ihr=>
    intro hm;have hu:=hm u (List.mem_cons_self ..)
    have le:qt u<=(l.map qt).sum:=by
     have key:∀(xs:List Int),(∀x∈xs,0<=x)->∀y∈xs,y<=xs.sum:=by
      intro xs
      induction xs with
      |nil=>intro _ y hy;cases hy
      |cons x xs ihx=>
       intro hxs y hy;rw [List.sum_cons];have h0:=hxs x (List.mem_cons_self ..);have h1:=UX (xs:=xs) (fun z hz=>hxs z (List.mem_cons_of_mem _ hz))
       rcases List.mem_cons.1 hy with rfl|hy
       ·omega
       ·have:=ihx (fun z hz=>hxs z (List.mem_cons_of_mem _ hz)) y hy;omega
     exact key _ hn _ (List.mem_map_of_mem hu)
    have e1:=ih u hu (by omega);have e2:=ihr (fun v hv=>hm v (List.mem_cons_of_mem _ hv));simp only [List.map_cons,List.sum_cons,List.length_cons];omega
  have hall:=hsum l (fun _ h=>h);have z0:Yi .nil=0:=rfl;rw [z0] at q;omega
 induction h with
 |empty a b=>intro _ _;rfl
 |set s a b hs=>intro _ _;rfl
 |group k a b u hk hu ih=>
  intro hz hs;have hzu:=vv (u:=.mk k j7 0 0 false a b [u]) (i:=0) (c:=u) rfl
  have e:qt (.mk k j7 0 0 false a b [u])=kL [0,qt u]:=by
   rw [vr (by rcases hk with rfl|rfl<;>decide) _ _ _ _ _ _ (by simp)];rfl
  rw [e] at hs ⊢;have hp:=xx hu
  have e2:=vY (xs:= [0,qt u]) (fun y hy=>by
   simp only [List.mem_cons,List.not_mem_nil,or_false] at hy
   rcases hy with rfl|rfl<;>omega) hs
  rw [e2] at hs ⊢;simp only [List.sum_cons,List.sum_nil] at hs ⊢;have:=ih (by omega) (by omega)
  have e3:jo (.mk k j7 0 0 false a b [u])=jo u:=by
   rw [jo,kc]
   rcases hk with rfl|rfl<;>rfl
  rw [e3];omega
 |cat a b l hl hi h ih=>
  intro hz hs;rw [vr (by decide) _ _ _ _ _ _ (by omega)] at hs ⊢;rw [jo,kc];exact many 2 l h (fun u hu hs=>ih u hu (by have h1:=jZ hu;have h2:=kI (.mk 4 j7 0 0 false a b l);rw [show kM (.mk 4 j7 0 0 false a b l)=l from rfl] at h2;omega) hs) hl hs
 |alt a b l hl hi h ih=>
  intro hz hs;rw [vr (by decide) _ _ _ _ _ _ (by omega)] at hs ⊢;rw [jo,kc];exact many 3 l h (fun u hu hs=>ih u hu (by have h1:=jZ hu;have h2:=kI (.mk 5 j7 0 0 false a b l);rw [show kM (.mk 5 j7 0 0 false a b l)=l from rfl] at h2;omega) hs) hl hs
 |rep lo hi z a b u hc hu h ih=>
  intro hz hs;have hzu:=vv (u:=.mk 6 j7 lo hi z a b [u]) (i:=0) (c:=u) rfl
  have e:qt (.mk 6 j7 lo hi z a b [u])=qQ (qt u) lo hi:=by
   rw [qt,xe];rfl
  rw [e] at hs ⊢
  obtain⟨h1,h2,h3⟩:0<=lo/\lo<=qM hi/\qM hi<=1000:=by
   unfold kS at hc;simpa using hc
  have hh:hi= -1\/(lo<=hi/\hi<=1000):=by
   by_cases hm:hi= -1
   ·exact .inl hm
   ·right
    unfold qM at h2 h3;rw [if_neg hm] at h2 h3;exact⟨h2,h3⟩
  have hp:=xx h;have hne:=yF h
  have ec:jo (.mk 6 j7 lo hi z a b [u])=V3 lo hi z (jo u):=by
   rw [jo,kc];rfl
  rw [ec]
  by_cases h6:hi=0
  ·have hl:lo=0:=by omega
   subst h6;subst hl;rfl
  ·exact rep_size z hne h1 (by omega) hh (ih (by omega) (by have:=repM_ge (lo:=lo) (Int.le_trans (by omega) hp) (xH u (by omega)).2 h6;omega)) hp hs
theorem Kd:jk restC=2:=rfl
theorem by_size{m:Int}(hm:0<=m/\m<4){c:Co}(hc:c≠ .nil):(jk (UC m c):Int)=jk c+xZ m:=by
 have hr:restC≠ .nil:=Co.noConfusion
 have j:∀(a b:Co),a≠ .nil->b≠ .nil->jk (k9 2 a b)=jk a+jk b+1:=fun a b ha hb=>by
  rw [yA 2 a b hb]
  show 1+jk a+jk b=_
  omega
 unfold UC xZ
 by_cases h1:m=1
 ·rw [if_pos h1,j c restC hc hr,Kd,if_neg (by omega),if_neg (by omega)];omega
 ·by_cases h2:m=2
  ·rw [if_neg h1,if_pos h2,j restC c hr hc,Kd,if_neg (by omega),if_neg (by omega)];omega
  ·by_cases h3:m=3
   ·rw [if_neg h1,if_neg h2,if_pos h3,j restC _ hr (QC 2 c restC hc),j c restC hc hr,Kd,if_neg (by omega),if_pos h3];omega
   ·rw [if_neg h1,if_neg h2,if_neg h3];obtain rfl:m=0:=by omega
    simp
end
end
end Go.Proofs.YtnmalggmbeipaaaGreatDoor
namespace Go.Proofs.YtnmalggmbeipaaaGreatDoor
section
section
open Go Go.RowKit
attribute [local go_sem ↓] Go.wp_at_zero Go.wp_at_succ
attribute [local go_sem] qX
theorem yY{s:ByteArray}{t:Tr}(hs:s.size<=400)(h:qd s=(0,0,some t)):jc t<=1000000000:=by
 obtain⟨h1,h2,h3⟩:=yZ h;have hl:=zA s;have h4:=(rt_sizes h1).2.2;rw [h3] at h4;unfold mt at h4;rw [List.length_map] at h4;omega
theorem QT{x y:Int}(hx:1<=x)(hxt:x<=top)(hy:0<=y)(h:kL [x,y]<=4096):kL [x,y]=x+y:=by
 have e:=vY (xs:= [x,y]) (fun z hz=>by
  simp only [List.mem_cons,List.not_mem_nil,or_false] at hz
  rcases hz with rfl|rfl<;>omega) (by unfold top;omega)
 rw [e];simp
structure GC(c:Co):Prop where
 wf:QU c
 size:jk c<=4096
theorem po_good{s:ByteArray}{m:Int}{t:Tr}(hs:s.size<=400)(hm:0<=m/\m<4)(h:qd s=(0,0,some t))(hz:kL [qt t,xZ m]<=4096):GC (UC m (jo t)):=by
 obtain⟨h1,_,_⟩:=yZ h;have hw:=Zx h1;have hb:=xH t (yY hs h);have e:=QT (xx h1) hb.2 (JD m).1 hz;have hn:=(JD m).1;have hc:=Uy h1 (yY hs h) (by unfold top;omega);have hy:=by_size (m:=m) hm hw.ne;exact⟨wf_by m hw,by omega⟩
end
end
end Go.Proofs.YtnmalggmbeipaaaGreatDoor
