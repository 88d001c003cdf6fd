/- A part of the proof. -/
import Derived.Test.YtnmalggmbeipaaaGreatDoorTb
import Derived.Test.YtnmalggmbeipaaaGreatDoorTc
import Derived.Deep.DeepCutAuto
import Derived.Test.YtnmalggmbeipaaaGreatDoorRa
import Derived.Deep.RegionWith
set_option maxRecDepth 100000
set_option maxHeartbeats 16000000
namespace Go.Proofs.YtnmalggmbeipaaaGreatDoor
section
open Go Go.RowKit
inductive Tr where
 |mk (kind:Int) (set:W4) (lo hi:Int) (lz:Bool) (a b:Nat) (l:List Tr):Tr
abbrev jq:=List (jp×Nat×Nat)
def ki(L:jq)(size i:Nat):Nat:=match L[i]? with
 |some x=>x.2.1
 |none=>size
def jR(L:jq)(i:Nat):Int:=match L[i]? with
 |some x=>x.1.kind
 |none=> -1
def xv(L:jq)(i:Nat):jp:=match L[i]? with
 |some x=>x.1
 |none=>jg
abbrev UK:=Int×Nat×Option Tr
def xC(kind:Int)(l:List Tr)(a b:Nat):Tr:=match l with
 | [t]=>t
 |l=>.mk kind j7 0 0 false a b l
def QO(l:List Tr)(a b:Nat):Tr:=match l with
 | []=>.mk 0 j7 0 0 false a b []
 |l=>xC 4 l a b
def xw(r:UK)(f:Nat->Tr->UK):UK:=match r.2.2 with
 |some t=>if r.1=0 then f r.2.1 t else(r.1,r.2.1,none)
 |none=>(r.1,r.2.1,none)
theorem ky(j:Nat)(t:Tr)(f:Nat->Tr->UK):xw (0,j,some t) f=f j t:=rfl
theorem kE(e:Int)(j:Nat)(f:Nat->Tr->UK):xw (e,j,none) f=(e,j,none):=rfl
mutual
def xI(L:jq)(size:Nat):Nat->Nat->Nat->UK
 |0,_,i=>(4,i,none)
 |n+1,d,i=>altsF L size n d i i []
def altsF(L:jq)(size:Nat):Nat->Nat->Nat->Nat->List Tr->UK
 |0,_,i,_,_=>(4,i,none)
 |n+1,d,i,from_,acc=>xw (kF L size n d i i []) fun j t=>
  if jR L j=4 then altsF L size n d (j+1) from_ (acc++ [t]) else(0,j,some (xC 5 (acc++ [t]) (ki L size from_) (ki L size j)))
def kF(L:jq)(size:Nat):Nat->Nat->Nat->Nat->List Tr->UK
 |0,_,i,_,_=>(4,i,none)
 |n+1,d,i,from_,acc=>if L.length<=i\/jR L i=4\/jR L i=3 then(0,i,some (QO acc (ki L size from_) (ki L size i)))
  else xw (itemF L size n d i) fun j t=>kF L size n d j from_ (acc++ [t])
def itemF(L:jq)(size:Nat):Nat->Nat->Nat->UK
 |0,_,i=>(4,i,none)
 |n+1,d,i=>xw (ko L size n d i) fun j t=>
  if jR L j=5 then(0,j+1,some (.mk 6 j7 (xv L j).lo (xv L j).hi (xv L j).lazy (ki L size i) (ki L size (j+1)) [t])) else(0,j,some t)
def ko(L:jq)(size:Nat):Nat->Nat->Nat->UK
 |0,_,i=>(4,i,none)
 |n+1,d,i=>if jR L i=0 then(0,i+1,some (.mk 1 (xv L i).set 0 0 false (ki L size i) (ki L size (i+1)) []))
  else if jR L i=1 then kG L size n d i 2 else if jR L i=2 then kG L size n d i 3 else(4,i,none)
def kG(L:jq)(size:Nat):Nat->Nat->Nat->Int->UK
 |0,_,i,_=>(4,i,none)
 |n+1,d,i,kind=>if d=200 then(3,i,none) else xw (xI L size n (d+1) (i+1)) fun j t=>
  if jR L j=3 then(0,j+1,some (.mk kind j7 0 0 false (ki L size i) (ki L size (j+1)) [t])) else(4,j,none)
end
theorem qq{L:jq}{i:Nat}{k:Int}(h:jR L i=k)(hk:k≠ -1):i<L.length:=by
 unfold jR at h
 by_cases hi:i<L.length
 ·exact hi
 ·rw [List.getElem?_eq_none (by omega)] at h;exact absurd h.symm hk
structure ye(L:jq)(lo:Nat)(r:UK):Prop where
 err:r.1=0\/r.1=3\/r.1=4
 le:r.2.1<=L.length
 on:r.1=0->lo<=r.2.1
 yes:r.1=0->∃t,r.2.2=some t
 no:r.1≠0->r.2.2=none
theorem ye.bad{L:jq}{lo j:Nat}{e:Int}(he:e=3\/e=4)(hj:j<=L.length):ye L lo (e,j,none):=
 ⟨.inr he,hj,fun h=>by have h':e=0:=h;rcases he with rfl|rfl<;>exact absurd h' (by decide),fun h=>by have h':e=0:=h;rcases he with rfl|rfl<;>exact absurd h' (by decide),fun _=>rfl⟩
theorem ye.good{L:jq}{lo j:Nat}{t:Tr}(hl:lo<=j)(hj:j<=L.length):ye L lo (0,j,some t):=⟨.inl rfl,hj,fun _=>hl,fun _=>⟨t,rfl⟩,fun h=>absurd rfl h⟩
theorem ye.cases{L:jq}{lo:Nat}{r:UK}(h:ye L lo r):(∃j t,r=(0,j,some t)/\lo<=j/\j<=L.length)\/∃e j,r=(e,j,none)/\(e=3\/e=4)/\j<=L.length:=by
 obtain⟨e,j,o⟩:=r;have he:e=0\/e=3\/e=4:=h.err
 rcases he with rfl|he
 ·obtain⟨t,ht⟩:=h.yes rfl;have ht:o=some t:=ht;subst ht;exact .inl ⟨j,t,rfl,h.on rfl,h.le⟩
 ·have hn:o=none:=h.no (show e≠0 by omega);subst hn;exact .inr ⟨e,j,rfl,he,h.le⟩
theorem xD(L:jq)(size:Nat):∀n,
  (∀d i,i<=L.length->ye L i (xI L size n d i))/\(∀d i a acc,i<=L.length->ye L i (altsF L size n d i a acc))/\(∀d i a acc,i<=L.length->ye L i (kF L size n d i a acc))/\
  (∀d i,i<=L.length->ye L (i+1) (itemF L size n d i))/\(∀d i,i<=L.length->ye L (i+1) (ko L size n d i))/\(∀d i k,i<L.length->ye L (i+1) (kG L size n d i k)):=by
 intro n
 induction n with
 |zero=>exact⟨fun d i hi=>by rw [xI];exact .bad (.inr rfl) hi,fun d i a acc hi=>by rw [altsF];exact .bad (.inr rfl) hi,fun d i a acc hi=>by rw [kF];exact .bad (.inr rfl) hi,
   fun d i hi=>by rw [itemF];exact .bad (.inr rfl) hi,fun d i hi=>by rw [ko];exact .bad (.inr rfl) hi,fun d i k hi=>by rw [kG];exact .bad (.inr rfl) (Nat.le_of_lt hi)⟩
 |succ n ih=>
  obtain⟨i1,i2,i3,i4,i5,i6⟩:=ih;refine⟨fun d i hi=>by rw [xI];exact i2 d i i [] hi,?_,?_,?_,?_,?_⟩
  ·intro d i a acc hi;rw [altsF]
   rcases(i3 d i i [] hi).cases with ⟨j,t,hr,hlo,hj⟩|⟨e,j,hr,he,hj⟩
   ·rw [hr,ky]
    split
    ·next h4=>
     have h4':=qq h4 (by decide);have h:=i2 d (j+1) a (acc++ [t]) h4';exact⟨h.err,h.le,fun e=>Nat.le_trans (by omega) (h.on e),h.yes,h.no⟩
    ·exact .good hlo hj
   ·rw [hr,kE]
    rcases he with rfl|rfl
    ·exact .bad (.inl rfl) hj
    ·exact .bad (.inr rfl) hj
  ·intro d i a acc hi;rw [kF]
   split
   ·exact .good (jN _) hi
   ·rcases(i4 d i hi).cases with ⟨j,t,hr,hlo,hj⟩|⟨e,j,hr,he,hj⟩
    ·rw [hr,ky];have h:=i3 d j a (acc++ [t]) hj;exact⟨h.err,h.le,fun e=>Nat.le_trans (by omega) (h.on e),h.yes,h.no⟩
    ·rw [hr,kE]
     rcases he with rfl|rfl
     ·exact .bad (.inl rfl) hj
     ·exact .bad (.inr rfl) hj
  ·intro d i hi;rw [itemF]
   rcases(i5 d i hi).cases with ⟨j,t,hr,hlo,hj⟩|⟨e,j,hr,he,hj⟩
   ·rw [hr,ky]
    split
    ·next h5=>exact .good (by omega) (qq h5 (by decide))
    ·exact .good hlo hj
   ·rw [hr,kE]
    rcases he with rfl|rfl
    ·exact .bad (.inl rfl) hj
    ·exact .bad (.inr rfl) hj
  ·intro d i hi;rw [ko]
   split
   ·next h=>exact .good (jN _) (qq h (by decide))
   ·split
    ·next h=>exact i6 d i 2 (qq h (by decide))
    ·split
     ·next h=>exact i6 d i 3 (qq h (by decide))
     ·exact .bad (.inr rfl) hi
  ·intro d i k hi;rw [kG]
   split
   ·exact .bad (.inl rfl) (Nat.le_of_lt hi)
   ·rcases(i1 (d+1) (i+1) hi).cases with ⟨j,t,hr,hlo,hj⟩|⟨e,j,hr,he,hj⟩
    ·rw [hr,ky]
     split
     ·next h3=>exact .good (by omega) (qq h3 (by decide))
     ·exact .bad (.inr rfl) hj
    ·rw [hr,kE]
     rcases he with rfl|rfl
     ·exact .bad (.inl rfl) hj
     ·exact .bad (.inr rfl) hj
end
section
open Go Go.RowKit
attribute [local go_sem ↓] Go.wp_at_zero Go.wp_at_succ
attribute [local go_sem] qX
structure PsAt(w:World)(g gt:Nat)(L:jq)(size i r d:Nat):Prop where
 left:∃p cap,w.cell? ⟨g,0,none⟩=some (.slice p r cap)/\r<=cap/\(0<r->p=some ⟨gt,i*10,none⟩)
 fin:w.cell? ⟨g,1,none⟩=some (.int .i64 (size:Int))
 deep:w.cell? ⟨g,2,none⟩=some (.int .i64 (d:Int))
 free:w.frozen? ⟨g,0,none⟩=false/\w.frozen? ⟨g,2,none⟩=false
 lt:g<w.heap.size
 sum:i+r=L.length
 toks:∀k x,L[k]? =some x->gt<w.heap.size/\gt≠g/\∀o u,(tcells x)[o]? =some u->w.cell? ⟨gt,k*10+o,none⟩=some u
theorem PsAt.below{w w':World}{g gt:Nat}{L:jq}{size i r d:Nat}(h:PsAt w g gt L size i r d)(hb:Below w.heap.size w w'):PsAt w' g gt L size i r d:=by
 obtain⟨⟨p,cap,h1,h2,h3⟩,h4,h5,⟨h6,h7⟩,h8,h9,h10⟩:=h
 refine⟨⟨p,cap,(hb.cell (p:=⟨g,0,none⟩) h8).trans h1,h2,h3⟩,(hb.cell (p:=⟨g,1,none⟩) h8).trans h4,(hb.cell (p:=⟨g,2,none⟩) h8).trans h5,
  ⟨(hb.frozen (p:=⟨g,0,none⟩) h8).trans h6,(hb.frozen (p:=⟨g,2,none⟩) h8).trans h7⟩,Nat.lt_of_lt_of_le h8 hb.size,h9,fun k x hk=> ?_⟩
 obtain⟨k1,k2,k3⟩:=h10 k x hk;exact⟨Nat.lt_of_lt_of_le k1 hb.size,k2,fun o u ho=>(hb.cell (p:=⟨gt,k*10+o,none⟩) k1).trans (k3 o u ho)⟩
def Ps(w w':World)(g gt:Nat)(L:jq)(size i r d:Nat):Prop:=PsAt w' g gt L size i r d/\w.grownBy w' (some g)
theorem PsAt.nxt{w:World}{g gt:Nat}{L:jq}{size i r d:Nat}(h:PsAt w g gt L size i r d)(hr:0<r):∃x cap,L[i]? =Option.some x/\w.cell? ⟨g,0,none⟩=Option.some (.slice (Option.some ⟨gt,i*10,none⟩) r cap)/\r<=cap/\gt<w.heap.size/\gt≠g/\
  (w.cell? ⟨gt,i*10,none⟩=Option.some (.int .i64 x.1.kind)/\w.cell? ⟨gt,i*10+1,none⟩=Option.some (.int .i64 (x.2.1:Int))/\w.cell? ⟨gt,i*10+2,none⟩=Option.some (.int .i64 (x.2.2:Int))/\w.cell? ⟨gt,i*10+3,none⟩=Option.some (.int .u64 x.1.set.a)/\
  w.cell? ⟨gt,i*10+4,none⟩=Option.some (.int .u64 x.1.set.b)/\w.cell? ⟨gt,i*10+5,none⟩=Option.some (.int .u64 x.1.set.c)/\w.cell? ⟨gt,i*10+6,none⟩=Option.some (.int .u64 x.1.set.d)/\w.cell? ⟨gt,i*10+7,none⟩=Option.some (.int .i64 x.1.lo)/\
  w.cell? ⟨gt,i*10+8,none⟩=Option.some (.int .i64 x.1.hi)/\w.cell? ⟨gt,i*10+9,none⟩=Option.some (.bool x.1.lazy)):=by
 have hs:=h.sum;obtain⟨x,hx⟩:∃x,L[i]? =Option.some x:=⟨_,List.getElem?_eq_getElem (by omega)⟩;obtain⟨p,cap,h1,h2,h3⟩:=h.left;rw [h3 hr] at h1;obtain⟨k1,k2,k3⟩:=h.toks i x hx;exact⟨x,cap,hx,h1,h2,k1,k2,k3 0 _ rfl,k3 1 _ rfl,k3 2 _ rfl,k3 3 _ rfl,k3 4 _ rfl,k3 5 _ rfl,k3 6 _ rfl,k3 7 _ rfl,k3 8 _ rfl,k3 9 _ rfl⟩
theorem yq(g gt:Nat)(L:jq)(size i r d:Nat)(w:World)(h:PsAt w g gt L size i r d):
  Calls Tryz.prog 93 #[.pointer (some ⟨g,0,none⟩)] w fun e w'=>e=.returned (.bool (decide (r=0)))/\w'=w:=by
 obtain⟨p,cap,h1,h2,h3⟩:=h.left;have hlt:=h.lt;clear h h3
 by_cases hr:r=0
 ·subst hr
  go_enter Tryz.func93,Tryz.ntmps93
  go_wp2_with fail
  go_ret
  exact⟨rfl,rfl⟩
 ·have d1:((r:Int)==0)=false:=by simp;omega
  rw [jF hr];clear hr
  go_enter Tryz.func93,Tryz.ntmps93
  go_wp2_with fail
  go_ret
  exact⟨rfl,rfl⟩
theorem pplace_any(g gt:Nat)(L:jq)(size i r d:Nat)(w:World)(h:PsAt w g gt L size i r d):
  Calls Tryz.prog 50 #[.pointer (some ⟨g,0,none⟩)] w fun e w'=>e=.returned (.int .i64 (ki L size i:Int))/\w'=w:=by
 have EN:=j0 (yq g gt L size i r d w h);have hlt:=h.lt
 by_cases hr:r=0
 ·have HF:Hid (ki L size i=size):=j0 (by have:=h.sum;unfold ki;rw [List.getElem?_eq_none (by omega)]);rw [jT hr] at EN;have h1:=h.fin;clear h hr
  go_enter Tryz.func50,Tryz.ntmps50
  go_wp2_with fail
  refine EN.out.mono ?_;rintro e w1 ⟨rfl,hw⟩;obtain rfl:w=w1:=hw.symm
  go_wp2_with fail
  go_ret
  exact⟨by rw [HF.out]<;>rfl,rfl⟩
 ·obtain⟨x,cap,hx,h1,h2,k1,k2,c0,c1,_⟩:=h.nxt (by omega);have HF:Hid (ki L size i=x.2.1):=j0 (by unfold ki;rw [hx]);rw [jF hr] at EN;have hr1:0<r:=by omega
  clear h hx hr k2
  go_enter Tryz.func50,Tryz.ntmps50
  go_wp2_with fail
  refine EN.out.mono ?_;rintro e w1 ⟨rfl,hw⟩;obtain rfl:w=w1:=hw.symm
  go_wp2_with fail
  go_ret
  exact⟨by rw [HF.out]<;>rfl,rfl⟩
theorem psees_any(g gt:Nat)(L:jq)(size i r d k:Nat)(w:World)(h:PsAt w g gt L size i r d):
  Calls Tryz.prog 185 #[.pointer (some ⟨g,0,none⟩),.int .i64 (k:Int)] w fun e w'=>e=.returned (.bool (decide (jR L i=(k:Int))))/\w'=w:=by
 have EN:=j0 (yq g gt L size i r d w h);have hlt:=h.lt
 by_cases hr:r=0
 ·have HF:Hid (decide (jR L i=(k:Int))=false):=j0 (by have:=h.sum;unfold jR;rw [List.getElem?_eq_none (by omega)];show decide ((-1:Int)=(k:Int))=false;exact jF (by omega));rw [jT hr] at EN;clear h hr
  go_enter Tryz.func185,Tryz.ntmps185
  go_wp2_with fail
  refine EN.out.mono ?_;rintro e w1 ⟨rfl,hw⟩;obtain rfl:w=w1:=hw.symm
  go_wp2_with fail
  go_ret
  exact⟨by rw [HF.out]<;>rfl,rfl⟩
 ·obtain⟨x,cap,hx,h1,h2,k1,k2,c0,c1,_⟩:=h.nxt (by omega);have HF:Hid (jR L i=x.1.kind):=j0 (by unfold jR;rw [hx]);rw [jF hr] at EN;have hr1:0<r:=by omega
  clear h hx hr k2;generalize x.1.kind=kx at*
  by_cases hk:kx=(k:Int)
  ·subst hk
   go_enter Tryz.func185,Tryz.ntmps185
   go_wp2_with fail
   refine EN.out.mono ?_;rintro e w1 ⟨rfl,hw⟩;obtain rfl:w=w1:=hw.symm
   go_wp2_with fail
   go_ret
   exact⟨by rw [HF.out,jT rfl]<;>rfl,rfl⟩
  ·have d1:(kx==(k:Int))=false:=by simpa using hk
   have HK:=j0 hk;clear hk
   go_enter Tryz.func185,Tryz.ntmps185
   go_wp2_with fail
   refine EN.out.mono ?_;rintro e w1 ⟨rfl,hw⟩;obtain rfl:w=w1:=hw.symm
   go_wp2_with fail
   go_ret
   exact⟨by rw [HF.out,jF HK.out]<;>rfl,rfl⟩
theorem xR(g gt:Nat)(L:jq)(size i r d a:Nat)(w:World)(h:PsAt w g gt L size i r d):
  Calls Tryz.prog 187 #[.pointer (some ⟨g,0,none⟩),.int .i64 (a:Int)] w fun e w'=>e=.returned (.agg #[.int .i64 (a:Int),.int .i64 (ki L size i:Int)])/\Below w.heap.size w w':=by
 have PL:=j0 (fun W (hb:Below w.heap.size w W)=>pplace_any g gt L size i r d W (h.below hb));have hlt:=h.lt;clear h;generalize ki L size i=b at*
 go_enter Tryz.func187,Tryz.ntmps187
 go_wp2_with fail
 refine(PL.out _ (j3 _ _)).mono ?_;rintro e w1 ⟨rfl,hw⟩;subst hw
 go_wp2_with fail
 refine bodyPost_ret (v:=.agg #[.int .i64 (a:Int),.int .i64 (b:Int)]) (by simp [results,Tryz.results187,go_sem]) rfl ⟨rfl,?_⟩;exact j3 _ _
abbrev vn(k:Int)(s:W4)(lo hi:Int)(z:Bool)(lv:Value)(a b:Nat):Obj:=.cells #[.int .i64 k,.int .u64 s.a,.int .u64 s.b,.int .u64 s.c,.int .u64 s.d,.int .i64 lo,.int .i64 hi,.bool z,lv,.int .i64 (a:Int),.int .i64 (b:Int)] 185
inductive jJ(w:World)(A:Nat->Prop):Tr->Value->Prop
 |node (k:Int) (s:W4) (lo hi:Int) (z:Bool) (a b:Nat) (l:List Tr) (q:Nat) (p:Option Addr) (cap:Nat) (us:Nat->Value)
   (hq:A q) (hb:w.heap[q]? =some (vn k s lo hi z (.slice p l.length cap) a b))
   (hc:∀i t,l[i]? =some t->∃c,p=some ⟨c,0,none⟩/\A c/\c<w.heap.size/\w.cell? ⟨c,i,none⟩=some (us i))
   (ht:∀i t,l[i]? =some t->jJ w A t (us i)):jJ w A (.mk k s lo hi z a b l) (.pointer (some ⟨q,0,none⟩))
theorem jJ.keep{w w':World}{A:Nat->Prop}{row:Option Nat}{t:Tr}{v:Value}(h:jJ w A t v)(hg:w.grownBy w' row)(hA:∀b,A b->row≠some b):jJ w' A t v:=by
 induction h with
 |node k s lo hi z a b l q p cap us hq hb hc ht ih=>
  refine .node k s lo hi z a b l q p cap us hq ((hg.block q (jS hb) (fun e=>hA q hq e.symm)).trans hb) (fun i t hi=> ?_) (fun i t hi=>ih i t hi);obtain⟨c,h1,h2,h3,h4⟩:=hc i t hi;exact⟨c,h1,h2,Nat.lt_of_lt_of_le h3 hg.size,hg.cell h4 (fun e=>hA c h2 e.symm)⟩
theorem jJ.up{w w':World}{A:Nat->Prop}{t:Tr}{v:Value}(h:jJ w A t v)(hb:Below w.heap.size w w'):jJ w' A t v:=
 h.keep (row:=none) ⟨hb.os,hb.tape,hb.output,hb.size,fun i hi _=>hb.block i hi⟩ (fun _ _ e=>by cases e)
theorem jJ.mono{w:World}{A A':Nat->Prop}{t:Tr}{v:Value}(h:jJ w A t v)(hA:∀b,b<w.heap.size->A b->A' b):jJ w A' t v:=by
 induction h with
 |node k s lo hi z a b l q p cap us hq hb hc ht ih=>
  refine .node k s lo hi z a b l q p cap us (hA q (jS hb) hq) hb (fun i t hi=> ?_) (fun i t hi=>ih i t hi);obtain⟨c,h1,h2,h3,h4⟩:=hc i t hi;exact⟨c,h1,hA c h3 h2,h3,h4⟩
theorem jJ.pointer{w:World}{A:Nat->Prop}{t:Tr}{v:Value}(h:jJ w A t v):∃q,v=.pointer (some ⟨q,0,none⟩):=by
 cases h with
 |node k s lo hi z a b l q p cap us hq hb hc ht=>exact⟨q,rfl⟩
structure Jc(B:Nat)(l:List Tr)(us:List Value)(v:Value)(w:World):Prop where
 len:us.length=l.length
 own:w.ownsRow B 45 1 v l.length us
 tr:∀(i:Nat) (t:Tr) (u:Value),l[i]? =some t->us[i]? =some u->jJ w (fun b=>B<=b/\v.ownBlock≠some b) t u
theorem Jc.start(B:Nat)(w:World):Jc B [] [] (.slice none 0 0) w:=⟨rfl,⟨rfl,.inl ⟨rfl,rfl⟩⟩,fun i t u h=>by simp at h⟩
theorem Jc.keep{g B:Nat}{l:List Tr}{us:List Value}{v:Value}{w w1:World}(h:Jc B l us v w)(hg:w.grownBy w1 (some g))(hB:g<B):Jc B l us v w1:=
 ⟨h.len,qp h.own hg (fun b hb e=>by have:=(kl h.own hb).1;injection e with e;omega),fun i t u hi hu=>(h.tr i t u hi hu).keep hg (fun b hb e=>by injection e with e;have:=hb.1;omega)⟩
theorem Jc.add{B lo:Nat}{l:List Tr}{us:List Value}{v v4 u:Value}{w w4:World}{t:Tr}{o:Obj}(h:Jc B l us v w)(hlo:∀b,v.ownBlock=some b->b<lo)(hB:B<=lo)(ht:jJ w (fun b=>lo<=b) t u)
  (ho:w4.ownsRow B 45 1 v4 (l.length+1) (us++ [u])) (hg:(w.alloc o).grownBy w4 v.ownBlock) (hat:v4.ownBlock=v.ownBlock\/v4.ownBlock=some (w.alloc o).heap.size):Jc B (l++ [t]) (us++ [u]) v4 w4:=by
 have key:∀(t:Tr) (u:Value),jJ w (fun b=>B<=b/\v.ownBlock≠some b) t u->jJ w4 (fun b=>B<=b/\v4.ownBlock≠some b) t u:=by
  intro t u h1;have h2:jJ w (fun b=>(B<=b/\v.ownBlock≠some b)/\b<w.heap.size) t u:=h1.mono (fun b hb hA=>⟨hA,hb⟩);refine((h2.up (j3 w o)).keep hg (fun b hb=>hb.1.2)).mono (fun b _ hb=>⟨hb.1.1,?_⟩)
  rcases hat with e|e
  ·rw [e];exact hb.1.2
  ·rw [e,World.size_alloc];intro e2;injection e2 with e2;have:=hb.2;omega
 refine⟨by simp [h.len],by simpa using ho,fun i t' u' hi hu=> ?_⟩
 by_cases hil:i<l.length
 ·rw [List.getElem?_append_left hil] at hi;rw [List.getElem?_append_left (by rw [h.len];exact hil)] at hu;exact key _ _ (h.tr i t' u' hi hu)
 ·have hi':i=l.length:=by
   have:=(List.getElem?_eq_some_iff.1 hi).1;simp at this;omega
  subst hi';have e1:t=t':=by simpa using hi
  have e2:u=u':=by rw [<-h.len] at hu;simpa using hu
  subst e1 e2;exact key _ _ (ht.mono (fun b _ hb=>⟨Nat.le_trans hB hb,fun e=>by have:=hlo b e;omega⟩))
theorem Jc.at{B:Nat}{l:List Tr}{us:List Value}{v:Value}{w:World}(h:Jc B l us v w):
  ∃(p:Option Addr) (cap:Nat) (us:Nat->Value),v=.slice p l.length cap/\(∀(i:Nat) (t:Tr),l[i]? =some t->∃c,p=some ⟨c,0,none⟩/\B<=c/\c<w.heap.size/\w.cell? ⟨c,i,none⟩=some (us i))/\∀(i:Nat) (t:Tr),l[i]? =some t->jJ w (fun b=>B<=b) t (us i):=by
 obtain⟨h1,h2,h3⟩:=h
 rcases h2.2 with ⟨rfl,hl⟩|⟨c,cap,cur,rfl,hb,hh,hcap,hmax,hcs,htake⟩
 ·have hl':l= []:=List.length_eq_zero_iff.1 hl;subst hl';exact⟨none,0,fun _=>undef,rfl,fun i t hi=>by simp at hi,fun i t hi=>by simp at hi⟩
 ·refine⟨_,cap,fun i=>us.getD i undef,rfl,fun i t hi=>⟨c,rfl,hb,(Array.getElem?_eq_some_iff.1 hh).1,?_⟩,fun i t hi=> ?_⟩
  ·have hil:=(List.getElem?_eq_some_iff.1 hi).1;have hiu:i<us.length:=by omega
   rw [jC hh,<-Array.getElem?_toList];have e:(cur.toList.take (l.length*1))[i]? =us[i]? :=by rw [htake]
   rw [List.getElem?_take_of_lt (by omega)] at e;rw [e,List.getElem?_eq_getElem hiu];simp [hiu]
  ·have hil:=(List.getElem?_eq_some_iff.1 hi).1;have hiu:i<us.length:=by omega
   refine(h3 i t _ hi ?_).mono (fun b _ hb=>hb.1);rw [List.getElem?_eq_getElem hiu];simp [hiu]
theorem PsAt.step{w w':World}{g gt:Nat}{L:jq}{size i r d:Nat}{p:Option Addr}{cap:Nat}(h:PsAt w g gt L size i (r+1) d)(hw:w'=w.setCell ⟨g,0,none⟩ (.slice p r cap))(hc:r<=cap)(hp:0<r->p=some ⟨gt,(i+1)*10,none⟩):Ps w w' g gt L size (i+1) r d:=by
 obtain⟨⟨p0,cap0,h1,_,_⟩,h4,h5,⟨h6,h7⟩,h8,h9,h10⟩:=h;subst hw;refine⟨⟨⟨p,cap,by simp [go_sem, *],hc,hp⟩,by simp [go_sem, *],by simp [go_sem, *],⟨by simp [go_sem, *],by simp [go_sem, *]⟩,by simpa [World.setCell] using h8,by omega,fun k x hk=> ?_⟩,js (ql w _) (.inl rfl) _⟩;obtain⟨k1,k2,k3⟩:=h10 k x hk;exact⟨by simpa [World.setCell] using k1,k2,fun o u ho=>((js (ql w (some g)) (p:=⟨g,0,none⟩) (.inl rfl) (.slice p r cap)).cell (k3 o u ho) (fun e=>k2 (Option.some.inj e)))⟩
abbrev tkVal(x:jp×Nat×Nat):Value:=.agg #[.int .i64 x.1.kind,.int .i64 (x.2.1:Int),.int .i64 (x.2.2:Int),.int .u64 x.1.set.a,.int .u64 x.1.set.b,.int .u64 x.1.set.c,.int .u64 x.1.set.d,.int .i64 x.1.lo,.int .i64 x.1.hi,.bool x.1.lazy]
abbrev J2(x:jp×Nat×Nat):Obj:=.cells #[.int .i64 x.1.kind,.int .i64 (x.2.1:Int),.int .i64 (x.2.2:Int),.int .u64 x.1.set.a,.int .u64 x.1.set.b,.int .u64 x.1.set.c,.int .u64 x.1.set.d,.int .i64 x.1.lo,.int .i64 x.1.hi,.bool x.1.lazy] 171
theorem Ps.trans{w w1 w2:World}{g gt:Nat}{L:jq}{size i r d i' r' d':Nat}(h:Ps w w1 g gt L size i r d)(k:Ps w1 w2 g gt L size i' r' d'):Ps w w2 g gt L size i' r' d':=⟨k.1,yt h.2 k.2⟩
theorem Ps.below{w w1 w2:World}{g gt:Nat}{L:jq}{size i r d:Nat}(h:Ps w w1 g gt L size i r d)(hb:Below w1.heap.size w1 w2):Ps w w2 g gt L size i r d:=⟨h.1.below hb,yt h.2 ⟨hb.os,hb.tape,hb.output,hb.size,fun i hi _=>hb.block i hi⟩⟩
theorem Ps.refl{w:World}{g gt:Nat}{L:jq}{size i r d:Nat}(h:PsAt w g gt L size i r d):Ps w w g gt L size i r d:=⟨h,ql w _⟩
theorem PsAt.deepTo{w:World}{g gt:Nat}{L:jq}{size i r d:Nat}(h:PsAt w g gt L size i r d)(d':Nat):Ps w (w.setCell ⟨g,2,none⟩ (.int .i64 (d':Int))) g gt L size i r d':=by
 obtain⟨⟨p,cap,h1,h2,h3⟩,h4,h5,⟨h6,h7⟩,h8,h9,h10⟩:=h;refine⟨⟨⟨p,cap,by simp [go_sem, *],h2,h3⟩,by simp [go_sem, *],by simp [go_sem, *],⟨by simp [go_sem, *],by simp [go_sem, *]⟩,by simpa [World.setCell] using h8,h9,fun k x hk=> ?_⟩,js (ql w _) (.inl rfl) _⟩;obtain⟨k1,k2,k3⟩:=h10 k x hk;exact⟨by simpa [World.setCell] using k1,k2,fun o u ho=>((js (ql w (some g)) (p:=⟨g,2,none⟩) (.inl rfl) (.int .i64 (d':Int))).cell (k3 o u ho) (fun e=>k2 (Option.some.inj e)))⟩
theorem zD(g gt:Nat)(L:jq)(size i r d:Nat)(w:World)(h:PsAt w g gt L size i (r+1) d)(x:jp×Nat×Nat)(hx:L[i]? =some x):
  Calls Tryz.prog 188 #[.pointer (some ⟨g,0,none⟩)] w fun e w'=>e=.returned (tkVal x)/\Ps w w' g gt L size (i+1) r d:=by
 obtain⟨y,cap,hy,h1,h2,k1,k2,c0,c1,c2,c3,c4,c5,c6,c7,c8,c9⟩:=h.nxt (by omega);obtain rfl:y=x:=Option.some.inj (hy.symm.trans hx);have HP:=j0 h;have hlt:=h.lt;have hf:=h.free.1;clear h hy hx
 go_enter Tryz.func188,Tryz.ntmps188
 go_wp2_with fail
 ·obtain rfl:r=0:=by omega
  refine bodyPost_ret (v:=tkVal y) (by simp [results,Tryz.results188,go_sem]) rfl ⟨rfl,?_⟩;exact(HP.out.step rfl (by omega) (fun h=>by omega)).below (kw _ _ _)
 ·refine bodyPost_ret (v:=tkVal y) (by simp [results,Tryz.results188,go_sem]) rfl ⟨rfl,?_⟩;exact(HP.out.step rfl (by omega) (fun h=>by rw [show(i+1)*10=i*10+10 by omega])).below (kw _ _ _)
def TrOpt(w:World)(A:Nat->Prop):Option Tr->Value->Prop
 |some t,v=>jJ w A t v
 |none,v=>v=.pointer none
def POut(w w':World)(g gt:Nat)(L:jq)(size d:Nat)(res:UK)(e:Ending):Prop:=
 ∃v r,e=.returned (.tuple #[v,.int .i64 res.1])/\Ps w w' g gt L size res.2.1 r d/\TrOpt w' (fun b=>w.heap.size<=b) res.2.2 v
theorem POut.bad{w w':World}{g gt:Nat}{L:jq}{size d j r:Nat}{res:UK}{c:Int}(hr:res=(c,j,none))(h:Ps w w' g gt L size j r d):POut w w' g gt L size d res (.returned (.tuple #[.pointer none,.int .i64 c])):=by
 subst hr;exact⟨_,r,rfl,h,rfl⟩
theorem POut.good{w w':World}{g gt:Nat}{L:jq}{size d j r:Nat}{res:UK}{t:Tr}{v:Value}(hr:res=(0,j,some t))(h:Ps w w' g gt L size j r d)(ht:jJ w' (fun b=>w.heap.size<=b) t v):POut w w' g gt L size d res (.returned (.tuple #[v,.int .i64 0])):=by
 subst hr;exact⟨v,r,rfl,h,ht⟩
theorem Ui(g gt:Nat)(L:jq)(size i r d k:Nat)(w:World)(h:PsAt w g gt L size i (r+1) d)(hk:jR L i=(k:Int)):
  Calls Tryz.prog 136 #[.pointer (some ⟨g,0,none⟩),.int .i64 (k:Int)] w fun e w'=>e=.returned (.bool true)/\Ps w w' g gt L size (i+1) r d:=by
 have SE:=j0 (psees_any g gt L size i (r+1) d k w h);rw [jT hk] at SE;have hs:=h.sum;obtain⟨x,hx⟩:∃x,L[i]? =some x:=⟨_,List.getElem?_eq_getElem (by omega)⟩;have TK:=j0 (zD g gt L size i r d w h x hx);clear h hk hs hx
 go_enter Tryz.func136,Tryz.ntmps136
 go_wp2_with fail
 refine SE.out.mono ?_;rintro e w1 ⟨rfl,hw⟩;obtain rfl:w=w1:=hw.symm
 go_wp2_with fail
 refine TK.out.mono ?_;rintro e w2 ⟨rfl,h2⟩;have H2:=j0 h2;clear h2
 go_wp2_with fail
 go_ret
 exact⟨rfl,H2.out⟩
theorem Xh(g gt:Nat)(L:jq)(size i r d k:Nat)(w:World)(h:PsAt w g gt L size i r d)(hk:jR L i≠(k:Int)):
  Calls Tryz.prog 136 #[.pointer (some ⟨g,0,none⟩),.int .i64 (k:Int)] w fun e w'=>e=.returned (.bool false)/\w'=w:=by
 have SE:=j0 (psees_any g gt L size i r d k w h);rw [jF hk] at SE;clear h hk
 go_enter Tryz.func136,Tryz.ntmps136
 go_wp2_with fail
 refine SE.out.mono ?_;rintro e w1 ⟨rfl,hw⟩;obtain rfl:w=w1:=hw.symm
 go_wp2_with fail
 go_ret
 exact⟨rfl,rfl⟩
theorem Z6{k:Int}{l:List Tr}{a b:Nat}(h:l.length≠1):xC k l a b=.mk k j7 0 0 false a b l:=by
 match l,h with
 | [],_=>rfl
 | [t],h=>simp at h
 |t::u::l,_=>rfl
theorem Ky(g gt B:Nat)(L:jq)(size i r d a:Nat)(k:Int)(l:List Tr)(us:List Value)(v:Value)(w:World)(h:PsAt w g gt L size i r d)(hT:Jc B l us v w)(hl:l.length<=1099511627776)(hB:B<=w.heap.size):
  Calls Tryz.prog 137 #[.pointer (some ⟨g,0,none⟩),.int .i64 k,v,.int .i64 (a:Int)] w fun e w'=>(∃u,e=.returned u/\jJ w' (fun b=>B<=b) (xC k l a (ki L size i)) u)/\Below w.heap.size w w':=by
 obtain⟨p,cap,us,rfl,hc,ht⟩:=hT.at
 by_cases h1:l.length=1
 ·obtain⟨t,rfl⟩:=List.length_eq_one_iff.1 h1;obtain⟨c,rfl,hcg,hcl,hcell⟩:=hc 0 t rfl;have HT:=j0 (ht 0 t rfl);clear hT hc ht h;rw [List.length_singleton]
  go_enter Tryz.func137,Tryz.ntmps137
  go_wp2_with fail
  go_ret
  exact⟨⟨us 0,rfl,HT.out⟩,Below.refl _ _⟩
 ·have HF:Hid (xC k l a (ki L size i)=.mk k j7 0 0 false a (ki L size i) l):=j0 (Z6 h1);have SP:=j0 (xR g gt L size i r d a w h);have hlt:=h.lt;have HC:=j0 hc;have HT:=j0 ht;have d1:((l.length:Int)==1)=false:=by simp;omega
  clear hT hc ht h h1;generalize ki L size i=b at*
  go_enter Tryz.func137,Tryz.ntmps137
  go_wp2_with fail
  refine SP.out.mono ?_;rintro e w1 ⟨rfl,hb1⟩;have HB1:=j0 hb1;have hsz:=hb1.size;clear hb1
  go_wp2_with fail
  go_ret
  have HB2:=HB1.out.trans ((j3 w1 (vn k j7 0 0 false (.slice p l.length cap) a b)).mono HB1.out.size)
  refine⟨⟨_,rfl,by
   rw [HF.out];refine .node k j7 0 0 false a b l w1.heap.size p cap us (by omega) (j1 _ _) (fun i t hi=> ?_) (fun i t hi=>(HT.out i t hi).up HB2);obtain⟨c,h1,h2,h3,h4⟩:=HC.out i t hi
   exact⟨c,h1,h2,Nat.lt_of_lt_of_le h3 HB2.size,(HB2.cell (p:=⟨c,i,none⟩) h3).trans h4⟩⟩,HB2⟩
theorem tr_one{w w':World}{A:Nat->Prop}{c q:Nat}{k:Int}{lo hi:Int}{z:Bool}{a b:Nat}{t:Tr}{u:Value}{ty:TypeId}(ht:jJ w' A t u)(hc:w'.heap[c]? =some (.cells #[u] ty))(hcg:A c)(hqg:A q)(hq:w'.heap[q]? =some (vn k j7 lo hi z (.slice (some ⟨c,0,none⟩) 1 1) a b))(_hw:w=w):
  jJ w' A (.mk k j7 lo hi z a b [t]) (.pointer (some ⟨q,0,none⟩)):=by
 refine .node k j7 lo hi z a b [t] q (some ⟨c,0,none⟩) 1 (fun _=>u) hqg hq (fun i t' hi=> ?_) (fun i t' hi=> ?_)
 ·match i,hi with
  |0,hi=>exact⟨c,rfl,hcg,jS hc,jC hc 0⟩
  |i+1,hi=>simp at hi
 ·match i,hi with
  |0,hi=>
   obtain rfl:t=t':=by simpa using hi
   exact ht
  |i+1,hi=>simp at hi
theorem YV(g gt:Nat)(L:jq)(size i r d n:Nat)(k:Int)(w:World)(h:PsAt w g gt L size i (r+1) d)(hd:d<=200)
  (hP:∀W,PsAt W g gt L size (i+1) r (d+1)->d<200->Calls Tryz.prog 92 #[.pointer (some ⟨g,0,none⟩)] W fun e w'=>POut W w' g gt L size (d+1) (xI L size n (d+1) (i+1)) e):
  Calls Tryz.prog 248 #[.pointer (some ⟨g,0,none⟩),.int .i64 k] w fun e w'=>POut w w' g gt L size d (kG L size (n+1) d i k) e:=by
 have hdc:=h.deep;have hlt:=h.lt;have hs:=h.sum;have H0:=j0 h
 by_cases h200:d=200
 ·subst h200;have HF:Hid (kG L size (n+1) 200 i k=(3,i,none)):=j0 (by rw [kG,if_pos rfl]);clear h hP hs
  go_enter Tryz.func248,Tryz.ntmps248
  go_wp2_with fail
  refine bodyPost_ret (v:=.tuple #[.pointer none,.int .i64 3]) (by simp [results,Tryz.results248,go_sem]) rfl (POut.bad HF.out (Ps.refl H0.out))
 ·have HG:Hid (kG L size (n+1) d i k=xw (xI L size n (d+1) (i+1)) fun j t=>if jR L j=3 then(0,j+1,some (.mk k j7 0 0 false (ki L size i) (ki L size (j+1)) [t])) else(4,j,none)):=j0 (by rw [kG,if_neg h200]);have d1:((d:Int)==200)=false:=by simp;omega
  obtain⟨x,hx⟩:∃x,L[i]? =some x:=⟨_,List.getElem?_eq_getElem (by omega)⟩;have PL:=j0 (pplace_any g gt L size i (r+1) d w h);have TK:=j0 (zD g gt L size i r d w h x hx);have HP:=j0 (fun W hW=>hP W hW (by omega));have hres:=(xD L size n).1 (d+1) (i+1) (by omega);have hdi:(d:Int)<=200:=by omega
  clear h hP hs hx;generalize xI L size n (d+1) (i+1)=res at*;generalize ki L size i=a at*
  go_enter Tryz.func248,Tryz.ntmps248
  go_wp2_with fail
  refine PL.out.mono ?_;rintro e w1 ⟨rfl,hw⟩;obtain rfl:w=w1:=hw.symm
  go_wp2_with fail
  refine TK.out.mono ?_;rintro e w2 ⟨rfl,h2⟩;have H2:=j0 h2;have hd2:=h2.1.deep;have hf2:=h2.1.free.2;have hl2:=h2.1.lt;have hsz2:=h2.2.size;clear h2 hdc PL TK;have hcast:((d+1:Nat):Int)=(d:Int)+1:=by omega
  have h3:=H2.out.trans (H2.out.1.deepTo (d+1));rw [hcast] at h3;have H3:=j0 h3;clear h3
  go_wp2_with fail
  refine(HP.out _ H3.out.1).mono ?_;rintro e w4 ⟨v,r4,rfl,h4,ht4⟩;have hd4:=h4.1.deep;have hf4:=h4.1.free.2;have hl4:=h4.1.lt;rw [hcast] at hd4;have H4:=j0 (H3.out.trans h4);have H5:Hid (Ps w (w4.setCell ⟨g,2,none⟩ (.int .i64 (d:Int))) g gt L size res.2.1 r4 d):=j0 (H4.out.trans (H4.out.1.deepTo d));have HV:Hid (TrOpt w4 (fun b=>(w2.setCell ⟨g,2,none⟩ (.int .i64 ((d:Int)+1))).heap.size<=b) res.2.2 v):=j0 ht4;have hsz3:w.heap.size<=(w2.setCell ⟨g,2,none⟩ (.int .i64 ((d:Int)+1))).heap.size:=by simpa [World.setCell] using hsz2
  clear h4 ht4 HP H3 H2 hd2 hf2 hl2 hcast
  rcases hres.cases with ⟨j,t,hr,hij,hjl⟩|⟨c,j,hr,hc,hjl⟩
  ·subst hr;have HV4:Hid (jJ w4 (fun b=>w.heap.size<=b) t v):=j0 (jJ.mono HV.out (fun b _ hb=>Nat.le_trans hsz3 hb));have HV5:Hid (jJ (w4.setCell ⟨g,2,none⟩ (.int .i64 (d:Int))) (fun b=>w.heap.size<=b) t v):=j0 (HV4.out.keep (H4.out.1.deepTo d).2 (fun b hb e=>by injection e with e;omega));clear hsz3;have H5:Hid (Ps w (w4.setCell ⟨g,2,none⟩ (.int .i64 (d:Int))) g gt L size j r4 d):=H5;obtain⟨qv,rfl⟩:=HV5.out.pointer;clear HV HV4 H4 hres
   go_upto_region 10 with fail
   clear hd4 hf4 hl4;obtain⟨w5,hw5⟩:∃X,X=w4.setCell ⟨g,2,none⟩ (.int .i64 (d:Int)):=⟨_,rfl⟩;rw [<-hw5] at H5 HV5;change Code.wp _ _ _ _ (w4.setCell ⟨g,2,none⟩ (.int .i64 (d:Int)));rw [<-hw5];clear hw5
   by_cases h3:jR L j=3
   ·have hjn:=qq h3 (by decide);obtain⟨r5,rfl⟩:∃r5,r4=r5+1:=⟨r4-1,by have:=H5.out.1.sum;omega⟩;have HF:Hid (kG L size (n+1) d i k=(0,j+1,some (.mk k j7 0 0 false a (ki L size (j+1)) [t]))):=j0 (by rw [HG.out,ky,if_pos h3]);have SK:=j0 (Ui g gt L size j r5 d 3 w5 H5.out.1 h3);clear h3 HG
    go_wp2_with fail
    refine SK.out.mono ?_;rintro e w6 ⟨rfl,h6⟩;have H6:=j0 (H5.out.trans h6);have HV6:=j0 (HV5.out.keep h6.2 (fun b hb e=>by injection e with e;omega));have hsz6:=H6.out.2.size;have SP:=j0 (xR g gt L size (j+1) r5 d a (w6.alloc (.cells #[.pointer (some ⟨qv,0,none⟩)] 45)) (h6.1.below (j3 _ _)));have hl6:=h6.1.lt;clear h6 H5 HV5 SK;generalize ki L size (j+1)=b at*
    go_wp2_with fail
    refine SP.out.mono ?_;rintro e w7 ⟨rfl,hb7⟩;have HB7:=j0 ((j3 w6 (.cells #[.pointer (some ⟨qv,0,none⟩)] 45)).trans (hb7.mono (by simp)));have HC7:=j0 (j4 hb7 (j1 w6 _));have hsz7:=HB7.out.size;clear hb7 SP
    go_wp2_with fail
    refine bodyPost_ret (v:=.tuple #[.pointer (some ⟨w7.heap.size,0,none⟩),.int .i64 0]) (by simp [results,Tryz.results248,go_sem]) rfl (POut.good HF.out (H6.out.below (HB7.out.trans ((j3 w7 (vn k j7 0 0 false (.slice (some ⟨w6.heap.size,0,none⟩) 1 1) a b)).mono hsz7))) ?_);exact tr_one (w:=w) ((HV6.out.up HB7.out).up (j3 _ _)) (j4 (j3 _ _) HC7.out) (by omega) (by omega) (j1 _ _) rfl
   ·have HF:Hid (kG L size (n+1) d i k=(4,j,none)):=j0 (by rw [HG.out,ky,if_neg h3]);have SK:=j0 (Xh g gt L size j r4 d 3 w5 H5.out.1 h3);clear h3 HG
    go_wp2_with fail
    refine SK.out.mono ?_;rintro e w6 ⟨rfl,hw6⟩;obtain rfl:w5=w6:=hw6.symm
    go_wp2_with fail
    refine bodyPost_ret (v:=.tuple #[.pointer none,.int .i64 4]) (by simp [results,Tryz.results248,go_sem]) rfl (POut.bad HF.out H5.out)
  ·subst hr;have HF:Hid (kG L size (n+1) d i k=(c,j,none)):=j0 (by rw [HG.out,kE]);have hv:v=.pointer none:=HV.out;subst hv;have H5:Hid (Ps w (w4.setCell ⟨g,2,none⟩ (.int .i64 (d:Int))) g gt L size j r4 d):=H5;have hc1:((c:Int) !=0)=true:=by simp;omega
   have hc2:((c:Int)==0)=false:=by simp;omega
   clear HV H4 hres HG hc
   go_wp2_with fail
   refine bodyPost_ret (v:=.tuple #[.pointer none,.int .i64 c]) (by simp [results,Tryz.results248,go_sem]) rfl (POut.bad HF.out H5.out)
end
end Go.Proofs.YtnmalggmbeipaaaGreatDoor
