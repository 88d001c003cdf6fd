/- A part of the proof. -/
import Derived.Test.YtnmalggmbeipaaaGreatDoorPrK
namespace Go.Proofs.YtnmalggmbeipaaaGreatDoor
section
section
open Go Go.RowKit
def frF(L:jq)(size:Nat):Nat->Nat->Nat->Bool->Option (Nat×Int)
 |0,_,deep,_=>if 0<deep then some (size,4) else none
 |n+1,i,deep,ahead=>
  if jR L i=0 then frF L size n (i+1) deep true
  else if jR L i=1\/jR L i=2 then(if 200<=deep then some (ki L size i,3) else frF L size n (i+1) (deep+1) false)
  else if jR L i=3 then(if deep=0 then some (ki L size i,4) else frF L size n (i+1) (deep-1) true)
  else if jR L i=4 then frF L size n (i+1) deep false
  else if ahead=true then frF L size n (i+1) deep false else some (ki L size i,4)
def fr(L:jq)(size i deep:Nat)(ahead:Bool):Option (Nat×Int):=frF L size (L.length-i) i deep ahead
theorem Vt{L:jq}{size i deep:Nat}{ahead:Bool}(h:L.length<=i):fr L size i deep ahead=if 0<deep then some (size,4) else none:=by
 unfold fr;rw [show L.length-i=0 by omega,frF]
theorem KC{L:jq}{size i deep:Nat}{ahead:Bool}(h:i<L.length):fr L size i deep ahead=
  if jR L i=0 then fr L size (i+1) deep true
  else if jR L i=1\/jR L i=2 then(if 200<=deep then some (ki L size i,3) else fr L size (i+1) (deep+1) false)
  else if jR L i=3 then(if deep=0 then some (ki L size i,4) else fr L size (i+1) (deep-1) true)
  else if jR L i=4 then fr L size (i+1) deep false
  else if ahead=true then fr L size (i+1) deep false else some (ki L size i,4):=by
 unfold fr;rw [show L.length-i=(L.length-(i+1))+1 by omega,frF]
theorem pl_end{L:jq}{size i:Nat}(h:L.length<=i):ki L size i=size:=by
 unfold ki;rw [List.getElem?_eq_none h]
theorem kd_range{L:jq}(hL:∀x∈mt L,UI x){i:Nat}(h:i<L.length):jR L i=0\/jR L i=1\/jR L i=2\/jR L i=3\/jR L i=4\/jR L i=5:=by
 cases hd:(mt L).drop i with
 |nil=>have:=(mt_nil hd).2;omega
 |cons x r=>
  rw [(ZH hd).1];have hx:=hL x (List.mem_of_mem_drop (i:=i) (by rw [hd];exact List.mem_cons_self ..))
  cases hx with
  |set s hs=>exact .inl rfl
  |cap=>exact .inr (.inl rfl)
  |free=>exact .inr (.inr (.inl rfl))
  |shut=>exact .inr (.inr (.inr (.inl rfl)))
  |bar=>exact .inr (.inr (.inr (.inr (.inl rfl))))
  |count lo hi z hc=>exact .inr (.inr (.inr (.inr (.inr rfl))))
def Told(L:jq)(size i d:Nat)(a:Bool)(r:UK)(Stop:Nat->Bool->Prop):Prop:=
 (∃j t a',r=(0,j,some t)/\i<=j/\j<=L.length/\fr L size i d a=fr L size j d a'/\Stop j a')\/∃e j,r=(e,j,none)/\e≠0/\fr L size i d a=some (ki L size j,e)
theorem mach_all{L:jq}(hL:∀x∈mt L,UI x)(size:Nat):∀n,
  (∀d i,i<=L.length->d<=200->6*(L.length-i)+6<=n->Told L size i d false (xI L size n d i) fun j _=>L.length<=j\/jR L j=3)/\
  (∀d i f acc,i<=L.length->d<=200->6*(L.length-i)+5<=n->Told L size i d false (altsF L size n d i f acc) fun j _=>L.length<=j\/jR L j=3)/\
  (∀d i f acc a,i<=L.length->d<=200->6*(L.length-i)+4<=n->(a=true->jR L i≠5)->Told L size i d a (kF L size n d i f acc) fun j _=>L.length<=j\/jR L j=4\/jR L j=3)/\
  (∀d i a,i<L.length->d<=200->6*(L.length-i)+3<=n->(a=true->jR L i≠5)->jR L i≠4->jR L i≠3->Told L size i d a (itemF L size n d i) fun j a'=>i<j/\(a'=true->jR L j≠5))/\
  (∀d i a,i<L.length->d<=200->6*(L.length-i)+2<=n->(a=true->jR L i≠5)->jR L i≠4->jR L i≠3->Told L size i d a (ko L size n d i) fun j a'=>i<j/\a'=true)/\
  (∀d i k a,i<L.length->d<=200->6*(L.length-i)+1<=n->(jR L i=1\/jR L i=2)->Told L size i d a (kG L size n d i k) fun j a'=>i<j/\a'=true):=by
 intro n
 induction n with
 |zero=>
  refine⟨fun d i _ _ h=>by omega,fun d i f acc _ _ h=>by omega,fun d i f acc a _ _ h=>by omega,fun d i a _ _ h=>by omega,fun d i a _ _ h=>by omega,fun d i k a _ _ h=>by omega⟩
 |succ n ih=>
  obtain⟨i1,i2,i3,i4,i5,i6⟩:=ih;refine⟨?_,?_,?_,?_,?_,?_⟩
  ·intro d i hi hd hn;rw [xI];exact i2 d i i [] hi hd (by omega)
  ·intro d i f acc hi hd hn;rw [altsF]
   rcases i3 d i i [] false hi hd (by omega) (fun h=>by cases h) with ⟨j,t,a',hr,hij,hj,hf,hs⟩|⟨e,j,hr,he,hf⟩
   ·rw [hr,ky]
    by_cases hk:jR L j=4
    ·rw [if_pos hk];have hjl:=qq hk (by decide)
     have hstep:fr L size j d a'=fr L size (j+1) d false:=by
      rw [KC hjl,if_neg (by omega),if_neg (by omega),if_neg (by omega),if_pos hk]
     rcases i2 d (j+1) f (acc++ [t]) (by omega) hd (by omega) with ⟨j2,t2,a2,hr2,h1,h2,h3,h4⟩|⟨e,j2,hr2,he,h3⟩
     ·exact .inl ⟨j2,t2,a2,hr2,by omega,h2,hf.trans (hstep.trans h3),h4⟩
     ·exact .inr ⟨e,j2,hr2,he,hf.trans (hstep.trans h3)⟩
    ·rw [if_neg hk];exact .inl ⟨j,_,a',rfl,hij,hj,hf,by rcases hs with h|h|h;exact .inl h;exact absurd h hk;exact .inr h⟩
   ·rw [hr,kE];exact .inr ⟨e,j,rfl,he,hf⟩
  ·intro d i f acc a hi hd hn ha;rw [kF]
   by_cases hs:L.length<=i\/jR L i=4\/jR L i=3
   ·rw [if_pos hs];exact .inl ⟨i,_,a,rfl,jN _,hi,rfl,hs⟩
   ·rw [if_neg hs]
    rcases i4 d i a (by omega) hd (by omega) ha (by omega) (by omega) with ⟨j,t,a',hr,hij,hj,hf,hlt,ha'⟩|⟨e,j,hr,he,hf⟩
    ·rw [hr,ky]
     rcases i3 d j f (acc++ [t]) a' hj hd (by omega) ha' with ⟨j2,t2,a2,hr2,h1,h2,h3,h4⟩|⟨e,j2,hr2,he,h3⟩
     ·exact .inl ⟨j2,t2,a2,hr2,by omega,h2,hf.trans h3,h4⟩
     ·exact .inr ⟨e,j2,hr2,he,hf.trans h3⟩
    ·rw [hr,kE];exact .inr ⟨e,j,rfl,he,hf⟩
  ·intro d i a hi hd hn ha h4 h3;rw [itemF]
   rcases i5 d i a hi hd (by omega) ha h4 h3 with ⟨j,t,a',hr,hij,hj,hf,hlt,rfl⟩|⟨e,j,hr,he,hf⟩
   ·rw [hr,ky]
    by_cases hk:jR L j=5
    ·rw [if_pos hk];have hjl:=qq hk (by decide)
     have hstep:fr L size j d true=fr L size (j+1) d false:=by
      rw [KC hjl,if_neg (by omega),if_neg (by omega),if_neg (by omega),if_neg (by omega),if_pos rfl]
     exact .inl ⟨j+1,_,false,rfl,by omega,by omega,hf.trans hstep,by omega,fun h=>by cases h⟩
    ·rw [if_neg hk];exact .inl ⟨j,_,true,rfl,hij,hj,hf,hlt,fun _=>hk⟩
   ·rw [hr,kE];exact .inr ⟨e,j,rfl,he,hf⟩
  ·intro d i a hi hd hn ha h4 h3;rw [ko]
   by_cases k0:jR L i=0
   ·rw [if_pos k0];exact .inl ⟨i+1,_,true,rfl,by omega,by omega,by rw [KC hi,if_pos k0],by omega,rfl⟩
   ·rw [if_neg k0]
    by_cases k1:jR L i=1
    ·rw [if_pos k1];exact i6 d i 2 a hi hd (by omega) (.inl k1)
    ·rw [if_neg k1]
     by_cases k2:jR L i=2
     ·rw [if_pos k2];exact i6 d i 3 a hi hd (by omega) (.inr k2)
     ·rw [if_neg k2];have k5:jR L i=5:=by have:=kd_range hL hi;omega
      have haf:a≠true:=fun h=>ha h k5
      refine .inr ⟨4,i,rfl,by decide,?_⟩;rw [KC hi,if_neg k0,if_neg (by omega),if_neg h3,if_neg h4,if_neg haf]
  ·intro d i k a hi hd hn hk;rw [kG]
   have hstep:fr L size i d a=if 200<=d then some (ki L size i,3) else fr L size (i+1) (d+1) false:=by
    rw [KC hi,if_neg (by omega),if_pos hk]
   by_cases h200:d=200
   ·rw [if_pos h200];exact .inr ⟨3,i,rfl,by decide,by rw [hstep,if_pos (by omega)]⟩
   ·rw [if_neg h200];rw [if_neg (by omega)] at hstep
    rcases i1 (d+1) (i+1) hi (by omega) (by omega) with ⟨j,t,a',hr,hij,hj,hf,hs⟩|⟨e,j,hr,he,hf⟩
    ·rw [hr,ky]
     by_cases h3:jR L j=3
     ·rw [if_pos h3];have hjl:=qq h3 (by decide);refine .inl ⟨j+1,_,true,rfl,by omega,by omega,hstep.trans (hf.trans ?_),by omega,rfl⟩;rw [KC hjl,if_neg (by omega),if_neg (by omega),if_pos h3,if_neg (by omega)];rfl
     ·rw [if_neg h3]
      have hje:L.length<=j:=by rcases hs with h|h;exact h;exact absurd h h3
      refine .inr ⟨4,j,rfl,by decide,hstep.trans (hf.trans ?_)⟩;rw [Vt hje,if_pos (by omega),pl_end hje]
    ·rw [hr,kE];exact .inr ⟨e,j,rfl,he,hstep.trans hf⟩
theorem Q9{L:jq}(hL:∀x∈mt L,UI x)(size:Nat):
  (∃j t,ku L size=(0,j,some t)/\fr L size 0 0 false=none)\/∃e j,ku L size=(e,j,none)/\e≠0/\fr L size 0 0 false=some (ki L size j,e):=by
 unfold ku
 rcases(mach_all hL size (6*L.length+6)).1 0 0 (Nat.zero_le _) (by omega) (by omega) with ⟨j,t,a',hr,_,hj,hf,hs⟩|⟨e,j,hr,he,hf⟩
 ·rw [hr,ky]
  by_cases hlt:j<L.length
  ·rw [if_pos hlt]
   have h3:jR L j=3:=by rcases hs with h|h;omega;exact h
   refine .inr ⟨4,j,rfl,by decide,hf.trans ?_⟩;rw [KC hlt,if_neg (by omega),if_neg (by omega),if_pos h3,if_pos rfl]
  ·rw [if_neg hlt];refine .inl ⟨j,t,rfl,hf.trans ?_⟩;rw [Vt (by omega),if_neg (by omega)]
 ·rw [hr,kE];exact .inr ⟨e,j,rfl,he,hf⟩
mutual
inductive vd(L:jq)(size:Nat):Nat->Nat->Tr->Prop
 |empty (i:Nat) (hi:i<=L.length):vd L size i i (.mk 0 j7 0 0 false (ki L size i) (ki L size i) [])
 |set (i:Nat) (hk:jR L i=0):vd L size i (i+1) (.mk 1 (xv L i).set 0 0 false (ki L size i) (ki L size (i+1)) [])
 |group (i j:Nat) (k:Int) (u:Tr) (hk:k=2\/k=3) (hi:jR L i=k-1) (hj:jR L j=3) (h:vd L size (i+1) j u):vd L size i (j+1) (.mk k j7 0 0 false (ki L size i) (ki L size (j+1)) [u])
 |cat (i j:Nat) (l:List Tr) (hl:2<=l.length) (h:xo L size i j l):vd L size i j (.mk 4 j7 0 0 false (ki L size i) (ki L size j) l)
 |alt (i j:Nat) (l:List Tr) (hl:2<=l.length) (h:yc L size i j l):vd L size i j (.mk 5 j7 0 0 false (ki L size i) (ki L size j) l)
 |rep (i j:Nat) (u:Tr) (hu:IsSingle u) (hj:jR L j=5) (h:vd L size i j u):vd L size i (j+1) (.mk 6 j7 (xv L j).lo (xv L j).hi (xv L j).lazy (ki L size i) (ki L size (j+1)) [u])
inductive xo(L:jq)(size:Nat):Nat->Nat->List Tr->Prop
 |nil (i:Nat):xo L size i i []
 |cons (i j k:Nat) (t:Tr) (l:List Tr) (hi:IsItem t) (h:vd L size i j t) (hc:xo L size j k l):xo L size i k (t::l)
inductive yc(L:jq)(size:Nat):Nat->Nat->List Tr->Prop
 |one (i j:Nat) (t:Tr) (hk:xr t≠5) (h:vd L size i j t):yc L size i j [t]
 |cons (i j k:Nat) (t:Tr) (l:List Tr) (hk:xr t≠5) (h:vd L size i j t) (hb:jR L j=4) (hc:yc L size (j+1) k l):yc L size i k (t::l)
end
theorem xo.snoc{L:jq}{size:Nat}:∀{l:List Tr} {i j k:Nat} {t:Tr},xo L size i j l->IsItem t->vd L size j k t->xo L size i k (l++ [t])
 | [],i,j,k,t,h,hi,ht=>by
  cases h
  exact .cons i k k t [] hi ht (.nil k)
 |u::r,i,j,k,t,h,hi,ht=>by
  cases h with
  |cons _ m _ _ _ hu h1 h2=>exact .cons i m k u (r++ [t]) hu h1 (h2.snoc hi ht)
theorem yc.snoc{L:jq}{size:Nat}:∀{l:List Tr} {i j k:Nat} {t:Tr},yc L size i j l->jR L j=4->xr t≠5->vd L size (j+1) k t->yc L size i k (l++ [t])
 | [],i,j,k,t,h,_,_,_=>by cases h
 | [u],i,j,k,t,h,hb,hk,ht=>by
  cases h with
  |one _ _ _ hu h1=>exact .cons i j k u [t] hu h1 hb (.one (j+1) k t hk ht)
  |cons _ m _ _ _ hu h1 hb1 h2=>cases h2
 |u::v::r,i,j,k,t,h,hb,hk,ht=>by
  cases h with
  |cons _ m _ _ _ hu h1 hb1 h2=>exact .cons i m k u (v::r++ [t]) hu h1 hb1 (h2.snoc hb hk ht)
theorem spn_cat{L:jq}{size i j:Nat}(hi:i<=L.length){l:List Tr}(h:xo L size i j l):vd L size i j (QO l (ki L size i) (ki L size j))/\xr (QO l (ki L size i) (ki L size j))≠5:=by
 match l,h with
 | [],h=>cases h;exact⟨.empty i hi,by show(0:Int)≠5;decide⟩
 | [u],h=>
  cases h with
  |cons _ m _ _ _ hu h1 h2=>
   cases h2
   refine⟨h1,?_⟩
   show xr u≠5
   unfold IsItem at hu;omega
 |u::v::q,h=>exact⟨.cat i j _ (by simp) h,by show(4:Int)≠5;decide⟩
theorem spn_alt{L:jq}{size i j:Nat}{l:List Tr}(h:yc L size i j l):vd L size i j (xC 5 l (ki L size i) (ki L size j)):=by
 match l,h with
 | [u],h=>
  cases h with
  |one _ _ _ hu h1=>exact h1
  |cons _ m _ _ _ hu h1 hb h2=>cases h2
 |u::v::q,h=>exact .alt i j _ (by simp) h
theorem spn_all{L:jq}(size:Nat):∀n,
  (∀d i j t,i<=L.length->xI L size n d i=(0,j,some t)->vd L size i j t)/\
  (∀d i f acc j t,i<=L.length->(acc= []/\f=i\/∃m,m+1=i/\jR L m=4/\yc L size f m acc)->altsF L size n d i f acc=(0,j,some t)->vd L size f j t)/\
  (∀d i f acc j t,f<=L.length->xo L size f i acc->kF L size n d i f acc=(0,j,some t)->vd L size f j t/\xr t≠5)/\
  (∀d i j t,itemF L size n d i=(0,j,some t)->IsItem t/\vd L size i j t)/\
  (∀d i j t,ko L size n d i=(0,j,some t)->IsSingle t/\vd L size i j t)/\
  (∀d i k j t,(k=2\/k=3)->jR L i=k-1->kG L size n d i k=(0,j,some t)->IsSingle t/\vd L size i j t):=by
 intro n
 induction n with
 |zero=>
  refine⟨fun d i j t _ h=> ?_,fun d i f acc j t _ _ h=> ?_,fun d i f acc j t _ _ h=> ?_,fun d i j t h=> ?_,fun d i j t h=> ?_,fun d i k j t _ _ h=> ?_⟩
  ·rw [xI] at h;simp at h
  ·rw [altsF] at h;simp at h
  ·rw [kF] at h;simp at h
  ·rw [itemF] at h;simp at h
  ·rw [ko] at h;simp at h
  ·rw [kG] at h;simp at h
 |succ n ih=>
  obtain⟨i1,i2,i3,i4,i5,i6⟩:=ih;refine⟨?_,?_,?_,?_,?_,?_⟩
  ·intro d i j t hi h;rw [xI] at h;exact i2 d i i [] j t hi (.inl ⟨rfl,rfl⟩) h
  ·intro d i f acc j t hi hacc h;rw [altsF] at h;obtain⟨j',t',h1,h2⟩:=qL h;obtain⟨g1,g2⟩:=i3 d i i [] j' t' hi (.nil i) h1
   have hA:yc L size f j' (acc++ [t']):=by
    rcases hacc with ⟨rfl,rfl⟩|⟨m,hm,hb,ha⟩
    ·exact .one f j' t' g2 g1
    ·subst hm;exact ha.snoc hb g2 g1
   by_cases hk:jR L j'=4
   ·rw [if_pos hk] at h2;exact i2 d (j'+1) f (acc++ [t']) j t (qq hk (by decide)) (.inr ⟨j',rfl,hk,hA⟩) h2
   ·rw [if_neg hk] at h2;simp only [Prod.mk.injEq,Option.some.injEq,true_and] at h2;obtain⟨rfl,rfl⟩:=h2;exact spn_alt hA
  ·intro d i f acc j t hf hacc h;rw [kF] at h
   by_cases hs:L.length<=i\/jR L i=4\/jR L i=3
   ·rw [if_pos hs] at h;simp only [Prod.mk.injEq,Option.some.injEq,true_and] at h;obtain⟨rfl,rfl⟩:=h;exact spn_cat hf hacc
   ·rw [if_neg hs] at h;obtain⟨j',t',h1,h2⟩:=qL h;obtain⟨g1,g2⟩:=i4 d i j' t' h1;exact i3 d j' f (acc++ [t']) j t hf (hacc.snoc g1 g2) h2
  ·intro d i j t h;rw [itemF] at h;obtain⟨j',t',h1,h2⟩:=qL h;obtain⟨g1,g2⟩:=i5 d i j' t' h1
   by_cases hk:jR L j'=5
   ·rw [if_pos hk] at h2;simp only [Prod.mk.injEq,Option.some.injEq,true_and] at h2;obtain⟨rfl,rfl⟩:=h2;exact⟨.inr (.inr (.inr rfl)),.rep i j' t' g1 hk g2⟩
   ·rw [if_neg hk] at h2;simp only [Prod.mk.injEq,Option.some.injEq,true_and] at h2;obtain⟨rfl,rfl⟩:=h2;refine⟨?_,g2⟩
    rcases g1 with h|h|h
    ·exact .inl h
    ·exact .inr (.inl h)
    ·exact .inr (.inr (.inl h))
  ·intro d i j t h;rw [ko] at h
   by_cases h0:jR L i=0
   ·rw [if_pos h0] at h;simp only [Prod.mk.injEq,Option.some.injEq,true_and] at h;obtain⟨rfl,rfl⟩:=h;exact⟨.inl rfl,.set i h0⟩
   ·rw [if_neg h0] at h
    by_cases h1:jR L i=1
    ·rw [if_pos h1] at h;exact i6 d i 2 j t (.inl rfl) (by omega) h
    ·rw [if_neg h1] at h
     by_cases h2:jR L i=2
     ·rw [if_pos h2] at h;exact i6 d i 3 j t (.inr rfl) (by omega) h
     ·rw [if_neg h2] at h;simp at h
  ·intro d i k j t hk hkd h;rw [kG] at h
   by_cases h200:d=200
   ·rw [if_pos h200] at h;simp at h
   rw [if_neg h200] at h;obtain⟨j',t',h1,h2⟩:=qL h;have g:=i1 (d+1) (i+1) j' t' (qq hkd (by omega)) h1
   by_cases h3:jR L j'=3
   ·rw [if_pos h3] at h2;simp only [Prod.mk.injEq,Option.some.injEq,true_and] at h2;obtain⟨rfl,rfl⟩:=h2;refine⟨?_,.group i j' k t' hk hkd h3 g⟩
    rcases hk with rfl|rfl
    ·exact .inr (.inl rfl)
    ·exact .inr (.inr rfl)
   ·rw [if_neg h3] at h2;simp at h2
theorem whole_spn{L:jq}{size j:Nat}{t:Tr}(h:ku L size=(0,j,some t)):j=L.length/\vd L size 0 L.length t:=by
 unfold ku at h;obtain⟨j',t',g1,g2⟩:=qL h;have hle:=(xD L size (6*L.length+6)).1 0 0 (Nat.zero_le _);have h2:=(spn_all (L:=L) size _).1 0 0 j' t' (Nat.zero_le _) g1
 by_cases hj:j'<L.length
 ·rw [if_pos hj] at g2;simp at g2
 rw [if_neg hj] at g2;simp only [Prod.mk.injEq,Option.some.injEq,true_and] at g2;obtain⟨rfl,rfl⟩:=g2;rw [g1] at hle;have h3:=hle.le
 have e:j'=L.length:=by
  have:j'<=L.length:=h3;omega
 subst e;exact⟨rfl,h2⟩
end
end
end Go.Proofs.YtnmalggmbeipaaaGreatDoor
namespace Go.Proofs.YtnmalggmbeipaaaGreatDoor
section
section
open Go Go.RowKit
def clF(L:jq):Nat->Nat->Nat->Option Nat
 |0,_,_=>none
 |n+1,i,deep=>
  if jR L i=1\/jR L i=2 then clF L n (i+1) (deep+1)
  else if jR L i=3 then(if deep=0 then some i else clF L n (i+1) (deep-1))
  else clF L n (i+1) deep
def cl(L:jq)(i deep:Nat):Option Nat:=clF L (L.length-i) i deep
theorem cl_end{L:jq}{i deep:Nat}(h:L.length<=i):cl L i deep=none:=by
 unfold cl;rw [show L.length-i=0 by omega,clF]
theorem QL{L:jq}{i deep:Nat}(h:i<L.length):cl L i deep=
  if jR L i=1\/jR L i=2 then cl L (i+1) (deep+1)
  else if jR L i=3 then(if deep=0 then some i else cl L (i+1) (deep-1))
  else cl L (i+1) deep:=by
 unfold cl;rw [show L.length-i=(L.length-(i+1))+1 by omega,clF]
def cuF(L:jq)(tz:Nat):Nat->Nat->Nat->Nat->List (Nat×Nat)
 |0,_,_,at_=> [(at_,tz)]
 |n+1,i,deep,at_=>
  if jR L i=1\/jR L i=2 then cuF L tz n (i+1) (deep+1) at_
  else if jR L i=3 then cuF L tz n (i+1) (deep-1) at_
  else if jR L i=4/\deep=0 then(at_,i)::cuF L tz n (i+1) deep (i+1)
  else cuF L tz n (i+1) deep at_
def cu(L:jq)(tz i deep at_:Nat):List (Nat×Nat):=cuF L tz (tz-i) i deep at_
theorem Zm{L:jq}{tz i deep at_:Nat}(h:tz<=i):cu L tz i deep at_= [(at_,tz)]:=by
 unfold cu;rw [show tz-i=0 by omega,cuF]
theorem zU{L:jq}{tz i deep at_:Nat}(h:i<tz):cu L tz i deep at_=
  if jR L i=1\/jR L i=2 then cu L tz (i+1) (deep+1) at_
  else if jR L i=3 then cu L tz (i+1) (deep-1) at_
  else if jR L i=4/\deep=0 then(at_,i)::cu L tz (i+1) deep (i+1)
  else cu L tz (i+1) deep at_:=by
 unfold cu;rw [show tz-i=(tz-(i+1))+1 by omega,cuF]
theorem qT{L:jq}{size:Nat}(t:Tr):∀{i j:Nat},vd L size i j t->i<=j/\j<=L.length:=by
 have listC:∀(l:List Tr),(∀u∈l,∀{i j:Nat},vd L size i j u->i<=j/\j<=L.length)->∀{i j:Nat},xo L size i j l->i<=j/\(l≠ []->j<=L.length):=by
  intro l
  induction l with
  |nil=>intro _ i j h;cases h;exact⟨jN _,fun h=>absurd rfl h⟩
  |cons u r ih=>
   intro hl i j h
   cases h with
   |cons _ m _ _ _ hu h1 h2=>
    have g1:=hl u (List.mem_cons_self ..) h1;have g2:=ih (fun v hv=>hl v (List.mem_cons_of_mem _ hv)) h2;refine⟨by omega,fun _=> ?_⟩
    cases r with
    |nil=>cases h2;exact g1.2
    |cons v r=>exact g2.2 (by simp)
 have listA:∀(l:List Tr),(∀u∈l,∀{i j:Nat},vd L size i j u->i<=j/\j<=L.length)->∀{i j:Nat},yc L size i j l->i<=j/\j<=L.length:=by
  intro l
  induction l with
  |nil=>intro _ i j h;cases h
  |cons u r ih=>
   intro hl i j h
   cases h with
   |one _ _ _ hk h1=>exact hl u (List.mem_cons_self ..) h1
   |cons _ m _ _ _ hk h1 hb h2=>
    have g1:=hl u (List.mem_cons_self ..) h1;have g2:=ih (fun v hv=>hl v (List.mem_cons_of_mem _ hv)) h2;exact⟨by omega,g2.2⟩
 induction t using UP with
 |h k s lo hi z a b l ih=>
  intro i j h
  cases h with
  |empty _ hi=>exact⟨jN _,hi⟩
  |set _ hk=>exact⟨by omega,qq hk (by decide)⟩
  |group _ j' _ u hk hi hj h1=>have g:=ih u (by simp) h1;exact⟨by omega,qq hj (by decide)⟩
  |cat _ _ _ hl h1=>have g:=listC l ih h1;exact⟨g.1,g.2 (by intro e;subst e;simp at hl)⟩
  |alt _ _ _ hl h1=>exact listA l ih h1
  |rep _ j' u hu hj h1=>have g:=ih u (by simp) h1;exact⟨by omega,qq hj (by decide)⟩
theorem cl_skip{L:jq}{size:Nat}(t:Tr):∀{i j:Nat} (d:Nat),vd L size i j t->cl L i d=cl L j d:=by
 have listC:∀(l:List Tr),(∀u∈l,∀{i j:Nat} (d:Nat),vd L size i j u->cl L i d=cl L j d)->∀{i j:Nat} (d:Nat),xo L size i j l->cl L i d=cl L j d:=by
  intro l
  induction l with
  |nil=>intro _ i j d h;cases h;rfl
  |cons u r ih=>
   intro hl i j d h
   cases h with
   |cons _ m _ _ _ hu h1 h2=>exact(hl u (List.mem_cons_self ..) d h1).trans (ih (fun v hv=>hl v (List.mem_cons_of_mem _ hv)) d h2)
 have listA:∀(l:List Tr),(∀u∈l,∀{i j:Nat} (d:Nat),vd L size i j u->cl L i d=cl L j d)->∀{i j:Nat} (d:Nat),yc L size i j l->cl L i d=cl L j d:=by
  intro l
  induction l with
  |nil=>intro _ i j d h;cases h
  |cons u r ih=>
   intro hl i j d h
   cases h with
   |one _ _ _ hk h1=>exact hl u (List.mem_cons_self ..) d h1
   |cons _ m _ _ _ hk h1 hb h2=>
    rw [hl u (List.mem_cons_self ..) d h1,QL (qq hb (by decide)),if_neg (by omega),if_neg (by omega)];exact ih (fun v hv=>hl v (List.mem_cons_of_mem _ hv)) d h2
 induction t using UP with
 |h k s lo hi z a b l ih=>
  intro i j d h
  cases h with
  |empty _ hi=>rfl
  |set _ hk=>rw [QL (qq hk (by decide)),if_neg (by omega),if_neg (by omega)]
  |group _ j' _ u hk hi hj h1=>
   rw [QL (qq hi (by omega)),if_pos (by omega),ih u (by simp) (d+1) h1,QL (qq hj (by decide)),if_neg (by omega),if_pos hj,if_neg (by omega)];rfl
  |cat _ _ _ hl h1=>exact listC l ih d h1
  |alt _ _ _ hl h1=>exact listA l ih d h1
  |rep _ j' u hu hj h1=>rw [ih u (by simp) d h1,QL (qq hj (by decide)),if_neg (by omega),if_neg (by omega)]
theorem cl_group{L:jq}{size i j:Nat}{u:Tr}(h:vd L size i j u)(hj:jR L j=3):cl L i 0=some j:=by
 rw [cl_skip u 0 h,QL (qq hj (by decide)),if_neg (by omega),if_pos hj,if_pos rfl]
theorem Vx{L:jq}{size tz:Nat}(t:Tr):∀{i j:Nat} (d at_:Nat),vd L size i j t->j<=tz->(0<d\/xr t≠5)->cu L tz i d at_=cu L tz j d at_:=by
 have listC:∀(l:List Tr),(∀u∈l,∀{i j:Nat} (d at_:Nat),vd L size i j u->j<=tz->(0<d\/xr u≠5)->cu L tz i d at_=cu L tz j d at_)->∀{i j:Nat} (d at_:Nat),xo L size i j l->j<=tz->cu L tz i d at_=cu L tz j d at_:=by
  intro l
  induction l with
  |nil=>intro _ i j d at_ h _;cases h;rfl
  |cons u r ih=>
   intro hl i j d at_ h hj
   cases h with
   |cons _ m _ _ _ hu h1 h2=>
    have hm:m<=j:=by
     cases r with
     |nil=>cases h2;exact jN _
     |cons v r=>
      have:vd L size m j (.mk 4 j7 0 0 false (ki L size m) (ki L size j) (v::r))\/True:=.inr trivial;clear this
      have key:∀(l:List Tr) {i j:Nat},xo L size i j l->i<=j:=by
       intro l
       induction l with
       |nil=>intro i j h;cases h;exact jN _
       |cons u r ih=>intro i j h;cases h with|cons _ m _ _ _ hu h1 h2=>exact Nat.le_trans (qT u h1).1 (ih h2)
      exact key _ h2
    exact(hl u (List.mem_cons_self ..) d at_ h1 (by omega) (.inr (by unfold IsItem at hu;omega))).trans (ih (fun v hv=>hl v (List.mem_cons_of_mem _ hv)) d at_ h2 hj)
 have keyA:∀(l:List Tr) {i j:Nat},yc L size i j l->i<=j:=by
  intro l
  induction l with
  |nil=>intro i j h;cases h
  |cons u r ih=>
   intro i j h
   cases h with
   |one _ _ _ hk h1=>exact(qT u h1).1
   |cons _ m _ _ _ hk h1 hb h2=>have:=(qT u h1).1;have:=ih h2;omega
 have listA:∀(l:List Tr),(∀u∈l,∀{i j:Nat} (d at_:Nat),vd L size i j u->j<=tz->(0<d\/xr u≠5)->cu L tz i d at_=cu L tz j d at_)->∀{i j:Nat} (d at_:Nat),0<d->yc L size i j l->j<=tz->cu L tz i d at_=cu L tz j d at_:=by
  intro l
  induction l with
  |nil=>intro _ i j d at_ _ h _;cases h
  |cons u r ih=>
   intro hl i j d at_ hd h hj
   cases h with
   |one _ _ _ hk h1=>exact hl u (List.mem_cons_self ..) d at_ h1 hj (.inl hd)
   |cons _ m _ _ _ hk h1 hb h2=>
    have:=keyA r h2;rw [hl u (List.mem_cons_self ..) d at_ h1 (by omega) (.inl hd),zU (show m<tz by omega),if_neg (by omega),if_neg (by omega),if_neg (by omega)];exact ih (fun v hv=>hl v (List.mem_cons_of_mem _ hv)) d at_ hd h2 hj
 induction t using UP with
 |h k s lo hi z a b l ih=>
  intro i j d at_ h hj hd
  cases h with
  |empty _ hi=>rfl
  |set _ hk=>rw [zU (show i<tz by omega),if_neg (by omega),if_neg (by omega),if_neg (by omega)]
  |group _ j' _ u hk hi hj3 h1=>
   have:=(qT u h1).1;rw [zU (show i<tz by omega),if_pos (by omega),ih u (by simp) (d+1) at_ h1 (by omega) (.inl (by omega)),zU (show j'<tz by omega),if_neg (by omega),if_pos hj3];rfl
  |cat _ _ _ hl h1=>exact listC l ih d at_ h1 hj
  |alt _ _ _ hl h1=>exact listA l ih d at_ (by rcases hd with h|h;exact h;exact absurd rfl h) h1 hj
  |rep _ j' u hu hj5 h1=>
   rw [ih u (by simp) d at_ h1 (by omega) (.inr (by unfold IsSingle at hu;omega)),zU (show j'<tz by omega),if_neg (by omega),if_neg (by omega),if_neg (by omega)]
inductive Cuts(L:jq)(size:Nat):List (Nat×Nat)->List Tr->Prop
 |nil:Cuts L size [] []
 |cons (i j:Nat) (t:Tr) (c:List (Nat×Nat)) (l:List Tr) (hk:xr t≠5) (h:vd L size i j t) (hc:Cuts L size c l):Cuts L size ((i,j)::c) (t::l)
theorem ZX{L:jq}{size tz:Nat}:∀{l:List Tr} {i:Nat},yc L size i tz l->Cuts L size (cu L tz i 0 i) l
 | [],i,h=>by cases h
 | [u],i,h=>by
  cases h with
  |one _ _ _ hk h1=>
   rw [Vx u 0 i h1 (jN _) (.inr hk),Zm (jN _)];exact .cons i tz u [] [] hk h1 .nil
  |cons _ m _ _ _ hk h1 hb h2=>cases h2
 |u::v::r,i,h=>by
  cases h with
  |cons _ m _ _ _ hk h1 hb h2=>
   have hm:m<tz:=by
    have keyA:∀(l:List Tr) {i j:Nat},yc L size i j l->i<=j:=by
     intro l
     induction l with
     |nil=>intro i j h;cases h
     |cons u r ih=>
      intro i j h
      cases h with
      |one _ _ _ hk h1=>exact(qT u h1).1
      |cons _ m _ _ _ hk h1 hb h2=>have:=(qT u h1).1;have:=ih h2;omega
    have:=keyA _ h2;omega
   rw [Vx u 0 i h1 (by omega) (.inr hk),zU hm,if_neg (by omega),if_neg (by omega),if_pos ⟨hb,rfl⟩];exact .cons i m u _ _ hk h1 (ZX h2)
theorem cuts_one{L:jq}{size i j:Nat}{t:Tr}(hk:xr t≠5)(h:vd L size i j t):cu L j i 0 i= [(i,j)]:=by
 rw [Vx t 0 i h (jN _) (.inr hk),Zm (jN _)]
def cuG(L:jq):Nat->Nat->Nat->Bool
 |0,_,_=>true
 |n+1,i,deep=>
  if jR L i=1\/jR L i=2 then cuG L n (i+1) (deep+1)
  else if jR L i=3 then decide (0<deep) && cuG L n (i+1) (deep-1)
  else cuG L n (i+1) deep
def cg(L:jq)(tz i deep:Nat):Bool:=cuG L (tz-i) i deep
theorem JA{L:jq}{tz i deep:Nat}(h:i<tz):cg L tz i deep=
  if jR L i=1\/jR L i=2 then cg L tz (i+1) (deep+1)
  else if jR L i=3 then decide (0<deep) && cg L tz (i+1) (deep-1)
  else cg L tz (i+1) deep:=by
 unfold cg;rw [show tz-i=(tz-(i+1))+1 by omega,cuG]
theorem cg_end(L:jq)(tz d:Nat):cg L tz tz d=true:=by
 unfold cg;rw [Nat.sub_self,cuG]
theorem KV{L:jq}{size:Nat}:∀{l:List Tr} {i j:Nat},xo L size i j l->i<=j
 | [],i,j,h=>by cases h;exact jN _
 |u::r,i,j,h=>by cases h with|cons _ m _ _ _ hu h1 h2=>exact Nat.le_trans (qT u h1).1 (KV h2)
theorem Zz{L:jq}{size:Nat}:∀{l:List Tr} {i j:Nat},yc L size i j l->i<=j
 | [],i,j,h=>by cases h
 |u::r,i,j,h=>by
  cases h with
  |one _ _ _ hk h1=>exact(qT u h1).1
  |cons _ m _ _ _ hk h1 hb h2=>have:=(qT u h1).1;have:=Zz h2;omega
theorem cg_skip{L:jq}{size tz:Nat}(t:Tr):∀{i j:Nat} (d:Nat),vd L size i j t->j<=tz->cg L tz i d=cg L tz j d:=by
 have listC:∀(l:List Tr),(∀u∈l,∀{i j:Nat} (d:Nat),vd L size i j u->j<=tz->cg L tz i d=cg L tz j d)->∀{i j:Nat} (d:Nat),xo L size i j l->j<=tz->cg L tz i d=cg L tz j d:=by
  intro l
  induction l with
  |nil=>intro _ i j d h _;cases h;rfl
  |cons u r ih=>
   intro hl i j d h hj
   cases h with
   |cons _ m _ _ _ hu h1 h2=>
    have:=KV h2;exact(hl u (List.mem_cons_self ..) d h1 (by omega)).trans (ih (fun v hv=>hl v (List.mem_cons_of_mem _ hv)) d h2 hj)
 have listA:∀(l:List Tr),(∀u∈l,∀{i j:Nat} (d:Nat),vd L size i j u->j<=tz->cg L tz i d=cg L tz j d)->∀{i j:Nat} (d:Nat),yc L size i j l->j<=tz->cg L tz i d=cg L tz j d:=by
  intro l
  induction l with
  |nil=>intro _ i j d h;cases h
  |cons u r ih=>
   intro hl i j d h hj
   cases h with
   |one _ _ _ hk h1=>exact hl u (List.mem_cons_self ..) d h1 hj
   |cons _ m _ _ _ hk h1 hb h2=>
    have:=Zz h2;rw [hl u (List.mem_cons_self ..) d h1 (by omega),JA (show m<tz by omega),if_neg (by omega),if_neg (by omega)];exact ih (fun v hv=>hl v (List.mem_cons_of_mem _ hv)) d h2 hj
 induction t using UP with
 |h k s lo hi z a b l ih=>
  intro i j d h hj
  cases h with
  |empty _ hi=>rfl
  |set _ hk=>rw [JA (show i<tz by omega),if_neg (by omega),if_neg (by omega)]
  |group _ j' _ u hk hi hj3 h1=>
   have:=(qT u h1).1;rw [JA (show i<tz by omega),if_pos (by omega),ih u (by simp) (d+1) h1 (by omega),JA (show j'<tz by omega),if_neg (by omega),if_pos hj3,jT (by omega)];rfl
  |cat _ _ _ hl h1=>exact listC l ih d h1 hj
  |alt _ _ _ hl h1=>exact listA l ih d h1 hj
  |rep _ j' u hu hj5 h1=>rw [ih u (by simp) d h1 (by omega),JA (show j'<tz by omega),if_neg (by omega),if_neg (by omega)]
theorem cg_tree{L:jq}{size i j:Nat}{t:Tr}(h:vd L size i j t):cg L j i 0=true:=by rw [cg_skip t 0 h (jN _),cg_end]
def frT:Tr->Nat
 | .mk _ _ _ _ _ a _ _=>a
def toT:Tr->Nat
 | .mk _ _ _ _ _ _ b _=>b
theorem K2{L:jq}{size i j:Nat}{t:Tr}(h:vd L size i j t):frT t=ki L size i/\toT t=ki L size j:=by
 cases h<;>exact⟨rfl,rfl⟩
theorem Zy{L:jq}{size:Nat}:∀{l:List Tr} {i j:Nat},xo L size i j l->(∀t,l.head? =some t->frT t=ki L size i)/\∀t,l.getLast? =some t->toT t=ki L size j
 | [],i,j,h=>⟨fun t h=>by simp at h,fun t h=>by simp at h⟩
 | [u],i,j,h=>by
  cases h with
  |cons _ m _ _ _ hu h1 h2=>
   cases h2
   refine⟨fun t h=> ?_,fun t h=> ?_⟩
   ·obtain rfl:u=t:=by simpa using h
    exact(K2 h1).1
   ·obtain rfl:u=t:=by simpa using h
    exact(K2 h1).2
 |u::v::r,i,j,h=>by
  cases h with
  |cons _ m _ _ _ hu h1 h2=>
   refine⟨fun t h=> ?_,fun t h=> ?_⟩
   ·obtain rfl:u=t:=by simpa using h
    exact(K2 h1).1
   ·exact(Zy h2).2 t (by rwa [List.getLast?_cons_cons] at h)
theorem ZA{L:jq}{size:Nat}:∀{l:List Tr} {i j:Nat},yc L size i j l->(∀t,l.head? =some t->frT t=ki L size i)/\∀t,l.getLast? =some t->toT t=ki L size j
 | [],i,j,h=>by cases h
 | [u],i,j,h=>by
  cases h with
  |one _ _ _ hk h1=>
   refine⟨fun t h=> ?_,fun t h=> ?_⟩
   ·obtain rfl:u=t:=by simpa using h
    exact(K2 h1).1
   ·obtain rfl:u=t:=by simpa using h
    exact(K2 h1).2
  |cons _ m _ _ _ hk h1 hb h2=>cases h2
 |u::v::r,i,j,h=>by
  cases h with
  |cons _ m _ _ _ hk h1 hb h2=>
   refine⟨fun t h=> ?_,fun t h=> ?_⟩
   ·obtain rfl:u=t:=by simpa using h
    exact(K2 h1).1
   ·exact(ZA h2).2 t (by rwa [List.getLast?_cons_cons] at h)
def AdjT(L:jq)(size:Nat):Prop:=∀(i:Nat) (x:jp×Nat×Nat),L[i]? =some x->x.2.2=ki L size (i+1)
def ChT(size:Nat):Nat->jq->Prop
 |k,[]=>k=size
 |k,x::r=>x.2.1=k/\ChT size x.2.2 r
theorem ZZ{size:Nat}:∀{L:jq} {k:Nat},ChT size k L->AdjT L size/\ki L size 0=k
 | [],k,h=>⟨fun i x hx=>by simp at hx,h.symm⟩
 |x::r,k,h=>by
  obtain⟨g1,g2⟩:=ZZ h.2;refine⟨fun i y hy=> ?_,h.1⟩
  cases i with
  |zero=>
   obtain rfl:x=y:=by simpa using hy
   rw [<-g2];unfold ki;rfl
  |succ i=>
   have h1:=g1 i y (by simpa using hy);rw [h1];unfold ki;rfl
theorem X7{s:ByteArray}:∀(n k:Nat),k<=s.size->(kR s n k).2.1=0->ChT s.size k (kR s n k).1
 |0,k,_,h=>by rw [kR] at h;simp at h
 |n+1,k,hk,h=>by
  rw [kR] at h ⊢
  by_cases h1:s.size<=k
  ·rw [if_pos h1];show k=s.size;omega
  rw [if_neg h1] at h ⊢
  by_cases h2:(jd s k).2.1≠0
  ·rw [if_pos h2] at h;exact absurd h h2
  rw [if_neg h2] at h ⊢
  by_cases h3:(kR s n (jd s k).2.2).2.1≠0
  ·rw [if_pos h3] at h;exact absurd h h3
  rw [if_neg h3];exact⟨rfl,X7 n (jd s k).2.2 (kQ (by omega)).le (Decidable.not_not.1 h3)⟩
theorem scan_adj{s:ByteArray}(h:(jm s).2.1=0):AdjT (jm s).1 s.size:=(ZZ (X7 (s.size+1) 0 (Nat.zero_le _) h)).1
end
end
end Go.Proofs.YtnmalggmbeipaaaGreatDoor
