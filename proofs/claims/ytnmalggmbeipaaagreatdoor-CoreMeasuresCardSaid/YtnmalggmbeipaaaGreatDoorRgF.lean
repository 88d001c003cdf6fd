/- A part of the proof. -/
import Derived.Test.YtnmalggmbeipaaaGreatDoorRgD
import Derived.Test.YtnmalggmbeipaaaGreatDoorRgE
import Derived.Test.YtnmalggmbeipaaaGreatDoorRegion
set_option maxRecDepth 100000
set_option maxHeartbeats 16000000
namespace Go.Proofs.YtnmalggmbeipaaaGreatDoor
section
open Go Go.RowKit
attribute [local go_sem ↓] Go.wp_at_zero Go.wp_at_succ
attribute [local go_sem] qX
theorem Z8{u t:Tr}(h:u∈vo t):jc u<=jc t:=by
 obtain⟨k,s,lo,hi,z,a,b,l⟩:=t;have h:u∈(if k=4 then l else if k=0 then [] else [.mk k s lo hi z a b l]):=h
 split at h
 ·have h1:=jZ h;rw [jc];omega
 ·split at h
  ·simp at h
  ·obtain rfl:u=.mk k s lo hi z a b l:=by simpa using h
   exact jN _
theorem YH{w:World}{A:Nat->Prop}(k:Int)(s:W4)(lo hi:Int)(z:Bool)(a b:Nat){u:Tr}{lu:Value}{c:Nat}(hu:kU w A u lu)(hb:w.heap[c]? =some (.cells (Jm u lu).toArray 50))(hA:A c):kU w A (.mk k s lo hi z a b [u]) (.slice (some ⟨c,0,none⟩) 1 1):=by
 refine .node k s lo hi z a b [u] _ 1 (fun _=>lu) (fun i t hi=> ?_) (fun i t hi=> ?_)
 ·obtain rfl:i=0:=by have:=(List.getElem?_eq_some_iff.1 hi).1;simpa using this
  obtain rfl:u=t:=by simpa using hi
  refine⟨c,rfl,hA,jS hb,fun o x ho=> ?_⟩;rw [Nat.zero_mul,Nat.zero_add,jC hb o,<-ho];simp
 ·obtain rfl:i=0:=by have:=(List.getElem?_eq_some_iff.1 hi).1;simpa using this
  obtain rfl:u=t:=by simpa using hi
  exact hu
structure Y7(W:World)(n:Nat)(ob:Obj)(c:Nat)(l:Array Bool)(X:World):Prop where
 bel:Below W.heap.size W X
 row:l.getD n false=true->X.heap[c]? =some ob/\W.heap.size<=c
theorem Y7.up{W:World}{n i:Nat}{ob:Obj}{c:Nat}{l:Array Bool}{X Y:World}(h:Y7 W n ob c l X)(hi:i≠n)(hb:Below X.heap.size X Y):Y7 W n ob c (l.setIfInBounds i true) Y:=by
 refine⟨h.bel.trans (hb.mono h.bel.size),fun e=> ?_⟩;rw [getD_set_ne false hi] at e;exact⟨j4 hb (h.row e).1,(h.row e).2⟩
theorem Y7.made{W:World}{n:Nat}{ob:Obj}{c:Nat}{l:Array Bool}{X:World}(h:Y7 W n ob c l X)(_hin:n<l.size):Y7 W n ob X.heap.size (l.setIfInBounds n true) (X.alloc ob):=
 ⟨h.bel.trans ((j3 _ _).mono h.bel.size),fun _=>⟨j1 _ _,h.bel.size⟩⟩
structure CgS(W:World)(u:Tr)(gh:(Option Addr×Nat×Nat)×Nat)(l:Array Bool)(X:World):Prop where
 bel:Below W.heap.size W X
 call:l.getD 7 false=true->kU X (fun b=>W.heap.size<=b) u (.slice gh.1.1 gh.1.2.1 gh.1.2.2)
 row:l.getD 8 false=true->X.heap[gh.2]? =some (.cells (Jm u (.slice gh.1.1 gh.1.2.1 gh.1.2.2)).toArray 50)/\W.heap.size<=gh.2
theorem CgS.up{W:World}{u:Tr}{gh:(Option Addr×Nat×Nat)×Nat}{i:Nat}{l:Array Bool}{X Y:World}(h:CgS W u gh l X)(h7:i≠7)(h8:i≠8)(hb:Below X.heap.size X Y):CgS W u gh (l.setIfInBounds i true) Y:=by
 refine⟨h.bel.trans (hb.mono h.bel.size),fun e=> ?_,fun e=> ?_⟩
 ·rw [getD_set_ne false h7] at e;exact(h.call e).up hb
 ·rw [getD_set_ne false h8] at e;exact⟨j4 hb (h.row e).1,(h.row e).2⟩
theorem CgS.called{W:World}{u:Tr}{gh:(Option Addr×Nat×Nat)×Nat}{l:Array Bool}{X Y:World}{p:Option Addr}{n c:Nat}(h:CgS W u gh l X)(h8:l.getD 8 false=false)(hb:Below X.heap.size X Y)(hr:kU Y (fun b=>X.heap.size<=b) u (.slice p n c)):CgS W u ((p,n,c),gh.2) (l.setIfInBounds 7 true) Y:=by
 refine⟨h.bel.trans (hb.mono h.bel.size),fun _=>hr.mono (fun b _ hb2=>Nat.le_trans h.bel.size hb2),fun e=> ?_⟩;rw [getD_set_ne false (by decide),h8] at e
 cases e
theorem CgS.made{W:World}{u:Tr}{gh:(Option Addr×Nat×Nat)×Nat}{l:Array Bool}{X:World}(h:CgS W u gh l X)(_hin:8<l.size)(h7:l.getD 7 false=true):CgS W u (gh.1,X.heap.size) (l.setIfInBounds 8 true) (X.alloc (.cells (Jm u (.slice gh.1.1 gh.1.2.1 gh.1.2.2)).toArray 50)):=
 ⟨h.bel.trans ((j3 _ _).mono h.bel.size),fun _=>(h.call h7).up (j3 _ _),fun _=>⟨j1 _ _,h.bel.size⟩⟩
def Kn(tb g n cap m size p0 pe:Nat)(k1 q kk:Int)(k':Int)(s':W4)(lo' hi':Int)(z':Bool)(a' b':Nat)(gh:(Option Addr×Nat×Nat)×Nat):Nat->Value
 |0=>.pointer (some ⟨tb,0,none⟩)
 |1=>.int .i64 q
 |2=>.int .i64 kk
 |3=>.slice (some ⟨g,0,none⟩) n cap
 |4=>.int .i64 k1
 |5=>.int .i64 (m:Int)
 |6=>.int .i64 (size:Int)
 |7=>.agg #[.int .i64 k',.int .u64 s'.a,.int .u64 s'.b,.int .u64 s'.c,.int .u64 s'.d,.int .i64 lo',.int .i64 hi',.bool z',(.slice gh.1.1 gh.1.2.1 gh.1.2.2),.int .i64 (a':Int),.int .i64 (b':Int)]
 |8=>.slice (some ⟨gh.2,0,none⟩) 1 1
 |9=>.pointer (some ⟨tb,1,none⟩)
 |10=>.int .i64 (p0:Int)
 |11=>.slice (some ⟨g,0,none⟩) n cap
 |12=>.int .i64 (m:Int)
 |13=>.pointer (some ⟨g,m*10,none⟩)
 |14=>.pointer (some ⟨g,m*10+2,none⟩)
 |15=>.int .i64 (pe:Int)
 |16=>.agg #[.int .i64 kk,.int .u64 0,.int .u64 0,.int .u64 0,.int .u64 0,.int .i64 0,.int .i64 0,.bool false,.slice (some ⟨gh.2,0,none⟩) 1 1,.int .i64 (p0:Int),.int .i64 (pe:Int)]
 |17=>undef
 |_=>undef
def Ka(nb g n cap m pe:Nat)(tk:jp)(k':Int)(s':W4)(lo' hi':Int)(z':Bool)(a' b':Nat)(pp:Option Addr)(n' cp:Nat)(c:Nat):Nat->Value
 |0=>.slice (some ⟨g,0,none⟩) n cap
 |1=>.int .i64 (m:Int)
 |2=>.pointer (some ⟨g,m*10,none⟩)
 |3=>.pointer (some ⟨g,m*10+7,none⟩)
 |4=>.int .i64 tk.lo
 |5=>.slice (some ⟨g,0,none⟩) n cap
 |6=>.int .i64 (m:Int)
 |7=>.pointer (some ⟨g,m*10,none⟩)
 |8=>.pointer (some ⟨g,m*10+8,none⟩)
 |9=>.int .i64 tk.hi
 |10=>.slice (some ⟨g,0,none⟩) n cap
 |11=>.int .i64 (m:Int)
 |12=>.pointer (some ⟨g,m*10,none⟩)
 |13=>.pointer (some ⟨g,m*10+9,none⟩)
 |14=>.bool tk.lazy
 |15=>.agg #[.int .i64 k',.int .u64 s'.a,.int .u64 s'.b,.int .u64 s'.c,.int .u64 s'.d,.int .i64 lo',.int .i64 hi',.bool z',(.slice pp n' cp),.int .i64 (a':Int),.int .i64 (b':Int)]
 |16=>.slice (some ⟨c,0,none⟩) 1 1
 |17=>.pointer (some ⟨nb,9,none⟩)
 |18=>.int .i64 (a':Int)
 |19=>.slice (some ⟨g,0,none⟩) n cap
 |20=>.int .i64 (m:Int)
 |21=>.pointer (some ⟨g,m*10,none⟩)
 |22=>.pointer (some ⟨g,m*10+2,none⟩)
 |23=>.int .i64 (pe:Int)
 |24=>.agg #[.int .i64 6,.int .u64 0,.int .u64 0,.int .u64 0,.int .u64 0,.int .i64 tk.lo,.int .i64 tk.hi,.bool tk.lazy,.slice (some ⟨c,0,none⟩) 1 1,.int .i64 (a':Int),.int .i64 (pe:Int)]
 |25=>undef
 |_=>undef
theorem itm_split{L:jq}{size k m:Nat}{u:Tr}(h:Itm L size k m u):∃(m0:Nat) (u0:Tr),Sgl L size k m0 u0/\jc u0<=jc u/\((m=m0/\u=u0)\/(jR L m0=5/\m=m0+1/\u=.mk 6 j7 (xv L m0).lo (xv L m0).hi (xv L m0).lazy (ki L size k) (ki L size (m0+1)) [u0])):=by
 cases h with
 |bare _ _ h=>exact⟨m,u,h,jN _,.inl ⟨rfl,rfl⟩⟩
 |rep m' u' h hj=>exact⟨m',u',h,by simp only [jc,jz];omega,.inr ⟨hj,rfl,rfl⟩⟩
theorem XU{tb g n cap m size p0 pe:Nat}{k1 q kk:Int}{k':Int}{s':W4}{lo' hi':Int}{z':Bool}{a' b':Nat}{gh:(Option Addr×Nat×Nat)×Nat}{x:Option Addr×Nat×Nat}{j:Nat}(h7:j≠7):Kn tb g n cap m size p0 pe k1 q kk k' s' lo' hi' z' a' b' (x,gh.2) j=Kn tb g n cap m size p0 pe k1 q kk k' s' lo' hi' z' a' b' gh j:=by
 match j,h7 with
 |0,_=>rfl
 |1,_=>rfl
 |2,_=>rfl
 |3,_=>rfl
 |4,_=>rfl
 |5,_=>rfl
 |6,_=>rfl
 |8,_=>rfl
 |9,_=>rfl
 |10,_=>rfl
 |11,_=>rfl
 |12,_=>rfl
 |13,_=>rfl
 |14,_=>rfl
 |15,_=>rfl
 |16,_=>rfl
 |17,_=>rfl
 |j+18,_=>rfl
theorem Zt{tb g n cap m size p0 pe:Nat}{k1 q kk:Int}{k':Int}{s':W4}{lo' hi':Int}{z':Bool}{a' b':Nat}{gh:(Option Addr×Nat×Nat)×Nat}{c:Nat}{j:Nat}(h8:j≠8)(h16:j≠16):Kn tb g n cap m size p0 pe k1 q kk k' s' lo' hi' z' a' b' (gh.1,c) j=Kn tb g n cap m size p0 pe k1 q kk k' s' lo' hi' z' a' b' gh j:=by
 match j,h8,h16 with
 |0,_,_=>rfl
 |1,_,_=>rfl
 |2,_,_=>rfl
 |3,_,_=>rfl
 |4,_,_=>rfl
 |5,_,_=>rfl
 |6,_,_=>rfl
 |7,_,_=>rfl
 |9,_,_=>rfl
 |10,_,_=>rfl
 |11,_,_=>rfl
 |12,_,_=>rfl
 |13,_,_=>rfl
 |14,_,_=>rfl
 |15,_,_=>rfl
 |17,_,_=>rfl
 |j+18,_,_=>rfl
theorem Jl{nb g n cap m pe:Nat}{tk:jp}{k':Int}{s':W4}{lo' hi':Int}{z':Bool}{a' b':Nat}{pp:Option Addr}{n' cp:Nat}{c c2:Nat}{j:Nat}(h16:j≠16)(h24:j≠24):Ka nb g n cap m pe tk k' s' lo' hi' z' a' b' pp n' cp c2 j=Ka nb g n cap m pe tk k' s' lo' hi' z' a' b' pp n' cp c j:=by
 match j,h16,h24 with
 |0,_,_=>rfl
 |1,_,_=>rfl
 |2,_,_=>rfl
 |3,_,_=>rfl
 |4,_,_=>rfl
 |5,_,_=>rfl
 |6,_,_=>rfl
 |7,_,_=>rfl
 |8,_,_=>rfl
 |9,_,_=>rfl
 |10,_,_=>rfl
 |11,_,_=>rfl
 |12,_,_=>rfl
 |13,_,_=>rfl
 |14,_,_=>rfl
 |15,_,_=>rfl
 |17,_,_=>rfl
 |18,_,_=>rfl
 |19,_,_=>rfl
 |20,_,_=>rfl
 |21,_,_=>rfl
 |22,_,_=>rfl
 |23,_,_=>rfl
 |25,_,_=>rfl
 |j+26,_,_=>rfl
def vj(g n n1 cap' a b:Nat):Nat->Value
 |0=>.slice (some ⟨g,0,none⟩) n cap'
 |1=>.slice (some ⟨g,0,none⟩) n cap'
 |2=>.pointer (some ⟨g,0,none⟩)
 |3=>.pointer (some ⟨g,9,none⟩)
 |4=>.int .i64 (a:Int)
 |5=>.slice (some ⟨g,0,none⟩) n cap'
 |6=>.slice (some ⟨g,0,none⟩) n cap'
 |7=>.int .i64 (n:Int)
 |8=>.int .i64 (n1:Int)
 |9=>.pointer (some ⟨g,n1*11,none⟩)
 |10=>.pointer (some ⟨g,n1*11+10,none⟩)
 |11=>.int .i64 (b:Int)
 |12=>.agg #[.int .i64 4,.int .u64 0,.int .u64 0,.int .u64 0,.int .u64 0,.int .i64 0,.int .i64 0,.bool false,(.slice (some ⟨g,0,none⟩) n cap'),.int .i64 (a:Int),.int .i64 (b:Int)]
 |13=>undef
 |_=>undef
def JH:Nat->List (Nat×Nat)
 |0=> [(9,0)]
 |1=> [(9,0)]
 |5=> [(9,0)]
 |6=> [(9,0)]
 |7=> [(121,7)]
 |_=> []
def vC:Nat->List (Nat×Nat)
 |0=> [(0,0)]
 |1=> [(10,0)]
 |5=> [(0,0)]
 |6=> [(10,0)]
 |10=> [(0,0)]
 |11=> [(10,0)]
 |19=> [(0,0)]
 |20=> [(10,0)]
 |_=> []
def JI:Nat->List (Nat×Nat)
 |3=> [(0,0)]
 |4=> [(10,0)]
 |5=> [(13,0)]
 |6=> [(3,0)]
 |11=> [(0,0)]
 |12=> [(13,0)]
 |_=> []
def vD:Nat->List (Nat×Nat)
 |0=> [(0,0)]
 |1=> [(10,0)]
 |5=> [(0,0)]
 |6=> [(10,0)]
 |10=> [(0,0)]
 |11=> [(10,0)]
 |19=> [(0,0)]
 |20=> [(10,0)]
 |_=> []
theorem rcat_loop{L:jq}{v:Value}(size i j:Nat)(t:Tr)(hlen:L.length<=1048576)(hadj:AdjT L size)(hs:vd L size i j t)(hk5:xr t≠5)(w:World)(h:qK w v L)
  (HC:∀(u:Tr) (f z:Nat),jc u<jc t->vd L size f z u->∀W,qK W v L->Calls Tryz.prog 53 #[v,.int .i64 (f:Int),.int .i64 (z:Int),.int .i64 (size:Int)] W fun e w'=>Ye u W w' e):
  Calls Tryz.prog 95 #[v,.int .i64 (i:Int),.int .i64 (j:Int),.int .i64 (size:Int)] w fun e w'=>Ye t w w' e:=by
 obtain⟨p,cap,rfl⟩:=h.slice;have HA:=j0 h;have HCC:=j0 HC;have hjl:=(qT t hs).2;have hij:=(qT t hs).1;have HF:=j0 (cat_form hs hk5);have HS:=j0 hs;have HI0:=j0 (cat_items hs hk5);have HADJ:=j0 hadj;obtain⟨W0,hW0⟩:∃W0,W0=w.alloc (.cells #[.int .i64 0,.int .u64 0,.int .u64 0,.int .u64 0,.int .u64 0,.int .i64 0,.int .i64 0,.bool false,.slice none 0 0,.int .i64 0,.int .i64 0] 50):=⟨_,rfl⟩;have HB0:Hid (Below w.heap.size w W0):=j0 (by rw [hW0];exact j3 w _);have HK0:Hid (W0.heap[w.heap.size]? =some (.cells #[.int .i64 0,.int .u64 0,.int .u64 0,.int .u64 0,.int .u64 0,.int .i64 0,.int .i64 0,.bool false,.slice none 0 0,.int .i64 0,.int .i64 0] 50)):=j0 (by rw [hW0];exact j1 w _);have HE0:=j0 hW0;have HZ0:Hid (W0.heap.size=w.heap.size+1):=j0 (by rw [hW0,World.size_alloc]);obtain⟨i0,hif,hy0,hy1,hy2⟩:=info_parts Tryz.infoRNd;clear h hW0 HC hs hk5 hadj
 go_enter Tryz.func95,Tryz.ntmps95
 go_wp2_with fail
 rw [<-HE0.out];clear HE0
 go_loopw [9,10] (fun pv iv wr=>∃(k:Nat) (l1 l2:List Tr) (us:List Value),i<=k/\k<=j/\l1.length<=k/\iv=.int .i64 k/\Hid (vo t=l1++l2)/\Hid (xo L size k j l2)/\Hid (yd W0.heap.size l1 us pv wr)/\Hid (Below W0.heap.size W0 wr)) (fun _ iv _=>j-(intOf iv).toNat)
 case atStart=>exact⟨i,[],vo t,[],by omega,by omega,by simp,rfl,j0 rfl,HI0,j0 (yd.start _ _),j0 (Below.refl _ _)⟩
 case round=>
  obtain⟨k,l1,l2,us,hik,hk,hl1,rfl,HT,HI,HG,HB⟩:=hrel;have HBW:=j0 (HB0.out.trans (HB.out.mono HB0.out.size))
  by_cases hlt:k<j
  ·obtain⟨u,r,m,hl2,hit,hmj,hn,hnx⟩:=spnC_on HI.out hlt;subst hl2;have HN:=j0 hn;have HNX:=j0 hnx;have HT2:Hid (vo t=(l1++ [u])++r):=j0 (by rw [HT.out,List.append_assoc];rfl);obtain⟨g,cap',hv,hg,c0,c1,c2,⟨c3,c4,c5,c6⟩,c7,c8,c9⟩:=(HA.out.below HBW.out).get (i:=k) (by omega) size;injection hv with hv1 _ hv2;subst hv1 hv2
   have HADK:Hid (enR L k=ki L size (k+1)):=j0 (by
    obtain⟨x,hx⟩:∃x,L[k]? =some x:=⟨_,List.getElem?_eq_getElem (by omega)⟩;unfold enR;rw [hx]
    exact HADJ.out k x hx)
   clear hn hnx HT HI;obtain⟨m0,u0,hsg,hle,hD⟩:=itm_split hit;clear hit
   cases hsg with
   |set hk0=>
    rcases hD with ⟨rfl,rfl⟩|⟨hj5,rfl,rfl⟩
    ·rw [hk0] at c0;rw [HADK.out] at c2;obtain⟨q,hq⟩:∃q,q=ki L size (k+1):=⟨_,rfl⟩;obtain⟨p0,hp0⟩:∃q,q=ki L size k:=⟨_,rfl⟩;obtain⟨tk,htk⟩:∃q,q=xv L k:=⟨_,rfl⟩;rw [<-hq] at c2;rw [<-hp0] at c1;rw [<-htk] at c3 c4 c5 c6 c7 c8 c9;rw [<-hq,<-hp0,<-htk] at HT2;clear hq hp0 htk HADK;have hszr:=HB.out.size;have HLO:=j0 (fun b hb=>(kl HG.out.own (g:=b) hb).2)
     by_cases hk1:k+1<j
     ·have hne:=HNX.out hk1;obtain⟨g',cap'',hv',hg',d0,_⟩:=(HA.out.below HBW.out).get (i:=k+1) (by omega) size;injection hv' with hv1 _ hv2;injection hv1 with hv1;injection hv1 with hv1;subst hv1 hv2;generalize jR L (k+1)=k5 at*;have b5:((k5:Int)==5)=false:=by simpa using hne
      clear hne HNX hk0
      go_upto_region 14 with fail
      obtain⟨W2,hW2⟩:∃X,X=(wr.alloc (.cells #[.int .i64 0,.int .i64 (p0:Int),.int .i64 (q:Int),.int .u64 tk.set.a,.int .u64 tk.set.b,.int .u64 tk.set.c,.int .u64 tk.set.d,.int .i64 tk.lo,.int .i64 tk.hi,.bool tk.lazy] 176)).alloc (.cells #[.int .i64 1,.int .u64 tk.set.a,.int .u64 tk.set.b,.int .u64 tk.set.c,.int .u64 tk.set.d,.int .i64 0,.int .i64 0,.bool false,.slice none 0 0,.int .i64 (p0:Int),.int .i64 (q:Int)] 50):=⟨_,rfl⟩;have HB2:Hid (Below W0.heap.size W0 W2):=j0 (by rw [hW2];exact HB.out.trans ((kw wr _ _).mono HB.out.size));have HG2:Hid (yd W0.heap.size l1 us _ W2):=j0 (by rw [hW2];exact HG.out.below (kw wr _ _));have HND:Hid (W2.heap[wr.heap.size+1]? =some (.cells #[.int .i64 1,.int .u64 tk.set.a,.int .u64 tk.set.b,.int .u64 tk.set.c,.int .u64 tk.set.d,.int .i64 0,.int .i64 0,.bool false,.slice none 0 0,.int .i64 (p0:Int),.int .i64 (q:Int)] 50)):=j0 (by have h:=j1 (wr.alloc (.cells #[.int .i64 0,.int .i64 (p0:Int),.int .i64 (q:Int),.int .u64 tk.set.a,.int .u64 tk.set.b,.int .u64 tk.set.c,.int .u64 tk.set.d,.int .i64 tk.lo,.int .i64 tk.hi,.bool tk.lazy] 176)) (.cells #[.int .i64 1,.int .u64 tk.set.a,.int .u64 tk.set.b,.int .u64 tk.set.c,.int .u64 tk.set.d,.int .i64 0,.int .i64 0,.bool false,.slice none 0 0,.int .i64 (p0:Int),.int .i64 (q:Int)] 50);rw [World.size_alloc] at h;rw [hW2];exact h);change Code.wp _ _ _ _ ((wr.alloc (.cells #[.int .i64 0,.int .i64 (p0:Int),.int .i64 (q:Int),.int .u64 tk.set.a,.int .u64 tk.set.b,.int .u64 tk.set.c,.int .u64 tk.set.d,.int .i64 tk.lo,.int .i64 tk.hi,.bool tk.lazy] 176)).alloc (.cells #[.int .i64 1,.int .u64 tk.set.a,.int .u64 tk.set.b,.int .u64 tk.set.c,.int .u64 tk.set.d,.int .i64 0,.int .i64 0,.bool false,.slice none 0 0,.int .i64 (p0:Int),.int .i64 (q:Int)] 50));rw [<-hW2];clear hW2;have y0:=jC HND.out 0;have y1:=jC HND.out 1;have y2:=jC HND.out 2;have y3:=jC HND.out 3;have y4:=jC HND.out 4;have y5:=jC HND.out 5;have y6:=jC HND.out 6;have y7:=jC HND.out 7;have y8:=jC HND.out 8;have y9:=jC HND.out 9;have y10:=jC HND.out 10;have hyl:=jS HND.out;simp only [Reg.la,Reg.lb,Reg.lc] at y0 y1 y2 y3 y4 y5 y6 y7 y8 y9 y10;have hsz2:=HB2.out.size;clear c0 c1 c2 c3 c4 c5 c6 c7 c8 c9
      go_wp2_with (at_builtin;go_must (refine wpList_append_own_at _ rfl (.tmp 95) (.tmp 97) 48 rfl W0.heap.size 50 i0 (.agg #[.int .i64 0,.int .u64 0,.int .u64 0,.int .u64 0,.int .u64 0,.int .i64 0,.int .i64 0,.bool false,.slice none 0 0,.int .i64 0,.int .i64 0]) 11 104 Tryz.underlying48 hif hy0 hy1 hy2 rfl (by decide) _ l1.length (rnRow l1 us) rfl (kt HG2.out.own _) ⟨_,0,none⟩ 1 1 (Jm (.mk 1 tk.set 0 0 false p0 q []) (.slice none 0 0)) rfl rfl (qZ _ _ 1 tk.set 0 0 false p0 q [] _ _ (by simp)) (xz _ _ _ _) (by unfold maxLen;omega) (by omega) (by simp;omega) ?_;intro v4 w4 ho hg4 _ hat;have HG4:=j0 (HG2.out.add (lo:=wr.heap.size) HLO.out hszr (kU.leaf W2 (fun b=>wr.heap.size<=b) 1 tk.set 0 0 false p0 q) ho hg4 hat);have HB4:=j0 ((HB2.out.alloc hsz2 _).grown hg4 (by simp;omega) (fun b hb=>(kl HG2.out.own hb).1));clear ho hg4 hat))
      clear HG2 HB2 HLO
      go_wp2_with fail
      go_roundw
      case rel=>exact⟨k+1,l1++ [(.mk 1 tk.set 0 0 false p0 q [])],r,us++ [_],by omega,by omega,by simp;omega,by go_num,HT2,HN,HG4,HB4⟩
      case measure=>first|(simp [intOf];omega)|simp [intOf]
     ·clear HNX hk0
      go_upto_region 14 with fail
      obtain⟨W2,hW2⟩:∃X,X=(wr.alloc (.cells #[.int .i64 0,.int .i64 (p0:Int),.int .i64 (q:Int),.int .u64 tk.set.a,.int .u64 tk.set.b,.int .u64 tk.set.c,.int .u64 tk.set.d,.int .i64 tk.lo,.int .i64 tk.hi,.bool tk.lazy] 176)).alloc (.cells #[.int .i64 1,.int .u64 tk.set.a,.int .u64 tk.set.b,.int .u64 tk.set.c,.int .u64 tk.set.d,.int .i64 0,.int .i64 0,.bool false,.slice none 0 0,.int .i64 (p0:Int),.int .i64 (q:Int)] 50):=⟨_,rfl⟩;have HB2:Hid (Below W0.heap.size W0 W2):=j0 (by rw [hW2];exact HB.out.trans ((kw wr _ _).mono HB.out.size));have HG2:Hid (yd W0.heap.size l1 us _ W2):=j0 (by rw [hW2];exact HG.out.below (kw wr _ _));have HND:Hid (W2.heap[wr.heap.size+1]? =some (.cells #[.int .i64 1,.int .u64 tk.set.a,.int .u64 tk.set.b,.int .u64 tk.set.c,.int .u64 tk.set.d,.int .i64 0,.int .i64 0,.bool false,.slice none 0 0,.int .i64 (p0:Int),.int .i64 (q:Int)] 50)):=j0 (by have h:=j1 (wr.alloc (.cells #[.int .i64 0,.int .i64 (p0:Int),.int .i64 (q:Int),.int .u64 tk.set.a,.int .u64 tk.set.b,.int .u64 tk.set.c,.int .u64 tk.set.d,.int .i64 tk.lo,.int .i64 tk.hi,.bool tk.lazy] 176)) (.cells #[.int .i64 1,.int .u64 tk.set.a,.int .u64 tk.set.b,.int .u64 tk.set.c,.int .u64 tk.set.d,.int .i64 0,.int .i64 0,.bool false,.slice none 0 0,.int .i64 (p0:Int),.int .i64 (q:Int)] 50);rw [World.size_alloc] at h;rw [hW2];exact h);change Code.wp _ _ _ _ ((wr.alloc (.cells #[.int .i64 0,.int .i64 (p0:Int),.int .i64 (q:Int),.int .u64 tk.set.a,.int .u64 tk.set.b,.int .u64 tk.set.c,.int .u64 tk.set.d,.int .i64 tk.lo,.int .i64 tk.hi,.bool tk.lazy] 176)).alloc (.cells #[.int .i64 1,.int .u64 tk.set.a,.int .u64 tk.set.b,.int .u64 tk.set.c,.int .u64 tk.set.d,.int .i64 0,.int .i64 0,.bool false,.slice none 0 0,.int .i64 (p0:Int),.int .i64 (q:Int)] 50));rw [<-hW2];clear hW2;have y0:=jC HND.out 0;have y1:=jC HND.out 1;have y2:=jC HND.out 2;have y3:=jC HND.out 3;have y4:=jC HND.out 4;have y5:=jC HND.out 5;have y6:=jC HND.out 6;have y7:=jC HND.out 7;have y8:=jC HND.out 8;have y9:=jC HND.out 9;have y10:=jC HND.out 10;have hyl:=jS HND.out;simp only [Reg.la,Reg.lb,Reg.lc] at y0 y1 y2 y3 y4 y5 y6 y7 y8 y9 y10;have hsz2:=HB2.out.size;clear c0 c1 c2 c3 c4 c5 c6 c7 c8 c9
      go_wp2_with (at_builtin;go_must (refine wpList_append_own_at _ rfl (.tmp 95) (.tmp 97) 48 rfl W0.heap.size 50 i0 (.agg #[.int .i64 0,.int .u64 0,.int .u64 0,.int .u64 0,.int .u64 0,.int .i64 0,.int .i64 0,.bool false,.slice none 0 0,.int .i64 0,.int .i64 0]) 11 104 Tryz.underlying48 hif hy0 hy1 hy2 rfl (by decide) _ l1.length (rnRow l1 us) rfl (kt HG2.out.own _) ⟨_,0,none⟩ 1 1 (Jm (.mk 1 tk.set 0 0 false p0 q []) (.slice none 0 0)) rfl rfl (qZ _ _ 1 tk.set 0 0 false p0 q [] _ _ (by simp)) (xz _ _ _ _) (by unfold maxLen;omega) (by omega) (by simp;omega) ?_;intro v4 w4 ho hg4 _ hat;have HG4:=j0 (HG2.out.add (lo:=wr.heap.size) HLO.out hszr (kU.leaf W2 (fun b=>wr.heap.size<=b) 1 tk.set 0 0 false p0 q) ho hg4 hat);have HB4:=j0 ((HB2.out.alloc hsz2 _).grown hg4 (by simp;omega) (fun b hb=>(kl HG2.out.own hb).1));clear ho hg4 hat))
      clear HG2 HB2 HLO
      go_wp2_with fail
      go_roundw
      case rel=>exact⟨k+1,l1++ [(.mk 1 tk.set 0 0 false p0 q [])],r,us++ [_],by omega,by omega,by simp;omega,by go_num,HT2,HN,HG4,HB4⟩
      case measure=>first|(simp [intOf];omega)|simp [intOf]
    ·rw [hk0] at c0;rw [HADK.out] at c2;obtain⟨e0,he0⟩:∃q,q=ki L size (k+1):=⟨_,rfl⟩;obtain⟨p0,hp0⟩:∃q,q=ki L size k:=⟨_,rfl⟩;obtain⟨tk,htk⟩:∃q,q=xv L k:=⟨_,rfl⟩;rw [<-he0] at c2;rw [<-hp0] at c1;rw [<-htk] at c3 c4 c5 c6 c7 c8 c9;rw [<-he0,<-hp0,<-htk] at HT2;clear he0 hp0 htk HADK hk0;have hszr:=HB.out.size;have HLO:=j0 (fun b hb=>(kl HG.out.own (g:=b) hb).2)
     go_upto_region 11 with fail
     obtain⟨WN,hWN⟩:∃X,X=(wr.alloc (.cells #[.int .i64 0,.int .i64 (p0:Int),.int .i64 (e0:Int),.int .u64 tk.set.a,.int .u64 tk.set.b,.int .u64 tk.set.c,.int .u64 tk.set.d,.int .i64 tk.lo,.int .i64 tk.hi,.bool tk.lazy] 176)).alloc (.cells #[.int .i64 1,.int .u64 tk.set.a,.int .u64 tk.set.b,.int .u64 tk.set.c,.int .u64 tk.set.d,.int .i64 0,.int .i64 0,.bool false,.slice none 0 0,.int .i64 (p0:Int),.int .i64 (e0:Int)] 50):=⟨_,rfl⟩;have HBN:Hid (Below wr.heap.size wr WN):=j0 (by rw [hWN];exact kw wr _ _);have HNN:Hid (WN.heap[(wr.heap.size+1)]? =some (.cells #[.int .i64 1,.int .u64 tk.set.a,.int .u64 tk.set.b,.int .u64 tk.set.c,.int .u64 tk.set.d,.int .i64 0,.int .i64 0,.bool false,.slice none 0 0,.int .i64 (p0:Int),.int .i64 (e0:Int)] 50)):=j0 (by have h:=j1 (wr.alloc (.cells #[.int .i64 0,.int .i64 (p0:Int),.int .i64 (e0:Int),.int .u64 tk.set.a,.int .u64 tk.set.b,.int .u64 tk.set.c,.int .u64 tk.set.d,.int .i64 tk.lo,.int .i64 tk.hi,.bool tk.lazy] 176)) (.cells #[.int .i64 1,.int .u64 tk.set.a,.int .u64 tk.set.b,.int .u64 tk.set.c,.int .u64 tk.set.d,.int .i64 0,.int .i64 0,.bool false,.slice none 0 0,.int .i64 (p0:Int),.int .i64 (e0:Int)] 50);rw [World.size_alloc] at h;rw [hWN];exact h);have HRN:Hid (kU WN (fun b=>wr.heap.size<=b/\b≠(wr.heap.size+1)) (.mk 1 tk.set 0 0 false p0 e0 []) (.slice none 0 0)):=j0 (kU.leaf _ _ _ _ _ _ _ _ _);change Code.wp _ _ _ _ ((wr.alloc (.cells #[.int .i64 0,.int .i64 (p0:Int),.int .i64 (e0:Int),.int .u64 tk.set.a,.int .u64 tk.set.b,.int .u64 tk.set.c,.int .u64 tk.set.d,.int .i64 tk.lo,.int .i64 tk.hi,.bool tk.lazy] 176)).alloc (.cells #[.int .i64 1,.int .u64 tk.set.a,.int .u64 tk.set.b,.int .u64 tk.set.c,.int .u64 tk.set.d,.int .i64 0,.int .i64 0,.bool false,.slice none 0 0,.int .i64 (p0:Int),.int .i64 (e0:Int)] 50));rw [<-hWN];clear hWN c0 c1 c2 c3 c4 c5 c6 c7 c8 c9;obtain⟨k',s',lo',hi',z',b',l',pp,n',cp,hTT,HNN,HRN⟩:∃k' s' lo' hi' z' b' l' pp n' cp,Tr.mk 1 tk.set 0 0 false p0 e0 []=.mk k' s' lo' hi' z' p0 b' l'/\Hid (WN.heap[(wr.heap.size+1)]? =some (.cells #[.int .i64 k',.int .u64 s'.a,.int .u64 s'.b,.int .u64 s'.c,.int .u64 s'.d,.int .i64 lo',.int .i64 hi',.bool z',(.slice pp n' cp),.int .i64 (p0:Int),.int .i64 (b':Int)] 50))/\Hid (kU WN (fun b=>wr.heap.size<=b/\b≠(wr.heap.size+1)) (.mk k' s' lo' hi' z' p0 b' l') (.slice pp n' cp)):=⟨_,_,_,_,_,_,_,_,_,_,rfl,HNN,HRN⟩;rw [hTT] at HT2;clear hTT;have hmL5:=qq hj5 (by decide);obtain⟨g5,cap5,hv5,hg5,f0,_,f2,_,f7,f8,f9⟩:=(HA.out.below (HBW.out.trans (HBN.out.mono HBW.out.size))).get (i:=k+1) hmL5 size;injection hv5 with hv6 _ hv7;injection hv6 with hv6;injection hv6 with hv6;subst hv6 hv7
     have HADM:Hid (enR L (k+1)=ki L size (k+1+1)):=j0 (by
      obtain⟨x,hx⟩:∃x,L[k+1]? =some x:=⟨_,List.getElem?_eq_getElem hmL5⟩;unfold enR;rw [hx]
      exact HADJ.out (k+1) x hx)
     rw [HADM.out] at f2;rw [hj5] at f0;obtain⟨pe5,hpe⟩:∃q,q=ki L size (k+1+1):=⟨_,rfl⟩;obtain⟨t5,ht5⟩:∃q,q=xv L (k+1):=⟨_,rfl⟩;rw [<-hpe] at f2;rw [<-ht5] at f7 f8 f9;rw [<-hpe,<-ht5] at HT2;clear hpe ht5 HADM;obtain⟨m,hm⟩:∃q,q=k+1:=⟨_,rfl⟩;rw [<-hm] at hmL5 f0 f2 f7 f8 f9 hmj HN;have HML:=j0 hmL5;have HGL:=j0 hg5;have H2:=j0 f2;have H7:=j0 f7;have H8:=j0 f8;have H9:=j0 f9;have hmk:k<m:=by omega
     have HMI:Hid ((m:Int)=((k:Int)+1)):=j0 (by omega);rw [<-HMI.out];clear hm HNX hj5
     go_upto_region 12 with fail
     refine Reg.wp_region_H (Ka (wr.heap.size+1) g L.length cap m pe5 t5 k' s' lo' hi' z' p0 b' pp n' cp) (Reg.GenH 25 (Y7 WN 16 (.cells #[.int .i64 k',.int .u64 s'.a,.int .u64 s'.b,.int .u64 s'.c,.int .u64 s'.d,.int .i64 lo',.int .i64 hi',.bool z',(.slice pp n' cp),.int .i64 (p0:Int),.int .i64 (b':Int)] 50)) (fun gh X=>∃X0,Below WN.heap.size WN X0/\(X0.heap[gh]? =some (.cells #[.int .i64 k',.int .u64 s'.a,.int .u64 s'.b,.int .u64 s'.c,.int .u64 s'.d,.int .i64 lo',.int .i64 hi',.bool z',(.slice pp n' cp),.int .i64 (p0:Int),.int .i64 (b':Int)] 50)/\WN.heap.size<=gh)/\X=yX X0 (wr.heap.size+1) (.int .i64 6) (.int .u64 0) (.int .u64 0) (.int .u64 0) (.int .u64 0) (.int .i64 t5.lo) (.int .i64 t5.hi) (.bool t5.lazy) (.slice (some ⟨gh,0,none⟩) 1 1) (.int .i64 (p0:Int)) (.int .i64 (pe5:Int)))) 0 [0,1,2,3,4,5,6,7,8,9,10,11,12,13,14,15,16,17,18,19,20,21,22,23,24,25] (by rfl) (by kernel_rfl) (by kernel_rfl) ?_ ?_ ?_
     ·exact Reg.GenH.start ⟨Below.drew (Below.refl _ _),fun e=>by simp at e⟩
     ·iterate 2
       refine Reg.oH (fun gh listed A X hI hcl hin hun hall hn HS=> ?_) ?_
       ·have E:=hI.tf hun hall vD;simp only [Reg.TF,vD,Reg.la,Reg.lb,Reg.lc] at E;have hX:=HS.bel;have HX:=j0 hX;clear hI hX
        go_simp
        exact Reg.GenH.s hn (HS.up (by decide) (Below.refl _ _))
      refine Reg.oH (fun gh listed A X hI hcl hin hun hall hn HS=> ?_) ?_
      ·have e68:A.tmps[68]? =some (.slice (some ⟨g,0,none⟩) L.length cap):=hI.v hall 0 68;have e69:A.tmps[69]? =some (.int .i64 (m:Int)):=hI.v hall 1 69;have hX:=HS.bel;have hml:=HML.out;have HX:=j0 hX;clear hI hX
       go_simp
       exact Reg.GenH.s hn (HS.up (by decide) (Below.refl _ _))
      refine Reg.oH (fun gh listed A X hI hcl hin hun hall hn HS=> ?_) ?_
      ·have e70:A.tmps[70]? =some (.pointer (some ⟨g,m*10,none⟩)):=hI.v hall 2 70;have hX:=HS.bel;have HX:=j0 hX;clear hI hX
       go_simp
       exact Reg.GenH.s hn (HS.up (by decide) (Below.refl _ _))
      refine Reg.oH (fun gh listed A X hI hcl hin hun hall hn HS=> ?_) ?_
      ·have e71:A.tmps[71]? =some (.pointer (some ⟨g,m*10+7,none⟩)):=hI.v hall 3 71;have hX:=HS.bel;have f:=(hX.cell (p:=⟨g,m*10+7,none⟩) HGL.out).trans H7.out;have HX:=j0 hX;clear hI hX
       go_simp
       exact Reg.GenH.s hn (HS.up (by decide) (Below.refl _ _))
      iterate 2
       refine Reg.oH (fun gh listed A X hI hcl hin hun hall hn HS=> ?_) ?_
       ·have E:=hI.tf hun hall vD;simp only [Reg.TF,vD,Reg.la,Reg.lb,Reg.lc] at E;have hX:=HS.bel;have HX:=j0 hX;clear hI hX
        go_simp
        exact Reg.GenH.s hn (HS.up (by decide) (Below.refl _ _))
      refine Reg.oH (fun gh listed A X hI hcl hin hun hall hn HS=> ?_) ?_
      ·have e73:A.tmps[73]? =some (.slice (some ⟨g,0,none⟩) L.length cap):=hI.v hall 5 73;have e74:A.tmps[74]? =some (.int .i64 (m:Int)):=hI.v hall 6 74;have hX:=HS.bel;have hml:=HML.out;have HX:=j0 hX;clear hI hX
       go_simp
       exact Reg.GenH.s hn (HS.up (by decide) (Below.refl _ _))
      refine Reg.oH (fun gh listed A X hI hcl hin hun hall hn HS=> ?_) ?_
      ·have e75:A.tmps[75]? =some (.pointer (some ⟨g,m*10,none⟩)):=hI.v hall 7 75;have hX:=HS.bel;have HX:=j0 hX;clear hI hX
       go_simp
       exact Reg.GenH.s hn (HS.up (by decide) (Below.refl _ _))
      refine Reg.oH (fun gh listed A X hI hcl hin hun hall hn HS=> ?_) ?_
      ·have e76:A.tmps[76]? =some (.pointer (some ⟨g,m*10+8,none⟩)):=hI.v hall 8 76;have hX:=HS.bel;have f:=(hX.cell (p:=⟨g,m*10+8,none⟩) HGL.out).trans H8.out;have HX:=j0 hX;clear hI hX
       go_simp
       exact Reg.GenH.s hn (HS.up (by decide) (Below.refl _ _))
      iterate 2
       refine Reg.oH (fun gh listed A X hI hcl hin hun hall hn HS=> ?_) ?_
       ·have E:=hI.tf hun hall vD;simp only [Reg.TF,vD,Reg.la,Reg.lb,Reg.lc] at E;have hX:=HS.bel;have HX:=j0 hX;clear hI hX
        go_simp
        exact Reg.GenH.s hn (HS.up (by decide) (Below.refl _ _))
      refine Reg.oH (fun gh listed A X hI hcl hin hun hall hn HS=> ?_) ?_
      ·have e78:A.tmps[78]? =some (.slice (some ⟨g,0,none⟩) L.length cap):=hI.v hall 10 78;have e79:A.tmps[79]? =some (.int .i64 (m:Int)):=hI.v hall 11 79;have hX:=HS.bel;have hml:=HML.out;have HX:=j0 hX;clear hI hX
       go_simp
       exact Reg.GenH.s hn (HS.up (by decide) (Below.refl _ _))
      refine Reg.oH (fun gh listed A X hI hcl hin hun hall hn HS=> ?_) ?_
      ·have e80:A.tmps[80]? =some (.pointer (some ⟨g,m*10,none⟩)):=hI.v hall 12 80;have hX:=HS.bel;have HX:=j0 hX;clear hI hX
       go_simp
       exact Reg.GenH.s hn (HS.up (by decide) (Below.refl _ _))
      refine Reg.oH (fun gh listed A X hI hcl hin hun hall hn HS=> ?_) ?_
      ·have e81:A.tmps[81]? =some (.pointer (some ⟨g,m*10+9,none⟩)):=hI.v hall 13 81;have hX:=HS.bel;have f:=(hX.cell (p:=⟨g,m*10+9,none⟩) HGL.out).trans H9.out;have HX:=j0 hX;clear hI hX
       go_simp
       exact Reg.GenH.s hn (HS.up (by decide) (Below.refl _ _))
      refine Reg.oH (fun gh listed A X hI hcl hin hun hall hn HS=> ?_) ?_
      ·have e12:=hI.wo 12 rfl;have hX:=HS.bel;have hb:=(hX.block _ (jS HNN.out)).trans HNN.out;have y0:=jC hb 0;have y1:=jC hb 1;have y2:=jC hb 2;have y3:=jC hb 3;have y4:=jC hb 4;have y5:=jC hb 5;have y6:=jC hb 6;have y7:=jC hb 7;have y8:=jC hb 8;have y9:=jC hb 9;have y10:=jC hb 10;have hyl:=jS hb;simp only [Reg.la,Reg.lb,Reg.lc] at y0 y1 y2 y3 y4 y5 y6 y7 y8 y9 y10;clear hb;have HX:=j0 hX;clear hI hX
       go_simp
       exact Reg.GenH.s hn (HS.up (by decide) (Below.refl _ _))
      refine Reg.oH (fun gh listed A X hI hcl hin hun hall hn HS=> ?_) ?_
      ·have e83:A.tmps[83]? =some (.agg #[.int .i64 k',.int .u64 s'.a,.int .u64 s'.b,.int .u64 s'.c,.int .u64 s'.d,.int .i64 lo',.int .i64 hi',.bool z',(.slice pp n' cp),.int .i64 (p0:Int),.int .i64 (b':Int)]):=hI.v hall 15 83;have hX:=HS.bel;have HX:=j0 hX;clear hI hX
       go_simp
       exact Reg.GenH.step (g':=X.heap.size) hn (by decide) (fun j hj=>Jl (fun e=>by rw [e] at hj;rw [hj] at hun;cases hun) (fun e=>by rw [e] at hj;rw [Reg.closed_reach hcl 60 24 16 (by kernel_rfl) hj] at hun;cases hun)) rfl (HS.made hin)
      refine Reg.oH (fun gh listed A X hI hcl hin hun hall hn HS=> ?_) ?_
      ·have e12:=hI.wo 12 rfl;have hX:=HS.bel;have hyl:=jS ((hX.block _ (jS HNN.out)).trans HNN.out);have HX:=j0 hX;clear hI hX
       go_simp
       exact Reg.GenH.s hn (HS.up (by decide) (Below.refl _ _))
      refine Reg.oH (fun gh listed A X hI hcl hin hun hall hn HS=> ?_) ?_
      ·have e85:A.tmps[85]? =some (.pointer (some ⟨(wr.heap.size+1),9,none⟩)):=hI.v hall 17 85;have hX:=HS.bel;have hb:=(hX.block _ (jS HNN.out)).trans HNN.out;have y0:=jC hb 0;have y1:=jC hb 1;have y2:=jC hb 2;have y3:=jC hb 3;have y4:=jC hb 4;have y5:=jC hb 5;have y6:=jC hb 6;have y7:=jC hb 7;have y8:=jC hb 8;have y9:=jC hb 9;have y10:=jC hb 10;have hyl:=jS hb;simp only [Reg.la,Reg.lb,Reg.lc] at y0 y1 y2 y3 y4 y5 y6 y7 y8 y9 y10;clear hb;have HX:=j0 hX;clear hI hX
       go_simp
       exact Reg.GenH.s hn (HS.up (by decide) (Below.refl _ _))
      iterate 2
       refine Reg.oH (fun gh listed A X hI hcl hin hun hall hn HS=> ?_) ?_
       ·have E:=hI.tf hun hall vD;simp only [Reg.TF,vD,Reg.la,Reg.lb,Reg.lc] at E;have hX:=HS.bel;have HX:=j0 hX;clear hI hX
        go_simp
        exact Reg.GenH.s hn (HS.up (by decide) (Below.refl _ _))
      refine Reg.oH (fun gh listed A X hI hcl hin hun hall hn HS=> ?_) ?_
      ·have e87:A.tmps[87]? =some (.slice (some ⟨g,0,none⟩) L.length cap):=hI.v hall 19 87;have e88:A.tmps[88]? =some (.int .i64 (m:Int)):=hI.v hall 20 88;have hX:=HS.bel;have hml:=HML.out;have HX:=j0 hX;clear hI hX
       go_simp
       exact Reg.GenH.s hn (HS.up (by decide) (Below.refl _ _))
      refine Reg.oH (fun gh listed A X hI hcl hin hun hall hn HS=> ?_) ?_
      ·have e89:A.tmps[89]? =some (.pointer (some ⟨g,m*10,none⟩)):=hI.v hall 21 89;have hX:=HS.bel;have HX:=j0 hX;clear hI hX
       go_simp
       exact Reg.GenH.s hn (HS.up (by decide) (Below.refl _ _))
      refine Reg.oH (fun gh listed A X hI hcl hin hun hall hn HS=> ?_) ?_
      ·have e90:A.tmps[90]? =some (.pointer (some ⟨g,m*10+2,none⟩)):=hI.v hall 22 90;have hX:=HS.bel;have f:=(hX.cell (p:=⟨g,m*10+2,none⟩) HGL.out).trans H2.out;have HX:=j0 hX;clear hI hX
       go_simp
       exact Reg.GenH.s hn (HS.up (by decide) (Below.refl _ _))
      refine Reg.oH (fun gh listed A X hI hcl hin hun hall hn HS=> ?_) ?_
      ·have e72:A.tmps[72]? =some (.int .i64 t5.lo):=hI.v hall 4 72;have e77:A.tmps[77]? =some (.int .i64 t5.hi):=hI.v hall 9 77;have e82:A.tmps[82]? =some (.bool t5.lazy):=hI.v hall 14 82;have e84:A.tmps[84]? =some (.slice (some ⟨gh,0,none⟩) 1 1):=hI.v hall 16 84;have e86:A.tmps[86]? =some (.int .i64 (p0:Int)):=hI.v hall 18 86;have e91:A.tmps[91]? =some (.int .i64 (pe5:Int)):=hI.v hall 23 91;have hX:=HS.bel;have HX:=j0 hX;clear hI hX
       go_simp
       exact Reg.GenH.s hn (HS.up (by decide) (Below.refl _ _))
      refine Reg.oH (fun gh listed A X hI hcl hin hun hall hn HS=> ?_) ?_
      ·have e12:=hI.wo 12 rfl;have e92:A.tmps[92]? =some (.agg #[.int .i64 6,.int .u64 0,.int .u64 0,.int .u64 0,.int .u64 0,.int .i64 t5.lo,.int .i64 t5.hi,.bool t5.lazy,.slice (some ⟨gh,0,none⟩) 1 1,.int .i64 (p0:Int),.int .i64 (pe5:Int)]):=hI.v hall 24 92;have hX:=HS.bel;have hb:=(hX.block _ (jS HNN.out)).trans HNN.out;have y0:=jC hb 0;have y1:=jC hb 1;have y2:=jC hb 2;have y3:=jC hb 3;have y4:=jC hb 4;have y5:=jC hb 5;have y6:=jC hb 6;have y7:=jC hb 7;have y8:=jC hb 8;have y9:=jC hb 9;have y10:=jC hb 10;have z0:=jU hb 0;have z1:=jU hb 1;have z2:=jU hb 2;have z3:=jU hb 3;have z4:=jU hb 4;have z5:=jU hb 5;have z6:=jU hb 6;have z7:=jU hb 7;have z8:=jU hb 8;have z9:=jU hb 9;have z10:=jU hb 10;have hyl:=jS hb;simp only [Reg.la,Reg.lb,Reg.lc] at y0 y1 y2 y3 y4 y5 y6 y7 y8 y9 y10;clear hb;have HX:=j0 hX;clear hI hX
       go_simp
       exact Reg.GenH.put hin rfl ⟨X,HX.out,HS.row (Reg.closed_reach hcl 60 24 16 (by kernel_rfl) (hall ⟨24,.data⟩ (by simp) rfl)),rfl⟩
      trivial
     ·intro gh WM hS;obtain⟨X0,hX0,⟨hr1,hr2⟩,hX1⟩:=hS.done (by rfl);clear hS;have hnl:WN.heap.size<=X0.heap.size:=hX0.size;have hnb:=jS HNN.out;have hszn:=HBN.out.size;have HNN2:=j0 (Kc ((hX0.block _ (jS HNN.out)).trans HNN.out) (.int .i64 6) (.int .u64 0) (.int .u64 0) (.int .u64 0) (.int .u64 0) (.int .i64 t5.lo) (.int .i64 t5.hi) (.bool t5.lazy) (.slice (some ⟨gh,0,none⟩) 1 1) (.int .i64 (p0:Int)) (.int .i64 (pe5:Int)));have HBN2:=j0 (qV (HBN.out.trans (hX0.mono HBN.out.size)) (b:=(wr.heap.size+1)) (Nat.le_succ _) (.int .i64 6) (.int .u64 0) (.int .u64 0) (.int .u64 0) (.int .u64 0) (.int .i64 t5.lo) (.int .i64 t5.hi) (.bool t5.lazy) (.slice (some ⟨gh,0,none⟩) 1 1) (.int .i64 (p0:Int)) (.int .i64 (pe5:Int)));have HRN2:=j0 ((((YH 6 j7 t5.lo t5.hi t5.lazy p0 pe5 ((HRN.out.up hX0).mono (A':=fun b=>wr.heap.size<=b/\b≠(wr.heap.size+1)) (fun b _ hb=>hb)) hr1 ⟨by omega,by omega⟩)).keep (vR X0 (wr.heap.size+1) (.int .i64 6) (.int .u64 0) (.int .u64 0) (.int .u64 0) (.int .u64 0) (.int .i64 t5.lo) (.int .i64 t5.hi) (.bool t5.lazy) (.slice (some ⟨gh,0,none⟩) 1 1) (.int .i64 (p0:Int)) (.int .i64 (pe5:Int))) (fun b hb e=>by injection e with e;exact hb.2 e.symm)));rw [<-hX1] at HNN2 HBN2 HRN2;clear hX0 hr1 hr2 hX1 hnl hnb hszn HNN HBN HRN;simp [Reg.finalTmps,Reg.dstAt,Reg.valOf,Ka];have HNN:=HNN2;have HBN:=HBN2;have HRN:=HRN2;clear HNN2 HBN2 HRN2
      go_upto_region 14 with fail
      have y0:=jC HNN.out 0;have y1:=jC HNN.out 1;have y2:=jC HNN.out 2;have y3:=jC HNN.out 3;have y4:=jC HNN.out 4;have y5:=jC HNN.out 5;have y6:=jC HNN.out 6;have y7:=jC HNN.out 7;have y8:=jC HNN.out 8;have y9:=jC HNN.out 9;have y10:=jC HNN.out 10;have hyl:=jS HNN.out;simp only [Reg.la,Reg.lb,Reg.lc] at y0 y1 y2 y3 y4 y5 y6 y7 y8 y9 y10;have HG2:Hid (yd W0.heap.size l1 us _ WM):=j0 (HG.out.below HBN.out);have HB2:Hid (Below W0.heap.size W0 WM):=j0 (HB.out.trans (HBN.out.mono HB.out.size));have hsz2:=HB2.out.size;have HRZ:=j0 (HRN.out.mono (A':=fun b=>wr.heap.size<=b) (fun _ _ hb=>hb.1));clear HNN HRN HBN
      go_wp2_with (at_builtin;go_must (refine wpList_append_own_at _ rfl (.tmp 95) (.tmp 97) 48 rfl W0.heap.size 50 i0 (.agg #[.int .i64 0,.int .u64 0,.int .u64 0,.int .u64 0,.int .u64 0,.int .i64 0,.int .i64 0,.bool false,.slice none 0 0,.int .i64 0,.int .i64 0]) 11 104 Tryz.underlying48 hif hy0 hy1 hy2 rfl (by decide) _ l1.length (rnRow l1 us) rfl (kt HG2.out.own _) ⟨_,0,none⟩ 1 1 (Jm (.mk 6 j7 t5.lo t5.hi t5.lazy p0 pe5 [.mk k' s' lo' hi' z' p0 b' l']) (.slice (some ⟨gh,0,none⟩) 1 1)) rfl rfl (qZ _ _ 6 j7 t5.lo t5.hi t5.lazy p0 pe5 [.mk k' s' lo' hi' z' p0 b' l'] _ _ (by simp)) (xz _ _ _ _) (by unfold maxLen;omega) (by omega) (by simp;omega) ?_;intro v4 w4 ho hg4 _ hat;have HG4:=j0 (HG2.out.add (lo:=wr.heap.size) HLO.out hszr HRZ.out ho hg4 hat);have HB4:=j0 ((HB2.out.alloc hsz2 _).grown hg4 (by simp;omega) (fun b hb=>(kl HG2.out.own hb).1));clear ho hg4 hat))
      clear HG2 HB2 HLO HRZ
      go_wp2_with fail
      go_roundw
      case rel=>exact⟨m+1,l1++ [_],r,us++ [_],by omega,by omega,by simp;omega,by go_num,HT2,HN,HG4,HB4⟩
      case measure=>first|(simp [intOf];omega)|simp [intOf]
   |group mm kk u1 hk2 hi hj h1 hc=>
    have hmm:=qT _ h1;have hmL:=qq hj (by decide);obtain⟨k',s',lo',hi',z',a',b',l'⟩:=u1;have hsz:jc (.mk k' s' lo' hi' z' a' b' l')<jc t:=by have h:=Z8 (t:=t) (u:=u) (by rw [HT2.out];simp);simp only [jc,jz] at hle ⊢;omega
    have HAL:=j0 (HCC.out (.mk k' s' lo' hi' z' a' b' l') (k+1) mm hsz h1);have HCL:=j0 (fun(X:World) (hX:qK X (.slice (some ⟨g,0,none⟩) L.length cap) L)=>YR (k+1) (by omega) hlen X hX);rw [hc] at HCL;rw [show((k+1:Nat):Int)=(k:Int)+1 by omega] at HCL HAL;simp only [clI] at HCL;obtain⟨g2,cap2,hv2,hg2,d0,d1,d2,_⟩:=(HA.out.below HBW.out).get (i:=mm) hmL size;injection hv2 with hv3 _ hv4;injection hv3 with hv3;injection hv3 with hv3;subst hv3 hv4
    have HADM:Hid (enR L mm=ki L size (mm+1)):=j0 (by
     obtain⟨x,hx⟩:∃x,L[mm]? =some x:=⟨_,List.getElem?_eq_getElem hmL⟩;unfold enR;rw [hx]
     exact HADJ.out mm x hx)
    rw [HADM.out] at d2;rw [hi] at c0;obtain⟨q,hq⟩:∃q,q=kk-1:=⟨_,rfl⟩;rw [<-hq] at c0;have hq0:((q:Int) !=0)=true:=by simp;omega
    have hq1:((q:Int)==0)=false:=by simp;omega
    have HWQ:Hid (IntKind.i64.wrap (1+q)=kk):=j0 (by rcases hk2 with h|h<;>(subst h;subst hq;rfl));obtain⟨e0,he0⟩:∃q,q=enR L k:=⟨_,rfl⟩;obtain⟨p0,hp0⟩:∃q,q=ki L size k:=⟨_,rfl⟩;obtain⟨pe,hpe⟩:∃q,q=ki L size (mm+1):=⟨_,rfl⟩;obtain⟨tk,htk⟩:∃q,q=xv L k:=⟨_,rfl⟩;rw [<-he0] at c2;rw [<-hp0] at c1;rw [<-htk] at c3 c4 c5 c6 c7 c8 c9;rw [<-hpe] at d2;rw [<-hp0,<-hpe] at hD;have HD:=j0 hD;have HD2:=j0 d2;have HGW:=j0 hg;have HMM:=j0 hmm;have HML0:=j0 hmL;clear hq he0 hp0 hpe htk HADK HADM d0 d1 d2 hg2 hk2 hi hj h1 hc hsz hmm hD hle;have hszr:=HB.out.size;have HLO:=j0 (fun b hb=>(kl HG.out.own (g:=b) hb).2)
    go_upto_region 8 with fail
    obtain⟨W2,hW2⟩:∃X,X=(wr.alloc (.cells #[.int .i64 q,.int .i64 (p0:Int),.int .i64 (e0:Int),.int .u64 tk.set.a,.int .u64 tk.set.b,.int .u64 tk.set.c,.int .u64 tk.set.d,.int .i64 tk.lo,.int .i64 tk.hi,.bool tk.lazy] 176)).alloc (.cells #[.int .i64 1,.int .u64 tk.set.a,.int .u64 tk.set.b,.int .u64 tk.set.c,.int .u64 tk.set.d,.int .i64 0,.int .i64 0,.bool false,.slice none 0 0,.int .i64 (p0:Int),.int .i64 (e0:Int)] 50):=⟨_,rfl⟩;have HB2:Hid (Below wr.heap.size wr W2):=j0 (by rw [hW2];exact kw wr _ _);have HSZ2:Hid (W2.heap.size=wr.heap.size+2):=j0 (by rw [hW2,World.size_alloc,World.size_alloc]);have HN2:Hid (W2.heap[(wr.heap.size+1)]? =some (.cells #[.int .i64 1,.int .u64 tk.set.a,.int .u64 tk.set.b,.int .u64 tk.set.c,.int .u64 tk.set.d,.int .i64 0,.int .i64 0,.bool false,.slice none 0 0,.int .i64 (p0:Int),.int .i64 (e0:Int)] 50)):=j0 (by have h:=j1 (wr.alloc (.cells #[.int .i64 q,.int .i64 (p0:Int),.int .i64 (e0:Int),.int .u64 tk.set.a,.int .u64 tk.set.b,.int .u64 tk.set.c,.int .u64 tk.set.d,.int .i64 tk.lo,.int .i64 tk.hi,.bool tk.lazy] 176)) (.cells #[.int .i64 1,.int .u64 tk.set.a,.int .u64 tk.set.b,.int .u64 tk.set.c,.int .u64 tk.set.d,.int .i64 0,.int .i64 0,.bool false,.slice none 0 0,.int .i64 (p0:Int),.int .i64 (e0:Int)] 50);rw [World.size_alloc] at h;rw [hW2];exact h);have HTK:Hid (W2.heap[wr.heap.size]? =some (.cells #[.int .i64 q,.int .i64 (p0:Int),.int .i64 (e0:Int),.int .u64 tk.set.a,.int .u64 tk.set.b,.int .u64 tk.set.c,.int .u64 tk.set.d,.int .i64 tk.lo,.int .i64 tk.hi,.bool tk.lazy] 176)):=j0 (by rw [hW2];exact j4 (j3 _ _) (j1 wr (.cells #[.int .i64 q,.int .i64 (p0:Int),.int .i64 (e0:Int),.int .u64 tk.set.a,.int .u64 tk.set.b,.int .u64 tk.set.c,.int .u64 tk.set.d,.int .i64 tk.lo,.int .i64 tk.hi,.bool tk.lazy] 176)));have HA2:Hid (qK W2 (.slice (some ⟨g,0,none⟩) L.length cap) L):=j0 ((HA.out.below HBW.out).below HB2.out);change Code.wp _ _ _ _ ((wr.alloc (.cells #[.int .i64 q,.int .i64 (p0:Int),.int .i64 (e0:Int),.int .u64 tk.set.a,.int .u64 tk.set.b,.int .u64 tk.set.c,.int .u64 tk.set.d,.int .i64 tk.lo,.int .i64 tk.hi,.bool tk.lazy] 176)).alloc (.cells #[.int .i64 1,.int .u64 tk.set.a,.int .u64 tk.set.b,.int .u64 tk.set.c,.int .u64 tk.set.d,.int .i64 0,.int .i64 0,.bool false,.slice none 0 0,.int .i64 (p0:Int),.int .i64 (e0:Int)] 50));rw [<-hW2];clear hW2 c0 c1 c2 c3 c4 c5 c6 c7 c8 c9 hq0 hq1
    go_wp2_with fail
    refine(HCL.out W2 HA2.out).mono ?_;rintro e w1 ⟨rfl,hw⟩;obtain rfl:W2=w1:=hw.symm;clear hw HCL
    go_upto_region 9 with fail
    refine Reg.wp_region_H (Kn wr.heap.size g L.length cap mm size p0 pe ((k:Int)+1) q kk k' s' lo' hi' z' a' b') (Reg.GenH 17 (CgS W2 (.mk k' s' lo' hi' z' a' b' l')) (fun gh X=>∃X0,Below W2.heap.size W2 X0/\kU X0 (fun b=>W2.heap.size<=b) (.mk k' s' lo' hi' z' a' b' l') (.slice gh.1.1 gh.1.2.1 gh.1.2.2)/\(X0.heap[gh.2]? =some (Obj.cells #[.int .i64 k',.int .u64 s'.a,.int .u64 s'.b,.int .u64 s'.c,.int .u64 s'.d,.int .i64 lo',.int .i64 hi',.bool z',(.slice gh.1.1 gh.1.2.1 gh.1.2.2),.int .i64 (a':Int),.int .i64 (b':Int)] 50)/\W2.heap.size<=gh.2)/\X=yX X0 (wr.heap.size+1) (.int .i64 kk) (.int .u64 0) (.int .u64 0) (.int .u64 0) (.int .u64 0) (.int .i64 0) (.int .i64 0) (.bool false) (.slice (some ⟨gh.2,0,none⟩) 1 1) (.int .i64 (p0:Int)) (.int .i64 (pe:Int)))) ((none,0,0),0) [0,1,2,3,4,5,6,7,8,9,10,11,12,13,14,15,16,17] (by rfl) (by kernel_rfl) (by kernel_rfl) ?_ ?_ ?_
    ·exact Reg.GenH.start ⟨Below.drew (Below.refl _ _),fun e=>by simp at e,fun e=>by simp at e⟩
    ·refine Reg.oH (fun gh listed A X hI hcl hin hun hall hn HS=> ?_) ?_
     ·have e11:=hI.wo 11 rfl;have hX:=HS.bel;have hyl:=jS ((hX.block _ (jS HTK.out)).trans HTK.out);have HX:=j0 hX;clear hI hX
      go_simp
      exact Reg.GenH.s hn (HS.up (by decide) (by decide) (Below.refl _ _))
     refine Reg.oH (fun gh listed A X hI hcl hin hun hall hn HS=> ?_) ?_
     ·have e38:A.tmps[38]? =some (.pointer (some ⟨wr.heap.size,0,none⟩)):=hI.v hall 0 38;have hX:=HS.bel;have hb:=(hX.block _ (jS HTK.out)).trans HTK.out;have y0:=jC hb 0;have y1:=jC hb 1;have y2:=jC hb 2;have y3:=jC hb 3;have y4:=jC hb 4;have y5:=jC hb 5;have y6:=jC hb 6;have y7:=jC hb 7;have y8:=jC hb 8;have y9:=jC hb 9;have hyl:=jS hb;simp only [Reg.la,Reg.lb,Reg.lc] at y0 y1 y2 y3 y4 y5 y6 y7 y8 y9;clear hb;have HX:=j0 hX;clear hI hX
      go_simp
      exact Reg.GenH.s hn (HS.up (by decide) (by decide) (Below.refl _ _))
     refine Reg.oH (fun gh listed A X hI hcl hin hun hall hn HS=> ?_) ?_
     ·have e39:A.tmps[39]? =some (.int .i64 q):=hI.v hall 1 39;have hX:=HS.bel;have wq:=HWQ.out;have HX:=j0 hX;clear hI hX
      go_simp
      exact Reg.GenH.s hn (HS.up (by decide) (by decide) (Below.refl _ _))
     iterate 4
      refine Reg.oH (fun gh listed A X hI hcl hin hun hall hn HS=> ?_) ?_
      ·have E:=hI.tf hun hall JI;simp only [Reg.TF,JI,Reg.la,Reg.lb,Reg.lc] at E;have hX:=HS.bel;have HX:=j0 hX;clear hI hX
       go_simp
       exact Reg.GenH.s hn (HS.up (by decide) (by decide) (Below.refl _ _))
     refine Reg.oH (fun gh listed A X hI hcl hin hun hall hn HS=> ?_) ?_
     ·have e41:A.tmps[41]? =some (.slice (some ⟨g,0,none⟩) L.length cap):=hI.v hall 3 41;have e42:A.tmps[42]? =some (.int .i64 ((k:Int)+1)):=hI.v hall 4 42;have e43:A.tmps[43]? =some (.int .i64 (mm:Int)):=hI.v hall 5 43;have e44:A.tmps[44]? =some (.int .i64 (size:Int)):=hI.v hall 6 44;have hX:=HS.bel;have HX:=j0 hX;clear hI hX
      go_simp
      refine(HAL.out X (HA2.out.below HX.out)).mono fun e w'' ⟨lv,he,hrn,hb⟩=> ?_
      obtain⟨pp,n',cp,rfl⟩:=hrn.slice;exact⟨_,he,Reg.GenH.step (g':=((pp,n',cp),gh.2)) hn (by decide) (fun j hj=>XU (fun e=>by rw [e] at hj;rw [hj] at hun;cases hun)) rfl (HS.called (Reg.un_of_reach hcl (n:=8) (by kernel_rfl) hun) hb hrn)⟩
     refine Reg.oH (fun gh listed A X hI hcl hin hun hall hn HS=> ?_) ?_
     ·have e45:A.tmps[45]? =some (.agg #[.int .i64 k',.int .u64 s'.a,.int .u64 s'.b,.int .u64 s'.c,.int .u64 s'.d,.int .i64 lo',.int .i64 hi',.bool z',(.slice gh.1.1 gh.1.2.1 gh.1.2.2),.int .i64 (a':Int),.int .i64 (b':Int)]):=hI.v hall 7 45;have hX:=HS.bel;have HX:=j0 hX;clear hI hX
      go_simp
      exact Reg.GenH.step (g':=(gh.1,X.heap.size)) hn (by decide) (fun j hj=>Zt (fun e=>by rw [e] at hj;rw [hj] at hun;cases hun) (fun e=>by rw [e] at hj;rw [Reg.closed_reach hcl 60 16 8 (by kernel_rfl) hj] at hun;cases hun)) rfl (HS.made hin (hall ⟨7,.data⟩ (by simp) rfl))
     refine Reg.oH (fun gh listed A X hI hcl hin hun hall hn HS=> ?_) ?_
     ·have e11:=hI.wo 11 rfl;have hX:=HS.bel;have hyl:=jS ((hX.block _ (jS HTK.out)).trans HTK.out);have HX:=j0 hX;clear hI hX
      go_simp
      exact Reg.GenH.s hn (HS.up (by decide) (by decide) (Below.refl _ _))
     refine Reg.oH (fun gh listed A X hI hcl hin hun hall hn HS=> ?_) ?_
     ·have e47:A.tmps[47]? =some (.pointer (some ⟨wr.heap.size,1,none⟩)):=hI.v hall 9 47;have hX:=HS.bel;have hb:=(hX.block _ (jS HTK.out)).trans HTK.out;have y0:=jC hb 0;have y1:=jC hb 1;have y2:=jC hb 2;have y3:=jC hb 3;have y4:=jC hb 4;have y5:=jC hb 5;have y6:=jC hb 6;have y7:=jC hb 7;have y8:=jC hb 8;have y9:=jC hb 9;have hyl:=jS hb;simp only [Reg.la,Reg.lb,Reg.lc] at y0 y1 y2 y3 y4 y5 y6 y7 y8 y9;clear hb;have HX:=j0 hX;clear hI hX
      go_simp
      exact Reg.GenH.s hn (HS.up (by decide) (by decide) (Below.refl _ _))
     iterate 2
      refine Reg.oH (fun gh listed A X hI hcl hin hun hall hn HS=> ?_) ?_
      ·have E:=hI.tf hun hall JI;simp only [Reg.TF,JI,Reg.la,Reg.lb,Reg.lc] at E;have hX:=HS.bel;have HX:=j0 hX;clear hI hX
       go_simp
       exact Reg.GenH.s hn (HS.up (by decide) (by decide) (Below.refl _ _))
     refine Reg.oH (fun gh listed A X hI hcl hin hun hall hn HS=> ?_) ?_
     ·have e49:A.tmps[49]? =some (.slice (some ⟨g,0,none⟩) L.length cap):=hI.v hall 11 49;have e50:A.tmps[50]? =some (.int .i64 (mm:Int)):=hI.v hall 12 50;have hX:=HS.bel;have hml:=HML0.out;have HX:=j0 hX;clear hI hX
      go_simp
      exact Reg.GenH.s hn (HS.up (by decide) (by decide) (Below.refl _ _))
     refine Reg.oH (fun gh listed A X hI hcl hin hun hall hn HS=> ?_) ?_
     ·have e51:A.tmps[51]? =some (.pointer (some ⟨g,mm*10,none⟩)):=hI.v hall 13 51;have hX:=HS.bel;have HX:=j0 hX;clear hI hX
      go_simp
      exact Reg.GenH.s hn (HS.up (by decide) (by decide) (Below.refl _ _))
     refine Reg.oH (fun gh listed A X hI hcl hin hun hall hn HS=> ?_) ?_
     ·have e52:A.tmps[52]? =some (.pointer (some ⟨g,mm*10+2,none⟩)):=hI.v hall 14 52;have hX:=HS.bel;have f:=(hX.cell (p:=⟨g,mm*10+2,none⟩) (Nat.lt_of_lt_of_le HGW.out HB2.out.size)).trans ((HB2.out.cell (p:=⟨g,mm*10+2,none⟩) HGW.out).trans HD2.out);have HX:=j0 hX;clear hI hX
      go_simp
      exact Reg.GenH.s hn (HS.up (by decide) (by decide) (Below.refl _ _))
     refine Reg.oH (fun gh listed A X hI hcl hin hun hall hn HS=> ?_) ?_
     ·have e40:A.tmps[40]? =some (.int .i64 kk):=hI.v hall 2 40;have e46:A.tmps[46]? =some (.slice (some ⟨gh.2,0,none⟩) 1 1):=hI.v hall 8 46;have e48:A.tmps[48]? =some (.int .i64 (p0:Int)):=hI.v hall 10 48;have e53:A.tmps[53]? =some (.int .i64 (pe:Int)):=hI.v hall 15 53;have hX:=HS.bel;have HX:=j0 hX;clear hI hX
      go_simp
      exact Reg.GenH.s hn (HS.up (by decide) (by decide) (Below.refl _ _))
     refine Reg.oH (fun gh listed A X hI hcl hin hun hall hn HS=> ?_) ?_
     ·have e12:=hI.wo 12 rfl;have e54:A.tmps[54]? =some (.agg #[.int .i64 kk,.int .u64 0,.int .u64 0,.int .u64 0,.int .u64 0,.int .i64 0,.int .i64 0,.bool false,.slice (some ⟨gh.2,0,none⟩) 1 1,.int .i64 (p0:Int),.int .i64 (pe:Int)]):=hI.v hall 16 54;have hX:=HS.bel;have hb:=(hX.block _ (jS HN2.out)).trans HN2.out;have y0:=jC hb 0;have y1:=jC hb 1;have y2:=jC hb 2;have y3:=jC hb 3;have y4:=jC hb 4;have y5:=jC hb 5;have y6:=jC hb 6;have y7:=jC hb 7;have y8:=jC hb 8;have y9:=jC hb 9;have y10:=jC hb 10;have z0:=jU hb 0;have z1:=jU hb 1;have z2:=jU hb 2;have z3:=jU hb 3;have z4:=jU hb 4;have z5:=jU hb 5;have z6:=jU hb 6;have z7:=jU hb 7;have z8:=jU hb 8;have z9:=jU hb 9;have z10:=jU hb 10;have hyl:=jS hb;simp only [Reg.la,Reg.lb,Reg.lc] at y0 y1 y2 y3 y4 y5 y6 y7 y8 y9 y10;clear hb;have HX:=j0 hX;clear hI hX
      go_simp
      exact Reg.GenH.put hin rfl ⟨X,HX.out,HS.call (Reg.closed_reach hcl 60 16 7 (by kernel_rfl) (hall ⟨16,.data⟩ (by simp) rfl)),HS.row (Reg.closed_reach hcl 60 16 8 (by kernel_rfl) (hall ⟨16,.data⟩ (by simp) rfl)),rfl⟩
     trivial
    ·intro gh WN hS;obtain⟨⟨p1,n1,c1⟩,cc⟩:=gh;obtain⟨X0,hX0,hru,⟨hr1,hr2⟩,hX1⟩:=hS.done (by rfl);clear hS;dsimp only at hru hr1 hr2 hX1;have hz:=HSZ2.out;have HNN:=j0 (Kc ((hX0.block _ (jS HN2.out)).trans HN2.out) (.int .i64 kk) (.int .u64 0) (.int .u64 0) (.int .u64 0) (.int .u64 0) (.int .i64 0) (.int .i64 0) (.bool false) (.slice (some ⟨cc,0,none⟩) 1 1) (.int .i64 (p0:Int)) (.int .i64 (pe:Int)));have HBN:=j0 (qV (HB2.out.trans (hX0.mono HB2.out.size)) (b:=(wr.heap.size+1)) (Nat.le_succ _) (.int .i64 kk) (.int .u64 0) (.int .u64 0) (.int .u64 0) (.int .u64 0) (.int .i64 0) (.int .i64 0) (.bool false) (.slice (some ⟨cc,0,none⟩) 1 1) (.int .i64 (p0:Int)) (.int .i64 (pe:Int)));have HRN:=j0 ((YH kk j7 0 0 false p0 pe (hru.mono (A':=fun b=>wr.heap.size<=b/\b≠(wr.heap.size+1)) (fun b _ hb=>⟨by omega,by omega⟩)) hr1 ⟨by omega,by omega⟩).keep (vR X0 (wr.heap.size+1) (.int .i64 kk) (.int .u64 0) (.int .u64 0) (.int .u64 0) (.int .u64 0) (.int .i64 0) (.int .i64 0) (.bool false) (.slice (some ⟨cc,0,none⟩) 1 1) (.int .i64 (p0:Int)) (.int .i64 (pe:Int))) (fun b hb e=>by injection e with e;exact hb.2 e.symm));rw [<-hX1] at HNN HBN HRN;clear hX0 hru hr1 hr2 hX1 hz HB2 HN2 HTK HA2 HAL HWQ HSZ2 HD2;simp [Reg.finalTmps,Reg.dstAt,Reg.valOf,Kn]
     go_upto_region 11 with fail
     rcases HD.out with ⟨rfl,rfl⟩|⟨hj5,rfl,rfl⟩
     ·clear HD;obtain⟨m,hm⟩:∃q,q=mm+1:=⟨_,rfl⟩;rw [<-hm] at hmj HN HNX;have hmk:k<m:=by have:=HMM.out;omega
      have HMI:Hid ((m:Int)=((mm:Int)+1)):=j0 (by omega);rw [<-HMI.out];clear hm HML0 HMM hmL;have HGL:=j0 (Nat.lt_of_lt_of_le HGW.out HBN.out.size)
      by_cases hk1:m<j
      ·have hne:=HNX.out hk1;obtain⟨g5,cap5,hv5,hg5,f0,_⟩:=(HA.out.below (HBW.out.trans (HBN.out.mono HBW.out.size))).get (i:=m) (by omega) size;injection hv5 with hv6 _ hv7;injection hv6 with hv6;injection hv6 with hv6;subst hv6 hv7;generalize jR L m=k5 at*;have b5:((k5:Int)==5)=false:=by simpa using hne
       clear hne HNX
       go_upto_region 14 with fail
       have y0:=jC HNN.out 0;have y1:=jC HNN.out 1;have y2:=jC HNN.out 2;have y3:=jC HNN.out 3;have y4:=jC HNN.out 4;have y5:=jC HNN.out 5;have y6:=jC HNN.out 6;have y7:=jC HNN.out 7;have y8:=jC HNN.out 8;have y9:=jC HNN.out 9;have y10:=jC HNN.out 10;have hyl:=jS HNN.out;simp only [Reg.la,Reg.lb,Reg.lc] at y0 y1 y2 y3 y4 y5 y6 y7 y8 y9 y10;have HG2:Hid (yd W0.heap.size l1 us _ WN):=j0 (HG.out.below HBN.out);have HB2:Hid (Below W0.heap.size W0 WN):=j0 (HB.out.trans (HBN.out.mono HB.out.size));have hsz2:=HB2.out.size;have HRZ:=j0 (HRN.out.mono (A':=fun b=>wr.heap.size<=b) (fun _ _ hb=>hb.1));clear HNN HRN HBN
       go_wp2_with (at_builtin;go_must (refine wpList_append_own_at _ rfl (.tmp 95) (.tmp 97) 48 rfl W0.heap.size 50 i0 (.agg #[.int .i64 0,.int .u64 0,.int .u64 0,.int .u64 0,.int .u64 0,.int .i64 0,.int .i64 0,.bool false,.slice none 0 0,.int .i64 0,.int .i64 0]) 11 104 Tryz.underlying48 hif hy0 hy1 hy2 rfl (by decide) _ l1.length (rnRow l1 us) rfl (kt HG2.out.own _) ⟨_,0,none⟩ 1 1 (Jm (.mk kk j7 0 0 false p0 pe [(.mk k' s' lo' hi' z' a' b' l')]) (.slice (some ⟨cc,0,none⟩) 1 1)) rfl rfl (qZ _ _ kk j7 0 0 false p0 pe [(.mk k' s' lo' hi' z' a' b' l')] _ _ (by simp)) (xz _ _ _ _) (by unfold maxLen;omega) (by omega) (by simp;omega) ?_;intro v4 w4 ho hg4 _ hat;have HG4:=j0 (HG2.out.add (lo:=wr.heap.size) HLO.out hszr HRZ.out ho hg4 hat);have HB4:=j0 ((HB2.out.alloc hsz2 _).grown hg4 (by simp;omega) (fun b hb=>(kl HG2.out.own hb).1));clear ho hg4 hat))
       clear HG2 HB2 HLO HRZ
       go_wp2_with fail
       go_roundw
       case rel=>exact⟨m,l1++ [_],r,us++ [_],by omega,by omega,by simp;omega,by go_num,HT2,HN,HG4,HB4⟩
       case measure=>first|(simp [intOf];omega)|simp [intOf]
      ·clear HNX
       go_upto_region 14 with fail
       have y0:=jC HNN.out 0;have y1:=jC HNN.out 1;have y2:=jC HNN.out 2;have y3:=jC HNN.out 3;have y4:=jC HNN.out 4;have y5:=jC HNN.out 5;have y6:=jC HNN.out 6;have y7:=jC HNN.out 7;have y8:=jC HNN.out 8;have y9:=jC HNN.out 9;have y10:=jC HNN.out 10;have hyl:=jS HNN.out;simp only [Reg.la,Reg.lb,Reg.lc] at y0 y1 y2 y3 y4 y5 y6 y7 y8 y9 y10;have HG2:Hid (yd W0.heap.size l1 us _ WN):=j0 (HG.out.below HBN.out);have HB2:Hid (Below W0.heap.size W0 WN):=j0 (HB.out.trans (HBN.out.mono HB.out.size));have hsz2:=HB2.out.size;have HRZ:=j0 (HRN.out.mono (A':=fun b=>wr.heap.size<=b) (fun _ _ hb=>hb.1));clear HNN HRN HBN
       go_wp2_with (at_builtin;go_must (refine wpList_append_own_at _ rfl (.tmp 95) (.tmp 97) 48 rfl W0.heap.size 50 i0 (.agg #[.int .i64 0,.int .u64 0,.int .u64 0,.int .u64 0,.int .u64 0,.int .i64 0,.int .i64 0,.bool false,.slice none 0 0,.int .i64 0,.int .i64 0]) 11 104 Tryz.underlying48 hif hy0 hy1 hy2 rfl (by decide) _ l1.length (rnRow l1 us) rfl (kt HG2.out.own _) ⟨_,0,none⟩ 1 1 (Jm (.mk kk j7 0 0 false p0 pe [(.mk k' s' lo' hi' z' a' b' l')]) (.slice (some ⟨cc,0,none⟩) 1 1)) rfl rfl (qZ _ _ kk j7 0 0 false p0 pe [(.mk k' s' lo' hi' z' a' b' l')] _ _ (by simp)) (xz _ _ _ _) (by unfold maxLen;omega) (by omega) (by simp;omega) ?_;intro v4 w4 ho hg4 _ hat;have HG4:=j0 (HG2.out.add (lo:=wr.heap.size) HLO.out hszr HRZ.out ho hg4 hat);have HB4:=j0 ((HB2.out.alloc hsz2 _).grown hg4 (by simp;omega) (fun b hb=>(kl HG2.out.own hb).1));clear ho hg4 hat))
       clear HG2 HB2 HLO HRZ
       go_wp2_with fail
       go_roundw
       case rel=>exact⟨m,l1++ [_],r,us++ [_],by omega,by omega,by simp;omega,by go_num,HT2,HN,HG4,HB4⟩
       case measure=>first|(simp [intOf];omega)|simp [intOf]
     ·clear HD;have hmk0:=HMM.out;obtain⟨UU,hUU⟩:∃x,x=(Tr.mk k' s' lo' hi' z' a' b' l'):=⟨_,rfl⟩;rw [<-hUU] at HT2 HRN;clear hUU;obtain⟨k',s',lo',hi',z',b',l',pp,n',cp,hTT,HNN,HRN⟩:∃k' s' lo' hi' z' b' l' pp n' cp,Tr.mk kk j7 0 0 false p0 pe [UU]=.mk k' s' lo' hi' z' p0 b' l'/\Hid (WN.heap[(wr.heap.size+1)]? =some (.cells #[.int .i64 k',.int .u64 s'.a,.int .u64 s'.b,.int .u64 s'.c,.int .u64 s'.d,.int .i64 lo',.int .i64 hi',.bool z',(.slice pp n' cp),.int .i64 (p0:Int),.int .i64 (b':Int)] 50))/\Hid (kU WN (fun b=>wr.heap.size<=b/\b≠(wr.heap.size+1)) (.mk k' s' lo' hi' z' p0 b' l') (.slice pp n' cp)):=⟨_,_,_,_,_,_,_,_,_,_,rfl,HNN,HRN⟩;rw [hTT] at HT2;clear hTT;have hmL5:=qq hj5 (by decide);obtain⟨g5,cap5,hv5,hg5,f0,_,f2,_,f7,f8,f9⟩:=(HA.out.below (HBW.out.trans (HBN.out.mono HBW.out.size))).get (i:=mm+1) hmL5 size;injection hv5 with hv6 _ hv7;injection hv6 with hv6;injection hv6 with hv6;subst hv6 hv7
      have HADM:Hid (enR L (mm+1)=ki L size (mm+1+1)):=j0 (by
       obtain⟨x,hx⟩:∃x,L[mm+1]? =some x:=⟨_,List.getElem?_eq_getElem hmL5⟩;unfold enR;rw [hx]
       exact HADJ.out (mm+1) x hx)
      rw [HADM.out] at f2;rw [hj5] at f0;obtain⟨pe5,hpe⟩:∃q,q=ki L size (mm+1+1):=⟨_,rfl⟩;obtain⟨t5,ht5⟩:∃q,q=xv L (mm+1):=⟨_,rfl⟩;rw [<-hpe] at f2;rw [<-ht5] at f7 f8 f9;rw [<-hpe,<-ht5] at HT2;clear hpe ht5 HADM;obtain⟨m,hm⟩:∃q,q=mm+1:=⟨_,rfl⟩;rw [<-hm] at hmL5 f0 f2 f7 f8 f9 hmj HN;have HML:=j0 hmL5;have HGL:=j0 hg5;have H2:=j0 f2;have H7:=j0 f7;have H8:=j0 f8;have H9:=j0 f9;have hmk:k<m:=by omega
      have HMI:Hid ((m:Int)=((mm:Int)+1)):=j0 (by omega);rw [<-HMI.out];clear hm HNX hj5 HML0 HMM hmL hmk0
      go_upto_region 12 with fail
      refine Reg.wp_region_H (Ka (wr.heap.size+1) g L.length cap m pe5 t5 k' s' lo' hi' z' p0 b' pp n' cp) (Reg.GenH 25 (Y7 WN 16 (.cells #[.int .i64 k',.int .u64 s'.a,.int .u64 s'.b,.int .u64 s'.c,.int .u64 s'.d,.int .i64 lo',.int .i64 hi',.bool z',(.slice pp n' cp),.int .i64 (p0:Int),.int .i64 (b':Int)] 50)) (fun gh X=>∃X0,Below WN.heap.size WN X0/\(X0.heap[gh]? =some (.cells #[.int .i64 k',.int .u64 s'.a,.int .u64 s'.b,.int .u64 s'.c,.int .u64 s'.d,.int .i64 lo',.int .i64 hi',.bool z',(.slice pp n' cp),.int .i64 (p0:Int),.int .i64 (b':Int)] 50)/\WN.heap.size<=gh)/\X=yX X0 (wr.heap.size+1) (.int .i64 6) (.int .u64 0) (.int .u64 0) (.int .u64 0) (.int .u64 0) (.int .i64 t5.lo) (.int .i64 t5.hi) (.bool t5.lazy) (.slice (some ⟨gh,0,none⟩) 1 1) (.int .i64 (p0:Int)) (.int .i64 (pe5:Int)))) 0 [0,1,2,3,4,5,6,7,8,9,10,11,12,13,14,15,16,17,18,19,20,21,22,23,24,25] (by rfl) (by kernel_rfl) (by kernel_rfl) ?_ ?_ ?_
      ·exact Reg.GenH.start ⟨Below.drew (Below.refl _ _),fun e=>by simp at e⟩
      ·iterate 2
        refine Reg.oH (fun gh listed A X hI hcl hin hun hall hn HS=> ?_) ?_
        ·have E:=hI.tf hun hall vC;simp only [Reg.TF,vC,Reg.la,Reg.lb,Reg.lc] at E;have hX:=HS.bel;have HX:=j0 hX;clear hI hX
         go_simp
         exact Reg.GenH.s hn (HS.up (by decide) (Below.refl _ _))
       refine Reg.oH (fun gh listed A X hI hcl hin hun hall hn HS=> ?_) ?_
       ·have e68:A.tmps[68]? =some (.slice (some ⟨g,0,none⟩) L.length cap):=hI.v hall 0 68;have e69:A.tmps[69]? =some (.int .i64 (m:Int)):=hI.v hall 1 69;have hX:=HS.bel;have hml:=HML.out;have HX:=j0 hX;clear hI hX
        go_simp
        exact Reg.GenH.s hn (HS.up (by decide) (Below.refl _ _))
       refine Reg.oH (fun gh listed A X hI hcl hin hun hall hn HS=> ?_) ?_
       ·have e70:A.tmps[70]? =some (.pointer (some ⟨g,m*10,none⟩)):=hI.v hall 2 70;have hX:=HS.bel;have HX:=j0 hX;clear hI hX
        go_simp
        exact Reg.GenH.s hn (HS.up (by decide) (Below.refl _ _))
       refine Reg.oH (fun gh listed A X hI hcl hin hun hall hn HS=> ?_) ?_
       ·have e71:A.tmps[71]? =some (.pointer (some ⟨g,m*10+7,none⟩)):=hI.v hall 3 71;have hX:=HS.bel;have f:=(hX.cell (p:=⟨g,m*10+7,none⟩) HGL.out).trans H7.out;have HX:=j0 hX;clear hI hX
        go_simp
        exact Reg.GenH.s hn (HS.up (by decide) (Below.refl _ _))
       iterate 2
        refine Reg.oH (fun gh listed A X hI hcl hin hun hall hn HS=> ?_) ?_
        ·have E:=hI.tf hun hall vC;simp only [Reg.TF,vC,Reg.la,Reg.lb,Reg.lc] at E;have hX:=HS.bel;have HX:=j0 hX;clear hI hX
         go_simp
         exact Reg.GenH.s hn (HS.up (by decide) (Below.refl _ _))
       refine Reg.oH (fun gh listed A X hI hcl hin hun hall hn HS=> ?_) ?_
       ·have e73:A.tmps[73]? =some (.slice (some ⟨g,0,none⟩) L.length cap):=hI.v hall 5 73;have e74:A.tmps[74]? =some (.int .i64 (m:Int)):=hI.v hall 6 74;have hX:=HS.bel;have hml:=HML.out;have HX:=j0 hX;clear hI hX
        go_simp
        exact Reg.GenH.s hn (HS.up (by decide) (Below.refl _ _))
       refine Reg.oH (fun gh listed A X hI hcl hin hun hall hn HS=> ?_) ?_
       ·have e75:A.tmps[75]? =some (.pointer (some ⟨g,m*10,none⟩)):=hI.v hall 7 75;have hX:=HS.bel;have HX:=j0 hX;clear hI hX
        go_simp
        exact Reg.GenH.s hn (HS.up (by decide) (Below.refl _ _))
       refine Reg.oH (fun gh listed A X hI hcl hin hun hall hn HS=> ?_) ?_
       ·have e76:A.tmps[76]? =some (.pointer (some ⟨g,m*10+8,none⟩)):=hI.v hall 8 76;have hX:=HS.bel;have f:=(hX.cell (p:=⟨g,m*10+8,none⟩) HGL.out).trans H8.out;have HX:=j0 hX;clear hI hX
        go_simp
        exact Reg.GenH.s hn (HS.up (by decide) (Below.refl _ _))
       iterate 2
        refine Reg.oH (fun gh listed A X hI hcl hin hun hall hn HS=> ?_) ?_
        ·have E:=hI.tf hun hall vC;simp only [Reg.TF,vC,Reg.la,Reg.lb,Reg.lc] at E;have hX:=HS.bel;have HX:=j0 hX;clear hI hX
         go_simp
         exact Reg.GenH.s hn (HS.up (by decide) (Below.refl _ _))
       refine Reg.oH (fun gh listed A X hI hcl hin hun hall hn HS=> ?_) ?_
       ·have e78:A.tmps[78]? =some (.slice (some ⟨g,0,none⟩) L.length cap):=hI.v hall 10 78;have e79:A.tmps[79]? =some (.int .i64 (m:Int)):=hI.v hall 11 79;have hX:=HS.bel;have hml:=HML.out;have HX:=j0 hX;clear hI hX
        go_simp
        exact Reg.GenH.s hn (HS.up (by decide) (Below.refl _ _))
       refine Reg.oH (fun gh listed A X hI hcl hin hun hall hn HS=> ?_) ?_
       ·have e80:A.tmps[80]? =some (.pointer (some ⟨g,m*10,none⟩)):=hI.v hall 12 80;have hX:=HS.bel;have HX:=j0 hX;clear hI hX
        go_simp
        exact Reg.GenH.s hn (HS.up (by decide) (Below.refl _ _))
       refine Reg.oH (fun gh listed A X hI hcl hin hun hall hn HS=> ?_) ?_
       ·have e81:A.tmps[81]? =some (.pointer (some ⟨g,m*10+9,none⟩)):=hI.v hall 13 81;have hX:=HS.bel;have f:=(hX.cell (p:=⟨g,m*10+9,none⟩) HGL.out).trans H9.out;have HX:=j0 hX;clear hI hX
        go_simp
        exact Reg.GenH.s hn (HS.up (by decide) (Below.refl _ _))
       refine Reg.oH (fun gh listed A X hI hcl hin hun hall hn HS=> ?_) ?_
       ·have e12:=hI.wo 12 rfl;have hX:=HS.bel;have hb:=(hX.block _ (jS HNN.out)).trans HNN.out;have y0:=jC hb 0;have y1:=jC hb 1;have y2:=jC hb 2;have y3:=jC hb 3;have y4:=jC hb 4;have y5:=jC hb 5;have y6:=jC hb 6;have y7:=jC hb 7;have y8:=jC hb 8;have y9:=jC hb 9;have y10:=jC hb 10;have hyl:=jS hb;simp only [Reg.la,Reg.lb,Reg.lc] at y0 y1 y2 y3 y4 y5 y6 y7 y8 y9 y10;clear hb;have HX:=j0 hX;clear hI hX
        go_simp
        exact Reg.GenH.s hn (HS.up (by decide) (Below.refl _ _))
       refine Reg.oH (fun gh listed A X hI hcl hin hun hall hn HS=> ?_) ?_
       ·have e83:A.tmps[83]? =some (.agg #[.int .i64 k',.int .u64 s'.a,.int .u64 s'.b,.int .u64 s'.c,.int .u64 s'.d,.int .i64 lo',.int .i64 hi',.bool z',(.slice pp n' cp),.int .i64 (p0:Int),.int .i64 (b':Int)]):=hI.v hall 15 83;have hX:=HS.bel;have HX:=j0 hX;clear hI hX
        go_simp
        exact Reg.GenH.step (g':=X.heap.size) hn (by decide) (fun j hj=>Jl (fun e=>by rw [e] at hj;rw [hj] at hun;cases hun) (fun e=>by rw [e] at hj;rw [Reg.closed_reach hcl 60 24 16 (by kernel_rfl) hj] at hun;cases hun)) rfl (HS.made hin)
       refine Reg.oH (fun gh listed A X hI hcl hin hun hall hn HS=> ?_) ?_
       ·have e12:=hI.wo 12 rfl;have hX:=HS.bel;have hyl:=jS ((hX.block _ (jS HNN.out)).trans HNN.out);have HX:=j0 hX;clear hI hX
        go_simp
        exact Reg.GenH.s hn (HS.up (by decide) (Below.refl _ _))
       refine Reg.oH (fun gh listed A X hI hcl hin hun hall hn HS=> ?_) ?_
       ·have e85:A.tmps[85]? =some (.pointer (some ⟨(wr.heap.size+1),9,none⟩)):=hI.v hall 17 85;have hX:=HS.bel;have hb:=(hX.block _ (jS HNN.out)).trans HNN.out;have y0:=jC hb 0;have y1:=jC hb 1;have y2:=jC hb 2;have y3:=jC hb 3;have y4:=jC hb 4;have y5:=jC hb 5;have y6:=jC hb 6;have y7:=jC hb 7;have y8:=jC hb 8;have y9:=jC hb 9;have y10:=jC hb 10;have hyl:=jS hb;simp only [Reg.la,Reg.lb,Reg.lc] at y0 y1 y2 y3 y4 y5 y6 y7 y8 y9 y10;clear hb;have HX:=j0 hX;clear hI hX
        go_simp
        exact Reg.GenH.s hn (HS.up (by decide) (Below.refl _ _))
       iterate 2
        refine Reg.oH (fun gh listed A X hI hcl hin hun hall hn HS=> ?_) ?_
        ·have E:=hI.tf hun hall vC;simp only [Reg.TF,vC,Reg.la,Reg.lb,Reg.lc] at E;have hX:=HS.bel;have HX:=j0 hX;clear hI hX
         go_simp
         exact Reg.GenH.s hn (HS.up (by decide) (Below.refl _ _))
       refine Reg.oH (fun gh listed A X hI hcl hin hun hall hn HS=> ?_) ?_
       ·have e87:A.tmps[87]? =some (.slice (some ⟨g,0,none⟩) L.length cap):=hI.v hall 19 87;have e88:A.tmps[88]? =some (.int .i64 (m:Int)):=hI.v hall 20 88;have hX:=HS.bel;have hml:=HML.out;have HX:=j0 hX;clear hI hX
        go_simp
        exact Reg.GenH.s hn (HS.up (by decide) (Below.refl _ _))
       refine Reg.oH (fun gh listed A X hI hcl hin hun hall hn HS=> ?_) ?_
       ·have e89:A.tmps[89]? =some (.pointer (some ⟨g,m*10,none⟩)):=hI.v hall 21 89;have hX:=HS.bel;have HX:=j0 hX;clear hI hX
        go_simp
        exact Reg.GenH.s hn (HS.up (by decide) (Below.refl _ _))
       refine Reg.oH (fun gh listed A X hI hcl hin hun hall hn HS=> ?_) ?_
       ·have e90:A.tmps[90]? =some (.pointer (some ⟨g,m*10+2,none⟩)):=hI.v hall 22 90;have hX:=HS.bel;have f:=(hX.cell (p:=⟨g,m*10+2,none⟩) HGL.out).trans H2.out;have HX:=j0 hX;clear hI hX
        go_simp
        exact Reg.GenH.s hn (HS.up (by decide) (Below.refl _ _))
       refine Reg.oH (fun gh listed A X hI hcl hin hun hall hn HS=> ?_) ?_
       ·have e72:A.tmps[72]? =some (.int .i64 t5.lo):=hI.v hall 4 72;have e77:A.tmps[77]? =some (.int .i64 t5.hi):=hI.v hall 9 77;have e82:A.tmps[82]? =some (.bool t5.lazy):=hI.v hall 14 82;have e84:A.tmps[84]? =some (.slice (some ⟨gh,0,none⟩) 1 1):=hI.v hall 16 84;have e86:A.tmps[86]? =some (.int .i64 (p0:Int)):=hI.v hall 18 86;have e91:A.tmps[91]? =some (.int .i64 (pe5:Int)):=hI.v hall 23 91;have hX:=HS.bel;have HX:=j0 hX;clear hI hX
        go_simp
        exact Reg.GenH.s hn (HS.up (by decide) (Below.refl _ _))
       refine Reg.oH (fun gh listed A X hI hcl hin hun hall hn HS=> ?_) ?_
       ·have e12:=hI.wo 12 rfl;have e92:A.tmps[92]? =some (.agg #[.int .i64 6,.int .u64 0,.int .u64 0,.int .u64 0,.int .u64 0,.int .i64 t5.lo,.int .i64 t5.hi,.bool t5.lazy,.slice (some ⟨gh,0,none⟩) 1 1,.int .i64 (p0:Int),.int .i64 (pe5:Int)]):=hI.v hall 24 92;have hX:=HS.bel;have hb:=(hX.block _ (jS HNN.out)).trans HNN.out;have y0:=jC hb 0;have y1:=jC hb 1;have y2:=jC hb 2;have y3:=jC hb 3;have y4:=jC hb 4;have y5:=jC hb 5;have y6:=jC hb 6;have y7:=jC hb 7;have y8:=jC hb 8;have y9:=jC hb 9;have y10:=jC hb 10;have z0:=jU hb 0;have z1:=jU hb 1;have z2:=jU hb 2;have z3:=jU hb 3;have z4:=jU hb 4;have z5:=jU hb 5;have z6:=jU hb 6;have z7:=jU hb 7;have z8:=jU hb 8;have z9:=jU hb 9;have z10:=jU hb 10;have hyl:=jS hb;simp only [Reg.la,Reg.lb,Reg.lc] at y0 y1 y2 y3 y4 y5 y6 y7 y8 y9 y10;clear hb;have HX:=j0 hX;clear hI hX
        go_simp
        exact Reg.GenH.put hin rfl ⟨X,HX.out,HS.row (Reg.closed_reach hcl 60 24 16 (by kernel_rfl) (hall ⟨24,.data⟩ (by simp) rfl)),rfl⟩
       trivial
      ·intro gh WM hS;obtain⟨X0,hX0,⟨hr1,hr2⟩,hX1⟩:=hS.done (by rfl);clear hS;have hnl:WN.heap.size<=X0.heap.size:=hX0.size;have hnb:=jS HNN.out;have hszn:=HBN.out.size;have HNN2:=j0 (Kc ((hX0.block _ (jS HNN.out)).trans HNN.out) (.int .i64 6) (.int .u64 0) (.int .u64 0) (.int .u64 0) (.int .u64 0) (.int .i64 t5.lo) (.int .i64 t5.hi) (.bool t5.lazy) (.slice (some ⟨gh,0,none⟩) 1 1) (.int .i64 (p0:Int)) (.int .i64 (pe5:Int)));have HBN2:=j0 (qV (HBN.out.trans (hX0.mono HBN.out.size)) (b:=(wr.heap.size+1)) (Nat.le_succ _) (.int .i64 6) (.int .u64 0) (.int .u64 0) (.int .u64 0) (.int .u64 0) (.int .i64 t5.lo) (.int .i64 t5.hi) (.bool t5.lazy) (.slice (some ⟨gh,0,none⟩) 1 1) (.int .i64 (p0:Int)) (.int .i64 (pe5:Int)));have HRN2:=j0 ((((YH 6 j7 t5.lo t5.hi t5.lazy p0 pe5 ((HRN.out.up hX0).mono (A':=fun b=>wr.heap.size<=b/\b≠(wr.heap.size+1)) (fun b _ hb=>hb)) hr1 ⟨by omega,by omega⟩)).keep (vR X0 (wr.heap.size+1) (.int .i64 6) (.int .u64 0) (.int .u64 0) (.int .u64 0) (.int .u64 0) (.int .i64 t5.lo) (.int .i64 t5.hi) (.bool t5.lazy) (.slice (some ⟨gh,0,none⟩) 1 1) (.int .i64 (p0:Int)) (.int .i64 (pe5:Int))) (fun b hb e=>by injection e with e;exact hb.2 e.symm)));rw [<-hX1] at HNN2 HBN2 HRN2;clear hX0 hr1 hr2 hX1 hnl hnb hszn HNN HBN HRN;simp [Reg.finalTmps,Reg.dstAt,Reg.valOf,Ka];have HNN:=HNN2;have HBN:=HBN2;have HRN:=HRN2;clear HNN2 HBN2 HRN2
       go_upto_region 14 with fail
       have y0:=jC HNN.out 0;have y1:=jC HNN.out 1;have y2:=jC HNN.out 2;have y3:=jC HNN.out 3;have y4:=jC HNN.out 4;have y5:=jC HNN.out 5;have y6:=jC HNN.out 6;have y7:=jC HNN.out 7;have y8:=jC HNN.out 8;have y9:=jC HNN.out 9;have y10:=jC HNN.out 10;have hyl:=jS HNN.out;simp only [Reg.la,Reg.lb,Reg.lc] at y0 y1 y2 y3 y4 y5 y6 y7 y8 y9 y10;have HG2:Hid (yd W0.heap.size l1 us _ WM):=j0 (HG.out.below HBN.out);have HB2:Hid (Below W0.heap.size W0 WM):=j0 (HB.out.trans (HBN.out.mono HB.out.size));have hsz2:=HB2.out.size;have HRZ:=j0 (HRN.out.mono (A':=fun b=>wr.heap.size<=b) (fun _ _ hb=>hb.1));clear HNN HRN HBN
       go_wp2_with (at_builtin;go_must (refine wpList_append_own_at _ rfl (.tmp 95) (.tmp 97) 48 rfl W0.heap.size 50 i0 (.agg #[.int .i64 0,.int .u64 0,.int .u64 0,.int .u64 0,.int .u64 0,.int .i64 0,.int .i64 0,.bool false,.slice none 0 0,.int .i64 0,.int .i64 0]) 11 104 Tryz.underlying48 hif hy0 hy1 hy2 rfl (by decide) _ l1.length (rnRow l1 us) rfl (kt HG2.out.own _) ⟨_,0,none⟩ 1 1 (Jm (.mk 6 j7 t5.lo t5.hi t5.lazy p0 pe5 [.mk k' s' lo' hi' z' p0 b' l']) (.slice (some ⟨gh,0,none⟩) 1 1)) rfl rfl (qZ _ _ 6 j7 t5.lo t5.hi t5.lazy p0 pe5 [.mk k' s' lo' hi' z' p0 b' l'] _ _ (by simp)) (xz _ _ _ _) (by unfold maxLen;omega) (by omega) (by simp;omega) ?_;intro v4 w4 ho hg4 _ hat;have HG4:=j0 (HG2.out.add (lo:=wr.heap.size) HLO.out hszr HRZ.out ho hg4 hat);have HB4:=j0 ((HB2.out.alloc hsz2 _).grown hg4 (by simp;omega) (fun b hb=>(kl HG2.out.own hb).1));clear ho hg4 hat))
       clear HG2 HB2 HLO HRZ
       go_wp2_with fail
       go_roundw
       case rel=>exact⟨m+1,l1++ [_],r,us++ [_],by omega,by omega,by simp;omega,by go_num,HT2,HN,HG4,HB4⟩
       case measure=>first|(simp [intOf];omega)|simp [intOf]
  ·obtain rfl:k=j:=by omega
   have hl2:=spnC_done HI.out;subst hl2;have HT1:vo t=l1:=HT.out.trans (List.append_nil _);have hbk:=(HB.out.block _ (jS HK0.out)).trans HK0.out;have HKR:=j0 hbk;have hszw:=HB0.out.size;have hszr:=HB.out.size;have hsz0:W0.heap.size=w.heap.size+1:=HZ0.out;have hbl:=jS hbk;clear HT HI
   rcases HF.out with ⟨h0,rfl,ht⟩|h1|⟨h2,ht⟩
   ·obtain rfl:l1= []:=HT1.symm.trans h0;obtain⟨pp,cp,hv⟩:=(HG.out.at 5 j7 0 0 false 0 0).slice_len;subst hv;subst ht;have HBG:=j0 (fun(X:World) (hX:qK X (.slice p L.length cap) L)=>YS i size X hX);have HAW:=j0 (HA.out.below HBW.out);have q0:=jC hbk 0;have z0:=jU hbk 0;have q1:=jC hbk 1;have z1:=jU hbk 1;have q2:=jC hbk 2;have z2:=jU hbk 2;have q3:=jC hbk 3;have z3:=jU hbk 3;have q4:=jC hbk 4;have z4:=jU hbk 4;have q5:=jC hbk 5;have z5:=jU hbk 5;have q6:=jC hbk 6;have z6:=jU hbk 6;have q7:=jC hbk 7;have z7:=jU hbk 7;have q8:=jC hbk 8;have z8:=jU hbk 8;have q9:=jC hbk 9;have z9:=jU hbk 9;have q10:=jC hbk 10;have z10:=jU hbk 10;simp only [Reg.la,Reg.lb,Reg.lc] at q0 q1 q2 q3 q4 q5 q6 q7 q8 q9 q10;clear hbk HG HS HT1 h0 HCC HF HI0
    go_wp2_with fail
    refine(HBG.out wr HAW.out).mono ?_;rintro e w1 ⟨rfl,hw⟩;obtain rfl:wr=w1:=hw.symm;obtain⟨pl,hpl⟩:∃pl,pl=ki L size i:=⟨_,rfl⟩;rw [<-hpl];have HPL:=j0 hpl;clear hpl hw
    go_wp2_with fail
    refine bodyPost_ret (v:=.agg #[.int .i64 0,.int .u64 0,.int .u64 0,.int .u64 0,.int .u64 0,.int .i64 0,.int .i64 0,.bool false,.slice none 0 0,.int .i64 (pl:Int),.int .i64 (pl:Int)]) (by simp [results,Tryz.results95,go_sem,q0,q1,q2,q3,q4,q5,q6,q7,q8,q9,q10]) rfl ⟨.slice none 0 0,by rw [HPL.out];rfl,kU.leaf _ _ _ _ _ _ _ _ _,?_⟩;exact qV HBW.out (jN _) _ _ _ _ _ _ _ _ _ _ _
   ·obtain rfl:l1= [t]:=HT1.symm.trans h1;have HR:=HG.out.at 5 j7 0 0 false 0 0;obtain⟨k',s',lo',hi',z',a',b',l'⟩:=t;obtain⟨g,cap',lu,hv,hg,hru,c0,⟨c1,c2,c3,c4⟩,c5,c6,c7,c8,c9,c10⟩:=HR.get (i:=0) rfl;simp only [Nat.zero_mul,Nat.zero_add] at c0 c1 c2 c3 c4 c5 c6 c7 c8 c9 c10;subst hv;obtain⟨pp,n',cp,rfl⟩:=hru.slice;have HRU:=j0 hru;have q0:=jC hbk 0;have z0:=jU hbk 0;have q1:=jC hbk 1;have z1:=jU hbk 1;have q2:=jC hbk 2;have z2:=jU hbk 2;have q3:=jC hbk 3;have z3:=jU hbk 3;have q4:=jC hbk 4;have z4:=jU hbk 4;have q5:=jC hbk 5;have z5:=jU hbk 5;have q6:=jC hbk 6;have z6:=jU hbk 6;have q7:=jC hbk 7;have z7:=jU hbk 7;have q8:=jC hbk 8;have z8:=jU hbk 8;have q9:=jC hbk 9;have z9:=jU hbk 9;have q10:=jC hbk 10;have z10:=jU hbk 10;simp only [Reg.la,Reg.lb,Reg.lc] at q0 q1 q2 q3 q4 q5 q6 q7 q8 q9 q10;clear hbk hru HR HG HS HT1 h1 HCC HF
    go_wp2_with fail
    refine bodyPost_ret (v:=.agg #[.int .i64 k',.int .u64 s'.a,.int .u64 s'.b,.int .u64 s'.c,.int .u64 s'.d,.int .i64 lo',.int .i64 hi',.bool z',(.slice pp n' cp),.int .i64 (a':Int),.int .i64 (b':Int)]) (by simp [results,Tryz.results95,go_sem,q0,q1,q2,q3,q4,q5,q6,q7,q8,q9,q10]) rfl ⟨.slice pp n' cp,rfl,?_,?_⟩
    ·exact((HRU.out).keep (vR wr w.heap.size _ _ _ _ _ _ _ _ _ _ _) (fun b hb e=>by injection e with e;omega)).mono (fun b _ hb=>by omega)
    ·exact qV HBW.out (jN _) _ _ _ _ _ _ _ _ _ _ _
   ·have hC:=HI0.out;obtain⟨l,hll⟩:∃l,l=vo t:=⟨_,rfl⟩;rw [<-hll] at ht h2 hC HT1;have hl2:=h2;obtain rfl:l=l1:=HT1;clear hll HI0 HF;subst ht;have hab:=Zy hC;obtain⟨n1,hn1⟩:∃n1,l.length=n1+1:=⟨l.length-1,by omega⟩;obtain⟨u0,hu0⟩:∃u,l[0]? =some u:=⟨_,List.getElem?_eq_getElem (by omega)⟩;obtain⟨u1,hu1⟩:∃u,l[n1]? =some u:=⟨_,List.getElem?_eq_getElem (by omega)⟩;have ha:=hab.1 u0 (by rw [List.head?_eq_getElem?];exact hu0);have hb:=hab.2 u1 (by rw [List.getLast?_eq_getElem?,hn1];exact hu1);have HR:=HG.out.at 4 j7 0 0 false (ki L size i) (ki L size k);obtain⟨k',s',lo',hi',z',a',b',l'⟩:=u0;obtain⟨g,cap',lu,hv,hg,_,_,_,_,_,_,_,c9,_⟩:=HR.get hu0;obtain⟨k2,s2,lo2,hi2,z2,a2,b2,l2'⟩:=u1;obtain⟨g2,cap2,lu2,hv2,hg2,_,_,_,_,_,_,_,_,c10⟩:=HR.get hu1;rw [hv] at hv2;injection hv2 with hv3 _ hv4;injection hv3 with hv3;injection hv3 with hv3;subst hv3 hv4 hv;have ha:a'=ki L size i:=ha;have hb:b2=ki L size k:=hb;subst ha hb;have HRN:=j0 HR;have HC9:=j0 c9;have HC10:=j0 c10;have HGL:=j0 hg;generalize hn:l.length=n at*;have hne:((n:Int)==1)=false:=by simp;omega
    have hne0:((n:Int)==0)=false:=by simp;omega
    have HNN:Hid ((n:Int)-1=(n1:Int)/\n1<n/\n<=1048577):=j0 ⟨by omega,by omega,by omega⟩;clear hab hu0 hu1 HR c9 c10 hg hg2 hn hn1 hl1 hl2 HCC hC hbk hlen h2
    go_wp2_with fail
    clear hne hne0;obtain⟨a,ha⟩:∃a,a=ki L size i:=⟨_,rfl⟩;obtain⟨b,hb⟩:∃b,b=ki L size k:=⟨_,rfl⟩;rw [<-ha] at HC9;rw [<-hb] at HC10;have HAB:=j0 (And.intro ha hb);clear ha hb;refine Reg.wp_region_C (vj g n n1 cap' a b) (Reg.GenC 13 (fun X=>Below wr.heap.size wr X) (fun X=>∃X0,Below wr.heap.size wr X0/\X=yX X0 w.heap.size (.int .i64 4) (.int .u64 0) (.int .u64 0) (.int .u64 0) (.int .u64 0) (.int .i64 0) (.int .i64 0) (.bool false) (.slice (some ⟨g,0,none⟩) n cap') (.int .i64 (a:Int)) (.int .i64 (b:Int)))) [0,1,2,3,4,5,6,7,8,9,10,11,12,13] (by rfl) (by kernel_rfl) (by kernel_rfl) ?_ ?_ ?_
    ·exact Reg.GenC.start _ _ (Below.drew (Below.refl _ _))
    ·iterate 2
      refine Reg.oC (fun listed A X hI hcl hin hun hall HS=> ?_) ?_
      ·have E:=hI.tf hun hall JH;simp only [Reg.TF,JH,Reg.la,Reg.lb,Reg.lc] at E;clear hI hall hcl
       go_simp
       first|rfl|exact⟨rfl,HS.up (by decide)⟩|(refine⟨?_,HS.up (by decide)⟩;simp [vj])
     refine Reg.oC (fun listed A X hI hcl hin hun hall HS=> ?_) ?_
     ·have e116:A.tmps[116]? =some (.slice (some ⟨g,0,none⟩) n cap'):=hI.v hall 1 116;have hX:=HS.at hcl (by kernel_rfl) hun;obtain⟨n0,n2,n3⟩:=HNN.out;have n5:0<n:=by omega
      clear n0;clear hI hall hcl;have HX:=j0 hX;clear hX
      go_simp
      first|rfl|exact⟨rfl,HS.up (by decide)⟩|(refine⟨?_,HS.up (by decide)⟩;simp [vj])
     refine Reg.oC (fun listed A X hI hcl hin hun hall HS=> ?_) ?_
     ·have e117:A.tmps[117]? =some (.pointer (some ⟨g,0,none⟩)):=hI.v hall 2 117;clear hI hall hcl
      go_simp
      first|rfl|exact⟨rfl,HS.up (by decide)⟩|(refine⟨?_,HS.up (by decide)⟩;simp [vj])
     refine Reg.oC (fun listed A X hI hcl hin hun hall HS=> ?_) ?_
     ·have e118:A.tmps[118]? =some (.pointer (some ⟨g,9,none⟩)):=hI.v hall 3 118;have hX:=HS.at hcl (by kernel_rfl) hun;have f9:=(hX.cell (p:=⟨g,0*11+9,none⟩) HGL.out).trans HC9.out;simp only [Nat.zero_mul,Nat.zero_add] at f9;clear hI hall hcl;have HX:=j0 hX;clear hX
      go_simp
      first|rfl|exact⟨rfl,HS.up (by decide)⟩|(refine⟨?_,HS.up (by decide)⟩;simp [vj])
     iterate 3
      refine Reg.oC (fun listed A X hI hcl hin hun hall HS=> ?_) ?_
      ·have E:=hI.tf hun hall JH;simp only [Reg.TF,JH,vj,Reg.la,Reg.lb,Reg.lc] at E;clear hI hall hcl
       go_simp
       first|rfl|exact⟨rfl,HS.up (by decide)⟩|(refine⟨?_,HS.up (by decide)⟩;simp [vj])
     refine Reg.oC (fun listed A X hI hcl hin hun hall HS=> ?_) ?_
     ·have e122:A.tmps[122]? =some (.int .i64 (n:Int)):=hI.v hall 7 122;have hX:=HS.at hcl (by kernel_rfl) hun;obtain⟨n0,n2,n3⟩:=HNN.out;have wn:IntKind.i64.wrap (n1:Int)=(n1:Int):=by simp [IntKind.wrap,IntKind.signed,IntKind.bits];omega
      clear hI hall hcl;have HX:=j0 hX;clear hX
      go_simp
      first|rfl|exact⟨rfl,HS.up (by decide)⟩|(refine⟨?_,HS.up (by decide)⟩;simp [vj])
     refine Reg.oC (fun listed A X hI hcl hin hun hall HS=> ?_) ?_
     ·have e120:A.tmps[120]? =some (.slice (some ⟨g,0,none⟩) n cap'):=hI.v hall 5 120;have e123:A.tmps[123]? =some (.int .i64 (n1:Int)):=hI.v hall 8 123;have hX:=HS.at hcl (by kernel_rfl) hun;obtain⟨n0,n2,n3⟩:=HNN.out;clear hI hall hcl;have HX:=j0 hX;clear hX
      go_simp
      first|rfl|exact⟨rfl,HS.up (by decide)⟩|(refine⟨?_,HS.up (by decide)⟩;simp [vj])
     refine Reg.oC (fun listed A X hI hcl hin hun hall HS=> ?_) ?_
     ·have e124:A.tmps[124]? =some (.pointer (some ⟨g,n1*11,none⟩)):=hI.v hall 9 124;clear hI hall hcl
      go_simp
      first|rfl|exact⟨rfl,HS.up (by decide)⟩|(refine⟨?_,HS.up (by decide)⟩;simp [vj])
     refine Reg.oC (fun listed A X hI hcl hin hun hall HS=> ?_) ?_
     ·have e125:A.tmps[125]? =some (.pointer (some ⟨g,n1*11+10,none⟩)):=hI.v hall 10 125;have hX:=HS.at hcl (by kernel_rfl) hun;have f10:=(hX.cell (p:=⟨g,n1*11+10,none⟩) HGL.out).trans HC10.out;clear hI hall hcl;have HX:=j0 hX;clear hX
      go_simp
      first|rfl|exact⟨rfl,HS.up (by decide)⟩|(refine⟨?_,HS.up (by decide)⟩;simp [vj])
     refine Reg.oC (fun listed A X hI hcl hin hun hall HS=> ?_) ?_
     ·have e115:A.tmps[115]? =some (.slice (some ⟨g,0,none⟩) n cap'):=hI.v hall 0 115;have e119:A.tmps[119]? =some (.int .i64 (a:Int)):=hI.v hall 4 119;have e126:A.tmps[126]? =some (.int .i64 (b:Int)):=hI.v hall 11 126;clear hI hall hcl
      go_simp
      first|rfl|exact⟨rfl,HS.up (by decide)⟩|(refine⟨?_,HS.up (by decide)⟩;simp [vj])
     refine Reg.oC (fun listed A X hI hcl hin hun hall HS=> ?_) ?_
     ·have e8:=hI.wo 8 rfl;have e127:A.tmps[127]? =some (.agg #[.int .i64 4,.int .u64 0,.int .u64 0,.int .u64 0,.int .u64 0,.int .i64 0,.int .i64 0,.bool false,(.slice (some ⟨g,0,none⟩) n cap'),.int .i64 (a:Int),.int .i64 (b:Int)]):=hI.v hall 12 127;have hX:=HS.ahead (by simpa using hun);have hbX:=(hX.block _ (jS HKR.out)).trans HKR.out;have q0:=jC hbX 0;have q1:=jC hbX 1;have q2:=jC hbX 2;have q3:=jC hbX 3;have q4:=jC hbX 4;have q5:=jC hbX 5;have q6:=jC hbX 6;have q7:=jC hbX 7;have q8:=jC hbX 8;have q9:=jC hbX 9;have q10:=jC hbX 10;have z0:=jU hbX 0;have z1:=jU hbX 1;have z2:=jU hbX 2;have z3:=jU hbX 3;have z4:=jU hbX 4;have z5:=jU hbX 5;have z6:=jU hbX 6;have z7:=jU hbX 7;have z8:=jU hbX 8;have z9:=jU hbX 9;have z10:=jU hbX 10;simp only [Reg.la,Reg.lb,Reg.lc] at q0 q1 q2 q3 q4 q5 q6 q7 q8 q9 q10;clear hbX;clear hI hall hcl;have HX:=j0 hX;clear hX
      go_simp
      exact⟨rfl,Reg.GenC.put hin ⟨X,HX.out,rfl⟩⟩
     trivial
    ·intro X hS;have hR:=hS.done (by rfl);clear hS;simp [Reg.finalTmps,Reg.dstAt,Reg.valOf,vj];obtain⟨X0,hX0,hX1⟩:=hR;have hX2:=Kc ((hX0.block _ (jS HKR.out)).trans HKR.out) (.int .i64 4) (.int .u64 0) (.int .u64 0) (.int .u64 0) (.int .u64 0) (.int .i64 0) (.int .i64 0) (.bool false) (.slice (some ⟨g,0,none⟩) n cap') (.int .i64 (a:Int)) (.int .i64 (b:Int));have HX3:=j0 (qV (HBW.out.trans (hX0.mono HBW.out.size)) (jN w.heap.size) (.int .i64 4) (.int .u64 0) (.int .u64 0) (.int .u64 0) (.int .u64 0) (.int .i64 0) (.int .i64 0) (.bool false) (.slice (some ⟨g,0,none⟩) n cap') (.int .i64 (a:Int)) (.int .i64 (b:Int)));have HX4:=j0 (((HRN.out.up hX0).keep (vR X0 w.heap.size (.int .i64 4) (.int .u64 0) (.int .u64 0) (.int .u64 0) (.int .u64 0) (.int .i64 0) (.int .i64 0) (.bool false) (.slice (some ⟨g,0,none⟩) n cap') (.int .i64 (a:Int)) (.int .i64 (b:Int))) (fun b hb e=>by injection e with e;omega)).mono (A':=fun b=>w.heap.size<=b) (fun b _ hb=>by omega));rw [<-hX1] at hX2 HX3 HX4;have q0:=jC hX2 0;have q1:=jC hX2 1;have q2:=jC hX2 2;have q3:=jC hX2 3;have q4:=jC hX2 4;have q5:=jC hX2 5;have q6:=jC hX2 6;have q7:=jC hX2 7;have q8:=jC hX2 8;have q9:=jC hX2 9;have q10:=jC hX2 10;simp only [Reg.la,Reg.lb,Reg.lc] at q0 q1 q2 q3 q4 q5 q6 q7 q8 q9 q10;clear hX2 hX1 hX0 HKR
     go_wp2_with fail
     refine bodyPost_ret (v:=.agg #[.int .i64 4,.int .u64 0,.int .u64 0,.int .u64 0,.int .u64 0,.int .i64 0,.int .i64 0,.bool false,.slice (some ⟨g,0,none⟩) n cap',.int .i64 (a:Int),.int .i64 (b:Int)]) (by simp [results,Tryz.results95,go_sem,q0,q1,q2,q3,q4,q5,q6,q7,q8,q9,q10]) rfl ⟨_,?_,HX4.out,HX3.out⟩;rw [HAB.out.1,HAB.out.2];rfl
end
end Go.Proofs.YtnmalggmbeipaaaGreatDoor
