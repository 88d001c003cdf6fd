/- A part of the proof. -/
import Derived.Test.YtnmalggmbeipaaaGreatDoorPaG
import Derived.Test.YtnmalggmbeipaaaGreatDoorRegion
set_option maxRecDepth 100000
set_option maxHeartbeats 16000000
namespace Go.Proofs.YtnmalggmbeipaaaGreatDoor
section
open Go Go.RowKit
attribute [local go_sem ↓] Go.wp_at_zero Go.wp_at_succ
attribute [local go_sem] qX
theorem VQ{W:World}{b:Nat}{x:jp×Nat×Nat}(h:W.heap[b]? =some (J2 x)):W.cell? ⟨b,0,none⟩=some (.int .i64 x.1.kind)/\W.cell? ⟨b,1,none⟩=some (.int .i64 (x.2.1:Int))/\W.cell? ⟨b,2,none⟩=some (.int .i64 (x.2.2:Int))/\W.cell? ⟨b,3,none⟩=some (.int .u64 x.1.set.a)/\W.cell? ⟨b,4,none⟩=some (.int .u64 x.1.set.b)/\
  W.cell? ⟨b,5,none⟩=some (.int .u64 x.1.set.c)/\W.cell? ⟨b,6,none⟩=some (.int .u64 x.1.set.d)/\W.cell? ⟨b,7,none⟩=some (.int .i64 x.1.lo)/\W.cell? ⟨b,8,none⟩=some (.int .i64 x.1.hi)/\W.cell? ⟨b,9,none⟩=some (.bool x.1.lazy)/\b<W.heap.size:=
 ⟨jC h 0,jC h 1,jC h 2,jC h 3,jC h 4,jC h 5,jC h 6,jC h 7,jC h 8,jC h 9,jS h⟩
structure NdS(W:World)(ob:Obj)(n:Nat)(q:Nat)(listed:Array Bool)(X:World):Prop where
 bel:Below W.heap.size W X
 nd:listed.getD n false=true->X.heap[q]? =some ob/\W.heap.size<=q
 ord:listed.getD (n+1) false=true->listed.getD n false=true
theorem NdS.up{W:World}{ob:Obj}{n q i:Nat}{listed:Array Bool}{X Y:World}(h:NdS W ob n q listed X)(h1:i≠n)(h2:i≠n+1)(hb:Below X.heap.size X Y):NdS W ob n q (listed.setIfInBounds i true) Y:=by
 refine⟨h.bel.trans (hb.mono h.bel.size),fun e=> ?_,fun e=> ?_⟩
 ·rw [getD_set_ne false h1] at e;obtain⟨h3,h4⟩:=h.nd e;exact⟨j4 hb h3,h4⟩
 ·rw [getD_set_ne false h2] at e;rw [getD_set_ne false h1];exact h.ord e
theorem NdS.last{W:World}{ob:Obj}{n q:Nat}{listed:Array Bool}{X:World}(h:NdS W ob n q listed X)(hn:listed.getD n false=true):NdS W ob n q (listed.setIfInBounds (n+1) true) X:=by
 refine⟨h.bel,fun e=>h.nd hn,fun e=> ?_⟩;rw [getD_set_ne false (by omega)];exact hn
theorem NdS.boxed{W:World}{ob:Obj}{n q:Nat}{listed:Array Bool}{X:World}{told:Nat->Nat->Value}{v:Value}(h:NdS W ob n q listed X)(hin:n<listed.size)(hun:¬listed.getD n false=true)
  (hsame:∀(q':Nat) (_:True) (i:Nat),i≠n->i≠n+1->told q' i=told q i) (hv:v=told X.heap.size n):Reg.GoodG told (NdS W ob n) n q listed v (X.alloc ob):=by
 refine⟨X.heap.size,fun i hi=>hsame _ trivial i (fun e=>hun (e ▸ hi)) (fun e=>hun (h.ord (e ▸ hi))),hv,⟨h.bel.trans ((j3 _ _).mono h.bel.size),fun _=>⟨j1 _ _,h.bel.size⟩,fun e=>Reg.set_self hin⟩⟩
def K5(g b5 a b:Nat)(x:jp×Nat×Nat)(q:Nat):Nat->Value
 |0=>.pointer (some ⟨b5,3,none⟩)
 |1=>.agg #[.int .u64 x.1.set.a,.int .u64 x.1.set.b,.int .u64 x.1.set.c,.int .u64 x.1.set.d]
 |2=>.pointer (some ⟨g,0,none⟩)
 |3=>.int .i64 (a:Int)
 |4=>.agg #[.int .i64 (a:Int),.int .i64 (b:Int)]
 |5=>.agg #[.int .i64 1,.int .u64 x.1.set.a,.int .u64 x.1.set.b,.int .u64 x.1.set.c,.int .u64 x.1.set.d,.int .i64 0,.int .i64 0,.bool false,.slice none 0 0,.int .i64 (a:Int),.int .i64 (b:Int)]
 |6=>.pointer (some ⟨q,0,none⟩)
 |7=>.pointer (some ⟨q,0,none⟩)
 |8=>.int .i64 0
 |_=>undef
theorem UY{g b5 a b:Nat}{x:jp×Nat×Nat}{q q' i:Nat}(h6:i≠6)(h7:i≠6+1):K5 g b5 a b x q' i=K5 g b5 a b x q i:=by
 match i,h6,h7 with
 |0,_,_=>rfl
 |1,_,_=>rfl
 |2,_,_=>rfl
 |3,_,_=>rfl
 |4,_,_=>rfl
 |5,_,_=>rfl
 |8,_,_=>rfl
 |i+9,_,_=>rfl
def JR:Nat->List (Nat×Nat)
 |0=> [(5,0)]
 |1=> [(19,1)]
 |2=> [(0,0)]
 |3=> [(4,0)]
 |_=> []
theorem Xi(g gt:Nat)(L:jq)(size i r d n:Nat)(w:World)(h:PsAt w g gt L size i r d)
  (hG:∀(k:Int) (r':Nat),r=r'+1->Calls Tryz.prog 248 #[.pointer (some ⟨g,0,none⟩),.int .i64 k] w fun e w'=>POut w w' g gt L size d (kG L size n d i k) e):
  Calls Tryz.prog 224 #[.pointer (some ⟨g,0,none⟩)] w fun e w'=>POut w w' g gt L size d (ko L size (n+1) d i) e:=by
 have H0:=j0 h;have hlt:=h.lt;have PL:=j0 (pplace_any g gt L size i r d w h);have S0:Hid (Calls Tryz.prog 185 #[.pointer (some ⟨g,0,none⟩),.int .i64 0] w fun e w'=>e=.returned (.bool (decide (jR L i=0)))/\w'=w):=j0 (psees_any g gt L size i r d 0 w h);have S1:Hid (Calls Tryz.prog 185 #[.pointer (some ⟨g,0,none⟩),.int .i64 1] w fun e w'=>e=.returned (.bool (decide (jR L i=1)))/\w'=w):=j0 (psees_any g gt L size i r d 1 w h);have S2:Hid (Calls Tryz.prog 185 #[.pointer (some ⟨g,0,none⟩),.int .i64 2] w fun e w'=>e=.returned (.bool (decide (jR L i=2)))/\w'=w):=j0 (psees_any g gt L size i r d 2 w h);clear h;obtain⟨a,ha⟩:∃a,a=ki L size i:=⟨_,rfl⟩;have HA:=j0 ha;rw [<-ha] at PL;clear ha
 by_cases k0:jR L i=0
 ·have hin:=qq k0 (by decide);obtain⟨r',rfl⟩:∃r',r=r'+1:=⟨r-1,by have:=H0.out.sum;omega⟩;obtain⟨x,hx⟩:∃x,L[i]? =some x:=⟨_,List.getElem?_eq_getElem hin⟩;have HF:Hid (ko L size (n+1) d i=(0,i+1,some (.mk 1 x.1.set 0 0 false a (ki L size (i+1)) []))):=j0 (by rw [ko,if_pos k0,<-HA.out];unfold xv;rw [hx]);have TK:=j0 (zD g gt L size i r' d w H0.out x hx);rw [jT k0] at S0;clear hG hx hin k0 S1 S2;obtain⟨b,hb⟩:∃b,b=ki L size (i+1):=⟨_,rfl⟩;rw [<-hb] at HF;have HB:Hid (ki L size (i+1)=b):=j0 hb.symm;clear hb
  go_enter Tryz.func224,Tryz.ntmps224
  go_wp2_with fail
  refine PL.out.mono ?_;rintro e w1 ⟨rfl,hw⟩;obtain rfl:w=w1:=hw.symm
  go_wp2_with fail
  refine S0.out.mono ?_;rintro e w1 ⟨rfl,hw⟩;obtain rfl:w=w1:=hw.symm
  go_wp2_with fail
  refine TK.out.mono ?_;rintro e w2 ⟨rfl,h2⟩;have H2:=j0 h2;have HTK:=j0 (j1 w2 (J2 x));have HPW:=j0 (h2.1.below (j3 w2 (J2 x)));have SPN:=j0 (fun X (hX:PsAt X g gt L size (i+1) r' d)=>xR g gt L size (i+1) r' d a X hX);have hl2:=h2.1.lt;rw [HB.out] at SPN;have HBW:=j0 (j3 w2 (J2 x));have hszW:w.heap.size<=(w2.alloc (J2 x)).heap.size:=Nat.le_trans h2.2.size (j3 w2 (J2 x)).size;clear h2 TK S0 PL
  go_upto_region 4 with fail
  obtain⟨W,hW⟩:∃X,X=w2.alloc (J2 x):=⟨_,rfl⟩;rw [<-hW] at HTK HPW HBW hszW;change Code.wp _ _ _ _ (w2.alloc (J2 x));rw [<-hW];clear hW;obtain⟨b5,hb5⟩:∃b,b=w2.heap.size:=⟨_,rfl⟩;rw [<-hb5] at HTK ⊢;have HGB:Hid (g<b5):=j0 (by omega);clear hb5 hl2;refine Reg.wp_region_G (K5 g b5 a b x) (NdS W (vn 1 x.1.set 0 0 false (.slice none 0 0) a b) 6) 0 [0,1,2,3,4,5,6,7,8] (by rfl) (by kernel_rfl) (by kernel_rfl) ?_ ?_ ?_
  ·exact⟨⟨rfl,rfl,rfl,jN _,fun _ _=>rfl⟩,(fun e=>by simp at e),(fun e=>by simp at e)⟩
  ·iterate 2
    refine⟨fun gh listed A X hI hin hun hall=>⟨Reg.wn,?_⟩,?_⟩
    ·have E:=hI.tf hun hall JR;simp only [Reg.TF,JR,K5,Reg.la,Reg.lb,Reg.lc] at E;have HS:=hI.st;obtain⟨y0,y1,y2,y3,y4,y5,y6,y7,y8,y9,hy⟩:=VQ (j4 HS.bel HTK.out);clear hI;unfold Reg.Yields
     go_simp
     exact Reg.goodG_same rfl (HS.up (by decide) (by decide) (Below.refl _ _))
   iterate 2
    refine⟨fun gh listed A X hI hin hun hall=>⟨Reg.wn,?_⟩,?_⟩
    ·have E:=hI.tf hun hall JR;simp only [Reg.TF,JR,Reg.la,Reg.lb,Reg.lc] at E;have HS:=hI.st;clear hI;unfold Reg.Yields
     go_simp
     exact Reg.goodG_same rfl (HS.up (by decide) (by decide) (Below.refl _ _))
   refine⟨fun gh listed A X hI hin hun hall=>⟨Reg.wn,?_⟩,?_⟩
   ·have e21:A.tmps[21]? =some (.pointer (some ⟨g,0,none⟩)):=hI.v hall 2 21;have e22:A.tmps[22]? =some (.int .i64 (a:Int)):=hI.v hall 3 22;have HS:=hI.st;clear hI;unfold Reg.Yields
    go_simp
    exact(SPN.out X (HPW.out.below HS.bel)).mono fun e w'' ⟨he,hb⟩=>⟨_,he,Reg.goodG_same rfl (HS.up (by decide) (by decide) hb)⟩
   refine⟨fun gh listed A X hI hin hun hall=>⟨Reg.wn,?_⟩,?_⟩
   ·have e20:A.tmps[20]? =some (.agg #[.int .u64 x.1.set.a,.int .u64 x.1.set.b,.int .u64 x.1.set.c,.int .u64 x.1.set.d]):=hI.v hall 1 20;have e23:A.tmps[23]? =some (.agg #[.int .i64 (a:Int),.int .i64 (b:Int)]):=hI.v hall 4 23;have HS:=hI.st;clear hI;unfold Reg.Yields
    go_simp
    exact Reg.goodG_same rfl (HS.up (by decide) (by decide) (Below.refl _ _))
   refine⟨fun gh listed A X hI hin hun hall=>⟨Reg.wn,?_⟩,?_⟩
   ·have e24:A.tmps[24]? =some (.agg #[.int .i64 1,.int .u64 x.1.set.a,.int .u64 x.1.set.b,.int .u64 x.1.set.c,.int .u64 x.1.set.d,.int .i64 0,.int .i64 0,.bool false,.slice none 0 0,.int .i64 (a:Int),.int .i64 (b:Int)]):=hI.v hall 5 24;have HS:=hI.st;clear hI;unfold Reg.Yields
    go_simp
    exact HS.boxed (told:=K5 g b5 a b x) hin (by simpa using hun) (fun gq hg i h6 h7=>UY h6 h7) rfl
   refine⟨fun gh listed A X hI hin hun hall=>⟨Reg.wn,?_⟩,?_⟩
   ·have e25:A.tmps[25]? =some (.pointer (some ⟨gh,0,none⟩)):=hI.v hall 6 25;have h6:listed.getD 6 false=true:=hall ⟨6,.data⟩ (by simp) rfl;have HS:=hI.st;clear hI;unfold Reg.Yields
    go_simp
    exact Reg.goodG_same rfl (HS.last h6)
   refine⟨fun gh listed A X hI hin hun hall=>⟨Reg.wn,?_⟩,?_⟩
   ·have HS:=hI.st;clear hI;unfold Reg.Yields
    go_simp
    exact Reg.goodG_same rfl (HS.up (by decide) (by decide) (Below.refl _ _))
   trivial
  ·intro q W9 hS;obtain⟨hq,hqW⟩:=hS.nd (by rfl);have HQ:=j0 hq;have HB9:=j0 hS.bel;have hgq:w.heap.size<=q:=Nat.le_trans hszW hqW;clear hS hq;simp [Reg.finalTmps,Reg.dstAt,Reg.valOf,K5]
   go_wp2_with fail
   refine bodyPost_ret (v:=.tuple #[.pointer (some ⟨q,0,none⟩),.int .i64 0]) (by simp [results,Tryz.results224,go_sem]) rfl (POut.good HF.out ((H2.out.below HBW.out).below HB9.out) ?_);exact .node 1 x.1.set 0 0 false a b [] q none 0 (fun _=>undef) hgq HQ.out (fun i t hi=>by simp at hi) (fun i t hi=>by simp at hi)
 ·have d0:decide (jR L i=0)=false:=jF k0;rw [d0] at S0
  by_cases k1:jR L i=1
  ·have hin:=qq k1 (by decide);have HF:Hid (ko L size (n+1) d i=kG L size n d i 2):=j0 (by rw [ko,if_neg k0,if_pos k1]);have d1:decide (jR L i=1)=true:=jT k1;rw [d1] at S1;obtain⟨r',rfl⟩:∃r',r=r'+1:=⟨r-1,by have:=H0.out.sum;omega⟩;have GR:=j0 (hG 2 r' rfl);clear hG;clear k0 k1 d0 d1 hin S2
   go_enter Tryz.func224,Tryz.ntmps224
   go_wp2_with fail
   refine PL.out.mono ?_;rintro e w1 ⟨rfl,hw⟩;obtain rfl:w=w1:=hw.symm
   go_wp2_with fail
   refine S0.out.mono ?_;rintro e w1 ⟨rfl,hw⟩;obtain rfl:w=w1:=hw.symm
   go_wp2_with fail
   refine S1.out.mono ?_;rintro e w1 ⟨rfl,hw⟩;obtain rfl:w=w1:=hw.symm
   go_wp2_with fail
   refine GR.out.mono ?_;rintro e w2 ⟨v,r2,rfl,h2,ht⟩;have HX:Hid (POut w w2 g gt L size d (ko L size (n+1) d i) (.returned (.tuple #[v,.int .i64 (kG L size n d i 2).1]))):=j0 (by rw [HF.out];exact⟨v,r2,rfl,h2,ht⟩);clear h2 ht;generalize (kG L size n d i 2).1=c at*
   go_wp2_with fail
   refine bodyPost_ret (v:=.tuple #[v,.int .i64 c]) (by simp [results,Tryz.results224,go_sem]) rfl HX.out
  ·have d1:decide (jR L i=1)=false:=jF k1;rw [d1] at S1
   by_cases k2:jR L i=2
   ·have hin:=qq k2 (by decide);have HF:Hid (ko L size (n+1) d i=kG L size n d i 3):=j0 (by rw [ko,if_neg k0,if_neg k1,if_pos k2]);have d2:decide (jR L i=2)=true:=jT k2;rw [d2] at S2;obtain⟨r',rfl⟩:∃r',r=r'+1:=⟨r-1,by have:=H0.out.sum;omega⟩;have GR:=j0 (hG 3 r' rfl);clear hG;clear k0 k1 k2 d0 d1 d2 hin
    go_enter Tryz.func224,Tryz.ntmps224
    go_wp2_with fail
    refine PL.out.mono ?_;rintro e w1 ⟨rfl,hw⟩;obtain rfl:w=w1:=hw.symm
    go_wp2_with fail
    refine S0.out.mono ?_;rintro e w1 ⟨rfl,hw⟩;obtain rfl:w=w1:=hw.symm
    go_wp2_with fail
    refine S1.out.mono ?_;rintro e w1 ⟨rfl,hw⟩;obtain rfl:w=w1:=hw.symm
    go_wp2_with fail
    refine S2.out.mono ?_;rintro e w1 ⟨rfl,hw⟩;obtain rfl:w=w1:=hw.symm
    go_wp2_with fail
    refine GR.out.mono ?_;rintro e w2 ⟨v,r2,rfl,h2,ht⟩;have HX:Hid (POut w w2 g gt L size d (ko L size (n+1) d i) (.returned (.tuple #[v,.int .i64 (kG L size n d i 3).1]))):=j0 (by rw [HF.out];exact⟨v,r2,rfl,h2,ht⟩);clear h2 ht;generalize (kG L size n d i 3).1=c at*
    go_wp2_with fail
    refine bodyPost_ret (v:=.tuple #[v,.int .i64 c]) (by simp [results,Tryz.results224,go_sem]) rfl HX.out
   ·have HF:Hid (ko L size (n+1) d i=(4,i,none)):=j0 (by rw [ko,if_neg k0,if_neg k1,if_neg k2]);have d2:decide (jR L i=2)=false:=jF k2;rw [d2] at S2;clear k0 k1 k2 d0 d1 d2 hG
    go_enter Tryz.func224,Tryz.ntmps224
    go_wp2_with fail
    refine PL.out.mono ?_;rintro e w1 ⟨rfl,hw⟩;obtain rfl:w=w1:=hw.symm
    go_wp2_with fail
    refine S0.out.mono ?_;rintro e w1 ⟨rfl,hw⟩;obtain rfl:w=w1:=hw.symm
    go_wp2_with fail
    refine S1.out.mono ?_;rintro e w1 ⟨rfl,hw⟩;obtain rfl:w=w1:=hw.symm
    go_wp2_with fail
    refine S2.out.mono ?_;rintro e w1 ⟨rfl,hw⟩;obtain rfl:w=w1:=hw.symm
    go_wp2_with fail
    refine bodyPost_ret (v:=.tuple #[.pointer none,.int .i64 4]) (by simp [results,Tryz.results224,go_sem]) rfl (POut.bad HF.out (Ps.refl H0.out))
structure Yk(W:World)(u:Value)(ob:Nat->Obj)(gh:Nat×Nat)(listed:Array Bool)(X:World):Prop where
 bel:Below W.heap.size W X
 sl:listed.getD 7 false=true->X.heap[gh.1]? =some (.cells #[u] 45)/\W.heap.size<=gh.1
 nd:listed.getD 12 false=true->X.heap[gh.2]? =some (ob gh.1)/\W.heap.size<=gh.2
 o11:listed.getD 11 false=true->listed.getD 7 false=true
 o12:listed.getD 12 false=true->listed.getD 11 false=true
 o13:listed.getD 13 false=true->listed.getD 12 false=true
theorem Yk.up{W:World}{u:Value}{ob:Nat->Obj}{gh:Nat×Nat}{i:Nat}{listed:Array Bool}{X Y:World}(h:Yk W u ob gh listed X)(h1:i≠7)(h2:i≠11)(h3:i≠12)(h4:i≠13)(hb:Below X.heap.size X Y):Yk W u ob gh (listed.setIfInBounds i true) Y:=by
 refine⟨h.bel.trans (hb.mono h.bel.size),fun e=> ?_,fun e=> ?_,fun e=> ?_,fun e=> ?_,fun e=> ?_⟩
 ·rw [getD_set_ne false h1] at e;exact⟨j4 hb (h.sl e).1,(h.sl e).2⟩
 ·rw [getD_set_ne false h3] at e;exact⟨j4 hb (h.nd e).1,(h.nd e).2⟩
 ·rw [getD_set_ne false h2] at e;rw [getD_set_ne false h1];exact h.o11 e
 ·rw [getD_set_ne false h3] at e;rw [getD_set_ne false h2];exact h.o12 e
 ·rw [getD_set_ne false h4] at e;rw [getD_set_ne false h3];exact h.o13 e
theorem Yk.at11{W:World}{u:Value}{ob:Nat->Obj}{gh:Nat×Nat}{listed:Array Bool}{X:World}(h:Yk W u ob gh listed X)(h7:listed.getD 7 false=true):Yk W u ob gh (listed.setIfInBounds 11 true) X:=by
 refine⟨h.bel,fun e=>h.sl h7,fun e=> ?_,fun e=> ?_,fun e=> ?_,fun e=> ?_⟩
 ·rw [getD_set_ne false (by decide)] at e;exact h.nd e
 ·rw [getD_set_ne false (by decide)];exact h7
 ·rw [getD_set_ne false (by decide)] at e;exact getD_set_true (h.o12 e)
 ·rw [getD_set_ne false (by decide)] at e;rw [getD_set_ne false (by decide)];exact h.o13 e
theorem Yk.last{W:World}{u:Value}{ob:Nat->Obj}{gh:Nat×Nat}{listed:Array Bool}{X:World}(h:Yk W u ob gh listed X)(h12:listed.getD 12 false=true):Yk W u ob gh (listed.setIfInBounds 13 true) X:=by
 refine⟨h.bel,fun e=> ?_,fun e=>h.nd h12,fun e=> ?_,fun e=> ?_,fun e=> ?_⟩
 ·rw [getD_set_ne false (by decide)] at e;exact h.sl e
 ·rw [getD_set_ne false (by decide)] at e;rw [getD_set_ne false (by decide)];exact h.o11 e
 ·rw [getD_set_ne false (by decide)] at e;rw [getD_set_ne false (by decide)];exact h.o12 e
 ·rw [getD_set_ne false (by decide)];exact h12
theorem Yk.made{W:World}{u v:Value}{ob:Nat->Obj}{gh:Nat×Nat}{listed:Array Bool}{X:World}{told:Nat×Nat->Nat->Value}(h:Yk W u ob gh listed X)(hin:7<listed.size)(hun:¬listed.getD 7 false=true)
  (hsame:∀(c' q':Nat) (i:Nat),i≠7->i≠11->i≠12->i≠13->told (c',q') i=told gh i) (hv:v=told (X.heap.size,gh.2) 7):Reg.GoodG told (Yk W u ob) 7 gh listed v (X.alloc (.cells #[u] 45)):=by
 have n11:¬listed.getD 11 false=true:=fun e=>hun (h.o11 e)
 have n12:¬listed.getD 12 false=true:=fun e=>n11 (h.o12 e)
 have n13:¬listed.getD 13 false=true:=fun e=>n12 (h.o13 e)
 refine⟨(X.heap.size,gh.2),fun i hi=>hsame _ _ i (fun e=>hun (e ▸ hi)) (fun e=>n11 (e ▸ hi)) (fun e=>n12 (e ▸ hi)) (fun e=>n13 (e ▸ hi)),hv,⟨h.bel.trans ((j3 _ _).mono h.bel.size),fun _=>⟨j1 _ _,h.bel.size⟩,fun e=> ?_,fun e=>Reg.set_self hin,fun e=> ?_,fun e=> ?_⟩⟩
 ·rw [getD_set_ne false (by decide)] at e;exact absurd e n12
 ·rw [getD_set_ne false (by decide)] at e;exact absurd e n12
 ·rw [getD_set_ne false (by decide)] at e;exact absurd e n13
theorem Yk.boxed{W:World}{u v:Value}{ob:Nat->Obj}{gh:Nat×Nat}{listed:Array Bool}{X:World}{told:Nat×Nat->Nat->Value}(h:Yk W u ob gh listed X)(hin:12<listed.size)(hun:¬listed.getD 12 false=true)(h11:listed.getD 11 false=true)
  (hsame:∀(q':Nat) (i:Nat),i≠12->i≠13->told (gh.1,q') i=told gh i) (hv:v=told (gh.1,X.heap.size) 12):Reg.GoodG told (Yk W u ob) 12 gh listed v (X.alloc (ob gh.1)):=by
 have n13:¬listed.getD 13 false=true:=fun e=>hun (h.o13 e)
 have hs:=h.sl (h.o11 h11);refine⟨(gh.1,X.heap.size),fun i hi=>hsame _ i (fun e=>hun (e ▸ hi)) (fun e=>n13 (e ▸ hi)),hv,⟨h.bel.trans ((j3 _ _).mono h.bel.size),fun _=>⟨j4 (j3 _ _) hs.1,hs.2⟩,fun _=>⟨j1 _ _,h.bel.size⟩,fun _=> ?_,fun _=> ?_,fun e=>Reg.set_self hin⟩⟩
 ·rw [getD_set_ne false (by decide)];exact h.o11 h11
 ·rw [getD_set_ne false (by decide)];exact h11
def xj(g b7 a b:Nat)(x:jp×Nat×Nat)(u:Value)(gh:Nat×Nat):Nat->Value
 |0=>.pointer (some ⟨b7,7,none⟩)
 |1=>.int .i64 x.1.lo
 |2=>.pointer (some ⟨b7,8,none⟩)
 |3=>.int .i64 x.1.hi
 |4=>.pointer (some ⟨b7,9,none⟩)
 |5=>.bool x.1.lazy
 |6=>u
 |7=>.slice (some ⟨gh.1,0,none⟩) 1 1
 |8=>.pointer (some ⟨g,0,none⟩)
 |9=>.int .i64 (a:Int)
 |10=>.agg #[.int .i64 (a:Int),.int .i64 (b:Int)]
 |11=>.agg #[.int .i64 6,.int .u64 j7.a,.int .u64 j7.b,.int .u64 j7.c,.int .u64 j7.d,.int .i64 x.1.lo,.int .i64 x.1.hi,.bool x.1.lazy,.slice (some ⟨gh.1,0,none⟩) 1 1,.int .i64 (a:Int),.int .i64 (b:Int)]
 |12=>.pointer (some ⟨gh.2,0,none⟩)
 |13=>.pointer (some ⟨gh.2,0,none⟩)
 |14=>.int .i64 0
 |_=>undef
theorem Z9{g b7 a b:Nat}{x:jp×Nat×Nat}{u:Value}{gh:Nat×Nat}{q' i:Nat}(h1:i≠12)(h2:i≠13):xj g b7 a b x u (gh.1,q') i=xj g b7 a b x u gh i:=by
 unfold xj
 split<;>first|rfl|(exact absurd rfl h1)|(exact absurd rfl h2)
theorem Vs{g b7 a b:Nat}{x:jp×Nat×Nat}{u:Value}{gh:Nat×Nat}{c' q' i:Nat}(h1:i≠7)(h2:i≠11)(h3:i≠12)(h4:i≠13):xj g b7 a b x u (c',q') i=xj g b7 a b x u gh i:=by
 unfold xj
 split<;>first|rfl|(exact absurd rfl h1)|(exact absurd rfl h2)|(exact absurd rfl h3)|(exact absurd rfl h4)
def JQ:Nat->List (Nat×Nat)
 |0=> [(7,0)]
 |1=> [(32,1)]
 |2=> [(7,0)]
 |3=> [(34,3)]
 |4=> [(7,0)]
 |5=> [(36,5)]
 |8=> [(0,0)]
 |9=> [(4,0)]
 |_=> []
theorem pitem_any(g gt:Nat)(L:jq)(size i r d n:Nat)(w:World)(h:PsAt w g gt L size i r d)
  (hS:Calls Tryz.prog 224 #[.pointer (some ⟨g,0,none⟩)] w fun e w'=>POut w w' g gt L size d (ko L size n d i) e):
  Calls Tryz.prog 186 #[.pointer (some ⟨g,0,none⟩)] w fun e w'=>POut w w' g gt L size d (itemF L size (n+1) d i) e:=by
 have hlt:=h.lt;have hsum:=h.sum;have PL:=j0 (pplace_any g gt L size i r d w h);have HS:=j0 hS
 have HI:Hid (itemF L size (n+1) d i=xw (ko L size n d i) fun j t=>
  if jR L j=5 then(0,j+1,some (.mk 6 j7 (xv L j).lo (xv L j).hi (xv L j).lazy (ki L size i) (ki L size (j+1)) [t])) else(0,j,some t)):=j0 (by rw [itemF])
 have hres:=(xD L size n).2.2.2.2.1 d i (by omega);clear h hS hsum;obtain⟨a,ha⟩:∃a,a=ki L size i:=⟨_,rfl⟩;rw [<-ha] at PL HI;clear ha;generalize ko L size n d i=res at*
 go_enter Tryz.func186,Tryz.ntmps186
 go_wp2_with fail
 refine PL.out.mono ?_;rintro e w1 ⟨rfl,hw⟩;obtain rfl:w=w1:=hw.symm
 go_wp2_with fail
 refine HS.out.mono ?_;rintro e w2 ⟨v,r2,rfl,h2,ht2⟩;have H2:=j0 h2;have HV:=j0 ht2;clear h2 ht2 PL HS
 rcases hres.cases with ⟨j,t,hr,hij,hjl⟩|⟨c,j,hr,hc,hjl⟩
 ·subst hr;have H2:Hid (Ps w w2 g gt L size j r2 d):=H2;have HV:Hid (jJ w2 (fun b=>w.heap.size<=b) t v):=HV;obtain⟨qv,rfl⟩:=HV.out.pointer;have SE:Hid (Calls Tryz.prog 185 #[.pointer (some ⟨g,0,none⟩),.int .i64 5] w2 fun e w'=>e=.returned (.bool (decide (jR L j=5)))/\w'=w2):=j0 (psees_any g gt L size j r2 d 5 w2 H2.out.1);have hl2:=H2.out.1.lt;clear hres
  by_cases k5:jR L j=5
  ·rw [jT k5] at SE;have hin:=qq k5 (by decide);obtain⟨r3,rfl⟩:∃r3,r2=r3+1:=⟨r2-1,by have:=H2.out.1.sum;omega⟩;obtain⟨x,hx⟩:∃x,L[j]? =some x:=⟨_,List.getElem?_eq_getElem hin⟩;have HF:Hid (itemF L size (n+1) d i=(0,j+1,some (.mk 6 j7 x.1.lo x.1.hi x.1.lazy a (ki L size (j+1)) [t]))):=j0 (by rw [HI.out,ky,if_pos k5];unfold xv;rw [hx]);have TK:=j0 (zD g gt L size j r3 d w2 H2.out.1 x hx);clear hx hin k5 HI;obtain⟨b,hb⟩:∃b,b=ki L size (j+1):=⟨_,rfl⟩;rw [<-hb] at HF;have HB:Hid (ki L size (j+1)=b):=j0 hb.symm;clear hb
   go_wp2_with fail
   refine SE.out.mono ?_;rintro e w3 ⟨rfl,hw⟩;obtain rfl:w2=w3:=hw.symm
   go_wp2_with fail
   refine TK.out.mono ?_;rintro e w4 ⟨rfl,h4⟩;have H4:=j0 (H2.out.trans h4);have HV4:=j0 (HV.out.keep h4.2 (fun b hb e=>by injection e with e;omega));have hszW:w.heap.size<=(w4.alloc (J2 x)).heap.size:=Nat.le_trans H4.out.2.size (j3 w4 (J2 x)).size;have HTK:=j0 (j1 w4 (J2 x));have HPW:=j0 (h4.1.below (j3 w4 (J2 x)));have SPN:=j0 (fun X (hX:PsAt X g gt L size (j+1) r3 d)=>xR g gt L size (j+1) r3 d a X hX);rw [HB.out] at SPN;have hl4:=h4.1.lt;have HBW:=j0 (j3 w4 (J2 x));clear h4 TK SE H2 HV HB
   go_upto_region 6 with fail
   obtain⟨W,hW⟩:∃X,X=w4.alloc (J2 x):=⟨_,rfl⟩;rw [<-hW] at HTK HPW HBW hszW;change Code.wp _ _ _ _ (w4.alloc (J2 x));rw [<-hW];clear hW;obtain⟨b7,hb7⟩:∃b,b=w4.heap.size:=⟨_,rfl⟩;rw [<-hb7] at HTK ⊢;clear hb7 hl4 hl2;refine Reg.wp_region_G (xj g b7 a b x (.pointer (some ⟨qv,0,none⟩))) (Yk W (.pointer (some ⟨qv,0,none⟩)) (fun c=>vn 6 j7 x.1.lo x.1.hi x.1.lazy (.slice (some ⟨c,0,none⟩) 1 1) a b)) (0,0) [0,1,2,3,4,5,6,7,8,9,10,11,12,13,14] (by rfl) (by kernel_rfl) (by kernel_rfl) ?_ ?_ ?_
   ·exact⟨⟨rfl,rfl,rfl,jN _,fun _ _=>rfl⟩,(fun e=>by simp at e),(fun e=>by simp at e),(fun e=>by simp at e),(fun e=>by simp at e),(fun e=>by simp at e)⟩
   ·iterate 6
     refine⟨fun gh listed A X hI hin hun hall=>⟨Reg.wn,?_⟩,?_⟩
     ·have E:=hI.tf hun hall JQ;simp only [Reg.TF,JQ,xj,Reg.la,Reg.lb,Reg.lc] at E;have HS:=hI.st;obtain⟨y0,y1,y2,y3,y4,y5,y6,y7,y8,y9,hy⟩:=VQ (j4 HS.bel HTK.out);clear hI;unfold Reg.Yields
      go_simp
      exact Reg.goodG_same rfl (HS.up (by decide) (by decide) (by decide) (by decide) (Below.refl _ _))
    refine⟨fun gh listed A X hI hin hun hall=>⟨Reg.wn,?_⟩,?_⟩
    ·have e5:=hI.wo 5 rfl;have HS:=hI.st;clear hI;unfold Reg.Yields
     go_simp
     exact Reg.goodG_same rfl (HS.up (by decide) (by decide) (by decide) (by decide) (Below.refl _ _))
    refine⟨fun gh listed A X hI hin hun hall=>⟨Reg.wn,?_⟩,?_⟩
    ·have e38:A.tmps[38]? =some (.pointer (some ⟨qv,0,none⟩)):=hI.v hall 6 38;have HS:=hI.st;clear hI;unfold Reg.Yields
     go_simp
     exact HS.made (told:=xj g b7 a b x (.pointer (some ⟨qv,0,none⟩))) hin (by simpa using hun) (fun c' q' i h1 h2 h3 h4=>Vs h1 h2 h3 h4) rfl
    iterate 2
     refine⟨fun gh listed A X hI hin hun hall=>⟨Reg.wn,?_⟩,?_⟩
     ·have E:=hI.tf hun hall JQ;simp only [Reg.TF,JQ,Reg.la,Reg.lb,Reg.lc] at E;have HS:=hI.st;clear hI;unfold Reg.Yields
      go_simp
      exact Reg.goodG_same rfl (HS.up (by decide) (by decide) (by decide) (by decide) (Below.refl _ _))
    refine⟨fun gh listed A X hI hin hun hall=>⟨Reg.wn,?_⟩,?_⟩
    ·have e40:A.tmps[40]? =some (.pointer (some ⟨g,0,none⟩)):=hI.v hall 8 40;have e41:A.tmps[41]? =some (.int .i64 (a:Int)):=hI.v hall 9 41;have HS:=hI.st;clear hI;unfold Reg.Yields
     go_simp
     exact(SPN.out X (HPW.out.below HS.bel)).mono fun e w'' ⟨he,hb⟩=>⟨_,he,Reg.goodG_same rfl (HS.up (by decide) (by decide) (by decide) (by decide) hb)⟩
    refine⟨fun gh listed A X hI hin hun hall=>⟨Reg.wn,?_⟩,?_⟩
    ·have e33:A.tmps[33]? =some (.int .i64 x.1.lo):=hI.v hall 1 33;have e35:A.tmps[35]? =some (.int .i64 x.1.hi):=hI.v hall 3 35;have e37:A.tmps[37]? =some (.bool x.1.lazy):=hI.v hall 5 37;have e39:A.tmps[39]? =some (.slice (some ⟨gh.1,0,none⟩) 1 1):=hI.v hall 7 39;have e42:A.tmps[42]? =some (.agg #[.int .i64 (a:Int),.int .i64 (b:Int)]):=hI.v hall 10 42;have h7:listed.getD 7 false=true:=hall ⟨7,.data⟩ (by simp) rfl;have HS:=hI.st;clear hI;unfold Reg.Yields
     go_simp
     exact Reg.goodG_same rfl (HS.at11 h7)
    refine⟨fun gh listed A X hI hin hun hall=>⟨Reg.wn,?_⟩,?_⟩
    ·have e43:A.tmps[43]? =some (.agg #[.int .i64 6,.int .u64 j7.a,.int .u64 j7.b,.int .u64 j7.c,.int .u64 j7.d,.int .i64 x.1.lo,.int .i64 x.1.hi,.bool x.1.lazy,.slice (some ⟨gh.1,0,none⟩) 1 1,.int .i64 (a:Int),.int .i64 (b:Int)]):=hI.v hall 11 43;have h11:listed.getD 11 false=true:=hall ⟨11,.data⟩ (by simp) rfl;have HS:=hI.st;clear hI;unfold Reg.Yields
     go_simp
     exact HS.boxed (told:=xj g b7 a b x (.pointer (some ⟨qv,0,none⟩))) hin (by simpa using hun) h11 (fun q' i h1 h2=>Z9 h1 h2) rfl
    refine⟨fun gh listed A X hI hin hun hall=>⟨Reg.wn,?_⟩,?_⟩
    ·have e44:A.tmps[44]? =some (.pointer (some ⟨gh.2,0,none⟩)):=hI.v hall 12 44;have h12:listed.getD 12 false=true:=hall ⟨12,.data⟩ (by simp) rfl;have HS:=hI.st;clear hI;unfold Reg.Yields
     go_simp
     exact Reg.goodG_same rfl (HS.last h12)
    refine⟨fun gh listed A X hI hin hun hall=>⟨Reg.wn,?_⟩,?_⟩
    ·have HS:=hI.st;clear hI;unfold Reg.Yields
     go_simp
     exact Reg.goodG_same rfl (HS.up (by decide) (by decide) (by decide) (by decide) (Below.refl _ _))
    trivial
   ·intro gh W9 hS;have HC:=j0 (hS.sl (by rfl)).1;have HQ:=j0 (hS.nd (by rfl)).1;have hc1:=(hS.sl (by rfl)).2;have hq1:=(hS.nd (by rfl)).2;have HB9:=j0 hS.bel;have hg:=HPW.out.lt;clear hS;simp [Reg.finalTmps,Reg.dstAt,Reg.valOf,xj]
    go_wp2_with fail
    refine bodyPost_ret (v:=.tuple #[.pointer (some ⟨gh.2,0,none⟩),.int .i64 0]) (by simp [results,Tryz.results186,go_sem]) rfl (POut.good HF.out ((H4.out.below HBW.out).below HB9.out) ?_);exact tr_one (w:=w) ((HV4.out.up HBW.out).up HB9.out) HC.out (Nat.le_trans hszW hc1) (Nat.le_trans hszW hq1) HQ.out rfl
  ·rw [jF k5] at SE;have HF:Hid (itemF L size (n+1) d i=(0,j,some t)):=j0 (by rw [HI.out,ky,if_neg k5]);clear k5 HI
   go_wp2_with fail
   refine SE.out.mono ?_;rintro e w3 ⟨rfl,hw⟩;obtain rfl:w2=w3:=hw.symm
   go_wp2_with fail
   refine bodyPost_ret (v:=.tuple #[.pointer (some ⟨qv,0,none⟩),.int .i64 0]) (by simp [results,Tryz.results186,go_sem]) rfl (POut.good HF.out H2.out HV.out)
 ·subst hr;have HF:Hid (itemF L size (n+1) d i=(c,j,none)):=j0 (by rw [HI.out,kE]);have hv:v=.pointer none:=HV.out;subst hv;have H2:Hid (Ps w w2 g gt L size j r2 d):=H2;have hc1:((c:Int) !=0)=true:=by simp;omega
  have hc2:((c:Int)==0)=false:=by simp;omega
  clear HV hres HI hc
  go_wp2_with fail
  refine bodyPost_ret (v:=.tuple #[.pointer none,.int .i64 c]) (by simp [results,Tryz.results186,go_sem]) rfl (POut.bad HF.out H2.out)
theorem Tryz.infoNd:(Tryz.prog.info? 45).map (fun i=>(i.zero,i.size,i.bytes))=some (some (.pointer none),1,8):=by kernel_rfl
theorem ZE(q:Nat):∀u∈ [Value.pointer (some ⟨q,0,none⟩)],u.oneCell'=true:=by
 intro u hu;obtain rfl:u=.pointer (some ⟨q,0,none⟩):=by simpa using hu
 rfl
def goB(L:jq)(j:Nat):Bool:= !(decide (L.length<=j)||decide (jR L j=4)||decide (jR L j=3))
theorem PsAt.grown{w w':World}{g gt:Nat}{L:jq}{size i r d:Nat}{row:Option Nat}(h:PsAt w g gt L size i r d)(hg:w.grownBy w' row)(h1:row≠some g)(h2:∀(k:Nat) (x:jp×Nat×Nat),L[k]? =some x->row≠some gt):PsAt w' g gt L size i r d:=by
 obtain⟨⟨p,cap,k1,k2,k3⟩,h4,h5,⟨h6,h7⟩,h8,h9,h10⟩:=h;have hb:w'.heap[g]? =w.heap[g]? :=hg.block g h8 (fun e=>h1 e.symm);refine⟨⟨p,cap,hg.cell k1 (fun e=>h1 e.symm),k2,k3⟩,hg.cell h4 (fun e=>h1 e.symm),hg.cell h5 (fun e=>h1 e.symm),⟨(World.frozen?_of_block (w:=w) (a:=⟨g,0,none⟩) hb).trans h6,(World.frozen?_of_block (w:=w) (a:=⟨g,2,none⟩) hb).trans h7⟩,Nat.lt_of_lt_of_le h8 hg.size,h9,fun k x hk=> ?_⟩;obtain⟨m1,m2,m3⟩:=h10 k x hk;exact⟨Nat.lt_of_lt_of_le m1 hg.size,m2,fun o u ho=>hg.cell (m3 o u ho) (fun e=>h2 k x hk e.symm)⟩
theorem grown_on{a w1 w2:World}{g:Nat}{row:Option Nat}(h:a.grownBy w1 (some g))(k:w1.grownBy w2 row)(hr:∀b,row=some b->a.heap.size<=b):a.grownBy w2 (some g):=
 ⟨k.os.trans h.os,k.tape.trans h.tape,k.output.trans h.output,Nat.le_trans h.size k.size,fun b hb hne=>(k.block b (Nat.lt_of_lt_of_le hb h.size) (fun e=>by have:=hr b e.symm;omega)).trans (h.block b hb hne)⟩
theorem Ps.app{w w2 w4:World}{g gt:Nat}{L:jq}{size i r d:Nat}{row:Option Nat}{o:Obj}(h:Ps w w2 g gt L size i r d)(hg:(w2.alloc o).grownBy w4 row)(hr:∀b,row=some b->w.heap.size<=b)(h0:g<w.heap.size)(ht:∀(k:Nat) (x:jp×Nat×Nat),L[k]? =some x->gt<w.heap.size):Ps w w4 g gt L size i r d:=
 ⟨(h.1.below (j3 w2 o)).grown hg (fun e=>by have:=hr g e;omega) (fun k x hk e=>by have:=hr gt e;have:=ht k x hk;omega),grown_on (h.below (j3 w2 o)).2 hg hr⟩
theorem catR_more{l:List Tr}{a b:Nat}(h:l≠ []):QO l a b=xC 4 l a b:=by
 cases l with
 |nil=>exact absurd rfl h
 |cons t l=>rfl
theorem palt_any(g gt:Nat)(L:jq)(size i r d n:Nat)(w:World)(h:PsAt w g gt L size i r d)(hL:L.length<=1048576)(hn:6*r+4<=n)
  (hI:∀(W:World) (j r' m:Nat),PsAt W g gt L size j r' d->i<=j->6*r'+3<=m->Calls Tryz.prog 186 #[.pointer (some ⟨g,0,none⟩)] W fun e w'=>POut W w' g gt L size d (itemF L size m d j) e):
  Calls Tryz.prog 135 #[.pointer (some ⟨g,0,none⟩)] w fun e w'=>POut w w' g gt L size d (kF L size n d i i []) e:=by
 have PL:=j0 (pplace_any g gt L size i r d w h);have H0:=j0 h;have hlt:=h.lt;have HGT:Hid (∀(k:Nat) (x:jp×Nat×Nat),L[k]? =some x->gt<w.heap.size):=j0 (fun k x hk=>(h.toks k x hk).1);obtain⟨i0,hif,hy0,hy1,hy2⟩:=info_parts Tryz.infoNd;have HI:=j0 hI;clear h hI;obtain⟨a,ha⟩:∃a,a=ki L size i:=⟨_,rfl⟩;have HA:Hid (ki L size i=a):=j0 ha.symm;rw [<-ha] at PL;clear ha
 go_enter Tryz.func135,Tryz.ntmps135
 go_wp2_with fail
 refine PL.out.mono ?_;rintro e w1 ⟨rfl,hw⟩;obtain rfl:w=w1:=hw.symm
 go_wp2_with fail
 clear PL
 go_loopg [5] r (fun rr v wr=>∃(j r' m:Nat) (acc:List Tr) (us:List Value),r'=rr/\i<=j/\6*r'+4<=m/\acc.length<=j/\Hid (Ps w wr g gt L size j r' d)/\Hid (Jc w.heap.size acc us v wr)/\Hid (kF L size n d i i []=kF L size m d j i acc))
 case atStart=>exact⟨i,r,n,[],[],rfl,jN _,hn,by simp,j0 (Ps.refl H0.out),j0 (Jc.start _ _),j0 rfl⟩
 case round=>
  clear H0;obtain⟨j,r',m,acc,us,hrr,hij,hm,hal,HP,HG,HR⟩:=hrel;have hsum:=HP.out.1.sum;have hszr:=HP.out.2.size
  go_upto_region 3 with fail
  go_cut [30] (fun x wx=>x=.bool (goB L j)/\wx=wr)
  case first=>
   have EN:=j0 (yq g gt L size j r' d wr HP.out.1);have S4:Hid (Calls Tryz.prog 185 #[.pointer (some ⟨g,0,none⟩),.int .i64 4] wr fun e w'=>e=.returned (.bool (decide (jR L j=4)))/\w'=wr):=j0 (psees_any g gt L size j r' d 4 wr HP.out.1);have S3:Hid (Calls Tryz.prog 185 #[.pointer (some ⟨g,0,none⟩),.int .i64 3] wr fun e w'=>e=.returned (.bool (decide (jR L j=3)))/\w'=wr):=j0 (psees_any g gt L size j r' d 3 wr HP.out.1)
   by_cases h0:r'=0
   ·have HD:Hid (goB L j=false):=j0 (by unfold goB;rw [jT (by omega:L.length<=j)];rfl);rw [jT h0] at EN;clear h0
    go_wp2_with fail
    refine EN.out.mono ?_;rintro e w1 ⟨rfl,hw⟩;obtain rfl:wr=w1:=hw.symm
    go_wp2_with fail
    go_meet
    exact⟨by rw [HD.out],rfl⟩
   ·rw [jF h0] at EN
    by_cases h4:jR L j=4
    ·have HD:Hid (goB L j=false):=j0 (by unfold goB;rw [jT h4];simp);rw [jT h4] at S4;clear h0 h4
     go_wp2_with fail
     refine EN.out.mono ?_;rintro e w1 ⟨rfl,hw⟩;obtain rfl:wr=w1:=hw.symm
     go_wp2_with fail
     refine S4.out.mono ?_;rintro e w1 ⟨rfl,hw⟩;obtain rfl:wr=w1:=hw.symm
     go_wp2_with fail
     go_meet
     exact⟨by rw [HD.out],rfl⟩
    ·rw [jF h4] at S4
     by_cases h3:jR L j=3
     ·have HD:Hid (goB L j=false):=j0 (by unfold goB;rw [jT h3];simp);rw [jT h3] at S3;clear h0 h4 h3
      go_wp2_with fail
      refine EN.out.mono ?_;rintro e w1 ⟨rfl,hw⟩;obtain rfl:wr=w1:=hw.symm
      go_wp2_with fail
      refine S4.out.mono ?_;rintro e w1 ⟨rfl,hw⟩;obtain rfl:wr=w1:=hw.symm
      go_wp2_with fail
      refine S3.out.mono ?_;rintro e w1 ⟨rfl,hw⟩;obtain rfl:wr=w1:=hw.symm
      go_wp2_with fail
      go_meet
      exact⟨by rw [HD.out],rfl⟩
     ·have HD:Hid (goB L j=true):=j0 (by unfold goB;rw [jF h4,jF h3,jF (by omega:¬L.length<=j)];rfl);rw [jF h3] at S3;clear h0 h4 h3
      go_wp2_with fail
      refine EN.out.mono ?_;rintro e w1 ⟨rfl,hw⟩;obtain rfl:wr=w1:=hw.symm
      go_wp2_with fail
      refine S4.out.mono ?_;rintro e w1 ⟨rfl,hw⟩;obtain rfl:wr=w1:=hw.symm
      go_wp2_with fail
      refine S3.out.mono ?_;rintro e w1 ⟨rfl,hw⟩;obtain rfl:wr=w1:=hw.symm
      go_wp2_with fail
      go_meet
      exact⟨by rw [HD.out],rfl⟩
  case rest=>
   obtain⟨rfl,hwc⟩:=hcut;obtain rfl:wr=wc:=hwc.symm;obtain⟨m',rfl⟩:∃m',m=m'+1:=⟨m-1,by omega⟩
   cases hgo:goB L j
   ·have hst:L.length<=j\/jR L j=4\/jR L j=3:=by unfold goB at hgo;simp at hgo;omega
    have HF:Hid (kF L size n d i i []=(0,j,some (QO acc a (ki L size j)))):=j0 (by rw [HR.out,kF,if_pos hst,HA.out]);clear HR HI hst hgo
    by_cases hnil:acc= []
    ·subst hnil;obtain⟨b,hb⟩:∃b,b=ki L size j:=⟨_,rfl⟩;have SP:=j0 (xR g gt L size j r' d a wr HP.out.1);rw [<-hb] at HF SP;clear hb;obtain⟨p,cap,us',rfl,_,_⟩:=HG.out.at;clear HG
     go_wp2_with fail
     refine SP.out.mono ?_;rintro e w2 ⟨rfl,hb2⟩;have HB2:=j0 hb2;have hsz2:=hb2.size;clear hb2 SP
     go_wp2_with fail
     refine bodyPost_ret (v:=.tuple #[.pointer (some ⟨w2.heap.size,0,none⟩),.int .i64 0]) (by simp [results,Tryz.results135,go_sem]) rfl (POut.good HF.out (HP.out.below (HB2.out.trans ((j3 w2 (vn 0 j7 0 0 false (.slice none 0 0) a b)).mono hsz2))) ?_);exact .node 0 j7 0 0 false a b [] w2.heap.size none 0 (fun _=>undef) (by omega) (j1 _ _) (fun i t hi=>by simp at hi) (fun i t hi=>by simp at hi)
    ·have HF:Hid (kF L size n d i i []=(0,j,some (xC 4 acc a (ki L size j)))):=j0 (by rw [HF.out,catR_more hnil])
     have d0:((acc.length:Int)==0)=false:=by
      have:acc.length≠0:=fun e=>hnil (List.length_eq_zero_iff.1 e)
      simp;omega
     have JN:=j0 (Ky g gt w.heap.size L size j r' d a 4 acc us _ wr HP.out.1 HG.out (by omega) hszr);obtain⟨p,cap,us',rfl,_,_⟩:=HG.out.at;clear HG hnil
     go_wp2_with fail
     refine JN.out.mono ?_;rintro e w2 ⟨⟨u,rfl,ht⟩,hb2⟩;have HT2:=j0 ht;have HB2:=j0 hb2;clear ht hb2 JN
     go_wp2_with fail
     refine bodyPost_ret (v:=.tuple #[u,.int .i64 0]) (by simp [results,Tryz.results135,go_sem]) rfl (POut.good HF.out (HP.out.below HB2.out) HT2.out)
   ·have hst:¬(L.length<=j\/jR L j=4\/jR L j=3):=by
     unfold goB at hgo;simp at hgo;rintro(h|h|h)
     ·omega
     ·exact hgo.1.2 h
     ·exact hgo.2 h
    have HRS:Hid (kF L size n d i i []=xw (itemF L size m' d j) fun j' t=>kF L size m' d j' i (acc++ [t])):=j0 (by rw [HR.out,kF,if_neg hst]);have IT:=j0 (HI.out wr j r' m' HP.out.1 hij (by omega));have hres:=(xD L size m').2.2.2.1 d j (by omega);have HLO:=j0 (fun b hb=>(kl HG.out.own (g:=b) hb).2);have HOW:=j0 (fun b hb=>(kl HG.out.own (g:=b) hb).1);clear HR hst hgo;generalize itemF L size m' d j=res at*
    go_wp2_with fail
    refine IT.out.mono ?_;rintro e w2 ⟨v,r2,rfl,h2,ht2⟩;have HP2:=j0 (HP.out.trans h2);have HV:=j0 ht2;have HG2:=j0 (HG.out.keep h2.2 hlt);have hsz2:=h2.2.size;clear h2 ht2 IT HP HG
    rcases hres.cases with ⟨j2,t,hr,hjj,hjl⟩|⟨c,j2,hr,hc,hjl⟩
    ·subst hr;have HP2:Hid (Ps w w2 g gt L size j2 r2 d):=HP2;have HV:Hid (jJ w2 (fun b=>wr.heap.size<=b) t v):=HV;have hsum2:=HP2.out.1.sum;have HR2:Hid (kF L size n d i i []=kF L size m' d j2 i (acc++ [t])):=j0 (by rw [HRS.out,ky]);obtain⟨qv,rfl⟩:=HV.out.pointer;clear hres HRS
     go_wp2_with (at_builtin;go_must (refine wpList_append_own_at _ rfl (.tmp 39) (.tmp 41) 182 rfl w.heap.size 45 i0 (.pointer none) 1 8 Tryz.underlying182 hif hy0 hy1 hy2 rfl (by decide) _ acc.length us rfl (kt HG2.out.own _) ⟨_,0,none⟩ 1 1 _ rfl rfl (cell_one_new _ _ _) (ZE _) (by unfold maxLen;omega) (by omega) (by simp;omega) ?_;intro v4 w4 ho hg4 _ hat;have HG4:=j0 (HG2.out.add (lo:=wr.heap.size) HLO.out hszr HV.out ho hg4 hat);have HP4:=j0 (Ps.app HP2.out hg4 HOW.out hlt HGT.out);clear ho hg4 hat))
     clear HG2 HP2 HV HLO HOW
     go_roundg r2
     case measure=>omega
     case rel=>exact⟨j2,r2,m',acc++ [t],_,rfl,by omega,by omega,by simp;omega,HP4,HG4,HR2⟩
    ·subst hr;have HP2:Hid (Ps w w2 g gt L size j2 r2 d):=HP2;have hv:v=.pointer none:=HV.out;subst hv;have HF:Hid (kF L size n d i i []=(c,j2,none)):=j0 (by rw [HRS.out,kE]);have hc1:((c:Int) !=0)=true:=by simp;omega
     have hc2:((c:Int)==0)=false:=by simp;omega
     clear HV hres HRS hc
     go_wp2_with fail
     refine bodyPost_ret (v:=.tuple #[.pointer none,.int .i64 c]) (by simp [results,Tryz.results135,go_sem]) rfl (POut.bad HF.out HP2.out)
theorem ppat_any(g gt:Nat)(L:jq)(size i r d n:Nat)(w:World)(h:PsAt w g gt L size i r d)(hL:L.length<=1048576)(hn:6*r+6<=n)
  (hA:∀(W:World) (j r' m:Nat),PsAt W g gt L size j r' d->i<=j->6*r'+4<=m->Calls Tryz.prog 135 #[.pointer (some ⟨g,0,none⟩)] W fun e w'=>POut W w' g gt L size d (kF L size m d j j []) e):
  Calls Tryz.prog 92 #[.pointer (some ⟨g,0,none⟩)] w fun e w'=>POut w w' g gt L size d (xI L size n d i) e:=by
 obtain⟨n,rfl⟩:∃n',n=n'+1:=⟨n-1,by omega⟩;have PL:=j0 (pplace_any g gt L size i r d w h);have H0:=j0 h;have hlt:=h.lt;have HGT:Hid (∀(k:Nat) (x:jp×Nat×Nat),L[k]? =some x->gt<w.heap.size):=j0 (fun k x hk=>(h.toks k x hk).1);obtain⟨i0,hif,hy0,hy1,hy2⟩:=info_parts Tryz.infoNd;have HI:=j0 hA;clear h hA;rw [xI];obtain⟨a,ha⟩:∃a,a=ki L size i:=⟨_,rfl⟩;have HA:Hid (ki L size i=a):=j0 ha.symm;rw [<-ha] at PL;clear ha
 go_enter Tryz.func92,Tryz.ntmps92
 go_wp2_with fail
 refine PL.out.mono ?_;rintro e w1 ⟨rfl,hw⟩;obtain rfl:w=w1:=hw.symm
 go_wp2_with fail
 clear PL
 go_loopg [5] r (fun rr v wr=>∃(j r' m:Nat) (acc:List Tr) (us:List Value),r'=rr/\i<=j/\6*r'+5<=m/\acc.length<=j/\Hid (Ps w wr g gt L size j r' d)/\Hid (Jc w.heap.size acc us v wr)/\Hid (altsF L size n d i i []=altsF L size m d j i acc))
 case atStart=>exact⟨i,r,n,[],[],rfl,jN _,by omega,by simp,j0 (Ps.refl H0.out),j0 (Jc.start _ _),j0 rfl⟩
 case round=>
  clear H0;obtain⟨j,r',m,acc,us,hrr,hij,hm,hal,HP,HG,HR⟩:=hrel;have hsum:=HP.out.1.sum;have hszr:=HP.out.2.size;obtain⟨m',rfl⟩:∃m',m=m'+1:=⟨m-1,by omega⟩;have HRS:Hid (altsF L size n d i i []=xw (kF L size m' d j j []) fun j' t=>if jR L j'=4 then altsF L size m' d (j'+1) i (acc++ [t]) else(0,j',some (xC 5 (acc++ [t]) a (ki L size j')))):=j0 (by rw [HR.out,altsF,HA.out]);have IT:=j0 (HI.out wr j r' m' HP.out.1 hij (by omega));have hres:=(xD L size m').2.2.1 d j j [] (by omega);have HLO:=j0 (fun b hb=>(kl HG.out.own (g:=b) hb).2);have HOW:=j0 (fun b hb=>(kl HG.out.own (g:=b) hb).1);clear HR;generalize kF L size m' d j j []=res at*
  go_wp2_with fail
  refine IT.out.mono ?_;rintro e w2 ⟨v,r2,rfl,h2,ht2⟩;have HP2:=j0 (HP.out.trans h2);have HV:=j0 ht2;have HG2:=j0 (HG.out.keep h2.2 hlt);have hsz2:=h2.2.size;clear h2 ht2 IT HP HG
  rcases hres.cases with ⟨j2,t,hr,hjj,hjl⟩|⟨c,j2,hr,hc,hjl⟩
  ·subst hr;have HP2:Hid (Ps w w2 g gt L size j2 r2 d):=HP2;have HV:Hid (jJ w2 (fun b=>wr.heap.size<=b) t v):=HV;have hsum2:=HP2.out.1.sum;obtain⟨qv,rfl⟩:=HV.out.pointer;clear hres
   go_wp2_with (at_builtin;go_must (refine wpList_append_own_at _ rfl (.tmp 20) (.tmp 22) 182 rfl w.heap.size 45 i0 (.pointer none) 1 8 Tryz.underlying182 hif hy0 hy1 hy2 rfl (by decide) _ acc.length us rfl (kt HG2.out.own _) ⟨_,0,none⟩ 1 1 _ rfl rfl (cell_one_new _ _ _) (ZE _) (by unfold maxLen;omega) (by omega) (by simp;omega) ?_;intro v4 w4 ho hg4 _ hat;have HG4:=j0 (HG2.out.add (lo:=wr.heap.size) HLO.out hszr HV.out ho hg4 hat);have HP4:=j0 (Ps.app HP2.out hg4 HOW.out hlt HGT.out);clear ho hg4 hat))
   clear HG2 HP2 HV HLO HOW;have hszr4:=HP4.out.2.size
   by_cases k4:jR L j2=4
   ·have HR2:Hid (altsF L size n d i i []=altsF L size m' d (j2+1) i (acc++ [t])):=j0 (by rw [HRS.out,ky,if_pos k4]);have hin:=qq k4 (by decide);obtain⟨r3,rfl⟩:∃r3,r2=r3+1:=⟨r2-1,by omega⟩;have SK:Hid (Calls Tryz.prog 136 #[.pointer (some ⟨g,0,none⟩),.int .i64 4] w4 fun e w'=>e=.returned (.bool true)/\Ps w4 w' g gt L size (j2+1) r3 d):=j0 (Ui g gt L size j2 r3 d 4 w4 HP4.out.1 k4);clear k4 HRS
    go_wp2_with fail
    refine SK.out.mono ?_;rintro e w5 ⟨rfl,h5⟩;have HP5:=j0 (HP4.out.trans h5);have HG5:=j0 (HG4.out.keep h5.2 hlt);clear h5 SK HP4 HG4
    go_wp2_with fail
    go_roundg r3
    case measure=>omega
    case rel=>exact⟨j2+1,r3,m',acc++ [t],_,rfl,by omega,by omega,by simp;omega,HP5,HG5,HR2⟩
   ·have HF:Hid (altsF L size n d i i []=(0,j2,some (xC 5 (acc++ [t]) a (ki L size j2)))):=j0 (by rw [HRS.out,ky,if_neg k4]);have SK:Hid (Calls Tryz.prog 136 #[.pointer (some ⟨g,0,none⟩),.int .i64 4] w4 fun e w'=>e=.returned (.bool false)/\w'=w4):=j0 (Xh g gt L size j2 r2 d 4 w4 HP4.out.1 k4);have JN:=j0 (Ky g gt w.heap.size L size j2 r2 d a 5 (acc++ [t]) _ v4 w4 HP4.out.1 HG4.out (by simp;omega) hszr4);clear k4 HRS
    go_wp2_with fail
    refine SK.out.mono ?_;rintro e w5 ⟨rfl,hw⟩;obtain rfl:w4=w5:=hw.symm
    go_wp2_with fail
    refine JN.out.mono ?_;rintro e w6 ⟨⟨u,rfl,ht⟩,hb6⟩;have HT6:=j0 ht;have HB6:=j0 hb6;clear ht hb6 JN SK
    go_wp2_with fail
    refine bodyPost_ret (v:=.tuple #[u,.int .i64 0]) (by simp [results,Tryz.results92,go_sem]) rfl (POut.good HF.out (HP4.out.below HB6.out) HT6.out)
  ·subst hr;have HP2:Hid (Ps w w2 g gt L size j2 r2 d):=HP2;have hv:v=.pointer none:=HV.out;subst hv;have HF:Hid (altsF L size n d i i []=(c,j2,none)):=j0 (by rw [HRS.out,kE]);have hc1:((c:Int) !=0)=true:=by simp;omega
   have hc2:((c:Int)==0)=false:=by simp;omega
   clear HV hres HRS hc
   go_wp2_with fail
   refine bodyPost_ret (v:=.tuple #[.pointer none,.int .i64 c]) (by simp [results,Tryz.results92,go_sem]) rfl (POut.bad HF.out HP2.out)
theorem Vc(g gt:Nat)(L:jq)(size:Nat)(hL:L.length<=1048576):∀(r i d n:Nat) (w:World),PsAt w g gt L size i r d->d<=200->6*r+6<=n->
  Calls Tryz.prog 92 #[.pointer (some ⟨g,0,none⟩)] w fun e w'=>POut w w' g gt L size d (xI L size n d i) e:=by
 intro r
 induction r using Nat.strongRecOn with
 |_ r ih=>
  intro i d n w h hd hn;have hsum:=h.sum;refine ppat_any g gt L size i r d n w h hL hn (fun W j r' m hW hij hm=> ?_);have hsum':=hW.sum;refine palt_any g gt L size j r' d m W hW hL hm (fun W2 j2 r2 m2 hW2 hij2 hm2=> ?_);have hsum2:=hW2.sum;obtain⟨m3,rfl⟩:∃m3,m2=m3+1:=⟨m2-1,by omega⟩;obtain⟨m4,rfl⟩:∃m4,m3=m4+1:=⟨m3-1,by omega⟩;obtain⟨m5,rfl⟩:∃m5,m4=m5+1:=⟨m4-1,by omega⟩;refine pitem_any g gt L size j2 r2 d (m5+1+1) W2 hW2 (Xi g gt L size j2 r2 d (m5+1) W2 hW2 (fun k r3 hr3=> ?_));subst hr3;exact YV g gt L size j2 r3 d m5 k W2 hW2 hd (fun W3 hW3 hd3=>ih r3 (by omega) (j2+1) (d+1) m5 W3 hW3 (by omega) (by omega))
def ku(L:jq)(size:Nat):UK:=xw (xI L size (6*L.length+6) 0 0) fun j t=>if j<L.length then(4,j,none) else(0,j,some t)
theorem YT(g gt:Nat)(L:jq)(size:Nat)(w:World)(h:PsAt w g gt L size 0 L.length 0)(hL:L.length<=1048576):
  Calls Tryz.prog 49 #[.pointer (some ⟨g,0,none⟩)] w fun e w'=>POut w w' g gt L size 0 (ku L size) e:=by
 have PT:=j0 (Vc g gt L size hL L.length 0 0 (6*L.length+6) w h (by omega) (jN _));have HW:Hid (ku L size=xw (xI L size (6*L.length+6) 0 0) fun j t=>if j<L.length then(4,j,none) else(0,j,some t)):=j0 rfl;have hres:=(xD L size (6*L.length+6)).1 0 0 (by omega);clear h;generalize xI L size (6*L.length+6) 0 0=res at*
 go_enter Tryz.func49,Tryz.ntmps49
 go_wp2_with fail
 refine PT.out.mono ?_;rintro e w2 ⟨v,r2,rfl,h2,ht2⟩;have HP2:=j0 h2;have HV:=j0 ht2;clear h2 ht2 PT
 rcases hres.cases with ⟨j,t,hr,hij,hjl⟩|⟨c,j,hr,hc,hjl⟩
 ·subst hr;have HP2:Hid (Ps w w2 g gt L size j r2 0):=HP2;have HV:Hid (jJ w2 (fun b=>w.heap.size<=b) t v):=HV;have EN:=j0 (yq g gt L size j r2 0 w2 HP2.out.1);have hsum:=HP2.out.1.sum;obtain⟨qv,rfl⟩:=HV.out.pointer;clear hres
  by_cases hj:j<L.length
  ·have HF:Hid (ku L size=(4,j,none)):=j0 (by rw [HW.out,ky,if_pos hj]);rw [jF (by omega:¬r2=0)] at EN;clear HW hj
   go_wp2_with fail
   refine EN.out.mono ?_;rintro e w3 ⟨rfl,hw⟩;obtain rfl:w2=w3:=hw.symm
   go_wp2_with fail
   refine bodyPost_ret (v:=.tuple #[.pointer none,.int .i64 4]) (by simp [results,Tryz.results49,go_sem]) rfl (POut.bad HF.out HP2.out)
  ·have HF:Hid (ku L size=(0,j,some t)):=j0 (by rw [HW.out,ky,if_neg hj]);rw [jT (by omega:r2=0)] at EN;clear HW hj
   go_wp2_with fail
   refine EN.out.mono ?_;rintro e w3 ⟨rfl,hw⟩;obtain rfl:w2=w3:=hw.symm
   go_wp2_with fail
   refine bodyPost_ret (v:=.tuple #[.pointer (some ⟨qv,0,none⟩),.int .i64 0]) (by simp [results,Tryz.results49,go_sem]) rfl (POut.good HF.out HP2.out HV.out)
 ·subst hr;have HP2:Hid (Ps w w2 g gt L size j r2 0):=HP2;have hv:v=.pointer none:=HV.out;subst hv;have HF:Hid (ku L size=(c,j,none)):=j0 (by rw [HW.out,kE]);have hc1:((c:Int) !=0)=true:=by simp;omega
  have hc2:((c:Int)==0)=false:=by simp;omega
  clear HV hres HW hc
  go_wp2_with fail
  refine bodyPost_ret (v:=.tuple #[.pointer none,.int .i64 c]) (by simp [results,Tryz.results49,go_sem]) rfl (POut.bad HF.out HP2.out)
theorem wholeR_ok(L:jq)(size:Nat):ye L 0 (ku L size):=by
 unfold ku
 rcases((xD L size (6*L.length+6)).1 0 0 (Nat.zero_le _)).cases with ⟨j,t,hr,hij,hjl⟩|⟨c,j,hr,hc,hjl⟩
 ·rw [hr,ky]
  split
  ·exact .bad (.inr rfl) hjl
  ·exact .good (Nat.zero_le _) hjl
 ·rw [hr,kE];exact .bad hc hjl
theorem Qg(s:ByteArray):∀(n k:Nat),k<=s.size->(kR s n k).1.length+k<=s.size
 |0,k,h=>by simpa [kR] using h
 |n+1,k,h=>by
  rw [kR]
  split
  ·simpa using h
  ·next hk=>
   have ht:=kQ (s:=s) (k:=k) (by omega)
   split
   ·simpa using h
   ·next he=>
    have hon:=ht.on (by simpa using he);have ih:=Qg s n _ ht.le
    split
    ·simpa using h
    ·simp only [List.length_cons];omega
theorem zA(s:ByteArray):(jm s).1.length<=s.size:=by
 have h:=Qg s (s.size+1) 0 (Nat.zero_le _)
 show(kR s (s.size+1) 0).1.length<=_
 omega
theorem kY.ps{B:Nat}{l:jq}{v:Value}{w:World}(h:kY B l v w):
  ∃p cap gt,v=.slice p l.length cap/\l.length<=cap/\(0<l.length->p=some ⟨gt,0,none⟩)/\∀(k:Nat) (x:jp×Nat×Nat),l[k]? =some x->gt<w.heap.size/\∀o u,(tcells x)[o]? =some u->w.cell? ⟨gt,k*10+o,none⟩=some u:=by
 have hat:=h.at
 rcases h.2 with ⟨rfl,h2⟩|⟨c,cap,cur,rfl,hb,hh,hcap,hmax,hcs,htake⟩
 ·refine⟨none,0,0,by rw [h2],by omega,fun h=>by omega,fun k x hk=> ?_⟩;rw [List.length_eq_zero_iff.1 h2] at hk;simp at hk
 ·refine⟨_,cap,c,rfl,hcap,fun _=>rfl,fun k x hk=> ?_⟩;obtain⟨p',cap',hv,hcell⟩:=hat;injection hv with e1 e2 e3;obtain⟨c',hp,hlt,hc⟩:=hcell k x hk;rw [<-e1] at hp;injection hp with hp;injection hp with hp;subst hp;exact⟨hlt,hc⟩
def qd(s:ByteArray):Int×Int×Option Tr:=
 if(jm s).2.1≠0 then((jm s).2.1,xy (jm s),none)
 else if(ku (jm s).1 s.size).1≠0 then((ku (jm s).1 s.size).1,(ki (jm s).1 s.size (ku (jm s).1 s.size).2.1:Int),none)
 else(0,0,(ku (jm s).1 s.size).2.2)
def yk(w w':World)(r:Int×Int×Option Tr)(e:Ending):Prop:=
 ∃v,e=.returned (.tuple #[v,.int .i64 r.2.1,.int .i64 r.1])/\TrOpt w' (fun b=>w.heap.size<=b) r.2.2 v/\Below w.heap.size w w'
theorem yk.mk'{w w':World}{r:Int×Int×Option Tr}{c at_:Int}{o:Option Tr}{v:Value}(hr:r=(c,at_,o))(ht:TrOpt w' (fun b=>w.heap.size<=b) o v)(hb:Below w.heap.size w w'):yk w w' r (.returned (.tuple #[v,.int .i64 at_,.int .i64 c])):=by
 subst hr;exact⟨v,rfl,ht,hb⟩
theorem zF(s:ByteArray)(hs:s.size<=1048576)(w:World)(hT:Tab w):
  Calls Tryz.prog 17 #[.string s] w fun e w'=>yk w w' (qd s) e:=by
 have SC:=j0 (tscan_any s hs w hT)
 have HPR:Hid (qd s=if(jm s).2.1≠0 then((jm s).2.1,xy (jm s),none)
  else if(ku (jm s).1 s.size).1≠0 then((ku (jm s).1 s.size).1,(ki (jm s).1 s.size (ku (jm s).1 s.size).2.1:Int),none)
  else(0,0,(ku (jm s).1 s.size).2.2)):=j0 rfl
 have hlen:(jm s).1.length<=1048576:=by
  have h:=zA s;omega
 have hres:=wholeR_ok (jm s).1 s.size;clear hT;generalize xy (jm s)=m at*;generalize (jm s).2.1=c0 at*;generalize (jm s).1=L at*
 go_enter Tryz.func17,Tryz.ntmps17
 go_wp2_with fail
 refine SC.out.mono ?_;rintro e w1 ⟨v1,rfl,hg1,hb1⟩;obtain⟨p1,cap1,gt,rfl,hcap,hp,htk⟩:=hg1.ps;have HB1:=j0 hb1;clear hb1 SC hg1
 by_cases hc0:c0=0
 ·subst hc0;obtain⟨ob,hob⟩:∃ob,ob=(Obj.cells #[.slice p1 L.length cap1,.int .i64 (s.size:Int),.int .i64 0] 107):=⟨_,rfl⟩
  have HPA:Hid (PsAt (w1.alloc ob) w1.heap.size gt L s.size 0 L.length 0):=j0 (by
   have hn:=j1 w1 ob;rw [hob] at hn;rw [hob];refine⟨⟨p1,cap1,jC hn 0,hcap,fun h=>by rw [hp h]⟩,jC hn 1,jC hn 2,⟨jU hn 0,jU hn 2⟩,jS hn,by omega,fun k x hk=> ?_⟩;obtain⟨h1,h2⟩:=htk k x hk
   exact⟨Nat.lt_of_lt_of_le h1 (by simp),by omega,fun o u ho=>((j3 w1 _).cell (p:=⟨gt,k*10+o,none⟩) h1).trans (h2 o u ho)⟩)
  have WH:=j0 (YT w1.heap.size gt L s.size (w1.alloc ob) HPA.out hlen);have HBA:=j0 (HB1.out.trans ((j3 w1 ob).mono HB1.out.size));have hszA:w.heap.size<=w1.heap.size:=HB1.out.size;have hszB:(w1.alloc ob).heap.size=w1.heap.size+1:=World.size_alloc _ _;subst hob;clear hp htk hcap HB1 HPA;generalize ku L s.size=res at*
  go_wp2_with fail
  refine WH.out.mono ?_;rintro e w2 ⟨v,r2,rfl,h2,ht2⟩;have HP2:=j0 h2;have HV:=j0 ht2;have HB2:Hid (Below w.heap.size w w2):=j0 (HBA.out.grown h2.2 HBA.out.size (fun b hb=>by injection hb with hb;omega));clear h2 ht2 WH
  rcases hres.cases with ⟨j,t,hr,hij,hjl⟩|⟨c,j,hr,hc,hjl⟩
  ·subst hr;have HV:Hid (jJ w2 (fun b=>(w1.alloc (Obj.cells #[.slice p1 L.length cap1,.int .i64 (s.size:Int),.int .i64 0] 107)).heap.size<=b) t v):=HV;have HV2:Hid (jJ w2 (fun b=>w.heap.size<=b) t v):=j0 (HV.out.mono (fun b _ hb=>by rw [hszB] at hb;omega));have HF:Hid (qd s=(0,0,some t)):=j0 (by rw [HPR.out,if_neg (by simp),if_neg (by simp)]);obtain⟨qv,rfl⟩:=HV2.out.pointer;clear HV hres HPR HP2
   go_wp2_with fail
   refine bodyPost_ret (v:=.tuple #[.pointer (some ⟨qv,0,none⟩),.int .i64 0,.int .i64 0]) (by simp [results,Tryz.results17,go_sem]) rfl (yk.mk' HF.out HV2.out HB2.out)
  ·subst hr;have HP2:Hid (Ps (w1.alloc (Obj.cells #[.slice p1 L.length cap1,.int .i64 (s.size:Int),.int .i64 0] 107)) w2 w1.heap.size gt L s.size j r2 0):=HP2;have hv:v=.pointer none:=HV.out;subst hv;have hcz:c≠0:=by omega
   have HF:Hid (qd s=(c,(ki L s.size j:Int),none)):=j0 (by rw [HPR.out,if_neg (by simp),if_pos hcz]);have PL:=j0 (pplace_any w1.heap.size gt L s.size j r2 0 w2 HP2.out.1);have hc1:((c:Int) !=0)=true:=by simp;omega
   have hc2:((c:Int)==0)=false:=by simp;omega
   clear HV hres HPR HP2 hc hcz;generalize ki L s.size j=b at*
   go_wp2_with fail
   refine PL.out.mono ?_;rintro e w3 ⟨rfl,hw⟩;obtain rfl:w2=w3:=hw.symm
   go_wp2_with fail
   refine bodyPost_ret (v:=.tuple #[.pointer none,.int .i64 (b:Int),.int .i64 c]) (by simp [results,Tryz.results17,go_sem]) rfl (yk.mk' HF.out rfl HB2.out)
 ·have HF:Hid (qd s=(c0,m,none)):=j0 (by rw [HPR.out,if_pos hc0]);have hc1:((c0:Int) !=0)=true:=by simpa using hc0
  have hc2:((c0:Int)==0)=false:=by simpa using hc0
  clear HPR hc0 hp htk hcap hres
  go_wp2_with fail
  refine bodyPost_ret (v:=.tuple #[.pointer none,.int .i64 m,.int .i64 c0]) (by simp [results,Tryz.results17,go_sem]) rfl (yk.mk' HF.out rfl HB1.out)
theorem jJ.head{w:World}{A:Nat->Prop}{k:Int}{s:W4}{lo hi:Int}{z:Bool}{a b:Nat}{l:List Tr}{v:Value}(h:jJ w A (.mk k s lo hi z a b l) v):
  ∃q p cap,v=.pointer (some ⟨q,0,none⟩)/\A q/\w.heap[q]? =some (vn k s lo hi z (.slice p l.length cap) a b)/\∀(i:Nat) (t:Tr),l[i]? =some t->∃c u,p=some ⟨c,0,none⟩/\c<w.heap.size/\w.cell? ⟨c,i,none⟩=some u/\jJ w A t u:=by
 cases h with
 |node k s lo hi z a b l q p cap us hq hb hc ht=>
  refine⟨q,p,cap,rfl,hq,hb,fun i t hi=> ?_⟩;obtain⟨c,h1,h2,h3,h4⟩:=hc i t hi;exact⟨c,us i,h1,h3,h4,ht i t hi⟩
end
end Go.Proofs.YtnmalggmbeipaaaGreatDoor
