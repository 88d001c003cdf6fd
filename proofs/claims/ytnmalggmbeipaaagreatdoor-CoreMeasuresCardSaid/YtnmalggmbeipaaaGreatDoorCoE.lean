/- A part of the proof. -/
import Derived.Test.YtnmalggmbeipaaaGreatDoorCoD
import Derived.Test.YtnmalggmbeipaaaGreatDoorRegion
set_option maxRecDepth 100000
set_option maxHeartbeats 16000000
namespace Go.Proofs.YtnmalggmbeipaaaGreatDoor
section
open Go Go.RowKit
attribute [local go_sem ↓] Go.wp_at_zero Go.wp_at_succ
attribute [local go_sem] qX
attribute [local go_sem] yW
theorem rep_getT{m j:Nat}{u v:Tr}(h:(List.replicate m u)[j]? =some v):j<m/\v=u:=by
 rw [List.getElem?_replicate] at h
 split at h
 ·exact⟨by assumption,(Option.some.inj h).symm⟩
 ·cases h
def t1T(pc:Option Addr)(pb:Option Addr)(kb:Nat)(q:Nat)(z:Bool)(gh:Value×Value):Nat->Value
 |0=>.func (.func 151) #[] #[.pointer (some ⟨kb,0,none⟩)]
 |1=>.pointer pc
 |2=>.pointer pb
 |3=>gh.1
 |4=>.pointer (some ⟨q,0,none⟩)
 |5=>.pointer (some ⟨q,0,none⟩)
 |6=>.pointer (some ⟨q,7,none⟩)
 |7=>.bool z
 |8=>gh.2
 |9=>gh.2
 |_=>undef
theorem t1T_a{pc:Option Addr}{pb:Option Addr}{kb:Nat}{q:Nat}{z:Bool}{gh:Value×Value}{gx}{j:Nat}(h3:j≠3):t1T pc pb kb q z (gx,gh.2) j=t1T pc pb kb q z gh j:=by
 unfold t1T
 split<;>first|rfl|exact absurd rfl ‹_›
theorem t1T_b{pc:Option Addr}{pb:Option Addr}{kb:Nat}{q:Nat}{z:Bool}{gh:Value×Value}{gx}{j:Nat}(h8:j≠8)(h9:j≠9):t1T pc pb kb q z (gh.1,gx) j=t1T pc pb kb q z gh j:=by
 unfold t1T
 split<;>first|rfl|exact absurd rfl ‹_›
def JX:Nat->List (Nat×Nat)
 |1=> [(0,0)]
 |2=> [(1,0)]
 |5=> [(11,5)]
 |6=> [(12,6)]
 |7=> [(13,7)]
 |_=> []
theorem Zo(cb kb nb q:Nat)(k:Int)(s:W4)(lo hi:Int)(z:Bool)(lv:Value)(na nb':Nat)(c b:Co)(vc vb:Value)(w:World)(hcb:w.cell? ⟨cb,0,none⟩=some (.func (.func 151) #[] #[.pointer (some ⟨kb,0,none⟩)]))(hcl:cb<w.heap.size)(hkb:w.heap[kb]? =some (.cells #[.int .i64 2] 3))
  (hnb:w.cell? ⟨nb,0,none⟩=some (j6 q)) (hnl:nb<w.heap.size) (hq:w.heap[q]? =some (vn k s lo hi z lv na nb')) (hc:jD w c vc) (hb:jD w b vb):
  Calls Tryz.prog 201 #[vc,vb,.pointer (some ⟨cb,0,none⟩),.pointer (some ⟨nb,0,none⟩)] w fun e w'=>∃v,e=.returned v/\jD w' (qy z (k9 2 c b)) v/\Below w.heap.size w w':=by
 obtain⟨pc,rfl⟩:=hc.ptr;obtain⟨pb,rfl⟩:=hb.ptr;have HJ:=j0 (fun(X:World) (hX:Below w.heap.size w X)=>cjoined1_any 2 kb c b _ _ X ((jC (j4 hX hkb) 0).trans rfl) (hc.up hX) (hb.up hX));have HC:=j0 hcb;have HL1:=j0 hcl;have HN:=j0 hnb;have HL2:=j0 hnl;have HQ:=j0 hq;clear hcb hkb hnb hq hc hb hcl hnl
 go_enter Tryz.func201,Tryz.ntmps201
 go_upto_region 1 with fail
 refine Reg.wp_region_H (t1T pc pb kb q z) (Reg.MkS w 3 8 (fun g X=>jD X (k9 2 c b) g.1) (fun g X=>jD X (qy z (k9 2 c b)) g.2)) (undef,undef) [0,1,2,3,4,5,6,7,8,9] (by rfl) (by kernel_rfl) (by kernel_rfl) ?_ ?_ ?_
 ·exact Reg.MkS.start _ _
 ·refine⟨fun gh listed A X hI hcl hin hun hall=>⟨Reg.wn,?_⟩,?_⟩
  ·have e2:=hI.wo 2 rfl;have HS:=hI.st;have hX:=HS.bel;have f:=(hX.cell (p:=⟨cb,0,none⟩) HL1.out).trans HC.out;have HX:=j0 hX;clear hI hX;unfold Reg.Yields
   go_simp
   exact⟨gh,fun _ _=>rfl,rfl,HS.up (by decide) (by decide) (by intro g X Y hb h;exact h.up hb) (by intro g X Y hb h;exact h.up hb) (Below.refl _ _)⟩
  iterate 2
   refine⟨fun gh listed A X hI hcl hin hun hall=>⟨Reg.wn,?_⟩,?_⟩
   ·have E:=hI.tf hun hall JX;simp only [Reg.TF,JX,Reg.la,Reg.lb,Reg.lc] at E;have HS:=hI.st;have hX:=HS.bel;have HX:=j0 hX;clear hI hX;unfold Reg.Yields
    go_simp
    exact⟨gh,fun _ _=>rfl,rfl,HS.up (by decide) (by decide) (by intro g X Y hb h;exact h.up hb) (by intro g X Y hb h;exact h.up hb) (Below.refl _ _)⟩
  refine⟨fun gh listed A X hI hcl hin hun hall=>⟨Reg.wn,?_⟩,?_⟩
  ·have e7:A.tmps[7]? =some (.func (.func 151) #[] #[.pointer (some ⟨kb,0,none⟩)]):=hI.v hall 0 7;have e8:A.tmps[8]? =some (.pointer pc):=hI.v hall 1 8;have e9:A.tmps[9]? =some (.pointer pb):=hI.v hall 2 9;have HS:=hI.st;have hX:=HS.bel;have HX:=j0 hX;clear hI hX;unfold Reg.Yields
   go_simp
   exact(HJ.out X HX.out).mono fun e w2 h=>by
    obtain⟨v,he,hc,hb⟩:=h;exact⟨v,he,(v,gh.2),fun j hj=>t1T_a (j:=j) (fun e=>by rw [e] at hj;rw [hj] at hun;cases hun),rfl,HS.first (by decide) (Reg.un_of_reach hcl (n:=8) (by kernel_rfl) hun) hb hc⟩
  refine⟨fun gh listed A X hI hcl hin hun hall=>⟨Reg.wn,?_⟩,?_⟩
  ·have e3:=hI.wo 3 rfl;have HS:=hI.st;have hX:=HS.bel;have f:=(hX.cell (p:=⟨nb,0,none⟩) HL2.out).trans HN.out;have HX:=j0 hX;clear hI hX;unfold Reg.Yields
   go_simp
   exact⟨gh,fun _ _=>rfl,rfl,HS.up (by decide) (by decide) (by intro g X Y hb h;exact h.up hb) (by intro g X Y hb h;exact h.up hb) (Below.refl _ _)⟩
  iterate 3
   refine⟨fun gh listed A X hI hcl hin hun hall=>⟨Reg.wn,?_⟩,?_⟩
   ·have E:=hI.tf hun hall JX;simp only [Reg.TF,JX,t1T] at E;have HS:=hI.st;have hX:=HS.bel;have hb:=(hX.block _ (jS HQ.out)).trans HQ.out;have y7:=jC hb 7;have hyl:=jS hb;simp only [Reg.la,Reg.lb,Reg.lc] at y7;clear hb;have HX:=j0 hX;clear hI hX;unfold Reg.Yields
    go_simp
    exact⟨gh,fun _ _=>rfl,rfl,HS.up (by decide) (by decide) (by intro g X Y hb h;exact h.up hb) (by intro g X Y hb h;exact h.up hb) (Below.refl _ _)⟩
  refine⟨fun gh listed A X hI hcl hin hun hall=>⟨Reg.wn,?_⟩,?_⟩
  ·have e10:A.tmps[10]? =some (gh.1):=hI.v hall 3 10;have e14:A.tmps[14]? =some (.bool z):=hI.v hall 7 14;have HS:=hI.st;have hX:=HS.bel;have HX:=j0 hX;clear hI hX;unfold Reg.Yields
   go_simp
   exact(XW z _ gh.1 X (HS.one (hall ⟨3,.data⟩ (by simp) rfl))).mono fun e w2 h=>by
    obtain⟨v,he,hc,hb⟩:=h;exact⟨v,he,(gh.1,v),fun j hj=>t1T_b (j:=j) (fun e=>by rw [e] at hj;rw [hj] at hun;cases hun) (fun e=>by rw [e] at hj;rw [Reg.closed_reach hcl 60 9 8 (by kernel_rfl) hj] at hun;cases hun),rfl,HS.second (by decide) (by intro g X Y hb h;exact h.up hb) (fun _ h=>h) hb hc⟩
  refine⟨fun gh listed A X hI hcl hin hun hall=>⟨Reg.wn,?_⟩,?_⟩
  ·have e15:A.tmps[15]? =some (gh.2):=hI.v hall 8 15;have HS:=hI.st;have hX:=HS.bel;have HX:=j0 hX;clear hI hX;unfold Reg.Yields
   go_simp
   exact⟨gh,fun _ _=>rfl,rfl,HS.up (by decide) (by decide) (by intro g X Y hb h;exact h.up hb) (by intro g X Y hb h;exact h.up hb) (Below.refl _ _)⟩
  trivial
 ·intro gh X hS;have HX:=j0 hS.bel;have H1:=j0 (hS.one (by rfl));have H2:=j0 (hS.two (by rfl));clear hS;simp [Reg.finalTmps,Reg.dstAt,Reg.valOf,t1T]
  go_wp2_with fail
  go_ret
  exact⟨_,rfl,H2.out,HX.out⟩
theorem cf_tail1(args:Array Value)(W:World):(callFunc 201 args).run Tryz.prog W=.ok (.enter 201 args) W:=by
 simp [callFunc,go_sem,Tryz.func201];rfl
theorem KL(A:Nat->Prop)(k:Int)(s:W4)(lo hi:Int)(z:Bool)(na nb:Nat)(u:Tr)(q n:Nat)(w:World)(hN:jJ w A (.mk k s lo hi z na nb [u]) (j6 q))(hn:n<=1000)(hB:yK u)(hne:jo u≠ .nil):
  Calls Tryz.prog 154 #[j6 q,.int .i64 (n:Int)] w fun e w'=>∃r,e=.returned r/\KN w' r (List.replicate n (jo u))/\Below w.heap.size w w':=by
 obtain⟨q',p,cap,e,_,hq,hk⟩:=hN.head;injection e with e;injection e with e;injection e with e;subst e;obtain⟨c,v,rfl,hcl,hcc,hu⟩:=hk 0 u rfl;obtain⟨q2,rfl⟩:=hu.pointer;have x8:=jC hq 8;have hql:=jS hq;simp only [Reg.la,Reg.lb,Reg.lc,List.length_cons,List.length_nil] at x8;have HR:=j0 (XS c q2 cap n w hn hcc hcl);have HU:=j0 hu;have HB:=j0 hB;have HNE:=j0 hne;clear hN hq hk hcc hcl hu hB hne
 go_enter Tryz.func154,Tryz.ntmps154
 go_wp2_with fail
 refine HR.out.mono ?_;rintro e w1 ⟨rfl,hb1,hs1,hc1⟩
 have HA:=j0 (QP A (List.replicate n u) (.slice (some ⟨w.heap.size,0,none⟩) n n) w1 (fun x hx=>by rw [(List.mem_replicate.1 hx).2];exact HB.out) (fun x hx=>by rw [(List.mem_replicate.1 hx).2];exact HNE.out) (by rw [List.length_replicate];omega)
  ⟨_,n,by rw [List.length_replicate],fun i x hx=>by obtain⟨h1,rfl⟩:=rep_getT hx;exact⟨_,q2,rfl,hs1,hc1 i h1,HU.out.up hb1⟩⟩)
 rw [List.map_replicate] at HA;have HB1:=j0 hb1;clear hb1 hs1 hc1 HR x8 hql
 go_wp2_with fail
 refine HA.out.mono ?_;rintro e w2 ⟨r,rfl,hr,hb2⟩;have HR2:=j0 hr;have HB2:=j0 (HB1.out.trans (hb2.mono HB1.out.size));clear hr hb2
 go_wp2_with fail
 go_ret
 exact⟨_,rfl,HR2.out,HB2.out⟩
def t2T(q:Nat)(c:Nat)(cap:Nat)(q2:Nat)(z:Bool)(gh:Nat×Nat):Nat->Value
 |0=>.pointer (some ⟨q,0,none⟩)
 |1=>.pointer (some ⟨q,0,none⟩)
 |2=>.pointer (some ⟨q,7,none⟩)
 |3=>.bool z
 |4=>.pointer (some ⟨q,0,none⟩)
 |5=>.pointer (some ⟨q,0,none⟩)
 |6=>.pointer (some ⟨q,8,none⟩)
 |7=>.slice (some ⟨c,0,none⟩) 1 cap
 |8=>.pointer (some ⟨c,0,none⟩)
 |9=>.pointer (some ⟨q2,0,none⟩)
 |10=>.pointer (some ⟨gh.1,0,none⟩)
 |11=>.agg #[.int .i64 4,.int .u64 0,.int .u64 0,.int .u64 0,.int .u64 0,.bool z,.pointer (some ⟨gh.1,0,none⟩),.pointer none]
 |12=>.pointer (some ⟨gh.2,0,none⟩)
 |13=>.pointer (some ⟨gh.2,0,none⟩)
 |_=>undef
theorem t2T_a{q:Nat}{c:Nat}{cap:Nat}{q2:Nat}{z:Bool}{gh:Nat×Nat}{gx}{j:Nat}(h10:j≠10)(h11:j≠11):t2T q c cap q2 z (gx,gh.2) j=t2T q c cap q2 z gh j:=by
 unfold t2T
 split<;>first|rfl|exact absurd rfl ‹_›
theorem t2T_b{q:Nat}{c:Nat}{cap:Nat}{q2:Nat}{z:Bool}{gh:Nat×Nat}{gx}{j:Nat}(h12:j≠12)(h13:j≠13):t2T q c cap q2 z (gh.1,gx) j=t2T q c cap q2 z gh j:=by
 unfold t2T
 split<;>first|rfl|exact absurd rfl ‹_›
def t4T(q:Nat)(lo:Int)(hi:Int)(n:Nat)(cb:Nat)(nb:Nat)(gh:Value×Value):Nat->Value
 |0=>.pointer (some ⟨q,0,none⟩)
 |1=>.pointer (some ⟨q,0,none⟩)
 |2=>.pointer (some ⟨q,0,none⟩)
 |3=>.pointer (some ⟨q,6,none⟩)
 |4=>.int .i64 hi
 |5=>.pointer (some ⟨q,0,none⟩)
 |6=>.pointer (some ⟨q,0,none⟩)
 |7=>.pointer (some ⟨q,5,none⟩)
 |8=>.int .i64 lo
 |9=>.int .i64 (n:Int)
 |10=>gh.1
 |11=>.func (.func 201) #[] #[.pointer (some ⟨cb,0,none⟩),.pointer (some ⟨nb,0,none⟩)]
 |12=>gh.2
 |13=>gh.2
 |_=>undef
theorem t4T_a{q:Nat}{lo:Int}{hi:Int}{n:Nat}{cb:Nat}{nb:Nat}{gh:Value×Value}{gx}{j:Nat}(h10:j≠10):t4T q lo hi n cb nb (gx,gh.2) j=t4T q lo hi n cb nb gh j:=by
 unfold t4T
 split<;>first|rfl|exact absurd rfl ‹_›
theorem t4T_b{q:Nat}{lo:Int}{hi:Int}{n:Nat}{cb:Nat}{nb:Nat}{gh:Value×Value}{gx}{j:Nat}(h12:j≠12)(h13:j≠13):t4T q lo hi n cb nb (gh.1,gx) j=t4T q lo hi n cb nb gh j:=by
 unfold t4T
 split<;>first|rfl|exact absurd rfl ‹_›
def yn:Nat->List (Nat×Nat)
 |0=> [(1,0)]
 |1=> [(1,0)]
 |2=> [(24,2)]
 |3=> [(25,3)]
 |4=> [(26,4)]
 |6=> [(28,6)]
 |7=> [(29,7)]
 |8=> [(30,8)]
 |_=> []
def JW:Nat->List (Nat×Nat)
 |1=> [(9,1)]
 |2=> [(10,2)]
 |3=> [(11,3)]
 |5=> [(13,5)]
 |6=> [(14,6)]
 |7=> [(15,7)]
 |_=> []
theorem ctail_any(AA:Nat->Prop)(lo hi:Int)(z:Bool)(na nb':Nat)(u:Tr)(q:Nat)(w:World)(hN:jJ w AA (.mk 6 j7 lo hi z na nb' [u]) (j6 q))(hh:hi= -1\/(0<=lo/\lo<=hi/\hi<=1000))(hB:yK u)(hne:jo u≠ .nil):
  Calls Tryz.prog 155 #[j6 q] w fun e w'=>∃v,e=.returned v/\jD w' (yL lo hi z (jo u)) v/\Below w.heap.size w w':=by
 obtain⟨w1,hw1⟩:∃X,X=w.alloc (.cells #[j6 q] 45):=⟨_,rfl⟩;have b1:Below w.heap.size w w1:=by rw [hw1];exact j3 w _
 have hN1:=hN.up b1;obtain⟨q',p,cap,e,_,hq,hk⟩:=hN1.head;injection e with e;injection e with e;injection e with e;subst e;obtain⟨c,v,rfl,hcl,hcc,hu⟩:=hk 0 u rfl;obtain⟨q2,rfl⟩:=hu.pointer;obtain⟨nb,hnb⟩:∃nb,nb=w.heap.size:=⟨_,rfl⟩;have hbx:w1.heap[nb]? =some (.cells #[j6 q] 45):=by rw [hw1,hnb];exact j1 w _
 have HNB:=j0 ((jC hbx 0).trans rfl);have HNL:=j0 (jS hbx);have HQ:=j0 hq;have HCC:=j0 hcc;have HCL:=j0 hcl;have HU:=j0 hu;have HB:=j0 hB;have HNE:=j0 hne;have HB1:=j0 b1;have HND:=j0 hN1;have HW1:=j0 hw1;have HNBE:=j0 hnb;have y6:=jC hq 6;have hyq:=jS hq;have nb0:=(jC hbx 0).trans rfl;simp only [Reg.la,Reg.lb,Reg.lc] at y6;clear hw1 b1 hN1 hq hk hcl hcc hu hnb hbx hN hB hne
 by_cases hm:hi= -1
 ·subst hm
  go_enter Tryz.func155,Tryz.ntmps155
  go_upto_region 1 with fail
  rw [<-HW1.out,<-HNBE.out]
  go_upto_region 2 with fail
  clear y6 nb0 hyq;refine Reg.wp_region_H (t2T q c cap q2 z) (Reg.MkS w1 10 12 (fun g X=>jD X (jo u) (.pointer (some ⟨g.1,0,none⟩))) (fun g X=>X.heap[g.2]? =some (yH 4 j7 z (.pointer (some ⟨g.1,0,none⟩)) (.pointer none)))) (0,0) [0,1,2,3,4,5,6,7,8,9,10,11,12,13] (by rfl) (by kernel_rfl) (by kernel_rfl) ?_ ?_ ?_
  ·exact Reg.MkS.start _ _
  ·refine⟨fun gh listed A X hI hcl hin hun hall=>⟨Reg.wn,?_⟩,?_⟩
   ·have e1:=hI.wo 1 rfl;have HS:=hI.st;have hX:=HS.bel;have f:=(hX.cell (p:=⟨nb,0,none⟩) HNL.out).trans HNB.out;have HX:=j0 hX;clear hI hX;unfold Reg.Yields
    go_simp
    exact⟨gh,fun _ _=>rfl,rfl,HS.up (by decide) (by decide) (by intro g X Y hb h;exact h.up hb) (by intro g X Y hb h;exact j4 hb h) (Below.refl _ _)⟩
   iterate 3
    refine⟨fun gh listed A X hI hcl hin hun hall=>⟨Reg.wn,?_⟩,?_⟩
    ·have E:=hI.tf hun hall JW;simp only [Reg.TF,JW,t2T] at E;have HS:=hI.st;have hX:=HS.bel;have hb:=(hX.block _ (jS HQ.out)).trans HQ.out;have y7:=jC hb 7;have hyl:=jS hb;simp only [Reg.la,Reg.lb,Reg.lc] at y7;clear hb;have HX:=j0 hX;clear hI hX;unfold Reg.Yields
     go_simp
     exact⟨gh,fun _ _=>rfl,rfl,HS.up (by decide) (by decide) (by intro g X Y hb h;exact h.up hb) (by intro g X Y hb h;exact j4 hb h) (Below.refl _ _)⟩
   refine⟨fun gh listed A X hI hcl hin hun hall=>⟨Reg.wn,?_⟩,?_⟩
   ·have e1:=hI.wo 1 rfl;have HS:=hI.st;have hX:=HS.bel;have f:=(hX.cell (p:=⟨nb,0,none⟩) HNL.out).trans HNB.out;have HX:=j0 hX;clear hI hX;unfold Reg.Yields
    go_simp
    exact⟨gh,fun _ _=>rfl,rfl,HS.up (by decide) (by decide) (by intro g X Y hb h;exact h.up hb) (by intro g X Y hb h;exact j4 hb h) (Below.refl _ _)⟩
   iterate 3
    refine⟨fun gh listed A X hI hcl hin hun hall=>⟨Reg.wn,?_⟩,?_⟩
    ·have E:=hI.tf hun hall JW;simp only [Reg.TF,JW,t2T] at E;have HS:=hI.st;have hX:=HS.bel;have hb:=(hX.block _ (jS HQ.out)).trans HQ.out;have y8:=jC hb 8;have hyl:=jS hb;simp only [Reg.la,Reg.lb,Reg.lc] at y8;clear hb;have HX:=j0 hX;clear hI hX;unfold Reg.Yields
     go_simp
     exact⟨gh,fun _ _=>rfl,rfl,HS.up (by decide) (by decide) (by intro g X Y hb h;exact h.up hb) (by intro g X Y hb h;exact j4 hb h) (Below.refl _ _)⟩
   refine⟨fun gh listed A X hI hcl hin hun hall=>⟨Reg.wn,?_⟩,?_⟩
   ·have e16:A.tmps[16]? =some (.slice (some ⟨c,0,none⟩) 1 cap):=hI.v hall 7 16;have HS:=hI.st;have hX:=HS.bel;have HX:=j0 hX;clear hI hX;unfold Reg.Yields
    go_simp
    exact⟨gh,fun _ _=>rfl,rfl,HS.up (by decide) (by decide) (by intro g X Y hb h;exact h.up hb) (by intro g X Y hb h;exact j4 hb h) (Below.refl _ _)⟩
   refine⟨fun gh listed A X hI hcl hin hun hall=>⟨Reg.wn,?_⟩,?_⟩
   ·have e17:A.tmps[17]? =some (.pointer (some ⟨c,0,none⟩)):=hI.v hall 8 17;have HS:=hI.st;have hX:=HS.bel;have f:=(hX.cell (p:=⟨c,0,none⟩) HCL.out).trans HCC.out;have HX:=j0 hX;clear hI hX;unfold Reg.Yields
    go_simp
    exact⟨gh,fun _ _=>rfl,rfl,HS.up (by decide) (by decide) (by intro g X Y hb h;exact h.up hb) (by intro g X Y hb h;exact j4 hb h) (Below.refl _ _)⟩
   refine⟨fun gh listed A X hI hcl hin hun hall=>⟨Reg.wn,?_⟩,?_⟩
   ·have e18:A.tmps[18]? =some (.pointer (some ⟨q2,0,none⟩)):=hI.v hall 9 18;have HS:=hI.st;have hX:=HS.bel;have HX:=j0 hX;clear hI hX;unfold Reg.Yields
    go_simp
    exact(HB.out AA q2 X (HU.out.up HX.out)).mono fun e w2 h=>by
     obtain⟨v,he,hc,hb⟩:=h
     rcases hc.nil_iff with ⟨h,_⟩|⟨_,q3,rfl⟩
     ·exact absurd h HNE.out
     exact⟨_,he,(q3,gh.2),fun j hj=>t2T_a (j:=j) (fun e=>by rw [e] at hj;rw [hj] at hun;cases hun) (fun e=>by rw [e] at hj;rw [Reg.closed_reach hcl 60 11 10 (by kernel_rfl) hj] at hun;cases hun),rfl,HS.first (by decide) (Reg.un_of_reach hcl (n:=12) (by kernel_rfl) hun) hb hc⟩
   refine⟨fun gh listed A X hI hcl hin hun hall=>⟨Reg.wn,?_⟩,?_⟩
   ·have e12:A.tmps[12]? =some (.bool z):=hI.v hall 3 12;have e19:A.tmps[19]? =some (.pointer (some ⟨gh.1,0,none⟩)):=hI.v hall 10 19;have HS:=hI.st;have hX:=HS.bel;have HX:=j0 hX;clear hI hX;unfold Reg.Yields
    go_simp
    exact⟨gh,fun _ _=>rfl,rfl,HS.up (by decide) (by decide) (by intro g X Y hb h;exact h.up hb) (by intro g X Y hb h;exact j4 hb h) (Below.refl _ _)⟩
   refine⟨fun gh listed A X hI hcl hin hun hall=>⟨Reg.wn,?_⟩,?_⟩
   ·have e20:A.tmps[20]? =some (.agg #[.int .i64 4,.int .u64 0,.int .u64 0,.int .u64 0,.int .u64 0,.bool z,.pointer (some ⟨gh.1,0,none⟩),.pointer none]):=hI.v hall 11 20;have HS:=hI.st;have hX:=HS.bel;have HX:=j0 hX;clear hI hX;unfold Reg.Yields
    go_simp
    exact⟨(gh.1,X.heap.size),fun j hj=>t2T_b (j:=j) (fun e=>by rw [e] at hj;rw [hj] at hun;cases hun) (fun e=>by rw [e] at hj;rw [Reg.closed_reach hcl 60 13 12 (by kernel_rfl) hj] at hun;cases hun),rfl,HS.second (by decide) (by intro g X Y hb h;exact h.up hb) (fun _ h=>h) (j3 _ _) (j1 _ _)⟩
   refine⟨fun gh listed A X hI hcl hin hun hall=>⟨Reg.wn,?_⟩,?_⟩
   ·have e21:A.tmps[21]? =some (.pointer (some ⟨gh.2,0,none⟩)):=hI.v hall 12 21;have HS:=hI.st;have hX:=HS.bel;have HX:=j0 hX;clear hI hX;unfold Reg.Yields
    go_simp
    exact⟨gh,fun _ _=>rfl,rfl,HS.up (by decide) (by decide) (by intro g X Y hb h;exact h.up hb) (by intro g X Y hb h;exact j4 hb h) (Below.refl _ _)⟩
   trivial
  ·intro gh X hS;have HX:=j0 hS.bel;have H1:=j0 (hS.one (by rfl));have H2:=j0 (hS.two (by rfl));clear hS;simp [Reg.finalTmps,Reg.dstAt,Reg.valOf,t2T];have HF:=j0 (HB1.out.trans (HX.out.mono HB1.out.size));have HN:=j0 (jD.node 4 j7 z _ _ _ _ _ H2.out H1.out .nil)
   go_wp2_with fail
   go_ret
   exact⟨_,rfl,HN.out,HF.out⟩
 ·have hme:((hi:Int)== -1)=false:=by simpa using hm
  obtain⟨g1,g2,g3⟩:0<=lo/\lo<=hi/\hi<=1000:=hh.resolve_left hm;obtain⟨n,hn⟩:∃n,n=(hi-lo).toNat:=⟨_,rfl⟩;have HN1:Hid (n<=1000):=j0 (by omega);have HWN:Hid (IntKind.i64.wrap (hi-lo)=(n:Int)):=j0 (by rw [IntKind.wrap_i64];omega);have HTC:Hid (yL lo hi z (jo u)=(List.replicate n (jo u)).foldr (fun c b=>qy z (k9 2 c b)) .nil):=j0 (by unfold yL;rw [if_neg hm,hn]);have HJO:=j0 (vA 2 w1);obtain⟨kb,hkb⟩:∃kb,kb=w1.heap.size:=⟨_,rfl⟩;obtain⟨w2,hw2⟩:∃X,X=w1.alloc (.cells #[.int .i64 2] 3):=⟨_,rfl⟩;obtain⟨cb,hcb⟩:∃cb,cb=w2.heap.size:=⟨_,rfl⟩;obtain⟨w3,hw3⟩:∃X,X=w2.alloc (.cells #[.func (.func 151) #[] #[.pointer (some ⟨kb,0,none⟩)]] 187):=⟨_,rfl⟩;rw [<-hkb,<-hw2] at HJO;have b2:Below w1.heap.size w1 w2:=by rw [hw2];exact j3 _ _
  have b3:Below w1.heap.size w1 w3:=b2.trans (by rw [hw3];exact(j3 w2 _).mono b2.size);have k3:w3.heap[kb]? =some (.cells #[.int .i64 2] 3):=by rw [hw3,hkb,hw2];exact j4 (j3 _ _) (j1 w1 _)
  have c3:w3.heap[cb]? =some (.cells #[.func (.func 151) #[] #[.pointer (some ⟨kb,0,none⟩)]] 187):=by rw [hw3,hcb];exact j1 w2 _
  have HQ:=j0 (j4 b3 HQ.out);have HNB:=j0 ((b3.cell (p:=⟨nb,0,none⟩) HNL.out).trans HNB.out);have HNL:=j0 (Nat.lt_of_lt_of_le HNL.out b3.size);have HND:=j0 (HND.out.up b3);have HB3:=j0 (HB1.out.trans (b3.mono HB1.out.size))
  have HJC:=j0 (fun(X:World) (hX:Below w3.heap.size w3 X)=>(show JoinC 201 #[.pointer (some ⟨cb,0,none⟩),.pointer (some ⟨nb,0,none⟩)] (fun c b=>qy z (k9 2 c b)) X from fun Y hY c b vc vb _ hc hb=>
   Zo cb kb nb q 6 j7 lo hi z _ na nb' c b vc vb Y ((((hX.trans (hY.mono hX.size)).cell (p:=⟨cb,0,none⟩) (jS c3)).trans ((jC c3 0).trans rfl))) (Nat.lt_of_lt_of_le (jS c3) (hX.trans (hY.mono hX.size)).size) (j4 (hX.trans (hY.mono hX.size)) k3)
    (((hX.trans (hY.mono hX.size)).cell (p:=⟨nb,0,none⟩) HNL.out).trans HNB.out) (Nat.lt_of_lt_of_le HNL.out (hX.trans (hY.mono hX.size)).size) (j4 (hX.trans (hY.mono hX.size)) HQ.out) hc hb))
  have HCBE:=j0 hcb;have HW3:=j0 hw3;clear hm hn hkb hw2 hcb hw3 b2 b3 k3 c3 g1 g2 g3 hh
  go_enter Tryz.func155,Tryz.ntmps155
  go_upto_region 1 with fail
  rw [<-HW1.out,<-HNBE.out]
  go_wp2_with fail
  refine HJO.out.mono ?_;rintro e wx ⟨rfl,hwx⟩;obtain rfl:w2=wx:=hwx.symm;clear y6 nb0 hyq HJO
  go_upto_region 4 with fail
  rw [<-HCBE.out,<-HW3.out];refine Reg.wp_region_H (t4T q lo hi n cb nb) (Reg.MkS w3 10 12 (fun g X=>KN X g.1 (List.replicate n (jo u))) (fun g X=>jD X ((List.replicate n (jo u)).foldr (fun c b=>qy z (k9 2 c b)) .nil) g.2)) (undef,undef) [0,1,2,3,4,5,6,7,8,9,10,11,12,13] (by rfl) (by kernel_rfl) (by kernel_rfl) ?_ ?_ ?_
  ·exact Reg.MkS.start _ _
  ·iterate 2
    refine⟨fun gh listed A X hI hcl hin hun hall=>⟨Reg.wn,?_⟩,?_⟩
    ·have E:=hI.tf hun hall yn;simp only [Reg.TF,yn,Reg.la,Reg.lb,Reg.lc] at E;have HS:=hI.st;have hX:=HS.bel;have f:=(hX.cell (p:=⟨nb,0,none⟩) HNL.out).trans HNB.out;have HX:=j0 hX;clear hI hX;unfold Reg.Yields
     go_simp
     exact⟨gh,fun _ _=>rfl,rfl,HS.up (by decide) (by decide) (by intro g X Y hb h;exact h.up hb) (by intro g X Y hb h;exact h.up hb) (Below.refl _ _)⟩
   iterate 3
    refine⟨fun gh listed A X hI hcl hin hun hall=>⟨Reg.wn,?_⟩,?_⟩
    ·have E:=hI.tf hun hall yn;simp only [Reg.TF,yn,t4T] at E;have HS:=hI.st;have hX:=HS.bel;have hb:=(hX.block _ (jS HQ.out)).trans HQ.out;have y6:=jC hb 6;have hyl:=jS hb;simp only [Reg.la,Reg.lb,Reg.lc] at y6;clear hb;have HX:=j0 hX;clear hI hX;unfold Reg.Yields
     go_simp
     exact⟨gh,fun _ _=>rfl,rfl,HS.up (by decide) (by decide) (by intro g X Y hb h;exact h.up hb) (by intro g X Y hb h;exact h.up hb) (Below.refl _ _)⟩
   refine⟨fun gh listed A X hI hcl hin hun hall=>⟨Reg.wn,?_⟩,?_⟩
   ·have e1:=hI.wo 1 rfl;have HS:=hI.st;have hX:=HS.bel;have f:=(hX.cell (p:=⟨nb,0,none⟩) HNL.out).trans HNB.out;have HX:=j0 hX;clear hI hX;unfold Reg.Yields
    go_simp
    exact⟨gh,fun _ _=>rfl,rfl,HS.up (by decide) (by decide) (by intro g X Y hb h;exact h.up hb) (by intro g X Y hb h;exact h.up hb) (Below.refl _ _)⟩
   iterate 3
    refine⟨fun gh listed A X hI hcl hin hun hall=>⟨Reg.wn,?_⟩,?_⟩
    ·have E:=hI.tf hun hall yn;simp only [Reg.TF,yn,t4T] at E;have HS:=hI.st;have hX:=HS.bel;have hb:=(hX.block _ (jS HQ.out)).trans HQ.out;have y5:=jC hb 5;have hyl:=jS hb;simp only [Reg.la,Reg.lb,Reg.lc] at y5;clear hb;have HX:=j0 hX;clear hI hX;unfold Reg.Yields
     go_simp
     exact⟨gh,fun _ _=>rfl,rfl,HS.up (by decide) (by decide) (by intro g X Y hb h;exact h.up hb) (by intro g X Y hb h;exact h.up hb) (Below.refl _ _)⟩
   refine⟨fun gh listed A X hI hcl hin hun hall=>⟨Reg.wn,?_⟩,?_⟩
   ·have e27:A.tmps[27]? =some (.int .i64 hi):=hI.v hall 4 27;have e31:A.tmps[31]? =some (.int .i64 lo):=hI.v hall 8 31;have HS:=hI.st;have hX:=HS.bel;have wn:=HWN.out;have HX:=j0 hX;clear hI hX;unfold Reg.Yields
    go_simp
    exact⟨gh,fun _ _=>rfl,rfl,HS.up (by decide) (by decide) (by intro g X Y hb h;exact h.up hb) (by intro g X Y hb h;exact h.up hb) (Below.refl _ _)⟩
   refine⟨fun gh listed A X hI hcl hin hun hall=>⟨Reg.wn,?_⟩,?_⟩
   ·have e23:A.tmps[23]? =some (.pointer (some ⟨q,0,none⟩)):=hI.v hall 0 23;have e32:A.tmps[32]? =some (.int .i64 (n:Int)):=hI.v hall 9 32;have HS:=hI.st;have hX:=HS.bel;have HX:=j0 hX;clear hI hX;unfold Reg.Yields
    go_simp
    exact(KL AA 6 j7 lo hi z na nb' u q n X (HND.out.up HX.out) HN1.out HB.out HNE.out).mono fun e w2 h=>by
     obtain⟨v,he,hc,hb⟩:=h;exact⟨_,he,(v,gh.2),fun j hj=>t4T_a (j:=j) (fun e=>by rw [e] at hj;rw [hj] at hun;cases hun),rfl,HS.first (by decide) (Reg.un_of_reach hcl (n:=12) (by kernel_rfl) hun) hb hc⟩
   refine⟨fun gh listed A X hI hcl hin hun hall=>⟨Reg.wn,?_⟩,?_⟩
   ·have e1:=hI.wo 1 rfl;have e3:=hI.wo 3 rfl;have HS:=hI.st;have hX:=HS.bel;have HX:=j0 hX;clear hI hX;unfold Reg.Yields
    go_simp
    exact⟨gh,fun _ _=>rfl,rfl,HS.up (by decide) (by decide) (by intro g X Y hb h;exact h.up hb) (by intro g X Y hb h;exact h.up hb) (Below.refl _ _)⟩
   refine⟨fun gh listed A X hI hcl hin hun hall=>⟨Reg.wn,?_⟩,?_⟩
   ·have e33:A.tmps[33]? =some (gh.1):=hI.v hall 10 33;have e34:A.tmps[34]? =some (.func (.func 201) #[] #[.pointer (some ⟨cb,0,none⟩),.pointer (some ⟨nb,0,none⟩)]):=hI.v hall 11 34;have HS:=hI.st;have hX:=HS.bel;have HX:=j0 hX;clear hI hX;unfold Reg.Yields
    go_simp
    exact(zN 201 #[.pointer (some ⟨cb,0,none⟩),.pointer (some ⟨nb,0,none⟩)] (fun c b=>qy z (k9 2 c b)) (List.replicate n (jo u)) .nil gh.1 (.pointer none) X cf_tail1 (fun x hx=>by rw [(List.mem_replicate.1 hx).2];exact HNE.out) (by rw [List.length_replicate];have:=HN1.out;omega) (HS.one (hall ⟨10,.data⟩ (by simp) rfl)) .nil (HJC.out X HX.out)).mono fun e w2 h=>by
     obtain⟨v,he,hc,hb⟩:=h;exact⟨_,he,(gh.1,v),fun j hj=>t4T_b (j:=j) (fun e=>by rw [e] at hj;rw [hj] at hun;cases hun) (fun e=>by rw [e] at hj;rw [Reg.closed_reach hcl 60 13 12 (by kernel_rfl) hj] at hun;cases hun),rfl,HS.second (by decide) (by intro g X Y hb h;exact h.up hb) (fun _ h=>h) hb hc⟩
   refine⟨fun gh listed A X hI hcl hin hun hall=>⟨Reg.wn,?_⟩,?_⟩
   ·have e35:A.tmps[35]? =some (gh.2):=hI.v hall 12 35;have HS:=hI.st;have hX:=HS.bel;have HX:=j0 hX;clear hI hX;unfold Reg.Yields
    go_simp
    exact⟨gh,fun _ _=>rfl,rfl,HS.up (by decide) (by decide) (by intro g X Y hb h;exact h.up hb) (by intro g X Y hb h;exact h.up hb) (Below.refl _ _)⟩
   trivial
  ·intro gh X hS;have HX:=j0 hS.bel;have H1:=j0 (hS.one (by rfl));have H2:=j0 (hS.two (by rfl));clear hS;simp [Reg.finalTmps,Reg.dstAt,Reg.valOf,t4T];have HF:=j0 (HB3.out.trans (HX.out.mono HB3.out.size))
   go_wp2_with fail
   go_ret
   exact⟨_,rfl,by rw [HTC.out];exact H2.out,HF.out⟩
end
end Go.Proofs.YtnmalggmbeipaaaGreatDoor
