/- A part of the proof. -/
import Derived.Test.YtnmalggmbeipaaaGreatDoorPaZ
set_option maxRecDepth 100000
set_option maxHeartbeats 16000000
namespace Go.Proofs.YtnmalggmbeipaaaGreatDoor
section
open Go Go.RowKit
attribute [local go_sem ↓] Go.wp_at_zero Go.wp_at_succ
attribute [local go_sem] qX
structure JS(m n:Nat)(W0:World)(R:World->Prop)(l:Array Bool)(X:World):Prop where
 ahead:l.getD n false=false->X=W0
 done:l.getD n false=true->R X
 ord:l.getD n false=true->∀i,i<m->l.getD i false=true
theorem JS.at{m n i:Nat}{W0:World}{R:World->Prop}{l:Array Bool}{X:World}(h:JS m n W0 R l X)(hun:l.getD i false=false)(hi:i<m):X=W0:=by
 cases e:l.getD n false with
 |false=>exact h.ahead e
 |true=>rw [h.ord e i hi] at hun;cases hun
theorem JS.up{m n i:Nat}{W0:World}{R:World->Prop}{l:Array Bool}{X:World}(h:JS m n W0 R l X)(hi:i≠n):JS m n W0 R (l.setIfInBounds i true) X:=by
 refine⟨fun e=> ?_,fun e=> ?_,fun e j hj=> ?_⟩
 ·rw [getD_set_ne false hi] at e;exact h.ahead e
 ·rw [getD_set_ne false hi] at e;exact h.done e
 ·rw [getD_set_ne false hi] at e;exact getD_set_true (h.ord e j hj)
theorem JS.put{m n:Nat}{W0:World}{R:World->Prop}{l:Array Bool}{X Y:World}(_:JS m n W0 R l X)(hin:n<l.size)(hl:∀i,i<m->l.getD i false=true)(_:m<=n)(hR:R Y):JS m n W0 R (l.setIfInBounds n true) Y:=by
 refine⟨fun e=> ?_,fun _=>hR,fun _ j hj=>getD_set_true (hl j hj)⟩;rw [Reg.set_self hin] at e;cases e
theorem JS.start(m n k:Nat)(W0:World)(R:World->Prop):JS m n W0 R (Array.replicate k false) W0:=
 ⟨fun _=>rfl,fun e=>by simp [Array.getD_eq_getD_getElem?,Array.getElem?_replicate] at e;split at e<;>simp_all,fun e=>by simp [Array.getD_eq_getD_getElem?,Array.getElem?_replicate] at e;split at e<;>simp_all⟩
def leTold1(fb pb n q fn:Nat)(caps:Array Value)(v:Value)(x:Int):Nat->Value
 |0=>.pointer (some ⟨fb,0,none⟩)
 |1=>.pointer (some ⟨fb,0,none⟩)
 |2=>.pointer (some ⟨fb,0,none⟩)
 |3=>.func (.func fn) #[] caps
 |4=>.pointer (some ⟨pb,n*2,none⟩)
 |5=>.pointer (some ⟨pb,n*2,none⟩)
 |6=>.pointer (some ⟨pb,n*2,none⟩)
 |7=>j6 q
 |8=>.pointer (some ⟨pb,n*2,none⟩)
 |9=>.pointer (some ⟨pb,n*2,none⟩)
 |10=>.pointer (some ⟨pb,n*2+1,none⟩)
 |11=>v
 |12=>.int .i64 x
 |13=>.int .i64 x
 |_=>undef
def vS(fb pb n q mb:Nat)(x:Int):Nat->Value
 |0=>.pointer (some ⟨fb,0,none⟩)
 |1=>.pointer (some ⟨fb,0,none⟩)
 |2=>.pointer (some ⟨fb,1,none⟩)
 |3=>.map (some mb)
 |4=>.pointer (some ⟨pb,n*2,none⟩)
 |5=>.pointer (some ⟨pb,n*2,none⟩)
 |6=>.pointer (some ⟨pb,n*2,none⟩)
 |7=>j6 q
 |8=>.int .i64 x
 |_=>undef
def vs(fb pb n cap:Nat):Nat->Value
 |0=>.pointer (some ⟨fb,0,none⟩)
 |1=>.pointer (some ⟨fb,0,none⟩)
 |2=>.pointer (some ⟨fb,0,none⟩)
 |3=>.pointer (some ⟨fb,2,none⟩)
 |4=>.slice (some ⟨pb,0,none⟩) (n+1) cap
 |5=>.pointer (some ⟨fb,0,none⟩)
 |6=>.pointer (some ⟨fb,0,none⟩)
 |7=>.pointer (some ⟨fb,2,none⟩)
 |8=>.slice (some ⟨pb,0,none⟩) (n+1) cap
 |9=>.int .i64 ((n:Int)+1)
 |10=>.int .i64 (n:Int)
 |11=>.slice (some ⟨pb,0,none⟩) n cap
 |12=>.pointer (some ⟨fb,0,none⟩)
 |13=>.pointer (some ⟨fb,2,none⟩)
 |_=>undef
theorem qN.cap_le{w:World}{B fb pb cap:Nat}{S:List vu}{F M:Value}(h:qN w B fb pb cap S F M):S.length<=cap:=by
 rcases h.row.2 with ⟨e,_⟩|⟨g,c,cur,e,hb,hh,hn,hm,hs,ht⟩
 ·cases e
 ·simp only [Value.slice.injEq,Option.some.injEq,Addr.mk.injEq,and_true,true_and] at e;omega
theorem qC{w w1:World}(r:Option Nat)(h:Below w.heap.size w w1):w.grownBy w1 r:=⟨h.os,h.tape,h.output,h.size,fun k hk _=>h.block k hk⟩
theorem qH.below{w w1:World}{mb:Nat}{D:List (Nat×Int)}(h:qH w mb D)(hb:Below w.heap.size w w1):qH w1 mb D:=by
 obtain⟨es,c,h1,h2⟩:=h;exact⟨es,c,(hb.block mb (jS h1)).trans h1,h2⟩
theorem Je.below{w w1:World}{q:Nat}(h:Je w q)(hb:Below w.heap.size w w1):Je w1 q:=by
 obtain⟨c,t,h1⟩:=h;exact⟨c,t,(hb.block q (jS h1)).trans h1⟩
def yi:Nat->List (Nat×Nat)
 |0=> [(0,0)]
 |1=> [(0,0)]
 |2=> [(29,2)]
 |3=> [(30,3)]
 |5=> [(0,0)]
 |6=> [(33,6)]
 |7=> [(34,7)]
 |9=> [(36,9)]
 |10=> [(37,10)]
 |11=> [(32,5),(38,11)]
 |12=> [(28,1)]
 |13=> [(40,13)]
 |_=> []
def JP:Nat->List (Nat×Nat)
 |0=> [(0,0)]
 |1=> [(19,1)]
 |2=> [(20,2)]
 |4=> [(2,0)]
 |5=> [(23,5)]
 |6=> [(24,6)]
 |_=> []
def yj:Nat->List (Nat×Nat)
 |0=> [(0,0)]
 |1=> [(6,1)]
 |2=> [(7,2)]
 |4=> [(2,0)]
 |5=> [(10,5)]
 |6=> [(11,6)]
 |8=> [(2,0)]
 |9=> [(14,9)]
 |10=> [(15,10)]
 |_=> []
theorem YU(B fb pb cap mb n q:Nat)(S:List vu)(s0:vu)(ps:List Int)(v:Value)(w:World)(fn:FuncId)(caps:Array Value)(h:qN w B fb pb cap (S++ [s0]++ [⟨q,ps,v⟩]) (.func (.func fn) #[] caps) (.map (some mb)))(hnn:n=S.length+1)(hS:n<=1099511627776)(hps:s0.ps.length<=1099511627776)(hmf:mb≠fb)(hmB:mb<B)
  (D:List (Nat×Int)) (hM:qH w mb D) (hD:∀p∈D,Je w p.1) (hq:Je w q) (x:Int)
  (hcf:∀args W,(callFunc fn args).run Tryz.prog W=.ok (.enter fn args) W)
  (hn:∀X,Below w.heap.size w X->Calls Tryz.prog fn (#[j6 q,v]++caps) X fun e w'=>e=.returned (.int .i64 x)/\Below X.heap.size X w'):
  Calls Tryz.prog 147 #[.pointer (some ⟨fb,0,none⟩)] w fun e w'=>e=.returned (.tuple #[])/\(∃v4,qN w' B fb pb cap (S++ [⟨s0.q,s0.ps++ [x],v4⟩]) (.func (.func fn) #[] caps) (.map (some mb)))/\qH w' mb (xq D q x)/\FoKeep B fb mb w w':=by
 have hw:IntKind.i64.wrap (n:Int)=(n:Int):=by simp [IntKind.wrap,IntKind.signed,IntKind.bits];omega
 have hl1:(S++ [s0]).length=n:=by simp;omega
 have hl2:(S++ [s0]++ [(⟨q,ps,v⟩:vu)]).length=n+1:=by simp;omega
 have hcap:=h.cap_le;rw [hl2] at hcap;have hnc:n<=cap:=by omega
 have hc2:=h.c2;rw [hl2] at hc2;have LA:=j0 (zE fb pb n cap w hc2 hS);have H0:=j0 h;have HM:=j0 hM;have HD:=j0 hD;have HQ:=j0 hq;have HN:=j0 (fun X (hX:Below w.drew.drew.heap.size w.drew.drew X)=>hn X ((Below.refl _ _).drew.drew.trans hX));have hfl0:=h.lt;have hpl0:=h.pb_lt.2;have ht:=h.top;rw [hl1] at ht;have HT0:Hid (w.drew.drew.cell? ⟨pb,n*2,none⟩=some (j6 q)):=j0 ht.1;have HT1:Hid (w.drew.drew.cell? ⟨pb,n*2+1,none⟩=some v):=j0 ht.2.1;have HC0:Hid (w.drew.drew.cell? ⟨fb,0,none⟩=some (Value.func (.func fn) #[] caps)):=j0 h.c0;have HL1:=j0 hl1;have HNN:=j0 hnn;clear h hM hD hn hc2 hq ht hl1 hl2 hnn
 go_enter Tryz.func147,Tryz.ntmps147
 go_wp2_with fail
 refine LA.out.mono ?_;rintro e w1 ⟨rfl,hw1⟩;have HW1:Hid (w1.drew=w.drew.drew):=j0 (by rw [hw1]);clear hw1 LA
 go_wp2_with fail
 obtain⟨W0,hW0⟩:∃X,X=w.drew.drew:=⟨_,rfl⟩;have HB0:Hid (Below w.heap.size w W0):=j0 (by rw [hW0];exact(Below.refl _ _).drew.drew);rw [<-hW0] at HN HT0 HT1 HC0 HW1;have hfl:fb<W0.heap.size:=by rw [hW0];exact hfl0
 have hpl:pb<W0.heap.size:=by rw [hW0];exact hpl0
 clear hW0;refine Reg.wp_region_S (leTold1 fb pb n q fn caps v x) (fun _ X=>Below W0.heap.size W0 X) [0,1,2,3,4,5,6,7,8,9,10,11,12,13] (by rfl) (by kernel_rfl) (by kernel_rfl) ?_ ?_ ?_
 ·rw [HW1.out];exact Below.refl _ _
 ·iterate 3
   refine Reg.oS (fun listed A X hI hin hun hall HS=> ?_) ?_
   ·have E:=hI.tf hun hall yj;simp only [Reg.TF,yj,leTold1,Reg.la,Reg.lb] at E;clear hI hall
    go_simp
    first|rfl|exact⟨rfl,HS⟩|exact⟨HS,rfl⟩|(refine⟨?_,HS⟩;simp [leTold1])
  refine Reg.oS (fun listed A X hI hin hun hall HS=> ?_) ?_
  ·have e8:A.tmps[8]? =some (.pointer (some ⟨fb,0,none⟩)):=hI.v hall 2 8;have k0:X.cell? ⟨fb,0,none⟩=some (Value.func (.func fn) #[] caps):=(World.cell?_of_block (w:=W0) (a:=⟨fb,0,none⟩) (HS.block _ (by first|exact hfl|exact hpl))).trans HC0.out;clear hI hall
   go_simp
   first|rfl|exact⟨rfl,HS⟩|exact⟨HS,rfl⟩|(refine⟨?_,HS⟩;simp [leTold1])
  iterate 3
   refine Reg.oS (fun listed A X hI hin hun hall HS=> ?_) ?_
   ·have E:=hI.tf hun hall yj;simp only [Reg.TF,yj,leTold1,Reg.la,Reg.lb,Reg.lc] at E;clear hI hall
    go_simp
    first|rfl|exact⟨rfl,HS⟩|exact⟨HS,rfl⟩|(refine⟨?_,HS⟩;simp [leTold1])
  refine Reg.oS (fun listed A X hI hin hun hall HS=> ?_) ?_
  ·have e12:A.tmps[12]? =some (.pointer (some ⟨pb,n*2,none⟩)):=hI.v hall 6 12;have k0:X.cell? ⟨pb,n*2,none⟩=some (j6 q):=(World.cell?_of_block (w:=W0) (a:=⟨pb,n*2,none⟩) (HS.block _ (by first|exact hfl|exact hpl))).trans HT0.out;clear hI hall
   go_simp
   first|rfl|exact⟨rfl,HS⟩|exact⟨HS,rfl⟩|(refine⟨?_,HS⟩;simp [leTold1])
  iterate 3
   refine Reg.oS (fun listed A X hI hin hun hall HS=> ?_) ?_
   ·have E:=hI.tf hun hall yj;simp only [Reg.TF,yj,leTold1,Reg.la,Reg.lb,Reg.lc] at E;clear hI hall
    go_simp
    first|rfl|exact⟨rfl,HS⟩|exact⟨HS,rfl⟩|(refine⟨?_,HS⟩;simp [leTold1])
  refine Reg.oS (fun listed A X hI hin hun hall HS=> ?_) ?_
  ·have e16:A.tmps[16]? =some (.pointer (some ⟨pb,n*2+1,none⟩)):=hI.v hall 10 16;have k0:X.cell? ⟨pb,n*2+1,none⟩=some (v):=(World.cell?_of_block (w:=W0) (a:=⟨pb,n*2+1,none⟩) (HS.block _ (by first|exact hfl|exact hpl))).trans HT1.out;clear hI hall
   go_simp
   first|rfl|exact⟨rfl,HS⟩|exact⟨HS,rfl⟩|(refine⟨?_,HS⟩;simp [leTold1])
  refine Reg.oS (fun listed A X hI hin hun hall HS=> ?_) ?_
  ·have e9:A.tmps[9]? =some (Value.func (.func fn) #[] caps):=hI.v hall 3 9;have e13:A.tmps[13]? =some (j6 q):=hI.v hall 7 13;have e17:A.tmps[17]? =some (v):=hI.v hall 11 17;have CN:=HN.out X HS;clear hI hall
   go_simp
   exact CN.mono fun e w'' ⟨he,hb⟩=>⟨_,he,rfl,HS.trans (hb.mono HS.size)⟩
  refine Reg.oS (fun listed A X hI hin hun hall HS=> ?_) ?_
  ·have e18:A.tmps[18]? =some (.int .i64 x):=hI.v hall 12 18;clear hI hall
   go_simp
   first|rfl|exact⟨rfl,HS⟩|exact⟨HS,rfl⟩|(refine⟨?_,HS⟩;simp [leTold1])
  trivial
 ·intro W2 hS;have HBA:=j0 ((HB0.out.trans (hS.mono HB0.out.size)).drew);clear hS hfl hpl HT0 HT1 HC0 HW1 HN HB0 hcf;simp [Reg.finalTmps,Reg.dstAt,Reg.valOf,leTold1]
  go_wp2_with fail
  obtain⟨W3,hW3⟩:∃X,X=W2.drew:=⟨_,rfl⟩;rw [<-hW3] at HBA;have HW3:Hid (W2.drew=W3):=j0 hW3.symm;clear hW3;have h3:=H0.out.mapped hmf hmB (qC _ HBA.out);have hM3:=HM.out.below HBA.out;have hD3:∀p∈D,Je W3 p.1:=fun p hp=>(HD.out p hp).below HBA.out
  obtain⟨w1,hup,hM1,hg1⟩:=Qa x hM3 (HQ.out.below HBA.out) hD3;have HUP:=j0 hup;have HM1:=j0 hM1;have HG1:=j0 hg1;have HC1:=j0 h3.c1;have ht:=h3.top;rw [HL1.out] at ht;have HT0:=j0 ht.1;have H3:=j0 h3;have hfl:=h3.lt;have hpl:=h3.pb_lt.2;clear hup hM1 hg1 h3 hM3 hD3 ht;refine Reg.wp_region_S (vS fb pb n q mb x) (JS 9 9 W3 (fun X=>X=w1)) [0,1,2,3,4,5,6,7,8,9] (by rfl) (by kernel_rfl) (by kernel_rfl) ?_ ?_ ?_
  ·rw [HW3.out];exact JS.start _ _ _ _ _
  ·iterate 3
    refine Reg.oS (fun listed A X hI hin hun hall HS=> ?_) ?_
    ·have E:=hI.tf hun hall JP;simp only [Reg.TF,JP,vS,Reg.la,Reg.lb] at E;clear hI hall
     go_simp
     first|rfl|exact⟨rfl,HS.up (by decide)⟩|(refine⟨?_,HS.up (by decide)⟩;simp [vS])
   refine Reg.oS (fun listed A X hI hin hun hall HS=> ?_) ?_
   ·have e21:A.tmps[21]? =some (.pointer (some ⟨fb,1,none⟩)):=hI.v hall 2 21;have hX:=(HS.at (by simpa using hun) (by decide)).symm;subst hX;have k0:=HC1.out;clear hI hall
    go_simp
    first|rfl|exact⟨rfl,HS.up (by decide)⟩|(refine⟨?_,HS.up (by decide)⟩;simp [vS])
   iterate 3
    refine Reg.oS (fun listed A X hI hin hun hall HS=> ?_) ?_
    ·have E:=hI.tf hun hall JP;simp only [Reg.TF,JP,vS,Reg.la,Reg.lb,Reg.lc] at E;clear hI hall
     go_simp
     first|rfl|exact⟨rfl,HS.up (by decide)⟩|(refine⟨?_,HS.up (by decide)⟩;simp [vS])
   refine Reg.oS (fun listed A X hI hin hun hall HS=> ?_) ?_
   ·have e25:A.tmps[25]? =some (.pointer (some ⟨pb,n*2,none⟩)):=hI.v hall 6 25;have hX:=(HS.at (by simpa using hun) (by decide)).symm;subst hX;have k0:=HT0.out;clear hI hall
    go_simp
    first|rfl|exact⟨rfl,HS.up (by decide)⟩|(refine⟨?_,HS.up (by decide)⟩;simp [vS])
   refine Reg.oS (fun listed A X hI hin hun hall HS=> ?_) ?_
   ·have e3:=hI.wo 3 rfl;clear hI hall
    go_simp
    first|rfl|exact⟨rfl,HS.up (by decide)⟩|(refine⟨?_,HS.up (by decide)⟩;simp [vS])
   refine Reg.oS (fun listed A X hI hin hun hall HS=> ?_) ?_
   ·have e22:A.tmps[22]? =some (.map (some mb)):=hI.v hall 3 22;have e26:A.tmps[26]? =some (j6 q):=hI.v hall 7 26;have e27:A.tmps[27]? =some (.int .i64 x):=hI.v hall 8 27
    have hl:∀i,i<9->listed.getD i false=true:=fun i hi=>match i,hi with|0,_=>hall ⟨0,.phase⟩ (by simp) rfl|1,_=>hall ⟨1,.phase⟩ (by simp) rfl|2,_=>hall ⟨2,.phase⟩ (by simp) rfl|3,_=>hall ⟨3,.phase⟩ (by simp) rfl|4,_=>hall ⟨4,.phase⟩ (by simp) rfl|5,_=>hall ⟨5,.phase⟩ (by simp) rfl|6,_=>hall ⟨6,.phase⟩ (by simp) rfl|7,_=>hall ⟨7,.phase⟩ (by simp) rfl|8,_=>hall ⟨8,.phase⟩ (by simp) rfl|j+9,hj=>absurd hj (by omega)
    have hn9:listed.getD 9 false=false:=by simpa using hun
    have hX:=(HS.ahead hn9).symm;subst hX;have hup:=HUP.out;clear hI hall
    go_simp
    exact⟨rfl,HS.put hin hl (by decide) rfl⟩
   trivial
  ·intro W4 hS;obtain rfl:w1=W4:=(hS.done (by rfl)).symm;have h5:=H3.out.mapped (w1:=w1.drew) hmf hmB ⟨HG1.out.os,HG1.out.tape,HG1.out.output,HG1.out.size,HG1.out.block⟩;have hfl5:=h5.lt;clear hS HT0 HC1 HUP hfl hpl HW3;simp [Reg.finalTmps,Reg.dstAt,Reg.valOf,vS]
   go_wp2_with fail
   obtain⟨W5,hW5⟩:∃X,X=w1.drew:=⟨_,rfl⟩;rw [<-hW5] at h5 hfl5;have HW5:Hid (w1.drew=W5):=j0 hW5.symm;have HB5:Hid (W5.heap=w1.heap/\W5.os=w1.os/\W5.tape=w1.tape/\W5.output=w1.output):=j0 (by rw [hW5];exact⟨rfl,rfl,rfl,rfl⟩);clear hW5;have hc2:=h5.c2;rw [show(S++ [s0]++ [(⟨q,ps,v⟩:vu)]).length=n+1 by simp;have:=HNN.out;omega] at hc2;have HC2:=j0 hc2;have HFZ:=j0 h5.fz;have hp5:=h5.pop;rw [HL1.out] at hp5;have hpb5:=h5.pb_lt;have HP5:=j0 hp5;have FT:=j0 (zK B fb pb cap S s0 _ _ x _ hp5 (by have:=HNN.out;omega) hps);clear h5 hp5 hc2;refine Reg.wp_region_S (vs fb pb n cap) (JS 12 14 W5 (fun X=>X=W5.setCell ⟨fb,2,none⟩ (.slice (some ⟨pb,0,none⟩) n cap))) [0,1,2,3,4,5,6,7,8,9,10,11,12,13,14] (by rfl) (by kernel_rfl) (by kernel_rfl) ?_ ?_ ?_
   ·rw [HW5.out];exact JS.start _ _ _ _ _
   ·iterate 4
     refine Reg.oS (fun listed A X hI hin hun hall HS=> ?_) ?_
     ·have E:=hI.tf hun hall yi;simp only [Reg.TF,yi,vs,Reg.la,Reg.lb] at E;clear hI hall
      go_simp
      first|rfl|exact⟨rfl,HS.up (by decide)⟩|(refine⟨?_,HS.up (by decide)⟩;simp [vs,hw])
    refine Reg.oS (fun listed A X hI hin hun hall HS=> ?_) ?_
    ·have e31:A.tmps[31]? =some (.pointer (some ⟨fb,2,none⟩)):=hI.v hall 3 31;have hX:=(HS.at (by simpa using hun) (by decide)).symm;subst hX;have k0:=HC2.out;clear hI hall
     go_simp
     first|rfl|exact⟨rfl,HS.up (by decide)⟩|(refine⟨?_,HS.up (by decide)⟩;simp [vs,hw])
    iterate 3
     refine Reg.oS (fun listed A X hI hin hun hall HS=> ?_) ?_
     ·have E:=hI.tf hun hall yi;simp only [Reg.TF,yi,vs,Reg.la,Reg.lb] at E;clear hI hall
      go_simp
      first|rfl|exact⟨rfl,HS.up (by decide)⟩|(refine⟨?_,HS.up (by decide)⟩;simp [vs,hw])
    refine Reg.oS (fun listed A X hI hin hun hall HS=> ?_) ?_
    ·have e35:A.tmps[35]? =some (.pointer (some ⟨fb,2,none⟩)):=hI.v hall 7 35;have hX:=(HS.at (by simpa using hun) (by decide)).symm;subst hX;have k0:=HC2.out;clear hI hall
     go_simp
     first|rfl|exact⟨rfl,HS.up (by decide)⟩|(refine⟨?_,HS.up (by decide)⟩;simp [vs,hw])
    iterate 5
     refine Reg.oS (fun listed A X hI hin hun hall HS=> ?_) ?_
     ·have E:=hI.tf hun hall yi;simp only [Reg.TF,yi,vs] at E;clear hI hall
      go_simp
      first|rfl|exact⟨rfl,HS.up (by decide)⟩|(refine⟨?_,HS.up (by decide)⟩;simp [vs,hw])
    refine Reg.oS (fun listed A X hI hin hun hall HS=> ?_) ?_
    ·have e41:A.tmps[41]? =some (.pointer (some ⟨fb,2,none⟩)):=hI.v hall 13 41;have e39:A.tmps[39]? =some (.slice (some ⟨pb,0,none⟩) n cap):=hI.v hall 11 39
     have hl:∀i,i<12->listed.getD i false=true:=fun i hi=>match i,hi with|0,_=>hall ⟨0,.phase⟩ (by simp) rfl|1,_=>hall ⟨1,.phase⟩ (by simp) rfl|2,_=>hall ⟨2,.phase⟩ (by simp) rfl|3,_=>hall ⟨3,.phase⟩ (by simp) rfl|4,_=>hall ⟨4,.phase⟩ (by simp) rfl|5,_=>hall ⟨5,.phase⟩ (by simp) rfl|6,_=>hall ⟨6,.phase⟩ (by simp) rfl|7,_=>hall ⟨7,.phase⟩ (by simp) rfl|8,_=>hall ⟨8,.phase⟩ (by simp) rfl|9,_=>hall ⟨9,.phase⟩ (by simp) rfl|10,_=>hall ⟨10,.phase⟩ (by simp) rfl|11,_=>hall ⟨11,.phase⟩ (by simp) rfl|j+12,hj=>absurd hj (by omega)
     have hn14:listed.getD 14 false=false:=by simpa using hun
     have hX:=(HS.ahead hn14).symm;subst hX;have k0:=HC2.out;have k1:=HFZ.out;clear hI hall
     go_simp
     exact⟨rfl,HS.put hin hl (by decide) rfl⟩
    trivial
   ·intro W6 hS;have h6:=hS.done (by rfl);subst h6;clear hS HC2 HFZ;simp [Reg.finalTmps,Reg.dstAt,Reg.valOf,vs];obtain⟨W6,hW6⟩:∃X,X=W5.setCell ⟨fb,2,none⟩ (.slice (some ⟨pb,0,none⟩) n cap):=⟨_,rfl⟩;rw [<-hW6] at FT HP5;rw [<-hW6];have HW6:=j0 hW6;clear hW6
    go_wp2_with fail
    refine FT.out.mono ?_;rintro e w7 ⟨rfl,v4,h7,hb7⟩;have HB7:=j0 hb7;have HF7:=j0 h7;clear FT HP5 hb7 h7
    go_wp2_with fail
    go_end0
    have hB5:=HB5.out;have h1:W6.heap.size=w1.heap.size:=by rw [HW6.out,World.size_setCell,hB5.1]
    have hB:B<=w.heap.size:=by have:=H0.out.pb_lt;omega
    have hsz3:=HBA.out.size;have old:∀k,k≠fb->W6.heap[k]? =w1.heap[k]? :=fun k hk=>by rw [HW6.out];exact(Below.heap_setCell W5 ⟨fb,2,none⟩ _ k hk).trans (by rw [hB5.1])
    refine⟨rfl,⟨v4,HF7.out⟩,?_,?_⟩
    ·obtain⟨es,c,g1,g2⟩:=HM1.out;exact⟨es,c,(HB7.out.block mb hmB).trans ((old mb hmf).trans g1),g2⟩
    ·refine(FoKeep.below (HBA.out.mono hB)).trans (FoKeep.trans (w1:=w1) ⟨HG1.out.os,HG1.out.tape,HG1.out.output,HG1.out.size,fun k hk _ h2=>HG1.out.block k (by omega) (fun e=>h2 (Option.some.inj e))⟩ (FoKeep.trans (w1:=W6) ⟨?_,?_,?_,by omega,fun k hk h1 _=>old k h1⟩ (FoKeep.below HB7.out)))
     ·rw [HW6.out];exact hB5.2.1
     ·rw [HW6.out];exact hB5.2.2.1
     ·rw [HW6.out];exact hB5.2.2.2
theorem qN.below{w w1:World}{B fb pb cap:Nat}{S:List vu}{F M:Value}(h:qN w B fb pb cap S F M)(hb:Below w.heap.size w w1):qN w1 B fb pb cap S F M:=by
 have hf:w1.heap[fb]? =w.heap[fb]? :=hb.block fb h.lt;have hg:w.grownBy w1 none:=qC none hb;refine⟨(World.cell?_of_block (w:=w) (a:=⟨fb,0,none⟩) hf).trans h.c0,(World.cell?_of_block (w:=w) (a:=⟨fb,1,none⟩) hf).trans h.c1,(World.cell?_of_block (w:=w) (a:=⟨fb,2,none⟩) hf).trans h.c2,(World.frozen?_of_block (w:=w) (a:=⟨fb,2,none⟩) hf).trans h.fz,Nat.lt_of_lt_of_le h.lt hb.size,h.ne,h.fbo,?_,?_,h.apart,h.pairs⟩
 ·exact qp h.row hg (fun g hb e=>by cases e)
 ·exact fun t ht=>qp (h.parts t ht) hg (fun g hb e=>by cases e)
theorem Vf(B fb pb cap:Nat)(S:List vu)(s:vu)(M:Value)(w:World)(fn:FuncId)(caps:Array Value)(h:qN w B fb pb cap (S++ [s]) (.func (.func fn) #[] caps) M)(hS:S.length<=1099511627776)(hps:s.ps.length<=1099511627776)
  (q:Nat) (k:Int) (z4:W4) (lo hi:Int) (z:Bool) (lp:Option Addr) (lc:Nat) (a b:Nat) (hq:w.heap[q]? =some (vn k z4 lo hi z (.slice lp 0 lc) a b)) (x:Int)
  (hcf:∀args W,(callFunc fn args).run Tryz.prog W=.ok (.enter fn args) W)
  (hn:Calls Tryz.prog fn (#[j6 q,.slice none 0 0]++caps) w fun e w'=>e=.returned (.int .i64 x)/\Below w.heap.size w w'):
  Calls Tryz.prog 146 #[.pointer (some ⟨fb,0,none⟩),.pointer (some ⟨q,0,none⟩)] w fun e w'=>e=.returned (.bool true)/\∃v4,qN w' B fb pb cap (S++ [⟨s.q,s.ps++ [x],v4⟩]) (.func (.func fn) #[] caps) M/\Below B w w':=by
 have hB:B<=w.heap.size:=by have:=h.pb_lt;omega
 have FT:=j0 (fun w1 (hb:Below w.heap.size w w1)=>zK B fb pb cap S s _ M x w1 (h.below hb) hS hps);have CN:=j0 hn;have c0:=h.c0;have n5:=jC hq 8;simp only [Reg.la,Reg.lb,Reg.lc] at n5;clear h hn hq
 go_enter Tryz.func146,Tryz.ntmps146
 go_wp2_with fail
 refine CN.out.mono ?_;rintro e w1 ⟨rfl,hw⟩;have FT1:=j0 (FT.out w1 hw);have HB1:=j0 (hw.mono hB);clear CN FT hw c0 n5 hB
 go_wp2_with fail
 refine FT1.out.mono ?_;rintro e w2 ⟨rfl,v4,hw,hb⟩;have HW:=j0 hw;have HB2:=j0 hb;clear hw hb FT1
 go_wp2_with fail
 exact bodyPost_ret (v:=.bool true) (by simp [results,Tryz.results146,go_sem]) rfl ⟨rfl,v4,HW.out,HB1.out.trans HB2.out⟩
def kM:Tr->List Tr
 | .mk _ _ _ _ _ _ _ l=>l
theorem Jy(jP:Tr->List Int->Int)(u:Tr):jW jP u=jP u ((kM u).map (jW jP)):=by
 cases u with
 |mk k s lo hi z a b l=>rw [jW,foldL_map];rfl
theorem kI(u:Tr):jc u=1+jz (kM u):=by
 cases u with
 |mk k s lo hi z a b l=>rw [jc];rfl
theorem vg(u:Tr):1<=jc u:=by rw [kI];omega
theorem vv{u c:Tr}{i:Nat}(h:(kM u)[i]? =some c):jc c<jc u:=by
 have:=jZ (List.mem_of_getElem? h);rw [kI u];omega
theorem kZ(l:List Tr):l.length<=jz l:=by
 induction l with
 |nil=>simp
 |cons t l ih=>rw [jz];have:=vg t;simp;omega
theorem Jj{l:List Tr}{k:Nat}{c:Tr}(h:l[k]? =some c):jz (l.drop k)=jc c+jz (l.drop (k+1)):=by
 have hlt:=(List.getElem?_eq_some_iff.1 h).1;rw [List.drop_eq_getElem_cons hlt,jz];rw [List.getElem?_eq_getElem hlt] at h;rw [Option.some.inj h]
theorem jJ.prt{w:World}{A:Nat->Prop}{u:Tr}{q:Nat}(h:jJ w A u (j6 q)):
  A q/\∃k s lo hi z p cap a b,w.heap[q]? =some (vn k s lo hi z (.slice p (kM u).length cap) a b)/\∀(i:Nat) (t:Tr),(kM u)[i]? =some t->∃c c',p=some ⟨c,0,none⟩/\c<w.heap.size/\w.cell? ⟨c,i,none⟩=some (j6 c')/\jJ w A t (j6 c'):=by
 cases u with
 |mk k s lo hi z a b l=>
  obtain⟨q',p,cap,e,hq,hb,hk⟩:=h.head;injection e with e;injection e with e;injection e with e;subst e;refine⟨hq,k,s,lo,hi,z,p,cap,a,b,hb,fun i t hi=> ?_⟩;obtain⟨c,v,h1,h2,h3,h4⟩:=hk i t hi;obtain⟨c',rfl⟩:=h4.pointer;exact⟨c,c',h1,h2,h3,h4⟩
theorem jJ.same{w w':World}{A:Nat->Prop}{t:Tr}{v:Value}(h:jJ w A t v)(hA:∀b,A b->w'.heap[b]? =w.heap[b]?)(hs:w.heap.size<=w'.heap.size):jJ w' A t v:=by
 induction h with
 |node k s lo hi z a b l q p cap us hq hb hc ht ih=>
  refine .node k s lo hi z a b l q p cap us hq ((hA q hq).trans hb) (fun i t hi=> ?_) (fun i t hi=>ih i t hi);obtain⟨c,h1,h2,h3,h4⟩:=hc i t hi;exact⟨c,h1,h2,Nat.lt_of_lt_of_le h3 hs,(World.cell?_of_block (w:=w) (a:=⟨c,i,none⟩) (hA c h2)).trans h4⟩
abbrev KT:=List (vu×Tr)
structure zx(w:World)(A:Nat->Prop)(jP:Tr->List Int->Int)(s:vu)(u:Tr):Prop where
 nd:jJ w A u (j6 s.q)
 ps:s.ps=((kM u).take s.ps.length).map (jW jP)
 le:s.ps.length<=(kM u).length
 ne:1<=(kM u).length
def ChOK(w:World)(A:Nat->Prop)(jP:Tr->List Int->Int)(D0:Tr):KT->Prop
 | []=>False
 | [x]=>zx w A jP x.1 x.2/\x.2=D0
 |x::y::r=>zx w A jP x.1 x.2/\(kM y.2)[y.1.ps.length]? =some x.2/\ChOK w A jP D0 (y::r)
theorem ChOK.top{w:World}{A:Nat->Prop}{jP:Tr->List Int->Int}{D0:Tr}{x:vu×Tr}{r:KT}(h:ChOK w A jP D0 (x::r)):zx w A jP x.1 x.2:=by
 cases r with
 |nil=>exact h.1
 |cons y r=>exact h.1
theorem ChOK.mem{w:World}{A:Nat->Prop}{jP:Tr->List Int->Int}{D0:Tr}:∀{P:KT},ChOK w A jP D0 P->∀x∈P,zx w A jP x.1 x.2
 | [],h,_,_=>h.elim
 | [y],h,x,hx=>by
  obtain rfl:x=y:=by simpa using hx
  exact h.1
 |y::z::r,h,x,hx=>by
  rcases List.mem_cons.1 hx with rfl|hx
  ·exact h.1
  ·exact ChOK.mem h.2.2 x hx
theorem ChOK.size{w:World}{A:Nat->Prop}{jP:Tr->List Int->Int}{D0:Tr}:∀{P:KT} {x:vu×Tr},ChOK w A jP D0 (x::P)->(∀y∈x::P,jc x.2<=jc y.2)/\jc x.2+P.length<=jc D0
 | [],x,h=>by
  refine⟨fun y hy=> ?_,by rw [h.2];simp⟩;obtain rfl:y=x:=by simpa using hy
  exact jN _
 |z::r,x,h=>by
  obtain⟨h1,h2⟩:=ChOK.size h.2.2;have h3:=vv h.2.1;refine⟨fun y hy=> ?_,by simp;omega⟩
  rcases List.mem_cons.1 hy with rfl|hy
  ·exact jN _
  ·have:=h1 y hy;omega
theorem zx.same{w w':World}{A:Nat->Prop}{jP:Tr->List Int->Int}{s:vu}{u:Tr}(h:zx w A jP s u)(hA:∀b,A b->w'.heap[b]? =w.heap[b]?)(hs:w.heap.size<=w'.heap.size):zx w' A jP s u:=
 ⟨h.nd.same hA hs,h.ps,h.le,h.ne⟩
theorem ChOK.same{w w':World}{A:Nat->Prop}{jP:Tr->List Int->Int}{D0:Tr}(hA:∀b,A b->w'.heap[b]? =w.heap[b]?)(hs:w.heap.size<=w'.heap.size):∀{P:KT},ChOK w A jP D0 P->ChOK w' A jP D0 P
 | [],h=>h
 | [_],h=>⟨h.1.same hA hs,h.2⟩
 |_::_::_,h=>⟨h.1.same hA hs,h.2.1,ChOK.same hA hs h.2.2⟩
theorem zx.told{w:World}{A:Nat->Prop}{jP:Tr->List Int->Int}{s:vu}{u c:Tr}(h:zx w A jP s u)(hc:(kM u)[s.ps.length]? =some c)(v4:Value):zx w A jP ⟨s.q,s.ps++ [jW jP c],v4⟩ u:=by
 have hlt:=(List.getElem?_eq_some_iff.1 hc).1;refine⟨h.nd,?_,by simp;omega,h.ne⟩
 show s.ps++ [jW jP c]=((kM u).take (s.ps++ [jW jP c]).length).map (jW jP)
 rw [List.length_append,List.length_singleton,List.take_add_one,hc,List.map_append,<-h.ps];rfl
theorem ChOK.told{w:World}{A:Nat->Prop}{jP:Tr->List Int->Int}{D0:Tr}{s:vu}{u c:Tr}{r:KT}(h:ChOK w A jP D0 ((s,u)::r))(hc:(kM u)[s.ps.length]? =some c)(v4:Value):ChOK w A jP D0 ((⟨s.q,s.ps++ [jW jP c],v4⟩,u)::r):=by
 cases r with
 |nil=>exact⟨zx.told h.1 hc v4,h.2⟩
 |cons y r=>exact⟨zx.told h.1 hc v4,h.2.1,h.2.2⟩
theorem ChOK.push{w:World}{A:Nat->Prop}{jP:Tr->List Int->Int}{D0:Tr}{s:vu}{u c:Tr}{r:KT}{q:Nat}{v:Value}(h:ChOK w A jP D0 ((s,u)::r))(hc:(kM u)[s.ps.length]? =some c)(hn:jJ w A c (j6 q))(hp:1<=(kM c).length):ChOK w A jP D0 ((⟨q,[],v⟩,c)::(s,u)::r):=
 ⟨⟨hn,by simp,by simp,hp⟩,hc,h⟩
theorem zx.full{w:World}{A:Nat->Prop}{jP:Tr->List Int->Int}{s:vu}{u:Tr}(h:zx w A jP s u)(hf:¬s.ps.length<(kM u).length):s.ps=(kM u).map (jW jP):=by
 have:=h.le;have h1:=h.ps;rw [List.take_of_length_le (by omega)] at h1;exact h1
theorem ChOK.leave{w:World}{A:Nat->Prop}{jP:Tr->List Int->Int}{D0:Tr}{s s0:vu}{u u0:Tr}{r:KT}(h:ChOK w A jP D0 ((s,u)::(s0,u0)::r))(v4:Value):ChOK w A jP D0 ((⟨s0.q,s0.ps++ [jW jP u],v4⟩,u0)::r):=
 ChOK.told h.2.2 h.2.1 v4
def ZL:KT->Nat
 | []=>0
 |x::r=>1+2*jz ((kM x.2).drop (x.1.ps.length+1))+ZL r
def Q3:KT->Nat
 | []=>0
 |x::r=>1+2*jz ((kM x.2).drop x.1.ps.length)+ZL r
theorem mOf_told{s:vu}{u c:Tr}{r:KT}(hc:(kM u)[s.ps.length]? =some c)(y:Int)(v4:Value):Q3 ((⟨s.q,s.ps++ [y],v4⟩,u)::r)<Q3 ((s,u)::r):=by
 simp only [Q3,List.length_append,List.length_singleton];rw [Jj hc];have:=vg c;omega
theorem mOf_push{s:vu}{u c:Tr}{r:KT}(hc:(kM u)[s.ps.length]? =some c)(q:Nat)(v:Value):Q3 ((⟨q,[],v⟩,c)::(s,u)::r)<Q3 ((s,u)::r):=by
 simp only [Q3,ZL,List.length_nil,List.drop_zero];rw [Jj hc,kI c];omega
theorem mOf_leave{s s0:vu}{u u0:Tr}{r:KT}(y:Int)(v4:Value):Q3 ((⟨s0.q,s0.ps++ [y],v4⟩,u0)::r)<Q3 ((s,u)::(s0,u0)::r):=by
 simp only [Q3,ZL,List.length_append,List.length_singleton];omega
structure vP(w:World)(A:Nat->Prop)(jP:Tr->List Int->Int)(P:KT)(D:List (Nat×Int)):Prop where
 keys:∀p∈D,A p.1/\Je w p.1
 val:∀q y,gotD D q=(y,true)->(y= -1/\∃x∈P,x.1.q=q)\/∃u,jJ w A u (j6 q)/\y=jW jP u
theorem Xv{D:List (Nat×Int)}{q:Nat}{v:Int}:∀p∈xq D q v,p∈D\/p.1=q:=by
 induction D with
 |nil=>
  intro p hp;have e:p=(q,v):=by simpa [xq] using hp
  exact .inr (by rw [e])
 |cons x D ih=>
  intro p hp;rw [xq] at hp
  by_cases h:q=x.1
  ·rw [if_pos h] at hp
   rcases List.mem_cons.1 hp with rfl|hp
   ·exact .inr rfl
   ·exact .inl (List.mem_cons_of_mem _ hp)
  ·rw [if_neg h] at hp
   rcases List.mem_cons.1 hp with rfl|hp
   ·exact .inl (List.mem_cons_self ..)
   ·rcases ih p hp with h2|h2
    ·exact .inl (List.mem_cons_of_mem _ h2)
    ·exact .inr h2
theorem Zd{D:List (Nat×Int)}{q:Nat}{y:Int}(h:gotD D q=(y,false)):y=0:=by
 induction D with
 |nil=>rw [gotD] at h;injection h with h;exact h.symm
 |cons p D ih=>
  rw [gotD] at h
  split at h
  ·injection h with _ h;cases h
  ·exact ih h
theorem vP.same{w w':World}{A:Nat->Prop}{jP:Tr->List Int->Int}{P:KT}{D:List (Nat×Int)}(h:vP w A jP P D)(hA:∀b,A b->w'.heap[b]? =w.heap[b]?)(hs:w.heap.size<=w'.heap.size):vP w' A jP P D:=by
 refine⟨fun p hp=> ?_,fun q y hq=> ?_⟩
 ·obtain⟨h1,c,t,h2⟩:=h.keys p hp;exact⟨h1,c,t,(hA _ h1).trans h2⟩
 ·rcases h.val q y hq with h1|⟨u,h1,h2⟩
  ·exact .inl h1
  ·exact .inr ⟨u,h1.same hA hs,h2⟩
theorem vP.told{w:World}{A:Nat->Prop}{jP:Tr->List Int->Int}{s:vu}{u:Tr}{r:KT}{D:List (Nat×Int)}(h:vP w A jP ((s,u)::r) D)(ps:List Int)(v4:Value):vP w A jP ((⟨s.q,ps,v4⟩,u)::r) D:=by
 refine⟨h.keys,fun q y hq=> ?_⟩
 rcases h.val q y hq with ⟨h1,x,hx,h2⟩|h1
 ·refine .inl ⟨h1,?_⟩
  rcases List.mem_cons.1 hx with rfl|hx
  ·exact⟨_,List.mem_cons_self ..,h2⟩
  ·exact⟨x,List.mem_cons_of_mem _ hx,h2⟩
 ·exact .inr h1
theorem vP.push{w:World}{A:Nat->Prop}{jP:Tr->List Int->Int}{P:KT}{D:List (Nat×Int)}{q:Nat}{v:Value}{c:Tr}(h:vP w A jP P D)(hA:A q)(hq:Je w q):vP w A jP ((⟨q,[],v⟩,c)::P) (xq D q (-1)):=by
 refine⟨fun p hp=> ?_,fun q' y hy=> ?_⟩
 ·rcases Xv p hp with h1|h1
  ·exact h.keys p h1
  ·rw [h1];exact⟨hA,hq⟩
 ·rw [XD] at hy
  by_cases e:q'=q
  ·rw [if_pos e] at hy;injection hy with hy;exact .inl ⟨hy.symm,_,List.mem_cons_self ..,e.symm⟩
  ·rw [if_neg e] at hy
   rcases h.val q' y hy with ⟨h1,x,hx,h2⟩|h1
   ·exact .inl ⟨h1,x,List.mem_cons_of_mem _ hx,h2⟩
   ·exact .inr h1
theorem vP.leave{w:World}{A:Nat->Prop}{jP:Tr->List Int->Int}{s s0:vu}{u u0:Tr}{r:KT}{D:List (Nat×Int)}(h:vP w A jP ((s,u)::(s0,u0)::r) D)(hn:jJ w A u (j6 s.q))(hA:A s.q)(hq:Je w s.q)(ps:List Int)(v4:Value):
  vP w A jP ((⟨s0.q,ps,v4⟩,u0)::r) (xq D s.q (jW jP u)):=by
 refine⟨fun p hp=> ?_,fun q' y hy=> ?_⟩
 ·rcases Xv p hp with h1|h1
  ·exact h.keys p h1
  ·rw [h1];exact⟨hA,hq⟩
 ·rw [XD] at hy
  by_cases e:q'=s.q
  ·rw [if_pos e] at hy;injection hy with hy;exact .inr ⟨u,by rw [e];exact hn,hy.symm⟩
  ·rw [if_neg e] at hy
   rcases h.val q' y hy with ⟨h1,x,hx,h2⟩|h1
   ·refine .inl ⟨h1,?_⟩
    rcases List.mem_cons.1 hx with rfl|hx
    ·exact absurd h2.symm e
    ·rcases List.mem_cons.1 hx with rfl|hx
     ·exact⟨_,List.mem_cons_self ..,h2⟩
     ·exact⟨x,List.mem_cons_of_mem _ hx,h2⟩
   ·exact .inr h1
theorem vP.part{w:World}{A:Nat->Prop}{jP:Tr->List Int->Int}{D0:Tr}{s:vu}{u c:Tr}{r:KT}{D:List (Nat×Int)}{q:Nat}{y:Int}(h:vP w A jP ((s,u)::r) D)(hC:ChOK w A jP D0 ((s,u)::r))(hc:(kM u)[s.ps.length]? =some c)(hn:jJ w A c (j6 q))(hg:gotD D q=(y,true)):y=jW jP c:=by
 rcases h.val q y hg with ⟨_,x,hx,h2⟩|⟨u',h1,h2⟩
 ·exfalso;have h3:=(ChOK.mem hC x hx).nd;rw [h2] at h3;have h4:=hn.uniq h3;have h5:=(ChOK.size hC).1 x hx;have h6:=vv hc;rw [<-h4] at h5;have h5:jc u<=jc c:=h5;omega
 ·rw [hn.uniq h1,h2]
theorem Xz(p:Nat->Prop)(h:∃n,p n):∃n,p n/\∀m,p m->n<=m:=by
 obtain⟨n,hn⟩:=h
 induction n using Nat.strongRecOn with
 |ind n ih=>
  by_cases hm:∃m,m<n/\p m
  ·obtain⟨m,h1,h2⟩:=hm;exact ih m h1 h2
  ·exact⟨n,hn,fun m hpm=>Nat.le_of_not_lt fun hlt=>hm ⟨m,hlt,hpm⟩⟩
open Classical in
noncomputable def Ki (p:Nat->Prop):Nat:=if h:∃n,p n then(Xz p h).choose else 0
theorem KA{p:Nat->Prop}(h:∃n,p n):p (Ki p)/\∀m,p m->Ki p<=m:=by
 unfold Ki;rw [dif_pos h];exact(Xz p h).choose_spec
def NumC(fn:FuncId)(caps:Array Value)(jP:Tr->List Int->Int)(w0:World)(N:Nat):Prop:=
 ∀(A:Nat->Prop) (X:World) (u:Tr) (q:Nat) (pv:Value),Below w0.heap.size w0 X->jJ X A u (j6 q)->jc u<=N->NumsAt X pv ((kM u).map (jW jP))->
  Calls Tryz.prog fn (#[j6 q,pv]++caps) X fun e w'=>e=.returned (.int .i64 (jW jP u))/\Below X.heap.size X w'
abbrev FoA(B mb:Nat):Nat->Prop:=fun b=>b<B/\b≠mb
structure xN(w0 W:World)(B fb mb:Nat)(jP:Tr->List Int->Int)(D0:Tr)(F:Value)(P:KT):Prop where
 ex:∃D pb cap,qN W B fb pb cap (P.reverse.map Prod.fst) F (.map (some mb))/\qH W mb D/\vP W (FoA B mb) jP P D
 ch:ChOK W (FoA B mb) jP D0 P
 bel:Below w0.heap.size w0 W
theorem Jq(w:World):NumsAt w (.slice none 0 0) []:=⟨none,0,rfl,fun i x h=>by simp at h⟩
theorem Qw{w:World}{B:Nat}{v:Value}{ps:List Int}(h:w.ownsRow B 3 1 v ps.length (ps.map (Value.int .i64))):NumsAt w v ps:=by
 have hc:∀g,v.ownBlock=some g->∀j u,(ps.map (Value.int .i64))[j]? =some u->w.cell? ((⟨g,0,none⟩:Addr).add j)=some u:=fun g hg=>h.cells (g:=g) hg
 have hl:∀g,v.ownBlock=some g->g<w.heap.size:=fun g hg=>(kl h hg).2
 rcases h.2 with ⟨rfl,h0⟩|⟨g,cap,cur,rfl,_⟩
 ·have e:ps= []:=List.length_eq_zero_iff.1 h0;subst e;exact Jq w
 ·refine⟨_,cap,rfl,fun i x hx=>⟨g,rfl,hl g rfl,?_⟩⟩;have:=hc g rfl i (.int .i64 x) (by rw [List.getElem?_map,hx];rfl);have ha:∀j,(⟨g,0,none⟩:Addr).add j=⟨g,j,none⟩:=fun j=>by unfold Addr.add;split<;>simp_all
  rw [ha] at this;exact this
theorem NumsAt.below{w w1:World}{v:Value}{ps:List Int}(h:NumsAt w v ps)(hb:Below w.heap.size w w1):NumsAt w1 v ps:=by
 obtain⟨p,cap,rfl,hc⟩:=h;refine⟨p,cap,rfl,fun i x hx=> ?_⟩;obtain⟨c,h1,h2,h3⟩:=hc i x hx;exact⟨c,h1,Nat.lt_of_lt_of_le h2 hb.size,(World.cell?_of_block (w:=w) (a:=⟨c,i,none⟩) (hb.block c h2)).trans h3⟩
theorem FoKeep.same{B fb mb:Nat}{w w':World}(h:FoKeep B fb mb w w')(hB:B<=fb):∀b,FoA B mb b->w'.heap[b]? =w.heap[b]? :=fun b hb=>h.block b hb.1 (by have:=hb.1;omega) hb.2
theorem FoKeep.bel{B fb mb:Nat}{w0 w w':World}(h:FoKeep B fb mb w w')(hb:Below w0.heap.size w0 w)(hB:B<=fb)(hm:w0.heap.size<=mb)(hmB:mb<B):Below w0.heap.size w0 w':=
 ⟨h.os.trans hb.os,h.tape.trans hb.tape,h.output.trans hb.output,Nat.le_trans hb.size h.size,fun k hk=>(h.block k (by omega) (by omega) (by omega)).trans (hb.block k hk)⟩
theorem vw(x:vu×Tr)(r:KT):(x::r).reverse.map Prod.fst=r.reverse.map Prod.fst++ [x.1]:=by simp
theorem xN.told{w0 W W':World}{B fb mb:Nat}{jP:Tr->List Int->Int}{D0:Tr}{F:Value}{s:vu}{u c:Tr}{r:KT}{D:List (Nat×Int)}{pb cap:Nat}{v4:Value}(hB:B<=fb)(hm:w0.heap.size<=mb)(hmB:mb<B)
  (hbel:Below w0.heap.size w0 W) (hch:ChOK W (FoA B mb) jP D0 ((s,u)::r)) (hM:qH W mb D) (hV:vP W (FoA B mb) jP ((s,u)::r) D) (hc:(kM u)[s.ps.length]? =some c) (hF:qN W' B fb pb cap (r.reverse.map Prod.fst++ [⟨s.q,s.ps++ [jW jP c],v4⟩]) F (.map (some mb))) (hK:Below B W W'):
  ∃P',xN w0 W' B fb mb jP D0 F P'/\Q3 P'<Q3 ((s,u)::r):=by
 have hk:FoKeep B fb mb W W':=.below hK;refine⟨(⟨s.q,s.ps++ [jW jP c],v4⟩,u)::r,⟨⟨D,pb,cap,by rw [vw];exact hF,?_,?_⟩,?_,hk.bel hbel hB hm hmB⟩,mOf_told hc _ _⟩
 ·obtain⟨es,cl,h1,h2⟩:=hM;exact⟨es,cl,(hK.block mb hmB).trans h1,h2⟩
 ·exact(hV.told _ _).same (hk.same hB) hk.size
 ·exact ChOK.same (hk.same hB) hk.size (hch.told hc v4)
theorem Zj{w0 W:World}{B fb mb N:Nat}{jP:Tr->List Int->Int}{D0:Tr}{fn:FuncId}{caps:Array Value}{s:vu}{u c:Tr}{r:KT}{q:Nat}(hcf:∀args W,(callFunc fn args).run Tryz.prog W=.ok (.enter fn args) W)
  (hN:NumC fn caps jP w0 N) (hpos:∀u,jc u<=N->jW jP u≠ -1) (hD0:jc D0<=N+1) (hN2:N<=1099511627000) (hB:B<=fb) (hm:w0.heap.size<=mb) (hmB:mb<B)
  (h:xN w0 W B fb mb jP D0 (.func (.func fn) #[] caps) ((s,u)::r)) (hc:(kM u)[s.ps.length]? =some c) (hq:jJ W (FoA B mb) c (j6 q)):
  Calls Tryz.prog 146 #[.pointer (some ⟨fb,0,none⟩),.pointer (some ⟨q,0,none⟩)] W fun e w'=>e=.returned (.bool true)/\∃P',xN w0 w' B fb mb jP D0 (.func (.func fn) #[] caps) P'/\Q3 P'<Q3 ((s,u)::r):=by
 obtain⟨⟨D,pb,cap,hF,hM,hV⟩,hch,hbel⟩:=h;rw [vw] at hF;have hmf:mb≠fb:=by omega
 have hsz:=hch.size.2;have hcu:=vv hc;have hcN:jc c<=N:=by have:jc u+r.length<=jc D0:=hsz;omega
 have hlen:(r.reverse.map Prod.fst).length<=1099511627776:=by have:jc u+r.length<=jc D0:=hsz;simp;omega
 have hpl:s.ps.length<=1099511627776:=by
  have h1:=hch.top.le;have h2:=kZ (kM u);have h3:=kI u;have:jc u+r.length<=jc D0:=hsz;have h1:s.ps.length<=(kM u).length:=h1;omega
 obtain⟨hAq,k,s4,lo,hi,z,p,lc,a,b,hb,hk⟩:=hq.prt
 by_cases h0:(kM c).length=0
 ·have hp0:kM c= []:=List.length_eq_zero_iff.1 h0;rw [h0] at hb;have hn:=hN (FoA B mb) W c q (.slice none 0 0) hbel hq hcN (by rw [hp0];exact Jq W);refine(Vf B fb pb cap _ s _ W fn caps hF hlen hpl q k s4 lo hi z p lc a b hb (jW jP c) hcf hn).mono ?_;rintro e w' ⟨rfl,v4,h4,hb4⟩;exact⟨rfl,xN.told hB hm hmB hbel hch hM hV hc h4 hb4⟩
 ·obtain⟨n,hn⟩:∃n,(kM c).length=n+1:=⟨(kM c).length-1,by omega⟩;rw [hn] at hb;have hD:∀p∈D,Je W p.1:=fun p hp=>(hV.keys p hp).2
  cases hg:gotD D q with
  |mk y met=>
   cases met with
   |true=>
    have hy:y=jW jP c:=hV.part hch hc hq hg;refine(Vg B fb pb cap mb _ s _ W hF hlen hpl q k s4 lo hi z p n lc a b hb D hM hD y hg (by rw [hy];exact hpos c hcN)).mono ?_;rintro e w' ⟨rfl,v4,h4,hb4⟩;rw [hy] at h4;exact⟨rfl,xN.told hB hm hmB hbel hch hM hV hc h4 hb4⟩
   |false=>
    obtain rfl:y=0:=Zd hg;refine(YX B fb pb cap mb _ _ W hF (by have:jc u+r.length<=jc D0:=hsz;simp;omega) hmf hmB q k s4 lo hi z p n lc a b hb D hM hD hg).mono ?_;rintro e w' ⟨rfl,⟨pb',cap',h4⟩,hM4,hk4⟩;refine⟨rfl,(⟨q,[],.slice none 0 0⟩,c)::(s,u)::r,⟨⟨_,pb',cap',?_,hM4,?_⟩,?_,hk4.bel hbel hB hm hmB⟩,mOf_push hc _ _⟩
    ·rw [vw,vw];exact h4
    ·exact(hV.push hAq ⟨_,_,hb⟩).same (hk4.same hB) hk4.size
    ·exact ChOK.same (hk4.same hB) hk4.size (hch.push hc hq (by omega))
theorem Zh{w0 W:World}{B fb mb N:Nat}{jP:Tr->List Int->Int}{D0:Tr}{fn:FuncId}{caps:Array Value}{s s0:vu}{u u0:Tr}{r:KT}(hcf:∀args W,(callFunc fn args).run Tryz.prog W=.ok (.enter fn args) W)
  (hN:NumC fn caps jP w0 N) (hD0:jc D0<=N+1) (hN2:N<=1099511627000) (hB:B<=fb) (hm:w0.heap.size<=mb) (hmB:mb<B)
  (h:xN w0 W B fb mb jP D0 (.func (.func fn) #[] caps) ((s,u)::(s0,u0)::r)) (hf:¬s.ps.length<(kM u).length):
  Calls Tryz.prog 147 #[.pointer (some ⟨fb,0,none⟩)] W fun e w'=>e=.returned (.tuple #[])/\∃P',xN w0 w' B fb mb jP D0 (.func (.func fn) #[] caps) P'/\Q3 P'<Q3 ((s,u)::(s0,u0)::r):=by
 obtain⟨⟨D,pb,cap,hF,hM,hV⟩,hch,hbel⟩:=h;rw [vw,vw] at hF;have hmf:mb≠fb:=by omega
 have hsz:=hch.size.2;have hsz:jc u+((s0,u0)::r).length<=jc D0:=hsz;rw [List.length_cons] at hsz;have hu:jc u<=N:=by omega
 have hpl:s0.ps.length<=1099511627776:=by
  have h1:zx W (FoA B mb) jP s0 u0:=ChOK.mem hch (s0,u0) (by simp);have h2:=kZ (kM u0);have h3:=kI u0;have h4:=(ChOK.size hch.2.2).2;have h4:jc u0+r.length<=jc D0:=h4;have:=h1.le;omega
 have ht:=hch.top;have ht:zx W (FoA B mb) jP s u:=ht;have hps:=ht.full hf;obtain⟨hAq,k,s4,lo,hi,z,p,lc,a,b,hb,hk⟩:=ht.nd.prt;have hown:=hF.parts s (by simp);have hnum:=Qw hown;rw [hps] at hnum;obtain⟨sq,sps,sv⟩:=s;have hD:∀p∈D,Je W p.1:=fun p hp=>(hV.keys p hp).2
 have hn:∀X,Below W.heap.size W X->Calls Tryz.prog fn (#[j6 sq,sv]++caps) X fun e w'=>e=.returned (.int .i64 (jW jP u))/\Below X.heap.size X w':=fun X hX=>
  hN (FoA B mb) X u sq sv (hbel.trans (hX.mono hbel.size)) (ht.nd.up hX) hu (hnum.below hX)
 refine(YU B fb pb cap mb (r.reverse.length+1) sq (r.reverse.map Prod.fst) s0 sps sv W fn caps hF (by simp) (by simp;omega) hpl hmf hmB D hM hD ⟨_,_,hb⟩ (jW jP u) hcf hn).mono ?_;rintro e w' ⟨rfl,⟨v4,h4⟩,hM4,hk4⟩;refine⟨rfl,(⟨s0.q,s0.ps++ [jW jP u],v4⟩,u0)::r,⟨⟨_,pb,cap,by rw [vw];exact h4,hM4,?_⟩,?_,hk4.bel hbel hB hm hmB⟩,mOf_leave _ _⟩
 ·exact(hV.leave (s0:=s0) (u0:=u0) (r:=r) ht.nd hAq ⟨_,_,hb⟩ _ v4).same (hk4.same hB) hk4.size
 ·exact ChOK.same (hk4.same hB) hk4.size (hch.leave v4)
end
end Go.Proofs.YtnmalggmbeipaaaGreatDoor
