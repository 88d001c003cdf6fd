/- A part of the proof. -/
import Derived.Test.YtnmalggmbeipaaaGreatDoorPbE
import Derived.Test.YtnmalggmbeipaaaGreatDoorPbH
import Derived.Carry
import Derived.Deep.DeepCutAuto
set_option maxRecDepth 100000
set_option maxHeartbeats 16000000
namespace Go.Proofs.YtnmalggmbeipaaaGreatDoor
section
open Go Go.RowKit
attribute [local go_sem ↓] Go.wp_at_zero Go.wp_at_succ
attribute [local go_sem] qX
theorem Qk(P:Program)(w:World)(a:Addr)(f:Fn)(x y:Array Value)(m:Mode):(store a (.func f x y) m).run P w=stored P w a (.func f x y) m:=run_store P w a _ m rfl
attribute [local go_sem] Qk
def qe(pb n sq:Nat)(vp:Option Addr)(k vc nb ln nc:Nat):Nat->Value
 |0=>.pointer (some ⟨pb,n*2,none⟩)
 |1=>.pointer (some ⟨pb,n*2,none⟩)
 |2=>.pointer (some ⟨pb,n*2,none⟩)
 |3=>j6 sq
 |4=>j6 sq
 |5=>.pointer (some ⟨sq,8,none⟩)
 |6=>.slice (some ⟨nb,0,none⟩) ln nc
 |7=>.pointer (some ⟨pb,n*2,none⟩)
 |8=>.pointer (some ⟨pb,n*2,none⟩)
 |9=>.pointer (some ⟨pb,n*2+1,none⟩)
 |10=>.slice vp k vc
 |11=>.int .i64 (k:Int)
 |12=>.pointer (some ⟨nb,k,none⟩)
 |13=>.pointer none
 |14=>.bool true
 |15=>.bool false
 |_=>undef
def foWn(w:World)(F:Value):World:=
 ((((w.alloc (.map #[] 0)).alloc (.cells #[.pointer none] 45)).alloc (vn 0 j7 0 0 false (.slice (some ⟨w.heap.size+1,0,none⟩) 1 1) 0 0)).alloc (.cells #[j6 (w.heap.size+1+1),.slice none 0 0] 238)).alloc
  (.cells #[F,.map (some w.heap.size),.slice (some ⟨w.heap.size+1+1+1,0,none⟩) 1 1] 241)
structure KM(w W:World)(fb pb:Nat)(F:Value)(ps:List Int):Prop where
 fo:∃cap v,qN W (w.heap.size+3) fb pb cap ([]++ [⟨w.heap.size+2,ps,v⟩]) F (.map (some w.heap.size))
 nd:W.heap[w.heap.size+2]? =some (vn 0 j7 0 0 false (.slice (some ⟨w.heap.size+1,0,none⟩) 1 1) 0 0)
 rt:W.heap[w.heap.size+1]? =some (.cells #[.pointer none] 45)
 bel:Below w.heap.size w W
theorem KM.drew{w W:World}{fb pb:Nat}{F:Value}{ps:List Int}(h:KM w W fb pb F ps):KM w W.drew fb pb F ps:=by
 obtain⟨cap,v,hF⟩:=h.fo;exact⟨⟨cap,v,hF.below (Below.refl _ _).drew⟩,h.nd,h.rt,h.bel.drew⟩
theorem foN_start(w:World)(F:Value):KM w (foWn w F) (w.heap.size+4) (w.heap.size+3) F []:=by
 have b1:=j3 w (.map #[] 0);obtain⟨w1,e1⟩:∃X,X=w.alloc (.map #[] 0):=⟨_,rfl⟩;have s1:w1.heap.size=w.heap.size+1:=by rw [e1,World.size_alloc]
 rw [<-e1] at b1;obtain⟨w2,e2⟩:∃X,X=w1.alloc (.cells #[.pointer none] 45):=⟨_,rfl⟩;have b2:=j3 w1 (.cells #[.pointer none] 45);have s2:w2.heap.size=w.heap.size+2:=by rw [e2,World.size_alloc,s1]
 have h2:w2.heap[w.heap.size+1]? =some (.cells #[.pointer none] 45):=by rw [e2,<-s1];exact j1 _ _
 rw [<-e2] at b2;obtain⟨w3,e3⟩:∃X,X=w2.alloc (vn 0 j7 0 0 false (.slice (some ⟨w.heap.size+1,0,none⟩) 1 1) 0 0):=⟨_,rfl⟩;have b3:=j3 w2 (vn 0 j7 0 0 false (.slice (some ⟨w.heap.size+1,0,none⟩) 1 1) 0 0);have s3:w3.heap.size=w.heap.size+3:=by rw [e3,World.size_alloc,s2]
 have h3:w3.heap[w.heap.size+2]? =some (vn 0 j7 0 0 false (.slice (some ⟨w.heap.size+1,0,none⟩) 1 1) 0 0):=by rw [e3,<-s2];exact j1 _ _
 rw [<-e3] at b3;obtain⟨w4,e4⟩:∃X,X=w3.alloc (.cells #[j6 (w.heap.size+2),.slice none 0 0] 238):=⟨_,rfl⟩;have b4:=j3 w3 (.cells #[j6 (w.heap.size+2),.slice none 0 0] 238);have s4:w4.heap.size=w.heap.size+4:=by rw [e4,World.size_alloc,s3]
 have h4:w4.heap[w.heap.size+3]? =some (.cells #[j6 (w.heap.size+2),.slice none 0 0] 238):=by rw [e4,<-s3];exact j1 _ _
 rw [<-e4] at b4;obtain⟨w5,e5⟩:∃X,X=w4.alloc (.cells #[F,.map (some w.heap.size),.slice (some ⟨w.heap.size+3,0,none⟩) 1 1] 241):=⟨_,rfl⟩;have b5:=j3 w4 (.cells #[F,.map (some w.heap.size),.slice (some ⟨w.heap.size+3,0,none⟩) 1 1] 241);have s5:w5.heap.size=w.heap.size+5:=by rw [e5,World.size_alloc,s4]
 have h5:w5.heap[w.heap.size+4]? =some (.cells #[F,.map (some w.heap.size),.slice (some ⟨w.heap.size+3,0,none⟩) 1 1] 241):=by rw [e5,<-s4];exact j1 _ _
 rw [<-e5] at b5;have e:foWn w F=w5:=by rw [e5,e4,e3,e2,e1];rfl
 rw [e];have h4':=j4 b5 h4;refine⟨⟨1,.slice none 0 0,⟨?_,?_,?_,?_,by omega,by omega,?_,?_,?_,?_,?_⟩⟩,j4 b5 (j4 b4 h3),j4 b5 (j4 b4 (j4 b3 h2)),b1.trans ((b2.mono (by omega)).trans ((b3.mono (by omega)).trans ((b4.mono (by omega)).trans (b5.mono (by omega)))))⟩
 ·rw [jC h5];rfl
 ·rw [jC h5];rfl
 ·rw [jC h5];rfl
 ·exact jU h5 _
 ·intro s hs';obtain rfl:s=⟨w.heap.size+2,[],.slice none 0 0⟩:=by simpa using hs'
  intro e;cases e
 ·exact⟨rfl,.inr ⟨_,1,_,rfl,by omega,h4',by simp,by decide,rfl,rfl⟩⟩
 ·intro s hs';obtain rfl:s=⟨w.heap.size+2,[],.slice none 0 0⟩:=by simpa using hs'
  exact World.ownsRow_nil _ _ _ _
 ·intro s hs';obtain rfl:s=⟨w.heap.size+2,[],.slice none 0 0⟩:=by simpa using hs'
  intro e;cases e
 ·exact List.pairwise_singleton _ _
def vE:Nat->List (Nat×Nat)
 |0=> [(7,0)]
 |1=> [(39,1)]
 |2=> [(40,2)]
 |4=> [(42,4)]
 |5=> [(43,5)]
 |7=> [(7,0)]
 |8=> [(46,8)]
 |9=> [(47,9)]
 |11=> [(49,11)]
 |12=> [(45,7),(50,12)]
 |_=> []
def vF:Nat->List (Nat×Nat)
 |0=> [(7,0)]
 |1=> [(25,1)]
 |2=> [(26,2)]
 |4=> [(28,4)]
 |5=> [(7,0)]
 |6=> [(30,6)]
 |7=> [(31,7)]
 |9=> [(33,9)]
 |10=> [(34,10)]
 |12=> [(36,12)]
 |13=> [(29,5),(37,13)]
 |14=> [(38,14)]
 |_=> []
theorem pfold_nil(w:World)(fn:Fn)(caps:Array Value):
  Calls Tryz.prog 96 #[.pointer none,.func fn #[] caps] w fun e w'=>e=.returned (.tuple #[.int .i64 0,.bool true])/\Below w.heap.size w w':=by
 have hmm:= @run_makeMap Tryz.prog;have HI:=j0 (foN_start w (.func fn #[] caps))
 go_enter Tryz.func96,Tryz.ntmps96
 go_wp2_with fail
 obtain⟨W0,hW0⟩:∃X,X=foWn w (.func fn #[] caps):=⟨_,rfl⟩;rw [<-hW0] at HI;change Code.wp _ _ _ _ (foWn w (.func fn #[] caps));rw [<-hW0];have efb:w.heap.size+1+1+1+1=w.heap.size+4:=rfl;rw [efb];obtain⟨fb,hfb⟩:∃b,b=w.heap.size+4:=⟨_,rfl⟩;rw [<-hfb] at HI ⊢;obtain⟨pb,hpb⟩:∃b,b=w.heap.size+3:=⟨_,rfl⟩;rw [<-hpb] at HI;clear hW0 efb hfb hpb hmm;obtain⟨n,hn⟩:∃n,n=0:=⟨_,rfl⟩;have HN:=j0 hn;obtain⟨ln,hln⟩:∃n,n=1:=⟨_,rfl⟩;have HLN:=j0 hln;obtain⟨sq,hsq⟩:∃n,n=w.heap.size+2:=⟨_,rfl⟩;have HSQ:=j0 hsq;obtain⟨nb,hnb⟩:∃n,n=w.heap.size+1:=⟨_,rfl⟩;have HNB:=j0 hnb;clear hn hln hsq hnb
 go_loopg [] 1 (fun rr wr=>∃ps:List Int,rr+ps.length=1/\Hid (ps= []\/ps= [0])/\Hid (KM w wr fb pb (.func fn #[] caps) ps))
 case atStart=>exact⟨[],rfl,j0 (.inl rfl),HI⟩
 case round=>
  obtain⟨ps,hps,HPS,HF⟩:=hrel;obtain⟨cap,v,hF⟩:=HF.out.fo;have hc2:=hF.c2;have ht:=hF.top;have LA:=j0 (zE fb pb n cap wr (by rw [HN.out];exact hc2) (by rw [HN.out];omega));obtain⟨vp,vc,hsv,hvc⟩:=Qw (hF.parts ⟨w.heap.size+2,ps,v⟩ (by simp));have hsv:v=.slice vp ps.length vc:=hsv;obtain⟨k,hk⟩:∃k,k=ps.length:=⟨_,rfl⟩;rw [hsv] at ht;rw [<-hk] at ht hps;have HT0:Hid (wr.drew.drew.cell? ⟨pb,n*2,none⟩=some (j6 sq)):=j0 (by rw [HN.out,HSQ.out];exact ht.1);have HT1:Hid (wr.drew.drew.cell? ⟨pb,n*2+1,none⟩=some (.slice vp k vc)):=j0 (by rw [HN.out];exact ht.2.1);have HQ8:Hid (wr.drew.drew.cell? ⟨sq,8,none⟩=some (.slice (some ⟨nb,0,none⟩) ln 1)):=j0 (by rw [HSQ.out,HNB.out,HLN.out];exact jC HF.out.nd 8);have HC2:Hid (wr.drew.drew.cell? ⟨fb,2,none⟩=some (.slice (some ⟨pb,0,none⟩) (n+1) cap)):=j0 (by rw [HN.out];exact hc2);have HVC:Hid (∀(i:Nat) (x:Int),ps[i]? =some x->∃c,vp=some ⟨c,0,none⟩/\c<wr.heap.size/\wr.cell? ⟨c,i,none⟩=some (.int .i64 x)):=j0 hvc;have HK:=j0 hk;clear hF hc2 ht hsv hvc hk;obtain⟨np,hnp⟩:∃p,p=some (⟨nb,0,none⟩:Addr):=⟨_,rfl⟩;rw [<-hnp] at HQ8;obtain⟨bb,hbb⟩:∃bb,bb=decide (k<ln):=⟨_,rfl⟩;obtain⟨nc,hnc⟩:∃x,x=1:=⟨_,rfl⟩;have HQ8:Hid (wr.drew.drew.cell? ⟨sq,8,none⟩=some (.slice np ln nc)):=j0 (by rw [hnc];exact HQ8.out);have HNP:=j0 hnp;clear hnp hnc
  go_wp2_with fail
  refine LA.out.mono ?_;rintro e w1 ⟨rfl,hw1⟩;have HW1:Hid (w1.drew=wr.drew.drew):=j0 (by rw [hw1]);clear hw1 LA
  go_wp2_with fail
  obtain⟨W1,hW1⟩:∃X,X=wr.drew.drew:=⟨_,rfl⟩;have HP2:Hid (KM w W1 fb pb (.func fn #[] caps) ps):=j0 (by rw [hW1];exact HF.out.drew.drew);rw [<-hW1] at HT0 HT1 HQ8 HC2 HW1;have HVC1:Hid (∀(i:Nat) (x:Int),ps[i]? =some x->∃c,vp=some ⟨c,0,none⟩/\c<W1.heap.size/\W1.cell? ⟨c,i,none⟩=some (.int .i64 x)):=j0 (by rw [hW1];exact HVC.out);clear hW1 HF HVC;refine Reg.wp_region_S (kr pb n sq vp k vc np ln nc bb) (fun _ X=>X=W1) [0,1,2,3,4,5,6,7,8,9,10,11,12,13,14] (by rfl) (by kernel_rfl) (by kernel_rfl) ?_ ?_ ?_
  ·rw [HW1.out]
  ·iterate 3
    refine Reg.oS (fun listed A X hI hin hun hall HS=> ?_) ?_
    ·have E:=hI.tf hun hall vF;simp only [Reg.TF,vF,kr,Reg.la,Reg.lb,Reg.lc] at E;subst HS;clear hI hall
     go_simp
     first|rfl|exact⟨rfl,rfl⟩|(simp [kr,hbb];done)
   refine Reg.oS (fun listed A X hI hin hun hall HS=> ?_) ?_
   ·have e27:A.tmps[27]? =some (.pointer (some ⟨pb,n*2+1,none⟩)):=hI.v hall 2 27;subst HS;have k0:=HT1.out;clear hI hall
    go_simp
    first|rfl|exact⟨rfl,rfl⟩|(simp [kr,hbb];done)
   iterate 4
    refine Reg.oS (fun listed A X hI hin hun hall HS=> ?_) ?_
    ·have E:=hI.tf hun hall vF;simp only [Reg.TF,vF,kr,Reg.la,Reg.lb,Reg.lc] at E;subst HS;clear hI hall
     go_simp
     first|rfl|exact⟨rfl,rfl⟩|(simp [kr,hbb];done)
   refine Reg.oS (fun listed A X hI hin hun hall HS=> ?_) ?_
   ·have e32:A.tmps[32]? =some (.pointer (some ⟨pb,n*2,none⟩)):=hI.v hall 7 32;subst HS;have k0:=HT0.out;clear hI hall
    go_simp
    first|rfl|exact⟨rfl,rfl⟩|(simp [kr,hbb];done)
   iterate 2
    refine Reg.oS (fun listed A X hI hin hun hall HS=> ?_) ?_
    ·have E:=hI.tf hun hall vF;simp only [Reg.TF,vF,kr] at E;subst HS;clear hI hall
     go_simp
     first|rfl|exact⟨rfl,rfl⟩|(simp [kr,hbb];done)
   refine Reg.oS (fun listed A X hI hin hun hall HS=> ?_) ?_
   ·have e35:A.tmps[35]? =some (.pointer (some ⟨sq,8,none⟩)):=hI.v hall 10 35;subst HS;have k0:=HQ8.out;clear hI hall
    go_simp
    first|rfl|exact⟨rfl,rfl⟩|(simp [kr,hbb];done)
   iterate 3
    refine Reg.oS (fun listed A X hI hin hun hall HS=> ?_) ?_
    ·have E:=hI.tf hun hall vF;simp only [Reg.TF,vF,kr] at E;subst HS;clear hI hall
     go_simp
     first|rfl|exact⟨rfl,rfl⟩|(simp [kr,hbb];done)
   trivial
  ·intro W2 hS;obtain rfl:W1=W2:=hS.symm;clear hS HW1;simp [Reg.finalTmps,Reg.dstAt,Reg.valOf,kr]
   cases bb with
   |true=>
    have hlt:k<ln:=by simpa using hbb.symm
    clear hbb;obtain rfl:np=some ⟨nb,0,none⟩:=HNP.out
    have hps0:ps= []:=by
     rcases HPS.out with h|h
     ·exact h
     ·have:=HK.out;have:=HLN.out;rw [h] at*;simp at*;omega
    subst hps0;obtain⟨cap2,v2,hF2⟩:=HP2.out.drew.fo
    have HEN:=j0 ((YW (w.heap.size+3) fb pb cap2 [] _ _ _ W1.drew hF2 (by simp) (by simp)).mono (R':=fun e w'=>e=.returned (.bool true)/\KM w w' fb pb (.func fn #[] caps) [0]) (by
     rintro e w' ⟨rfl,v4,h4,hb4⟩
     refine⟨rfl,⟨cap2,v4,h4⟩,(hb4.block _ (by omega)).trans HP2.out.nd,(hb4.block _ (by omega)).trans HP2.out.rt,HP2.out.bel.drew.trans (hb4.mono (by omega))⟩))
    have HNB2:Hid (W1.drew.cell? ⟨nb,k,none⟩=some (.pointer none)):=j0 (by
     have e:k=0:=HK.out
     rw [e,HNB.out,jC (w:=W1.drew) HP2.out.rt];rfl)
    have hnb:nb<W1.drew.heap.size:=by rw [HNB.out];exact jS HP2.out.rt
    have HT0:Hid (W1.drew.cell? ⟨pb,n*2,none⟩=some (j6 sq)):=HT0;have HT1:Hid (W1.drew.cell? ⟨pb,n*2+1,none⟩=some (.slice vp k vc)):=HT1;have HQ8:Hid (W1.drew.cell? ⟨sq,8,none⟩=some (.slice (some ⟨nb,0,none⟩) ln nc)):=HQ8;have HNB:=HNB2;clear HNB2 HVC1 HP2 hF2 HC2 HI HNP
    go_wp2_with fail
    obtain⟨W3,hW3⟩:∃X,X=W1.drew:=⟨_,rfl⟩;rw [<-hW3] at HNB HT0 HT1 HQ8 HEN hnb;have HW3:Hid (W1.drew=W3):=j0 hW3.symm;clear hW3;refine Reg.wp_region_C (qe pb n sq vp k vc nb ln nc) (Reg.OneC 14 W3 (fun X=>KM w X fb pb (.func fn #[] caps) [0])) [0,1,2,3,4,5,6,7,8,9,10,11,12,13,14,15] (by rfl) (by kernel_rfl) (by kernel_rfl) ?_ ?_ ?_
    ·rw [HW3.out];exact Reg.OneC.start _ _ _ _
    ·iterate 3
      refine Reg.oC (fun listed A X hI hcl hin hun hall HS=> ?_) ?_
      ·have E:=hI.tf hun hall vE;simp only [Reg.TF,vE,qe,Reg.la,Reg.lb,Reg.lc] at E;clear hI hall hcl
       go_simp
       first|rfl|exact⟨rfl,HS.up (by decide)⟩|(refine⟨?_,HS.up (by decide)⟩;simp [qe])
     refine Reg.oC (fun listed A X hI hcl hin hun hall HS=> ?_) ?_
     ·have e41:A.tmps[41]? =some (.pointer (some ⟨pb,n*2,none⟩)):=hI.v hall 2 41;have hX:=HS.at hcl (by kernel_rfl) hun;subst hX;have k0:=HT0.out;clear hI hall hcl
      go_simp
      first|rfl|exact⟨rfl,HS.up (by decide)⟩|(refine⟨?_,HS.up (by decide)⟩;simp [qe])
     iterate 2
      refine Reg.oC (fun listed A X hI hcl hin hun hall HS=> ?_) ?_
      ·have E:=hI.tf hun hall vE;simp only [Reg.TF,vE,qe] at E;clear hI hall hcl
       go_simp
       first|rfl|exact⟨rfl,HS.up (by decide)⟩|(refine⟨?_,HS.up (by decide)⟩;simp [qe])
     refine Reg.oC (fun listed A X hI hcl hin hun hall HS=> ?_) ?_
     ·have e44:A.tmps[44]? =some (.pointer (some ⟨sq,8,none⟩)):=hI.v hall 5 44;have hX:=HS.at hcl (by kernel_rfl) hun;subst hX;have k0:=HQ8.out;clear hI hall hcl
      go_simp
      first|rfl|exact⟨rfl,HS.up (by decide)⟩|(refine⟨?_,HS.up (by decide)⟩;simp [qe])
     iterate 3
      refine Reg.oC (fun listed A X hI hcl hin hun hall HS=> ?_) ?_
      ·have E:=hI.tf hun hall vE;simp only [Reg.TF,vE,qe,Reg.la,Reg.lb,Reg.lc] at E;clear hI hall hcl
       go_simp
       first|rfl|exact⟨rfl,HS.up (by decide)⟩|(refine⟨?_,HS.up (by decide)⟩;simp [qe])
     refine Reg.oC (fun listed A X hI hcl hin hun hall HS=> ?_) ?_
     ·have e48:A.tmps[48]? =some (.pointer (some ⟨pb,n*2+1,none⟩)):=hI.v hall 9 48;have hX:=HS.at hcl (by kernel_rfl) hun;subst hX;have k0:=HT1.out;clear hI hall hcl
      go_simp
      first|rfl|exact⟨rfl,HS.up (by decide)⟩|(refine⟨?_,HS.up (by decide)⟩;simp [qe])
     iterate 2
      refine Reg.oC (fun listed A X hI hcl hin hun hall HS=> ?_) ?_
      ·have E:=hI.tf hun hall vE;simp only [Reg.TF,vE,qe] at E;clear hI hall hcl
       go_simp
       first|rfl|exact⟨rfl,HS.up (by decide)⟩|(refine⟨?_,HS.up (by decide)⟩;simp [qe])
     refine Reg.oC (fun listed A X hI hcl hin hun hall HS=> ?_) ?_
     ·have e51:A.tmps[51]? =some (.pointer (some ⟨nb,k,none⟩)):=hI.v hall 12 51;have hX:=HS.at hcl (by kernel_rfl) hun;subst hX;have k0:=HNB.out;clear hI hall hcl
      go_simp
      first|rfl|exact⟨rfl,HS.up (by decide)⟩|(refine⟨?_,HS.up (by decide)⟩;simp [qe])
     refine Reg.oC (fun listed A X hI hcl hin hun hall HS=> ?_) ?_
     ·have e6:=hI.wo 6 rfl;have e52:A.tmps[52]? =some (.pointer none):=hI.v hall 13 52;have hn14:listed.getD 14 false=false:=by simpa using hun
      have hX:=(HS.ahead hn14).symm;subst hX;have EN:=HEN.out;clear hI hall hcl
      go_simp
      exact EN.mono fun e w'' ⟨he,hp⟩=>⟨_,he,rfl,Reg.OneC.put hin hp⟩
     refine Reg.oC (fun listed A X hI hcl hin hun hall HS=> ?_) ?_
     ·have e53:A.tmps[53]? =some (.bool true):=hI.v hall 14 53;clear hI hall hcl
      go_simp
      first|rfl|exact⟨rfl,HS.up (by decide)⟩|(refine⟨?_,HS.up (by decide)⟩;simp [qe])
     trivial
    ·intro W4 hS;have H4:=j0 (hS.done (by rfl));clear hS HEN HT0 HT1 HQ8 HNB;simp [Reg.finalTmps,Reg.dstAt,Reg.valOf,qe];have hk0:k=0:=HK.out
     go_wp2_with fail
     go_roundg 0
     case rel=>exact⟨[0],rfl,j0 (.inr rfl),H4⟩
     case measure=>omega
   |false=>
    have hlt:¬k<ln:=by simpa using hbb.symm
    clear hbb
    have hps1:ps= [0]:=by
     rcases HPS.out with h|h
     ·exfalso;have:=HK.out;have:=HLN.out;rw [h] at*;simp at*;omega
     ·exact h
    obtain rfl:k=1:=by rw [HK.out,hps1];rfl
    obtain⟨c,rfl,hcl,hcell⟩:=HVC1.out 0 0 (by rw [hps1];rfl);have HB:=j0 HP2.out.bel;obtain rfl:n=0:=HN.out;have HT1:Hid (W1.cell? ⟨pb,1,none⟩=some (.slice (some ⟨c,0,none⟩) 1 vc)):=HT1;have k0:=HT1.out;have k2:=HC2.out;clear HVC1 HP2 HI HT0 HQ8 HN
    go_wp2_with fail
    exact bodyPost_ret (v:=.tuple #[.int .i64 0,.bool true]) (by simp [results,Tryz.results96,go_sem]) rfl ⟨rfl,HB.out⟩
end
end Go.Proofs.YtnmalggmbeipaaaGreatDoor
namespace Go.Proofs.YtnmalggmbeipaaaGreatDoor
section
section
open Go Go.RowKit
open Go Go.RowKit
attribute [local go_sem ↓] Go.wp_at_zero Go.wp_at_succ
attribute [local go_sem] qX
theorem Qj(P:Program)(w:World)(a:Addr)(f:Fn)(x y:Array Value)(m:Mode):(store a (.func f x y) m).run P w=stored P w a (.func f x y) m:=run_store P w a _ m rfl
attribute [local go_sem] Qj
theorem YA(w:World):Calls Tryz.prog 54 #[.pointer none] w fun e w'=>e=.returned (.bool false)/\Below w.heap.size w w':=by
 have FN:=j0 (pfold_nil w (.func 97) #[])
 go_enter Tryz.func54,Tryz.ntmps54
 go_wp2_with fail
 refine FN.out.mono ?_;rintro e w1 ⟨rfl,h1⟩;have H1:=j0 h1;clear h1 FN
 go_wp2_with fail
 exact bodyPost_ret (v:=.bool false) (by simp [results,Tryz.results54,go_sem]) rfl ⟨rfl,H1.out⟩
end
end
end Go.Proofs.YtnmalggmbeipaaaGreatDoor
namespace Go.Proofs.YtnmalggmbeipaaaGreatDoor
section
section
open Go Go.RowKit
attribute [local go_sem ↓] Go.wp_at_zero Go.wp_at_succ
attribute [local go_sem] qX
theorem yW(P:Program)(w:World)(a:Addr)(f:Fn)(x y:Array Value)(m:Mode):(store a (.func f x y) m).run P w=stored P w a (.func f x y) m:=run_store P w a _ m rfl
attribute [local go_sem] yW
open Go Go.RowKit
attribute [local go_sem ↓] Go.wp_at_zero Go.wp_at_succ
attribute [local go_sem] qX
end
end
end Go.Proofs.YtnmalggmbeipaaaGreatDoor
