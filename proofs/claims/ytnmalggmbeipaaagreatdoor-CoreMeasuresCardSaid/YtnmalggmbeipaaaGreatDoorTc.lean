/- A part of the proof. -/
import Derived.Test.YtnmalggmbeipaaaGreatDoorTb
import Derived.Test.YtnmalggmbeipaaaGreatDoorRa
import Derived.Laws.OwnMore
set_option maxRecDepth 100000
set_option maxHeartbeats 16000000
namespace Go.Proofs.YtnmalggmbeipaaaGreatDoor
section
open Go Go.RowKit
attribute [local go_sem ↓] Go.wp_at_zero Go.wp_at_succ
attribute [local go_sem] qX
theorem titem_any(g k:Nat)(s:ByteArray)(hk:k<=s.size)(hs:s.size<=1099511627776)(w:World)(h:jI w g s k)(hT:Tab w)(hne:1≠g):
  Calls Tryz.prog 258 #[.pointer (some ⟨g,0,none⟩)] w fun e w'=>e=.returned (jf (jB s k).1 (jB s k).2.1)/\Rd w w' g s (jB s k).2.2:=by
 have HH:=j0 h;have hlt:=h.lt;have HT:=j0 hT;have HA:=j0 (kg h j5);have hp:=vW hk;have PART:=j0 (fun W (hW:jI W g s k)=>Ua g k s hs W hW);obtain⟨r0,r1,rz,rl⟩:=HA.out;unfold j5 at r0 r1 rz rl
 have HIT:Hid (jB s k=if(jH s k).2.1≠0\/jl s (jH s k).2.2≠45 then jH s k else match qi (jH s k).1 with
  |none=>(j7,4,(jH s k).2.2)
  |some a=>VJ s k a ((jH s k).2.2+1)):=j0 rfl
 clear h hT;obtain⟨r,hr⟩:∃r,r=jH s k:=⟨_,rfl⟩;rw [<-hr] at PART HIT hp;clear hr;obtain⟨t,c,j⟩:=r;have PART:Hid (∀W,jI W g s k->Calls Tryz.prog 265 #[.pointer (some ⟨g,0,none⟩)] W fun e w'=>e=.returned (jf t c)/\Rd W w' g s j):=PART
 have HIT:Hid (jB s k=if c≠0\/jl s j≠45 then(t,c,j) else match qi t with
  |none=>(j7,4,j)
  |some a=>VJ s k a (j+1)):=HIT
 have HFT:Hid t.fit:=j0 hp.fit;have hj:j<=s.size:=hp.le
 rcases XN hp.err with rfl|⟨hc0,hc1,hc2⟩
 ·have SE:=j0 (fun W (hW:jI W g s j)=>xQ g s j 45 (by omega) W hW)
  by_cases h45:jl s j=45
  ·rw [jT h45] at SE;have hj1:=ka h45 (by omega);have CNT:=j0 (fun W=>VU t HFT.out W)
   have HIT:Hid (jB s k=match qi t with
    |none=>(j7,4,j)
    |some a=>VJ s k a (j+1)):=j0 (by rw [HIT.out,if_neg (by rintro(h|h);exact h rfl;exact h h45)])
   clear h45
   rcases ho:qi t with _|a
   ·have hn:=Uk ho;have HF:Hid (jB s k=(j7,4,j)):=j0 (by rw [HIT.out,ho]);generalize (zf t).length=n at*;have n1:(((n:Nat):Int)==1)=false:=by simp;omega
    have n2:(((n:Nat):Int) !=1)=true:=by simp;omega
    clear hn ho HIT hp
    go_enter Tryz.func258,Tryz.ntmps258
    go_wp2_with fail
    refine(PART.out _ HA.out).mono ?_;rintro e w1 ⟨rfl,hr1⟩;have H1:Hid (Rd (w.alloc j5) w1 g s j):=j0 hr1;clear hr1 r0 r1 rz rl;unfold jf;have H2:Hid (Rd (w.alloc j5) (w1.alloc (jG t)) g s j):=j0 (H1.out.below (j3 w1 _));have hb2:=j0 (j1 w1 (jG t));have h5g:Hid (w1.heap.size≠g):=j0 (by have:=H1.out.1.lt;omega);clear H1
    go_wp2_with fail
    refine(SE.out _ H2.out.1).mono ?_;rintro e w3 ⟨rfl,n3,hw3⟩;have H3:Hid (Rd (w.alloc j5) w3 g s j):=j0 (by rw [hw3];exact H2.out.drewN n3);have hb3:Hid (w3.heap[w1.heap.size]? =some (jG t)):=j0 (by rw [hw3];exact hb2.out);clear hw3 hb2 H2;generalize w1.heap.size=b5 at*;obtain⟨⟨z0,z1,z2,z3⟩,hz⟩:=jA hb3.out
    go_wp2_with fail
    refine(CNT.out _).mono ?_;rintro e w4 ⟨rfl,hb4⟩;have H4:=j0 (H3.out.below hb4);have hk4:=j0 (j4 hb4 hb3.out);clear hb4 hb3 H3 z0 z1 z2 z3 hz;obtain⟨⟨q0,q1,q2,q3⟩,⟨f0,f1,f2,f3⟩,_hsz⟩:=jn (ja HH.out H4.out);have HRw:Hid (Rd w w4 g s j):=j0 ⟨H4.out.1,j8 H4.out.2⟩
    go_wp2_with fail
    refine bodyPost_ret (v:=jf j7 4) (by simp [results,Tryz.results258,go_sem,jf,j7,q0,q1,q2,q3]) rfl (vz HF.out ?_);exact HRw.out.set (jN _) hlt j7
   ·have HO:=j0 ho;obtain⟨q,hq⟩:∃q,q=j+1:=⟨_,rfl⟩;have HQ:=j0 hq;have HF0:Hid (jB s k=VJ s k a q):=j0 (by rw [HIT.out,ho,hq]);rw [Qu ho] at CNT;have CNT:Hid (∀W,Calls Tryz.prog 128 #[kd t] W fun e w'=>e=.returned (.int .i64 1)/\Below W.heap.size W w'):=CNT;have hqs:q<=s.size:=by omega
    have hp2:=vW hqs;have ST:=j0 (fun W (hW:jI W g s j)=>kO g 1 1 s j (by omega) W hW rfl);have PART2:=j0 (fun W (hW:jI W g s q)=>Ua g q s hs W hW)
    have HTO:Hid (VJ s k a q=if(jH s q).2.1≠0 then(j7,(jH s q).2.1,(jH s q).2.2) else match qi (jH s q).1 with
     |none=>(j7,4,q)
     |some b=>if b<a then(j7,5,k) else(jL a b,0,(jH s q).2.2)):=j0 rfl
    clear hq ho HIT hp;obtain⟨r,hr⟩:∃r,r=jH s q:=⟨_,rfl⟩;rw [<-hr] at PART2 HTO hp2;clear hr;obtain⟨t2,c2,j2⟩:=r;have PART2:Hid (∀W,jI W g s q->Calls Tryz.prog 265 #[.pointer (some ⟨g,0,none⟩)] W fun e w'=>e=.returned (jf t2 c2)/\Rd W w' g s j2):=PART2
    have HTO:Hid (VJ s k a q=if c2≠0 then(j7,c2,j2) else match qi t2 with
     |none=>(j7,4,q)
     |some b=>if b<a then(j7,5,k) else(jL a b,0,j2)):=HTO
    have HFT2:Hid t2.fit:=j0 hp2.fit
    rcases XN hp2.err with rfl|⟨hd0,hd1,hd2⟩
    ·have CNT2:=j0 (fun W=>VU t2 HFT2.out W)
     have HTO:Hid (VJ s k a q=match qi t2 with
      |none=>(j7,4,q)
      |some b=>if b<a then(j7,5,k) else(jL a b,0,j2)):=j0 (by rw [HTO.out,if_neg (by simp)])
     rcases ho2:qi t2 with _|b
     ·have hn:=Uk ho2;have HF:Hid (jB s k=(j7,4,q)):=j0 (by rw [HF0.out,HTO.out,ho2]);generalize (zf t2).length=n at*;have n1:(((n:Nat):Int)==1)=false:=by simp;omega
      have n2:(((n:Nat):Int) !=1)=true:=by simp;omega
      clear hn ho2 HTO HF0 hp2
      go_enter Tryz.func258,Tryz.ntmps258
      go_wp2_with fail
      refine(PART.out _ HA.out).mono ?_;rintro e w1 ⟨rfl,hr1⟩;have H1:Hid (Rd (w.alloc j5) w1 g s j):=j0 hr1;clear hr1 r0 r1 rz rl;unfold jf;have H2:Hid (Rd (w.alloc j5) (w1.alloc (jG t)) g s j):=j0 (H1.out.below (j3 w1 _));have hb2:=j0 (j1 w1 (jG t));have h5g:Hid (w1.heap.size≠g):=j0 (by have:=H1.out.1.lt;omega);clear H1
      go_wp2_with fail
      refine(SE.out _ H2.out.1).mono ?_;rintro e w3 ⟨rfl,n3,hw3⟩;have H3:Hid (Rd (w.alloc j5) w3 g s j):=j0 (by rw [hw3];exact H2.out.drewN n3);have hb3:Hid (w3.heap[w1.heap.size]? =some (jG t)):=j0 (by rw [hw3];exact hb2.out);clear hw3 hb2 H2;generalize w1.heap.size=b5 at*;obtain⟨⟨z0,z1,z2,z3⟩,hz⟩:=jA hb3.out
      go_wp2_with fail
      refine(CNT.out _).mono ?_;rintro e w4 ⟨rfl,hb4⟩;have H4:=j0 (H3.out.below hb4);have hk4:=j0 (j4 hb4 hb3.out);clear hb4 hb3 H3 z0 z1 z2 z3 hz;obtain⟨y0,y1,yz,yl⟩:=H4.out.1
      go_wp2_with fail
      refine(ST.out _ H4.out.1).mono ?_;rintro e w5 ⟨rfl,hw5⟩;have H45:Hid (Rd w4 w5 g s q):=j0 ((Rd.refl H4.out.1).put (by rw [hw5,HQ.out];rfl));clear hw5 y0 y1 yz yl;have H5:=j0 (H4.out.trans H45.out);have hk5:=j0 (H45.out.kept hk4.out h5g.out);clear H45 hk4 H4;obtain⟨y0,y1,yz,yl⟩:=H5.out.1
      go_wp2_with fail
      refine(PART2.out _ H5.out.1).mono ?_;rintro e w6 ⟨rfl,hr6⟩;have H6:=j0 (H5.out.trans hr6);have hk6:=j0 (hr6.kept hk5.out h5g.out);clear hr6 H5 hk5 y0 y1 yz yl;unfold jf;have H6a:Hid (Rd (w.alloc j5) (w6.alloc (jG t2)) g s j2):=j0 (H6.out.below (j3 w6 _));have hk6a:=j0 (j4 (j3 w6 (jG t2)) hk6.out);have hb8:=j0 (j1 w6 (jG t2));clear H6 hk6
      go_wp2_with fail
      refine(CNT2.out _).mono ?_;rintro e w7 ⟨rfl,hb7⟩;have H7:=j0 (H6a.out.below hb7);have hk7:=j0 (j4 hb7 hk6a.out);have hb8':=j0 (j4 hb7 hb8.out);clear hb7 H6a hk6a hb8;generalize w6.heap.size=b8 at*;have TB:=j0 (vh g q 4 s j2 w7 H7.out.1);obtain⟨y0,y1,yz,yl⟩:=H7.out.1
      go_wp2_with fail
      refine TB.out.mono ?_;rintro e w8 ⟨rfl,hw8⟩;have H8:Hid (Rd (w.alloc j5) w8 g s q):=j0 (H7.out.put hw8);clear hw8 y0 y1 yz yl TB;obtain⟨⟨q0,q1,q2,q3⟩,⟨f0,f1,f2,f3⟩,_hsz⟩:=jn (ja HH.out H8.out);have HRw:Hid (Rd w w8 g s q):=j0 ⟨H8.out.1,j8 H8.out.2⟩
      go_wp2_with fail
      refine bodyPost_ret (v:=jf j7 4) (by simp [results,Tryz.results258,go_sem,jf,j7,q0,q1,q2,q3]) rfl (vz HF.out ?_);exact HRw.out.set (jN _) hlt j7
     ·have BT:=j0 (fun W (hW:Tab W)=>US t t2 HFT.out HFT2.out a b HO.out ho2 W hW);rw [Qu ho2] at CNT2;have CNT2:Hid (∀W,Calls Tryz.prog 128 #[kd t2] W fun e w'=>e=.returned (.int .i64 1)/\Below W.heap.size W w'):=CNT2;have hb256:=(xh ho2).1;have HTO:Hid (VJ s k a q=if b<a then(j7,5,k) else(jL a b,0,j2)):=j0 (by rw [HTO.out,ho2])
      by_cases hba:b<a
      ·have HF:Hid (jB s k=(j7,5,k)):=j0 (by rw [HF0.out,HTO.out,if_pos hba]);rw [rngW_none hb256 hba] at BT;have BT:Hid (∀W,Tab W->Calls Tryz.prog 266 #[kd t,kd t2] W fun e w'=>e=.returned (.agg #[.int .u64 0,.int .u64 0,.int .u64 0,.int .u64 0])/\Below W.heap.size W w'):=BT;clear hba hb256 ho2 HTO HF0 hp2 HO
       go_enter Tryz.func258,Tryz.ntmps258
       go_wp2_with fail
       refine(PART.out _ HA.out).mono ?_;rintro e w1 ⟨rfl,hr1⟩;have H1:Hid (Rd (w.alloc j5) w1 g s j):=j0 hr1;clear hr1 r0 r1 rz rl;unfold jf;have H2:Hid (Rd (w.alloc j5) (w1.alloc (jG t)) g s j):=j0 (H1.out.below (j3 w1 _));have hb2:=j0 (j1 w1 (jG t));have h5g:Hid (w1.heap.size≠g):=j0 (by have:=H1.out.1.lt;omega);clear H1
       go_wp2_with fail
       refine(SE.out _ H2.out.1).mono ?_;rintro e w3 ⟨rfl,n3,hw3⟩;have H3:Hid (Rd (w.alloc j5) w3 g s j):=j0 (by rw [hw3];exact H2.out.drewN n3);have hb3:Hid (w3.heap[w1.heap.size]? =some (jG t)):=j0 (by rw [hw3];exact hb2.out);clear hw3 hb2 H2;generalize w1.heap.size=b5 at*;obtain⟨⟨z0,z1,z2,z3⟩,hz⟩:=jA hb3.out
       go_wp2_with fail
       refine(CNT.out _).mono ?_;rintro e w4 ⟨rfl,hb4⟩;have H4:=j0 (H3.out.below hb4);have hk4:=j0 (j4 hb4 hb3.out);clear hb4 hb3 H3 z0 z1 z2 z3 hz;obtain⟨y0,y1,yz,yl⟩:=H4.out.1
       go_wp2_with fail
       refine(ST.out _ H4.out.1).mono ?_;rintro e w5 ⟨rfl,hw5⟩;have H45:Hid (Rd w4 w5 g s q):=j0 ((Rd.refl H4.out.1).put (by rw [hw5,HQ.out];rfl));clear hw5 y0 y1 yz yl;have H5:=j0 (H4.out.trans H45.out);have hk5:=j0 (H45.out.kept hk4.out h5g.out);clear H45 hk4 H4;obtain⟨y0,y1,yz,yl⟩:=H5.out.1
       go_wp2_with fail
       refine(PART2.out _ H5.out.1).mono ?_;rintro e w6 ⟨rfl,hr6⟩;have H6:=j0 (H5.out.trans hr6);have hk6:=j0 (hr6.kept hk5.out h5g.out);clear hr6 H5 hk5 y0 y1 yz yl;unfold jf;have H6a:Hid (Rd (w.alloc j5) (w6.alloc (jG t2)) g s j2):=j0 (H6.out.below (j3 w6 _));have hk6a:=j0 (j4 (j3 w6 (jG t2)) hk6.out);have hb8:=j0 (j1 w6 (jG t2));clear H6 hk6
       go_wp2_with fail
       refine(CNT2.out _).mono ?_;rintro e w7 ⟨rfl,hb7⟩;have H7:=j0 (H6a.out.below hb7);have hk7:=j0 (j4 hb7 hk6a.out);have hb8':=j0 (j4 hb7 hb8.out);clear hb7 H6a hk6a hb8;generalize w6.heap.size=b8 at*;have HT7:=j0 ((HT.out.alloc j5).rd H7.out hne);obtain⟨⟨z0,z1,z2,z3⟩,hz⟩:=jA hk7.out;obtain⟨⟨u0,u1,u2,u3⟩,hu⟩:=jA hb8'.out
       go_wp2_with fail
       refine(BT.out _ HT7.out).mono ?_;rintro e w9 ⟨rfl,hb9⟩;have H9:=j0 (H7.out.below hb9);clear hb9 H7 hk7 hb8' HT7 z0 z1 z2 z3 u0 u1 u2 u3 hz hu
       go_wp2_with fail
       obtain⟨W,hW⟩:∃W,W=w9.alloc (jG j7):=⟨_,rfl⟩;obtain⟨b9,hb9⟩:∃b9,b9=w9.heap.size:=⟨_,rfl⟩;have hw9:=H9.out.2.size;rw [World.size_alloc] at hw9;have h9w:¬b9=w.heap.size:=by omega
       have h9g:¬b9=g:=by have:=H9.out.1.lt;omega
       have h0g:¬w.heap.size=g:=by have:=HH.out.lt;omega
       have HW:Hid (Rd (w.alloc j5) W g s j2):=j0 (by rw [hW];exact H9.out.below (j3 _ _));have HC:OwnSet W b9 j7:=by subst hW hb9;exact OwnSet.of (j1 w9 (jG j7))
       obtain⟨⟨z0,z1,z2,z3⟩,_,hz⟩:=HC;have HQ0:OwnSet W w.heap.size j7:=OwnSet.of (t:=j7) (ja HH.out HW.out);have HQ0':=j0 HQ0;obtain⟨⟨q0,q1,q2,q3⟩,⟨f0,f1,f2,f3⟩,hsz⟩:=HQ0;have TB:=j0 (vh g k 5 s j2 W.drew (HW.out.drewN 1).1);have HPUT:Hid (Rd (w.alloc j5) (W.setCell ⟨g,0,none⟩ (.int .i64 (k:Int))) g s k):=j0 (HW.out.put rfl);have HQ2:Hid (OwnSet (W.setCell ⟨g,0,none⟩ (.int .i64 (k:Int))) w.heap.size j7):=j0 (HQ0'.out.rd ((Rd.refl HW.out.1).put (j:=k) rfl) h0g);rw [<-hb9];change Code.wp _ _ _ _ (w9.alloc (jG j7));rw [<-hW];clear hW hb9 H9 hw9 HW HQ0';generalize kd t=vt;generalize kd t2=vt2
       go_region_with (go_at_call 219;refine TB.out.mono ?_;rintro e w' ⟨rfl,rfl⟩)
       all_goals
        generalize W.setCell ⟨g,0,none⟩ (.int .i64 (k:Int))=W2 at*;have HRw:Hid (Rd w W2 g s k):=j0 ⟨HPUT.out.1,j8 HPUT.out.2⟩;clear q0 q1 q2 q3 f0 f1 f2 f3 hsz z0 z1 z2 z3 hz h9w h9g h0g TB;obtain⟨⟨q0,q1,q2,q3⟩,⟨f0,f1,f2,f3⟩,hsz⟩:=HQ2.out
        go_wp2_with fail
        refine bodyPost_ret (v:=jf j7 5) (by simp [results,Tryz.results258,go_sem,jf,j7,q0,q1,q2,q3]) rfl (vz HF.out ?_);exact(HRw.out.set (jN _) hlt j7).drewN 1
      ·have HF:Hid (jB s k=(jL a b,0,j2)):=j0 (by rw [HF0.out,HTO.out,if_neg hba]);have hrne:=ne_words (rngW_some hb256 (by omega:a<=b));generalize jL a b=rr at*;have hr0:((¬rr.a=0\/¬rr.b=0)\/¬rr.c=0)\/¬rr.d=0:=hrne
       have hr1:(rr.a==0 && rr.b==0 && rr.c==0 && rr.d==0)=false:=by
        cases hx:(rr.a==0 && rr.b==0 && rr.c==0 && rr.d==0)
        ·rfl
        ·simp at hx;obtain⟨⟨⟨h1,h2⟩,h3⟩,h4⟩:=hx;exact absurd hr0 (by simp [h1,h2,h3,h4])
       have HR01:=j0 hr1;clear hba hb256 ho2 HTO HF0 hp2 HO hrne
       go_enter Tryz.func258,Tryz.ntmps258
       go_wp2_with fail
       refine(PART.out _ HA.out).mono ?_;rintro e w1 ⟨rfl,hr1⟩;have H1:Hid (Rd (w.alloc j5) w1 g s j):=j0 hr1;clear hr1 r0 r1 rz rl;unfold jf;have H2:Hid (Rd (w.alloc j5) (w1.alloc (jG t)) g s j):=j0 (H1.out.below (j3 w1 _));have hb2:=j0 (j1 w1 (jG t));have h5g:Hid (w1.heap.size≠g):=j0 (by have:=H1.out.1.lt;omega);clear H1
       go_wp2_with fail
       refine(SE.out _ H2.out.1).mono ?_;rintro e w3 ⟨rfl,n3,hw3⟩;have H3:Hid (Rd (w.alloc j5) w3 g s j):=j0 (by rw [hw3];exact H2.out.drewN n3);have hb3:Hid (w3.heap[w1.heap.size]? =some (jG t)):=j0 (by rw [hw3];exact hb2.out);clear hw3 hb2 H2;generalize w1.heap.size=b5 at*;obtain⟨⟨z0,z1,z2,z3⟩,hz⟩:=jA hb3.out
       go_wp2_with fail
       refine(CNT.out _).mono ?_;rintro e w4 ⟨rfl,hb4⟩;have H4:=j0 (H3.out.below hb4);have hk4:=j0 (j4 hb4 hb3.out);clear hb4 hb3 H3 z0 z1 z2 z3 hz;obtain⟨y0,y1,yz,yl⟩:=H4.out.1
       go_wp2_with fail
       refine(ST.out _ H4.out.1).mono ?_;rintro e w5 ⟨rfl,hw5⟩;have H45:Hid (Rd w4 w5 g s q):=j0 ((Rd.refl H4.out.1).put (by rw [hw5,HQ.out];rfl));clear hw5 y0 y1 yz yl;have H5:=j0 (H4.out.trans H45.out);have hk5:=j0 (H45.out.kept hk4.out h5g.out);clear H45 hk4 H4;obtain⟨y0,y1,yz,yl⟩:=H5.out.1
       go_wp2_with fail
       refine(PART2.out _ H5.out.1).mono ?_;rintro e w6 ⟨rfl,hr6⟩;have H6:=j0 (H5.out.trans hr6);have hk6:=j0 (hr6.kept hk5.out h5g.out);clear hr6 H5 hk5 y0 y1 yz yl;unfold jf;have H6a:Hid (Rd (w.alloc j5) (w6.alloc (jG t2)) g s j2):=j0 (H6.out.below (j3 w6 _));have hk6a:=j0 (j4 (j3 w6 (jG t2)) hk6.out);have hb8:=j0 (j1 w6 (jG t2));clear H6 hk6
       go_wp2_with fail
       refine(CNT2.out _).mono ?_;rintro e w7 ⟨rfl,hb7⟩;have H7:=j0 (H6a.out.below hb7);have hk7:=j0 (j4 hb7 hk6a.out);have hb8':=j0 (j4 hb7 hb8.out);clear hb7 H6a hk6a hb8;generalize w6.heap.size=b8 at*;have HT7:=j0 ((HT.out.alloc j5).rd H7.out hne);obtain⟨⟨z0,z1,z2,z3⟩,hz⟩:=jA hk7.out;obtain⟨⟨u0,u1,u2,u3⟩,hu⟩:=jA hb8'.out
       go_wp2_with fail
       refine(BT.out _ HT7.out).mono ?_;rintro e w9 ⟨rfl,hb9⟩;have H9:=j0 (H7.out.below hb9);clear hb9 H7 hk7 hb8' HT7 z0 z1 z2 z3 u0 u1 u2 u3 hz hu;obtain⟨⟨q0,q1,q2,q3⟩,⟨f0,f1,f2,f3⟩,hsz⟩:=jn (ja HH.out H9.out);have HRw:Hid (Rd w w9 g s j2):=j0 ⟨H9.out.1,j8 H9.out.2⟩
       go_wp2_with fail
       refine bodyPost_ret (v:=jf rr 0) (by simp [results,Tryz.results258,go_sem,jf,hsz,q0,q1,q2,q3]) rfl (vz HF.out ?_);exact(HRw.out.set (jN _) hlt rr).below (j3 _ _)
    ·have HF:Hid (jB s k=(j7,c2,j2)):=j0 (by rw [HF0.out,HTO.out,if_pos hd0]);clear HTO HF0 hp2 hd0
     go_enter Tryz.func258,Tryz.ntmps258
     go_wp2_with fail
     refine(PART.out _ HA.out).mono ?_;rintro e w1 ⟨rfl,hr1⟩;have H1:Hid (Rd (w.alloc j5) w1 g s j):=j0 hr1;clear hr1 r0 r1 rz rl;unfold jf;have H2:Hid (Rd (w.alloc j5) (w1.alloc (jG t)) g s j):=j0 (H1.out.below (j3 w1 _));have hb2:=j0 (j1 w1 (jG t));have h5g:Hid (w1.heap.size≠g):=j0 (by have:=H1.out.1.lt;omega);clear H1
     go_wp2_with fail
     refine(SE.out _ H2.out.1).mono ?_;rintro e w3 ⟨rfl,n3,hw3⟩;have H3:Hid (Rd (w.alloc j5) w3 g s j):=j0 (by rw [hw3];exact H2.out.drewN n3);have hb3:Hid (w3.heap[w1.heap.size]? =some (jG t)):=j0 (by rw [hw3];exact hb2.out);clear hw3 hb2 H2;generalize w1.heap.size=b5 at*;obtain⟨⟨z0,z1,z2,z3⟩,hz⟩:=jA hb3.out
     go_wp2_with fail
     refine(CNT.out _).mono ?_;rintro e w4 ⟨rfl,hb4⟩;have H4:=j0 (H3.out.below hb4);have hk4:=j0 (j4 hb4 hb3.out);clear hb4 hb3 H3 z0 z1 z2 z3 hz;obtain⟨y0,y1,yz,yl⟩:=H4.out.1
     go_wp2_with fail
     refine(ST.out _ H4.out.1).mono ?_;rintro e w5 ⟨rfl,hw5⟩;have H45:Hid (Rd w4 w5 g s q):=j0 ((Rd.refl H4.out.1).put (by rw [hw5,HQ.out];rfl));clear hw5 y0 y1 yz yl;have H5:=j0 (H4.out.trans H45.out);have hk5:=j0 (H45.out.kept hk4.out h5g.out);clear H45 hk4 H4;obtain⟨y0,y1,yz,yl⟩:=H5.out.1
     go_wp2_with fail
     refine(PART2.out _ H5.out.1).mono ?_;rintro e w6 ⟨rfl,hr6⟩;have H6:=j0 (H5.out.trans hr6);have hk6:=j0 (hr6.kept hk5.out h5g.out);clear hr6 H5 hk5 y0 y1 yz yl;unfold jf;obtain⟨⟨q0,q1,q2,q3⟩,⟨f0,f1,f2,f3⟩,hsz⟩:=jn (ja HH.out H6.out);have HRw:Hid (Rd w w6 g s j2):=j0 ⟨H6.out.1,j8 H6.out.2⟩
     go_wp2_with fail
     refine bodyPost_ret (v:=jf j7 c2) (by simp [results,Tryz.results258,go_sem,jf,j7,hsz,q0,q1,q2,q3]) rfl (vz HF.out ?_);exact(HRw.out.set (jN _) hlt j7).below (j3 _ _)
  ·rw [jF h45] at SE;have HF:Hid (jB s k=(t,0,j)):=j0 (by rw [HIT.out,if_pos (.inr h45)]);clear h45 HIT hp
   go_enter Tryz.func258,Tryz.ntmps258
   go_wp2_with fail
   refine(PART.out _ HA.out).mono ?_;rintro e w1 ⟨rfl,hr1⟩;have H1:Hid (Rd (w.alloc j5) w1 g s j):=j0 hr1;clear hr1 r0 r1 rz rl;unfold jf;have H2:Hid (Rd (w.alloc j5) (w1.alloc (jG t)) g s j):=j0 (H1.out.below (j3 w1 _));have hb2:=j0 (j1 w1 (jG t));have h5g:Hid (w1.heap.size≠g):=j0 (by have:=H1.out.1.lt;omega);clear H1
   go_wp2_with fail
   refine(SE.out _ H2.out.1).mono ?_;rintro e w3 ⟨rfl,n3,hw3⟩;have H3:Hid (Rd (w.alloc j5) w3 g s j):=j0 (by rw [hw3];exact H2.out.drewN n3);have hb3:Hid (w3.heap[w1.heap.size]? =some (jG t)):=j0 (by rw [hw3];exact hb2.out);clear hw3 hb2 H2;generalize w1.heap.size=b5 at*;obtain⟨⟨z0,z1,z2,z3⟩,hz⟩:=jA hb3.out;obtain⟨⟨q0,q1,q2,q3⟩,⟨f0,f1,f2,f3⟩,_hsz⟩:=jn (ja HH.out H3.out);have HRw:Hid (Rd w w3 g s j):=j0 ⟨H3.out.1,j8 H3.out.2⟩
   go_wp2_with fail
   refine bodyPost_ret (v:=jf t 0) (by simp [results,Tryz.results258,go_sem,jf,q0,q1,q2,q3]) rfl (vz HF.out ?_);exact HRw.out.set (jN _) hlt t
 ·have HF:Hid (jB s k=(t,c,j)):=j0 (by rw [HIT.out,if_pos (.inl hc0)]);clear HIT hp hc0
  go_enter Tryz.func258,Tryz.ntmps258
  go_wp2_with fail
  refine(PART.out _ HA.out).mono ?_;rintro e w1 ⟨rfl,hr1⟩;have H1:Hid (Rd (w.alloc j5) w1 g s j):=j0 hr1;clear hr1 r0 r1 rz rl;unfold jf;obtain⟨⟨q0,q1,q2,q3⟩,⟨f0,f1,f2,f3⟩,hsz⟩:=jn (ja HH.out H1.out);have HRw:Hid (Rd w w1 g s j):=j0 ⟨H1.out.1,j8 H1.out.2⟩
  go_wp2_with fail
  refine bodyPost_ret (v:=jf t c) (by simp [results,Tryz.results258,go_sem,jf,hsz,q0,q1,q2,q3]) rfl (vz HF.out ?_);exact(HRw.out.set (jN _) hlt t).below (j3 _ _)
structure ClsInv(s:ByteArray)(R:W4×Int×Nat)(n:Nat)(t:W4)(e:Int)(i:Nat):Prop where
 fit:t.fit
 err:e=0\/e=4\/e=5\/e=6
 le:i<=s.size
 pos:1<=n
 fuel:e=0->s.size+2<=n+i
 run:KR s n t e i=R
theorem ClsInv.start{s:ByteArray}{i:Nat}(hi:i<=s.size):ClsInv s (ke s i) (s.size+2) (jB s i).1 (jB s i).2.1 (jB s i).2.2:=
 ⟨(itemR_set hi).fit,(itemR_set hi).err,(itemR_set hi).le,by omega,fun _=>by omega,rfl⟩
theorem ClsInv.bad{s:ByteArray}{R:W4×Int×Nat}{n:Nat}{t:W4}{e:Int}{i:Nat}(h:ClsInv s R n t e i)(he:e≠0):R=(j7,e,i):=by
 obtain⟨m,rfl⟩:∃m,n=m+1:=⟨n-1,by have:=h.pos;omega⟩;rw [<-h.run,KR,if_pos he]
theorem ClsInv.done{s:ByteArray}{R:W4×Int×Nat}{n:Nat}{t:W4}{i:Nat}(h:ClsInv s R n t 0 i)(he:jl s i=93):R=(t,0,i+1):=by
 obtain⟨m,rfl⟩:∃m,n=m+1:=⟨n-1,by have:=h.pos;omega⟩;rw [<-h.run,KR,if_neg (by simp),if_pos he]
theorem ClsInv.next{s:ByteArray}{R:W4×Int×Nat}{n:Nat}{t:W4}{i:Nat}(h:ClsInv s R n t 0 i)(he:jl s i≠93):2<=n/\ClsInv s R (n-1) (uni2 t (jB s i).1) (jB s i).2.1 (jB s i).2.2:=by
 have hf:=h.fuel rfl;have hle:=h.le;obtain⟨m,rfl⟩:∃m,n=m+1:=⟨n-1,by have:=h.pos;omega⟩;have hit:=itemR_set h.le;refine⟨by omega,yS _ _,hit.err,hit.le,by omega,fun e=>by have:=hit.on e;omega,?_⟩;rw [<-h.run,KR,if_neg (by simp),if_neg he];rfl
theorem Yw(g k:Nat)(s:ByteArray)(hk:k<s.size)(hs:s.size<=1099511627776)(w:World)(h:jI w g s k)(hT:Tab w)(hne:1≠g):
  Calls Tryz.prog 242 #[.pointer (some ⟨g,0,none⟩)] w fun e w'=>e=.returned (jf (kH s k).1 (kH s k).2.1)/\Rd w w' g s (kH s k).2.2:=by
 have HH:=j0 h;have hlt:=h.lt;have HT:=j0 (hT.alloc j5);have HA:=j0 (kg h j5);have ST:=j0 (fun W (hW:jI W g s k)=>kO g 1 1 s k (by omega) W hW rfl);have IT:=j0 (fun i (hi:i<=s.size) W (hW:jI W g s i) (hTW:Tab W)=>titem_any g i s hi hs W hW hTW hne);have SY:=j0 (fun i (hi:jl s i=93) W (hW:jI W g s i)=>skip_yes g s i 93 (by omega) W hW hi hs);have SN:=j0 (fun i (hi:jl s i≠93) W (hW:jI W g s i)=>vQ g s i 93 (by omega) W hW hi);have NOT:=j0 (fun(t:W4) W=>Jt t.a t.b t.c t.d W);have U2:Hid (∀(t u:W4) (W:World),Calls Tryz.prog 259 #[.slice (some ⟨W.heap.size,0,none⟩) 2 2] (W.alloc (.cells #[.int .u64 t.a,.int .u64 t.b,.int .u64 t.c,.int .u64 t.d,.int .u64 u.a,.int .u64 u.b,.int .u64 u.c,.int .u64 u.d] 29)) fun e w'=>e=.returned (kd (uni2 t u))/\Below (W.alloc (.cells #[.int .u64 t.a,.int .u64 t.b,.int .u64 t.c,.int .u64 t.d,.int .u64 u.a,.int .u64 u.b,.int .u64 u.c,.int .u64 u.d] 29)).heap.size (W.alloc (.cells #[.int .u64 t.a,.int .u64 t.b,.int .u64 t.c,.int .u64 t.d,.int .u64 u.a,.int .u64 u.b,.int .u64 u.c,.int .u64 u.d] 29)) w'):=j0 (fun t u W=>U9 _ _ _ _ _ _ _ _ W);obtain⟨r0,r1,rz,rl⟩:=HA.out;unfold j5 at r0 r1 rz rl;clear h hT;obtain⟨q,hq⟩:∃q,q=k+1:=⟨_,rfl⟩;have HQ:=j0 hq;have hqs:q<=s.size:=by omega
 have HCL:Hid (kH s k=if jl s q=94 then(if(ke s (q+1)).2.1≠0 then(j7,(ke s (q+1)).2.1,(ke s (q+1)).2.2) else(km (ke s (q+1)).1,0,(ke s (q+1)).2.2)) else ke s q):=j0 (by rw [hq];rfl);clear hq
 by_cases h94:jl s q=94
 ·have SK:=j0 (fun W (hW:jI W g s q)=>skip_yes g s q 94 (by omega) W hW h94 hs);obtain⟨i0,hi0⟩:∃i0,i0=q+1:=⟨_,rfl⟩;have HI0:Hid (i0<=s.size):=j0 (by have:=ka h94 (by omega);omega);rw [<-hi0] at SK HCL;rw [if_pos h94] at HCL;obtain⟨R,hR⟩:∃R,R=ke s i0:=⟨_,rfl⟩;have HRR:=j0 hR;rw [<-hR] at HCL;clear h94 hR hi0 hqs
  go_enter Tryz.func242,Tryz.ntmps242
  go_wp2_with fail
  refine(ST.out _ HA.out).mono ?_;rintro e w1 ⟨rfl,hw1⟩;have H1:Hid (Rd (w.alloc j5) w1 g s q):=j0 ((Rd.refl HA.out).put (by rw [hw1,HQ.out];rfl));clear hw1 r0 r1 rz rl
  go_wp2_with fail
  refine(SK.out _ H1.out.1).mono ?_;rintro e w2 ⟨rfl,hr2⟩;have H2:=j0 (H1.out.trans hr2);clear hr2 H1;have hi0:=HI0.out
  go_wp2_with fail
  refine(IT.out _ hi0 _ H2.out.1 (HT.out.rd H2.out hne)).mono ?_;rintro e w3 ⟨rfl,hr3⟩;have H3:=j0 (H2.out.trans hr3);clear hr3 H2 hi0;unfold jf;have HS3:Hid (OwnSet (w3.alloc (jG (jB s i0).1)) w3.heap.size (jB s i0).1):=j0 (OwnSet.of (j1 _ _));have H3a:=j0 (H3.out.below (j3 w3 (jG (jB s i0).1)));have h5g:Hid (w3.heap.size≠g):=j0 (by have:=H3.out.1.lt;omega);have h5w:Hid ((w.alloc j5).heap.size<=w3.heap.size):=j0 H3.out.2.size;clear H3
  go_wp2_with fail
  generalize w3.alloc (jG (jB s i0).1)=w4 at*;generalize w3.heap.size=b5 at*;have HCI:=j0 (ClsInv.start HI0.out);rw [<-HRR.out] at HCI;generalize (jB s i0).1=t0 at*;generalize (jB s i0).2.1=e0 at*;generalize (jB s i0).2.2=p0 at*
  go_loopg [6] (s.size+2) (fun n v wr=>∃(m:Nat) (t:W4) (e:Int) (i:Nat),m=n/\v=.int .i64 e/\Hid (ClsInv s R m t e i)/\Hid (Rd (w.alloc j5) wr g s i)/\Hid (OwnSet wr b5 t))
  case atStart=>exact⟨_,t0,e0,p0,rfl,rfl,HCI,H3a,HS3⟩
  case round=>
   obtain⟨m,t,e,i,hm,rfl,HC,HR,HS⟩:=hrel;clear HCI H3a HS3
   rcases XN HC.out.err with rfl|⟨hc0,hc1,hc2⟩
   ·have hil:=HC.out.le
    by_cases h93:jl s i=93
    ·have HD:=j0 (HC.out.done h93);have SYi:=j0 (SY.out i h93);clear h93 hil
     go_wp2_with fail
     refine(SYi.out _ HR.out.1).mono ?_;rintro e w5 ⟨rfl,hr5⟩;have H5:=j0 (HR.out.trans hr5);have HS5:=j0 (HS.out.rd hr5 h5g.out);clear hr5 HR HS;obtain⟨⟨z0,z1,z2,z3⟩,⟨g0,g1,g2,g3⟩,hz⟩:=HS5.out;have HF:Hid (kH s k=(km t,0,i+1)):=j0 (by rw [HCL.out,HD.out,if_neg (by simp)]);have NOTt:=j0 (NOT.out t);clear HD HCL NOT HC HT
     go_wp2_with fail
     refine(NOTt.out _).mono ?_;rintro e w6 ⟨rfl,hb6⟩;have H6:=j0 (H5.out.below hb6);have HS6:=j0 (HS5.out.below hb6);clear hb6 H5 HS5 z0 z1 z2 z3 g0 g1 g2 g3 hz;obtain⟨⟨z0,z1,z2,z3⟩,⟨g0,g1,g2,g3⟩,hz⟩:=HS6.out;have H7:=j0 (H6.out.set h5w.out (by rw [World.size_alloc];omega) (km t));have h5n:¬b5=w.heap.size:=by have:=h5w.out;rw [World.size_alloc] at this;omega
     obtain⟨⟨q0,q1,q2,q3⟩,⟨f0,f1,f2,f3⟩,_hsz⟩:=jn (ja HH.out H6.out);have HRw:Hid (Rd w (jQ w6 b5 (km t)) g s (i+1)):=j0 ⟨H7.out.1,j8 H7.out.2⟩
     go_wp2_with fail
     refine bodyPost_ret (v:=jf (km t) 0) (by simp [results,Tryz.results242,go_sem,jf,km,q0,q1,q2,q3]) rfl (vz HF.out ?_);exact HRw.out.set (jN _) hlt (km t)
    ·have HN:=j0 (HC.out.next h93);have SNi:=j0 (SN.out i h93);have ITi:=j0 (IT.out i hil);clear h93 hil
     go_wp2_with fail
     refine(SNi.out _ HR.out.1).mono ?_;rintro e w5 ⟨rfl,n5,hw5⟩;have H5:Hid (Rd (w.alloc j5) w5 g s i):=j0 (by rw [hw5];exact HR.out.drewN n5);have HS5:Hid (OwnSet w5 b5 t):=j0 (by rw [hw5];exact HS.out.drewN n5);clear hw5 HR HS;have H6:=j0 (H5.out.below (j3 w5 j5));have HS6:=j0 (HS5.out.below (j3 w5 j5));have HS7:Hid (OwnSet (w5.alloc j5) w5.heap.size j7):=j0 (OwnSet.of (j1 _ _));have h7g:Hid (w5.heap.size≠g):=j0 (by have:=H5.out.1.lt;omega);have h7w:Hid ((w.alloc j5).heap.size<=w5.heap.size):=j0 H5.out.2.size;have h57:b5≠w5.heap.size:=by have:=HS5.out.lt;omega
     clear H5 HS5
     go_wp2_with fail
     refine(ITi.out _ H6.out.1 (HT.out.rd H6.out hne)).mono ?_;rintro e w7 ⟨rfl,hr7⟩;have H7:=j0 (H6.out.trans hr7);have HS8:=j0 (HS6.out.rd hr7 h5g.out);have HS9:=j0 (HS7.out.rd hr7 h7g.out);clear hr7 H6 HS6 HS7;unfold jf;generalize w5.heap.size=b7 at*;generalize (jB s i).1=t2 at*;generalize (jB s i).2.1=e2 at*;generalize (jB s i).2.2=i2 at*;have HP7:=j0 (H7.out.set h7w.out (by rw [World.size_alloc];omega) t2);have HP8:=j0 (HS8.out.other (t':=t2) h57);have HP9:=j0 (HS9.out.put t2);obtain⟨⟨u0,u1,u2,u3⟩,⟨v0,v1,v2,v3⟩,hu⟩:=HS9.out;obtain⟨⟨z0,z1,z2,z3⟩,⟨g0,g1,g2,g3⟩,hz⟩:=HS8.out;have h75:¬b7=b5:=fun e=>h57 e.symm
     clear H7 HS8 HS9 HT HH IT SY SN SNi ITi NOT HCL
     go_wp2_with fail
     have hsz:(jQ w7 b7 t2).heap.size=w7.heap.size:=by simp [jQ,World.setCell]
     have UU:=U2.out t t2 (jQ w7 b7 t2);rw [hsz] at UU;refine UU.mono ?_;rintro e w8 ⟨rfl,hb8⟩;have H8:=j0 ((HP7.out.below (j3 _ _)).below hb8);have HS8:=j0 ((HP8.out.below (j3 _ _)).below hb8);clear hb8 UU hsz HP7 HP8 HP9 U2 z0 z1 z2 z3 g0 g1 g2 g3 hz u0 u1 u2 u3 v0 v1 v2 v3 hu;obtain⟨⟨z0,z1,z2,z3⟩,⟨g0,g1,g2,g3⟩,hz⟩:=HS8.out;have H9:=j0 (H8.out.set h5w.out (by rw [World.size_alloc];omega) (uni2 t t2));have HS9:=j0 (HS8.out.put (uni2 t t2));have hn2:=HN.out.1
     go_wp2_with fail
     go_roundg (m-1)
     case measure=>omega
     case rel=>exact⟨m-1,uni2 t t2,e2,i2,rfl,rfl,j0 HN.out.2,H9,HS9⟩
   ·have HD:=j0 (HC.out.bad hc0);have hc0':=hc0;clear HC HT;have HF:Hid (kH s k=(j7,e,i)):=j0 (by rw [HCL.out,HD.out,if_pos hc0']);clear HD HCL;obtain⟨⟨q0,q1,q2,q3⟩,⟨f0,f1,f2,f3⟩,_hsz⟩:=jn (ja HH.out HR.out);have HRw:Hid (Rd w wr g s i):=j0 ⟨HR.out.1,j8 HR.out.2⟩
    go_wp2_with fail
    refine bodyPost_ret (v:=jf j7 e) (by simp [results,Tryz.results242,go_sem,jf,j7,q0,q1,q2,q3]) rfl (vz HF.out ?_);exact HRw.out.set (jN _) hlt j7
 ·have SK:=j0 (fun W (hW:jI W g s q)=>vQ g s q 94 (by omega) W hW h94);rw [if_neg h94] at HCL;obtain⟨i0,hi0⟩:∃i0,i0=q:=⟨_,rfl⟩;rw [<-hi0] at SK HCL HQ hqs;have HI0:Hid (i0<=s.size):=j0 hqs;obtain⟨R,hR⟩:∃R,R=ke s i0:=⟨_,rfl⟩;have HRR:=j0 hR;rw [<-hR] at HCL;clear h94 hR hi0 hqs
  go_enter Tryz.func242,Tryz.ntmps242
  go_wp2_with fail
  refine(ST.out _ HA.out).mono ?_;rintro e w1 ⟨rfl,hw1⟩;have H1:Hid (Rd (w.alloc j5) w1 g s i0):=j0 ((Rd.refl HA.out).put (by rw [hw1,HQ.out];rfl));clear hw1 r0 r1 rz rl
  go_wp2_with fail
  refine(SK.out _ H1.out.1).mono ?_;rintro e w2 ⟨rfl,n2,hw2⟩;have H2:Hid (Rd (w.alloc j5) w2 g s i0):=j0 (by rw [hw2];exact H1.out.drewN n2);clear hw2 H1;have hi0:=HI0.out
  go_wp2_with fail
  refine(IT.out _ hi0 _ H2.out.1 (HT.out.rd H2.out hne)).mono ?_;rintro e w3 ⟨rfl,hr3⟩;have H3:=j0 (H2.out.trans hr3);clear hr3 H2 hi0;unfold jf;have HS3:Hid (OwnSet (w3.alloc (jG (jB s i0).1)) w3.heap.size (jB s i0).1):=j0 (OwnSet.of (j1 _ _));have H3a:=j0 (H3.out.below (j3 w3 (jG (jB s i0).1)));have h5g:Hid (w3.heap.size≠g):=j0 (by have:=H3.out.1.lt;omega);have h5w:Hid ((w.alloc j5).heap.size<=w3.heap.size):=j0 H3.out.2.size;clear H3
  go_wp2_with fail
  generalize w3.alloc (jG (jB s i0).1)=w4 at*;generalize w3.heap.size=b5 at*;have HCI:=j0 (ClsInv.start HI0.out);rw [<-HRR.out] at HCI;generalize (jB s i0).1=t0 at*;generalize (jB s i0).2.1=e0 at*;generalize (jB s i0).2.2=p0 at*
  go_loopg [6] (s.size+2) (fun n v wr=>∃(m:Nat) (t:W4) (e:Int) (i:Nat),m=n/\v=.int .i64 e/\Hid (ClsInv s R m t e i)/\Hid (Rd (w.alloc j5) wr g s i)/\Hid (OwnSet wr b5 t))
  case atStart=>exact⟨_,t0,e0,p0,rfl,rfl,HCI,H3a,HS3⟩
  case round=>
   obtain⟨m,t,e,i,hm,rfl,HC,HR,HS⟩:=hrel;clear HCI H3a HS3
   rcases XN HC.out.err with rfl|⟨hc0,hc1,hc2⟩
   ·have hil:=HC.out.le
    by_cases h93:jl s i=93
    ·have HD:=j0 (HC.out.done h93);have SYi:=j0 (SY.out i h93);clear h93 hil
     go_wp2_with fail
     refine(SYi.out _ HR.out.1).mono ?_;rintro e w5 ⟨rfl,hr5⟩;have H5:=j0 (HR.out.trans hr5);have HS5:=j0 (HS.out.rd hr5 h5g.out);clear hr5 HR HS;obtain⟨⟨z0,z1,z2,z3⟩,⟨g0,g1,g2,g3⟩,hz⟩:=HS5.out;have HF:Hid (kH s k=(t,0,i+1)):=j0 (by rw [HCL.out,HD.out]);clear HD HCL HC HT;obtain⟨⟨q0,q1,q2,q3⟩,⟨f0,f1,f2,f3⟩,_hsz⟩:=jn (ja HH.out H5.out);have HRw:Hid (Rd w w5 g s (i+1)):=j0 ⟨H5.out.1,j8 H5.out.2⟩
     go_wp2_with fail
     refine bodyPost_ret (v:=jf t 0) (by simp [results,Tryz.results242,go_sem,jf,q0,q1,q2,q3]) rfl (vz HF.out ?_);exact HRw.out.set (jN _) hlt t
    ·have HN:=j0 (HC.out.next h93);have SNi:=j0 (SN.out i h93);have ITi:=j0 (IT.out i hil);clear h93 hil
     go_wp2_with fail
     refine(SNi.out _ HR.out.1).mono ?_;rintro e w5 ⟨rfl,n5,hw5⟩;have H5:Hid (Rd (w.alloc j5) w5 g s i):=j0 (by rw [hw5];exact HR.out.drewN n5);have HS5:Hid (OwnSet w5 b5 t):=j0 (by rw [hw5];exact HS.out.drewN n5);clear hw5 HR HS;have H6:=j0 (H5.out.below (j3 w5 j5));have HS6:=j0 (HS5.out.below (j3 w5 j5));have HS7:Hid (OwnSet (w5.alloc j5) w5.heap.size j7):=j0 (OwnSet.of (j1 _ _));have h7g:Hid (w5.heap.size≠g):=j0 (by have:=H5.out.1.lt;omega);have h7w:Hid ((w.alloc j5).heap.size<=w5.heap.size):=j0 H5.out.2.size;have h57:b5≠w5.heap.size:=by have:=HS5.out.lt;omega
     clear H5 HS5
     go_wp2_with fail
     refine(ITi.out _ H6.out.1 (HT.out.rd H6.out hne)).mono ?_;rintro e w7 ⟨rfl,hr7⟩;have H7:=j0 (H6.out.trans hr7);have HS8:=j0 (HS6.out.rd hr7 h5g.out);have HS9:=j0 (HS7.out.rd hr7 h7g.out);clear hr7 H6 HS6 HS7;unfold jf;generalize w5.heap.size=b7 at*;generalize (jB s i).1=t2 at*;generalize (jB s i).2.1=e2 at*;generalize (jB s i).2.2=i2 at*;have HP7:=j0 (H7.out.set h7w.out (by rw [World.size_alloc];omega) t2);have HP8:=j0 (HS8.out.other (t':=t2) h57);have HP9:=j0 (HS9.out.put t2);obtain⟨⟨u0,u1,u2,u3⟩,⟨v0,v1,v2,v3⟩,hu⟩:=HS9.out;obtain⟨⟨z0,z1,z2,z3⟩,⟨g0,g1,g2,g3⟩,hz⟩:=HS8.out;have h75:¬b7=b5:=fun e=>h57 e.symm
     clear H7 HS8 HS9 HT HH IT SY SN SNi ITi NOT HCL
     go_wp2_with fail
     have hsz:(jQ w7 b7 t2).heap.size=w7.heap.size:=by simp [jQ,World.setCell]
     have UU:=U2.out t t2 (jQ w7 b7 t2);rw [hsz] at UU;refine UU.mono ?_;rintro e w8 ⟨rfl,hb8⟩;have H8:=j0 ((HP7.out.below (j3 _ _)).below hb8);have HS8:=j0 ((HP8.out.below (j3 _ _)).below hb8);clear hb8 UU hsz HP7 HP8 HP9 U2 z0 z1 z2 z3 g0 g1 g2 g3 hz u0 u1 u2 u3 v0 v1 v2 v3 hu;obtain⟨⟨z0,z1,z2,z3⟩,⟨g0,g1,g2,g3⟩,hz⟩:=HS8.out;have H9:=j0 (H8.out.set h5w.out (by rw [World.size_alloc];omega) (uni2 t t2));have HS9:=j0 (HS8.out.put (uni2 t t2));have hn2:=HN.out.1
     go_wp2_with fail
     go_roundg (m-1)
     case measure=>omega
     case rel=>exact⟨m-1,uni2 t t2,e2,i2,rfl,rfl,j0 HN.out.2,H9,HS9⟩
   ·have HD:=j0 (HC.out.bad hc0);clear HC hc0 HT;have HF:Hid (kH s k=(j7,e,i)):=j0 (by rw [HCL.out,HD.out]);clear HD HCL;obtain⟨⟨q0,q1,q2,q3⟩,⟨f0,f1,f2,f3⟩,_hsz⟩:=jn (ja HH.out HR.out);have HRw:Hid (Rd w wr g s i):=j0 ⟨HR.out.1,j8 HR.out.2⟩
    go_wp2_with fail
    refine bodyPost_ret (v:=jf j7 e) (by simp [results,Tryz.results242,go_sem,jf,j7,q0,q1,q2,q3]) rfl (vz HF.out ?_);exact HRw.out.set (jN _) hlt j7
section
open Go Go.RowKit
attribute [local go_sem ↓] Go.wp_at_zero Go.wp_at_succ
attribute [local go_sem] qX
def vM(b:Nat):Nat:=
 if b=91 then 242 else if b=92 then 243 else if b=46 then 244 else if b=94\/b=36 then 245 else if b=93\/b=125 then 246 else 247
theorem setFn_cf(b:Nat)(args:Array Value)(W:World):(callFunc (vM b) args).run Tryz.prog W=.ok (.enter (vM b) args) W:=by
 unfold vM
 repeat' split
 all_goals first|(simp [callFunc,Tryz.func242,mark,Sem.run];done)|(simp [callFunc,Tryz.func243,mark,Sem.run];done)|(simp [callFunc,Tryz.func244,mark,Sem.run];done)|(simp [callFunc,Tryz.func245,mark,Sem.run];done)|(simp [callFunc,Tryz.func246,mark,Sem.run];done)|(simp [callFunc,Tryz.func247,mark,Sem.run];done)|(simp [callFunc,Tryz.func242,mark,Sem.run];rfl)|(simp [callFunc,Tryz.func243,mark,Sem.run];rfl)|(simp [callFunc,Tryz.func244,mark,Sem.run];rfl)|(simp [callFunc,Tryz.func245,mark,Sem.run];rfl)|(simp [callFunc,Tryz.func246,mark,Sem.run];rfl)|(simp [callFunc,Tryz.func247,mark,Sem.run];rfl)
theorem Yq(b:Nat)(w:World):
  Calls Tryz.prog 223 #[.int .u8 (b:Int)] w fun e w'=>e=.returned (Fun (vM b) #[])/\w'=w:=by
 by_cases h91:b=91
 ·have HF:vM b=242:=by subst h91;decide
  rw [HF];have g91:(((b:Nat):Int)==91)=true:=by simp;omega
  clear HF h91
  go_enter Tryz.func223,Tryz.ntmps223
  go_wp2
  go_ret
  exact⟨rfl,rfl⟩
 ·by_cases h92:b=92
  ·have HF:vM b=243:=by subst h92;decide
   rw [HF];have g91:(((b:Nat):Int)==91)=false:=by simp;omega
   have g92:(((b:Nat):Int)==92)=true:=by simp;omega
   clear HF h91 h92
   go_enter Tryz.func223,Tryz.ntmps223
   go_wp2
   go_ret
   exact⟨rfl,rfl⟩
  ·by_cases h46:b=46
   ·have HF:vM b=244:=by subst h46;decide
    rw [HF];have g91:(((b:Nat):Int)==91)=false:=by simp;omega
    have g92:(((b:Nat):Int)==92)=false:=by simp;omega
    have g46:(((b:Nat):Int)==46)=true:=by simp;omega
    clear HF h91 h92 h46
    go_enter Tryz.func223,Tryz.ntmps223
    go_wp2
    go_ret
    exact⟨rfl,rfl⟩
   ·by_cases h94:b=94
    ·have HF:vM b=245:=by subst h94;decide
     rw [HF];have g91:(((b:Nat):Int)==91)=false:=by simp;omega
     have g92:(((b:Nat):Int)==92)=false:=by simp;omega
     have g46:(((b:Nat):Int)==46)=false:=by simp;omega
     have g94:(((b:Nat):Int)==94)=true:=by simp;omega
     clear HF h91 h92 h46 h94
     go_enter Tryz.func223,Tryz.ntmps223
     go_wp2
     go_ret
     exact⟨rfl,rfl⟩
    ·by_cases h36:b=36
     ·have HF:vM b=245:=by subst h36;decide
      rw [HF];have g91:(((b:Nat):Int)==91)=false:=by simp;omega
      have g92:(((b:Nat):Int)==92)=false:=by simp;omega
      have g46:(((b:Nat):Int)==46)=false:=by simp;omega
      have g94:(((b:Nat):Int)==94)=false:=by simp;omega
      have g36:(((b:Nat):Int)==36)=true:=by simp;omega
      clear HF h91 h92 h46 h94 h36
      go_enter Tryz.func223,Tryz.ntmps223
      go_wp2
      go_ret
      exact⟨rfl,rfl⟩
     ·by_cases h93:b=93
      ·have HF:vM b=246:=by subst h93;decide
       rw [HF];have g91:(((b:Nat):Int)==91)=false:=by simp;omega
       have g92:(((b:Nat):Int)==92)=false:=by simp;omega
       have g46:(((b:Nat):Int)==46)=false:=by simp;omega
       have g94:(((b:Nat):Int)==94)=false:=by simp;omega
       have g36:(((b:Nat):Int)==36)=false:=by simp;omega
       have g93:(((b:Nat):Int)==93)=true:=by simp;omega
       clear HF h91 h92 h46 h94 h36 h93
       go_enter Tryz.func223,Tryz.ntmps223
       go_wp2
       go_ret
       exact⟨rfl,rfl⟩
      ·by_cases h125:b=125
       ·have HF:vM b=246:=by subst h125;decide
        rw [HF];have g91:(((b:Nat):Int)==91)=false:=by simp;omega
        have g92:(((b:Nat):Int)==92)=false:=by simp;omega
        have g46:(((b:Nat):Int)==46)=false:=by simp;omega
        have g94:(((b:Nat):Int)==94)=false:=by simp;omega
        have g36:(((b:Nat):Int)==36)=false:=by simp;omega
        have g93:(((b:Nat):Int)==93)=false:=by simp;omega
        have g125:(((b:Nat):Int)==125)=true:=by simp;omega
        clear HF h91 h92 h46 h94 h36 h93 h125
        go_enter Tryz.func223,Tryz.ntmps223
        go_wp2
        go_ret
        exact⟨rfl,rfl⟩
       ·have HF:vM b=247:=by unfold vM;simp [h91,h92,h46,h94,h36,h93,h125]
        rw [HF];have g91:(((b:Nat):Int)==91)=false:=by simp;omega
        have g92:(((b:Nat):Int)==92)=false:=by simp;omega
        have g46:(((b:Nat):Int)==46)=false:=by simp;omega
        have g94:(((b:Nat):Int)==94)=false:=by simp;omega
        have g36:(((b:Nat):Int)==36)=false:=by simp;omega
        have g93:(((b:Nat):Int)==93)=false:=by simp;omega
        have g125:(((b:Nat):Int)==125)=false:=by simp;omega
        clear HF h91 h92 h46 h94 h36 h93 h125
        go_enter Tryz.func223,Tryz.ntmps223
        go_wp2
        go_ret
        exact⟨rfl,rfl⟩
def vL(b:Nat):Nat:=
 if b=124 then 179 else if b=40 then 180 else if b=41 then 181 else if b=42\/b=43\/b=63 then 182 else if b=123 then 183 else 184
theorem tokFn_cf(b:Nat)(args:Array Value)(W:World):(callFunc (vL b) args).run Tryz.prog W=.ok (.enter (vL b) args) W:=by
 unfold vL
 repeat' split
 all_goals first|(simp [callFunc,Tryz.func179,mark,Sem.run];done)|(simp [callFunc,Tryz.func180,mark,Sem.run];done)|(simp [callFunc,Tryz.func181,mark,Sem.run];done)|(simp [callFunc,Tryz.func182,mark,Sem.run];done)|(simp [callFunc,Tryz.func183,mark,Sem.run];done)|(simp [callFunc,Tryz.func184,mark,Sem.run];done)|(simp [callFunc,Tryz.func179,mark,Sem.run];rfl)|(simp [callFunc,Tryz.func180,mark,Sem.run];rfl)|(simp [callFunc,Tryz.func181,mark,Sem.run];rfl)|(simp [callFunc,Tryz.func182,mark,Sem.run];rfl)|(simp [callFunc,Tryz.func183,mark,Sem.run];rfl)|(simp [callFunc,Tryz.func184,mark,Sem.run];rfl)
theorem UL(b:Nat)(w:World):
  Calls Tryz.prog 134 #[.int .u8 (b:Int)] w fun e w'=>e=.returned (Fun (vL b) #[])/\w'=w:=by
 by_cases h124:b=124
 ·have HF:vL b=179:=by subst h124;decide
  rw [HF];have g124:(((b:Nat):Int)==124)=true:=by simp;omega
  clear HF h124
  go_enter Tryz.func134,Tryz.ntmps134
  go_wp2
  go_ret
  exact⟨rfl,rfl⟩
 ·by_cases h40:b=40
  ·have HF:vL b=180:=by subst h40;decide
   rw [HF];have g124:(((b:Nat):Int)==124)=false:=by simp;omega
   have g40:(((b:Nat):Int)==40)=true:=by simp;omega
   clear HF h124 h40
   go_enter Tryz.func134,Tryz.ntmps134
   go_wp2
   go_ret
   exact⟨rfl,rfl⟩
  ·by_cases h41:b=41
   ·have HF:vL b=181:=by subst h41;decide
    rw [HF];have g124:(((b:Nat):Int)==124)=false:=by simp;omega
    have g40:(((b:Nat):Int)==40)=false:=by simp;omega
    have g41:(((b:Nat):Int)==41)=true:=by simp;omega
    clear HF h124 h40 h41
    go_enter Tryz.func134,Tryz.ntmps134
    go_wp2
    go_ret
    exact⟨rfl,rfl⟩
   ·by_cases h42:b=42
    ·have HF:vL b=182:=by subst h42;decide
     rw [HF];have g124:(((b:Nat):Int)==124)=false:=by simp;omega
     have g40:(((b:Nat):Int)==40)=false:=by simp;omega
     have g41:(((b:Nat):Int)==41)=false:=by simp;omega
     have g42:(((b:Nat):Int)==42)=true:=by simp;omega
     clear HF h124 h40 h41 h42
     go_enter Tryz.func134,Tryz.ntmps134
     go_wp2
     go_ret
     exact⟨rfl,rfl⟩
    ·by_cases h43:b=43
     ·have HF:vL b=182:=by subst h43;decide
      rw [HF];have g124:(((b:Nat):Int)==124)=false:=by simp;omega
      have g40:(((b:Nat):Int)==40)=false:=by simp;omega
      have g41:(((b:Nat):Int)==41)=false:=by simp;omega
      have g42:(((b:Nat):Int)==42)=false:=by simp;omega
      have g43:(((b:Nat):Int)==43)=true:=by simp;omega
      clear HF h124 h40 h41 h42 h43
      go_enter Tryz.func134,Tryz.ntmps134
      go_wp2
      go_ret
      exact⟨rfl,rfl⟩
     ·by_cases h63:b=63
      ·have HF:vL b=182:=by subst h63;decide
       rw [HF];have g124:(((b:Nat):Int)==124)=false:=by simp;omega
       have g40:(((b:Nat):Int)==40)=false:=by simp;omega
       have g41:(((b:Nat):Int)==41)=false:=by simp;omega
       have g42:(((b:Nat):Int)==42)=false:=by simp;omega
       have g43:(((b:Nat):Int)==43)=false:=by simp;omega
       have g63:(((b:Nat):Int)==63)=true:=by simp;omega
       clear HF h124 h40 h41 h42 h43 h63
       go_enter Tryz.func134,Tryz.ntmps134
       go_wp2
       go_ret
       exact⟨rfl,rfl⟩
      ·by_cases h123:b=123
       ·have HF:vL b=183:=by subst h123;decide
        rw [HF];have g124:(((b:Nat):Int)==124)=false:=by simp;omega
        have g40:(((b:Nat):Int)==40)=false:=by simp;omega
        have g41:(((b:Nat):Int)==41)=false:=by simp;omega
        have g42:(((b:Nat):Int)==42)=false:=by simp;omega
        have g43:(((b:Nat):Int)==43)=false:=by simp;omega
        have g63:(((b:Nat):Int)==63)=false:=by simp;omega
        have g123:(((b:Nat):Int)==123)=true:=by simp;omega
        clear HF h124 h40 h41 h42 h43 h63 h123
        go_enter Tryz.func134,Tryz.ntmps134
        go_wp2
        go_ret
        exact⟨rfl,rfl⟩
       ·have HF:vL b=184:=by unfold vL;simp [h124,h40,h41,h42,h43,h63,h123]
        rw [HF];have g124:(((b:Nat):Int)==124)=false:=by simp;omega
        have g40:(((b:Nat):Int)==40)=false:=by simp;omega
        have g41:(((b:Nat):Int)==41)=false:=by simp;omega
        have g42:(((b:Nat):Int)==42)=false:=by simp;omega
        have g43:(((b:Nat):Int)==43)=false:=by simp;omega
        have g63:(((b:Nat):Int)==63)=false:=by simp;omega
        have g123:(((b:Nat):Int)==123)=false:=by simp;omega
        clear HF h124 h40 h41 h42 h43 h63 h123
        go_enter Tryz.func134,Tryz.ntmps134
        go_wp2
        go_ret
        exact⟨rfl,rfl⟩
theorem UO(g k:Nat)(s:ByteArray)(hk:k<s.size)(hs:s.size<=1099511627776)(w:World)(h:jI w g s k)(hT:Tab w)(hne:1≠g):
  Calls Tryz.prog (vM (jl s k)) #[.pointer (some ⟨g,0,none⟩)] w fun e w'=>e=.returned (jf (K7 s k).1 (K7 s k).2.1)/\Rd w w' g s (K7 s k).2.2:=by
 unfold vM K7
 split
 ·exact Yw g k s hk hs w h hT hne
 ·split
  ·exact Kr g k s hk hs w h
  ·split
   ·exact Yr g k s hk hs w h
   ·split
    ·exact tedge_any g k s w h
    ·split
     ·exact Yp g k s w h
     ·exact Kq g k s hk hs w h
theorem Tab.allocd{w:World}(h:Tab w)(o:Obj)(n:Nat):Tab ((w.alloc o).drewN n):=(h.alloc o).drewN n
theorem tset_any(g k:Nat)(s:ByteArray)(hk:k<s.size)(hs:s.size<=1099511627776)(w:World)(h:jI w g s k)(hT:Tab w)(hne:1≠g):
  Calls Tryz.prog 184 #[.pointer (some ⟨g,0,none⟩)] w fun e w'=>e=.returned (jt ⟨0,(K7 s k).1,0,0,false⟩ (K7 s k).2.1)/\Rd w w' g s (K7 s k).2.2:=by
 have HH:=j0 h;have hlt:=h.lt;have HT:=j0 (hT.alloc jw);have HA:=j0 (kg h jw);have hb:((s[k]'hk).toNat)=jl s k:=(jy hk).symm;have SB:=j0 (fun W=>Yq (jl s k) W);have RULE:=j0 (fun W (hW:jI W g s k) (hTW:Tab W)=>UO g k s hk hs W hW hTW hne);have hcf:=setFn_cf (jl s k);rw [<-hb] at SB RULE hcf;generalize vM (s[k]'hk).toNat=F at*;obtain⟨r,hr⟩:∃r,r=K7 s k:=⟨_,rfl⟩;rw [<-hr] at RULE ⊢;clear hr h hT hb;obtain⟨t,c,j⟩:=r;have RULE:Hid (∀W,jI W g s k->Tab W->Calls Tryz.prog F #[.pointer (some ⟨g,0,none⟩)] W fun e w'=>e=.returned (.tuple #[.agg #[.int .u64 t.a,.int .u64 t.b,.int .u64 t.c,.int .u64 t.d],.int .i64 c])/\Rd W w' g s j):=RULE;unfold Fun at SB
 go_enter Tryz.func184,Tryz.ntmps184
 go_wp2_with fail
 obtain⟨W,hW⟩:∃W,W=w.alloc jw:=⟨_,rfl⟩;have HW:=j0 hW;rw [<-hW] at HA HT;change Code.wp _ _ _ _ (w.alloc jw);rw [<-hW];clear hW;obtain⟨r0,r1,rz,rl⟩:=HA.out;have R1:=j0 (qx HA.out 1);have R2:=j0 (qx (kg HA.out (jG j7)) 1);have T1:=j0 (HT.out.drewN 1);have T2:=j0 (HT.out.allocd (jG j7) 1);have hng:W.heap.size≠g:=by omega
 have OB:Hid (OwnSet ((W.alloc (jG j7)).drewN 1) W.heap.size j7):=j0 ((OwnSet.of (j1 W (jG j7))).drewN 1)
 go_region_with (first
  |(go_at_call 223;refine(SB.out _).mono ?_;rintro e w' ⟨rfl,rfl⟩)
  |(refine(RULE.out _ (by first|exact R1.out|exact R2.out) (by first|exact T1.out|exact T2.out)).mono ?_;rintro e w2 ⟨rfl,hr2⟩;first|(have hOB:=OB.out.rd hr2 hng;obtain⟨⟨u0,u1,u2,u3⟩,⟨v0,v1,v2,v3⟩,hu⟩:=hOB)|skip))
 all_goals
  first
  |(have hfin:OwnSet (w2.alloc (jG t)) w2.heap.size t/\Rd W (w2.alloc (jG t)) g s j:=⟨OwnSet.of (j1 w2 (jG t)),(((Rd.refl HA.out).drewN 1).trans hr2).below (j3 w2 _)⟩;change Exit.then _ _ _ _ (w2.alloc (jG t));generalize w2.alloc (jG t)=W5 at*;generalize w2.heap.size=b5 at*)
  |(have hB:=((Rd.refl HA.out).below (j3 W (jG j7))).drewN 1|>.trans hr2;have hfin:OwnSet (jQ w2 W.heap.size t) W.heap.size t/\Rd W (jQ w2 W.heap.size t) g s j:=⟨OwnSet.put (t:=j7) (OB.out.rd hr2 hng) t,hB.set (jN _) rl t⟩;clear hB u0 u1 u2 u3 v0 v1 v2 v3 hu;change Exit.then _ _ _ _ (jQ w2 W.heap.size t);generalize jQ w2 W.heap.size t=W5 at*;clear OB;generalize W.heap.size=b5 at*)
  obtain⟨⟨⟨z0,z1,z2,z3⟩,_,hz⟩,hR5⟩:=hfin;have H5:Hid (Rd (w.alloc jw) W5 g s j):=j0 (by rw [<-HW.out];exact hR5);obtain⟨⟨q0,q1,q2,q3,q4,q5,q6,q7,q8,q9⟩,⟨f0,f1,f2,f3,f4,f5,f6,f7,f8,f9⟩,_hsz⟩:=k7 (ja HH.out H5.out);have HRw:Hid (Rd w W5 g s j):=j0 ⟨H5.out.1,j8 H5.out.2⟩;clear hR5 hr2 r0 r1 rz rl R1 R2 T1 T2 RULE SB HT HA hcf
  go_wp2_with fail
  refine bodyPost_ret (v:=jt ⟨0,t,0,0,false⟩ c) (by simp [results,Tryz.results184,go_sem,jt,jp.val,q0,q1,q2,q3,q4,q5,q6,q7,q8,q9]) rfl ⟨rfl,?_⟩;exact HRw.out.tok (jN _) hlt ⟨0,t,0,0,false⟩
theorem UM(g k:Nat)(s:ByteArray)(hk:k<s.size)(hs:s.size<=1099511627776)(w:World)(h:jI w g s k)(hT:Tab w)(hne:1≠g):
  Calls Tryz.prog (vL (jl s k)) #[.pointer (some ⟨g,0,none⟩)] w fun e w'=>e=.returned (jt (jd s k).1 (jd s k).2.1)/\Rd w w' g s (jd s k).2.2:=by
 unfold vL jd
 split
 ·exact tbar_any g k s hk hs w h
 ·split
  ·exact topen_any g k s hk hs w h
  ·split
   ·exact Yv g k s hk hs w h
   ·split
    ·exact tsign_any g k s hk hs w h
    ·split
     ·exact VV g k s hk hs w h
     ·exact tset_any g k s hk hs w h hT hne
abbrev tokPutAt(w:World)(b:Nat)(t:jp)(i j:Int):World:=
 (((((((((w.setCell ⟨b,0,none⟩ (.int .i64 t.kind)).setCell ⟨b,1,none⟩ (.int .i64 i)).setCell ⟨b,2,none⟩ (.int .i64 j)).setCell ⟨b,3,none⟩ (.int .u64 t.set.a)).setCell ⟨b,4,none⟩ (.int .u64 t.set.b)).setCell ⟨b,5,none⟩ (.int .u64 t.set.c)).setCell ⟨b,6,none⟩ (.int .u64 t.set.d)).setCell ⟨b,7,none⟩ (.int .i64 t.lo)).setCell ⟨b,8,none⟩ (.int .i64 t.hi)).setCell ⟨b,9,none⟩ (.bool t.lazy)
theorem Rd.tokAt{w w':World}{g j b:Nat}{s:ByteArray}(h:Rd w w' g s j)(hb:w.heap.size<=b)(hg:g<w.heap.size)(t:jp)(x y:Int):Rd w (tokPutAt w' b t x y) g s j:=
 (((((((((h.store hb hg _).store hb hg _).store hb hg _).store hb hg _).store hb hg _).store hb hg _).store hb hg _).store hb hg _).store hb hg _).store hb hg _
theorem Yo(g k:Nat)(s:ByteArray)(hk:k<s.size)(hs:s.size<=1099511627776)(w:World)(h:jI w g s k)(hT:Tab w)(hne:1≠g):
  Calls Tryz.prog 91 #[.pointer (some ⟨g,0,none⟩)] w fun e w'=>e=.returned (.tuple #[(jd s k).1.val (k:Int) ((jd s k).2.2:Int),.int .i64 (jd s k).2.1])/\Rd w w' g s (jd s k).2.2:=by
 have HH:=j0 h;have hlt:=h.lt;have HT:=j0 (hT.alloc jw);have HA:=j0 (kg h jw);have hb:((s[k]'hk).toNat)=jl s k:=(jy hk).symm;have TBY:=j0 (fun W=>UL (jl s k) W);have RULE:=j0 (fun W (hW:jI W g s k) (hTW:Tab W)=>UM g k s hk hs W hW hTW hne);have hcf:=tokFn_cf (jl s k);rw [<-hb] at TBY RULE hcf;generalize vL (s[k]'hk).toNat=F at*;have hjle:=(kQ hk).le;obtain⟨r,hr⟩:∃r,r=jd s k:=⟨_,rfl⟩;rw [<-hr] at RULE hjle ⊢;clear hr h hT hb;obtain⟨t,c,j⟩:=r;have RULE:Hid (∀W,jI W g s k->Tab W->Calls Tryz.prog F #[.pointer (some ⟨g,0,none⟩)] W fun e w'=>e=.returned (.tuple #[.agg #[.int .i64 t.kind,.int .i64 0,.int .i64 0,.int .u64 t.set.a,.int .u64 t.set.b,.int .u64 t.set.c,.int .u64 t.set.d,.int .i64 t.lo,.int .i64 t.hi,.bool t.lazy],.int .i64 c])/\Rd W w' g s j):=RULE;unfold Fun at TBY;obtain⟨r0,r1,rz,rl⟩:=HA.out;unfold jw at r0 r1 rz rl
 go_enter Tryz.func91,Tryz.ntmps91
 go_wp2_with fail
 refine(TBY.out _).mono ?_;rintro e w1 ⟨rfl,hw1⟩;obtain⟨W,hW⟩:∃W,W=w.alloc jw:=⟨_,rfl⟩;have hW1:w1=W:=by rw [hw1,hW];rfl
 rw [<-hW] at HA HT;have HWW:=j0 hW;clear hw1 r0 r1 rz rl;subst hW1;clear hW
 go_wp2_with fail
 refine(RULE.out _ HA.out HT.out).mono ?_;rintro e w3 ⟨rfl,hr3⟩;have H3:Hid (Rd (w.alloc jw) w3 g s j):=j0 (by rw [<-HWW.out];exact hr3);clear hr3;obtain⟨⟨q0,q1,q2,q3,q4,q5,q6,q7,q8,q9⟩,⟨f0,f1,f2,f3,f4,f5,f6,f7,f8,f9⟩,_hsz⟩:=k7 (ja HH.out H3.out);obtain⟨y0,y1,yz,yl⟩:=H3.out.1;have hHW:=H3.out.2.size;rw [World.size_alloc] at hHW;have n1:¬w3.heap.size=w.heap.size:=by omega
 have n2:¬w.heap.size=w3.heap.size:=by omega
 have n3:¬w3.heap.size=g:=by omega
 have n4:¬g=w3.heap.size:=by omega
 have HRw:Hid (Rd w w3 g s j):=j0 ⟨H3.out.1,j8 H3.out.2⟩;clear RULE TBY HA HT hcf
 go_wp2_with fail
 go_region
 go_wp2_with fail
 refine bodyPost_ret (v:=.tuple #[t.val (k:Int) (j:Int),.int .i64 c]) (by simp [results,Tryz.results91,go_sem,jp.val,_hsz,q0,q1,q2,q3,q4,q5,q6,q7,q8,q9]) rfl ⟨rfl,?_⟩;exact((HRw.out.tokAt (jN _) hlt t (k:Int) (j:Int)).below (j3 _ _)).drewN 1
def tcells(x:jp×Nat×Nat):List Value:= [.int .i64 x.1.kind,.int .i64 (x.2.1:Int),.int .i64 (x.2.2:Int),.int .u64 x.1.set.a,.int .u64 x.1.set.b,.int .u64 x.1.set.c,.int .u64 x.1.set.d,.int .i64 x.1.lo,.int .i64 x.1.hi,.bool x.1.lazy]
def zT(l:List (jp×Nat×Nat)):List Value:=l.flatMap tcells
theorem QH(l:List (jp×Nat×Nat))(x:jp×Nat×Nat):zT (l++ [x])=zT l++tcells x:=by
 unfold zT;rw [List.flatMap_append];simp
theorem Tryz.infoTok:(Tryz.prog.info? 171).map (fun i=>(i.zero,i.size,i.bytes))=some (some (.agg #[.int .i64 0,.int .i64 0,.int .i64 0,.int .u64 0,.int .u64 0,.int .u64 0,.int .u64 0,.int .i64 0,.int .i64 0,.bool false]),10,80):=by kernel_rfl
theorem Ub(x:jp×Nat×Nat):∀u∈tcells x,u.oneCell'=true:=by
 intro u hu;simp only [tcells,List.mem_cons,List.not_mem_nil,or_false] at hu
 rcases hu with rfl|rfl|rfl|rfl|rfl|rfl|rfl|rfl|rfl|rfl<;>rfl
theorem KK(w:World)(ty:TypeId)(t:jp)(i k g:Nat)(hg:g=w.heap.size):∀j u,(tcells (t,i,k))[j]? =some u->(w.alloc (.cells #[.int .i64 t.kind,.int .i64 (i:Int),.int .i64 (k:Int),.int .u64 t.set.a,.int .u64 t.set.b,.int .u64 t.set.c,.int .u64 t.set.d,.int .i64 t.lo,.int .i64 t.hi,.bool t.lazy] ty)).cell? ((⟨g,0,none⟩:Addr).add j)=some u:=by
 subst hg;intro j u hj;have h:=j1 w (.cells #[.int .i64 t.kind,.int .i64 (i:Int),.int .i64 (k:Int),.int .u64 t.set.a,.int .u64 t.set.b,.int .u64 t.set.c,.int .u64 t.set.d,.int .i64 t.lo,.int .i64 t.hi,.bool t.lazy] ty);have hc:=jC h j;have e:((⟨w.heap.size,0,none⟩:Addr).add j)=⟨w.heap.size,j,none⟩:=by simp [Addr.add];intro h;exact h.symm
 rw [e,hc,<-hj];simp [tcells]
def kY(B:Nat)(l:List (jp×Nat×Nat))(v:Value)(w:World):Prop:=w.ownsRow B 171 10 v l.length (zT l)
theorem kY.start(B:Nat)(w:World):kY B [] (.slice none 0 0) w:=⟨rfl,.inl ⟨rfl,rfl⟩⟩
theorem kY.rd{B:Nat}{l:List (jp×Nat×Nat)}{v:Value}{w w1:World}{g k:Nat}{s:ByteArray}(h:kY B l v w)(hr:Rd w w1 g s k)(hg:g<B):kY B l v w1:=
 qp h hr.2 (by intro b hb e;have:=(kl h hb).1;injection e with e;omega)
theorem rd_grown{w w1:World}{row:Option Nat}{g k:Nat}{s:ByteArray}(h:jI w g s k)(hg:w.grownBy w1 row)(hne:row≠some g):jI w1 g s k:=
 ⟨hg.cell h.c0 (fun e=>hne e.symm),hg.cell h.c1 (fun e=>hne e.symm),(World.frozen?_of_block (w:=w) (a:=⟨g,0,none⟩) (hg.block g h.lt (fun e=>hne e.symm))).trans h.fz,Nat.lt_of_lt_of_le h.lt hg.size⟩
def xy(r:List (jp×Nat×Nat)×Int×Nat):Int:=if r.2.1=0 then(r.1.length:Int) else(r.2.2:Int)
theorem fin3{r:List (jp×Nat×Nat)×Int×Nat}{l:List (jp×Nat×Nat)}{c:Int}{j:Nat}{n:Int}{v:Value}{w w':World}(h:r=(l,c,j))(hn:xy (l,c,j)=n)(hg:kY (w.heap.size+1) l v w')(hb:Below w.heap.size w w'):
  ∃u,Ending.returned (.tuple #[v,.int .i64 n,.int .i64 c])=.returned (.tuple #[u,.int .i64 (xy r),.int .i64 r.2.1])/\kY (w.heap.size+1) r.1 u w'/\Below w.heap.size w w':=by
 subst h;subst hn;exact⟨v,rfl,hg,hb⟩
theorem tscan_any(s:ByteArray)(hs:s.size<=1048576)(w:World)(hT:Tab w):
  Calls Tryz.prog 48 #[.string s] w fun e w'=>∃v,e=.returned (.tuple #[v,.int .i64 (xy (jm s)),.int .i64 (jm s).2.1])/\kY (w.heap.size+1) (jm s).1 v w'/\Below w.heap.size w w':=by
 have HT:=j0 hT;have hne:1≠w.heap.size:=by have:=hT.lt;omega
 have EN:=j0 (fun k W (hW:jI W w.heap.size s k)=>tended_any w.heap.size s k W hW);have TK:=j0 (fun k (hk:k<s.size) W (hW:jI W w.heap.size s k) (hTW:Tab W)=>Yo w.heap.size k s hk (by omega) W hW hTW hne);have zp:decide ((1048576:Int)<(s.size:Int))=false:=jF (by omega);obtain⟨i0,hif,hy0,hy1,hy2⟩:=info_parts Tryz.infoTok;clear hT hne
 go_enter Tryz.func48,Tryz.ntmps48
 go_wp2_with fail
 go_loopg [5] s.size (fun n v wr=>∃(k:Nat) (l:List (jp×Nat×Nat)),k+n=s.size/\Hid (ScanAt s l k)/\l.length<=k/\Hid (jI wr w.heap.size s k)/\Hid (kY (w.heap.size+1) l v wr)/\Hid (Below w.heap.size w wr))
 case atStart=>
  refine⟨0,[],by omega,j0 (ScanAt.start s),by simp,j0 ⟨?_,?_,?_,by simp⟩,j0 (kY.start _ _),j0 (j3 _ _)⟩
  ·exact jC (j1 w _) 0
  ·exact jC (j1 w _) 1
  ·exact jU (j1 w _) 0
 case round=>
  obtain⟨k,l,hkn,HSA,hll,HR,HG,HB⟩:=hrel;have ENk:=j0 (EN.out k _ HR.out)
  by_cases hk:k<s.size
  ·rw [jF (by omega:¬s.size<=k)] at ENk;have TKk:=j0 (TK.out k hk);have hjle:=(kQ hk).le;have hjon:=(kQ hk).on;have HST:=j0 (fun he=>HSA.out.step hk he);have HBD:=j0 (fun he=>HSA.out.bad hk he);have herr:=(kQ hk).err;obtain⟨r,hr⟩:∃r,r=jd s k:=⟨_,rfl⟩;rw [<-hr] at TKk hjle hjon HST HBD herr;clear hr;obtain⟨t,c,j⟩:=r;have TKk:Hid (∀W,jI W w.heap.size s k->Tab W->Calls Tryz.prog 91 #[.pointer (some ⟨w.heap.size,0,none⟩)] W fun e w'=>e=.returned (.tuple #[.agg #[.int .i64 t.kind,.int .i64 (k:Int),.int .i64 (j:Int),.int .u64 t.set.a,.int .u64 t.set.b,.int .u64 t.set.c,.int .u64 t.set.d,.int .i64 t.lo,.int .i64 t.hi,.bool t.lazy],.int .i64 c])/\Rd W w' w.heap.size s j):=TKk
   go_wp2_with fail
   refine ENk.out.mono ?_;rintro e w1 ⟨rfl,n1,hw1⟩;have HR1:Hid (jI w1 w.heap.size s k):=j0 (by rw [hw1];exact qx HR.out n1);have HG1:Hid (kY (w.heap.size+1) l _ w1):=j0 (by rw [hw1];exact HG.out);have HB1:Hid (Below w.heap.size w w1):=j0 (by rw [hw1];exact⟨HB.out.os,HB.out.tape,HB.out.output,HB.out.size,HB.out.block⟩);have HT1:Hid (Tab w1):=j0 (HT.out.below HB1.out HT.out.lt);clear hw1 HR HG HB ENk
   go_wp2_with fail
   refine(TKk.out _ HR1.out HT1.out).mono ?_;rintro e w2 ⟨rfl,hr2⟩;have HR2:=j0 hr2.1;have HG2:=j0 (HG1.out.rd hr2 (by omega));have HB2:=j0 (HB1.out.grown hr2.2 HB1.out.size (fun b hb=>by injection hb with hb;omega));have hsz2:=HB2.out.size;have hlt2:=HR2.out.lt;clear hr2 HR1 HG1 HB1 HT1 TKk
   rcases XN herr with rfl|⟨hc0,hc1,hc2⟩
   ·have HS2:=j0 (HST.out rfl);have hjk:k<j:=hjon rfl;clear HST HBD herr hjon HSA
    go_wp2_with (at_builtin;go_must (refine wpList_append_own_at _ rfl (.tmp 26) (.tmp 28) 101 rfl (w.heap.size+1) 171 i0 (.agg #[.int .i64 0,.int .i64 0,.int .i64 0,.int .u64 0,.int .u64 0,.int .u64 0,.int .u64 0,.int .i64 0,.int .i64 0,.bool false]) 10 80 Tryz.underlying101 hif hy0 hy1 hy2 rfl (by decide) _ l.length (zT l) rfl (kt (kt HG2.out _) _) ⟨_,0,none⟩ 1 1 (tcells (t,k,j)) rfl rfl (KK _ _ t k j _ (by simp)) (Ub (t,k,j)) (by unfold maxLen;omega) (by omega) (by simp;omega) ?_;intro v4 w4 ho hg4 _ _))
    have hro:∀b,Value.ownBlock _=some b->w.heap.size+1<=b:=fun b hb=>(kl HG2.out hb).1
    have HR4:=j0 (rd_grown (kg (kg HR2.out _) _) hg4 (fun e=>by have:=hro _ e;omega));have HG4:Hid (kY (w.heap.size+1) (l++ [(t,k,j)]) v4 w4):=j0 (by unfold kY;rw [List.length_append,QH];exact ho);have HB4:=j0 (((HB2.out.alloc hsz2 _).alloc (by simp;omega) _).grown hg4 (by simp;omega) (fun b hb=>by have:=hro _ hb;omega));clear ho hg4 hro
    go_wp2_with fail
    go_roundg (s.size-j)
    case measure=>omega
    case rel=>exact⟨j,l++ [(t,k,j)],by omega,HS2,by simp;omega,HR4,HG4,HB4⟩
   ·have HSC:=j0 (HBD.out hc0);clear HST HBD herr hjon HSA HT EN TK;obtain⟨y0,y1,yz,yl⟩:=HR2.out
    go_wp2_with fail
    go_region
    go_wp2_with fail
    refine bodyPost_ret (v:=.tuple #[.slice none 0 0,.int .i64 (j:Int),.int .i64 c]) (by simp [results,Tryz.results48,go_sem]) rfl (fin3 HSC.out (by unfold xy;rw [if_neg hc0]) (kY.start _ _) ((HB2.out.alloc hsz2 _).drew))
  ·have hke:s.size<=k:=by omega
   rw [jT hke] at ENk;have HSC:=j0 (HSA.out.done hke);clear HSA TK HT EN
   go_wp2_with fail
   refine ENk.out.mono ?_;rintro e w1 ⟨rfl,n1,hw1⟩;have HG1:Hid (kY (w.heap.size+1) l _ w1):=j0 (by rw [hw1];exact HG.out);have HB1:Hid (Below w.heap.size w w1):=j0 (by rw [hw1];exact⟨HB.out.os,HB.out.tape,HB.out.output,HB.out.size,HB.out.block⟩);clear hw1;obtain⟨p4,cap4,rfl⟩:=Uj HG1.out
   go_wp2_with fail
   refine bodyPost_ret (v:=.tuple #[.slice p4 l.length cap4,.int .i64 (l.length:Int),.int .i64 0]) (by simp [results,Tryz.results48,go_sem]) rfl (fin3 HSC.out rfl HG1.out HB1.out)
end
end
section
section
open Go Go.RowKit
attribute [local go_sem ↓] Go.wp_at_zero Go.wp_at_succ
attribute [local go_sem] qX
def qK(w:World)(v:Value)(l:List (jp×Nat×Nat)):Prop:=
 ∃p cap,v=.slice p l.length cap/\∀i x,l[i]? =some x->∃g,p=some ⟨g,0,none⟩/\g<w.heap.size/\∀o u,(tcells x)[o]? =some u->w.cell? ⟨g,i*10+o,none⟩=some u
theorem qK.below{w w':World}{v:Value}{l:List (jp×Nat×Nat)}(h:qK w v l)(hb:Below w.heap.size w w'):qK w' v l:=by
 obtain⟨p,cap,hv,hc⟩:=h;refine⟨p,cap,hv,fun i x hi=> ?_⟩;obtain⟨g,hp,hg,hcell⟩:=hc i x hi;exact⟨g,hp,Nat.lt_of_lt_of_le hg hb.size,fun o u ho=>(hb.cell (p:=⟨g,i*10+o,none⟩) hg).trans (hcell o u ho)⟩
theorem Uv:∀(l:List (jp×Nat×Nat)) (i o:Nat) (x:jp×Nat×Nat) (u:Value),l[i]? =some x->(tcells x)[o]? =some u->(zT l)[i*10+o]? =some u:=by
 intro l
 induction l with
 |nil=>intro i o x u h;simp at h
 |cons y l ih=>
  intro i o x u h hu;have e:zT (y::l)=tcells y++zT l:=rfl;have hl:(tcells y).length=10:=rfl;have ho:o<10:=(List.getElem?_eq_some_iff.1 hu).1;rw [e]
  cases i with
  |zero=>
   obtain rfl:y=x:=by simpa using h
   rw [List.getElem?_append_left (by omega),Nat.zero_mul,Nat.zero_add];exact hu
  |succ i=>
   rw [List.getElem?_append_right (by omega),show(i+1)*10+o-(tcells y).length=i*10+o by omega];exact ih i o x u (by simpa using h) hu
theorem kY.at{B:Nat}{l:List (jp×Nat×Nat)}{v:Value}{w:World}(h:kY B l v w):qK w v l:=by
 rcases h.2 with ⟨rfl,h2⟩|⟨g,cap,cur,rfl,hb,hh,hcap,hmax,hcs,htake⟩
 ·refine⟨none,0,by rw [h2],fun i x hi=> ?_⟩;rw [List.length_eq_zero_iff.1 h2] at hi;simp at hi
 ·refine⟨_,cap,rfl,fun i x hi=>⟨g,rfl,(Array.getElem?_eq_some_iff.1 hh).1,fun o u hu=> ?_⟩⟩;have hox:=Uv l i o x u hi hu;rw [jC hh,<-Array.getElem?_toList];rw [<-htake] at hox;obtain⟨hl,_⟩:=List.getElem?_eq_some_iff.1 hox;rw [List.getElem?_take_of_lt (by rw [List.length_take] at hl;omega)] at hox;exact hox
open Go Go.RowKit
attribute [local go_sem ↓] Go.wp_at_zero Go.wp_at_succ
attribute [local go_sem] qX
end
end
end Go.Proofs.YtnmalggmbeipaaaGreatDoor
