/- A part of the proof. -/
import Derived.Test.YtnmalggmbeipaaaGreatDoorRfD
import Derived.Lib.MinMax
set_option maxRecDepth 100000
set_option maxHeartbeats 16000000
namespace Go.Proofs.YtnmalggmbeipaaaGreatDoor
open Go Go.RowKit
attribute [local go_sem ↓] Go.wp_at_zero Go.wp_at_succ
attribute [local go_sem] qX
def UJ:Nat->List (Nat×Nat)
 |0=> [(10,0)]
 |1=> [(6,0)]
 |2=> [(119,2)]
 |_=> []
def Y9:Nat->List (Nat×Nat)
 |0=> [(10,0)]
 |1=> [(6,0)]
 |2=> [(119,2)]
 |_=> []
def Ya:Nat->List (Nat×Nat)
 |0=> [(9,0)]
 |1=> [(6,0)]
 |2=> [(107,2)]
 |_=> []
def Yb:Nat->List (Nat×Nat)
 |0=> [(9,0)]
 |1=> [(6,0)]
 |2=> [(107,2)]
 |_=> []
def Yc:Nat->List (Nat×Nat)
 |0=> [(8,0)]
 |1=> [(6,0)]
 |2=> [(95,2)]
 |_=> []
def Yd:Nat->List (Nat×Nat)
 |0=> [(8,0)]
 |1=> [(6,0)]
 |2=> [(95,2)]
 |_=> []
theorem Qq(s:ByteArray)(k:Nat)(hk:k<s.size)(hs:s.size<=1099511627776)(w:World):
  Calls Tryz.prog 138 #[.string s,.int .i64 (k:Int)] w fun e w'=>e=.returned (kC (kX s k))/\Below w.heap.size w w':=by
 by_cases hend:s.size<=k+1
 ·have HF:Hid (kX s k=(j7,4,s.size)):=j0 (by unfold kX;rw [if_pos hend,show k+1=s.size by omega]);have d1:decide ((s.size:Int)<=(k:Int)+1)=true:=jT (by omega)
  go_enter Tryz.func138,Tryz.ntmps138
  go_wp2_with fail
  refine bodyPost_ret (v:=.tuple #[.agg #[.int .u64 0,.int .u64 0,.int .u64 0,.int .u64 0],.agg #[.int .i64 (s.size:Int),.int .i64 4]]) (by simp [results,Tryz.results138,go_sem]) rfl ⟨by rw [HF.out];rfl,?_⟩;exact kw _ _ _
 ·have d1:decide ((s.size:Int)<=(k:Int)+1)=false:=jF (by omega);have hin:k+1<s.size:=by omega
  have hb:((s[k+1]'hin).toNat)=jl s (k+1):=(jy hin).symm;have hcl:jl s (k+1)<256:=qk hin;have HESC:Hid (kX s k=if Qr (jl s (k+1)) then(j7,6,k) else if jl s (k+1)=120 then pairR s (k+1+1) else if(kq (jl s (k+1))).2 then((kq (jl s (k+1))).1,0,k+1+1) else(j7,4,k+1)):=j0 (by unfold kX;rw [if_neg hend]);generalize jl s (k+1)=c at*;have IN1:=j0 (fun W=>kJ xc c (by decide) W);rw [show xc.size=16 from rfl,inB_them c hcl] at IN1;have IN2:=j0 (fun W=>kJ Xd c (by decide) W);rw [show Xd.size=20 from rfl,inB_ref c hcl] at IN2
  go_enter Tryz.func138,Tryz.ntmps138
  go_wp2_with fail
  refine(IN1.out _).mono ?_;rintro e w1 ⟨rfl,hw1⟩;obtain⟨W,hW⟩:∃W,W=QI w c k:=⟨_,rfl⟩;have hW1:w1=W:=by rw [hw1,hW];rfl
  have HE:=XL w c k;rw [<-hW] at HE;clear hw1 hW;subst hW1;have HNE:Hid (w.heap.size+1+1+1+1+1+1≠w.heap.size/\w.heap.size+1+1+1+1+1+1≠w.heap.size+1/\w.heap.size+1+1≠w.heap.size/\w.heap.size+1+1≠w.heap.size+1):=j0 (by omega);have HN3:Hid (w.heap.size+1+1+1≠w.heap.size/\w.heap.size+1+1+1≠w.heap.size+1):=j0 (by omega);have HN4:Hid (w.heap.size+1+1+1+1≠w.heap.size/\w.heap.size+1+1+1+1≠w.heap.size+1):=j0 (by omega);have HN5:Hid (w.heap.size+1+1+1+1+1≠w.heap.size/\w.heap.size+1+1+1+1+1≠w.heap.size+1):=j0 (by omega);generalize w.heap.size+1+1+1+1+1+1=b6 at*;generalize w.heap.size+1+1+1+1+1=b5 at*;generalize w.heap.size+1+1+1+1=b4 at*;generalize w.heap.size+1+1+1=b3 at*;generalize w.heap.size+1+1=b2 at*;generalize w.heap.size+1=b1 at*;have HNF:Hid (w1.heap.size≠w.heap.size/\w1.heap.size≠b1):=j0 (by have h1:=HE.st.lt;have h2:=HE.en.lt;omega);have HE:=j0 HE
  cases hth:yU c
  ·by_cases h110:c=110
   ·subst h110;have HF:Hid (kX s k=(jh 10,0,k+1+1)):=j0 (by rw [HESC.out,if_neg (by decide),if_neg (by decide),show kq 110=(jh 10,true) from rfl];rfl);have SM:Hid (∀X,jE X w1.heap.size [(10,10)]->Calls Tryz.prog 140 #[.slice (some ⟨w1.heap.size,0,none⟩) 1 1,.bool false] X fun e w'=>e=.returned (.agg #[.int .u64 (jh 10).a,.int .u64 (jh 10).b,.int .u64 (jh 10).c,.int .u64 (jh 10).d])/\Below X.heap.size X w'):=j0 (fun X hX=>jY w1.heap.size 1 1 [(10,10)] false (jh 10) (kz 10) (fun m hm=>by rw [oneW_mem 10 m (by omega) hm];simp) rfl (by omega) X hX);generalize jh 10=t at*;clear HESC IN1 IN2 hth
    go_wp2_with fail
    refine Reg.wp_region_S (qD 10 w1.heap.size t ((k:Int)+2)) (ym w b1 b6 w1.heap.size [(10,10)] t ((k:Int)+2) 4 5) [0,1,2,3,4,5] (by rfl) (by kernel_rfl) (by kernel_rfl) ?_ ?_ ?_
    ·exact⟨⟨HE.out.st.drewN 1,⟨HE.out.en.at_,HE.out.en.free,HE.out.en.lt⟩,⟨HE.out.fin.at_,HE.out.fin.free,HE.out.fin.lt⟩,HE.out.ne,⟨HNE.out.1,HNE.out.2.1⟩,⟨HE.out.bel.os,HE.out.bel.tape,HE.out.bel.output,HE.out.bel.size,HE.out.bel.block⟩⟩,(fun e=>by simp at e),fun _=>rfl,HNF.out⟩
    ·refine Reg.oS (fun listed A X hI hin hun hall HS=> ?_) ?_
     ·clear hI hall
      go_simp
      exact⟨rfl,HS.same (by decide) (by decide) (by decide)⟩
     refine Reg.oS (fun listed A X hI hin hun hall HS=> ?_) ?_
     ·have e55:A.tmps[55]? =some (.agg #[.int .i64 10,.int .i64 10]):=hI.v hall 0 55;have hsz:=HS.no hun;have HMK:=j0 (HS.make hun hin (by decide) (by decide) (arr:= #[.int .i64 10,.int .i64 10]) (ty:=183) (ze rfl rfl));clear hI hall
      go_simp
      exact⟨by simp [qD],HMK.out⟩
     refine Reg.oS (fun listed A X hI hin hun hall HS=> ?_) ?_
     ·have e56:A.tmps[56]? =some (.slice (some ⟨w1.heap.size,0,none⟩) 1 1):=hI.v hall 1 56;have hl1:=hall ⟨1,.data⟩ (by simp) rfl;clear hI hall
      go_simp
      exact(SM.out _ (HS.yes hl1)).mono fun e w'' ⟨he,hb⟩=>⟨_,he,rfl,HS.call hl1 (by decide) (by decide) (by decide) hb⟩
     refine Reg.oS (fun listed A X hI hin hun hall HS=> ?_) ?_
     ·have e11:=hI.wo 11 rfl;obtain⟨⟨z0,z1⟩,⟨l0,l1⟩,hz⟩:=HS.b.fin;clear hI hall
      go_simp
      exact⟨rfl,HS.same (by decide) (by decide) (by decide)⟩
     refine Reg.oS (fun listed A X hI hin hun hall HS=> ?_) ?_
     ·have e4:=hI.wo 4 rfl;have e57:A.tmps[57]? =some (.agg #[.int .u64 t.a,.int .u64 t.b,.int .u64 t.c,.int .u64 t.d]):=hI.v hall 2 57;obtain⟨⟨u0,u1,u2,u3⟩,⟨v0,v1,v2,v3⟩,hu⟩:=HS.b.st;have HS3:=j0 (HS.put3 (by decide) (by decide) hin);clear HS;clear hI hall
      go_simp
      exact⟨rfl,HS3.out⟩
     refine Reg.oS (fun listed A X hI hin hun hall HS=> ?_) ?_
     ·have e5:=hI.wo 5 rfl;have e58:A.tmps[58]? =some (.agg #[.int .i64 ((k:Int)+2),.int .i64 0]):=hI.v hall 3 58;obtain⟨⟨u0,u1⟩,⟨v0,v1⟩,hu⟩:=HS.b.en;have HS3:=j0 (HS.put4 (by decide) (by decide) hin);clear HS;clear hI hall
      go_simp
      exact⟨rfl,HS3.out⟩
     trivial
    ·intro W9 hS;have hst:OwnSet W9 w.heap.size t:=hS.b.st;have hen:je W9 b1 ((k:Int)+2) 0:=hS.b.en;have HB9:=j0 hS.b.bel;obtain⟨⟨q0,q1,q2,q3⟩,_,_⟩:=hst;obtain⟨⟨m0,m1⟩,_,_⟩:=hen;clear hS HE SM;simp [Reg.finalTmps,Reg.dstAt,Reg.valOf,qD]
     go_wp2_with fail
     refine bodyPost_ret (v:=.tuple #[.agg #[.int .u64 t.a,.int .u64 t.b,.int .u64 t.c,.int .u64 t.d],.agg #[.int .i64 ((k:Int)+2),.int .i64 0]]) (by simp [results,Tryz.results138,go_sem,q0,q1,q2,q3,m0,m1]) rfl ⟨by rw [HF.out];simp [kC];try omega,HB9.out⟩
   ·by_cases h116:c=116
    ·subst h116;have HF:Hid (kX s k=(jh 9,0,k+1+1)):=j0 (by rw [HESC.out,if_neg (by decide),if_neg (by decide),show kq 116=(jh 9,true) from rfl];rfl);have SM:Hid (∀X,jE X w1.heap.size [(9,9)]->Calls Tryz.prog 140 #[.slice (some ⟨w1.heap.size,0,none⟩) 1 1,.bool false] X fun e w'=>e=.returned (.agg #[.int .u64 (jh 9).a,.int .u64 (jh 9).b,.int .u64 (jh 9).c,.int .u64 (jh 9).d])/\Below X.heap.size X w'):=j0 (fun X hX=>jY w1.heap.size 1 1 [(9,9)] false (jh 9) (kz 9) (fun m hm=>by rw [oneW_mem 9 m (by omega) hm];simp) rfl (by omega) X hX);generalize jh 9=t at*;clear HESC IN1 IN2 hth
     go_wp2_with fail
     refine Reg.wp_region_S (qD 9 w1.heap.size t ((k:Int)+2)) (ym w b1 b6 w1.heap.size [(9,9)] t ((k:Int)+2) 4 5) [0,1,2,3,4,5] (by rfl) (by kernel_rfl) (by kernel_rfl) ?_ ?_ ?_
     ·exact⟨⟨HE.out.st.drewN 1,⟨HE.out.en.at_,HE.out.en.free,HE.out.en.lt⟩,⟨HE.out.fin.at_,HE.out.fin.free,HE.out.fin.lt⟩,HE.out.ne,⟨HNE.out.1,HNE.out.2.1⟩,⟨HE.out.bel.os,HE.out.bel.tape,HE.out.bel.output,HE.out.bel.size,HE.out.bel.block⟩⟩,(fun e=>by simp at e),fun _=>rfl,HNF.out⟩
     ·refine Reg.oS (fun listed A X hI hin hun hall HS=> ?_) ?_
      ·clear hI hall
       go_simp
       exact⟨rfl,HS.same (by decide) (by decide) (by decide)⟩
      refine Reg.oS (fun listed A X hI hin hun hall HS=> ?_) ?_
      ·have e62:A.tmps[62]? =some (.agg #[.int .i64 9,.int .i64 9]):=hI.v hall 0 62;have hsz:=HS.no hun;have HMK:=j0 (HS.make hun hin (by decide) (by decide) (arr:= #[.int .i64 9,.int .i64 9]) (ty:=183) (ze rfl rfl));clear hI hall
       go_simp
       exact⟨by simp [qD],HMK.out⟩
      refine Reg.oS (fun listed A X hI hin hun hall HS=> ?_) ?_
      ·have e63:A.tmps[63]? =some (.slice (some ⟨w1.heap.size,0,none⟩) 1 1):=hI.v hall 1 63;have hl1:=hall ⟨1,.data⟩ (by simp) rfl;clear hI hall
       go_simp
       exact(SM.out _ (HS.yes hl1)).mono fun e w'' ⟨he,hb⟩=>⟨_,he,rfl,HS.call hl1 (by decide) (by decide) (by decide) hb⟩
      refine Reg.oS (fun listed A X hI hin hun hall HS=> ?_) ?_
      ·have e11:=hI.wo 11 rfl;obtain⟨⟨z0,z1⟩,⟨l0,l1⟩,hz⟩:=HS.b.fin;clear hI hall
       go_simp
       exact⟨rfl,HS.same (by decide) (by decide) (by decide)⟩
      refine Reg.oS (fun listed A X hI hin hun hall HS=> ?_) ?_
      ·have e4:=hI.wo 4 rfl;have e64:A.tmps[64]? =some (.agg #[.int .u64 t.a,.int .u64 t.b,.int .u64 t.c,.int .u64 t.d]):=hI.v hall 2 64;obtain⟨⟨u0,u1,u2,u3⟩,⟨v0,v1,v2,v3⟩,hu⟩:=HS.b.st;have HS3:=j0 (HS.put3 (by decide) (by decide) hin);clear HS;clear hI hall
       go_simp
       exact⟨rfl,HS3.out⟩
      refine Reg.oS (fun listed A X hI hin hun hall HS=> ?_) ?_
      ·have e5:=hI.wo 5 rfl;have e65:A.tmps[65]? =some (.agg #[.int .i64 ((k:Int)+2),.int .i64 0]):=hI.v hall 3 65;obtain⟨⟨u0,u1⟩,⟨v0,v1⟩,hu⟩:=HS.b.en;have HS3:=j0 (HS.put4 (by decide) (by decide) hin);clear HS;clear hI hall
       go_simp
       exact⟨rfl,HS3.out⟩
      trivial
     ·intro W9 hS;have hst:OwnSet W9 w.heap.size t:=hS.b.st;have hen:je W9 b1 ((k:Int)+2) 0:=hS.b.en;have HB9:=j0 hS.b.bel;obtain⟨⟨q0,q1,q2,q3⟩,_,_⟩:=hst;obtain⟨⟨m0,m1⟩,_,_⟩:=hen;clear hS HE SM;simp [Reg.finalTmps,Reg.dstAt,Reg.valOf,qD]
      go_wp2_with fail
      refine bodyPost_ret (v:=.tuple #[.agg #[.int .u64 t.a,.int .u64 t.b,.int .u64 t.c,.int .u64 t.d],.agg #[.int .i64 ((k:Int)+2),.int .i64 0]]) (by simp [results,Tryz.results138,go_sem,q0,q1,q2,q3,m0,m1]) rfl ⟨by rw [HF.out];simp [kC];try omega,HB9.out⟩
    ·by_cases h114:c=114
     ·subst h114;have HF:Hid (kX s k=(jh 13,0,k+1+1)):=j0 (by rw [HESC.out,if_neg (by decide),if_neg (by decide),show kq 114=(jh 13,true) from rfl];rfl);have SM:Hid (∀X,jE X w1.heap.size [(13,13)]->Calls Tryz.prog 140 #[.slice (some ⟨w1.heap.size,0,none⟩) 1 1,.bool false] X fun e w'=>e=.returned (.agg #[.int .u64 (jh 13).a,.int .u64 (jh 13).b,.int .u64 (jh 13).c,.int .u64 (jh 13).d])/\Below X.heap.size X w'):=j0 (fun X hX=>jY w1.heap.size 1 1 [(13,13)] false (jh 13) (kz 13) (fun m hm=>by rw [oneW_mem 13 m (by omega) hm];simp) rfl (by omega) X hX);generalize jh 13=t at*;clear HESC IN1 IN2 hth
      go_wp2_with fail
      refine Reg.wp_region_S (qD 13 w1.heap.size t ((k:Int)+2)) (ym w b1 b6 w1.heap.size [(13,13)] t ((k:Int)+2) 4 5) [0,1,2,3,4,5] (by rfl) (by kernel_rfl) (by kernel_rfl) ?_ ?_ ?_
      ·exact⟨⟨HE.out.st.drewN 1,⟨HE.out.en.at_,HE.out.en.free,HE.out.en.lt⟩,⟨HE.out.fin.at_,HE.out.fin.free,HE.out.fin.lt⟩,HE.out.ne,⟨HNE.out.1,HNE.out.2.1⟩,⟨HE.out.bel.os,HE.out.bel.tape,HE.out.bel.output,HE.out.bel.size,HE.out.bel.block⟩⟩,(fun e=>by simp at e),fun _=>rfl,HNF.out⟩
      ·refine Reg.oS (fun listed A X hI hin hun hall HS=> ?_) ?_
       ·clear hI hall
        go_simp
        exact⟨rfl,HS.same (by decide) (by decide) (by decide)⟩
       refine Reg.oS (fun listed A X hI hin hun hall HS=> ?_) ?_
       ·have e69:A.tmps[69]? =some (.agg #[.int .i64 13,.int .i64 13]):=hI.v hall 0 69;have hsz:=HS.no hun;have HMK:=j0 (HS.make hun hin (by decide) (by decide) (arr:= #[.int .i64 13,.int .i64 13]) (ty:=183) (ze rfl rfl));clear hI hall
        go_simp
        exact⟨by simp [qD],HMK.out⟩
       refine Reg.oS (fun listed A X hI hin hun hall HS=> ?_) ?_
       ·have e70:A.tmps[70]? =some (.slice (some ⟨w1.heap.size,0,none⟩) 1 1):=hI.v hall 1 70;have hl1:=hall ⟨1,.data⟩ (by simp) rfl;clear hI hall
        go_simp
        exact(SM.out _ (HS.yes hl1)).mono fun e w'' ⟨he,hb⟩=>⟨_,he,rfl,HS.call hl1 (by decide) (by decide) (by decide) hb⟩
       refine Reg.oS (fun listed A X hI hin hun hall HS=> ?_) ?_
       ·have e11:=hI.wo 11 rfl;obtain⟨⟨z0,z1⟩,⟨l0,l1⟩,hz⟩:=HS.b.fin;clear hI hall
        go_simp
        exact⟨rfl,HS.same (by decide) (by decide) (by decide)⟩
       refine Reg.oS (fun listed A X hI hin hun hall HS=> ?_) ?_
       ·have e4:=hI.wo 4 rfl;have e71:A.tmps[71]? =some (.agg #[.int .u64 t.a,.int .u64 t.b,.int .u64 t.c,.int .u64 t.d]):=hI.v hall 2 71;obtain⟨⟨u0,u1,u2,u3⟩,⟨v0,v1,v2,v3⟩,hu⟩:=HS.b.st;have HS3:=j0 (HS.put3 (by decide) (by decide) hin);clear HS;clear hI hall
        go_simp
        exact⟨rfl,HS3.out⟩
       refine Reg.oS (fun listed A X hI hin hun hall HS=> ?_) ?_
       ·have e5:=hI.wo 5 rfl;have e72:A.tmps[72]? =some (.agg #[.int .i64 ((k:Int)+2),.int .i64 0]):=hI.v hall 3 72;obtain⟨⟨u0,u1⟩,⟨v0,v1⟩,hu⟩:=HS.b.en;have HS3:=j0 (HS.put4 (by decide) (by decide) hin);clear HS;clear hI hall
        go_simp
        exact⟨rfl,HS3.out⟩
       trivial
      ·intro W9 hS;have hst:OwnSet W9 w.heap.size t:=hS.b.st;have hen:je W9 b1 ((k:Int)+2) 0:=hS.b.en;have HB9:=j0 hS.b.bel;obtain⟨⟨q0,q1,q2,q3⟩,_,_⟩:=hst;obtain⟨⟨m0,m1⟩,_,_⟩:=hen;clear hS HE SM;simp [Reg.finalTmps,Reg.dstAt,Reg.valOf,qD]
       go_wp2_with fail
       refine bodyPost_ret (v:=.tuple #[.agg #[.int .u64 t.a,.int .u64 t.b,.int .u64 t.c,.int .u64 t.d],.agg #[.int .i64 ((k:Int)+2),.int .i64 0]]) (by simp [results,Tryz.results138,go_sem,q0,q1,q2,q3,m0,m1]) rfl ⟨by rw [HF.out];simp [kC];try omega,HB9.out⟩
     ·by_cases h102:c=102
      ·subst h102;have HF:Hid (kX s k=(jh 12,0,k+1+1)):=j0 (by rw [HESC.out,if_neg (by decide),if_neg (by decide),show kq 102=(jh 12,true) from rfl];rfl);have SM:Hid (∀X,jE X w1.heap.size [(12,12)]->Calls Tryz.prog 140 #[.slice (some ⟨w1.heap.size,0,none⟩) 1 1,.bool false] X fun e w'=>e=.returned (.agg #[.int .u64 (jh 12).a,.int .u64 (jh 12).b,.int .u64 (jh 12).c,.int .u64 (jh 12).d])/\Below X.heap.size X w'):=j0 (fun X hX=>jY w1.heap.size 1 1 [(12,12)] false (jh 12) (kz 12) (fun m hm=>by rw [oneW_mem 12 m (by omega) hm];simp) rfl (by omega) X hX);generalize jh 12=t at*;clear HESC IN1 IN2 hth
       go_wp2_with fail
       refine Reg.wp_region_S (qD 12 w1.heap.size t ((k:Int)+2)) (ym w b1 b6 w1.heap.size [(12,12)] t ((k:Int)+2) 4 5) [0,1,2,3,4,5] (by rfl) (by kernel_rfl) (by kernel_rfl) ?_ ?_ ?_
       ·exact⟨⟨HE.out.st.drewN 1,⟨HE.out.en.at_,HE.out.en.free,HE.out.en.lt⟩,⟨HE.out.fin.at_,HE.out.fin.free,HE.out.fin.lt⟩,HE.out.ne,⟨HNE.out.1,HNE.out.2.1⟩,⟨HE.out.bel.os,HE.out.bel.tape,HE.out.bel.output,HE.out.bel.size,HE.out.bel.block⟩⟩,(fun e=>by simp at e),fun _=>rfl,HNF.out⟩
       ·refine Reg.oS (fun listed A X hI hin hun hall HS=> ?_) ?_
        ·clear hI hall
         go_simp
         exact⟨rfl,HS.same (by decide) (by decide) (by decide)⟩
        refine Reg.oS (fun listed A X hI hin hun hall HS=> ?_) ?_
        ·have e76:A.tmps[76]? =some (.agg #[.int .i64 12,.int .i64 12]):=hI.v hall 0 76;have hsz:=HS.no hun;have HMK:=j0 (HS.make hun hin (by decide) (by decide) (arr:= #[.int .i64 12,.int .i64 12]) (ty:=183) (ze rfl rfl));clear hI hall
         go_simp
         exact⟨by simp [qD],HMK.out⟩
        refine Reg.oS (fun listed A X hI hin hun hall HS=> ?_) ?_
        ·have e77:A.tmps[77]? =some (.slice (some ⟨w1.heap.size,0,none⟩) 1 1):=hI.v hall 1 77;have hl1:=hall ⟨1,.data⟩ (by simp) rfl;clear hI hall
         go_simp
         exact(SM.out _ (HS.yes hl1)).mono fun e w'' ⟨he,hb⟩=>⟨_,he,rfl,HS.call hl1 (by decide) (by decide) (by decide) hb⟩
        refine Reg.oS (fun listed A X hI hin hun hall HS=> ?_) ?_
        ·have e11:=hI.wo 11 rfl;obtain⟨⟨z0,z1⟩,⟨l0,l1⟩,hz⟩:=HS.b.fin;clear hI hall
         go_simp
         exact⟨rfl,HS.same (by decide) (by decide) (by decide)⟩
        refine Reg.oS (fun listed A X hI hin hun hall HS=> ?_) ?_
        ·have e4:=hI.wo 4 rfl;have e78:A.tmps[78]? =some (.agg #[.int .u64 t.a,.int .u64 t.b,.int .u64 t.c,.int .u64 t.d]):=hI.v hall 2 78;obtain⟨⟨u0,u1,u2,u3⟩,⟨v0,v1,v2,v3⟩,hu⟩:=HS.b.st;have HS3:=j0 (HS.put3 (by decide) (by decide) hin);clear HS;clear hI hall
         go_simp
         exact⟨rfl,HS3.out⟩
        refine Reg.oS (fun listed A X hI hin hun hall HS=> ?_) ?_
        ·have e5:=hI.wo 5 rfl;have e79:A.tmps[79]? =some (.agg #[.int .i64 ((k:Int)+2),.int .i64 0]):=hI.v hall 3 79;obtain⟨⟨u0,u1⟩,⟨v0,v1⟩,hu⟩:=HS.b.en;have HS3:=j0 (HS.put4 (by decide) (by decide) hin);clear HS;clear hI hall
         go_simp
         exact⟨rfl,HS3.out⟩
        trivial
       ·intro W9 hS;have hst:OwnSet W9 w.heap.size t:=hS.b.st;have hen:je W9 b1 ((k:Int)+2) 0:=hS.b.en;have HB9:=j0 hS.b.bel;obtain⟨⟨q0,q1,q2,q3⟩,_,_⟩:=hst;obtain⟨⟨m0,m1⟩,_,_⟩:=hen;clear hS HE SM;simp [Reg.finalTmps,Reg.dstAt,Reg.valOf,qD]
        go_wp2_with fail
        refine bodyPost_ret (v:=.tuple #[.agg #[.int .u64 t.a,.int .u64 t.b,.int .u64 t.c,.int .u64 t.d],.agg #[.int .i64 ((k:Int)+2),.int .i64 0]]) (by simp [results,Tryz.results138,go_sem,q0,q1,q2,q3,m0,m1]) rfl ⟨by rw [HF.out];simp [kC];try omega,HB9.out⟩
      ·by_cases h118:c=118
       ·subst h118;have HF:Hid (kX s k=(jh 11,0,k+1+1)):=j0 (by rw [HESC.out,if_neg (by decide),if_neg (by decide),show kq 118=(jh 11,true) from rfl];rfl);have SM:Hid (∀X,jE X w1.heap.size [(11,11)]->Calls Tryz.prog 140 #[.slice (some ⟨w1.heap.size,0,none⟩) 1 1,.bool false] X fun e w'=>e=.returned (.agg #[.int .u64 (jh 11).a,.int .u64 (jh 11).b,.int .u64 (jh 11).c,.int .u64 (jh 11).d])/\Below X.heap.size X w'):=j0 (fun X hX=>jY w1.heap.size 1 1 [(11,11)] false (jh 11) (kz 11) (fun m hm=>by rw [oneW_mem 11 m (by omega) hm];simp) rfl (by omega) X hX);generalize jh 11=t at*;clear HESC IN1 IN2 hth
        go_wp2_with fail
        refine Reg.wp_region_S (qD 11 w1.heap.size t ((k:Int)+2)) (ym w b1 b6 w1.heap.size [(11,11)] t ((k:Int)+2) 4 5) [0,1,2,3,4,5] (by rfl) (by kernel_rfl) (by kernel_rfl) ?_ ?_ ?_
        ·exact⟨⟨HE.out.st.drewN 1,⟨HE.out.en.at_,HE.out.en.free,HE.out.en.lt⟩,⟨HE.out.fin.at_,HE.out.fin.free,HE.out.fin.lt⟩,HE.out.ne,⟨HNE.out.1,HNE.out.2.1⟩,⟨HE.out.bel.os,HE.out.bel.tape,HE.out.bel.output,HE.out.bel.size,HE.out.bel.block⟩⟩,(fun e=>by simp at e),fun _=>rfl,HNF.out⟩
        ·refine Reg.oS (fun listed A X hI hin hun hall HS=> ?_) ?_
         ·clear hI hall
          go_simp
          exact⟨rfl,HS.same (by decide) (by decide) (by decide)⟩
         refine Reg.oS (fun listed A X hI hin hun hall HS=> ?_) ?_
         ·have e83:A.tmps[83]? =some (.agg #[.int .i64 11,.int .i64 11]):=hI.v hall 0 83;have hsz:=HS.no hun;have HMK:=j0 (HS.make hun hin (by decide) (by decide) (arr:= #[.int .i64 11,.int .i64 11]) (ty:=183) (ze rfl rfl));clear hI hall
          go_simp
          exact⟨by simp [qD],HMK.out⟩
         refine Reg.oS (fun listed A X hI hin hun hall HS=> ?_) ?_
         ·have e84:A.tmps[84]? =some (.slice (some ⟨w1.heap.size,0,none⟩) 1 1):=hI.v hall 1 84;have hl1:=hall ⟨1,.data⟩ (by simp) rfl;clear hI hall
          go_simp
          exact(SM.out _ (HS.yes hl1)).mono fun e w'' ⟨he,hb⟩=>⟨_,he,rfl,HS.call hl1 (by decide) (by decide) (by decide) hb⟩
         refine Reg.oS (fun listed A X hI hin hun hall HS=> ?_) ?_
         ·have e11:=hI.wo 11 rfl;obtain⟨⟨z0,z1⟩,⟨l0,l1⟩,hz⟩:=HS.b.fin;clear hI hall
          go_simp
          exact⟨rfl,HS.same (by decide) (by decide) (by decide)⟩
         refine Reg.oS (fun listed A X hI hin hun hall HS=> ?_) ?_
         ·have e4:=hI.wo 4 rfl;have e85:A.tmps[85]? =some (.agg #[.int .u64 t.a,.int .u64 t.b,.int .u64 t.c,.int .u64 t.d]):=hI.v hall 2 85;obtain⟨⟨u0,u1,u2,u3⟩,⟨v0,v1,v2,v3⟩,hu⟩:=HS.b.st;have HS3:=j0 (HS.put3 (by decide) (by decide) hin);clear HS;clear hI hall
          go_simp
          exact⟨rfl,HS3.out⟩
         refine Reg.oS (fun listed A X hI hin hun hall HS=> ?_) ?_
         ·have e5:=hI.wo 5 rfl;have e86:A.tmps[86]? =some (.agg #[.int .i64 ((k:Int)+2),.int .i64 0]):=hI.v hall 3 86;obtain⟨⟨u0,u1⟩,⟨v0,v1⟩,hu⟩:=HS.b.en;have HS3:=j0 (HS.put4 (by decide) (by decide) hin);clear HS;clear hI hall
          go_simp
          exact⟨rfl,HS3.out⟩
         trivial
        ·intro W9 hS;have hst:OwnSet W9 w.heap.size t:=hS.b.st;have hen:je W9 b1 ((k:Int)+2) 0:=hS.b.en;have HB9:=j0 hS.b.bel;obtain⟨⟨q0,q1,q2,q3⟩,_,_⟩:=hst;obtain⟨⟨m0,m1⟩,_,_⟩:=hen;clear hS HE SM;simp [Reg.finalTmps,Reg.dstAt,Reg.valOf,qD]
         go_wp2_with fail
         refine bodyPost_ret (v:=.tuple #[.agg #[.int .u64 t.a,.int .u64 t.b,.int .u64 t.c,.int .u64 t.d],.agg #[.int .i64 ((k:Int)+2),.int .i64 0]]) (by simp [results,Tryz.results138,go_sem,q0,q1,q2,q3,m0,m1]) rfl ⟨by rw [HF.out];simp [kC];try omega,HB9.out⟩
       ·by_cases h100:c=100
        ·subst h100;have HF:Hid (kX s k=(xM,0,k+1+1)):=j0 (by rw [HESC.out,if_neg (by decide),if_neg (by decide),show kq 100=(xM,true) from rfl];rfl);have SM:Hid (∀X,jE X b3 [(48,57)]->Calls Tryz.prog 140 #[.slice (some ⟨b3,0,none⟩) 1 1,.bool false] X fun e w'=>e=.returned (.agg #[.int .u64 (xM).a,.int .u64 (xM).b,.int .u64 (xM).c,.int .u64 (xM).d])/\Below X.heap.size X w'):=j0 (fun X hX=>jY b3 1 1 [(48,57)] false (xM) (XQ) (fun m hm=>by rw [ZV ⟨m,hm⟩];simp) rfl (by omega) X hX);generalize xM=t at*;have HNC:=HN3;clear HESC IN1 IN2 hth
         go_wp2_with fail
         refine Reg.wp_region_S (qg b3 1 100 false t ((k:Int)+2)) (zR w b1 b6 b3 [(48,57)] t ((k:Int)+2) 5 6) [0,1,2,3,4,5,6] (by rfl) (by kernel_rfl) (by kernel_rfl) ?_ ?_ ?_
         ·exact⟨⟨HE.out.st.drewN 1,⟨HE.out.en.at_,HE.out.en.free,HE.out.en.lt⟩,⟨HE.out.fin.at_,HE.out.fin.free,HE.out.fin.lt⟩,HE.out.ne,⟨HNE.out.1,HNE.out.2.1⟩,⟨HE.out.bel.os,HE.out.bel.tape,HE.out.bel.output,HE.out.bel.size,HE.out.bel.block⟩⟩,⟨HE.out.dig.1,HE.out.dig.2⟩,HNC.out⟩
         ·iterate 3
           refine Reg.oS (fun listed A X hI hin hun hall HS=> ?_) ?_
           ·have E:=hI.tf hun hall Yd;simp only [Reg.TF,Yd,qg,Reg.la,Reg.lb,Reg.lc] at E;clear hI hall
            go_simp
            exact⟨rfl,HS.same (by decide) (by decide) (Below.refl _ _)⟩
          refine Reg.oS (fun listed A X hI hin hun hall HS=> ?_) ?_
          ·have e94:A.tmps[94]? =some (.slice (some ⟨b3,0,none⟩) 1 1):=hI.v hall 0 94;have e96:A.tmps[96]? =some (.bool false):=hI.v hall 2 96;clear hI hall
           go_simp
           exact(SM.out _ HS.prs).mono fun e w'' ⟨he,hb⟩=>⟨_,he,rfl,HS.same (by decide) (by decide) hb⟩
          refine Reg.oS (fun listed A X hI hin hun hall HS=> ?_) ?_
          ·have e11:=hI.wo 11 rfl;obtain⟨⟨z0,z1⟩,⟨l0,l1⟩,hz⟩:=HS.b.fin;clear hI hall
           go_simp
           exact⟨rfl,HS.same (by decide) (by decide) (Below.refl _ _)⟩
          refine Reg.oS (fun listed A X hI hin hun hall HS=> ?_) ?_
          ·have e4:=hI.wo 4 rfl;have e97:A.tmps[97]? =some (.agg #[.int .u64 t.a,.int .u64 t.b,.int .u64 t.c,.int .u64 t.d]):=hI.v hall 3 97;obtain⟨⟨u0,u1,u2,u3⟩,⟨v0,v1,v2,v3⟩,hu⟩:=HS.b.st;have HS3:=j0 (HS.put3 (by decide) hin);clear HS;clear hI hall
           go_simp
           exact⟨rfl,HS3.out⟩
          refine Reg.oS (fun listed A X hI hin hun hall HS=> ?_) ?_
          ·have e5:=hI.wo 5 rfl;have e98:A.tmps[98]? =some (.agg #[.int .i64 ((k:Int)+2),.int .i64 0]):=hI.v hall 4 98;obtain⟨⟨u0,u1⟩,⟨v0,v1⟩,hu⟩:=HS.b.en;have HS3:=j0 (HS.put4 (by decide) hin);clear HS;clear hI hall
           go_simp
           exact⟨rfl,HS3.out⟩
          trivial
         ·intro W9 hS;have hst:OwnSet W9 w.heap.size t:=hS.b.st;have hen:je W9 b1 ((k:Int)+2) 0:=hS.b.en;have HB9:=j0 hS.b.bel;obtain⟨⟨q0,q1,q2,q3⟩,_,_⟩:=hst;obtain⟨⟨m0,m1⟩,_,_⟩:=hen;clear hS HE SM;simp [Reg.finalTmps,Reg.dstAt,Reg.valOf,qg]
          go_wp2_with fail
          refine bodyPost_ret (v:=.tuple #[.agg #[.int .u64 t.a,.int .u64 t.b,.int .u64 t.c,.int .u64 t.d],.agg #[.int .i64 ((k:Int)+2),.int .i64 0]]) (by simp [results,Tryz.results138,go_sem,q0,q1,q2,q3,m0,m1]) rfl ⟨by rw [HF.out];simp [kC];try omega,HB9.out⟩
        ·by_cases h68:c=68
         ·subst h68;have HF:Hid (kX s k=(km xM,0,k+1+1)):=j0 (by rw [HESC.out,if_neg (by decide),if_neg (by decide),show kq 68=(km xM,true) from rfl];rfl);have SM:Hid (∀X,jE X b3 [(48,57)]->Calls Tryz.prog 140 #[.slice (some ⟨b3,0,none⟩) 1 1,.bool true] X fun e w'=>e=.returned (.agg #[.int .u64 (km xM).a,.int .u64 (km xM).b,.int .u64 (km xM).c,.int .u64 (km xM).d])/\Below X.heap.size X w'):=j0 (fun X hX=>jY b3 1 1 [(48,57)] true (km xM) (notW_fit _) (fun m hm=>by rw [zi,ZV ⟨m,hm⟩];simp) rfl (by omega) X hX);generalize km xM=t at*;have HNC:=HN3;clear HESC IN1 IN2 hth
          go_wp2_with fail
          refine Reg.wp_region_S (qg b3 1 68 true t ((k:Int)+2)) (zR w b1 b6 b3 [(48,57)] t ((k:Int)+2) 5 6) [0,1,2,3,4,5,6] (by rfl) (by kernel_rfl) (by kernel_rfl) ?_ ?_ ?_
          ·exact⟨⟨HE.out.st.drewN 1,⟨HE.out.en.at_,HE.out.en.free,HE.out.en.lt⟩,⟨HE.out.fin.at_,HE.out.fin.free,HE.out.fin.lt⟩,HE.out.ne,⟨HNE.out.1,HNE.out.2.1⟩,⟨HE.out.bel.os,HE.out.bel.tape,HE.out.bel.output,HE.out.bel.size,HE.out.bel.block⟩⟩,⟨HE.out.dig.1,HE.out.dig.2⟩,HNC.out⟩
          ·iterate 3
            refine Reg.oS (fun listed A X hI hin hun hall HS=> ?_) ?_
            ·have E:=hI.tf hun hall Yc;simp only [Reg.TF,Yc,qg,Reg.la,Reg.lb,Reg.lc] at E;clear hI hall
             go_simp
             exact⟨rfl,HS.same (by decide) (by decide) (Below.refl _ _)⟩
           refine Reg.oS (fun listed A X hI hin hun hall HS=> ?_) ?_
           ·have e94:A.tmps[94]? =some (.slice (some ⟨b3,0,none⟩) 1 1):=hI.v hall 0 94;have e96:A.tmps[96]? =some (.bool true):=hI.v hall 2 96;clear hI hall
            go_simp
            exact(SM.out _ HS.prs).mono fun e w'' ⟨he,hb⟩=>⟨_,he,rfl,HS.same (by decide) (by decide) hb⟩
           refine Reg.oS (fun listed A X hI hin hun hall HS=> ?_) ?_
           ·have e11:=hI.wo 11 rfl;obtain⟨⟨z0,z1⟩,⟨l0,l1⟩,hz⟩:=HS.b.fin;clear hI hall
            go_simp
            exact⟨rfl,HS.same (by decide) (by decide) (Below.refl _ _)⟩
           refine Reg.oS (fun listed A X hI hin hun hall HS=> ?_) ?_
           ·have e4:=hI.wo 4 rfl;have e97:A.tmps[97]? =some (.agg #[.int .u64 t.a,.int .u64 t.b,.int .u64 t.c,.int .u64 t.d]):=hI.v hall 3 97;obtain⟨⟨u0,u1,u2,u3⟩,⟨v0,v1,v2,v3⟩,hu⟩:=HS.b.st;have HS3:=j0 (HS.put3 (by decide) hin);clear HS;clear hI hall
            go_simp
            exact⟨rfl,HS3.out⟩
           refine Reg.oS (fun listed A X hI hin hun hall HS=> ?_) ?_
           ·have e5:=hI.wo 5 rfl;have e98:A.tmps[98]? =some (.agg #[.int .i64 ((k:Int)+2),.int .i64 0]):=hI.v hall 4 98;obtain⟨⟨u0,u1⟩,⟨v0,v1⟩,hu⟩:=HS.b.en;have HS3:=j0 (HS.put4 (by decide) hin);clear HS;clear hI hall
            go_simp
            exact⟨rfl,HS3.out⟩
           trivial
          ·intro W9 hS;have hst:OwnSet W9 w.heap.size t:=hS.b.st;have hen:je W9 b1 ((k:Int)+2) 0:=hS.b.en;have HB9:=j0 hS.b.bel;obtain⟨⟨q0,q1,q2,q3⟩,_,_⟩:=hst;obtain⟨⟨m0,m1⟩,_,_⟩:=hen;clear hS HE SM;simp [Reg.finalTmps,Reg.dstAt,Reg.valOf,qg]
           go_wp2_with fail
           refine bodyPost_ret (v:=.tuple #[.agg #[.int .u64 t.a,.int .u64 t.b,.int .u64 t.c,.int .u64 t.d],.agg #[.int .i64 ((k:Int)+2),.int .i64 0]]) (by simp [results,Tryz.results138,go_sem,q0,q1,q2,q3,m0,m1]) rfl ⟨by rw [HF.out];simp [kC];try omega,HB9.out⟩
         ·by_cases h119:c=119
          ·subst h119;have HF:Hid (kX s k=(wordW,0,k+1+1)):=j0 (by rw [HESC.out,if_neg (by decide),if_neg (by decide),show kq 119=(wordW,true) from rfl];rfl);have SM:Hid (∀X,jE X b4 [(48,57),(97,122),(65,90),(95,95)]->Calls Tryz.prog 140 #[.slice (some ⟨b4,0,none⟩) 4 4,.bool false] X fun e w'=>e=.returned (.agg #[.int .u64 (wordW).a,.int .u64 (wordW).b,.int .u64 (wordW).c,.int .u64 (wordW).d])/\Below X.heap.size X w'):=j0 (fun X hX=>jY b4 4 4 [(48,57),(97,122),(65,90),(95,95)] false (wordW) (VN _ _ _) (fun m hm=>by rw [VL ⟨m,hm⟩];simp) rfl (by omega) X hX);generalize wordW=t at*;have HNC:=HN4;clear HESC IN1 IN2 hth
           go_wp2_with fail
           refine Reg.wp_region_S (qg b4 4 119 false t ((k:Int)+2)) (zR w b1 b6 b4 [(48,57),(97,122),(65,90),(95,95)] t ((k:Int)+2) 5 6) [0,1,2,3,4,5,6] (by rfl) (by kernel_rfl) (by kernel_rfl) ?_ ?_ ?_
           ·exact⟨⟨HE.out.st.drewN 1,⟨HE.out.en.at_,HE.out.en.free,HE.out.en.lt⟩,⟨HE.out.fin.at_,HE.out.fin.free,HE.out.fin.lt⟩,HE.out.ne,⟨HNE.out.1,HNE.out.2.1⟩,⟨HE.out.bel.os,HE.out.bel.tape,HE.out.bel.output,HE.out.bel.size,HE.out.bel.block⟩⟩,⟨HE.out.wrd.1,HE.out.wrd.2⟩,HNC.out⟩
           ·iterate 3
             refine Reg.oS (fun listed A X hI hin hun hall HS=> ?_) ?_
             ·have E:=hI.tf hun hall Yb;simp only [Reg.TF,Yb,qg,Reg.la,Reg.lb,Reg.lc] at E;clear hI hall
              go_simp
              exact⟨rfl,HS.same (by decide) (by decide) (Below.refl _ _)⟩
            refine Reg.oS (fun listed A X hI hin hun hall HS=> ?_) ?_
            ·have e106:A.tmps[106]? =some (.slice (some ⟨b4,0,none⟩) 4 4):=hI.v hall 0 106;have e108:A.tmps[108]? =some (.bool false):=hI.v hall 2 108;clear hI hall
             go_simp
             exact(SM.out _ HS.prs).mono fun e w'' ⟨he,hb⟩=>⟨_,he,rfl,HS.same (by decide) (by decide) hb⟩
            refine Reg.oS (fun listed A X hI hin hun hall HS=> ?_) ?_
            ·have e11:=hI.wo 11 rfl;obtain⟨⟨z0,z1⟩,⟨l0,l1⟩,hz⟩:=HS.b.fin;clear hI hall
             go_simp
             exact⟨rfl,HS.same (by decide) (by decide) (Below.refl _ _)⟩
            refine Reg.oS (fun listed A X hI hin hun hall HS=> ?_) ?_
            ·have e4:=hI.wo 4 rfl;have e109:A.tmps[109]? =some (.agg #[.int .u64 t.a,.int .u64 t.b,.int .u64 t.c,.int .u64 t.d]):=hI.v hall 3 109;obtain⟨⟨u0,u1,u2,u3⟩,⟨v0,v1,v2,v3⟩,hu⟩:=HS.b.st;have HS3:=j0 (HS.put3 (by decide) hin);clear HS;clear hI hall
             go_simp
             exact⟨rfl,HS3.out⟩
            refine Reg.oS (fun listed A X hI hin hun hall HS=> ?_) ?_
            ·have e5:=hI.wo 5 rfl;have e110:A.tmps[110]? =some (.agg #[.int .i64 ((k:Int)+2),.int .i64 0]):=hI.v hall 4 110;obtain⟨⟨u0,u1⟩,⟨v0,v1⟩,hu⟩:=HS.b.en;have HS3:=j0 (HS.put4 (by decide) hin);clear HS;clear hI hall
             go_simp
             exact⟨rfl,HS3.out⟩
            trivial
           ·intro W9 hS;have hst:OwnSet W9 w.heap.size t:=hS.b.st;have hen:je W9 b1 ((k:Int)+2) 0:=hS.b.en;have HB9:=j0 hS.b.bel;obtain⟨⟨q0,q1,q2,q3⟩,_,_⟩:=hst;obtain⟨⟨m0,m1⟩,_,_⟩:=hen;clear hS HE SM;simp [Reg.finalTmps,Reg.dstAt,Reg.valOf,qg]
            go_wp2_with fail
            refine bodyPost_ret (v:=.tuple #[.agg #[.int .u64 t.a,.int .u64 t.b,.int .u64 t.c,.int .u64 t.d],.agg #[.int .i64 ((k:Int)+2),.int .i64 0]]) (by simp [results,Tryz.results138,go_sem,q0,q1,q2,q3,m0,m1]) rfl ⟨by rw [HF.out];simp [kC];try omega,HB9.out⟩
          ·by_cases h87:c=87
           ·subst h87;have HF:Hid (kX s k=(km wordW,0,k+1+1)):=j0 (by rw [HESC.out,if_neg (by decide),if_neg (by decide),show kq 87=(km wordW,true) from rfl];rfl);have SM:Hid (∀X,jE X b4 [(48,57),(97,122),(65,90),(95,95)]->Calls Tryz.prog 140 #[.slice (some ⟨b4,0,none⟩) 4 4,.bool true] X fun e w'=>e=.returned (.agg #[.int .u64 (km wordW).a,.int .u64 (km wordW).b,.int .u64 (km wordW).c,.int .u64 (km wordW).d])/\Below X.heap.size X w'):=j0 (fun X hX=>jY b4 4 4 [(48,57),(97,122),(65,90),(95,95)] true (km wordW) (notW_fit _) (fun m hm=>by rw [zi,VL ⟨m,hm⟩];simp) rfl (by omega) X hX);generalize km wordW=t at*;have HNC:=HN4;clear HESC IN1 IN2 hth
            go_wp2_with fail
            refine Reg.wp_region_S (qg b4 4 87 true t ((k:Int)+2)) (zR w b1 b6 b4 [(48,57),(97,122),(65,90),(95,95)] t ((k:Int)+2) 5 6) [0,1,2,3,4,5,6] (by rfl) (by kernel_rfl) (by kernel_rfl) ?_ ?_ ?_
            ·exact⟨⟨HE.out.st.drewN 1,⟨HE.out.en.at_,HE.out.en.free,HE.out.en.lt⟩,⟨HE.out.fin.at_,HE.out.fin.free,HE.out.fin.lt⟩,HE.out.ne,⟨HNE.out.1,HNE.out.2.1⟩,⟨HE.out.bel.os,HE.out.bel.tape,HE.out.bel.output,HE.out.bel.size,HE.out.bel.block⟩⟩,⟨HE.out.wrd.1,HE.out.wrd.2⟩,HNC.out⟩
            ·iterate 3
              refine Reg.oS (fun listed A X hI hin hun hall HS=> ?_) ?_
              ·have E:=hI.tf hun hall Ya;simp only [Reg.TF,Ya,qg,Reg.la,Reg.lb,Reg.lc] at E;clear hI hall
               go_simp
               exact⟨rfl,HS.same (by decide) (by decide) (Below.refl _ _)⟩
             refine Reg.oS (fun listed A X hI hin hun hall HS=> ?_) ?_
             ·have e106:A.tmps[106]? =some (.slice (some ⟨b4,0,none⟩) 4 4):=hI.v hall 0 106;have e108:A.tmps[108]? =some (.bool true):=hI.v hall 2 108;clear hI hall
              go_simp
              exact(SM.out _ HS.prs).mono fun e w'' ⟨he,hb⟩=>⟨_,he,rfl,HS.same (by decide) (by decide) hb⟩
             refine Reg.oS (fun listed A X hI hin hun hall HS=> ?_) ?_
             ·have e11:=hI.wo 11 rfl;obtain⟨⟨z0,z1⟩,⟨l0,l1⟩,hz⟩:=HS.b.fin;clear hI hall
              go_simp
              exact⟨rfl,HS.same (by decide) (by decide) (Below.refl _ _)⟩
             refine Reg.oS (fun listed A X hI hin hun hall HS=> ?_) ?_
             ·have e4:=hI.wo 4 rfl;have e109:A.tmps[109]? =some (.agg #[.int .u64 t.a,.int .u64 t.b,.int .u64 t.c,.int .u64 t.d]):=hI.v hall 3 109;obtain⟨⟨u0,u1,u2,u3⟩,⟨v0,v1,v2,v3⟩,hu⟩:=HS.b.st;have HS3:=j0 (HS.put3 (by decide) hin);clear HS;clear hI hall
              go_simp
              exact⟨rfl,HS3.out⟩
             refine Reg.oS (fun listed A X hI hin hun hall HS=> ?_) ?_
             ·have e5:=hI.wo 5 rfl;have e110:A.tmps[110]? =some (.agg #[.int .i64 ((k:Int)+2),.int .i64 0]):=hI.v hall 4 110;obtain⟨⟨u0,u1⟩,⟨v0,v1⟩,hu⟩:=HS.b.en;have HS3:=j0 (HS.put4 (by decide) hin);clear HS;clear hI hall
              go_simp
              exact⟨rfl,HS3.out⟩
             trivial
            ·intro W9 hS;have hst:OwnSet W9 w.heap.size t:=hS.b.st;have hen:je W9 b1 ((k:Int)+2) 0:=hS.b.en;have HB9:=j0 hS.b.bel;obtain⟨⟨q0,q1,q2,q3⟩,_,_⟩:=hst;obtain⟨⟨m0,m1⟩,_,_⟩:=hen;clear hS HE SM;simp [Reg.finalTmps,Reg.dstAt,Reg.valOf,qg]
             go_wp2_with fail
             refine bodyPost_ret (v:=.tuple #[.agg #[.int .u64 t.a,.int .u64 t.b,.int .u64 t.c,.int .u64 t.d],.agg #[.int .i64 ((k:Int)+2),.int .i64 0]]) (by simp [results,Tryz.results138,go_sem,q0,q1,q2,q3,m0,m1]) rfl ⟨by rw [HF.out];simp [kC];try omega,HB9.out⟩
           ·by_cases h115:c=115
            ·subst h115;have HF:Hid (kX s k=(qF,0,k+1+1)):=j0 (by rw [HESC.out,if_neg (by decide),if_neg (by decide),show kq 115=(qF,true) from rfl];rfl);have SM:Hid (∀X,jE X b5 [(9,13),(32,32)]->Calls Tryz.prog 140 #[.slice (some ⟨b5,0,none⟩) 2 2,.bool false] X fun e w'=>e=.returned (.agg #[.int .u64 (qF).a,.int .u64 (qF).b,.int .u64 (qF).c,.int .u64 (qF).d])/\Below X.heap.size X w'):=j0 (fun X hX=>jY b5 2 2 [(9,13),(32,32)] false (qF) (yS _ _) (fun m hm=>by rw [UE ⟨m,hm⟩];simp) rfl (by omega) X hX);generalize qF=t at*;have HNC:=HN5;clear HESC IN1 IN2 hth
             go_wp2_with fail
             refine Reg.wp_region_S (qg b5 2 115 false t ((k:Int)+2)) (zR w b1 b6 b5 [(9,13),(32,32)] t ((k:Int)+2) 5 6) [0,1,2,3,4,5,6] (by rfl) (by kernel_rfl) (by kernel_rfl) ?_ ?_ ?_
             ·exact⟨⟨HE.out.st.drewN 1,⟨HE.out.en.at_,HE.out.en.free,HE.out.en.lt⟩,⟨HE.out.fin.at_,HE.out.fin.free,HE.out.fin.lt⟩,HE.out.ne,⟨HNE.out.1,HNE.out.2.1⟩,⟨HE.out.bel.os,HE.out.bel.tape,HE.out.bel.output,HE.out.bel.size,HE.out.bel.block⟩⟩,⟨HE.out.blk.1,HE.out.blk.2⟩,HNC.out⟩
             ·iterate 3
               refine Reg.oS (fun listed A X hI hin hun hall HS=> ?_) ?_
               ·have E:=hI.tf hun hall Y9;simp only [Reg.TF,Y9,qg,Reg.la,Reg.lb,Reg.lc] at E;clear hI hall
                go_simp
                exact⟨rfl,HS.same (by decide) (by decide) (Below.refl _ _)⟩
              refine Reg.oS (fun listed A X hI hin hun hall HS=> ?_) ?_
              ·have e118:A.tmps[118]? =some (.slice (some ⟨b5,0,none⟩) 2 2):=hI.v hall 0 118;have e120:A.tmps[120]? =some (.bool false):=hI.v hall 2 120;clear hI hall
               go_simp
               exact(SM.out _ HS.prs).mono fun e w'' ⟨he,hb⟩=>⟨_,he,rfl,HS.same (by decide) (by decide) hb⟩
              refine Reg.oS (fun listed A X hI hin hun hall HS=> ?_) ?_
              ·have e11:=hI.wo 11 rfl;obtain⟨⟨z0,z1⟩,⟨l0,l1⟩,hz⟩:=HS.b.fin;clear hI hall
               go_simp
               exact⟨rfl,HS.same (by decide) (by decide) (Below.refl _ _)⟩
              refine Reg.oS (fun listed A X hI hin hun hall HS=> ?_) ?_
              ·have e4:=hI.wo 4 rfl;have e121:A.tmps[121]? =some (.agg #[.int .u64 t.a,.int .u64 t.b,.int .u64 t.c,.int .u64 t.d]):=hI.v hall 3 121;obtain⟨⟨u0,u1,u2,u3⟩,⟨v0,v1,v2,v3⟩,hu⟩:=HS.b.st;have HS3:=j0 (HS.put3 (by decide) hin);clear HS;clear hI hall
               go_simp
               exact⟨rfl,HS3.out⟩
              refine Reg.oS (fun listed A X hI hin hun hall HS=> ?_) ?_
              ·have e5:=hI.wo 5 rfl;have e122:A.tmps[122]? =some (.agg #[.int .i64 ((k:Int)+2),.int .i64 0]):=hI.v hall 4 122;obtain⟨⟨u0,u1⟩,⟨v0,v1⟩,hu⟩:=HS.b.en;have HS3:=j0 (HS.put4 (by decide) hin);clear HS;clear hI hall
               go_simp
               exact⟨rfl,HS3.out⟩
              trivial
             ·intro W9 hS;have hst:OwnSet W9 w.heap.size t:=hS.b.st;have hen:je W9 b1 ((k:Int)+2) 0:=hS.b.en;have HB9:=j0 hS.b.bel;obtain⟨⟨q0,q1,q2,q3⟩,_,_⟩:=hst;obtain⟨⟨m0,m1⟩,_,_⟩:=hen;clear hS HE SM;simp [Reg.finalTmps,Reg.dstAt,Reg.valOf,qg]
              go_wp2_with fail
              refine bodyPost_ret (v:=.tuple #[.agg #[.int .u64 t.a,.int .u64 t.b,.int .u64 t.c,.int .u64 t.d],.agg #[.int .i64 ((k:Int)+2),.int .i64 0]]) (by simp [results,Tryz.results138,go_sem,q0,q1,q2,q3,m0,m1]) rfl ⟨by rw [HF.out];simp [kC];try omega,HB9.out⟩
            ·by_cases h83:c=83
             ·subst h83;have HF:Hid (kX s k=(km qF,0,k+1+1)):=j0 (by rw [HESC.out,if_neg (by decide),if_neg (by decide),show kq 83=(km qF,true) from rfl];rfl);have SM:Hid (∀X,jE X b5 [(9,13),(32,32)]->Calls Tryz.prog 140 #[.slice (some ⟨b5,0,none⟩) 2 2,.bool true] X fun e w'=>e=.returned (.agg #[.int .u64 (km qF).a,.int .u64 (km qF).b,.int .u64 (km qF).c,.int .u64 (km qF).d])/\Below X.heap.size X w'):=j0 (fun X hX=>jY b5 2 2 [(9,13),(32,32)] true (km qF) (notW_fit _) (fun m hm=>by rw [zi,UE ⟨m,hm⟩];simp) rfl (by omega) X hX);generalize km qF=t at*;have HNC:=HN5;clear HESC IN1 IN2 hth
              go_wp2_with fail
              refine Reg.wp_region_S (qg b5 2 83 true t ((k:Int)+2)) (zR w b1 b6 b5 [(9,13),(32,32)] t ((k:Int)+2) 5 6) [0,1,2,3,4,5,6] (by rfl) (by kernel_rfl) (by kernel_rfl) ?_ ?_ ?_
              ·exact⟨⟨HE.out.st.drewN 1,⟨HE.out.en.at_,HE.out.en.free,HE.out.en.lt⟩,⟨HE.out.fin.at_,HE.out.fin.free,HE.out.fin.lt⟩,HE.out.ne,⟨HNE.out.1,HNE.out.2.1⟩,⟨HE.out.bel.os,HE.out.bel.tape,HE.out.bel.output,HE.out.bel.size,HE.out.bel.block⟩⟩,⟨HE.out.blk.1,HE.out.blk.2⟩,HNC.out⟩
              ·iterate 3
                refine Reg.oS (fun listed A X hI hin hun hall HS=> ?_) ?_
                ·have E:=hI.tf hun hall UJ;simp only [Reg.TF,UJ,qg,Reg.la,Reg.lb,Reg.lc] at E;clear hI hall
                 go_simp
                 exact⟨rfl,HS.same (by decide) (by decide) (Below.refl _ _)⟩
               refine Reg.oS (fun listed A X hI hin hun hall HS=> ?_) ?_
               ·have e118:A.tmps[118]? =some (.slice (some ⟨b5,0,none⟩) 2 2):=hI.v hall 0 118;have e120:A.tmps[120]? =some (.bool true):=hI.v hall 2 120;clear hI hall
                go_simp
                exact(SM.out _ HS.prs).mono fun e w'' ⟨he,hb⟩=>⟨_,he,rfl,HS.same (by decide) (by decide) hb⟩
               refine Reg.oS (fun listed A X hI hin hun hall HS=> ?_) ?_
               ·have e11:=hI.wo 11 rfl;obtain⟨⟨z0,z1⟩,⟨l0,l1⟩,hz⟩:=HS.b.fin;clear hI hall
                go_simp
                exact⟨rfl,HS.same (by decide) (by decide) (Below.refl _ _)⟩
               refine Reg.oS (fun listed A X hI hin hun hall HS=> ?_) ?_
               ·have e4:=hI.wo 4 rfl;have e121:A.tmps[121]? =some (.agg #[.int .u64 t.a,.int .u64 t.b,.int .u64 t.c,.int .u64 t.d]):=hI.v hall 3 121;obtain⟨⟨u0,u1,u2,u3⟩,⟨v0,v1,v2,v3⟩,hu⟩:=HS.b.st;have HS3:=j0 (HS.put3 (by decide) hin);clear HS;clear hI hall
                go_simp
                exact⟨rfl,HS3.out⟩
               refine Reg.oS (fun listed A X hI hin hun hall HS=> ?_) ?_
               ·have e5:=hI.wo 5 rfl;have e122:A.tmps[122]? =some (.agg #[.int .i64 ((k:Int)+2),.int .i64 0]):=hI.v hall 4 122;obtain⟨⟨u0,u1⟩,⟨v0,v1⟩,hu⟩:=HS.b.en;have HS3:=j0 (HS.put4 (by decide) hin);clear HS;clear hI hall
                go_simp
                exact⟨rfl,HS3.out⟩
               trivial
              ·intro W9 hS;have hst:OwnSet W9 w.heap.size t:=hS.b.st;have hen:je W9 b1 ((k:Int)+2) 0:=hS.b.en;have HB9:=j0 hS.b.bel;obtain⟨⟨q0,q1,q2,q3⟩,_,_⟩:=hst;obtain⟨⟨m0,m1⟩,_,_⟩:=hen;clear hS HE SM;simp [Reg.finalTmps,Reg.dstAt,Reg.valOf,qg]
               go_wp2_with fail
               refine bodyPost_ret (v:=.tuple #[.agg #[.int .u64 t.a,.int .u64 t.b,.int .u64 t.c,.int .u64 t.d],.agg #[.int .i64 ((k:Int)+2),.int .i64 0]]) (by simp [results,Tryz.results138,go_sem,q0,q1,q2,q3,m0,m1]) rfl ⟨by rw [HF.out];simp [kC];try omega,HB9.out⟩
             ·by_cases h120:c=120
              ·subst h120;have HP:=j0 (fun x y=>(HE.out.puts j7 x y).2.2);have HPR:Hid (kX s k=pairR s (k+2)):=j0 (by rw [HESC.out,if_neg (by decide),if_pos rfl]);have HX:=j0 (fun b (hb:b<256) W=>Qp b hb W);obtain⟨⟨u0,u1,u2,u3⟩,⟨v0,v1,v2,v3⟩,hu⟩:=HE.out.st;obtain⟨⟨e0,e1⟩,⟨i0,i1⟩,he⟩:=HE.out.en;have hne:=HE.out.ne;have n1:¬b1=w.heap.size:=by omega
               have n2:¬w.heap.size=b1:=by omega
               clear HESC IN1 IN2 hth
               go_wp2_with fail
               go_loopw [12,13] (fun n i wr=>∃m q:Nat,m<=2/\Hid (q=k+2+m)/\n=.int .i64 ((xt s (k+2) m:Nat):Int)/\i=.int .i64 (q:Int)/\q<=s.size/\Hid (∀j,j<m->(qJ (jl s (k+2+j))).2=true)/\wr=w1) (fun _ i _=>k+4-(intOf i).toNat)
               case atStart=>exact⟨0,k+2,by omega,j0 (by omega),rfl,by simp,by omega,j0 (fun j hj=>by omega),by first|rfl|trivial⟩
               case round=>
                obtain⟨m,q,hm,HQ,rfl,rfl,hqs,HA,rfl⟩:=hrel;have hq:=HQ.out;have hmin:min (q:Int) (s.size:Int)=(q:Int):=by omega
                by_cases hm2:m<2
                ·have hlt:decide ((q:Int)<(k:Int)+4)=true:=jT (by omega);have hlt2:decide (q<k+4)=true:=jT (by omega)
                 by_cases hqi:q<s.size
                 ·have hge:decide (s.size<=q)=false:=jF (by omega);have hbq:((s[q]'hqi).toNat)=jl s q:=(jy hqi).symm;have hbl:=qk hqi;have HXq:=j0 (HX.out (jl s q) hbl);rw [<-hbq] at HXq
                  cases hh:(qJ (jl s q)).2
                  ·have HF:Hid (kX s k=(j7,4,q)):=j0 (by rw [HPR.out,hq];exact Qt hm2 HA.out (by rw [<-hq];exact hh));have hx:xT (s[q]'hqi).toNat= -1:=by rw [hbq];exact hexI_no hbl hh
                   rw [hx] at HXq;clear hbq hbl hh hx hq;skip
                   go_wp2_with fail
                   refine(HXq.out _).mono ?_;rintro e w2 ⟨rfl,hw2⟩;obtain rfl:=hw2
                   go_wp2_with fail
                   refine bodyPost_ret (v:=.tuple #[.agg #[.int .u64 0,.int .u64 0,.int .u64 0,.int .u64 0],.agg #[.int .i64 (q:Int),.int .i64 4]]) (by simp [results,Tryz.results138,go_sem,u0,u1,u2,u3,e0,e1]) rfl ⟨by rw [HF.out];simp [kC,j7],?_⟩;exact HP.out (q:Int) 4
                  ·have HV:Hid (xt s (k+2) (m+1)=16*xt s (k+2) m+(qJ (jl s q)).1):=j0 (by rw [hq];rfl);have hx:xT (s[q]'hqi).toNat=((qJ (jl s q)).1:Int):=by rw [hbq];exact hexI_yes hh
                   have h15:=Q5 (jl s q);have hv15:=(Q4 s (k+2) m (by omega)).2 (by omega)
                   have HA2:Hid (∀j,j<m+1->(qJ (jl s (k+2+j))).2=true):=j0 (fun j hj=>by
                    by_cases e:j=m
                    ·subst e;rw [<-hq];exact hh
                    ·exact HA.out j (by omega))
                   rw [hx] at HXq;generalize (qJ (jl s q)).1=y at*;generalize xt s (k+2) m=z at*;clear hbq hbl hh hx hq;skip
                   go_wp2_with fail
                   refine(HXq.out _).mono ?_;rintro e w2 ⟨rfl,hw2⟩;obtain rfl:=hw2
                   go_wp2_with fail
                   refine(HXq.out _).mono ?_;rintro e w2 ⟨rfl,hw2⟩;obtain rfl:=hw2
                   go_wp2_with fail
                   go_roundw
                   case rel=>exact⟨m+1,q+1,by omega,j0 (by have:=HQ.out;omega),by rw [HV.out];go_num,by go_num,by omega,HA2,by first|rfl|trivial⟩
                   case measure=>have:=HQ.out;clear hmin;simp [intOf];omega
                 ·obtain rfl:q=s.size:=by omega
                  have HF:Hid (kX s k=(j7,4,s.size)):=j0 (by rw [HPR.out,hq];exact Qt hm2 HA.out (by rw [qr (by omega),XB]));have hge:decide (s.size<=s.size)=true:=jT (by omega);clear hq;skip
                  go_wp2_with fail
                  refine bodyPost_ret (v:=.tuple #[.agg #[.int .u64 0,.int .u64 0,.int .u64 0,.int .u64 0],.agg #[.int .i64 (s.size:Int),.int .i64 4]]) (by simp [results,Tryz.results138,go_sem,u0,u1,u2,u3,e0,e1]) rfl ⟨by rw [HF.out];simp [kC,j7],?_⟩;exact HP.out (s.size:Int) 4
                ·obtain rfl:m=2:=by omega
                 have HF:Hid (kX s k=(jh (xt s (k+2) 2),0,k+2+2)):=j0 (by rw [HPR.out];exact Xn HA.out);have hz:=(Q4 s (k+2) 2 (by omega)).1;obtain rfl:q=k+4:=by omega
                 clear hq HQ;have hlt:decide ((k:Int)+4<(k:Int)+4)=false:=jF (by omega);have hlt2:decide (k+4<k+4)=false:=jF (by omega);generalize xt s (k+2) 2=z at*;have SM:=j0 (fun X gl (hX:jE X gl [(z,z)])=>jY gl 1 1 [(z,z)] false (jh z) (kz z) (fun m hm=>by rw [oneW_mem z m (by omega) hm];simp) rfl (by omega) X hX);generalize jh z=t at*;clear HX HPR HA u0 u1 u2 u3 v0 v1 v2 v3 e0 e1 i0 i1 he hu hmin;skip
                 go_wp2_with fail
                 refine(SM.out _ _ (pairs_blk (j1 _ _) (ze rfl rfl))).mono ?_;rintro e w2 ⟨rfl,hb2⟩;have HE2:=j0 (HE.out.below ((j3 _ _).trans (hb2.mono (by simp))));have HP2:=j0 (HE2.out.puts t ((k:Int)+4) 0).2.2;obtain⟨⟨u0,u1,u2,u3⟩,⟨v0,v1,v2,v3⟩,hu⟩:=HE2.out.st;obtain⟨⟨e0,e1⟩,⟨i0,i1⟩,he⟩:=HE2.out.en;clear hb2
                 go_wp2_with fail
                 refine bodyPost_ret (v:=.tuple #[.agg #[.int .u64 t.a,.int .u64 t.b,.int .u64 t.c,.int .u64 t.d],.agg #[.int .i64 ((k:Int)+4),.int .i64 0]]) (by simp [results,Tryz.results138,go_sem,u0,u1,u2,u3,e0,e1]) rfl ⟨by rw [HF.out];simp [kC];try omega,HP2.out⟩
              ·have HP:=j0 (fun x y=>(HE.out.puts j7 x y).2.2);have HMN:Hid (kq c=(j7,false)):=j0 (by unfold kq;rw [hth];simp [h110,h116,h114,h102,h118,h100,h68,h119,h87,h115,h83]);have HN120:=j0 h120;have g110:(((c:Nat):Int)==110)=false:=by simp;omega
               have g116:(((c:Nat):Int)==116)=false:=by simp;omega
               have g114:(((c:Nat):Int)==114)=false:=by simp;omega
               have g102:(((c:Nat):Int)==102)=false:=by simp;omega
               have g118:(((c:Nat):Int)==118)=false:=by simp;omega
               have g100:(((c:Nat):Int)==100)=false:=by simp;omega
               have g68:(((c:Nat):Int)==68)=false:=by simp;omega
               have g119:(((c:Nat):Int)==119)=false:=by simp;omega
               have g87:(((c:Nat):Int)==87)=false:=by simp;omega
               have g115:(((c:Nat):Int)==115)=false:=by simp;omega
               have g83:(((c:Nat):Int)==83)=false:=by simp;omega
               have g120:(((c:Nat):Int)==120)=false:=by simp;omega
               obtain⟨⟨u0,u1,u2,u3⟩,⟨v0,v1,v2,v3⟩,hu⟩:=HE.out.st;obtain⟨⟨e0,e1⟩,⟨i0,i1⟩,he⟩:=HE.out.en;have hne:=HE.out.ne;have n1:¬b1=w.heap.size:=by omega
               have n2:¬w.heap.size=b1:=by omega
               clear h110 h116 h114 h102 h118 h100 h68 h119 h87 h115 h83 h120 hth IN1
               cases hr:Qr c
               ·have HF:Hid (kX s k=(j7,4,k+1)):=j0 (by rw [HESC.out,hr,if_neg (by simp),if_neg HN120.out,HMN.out];rfl);rw [hr] at IN2;clear hr HESC
                go_wp2_with fail
                refine(IN2.out _).mono ?_;rintro e w2 ⟨rfl,hw2⟩;obtain rfl:=hw2
                go_wp2_with fail
                refine bodyPost_ret (v:=.tuple #[.agg #[.int .u64 0,.int .u64 0,.int .u64 0,.int .u64 0],.agg #[.int .i64 ((k:Int)+1),.int .i64 4]]) (by simp [results,Tryz.results138,go_sem,u0,u1,u2,u3,e0,e1]) rfl ⟨by rw [HF.out];simp [kC,j7],?_⟩;exact HP.out ((k:Int)+1) 4
               ·have HF:Hid (kX s k=(j7,6,k)):=j0 (by rw [HESC.out,hr,if_pos rfl]);rw [hr] at IN2;clear hr HESC
                go_wp2_with fail
                refine(IN2.out _).mono ?_;rintro e w2 ⟨rfl,hw2⟩;obtain rfl:=hw2
                go_wp2_with fail
                refine bodyPost_ret (v:=.tuple #[.agg #[.int .u64 0,.int .u64 0,.int .u64 0,.int .u64 0],.agg #[.int .i64 (k:Int),.int .i64 6]]) (by simp [results,Tryz.results138,go_sem,u0,u1,u2,u3,e0,e1]) rfl ⟨by rw [HF.out];simp [kC,j7],?_⟩;exact HP.out (k:Int) 6
  ·have HF:Hid (kX s k=(jh c,0,k+1+1)):=j0 (by
    obtain⟨h1,h2⟩:=Yu c hcl hth
    rw [HESC.out,h1,if_neg (by simp),if_neg h2,show kq c=(jh c,true) by unfold kq;rw [hth];rfl];rfl)
   have SM:Hid (∀X,jE X b2 [(c,c)]->Calls Tryz.prog 140 #[.slice (some ⟨b2,0,none⟩) 1 1,.bool false] X fun e w'=>e=.returned (.agg #[.int .u64 (jh c).a,.int .u64 (jh c).b,.int .u64 (jh c).c,.int .u64 (jh c).d])/\Below X.heap.size X w'):=j0 (fun X hX=>jY b2 1 1 [(c,c)] false (jh c) (kz c) (fun m hm=>by rw [oneW_mem c m hcl hm];simp) rfl (by omega) X hX);generalize jh c=t at*;clear HESC IN1 IN2 hth
   go_wp2_with fail
   refine Reg.wp_region_S (ZF b2 1 t ((k:Int)+2)) (zR w b1 b6 b2 [(c,c)] t ((k:Int)+2) 3 4) [0,1,2,3,4] (by rfl) (by kernel_rfl) (by kernel_rfl) ?_ ?_ ?_
   ·exact⟨⟨HE.out.st.drewN 1,⟨HE.out.en.at_,HE.out.en.free,HE.out.en.lt⟩,⟨HE.out.fin.at_,HE.out.fin.free,HE.out.fin.lt⟩,HE.out.ne,⟨HNE.out.1,HNE.out.2.1⟩,⟨HE.out.bel.os,HE.out.bel.tape,HE.out.bel.output,HE.out.bel.size,HE.out.bel.block⟩⟩,⟨HE.out.one.1,HE.out.one.2⟩,HNE.out.2.2⟩
   ·refine Reg.oS (fun listed A X hI hin hun hall HS=> ?_) ?_
    ·have e7:=hI.wo 7 rfl;clear hI hall
     go_simp
     exact⟨rfl,HS.same (by decide) (by decide) (Below.refl _ _)⟩
    refine Reg.oS (fun listed A X hI hin hun hall HS=> ?_) ?_
    ·have e49:A.tmps[49]? =some (.slice (some ⟨b2,0,none⟩) 1 1):=hI.v hall 0 49;clear hI hall
     go_simp
     exact(SM.out _ HS.prs).mono fun e w'' ⟨he,hb⟩=>⟨_,he,rfl,HS.same (by decide) (by decide) hb⟩
    refine Reg.oS (fun listed A X hI hin hun hall HS=> ?_) ?_
    ·have e11:=hI.wo 11 rfl;obtain⟨⟨z0,z1⟩,⟨l0,l1⟩,hz⟩:=HS.b.fin;clear hI hall
     go_simp
     exact⟨rfl,HS.same (by decide) (by decide) (Below.refl _ _)⟩
    refine Reg.oS (fun listed A X hI hin hun hall HS=> ?_) ?_
    ·have e4:=hI.wo 4 rfl;have e50:A.tmps[50]? =some (.agg #[.int .u64 t.a,.int .u64 t.b,.int .u64 t.c,.int .u64 t.d]):=hI.v hall 1 50;obtain⟨⟨u0,u1,u2,u3⟩,⟨v0,v1,v2,v3⟩,hu⟩:=HS.b.st;have HS3:=j0 (HS.put3 (by decide) hin);clear HS;clear hI hall
     go_simp
     exact⟨rfl,HS3.out⟩
    refine Reg.oS (fun listed A X hI hin hun hall HS=> ?_) ?_
    ·have e5:=hI.wo 5 rfl;have e51:A.tmps[51]? =some (.agg #[.int .i64 ((k:Int)+2),.int .i64 0]):=hI.v hall 2 51;obtain⟨⟨u0,u1⟩,⟨v0,v1⟩,hu⟩:=HS.b.en;have HS3:=j0 (HS.put4 (by decide) hin);clear HS;clear hI hall
     go_simp
     exact⟨rfl,HS3.out⟩
    trivial
   ·intro W9 hS;have hst:OwnSet W9 w.heap.size t:=hS.b.st;have hen:je W9 b1 ((k:Int)+2) 0:=hS.b.en;have HB9:=j0 hS.b.bel;obtain⟨⟨q0,q1,q2,q3⟩,_,_⟩:=hst;obtain⟨⟨m0,m1⟩,_,_⟩:=hen;clear hS HE SM;simp [Reg.finalTmps,Reg.dstAt,Reg.valOf,ZF]
    go_wp2_with fail
    refine bodyPost_ret (v:=.tuple #[.agg #[.int .u64 t.a,.int .u64 t.b,.int .u64 t.c,.int .u64 t.d],.agg #[.int .i64 ((k:Int)+2),.int .i64 0]]) (by simp [results,Tryz.results138,go_sem,q0,q1,q2,q3,m0,m1]) rfl ⟨by rw [HF.out];simp [kC];try omega,HB9.out⟩
end Go.Proofs.YtnmalggmbeipaaaGreatDoor
