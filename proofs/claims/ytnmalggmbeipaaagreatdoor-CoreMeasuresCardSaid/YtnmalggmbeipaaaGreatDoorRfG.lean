/- A part of the proof. -/
import Derived.Test.YtnmalggmbeipaaaGreatDoorTb
import Derived.Test.YtnmalggmbeipaaaGreatDoorRfB
import Derived.Test.YtnmalggmbeipaaaGreatDoorRfE
set_option maxRecDepth 100000
set_option maxHeartbeats 16000000
namespace Go.Proofs.YtnmalggmbeipaaaGreatDoor
section
open Go Go.RowKit
attribute [local go_sem ↓] Go.wp_at_zero Go.wp_at_succ
attribute [local go_sem] qX
def zQ(t:W4)(k:Nat):Nat:=((List.range k).filter t.mem).length
def yO(t:W4):Nat->Int
 |0=> -1
 |k+1=>if t.mem k=true then(k:Int) else yO t k
def xS(t:W4):Int:=match qi t with
 |some n=>(n:Int)
 |none=> -1
theorem Uz(t:W4)(k:Nat):zQ t (k+1)=zQ t k+(if t.mem k=true then 1 else 0):=by
 unfold zQ;rw [List.range_succ,List.filter_append,List.length_append]
 cases h:t.mem k<;>simp [h]
theorem cntW_le(t:W4)(k:Nat):zQ t k<=k:=by
 unfold zQ;exact Nat.le_trans (List.length_filter_le _ _) (by simp)
theorem Uq(t:W4):∀k,0<zQ t k->∃m,m<k/\t.mem m=true/\yO t k=(m:Int)
 |0,h=>by simp [zQ] at h
 |k+1,h=>by
  by_cases e:t.mem k=true
  ·exact⟨k,by omega,e,by unfold yO;rw [if_pos e]⟩
  ·rw [Uz,if_neg e] at h;obtain⟨m,h1,h2,h3⟩:=Uq t k (by omega);exact⟨m,by omega,h2,by unfold yO;rw [if_neg e,h3]⟩
theorem onlyI_one{t:W4}(h:zQ t 256=1):xS t=yO t 256:=by
 obtain⟨m,h1,h2,h3⟩:=Uq t 256 (by omega);obtain⟨n,hn⟩:=List.length_eq_one_iff.1 (show(zf t).length=1 from h);have hm:m∈zf t:=by unfold zf;rw [List.mem_filter,List.mem_range];exact⟨h1,h2⟩
 rw [hn] at hm;obtain rfl:m=n:=by simpa using hm
 unfold xS;rw [Ul.2 hn,h3]
theorem Z1{t:W4}(h:zQ t 256≠1):xS t= -1:=by
 unfold xS
 rcases ho:qi t with _|n
 ·rfl
 ·exact absurd (Qu ho) h
theorem VT(t:W4)(n:Nat)(hn:n<256)(hf:t.fit)(w:World):
  Calls Tryz.prog 88 #[kd t,.int .i64 (n:Int)] w fun e w'=>e=.returned (.bool (t.mem n))/\Below w.heap.size w w':=
 YQ t.a t.b t.c t.d n w hn hf.1 hf.2.1 hf.2.2.1 hf.2.2.2
theorem Kw(t:W4)(ht:t.fit)(w:World):
  Calls Tryz.prog 191 #[kd t] w fun e w'=>e=.returned (.int .i64 (xS t))/\Below w.heap.size w w':=by
 have HS:=j0 (fun n (hn:n<256) W=>VT t n hn ht W)
 go_enter Tryz.func191,Tryz.ntmps191
 go_wp2_with fail
 go_loopw [3,4,5] (fun n l i wr=>∃k:Nat,k<=256/\n=.int .i64 ((zQ t k:Nat):Int)/\l=.int .i64 (yO t k)/\i=.int .i64 k/\Hid (Below w.heap.size w wr)/\Hid (wr.heap[w.heap.size]? =some (jG t))) (fun _ _ i _=>256-(intOf i).toNat)
 case atStart=>exact⟨0,by omega,rfl,rfl,rfl,j0 (j3 _ _),j0 (j1 _ _)⟩
 case round=>
  obtain⟨k,hk,rfl,rfl,rfl,HB,HC⟩:=hrel;have hcl:=cntW_le t k;obtain⟨⟨z0,z1,z2,z3⟩,hz⟩:=jA HC.out
  by_cases hlt:k<256
  ·have dk:decide ((k:Int)<256)=true:=jT (by omega);have HSk:=j0 (HS.out k hlt);have HST:=j0 (Uz t k)
   cases hm:t.mem k
   ·have HL:Hid (yO t (k+1)=yO t k):=j0 (by rw [yO,hm];rfl);rw [hm] at HSk HST;clear hm;generalize zQ t k=c at*
    go_wp2_with fail
    refine(HSk.out _).mono ?_;rintro e w1 ⟨rfl,hb1⟩;have HB1:=j0 (HB.out.trans (hb1.mono HB.out.size));have HC1:=j0 (j4 hb1 HC.out);clear hb1
    go_wp2_with fail
    go_roundw
    case rel=>exact⟨k+1,by omega,by rw [HST.out];rfl,by rw [HL.out],by go_num,HB1,HC1⟩
    case measure=>simp [intOf];omega
   ·have HL:Hid (yO t (k+1)=(k:Int)):=j0 (by rw [yO,hm];rfl);rw [hm] at HSk HST;clear hm;generalize zQ t k=c at*
    go_wp2_with fail
    refine(HSk.out _).mono ?_;rintro e w1 ⟨rfl,hb1⟩;have HB1:=j0 (HB.out.trans (hb1.mono HB.out.size));have HC1:=j0 (j4 hb1 HC.out);clear hb1
    go_wp2_with fail
    go_roundw
    case rel=>exact⟨k+1,by omega,by rw [HST.out];go_num,by rw [HL.out],by go_num,HB1,HC1⟩
    case measure=>simp [intOf];omega
  ·obtain rfl:k=256:=by omega
   by_cases h1:zQ t 256=1
   ·have HF:=j0 (onlyI_one h1);rw [h1];clear hcl h1;generalize yO t 256=v at*
    go_wp2_with fail
    go_ret
    exact⟨by rw [HF.out];rfl,HB.out⟩
   ·have HF:=j0 (Z1 h1);have n1:(((zQ t 256:Nat):Int) !=1)=true:=by simp;omega
    have n2:(((zQ t 256:Nat):Int)==1)=false:=by simp;omega
    generalize zQ t 256=c at*;clear h1
    go_wp2_with fail
    go_ret
    exact⟨by rw [HF.out];rfl,HB.out⟩
abbrev ZT:ByteArray:=⟨#[91,93,45,94]⟩
def XO(b:Nat):Bool:= [91,93,45,94].contains b
theorem inB_edge(c:Nat)(hc:c<256):Za ZT c 4=XO c:=by
 have hall:∀n:Fin 256,Za ZT n.val 4=XO n.val:=by decide+kernel
 exact hall ⟨c,hc⟩
abbrev yP:Obj:=.cells #[.int .i64 0,.int .i64 0] 177
theorem Yn(w W:World)(h:W=(w.alloc j5).alloc yP):OwnSet W w.heap.size j7/\je W (w.heap.size+1) 0 0/\Below w.heap.size w W/\W.heap.size=w.heap.size+2:=by
 subst h;refine⟨(OwnSet.of (t:=j7) (j1 w j5)).below (j3 _ _),?_,kw _ _ _,by simp⟩;have h:=j1 (w.alloc j5) yP;rw [World.size_alloc] at h;exact je.of h
structure Yl(w:World)(b1 gl c:Nat)(t:W4)(z:Int)(listed:Array Bool)(X:World):Prop where
 st:OwnSet X w.heap.size (if listed.getD 14 false=true then t else j7)
 en:je X b1 (if listed.getD 15 false=true then z else 0) 0
 yes:listed.getD 9 false=true->jE X gl [(c,c)]
 no:listed.getD 9 false=false->X.heap.size=gl
 ne:w.heap.size<b1/\gl≠w.heap.size/\gl≠b1
 bel:Below w.heap.size w X
theorem Yl.same{w:World}{b1 gl c:Nat}{t:W4}{z:Int}{listed:Array Bool}{X:World}{i:Nat}(h:Yl w b1 gl c t z listed X)(h9:i≠9)(h14:i≠14)(h15:i≠15):Yl w b1 gl c t z (listed.setIfInBounds i true) X:=by
 refine⟨?_,?_,fun e=>h.yes (by rwa [getD_set_ne false h9] at e),fun e=>h.no (by rwa [getD_set_ne false h9] at e),h.ne,h.bel⟩
 ·rw [getD_set_ne false h14];exact h.st
 ·rw [getD_set_ne false h15];exact h.en
theorem Yl.call{w:World}{b1 gl c:Nat}{t:W4}{z:Int}{listed:Array Bool}{X Y:World}{i:Nat}(h:Yl w b1 gl c t z listed X)(hl:listed.getD 9 false=true)(h9:i≠9)(h14:i≠14)(h15:i≠15)(hb:Below X.heap.size X Y):Yl w b1 gl c t z (listed.setIfInBounds i true) Y:=by
 refine⟨?_,?_,fun _=>(h.yes hl).up hb,(fun e=>by rw [getD_set_ne false h9,hl] at e;cases e),h.ne,h.bel.trans (hb.mono h.bel.size)⟩
 ·rw [getD_set_ne false h14];exact h.st.below hb
 ·rw [getD_set_ne false h15];exact h.en.below hb
theorem Yl.make{w:World}{b1 gl c:Nat}{t:W4}{z:Int}{listed:Array Bool}{X:World}(h:Yl w b1 gl c t z listed X)(hl:listed.getD 9 false=false)(hin:9<listed.size){arr:Array Value}{ty:TypeId}
  (ha:∀i p,[(c,c)][i]? =some p->arr[i*2]? =some (.int .i64 (p.1:Int))/\arr[i*2+1]? =some (.int .i64 (p.2:Int))):Yl w b1 gl c t z (listed.setIfInBounds 9 true) (X.alloc (.cells arr ty)):=by
 refine⟨?_,?_,fun _=> ?_,(fun e=>by rw [Reg.set_self hin] at e;cases e),h.ne,h.bel.trans ((j3 _ _).mono h.bel.size)⟩
 ·rw [getD_set_ne false (by decide)];exact h.st.below (j3 _ _)
 ·rw [getD_set_ne false (by decide)];exact h.en.below (j3 _ _)
 ·rw [<-h.no hl];exact pairs_blk (j1 X _) ha
theorem Yl.put14{w:World}{b1 gl c:Nat}{t:W4}{z:Int}{listed:Array Bool}{X:World}(h:Yl w b1 gl c t z listed X)(hin:14<listed.size):Yl w b1 gl c t z (listed.setIfInBounds 14 true) (jQ X w.heap.size t):=by
 have hne:=h.ne;refine⟨?_,?_,fun e=>(h.yes (by rwa [getD_set_ne false (by decide)] at e)).set_ h.ne.2.1,fun e=>by rw [<-h.no (by rwa [getD_set_ne false (by decide)] at e)];simp [jQ,World.setCell],h.ne,kD h.bel (jN _) _ _ _ _⟩
 ·rw [if_pos (Reg.set_self hin)];exact h.st.put t
 ·rw [getD_set_ne false (by decide)];exact h.en.set_ (by omega)
theorem Yl.put15{w:World}{b1 gl c:Nat}{t:W4}{z:Int}{listed:Array Bool}{X:World}(h:Yl w b1 gl c t z listed X)(hin:15<listed.size):Yl w b1 gl c t z (listed.setIfInBounds 15 true) (jO X b1 z 0):=by
 have hne:=h.ne;refine⟨?_,?_,fun e=>(h.yes (by rwa [getD_set_ne false (by decide)] at e)).end_ h.ne.2.2,fun e=>by rw [<-h.no (by rwa [getD_set_ne false (by decide)] at e)];simp [jO,World.setCell],h.ne,(h.bel.setCell (by simp;omega) _).setCell (by simp;omega) _⟩
 ·rw [getD_set_ne false (by decide)];exact h.st.end_ (by omega)
 ·rw [if_pos (Reg.set_self hin)];exact h.en.put z 0
def Qm(s:ByteArray)(k c gl:Nat)(t:W4):Nat->Value
 |0=>.string s
 |1=>.int .i64 (k:Int)
 |2=>.int .u8 (c:Int)
 |3=>.int .i64 (c:Int)
 |4=>.string s
 |5=>.int .i64 (k:Int)
 |6=>.int .u8 (c:Int)
 |7=>.int .i64 (c:Int)
 |8=>.agg #[.int .i64 (c:Int),.int .i64 (c:Int)]
 |9=>.slice (some ⟨gl,0,none⟩) 1 1
 |10=>.agg #[.int .u64 t.a,.int .u64 t.b,.int .u64 t.c,.int .u64 t.d]
 |11=>.int .i64 (k:Int)
 |12=>.int .i64 ((k:Int)+1)
 |13=>.agg #[.int .i64 ((k:Int)+1),.int .i64 0]
 |_=>undef
def JL:Nat->List (Nat×Nat)
 |0=> [(0,0)]
 |1=> [(1,0)]
 |2=> [(31,1),(32,2)]
 |3=> [(33,3)]
 |4=> [(0,0)]
 |5=> [(1,0)]
 |6=> [(35,5),(36,6)]
 |7=> [(37,7)]
 |8=> [(34,4),(38,8)]
 |11=> [(1,0)]
 |12=> [(42,12)]
 |13=> [(43,13)]
 |_=> []
theorem Kx(s:ByteArray)(k:Nat)(hk:k<=s.size)(hs:s.size<=1099511627776)(w:World):
  Calls Tryz.prog 190 #[.string s,.int .i64 (k:Int)] w fun e w'=>e=.returned (kC (jH s k))/\Below w.heap.size w w':=by
 by_cases hlt:k<s.size
 ·have d1:decide (s.size<=k)=false:=jF (by omega);have hb:((s[k]'hlt).toNat)=jl s k:=(jy hlt).symm;have hcl:jl s k<256:=qk hlt;have HPT:Hid (jH s k=if jl s k=92 then kX s k else if jl s k=91\/jl s k=93\/jl s k=94\/jl s k=45 then(j7,4,k) else(jh (jl s k),0,k+1)):=j0 (by unfold jH;rw [if_neg (by omega)]);generalize jl s k=c at*;have IN1:=j0 (fun W=>kJ ZT c (by decide) W);rw [show ZT.size=4 from rfl,inB_edge c hcl] at IN1
  cases hed:XO c
  ·by_cases h92:c=92
   ·subst h92;have HF:Hid (jH s k=kX s k):=j0 (by rw [HPT.out,if_pos rfl]);have ESC:=j0 (fun W=>Qq s k hlt hs W);rw [hed] at IN1;clear hed;generalize kX s k=r at*;obtain⟨t,x,j⟩:=r
    go_enter Tryz.func190,Tryz.ntmps190
    go_wp2_with fail
    refine(IN1.out _).mono ?_;rintro e w1 ⟨rfl,hw1⟩;have HW:=j0 (Yn w w1 hw1);clear hw1
    go_wp2_with fail
    refine(ESC.out _).mono ?_;rintro e w2 ⟨rfl,hb2⟩;obtain⟨h1,h2,h3,h4⟩:=HW.out;have HS2:=j0 (h1.below hb2);have HN2:=j0 (h2.below hb2);have HB2:=j0 (h3.trans (hb2.mono h3.size));obtain⟨⟨u0,u1,u2,u3⟩,⟨v0,v1,v2,v3⟩,hu⟩:=HS2.out;obtain⟨⟨e0,e1⟩,⟨i0,i1⟩,he⟩:=HN2.out;clear hb2 h1 h2 h3 h4 HW;unfold kC;dsimp only
    go_wp2_with fail
    refine bodyPost_ret (v:=.tuple #[.agg #[.int .u64 t.a,.int .u64 t.b,.int .u64 t.c,.int .u64 t.d],.agg #[.int .i64 (j:Int),.int .i64 x]]) (by simp [results,Tryz.results190,go_sem,u0,u1,u2,u3,e0,e1]) rfl ⟨by rw [HF.out];rfl,?_⟩;exact((kD HB2.out (jN _) _ _ _ _).setCell (by simp) _).setCell (by simp) _
   ·have HF:Hid (jH s k=(jh c,0,k+1)):=j0 (by
     rw [HPT.out]
     have h:¬(c=91\/c=93\/c=45\/c=94):=by intro h;unfold XO at hed;rcases h with rfl|rfl|rfl|rfl<;>exact absurd hed (by decide)
     rw [if_neg h92,if_neg (by omega)])
    have n92:((c:Int)==92)=false:=by simp;omega
    rw [hed] at IN1;have ec:IntKind.i64.wrap (c:Int)=(c:Int):=by simp [IntKind.wrap,IntKind.signed,IntKind.bits];omega
    have ek:IntKind.i64.wrap ((k:Int)+1)=(k:Int)+1:=by simp [IntKind.wrap,IntKind.signed,IntKind.bits];omega
    have SM:Hid (∀X gl,jE X gl [(c,c)]->Calls Tryz.prog 140 #[.slice (some ⟨gl,0,none⟩) 1 1,.bool false] X fun e w'=>e=.returned (.agg #[.int .u64 (jh c).a,.int .u64 (jh c).b,.int .u64 (jh c).c,.int .u64 (jh c).d])/\Below X.heap.size X w'):=j0 (fun X gl hX=>jY gl 1 1 [(c,c)] false (jh c) (kz c) (fun m hm=>by rw [oneW_mem c m hcl hm];simp) rfl (by omega) X hX);generalize jh c=t at*;clear hed h92
    go_enter Tryz.func190,Tryz.ntmps190
    go_wp2_with fail
    refine(IN1.out _).mono ?_;rintro e w1 ⟨rfl,hw1⟩;have HW:=j0 (Yn w w1 hw1);clear hw1;have SM:=j0 (fun X=>SM.out X w1.heap.size)
    go_wp2_with fail
    refine Reg.wp_region_S (Qm s k c w1.heap.size t) (Yl w (w.heap.size+1) w1.heap.size c t ((k:Int)+1)) [0,1,2,3,4,5,6,7,8,9,10,11,12,13,14,15] (by rfl) (by kernel_rfl) (by kernel_rfl) ?_ ?_ ?_
    ·obtain⟨h1,h2,h3,h4⟩:=HW.out;exact⟨h1.drewN 1,⟨h2.at_,h2.free,h2.lt⟩,(fun e=>by simp at e),fun _=>rfl,⟨by omega,by omega,by omega⟩,⟨h3.os,h3.tape,h3.output,h3.size,h3.block⟩⟩
    ·iterate 9
      refine Reg.oS (fun listed A X hI hin hun hall HS=> ?_) ?_
      ·have E:=hI.tf hun hall JL;simp only [Reg.TF,JL,Qm,Reg.la,Reg.lb,Reg.lc] at E;clear hI hall
       go_simp
       exact⟨rfl,HS.same (by decide) (by decide) (by decide)⟩
     refine Reg.oS (fun listed A X hI hin hun hall HS=> ?_) ?_
     ·have e39:A.tmps[39]? =some (.agg #[.int .i64 (c:Int),.int .i64 (c:Int)]):=hI.v hall 8 39;have hsz:=HS.no hun;have HMK:=j0 (HS.make hun hin (arr:= #[.int .i64 (c:Int),.int .i64 (c:Int)]) (ty:=183) (ze rfl rfl));clear hI hall
      go_simp
      exact⟨by simp [Qm],HMK.out⟩
     refine Reg.oS (fun listed A X hI hin hun hall HS=> ?_) ?_
     ·have e40:A.tmps[40]? =some (.slice (some ⟨w1.heap.size,0,none⟩) 1 1):=hI.v hall 9 40;have hl9:=hall ⟨9,.data⟩ (by simp) rfl;clear hI hall
      go_simp
      exact(SM.out _ (HS.yes hl9)).mono fun e w'' ⟨he,hb⟩=>⟨_,he,rfl,HS.call hl9 (by decide) (by decide) (by decide) hb⟩
     iterate 3
      refine Reg.oS (fun listed A X hI hin hun hall HS=> ?_) ?_
      ·have E:=hI.tf hun hall JL;simp only [Reg.TF,JL,Qm,Reg.la,Reg.lb,Reg.lc] at E;clear hI hall
       go_simp
       exact⟨rfl,HS.same (by decide) (by decide) (by decide)⟩
     refine Reg.oS (fun listed A X hI hin hun hall HS=> ?_) ?_
     ·have e4:=hI.wo 4 rfl;have e41:A.tmps[41]? =some (.agg #[.int .u64 t.a,.int .u64 t.b,.int .u64 t.c,.int .u64 t.d]):=hI.v hall 10 41;obtain⟨⟨u0,u1,u2,u3⟩,⟨v0,v1,v2,v3⟩,hu⟩:=HS.st;have HS3:=j0 (HS.put14 hin);clear HS;clear hI hall
      go_simp
      exact⟨rfl,HS3.out⟩
     refine Reg.oS (fun listed A X hI hin hun hall HS=> ?_) ?_
     ·have e5:=hI.wo 5 rfl;have e44:A.tmps[44]? =some (.agg #[.int .i64 ((k:Int)+1),.int .i64 0]):=hI.v hall 13 44;obtain⟨⟨u0,u1⟩,⟨v0,v1⟩,hu⟩:=HS.en;have HS3:=j0 (HS.put15 hin);clear HS;clear hI hall
      go_simp
      exact⟨rfl,HS3.out⟩
     trivial
    ·intro W9 hS;have hst:OwnSet W9 w.heap.size t:=hS.st;have hen:je W9 (w.heap.size+1) ((k:Int)+1) 0:=hS.en;have HB9:=j0 hS.bel;obtain⟨⟨q0,q1,q2,q3⟩,_,_⟩:=hst;obtain⟨⟨m0,m1⟩,_,_⟩:=hen;clear hS HW SM;simp [Reg.finalTmps,Reg.dstAt,Reg.valOf,Qm]
     go_wp2_with fail
     refine bodyPost_ret (v:=.tuple #[.agg #[.int .u64 t.a,.int .u64 t.b,.int .u64 t.c,.int .u64 t.d],.agg #[.int .i64 ((k:Int)+1),.int .i64 0]]) (by simp [results,Tryz.results190,go_sem,q0,q1,q2,q3,m0,m1]) rfl ⟨by rw [HF.out];simp [kC];try omega,HB9.out⟩
  ·have HF:Hid (jH s k=(j7,4,k)):=j0 (by
    rw [HPT.out];have h:c=91\/c=93\/c=45\/c=94:=by unfold XO at hed;simpa using hed
    rw [if_neg (by omega),if_pos (by omega)])
   have hmin:min (k:Int) (s.size:Int)=(k:Int):=by omega
   rw [hed] at IN1;clear hed
   go_enter Tryz.func190,Tryz.ntmps190
   go_wp2_with fail
   refine(IN1.out _).mono ?_;rintro e w1 ⟨rfl,hw1⟩;obtain rfl:=hw1
   go_wp2_with fail
   refine bodyPost_ret (v:=.tuple #[.agg #[.int .u64 0,.int .u64 0,.int .u64 0,.int .u64 0],.agg #[.int .i64 (k:Int),.int .i64 4]]) (by simp [results,Tryz.results190,go_sem]) rfl ⟨by rw [HF.out];simp [kC,j7],?_⟩;exact kw _ _ _
 ·obtain rfl:k=s.size:=by omega
  have HF:Hid (jH s s.size=(j7,4,s.size)):=j0 (by unfold jH;rw [if_pos (jN _)]);have d1:decide (s.size<=s.size)=true:=jT (jN _);have hmin:min (s.size:Int) (s.size:Int)=(s.size:Int):=by omega
  go_enter Tryz.func190,Tryz.ntmps190
  go_wp2_with fail
  refine bodyPost_ret (v:=.tuple #[.agg #[.int .u64 0,.int .u64 0,.int .u64 0,.int .u64 0],.agg #[.int .i64 (s.size:Int),.int .i64 4]]) (by simp [results,Tryz.results190,go_sem]) rfl ⟨by rw [HF.out];rfl,?_⟩;exact kw _ _ _
end
end Go.Proofs.YtnmalggmbeipaaaGreatDoor
