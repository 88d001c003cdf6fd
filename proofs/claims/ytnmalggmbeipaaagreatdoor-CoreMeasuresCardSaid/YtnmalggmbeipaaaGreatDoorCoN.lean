/- A part of the proof. -/
import Derived.Test.YtnmalggmbeipaaaGreatDoorCoM
set_option maxRecDepth 100000
set_option maxHeartbeats 16000000
namespace Go.Proofs.YtnmalggmbeipaaaGreatDoor
section
open Go Go.RowKit
attribute [local go_sem ↓] Go.wp_at_zero Go.wp_at_succ
attribute [local go_sem] qX
def ve(a:Int)(xs:List Int):Int:=xs.foldl (fun a x=>kL [a,x]) a
def szK(k lo hi:Int)(xs:List Int):Int:=if xs= [] then 1 else if k=6 then qQ (xs.headD 0) lo hi else ve ((xs.length:Int)-1) xs
mutual
def qt:Tr->Int
 | .mk k _ lo hi _ _ _ l=>szK k lo hi (Yx l)
def Yx:List Tr->List Int
 | []=> []
 |t::r=>qt t::Yx r
end
theorem xe:∀l:List Tr,Yx l=l.map qt
 | []=>rfl
 |t::r=>by rw [Yx,xe r];rfl
theorem addS_le(a:Int)(xs:List Int)(h:a<=top):ve a xs<=top:=by
 unfold ve
 induction xs generalizing a with
 |nil=>exact h
 |cons x r ih=>exact ih _ (xn _ _ _)
theorem addS_nn(a:Int)(xs:List Int)(h:0<=a):0<=ve a xs:=by
 unfold ve
 induction xs generalizing a with
 |nil=>exact h
 |cons x r ih=>exact ih _ (xm _)
theorem addS_take(a:Int)(xs:List Int)(i:Nat)(x:Int)(h:xs[i]? =some x):ve a (xs.take (i+1))=kL [ve a (xs.take i),x]:=by
 obtain⟨hi,rfl⟩:=List.getElem?_eq_some_iff.1 h;unfold ve;rw [List.take_succ_eq_append_getElem hi,List.foldl_append];rfl
theorem repM_le(x lo hi:Int):qQ x lo hi<=top:=by
 unfold qQ
 split
 ·exact xn _ _ _
 ·split
  ·unfold top;omega
  ·split<;>exact xn _ _ _
theorem repM_nn(x lo hi:Int):0<=qQ x lo hi:=by
 unfold qQ
 split
 ·exact xm _
 ·split
  ·omega
  ·split<;>exact xm _
theorem xH(u:Tr)(hu:jc u<=1000000000):0<=qt u/\qt u<=top:=by
 obtain⟨k,s,lo,hi,z,a,b,l⟩:=u;rw [jc] at hu;have hl:=kZ l;rw [qt,xe];unfold szK
 split
 ·unfold top;omega
 ·split
  ·exact⟨repM_nn _ _ _,repM_le _ _ _⟩
  ·rename_i h _
   have:l≠ []:=fun e=>h (by rw [e];rfl)
   have:0<l.length:=List.length_pos_iff.2 this;exact⟨addS_nn _ _ (by rw [List.length_map];omega),addS_le _ _ (by rw [List.length_map];unfold top;omega)⟩
def vI(w:World)(mb:Nat)(AA:Nat->Prop):Prop:=∃D,qH w mb D/\∀p∈D,∃u,jJ w AA u (j6 p.1)/\p.2=qt u
theorem vy{X Y Z:World}{r:Option Nat}(h:X.grownBy Y r)(k:Y.grownBy Z r):X.grownBy Z r:=⟨k.os.trans h.os,k.tape.trans h.tape,k.output.trans h.output,Nat.le_trans h.size k.size,fun b hb hne=>(k.block b (Nat.lt_of_lt_of_le hb h.size) hne).trans (h.block b hb hne)⟩
theorem zn(w:World)(r:Option Nat):w.grownBy w r:=⟨rfl,rfl,rfl,jN _,fun _ _ _=>rfl⟩
theorem mem_putV{D:List (Nat×Int)}{q:Nat}{v:Int}{p:Nat×Int}(h:p∈xq D q v):p∈D\/p=(q,v):=by
 induction D with
 |nil=>exact .inr (by simpa [xq] using h)
 |cons d D ih=>
  rw [xq] at h
  split at h
  ·rcases List.mem_cons.1 h with h|h
   ·exact .inr h
   ·exact .inl (List.mem_cons_of_mem _ h)
  ·rcases List.mem_cons.1 h with h|h
   ·exact .inl (h ▸ List.mem_cons_self ..)
   ·rcases ih h with h|h
    ·exact .inl (List.mem_cons_of_mem _ h)
    ·exact .inr h
theorem vI.up{w w':World}{mb:Nat}{AA:Nat->Prop}(h:vI w mb AA)(hb:Below w.heap.size w w'):vI w' mb AA:=by
 obtain⟨D,h1,h2⟩:=h;exact⟨D,h1.below hb,fun p hp=>by obtain⟨u,g1,g2⟩:=h2 p hp;exact⟨u,g1.up hb,g2⟩⟩
def OfC(u:Tr):Prop:=∀(AA:Nat->Prop) (q mb:Nat) (X:World),jJ X AA u (j6 q)->(∀b,AA b->b≠mb)->vI X mb AA->
 Calls Tryz.prog 55 #[.map (some mb),j6 q] X fun e w'=>e=.returned (.int .i64 (qt u))/\X.grownBy w' (some mb)/\vI w' mb AA
def ZJ(mb q c cap q2:Nat)(lo hi sz:Int):Nat->Value
 |0=>.map (some mb)
 |1=>.pointer (some ⟨q,0,none⟩)
 |2=>.pointer (some ⟨q,0,none⟩)
 |3=>.pointer (some ⟨q,8,none⟩)
 |4=>.slice (some ⟨c,0,none⟩) 1 cap
 |5=>.pointer (some ⟨c,0,none⟩)
 |6=>.pointer (some ⟨q2,0,none⟩)
 |7=>.int .i64 sz
 |8=>.pointer (some ⟨q,0,none⟩)
 |9=>.pointer (some ⟨q,0,none⟩)
 |10=>.pointer (some ⟨q,5,none⟩)
 |11=>.int .i64 lo
 |12=>.pointer (some ⟨q,0,none⟩)
 |13=>.pointer (some ⟨q,0,none⟩)
 |14=>.pointer (some ⟨q,6,none⟩)
 |15=>.int .i64 hi
 |16=>.int .i64 (qQ sz lo hi)
 |17=>.int .i64 (qQ sz lo hi)
 |_=>undef
def vJ:Nat->List (Nat×Nat)
 |0=> [(0,0)]
 |1=> [(1,0)]
 |2=> [(14,2)]
 |3=> [(15,3)]
 |4=> [(16,4)]
 |9=> [(21,9)]
 |10=> [(22,10)]
 |11=> [(23,11)]
 |13=> [(25,13)]
 |14=> [(26,14)]
 |15=> [(27,15)]
 |_=> []
theorem made_rep(s:W4)(lo hi:Int)(z:Bool)(na nb:Nat)(u:Tr)(hO:OfC u)(hlo:0<=lo/\lo<=1000)(hhi:hi= -1\/(lo<=hi/\hi<=1000))(hsz:qt u<=top)(AA:Nat->Prop)(q mb:Nat)(w:World)(hN:jJ w AA (.mk 6 s lo hi z na nb [u]) (j6 q))(hmb:∀b,AA b->b≠mb)(hM:vI w mb AA):
  Calls Tryz.prog 100 #[.map (some mb),j6 q] w fun e w'=>e=.returned (.int .i64 (qQ (qt u) lo hi))/\w.grownBy w' (some mb)/\vI w' mb AA:=by
 obtain⟨q',p,cap,e,hqa,hq,hk⟩:=hN.head;injection e with e;injection e with e;injection e with e;subst e
 obtain⟨c,v,rfl,hca,hcl,hcc,hu⟩:∃c v,p=some ⟨c,0,none⟩/\AA c/\c<w.heap.size/\w.cell? ⟨c,0,none⟩=some v/\jJ w AA u v:=by
  cases hN with
  |node _ _ _ _ _ _ _ _ _ p' cap' us hq' hb' hc' ht'=>
   have e2:=hq.symm.trans hb';simp at e2;obtain⟨c,h1,h2,h3,h4⟩:=hc' 0 u rfl;exact⟨c,us 0,by rw [e2.1];exact h1,h2,h3,h4,ht' 0 u rfl⟩
 obtain⟨q2,rfl⟩:=hu.pointer;obtain⟨sz,hs⟩:∃sz,qt u=sz:=⟨_,rfl⟩;rw [hs] at hsz ⊢;have HSZ:=j0 hs;have HB:=j0 (And.intro hsz (And.intro hlo.1 (And.intro hlo.2 hhi)));have HO:=j0 hO;have HU:=j0 hu;have HQ:=j0 hq;have HQL:=j0 (jS hq);have HQM:=j0 (fun e:some q=some mb=>hmb q hqa (Option.some.inj e));have HCL:=j0 hcl;have HCM:=j0 (fun e:some c=some mb=>hmb c hca (Option.some.inj e));have HCC:=j0 hcc;have HMB:=j0 hmb;have HM:=j0 hM;have x0:=jC hq 0;have hxl:=jS hq;simp only [List.getElem?_toArray,List.getElem?_cons_zero] at x0;clear hN hq hk hca hcl hcc hu hmb hM hO hs hsz hlo hhi hqa
 go_enter Tryz.func100,Tryz.ntmps100
 go_upto_region 2 with fail
 clear x0 hxl;refine Reg.wp_region_C (ZJ mb q c cap q2 lo hi sz) (fun _ X=>w.grownBy X (some mb)/\vI X mb AA) [0,1,2,3,4,5,6,7,8,9,10,11,12,13,14,15,16,17] (by rfl) (by kernel_rfl) (by kernel_rfl) ?_ ?_ ?_
 ·exact⟨⟨rfl,rfl,rfl,jN _,fun _ _ _=>rfl⟩,HM.out.up (Below.drew (Below.refl _ _))⟩
 ·iterate 2
   refine Reg.oC (fun listed A X hI hcl hin hun hall _=> ?_) ?_
   ·have E:=hI.tf hun hall vJ;simp only [Reg.TF,vJ,Reg.la,Reg.lb,Reg.lc] at E;have hX:w.grownBy X (some mb)/\vI X mb AA:=hI.st;have HX:=j0 hX;clear hI hall hX hcl
    go_simp
    first|rfl|exact⟨rfl,HX.out⟩|(refine⟨?_,HX.out⟩;simp [ZJ];done)
  iterate 3
   refine Reg.oC (fun listed A X hI hcl hin hun hall _=> ?_) ?_
   ·have E:=hI.tf hun hall vJ;simp only [Reg.TF,vJ,ZJ] at E;have hX:w.grownBy X (some mb)/\vI X mb AA:=hI.st;have hb:=(hX.1.block q HQL.out HQM.out).trans HQ.out;have y8:=jC hb 8;have hyl:=jS hb;simp only [Reg.la,Reg.lb,Reg.lc] at y8;clear hb;have HX:=j0 hX;clear hI hall hX hcl
    go_simp
    first|rfl|exact⟨rfl,HX.out⟩|(refine⟨?_,HX.out⟩;simp [ZJ];done)
  refine Reg.oC (fun listed A X hI hcl hin hun hall _=> ?_) ?_
  ·have e17:A.tmps[17]? =some (.slice (some ⟨c,0,none⟩) 1 cap):=hI.v hall 4 17;have hX:w.grownBy X (some mb)/\vI X mb AA:=hI.st;have HX:=j0 hX;clear hI hall hX hcl
   go_simp
   first|rfl|exact⟨rfl,HX.out⟩|(refine⟨?_,HX.out⟩;simp [ZJ];done)
  refine Reg.oC (fun listed A X hI hcl hin hun hall _=> ?_) ?_
  ·have e18:A.tmps[18]? =some (.pointer (some ⟨c,0,none⟩)):=hI.v hall 5 18;have hX:w.grownBy X (some mb)/\vI X mb AA:=hI.st;have f:=(World.cell?_of_block (w:=w) (a:=⟨c,0,none⟩) (hX.1.block c HCL.out HCM.out)).trans HCC.out;have HX:=j0 hX;clear hI hall hX hcl
   go_simp
   first|rfl|exact⟨rfl,HX.out⟩|(refine⟨?_,HX.out⟩;simp [ZJ];done)
  refine Reg.oC (fun listed A X hI hcl hin hun hall _=> ?_) ?_
  ·have e13:A.tmps[13]? =some (.map (some mb)):=hI.v hall 0 13;have e19:A.tmps[19]? =some (.pointer (some ⟨q2,0,none⟩)):=hI.v hall 6 19;have hX:w.grownBy X (some mb)/\vI X mb AA:=hI.st;have HX:=j0 hX;clear hI hall hX hcl
   go_simp
   exact(HO.out AA q2 mb X (HU.out.keep HX.out.1 (fun b hb e=>HMB.out b hb (Option.some.inj e).symm)) HMB.out HX.out.2).mono fun e w2 h=>by
    obtain⟨he,hg,hm⟩:=h;rw [HSZ.out] at he;exact⟨_,he,rfl,vy HX.out.1 hg,hm⟩
  refine Reg.oC (fun listed A X hI hcl hin hun hall _=> ?_) ?_
  ·have e1:=hI.wo 1 rfl;have hX:w.grownBy X (some mb)/\vI X mb AA:=hI.st;have HX:=j0 hX;clear hI hall hX hcl
   go_simp
   first|rfl|exact⟨rfl,HX.out⟩|(refine⟨?_,HX.out⟩;simp [ZJ];done)
  iterate 3
   refine Reg.oC (fun listed A X hI hcl hin hun hall _=> ?_) ?_
   ·have E:=hI.tf hun hall vJ;simp only [Reg.TF,vJ,ZJ] at E;have hX:w.grownBy X (some mb)/\vI X mb AA:=hI.st;have hb:=(hX.1.block q HQL.out HQM.out).trans HQ.out;have y5:=jC hb 5;have hyl:=jS hb;simp only [Reg.la,Reg.lb,Reg.lc] at y5;clear hb;have HX:=j0 hX;clear hI hall hX hcl
    go_simp
    first|rfl|exact⟨rfl,HX.out⟩|(refine⟨?_,HX.out⟩;simp [ZJ];done)
  refine Reg.oC (fun listed A X hI hcl hin hun hall _=> ?_) ?_
  ·have e1:=hI.wo 1 rfl;have hX:w.grownBy X (some mb)/\vI X mb AA:=hI.st;have HX:=j0 hX;clear hI hall hX hcl
   go_simp
   first|rfl|exact⟨rfl,HX.out⟩|(refine⟨?_,HX.out⟩;simp [ZJ];done)
  iterate 3
   refine Reg.oC (fun listed A X hI hcl hin hun hall _=> ?_) ?_
   ·have E:=hI.tf hun hall vJ;simp only [Reg.TF,vJ,ZJ] at E;have hX:w.grownBy X (some mb)/\vI X mb AA:=hI.st;have hb:=(hX.1.block q HQL.out HQM.out).trans HQ.out;have y6:=jC hb 6;have hyl:=jS hb;simp only [Reg.la,Reg.lb,Reg.lc] at y6;clear hb;have HX:=j0 hX;clear hI hall hX hcl
    go_simp
    first|rfl|exact⟨rfl,HX.out⟩|(refine⟨?_,HX.out⟩;simp [ZJ];done)
  refine Reg.oC (fun listed A X hI hcl hin hun hall _=> ?_) ?_
  ·have e20:A.tmps[20]? =some (.int .i64 sz):=hI.v hall 7 20;have e24:A.tmps[24]? =some (.int .i64 lo):=hI.v hall 11 24;have e28:A.tmps[28]? =some (.int .i64 hi):=hI.v hall 15 28;have hX:w.grownBy X (some mb)/\vI X mb AA:=hI.st;have HX:=j0 hX;clear hI hall hX hcl
   go_simp
   exact(U5 sz lo hi X HB.out.1 HB.out.2.1 HB.out.2.2.1 HB.out.2.2.2).mono fun e w2 h=>by
    obtain⟨he,hb⟩:=h;exact⟨_,he,rfl,vy HX.out.1 (qC _ hb),HX.out.2.up hb⟩
  refine Reg.oC (fun listed A X hI hcl hin hun hall _=> ?_) ?_
  ·have e29:A.tmps[29]? =some (.int .i64 (qQ sz lo hi)):=hI.v hall 16 29;have hX:w.grownBy X (some mb)/\vI X mb AA:=hI.st;have HX:=j0 hX;clear hI hall hX hcl
   go_simp
   first|rfl|exact⟨rfl,HX.out⟩|(refine⟨?_,HX.out⟩;simp [ZJ];done)
  trivial
 ·intro X hS;have HX:=j0 hS;clear hS;simp [Reg.finalTmps,Reg.dstAt,Reg.valOf,ZJ]
  go_wp2_with fail
  go_ret
  exact⟨rfl,HX.out.1,HX.out.2⟩
theorem jJ.kidA{w:World}{A:Nat->Prop}{k:Int}{s:W4}{lo hi:Int}{z:Bool}{a b:Nat}{l:List Tr}{q:Nat}(h:jJ w A (.mk k s lo hi z a b l) (j6 q)):
  ∃p cap,A q/\w.heap[q]? =some (vn k s lo hi z (.slice p l.length cap) a b)/\∀(i:Nat) (t:Tr),l[i]? =some t->∃c q',p=some ⟨c,0,none⟩/\A c/\c<w.heap.size/\w.cell? ⟨c,i,none⟩=some (j6 q')/\jJ w A t (j6 q'):=by
 cases h with
 |node _ _ _ _ _ _ _ _ _ p cap us hq hb hc ht=>
  refine⟨p,cap,hq,hb,fun i t hi=> ?_⟩;obtain⟨c,h1,h2,h3,h4⟩:=hc i t hi;obtain⟨q',h5⟩:=(ht i t hi).pointer;exact⟨c,q',h1,h2,h3,by rw [h4,h5],by have:=ht i t hi;rw [h5] at this;exact this⟩
theorem Kh(k:Int)(hk6:k≠6)(s:W4)(lo hi:Int)(z:Bool)(na nb:Nat)(l:List Tr)(hO:∀u∈l,OfC u)(hl1:0<l.length)(hl2:l.length<=1000000000)(hsz:∀u∈l,qt u<=top)(AA:Nat->Prop)(q mb:Nat)(w:World)(hN:jJ w AA (.mk k s lo hi z na nb l) (j6 q))(hmb:∀b,AA b->b≠mb)(hM:vI w mb AA):
  Calls Tryz.prog 100 #[.map (some mb),j6 q] w fun e w'=>e=.returned (.int .i64 (ve ((l.length:Int)-1) (l.map qt)))/\w.grownBy w' (some mb)/\vI w' mb AA:=by
 obtain⟨p,cap,hqa,hq,hkid⟩:=hN.kidA;have HO:=j0 hO;have HK:=j0 hkid;have HSZ:=j0 hsz;have HMB:=j0 hmb;have HM:=j0 hM;have HQ:=j0 hq;have HG0:=j0 (zn w (some mb));have x0:=jC hq 0;have x8:=jC hq 8;have hxl:=jS hq;simp only [Reg.la,Reg.lb,Reg.lc] at x0 x8;have k6:((k:Int)==6)=false:=by simpa using hk6
 clear hN hqa hq hkid hO hsz hmb hM hk6
 go_enter Tryz.func100,Tryz.ntmps100
 go_wp2_with fail
 clear x0 x8 hxl
 go_loopw [5,41] (fun sv iv wr=>∃i:Nat,i<=l.length/\iv=.int .i64 (i:Int)/\sv=.int .i64 (ve ((l.length:Int)-1) ((l.map qt).take i))/\Hid (w.grownBy wr (some mb))/\Hid (vI wr mb AA)) (fun _ iv _=>l.length-(intOf iv).toNat)
 case atStart=>exact⟨0,by omega,rfl,rfl,HG0,HM⟩
 case round=>
  obtain⟨i,hi2,rfl,rfl,HG,HM⟩:=hrel
  by_cases hlt:i<l.length
  ·obtain⟨u,hu⟩:∃u,l[i]? =some u:=⟨_,List.getElem?_eq_getElem hlt⟩;have hm:=List.mem_of_getElem? hu;obtain⟨c,q',rfl,hca,hcl,hcc,hnu⟩:=HK.out i u hu;have hcell:wr.cell? ⟨c,i,none⟩=some (j6 q'):=(World.cell?_of_block (w:=w) (a:=⟨c,i,none⟩) (HG.out.block c hcl (fun e=>HMB.out c hca (Option.some.inj e)))).trans hcc;have HC:=j0 (HO.out u hm AA q' mb wr (hnu.keep HG.out (fun b hb e=>HMB.out b hb (Option.some.inj e).symm)) HMB.out HM.out);obtain⟨acc,hacc⟩:∃a,ve ((l.length:Int)-1) ((l.map qt).take i)=a:=⟨_,rfl⟩;obtain⟨x,hx⟩:∃x,qt u=x:=⟨_,rfl⟩;have HT:=j0 (addS_take ((l.length:Int)-1) (l.map qt) i (qt u) (by rw [List.getElem?_map,hu];rfl));have HB:=j0 (And.intro (addS_le ((l.length:Int)-1) ((l.map qt).take i) (by unfold top;omega)) (HSZ.out u hm));rw [hacc,hx] at HT HB;rw [hx] at HC;rw [hacc];clear hu hm hca hcl hcc hnu hacc hx
   go_wp2_with fail
   refine HC.out.mono ?_;rintro e w2 ⟨rfl,g2,m2⟩;have HG2:=j0 (vy HG.out g2);have HM2:=j0 m2;clear g2 m2 HC hcell;obtain⟨w3,hw3⟩:∃Y,Y=w2.alloc (.cells #[.int .i64 acc,.int .i64 x] 3):=⟨_,rfl⟩;have b3:Below w2.heap.size w2 w3:=by rw [hw3];exact j3 _ _
   have K3:=j0 (xY w2.heap.size 2 [acc,x] w3 (by simp) (fun z hz=>by
    simp only [List.mem_cons,List.not_mem_nil,or_false] at hz
    rcases hz with h|h
    ·rw [h];exact HB.out.1
    ·rw [h];exact HB.out.2
    ) (by rw [hw3];exact j1 w2 _))
   have HG3:=j0 (vy HG2.out (qC _ b3));have HM3:=j0 (HM2.out.up b3);clear b3 HG2 HM2
   go_wp2_with fail
   rw [<-hw3];clear hw3;refine K3.out.mono ?_;rintro e wz ⟨rfl,hz⟩;obtain rfl:w3=wz:=hz;clear K3
   go_wp2_with fail
   go_roundw
   case rel=>first|exact⟨i+1,by omega,by go_num,by rw [HT.out],HG3,HM3⟩|((repeat apply Exists.intro);refine⟨?_,rfl⟩;exact⟨i+1,by omega,by go_num,by rw [HT.out],HG3,HM3⟩)
   case measure=>simp [intOf];omega
  ·obtain rfl:i=l.length:=by omega
   have e:(l.map qt).take l.length=l.map qt:=List.take_of_length_le (by simp);rw [e];clear e
   go_wp2_with fail
   go_ret
   exact⟨rfl,HG.out,HM.out⟩
theorem VG{w:World}{A:Nat->Prop}{u:Tr}{q:Nat}(h:jJ w A u (j6 q)):Je w q:=by
 obtain⟨k,s,lo,hi,z,a,b,l⟩:=u;obtain⟨p,cap,_,hb,_⟩:=h.kidA;exact⟨_,_,hb⟩
theorem gotD_mem{D:List (Nat×Int)}{q:Nat}{v:Int}(h:gotD D q=(v,true)):(q,v)∈D:=by
 induction D with
 |nil=>rw [gotD] at h;cases h
 |cons p D ih=>
  rw [gotD] at h
  split at h
  ·rename_i e
   injection h with h1 _;rw [e,<-h1];exact List.mem_cons_self ..
  ·exact List.mem_cons_of_mem _ (ih h)
theorem zG(k:Int)(s:W4)(lo hi:Int)(z:Bool)(na nb:Nat)(l:List Tr)(hl2:l.length<=1000000000)(hmd:0<l.length->∀(AA:Nat->Prop) (q mb:Nat) (w:World),jJ w AA (.mk k s lo hi z na nb l) (j6 q)->(∀b,AA b->b≠mb)->vI w mb AA->
   Calls Tryz.prog 100 #[.map (some mb),j6 q] w fun e w'=>e=.returned (.int .i64 (qt (.mk k s lo hi z na nb l)))/\w.grownBy w' (some mb)/\vI w' mb AA):OfC (.mk k s lo hi z na nb l):=by
 intro AA q mb w hN hmb hM;obtain⟨p,cap,hqa,hq,_⟩:=hN.kidA;have x8:=jC hq 8;have hxl:=jS hq;simp only [Reg.la,Reg.lb,Reg.lc] at x8;obtain⟨sz,hs⟩:∃sz,qt (.mk k s lo hi z na nb l)=sz:=⟨_,rfl⟩;have HS:=j0 hs;rw [hs] at hmd ⊢
 by_cases h0:l.length=0
 ·obtain rfl:l= []:=List.eq_nil_of_length_eq_zero h0;have HR:Hid (sz=1):=j0 (by rw [<-HS.out,qt,Yx];rfl);have HM:=j0 hM;have HG:=j0 (zn w (some mb));clear hN hmb hM hmd hq hqa hs h0 hl2;simp only [List.length_nil] at x8
  go_enter Tryz.func55,Tryz.ntmps55
  go_wp2_with fail
  go_ret
  exact⟨by rw [HR.out];rfl,HG.out,HM.out⟩
 ·have hl1:0<l.length:=by omega
  obtain⟨n,hn⟩:∃n,l.length=n+1:=⟨l.length-1,by omega⟩;rw [hn] at x8;obtain⟨D,hD1,hD2⟩:=hM;have hDI:∀p∈D,Je w p.1:=fun p hp=>by obtain⟨u,h1,_⟩:=hD2 p hp;exact VG h1
  have LK:=lookup_sz hD1 (VG hN) hDI;obtain⟨v,b,hv⟩:∃v b,gotD D q=(v,b):=⟨_,_,rfl⟩;rw [hv] at LK
  cases b with
  |true=>
   have HR:Hid (v=sz):=j0 (by
    obtain⟨u,h1,h2⟩:=hD2 _ (gotD_mem hv)
    rw [<-HS.out,<-h1.uniq hN];exact h2)
   have HM:=j0 (show vI w mb AA from⟨D,hD1,hD2⟩);have HG:=j0 (zn w (some mb));clear hN hmb hmd hq hqa hs h0 hl1 hl2 hn hD1 hD2 hDI hv
   go_enter Tryz.func55,Tryz.ntmps55
   go_wp2_with fail
   go_ret
   exact⟨by rw [<-HR.out];rfl,HG.out,HM.out⟩
  |false=>
   have HMd:=j0 (hmd hl1 AA q mb w hN hmb ⟨D,hD1,hD2⟩);have HN:=j0 hN;have HMB:=j0 hmb;clear hN hmb hmd hq hqa hs h0 hl1 hl2 hn hD1 hD2 hDI hv
   go_enter Tryz.func55,Tryz.ntmps55
   go_wp2_with fail
   refine HMd.out.mono ?_;rintro e w2 ⟨rfl,g2,m2⟩;obtain⟨D2,hE1,hE2⟩:=m2;have hN2:=HN.out.keep g2 (fun b hb e=>HMB.out b hb (Option.some.inj e).symm);obtain⟨w3,hup,hP3,g3⟩:=update_sz sz hE1 (VG hN2) (fun p hp=>by obtain⟨u,h1,_⟩:=hE2 p hp;exact VG h1)
   have HM3:Hid (vI w3 mb AA):=j0 ⟨_,hP3,fun p hp=>by
    have kp:∀u q',jJ w2 AA u (j6 q')->jJ w3 AA u (j6 q'):=fun u q' h=>h.keep g3 (fun b hb e=>HMB.out b hb (Option.some.inj e).symm)
    rcases mem_putV hp with h|h
    ·obtain⟨u,h1,h2⟩:=hE2 p h;exact⟨u,kp _ _ h1,h2⟩
    ·subst h
     exact⟨_,kp _ _ hN2,HS.out.symm⟩⟩
   have HG3:=j0 (vy g2 g3);clear hE1 hE2 hN2 hP3 g2 g3 LK x8 hxl
   go_wp2_with fail
   go_ret
   exact⟨rfl,HG3.out,HM3.out⟩
end
end Go.Proofs.YtnmalggmbeipaaaGreatDoor
