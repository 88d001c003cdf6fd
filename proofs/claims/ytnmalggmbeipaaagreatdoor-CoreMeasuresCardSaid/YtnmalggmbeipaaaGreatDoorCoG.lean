/- A part of the proof. -/
import Derived.Test.YtnmalggmbeipaaaGreatDoorCoE
set_option maxRecDepth 100000
set_option maxHeartbeats 16000000
namespace Go.Proofs.YtnmalggmbeipaaaGreatDoor
section
open Go Go.RowKit
attribute [local go_sem ↓] Go.wp_at_zero Go.wp_at_succ
attribute [local go_sem] qX
theorem crep_any(AA:Nat->Prop)(m:Nat)(hi:Int)(z:Bool)(na nb:Nat)(u:Tr)(q:Nat)(w:World)(hN:jJ w AA (.mk 6 j7 (m:Int) hi z na nb [u]) (j6 q))(hm:m<=1000)(hh:hi= -1\/((m:Int)<=hi/\hi<=1000))(hB:yK u)(hne:jo u≠ .nil):
  Calls Tryz.prog 105 #[j6 q] w fun e w'=>∃v,e=.returned v/\jD w' (V3 (m:Int) hi z (jo u)) v/\Below w.heap.size w w':=by
 obtain⟨q',p,cap,e,_,hq,_⟩:=hN.head;injection e with e;injection e with e;injection e with e;subst e;have x5:=jC hq 5;have hql:=jS hq;simp only [Reg.la,Reg.lb,Reg.lc,List.length_cons,List.length_nil] at x5;have HCP:=j0 (KL AA 6 j7 (m:Int) hi z na nb u q m w hN hm hB hne);have HTL:=j0 (fun(X:World) (hX:Below w.heap.size w X)=>ctail_any AA (m:Int) hi z na nb u q X (hN.up hX) (hh.imp_right fun h=>⟨by omega,h.1,h.2⟩) hB hne);have HM:=j0 hm;have HNE:=j0 hne;obtain⟨res,hres⟩:∃r,r=V3 (m:Int) hi z (jo u):=⟨_,rfl⟩;rw [<-hres];have HRES:Hid (res=Jp ((List.replicate m (jo u)).foldr (k9 2) (yL (m:Int) hi z (jo u)))):=j0 (by rw [hres];unfold V3;rw [Int.toNat_natCast]);clear hN hq hB hne hh hm hres
 go_enter Tryz.func105,Tryz.ntmps105
 go_wp2_with fail
 refine HCP.out.mono ?_;rintro e w1 ⟨r1,rfl,hr1,hb1⟩;have HR1:=j0 hr1;have HB1:=j0 hb1;clear hr1 hb1 HCP x5 hql
 go_wp2_with fail
 refine(HTL.out w1 HB1.out).mono ?_;rintro e w2 ⟨v2,rfl,hc2,hb2⟩;have HR2:=j0 (HR1.out.up hb2);have HC2:=j0 hc2;have HB2:=j0 (HB1.out.trans (hb2.mono HB1.out.size));clear hc2 hb2 HTL HR1
 go_wp2_with fail
 refine(vA 2 w2).mono ?_;rintro e wj ⟨rfl,hwj⟩;have bj:Below w2.heap.size w2 wj:=by rw [hwj];exact j3 _ _
 have kj:wj.heap[w2.heap.size]? =some (.cells #[.int .i64 2] 3):=by rw [hwj];exact j1 _ _
 have HF:=j0 (zN 151 #[.pointer (some ⟨w2.heap.size,0,none⟩)] (k9 2) (List.replicate m (jo u)) (yL (m:Int) hi z (jo u)) (r1) (v2) wj Jb (fun x hx=>by rw [(List.mem_replicate.1 hx).2];exact HNE.out) (by rw [List.length_replicate];have:=HM.out;omega) ((HR2.out).up bj) ((HC2.out).up bj) (fun Y hY c b vc vb _ hc hb=>cjoined1_any 2 w2.heap.size c b vc vb Y ((jC (j4 hY kj) 0).trans rfl) hc hb));have HBJ:=j0 (HB2.out.trans (bj.mono HB2.out.size));clear hwj bj kj
 go_wp2_with fail
 refine HF.out.mono ?_;rintro e w4 ⟨v4,rfl,hcx,hbx⟩;have HCv4:=j0 hcx;have HBw4:=j0 (HBJ.out.trans (hbx.mono HBJ.out.size));clear hcx hbx HF
 rcases HCv4.out.nil_iff with ⟨h1,rfl⟩|⟨h1,q4,rfl⟩
 ·have HE:=j0 (yC w4);have HBE:=j0 (HBw4.out.trans ((j3 w4 (yH 0 j7 false (.pointer none) (.pointer none))).mono HBw4.out.size));have HQ:Hid (res=yD):=j0 (by rw [HRES.out,h1];rfl);clear h1
  go_wp2_with fail
  go_ret
  exact⟨_,rfl,by rw [HQ.out];exact HE.out,HBE.out⟩
 ·have HQ:Hid (res=(List.replicate m (jo u)).foldr (k9 2) (yL (m:Int) hi z (jo u))):=j0 (by
   rw [HRES.out]
   cases h:(List.replicate m (jo u)).foldr (k9 2) (yL (m:Int) hi z (jo u)) with
   |nil=>exact absurd h h1
   |node=>rfl)
  clear h1
  go_wp2_with fail
  go_ret
  exact⟨_,rfl,by rw [HQ.out];exact HCv4.out,HBw4.out⟩
theorem build_cat(l:List Tr)(a b:Nat)(hl:∀u∈l,yK u)(hne:∀u∈l,jo u≠ .nil)(hsz:l.length<=1000000000)(AA:Nat->Prop)(q:Nat)(w:World)(hN:jJ w AA (.mk 4 j7 0 0 false a b l) (j6 q)):
  Calls Tryz.prog 58 #[j6 q] w fun e w'=>∃v,e=.returned v/\jD w' ((l.map jo).foldr (k9 2) .nil) v/\Below w.heap.size w w':=by
 obtain⟨q',p,cap,e,_,hq,hk⟩:=hN.head;injection e with e;injection e with e;injection e with e;subst e;have x0:=jC hq 0;have hql:=jS hq;have x8:=jC hq 8;simp only [Reg.la,Reg.lb,Reg.lc] at x0 x8;have HA:=j0 (QP AA l (.slice p l.length cap) w hl hne hsz ⟨p,cap,rfl,fun i u hu=>by obtain⟨c,v,h1,h2,h3,h4⟩:=hk i u hu;obtain⟨q2,rfl⟩:=h4.pointer;exact⟨c,q2,h1,h2,h3,h4⟩⟩);have HNE:=j0 hne;have HSZ:=j0 hsz;clear hN hq hk hl hne hsz
 go_enter Tryz.func58,Tryz.ntmps58
 go_wp2_with fail
 refine HA.out.mono ?_;rintro e w1 ⟨r1,rfl,hr1,hb1⟩;have HR1:=j0 hr1;have HB1:=j0 hb1;clear hr1 hb1 HA x0 x8 hql
 go_wp2_with fail
 refine(vA 2 w1).mono ?_;rintro e wj ⟨rfl,hwj⟩;have bj:Below w1.heap.size w1 wj:=by rw [hwj];exact j3 _ _
 have kj:wj.heap[w1.heap.size]? =some (.cells #[.int .i64 2] 3):=by rw [hwj];exact j1 _ _
 have HF:=j0 (zN 151 #[.pointer (some ⟨w1.heap.size,0,none⟩)] (k9 2) (l.map jo) (.nil) (r1) (.pointer none) wj Jb (fun x hx=>by obtain⟨u,hu,rfl⟩:=List.mem_map.1 hx;exact HNE.out u hu) (by rw [List.length_map];have:=HSZ.out;omega) ((HR1.out).up bj) (((jD.nil (w:=w1))).up bj) (fun Y hY c b vc vb _ hc hb=>cjoined1_any 2 w1.heap.size c b vc vb Y ((jC (j4 hY kj) 0).trans rfl) hc hb));have HBJ:=j0 (HB1.out.trans (bj.mono HB1.out.size));clear hwj bj kj
 go_wp2_with fail
 refine HF.out.mono ?_;rintro e w4 ⟨v4,rfl,hcx,hbx⟩;have HCv4:=j0 hcx;have HBw4:=j0 (HBJ.out.trans (hbx.mono HBJ.out.size));clear hcx hbx HF
 go_wp2_with fail
 go_ret
 exact⟨_,rfl,HCv4.out,HBw4.out⟩
theorem build_alt(l:List Tr)(a b:Nat)(hl:∀u∈l,yK u)(hne:∀u∈l,jo u≠ .nil)(hsz:l.length<=1000000000)(AA:Nat->Prop)(q:Nat)(w:World)(hN:jJ w AA (.mk 5 j7 0 0 false a b l) (j6 q)):
  Calls Tryz.prog 58 #[j6 q] w fun e w'=>∃v,e=.returned v/\jD w' ((l.map jo).foldr (k9 3) .nil) v/\Below w.heap.size w w':=by
 obtain⟨q',p,cap,e,_,hq,hk⟩:=hN.head;injection e with e;injection e with e;injection e with e;subst e;have x0:=jC hq 0;have hql:=jS hq;have x8:=jC hq 8;simp only [Reg.la,Reg.lb,Reg.lc] at x0 x8;have HA:=j0 (QP AA l (.slice p l.length cap) w hl hne hsz ⟨p,cap,rfl,fun i u hu=>by obtain⟨c,v,h1,h2,h3,h4⟩:=hk i u hu;obtain⟨q2,rfl⟩:=h4.pointer;exact⟨c,q2,h1,h2,h3,h4⟩⟩);have HNE:=j0 hne;have HSZ:=j0 hsz;clear hN hq hk hl hne hsz
 go_enter Tryz.func58,Tryz.ntmps58
 go_wp2_with fail
 refine HA.out.mono ?_;rintro e w1 ⟨r1,rfl,hr1,hb1⟩;have HR1:=j0 hr1;have HB1:=j0 hb1;clear hr1 hb1 HA x0 x8 hql
 go_wp2_with fail
 refine(vA 3 w1).mono ?_;rintro e wj ⟨rfl,hwj⟩;have bj:Below w1.heap.size w1 wj:=by rw [hwj];exact j3 _ _
 have kj:wj.heap[w1.heap.size]? =some (.cells #[.int .i64 3] 3):=by rw [hwj];exact j1 _ _
 have HF:=j0 (zN 151 #[.pointer (some ⟨w1.heap.size,0,none⟩)] (k9 3) (l.map jo) (.nil) (r1) (.pointer none) wj Jb (fun x hx=>by obtain⟨u,hu,rfl⟩:=List.mem_map.1 hx;exact HNE.out u hu) (by rw [List.length_map];have:=HSZ.out;omega) ((HR1.out).up bj) (((jD.nil (w:=w1))).up bj) (fun Y hY c b vc vb _ hc hb=>cjoined1_any 3 w1.heap.size c b vc vb Y ((jC (j4 hY kj) 0).trans rfl) hc hb));have HBJ:=j0 (HB1.out.trans (bj.mono HB1.out.size));clear hwj bj kj
 go_wp2_with fail
 refine HF.out.mono ?_;rintro e w4 ⟨v4,rfl,hcx,hbx⟩;have HCv4:=j0 hcx;have HBw4:=j0 (HBJ.out.trans (hbx.mono HBJ.out.size));clear hcx hbx HF
 go_wp2_with fail
 go_ret
 exact⟨_,rfl,HCv4.out,HBw4.out⟩
theorem XZ(_s:W4)(a b:Nat)(AA:Nat->Prop)(q:Nat)(w:World)(hN:jJ w AA (.mk 0 j7 0 0 false a b []) (j6 q)):
  Calls Tryz.prog 58 #[j6 q] w fun e w'=>∃v,e=.returned v/\jD w' (yD) v/\Below w.heap.size w w':=by
 obtain⟨q',p,cap,e,_,hq,hk⟩:=hN.head;injection e with e;injection e with e;injection e with e;subst e;have x0:=jC hq 0;have hql:=jS hq;have x1:=jC hq 1;have x2:=jC hq 2;have x3:=jC hq 3;have x4:=jC hq 4;simp only [Reg.la,Reg.lb,Reg.lc,List.length_nil] at x0 x1 x2 x3 x4;have HE:=j0 (yC w);have HB:=j0 (j3 w (yH 0 j7 false (.pointer none) (.pointer none)));clear hN hq hk
 go_enter Tryz.func58,Tryz.ntmps58
 go_wp2_with fail
 go_ret
 exact⟨_,rfl,HE.out,HB.out⟩
theorem build_set(s:W4)(a b:Nat)(AA:Nat->Prop)(q:Nat)(w:World)(hN:jJ w AA (.mk 1 s 0 0 false a b []) (j6 q)):
  Calls Tryz.prog 58 #[j6 q] w fun e w'=>∃v,e=.returned v/\jD w' (.node 1 s false .nil .nil) v/\Below w.heap.size w w':=by
 obtain⟨q',p,cap,e,_,hq,hk⟩:=hN.head;injection e with e;injection e with e;injection e with e;subst e;have x0:=jC hq 0;have hql:=jS hq;have x1:=jC hq 1;have x2:=jC hq 2;have x3:=jC hq 3;have x4:=jC hq 4;simp only [Reg.la,Reg.lb,Reg.lc,List.length_nil] at x0 x1 x2 x3 x4;have HE:=j0 (jD.new (w:=w) (k:=1) (s:=s) (z:=false) .nil .nil);have HB:=j0 (j3 w (yH 1 s false (.pointer none) (.pointer none)));clear hN hq hk
 go_enter Tryz.func58,Tryz.ntmps58
 go_wp2_with fail
 go_ret
 exact⟨_,rfl,HE.out,HB.out⟩
theorem XY(k:Int)(hk2:k=2\/k=3)(a b:Nat)(u:Tr)(hB:yK u)(AA:Nat->Prop)(q:Nat)(w:World)(hN:jJ w AA (.mk k j7 0 0 false a b [u]) (j6 q)):
  Calls Tryz.prog 58 #[j6 q] w fun e w'=>∃v,e=.returned v/\jD w' (jo u) v/\Below w.heap.size w w':=by
 obtain⟨q',p,cap,e,_,hq,hk⟩:=hN.head;injection e with e;injection e with e;injection e with e;subst e;obtain⟨c,v,rfl,hcl,hcc,hu⟩:=hk 0 u rfl;obtain⟨q2,rfl⟩:=hu.pointer;have x0:=jC hq 0;have hql:=jS hq;have x8:=jC hq 8;simp only [Reg.la,Reg.lb,Reg.lc,List.length_cons,List.length_nil] at x0 x8;have HB:=j0 (hB AA q2 w hu);clear hN hq hk hu hB
 rcases hk2 with rfl|rfl
 all_goals
  go_enter Tryz.func58,Tryz.ntmps58
  go_wp2_with fail
  refine HB.out.mono ?_;rintro e w1 ⟨v1,rfl,hc1,hb1⟩;have HC:=j0 hc1;have HB1:=j0 hb1;clear hc1 hb1
  go_wp2_with fail
  go_ret
  exact⟨_,rfl,HC.out,HB1.out⟩
theorem build_rep(m:Nat)(hi:Int)(z:Bool)(a b:Nat)(u:Tr)(hm:m<=1000)(hh:hi= -1\/((m:Int)<=hi/\hi<=1000))(hB:yK u)(hne:jo u≠ .nil)(AA:Nat->Prop)(q:Nat)(w:World)(hN:jJ w AA (.mk 6 j7 (m:Int) hi z a b [u]) (j6 q)):
  Calls Tryz.prog 58 #[j6 q] w fun e w'=>∃v,e=.returned v/\jD w' (V3 (m:Int) hi z (jo u)) v/\Below w.heap.size w w':=by
 have HR:=j0 (crep_any AA m hi z a b u q w hN hm hh hB hne);obtain⟨q',p,cap,e,_,hq,hk⟩:=hN.head;injection e with e;injection e with e;injection e with e;subst e;have x0:=jC hq 0;have hql:=jS hq;simp only [List.getElem?_toArray,List.getElem?_cons_zero,List.length_cons,List.length_nil] at x0;clear hN hq hk hB hne hh hm
 go_enter Tryz.func58,Tryz.ntmps58
 go_wp2_with fail
 refine HR.out.mono ?_;rintro e w1 ⟨v1,rfl,hc1,hb1⟩;have HC:=j0 hc1;have HB1:=j0 hb1;clear hc1 hb1
 go_wp2_with fail
 go_ret
 exact⟨_,rfl,HC.out,HB1.out⟩
theorem build_any{t:Tr}(h:zu t):jc t<=1000000000->yK t:=by
 induction h with
 |empty a b=>
  intro _ AA q w hN;exact XZ j7 a b AA q w hN
 |set s a b hs=>
  intro _ AA q w hN;exact build_set s a b AA q w hN
 |group k a b u hk hu ih=>
  intro hz AA q w hN
  have e:jo (.mk k j7 0 0 false a b [u])=jo u:=by
   rw [jo,kc]
   rcases hk with rfl|rfl<;>rfl
  rw [e];rw [jc,jz,jz] at hz;exact XY k hk a b u (ih (by omega)) AA q w hN
 |cat a b l hl hi h ih=>
  intro hz AA q w hN
  have e:jo (.mk 4 j7 0 0 false a b l)=(l.map jo).foldr (k9 2) .nil:=by
   rw [jo,kc];rfl
  rw [e];rw [jc] at hz;have hsl:=kZ l;exact build_cat l a b (fun u hu=>ih u hu (by have:=jZ hu;omega)) (fun u hu=>yF (h u hu)) (by omega) AA q w hN
 |alt a b l hl hi h ih=>
  intro hz AA q w hN
  have e:jo (.mk 5 j7 0 0 false a b l)=(l.map jo).foldr (k9 3) .nil:=by
   rw [jo,kc];rfl
  rw [e];rw [jc] at hz;have hsl:=kZ l;exact build_alt l a b (fun u hu=>ih u hu (by have:=jZ hu;omega)) (fun u hu=>yF (h u hu)) (by omega) AA q w hN
 |rep lo hi z a b u hc hu h ih=>
  intro hz AA q w hN
  obtain⟨h1,h2,h3⟩:0<=lo/\lo<=qM hi/\qM hi<=1000:=by
   unfold kS at hc;simpa using hc
  obtain⟨m,rfl⟩:∃m:Nat,lo=m:=⟨lo.toNat,by omega⟩
  have e:jo (.mk 6 j7 (m:Int) hi z a b [u])=V3 (m:Int) hi z (jo u):=by
   rw [jo,kc];rfl
  rw [e];rw [jc,jz,jz] at hz
  have hh:hi= -1\/((m:Int)<=hi/\hi<=1000):=by
   by_cases hm:hi= -1
   ·exact .inl hm
   ·right
    unfold qM at h2 h3;rw [if_neg hm] at h2 h3;exact⟨h2,h3⟩
  exact build_rep m hi z a b u (by omega) hh (ih (by omega)) (yF h) AA q w hN
end
end Go.Proofs.YtnmalggmbeipaaaGreatDoor
