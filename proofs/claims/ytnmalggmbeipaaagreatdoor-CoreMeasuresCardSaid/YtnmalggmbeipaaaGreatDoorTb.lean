/- A part of the proof. -/
import Derived.Test.YtnmalggmbeipaaaGreatDoorTa
import Derived.Laws.Externs
import Derived.Test.YtnmalggmbeipaaaGreatDoorRa
set_option maxRecDepth 100000
set_option maxHeartbeats 16000000
namespace Go.Proofs.YtnmalggmbeipaaaGreatDoor
section
section
open Go Go.RowKit
attribute [local go_sem ↓] Go.wp_at_zero Go.wp_at_succ
attribute [local go_sem] qX
def jf(t:W4)(e:Int):Value:=.tuple #[.agg #[.int .u64 t.a,.int .u64 t.b,.int .u64 t.c,.int .u64 t.d],.int .i64 e]
def j5:Obj:=.cells #[.int .u64 0,.int .u64 0,.int .u64 0,.int .u64 0] 29
def jh(b:Nat):W4:=⟨zg b 0,zg b 1,zg b 2,zg b 3⟩
def km(t:W4):W4:=⟨nt t.a,nt t.b,nt t.c,nt t.d⟩
abbrev jQ(w:World)(b:Nat)(t:W4):World:=
 (((w.setCell ⟨b,0,none⟩ (.int .u64 t.a)).setCell ⟨b,1,none⟩ (.int .u64 t.b)).setCell ⟨b,2,none⟩ (.int .u64 t.c)).setCell ⟨b,3,none⟩ (.int .u64 t.d)
theorem Rd.set{w w':World}{g j b:Nat}{s:ByteArray}(h:Rd w w' g s j)(hb:w.heap.size<=b)(hg:g<w.heap.size)(t:W4):Rd w (jQ w' b t) g s j:=
 (((h.store hb hg _).store hb hg _).store hb hg _).store hb hg _
theorem jn{W:World}{b:Nat}(h:W.heap[b]? =some j5):
  (W.cell? ⟨b,0,none⟩=some (.int .u64 0)/\W.cell? ⟨b,1,none⟩=some (.int .u64 0)/\W.cell? ⟨b,2,none⟩=some (.int .u64 0)/\W.cell? ⟨b,3,none⟩=some (.int .u64 0))/\
  (W.frozen? ⟨b,0,none⟩=false/\W.frozen? ⟨b,1,none⟩=false/\W.frozen? ⟨b,2,none⟩=false/\W.frozen? ⟨b,3,none⟩=false)/\b<W.heap.size:=
 ⟨⟨jC h 0,jC h 1,jC h 2,jC h 3⟩,⟨jU h 0,jU h 1,jU h 2,jU h 3⟩,jS h⟩
theorem tedge_any(g k:Nat)(s:ByteArray)(w:World)(h:jI w g s k):
  Calls Tryz.prog 245 #[.pointer (some ⟨g,0,none⟩)] w fun e w'=>e=.returned (jf j7 6)/\Rd w w' g s k:=by
 have HH:=j0 h;have hlt:=h.lt;have HA:=j0 (kg h j5);have HR2:Hid (Rd (w.alloc j5) (w.alloc j5) g s k):=j0 (Rd.refl HA.out);clear h
 go_enter Tryz.func245,Tryz.ntmps245
 go_wp2_with fail
 refine bodyPost_ret (v:=jf j7 6) (by simp [results,Tryz.results245,go_sem,jf,j7]) rfl ⟨rfl,?_⟩;exact⟨HR2.out.1,j8 HR2.out.2⟩
theorem Yp(g k:Nat)(s:ByteArray)(w:World)(h:jI w g s k):
  Calls Tryz.prog 246 #[.pointer (some ⟨g,0,none⟩)] w fun e w'=>e=.returned (jf j7 4)/\Rd w w' g s k:=by
 have HH:=j0 h;have hlt:=h.lt;have HA:=j0 (kg h j5);have HR2:Hid (Rd (w.alloc j5) (w.alloc j5) g s k):=j0 (Rd.refl HA.out);clear h
 go_enter Tryz.func246,Tryz.ntmps246
 go_wp2_with fail
 refine bodyPost_ret (v:=jf j7 4) (by simp [results,Tryz.results246,go_sem,jf,j7]) rfl ⟨rfl,?_⟩;exact⟨HR2.out.1,j8 HR2.out.2⟩
theorem Kq(g k:Nat)(s:ByteArray)(hk:k<s.size)(hs:s.size<=1099511627776)(w:World)(h:jI w g s k):
  Calls Tryz.prog 247 #[.pointer (some ⟨g,0,none⟩)] w fun e w'=>e=.returned (jf (jh (jl s k)) 0)/\Rd w w' g s (k+1):=by
 have HH:=j0 h;have hlt:=h.lt;have HA:=j0 (kg h j5);have ST:=j0 (fun n=>kO g 1 1 s k (by omega) ((w.alloc j5).drewN n) (qx HA.out n) rfl);have hb:((s[k]'hk).toNat)=jl s k:=(jy hk).symm;have hbl:=qk hk;have OF:=j0 (fun W=>xi (w:=W.alloc (.cells #[.int .u8 ((jl s k:Nat):Int)] 5)) (g:=W.heap.size) (k:=jl s k) hbl (j1 W _));rw [<-hb] at OF hbl;have hb2:jh (jl s k)=jh (s[k]'hk).toNat:=by rw [hb]
 rw [hb2];obtain⟨r0,r1,rz,rl⟩:=HA.out;unfold j5 at ST r0 r1 rz rl;clear h hb hb2
 go_enter Tryz.func247,Tryz.ntmps247
 go_wp2_with fail
 go_quiet (fail)
 go_wp2_with fail
 refine(ST.out nq).mono ?_;rintro e w2 ⟨rfl,hw2⟩;have HR2:Hid (Rd (w.alloc j5) w2 g s (k+1)):=j0 (((Rd.refl HA.out).drewN nq).put (by rw [hw2];rfl));clear hw2 r0 r1 rz rl
 go_wp2_with fail
 refine(OF.out w2).mono ?_;rintro e w3 ⟨rfl,hb3⟩;have HR3:Hid (Rd (w.alloc j5) w3 g s (k+1)):=j0 ((HR2.out.below (j3 w2 _)).below hb3);clear hb3;obtain⟨⟨q0,q1,q2,q3⟩,⟨f0,f1,f2,f3⟩,_hsz⟩:=jn (ja HH.out HR3.out);have HRw:Hid (Rd w w3 g s (k+1)):=j0 ⟨HR3.out.1,j8 HR3.out.2⟩
 go_wp2_with fail
 refine bodyPost_ret (v:=jf (jh (s[k]'hk).toNat) 0) (by simp [results,Tryz.results247,go_sem,jf,jh,q0,q1,q2,q3]) rfl ⟨rfl,?_⟩;exact HRw.out.set (jN _) hlt (jh (s[k]'hk).toNat)
theorem Yr(g k:Nat)(s:ByteArray)(hk:k<s.size)(hs:s.size<=1099511627776)(w:World)(h:jI w g s k):
  Calls Tryz.prog 244 #[.pointer (some ⟨g,0,none⟩)] w fun e w'=>e=.returned (jf (km (jh 10)) 0)/\Rd w w' g s (k+1):=by
 have HH:=j0 h;have hlt:=h.lt;have HA:=j0 (kg h j5);have ST:=j0 (kO g 1 1 s k (by omega) (w.alloc j5) HA.out rfl);have OF:=j0 (fun W=>xi (w:=W.alloc (.cells #[.int .u8 ((10:Nat):Int)] 5)) (g:=W.heap.size) (k:=10) (by omega) (j1 W _));have NO:=j0 (fun W=>Jt (zg 10 0) (zg 10 1) (zg 10 2) (zg 10 3) W);obtain⟨r0,r1,rz,rl⟩:=HA.out;unfold j5 at ST r0 r1 rz rl;clear h
 go_enter Tryz.func244,Tryz.ntmps244
 go_wp2_with fail
 refine ST.out.mono ?_;rintro e w2 ⟨rfl,hw2⟩;have HR2:Hid (Rd (w.alloc j5) w2 g s (k+1)):=j0 ((Rd.refl HA.out).put (by rw [hw2];rfl));clear hw2 r0 r1 rz rl
 go_wp2_with fail
 refine(OF.out w2).mono ?_;rintro e w3 ⟨rfl,hb3⟩;have HR3:Hid (Rd (w.alloc j5) w3 g s (k+1)):=j0 ((HR2.out.below (j3 w2 _)).below hb3);clear hb3
 go_wp2_with fail
 refine(NO.out w3).mono ?_;rintro e w4 ⟨rfl,hb4⟩;have HR4:=j0 (HR3.out.below hb4);clear hb4;obtain⟨⟨q0,q1,q2,q3⟩,⟨f0,f1,f2,f3⟩,_hsz⟩:=jn (ja HH.out HR4.out);have HRw:Hid (Rd w w4 g s (k+1)):=j0 ⟨HR4.out.1,j8 HR4.out.2⟩
 go_wp2_with fail
 refine bodyPost_ret (v:=jf (km (jh 10)) 0) (by simp [results,Tryz.results244,go_sem,jf,km,jh,q0,q1,q2,q3]) rfl ⟨rfl,?_⟩;exact HRw.out.set (jN _) hlt (km (jh 10))
open Go Go.RowKit
attribute [local go_sem ↓] Go.wp_at_zero Go.wp_at_succ
attribute [local go_sem] qX
def qJ(b:Nat):Nat×Bool:=
 if digB b then(b-48,true) else if 97<=b/\b<=102 then(b-87,true) else if 65<=b/\b<=70 then(b-55,true) else(0,false)
theorem Q5(b:Nat):(qJ b).1<=15:=by
 unfold qJ
 split
 ·rename_i h;unfold digB at h;simp at h;show b-48<=15;omega
 ·split
  ·show b-87<=15;omega
  ·split
   ·show b-55<=15;omega
   ·exact Nat.zero_le _
theorem ZS{x:Nat}{y:Bool}{r:Nat×Bool}(h:r=(x,y)):Ending.returned (.tuple #[.int .i64 (x:Int),.bool y])=.returned (.tuple #[.int .i64 (r.1:Int),.bool r.2]):=by subst h;rfl
theorem thex_any(b:Nat)(hb:b<256)(w:World):
  Calls Tryz.prog 267 #[.int .u8 (b:Int)] w fun e w'=>e=.returned (.tuple #[.int .i64 ((qJ b).1:Int),.bool (qJ b).2])/\w'=w:=by
 have HD:=j0 (fun W=>J3 b hb W)
 by_cases hd:digB b=true
 ·have HF:Hid (qJ b=(b-48,true)):=j0 (by unfold qJ;rw [if_pos hd]);rw [hd] at HD;have h1:48<=b/\b<=57:=by unfold digB at hd;simpa using hd
  obtain⟨y,hy⟩:∃y,y=b-48:=⟨_,rfl⟩;have e2:IntKind.u8.wrap ((b:Int)-48)=(y:Int):=by simp [IntKind.wrap,IntKind.signed,IntKind.bits];omega
  have e4:IntKind.i64.wrap (y:Int)=(y:Int):=by simp [IntKind.wrap,IntKind.signed,IntKind.bits];omega
  rw [<-hy] at HF;clear hy hd
  go_enter Tryz.func267,Tryz.ntmps267
  go_wp2_with fail
  refine(HD.out _).mono ?_;rintro e w1 ⟨rfl,hw1⟩;obtain rfl:w=w1:=hw1.symm
  go_wp2_with fail
  go_ret2
  exact⟨ZS HF.out,rfl⟩
 ·have hdf:digB b=false:=by simpa using hd
  rw [hdf] at HD
  by_cases h1:97<=b/\b<=102
  ·have HF:Hid (qJ b=(b-87,true)):=j0 (by unfold qJ;rw [if_neg hd,if_pos h1]);obtain⟨y,hy⟩:∃y,y=b-97:=⟨_,rfl⟩;obtain⟨z,hz⟩:∃z,z=b-87:=⟨_,rfl⟩;have d1:decide ((97:Int)<=(b:Int))=true:=jT (by omega);have d2:decide ((b:Int)<=102)=true:=jT (by omega);have e2:IntKind.u8.wrap ((b:Int)-97)=(y:Int):=by simp [IntKind.wrap,IntKind.signed,IntKind.bits];omega
   have e4:IntKind.i64.wrap (y:Int)=(y:Int):=by simp [IntKind.wrap,IntKind.signed,IntKind.bits];omega
   have e5:IntKind.i64.wrap ((y:Int)+10)=(z:Int):=by simp [IntKind.wrap,IntKind.signed,IntKind.bits];omega
   rw [<-hz] at HF;clear hy hz hd hdf h1
   go_enter Tryz.func267,Tryz.ntmps267
   go_wp2_with fail
   refine(HD.out _).mono ?_;rintro e w1 ⟨rfl,hw1⟩;obtain rfl:w=w1:=hw1.symm
   go_wp2_with fail
   go_ret2
   exact⟨ZS HF.out,rfl⟩
  ·by_cases h2:65<=b/\b<=70
   ·have HF:Hid (qJ b=(b-55,true)):=j0 (by unfold qJ;rw [if_neg hd,if_neg h1,if_pos h2]);obtain⟨y,hy⟩:∃y,y=b-65:=⟨_,rfl⟩;obtain⟨z,hz⟩:∃z,z=b-55:=⟨_,rfl⟩;have d1:decide ((97:Int)<=(b:Int))=false:=jF (by omega);have d3:decide ((65:Int)<=(b:Int))=true:=jT (by omega);have d4:decide ((b:Int)<=70)=true:=jT (by omega);have e2:IntKind.u8.wrap ((b:Int)-65)=(y:Int):=by simp [IntKind.wrap,IntKind.signed,IntKind.bits];omega
    have e4:IntKind.i64.wrap (y:Int)=(y:Int):=by simp [IntKind.wrap,IntKind.signed,IntKind.bits];omega
    have e5:IntKind.i64.wrap ((y:Int)+10)=(z:Int):=by simp [IntKind.wrap,IntKind.signed,IntKind.bits];omega
    rw [<-hz] at HF;clear hy hz hd hdf h1 h2
    go_enter Tryz.func267,Tryz.ntmps267
    go_wp2_with fail
    refine(HD.out _).mono ?_;rintro e w1 ⟨rfl,hw1⟩;obtain rfl:w=w1:=hw1.symm
    go_wp2_with fail
    go_ret2
    exact⟨ZS HF.out,rfl⟩
   ·have HF:Hid (qJ b=(0,false)):=j0 (by unfold qJ;rw [if_neg hd,if_neg h1,if_neg h2])
    have hcase:(decide ((97:Int)<=(b:Int))=false/\decide ((65:Int)<=(b:Int))=false)\/(decide ((97:Int)<=(b:Int))=false/\decide ((65:Int)<=(b:Int))=true/\decide ((b:Int)<=70)=false)\/(decide ((97:Int)<=(b:Int))=true/\decide ((b:Int)<=102)=false/\decide ((65:Int)<=(b:Int))=true/\decide ((b:Int)<=70)=false):=by
     simp only [decide_eq_false_iff_not,decide_eq_true_iff];omega
    clear hd hdf h1 h2
    rcases hcase with ⟨d1,d3⟩|⟨d1,d3,d4⟩|⟨d1,d2,d3,d4⟩
    all_goals
     go_enter Tryz.func267,Tryz.ntmps267
     go_wp2_with fail
     refine(HD.out _).mono ?_;rintro e w1 ⟨rfl,hw1⟩;obtain rfl:w=w1:=hw1.symm
     go_wp2_with fail
     go_ret2
     exact⟨ZS HF.out,rfl⟩
theorem XB:qJ 256=(0,false):=by decide
def xt(s:ByteArray)(j:Nat):Nat->Nat
 |0=>0
 |i+1=>16*xt s j i+(qJ (jl s (j+i))).1
theorem Q4(s:ByteArray)(j i:Nat)(h:i<=2):xt s j i<=255/\(i<=1->xt s j i<=15):=by
 have h0:=Q5 (jl s (j+0));have h1:=Q5 (jl s (j+1))
 match i,h with
 |0,_=>exact⟨by simp [xt],fun _=>by simp [xt]⟩
 |1,_=>exact⟨by simp [xt] at*;omega,fun _=>by simp [xt] at*;omega⟩
 |2,_=>exact⟨by simp [xt] at*;omega,fun h=>by omega⟩
def pairR(s:ByteArray)(j:Nat):W4×Int×Nat:=
 if(qJ (jl s j)).2=false then(j7,4,j) else if(qJ (jl s (j+1))).2=false then(j7,4,j+1) else(jh (xt s j 2),0,j+2)
theorem Qt{s:ByteArray}{j i:Nat}(hi:i<2)(hin:∀m,m<i->(qJ (jl s (j+m))).2=true)(hno:(qJ (jl s (j+i))).2=false):pairR s j=(j7,4,j+i):=by
 match i,hi with
 |0,_=>unfold pairR;rw [if_pos (show(qJ (jl s j)).2=false from hno)];rfl
 |1,_=>
  have h0:=hin 0 (by omega);unfold pairR;rw [if_neg (by rw [show j+0=j from rfl] at h0;rw [h0];decide),if_pos hno]
theorem Xn{s:ByteArray}{j:Nat}(hin:∀m,m<2->(qJ (jl s (j+m))).2=true):pairR s j=(jh (xt s j 2),0,j+2):=by
 have h0:=hin 0 (by omega);have h1:=hin 1 (by omega);unfold pairR;rw [if_neg (by rw [show j+0=j from rfl] at h0;rw [h0];decide),if_neg (by rw [h1];decide)]
theorem vz{t:W4}{c:Int}{j:Nat}{r:W4×Int×Nat}(h:r=(t,c,j)){w w':World}{g:Nat}{s:ByteArray}(hr:Rd w w' g s j):
  Ending.returned (jf t c)=.returned (jf r.1 r.2.1)/\Rd w w' g s r.2.2:=by subst h;exact⟨rfl,hr⟩
theorem tpair_any(g j:Nat)(s:ByteArray)(hs:s.size<=1099511627776)(w:World)(h:jI w g s j):
  Calls Tryz.prog 261 #[.pointer (some ⟨g,0,none⟩)] w fun e w'=>e=.returned (jf (pairR s j).1 (pairR s j).2.1)/\Rd w w' g s (pairR s j).2.2:=by
 have HH:=j0 h;have hlt:=h.lt;have HA:=j0 (kg h j5);have HAT:=j0 (fun i hi hin hno=>Qt (s:=s) (j:=j) (i:=i) hi hin hno);have HOK:=j0 (fun hin=>Xn (s:=s) (j:=j) hin);clear h
 go_enter Tryz.func261,Tryz.ntmps261
 go_wp2_with fail
 go_loopg [4,7] 2 (fun k v i wr=>∃m:Nat,m+k=2/\v=.int .i64 ((xt s j m:Nat):Int)/\i=.int .i64 (m:Int)/\Hid (∀n,n<m->(qJ (jl s (j+n))).2=true)/\Hid (Rd (w.alloc j5) wr g s (j+m)))
 case atStart=>exact⟨0,by omega,rfl,rfl,j0 (fun n hn=>by omega),j0 (Rd.refl HA.out)⟩
 case round=>
  obtain⟨m,hm,rfl,rfl,HIN,HR⟩:=hrel
  by_cases hm2:m<2
  ·obtain⟨q,hq⟩:∃q,q=j+m:=⟨_,rfl⟩;have HQ:=j0 hq;have HAT2:Hid ((qJ (jl s q)).2=false->pairR s j=(j7,4,q)):=j0 (fun h=>by rw [hq] at h ⊢;exact HAT.out m hm2 HIN.out h);have HV2:Hid (xt s j (m+1)=16*xt s j m+(qJ (jl s q)).1):=j0 (by rw [hq];rfl);rw [<-hq] at HR;clear hq;have hvl:=(Q4 s j m (by omega)).2 (by omega);have HE:=j0 (tended_any g s q wr HR.out.1);have dm:decide ((m:Int)<2)=true:=jT (by omega)
   by_cases hin:q<s.size
   ·rw [jF (by omega:¬s.size<=q)] at HE;have hb:((s[q]'hin).toNat)=jl s q:=(jy hin).symm;have hbl:=qk hin;have HX:=j0 (fun W=>thex_any (jl s q) hbl W);have hxl:=Q5 (jl s q)
    have HNX:Hid ((qJ (jl s q)).2=true->∀n,n<m+1->(qJ (jl s (j+n))).2=true):=j0 (fun h n hn=>by
     by_cases e:n=m
     ·subst e;rw [<-HQ.out];exact h
     ·exact HIN.out n (by omega))
    rw [<-hb] at HX HV2 HNX HAT2 hxl;generalize qJ (s[q]'hin).toNat=r at*;obtain⟨x,y⟩:=r;have HX':Hid (∀W,Calls Tryz.prog 267 #[.int .u8 ((s[q]'hin).toNat:Int)] W fun e w'=>e=.returned (.tuple #[.int .i64 (x:Int),.bool y])/\w'=W):=HX;have HV3:Hid (xt s j (m+1)=16*xt s j m+x):=HV2;have hxl2:x<=15:=hxl;clear HX HV2 hxl hb hbl
    go_wp2_with fail
    refine HE.out.mono ?_;rintro e w1 ⟨rfl,n1,hw1⟩;have HR1:Hid (Rd (w.alloc j5) w1 g s q):=j0 (by rw [hw1];exact HR.out.drewN n1);obtain⟨r0,r1,rz,rl⟩:=HR1.out.1;clear hw1
    cases y
    ·have HF:Hid (pairR s j=(j7,4,q)):=j0 (HAT2.out rfl)
     go_wp2_with fail
     go_quiet ((go_at_call 267;exact Calls.quiet_of_same (HX'.out _)))
     have HR2:Hid (Rd (w.alloc j5) (w1.drewN nq) g s q):=j0 (HR1.out.drewN nq);clear r0 r1 rz rl;generalize w1.drewN nq=w2 at*;obtain⟨⟨q0,q1,q2,q3⟩,⟨f0,f1,f2,f3⟩,_hsz⟩:=jn (ja HH.out HR2.out);have HRw:Hid (Rd w w2 g s q):=j0 ⟨HR2.out.1,j8 HR2.out.2⟩
     go_wp2_with fail
     refine bodyPost_ret (v:=jf j7 4) (by simp [results,Tryz.results261,go_sem,jf,j7,q0,q1,q2,q3]) rfl (vz HF.out ?_);exact HRw.out.set (jN _) hlt j7
    ·have HN2:=j0 (HNX.out rfl)
     go_wp2_with fail
     go_quiet ((go_at_call 267;exact Calls.quiet_of_same (HX'.out _)))
     have HR2:Hid (Rd (w.alloc j5) (w1.drewN nq) g s q):=j0 (HR1.out.drewN nq);clear r0 r1 rz rl;generalize w1.drewN nq=w2 at*;have ST:=j0 (kO g 1 1 s q (by omega) w2 HR2.out.1 rfl)
     go_wp2_with fail
     refine ST.out.mono ?_;rintro e w3 ⟨rfl,hw3⟩;have HR3:Hid (Rd (w.alloc j5) w3 g s (j+(m+1))):=j0 (by rw [show j+(m+1)=q+1 by rw [HQ.out];rfl];exact HR2.out.put (by rw [hw3];rfl));clear hw3
     go_wp2_with fail
     go_roundg (2-(m+1))
     case measure=>omega
     case rel=>exact⟨m+1,by omega,by rw [HV3.out];go_num,by go_num,HN2,HR3⟩
   ·rw [jT (by omega:s.size<=q)] at HE;have HF:Hid (pairR s j=(j7,4,q)):=j0 (HAT2.out (by rw [qr (by omega),XB]))
    go_wp2_with fail
    refine HE.out.mono ?_;rintro e w1 ⟨rfl,n1,hw1⟩;have HR2:Hid (Rd (w.alloc j5) w1 g s q):=j0 (by rw [hw1];exact HR.out.drewN n1);clear hw1;obtain⟨⟨q0,q1,q2,q3⟩,⟨f0,f1,f2,f3⟩,_hsz⟩:=jn (ja HH.out HR2.out);have HRw:Hid (Rd w w1 g s q):=j0 ⟨HR2.out.1,j8 HR2.out.2⟩
    go_wp2_with fail
    refine bodyPost_ret (v:=jf j7 4) (by simp [results,Tryz.results261,go_sem,jf,j7,q0,q1,q2,q3]) rfl (vz HF.out ?_);exact HRw.out.set (jN _) hlt j7
  ·obtain rfl:m=2:=by omega
   have HF:=j0 (HOK.out HIN.out);have hvl:=(Q4 s j 2 (by omega)).1;have HRe:=HR;generalize xt s j 2=v at*;have hvu:IntKind.u8.wrap (v:Int)=(v:Int):=by simp [IntKind.wrap,IntKind.signed,IntKind.bits];omega
   have OF:=j0 (fun W=>xi (w:=W.alloc (.cells #[.int .u8 ((v:Nat):Int)] 5)) (g:=W.heap.size) (k:=v) (by omega) (j1 W _))
   go_wp2_with fail
   refine(OF.out wr).mono ?_;rintro e w3 ⟨rfl,hb3⟩;have HR3:Hid (Rd (w.alloc j5) w3 g s (j+2)):=j0 ((HRe.out.below (j3 wr _)).below hb3);clear hb3;obtain⟨⟨q0,q1,q2,q3⟩,⟨f0,f1,f2,f3⟩,_hsz⟩:=jn (ja HH.out HR3.out);have HRw:Hid (Rd w w3 g s (j+2)):=j0 ⟨HR3.out.1,j8 HR3.out.2⟩
   go_wp2_with fail
   refine bodyPost_ret (v:=jf (jh v) 0) (by simp [results,Tryz.results261,go_sem,jf,jh,q0,q1,q2,q3]) rfl (vz HF.out ?_);exact HRw.out.set (jN _) hlt (jh v)
end
end
section
open Go Go.RowKit
attribute [local go_sem ↓] Go.wp_at_zero Go.wp_at_succ
attribute [local go_sem] qX
theorem tidx_run(args:Array Value)(w:World):(callFunc 263 args).run Tryz.prog w=((Extern.BytealgIndexByte.indexByte args).run Tryz.prog w).andThen fun v w'=>.ok (.value v) w':=
 run_callFunc_extern Tryz.func263 (by kernel_rfl) (by kernel_rfl) (by kernel_rfl) (by rfl) args w
theorem qo(S:ByteArray)(b:Nat)(v:Int)(hv:firstIdx S (b:Int).toNat.toUInt8=v)(w:World):
  Calls Tryz.prog 260 #[.string S,.int .u8 (b:Int)] w fun e w'=>e=.returned (.int .i64 v)/\w'=w:=by
 have hx:∀W,(callFunc 263 #[.string S,.int .u8 (b:Int)]).run Tryz.prog W=.ok (.value (.int .i64 v)) W:=fun W=>by
  rw [tidx_run,run_indexByte_string,hv];rfl
 go_enter Tryz.func260,Tryz.ntmps260
 go_wp2
 go_ret
 exact⟨rfl,rfl⟩
theorem VM(g:Nat)(a b c d x y z u i j k l:Int)(w:World)(hg:g<w.heap.size)
  (q0:w.cell? ⟨g,0,none⟩=some (.int .u64 a)) (q1:w.cell? ⟨g,1,none⟩=some (.int .u64 b)) (q2:w.cell? ⟨g,2,none⟩=some (.int .u64 c)) (q3:w.cell? ⟨g,3,none⟩=some (.int .u64 d)) (q4:w.cell? ⟨g,4,none⟩=some (.int .u64 x)) (q5:w.cell? ⟨g,5,none⟩=some (.int .u64 y)) (q6:w.cell? ⟨g,6,none⟩=some (.int .u64 z)) (q7:w.cell? ⟨g,7,none⟩=some (.int .u64 u)) (q8:w.cell? ⟨g,8,none⟩=some (.int .u64 i)) (q9:w.cell? ⟨g,9,none⟩=some (.int .u64 j)) (q10:w.cell? ⟨g,10,none⟩=some (.int .u64 k)) (q11:w.cell? ⟨g,11,none⟩=some (.int .u64 l)):
  Calls Tryz.prog 259 #[.slice (some ⟨g,0,none⟩) 3 3] w fun e w'=>e=.returned (.agg #[.int .u64 (qh (qh (qh 0 a) x) i),.int .u64 (qh (qh (qh 0 b) y) j),.int .u64 (qh (qh (qh 0 c) z) k),.int .u64 (qh (qh (qh 0 d) u) l)])/\Below w.heap.size w w':=by
 have n0:¬g=w.heap.size:=by omega
 have n1:¬g=w.heap.size+1:=by omega
 have m1:g<w.heap.size+1:=by omega
 have n2:¬g=w.heap.size+1+1:=by omega
 have m2:g<w.heap.size+1+1:=by omega
 have n3:¬g=w.heap.size+1+1+1:=by omega
 have m3:g<w.heap.size+1+1+1:=by omega
 have n4:¬g=w.heap.size+1+1+1+1:=by omega
 have m4:g<w.heap.size+1+1+1+1:=by omega
 go_enter Tryz.func259,Tryz.ntmps259
 go_wp2
 refine wp_loop_rounds 4 ?_;rw [rounds_succ]
 go_wp2
 refine wp_loop_rounds 5 ?_;rw [rounds_succ];go_wp2
 go_region
 go_wp2
 rw [rounds_succ];go_wp2
 go_region
 go_wp2
 rw [rounds_succ];go_wp2
 go_region
 go_wp2
 rw [rounds_succ];go_wp2
 go_region
 go_wp2
 rw [rounds_succ];go_wp2;rw [rounds_succ]
 go_wp2
 refine wp_loop_rounds 5 ?_;rw [rounds_succ];go_wp2
 go_region
 go_wp2
 rw [rounds_succ];go_wp2
 go_region
 go_wp2
 rw [rounds_succ];go_wp2
 go_region
 go_wp2
 rw [rounds_succ];go_wp2
 go_region
 go_wp2
 rw [rounds_succ];go_wp2;rw [rounds_succ]
 go_wp2
 refine wp_loop_rounds 5 ?_;rw [rounds_succ];go_wp2
 go_region
 go_wp2
 rw [rounds_succ];go_wp2
 go_region
 go_wp2
 rw [rounds_succ];go_wp2
 go_region
 go_wp2
 rw [rounds_succ];go_wp2
 go_region
 go_wp2
 rw [rounds_succ];go_wp2;rw [rounds_succ]
 go_wp2
 refine bodyPost_ret (v:=.agg #[.int .u64 (qh (qh (qh 0 a) x) i),.int .u64 (qh (qh (qh 0 b) y) j),.int .u64 (qh (qh (qh 0 c) z) k),.int .u64 (qh (qh (qh 0 d) u) l)]) (by simp [results,Tryz.results259,go_sem,qh]) rfl ⟨rfl,?_⟩;exact((below4 _ _ _ _ _).alloc (by simp;omega) _).drew.drew.drew.drew.drew.drew.drew.drew.drew.drew.drew.drew
section
open Go Go.RowKit
attribute [local go_sem ↓] Go.wp_at_zero Go.wp_at_succ
attribute [local go_sem] qX
abbrev xc:ByteArray:=⟨#[92,124,40,41,91,93,123,125,42,43,63,46,94,36,47,45]⟩
abbrev Vo:ByteArray:=⟨#[110,116,114,102,118]⟩
def yU(b:Nat):Bool:= [92,124,40,41,91,93,123,125,42,43,63,46,94,36,47,45].contains b
def letB(b:Nat):Bool:= [110,116,114,102,118].contains b
theorem VS(b:Nat)(hb:b<256):decide (0<=firstIdx xc (b:Int).toNat.toUInt8)=yU b:=by
 have hall:∀n:Fin 256,decide (0<=firstIdx xc ((n.val:Nat):Int).toNat.toUInt8)=yU n.val:=by decide+kernel
 exact hall ⟨b,hb⟩
theorem let_idx(b:Nat)(hb:b<256):decide (0<=firstIdx Vo (b:Int).toNat.toUInt8)=letB b:=by
 have hall:∀n:Fin 256,decide (0<=firstIdx Vo ((n.val:Nat):Int).toNat.toUInt8)=letB n.val:=by decide+kernel
 exact hall ⟨b,hb⟩
def xM:W4:=⟨yM 48 57 0,yM 48 57 1,yM 48 57 2,yM 48 57 3⟩
def lowW:W4:=⟨yM 97 122 0,fo (yM 97 122 1),yM 97 122 2,yM 97 122 3⟩
def JZ(s t u:W4):W4:=⟨qh (qh (qh 0 s.a) t.a) u.a,qh (qh (qh 0 s.b) t.b) u.b,qh (qh (qh 0 s.c) t.c) u.c,qh (qh (qh 0 s.d) t.d) u.d⟩
def uni2(s t:W4):W4:=⟨qh (qh 0 s.a) t.a,qh (qh 0 s.b) t.b,qh (qh 0 s.c) t.c,qh (qh 0 s.d) t.d⟩
def wordW:W4:=JZ xM lowW (jh 95)
def qF:W4:=uni2 ⟨yM 9 13 0,yM 9 13 1,yM 9 13 2,yM 9 13 3⟩ (jh 32)
def kq(b:Nat):W4×Bool:=
 if yU b then(jh b,true) else if b=110 then(jh 10,true) else if b=116 then(jh 9,true) else if b=114 then(jh 13,true) else if b=102 then(jh 12,true) else if b=118 then(jh 11,true)
 else if b=100 then(xM,true) else if b=119 then(wordW,true) else if b=115 then(qF,true) else if b=68 then(km xM,true) else if b=87 then(km wordW,true) else if b=83 then(km qF,true) else(j7,false)
def jM(r:W4×Bool):Value:=.tuple #[.agg #[.int .u64 r.1.a,.int .u64 r.1.b,.int .u64 r.1.c,.int .u64 r.1.d],.bool r.2]
theorem qA{w w':World}{b:Nat}{t:W4}(h:Below w.heap.size w w')(hb:w.heap.size<=b):Below w.heap.size w (jQ w' b t):=kD h hb _ _ _ _
theorem kK{w w':World}{o:Obj}(hb:Below (w.alloc o).heap.size (w.alloc o) w'):w'.heap[w.heap.size]? =some o:=by
 rw [hb.block w.heap.size (by simp)];exact j1 w o
theorem mean_them(b:Nat)(hb:b<256)(ht:yU b=true)(w:World):
  Calls Tryz.prog 262 #[.int .u8 (b:Int)] w fun e w'=>e=.returned (jM (jh b,true))/\Below w.heap.size w w':=by
 have h1:=VS b hb;rw [ht] at h1;obtain⟨v,hv⟩:∃v,firstIdx xc (b:Int).toNat.toUInt8=v:=⟨_,rfl⟩;rw [hv] at h1;have IX:=j0 (fun W=>qo xc b v hv W);have OF:=j0 (fun W=>xi (w:=W.alloc (.cells #[.int .u8 ((b:Nat):Int)] 5)) (g:=W.heap.size) (k:=b) hb (j1 W _));clear hv ht
 go_enter Tryz.func262,Tryz.ntmps262
 go_wp2_with fail
 refine(IX.out _).mono ?_;rintro e w1 ⟨rfl,hw1⟩;obtain⟨W0,hW0⟩:∃W0,W0=w.alloc j5:=⟨_,rfl⟩;have hW1:w1=W0:=by rw [hw1,hW0];rfl
 have HW0:=j0 hW0;clear hw1;subst hW1;clear hW0
 go_wp2_with fail
 refine(OF.out _).mono ?_;rintro e w2 ⟨rfl,hb2⟩;have HB2:Hid (Below (w.alloc j5).heap.size (w.alloc j5) w2):=j0 (by rw [<-HW0.out];exact(j3 _ _).trans (hb2.mono (by simp)));clear hb2;obtain⟨⟨q0,q1,q2,q3⟩,⟨f0,f1,f2,f3⟩,hsz⟩:=jn (kK HB2.out);have HBw:Hid (Below w.heap.size w w2):=j0 ((j3 w _).trans (HB2.out.mono (by simp)))
 go_wp2_with fail
 refine bodyPost_ret (v:=jM (jh b,true)) (by simp [results,Tryz.results262,go_sem,jM,jh,q0,q1,q2,q3]) rfl ⟨rfl,?_⟩;exact qA (t:=jh b) HBw.out (jN _)
theorem mean_110(w:World):
  Calls Tryz.prog 262 #[.int .u8 (110:Int)] w fun e w'=>e=.returned (jM (jh 10,true))/\Below w.heap.size w w':=by
 have IX:=j0 (fun W=>qo xc 110 (-1) (by decide+kernel) W);have IY:=j0 (fun W=>qo Vo 110 0 (by decide+kernel) W);have OF:=j0 (fun W=>xi (w:=W.alloc (.cells #[.int .u8 ((10:Nat):Int)] 5)) (g:=W.heap.size) (k:=10) (by omega) (j1 W _))
 go_enter Tryz.func262,Tryz.ntmps262
 go_wp2_with fail
 refine(IX.out _).mono ?_;rintro e w1 ⟨rfl,hw1⟩;obtain⟨W0,hW0⟩:∃W0,W0=w.alloc j5:=⟨_,rfl⟩;have hW1:w1=W0:=by rw [hw1,hW0];rfl
 have HW0:=j0 hW0;clear hw1;subst hW1;clear hW0
 go_wp2_with fail
 refine(IY.out _).mono ?_;rintro e w3 ⟨rfl,hw3⟩;obtain rfl:w1=w3:=hw3.symm
 go_wp2_with fail
 refine(OF.out _).mono ?_;rintro e w2 ⟨rfl,hb2⟩;have HB2:Hid (Below (w.alloc j5).heap.size (w.alloc j5) w2):=j0 (by rw [<-HW0.out];exact(j3 _ _).trans (hb2.mono (by simp)));clear hb2;obtain⟨⟨q0,q1,q2,q3⟩,⟨f0,f1,f2,f3⟩,hsz⟩:=jn (kK HB2.out);have HBw:Hid (Below w.heap.size w w2):=j0 ((j3 w _).trans (HB2.out.mono (by simp)))
 go_wp2_with fail
 refine bodyPost_ret (v:=jM (jh 10,true)) (by simp [results,Tryz.results262,go_sem,jM,jh,q0,q1,q2,q3]) rfl ⟨rfl,?_⟩;exact qA (t:=jh 10) HBw.out (jN _)
theorem mean_116(w:World):
  Calls Tryz.prog 262 #[.int .u8 (116:Int)] w fun e w'=>e=.returned (jM (jh 9,true))/\Below w.heap.size w w':=by
 have IX:=j0 (fun W=>qo xc 116 (-1) (by decide+kernel) W);have IY:=j0 (fun W=>qo Vo 116 1 (by decide+kernel) W);have OF:=j0 (fun W=>xi (w:=W.alloc (.cells #[.int .u8 ((9:Nat):Int)] 5)) (g:=W.heap.size) (k:=9) (by omega) (j1 W _))
 go_enter Tryz.func262,Tryz.ntmps262
 go_wp2_with fail
 refine(IX.out _).mono ?_;rintro e w1 ⟨rfl,hw1⟩;obtain⟨W0,hW0⟩:∃W0,W0=w.alloc j5:=⟨_,rfl⟩;have hW1:w1=W0:=by rw [hw1,hW0];rfl
 have HW0:=j0 hW0;clear hw1;subst hW1;clear hW0
 go_wp2_with fail
 refine(IY.out _).mono ?_;rintro e w3 ⟨rfl,hw3⟩;obtain rfl:w1=w3:=hw3.symm
 go_wp2_with fail
 refine(OF.out _).mono ?_;rintro e w2 ⟨rfl,hb2⟩;have HB2:Hid (Below (w.alloc j5).heap.size (w.alloc j5) w2):=j0 (by rw [<-HW0.out];exact(j3 _ _).trans (hb2.mono (by simp)));clear hb2;obtain⟨⟨q0,q1,q2,q3⟩,⟨f0,f1,f2,f3⟩,hsz⟩:=jn (kK HB2.out);have HBw:Hid (Below w.heap.size w w2):=j0 ((j3 w _).trans (HB2.out.mono (by simp)))
 go_wp2_with fail
 refine bodyPost_ret (v:=jM (jh 9,true)) (by simp [results,Tryz.results262,go_sem,jM,jh,q0,q1,q2,q3]) rfl ⟨rfl,?_⟩;exact qA (t:=jh 9) HBw.out (jN _)
theorem mean_114(w:World):
  Calls Tryz.prog 262 #[.int .u8 (114:Int)] w fun e w'=>e=.returned (jM (jh 13,true))/\Below w.heap.size w w':=by
 have IX:=j0 (fun W=>qo xc 114 (-1) (by decide+kernel) W);have IY:=j0 (fun W=>qo Vo 114 2 (by decide+kernel) W);have OF:=j0 (fun W=>xi (w:=W.alloc (.cells #[.int .u8 ((13:Nat):Int)] 5)) (g:=W.heap.size) (k:=13) (by omega) (j1 W _))
 go_enter Tryz.func262,Tryz.ntmps262
 go_wp2_with fail
 refine(IX.out _).mono ?_;rintro e w1 ⟨rfl,hw1⟩;obtain⟨W0,hW0⟩:∃W0,W0=w.alloc j5:=⟨_,rfl⟩;have hW1:w1=W0:=by rw [hw1,hW0];rfl
 have HW0:=j0 hW0;clear hw1;subst hW1;clear hW0
 go_wp2_with fail
 refine(IY.out _).mono ?_;rintro e w3 ⟨rfl,hw3⟩;obtain rfl:w1=w3:=hw3.symm
 go_wp2_with fail
 refine(OF.out _).mono ?_;rintro e w2 ⟨rfl,hb2⟩;have HB2:Hid (Below (w.alloc j5).heap.size (w.alloc j5) w2):=j0 (by rw [<-HW0.out];exact(j3 _ _).trans (hb2.mono (by simp)));clear hb2;obtain⟨⟨q0,q1,q2,q3⟩,⟨f0,f1,f2,f3⟩,hsz⟩:=jn (kK HB2.out);have HBw:Hid (Below w.heap.size w w2):=j0 ((j3 w _).trans (HB2.out.mono (by simp)))
 go_wp2_with fail
 refine bodyPost_ret (v:=jM (jh 13,true)) (by simp [results,Tryz.results262,go_sem,jM,jh,q0,q1,q2,q3]) rfl ⟨rfl,?_⟩;exact qA (t:=jh 13) HBw.out (jN _)
theorem mean_102(w:World):
  Calls Tryz.prog 262 #[.int .u8 (102:Int)] w fun e w'=>e=.returned (jM (jh 12,true))/\Below w.heap.size w w':=by
 have IX:=j0 (fun W=>qo xc 102 (-1) (by decide+kernel) W);have IY:=j0 (fun W=>qo Vo 102 3 (by decide+kernel) W);have OF:=j0 (fun W=>xi (w:=W.alloc (.cells #[.int .u8 ((12:Nat):Int)] 5)) (g:=W.heap.size) (k:=12) (by omega) (j1 W _))
 go_enter Tryz.func262,Tryz.ntmps262
 go_wp2_with fail
 refine(IX.out _).mono ?_;rintro e w1 ⟨rfl,hw1⟩;obtain⟨W0,hW0⟩:∃W0,W0=w.alloc j5:=⟨_,rfl⟩;have hW1:w1=W0:=by rw [hw1,hW0];rfl
 have HW0:=j0 hW0;clear hw1;subst hW1;clear hW0
 go_wp2_with fail
 refine(IY.out _).mono ?_;rintro e w3 ⟨rfl,hw3⟩;obtain rfl:w1=w3:=hw3.symm
 go_wp2_with fail
 refine(OF.out _).mono ?_;rintro e w2 ⟨rfl,hb2⟩;have HB2:Hid (Below (w.alloc j5).heap.size (w.alloc j5) w2):=j0 (by rw [<-HW0.out];exact(j3 _ _).trans (hb2.mono (by simp)));clear hb2;obtain⟨⟨q0,q1,q2,q3⟩,⟨f0,f1,f2,f3⟩,hsz⟩:=jn (kK HB2.out);have HBw:Hid (Below w.heap.size w w2):=j0 ((j3 w _).trans (HB2.out.mono (by simp)))
 go_wp2_with fail
 refine bodyPost_ret (v:=jM (jh 12,true)) (by simp [results,Tryz.results262,go_sem,jM,jh,q0,q1,q2,q3]) rfl ⟨rfl,?_⟩;exact qA (t:=jh 12) HBw.out (jN _)
theorem mean_118(w:World):
  Calls Tryz.prog 262 #[.int .u8 (118:Int)] w fun e w'=>e=.returned (jM (jh 11,true))/\Below w.heap.size w w':=by
 have IX:=j0 (fun W=>qo xc 118 (-1) (by decide+kernel) W);have IY:=j0 (fun W=>qo Vo 118 4 (by decide+kernel) W);have OF:=j0 (fun W=>xi (w:=W.alloc (.cells #[.int .u8 ((11:Nat):Int)] 5)) (g:=W.heap.size) (k:=11) (by omega) (j1 W _))
 go_enter Tryz.func262,Tryz.ntmps262
 go_wp2_with fail
 refine(IX.out _).mono ?_;rintro e w1 ⟨rfl,hw1⟩;obtain⟨W0,hW0⟩:∃W0,W0=w.alloc j5:=⟨_,rfl⟩;have hW1:w1=W0:=by rw [hw1,hW0];rfl
 have HW0:=j0 hW0;clear hw1;subst hW1;clear hW0
 go_wp2_with fail
 refine(IY.out _).mono ?_;rintro e w3 ⟨rfl,hw3⟩;obtain rfl:w1=w3:=hw3.symm
 go_wp2_with fail
 refine(OF.out _).mono ?_;rintro e w2 ⟨rfl,hb2⟩;have HB2:Hid (Below (w.alloc j5).heap.size (w.alloc j5) w2):=j0 (by rw [<-HW0.out];exact(j3 _ _).trans (hb2.mono (by simp)));clear hb2;obtain⟨⟨q0,q1,q2,q3⟩,⟨f0,f1,f2,f3⟩,hsz⟩:=jn (kK HB2.out);have HBw:Hid (Below w.heap.size w w2):=j0 ((j3 w _).trans (HB2.out.mono (by simp)))
 go_wp2_with fail
 refine bodyPost_ret (v:=jM (jh 11,true)) (by simp [results,Tryz.results262,go_sem,jM,jh,q0,q1,q2,q3]) rfl ⟨rfl,?_⟩;exact qA (t:=jh 11) HBw.out (jN _)
abbrev Yg(wr:World)(g:Nat)(t:W4)(w':World):Prop:=
 (w'.cell? ⟨g,0,none⟩=some (.int .u64 t.a)/\w'.cell? ⟨g,1,none⟩=some (.int .u64 t.b)/\w'.cell? ⟨g,2,none⟩=some (.int .u64 t.c)/\w'.cell? ⟨g,3,none⟩=some (.int .u64 t.d))/\g<w'.heap.size/\Below wr.heap.size wr w'
theorem heldS_below{wr:World}{g:Nat}{t:W4}{X Y:World}(hb:Below X.heap.size X Y)(h:Yg wr g t X):Yg wr g t Y:=
 ⟨JG.below (s:=t) (o:=0) h.1 hb h.2.1,Nat.lt_of_lt_of_le h.2.1 hb.size,h.2.2.trans (hb.mono h.2.2.size)⟩
theorem QE{wr:World}{g:Nat}{t:W4}{X:World}(h:Yg wr g t X):Yg wr g t X.drew:=⟨h.1,h.2.1,h.2.2.drew⟩
theorem jA{W:World}{g:Nat}{t:W4}(h:W.heap[g]? =some (.cells #[.int .u64 t.a,.int .u64 t.b,.int .u64 t.c,.int .u64 t.d] 29)):JG W g 0 t/\g<W.heap.size:=
 ⟨⟨jC h 0,jC h 1,jC h 2,jC h 3⟩,jS h⟩
theorem three_blk{s t u:W4}{w:World}{g:Nat}(h:w.heap[g]? =some (.cells #[.int .u64 s.a,.int .u64 s.b,.int .u64 s.c,.int .u64 s.d,.int .u64 t.a,.int .u64 t.b,.int .u64 t.c,.int .u64 t.d,.int .u64 u.a,.int .u64 u.b,.int .u64 u.c,.int .u64 u.d] 29)):
  Calls Tryz.prog 259 #[.slice (some ⟨g,0,none⟩) 3 3] w fun e w'=>e=.returned (.agg #[.int .u64 (JZ s t u).a,.int .u64 (JZ s t u).b,.int .u64 (JZ s t u).c,.int .u64 (JZ s t u).d])/\Below w.heap.size w w':=
 VM g _ _ _ _ _ _ _ _ _ _ _ _ w (jS h) (jC h 0) (jC h 1) (jC h 2) (jC h 3) (jC h 4) (jC h 5) (jC h 6) (jC h 7) (jC h 8) (jC h 9) (jC h 10) (jC h 11)
def jL(lo hi:Nat):W4:=⟨yM lo hi 0,yM lo hi 1,yM lo hi 2,yM lo hi 3⟩
def vO(t:W4):W4:=⟨t.a,fo t.b,t.c,t.d⟩
def Xy(d r l u x:W4):Nat->Reg.Told
 |0=>.inl (.agg #[.int .u64 d.a,.int .u64 d.b,.int .u64 d.c,.int .u64 d.d])
 |1=>.inl (.agg #[.int .u64 r.a,.int .u64 r.b,.int .u64 r.c,.int .u64 r.d])
 |2=>.inl (.agg #[.int .u64 l.a,.int .u64 l.b,.int .u64 l.c,.int .u64 l.d])
 |3=>.inr ⟨fun G=>.slice (some ⟨G,0,none⟩) 1 1,5,#[.int .u8 95]⟩
 |4=>.inl (.agg #[.int .u64 u.a,.int .u64 u.b,.int .u64 u.c,.int .u64 u.d])
 |5=>.inr ⟨fun G=>.slice (some ⟨G,0,none⟩) 3 3,29,#[.int .u64 d.a,.int .u64 d.b,.int .u64 d.c,.int .u64 d.d,.int .u64 l.a,.int .u64 l.b,.int .u64 l.c,.int .u64 l.d,.int .u64 u.a,.int .u64 u.b,.int .u64 u.c,.int .u64 u.d]⟩
 |6=>.inl (.agg #[.int .u64 x.a,.int .u64 x.b,.int .u64 x.c,.int .u64 x.d])
 |7=>.inr ⟨fun G=>.pointer (some ⟨G,0,none⟩),29,#[.int .u64 0,.int .u64 0,.int .u64 0,.int .u64 0]⟩
 |_=>.inl undef
theorem below_put_alloc{w w':World}{b:Nat}{t:W4}(h:Below w.heap.size w w')(hb:w.heap.size<=b)(o:Obj):Below w.heap.size w ((jQ w' b t).alloc o):=
 (qA (t:=t) h hb).alloc (qA (t:=t) h hb).size o
theorem mean_rest(b:Nat)(hb:b<256)(ht:yU b=false)(hl:letB b=false)(w:World):
  Calls Tryz.prog 262 #[.int .u8 (b:Int)] w fun e w'=>e=.returned (jM (kq b))/\Below w.heap.size w w':=by
 have h1:=VS b hb;have h2:=let_idx b hb;rw [ht] at h1;rw [hl] at h2;obtain⟨v,hv⟩:∃v,firstIdx xc (b:Int).toNat.toUInt8=v:=⟨_,rfl⟩;obtain⟨u,hu⟩:∃u,firstIdx Vo (b:Int).toNat.toUInt8=u:=⟨_,rfl⟩;rw [hv] at h1;rw [hu] at h2;have IX:=j0 (fun W=>qo xc b v hv W);have IY:=j0 (fun W=>qo Vo b u hu W);have RG:Hid (∀W,Calls Tryz.prog 216 #[.int .u8 48,.int .u8 57] W fun e w'=>e=.returned (.agg #[.int .u64 (jL 48 57).a,.int .u64 (jL 48 57).b,.int .u64 (jL 48 57).c,.int .u64 (jL 48 57).d])/\Below W.heap.size W w'):=j0 (fun W=>zC 48 57 (by omega) (by omega) W);have RL:Hid (∀W,Calls Tryz.prog 216 #[.int .u8 97,.int .u8 122] W fun e w'=>e=.returned (.agg #[.int .u64 (jL 97 122).a,.int .u64 (jL 97 122).b,.int .u64 (jL 97 122).c,.int .u64 (jL 97 122).d])/\Below W.heap.size W w'):=j0 (fun W=>zC 97 122 (by omega) (by omega) W);have RB:Hid (∀W,Calls Tryz.prog 216 #[.int .u8 9,.int .u8 13] W fun e w'=>e=.returned (.agg #[.int .u64 (jL 9 13).a,.int .u64 (jL 9 13).b,.int .u64 (jL 9 13).c,.int .u64 (jL 9 13).d])/\Below W.heap.size W w'):=j0 (fun W=>zC 9 13 (by omega) (by omega) W);have FL:Hid (∀W,Calls Tryz.prog 268 #[.agg #[.int .u64 (jL 97 122).a,.int .u64 (jL 97 122).b,.int .u64 (jL 97 122).c,.int .u64 (jL 97 122).d]] W fun e w'=>e=.returned (.agg #[.int .u64 (vO (jL 97 122)).a,.int .u64 (vO (jL 97 122)).b,.int .u64 (vO (jL 97 122)).c,.int .u64 (vO (jL 97 122)).d])/\Below W.heap.size W w'):=j0 (fun W=>fold_any _ _ _ _ W);have OU:Hid (∀W g,W.heap[g]? =some (.cells #[.int .u8 95] 5)->Calls Tryz.prog 127 #[.slice (some ⟨g,0,none⟩) 1 1] W fun e w'=>e=.returned (.agg #[.int .u64 (jh 95).a,.int .u64 (jh 95).b,.int .u64 (jh 95).c,.int .u64 (jh 95).d])/\Below W.heap.size W w'):=j0 (fun W g h=>xi (k:=95) (by omega) h);have UN:Hid (∀W g,W.heap[g]? =some (.cells #[.int .u64 (jL 48 57).a,.int .u64 (jL 48 57).b,.int .u64 (jL 48 57).c,.int .u64 (jL 48 57).d,.int .u64 (vO (jL 97 122)).a,.int .u64 (vO (jL 97 122)).b,.int .u64 (vO (jL 97 122)).c,.int .u64 (vO (jL 97 122)).d,.int .u64 (jh 95).a,.int .u64 (jh 95).b,.int .u64 (jh 95).c,.int .u64 (jh 95).d] 29)->Calls Tryz.prog 259 #[.slice (some ⟨g,0,none⟩) 3 3] W fun e w'=>e=.returned (.agg #[.int .u64 (JZ (jL 48 57) (vO (jL 97 122)) (jh 95)).a,.int .u64 (JZ (jL 48 57) (vO (jL 97 122)) (jh 95)).b,.int .u64 (JZ (jL 48 57) (vO (jL 97 122)) (jh 95)).c,.int .u64 (JZ (jL 48 57) (vO (jL 97 122)) (jh 95)).d])/\Below W.heap.size W w'):=j0 (fun W g h=>three_blk h);have OO:Hid (∀W:World,Calls Tryz.prog 127 #[.slice (some ⟨W.heap.size,0,none⟩) 1 1] (W.alloc (.cells #[.int .u8 32] 5)) fun e w'=>e=.returned (.agg #[.int .u64 (jh 32).a,.int .u64 (jh 32).b,.int .u64 (jh 32).c,.int .u64 (jh 32).d])/\Below (W.alloc (.cells #[.int .u8 32] 5)).heap.size (W.alloc (.cells #[.int .u8 32] 5)) w'):=j0 (fun W=>xi (k:=32) (by omega) (j1 W _));have U2:Hid (∀W:World,Calls Tryz.prog 259 #[.slice (some ⟨W.heap.size,0,none⟩) 2 2] (W.alloc (.cells #[.int .u64 (jL 9 13).a,.int .u64 (jL 9 13).b,.int .u64 (jL 9 13).c,.int .u64 (jL 9 13).d,.int .u64 (jh 32).a,.int .u64 (jh 32).b,.int .u64 (jh 32).c,.int .u64 (jh 32).d] 29)) fun e w'=>e=.returned (.agg #[.int .u64 (uni2 (jL 9 13) (jh 32)).a,.int .u64 (uni2 (jL 9 13) (jh 32)).b,.int .u64 (uni2 (jL 9 13) (jh 32)).c,.int .u64 (uni2 (jL 9 13) (jh 32)).d])/\Below (W.alloc (.cells #[.int .u64 (jL 9 13).a,.int .u64 (jL 9 13).b,.int .u64 (jL 9 13).c,.int .u64 (jL 9 13).d,.int .u64 (jh 32).a,.int .u64 (jh 32).b,.int .u64 (jh 32).c,.int .u64 (jh 32).d] 29)).heap.size (W.alloc (.cells #[.int .u64 (jL 9 13).a,.int .u64 (jL 9 13).b,.int .u64 (jL 9 13).c,.int .u64 (jL 9 13).d,.int .u64 (jh 32).a,.int .u64 (jh 32).b,.int .u64 (jh 32).c,.int .u64 (jh 32).d] 29)) w'):=j0 (fun W=>U9 _ _ _ _ _ _ _ _ W)
 have HMR:Hid (kq b=if b=100 then(jL 48 57,true) else if b=119 then(JZ (jL 48 57) (vO (jL 97 122)) (jh 95),true) else if b=115 then(uni2 (jL 9 13) (jh 32),true) else if b=68 then(km (jL 48 57),true) else if b=87 then(km (JZ (jL 48 57) (vO (jL 97 122)) (jh 95)),true) else if b=83 then(km (uni2 (jL 9 13) (jh 32)),true) else(j7,false)):=j0 (by
  have k0:¬b=110:=by rintro rfl;revert hl;decide
  have k1:¬b=116:=by rintro rfl;revert hl;decide
  have k2:¬b=114:=by rintro rfl;revert hl;decide
  have k3:¬b=102:=by rintro rfl;revert hl;decide
  have k4:¬b=118:=by rintro rfl;revert hl;decide
  unfold kq;rw [ht,if_neg (by decide),if_neg k0,if_neg k1,if_neg k2,if_neg k3,if_neg k4]
  rfl)
 generalize JZ (jL 48 57) (vO (jL 97 122)) (jh 95)=xW at*;generalize uni2 (jL 9 13) (jh 32)=kW at*;generalize jL 48 57=dW at*;generalize vO (jL 97 122)=lW at*;generalize jL 97 122=rW at*;generalize jL 9 13=sW at*;generalize jh 95=uW at*;generalize jh 32=oW at*;clear ht hl hv hu
 go_enter Tryz.func262,Tryz.ntmps262
 go_wp2_with fail
 refine(IX.out _).mono ?_;rintro e w1 ⟨rfl,hw1⟩;obtain⟨W0,hW0⟩:∃W0,W0=w.alloc j5:=⟨_,rfl⟩;have hW1:w1=W0:=by rw [hw1,hW0];rfl
 have HW0:=j0 hW0;clear hw1;subst hW1;clear hW0
 go_wp2_with fail
 refine(IY.out _).mono ?_;rintro e w3 ⟨rfl,hw3⟩;obtain rfl:w1=w3:=hw3.symm
 go_wp2_with fail
 refine(RG.out _).mono ?_;rintro e w2 ⟨rfl,hb2⟩;have HB2:Hid (Below (w.alloc j5).heap.size (w.alloc j5) w2):=j0 (by rw [<-HW0.out];exact hb2);clear hb2
 go_wp2_with fail
 have hgd:(w2.alloc (.cells #[.int .u64 dW.a,.int .u64 dW.b,.int .u64 dW.c,.int .u64 dW.d] 29)).heap[w2.heap.size]? =some (.cells #[.int .u64 dW.a,.int .u64 dW.b,.int .u64 dW.c,.int .u64 dW.d] 29):=j1 _ _;have HB6:Hid (Below (w.alloc j5).heap.size (w.alloc j5) (w2.alloc (.cells #[.int .u64 dW.a,.int .u64 dW.b,.int .u64 dW.c,.int .u64 dW.d] 29))):=j0 (HB2.out.trans ((j3 _ _).mono HB2.out.size));obtain⟨W6,hW6⟩:∃W6,W6=w2.alloc (.cells #[.int .u64 dW.a,.int .u64 dW.b,.int .u64 dW.c,.int .u64 dW.d] 29):=⟨_,rfl⟩;rw [<-hW6] at hgd HB6;rw [<-hW6];clear hW6;generalize w2.heap.size=gd at*;have HS0:Yg W6 gd dW W6:=⟨(jA hgd).1,(jA hgd).2,Below.refl _ _⟩;clear hgd;refine Reg.wp_region_told (Xy dW rW lW uW xW) [(8,7,#[.int .u64 xW.a,.int .u64 xW.b,.int .u64 xW.c,.int .u64 xW.d])] [0,1,2,3,4,5,6,7,8] (by rfl) (by kernel_rfl) (by kernel_rfl) (by intro f hf f' hf' _;rw [List.mem_singleton.1 hf,List.mem_singleton.1 hf']) (by intro f hf f' hf' _;rw [List.mem_singleton.1 hf,List.mem_singleton.1 hf']) ?_ ?_
 focus
  refine⟨Reg.opOK_plain (by rfl) fun G listed A wv hI hall=>.inl ⟨Reg.wn,?_⟩,?_⟩
  focus
   have H:=heldS_below hI.base (QE HS0);have e5:=hI.wo 5 rfl;clear hI hall HS0;unfold Reg.Yields
   go_simp
   exact Reg.good_val (by rfl) (by rfl) (Below.refl _ _)
  refine⟨Reg.opOK_plain (by rfl) fun G listed A wv hI hall=>.inl ⟨Reg.wn,?_⟩,?_⟩
  focus
   clear hI hall HS0;unfold Reg.Yields
   go_simp
   exact(RL.out _).mono fun e w'' ⟨he,hb⟩=>⟨_,he,Reg.good_val (by rfl) (by rfl) hb⟩
  refine⟨Reg.opOK_plain (by rfl) fun G listed A wv hI hall=>.inl ⟨Reg.wn,?_⟩,?_⟩
  focus
   have e24:=hI.ev (i:=1) (d:=24) (by rfl) (by rfl) (hall ⟨1,.data⟩ (by simp) rfl);clear hI hall HS0;unfold Reg.Yields
   go_simp
   exact(FL.out _).mono fun e w'' ⟨he,hb⟩=>⟨_,he,Reg.good_val (by rfl) (by rfl) hb⟩
  refine⟨Reg.opOK_plain (by rfl) fun G listed A wv hI hall=>.inl ⟨Reg.wn,?_⟩,?_⟩
  focus
   clear hI hall HS0;unfold Reg.Yields
   go_simp
   exact Reg.good_new (by rfl) (by rfl) (by rfl)
  refine⟨Reg.opOK_plain (by rfl) fun G listed A wv hI hall=>.inl ⟨Reg.wn,?_⟩,?_⟩
  focus
   obtain⟨e26,_,b26⟩:=hI.evm (i:=3) (d:=26) (by rfl) (by rfl) (hall ⟨3,.data⟩ (by simp) rfl);clear hI hall HS0;unfold Reg.Yields
   go_simp
   exact(OU.out _ _ b26).mono fun e w'' ⟨he,hb⟩=>⟨_,he,Reg.good_val (by rfl) (by rfl) hb⟩
  refine⟨Reg.opOK_plain (by rfl) fun G listed A wv hI hall=>.inl ⟨Reg.wn,?_⟩,?_⟩
  focus
   have e23:=hI.ev (i:=0) (d:=23) (by rfl) (by rfl) (hall ⟨0,.data⟩ (by simp) rfl);have e25:=hI.ev (i:=2) (d:=25) (by rfl) (by rfl) (hall ⟨2,.data⟩ (by simp) rfl);have e27:=hI.ev (i:=4) (d:=27) (by rfl) (by rfl) (hall ⟨4,.data⟩ (by simp) rfl);clear hI hall HS0;unfold Reg.Yields
   go_simp
   exact Reg.good_new (by rfl) (by rfl) (by rfl)
  refine⟨Reg.opOK_plain (by rfl) fun G listed A wv hI hall=>.inl ⟨Reg.wn,?_⟩,?_⟩
  focus
   obtain⟨e28,_,b28⟩:=hI.evm (i:=5) (d:=28) (by rfl) (by rfl) (hall ⟨5,.data⟩ (by simp) rfl);clear hI hall HS0;unfold Reg.Yields
   go_simp
   exact(UN.out _ _ b28).mono fun e w'' ⟨he,hb⟩=>⟨_,he,Reg.good_val (by rfl) (by rfl) hb⟩
  refine⟨Reg.opOK_plain (by rfl) fun G listed A wv hI hall=>.inl ⟨Reg.wn,?_⟩,?_⟩
  focus
   clear hI hall HS0;unfold Reg.Yields
   go_simp
   exact Reg.good_new (by rfl) (by rfl) (by rfl)
  refine⟨Reg.opOK_fill (by rfl) (by rfl) (by rfl) rfl rfl (by simp) (fun G listed A wv hI hall s6 hc=> ?_) (by intro f hf f' hf' _;rw [List.mem_singleton.1 hf,List.mem_singleton.1 hf']),?_⟩
  focus
   have e6:=s6;have e29:=hI.ev (i:=6) (d:=29) (by rfl) (by rfl) (hall ⟨6,.data⟩ (by simp) rfl);clear hI hall HS0;unfold Reg.Yields
   rcases hc with hc|hc<;>(obtain⟨c0,c1,c2,c3,f0,f1,f2,f3⟩:=Reg.cells4 hc;have hc':=hid hc;clear hc s6;go_simp;exact Reg.filled4 hc'.out _ _ _ _)
  trivial
 intro G w7 hI;obtain⟨_,_,c7⟩:=hI.evm (i:=7) (d:=6) (by rfl) (by rfl) (by rfl);have b7:w7.heap[G 7]? =some (.cells #[.int .u64 xW.a,.int .u64 xW.b,.int .u64 xW.c,.int .u64 xW.d] 29):=c7;have HX7:=hid (jA (t:=xW) b7);have HD7:=hid (heldS_below hI.base (QE HS0));have HB7:Hid (Below (w.alloc j5).heap.size (w.alloc j5) w7):=hid (HB6.out.trans (HD7.out.2.2.mono HB6.out.size));clear hI c7 HS0 b7;simp [Reg.finalTmps,Reg.dstAt,Reg.valOf,Xy];generalize G 7=gm at*
 go_wp2_with fail
 refine(RB.out _).mono ?_;rintro e w8 ⟨rfl,hb8⟩;have HD8:=hid (heldS_below hb8 HD7.out);have HX8:Hid (JG w8 gm 0 xW/\gm<w8.heap.size):=hid ⟨HX7.out.1.below hb8 HX7.out.2,Nat.lt_of_lt_of_le HX7.out.2 hb8.size⟩;have HB8:=hid (HB7.out.trans (hb8.mono HB7.out.size));clear hb8
 go_wp2_with fail
 refine(OO.out w8).mono ?_;rintro e w9 ⟨rfl,hb9'⟩;have hb9:Below w8.heap.size w8 w9:=(j3 _ _).trans (hb9'.mono (by simp));have HD9:=hid (heldS_below hb9 HD8.out);have HX9:Hid (JG w9 gm 0 xW/\gm<w9.heap.size):=hid ⟨HX8.out.1.below hb9 HX8.out.2,Nat.lt_of_lt_of_le HX8.out.2 hb9.size⟩;have HB9:=hid (HB8.out.trans (hb9.mono HB8.out.size));clear hb9 hb9'
 go_wp2_with fail
 refine(U2.out w9).mono ?_;rintro e w10 ⟨rfl,hb10'⟩;have hb10:Below w9.heap.size w9 w10:=(j3 _ _).trans (hb10'.mono (by simp));have hb11:Below w9.heap.size w9 (w10.alloc (.cells #[.int .u64 kW.a,.int .u64 kW.b,.int .u64 kW.c,.int .u64 kW.d] 29)):=hb10.trans ((j3 _ _).mono hb10.size);have HD11:=hid (heldS_below hb11 HD9.out);have HX11:Hid (JG (w10.alloc (.cells #[.int .u64 kW.a,.int .u64 kW.b,.int .u64 kW.c,.int .u64 kW.d] 29)) gm 0 xW/\gm<(w10.alloc (.cells #[.int .u64 kW.a,.int .u64 kW.b,.int .u64 kW.c,.int .u64 kW.d] 29)).heap.size):=hid ⟨HX9.out.1.below hb11 HX9.out.2,Nat.lt_of_lt_of_le HX9.out.2 hb11.size⟩;have HB11:=hid (HB9.out.trans (hb11.mono HB9.out.size));have HB10:=hid (HB9.out.trans (hb10.mono HB9.out.size));have HD10:=hid (heldS_below hb10 HD9.out);have HX10:Hid (JG w10 gm 0 xW/\gm<w10.heap.size):=hid ⟨HX9.out.1.below hb10 HX9.out.2,Nat.lt_of_lt_of_le HX9.out.2 hb10.size⟩;have HK11:=hid (jA (t:=kW) (j1 w10 (.cells #[.int .u64 kW.a,.int .u64 kW.b,.int .u64 kW.c,.int .u64 kW.d] 29)));clear hb10 hb10' hb11;have NOT:=hid (fun(t:W4) W=>Jt t.a t.b t.c t.d W);obtain⟨d0,d1,d2,d3⟩:=HD10.out.1;have hgdl:=HD10.out.2.1;obtain⟨x0,x1,x2,x3⟩:=HX10.out.1;have hgml:=HX10.out.2
 by_cases h100:b=100
 ·have HF:Hid (kq b=(dW,true)):=hid (by rw [HMR.out,if_pos h100]);have t100:((b:Int)==100)=true:=by simp;omega
  clear h100;obtain⟨⟨q0,q1,q2,q3⟩,⟨f0,f1,f2,f3⟩,hsz⟩:=jn (kK HB10.out);have HBw:=hid ((j3 w _).trans (HB10.out.mono (by simp)))
  go_wp2_with fail
  refine bodyPost_ret (v:=jM (dW,true)) (by simp [results,Tryz.results262,go_sem,jM,hsz,q0,q1,q2,q3]) rfl ⟨by rw [HF.out],?_⟩;exact below_put_alloc (t:=dW) HBw.out (jN _) _
 ·by_cases h119:b=119
  ·have HF:Hid (kq b=(xW,true)):=hid (by rw [HMR.out,if_neg h100,if_pos h119]);have t100:((b:Int)==100)=false:=by simp;omega
   have t119:((b:Int)==119)=true:=by simp;omega
   clear h100 h119;obtain⟨⟨q0,q1,q2,q3⟩,⟨f0,f1,f2,f3⟩,hsz⟩:=jn (kK HB10.out);have HBw:=hid ((j3 w _).trans (HB10.out.mono (by simp)))
   go_wp2_with fail
   refine bodyPost_ret (v:=jM (xW,true)) (by simp [results,Tryz.results262,go_sem,jM,hsz,q0,q1,q2,q3]) rfl ⟨by rw [HF.out],?_⟩;exact below_put_alloc (t:=xW) HBw.out (jN _) _
  ·by_cases h115:b=115
   ·have HF:Hid (kq b=(kW,true)):=hid (by rw [HMR.out,if_neg h100,if_neg h119,if_pos h115]);have t100:((b:Int)==100)=false:=by simp;omega
    have t119:((b:Int)==119)=false:=by simp;omega
    have t115:((b:Int)==115)=true:=by simp;omega
    clear h100 h119 h115;obtain⟨⟨q0,q1,q2,q3⟩,⟨f0,f1,f2,f3⟩,hsz⟩:=jn (kK HB10.out);have HBw:=hid ((j3 w _).trans (HB10.out.mono (by simp)))
    go_wp2_with fail
    refine bodyPost_ret (v:=jM (kW,true)) (by simp [results,Tryz.results262,go_sem,jM,hsz,q0,q1,q2,q3]) rfl ⟨by rw [HF.out],?_⟩;exact below_put_alloc (t:=kW) HBw.out (jN _) _
   ·by_cases h68:b=68
    ·have HF:Hid (kq b=(km dW,true)):=hid (by rw [HMR.out,if_neg h100,if_neg h119,if_neg h115,if_pos h68]);have t100:((b:Int)==100)=false:=by simp;omega
     have t119:((b:Int)==119)=false:=by simp;omega
     have t115:((b:Int)==115)=false:=by simp;omega
     have t68:((b:Int)==68)=true:=by simp;omega
     clear h100 h119 h115 h68
     go_wp2_with fail
     refine(NOT.out dW _).mono ?_;rintro e w12 ⟨rfl,hb12⟩;have HB12:=hid (HB11.out.trans (hb12.mono HB11.out.size));clear hb12;obtain⟨⟨q0,q1,q2,q3⟩,⟨f0,f1,f2,f3⟩,hsz⟩:=jn (kK HB12.out);have HBw:=hid ((j3 w _).trans (HB12.out.mono (by simp)))
     go_wp2_with fail
     refine bodyPost_ret (v:=jM (km dW,true)) (by simp [results,Tryz.results262,go_sem,jM,km,q0,q1,q2,q3]) rfl ⟨by rw [HF.out],?_⟩;exact qA (t:=(km dW)) HBw.out (jN _)
    ·by_cases h87:b=87
     ·have HF:Hid (kq b=(km xW,true)):=hid (by rw [HMR.out,if_neg h100,if_neg h119,if_neg h115,if_neg h68,if_pos h87]);have t100:((b:Int)==100)=false:=by simp;omega
      have t119:((b:Int)==119)=false:=by simp;omega
      have t115:((b:Int)==115)=false:=by simp;omega
      have t68:((b:Int)==68)=false:=by simp;omega
      have t87:((b:Int)==87)=true:=by simp;omega
      clear h100 h119 h115 h68 h87
      go_wp2_with fail
      refine(NOT.out xW _).mono ?_;rintro e w12 ⟨rfl,hb12⟩;have HB12:=hid (HB11.out.trans (hb12.mono HB11.out.size));clear hb12;obtain⟨⟨q0,q1,q2,q3⟩,⟨f0,f1,f2,f3⟩,hsz⟩:=jn (kK HB12.out);have HBw:=hid ((j3 w _).trans (HB12.out.mono (by simp)))
      go_wp2_with fail
      refine bodyPost_ret (v:=jM (km xW,true)) (by simp [results,Tryz.results262,go_sem,jM,km,q0,q1,q2,q3]) rfl ⟨by rw [HF.out],?_⟩;exact qA (t:=(km xW)) HBw.out (jN _)
     ·by_cases h83:b=83
      ·have HF:Hid (kq b=(km kW,true)):=hid (by rw [HMR.out,if_neg h100,if_neg h119,if_neg h115,if_neg h68,if_neg h87,if_pos h83]);have t100:((b:Int)==100)=false:=by simp;omega
       have t119:((b:Int)==119)=false:=by simp;omega
       have t115:((b:Int)==115)=false:=by simp;omega
       have t68:((b:Int)==68)=false:=by simp;omega
       have t87:((b:Int)==87)=false:=by simp;omega
       have t83:((b:Int)==83)=true:=by simp;omega
       clear h100 h119 h115 h68 h87 h83
       go_wp2_with fail
       refine(NOT.out kW _).mono ?_;rintro e w12 ⟨rfl,hb12⟩;have HB12:=hid (HB11.out.trans (hb12.mono HB11.out.size));clear hb12;obtain⟨⟨q0,q1,q2,q3⟩,⟨f0,f1,f2,f3⟩,hsz⟩:=jn (kK HB12.out);have HBw:=hid ((j3 w _).trans (HB12.out.mono (by simp)))
       go_wp2_with fail
       refine bodyPost_ret (v:=jM (km kW,true)) (by simp [results,Tryz.results262,go_sem,jM,km,q0,q1,q2,q3]) rfl ⟨by rw [HF.out],?_⟩;exact qA (t:=(km kW)) HBw.out (jN _)
      ·have HF:Hid (kq b=(j7,false)):=hid (by rw [HMR.out,if_neg h100,if_neg h119,if_neg h115,if_neg h68,if_neg h87,if_neg h83]);have t100:((b:Int)==100)=false:=by simp;omega
       have t119:((b:Int)==119)=false:=by simp;omega
       have t115:((b:Int)==115)=false:=by simp;omega
       have t68:((b:Int)==68)=false:=by simp;omega
       have t87:((b:Int)==87)=false:=by simp;omega
       have t83:((b:Int)==83)=false:=by simp;omega
       clear h100 h119 h115 h68 h87 h83;obtain⟨⟨q0,q1,q2,q3⟩,⟨f0,f1,f2,f3⟩,hsz⟩:=jn (kK HB10.out);have HBw:=hid ((j3 w _).trans (HB10.out.mono (by simp)))
       go_wp2_with fail
       refine bodyPost_ret (v:=jM (j7,false)) (by simp [results,Tryz.results262,go_sem,jM,j7,hsz,q0,q1,q2,q3]) rfl ⟨by rw [HF.out],?_⟩;exact below_put_alloc (t:=j7) HBw.out (jN _) _
theorem Xx(b:Nat)(hb:b<256)(w:World):
  Calls Tryz.prog 262 #[.int .u8 (b:Int)] w fun e w'=>e=.returned (jM (kq b))/\Below w.heap.size w w':=by
 cases ht:yU b
 ·cases hl:letB b
  ·exact mean_rest b hb ht hl w
  ·have h:b=110\/b=116\/b=114\/b=102\/b=118:=by unfold letB at hl;simpa using hl
   clear hl
   rcases h with rfl|rfl|rfl|rfl|rfl
   ·rw [show kq 110=(jh 10,true) from rfl];exact mean_110 w
   ·rw [show kq 116=(jh 9,true) from rfl];exact mean_116 w
   ·rw [show kq 114=(jh 13,true) from rfl];exact mean_114 w
   ·rw [show kq 102=(jh 12,true) from rfl];exact mean_102 w
   ·rw [show kq 118=(jh 11,true) from rfl];exact mean_118 w
 ·rw [show kq b=(jh b,true) by unfold kq;rw [ht];rfl];exact mean_them b hb ht w
end
end
section
section
open Go Go.RowKit
attribute [local go_sem ↓] Go.wp_at_zero Go.wp_at_succ
attribute [local go_sem] qX
abbrev Xd:ByteArray:=⟨#[49,50,51,52,53,54,55,56,57,98,66,65,122,90,71,81,69,107,112,80]⟩
def Qr(b:Nat):Bool:= [49,50,51,52,53,54,55,56,57,98,66,65,122,90,71,81,69,107,112,80].contains b
theorem ref_idx(b:Nat)(hb:b<256):decide (0<=firstIdx Xd (b:Int).toNat.toUInt8)=Qr b:=by
 have hall:∀n:Fin 256,decide (0<=firstIdx Xd ((n.val:Nat):Int).toNat.toUInt8)=Qr n.val:=by decide+kernel
 exact hall ⟨b,hb⟩
def kX(s:ByteArray)(k:Nat):W4×Int×Nat:=
 if s.size<=k+1 then(j7,4,k+1) else if Qr (jl s (k+1)) then(j7,6,k) else if jl s (k+1)=120 then pairR s (k+1+1)
 else if(kq (jl s (k+1))).2 then((kq (jl s (k+1))).1,0,k+1+1) else(j7,4,k+1)
theorem Kr(g k:Nat)(s:ByteArray)(hk:k<s.size)(hs:s.size<=1099511627776)(w:World)(h:jI w g s k):
  Calls Tryz.prog 243 #[.pointer (some ⟨g,0,none⟩)] w fun e w'=>e=.returned (jf (kX s k).1 (kX s k).2.1)/\Rd w w' g s (kX s k).2.2:=by
 have HH:=j0 h;have hlt:=h.lt;have HA:=j0 (kg h j5);have ST:=j0 (kO g 1 1 s k (by omega) _ HA.out rfl);obtain⟨q,hq⟩:∃q,q=k+1:=⟨_,rfl⟩;have HESC:Hid (kX s k=if s.size<=q then(j7,4,q) else if Qr (jl s q) then(j7,6,k) else if jl s q=120 then pairR s (q+1) else if(kq (jl s q)).2 then((kq (jl s q)).1,0,q+1) else(j7,4,q)):=j0 (by rw [hq];rfl);have HQ:=j0 hq;have hqs:q<=s.size:=by omega
 clear hq;have HE:=j0 (fun W (hW:jI W g s q)=>tended_any g s q W hW);obtain⟨r0,r1,rz,rl⟩:=HA.out;unfold j5 at ST r0 r1 rz rl;clear h
 by_cases hend:s.size<=q
 ·have HF:Hid (kX s k=(j7,4,q)):=j0 (by rw [HESC.out,if_pos hend]);rw [jT hend] at HE
  go_enter Tryz.func243,Tryz.ntmps243
  go_wp2_with fail
  refine ST.out.mono ?_;rintro e w2 ⟨rfl,hw2⟩;have HR2:Hid (Rd (w.alloc j5) w2 g s q):=j0 ((Rd.refl HA.out).put (by rw [hw2,HQ.out];rfl));clear hw2 r0 r1 rz rl
  go_wp2_with fail
  refine(HE.out _ HR2.out.1).mono ?_;rintro e w3 ⟨rfl,n3,hw3⟩;have HR3:Hid (Rd (w.alloc j5) w3 g s q):=j0 (by rw [hw3];exact HR2.out.drewN n3);clear hw3;obtain⟨⟨q0,q1,q2,q3⟩,⟨f0,f1,f2,f3⟩,_hsz⟩:=jn (ja HH.out HR3.out);have HRw:Hid (Rd w w3 g s q):=j0 ⟨HR3.out.1,j8 HR3.out.2⟩
  go_wp2_with fail
  refine bodyPost_ret (v:=jf j7 4) (by simp [results,Tryz.results243,go_sem,jf,j7,q0,q1,q2,q3]) rfl (vz HF.out ?_);exact HRw.out.set (jN _) hlt j7
 ·rw [jF hend] at HE;have hin:q<s.size:=by omega
  have hb:((s[q]'hin).toNat)=jl s q:=(jy hin).symm;have hbl:=qk hin;have hri:=ref_idx (jl s q) hbl;obtain⟨v,hv⟩:∃v,firstIdx Xd ((jl s q:Nat):Int).toNat.toUInt8=v:=⟨_,rfl⟩;rw [hv] at hri;have IX:=j0 (fun W=>qo Xd (jl s q) v hv W);rw [<-hb] at IX;clear hv
  cases hr:Qr (jl s q)
  ·rw [hr] at hri
   by_cases hx:jl s q=120
   ·have SK:=j0 (fun W (hW:jI W g s q)=>skip_yes g s q 120 (by omega) W hW hx hs);have PR:=j0 (fun W (hW:jI W g s (q+1))=>tpair_any g (q+1) s hs W hW);have HF:Hid (kX s k=pairR s (q+1)):=j0 (by rw [HESC.out,if_neg hend,hr,if_neg (by decide),if_pos hx]);obtain⟨r,hrr⟩:∃r,r=pairR s (q+1):=⟨_,rfl⟩;rw [<-hrr] at PR HF;clear hrr hx hr hb hbl;obtain⟨t,c,j⟩:=r;have PR':Hid (∀W,jI W g s (q+1)->Calls Tryz.prog 261 #[.pointer (some ⟨g,0,none⟩)] W fun e w'=>e=.returned (jf t c)/\Rd W w' g s j):=PR;clear PR
    go_enter Tryz.func243,Tryz.ntmps243
    go_wp2_with fail
    refine ST.out.mono ?_;rintro e w2 ⟨rfl,hw2⟩;have HR2:Hid (Rd (w.alloc j5) w2 g s q):=j0 ((Rd.refl HA.out).put (by rw [hw2,HQ.out];rfl));clear hw2 r0 r1 rz rl
    go_wp2_with fail
    refine(HE.out _ HR2.out.1).mono ?_;rintro e w3 ⟨rfl,n3,hw3⟩;have HR3:Hid (Rd (w.alloc j5) w3 g s q):=j0 (by rw [hw3];exact HR2.out.drewN n3);clear hw3;obtain⟨y0,y1,yz,yl⟩:=HR3.out.1
    go_wp2_with fail
    go_quiet (fail)
    have HR4:Hid (Rd (w.alloc j5) (w3.drewN nq) g s q):=j0 (HR3.out.drewN nq);clear y0 y1 yz yl;generalize w3.drewN nq=w4 at*
    go_wp2_with fail
    refine(IX.out _).mono ?_;rintro e w5 ⟨rfl,hw5⟩;obtain rfl:w4=w5:=hw5.symm
    go_wp2_with fail
    refine(SK.out _ HR4.out.1).mono ?_;rintro e w6 ⟨rfl,hr6⟩;have HR6:=j0 (HR4.out.trans hr6);clear hr6
    go_wp2_with fail
    refine(PR'.out _ HR6.out.1).mono ?_;rintro e w7 ⟨rfl,hr7⟩;have HR7:=j0 (HR6.out.trans hr7);clear hr7;unfold jf;obtain⟨⟨q0,q1,q2,q3⟩,⟨f0,f1,f2,f3⟩,_hsz⟩:=jn (ja HH.out HR7.out);have HRw:Hid (Rd w w7 g s j):=j0 ⟨HR7.out.1,j8 HR7.out.2⟩
    go_wp2_with fail
    refine bodyPost_ret (v:=jf t c) (by simp [results,Tryz.results243,go_sem,jf,q0,q1,q2,q3]) rfl (vz HF.out ?_);exact HRw.out.set (jN _) hlt t
   ·have SK:=j0 (fun W (hW:jI W g s q)=>vQ g s q 120 (by omega) W hW hx);have ME:=j0 (fun W=>Xx (jl s q) hbl W);have HF0:Hid (kX s k=if(kq (jl s q)).2 then((kq (jl s q)).1,0,q+1) else(j7,4,q)):=j0 (by rw [HESC.out,if_neg hend,hr,if_neg (by decide),if_neg hx]);rw [<-hb] at ME HF0;generalize kq (s[q]'hin).toNat=r at*;clear hx hr hb hbl;obtain⟨t,y⟩:=r;unfold jM at ME
    cases y
    ·have HF:Hid (kX s k=(j7,4,q)):=j0 HF0.out
     go_enter Tryz.func243,Tryz.ntmps243
     go_wp2_with fail
     refine ST.out.mono ?_;rintro e w2 ⟨rfl,hw2⟩;have HR2:Hid (Rd (w.alloc j5) w2 g s q):=j0 ((Rd.refl HA.out).put (by rw [hw2,HQ.out];rfl));clear hw2 r0 r1 rz rl
     go_wp2_with fail
     refine(HE.out _ HR2.out.1).mono ?_;rintro e w3 ⟨rfl,n3,hw3⟩;have HR3:Hid (Rd (w.alloc j5) w3 g s q):=j0 (by rw [hw3];exact HR2.out.drewN n3);clear hw3;obtain⟨y0,y1,yz,yl⟩:=HR3.out.1
     go_wp2_with fail
     go_quiet (fail)
     have HR4:Hid (Rd (w.alloc j5) (w3.drewN nq) g s q):=j0 (HR3.out.drewN nq);clear y0 y1 yz yl;generalize w3.drewN nq=w4 at*
     go_wp2_with fail
     refine(IX.out _).mono ?_;rintro e w5 ⟨rfl,hw5⟩;obtain rfl:w4=w5:=hw5.symm
     go_wp2_with fail
     refine(SK.out _ HR4.out.1).mono ?_;rintro e w6 ⟨rfl,n6,hw6⟩;have HR6:Hid (Rd (w.alloc j5) w6 g s q):=j0 (by rw [hw6];exact HR4.out.drewN n6);clear hw6
     go_wp2_with fail
     refine(ME.out _).mono ?_;rintro e w7 ⟨rfl,hb7⟩;have HR7:=j0 (HR6.out.below hb7);clear hb7;obtain⟨⟨q0,q1,q2,q3⟩,⟨f0,f1,f2,f3⟩,hsz⟩:=jn (ja HH.out HR7.out);have HRw:Hid (Rd w w7 g s q):=j0 ⟨HR7.out.1,j8 HR7.out.2⟩
     go_wp2_with fail
     refine bodyPost_ret (v:=jf j7 4) (by simp [results,Tryz.results243,go_sem,jf,j7,hsz,q0,q1,q2,q3]) rfl (vz HF.out ?_);exact(HRw.out.set (jN _) hlt j7).below (j3 _ _)
    ·have HF:Hid (kX s k=(t,0,q+1)):=j0 HF0.out
     go_enter Tryz.func243,Tryz.ntmps243
     go_wp2_with fail
     refine ST.out.mono ?_;rintro e w2 ⟨rfl,hw2⟩;have HR2:Hid (Rd (w.alloc j5) w2 g s q):=j0 ((Rd.refl HA.out).put (by rw [hw2,HQ.out];rfl));clear hw2 r0 r1 rz rl
     go_wp2_with fail
     refine(HE.out _ HR2.out.1).mono ?_;rintro e w3 ⟨rfl,n3,hw3⟩;have HR3:Hid (Rd (w.alloc j5) w3 g s q):=j0 (by rw [hw3];exact HR2.out.drewN n3);clear hw3;obtain⟨y0,y1,yz,yl⟩:=HR3.out.1
     go_wp2_with fail
     go_quiet (fail)
     have HR4:Hid (Rd (w.alloc j5) (w3.drewN nq) g s q):=j0 (HR3.out.drewN nq);clear y0 y1 yz yl;generalize w3.drewN nq=w4 at*
     go_wp2_with fail
     refine(IX.out _).mono ?_;rintro e w5 ⟨rfl,hw5⟩;obtain rfl:w4=w5:=hw5.symm
     go_wp2_with fail
     refine(SK.out _ HR4.out.1).mono ?_;rintro e w6 ⟨rfl,n6,hw6⟩;have HR6:Hid (Rd (w.alloc j5) w6 g s q):=j0 (by rw [hw6];exact HR4.out.drewN n6);clear hw6
     go_wp2_with fail
     refine(ME.out _).mono ?_;rintro e w7 ⟨rfl,hb7⟩;have HR7:=j0 (HR6.out.below hb7);clear hb7;have ST2:=j0 (kO g 1 1 s q (by omega) (w7.alloc (.cells #[.int .u64 t.a,.int .u64 t.b,.int .u64 t.c,.int .u64 t.d] 29)) (kg HR7.out.1 _) rfl)
     go_wp2_with fail
     refine ST2.out.mono ?_;rintro e w8 ⟨rfl,hw8⟩;have HR8:Hid (Rd (w.alloc j5) w8 g s (q+1)):=j0 ((HR7.out.below (j3 w7 (.cells #[.int .u64 t.a,.int .u64 t.b,.int .u64 t.c,.int .u64 t.d] 29))).put (by rw [hw8];rfl));have h6:w8.heap[w7.heap.size]? =some (.cells #[.int .u64 t.a,.int .u64 t.b,.int .u64 t.c,.int .u64 t.d] 29):=ja HR7.out.1 ((Rd.refl (kg HR7.out.1 _)).put (j:=q+1) (by rw [hw8];rfl));obtain⟨⟨z0,z1,z2,z3⟩,hz⟩:=jA h6;clear hw8 h6;obtain⟨⟨q0,q1,q2,q3⟩,⟨f0,f1,f2,f3⟩,_hsz⟩:=jn (ja HH.out HR8.out);have HRw:Hid (Rd w w8 g s (q+1)):=j0 ⟨HR8.out.1,j8 HR8.out.2⟩
     go_wp2_with fail
     refine bodyPost_ret (v:=jf t 0) (by simp [results,Tryz.results243,go_sem,jf,q0,q1,q2,q3]) rfl (vz HF.out ?_);exact HRw.out.set (jN _) hlt t
  ·rw [hr] at hri;have HF:Hid (kX s k=(j7,6,k)):=j0 (by rw [HESC.out,if_neg hend,hr,if_pos rfl]);clear hr hb hbl
   go_enter Tryz.func243,Tryz.ntmps243
   go_wp2_with fail
   refine ST.out.mono ?_;rintro e w2 ⟨rfl,hw2⟩;have HR2:Hid (Rd (w.alloc j5) w2 g s q):=j0 ((Rd.refl HA.out).put (by rw [hw2,HQ.out];rfl));clear hw2 r0 r1 rz rl
   go_wp2_with fail
   refine(HE.out _ HR2.out.1).mono ?_;rintro e w3 ⟨rfl,n3,hw3⟩;have HR3:Hid (Rd (w.alloc j5) w3 g s q):=j0 (by rw [hw3];exact HR2.out.drewN n3);clear hw3;obtain⟨y0,y1,yz,yl⟩:=HR3.out.1
   go_wp2_with fail
   go_quiet (fail)
   have HR4:Hid (Rd (w.alloc j5) (w3.drewN nq) g s q):=j0 (HR3.out.drewN nq);clear y0 y1 yz yl;generalize w3.drewN nq=w4 at*
   go_wp2_with fail
   refine(IX.out _).mono ?_;rintro e w5 ⟨rfl,hw5⟩;obtain rfl:w4=w5:=hw5.symm;have TB:=j0 (vh g k 6 s q w4 HR4.out.1)
   go_wp2_with fail
   refine TB.out.mono ?_;rintro e w6 ⟨rfl,hw6⟩;have HR6:Hid (Rd (w.alloc j5) w6 g s k):=j0 (HR4.out.put hw6);clear hw6;obtain⟨⟨q0,q1,q2,q3⟩,⟨f0,f1,f2,f3⟩,_hsz⟩:=jn (ja HH.out HR6.out);have HRw:Hid (Rd w w6 g s k):=j0 ⟨HR6.out.1,j8 HR6.out.2⟩
   go_wp2_with fail
   refine bodyPost_ret (v:=jf j7 6) (by simp [results,Tryz.results243,go_sem,jf,j7,q0,q1,q2,q3]) rfl (vz HF.out ?_);exact HRw.out.set (jN _) hlt j7
open Go Go.RowKit
attribute [local go_sem ↓] Go.wp_at_zero Go.wp_at_succ
attribute [local go_sem] qX
def jH(s:ByteArray)(k:Nat):W4×Int×Nat:=
 if s.size<=k then(j7,4,k) else if jl s k=92 then kX s k else if jl s k=91\/jl s k=93\/jl s k=94\/jl s k=45 then(j7,4,k) else(jh (jl s k),0,k+1)
theorem Ua(g k:Nat)(s:ByteArray)(hs:s.size<=1099511627776)(w:World)(h:jI w g s k):
  Calls Tryz.prog 265 #[.pointer (some ⟨g,0,none⟩)] w fun e w'=>e=.returned (jf (jH s k).1 (jH s k).2.1)/\Rd w w' g s (jH s k).2.2:=by
 have HH:=j0 h;have hlt:=h.lt;have HA:=j0 (kg h j5);have HE:=j0 (tended_any g s k _ HA.out);unfold j5 at HE;clear h
 by_cases hend:s.size<=k
 ·have HF:Hid (jH s k=(j7,4,k)):=j0 (by unfold jH;rw [if_pos hend]);rw [jT hend] at HE
  go_enter Tryz.func265,Tryz.ntmps265
  go_wp2_with fail
  refine HE.out.mono ?_;rintro e w3 ⟨rfl,n3,hw3⟩;have HR3:Hid (Rd (w.alloc j5) w3 g s k):=j0 (by rw [hw3];exact(Rd.refl HA.out).drewN n3);clear hw3;obtain⟨⟨q0,q1,q2,q3⟩,⟨f0,f1,f2,f3⟩,_hsz⟩:=jn (ja HH.out HR3.out);have HRw:Hid (Rd w w3 g s k):=j0 ⟨HR3.out.1,j8 HR3.out.2⟩
  go_wp2_with fail
  refine bodyPost_ret (v:=jf j7 4) (by simp [results,Tryz.results265,go_sem,jf,j7,q0,q1,q2,q3]) rfl (vz HF.out ?_);exact HRw.out.set (jN _) hlt j7
 ·rw [jF hend] at HE;have hin:k<s.size:=by omega
  have hb:((s[k]'hin).toNat)=jl s k:=(jy hin).symm
  by_cases h92:jl s k=92
  ·have HF0:Hid (jH s k=kX s k):=j0 (by unfold jH;rw [if_neg hend,if_pos h92]);have ES:=j0 (fun W (hW:jI W g s k)=>Kr g k s hin hs W hW);have g1:(((s[k]'hin).toNat:Int)==92)=true:=by rw [hb,h92];rfl
   obtain⟨r,hrr⟩:∃r,r=kX s k:=⟨_,rfl⟩;rw [<-hrr] at ES HF0;clear hrr h92 hb;obtain⟨t,c,j⟩:=r;have HF:Hid (jH s k=(t,c,j)):=HF0;have ES':Hid (∀W,jI W g s k->Calls Tryz.prog 243 #[.pointer (some ⟨g,0,none⟩)] W fun e w'=>e=.returned (jf t c)/\Rd W w' g s j):=ES;clear ES HF0
   go_enter Tryz.func265,Tryz.ntmps265
   go_wp2_with fail
   refine HE.out.mono ?_;rintro e w3 ⟨rfl,n3,hw3⟩;have HR3:Hid (Rd (w.alloc j5) w3 g s k):=j0 (by rw [hw3];exact(Rd.refl HA.out).drewN n3);clear hw3;obtain⟨y0,y1,yz,yl⟩:=HR3.out.1
   go_wp2_with fail
   go_quiet (fail)
   have HR4:Hid (Rd (w.alloc j5) (w3.drewN nq) g s k):=j0 (HR3.out.drewN nq);clear y0 y1 yz yl;generalize w3.drewN nq=w4 at*
   go_wp2_with fail
   refine(ES'.out _ HR4.out.1).mono ?_;rintro e w5 ⟨rfl,hr5⟩;have HR5:=j0 (HR4.out.trans hr5);clear hr5;unfold jf;obtain⟨⟨q0,q1,q2,q3⟩,⟨f0,f1,f2,f3⟩,_hsz⟩:=jn (ja HH.out HR5.out);have HRw:Hid (Rd w w5 g s j):=j0 ⟨HR5.out.1,j8 HR5.out.2⟩
   go_wp2_with fail
   refine bodyPost_ret (v:=jf t c) (by simp [results,Tryz.results265,go_sem,jf,q0,q1,q2,q3]) rfl (vz HF.out ?_);exact HRw.out.set (jN _) hlt t
  ·by_cases hsp:jl s k=91\/jl s k=93\/jl s k=94\/jl s k=45
   ·have HF:Hid (jH s k=(j7,4,k)):=j0 (by unfold jH;rw [if_neg hend,if_neg h92,if_pos hsp])
    rcases hsp with hx|hx|hx|hx
    ·have g92:(((s[k]'hin).toNat:Int)==92)=false:=by rw [hb];simp;omega
     have g91:(((s[k]'hin).toNat:Int)==91)=true:=by rw [hb,hx];rfl
     clear hx h92 hb
     go_enter Tryz.func265,Tryz.ntmps265
     go_wp2_with fail
     refine HE.out.mono ?_;rintro e w3 ⟨rfl,n3,hw3⟩;have HR3:Hid (Rd (w.alloc j5) w3 g s k):=j0 (by rw [hw3];exact(Rd.refl HA.out).drewN n3);clear hw3;obtain⟨y0,y1,yz,yl⟩:=HR3.out.1
     go_wp2_with fail
     go_quiet (fail)
     have HR4:Hid (Rd (w.alloc j5) (w3.drewN nq) g s k):=j0 (HR3.out.drewN nq);clear y0 y1 yz yl;generalize w3.drewN nq=w4 at*;obtain⟨⟨q0,q1,q2,q3⟩,⟨f0,f1,f2,f3⟩,_hsz⟩:=jn (ja HH.out HR4.out);have HRw:Hid (Rd w w4 g s k):=j0 ⟨HR4.out.1,j8 HR4.out.2⟩
     go_wp2_with fail
     refine bodyPost_ret (v:=jf j7 4) (by simp [results,Tryz.results265,go_sem,jf,j7,q0,q1,q2,q3]) rfl (vz HF.out ?_);exact HRw.out.set (jN _) hlt j7
    ·have g92:(((s[k]'hin).toNat:Int)==92)=false:=by rw [hb];simp;omega
     have g91:(((s[k]'hin).toNat:Int)==91)=false:=by rw [hb];simp;omega
     have g93:(((s[k]'hin).toNat:Int)==93)=true:=by rw [hb,hx];rfl
     clear hx h92 hb
     go_enter Tryz.func265,Tryz.ntmps265
     go_wp2_with fail
     refine HE.out.mono ?_;rintro e w3 ⟨rfl,n3,hw3⟩;have HR3:Hid (Rd (w.alloc j5) w3 g s k):=j0 (by rw [hw3];exact(Rd.refl HA.out).drewN n3);clear hw3;obtain⟨y0,y1,yz,yl⟩:=HR3.out.1
     go_wp2_with fail
     go_quiet (fail)
     have HR4:Hid (Rd (w.alloc j5) (w3.drewN nq) g s k):=j0 (HR3.out.drewN nq);clear y0 y1 yz yl;generalize w3.drewN nq=w4 at*;obtain⟨⟨q0,q1,q2,q3⟩,⟨f0,f1,f2,f3⟩,_hsz⟩:=jn (ja HH.out HR4.out);have HRw:Hid (Rd w w4 g s k):=j0 ⟨HR4.out.1,j8 HR4.out.2⟩
     go_wp2_with fail
     refine bodyPost_ret (v:=jf j7 4) (by simp [results,Tryz.results265,go_sem,jf,j7,q0,q1,q2,q3]) rfl (vz HF.out ?_);exact HRw.out.set (jN _) hlt j7
    ·have g92:(((s[k]'hin).toNat:Int)==92)=false:=by rw [hb];simp;omega
     have g91:(((s[k]'hin).toNat:Int)==91)=false:=by rw [hb];simp;omega
     have g93:(((s[k]'hin).toNat:Int)==93)=false:=by rw [hb];simp;omega
     have g94:(((s[k]'hin).toNat:Int)==94)=true:=by rw [hb,hx];rfl
     clear hx h92 hb
     go_enter Tryz.func265,Tryz.ntmps265
     go_wp2_with fail
     refine HE.out.mono ?_;rintro e w3 ⟨rfl,n3,hw3⟩;have HR3:Hid (Rd (w.alloc j5) w3 g s k):=j0 (by rw [hw3];exact(Rd.refl HA.out).drewN n3);clear hw3;obtain⟨y0,y1,yz,yl⟩:=HR3.out.1
     go_wp2_with fail
     go_quiet (fail)
     have HR4:Hid (Rd (w.alloc j5) (w3.drewN nq) g s k):=j0 (HR3.out.drewN nq);clear y0 y1 yz yl;generalize w3.drewN nq=w4 at*;obtain⟨⟨q0,q1,q2,q3⟩,⟨f0,f1,f2,f3⟩,_hsz⟩:=jn (ja HH.out HR4.out);have HRw:Hid (Rd w w4 g s k):=j0 ⟨HR4.out.1,j8 HR4.out.2⟩
     go_wp2_with fail
     refine bodyPost_ret (v:=jf j7 4) (by simp [results,Tryz.results265,go_sem,jf,j7,q0,q1,q2,q3]) rfl (vz HF.out ?_);exact HRw.out.set (jN _) hlt j7
    ·have g92:(((s[k]'hin).toNat:Int)==92)=false:=by rw [hb];simp;omega
     have g91:(((s[k]'hin).toNat:Int)==91)=false:=by rw [hb];simp;omega
     have g93:(((s[k]'hin).toNat:Int)==93)=false:=by rw [hb];simp;omega
     have g94:(((s[k]'hin).toNat:Int)==94)=false:=by rw [hb];simp;omega
     have g45:(((s[k]'hin).toNat:Int)==45)=true:=by rw [hb,hx];rfl
     clear hx h92 hb
     go_enter Tryz.func265,Tryz.ntmps265
     go_wp2_with fail
     refine HE.out.mono ?_;rintro e w3 ⟨rfl,n3,hw3⟩;have HR3:Hid (Rd (w.alloc j5) w3 g s k):=j0 (by rw [hw3];exact(Rd.refl HA.out).drewN n3);clear hw3;obtain⟨y0,y1,yz,yl⟩:=HR3.out.1
     go_wp2_with fail
     go_quiet (fail)
     have HR4:Hid (Rd (w.alloc j5) (w3.drewN nq) g s k):=j0 (HR3.out.drewN nq);clear y0 y1 yz yl;generalize w3.drewN nq=w4 at*;obtain⟨⟨q0,q1,q2,q3⟩,⟨f0,f1,f2,f3⟩,_hsz⟩:=jn (ja HH.out HR4.out);have HRw:Hid (Rd w w4 g s k):=j0 ⟨HR4.out.1,j8 HR4.out.2⟩
     go_wp2_with fail
     refine bodyPost_ret (v:=jf j7 4) (by simp [results,Tryz.results265,go_sem,jf,j7,q0,q1,q2,q3]) rfl (vz HF.out ?_);exact HRw.out.set (jN _) hlt j7
   ·have HF:Hid (jH s k=(jh (jl s k),0,k+1)):=j0 (by unfold jH;rw [if_neg hend,if_neg h92,if_neg hsp]);have IT:=j0 (fun W (hW:jI W g s k)=>Kq g k s hin hs W hW);have g92:(((s[k]'hin).toNat:Int)==92)=false:=by rw [hb];simp;omega
    have g91:(((s[k]'hin).toNat:Int)==91)=false:=by rw [hb];simp;omega
    have g93:(((s[k]'hin).toNat:Int)==93)=false:=by rw [hb];simp;omega
    have g94:(((s[k]'hin).toNat:Int)==94)=false:=by rw [hb];simp;omega
    have g45:(((s[k]'hin).toNat:Int)==45)=false:=by rw [hb];simp;omega
    generalize jh (jl s k)=t at*;clear hsp h92 hb
    go_enter Tryz.func265,Tryz.ntmps265
    go_wp2_with fail
    refine HE.out.mono ?_;rintro e w3 ⟨rfl,n3,hw3⟩;have HR3:Hid (Rd (w.alloc j5) w3 g s k):=j0 (by rw [hw3];exact(Rd.refl HA.out).drewN n3);clear hw3;obtain⟨y0,y1,yz,yl⟩:=HR3.out.1
    go_wp2_with fail
    go_quiet (fail)
    have HR4:Hid (Rd (w.alloc j5) (w3.drewN nq) g s k):=j0 (HR3.out.drewN nq);clear y0 y1 yz yl;generalize w3.drewN nq=w4 at*
    go_wp2_with fail
    refine(IT.out _ HR4.out.1).mono ?_;rintro e w5 ⟨rfl,hr5⟩;have HR5:=j0 (HR4.out.trans hr5);clear hr5;unfold jf;obtain⟨⟨q0,q1,q2,q3⟩,⟨f0,f1,f2,f3⟩,_hsz⟩:=jn (ja HH.out HR5.out);have HRw:Hid (Rd w w5 g s (k+1)):=j0 ⟨HR5.out.1,j8 HR5.out.2⟩
    go_wp2_with fail
    refine bodyPost_ret (v:=jf t 0) (by simp [results,Tryz.results265,go_sem,jf,q0,q1,q2,q3]) rfl (vz HF.out ?_);exact HRw.out.set (jN _) hlt t
end
end
section
section
open Go Go.RowKit
def zf(t:W4):List Nat:=(List.range 256).filter t.mem
def qi(t:W4):Option Nat:=match zf t with
 | [n]=>some n
 |_=>none
theorem ones_len(t:W4):(lst (kn t.a t.b t.c t.d) 256).length=(zf t).length:=by
 unfold lst zf;rw [List.length_map];rfl
theorem J5{t:W4}{n:Nat}(h:qi t=some n):zf t= [n]:=by
 unfold qi at h
 split at h
 ·next m hm=>rw [hm];injection h with h;rw [h]
 ·cases h
theorem Ul{t:W4}{n:Nat}:qi t=some n ↔ zf t= [n]:=by
 constructor
 ·exact J5
 ·intro h;unfold qi;rw [h]
theorem xh{t:W4}{n:Nat}(h:qi t=some n):n<256/\t.mem n=true/\∀m,m<256->t.mem m=true->m=n:=by
 have h1:=J5 h;have hn:n∈zf t:=by rw [h1];simp
 unfold zf at hn;rw [List.mem_filter,List.mem_range] at hn;refine⟨hn.1,hn.2,fun m hm hmem=> ?_⟩;have:m∈zf t:=by unfold zf;rw [List.mem_filter,List.mem_range];exact⟨hm,hmem⟩
 rw [h1] at this;simpa using this
theorem Uk{t:W4}(h:qi t=none):(zf t).length≠1:=by
 intro h1;obtain⟨n,hn⟩:=List.length_eq_one_iff.1 h1;rw [Ul.2 hn] at h
 cases h
theorem rngW_none{a b:Nat}(hb:b<256)(h:b<a):jL a b=j7:=by
 have hf:(jL a b).fit:=⟨vK _ _,vK _ _,vK _ _,vK _ _⟩;refine W4.ext' hf qf fun n hn=> ?_
 rw [Q1]
 show kn (yM a b 0) (yM a b 1) (yM a b 2) (yM a b 3) n=false
 rw [Qy a b n hb hn];exact jF (by omega)
theorem rngW_some{a b:Nat}(hb:b<256)(h:a<=b):jL a b≠j7:=by
 intro e
 have h1:(jL a b).mem a=true:=by
  show kn (yM a b 0) (yM a b 1) (yM a b 2) (yM a b 3) a=true
  rw [Qy a b a hb (by omega)];exact jT (by omega)
 rw [e,Q1] at h1
 cases h1
def VJ(s:ByteArray)(k a j:Nat):W4×Int×Nat:=
 if(jH s j).2.1≠0 then(j7,(jH s j).2.1,(jH s j).2.2) else match qi (jH s j).1 with
 |none=>(j7,4,j)
 |some b=>if b<a then(j7,5,k) else(jL a b,0,(jH s j).2.2)
def jB(s:ByteArray)(k:Nat):W4×Int×Nat:=
 if(jH s k).2.1≠0\/jl s (jH s k).2.2≠45 then jH s k else match qi (jH s k).1 with
 |none=>(j7,4,(jH s k).2.2)
 |some a=>VJ s k a ((jH s k).2.2+1)
def KR(s:ByteArray):Nat->W4->Int->Nat->W4×Int×Nat
 |0,_,_,i=>(j7,4,i)
 |n+1,t,e,i=>if e≠0 then(j7,e,i) else if jl s i=93 then(t,0,i+1) else KR s n (uni2 t (jB s i).1) (jB s i).2.1 (jB s i).2.2
def ke(s:ByteArray)(i:Nat):W4×Int×Nat:=KR s (s.size+2) (jB s i).1 (jB s i).2.1 (jB s i).2.2
def kH(s:ByteArray)(k:Nat):W4×Int×Nat:=
 if jl s (k+1)=94 then(if(ke s (k+2)).2.1≠0 then(j7,(ke s (k+2)).2.1,(ke s (k+2)).2.2) else(km (ke s (k+2)).1,0,(ke s (k+2)).2.2))
 else ke s (k+1)
def K7(s:ByteArray)(k:Nat):W4×Int×Nat:=
 if jl s k=91 then kH s k else if jl s k=92 then kX s k else if jl s k=46 then(km (jh 10),0,k+1)
 else if jl s k=94\/jl s k=36 then(j7,6,k) else if jl s k=93\/jl s k=125 then(j7,4,k) else(jh (jl s k),0,k+1)
def jd(s:ByteArray)(k:Nat):jp×Int×Nat:=
 if jl s k=124 then(⟨4,j7,0,0,false⟩,0,k+1) else if jl s k=40 then vx s k else if jl s k=41 then(⟨3,j7,0,0,false⟩,0,k+1)
 else if jl s k=42\/jl s k=43\/jl s k=63 then xP s k else if jl s k=123 then kA s k
 else(⟨0,(K7 s k).1,0,0,false⟩,(K7 s k).2.1,(K7 s k).2.2)
def kR(s:ByteArray):Nat->Nat->List (jp×Nat×Nat)×Int×Nat
 |0,k=>([],4,k)
 |n+1,k=>if s.size<=k then([],0,k) else if(jd s k).2.1≠0 then([],(jd s k).2.1,(jd s k).2.2)
  else if(kR s n (jd s k).2.2).2.1≠0 then([],(kR s n (jd s k).2.2).2.1,(kR s n (jd s k).2.2).2.2)
  else(((jd s k).1,k,(jd s k).2.2)::(kR s n (jd s k).2.2).1,0,(kR s n (jd s k).2.2).2.2)
def jm(s:ByteArray):List (jp×Nat×Nat)×Int×Nat:=kR s (s.size+1) 0
theorem kz(b:Nat):(jh b).fit:=⟨Q0 _ _ _,Q0 _ _ _,Q0 _ _ _,Q0 _ _ _⟩
theorem notW_fit(t:W4):(km t).fit:=⟨zh _,zh _,zh _,zh _⟩
theorem rngW_fit(a b:Nat):(jL a b).fit:=⟨vK _ _,vK _ _,vK _ _,vK _ _⟩
theorem yS(s t:W4):(uni2 s t).fit:=⟨orr_fit _ _,orr_fit _ _,orr_fit _ _,orr_fit _ _⟩
theorem VN(s t u:W4):(JZ s t u).fit:=⟨orr_fit _ _,orr_fit _ _,orr_fit _ _,orr_fit _ _⟩
structure vB(s:ByteArray)(k:Nat)(r:W4×Int×Nat):Prop where
 fit:r.1.fit
 err:r.2.1=0\/r.2.1=4\/r.2.1=5\/r.2.1=6
 le:r.2.2<=s.size
 on:r.2.1=0->k<r.2.2
 no:r.2.1≠0->r.1=j7
theorem vB.bad{s:ByteArray}{k j:Nat}{e:Int}(he:e=4\/e=5\/e=6)(hj:j<=s.size):vB s k (j7,e,j):=
 ⟨qf,.inr he,hj,fun h=>by have h':e=0:=h;rcases he with rfl|rfl|rfl<;>exact absurd h' (by decide),fun _=>rfl⟩
theorem vB.good{s:ByteArray}{k j:Nat}{t:W4}(ht:t.fit)(hj:j<=s.size)(hk:k<j):vB s k (t,0,j):=⟨ht,.inl rfl,hj,fun _=>hk,fun h=>absurd rfl h⟩
theorem vB.up{s:ByteArray}{k j:Nat}{r:W4×Int×Nat}(h:vB s j r)(hk:k<=j):vB s k r:=⟨h.fit,h.err,h.le,fun e=>Nat.lt_of_le_of_lt hk (h.on e),h.no⟩
theorem hex_in{s:ByteArray}{j:Nat}(h:(qJ (jl s j)).2=true):j<s.size:=by
 by_cases hj:j<s.size
 ·exact hj
 ·rw [qr (by omega)] at h;exact absurd h (by decide)
theorem pairR_set{s:ByteArray}{k j:Nat}(hk:k<j)(hj:j<=s.size):vB s k (pairR s j):=by
 unfold pairR
 split
 ·exact .bad (.inl rfl) hj
 ·next h0=>
  have h0':=hex_in (by simpa using h0)
  split
  ·exact .bad (.inl rfl) h0'
  ·next h1=>
   have h1':=hex_in (by simpa using h1);exact .good (kz _) h1' (by omega)
theorem XQ:xM.fit:=⟨vK _ _,vK _ _,vK _ _,vK _ _⟩
theorem meanR_fit(b:Nat):(kq b).1.fit:=by
 unfold kq
 split
 ·exact kz _
 ·split
  ·exact kz _
  ·split
   ·exact kz _
   ·split
    ·exact kz _
    ·split
     ·exact kz _
     ·split
      ·exact kz _
      ·split
       ·exact XQ
       ·split
        ·exact VN _ _ _
        ·split
         ·exact yS _ _
         ·split
          ·exact notW_fit _
          ·split
           ·exact notW_fit _
           ·split
            ·exact notW_fit _
            ·exact qf
theorem XM{s:ByteArray}{k:Nat}(hk:k<s.size):vB s k (kX s k):=by
 unfold kX
 split
 ·exact .bad (.inl rfl) hk
 ·split
  ·exact .bad (.inr (.inr rfl)) (by omega)
  ·split
   ·exact pairR_set (by omega) (by omega)
   ·split
    ·exact .good (meanR_fit _) (by omega) (by omega)
    ·exact .bad (.inl rfl) hk
theorem vW{s:ByteArray}{k:Nat}(hk:k<=s.size):vB s k (jH s k):=by
 unfold jH
 split
 ·exact .bad (.inl rfl) hk
 ·split
  ·exact XM (by omega)
  ·split
   ·exact .bad (.inl rfl) hk
   ·exact .good (kz _) (by omega) (by omega)
theorem toR_set{s:ByteArray}{k a j:Nat}(hk:k<j)(hj:j<=s.size):vB s k (VJ s k a j):=by
 have hp:=vW hj;unfold VJ
 split
 ·next h=>exact .bad (hp.err.resolve_left h) hp.le
 ·next h=>
  have he:(jH s j).2.1=0:=by simpa using h
  have:=hp.on he
  split
  ·exact .bad (.inl rfl) hj
  ·split
   ·exact .bad (.inr (.inl rfl)) (by omega)
   ·exact .good (rngW_fit _ _) hp.le (by omega)
theorem itemR_set{s:ByteArray}{k:Nat}(hk:k<=s.size):vB s k (jB s k):=by
 have hp:=vW hk;unfold jB
 split
 ·exact hp
 ·next h=>
  have he:(jH s k).2.1=0:=by
   by_cases h0:(jH s k).2.1=0
   ·exact h0
   ·exact absurd (.inl h0) h
  have hb:jl s (jH s k).2.2=45:=by
   by_cases h0:jl s (jH s k).2.2=45
   ·exact h0
   ·exact absurd (.inr h0) h
  have hi:=ka hb (by omega);have:=hp.on he
  split
  ·exact .bad (.inl rfl) hp.le
  ·exact toR_set (by omega) hi
theorem clsR_set{s:ByteArray}:∀(n:Nat) (t:W4) (e:Int) (k i:Nat),t.fit->(e=0\/e=4\/e=5\/e=6)->i<=s.size->k<i+1->vB s k (KR s n t e i):=by
 intro n
 induction n with
 |zero=>intro t e k i _ _ hi _;exact .bad (.inl rfl) hi
 |succ n ih=>
  intro t e k i ht he hi hk;unfold KR
  split
  ·next h=>exact .bad (he.resolve_left h) hi
  ·split
   ·next h93=>exact .good ht (ka h93 (by omega)) hk
   ·have hit:=itemR_set hi
    rcases hit.err with h|h
    ·exact ih _ _ _ _ (yS _ _) hit.err hit.le (by have:=hit.on h;omega)
    ·have:KR s n (uni2 t (jB s i).1) (jB s i).2.1 (jB s i).2.2=(j7,(jB s i).2.1,(jB s i).2.2)\/KR s n (uni2 t (jB s i).1) (jB s i).2.1 (jB s i).2.2=(j7,4,(jB s i).2.2):=by
      cases n with
      |zero=>exact .inr rfl
      |succ n=>refine .inl ?_;rw [KR,if_pos (by rcases h with h|h|h<;>rw [h]<;>decide)]
     rcases this with e|e<;>rw [e]
     ·exact .bad h hit.le
     ·exact .bad (.inl rfl) hit.le
theorem KJ{s:ByteArray}{k:Nat}(hk:k<=s.size):vB s k (ke s k):=by
 have hit:=itemR_set hk
 rcases hit.err with h|h
 ·exact clsR_set _ _ _ _ _ hit.fit hit.err hit.le (by have:=hit.on h;omega)
 ·unfold ke;rw [KR,if_pos (by rcases h with h|h|h<;>rw [h]<;>decide)];exact .bad h hit.le
theorem Zr{s:ByteArray}{k:Nat}(hk:k<s.size):vB s k (kH s k):=by
 unfold kH
 split
 ·next h=>
  have hi:=ka h (by omega);have hc:vB s k (ke s (k+2)):=(KJ hi).up (by omega)
  split
  ·next h0=>exact .bad (hc.err.resolve_left h0) hc.le
  ·next h0=>exact .good (notW_fit _) hc.le (hc.on (by simpa using h0))
 ·exact(KJ hk).up (by omega)
theorem X6{s:ByteArray}{k:Nat}(hk:k<s.size):vB s k (K7 s k):=by
 unfold K7
 split
 ·exact Zr hk
 ·split
  ·exact XM hk
  ·split
   ·exact .good (notW_fit _) hk (by omega)
   ·split
    ·exact .bad (.inr (.inr rfl)) (by omega)
    ·split
     ·exact .bad (.inl rfl) (by omega)
     ·exact .good (kz _) hk (by omega)
open Go Go.RowKit
structure U7(s:ByteArray)(k:Nat)(r:jp×Int×Nat):Prop where
 fit:r.1.set.fit
 err:r.2.1=0\/r.2.1=4\/r.2.1=5\/r.2.1=6
 le:r.2.2<=s.size
 on:r.2.1=0->k<r.2.2
theorem U7.bad{s:ByteArray}{k j:Nat}{e:Int}(he:e=4\/e=5\/e=6)(hj:j<=s.size):U7 s k (jg,e,j):=
 ⟨qf,.inr he,hj,fun h=>by have h':e=0:=h;rcases he with rfl|rfl|rfl<;>exact absurd h' (by decide)⟩
theorem U7.good{s:ByteArray}{k j:Nat}{t:jp}(ht:t.set.fit)(hj:j<=s.size)(hk:k<j):U7 s k (t,0,j):=⟨ht,.inl rfl,hj,fun _=>hk⟩
theorem yE{s:ByteArray}{k j:Nat}(lo hi:Int)(hk:k<j)(hj:j<=s.size):U7 s k (jK s lo hi j):=by
 unfold jK
 split
 ·next h=>
  have:=ka h (by omega)
  split
  ·exact .bad (.inr (.inr rfl)) (by omega)
  ·exact .good qf (by omega) (by omega)
 ·split
  ·exact .bad (.inr (.inr rfl)) hj
  ·exact .good qf hj hk
theorem openR_tok{s:ByteArray}{k:Nat}(hk:k<s.size):U7 s k (vx s k):=by
 unfold vx
 split
 ·split
  ·next h=>exact .good qf (ka h (by omega)) (by omega)
  ·exact .bad (.inr (.inr rfl)) (by omega)
 ·exact .good qf hk (by omega)
theorem signR_tok{s:ByteArray}{k:Nat}(hk:k<s.size):U7 s k (xP s k):=by
 unfold xP
 split
 ·exact yE _ _ (by omega) hk
 ·split
  ·exact yE _ _ (by omega) hk
  ·exact yE _ _ (by omega) hk
theorem Js{s:ByteArray}{a:Nat}(ha:a<=s.size):a<=(jr s a).2.2/\(jr s a).2.2<=s.size:=by
 have h:=Uw ha;unfold jr
 split
 ·exact⟨jN _,ha⟩
 ·split
  ·exact⟨jN _,ha⟩
  ·exact⟨Nat.le_add_right _ _,h⟩
theorem Qx(s:ByteArray)(a:Nat):(jr s a).2.1=0\/(jr s a).2.1=4\/(jr s a).2.1=5:=by
 unfold jr
 split
 ·exact .inr (.inl rfl)
 ·split
  ·exact .inr (.inr rfl)
  ·exact .inl rfl
theorem Xr{s:ByteArray}{a:Nat}(lo:Int)(ha:a<=s.size):a<=(jv s lo a).2.2/\(jv s lo a).2.2<=s.size:=by
 unfold jv
 split
 ·exact⟨jN _,ha⟩
 ·split
  ·exact⟨jN _,ha⟩
  ·exact Js ha
theorem Ue{s:ByteArray}{k j:Nat}(lo hi:Int)(hk:k<j+1)(hj:j<=s.size):U7 s k (shutR s lo hi j):=by
 unfold shutR
 split
 ·next h=>exact yE _ _ hk (ka h (by omega))
 ·exact .bad (.inl rfl) hj
theorem err45{c:Int}(h:c=0\/c=4\/c=5)(h0:c≠0):c=4\/c=5\/c=6:=by rcases h with h|h|h<;>omega
theorem Y0{s:ByteArray}{k:Nat}(hk:k<s.size):U7 s k (kA s k):=by
 have h1:=Js (s:=s) (a:=k+1) hk;unfold kA
 split
 ·next h=>exact .bad (err45 (Qx _ _) h) h1.2
 ·split
  ·next h44=>
   have h2:=Xr (s:=s) (jr s (k+1)).1 (a:=(jr s (k+1)).2.2+1) (ka h44 (by omega))
   split
   ·next h=>exact .bad (err45 (Uo _ _ _) h) h2.2
   ·exact Ue _ _ (by omega) h2.2
  ·exact Ue _ _ (by omega) h1.2
theorem kQ{s:ByteArray}{k:Nat}(hk:k<s.size):U7 s k (jd s k):=by
 unfold jd
 split
 ·exact .good qf hk (by omega)
 ·split
  ·exact openR_tok hk
  ·split
   ·exact .good qf hk (by omega)
   ·split
    ·exact signR_tok hk
    ·split
     ·exact Y0 hk
     ·have h:=X6 hk;exact⟨h.fit,h.err,h.le,h.on⟩
theorem YD{s:ByteArray}:∀(n m k:Nat),k<=s.size->s.size<n+k->s.size<m+k->kR s n k=kR s m k:=by
 intro n
 induction n with
 |zero=>intro m k h0 hn hm;omega
 |succ n ih=>
  intro m k h0 hn hm
  cases m with
  |zero=>omega
  |succ m=>
   by_cases hk:s.size<=k
   ·rw [kR,if_pos hk,kR,if_pos hk]
   ·have ht:=kQ (s:=s) (k:=k) (by omega)
    by_cases he:(jd s k).2.1≠0
    ·rw [kR,if_neg hk,if_pos he,kR,if_neg hk,if_pos he]
    ·have hon:=ht.on (by simpa using he);have e:=ih m (jd s k).2.2 ht.le (by omega) (by omega);rw [kR,if_neg hk,if_neg he,kR,if_neg hk,if_neg he,e]
def qU(s:ByteArray)(k:Nat):List (jp×Nat×Nat)×Int×Nat:=kR s (s.size+1) k
theorem scanK_end{s:ByteArray}{k:Nat}(hk:s.size<=k):qU s k=([],0,k):=by unfold qU;rw [kR,if_pos hk]
theorem scanK_bad{s:ByteArray}{k:Nat}(hk:k<s.size)(he:(jd s k).2.1≠0):qU s k=([],(jd s k).2.1,(jd s k).2.2):=by
 unfold qU;rw [kR,if_neg (by omega),if_pos he]
theorem scanK_on{s:ByteArray}{k:Nat}(hk:k<s.size)(he:(jd s k).2.1=0):qU s k=
  if(qU s (jd s k).2.2).2.1≠0 then([],(qU s (jd s k).2.2).2.1,(qU s (jd s k).2.2).2.2)
  else(((jd s k).1,k,(jd s k).2.2)::(qU s (jd s k).2.2).1,0,(qU s (jd s k).2.2).2.2):=by
 have hon:=(kQ hk).on he;have e:kR s s.size (jd s k).2.2=qU s (jd s k).2.2:=YD _ _ _ (kQ hk).le (by omega) (by omega);rw [<-e];unfold qU;rw [kR,if_neg (by omega),if_neg (by rw [he];simp)]
def ScanAt(s:ByteArray)(l:List (jp×Nat×Nat))(k:Nat):Prop:=
 jm s=if(qU s k).2.1≠0 then([],(qU s k).2.1,(qU s k).2.2) else(l++(qU s k).1,0,(qU s k).2.2)
theorem YE(s:ByteArray)(k:Nat)(h:(qU s k).2.1≠0):(qU s k).1= []:=by
 unfold qU at h ⊢;rw [kR] at h ⊢
 split
 ·rfl
 ·split
  ·rfl
  ·split
   ·rfl
   ·next h1 h2 h3=>rw [if_neg h1,if_neg h2,if_neg h3] at h;exact absurd rfl h
theorem ScanAt.start(s:ByteArray):ScanAt s [] 0:=by
 show qU s 0=_
 by_cases h:(qU s 0).2.1≠0
 ·rw [if_pos h];have:=YE s 0 h;exact Prod.ext this rfl
 ·rw [if_neg h];exact Prod.ext rfl (Prod.ext (by simpa using h) rfl)
theorem ScanAt.bad{s:ByteArray}{l:List (jp×Nat×Nat)}{k:Nat}(h:ScanAt s l k)(hk:k<s.size)(he:(jd s k).2.1≠0):jm s=([],(jd s k).2.1,(jd s k).2.2):=by
 unfold ScanAt at h;rw [scanK_bad hk he,if_pos he] at h;exact h
theorem ScanAt.done{s:ByteArray}{l:List (jp×Nat×Nat)}{k:Nat}(h:ScanAt s l k)(hk:s.size<=k):jm s=(l,0,k):=by
 unfold ScanAt at h;rw [scanK_end hk,if_neg (by simp),List.append_nil] at h;exact h
theorem ScanAt.step{s:ByteArray}{l:List (jp×Nat×Nat)}{k:Nat}(h:ScanAt s l k)(hk:k<s.size)(he:(jd s k).2.1=0):ScanAt s (l++ [((jd s k).1,k,(jd s k).2.2)]) (jd s k).2.2:=by
 unfold ScanAt at h ⊢;rw [h,scanK_on hk he]
 by_cases h1:(qU s (jd s k).2.2).2.1≠0
 ·rw [if_pos h1,if_pos h1,if_pos h1]
 ·rw [if_neg h1,if_neg h1,if_neg (by simp),List.append_assoc];rfl
end
end
section
section
open Go Go.RowKit
theorem bits_len(n x:Nat):Pop.bitsum n x=((List.range n).filter fun i=>x.testBit i).length:=by
 induction n generalizing x with
 |zero=>simp [Pop.bitsum]
 |succ n ih=>
  rw [List.range_succ_eq_map,List.filter_cons]
  have h:((List.map Nat.succ (List.range n)).filter fun i=>x.testBit i).length=((List.range n).filter fun i=>(x/2).testBit i).length:=by
   rw [List.filter_map,List.length_map];congr 1;apply List.filter_congr;intro i _;simp [Nat.testBit_succ]
  simp only [Pop.bitsum];rw [ih]
  by_cases hb:x % 2=1
  ·have:x.testBit 0=true:=by simp [hb]
   rw [if_pos this,List.length_cons,h];omega
  ·have:x.testBit 0=false:=by simp;omega
   rw [if_neg (by simp [this]),h];omega
theorem yp(f:Nat->Bool)(q:Nat):((List.range (64*(q+1))).filter f).length=((List.range (64*q)).filter f).length+((List.range 64).filter fun i=>f (64*q+i)).length:=by
 rw [show 64*(q+1)=64*q+64 by omega,List.range_add,List.filter_append,List.length_append];congr 1;rw [List.filter_map,List.length_map];rfl
theorem KX{a:Int}(fa:Fit a)(f:Nat->Bool)(q:Nat)(h:∀i,i<64->f (64*q+i)=(V a).getLsbD i):(((List.range 64).filter fun i=>f (64*q+i)).length:Int)=pw a:=by
 unfold pw;rw [bits_len];congr 2;apply List.filter_congr;intro i hi;rw [h i (List.mem_range.1 hi),Ko fa]
theorem pw_lst{a b c d:Int}(fa:Fit a)(fb:Fit b)(fc:Fit c)(fd:Fit d):pw a+pw b+pw c+pw d=((lst (kn a b c d) 256).length:Int):=by
 unfold lst;rw [List.length_map];have e0:=yp (kn a b c d) 0;have e1:=yp (kn a b c d) 1;have e2:=yp (kn a b c d) 2;have e3:=yp (kn a b c d) 3;have p0:=KX fa (kn a b c d) 0 (fun i hi=>by rw [at_word _ _ _ _ 0 i hi];rfl);have p1:=KX fb (kn a b c d) 1 (fun i hi=>by rw [at_word _ _ _ _ 1 i hi];rfl);have p2:=KX fc (kn a b c d) 2 (fun i hi=>by rw [at_word _ _ _ _ 2 i hi];rfl);have p3:=KX fd (kn a b c d) 3 (fun i hi=>by rw [at_word _ _ _ _ 3 i hi];rfl);have z:((List.range (64*0)).filter (kn a b c d)).length=0:=by simp
 rw [show 64*(3+1)=256 from rfl] at e3;simp only [Nat.reduceAdd] at e0 e1 e2 e3;omega
open Go Go.RowKit
attribute [local go_sem ↓] Go.wp_at_zero Go.wp_at_succ
attribute [local go_sem] qX
abbrev jG(t:W4):Obj:=.cells #[.int .u64 t.a,.int .u64 t.b,.int .u64 t.c,.int .u64 t.d] 29
abbrev kd(t:W4):Value:=.agg #[.int .u64 t.a,.int .u64 t.b,.int .u64 t.c,.int .u64 t.d]
theorem Rd.kept{w w':World}{g k b:Nat}{s:ByteArray}{o:Obj}(hr:Rd w w' g s k)(h:w.heap[b]? =some o)(hne:b≠g):w'.heap[b]? =some o:=by
 rw [hr.2.block b (jS h) (by intro e;exact hne (Option.some.inj e))];exact h
theorem j4{w w':World}{b:Nat}{o:Obj}(hb:Below w.heap.size w w')(h:w.heap[b]? =some o):w'.heap[b]? =some o:=by
 rw [hb.block b (jS h)];exact h
theorem Tab.rd{w w':World}{g k:Nat}{s:ByteArray}(h:Tab w)(hr:Rd w w' g s k)(hne:1≠g):Tab w':=
 fun j hj=>hr.2.cell (h j hj) (by intro e;exact hne (Option.some.inj e))
theorem XN{c:Int}(h:c=0\/c=4\/c=5\/c=6):c=0\/(c≠0/\((c:Int)==0)=false/\((c:Int) !=0)=true):=by
 rcases h with rfl|rfl|rfl|rfl
 ·exact .inl rfl
 ·exact .inr ⟨by decide,by decide,by decide⟩
 ·exact .inr ⟨by decide,by decide,by decide⟩
 ·exact .inr ⟨by decide,by decide,by decide⟩
theorem Qu{t:W4}{a:Nat}(h:qi t=some a):(zf t).length=1:=by rw [J5 h];rfl
structure OwnSet(w:World)(b:Nat)(t:W4):Prop where
 at_:w.cell? ⟨b,0,none⟩=some (.int .u64 t.a)/\w.cell? ⟨b,1,none⟩=some (.int .u64 t.b)/\w.cell? ⟨b,2,none⟩=some (.int .u64 t.c)/\w.cell? ⟨b,3,none⟩=some (.int .u64 t.d)
 free:w.frozen? ⟨b,0,none⟩=false/\w.frozen? ⟨b,1,none⟩=false/\w.frozen? ⟨b,2,none⟩=false/\w.frozen? ⟨b,3,none⟩=false
 lt:b<w.heap.size
theorem OwnSet.of{w:World}{b:Nat}{t:W4}(h:w.heap[b]? =some (jG t)):OwnSet w b t:=
 ⟨⟨jC h 0,jC h 1,jC h 2,jC h 3⟩,⟨jU h 0,jU h 1,jU h 2,jU h 3⟩,jS h⟩
theorem OwnSet.same{w w':World}{b:Nat}{t:W4}(h:OwnSet w b t)(e:w'.heap[b]? =w.heap[b]?)(hs:w.heap.size<=w'.heap.size):OwnSet w' b t:=by
 have c:∀o,w'.cell? ⟨b,o,none⟩=w.cell? ⟨b,o,none⟩:=fun o=>World.cell?_of_block (w:=w) (a:=⟨b,o,none⟩) e
 have f:∀o,w'.frozen? ⟨b,o,none⟩=w.frozen? ⟨b,o,none⟩:=fun o=>World.frozen?_of_block (w:=w) (a:=⟨b,o,none⟩) e
 exact⟨⟨(c 0).trans h.at_.1,(c 1).trans h.at_.2.1,(c 2).trans h.at_.2.2.1,(c 3).trans h.at_.2.2.2⟩,⟨(f 0).trans h.free.1,(f 1).trans h.free.2.1,(f 2).trans h.free.2.2.1,(f 3).trans h.free.2.2.2⟩,Nat.lt_of_lt_of_le h.lt hs⟩
theorem OwnSet.below{w w':World}{b:Nat}{t:W4}(h:OwnSet w b t)(hb:Below w.heap.size w w'):OwnSet w' b t:=h.same (hb.block b h.lt) hb.size
theorem OwnSet.rd{w w':World}{b g k:Nat}{s:ByteArray}{t:W4}(h:OwnSet w b t)(hr:Rd w w' g s k)(hne:b≠g):OwnSet w' b t:=
 h.same (hr.2.block b h.lt (by intro e;exact hne (Option.some.inj e))) hr.2.size
theorem OwnSet.drewN{w:World}{b:Nat}{t:W4}(h:OwnSet w b t)(n:Nat):OwnSet (w.drewN n) b t:=⟨h.at_,h.free,h.lt⟩
theorem OwnSet.other{w:World}{b b':Nat}{t t':W4}(h:OwnSet w b t)(hne:b≠b'):OwnSet (jQ w b' t') b t:=by
 refine h.same ?_ (by simp [jQ,World.setCell]);unfold jQ;rw [Below.heap_setCell _ _ _ _ (by simpa using hne),Below.heap_setCell _ _ _ _ (by simpa using hne),Below.heap_setCell _ _ _ _ (by simpa using hne),Below.heap_setCell _ _ _ _ (by simpa using hne)]
theorem OwnSet.put{w:World}{b:Nat}{t:W4}(h:OwnSet w b t)(t':W4):OwnSet (jQ w b t') b t':=by
 obtain⟨⟨z0,z1,z2,z3⟩,⟨f0,f1,f2,f3⟩,lt⟩:=h;refine⟨⟨?_,?_,?_,?_⟩,⟨?_,?_,?_,?_⟩,by simpa [jQ,World.setCell] using lt⟩<;>simp [jQ,go_sem, *]
theorem VU(t:W4)(ht:t.fit)(w:World):
  Calls Tryz.prog 128 #[kd t] w fun e w'=>e=.returned (.int .i64 ((zf t).length:Int))/\Below w.heap.size w w':=by
 refine(count_any t.a t.b t.c t.d w ht.1 ht.2.1 ht.2.2.1 ht.2.2.2).mono fun e w' ⟨he,hb⟩=>⟨?_,hb⟩
 rw [he,pw_lst ht.1 ht.2.1 ht.2.2.1 ht.2.2.2,ones_len]
theorem Qb(t:W4)(ht:t.fit)(a:Nat)(ha:qi t=some a)(w:World)(hT:Tab w):
  Calls Tryz.prog 109 #[kd t] w fun e w'=>e=.returned (.tuple #[.int .u8 (a:Int),.bool true])/\Below w.heap.size w w':=by
 refine(first_any t.a t.b t.c t.d w ht.1 ht.2.1 ht.2.2.1 ht.2.2.2 hT).mono fun e w' ⟨v,he,hv,hb⟩=>⟨?_,hb⟩
 obtain⟨h1,h2,h3⟩:=xh ha
 rcases hv with ⟨hno,_⟩|⟨n,hn,hm,_,hv⟩
 ·have:=hno a h1;rw [show kn t.a t.b t.c t.d a=true from h2] at this
  cases this
 ·rw [he,hv,h3 n hn hm]
theorem US(t u:W4)(ht:t.fit)(hu:u.fit)(a b:Nat)(ha:qi t=some a)(hb:qi u=some b)(w:World)(hT:Tab w):
  Calls Tryz.prog 266 #[kd t,kd u] w fun e w'=>e=.returned (kd (jL a b))/\Below w.heap.size w w':=by
 have F1:=j0 (fun W (hW:Tab W)=>Qb t ht a ha W hW);have F2:=j0 (fun W (hW:Tab W)=>Qb u hu b hb W hW);have RG:Hid (∀W,Calls Tryz.prog 216 #[.int .u8 (a:Int),.int .u8 (b:Int)] W fun e w'=>e=.returned (kd (jL a b))/\Below W.heap.size W w'):=j0 (fun W=>zC a b (xh ha).1 (xh hb).1 W);have HT:=j0 hT;generalize jL a b=r at*;clear ha hb hT ht hu
 go_enter Tryz.func266,Tryz.ntmps266
 go_wp2_with fail
 refine(F1.out _ ((HT.out.alloc _).alloc _|>.alloc _)).mono ?_;rintro e w1 ⟨rfl,hb1⟩;have HB1:=j0 (Below.trans (VE _ _ _ _) (hb1.mono (by simp;omega)));have HT1:Hid (Tab w1):=j0 ((((HT.out.alloc _).alloc _).alloc _).up hb1)
 have hK1:Hid (w1.heap[w.heap.size+1]? =some (jG u)/\w1.heap[w.heap.size+1+1]? =some j5):=j0 ⟨j4 hb1 (by
  rw [Below.heap_alloc _ _ _ (by simp)];have h:=j1 (w.alloc (jG t)) (jG u)
  rwa [World.size_alloc] at h),j4 hb1 (by
  have h:=j1 ((w.alloc (jG t)).alloc (jG u)) j5
  rwa [World.size_alloc,World.size_alloc] at h)⟩
 clear hb1;obtain⟨⟨z0,z1,z2,z3⟩,hz⟩:=jA hK1.out.1
 go_wp2_with fail
 refine(F2.out _ HT1.out).mono ?_;rintro e w2 ⟨rfl,hb2⟩;have HB2:=j0 (HB1.out.trans (hb2.mono HB1.out.size));have hK2:=j0 (j4 hb2 hK1.out.2);clear hb2 z0 z1 z2 z3 hz hK1 HT1
 go_wp2_with fail
 refine(RG.out _).mono ?_;rintro e w3 ⟨rfl,hb3⟩;have HB3:=j0 (HB2.out.trans (hb3.mono HB2.out.size));obtain⟨⟨q0,q1,q2,q3⟩,⟨f0,f1,f2,f3⟩,_hsz⟩:=jn (j4 hb3 hK2.out);clear hb3 hK2
 go_wp2_with fail
 refine bodyPost_ret (v:=kd r) (by simp [results,Tryz.results266,go_sem,q0,q1,q2,q3]) rfl ⟨rfl,?_⟩;exact kD HB3.out (by omega) _ _ _ _
end
end
end Go.Proofs.YtnmalggmbeipaaaGreatDoor
