/- A part of the proof. -/
import Derived.Test.YtnmalggmbeipaaaGreatDoorRsz
import Derived.Test.YtnmalggmbeipaaaGreatDoorCso
import Derived.Test.YtnmalggmbeipaaaGreatDoorCtF
import Derived.Test.YtnmalggmbeipaaaGreatDoorRegion
set_option maxRecDepth 100000
set_option maxHeartbeats 16000000
namespace Go.Proofs.YtnmalggmbeipaaaGreatDoor
section
open Go Go.RowKit
attribute [local go_sem ↓] Go.wp_at_zero Go.wp_at_succ
attribute [local go_sem] qX
theorem vq{m:Nat}:Reg.UpP (fun(i:Nat) (b:Value) X=>(i=2->∃g,b=.slice (some ⟨g,0,none⟩) 4 4/\X.heap[g]? =some (.cells #[.int .i64 0,.int .i64 3,.int .i64 3,.int .i64 6] 3 (0,0)))/\(i=4->∃g,b=.pointer (some ⟨g,m,none⟩)/\X.heap[g]? =some (.cells #[.int .i64 0,.int .i64 3,.int .i64 3,.int .i64 6] 3 (0,0)))):=fun _ _ _ _ hb h=>⟨fun e=>by
 obtain⟨g,h1,h2⟩:=h.1 e
 exact⟨g,h1,Reg.heap_kept_up h2 hb⟩,fun e=>by
 obtain⟨g,h1,h2⟩:=h.2 e
 exact⟨g,h1,Reg.heap_kept_up h2 hb⟩⟩
def cm9(m:Nat)(k0:Int)(s0:W4)(lo hi:Int)(z:Bool)(pp:Option Addr)(n cp a0 b0:Nat)(sz am:Int)(gh:Nat->Value):Nat->Value
 |0=>.agg #[.int .i64 k0,.int .u64 s0.a,.int .u64 s0.b,.int .u64 s0.c,.int .u64 s0.d,.int .i64 lo,.int .i64 hi,.bool z,.slice pp n cp,.int .i64 (a0:Int),.int .i64 (b0:Int)]
 |1=>.int .i64 sz
 |2=>gh 2
 |3=>.int .i64 (m:Int)
 |4=>gh 4
 |5=>.int .i64 am
 |6=>.int .i64 (pl sz am)
 |7=>.int .i64 (pl sz am)
 |_=>undef
theorem cm9_2{m:Nat}{k0:Int}{s0:W4}{lo hi:Int}{z:Bool}{pp:Option Addr}{n cp a0 b0:Nat}{sz am:Int}{gh:Nat->Value}{gx}{j:Nat}(h2:j≠2):cm9 m k0 s0 lo hi z pp n cp a0 b0 sz am (Reg.updP gh 2 gx) j=cm9 m k0 s0 lo hi z pp n cp a0 b0 sz am gh j:=by
 unfold cm9
 split<;>first|rfl|exact absurd rfl ‹_› |(rw [Reg.updP_other _ _ (by decide)])
theorem cm9_4{m:Nat}{k0:Int}{s0:W4}{lo hi:Int}{z:Bool}{pp:Option Addr}{n cp a0 b0:Nat}{sz am:Int}{gh:Nat->Value}{gx}{j:Nat}(h4:j≠4):cm9 m k0 s0 lo hi z pp n cp a0 b0 sz am (Reg.updP gh 4 gx) j=cm9 m k0 s0 lo hi z pp n cp a0 b0 sz am gh j:=by
 unfold cm9
 split<;>first|rfl|exact absurd rfl ‹_› |(rw [Reg.updP_other _ _ (by decide)])
theorem addM_at{m:Nat}(h:m<4):(#[.int .i64 0,.int .i64 3,.int .i64 3,.int .i64 6]:Array Value)[m]? =some (.int .i64 (xZ (m:Int))):=by
 have:m=0\/m=1\/m=2\/m=3:=by omega
 rcases this with rfl|rfl|rfl|rfl<;>rfl
theorem adL_pl{x y:Int}(hx:0<=x/\x<=top):kL [x,y]=pl x y:=by
 show pl (pl 0 x) y=_
 rw [Vd x hx.1 hx.2]
theorem YI(k:Int)(s:W4)(lo hi:Int)(z:Bool)(a b:Nat)(l:List Tr)(v:Value):rnV (.mk k s lo hi z a b l) v=.agg #[.int .i64 k,.int .u64 s.a,.int .u64 s.b,.int .u64 s.c,.int .u64 s.d,.int .i64 lo,.int .i64 hi,.bool z,v,.int .i64 (a:Int),.int .i64 (b:Int)]:=rfl
abbrev rnZ:Obj:=.cells #[.int .i64 0,.int .u64 0,.int .u64 0,.int .u64 0,.int .u64 0,.int .i64 0,.int .i64 0,.bool false,.slice none 0 0,.int .i64 0,.int .i64 0] 50
abbrev flZ(a e:Int):Obj:=.cells #[.int .i64 a,.int .i64 e] 52
theorem cml_long(s:ByteArray)(m:Int)(hs:100<s.size)(w:World)(hT:Tab w):Calls Tryz.prog 4 #[.string s,.int .i64 m] w fun e w'=>e=.returned (.bool true)/\Below w.heap.size w w':=by
 have AW0:=j0 (yG w hT);clear hT
 go_enter Tryz.func4,Tryz.ntmps4
 go_wp2_with fail
 refine AW0.out.mono ?_;rintro y w8 ⟨rfl,hb⟩;have HB:=j0 hb;clear hb
 go_wp2_with fail
 go_ret
 exact⟨rfl,HB.out⟩
theorem cml_bad(s:ByteArray)(m e1 at1:Int)(he1:e1≠0)(hs:s.size<=100)(hp:qd s=(e1,at1,none))(w:World)(hT:Tab w):Calls Tryz.prog 4 #[.string s,.int .i64 m] w fun e w'=>e=.returned (.bool true)/\Below w.heap.size w w':=by
 have PA:=zF s (by omega) w hT;rw [hp] at PA;have HPA:=j0 PA;have HRP:=j0 (fun X=>YG s e1 at1 he1 (by omega) hp X);have HME:=j0 (fun X=>zW m X);have HBU:=j0 (fun X=>UB m none X (zW m X));have HAW:=j0 (fun X (hX:Below w.heap.size w X)=>yG X (hT.below hX hT.lt));have u1:((e1:Int) !=0)=true:=by simpa using he1
 clear PA hp he1 hT
 go_enter Tryz.func4,Tryz.ntmps4
 go_wp2_with fail
 refine HPA.out.mono ?_;rintro x w2 ⟨v,rfl,hv,hb⟩;have hv:v=.pointer none:=hv;subst hv;have HB2:=j0 hb;clear hb HPA
 go_wp2_with fail
 refine(HRP.out w2).mono ?_;rintro x w3 ⟨rfl,hb⟩;have HB3:=j0 (HB2.out.trans (hb.mono HB2.out.size));clear hb HB2 HRP;obtain⟨W4,hW4⟩:∃X,X=(w3.alloc rnZ).alloc (flZ at1 e1):=⟨_,rfl⟩
 have hF:W4.heap[w3.heap.size+1]? =some (flZ at1 e1):=by
  have h:=j1 (w3.alloc rnZ) (flZ at1 e1);rw [World.size_alloc] at h;rw [hW4];exact h
 have hb4:Below w3.heap.size w3 W4:=by rw [hW4];exact kw w3 _ _
 have HF:=j0 hF;have HB4:=j0 (HB3.out.trans (hb4.mono HB3.out.size));have HW4:=j0 hW4;clear hF hb4 hW4 HB3
 go_upto_region 5 with fail
 rw [show(w3.alloc rnZ).alloc (flZ at1 e1)=W4 from HW4.out.symm];clear HW4
 go_wp2_with fail
 refine(HME.out W4).mono ?_;rintro y w5 ⟨rfl,hb5⟩;have HB5:=j0 hb5;clear hb5
 go_wp2_with fail
 refine(HBU.out w5).mono ?_;rintro y w6 ⟨rfl,hb6⟩;have hb46:=HB5.out.trans (hb6.mono HB5.out.size);have f1:=(jC (j4 hb46 HF.out) 1).trans rfl;have HB6:=j0 (HB4.out.trans (hb46.mono HB4.out.size));clear hb6 hb46 HB5 HB4 HF
 go_wp2_with fail
 refine(HAW.out w6 HB6.out).mono ?_;rintro y w7 ⟨rfl,hb⟩;have HB7:=j0 (HB6.out.trans (hb.mono HB6.out.size));clear hb HB6 HAW
 go_wp2_with fail
 go_ret
 exact⟨rfl,HB7.out⟩
theorem cml_mode(s:ByteArray)(m:Int)(hm:¬(0<=m/\m<4))(t:Tr)(hs:s.size<=100)(hp:qd s=(0,0,some t))(w:World)(hT:Tab w):Calls Tryz.prog 4 #[.string s,.int .i64 m] w fun e w'=>e=.returned (.bool true)/\Below w.heap.size w w':=by
 have PA:=zF s (by omega) w hT;rw [hp] at PA;have HPA:=j0 PA;have HRP:=j0 (fun X=>Uh s t (by omega) hp X);have HME:=j0 (fun p X=>yJ m hm p X);have HBU:=j0 (fun p X=>UB m p X (yJ m hm p X));have HAW:=j0 (fun X (hX:Below w.heap.size w X)=>yG X (hT.below hX hT.lt));have hm2:m<0\/(0<=m/\3<m):=by omega
 clear PA hp hT hm;obtain⟨k0,s0,lo,hi,z,a0,b0,l⟩:=t
 go_enter Tryz.func4,Tryz.ntmps4
 go_wp2_with fail
 refine HPA.out.mono ?_;rintro x w2 ⟨v,rfl,hv,hb⟩;have hv:jJ w2 (fun b=>w.heap.size<=b) (.mk k0 s0 lo hi z a0 b0 l) v:=hv;obtain⟨q,rfl⟩:=hv.pointer;have HB2:=j0 hb;clear hb HPA hv
 go_wp2_with fail
 refine(HRP.out w2).mono ?_;rintro x w3 ⟨lv,rfl,hrn,hb⟩;obtain⟨pp,n,cp,rfl⟩:=hrn.slice;have HB3:=j0 (HB2.out.trans (hb.mono HB2.out.size));clear hb HB2 HRP hrn;rw [YI];obtain⟨W4,hW4⟩:∃X,X=(w3.alloc (.cells #[.int .i64 k0,.int .u64 s0.a,.int .u64 s0.b,.int .u64 s0.c,.int .u64 s0.d,.int .i64 lo,.int .i64 hi,.bool z,.slice pp n cp,.int .i64 (a0:Int),.int .i64 (b0:Int)] 50)).alloc (flZ 0 0):=⟨_,rfl⟩
 have hF:W4.heap[w3.heap.size+1]? =some (flZ 0 0):=by
  have h:=j1 (w3.alloc (.cells #[.int .i64 k0,.int .u64 s0.a,.int .u64 s0.b,.int .u64 s0.c,.int .u64 s0.d,.int .i64 lo,.int .i64 hi,.bool z,.slice pp n cp,.int .i64 (a0:Int),.int .i64 (b0:Int)] 50)) (flZ 0 0);rw [World.size_alloc] at h;rw [hW4];exact h
 have hb4:Below w3.heap.size w3 W4:=by rw [hW4];exact kw w3 _ _
 have HF:=j0 hF;have HB4:=j0 (HB3.out.trans (hb4.mono HB3.out.size));have HW4:=j0 hW4;clear hF hb4 hW4 HB3
 go_upto_region 5 with fail
 rw [show(w3.alloc (.cells #[.int .i64 k0,.int .u64 s0.a,.int .u64 s0.b,.int .u64 s0.c,.int .u64 s0.d,.int .i64 lo,.int .i64 hi,.bool z,.slice pp n cp,.int .i64 (a0:Int),.int .i64 (b0:Int)] 50)).alloc (flZ 0 0)=W4 from HW4.out.symm];clear HW4
 go_wp2_with fail
 refine(HME.out _ W4).mono ?_;rintro y w5 ⟨rfl,hb5⟩;have HB5:=j0 hb5;clear hb5
 go_wp2_with fail
 refine(HBU.out _ w5).mono ?_;rintro y w6 ⟨rfl,hb6⟩;have hb46:=HB5.out.trans (hb6.mono HB5.out.size);have f1:=(jC (j4 hb46 HF.out) 1).trans rfl;have HB6:=j0 (HB4.out.trans (hb46.mono HB4.out.size));have HA:=j0 (HAW.out w6 HB6.out);clear hb6 hb46 HB5 HB4 HF HAW HME HBU
 rcases hm2 with hm2|⟨hm2,hm3⟩
 all_goals
  go_wp2_with fail
  refine HA.out.mono ?_;rintro y w7 ⟨rfl,hb⟩;have HB7:=j0 (HB6.out.trans (hb.mono HB6.out.size));clear hb HB6 HA
  go_wp2_with fail
  go_ret
  exact⟨rfl,HB7.out⟩
theorem cml_good(s:ByteArray)(m:Nat)(hm:m<4)(t:Tr)(hs:s.size<=100)(hp:qd s=(0,0,some t))(w:World)(hT:Tab w):Calls Tryz.prog 4 #[.string s,.int .i64 (m:Int)] w fun e w'=>e=.returned (.bool true)/\Below w.heap.size w w':=by
 obtain⟨k0,s0,lo,hi,z,a0,b0,l⟩:=t;obtain⟨t,ht⟩:∃t:Tr,t=.mk k0 s0 lo hi z a0 b0 l:=⟨_,rfl⟩;have HTT:=j0 ht;rw [<-ht] at hp;have PA:=zF s (by omega) w hT;rw [hp] at PA;have HPA:=j0 PA;have HRP:=j0 (fun X=>Uh s t (by omega) hp X);obtain⟨h1,h2,_⟩:=yZ hp;have hsm:=yY (by omega) hp;have hbd:=xH t hsm;have hps:=xx h1;have hr2:jW qj t<=200:=by rw [rt_right h1];omega
 have hn:=JD (m:Int);obtain⟨sz,hsz⟩:∃v,v=qt t:=⟨_,rfl⟩;obtain⟨am,ham⟩:∃v,v=xZ (m:Int):=⟨_,rfl⟩;obtain⟨M,hM⟩:∃v,v=kL [qt t,xZ (m:Int)]:=⟨_,rfl⟩;have HEM:Hid (pl sz am=M):=j0 (by rw [hM,hsz,ham,adL_pl hbd]);have HSB:Hid (sz<=top):=j0 (by omega);have HAB:Hid (am<=top):=j0 (by unfold top;omega);have HAM:=j0 (addM_at hm);rw [<-ham] at HAM;have HME:=j0 (fun(A:Nat->Prop) (q:Nat) (X:World) (h:jJ X A t (j6 q))=>(show Calls Tryz.prog 19 #[j6 q,.int .i64 (m:Int)] X fun e w'=>e=.returned (.int .i64 M)/\Below X.heap.size X w' by rw [hM];exact KI (m:Int) (by omega) h1 hr2 hsm A q X h));have HBU:=j0 (fun(A:Nat->Prop) (q:Nat) (X:World) (h:jJ X A t (j6 q))=>UA (m:Int) (by omega) h1 hr2 hsm A q X h);have HRS:=j0 (fun(A:Nat->Prop) (lv:Value) (X:World) (h:kU X A t lv)=>(show Calls Tryz.prog 22 #[rnV t lv] X fun e w'=>e=.returned (.int .i64 sz)/\Below X.heap.size X w' by rw [hsz];exact rsz_any h1 hsm A lv X h));have HAW:=j0 (fun X (hX:Below w.heap.size w X)=>yG X (hT.below hX hT.lt));have HBC:=j0 (fun(W W':World) (v:Value) (e:Int) (h:VH W W' (m:Int) t v e)=>(show(4096<M/\v=.pointer none/\e=3)\/(M<=4096/\e=0/\jD W' (UC (m:Int) (jo t)) v) by rw [hM];exact h))
 have HSI:Hid (M<=4096->(jk (UC (m:Int) (jo t)):Int)=M/\2*jk (UC (m:Int) (jo t))<=1000000000):=j0 (fun h=>by
  rw [hM] at h ⊢;have hg:=po_good (by omega) (m:=(m:Int)) (by omega) hp h;have e:=QT hps hbd.2 hn.1 h;have hc:=Uy h1 hsm (by unfold top;omega);have hy:=by_size (m:=(m:Int)) (by omega) (Zx h1).ne;have:=hg.size
  exact⟨by omega,by omega⟩)
 have HM4:=j0 hm;obtain⟨cc,hcc⟩:∃cc,cc=UC (m:Int) (jo t):=⟨_,rfl⟩;rw [<-hcc] at HSI HBC;clear PA hp hT h1 h2 hsm hbd hps hr2 hn hsz ham hM ht hcc
 go_enter Tryz.func4,Tryz.ntmps4
 go_wp2_with fail
 refine HPA.out.mono ?_;rintro x w2 ⟨v,rfl,hv,hb⟩;have hv:jJ w2 (fun b=>w.heap.size<=b) t v:=hv;obtain⟨q,rfl⟩:=hv.pointer;have HND:=j0 hv;have HB2:=j0 hb;clear hb HPA hv
 go_wp2_with fail
 refine(HRP.out w2).mono ?_;rintro x w3 ⟨lv,rfl,hrn,hb⟩;obtain⟨pp,n,cp,rfl⟩:=hrn.slice;have HRN:=j0 hrn;have HND3:=j0 (HND.out.up hb);have HB3:=j0 (HB2.out.trans (hb.mono HB2.out.size));clear hb HB2 HRP hrn HND;rw [HTT.out,YI];obtain⟨W4,hW4⟩:∃X,X=(w3.alloc (.cells #[.int .i64 k0,.int .u64 s0.a,.int .u64 s0.b,.int .u64 s0.c,.int .u64 s0.d,.int .i64 lo,.int .i64 hi,.bool z,.slice pp n cp,.int .i64 (a0:Int),.int .i64 (b0:Int)] 50)).alloc (flZ 0 0):=⟨_,rfl⟩
 have hF:W4.heap[w3.heap.size+1]? =some (flZ 0 0):=by
  have h:=j1 (w3.alloc (.cells #[.int .i64 k0,.int .u64 s0.a,.int .u64 s0.b,.int .u64 s0.c,.int .u64 s0.d,.int .i64 lo,.int .i64 hi,.bool z,.slice pp n cp,.int .i64 (a0:Int),.int .i64 (b0:Int)] 50)) (flZ 0 0);rw [World.size_alloc] at h;rw [hW4];exact h
 have hNB:W4.heap[w3.heap.size]? =some (.cells #[.int .i64 k0,.int .u64 s0.a,.int .u64 s0.b,.int .u64 s0.c,.int .u64 s0.d,.int .i64 lo,.int .i64 hi,.bool z,.slice pp n cp,.int .i64 (a0:Int),.int .i64 (b0:Int)] 50):=by rw [hW4];exact j4 (j3 _ _) (j1 w3 (.cells #[.int .i64 k0,.int .u64 s0.a,.int .u64 s0.b,.int .u64 s0.c,.int .u64 s0.d,.int .i64 lo,.int .i64 hi,.bool z,.slice pp n cp,.int .i64 (a0:Int),.int .i64 (b0:Int)] 50))
 have hb4:Below w3.heap.size w3 W4:=by rw [hW4];exact kw w3 _ _
 have HF:=j0 hF;have HNB4:=j0 hNB;have HB4:=j0 (HB3.out.trans (hb4.mono HB3.out.size));have HMC:=j0 (HME.out _ q W4 (HND3.out.up hb4));have HND4:=j0 (HND3.out.up hb4);have HRN4:=j0 (HRN.out.up hb4);have HW4:=j0 hW4;clear hF hb4 hW4 hNB HB3 HME HND3 HRN
 go_upto_region 5 with fail
 rw [show(w3.alloc (.cells #[.int .i64 k0,.int .u64 s0.a,.int .u64 s0.b,.int .u64 s0.c,.int .u64 s0.d,.int .i64 lo,.int .i64 hi,.bool z,.slice pp n cp,.int .i64 (a0:Int),.int .i64 (b0:Int)] 50)).alloc (flZ 0 0)=W4 from HW4.out.symm];clear HW4
 go_wp2_with fail
 refine HMC.out.mono ?_;rintro y w5 ⟨rfl,hb5⟩;have HB5:=j0 hb5;have HBB:=j0 (HBU.out _ q w5 (HND4.out.up hb5));clear hb5 HMC HBU HND4
 go_wp2_with fail
 refine HBB.out.mono ?_;rintro y W6 ⟨v,e,rfl,hbc,hb6⟩;have HCS:=j0 (HBC.out _ _ _ _ hbc)
 obtain⟨p,hvp⟩:∃p,v=.pointer p:=by
  rcases HCS.out with ⟨_,h,_⟩|⟨_,_,h⟩
  ·exact⟨none,h⟩
  ·exact h.ptr
 subst hvp;have hb46:=HB5.out.trans (hb6.mono HB5.out.size);have f1:=(jC (j4 hb46 HF.out) 1).trans rfl;have HNB:=j0 (j4 hb46 HNB4.out);have HRN6:=j0 (HRN4.out.up hb46);have HSZ:=j0 (fun(X:World) (hX:Below W6.heap.size W6 X)=>HRS.out _ _ X (HRN6.out.up hX));have HB6:=j0 (HB4.out.trans (hb46.mono HB4.out.size));rw [HTT.out,YI] at HSZ;clear hb6 hb46 HB5 HB4 HF HBB hbc HBC HNB4 HRN4 HRS HRN6
 go_upto_region 9 with fail
 refine Reg.wp_region_H (cm9 m k0 s0 lo hi z pp n cp a0 b0 sz am) (Reg.MkP W6 [2,4] (fun i b X=>(i=2->∃g,b=.slice (some ⟨g,0,none⟩) 4 4/\X.heap[g]? =some (.cells #[.int .i64 0,.int .i64 3,.int .i64 3,.int .i64 6] 3 (0,0)))/\(i=4->∃g,b=.pointer (some ⟨g,m,none⟩)/\X.heap[g]? =some (.cells #[.int .i64 0,.int .i64 3,.int .i64 3,.int .i64 6] 3 (0,0))))) (fun _=>undef) [0,1,2,3,4,5,6,7] (by rfl) (by kernel_rfl) (by kernel_rfl) ?_ ?_ ?_
 ·exact Reg.MkP.start _ _
 ·refine⟨fun gh listed A X hI hcl hin hun hall=>⟨Reg.wn,?_⟩,?_⟩
  ·have e8:=hI.wo 8 rfl;have HS:=hI.st;have hR:=HS;have hX:=hR.bel;have hbl:=Reg.heap_kept_up HNB.out hX;have d0:=jC hbl 0;have d1:=jC hbl 1;have d2:=jC hbl 2;have d3:=jC hbl 3;have d4:=jC hbl 4;have d5:=jC hbl 5;have d6:=jC hbl 6;have d7:=jC hbl 7;have d8:=jC hbl 8;have d9:=jC hbl 9;have d10:=jC hbl 10;simp only [Reg.la,Reg.lb,Reg.lc] at d0 d1 d2 d3 d4 d5 d6 d7 d8 d9 d10;clear hbl;clear hI;have HS2:=j0 HS;clear HS hR hX;unfold Reg.Yields
   go_simp
   first|exact⟨gh,fun _ _=>rfl,rfl,HS2.out.up (by simp) vq (Below.refl _ _)⟩|exact⟨rfl,gh,fun _ _=>rfl,rfl,HS2.out.up (by simp) vq (Below.refl _ _)⟩
  refine⟨fun gh listed A X hI hcl hin hun hall=>⟨Reg.wn,?_⟩,?_⟩
  ·have e62:A.tmps[62]? =some (.agg #[.int .i64 k0,.int .u64 s0.a,.int .u64 s0.b,.int .u64 s0.c,.int .u64 s0.d,.int .i64 lo,.int .i64 hi,.bool z,.slice pp n cp,.int .i64 (a0:Int),.int .i64 (b0:Int)]):=hI.v hall 0 62;have HS:=hI.st;have hR:=HS;have hX:=hR.bel;have HM:=j0 (HSZ.out X hX);clear hI;have HS2:=j0 HS;clear HS hR hX;unfold Reg.Yields
   go_simp
   refine HM.out.mono ?_;rintro e w2 ⟨he,hb⟩;exact⟨_,he,gh,fun _ _=>rfl,rfl,HS2.out.up (by simp) vq (hb)⟩
  refine⟨fun gh listed A X hI hcl hin hun hall=>⟨Reg.wn,?_⟩,?_⟩
  ·have HS:=hI.st;have hR:=HS;have hX:=hR.bel;clear hI;have HS2:=j0 HS;clear HS hR hX;unfold Reg.Yields
   go_simp
   exact⟨Reg.updP gh 2 (.slice (some ⟨X.heap.size,0,none⟩) 4 4),fun j hj=>cm9_2 (j:=j) (fun e=>by rw [e] at hj;rw [hj] at hun;cases hun),rfl,HS2.out.new _ vq (j3 _ _) (⟨fun _=>⟨_,rfl,j1 _ _⟩,fun e=>absurd e (by decide)⟩)⟩
  refine⟨fun gh listed A X hI hcl hin hun hall=>⟨Reg.wn,?_⟩,?_⟩
  ·have e1:=hI.wo 1 rfl;have HS:=hI.st;have hR:=HS;have hX:=hR.bel;clear hI;have HS2:=j0 HS;clear HS hR hX;unfold Reg.Yields
   go_simp
   first|exact⟨gh,fun _ _=>rfl,rfl,HS2.out.up (by simp) vq (Below.refl _ _)⟩|exact⟨rfl,gh,fun _ _=>rfl,rfl,HS2.out.up (by simp) vq (Below.refl _ _)⟩
  refine⟨fun gh listed A X hI hcl hin hun hall=>⟨Reg.wn,?_⟩,?_⟩
  ·have e64:A.tmps[64]? =some (gh 2):=hI.v hall 2 64;have e65:A.tmps[65]? =some (.int .i64 (m:Int)):=hI.v hall 3 65;have HS:=hI.st;have hR:=HS;have hX:=hR.bel;obtain⟨g,hg,hh⟩:=(hR.at_ 2 (by simp) (hall ⟨2,.data⟩ (by simp) rfl)).1 rfl;rw [hg] at e64;have hm4:=HM4.out;have hm5:(m:Int)<4:=by omega
   have HH:=j0 hh;clear hg hh;clear hI;have HS2:=j0 HS;clear HS hR hX;unfold Reg.Yields
   go_simp
   first|exact⟨Reg.updP gh 4 (.pointer (some ⟨g,m,none⟩)),fun j hj=>cm9_4 (j:=j) (fun e=>by rw [e] at hj;rw [hj] at hun;cases hun),rfl,HS2.out.new _ vq (Below.refl _ _) (⟨fun e=>absurd e (by decide),fun _=>⟨g,rfl,HH.out⟩⟩)⟩|exact⟨rfl,Reg.updP gh 4 (.pointer (some ⟨g,m,none⟩)),fun j hj=>cm9_4 (j:=j) (fun e=>by rw [e] at hj;rw [hj] at hun;cases hun),rfl,HS2.out.new _ vq (Below.refl _ _) (⟨fun e=>absurd e (by decide),fun _=>⟨g,rfl,HH.out⟩⟩)⟩
  refine⟨fun gh listed A X hI hcl hin hun hall=>⟨Reg.wn,?_⟩,?_⟩
  ·have e66:A.tmps[66]? =some (gh 4):=hI.v hall 4 66;have HS:=hI.st;have hR:=HS;have hX:=hR.bel;obtain⟨g,hg,hh⟩:=(hR.at_ 4 (by simp) (hall ⟨4,.data⟩ (by simp) rfl)).2 rfl;rw [hg] at e66;have hc:=(jC hh m).trans HAM.out;clear hg hh;clear hI;have HS2:=j0 HS;clear HS hR hX;unfold Reg.Yields
   go_simp
   first|exact⟨gh,fun _ _=>rfl,rfl,HS2.out.up (by simp) vq (Below.refl _ _)⟩|exact⟨rfl,gh,fun _ _=>rfl,rfl,HS2.out.up (by simp) vq (Below.refl _ _)⟩
  refine⟨fun gh listed A X hI hcl hin hun hall=>⟨Reg.wn,?_⟩,?_⟩
  ·have e63:A.tmps[63]? =some (.int .i64 sz):=hI.v hall 1 63;have e67:A.tmps[67]? =some (.int .i64 am):=hI.v hall 5 67;have HS:=hI.st;have hR:=HS;have hX:=hR.bel;have HM:=j0 (qW sz am X HSB.out HAB.out);clear hI;have HS2:=j0 HS;clear HS hR hX;unfold Reg.Yields
   go_simp
   exact HM.out.mono fun e w2 ⟨he,hw⟩=>⟨_,he,gh,fun _ _=>rfl,rfl,by rw [<-hw];exact HS2.out.up (by simp) vq (Below.refl _ _)⟩
  refine⟨fun gh listed A X hI hcl hin hun hall=>⟨Reg.wn,?_⟩,?_⟩
  ·have e68:A.tmps[68]? =some (.int .i64 (pl sz am)):=hI.v hall 6 68;have HS:=hI.st;have hR:=HS;have hX:=hR.bel;clear hI;have HS2:=j0 HS;clear HS hR hX;unfold Reg.Yields
   go_simp
   first|exact⟨gh,fun _ _=>rfl,rfl,HS2.out.up (by simp) vq (Below.refl _ _)⟩|exact⟨rfl,gh,fun _ _=>rfl,rfl,HS2.out.up (by simp) vq (Below.refl _ _)⟩
  trivial
 ·intro gh W9 hS;have HB:=j0 hS.bel;have HK2:=j0 (hS.at_ 2 (by simp) (by rfl));have HK4:=j0 (hS.at_ 4 (by simp) (by rfl));clear hS;simp [Reg.finalTmps,Reg.dstAt,Reg.valOf,cm9];clear HK2 HK4;rw [HEM.out];have HB9:=j0 (HB6.out.trans (HB.out.mono HB6.out.size));have HA9:=j0 (fun X (hX:Below W9.heap.size W9 X)=>HAW.out X (HB9.out.trans (hX.mono HB9.out.size)))
  rcases HCS.out with ⟨g1,g2,rfl⟩|⟨g1,rfl,g2⟩
  ·obtain rfl:p=none:=by injection g2
   have HA:=j0 (HAW.out W9 HB9.out);have q1:decide (M<=4096)=false:=jF (by omega);clear g2 HB HCS
   go_wp2_with fail
   refine HA.out.mono ?_;rintro y w7 ⟨rfl,hb⟩;have HB7:=j0 (HB9.out.trans (hb.mono HB9.out.size));clear hb HB9 HA
   go_wp2_with fail
   go_ret
   exact⟨rfl,HB7.out⟩
  ·obtain⟨e1,e2⟩:=HSI.out g1;have hcz:=Ux cc (.pointer p) W9 (g2.up HB.out) e2;rw [e1] at hcz;have HCZ:=j0 hcz;have q1:decide (M<=4096)=true:=jT g1;clear g2 HB HCS e1 e2 hcz
   go_wp2_with fail
   refine HCZ.out.mono ?_;rintro y w7 ⟨rfl,hb7⟩;have HA:=j0 (HA9.out w7 hb7);have HB7:=j0 (HB9.out.trans (hb7.mono HB9.out.size));clear hb7 HB9 HA9
   go_wp2_with fail
   refine HA.out.mono ?_;rintro y w8 ⟨rfl,hb⟩;have HB8:=j0 (HB7.out.trans (hb.mono HB7.out.size));clear hb HB7 HA
   go_wp2_with fail
   go_ret
   exact⟨rfl,HB8.out⟩
theorem Kk(s:ByteArray)(m:Int)(w:World)(hT:Tab w):Calls Tryz.prog 4 #[.string s,.int .i64 m] w fun e w'=>e=.returned (.bool true)/\Below w.heap.size w w':=by
 by_cases hs:100<s.size
 ·exact cml_long s m hs w hT
 ·rcases Vi s with ⟨t,hp⟩|⟨e,a,hp,he⟩
  ·by_cases hm:0<=m/\m<4
   ·obtain⟨n,rfl⟩:∃n:Nat,m=(n:Int):=⟨m.toNat,by omega⟩;exact cml_good s n (by omega) t (by omega) hp w hT
   ·exact cml_mode s m hm t (by omega) hp w hT
  ·exact cml_bad s m e a he (by omega) hp w hT
end
end Go.Proofs.YtnmalggmbeipaaaGreatDoor
