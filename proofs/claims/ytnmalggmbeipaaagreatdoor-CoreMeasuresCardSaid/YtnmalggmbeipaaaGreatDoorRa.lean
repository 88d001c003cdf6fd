/- A part of the proof. -/
import Derived.Test.YtnmalggmbeipaaaGreatDoorSa
import Derived.Test.YtnmalggmbeipaaaGreatDoorRegion
import Derived.LoopTactic
import Derived.Lib.TrailingZeros
import Derived.Laws.Bits64b
import Derived.Shelf.Spec.TrailingZeros
import Derived.Test.YtnmalggmbeipaaaGreatDoorChecked
import Derived.WalkKit
import Derived.Maps.AppendAt
import Derived.Below
import Derived.Laws.BytesArg
import Derived.OwnWalk
import Derived.Lib.SmallJoins
import Derived.LaidMore
import Derived.OpenShut
import Derived.Stop.Joined
set_option maxRecDepth 100000
set_option maxHeartbeats 16000000
namespace Go.Proofs.YtnmalggmbeipaaaGreatDoor
section
open Go Go.RowKit
attribute [local go_sem ↓] Go.wp_at_zero Go.wp_at_succ
attribute [local go_sem] qX
def kn(a b c d:Int)(n:Nat):Bool:=
 if n/64=0 then(V a).getLsbD (n % 64) else if n/64=1 then(V b).getLsbD (n % 64) else if n/64=2 then(V c).getLsbD (n % 64) else(V d).getLsbD (n % 64)
theorem Va(a:Int)(ha:Fit a)(n:Nat):((a/2 ^ (n % 64)).tmod 2==1)=(V a).getLsbD (n % 64):=by
 have e:(((n:Int)) % 64).toNat=n % 64:=by omega
 have h:=QD a (n:Int) ha;rw [e] at h;rw [<-h];unfold hs;rw [e];obtain⟨X,rfl⟩:=Int.eq_ofNat_of_zero_le ha.1;have hX:X<18446744073709551616:=by have:=ha.2;omega
 generalize n % 64=m;have e1:((X:Int)/2 ^ m)=((X/2 ^ m:Nat):Int):=by simp
 have hd:X/2 ^ m<18446744073709551616:=Nat.lt_of_le_of_lt (Nat.div_le_self _ _) hX;have e2:bits .and .u64 ((X/2 ^ m:Nat):Int) 1=((X/2 ^ m &&& 1:Nat):Int):=Pop.and64_nat _ 1 hd (by omega);rw [e1,e2,Nat.and_one_is_mod]
 have e3:(((X/2 ^ m:Nat):Int).tmod 2)=((X/2 ^ m % 2:Nat):Int):=by
  rw [Int.tmod_eq_emod_of_nonneg (Int.natCast_nonneg _)];omega
 rw [e3]
theorem YQ(a b c d:Int)(n:Nat)(w:World)(hn:n<256)(fa:Fit a)(fb:Fit b)(fc:Fit c)(fd:Fit d):
  Calls Tryz.prog 88 #[.agg #[.int .u64 a,.int .u64 b,.int .u64 c,.int .u64 d],.int .i64 (n:Int)] w fun e w'=>e=.returned (.bool (kn a b c d n))/\Below w.heap.size w w':=by
 have a0:=fa.1;have b0:=fb.1;have c0:=fc.1;have d0:=fd.1;have key:∀x,kn a b c d n=x->Ending.returned (.bool x)=Ending.returned (.bool (kn a b c d n)):=fun x h=>by rw [h]
 have KEY:=hid key;have RA:=hid (Va a fa n);have RB:=hid (Va b fb n);have RC:=hid (Va c fc n);have RD:=hid (Va d fd n);clear key;have hk:n/64=0\/n/64=1\/n/64=2\/n/64=3:=by omega
 rcases hk with hk|hk|hk|hk
 all_goals
  have HK:=hid hk;have hq:((n:Int)/64)=((n/64:Nat):Int):=by omega
  rw [hk] at hq;clear hk
  go_enter Tryz.func88,Tryz.ntmps88
  go_wp2
  go_ret
  refine⟨KEY.out _ ?_,j3 _ _⟩;unfold kn;rw [HK.out]
  first
   |exact(if_pos rfl).trans RA.out.symm
   |exact(if_neg (by decide)).trans ((if_pos rfl).trans RB.out.symm)
   |exact(if_neg (by decide)).trans ((if_neg (by decide)).trans ((if_pos rfl).trans RC.out.symm))
   |exact(if_neg (by decide)).trans ((if_neg (by decide)).trans ((if_neg (by decide)).trans RD.out.symm))
def bl(f:Nat->Bool):Array Value:=((List.range 256).map fun i=>Value.bool (f i)).toArray
theorem UF(f:Nat->Bool)(k:Nat)(h:k<256):(bl f)[k]? =some (.bool (f k)):=by
 unfold bl;simp [h]
theorem bl_set(f:Nat->Bool)(k:Nat)(v:Bool):(bl f).setIfInBounds k (.bool v)=bl (fun i=>if i=k then v else f i):=by
 apply Array.ext_getElem?;intro i
 by_cases hi:i<256
 ·by_cases hik:k=i
  ·subst hik;rw [UF _ _ hi];have:k<(bl f).size:=by unfold bl;simp [hi]
   simp [this]
  ·rw [Array.getElem?_setIfInBounds_ne hik,UF _ _ hi,UF _ _ hi,if_neg (Ne.symm hik)]
 ·have h1:((bl f).setIfInBounds k (.bool v))[i]? =none:=by
   apply Array.getElem?_eq_none;unfold bl;simp;omega
  have h2:(bl (fun i=>if i=k then v else f i))[i]? =none:=by
   apply Array.getElem?_eq_none;unfold bl;simp;omega
  rw [h1,h2]
theorem zs{f g:Nat->Bool}(h:∀i,i<256->f i=g i):bl f=bl g:=by
 unfold bl;congr 1;exact List.map_congr_left fun i hi=>by rw [h i (List.mem_range.1 hi)]
theorem j1(w:World)(o:Obj):(w.alloc o).heap[w.heap.size]? =some o:=by
 show(w.heap.push o)[w.heap.size]? =_
 simp
def JB(k:Nat):Int:=IntKind.u64.wrap (2 ^ (k % 64))
theorem bitn_eq(k:Nat):JB k=((1#64<<<(k % 64)).toNat:Int):=by
 unfold JB;have h:k % 64<64:=by omega
 have e:((2:Int) ^ (k % 64))=((2 ^ (k % 64):Nat):Int):=by simp
 have l:2 ^ (k % 64)<18446744073709551616:=Nat.lt_of_lt_of_le (Nat.pow_lt_pow_right (by decide) h) (by decide);rw [e,Pop.wrap64u _ l,BitVec.toNat_shiftLeft,Nat.shiftLeft_eq];simp only [BitVec.toNat_ofNat];omega
theorem V_bitn(k i:Nat)(hi:i<64):(V (JB k)).getLsbD i=decide (i=k % 64):=by
 rw [bitn_eq,V_nat];simp only [BitVec.getLsbD_shiftLeft,BitVec.getLsbD_one]
 by_cases h:i=k % 64
 ·subst h;simp [hi]
 ·by_cases h2:i<k % 64
  ·simp [h2,h]
  ·have:¬i-k % 64=0:=by omega
   simp [h,this]
theorem orr_bit(r:Int)(k i:Nat)(hi:i<64):(V (qh r (JB k))).getLsbD i=((V r).getLsbD i||decide (i=k % 64)):=by
 rw [V_orr,BitVec.getLsbD_or,V_bitn k i hi]
theorem Ju(r0 r1 r2 r3:Int)(k n:Nat)(hk:k<256)(hn:n<256):
  (k/64=0->kn (qh r0 (JB k)) r1 r2 r3 n=(kn r0 r1 r2 r3 n||decide (n=k)))/\
  (k/64=1->kn r0 (qh r1 (JB k)) r2 r3 n=(kn r0 r1 r2 r3 n||decide (n=k)))/\
  (k/64=2->kn r0 r1 (qh r2 (JB k)) r3 n=(kn r0 r1 r2 r3 n||decide (n=k)))/\
  (k/64=3->kn r0 r1 r2 (qh r3 (JB k)) n=(kn r0 r1 r2 r3 n||decide (n=k))):=by
 have hm:n % 64<64:=by omega
 have key:∀j,k/64=j->(n/64=j->decide (n % 64=k % 64)=decide (n=k))/\(n/64≠j->decide (n=k)=false):=by
  intro j hj;refine⟨fun h=> ?_,fun h=> ?_⟩
  ·by_cases e:n=k
   ·subst e;simp
   ·have:¬n % 64=k % 64:=by omega
    simp [e,this]
  ·have:¬n=k:=by intro e;subst e;exact h hj
   simp [this]
 unfold kn;refine⟨fun h=> ?_,fun h=> ?_,fun h=> ?_,fun h=> ?_⟩
 all_goals
  obtain⟨k1,k2⟩:=key _ h;have hq:n/64=0\/n/64=1\/n/64=2\/n/64=3:=by omega
  rcases hq with hq|hq|hq|hq
  all_goals
   simp only [hq] at k1 k2 ⊢;simp [orr_bit _ k _ hm] at k1 k2 ⊢
   first|(rw [k2];simp)|(rw [k1])|simp [k1]|simp [k2]
def IsMade(w:World)(f:Nat->Bool)(e:Ending)(w':World):Prop:=
 ∃r0 r1 r2 r3,e=.returned (.agg #[.int .u64 r0,.int .u64 r1,.int .u64 r2,.int .u64 r3])/\Fit r0/\Fit r1/\Fit r2/\Fit r3/\(∀n,n<256->kn r0 r1 r2 r3 n=f n)/\Below w.heap.size w w'
def MRel(w:World)(f:Nat->Bool)(k:Nat)(wr:World):Prop:=
 ∃r0 r1 r2 r3,Fit r0/\Fit r1/\Fit r2/\Fit r3/\(∀n,n<256->kn r0 r1 r2 r3 n=(decide (n<k) && f n))/\
  wr.heap[w.heap.size+1]? =some (.cells #[.int .u64 r0,.int .u64 r1,.int .u64 r2,.int .u64 r3] 29)/\wr.heap[w.heap.size]? =some (.cells #[.int .u64 0,.int .u64 0,.int .u64 0,.int .u64 0] 29)/\Below w.heap.size w wr
theorem Kg(n:Nat):kn 0 0 0 0 n=false:=by
 unfold kn;simp [V0]
theorem bound_lt(k:Nat)(_:k<256):((k:Int)/64)=((k/64:Nat):Int):=by omega
theorem zz(f:Nat->Bool)(n k:Nat)(hf:f k=true):(decide (n<k) && f n||decide (n=k))=(decide (n<k+1) && f n):=by
 by_cases e:n=k
 ·subst e;simp [hf]
 ·have:decide (n<k+1)=decide (n<k):=by
   by_cases h:n<k
   ·simp [h];omega
   ·simp [h];omega
  rw [this];simp [e]
theorem make_any(g cap:Nat)(f:Nat->Bool)(w:World)(hg:g<w.heap.size)(hc:∀j,j<256->w.cell? ⟨g,j,none⟩=some (.bool (f j))):
  Calls Tryz.prog 192 #[.slice (some ⟨g,0,none⟩) 256 cap] w (IsMade w f):=by
 have HC:=hid hc;clear hc
 go_enter Tryz.func192,Tryz.ntmps192
 go_wp2_with fail
 go_loopw [4] (fun i wr=>∃k:Nat,k<=256/\i=.int .i64 k/\MRel w f k wr) (fun i _=>256-(intOf i).toNat)
 case atStart=>
  refine⟨0,by omega,rfl,0,0,0,0,fit0,fit0,fit0,fit0,fun n _=>by rw [Kg];simp,?_,?_,kw _ _ _⟩
  ·have h:=j1 (w.alloc (.cells #[.int .u64 0,.int .u64 0,.int .u64 0,.int .u64 0] 29)) (.cells #[.int .u64 0,.int .u64 0,.int .u64 0,.int .u64 0] 29);rw [World.size_alloc] at h;exact h
  ·exact((j3 (w.alloc _) _).block w.heap.size (by simp)).trans (j1 w _)
 case round=>
  obtain⟨k,hk,rfl,r0,r1,r2,r3,z0,z1,z2,z3,hm,h1,h0,hb⟩:=hrel;have HM:=hid hm;clear hm
  by_cases hlt:k<256
  ·have hcell:=(hb.cell (p:=⟨g,k,none⟩) hg).trans (HC.out k hlt);have HB:=hid hb;have H1:=hid h1;have H0:=hid h0;obtain⟨c0,c1,c2,c3,f0,f1,f2,f3⟩:=Reg.cells4 h1;clear hb h1 h0;have hkq:=bound_lt k hlt
   cases hf:f k with
   |false=>
    rw [hf] at hcell;have HF:=hid hf;clear hf
    go_wp2
    go_roundw
    case rel=>
     refine⟨k+1,by omega,by go_num,r0,r1,r2,r3,z0,z1,z2,z3,fun n hn=> ?_,H1.out,H0.out,HB.out⟩;rw [HM.out n hn]
     by_cases e:n=k
     ·subst e;simp [HF.out]
     ·have:decide (n<k+1)=decide (n<k):=by
       by_cases h:n<k
       ·simp [h];omega
       ·simp [h];omega
      rw [this]
    case measure=>simp [intOf];omega
   |true=>
    rw [hf] at hcell;have HF:=hid hf;clear hf;have hq:k/64=0\/k/64=1\/k/64=2\/k/64=3:=by omega
    rcases hq with hq|hq|hq|hq
    ·rw [hq] at hkq;have HQ:=hid hq;clear hq
     go_wp2
     go_region
     go_wp2
     go_roundw
     case rel=>
      refine⟨k+1,by omega,by go_num,qh r0 (JB k),r1,r2,r3,orr_fit _ _,z1,z2,z3,fun n hn=> ?_,?_,?_,(HB.out.setCell (by simp) _).drew⟩
      ·rw [(Ju r0 r1 r2 r3 k n hlt hn).1 HQ.out,HM.out n hn];exact zz _ n k HF.out
      ·exact Joins.block_setCell H1.out _
      ·exact(Below.heap_setCell _ _ _ _ (by simp)).trans H0.out
     case measure=>simp [intOf];omega
    ·rw [hq] at hkq;have HQ:=hid hq;clear hq
     go_wp2
     go_region
     go_wp2
     go_roundw
     case rel=>
      refine⟨k+1,by omega,by go_num,r0,qh r1 (JB k),r2,r3,z0,orr_fit _ _,z2,z3,fun n hn=> ?_,?_,?_,(HB.out.setCell (by simp) _).drew⟩
      ·rw [(Ju r0 r1 r2 r3 k n hlt hn).2.1 HQ.out,HM.out n hn];exact zz _ n k HF.out
      ·exact Joins.block_setCell H1.out _
      ·exact(Below.heap_setCell _ _ _ _ (by simp)).trans H0.out
     case measure=>simp [intOf];omega
    ·rw [hq] at hkq;have HQ:=hid hq;clear hq
     go_wp2
     go_region
     go_wp2
     go_roundw
     case rel=>
      refine⟨k+1,by omega,by go_num,r0,r1,qh r2 (JB k),r3,z0,z1,orr_fit _ _,z3,fun n hn=> ?_,?_,?_,(HB.out.setCell (by simp) _).drew⟩
      ·rw [(Ju r0 r1 r2 r3 k n hlt hn).2.2.1 HQ.out,HM.out n hn];exact zz _ n k HF.out
      ·exact Joins.block_setCell H1.out _
      ·exact(Below.heap_setCell _ _ _ _ (by simp)).trans H0.out
     case measure=>simp [intOf];omega
    ·rw [hq] at hkq;have HQ:=hid hq;clear hq
     go_wp2
     go_region
     go_wp2
     go_roundw
     case rel=>
      refine⟨k+1,by omega,by go_num,r0,r1,r2,qh r3 (JB k),z0,z1,z2,orr_fit _ _,fun n hn=> ?_,?_,?_,(HB.out.setCell (by simp) _).drew⟩
      ·rw [(Ju r0 r1 r2 r3 k n hlt hn).2.2.2 HQ.out,HM.out n hn];exact zz _ n k HF.out
      ·exact Joins.block_setCell H1.out _
      ·exact(Below.heap_setCell _ _ _ _ (by simp)).trans H0.out
     case measure=>simp [intOf];omega
  ·have e:k=256:=by omega
   subst e;have HB:=hid hb;have H1:=hid h1;have H0:=hid h0;obtain⟨c0,c1,c2,c3,_,_,_,_⟩:=Reg.cells4 h1;obtain⟨d0,d1,d2,d3,e0,e1,e2,e3⟩:=Reg.cells4 h0;clear hb h1 h0
   go_wp2
   refine bodyPost_ret (v:=.agg #[.int .u64 r0,.int .u64 r1,.int .u64 r2,.int .u64 r3]) (by simp [results,Tryz.results192,go_sem,d0,d1,d2,d3]) rfl ⟨r0,r1,r2,r3,rfl,z0,z1,z2,z3,fun n hn=> ?_,kD HB.out (jN _) _ _ _ _⟩;rw [HM.out n hn];simp [hn]
theorem memb_or(a b c d x y z u:Int)(n:Nat):kn (qh (qh 0 a) x) (qh (qh 0 b) y) (qh (qh 0 c) z) (qh (qh 0 d) u) n=(kn a b c d n||kn x y z u n):=by
 unfold kn;simp only [V_orr,V0,BitVec.zero_or,BitVec.getLsbD_or]
 split<;>(try rfl)
 split<;>(try rfl)
 split<;>rfl
theorem ZI(a b c d x y z u:Int)(n:Nat):kn (an a x) (an b y) (an c z) (an d u) n=(kn a b c d n && kn x y z u n):=by
 unfold kn;simp only [V_an,BitVec.getLsbD_and]
 split<;>(try rfl)
 split<;>(try rfl)
 split<;>rfl
theorem Vn(a b c d:Int)(n:Nat):kn (nt a) (nt b) (nt c) (nt d) n= !kn a b c d n:=by
 have h:decide (n % 64<64)=true:=by simp;omega
 unfold kn;simp only [V_nt,BitVec.getLsbD_not,h,Bool.true_and]
 split<;>(try rfl)
 split<;>(try rfl)
 split<;>rfl
theorem Jf{a x:Int}(fa:Fit a)(fx:Fit x)(h:∀i,i<64->(V a).getLsbD i=(V x).getLsbD i):a=x:=V_inj fa fx (BitVec.eq_of_getLsbD_eq h)
theorem Xu{a b c d x y z u:Int}(fa:Fit a)(fb:Fit b)(fc:Fit c)(fd:Fit d)(fx:Fit x)(fy:Fit y)(fz:Fit z)(fu:Fit u)
  (h:∀n,n<256->kn a b c d n=kn x y z u n):a=x/\b=y/\c=z/\d=u:=by
 have at_:∀(j i:Nat),i<64->(64*j+i)/64=j/\(64*j+i) % 64=i:=by intro j i hi;omega
 refine⟨Jf fa fx fun i hi=> ?_,Jf fb fy fun i hi=> ?_,Jf fc fz fun i hi=> ?_,Jf fd fu fun i hi=> ?_⟩
 ·have:=h (64*0+i) (by omega);unfold kn at this;rw [(at_ 0 i hi).1,(at_ 0 i hi).2] at this;simpa using this
 ·have:=h (64*1+i) (by omega);unfold kn at this;rw [(at_ 1 i hi).1,(at_ 1 i hi).2] at this;simpa using this
 ·have:=h (64*2+i) (by omega);unfold kn at this;rw [(at_ 2 i hi).1,(at_ 2 i hi).2] at this;simpa using this
 ·have:=h (64*3+i) (by omega);unfold kn at this;rw [(at_ 3 i hi).1,(at_ 3 i hi).2] at this;simpa using this
def Tab(w:World):Prop:=∀j,j<64->w.cell? ⟨1,j,none⟩=some (.int .u8 (Lib.deBruijn64tab.getD j 0))
theorem Tab.below{B:Nat}{w w':World}(h:Tab w)(hb:Below B w w')(hB:1<B):Tab w':=fun j hj=>(hb.cell (p:=⟨1,j,none⟩) hB).trans (h j hj)
theorem Tab.lt{w:World}(h:Tab w):1<w.heap.size:=by
 have h0:=h 0 (by omega)
 by_cases hg:1<w.heap.size
 ·exact hg
 ·have hn:w.heap[1]? =none:=Array.getElem?_eq_none (by omega);unfold World.cell? at h0;simp [hn] at h0
theorem Tab.drewN{w:World}(h:Tab w)(n:Nat):Tab (w.drewN n):=h
theorem Tab.alloc{w:World}(h:Tab w)(o:Obj):Tab (w.alloc o):=h.below (j3 w o) h.lt
theorem Tab.up{w w':World}(h:Tab w)(hb:Below w.heap.size w w'):Tab w':=h.below hb h.lt
theorem tz_core(x k idx:Nat)(w:World)(hx0:((x:Int)==0)=false)
  (key:IntKind.u64.wrap (bits BinOp.and IntKind.u64 (x:Int) (IntKind.u64.wrap (-(x:Int)))*285870213051353865)/288230376151711744=(idx:Int))
  (hi:idx<64) (hk:k<64) (hcell:w.cell? ⟨1,idx,none⟩=some (.int .u8 k)):
  Calls Tryz.prog 158 #[.int .u64 x] w fun e w'=>e=.returned (.int .i64 k)/\w=w':=by
 go_enter Tryz.func158,Tryz.ntmps158
 go_wp2_with (simp only [key])
 go_ret
 exact⟨rfl,rfl⟩
theorem tz_any(x:Nat)(hx:x<18446744073709551616)(hx0:x≠0)(w:World)(hT:Tab w):
  Calls Tryz.prog 158 #[.int .u64 x] w fun e w'=>e=.returned (.int .i64 (Lib.ctz 64 x))/\w=w':=by
 obtain⟨hlow,hk⟩:=Lib.lowest_bit 64 x hx0 hx;obtain⟨hi,htab⟩:=Lib.deBruijn64_at _ hk;refine tz_core x _ _ w (by rw [beq_eq_false_iff_ne];omega) (tz64_key x _ hx hx0 hlow) hi hk ?_;have:=hT _ hi;rw [htab] at this;exact this
theorem ctz_at{X i:Nat}(hX:X<18446744073709551616)(h1:X.testBit i=true)(h2:∀j,j<i->X.testBit j=false):Lib.ctz 64 X=i:=by
 have h0:X≠0:=by intro e;subst e;simp at h1
 have hc:Lib.ctz 64 X=Lib.ctzFrom 64 X:=by unfold Lib.ctz;rw [if_neg h0]
 obtain⟨m,hm,hk⟩:=Lib.ctzFrom_spec 64 X (by omega) hX;rw [hc];generalize Lib.ctzFrom 64 X=k at*
 have hb:∀j,X.testBit j=(decide (k<=j) && (2*m+1).testBit (j-k)):=by
  intro j;rw [hm,Nat.testBit_two_pow_mul]
 have hkk:X.testBit k=true:=by rw [hb];simp
 rcases Nat.lt_trichotomy k i with h|h|h
 ·rw [h2 k h] at hkk;cases hkk
 ·exact h
 ·rw [hb] at h1;simp at h1;omega
theorem Ko{x:Int}(fx:Fit x)(i:Nat):(V x).getLsbD i=x.toNat.testBit i:=by
 have h:=VF fx;have e:x.toNat=(V x).toNat:=by omega
 rw [e];rfl
theorem vf{x:Int}(fx:Fit x)(h:∀i,i<64->(V x).getLsbD i=false):x=0:=by
 refine V_inj fx ⟨by omega,by omega⟩ (BitVec.eq_of_getLsbD_eq fun i hi=> ?_);rw [h i hi,V0];simp
theorem Zi(w:World):
  Calls Tryz.prog 109 #[.agg #[.int .u64 0,.int .u64 0,.int .u64 0,.int .u64 0]] w fun e w'=>e=.returned (.tuple #[.int .u8 0,.bool false])/\Below w.heap.size w w':=by
 have i0:∀w,(Instr.index 29 (.agg #[.int .u64 0,.int .u64 0,.int .u64 0,.int .u64 0]) (.int .i64 0)).run Tryz.prog w=.ok (.int .u64 0) w:=fun _=>by kernel_rfl
 have i1:∀w,(Instr.index 29 (.agg #[.int .u64 0,.int .u64 0,.int .u64 0,.int .u64 0]) (.int .i64 1)).run Tryz.prog w=.ok (.int .u64 0) w:=fun _=>by kernel_rfl
 have i2:∀w,(Instr.index 29 (.agg #[.int .u64 0,.int .u64 0,.int .u64 0,.int .u64 0]) (.int .i64 2)).run Tryz.prog w=.ok (.int .u64 0) w:=fun _=>by kernel_rfl
 have i3:∀w,(Instr.index 29 (.agg #[.int .u64 0,.int .u64 0,.int .u64 0,.int .u64 0]) (.int .i64 3)).run Tryz.prog w=.ok (.int .u64 0) w:=fun _=>by kernel_rfl
 go_enter Tryz.func109,Tryz.ntmps109
 go_wp2_with fail
 refine wp_loop_rounds 5 ?_;rw [rounds_succ];go_wp2_with fail;rw [rounds_succ];go_wp2_with fail;rw [rounds_succ];go_wp2_with fail;rw [rounds_succ];go_wp2_with fail;rw [rounds_succ];go_wp2_with fail
 go_ret2
 exact⟨rfl,j3 _ _⟩
theorem first_q(q:Nat)(a b c d:Int)(x k:Nat)(w:World)(hT:Tab w)(hx:x<18446744073709551616)(hx0:x≠0)(hk:Lib.ctz 64 x=k)(hk64:k<64)
  (hq:(q=0/\a=x)\/(q=1/\a=0/\b=x)\/(q=2/\a=0/\b=0/\c=x)\/(q=3/\a=0/\b=0/\c=0/\d=x)):
  Calls Tryz.prog 109 #[.agg #[.int .u64 a,.int .u64 b,.int .u64 c,.int .u64 d]] w fun e w'=>e=.returned (.tuple #[.int .u8 ((64*q+k:Nat):Int),.bool true])/\Below w.heap.size w w':=by
 have i0:∀w,(Instr.index 29 (.agg #[.int .u64 a,.int .u64 b,.int .u64 c,.int .u64 d]) (.int .i64 0)).run Tryz.prog w=.ok (.int .u64 a) w:=fun _=>by kernel_rfl
 have i1:∀w,(Instr.index 29 (.agg #[.int .u64 a,.int .u64 b,.int .u64 c,.int .u64 d]) (.int .i64 1)).run Tryz.prog w=.ok (.int .u64 b) w:=fun _=>by kernel_rfl
 have i2:∀w,(Instr.index 29 (.agg #[.int .u64 a,.int .u64 b,.int .u64 c,.int .u64 d]) (.int .i64 2)).run Tryz.prog w=.ok (.int .u64 c) w:=fun _=>by kernel_rfl
 have i3:∀w,(Instr.index 29 (.agg #[.int .u64 a,.int .u64 b,.int .u64 c,.int .u64 d]) (.int .i64 3)).run Tryz.prog w=.ok (.int .u64 d) w:=fun _=>by kernel_rfl
 have HT:=hid hT;have HK:=hid hk;have HX0:=hid hx0;have hz:((x:Int)==0)=false:=by rw [beq_eq_false_iff_ne];omega
 clear hT hk hx0
 rcases hq with ⟨rfl,rfl⟩|⟨rfl,rfl,rfl⟩|⟨rfl,rfl,rfl,rfl⟩|⟨rfl,rfl,rfl,rfl,rfl⟩
 all_goals
  go_enter Tryz.func109,Tryz.ntmps109
  go_wp2_with fail
  refine wp_loop_rounds 5 ?_;rw [rounds_succ];go_wp2_with fail
  iterate 3 (first|(rw [rounds_succ];go_wp2_with fail)|skip)
  refine(tz_any x hx HX0.out _ (HT.out.alloc _)).mono ?_;rintro e w1 ⟨rfl,rfl⟩;rw [HK.out]
  go_wp2_with fail
  go_ret2
  exact⟨by simp,j3 _ _⟩
def XE(b k:Nat):Int:=if k<b/64 then 0 else if k=b/64 then IntKind.u64.wrap (18446744073709551615*2 ^ (b % 64)) else 18446744073709551615
theorem fr_bit:∀m:Fin 64,∀i:Fin 64,(V (IntKind.u64.wrap (18446744073709551615*2 ^ m.val))).getLsbD i.val=decide (m.val<=i.val):=by decide+kernel
theorem ones_bit:∀i:Fin 64,(V 18446744073709551615).getLsbD i.val=true:=by decide+kernel
theorem Xt(b n:Nat)(hn:n<256):kn (XE b 0) (XE b 1) (XE b 2) (XE b 3) n=decide (b<=n):=by
 have key:∀k,k=n/64->(V (XE b k)).getLsbD (n % 64)=decide (b<=n):=by
  intro k hk;unfold XE
  by_cases h1:k<b/64
  ·rw [if_pos h1,V0];have:¬b<=n:=by omega
   simp [this]
  ·rw [if_neg h1]
   by_cases h2:k=b/64
   ·rw [if_pos h2];have h:=fr_bit ⟨b % 64,by omega⟩ ⟨n % 64,by omega⟩;simp only at h;rw [h]
    by_cases h3:b<=n
    ·have:b % 64<=n % 64:=by omega
     simp [h3,this]
    ·have:¬b % 64<=n % 64:=by omega
     simp [h3,this]
   ·rw [if_neg h2];have h:=ones_bit ⟨n % 64,by omega⟩;simp only at h;rw [h];have:b<=n:=by omega
    simp [this]
 unfold kn
 by_cases c0:n/64=0
 ·rw [if_pos c0];exact key 0 c0.symm
 ·rw [if_neg c0]
  by_cases c1:n/64=1
  ·rw [if_pos c1];exact key 1 c1.symm
  ·rw [if_neg c1]
   by_cases c2:n/64=2
   ·rw [if_pos c2];exact key 2 c2.symm
   ·rw [if_neg c2];exact key 3 (by omega)
theorem XF(b:Nat)(hb:b<256)(w:World):
  Calls Tryz.prog 237 #[.int .u8 b] w fun e w'=>e=.returned (.agg #[.int .u64 (XE b 0),.int .u64 (XE b 1),.int .u64 (XE b 2),.int .u64 (XE b 3)])/\Below w.heap.size w w':=by
 have hq:b/64=0\/b/64=1\/b/64=2\/b/64=3:=by omega
 have hm0:(0:Int)<=(b:Int) % 64:=by omega
 have hm1:(b:Int) % 64<64:=by omega
 rcases hq with hq|hq|hq|hq
 all_goals
  have HQ:=hid hq;have hqi:(b:Int)/64=((b/64:Nat):Int):=by omega
  rw [hq] at hqi;have hmn:((b:Int) % 64).toNat=b % 64:=by omega
  clear hq
  go_enter Tryz.func237,Tryz.ntmps237
  go_wp2_with fail
  refine wp_loop_rounds 4 ?_;rw [rounds_succ];go_wp2_with fail
  iterate 3 (first|(rw [rounds_succ];go_wp2_with fail)|skip)
  refine bodyPost_ret (v:=.agg #[.int .u64 (XE b 0),.int .u64 (XE b 1),.int .u64 (XE b 2),.int .u64 (XE b 3)]) (by simp [results,Tryz.results237,go_sem,XE,HQ.out]) rfl ⟨rfl,kw _ _ _⟩
def onr(l:Nat->Int):Nat->Nat->Bool
 |0,_=>false
 |k+1,n=>onr l k n||decide (l k=(n:Int))
theorem bitw_nat(k:Nat):bitw (k:Int)=JB k:=by
 unfold bitw JB;have:((k:Int) % 64).toNat=k % 64:=by omega
 rw [this]
theorem Xs(l:Nat->Int)(hl0:∀j,0<=l j)(hl1:∀j,l j<=255)(k n:Nat)(hn:n<256):kn (yN l k 0) (yN l k 1) (yN l k 2) (yN l k 3) n=onr l k n:=by
 induction k with
 |zero=>simp [yN,onr,Kg]
 |succ k ih=>
  obtain⟨b,hb⟩:=Int.eq_ofNat_of_zero_le (hl0 k);have hb1:=hl1 k;have hb2:b<256:=by omega
  have hd:((b:Int)/64)=((b/64:Nat):Int):=by omega
  obtain⟨m0,m1,m2,m3⟩:=Ju (yN l k 0) (yN l k 1) (yN l k 2) (yN l k 3) b n hb2 hn
  have hdec:decide ((b:Int)=(n:Int))=decide (n=b):=by
   by_cases e:n=b
   ·subst e;simp
   ·have:¬(b:Int)=(n:Int):=by omega
    simp [e,this]
  have hq:b/64=0\/b/64=1\/b/64=2\/b/64=3:=by omega
  show kn (yN l (k+1) 0) (yN l (k+1) 1) (yN l (k+1) 2) (yN l (k+1) 3) n=(onr l k n||decide (l k=(n:Int)))
  simp only [yN,hb,hd,bitw_nat,hdec];rw [<-ih]
  rcases hq with hq|hq|hq|hq
  ·have:=m0 hq;simp [hq];exact this
  ·have:=m1 hq;simp [hq];exact this
  ·have:=m2 hq;simp [hq];exact this
  ·have:=m3 hq;simp [hq];exact this
theorem Q0(l:Nat->Int)(k:Nat)(j:Int):Fit (yN l k j):=by
 induction k with
 |zero=>simp [yN,Fit]
 |succ k ih=>
  simp only [yN]
  split
  ·exact orr_fit _ _
  ·exact ih
def Zv(b k:Nat):Int:=an (XE b k) (nt (yN (fun _=>(b:Int)) 1 k))
def yM(lo hi k:Nat):Int:=an (XE lo k) (nt (Zv hi k))
theorem memb_abw(b n:Nat)(hb:b<256)(hn:n<256):kn (Zv b 0) (Zv b 1) (Zv b 2) (Zv b 3) n=decide (b<n):=by
 unfold Zv;rw [ZI,Vn,Xt b n hn];have h:=Xs (fun _=>(b:Int)) (by intro;omega) (by intro;omega) 1 n hn;rw [show kn (yN (fun _=>(b:Int)) 1 ((0:Nat):Int)) (yN (fun _=>(b:Int)) 1 ((1:Nat):Int)) (yN (fun _=>(b:Int)) 1 ((2:Nat):Int)) (yN (fun _=>(b:Int)) 1 ((3:Nat):Int)) n=onr (fun _=>(b:Int)) 1 n from h];simp only [onr,Bool.false_or]
 by_cases h1:b<n
 ·have h2:b<=n:=by omega
  have h3:¬(b:Int)=(n:Int):=by omega
  simp [h1,h2,h3]
 ·by_cases h2:b=n
  ·subst h2;simp
  ·have h3:¬b<=n:=by omega
   simp [h1,h3]
theorem Qy(lo hi n:Nat)(hh:hi<256)(hn:n<256):kn (yM lo hi 0) (yM lo hi 1) (yM lo hi 2) (yM lo hi 3) n=decide (lo<=n/\n<=hi):=by
 unfold yM;rw [ZI,Vn,Xt lo n hn,memb_abw hi n hh hn]
 by_cases h1:lo<=n<;>by_cases h2:hi<n
 ·have:¬n<=hi:=by omega
  simp [h2,this]
 ·have:n<=hi:=by omega
  simp [h1,h2,this]
 ·simp [h1]
 ·simp [h1]
theorem above_any(b:Nat)(hb:b<256)(w:World):
  Calls Tryz.prog 239 #[.int .u8 b] w fun e w'=>e=.returned (.agg #[.int .u64 (Zv b 0),.int .u64 (Zv b 1),.int .u64 (Zv b 2),.int .u64 (Zv b 3)])/\Below w.heap.size w w':=by
 go_enter Tryz.func239,Tryz.ntmps239
 go_wp2_with fail
 refine(XF b hb _).mono ?_;rintro e w1 ⟨rfl,hb1⟩;obtain⟨hc1,hf1,hz1⟩:=JC hb1;have l1:w.heap.size<w1.heap.size:=by simp at hz1;omega
 have l1':w.heap.size<w1.heap.size+1:=by omega
 go_wp2_with fail
 refine(of_any _ _ _ _ (fun _=>(b:Int)) _ (by simp) (by omega) (by intro;omega) (by intro;omega) (by
  intro j hj
  match j,hj with
  |0,_=>simp)).mono ?_
 rintro e w2 ⟨rfl,hb2⟩;obtain⟨hc2,hf2,hz2⟩:=JC hb2;have l2:w.heap.size<w2.heap.size:=by simp at hz2;omega
 go_wp2_with fail
 refine(Up _ _ _ _ _ _ _ _ _).mono ?_;rintro e w3 ⟨rfl,hb3⟩;obtain⟨hc3,hf3,hz3⟩:=JC hb3;have l3:w.heap.size<w3.heap.size:=by omega
 go_wp2_with fail
 refine bodyPost_ret (v:=.agg #[.int .u64 (Zv b 0),.int .u64 (Zv b 1),.int .u64 (Zv b 2),.int .u64 (Zv b 3)]) (by simp [results,Tryz.results239,go_sem,hc1,hc2,hc3,l1,l1',l2,Zv]) rfl ⟨rfl,?_⟩;exact kD (qG (qG ((qG (j3 _ _) hb1 (by simp)).alloc (by omega) _) hb2 (by simp;omega)) hb3 (by omega)) (jN _) _ _ _ _
theorem zC(lo hi:Nat)(h0:lo<256)(h1:hi<256)(w:World):
  Calls Tryz.prog 216 #[.int .u8 lo,.int .u8 hi] w fun e w'=>e=.returned (.agg #[.int .u64 (yM lo hi 0),.int .u64 (yM lo hi 1),.int .u64 (yM lo hi 2),.int .u64 (yM lo hi 3)])/\Below w.heap.size w w':=by
 go_enter Tryz.func216,Tryz.ntmps216
 go_wp2_with fail
 refine(XF lo h0 _).mono ?_;rintro e w1 ⟨rfl,hb1⟩;obtain⟨hc1,hf1,hz1⟩:=JC hb1;have l1:w.heap.size<w1.heap.size:=by simp at hz1;omega
 go_wp2_with fail
 refine(above_any hi h1 _).mono ?_;rintro e w2 ⟨rfl,hb2⟩;obtain⟨hc2,hf2,hz2⟩:=JC hb2;have l2:w.heap.size<w2.heap.size:=by omega
 go_wp2_with fail
 refine(Up _ _ _ _ _ _ _ _ _).mono ?_;rintro e w3 ⟨rfl,hb3⟩;obtain⟨hc3,hf3,hz3⟩:=JC hb3;have l3:w.heap.size<w3.heap.size:=by omega
 go_wp2_with fail
 refine bodyPost_ret (v:=.agg #[.int .u64 (yM lo hi 0),.int .u64 (yM lo hi 1),.int .u64 (yM lo hi 2),.int .u64 (yM lo hi 3)]) (by simp [results,Tryz.results216,go_sem,hc1,hc2,hc3,l1,l2,yM]) rfl ⟨rfl,?_⟩;exact kD (qG (qG (qG (j3 _ _) hb1 (by simp)) hb2 (by omega)) hb3 (by omega)) (jN _) _ _ _ _
def FirstIs(f:Nat->Bool)(v:Value):Prop:=
 ((∀n,n<256->f n=false)/\v=.tuple #[.int .u8 0,.bool false])\/
 ∃n:Nat,n<256/\f n=true/\(∀i,i<n->f i=false)/\v=.tuple #[.int .u8 n,.bool true]
theorem least_of(f:Nat->Bool)(N:Nat):(∀n,n<N->f n=false)\/∃n,n<N/\f n=true/\∀i,i<n->f i=false:=by
 induction N with
 |zero=>exact .inl fun n hn=>absurd hn (by omega)
 |succ N ih=>
  rcases ih with h|⟨n,hn,h1,h2⟩
  ·cases hf:f N
   ·refine .inl fun n hn=> ?_
    by_cases e:n=N
    ·subst e;exact hf
    ·exact h n (by omega)
   ·exact .inr ⟨N,by omega,hf,h⟩
  ·exact .inr ⟨n,by omega,h1,h2⟩
theorem at_word(a b c d:Int)(q i:Nat)(hi:i<64):kn a b c d (64*q+i)=if q=0 then(V a).getLsbD i else if q=1 then(V b).getLsbD i else if q=2 then(V c).getLsbD i else(V d).getLsbD i:=by
 unfold kn;rw [show(64*q+i)/64=q by omega,show(64*q+i) % 64=i by omega]
theorem first_any(a b c d:Int)(w:World)(fa:Fit a)(fb:Fit b)(fc:Fit c)(fd:Fit d)(hT:Tab w):
  Calls Tryz.prog 109 #[.agg #[.int .u64 a,.int .u64 b,.int .u64 c,.int .u64 d]] w fun e w'=>∃v,e=.returned v/\FirstIs (kn a b c d) v/\Below w.heap.size w w':=by
 rcases least_of (kn a b c d) 256 with h|⟨n,hn,h1,h2⟩
 ·have za:a=0:=vf fa fun i hi=>by have:=h (64*0+i) (by omega);rw [at_word _ _ _ _ 0 i hi] at this;simpa using this
  have zb:b=0:=vf fb fun i hi=>by have:=h (64*1+i) (by omega);rw [at_word _ _ _ _ 1 i hi] at this;simpa using this
  have zc:c=0:=vf fc fun i hi=>by have:=h (64*2+i) (by omega);rw [at_word _ _ _ _ 2 i hi] at this;simpa using this
  have zd:d=0:=vf fd fun i hi=>by have:=h (64*3+i) (by omega);rw [at_word _ _ _ _ 3 i hi] at this;simpa using this
  subst za zb zc zd;exact(Zi w).mono fun e w' ⟨he,hb⟩=>⟨_,he,.inl ⟨h,rfl⟩,hb⟩
 ·obtain⟨q,i,hi,rfl⟩:∃q i,i<64/\n=64*q+i:=⟨n/64,n % 64,by omega,by omega⟩;have hq:q<4:=by omega
  have below:∀p,p<q->∀j,j<64->kn a b c d (64*p+j)=false:=fun p hp j hj=>h2 _ (by omega)
  have same:∀j,j<i->kn a b c d (64*q+j)=false:=fun j hj=>h2 _ (by omega)
  have fin:∀x:Int,Fit x->(V x).getLsbD i=true->(∀j,j<i->(V x).getLsbD j=false)->
    ((q=0/\a=x)\/(q=1/\a=0/\b=x)\/(q=2/\a=0/\b=0/\c=x)\/(q=3/\a=0/\b=0/\c=0/\d=x))->
    Calls Tryz.prog 109 #[.agg #[.int .u64 a,.int .u64 b,.int .u64 c,.int .u64 d]] w fun e w'=>∃v,e=.returned v/\FirstIs (kn a b c d) v/\Below w.heap.size w w':=by
   intro x fx hx1 hx2 hc;obtain⟨X,rfl⟩:=Int.eq_ofNat_of_zero_le fx.1;have hX:X<18446744073709551616:=by have:=fx.2;omega
   rw [Ko fx,Int.toNat_natCast] at hx1;have hx3:∀j,j<i->X.testBit j=false:=fun j hj=>by have:=hx2 j hj;rw [Ko fx,Int.toNat_natCast] at this;exact this
   have h0:X≠0:=by intro e;subst e;simp at hx1
   exact(first_q q a b c d X i w hT hX h0 (ctz_at hX hx1 hx3) hi hc).mono fun e w' ⟨he,hb⟩=>⟨_,he,.inr ⟨_,hn,h1,h2,rfl⟩,hb⟩
  rw [at_word _ _ _ _ q i hi] at h1;have same':∀j,j<i->(if q=0 then(V a).getLsbD j else if q=1 then(V b).getLsbD j else if q=2 then(V c).getLsbD j else(V d).getLsbD j)=false:=fun j hj=>by rw [<-at_word _ _ _ _ q j (by omega)];exact same j hj
  have z0:0<q->a=0:=fun hp=>vf fa fun j hj=>by have:=below 0 hp j hj;rw [at_word _ _ _ _ 0 j hj] at this;simpa using this
  have z1:1<q->b=0:=fun hp=>vf fb fun j hj=>by have:=below 1 hp j hj;rw [at_word _ _ _ _ 1 j hj] at this;simpa using this
  have z2:2<q->c=0:=fun hp=>vf fc fun j hj=>by have:=below 2 hp j hj;rw [at_word _ _ _ _ 2 j hj] at this;simpa using this
  rcases(show q=0\/q=1\/q=2\/q=3 by omega) with e|e|e|e
  ·exact fin a fa (by simpa [e] using h1) (fun j hj=>by simpa [e] using same' j hj) (.inl ⟨e,rfl⟩)
  ·exact fin b fb (by simpa [e] using h1) (fun j hj=>by simpa [e] using same' j hj) (.inr (.inl ⟨e,z0 (by omega),rfl⟩))
  ·exact fin c fc (by simpa [e] using h1) (fun j hj=>by simpa [e] using same' j hj) (.inr (.inr (.inl ⟨e,z0 (by omega),z1 (by omega),rfl⟩)))
  ·exact fin d fd (by simpa [e] using h1) (fun j hj=>by simpa [e] using same' j hj) (.inr (.inr (.inr ⟨e,z0 (by omega),z1 (by omega),z2 (by omega),rfl⟩)))
theorem kl{w:World}{B:Nat}{e:TypeId}{v:Value}{n sz:Nat}{xs:List Value}(h:w.ownsRow B e sz v n xs){g:Nat}(hg:v.ownBlock=some g):B<=g/\g<w.heap.size:=by
 rcases h.2 with ⟨rfl,_⟩|⟨b,cap,cur,rfl,hb,hh,_⟩
 ·cases hg
 ·obtain rfl:b=g:=by simpa [Value.ownBlock] using hg
  refine⟨hb,?_⟩
  by_cases hlt:b<w.heap.size
  ·exact hlt
  ·have hn:w.heap[b]? =none:=by simp;omega
   rw [hn] at hh;cases hh
theorem qp{w w1:World}{B:Nat}{e:TypeId}{v:Value}{n sz:Nat}{xs:List Value}{row:Option Nat}(h:w.ownsRow B e sz v n xs)(hg:w.grownBy w1 row)(hne:∀g,v.ownBlock=some g->row≠some g):w1.ownsRow B e sz v n xs:=by
 refine⟨h.1,?_⟩
 rcases h.2 with h2|⟨b,cap,cur,rfl,hb,hh,r⟩
 ·exact .inl h2
 ·refine .inr ⟨b,cap,cur,rfl,hb,?_,r⟩;rw [hg.block b (kl h rfl).2 (fun e=>hne b rfl e.symm)];exact hh
theorem vX{w w1:World}{B:Nat}{e:TypeId}{v:Value}{n sz:Nat}{xs:List Value}(h:w.ownsRow B e sz v n xs)(hb:Below w.heap.size w w1):w1.ownsRow B e sz v n xs:=by
 refine⟨h.1,?_⟩
 rcases h.2 with h2|⟨b,cap,cur,rfl,hb',hh,r⟩
 ·exact .inl h2
 ·exact .inr ⟨b,cap,cur,rfl,hb',(hb.block b (kl h rfl).2).trans hh,r⟩
theorem Zc(w:World)(o:Obj):w.grownBy (w.alloc o) none:=⟨rfl,rfl,rfl,by simp,fun k hk _=>Below.heap_alloc w o k hk⟩
theorem kt{w:World}{B:Nat}{e:TypeId}{v:Value}{n sz:Nat}{xs:List Value}(h:w.ownsRow B e sz v n xs)(o:Obj):(w.alloc o).ownsRow B e sz v n xs:=qp h (Zc w o) (fun _ _ e=>by cases e)
theorem belowApp{w w1:World}{B:Nat}{e:TypeId}{v:Value}{n sz:Nat}{xs:List Value}{o:Obj}(h:w.ownsRow B e sz v n xs)(hg:(w.alloc o).grownBy w1 v.ownBlock)(hB:B<=w.heap.size):Below B w w1:=
 ((Below.refl B w).alloc hB o).grown hg (by simp;omega) (fun k hk=>(kl h hk).1)
theorem sizeOfGet{w:World}{g:Nat}{o:Obj}(h:w.heap[g]? =some o):g<w.heap.size:=by
 by_cases hlt:g<w.heap.size
 ·exact hlt
 ·have hn:w.heap[g]? =none:=by simp;omega
  rw [hn] at h;cases h
def BytesAt(w:World)(v:Value)(xs:List Int):Prop:=
 (v=.slice none 0 0/\xs= [])\/∃g cap,v=.slice (some ⟨g,0,none⟩) xs.length cap/\g<w.heap.size/\∀i,i<xs.length->w.cell? ⟨g,i,none⟩=some (.int .u8 (xs.getD i 0))
theorem conv_bytes{w:World}{v:Value}{xs:List Int}(h:BytesAt w v xs):(convert 88 9 v).run Tryz.prog w=.ok (.string (strOfNums xs)) w:=by
 rcases h with ⟨rfl,rfl⟩|⟨g,cap,rfl,_,hc⟩
 ·exact run_convert_bytes_nil (P:=Tryz.prog) w 88 5 Tryz.underlying88 Tryz.underlying5 0 0 9 Tryz.underlying9
 ·exact run_convert_bytes_arg (P:=Tryz.prog) w 88 5 Tryz.underlying88 Tryz.underlying5 g 0 xs.length cap xs rfl (fun i hi=>by rw [Nat.zero_add];exact hc i hi) 9 Tryz.underlying9
theorem hasW_at{a b c d:Int}(fa:Fit a)(fb:Fit b)(fc:Fit c)(fd:Fit d)(n:Nat):hasW a b c d (n:Int)=kn a b c d n:=by
 have e1:((n:Int) % 64).toNat=n % 64:=by omega
 unfold hasW kn;rw [QD a _ fa,QD b _ fb,QD c _ fc,QD d _ fd,e1];have q:(n:Int)/64=((n/64:Nat):Int):=by omega
 rw [q]
 by_cases c0:n/64=0
 ·simp [c0]
 ·by_cases c1:n/64=1
  ·simp [c1]
  ·by_cases c2:n/64=2
   ·simp [c2]
   ·have d0:¬((n/64:Nat):Int)=0:=by omega
    have d1:¬((n/64:Nat):Int)=1:=by omega
    have d2:¬((n/64:Nat):Int)=2:=by omega
    rw [if_neg d0,if_neg d1,if_neg d2,if_neg c0,if_neg c1,if_neg c2]
def lst(f:Nat->Bool)(k:Nat):List Int:=((List.range k).filter f).map fun(n:Nat)=>(n:Int)
def VI(W:World)(g:Nat)(f:Nat->Bool):Prop:=g<W.heap.size/\∀j,j<256->W.cell? ⟨g,j,none⟩=some (.bool (f j))
theorem J7{g cap:Nat}{f:Nat->Bool}{w:World}(r0 r1 r2 r3:Int)(h:VI w g f)(f0:Fit r0)(f1:Fit r1)(f2:Fit r2)(f3:Fit r3)(hf:∀n,n<256->kn r0 r1 r2 r3 n=f n):
  Calls Tryz.prog 192 #[.slice (some ⟨g,0,none⟩) 256 cap] w fun e w'=>e=.returned (.agg #[.int .u64 r0,.int .u64 r1,.int .u64 r2,.int .u64 r3])/\Below w.heap.size w w':=by
 refine(make_any g cap f w h.1 h.2).mono fun e w' ⟨s0,s1,s2,s3,he,k0,k1,k2,k3,hm,hb⟩=> ?_
 obtain⟨rfl,rfl,rfl,rfl⟩:=Xu k0 k1 k2 k3 f0 f1 f2 f3 (fun n hn=>(hm n hn).trans (hf n hn).symm);exact⟨he,hb⟩
theorem xl{W:World}{g:Nat}{f:Nat->Bool}(h:W.heap[g]? =some (.cells (bl f) 4)):VI W g f:=
 ⟨jS h,fun j hj=>(jC h j).trans (UF f j hj)⟩
open Go.ChangeShapes Go.WideShapes Go.ChangeAt Go.WideMaps Go.WideElems Go.RowKit
def XA : List (String × DataW Unit) := [("math/bits.deBruijn64tab",Rows.laid_math_bits_deBruijn64tab)]
theorem gTab : Tryz.prog.globalNamed "math/bits.deBruijn64tab" = some 1 := by kernel_rfl
theorem tTab:(Tryz.prog.globals[1]?).map (·.type)=some 293:=by kernel_rfl
theorem tabD:(Rows.laid_math_bits_deBruijn64tab:DataW Unit)=.agg (Lib.deBruijn64tab.map fun n:Nat=>.lit (.int .u8 n)):=rfl
theorem door_met(os:Os)(args:Array Value):laidMetH Tryz.prog XA ((World.doorLaid Tryz.prog 4000 os).forCall (fun _ _=>0) ⟨#[],args,[]⟩).memory:=
 laidMetH_of_parts3 (fuel:=8) (laidMet_of_run' 8 (by kernel_rfl) (by kernel_rfl)) (by kernel_rfl) (by kernel_rfl)
theorem VW{W:World}(h:laidMetH Tryz.prog XA W):Tab W:=by
 rw [MakeChecks.laidMetH_plain _ _ _ (by kernel_rfl)] at h;obtain⟨ps,⟨g0,t0,cs0,f0,p0,q0,hg0,ht0,hv0,hd0,_,_⟩,_,_⟩:=h;obtain rfl:=Option.some.inj (gTab.symm.trans hg0);obtain rfl:=Option.some.inj (tTab.symm.trans ht0);have c5:Tryz.prog.cellsOf 5=1:=by kernel_rfl
 obtain⟨xs,m1,rfl,hx1,hlen,hn3,hel⟩:=DataW.trod_array Tryz.underlying293 hd0;rw [tabD] at hx1;simp only [Prod.mk.injEq,DataW.agg.injEq] at hx1;intro j hj;have hjx:j<xs.length:=by omega
 have e:=hel j hj;rw [c5,Nat.mul_one,List.getElem?_eq_getElem hjx] at e;obtain⟨k,e1,e2,_⟩:=DataW.trod_int Tryz.underlying5 e;have hl:Lib.deBruijn64tab.length=64:=by decide
 have hm:=congrArg (fun l=>l[j]?) hx1.1;simp only [List.getElem?_map,List.getElem?_eq_getElem hjx,List.getElem?_eq_getElem (show j<Lib.deBruijn64tab.length by omega),Option.map_some,Option.some.injEq] at hm;rw [e2] at hm;simp only [DataW.lit.injEq,Lit.int.injEq,true_and] at hm
 have hg:Lib.deBruijn64tab.getD j 0=Lib.deBruijn64tab[j]'(by omega):=by
  rw [List.getD_eq_getElem?_getD,List.getElem?_eq_getElem (show j<Lib.deBruijn64tab.length by omega)];rfl
 have hc:=World.var?_cell hg0 hv0 j
 have hv:cs0[j]? =some (.int .u8 k):=by
  have:=congrArg (fun l=>l[0]?) e1;simp only [List.getElem?_take,List.getElem?_drop,Nat.add_zero] at this;rw [<-Array.getElem?_toList];simpa using this
 rw [hc,hv,hg,hm]
end
end Go.Proofs.YtnmalggmbeipaaaGreatDoor
