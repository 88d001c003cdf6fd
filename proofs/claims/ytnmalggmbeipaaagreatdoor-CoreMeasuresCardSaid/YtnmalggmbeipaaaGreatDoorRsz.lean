/- A part of the proof. -/
import Derived.Test.YtnmalggmbeipaaaGreatDoorRgI
import Derived.Test.YtnmalggmbeipaaaGreatDoorCoP
import Derived.Test.YtnmalggmbeipaaaGreatDoorNatR
set_option maxRecDepth 100000
set_option maxHeartbeats 16000000
namespace Go.Proofs.YtnmalggmbeipaaaGreatDoor
section
open Go Go.RowKit
attribute [local go_sem ↓] Go.wp_at_zero Go.wp_at_succ
attribute [local go_sem] qX
theorem Ve{m n:Int}(hm:0<=m)(hn:0<=n):pl (sat m) (sat n)=sat (m+n):=by
 unfold pl;rw [Vz hm,Vz hn,zB hm (xf hn),sat_add' hn hm]
theorem pl_satn{m n:Int}(hm:0<=m)(hn:0<=n)(h:n<=top):pl (sat m) n=sat (m+n):=by
 have:=Ve hm hn
 rwa [sat_self h] at this
theorem XG:∀(xs:List Int) (m:Int),0<=m->(∀x∈xs,0<=x/\x<=top)->xs.foldl pl (sat m)=sat (m+xs.sum)
 | [],m,_,_=>by simp
 |x::xs,m,hm,h=>by
  obtain⟨h0,h1⟩:=h x (List.mem_cons_self ..);rw [List.foldl_cons,pl_satn hm h0 h1,XG xs (m+x) (by omega) (fun y hy=>h y (List.mem_cons_of_mem _ hy)),List.sum_cons,Int.add_assoc]
theorem JE{xs:List Int}(h:∀x∈xs,0<=x/\x<=top):kL xs=sat xs.sum:=by
 have:=XG xs 0 (Int.le_refl _) h
 rwa [show sat 0=0 from rfl,Int.zero_add] at this
theorem Q2{a b:Int}(ha:0<=a/\a<=top)(hb:0<=b):yR [a,sat b]=sat (a*b):=by
 show ti (ti 1 a) (sat b)=_
 rw [Yt a ha.1 ha.2];unfold ti;rw [qY ha.1,Vz hb,sat_mul' hb ha.1]
def repE(x lo hi:Int):Int:=
 if hi= -1 then lo*x+lo+x+1 else if hi=0 then 1 else lo*x+(hi-lo)*x+lo-1+3*(hi-lo)
theorem repM_sat{x lo hi:Int}(hx:0<=x/\x<=top)(hlo:0<=lo/\lo<=1000)(hhi:hi= -1\/(lo<=hi/\hi<=1000)):qQ x lo hi=sat (repE x lo hi):=by
 have tp:top=9223372036854775807:=rfl
 have e1:kL [x,1]=sat (x+1):=by
  rw [JE (List.forall_mem_cons.2 ⟨hx,List.forall_mem_cons.2 ⟨⟨by omega,by omega⟩,fun _ h=>by cases h⟩⟩)];simp
 have e3:kL [x,3]=sat (x+3):=by
  rw [JE (List.forall_mem_cons.2 ⟨hx,List.forall_mem_cons.2 ⟨⟨by omega,by omega⟩,fun _ h=>by cases h⟩⟩)];simp
 have m1:∀{k:Int},0<=k->0<=k*(x+1):=fun hk=>yv hk (by omega)
 have m3:∀{k:Int},0<=k->0<=k*(x+3):=fun hk=>yv hk (by omega)
 unfold qQ repE
 by_cases h1:hi= -1
 ·rw [if_pos h1,if_pos h1,e1,Q2 (by omega) (by omega),JE (List.forall_mem_cons.2 ⟨⟨xf (m1 hlo.1),vi _⟩,List.forall_mem_cons.2 ⟨hx,List.forall_mem_cons.2 ⟨⟨by omega,by omega⟩,fun _ h=>by cases h⟩⟩⟩)];simp only [List.sum_cons,List.sum_nil];rw [show sat (lo*(x+1))+(x+(1+0))=sat (lo*(x+1))+(x+1) by omega,zB (m1 hlo.1) (by omega),Int.mul_add,Int.mul_one];congr 1;omega
 ·rw [if_neg h1,if_neg h1]
  by_cases h0:hi=0
  ·rw [if_pos h0,if_pos h0];rfl
  ·rw [if_neg h0,if_neg h0]
   by_cases he:lo=hi
   ·rw [if_pos he,e1,Q2 (by omega) (by omega),JE (List.forall_mem_cons.2 ⟨⟨xf (m1 (by omega)),vi _⟩,List.forall_mem_cons.2 ⟨hx,fun _ h=>by cases h⟩⟩)];simp only [List.sum_cons,List.sum_nil];rw [Int.add_zero,zB (m1 (by omega)) hx.1,Int.mul_add,Int.sub_mul,Int.mul_one,he,Int.sub_self,Int.zero_mul];congr 1;omega
   ·rw [if_neg he,e1,e3,Q2 (by omega) (by omega),Q2 (by omega) (by omega),JE (List.forall_mem_cons.2 ⟨⟨xf (m1 (by omega)),vi _⟩,List.forall_mem_cons.2 ⟨⟨xf (m3 (by omega)),vi _⟩,List.forall_mem_cons.2 ⟨hx,List.forall_mem_cons.2 ⟨⟨by omega,by omega⟩,fun _ h=>by cases h⟩⟩⟩⟩)];simp only [List.sum_cons,List.sum_nil];have n1:=m1 hlo.1;have n3:=m3 (k:=hi-lo-1) (by omega);have s1:=xf n1;have s3:=xf n3;rw [zB n1 (by omega),show lo*(x+1)+(sat ((hi-lo-1)*(x+3))+(x+(2+0)))=sat ((hi-lo-1)*(x+3))+(lo*(x+1)+x+2) by omega,zB n3 (by omega),Int.mul_add,Int.mul_add,Int.sub_mul,Int.mul_one,Int.one_mul];congr 1;omega
def Yj(x:Int)(i:Nat):Int:=sat ((i:Int)*x)
def VK(x lo:Int)(j:Nat):Int:=sat (lo*x+(j:Int)*(x+2)+((j-1:Nat):Int))
theorem rk1_le(x:Int)(i:Nat):Yj x i<=top:=vi _
theorem rk2_le(x lo:Int)(j:Nat):VK x lo j<=top:=vi _
theorem rk1_zero(x:Int):Yj x 0=0:=by
 unfold Yj;simp;rfl
theorem rk1_succ{x:Int}(hx:0<=x/\x<=top)(i:Nat):pl (Yj x i) x=Yj x (i+1):=by
 unfold Yj;rw [pl_satn (yv (by omega) hx.1) hx.1 hx.2,show(((i+1:Nat):Int))=(i:Int)+1 by omega,Int.add_mul,Int.one_mul]
theorem rk2_zero{x:Int}(n:Nat):VK x (n:Int) 0=Yj x n:=by
 unfold Yj VK;simp
theorem pl_two{x:Int}(hx:0<=x/\x<=top):pl x 2=sat (x+2):=by
 have:=pl_satn (m:=x) (n:=2) hx.1 (by omega) (by unfold top;omega)
 rwa [sat_self hx.2] at this
theorem pl_one{x:Int}(hx:0<=x/\x<=top):pl x 1=sat (x+1):=by
 have:=pl_satn (m:=x) (n:=1) hx.1 (by omega) (by unfold top;omega)
 rwa [sat_self hx.2] at this
theorem rk2_first{x lo:Int}(hx:0<=x/\x<=top)(hlo:0<=lo):pl (VK x lo 0) (pl x 2)=VK x lo 1:=by
 unfold VK;rw [pl_two hx];simp only [Int.natCast_zero,Int.zero_mul,Nat.zero_sub,Int.add_zero];rw [Ve (yv hlo hx.1) (by omega)];simp
theorem rk2_succ{x lo:Int}(hx:0<=x/\x<=top)(hlo:0<=lo)(j:Nat):pl (pl (VK x lo (j+1)) (pl x 2)) 1=VK x lo (j+2):=by
 have h1:=yv hlo hx.1;have h2:0<=((j+1:Nat):Int)*(x+2):=yv (by omega) (by omega);unfold VK;rw [pl_two hx,Ve (by omega) (by omega),pl_satn (by omega) (by omega) (by unfold top;omega),show(((j+2:Nat):Int))=((j+1:Nat):Int)+1 by omega,Int.add_mul,Int.one_mul];congr 1;have e1:((j+1-1:Nat):Int)=j:=by omega
 have e2:((j+2-1:Nat):Int)=j+1:=by omega
 rw [e1,e2];omega
theorem Y6:∀(xs:List Int) (m:Int),0<=m->(∀x∈xs,0<=x/\x<=top)->ve (sat m) xs=sat (m+xs.sum)
 | [],m,_,_=>by simp [ve]
 |x::xs,m,hm,h=>by
  obtain⟨h0,h1⟩:=h x (List.mem_cons_self ..)
  have e:kL [sat m,x]=sat (m+x):=by
   show pl (pl 0 (sat m)) x=_
   rw [Vd _ (xf hm) (vi _),pl_satn hm h0 h1]
  have ih:=Y6 xs (m+x) (by omega) (fun y hy=>h y (List.mem_cons_of_mem _ hy));unfold ve at ih ⊢;rw [List.foldl_cons,e,ih,List.sum_cons,Int.add_assoc]
def smI(xs:List Int)(i:Nat):Int:=sat (xs.take i).sum
theorem UW:∀(xs:List Int),(∀x∈xs,0<=x/\x<=top)->0<=xs.sum
 | [],_=>Int.le_refl _
 |x::xs,h=>by
  have h1:=UW xs (fun y hy=>h y (List.mem_cons_of_mem _ hy));have h2:=h x (List.mem_cons_self ..);rw [List.sum_cons];omega
theorem smI_succ{xs:List Int}(h:∀x∈xs,0<=x/\x<=top){i:Nat}{x:Int}(hx:xs[i]? =some x):pl (smI xs i) x=smI xs (i+1):=by
 obtain⟨h0,h1⟩:=h x (List.mem_of_getElem? hx);unfold smI;rw [List.take_add_one,hx,pl_satn (UW _ (fun y hy=>h y (List.mem_of_mem_take hy))) h0 h1,List.sum_append];simp
theorem smI_end{xs:List Int}(h:∀x∈xs,0<=x/\x<=top)(n:Nat)(hn:n<=1000000000):pl (smI xs xs.length) (n:Int)=ve (n:Int) xs:=by
 have:=Y6 xs n (by omega) h;rw [sat_self (by unfold top;omega)] at this;unfold smI;rw [this,List.take_length,pl_satn (UW _ h) (by omega) (by unfold top;omega),Int.add_comm]
theorem X8(k:Int)(hk:k<2)(s:W4)(lo hi:Int)(z:Bool)(a b:Nat)(l:List Tr)(A:Nat->Prop)(lv:Value)(w:World)(ht:kU w A (.mk k s lo hi z a b l) lv):
  Calls Tryz.prog 22 #[rnV (.mk k s lo hi z a b l) lv] w fun e w'=>e=.returned (.int .i64 1)/\Below w.heap.size w w':=by
 obtain⟨p,cap,rfl⟩:=ht.slice_len;have HT:=j0 ht;obtain⟨W1,hW1⟩:∃X,X=w.alloc (.cells #[.int .i64 k,.int .u64 s.a,.int .u64 s.b,.int .u64 s.c,.int .u64 s.d,.int .i64 lo,.int .i64 hi,.bool z,(.slice p l.length cap),.int .i64 (a:Int),.int .i64 (b:Int)] 50):=⟨_,rfl⟩;have HB1:Hid (Below w.heap.size w W1):=j0 (by rw [hW1];exact j3 w _);have HK1:Hid (W1.heap[w.heap.size]? =some (.cells #[.int .i64 k,.int .u64 s.a,.int .u64 s.b,.int .u64 s.c,.int .u64 s.d,.int .i64 lo,.int .i64 hi,.bool z,(.slice p l.length cap),.int .i64 (a:Int),.int .i64 (b:Int)] 50)):=j0 (by rw [hW1];exact j1 w _);have HW1:=j0 hW1;change Calls _ _ #[.agg #[.int .i64 k,.int .u64 s.a,.int .u64 s.b,.int .u64 s.c,.int .u64 s.d,.int .i64 lo,.int .i64 hi,.bool z,(.slice p l.length cap),.int .i64 (a:Int),.int .i64 (b:Int)]] _ _;have x0:=jC HK1.out 0;have x5:=jC HK1.out 5;have x6:=jC HK1.out 6;have x8:=jC HK1.out 8;have hx1:=jS HK1.out;simp only [Reg.la,Reg.lb,Reg.lc] at x0 x5 x6 x8;clear ht hW1
 go_enter Tryz.func22,Tryz.ntmps22
 go_upto_region 1 with fail
 rw [<-HW1.out];clear HW1
 go_wp2_with fail
 exact bodyPost_ret (v:=.int .i64 1) (by simp [results,Tryz.results22,go_sem]) rfl ⟨rfl,HB1.out⟩
theorem rsz_many(k:Int)(hk:2<=k)(hk6:k≠6)(s:W4)(lo hi:Int)(z:Bool)(a b:Nat)(l:List Tr)(hl0:0<l.length)(hl9:l.length<=1000000000)(hxs:∀x∈l.map qt,0<=x/\x<=top)(A:Nat->Prop)(lv:Value)(w:World)(ht:kU w A (.mk k s lo hi z a b l) lv)
  (ih:∀(c:Tr) {i:Nat},l[i]? =some c->∀(X:World) (B:Nat->Prop) (v:Value),kU X B c v->Calls Tryz.prog 22 #[rnV c v] X fun e w'=>e=.returned (.int .i64 (qt c))/\Below X.heap.size X w'):
  Calls Tryz.prog 22 #[rnV (.mk k s lo hi z a b l) lv] w fun e w'=>e=.returned (.int .i64 (ve ((l.length:Int)-1) (l.map qt)))/\Below w.heap.size w w':=by
 obtain⟨p,cap,rfl⟩:=ht.slice_len;have HT:=j0 ht;obtain⟨W1,hW1⟩:∃X,X=w.alloc (.cells #[.int .i64 k,.int .u64 s.a,.int .u64 s.b,.int .u64 s.c,.int .u64 s.d,.int .i64 lo,.int .i64 hi,.bool z,(.slice p l.length cap),.int .i64 (a:Int),.int .i64 (b:Int)] 50):=⟨_,rfl⟩;have HB1:Hid (Below w.heap.size w W1):=j0 (by rw [hW1];exact j3 w _);have HK1:Hid (W1.heap[w.heap.size]? =some (.cells #[.int .i64 k,.int .u64 s.a,.int .u64 s.b,.int .u64 s.c,.int .u64 s.d,.int .i64 lo,.int .i64 hi,.bool z,(.slice p l.length cap),.int .i64 (a:Int),.int .i64 (b:Int)] 50)):=j0 (by rw [hW1];exact j1 w _);have HW1:=j0 hW1;change Calls _ _ #[.agg #[.int .i64 k,.int .u64 s.a,.int .u64 s.b,.int .u64 s.c,.int .u64 s.d,.int .i64 lo,.int .i64 hi,.bool z,(.slice p l.length cap),.int .i64 (a:Int),.int .i64 (b:Int)]] _ _;have x0:=jC HK1.out 0;have x5:=jC HK1.out 5;have x6:=jC HK1.out 6;have x8:=jC HK1.out 8;have hx1:=jS HK1.out;simp only [Reg.la,Reg.lb,Reg.lc] at x0 x5 x6 x8;have HIH:=j0 ih;have HXS:=j0 hxs
 have HEND:Hid (pl (smI (l.map qt) l.length) ((l.length:Int)-1)=ve ((l.length:Int)-1) (l.map qt)):=j0 (by
  have:=smI_end hxs (l.length-1) (by omega);rw [List.length_map,show((l.length-1:Nat):Int)=(l.length:Int)-1 by omega] at this
  exact this)
 obtain⟨res,hres⟩:∃r,r=ve ((l.length:Int)-1) (l.map qt):=⟨_,rfl⟩;rw [<-hres] at HEND ⊢;clear ht hW1 ih hxs hres;have hk6b:(k==6)=false:=by simpa using hk6
 clear hk6
 go_enter Tryz.func22,Tryz.ntmps22
 go_upto_region 1 with fail
 rw [<-HW1.out];clear HW1
 go_wp2_with fail
 clear x0 x5 x6 x8 hx1
 go_loopw [3,8] (fun sv iv wr=>∃i:Nat,i<=l.length/\iv=.int .i64 (i:Int)/\Hid (sv=.int .i64 (smI (l.map qt) i))/\Hid (Below W1.heap.size W1 wr)) (fun _ iv _=>l.length-(intOf iv).toNat)
 case atStart=>exact⟨0,by omega,rfl,j0 rfl,j0 (Below.refl _ _)⟩
 case round=>
  obtain⟨i,hi2,rfl,HSV,HB⟩:=hrel;have HBW:=j0 (HB1.out.trans (HB.out.mono HB1.out.size));have hb1:=(HB.out.block _ (jS HK1.out)).trans HK1.out;have x8:=jC hb1 8;have hl1:=jS hb1;simp only [Reg.la,Reg.lb,Reg.lc] at x8;clear hb1
  by_cases hlt:i<l.length
  ·obtain⟨c,hc⟩:∃c,l[i]? =some c:=⟨_,List.getElem?_eq_getElem hlt⟩;have hgc:(l.map qt)[i]? =some (qt c):=by rw [List.getElem?_map,hc];rfl
   have HC:=j0 (HIH.out c hc);have hbd:=HXS.out _ (List.mem_of_getElem? hgc);have HNX:=j0 (smI_succ HXS.out hgc);obtain⟨sm,hsm⟩:∃q,q=smI (l.map qt) i:=⟨_,rfl⟩;have hsv:=HSV.out;rw [<-hsm] at hsv HNX;subst hsv;have hsm0:sm<=top:=by rw [hsm];exact vi _
   obtain⟨k1,s1,lo1,hi1,z1,a1,b1,l1⟩:=c;obtain⟨g,cp1,lu1,hv1,hg1,hr1,c0,⟨c1,c2,c3,c4⟩,c5,c6,c7,c8,c9,c10⟩:=(HT.out.up HBW.out).get hc;injection hv1 with hv1 _ hv2;subst hv1 hv2;obtain⟨pp,n1,cq,rfl⟩:=hr1.slice;have HR:=j0 (HC.out wr _ _ hr1);obtain⟨v1,hv1⟩:∃v,v=qt (.mk k1 s1 lo1 hi1 z1 a1 b1 l1):=⟨_,rfl⟩;rw [<-hv1] at HR hbd HNX;have HAD:=j0 (fun X=>qW sm v1 X hsm0 hbd.2);clear hr1 hc hsm HC hgc hv1 hsm0 HSV hbd
   go_wp2_with fail
   refine HR.out.mono ?_;rintro e w2 ⟨rfl,hb⟩;have HB2:=j0 (HB.out.trans (hb.mono HB.out.size));clear hb HR c0 c1 c2 c3 c4 c5 c6 c7 c8 c9 c10 x8 hl1
   go_wp2_with fail
   refine(HAD.out w2).mono ?_;rintro e w3 ⟨rfl,hw3⟩;obtain rfl:=hw3
   go_wp2_with fail
   go_roundw
   case rel=>exact⟨i+1,by omega,by go_num,j0 (by rw [HNX.out]),HB2⟩
   case measure=>simp [intOf];omega
  ·obtain rfl:i=l.length:=by omega
   obtain⟨sm,hsm⟩:∃q,q=smI (l.map qt) l.length:=⟨_,rfl⟩;have hsv:=HSV.out;rw [<-hsm] at hsv HEND;subst hsv;have hsm0:sm<=top:=by rw [hsm];exact vi _
   have HAD:=j0 (fun X=>qW sm ((l.length:Int)-1) X hsm0 (by unfold top;omega));rw [HEND.out] at HAD;clear hsm HSV hsm0
   go_wp2_with fail
   refine(HAD.out wr).mono ?_;rintro e w3 ⟨rfl,hw3⟩;obtain rfl:=hw3
   go_wp2_with fail
   exact bodyPost_ret (v:=.int .i64 res) (by simp [results,Tryz.results22,go_sem]) rfl ⟨rfl,HBW.out⟩
def rkS(x lo hi:Int):Int:=if hi= -1 then pl (Yj x lo.toNat) (pl x 1) else if lo<hi then VK x lo (hi-lo).toNat else Yj x lo.toNat
theorem rk_end{x lo hi:Int}(hx:0<=x/\x<=top)(hlo:0<=lo/\lo<=1000)(hhi:hi= -1\/(lo<=hi/\hi<=1000))(h0:hi≠0):
  pl (rkS x lo hi) (if hi= -1 then lo else if lo<hi then lo else lo-1)=qQ x lo hi:=by
 have tp:top=9223372036854775807:=rfl;have n1:=yv hlo.1 hx.1;have el:((lo.toNat:Nat):Int)=lo:=by omega
 rw [repM_sat hx hlo hhi];unfold rkS repE Yj VK
 by_cases h1:hi= -1
 ·rw [if_pos h1,if_pos h1,if_pos h1,el,pl_one hx,Ve n1 (by omega),pl_satn (by omega) (by omega) (by omega)];congr 1;omega
 ·rw [if_neg h1,if_neg h1,if_neg h1,if_neg h0]
  by_cases h2:lo<hi
  ·have eh:(((hi-lo).toNat:Nat):Int)=hi-lo:=by omega
   have e1:(((hi-lo).toNat-1:Nat):Int)=hi-lo-1:=by omega
   have n2:=yv (m:=hi-lo) (n:=x+2) (by omega) (by omega);rw [if_pos h2,if_pos h2,eh,e1,pl_satn (by omega) (by omega) (by omega),Int.mul_add];congr 1;omega
  ·have e:hi=lo:=by omega
   rw [if_neg h2,if_neg h2,el,pl_satn n1 (by omega) (by omega),e,Int.sub_self,Int.zero_mul];congr 1;omega
theorem rk_m1{x:Int}{n:Nat}:rkS x n (-1)=pl (Yj x n) (pl x 1):=by
 unfold rkS;rw [if_pos rfl,Int.toNat_natCast]
theorem rk_eq{x:Int}{n:Nat}:rkS x n n=Yj x n:=by
 unfold rkS;rw [if_neg (by omega),if_neg (by omega),Int.toNat_natCast]
theorem rk_lt{x:Int}{n m:Nat}(hm:0<m):rkS x n ((n:Int)+(m:Int))=VK x n m:=by
 unfold rkS;rw [if_neg (by omega),if_pos (by omega),show((n:Int)+(m:Int)-(n:Int)).toNat=m by omega]
theorem rsz_rep(s:W4)(lo hi:Int)(hlo:0<=lo/\lo<=1000)(hhi:hi= -1\/(lo<=hi/\hi<=1000))(z:Bool)(a b:Nat)(c:Tr)(hx:0<=qt c/\qt c<=top)(A:Nat->Prop)(lv:Value)(w:World)(ht:kU w A (.mk 6 s lo hi z a b [c]) lv)
  (ih:∀(X:World) (B:Nat->Prop) (v:Value),kU X B c v->Calls Tryz.prog 22 #[rnV c v] X fun e w'=>e=.returned (.int .i64 (qt c))/\Below X.heap.size X w'):
  Calls Tryz.prog 22 #[rnV (.mk 6 s lo hi z a b [c]) lv] w fun e w'=>e=.returned (.int .i64 (qQ (qt c) lo hi))/\Below w.heap.size w w':=by
 obtain⟨p,cap,rfl⟩:=ht.slice_len;have HT:=j0 ht;obtain⟨W1,hW1⟩:∃X,X=w.alloc (.cells #[.int .i64 6,.int .u64 s.a,.int .u64 s.b,.int .u64 s.c,.int .u64 s.d,.int .i64 lo,.int .i64 hi,.bool z,(.slice p 1 cap),.int .i64 (a:Int),.int .i64 (b:Int)] 50):=⟨_,rfl⟩;have HB1:Hid (Below w.heap.size w W1):=j0 (by rw [hW1];exact j3 w _);have HK1:Hid (W1.heap[w.heap.size]? =some (.cells #[.int .i64 6,.int .u64 s.a,.int .u64 s.b,.int .u64 s.c,.int .u64 s.d,.int .i64 lo,.int .i64 hi,.bool z,(.slice p 1 cap),.int .i64 (a:Int),.int .i64 (b:Int)] 50)):=j0 (by rw [hW1];exact j1 w _);have HW1:=j0 hW1;change Calls _ _ #[.agg #[.int .i64 6,.int .u64 s.a,.int .u64 s.b,.int .u64 s.c,.int .u64 s.d,.int .i64 lo,.int .i64 hi,.bool z,(.slice p 1 cap),.int .i64 (a:Int),.int .i64 (b:Int)]] _ _;have x0:=jC HK1.out 0;have x8:=jC HK1.out 8;have hx1:=jS HK1.out;simp only [Reg.la,Reg.lb,Reg.lc] at x0 x8;obtain⟨k1,s1,lo1,hi1,z1,a1,b1,l1⟩:=c;obtain⟨g,cp1,lu1,hv1,hg1,hr1,c0,⟨c1,c2,c3,c4⟩,c5,c6,c7,c8,c9,c10⟩:=(HT.out.up HB1.out).get (i:=0) (l:= [.mk k1 s1 lo1 hi1 z1 a1 b1 l1]) rfl;injection hv1 with hv1 _ hv2;subst hv1 hv2;obtain⟨pp,n1,cq,rfl⟩:=hr1.slice;have HR:=j0 (ih W1 _ _ hr1);obtain⟨x,hx1⟩:∃v,v=qt (.mk k1 s1 lo1 hi1 z1 a1 b1 l1):=⟨_,rfl⟩;rw [<-hx1] at HR hx ⊢;have HX:=j0 hx;have HAD:=j0 (fun(y:Int) (X:World) (hy:y<=top)=>qW y x X hy hx.2);have HA1:=j0 (fun(y:Int) (X:World) (hy:y<=top)=>qW y 1 X hy (by unfold top;omega));have HA2:=j0 (fun(X:World)=>qW x 2 X hx.2 (by unfold top;omega));have HAX:=j0 (fun(X:World)=>qW x 1 X hx.2 (by unfold top;omega));have HAP:=j0 (fun(y v:Int) (X:World) (hy:y<=top) (hv:v<=top)=>qW y v X hy hv);have HEND:=j0 (rk_end hx hlo hhi);obtain⟨n,hn⟩:∃n:Nat,lo=(n:Int):=⟨lo.toNat,by omega⟩;subst hn;have h1000:=hlo.2;have HHI:=j0 hhi;clear ht hW1 ih hx1 hx hr1 hlo hhi
 go_enter Tryz.func22,Tryz.ntmps22
 go_upto_region 1 with fail
 rw [<-HW1.out];clear HW1
 go_wp2_with fail
 refine HR.out.mono ?_;rintro e w2 ⟨rfl,hb⟩;have HB2:=j0 hb;have hb1:=(hb.block _ (jS HK1.out)).trans HK1.out;have HK2:=j0 hb1;have x2:=jC hb1 5;have x3:=jC hb1 6;simp only [Reg.la,Reg.lb,Reg.lc] at x2 x3;clear hb hb1 HR c0 c1 c2 c3 c4 c5 c6 c7 c8 c9 c10 x0 x8 hx1 hg1
 go_wp2_with fail
 go_loopw [3,6] (fun sv iv wr=>∃i:Nat,i<=n/\iv=.int .i64 (i:Int)/\Hid (sv=.int .i64 (Yj x i))/\wr=w2) (fun _ iv _=>n-(intOf iv).toNat)
 case atStart=>exact⟨0,by omega,rfl,j0 (by rw [rk1_zero]),rfl⟩
 case round=>
  obtain⟨i,hi2,rfl,HSV,hwr⟩:=hrel;rw [hwr] at*;obtain⟨sm,hsm⟩:∃q,q=Yj x i:=⟨_,rfl⟩;have hsv:=HSV.out;rw [<-hsm] at hsv;subst hsv
  by_cases hlt:i<n
  ·have HNX:Hid (pl sm x=Yj x (i+1)):=j0 (by rw [hsm];exact rk1_succ HX.out i);have HA:=j0 (HAD.out sm w2 (by rw [hsm];exact rk1_le _ _));clear hsm HSV
   go_wp2_with fail
   refine HA.out.mono ?_;rintro e w3 ⟨rfl,hw3⟩;obtain rfl:=hw3
   go_wp2_with fail
   go_roundw
   case rel=>exact⟨i+1,by omega,by go_num,j0 (by rw [HNX.out]),by first|rfl|trivial⟩
   case measure=>simp [intOf];omega
  ·obtain rfl:i=n:=by omega
   clear hlt HSV;have hsm0:sm<=top:=by rw [hsm];exact rk1_le _ _
   have RET:∀v:Int,v=qQ x (i:Int) hi->Ending.returned (.int .i64 v)=Ending.returned (.int .i64 (qQ x (i:Int) hi)):=fun v h=>by rw [h]
   have HRET:=j0 RET;clear RET
   rcases HHI.out with h1|⟨h2,h3⟩
   ·subst h1
    have HE:Hid (pl (pl sm (pl x 1)) (i:Int)=qQ x (i:Int) (-1)):=j0 (by
     have h:=HEND.out (by omega)
     rwa [rk_m1,<-hsm,if_pos rfl] at h)
    have HA1':=j0 (HAX.out w2);have HA2':=j0 (HAP.out sm (pl x 1) w2 hsm0 (Qs _ _));have HA3':=j0 (HAP.out (pl sm (pl x 1)) (i:Int) w2 (Qs _ _) (by unfold top;omega));clear hsm hsm0 HEND
    go_wp2_with fail
    refine HA1'.out.mono ?_;rintro e w3 ⟨rfl,hw3⟩;obtain rfl:=hw3
    go_wp2_with fail
    refine HA2'.out.mono ?_;rintro e w3 ⟨rfl,hw3⟩;obtain rfl:=hw3
    go_wp2_with fail
    refine wp_loop_rounds 1 ?_;rw [rounds_succ]
    go_wp2_with fail
    refine(HAP.out _ _ w2 (Qs _ _) (by unfold top;omega)).mono ?_;rintro e w3 ⟨rfl,hw3⟩;obtain rfl:=hw3
    go_wp2_with fail
    go_ret
    exact⟨HRET.out _ (by rw [<-HE.out]),HB1.out.trans (HB2.out.mono HB1.out.size)⟩
   ·obtain⟨m,hm⟩:∃m:Nat,hi=(i:Int)+(m:Int):=⟨(hi-i).toNat,by omega⟩;subst hm;have hneg:¬((i:Int)+(m:Int)= -1):=by omega
    have hneb:(((i:Int)+(m:Int))== -1)=false:=by simpa using hneg
    by_cases hm0:m=0
    ·subst hm0;have x3':w2.cell? ⟨w.heap.size,6,none⟩=some (.int .i64 (i:Int)):=by rw [x3];simp
     clear x3
     by_cases hi0:i=0
     ·subst hi0;have HE:Hid ((1:Int)=qQ x ((0:Nat):Int) (((0:Nat):Int)+((0:Nat):Int))):=j0 (by unfold qQ;rw [if_neg (by omega),if_pos (by omega)]);clear hsm hsm0 HEND hneg hneb
      go_wp2_with fail
      refine wp_loop_rounds 1 ?_;rw [rounds_succ]
      go_wp2_with fail
      go_ret
      exact⟨HRET.out _ HE.out,HB1.out.trans (HB2.out.mono HB1.out.size)⟩
     ·have HE:Hid (pl sm ((i:Int)-1)=qQ x (i:Int) ((i:Int)+((0:Nat):Int))):=j0 (by
       have h:=HEND.out (by omega);rw [show((i:Int)+((0:Nat):Int))=(i:Int) by omega,rk_eq,<-hsm,if_neg (by omega),if_neg (by omega)] at h;rw [show((i:Int)+((0:Nat):Int))=(i:Int) by omega]
       exact h)
      have hneb2:((i:Int)== -1)=false:=by simp<;>omega
      have hneb3:((i:Int)==0)=false:=by simp<;>omega
      clear hsm HEND hneg hneb
      go_wp2_with fail
      refine wp_loop_rounds 1 ?_;rw [rounds_succ]
      go_wp2_with fail
      refine(HAP.out _ _ w2 hsm0 (by unfold top;omega)).mono ?_;rintro e w3 ⟨rfl,hw3⟩;obtain rfl:=hw3
      go_wp2_with fail
      go_ret
      exact⟨HRET.out _ (by rw [<-HE.out]),HB1.out.trans (HB2.out.mono HB1.out.size)⟩
    ·have HE:Hid (pl (VK x (i:Int) m) (i:Int)=qQ x (i:Int) ((i:Int)+(m:Int))):=j0 (by
      have h:=HEND.out (by omega)
      rwa [rk_lt (by omega),if_neg hneg,if_pos (by omega)] at h)
     have HS0:Hid (VK x (i:Int) 0=sm):=j0 (by rw [hsm,rk2_zero]);clear hsm hsm0 HEND hneg
     go_wp2_with fail
     go_loopw [3,7] (fun sv iv wr=>∃j:Nat,j<=m/\iv=.int .i64 ((i:Int)+(j:Int))/\Hid (sv=.int .i64 (VK x (i:Int) j))/\wr=w2) (fun _ iv _=>i+m-(intOf iv).toNat)
     case atStart=>exact⟨0,by omega,by simp,j0 (by rw [HS0.out]),rfl⟩
     case round=>
      obtain⟨j,hj,rfl,HSV,hwr⟩:=hrel;rw [hwr] at*;obtain⟨sq,hsq⟩:∃q,q=VK x (i:Int) j:=⟨_,rfl⟩;have hsv:=HSV.out;rw [<-hsq] at hsv;subst hsv;have hsq0:sq<=top:=by rw [hsq];exact rk2_le _ _ _
      clear HSV
      by_cases hlt:j<m
      ·have HA1':=j0 (HA2.out w2);have HA2':=j0 (HAP.out sq (pl x 2) w2 hsq0 (Qs _ _));have HA3':=j0 (HA1.out (pl sq (pl x 2)) w2 (Qs _ _))
       by_cases hj0:j=0
       ·subst hj0;have HNX:Hid (pl sq (pl x 2)=VK x (i:Int) 1):=j0 (by rw [hsq];exact rk2_first HX.out (by omega));clear hsq hsq0
        go_wp2_with fail
        refine HA1'.out.mono ?_;rintro e w3 ⟨rfl,hw3⟩;obtain rfl:=hw3
        go_wp2_with fail
        refine HA2'.out.mono ?_;rintro e w3 ⟨rfl,hw3⟩;obtain rfl:=hw3
        go_wp2_with fail
        go_roundw
        case rel=>exact⟨1,by omega,by first|go_num|(simp;go_num),j0 (by rw [HNX.out]),by first|rfl|trivial⟩
        case measure=>simp [intOf];omega
       ·obtain⟨jj,rfl⟩:∃jj,j=jj+1:=⟨j-1,by omega⟩;have HNX:Hid (pl (pl sq (pl x 2)) 1=VK x (i:Int) (jj+2)):=j0 (by rw [hsq];exact rk2_succ HX.out (by omega) jj);clear hsq hsq0
        go_wp2_with fail
        refine HA1'.out.mono ?_;rintro e w3 ⟨rfl,hw3⟩;obtain rfl:=hw3
        go_wp2_with fail
        refine HA2'.out.mono ?_;rintro e w3 ⟨rfl,hw3⟩;obtain rfl:=hw3
        go_wp2_with fail
        refine HA3'.out.mono ?_;rintro e w3 ⟨rfl,hw3⟩;obtain rfl:=hw3
        go_wp2_with fail
        go_roundw
        case rel=>exact⟨jj+2,by omega,by first|go_num|(simp;go_num),j0 (by rw [HNX.out]),by first|rfl|trivial⟩
        case measure=>simp [intOf];omega
      ·obtain rfl:j=m:=by omega
       have HE2:Hid (pl sq (i:Int)=qQ x (i:Int) ((i:Int)+(j:Int))):=j0 (by rw [hsq];exact HE.out);clear hsq
       go_wp2_with fail
       refine(HAP.out _ _ w2 hsq0 (by unfold top;omega)).mono ?_;rintro e w3 ⟨rfl,hw3⟩;obtain rfl:=hw3
       go_wp2_with fail
       go_ret
       exact⟨HRET.out _ (by rw [<-HE2.out]),HB1.out.trans (HB2.out.mono HB1.out.size)⟩
theorem rsz_any{t:Tr}(h:zu t):jc t<=1000000000->∀(A:Nat->Prop) (lv:Value) (w:World),kU w A t lv->
  Calls Tryz.prog 22 #[rnV t lv] w fun e w'=>e=.returned (.int .i64 (qt t))/\Below w.heap.size w w':=by
 have many:∀(k:Int) (l:List Tr) (a b:Nat),2<=k->k≠6->0<l.length->jz l<=1000000000->(∀u∈l,zu u)->(∀u∈l,jc u<=1000000000->∀(A:Nat->Prop) (lv:Value) (w:World),kU w A u lv->Calls Tryz.prog 22 #[rnV u lv] w fun e w'=>e=.returned (.int .i64 (qt u))/\Below w.heap.size w w')->
   ∀(A:Nat->Prop) (lv:Value) (w:World),kU w A (.mk k j7 0 0 false a b l) lv->Calls Tryz.prog 22 #[rnV (.mk k j7 0 0 false a b l) lv] w fun e w'=>e=.returned (.int .i64 (qt (.mk k j7 0 0 false a b l)))/\Below w.heap.size w w':=by
  intro k l a b hk hk6 hl hs hR ih A lv w ht;have hlen:=kZ l;rw [vr hk6 _ _ _ _ _ _ hl];refine rsz_many k hk hk6 j7 0 0 false a b l hl (by omega) (fun x hx=> ?_) A lv w ht (fun c i hc X B v h=>ih c (List.mem_of_getElem? hc) (by have:=jZ (List.mem_of_getElem? hc);omega) B v X h);obtain⟨u,hu,rfl⟩:=List.mem_map.1 hx;have h1:=xx (hR u hu);have h2:=xH u (by have:=jZ hu;omega);exact⟨by omega,h2.2⟩
 have sub:∀(k:Int) (s:W4) (lo hi:Int) (z:Bool) (a b:Nat) (l:List Tr),jc (.mk k s lo hi z a b l)<=1000000000->jz l<=1000000000:=fun k s lo hi z a b l h=>by
  rw [jc] at h;omega
 induction h with
 |empty a b=>exact fun _ A lv w ht=>X8 0 (by omega) j7 0 0 false a b [] A lv w ht
 |set s a b hs=>exact fun _ A lv w ht=>X8 1 (by omega) s 0 0 false a b [] A lv w ht
 |group k a b u hk hu ih=>
  exact fun hs=>many k [u] a b (by omega) (by omega) (by simp) (sub _ _ _ _ _ _ _ _ hs) (fun x hx=>by rw [List.mem_singleton.1 hx];exact hu) (fun x hx=>by rw [List.mem_singleton.1 hx];exact ih)
 |cat a b l hl hi h ih=>exact fun hs=>many 4 l a b (by omega) (by omega) (by omega) (sub _ _ _ _ _ _ _ _ hs) h ih
 |alt a b l hl hi h ih=>exact fun hs=>many 5 l a b (by omega) (by omega) (by omega) (sub _ _ _ _ _ _ _ _ hs) h ih
 |rep lo hi z a b u hc hu h ih=>
  intro hs A lv w ht;have hu1:=sub _ _ _ _ _ _ _ _ hs;have hus:jc u<=1000000000:=by have:=jZ (List.mem_singleton.2 rfl:u∈ [u]);omega
  have h1:=xx h;have h2:=xH u hus
  have e:qt (.mk 6 j7 lo hi z a b [u])=qQ (qt u) lo hi:=by
   rw [qt,xe];rfl
  rw [e];obtain⟨c1,c2,c3⟩:=zq.1 hc;refine rsz_rep j7 lo hi ⟨c1,by omega⟩ ?_ z a b u ⟨by omega,h2.2⟩ A lv w ht (fun X B v h=>ih hus B v X h);unfold qM at c2 c3
  split at c2<;>omega
end
end Go.Proofs.YtnmalggmbeipaaaGreatDoor
