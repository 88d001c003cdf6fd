/- A part of the proof. -/
import Derived.WalkKit
import Derived.Test.YtnmalggmbeipaaaGreatDoorRows
import Derived.ProofKit
import Derived.OpenShut
import Derived.ShutString
import Derived.ChangeOld
import Derived.Below
import Derived.Lib.SmallJoins
import Derived.WalkSpells
import Derived.WalkLawsBesides
import Derived.LoopN
import Derived.RegionTactic
import Derived.BigRegion
import Derived.BigQuiet
import Derived.Deep.QuietTactic
import Derived.Deep.RegionHeld3
import Derived.Deep.DrawnRows
import Derived.Laws.ShiftsVarLaws
import Derived.KernelRfl
import Derived.LoopTactic
set_option maxRecDepth 100000
set_option maxHeartbeats 16000000
namespace Go.Proofs.YtnmalggmbeipaaaGreatDoor
theorem jC{w:Go.World}{g:Nat}{cs:Array Go.Value}{t:Go.TypeId}{fr:Nat×Nat}(h:w.heap[g]? =some (Go.Obj.cells cs t fr))(i:Nat):w.cell? {block:=g, off:=i}=cs[i]? :=Go.Joins.cell_of_block h i
theorem jU{w:Go.World}{g:Nat}{cs:Array Go.Value}{t:Go.TypeId}(h:w.heap[g]? =some (Go.Obj.cells cs t))(i:Nat):w.frozen? {block:=g, off:=i}=false:=Go.Joins.unfrozen_of_block h i
theorem jS{w:Go.World}{g:Nat}{o:Go.Obj}(h:w.heap[g]? =some o):g<w.heap.size:=(Array.getElem?_eq_some_iff.1 h).1
theorem jF{p:Prop}[inst:Decidable p](h:¬p):decide p=false:=decide_eq_false h
theorem jT{p:Prop}[inst:Decidable p](h:p):decide p=true:=decide_eq_true h
theorem jN(n:Nat):n ≤ n:=Nat.le_refl n
section
open Go Go.RowKit
def nt(a:Int):Int:=bits .xor .u64 IntKind.u64.max a
def an(a b:Int):Int:=bits .and .u64 a b
def qh(a b:Int):Int:=bits .or .u64 a b
def fo(b:Int):Int:=bits .or .u64 b (bits .or .u64 (IntKind.u64.wrap (bits .and .u64 b 134217726*4294967296)) (bits .and .u64 (b/4294967296) 134217726))
def Fit(a:Int):Prop:=0<=a/\a<18446744073709551616
def V(a:Int):BitVec 64:=BitVec.ofInt 64 a
theorem V_nat(x:BitVec 64):V (x.toNat:Int)=x:=by
 unfold V;rw [BitVec.ofInt_natCast];simp
theorem Vu(x:BitVec 64):Fit (x.toNat:Int):=by
 have:=x.isLt;unfold Fit;omega
theorem VF{a:Int}(h:Fit a):((V a).toNat:Int)=a:=by
 obtain⟨h0,h1⟩:=h;unfold V;rw [BitVec.toNat_ofInt];omega
theorem V_inj{a b:Int}(ha:Fit a)(hb:Fit b)(h:V a=V b):a=b:=by
 rw [<-VF ha,<-VF hb,h]
theorem Q8(x:BitVec 64):IntKind.u64.wrap (x.toNat:Int)=(x.toNat:Int):=by
 rw [IntKind.wrap_u64];have:=x.isLt;omega
theorem an_eq(a b:Int):an a b=((V a &&& V b).toNat:Int):=Q8 _
theorem orr_eq(a b:Int):qh a b=((V a|||V b).toNat:Int):=Q8 _
theorem nt_eq(a:Int):nt a=((~~~ V a).toNat:Int):=by
 show IntKind.u64.wrap ((BitVec.ofInt 64 IntKind.u64.max ^^^ V a).toNat:Int)=_
 rw [Q8];have e:BitVec.ofInt 64 IntKind.u64.max=BitVec.allOnes 64:=by decide
 rw [e,BitVec.allOnes_xor]
theorem vK(a b:Int):Fit (an a b):=by rw [an_eq];exact Vu _
theorem orr_fit(a b:Int):Fit (qh a b):=by rw [orr_eq];exact Vu _
theorem zh(a:Int):Fit (nt a):=by rw [nt_eq];exact Vu _
theorem V_an(a b:Int):V (an a b)=V a &&& V b:=by rw [an_eq,V_nat]
theorem V_orr(a b:Int):V (qh a b)=V a|||V b:=by rw [orr_eq,V_nat]
theorem V_nt(a:Int):V (nt a)= ~~~ V a:=by rw [nt_eq,V_nat]
open Go.ChangeShapes Go.WideShapes Go.ChangeAt Go.RowKit
theorem own:ownKnob Tryz.prog.godebug=none:=by kernel_rfl
theorem ZN:laidOutB Tryz.prog=true:=by kernel_rfl
theorem VP{H:Type}{enc:TypeId×Value->H}{W:World}{t:TypeId}{v:Value}{d:DataW H}{p:List MemPlace}(k:DataW.Trod enc Tryz.prog W 0 (fun _=>true) true t v d p):∀x∈p,x.block<W.heap.size:=by
 obtain⟨m,hm⟩:=k;exact DataW.trod_lt m _ _ _ hm
attribute [local go_sem ↓] Go.wp_at_zero Go.wp_at_succ
theorem JC{W w1:World}(hb:Below W.heap.size W w1):(∀b o,b<W.heap.size->w1.cell? ⟨b,o,none⟩=W.cell? ⟨b,o,none⟩)/\(∀b o,b<W.heap.size->w1.frozen? ⟨b,o,none⟩=W.frozen? ⟨b,o,none⟩)/\W.heap.size<=w1.heap.size:=
 ⟨fun b o h=>hb.cell (p:=⟨b,o,none⟩) h,fun b o h=>hb.frozen (p:=⟨b,o,none⟩) h,hb.size⟩
theorem j3(w:World)(a:Obj):Below w.heap.size w (w.alloc a):=(Below.refl _ _).alloc (Nat.le_refl _) _
theorem kw(w:World)(a b:Obj):Below w.heap.size w ((w.alloc a).alloc b):=(j3 w a).alloc (by simp) _
theorem VE(w:World)(a b c:Obj):Below w.heap.size w (((w.alloc a).alloc b).alloc c):=(kw w a b).alloc (by simp;omega) _
theorem below4(w:World)(a b c d:Obj):Below w.heap.size w ((((w.alloc a).alloc b).alloc c).alloc d):=(VE w a b c).alloc (by simp;omega) _
theorem qG{B:Nat}{W X Y:World}(h:Below B W X)(hb:Below X.heap.size X Y)(hB:B<=X.heap.size):Below B W Y:=h.trans (hb.mono hB)
theorem kD{B:Nat}{W X:World}(h:Below B W X){b:Nat}(hB:B<=b)(v0 v1 v2 v3:Value):Below B W ((((X.setCell ⟨b,0,none⟩ v0).setCell ⟨b,1,none⟩ v1).setCell ⟨b,2,none⟩ v2).setCell ⟨b,3,none⟩ v3):=
 (((h.setCell hB v0).setCell hB v1).setCell hB v2).setCell hB v3
theorem size_drew(w:World):w.drew.heap.size=w.heap.size:=rfl
theorem Jt(a b c d:Int)(w:World):
  Calls Tryz.prog 126 #[.agg #[.int .u64 a,.int .u64 b,.int .u64 c,.int .u64 d]] w fun e w'=>e=.returned (.agg #[.int .u64 (nt a),.int .u64 (nt b),.int .u64 (nt c),.int .u64 (nt d)])/\Below w.heap.size w w':=by
 go_enter Tryz.func126,Tryz.ntmps126
 go_wp2
 refine wp_loop_rounds 5 ?_;rw [rounds_succ];go_wp2;rw [rounds_succ];go_wp2;rw [rounds_succ];go_wp2;rw [rounds_succ];go_wp2;rw [rounds_succ];go_wp2;exact bodyPost_ret (v:=.agg #[.int .u64 (nt a),.int .u64 (nt b),.int .u64 (nt c),.int .u64 (nt d)]) (by simp [results,Tryz.results126,go_sem,nt]) rfl ⟨rfl,kw _ _ _⟩
theorem fold_any(a b c d:Int)(w:World):
  Calls Tryz.prog 268 #[.agg #[.int .u64 a,.int .u64 b,.int .u64 c,.int .u64 d]] w fun e w'=>e=.returned (.agg #[.int .u64 a,.int .u64 (fo b),.int .u64 c,.int .u64 d])/\Below w.heap.size w w':=by
 go_enter Tryz.func268,Tryz.ntmps268
 go_wp2
 exact bodyPost_ret (v:=.agg #[.int .u64 a,.int .u64 (fo b),.int .u64 c,.int .u64 d]) (by simp [results,Tryz.results268,go_sem,fo]) rfl ⟨rfl,kw _ _ _⟩
theorem meet_any(a b c d x y z u:Int)(w:World):
  Calls Tryz.prog 238 #[.agg #[.int .u64 a,.int .u64 b,.int .u64 c,.int .u64 d],.agg #[.int .u64 x,.int .u64 y,.int .u64 z,.int .u64 u]] w fun e w'=>e=.returned (.agg #[.int .u64 (an a x),.int .u64 (an b y),.int .u64 (an c z),.int .u64 (an d u)])/\Below w.heap.size w w':=by
 go_enter Tryz.func238,Tryz.ntmps238
 go_wp2
 refine wp_loop_rounds 5 ?_;rw [rounds_succ];go_wp2
 go_region
 go_wp2
 rw [rounds_succ];go_wp2
 go_region
 go_wp2
 rw [rounds_succ];go_wp2
 go_region
 go_wp2
 rw [rounds_succ];go_wp2
 go_region
 go_wp2
 rw [rounds_succ];go_wp2;exact bodyPost_ret (v:=.agg #[.int .u64 (an a x),.int .u64 (an b y),.int .u64 (an c z),.int .u64 (an d u)]) (by simp [results,Tryz.results238,go_sem,an]) rfl ⟨rfl,(VE _ _ _ _).drew.drew.drew.drew⟩
theorem Up(a b c d x y z u:Int)(w:World):
  Calls Tryz.prog 215 #[.agg #[.int .u64 a,.int .u64 b,.int .u64 c,.int .u64 d],.agg #[.int .u64 x,.int .u64 y,.int .u64 z,.int .u64 u]] w fun e w'=>e=.returned (.agg #[.int .u64 (an a (nt x)),.int .u64 (an b (nt y)),.int .u64 (an c (nt z)),.int .u64 (an d (nt u))])/\Below w.heap.size w w':=by
 go_enter Tryz.func215,Tryz.ntmps215
 go_wp2_with fail
 have l0:w.heap.size<w.heap.size+1+1+1:=by omega
 have n0:¬w.heap.size=w.heap.size+1+1:=by omega
 have n1:¬w.heap.size+1+1=w.heap.size:=by omega
 go_region_held3 (fun w'=>w'.cell? ⟨w.heap.size,0,none⟩=some (.int .u64 a)/\w'.cell? ⟨w.heap.size,1,none⟩=some (.int .u64 b)/\w'.cell? ⟨w.heap.size,2,none⟩=some (.int .u64 c)/\w'.cell? ⟨w.heap.size,3,none⟩=some (.int .u64 d)
  /\w'.cell? ⟨w.heap.size+1,0,none⟩=some (.int .u64 x)/\w'.cell? ⟨w.heap.size+1,1,none⟩=some (.int .u64 y)/\w'.cell? ⟨w.heap.size+1,2,none⟩=some (.int .u64 z)/\w'.cell? ⟨w.heap.size+1,3,none⟩=some (.int .u64 u)) (go_keep)
  (first
   |(go_at_call 126;refine(Jt _ _ _ _ _).mono ?_;rintro e w1 ⟨rfl,hb1⟩;obtain⟨hc1,hf1,hz1⟩:=JC hb1;(try simp at hz1);have l1:w.heap.size<w1.heap.size:=(by omega);have l2:w.heap.size+1<w1.heap.size:=(by omega);have l3:w.heap.size+1+1<w1.heap.size:=(by omega))
   |(go_at_call 238;refine(meet_any _ _ _ _ _ _ _ _ _).mono ?_;rintro e w2 ⟨rfl,hb2⟩;obtain⟨hc2,hf2,hz2⟩:=JC hb2;have l4:w.heap.size+1+1<w2.heap.size:=(by omega)))
 go_wp2
 refine bodyPost_ret (v:=.agg #[.int .u64 (an a (nt x)),.int .u64 (an b (nt y)),.int .u64 (an c (nt z)),.int .u64 (an d (nt u))]) (by simp [results,Tryz.results215,go_sem,hc1,hc2,l3]) rfl ⟨rfl,?_⟩;exact kD (qG (qG (VE _ _ _ _).drew hb1 (by rw [size_drew];simp;omega)) hb2 (by omega)) (by omega) _ _ _ _
namespace Pop
def g1(c:Nat):Nat:=(c/2 &&& 0x55)+(c &&& 0x55)
def g2(c:Nat):Nat:=(c/4 &&& 0x33)+(c &&& 0x33)
def g3(c:Nat):Nat:=(c/16+c) &&& 0x0f
def val:List Nat->Nat
 | []=>0
 |c::r=>c+256*val r
def mk(m:Nat):Nat->Nat
 |0=>0
 |n+1=>m+256*mk m n
theorem xX(a b m n:Nat)(hb:b<256)(hn:n<256):(b+256*a) &&& (n+256*m)=(b &&& n)+256*(a &&& m):=by
 have h1:((b+256*a) &&& (n+256*m)) % 2 ^ 8=(b &&& n):=by
  rw [Nat.and_mod_two_pow];congr 1<;>omega
 have h2:((b+256*a) &&& (n+256*m))/2 ^ 8=(a &&& m):=by
  rw [Nat.and_div_two_pow];congr 1<;>omega
 omega
theorem low1:∀(b:Fin 256) (k:Fin 2),(128*k.val+b.val/2) &&& 0x55=(b.val/2 &&& 0x55):=by decide+kernel
theorem low2:∀(b:Fin 256) (k:Fin 4),(64*k.val+b.val/4) &&& 0x33=(b.val/4 &&& 0x33):=by decide+kernel
theorem low3:∀(b:Fin 120) (k:Fin 8),(16*k.val+(b.val/16+b.val)) &&& 0x0f=((b.val/16+b.val) &&& 0x0f):=by decide+kernel
theorem f1:∀(cs:List Nat),(∀c∈cs,c<256)->(val cs/2 &&& mk 0x55 cs.length)+(val cs &&& mk 0x55 cs.length)=val (cs.map g1)
 | [],_=>by simp [val,mk]
 |c::r,h=>by
  have hc:c<256:=h c (by simp);have ih:=f1 r (fun x hx=>h x (by simp [hx]));simp only [val,mk,List.length_cons,List.map_cons];have e:(c+256*val r)/2=(128*(val r % 2)+c/2)+256*(val r/2):=by omega
  rw [e,xX _ _ _ _ (by omega) (by omega),xX _ _ _ _ hc (by omega)];have l:=low1 ⟨c,hc⟩ ⟨val r % 2,by omega⟩;simp only at l;rw [l,<-ih];unfold g1;omega
theorem f2:∀(cs:List Nat),(∀c∈cs,c<256)->(val cs/4 &&& mk 0x33 cs.length)+(val cs &&& mk 0x33 cs.length)=val (cs.map g2)
 | [],_=>by simp [val,mk]
 |c::r,h=>by
  have hc:c<256:=h c (by simp);have ih:=f2 r (fun x hx=>h x (by simp [hx]));simp only [val,mk,List.length_cons,List.map_cons];have e:(c+256*val r)/4=(64*(val r % 4)+c/4)+256*(val r/4):=by omega
  rw [e,xX _ _ _ _ (by omega) (by omega),xX _ _ _ _ hc (by omega)];have l:=low2 ⟨c,hc⟩ ⟨val r % 4,by omega⟩;simp only at l;rw [l,<-ih];unfold g2;omega
theorem f3:∀(cs:List Nat),(∀c∈cs,c<120/\c % 16<8)->((val cs/16+val cs) &&& mk 0x0f cs.length)=val (cs.map g3)/\val cs % 16<8
 | [],_=>by simp [val,mk]
 |c::r,h=>by
  have hc:=h c (by simp);obtain⟨ih,i2⟩:=f3 r (fun x hx=>h x (by simp [hx]));simp only [val,mk,List.length_cons,List.map_cons];have e:(c+256*val r)/16+(c+256*val r)=(16*(val r % 16)+(c/16+c))+256*(val r/16+val r):=by omega
  rw [e,xX _ _ _ _ (by omega) (by omega)];have l:=low3 ⟨c,hc.1⟩ ⟨val r % 16,by omega⟩;simp only at l;rw [l,ih];refine⟨by unfold g3;rfl,by omega⟩
def Jn(c:Nat):Nat:=c % 2+c/2 % 2+c/4 % 2+c/8 % 2+c/16 % 2+c/32 % 2+c/64 % 2+c/128 % 2
theorem g_pop:∀c:Fin 256,g3 (g2 (g1 c.val))=Jn c.val/\g2 (g1 c.val)<120/\g2 (g1 c.val) % 16<8/\g1 c.val<256:=by decide+kernel
def bitsum:Nat->Nat->Nat
 |0,_=>0
 |n+1,x=>x % 2+bitsum n (x/2)
theorem bitsum_le:∀n x,bitsum n x<=n
 |0,_=>Nat.le_refl _
 |n+1,x=>by have:=bitsum_le n (x/2);simp only [bitsum];omega
theorem xG(n x:Nat):bitsum (n+8) x=Jn (x % 256)+bitsum n (x/256):=by
 simp only [bitsum,Nat.div_div_eq_div_mul,Nat.reduceMul];unfold Jn;omega
def y1(x:Nat):Nat:=(x/2 &&& 6148914691236517205)+(x &&& 6148914691236517205)
def y2(x:Nat):Nat:=(x/4 &&& 3689348814741910323)+(x &&& 3689348814741910323)
def y3(x:Nat):Nat:=(x/16+x) &&& 1085102592571150095
theorem mk0:mk 0x55 8=6148914691236517205:=by decide
theorem mk1:mk 0x33 8=3689348814741910323:=by decide
theorem mk2:mk 0x0f 8=1085102592571150095:=by decide
theorem Zg(x:Nat)(h:x<18446744073709551616):∃c0 c1 c2 c3 c4 c5 c6 c7,(∀c∈ [c0,c1,c2,c3,c4,c5,c6,c7],c<256)/\x=val [c0,c1,c2,c3,c4,c5,c6,c7]/\
  bitsum 64 x=Jn c0+Jn c1+Jn c2+Jn c3+Jn c4+Jn c5+Jn c6+Jn c7:=by
 refine⟨x % 256,x/256 % 256,x/256/256 % 256,x/256/256/256 % 256,x/256/256/256/256 % 256,x/256/256/256/256/256 % 256,x/256/256/256/256/256/256 % 256,x/256/256/256/256/256/256/256 % 256,?_,?_,?_⟩
 ·intro c hc;simp only [List.mem_cons,List.not_mem_nil,or_false] at hc;omega
 ·simp only [val];omega
 ·rw [xG 56,xG 48,xG 40,xG 32,xG 24,xG 16,xG 8,xG 0];simp only [bitsum];omega
theorem xA(c:Nat):Jn c<=8:=by unfold Jn;omega
theorem J8(d r:Nat)(h:d<256):(d+256*r)/256=r:=by omega
theorem qP(d e r s:Nat):(d+256*r)+(e+256*s)=(d+e)+256*(r+s):=by omega
theorem mod128(d r:Nat)(h:d<128):(d+256*r) % 128=d:=by omega
theorem JY(d r n:Nat)(h:d<256)(hr:r<n):d+256*r<256*n:=by omega
theorem tail_sum(d0 d1 d2 d3 d4 d5 d6 d7 y:Nat)(h0:d0<=8)(h1:d1<=8)(h2:d2<=8)(h3:d3<=8)(h4:d4<=8)(h5:d5<=8)(h6:d6<=8)(h7:d7<=8)(hy:y=val [d0,d1,d2,d3,d4,d5,d6,d7]):
  ∃a b c,a=y+y/256/\b=a+a/65536/\c=b+b/4294967296/\c % 128=d0+d1+d2+d3+d4+d5+d6+d7/\c<4611686018427387904:=by
 simp only [val,Nat.mul_zero,Nat.add_zero] at hy;refine⟨_,_,_,rfl,rfl,rfl,?_⟩;have e1:y/256=d1+256*(d2+256*(d3+256*(d4+256*(d5+256*(d6+256*d7))))):=by rw [hy,J8 _ _ (by clear hy;omega)]
 have ea:y+y/256=(d0+d1)+256*((d1+d2)+256*((d2+d3)+256*((d3+d4)+256*((d4+d5)+256*((d5+d6)+256*(d6+d7+256*d7)))))):=by
  rw [e1,hy];have last:d6+256*d7+d7=d6+d7+256*d7:=by clear hy e1;omega
  rw [qP,qP,qP,qP,qP,qP,last]
 clear e1;generalize y+y/256=a at*;clear hy
 have eb:a/65536=(d2+d3)+256*((d3+d4)+256*((d4+d5)+256*((d5+d6)+256*(d6+d7+256*d7)))):=by
  rw [show a/65536=a/256/256 from by rw [Nat.div_div_eq_div_mul],ea,J8 _ _ (by clear ea;omega),J8 _ _ (by clear ea;omega)]
 have ec:a+a/65536=(d0+d1+(d2+d3))+256*((d1+d2+(d3+d4))+256*((d2+d3+(d4+d5))+256*((d3+d4+(d5+d6))+256*((d4+d5+(d6+d7))+256*(d5+d6+d7+256*(d6+d7+256*d7)))))):=by
  rw [eb,ea];have last:d5+d6+256*(d6+d7+256*d7)+d7=d5+d6+d7+256*(d6+d7+256*d7):=by clear eb ea;omega
  rw [qP,qP,qP,qP,qP,last]
 clear eb ea;generalize a+a/65536=b at*
 have ed:b/4294967296=(d4+d5+(d6+d7))+256*(d5+d6+d7+256*(d6+d7+256*d7)):=by
  rw [show b/4294967296=b/256/256/256/256 from by rw [Nat.div_div_eq_div_mul,Nat.div_div_eq_div_mul,Nat.div_div_eq_div_mul],ec,J8 _ _ (by clear ec;omega),J8 _ _ (by clear ec;omega),J8 _ _ (by clear ec;omega),J8 _ _ (by clear ec;omega)]
 have ee:b+b/4294967296=(d0+d1+(d2+d3)+(d4+d5+(d6+d7)))+256*((d1+d2+(d3+d4)+(d5+d6+d7))+256*((d2+d3+(d4+d5)+(d6+d7))+256*((d3+d4+(d5+d6)+d7)+256*((d4+d5+(d6+d7))+256*(d5+d6+d7+256*(d6+d7+256*d7)))))):=by
  rw [ed,ec];have last:d3+d4+(d5+d6)+256*(d4+d5+(d6+d7)+256*(d5+d6+d7+256*(d6+d7+256*d7)))+d7=d3+d4+(d5+d6)+d7+256*(d4+d5+(d6+d7)+256*(d5+d6+d7+256*(d6+d7+256*d7))):=by clear ed ec;omega
  rw [qP,qP,qP,last]
 clear ed ec;rw [ee];clear ee
 constructor
 ·rw [mod128 _ _ (by omega)];omega
 ·have v0:d6+d7+256*d7<65536/16:=by omega
  have v1:=JY (d5+d6+d7) _ _ (by omega) v0;have v2:=JY (d4+d5+(d6+d7)) _ _ (by omega) v1;have v3:=JY (d3+d4+(d5+d6)+d7) _ _ (by omega) v2;have v4:=JY (d2+d3+(d4+d5)+(d6+d7)) _ _ (by omega) v3;have v5:=JY (d1+d2+(d3+d4)+(d5+d6+d7)) _ _ (by omega) v4;have v6:=JY (d0+d1+(d2+d3)+(d4+d5+(d6+d7))) _ _ (by omega) v5;exact Nat.lt_of_lt_of_le v6 (by decide)
theorem swar(x:Nat)(h:x<18446744073709551616):∃y a b c,y=y3 (y2 (y1 x))/\a=y+y/256/\b=a+a/65536/\c=b+b/4294967296/\c % 128=bitsum 64 x/\c<4611686018427387904:=by
 obtain⟨c0,c1,c2,c3,c4,c5,c6,c7,hc,hx,hb⟩:=Zg x h
 have e1:y1 x=val ([c0,c1,c2,c3,c4,c5,c6,c7].map g1):=by
  rw [hx];have:=f1 _ hc;rw [<-this];unfold y1;simp only [List.length_cons,List.length_nil,Nat.zero_add,Nat.reduceAdd,mk0]
 have e2:y2 (y1 x)=val (([c0,c1,c2,c3,c4,c5,c6,c7].map g1).map g2):=by
  rw [e1]
  have:=f2 ([c0,c1,c2,c3,c4,c5,c6,c7].map g1) (by
   intro c hc';obtain⟨d,hd,rfl⟩:=List.mem_map.1 hc'
   exact(g_pop ⟨d,hc d hd⟩).2.2.2)
  rw [<-this];unfold y2;simp only [List.map_cons,List.map_nil,List.length_cons,List.length_nil,Nat.zero_add,Nat.reduceAdd,mk1]
 have e3:y3 (y2 (y1 x))=val ((([c0,c1,c2,c3,c4,c5,c6,c7].map g1).map g2).map g3):=by
  rw [e2]
  have:=(f3 (([c0,c1,c2,c3,c4,c5,c6,c7].map g1).map g2) (by
   intro c hc';obtain⟨d',hd',rfl⟩:=List.mem_map.1 hc';obtain⟨d,hd,rfl⟩:=List.mem_map.1 hd';have:=g_pop ⟨d,hc d hd⟩
   exact⟨this.2.1,this.2.2.1⟩)).1
  rw [<-this];unfold y3;simp only [List.map_cons,List.map_nil,List.length_cons,List.length_nil,Nat.zero_add,Nat.reduceAdd,mk2]
 have gp:∀c∈ [c0,c1,c2,c3,c4,c5,c6,c7],g3 (g2 (g1 c))=Jn c:=fun c h'=>(g_pop ⟨c,hc c h'⟩).1
 simp only [List.map_cons,List.map_nil] at e3;rw [gp c0 (by simp),gp c1 (by simp),gp c2 (by simp),gp c3 (by simp),gp c4 (by simp),gp c5 (by simp),gp c6 (by simp),gp c7 (by simp)] at e3;obtain⟨a,b,c,ha,hb',hc',hs,hl⟩:=tail_sum _ _ _ _ _ _ _ _ _ (xA c0) (xA c1) (xA c2) (xA c3) (xA c4) (xA c5) (xA c6) (xA c7) e3;exact⟨_,a,b,c,rfl,ha,hb',hc',by rw [hs,hb],hl⟩
theorem and64_nat(a b:Nat)(ha:a<18446744073709551616)(hb:b<18446744073709551616):bits .and .u64 (a:Int) (b:Int)=((a &&& b:Nat):Int):=bits_and_u64_nat a b ha hb
theorem wrap64u(n:Nat)(h:n<18446744073709551616):IntKind.u64.wrap (n:Int)=(n:Int):=by rw [IntKind.wrap_u64];omega
def s1(x:Int):Int:=IntKind.u64.wrap (bits .and .u64 (x/2) 6148914691236517205+bits .and .u64 x 6148914691236517205)
def s2(x:Int):Int:=IntKind.u64.wrap (bits .and .u64 (x/4) 3689348814741910323+bits .and .u64 x 3689348814741910323)
def s3(x:Int):Int:=bits .and .u64 (IntKind.u64.wrap (x/16+x)) 1085102592571150095
def s4(x:Int):Int:=IntKind.u64.wrap (x+x/256)
def s5(x:Int):Int:=IntKind.u64.wrap (x+x/65536)
def s6(x:Int):Int:=IntKind.u64.wrap (x+x/4294967296)
theorem QQ(a b:Nat):a &&& b<=b:=Nat.and_le_right
theorem s1_nat(x:Nat)(h:x<18446744073709551616):s1 (x:Int)=(y1 x:Int)/\y1 x<=12297829382473034410:=by
 have h1:=QQ (x/2) 6148914691236517205;have h2:=QQ x 6148914691236517205;have hb:y1 x<=12297829382473034410:=by unfold y1;omega
 refine⟨?_,hb⟩
 have e1:bits .and .u64 ((x:Int)/2) 6148914691236517205=((x/2 &&& 6148914691236517205:Nat):Int):=by
  have:=and64_nat (x/2) 6148914691236517205 (by omega) (by omega);simpa using this
 have e2:bits .and .u64 (x:Int) 6148914691236517205=((x &&& 6148914691236517205:Nat):Int):=by
  have:=and64_nat x 6148914691236517205 (by omega) (by omega);simpa using this
 unfold s1;rw [e1,e2,<-Int.natCast_add];exact wrap64u (y1 x) (by omega)
theorem s2_nat(x:Nat)(h:x<18446744073709551616):s2 (x:Int)=(y2 x:Int)/\y2 x<=7378697629483820646:=by
 have h1:=QQ (x/4) 3689348814741910323;have h2:=QQ x 3689348814741910323;have hb:y2 x<=7378697629483820646:=by unfold y2;omega
 refine⟨?_,hb⟩
 have e1:bits .and .u64 ((x:Int)/4) 3689348814741910323=((x/4 &&& 3689348814741910323:Nat):Int):=by
  have:=and64_nat (x/4) 3689348814741910323 (by omega) (by omega);simpa using this
 have e2:bits .and .u64 (x:Int) 3689348814741910323=((x &&& 3689348814741910323:Nat):Int):=by
  have:=and64_nat x 3689348814741910323 (by omega) (by omega);simpa using this
 unfold s2;rw [e1,e2,<-Int.natCast_add];exact wrap64u (y2 x) (by omega)
theorem s3_nat(x:Nat)(h:x<=7378697629483820646):s3 (x:Int)=(y3 x:Int)/\y3 x<=1085102592571150095:=by
 refine⟨?_,QQ _ _⟩
 have e1:IntKind.u64.wrap ((x:Int)/16+(x:Int))=((x/16+x:Nat):Int):=by
  have:=wrap64u (x/16+x) (by omega);simpa using this
 unfold s3;rw [e1];exact and64_nat (x/16+x) 1085102592571150095 (by omega) (by omega)
theorem s4_nat(y a:Nat)(h:a=y+y/256)(hl:a<4611686018427387904):s4 (y:Int)=(a:Int):=by
 have:=wrap64u a (by omega);unfold s4;rw [show(y:Int)+(y:Int)/256=(a:Int) by omega];exact this
theorem s5_nat(y a:Nat)(h:a=y+y/65536)(hl:a<4611686018427387904):s5 (y:Int)=(a:Int):=by
 have:=wrap64u a (by omega);unfold s5;rw [show(y:Int)+(y:Int)/65536=(a:Int) by omega];exact this
theorem s6_nat(y a:Nat)(h:a=y+y/4294967296)(hl:a<4611686018427387904):s6 (y:Int)=(a:Int):=by
 have:=wrap64u a (by omega);unfold s6;rw [show(y:Int)+(y:Int)/4294967296=(a:Int) by omega];exact this
theorem low7(c:Nat)(hl:c<4611686018427387904):bits .and .i64 (wrap64 (c:Int)) 127=((c % 128:Nat):Int):=by
 have qw:wrap64 (c:Int)=(c:Int):=by
  unfold wrap64;omega
 rw [qw];have hk:∀n:Int,0<=n->n<2 ^ 63->IntKind.i64.wrap n=n:=by intro n h₀ h₁;rw [IntKind.wrap_i64];omega
 have hm:=bits_mask .i64 63 (by decide) hk 7 (by decide) (c:Int) (by omega) (by omega);refine Eq.trans hm ?_;omega
theorem pw_eq(x:Int)(h0:0<=x)(h1:x<18446744073709551616):bits .and .i64 (wrap64 (s6 (s5 (s4 (s3 (s2 (s1 x))))))) 127=(bitsum 64 x.toNat:Int):=by
 obtain⟨X,rfl⟩:=Int.eq_ofNat_of_zero_le h0;have hX:X<18446744073709551616:=by omega
 obtain⟨y,a,b,c,hy,ha,hb,hc,hs,hl⟩:=swar X hX;obtain⟨q1,b1⟩:=s1_nat X hX;obtain⟨q2,b2⟩:=s2_nat (y1 X) (by omega);obtain⟨q3,b3⟩:=s3_nat (y2 (y1 X)) b2;rw [q1,q2,q3,<-hy];rw [<-hy] at b3;have lb:b<=c:=by rw [hc];exact Nat.le_add_right _ _
 have la:a<=b:=by rw [hb];exact Nat.le_add_right _ _
 rw [s4_nat y a ha (Nat.lt_of_le_of_lt (Nat.le_trans la lb) hl),s5_nat a b hb (Nat.lt_of_le_of_lt lb hl),s6_nat b c hc hl,low7 c hl,hs,Int.toNat_natCast]
end Pop
end
section
open Go Go.RowKit
attribute [local go_sem ↓] Go.wp_at_zero Go.wp_at_succ
theorem hid{p:Prop}(h:p):Hid p:=h
def hs(a k:Int):Bool:=bits .and .u64 (a/2 ^ (k % 64).toNat) 1==1
def hasW(a b c d k:Int):Bool:=if k/64=0 then hs a k else if k/64=1 then hs b k else if k/64=2 then hs c k else hs d k
theorem has_any(a b c d k:Int)(w:World)(h0:0<=k)(h1:k<=255):
  Calls Tryz.prog 161 #[.agg #[.int .u64 a,.int .u64 b,.int .u64 c,.int .u64 d],.int .u8 k] w fun e w'=>e=.returned (.bool (hasW a b c d k))/\Below w.heap.size w w':=by
 have hk:k/64=0\/k/64=1\/k/64=2\/k/64=3:=by omega
 rcases hk with hk|hk|hk|hk
 all_goals
  have hr:∀x,hasW a b c d k=x->Ending.returned (.bool x)=Ending.returned (.bool (hasW a b c d k)):=fun x h=>by rw [h]
  have HR:=hid hr;clear hr
  go_enter Tryz.func161,Tryz.ntmps161
  go_wp2
  go_ret
  exact⟨HR.out _ (by unfold hasW hs;simp [hk]),j3 _ _⟩
theorem ones_any(x:Int)(w:World)(h0:0<=x)(h1:x<18446744073709551616):
  Calls Tryz.prog 175 #[.int .u64 x] w fun e w'=>e=.returned (.int .i64 (Pop.bitsum 64 x.toNat:Int))/\w=w':=by
 have hp:=Pop.pw_eq x h0 h1;have HP:=hid hp;clear hp
 go_enter Tryz.func175,Tryz.ntmps175
 go_wp2
 go_ret
 refine⟨?_,rfl⟩;rw [<-HP.out];rfl
theorem pw_bd(x:Int):(0:Int)<=(Pop.bitsum 64 x.toNat:Int)/\(Pop.bitsum 64 x.toNat:Int)<=64:=by
 have:=Pop.bitsum_le 64 x.toNat;omega
def pw(x:Int):Int:=(Pop.bitsum 64 x.toNat:Int)
theorem Vb(x:Int):0<=pw x/\pw x<=64:=pw_bd x
theorem KZ(x:Int)(w:World)(h0:0<=x)(h1:x<18446744073709551616):
  Calls Tryz.prog 175 #[.int .u64 x] w fun e w'=>e=.returned (.int .i64 (pw x))/\w=w':=ones_any x w h0 h1
theorem count_any(a b c d:Int)(w:World)(ha:Fit a)(hb:Fit b)(hc:Fit c)(hd:Fit d):
  Calls Tryz.prog 128 #[.agg #[.int .u64 a,.int .u64 b,.int .u64 c,.int .u64 d]] w fun e w'=>e=.returned (.int .i64 (pw a+pw b+pw c+pw d))/\Below w.heap.size w w':=by
 obtain⟨a0,a1⟩:=ha;obtain⟨b0,b1⟩:=hb;obtain⟨c0,c1⟩:=hc;obtain⟨d0,d1⟩:=hd;obtain⟨pa,pa'⟩:=Vb a;obtain⟨pb,pb'⟩:=Vb b;obtain⟨pc,pc'⟩:=Vb c;obtain⟨pd,pd'⟩:=Vb d;have i0:∀w,(Instr.index 29 (.agg #[.int .u64 a,.int .u64 b,.int .u64 c,.int .u64 d]) (.int .i64 0)).run Tryz.prog w=.ok (.int .u64 a) w:=fun _=>by kernel_rfl
 have i1:∀w,(Instr.index 29 (.agg #[.int .u64 a,.int .u64 b,.int .u64 c,.int .u64 d]) (.int .i64 1)).run Tryz.prog w=.ok (.int .u64 b) w:=fun _=>by kernel_rfl
 have i2:∀w,(Instr.index 29 (.agg #[.int .u64 a,.int .u64 b,.int .u64 c,.int .u64 d]) (.int .i64 2)).run Tryz.prog w=.ok (.int .u64 c) w:=fun _=>by kernel_rfl
 have i3:∀w,(Instr.index 29 (.agg #[.int .u64 a,.int .u64 b,.int .u64 c,.int .u64 d]) (.int .i64 3)).run Tryz.prog w=.ok (.int .u64 d) w:=fun _=>by kernel_rfl
 go_enter Tryz.func128,Tryz.ntmps128
 go_wp2
 refine wp_loop_rounds 5 ?_;rw [rounds_succ]
 go_wp2_with (go_at_call 175;refine(KZ _ _ a0 a1).mono ?_;rintro e w' ⟨rfl,rfl⟩)
 rw [rounds_succ]
 go_wp2_with (go_at_call 175;refine(KZ _ _ b0 b1).mono ?_;rintro e w' ⟨rfl,rfl⟩)
 rw [rounds_succ]
 go_wp2_with (go_at_call 175;refine(KZ _ _ c0 c1).mono ?_;rintro e w' ⟨rfl,rfl⟩)
 rw [rounds_succ]
 go_wp2_with (go_at_call 175;refine(KZ _ _ d0 d1).mono ?_;rintro e w' ⟨rfl,rfl⟩)
 rw [rounds_succ]
 go_wp2
 go_ret
 exact⟨rfl,j3 _ _⟩
theorem all_any(w:World):
  Calls Tryz.prog 152 #[] w fun e w'=>e=.returned (.agg #[.int .u64 (nt 0),.int .u64 (nt 0),.int .u64 (nt 0),.int .u64 (nt 0)])/\Below w.heap.size w w':=by
 go_enter Tryz.func152,Tryz.ntmps152
 go_wp2_with (go_at_call 126;refine(Jt _ _ _ _ _).mono ?_;rintro e w1 ⟨rfl,hb1⟩;obtain⟨hc1,hf1,hz1⟩:=JC hb1;have l1:w.heap.size<w1.heap.size:=(by simp at hz1;omega))
 refine bodyPost_ret (v:=.agg #[.int .u64 (nt 0),.int .u64 (nt 0),.int .u64 (nt 0),.int .u64 (nt 0)]) (by simp [results,Tryz.results152,go_sem,hc1]) rfl ⟨rfl,?_⟩;exact kD (qG (j3 _ _) hb1 (by simp)) (Nat.le_refl _) _ _ _ _
theorem qX(a b c d x y z u:Int)(w:World):(Op.equalIn 10000 29 (.agg #[.int .u64 a,.int .u64 b,.int .u64 c,.int .u64 d]) (.agg #[.int .u64 x,.int .u64 y,.int .u64 z,.int .u64 u])).run Tryz.prog w=.ok (a==x && b==y && c==z && d==u) w:=by
 have u3:=Tryz.underlying27;have a3:=Tryz.isAgg27;have z3:=Tryz.sizeOf27;rw [show(10000:Nat)=9999+1 from rfl,Op.equalIn];simp only [Sem.run_bind,run_underlying Tryz.underlying29,Result.andThen_ok];simp only [Std.Legacy.Range.forIn_eq_forIn_range',Std.Legacy.Range.size,Nat.sub_zero,Nat.add_sub_cancel,Nat.div_one,List.range'_succ,List.range'_zero,List.forIn_cons,List.forIn_nil]
 go_simp
 by_cases h1:a=x<;>by_cases h2:b=y<;>by_cases h3:c=z<;>by_cases h4:d=u<;>simp [h1,h2,h3,h4]
attribute [local go_sem] qX
theorem union_two(g:Nat)(a b c d x y z u:Int)(w:World)(hg:g<w.heap.size)
  (q0:w.cell? ⟨g,0,none⟩=some (.int .u64 a)) (q1:w.cell? ⟨g,1,none⟩=some (.int .u64 b)) (q2:w.cell? ⟨g,2,none⟩=some (.int .u64 c)) (q3:w.cell? ⟨g,3,none⟩=some (.int .u64 d))
  (q4:w.cell? ⟨g,4,none⟩=some (.int .u64 x)) (q5:w.cell? ⟨g,5,none⟩=some (.int .u64 y)) (q6:w.cell? ⟨g,6,none⟩=some (.int .u64 z)) (q7:w.cell? ⟨g,7,none⟩=some (.int .u64 u)):
  Calls Tryz.prog 259 #[.slice (some ⟨g,0,none⟩) 2 2] w fun e w'=>e=.returned (.agg #[.int .u64 (qh (qh 0 a) x),.int .u64 (qh (qh 0 b) y),.int .u64 (qh (qh 0 c) z),.int .u64 (qh (qh 0 d) u)])/\Below w.heap.size w w':=by
 have n0:¬g=w.heap.size:=by omega
 have n1:¬g=w.heap.size+1:=by omega
 have n2:¬g=w.heap.size+1+1:=by omega
 have n3:¬g=w.heap.size+1+1+1:=by omega
 have m1:g<w.heap.size+1:=by omega
 have m2:g<w.heap.size+1+1:=by omega
 have m3:g<w.heap.size+1+1+1:=by omega
 go_enter Tryz.func259,Tryz.ntmps259
 go_wp2
 refine wp_loop_rounds 3 ?_;rw [rounds_succ]
 go_wp2
 refine wp_loop_rounds 5 ?_;rw [rounds_succ];go_wp2
 go_region
 go_wp2
 rw [rounds_succ];go_wp2
 go_region
 go_wp2
 rw [rounds_succ];go_wp2
 go_region
 go_wp2
 rw [rounds_succ];go_wp2
 go_region
 go_wp2
 rw [rounds_succ];go_wp2;rw [rounds_succ]
 go_wp2
 refine wp_loop_rounds 5 ?_;rw [rounds_succ];go_wp2
 go_region
 go_wp2
 rw [rounds_succ];go_wp2
 go_region
 go_wp2
 rw [rounds_succ];go_wp2
 go_region
 go_wp2
 rw [rounds_succ];go_wp2
 go_region
 go_wp2
 rw [rounds_succ];go_wp2;rw [rounds_succ]
 go_wp2
 refine bodyPost_ret (v:=.agg #[.int .u64 (qh (qh 0 a) x),.int .u64 (qh (qh 0 b) y),.int .u64 (qh (qh 0 c) z),.int .u64 (qh (qh 0 d) u)]) (by simp [results,Tryz.results259,go_sem,qh]) rfl ⟨rfl,?_⟩;exact(below4 _ _ _ _ _).drew.drew.drew.drew.drew.drew.drew.drew
theorem U9(a b c d x y z u:Int)(w:World):
  Calls Tryz.prog 259 #[.slice (some ⟨w.heap.size,0,none⟩) 2 2] (w.alloc (.cells #[.int .u64 a,.int .u64 b,.int .u64 c,.int .u64 d,.int .u64 x,.int .u64 y,.int .u64 z,.int .u64 u] 29)) fun e w'=>e=.returned (.agg #[.int .u64 (qh (qh 0 a) x),.int .u64 (qh (qh 0 b) y),.int .u64 (qh (qh 0 c) z),.int .u64 (qh (qh 0 d) u)])/\Below (w.alloc (.cells #[.int .u64 a,.int .u64 b,.int .u64 c,.int .u64 d,.int .u64 x,.int .u64 y,.int .u64 z,.int .u64 u] 29)).heap.size (w.alloc (.cells #[.int .u64 a,.int .u64 b,.int .u64 c,.int .u64 d,.int .u64 x,.int .u64 y,.int .u64 z,.int .u64 u] 29)) w':=
 union_two _ a b c d x y z u _ (by simp) (by simp) (by simp) (by simp) (by simp) (by simp) (by simp) (by simp) (by simp)
attribute [local go_sem] qX
def bitw(b:Int):Int:=IntKind.u64.wrap (2 ^ (b % 64).toNat)
def yN(l:Nat->Int):Nat->Int->Int
 |0,_=>0
 |n+1,k=>if l n/64=k then qh (yN l n k) (bitw (l n)) else yN l n k
theorem of_any(g o len cap:Nat)(l:Nat->Int)(w:World)(hg:g<w.heap.size)(hlen:len<=140737488351232)(hl0:∀j,0<=l j)(hl1:∀j,l j<=255)
  (hc:∀j,j<len->w.cell? ⟨g,o+j,none⟩=some (.int .u8 (l j))):
  Calls Tryz.prog 127 #[.slice (some ⟨g,o,none⟩) len cap] w fun e w'=>e=.returned (.agg #[.int .u64 (yN l len 0),.int .u64 (yN l len 1),.int .u64 (yN l len 2),.int .u64 (yN l len 3)])/\Below w.heap.size w w':=by
 have m1:g<w.heap.size+1:=by omega
 have m2:g<w.heap.size+1+1:=by omega
 go_enter Tryz.func127,Tryz.ntmps127
 go_wp2
 go_loopw [8] (fun i wr=>∃k:Nat,k<=len/\i=.int .i64 k/\wr=(w.alloc (.cells #[.int .u64 0,.int .u64 0,.int .u64 0,.int .u64 0] 29)).alloc (.cells #[.int .u64 (yN l k 0),.int .u64 (yN l k 1),.int .u64 (yN l k 2),.int .u64 (yN l k 3)] 29)) (fun i _=>len-(intOf i).toNat)
 case atStart=>exact⟨0,Nat.zero_le _,rfl,rfl⟩
 case round=>
  obtain⟨k,hk,rfl,rfl⟩:=hrel
  by_cases hlt:k<len
  ·have hcell:=hc k hlt;have b0:=hl0 k;have b1:=hl1 k;clear hc hl0 hl1;generalize hbe:l k=b at*;have HB:=hid hbe;clear hbe;have hq:b/64=0\/b/64=1\/b/64=2\/b/64=3:=by omega
   rcases hq with hq|hq|hq|hq
   all_goals
    go_wp2
    refine⟨⟨k+1,by omega,by simp,?_⟩,by simp [intOf];omega⟩;simp [yN,HB.out,hq,qh,bitw]
  ·have e:k=len:=by omega
   subst e;clear hc hl0 hl1
   go_wp2
   exact bodyPost_ret (v:=.agg #[.int .u64 (yN l k 0),.int .u64 (yN l k 1),.int .u64 (yN l k 2),.int .u64 (yN l k 3)]) (by simp [results,Tryz.results127,go_sem]) rfl ⟨rfl,kw _ _ _⟩
def two:Nat->Int:=fun j=>if j=0 then 97 else 49
def three:Nat->Int:=fun j=>if j=0 then 65 else if j=1 then 97 else 49
theorem fit0:Fit 0:=by unfold Fit;omega
theorem V0:V 0=0#64:=by decide
theorem QD(a k:Int)(ha:Fit a):hs a k=(V a).getLsbD (k % 64).toNat:=by
 unfold hs;obtain⟨A,rfl⟩:=Int.eq_ofNat_of_zero_le ha.1;have hA:A<18446744073709551616:=by have:=ha.2;omega
 generalize (k % 64).toNat=n;have e:((A:Int)/2 ^ n)=((A/2 ^ n:Nat):Int):=by simp
 have hd:A/2 ^ n<18446744073709551616:=Nat.lt_of_le_of_lt (Nat.div_le_self _ _) hA;have e2:bits .and .u64 ((A/2 ^ n:Nat):Int) 1=((A/2 ^ n &&& 1:Nat):Int):=Pop.and64_nat _ 1 hd (by omega);rw [e,e2]
 have e3:(V (A:Int)).getLsbD n=A.testBit n:=by
  unfold V;rw [BitVec.ofInt_natCast,BitVec.getLsbD_ofNat]
  by_cases h:n<64
  ·simp [h]
  ·simp only [h,decide_false,Bool.false_and];symm;exact Nat.testBit_lt_two_pow (Nat.lt_of_lt_of_le (show A<2 ^ 64 by omega) (Nat.pow_le_pow_right (by decide) (by omega)))
 rw [e3,Nat.testBit_eq_decide_div_mod_eq,Nat.and_one_is_mod]
 by_cases h:A/2 ^ n % 2=1
 ·simp [h]
 ·have:A/2 ^ n % 2=0:=by omega
  simp [this]
end
end Go.Proofs.YtnmalggmbeipaaaGreatDoor
