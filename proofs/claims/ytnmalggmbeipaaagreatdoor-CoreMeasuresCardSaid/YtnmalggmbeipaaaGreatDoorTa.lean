/- A part of the proof. -/
import Derived.Test.YtnmalggmbeipaaaGreatDoorSa
import Derived.Test.YtnmalggmbeipaaaGreatDoorRa
import Derived.LoopTactic
import Derived.DeepKeys4
import Derived.Maps.Own
import Derived.Maps.OwnOps
import Derived.Maps.OwnSet
import Derived.Maps.Views
import Derived.Test.YtnmalggmbeipaaaGreatDoorRegion
import Derived.Laws.Externs
import Derived.Deep.QuietTactic
import Derived.BigQuiet
import Derived.Deep.LoopGhost
set_option maxRecDepth 100000
set_option maxHeartbeats 16000000
namespace Go.Proofs.YtnmalggmbeipaaaGreatDoor
section
section
structure Sorts(E:Nat->Nat->Bool):Prop where
 refl:∀a,E a a=true
 symm:∀a b,E a b=true->E b a=true
 trans:∀a b c,E a b=true->E b c=true->E a c=true
def zS(E:Nat->Nat->Bool):Nat->List Nat
 |0=> []
 |n+1=>if(zS E n).any (fun a=>E a n) then zS E n else zS E n++ [n]
theorem Z5(E:Nat->Nat->Bool)(n:Nat):zS E (n+1)=if(zS E n).any (fun a=>E a n) then zS E n else zS E n++ [n]:=rfl
def jP(E:Nat->Nat->Bool)(b:Nat):Nat:=(zS E (b+1)).findIdx (fun a=>E a b)
theorem lead_of{E:Nat->Nat->Bool}(hE:Sorts E):∀(n b:Nat),b<n->∃a∈zS E n,E a b=true:=by
 intro n
 induction n with
 |zero=>intro b h;omega
 |succ n ih=>
  intro b hb;rw [Z5]
  by_cases hany:(zS E n).any (fun a=>E a n)=true
  ·rw [if_pos hany]
   by_cases e:b=n
   ·subst e;obtain⟨a,h1,h2⟩:=List.any_eq_true.1 hany;exact⟨a,h1,h2⟩
   ·exact ih b (by omega)
  ·rw [if_neg hany]
   by_cases e:b=n
   ·subst e;exact⟨b,by simp,hE.refl b⟩
   ·obtain⟨a,h1,h2⟩:=ih b (by omega);exact⟨a,by simp [h1],h2⟩
open Go Go.RowKit
attribute [local go_sem ↓] Go.wp_at_zero Go.wp_at_succ
attribute [local go_sem] qX
structure W4 where
 a:Int
 b:Int
 c:Int
 d:Int
def W4.mem(s:W4)(n:Nat):Bool:=kn s.a s.b s.c s.d n
def W4.fit(s:W4):Prop:=Fit s.a/\Fit s.b/\Fit s.c/\Fit s.d
theorem W4.ext'{s t:W4}(hs:s.fit)(ht:t.fit)(h:∀n,n<256->s.mem n=t.mem n):s=t:=by
 obtain⟨a,b,c,d⟩:=s;obtain⟨x,y,z,u⟩:=t;obtain⟨rfl,rfl,rfl,rfl⟩:=Xu hs.1 hs.2.1 hs.2.2.1 hs.2.2.2 ht.1 ht.2.1 ht.2.2.1 ht.2.2.2 h;rfl
def JG(w:World)(g o:Nat)(s:W4):Prop:=
 w.cell? ⟨g,o,none⟩=some (.int .u64 s.a)/\w.cell? ⟨g,o+1,none⟩=some (.int .u64 s.b)/\w.cell? ⟨g,o+2,none⟩=some (.int .u64 s.c)/\w.cell? ⟨g,o+3,none⟩=some (.int .u64 s.d)
theorem JG.below{B:Nat}{w w':World}{g o:Nat}{s:W4}(h:JG w g o s)(hb:Below B w w')(hg:g<B):JG w' g o s:=
 ⟨(hb.cell (p:=⟨g,o,none⟩) hg).trans h.1,(hb.cell (p:=⟨g,o+1,none⟩) hg).trans h.2.1,(hb.cell (p:=⟨g,o+2,none⟩) hg).trans h.2.2.1,(hb.cell (p:=⟨g,o+3,none⟩) hg).trans h.2.2.2⟩
def j7:W4:=⟨0,0,0,0⟩
def eqW(s t:W4):Bool:=s.a==t.a && s.b==t.b && s.c==t.c && s.d==t.d
theorem ne_words{p t:W4}(h:p≠t):((¬p.a=t.a\/¬p.b=t.b)\/¬p.c=t.c)\/¬p.d=t.d:=by
 obtain⟨a,b,c,d⟩:=p;obtain⟨x,y,z,u⟩:=t
 by_cases h1:a=x
 ·by_cases h2:b=y
  ·by_cases h3:c=z
   ·right;intro h4;exact h (by simp at h4;rw [h1,h2,h3,h4])
   ·exact .inl (.inr h3)
  ·exact .inl (.inl (.inr h2))
 ·exact .inl (.inl (.inl h1))
open Go Go.RowKit Go.Maps Go.WideMaps Go.WideElems
open Go Go.RowKit Go.Maps
theorem has_mem(s:W4)(hs:s.fit)(n:Nat)(hn:n<256)(w:World):
  Calls Tryz.prog 161 #[.agg #[.int .u64 s.a,.int .u64 s.b,.int .u64 s.c,.int .u64 s.d],.int .u8 (n:Int)] w fun e w'=>e=.returned (.bool (s.mem n))/\Below w.heap.size w w':=by
 have h:=has_any s.a s.b s.c s.d (n:Int) w (by omega) (by omega);rw [hasW_at hs.1 hs.2.1 hs.2.2.1 hs.2.2.2] at h;exact h
theorem Uj{w:World}{B sz n:Nat}{e:TypeId}{v:Value}{xs:List Value}(h:w.ownsRow B e sz v n xs):∃p cap,v=.slice p n cap:=by
 rcases h.2 with ⟨rfl,rfl⟩|⟨g,cap,cur,rfl,_⟩
 ·exact⟨none,0,rfl⟩
 ·exact⟨_,cap,rfl⟩
theorem qf:j7.fit:=⟨by simp [j7,Fit],by simp [j7,Fit],by simp [j7,Fit],by simp [j7,Fit]⟩
theorem Q1(n:Nat):j7.mem n=false:=Kg n
def zg(k:Nat)(j:Int):Int:=yN (fun _=>(k:Int)) 1 j
theorem xi{w:World}{g k:Nat}(hk:k<256)(h:w.heap[g]? =some (.cells #[.int .u8 (k:Int)] 5)):
  Calls Tryz.prog 127 #[.slice (some ⟨g,0,none⟩) 1 1] w fun e w'=>e=.returned (.agg #[.int .u64 (zg k 0),.int .u64 (zg k 1),.int .u64 (zg k 2),.int .u64 (zg k 3)])/\Below w.heap.size w w':=
 of_any g 0 1 1 (fun _=>(k:Int)) w (jS h) (by omega) (fun _=>by omega) (fun _=>by omega) (fun j hj=>by
  obtain rfl:j=0:=by omega
  exact jC h 0)
end
end
section
open Go Go.RowKit
attribute [local go_sem ↓] Go.wp_at_zero Go.wp_at_succ
theorem j0{p:Prop}(h:p):Hid p:=h
structure jI(w:World)(g:Nat)(s:ByteArray)(k:Nat):Prop where
 c0:w.cell? ⟨g,0,none⟩=some (.int .i64 (k:Int))
 c1:w.cell? ⟨g,1,none⟩=some (.string s)
 fz:w.frozen? ⟨g,0,none⟩=false
 lt:g<w.heap.size
theorem Qv{a w:World}{row:Option Nat}(h:a.grownBy w row)(n:Nat):a.grownBy (w.drewN n) row:=⟨h.os,h.tape,h.output,h.size,h.block⟩
theorem Z0{a w:World}{row:Option Nat}(h:a.grownBy w row)(o:Obj):a.grownBy (w.alloc o) row:=
 ⟨h.os,h.tape,h.output,Nat.le_trans h.size (by simp),fun i hi hne=>(Below.heap_alloc w o i (Nat.lt_of_lt_of_le hi h.size)).trans (h.block i hi hne)⟩
theorem js{a w:World}{g:Nat}(h:a.grownBy w (some g)){p:Addr}(hp:p.block=g\/a.heap.size<=p.block)(u:Value):a.grownBy (w.setCell p u) (some g):=
 ⟨h.os,h.tape,h.output,by simpa [World.setCell] using h.size,fun i hi hne=>(Below.heap_setCell w p u i (by
  rintro rfl
  rcases hp with hp|hp
  ·exact hne (by rw [hp])
  ·omega)).trans (h.block i hi hne)⟩
theorem ql(a:World)(row:Option Nat):a.grownBy a row:=⟨rfl,rfl,rfl,jN _,fun _ _ _=>rfl⟩
theorem yt{a b c:World}{row:Option Nat}(h:a.grownBy b row)(k:b.grownBy c row):a.grownBy c row:=
 ⟨k.os.trans h.os,k.tape.trans h.tape,k.output.trans h.output,Nat.le_trans h.size k.size,fun i hi hne=>(k.block i (Nat.lt_of_lt_of_le hi h.size) hne).trans (h.block i hi hne)⟩
def Rd(w w':World)(g:Nat)(s:ByteArray)(k:Nat):Prop:=jI w' g s k/\w.grownBy w' (some g)
theorem qx{w:World}{g:Nat}{s:ByteArray}{k:Nat}(h:jI w g s k)(n:Nat):jI (w.drewN n) g s k:=⟨h.c0,h.c1,h.fz,h.lt⟩
def Fun(F:Nat)(caps:Array Value):Value:=.func (.func F) #[] caps
theorem Rd.of{w w':World}{g:Nat}{s:ByteArray}{k j:Nat}(h:jI w g s k)(n:Nat)(e:w'=(w.drewN n).setCell ⟨g,0,none⟩ (.int .i64 ((k:Int)+(j:Nat)))):Rd w w' g s (k+j):=by
 subst e;have hlt:=h.lt;refine⟨⟨?_,?_,?_,?_⟩,js (Qv (ql _ _) n) (.inl rfl) _⟩
 ·rw [World.cell?_setCell_same _ _ _ (qx h n).c0,Int.natCast_add]
 ·rw [World.cell?_setCell_other _ _ _ _ (by simp)];exact(qx h n).c1
 ·rw [World.frozen?_setCell];exact(qx h n).fz
 ·simpa [World.setCell] using hlt
section
open Go Go.RowKit
attribute [local go_sem ↓] Go.wp_at_zero Go.wp_at_succ
def jl(s:ByteArray)(k:Nat):Nat:=if h:k<s.size then(s[k]'h).toNat else 256
theorem jy{s:ByteArray}{k:Nat}(h:k<s.size):jl s k=(s[k]'h).toNat:=dif_pos h
theorem qr{s:ByteArray}{k:Nat}(h:s.size<=k):jl s k=256:=dif_neg (by omega)
theorem qk{s:ByteArray}{k:Nat}(h:k<s.size):jl s k<256:=by rw [jy h];exact(s[k]'h).toNat_lt
theorem ka{s:ByteArray}{k b:Nat}(h:jl s k=b)(hb:b<256):k<s.size:=by
 by_cases hk:k<s.size
 ·exact hk
 ·rw [qr (by omega)] at h;omega
theorem kO(g n:Nat)(m:Int)(s:ByteArray)(k:Nat)(hn:(k:Int)+n<=9223372036854775807)(w:World)(h:jI w g s k)(hm:m=(n:Int)):
  Calls Tryz.prog 217 #[.pointer (some ⟨g,0,none⟩),.int .i64 m] w fun e w'=>e=.returned (.tuple #[])/\w'=w.setCell ⟨g,0,none⟩ (.int .i64 ((k:Int)+(n:Int))):=by
 subst hm;obtain⟨c0,c1,fz,lt⟩:=h;have hw:IntKind.i64.wrap ((k:Int)+(n:Int))=(k:Int)+(n:Int):=by simp [IntKind.wrap,IntKind.signed,IntKind.bits];omega
 go_enter Tryz.func217,Tryz.ntmps217
 go_wp2
 go_end0
 exact⟨rfl,rfl⟩
theorem vh(g:Nat)(j c:Int)(s:ByteArray)(k:Nat)(w:World)(h:jI w g s k):
  Calls Tryz.prog 219 #[.pointer (some ⟨g,0,none⟩),.int .i64 j,.int .i64 c] w fun e w'=>e=.returned (.int .i64 c)/\w'=w.setCell ⟨g,0,none⟩ (.int .i64 j):=by
 obtain⟨c0,c1,fz,lt⟩:=h
 go_enter Tryz.func219,Tryz.ntmps219
 go_wp2
 go_ret
 exact⟨rfl,rfl⟩
theorem tended_any(g:Nat)(s:ByteArray)(k:Nat)(w:World)(h:jI w g s k):
  Calls Tryz.prog 90 #[.pointer (some ⟨g,0,none⟩)] w fun e w'=>e=.returned (.bool (decide (s.size<=k)))/\∃n,w'=w.drewN n:=by
 obtain⟨c0,c1,fz,lt⟩:=h
 go_enter Tryz.func90,Tryz.ntmps90
 go_wp2_with fail
 go_quiet (fail)
 go_wp2
 go_ret
 exact⟨by simp,nq,rfl⟩
theorem xQ(g:Nat)(s:ByteArray)(k b:Nat)(hb:b<256)(w:World)(h:jI w g s k):
  Calls Tryz.prog 240 #[.pointer (some ⟨g,0,none⟩),.int .u8 (b:Int)] w fun e w'=>e=.returned (.bool (decide (jl s k=b)))/\∃n,w'=w.drewN n:=by
 have HE:=j0 (fun n=>tended_any g s k (w.drewN n) (qx h n));obtain⟨c0,c1,fz,lt⟩:=h
 by_cases hk:k<s.size
 ·have hd:decide (s.size<=k)=false:=jF (by omega);rw [hd] at HE;have hv:decide (jl s k=b)=(((s[k]'hk).toNat:Int)==(b:Int)):=by rw [jy hk];rw [Bool.eq_iff_iff];simp;omega
  have HV:=j0 hv;clear hd hv
  go_enter Tryz.func240,Tryz.ntmps240
  go_wp2_with fail
  go_quiet ((go_at_call 90;exact Calls.quiet_of (HE.out _)))
  go_wp2
  go_ret
  exact⟨by rw [HV.out];rfl,nq,rfl⟩
 ·have hd:decide (s.size<=k)=true:=jT (by omega);rw [hd] at HE;have hv:decide (jl s k=b)=false:=by rw [qr (by omega)];exact jF (by omega)
  have HV:=j0 hv;clear hd hv
  go_enter Tryz.func240,Tryz.ntmps240
  go_wp2_with fail
  go_quiet ((go_at_call 90;exact Calls.quiet_of (HE.out _)))
  go_wp2
  go_ret
  exact⟨by rw [HV.out];rfl,nq,rfl⟩
theorem vQ(g:Nat)(s:ByteArray)(k b:Nat)(hb:b<256)(w:World)(h:jI w g s k)(hk:jl s k≠b):
  Calls Tryz.prog 218 #[.pointer (some ⟨g,0,none⟩),.int .u8 (b:Int)] w fun e w'=>e=.returned (.bool false)/\∃n,w'=w.drewN n:=by
 have HE:=j0 (fun n=>xQ g s k b hb (w.drewN n) (qx h n));rw [jF hk] at HE
 go_enter Tryz.func218,Tryz.ntmps218
 go_wp2_with fail
 refine(HE.out 0).mono ?_;rintro e w1 ⟨rfl,n,hw⟩;have HW:=j0 hw;clear hw
 go_wp2
 go_ret
 exact⟨rfl,n,HW.out⟩
theorem skip_yes(g:Nat)(s:ByteArray)(k b:Nat)(hb:b<256)(w:World)(h:jI w g s k)(hk:jl s k=b)(hs:s.size<=1099511627776):
  Calls Tryz.prog 218 #[.pointer (some ⟨g,0,none⟩),.int .u8 (b:Int)] w fun e w'=>e=.returned (.bool true)/\Rd w w' g s (k+1):=by
 have hin:=ka hk hb;have HE:=j0 (fun n=>xQ g s k b hb (w.drewN n) (qx h n));rw [jT hk] at HE;have HS:=j0 (fun n=>kO g 1 1 s k (by omega) (w.drewN n) (qx h n) rfl);have HH:=j0 h;clear h hk
 go_enter Tryz.func218,Tryz.ntmps218
 go_wp2_with fail
 refine(HE.out 0).mono ?_;rintro e w1 ⟨rfl,n,hw⟩;obtain rfl:w1=w.drewN n:=hw
 go_wp2_with fail
 refine(HS.out n).mono ?_;rintro e w2 ⟨rfl,hw2⟩;have HW:=j0 hw2;clear hw2
 go_wp2
 go_ret
 exact⟨rfl,Rd.of HH.out n HW.out⟩
attribute [local go_sem] qX
theorem only_more{a w w1:World}{row:Option Nat}(h:a.grownBy w row)(hb:Below w.heap.size w w1):a.grownBy w1 row:=
 ⟨hb.os.trans h.os,hb.tape.trans h.tape,hb.output.trans h.output,Nat.le_trans h.size hb.size,fun i hi hne=>(hb.block i (Nat.lt_of_lt_of_le hi h.size)).trans (h.block i hi hne)⟩
theorem Xe{w w1:World}{g:Nat}{s:ByteArray}{k:Nat}(h:jI w g s k)(hb:Below w.heap.size w w1):jI w1 g s k:=
 ⟨(hb.cell (p:=⟨g,0,none⟩) h.lt).trans h.c0,(hb.cell (p:=⟨g,1,none⟩) h.lt).trans h.c1,(hb.frozen (p:=⟨g,0,none⟩) h.lt).trans h.fz,Nat.lt_of_lt_of_le h.lt hb.size⟩
theorem Rd.below{w w1 w2:World}{g:Nat}{s:ByteArray}{k:Nat}(h:Rd w w1 g s k)(hb:Below w1.heap.size w1 w2):Rd w w2 g s k:=⟨Xe h.1 hb,only_more h.2 hb⟩
theorem Rd.drewN{w w1:World}{g:Nat}{s:ByteArray}{k:Nat}(h:Rd w w1 g s k)(n:Nat):Rd w (w1.drewN n) g s k:=⟨qx h.1 n,Qv h.2 n⟩
theorem Rd.trans{w w1 w2:World}{g:Nat}{s:ByteArray}{k j:Nat}(h:Rd w w1 g s k)(h2:Rd w1 w2 g s j):Rd w w2 g s j:=⟨h2.1,yt h.2 h2.2⟩
theorem Rd.refl{w:World}{g:Nat}{s:ByteArray}{k:Nat}(h:jI w g s k):Rd w w g s k:=⟨h,ql _ _⟩
theorem Rd.put{w w1 w2:World}{g:Nat}{s:ByteArray}{k j:Nat}(h:Rd w w1 g s k)(e:w2=w1.setCell ⟨g,0,none⟩ (.int .i64 (j:Int))):Rd w w2 g s j:=by
 subst e;have hlt:=h.1.lt;refine⟨⟨?_,?_,?_,?_⟩,js h.2 (.inl rfl) _⟩
 ·rw [World.cell?_setCell_same _ _ _ h.1.c0]
 ·rw [World.cell?_setCell_other _ _ _ _ (by simp)];exact h.1.c1
 ·rw [World.frozen?_setCell];exact h.1.fz
 ·simpa [World.setCell] using hlt
def digB(b:Nat):Bool:=decide (48<=b) && decide (b<=57)
theorem J3(b:Nat)(hb:b<256)(w:World):
  Calls Tryz.prog 241 #[.int .u8 (b:Int)] w fun e w'=>e=.returned (.bool (digB b))/\w'=w:=by
 by_cases h1:48<=b
 ·have d1:decide ((48:Int)<=(b:Int))=true:=jT (by omega);have e:digB b=decide ((b:Int)<=57):=by unfold digB;rw [jT h1,Bool.true_and,Bool.eq_iff_iff];simp;omega
  rw [e];clear e
  go_enter Tryz.func241,Tryz.ntmps241
  go_wp2
  go_ret
  exact⟨rfl,rfl⟩
 ·have d1:decide ((48:Int)<=(b:Int))=false:=jF (by omega);have e:digB b=false:=by unfold digB;rw [jF h1];rfl
  rw [e];clear e
  go_enter Tryz.func241,Tryz.ntmps241
  go_wp2
  go_ret
  exact⟨rfl,rfl⟩
def zp(s:ByteArray)(a:Nat):Nat->Nat
 |0=>0
 |n+1=>if digB (jl s a) then zp s (a+1) n+1 else 0
theorem ZU(s:ByteArray):∀n a,zp s a n<=n:=by
 intro n
 induction n with
 |zero=>intro a;exact jN _
 |succ n ih=>intro a;unfold zp;split;have:=ih (a+1);omega;omega
theorem dlen_in(s:ByteArray):∀n a i,i<zp s a n->digB (jl s (a+i))=true:=by
 intro n
 induction n with
 |zero=>intro a i h;simp [zp] at h
 |succ n ih=>
  intro a i h;unfold zp at h
  by_cases hd:digB (jl s a)=true
  ·rw [if_pos hd] at h
   cases i with
   |zero=>exact hd
   |succ i=>have:=ih (a+1) i (by omega);rw [show a+(i+1)=a+1+i by omega];exact this
  ·rw [if_neg hd] at h;omega
theorem dlen_out(s:ByteArray):∀n a,zp s a n<n->digB (jl s (a+zp s a n))=false:=by
 intro n
 induction n with
 |zero=>intro a h;omega
 |succ n ih=>
  intro a h
  by_cases hd:digB (jl s a)=true
  ·have e:zp s a (n+1)=zp s (a+1) n+1:=by rw [zp,if_pos hd]
   rw [e] at h ⊢;have:=ih (a+1) (by omega);rw [show a+(zp s (a+1) n+1)=a+1+zp s (a+1) n by omega];exact this
  ·have e:zp s a (n+1)=0:=by rw [zp,if_neg hd]
   rw [e];simpa using hd
def xJ(s:ByteArray)(a:Nat):Nat->Nat
 |0=>0
 |i+1=>min (10*xJ s a i+(jl s (a+i)-48)) 1001
theorem Vl(s:ByteArray)(a i:Nat):xJ s a i<=1001:=by
 cases i with
 |zero=>simp [xJ]
 |succ i=>exact Nat.min_le_right _ _
def dall(s:ByteArray)(a:Nat):Nat:=zp s a (s.size-a)
theorem ZW{s:ByteArray}{a i:Nat}(h:i<dall s a):a+i<s.size/\digB (jl s (a+i))=true:=by
 have h1:=dlen_in s (s.size-a) a i h;have h2:=ZU s (s.size-a) a;unfold dall at h;exact⟨by omega,h1⟩
theorem XR(s:ByteArray)(a:Nat):(a+dall s a<s.size->digB (jl s (a+dall s a))=false):=by
 intro h;exact dlen_out s (s.size-a) a (by unfold dall at h;omega)
def jr(s:ByteArray)(a:Nat):Int×Int×Nat:=
 if dall s a=0 then(0,4,a) else if 1000<xJ s a (dall s a) then(0,5,a) else((xJ s a (dall s a):Nat),0,a+dall s a)
theorem Um{s:ByteArray}{a:Nat}(h:dall s a=0):jr s a=(0,4,a):=by unfold jr;rw [if_pos h]
theorem Xq{s:ByteArray}{a:Nat}(h:dall s a≠0)(hb:1000<xJ s a (dall s a)):jr s a=(0,5,a):=by unfold jr;rw [if_neg h,if_pos hb]
theorem ZG{s:ByteArray}{a:Nat}(h:dall s a≠0)(hb:¬1000<xJ s a (dall s a)):jr s a=(((xJ s a (dall s a):Nat):Int),0,a+dall s a):=by unfold jr;rw [if_neg h,if_neg hb]
theorem U4{x y:Int}{j:Nat}{r:Int×Int×Nat}(h:r=(x,y,j)){w w':World}{g:Nat}{s:ByteArray}(hr:Rd w w' g s j):
  Ending.returned (.tuple #[.int .i64 x,.int .i64 y])=.returned (.tuple #[.int .i64 r.1,.int .i64 r.2.1])/\Rd w w' g s r.2.2:=by subst h;exact⟨rfl,hr⟩
theorem Kp(g a:Nat)(s:ByteArray)(ha:a<=s.size)(hs:s.size<=1099511627776)(w:World)(h:jI w g s a):
  Calls Tryz.prog 221 #[.pointer (some ⟨g,0,none⟩)] w fun e w'=>e=.returned (.tuple #[.int .i64 (jr s a).1,.int .i64 (jr s a).2.1])/\Rd w w' g s (jr s a).2.2:=by
 have HH:=j0 h;obtain⟨c0,c1,fz,lt⟩:=h
 go_enter Tryz.func221,Tryz.ntmps221
 go_wp2_with fail
 go_loopg [5] (dall s a) (fun k n wr=>∃i:Nat,i+k=dall s a/\n=.int .i64 ((xJ s a i:Nat):Int)/\Hid (Rd w wr g s (a+i)))
 case atStart=>exact⟨0,by omega,rfl,j0 (Rd.refl HH.out)⟩
 case round=>
  obtain⟨i,hi,rfl,HR⟩:=hrel
  by_cases hik:i<dall s a
  ·obtain⟨hin,hdg⟩:=ZW hik;have hnv:=Vl s a i;have HNX:Hid (xJ s a (i+1)=min (10*xJ s a i+(jl s (a+i)-48)) 1001):=j0 rfl;obtain⟨q,hq⟩:∃q,q=a+i:=⟨_,rfl⟩;have HQ:=j0 hq;rw [<-hq] at hin hdg HNX HR;clear hq;have HA:=j0 HR.out.1;obtain⟨r0,r1,rz,rl⟩:=HR.out.1;have hbl:=qk hin;have hbd:48<=jl s q/\jl s q<=57:=by unfold digB at hdg;simpa using hdg
   have hbe:((s[q]'hin).toNat)=jl s q:=(jy hin).symm;have HE:=j0 (fun n=>tended_any g s q (wr.drewN n) (qx HA.out n));rw [jF (by omega:¬s.size<=q)] at HE;have HD:=j0 (fun n=>J3 (jl s q) hbl (wr.drewN n));rw [hdg,<-hbe] at HD;rw [<-hbe] at hbd hbl HNX;clear hdg hbe
   go_wp2_with fail
   go_quiet (first|(go_at_call 90;exact Calls.quiet_of (HE.out _))|(go_at_call 241;exact Calls.quiet_of_same (HD.out _)))
   have HRq:Hid (Rd w (wr.drewN nq) g s q):=j0 (HR.out.drewN nq);clear r0 r1 rz rl HE HD;generalize wr.drewN nq=wq at*;obtain⟨r0,r1,rz,rl⟩:=HRq.out.1;have hST:=j0 (fun n=>kO g 1 1 s q (by omega) (wq.drewN n) (qx HRq.out.1 n) rfl);obtain⟨x,hx⟩:∃x:Nat,x=10*xJ s a i:=⟨_,rfl⟩;obtain⟨y,hy⟩:∃y:Nat,y=(s[q]'hin).toNat-48:=⟨_,rfl⟩;have e1:IntKind.i64.wrap (10*((xJ s a i:Nat):Int))=(x:Int):=by simp [IntKind.wrap,IntKind.signed,IntKind.bits];omega
   have e2:IntKind.u8.wrap (((s[q]'hin).toNat:Int)-48)=(y:Int):=by simp [IntKind.wrap,IntKind.signed,IntKind.bits];omega
   obtain⟨z,hz⟩:∃z:Nat,z=x+y:=⟨_,rfl⟩;have e3:IntKind.i64.wrap ((x:Int)+(y:Int))=(z:Int):=by simp [IntKind.wrap,IntKind.signed,IntKind.bits];omega
   have e4:IntKind.i64.wrap (y:Int)=(y:Int):=by simp [IntKind.wrap,IntKind.signed,IntKind.bits];omega
   have HXY:Hid (xJ s a (i+1)=min z 1001):=j0 (by rw [HNX.out,hz,hx,hy]);clear hx hy hz
   by_cases hz1:(z:Int)<=1001
   ·have HV:Hid (xJ s a (i+1)=z):=j0 (by rw [HXY.out];omega)
    go_wp2_with fail
    go_quiet (fail)
    clear e1 e2 e3 e4
    go_wp2_with fail
    refine(hST.out nq).mono ?_;rintro e w2 ⟨rfl,hw2⟩;have HR2:Hid (Rd w w2 g s (a+(i+1))):=j0 (by rw [show a+(i+1)=q+1 by rw [HQ.out];rfl];exact(HRq.out.drewN nq).put (by rw [hw2];rfl));clear hw2
    go_wp2_with fail
    go_roundg (dall s a-(i+1))
    case measure=>omega
    case rel=>exact⟨i+1,by omega,by rw [HV.out],HR2⟩
   ·have HV:Hid (xJ s a (i+1)=1001):=j0 (by rw [HXY.out];omega)
    go_wp2_with fail
    go_quiet (fail)
    clear e1 e2 e3 e4
    go_wp2_with fail
    refine(hST.out nq).mono ?_;rintro e w2 ⟨rfl,hw2⟩;have HR2:Hid (Rd w w2 g s (a+(i+1))):=j0 (by rw [show a+(i+1)=q+1 by rw [HQ.out];rfl];exact(HRq.out.drewN nq).put (by rw [hw2];rfl));clear hw2
    go_wp2_with fail
    go_roundg (dall s a-(i+1))
    case measure=>omega
    case rel=>exact⟨i+1,by omega,by rw [HV.out];rfl,HR2⟩
  ·obtain rfl:i=dall s a:=by omega
   obtain⟨d,hd⟩:∃d,d=dall s a:=⟨_,rfl⟩;obtain⟨q,hq⟩:∃q,q=a+d:=⟨_,rfl⟩;obtain⟨v,hv⟩:∃v,v=xJ s a d:=⟨_,rfl⟩;have HOUT:=j0 (XR s a);have HNO:Hid (d=0->jr s a=(0,4,a)):=j0 (fun h=>Um (by omega));have HBG:Hid (d≠0->1000<v->jr s a=(0,5,a)):=j0 (fun h h2=>Xq (by omega) (by rw [<-hd,<-hv];exact h2));have HOK:Hid (d≠0->¬1000<v->jr s a=(((v:Nat):Int),0,q)):=j0 (fun h h2=>by rw [ZG (by omega) (by rw [<-hd,<-hv];exact h2),<-hd,<-hv,<-hq]);have hvl:v<=1001:=by rw [hv];exact Vl _ _ _
   rw [<-hd] at HOUT HR;rw [<-hq] at HOUT HR;rw [<-hd,<-hv];have hqa:a<=q:=by omega
   have hqd:(q=a) ↔ (d=0):=by omega
   have HQD:=j0 hqd;clear hv hq hd hqd hi;have HA:=j0 HR.out.1;obtain⟨r0,r1,rz,rl⟩:=HR.out.1;have HE:=j0 (fun n=>tended_any g s q (wr.drewN n) (qx HA.out n));have HAFT:Hid (∀W,Rd w W g s q->Rd w W g s q):=j0 (fun _ h=>h)
   by_cases hin:q<s.size
   ·rw [jF (by omega:¬s.size<=q)] at HE;have hbe:((s[q]'hin).toNat)=jl s q:=(jy hin).symm;have hbl:=qk hin;have HD:=j0 (fun n=>J3 (jl s q) hbl (wr.drewN n));rw [HOUT.out hin,<-hbe] at HD;clear hbe hbl
    go_wp2_with fail
    go_quiet (first|(go_at_call 90;exact Calls.quiet_of (HE.out _))|(go_at_call 241;exact Calls.quiet_of_same (HD.out _)))
    have HRq:Hid (Rd w (wr.drewN nq) g s q):=j0 (HR.out.drewN nq);clear r0 r1 rz rl HE HD;generalize wr.drewN nq=wq at*;obtain⟨r0,r1,rz,rl⟩:=HRq.out.1;have TB:=j0 (vh g a 5 s q wq HRq.out.1)
    by_cases d0:d=0
    ·have eq1:((q:Int)==(a:Int))=true:=by have:=HQD.out.2 d0;simp;omega
     have HF:=j0 (HNO.out d0);have HRa:Hid (Rd w wq g s a):=j0 (by have e:=HQD.out.2 d0;rw [<-e];exact HRq.out);clear TB d0
     go_wp2_with fail
     go_ret2
     exact U4 HF.out HRa.out
    ·have eq1:((q:Int)==(a:Int))=false:=by have hne:q≠a:=fun h=>d0 (HQD.out.1 h);simp;omega
     by_cases hb:1000<v
     ·have dv:decide ((1000:Int)<(v:Int))=true:=jT (by omega);have HF:=j0 (HBG.out d0 hb);clear d0
      go_wp2_with fail
      refine TB.out.mono ?_;rintro e w2 ⟨rfl,hw2⟩;have HR2:Hid (Rd w w2 g s a):=j0 (HRq.out.put hw2);clear hw2
      go_wp2_with fail
      go_ret2
      exact U4 HF.out HR2.out
     ·have dv:decide ((1000:Int)<(v:Int))=false:=jF (by omega);have HF:=j0 (HOK.out d0 hb);clear d0 TB
      go_wp2_with fail
      go_ret2
      exact U4 HF.out HRq.out
   ·rw [jT (by omega:s.size<=q)] at HE
    go_wp2_with fail
    go_quiet ((go_at_call 90;exact Calls.quiet_of (HE.out _)))
    have HRq:Hid (Rd w (wr.drewN nq) g s q):=j0 (HR.out.drewN nq);clear r0 r1 rz rl HE;generalize wr.drewN nq=wq at*;obtain⟨r0,r1,rz,rl⟩:=HRq.out.1;have TB:=j0 (vh g a 5 s q wq HRq.out.1)
    by_cases d0:d=0
    ·have eq1:((q:Int)==(a:Int))=true:=by have:=HQD.out.2 d0;simp;omega
     have HF:=j0 (HNO.out d0);have HRa:Hid (Rd w wq g s a):=j0 (by have e:=HQD.out.2 d0;rw [<-e];exact HRq.out);clear TB d0
     go_wp2_with fail
     go_ret2
     exact U4 HF.out HRa.out
    ·have eq1:((q:Int)==(a:Int))=false:=by have hne:q≠a:=fun h=>d0 (HQD.out.1 h);simp;omega
     by_cases hb:1000<v
     ·have dv:decide ((1000:Int)<(v:Int))=true:=jT (by omega);have HF:=j0 (HBG.out d0 hb);clear d0
      go_wp2_with fail
      refine TB.out.mono ?_;rintro e w2 ⟨rfl,hw2⟩;have HR2:Hid (Rd w w2 g s a):=j0 (HRq.out.put hw2);clear hw2
      go_wp2_with fail
      go_ret2
      exact U4 HF.out HR2.out
     ·have dv:decide ((1000:Int)<(v:Int))=false:=jF (by omega);have HF:=j0 (HOK.out d0 hb);clear d0 TB
      go_wp2_with fail
      go_ret2
      exact U4 HF.out HRq.out
end
end
section
section
section
open Go Go.RowKit
attribute [local go_sem ↓] Go.wp_at_zero Go.wp_at_succ
attribute [local go_sem] qX
structure jp where
 kind:Int
 set:W4
 lo:Int
 hi:Int
 lazy:Bool
def jg:jp:=⟨0,j7,0,0,false⟩
def jp.val(t:jp)(i j:Int):Value:=.agg #[.int .i64 t.kind,.int .i64 i,.int .i64 j,.int .u64 t.set.a,.int .u64 t.set.b,.int .u64 t.set.c,.int .u64 t.set.d,.int .i64 t.lo,.int .i64 t.hi,.bool t.lazy]
def jt(t:jp)(e:Int):Value:=.tuple #[t.val 0 0,.int .i64 e]
def jK(s:ByteArray)(lo hi:Int)(k:Nat):jp×Int×Nat:=
 if jl s k=63 then(if jl s (k+1)=43 then(jg,6,k+1) else(⟨5,j7,lo,hi,true⟩,0,k+1))
 else(if jl s k=43 then(jg,6,k) else(⟨5,j7,lo,hi,false⟩,0,k))
def jw:Obj:=.cells #[.int .i64 0,.int .i64 0,.int .i64 0,.int .u64 0,.int .u64 0,.int .u64 0,.int .u64 0,.int .i64 0,.int .i64 0,.bool false] 171
theorem kg{w:World}{g k:Nat}{s:ByteArray}(h:jI w g s k)(o:Obj):jI (w.alloc o) g s k:=Xe h (j3 w o)
theorem j8{w w':World}{o:Obj}{row:Option Nat}(h:(w.alloc o).grownBy w' row):w.grownBy w' row:=yt (Z0 (ql w row) o) h
theorem ja{w w':World}{o:Obj}{g k j:Nat}{s:ByteArray}(h:jI w g s k)(hr:Rd (w.alloc o) w' g s j):w'.heap[w.heap.size]? =some o:=by
 rw [hr.2.block w.heap.size (by simp) (by have:=h.lt;intro e;have e2:=Option.some.inj e;omega)];exact j1 w o
theorem Rd.store{w w':World}{g j b o:Nat}{s:ByteArray}(h:Rd w w' g s j)(hb:w.heap.size<=b)(hg:g<w.heap.size)(v:Value):Rd w (w'.setCell ⟨b,o,none⟩ v) g s j:=by
 obtain⟨⟨c0,c1,fz,lt⟩,hk⟩:=h;refine⟨⟨?_,?_,?_,?_⟩,js hk (.inr hb) _⟩
 ·rw [World.cell?_setCell_other _ _ _ _ (by simp;try omega)];exact c0
 ·rw [World.cell?_setCell_other _ _ _ _ (by simp;try omega)];exact c1
 ·rw [World.frozen?_setCell];exact fz
 ·simpa [World.setCell] using lt
abbrev tokPut(w:World)(b:Nat)(t:jp):World:=
 (((((((((w.setCell ⟨b,0,none⟩ (.int .i64 t.kind)).setCell ⟨b,1,none⟩ (.int .i64 0)).setCell ⟨b,2,none⟩ (.int .i64 0)).setCell ⟨b,3,none⟩ (.int .u64 t.set.a)).setCell ⟨b,4,none⟩ (.int .u64 t.set.b)).setCell ⟨b,5,none⟩ (.int .u64 t.set.c)).setCell ⟨b,6,none⟩ (.int .u64 t.set.d)).setCell ⟨b,7,none⟩ (.int .i64 t.lo)).setCell ⟨b,8,none⟩ (.int .i64 t.hi)).setCell ⟨b,9,none⟩ (.bool t.lazy)
theorem Rd.tok{w w':World}{g j b:Nat}{s:ByteArray}(h:Rd w w' g s j)(hb:w.heap.size<=b)(hg:g<w.heap.size)(t:jp):Rd w (tokPut w' b t) g s j:=
 (((((((((h.store hb hg _).store hb hg _).store hb hg _).store hb hg _).store hb hg _).store hb hg _).store hb hg _).store hb hg _).store hb hg _).store hb hg _
theorem k7{W:World}{b:Nat}(h:W.heap[b]? =some jw):
  (W.cell? ⟨b,0,none⟩=some (.int .i64 0)/\W.cell? ⟨b,1,none⟩=some (.int .i64 0)/\W.cell? ⟨b,2,none⟩=some (.int .i64 0)/\W.cell? ⟨b,3,none⟩=some (.int .u64 0)/\W.cell? ⟨b,4,none⟩=some (.int .u64 0)/\W.cell? ⟨b,5,none⟩=some (.int .u64 0)/\W.cell? ⟨b,6,none⟩=some (.int .u64 0)/\W.cell? ⟨b,7,none⟩=some (.int .i64 0)/\W.cell? ⟨b,8,none⟩=some (.int .i64 0)/\W.cell? ⟨b,9,none⟩=some (.bool false))/\
  (W.frozen? ⟨b,0,none⟩=false/\W.frozen? ⟨b,1,none⟩=false/\W.frozen? ⟨b,2,none⟩=false/\W.frozen? ⟨b,3,none⟩=false/\W.frozen? ⟨b,4,none⟩=false/\W.frozen? ⟨b,5,none⟩=false/\W.frozen? ⟨b,6,none⟩=false/\W.frozen? ⟨b,7,none⟩=false/\W.frozen? ⟨b,8,none⟩=false/\W.frozen? ⟨b,9,none⟩=false)/\b<W.heap.size:=
 ⟨⟨jC h 0,jC h 1,jC h 2,jC h 3,jC h 4,jC h 5,jC h 6,jC h 7,jC h 8,jC h 9⟩,
 ⟨jU h 0,jU h 1,jU h 2,jU h 3,jU h 4,jU h 5,jU h 6,jU h 7,jU h 8,jU h 9⟩,jS h⟩
theorem xd(g k:Nat)(lo hi:Int)(s:ByteArray)(hs:s.size<=1099511627776)(w:World)(h:jI w g s k):
  Calls Tryz.prog 220 #[.pointer (some ⟨g,0,none⟩),.int .i64 lo,.int .i64 hi] w fun e w'=>e=.returned (jt (jK s lo hi k).1 (jK s lo hi k).2.1)/\Rd w w' g s (jK s lo hi k).2.2:=by
 have HH:=j0 h;have hlt:=h.lt;have HA:=j0 (kg h jw);clear h
 by_cases h63:jl s k=63
 ·have SK:=j0 (skip_yes g s k 63 (by omega) _ HA.out h63 hs);have SE:=j0 (fun W (hW:jI W g s (k+1))=>xQ g s (k+1) 43 (by omega) W hW);unfold jw at SK
  by_cases h43:jl s (k+1)=43
  ·have hC:jK s lo hi k=(jg,6,k+1):=by unfold jK;rw [if_pos h63,if_pos h43]
   rw [jT h43] at SE;rw [hC];clear hC h63 h43
   go_enter Tryz.func220,Tryz.ntmps220
   go_wp2_with fail
   refine SK.out.mono ?_;rintro e w1 ⟨rfl,hr1⟩;have HR1:=j0 hr1;clear hr1
   go_wp2_with fail
   refine(SE.out _ HR1.out.1).mono ?_;rintro e w2 ⟨rfl,n2,hw2⟩;have HR2:Hid (Rd (w.alloc jw) w2 g s (k+1)):=j0 (by rw [hw2];exact HR1.out.drewN n2);clear hw2;obtain⟨⟨q0,q1,q2,q3,q4,q5,q6,q7,q8,q9⟩,⟨f0,f1,f2,f3,f4,f5,f6,f7,f8,f9⟩,_hsz⟩:=k7 (ja HH.out HR2.out);have HRw:Hid (Rd w w2 g s (k+1)):=j0 ⟨HR2.out.1,j8 HR2.out.2⟩
   go_wp2_with fail
   refine bodyPost_ret (v:=jt jg 6) (by simp [results,Tryz.results220,go_sem,jt,jp.val,jg,j7,q0,q1,q2,q3,q4,q5,q6,q7,q8,q9]) rfl ⟨rfl,?_⟩;exact HRw.out.tok (jN _) hlt jg
  ·have hC:jK s lo hi k=(⟨5,j7,lo,hi,true⟩,0,k+1):=by unfold jK;rw [if_pos h63,if_neg h43]
   rw [jF h43] at SE;rw [hC];clear hC h63 h43
   go_enter Tryz.func220,Tryz.ntmps220
   go_wp2_with fail
   refine SK.out.mono ?_;rintro e w1 ⟨rfl,hr1⟩;have HR1:=j0 hr1;clear hr1
   go_wp2_with fail
   refine(SE.out _ HR1.out.1).mono ?_;rintro e w2 ⟨rfl,n2,hw2⟩;have HR2:Hid (Rd (w.alloc jw) w2 g s (k+1)):=j0 (by rw [hw2];exact HR1.out.drewN n2);clear hw2;obtain⟨⟨q0,q1,q2,q3,q4,q5,q6,q7,q8,q9⟩,⟨f0,f1,f2,f3,f4,f5,f6,f7,f8,f9⟩,_hsz⟩:=k7 (ja HH.out HR2.out);have HRw:Hid (Rd w w2 g s (k+1)):=j0 ⟨HR2.out.1,j8 HR2.out.2⟩
   go_wp2_with fail
   refine bodyPost_ret (v:=jt ⟨5,j7,lo,hi,true⟩ 0) (by simp [results,Tryz.results220,go_sem,jt,jp.val,j7,q0,q1,q2,q3,q4,q5,q6,q7,q8,q9]) rfl ⟨rfl,?_⟩;exact HRw.out.tok (jN _) hlt ⟨5,j7,lo,hi,true⟩
 ·have SK:=j0 (vQ g s k 63 (by omega) _ HA.out h63);have SE:=j0 (fun W (hW:jI W g s k)=>xQ g s k 43 (by omega) W hW);unfold jw at SK
  by_cases h43:jl s k=43
  ·have hC:jK s lo hi k=(jg,6,k):=by unfold jK;rw [if_neg h63,if_pos h43]
   rw [jT h43] at SE;rw [hC];clear hC h63 h43
   go_enter Tryz.func220,Tryz.ntmps220
   go_wp2_with fail
   refine SK.out.mono ?_;rintro e w1 ⟨rfl,n1,hw1⟩;have HR1:Hid (Rd (w.alloc jw) w1 g s k):=j0 (by rw [hw1];exact(Rd.refl HA.out).drewN n1);clear hw1
   go_wp2_with fail
   refine(SE.out _ HR1.out.1).mono ?_;rintro e w2 ⟨rfl,n2,hw2⟩;have HR2:Hid (Rd (w.alloc jw) w2 g s k):=j0 (by rw [hw2];exact HR1.out.drewN n2);clear hw2;obtain⟨⟨q0,q1,q2,q3,q4,q5,q6,q7,q8,q9⟩,⟨f0,f1,f2,f3,f4,f5,f6,f7,f8,f9⟩,_hsz⟩:=k7 (ja HH.out HR2.out);have HRw:Hid (Rd w w2 g s k):=j0 ⟨HR2.out.1,j8 HR2.out.2⟩
   go_wp2_with fail
   refine bodyPost_ret (v:=jt jg 6) (by simp [results,Tryz.results220,go_sem,jt,jp.val,jg,j7,q0,q1,q2,q3,q4,q5,q6,q7,q8,q9]) rfl ⟨rfl,?_⟩;exact HRw.out.tok (jN _) hlt jg
  ·have hC:jK s lo hi k=(⟨5,j7,lo,hi,false⟩,0,k):=by unfold jK;rw [if_neg h63,if_neg h43]
   rw [jF h43] at SE;rw [hC];clear hC h63 h43
   go_enter Tryz.func220,Tryz.ntmps220
   go_wp2_with fail
   refine SK.out.mono ?_;rintro e w1 ⟨rfl,n1,hw1⟩;have HR1:Hid (Rd (w.alloc jw) w1 g s k):=j0 (by rw [hw1];exact(Rd.refl HA.out).drewN n1);clear hw1
   go_wp2_with fail
   refine(SE.out _ HR1.out.1).mono ?_;rintro e w2 ⟨rfl,n2,hw2⟩;have HR2:Hid (Rd (w.alloc jw) w2 g s k):=j0 (by rw [hw2];exact HR1.out.drewN n2);clear hw2;obtain⟨⟨q0,q1,q2,q3,q4,q5,q6,q7,q8,q9⟩,⟨f0,f1,f2,f3,f4,f5,f6,f7,f8,f9⟩,_hsz⟩:=k7 (ja HH.out HR2.out);have HRw:Hid (Rd w w2 g s k):=j0 ⟨HR2.out.1,j8 HR2.out.2⟩
   go_wp2_with fail
   refine bodyPost_ret (v:=jt ⟨5,j7,lo,hi,false⟩ 0) (by simp [results,Tryz.results220,go_sem,jt,jp.val,j7,q0,q1,q2,q3,q4,q5,q6,q7,q8,q9]) rfl ⟨rfl,?_⟩;exact HRw.out.tok (jN _) hlt ⟨5,j7,lo,hi,false⟩
open Go Go.RowKit
attribute [local go_sem ↓] Go.wp_at_zero Go.wp_at_succ
attribute [local go_sem] qX
theorem tbar_any(g k:Nat)(s:ByteArray)(hk:k<s.size)(hs:s.size<=1099511627776)(w:World)(h:jI w g s k):
  Calls Tryz.prog 179 #[.pointer (some ⟨g,0,none⟩)] w fun e w'=>e=.returned (jt ⟨4,j7,0,0,false⟩ 0)/\Rd w w' g s (k+1):=by
 have HH:=j0 h;have hlt:=h.lt;have HA:=j0 (kg h jw);have ST:=j0 (kO g 1 1 s k (by omega) _ HA.out rfl);unfold jw at ST;clear h
 go_enter Tryz.func179,Tryz.ntmps179
 go_wp2_with fail
 refine ST.out.mono ?_;rintro e w2 ⟨rfl,hw2⟩;have HR2:Hid (Rd (w.alloc jw) w2 g s (k+1)):=j0 ((Rd.refl HA.out).put (by rw [hw2];rfl));clear hw2;obtain⟨⟨q0,q1,q2,q3,q4,q5,q6,q7,q8,q9⟩,⟨f0,f1,f2,f3,f4,f5,f6,f7,f8,f9⟩,_hsz⟩:=k7 (ja HH.out HR2.out);have HRw:Hid (Rd w w2 g s (k+1)):=j0 ⟨HR2.out.1,j8 HR2.out.2⟩
 go_wp2_with fail
 refine bodyPost_ret (v:=jt ⟨4,j7,0,0,false⟩ 0) (by simp [results,Tryz.results179,go_sem,jt,jp.val,j7,q0,q1,q2,q3,q4,q5,q6,q7,q8,q9]) rfl ⟨rfl,?_⟩;exact HRw.out.tok (jN _) hlt ⟨4,j7,0,0,false⟩
theorem Yv(g k:Nat)(s:ByteArray)(hk:k<s.size)(hs:s.size<=1099511627776)(w:World)(h:jI w g s k):
  Calls Tryz.prog 181 #[.pointer (some ⟨g,0,none⟩)] w fun e w'=>e=.returned (jt ⟨3,j7,0,0,false⟩ 0)/\Rd w w' g s (k+1):=by
 have HH:=j0 h;have hlt:=h.lt;have HA:=j0 (kg h jw);have ST:=j0 (kO g 1 1 s k (by omega) _ HA.out rfl);unfold jw at ST;clear h
 go_enter Tryz.func181,Tryz.ntmps181
 go_wp2_with fail
 refine ST.out.mono ?_;rintro e w2 ⟨rfl,hw2⟩;have HR2:Hid (Rd (w.alloc jw) w2 g s (k+1)):=j0 ((Rd.refl HA.out).put (by rw [hw2];rfl));clear hw2;obtain⟨⟨q0,q1,q2,q3,q4,q5,q6,q7,q8,q9⟩,⟨f0,f1,f2,f3,f4,f5,f6,f7,f8,f9⟩,_hsz⟩:=k7 (ja HH.out HR2.out);have HRw:Hid (Rd w w2 g s (k+1)):=j0 ⟨HR2.out.1,j8 HR2.out.2⟩
 go_wp2_with fail
 refine bodyPost_ret (v:=jt ⟨3,j7,0,0,false⟩ 0) (by simp [results,Tryz.results181,go_sem,jt,jp.val,j7,q0,q1,q2,q3,q4,q5,q6,q7,q8,q9]) rfl ⟨rfl,?_⟩;exact HRw.out.tok (jN _) hlt ⟨3,j7,0,0,false⟩
def jv(s:ByteArray)(lo:Int)(k:Nat):Int×Int×Nat:=
 if jl s k=125 then(-1,0,k) else if(jr s k).2.1=0/\(jr s k).1<lo then(0,5,k) else jr s k
theorem Uw{s:ByteArray}{a:Nat}(h:a<=s.size):a+dall s a<=s.size:=by
 have:=ZU s (s.size-a) a;unfold dall;omega
theorem Jr(s:ByteArray)(a:Nat):0<=(jr s a).1/\(jr s a).1<=1001/\((jr s a).2.1=0\/(jr s a).2.1=4\/(jr s a).2.1=5):=by
 unfold jr
 split
 ·exact⟨by simp,by simp,by simp⟩
 ·split
  ·exact⟨by simp,by simp,by simp⟩
  ·have:=Vl s a (dall s a);refine⟨by simp,?_,by simp⟩
   show((xJ s a (dall s a):Nat):Int)<=1001
   omega
theorem tmost_any(g k:Nat)(lo:Int)(s:ByteArray)(hk:k<=s.size)(hs:s.size<=1099511627776)(w:World)(h:jI w g s k):
  Calls Tryz.prog 222 #[.pointer (some ⟨g,0,none⟩),.int .i64 lo] w fun e w'=>e=.returned (.tuple #[.int .i64 (jv s lo k).1,.int .i64 (jv s lo k).2.1])/\Rd w w' g s (jv s lo k).2.2:=by
 have HH:=j0 h;have SE:=j0 (xQ g s k 125 (by omega) w h);clear h
 by_cases h125:jl s k=125
 ·have HM:Hid (jv s lo k=(-1,0,k)):=j0 (by unfold jv;rw [if_pos h125]);rw [jT h125] at SE;clear h125
  go_enter Tryz.func222,Tryz.ntmps222
  go_wp2_with fail
  refine SE.out.mono ?_;rintro e w1 ⟨rfl,n1,hw1⟩;have HR1:Hid (Rd w w1 g s k):=j0 (by rw [hw1];exact(Rd.refl HH.out).drewN n1);clear hw1
  go_wp2_with fail
  go_ret2
  exact U4 HM.out HR1.out
 ·have HM:Hid (jv s lo k=if(jr s k).2.1=0/\(jr s k).1<lo then(0,5,k) else jr s k):=j0 (by unfold jv;rw [if_neg h125]);rw [jF h125] at SE;have NUM:=j0 (fun W (hW:jI W g s k)=>Kp g k s hk hs W hW);have hnv:=(Jr s k).2.2;obtain⟨r,hr⟩:∃r,r=jr s k:=⟨_,rfl⟩;rw [<-hr] at HM NUM hnv;clear h125 hr;obtain⟨x,c,j⟩:=r;have HM':Hid (jv s lo k=if c=0/\x<lo then(0,5,k) else(x,c,j)):=HM;have NUM':Hid (∀W,jI W g s k->Calls Tryz.prog 221 #[.pointer (some ⟨g,0,none⟩)] W fun e w'=>e=.returned (.tuple #[.int .i64 x,.int .i64 c])/\Rd W w' g s j):=NUM
  have hc:c=0\/((c:Int)==0)=false:=by
   rcases hnv with h|h|h
   ·exact .inl h
   ·right;have:c=4:=h;rw [this];rfl
   ·right;have:c=5:=h;rw [this];rfl
  have hc2:c≠0\/c=0:=by by_cases h:c=0;exact .inr h;exact .inl h
  clear HM NUM hnv hc2;have WALK:∀(_:True),True:=fun _=>trivial
  clear WALK
  rcases hc with rfl|hc0
  ·by_cases hx:x<lo
   ·have HF:Hid (jv s lo k=(0,5,k)):=j0 (by rw [HM'.out,if_pos ⟨rfl,hx⟩]);have dx:decide (x<lo)=true:=jT hx
    go_enter Tryz.func222,Tryz.ntmps222
    go_wp2_with fail
    refine SE.out.mono ?_;rintro e w1 ⟨rfl,n1,hw1⟩;have HR1:Hid (Rd w w1 g s k):=j0 (by rw [hw1];exact(Rd.refl HH.out).drewN n1);obtain⟨r0,r1,rz,rl⟩:=HR1.out.1;clear hw1
    go_wp2_with fail
    refine(NUM'.out _ HR1.out.1).mono ?_;rintro e w2 ⟨rfl,hr2⟩;have HR2:=j0 (HR1.out.trans hr2);have TB:=j0 (vh g k 5 s j w2 hr2.1);clear hr2 r0 r1 rz rl
    go_wp2_with fail
    refine TB.out.mono ?_;rintro e w3 ⟨rfl,hw3⟩;have HR3:=j0 (HR2.out.put hw3);clear hw3
    go_wp2_with fail
    go_ret2
    exact U4 HF.out HR3.out
   ·have HF:Hid (jv s lo k=(x,0,j)):=j0 (by rw [HM'.out,if_neg (fun h=>hx h.2)]);have dx:decide (x<lo)=false:=jF hx
    go_enter Tryz.func222,Tryz.ntmps222
    go_wp2_with fail
    refine SE.out.mono ?_;rintro e w1 ⟨rfl,n1,hw1⟩;have HR1:Hid (Rd w w1 g s k):=j0 (by rw [hw1];exact(Rd.refl HH.out).drewN n1);obtain⟨r0,r1,rz,rl⟩:=HR1.out.1;clear hw1
    go_wp2_with fail
    refine(NUM'.out _ HR1.out.1).mono ?_;rintro e w2 ⟨rfl,hr2⟩;have HR2:=j0 (HR1.out.trans hr2);clear hr2 r0 r1 rz rl
    go_wp2_with fail
    go_ret2
    exact U4 HF.out HR2.out
  ·have HF:Hid (jv s lo k=(x,c,j)):=j0 (by rw [HM'.out,if_neg (fun h=>by rw [h.1] at hc0;exact absurd hc0 (by decide))])
   go_enter Tryz.func222,Tryz.ntmps222
   go_wp2_with fail
   refine SE.out.mono ?_;rintro e w1 ⟨rfl,n1,hw1⟩;have HR1:Hid (Rd w w1 g s k):=j0 (by rw [hw1];exact(Rd.refl HH.out).drewN n1);obtain⟨r0,r1,rz,rl⟩:=HR1.out.1;clear hw1
   go_wp2_with fail
   refine(NUM'.out _ HR1.out.1).mono ?_;rintro e w2 ⟨rfl,hr2⟩;have HR2:=j0 (HR1.out.trans hr2);clear hr2 r0 r1 rz rl
   go_wp2_with fail
   go_ret2
   exact U4 HF.out HR2.out
end
end
section
open Go Go.RowKit
attribute [local go_sem ↓] Go.wp_at_zero Go.wp_at_succ
attribute [local go_sem] qX
theorem KO{t:jp}{c:Int}{j:Nat}{r:jp×Int×Nat}(h:r=(t,c,j)){w w':World}{g:Nat}{s:ByteArray}(hr:Rd w w' g s j):
  Ending.returned (jt t c)=.returned (jt r.1 r.2.1)/\Rd w w' g s r.2.2:=by subst h;exact⟨rfl,hr⟩
def vx(s:ByteArray)(k:Nat):jp×Int×Nat:=
 if jl s (k+1)=63 then(if jl s (k+1+1)=58 then(⟨2,j7,0,0,false⟩,0,k+1+1+1) else(jg,6,k)) else(⟨1,j7,0,0,false⟩,0,k+1)
theorem topen_any(g k:Nat)(s:ByteArray)(hk:k<s.size)(hs:s.size<=1099511627776)(w:World)(h:jI w g s k):
  Calls Tryz.prog 180 #[.pointer (some ⟨g,0,none⟩)] w fun e w'=>e=.returned (jt (vx s k).1 (vx s k).2.1)/\Rd w w' g s (vx s k).2.2:=by
 have HH:=j0 h;have hlt:=h.lt;have HA:=j0 (kg h jw);have ST:=j0 (kO g 1 1 s k (by omega) _ HA.out rfl);obtain⟨r0,r1,rz,rl⟩:=HA.out;unfold jw at ST r0 r1 rz rl;clear h
 by_cases h63:jl s (k+1)=63
 ·have SK:=j0 (fun W (hW:jI W g s (k+1))=>skip_yes g s (k+1) 63 (by omega) W hW h63 hs)
  by_cases h58:jl s (k+1+1)=58
  ·have HF:Hid (vx s k=(⟨2,j7,0,0,false⟩,0,k+1+1+1)):=j0 (by unfold vx;rw [if_pos h63,if_pos h58]);have SL:=j0 (fun W (hW:jI W g s (k+1+1))=>skip_yes g s (k+1+1) 58 (by omega) W hW h58 hs);clear h63 h58
   go_enter Tryz.func180,Tryz.ntmps180
   go_wp2_with fail
   refine ST.out.mono ?_;rintro e w2 ⟨rfl,hw2⟩;have HR2:Hid (Rd (w.alloc jw) w2 g s (k+1)):=j0 ((Rd.refl HA.out).put (by rw [hw2];rfl));clear hw2 r0 r1 rz rl
   go_wp2_with fail
   refine(SK.out _ HR2.out.1).mono ?_;rintro e w3 ⟨rfl,hr3⟩;have HR3:=j0 (HR2.out.trans hr3);clear hr3
   go_wp2_with fail
   refine(SL.out _ HR3.out.1).mono ?_;rintro e w4 ⟨rfl,hr4⟩;have HR4:=j0 (HR3.out.trans hr4);clear hr4;obtain⟨⟨q0,q1,q2,q3,q4,q5,q6,q7,q8,q9⟩,⟨f0,f1,f2,f3,f4,f5,f6,f7,f8,f9⟩,_hsz⟩:=k7 (ja HH.out HR4.out);have HRw:Hid (Rd w w4 g s (k+1+1+1)):=j0 ⟨HR4.out.1,j8 HR4.out.2⟩
   go_wp2_with fail
   refine bodyPost_ret (v:=jt ⟨2,j7,0,0,false⟩ 0) (by simp [results,Tryz.results180,go_sem,jt,jp.val,j7,q0,q1,q2,q3,q4,q5,q6,q7,q8,q9]) rfl (KO HF.out ?_);exact HRw.out.tok (jN _) hlt ⟨2,j7,0,0,false⟩
  ·have HF:Hid (vx s k=(jg,6,k)):=j0 (by unfold vx;rw [if_pos h63,if_neg h58]);have SL:=j0 (fun W (hW:jI W g s (k+1+1))=>vQ g s (k+1+1) 58 (by omega) W hW h58);clear h63 h58
   go_enter Tryz.func180,Tryz.ntmps180
   go_wp2_with fail
   refine ST.out.mono ?_;rintro e w2 ⟨rfl,hw2⟩;have HR2:Hid (Rd (w.alloc jw) w2 g s (k+1)):=j0 ((Rd.refl HA.out).put (by rw [hw2];rfl));clear hw2 r0 r1 rz rl
   go_wp2_with fail
   refine(SK.out _ HR2.out.1).mono ?_;rintro e w3 ⟨rfl,hr3⟩;have HR3:=j0 (HR2.out.trans hr3);clear hr3
   go_wp2_with fail
   refine(SL.out _ HR3.out.1).mono ?_;rintro e w4 ⟨rfl,n4,hw4⟩;have HR4:Hid (Rd (w.alloc jw) w4 g s (k+1+1)):=j0 (by rw [hw4];exact HR3.out.drewN n4);have TB:=j0 (vh g k 6 s (k+1+1) w4 HR4.out.1);clear hw4
   go_wp2_with fail
   refine TB.out.mono ?_;rintro e w5 ⟨rfl,hw5⟩;have HR5:Hid (Rd (w.alloc jw) w5 g s k):=j0 (HR4.out.put hw5);clear hw5;obtain⟨⟨q0,q1,q2,q3,q4,q5,q6,q7,q8,q9⟩,⟨f0,f1,f2,f3,f4,f5,f6,f7,f8,f9⟩,_hsz⟩:=k7 (ja HH.out HR5.out);have HRw:Hid (Rd w w5 g s k):=j0 ⟨HR5.out.1,j8 HR5.out.2⟩
   go_wp2_with fail
   refine bodyPost_ret (v:=jt jg 6) (by simp [results,Tryz.results180,go_sem,jt,jp.val,jg,j7,q0,q1,q2,q3,q4,q5,q6,q7,q8,q9]) rfl (KO HF.out ?_);exact HRw.out.tok (jN _) hlt jg
 ·have HF:Hid (vx s k=(⟨1,j7,0,0,false⟩,0,k+1)):=j0 (by unfold vx;rw [if_neg h63]);have SK:=j0 (fun W (hW:jI W g s (k+1))=>vQ g s (k+1) 63 (by omega) W hW h63);clear h63
  go_enter Tryz.func180,Tryz.ntmps180
  go_wp2_with fail
  refine ST.out.mono ?_;rintro e w2 ⟨rfl,hw2⟩;have HR2:Hid (Rd (w.alloc jw) w2 g s (k+1)):=j0 ((Rd.refl HA.out).put (by rw [hw2];rfl));clear hw2 r0 r1 rz rl
  go_wp2_with fail
  refine(SK.out _ HR2.out.1).mono ?_;rintro e w3 ⟨rfl,n3,hw3⟩;have HR3:Hid (Rd (w.alloc jw) w3 g s (k+1)):=j0 (by rw [hw3];exact HR2.out.drewN n3);clear hw3;obtain⟨⟨q0,q1,q2,q3,q4,q5,q6,q7,q8,q9⟩,⟨f0,f1,f2,f3,f4,f5,f6,f7,f8,f9⟩,_hsz⟩:=k7 (ja HH.out HR3.out);have HRw:Hid (Rd w w3 g s (k+1)):=j0 ⟨HR3.out.1,j8 HR3.out.2⟩
  go_wp2_with fail
  refine bodyPost_ret (v:=jt ⟨1,j7,0,0,false⟩ 0) (by simp [results,Tryz.results180,go_sem,jt,jp.val,j7,q0,q1,q2,q3,q4,q5,q6,q7,q8,q9]) rfl (KO HF.out ?_);exact HRw.out.tok (jN _) hlt ⟨1,j7,0,0,false⟩
def xP(s:ByteArray)(k:Nat):jp×Int×Nat:=if jl s k=42 then jK s 0 (-1) (k+1) else if jl s k=43 then jK s 1 (-1) (k+1) else jK s 0 1 (k+1)
theorem tsign_any(g k:Nat)(s:ByteArray)(hk:k<s.size)(hs:s.size<=1099511627776)(w:World)(h:jI w g s k):
  Calls Tryz.prog 182 #[.pointer (some ⟨g,0,none⟩)] w fun e w'=>e=.returned (jt (xP s k).1 (xP s k).2.1)/\Rd w w' g s (xP s k).2.2:=by
 have HH:=j0 h;have hlt:=h.lt;have HA:=j0 (kg h jw);have ST:=j0 (fun n=>kO g 1 1 s k (by omega) ((w.alloc jw).drewN n) (qx HA.out n) rfl);obtain⟨r0,r1,rz,rl⟩:=HA.out;unfold jw at ST r0 r1 rz rl;clear h
 have hcase:jl s k=42\/(jl s k≠42/\jl s k=43)\/(jl s k≠42/\jl s k≠43):=by
  by_cases h1:jl s k=42
  ·exact .inl h1
  ·by_cases h2:jl s k=43
   ·exact .inr (.inl ⟨h1,h2⟩)
   ·exact .inr (.inr ⟨h1,h2⟩)
 rcases hcase with h42|⟨h42,h43⟩|⟨h42,h43⟩
 ·have hb:((s[k]'hk).toNat)=jl s k:=(jy hk).symm;have HB:=j0 hb;have CT:=j0 (fun W (hW:jI W g s (k+1))=>xd g (k+1) (0) (-1) s hs W hW);have HF:Hid (xP s k=jK s (0) (-1) (k+1)):=j0 (by unfold xP;rw [if_pos h42]);have g1:(((s[k]'hk).toNat:Int)==42)=true:=by rw [hb,h42];rfl
  clear h42;obtain⟨r,hr⟩:∃r,r=jK s (0) (-1) (k+1):=⟨_,rfl⟩;rw [<-hr] at CT HF;clear hr hb;obtain⟨t,c,j⟩:=r;have CT':Hid (∀W,jI W g s (k+1)->Calls Tryz.prog 220 #[.pointer (some ⟨g,0,none⟩),.int .i64 (0),.int .i64 (-1)] W fun e w'=>e=.returned (jt t c)/\Rd W w' g s j):=CT;clear CT
  go_enter Tryz.func182,Tryz.ntmps182
  go_wp2_with fail
  go_quiet (fail)
  go_wp2_with fail
  refine(ST.out nq).mono ?_;rintro e w2 ⟨rfl,hw2⟩;have HR2:Hid (Rd (w.alloc jw) w2 g s (k+1)):=j0 (((Rd.refl HA.out).drewN nq).put (by rw [hw2];rfl));clear hw2 r0 r1 rz rl
  go_wp2_with fail
  refine(CT'.out _ HR2.out.1).mono ?_;rintro e w3 ⟨rfl,hr3⟩;have HR3:=j0 (HR2.out.trans hr3);clear hr3;unfold jt jp.val;obtain⟨⟨q0,q1,q2,q3,q4,q5,q6,q7,q8,q9⟩,⟨f0,f1,f2,f3,f4,f5,f6,f7,f8,f9⟩,_hsz⟩:=k7 (ja HH.out HR3.out);have HRw:Hid (Rd w w3 g s j):=j0 ⟨HR3.out.1,j8 HR3.out.2⟩
  go_wp2_with fail
  refine bodyPost_ret (v:=jt t c) (by simp [results,Tryz.results182,go_sem,jt,jp.val,q0,q1,q2,q3,q4,q5,q6,q7,q8,q9]) rfl (KO HF.out ?_);exact HRw.out.tok (jN _) hlt t
 ·have hb:((s[k]'hk).toNat)=jl s k:=(jy hk).symm;have HB:=j0 hb;have CT:=j0 (fun W (hW:jI W g s (k+1))=>xd g (k+1) (1) (-1) s hs W hW);have HF:Hid (xP s k=jK s (1) (-1) (k+1)):=j0 (by unfold xP;rw [if_neg h42,if_pos h43]);have g1:(((s[k]'hk).toNat:Int)==42)=false:=by rw [hb];simp;omega
  have g2:(((s[k]'hk).toNat:Int)==43)=true:=by rw [hb,h43];rfl
  clear h42 h43;obtain⟨r,hr⟩:∃r,r=jK s (1) (-1) (k+1):=⟨_,rfl⟩;rw [<-hr] at CT HF;clear hr hb;obtain⟨t,c,j⟩:=r;have CT':Hid (∀W,jI W g s (k+1)->Calls Tryz.prog 220 #[.pointer (some ⟨g,0,none⟩),.int .i64 (1),.int .i64 (-1)] W fun e w'=>e=.returned (jt t c)/\Rd W w' g s j):=CT;clear CT
  go_enter Tryz.func182,Tryz.ntmps182
  go_wp2_with fail
  go_quiet (fail)
  go_wp2_with fail
  refine(ST.out nq).mono ?_;rintro e w2 ⟨rfl,hw2⟩;have HR2:Hid (Rd (w.alloc jw) w2 g s (k+1)):=j0 (((Rd.refl HA.out).drewN nq).put (by rw [hw2];rfl));clear hw2 r0 r1 rz rl
  go_wp2_with fail
  refine(CT'.out _ HR2.out.1).mono ?_;rintro e w3 ⟨rfl,hr3⟩;have HR3:=j0 (HR2.out.trans hr3);clear hr3;unfold jt jp.val;obtain⟨⟨q0,q1,q2,q3,q4,q5,q6,q7,q8,q9⟩,⟨f0,f1,f2,f3,f4,f5,f6,f7,f8,f9⟩,_hsz⟩:=k7 (ja HH.out HR3.out);have HRw:Hid (Rd w w3 g s j):=j0 ⟨HR3.out.1,j8 HR3.out.2⟩
  go_wp2_with fail
  refine bodyPost_ret (v:=jt t c) (by simp [results,Tryz.results182,go_sem,jt,jp.val,q0,q1,q2,q3,q4,q5,q6,q7,q8,q9]) rfl (KO HF.out ?_);exact HRw.out.tok (jN _) hlt t
 ·have hb:((s[k]'hk).toNat)=jl s k:=(jy hk).symm;have HB:=j0 hb;have CT:=j0 (fun W (hW:jI W g s (k+1))=>xd g (k+1) (0) (1) s hs W hW);have HF:Hid (xP s k=jK s (0) (1) (k+1)):=j0 (by unfold xP;rw [if_neg h42,if_neg h43]);have g1:(((s[k]'hk).toNat:Int)==42)=false:=by rw [hb];simp;omega
  have g2:(((s[k]'hk).toNat:Int)==43)=false:=by rw [hb];simp;omega
  clear h42 h43;obtain⟨r,hr⟩:∃r,r=jK s (0) (1) (k+1):=⟨_,rfl⟩;rw [<-hr] at CT HF;clear hr hb;obtain⟨t,c,j⟩:=r;have CT':Hid (∀W,jI W g s (k+1)->Calls Tryz.prog 220 #[.pointer (some ⟨g,0,none⟩),.int .i64 (0),.int .i64 (1)] W fun e w'=>e=.returned (jt t c)/\Rd W w' g s j):=CT;clear CT
  go_enter Tryz.func182,Tryz.ntmps182
  go_wp2_with fail
  go_quiet (fail)
  go_wp2_with fail
  refine(ST.out nq).mono ?_;rintro e w2 ⟨rfl,hw2⟩;have HR2:Hid (Rd (w.alloc jw) w2 g s (k+1)):=j0 (((Rd.refl HA.out).drewN nq).put (by rw [hw2];rfl));clear hw2 r0 r1 rz rl
  go_wp2_with fail
  refine(CT'.out _ HR2.out.1).mono ?_;rintro e w3 ⟨rfl,hr3⟩;have HR3:=j0 (HR2.out.trans hr3);clear hr3;unfold jt jp.val;obtain⟨⟨q0,q1,q2,q3,q4,q5,q6,q7,q8,q9⟩,⟨f0,f1,f2,f3,f4,f5,f6,f7,f8,f9⟩,_hsz⟩:=k7 (ja HH.out HR3.out);have HRw:Hid (Rd w w3 g s j):=j0 ⟨HR3.out.1,j8 HR3.out.2⟩
  go_wp2_with fail
  refine bodyPost_ret (v:=jt t c) (by simp [results,Tryz.results182,go_sem,jt,jp.val,q0,q1,q2,q3,q4,q5,q6,q7,q8,q9]) rfl (KO HF.out ?_);exact HRw.out.tok (jN _) hlt t
def shutR(s:ByteArray)(lo hi:Int)(j:Nat):jp×Int×Nat:=if jl s j=125 then jK s lo hi (j+1) else(jg,4,j)
def kA(s:ByteArray)(k:Nat):jp×Int×Nat:=
 if(jr s (k+1)).2.1≠0 then(jg,(jr s (k+1)).2.1,(jr s (k+1)).2.2)
 else if jl s (jr s (k+1)).2.2=44 then
  (if(jv s (jr s (k+1)).1 ((jr s (k+1)).2.2+1)).2.1≠0 then(jg,(jv s (jr s (k+1)).1 ((jr s (k+1)).2.2+1)).2.1,(jv s (jr s (k+1)).1 ((jr s (k+1)).2.2+1)).2.2)
  else shutR s (jr s (k+1)).1 (jv s (jr s (k+1)).1 ((jr s (k+1)).2.2+1)).1 (jv s (jr s (k+1)).1 ((jr s (k+1)).2.2+1)).2.2)
 else shutR s (jr s (k+1)).1 (jr s (k+1)).1 (jr s (k+1)).2.2
theorem errs{c:Int}(h:c=0\/c=4\/c=5):c=0\/(c≠0/\((c:Int)==0)=false/\((c:Int) !=0)=true):=by
 rcases h with rfl|rfl|rfl
 ·exact .inl rfl
 ·exact .inr ⟨by decide,by decide,by decide⟩
 ·exact .inr ⟨by decide,by decide,by decide⟩
theorem Uo(s:ByteArray)(lo:Int)(k:Nat):(jv s lo k).2.1=0\/(jv s lo k).2.1=4\/(jv s lo k).2.1=5:=by
 unfold jv
 split
 ·exact .inl rfl
 ·split
  ·exact .inr (.inr rfl)
  ·exact(Jr s k).2.2
theorem VV(g k:Nat)(s:ByteArray)(hk:k<s.size)(hs:s.size<=1099511627776)(w:World)(h:jI w g s k):
  Calls Tryz.prog 183 #[.pointer (some ⟨g,0,none⟩)] w fun e w'=>e=.returned (jt (kA s k).1 (kA s k).2.1)/\Rd w w' g s (kA s k).2.2:=by
 have HH:=j0 h;have hlt:=h.lt;have HA:=j0 (kg h jw);have ST:=j0 (kO g 1 1 s k (by omega) _ HA.out rfl);have NUM:=j0 (fun W (hW:jI W g s (k+1))=>Kp g (k+1) s (by omega) hs W hW);obtain⟨r0,r1,rz,rl⟩:=HA.out;unfold jw at ST r0 r1 rz rl;clear h;have he:=(Jr s (k+1)).2.2
 have HBR:Hid (kA s k=if(jr s (k+1)).2.1≠0 then(jg,(jr s (k+1)).2.1,(jr s (k+1)).2.2)
  else if jl s (jr s (k+1)).2.2=44 then
  (if(jv s (jr s (k+1)).1 ((jr s (k+1)).2.2+1)).2.1≠0 then(jg,(jv s (jr s (k+1)).1 ((jr s (k+1)).2.2+1)).2.1,(jv s (jr s (k+1)).1 ((jr s (k+1)).2.2+1)).2.2)
  else shutR s (jr s (k+1)).1 (jv s (jr s (k+1)).1 ((jr s (k+1)).2.2+1)).1 (jv s (jr s (k+1)).1 ((jr s (k+1)).2.2+1)).2.2)
  else shutR s (jr s (k+1)).1 (jr s (k+1)).1 (jr s (k+1)).2.2):=j0 rfl
 obtain⟨r,hr⟩:∃r,r=jr s (k+1):=⟨_,rfl⟩;rw [<-hr] at NUM he HBR;clear hr;obtain⟨x,c,j⟩:=r;have NUM':Hid (∀W,jI W g s (k+1)->Calls Tryz.prog 221 #[.pointer (some ⟨g,0,none⟩)] W fun e w'=>e=.returned (.tuple #[.int .i64 x,.int .i64 c])/\Rd W w' g s j):=NUM
 have HBR':Hid (kA s k=if c≠0 then(jg,c,j) else if jl s j=44 then
  (if(jv s x (j+1)).2.1≠0 then(jg,(jv s x (j+1)).2.1,(jv s x (j+1)).2.2) else shutR s x (jv s x (j+1)).1 (jv s x (j+1)).2.2) else shutR s x x j):=HBR
 have hec:=errs he;clear NUM HBR he
 rcases hec with rfl|⟨hc0,hc1,hc2⟩
 ·by_cases h44:jl s j=44
  ·have hj:=ka h44 (by omega);have SK:=j0 (fun W (hW:jI W g s j)=>skip_yes g s j 44 (by omega) W hW h44 hs);have MO:=j0 (fun W (hW:jI W g s (j+1))=>tmost_any g (j+1) x s (by omega) hs W hW);have HB2:Hid (kA s k=if(jv s x (j+1)).2.1≠0 then(jg,(jv s x (j+1)).2.1,(jv s x (j+1)).2.2) else shutR s x (jv s x (j+1)).1 (jv s x (j+1)).2.2):=j0 (by rw [HBR'.out,if_neg (by simp),if_pos h44]);have he2:=Uo s x (j+1);obtain⟨m,hm⟩:∃m,m=jv s x (j+1):=⟨_,rfl⟩;rw [<-hm] at MO HB2 he2;clear hm h44;obtain⟨y,c2,j2⟩:=m;have MO':Hid (∀W,jI W g s (j+1)->Calls Tryz.prog 222 #[.pointer (some ⟨g,0,none⟩),.int .i64 x] W fun e w'=>e=.returned (.tuple #[.int .i64 y,.int .i64 c2])/\Rd W w' g s j2):=MO;have HB3:Hid (kA s k=if c2≠0 then(jg,c2,j2) else shutR s x y j2):=HB2;have hec2:=errs he2;clear MO HB2 he2 HBR'
   rcases hec2 with rfl|⟨hd0,hd1,hd2⟩
   ·have HS:Hid (kA s k=shutR s x y j2):=j0 (by rw [HB3.out,if_neg (by simp)])
    by_cases h125:jl s j2=125
    ·have SC:=j0 (fun W (hW:jI W g s j2)=>skip_yes g s j2 125 (by omega) W hW h125 hs);have CT:=j0 (fun W (hW:jI W g s (j2+1))=>xd g (j2+1) (x) (y) s hs W hW);have HF:Hid (kA s k=jK s (x) (y) (j2+1)):=j0 (by rw [HS.out];unfold shutR;rw [if_pos h125]);obtain⟨rr,hrr⟩:∃rr,rr=jK s (x) (y) (j2+1):=⟨_,rfl⟩;rw [<-hrr] at CT HF;clear hrr h125;obtain⟨t,c9,j9⟩:=rr;have CT':Hid (∀W,jI W g s (j2+1)->Calls Tryz.prog 220 #[.pointer (some ⟨g,0,none⟩),.int .i64 (x),.int .i64 (y)] W fun e w'=>e=.returned (jt t c9)/\Rd W w' g s j9):=CT;clear CT
     go_enter Tryz.func183,Tryz.ntmps183
     go_wp2_with fail
     refine ST.out.mono ?_;rintro e w2 ⟨rfl,hw2⟩;have HR2:Hid (Rd (w.alloc jw) w2 g s (k+1)):=j0 ((Rd.refl HA.out).put (by rw [hw2];rfl));clear hw2 r0 r1 rz rl
     go_wp2_with fail
     refine(NUM'.out _ HR2.out.1).mono ?_;rintro e w3 ⟨rfl,hr3⟩;have HR3:=j0 (HR2.out.trans hr3);clear hr3
     go_wp2_with fail
     refine(SK.out _ HR3.out.1).mono ?_;rintro e w4 ⟨rfl,hrw4⟩;have Hw4:=j0 (HR3.out.trans hrw4);clear hrw4
     go_wp2_with fail
     refine(MO'.out _ Hw4.out.1).mono ?_;rintro e w5 ⟨rfl,hrw5⟩;have Hw5:=j0 (Hw4.out.trans hrw5);clear hrw5
     go_wp2_with fail
     refine(SC.out _ Hw5.out.1).mono ?_;rintro e w8 ⟨rfl,hrw8⟩;have Hw8:=j0 (Hw5.out.trans hrw8);clear hrw8
     go_wp2_with fail
     refine(CT'.out _ Hw8.out.1).mono ?_;rintro e w9 ⟨rfl,hrw9⟩;have Hw9:=j0 (Hw8.out.trans hrw9);clear hrw9;unfold jt jp.val;obtain⟨⟨q0,q1,q2,q3,q4,q5,q6,q7,q8,q9⟩,⟨f0,f1,f2,f3,f4,f5,f6,f7,f8,f9⟩,_hsz⟩:=k7 (ja HH.out Hw9.out);have HRw:Hid (Rd w w9 g s j9):=j0 ⟨Hw9.out.1,j8 Hw9.out.2⟩
     go_wp2_with fail
     refine bodyPost_ret (v:=jt t c9) (by simp [results,Tryz.results183,go_sem,jt,jp.val,q0,q1,q2,q3,q4,q5,q6,q7,q8,q9]) rfl (KO HF.out ?_);exact HRw.out.tok (jN _) hlt t
    ·have SC:=j0 (fun W (hW:jI W g s j2)=>vQ g s j2 125 (by omega) W hW h125);have HF:Hid (kA s k=(jg,4,j2)):=j0 (by rw [HS.out];unfold shutR;rw [if_neg h125]);clear h125
     go_enter Tryz.func183,Tryz.ntmps183
     go_wp2_with fail
     refine ST.out.mono ?_;rintro e w2 ⟨rfl,hw2⟩;have HR2:Hid (Rd (w.alloc jw) w2 g s (k+1)):=j0 ((Rd.refl HA.out).put (by rw [hw2];rfl));clear hw2 r0 r1 rz rl
     go_wp2_with fail
     refine(NUM'.out _ HR2.out.1).mono ?_;rintro e w3 ⟨rfl,hr3⟩;have HR3:=j0 (HR2.out.trans hr3);clear hr3
     go_wp2_with fail
     refine(SK.out _ HR3.out.1).mono ?_;rintro e w4 ⟨rfl,hrw4⟩;have Hw4:=j0 (HR3.out.trans hrw4);clear hrw4
     go_wp2_with fail
     refine(MO'.out _ Hw4.out.1).mono ?_;rintro e w5 ⟨rfl,hrw5⟩;have Hw5:=j0 (Hw4.out.trans hrw5);clear hrw5
     go_wp2_with fail
     refine(SC.out _ Hw5.out.1).mono ?_;rintro e w8 ⟨rfl,nw8,hww8⟩;have Hw8:Hid (Rd (w.alloc jw) w8 g s j2):=j0 (by rw [hww8];exact Hw5.out.drewN nw8);clear hww8;obtain⟨⟨q0,q1,q2,q3,q4,q5,q6,q7,q8,q9⟩,⟨f0,f1,f2,f3,f4,f5,f6,f7,f8,f9⟩,_hsz⟩:=k7 (ja HH.out Hw8.out);have HRw:Hid (Rd w w8 g s j2):=j0 ⟨Hw8.out.1,j8 Hw8.out.2⟩
     go_wp2_with fail
     refine bodyPost_ret (v:=jt jg 4) (by simp [results,Tryz.results183,go_sem,jt,jp.val,jg,j7,q0,q1,q2,q3,q4,q5,q6,q7,q8,q9]) rfl (KO HF.out ?_);exact HRw.out.tok (jN _) hlt jg
   ·have HF:Hid (kA s k=(jg,c2,j2)):=j0 (by rw [HB3.out,if_pos hd0]);clear hd0
    go_enter Tryz.func183,Tryz.ntmps183
    go_wp2_with fail
    refine ST.out.mono ?_;rintro e w2 ⟨rfl,hw2⟩;have HR2:Hid (Rd (w.alloc jw) w2 g s (k+1)):=j0 ((Rd.refl HA.out).put (by rw [hw2];rfl));clear hw2 r0 r1 rz rl
    go_wp2_with fail
    refine(NUM'.out _ HR2.out.1).mono ?_;rintro e w3 ⟨rfl,hr3⟩;have HR3:=j0 (HR2.out.trans hr3);clear hr3
    go_wp2_with fail
    refine(SK.out _ HR3.out.1).mono ?_;rintro e w4 ⟨rfl,hrw4⟩;have Hw4:=j0 (HR3.out.trans hrw4);clear hrw4
    go_wp2_with fail
    refine(MO'.out _ Hw4.out.1).mono ?_;rintro e w5 ⟨rfl,hrw5⟩;have Hw5:=j0 (Hw4.out.trans hrw5);clear hrw5;obtain⟨⟨q0,q1,q2,q3,q4,q5,q6,q7,q8,q9⟩,⟨f0,f1,f2,f3,f4,f5,f6,f7,f8,f9⟩,_hsz⟩:=k7 (ja HH.out Hw5.out);have HRw:Hid (Rd w w5 g s j2):=j0 ⟨Hw5.out.1,j8 Hw5.out.2⟩
    go_wp2_with fail
    refine bodyPost_ret (v:=jt jg c2) (by simp [results,Tryz.results183,go_sem,jt,jp.val,jg,j7,q0,q1,q2,q3,q4,q5,q6,q7,q8,q9]) rfl (KO HF.out ?_);exact HRw.out.tok (jN _) hlt jg
  ·have SK:=j0 (fun W (hW:jI W g s j)=>vQ g s j 44 (by omega) W hW h44);have HS:Hid (kA s k=shutR s x x j):=j0 (by rw [HBR'.out,if_neg (by simp),if_neg h44]);clear h44 HBR'
   by_cases h125:jl s j=125
   ·have SC:=j0 (fun W (hW:jI W g s j)=>skip_yes g s j 125 (by omega) W hW h125 hs);have CT:=j0 (fun W (hW:jI W g s (j+1))=>xd g (j+1) (x) (x) s hs W hW);have HF:Hid (kA s k=jK s (x) (x) (j+1)):=j0 (by rw [HS.out];unfold shutR;rw [if_pos h125]);obtain⟨rr,hrr⟩:∃rr,rr=jK s (x) (x) (j+1):=⟨_,rfl⟩;rw [<-hrr] at CT HF;clear hrr h125;obtain⟨t,c9,j9⟩:=rr;have CT':Hid (∀W,jI W g s (j+1)->Calls Tryz.prog 220 #[.pointer (some ⟨g,0,none⟩),.int .i64 (x),.int .i64 (x)] W fun e w'=>e=.returned (jt t c9)/\Rd W w' g s j9):=CT;clear CT
    go_enter Tryz.func183,Tryz.ntmps183
    go_wp2_with fail
    refine ST.out.mono ?_;rintro e w2 ⟨rfl,hw2⟩;have HR2:Hid (Rd (w.alloc jw) w2 g s (k+1)):=j0 ((Rd.refl HA.out).put (by rw [hw2];rfl));clear hw2 r0 r1 rz rl
    go_wp2_with fail
    refine(NUM'.out _ HR2.out.1).mono ?_;rintro e w3 ⟨rfl,hr3⟩;have HR3:=j0 (HR2.out.trans hr3);clear hr3
    go_wp2_with fail
    refine(SK.out _ HR3.out.1).mono ?_;rintro e w4 ⟨rfl,nw4,hww4⟩;have Hw4:Hid (Rd (w.alloc jw) w4 g s j):=j0 (by rw [hww4];exact HR3.out.drewN nw4);clear hww4
    go_wp2_with fail
    refine(SC.out _ Hw4.out.1).mono ?_;rintro e w8 ⟨rfl,hrw8⟩;have Hw8:=j0 (Hw4.out.trans hrw8);clear hrw8
    go_wp2_with fail
    refine(CT'.out _ Hw8.out.1).mono ?_;rintro e w9 ⟨rfl,hrw9⟩;have Hw9:=j0 (Hw8.out.trans hrw9);clear hrw9;unfold jt jp.val;obtain⟨⟨q0,q1,q2,q3,q4,q5,q6,q7,q8,q9⟩,⟨f0,f1,f2,f3,f4,f5,f6,f7,f8,f9⟩,_hsz⟩:=k7 (ja HH.out Hw9.out);have HRw:Hid (Rd w w9 g s j9):=j0 ⟨Hw9.out.1,j8 Hw9.out.2⟩
    go_wp2_with fail
    refine bodyPost_ret (v:=jt t c9) (by simp [results,Tryz.results183,go_sem,jt,jp.val,q0,q1,q2,q3,q4,q5,q6,q7,q8,q9]) rfl (KO HF.out ?_);exact HRw.out.tok (jN _) hlt t
   ·have SC:=j0 (fun W (hW:jI W g s j)=>vQ g s j 125 (by omega) W hW h125);have HF:Hid (kA s k=(jg,4,j)):=j0 (by rw [HS.out];unfold shutR;rw [if_neg h125]);clear h125
    go_enter Tryz.func183,Tryz.ntmps183
    go_wp2_with fail
    refine ST.out.mono ?_;rintro e w2 ⟨rfl,hw2⟩;have HR2:Hid (Rd (w.alloc jw) w2 g s (k+1)):=j0 ((Rd.refl HA.out).put (by rw [hw2];rfl));clear hw2 r0 r1 rz rl
    go_wp2_with fail
    refine(NUM'.out _ HR2.out.1).mono ?_;rintro e w3 ⟨rfl,hr3⟩;have HR3:=j0 (HR2.out.trans hr3);clear hr3
    go_wp2_with fail
    refine(SK.out _ HR3.out.1).mono ?_;rintro e w4 ⟨rfl,nw4,hww4⟩;have Hw4:Hid (Rd (w.alloc jw) w4 g s j):=j0 (by rw [hww4];exact HR3.out.drewN nw4);clear hww4
    go_wp2_with fail
    refine(SC.out _ Hw4.out.1).mono ?_;rintro e w8 ⟨rfl,nw8,hww8⟩;have Hw8:Hid (Rd (w.alloc jw) w8 g s j):=j0 (by rw [hww8];exact Hw4.out.drewN nw8);clear hww8;obtain⟨⟨q0,q1,q2,q3,q4,q5,q6,q7,q8,q9⟩,⟨f0,f1,f2,f3,f4,f5,f6,f7,f8,f9⟩,_hsz⟩:=k7 (ja HH.out Hw8.out);have HRw:Hid (Rd w w8 g s j):=j0 ⟨Hw8.out.1,j8 Hw8.out.2⟩
    go_wp2_with fail
    refine bodyPost_ret (v:=jt jg 4) (by simp [results,Tryz.results183,go_sem,jt,jp.val,jg,j7,q0,q1,q2,q3,q4,q5,q6,q7,q8,q9]) rfl (KO HF.out ?_);exact HRw.out.tok (jN _) hlt jg
 ·have HF:Hid (kA s k=(jg,c,j)):=j0 (by rw [HBR'.out,if_pos hc0]);clear hc0 HBR'
  go_enter Tryz.func183,Tryz.ntmps183
  go_wp2_with fail
  refine ST.out.mono ?_;rintro e w2 ⟨rfl,hw2⟩;have HR2:Hid (Rd (w.alloc jw) w2 g s (k+1)):=j0 ((Rd.refl HA.out).put (by rw [hw2];rfl));clear hw2 r0 r1 rz rl
  go_wp2_with fail
  refine(NUM'.out _ HR2.out.1).mono ?_;rintro e w3 ⟨rfl,hr3⟩;have HR3:=j0 (HR2.out.trans hr3);clear hr3;obtain⟨⟨q0,q1,q2,q3,q4,q5,q6,q7,q8,q9⟩,⟨f0,f1,f2,f3,f4,f5,f6,f7,f8,f9⟩,_hsz⟩:=k7 (ja HH.out HR3.out);have HRw:Hid (Rd w w3 g s j):=j0 ⟨HR3.out.1,j8 HR3.out.2⟩
  go_wp2_with fail
  refine bodyPost_ret (v:=jt jg c) (by simp [results,Tryz.results183,go_sem,jt,jp.val,jg,j7,q0,q1,q2,q3,q4,q5,q6,q7,q8,q9]) rfl (KO HF.out ?_);exact HRw.out.tok (jN _) hlt jg
end
end
end Go.Proofs.YtnmalggmbeipaaaGreatDoor
