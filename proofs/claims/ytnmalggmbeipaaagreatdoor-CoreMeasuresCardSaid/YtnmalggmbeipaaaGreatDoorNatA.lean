/- A part of the proof. -/
import Derived.WalkKit
import Derived.Test.YtnmalggmbeipaaaGreatDoorChecked
import Derived.WalkSpells
import Derived.WalkLawsBesides
import Derived.LoopTactic
import Derived.RegionTactic
import Derived.BigRegion
import Derived.BigQuiet
import Derived.Deep.QuietTactic
import Derived.Shelf.Bits.Mul64
set_option maxRecDepth 100000
set_option maxHeartbeats 16000000
namespace Go.Proofs.YtnmalggmbeipaaaGreatDoor
section
open Go Go.RowKit
theorem J6{p:Prop}(h:p):Hid p:=h
def top:Int:=9223372036854775807
def zM(n:Int):Int:=if n<=0 then 0 else n
def sat(n:Int):Int:=if n<=top then n else top
def pl(a b:Int):Int:=sat (zM a+zM b)
def ti(a b:Int):Int:=sat (zM a*zM b)
theorem yI(n:Int):0<=zM n:=by unfold zM;split<;>omega
theorem VA(n:Int)(h:n<=top):zM n<=top:=by unfold zM top at*;split<;>omega
theorem qY{n:Int}(h:0<=n):zM n=n:=by unfold zM;split<;>omega
theorem xf{n:Int}(h:0<=n):0<=sat n:=by unfold sat top;split<;>omega
theorem vi(n:Int):sat n<=top:=by unfold sat;split<;>omega
theorem sat_self{n:Int}(h:n<=top):sat n=n:=by unfold sat;rw [if_pos h]
theorem KW{n:Int}(h:top<=n):sat n=top:=by unfold sat;split<;>omega
theorem sat_lt{n:Int}(h:sat n<top):sat n=n:=by unfold sat at*;split<;>simp_all<;>omega
theorem Vz{n:Int}(h:0<=n):zM (sat n)=sat n:=qY (xf h)
theorem zB{m n:Int}(_:0<=m)(hn:0<=n):sat (sat m+n)=sat (m+n):=by
 unfold sat;split<;>split<;>(try split)<;>omega
theorem ZM{m n:Int}(hm:0<=m)(hn:1<=n):m<=m*n:=by
 have:=Int.mul_le_mul_of_nonneg_left hn hm;omega
theorem sat_mul{m n:Int}(hm:0<=m)(hn:0<=n):sat (sat m*n)=sat (m*n):=by
 by_cases h:m<=top
 ·rw [sat_self h]
 ·have h0:top<=m:=by omega
  by_cases hz:n=0
  ·subst hz;simp
  ·have n1:1<=n:=by omega
   have t0:(0:Int)<=top:=by unfold top;omega
   rw [KW h0,KW (ZM t0 n1),KW (Int.le_trans h0 (ZM hm n1))]
theorem sat_mul'{m n:Int}(hm:0<=m)(hn:0<=n):sat (n*sat m)=sat (n*m):=by
 rw [Int.mul_comm,sat_mul hm hn,Int.mul_comm]
theorem sat_add'{m n:Int}(hm:0<=m)(hn:0<=n):sat (n+sat m)=sat (n+m):=by
 rw [Int.add_comm,zB hm hn,Int.add_comm]
theorem yv{m n:Int}(hm:0<=m)(hn:0<=n):0<=m*n:=Int.mul_nonneg hm hn
theorem pl_nn(a b:Int):0<=pl a b:=xf (by have:=yI a;have:=yI b;omega)
theorem ti_nn(a b:Int):0<=ti a b:=xf (yv (yI a) (yI b))
theorem Qs(a b:Int):pl a b<=top:=vi _
theorem ti_le(a b:Int):ti a b<=top:=vi _
theorem Vd(a:Int)(h0:0<=a)(h:a<=top):pl 0 a=a:=by unfold pl;rw [qY h0];simp [zM,sat_self h]
theorem Yt(a:Int)(h0:0<=a)(h:a<=top):ti 1 a=a:=by unfold ti;rw [qY h0];simp [zM,sat_self h]
end
end Go.Proofs.YtnmalggmbeipaaaGreatDoor
namespace Go.Proofs.YtnmalggmbeipaaaGreatDoor
section
open Go Go.RowKit
theorem KH(n:Int)(w:World):
  Calls Tryz.prog 125 #[.int .i64 n] w fun e w'=>e=.returned (.int .i64 (zM n))/\w'=w:=by
 go_enter Tryz.func125,Tryz.ntmps125
 go_wp2
 ·go_ret
  exact⟨by unfold zM;rw [if_pos (by omega)];rfl,rfl⟩
 ·go_ret
  exact⟨by rw [qY (by assumption)];rfl,rfl⟩
theorem Un(x y:Nat)(hx:x<18446744073709551616)(hy:y<18446744073709551616)(w:World):
  Calls Tryz.prog 206 #[.int .u64 x,.int .u64 y] w fun e w'=>e=.returned (.tuple #[.int .u64 ((x*y/18446744073709551616:Nat):Int),.int .u64 ((x*y % 18446744073709551616:Nat):Int)])/\w'=w:=by
 obtain⟨bd,bt,bw,hhi⟩:=Lib.mul64_hi x y hx hy;have ba:=Lib.half_mul_le (a:=x/4294967296) (b:=y/4294967296) (by omega) (by omega);have bb:=Lib.half_mul_le (a:=x/4294967296) (b:=y % 4294967296) (by omega) (by omega);have bc:=Lib.half_mul_le (a:=x % 4294967296) (b:=y/4294967296) (by omega) (by omega);have ba':x/4294967296*(y/4294967296)<18446744073709551616:=by omega
 have bb':x/4294967296*(y % 4294967296)<18446744073709551616:=by omega
 have bc':x % 4294967296*(y/4294967296)<18446744073709551616:=by omega
 have bh1:x/4294967296*(y/4294967296)+(x/4294967296*(y % 4294967296)+x % 4294967296*(y % 4294967296)/4294967296)/4294967296<18446744073709551616:=by omega
 have bh:x/4294967296*(y/4294967296)+(x/4294967296*(y % 4294967296)+x % 4294967296*(y % 4294967296)/4294967296)/4294967296+((x/4294967296*(y % 4294967296)+x % 4294967296*(y % 4294967296)/4294967296) % 4294967296+x % 4294967296*(y/4294967296))/4294967296<18446744073709551616:=by omega
 go_enter Tryz.func206,Tryz.ntmps206
 go_wp2
 simp only [Mul64.maskN x hx,Mul64.maskN y hy,Mul64.divN,Mul64.mulN,Mul64.addN,Mul64.wrapN _ bd,Mul64.wrapN _ bb',Mul64.wrapN _ bt,Mul64.maskN _ bt,Mul64.wrapN _ bc',Mul64.wrapN _ bw,Mul64.wrapN _ ba',Mul64.wrapN _ bh1,Mul64.wrapN _ bh,Mul64.wrapM (x*y)];rw [hhi]
 go_ret2
 exact⟨rfl,rfl⟩
theorem plus_any(a b:Int)(w:World)(ha:a<=top)(hb:b<=top):
  Calls Tryz.prog 83 #[.int .i64 a,.int .i64 b] w fun e w'=>e=.returned (.int .i64 (pl a b))/\w'=w:=by
 have a0:=yI a;have b0:=yI b;have a1:=VA a ha;have b1:=VA b hb;have hpl:pl a b=if zM a+zM b<=9223372036854775807 then zM a+zM b else 9223372036854775807:=rfl
 unfold top at a1 b1;have HP:=J6 hpl;clear hpl ha hb
 go_enter Tryz.func83,Tryz.ntmps83
 go_wp2_with (go_at_call 125;refine(KH _ _).mono ?_;rintro e w' ⟨rfl,rfl⟩)
 ·go_ret
  exact⟨by rw [HP.out,if_neg (by omega)];rfl,rfl⟩
 ·go_ret
  exact⟨by rw [HP.out,if_pos (by omega)];rfl,rfl⟩
theorem KG(n:Int)(x:Nat)(hx:zM n=x)(w:World):
  Calls Tryz.prog 125 #[.int .i64 n] w fun e w'=>e=.returned (.int .i64 x)/\w=w':=
 (KH n w).mono fun _ _ ⟨he,hw⟩=>⟨by rw [he,hx],hw.symm⟩
theorem ti_small{a b:Int}{x y:Nat}(hx:zM a=x)(hy:zM b=y)(h1:x*y<=9223372036854775807):ti a b=((x*y:Nat):Int):=by
 unfold ti;rw [hx,hy,sat_self (by unfold top;rw [<-Int.natCast_mul];omega),Int.natCast_mul]
theorem ti_great{a b:Int}{x y:Nat}(hx:zM a=x)(hy:zM b=y)(h1:¬x*y<=9223372036854775807):ti a b=9223372036854775807:=by
 unfold ti;rw [hx,hy,KW (by unfold top;rw [<-Int.natCast_mul];omega)];rfl
theorem times_any(a b:Int)(w:World)(ha:a<=top)(hb:b<=top):
  Calls Tryz.prog 162 #[.int .i64 a,.int .i64 b] w fun e w'=>e=.returned (.int .i64 (ti a b))/\w=w':=by
 obtain⟨x,hx⟩:∃x:Nat,zM a=x:=Int.eq_ofNat_of_zero_le (yI a);obtain⟨y,hy⟩:∃x:Nat,zM b=x:=Int.eq_ofNat_of_zero_le (yI b);have a1:=VA a ha;have b1:=VA b hb;rw [hx] at a1;rw [hy] at b1;unfold top at a1 b1;have x1:x<=9223372036854775807:=by omega
 have y1:y<=9223372036854775807:=by omega
 clear a1 b1 ha hb;have HX:=J6 hx;have HY:=J6 hy;clear hx hy;have hm:=Un x y (by omega) (by omega)
 by_cases h1:x*y<=9223372036854775807
 ·have hd:x*y/18446744073709551616=0:=by omega
  have hr:x*y % 18446744073709551616=x*y:=by omega
  rw [hd,hr] at hm;have ht:=ti_small HX.out HY.out h1;rw [ht];clear hd hr ht;generalize x*y=p at*;have HM:=J6 hm;clear hm
  go_enter Tryz.func162,Tryz.ntmps162
  go_wp2_with (first
   |(go_at_call 125;refine(KG _ _ (by first|exact HX.out|exact HY.out) _).mono ?_;rintro e w' ⟨rfl,rfl⟩)
   |(go_at_call 206;refine(HM.out _).mono ?_;rintro e w2 ⟨rfl,hw2⟩;subst hw2))
  go_ret
  exact⟨rfl,rfl⟩
 ·have ht:=ti_great HX.out HY.out h1;rw [ht];have hl:x*y % 18446744073709551616<=18446744073709551615:=by omega
  have hs:x*y<=9223372036854775807*9223372036854775807:=Nat.mul_le_mul x1 y1;have hh:x*y/18446744073709551616<=9223372036854775807:=by omega
  have hq:1<=x*y/18446744073709551616\/(x*y/18446744073709551616=0/\9223372036854775808<=x*y % 18446744073709551616):=by omega
  clear ht h1 hs;generalize x*y/18446744073709551616=p at*;generalize x*y % 18446744073709551616=q at*;have HM:=J6 hm;clear hm
  rcases hq with hq|⟨rfl,hq⟩
  all_goals
   go_enter Tryz.func162,Tryz.ntmps162
   go_wp2_with (first
    |(go_at_call 125;refine(KG _ _ (by first|exact HX.out|exact HY.out) _).mono ?_;rintro e w' ⟨rfl,rfl⟩)
    |(go_at_call 206;refine(HM.out _).mono ?_;rintro e w2 ⟨rfl,hw2⟩;subst hw2))
   go_ret
   exact⟨rfl,rfl⟩
def Does(f:FuncId)(op:Int->Int->Int):Prop:=∀(a b:Int) (w:World),a<=top->b<=top->Calls Tryz.prog f #[.int .i64 a,.int .i64 b] w fun e w'=>e=.returned (.int .i64 (op a b))/\w=w'
theorem plus_does:Does 83 pl:=fun a b w ha hb=>(plus_any a b w ha hb).mono fun _ _ ⟨he,hw⟩=>⟨he,hw.symm⟩
theorem Ys:Does 162 ti:=fun a b w ha hb=>times_any a b w ha hb
def fol(op:Int->Int->Int)(s:Int)(l:Nat->Int):Nat->Int
 |0=>s
 |n+1=>op (fol op s l n) (l n)
theorem fol_le{op:Int->Int->Int}(hop:∀a b,op a b<=top){s:Int}(hs:s<=top)(l:Nat->Int)(n:Nat):fol op s l n<=top:=by
 cases n with
 |zero=>exact hs
 |succ n=>exact hop _ _
theorem fold_plus(g o len cap:Nat)(s:Int)(l:Nat->Int)(w:World)(hs:s<=top)(hlen:len<=140737488351232)(hl:∀j,j<len->l j<=top)
  (hc:∀j,j<len->w.cell? ⟨g,o+j,none⟩=some (.int .i64 (l j))):
  Calls Tryz.prog 82 #[.slice (some ⟨g,o,none⟩) len cap,.int .i64 s,.func (.func 83) #[] #[]] w fun e w'=>e=.returned (.int .i64 (fol pl s l len))/\w=w':=by
 have HS:=J6 hs;clear hs
 go_enter Tryz.func82,Tryz.ntmps82
 go_wp2_with fail
 go_loop [1,11] (fun t i=>∃k:Nat,k<=len/\i=.int .i64 k/\t=.int .i64 (fol pl s l k)) (fun _ i=>len-(intOf i).toNat)
 case atStart=>exact⟨0,Nat.zero_le _,rfl,rfl⟩
 case round=>
  obtain⟨k,hk,rfl,rfl⟩:=hrel
  by_cases hlt:k<len
  ·have hcell:=hc k hlt;have HL:=J6 (hl k hlt);have HF:=J6 (fol_le Qs HS.out l k);clear hc hl
   go_wp2_with (go_at_call 83;refine(plus_does _ _ _ HF.out HL.out).mono ?_;rintro e w' ⟨rfl,rfl⟩)
   go_round
   case rel=>exact⟨k+1,by omega,by go_num,rfl⟩
   case measure=>simp [intOf];omega
  ·have e:k=len:=by omega
   subst e;clear hc hl
   go_wp2
   go_ret
   exact⟨rfl,rfl⟩
theorem Zf(g o len cap:Nat)(s:Int)(l:Nat->Int)(w:World)(hs:s<=top)(hlen:len<=140737488351232)(hl:∀j,j<len->l j<=top)
  (hc:∀j,j<len->w.cell? ⟨g,o+j,none⟩=some (.int .i64 (l j))):
  Calls Tryz.prog 82 #[.slice (some ⟨g,o,none⟩) len cap,.int .i64 s,.func (.func 162) #[] #[]] w fun e w'=>e=.returned (.int .i64 (fol ti s l len))/\w=w':=by
 have HS:=J6 hs;clear hs
 go_enter Tryz.func82,Tryz.ntmps82
 go_wp2_with fail
 go_loop [1,11] (fun t i=>∃k:Nat,k<=len/\i=.int .i64 k/\t=.int .i64 (fol ti s l k)) (fun _ i=>len-(intOf i).toNat)
 case atStart=>exact⟨0,Nat.zero_le _,rfl,rfl⟩
 case round=>
  obtain⟨k,hk,rfl,rfl⟩:=hrel
  by_cases hlt:k<len
  ·have hcell:=hc k hlt;have HL:=J6 (hl k hlt);have HF:=J6 (fol_le ti_le HS.out l k);clear hc hl
   go_wp2_with (go_at_call 162;refine(Ys _ _ _ HF.out HL.out).mono ?_;rintro e w' ⟨rfl,rfl⟩)
   go_round
   case rel=>exact⟨k+1,by omega,by go_num,rfl⟩
   case measure=>simp [intOf];omega
  ·have e:k=len:=by omega
   subst e;clear hc hl
   go_wp2
   go_ret
   exact⟨rfl,rfl⟩
theorem add_any(g o len cap:Nat)(l:Nat->Int)(w:World)(hlen:len<=140737488351232)(hl:∀j,j<len->l j<=top)
  (hc:∀j,j<len->w.cell? ⟨g,o+j,none⟩=some (.int .i64 (l j))):
  Calls Tryz.prog 39 #[.slice (some ⟨g,o,none⟩) len cap] w fun e w'=>e=.returned (.int .i64 (fol pl 0 l len))/\w=w':=by
 have HC:=J6 hc;have HL:=J6 hl;clear hc hl
 go_enter Tryz.func39,Tryz.ntmps39
 go_wp2_with (go_at_call 82;refine(fold_plus _ _ _ _ _ l _ (by unfold top;omega) hlen HL.out HC.out).mono ?_;rintro e w' ⟨rfl,rfl⟩)
 go_ret
 exact⟨rfl,rfl⟩
theorem mul_any(g o len cap:Nat)(l:Nat->Int)(w:World)(hlen:len<=140737488351232)(hl:∀j,j<len->l j<=top)
  (hc:∀j,j<len->w.cell? ⟨g,o+j,none⟩=some (.int .i64 (l j))):
  Calls Tryz.prog 198 #[.slice (some ⟨g,o,none⟩) len cap] w fun e w'=>e=.returned (.int .i64 (fol ti 1 l len))/\w=w':=by
 have HC:=J6 hc;have HL:=J6 hl;clear hc hl
 go_enter Tryz.func198,Tryz.ntmps198
 go_wp2_with (go_at_call 82;refine(Zf _ _ _ _ _ l _ (by unfold top;omega) hlen HL.out HC.out).mono ?_;rintro e w' ⟨rfl,rfl⟩)
 go_ret
 exact⟨rfl,rfl⟩
end
end Go.Proofs.YtnmalggmbeipaaaGreatDoor
