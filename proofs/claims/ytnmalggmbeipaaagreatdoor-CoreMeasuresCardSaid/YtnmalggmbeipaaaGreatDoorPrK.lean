/- A part of the proof. -/
import Derived.Test.YtnmalggmbeipaaaGreatDoorTb
import Derived.Test.YtnmalggmbeipaaaGreatDoorRegion
import Derived.LoopTactic
import Derived.Test.YtnmalggmbeipaaaGreatDoorRa
import Derived.Deep.QuietTactic
import Derived.BigQuiet
import Derived.Test.YtnmalggmbeipaaaGreatDoorTa
import Derived.Lib.Strings
import Derived.Lib.Slices
import Derived.Lib.Builder
import Derived.Lib.AppendStr
import Derived.Lib.UnsafeStr
import Derived.Laws.Externs
import Derived.Laws.IdiomCopy
import Derived.Laws.BitsLemmas
import Derived.Shelf.Strconv.Itoa3
import Derived.Lib.ItoaNum
import Derived.Lib.ItoaMem
import Derived.Lib.ItoaLen
import Derived.Test.YtnmalggmbeipaaaGreatDoorPbH
import Derived.Test.YtnmalggmbeipaaaGreatDoorPbU
import Derived.LaidSub
import Derived.Lay
set_option maxRecDepth 100000
set_option maxHeartbeats 16000000
namespace Go.Proofs.YtnmalggmbeipaaaGreatDoor
section
section
open Go Go.RowKit
end
section
open Go Go.RowKit
end
end
end Go.Proofs.YtnmalggmbeipaaaGreatDoor
namespace Go.Proofs.YtnmalggmbeipaaaGreatDoor.Reg
open Go Go.RowKit
section
variable {ops:Array Oper}
structure GenC(n:Nat)(R0 R1:World->Prop)(l:Array Bool)(X:World):Prop where
 ahead:l.getD n false=false->R0 X
 done:l.getD n false=true->R1 X
theorem GenC.not{n i:Nat}{R0 R1:World->Prop}{l:Array Bool}{X:World}(_h:GenC n R0 R1 l X)(hcl:ClosedL ops l)(hr:reach ops 30 n i=true)(hun:l.getD i false=false):l.getD n false=false:=by
 cases e:l.getD n false with
 |false=>rfl
 |true=>rw [closed_reach hcl _ _ _ hr e] at hun;cases hun
theorem GenC.at{n i:Nat}{R0 R1:World->Prop}{l:Array Bool}{X:World}(h:GenC n R0 R1 l X)(hcl:ClosedL ops l)(hr:reach ops 30 n i=true)(hun:l.getD i false=false):R0 X:=
 h.ahead (h.not hcl hr hun)
theorem GenC.up{n i:Nat}{R0 R1:World->Prop}{l:Array Bool}{X:World}(h:GenC n R0 R1 l X)(hi:i≠n):GenC n R0 R1 (l.setIfInBounds i true) X:=by
 refine⟨fun e=> ?_,fun e=> ?_⟩
 ·rw [getD_set_ne false hi] at e;exact h.ahead e
 ·rw [getD_set_ne false hi] at e;exact h.done e
theorem GenC.step{n i:Nat}{R0 R1:World->Prop}{l:Array Bool}{X Y:World}(h:GenC n R0 R1 l X)(hcl:ClosedL ops l)(hr:reach ops 30 n i=true)(hun:l.getD i false=false)(hi:i≠n)(hY:R0 Y):GenC n R0 R1 (l.setIfInBounds i true) Y:=by
 refine⟨fun _=>hY,fun e=> ?_⟩;rw [getD_set_ne false hi,h.not hcl hr hun] at e
 cases e
theorem GenC.put{n:Nat}{R0 R1:World->Prop}{l:Array Bool}{Y:World}(hin:n<l.size)(hR:R1 Y):GenC n R0 R1 (l.setIfInBounds n true) Y:=by
 refine⟨fun e=> ?_,fun _=>hR⟩;rw [set_self hin] at e;cases e
theorem GenC.start{n k:Nat}{X:World}(R0 R1:World->Prop)(h:R0 X):GenC n R0 R1 (Array.replicate k false) X:=
 ⟨fun _=>h,fun e=>by simp [Array.getD_eq_getD_getElem?,Array.getElem?_replicate] at e;split at e<;>simp_all⟩
end
end Go.Proofs.YtnmalggmbeipaaaGreatDoor.Reg
namespace Go.Proofs.YtnmalggmbeipaaaGreatDoor
section
section
open Go Go.RowKit
abbrev HeldZ(W:World)(gs:Nat)(a b c d:Int)(w':World):Prop:=
 (w'.cell? ⟨gs,0,none⟩=some (.int .u64 a)/\w'.cell? ⟨gs,1,none⟩=some (.int .u64 b)/\w'.cell? ⟨gs,2,none⟩=some (.int .u64 c)/\w'.cell? ⟨gs,3,none⟩=some (.int .u64 d))/\gs<w'.heap.size/\Below W.heap.size W w'
theorem heldZ_below{W:World}{gs:Nat}{a b c d:Int}{X Y:World}(hb:Below X.heap.size X Y)(h:HeldZ W gs a b c d X):HeldZ W gs a b c d Y:=by
 obtain⟨⟨h0,h1,h2,h3⟩,hg,hB⟩:=h;exact⟨⟨(hb.cell (p:=⟨gs,0,none⟩) hg).trans h0,(hb.cell (p:=⟨gs,1,none⟩) hg).trans h1,(hb.cell (p:=⟨gs,2,none⟩) hg).trans h2,(hb.cell (p:=⟨gs,3,none⟩) hg).trans h3⟩,Nat.lt_of_lt_of_le hg hb.size,hB.trans (hb.mono hB.size)⟩
theorem size_setZ(w:World)(a:Addr)(v:Value):(w.setCell a v).heap.size=w.heap.size:=by simp only [World.setCell,Array.size_modify]
end
section
open Go Go.RowKit
attribute [local go_sem ↓] Go.wp_at_zero Go.wp_at_succ
attribute [local go_sem] qX
theorem firstIs_one{f:Nat->Bool}{v v':Value}(h:FirstIs f v)(h':FirstIs f v'):v=v':=by
 rcases h with ⟨h,rfl⟩|⟨n,hn,hf,hl,rfl⟩
 ·rcases h' with ⟨_,rfl⟩|⟨m,hm,hg,_,_⟩
  ·rfl
  ·rw [h m hm] at hg;cases hg
 ·rcases h' with ⟨h',_⟩|⟨m,hm,hg,hk,rfl⟩
  ·rw [h' n hn] at hf;cases hf
  ·rcases Nat.lt_trichotomy n m with e|e|e
   ·rw [hk n e] at hf;cases hf
   ·subst e;rfl
   ·rw [hl m e] at hg;cases hg
theorem first_at{a b c d:Int}{w:World}{v:Value}(fa:Fit a)(fb:Fit b)(fc:Fit c)(fd:Fit d)(hT:Tab w)(hv:FirstIs (kn a b c d) v):
  Calls Tryz.prog 109 #[.agg #[.int .u64 a,.int .u64 b,.int .u64 c,.int .u64 d]] w fun e w'=>e=.returned v/\Below w.heap.size w w':=
 (first_any a b c d w fa fb fc fd hT).mono fun e w' ⟨v',he,h',hb⟩=>⟨by rw [he,firstIs_one h' hv],hb⟩
def endTold(lo:Nat)(a b c d g:Int)(okb:Bool):Nat->Reg.Told
 |0=>.inl (.int .u8 ((lo:Int)))
 |1=>.inl (.agg #[.int .u64 (XE lo 0),.int .u64 (XE lo 1),.int .u64 (XE lo 2),.int .u64 (XE lo 3)])
 |2=>.inl (.agg #[.int .u64 a,.int .u64 b,.int .u64 c,.int .u64 d])
 |3=>.inl (.agg #[.int .u64 (an (XE lo 0) (nt a)),.int .u64 (an (XE lo 1) (nt b)),.int .u64 (an (XE lo 2) (nt c)),.int .u64 (an (XE lo 3) (nt d))])
 |4=>.inl (.tuple #[.int .u8 g,.bool okb])
 |5=>.inl (.tuple #[.int .u8 g,.bool okb])
 |6=>.inl (.int .u8 g)
 |7=>.inl (.bool okb)
 |8=>.inl (.int .u8 g)
 |9=>.inl (.bool okb)
 |_=>.inl undef
theorem end_at(lo:Nat)(a b c d g:Int)(okb:Bool)(r:Int)(w:World)(hlo:lo<256)(hT:Tab w)(hF:FirstIs (kn (an (XE lo 0) (nt a)) (an (XE lo 1) (nt b)) (an (XE lo 2) (nt c)) (an (XE lo 3) (nt d))) (.tuple #[.int .u8 g,.bool okb]))(hr:(okb=false/\r=255)\/(okb=true/\1<=g/\g<=255/\r=g-1)):
  Calls Tryz.prog 214 #[.agg #[.int .u64 a,.int .u64 b,.int .u64 c,.int .u64 d],.int .u8 lo] w fun e w'=>e=.returned (.int .u8 r)/\Below w.heap.size w w':=by
 have HF:=hid hF;clear hF
 go_enter Tryz.func214,Tryz.ntmps214
 go_wp2_with fail
 generalize hws:w.alloc _=ws
 have HS:HeldZ ws w.heap.size a b c d ws:=by
  subst hws;exact⟨⟨by simp [go_sem],by simp [go_sem],by simp [go_sem],by simp [go_sem]⟩,by simp,Below.refl _ _⟩
 have hba:Below w.heap.size w ws:=by subst hws;exact j3 _ _
 clear hws;have HT:=hid (hT.up hba);have HB:=hid hba;have hs:=hba.size;have HW:=heldZ_below (Below.refl _ ws).drew HS;clear hT hba HS;generalize w.heap.size=gs at HW ⊢;refine Reg.wp_region_told (endTold lo a b c d g okb) [] [0,1,2,3,4,5,6,7,8,9] (by kernel_rfl) (by kernel_rfl) (by kernel_rfl) (by intro f hf;cases hf) (by intro f hf;cases hf) ?_ ?_
 focus
  refine⟨Reg.opOK_plain (by rfl) fun G listed A wv hI hall=>.inl ⟨Reg.wn,?_⟩,?_⟩
  focus
   have e1:=hI.wo 1 rfl;clear hI hall HW;unfold Reg.Yields
   go_simp
   exact Reg.good_val (by rfl) (by rfl) (Below.refl _ _)
  refine⟨Reg.opOK_plain (by rfl) fun G listed A wv hI hall=>.inl ⟨Reg.wn,?_⟩,?_⟩
  focus
   have e8:=hI.ev (i:=0) (d:=8) (by rfl) (by rfl) (hall ⟨0,.data⟩ (by simp) rfl);clear hI hall HW;unfold Reg.Yields
   go_simp
   exact(XF lo hlo _).mono fun e w'' ⟨he,hb⟩=>⟨_,he,Reg.good_val (by rfl) (by rfl) hb⟩
  refine⟨Reg.opOK_plain (by rfl) fun G listed A wv hI hall=>.inl ⟨Reg.wn,?_⟩,?_⟩
  focus
   have H:=heldZ_below hI.base HW;have e2:=hI.wo 2 rfl;clear hI hall HW;unfold Reg.Yields
   go_simp
   exact Reg.good_val (by rfl) (by rfl) (Below.refl _ _)
  refine⟨Reg.opOK_plain (by rfl) fun G listed A wv hI hall=>.inl ⟨Reg.wn,?_⟩,?_⟩
  focus
   have e9:=hI.ev (i:=1) (d:=9) (by rfl) (by rfl) (hall ⟨1,.data⟩ (by simp) rfl);have e10:=hI.ev (i:=2) (d:=10) (by rfl) (by rfl) (hall ⟨2,.data⟩ (by simp) rfl);clear hI hall HW;unfold Reg.Yields
   go_simp
   exact(Up _ _ _ _ _ _ _ _ _).mono fun e w'' ⟨he,hb⟩=>⟨_,he,Reg.good_val (by rfl) (by rfl) hb⟩
  refine⟨Reg.opOK_plain (by rfl) fun G listed A wv hI hall=>.inl ⟨Reg.wn,?_⟩,?_⟩
  focus
   have H:=heldZ_below hI.base HW;have e11:=hI.ev (i:=3) (d:=11) (by rfl) (by rfl) (hall ⟨3,.data⟩ (by simp) rfl);clear hI hall HW;unfold Reg.Yields
   go_simp
   exact(first_at (vK _ _) (vK _ _) (vK _ _) (vK _ _) (HT.out.below H.2.2 HT.out.lt) HF.out).mono fun e w'' ⟨he,hb⟩=>⟨_,he,Reg.good_val (by rfl) (by rfl) hb⟩
  refine⟨Reg.opOK_plain (by rfl) fun G listed A wv hI hall=>.inl ⟨Reg.wn,?_⟩,?_⟩
  focus
   have e12:=hI.ev (i:=4) (d:=12) (by rfl) (by rfl) (hall ⟨4,.data⟩ (by simp) rfl);clear hI hall HW;unfold Reg.Yields
   go_simp
   exact Reg.good_val (by rfl) (by rfl) (Below.refl _ _)
  refine⟨Reg.opOK_plain (by rfl) fun G listed A wv hI hall=>.inl ⟨Reg.wn,?_⟩,?_⟩
  focus
   have e7:=hI.ev (i:=5) (d:=7) (by rfl) (by rfl) (hall ⟨5,.data⟩ (by simp) rfl);clear hI hall HW;unfold Reg.Yields
   go_simp
   exact Reg.good_val (by rfl) (by rfl) (Below.refl _ _)
  refine⟨Reg.opOK_plain (by rfl) fun G listed A wv hI hall=>.inl ⟨Reg.wn,?_⟩,?_⟩
  focus
   have e7:=hI.ev (i:=5) (d:=7) (by rfl) (by rfl) (hall ⟨5,.data⟩ (by simp) rfl);clear hI hall HW;unfold Reg.Yields
   go_simp
   exact Reg.good_val (by rfl) (by rfl) (Below.refl _ _)
  refine⟨Reg.opOK_plain (by rfl) fun G listed A wv hI hall=>.inl ⟨Reg.wn,?_⟩,?_⟩
  focus
   have e13:=hI.ev (i:=6) (d:=13) (by rfl) (by rfl) (hall ⟨6,.data⟩ (by simp) rfl);clear hI hall HW;unfold Reg.Yields
   go_simp
   exact Reg.good_val (by rfl) (by rfl) (Below.refl _ _)
  refine⟨Reg.opOK_plain (by rfl) fun G listed A wv hI hall=>.inl ⟨Reg.wn,?_⟩,?_⟩
  focus
   have e14:=hI.ev (i:=7) (d:=14) (by rfl) (by rfl) (hall ⟨7,.data⟩ (by simp) rfl);clear hI hall HW;unfold Reg.Yields
   go_simp
   exact Reg.good_val (by rfl) (by rfl) (Below.refl _ _)
  trivial
 intro G w2 hI;have H:=heldZ_below hI.base HW;have HFin:=hid (HB.out.trans (H.2.2.mono hs));clear hI HW H;simp [Reg.finalTmps,Reg.dstAt,Reg.valOf,endTold]
 rcases hr with ⟨rfl,rfl⟩|⟨rfl,h1,h2,rfl⟩
 ·go_wp2
  go_ret
  exact⟨rfl,HFin.out⟩
 ·have hu:IntKind.u8.wrap (g-1)=g-1:=by simp [IntKind.wrap,IntKind.signed,IntKind.bits];omega
  go_wp2
  go_ret
  exact⟨rfl,HFin.out⟩
end
section
open Go Go.RowKit
theorem end_any{a b c d:Int}{lo hi:Nat}{w:World}(hlo:lo<=hi)(hhi:hi<256)(hall:∀n,lo<=n->n<=hi->kn a b c d n=true)(hmax:hi=255\/kn a b c d (hi+1)=false)(hT:Tab w):
  Calls Tryz.prog 214 #[.agg #[.int .u64 a,.int .u64 b,.int .u64 c,.int .u64 d],.int .u8 lo] w fun e w'=>e=.returned (.int .u8 (hi:Int))/\Below w.heap.size w w':=by
 have hm:∀n,n<256->kn (an (XE lo 0) (nt a)) (an (XE lo 1) (nt b)) (an (XE lo 2) (nt c)) (an (XE lo 3) (nt d)) n=(decide (lo<=n) && !kn a b c d n):=fun n hn=>by rw [ZI,Vn,Xt lo n hn]
 by_cases h:hi=255
 ·refine end_at lo a b c d 0 false hi w (by omega) hT (.inl ⟨fun n hn=> ?_,rfl⟩) (.inl ⟨rfl,by omega⟩);rw [hm n hn]
  by_cases h1:lo<=n
  ·rw [hall n h1 (by omega)];simp
  ·simp [h1]
 ·have hf:=hmax.resolve_left h;refine end_at lo a b c d ((hi+1:Nat):Int) true hi w (by omega) hT (.inr ⟨hi+1,by omega,?_,fun i hi'=> ?_,rfl⟩) (.inr ⟨rfl,by omega,by omega,by omega⟩)
  ·rw [hm _ (by omega),hf];simp;omega
  ·rw [hm i (by omega)]
   by_cases h1:lo<=i
   ·rw [hall i h1 (by omega)];simp
   ·simp [h1]
theorem top_of(f:Nat->Bool)(lo:Nat)(hl:lo<256)(h:f lo=true):∃hi,lo<=hi/\hi<256/\(∀n,lo<=n->n<=hi->f n=true)/\(hi=255\/f (hi+1)=false):=by
 rcases least_of (fun n=>decide (lo<=n) && !f n) 256 with h0|⟨m,hm,h1,h2⟩
 ·refine⟨255,by omega,by omega,fun n h1 h2=> ?_,.inl rfl⟩;have:=h0 n (by omega);simpa [h1] using this
 ·simp at h1;have hne:m≠lo:=fun e=>by subst e;rw [h] at h1;simp at h1
  refine⟨m-1,by omega,by omega,fun n h3 h4=> ?_,.inr (by rw [show m-1+1=m by omega];exact h1.2)⟩;have:=h2 n (by omega);simpa [h3] using this
def inRs(rs:List (Nat×Nat))(n:Nat):Bool:=rs.any fun p=>decide (p.1<=n/\n<=p.2)
def Rise:List (Nat×Nat)->Prop
 | []=>True
 | [p]=>p.1<=p.2/\p.2<256
 |p::q::r=>p.1<=p.2/\p.2<256/\p.2+1<q.1/\Rise (q::r)
theorem rise_snoc(rs:List (Nat×Nat))(lo hi:Nat)(h:Rise rs)(h1:lo<=hi)(h2:hi<256)(hl:∀p,rs.getLast? =some p->p.2+1<lo):Rise (rs++ [(lo,hi)]):=by
 induction rs with
 |nil=>exact⟨h1,h2⟩
 |cons p r ih=>
  cases r with
  |nil=>exact⟨h.1,h.2,hl p rfl,h1,h2⟩
  |cons q r=>exact⟨h.1,h.2.1,h.2.2.1,ih h.2.2.2 (fun p' hp'=>hl p' (by rw [List.getLast?_cons_cons];exact hp'))⟩
theorem rise_each:∀(rs:List (Nat×Nat)),Rise rs->∀i (h:i<rs.length),rs[i].1<=rs[i].2/\rs[i].2<256/\∀(h':i+1<rs.length),rs[i].2+1<rs[i+1].1
 | [],_,i,h=>absurd h (by simp)
 | [p],hr,0,_=>⟨hr.1,hr.2,fun h'=>absurd h' (by simp)⟩
 |p::q::r,hr,0,_=>⟨hr.1,hr.2.1,fun _=>hr.2.2.1⟩
 |p::q::r,hr,i+1,h=>by
  have:=rise_each (q::r) hr.2.2.2 i (by simpa using h);exact⟨this.1,this.2.1,fun h'=>this.2.2 (by simpa using h')⟩
def RsOK(f:Nat->Bool)(rs:List (Nat×Nat))(H:Nat):Prop:=
 Rise rs/\rs.length<=H/\H<=256/\(∀p,rs.getLast? =some p->p.2+1=H/\(H=256\/f H=false))/\∀n,n<256->inRs rs n=(f n && decide (n<H))
theorem rsOK_nil(f:Nat->Bool):RsOK f [] 0:=⟨trivial,jN _,by omega,(fun p h=>by simp at h),(fun n _=>by simp [inRs])⟩
theorem rsOK_snoc{f:Nat->Bool}{rs:List (Nat×Nat)}{H lo hi:Nat}(h:RsOK f rs H)(hH:H<=lo)(hl:f lo=true)(hlt:lo<256)(hle:lo<=hi)(hhi:hi<256)(hno:∀n,H<=n->n<lo->f n=false)(hall:∀n,lo<=n->n<=hi->f n=true)(hmax:hi=255\/f (hi+1)=false):
  RsOK f (rs++ [(lo,hi)]) (hi+1):=by
 obtain⟨h1,h2,h3,h4,h5⟩:=h;refine⟨rise_snoc rs lo hi h1 hle hhi fun p hp=> ?_,by simp;omega,by omega,fun p hp=> ?_,fun n hn=> ?_⟩
 ·obtain⟨e,hc⟩:=h4 p hp
  rcases hc with hc|hc
  ·omega
  ·have:lo≠H:=fun e=>by subst e;rw [hl] at hc;cases hc
   omega
 ·simp at hp;subst hp;exact⟨rfl,hmax.imp (by omega) id⟩
 ·unfold inRs at h5 ⊢;rw [List.any_append,h5 n hn];simp only [List.any_cons,List.any_nil,Bool.or_false]
  by_cases c1:n<H
  ·have c2:n<hi+1:=by omega
   have c3:¬lo<=n:=by omega
   simp [c1,c2,c3]
  ·by_cases c2:n<lo
   ·rw [hno n (by omega) c2];simp;omega
   ·by_cases c3:n<=hi
    ·rw [hall n (by omega) c3];have c4:n<hi+1:=by omega
     have c5:lo<=n:=by omega
     simp [c3,c4,c5]
    ·have c4:¬n<hi+1:=by omega
     simp [c1,c3,c4]
end
section
open Go Go.RowKit
attribute [local go_sem ↓] Go.wp_at_zero Go.wp_at_succ
attribute [local go_sem] qX
def pairVals(rs:List (Nat×Nat)):List Value:=rs.flatMap fun p=> [.int .u8 (p.1:Int),.int .u8 (p.2:Int)]
theorem pairVals_snoc(rs:List (Nat×Nat))(lo hi:Nat):pairVals (rs++ [(lo,hi)])=pairVals rs++ [.int .u8 (lo:Int),.int .u8 (hi:Int)]:=by simp [pairVals]
theorem Tryz.infoPair2:(Tryz.prog.info? 273).map (fun i=>(i.zero,i.size,i.bytes))=some (some (.agg #[.int .u8 0,.int .u8 0]),2,2):=by kernel_rfl
def lenOf:Value->Nat
 | .slice _ n _=>n
 |_=>0
theorem len_own{w:World}{B n sz:Nat}{e:TypeId}{v:Value}{xs:List Value}(h:w.ownsRow B e sz v n xs):lenOf v=n:=by
 rcases h.2 with ⟨rfl,rfl⟩|⟨g,cap,cur,rfl,_⟩<;>rfl
theorem cell_two_p(w:World)(x y:Value)(t:TypeId):∀j u,[x,y][j]? =some u->(w.alloc (.cells #[x,y] t)).cell? ((⟨w.heap.size,0,none⟩:Addr).add j)=some u:=by
 intro j u hj
 match j,hj with
 |0,hj=>simp at hj;subst hj;simp [Addr.add]
 |1,hj=>simp at hj;subst hj;simp [Addr.add]
theorem two_u8(x y:Int):∀u∈ [Value.int .u8 x,Value.int .u8 y],u.oneCell'=true:=by
 intro u hu;have:u=.int .u8 x\/u=.int .u8 y:=by simpa using hu
 rcases this with rfl|rfl<;>rfl
def GR(w:World)(rs:List (Nat×Nat))(c0 c1 c2 c3:Int)(vl:Value)(wr:World):Prop:=
 wr.heap[w.heap.size]? =some (.cells #[.int .u64 c0,.int .u64 c1,.int .u64 c2,.int .u64 c3] 29)/\wr.ownsRow (w.heap.size+1) 273 2 vl rs.length (pairVals rs)/\Below w.heap.size w wr/\w.heap.size+1<=wr.heap.size
theorem GR.up{w wr w1:World}{rs:List (Nat×Nat)}{c0 c1 c2 c3:Int}{vl:Value}(h:GR w rs c0 c1 c2 c3 vl wr)(hb:Below wr.heap.size wr w1):GR w rs c0 c1 c2 c3 vl w1:=
 ⟨(hb.block _ (sizeOfGet h.1)).trans h.1,vX h.2.1 hb,h.2.2.1.trans (hb.mono h.2.2.1.size),Nat.le_trans h.2.2.2 hb.size⟩
theorem GR.add{w w1 w2:World}{rs:List (Nat×Nat)}{c0 c1 c2 c3:Int}{vl v':Value}{o:Obj}{lo hi:Nat}(h:GR w rs c0 c1 c2 c3 vl w1)(ho:w2.ownsRow (w.heap.size+1) 273 2 v' (rs.length+1) (pairVals rs++ [.int .u8 (lo:Int),.int .u8 (hi:Int)]))(hg:(w1.alloc o).grownBy w2 vl.ownBlock):
  GR w (rs++ [(lo,hi)]) c0 c1 c2 c3 v' w2:=by
 have hb:=belowApp h.2.1 hg h.2.2.2;refine⟨(hb.block _ (by omega)).trans h.1,?_,h.2.2.1.trans (hb.mono (by omega)),Nat.le_trans h.2.2.2 hb.size⟩;rw [pairVals_snoc,List.length_append];exact ho
theorem GR.held{w wr:World}{rs:List (Nat×Nat)}{c0 c1 c2 c3:Int}{vl:Value}(h:GR w rs c0 c1 c2 c3 vl wr):HeldZ wr w.heap.size c0 c1 c2 c3 wr:=
 ⟨⟨jC h.1 0,jC h.1 1,jC h.1 2,jC h.1 3⟩,sizeOfGet h.1,Below.refl _ _⟩
theorem GR.store{w wr:World}{rs:List (Nat×Nat)}{c0 c1 c2 c3 d0 d1 d2 d3:Int}{vl:Value}(h:GR w rs c0 c1 c2 c3 vl wr):
  GR w rs d0 d1 d2 d3 vl ((((wr.setCell ⟨w.heap.size,0,none⟩ (.int .u64 d0)).setCell ⟨w.heap.size,1,none⟩ (.int .u64 d1)).setCell ⟨w.heap.size,2,none⟩ (.int .u64 d2)).setCell ⟨w.heap.size,3,none⟩ (.int .u64 d3)):=by
 have hs:∀{X:World} {n:Nat} {xs:List Value} {v:Value} (o:Nat) (u:Value),X.ownsRow (w.heap.size+1) 273 2 v n xs->(X.setCell ⟨w.heap.size,o,none⟩ u).ownsRow (w.heap.size+1) 273 2 v n xs:=by
  intro X n xs v o u h;refine⟨h.1,?_⟩
  rcases h.2 with h2|⟨b,cap,cur,rfl,hb',hh,r⟩
  ·exact .inl h2
  ·exact .inr ⟨b,cap,cur,rfl,hb',(Below.heap_setCell _ _ _ _ (by show b≠w.heap.size;omega)).trans hh,r⟩
 exact⟨Joins.block_setCell (Joins.block_setCell (Joins.block_setCell (Joins.block_setCell h.1 _) _) _) _,hs _ _ (hs _ _ (hs _ _ (hs _ _ h.2.1))),kD h.2.2.1 (jN _) _ _ _ _,by rw [size_setZ,size_setZ,size_setZ,size_setZ];exact h.2.2.2⟩
def Cur(f:Nat->Bool)(H:Nat)(c0 c1 c2 c3:Int):Prop:=Fit c0/\Fit c1/\Fit c2/\Fit c3/\∀n,n<256->kn c0 c1 c2 c3 n=(f n && decide (H<=n))
theorem Cur.next{f:Nat->Bool}{H lo hi:Nat}{c0 c1 c2 c3:Int}(h:Cur f H c0 c1 c2 c3)(hhi:hi<256)(hno:∀n,H<=n->n<lo->f n=false)(hH:H<=lo)(hle:lo<=hi):Cur f (hi+1) (an c0 (nt (yM lo hi 0))) (an c1 (nt (yM lo hi 1))) (an c2 (nt (yM lo hi 2))) (an c3 (nt (yM lo hi 3))):=by
 refine⟨vK _ _,vK _ _,vK _ _,vK _ _,fun n hn=> ?_⟩;rw [ZI,Vn,Qy lo hi n hhi hn,h.2.2.2.2 n hn]
 by_cases c1:H<=n
 ·by_cases c2:n<lo
  ·rw [hno n c1 c2];simp
  ·by_cases c3:n<=hi
   ·have c4:lo<=n:=by omega
    have c5:¬hi+1<=n:=by omega
    simp [c3,c4,c5]
   ·have c5:hi+1<=n:=by omega
    simp [c1,c3,c5]
 ·have c5:¬hi+1<=n:=by omega
  simp [c1,c5]
def rngTold(lo hi:Nat)(c0 c1 c2 c3:Int):Nat->Reg.Told
 |0=>.inl (.agg #[.int .u64 c0,.int .u64 c1,.int .u64 c2,.int .u64 c3])
 |1=>.inl (.int .u8 ((lo:Int)))
 |2=>.inl (.int .u8 ((hi:Int)))
 |3=>.inl (.agg #[.int .u64 (yM lo hi 0),.int .u64 (yM lo hi 1),.int .u64 (yM lo hi 2),.int .u64 (yM lo hi 3)])
 |4=>.inl (.agg #[.int .u64 (an c0 (nt (yM lo hi 0))),.int .u64 (an c1 (nt (yM lo hi 1))),.int .u64 (an c2 (nt (yM lo hi 2))),.int .u64 (an c3 (nt (yM lo hi 3)))])
 |_=>.inl undef
def RR(w:World)(f:Nat->Bool)(vl vlo vok:Value)(wr:World):Prop:=
 ∃rs H c0 c1 c2 c3,FirstIs (kn c0 c1 c2 c3) (.tuple #[vlo,vok])/\RsOK f rs H/\Cur f H c0 c1 c2 c3/\GR w rs c0 c1 c2 c3 vl wr
theorem ranges_any(a b c d:Int)(w:World)(fa:Fit a)(fb:Fit b)(fc:Fit c)(fd:Fit d)(hT:Tab w):
  Calls Tryz.prog 178 #[.agg #[.int .u64 a,.int .u64 b,.int .u64 c,.int .u64 d]] w fun e w'=>∃rs v,e=.returned v/\Rise rs/\rs.length<=256/\(∀n,n<256->inRs rs n=kn a b c d n)/\w'.ownsRow (w.heap.size+1) 273 2 v rs.length (pairVals rs)/\Below w.heap.size w w':=by
 obtain⟨i0,hif,hz0,hz1,hz2⟩:=info_parts Tryz.infoPair2;have HT:=hid hT;clear hT
 go_enter Tryz.func178,Tryz.ntmps178
 go_wp2_with fail
 have hG:GR w [] a b c d (.slice none 0 0) (w.alloc (.cells #[.int .u64 a,.int .u64 b,.int .u64 c,.int .u64 d] 29)):=⟨j1 _ _,World.ownsRow_nil _ _ _ _,j3 _ _,by simp⟩;have hC:Cur (kn a b c d) 0 a b c d:=⟨fa,fb,fc,fd,fun n _=>by simp⟩;generalize w.alloc (.cells #[.int .u64 a,.int .u64 b,.int .u64 c,.int .u64 d] 29)=W at*;have HG:=hid hG;have HC:=hid hC;clear hG hC;refine(first_any a b c d _ fa fb fc fd (HT.out.up HG.out.2.2.1)).mono ?_;rintro e w1 ⟨v,rfl,hv,hb1⟩;have HV:=hid hv;have HG1:=hid (HG.out.up hb1);clear hb1 HG
 have hvv:v=.tuple #[.int .u8 0,.bool false]\/∃n:Nat,n<256/\v=.tuple #[.int .u8 n,.bool true]:=by
  rcases hv with ⟨_,hv⟩|⟨n,hn,_,_,hv⟩
  ·exact .inl hv
  ·exact .inr ⟨n,hn,hv⟩
 clear hv
 rcases hvv with hv|⟨nf,hnf,hv⟩
 all_goals
  subst hv
  go_wp2_with fail
  go_loopw [3,4,5] (fun vl vlo vok wr=>RR w (kn a b c d) vl vlo vok wr) (fun vl _ _ _=>257-lenOf vl)
  case atStart=>exact⟨[],0,a,b,c,d,HV.out,rsOK_nil _,HC.out,HG1.out⟩
  case round=>
   clear HV HC HG1;obtain⟨rs,H,c0,c1,c2,c3,hF,hR,hC,hG⟩:=hrel;have HR:=hid hR;have HC:=hid hC;have HG:=hid hG;have hl:=len_own hG.2.1;have HL:=hid hl;have hlen:=hR.2.1;have hH:=hR.2.2.1;clear hR hC hG hl
   rcases hF with ⟨hno,hv⟩|⟨lo,hlo,hf,hlow,hv⟩
   ·have h2:u4=.int .u8 0/\u5=.bool false:=by simpa using hv
    obtain⟨rfl,rfl⟩:=h2;clear hv
    have HF:Hid (∀n,n<256->inRs rs n=kn a b c d n):=fun n hn=>by
     have h1:=HC.out.2.2.2.2 n hn;rw [hno n hn] at h1;rw [HR.out.2.2.2.2 n hn]
     by_cases c1:n<H
     ·simp [c1]
     ·have c2:H<=n:=by omega
      simp [c2] at h1;simp [h1]
    clear hno
    go_wp2_with fail
    go_ret
    exact⟨rs,u3,rfl,HR.out.1,by omega,HF.out,HG.out.2.1,HG.out.2.2.1⟩
   ·have h2:u4=.int .u8 lo/\u5=.bool true:=by simpa using hv
    obtain⟨rfl,rfl⟩:=h2;clear hv;have h3:=HC.out.2.2.2.2 lo hlo;rw [hf] at h3;have h4:kn a b c d lo=true/\H<=lo:=by simpa using h3.symm
    obtain⟨hfl,hHl⟩:=h4
    have hno:∀n,H<=n->n<lo->kn a b c d n=false:=fun n h5 h6=>by
     have h7:=HC.out.2.2.2.2 n (by omega);rw [hlow n h6] at h7;simpa [h5] using h7.symm
    obtain⟨hi,hle,hhi,hall,hmax⟩:=top_of (kn a b c d) lo hlo hfl;have HRn:=hid (rsOK_snoc HR.out hHl hfl hlo hle hhi hno hall hmax);have HCn:=hid (HC.out.next hhi hno hHl hle)
    have HALL:Hid (∀n,lo<=n->n<=hi->kn c0 c1 c2 c3 n=true):=fun n h5 h6=>by
     rw [HC.out.2.2.2.2 n (by omega),hall n h5 h6];simp;omega
    have HMAX:Hid (hi=255\/kn c0 c1 c2 c3 (hi+1)=false):=by
     rcases hmax with h|h
     ·exact .inl h
     ·by_cases h9:hi=255
      ·exact .inl h9
      ·exact .inr (by rw [HC.out.2.2.2.2 _ (by omega),h];simp)
    have hh:=HG.out.held;obtain⟨⟨q0,q1,q2,q3⟩,hgl,_⟩:=hh;have HTr:=hid (HT.out.up HG.out.2.2.1);clear h3 hno hall hmax hf hlow hfl
    go_wp2_with fail
    refine(end_any hle hhi HALL.out HMAX.out HTr.out).mono ?_;rintro e w2 ⟨rfl,hb2⟩;have HG2:=hid (HG.out.up hb2);have hs2:=hb2.size;have hs3:=HG.out.2.2.2;have hs4:w.heap.size+1<=w2.heap.size:=by omega
    clear hb2 q0 q1 q2 q3 hgl
    go_wp2_with (at_builtin;go_must (refine wpList_append_own_at _ rfl (.tmp 21) (.tmp 25) 271 rfl (w.heap.size+1) 273 i0 (.agg #[.int .u8 0,.int .u8 0]) 2 2 Tryz.underlying271 hif hz0 hz1 hz2 rfl (by decide) _ _ _ rfl (kt HG2.out.2.1 _) ⟨_,0,none⟩ 1 1 _ rfl rfl (cell_two_p _ _ _ _) (two_u8 _ _) (by unfold maxLen;omega) (by omega) (by simp;omega) ?_);intro v1 w1a ho hgr _ hat;have HG3:=hid (HG2.out.add ho hgr);have HLn:=hid (len_own ho);clear ho hgr hat)
    have HW:=heldZ_below (Below.refl _ w1a).drew HG3.out.held;have hs5:=HG3.out.2.2.2;refine Reg.wp_region_toldY 5 _ (rngTold lo hi c0 c1 c2 c3) [0,1,2,3,4,5] (by kernel_rfl) (by rfl) (by rfl) (by kernel_rfl) (by kernel_rfl) (by kernel_rfl) ?_ ?_
    focus
     refine⟨Reg.opOK_plain (by rfl) fun G listed A wv hI hall=>.inl ⟨Reg.wn,?_⟩,?_⟩
     focus
      have H:=heldZ_below hI.base HW;have e1:=hI.wo 1 rfl;clear hI hall HW;unfold Reg.Yields
      go_simp
      exact Reg.good_val (by rfl) (by rfl) (Below.refl _ _)
     refine⟨Reg.opOK_plain (by rfl) fun G listed A wv hI hall=>.inl ⟨Reg.wn,?_⟩,?_⟩
     focus
      have e4:=hI.wo 4 rfl;clear hI hall HW;unfold Reg.Yields
      go_simp
      exact Reg.good_val (by rfl) (by rfl) (Below.refl _ _)
     refine⟨Reg.opOK_plain (by rfl) fun G listed A wv hI hall=>.inl ⟨Reg.wn,?_⟩,?_⟩
     focus
      have e6:=hI.wo 6 rfl;clear hI hall HW;unfold Reg.Yields
      go_simp
      exact Reg.good_val (by rfl) (by rfl) (Below.refl _ _)
     refine⟨Reg.opOK_plain (by rfl) fun G listed A wv hI hall=>.inl ⟨Reg.wn,?_⟩,?_⟩
     focus
      have e28:=hI.ev (i:=1) (d:=28) (by rfl) (by rfl) (hall ⟨1,.data⟩ (by simp) rfl);have e29:=hI.ev (i:=2) (d:=29) (by rfl) (by rfl) (hall ⟨2,.data⟩ (by simp) rfl);clear hI hall HW;unfold Reg.Yields
      go_simp
      exact(zC lo hi hlo hhi _).mono fun e w'' ⟨he,hb⟩=>⟨_,he,Reg.good_val (by rfl) (by rfl) hb⟩
     refine⟨Reg.opOK_plain (by rfl) fun G listed A wv hI hall=>.inl ⟨Reg.wn,?_⟩,?_⟩
     focus
      have e27:=hI.ev (i:=0) (d:=27) (by rfl) (by rfl) (hall ⟨0,.data⟩ (by simp) rfl);have e30:=hI.ev (i:=3) (d:=30) (by rfl) (by rfl) (hall ⟨3,.data⟩ (by simp) rfl);clear hI hall HW;unfold Reg.Yields
      go_simp
      exact(Up _ _ _ _ _ _ _ _ _).mono fun e w'' ⟨he,hb⟩=>⟨_,he,Reg.good_val (by rfl) (by rfl) hb⟩
     trivial
    intro G w4 hI;have Hh:=heldZ_below hI.base HW;have hu:w4.heap[w.heap.size]? =some (.cells #[.int .u64 c0,.int .u64 c1,.int .u64 c2,.int .u64 c3] 29):=(hI.base.block _ (sizeOfGet HG3.out.1)).trans HG3.out.1;have HG4:=hid (HG3.out.up (Below.trans (Below.refl _ w1a).drew hI.base));have z0:=jU hu 0;have z1:=jU hu 1;have z2:=jU hu 2;have z3:=jU hu 3;obtain⟨⟨q0,q1,q2,q3⟩,hgl,_⟩:=Hh;clear hI HW hu;refine⟨by unfold Region.wanted;rfl,?_⟩;simp [Reg.finalTmps,Reg.dstAt,Reg.valOf,rngTold];unfold Reg.Yields
    go_simp
    have HG5:=hid (HG4.out.store (d0:=an c0 (nt (yM lo hi 0))) (d1:=an c1 (nt (yM lo hi 1))) (d2:=an c2 (nt (yM lo hi 2))) (d3:=an c3 (nt (yM lo hi 3))));obtain⟨W5,hW5⟩:∃W5,W5=((((w4.setCell ⟨w.heap.size,0,none⟩ (.int .u64 (an c0 (nt (yM lo hi 0))))).setCell ⟨w.heap.size,1,none⟩ (.int .u64 (an c1 (nt (yM lo hi 1))))).setCell ⟨w.heap.size,2,none⟩ (.int .u64 (an c2 (nt (yM lo hi 2))))).setCell ⟨w.heap.size,3,none⟩ (.int .u64 (an c3 (nt (yM lo hi 3))))):=⟨_,rfl⟩;rw [<-hW5] at HG5 ⊢;clear hW5 z0 z1 z2 z3 q0 q1 q2 q3 hgl HG4 HG3 HG2 HG;obtain⟨⟨q0,q1,q2,q3⟩,hgl,_⟩:=HG5.out.held
    go_wp2_with fail
    refine(first_any _ _ _ _ _ HCn.out.1 HCn.out.2.1 HCn.out.2.2.1 HCn.out.2.2.2.1 (HT.out.up HG5.out.2.2.1)).mono ?_;rintro e w6 ⟨v,rfl,hv,hb6⟩;have HV6:=hid hv;have HG6:=hid (HG5.out.up hb6);clear hb6 HG5 q0 q1 q2 q3 hgl
    have hvv:v=.tuple #[.int .u8 0,.bool false]\/∃n:Nat,n<256/\v=.tuple #[.int .u8 n,.bool true]:=by
     rcases hv with ⟨_,hv⟩|⟨n,hn,_,_,hv⟩
     ·exact .inl hv
     ·exact .inr ⟨n,hn,hv⟩
    clear hv
    rcases hvv with hv|⟨nf2,hnf2,hv⟩
    all_goals
     subst hv
     go_wp2_with fail
     exact⟨⟨_,_,_,_,_,_,HV6.out,HRn.out,HCn.out,HG6.out⟩,by rw [HLn.out,HL.out];omega⟩
end
end
section
section
open Go Go.RowKit
def hexN(n:Nat):Nat:=if n<10 then 48+n else 87+n
def alnB(b:Nat):Bool:=decide (97<=b) && decide (b<=122)||decide (65<=b) && decide (b<=90)||decide (48<=b) && decide (b<=57)
def plainB(b:Nat):Bool:= [32,33,34,35,37,38,39,44,58,59,60,61,62,64,95,126,96].contains b
def brN(b:Nat):List Nat:=if alnB b||plainB b then [b] else if yU b then [92,b] else [92,120,hexN (b/16),hexN (b % 16)]
def rsT:List (Nat×Nat)->List Nat
 | []=> []
 |p::r=>brN p.1++((if p.1=p.2 then [] else 45::brN p.2)++rsT r)
def clsN(rs:List (Nat×Nat)):List Nat:=91::(rsT rs++ [93])
def rsD(f:Nat->Bool):Nat->List (Nat×Nat)
 |0=> []
 |k+1=>if f (255-k) then(match rsD f k with
   | []=> [(255-k,255-k)]
   |p::r=>if p.1=256-k then(255-k,p.2)::r else(255-k,255-k)::p::r) else rsD f k
def rsOf(f:Nat->Bool):List (Nat×Nat):=rsD f 256
def setN(t:W4):List Nat:=if eqW t (km (jh 10)) then [46] else match zf t with
 | []=> [91,94,92,120,48,48,45,92,120,102,102,93]
 | [b]=>brN b
 |_=>clsN (rsOf t.mem)
theorem rise_head{p:Nat×Nat}{r:List (Nat×Nat)}(h:Rise (p::r)):p.1<=p.2/\p.2<256/\Rise r:=by
 cases r with
 |nil=>exact⟨h.1,h.2,trivial⟩
 |cons q r=>exact⟨h.1,h.2.1,h.2.2.2⟩
theorem rise_cons{p:Nat×Nat}{r:List (Nat×Nat)}(h1:p.1<=p.2)(h2:p.2<256)(hr:Rise r)(hh:∀q,r.head? =some q->p.2+1<q.1):Rise (p::r):=by
 cases r with
 |nil=>exact⟨h1,h2⟩
 |cons q r=>exact⟨h1,h2,hh q rfl,hr⟩
theorem rise_above:∀(r:List (Nat×Nat)) (p:Nat×Nat) (n:Nat),Rise (p::r)->inRs r n=true->p.2+1<n
 | [],_,_,_,hn=>by simp [inRs] at hn
 |q::r,p,n,h,hn=>by
  have h3:p.2+1<q.1:=h.2.2.1;have hq:Rise (q::r):=h.2.2.2;have hq1:=(rise_head hq).1;unfold inRs at hn;rw [List.any_cons,Bool.or_eq_true] at hn
  rcases hn with hn|hn
  ·have:=of_decide_eq_true hn;omega
  ·have:=rise_above r q n hq hn;omega
theorem inRs_cons(p:Nat×Nat)(r:List (Nat×Nat))(n:Nat):inRs (p::r) n=(decide (p.1<=n/\n<=p.2)||inRs r n):=rfl
theorem rise_uniq:∀(rs ss:List (Nat×Nat)),Rise rs->Rise ss->(∀n,n<256->inRs rs n=inRs ss n)->rs=ss
 | [],[],_,_,_=>rfl
 | [],q::s,_,hs,h=>by
  have h1:=rise_head hs;have:=h q.1 (by omega);rw [inRs_cons,jT ⟨jN _,h1.1⟩] at this;simp [inRs] at this
 |p::r,[],hr,_,h=>by
  have h1:=rise_head hr;have:=h p.1 (by omega);rw [inRs_cons,jT ⟨jN _,h1.1⟩] at this;simp [inRs] at this
 |p::r,q::s,hr,hs,h=>by
  have hp:=rise_head hr;have hq:=rise_head hs
  have least:∀(p q:Nat×Nat) (s:List (Nat×Nat)),Rise (q::s)->inRs (q::s) p.1=true->q.1<=p.1:=by
   intro p q s hs h;rw [inRs_cons,Bool.or_eq_true] at h
   rcases h with h|h
   ·exact(of_decide_eq_true h).1
   ·have:=rise_above s q p.1 hs h;have:=(rise_head hs).1;omega
  have e1:p.1=q.1:=by
   apply Nat.le_antisymm
   ·refine least q p r hr ?_;rw [h q.1 (by omega),inRs_cons,jT ⟨jN _,hq.1⟩,Bool.true_or]
   ·refine least p q s hs ?_;rw [<-h p.1 (by omega),inRs_cons,jT ⟨jN _,hp.1⟩,Bool.true_or]
  have top:∀(p q:Nat×Nat) (r s:List (Nat×Nat)),Rise (p::r)->Rise (q::s)->p.1=q.1->(∀n,n<256->inRs (p::r) n=inRs (q::s) n)->q.2<=p.2:=by
   intro p q r s hr hs e h;have hp:=rise_head hr;have hq:=rise_head hs;apply Nat.le_of_not_lt;intro hlt;have:=h (p.2+1) (by omega);rw [inRs_cons,inRs_cons,jT (show q.1<=p.2+1/\p.2+1<=q.2 by omega),Bool.true_or,jF (show ¬(p.1<=p.2+1/\p.2+1<=p.2) by omega),Bool.false_or] at this;have:=rise_above r p _ hr this;omega
  have e2:p.2=q.2:=Nat.le_antisymm (top q p s r hs hr e1.symm (fun n hn=>(h n hn).symm)) (top p q r s hr hs e1 h);have e:p=q:=Prod.ext e1 e2;subst e;rw [rise_uniq r s hp.2.2 hq.2.2 (fun n hn=> ?_)];have hn':=h n hn;rw [inRs_cons,inRs_cons] at hn'
  by_cases hm:n<=p.2
  ·have f:∀(r:List (Nat×Nat)),Rise (p::r)->inRs r n=false:=by
    intro r hr
    cases hx:inRs r n with
    |false=>rfl
    |true=>have:=rise_above r p n hr hx;omega
   rw [f r hr,f s hs]
  ·rw [jF (show ¬(p.1<=n/\n<=p.2) by omega),Bool.false_or,Bool.false_or] at hn';exact hn'
theorem rsD_ok(f:Nat->Bool):∀k,k<=256->Rise (rsD f k)/\(∀p,(rsD f k).head? =some p->256-k<=p.1)/\∀n,n<256->inRs (rsD f k) n=(f n && decide (256-k<=n))
 |0,_=>⟨trivial,fun p h=>by simp [rsD] at h,fun n hn=>by rw [jF (by omega),Bool.and_false];rfl⟩
 |k+1,hk=>by
  obtain⟨h1,h2,h3⟩:=rsD_ok f k (by omega);rw [rsD]
  split
  ·next hf=>
   split
   ·next he=>
    rw [he] at h3;refine⟨⟨jN _,by omega⟩,fun p hp=> ?_,fun n hn=> ?_⟩
    ·have e:=Option.some.inj hp;subst e
     show 256-(k+1)<=255-k
     omega
    ·have e3:=h3 n hn;rw [inRs_cons,e3]
     by_cases hb:n=255-k
     ·subst hb;rw [hf];simp
     ·rw [jF (show ¬(255-k<=n/\n<=255-k) by omega),Bool.false_or];congr 1;rw [decide_eq_decide];omega
   ·next p r he=>
    rw [he] at h1 h2 h3;have hp:=rise_head h1;have hp2:=h2 p rfl
    split
    ·next hb=>
     refine⟨?_,fun q hq=> ?_,fun n hn=> ?_⟩
     ·exact rise_cons (by show 255-k<=p.2;omega) hp.2.1 hp.2.2 (fun q hq=>by
       cases r with
       |nil=>cases hq
       |cons q' r=>have e:=Option.some.inj hq;subst e;exact h1.2.2.1)
     ·have e:=Option.some.inj hq;subst e
      show 256-(k+1)<=255-k
      omega
     ·have e3:=h3 n hn;rw [inRs_cons] at e3 ⊢
      by_cases hb':n=255-k
      ·subst hb';rw [hf,jT (show(255-k)<=255-k/\255-k<=p.2 by omega),jT (by omega)];rfl
      ·have e4:decide ((255-k)<=n/\n<=p.2)=decide (p.1<=n/\n<=p.2):=by
        rw [decide_eq_decide];omega
       rw [e4,e3];congr 1;rw [decide_eq_decide];omega
    ·next hb=>
     refine⟨?_,fun q hq=> ?_,fun n hn=> ?_⟩
     ·refine rise_cons (jN _) (by show 255-k<256;omega) h1 (fun q hq=> ?_);have e:=Option.some.inj hq;subst e
      show 255-k+1<p.1
      omega
     ·have e:=Option.some.inj hq;subst e
      show 256-(k+1)<=255-k
      omega
     ·have e3:=h3 n hn;rw [inRs_cons,e3]
      by_cases hb':n=255-k
      ·subst hb';rw [hf];simp
      ·rw [jF (show ¬(255-k<=n/\n<=255-k) by omega),Bool.false_or];congr 1;rw [decide_eq_decide];omega
  ·next hf=>
   refine⟨h1,fun p hp=>by have:=h2 p hp;omega,fun n hn=> ?_⟩;rw [h3 n hn]
   by_cases hb':n=255-k
   ·subst hb';simp [hf]
   ·congr 1;rw [decide_eq_decide];omega
theorem rsOf_ok(f:Nat->Bool):Rise (rsOf f)/\∀n,n<256->inRs (rsOf f) n=f n:=by
 obtain⟨h1,_,h3⟩:=rsD_ok f 256 (jN _);exact⟨h1,fun n hn=>by rw [show rsOf f=rsD f 256 from rfl,h3 n hn];simp⟩
theorem rsOf_uniq{f:Nat->Bool}{rs:List (Nat×Nat)}(h:Rise rs)(hf:∀n,n<256->inRs rs n=f n):rs=rsOf f:=
 rise_uniq _ _ h (rsOf_ok f).1 (fun n hn=>by rw [hf n hn,(rsOf_ok f).2 n hn])
theorem br_len(b:Nat):0<(brN b).length:=by
 unfold brN
 split
 ·simp
 ·split<;>simp
def rgT(p:Nat×Nat):List Nat:=brN p.1++(if p.1=p.2 then [] else 45::brN p.2)
theorem rsT_cons(p:Nat×Nat)(r:List (Nat×Nat)):rsT (p::r)=rgT p++rsT r:=by
 show brN p.1++((if p.1=p.2 then [] else 45::brN p.2)++rsT r)=(brN p.1++(if p.1=p.2 then [] else 45::brN p.2))++rsT r
 rw [List.append_assoc]
def baN(l:List Nat):ByteArray:=⟨(l.map Nat.toUInt8).toArray⟩
theorem baN_size(l:List Nat):(baN l).size=l.length:=by
 show(l.map Nat.toUInt8).toArray.size=_
 simp
theorem baN_append(l m:List Nat):baN (l++m)=baN l++baN m:=by
 apply ByteArray.ext;rw [ByteArray.data_append]
 show((l++m).map Nat.toUInt8).toArray=(l.map Nat.toUInt8).toArray++(m.map Nat.toUInt8).toArray
 rw [List.map_append];simp
end
end
section
section
open Go Go.RowKit
attribute [local go_sem ↓] Go.wp_at_zero Go.wp_at_succ
theorem pidx_one(S:ByteArray)(c:UInt8)(v:Int)(hv:firstIdx S c=v)(hS:1<S.size)(w:World):
  Calls Tryz.prog 236 #[.string S,.string ⟨#[c]⟩] w fun e w'=>e=.returned (.int .i64 v)/\w'=w:=by
 have hx:∀W,(callFunc 263 #[.string S,.int .u8 (c.toNat:Int)]).run Tryz.prog W=.ok (.value (.int .i64 v)) W:=fun W=>by
  rw [tidx_run,run_indexByte_string,show((c.toNat:Nat):Int).toNat.toUInt8=c from by simp [Nat.toUInt8],hv];rfl
 have hx:∀W,(callFunc 263 #[.string S,.int .u8 ((((⟨#[c]⟩:ByteArray)[0]'(Nat.zero_lt_succ 0)).toNat:Nat):Int)]).run Tryz.prog W=.ok (.value (.int .i64 v)) W:=hx
 have hne:([c]==S.toList)=false:=by
  cases h:([c]==S.toList) with
  |false=>rfl
  |true=>
   have:=beq_iff_eq.1 h;have h2:S.toList.length=1:=by rw [<-this];rfl
   rw [Lib.toList_data,Array.length_toList] at h2;have h3:S.data.size=S.size:=rfl;omega
 clear hv
 go_enter Tryz.func236,Tryz.ntmps236
 go_wp2
 go_ret
 exact⟨rfl,rfl⟩
theorem pcontains_one(S:ByteArray)(c:UInt8)(v:Int)(hv:firstIdx S c=v)(hS:1<S.size)(w:World):
  Calls Tryz.prog 177 #[.string S,.string ⟨#[c]⟩] w fun e w'=>e=.returned (.bool (decide (0<=v)))/\w'=w:=by
 have hI:∀W,Calls Tryz.prog 213 #[.string S,.string ⟨#[c]⟩] W fun e w'=>e=.returned (.int .i64 v)/\w'=W:=fun W=>by
  have C:=j0 (pidx_one S c v hv hS W);clear hv hS
  go_enter Tryz.func213,Tryz.ntmps213
  go_wp2_with fail
  refine C.out.mono ?_;rintro e w1 ⟨rfl,rfl⟩
  go_wp2_with fail
  go_ret
  exact⟨rfl,rfl⟩
 have C:=j0 (hI w);clear hv hS hI
 go_enter Tryz.func177,Tryz.ntmps177
 go_wp2_with fail
 refine C.out.mono ?_;rintro e w1 ⟨rfl,rfl⟩
 go_wp2_with fail
 go_ret
 exact⟨rfl,rfl⟩
theorem alnum_any(b:Nat)(hb:b<256)(w:World):
  Calls Tryz.prog 176 #[.int .u8 (b:Int)] w fun e w'=>e=.returned (.bool (alnB b))/\w'=w:=by
 have key:∀(x1 x2 x3 x4 x5 x6:Bool),decide ((97:Int)<=(b:Int))=x1->decide ((b:Int)<=122)=x2->decide ((65:Int)<=(b:Int))=x3->decide ((b:Int)<=90)=x4->decide ((48:Int)<=(b:Int))=x5->decide ((b:Int)<=57)=x6->
   alnB b=(x1 && x2||x3 && x4||x5 && x6)->
   Calls Tryz.prog 176 #[.int .u8 (b:Int)] w fun e w'=>e=.returned (.bool (alnB b))/\w'=w:=by
  intro x1 x2 x3 x4 x5 x6 h1 h2 h3 h4 h5 h6 h;rw [h];clear h
  cases x1<;>cases x2<;>cases x3<;>cases x4<;>cases x5<;>cases x6<;>(first
   |(exfalso;simp only [decide_eq_true_eq,decide_eq_false_iff_not] at*;omega)
   |(go_enter Tryz.func176,Tryz.ntmps176;go_wp2;go_ret;exact⟨rfl,rfl⟩))
 refine key _ _ _ _ _ _ rfl rfl rfl rfl rfl rfl ?_;unfold alnB
 simp only [show ∀(y:Nat),decide ((97:Int)<=(y:Int))=decide (97<=y) from fun y=>by rw [decide_eq_decide];omega,show ∀(y:Nat),decide ((65:Int)<=(y:Int))=decide (65<=y) from fun y=>by rw [decide_eq_decide];omega,show ∀(y:Nat),decide ((48:Int)<=(y:Int))=decide (48<=y) from fun y=>by rw [decide_eq_decide];omega,
  show ∀(y:Nat),decide ((y:Int)<=122)=decide (y<=122) from fun y=>by rw [decide_eq_decide];omega,show ∀(y:Nat),decide ((y:Int)<=90)=decide (y<=90) from fun y=>by rw [decide_eq_decide];omega,show ∀(y:Nat),decide ((y:Int)<=57)=decide (y<=57) from fun y=>by rw [decide_eq_decide];omega]
abbrev plainS:ByteArray:=⟨#[32,33,34,35,37,38,39,44,58,59,60,61,62,64,95,126,96]⟩
abbrev digS:ByteArray:=⟨#[48,49,50,51,52,53,54,55,56,57,97,98,99,100,101,102]⟩
theorem plain_idx(b:Nat)(hb:b<256):decide (0<=firstIdx plainS (UInt8.ofNat b))=plainB b:=by
 have hall:∀n:Fin 256,decide (0<=firstIdx plainS (UInt8.ofNat n.val))=plainB n.val:=by decide+kernel
 exact hall ⟨b,hb⟩
theorem them_idx2(b:Nat)(hb:b<256):decide (0<=firstIdx xc (UInt8.ofNat b))=yU b:=by
 have hall:∀n:Fin 256,decide (0<=firstIdx xc (UInt8.ofNat n.val))=yU n.val:=by decide+kernel
 exact hall ⟨b,hb⟩
theorem and_low(b:Nat)(hb:b<256):bits .and .u8 (b:Int) 15=((b % 16:Nat):Int):=by
 have hall:∀n:Fin 256,bits .and .u8 (n.val:Int) 15=((n.val % 16:Nat):Int):=by decide+kernel
 exact hall ⟨b,hb⟩
theorem dig_one(q:Nat)(hq:q<16):digS.extract q (q+1)=baN [hexN q]:=by
 have hall:∀n:Fin 16,digS.extract n.val (n.val+1)=baN [hexN n.val]:=by decide+kernel
 exact hall ⟨q,hq⟩
theorem bytes_one(w:World)(x:Int)(t:TypeId):BytesAt (w.alloc (.cells #[.int .u8 x] t)) (.slice (some ⟨w.heap.size,0,none⟩) 1 1) [x]:=by
 refine .inr ⟨w.heap.size,1,rfl,by simp,fun i hi=> ?_⟩;obtain rfl:i=0:=by simpa using hi
 simp [go_sem]
theorem below_quiet(w:World)(n:Nat):Below w.heap.size w (w.drewN n):=⟨rfl,rfl,rfl,jN _,fun _ _=>rfl⟩
theorem itself_conv(b:Nat)(w:World):(convert 88 9 (.slice (some ⟨w.heap.size,0,none⟩) 1 1)).run Tryz.prog (w.alloc (.cells #[.int .u8 (b:Int)] 5))=.ok (.string ⟨#[UInt8.ofNat b]⟩) (w.alloc (.cells #[.int .u8 (b:Int)] 5)):=
 conv_bytes (bytes_one w (b:Int) 5)
theorem byte_any(b:Nat)(hb:b<256)(w:World):
  Calls Tryz.prog 129 #[.int .u8 (b:Int)] w fun e w'=>e=.returned (.string (baN (brN b)))/\Below w.heap.size w w':=by
 have hcv:=itself_conv b w;have hbl:=j0 ((Below.refl w.heap.size w).alloc (jN _) (.cells #[.int .u8 (b:Int)] 5));have AL:=j0 (fun W=>alnum_any b hb W);obtain⟨v1,hv1⟩:∃v,firstIdx plainS (UInt8.ofNat b)=v:=⟨_,rfl⟩;obtain⟨v2,hv2⟩:∃v,firstIdx xc (UInt8.ofNat b)=v:=⟨_,rfl⟩;have C1:=j0 (fun W=>pcontains_one plainS (UInt8.ofNat b) v1 hv1 (by decide) W);have C2:=j0 (fun W=>pcontains_one xc (UInt8.ofNat b) v2 hv2 (by decide) W);have p1:=plain_idx b hb;have p2:=them_idx2 b hb;rw [hv1] at p1;rw [hv2] at p2;rw [p1] at C1;rw [p2] at C2;clear hv1 hv2 p1 p2
 cases ha:alnB b with
 |true=>
  have HF:Hid (baN (brN b)=⟨#[UInt8.ofNat b]⟩):=j0 (by unfold brN;rw [ha];rfl);rw [ha] at AL;clear ha C1 C2
  go_enter Tryz.func129,Tryz.ntmps129
  go_wp2_with fail
  refine(AL.out _).mono ?_;rintro e w1 ⟨rfl,rfl⟩
  go_wp2_with fail
  go_ret
  exact⟨by rw [HF.out]<;>rfl,hbl.out⟩
 |false=>
  cases hp:plainB b with
  |true=>
   have HF:Hid (baN (brN b)=⟨#[UInt8.ofNat b]⟩):=j0 (by unfold brN;rw [ha,hp];rfl);rw [ha] at AL;rw [hp] at C1;clear ha hp C2
   go_enter Tryz.func129,Tryz.ntmps129
   go_wp2_with fail
   refine(AL.out _).mono ?_;rintro e w1 ⟨rfl,rfl⟩
   go_wp2_with fail
   refine(C1.out _).mono ?_;rintro e w1 ⟨rfl,rfl⟩
   go_wp2_with fail
   go_ret
   exact⟨by rw [HF.out]<;>rfl,hbl.out⟩
  |false=>
   cases ht:yU b with
   |true=>
    have HF:Hid (baN (brN b)=⟨#[92]⟩++⟨#[UInt8.ofNat b]⟩):=j0 (by unfold brN;rw [ha,hp,ht];rfl);rw [ha] at AL;rw [hp] at C1;rw [ht] at C2;clear ha hp ht
    go_enter Tryz.func129,Tryz.ntmps129
    go_wp2_with fail
    refine(AL.out _).mono ?_;rintro e w1 ⟨rfl,rfl⟩
    go_wp2_with fail
    refine(C1.out _).mono ?_;rintro e w1 ⟨rfl,rfl⟩
    go_wp2_with fail
    refine(C2.out _).mono ?_;rintro e w1 ⟨rfl,rfl⟩
    go_wp2_with fail
    go_ret
    exact⟨by rw [HF.out]<;>rfl,hbl.out⟩
   |false=>
    have HF:Hid (baN (brN b)=⟨#[92,120]⟩++baN [hexN (b/16)]++baN [hexN (b % 16)]):=j0 (by unfold brN;rw [ha,hp,ht,show(⟨#[92,120]⟩:ByteArray)=baN [92,120] from rfl,<-baN_append,<-baN_append];rfl);rw [ha] at AL;rw [hp] at C1;rw [ht] at C2;clear ha hp ht
    go_enter Tryz.func129,Tryz.ntmps129
    go_wp2_with fail
    refine(AL.out _).mono ?_;rintro e w1 ⟨rfl,rfl⟩
    go_wp2_with fail
    refine(C1.out _).mono ?_;rintro e w1 ⟨rfl,rfl⟩
    go_wp2_with fail
    refine(C2.out _).mono ?_;rintro e w1 ⟨rfl,rfl⟩
    go_wp2_with fail
    obtain⟨q,hq⟩:∃q,q=b/16:=⟨_,rfl⟩;obtain⟨r,hr⟩:∃r,r=b % 16:=⟨_,rfl⟩;have hq1:q<16:=by omega
    have hr1:r<16:=by omega
    have e5:bits .and .u8 (b:Int) 15=(r:Int):=by rw [hr];exact and_low b hb
    have e4:(b:Int)/16=(q:Int):=by omega
    rw [<-hq,<-hr,<-dig_one q hq1,<-dig_one r hr1] at HF;have u1:IntKind.u8.wrap ((q:Int)+1)=(q:Int)+1:=by simp [IntKind.wrap,IntKind.signed,IntKind.bits];omega
    have u2:IntKind.u8.wrap ((r:Int)+1)=(r:Int)+1:=by simp [IntKind.wrap,IntKind.signed,IntKind.bits];omega
    have n1:((q:Int)+1).toNat=q+1:=by omega
    have n2:((r:Int)+1).toNat=r+1:=by omega
    have HQ:=j0 hq;have HR:=j0 hr;clear hq hr
    go_quiet (fail)
    go_wp2_with fail
    go_ret
    exact⟨by rw [HF.out]<;>rfl,hbl.out.trans ((below_quiet _ nq).mono hbl.out.size)⟩
end
end
section
section
open Go Go.RowKit
attribute [local go_sem ↓] Go.wp_at_zero Go.wp_at_succ
attribute [local go_sem] qX
def PrsAt(w:World)(g:Nat)(rs:List (Nat×Nat)):Prop:=
 g<w.heap.size/\∀i p,rs[i]? =some p->w.cell? ⟨g,i*2,none⟩=some (.int .u8 (p.1:Int))/\w.cell? ⟨g,i*2+1,none⟩=some (.int .u8 (p.2:Int))
theorem PrsAt.below{w w':World}{g:Nat}{rs:List (Nat×Nat)}(h:PrsAt w g rs)(hb:Below w.heap.size w w'):PrsAt w' g rs:=
 ⟨Nat.lt_of_lt_of_le h.1 hb.size,fun i p hp=>⟨(hb.cell (p:=⟨g,i*2,none⟩) h.1).trans (h.2 i p hp).1,(hb.cell (p:=⟨g,i*2+1,none⟩) h.1).trans (h.2 i p hp).2⟩⟩
theorem pairVals_at:∀(rs:List (Nat×Nat)) (i:Nat) (p:Nat×Nat),rs[i]? =some p->(pairVals rs)[i*2]? =some (.int .u8 (p.1:Int))/\(pairVals rs)[i*2+1]? =some (.int .u8 (p.2:Int))
 | [],i,p,h=>by simp at h
 |q::r,0,p,h=>by
  have e:q=p:=by simpa using h
  subst e;exact⟨rfl,rfl⟩
 |q::r,i+1,p,h=>by
  have h1:=pairVals_at r i p (by simpa using h);have e:pairVals (q::r)=.int .u8 (q.1:Int)::.int .u8 (q.2:Int)::pairVals r:=rfl;rw [e,show(i+1)*2=i*2+1+1 by omega];exact h1
theorem prs_of_own{w:World}{B:Nat}{v:Value}{rs:List (Nat×Nat)}(h:w.ownsRow B 273 2 v rs.length (pairVals rs)):
  ∃ao cap,v=.slice ao rs.length cap/\∀k,k<rs.length->∃g,ao=some ⟨g,0,none⟩/\PrsAt w g rs:=by
 have hown:=h
 rcases h.2 with ⟨rfl,h0⟩|⟨g,cap,cur,rfl,hbg,hg,hnc,hcm,hcs,htake⟩
 ·exact⟨none,0,by rw [h0],fun k hk=>by omega⟩
 ·refine⟨some ⟨g,0,none⟩,cap,rfl,fun k hk=>⟨g,rfl,?_,fun i p hp=> ?_⟩⟩
  ·rcases Nat.lt_or_ge g w.heap.size with h'|h'
   ·exact h'
   ·simp [Array.getElem?_eq_none h'] at hg
  ·have h1:=pairVals_at rs i p hp;have e:∀j,(⟨g,0,none⟩:Addr).add j=⟨g,j,none⟩:=fun j=>by unfold Addr.add;split<;>simp_all
   have h2:=hown.cells (g:=g) rfl _ _ h1.1;have h3:=hown.cells (g:=g) rfl _ _ h1.2;rw [e] at h2 h3;exact⟨h2,h3⟩
theorem rsT_snoc(rs:List (Nat×Nat))(k:Nat)(p:Nat×Nat)(h:rs[k]? =some p):rsT (rs.take (k+1))=rsT (rs.take k)++rgT p:=by
 have app:∀a b:List (Nat×Nat),rsT (a++b)=rsT a++rsT b:=by
  intro a b
  induction a with
  |nil=>rfl
  |cons q r ih=>rw [List.cons_append,rsT_cons,rsT_cons,ih,List.append_assoc]
 rw [List.take_add_one,h,app]
 show _++rsT [p]=_
 rw [rsT_cons]
 show _++(rgT p++ [])=_
 rw [List.append_nil]
def clsP(rs:List (Nat×Nat))(k:Nat):ByteArray:=baN (91::rsT (rs.take k))
theorem clsP_one{rs:List (Nat×Nat)}{k p0 p1:Nat}(h:rs[k]? =some (p0,p1))(he:p0=p1):clsP rs (k+1)=clsP rs k++baN (brN p0):=by
 unfold clsP;rw [rsT_snoc rs k _ h,<-baN_append];unfold rgT;rw [if_pos he,List.append_nil];rfl
theorem clsP_two{rs:List (Nat×Nat)}{k p0 p1:Nat}(h:rs[k]? =some (p0,p1))(he:p0≠p1):clsP rs (k+1)=clsP rs k++baN (brN p0)++(⟨#[45]⟩++baN (brN p1)):=by
 unfold clsP;rw [rsT_snoc rs k _ h,<-baN_append,show(⟨#[45]⟩:ByteArray)=baN [45] from rfl,<-baN_append,<-baN_append];unfold rgT;rw [if_neg he,List.append_assoc];rfl
theorem clsP_end(rs:List (Nat×Nat)):clsP rs rs.length++⟨#[93]⟩=baN (clsN rs):=by
 unfold clsP clsN;rw [List.take_length,show(⟨#[93]⟩:ByteArray)=baN [93] from rfl,<-baN_append];rfl
theorem br_le(b:Nat):(brN b).length<=4:=by
 unfold brN
 split
 ·simp
 ·split<;>simp
theorem rsT_le:∀rs:List (Nat×Nat),(rsT rs).length<=9*rs.length
 | []=>by simp [rsT]
 |p::r=>by
  have h1:=br_le p.1;have h2:=br_le p.2;have:=rsT_le r;rw [rsT_cons];unfold rgT
  split<;>simp<;>omega
theorem clsP_size(rs:List (Nat×Nat))(k:Nat)(h:rs.length<=256):(clsP rs k).size<=2400:=by
 unfold clsP;rw [baN_size,List.length_cons];have:=rsT_le (rs.take k);have:=List.length_take_le k rs;have:=List.length_take_le' k rs;omega
theorem class_any(t:W4)(ht:t.fit)(w:World)(hT:Tab w):
  Calls Tryz.prog 130 #[kd t] w fun e w'=>e=.returned (.string (baN (clsN (rsOf t.mem))))/\Below w.heap.size w w':=by
 obtain⟨rs,hrs⟩:∃rs,rs=rsOf t.mem:=⟨_,rfl⟩;rw [<-hrs];have HRS:=j0 hrs;clear hrs;have RG:=j0 (fun W (hW:Tab W)=>ranges_any t.a t.b t.c t.d W ht.1 ht.2.1 ht.2.2.1 ht.2.2.2 hW);have HT:=j0 (hT.up (j3 w (jG t)));clear hT ht
 go_enter Tryz.func130,Tryz.ntmps130
 go_wp2_with fail
 refine(RG.out _ HT.out).mono ?_;rintro e w1 ⟨rs',v,rfl,hr,hlen,hin,hown,hb⟩;obtain rfl:rs=rs':=((rsOf_uniq hr hin).trans HRS.out.symm).symm;have HB:=j0 ((j3 w (jG t)).trans (hb.mono (j3 w (jG t)).size));obtain⟨ao,cap,rfl,hp⟩:=prs_of_own hown;have HP:=j0 hp;have HR:=j0 hr;clear hb hown hr hin RG HT hp HRS
 go_wp2_with fail
 go_loopw [3,9] (fun tv iv wr=>∃k:Nat,k<=rs.length/\iv=.int .i64 k/\tv=.string (clsP rs k)/\Hid (Below w1.heap.size w1 wr)) (fun _ iv _=>rs.length-(intOf iv).toNat)
 case atStart=>exact⟨0,by omega,rfl,rfl,j0 (Below.refl _ _)⟩
 case round=>
  obtain⟨k,hk,rfl,rfl,HBr⟩:=hrel;have hsz:=clsP_size rs k hlen
  by_cases hlt:k<rs.length
  ·obtain⟨g,rfl,hpr⟩:=HP.out k hlt;obtain⟨p,hp⟩:∃p,rs[k]? =some p:=⟨_,List.getElem?_eq_getElem hlt⟩;obtain⟨hgr,hcr⟩:=hpr.below HBr.out;obtain⟨c0,c1⟩:=hcr k p hp;obtain⟨r0,r1,_⟩:=rise_each rs HR.out k hlt;have ep:rs[k]=p:=by rw [List.getElem?_eq_getElem hlt] at hp;exact Option.some.inj hp
   rw [ep] at r0 r1;obtain⟨p0,p1⟩:=p;dsimp only at c0 c1 r0 r1;have HPP:=j0 hp;have s0:=br_le p0;have s1:=br_le p1;rw [<-baN_size] at s0 s1;have B0:=j0 (fun W=>byte_any p0 (by omega) W);have B1:=j0 (fun W=>byte_any p1 (by omega) W);clear hpr hp ep hcr
   by_cases he:p0=p1
   ·have HF:=j0 (clsP_one HPP.out he);obtain rfl:p0=p1:=he
    go_wp2_with fail
    refine(B0.out _).mono ?_;rintro e w2 ⟨rfl,hb2⟩;have q0:w2.cell? ⟨wr.heap.size,0,none⟩=some (.int .u8 (p0:Int)):=(hb2.cell (p:=⟨wr.heap.size,0,none⟩) (by simp)).trans (by simp [go_sem]);have q1:w2.cell? ⟨wr.heap.size,1,none⟩=some (.int .u8 (p0:Int)):=(hb2.cell (p:=⟨wr.heap.size,1,none⟩) (by simp)).trans (by simp [go_sem]);have HB2:=j0 (HBr.out.trans (((j3 wr _).trans (hb2.mono (j3 wr _).size)).mono HBr.out.size));clear hb2
    go_wp2_with fail
    go_roundw
    case rel=>exact⟨k+1,by omega,by go_num,by rw [HF.out],HB2⟩
    case measure=>simp [intOf];omega
   ·have HF:=j0 (clsP_two HPP.out he);have he2:((p0:Int)==(p1:Int))=false:=by simpa using (fun h:(p0:Int)=p1=>he (by omega))
    have he3:((p0:Int) !=(p1:Int))=true:=by simpa using (fun h:(p0:Int)=p1=>he (by omega))
    clear he
    go_wp2_with fail
    refine(B0.out _).mono ?_;rintro e w2 ⟨rfl,hb2⟩;have q0:w2.cell? ⟨wr.heap.size,0,none⟩=some (.int .u8 (p0:Int)):=(hb2.cell (p:=⟨wr.heap.size,0,none⟩) (by simp)).trans (by simp [go_sem]);have q1:w2.cell? ⟨wr.heap.size,1,none⟩=some (.int .u8 (p1:Int)):=(hb2.cell (p:=⟨wr.heap.size,1,none⟩) (by simp)).trans (by simp [go_sem]);have HB2:=j0 (HBr.out.trans (((j3 wr _).trans (hb2.mono (j3 wr _).size)).mono HBr.out.size));clear hb2
    go_wp2_with fail
    refine(B1.out _).mono ?_;rintro e w3 ⟨rfl,hb3⟩;have HB3:=j0 (HB2.out.trans (hb3.mono HB2.out.size));clear hb3 q0 q1
    go_wp2_with fail
    go_roundw
    case rel=>exact⟨k+1,by omega,by go_num,by rw [HF.out],HB3⟩
    case measure=>simp [intOf];omega
  ·obtain rfl:k=rs.length:=by omega
   have HF:=j0 (clsP_end rs)
   go_wp2_with fail
   go_ret
   exact⟨by rw [<-HF.out]<;>rfl,HB.out.trans (HBr.out.mono HB.out.size)⟩
def setTold(t n:W4)(b:Bool):Nat->Reg.Told
 |0=>.inl (kd t)
 |1=>.inr ⟨fun g=>.slice (some ⟨g,0,none⟩) 1 1,5,#[.int .u8 10]⟩
 |2=>.inl (kd (jh 10))
 |3=>.inl (kd n)
 |4=>.inl (.bool b)
 |_=>.inl undef
theorem set_any(t:W4)(ht:t.fit)(w:World)(hT:Tab w):
  Calls Tryz.prog 84 #[kd t] w fun e w'=>e=.returned (.string (baN (setN t)))/\Below w.heap.size w w':=by
 have OF:=j0 (fun W gl (hX:W.heap[gl]? =some (.cells #[.int .u8 ((10:Nat):Int)] 5))=>xi (w:=W) (g:=gl) (k:=10) (by omega) hX);have NO:=j0 (fun W=>Jt (zg 10 0) (zg 10 1) (zg 10 2) (zg 10 3) W);have CN:=j0 (fun W=>VU t ht W);have CL:=j0 (fun W hW=>class_any t ht W hW);have FI:=j0 (fun a ha W hW=>Qb t ht a ha W hW);obtain⟨N,hN⟩:∃N,N=baN (setN t):=⟨_,rfl⟩;rw [<-hN];have HN:=j0 hN;have HT:=j0 hT;clear hT hN ht
 go_enter Tryz.func84,Tryz.ntmps84
 go_wp2_with fail
 generalize hws:w.alloc _=ws
 have HS:HeldZ ws w.heap.size t.a t.b t.c t.d ws:=by
  subst hws;exact⟨⟨by simp [go_sem],by simp [go_sem],by simp [go_sem],by simp [go_sem]⟩,by simp,Below.refl _ _⟩
 have hba:Below w.heap.size w ws:=by subst hws;exact j3 _ _
 clear hws;have HT2:=j0 (HT.out.up hba);have HB:=j0 hba;have hs:=hba.size;have HW:=heldZ_below (Below.refl _ ws).drew HS;clear HT hba HS;generalize w.heap.size=gs at HW ⊢;obtain⟨n,hn⟩:∃n,n=km (jh 10):=⟨_,rfl⟩;obtain⟨b,hb⟩:∃b,b=eqW t n:=⟨_,rfl⟩;have hbq:(t.a==n.a && t.b==n.b && t.c==n.c && t.d==n.d)=b:=hb.symm;have NO2:Hid (∀W,Calls Tryz.prog 126 #[kd (jh 10)] W fun e w'=>e=.returned (kd n)/\Below W.heap.size W w'):=j0 (by rw [hn];exact NO.out);have HNN:=j0 hn;have HBB:=j0 hb;clear hn hb NO;refine Reg.wp_region_told (setTold t n b) [] [0,1,2,3,4] (by kernel_rfl) (by kernel_rfl) (by kernel_rfl) (by intro f hf;cases hf) (by intro f hf;cases hf) ?_ ?_
 focus
  refine⟨Reg.opOK_plain (by rfl) fun G listed A wv hI hall=>.inl ⟨Reg.wn,?_⟩,?_⟩
  focus
   have H:=heldZ_below hI.base HW;have e1:=hI.wo 1 rfl;clear hI hall HW hbq;unfold Reg.Yields
   go_simp
   exact Reg.good_val (by rfl) (by rfl) (Below.refl _ _)
  refine⟨Reg.opOK_plain (by rfl) fun G listed A wv hI hall=>.inl ⟨Reg.wn,?_⟩,?_⟩
  focus
   clear hI hall HW hbq;unfold Reg.Yields
   go_simp
   exact Reg.good_new (by rfl) (by rfl) (by rfl)
  refine⟨Reg.opOK_plain (by rfl) fun G listed A wv hI hall=>.inl ⟨Reg.wn,?_⟩,?_⟩
  focus
   obtain⟨e6,_,b6⟩:=hI.evm (i:=1) (d:=6) (by rfl) (by rfl) (hall ⟨1,.data⟩ (by simp) rfl);clear hI hall HW hbq;unfold Reg.Yields
   go_simp
   exact(OF.out _ _ b6).mono fun e w'' ⟨he,hb⟩=>⟨_,he,Reg.good_val (by rfl) (by rfl) hb⟩
  refine⟨Reg.opOK_plain (by rfl) fun G listed A wv hI hall=>.inl ⟨Reg.wn,?_⟩,?_⟩
  focus
   have e7:=hI.ev (i:=2) (d:=7) (by rfl) (by rfl) (hall ⟨2,.data⟩ (by simp) rfl);clear hI hall HW hbq;unfold Reg.Yields
   go_simp
   exact(NO2.out _).mono fun e w'' ⟨he,hb⟩=>⟨_,he,Reg.good_val (by rfl) (by rfl) hb⟩
  refine⟨Reg.opOK_plain (by rfl) fun G listed A wv hI hall=>.inl ⟨Reg.wn,?_⟩,?_⟩
  focus
   have e5:=hI.ev (i:=0) (d:=5) (by rfl) (by rfl) (hall ⟨0,.data⟩ (by simp) rfl);have e8:=hI.ev (i:=3) (d:=8) (by rfl) (by rfl) (hall ⟨3,.data⟩ (by simp) rfl);clear hI hall HW;unfold Reg.Yields
   go_simp
   exact Reg.good_val (by rfl) (by rfl) (Below.refl _ _)
  trivial
 intro G w2 hI;have H:=heldZ_below hI.base HW;have HFin:=j0 (HB.out.trans (H.2.2.mono hs));have HT3:=j0 (HT2.out.up H.2.2);clear hI HW hbq HT2 HB OF NO2;simp [Reg.finalTmps,Reg.dstAt,Reg.valOf,setTold]
 cases b with
 |true=>
  have HF:Hid (N=⟨#[46]⟩):=j0 (by rw [HN.out];unfold setN;rw [<-HNN.out,<-HBB.out,if_pos rfl];rfl)
  go_wp2_with fail
  go_ret
  exact⟨by rw [HF.out]<;>rfl,HFin.out⟩
 |false=>
  have HF:Hid (N=baN (match zf t with| []=> [91,94,92,120,48,48,45,92,120,102,102,93]| [b]=>brN b|_=>clsN (rsOf t.mem))):=j0 (by rw [HN.out];unfold setN;rw [<-HNN.out,<-HBB.out,if_neg (by simp)]<;>first|rfl|(split<;>rfl));have HH:=j0 H;obtain⟨⟨q0,q1,q2,q3⟩,hgl,_⟩:=H;obtain⟨l,hl⟩:∃l,l=zf t:=⟨_,rfl⟩;rw [<-hl] at HF CN;have HL:=j0 hl;clear hl HN HBB HNN
  cases l with
  |nil=>
   have HF2:Hid (N=⟨#[91,94,92,120,48,48,45,92,120,102,102,93]⟩):=HF;clear HF HL CL FI
   go_wp2_with fail
   refine(CN.out _).mono ?_;rintro e w3 ⟨rfl,hb3⟩;have HB3:=j0 (HFin.out.trans (hb3.mono HFin.out.size));clear hb3
   go_wp2_with fail
   go_ret
   exact⟨by rw [HF2.out]<;>rfl,HB3.out⟩
  |cons x l'=>
   cases l' with
   |nil=>
    have HF2:Hid (N=baN (brN x)):=HF;have ho:=Ul.2 HL.out.symm;have hx:=(xh ho).1;have FX:=j0 (fun W hW=>FI.out x ho W hW);have BY:=j0 (fun W=>byte_any x hx W);clear HF HL CL FI ho
    go_wp2_with fail
    refine(CN.out _).mono ?_;rintro e w3 ⟨rfl,hb3⟩;have HB3:=j0 (HFin.out.trans (hb3.mono HFin.out.size));have HT4:=j0 (HT3.out.up hb3);have HH2:=heldZ_below hb3 HH.out;have HH3:=j0 HH2;clear hb3 q0 q1 q2 q3 hgl;obtain⟨⟨q0,q1,q2,q3⟩,hgl,_⟩:=HH2
    go_wp2_with fail
    refine(FX.out _ HT4.out).mono ?_;rintro e w4 ⟨rfl,hb4⟩;have HB4:=j0 (HB3.out.trans (hb4.mono HB3.out.size));clear hb4
    go_wp2_with fail
    refine(BY.out _).mono ?_;rintro e w5 ⟨rfl,hb5⟩;have HB5:=j0 (HB4.out.trans (hb5.mono HB4.out.size));clear hb5
    go_wp2_with fail
    go_ret
    exact⟨by rw [HF2.out]<;>rfl,HB5.out⟩
   |cons y r=>
    have HF2:Hid (N=baN (clsN (rsOf t.mem))):=HF;obtain⟨k,hk⟩:∃k:Nat,k=(x::y::r).length:=⟨_,rfl⟩;have hk2:2<=k:=by rw [hk];simp
    rw [<-hk] at CN;have k0:((k:Int)==0)=false:=by simp;omega
    have k1:((k:Int)==1)=false:=by simp;omega
    clear HF HL FI hk
    go_wp2_with fail
    refine(CN.out _).mono ?_;rintro e w3 ⟨rfl,hb3⟩;have HB3:=j0 (HFin.out.trans (hb3.mono HFin.out.size));have HT4:=j0 (HT3.out.up hb3);have HH2:=heldZ_below hb3 HH.out;have HH3:=j0 HH2;clear hb3 q0 q1 q2 q3 hgl;obtain⟨⟨q0,q1,q2,q3⟩,hgl,_⟩:=HH2
    go_wp2_with fail
    refine(CL.out _ HT4.out).mono ?_;rintro e w4 ⟨rfl,hb4⟩;have HB4:=j0 (HB3.out.trans (hb4.mono HB3.out.size));clear hb4
    go_wp2_with fail
    go_ret
    exact⟨by rw [HF2.out]<;>rfl,HB4.out⟩
end
end
section
section
open Go Go.RowKit
theorem Tryz.sizeBd:(Tryz.prog.info? 90).map (·.size)=some 2:=by kernel_rfl
theorem Tryz.ptrBd:Tryz.prog.underlying 87=some (.pointer 90):=by kernel_rfl
theorem Tryz.unsBd:Tryz.prog.underlying 220=some .unsafePointer:=by kernel_rfl
theorem Tryz.bytBd:Tryz.prog.underlying 88=some (.slice 5):=by kernel_rfl
theorem Tryz.strBd:Tryz.prog.underlying 9=some .string:=by kernel_rfl
theorem Tryz.pbyBd:Tryz.prog.underlying 163=some (.pointer 5):=by kernel_rfl
theorem Tryz.infoBd:(Tryz.prog.info? 5).map (fun i=>(i.zero,i.size,i.bytes))=some (some (.int .u8 0),1,1):=by kernel_rfl
theorem Tryz.cellBd:(Tryz.prog).cellsOf 5=1:=by kernel_rfl
end
end
section
section
open Go Go.RowKit
attribute [local go_sem ↓] Go.wp_at_zero Go.wp_at_succ
end
end
section
section
open Go Go.RowKit
def byN(l:List Nat):List UInt8:=l.map Nat.toUInt8
theorem byN_append(l m:List Nat):byN (l++m)=byN l++byN m:=List.map_append
theorem byN_length(l:List Nat):(byN l).length=l.length:=List.length_map ..
theorem strCells_baN(l:List Nat):Lib.strCells (baN l)=Lib.byteCells (byN l):=rfl
end
section
open Go Go.RowKit
attribute [local go_sem ↓] Go.wp_at_zero Go.wp_at_succ
end
end
section
section
open Go Go.RowKit
attribute [local go_sem ↓] Go.wp_at_zero Go.wp_at_succ
attribute [local go_sem] qX
end
end
section
section
open Go Go.RowKit
attribute [local go_sem ↓] Go.wp_at_zero Go.wp_at_succ
end
end
end Go.Proofs.YtnmalggmbeipaaaGreatDoor
namespace Go.Proofs.YtnmalggmbeipaaaGreatDoor
section
section
section
section
open Go Go.RowKit
def zk(k:Int):jp:=⟨k,j7,0,0,false⟩
inductive UI:jp->Prop
 |set (s:W4) (h:s.fit):UI ⟨0,s,0,0,false⟩
 |cap:UI (zk 1)
 |free:UI (zk 2)
 |shut:UI (zk 3)
 |bar:UI (zk 4)
 |count (lo hi:Int) (z:Bool) (h:kS lo hi=true):UI ⟨5,j7,lo,hi,z⟩
theorem zq{lo hi:Int}:kS lo hi=true ↔ 0<=lo/\lo<=qM hi/\qM hi<=1000:=by
 unfold kS;simp
end
end
section
section
open Go Go.RowKit
theorem UP{P:Tr->Prop}(h:∀k s lo hi z a b l,(∀t∈l,P t)->P (.mk k s lo hi z a b l))(t:Tr):P t:=by
 have key:∀n t,jc t<=n->P t:=by
  intro n
  induction n with
  |zero=>intro t ht;have:=vg t;omega
  |succ n ih=>
   intro t ht;obtain⟨k,s,lo,hi,z,a,b,l⟩:=t;refine h k s lo hi z a b l fun u hu=>ih u ?_
   have h1:=jZ hu;have h2:=kI (.mk k s lo hi z a b l);have h3:jc (.mk k s lo hi z a b l)=1+jz l:=h2;omega
 exact key _ t (jN _)
def qO{α:Type}(sep:List α):List (List α)->List α
 | []=> []
 |p::r=>p++r.flatMap fun x=>sep++x
theorem Us{α:Type}(sep p q:List α)(r:List (List α)):qO sep (p::q::r)=p++(sep++qO sep (q::r)):=by
 simp [qO]
theorem yB{α:Type}:∀l:List (List α),qO [] l=l.flatten
 | []=>rfl
 |p::r=>by simp [qO,List.flatMap_def]
def tkN(k:Int)(s:W4)(lo hi:Int)(z:Bool)(ls:List (List jp)):List jp:=
 if k=1 then [⟨0,s,0,0,false⟩] else if k=2 then zk 1::(ls.headD []++ [zk 3]) else if k=3 then zk 2::(ls.headD []++ [zk 3]) else if k=4 then qO [] ls else if k=5 then qO [zk 4] ls
 else if k=6 then ls.headD []++ [⟨5,j7,lo,hi,z⟩] else []
mutual
def xp:Tr->List jp
 | .mk k s lo hi z _ _ l=>tkN k s lo hi z (tkTs l)
def tkTs:List Tr->List (List jp)
 | []=> []
 |t::r=>xp t::tkTs r
def bare:Tr->Tr
 | .mk k s lo hi z _ _ l=>.mk k s lo hi z 0 0 (bares l)
def bares:List Tr->List Tr
 | []=> []
 |t::r=>bare t::bares r
def Kj:Tr->Nat
 | .mk k _ _ _ _ _ _ l=>(if k=2\/k=3 then 1 else 0)+KP l
def KP:List Tr->Nat
 | []=>0
 |t::r=>max (Kj t) (KP r)
end
theorem VR:∀l:List Tr,tkTs l=l.map xp
 | []=>rfl
 |t::r=>by rw [tkTs,VR r];rfl
theorem Vw:∀{l:List Tr} {c:Nat},(∀t∈l,Kj t<=c)->KP l<=c
 | [],c,_=>Nat.zero_le _
 |u::r,c,h=>by
  rw [KP];have h1:=h u (List.mem_cons_self ..);have h2:=Vw (l:=r) (fun t ht=>h t (List.mem_cons_of_mem _ ht));omega
theorem xa(k:Int)(s:W4)(lo hi:Int)(z:Bool)(a b:Nat)(l:List Tr):xp (.mk k s lo hi z a b l)=tkN k s lo hi z (l.map xp):=by rw [xp,VR]
def IsSingle(t:Tr):Prop:=xr t=1\/xr t=2\/xr t=3
def IsItem(t:Tr):Prop:=xr t=1\/xr t=2\/xr t=3\/xr t=6
inductive zu:Tr->Prop
 |empty (a b:Nat):zu (.mk 0 j7 0 0 false a b [])
 |set (s:W4) (a b:Nat) (h:s.fit):zu (.mk 1 s 0 0 false a b [])
 |group (k:Int) (a b:Nat) (u:Tr) (hk:k=2\/k=3) (h:zu u):zu (.mk k j7 0 0 false a b [u])
 |cat (a b:Nat) (l:List Tr) (hl:2<=l.length) (hi:∀t,t∈l->IsItem t) (h:∀t,t∈l->zu t):zu (.mk 4 j7 0 0 false a b l)
 |alt (a b:Nat) (l:List Tr) (hl:2<=l.length) (hi:∀t,t∈l->xr t≠5) (h:∀t,t∈l->zu t):zu (.mk 5 j7 0 0 false a b l)
 |rep (lo hi:Int) (z:Bool) (a b:Nat) (u:Tr) (hc:kS lo hi=true) (hu:IsSingle u) (h:zu u):zu (.mk 6 j7 lo hi z a b [u])
def mt(L:jq):List jp:=L.map (·.1)
theorem ZH{L:jq}{i:Nat}{x:jp}{r:List jp}(h:(mt L).drop i=x::r):jR L i=x.kind/\xv L i=x/\i<L.length/\(mt L).drop (i+1)=r:=by
 have hlt:i<L.length:=by
  rcases Nat.lt_or_ge i L.length with h'|h'
  ·exact h'
  ·rw [List.drop_eq_nil_of_le (by unfold mt;simpa using h')] at h;cases h
 have h1:(mt L)[i]? =some x:=by rw [<-List.head?_drop,h];rfl
 have h2:∃y,L[i]? =some y/\y.1=x:=by
  unfold mt at h1;rw [List.getElem?_map] at h1;exact Option.map_eq_some_iff.1 h1
 obtain⟨y,h2,rfl⟩:=h2;refine⟨by unfold jR;rw [h2],by unfold xv;rw [h2],hlt,?_⟩;rw [<-List.drop_drop,h];rfl
theorem mt_nil{L:jq}{i:Nat}(h:(mt L).drop i= []):jR L i= -1/\L.length<=i:=by
 have hle:L.length<=i:=by
  have:=congrArg List.length h;unfold mt at this;simp at this;omega
 exact⟨by unfold jR;rw [List.getElem?_eq_none hle],hle⟩
end
end
section
section
open Go Go.RowKit
end
end
section
section
open Go Go.RowKit
theorem Q6{s:ByteArray}{lo hi:Int}{k:Nat}(hc:kS lo hi=true)(he:(jK s lo hi k).2.1=0):UI (jK s lo hi k).1:=by
 unfold jK at he ⊢
 split
 ·next h=>
  rw [if_pos h] at he
  split
  ·next h2=>rw [if_pos h2] at he;simp at he
  ·exact .count lo hi true hc
 ·next h=>
  rw [if_neg h] at he
  split
  ·next h2=>rw [if_pos h2] at he;simp at he
  ·exact .count lo hi false hc
theorem num_S{s:ByteArray}{a:Nat}(he:(jr s a).2.1=0):0<=(jr s a).1/\(jr s a).1<=1000:=by
 unfold jr at he ⊢
 split
 ·next h=>rw [if_pos h] at he;simp at he
 ·next h=>
  rw [if_neg h] at he
  split
  ·next h2=>rw [if_pos h2] at he;simp at he
  ·next h2=>dsimp only;omega
theorem shut_S{s:ByteArray}{lo hi:Int}{j:Nat}(hc:kS lo hi=true)(he:(shutR s lo hi j).2.1=0):UI (shutR s lo hi j).1:=by
 unfold shutR at he ⊢
 split
 ·next h=>rw [if_pos h] at he;exact Q6 hc he
 ·next h=>rw [if_neg h] at he;simp at he
theorem braces_S{s:ByteArray}{k:Nat}(he:(kA s k).2.1=0):UI (kA s k).1:=by
 unfold kA at he ⊢
 by_cases h1:(jr s (k+1)).2.1≠0
 ·rw [if_pos h1] at he;exact absurd he h1
 rw [if_neg h1] at he ⊢;have hn:=num_S (s:=s) (a:=k+1) (by omega);generalize jr s (k+1)=r at*
 by_cases h2:jl s r.2.2=44
 ·rw [if_pos h2] at he ⊢
  by_cases h3:(jv s r.1 (r.2.2+1)).2.1≠0
  ·rw [if_pos h3] at he;exact absurd he h3
  rw [if_neg h3] at he ⊢;refine shut_S ?_ he;rw [zq];unfold jv at h3 ⊢
  by_cases h4:jl s (r.2.2+1)=125
  ·rw [if_pos h4];unfold qM;rw [if_pos rfl];omega
  ·rw [if_neg h4] at h3 ⊢
   by_cases h5:(jr s (r.2.2+1)).2.1=0/\(jr s (r.2.2+1)).1<r.1
   ·rw [if_pos h5] at h3;simp at h3
   ·rw [if_neg h5] at h3 ⊢;have hm:=num_S (s:=s) (a:=r.2.2+1) (by omega);unfold qM;rw [if_neg (by omega)];omega
 ·rw [if_neg h2] at he ⊢;refine shut_S ?_ he;rw [zq];unfold qM;rw [if_neg (by omega)];omega
theorem token_S{s:ByteArray}{k:Nat}(hk:k<s.size)(he:(jd s k).2.1=0):UI (jd s k).1:=by
 unfold jd at he ⊢
 split
 ·exact .bar
 ·next h1=>
  rw [if_neg h1] at he
  split
  ·next h2=>
   rw [if_pos h2] at he;unfold vx at he ⊢
   split
   ·next h3=>
    rw [if_pos h3] at he
    split
    ·exact .free
    ·next h4=>rw [if_neg h4] at he;simp at he
   ·exact .cap
  ·next h2=>
   rw [if_neg h2] at he
   split
   ·exact .shut
   ·next h3=>
    rw [if_neg h3] at he
    split
    ·next h4=>
     rw [if_pos h4] at he;unfold xP at he ⊢
     split
     ·next h5=>rw [if_pos h5] at he;exact Q6 (by decide) he
     ·next h5=>
      rw [if_neg h5] at he
      split
      ·next h6=>rw [if_pos h6] at he;exact Q6 (by decide) he
      ·next h6=>rw [if_neg h6] at he;exact Q6 (by decide) he
    ·next h4=>
     rw [if_neg h4] at he
     split
     ·next h5=>rw [if_pos h5] at he;exact braces_S he
     ·exact .set _ (X6 hk).fit
theorem V1{s:ByteArray}:∀(n k:Nat),∀x∈(kR s n k).1,UI x.1
 |0,k,x,h=>by simp [kR] at h
 |n+1,k,x,h=>by
  rw [kR] at h
  by_cases h1:s.size<=k
  ·rw [if_pos h1] at h;simp at h
  rw [if_neg h1] at h
  by_cases h2:(jd s k).2.1≠0
  ·rw [if_pos h2] at h;simp at h
  rw [if_neg h2] at h
  by_cases h3:(kR s n (jd s k).2.2).2.1≠0
  ·rw [if_pos h3] at h;simp at h
  rw [if_neg h3] at h
  rcases List.mem_cons.1 h with rfl|h
  ·exact token_S (by omega) (by omega)
  ·exact V1 n _ x h
theorem qL{r:UK}{f:Nat->Tr->UK}{j:Nat}{t:Tr}(h:xw r f=(0,j,some t)):∃j' t',r=(0,j',some t')/\f j' t'=(0,j,some t):=by
 obtain⟨e,j',o⟩:=r;unfold xw at h
 cases o with
 |none=>simp at h
 |some t'=>
  dsimp only at h
  by_cases he:e=0
  ·rw [if_pos he] at h;exact⟨j',t',by rw [he],h⟩
  ·rw [if_neg he] at h;simp at h
theorem Jw{L:jq}(hL:∀x∈mt L,UI x){i:Nat}{k:Int}(h:jR L i=k)(hk:k≠ -1):(mt L).drop i=xv L i::(mt L).drop (i+1)/\(xv L i).kind=k/\UI (xv L i):=by
 cases hd:(mt L).drop i with
 |nil=>exact absurd ((mt_nil hd).1.symm.trans h).symm hk
 |cons x r=>
  obtain⟨h1,h2,_,h4⟩:=ZH hd;rw [h2,h4];refine⟨rfl,h1.symm.trans h,hL x ?_⟩;exact List.mem_of_mem_drop (i:=i) (by rw [hd];exact List.mem_cons_self ..)
theorem J1{x:jp}(h:UI x){k:Int}(hk:x.kind=k)(h1:k=1\/k=2\/k=3\/k=4):x=zk k:=by
 subst hk
 cases h with
 |set s hs=>exact absurd h1 (by show ¬((0:Int)=1\/(0:Int)=2\/(0:Int)=3\/(0:Int)=4);decide)
 |cap=>rfl
 |free=>rfl
 |shut=>rfl
 |bar=>rfl
 |count lo hi z hc=>exact absurd h1 (by show ¬((5:Int)=1\/(5:Int)=2\/(5:Int)=3\/(5:Int)=4);decide)
theorem cat_right{d:Nat}(hd:d<=200){l:List Tr}(h:∀u∈l,zu u/\IsItem u/\d+Kj u<=200)(a b:Nat):zu (QO l a b)/\xr (QO l a b)≠5/\d+Kj (QO l a b)<=200/\xp (QO l a b)=qO [] (l.map xp):=by
 match l,h with
 | [],_=>exact⟨.empty a b,by show(0:Int)≠5;decide,hd,by show xp (.mk 0 j7 0 0 false a b [])=_;rw [xa];rfl⟩
 | [u],h=>
  obtain⟨h1,h2,h3⟩:=h u (List.mem_cons_self ..);refine⟨h1,?_,h3,by simp [qO];rfl⟩
  show xr u≠5
  unfold IsItem at h2;omega
 |u::v::q,h=>
  refine⟨.cat a b _ (by simp) (fun t ht=>(h t ht).2.1) (fun t ht=>(h t ht).1),by show(4:Int)≠5;decide,?_,by show xp (.mk 4 j7 0 0 false a b _)=_;rw [xa];rfl⟩
  show d+Kj (.mk 4 j7 0 0 false a b (u::v::q))<=200
  rw [Kj,if_neg (by decide)];have:=Vw (l:=u::v::q) (c:=200-d) (fun t ht=>by have:=(h t ht).2.2;omega);omega
theorem alt_right{d:Nat}{l:List Tr}(hl:l≠ [])(h:∀u∈l,zu u/\xr u≠5/\d+Kj u<=200)(a b:Nat):zu (xC 5 l a b)/\d+Kj (xC 5 l a b)<=200/\xp (xC 5 l a b)=qO [zk 4] (l.map xp):=by
 match l,hl,h with
 | [u],_,h=>
  obtain⟨h1,_,h3⟩:=h u (List.mem_cons_self ..);exact⟨h1,h3,by simp [qO];rfl⟩
 |u::v::q,_,h=>
  have hd:d<=200:=by have:=(h u (List.mem_cons_self ..)).2.2;omega
  refine⟨.alt a b _ (by simp) (fun t ht=>(h t ht).2.1) (fun t ht=>(h t ht).1),?_,by show xp (.mk 5 j7 0 0 false a b _)=_;rw [xa];rfl⟩
  show d+Kj (.mk 5 j7 0 0 false a b (u::v::q))<=200
  rw [Kj,if_neg (by decide)];have:=Vw (l:=u::v::q) (c:=200-d) (fun t ht=>by have:=(h t ht).2.2;omega);omega
structure Made1(L:jq)(d i j:Nat)(t:Tr):Prop where
 right:zu t
 deep:d+Kj t<=200
 toks:(mt L).drop i=xp t++(mt L).drop j
theorem back_all{L:jq}(hL:∀x∈mt L,UI x)(size:Nat):∀n,
  (∀d i j t,d<=200->xI L size n d i=(0,j,some t)->Made1 L d i j t)/\
  (∀d i f acc j t,d<=200->altsF L size n d i f acc=(0,j,some t)->∃l a b,l≠ []/\t=xC 5 (acc++l) a b/\(∀u∈l,zu u/\xr u≠5/\d+Kj u<=200)/\(mt L).drop i=qO [zk 4] (l.map xp)++(mt L).drop j)/\
  (∀d i f acc j t,d<=200->kF L size n d i f acc=(0,j,some t)->∃l a b,t=QO (acc++l) a b/\(∀u∈l,zu u/\IsItem u/\d+Kj u<=200)/\(mt L).drop i=qO [] (l.map xp)++(mt L).drop j)/\
  (∀d i j t,d<=200->itemF L size n d i=(0,j,some t)->IsItem t/\Made1 L d i j t)/\
  (∀d i j t,d<=200->ko L size n d i=(0,j,some t)->IsSingle t/\Made1 L d i j t)/\
  (∀d i k j t,d<=200->(k=2\/k=3)->jR L i=k-1->kG L size n d i k=(0,j,some t)->IsSingle t/\Made1 L d i j t):=by
 intro n
 induction n with
 |zero=>
  refine⟨fun d i j t _ h=> ?_,fun d i f acc j t _ h=> ?_,fun d i f acc j t _ h=> ?_,fun d i j t _ h=> ?_,fun d i j t _ h=> ?_,fun d i k j t _ _ _ h=> ?_⟩
  ·rw [xI] at h;simp at h
  ·rw [altsF] at h;simp at h
  ·rw [kF] at h;simp at h
  ·rw [itemF] at h;simp at h
  ·rw [ko] at h;simp at h
  ·rw [kG] at h;simp at h
 |succ n ih=>
  obtain⟨i1,i2,i3,i4,i5,i6⟩:=ih;refine⟨?_,?_,?_,?_,?_,?_⟩
  ·intro d i j t hd h;rw [xI] at h;obtain⟨l,a,b,h1,rfl,h3,h4⟩:=i2 d i i [] j t hd h;obtain⟨r1,r2,r3⟩:=alt_right h1 h3 a b;rw [List.nil_append];exact⟨r1,r2,by rw [r3];exact h4⟩
  ·intro d i f acc j t hd h;rw [altsF] at h;obtain⟨j',t',h1,h2⟩:=qL h;obtain⟨l,a,b,rfl,h4,h5⟩:=i3 d i i [] j' t' hd h1;rw [List.nil_append] at h2;obtain⟨r1,r2,r3,r4⟩:=cat_right hd h4 a b;rw [<-r4] at h5;generalize QO l a b=c at*
   by_cases hk:jR L j'=4
   ·rw [if_pos hk] at h2;obtain⟨l2,a2,b2,g1,rfl,g3,g4⟩:=i2 d (j'+1) f (acc++ [c]) j t hd h2;obtain⟨k1,k2,k3⟩:=Jw hL hk (by decide);rw [J1 k3 k2 (by decide)] at k1;refine⟨c::l2,a2,b2,by simp,by simp,fun u hu=> ?_,?_⟩
    ·rcases List.mem_cons.1 hu with rfl|hu
     ·exact⟨r1,r2,r3⟩
     ·exact g3 u hu
    ·cases l2 with
     |nil=>exact absurd rfl g1
     |cons v q=>
      rw [List.map_cons,List.map_cons,Us,h5,k1,g4];simp
   ·rw [if_neg hk] at h2;simp only [Prod.mk.injEq,Option.some.injEq,true_and] at h2;obtain⟨rfl,rfl⟩:=h2;refine⟨[c],_,_,by simp,rfl,fun u hu=> ?_,?_⟩
    ·obtain rfl:u=c:=by simpa using hu
     exact⟨r1,r2,r3⟩
    ·rw [h5];simp [qO]
  ·intro d i f acc j t hd h;rw [kF] at h
   by_cases hs:L.length<=i\/jR L i=4\/jR L i=3
   ·rw [if_pos hs] at h;simp only [Prod.mk.injEq,Option.some.injEq,true_and] at h;obtain⟨rfl,rfl⟩:=h;exact⟨[],_,_,by rw [List.append_nil],fun u hu=>by simp at hu,rfl⟩
   ·rw [if_neg hs] at h;obtain⟨j',t',h1,h2⟩:=qL h;obtain⟨r1,r2⟩:=i4 d i j' t' hd h1;obtain⟨l,a,b,rfl,g3,g4⟩:=i3 d j' f (acc++ [t']) j t hd h2;refine⟨t'::l,a,b,by simp,fun u hu=> ?_,?_⟩
    ·rcases List.mem_cons.1 hu with rfl|hu
     ·exact⟨r2.right,r1,r2.deep⟩
     ·exact g3 u hu
    ·rw [r2.toks,g4,yB,yB];simp
  ·intro d i j t hd h;rw [itemF] at h;obtain⟨j',t',h1,h2⟩:=qL h;obtain⟨r1,r2⟩:=i5 d i j' t' hd h1
   by_cases hk:jR L j'=5
   ·rw [if_pos hk] at h2;simp only [Prod.mk.injEq,Option.some.injEq,true_and] at h2;obtain⟨rfl,rfl⟩:=h2;obtain⟨k1,k2,k3⟩:=Jw hL hk (by decide)
    obtain⟨lo,hi,z,hx,hc⟩:∃lo hi z,xv L j'=⟨5,j7,lo,hi,z⟩/\kS lo hi=true:=by
     generalize xv L j'=x at*
     cases k3 with
     |set s hs=>exact absurd k2 (by show ¬(0:Int)=5;decide)
     |cap=>exact absurd k2 (by show ¬(1:Int)=5;decide)
     |free=>exact absurd k2 (by show ¬(2:Int)=5;decide)
     |shut=>exact absurd k2 (by show ¬(3:Int)=5;decide)
     |bar=>exact absurd k2 (by show ¬(4:Int)=5;decide)
     |count lo hi z hc=>exact⟨lo,hi,z,rfl,hc⟩
    rw [hx] at k1 ⊢;refine⟨.inr (.inr (.inr rfl)),.rep lo hi z _ _ t' hc r1 r2.right,?_,?_⟩
    ·show d+Kj (.mk 6 j7 lo hi z _ _ [t'])<=200
     rw [Kj,if_neg (by decide),KP,KP];have:=r2.deep;omega
    ·have e:∀a b,xp (.mk 6 j7 lo hi z a b [t'])=xp t'++ [⟨5,j7,lo,hi,z⟩]:=fun a b=>by rw [xa];rfl
     rw [e,r2.toks,k1];simp
   ·rw [if_neg hk] at h2;simp only [Prod.mk.injEq,Option.some.injEq,true_and] at h2;obtain⟨rfl,rfl⟩:=h2;refine⟨?_,r2⟩
    rcases r1 with h|h|h
    ·exact .inl h
    ·exact .inr (.inl h)
    ·exact .inr (.inr (.inl h))
  ·intro d i j t hd h;rw [ko] at h
   by_cases h0:jR L i=0
   ·rw [if_pos h0] at h;simp only [Prod.mk.injEq,Option.some.injEq,true_and] at h;obtain⟨rfl,rfl⟩:=h;obtain⟨k1,k2,k3⟩:=Jw hL h0 (by decide)
    obtain⟨s,hx,hf⟩:∃s,xv L i=⟨0,s,0,0,false⟩/\s.fit:=by
     generalize xv L i=x at*
     cases k3 with
     |set s hs=>exact⟨s,rfl,hs⟩
     |cap=>exact absurd k2 (by show ¬(1:Int)=0;decide)
     |free=>exact absurd k2 (by show ¬(2:Int)=0;decide)
     |shut=>exact absurd k2 (by show ¬(3:Int)=0;decide)
     |bar=>exact absurd k2 (by show ¬(4:Int)=0;decide)
     |count lo hi z hc=>exact absurd k2 (by show ¬(5:Int)=0;decide)
    rw [hx] at k1 ⊢;refine⟨.inl rfl,.set s _ _ hf,hd,?_⟩;rw [xa,k1];rfl
   ·rw [if_neg h0] at h
    by_cases h1:jR L i=1
    ·rw [if_pos h1] at h;exact i6 d i 2 j t hd (.inl rfl) (by omega) h
    ·rw [if_neg h1] at h
     by_cases h2:jR L i=2
     ·rw [if_pos h2] at h;exact i6 d i 3 j t hd (.inr rfl) (by omega) h
     ·rw [if_neg h2] at h;simp at h
  ·intro d i k j t hd hk hkd h;rw [kG] at h
   by_cases h200:d=200
   ·rw [if_pos h200] at h;simp at h
   rw [if_neg h200] at h;obtain⟨j',t',h1,h2⟩:=qL h;have r:=i1 (d+1) (i+1) j' t' (by omega) h1
   by_cases h3:jR L j'=3
   ·rw [if_pos h3] at h2;simp only [Prod.mk.injEq,Option.some.injEq,true_and] at h2;obtain⟨rfl,rfl⟩:=h2;obtain⟨k1,k2,k3⟩:=Jw hL hkd (by omega);obtain⟨q1,q2,q3⟩:=Jw hL h3 (by decide);rw [J1 k3 k2 (by omega)] at k1;rw [J1 q3 q2 (by decide)] at q1;refine⟨?_,.group k _ _ t' hk r.right,?_,?_⟩
    ·rcases hk with rfl|rfl
     ·exact .inr (.inl rfl)
     ·exact .inr (.inr rfl)
    ·show d+Kj (.mk k j7 0 0 false _ _ [t'])<=200
     rw [Kj,if_pos hk,KP,KP];have:=r.deep;omega
    ·rw [xa,k1,r.toks,q1]
     rcases hk with rfl|rfl<;>simp [tkN]
   ·rw [if_neg h3] at h2;simp at h2
theorem yZ{s:ByteArray}{t:Tr}(h:qd s=(0,0,some t)):zu t/\Kj t<=200/\xp t=mt (jm s).1:=by
 unfold qd at h
 by_cases h1:(jm s).2.1≠0
 ·rw [if_pos h1] at h;simp at h
 rw [if_neg h1] at h
 by_cases h2:(ku (jm s).1 s.size).1≠0
 ·rw [if_pos h2] at h;simp at h
 rw [if_neg h2] at h;simp only [Prod.mk.injEq,true_and] at h;obtain⟨⟨e,j,o⟩,hw⟩:∃r,ku (jm s).1 s.size=r:=⟨_,rfl⟩;rw [hw] at h h2;have he:e=0:=by simpa using h2
 subst he;have ho:o=some t:=h;subst ho
 have hS:∀x∈mt (jm s).1,UI x:=by
  intro x hx;obtain⟨y,hy,rfl⟩:=List.mem_map.1 hx;exact V1 _ _ y hy
 generalize (jm s).1=L at*;unfold ku at hw;obtain⟨j',t',g1,g2⟩:=qL hw;have m:=(back_all hS s.size _).1 0 0 j' t' (by omega) g1
 by_cases hj:j'<L.length
 ·rw [if_pos hj] at g2;simp at g2
 rw [if_neg hj] at g2;simp only [Prod.mk.injEq,Option.some.injEq,true_and] at g2;obtain⟨rfl,rfl⟩:=g2;have hd:=m.deep;refine⟨m.right,by omega,?_⟩;have ht:=m.toks;have hnil:(mt L).drop j'= []:=List.drop_eq_nil_of_le (by unfold mt;simp;omega);rw [hnil,List.append_nil] at ht;simpa using ht.symm
theorem maxR_dp(l:List Tr):yx (l.map fun t=>(Kj t:Int))=(KP l:Int):=by
 have key:∀(l:List Tr) (a:Nat),(l.map fun t=>(Kj t:Int)).foldl max (a:Int)=((max a (KP l):Nat):Int):=by
  intro l
  induction l with
  |nil=>intro a;simp [KP]
  |cons u r ih=>
   intro a;have e:max (a:Int) (Kj u:Int)=((max a (Kj u):Nat):Int):=by omega
   rw [List.map_cons,List.foldl_cons,e,ih,KP];congr 1;omega
 have:=key l 0;unfold yx;rw [show(0:Int)=((0:Nat):Int) from rfl,this,Nat.zero_max]
theorem yo{l:List Tr}{ks:List Int}(h:∀t∈l,¬xr t∈ks):kf l ks=true:=by
 unfold kf;rw [List.all_eq_true];intro t ht;simpa using h t ht
theorem rt_sound{t:Tr}(h:zu t):J4 t=true:=by
 cases h with
 |empty a b=>rfl
 |set s a b hs=>
  show(!soundS 1 s && (!soundN 1 0 0 false && soundK 1 0 0 []))=true
  simp [soundS,soundN,soundK]
 |group k a b u hk _=>
  show(!soundS k j7 && (!soundN k 0 0 false && soundK k 0 0 [u]))=true
  have hw:=yo (l:= [u]) (ks:= []) (fun t _=>by simp)
  rcases hk with rfl|rfl<;>simp [soundS,soundN,soundK,hw,Kz,j7]
 |cat a b l hl hi hr=>
  show(!soundS 4 j7 && (!soundN 4 0 0 false && soundK 4 0 0 l))=true
  have hw:=yo (l:=l) (ks:= [0,4,5]) (fun t ht=>by have:=hi t ht;unfold IsItem at this;simp;omega);have h1:1<l.length:=by omega
  simp [soundS,soundN,soundK,hw,Kz,j7,h1]
 |alt a b l hl hi hr=>
  show(!soundS 5 j7 && (!soundN 5 0 0 false && soundK 5 0 0 l))=true
  have hw:=yo (l:=l) (ks:= [5]) (fun t ht=>by have:=hi t ht;simpa using this);have h1:1<l.length:=by omega
  simp [soundS,soundN,soundK,hw,Kz,j7,h1]
 |rep lo hi z a b u hc hs _=>
  show(!soundS 6 j7 && (!soundN 6 lo hi z && soundK 6 lo hi [u]))=true
  have hw:=yo (l:= [u]) (ks:= [0,4,5,6]) (fun t ht=>by
   have e:t=u:=by simpa using ht
   subst e;unfold IsSingle at hs
   simp;omega)
  simp [soundS,soundN,soundK,hw,Kz,j7,hc]
theorem rt_right{t:Tr}(h:zu t):jW qj t=(Kj t:Int):=by
 have step:∀(k:Int) (s:W4) (lo hi:Int) (z:Bool) (a b:Nat) (l:List Tr),zu (.mk k s lo hi z a b l)->(∀u∈l,jW qj u=(Kj u:Int))->jW qj (.mk k s lo hi z a b l)=(Kj (.mk k s lo hi z a b l):Int):=by
  intro k s lo hi z a b l h ih;rw [Jy];have e:(kM (.mk k s lo hi z a b l)).map (jW qj)=l.map fun t=>(Kj t:Int):=List.map_congr_left ih
  rw [e];unfold qj;rw [if_pos (rt_sound h)]
  show(if k=2\/k=3 then yx _+1 else yx _)=_
  rw [maxR_dp,Kj]
  split<;>omega
 induction h with
 |empty a b=>exact step _ _ _ _ _ _ _ _ (.empty a b) (fun u hu=>by simp at hu)
 |set s a b hs=>exact step _ _ _ _ _ _ _ _ (.set s a b hs) (fun u hu=>by simp at hu)
 |group k a b u hk hu ih=>exact step _ _ _ _ _ _ _ _ (.group k a b u hk hu) (fun v hv=>by rw [List.mem_singleton.1 hv];exact ih)
 |cat a b l h1 h2 h3 ih=>exact step _ _ _ _ _ _ _ _ (.cat a b l h1 h2 h3) ih
 |alt a b l h1 h2 h3 ih=>exact step _ _ _ _ _ _ _ _ (.alt a b l h1 h2 h3) ih
 |rep lo hi z a b u hc hs hu ih=>exact step _ _ _ _ _ _ _ _ (.rep lo hi z a b u hc hs hu) (fun v hv=>by rw [List.mem_singleton.1 hv];exact ih)
theorem Ud:∀l:List Tr,(∀t∈l,jc t+3<=4*(xp t).length)->jz l+3*l.length<=4*(qO [] (l.map xp)).length
 | [],_=>by simp [jz]
 |t::r,h=>by
  have h1:=h t (List.mem_cons_self ..);have h2:=Ud r (fun u hu=>h u (List.mem_cons_of_mem _ hu))
  have e:(qO [] ((t::r).map xp)).length=(xp t).length+(qO [] (r.map xp)).length:=by
   rw [yB,yB];simp
  rw [e,jz,List.length_cons];omega
theorem VY:∀l:List Tr,l≠ []->(∀t∈l,jc t<=4*(xp t).length+1)->jz l+3*l.length<=4*(qO [zk 4] (l.map xp)).length+4
 | [],h,_=>absurd rfl h
 | [t],_,h=>by
  have h1:=h t (List.mem_cons_self ..);have e:(qO [zk 4] ([t].map xp)).length=(xp t).length:=by simp [qO]
  rw [e,jz,jz,List.length_cons,List.length_nil];omega
 |t::u::q,_,h=>by
  have h1:=h t (List.mem_cons_self ..);have h2:=VY (u::q) (by simp) (fun v hv=>h v (List.mem_cons_of_mem _ hv))
  have e:(qO [zk 4] ((t::u::q).map xp)).length=(xp t).length+(1+(qO [zk 4] ((u::q).map xp)).length):=by
   rw [List.map_cons,List.map_cons,Us,List.length_append,List.length_append];rfl
  rw [e,jz,List.length_cons];omega
theorem rt_sizes{t:Tr}(h:zu t):(IsItem t->jc t+3<=4*(xp t).length)/\(xr t≠5->jc t<=4*(xp t).length+1)/\jc t<=4*(xp t).length+2:=by
 have sz:∀(k:Int) (s:W4) (lo hi:Int) (z:Bool) (a b:Nat) (l:List Tr),jc (.mk k s lo hi z a b l)=1+jz l:=fun k s lo hi z a b l=>kI (.mk k s lo hi z a b l)
 have up:∀{t:Tr},jc t+3<=4*(xp t).length->(IsItem t->jc t+3<=4*(xp t).length)/\(xr t≠5->jc t<=4*(xp t).length+1)/\jc t<=4*(xp t).length+2:=fun h=>⟨fun _=>h,fun _=>by omega,by omega⟩
 induction h with
 |empty a b=>
  have:jc (.mk 0 j7 0 0 false a b [])=1:=by rw [sz,jz]
  refine⟨fun h=>absurd h (by rintro(h|h|h|h)<;>exact absurd h (by show ¬(0:Int)=_;decide)),fun _=>by omega,by omega⟩
 |set s a b hs=>
  refine up ?_;rw [sz,jz,xa]
  show 1+0+3<=4*1
  omega
 |group k a b u hk hu ih=>
  refine up ?_
  have e:(xp (.mk k j7 0 0 false a b [u])).length=(xp u).length+2:=by
   rw [xa]
   rcases hk with rfl|rfl<;>simp [tkN]
  rw [e,sz,jz,jz];have:=ih.2.2;omega
 |cat a b l hl hi _ ih=>
  have e:(xp (.mk 4 j7 0 0 false a b l)).length=(qO [] (l.map xp)).length:=by rw [xa];rfl
  have:=Ud l (fun t ht=>(ih t ht).1 (hi t ht));rw [e,sz];refine⟨fun h=>absurd h (by rintro(h|h|h|h)<;>exact absurd h (by show ¬(4:Int)=_;decide)),fun _=>by omega,by omega⟩
 |alt a b l hl hi _ ih=>
  have e:(xp (.mk 5 j7 0 0 false a b l)).length=(qO [zk 4] (l.map xp)).length:=by rw [xa];rfl
  have:=VY l (by intro h;subst h;simp at hl) (fun t ht=>(ih t ht).2.1 (hi t ht));rw [e,sz];refine⟨fun h=>absurd h (by rintro(h|h|h|h)<;>exact absurd h (by show ¬(5:Int)=_;decide)),fun h=>absurd rfl h,by omega⟩
 |rep lo hi z a b u hc hs hu ih=>
  refine up ?_;have e:(xp (.mk 6 j7 lo hi z a b [u])).length=(xp u).length+1:=by rw [xa];simp [tkN]
  have h1:IsItem u:=by rcases hs with h|h|h;exact .inl h;exact .inr (.inl h);exact .inr (.inr (.inl h))
  rw [e,sz,jz,jz];have:=ih.1 h1;omega
theorem X9(f:Nat->Bool):∀k,(rsD f k).length<=k
 |0=>jN _
 |k+1=>by
  have:=X9 f k;rw [rsD]
  split
  ·split
   ·simp
   ·next p r he=>
    rw [he] at this
    split<;>simp at this ⊢ <;>omega
  ·omega
theorem setN_len(s:W4):(setN s).length<=2400:=by
 unfold setN
 split
 ·simp
 ·split
  ·simp
  ·next b _=>have:=br_le b;omega
  ·unfold clsN;have h1:=rsT_le (rsOf s.mem);have h2:(rsOf s.mem).length<=256:=X9 s.mem 256;simp;omega
end
end
section
section
open Go Go.RowKit
attribute [local go_sem ↓] Go.wp_at_zero Go.wp_at_succ
theorem Ym{L:jq}{size:Nat}(h:(ku L size).1=0):∃t,(ku L size).2.2=some t:=by
 unfold ku at h ⊢
 rcases((xD L size (6*L.length+6)).1 0 0 (Nat.zero_le _)).cases with ⟨j,t,hr,_,_⟩|⟨e,j,hr,he,_⟩
 ·rw [hr,ky] at h ⊢
  by_cases hj:j<L.length
  ·rw [if_pos hj] at h;exact absurd h (by simp)
  ·rw [if_neg hj];exact⟨t,rfl⟩
 ·rw [hr,kE] at h;have:e=0:=h;omega
theorem Vi(s:ByteArray):(∃t,qd s=(0,0,some t))\/∃e at_,qd s=(e,at_,none)/\e≠0:=by
 unfold qd
 by_cases h1:(jm s).2.1≠0
 ·rw [if_pos h1];exact .inr ⟨_,_,rfl,h1⟩
 rw [if_neg h1]
 by_cases h2:(ku (jm s).1 s.size).1≠0
 ·rw [if_pos h2];exact .inr ⟨_,_,rfl,h2⟩
 rw [if_neg h2];obtain⟨t,ht⟩:=Ym (by omega:(ku (jm s).1 s.size).1=0);exact .inl ⟨t,by rw [ht]⟩
end
end
end
section
open Go.ChangeShapes Go.WideShapes Go.ChangeAt Go.WideMaps Go.WideElems Go.RowKit
end
end
end Go.Proofs.YtnmalggmbeipaaaGreatDoor
namespace Go.Proofs.YtnmalggmbeipaaaGreatDoor
section
section
section
open Go Go.RowKit
attribute [local go_sem ↓] Go.wp_at_zero Go.wp_at_succ
end
section
open Go Go.RowKit
attribute [local go_sem ↓] Go.wp_at_zero Go.wp_at_succ
end
end
section
section
open Go Go.RowKit
end
section
open Go Go.RowKit
attribute [local go_sem ↓] Go.wp_at_zero Go.wp_at_succ
attribute [local go_sem] qX
end
end
section
section
open Go Go.RowKit
attribute [local go_sem ↓] Go.wp_at_zero Go.wp_at_succ
attribute [local go_sem] qX
end
end
end
end Go.Proofs.YtnmalggmbeipaaaGreatDoor
