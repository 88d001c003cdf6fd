/- A part of the proof. -/
import Derived.Test.YtaliapknkpdmdaaGreatDoorTb
import Derived.Test.YtaliapknkpdmdaaGreatDoorRegionY
import Derived.LoopTactic
import Derived.Test.YtaliapknkpdmdaaGreatDoorRa
import Derived.Deep.QuietTactic
import Derived.BigQuiet
import Derived.Test.YtaliapknkpdmdaaGreatDoorTa
import Derived.Lib.Strings
import Derived.Lib.Slices
import Derived.Lib.Builder
import Derived.Lib.AppendStr
import Derived.Lib.UnsafeStr
import Derived.Laws.Externs
import Derived.Laws.IdiomCopy
import Derived.Laws.BitsLemmas
import Derived.Test.YtaliapknkpdmdaaGreatDoorShelfN
import Derived.Lib.ItoaNum
import Derived.Lib.ItoaMem
import Derived.Lib.ItoaLen
import Derived.Test.YtaliapknkpdmdaaGreatDoorRegionC
import Derived.Test.YtaliapknkpdmdaaGreatDoorPbH
import Derived.Test.YtaliapknkpdmdaaGreatDoorPbO
set_option maxRecDepth 100000
set_option maxHeartbeats 16000000
namespace Go.Proofs.YtaliapknkpdmdaaGreatDoor.Reg
open Go Go.RowKit
section
variable {ops : Array Oper}
structure GenC (n : Nat) (R0 R1 : World -> Prop) (l : Array Bool) (X : World) : Prop where
 ahead : l.getD n false = false -> R0 X
 done : l.getD n false = true -> R1 X
theorem GenC.not {n i : Nat} {R0 R1 : World -> Prop} {l : Array Bool} {X : World} (_h : GenC n R0 R1 l X) (hcl : ClosedL ops l) (hr : reach ops 30 n i = true) (hun : l.getD i false = false) : l.getD n false = false := by
 cases e : l.getD n false with
 | false => rfl
 | true => rw [closed_reach hcl _ _ _ hr e] at hun;cases hun
theorem GenC.at {n i : Nat} {R0 R1 : World -> Prop} {l : Array Bool} {X : World} (h : GenC n R0 R1 l X) (hcl : ClosedL ops l) (hr : reach ops 30 n i = true) (hun : l.getD i false = false) : R0 X :=
 h.ahead (h.not hcl hr hun)
theorem GenC.up {n i : Nat} {R0 R1 : World -> Prop} {l : Array Bool} {X : World} (h : GenC n R0 R1 l X) (hi : i ≠ n) : GenC n R0 R1 (l.setIfInBounds i true) X := by
 refine ⟨fun e => ?_,fun e => ?_⟩
 ·rw [getD_set_ne false hi] at e;exact h.ahead e
 ·rw [getD_set_ne false hi] at e;exact h.done e
theorem GenC.step {n i : Nat} {R0 R1 : World -> Prop} {l : Array Bool} {X Y : World} (h : GenC n R0 R1 l X) (hcl : ClosedL ops l) (hr : reach ops 30 n i = true) (hun : l.getD i false = false) (hi : i ≠ n) (hY : R0 Y) : GenC n R0 R1 (l.setIfInBounds i true) Y := by
 refine ⟨fun _ => hY,fun e => ?_⟩;rw [getD_set_ne false hi,h.not hcl hr hun] at e
 cases e
theorem GenC.put {n : Nat} {R0 R1 : World -> Prop} {l : Array Bool} {Y : World} (hin : n < l.size) (hR : R1 Y) : GenC n R0 R1 (l.setIfInBounds n true) Y := by
 refine ⟨fun e => ?_,fun _ => hR⟩;rw [set_self hin] at e;cases e
theorem GenC.start {n k : Nat} {X : World} (R0 R1 : World -> Prop) (h : R0 X) : GenC n R0 R1 (Array.replicate k false) X :=
 ⟨fun _ => h,fun e => by simp [Array.getD_eq_getD_getElem?,Array.getElem?_replicate] at e;split at e <;> simp_all⟩
end
end Go.Proofs.YtaliapknkpdmdaaGreatDoor.Reg
namespace Go.Proofs.YtaliapknkpdmdaaGreatDoor
section
section
open Go Go.RowKit
abbrev HeldZ (W : World) (gs : Nat) (a b c d : Int) (w' : World) : Prop :=
 (w'.cell? ⟨gs,0,none⟩ = some (.int .u64 a) /\ w'.cell? ⟨gs,1,none⟩ = some (.int .u64 b) /\ w'.cell? ⟨gs,2,none⟩ = some (.int .u64 c) /\ w'.cell? ⟨gs,3,none⟩ = some (.int .u64 d)) /\ gs < w'.heap.size /\ Below W.heap.size W w'
theorem heldZ_below {W : World} {gs : Nat} {a b c d : Int} {X Y : World} (hb : Below X.heap.size X Y) (h : HeldZ W gs a b c d X) : HeldZ W gs a b c d Y := by
 obtain ⟨⟨h0,h1,h2,h3⟩,hg,hB⟩ := h;exact ⟨⟨(hb.cell (p := ⟨gs,0,none⟩) hg).trans h0,(hb.cell (p := ⟨gs,1,none⟩) hg).trans h1,(hb.cell (p := ⟨gs,2,none⟩) hg).trans h2,(hb.cell (p := ⟨gs,3,none⟩) hg).trans h3⟩,Nat.lt_of_lt_of_le hg hb.size,hB.trans (hb.mono hB.size)⟩
theorem size_setZ (w : World) (a : Addr) (v : Value) : (w.setCell a v).heap.size = w.heap.size := by simp only [World.setCell,Array.size_modify]
end
section
open Go Go.RowKit
attribute [local go_sem ↓] Go.wp_at_zero Go.wp_at_succ
attribute [local go_sem] eq4
theorem firstIs_one {f : Nat -> Bool} {v v' : Value} (h : FirstIs f v) (h' : FirstIs f v') : v = v' := by
 rcases h with ⟨h,rfl⟩ | ⟨n,hn,hf,hl,rfl⟩
 ·rcases h' with ⟨_,rfl⟩ | ⟨m,hm,hg,_,_⟩
  ·rfl
  ·rw [h m hm] at hg;cases hg
 ·rcases h' with ⟨h',_⟩ | ⟨m,hm,hg,hk,rfl⟩
  ·rw [h' n hn] at hf;cases hf
  ·rcases Nat.lt_trichotomy n m with e | e | e
   ·rw [hk n e] at hf;cases hf
   ·subst e;rfl
   ·rw [hl m e] at hg;cases hg
theorem first_at {a b c d : Int} {w : World} {v : Value} (fa : Fit a) (fb : Fit b) (fc : Fit c) (fd : Fit d) (hT : Tab w) (hv : FirstIs (memb a b c d) v) :
  Calls Tryz.prog 83 #[.agg #[.int .u64 a,.int .u64 b,.int .u64 c,.int .u64 d]] w fun e w' => e = .returned v /\ Below w.heap.size w w' :=
 (first_any a b c d w fa fb fc fd hT).mono fun e w' ⟨v',he,h',hb⟩ => ⟨by rw [he,firstIs_one h' hv],hb⟩
def endTold (lo : Nat) (a b c d g : Int) (okb : Bool) : Nat -> Reg.Told
 | 0 => .inl (.int .u8 ((lo : Int)))
 | 1 => .inl (.agg #[.int .u64 (frw lo 0),.int .u64 (frw lo 1),.int .u64 (frw lo 2),.int .u64 (frw lo 3)])
 | 2 => .inl (.agg #[.int .u64 a,.int .u64 b,.int .u64 c,.int .u64 d])
 | 3 => .inl (.agg #[.int .u64 (an (frw lo 0) (nt a)),.int .u64 (an (frw lo 1) (nt b)),.int .u64 (an (frw lo 2) (nt c)),.int .u64 (an (frw lo 3) (nt d))])
 | 4 => .inl (.tuple #[.int .u8 g,.bool okb])
 | 5 => .inl (.tuple #[.int .u8 g,.bool okb])
 | 6 => .inl (.int .u8 g)
 | 7 => .inl (.bool okb)
 | 8 => .inl (.int .u8 g)
 | 9 => .inl (.bool okb)
 | _ => .inl undef
theorem end_at (lo : Nat) (a b c d g : Int) (okb : Bool) (r : Int) (w : World) (hlo : lo < 256) (hT : Tab w) (hF : FirstIs (memb (an (frw lo 0) (nt a)) (an (frw lo 1) (nt b)) (an (frw lo 2) (nt c)) (an (frw lo 3) (nt d))) (.tuple #[.int .u8 g,.bool okb])) (hr : (okb = false /\ r = 255) \/ (okb = true /\ 1 <= g /\ g <= 255 /\ r = g - 1)) :
  Calls Tryz.prog 121 #[.agg #[.int .u64 a,.int .u64 b,.int .u64 c,.int .u64 d],.int .u8 lo] w fun e w' => e = .returned (.int .u8 r) /\ Below w.heap.size w w' := by
 have HF := hid hF;clear hF
 go_enter Tryz.func121,Tryz.ntmps121
 go_wp2_with fail
 generalize hws : w.alloc _ = ws
 have HS : HeldZ ws w.heap.size a b c d ws := by
  subst hws;exact ⟨⟨by simp [go_sem],by simp [go_sem],by simp [go_sem],by simp [go_sem]⟩,by simp,Below.refl _ _⟩
 have hba : Below w.heap.size w ws := by subst hws;exact below1 _ _
 clear hws;have HT := hid (hT.up hba);have HB := hid hba;have hs := hba.size;have HW := heldZ_below (Below.refl _ ws).drew HS;clear hT hba HS;generalize w.heap.size = gs at HW ⊢;refine Reg.wp_region_told (endTold lo a b c d g okb) [] [0,1,2,3,4,5,6,7,8,9] (by kernel_rfl) (by kernel_rfl) (by kernel_rfl) (by intro f hf;cases hf) (by intro f hf;cases hf) ?_ ?_
 focus
  refine ⟨Reg.opOK_plain (by rfl) fun G listed A wv hI hall => .inl ⟨Reg.wn,?_⟩,?_⟩
  focus
   have e1 := hI.wo 1 rfl;clear hI hall HW;unfold Reg.Yields
   go_simp
   exact Reg.good_val (by rfl) (by rfl) (Below.refl _ _)
  refine ⟨Reg.opOK_plain (by rfl) fun G listed A wv hI hall => .inl ⟨Reg.wn,?_⟩,?_⟩
  focus
   have e8 := hI.ev (i := 0) (d := 8) (by rfl) (by rfl) (hall ⟨0,.data⟩ (by simp) rfl);clear hI hall HW;unfold Reg.Yields
   go_simp
   exact (from_any lo hlo _).mono fun e w'' ⟨he,hb⟩ => ⟨_,he,Reg.good_val (by rfl) (by rfl) hb⟩
  refine ⟨Reg.opOK_plain (by rfl) fun G listed A wv hI hall => .inl ⟨Reg.wn,?_⟩,?_⟩
  focus
   have H := heldZ_below hI.base HW;have e2 := hI.wo 2 rfl;clear hI hall HW;unfold Reg.Yields
   go_simp
   exact Reg.good_val (by rfl) (by rfl) (Below.refl _ _)
  refine ⟨Reg.opOK_plain (by rfl) fun G listed A wv hI hall => .inl ⟨Reg.wn,?_⟩,?_⟩
  focus
   have e9 := hI.ev (i := 1) (d := 9) (by rfl) (by rfl) (hall ⟨1,.data⟩ (by simp) rfl);have e10 := hI.ev (i := 2) (d := 10) (by rfl) (by rfl) (hall ⟨2,.data⟩ (by simp) rfl);clear hI hall HW;unfold Reg.Yields
   go_simp
   exact (minus_any _ _ _ _ _ _ _ _ _).mono fun e w'' ⟨he,hb⟩ => ⟨_,he,Reg.good_val (by rfl) (by rfl) hb⟩
  refine ⟨Reg.opOK_plain (by rfl) fun G listed A wv hI hall => .inl ⟨Reg.wn,?_⟩,?_⟩
  focus
   have H := heldZ_below hI.base HW;have e11 := hI.ev (i := 3) (d := 11) (by rfl) (by rfl) (hall ⟨3,.data⟩ (by simp) rfl);clear hI hall HW;unfold Reg.Yields
   go_simp
   exact (first_at (an_fit _ _) (an_fit _ _) (an_fit _ _) (an_fit _ _) (HT.out.below H.2.2 HT.out.lt) HF.out).mono fun e w'' ⟨he,hb⟩ => ⟨_,he,Reg.good_val (by rfl) (by rfl) hb⟩
  refine ⟨Reg.opOK_plain (by rfl) fun G listed A wv hI hall => .inl ⟨Reg.wn,?_⟩,?_⟩
  focus
   have e12 := hI.ev (i := 4) (d := 12) (by rfl) (by rfl) (hall ⟨4,.data⟩ (by simp) rfl);clear hI hall HW;unfold Reg.Yields
   go_simp
   exact Reg.good_val (by rfl) (by rfl) (Below.refl _ _)
  refine ⟨Reg.opOK_plain (by rfl) fun G listed A wv hI hall => .inl ⟨Reg.wn,?_⟩,?_⟩
  focus
   have e7 := hI.ev (i := 5) (d := 7) (by rfl) (by rfl) (hall ⟨5,.data⟩ (by simp) rfl);clear hI hall HW;unfold Reg.Yields
   go_simp
   exact Reg.good_val (by rfl) (by rfl) (Below.refl _ _)
  refine ⟨Reg.opOK_plain (by rfl) fun G listed A wv hI hall => .inl ⟨Reg.wn,?_⟩,?_⟩
  focus
   have e7 := hI.ev (i := 5) (d := 7) (by rfl) (by rfl) (hall ⟨5,.data⟩ (by simp) rfl);clear hI hall HW;unfold Reg.Yields
   go_simp
   exact Reg.good_val (by rfl) (by rfl) (Below.refl _ _)
  refine ⟨Reg.opOK_plain (by rfl) fun G listed A wv hI hall => .inl ⟨Reg.wn,?_⟩,?_⟩
  focus
   have e13 := hI.ev (i := 6) (d := 13) (by rfl) (by rfl) (hall ⟨6,.data⟩ (by simp) rfl);clear hI hall HW;unfold Reg.Yields
   go_simp
   exact Reg.good_val (by rfl) (by rfl) (Below.refl _ _)
  refine ⟨Reg.opOK_plain (by rfl) fun G listed A wv hI hall => .inl ⟨Reg.wn,?_⟩,?_⟩
  focus
   have e14 := hI.ev (i := 7) (d := 14) (by rfl) (by rfl) (hall ⟨7,.data⟩ (by simp) rfl);clear hI hall HW;unfold Reg.Yields
   go_simp
   exact Reg.good_val (by rfl) (by rfl) (Below.refl _ _)
  trivial
 intro G w2 hI;have H := heldZ_below hI.base HW;have HFin := hid (HB.out.trans (H.2.2.mono hs));clear hI HW H;simp [Reg.finalTmps,Reg.dstAt,Reg.valOf,endTold]
 rcases hr with ⟨rfl,rfl⟩ | ⟨rfl,h1,h2,rfl⟩
 ·go_wp2
  go_ret
  exact ⟨rfl,HFin.out⟩
 ·have hu : IntKind.u8.wrap (g - 1) = g - 1 := by simp [IntKind.wrap,IntKind.signed,IntKind.bits];omega
  go_wp2
  go_ret
  exact ⟨rfl,HFin.out⟩
end
section
open Go Go.RowKit
theorem end_any {a b c d : Int} {lo hi : Nat} {w : World} (hlo : lo <= hi) (hhi : hi < 256) (hall : ∀ n,lo <= n -> n <= hi -> memb a b c d n = true) (hmax : hi = 255 \/ memb a b c d (hi + 1) = false) (hT : Tab w) :
  Calls Tryz.prog 121 #[.agg #[.int .u64 a,.int .u64 b,.int .u64 c,.int .u64 d],.int .u8 lo] w fun e w' => e = .returned (.int .u8 (hi : Int)) /\ Below w.heap.size w w' := by
 have hm : ∀ n,n < 256 -> memb (an (frw lo 0) (nt a)) (an (frw lo 1) (nt b)) (an (frw lo 2) (nt c)) (an (frw lo 3) (nt d)) n = (decide (lo <= n) && !memb a b c d n) := fun n hn => by rw [memb_an,memb_nt,memb_frw lo n hn]
 by_cases h : hi = 255
 ·refine end_at lo a b c d 0 false hi w (by omega) hT (.inl ⟨fun n hn => ?_,rfl⟩) (.inl ⟨rfl,by omega⟩);rw [hm n hn]
  by_cases h1 : lo <= n
  ·rw [hall n h1 (by omega)];simp
  ·simp [h1]
 ·have hf := hmax.resolve_left h;refine end_at lo a b c d ((hi + 1 : Nat) : Int) true hi w (by omega) hT (.inr ⟨hi + 1,by omega,?_,fun i hi' => ?_,rfl⟩) (.inr ⟨rfl,by omega,by omega,by omega⟩)
  ·rw [hm _ (by omega),hf];simp;omega
  ·rw [hm i (by omega)]
   by_cases h1 : lo <= i
   ·rw [hall i h1 (by omega)];simp
   ·simp [h1]
theorem top_of (f : Nat -> Bool) (lo : Nat) (hl : lo < 256) (h : f lo = true) : ∃ hi,lo <= hi /\ hi < 256 /\ (∀ n,lo <= n -> n <= hi -> f n = true) /\ (hi = 255 \/ f (hi + 1) = false) := by
 rcases least_of (fun n => decide (lo <= n) && !f n) 256 with h0 | ⟨m,hm,h1,h2⟩
 ·refine ⟨255,by omega,by omega,fun n h1 h2 => ?_,.inl rfl⟩;have := h0 n (by omega);simpa [h1] using this
 ·simp at h1;have hne : m ≠ lo := fun e => by subst e;rw [h] at h1;simp at h1
  refine ⟨m - 1,by omega,by omega,fun n h3 h4 => ?_,.inr (by rw [show m - 1 + 1 = m by omega];exact h1.2)⟩;have := h2 n (by omega);simpa [h3] using this
def inRs (rs : List (Nat × Nat)) (n : Nat) : Bool := rs.any fun p => decide (p.1 <= n /\ n <= p.2)
def Rise : List (Nat × Nat) -> Prop
 | [] => True
 | [p] => p.1 <= p.2 /\ p.2 < 256
 | p :: q :: r => p.1 <= p.2 /\ p.2 < 256 /\ p.2 + 1 < q.1 /\ Rise (q :: r)
theorem rise_snoc (rs : List (Nat × Nat)) (lo hi : Nat) (h : Rise rs) (h1 : lo <= hi) (h2 : hi < 256) (hl : ∀ p,rs.getLast? = some p -> p.2 + 1 < lo) : Rise (rs ++ [(lo,hi)]) := by
 induction rs with
 | nil => exact ⟨h1,h2⟩
 | cons p r ih =>
  cases r with
  | nil => exact ⟨h.1,h.2,hl p rfl,h1,h2⟩
  | cons q r => exact ⟨h.1,h.2.1,h.2.2.1,ih h.2.2.2 (fun p' hp' => hl p' (by rw [List.getLast?_cons_cons];exact hp'))⟩
theorem rise_each : ∀ (rs : List (Nat × Nat)),Rise rs -> ∀ i (h : i < rs.length),rs[i].1 <= rs[i].2 /\ rs[i].2 < 256 /\ ∀ (h' : i + 1 < rs.length),rs[i].2 + 1 < rs[i + 1].1
 | [],_,i,h => absurd h (by simp)
 | [p],hr,0,_ => ⟨hr.1,hr.2,fun h' => absurd h' (by simp)⟩
 | p :: q :: r,hr,0,_ => ⟨hr.1,hr.2.1,fun _ => hr.2.2.1⟩
 | p :: q :: r,hr,i + 1,h => by
  have := rise_each (q :: r) hr.2.2.2 i (by simpa using h);exact ⟨this.1,this.2.1,fun h' => this.2.2 (by simpa using h')⟩
def RsOK (f : Nat -> Bool) (rs : List (Nat × Nat)) (H : Nat) : Prop :=
 Rise rs /\ rs.length <= H /\ H <= 256 /\ (∀ p,rs.getLast? = some p -> p.2 + 1 = H /\ (H = 256 \/ f H = false)) /\ ∀ n,n < 256 -> inRs rs n = (f n && decide (n < H))
theorem rsOK_nil (f : Nat -> Bool) : RsOK f [] 0 := ⟨trivial,jN _,by omega,(fun p h => by simp at h),(fun n _ => by simp [inRs])⟩
theorem rsOK_snoc {f : Nat -> Bool} {rs : List (Nat × Nat)} {H lo hi : Nat} (h : RsOK f rs H) (hH : H <= lo) (hl : f lo = true) (hlt : lo < 256) (hle : lo <= hi) (hhi : hi < 256) (hno : ∀ n,H <= n -> n < lo -> f n = false) (hall : ∀ n,lo <= n -> n <= hi -> f n = true) (hmax : hi = 255 \/ f (hi + 1) = false) :
  RsOK f (rs ++ [(lo,hi)]) (hi + 1) := by
 obtain ⟨h1,h2,h3,h4,h5⟩ := h;refine ⟨rise_snoc rs lo hi h1 hle hhi fun p hp => ?_,by simp;omega,by omega,fun p hp => ?_,fun n hn => ?_⟩
 ·obtain ⟨e,hc⟩ := h4 p hp
  rcases hc with hc | hc
  ·omega
  ·have : lo ≠ H := fun e => by subst e;rw [hl] at hc;cases hc
   omega
 ·simp at hp;subst hp;exact ⟨rfl,hmax.imp (by omega) id⟩
 ·unfold inRs at h5 ⊢;rw [List.any_append,h5 n hn];simp only [List.any_cons,List.any_nil,Bool.or_false]
  by_cases c1 : n < H
  ·have c2 : n < hi + 1 := by omega
   have c3 : ¬ lo <= n := by omega
   simp [c1,c2,c3]
  ·by_cases c2 : n < lo
   ·rw [hno n (by omega) c2];simp;omega
   ·by_cases c3 : n <= hi
    ·rw [hall n (by omega) c3];have c4 : n < hi + 1 := by omega
     have c5 : lo <= n := by omega
     simp [c3,c4,c5]
    ·have c4 : ¬ n < hi + 1 := by omega
     simp [c1,c3,c4]
end
section
open Go Go.RowKit
attribute [local go_sem ↓] Go.wp_at_zero Go.wp_at_succ
attribute [local go_sem] eq4
def pairVals (rs : List (Nat × Nat)) : List Value := rs.flatMap fun p => [.int .u8 (p.1 : Int),.int .u8 (p.2 : Int)]
theorem pairVals_snoc (rs : List (Nat × Nat)) (lo hi : Nat) : pairVals (rs ++ [(lo,hi)]) = pairVals rs ++ [.int .u8 (lo : Int),.int .u8 (hi : Int)] := by simp [pairVals]
theorem Tryz.infoPair2 : (Tryz.prog.info? 168).map (fun i => (i.zero,i.size,i.bytes)) = some (some (.agg #[.int .u8 0,.int .u8 0]),2,2) := by kernel_rfl
def lenOf : Value -> Nat
 | .slice _ n _ => n
 | _ => 0
theorem len_own {w : World} {B n sz : Nat} {e : TypeId} {v : Value} {xs : List Value} (h : w.ownsRow B e sz v n xs) : lenOf v = n := by
 rcases h.2 with ⟨rfl,rfl⟩ | ⟨g,cap,cur,rfl,_⟩ <;> rfl
theorem cell_two_p (w : World) (x y : Value) (t : TypeId) : ∀ j u,[x,y][j]? = some u -> (w.alloc (.cells #[x,y] t)).cell? ((⟨w.heap.size,0,none⟩ : Addr).add j) = some u := by
 intro j u hj
 match j,hj with
 | 0,hj => simp at hj;subst hj;simp [Addr.add]
 | 1,hj => simp at hj;subst hj;simp [Addr.add]
theorem two_u8 (x y : Int) : ∀ u ∈ [Value.int .u8 x,Value.int .u8 y],u.oneCell' = true := by
 intro u hu;have : u = .int .u8 x \/ u = .int .u8 y := by simpa using hu
 rcases this with rfl | rfl <;> rfl
def GR (w : World) (rs : List (Nat × Nat)) (c0 c1 c2 c3 : Int) (vl : Value) (wr : World) : Prop :=
 wr.heap[w.heap.size]? = some (.cells #[.int .u64 c0,.int .u64 c1,.int .u64 c2,.int .u64 c3] 29) /\ wr.ownsRow (w.heap.size + 1) 168 2 vl rs.length (pairVals rs) /\ Below w.heap.size w wr /\ w.heap.size + 1 <= wr.heap.size
theorem GR.up {w wr w1 : World} {rs : List (Nat × Nat)} {c0 c1 c2 c3 : Int} {vl : Value} (h : GR w rs c0 c1 c2 c3 vl wr) (hb : Below wr.heap.size wr w1) : GR w rs c0 c1 c2 c3 vl w1 :=
 ⟨(hb.block _ (sizeOfGet h.1)).trans h.1,ownsBelow h.2.1 hb,h.2.2.1.trans (hb.mono h.2.2.1.size),Nat.le_trans h.2.2.2 hb.size⟩
theorem GR.add {w w1 w2 : World} {rs : List (Nat × Nat)} {c0 c1 c2 c3 : Int} {vl v' : Value} {o : Obj} {lo hi : Nat} (h : GR w rs c0 c1 c2 c3 vl w1) (ho : w2.ownsRow (w.heap.size + 1) 168 2 v' (rs.length + 1) (pairVals rs ++ [.int .u8 (lo : Int),.int .u8 (hi : Int)])) (hg : (w1.alloc o).grownBy w2 vl.ownBlock) :
  GR w (rs ++ [(lo,hi)]) c0 c1 c2 c3 v' w2 := by
 have hb := belowApp h.2.1 hg h.2.2.2;refine ⟨(hb.block _ (by omega)).trans h.1,?_,h.2.2.1.trans (hb.mono (by omega)),Nat.le_trans h.2.2.2 hb.size⟩;rw [pairVals_snoc,List.length_append];exact ho
theorem GR.held {w wr : World} {rs : List (Nat × Nat)} {c0 c1 c2 c3 : Int} {vl : Value} (h : GR w rs c0 c1 c2 c3 vl wr) : HeldZ wr w.heap.size c0 c1 c2 c3 wr :=
 ⟨⟨jC h.1 0,jC h.1 1,jC h.1 2,jC h.1 3⟩,sizeOfGet h.1,Below.refl _ _⟩
theorem GR.store {w wr : World} {rs : List (Nat × Nat)} {c0 c1 c2 c3 d0 d1 d2 d3 : Int} {vl : Value} (h : GR w rs c0 c1 c2 c3 vl wr) :
  GR w rs d0 d1 d2 d3 vl ((((wr.setCell ⟨w.heap.size,0,none⟩ (.int .u64 d0)).setCell ⟨w.heap.size,1,none⟩ (.int .u64 d1)).setCell ⟨w.heap.size,2,none⟩ (.int .u64 d2)).setCell ⟨w.heap.size,3,none⟩ (.int .u64 d3)) := by
 have hs : ∀ {X : World} {n : Nat} {xs : List Value} {v : Value} (o : Nat) (u : Value),X.ownsRow (w.heap.size + 1) 168 2 v n xs -> (X.setCell ⟨w.heap.size,o,none⟩ u).ownsRow (w.heap.size + 1) 168 2 v n xs := by
  intro X n xs v o u h;refine ⟨h.1,?_⟩
  rcases h.2 with h2 | ⟨b,cap,cur,rfl,hb',hh,r⟩
  ·exact .inl h2
  ·exact .inr ⟨b,cap,cur,rfl,hb',(Below.heap_setCell _ _ _ _ (by show b ≠ w.heap.size;omega)).trans hh,r⟩
 exact ⟨Joins.block_setCell (Joins.block_setCell (Joins.block_setCell (Joins.block_setCell h.1 _) _) _) _,hs _ _ (hs _ _ (hs _ _ (hs _ _ h.2.1))),below_set4 h.2.2.1 (jN _) _ _ _ _,by rw [size_setZ,size_setZ,size_setZ,size_setZ];exact h.2.2.2⟩
def Cur (f : Nat -> Bool) (H : Nat) (c0 c1 c2 c3 : Int) : Prop := Fit c0 /\ Fit c1 /\ Fit c2 /\ Fit c3 /\ ∀ n,n < 256 -> memb c0 c1 c2 c3 n = (f n && decide (H <= n))
theorem Cur.next {f : Nat -> Bool} {H lo hi : Nat} {c0 c1 c2 c3 : Int} (h : Cur f H c0 c1 c2 c3) (hhi : hi < 256) (hno : ∀ n,H <= n -> n < lo -> f n = false) (hH : H <= lo) (hle : lo <= hi) : Cur f (hi + 1) (an c0 (nt (rgw lo hi 0))) (an c1 (nt (rgw lo hi 1))) (an c2 (nt (rgw lo hi 2))) (an c3 (nt (rgw lo hi 3))) := by
 refine ⟨an_fit _ _,an_fit _ _,an_fit _ _,an_fit _ _,fun n hn => ?_⟩;rw [memb_an,memb_nt,memb_rgw lo hi n hhi hn,h.2.2.2.2 n hn]
 by_cases c1 : H <= n
 ·by_cases c2 : n < lo
  ·rw [hno n c1 c2];simp
  ·by_cases c3 : n <= hi
   ·have c4 : lo <= n := by omega
    have c5 : ¬ hi + 1 <= n := by omega
    simp [c3,c4,c5]
   ·have c5 : hi + 1 <= n := by omega
    simp [c1,c3,c5]
 ·have c5 : ¬ hi + 1 <= n := by omega
  simp [c1,c5]
def rngTold (lo hi : Nat) (c0 c1 c2 c3 : Int) : Nat -> Reg.Told
 | 0 => .inl (.agg #[.int .u64 c0,.int .u64 c1,.int .u64 c2,.int .u64 c3])
 | 1 => .inl (.int .u8 ((lo : Int)))
 | 2 => .inl (.int .u8 ((hi : Int)))
 | 3 => .inl (.agg #[.int .u64 (rgw lo hi 0),.int .u64 (rgw lo hi 1),.int .u64 (rgw lo hi 2),.int .u64 (rgw lo hi 3)])
 | 4 => .inl (.agg #[.int .u64 (an c0 (nt (rgw lo hi 0))),.int .u64 (an c1 (nt (rgw lo hi 1))),.int .u64 (an c2 (nt (rgw lo hi 2))),.int .u64 (an c3 (nt (rgw lo hi 3)))])
 | _ => .inl undef
def RR (w : World) (f : Nat -> Bool) (vl vlo vok : Value) (wr : World) : Prop :=
 ∃ rs H c0 c1 c2 c3,FirstIs (memb c0 c1 c2 c3) (.tuple #[vlo,vok]) /\ RsOK f rs H /\ Cur f H c0 c1 c2 c3 /\ GR w rs c0 c1 c2 c3 vl wr
theorem ranges_any (a b c d : Int) (w : World) (fa : Fit a) (fb : Fit b) (fc : Fit c) (fd : Fit d) (hT : Tab w) :
  Calls Tryz.prog 110 #[.agg #[.int .u64 a,.int .u64 b,.int .u64 c,.int .u64 d]] w fun e w' => ∃ rs v,e = .returned v /\ Rise rs /\ rs.length <= 256 /\ (∀ n,n < 256 -> inRs rs n = memb a b c d n) /\ w'.ownsRow (w.heap.size + 1) 168 2 v rs.length (pairVals rs) /\ Below w.heap.size w w' := by
 obtain ⟨i0,hif,hz0,hz1,hz2⟩ := info_parts Tryz.infoPair2;have HT := hid hT;clear hT
 go_enter Tryz.func110,Tryz.ntmps110
 go_wp2_with fail
 have hG : GR w [] a b c d (.slice none 0 0) (w.alloc (.cells #[.int .u64 a,.int .u64 b,.int .u64 c,.int .u64 d] 29)) := ⟨heap_new _ _,World.ownsRow_nil _ _ _ _,below1 _ _,by simp⟩;have hC : Cur (memb a b c d) 0 a b c d := ⟨fa,fb,fc,fd,fun n _ => by simp⟩;generalize w.alloc (.cells #[.int .u64 a,.int .u64 b,.int .u64 c,.int .u64 d] 29) = W at *;have HG := hid hG;have HC := hid hC;clear hG hC;refine (first_any a b c d _ fa fb fc fd (HT.out.up HG.out.2.2.1)).mono ?_;rintro e w1 ⟨v,rfl,hv,hb1⟩;have HV := hid hv;have HG1 := hid (HG.out.up hb1);clear hb1 HG
 have hvv : v = .tuple #[.int .u8 0,.bool false] \/ ∃ n : Nat,n < 256 /\ v = .tuple #[.int .u8 n,.bool true] := by
  rcases hv with ⟨_,hv⟩ | ⟨n,hn,_,_,hv⟩
  ·exact .inl hv
  ·exact .inr ⟨n,hn,hv⟩
 clear hv
 rcases hvv with hv | ⟨nf,hnf,hv⟩
 all_goals
  subst hv
  go_wp2_with fail
  go_loopw [3,4,5] (fun vl vlo vok wr => RR w (memb a b c d) vl vlo vok wr) (fun vl _ _ _ => 257 - lenOf vl)
  case atStart => exact ⟨[],0,a,b,c,d,HV.out,rsOK_nil _,HC.out,HG1.out⟩
  case round =>
   clear HV HC HG1;obtain ⟨rs,H,c0,c1,c2,c3,hF,hR,hC,hG⟩ := hrel;have HR := hid hR;have HC := hid hC;have HG := hid hG;have hl := len_own hG.2.1;have HL := hid hl;have hlen := hR.2.1;have hH := hR.2.2.1;clear hR hC hG hl
   rcases hF with ⟨hno,hv⟩ | ⟨lo,hlo,hf,hlow,hv⟩
   ·have h2 : u4 = .int .u8 0 /\ u5 = .bool false := by simpa using hv
    obtain ⟨rfl,rfl⟩ := h2;clear hv
    have HF : Hid (∀ n,n < 256 -> inRs rs n = memb a b c d n) := fun n hn => by
     have h1 := HC.out.2.2.2.2 n hn;rw [hno n hn] at h1;rw [HR.out.2.2.2.2 n hn]
     by_cases c1 : n < H
     ·simp [c1]
     ·have c2 : H <= n := by omega
      simp [c2] at h1;simp [h1]
    clear hno
    go_wp2_with fail
    go_ret
    exact ⟨rs,u3,rfl,HR.out.1,by omega,HF.out,HG.out.2.1,HG.out.2.2.1⟩
   ·have h2 : u4 = .int .u8 lo /\ u5 = .bool true := by simpa using hv
    obtain ⟨rfl,rfl⟩ := h2;clear hv;have h3 := HC.out.2.2.2.2 lo hlo;rw [hf] at h3;have h4 : memb a b c d lo = true /\ H <= lo := by simpa using h3.symm
    obtain ⟨hfl,hHl⟩ := h4
    have hno : ∀ n,H <= n -> n < lo -> memb a b c d n = false := fun n h5 h6 => by
     have h7 := HC.out.2.2.2.2 n (by omega);rw [hlow n h6] at h7;simpa [h5] using h7.symm
    obtain ⟨hi,hle,hhi,hall,hmax⟩ := top_of (memb a b c d) lo hlo hfl;have HRn := hid (rsOK_snoc HR.out hHl hfl hlo hle hhi hno hall hmax);have HCn := hid (HC.out.next hhi hno hHl hle)
    have HALL : Hid (∀ n,lo <= n -> n <= hi -> memb c0 c1 c2 c3 n = true) := fun n h5 h6 => by
     rw [HC.out.2.2.2.2 n (by omega),hall n h5 h6];simp;omega
    have HMAX : Hid (hi = 255 \/ memb c0 c1 c2 c3 (hi + 1) = false) := by
     rcases hmax with h | h
     ·exact .inl h
     ·by_cases h9 : hi = 255
      ·exact .inl h9
      ·exact .inr (by rw [HC.out.2.2.2.2 _ (by omega),h];simp)
    have hh := HG.out.held;obtain ⟨⟨q0,q1,q2,q3⟩,hgl,_⟩ := hh;have HTr := hid (HT.out.up HG.out.2.2.1);clear h3 hno hall hmax hf hlow hfl
    go_wp2_with fail
    refine (end_any hle hhi HALL.out HMAX.out HTr.out).mono ?_;rintro e w2 ⟨rfl,hb2⟩;have HG2 := hid (HG.out.up hb2);have hs2 := hb2.size;have hs3 := HG.out.2.2.2;have hs4 : w.heap.size + 1 <= w2.heap.size := by omega
    clear hb2 q0 q1 q2 q3 hgl
    go_wp2_with (at_builtin;go_must (refine wpList_append_own_at _ rfl (.tmp 21) (.tmp 25) 166 rfl (w.heap.size + 1) 168 i0 (.agg #[.int .u8 0,.int .u8 0]) 2 2 Tryz.underlying166 hif hz0 hz1 hz2 rfl (by decide) _ _ _ rfl (ownsAlloc HG2.out.2.1 _) ⟨_,0,none⟩ 1 1 _ rfl rfl (cell_two_p _ _ _ _) (two_u8 _ _) (by unfold maxLen;omega) (by omega) (by simp;omega) ?_);intro v1 w1a ho hgr _ hat;have HG3 := hid (HG2.out.add ho hgr);have HLn := hid (len_own ho);clear ho hgr hat)
    have HW := heldZ_below (Below.refl _ w1a).drew HG3.out.held;have hs5 := HG3.out.2.2.2;refine Reg.wp_region_toldY 5 _ (rngTold lo hi c0 c1 c2 c3) [0,1,2,3,4,5] (by kernel_rfl) (by rfl) (by rfl) (by kernel_rfl) (by kernel_rfl) (by kernel_rfl) ?_ ?_
    focus
     refine ⟨Reg.opOK_plain (by rfl) fun G listed A wv hI hall => .inl ⟨Reg.wn,?_⟩,?_⟩
     focus
      have H := heldZ_below hI.base HW;have e1 := hI.wo 1 rfl;clear hI hall HW;unfold Reg.Yields
      go_simp
      exact Reg.good_val (by rfl) (by rfl) (Below.refl _ _)
     refine ⟨Reg.opOK_plain (by rfl) fun G listed A wv hI hall => .inl ⟨Reg.wn,?_⟩,?_⟩
     focus
      have e4 := hI.wo 4 rfl;clear hI hall HW;unfold Reg.Yields
      go_simp
      exact Reg.good_val (by rfl) (by rfl) (Below.refl _ _)
     refine ⟨Reg.opOK_plain (by rfl) fun G listed A wv hI hall => .inl ⟨Reg.wn,?_⟩,?_⟩
     focus
      have e6 := hI.wo 6 rfl;clear hI hall HW;unfold Reg.Yields
      go_simp
      exact Reg.good_val (by rfl) (by rfl) (Below.refl _ _)
     refine ⟨Reg.opOK_plain (by rfl) fun G listed A wv hI hall => .inl ⟨Reg.wn,?_⟩,?_⟩
     focus
      have e28 := hI.ev (i := 1) (d := 28) (by rfl) (by rfl) (hall ⟨1,.data⟩ (by simp) rfl);have e29 := hI.ev (i := 2) (d := 29) (by rfl) (by rfl) (hall ⟨2,.data⟩ (by simp) rfl);clear hI hall HW;unfold Reg.Yields
      go_simp
      exact (range_any lo hi hlo hhi _).mono fun e w'' ⟨he,hb⟩ => ⟨_,he,Reg.good_val (by rfl) (by rfl) hb⟩
     refine ⟨Reg.opOK_plain (by rfl) fun G listed A wv hI hall => .inl ⟨Reg.wn,?_⟩,?_⟩
     focus
      have e27 := hI.ev (i := 0) (d := 27) (by rfl) (by rfl) (hall ⟨0,.data⟩ (by simp) rfl);have e30 := hI.ev (i := 3) (d := 30) (by rfl) (by rfl) (hall ⟨3,.data⟩ (by simp) rfl);clear hI hall HW;unfold Reg.Yields
      go_simp
      exact (minus_any _ _ _ _ _ _ _ _ _).mono fun e w'' ⟨he,hb⟩ => ⟨_,he,Reg.good_val (by rfl) (by rfl) hb⟩
     trivial
    intro G w4 hI;have Hh := heldZ_below hI.base HW;have hu : w4.heap[w.heap.size]? = some (.cells #[.int .u64 c0,.int .u64 c1,.int .u64 c2,.int .u64 c3] 29) := (hI.base.block _ (sizeOfGet HG3.out.1)).trans HG3.out.1;have HG4 := hid (HG3.out.up (Below.trans (Below.refl _ w1a).drew hI.base));have z0 := jU hu 0;have z1 := jU hu 1;have z2 := jU hu 2;have z3 := jU hu 3;obtain ⟨⟨q0,q1,q2,q3⟩,hgl,_⟩ := Hh;clear hI HW hu;refine ⟨by unfold Region.wanted;rfl,?_⟩;simp [Reg.finalTmps,Reg.dstAt,Reg.valOf,rngTold];unfold Reg.Yields
    go_simp
    have HG5 := hid (HG4.out.store (d0 := an c0 (nt (rgw lo hi 0))) (d1 := an c1 (nt (rgw lo hi 1))) (d2 := an c2 (nt (rgw lo hi 2))) (d3 := an c3 (nt (rgw lo hi 3))));obtain ⟨W5,hW5⟩ : ∃ W5,W5 = ((((w4.setCell ⟨w.heap.size,0,none⟩ (.int .u64 (an c0 (nt (rgw lo hi 0))))).setCell ⟨w.heap.size,1,none⟩ (.int .u64 (an c1 (nt (rgw lo hi 1))))).setCell ⟨w.heap.size,2,none⟩ (.int .u64 (an c2 (nt (rgw lo hi 2))))).setCell ⟨w.heap.size,3,none⟩ (.int .u64 (an c3 (nt (rgw lo hi 3))))) := ⟨_,rfl⟩;rw [<- hW5] at HG5 ⊢;clear hW5 z0 z1 z2 z3 q0 q1 q2 q3 hgl HG4 HG3 HG2 HG;obtain ⟨⟨q0,q1,q2,q3⟩,hgl,_⟩ := HG5.out.held
    go_wp2_with fail
    refine (first_any _ _ _ _ _ HCn.out.1 HCn.out.2.1 HCn.out.2.2.1 HCn.out.2.2.2.1 (HT.out.up HG5.out.2.2.1)).mono ?_;rintro e w6 ⟨v,rfl,hv,hb6⟩;have HV6 := hid hv;have HG6 := hid (HG5.out.up hb6);clear hb6 HG5 q0 q1 q2 q3 hgl
    have hvv : v = .tuple #[.int .u8 0,.bool false] \/ ∃ n : Nat,n < 256 /\ v = .tuple #[.int .u8 n,.bool true] := by
     rcases hv with ⟨_,hv⟩ | ⟨n,hn,_,_,hv⟩
     ·exact .inl hv
     ·exact .inr ⟨n,hn,hv⟩
    clear hv
    rcases hvv with hv | ⟨nf2,hnf2,hv⟩
    all_goals
     subst hv
     go_wp2_with fail
     exact ⟨⟨_,_,_,_,_,_,HV6.out,HRn.out,HCn.out,HG6.out⟩,by rw [HLn.out,HL.out];omega⟩
end
end
section
section
open Go Go.RowKit
def hexN (n : Nat) : Nat := if n < 10 then 48 + n else 87 + n
def alnB (b : Nat) : Bool := decide (97 <= b) && decide (b <= 122) || decide (65 <= b) && decide (b <= 90) || decide (48 <= b) && decide (b <= 57)
def plainB (b : Nat) : Bool := [32,33,34,35,37,38,39,44,58,59,60,61,62,64,95,126,96].contains b
def brN (b : Nat) : List Nat := if alnB b || plainB b then [b] else if themB b then [92,b] else [92,120,hexN (b / 16),hexN (b % 16)]
def rsT : List (Nat × Nat) -> List Nat
 | [] => []
 | p :: r => brN p.1 ++ ((if p.1 = p.2 then [] else 45 :: brN p.2) ++ rsT r)
def clsN (rs : List (Nat × Nat)) : List Nat := 91 :: (rsT rs ++ [93])
def rsD (f : Nat -> Bool) : Nat -> List (Nat × Nat)
 | 0 => []
 | k + 1 => if f (255 - k) then (match rsD f k with
   | [] => [(255 - k,255 - k)]
   | p :: r => if p.1 = 256 - k then (255 - k,p.2) :: r else (255 - k,255 - k) :: p :: r) else rsD f k
def rsOf (f : Nat -> Bool) : List (Nat × Nat) := rsD f 256
def setN (t : W4) : List Nat := if eqW t (notW (oneW 10)) then [46] else match ones t with
 | [] => [91,94,92,120,48,48,45,92,120,102,102,93]
 | [b] => brN b
 | _ => clsN (rsOf t.mem)
theorem rise_head {p : Nat × Nat} {r : List (Nat × Nat)} (h : Rise (p :: r)) : p.1 <= p.2 /\ p.2 < 256 /\ Rise r := by
 cases r with
 | nil => exact ⟨h.1,h.2,trivial⟩
 | cons q r => exact ⟨h.1,h.2.1,h.2.2.2⟩
theorem rise_cons {p : Nat × Nat} {r : List (Nat × Nat)} (h1 : p.1 <= p.2) (h2 : p.2 < 256) (hr : Rise r) (hh : ∀ q,r.head? = some q -> p.2 + 1 < q.1) : Rise (p :: r) := by
 cases r with
 | nil => exact ⟨h1,h2⟩
 | cons q r => exact ⟨h1,h2,hh q rfl,hr⟩
theorem rise_above : ∀ (r : List (Nat × Nat)) (p : Nat × Nat) (n : Nat),Rise (p :: r) -> inRs r n = true -> p.2 + 1 < n
 | [],_,_,_,hn => by simp [inRs] at hn
 | q :: r,p,n,h,hn => by
  have h3 : p.2 + 1 < q.1 := h.2.2.1;have hq : Rise (q :: r) := h.2.2.2;have hq1 := (rise_head hq).1;unfold inRs at hn;rw [List.any_cons,Bool.or_eq_true] at hn
  rcases hn with hn | hn
  ·have := of_decide_eq_true hn;omega
  ·have := rise_above r q n hq hn;omega
theorem inRs_cons (p : Nat × Nat) (r : List (Nat × Nat)) (n : Nat) : inRs (p :: r) n = (decide (p.1 <= n /\ n <= p.2) || inRs r n) := rfl
theorem rise_uniq : ∀ (rs ss : List (Nat × Nat)),Rise rs -> Rise ss -> (∀ n,n < 256 -> inRs rs n = inRs ss n) -> rs = ss
 | [],[],_,_,_ => rfl
 | [],q :: s,_,hs,h => by
  have h1 := rise_head hs;have := h q.1 (by omega);rw [inRs_cons,jT ⟨jN _,h1.1⟩] at this;simp [inRs] at this
 | p :: r,[],hr,_,h => by
  have h1 := rise_head hr;have := h p.1 (by omega);rw [inRs_cons,jT ⟨jN _,h1.1⟩] at this;simp [inRs] at this
 | p :: r,q :: s,hr,hs,h => by
  have hp := rise_head hr;have hq := rise_head hs
  have least : ∀ (p q : Nat × Nat) (s : List (Nat × Nat)),Rise (q :: s) -> inRs (q :: s) p.1 = true -> q.1 <= p.1 := by
   intro p q s hs h;rw [inRs_cons,Bool.or_eq_true] at h
   rcases h with h | h
   ·exact (of_decide_eq_true h).1
   ·have := rise_above s q p.1 hs h;have := (rise_head hs).1;omega
  have e1 : p.1 = q.1 := by
   apply Nat.le_antisymm
   ·refine least q p r hr ?_;rw [h q.1 (by omega),inRs_cons,jT ⟨jN _,hq.1⟩,Bool.true_or]
   ·refine least p q s hs ?_;rw [<- h p.1 (by omega),inRs_cons,jT ⟨jN _,hp.1⟩,Bool.true_or]
  have top : ∀ (p q : Nat × Nat) (r s : List (Nat × Nat)),Rise (p :: r) -> Rise (q :: s) -> p.1 = q.1 -> (∀ n,n < 256 -> inRs (p :: r) n = inRs (q :: s) n) -> q.2 <= p.2 := by
   intro p q r s hr hs e h;have hp := rise_head hr;have hq := rise_head hs;apply Nat.le_of_not_lt;intro hlt;have := h (p.2 + 1) (by omega);rw [inRs_cons,inRs_cons,jT (show q.1 <= p.2 + 1 /\ p.2 + 1 <= q.2 by omega),Bool.true_or,jF (show ¬ (p.1 <= p.2 + 1 /\ p.2 + 1 <= p.2) by omega),Bool.false_or] at this;have := rise_above r p _ hr this;omega
  have e2 : p.2 = q.2 := Nat.le_antisymm (top q p s r hs hr e1.symm (fun n hn => (h n hn).symm)) (top p q r s hr hs e1 h);have e : p = q := Prod.ext e1 e2;subst e;rw [rise_uniq r s hp.2.2 hq.2.2 (fun n hn => ?_)];have hn' := h n hn;rw [inRs_cons,inRs_cons] at hn'
  by_cases hm : n <= p.2
  ·have f : ∀ (r : List (Nat × Nat)),Rise (p :: r) -> inRs r n = false := by
    intro r hr
    cases hx : inRs r n with
    | false => rfl
    | true => have := rise_above r p n hr hx;omega
   rw [f r hr,f s hs]
  ·rw [jF (show ¬ (p.1 <= n /\ n <= p.2) by omega),Bool.false_or,Bool.false_or] at hn';exact hn'
theorem rsD_ok (f : Nat -> Bool) : ∀ k,k <= 256 -> Rise (rsD f k) /\ (∀ p,(rsD f k).head? = some p -> 256 - k <= p.1) /\ ∀ n,n < 256 -> inRs (rsD f k) n = (f n && decide (256 - k <= n))
 | 0,_ => ⟨trivial,fun p h => by simp [rsD] at h,fun n hn => by rw [jF (by omega),Bool.and_false];rfl⟩
 | k + 1,hk => by
  obtain ⟨h1,h2,h3⟩ := rsD_ok f k (by omega);rw [rsD]
  split
  ·next hf =>
   split
   ·next he =>
    rw [he] at h3;refine ⟨⟨jN _,by omega⟩,fun p hp => ?_,fun n hn => ?_⟩
    ·have e := Option.some.inj hp;subst e
     show 256 - (k + 1) <= 255 - k
     omega
    ·have e3 := h3 n hn;rw [inRs_cons,e3]
     by_cases hb : n = 255 - k
     ·subst hb;rw [hf];simp
     ·rw [jF (show ¬ (255 - k <= n /\ n <= 255 - k) by omega),Bool.false_or];congr 1;rw [decide_eq_decide];omega
   ·next p r he =>
    rw [he] at h1 h2 h3;have hp := rise_head h1;have hp2 := h2 p rfl
    split
    ·next hb =>
     refine ⟨?_,fun q hq => ?_,fun n hn => ?_⟩
     ·exact rise_cons (by show 255 - k <= p.2;omega) hp.2.1 hp.2.2 (fun q hq => by
       cases r with
       | nil => cases hq
       | cons q' r => have e := Option.some.inj hq;subst e;exact h1.2.2.1)
     ·have e := Option.some.inj hq;subst e
      show 256 - (k + 1) <= 255 - k
      omega
     ·have e3 := h3 n hn;rw [inRs_cons] at e3 ⊢
      by_cases hb' : n = 255 - k
      ·subst hb';rw [hf,jT (show (255 - k) <= 255 - k /\ 255 - k <= p.2 by omega),jT (by omega)];rfl
      ·have e4 : decide ((255 - k) <= n /\ n <= p.2) = decide (p.1 <= n /\ n <= p.2) := by
        rw [decide_eq_decide];omega
       rw [e4,e3];congr 1;rw [decide_eq_decide];omega
    ·next hb =>
     refine ⟨?_,fun q hq => ?_,fun n hn => ?_⟩
     ·refine rise_cons (jN _) (by show 255 - k < 256;omega) h1 (fun q hq => ?_);have e := Option.some.inj hq;subst e
      show 255 - k + 1 < p.1
      omega
     ·have e := Option.some.inj hq;subst e
      show 256 - (k + 1) <= 255 - k
      omega
     ·have e3 := h3 n hn;rw [inRs_cons,e3]
      by_cases hb' : n = 255 - k
      ·subst hb';rw [hf];simp
      ·rw [jF (show ¬ (255 - k <= n /\ n <= 255 - k) by omega),Bool.false_or];congr 1;rw [decide_eq_decide];omega
  ·next hf =>
   refine ⟨h1,fun p hp => by have := h2 p hp;omega,fun n hn => ?_⟩;rw [h3 n hn]
   by_cases hb' : n = 255 - k
   ·subst hb';simp [hf]
   ·congr 1;rw [decide_eq_decide];omega
theorem rsOf_ok (f : Nat -> Bool) : Rise (rsOf f) /\ ∀ n,n < 256 -> inRs (rsOf f) n = f n := by
 obtain ⟨h1,_,h3⟩ := rsD_ok f 256 (jN _);exact ⟨h1,fun n hn => by rw [show rsOf f = rsD f 256 from rfl,h3 n hn];simp⟩
theorem rsOf_uniq {f : Nat -> Bool} {rs : List (Nat × Nat)} (h : Rise rs) (hf : ∀ n,n < 256 -> inRs rs n = f n) : rs = rsOf f :=
 rise_uniq _ _ h (rsOf_ok f).1 (fun n hn => by rw [hf n hn,(rsOf_ok f).2 n hn])
theorem oneW_mm {b n : Nat} (hb : b < 256) (hn : n < 256) : (oneW b).mem n = decide (n = b) := by
 show memb (ofw (fun _ => (b : Int)) 1 0) (ofw (fun _ => (b : Int)) 1 1) (ofw (fun _ => (b : Int)) 1 2) (ofw (fun _ => (b : Int)) 1 3) n = _
 rw [memb_ofw _ (by intro _;omega) (by intro _;omega) 1 n hn]
 show (false || decide ((b : Int) = (n : Int))) = _
 rw [Bool.false_or,decide_eq_decide];omega
theorem notW_mm (t : W4) (n : Nat) : (notW t).mem n = !t.mem n := memb_nt _ _ _ _ n
def rgT (p : Nat × Nat) : List Nat := brN p.1 ++ (if p.1 = p.2 then [] else 45 :: brN p.2)
theorem rsT_cons (p : Nat × Nat) (r : List (Nat × Nat)) : rsT (p :: r) = rgT p ++ rsT r := by
 show brN p.1 ++ ((if p.1 = p.2 then [] else 45 :: brN p.2) ++ rsT r) = (brN p.1 ++ (if p.1 = p.2 then [] else 45 :: brN p.2)) ++ rsT r
 rw [List.append_assoc]
def baN (l : List Nat) : ByteArray := ⟨(l.map Nat.toUInt8).toArray⟩
theorem baN_size (l : List Nat) : (baN l).size = l.length := by
 show (l.map Nat.toUInt8).toArray.size = _
 simp
theorem baN_append (l m : List Nat) : baN (l ++ m) = baN l ++ baN m := by
 apply ByteArray.ext;rw [ByteArray.data_append]
 show ((l ++ m).map Nat.toUInt8).toArray = (l.map Nat.toUInt8).toArray ++ (m.map Nat.toUInt8).toArray
 rw [List.map_append];simp
end
end
section
section
open Go Go.RowKit
attribute [local go_sem ↓] Go.wp_at_zero Go.wp_at_succ
theorem pidx_one (S : ByteArray) (c : UInt8) (v : Int) (hv : firstIdx S c = v) (hS : 1 < S.size) (w : World) :
  Calls Tryz.prog 134 #[.string S,.string ⟨#[c]⟩] w fun e w' => e = .returned (.int .i64 v) /\ w' = w := by
 have hx : ∀ W,(callFunc 156 #[.string S,.int .u8 (c.toNat : Int)]).run Tryz.prog W = .ok (.value (.int .i64 v)) W := fun W => by
  rw [tidx_run,run_indexByte_string,show ((c.toNat : Nat) : Int).toNat.toUInt8 = c from by simp [Nat.toUInt8],hv];rfl
 have hx : ∀ W,(callFunc 156 #[.string S,.int .u8 ((((⟨#[c]⟩ : ByteArray)[0]'(Nat.zero_lt_succ 0)).toNat : Nat) : Int)]).run Tryz.prog W = .ok (.value (.int .i64 v)) W := hx
 have hne : ([c] == S.toList) = false := by
  cases h : ([c] == S.toList) with
  | false => rfl
  | true =>
   have := beq_iff_eq.1 h;have h2 : S.toList.length = 1 := by rw [<- this];rfl
   rw [Lib.toList_data,Array.length_toList] at h2;have h3 : S.data.size = S.size := rfl;omega
 clear hv
 go_enter Tryz.func134,Tryz.ntmps134
 go_wp2
 go_ret
 exact ⟨rfl,rfl⟩
theorem pcontains_one (S : ByteArray) (c : UInt8) (v : Int) (hv : firstIdx S c = v) (hS : 1 < S.size) (w : World) :
  Calls Tryz.prog 109 #[.string S,.string ⟨#[c]⟩] w fun e w' => e = .returned (.bool (decide (0 <= v))) /\ w' = w := by
 have hI : ∀ W,Calls Tryz.prog 120 #[.string S,.string ⟨#[c]⟩] W fun e w' => e = .returned (.int .i64 v) /\ w' = W := fun W => by
  have C := qhid (pidx_one S c v hv hS W);clear hv hS
  go_enter Tryz.func120,Tryz.ntmps120
  go_wp2_with fail
  refine C.out.mono ?_;rintro e w1 ⟨rfl,rfl⟩
  go_wp2_with fail
  go_ret
  exact ⟨rfl,rfl⟩
 have C := qhid (hI w);clear hv hS hI
 go_enter Tryz.func109,Tryz.ntmps109
 go_wp2_with fail
 refine C.out.mono ?_;rintro e w1 ⟨rfl,rfl⟩
 go_wp2_with fail
 go_ret
 exact ⟨rfl,rfl⟩
theorem alnum_any (b : Nat) (hb : b < 256) (w : World) :
  Calls Tryz.prog 108 #[.int .u8 (b : Int)] w fun e w' => e = .returned (.bool (alnB b)) /\ w' = w := by
 have key : ∀ (x1 x2 x3 x4 x5 x6 : Bool),decide ((97 : Int) <= (b : Int)) = x1 -> decide ((b : Int) <= 122) = x2 -> decide ((65 : Int) <= (b : Int)) = x3 -> decide ((b : Int) <= 90) = x4 -> decide ((48 : Int) <= (b : Int)) = x5 -> decide ((b : Int) <= 57) = x6 ->
   alnB b = (x1 && x2 || x3 && x4 || x5 && x6) ->
   Calls Tryz.prog 108 #[.int .u8 (b : Int)] w fun e w' => e = .returned (.bool (alnB b)) /\ w' = w := by
  intro x1 x2 x3 x4 x5 x6 h1 h2 h3 h4 h5 h6 h;rw [h];clear h
  cases x1 <;> cases x2 <;> cases x3 <;> cases x4 <;> cases x5 <;> cases x6 <;> (first
   | (exfalso;simp only [decide_eq_true_eq,decide_eq_false_iff_not] at *;omega)
   | (go_enter Tryz.func108,Tryz.ntmps108;go_wp2;go_ret;exact ⟨rfl,rfl⟩))
 refine key _ _ _ _ _ _ rfl rfl rfl rfl rfl rfl ?_;unfold alnB
 simp only [show ∀ (y : Nat),decide ((97 : Int) <= (y : Int)) = decide (97 <= y) from fun y => by rw [decide_eq_decide];omega,show ∀ (y : Nat),decide ((65 : Int) <= (y : Int)) = decide (65 <= y) from fun y => by rw [decide_eq_decide];omega,show ∀ (y : Nat),decide ((48 : Int) <= (y : Int)) = decide (48 <= y) from fun y => by rw [decide_eq_decide];omega,
  show ∀ (y : Nat),decide ((y : Int) <= 122) = decide (y <= 122) from fun y => by rw [decide_eq_decide];omega,show ∀ (y : Nat),decide ((y : Int) <= 90) = decide (y <= 90) from fun y => by rw [decide_eq_decide];omega,show ∀ (y : Nat),decide ((y : Int) <= 57) = decide (y <= 57) from fun y => by rw [decide_eq_decide];omega]
abbrev plainS : ByteArray := ⟨#[32,33,34,35,37,38,39,44,58,59,60,61,62,64,95,126,96]⟩
abbrev digS : ByteArray := ⟨#[48,49,50,51,52,53,54,55,56,57,97,98,99,100,101,102]⟩
theorem plain_idx (b : Nat) (hb : b < 256) : decide (0 <= firstIdx plainS (UInt8.ofNat b)) = plainB b := by
 have hall : ∀ n : Fin 256,decide (0 <= firstIdx plainS (UInt8.ofNat n.val)) = plainB n.val := by decide +kernel
 exact hall ⟨b,hb⟩
theorem them_idx2 (b : Nat) (hb : b < 256) : decide (0 <= firstIdx themS (UInt8.ofNat b)) = themB b := by
 have hall : ∀ n : Fin 256,decide (0 <= firstIdx themS (UInt8.ofNat n.val)) = themB n.val := by decide +kernel
 exact hall ⟨b,hb⟩
theorem and_low (b : Nat) (hb : b < 256) : bits .and .u8 (b : Int) 15 = ((b % 16 : Nat) : Int) := by
 have hall : ∀ n : Fin 256,bits .and .u8 (n.val : Int) 15 = ((n.val % 16 : Nat) : Int) := by decide +kernel
 exact hall ⟨b,hb⟩
theorem dig_one (q : Nat) (hq : q < 16) : digS.extract q (q + 1) = baN [hexN q] := by
 have hall : ∀ n : Fin 16,digS.extract n.val (n.val + 1) = baN [hexN n.val] := by decide +kernel
 exact hall ⟨q,hq⟩
theorem bytes_one (w : World) (x : Int) (t : TypeId) : BytesAt (w.alloc (.cells #[.int .u8 x] t)) (.slice (some ⟨w.heap.size,0,none⟩) 1 1) [x] := by
 refine .inr ⟨w.heap.size,1,rfl,by simp,fun i hi => ?_⟩;obtain rfl : i = 0 := by simpa using hi
 simp [go_sem]
theorem below_quiet (w : World) (n : Nat) : Below w.heap.size w (w.drewN n) := ⟨rfl,rfl,rfl,jN _,fun _ _ => rfl⟩
theorem itself_conv (b : Nat) (w : World) : (convert 78 9 (.slice (some ⟨w.heap.size,0,none⟩) 1 1)).run Tryz.prog (w.alloc (.cells #[.int .u8 (b : Int)] 5)) = .ok (.string ⟨#[UInt8.ofNat b]⟩) (w.alloc (.cells #[.int .u8 (b : Int)] 5)) :=
 conv_bytes (bytes_one w (b : Int) 5)
theorem byte_any (b : Nat) (hb : b < 256) (w : World) :
  Calls Tryz.prog 84 #[.int .u8 (b : Int)] w fun e w' => e = .returned (.string (baN (brN b))) /\ Below w.heap.size w w' := by
 have hcv := itself_conv b w;have hbl := qhid ((Below.refl w.heap.size w).alloc (jN _) (.cells #[.int .u8 (b : Int)] 5));have AL := qhid (fun W => alnum_any b hb W);obtain ⟨v1,hv1⟩ : ∃ v,firstIdx plainS (UInt8.ofNat b) = v := ⟨_,rfl⟩;obtain ⟨v2,hv2⟩ : ∃ v,firstIdx themS (UInt8.ofNat b) = v := ⟨_,rfl⟩;have C1 := qhid (fun W => pcontains_one plainS (UInt8.ofNat b) v1 hv1 (by decide) W);have C2 := qhid (fun W => pcontains_one themS (UInt8.ofNat b) v2 hv2 (by decide) W);have p1 := plain_idx b hb;have p2 := them_idx2 b hb;rw [hv1] at p1;rw [hv2] at p2;rw [p1] at C1;rw [p2] at C2;clear hv1 hv2 p1 p2
 cases ha : alnB b with
 | true =>
  have HF : Hid (baN (brN b) = ⟨#[UInt8.ofNat b]⟩) := qhid (by unfold brN;rw [ha];rfl);rw [ha] at AL;clear ha C1 C2
  go_enter Tryz.func84,Tryz.ntmps84
  go_wp2_with fail
  refine (AL.out _).mono ?_;rintro e w1 ⟨rfl,rfl⟩
  go_wp2_with fail
  go_ret
  exact ⟨by rw [HF.out] <;> rfl,hbl.out⟩
 | false =>
  cases hp : plainB b with
  | true =>
   have HF : Hid (baN (brN b) = ⟨#[UInt8.ofNat b]⟩) := qhid (by unfold brN;rw [ha,hp];rfl);rw [ha] at AL;rw [hp] at C1;clear ha hp C2
   go_enter Tryz.func84,Tryz.ntmps84
   go_wp2_with fail
   refine (AL.out _).mono ?_;rintro e w1 ⟨rfl,rfl⟩
   go_wp2_with fail
   refine (C1.out _).mono ?_;rintro e w1 ⟨rfl,rfl⟩
   go_wp2_with fail
   go_ret
   exact ⟨by rw [HF.out] <;> rfl,hbl.out⟩
  | false =>
   cases ht : themB b with
   | true =>
    have HF : Hid (baN (brN b) = ⟨#[92]⟩ ++ ⟨#[UInt8.ofNat b]⟩) := qhid (by unfold brN;rw [ha,hp,ht];rfl);rw [ha] at AL;rw [hp] at C1;rw [ht] at C2;clear ha hp ht
    go_enter Tryz.func84,Tryz.ntmps84
    go_wp2_with fail
    refine (AL.out _).mono ?_;rintro e w1 ⟨rfl,rfl⟩
    go_wp2_with fail
    refine (C1.out _).mono ?_;rintro e w1 ⟨rfl,rfl⟩
    go_wp2_with fail
    refine (C2.out _).mono ?_;rintro e w1 ⟨rfl,rfl⟩
    go_wp2_with fail
    go_ret
    exact ⟨by rw [HF.out] <;> rfl,hbl.out⟩
   | false =>
    have HF : Hid (baN (brN b) = ⟨#[92,120]⟩ ++ baN [hexN (b / 16)] ++ baN [hexN (b % 16)]) := qhid (by unfold brN;rw [ha,hp,ht,show (⟨#[92,120]⟩ : ByteArray) = baN [92,120] from rfl,<- baN_append,<- baN_append];rfl);rw [ha] at AL;rw [hp] at C1;rw [ht] at C2;clear ha hp ht
    go_enter Tryz.func84,Tryz.ntmps84
    go_wp2_with fail
    refine (AL.out _).mono ?_;rintro e w1 ⟨rfl,rfl⟩
    go_wp2_with fail
    refine (C1.out _).mono ?_;rintro e w1 ⟨rfl,rfl⟩
    go_wp2_with fail
    refine (C2.out _).mono ?_;rintro e w1 ⟨rfl,rfl⟩
    go_wp2_with fail
    obtain ⟨q,hq⟩ : ∃ q,q = b / 16 := ⟨_,rfl⟩;obtain ⟨r,hr⟩ : ∃ r,r = b % 16 := ⟨_,rfl⟩;have hq1 : q < 16 := by omega
    have hr1 : r < 16 := by omega
    have e5 : bits .and .u8 (b : Int) 15 = (r : Int) := by rw [hr];exact and_low b hb
    have e4 : (b : Int) / 16 = (q : Int) := by omega
    rw [<- hq,<- hr,<- dig_one q hq1,<- dig_one r hr1] at HF;have u1 : IntKind.u8.wrap ((q : Int) + 1) = (q : Int) + 1 := by simp [IntKind.wrap,IntKind.signed,IntKind.bits];omega
    have u2 : IntKind.u8.wrap ((r : Int) + 1) = (r : Int) + 1 := by simp [IntKind.wrap,IntKind.signed,IntKind.bits];omega
    have n1 : ((q : Int) + 1).toNat = q + 1 := by omega
    have n2 : ((r : Int) + 1).toNat = r + 1 := by omega
    have HQ := qhid hq;have HR := qhid hr;clear hq hr
    go_quiet (fail)
    go_wp2_with fail
    go_ret
    exact ⟨by rw [HF.out] <;> rfl,hbl.out.trans ((below_quiet _ nq).mono hbl.out.size)⟩
end
end
section
section
open Go Go.RowKit
attribute [local go_sem ↓] Go.wp_at_zero Go.wp_at_succ
attribute [local go_sem] eq4
def PrsAt (w : World) (g : Nat) (rs : List (Nat × Nat)) : Prop :=
 g < w.heap.size /\ ∀ i p,rs[i]? = some p -> w.cell? ⟨g,i * 2,none⟩ = some (.int .u8 (p.1 : Int)) /\ w.cell? ⟨g,i * 2 + 1,none⟩ = some (.int .u8 (p.2 : Int))
theorem PrsAt.below {w w' : World} {g : Nat} {rs : List (Nat × Nat)} (h : PrsAt w g rs) (hb : Below w.heap.size w w') : PrsAt w' g rs :=
 ⟨Nat.lt_of_lt_of_le h.1 hb.size,fun i p hp => ⟨(hb.cell (p := ⟨g,i * 2,none⟩) h.1).trans (h.2 i p hp).1,(hb.cell (p := ⟨g,i * 2 + 1,none⟩) h.1).trans (h.2 i p hp).2⟩⟩
theorem pairVals_at : ∀ (rs : List (Nat × Nat)) (i : Nat) (p : Nat × Nat),rs[i]? = some p -> (pairVals rs)[i * 2]? = some (.int .u8 (p.1 : Int)) /\ (pairVals rs)[i * 2 + 1]? = some (.int .u8 (p.2 : Int))
 | [],i,p,h => by simp at h
 | q :: r,0,p,h => by
  have e : q = p := by simpa using h
  subst e;exact ⟨rfl,rfl⟩
 | q :: r,i + 1,p,h => by
  have h1 := pairVals_at r i p (by simpa using h);have e : pairVals (q :: r) = .int .u8 (q.1 : Int) :: .int .u8 (q.2 : Int) :: pairVals r := rfl;rw [e,show (i + 1) * 2 = i * 2 + 1 + 1 by omega];exact h1
theorem prs_of_own {w : World} {B : Nat} {v : Value} {rs : List (Nat × Nat)} (h : w.ownsRow B 168 2 v rs.length (pairVals rs)) :
  ∃ ao cap,v = .slice ao rs.length cap /\ ∀ k,k < rs.length -> ∃ g,ao = some ⟨g,0,none⟩ /\ PrsAt w g rs := by
 have hown := h
 rcases h.2 with ⟨rfl,h0⟩ | ⟨g,cap,cur,rfl,hbg,hg,hnc,hcm,hcs,htake⟩
 ·exact ⟨none,0,by rw [h0],fun k hk => by omega⟩
 ·refine ⟨some ⟨g,0,none⟩,cap,rfl,fun k hk => ⟨g,rfl,?_,fun i p hp => ?_⟩⟩
  ·rcases Nat.lt_or_ge g w.heap.size with h' | h'
   ·exact h'
   ·simp [Array.getElem?_eq_none h'] at hg
  ·have h1 := pairVals_at rs i p hp;have e : ∀ j,(⟨g,0,none⟩ : Addr).add j = ⟨g,j,none⟩ := fun j => by unfold Addr.add;split <;> simp_all
   have h2 := hown.cells (g := g) rfl _ _ h1.1;have h3 := hown.cells (g := g) rfl _ _ h1.2;rw [e] at h2 h3;exact ⟨h2,h3⟩
theorem rsT_snoc (rs : List (Nat × Nat)) (k : Nat) (p : Nat × Nat) (h : rs[k]? = some p) : rsT (rs.take (k + 1)) = rsT (rs.take k) ++ rgT p := by
 have app : ∀ a b : List (Nat × Nat),rsT (a ++ b) = rsT a ++ rsT b := by
  intro a b
  induction a with
  | nil => rfl
  | cons q r ih => rw [List.cons_append,rsT_cons,rsT_cons,ih,List.append_assoc]
 rw [List.take_add_one,h,app]
 show _ ++ rsT [p] = _
 rw [rsT_cons]
 show _ ++ (rgT p ++ []) = _
 rw [List.append_nil]
def clsP (rs : List (Nat × Nat)) (k : Nat) : ByteArray := baN (91 :: rsT (rs.take k))
theorem clsP_one {rs : List (Nat × Nat)} {k p0 p1 : Nat} (h : rs[k]? = some (p0,p1)) (he : p0 = p1) : clsP rs (k + 1) = clsP rs k ++ baN (brN p0) := by
 unfold clsP;rw [rsT_snoc rs k _ h,<- baN_append];unfold rgT;rw [if_pos he,List.append_nil];rfl
theorem clsP_two {rs : List (Nat × Nat)} {k p0 p1 : Nat} (h : rs[k]? = some (p0,p1)) (he : p0 ≠ p1) : clsP rs (k + 1) = clsP rs k ++ baN (brN p0) ++ (⟨#[45]⟩ ++ baN (brN p1)) := by
 unfold clsP;rw [rsT_snoc rs k _ h,<- baN_append,show (⟨#[45]⟩ : ByteArray) = baN [45] from rfl,<- baN_append,<- baN_append];unfold rgT;rw [if_neg he,List.append_assoc];rfl
theorem clsP_end (rs : List (Nat × Nat)) : clsP rs rs.length ++ ⟨#[93]⟩ = baN (clsN rs) := by
 unfold clsP clsN;rw [List.take_length,show (⟨#[93]⟩ : ByteArray) = baN [93] from rfl,<- baN_append];rfl
theorem br_le (b : Nat) : (brN b).length <= 4 := by
 unfold brN
 split
 ·simp
 ·split <;> simp
theorem rsT_le : ∀ rs : List (Nat × Nat),(rsT rs).length <= 9 * rs.length
 | [] => by simp [rsT]
 | p :: r => by
  have h1 := br_le p.1;have h2 := br_le p.2;have := rsT_le r;rw [rsT_cons];unfold rgT
  split <;> simp <;> omega
theorem clsP_size (rs : List (Nat × Nat)) (k : Nat) (h : rs.length <= 256) : (clsP rs k).size <= 2400 := by
 unfold clsP;rw [baN_size,List.length_cons];have := rsT_le (rs.take k);have := List.length_take_le k rs;have := List.length_take_le' k rs;omega
theorem class_any (t : W4) (ht : t.fit) (w : World) (hT : Tab w) :
  Calls Tryz.prog 85 #[setVal t] w fun e w' => e = .returned (.string (baN (clsN (rsOf t.mem)))) /\ Below w.heap.size w w' := by
 obtain ⟨rs,hrs⟩ : ∃ rs,rs = rsOf t.mem := ⟨_,rfl⟩;rw [<- hrs];have HRS := qhid hrs;clear hrs;have RG := qhid (fun W (hW : Tab W) => ranges_any t.a t.b t.c t.d W ht.1 ht.2.1 ht.2.2.1 ht.2.2.2 hW);have HT := qhid (hT.up (below1 w (setOb t)));clear hT ht
 go_enter Tryz.func85,Tryz.ntmps85
 go_wp2_with fail
 refine (RG.out _ HT.out).mono ?_;rintro e w1 ⟨rs',v,rfl,hr,hlen,hin,hown,hb⟩;obtain rfl : rs = rs' := ((rsOf_uniq hr hin).trans HRS.out.symm).symm;have HB := qhid ((below1 w (setOb t)).trans (hb.mono (below1 w (setOb t)).size));obtain ⟨ao,cap,rfl,hp⟩ := prs_of_own hown;have HP := qhid hp;have HR := qhid hr;clear hb hown hr hin RG HT hp HRS
 go_wp2_with fail
 go_loopw [3,9] (fun tv iv wr => ∃ k : Nat,k <= rs.length /\ iv = .int .i64 k /\ tv = .string (clsP rs k) /\ Hid (Below w1.heap.size w1 wr)) (fun _ iv _ => rs.length - (intOf iv).toNat)
 case atStart => exact ⟨0,by omega,rfl,rfl,qhid (Below.refl _ _)⟩
 case round =>
  obtain ⟨k,hk,rfl,rfl,HBr⟩ := hrel;have hsz := clsP_size rs k hlen
  by_cases hlt : k < rs.length
  ·obtain ⟨g,rfl,hpr⟩ := HP.out k hlt;obtain ⟨p,hp⟩ : ∃ p,rs[k]? = some p := ⟨_,List.getElem?_eq_getElem hlt⟩;obtain ⟨hgr,hcr⟩ := hpr.below HBr.out;obtain ⟨c0,c1⟩ := hcr k p hp;obtain ⟨r0,r1,_⟩ := rise_each rs HR.out k hlt;have ep : rs[k] = p := by rw [List.getElem?_eq_getElem hlt] at hp;exact Option.some.inj hp
   rw [ep] at r0 r1;obtain ⟨p0,p1⟩ := p;dsimp only at c0 c1 r0 r1;have HPP := qhid hp;have s0 := br_le p0;have s1 := br_le p1;rw [<- baN_size] at s0 s1;have B0 := qhid (fun W => byte_any p0 (by omega) W);have B1 := qhid (fun W => byte_any p1 (by omega) W);clear hpr hp ep hcr
   by_cases he : p0 = p1
   ·have HF := qhid (clsP_one HPP.out he);obtain rfl : p0 = p1 := he
    go_wp2_with fail
    refine (B0.out _).mono ?_;rintro e w2 ⟨rfl,hb2⟩;have q0 : w2.cell? ⟨wr.heap.size,0,none⟩ = some (.int .u8 (p0 : Int)) := (hb2.cell (p := ⟨wr.heap.size,0,none⟩) (by simp)).trans (by simp [go_sem]);have q1 : w2.cell? ⟨wr.heap.size,1,none⟩ = some (.int .u8 (p0 : Int)) := (hb2.cell (p := ⟨wr.heap.size,1,none⟩) (by simp)).trans (by simp [go_sem]);have HB2 := qhid (HBr.out.trans (((below1 wr _).trans (hb2.mono (below1 wr _).size)).mono HBr.out.size));clear hb2
    go_wp2_with fail
    go_roundw
    case rel => exact ⟨k + 1,by omega,by go_num,by rw [HF.out],HB2⟩
    case measure => simp [intOf];omega
   ·have HF := qhid (clsP_two HPP.out he);have he2 : ((p0 : Int) == (p1 : Int)) = false := by simpa using (fun h : (p0 : Int) = p1 => he (by omega))
    have he3 : ((p0 : Int) != (p1 : Int)) = true := by simpa using (fun h : (p0 : Int) = p1 => he (by omega))
    clear he
    go_wp2_with fail
    refine (B0.out _).mono ?_;rintro e w2 ⟨rfl,hb2⟩;have q0 : w2.cell? ⟨wr.heap.size,0,none⟩ = some (.int .u8 (p0 : Int)) := (hb2.cell (p := ⟨wr.heap.size,0,none⟩) (by simp)).trans (by simp [go_sem]);have q1 : w2.cell? ⟨wr.heap.size,1,none⟩ = some (.int .u8 (p1 : Int)) := (hb2.cell (p := ⟨wr.heap.size,1,none⟩) (by simp)).trans (by simp [go_sem]);have HB2 := qhid (HBr.out.trans (((below1 wr _).trans (hb2.mono (below1 wr _).size)).mono HBr.out.size));clear hb2
    go_wp2_with fail
    refine (B1.out _).mono ?_;rintro e w3 ⟨rfl,hb3⟩;have HB3 := qhid (HB2.out.trans (hb3.mono HB2.out.size));clear hb3 q0 q1
    go_wp2_with fail
    go_roundw
    case rel => exact ⟨k + 1,by omega,by go_num,by rw [HF.out],HB3⟩
    case measure => simp [intOf];omega
  ·obtain rfl : k = rs.length := by omega
   have HF := qhid (clsP_end rs)
   go_wp2_with fail
   go_ret
   exact ⟨by rw [<- HF.out] <;> rfl,HB.out.trans (HBr.out.mono HB.out.size)⟩
def setTold (t n : W4) (b : Bool) : Nat -> Reg.Told
 | 0 => .inl (setVal t)
 | 1 => .inr ⟨fun g => .slice (some ⟨g,0,none⟩) 1 1,5,#[.int .u8 10]⟩
 | 2 => .inl (setVal (oneW 10))
 | 3 => .inl (setVal n)
 | 4 => .inl (.bool b)
 | _ => .inl undef
theorem set_any (t : W4) (ht : t.fit) (w : World) (hT : Tab w) :
  Calls Tryz.prog 56 #[setVal t] w fun e w' => e = .returned (.string (baN (setN t))) /\ Below w.heap.size w w' := by
 have OF := qhid (fun W gl (hX : W.heap[gl]? = some (.cells #[.int .u8 ((10 : Nat) : Int)] 5)) => of_blk (w := W) (g := gl) (k := 10) (by omega) hX);have NO := qhid (fun W => not_any (oneB 10 0) (oneB 10 1) (oneB 10 2) (oneB 10 3) W);have CN := qhid (fun W => tcnt_any t ht W);have CL := qhid (fun W hW => class_any t ht W hW);have FI := qhid (fun a ha W hW => tfirst_any t ht a ha W hW);obtain ⟨N,hN⟩ : ∃ N,N = baN (setN t) := ⟨_,rfl⟩;rw [<- hN];have HN := qhid hN;have HT := qhid hT;clear hT hN ht
 go_enter Tryz.func56,Tryz.ntmps56
 go_wp2_with fail
 generalize hws : w.alloc _ = ws
 have HS : HeldZ ws w.heap.size t.a t.b t.c t.d ws := by
  subst hws;exact ⟨⟨by simp [go_sem],by simp [go_sem],by simp [go_sem],by simp [go_sem]⟩,by simp,Below.refl _ _⟩
 have hba : Below w.heap.size w ws := by subst hws;exact below1 _ _
 clear hws;have HT2 := qhid (HT.out.up hba);have HB := qhid hba;have hs := hba.size;have HW := heldZ_below (Below.refl _ ws).drew HS;clear HT hba HS;generalize w.heap.size = gs at HW ⊢;obtain ⟨n,hn⟩ : ∃ n,n = notW (oneW 10) := ⟨_,rfl⟩;obtain ⟨b,hb⟩ : ∃ b,b = eqW t n := ⟨_,rfl⟩;have hbq : (t.a == n.a && t.b == n.b && t.c == n.c && t.d == n.d) = b := hb.symm;have NO2 : Hid (∀ W,Calls Tryz.prog 80 #[setVal (oneW 10)] W fun e w' => e = .returned (setVal n) /\ Below W.heap.size W w') := qhid (by rw [hn];exact NO.out);have HNN := qhid hn;have HBB := qhid hb;clear hn hb NO;refine Reg.wp_region_told (setTold t n b) [] [0,1,2,3,4] (by kernel_rfl) (by kernel_rfl) (by kernel_rfl) (by intro f hf;cases hf) (by intro f hf;cases hf) ?_ ?_
 focus
  refine ⟨Reg.opOK_plain (by rfl) fun G listed A wv hI hall => .inl ⟨Reg.wn,?_⟩,?_⟩
  focus
   have H := heldZ_below hI.base HW;have e1 := hI.wo 1 rfl;clear hI hall HW hbq;unfold Reg.Yields
   go_simp
   exact Reg.good_val (by rfl) (by rfl) (Below.refl _ _)
  refine ⟨Reg.opOK_plain (by rfl) fun G listed A wv hI hall => .inl ⟨Reg.wn,?_⟩,?_⟩
  focus
   clear hI hall HW hbq;unfold Reg.Yields
   go_simp
   exact Reg.good_new (by rfl) (by rfl) (by rfl)
  refine ⟨Reg.opOK_plain (by rfl) fun G listed A wv hI hall => .inl ⟨Reg.wn,?_⟩,?_⟩
  focus
   obtain ⟨e6,_,b6⟩ := hI.evm (i := 1) (d := 6) (by rfl) (by rfl) (hall ⟨1,.data⟩ (by simp) rfl);clear hI hall HW hbq;unfold Reg.Yields
   go_simp
   exact (OF.out _ _ b6).mono fun e w'' ⟨he,hb⟩ => ⟨_,he,Reg.good_val (by rfl) (by rfl) hb⟩
  refine ⟨Reg.opOK_plain (by rfl) fun G listed A wv hI hall => .inl ⟨Reg.wn,?_⟩,?_⟩
  focus
   have e7 := hI.ev (i := 2) (d := 7) (by rfl) (by rfl) (hall ⟨2,.data⟩ (by simp) rfl);clear hI hall HW hbq;unfold Reg.Yields
   go_simp
   exact (NO2.out _).mono fun e w'' ⟨he,hb⟩ => ⟨_,he,Reg.good_val (by rfl) (by rfl) hb⟩
  refine ⟨Reg.opOK_plain (by rfl) fun G listed A wv hI hall => .inl ⟨Reg.wn,?_⟩,?_⟩
  focus
   have e5 := hI.ev (i := 0) (d := 5) (by rfl) (by rfl) (hall ⟨0,.data⟩ (by simp) rfl);have e8 := hI.ev (i := 3) (d := 8) (by rfl) (by rfl) (hall ⟨3,.data⟩ (by simp) rfl);clear hI hall HW;unfold Reg.Yields
   go_simp
   exact Reg.good_val (by rfl) (by rfl) (Below.refl _ _)
  trivial
 intro G w2 hI;have H := heldZ_below hI.base HW;have HFin := qhid (HB.out.trans (H.2.2.mono hs));have HT3 := qhid (HT2.out.up H.2.2);clear hI HW hbq HT2 HB OF NO2;simp [Reg.finalTmps,Reg.dstAt,Reg.valOf,setTold]
 cases b with
 | true =>
  have HF : Hid (N = ⟨#[46]⟩) := qhid (by rw [HN.out];unfold setN;rw [<- HNN.out,<- HBB.out,if_pos rfl];rfl)
  go_wp2_with fail
  go_ret
  exact ⟨by rw [HF.out] <;> rfl,HFin.out⟩
 | false =>
  have HF : Hid (N = baN (match ones t with | [] => [91,94,92,120,48,48,45,92,120,102,102,93] | [b] => brN b | _ => clsN (rsOf t.mem))) := qhid (by rw [HN.out];unfold setN;rw [<- HNN.out,<- HBB.out,if_neg (by simp)] <;> first | rfl | (split <;> rfl));have HH := qhid H;obtain ⟨⟨q0,q1,q2,q3⟩,hgl,_⟩ := H;obtain ⟨l,hl⟩ : ∃ l,l = ones t := ⟨_,rfl⟩;rw [<- hl] at HF CN;have HL := qhid hl;clear hl HN HBB HNN
  cases l with
  | nil =>
   have HF2 : Hid (N = ⟨#[91,94,92,120,48,48,45,92,120,102,102,93]⟩) := HF;clear HF HL CL FI
   go_wp2_with fail
   refine (CN.out _).mono ?_;rintro e w3 ⟨rfl,hb3⟩;have HB3 := qhid (HFin.out.trans (hb3.mono HFin.out.size));clear hb3
   go_wp2_with fail
   go_ret
   exact ⟨by rw [HF2.out] <;> rfl,HB3.out⟩
  | cons x l' =>
   cases l' with
   | nil =>
    have HF2 : Hid (N = baN (brN x)) := HF;have ho := onlyW_iff.2 HL.out.symm;have hx := (only_mem ho).1;have FX := qhid (fun W hW => FI.out x ho W hW);have BY := qhid (fun W => byte_any x hx W);clear HF HL CL FI ho
    go_wp2_with fail
    refine (CN.out _).mono ?_;rintro e w3 ⟨rfl,hb3⟩;have HB3 := qhid (HFin.out.trans (hb3.mono HFin.out.size));have HT4 := qhid (HT3.out.up hb3);have HH2 := heldZ_below hb3 HH.out;have HH3 := qhid HH2;clear hb3 q0 q1 q2 q3 hgl;obtain ⟨⟨q0,q1,q2,q3⟩,hgl,_⟩ := HH2
    go_wp2_with fail
    refine (FX.out _ HT4.out).mono ?_;rintro e w4 ⟨rfl,hb4⟩;have HB4 := qhid (HB3.out.trans (hb4.mono HB3.out.size));clear hb4
    go_wp2_with fail
    refine (BY.out _).mono ?_;rintro e w5 ⟨rfl,hb5⟩;have HB5 := qhid (HB4.out.trans (hb5.mono HB4.out.size));clear hb5
    go_wp2_with fail
    go_ret
    exact ⟨by rw [HF2.out] <;> rfl,HB5.out⟩
   | cons y r =>
    have HF2 : Hid (N = baN (clsN (rsOf t.mem))) := HF;obtain ⟨k,hk⟩ : ∃ k : Nat,k = (x :: y :: r).length := ⟨_,rfl⟩;have hk2 : 2 <= k := by rw [hk];simp
    rw [<- hk] at CN;have k0 : ((k : Int) == 0) = false := by simp;omega
    have k1 : ((k : Int) == 1) = false := by simp;omega
    clear HF HL FI hk
    go_wp2_with fail
    refine (CN.out _).mono ?_;rintro e w3 ⟨rfl,hb3⟩;have HB3 := qhid (HFin.out.trans (hb3.mono HFin.out.size));have HT4 := qhid (HT3.out.up hb3);have HH2 := heldZ_below hb3 HH.out;have HH3 := qhid HH2;clear hb3 q0 q1 q2 q3 hgl;obtain ⟨⟨q0,q1,q2,q3⟩,hgl,_⟩ := HH2
    go_wp2_with fail
    refine (CL.out _ HT4.out).mono ?_;rintro e w4 ⟨rfl,hb4⟩;have HB4 := qhid (HB3.out.trans (hb4.mono HB3.out.size));clear hb4
    go_wp2_with fail
    go_ret
    exact ⟨by rw [HF2.out] <;> rfl,HB4.out⟩
end
end
section
section
open Go Go.RowKit
theorem Tryz.sizeBd : (Tryz.prog.info? 80).map (·.size) = some 2 := by kernel_rfl
theorem Tryz.liesBd : liesAt Tryz.prog (Tryz.prog).depth 82 (2 / (Tryz.prog).cellsOf 82) 0 80 1 = true := by kernel_rfl
theorem Tryz.ptrBd : Tryz.prog.underlying 77 = some (.pointer 80) := by kernel_rfl
theorem Tryz.unsBd : Tryz.prog.underlying 160 = some .unsafePointer := by kernel_rfl
theorem Tryz.bytBd : Tryz.prog.underlying 78 = some (.slice 5) := by kernel_rfl
theorem Tryz.strBd : Tryz.prog.underlying 9 = some .string := by kernel_rfl
theorem Tryz.pbyBd : Tryz.prog.underlying 120 = some (.pointer 5) := by kernel_rfl
theorem Tryz.infoBd : (Tryz.prog.info? 5).map (fun i => (i.zero,i.size,i.bytes)) = some (some (.int .u8 0),1,1) := by kernel_rfl
theorem Tryz.cellBd : (Tryz.prog).cellsOf 5 = 1 := by kernel_rfl
theorem Tryz.neBd : (82 : TypeId) ≠ 5 := by decide
abbrev WrAt (B b : Nat) (l : List UInt8) (w : World) : Prop := Lib.IsBuilder 82 5 B b (Lib.byteCells l) w
theorem bd_check_used (b : Nat) (w : World) (h0 : w.cell? ⟨b,0,none⟩ = some (.pointer (some ⟨b,0,none⟩))) :
  Calls Tryz.prog 79 #[.pointer (some ⟨b,0,none⟩)] w fun e w' => e = .returned (.tuple #[]) /\ w' = w := by
 obtain ⟨j,hj,_⟩ := Option.map_eq_some_iff.1 Tryz.sizeBd
 go_enter Tryz.func79,Tryz.ntmps79
 go_wp2
 rw [Lib.run_neq_ptr_same w _ Tryz.ptrBd hj]
 go_wp2
 go_end0
 exact ⟨rfl,rfl⟩
theorem bd_check_fresh (b : Nat) (w : World) (h0 : w.cell? ⟨b,0,none⟩ = some (.pointer none)) (hsh : w.shape? b = some (82,2)) (hfz : w.frozen? ⟨b,0,none⟩ = false) :
  Calls Tryz.prog 79 #[.pointer (some ⟨b,0,none⟩)] w fun e w' => e = .returned (.tuple #[]) /\ w' = w.setCell ⟨b,0,none⟩ (.pointer (some ⟨b,0,none⟩)) := by
 obtain ⟨j,hj,hjs⟩ := Option.map_eq_some_iff.1 Tryz.sizeBd
 go_enter Tryz.func79,Tryz.ntmps79
 go_wp2
 rw [Lib.run_to_unsafe w ⟨b,0,none⟩ Tryz.ptrBd Tryz.unsBd hj (by rw [hjs];decide) hsh (Nat.zero_lt_succ 1)];simp only [Result.andThen];rw [Oper.upon_value]
 go_wp2
 rw [run_callFunc_extern Tryz.func105 (by kernel_rfl) (by kernel_rfl) (by kernel_rfl) (e := Extern.AbiNoEscape.same) (by kernel_rfl)];rw [Lib.run_noEscape];simp only [Result.andThen];rw [Oper.upon_value]
 go_wp2
 rw [Lib.run_from_unsafe w ⟨b,0,none⟩ Tryz.unsBd Tryz.ptrBd hj hsh Tryz.liesBd];simp only [Result.andThen];rw [Oper.upon_value]
 go_wp2
 go_end0
 exact ⟨rfl,rfl⟩
theorem bd_check (B b : Nat) (bs : List Value) (w : World) (h : Lib.IsBuilder 82 5 B b bs w) :
  Calls Tryz.prog 79 #[.pointer (some ⟨b,0,none⟩)] w fun e w' => e = .returned (.tuple #[]) /\ (Lib.BuilderAt 82 5 B b (.pointer (some ⟨b,0,none⟩)) bs w' /\ Below B w w') := by
 rcases h with h | h
 ·refine (bd_check_fresh b w h.cell0 h.shape h.frozen0).mono ?_;rintro e w' ⟨rfl,rfl⟩;exact ⟨rfl,h.used _,(Below.refl B w).setCell (p := ⟨b,0,none⟩) h.1 _⟩
 ·refine (bd_check_used b w h.cell0).mono ?_;rintro e w' ⟨rfl,rfl⟩;exact ⟨rfl,h,Below.refl B _⟩
theorem bd_len (B b : Nat) (bs : List Value) (w : World) (h : Lib.IsBuilder 82 5 B b bs w) :
  Calls Tryz.prog 38 #[.pointer (some ⟨b,0,none⟩)] w fun e w' => e = .returned (.int .i64 bs.length) /\ w' = w := by
 obtain ⟨p,hB,v,hbk,hown,hne⟩ : ∃ p,Lib.BuilderAt 82 5 B b p bs w := by
  rcases h with h | h
  ·exact ⟨_,h⟩
  ·exact ⟨_,h⟩
 obtain ⟨ao,cap,rfl⟩ : ∃ ao cap,v = .slice ao bs.length cap := by
  rcases hown.2 with ⟨hv,h0⟩ | ⟨g,cap,cur,hv,_⟩
  ·exact ⟨none,0,by rw [hv,h0]⟩
  ·exact ⟨_,_,hv⟩
 have c1 : w.cell? ⟨b,1,none⟩ = some (.slice ao bs.length cap) := by rw [Lib.cell_of_heap hbk];rfl
 clear hbk hown hne h
 go_enter Tryz.func38,Tryz.ntmps38
 go_wp2
 go_ret
 exact ⟨rfl,rfl⟩
theorem bd_write (B b : Nat) (bs : List Value) (s : ByteArray) (w : World) (h : Lib.IsBuilder 82 5 B b bs w) (hlen : bs.length + s.size <= 140737488355328) (hBw : B <= w.heap.size) :
  Calls Tryz.prog 55 #[.pointer (some ⟨b,0,none⟩),.string s] w fun e w' => e = .returned (.tuple #[.int .i64 s.size,.nilIface]) /\ (Lib.BuilderAt 82 5 B b (.pointer (some ⟨b,0,none⟩)) (bs ++ Lib.strCells s) w' /\ Below B w w') := by
 obtain ⟨i0,hi,hz0,hz1,hz2⟩ := info_parts Tryz.infoBd;have CK := qhid (bd_check B b bs w h);clear h
 go_enter Tryz.func55,Tryz.ntmps55
 go_wp2_with fail
 refine CK.out.mono ?_;rintro e w1 ⟨rfl,h1,hb1⟩;obtain ⟨hB,v,hbk,hown,hne⟩ := h1;have c0 : w1.cell? ⟨b,0,none⟩ = some (.pointer (some ⟨b,0,none⟩)) := by rw [Lib.cell_of_heap hbk];rfl
 have c1 : w1.cell? ⟨b,1,none⟩ = some v := by rw [Lib.cell_of_heap hbk];rfl
 go_wp2_with (at_builtin;refine Lib.wpList_append_own_string _ rfl _ _ 78 9 rfl B 5 i0 Tryz.bytBd Tryz.strBd hi hz0 hz1 hz2 _ _ _ rfl hown s rfl ?c3 ?c4 ?c5 ?_)
 case c3 => unfold maxLen;omega
 case c4 => omega
 case c5 => have := hb1.size;omega
 intro v' w2 hown' hgrow _
 have hlt : b < w1.heap.size := by
  rcases Nat.lt_or_ge b w1.heap.size with h' | h'
  ·exact h'
  ·simp [Array.getElem?_eq_none h'] at hbk
 have hb2 : w2.heap[b]? = some (.cells #[.pointer (some ⟨b,0,none⟩),v] 82 (0,0)) := by
  rw [hgrow.block b hlt (fun e => hne e.symm)];exact hbk
 have d0 : w2.cell? ⟨b,0,none⟩ = some (.pointer (some ⟨b,0,none⟩)) := by rw [Lib.cell_of_heap hb2];rfl
 have d1 : w2.cell? ⟨b,1,none⟩ = some v := by rw [Lib.cell_of_heap hb2];rfl
 have f1 : w2.frozen? ⟨b,1,none⟩ = false := Lib.frozen_of_heap hb2 1
 obtain ⟨ao,n',cap,rfl⟩ : ∃ ao n' cap,v' = .slice ao n' cap := by
  rcases hown'.2 with ⟨hv,_⟩ | ⟨g,cap,cur,hv,_⟩
  ·exact ⟨_,_,_,hv⟩
  ·exact ⟨_,_,_,hv⟩
 go_wp2
 go_ret2
 refine ⟨rfl,?_,?_⟩
 ·exact Lib.BuilderAt.put (T := 82) (e := 5) hB hb2 (bs' := bs ++ Lib.strCells s) (by simpa [Lib.strCells_length] using hown') Tryz.neBd
 ·exact (hb1.grown hgrow (by have := hb1.size;omega) (fun k hk => (hown.lt k hk).1)).setCell (p := ⟨b,1,none⟩) hB _
theorem bd_string_some (B b : Nat) (l : List UInt8) (w : World) (h : WrAt B b l w) (h0 : l ≠ []) :
  Calls Tryz.prog 39 #[.pointer (some ⟨b,0,none⟩)] w fun e w' => e = .returned (.string ⟨l.toArray⟩) /\ Below B w w' := by
 obtain ⟨p,hB,v,hbk,hown,hne⟩ : ∃ p,Lib.BuilderAt 82 5 B b p (Lib.byteCells l) w := by
  rcases h with h | h
  ·exact ⟨_,h⟩
  ·exact ⟨_,h⟩
 have hl0 : l.length ≠ 0 := by simpa using h0
 rw [Lib.byteCells_length] at hown
 obtain ⟨g,cap,cur,rfl,hbg,hg,hnc,hcm,hcs,htake⟩ : ∃ g cap cur,v = .slice (some ⟨g,0,none⟩) l.length cap /\ B <= g /\ w.heap[g]? = some (.cells cur 5 (0,0)) /\ l.length <= cap /\ cap <= maxLen /\ cur.size = cap * 1 /\ cur.toList.take (l.length * 1) = Lib.byteCells l := by
  rcases hown.2 with ⟨_,hz⟩ | ⟨g,cap,cur,hv,r⟩
  ·exact absurd hz hl0
  ·exact ⟨g,cap,cur,hv,r⟩
 have c1 : w.drew.cell? ⟨b,1,none⟩ = some (.slice (some ⟨g,0,none⟩) l.length cap) := by
  have : w.drew.heap[b]? = some (.cells #[p,.slice (some ⟨g,0,none⟩) l.length cap] 82 (0,0)) := hbk;rw [Lib.cell_of_heap this];rfl
 have hSD : (Builtin.unsafeSliceData_ #[78] 120 #[.slice (some ⟨g,0,none⟩) l.length cap]).run Tryz.prog w.drew = .ok (.pointer (some ⟨g,0,none⟩)) w.drew :=
  Lib.run_unsafeSliceData_row _ _ _ _ _ _ (by omega)
 have hUS : (Builtin.unsafeString_ #[120,3] 9 #[.pointer (some ⟨g,0,none⟩),.int .i64 l.length]).run Tryz.prog w.drew = .ok (.string ⟨l.toArray⟩) (w.drew.freeze ⟨g,0,none⟩ l.length) := by
  refine Lib.run_unsafeString_row w.drew 120 3 9 5 Tryz.pbyBd Tryz.cellBd g cur.size (by have hg' : w.drew.heap[g]? = some (.cells cur 5 (0,0)) := hg;simp [World.shape?,hg']) l h0 (by omega) (by unfold maxLen at hcm;omega) ?_;intro j x hx;exact hown.cells (g := g) rfl j (.int .u8 x.toNat) (by simp [Lib.byteCells,hx])
 clear h hown hne htake hcs hcm hg hbk
 go_enter Tryz.func39,Tryz.ntmps39
 go_wp2
 go_region
 all_goals (go_wp2;go_ret;exact ⟨rfl,Lib.below_freeze (Below.drew (Below.refl B w)) (p := ⟨g,0,none⟩) hbg _⟩)
theorem bd_str0 (W : World) (q : Option Addr) : (Builtin.unsafeString_ #[120,3] 9 #[.pointer q,.int .i64 0]).run Tryz.prog W = .ok (.string .empty) W := Lib.run_unsafeString_none W _ _ _ q
theorem bd_string_nil (B b : Nat) (p : Value) (w : World) (hbk : w.heap[b]? = some (.cells #[p,.slice none 0 0] 82 (0,0))) :
  Calls Tryz.prog 39 #[.pointer (some ⟨b,0,none⟩)] w fun e w' => e = .returned (.string ⟨#[]⟩) /\ Below B w w' := by
 have hUS := bd_str0
 have c1 : w.drew.cell? ⟨b,1,none⟩ = some (.slice none 0 0) := by
  have : w.drew.heap[b]? = some (.cells #[p,.slice none 0 0] 82 (0,0)) := hbk;rw [Lib.cell_of_heap this];rfl
 have hSD : (Builtin.unsafeSliceData_ #[78] 120 #[.slice none 0 0]).run Tryz.prog w.drew = .ok (.pointer none) w.drew := rfl
 go_enter Tryz.func39,Tryz.ntmps39
 go_wp2
 go_region
 all_goals (go_wp2;go_ret;exact ⟨rfl,Below.drew (Below.refl B w)⟩)
theorem bd_string_noroom (B b g : Nat) (p : Value) (cur : Array Value) (w : World) (hBw : B <= w.heap.size) (hbk : w.heap[b]? = some (.cells #[p,.slice (some ⟨g,0,none⟩) 0 0] 82 (0,0))) (hg : w.heap[g]? = some (.cells cur 5 (0,0))) :
  Calls Tryz.prog 39 #[.pointer (some ⟨b,0,none⟩)] w fun e w' => e = .returned (.string ⟨#[]⟩) /\ Below B w w' := by
 have hUS := bd_str0
 have hlt : b < w.heap.size := by
  rcases Nat.lt_or_ge b w.heap.size with h' | h'
  ·exact h'
  ·simp [Array.getElem?_eq_none h'] at hbk
 have c1 : w.drew.cell? ⟨b,1,none⟩ = some (.slice (some ⟨g,0,none⟩) 0 0) := by
  have : w.drew.heap[b]? = some (.cells #[p,.slice (some ⟨g,0,none⟩) 0 0] 82 (0,0)) := hbk;rw [Lib.cell_of_heap this];rfl
 have hSD : (Builtin.unsafeSliceData_ #[78] 120 #[.slice (some ⟨g,0,none⟩) 0 0]).run Tryz.prog w.drew = .ok (.pointer (some ⟨w.drew.heap.size,0,none⟩)) (w.drew.alloc (.view ⟨g,0,none⟩ 5)) :=
  Lib.run_unsafeSliceData_zero w.drew _ _ 5 Tryz.pbyBd ⟨g,0,none⟩ 0 (5,cur.size) (by have hg' : w.drew.heap[g]? = some (.cells cur 5 (0,0)) := hg;simp [World.shape?,hg'])
 have c2 : (w.drew.alloc (.view ⟨g,0,none⟩ 5)).cell? ⟨b,1,none⟩ = some (.slice (some ⟨g,0,none⟩) 0 0) := by
  have : (w.drew.alloc (.view ⟨g,0,none⟩ 5)).heap[b]? = _ := (Lib.alloc_old w.drew _ b hlt).trans hbk;rw [Lib.cell_of_heap this];rfl
 have c3 : (w.alloc (.view ⟨g,0,none⟩ 5)).drew.cell? ⟨b,1,none⟩ = some (.slice (some ⟨g,0,none⟩) 0 0) := c2;have c0 : w.cell? ⟨b,1,none⟩ = some (.slice (some ⟨g,0,none⟩) 0 0) := c1
 go_enter Tryz.func39,Tryz.ntmps39
 go_wp2
 go_region
 all_goals (go_wp2;go_ret;exact ⟨rfl,(Below.drew (Below.refl B w)).alloc hBw _⟩)
theorem bd_string_room (B b g cap : Nat) (p : Value) (w : World) (hc0 : cap ≠ 0) (hbk : w.heap[b]? = some (.cells #[p,.slice (some ⟨g,0,none⟩) 0 cap] 82 (0,0))) :
  Calls Tryz.prog 39 #[.pointer (some ⟨b,0,none⟩)] w fun e w' => e = .returned (.string ⟨#[]⟩) /\ Below B w w' := by
 have hUS := bd_str0
 have c1 : w.drew.cell? ⟨b,1,none⟩ = some (.slice (some ⟨g,0,none⟩) 0 cap) := by
  have : w.drew.heap[b]? = some (.cells #[p,.slice (some ⟨g,0,none⟩) 0 cap] 82 (0,0)) := hbk;rw [Lib.cell_of_heap this];rfl
 have hSD : (Builtin.unsafeSliceData_ #[78] 120 #[.slice (some ⟨g,0,none⟩) 0 cap]).run Tryz.prog w.drew = .ok (.pointer (some ⟨g,0,none⟩)) w.drew :=
  Lib.run_unsafeSliceData_row _ _ _ _ _ _ hc0
 clear hc0
 go_enter Tryz.func39,Tryz.ntmps39
 go_wp2
 go_region
 all_goals (go_wp2;go_ret;exact ⟨rfl,Below.drew (Below.refl B w)⟩)
theorem bd_string (B b : Nat) (l : List UInt8) (w : World) (h : WrAt B b l w) (hBw : B <= w.heap.size) :
  Calls Tryz.prog 39 #[.pointer (some ⟨b,0,none⟩)] w fun e w' => e = .returned (.string ⟨l.toArray⟩) /\ Below B w w' := by
 cases l with
 | cons x r => exact bd_string_some B b (x :: r) w h (by simp)
 | nil =>
  obtain ⟨p,hB,v,hbk,hown,hne⟩ : ∃ p,Lib.BuilderAt 82 5 B b p [] w := by
   rcases h with h | h
   ·exact ⟨_,h⟩
   ·exact ⟨_,h⟩
  rcases hown.2 with ⟨rfl,_⟩ | ⟨g,cap,cur,rfl,hbg,hg,_,_,_,_⟩
  ·exact bd_string_nil B b p w hbk
  ·by_cases hc0 : cap = 0
   ·subst hc0;exact bd_string_noroom B b g p cur w hBw hbk hg
   ·exact bd_string_room B b g cap p w hc0 hbk
end
end
section
section
open Go Go.RowKit
attribute [local go_sem ↓] Go.wp_at_zero Go.wp_at_succ
def I64 (n : Int) : Prop := -9223372036854775808 <= n /\ n <= 9223372036854775807
theorem I64.small {n : Int} (h0 : -1000000 <= n) (h1 : n <= 1000000) : I64 n := ⟨by omega,by omega⟩
def TabP (w : World) : Prop := Lib.TabIs Tryz.prog w "internal/strconv.uint64pow10" .u64 Lib.pow10Tab
theorem gPow : Tryz.prog.globalNamed "internal/strconv.uint64pow10" = some 2 := by kernel_rfl
theorem TabP.lt {w : World} (h : TabP w) : 2 < w.heap.size := by
 unfold TabP Lib.TabIs World.var? at h;rw [gPow] at h;simp only [Option.bind_some] at h
 rcases Nat.lt_or_ge 2 w.heap.size with h' | h'
 ·exact h'
 ·rw [Array.getElem?_eq_none h'] at h;cases h
theorem TabP.below {w w' : World} {B : Nat} (h : TabP w) (hb : Below B w w') (hB : 2 < B) : TabP w' := by
 unfold TabP Lib.TabIs World.var? at h ⊢;rw [gPow] at h ⊢;simp only [Option.bind_some] at h ⊢;rw [hb.block _ hB];exact h
theorem TabP.up {w w' : World} (h : TabP w) (hb : Below w.heap.size w w') : TabP w' := h.below hb h.lt
theorem below_growP (w : World) (k : Nat) (os : Array Obj) : Below w.heap.size w (Sort.grow (w.drewN k) os) := by
 refine ⟨rfl,rfl,rfl,?_,fun i hi => ?_⟩
 ·show w.heap.size <= (w.heap ++ os).size
  rw [Array.size_append];omega
 ·show (w.heap ++ os)[i]? = w.heap[i]?
  rw [Array.getElem?_append_left hi]
def itS (n : Int) : ByteArray := ⟨(Lib.itoa n).toArray⟩
def itN (n : Int) : List Nat := (Lib.itoa n).map UInt8.toNat
theorem itS_eq (n : Int) : itS n = baN (itN n) := by
 unfold itS itN baN;rw [List.map_map];congr 2;have : (Nat.toUInt8 ∘ UInt8.toNat) = id := by funext x;simp
 rw [this,List.map_id]
theorem itS_size {n : Int} (h : I64 n) : (itS n).size <= 21 := by
 have := Lib.itoa_length_le n h.1 h.2
 show (Lib.itoa n).toArray.size <= 21
 simpa using this
theorem itoa_at (n : Int) (h : I64 n) (w : World) (hT : TabP w) :
  Calls Tryz.prog 111 #[.int .i64 n] w fun e w' => e = .returned (.string (itS n)) /\ Below w.heap.size w w' :=
 (Tryz.strconv_Itoa n h.1 h.2 w hT).mono fun e w' ⟨he,k,os,hw⟩ => ⟨he,by rw [hw];exact below_growP w k os⟩
def timesS (x0 x1 y0 y1 z : Bool) (sl sh : ByteArray) : ByteArray :=
 if x0 && y0 then ⟨#[42]⟩ else if x1 && y0 then ⟨#[43]⟩ else if x0 && y1 then ⟨#[63]⟩ else if y0 then ⟨#[123]⟩ ++ sl ++ ⟨#[44,125]⟩ else if z then ⟨#[123]⟩ ++ sl ++ ⟨#[125]⟩ else ⟨#[123]⟩ ++ sl ++ ⟨#[44]⟩ ++ sh ++ ⟨#[125]⟩
def timesN (lo hi : Int) : List Nat :=
 if lo == 0 && hi == -1 then [42] else if lo == 1 && hi == -1 then [43] else if lo == 0 && hi == 1 then [63] else if hi == -1 then 123 :: (itN lo ++ [44,125]) else if lo == hi then 123 :: (itN lo ++ [125]) else 123 :: (itN lo ++ 44 :: (itN hi ++ [125]))
theorem times_eq (lo hi : Int) : timesS (lo == 0) (lo == 1) (hi == -1) (hi == 1) (lo == hi) (itS lo) (itS hi) = baN (timesN lo hi) := by
 have ap : ∀ l m : List Nat,baN l ++ baN m = baN (l ++ m) := fun l m => (baN_append l m).symm
 unfold timesS timesN;rw [itS_eq,itS_eq,show (⟨#[42]⟩ : ByteArray) = baN [42] from rfl,show (⟨#[43]⟩ : ByteArray) = baN [43] from rfl,show (⟨#[63]⟩ : ByteArray) = baN [63] from rfl,show (⟨#[123]⟩ : ByteArray) = baN [123] from rfl,show (⟨#[44,125]⟩ : ByteArray) = baN [44,125] from rfl,show (⟨#[44]⟩ : ByteArray) = baN [44] from rfl,show (⟨#[125]⟩ : ByteArray) = baN [125] from rfl];simp only [ap,List.cons_append,List.nil_append,List.append_assoc]
 repeat' split
 all_goals rfl
theorem times_amf (lo hi : Int) (sl sh : ByteArray) (h0 : (lo == 0) = true) (h1 : (lo == 1) = false) (h2 : (hi == -1) = true) (h3 : (hi == 1) = false) (h4 : (lo == hi) = false) (_s1 : sl.size <= 21) (_s2 : sh.size <= 21)
  (L : ∀ W,TabP W -> Calls Tryz.prog 111 #[.int .i64 lo] W fun e w' => e = .returned (.string sl) /\ Below W.heap.size W w') (H : ∀ W,TabP W -> Calls Tryz.prog 111 #[.int .i64 hi] W fun e w' => e = .returned (.string sh) /\ Below W.heap.size W w') (w : World) (hT : TabP w) :
  Calls Tryz.prog 86 #[.int .i64 lo,.int .i64 hi] w fun e w' => e = .returned (.string (timesS true false true false false sl sh)) /\ Below w.heap.size w w' := by
 have HL := qhid L;have HH := qhid H;have HT := qhid hT;clear L H hT;obtain rfl : lo = 0 := by simpa using h0
 obtain rfl : hi = -1 := by simpa using h2
 go_enter Tryz.func86,Tryz.ntmps86
 go_wp2_with fail
 go_ret
 exact ⟨rfl,Below.refl _ _⟩
theorem times_abf (lo hi : Int) (sl sh : ByteArray) (h0 : (lo == 0) = true) (h1 : (lo == 1) = false) (h2 : (hi == -1) = false) (h3 : (hi == 1) = true) (h4 : (lo == hi) = false) (_s1 : sl.size <= 21) (_s2 : sh.size <= 21)
  (L : ∀ W,TabP W -> Calls Tryz.prog 111 #[.int .i64 lo] W fun e w' => e = .returned (.string sl) /\ Below W.heap.size W w') (H : ∀ W,TabP W -> Calls Tryz.prog 111 #[.int .i64 hi] W fun e w' => e = .returned (.string sh) /\ Below W.heap.size W w') (w : World) (hT : TabP w) :
  Calls Tryz.prog 86 #[.int .i64 lo,.int .i64 hi] w fun e w' => e = .returned (.string (timesS true false false true false sl sh)) /\ Below w.heap.size w w' := by
 have HL := qhid L;have HH := qhid H;have HT := qhid hT;clear L H hT;obtain rfl : lo = 0 := by simpa using h0
 obtain rfl : hi = 1 := by simpa using h3
 go_enter Tryz.func86,Tryz.ntmps86
 go_wp2_with fail
 go_ret
 exact ⟨rfl,Below.refl _ _⟩
theorem times_aof (lo hi : Int) (sl sh : ByteArray) (h0 : (lo == 0) = true) (h1 : (lo == 1) = false) (h2 : (hi == -1) = false) (h3 : (hi == 1) = false) (h4 : (lo == hi) = false) (_s1 : sl.size <= 21) (_s2 : sh.size <= 21)
  (L : ∀ W,TabP W -> Calls Tryz.prog 111 #[.int .i64 lo] W fun e w' => e = .returned (.string sl) /\ Below W.heap.size W w') (H : ∀ W,TabP W -> Calls Tryz.prog 111 #[.int .i64 hi] W fun e w' => e = .returned (.string sh) /\ Below W.heap.size W w') (w : World) (hT : TabP w) :
  Calls Tryz.prog 86 #[.int .i64 lo,.int .i64 hi] w fun e w' => e = .returned (.string (timesS true false false false false sl sh)) /\ Below w.heap.size w w' := by
 have HL := qhid L;have HH := qhid H;have HT := qhid hT;clear L H hT;obtain rfl : lo = 0 := by simpa using h0
 go_enter Tryz.func86,Tryz.ntmps86
 go_wp2_with fail
 refine (HL.out w HT.out).mono ?_;rintro e w1 ⟨rfl,h5⟩;have H5 := qhid h5;clear h5
 go_wp2_with fail
 refine (HH.out w1 (HT.out.up H5.out)).mono ?_;rintro e w2 ⟨rfl,h6⟩;have H6 := qhid (H5.out.trans (h6.mono H5.out.size));clear h6
 go_wp2_with fail
 go_ret
 exact ⟨rfl,H6.out⟩
theorem times_aot (lo hi : Int) (sl sh : ByteArray) (h0 : (lo == 0) = true) (h1 : (lo == 1) = false) (h2 : (hi == -1) = false) (h3 : (hi == 1) = false) (h4 : (lo == hi) = true) (_s1 : sl.size <= 21) (_s2 : sh.size <= 21)
  (L : ∀ W,TabP W -> Calls Tryz.prog 111 #[.int .i64 lo] W fun e w' => e = .returned (.string sl) /\ Below W.heap.size W w') (H : ∀ W,TabP W -> Calls Tryz.prog 111 #[.int .i64 hi] W fun e w' => e = .returned (.string sh) /\ Below W.heap.size W w') (w : World) (hT : TabP w) :
  Calls Tryz.prog 86 #[.int .i64 lo,.int .i64 hi] w fun e w' => e = .returned (.string (timesS true false false false true sl sh)) /\ Below w.heap.size w w' := by
 have HL := qhid L;have HH := qhid H;have HT := qhid hT;clear L H hT;obtain rfl : lo = 0 := by simpa using h0
 obtain rfl : 0 = hi := by simpa using h4
 go_enter Tryz.func86,Tryz.ntmps86
 go_wp2_with fail
 refine (HL.out w HT.out).mono ?_;rintro e w1 ⟨rfl,h5⟩;have H5 := qhid h5;clear h5
 go_wp2_with fail
 go_ret
 exact ⟨rfl,H5.out⟩
theorem times_bmf (lo hi : Int) (sl sh : ByteArray) (h0 : (lo == 0) = false) (h1 : (lo == 1) = true) (h2 : (hi == -1) = true) (h3 : (hi == 1) = false) (h4 : (lo == hi) = false) (_s1 : sl.size <= 21) (_s2 : sh.size <= 21)
  (L : ∀ W,TabP W -> Calls Tryz.prog 111 #[.int .i64 lo] W fun e w' => e = .returned (.string sl) /\ Below W.heap.size W w') (H : ∀ W,TabP W -> Calls Tryz.prog 111 #[.int .i64 hi] W fun e w' => e = .returned (.string sh) /\ Below W.heap.size W w') (w : World) (hT : TabP w) :
  Calls Tryz.prog 86 #[.int .i64 lo,.int .i64 hi] w fun e w' => e = .returned (.string (timesS false true true false false sl sh)) /\ Below w.heap.size w w' := by
 have HL := qhid L;have HH := qhid H;have HT := qhid hT;clear L H hT;obtain rfl : lo = 1 := by simpa using h1
 obtain rfl : hi = -1 := by simpa using h2
 go_enter Tryz.func86,Tryz.ntmps86
 go_wp2_with fail
 go_ret
 exact ⟨rfl,Below.refl _ _⟩
theorem times_bbt (lo hi : Int) (sl sh : ByteArray) (h0 : (lo == 0) = false) (h1 : (lo == 1) = true) (h2 : (hi == -1) = false) (h3 : (hi == 1) = true) (h4 : (lo == hi) = true) (_s1 : sl.size <= 21) (_s2 : sh.size <= 21)
  (L : ∀ W,TabP W -> Calls Tryz.prog 111 #[.int .i64 lo] W fun e w' => e = .returned (.string sl) /\ Below W.heap.size W w') (H : ∀ W,TabP W -> Calls Tryz.prog 111 #[.int .i64 hi] W fun e w' => e = .returned (.string sh) /\ Below W.heap.size W w') (w : World) (hT : TabP w) :
  Calls Tryz.prog 86 #[.int .i64 lo,.int .i64 hi] w fun e w' => e = .returned (.string (timesS false true false true true sl sh)) /\ Below w.heap.size w w' := by
 have HL := qhid L;have HH := qhid H;have HT := qhid hT;clear L H hT;obtain rfl : lo = 1 := by simpa using h1
 obtain rfl : hi = 1 := by simpa using h3
 go_enter Tryz.func86,Tryz.ntmps86
 go_wp2_with fail
 refine (HL.out w HT.out).mono ?_;rintro e w1 ⟨rfl,h5⟩;have H5 := qhid h5;clear h5
 go_wp2_with fail
 go_ret
 exact ⟨rfl,H5.out⟩
theorem times_bof (lo hi : Int) (sl sh : ByteArray) (h0 : (lo == 0) = false) (h1 : (lo == 1) = true) (h2 : (hi == -1) = false) (_h3 : (hi == 1) = false) (h4 : (lo == hi) = false) (_s1 : sl.size <= 21) (_s2 : sh.size <= 21)
  (L : ∀ W,TabP W -> Calls Tryz.prog 111 #[.int .i64 lo] W fun e w' => e = .returned (.string sl) /\ Below W.heap.size W w') (H : ∀ W,TabP W -> Calls Tryz.prog 111 #[.int .i64 hi] W fun e w' => e = .returned (.string sh) /\ Below W.heap.size W w') (w : World) (hT : TabP w) :
  Calls Tryz.prog 86 #[.int .i64 lo,.int .i64 hi] w fun e w' => e = .returned (.string (timesS false true false false false sl sh)) /\ Below w.heap.size w w' := by
 have HL := qhid L;have HH := qhid H;have HT := qhid hT;clear L H hT;obtain rfl : lo = 1 := by simpa using h1
 go_enter Tryz.func86,Tryz.ntmps86
 go_wp2_with fail
 refine (HL.out w HT.out).mono ?_;rintro e w1 ⟨rfl,h5⟩;have H5 := qhid h5;clear h5
 go_wp2_with fail
 refine (HH.out w1 (HT.out.up H5.out)).mono ?_;rintro e w2 ⟨rfl,h6⟩;have H6 := qhid (H5.out.trans (h6.mono H5.out.size));clear h6
 go_wp2_with fail
 go_ret
 exact ⟨rfl,H6.out⟩
theorem times_omf (lo hi : Int) (sl sh : ByteArray) (h0 : (lo == 0) = false) (h1 : (lo == 1) = false) (h2 : (hi == -1) = true) (h3 : (hi == 1) = false) (h4 : (lo == hi) = false) (_s1 : sl.size <= 21) (_s2 : sh.size <= 21)
  (L : ∀ W,TabP W -> Calls Tryz.prog 111 #[.int .i64 lo] W fun e w' => e = .returned (.string sl) /\ Below W.heap.size W w') (H : ∀ W,TabP W -> Calls Tryz.prog 111 #[.int .i64 hi] W fun e w' => e = .returned (.string sh) /\ Below W.heap.size W w') (w : World) (hT : TabP w) :
  Calls Tryz.prog 86 #[.int .i64 lo,.int .i64 hi] w fun e w' => e = .returned (.string (timesS false false true false false sl sh)) /\ Below w.heap.size w w' := by
 have HL := qhid L;have HH := qhid H;have HT := qhid hT;clear L H hT;obtain rfl : hi = -1 := by simpa using h2
 go_enter Tryz.func86,Tryz.ntmps86
 go_wp2_with fail
 refine (HL.out w HT.out).mono ?_;rintro e w1 ⟨rfl,h5⟩;have H5 := qhid h5;clear h5
 go_wp2_with fail
 go_ret
 exact ⟨rfl,H5.out⟩
theorem times_omt (lo hi : Int) (sl sh : ByteArray) (h0 : (lo == 0) = false) (h1 : (lo == 1) = false) (h2 : (hi == -1) = true) (h3 : (hi == 1) = false) (h4 : (lo == hi) = true) (_s1 : sl.size <= 21) (_s2 : sh.size <= 21)
  (L : ∀ W,TabP W -> Calls Tryz.prog 111 #[.int .i64 lo] W fun e w' => e = .returned (.string sl) /\ Below W.heap.size W w') (H : ∀ W,TabP W -> Calls Tryz.prog 111 #[.int .i64 hi] W fun e w' => e = .returned (.string sh) /\ Below W.heap.size W w') (w : World) (hT : TabP w) :
  Calls Tryz.prog 86 #[.int .i64 lo,.int .i64 hi] w fun e w' => e = .returned (.string (timesS false false true false true sl sh)) /\ Below w.heap.size w w' := by
 have HL := qhid L;have HH := qhid H;have HT := qhid hT;clear L H hT;obtain rfl : hi = -1 := by simpa using h2
 go_enter Tryz.func86,Tryz.ntmps86
 go_wp2_with fail
 refine (HL.out w HT.out).mono ?_;rintro e w1 ⟨rfl,h5⟩;have H5 := qhid h5;clear h5
 go_wp2_with fail
 go_ret
 exact ⟨rfl,H5.out⟩
theorem times_obf (lo hi : Int) (sl sh : ByteArray) (h0 : (lo == 0) = false) (h1 : (lo == 1) = false) (h2 : (hi == -1) = false) (h3 : (hi == 1) = true) (h4 : (lo == hi) = false) (_s1 : sl.size <= 21) (_s2 : sh.size <= 21)
  (L : ∀ W,TabP W -> Calls Tryz.prog 111 #[.int .i64 lo] W fun e w' => e = .returned (.string sl) /\ Below W.heap.size W w') (H : ∀ W,TabP W -> Calls Tryz.prog 111 #[.int .i64 hi] W fun e w' => e = .returned (.string sh) /\ Below W.heap.size W w') (w : World) (hT : TabP w) :
  Calls Tryz.prog 86 #[.int .i64 lo,.int .i64 hi] w fun e w' => e = .returned (.string (timesS false false false true false sl sh)) /\ Below w.heap.size w w' := by
 have HL := qhid L;have HH := qhid H;have HT := qhid hT;clear L H hT;obtain rfl : hi = 1 := by simpa using h3
 go_enter Tryz.func86,Tryz.ntmps86
 go_wp2_with fail
 refine (HL.out w HT.out).mono ?_;rintro e w1 ⟨rfl,h5⟩;have H5 := qhid h5;clear h5
 go_wp2_with fail
 refine (HH.out w1 (HT.out.up H5.out)).mono ?_;rintro e w2 ⟨rfl,h6⟩;have H6 := qhid (H5.out.trans (h6.mono H5.out.size));clear h6
 go_wp2_with fail
 go_ret
 exact ⟨rfl,H6.out⟩
theorem times_oof (lo hi : Int) (sl sh : ByteArray) (h0 : (lo == 0) = false) (h1 : (lo == 1) = false) (h2 : (hi == -1) = false) (_h3 : (hi == 1) = false) (h4 : (lo == hi) = false) (_s1 : sl.size <= 21) (_s2 : sh.size <= 21)
  (L : ∀ W,TabP W -> Calls Tryz.prog 111 #[.int .i64 lo] W fun e w' => e = .returned (.string sl) /\ Below W.heap.size W w') (H : ∀ W,TabP W -> Calls Tryz.prog 111 #[.int .i64 hi] W fun e w' => e = .returned (.string sh) /\ Below W.heap.size W w') (w : World) (hT : TabP w) :
  Calls Tryz.prog 86 #[.int .i64 lo,.int .i64 hi] w fun e w' => e = .returned (.string (timesS false false false false false sl sh)) /\ Below w.heap.size w w' := by
 have HL := qhid L;have HH := qhid H;have HT := qhid hT;clear L H hT
 go_enter Tryz.func86,Tryz.ntmps86
 go_wp2_with fail
 refine (HL.out w HT.out).mono ?_;rintro e w1 ⟨rfl,h5⟩;have H5 := qhid h5;clear h5
 go_wp2_with fail
 refine (HH.out w1 (HT.out.up H5.out)).mono ?_;rintro e w2 ⟨rfl,h6⟩;have H6 := qhid (H5.out.trans (h6.mono H5.out.size));clear h6
 go_wp2_with fail
 go_ret
 exact ⟨rfl,H6.out⟩
theorem times_oot (lo hi : Int) (sl sh : ByteArray) (h0 : (lo == 0) = false) (h1 : (lo == 1) = false) (h2 : (hi == -1) = false) (_h3 : (hi == 1) = false) (h4 : (lo == hi) = true) (_s1 : sl.size <= 21) (_s2 : sh.size <= 21)
  (L : ∀ W,TabP W -> Calls Tryz.prog 111 #[.int .i64 lo] W fun e w' => e = .returned (.string sl) /\ Below W.heap.size W w') (H : ∀ W,TabP W -> Calls Tryz.prog 111 #[.int .i64 hi] W fun e w' => e = .returned (.string sh) /\ Below W.heap.size W w') (w : World) (hT : TabP w) :
  Calls Tryz.prog 86 #[.int .i64 lo,.int .i64 hi] w fun e w' => e = .returned (.string (timesS false false false false true sl sh)) /\ Below w.heap.size w w' := by
 have HL := qhid L;have HH := qhid H;have HT := qhid hT;clear L H hT;obtain rfl : lo = hi := by simpa using h4
 go_enter Tryz.func86,Tryz.ntmps86
 go_wp2_with fail
 refine (HL.out w HT.out).mono ?_;rintro e w1 ⟨rfl,h5⟩;have H5 := qhid h5;clear h5
 go_wp2_with fail
 go_ret
 exact ⟨rfl,H5.out⟩
theorem times_any (lo hi : Int) (hlo : I64 lo) (hhi : I64 hi) (w : World) (hT : TabP w) :
  Calls Tryz.prog 86 #[.int .i64 lo,.int .i64 hi] w fun e w' => e = .returned (.string (baN (timesN lo hi))) /\ Below w.heap.size w w' := by
 rw [<- times_eq];have L := fun W hW => itoa_at lo hlo W hW
 have H := fun W hW => itoa_at hi hhi W hW
 have s1 := itS_size hlo;have s2 := itS_size hhi
 cases h0 : (lo == 0) <;> cases h1 : (lo == 1) <;> cases h2 : (hi == -1) <;> cases h3 : (hi == 1) <;> cases h4 : (lo == hi) <;> (first
  | (exfalso;simp only [beq_iff_eq,beq_eq_false_iff_ne,ne_eq] at h0 h1 h2 h3 h4;omega)
  | exact times_amf lo hi _ _ h0 h1 h2 h3 h4 s1 s2 L H w hT
  | exact times_abf lo hi _ _ h0 h1 h2 h3 h4 s1 s2 L H w hT
  | exact times_aof lo hi _ _ h0 h1 h2 h3 h4 s1 s2 L H w hT
  | exact times_aot lo hi _ _ h0 h1 h2 h3 h4 s1 s2 L H w hT
  | exact times_bmf lo hi _ _ h0 h1 h2 h3 h4 s1 s2 L H w hT
  | exact times_bbt lo hi _ _ h0 h1 h2 h3 h4 s1 s2 L H w hT
  | exact times_bof lo hi _ _ h0 h1 h2 h3 h4 s1 s2 L H w hT
  | exact times_omf lo hi _ _ h0 h1 h2 h3 h4 s1 s2 L H w hT
  | exact times_omt lo hi _ _ h0 h1 h2 h3 h4 s1 s2 L H w hT
  | exact times_obf lo hi _ _ h0 h1 h2 h3 h4 s1 s2 L H w hT
  | exact times_oof lo hi _ _ h0 h1 h2 h3 h4 s1 s2 L H w hT
  | exact times_oot lo hi _ _ h0 h1 h2 h3 h4 s1 s2 L H w hT)
def rcN (lo hi : Int) (z : Bool) : List Nat := timesN lo hi ++ (if z then [63] else [])
theorem timesN_len {lo hi : Int} (hlo : I64 lo) (hhi : I64 hi) : (timesN lo hi).length <= 45 := by
 have s1 := itS_size hlo;have s2 := itS_size hhi;rw [itS_eq,baN_size] at s1 s2;unfold timesN
 repeat' split
 all_goals simp
 all_goals omega
theorem rcN_len {lo hi : Int} (z : Bool) (hlo : I64 lo) (hhi : I64 hi) : (rcN lo hi z).length <= 46 := by
 have := timesN_len hlo hhi;unfold rcN
 cases z <;> simp <;> omega
theorem pcount_any (lo hi : Int) (z : Bool) (hlo : I64 lo) (hhi : I64 hi) (w : World) (hT : TabP w) :
  Calls Tryz.prog 59 #[.int .i64 lo,.int .i64 hi,.bool z] w fun e w' => e = .returned (.string (baN (rcN lo hi z))) /\ Below w.heap.size w w' := by
 have TM := qhid (times_any lo hi hlo hhi w hT);have HF : Hid (baN (rcN lo hi true) = baN (timesN lo hi) ++ ⟨#[63]⟩) := qhid (baN_append _ _);have HG : Hid (baN (rcN lo hi false) = baN (timesN lo hi)) := qhid (by unfold rcN;rw [if_neg (by simp),List.append_nil]);have hs := timesN_len hlo hhi;rw [<- baN_size] at hs;generalize baN (timesN lo hi) = s at *;clear hlo hhi hT
 cases z with
 | true =>
  go_enter Tryz.func59,Tryz.ntmps59
  go_wp2_with fail
  refine TM.out.mono ?_;rintro e w1 ⟨rfl,h1⟩;have H1 := qhid h1;clear h1
  go_wp2_with fail
  go_ret
  exact ⟨by rw [HF.out] <;> rfl,H1.out⟩
 | false =>
  go_enter Tryz.func59,Tryz.ntmps59
  go_wp2_with fail
  refine TM.out.mono ?_;rintro e w1 ⟨rfl,h1⟩;have H1 := qhid h1;clear h1
  go_wp2_with fail
  go_ret
  exact ⟨by rw [HG.out] <;> rfl,H1.out⟩
end
end
section
section
open Go Go.RowKit
def joinP (sep : List Nat) : List (List Nat) -> List Nat
 | [] => []
 | p :: r => p ++ r.flatMap fun x => sep ++ x
theorem joinP_snoc (sep x : List Nat) : ∀ ps : List (List Nat),joinP sep (ps ++ [x]) = joinP sep ps ++ ((if ps = [] then [] else sep) ++ x)
 | [] => by simp [joinP]
 | p :: r => by simp [joinP]
def prN (k : Int) (s : W4) (lo hi : Int) (z : Bool) (ps : List (List Nat)) : List Nat :=
 if k = 1 then setN s else if k = 2 then 40 :: (ps.headD [] ++ [41]) else if k = 3 then 40 :: 63 :: 58 :: (ps.headD [] ++ [41]) else if k = 4 then joinP [] ps else if k = 5 then joinP [124] ps
 else if k = 6 then ps.headD [] ++ rcN lo hi z else []
mutual
def prT : Tr -> List Nat
 | .mk k s lo hi z _ _ l => prN k s lo hi z (prTs l)
def prTs : List Tr -> List (List Nat)
 | [] => []
 | t :: r => prT t :: prTs r
end
theorem prTs_map : ∀ l : List Tr,prTs l = l.map prT
 | [] => rfl
 | t :: r => by rw [prTs,prTs_map r];rfl
theorem prT_eq (k : Int) (s : W4) (lo hi : Int) (z : Bool) (a b : Nat) (l : List Tr) : prT (.mk k s lo hi z a b l) = prN k s lo hi z (l.map prT) := by rw [prT,prTs_map]
inductive WfT : Tr -> Prop
 | node (k : Int) (s : W4) (lo hi : Int) (z : Bool) (a b : Nat) (l : List Tr) (hs : k = 1 -> s.fit) (hl : k = 2 \/ k = 3 \/ k = 6 -> ∃ u r,l = u :: r) (hc : k = 6 -> I64 lo /\ I64 hi) (ht : ∀ (i : Nat) (t : Tr),l[i]? = some t -> WfT t) : WfT (.mk k s lo hi z a b l)
def byN (l : List Nat) : List UInt8 := l.map Nat.toUInt8
theorem byN_append (l m : List Nat) : byN (l ++ m) = byN l ++ byN m := List.map_append
theorem byN_length (l : List Nat) : (byN l).length = l.length := List.length_map ..
theorem strCells_baN (l : List Nat) : Lib.strCells (baN l) = Lib.byteCells (byN l) := rfl
theorem WrAt.up {B b : Nat} {l : List UInt8} {w w' : World} (h : WrAt B b l w) (hb : Below w.heap.size w w') : WrAt B b l w' := by
 have key : ∀ p,Lib.BuilderAt 82 5 B b p (Lib.byteCells l) w -> Lib.BuilderAt 82 5 B b p (Lib.byteCells l) w' := by
  intro p ⟨h1,v,h2,h3,h4⟩;exact ⟨h1,v,(hb.block b (jS h2)).trans h2,ownsBelow h3 hb,h4⟩
 exact h.imp (key _) (key _)
theorem WrAt.le {B b : Nat} {l : List UInt8} {w : World} (h : WrAt B b l w) : B <= b /\ b < w.heap.size := by
 rcases h with h | h
 ·exact ⟨h.1,h.lt⟩
 ·exact ⟨h.1,h.lt⟩
theorem wr_len {B b : Nat} {l : List UInt8} {w : World} (h : WrAt B b l w) :
  Calls Tryz.prog 38 #[.pointer (some ⟨b,0,none⟩)] w fun e w' => e = .returned (.int .i64 (l.length : Int)) /\ w' = w :=
 (bd_len B b _ w h).mono fun e w' ⟨he,hw⟩ => ⟨by rw [he,Lib.byteCells_length],hw⟩
def WrTo (B b : Nat) (l : List UInt8) (w w' : World) : Prop := WrAt B b l w' /\ Below B w w'
theorem wr_write {B b : Nat} {l : List UInt8} {w : World} (x : List Nat) (h : WrAt B b l w) (hlen : l.length + x.length <= 1099511627776) :
  Calls Tryz.prog 55 #[.pointer (some ⟨b,0,none⟩),.string (baN x)] w fun e w' => e = .returned (.tuple #[.int .i64 (x.length : Int),.nilIface]) /\ WrTo B b (l ++ byN x) w w' := by
 refine (bd_write B b _ (baN x) w h (by rw [Lib.byteCells_length,baN_size];omega) (by have := h.le;omega)).mono fun e w' ⟨he,hW,hb⟩ => ⟨by rw [he,baN_size],.inr ?_,hb⟩
 rw [Lib.byteCells_append,<- strCells_baN];exact hW
def NodeC (w0 : World) (t : Tr) (q : Nat) : Prop := ∀ (b : Nat) (l : List UInt8) (w : World),WrAt w0.heap.size b l w -> Below w0.heap.size w0 w -> l.length + (prT t).length <= 1048576 ->
 Calls Tryz.prog 37 #[.pointer (some ⟨b,0,none⟩),ndPtr q] w fun e w' => e = .returned (.tuple #[]) /\ WrTo w0.heap.size b (l ++ byN (prT t)) w w'
def KidC (w0 : World) (l : List Tr) (p : Option Addr) : Prop := ∀ (i : Nat) (t : Tr),l[i]? = some t -> ∃ c q,p = some ⟨c,0,none⟩ /\ c < w0.heap.size /\ w0.cell? ⟨c,i,none⟩ = some (ndPtr q) /\ NodeC w0 t q
end
section
open Go Go.RowKit
attribute [local go_sem ↓] Go.wp_at_zero Go.wp_at_succ
theorem group_any {w0 : World} (op : List Nat) {q : Nat} {k : Int} {s : W4} {lo hi : Int} {z : Bool} {a b cap : Nat} {p : Option Addr} {u : Tr} {r : List Tr} (hq : w0.heap[q]? = some (ndOb k s lo hi z (.slice p (u :: r).length cap) a b)) (hk : KidC w0 (u :: r) p)
  (g : Nat) (l : List UInt8) (w : World) (hW : WrAt w0.heap.size g l w) (hB : Below w0.heap.size w0 w) (hlen : l.length + (op.length + ((prT u).length + 1)) <= 1048576) :
  Calls Tryz.prog 57 #[.pointer (some ⟨g,0,none⟩),.string (baN op),ndPtr q] w fun e w' => e = .returned (.tuple #[]) /\ WrTo w0.heap.size g (l ++ byN (op ++ (prT u ++ [41]))) w w' := by
 obtain ⟨c,q',rfl,hc,hcell,hn⟩ := hk 0 u rfl;have hql := jS hq;have WR := qhid (wr_write op hW (by omega));have HN := qhid hn;have HB := qhid hB;have hl1 : 0 < (u :: r).length := by simp
 have n8 := jC hq 8;simp only [Reg.la,Reg.lb,Reg.lc] at n8;generalize (u :: r).length = ln at *;have HC8 := qhid n8;have HCC := qhid hcell;clear hk hn hq hW hB n8 hcell
 go_enter Tryz.func57,Tryz.ntmps57
 go_wp2_with fail
 refine WR.out.mono ?_;rintro e w1 ⟨rfl,hW1,hB1⟩;have HB1 := qhid (HB.out.trans hB1);have HB0 := qhid hB1;have n8 : w1.cell? ⟨q,8,none⟩ = some (.slice (some ⟨c,0,none⟩) ln cap) := ((HB.out.trans hB1).cell (p := ⟨q,8,none⟩) hql).trans HC8.out;have c0 : w1.cell? ⟨c,0,none⟩ = some (ndPtr q') := ((HB.out.trans hB1).cell (p := ⟨c,0,none⟩) hc).trans HCC.out;have NC := qhid (HN.out g _ w1 hW1 (HB.out.trans hB1) (by rw [List.length_append,byN_length];omega));clear hW1 hB1 WR
 go_wp2_with fail
 refine NC.out.mono ?_;rintro e w2 ⟨rfl,hW2,hB2⟩;have W3 := qhid (wr_write [41] hW2 (by rw [List.length_append,List.length_append,byN_length,byN_length];simp;omega));have HB2 := qhid (HB0.out.trans hB2);clear hW2 hB2 NC n8 c0
 go_wp2_with fail
 refine W3.out.mono ?_;rintro e w3 ⟨rfl,hW3,hB3⟩;have HF := qhid hW3;have HB3 := qhid (HB2.out.trans hB3);clear hW3 hB3
 go_wp2_with fail
 go_end0
 refine ⟨rfl,?_,HB3.out⟩;have h := HF.out;rw [List.append_assoc,List.append_assoc,<- byN_append,<- byN_append] at h;exact h
theorem join_take (sep : List Nat) (l : List Tr) (k : Nat) (t : Tr) (h : l[k]? = some t) : joinP sep ((l.take (k + 1)).map prT) = joinP sep ((l.take k).map prT) ++ ((if k = 0 then [] else sep) ++ prT t) := by
 have hlt : k < l.length := by
  rcases Nat.lt_or_ge k l.length with h' | h'
  ·exact h'
  ·rw [List.getElem?_eq_none h'] at h;cases h
 rw [List.take_add_one,h]
 show joinP sep ((l.take k ++ [t]).map prT) = _
 rw [List.map_append]
 show joinP sep ((l.take k).map prT ++ [prT t]) = _
 rw [joinP_snoc];congr 2
 cases k with
 | zero => simp
 | succ k => rw [if_neg (by intro e;have h2 := congrArg List.length e;rw [List.length_map,List.length_take,List.length_nil] at h2;omega),if_neg (by simp)]
theorem join_le (sep : List Nat) (l : List Tr) : ∀ j k,(joinP sep ((l.take k).map prT)).length <= (joinP sep ((l.take (k + j)).map prT)).length
 | 0,_ => jN _
 | j + 1,k => by
  refine Nat.le_trans (join_le sep l j k) ?_
  cases h : l[k + j]? with
  | none =>
   have := List.getElem?_eq_none_iff.1 h;rw [List.take_of_length_le this,List.take_of_length_le (by omega)];exact jN _
  | some t => rw [<- Nat.add_assoc,join_take sep l (k + j) t h,List.length_append];omega
theorem nodes_any {w0 : World} (sep : List Nat) {l : List Tr} {p : Option Addr} {cap : Nat} (hk : KidC w0 l p) (g : Nat) (lb : List UInt8) (w : World) (hW : WrAt w0.heap.size g lb w) (hB : Below w0.heap.size w0 w) (hln : l.length <= 1099511627776) (hlen : lb.length + (joinP sep (l.map prT)).length <= 1048576) :
  Calls Tryz.prog 58 #[.pointer (some ⟨g,0,none⟩),.slice p l.length cap,.string (baN sep)] w fun e w' => e = .returned (.tuple #[]) /\ WrTo w0.heap.size g (lb ++ byN (joinP sep (l.map prT))) w w' := by
 have HK := qhid hk;have HW := qhid hW;have HB := qhid hB;obtain ⟨T,hT⟩ : ∃ T,T = byN (joinP sep (l.map prT)) := ⟨_,rfl⟩;rw [<- hT];have HT := qhid hT
 have HJ : Hid (∀ k,k <= l.length -> (joinP sep ((l.take k).map prT)).length <= (joinP sep (l.map prT)).length) := qhid (fun k hk => by
  have := join_le sep l (l.length - k) k
  rwa [show k + (l.length - k) = l.length by omega,List.take_length] at this)
 clear hk hW hB hT
 go_enter Tryz.func58,Tryz.ntmps58
 go_wp2_with fail
 go_loopw [10] (fun iv wr => ∃ k : Nat,k <= l.length /\ iv = .int .i64 k /\ Hid (WrTo w0.heap.size g (lb ++ byN (joinP sep ((l.take k).map prT))) w wr)) (fun iv _ => l.length - (intOf iv).toNat)
 case atStart => exact ⟨0,by omega,rfl,qhid ⟨by show WrAt _ _ (lb ++ []) _;rw [List.append_nil];exact HW.out,Below.refl _ _⟩⟩
 case round =>
  obtain ⟨k,hkl,rfl,HR⟩ := hrel
  by_cases hlt : k < l.length
  ·obtain ⟨t,ht⟩ : ∃ t,l[k]? = some t := ⟨_,List.getElem?_eq_getElem hlt⟩;obtain ⟨c,q',hp,hc,hcell,hn⟩ := HK.out k t ht;subst hp;have HBr := qhid (HB.out.trans HR.out.2);have ck : wr.cell? ⟨c,k,none⟩ = some (ndPtr q') := (HBr.out.cell (p := ⟨c,k,none⟩) hc).trans hcell;have hj := HJ.out (k + 1) (by omega);have HJT := qhid (join_take sep l k t ht);rw [HJT.out,List.length_append,List.length_append] at hj;have HN := qhid hn
   by_cases hk0 : k = 0
   ·subst hk0;rw [if_pos rfl] at hj;have NC := qhid (HN.out g _ wr HR.out.1 HBr.out (by rw [List.length_append,byN_length];simp at hj ⊢;omega));have HE : Hid (joinP sep ((l.take (0 + 1)).map prT) = joinP sep ((l.take 0).map prT) ++ prT t) := qhid (by rw [HJT.out,if_pos rfl,List.nil_append]);have H1 := HR.out.2;have HR1 := qhid H1;clear HJT ht hcell HR HN hj hn H1
    go_wp2_with fail
    refine NC.out.mono ?_;rintro e w1 ⟨rfl,hW1,hB1⟩;have HW1 := qhid hW1;have HB1 := qhid (HR1.out.trans hB1);clear hW1 hB1 NC
    go_wp2_with fail
    go_roundw
    case rel => exact ⟨0 + 1,by omega,by go_num,⟨by rw [HE.out,byN_append,<- List.append_assoc];exact HW1.out,HB1.out⟩⟩
    case measure => simp [intOf];omega
   ·rw [if_neg hk0] at hj;have WR := qhid (wr_write sep HR.out.1 (by rw [List.length_append,byN_length];omega));have HE : Hid (joinP sep ((l.take (k + 1)).map prT) = joinP sep ((l.take k).map prT) ++ (sep ++ prT t)) := qhid (by rw [HJT.out,if_neg hk0]);have hk1 : 0 < k := by omega
    have hk2 : (0 : Int) < (k : Int) := by omega
    have H1 := HR.out.2;have HR1 := qhid H1;clear HJT ht hcell HR hn hk0 H1
    go_wp2_with fail
    refine WR.out.mono ?_;rintro e w1 ⟨rfl,hW1,hB1⟩;have NC := qhid (HN.out g _ w1 hW1 (HBr.out.trans hB1) (by rw [List.length_append,List.length_append,byN_length,byN_length];omega));have HB1 := qhid (HR1.out.trans hB1);clear hW1 hB1 WR hj
    go_wp2_with fail
    refine NC.out.mono ?_;rintro e w2 ⟨rfl,hW2,hB2⟩;have HW2 := qhid hW2;have HB2 := qhid (HB1.out.trans hB2);clear hW2 hB2 NC
    go_wp2_with fail
    go_roundw
    case rel => exact ⟨k + 1,by omega,by go_num,⟨by have h := HW2.out;rw [HE.out,byN_append,byN_append];simpa only [List.append_assoc] using h,HB2.out⟩⟩
    case measure => simp [intOf];omega
  ·obtain rfl : k = l.length := by omega
   have HF : Hid (WrTo w0.heap.size g (lb ++ T) w wr) := qhid (by have h := HR.out;rw [List.take_length,<- HT.out] at h;exact h)
   go_wp2_with fail
   go_end0
   exact ⟨rfl,HF.out⟩
end
end
section
section
open Go Go.RowKit
attribute [local go_sem ↓] Go.wp_at_zero Go.wp_at_succ
attribute [local go_sem] eq4
def ndToldS (g q : Nat) (s : W4) : Nat -> Value
 | 0 => .pointer (some ⟨g,0,none⟩)
 | 1 => .pointer (some ⟨g,0,none⟩)
 | 2 => .pointer (some ⟨g,0,none⟩)
 | 3 => ndPtr q
 | 4 => ndPtr q
 | 5 => .pointer (some ⟨q,1,none⟩)
 | 6 => setVal s
 | 7 => .string (baN (setN s))
 | 8 => .tuple #[.int .i64 ((setN s).length : Int),.nilIface]
 | _ => undef
def ndToldR (g q : Nat) (lo hi : Int) (z : Bool) : Nat -> Value
 | 0 => .pointer (some ⟨g,0,none⟩)
 | 1 => .pointer (some ⟨g,0,none⟩)
 | 2 => .pointer (some ⟨g,0,none⟩)
 | 3 => ndPtr q
 | 4 => ndPtr q
 | 5 => .pointer (some ⟨q,5,none⟩)
 | 6 => .int .i64 lo
 | 7 => ndPtr q
 | 8 => ndPtr q
 | 9 => .pointer (some ⟨q,6,none⟩)
 | 10 => .int .i64 hi
 | 11 => ndPtr q
 | 12 => ndPtr q
 | 13 => .pointer (some ⟨q,7,none⟩)
 | 14 => .bool z
 | 15 => .string (baN (rcN lo hi z))
 | 16 => .tuple #[.int .i64 ((rcN lo hi z).length : Int),.nilIface]
 | _ => undef
def PrW_In_0 : Nat -> List (Nat × Nat)
 | 0 => [(0,0)]
 | 1 => [(15,1)]
 | 2 => [(16,2)]
 | 3 => [(1,0)]
 | 4 => [(18,4)]
 | 5 => [(19,5)]
 | _ => []
theorem node_set {w0 : World} {q : Nat} {s : W4} {lo hi : Int} {z : Bool} {a b : Nat} {l : List Tr} {p : Option Addr} {cap : Nat} (hq : w0.heap[q]? = some (ndOb 1 s lo hi z (.slice p l.length cap) a b)) (hf : s.fit) (hT : Tab w0) : NodeC w0 (.mk 1 s lo hi z a b l) q := by
 intro g lb w hW hB hlen;rw [prT_eq] at hlen ⊢;have HPN : prN 1 s lo hi z (l.map prT) = setN s := rfl;rw [HPN] at hlen ⊢;clear HPN;have LN := qhid (wr_len hW);have HWW := qhid hW;have HB := qhid hB;have hBs := hB.size;have hql := jS hq;have hll : (lb.length : Int) <= 1048576 := by omega
 have hle : decide ((1048576 : Int) < (lb.length : Int)) = false := jF (by omega);have HCELL : Hid (∀ X i,Below w0.heap.size w0 X -> X.cell? ⟨q,i,none⟩ = w0.cell? ⟨q,i,none⟩) := qhid (fun X i hX => hX.cell (p := ⟨q,i,none⟩) hql);have HQ := qhid hq;have n0 : w.cell? ⟨q,0,none⟩ = some (.int .i64 1) := (HCELL.out w 0 hB).trans (by rw [jC hq 0];rfl);have HFIT := qhid hf;have HTX : Hid (∀ X,Below w.heap.size w X -> Tab X) := qhid (fun X hX => hT.below (hB.trans (hX.mono hBs)) hT.lt);have HLEN := qhid (show lb.length + (setN s).length <= 1099511627776 by omega);have HBs := qhid hBs;have HC1 : Hid (∀ X,Below w.heap.size w X -> X.cell? ⟨q,1,none⟩ = some (.int .u64 s.a)) := qhid (fun X hX => (HCELL.out X 1 (HB.out.trans (hX.mono hBs))).trans (by rw [jC HQ.out 1];rfl));have HC2 : Hid (∀ X,Below w.heap.size w X -> X.cell? ⟨q,2,none⟩ = some (.int .u64 s.b)) := qhid (fun X hX => (HCELL.out X 2 (HB.out.trans (hX.mono hBs))).trans (by rw [jC HQ.out 2];rfl));have HC3 : Hid (∀ X,Below w.heap.size w X -> X.cell? ⟨q,3,none⟩ = some (.int .u64 s.c)) := qhid (fun X hX => (HCELL.out X 3 (HB.out.trans (hX.mono hBs))).trans (by rw [jC HQ.out 3];rfl));have HC4 : Hid (∀ X,Below w.heap.size w X -> X.cell? ⟨q,4,none⟩ = some (.int .u64 s.d)) := qhid (fun X hX => (HCELL.out X 4 (HB.out.trans (hX.mono hBs))).trans (by rw [jC HQ.out 4];rfl));clear hW hB hq hf hT hlen HQ HCELL
 go_enter Tryz.func37,Tryz.ntmps37
 go_wp2_with fail
 refine LN.out.mono ?_;rintro e w1 ⟨rfl,hw⟩;obtain rfl : w = w1 := hw.symm;clear LN
 go_wp2_with fail
 refine Reg.wp_region_C (ndToldS g q s) (Reg.GenC 8 (fun X => Below w.heap.size w X) (fun X => WrTo w0.heap.size g (lb ++ byN (setN s)) w X)) [0,1,2,3,4,5,6,7,8] (by rfl) (by kernel_rfl) (by kernel_rfl) ?_ ?_ ?_
 ·exact Reg.GenC.start _ _ (Below.drew (Below.refl _ _))
 ·iterate 6
   refine Reg.oC (fun listed A X hI hcl hin hun hall HS => ?_) ?_
   ·have E := hI.tf hun hall PrW_In_0;simp only [Reg.TF,PrW_In_0,ndToldS,Reg.la,Reg.lb,Reg.lc] at E;clear hI hall hcl
    go_simp
    first | rfl | exact ⟨rfl,HS.up (by decide)⟩ | (refine ⟨?_,HS.up (by decide)⟩;simp [ndToldS])
  refine Reg.oC (fun listed A X hI hcl hin hun hall HS => ?_) ?_
  ·have e20 : A.tmps[20]? = some (.pointer (some ⟨q,1,none⟩)) := hI.v hall 5 20;have hX := HS.at hcl (by kernel_rfl) hun;have c1 := HC1.out X hX;have c2 := HC2.out X hX;have c3 := HC3.out X hX;have c4 := HC4.out X hX;clear hI hall hcl;have HX := qhid hX;clear hX
   go_simp
   first | rfl | exact ⟨rfl,HS.up (by decide)⟩ | (refine ⟨?_,HS.up (by decide)⟩;simp [ndToldS])
  refine Reg.oC (fun listed A X hI hcl hin hun hall HS => ?_) ?_
  ·have e21 : A.tmps[21]? = some (setVal s) := hI.v hall 6 21;have hX := HS.at hcl (by kernel_rfl) hun;clear hI hall;have HX := qhid hX;clear hX
   go_simp
   exact (set_any s HFIT.out X (HTX.out X HX.out)).mono fun e w'' ⟨he,hb⟩ => ⟨_,he,rfl,HS.step hcl (by kernel_rfl) (by simpa using hun) (by decide) (HX.out.trans (hb.mono HX.out.size))⟩
  refine Reg.oC (fun listed A X hI hcl hin hun hall HS => ?_) ?_
  ·have e17 : A.tmps[17]? = some (.pointer (some ⟨g,0,none⟩)) := hI.v hall 2 17;have e22 : A.tmps[22]? = some (.string (baN (setN s))) := hI.v hall 7 22;have hX := HS.ahead (by simpa using hun);clear hI hall hcl;have HX := qhid hX;clear hX
   go_simp
   exact (wr_write (setN s) (HWW.out.up HX.out) HLEN.out).mono fun e w'' ⟨he,h1,h2⟩ => ⟨_,he,rfl,Reg.GenC.put hin ⟨h1,(HX.out.mono HBs.out).trans h2⟩⟩
  trivial
 ·intro X hS;have hR := hS.done (by rfl);clear hS;simp [Reg.finalTmps,Reg.dstAt,Reg.valOf,ndToldS];have HR := qhid hR;clear hR
  go_wp2_with fail
  go_end0
  exact ⟨rfl,HR.out⟩
theorem node_cap {w0 : World} {q : Nat} {s : W4} {lo hi : Int} {z : Bool} {a b : Nat} {l : List Tr} {p : Option Addr} {cap : Nat} (hq : w0.heap[q]? = some (ndOb 2 s lo hi z (.slice p l.length cap) a b)) (hl : ∃ u r,l = u :: r) (hk : KidC w0 l p) : NodeC w0 (.mk 2 s lo hi z a b l) q := by
 obtain ⟨u,r,rfl⟩ := hl;intro g lb w hW hB hlen;rw [prT_eq] at hlen ⊢;have HPN : prN 2 s lo hi z ((u :: r).map prT) = [40] ++ (prT u ++ [41]) := rfl;rw [HPN] at hlen ⊢;clear HPN;have LN := qhid (wr_len hW);have HWW := qhid hW;have HB := qhid hB;have hBs := hB.size;have hql := jS hq;have hll : (lb.length : Int) <= 1048576 := by omega
 have hle : decide ((1048576 : Int) < (lb.length : Int)) = false := jF (by omega);have HCELL : Hid (∀ X i,Below w0.heap.size w0 X -> X.cell? ⟨q,i,none⟩ = w0.cell? ⟨q,i,none⟩) := qhid (fun X i hX => hX.cell (p := ⟨q,i,none⟩) hql);have HQ := qhid hq;have n0 : w.cell? ⟨q,0,none⟩ = some (.int .i64 2) := (HCELL.out w 0 hB).trans (by rw [jC hq 0];rfl);have GR := qhid (group_any [40] hq hk g lb w hW hB (by simp at hlen ⊢;omega));clear hW hB hq hk hlen HQ HCELL
 go_enter Tryz.func37,Tryz.ntmps37
 go_wp2_with fail
 refine LN.out.mono ?_;rintro e w1 ⟨rfl,hw⟩;obtain rfl : w = w1 := hw.symm;clear LN
 go_wp2_with fail
 refine GR.out.mono ?_;rintro e w1 ⟨rfl,h1⟩;have H1 := qhid h1;clear h1 GR
 go_wp2_with fail
 go_end0
 exact ⟨rfl,H1.out⟩
theorem node_free {w0 : World} {q : Nat} {s : W4} {lo hi : Int} {z : Bool} {a b : Nat} {l : List Tr} {p : Option Addr} {cap : Nat} (hq : w0.heap[q]? = some (ndOb 3 s lo hi z (.slice p l.length cap) a b)) (hl : ∃ u r,l = u :: r) (hk : KidC w0 l p) : NodeC w0 (.mk 3 s lo hi z a b l) q := by
 obtain ⟨u,r,rfl⟩ := hl;intro g lb w hW hB hlen;rw [prT_eq] at hlen ⊢;have HPN : prN 3 s lo hi z ((u :: r).map prT) = [40,63,58] ++ (prT u ++ [41]) := rfl;rw [HPN] at hlen ⊢;clear HPN;have LN := qhid (wr_len hW);have HWW := qhid hW;have HB := qhid hB;have hBs := hB.size;have hql := jS hq;have hll : (lb.length : Int) <= 1048576 := by omega
 have hle : decide ((1048576 : Int) < (lb.length : Int)) = false := jF (by omega);have HCELL : Hid (∀ X i,Below w0.heap.size w0 X -> X.cell? ⟨q,i,none⟩ = w0.cell? ⟨q,i,none⟩) := qhid (fun X i hX => hX.cell (p := ⟨q,i,none⟩) hql);have HQ := qhid hq;have n0 : w.cell? ⟨q,0,none⟩ = some (.int .i64 3) := (HCELL.out w 0 hB).trans (by rw [jC hq 0];rfl);have GR := qhid (group_any [40,63,58] hq hk g lb w hW hB (by simp at hlen ⊢;omega));clear hW hB hq hk hlen HQ HCELL
 go_enter Tryz.func37,Tryz.ntmps37
 go_wp2_with fail
 refine LN.out.mono ?_;rintro e w1 ⟨rfl,hw⟩;obtain rfl : w = w1 := hw.symm;clear LN
 go_wp2_with fail
 refine GR.out.mono ?_;rintro e w1 ⟨rfl,h1⟩;have H1 := qhid h1;clear h1 GR
 go_wp2_with fail
 go_end0
 exact ⟨rfl,H1.out⟩
theorem node_cat {w0 : World} {q : Nat} {s : W4} {lo hi : Int} {z : Bool} {a b : Nat} {l : List Tr} {p : Option Addr} {cap : Nat} (hq : w0.heap[q]? = some (ndOb 4 s lo hi z (.slice p l.length cap) a b)) (hk : KidC w0 l p) (hln : l.length <= 1099511627776) : NodeC w0 (.mk 4 s lo hi z a b l) q := by
 intro g lb w hW hB hlen;rw [prT_eq] at hlen ⊢;have HPN : prN 4 s lo hi z (l.map prT) = joinP [] (l.map prT) := rfl;rw [HPN] at hlen ⊢;clear HPN;have LN := qhid (wr_len hW);have HWW := qhid hW;have HB := qhid hB;have hBs := hB.size;have hql := jS hq;have hll : (lb.length : Int) <= 1048576 := by omega
 have hle : decide ((1048576 : Int) < (lb.length : Int)) = false := jF (by omega);have HCELL : Hid (∀ X i,Below w0.heap.size w0 X -> X.cell? ⟨q,i,none⟩ = w0.cell? ⟨q,i,none⟩) := qhid (fun X i hX => hX.cell (p := ⟨q,i,none⟩) hql);have HQ := qhid hq;have n0 : w.cell? ⟨q,0,none⟩ = some (.int .i64 4) := (HCELL.out w 0 hB).trans (by rw [jC hq 0];rfl);have n8 : w.cell? ⟨q,8,none⟩ = some (.slice p l.length cap) := (HCELL.out w 8 hB).trans (by rw [jC hq 8];rfl);have ND := qhid (nodes_any [] (cap := cap) hk g lb w hW hB hln hlen);generalize joinP [] (l.map prT) = tx at *;clear hW hB hq hk hlen HQ HCELL
 go_enter Tryz.func37,Tryz.ntmps37
 go_wp2_with fail
 refine LN.out.mono ?_;rintro e w1 ⟨rfl,hw⟩;obtain rfl : w = w1 := hw.symm;clear LN
 go_wp2_with fail
 refine ND.out.mono ?_;rintro e w1 ⟨rfl,h1⟩;have H1 := qhid h1;clear h1 ND
 go_wp2_with fail
 go_end0
 exact ⟨rfl,H1.out⟩
theorem node_alt {w0 : World} {q : Nat} {s : W4} {lo hi : Int} {z : Bool} {a b : Nat} {l : List Tr} {p : Option Addr} {cap : Nat} (hq : w0.heap[q]? = some (ndOb 5 s lo hi z (.slice p l.length cap) a b)) (hk : KidC w0 l p) (hln : l.length <= 1099511627776) : NodeC w0 (.mk 5 s lo hi z a b l) q := by
 intro g lb w hW hB hlen;rw [prT_eq] at hlen ⊢;have HPN : prN 5 s lo hi z (l.map prT) = joinP [124] (l.map prT) := rfl;rw [HPN] at hlen ⊢;clear HPN;have LN := qhid (wr_len hW);have HWW := qhid hW;have HB := qhid hB;have hBs := hB.size;have hql := jS hq;have hll : (lb.length : Int) <= 1048576 := by omega
 have hle : decide ((1048576 : Int) < (lb.length : Int)) = false := jF (by omega);have HCELL : Hid (∀ X i,Below w0.heap.size w0 X -> X.cell? ⟨q,i,none⟩ = w0.cell? ⟨q,i,none⟩) := qhid (fun X i hX => hX.cell (p := ⟨q,i,none⟩) hql);have HQ := qhid hq;have n0 : w.cell? ⟨q,0,none⟩ = some (.int .i64 5) := (HCELL.out w 0 hB).trans (by rw [jC hq 0];rfl);have n8 : w.cell? ⟨q,8,none⟩ = some (.slice p l.length cap) := (HCELL.out w 8 hB).trans (by rw [jC hq 8];rfl);have ND := qhid (nodes_any [124] (cap := cap) hk g lb w hW hB hln hlen);generalize joinP [124] (l.map prT) = tx at *;clear hW hB hq hk hlen HQ HCELL
 go_enter Tryz.func37,Tryz.ntmps37
 go_wp2_with fail
 refine LN.out.mono ?_;rintro e w1 ⟨rfl,hw⟩;obtain rfl : w = w1 := hw.symm;clear LN
 go_wp2_with fail
 refine ND.out.mono ?_;rintro e w1 ⟨rfl,h1⟩;have H1 := qhid h1;clear h1 ND
 go_wp2_with fail
 go_end0
 exact ⟨rfl,H1.out⟩
def PrW_In_1 : Nat -> List (Nat × Nat)
 | 0 => [(0,0)]
 | 1 => [(60,1)]
 | 2 => [(61,2)]
 | 3 => [(1,0)]
 | 4 => [(63,4)]
 | 5 => [(64,5)]
 | 7 => [(1,0)]
 | 8 => [(67,8)]
 | 9 => [(68,9)]
 | 11 => [(1,0)]
 | 12 => [(71,12)]
 | 13 => [(72,13)]
 | _ => []
theorem node_rep {w0 : World} {q : Nat} {s : W4} {lo hi : Int} {z : Bool} {a b : Nat} {l : List Tr} {p : Option Addr} {cap : Nat} (hq : w0.heap[q]? = some (ndOb 6 s lo hi z (.slice p l.length cap) a b)) (hl : ∃ u r,l = u :: r) (hk : KidC w0 l p) (hc : I64 lo /\ I64 hi) (hP : TabP w0) : NodeC w0 (.mk 6 s lo hi z a b l) q := by
 obtain ⟨u,r,rfl⟩ := hl;intro g lb w hW hB hlen;rw [prT_eq] at hlen ⊢;have HPN : prN 6 s lo hi z ((u :: r).map prT) = prT u ++ rcN lo hi z := rfl;rw [HPN] at hlen ⊢;clear HPN;have LN := qhid (wr_len hW);have HWW := qhid hW;have HB := qhid hB;have hBs := hB.size;have hql := jS hq;have hll : (lb.length : Int) <= 1048576 := by omega
 have hle : decide ((1048576 : Int) < (lb.length : Int)) = false := jF (by omega);have HCELL : Hid (∀ X i,Below w0.heap.size w0 X -> X.cell? ⟨q,i,none⟩ = w0.cell? ⟨q,i,none⟩) := qhid (fun X i hX => hX.cell (p := ⟨q,i,none⟩) hql);have HQ := qhid hq;have n0 : w.cell? ⟨q,0,none⟩ = some (.int .i64 6) := (HCELL.out w 0 hB).trans (by rw [jC hq 0];rfl);obtain ⟨c,q',rfl,hcl,hcell,hn⟩ := hk 0 u rfl;have hl1 : 0 < (u :: r).length := by simp
 have n8 : w.cell? ⟨q,8,none⟩ = some (.slice (some ⟨c,0,none⟩) (u :: r).length cap) := (HCELL.out w 8 hB).trans (by rw [jC hq 8];rfl);have c0 : w.cell? ⟨c,0,none⟩ = some (ndPtr q') := (hB.cell (p := ⟨c,0,none⟩) hcl).trans hcell;rw [List.length_append] at hlen;have NC := qhid (hn g lb w hW hB (by omega));have HC := qhid hc;have HP0 := qhid hP;have HC5 : Hid (∀ X,Below w0.heap.size w0 X -> X.cell? ⟨q,5,none⟩ = some (.int .i64 lo)) := qhid (fun X hX => (HCELL.out X 5 hX).trans (by rw [jC HQ.out 5];rfl));have HC6 : Hid (∀ X,Below w0.heap.size w0 X -> X.cell? ⟨q,6,none⟩ = some (.int .i64 hi)) := qhid (fun X hX => (HCELL.out X 6 hX).trans (by rw [jC HQ.out 6];rfl));have HC7 : Hid (∀ X,Below w0.heap.size w0 X -> X.cell? ⟨q,7,none⟩ = some (.bool z)) := qhid (fun X hX => (HCELL.out X 7 hX).trans (by rw [jC HQ.out 7];rfl));generalize (u :: r).length = ln at *;clear hW hB hq hk hc hn hcell hP HQ HCELL
 go_enter Tryz.func37,Tryz.ntmps37
 go_wp2_with fail
 refine LN.out.mono ?_;rintro e w1 ⟨rfl,hw⟩;obtain rfl : w = w1 := hw.symm;clear LN
 go_wp2_with fail
 refine NC.out.mono ?_;rintro e w2 ⟨rfl,hW2,hB2⟩;have HW2 := qhid hW2;have HB2 := qhid hB2;have HBs := qhid (Nat.le_trans hBs hB2.size);have HLEN := qhid (show (lb ++ byN (prT u)).length + (rcN lo hi z).length <= 1099511627776 by rw [List.length_append,byN_length];omega);have HTX : Hid (∀ X,Below w2.heap.size w2 X -> TabP X) := qhid (fun X hX => HP0.out.below (HB.out.trans (HB2.out.trans (hX.mono HBs.out))) HP0.out.lt);have HXB : Hid (∀ X,Below w2.heap.size w2 X -> Below w0.heap.size w0 X) := qhid (fun X hX => HB.out.trans (HB2.out.trans (hX.mono HBs.out)));obtain ⟨lc,hlc⟩ : ∃ lc,lc = lb ++ byN (prT u) := ⟨_,rfl⟩;rw [<- hlc] at HW2 HLEN;have HLC := qhid hlc;clear hW2 hB2 NC n8 c0 n0 hlc
 go_wp2_with fail
 refine Reg.wp_region_C (ndToldR g q lo hi z) (Reg.GenC 16 (fun X => Below w2.heap.size w2 X) (fun X => WrTo w0.heap.size g (lc ++ byN (rcN lo hi z)) w X)) [0,1,2,3,4,5,6,7,8,9,10,11,12,13,14,15,16] (by rfl) (by kernel_rfl) (by kernel_rfl) ?_ ?_ ?_
 ·exact Reg.GenC.start _ _ (Below.drew (Below.refl _ _))
 ·iterate 6
   refine Reg.oC (fun listed A X hI hcl hin hun hall HS => ?_) ?_
   ·have E := hI.tf hun hall PrW_In_1;simp only [Reg.TF,PrW_In_1,ndToldR,Reg.la,Reg.lb,Reg.lc] at E;clear hI hall hcl
    go_simp
    first | rfl | exact ⟨rfl,HS.up (by decide)⟩ | (refine ⟨?_,HS.up (by decide)⟩;simp [ndToldR])
  refine Reg.oC (fun listed A X hI hcl hin hun hall HS => ?_) ?_
  ·have e65 : A.tmps[65]? = some (.pointer (some ⟨q,5,none⟩)) := hI.v hall 5 65;have hX := HS.at hcl (by kernel_rfl) hun;have c5 := HC5.out X (HXB.out X hX);clear hI hall hcl;have HX := qhid hX;clear hX
   go_simp
   first | rfl | exact ⟨rfl,HS.up (by decide)⟩ | (refine ⟨?_,HS.up (by decide)⟩;simp [ndToldR])
  iterate 3
   refine Reg.oC (fun listed A X hI hcl hin hun hall HS => ?_) ?_
   ·have E := hI.tf hun hall PrW_In_1;simp only [Reg.TF,PrW_In_1,ndToldR,Reg.la,Reg.lb,Reg.lc] at E;clear hI hall hcl
    go_simp
    first | rfl | exact ⟨rfl,HS.up (by decide)⟩ | (refine ⟨?_,HS.up (by decide)⟩;simp [ndToldR])
  refine Reg.oC (fun listed A X hI hcl hin hun hall HS => ?_) ?_
  ·have e69 : A.tmps[69]? = some (.pointer (some ⟨q,6,none⟩)) := hI.v hall 9 69;have hX := HS.at hcl (by kernel_rfl) hun;have c6 := HC6.out X (HXB.out X hX);clear hI hall hcl;have HX := qhid hX;clear hX
   go_simp
   first | rfl | exact ⟨rfl,HS.up (by decide)⟩ | (refine ⟨?_,HS.up (by decide)⟩;simp [ndToldR])
  iterate 3
   refine Reg.oC (fun listed A X hI hcl hin hun hall HS => ?_) ?_
   ·have E := hI.tf hun hall PrW_In_1;simp only [Reg.TF,PrW_In_1,ndToldR,Reg.la,Reg.lb,Reg.lc] at E;clear hI hall hcl
    go_simp
    first | rfl | exact ⟨rfl,HS.up (by decide)⟩ | (refine ⟨?_,HS.up (by decide)⟩;simp [ndToldR])
  refine Reg.oC (fun listed A X hI hcl hin hun hall HS => ?_) ?_
  ·have e73 : A.tmps[73]? = some (.pointer (some ⟨q,7,none⟩)) := hI.v hall 13 73;have hX := HS.at hcl (by kernel_rfl) hun;have c7 := HC7.out X (HXB.out X hX);clear hI hall hcl;have HX := qhid hX;clear hX
   go_simp
   first | rfl | exact ⟨rfl,HS.up (by decide)⟩ | (refine ⟨?_,HS.up (by decide)⟩;simp [ndToldR])
  refine Reg.oC (fun listed A X hI hcl hin hun hall HS => ?_) ?_
  ·have e66 : A.tmps[66]? = some (.int .i64 lo) := hI.v hall 6 66;have e70 : A.tmps[70]? = some (.int .i64 hi) := hI.v hall 10 70;have e74 : A.tmps[74]? = some (.bool z) := hI.v hall 14 74;have hX := HS.at hcl (by kernel_rfl) hun;clear hI hall;have HX := qhid hX;clear hX
   go_simp
   exact (pcount_any lo hi z HC.out.1 HC.out.2 X (HTX.out X HX.out)).mono fun e w'' ⟨he,hb⟩ => ⟨_,he,rfl,HS.step hcl (by kernel_rfl) (by simpa using hun) (by decide) (HX.out.trans (hb.mono HX.out.size))⟩
  refine Reg.oC (fun listed A X hI hcl hin hun hall HS => ?_) ?_
  ·have e62 : A.tmps[62]? = some (.pointer (some ⟨g,0,none⟩)) := hI.v hall 2 62;have e75 : A.tmps[75]? = some (.string (baN (rcN lo hi z))) := hI.v hall 15 75;have hX := HS.ahead (by simpa using hun);clear hI hall hcl;have HX := qhid hX;clear hX
   go_simp
   exact (wr_write (rcN lo hi z) (HW2.out.up HX.out) HLEN.out).mono fun e w'' ⟨he,h1,h2⟩ => ⟨_,he,rfl,Reg.GenC.put hin ⟨h1,HB2.out.trans ((HX.out.mono HBs.out).trans h2)⟩⟩
  trivial
 ·intro X hS;have hR := hS.done (by rfl);clear hS;simp [Reg.finalTmps,Reg.dstAt,Reg.valOf,ndToldR];have HR := qhid hR;clear hR
  go_wp2_with fail
  go_end0
  refine ⟨rfl,?_⟩;have h := HR.out;rw [HLC.out,List.append_assoc,<- byN_append] at h;exact h
theorem node_other {w0 : World} {q : Nat} {k : Int} {s : W4} {lo hi : Int} {z : Bool} {a b : Nat} {l : List Tr} {p : Option Addr} {cap : Nat} (hq : w0.heap[q]? = some (ndOb k s lo hi z (.slice p l.length cap) a b)) (k1 : ¬ k = 1) (k2 : ¬ k = 2) (k3 : ¬ k = 3) (k4 : ¬ k = 4) (k5 : ¬ k = 5) (k6 : ¬ k = 6) : NodeC w0 (.mk k s lo hi z a b l) q := by
 intro g lb w hW hB hlen;rw [prT_eq] at hlen ⊢;have HPN : prN k s lo hi z (l.map prT) = [] := by unfold prN;rw [if_neg k1,if_neg k2,if_neg k3,if_neg k4,if_neg k5,if_neg k6]
 rw [HPN] at hlen ⊢;clear HPN;have LN := qhid (wr_len hW);have HWW := qhid hW;have HB := qhid hB;have hBs := hB.size;have hql := jS hq;have hll : (lb.length : Int) <= 1048576 := by omega
 have hle : decide ((1048576 : Int) < (lb.length : Int)) = false := jF (by omega);have HCELL : Hid (∀ X i,Below w0.heap.size w0 X -> X.cell? ⟨q,i,none⟩ = w0.cell? ⟨q,i,none⟩) := qhid (fun X i hX => hX.cell (p := ⟨q,i,none⟩) hql);have HQ := qhid hq;have n0 : w.cell? ⟨q,0,none⟩ = some (.int .i64 k) := (HCELL.out w 0 hB).trans (by rw [jC hq 0];rfl);have b1 : ((k : Int) == 1) = false := by simpa using k1
 have b2 : ((k : Int) == 2) = false := by simpa using k2
 have b3 : ((k : Int) == 3) = false := by simpa using k3
 have b4 : ((k : Int) == 4) = false := by simpa using k4
 have b5 : ((k : Int) == 5) = false := by simpa using k5
 have b6 : ((k : Int) == 6) = false := by simpa using k6
 clear hW hB hq k1 k2 k3 k4 k5 k6 hlen HQ HCELL
 go_enter Tryz.func37,Tryz.ntmps37
 go_wp2_with fail
 refine LN.out.mono ?_;rintro e w1 ⟨rfl,hw⟩;obtain rfl : w = w1 := hw.symm;clear LN
 go_wp2_with fail
 go_end0
 refine ⟨rfl,?_,Below.refl _ _⟩
 show WrAt _ _ (lb ++ []) _
 rw [List.append_nil];exact HWW.out
theorem node_any {w0 : World} (hT : Tab w0) (hP : TabP w0) {A : Nat -> Prop} {t : Tr} (hw : WfT t) : ∀ (q : Nat),NdAt w0 A t (ndPtr q) -> trSize t <= 1099511627776 -> NodeC w0 t q := by
 induction hw with
 | node k s lo hi z a b l hs hl hc _ ih =>
  intro q hN hsz;obtain ⟨q',p,cap,e,_,hq,hkid⟩ := hN.head;injection e with e;injection e with e;injection e with e;subst e;have hts := trSize_eq (.mk k s lo hi z a b l)
  have hk : KidC w0 l p := by
   intro i t hti;obtain ⟨c,v,h1,h2,h3,h4⟩ := hkid i t hti;obtain ⟨c',rfl⟩ := h4.pointer;have hm := trSize_mem (List.mem_of_getElem? hti);have hts' : trSize (.mk k s lo hi z a b l) = 1 + trSizes l := hts;exact ⟨c,c',h1,h2,h3,ih i t hti c' h4 (by omega)⟩
  have hln : l.length <= 1099511627776 := by
   have := trSizes_len l;have hts' : trSize (.mk k s lo hi z a b l) = 1 + trSizes l := hts;omega
  by_cases k1 : k = 1
  ·subst k1;exact node_set hq (hs rfl) hT
  by_cases k2 : k = 2
  ·subst k2;exact node_cap hq (hl (by simp)) hk
  by_cases k3 : k = 3
  ·subst k3;exact node_free hq (hl (by simp)) hk
  by_cases k4 : k = 4
  ·subst k4;exact node_cat hq hk hln
  by_cases k5 : k = 5
  ·subst k5;exact node_alt hq hk hln
  by_cases k6 : k = 6
  ·subst k6;exact node_rep hq (hl (by simp)) hk (hc rfl) hP
  exact node_other hq k1 k2 k3 k4 k5 k6
end
end
section
section
open Go Go.RowKit
attribute [local go_sem ↓] Go.wp_at_zero Go.wp_at_succ
theorem wr_fresh (w : World) : WrAt w.heap.size w.heap.size [] (w.alloc (.cells #[.pointer none,.slice none 0 0] 82)) :=
 .inl ⟨jN _,.slice none 0 0,heap_new w _,⟨by simp,.inl ⟨rfl,rfl⟩⟩,by simp [Value.ownBlock]⟩
structure PrOK (t : Tr) : Prop where
 wf : WfT t
 right : foldR rightN t <= 200
 size : trSize t <= 1099511000000
 len : (prT t).length <= 1048576
theorem print_any {A : Nat -> Prop} {t : Tr} {q : Nat} (w : World) (hN : NdAt w A t (ndPtr q)) (hT : Tab w) (hP : TabP w) (ht : PrOK t) :
  Calls Tryz.prog 19 #[ndPtr q] w fun e w' => e = .returned (.tuple #[.string (baN (prT t)),.int .i64 0]) /\ Below w.heap.size w w' := by
 have RI := qhid (sright_any A t q w hN ht.size);rw [jT ht.right] at RI;have hlen := ht.len;have ND := qhid (fun (w1 : World) (hb : Below w.heap.size w w1) => node_any (w0 := w1) (hT.up hb) (hP.up hb) ht.wf q (hN.up hb) (by have := ht.size;omega))
 have HE : Hid (∀ X Y b,NodeC X t q -> WrAt X.heap.size b [] Y -> Below X.heap.size X Y -> Calls Tryz.prog 37 #[.pointer (some ⟨b,0,none⟩),ndPtr q] Y fun e w' => e = .returned (.tuple #[]) /\ WrTo X.heap.size b (byN (prT t)) Y w') := qhid (fun X Y b h h1 h2 => by
  have := h b [] Y h1 h2 (by simpa using hlen)
  simpa using this)
 obtain ⟨l,hl⟩ : ∃ l,l = byN (prT t) := ⟨_,rfl⟩;have hln : (l.length : Int) <= 1048576 := by rw [hl,byN_length];omega
 have hle : decide ((1048576 : Int) < (l.length : Int)) = false := jF (by omega);rw [show baN (prT t) = ⟨l.toArray⟩ by rw [hl];rfl];rw [<- hl] at HE;clear hN hT hP ht hlen hl
 go_enter Tryz.func19,Tryz.ntmps19
 go_wp2_with fail
 refine RI.out.mono ?_;rintro e w1 ⟨rfl,hb1⟩;have NC := qhid (HE.out w1 _ _ (ND.out w1 hb1) (wr_fresh w1) (below1 w1 _));have HB1 := qhid hb1;clear hb1 RI HE ND
 go_wp2_with fail
 refine NC.out.mono ?_;rintro e w2 ⟨rfl,hW2,hB2⟩;have LN := qhid (wr_len hW2);have hBs : w1.heap.size <= w2.heap.size := Nat.le_trans (below1 w1 _).size hB2.size;have ST := qhid (bd_string w1.heap.size _ l w2 hW2 hBs);have HB2 := qhid (HB1.out.trans (((below1 w1 _).trans hB2).mono HB1.out.size));have HB1s := qhid HB1.out.size;clear hW2 hB2 NC hBs
 go_wp2_with fail
 refine LN.out.mono ?_;rintro e w3 ⟨rfl,hw⟩;obtain rfl : w2 = w3 := hw.symm;clear LN
 go_wp2_with fail
 refine ST.out.mono ?_;rintro e w4 ⟨rfl,hb4⟩;have HB4 := qhid (HB2.out.trans (hb4.mono HB1s.out));clear hb4
 go_wp2_with fail
 go_ret2
 exact ⟨rfl,HB4.out⟩
theorem print_bad (v : Value) (w : World) (hR : Calls Tryz.prog 17 #[v] w fun e w' => e = .returned (.bool false) /\ Below w.heap.size w w') :
  Calls Tryz.prog 19 #[v] w fun e w' => e = .returned (.tuple #[.string ⟨#[]⟩,.int .i64 1]) /\ Below w.heap.size w w' := by
 have RI := qhid hR;clear hR
 go_enter Tryz.func19,Tryz.ntmps19
 go_wp2_with fail
 refine RI.out.mono ?_;rintro e w1 ⟨rfl,hb1⟩;have HB1 := qhid hb1;clear hb1 RI
 go_wp2_with fail
 go_ret2
 exact ⟨rfl,HB1.out⟩
theorem normal_any (s : ByteArray) (t : Tr) (hs : s.size <= 1048576) (w : World) (hT : Tab w) (hP : TabP w) (hp : parseR s = (0,0,some t)) (ht : PrOK t) :
  Calls Tryz.prog 20 #[.string s] w fun e w' => e = .returned (.tuple #[.string (baN (prT t)),.int .i64 0,.int .i64 0]) /\ Below w.heap.size w w' := by
 have PA := qhid (parse_any s hs w hT);rw [hp] at PA;have PR := qhid (fun w1 (hb : Below w.heap.size w w1) q (hN : NdAt w1 (fun b => w.heap.size <= b) t (ndPtr q)) => print_any w1 hN (hT.up hb) (hP.up hb) ht);generalize baN (prT t) = tx at *;clear hT hP hp ht hs
 go_enter Tryz.func20,Tryz.ntmps20
 go_wp2_with fail
 refine PA.out.mono ?_;rintro e w1 ⟨v,rfl,hv,hb⟩;have hv : NdAt w1 (fun b => w.heap.size <= b) t v := hv;obtain ⟨q,rfl⟩ := hv.pointer;have P2 := qhid (PR.out w1 hb q hv);have HB := qhid hb;clear hv hb PA PR
 go_wp2_with fail
 refine P2.out.mono ?_;rintro e w2 ⟨rfl,hb2⟩;have HB2 := qhid (HB.out.trans (hb2.mono HB.out.size));clear hb2 P2
 go_wp2_with fail
 exact bodyPost_ret (v := .tuple #[.string tx,.int .i64 0,.int .i64 0]) (by simp [results,Tryz.results20,go_sem]) rfl ⟨rfl,HB2.out⟩
def prExS : ByteArray := ⟨#[40,63,58,97,124,91,98,93,41,123,49,44,125]⟩
def prExT : Tr := .mk 6 noW 1 (-1) false 0 13 [.mk 3 noW 0 0 false 0 9 [.mk 5 noW 0 0 false 3 8 [.mk 1 (oneW 97) 0 0 false 3 4 [],.mk 1 (oneW 98) 0 0 false 5 8 []]]]
theorem prEx_is : parseR prExS = (0,0,some prExT) := by kernel_rfl
theorem prEx_pr : baN (prT prExT) = ⟨#[40,63,58,97,124,98,41,43]⟩ := by kernel_rfl
theorem wf_leaf (c a b : Nat) : WfT (.mk 1 (oneW c) 0 0 false a b []) := .node _ _ _ _ _ _ _ _ (fun _ => oneW_fit c) (fun h => by simp at h) (fun h => by simp at h) (fun i t h => by simp at h)
theorem prEx_ok : PrOK prExT := by
 refine ⟨?_,by decide +kernel,by decide +kernel,by decide +kernel⟩;refine .node _ _ _ _ _ _ _ _ (fun h => by simp at h) (fun _ => ⟨_,_,rfl⟩) (fun _ => ⟨.small (by decide) (by decide),.small (by decide) (by decide)⟩) (fun i t h => ?_);obtain rfl : i = 0 := by have := (List.getElem?_eq_some_iff.1 h).1;simpa using this
 obtain rfl := Option.some.inj h;refine .node _ _ _ _ _ _ _ _ (fun h => by simp at h) (fun _ => ⟨_,_,rfl⟩) (fun h => by simp at h) (fun i t h => ?_);obtain rfl : i = 0 := by have := (List.getElem?_eq_some_iff.1 h).1;simpa using this
 obtain rfl := Option.some.inj h;refine .node _ _ _ _ _ _ _ _ (fun h => by simp at h) (fun h => by simp at h) (fun h => by simp at h) (fun i t h => ?_)
 match i,h with
 | 0,h => obtain rfl := Option.some.inj h;exact wf_leaf 97 3 4
 | 1,h => obtain rfl := Option.some.inj h;exact wf_leaf 98 5 8
 | i + 2,h => simp at h
theorem pr_awake (w : World) (hT : Tab w) (hP : TabP w) : Calls Tryz.prog 18 #[] w fun e w' => e = .returned (.bool true) /\ Below w.heap.size w w' := by
 have NO := qhid (normal_any prExS prExT (by decide) w hT hP prEx_is prEx_ok);rw [prEx_pr] at NO;clear hT hP
 go_enter Tryz.func18,Tryz.ntmps18
 go_wp2_with fail
 refine NO.out.mono ?_;rintro e w1 ⟨rfl,hb⟩;have HB := qhid hb;clear hb NO
 go_wp2_with fail
 go_ret
 exact ⟨rfl,HB.out⟩
end
end
end Go.Proofs.YtaliapknkpdmdaaGreatDoor
