/- A part of the proof. -/
import Derived.Test.YtaliapknkpdmdaaGreatDoorPrW
import Derived.Test.YtaliapknkpdmdaaGreatDoorRa
import Derived.Test.YtaliapknkpdmdaaGreatDoorPrK
set_option maxRecDepth 100000
set_option maxHeartbeats 16000000
namespace Go.Proofs.YtaliapknkpdmdaaGreatDoor
section
section
open Go Go.RowKit
attribute [local go_sem ↓] Go.wp_at_zero Go.wp_at_succ
theorem pdd_small {u : Nat} (h : u < 10) : Lib.decDigits u = [UInt8.ofNat (48 + u)] := Lib.decDigits_one h
theorem pdd_big {u : Nat} (h : ¬ u < 10) : Lib.decDigits u = Lib.decDigits (u / 10) ++ [UInt8.ofNat (48 + u % 10)] := by rw [Lib.decDigits,dif_neg h]
def PTensRel (n m : Nat) (r : List UInt8) : Prop := (r = [] /\ m = n) \/ (r ≠ [] /\ Lib.decDigits n = (if m = 0 then [] else Lib.decDigits m) ++ r)
theorem PTensRel.next {n m : Nat} {r : List UInt8} (h : PTensRel n m r) (hm : r = [] \/ 0 < m) : PTensRel n (m / 10) (UInt8.ofNat (48 + m % 10) :: r) := by
 have key : Lib.decDigits m = (if m / 10 = 0 then [] else Lib.decDigits (m / 10)) ++ [UInt8.ofNat (48 + m % 10)] := by
  by_cases h10 : m < 10
  ·rw [pdd_small h10,if_pos (by omega),show m % 10 = m by omega];rfl
  ·rw [pdd_big h10,if_neg (by omega)]
 rcases h with ⟨h1,h2⟩ | ⟨h1,h2⟩
 ·subst h1 h2;exact .inr ⟨by simp,key⟩
 ·have hm0 : 0 < m := by
   rcases hm with h | h
   ·exact absurd h h1
   ·exact h
  refine .inr ⟨by simp,?_⟩;rw [h2,if_neg (by omega),key];simp
theorem PTensRel.len {n m : Nat} {r : List UInt8} (h : PTensRel n m r) (hn : n < 18446744073709551616) : r.length <= 20 := by
 rcases h with ⟨h1,_⟩ | ⟨_,h2⟩
 ·rw [h1];simp
 ·have e := congrArg List.length h2;rw [Lib.decDigits_length,List.length_append] at e;have := Lib.nDigits_le20 n hn;omega
def ptensLeft (a b : Value) : Nat := (intOf a).toNat + (match b with
 | .string s => if s.size = 0 then 1 else 0
 | _ => 0)
theorem ptens_eq (m : Nat) (s : ByteArray) : ptensLeft (.int .i64 (m : Int)) (.string s) = m + if s.size = 0 then 1 else 0 := by
 simp [ptensLeft,intOf]
theorem pstr_one (d : Nat) : strOfNums [((48 + d : Nat) : Int)] = ⟨#[UInt8.ofNat (48 + d)]⟩ := rfl
theorem pcons_str (c : UInt8) (r : List UInt8) : (⟨#[c]⟩ : ByteArray) ++ ⟨r.toArray⟩ = ⟨(c :: r).toArray⟩ := by
 apply ByteArray.ext;simp
theorem prefnum_pos (n : Nat) (hn : n <= 9223372036854775807) (w : World) :
  Calls Tryz.prog 62 #[.int .i64 (n : Int)] w fun e w' => e = .returned (.string ⟨(Lib.decDigits n).toArray⟩) /\ Below w.heap.size w w' := by
 have HLen := qhid (fun m r (h : PTensRel n m r) => h.len (by omega));have HNb := qhid hn;clear hn
 go_enter Tryz.func62,Tryz.ntmps62
 go_wp2_with fail
 go_loopw [0,3] (fun a b wr => ∃ (m : Nat) (r : List UInt8),a = .int .i64 m /\ b = .string ⟨r.toArray⟩ /\ m <= n /\ PTensRel n m r /\ Below w.heap.size w wr) (fun a b _ => ptensLeft a b)
 case atStart => exact ⟨n,[],rfl,rfl,jN _,.inl ⟨rfl,rfl⟩,Below.refl _ _⟩
 case round =>
  obtain ⟨m,r,rfl,rfl,hmn,hrel,hbe⟩ := hrel;have HR := qhid hrel;have HBE := qhid hbe;have hlen := HLen.out m r hrel;clear hrel hbe
  by_cases hgo : r = [] \/ 0 < m
  ·have HN := qhid (HR.out.next hgo);have e10 : (m : Int) % 10 = ((m % 10 : Nat) : Int) := rfl;have e11 : (m : Int).tmod 10 = ((m % 10 : Nat) : Int) := rfl;have e12 : (m : Int) / 10 = ((m / 10 : Nat) : Int) := rfl;have hq : m % 10 < 10 := by omega
   have hd : m / 10 <= n := by omega
   have HM : Hid (m / 10 < m \/ m / 10 = 0) := qhid (by omega);generalize m % 10 = q at *;generalize m / 10 = d at *;have HWD : Hid (wrap64 (d : Int) = (d : Int)) := qhid (by unfold wrap64;have := HNb.out;omega);have hcv : (convert 78 9 (.slice (some ⟨wr.heap.size,0,none⟩) 1 1)).run Tryz.prog (wr.alloc (.cells #[.int .u8 (48 + (q : Int))] 5)) = .ok (.string (strOfNums [48 + (q : Int)])) (wr.alloc (.cells #[.int .u8 (48 + (q : Int))] 5)) := conv_bytes (bytes_one wr (48 + (q : Int)) 5);have HB : Hid (Below w.heap.size w (wr.alloc (.cells #[.int .u8 (48 + (q : Int))] 5))) := qhid (HBE.out.alloc HBE.out.size _)
   have HA : Hid (strOfNums [48 + (q : Int)] ++ ⟨r.toArray⟩ = ⟨(UInt8.ofNat (48 + q) :: r).toArray⟩) := qhid (by
    rw [show (48 + (q : Int)) = ((48 + q : Nat) : Int) from by omega,pstr_one,pcons_str])
   have h1 : (strOfNums [48 + (q : Int)]).size = 1 := strOfNums_size _;have h2 : (⟨r.toArray⟩ : ByteArray).size = r.length := by simp [ByteArray.size]
   cases r with
   | nil =>
    clear hgo
    go_wp2_with fail
    rw [HWD.out];refine ⟨⟨d,[UInt8.ofNat (48 + q)],rfl,?_,hd,HN.out,HB.out⟩,?_⟩
    ·exact congrArg Value.string HA.out
    ·have := HM.out;rw [ptens_eq,ptens_eq,if_neg (by simp [strOfNums_size]),if_pos (by rfl)];omega
   | cons c r' =>
    have hm0 : 0 < m := by
     rcases hgo with h | h
     ·cases h
     ·exact h
    clear hgo
    go_wp2_with fail
    rw [HWD.out];refine ⟨⟨d,UInt8.ofNat (48 + q) :: c :: r',rfl,?_,hd,HN.out,HB.out⟩,?_⟩
    ·exact congrArg Value.string HA.out
    ·have := HM.out;rw [ptens_eq,ptens_eq,if_neg (by rw [ByteArray.size_append];omega),if_neg (by rw [h2];simp)];omega
  ·have hm0 : m = 0 := by omega
   have hr0 : r ≠ [] := fun e => hgo (.inl e)
   have HE : Hid (Lib.decDigits n = r) := qhid (by
    rcases HR.out with ⟨h1,_⟩ | ⟨_,h2⟩
    ·exact absurd h1 hr0
    ·rw [h2,if_pos hm0];rfl)
   subst hm0
   cases r with
   | nil => exact absurd rfl hr0
   | cons c r' =>
    clear hgo hr0
    go_wp2_with fail
    go_ret
    refine ⟨?_,HBE.out⟩;rw [HE.out];rfl
theorem itS_min : itS (-9223372036854775808) = ⟨#[45,57,50,50,51,51,55,50,48,51,54,56,53,52,55,55,53,56,48,56]⟩ := by
 unfold itS;rw [show (-9223372036854775808 : Int) = -((9223372036854775808 : Nat) : Int) from rfl,Lib.itoa_neg _ (by decide)];congr 1;congr 1;congr 1
 repeat (first | rw [pdd_big (by decide)] | rw [pdd_small (by decide)])
 decide
theorem prefnum_any (n : Int) (h0 : -9223372036854775808 <= n) (h1 : n <= 9223372036854775807) (w : World) :
  Calls Tryz.prog 62 #[.int .i64 n] w fun e w' => e = .returned (.string (itS n)) /\ Below w.heap.size w w' := by
 by_cases hn : n < 0
 ·by_cases hmin : n = -9223372036854775808
  ·subst hmin;rw [show itS (-9223372036854775808) = ⟨#[45,57,50,50,51,51,55,50,48,51,54,56,53,52,55,55,53,56,48,56]⟩ from itS_min]
   go_enter Tryz.func62,Tryz.ntmps62
   go_wp2_with fail
   go_ret
   exact ⟨rfl,Below.refl _ _⟩
  ·obtain ⟨k,hk⟩ : ∃ k : Nat,n = -(k : Int) := ⟨n.natAbs,by omega⟩;have hk1 : 1 <= k := by omega
   have HC := qhid (fun W => prefnum_pos k (by omega) W);have hd : (n == -9223372036854775808) = false := beq_eq_false_iff_ne.2 hmin;have hneg : IntKind.i64.wrap (-n) = (k : Int) := by simp [IntKind.wrap,IntKind.signed,IntKind.bits];omega
   have hneg2 : wrap64 (-n) = (k : Int) := by unfold wrap64;omega
   have HS : Hid ((⟨#[45]⟩ : ByteArray) ++ ⟨(Lib.decDigits k).toArray⟩ = itS n) := qhid (by
    rw [pcons_str,hk];unfold itS;rw [Lib.itoa_neg k hk1])
   have hsz : (⟨(Lib.decDigits k).toArray⟩ : ByteArray).size <= 20 := by
    show (Lib.decDigits k).toArray.size <= 20
    rw [List.size_toArray,Lib.decDigits_length];exact Lib.nDigits_le20 k (by omega)
   generalize (⟨(Lib.decDigits k).toArray⟩ : ByteArray) = t at *;have hlt : decide (n < 0) = true := jT hn;clear hk hmin h0 h1 hk1
   go_enter Tryz.func62,Tryz.ntmps62
   go_wp2_with fail
   refine (HC.out _).mono ?_;rintro e w1 ⟨rfl,hb⟩;have HB := qhid hb;clear hb
   go_wp2_with fail
   go_ret
   exact ⟨congrArg (fun s => Ending.returned (Value.string s)) HS.out,HB.out⟩
 ·obtain ⟨k,rfl⟩ := Int.eq_ofNat_of_zero_le (show 0 <= n by omega);have e : itS (k : Int) = ⟨(Lib.decDigits k).toArray⟩ := by unfold itS;rw [Lib.itoa_nonneg]
  rw [e];exact prefnum_pos k (by omega) w
open Go Go.RowKit
attribute [local go_sem ↓] Go.wp_at_zero Go.wp_at_succ
def pinB (S : ByteArray) (c : Nat) : Nat -> Bool
 | 0 => false
 | k + 1 => pinB S c k || decide (bAt S k = c)
theorem pinB_yes {S : ByteArray} {c : Nat} : ∀ {n k : Nat},k < n -> bAt S k = c -> pinB S c n = true := by
 intro n
 induction n with
 | zero => intro k h;omega
 | succ n ih =>
  intro k h hc;unfold pinB
  by_cases e : k = n
  ·subst e;simp [hc]
  ·rw [ih (by omega) hc];rfl
theorem prefin_any (S : ByteArray) (c : Nat) (hS : S.size <= 1099511627776) (w : World) :
  Calls Tryz.prog 87 #[.string S,.int .i64 (c : Int)] w fun e w' => e = .returned (.bool (pinB S c S.size)) /\ w' = w := by
 go_enter Tryz.func87,Tryz.ntmps87
 go_wp2_with fail
 go_loopw [5] (fun i wr => ∃ k : Nat,k <= S.size /\ i = .int .i64 k /\ wr = w /\ Hid (pinB S c k = false)) (fun i _ => S.size - (intOf i).toNat)
 case atStart => exact ⟨0,by omega,rfl,rfl,qhid rfl⟩
 case round =>
  obtain ⟨k,hk,rfl,rfl,HN⟩ := hrel
  by_cases hlk : k < S.size
  ·have hw : wrap64 ((S[k]'hlk).toNat : Int) = ((S[k]'hlk).toNat : Int) := by have := (S[k]'hlk).toNat_lt;unfold wrap64;omega
   by_cases hc : bAt S k = c
   ·have HF := qhid (pinB_yes hlk hc);have hc2 : (((S[k]'hlk).toNat : Int) == (c : Int)) = true := by rw [<- hc,bAt_in hlk];simp
    clear hc
    go_wp2_with fail
    go_ret
    exact ⟨by rw [HF.out];rfl,rfl⟩
   ·have HK : Hid (pinB S c (k + 1) = false) := qhid (by unfold pinB;rw [HN.out,jF hc];rfl);have hc2 : (((S[k]'hlk).toNat : Int) == (c : Int)) = false := by rw [bAt_in hlk] at hc;simp;omega
    clear hc
    go_wp2_with fail
    go_roundw
    case rel => exact ⟨k + 1,by omega,by go_num,by first | rfl | trivial,HK⟩
    case measure => simp [intOf];omega
  ·obtain rfl : k = S.size := by omega
   go_wp2_with fail
   go_ret
   exact ⟨by rw [HN.out];rfl,rfl⟩
abbrev plain16 : ByteArray := ⟨#[32,33,34,35,37,38,39,44,58,59,60,61,62,64,95,126]⟩
abbrev them16 : ByteArray := ⟨#[92,124,40,41,91,93,123,125,42,43,63,46,94,36,47,45]⟩
theorem plain_in (b : Nat) (hb : b < 256) : (pinB plain16 b 16 || decide (b = 96)) = plainB b := by
 have hall : ∀ n : Fin 256,(pinB plain16 n.val 16 || decide (n.val = 96)) = plainB n.val := by decide +kernel
 exact hall ⟨b,hb⟩
theorem them_in (b : Nat) (hb : b < 256) : pinB them16 b 16 = themB b := by
 have hall : ∀ n : Fin 256,pinB them16 n.val 16 = themB n.val := by decide +kernel
 exact hall ⟨b,hb⟩
theorem dig_num (q : Nat) (hq : q < 16) (h : q < digS.size) : ((digS[q]'h).toNat : Int) = (hexN q : Int) := by
 have hall : ∀ n : Fin 16,(digS.data[n.val]!).toNat = hexN n.val := by decide +kernel
 have h1 := hall ⟨q,hq⟩
 have h2 : digS.data[q]! = digS[q]'h := by
  rw [getElem!_pos digS.data q h];rfl
 have h1 : (digS.data[q]!).toNat = hexN q := h1;rw [h2] at h1;rw [h1]
theorem two_conv (x y : Int) (g : Nat) (W : World) (hg : g = W.heap.size) : (convert 78 9 (.slice (some ⟨g,0,none⟩) 2 2)).run Tryz.prog (W.alloc (.cells #[.int .u8 x,.int .u8 y] 5)).drew = .ok (.string (strOfNums [x,y])) (W.alloc (.cells #[.int .u8 x,.int .u8 y] 5)).drew := by
 subst hg;refine conv_bytes (.inr ⟨W.heap.size,2,rfl,by show W.heap.size < (W.alloc _).heap.size;simp,fun i hi => ?_⟩);have hi : i < 2 := hi
 match i,hi with
 | 0,_ => simp [go_sem]
 | 1,_ => simp [go_sem]
theorem rbyte_lo_in (b : Nat) (_hb : b < 256) (_hr : b < 48) (h1 : pinB plain16 b 16 = true) (w : World) :
  Calls Tryz.prog 61 #[.int .i64 (b : Int)] w fun e w' => e = .returned (.string (baN (brN b))) /\ Below w.heap.size w w' := by
 have hcv := itself_conv b w;have hbl := qhid ((Below.refl w.heap.size w).alloc (jN _) (.cells #[.int .u8 ((b : Nat) : Int)] 5));have C1 := qhid (fun W => prefin_any plain16 b (by decide) W);rw [show plain16.size = 16 from rfl,h1] at C1
 have HF : Hid (baN (brN b) = ⟨#[UInt8.ofNat b]⟩) := qhid (by
  unfold brN;have hp := plain_in b _hb;rw [h1] at hp;rw [if_pos (by rw [<- hp];simp)]
  rfl)
 have d0 : decide ((48 : Int) <= (b : Int)) = false := jF (by omega);have d2 : decide ((97 : Int) <= (b : Int)) = false := jF (by omega);have d4 : decide ((65 : Int) <= (b : Int)) = false := jF (by omega);have hb2 : (b : Int) <= 255 := by omega
 clear _hb _hr h1
 go_enter Tryz.func61,Tryz.ntmps61
 go_wp2_with fail
 refine (C1.out _).mono ?_;rintro e w1 ⟨rfl,rfl⟩
 go_wp2_with fail
 go_ret
 exact ⟨by rw [HF.out] <;> rfl,hbl.out⟩
theorem rbyte_lo_them (b : Nat) (_hb : b < 256) (_hr : b < 48) (h1 : pinB plain16 b 16 = false) (h6 : b ≠ 96) (h2 : pinB them16 b 16 = true) (w : World) :
  Calls Tryz.prog 61 #[.int .i64 (b : Int)] w fun e w' => e = .returned (.string (baN (brN b))) /\ Below w.heap.size w w' := by
 have hcv := itself_conv b w;have hbl := qhid ((Below.refl w.heap.size w).alloc (jN _) (.cells #[.int .u8 ((b : Nat) : Int)] 5));have C1 := qhid (fun W => prefin_any plain16 b (by decide) W);rw [show plain16.size = 16 from rfl,h1] at C1;have C2 := qhid (fun W => prefin_any them16 b (by decide) W);rw [show them16.size = 16 from rfl,h2] at C2
 have hcl : (alnB b || plainB b) = false := by
  have ha : alnB b = false := by unfold alnB;simp;omega
  have hp := plain_in b _hb;rw [h1,jF h6] at hp;rw [ha,<- hp];rfl
 have htm := them_in b _hb;rw [h2] at htm;have HF : Hid (baN (brN b) = ⟨#[92]⟩ ++ ⟨#[UInt8.ofNat b]⟩) := qhid (by unfold brN;rw [if_neg (by rw [hcl];simp),if_pos htm.symm];rfl);have h6b : ((b : Int) == 96) = false := by simp;omega
 have d0 : decide ((48 : Int) <= (b : Int)) = false := jF (by omega);have d2 : decide ((97 : Int) <= (b : Int)) = false := jF (by omega);have d4 : decide ((65 : Int) <= (b : Int)) = false := jF (by omega);have hb2 : (b : Int) <= 255 := by omega
 clear _hb _hr h1 h6 h2 hcl htm
 go_enter Tryz.func61,Tryz.ntmps61
 go_wp2_with fail
 refine (C1.out _).mono ?_;rintro e w1 ⟨rfl,rfl⟩
 go_wp2_with fail
 refine (C2.out _).mono ?_;rintro e w1 ⟨rfl,rfl⟩
 go_wp2_with fail
 go_ret
 exact ⟨by rw [HF.out] <;> rfl,hbl.out⟩
theorem rbyte_lo_hex (b : Nat) (_hb : b < 256) (_hr : b < 48) (h1 : pinB plain16 b 16 = false) (h6 : b ≠ 96) (h2 : pinB them16 b 16 = false) (w : World) :
  Calls Tryz.prog 61 #[.int .i64 (b : Int)] w fun e w' => e = .returned (.string (baN (brN b))) /\ Below w.heap.size w w' := by
 have hcv := itself_conv b w;have hbl := qhid ((Below.refl w.heap.size w).alloc (jN _) (.cells #[.int .u8 ((b : Nat) : Int)] 5));have C1 := qhid (fun W => prefin_any plain16 b (by decide) W);rw [show plain16.size = 16 from rfl,h1] at C1;have C2 := qhid (fun W => prefin_any them16 b (by decide) W);rw [show them16.size = 16 from rfl,h2] at C2
 have hcl : (alnB b || plainB b) = false := by
  have ha : alnB b = false := by unfold alnB;simp;omega
  have hp := plain_in b _hb;rw [h1,jF h6] at hp;rw [ha,<- hp];rfl
 have htm := them_in b _hb;rw [h2] at htm;have HF : Hid (baN (brN b) = ⟨#[92,120]⟩ ++ strOfNums [(hexN (b / 16) : Int),(hexN (b % 16) : Int)]) := qhid (by unfold brN;rw [if_neg (by rw [hcl];simp),if_neg (by rw [<- htm];simp)];rfl);have h6b : ((b : Int) == 96) = false := by simp;omega
 have d0 : decide ((48 : Int) <= (b : Int)) = false := jF (by omega);have d2 : decide ((97 : Int) <= (b : Int)) = false := jF (by omega);have d4 : decide ((65 : Int) <= (b : Int)) = false := jF (by omega);have hb2 : (b : Int) <= 255 := by omega
 obtain ⟨q,hq⟩ : ∃ q,q = b / 16 := ⟨_,rfl⟩;obtain ⟨r,hr2⟩ : ∃ r,r = b % 16 := ⟨_,rfl⟩;have hq1 : q < 16 := by omega
 have hr1 : r < 16 := by omega
 have e4 : (b : Int) / 16 = (q : Int) := by omega
 have e5 : (b : Int) % 16 = (r : Int) := by omega
 have e6 : (b : Int).tdiv 16 = (q : Int) := by rw [Int.tdiv_eq_ediv_of_nonneg (by omega)];exact e4
 have e7 : (b : Int).tmod 16 = (r : Int) := by rw [Int.tmod_eq_emod_of_nonneg (by omega)];exact e5
 have hq2 : (q : Int) < 16 := by omega
 have hr3 : (r : Int) < 16 := by omega
 have wq : IntKind.i64.wrap (q : Int) = (q : Int) := by simp [IntKind.wrap,IntKind.signed,IntKind.bits];omega
 have wr2 : IntKind.i64.wrap (r : Int) = (r : Int) := by simp [IntKind.wrap,IntKind.signed,IntKind.bits];omega
 rw [<- hq,<- hr2] at HF;have HDQ := qhid (fun h => dig_num q hq1 h);have HDR := qhid (fun h => dig_num r hr1 h);have hq3 : q < digS.size := hq1;have hr4 : r < digS.size := hr1;have TC := two_conv ((digS[q]'hq3).toNat : Int) ((digS[r]'hr4).toNat : Int) (w.heap.size + 1) (w.alloc (.cells #[.int .u8 (b : Int)] 5)) (by simp);rw [<- HDQ.out hq3,<- HDR.out hr4] at HF;have hsz : (strOfNums [((digS[q]'hq3).toNat : Int),((digS[r]'hr4).toNat : Int)]).size = 2 := rfl;have HB2 : Hid (Below w.heap.size w ((w.alloc (.cells #[.int .u8 (b : Int)] 5)).alloc (.cells #[.int .u8 ((digS[q]'hq3).toNat : Int),.int .u8 ((digS[r]'hr4).toNat : Int)] 5))) := qhid (hbl.out.trans ((below1 _ _).mono hbl.out.size));clear _hb _hr h1 h6 h2 hcl htm hq hr2
 go_enter Tryz.func61,Tryz.ntmps61
 go_wp2_with fail
 refine (C1.out _).mono ?_;rintro e w1 ⟨rfl,rfl⟩
 go_wp2_with fail
 refine (C2.out _).mono ?_;rintro e w1 ⟨rfl,rfl⟩
 go_wp2_with fail
 clear HDQ HDR
 go_region
 all_goals
  go_wp2_with fail
  go_ret
  exact ⟨by rw [HF.out] <;> rfl,HB2.out.drew⟩
theorem rbyte_mid_aln (b : Nat) (_hb : b < 256) (_hr : 48 <= b /\ b <= 57)  (w : World) :
  Calls Tryz.prog 61 #[.int .i64 (b : Int)] w fun e w' => e = .returned (.string (baN (brN b))) /\ Below w.heap.size w w' := by
 have hcv := itself_conv b w;have hbl := qhid ((Below.refl w.heap.size w).alloc (jN _) (.cells #[.int .u8 ((b : Nat) : Int)] 5))
 have HF : Hid (baN (brN b) = ⟨#[UInt8.ofNat b]⟩) := qhid (by
  unfold brN;have ha : alnB b = true := by unfold alnB;simp;omega
  rw [if_pos (by rw [ha];rfl)]
  rfl)
 have d0 : decide ((48 : Int) <= (b : Int)) = true := jT (by omega);have d1 : decide ((b : Int) <= 57) = true := jT (by omega);have hb2 : (b : Int) <= 255 := by omega
 clear _hb _hr
 go_enter Tryz.func61,Tryz.ntmps61
 go_wp2_with fail
 go_ret
 exact ⟨by rw [HF.out] <;> rfl,hbl.out⟩
theorem rbyte_gap_in (b : Nat) (_hb : b < 256) (_hr : 58 <= b /\ b <= 64) (h1 : pinB plain16 b 16 = true) (w : World) :
  Calls Tryz.prog 61 #[.int .i64 (b : Int)] w fun e w' => e = .returned (.string (baN (brN b))) /\ Below w.heap.size w w' := by
 have hcv := itself_conv b w;have hbl := qhid ((Below.refl w.heap.size w).alloc (jN _) (.cells #[.int .u8 ((b : Nat) : Int)] 5));have C1 := qhid (fun W => prefin_any plain16 b (by decide) W);rw [show plain16.size = 16 from rfl,h1] at C1
 have HF : Hid (baN (brN b) = ⟨#[UInt8.ofNat b]⟩) := qhid (by
  unfold brN;have hp := plain_in b _hb;rw [h1] at hp;rw [if_pos (by rw [<- hp];simp)]
  rfl)
 have d0 : decide ((48 : Int) <= (b : Int)) = true := jT (by omega);have d1 : decide ((b : Int) <= 57) = false := jF (by omega);have d2 : decide ((97 : Int) <= (b : Int)) = false := jF (by omega);have d4 : decide ((65 : Int) <= (b : Int)) = false := jF (by omega);have hb2 : (b : Int) <= 255 := by omega
 clear _hb _hr h1
 go_enter Tryz.func61,Tryz.ntmps61
 go_wp2_with fail
 refine (C1.out _).mono ?_;rintro e w1 ⟨rfl,rfl⟩
 go_wp2_with fail
 go_ret
 exact ⟨by rw [HF.out] <;> rfl,hbl.out⟩
theorem rbyte_gap_them (b : Nat) (_hb : b < 256) (_hr : 58 <= b /\ b <= 64) (h1 : pinB plain16 b 16 = false) (h6 : b ≠ 96) (h2 : pinB them16 b 16 = true) (w : World) :
  Calls Tryz.prog 61 #[.int .i64 (b : Int)] w fun e w' => e = .returned (.string (baN (brN b))) /\ Below w.heap.size w w' := by
 have hcv := itself_conv b w;have hbl := qhid ((Below.refl w.heap.size w).alloc (jN _) (.cells #[.int .u8 ((b : Nat) : Int)] 5));have C1 := qhid (fun W => prefin_any plain16 b (by decide) W);rw [show plain16.size = 16 from rfl,h1] at C1;have C2 := qhid (fun W => prefin_any them16 b (by decide) W);rw [show them16.size = 16 from rfl,h2] at C2
 have hcl : (alnB b || plainB b) = false := by
  have ha : alnB b = false := by unfold alnB;simp;omega
  have hp := plain_in b _hb;rw [h1,jF h6] at hp;rw [ha,<- hp];rfl
 have htm := them_in b _hb;rw [h2] at htm;have HF : Hid (baN (brN b) = ⟨#[92]⟩ ++ ⟨#[UInt8.ofNat b]⟩) := qhid (by unfold brN;rw [if_neg (by rw [hcl];simp),if_pos htm.symm];rfl);have h6b : ((b : Int) == 96) = false := by simp;omega
 have d0 : decide ((48 : Int) <= (b : Int)) = true := jT (by omega);have d1 : decide ((b : Int) <= 57) = false := jF (by omega);have d2 : decide ((97 : Int) <= (b : Int)) = false := jF (by omega);have d4 : decide ((65 : Int) <= (b : Int)) = false := jF (by omega);have hb2 : (b : Int) <= 255 := by omega
 clear _hb _hr h1 h6 h2 hcl htm
 go_enter Tryz.func61,Tryz.ntmps61
 go_wp2_with fail
 refine (C1.out _).mono ?_;rintro e w1 ⟨rfl,rfl⟩
 go_wp2_with fail
 refine (C2.out _).mono ?_;rintro e w1 ⟨rfl,rfl⟩
 go_wp2_with fail
 go_ret
 exact ⟨by rw [HF.out] <;> rfl,hbl.out⟩
theorem rbyte_gap_hex (b : Nat) (_hb : b < 256) (_hr : 58 <= b /\ b <= 64) (h1 : pinB plain16 b 16 = false) (h6 : b ≠ 96) (h2 : pinB them16 b 16 = false) (w : World) :
  Calls Tryz.prog 61 #[.int .i64 (b : Int)] w fun e w' => e = .returned (.string (baN (brN b))) /\ Below w.heap.size w w' := by
 have hcv := itself_conv b w;have hbl := qhid ((Below.refl w.heap.size w).alloc (jN _) (.cells #[.int .u8 ((b : Nat) : Int)] 5));have C1 := qhid (fun W => prefin_any plain16 b (by decide) W);rw [show plain16.size = 16 from rfl,h1] at C1;have C2 := qhid (fun W => prefin_any them16 b (by decide) W);rw [show them16.size = 16 from rfl,h2] at C2
 have hcl : (alnB b || plainB b) = false := by
  have ha : alnB b = false := by unfold alnB;simp;omega
  have hp := plain_in b _hb;rw [h1,jF h6] at hp;rw [ha,<- hp];rfl
 have htm := them_in b _hb;rw [h2] at htm;have HF : Hid (baN (brN b) = ⟨#[92,120]⟩ ++ strOfNums [(hexN (b / 16) : Int),(hexN (b % 16) : Int)]) := qhid (by unfold brN;rw [if_neg (by rw [hcl];simp),if_neg (by rw [<- htm];simp)];rfl);have h6b : ((b : Int) == 96) = false := by simp;omega
 have d0 : decide ((48 : Int) <= (b : Int)) = true := jT (by omega);have d1 : decide ((b : Int) <= 57) = false := jF (by omega);have d2 : decide ((97 : Int) <= (b : Int)) = false := jF (by omega);have d4 : decide ((65 : Int) <= (b : Int)) = false := jF (by omega);have hb2 : (b : Int) <= 255 := by omega
 obtain ⟨q,hq⟩ : ∃ q,q = b / 16 := ⟨_,rfl⟩;obtain ⟨r,hr2⟩ : ∃ r,r = b % 16 := ⟨_,rfl⟩;have hq1 : q < 16 := by omega
 have hr1 : r < 16 := by omega
 have e4 : (b : Int) / 16 = (q : Int) := by omega
 have e5 : (b : Int) % 16 = (r : Int) := by omega
 have e6 : (b : Int).tdiv 16 = (q : Int) := by rw [Int.tdiv_eq_ediv_of_nonneg (by omega)];exact e4
 have e7 : (b : Int).tmod 16 = (r : Int) := by rw [Int.tmod_eq_emod_of_nonneg (by omega)];exact e5
 have hq2 : (q : Int) < 16 := by omega
 have hr3 : (r : Int) < 16 := by omega
 have wq : IntKind.i64.wrap (q : Int) = (q : Int) := by simp [IntKind.wrap,IntKind.signed,IntKind.bits];omega
 have wr2 : IntKind.i64.wrap (r : Int) = (r : Int) := by simp [IntKind.wrap,IntKind.signed,IntKind.bits];omega
 rw [<- hq,<- hr2] at HF;have HDQ := qhid (fun h => dig_num q hq1 h);have HDR := qhid (fun h => dig_num r hr1 h);have hq3 : q < digS.size := hq1;have hr4 : r < digS.size := hr1;have TC := two_conv ((digS[q]'hq3).toNat : Int) ((digS[r]'hr4).toNat : Int) (w.heap.size + 1) (w.alloc (.cells #[.int .u8 (b : Int)] 5)) (by simp);rw [<- HDQ.out hq3,<- HDR.out hr4] at HF;have hsz : (strOfNums [((digS[q]'hq3).toNat : Int),((digS[r]'hr4).toNat : Int)]).size = 2 := rfl;have HB2 : Hid (Below w.heap.size w ((w.alloc (.cells #[.int .u8 (b : Int)] 5)).alloc (.cells #[.int .u8 ((digS[q]'hq3).toNat : Int),.int .u8 ((digS[r]'hr4).toNat : Int)] 5))) := qhid (hbl.out.trans ((below1 _ _).mono hbl.out.size));clear _hb _hr h1 h6 h2 hcl htm hq hr2
 go_enter Tryz.func61,Tryz.ntmps61
 go_wp2_with fail
 refine (C1.out _).mono ?_;rintro e w1 ⟨rfl,rfl⟩
 go_wp2_with fail
 refine (C2.out _).mono ?_;rintro e w1 ⟨rfl,rfl⟩
 go_wp2_with fail
 clear HDQ HDR
 go_region
 all_goals
  go_wp2_with fail
  go_ret
  exact ⟨by rw [HF.out] <;> rfl,HB2.out.drew⟩
theorem rbyte_up_aln (b : Nat) (_hb : b < 256) (_hr : 65 <= b /\ b <= 90)  (w : World) :
  Calls Tryz.prog 61 #[.int .i64 (b : Int)] w fun e w' => e = .returned (.string (baN (brN b))) /\ Below w.heap.size w w' := by
 have hcv := itself_conv b w;have hbl := qhid ((Below.refl w.heap.size w).alloc (jN _) (.cells #[.int .u8 ((b : Nat) : Int)] 5))
 have HF : Hid (baN (brN b) = ⟨#[UInt8.ofNat b]⟩) := qhid (by
  unfold brN;have ha : alnB b = true := by unfold alnB;simp;omega
  rw [if_pos (by rw [ha];rfl)]
  rfl)
 have d0 : decide ((48 : Int) <= (b : Int)) = true := jT (by omega);have d1 : decide ((b : Int) <= 57) = false := jF (by omega);have d2 : decide ((97 : Int) <= (b : Int)) = false := jF (by omega);have d4 : decide ((65 : Int) <= (b : Int)) = true := jT (by omega);have d5 : decide ((b : Int) <= 90) = true := jT (by omega);have hb2 : (b : Int) <= 255 := by omega
 clear _hb _hr
 go_enter Tryz.func61,Tryz.ntmps61
 go_wp2_with fail
 go_ret
 exact ⟨by rw [HF.out] <;> rfl,hbl.out⟩
theorem rbyte_low_in (b : Nat) (_hb : b < 256) (_hr : 91 <= b /\ b <= 96) (h1 : pinB plain16 b 16 = true) (w : World) :
  Calls Tryz.prog 61 #[.int .i64 (b : Int)] w fun e w' => e = .returned (.string (baN (brN b))) /\ Below w.heap.size w w' := by
 have hcv := itself_conv b w;have hbl := qhid ((Below.refl w.heap.size w).alloc (jN _) (.cells #[.int .u8 ((b : Nat) : Int)] 5));have C1 := qhid (fun W => prefin_any plain16 b (by decide) W);rw [show plain16.size = 16 from rfl,h1] at C1
 have HF : Hid (baN (brN b) = ⟨#[UInt8.ofNat b]⟩) := qhid (by
  unfold brN;have hp := plain_in b _hb;rw [h1] at hp;rw [if_pos (by rw [<- hp];simp)]
  rfl)
 have d0 : decide ((48 : Int) <= (b : Int)) = true := jT (by omega);have d1 : decide ((b : Int) <= 57) = false := jF (by omega);have d2 : decide ((97 : Int) <= (b : Int)) = false := jF (by omega);have d4 : decide ((65 : Int) <= (b : Int)) = true := jT (by omega);have d5 : decide ((b : Int) <= 90) = false := jF (by omega);have hb2 : (b : Int) <= 255 := by omega
 clear _hb _hr h1
 go_enter Tryz.func61,Tryz.ntmps61
 go_wp2_with fail
 refine (C1.out _).mono ?_;rintro e w1 ⟨rfl,rfl⟩
 go_wp2_with fail
 go_ret
 exact ⟨by rw [HF.out] <;> rfl,hbl.out⟩
theorem rbyte_low_96 (b : Nat) (_hb : b < 256) (_hr : 91 <= b /\ b <= 96) (h1 : pinB plain16 b 16 = false) (h6 : b = 96) (w : World) :
  Calls Tryz.prog 61 #[.int .i64 (b : Int)] w fun e w' => e = .returned (.string (baN (brN b))) /\ Below w.heap.size w w' := by
 have hcv := itself_conv b w;have hbl := qhid ((Below.refl w.heap.size w).alloc (jN _) (.cells #[.int .u8 ((b : Nat) : Int)] 5));have C1 := qhid (fun W => prefin_any plain16 b (by decide) W);rw [show plain16.size = 16 from rfl,h1] at C1
 have HF : Hid (baN (brN b) = ⟨#[UInt8.ofNat b]⟩) := qhid (by
  unfold brN;rw [if_pos (by rw [h6];decide)]
  rfl)
 have d0 : decide ((48 : Int) <= (b : Int)) = true := jT (by omega);have d1 : decide ((b : Int) <= 57) = false := jF (by omega);have d2 : decide ((97 : Int) <= (b : Int)) = false := jF (by omega);have d4 : decide ((65 : Int) <= (b : Int)) = true := jT (by omega);have d5 : decide ((b : Int) <= 90) = false := jF (by omega);have hb2 : (b : Int) <= 255 := by omega
 have h6b : ((b : Int) == 96) = true := by simp;omega
 clear _hb _hr h1 h6
 go_enter Tryz.func61,Tryz.ntmps61
 go_wp2_with fail
 refine (C1.out _).mono ?_;rintro e w1 ⟨rfl,rfl⟩
 go_wp2_with fail
 go_ret
 exact ⟨by rw [HF.out] <;> rfl,hbl.out⟩
theorem rbyte_low_them (b : Nat) (_hb : b < 256) (_hr : 91 <= b /\ b <= 96) (h1 : pinB plain16 b 16 = false) (h6 : b ≠ 96) (h2 : pinB them16 b 16 = true) (w : World) :
  Calls Tryz.prog 61 #[.int .i64 (b : Int)] w fun e w' => e = .returned (.string (baN (brN b))) /\ Below w.heap.size w w' := by
 have hcv := itself_conv b w;have hbl := qhid ((Below.refl w.heap.size w).alloc (jN _) (.cells #[.int .u8 ((b : Nat) : Int)] 5));have C1 := qhid (fun W => prefin_any plain16 b (by decide) W);rw [show plain16.size = 16 from rfl,h1] at C1;have C2 := qhid (fun W => prefin_any them16 b (by decide) W);rw [show them16.size = 16 from rfl,h2] at C2
 have hcl : (alnB b || plainB b) = false := by
  have ha : alnB b = false := by unfold alnB;simp;omega
  have hp := plain_in b _hb;rw [h1,jF h6] at hp;rw [ha,<- hp];rfl
 have htm := them_in b _hb;rw [h2] at htm;have HF : Hid (baN (brN b) = ⟨#[92]⟩ ++ ⟨#[UInt8.ofNat b]⟩) := qhid (by unfold brN;rw [if_neg (by rw [hcl];simp),if_pos htm.symm];rfl);have h6b : ((b : Int) == 96) = false := by simp;omega
 have d0 : decide ((48 : Int) <= (b : Int)) = true := jT (by omega);have d1 : decide ((b : Int) <= 57) = false := jF (by omega);have d2 : decide ((97 : Int) <= (b : Int)) = false := jF (by omega);have d4 : decide ((65 : Int) <= (b : Int)) = true := jT (by omega);have d5 : decide ((b : Int) <= 90) = false := jF (by omega);have hb2 : (b : Int) <= 255 := by omega
 clear _hb _hr h1 h6 h2 hcl htm
 go_enter Tryz.func61,Tryz.ntmps61
 go_wp2_with fail
 refine (C1.out _).mono ?_;rintro e w1 ⟨rfl,rfl⟩
 go_wp2_with fail
 refine (C2.out _).mono ?_;rintro e w1 ⟨rfl,rfl⟩
 go_wp2_with fail
 go_ret
 exact ⟨by rw [HF.out] <;> rfl,hbl.out⟩
theorem rbyte_low_hex (b : Nat) (_hb : b < 256) (_hr : 91 <= b /\ b <= 96) (h1 : pinB plain16 b 16 = false) (h6 : b ≠ 96) (h2 : pinB them16 b 16 = false) (w : World) :
  Calls Tryz.prog 61 #[.int .i64 (b : Int)] w fun e w' => e = .returned (.string (baN (brN b))) /\ Below w.heap.size w w' := by
 have hcv := itself_conv b w;have hbl := qhid ((Below.refl w.heap.size w).alloc (jN _) (.cells #[.int .u8 ((b : Nat) : Int)] 5));have C1 := qhid (fun W => prefin_any plain16 b (by decide) W);rw [show plain16.size = 16 from rfl,h1] at C1;have C2 := qhid (fun W => prefin_any them16 b (by decide) W);rw [show them16.size = 16 from rfl,h2] at C2
 have hcl : (alnB b || plainB b) = false := by
  have ha : alnB b = false := by unfold alnB;simp;omega
  have hp := plain_in b _hb;rw [h1,jF h6] at hp;rw [ha,<- hp];rfl
 have htm := them_in b _hb;rw [h2] at htm;have HF : Hid (baN (brN b) = ⟨#[92,120]⟩ ++ strOfNums [(hexN (b / 16) : Int),(hexN (b % 16) : Int)]) := qhid (by unfold brN;rw [if_neg (by rw [hcl];simp),if_neg (by rw [<- htm];simp)];rfl);have h6b : ((b : Int) == 96) = false := by simp;omega
 have d0 : decide ((48 : Int) <= (b : Int)) = true := jT (by omega);have d1 : decide ((b : Int) <= 57) = false := jF (by omega);have d2 : decide ((97 : Int) <= (b : Int)) = false := jF (by omega);have d4 : decide ((65 : Int) <= (b : Int)) = true := jT (by omega);have d5 : decide ((b : Int) <= 90) = false := jF (by omega);have hb2 : (b : Int) <= 255 := by omega
 obtain ⟨q,hq⟩ : ∃ q,q = b / 16 := ⟨_,rfl⟩;obtain ⟨r,hr2⟩ : ∃ r,r = b % 16 := ⟨_,rfl⟩;have hq1 : q < 16 := by omega
 have hr1 : r < 16 := by omega
 have e4 : (b : Int) / 16 = (q : Int) := by omega
 have e5 : (b : Int) % 16 = (r : Int) := by omega
 have e6 : (b : Int).tdiv 16 = (q : Int) := by rw [Int.tdiv_eq_ediv_of_nonneg (by omega)];exact e4
 have e7 : (b : Int).tmod 16 = (r : Int) := by rw [Int.tmod_eq_emod_of_nonneg (by omega)];exact e5
 have hq2 : (q : Int) < 16 := by omega
 have hr3 : (r : Int) < 16 := by omega
 have wq : IntKind.i64.wrap (q : Int) = (q : Int) := by simp [IntKind.wrap,IntKind.signed,IntKind.bits];omega
 have wr2 : IntKind.i64.wrap (r : Int) = (r : Int) := by simp [IntKind.wrap,IntKind.signed,IntKind.bits];omega
 rw [<- hq,<- hr2] at HF;have HDQ := qhid (fun h => dig_num q hq1 h);have HDR := qhid (fun h => dig_num r hr1 h);have hq3 : q < digS.size := hq1;have hr4 : r < digS.size := hr1;have TC := two_conv ((digS[q]'hq3).toNat : Int) ((digS[r]'hr4).toNat : Int) (w.heap.size + 1) (w.alloc (.cells #[.int .u8 (b : Int)] 5)) (by simp);rw [<- HDQ.out hq3,<- HDR.out hr4] at HF;have hsz : (strOfNums [((digS[q]'hq3).toNat : Int),((digS[r]'hr4).toNat : Int)]).size = 2 := rfl;have HB2 : Hid (Below w.heap.size w ((w.alloc (.cells #[.int .u8 (b : Int)] 5)).alloc (.cells #[.int .u8 ((digS[q]'hq3).toNat : Int),.int .u8 ((digS[r]'hr4).toNat : Int)] 5))) := qhid (hbl.out.trans ((below1 _ _).mono hbl.out.size));clear _hb _hr h1 h6 h2 hcl htm hq hr2
 go_enter Tryz.func61,Tryz.ntmps61
 go_wp2_with fail
 refine (C1.out _).mono ?_;rintro e w1 ⟨rfl,rfl⟩
 go_wp2_with fail
 refine (C2.out _).mono ?_;rintro e w1 ⟨rfl,rfl⟩
 go_wp2_with fail
 clear HDQ HDR
 go_region
 all_goals
  go_wp2_with fail
  go_ret
  exact ⟨by rw [HF.out] <;> rfl,HB2.out.drew⟩
theorem rbyte_az_aln (b : Nat) (_hb : b < 256) (_hr : 97 <= b /\ b <= 122)  (w : World) :
  Calls Tryz.prog 61 #[.int .i64 (b : Int)] w fun e w' => e = .returned (.string (baN (brN b))) /\ Below w.heap.size w w' := by
 have hcv := itself_conv b w;have hbl := qhid ((Below.refl w.heap.size w).alloc (jN _) (.cells #[.int .u8 ((b : Nat) : Int)] 5))
 have HF : Hid (baN (brN b) = ⟨#[UInt8.ofNat b]⟩) := qhid (by
  unfold brN;have ha : alnB b = true := by unfold alnB;simp;omega
  rw [if_pos (by rw [ha];rfl)]
  rfl)
 have d0 : decide ((48 : Int) <= (b : Int)) = true := jT (by omega);have d1 : decide ((b : Int) <= 57) = false := jF (by omega);have d2 : decide ((97 : Int) <= (b : Int)) = true := jT (by omega);have d3 : decide ((b : Int) <= 122) = true := jT (by omega);have hb2 : (b : Int) <= 255 := by omega
 clear _hb _hr
 go_enter Tryz.func61,Tryz.ntmps61
 go_wp2_with fail
 go_ret
 exact ⟨by rw [HF.out] <;> rfl,hbl.out⟩
theorem rbyte_hi_in (b : Nat) (_hb : b < 256) (_hr : 123 <= b) (h1 : pinB plain16 b 16 = true) (w : World) :
  Calls Tryz.prog 61 #[.int .i64 (b : Int)] w fun e w' => e = .returned (.string (baN (brN b))) /\ Below w.heap.size w w' := by
 have hcv := itself_conv b w;have hbl := qhid ((Below.refl w.heap.size w).alloc (jN _) (.cells #[.int .u8 ((b : Nat) : Int)] 5));have C1 := qhid (fun W => prefin_any plain16 b (by decide) W);rw [show plain16.size = 16 from rfl,h1] at C1
 have HF : Hid (baN (brN b) = ⟨#[UInt8.ofNat b]⟩) := qhid (by
  unfold brN;have hp := plain_in b _hb;rw [h1] at hp;rw [if_pos (by rw [<- hp];simp)]
  rfl)
 have d0 : decide ((48 : Int) <= (b : Int)) = true := jT (by omega);have d1 : decide ((b : Int) <= 57) = false := jF (by omega);have d2 : decide ((97 : Int) <= (b : Int)) = true := jT (by omega);have d3 : decide ((b : Int) <= 122) = false := jF (by omega);have d4 : decide ((65 : Int) <= (b : Int)) = true := jT (by omega);have d5 : decide ((b : Int) <= 90) = false := jF (by omega);have hb2 : (b : Int) <= 255 := by omega
 clear _hb _hr h1
 go_enter Tryz.func61,Tryz.ntmps61
 go_wp2_with fail
 refine (C1.out _).mono ?_;rintro e w1 ⟨rfl,rfl⟩
 go_wp2_with fail
 go_ret
 exact ⟨by rw [HF.out] <;> rfl,hbl.out⟩
theorem rbyte_hi_them (b : Nat) (_hb : b < 256) (_hr : 123 <= b) (h1 : pinB plain16 b 16 = false) (h6 : b ≠ 96) (h2 : pinB them16 b 16 = true) (w : World) :
  Calls Tryz.prog 61 #[.int .i64 (b : Int)] w fun e w' => e = .returned (.string (baN (brN b))) /\ Below w.heap.size w w' := by
 have hcv := itself_conv b w;have hbl := qhid ((Below.refl w.heap.size w).alloc (jN _) (.cells #[.int .u8 ((b : Nat) : Int)] 5));have C1 := qhid (fun W => prefin_any plain16 b (by decide) W);rw [show plain16.size = 16 from rfl,h1] at C1;have C2 := qhid (fun W => prefin_any them16 b (by decide) W);rw [show them16.size = 16 from rfl,h2] at C2
 have hcl : (alnB b || plainB b) = false := by
  have ha : alnB b = false := by unfold alnB;simp;omega
  have hp := plain_in b _hb;rw [h1,jF h6] at hp;rw [ha,<- hp];rfl
 have htm := them_in b _hb;rw [h2] at htm;have HF : Hid (baN (brN b) = ⟨#[92]⟩ ++ ⟨#[UInt8.ofNat b]⟩) := qhid (by unfold brN;rw [if_neg (by rw [hcl];simp),if_pos htm.symm];rfl);have h6b : ((b : Int) == 96) = false := by simp;omega
 have d0 : decide ((48 : Int) <= (b : Int)) = true := jT (by omega);have d1 : decide ((b : Int) <= 57) = false := jF (by omega);have d2 : decide ((97 : Int) <= (b : Int)) = true := jT (by omega);have d3 : decide ((b : Int) <= 122) = false := jF (by omega);have d4 : decide ((65 : Int) <= (b : Int)) = true := jT (by omega);have d5 : decide ((b : Int) <= 90) = false := jF (by omega);have hb2 : (b : Int) <= 255 := by omega
 clear _hb _hr h1 h6 h2 hcl htm
 go_enter Tryz.func61,Tryz.ntmps61
 go_wp2_with fail
 refine (C1.out _).mono ?_;rintro e w1 ⟨rfl,rfl⟩
 go_wp2_with fail
 refine (C2.out _).mono ?_;rintro e w1 ⟨rfl,rfl⟩
 go_wp2_with fail
 go_ret
 exact ⟨by rw [HF.out] <;> rfl,hbl.out⟩
theorem rbyte_hi_hex (b : Nat) (_hb : b < 256) (_hr : 123 <= b) (h1 : pinB plain16 b 16 = false) (h6 : b ≠ 96) (h2 : pinB them16 b 16 = false) (w : World) :
  Calls Tryz.prog 61 #[.int .i64 (b : Int)] w fun e w' => e = .returned (.string (baN (brN b))) /\ Below w.heap.size w w' := by
 have hcv := itself_conv b w;have hbl := qhid ((Below.refl w.heap.size w).alloc (jN _) (.cells #[.int .u8 ((b : Nat) : Int)] 5));have C1 := qhid (fun W => prefin_any plain16 b (by decide) W);rw [show plain16.size = 16 from rfl,h1] at C1;have C2 := qhid (fun W => prefin_any them16 b (by decide) W);rw [show them16.size = 16 from rfl,h2] at C2
 have hcl : (alnB b || plainB b) = false := by
  have ha : alnB b = false := by unfold alnB;simp;omega
  have hp := plain_in b _hb;rw [h1,jF h6] at hp;rw [ha,<- hp];rfl
 have htm := them_in b _hb;rw [h2] at htm;have HF : Hid (baN (brN b) = ⟨#[92,120]⟩ ++ strOfNums [(hexN (b / 16) : Int),(hexN (b % 16) : Int)]) := qhid (by unfold brN;rw [if_neg (by rw [hcl];simp),if_neg (by rw [<- htm];simp)];rfl);have h6b : ((b : Int) == 96) = false := by simp;omega
 have d0 : decide ((48 : Int) <= (b : Int)) = true := jT (by omega);have d1 : decide ((b : Int) <= 57) = false := jF (by omega);have d2 : decide ((97 : Int) <= (b : Int)) = true := jT (by omega);have d3 : decide ((b : Int) <= 122) = false := jF (by omega);have d4 : decide ((65 : Int) <= (b : Int)) = true := jT (by omega);have d5 : decide ((b : Int) <= 90) = false := jF (by omega);have hb2 : (b : Int) <= 255 := by omega
 obtain ⟨q,hq⟩ : ∃ q,q = b / 16 := ⟨_,rfl⟩;obtain ⟨r,hr2⟩ : ∃ r,r = b % 16 := ⟨_,rfl⟩;have hq1 : q < 16 := by omega
 have hr1 : r < 16 := by omega
 have e4 : (b : Int) / 16 = (q : Int) := by omega
 have e5 : (b : Int) % 16 = (r : Int) := by omega
 have e6 : (b : Int).tdiv 16 = (q : Int) := by rw [Int.tdiv_eq_ediv_of_nonneg (by omega)];exact e4
 have e7 : (b : Int).tmod 16 = (r : Int) := by rw [Int.tmod_eq_emod_of_nonneg (by omega)];exact e5
 have hq2 : (q : Int) < 16 := by omega
 have hr3 : (r : Int) < 16 := by omega
 have wq : IntKind.i64.wrap (q : Int) = (q : Int) := by simp [IntKind.wrap,IntKind.signed,IntKind.bits];omega
 have wr2 : IntKind.i64.wrap (r : Int) = (r : Int) := by simp [IntKind.wrap,IntKind.signed,IntKind.bits];omega
 rw [<- hq,<- hr2] at HF;have HDQ := qhid (fun h => dig_num q hq1 h);have HDR := qhid (fun h => dig_num r hr1 h);have hq3 : q < digS.size := hq1;have hr4 : r < digS.size := hr1;have TC := two_conv ((digS[q]'hq3).toNat : Int) ((digS[r]'hr4).toNat : Int) (w.heap.size + 1) (w.alloc (.cells #[.int .u8 (b : Int)] 5)) (by simp);rw [<- HDQ.out hq3,<- HDR.out hr4] at HF;have hsz : (strOfNums [((digS[q]'hq3).toNat : Int),((digS[r]'hr4).toNat : Int)]).size = 2 := rfl;have HB2 : Hid (Below w.heap.size w ((w.alloc (.cells #[.int .u8 (b : Int)] 5)).alloc (.cells #[.int .u8 ((digS[q]'hq3).toNat : Int),.int .u8 ((digS[r]'hr4).toNat : Int)] 5))) := qhid (hbl.out.trans ((below1 _ _).mono hbl.out.size));clear _hb _hr h1 h6 h2 hcl htm hq hr2
 go_enter Tryz.func61,Tryz.ntmps61
 go_wp2_with fail
 refine (C1.out _).mono ?_;rintro e w1 ⟨rfl,rfl⟩
 go_wp2_with fail
 refine (C2.out _).mono ?_;rintro e w1 ⟨rfl,rfl⟩
 go_wp2_with fail
 clear HDQ HDR
 go_region
 all_goals
  go_wp2_with fail
  go_ret
  exact ⟨by rw [HF.out] <;> rfl,HB2.out.drew⟩
theorem prefbyte_any (b : Nat) (hb : b < 256) (w : World) :
  Calls Tryz.prog 61 #[.int .i64 (b : Int)] w fun e w' => e = .returned (.string (baN (brN b))) /\ Below w.heap.size w w' := by
 have hr : b < 48 \/ (48 <= b /\ b <= 57) \/ (58 <= b /\ b <= 64) \/ (65 <= b /\ b <= 90) \/ (91 <= b /\ b <= 96) \/ (97 <= b /\ b <= 122) \/ 123 <= b := by omega
 rcases hr with hr | hr | hr | hr | hr | hr | hr
 ·cases h1 : pinB plain16 b 16 with
  | true => exact rbyte_lo_in b hb hr h1 w
  | false =>
   have h6 : b ≠ 96 := by omega
   cases h2 : pinB them16 b 16 with
   | true => exact rbyte_lo_them b hb hr h1 h6 h2 w
   | false => exact rbyte_lo_hex b hb hr h1 h6 h2 w
 ·exact rbyte_mid_aln b hb hr w
 ·cases h1 : pinB plain16 b 16 with
  | true => exact rbyte_gap_in b hb hr h1 w
  | false =>
   have h6 : b ≠ 96 := by omega
   cases h2 : pinB them16 b 16 with
   | true => exact rbyte_gap_them b hb hr h1 h6 h2 w
   | false => exact rbyte_gap_hex b hb hr h1 h6 h2 w
 ·exact rbyte_up_aln b hb hr w
 ·cases h1 : pinB plain16 b 16 with
  | true => exact rbyte_low_in b hb hr h1 w
  | false =>
   by_cases h6 : b = 96
   ·exact rbyte_low_96 b hb hr h1 h6 w
   cases h2 : pinB them16 b 16 with
   | true => exact rbyte_low_them b hb hr h1 h6 h2 w
   | false => exact rbyte_low_hex b hb hr h1 h6 h2 w
 ·exact rbyte_az_aln b hb hr w
 ·cases h1 : pinB plain16 b 16 with
  | true => exact rbyte_hi_in b hb hr h1 w
  | false =>
   have h6 : b ≠ 96 := by omega
   cases h2 : pinB them16 b 16 with
   | true => exact rbyte_hi_them b hb hr h1 h6 h2 w
   | false => exact rbyte_hi_hex b hb hr h1 h6 h2 w
theorem app_none (s : ByteArray) : s ++ (⟨#[]⟩ : ByteArray) = s := by
 apply ByteArray.ext;simp
theorem rtimes_amf (lo hi : Int) (sl sh : ByteArray) (lz : Bool) (_h0 : (lo == 0) = true) (_h1 : (lo == 1) = false) (_h2 : (hi == -1) = true) (_h3 : (hi == 1) = false) (_h4 : (lo == hi) = false) (_h5 : (hi == lo) = false) (_s1 : sl.size <= 21) (_s2 : sh.size <= 21)
  (L : ∀ W,Calls Tryz.prog 62 #[.int .i64 lo] W fun e w' => e = .returned (.string sl) /\ Below W.heap.size W w') (H : ∀ W,Calls Tryz.prog 62 #[.int .i64 hi] W fun e w' => e = .returned (.string sh) /\ Below W.heap.size W w') (w : World) :
  Calls Tryz.prog 41 #[.int .i64 lo,.int .i64 hi,.bool lz] w fun e w' => e = .returned (.string (timesS true false true false false sl sh ++ (if lz then ⟨#[63]⟩ else ⟨#[]⟩))) /\ Below w.heap.size w w' := by
 have HL := qhid L;have HH := qhid H;clear L H;obtain rfl : lo = 0 := by simpa using _h0
 obtain rfl : hi = -1 := by simpa using _h2
 cases lz with
 | true =>
  go_enter Tryz.func41,Tryz.ntmps41
  go_wp2_with fail
  refine (HL.out w).mono ?_;rintro e w1 ⟨rfl,h5⟩;have H5 := qhid h5;clear h5
  go_wp2_with fail
  go_ret
  exact ⟨rfl,H5.out⟩
 | false =>
  go_enter Tryz.func41,Tryz.ntmps41
  go_wp2_with fail
  refine (HL.out w).mono ?_;rintro e w1 ⟨rfl,h5⟩;have H5 := qhid h5;clear h5
  go_wp2_with fail
  go_ret
  exact ⟨by rw [app_none] <;> rfl,H5.out⟩
theorem rtimes_abf (lo hi : Int) (sl sh : ByteArray) (lz : Bool) (_h0 : (lo == 0) = true) (_h1 : (lo == 1) = false) (_h2 : (hi == -1) = false) (_h3 : (hi == 1) = true) (_h4 : (lo == hi) = false) (_h5 : (hi == lo) = false) (_s1 : sl.size <= 21) (_s2 : sh.size <= 21)
  (L : ∀ W,Calls Tryz.prog 62 #[.int .i64 lo] W fun e w' => e = .returned (.string sl) /\ Below W.heap.size W w') (H : ∀ W,Calls Tryz.prog 62 #[.int .i64 hi] W fun e w' => e = .returned (.string sh) /\ Below W.heap.size W w') (w : World) :
  Calls Tryz.prog 41 #[.int .i64 lo,.int .i64 hi,.bool lz] w fun e w' => e = .returned (.string (timesS true false false true false sl sh ++ (if lz then ⟨#[63]⟩ else ⟨#[]⟩))) /\ Below w.heap.size w w' := by
 have HL := qhid L;have HH := qhid H;clear L H;obtain rfl : lo = 0 := by simpa using _h0
 obtain rfl : hi = 1 := by simpa using _h3
 cases lz with
 | true =>
  go_enter Tryz.func41,Tryz.ntmps41
  go_wp2_with fail
  refine (HL.out w).mono ?_;rintro e w1 ⟨rfl,h5⟩;have H5 := qhid h5;clear h5
  go_wp2_with fail
  go_ret
  exact ⟨rfl,H5.out⟩
 | false =>
  go_enter Tryz.func41,Tryz.ntmps41
  go_wp2_with fail
  refine (HL.out w).mono ?_;rintro e w1 ⟨rfl,h5⟩;have H5 := qhid h5;clear h5
  go_wp2_with fail
  go_ret
  exact ⟨by rw [app_none] <;> rfl,H5.out⟩
theorem rtimes_aof (lo hi : Int) (sl sh : ByteArray) (lz : Bool) (_h0 : (lo == 0) = true) (_h1 : (lo == 1) = false) (_h2 : (hi == -1) = false) (_h3 : (hi == 1) = false) (_h4 : (lo == hi) = false) (_h5 : (hi == lo) = false) (_s1 : sl.size <= 21) (_s2 : sh.size <= 21)
  (L : ∀ W,Calls Tryz.prog 62 #[.int .i64 lo] W fun e w' => e = .returned (.string sl) /\ Below W.heap.size W w') (H : ∀ W,Calls Tryz.prog 62 #[.int .i64 hi] W fun e w' => e = .returned (.string sh) /\ Below W.heap.size W w') (w : World) :
  Calls Tryz.prog 41 #[.int .i64 lo,.int .i64 hi,.bool lz] w fun e w' => e = .returned (.string (timesS true false false false false sl sh ++ (if lz then ⟨#[63]⟩ else ⟨#[]⟩))) /\ Below w.heap.size w w' := by
 have HL := qhid L;have HH := qhid H;clear L H;obtain rfl : lo = 0 := by simpa using _h0
 cases lz with
 | true =>
  go_enter Tryz.func41,Tryz.ntmps41
  go_wp2_with fail
  refine (HL.out w).mono ?_;rintro e w1 ⟨rfl,h5⟩;have H5 := qhid h5;clear h5
  go_wp2_with fail
  refine (HH.out w1).mono ?_;rintro e w2 ⟨rfl,h6⟩;have H6 := qhid (H5.out.trans (h6.mono H5.out.size));clear h6
  go_wp2_with fail
  go_ret
  exact ⟨rfl,H6.out⟩
 | false =>
  go_enter Tryz.func41,Tryz.ntmps41
  go_wp2_with fail
  refine (HL.out w).mono ?_;rintro e w1 ⟨rfl,h5⟩;have H5 := qhid h5;clear h5
  go_wp2_with fail
  refine (HH.out w1).mono ?_;rintro e w2 ⟨rfl,h6⟩;have H6 := qhid (H5.out.trans (h6.mono H5.out.size));clear h6
  go_wp2_with fail
  go_ret
  exact ⟨by rw [app_none] <;> rfl,H6.out⟩
theorem rtimes_aot (lo hi : Int) (sl sh : ByteArray) (lz : Bool) (_h0 : (lo == 0) = true) (_h1 : (lo == 1) = false) (_h2 : (hi == -1) = false) (_h3 : (hi == 1) = false) (_h4 : (lo == hi) = true) (_h5 : (hi == lo) = true) (_s1 : sl.size <= 21) (_s2 : sh.size <= 21)
  (L : ∀ W,Calls Tryz.prog 62 #[.int .i64 lo] W fun e w' => e = .returned (.string sl) /\ Below W.heap.size W w') (H : ∀ W,Calls Tryz.prog 62 #[.int .i64 hi] W fun e w' => e = .returned (.string sh) /\ Below W.heap.size W w') (w : World) :
  Calls Tryz.prog 41 #[.int .i64 lo,.int .i64 hi,.bool lz] w fun e w' => e = .returned (.string (timesS true false false false true sl sh ++ (if lz then ⟨#[63]⟩ else ⟨#[]⟩))) /\ Below w.heap.size w w' := by
 have HL := qhid L;have HH := qhid H;clear L H;obtain rfl : lo = 0 := by simpa using _h0
 obtain rfl : 0 = hi := by simpa using _h4
 cases lz with
 | true =>
  go_enter Tryz.func41,Tryz.ntmps41
  go_wp2_with fail
  refine (HL.out w).mono ?_;rintro e w1 ⟨rfl,h5⟩;have H5 := qhid h5;clear h5
  go_wp2_with fail
  go_ret
  exact ⟨rfl,H5.out⟩
 | false =>
  go_enter Tryz.func41,Tryz.ntmps41
  go_wp2_with fail
  refine (HL.out w).mono ?_;rintro e w1 ⟨rfl,h5⟩;have H5 := qhid h5;clear h5
  go_wp2_with fail
  go_ret
  exact ⟨by rw [app_none] <;> rfl,H5.out⟩
theorem rtimes_bmf (lo hi : Int) (sl sh : ByteArray) (lz : Bool) (_h0 : (lo == 0) = false) (_h1 : (lo == 1) = true) (_h2 : (hi == -1) = true) (_h3 : (hi == 1) = false) (_h4 : (lo == hi) = false) (_h5 : (hi == lo) = false) (_s1 : sl.size <= 21) (_s2 : sh.size <= 21)
  (L : ∀ W,Calls Tryz.prog 62 #[.int .i64 lo] W fun e w' => e = .returned (.string sl) /\ Below W.heap.size W w') (H : ∀ W,Calls Tryz.prog 62 #[.int .i64 hi] W fun e w' => e = .returned (.string sh) /\ Below W.heap.size W w') (w : World) :
  Calls Tryz.prog 41 #[.int .i64 lo,.int .i64 hi,.bool lz] w fun e w' => e = .returned (.string (timesS false true true false false sl sh ++ (if lz then ⟨#[63]⟩ else ⟨#[]⟩))) /\ Below w.heap.size w w' := by
 have HL := qhid L;have HH := qhid H;clear L H;obtain rfl : lo = 1 := by simpa using _h1
 obtain rfl : hi = -1 := by simpa using _h2
 cases lz with
 | true =>
  go_enter Tryz.func41,Tryz.ntmps41
  go_wp2_with fail
  refine (HL.out w).mono ?_;rintro e w1 ⟨rfl,h5⟩;have H5 := qhid h5;clear h5
  go_wp2_with fail
  go_ret
  exact ⟨rfl,H5.out⟩
 | false =>
  go_enter Tryz.func41,Tryz.ntmps41
  go_wp2_with fail
  refine (HL.out w).mono ?_;rintro e w1 ⟨rfl,h5⟩;have H5 := qhid h5;clear h5
  go_wp2_with fail
  go_ret
  exact ⟨by rw [app_none] <;> rfl,H5.out⟩
theorem rtimes_bbt (lo hi : Int) (sl sh : ByteArray) (lz : Bool) (_h0 : (lo == 0) = false) (_h1 : (lo == 1) = true) (_h2 : (hi == -1) = false) (_h3 : (hi == 1) = true) (_h4 : (lo == hi) = true) (_h5 : (hi == lo) = true) (_s1 : sl.size <= 21) (_s2 : sh.size <= 21)
  (L : ∀ W,Calls Tryz.prog 62 #[.int .i64 lo] W fun e w' => e = .returned (.string sl) /\ Below W.heap.size W w') (H : ∀ W,Calls Tryz.prog 62 #[.int .i64 hi] W fun e w' => e = .returned (.string sh) /\ Below W.heap.size W w') (w : World) :
  Calls Tryz.prog 41 #[.int .i64 lo,.int .i64 hi,.bool lz] w fun e w' => e = .returned (.string (timesS false true false true true sl sh ++ (if lz then ⟨#[63]⟩ else ⟨#[]⟩))) /\ Below w.heap.size w w' := by
 have HL := qhid L;have HH := qhid H;clear L H;obtain rfl : lo = 1 := by simpa using _h1
 obtain rfl : hi = 1 := by simpa using _h3
 cases lz with
 | true =>
  go_enter Tryz.func41,Tryz.ntmps41
  go_wp2_with fail
  refine (HL.out w).mono ?_;rintro e w1 ⟨rfl,h5⟩;have H5 := qhid h5;clear h5
  go_wp2_with fail
  go_ret
  exact ⟨rfl,H5.out⟩
 | false =>
  go_enter Tryz.func41,Tryz.ntmps41
  go_wp2_with fail
  refine (HL.out w).mono ?_;rintro e w1 ⟨rfl,h5⟩;have H5 := qhid h5;clear h5
  go_wp2_with fail
  go_ret
  exact ⟨by rw [app_none] <;> rfl,H5.out⟩
theorem rtimes_bof (lo hi : Int) (sl sh : ByteArray) (lz : Bool) (_h0 : (lo == 0) = false) (_h1 : (lo == 1) = true) (_h2 : (hi == -1) = false) (_h3 : (hi == 1) = false) (_h4 : (lo == hi) = false) (_h5 : (hi == lo) = false) (_s1 : sl.size <= 21) (_s2 : sh.size <= 21)
  (L : ∀ W,Calls Tryz.prog 62 #[.int .i64 lo] W fun e w' => e = .returned (.string sl) /\ Below W.heap.size W w') (H : ∀ W,Calls Tryz.prog 62 #[.int .i64 hi] W fun e w' => e = .returned (.string sh) /\ Below W.heap.size W w') (w : World) :
  Calls Tryz.prog 41 #[.int .i64 lo,.int .i64 hi,.bool lz] w fun e w' => e = .returned (.string (timesS false true false false false sl sh ++ (if lz then ⟨#[63]⟩ else ⟨#[]⟩))) /\ Below w.heap.size w w' := by
 have HL := qhid L;have HH := qhid H;clear L H;obtain rfl : lo = 1 := by simpa using _h1
 cases lz with
 | true =>
  go_enter Tryz.func41,Tryz.ntmps41
  go_wp2_with fail
  refine (HL.out w).mono ?_;rintro e w1 ⟨rfl,h5⟩;have H5 := qhid h5;clear h5
  go_wp2_with fail
  refine (HH.out w1).mono ?_;rintro e w2 ⟨rfl,h6⟩;have H6 := qhid (H5.out.trans (h6.mono H5.out.size));clear h6
  go_wp2_with fail
  go_ret
  exact ⟨rfl,H6.out⟩
 | false =>
  go_enter Tryz.func41,Tryz.ntmps41
  go_wp2_with fail
  refine (HL.out w).mono ?_;rintro e w1 ⟨rfl,h5⟩;have H5 := qhid h5;clear h5
  go_wp2_with fail
  refine (HH.out w1).mono ?_;rintro e w2 ⟨rfl,h6⟩;have H6 := qhid (H5.out.trans (h6.mono H5.out.size));clear h6
  go_wp2_with fail
  go_ret
  exact ⟨by rw [app_none] <;> rfl,H6.out⟩
theorem rtimes_omf (lo hi : Int) (sl sh : ByteArray) (lz : Bool) (_h0 : (lo == 0) = false) (_h1 : (lo == 1) = false) (_h2 : (hi == -1) = true) (_h3 : (hi == 1) = false) (_h4 : (lo == hi) = false) (_h5 : (hi == lo) = false) (_s1 : sl.size <= 21) (_s2 : sh.size <= 21)
  (L : ∀ W,Calls Tryz.prog 62 #[.int .i64 lo] W fun e w' => e = .returned (.string sl) /\ Below W.heap.size W w') (H : ∀ W,Calls Tryz.prog 62 #[.int .i64 hi] W fun e w' => e = .returned (.string sh) /\ Below W.heap.size W w') (w : World) :
  Calls Tryz.prog 41 #[.int .i64 lo,.int .i64 hi,.bool lz] w fun e w' => e = .returned (.string (timesS false false true false false sl sh ++ (if lz then ⟨#[63]⟩ else ⟨#[]⟩))) /\ Below w.heap.size w w' := by
 have HL := qhid L;have HH := qhid H;clear L H;obtain rfl : hi = -1 := by simpa using _h2
 cases lz with
 | true =>
  go_enter Tryz.func41,Tryz.ntmps41
  go_wp2_with fail
  refine (HL.out w).mono ?_;rintro e w1 ⟨rfl,h5⟩;have H5 := qhid h5;clear h5
  go_wp2_with fail
  go_ret
  exact ⟨rfl,H5.out⟩
 | false =>
  go_enter Tryz.func41,Tryz.ntmps41
  go_wp2_with fail
  refine (HL.out w).mono ?_;rintro e w1 ⟨rfl,h5⟩;have H5 := qhid h5;clear h5
  go_wp2_with fail
  go_ret
  exact ⟨by rw [app_none] <;> rfl,H5.out⟩
theorem rtimes_omt (lo hi : Int) (sl sh : ByteArray) (lz : Bool) (_h0 : (lo == 0) = false) (_h1 : (lo == 1) = false) (_h2 : (hi == -1) = true) (_h3 : (hi == 1) = false) (_h4 : (lo == hi) = true) (_h5 : (hi == lo) = true) (_s1 : sl.size <= 21) (_s2 : sh.size <= 21)
  (L : ∀ W,Calls Tryz.prog 62 #[.int .i64 lo] W fun e w' => e = .returned (.string sl) /\ Below W.heap.size W w') (H : ∀ W,Calls Tryz.prog 62 #[.int .i64 hi] W fun e w' => e = .returned (.string sh) /\ Below W.heap.size W w') (w : World) :
  Calls Tryz.prog 41 #[.int .i64 lo,.int .i64 hi,.bool lz] w fun e w' => e = .returned (.string (timesS false false true false true sl sh ++ (if lz then ⟨#[63]⟩ else ⟨#[]⟩))) /\ Below w.heap.size w w' := by
 have HL := qhid L;have HH := qhid H;clear L H;obtain rfl : hi = -1 := by simpa using _h2
 cases lz with
 | true =>
  go_enter Tryz.func41,Tryz.ntmps41
  go_wp2_with fail
  refine (HL.out w).mono ?_;rintro e w1 ⟨rfl,h5⟩;have H5 := qhid h5;clear h5
  go_wp2_with fail
  go_ret
  exact ⟨rfl,H5.out⟩
 | false =>
  go_enter Tryz.func41,Tryz.ntmps41
  go_wp2_with fail
  refine (HL.out w).mono ?_;rintro e w1 ⟨rfl,h5⟩;have H5 := qhid h5;clear h5
  go_wp2_with fail
  go_ret
  exact ⟨by rw [app_none] <;> rfl,H5.out⟩
theorem rtimes_obf (lo hi : Int) (sl sh : ByteArray) (lz : Bool) (_h0 : (lo == 0) = false) (_h1 : (lo == 1) = false) (_h2 : (hi == -1) = false) (_h3 : (hi == 1) = true) (_h4 : (lo == hi) = false) (_h5 : (hi == lo) = false) (_s1 : sl.size <= 21) (_s2 : sh.size <= 21)
  (L : ∀ W,Calls Tryz.prog 62 #[.int .i64 lo] W fun e w' => e = .returned (.string sl) /\ Below W.heap.size W w') (H : ∀ W,Calls Tryz.prog 62 #[.int .i64 hi] W fun e w' => e = .returned (.string sh) /\ Below W.heap.size W w') (w : World) :
  Calls Tryz.prog 41 #[.int .i64 lo,.int .i64 hi,.bool lz] w fun e w' => e = .returned (.string (timesS false false false true false sl sh ++ (if lz then ⟨#[63]⟩ else ⟨#[]⟩))) /\ Below w.heap.size w w' := by
 have HL := qhid L;have HH := qhid H;clear L H;obtain rfl : hi = 1 := by simpa using _h3
 cases lz with
 | true =>
  go_enter Tryz.func41,Tryz.ntmps41
  go_wp2_with fail
  refine (HL.out w).mono ?_;rintro e w1 ⟨rfl,h5⟩;have H5 := qhid h5;clear h5
  go_wp2_with fail
  refine (HH.out w1).mono ?_;rintro e w2 ⟨rfl,h6⟩;have H6 := qhid (H5.out.trans (h6.mono H5.out.size));clear h6
  go_wp2_with fail
  go_ret
  exact ⟨rfl,H6.out⟩
 | false =>
  go_enter Tryz.func41,Tryz.ntmps41
  go_wp2_with fail
  refine (HL.out w).mono ?_;rintro e w1 ⟨rfl,h5⟩;have H5 := qhid h5;clear h5
  go_wp2_with fail
  refine (HH.out w1).mono ?_;rintro e w2 ⟨rfl,h6⟩;have H6 := qhid (H5.out.trans (h6.mono H5.out.size));clear h6
  go_wp2_with fail
  go_ret
  exact ⟨by rw [app_none] <;> rfl,H6.out⟩
theorem rtimes_oof (lo hi : Int) (sl sh : ByteArray) (lz : Bool) (_h0 : (lo == 0) = false) (_h1 : (lo == 1) = false) (_h2 : (hi == -1) = false) (_h3 : (hi == 1) = false) (_h4 : (lo == hi) = false) (_h5 : (hi == lo) = false) (_s1 : sl.size <= 21) (_s2 : sh.size <= 21)
  (L : ∀ W,Calls Tryz.prog 62 #[.int .i64 lo] W fun e w' => e = .returned (.string sl) /\ Below W.heap.size W w') (H : ∀ W,Calls Tryz.prog 62 #[.int .i64 hi] W fun e w' => e = .returned (.string sh) /\ Below W.heap.size W w') (w : World) :
  Calls Tryz.prog 41 #[.int .i64 lo,.int .i64 hi,.bool lz] w fun e w' => e = .returned (.string (timesS false false false false false sl sh ++ (if lz then ⟨#[63]⟩ else ⟨#[]⟩))) /\ Below w.heap.size w w' := by
 have HL := qhid L;have HH := qhid H;clear L H
 cases lz with
 | true =>
  go_enter Tryz.func41,Tryz.ntmps41
  go_wp2_with fail
  refine (HL.out w).mono ?_;rintro e w1 ⟨rfl,h5⟩;have H5 := qhid h5;clear h5
  go_wp2_with fail
  refine (HH.out w1).mono ?_;rintro e w2 ⟨rfl,h6⟩;have H6 := qhid (H5.out.trans (h6.mono H5.out.size));clear h6
  go_wp2_with fail
  go_ret
  exact ⟨rfl,H6.out⟩
 | false =>
  go_enter Tryz.func41,Tryz.ntmps41
  go_wp2_with fail
  refine (HL.out w).mono ?_;rintro e w1 ⟨rfl,h5⟩;have H5 := qhid h5;clear h5
  go_wp2_with fail
  refine (HH.out w1).mono ?_;rintro e w2 ⟨rfl,h6⟩;have H6 := qhid (H5.out.trans (h6.mono H5.out.size));clear h6
  go_wp2_with fail
  go_ret
  exact ⟨by rw [app_none] <;> rfl,H6.out⟩
theorem rtimes_oot (lo hi : Int) (sl sh : ByteArray) (lz : Bool) (_h0 : (lo == 0) = false) (_h1 : (lo == 1) = false) (_h2 : (hi == -1) = false) (_h3 : (hi == 1) = false) (_h4 : (lo == hi) = true) (_h5 : (hi == lo) = true) (_s1 : sl.size <= 21) (_s2 : sh.size <= 21)
  (L : ∀ W,Calls Tryz.prog 62 #[.int .i64 lo] W fun e w' => e = .returned (.string sl) /\ Below W.heap.size W w') (H : ∀ W,Calls Tryz.prog 62 #[.int .i64 hi] W fun e w' => e = .returned (.string sh) /\ Below W.heap.size W w') (w : World) :
  Calls Tryz.prog 41 #[.int .i64 lo,.int .i64 hi,.bool lz] w fun e w' => e = .returned (.string (timesS false false false false true sl sh ++ (if lz then ⟨#[63]⟩ else ⟨#[]⟩))) /\ Below w.heap.size w w' := by
 have HL := qhid L;have HH := qhid H;clear L H;obtain rfl : lo = hi := by simpa using _h4
 cases lz with
 | true =>
  go_enter Tryz.func41,Tryz.ntmps41
  go_wp2_with fail
  refine (HL.out w).mono ?_;rintro e w1 ⟨rfl,h5⟩;have H5 := qhid h5;clear h5
  go_wp2_with fail
  go_ret
  exact ⟨rfl,H5.out⟩
 | false =>
  go_enter Tryz.func41,Tryz.ntmps41
  go_wp2_with fail
  refine (HL.out w).mono ?_;rintro e w1 ⟨rfl,h5⟩;have H5 := qhid h5;clear h5
  go_wp2_with fail
  go_ret
  exact ⟨by rw [app_none] <;> rfl,H5.out⟩
theorem prefcount_any (lo hi : Int) (lz : Bool) (hlo : I64 lo) (hhi : I64 hi) (w : World) :
  Calls Tryz.prog 41 #[.int .i64 lo,.int .i64 hi,.bool lz] w fun e w' => e = .returned (.string (baN (rcN lo hi lz))) /\ Below w.heap.size w w' := by
 have e : baN (rcN lo hi lz) = timesS (lo == 0) (lo == 1) (hi == -1) (hi == 1) (lo == hi) (itS lo) (itS hi) ++ (if lz then ⟨#[63]⟩ else ⟨#[]⟩) := by
  rw [times_eq];unfold rcN;rw [baN_append]
  cases lz <;> rfl
 rw [e];have L := fun W => prefnum_any lo hlo.1 hlo.2 W
 have H := fun W => prefnum_any hi hhi.1 hhi.2 W
 have s1 := itS_size hlo;have s2 := itS_size hhi;have hsym : (hi == lo) = (lo == hi) := by rw [Bool.eq_iff_iff];simp;omega
 cases h0 : (lo == 0) <;> cases h1 : (lo == 1) <;> cases h2 : (hi == -1) <;> cases h3 : (hi == 1) <;> cases h4 : (lo == hi) <;> (rw [h4] at hsym;first
  | (exfalso;simp only [beq_iff_eq,beq_eq_false_iff_ne,ne_eq] at h0 h1 h2 h3 h4;omega)
  | exact rtimes_amf lo hi _ _ lz h0 h1 h2 h3 h4 hsym s1 s2 L H w
  | exact rtimes_abf lo hi _ _ lz h0 h1 h2 h3 h4 hsym s1 s2 L H w
  | exact rtimes_aof lo hi _ _ lz h0 h1 h2 h3 h4 hsym s1 s2 L H w
  | exact rtimes_aot lo hi _ _ lz h0 h1 h2 h3 h4 hsym s1 s2 L H w
  | exact rtimes_bmf lo hi _ _ lz h0 h1 h2 h3 h4 hsym s1 s2 L H w
  | exact rtimes_bbt lo hi _ _ lz h0 h1 h2 h3 h4 hsym s1 s2 L H w
  | exact rtimes_bof lo hi _ _ lz h0 h1 h2 h3 h4 hsym s1 s2 L H w
  | exact rtimes_omf lo hi _ _ lz h0 h1 h2 h3 h4 hsym s1 s2 L H w
  | exact rtimes_omt lo hi _ _ lz h0 h1 h2 h3 h4 hsym s1 s2 L H w
  | exact rtimes_obf lo hi _ _ lz h0 h1 h2 h3 h4 hsym s1 s2 L H w
  | exact rtimes_oof lo hi _ _ lz h0 h1 h2 h3 h4 hsym s1 s2 L H w
  | exact rtimes_oot lo hi _ _ lz h0 h1 h2 h3 h4 hsym s1 s2 L H w)
end
end
section
section
open Go Go.RowKit
def cntB (f : Nat -> Bool) : Nat -> Nat
 | 0 => 0
 | k + 1 => cntB f k + (if f k then 1 else 0)
def lastB (f : Nat -> Bool) : Nat -> Nat
 | 0 => 0
 | k + 1 => if f k then k else lastB f k
theorem cntB_filter (f : Nat -> Bool) : ∀ k,((List.range k).filter f).length = cntB f k
 | 0 => rfl
 | k + 1 => by
  rw [List.range_succ,List.filter_append,List.length_append,cntB_filter f k,cntB]
  cases h : f k <;> simp [h]
theorem cntB_le (f : Nat -> Bool) : ∀ k,cntB f k <= k
 | 0 => jN _
 | k + 1 => by have := cntB_le f k;rw [cntB];split <;> omega
theorem cntB_not (f : Nat -> Bool) : ∀ k,cntB f k + cntB (fun n => !f n) k = k
 | 0 => rfl
 | k + 1 => by
  have := cntB_not f k;rw [cntB,cntB]
  cases f k <;> simp <;> omega
theorem cntB_one {f : Nat -> Bool} : ∀ {k i : Nat},i < k -> f i = true -> 1 <= cntB f k
 | k + 1,i,h,hf => by
  rw [cntB]
  by_cases e : i = k
  ·subst e;rw [if_pos hf];omega
  ·have := cntB_one (k := k) (show i < k by omega) hf;omega
theorem cntB_two {f : Nat -> Bool} : ∀ {k i j : Nat},i < j -> j < k -> f i = true -> f j = true -> 2 <= cntB f k
 | k + 1,i,j,hij,hj,hi,hf => by
  rw [cntB]
  by_cases e : j = k
  ·subst e;have := cntB_one hij hi;rw [if_pos hf];omega
  ·have := cntB_two (k := k) hij (show j < k by omega) hi hf;omega
theorem cntB_but (f : Nat -> Bool) : ∀ k,cntB f k = cntB (fun n => f n && decide (n ≠ 10)) k + (if 10 < k /\ f 10 = true then 1 else 0)
 | 0 => rfl
 | k + 1 => by
  have h := cntB_but f k;rw [cntB,cntB,h]
  by_cases e : k = 10
  ·subst e;rw [if_neg (by omega)]
   cases f 10 <;> simp
  ·have e2 : decide (k ≠ 10) = true := by simpa using e
   rw [e2,Bool.and_true]
   have e3 : (if 10 < k + 1 /\ f 10 = true then 1 else 0 : Nat) = if 10 < k /\ f 10 = true then 1 else 0 := by
    by_cases h10 : 10 < k /\ f 10 = true
    ·rw [if_pos h10,if_pos ⟨by omega,h10.2⟩]
    ·rw [if_neg h10,if_neg (fun h => h10 ⟨by omega,h.2⟩)]
   rw [e3];omega
theorem lastB_ok {f : Nat -> Bool} : ∀ {k i : Nat},i < k -> f i = true -> lastB f k < k /\ f (lastB f k) = true
 | k + 1,i,h,hf => by
  rw [lastB]
  by_cases e : f k = true
  ·rw [if_pos e];exact ⟨by omega,e⟩
  ·rw [if_neg e];have hik : i ≠ k := fun h => e (by rw [<- h];exact hf)
   have := lastB_ok (k := k) (show i < k by omega) hf;exact ⟨by omega,this.2⟩
theorem ones_cnt (t : W4) : (ones t).length = cntB t.mem 256 := cntB_filter t.mem 256
theorem point_iff {t : W4} (ht : t.fit) : t = notW (oneW 10) ↔ cntB t.mem 256 = 255 /\ cntB (fun n => t.mem n && decide (n ≠ 10)) 256 = 255 := by
 constructor
 ·intro h;subst h;decide +kernel
 ·rintro ⟨h1,h2⟩;have hb := cntB_but t.mem 256
  have h10 : t.mem 10 = false := by
   cases hx : t.mem 10 with
   | false => rfl
   | true => rw [if_pos ⟨by omega,hx⟩] at hb;omega
  refine W4.ext' ht (notW_fit _) fun n hn => ?_
  rw [notW_mm,oneW_mm (by omega) hn]
  by_cases e : n = 10
  ·subst e;rw [h10];rfl
  ·rw [jF e]
   cases hx : t.mem n with
   | true => rfl
   | false =>
    have hc := cntB_not t.mem 256
    have h2' : 2 <= cntB (fun n => !t.mem n) 256 := by
     rcases Nat.lt_or_gt_of_ne e with h | h
     ·exact cntB_two h (by omega) (by simp [hx]) (by simp [h10])
     ·exact cntB_two h hn (by simp [h10]) (by simp [hx])
    omega
theorem set_none {t : W4} (h : cntB t.mem 256 = 0) : setN t = [91,94,92,120,48,48,45,92,120,102,102,93] := by
 have ho : ones t = [] := by have := ones_cnt t;rw [h] at this;exact List.length_eq_zero_iff.1 this
 unfold setN;rw [if_neg (fun e => by rw [(eqW_iff _ _).1 e] at h;revert h;decide +kernel),ho]
theorem set_point {t : W4} (ht : t.fit) (h1 : cntB t.mem 256 = 255) (h2 : cntB (fun n => t.mem n && decide (n ≠ 10)) 256 = 255) : setN t = [46] := by
 unfold setN;rw [if_pos ((eqW_iff _ _).2 ((point_iff ht).2 ⟨h1,h2⟩))]
theorem set_one {t : W4} (h : cntB t.mem 256 = 1) : setN t = brN (lastB t.mem 256) /\ lastB t.mem 256 < 256 := by
 have ho := ones_cnt t;rw [h] at ho;obtain ⟨x,hx⟩ := List.length_eq_one_iff.1 ho;have hm := only_mem (onlyW_iff.2 hx);have hl := lastB_ok hm.1 hm.2.1;have e := hm.2.2 _ hl.1 hl.2;refine ⟨?_,hl.1⟩;unfold setN;rw [if_neg (fun e => by rw [(eqW_iff _ _).1 e] at h;revert h;decide +kernel),hx,e]
theorem set_more {t : W4} (ht : t.fit) (h0 : cntB t.mem 256 ≠ 0) (h1 : cntB t.mem 256 ≠ 1) (h2 : ¬ (cntB t.mem 256 = 255 /\ cntB (fun n => t.mem n && decide (n ≠ 10)) 256 = 255)) : setN t = clsN (rsOf t.mem) := by
 have ho := ones_cnt t;unfold setN;rw [if_neg (fun e => h2 ((point_iff ht).1 ((eqW_iff _ _).1 e)))]
 cases hl : ones t with
 | nil => rw [hl] at ho;exact absurd ho.symm h0
 | cons x l =>
  cases l with
  | nil => rw [hl] at ho;exact absurd ho.symm h1
  | cons y l => rfl
structure RgIdx (rs : List (Nat × Nat)) (k j : Nat) : Prop where
 le : j <= rs.length
 low : ∀ i (h : i < rs.length),i < j -> (rs[i]).1 < k
 high : ∀ i (h : i < rs.length),j <= i -> k <= (rs[i]).1
theorem rg_in {rs : List (Nat × Nat)} {n : Nat} : inRs rs n = true ↔ ∃ i,∃ h : i < rs.length,(rs[i]).1 <= n /\ n <= (rs[i]).2 := by
 unfold inRs;rw [List.any_eq_true]
 constructor
 ·rintro ⟨p,hp,h⟩;obtain ⟨i,hi,rfl⟩ := List.mem_iff_getElem.1 hp;exact ⟨i,hi,of_decide_eq_true h⟩
 ·rintro ⟨i,hi,h⟩;exact ⟨rs[i],List.getElem_mem hi,jT h⟩
theorem rise_far {rs : List (Nat × Nat)} (hr : Rise rs) : ∀ (j : Nat) (h : j < rs.length) (i : Nat) (hi : i < rs.length),i < j -> (rs[i]).2 + 1 < (rs[j]).1
 | 0,_,i,_,hij => absurd hij (Nat.not_lt_zero i)
 | j + 1,h,i,hi,hij => by
  by_cases e : i = j
  ·subst e;exact (rise_each rs hr i hi).2.2 h
  ·have h1 := rise_far hr j (by omega) i hi (by omega);have h2 := rise_each rs hr j (by omega);have h3 := h2.2.2 h;omega
theorem RgIdx.skip {rs : List (Nat × Nat)} {k j : Nat} (h : RgIdx rs k j) (hr : Rise rs) (hk : k < 256) (hno : inRs rs k = false \/ (0 < k /\ inRs rs (k - 1) = true)) : RgIdx rs (k + 1) j := by
 refine ⟨h.le,fun i hi hij => Nat.lt_succ_of_lt (h.low i hi hij),fun i hi hij => ?_⟩;have hge := h.high i hi hij
 by_cases e : k = (rs[i]).1
 ·exfalso;have h1 := rise_each rs hr i hi
  rcases hno with hno | ⟨h0,hno⟩
  ·have : inRs rs k = true := rg_in.2 ⟨i,hi,by omega,by omega⟩;rw [hno] at this;cases this
  ·obtain ⟨m,hm,h2,h3⟩ := rg_in.1 hno
   rcases Nat.lt_trichotomy m i with hmi | rfl | hmi
   ·have := rise_far hr i hi m hm hmi;omega
   ·omega
   ·have := rise_far hr m hm i hi hmi;omega
 ·omega
theorem RgIdx.start {rs : List (Nat × Nat)} {k j : Nat} (h : RgIdx rs k j) (hr : Rise rs) (hk : inRs rs k = true) (hno : k = 0 \/ inRs rs (k - 1) = false) :
  ∃ hi,rs[j]? = some (k,hi) /\ k <= hi /\ hi < 256 /\ (∀ n,k <= n -> n <= hi -> inRs rs n = true) /\ (hi = 255 \/ inRs rs (hi + 1) = false) /\ RgIdx rs (k + 1) (j + 1) := by
 obtain ⟨m,hm,h2,h3⟩ := rg_in.1 hk;have h1 := rise_each rs hr m hm
 have e : (rs[m]).1 = k := by
  rcases hno with rfl | hno
  ·omega
  ·by_cases e : (rs[m]).1 = k
   ·exact e
   ·exfalso;have : inRs rs (k - 1) = true := rg_in.2 ⟨m,hm,by omega,by omega⟩;rw [hno] at this;cases this
 have hjm : j = m := by
  rcases Nat.lt_trichotomy j m with hjm | hjm | hjm
  ·exfalso;have h4 := h.high j (by omega) (jN _);have h5 := rise_far hr m hm j (by omega) hjm;have h6 := rise_each rs hr j (by omega);omega
  ·exact hjm
  ·have := h.low m hm hjm;omega
 subst hjm;refine ⟨(rs[j]).2,?_,by omega,by omega,fun n hn1 hn2 => rg_in.2 ⟨j,hm,by omega,hn2⟩,?_,?_⟩
 ·rw [List.getElem?_eq_getElem hm,<- e]
 ·by_cases h255 : (rs[j]).2 = 255
  ·exact .inl h255
  ·right
   cases hx : inRs rs ((rs[j]).2 + 1) with
   | false => rfl
   | true =>
    exfalso;obtain ⟨n,hn,h4,h5⟩ := rg_in.1 hx
    rcases Nat.lt_trichotomy n j with hnj | rfl | hnj
    ·have := rise_far hr j hm n hn hnj;omega
    ·omega
    ·have := rise_far hr n hn j hm hnj;omega
 ·refine ⟨hm,fun i hi hij => ?_,fun i hi hij => ?_⟩
  ·by_cases e2 : i = j
   ·subst e2;omega
   ·have := h.low i hi (by omega);omega
  ·have := rise_far hr i hi j hm (by omega);omega
theorem RgIdx.zero (rs : List (Nat × Nat)) : RgIdx rs 0 0 := ⟨Nat.zero_le _,fun i _ h => absurd h (by omega),fun i _ _ => Nat.zero_le _⟩
theorem RgIdx.all {rs : List (Nat × Nat)} {j : Nat} (h : RgIdx rs 256 j) (hr : Rise rs) : j = rs.length := by
 rcases Nat.lt_or_ge j rs.length with hj | hj
 ·have h1 := h.high j hj (jN _);have h2 := rise_each rs hr j hj;omega
 ·have := h.le;omega
open Go Go.RowKit
attribute [local go_sem ↓] Go.wp_at_zero Go.wp_at_succ
attribute [local go_sem] eq4
theorem ba_assoc (x y z : ByteArray) : x ++ y ++ (⟨#[45]⟩ ++ z) = x ++ y ++ ⟨#[45]⟩ ++ z := by simp [ByteArray.append_assoc]
theorem prefset_any (t : W4) (ht : t.fit) (w : World) :
  Calls Tryz.prog 40 #[setVal t] w fun e w' => e = .returned (.string (baN (setN t))) /\ Below w.heap.size w w' := by
 have HS : Hid (∀ (n : Nat) (W : World),n < 256 -> Calls Tryz.prog 60 #[setVal t,.int .i64 (n : Int)] W fun e w' => e = .returned (.bool (t.mem n)) /\ Below W.heap.size W w') := qhid (fun n W hn => refhas_any t.a t.b t.c t.d n W hn ht.1 ht.2.1 ht.2.2.1 ht.2.2.2);have HBY := qhid (fun (n : Nat) (W : World) (hn : n < 256) => prefbyte_any n hn W);have HFIT := qhid ht;obtain ⟨rs,hrs⟩ : ∃ rs,rs = rsOf t.mem := ⟨_,rfl⟩;have HR : Hid (Rise rs) := qhid (by rw [hrs];exact (rsOf_ok t.mem).1);have HIN : Hid (∀ n,n < 256 -> inRs rs n = t.mem n) := qhid (by rw [hrs];exact (rsOf_ok t.mem).2);have hlen : rs.length <= 256 := by rw [hrs];exact rs_count t.mem 256
 have HRS := qhid hrs;obtain ⟨N,hN⟩ : ∃ N,N = baN (setN t) := ⟨_,rfl⟩;rw [<- hN];have HN := qhid hN;clear hN hrs ht
 go_enter Tryz.func40,Tryz.ntmps40
 go_wp2_with fail
 generalize hws : w.alloc _ = ws
 have HS0 : HeldZ ws w.heap.size t.a t.b t.c t.d ws := by
  subst hws;exact ⟨⟨by simp [go_sem],by simp [go_sem],by simp [go_sem],by simp [go_sem]⟩,by simp,Below.refl _ _⟩
 have hba : Below w.heap.size w ws := by subst hws;exact below1 _ _
 clear hws;have HB := qhid hba;have hs := hba.size;have HS1 := qhid HS0;clear hba HS0;generalize w.heap.size = gs at HS1 ⊢
 go_loopw [3,4,5,6] (fun nv bv lv iv wr => ∃ k : Nat,k <= 256 /\ iv = .int .i64 k /\ nv = .int .i64 (cntB t.mem k : Nat) /\ bv = .int .i64 (cntB (fun n => t.mem n && decide (n ≠ 10)) k : Nat) /\ lv = .int .i64 (lastB t.mem k : Nat) /\ Hid (HeldZ ws gs t.a t.b t.c t.d wr)) (fun _ _ _ iv _ => 256 - (intOf iv).toNat)
 case atStart => exact ⟨0,by omega,rfl,rfl,rfl,rfl,HS1⟩
 case round =>
  obtain ⟨k,hk,rfl,rfl,rfl,rfl,HH⟩ := hrel;have hc1 := cntB_le t.mem k;have hc2 := cntB_le (fun n => t.mem n && decide (n ≠ 10)) k;have E1 : Hid (cntB t.mem (k + 1) = cntB t.mem k + (if t.mem k then 1 else 0)) := qhid rfl;have E2 : Hid (cntB (fun n => t.mem n && decide (n ≠ 10)) (k + 1) = cntB (fun n => t.mem n && decide (n ≠ 10)) k + (if t.mem k && decide (k ≠ 10) then 1 else 0)) := qhid rfl;have E3 : Hid (lastB t.mem (k + 1) = if t.mem k then k else lastB t.mem k) := qhid rfl
  by_cases hlt : k < 256
  ·obtain ⟨⟨q0,q1,q2,q3⟩,hgl,_⟩ := HH.out;have HK := qhid (HS.out k);generalize cntB t.mem k = c1 at *;generalize cntB (fun n => t.mem n && decide (n ≠ 10)) k = c2 at *;generalize lastB t.mem k = c3 at *
   cases hm : t.mem k with
   | false =>
    have F1 : Hid (cntB t.mem (k + 1) = c1) := qhid (by rw [E1.out,hm];rfl);have F2 : Hid (cntB (fun n => t.mem n && decide (n ≠ 10)) (k + 1) = c2) := qhid (by rw [E2.out,hm];rfl);have F3 : Hid (lastB t.mem (k + 1) = c3) := qhid (by rw [E3.out,hm];rfl);rw [hm] at HK;clear E1 E2 E3 hm
    go_wp2_with fail
    refine (HK.out _ hlt).mono ?_;rintro e w1 ⟨rfl,hb⟩;have H1 := qhid (heldZ_below hb HH.out);clear hb
    go_wp2_with fail
    go_roundw
    case rel => exact ⟨k + 1,by omega,by go_num,by rw [F1.out],by rw [F2.out],by rw [F3.out],H1⟩
    case measure => simp [intOf];omega
   | true =>
    have F1 : Hid (cntB t.mem (k + 1) = c1 + 1) := qhid (by rw [E1.out,hm];rfl);have F3 : Hid (lastB t.mem (k + 1) = k) := qhid (by rw [E3.out,hm];rfl);rw [hm] at HK
    by_cases h10 : k = 10
    ·have F2 : Hid (cntB (fun n => t.mem n && decide (n ≠ 10)) (k + 1) = c2) := qhid (by rw [E2.out,hm,h10];rfl);subst h10;clear E1 E2 E3 hm
     go_wp2_with fail
     refine (HK.out _ hlt).mono ?_;rintro e w1 ⟨rfl,hb⟩;have H1 := qhid (heldZ_below hb HH.out);clear hb
     go_wp2_with fail
     go_roundw
     case rel => exact ⟨10 + 1,by omega,by go_num,by rw [F1.out];go_num,by rw [F2.out],by rw [F3.out];rfl,H1⟩
     case measure => simp [intOf]
    ·have F2 : Hid (cntB (fun n => t.mem n && decide (n ≠ 10)) (k + 1) = c2 + 1) := qhid (by rw [E2.out,hm,jT h10];rfl);have d1 : ((k : Int) == 10) = false := by simp;omega
     have d2 : ((k : Int) != 10) = true := by simp;omega
     clear E1 E2 E3 hm h10
     go_wp2_with fail
     refine (HK.out _ hlt).mono ?_;rintro e w1 ⟨rfl,hb⟩;have H1 := qhid (heldZ_below hb HH.out);clear hb
     go_wp2_with fail
     go_roundw
     case rel => exact ⟨k + 1,by omega,by go_num,by rw [F1.out];go_num,by rw [F2.out];go_num,by rw [F3.out],H1⟩
     case measure => simp [intOf];omega
  ·obtain rfl : k = 256 := by omega
   have G0 := qhid (set_none (t := t));have G1 := qhid (set_point (t := t) HFIT.out);have G2 := qhid (set_one (t := t));have G3 := qhid (set_more (t := t) HFIT.out);clear E1 E2 E3;generalize cntB t.mem 256 = c1 at *;generalize cntB (fun n => t.mem n && decide (n ≠ 10)) 256 = c2 at *;generalize lastB t.mem 256 = c3 at *;have HEND : Hid (∀ X,Below wr.heap.size wr X -> Below w.heap.size w X) := qhid (fun X hX => HB.out.trans ((HH.out.2.2.mono hs).trans (hX.mono (Nat.le_trans hs HH.out.2.2.size))))
   by_cases c0 : c1 = 0
   ·have HF : Hid (N = ⟨#[91,94,92,120,48,48,45,92,120,102,102,93]⟩) := qhid (by rw [HN.out,G0.out c0];rfl);subst c0;clear G0 G1 G2 G3
    go_wp2_with fail
    go_ret
    exact ⟨by rw [HF.out] <;> rfl,HEND.out _ (Below.refl _ _)⟩
   have b0 : ((c1 : Int) == 0) = false := by simp;omega
   by_cases c255 : c1 = 255 /\ c2 = 255
   ·have HF : Hid (N = ⟨#[46]⟩) := qhid (by rw [HN.out,G1.out c255.1 c255.2];rfl);obtain ⟨h1,h2⟩ := c255;subst h1 h2;clear G0 G1 G2 G3 c0
    go_wp2_with fail
    go_ret
    exact ⟨by rw [HF.out] <;> rfl,HEND.out _ (Below.refl _ _)⟩
   by_cases c1' : c1 = 1
   ·obtain ⟨g1,g2⟩ := G2.out c1';have HF : Hid (N = baN (brN c3)) := qhid (by rw [HN.out,g1]);have HBC := qhid (HBY.out c3 wr g2);subst c1';clear G0 G1 G2 G3 c0 c255 g1
    go_wp2_with fail
    refine HBC.out.mono ?_;rintro e w1 ⟨rfl,hb⟩;have H1 := qhid (HEND.out _ hb);clear hb
    go_wp2_with fail
    go_ret
    exact ⟨by rw [HF.out] <;> rfl,H1.out⟩
   have b1 : ((c1 : Int) == 1) = false := by simp;omega
   have HF : Hid (N = clsP rs rs.length ++ ⟨#[93]⟩) := qhid (by rw [HN.out,G3.out c0 c1' c255,clsP_end,HRS.out]);obtain ⟨⟨q0,q1,q2,q3⟩,hgl,_⟩ := HH.out
   by_cases e255 : c1 = 255
   ·have b2 : ((c2 : Int) == 255) = false := by simp;omega
    subst e255;clear G0 G1 G2 G3 c0 c255 c1' HEND
    go_wp2_with fail
    go_loopw [7,8] (fun tv iv wr2 => ∃ k j : Nat,k <= 256 /\ iv = .int .i64 k /\ tv = .string (clsP rs j) /\ Hid (RgIdx rs k j) /\ Hid (HeldZ ws gs t.a t.b t.c t.d wr2)) (fun _ iv _ => 256 - (intOf iv).toNat)
    case atStart => exact ⟨0,0,by omega,rfl,rfl,qhid (RgIdx.zero rs),HH⟩
    case round =>
     obtain ⟨k,j,hk,rfl,rfl,HI,HH2⟩ := hrel;have hsz := clsP_size rs j hlen;have HH2n := HH2.out;clear q0 q1 q2 q3 hgl;obtain ⟨⟨q0,q1,q2,q3⟩,hgl,_⟩ := HH2n
     by_cases hlt : k < 256
     ·have HK := qhid (HS.out k)
      cases hm : t.mem k with
      | false =>
       have HI2 := qhid (HI.out.skip HR.out hlt (.inl (by rw [HIN.out k hlt,hm])));rw [hm] at HK;clear hm
       go_wp2_with fail
       refine (HK.out _ hlt).mono ?_;rintro e w3 ⟨rfl,hb⟩;have H3 := qhid (heldZ_below hb HH2.out);clear hb
       go_wp2_with fail
       go_roundw
       case rel => first | exact ⟨k + 1,j,by omega,by go_num,rfl,HI2,H3⟩ | ((repeat apply Exists.intro);refine ⟨?_,rfl⟩;exact ⟨k + 1,j,by omega,by go_num,rfl,HI2,H3⟩)
       case measure => simp [intOf];omega
      | true =>
       rw [hm] at HK
       by_cases hst : k = 0 \/ t.mem (k - 1) = false
       ·obtain ⟨hi,hget,hle,hhi,hall,hmx,hidx⟩ := HI.out.start HR.out (by rw [HIN.out k hlt,hm]) (by rcases hst with h | h;exact .inl h;exact .inr (by rw [HIN.out _ (by omega)];exact h));have HPP := qhid hget;have hhall : Hid (∀ n,k <= n -> n <= hi -> t.mem n = true) := qhid (fun n h1 h2 => by rw [<- HIN.out n (by omega)];exact hall n h1 h2);have hmax : Hid (hi = 255 \/ t.mem (hi + 1) = false) := qhid (by by_cases h9 : hi = 255;exact .inl h9;exact .inr (by rw [<- HIN.out _ (by omega)];exact hmx.resolve_left h9));have HI2 := qhid hidx;clear hget hall hmx hidx hm
        by_cases hk0 : k = 0
        ·subst hk0;clear hst
         go_wp2_with fail
         refine (HK.out _ hlt).mono ?_;rintro e w3 ⟨rfl,hb⟩;have HHn := heldZ_below hb HH2.out;have HHin := qhid HHn;clear hb q0 q1 q2 q3 hgl HK;obtain ⟨⟨q0,q1,q2,q3⟩,hgl,_⟩ := HHn
         go_wp2_with fail
         go_loopw [9] (fun ev wr3 => ∃ m : Nat,0 <= m /\ m <= hi /\ ev = .int .i64 m /\ Hid (HeldZ ws gs t.a t.b t.c t.d wr3)) (fun ev _ => 256 - (intOf ev).toNat)
         case atStart => exact ⟨0,jN _,hle,rfl,HHin⟩
         case round =>
          obtain ⟨m,hkm,hmh,rfl,HE⟩ := hrel;have HEn := HE.out;clear q0 q1 q2 q3 hgl;obtain ⟨⟨q0,q1,q2,q3⟩,hgl,_⟩ := HEn
          by_cases hmlt : m < hi
          ·obtain ⟨m1,hm1⟩ : ∃ m1,m1 = m + 1 := ⟨_,rfl⟩;have e2 : (m : Int) + 1 = (m1 : Int) := by omega
           have hmem : Hid (t.mem m1 = true) := qhid (hhall.out m1 (by omega) (by omega));have m255 : (m : Int) < 255 := by omega
           have m1b : m1 <= 256 := by omega
           have HM := qhid (HS.out m1);rw [hmem.out] at HM;have HMI := qhid (show 0 <= m1 /\ m1 <= hi /\ m < m1 by omega);have hm1c : m1 < 256 := by omega
           clear hm1
           go_wp2_with fail
           refine (HM.out _ hm1c).mono ?_;rintro e w4 ⟨rfl,hb⟩;have H4 := qhid (heldZ_below hb HE.out);clear hb
           go_wp2_with fail
           exact ⟨⟨m1,HMI.out.1,HMI.out.2.1,rfl,H4⟩,by have := HMI.out;simp [intOf];omega⟩
          ·obtain rfl : m = hi := by omega
           clear hmlt hkm hmh
           by_cases h255 : m = 255
           ·have m255 : decide ((m : Int) < 255) = false := jF (by omega);clear h255
            by_cases heq : m = 0
            ·subst heq;exact absurd m255 (by simp)
            ·have hgt : 0 < m := by omega
             have HF2 := qhid (clsP_two HPP.out (fun e => heq e.symm));have hgt2 : (((0 : Nat) : Int) : Int) < (m : Int) := by omega
             have s0 := br_le 0;have s1 := br_le m;rw [<- baN_size] at s0 s1;have BK := qhid (fun W => HBY.out 0 W (by omega));have BH := qhid (fun W => HBY.out m W hhi);clear heq hhall hmax HHin
             go_wp2_with fail
             refine (BK.out _).mono ?_;rintro e w4 ⟨rfl,hb⟩;have H4n := heldZ_below hb HE.out;have H4 := qhid H4n;clear hb q0 q1 q2 q3 hgl H4n
             go_wp2_with fail
             refine (BH.out _).mono ?_;rintro e w5 ⟨rfl,hb⟩;have H5n := heldZ_below hb H4.out;have H5 := qhid H5n;clear hb H5n
             go_wp2_with fail
             go_roundw
             case rel => first | exact ⟨0 + 1,j + 1,by omega,by go_num,by rw [HF2.out,ba_assoc],HI2,H5⟩ | ((repeat apply Exists.intro);refine ⟨?_,rfl⟩;exact ⟨0 + 1,j + 1,by omega,by go_num,by rw [HF2.out,ba_assoc],HI2,H5⟩)
             case measure => first | (simp [intOf];done) | (simp [intOf];omega)
           ·have m255 : (m : Int) < 255 := by omega
            have m255b : decide ((m : Int) < 255) = true := jT m255;obtain ⟨m1,hm1⟩ : ∃ m1,m1 = m + 1 := ⟨_,rfl⟩;have e2 : (m : Int) + 1 = (m1 : Int) := by omega
            have hmem : Hid (t.mem m1 = false) := qhid (by rw [hm1];exact hmax.out.resolve_left h255);have HM := qhid (HS.out m1);rw [hmem.out] at HM;have hm1c : m1 < 256 := by omega
            have m1b : m1 <= 256 := by omega
            clear hm1 h255
            go_wp2_with fail
            refine (HM.out _ hm1c).mono ?_;rintro e w3x ⟨rfl,hb⟩;have HExn := heldZ_below hb HE.out;have HEx := qhid HExn;clear hb q0 q1 q2 q3 hgl;obtain ⟨⟨q0,q1,q2,q3⟩,hgl,_⟩ := HExn;clear e2
            by_cases heq : m = 0
            ·subst heq;have HF2 := qhid (clsP_one HPP.out rfl);have s0 := br_le 0;have s1 := br_le 0;rw [<- baN_size] at s0 s1;have BK := qhid (fun W => HBY.out 0 W (by omega));have BH := qhid (fun W => HBY.out 0 W hhi);clear hhall hmax HHin
             go_wp2_with fail
             refine (BK.out _).mono ?_;rintro e w4 ⟨rfl,hb⟩;have H4n := heldZ_below hb HEx.out;have H4 := qhid H4n;clear hb q0 q1 q2 q3 hgl H4n
             go_wp2_with fail
             go_roundw
             case rel => first | exact ⟨0 + 1,j + 1,by omega,by go_num,by rw [HF2.out],HI2,H4⟩ | ((repeat apply Exists.intro);refine ⟨?_,rfl⟩;exact ⟨0 + 1,j + 1,by omega,by go_num,by rw [HF2.out],HI2,H4⟩)
             case measure => first | (simp [intOf];done) | (simp [intOf];omega)
            ·have hgt : 0 < m := by omega
             have HF2 := qhid (clsP_two HPP.out (fun e => heq e.symm));have hgt2 : (((0 : Nat) : Int) : Int) < (m : Int) := by omega
             have s0 := br_le 0;have s1 := br_le m;rw [<- baN_size] at s0 s1;have BK := qhid (fun W => HBY.out 0 W (by omega));have BH := qhid (fun W => HBY.out m W hhi);clear heq hhall hmax HHin
             go_wp2_with fail
             refine (BK.out _).mono ?_;rintro e w4 ⟨rfl,hb⟩;have H4n := heldZ_below hb HEx.out;have H4 := qhid H4n;clear hb q0 q1 q2 q3 hgl H4n
             go_wp2_with fail
             refine (BH.out _).mono ?_;rintro e w5 ⟨rfl,hb⟩;have H5n := heldZ_below hb H4.out;have H5 := qhid H5n;clear hb H5n
             go_wp2_with fail
             go_roundw
             case rel => first | exact ⟨0 + 1,j + 1,by omega,by go_num,by rw [HF2.out,ba_assoc],HI2,H5⟩ | ((repeat apply Exists.intro);refine ⟨?_,rfl⟩;exact ⟨0 + 1,j + 1,by omega,by go_num,by rw [HF2.out,ba_assoc],HI2,H5⟩)
             case measure => first | (simp [intOf];done) | (simp [intOf];omega)
        ·have hk1 : 0 < k := by omega
         have hk2 : (0 : Int) < (k : Int) := by omega
         obtain ⟨p,hp⟩ : ∃ p,p = k - 1 := ⟨_,rfl⟩;have e1 : (k : Int) - 1 = (p : Int) := by omega
         have hpm : Hid (t.mem p = false) := qhid (by rw [hp];exact hst.resolve_left hk0);have HP1 := qhid (HS.out p);rw [hpm.out] at HP1;have hp2 : p < 256 := by omega
         clear hst hp hk0
         go_wp2_with fail
         refine (HK.out _ hlt).mono ?_;rintro e w3 ⟨rfl,hb⟩;have HHn := heldZ_below hb HH2.out;have HHi1 := qhid HHn;clear hb q0 q1 q2 q3 hgl HK;obtain ⟨⟨q0,q1,q2,q3⟩,hgl,_⟩ := HHn
         go_wp2_with fail
         refine (HP1.out _ hp2).mono ?_;rintro e w3b ⟨rfl,hb⟩;have HHm := heldZ_below hb HHi1.out;have HHin := qhid HHm;clear hb q0 q1 q2 q3 hgl HP1;obtain ⟨⟨q0,q1,q2,q3⟩,hgl,_⟩ := HHm;clear e1
         go_wp2_with fail
         go_loopw [9] (fun ev wr3 => ∃ m : Nat,k <= m /\ m <= hi /\ ev = .int .i64 m /\ Hid (HeldZ ws gs t.a t.b t.c t.d wr3)) (fun ev _ => 256 - (intOf ev).toNat)
         case atStart => exact ⟨k,jN _,hle,rfl,HHin⟩
         case round =>
          obtain ⟨m,hkm,hmh,rfl,HE⟩ := hrel;have HEn := HE.out;clear q0 q1 q2 q3 hgl;obtain ⟨⟨q0,q1,q2,q3⟩,hgl,_⟩ := HEn
          by_cases hmlt : m < hi
          ·obtain ⟨m1,hm1⟩ : ∃ m1,m1 = m + 1 := ⟨_,rfl⟩;have e2 : (m : Int) + 1 = (m1 : Int) := by omega
           have hmem : Hid (t.mem m1 = true) := qhid (hhall.out m1 (by omega) (by omega));have m255 : (m : Int) < 255 := by omega
           have m1b : m1 <= 256 := by omega
           have HM := qhid (HS.out m1);rw [hmem.out] at HM;have HMI := qhid (show k <= m1 /\ m1 <= hi /\ m < m1 by omega);have hm1c : m1 < 256 := by omega
           clear hm1
           go_wp2_with fail
           refine (HM.out _ hm1c).mono ?_;rintro e w4 ⟨rfl,hb⟩;have H4 := qhid (heldZ_below hb HE.out);clear hb
           go_wp2_with fail
           exact ⟨⟨m1,HMI.out.1,HMI.out.2.1,rfl,H4⟩,by have := HMI.out;simp [intOf];omega⟩
          ·obtain rfl : m = hi := by omega
           clear hmlt hkm hmh
           by_cases h255 : m = 255
           ·have m255 : decide ((m : Int) < 255) = false := jF (by omega);clear h255
            by_cases heq : m = k
            ·subst heq;have HF2 := qhid (clsP_one HPP.out rfl);have s0 := br_le m;have s1 := br_le m;rw [<- baN_size] at s0 s1;have BK := qhid (fun W => HBY.out m W (by omega));have BH := qhid (fun W => HBY.out m W hhi);clear hhall hmax HHin
             go_wp2_with fail
             refine (BK.out _).mono ?_;rintro e w4 ⟨rfl,hb⟩;have H4n := heldZ_below hb HE.out;have H4 := qhid H4n;clear hb q0 q1 q2 q3 hgl H4n
             go_wp2_with fail
             go_roundw
             case rel => first | exact ⟨m + 1,j + 1,by omega,by go_num,by rw [HF2.out],HI2,H4⟩ | ((repeat apply Exists.intro);refine ⟨?_,rfl⟩;exact ⟨m + 1,j + 1,by omega,by go_num,by rw [HF2.out],HI2,H4⟩)
             case measure => first | (simp [intOf];done) | (simp [intOf];omega)
            ·have hgt : k < m := by omega
             have HF2 := qhid (clsP_two HPP.out (fun e => heq e.symm));have hgt2 : ((k : Int) : Int) < (m : Int) := by omega
             have s0 := br_le k;have s1 := br_le m;rw [<- baN_size] at s0 s1;have BK := qhid (fun W => HBY.out k W (by omega));have BH := qhid (fun W => HBY.out m W hhi);clear heq hhall hmax HHin
             go_wp2_with fail
             refine (BK.out _).mono ?_;rintro e w4 ⟨rfl,hb⟩;have H4n := heldZ_below hb HE.out;have H4 := qhid H4n;clear hb q0 q1 q2 q3 hgl H4n
             go_wp2_with fail
             refine (BH.out _).mono ?_;rintro e w5 ⟨rfl,hb⟩;have H5n := heldZ_below hb H4.out;have H5 := qhid H5n;clear hb H5n
             go_wp2_with fail
             go_roundw
             case rel => first | exact ⟨k + 1,j + 1,by omega,by go_num,by rw [HF2.out,ba_assoc],HI2,H5⟩ | ((repeat apply Exists.intro);refine ⟨?_,rfl⟩;exact ⟨k + 1,j + 1,by omega,by go_num,by rw [HF2.out,ba_assoc],HI2,H5⟩)
             case measure => first | (simp [intOf];done) | (simp [intOf];omega)
           ·have m255 : (m : Int) < 255 := by omega
            have m255b : decide ((m : Int) < 255) = true := jT m255;obtain ⟨m1,hm1⟩ : ∃ m1,m1 = m + 1 := ⟨_,rfl⟩;have e2 : (m : Int) + 1 = (m1 : Int) := by omega
            have hmem : Hid (t.mem m1 = false) := qhid (by rw [hm1];exact hmax.out.resolve_left h255);have HM := qhid (HS.out m1);rw [hmem.out] at HM;have hm1c : m1 < 256 := by omega
            have m1b : m1 <= 256 := by omega
            clear hm1 h255
            go_wp2_with fail
            refine (HM.out _ hm1c).mono ?_;rintro e w3x ⟨rfl,hb⟩;have HExn := heldZ_below hb HE.out;have HEx := qhid HExn;clear hb q0 q1 q2 q3 hgl;obtain ⟨⟨q0,q1,q2,q3⟩,hgl,_⟩ := HExn;clear e2
            by_cases heq : m = k
            ·subst heq;have HF2 := qhid (clsP_one HPP.out rfl);have s0 := br_le m;have s1 := br_le m;rw [<- baN_size] at s0 s1;have BK := qhid (fun W => HBY.out m W (by omega));have BH := qhid (fun W => HBY.out m W hhi);clear hhall hmax HHin
             go_wp2_with fail
             refine (BK.out _).mono ?_;rintro e w4 ⟨rfl,hb⟩;have H4n := heldZ_below hb HEx.out;have H4 := qhid H4n;clear hb q0 q1 q2 q3 hgl H4n
             go_wp2_with fail
             go_roundw
             case rel => first | exact ⟨m + 1,j + 1,by omega,by go_num,by rw [HF2.out],HI2,H4⟩ | ((repeat apply Exists.intro);refine ⟨?_,rfl⟩;exact ⟨m + 1,j + 1,by omega,by go_num,by rw [HF2.out],HI2,H4⟩)
             case measure => first | (simp [intOf];done) | (simp [intOf];omega)
            ·have hgt : k < m := by omega
             have HF2 := qhid (clsP_two HPP.out (fun e => heq e.symm));have hgt2 : ((k : Int) : Int) < (m : Int) := by omega
             have s0 := br_le k;have s1 := br_le m;rw [<- baN_size] at s0 s1;have BK := qhid (fun W => HBY.out k W (by omega));have BH := qhid (fun W => HBY.out m W hhi);clear heq hhall hmax HHin
             go_wp2_with fail
             refine (BK.out _).mono ?_;rintro e w4 ⟨rfl,hb⟩;have H4n := heldZ_below hb HEx.out;have H4 := qhid H4n;clear hb q0 q1 q2 q3 hgl H4n
             go_wp2_with fail
             refine (BH.out _).mono ?_;rintro e w5 ⟨rfl,hb⟩;have H5n := heldZ_below hb H4.out;have H5 := qhid H5n;clear hb H5n
             go_wp2_with fail
             go_roundw
             case rel => first | exact ⟨k + 1,j + 1,by omega,by go_num,by rw [HF2.out,ba_assoc],HI2,H5⟩ | ((repeat apply Exists.intro);refine ⟨?_,rfl⟩;exact ⟨k + 1,j + 1,by omega,by go_num,by rw [HF2.out,ba_assoc],HI2,H5⟩)
             case measure => first | (simp [intOf];done) | (simp [intOf];omega)
       ·have hst1 : 0 < k := by omega
        have hst2 : t.mem (k - 1) = true := by cases hx : t.mem (k - 1) with
         | true => rfl
         | false => exact absurd (.inr hx) hst
        have HI2 := qhid (HI.out.skip HR.out hlt (.inr ⟨hst1,by rw [HIN.out _ (by omega),hst2]⟩));have hk2 : (0 : Int) < (k : Int) := by omega
        obtain ⟨p,hp⟩ : ∃ p,p = k - 1 := ⟨_,rfl⟩;have e1 : (k : Int) - 1 = (p : Int) := by omega
        have hpm : Hid (t.mem p = true) := qhid (by rw [hp];exact hst2);have HP1 := qhid (HS.out p);rw [hpm.out] at HP1;have hp2 : p < 256 := by omega
        clear hst hp hst2 hm
        go_wp2_with fail
        refine (HK.out _ hlt).mono ?_;rintro e w3 ⟨rfl,hb⟩;have HHn := heldZ_below hb HH2.out;have HHi1 := qhid HHn;clear hb q0 q1 q2 q3 hgl HK;obtain ⟨⟨q0,q1,q2,q3⟩,hgl,_⟩ := HHn
        go_wp2_with fail
        refine (HP1.out _ hp2).mono ?_;rintro e w3b ⟨rfl,hb⟩;have H3 := qhid (heldZ_below hb HHi1.out);clear hb;clear e1
        go_wp2_with fail
        go_roundw
        case rel => first | exact ⟨k + 1,j,by omega,by go_num,rfl,HI2,H3⟩ | ((repeat apply Exists.intro);refine ⟨?_,rfl⟩;exact ⟨k + 1,j,by omega,by go_num,rfl,HI2,H3⟩)
        case measure => simp [intOf];omega
     ·obtain rfl : k = 256 := by omega
      obtain rfl : j = rs.length := HI.out.all HR.out;have HEN := qhid (HB.out.trans (HH2.out.2.2.mono hs));clear q0 q1 q2 q3 hgl
      go_wp2_with fail
      go_ret
      exact ⟨by rw [HF.out] <;> rfl,HEN.out⟩
   ·have b2 : ((c1 : Int) == 255) = false := by simp;omega
    clear G0 G1 G2 G3 c0 c255 c1' e255 HEND
    go_wp2_with fail
    go_loopw [7,8] (fun tv iv wr2 => ∃ k j : Nat,k <= 256 /\ iv = .int .i64 k /\ tv = .string (clsP rs j) /\ Hid (RgIdx rs k j) /\ Hid (HeldZ ws gs t.a t.b t.c t.d wr2)) (fun _ iv _ => 256 - (intOf iv).toNat)
    case atStart => exact ⟨0,0,by omega,rfl,rfl,qhid (RgIdx.zero rs),HH⟩
    case round =>
     obtain ⟨k,j,hk,rfl,rfl,HI,HH2⟩ := hrel;have hsz := clsP_size rs j hlen;have HH2n := HH2.out;clear q0 q1 q2 q3 hgl;obtain ⟨⟨q0,q1,q2,q3⟩,hgl,_⟩ := HH2n
     by_cases hlt : k < 256
     ·have HK := qhid (HS.out k)
      cases hm : t.mem k with
      | false =>
       have HI2 := qhid (HI.out.skip HR.out hlt (.inl (by rw [HIN.out k hlt,hm])));rw [hm] at HK;clear hm
       go_wp2_with fail
       refine (HK.out _ hlt).mono ?_;rintro e w3 ⟨rfl,hb⟩;have H3 := qhid (heldZ_below hb HH2.out);clear hb
       go_wp2_with fail
       go_roundw
       case rel => first | exact ⟨k + 1,j,by omega,by go_num,rfl,HI2,H3⟩ | ((repeat apply Exists.intro);refine ⟨?_,rfl⟩;exact ⟨k + 1,j,by omega,by go_num,rfl,HI2,H3⟩)
       case measure => simp [intOf];omega
      | true =>
       rw [hm] at HK
       by_cases hst : k = 0 \/ t.mem (k - 1) = false
       ·obtain ⟨hi,hget,hle,hhi,hall,hmx,hidx⟩ := HI.out.start HR.out (by rw [HIN.out k hlt,hm]) (by rcases hst with h | h;exact .inl h;exact .inr (by rw [HIN.out _ (by omega)];exact h));have HPP := qhid hget;have hhall : Hid (∀ n,k <= n -> n <= hi -> t.mem n = true) := qhid (fun n h1 h2 => by rw [<- HIN.out n (by omega)];exact hall n h1 h2);have hmax : Hid (hi = 255 \/ t.mem (hi + 1) = false) := qhid (by by_cases h9 : hi = 255;exact .inl h9;exact .inr (by rw [<- HIN.out _ (by omega)];exact hmx.resolve_left h9));have HI2 := qhid hidx;clear hget hall hmx hidx hm
        by_cases hk0 : k = 0
        ·subst hk0;clear hst
         go_wp2_with fail
         refine (HK.out _ hlt).mono ?_;rintro e w3 ⟨rfl,hb⟩;have HHn := heldZ_below hb HH2.out;have HHin := qhid HHn;clear hb q0 q1 q2 q3 hgl HK;obtain ⟨⟨q0,q1,q2,q3⟩,hgl,_⟩ := HHn
         go_wp2_with fail
         go_loopw [9] (fun ev wr3 => ∃ m : Nat,0 <= m /\ m <= hi /\ ev = .int .i64 m /\ Hid (HeldZ ws gs t.a t.b t.c t.d wr3)) (fun ev _ => 256 - (intOf ev).toNat)
         case atStart => exact ⟨0,jN _,hle,rfl,HHin⟩
         case round =>
          obtain ⟨m,hkm,hmh,rfl,HE⟩ := hrel;have HEn := HE.out;clear q0 q1 q2 q3 hgl;obtain ⟨⟨q0,q1,q2,q3⟩,hgl,_⟩ := HEn
          by_cases hmlt : m < hi
          ·obtain ⟨m1,hm1⟩ : ∃ m1,m1 = m + 1 := ⟨_,rfl⟩;have e2 : (m : Int) + 1 = (m1 : Int) := by omega
           have hmem : Hid (t.mem m1 = true) := qhid (hhall.out m1 (by omega) (by omega));have m255 : (m : Int) < 255 := by omega
           have m1b : m1 <= 256 := by omega
           have HM := qhid (HS.out m1);rw [hmem.out] at HM;have HMI := qhid (show 0 <= m1 /\ m1 <= hi /\ m < m1 by omega);have hm1c : m1 < 256 := by omega
           clear hm1
           go_wp2_with fail
           refine (HM.out _ hm1c).mono ?_;rintro e w4 ⟨rfl,hb⟩;have H4 := qhid (heldZ_below hb HE.out);clear hb
           go_wp2_with fail
           exact ⟨⟨m1,HMI.out.1,HMI.out.2.1,rfl,H4⟩,by have := HMI.out;simp [intOf];omega⟩
          ·obtain rfl : m = hi := by omega
           clear hmlt hkm hmh
           by_cases h255 : m = 255
           ·have m255 : decide ((m : Int) < 255) = false := jF (by omega);clear h255
            by_cases heq : m = 0
            ·subst heq;exact absurd m255 (by simp)
            ·have hgt : 0 < m := by omega
             have HF2 := qhid (clsP_two HPP.out (fun e => heq e.symm));have hgt2 : (((0 : Nat) : Int) : Int) < (m : Int) := by omega
             have s0 := br_le 0;have s1 := br_le m;rw [<- baN_size] at s0 s1;have BK := qhid (fun W => HBY.out 0 W (by omega));have BH := qhid (fun W => HBY.out m W hhi);clear heq hhall hmax HHin
             go_wp2_with fail
             refine (BK.out _).mono ?_;rintro e w4 ⟨rfl,hb⟩;have H4n := heldZ_below hb HE.out;have H4 := qhid H4n;clear hb q0 q1 q2 q3 hgl H4n
             go_wp2_with fail
             refine (BH.out _).mono ?_;rintro e w5 ⟨rfl,hb⟩;have H5n := heldZ_below hb H4.out;have H5 := qhid H5n;clear hb H5n
             go_wp2_with fail
             go_roundw
             case rel => first | exact ⟨0 + 1,j + 1,by omega,by go_num,by rw [HF2.out,ba_assoc],HI2,H5⟩ | ((repeat apply Exists.intro);refine ⟨?_,rfl⟩;exact ⟨0 + 1,j + 1,by omega,by go_num,by rw [HF2.out,ba_assoc],HI2,H5⟩)
             case measure => first | (simp [intOf];done) | (simp [intOf];omega)
           ·have m255 : (m : Int) < 255 := by omega
            have m255b : decide ((m : Int) < 255) = true := jT m255;obtain ⟨m1,hm1⟩ : ∃ m1,m1 = m + 1 := ⟨_,rfl⟩;have e2 : (m : Int) + 1 = (m1 : Int) := by omega
            have hmem : Hid (t.mem m1 = false) := qhid (by rw [hm1];exact hmax.out.resolve_left h255);have HM := qhid (HS.out m1);rw [hmem.out] at HM;have hm1c : m1 < 256 := by omega
            have m1b : m1 <= 256 := by omega
            clear hm1 h255
            go_wp2_with fail
            refine (HM.out _ hm1c).mono ?_;rintro e w3x ⟨rfl,hb⟩;have HExn := heldZ_below hb HE.out;have HEx := qhid HExn;clear hb q0 q1 q2 q3 hgl;obtain ⟨⟨q0,q1,q2,q3⟩,hgl,_⟩ := HExn;clear e2
            by_cases heq : m = 0
            ·subst heq;have HF2 := qhid (clsP_one HPP.out rfl);have s0 := br_le 0;have s1 := br_le 0;rw [<- baN_size] at s0 s1;have BK := qhid (fun W => HBY.out 0 W (by omega));have BH := qhid (fun W => HBY.out 0 W hhi);clear hhall hmax HHin
             go_wp2_with fail
             refine (BK.out _).mono ?_;rintro e w4 ⟨rfl,hb⟩;have H4n := heldZ_below hb HEx.out;have H4 := qhid H4n;clear hb q0 q1 q2 q3 hgl H4n
             go_wp2_with fail
             go_roundw
             case rel => first | exact ⟨0 + 1,j + 1,by omega,by go_num,by rw [HF2.out],HI2,H4⟩ | ((repeat apply Exists.intro);refine ⟨?_,rfl⟩;exact ⟨0 + 1,j + 1,by omega,by go_num,by rw [HF2.out],HI2,H4⟩)
             case measure => first | (simp [intOf];done) | (simp [intOf];omega)
            ·have hgt : 0 < m := by omega
             have HF2 := qhid (clsP_two HPP.out (fun e => heq e.symm));have hgt2 : (((0 : Nat) : Int) : Int) < (m : Int) := by omega
             have s0 := br_le 0;have s1 := br_le m;rw [<- baN_size] at s0 s1;have BK := qhid (fun W => HBY.out 0 W (by omega));have BH := qhid (fun W => HBY.out m W hhi);clear heq hhall hmax HHin
             go_wp2_with fail
             refine (BK.out _).mono ?_;rintro e w4 ⟨rfl,hb⟩;have H4n := heldZ_below hb HEx.out;have H4 := qhid H4n;clear hb q0 q1 q2 q3 hgl H4n
             go_wp2_with fail
             refine (BH.out _).mono ?_;rintro e w5 ⟨rfl,hb⟩;have H5n := heldZ_below hb H4.out;have H5 := qhid H5n;clear hb H5n
             go_wp2_with fail
             go_roundw
             case rel => first | exact ⟨0 + 1,j + 1,by omega,by go_num,by rw [HF2.out,ba_assoc],HI2,H5⟩ | ((repeat apply Exists.intro);refine ⟨?_,rfl⟩;exact ⟨0 + 1,j + 1,by omega,by go_num,by rw [HF2.out,ba_assoc],HI2,H5⟩)
             case measure => first | (simp [intOf];done) | (simp [intOf];omega)
        ·have hk1 : 0 < k := by omega
         have hk2 : (0 : Int) < (k : Int) := by omega
         obtain ⟨p,hp⟩ : ∃ p,p = k - 1 := ⟨_,rfl⟩;have e1 : (k : Int) - 1 = (p : Int) := by omega
         have hpm : Hid (t.mem p = false) := qhid (by rw [hp];exact hst.resolve_left hk0);have HP1 := qhid (HS.out p);rw [hpm.out] at HP1;have hp2 : p < 256 := by omega
         clear hst hp hk0
         go_wp2_with fail
         refine (HK.out _ hlt).mono ?_;rintro e w3 ⟨rfl,hb⟩;have HHn := heldZ_below hb HH2.out;have HHi1 := qhid HHn;clear hb q0 q1 q2 q3 hgl HK;obtain ⟨⟨q0,q1,q2,q3⟩,hgl,_⟩ := HHn
         go_wp2_with fail
         refine (HP1.out _ hp2).mono ?_;rintro e w3b ⟨rfl,hb⟩;have HHm := heldZ_below hb HHi1.out;have HHin := qhid HHm;clear hb q0 q1 q2 q3 hgl HP1;obtain ⟨⟨q0,q1,q2,q3⟩,hgl,_⟩ := HHm;clear e1
         go_wp2_with fail
         go_loopw [9] (fun ev wr3 => ∃ m : Nat,k <= m /\ m <= hi /\ ev = .int .i64 m /\ Hid (HeldZ ws gs t.a t.b t.c t.d wr3)) (fun ev _ => 256 - (intOf ev).toNat)
         case atStart => exact ⟨k,jN _,hle,rfl,HHin⟩
         case round =>
          obtain ⟨m,hkm,hmh,rfl,HE⟩ := hrel;have HEn := HE.out;clear q0 q1 q2 q3 hgl;obtain ⟨⟨q0,q1,q2,q3⟩,hgl,_⟩ := HEn
          by_cases hmlt : m < hi
          ·obtain ⟨m1,hm1⟩ : ∃ m1,m1 = m + 1 := ⟨_,rfl⟩;have e2 : (m : Int) + 1 = (m1 : Int) := by omega
           have hmem : Hid (t.mem m1 = true) := qhid (hhall.out m1 (by omega) (by omega));have m255 : (m : Int) < 255 := by omega
           have m1b : m1 <= 256 := by omega
           have HM := qhid (HS.out m1);rw [hmem.out] at HM;have HMI := qhid (show k <= m1 /\ m1 <= hi /\ m < m1 by omega);have hm1c : m1 < 256 := by omega
           clear hm1
           go_wp2_with fail
           refine (HM.out _ hm1c).mono ?_;rintro e w4 ⟨rfl,hb⟩;have H4 := qhid (heldZ_below hb HE.out);clear hb
           go_wp2_with fail
           exact ⟨⟨m1,HMI.out.1,HMI.out.2.1,rfl,H4⟩,by have := HMI.out;simp [intOf];omega⟩
          ·obtain rfl : m = hi := by omega
           clear hmlt hkm hmh
           by_cases h255 : m = 255
           ·have m255 : decide ((m : Int) < 255) = false := jF (by omega);clear h255
            by_cases heq : m = k
            ·subst heq;have HF2 := qhid (clsP_one HPP.out rfl);have s0 := br_le m;have s1 := br_le m;rw [<- baN_size] at s0 s1;have BK := qhid (fun W => HBY.out m W (by omega));have BH := qhid (fun W => HBY.out m W hhi);clear hhall hmax HHin
             go_wp2_with fail
             refine (BK.out _).mono ?_;rintro e w4 ⟨rfl,hb⟩;have H4n := heldZ_below hb HE.out;have H4 := qhid H4n;clear hb q0 q1 q2 q3 hgl H4n
             go_wp2_with fail
             go_roundw
             case rel => first | exact ⟨m + 1,j + 1,by omega,by go_num,by rw [HF2.out],HI2,H4⟩ | ((repeat apply Exists.intro);refine ⟨?_,rfl⟩;exact ⟨m + 1,j + 1,by omega,by go_num,by rw [HF2.out],HI2,H4⟩)
             case measure => first | (simp [intOf];done) | (simp [intOf];omega)
            ·have hgt : k < m := by omega
             have HF2 := qhid (clsP_two HPP.out (fun e => heq e.symm));have hgt2 : ((k : Int) : Int) < (m : Int) := by omega
             have s0 := br_le k;have s1 := br_le m;rw [<- baN_size] at s0 s1;have BK := qhid (fun W => HBY.out k W (by omega));have BH := qhid (fun W => HBY.out m W hhi);clear heq hhall hmax HHin
             go_wp2_with fail
             refine (BK.out _).mono ?_;rintro e w4 ⟨rfl,hb⟩;have H4n := heldZ_below hb HE.out;have H4 := qhid H4n;clear hb q0 q1 q2 q3 hgl H4n
             go_wp2_with fail
             refine (BH.out _).mono ?_;rintro e w5 ⟨rfl,hb⟩;have H5n := heldZ_below hb H4.out;have H5 := qhid H5n;clear hb H5n
             go_wp2_with fail
             go_roundw
             case rel => first | exact ⟨k + 1,j + 1,by omega,by go_num,by rw [HF2.out,ba_assoc],HI2,H5⟩ | ((repeat apply Exists.intro);refine ⟨?_,rfl⟩;exact ⟨k + 1,j + 1,by omega,by go_num,by rw [HF2.out,ba_assoc],HI2,H5⟩)
             case measure => first | (simp [intOf];done) | (simp [intOf];omega)
           ·have m255 : (m : Int) < 255 := by omega
            have m255b : decide ((m : Int) < 255) = true := jT m255;obtain ⟨m1,hm1⟩ : ∃ m1,m1 = m + 1 := ⟨_,rfl⟩;have e2 : (m : Int) + 1 = (m1 : Int) := by omega
            have hmem : Hid (t.mem m1 = false) := qhid (by rw [hm1];exact hmax.out.resolve_left h255);have HM := qhid (HS.out m1);rw [hmem.out] at HM;have hm1c : m1 < 256 := by omega
            have m1b : m1 <= 256 := by omega
            clear hm1 h255
            go_wp2_with fail
            refine (HM.out _ hm1c).mono ?_;rintro e w3x ⟨rfl,hb⟩;have HExn := heldZ_below hb HE.out;have HEx := qhid HExn;clear hb q0 q1 q2 q3 hgl;obtain ⟨⟨q0,q1,q2,q3⟩,hgl,_⟩ := HExn;clear e2
            by_cases heq : m = k
            ·subst heq;have HF2 := qhid (clsP_one HPP.out rfl);have s0 := br_le m;have s1 := br_le m;rw [<- baN_size] at s0 s1;have BK := qhid (fun W => HBY.out m W (by omega));have BH := qhid (fun W => HBY.out m W hhi);clear hhall hmax HHin
             go_wp2_with fail
             refine (BK.out _).mono ?_;rintro e w4 ⟨rfl,hb⟩;have H4n := heldZ_below hb HEx.out;have H4 := qhid H4n;clear hb q0 q1 q2 q3 hgl H4n
             go_wp2_with fail
             go_roundw
             case rel => first | exact ⟨m + 1,j + 1,by omega,by go_num,by rw [HF2.out],HI2,H4⟩ | ((repeat apply Exists.intro);refine ⟨?_,rfl⟩;exact ⟨m + 1,j + 1,by omega,by go_num,by rw [HF2.out],HI2,H4⟩)
             case measure => first | (simp [intOf];done) | (simp [intOf];omega)
            ·have hgt : k < m := by omega
             have HF2 := qhid (clsP_two HPP.out (fun e => heq e.symm));have hgt2 : ((k : Int) : Int) < (m : Int) := by omega
             have s0 := br_le k;have s1 := br_le m;rw [<- baN_size] at s0 s1;have BK := qhid (fun W => HBY.out k W (by omega));have BH := qhid (fun W => HBY.out m W hhi);clear heq hhall hmax HHin
             go_wp2_with fail
             refine (BK.out _).mono ?_;rintro e w4 ⟨rfl,hb⟩;have H4n := heldZ_below hb HEx.out;have H4 := qhid H4n;clear hb q0 q1 q2 q3 hgl H4n
             go_wp2_with fail
             refine (BH.out _).mono ?_;rintro e w5 ⟨rfl,hb⟩;have H5n := heldZ_below hb H4.out;have H5 := qhid H5n;clear hb H5n
             go_wp2_with fail
             go_roundw
             case rel => first | exact ⟨k + 1,j + 1,by omega,by go_num,by rw [HF2.out,ba_assoc],HI2,H5⟩ | ((repeat apply Exists.intro);refine ⟨?_,rfl⟩;exact ⟨k + 1,j + 1,by omega,by go_num,by rw [HF2.out,ba_assoc],HI2,H5⟩)
             case measure => first | (simp [intOf];done) | (simp [intOf];omega)
       ·have hst1 : 0 < k := by omega
        have hst2 : t.mem (k - 1) = true := by cases hx : t.mem (k - 1) with
         | true => rfl
         | false => exact absurd (.inr hx) hst
        have HI2 := qhid (HI.out.skip HR.out hlt (.inr ⟨hst1,by rw [HIN.out _ (by omega),hst2]⟩));have hk2 : (0 : Int) < (k : Int) := by omega
        obtain ⟨p,hp⟩ : ∃ p,p = k - 1 := ⟨_,rfl⟩;have e1 : (k : Int) - 1 = (p : Int) := by omega
        have hpm : Hid (t.mem p = true) := qhid (by rw [hp];exact hst2);have HP1 := qhid (HS.out p);rw [hpm.out] at HP1;have hp2 : p < 256 := by omega
        clear hst hp hst2 hm
        go_wp2_with fail
        refine (HK.out _ hlt).mono ?_;rintro e w3 ⟨rfl,hb⟩;have HHn := heldZ_below hb HH2.out;have HHi1 := qhid HHn;clear hb q0 q1 q2 q3 hgl HK;obtain ⟨⟨q0,q1,q2,q3⟩,hgl,_⟩ := HHn
        go_wp2_with fail
        refine (HP1.out _ hp2).mono ?_;rintro e w3b ⟨rfl,hb⟩;have H3 := qhid (heldZ_below hb HHi1.out);clear hb;clear e1
        go_wp2_with fail
        go_roundw
        case rel => first | exact ⟨k + 1,j,by omega,by go_num,rfl,HI2,H3⟩ | ((repeat apply Exists.intro);refine ⟨?_,rfl⟩;exact ⟨k + 1,j,by omega,by go_num,rfl,HI2,H3⟩)
        case measure => simp [intOf];omega
     ·obtain rfl : k = 256 := by omega
      obtain rfl : j = rs.length := HI.out.all HR.out;have HEN := qhid (HB.out.trans (HH2.out.2.2.mono hs));clear q0 q1 q2 q3 hgl
      go_wp2_with fail
      go_ret
      exact ⟨by rw [HF.out] <;> rfl,HEN.out⟩
end
end
section
section
open Go Go.RowKit
attribute [local go_sem ↓] Go.wp_at_zero Go.wp_at_succ
attribute [local go_sem] eq4
end
end
end Go.Proofs.YtaliapknkpdmdaaGreatDoor
