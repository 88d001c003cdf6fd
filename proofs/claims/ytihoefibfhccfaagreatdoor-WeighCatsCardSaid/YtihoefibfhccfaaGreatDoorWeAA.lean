/- A part of the proof. -/
import Derived.Test.YtihoefibfhccfaaGreatDoorJn
import Derived.Test.YtihoefibfhccfaaGreatDoorCso
import Derived.Test.YtihoefibfhccfaaGreatDoorWeU
import Derived.Test.YtihoefibfhccfaaGreatDoorNatR
set_option maxRecDepth 100000
set_option maxHeartbeats 16000000
namespace Go.Proofs.YtihoefibfhccfaaGreatDoor
section
section
open Go Go.RowKit
structure TwoD (p S : ByteArray) : Prop where
 size : p.size + 1 <= S.size
 lo : ∀ i,i < p.size -> bAt S i = bAt p i
 mid : bAt S p.size = 41
theorem TwoD.is {p S : ByteArray} (h : TwoD p S) {b : Nat} (hb : b < 256) (hne : b ≠ 41) {i : Nat} (hi : i <= p.size) : (bAt S i = b) = (bAt p i = b) := by
 by_cases hlt : i < p.size
 ·rw [h.lo i hlt]
 ·obtain rfl : i = p.size := by omega
  rw [h.mid,bAt_end (jN _)];apply propext
  constructor <;> intro e <;> omega
theorem TwoD.dig {p S : ByteArray} (h : TwoD p S) {i : Nat} (hi : i <= p.size) : digB (bAt S i) = digB (bAt p i) := by
 by_cases hlt : i < p.size
 ·rw [h.lo i hlt]
 ·obtain rfl : i = p.size := by omega
  rw [h.mid,bAt_end (jN _)];rfl
theorem TwoD.hex {p S : ByteArray} (h : TwoD p S) {i : Nat} (hi : i <= p.size) : (hexR (bAt S i)).2 = (hexR (bAt p i)).2 := by
 by_cases hlt : i < p.size
 ·rw [h.lo i hlt]
 ·obtain rfl : i = p.size := by omega
  rw [h.mid,bAt_end (jN _)];decide
theorem dlen_ld {p S : ByteArray} (h : TwoD p S) : ∀ m n a,m <= n -> a + m = p.size -> dlen S a n = dlen p a m := by
 intro m
 induction m with
 | zero =>
  intro n a _ ha
  cases n with
  | zero => rfl
  | succ n =>
   obtain rfl : a = p.size := by omega
   show (if digB (bAt S p.size) = true then _ else 0) = 0
   rw [h.mid];rfl
 | succ m ih =>
  intro n a hn ha
  cases n with
  | zero => omega
  | succ n =>
   unfold dlen;rw [h.lo a (by omega),ih n (a + 1) (by omega) (by omega)]
theorem dall_ld {p S : ByteArray} (h : TwoD p S) {a : Nat} (ha : a <= p.size) : dall S a = dall p a := by
 have := h.size;exact dlen_ld h (p.size - a) (S.size - a) a (by omega) (by omega)
theorem nval_ld {p S : ByteArray} (h : TwoD p S) {a : Nat} : ∀ i,a + i <= p.size -> nval S a i = nval p a i := by
 intro i
 induction i with
 | zero => intro _;rfl
 | succ i ih => intro hi;unfold nval;rw [ih (by omega),h.lo (a + i) (by omega)]
theorem numR_ld {p S : ByteArray} (h : TwoD p S) {a : Nat} (ha : a <= p.size) : numR S a = numR p a := by
 unfold numR;rw [dall_ld h ha,nval_ld h _ (dall_size ha)]
theorem mostR_ld {p S : ByteArray} (h : TwoD p S) (lo : Int) {a : Nat} (ha : a <= p.size) : mostR S lo a = mostR p lo a := by
 unfold mostR;rw [numR_ld h ha];simp only [h.is (b := 125) (by omega) (by omega) ha]
theorem countR_ld {p S : ByteArray} (h : TwoD p S) (lo hi : Int) {a : Nat} (ha : a <= p.size) : countR S lo hi a = countR p lo hi a := by
 unfold countR
 by_cases h63 : bAt p a = 63
 ·have hi2 := in_of_bAt h63 (by omega);rw [if_pos ((h.is (b := 63) (by omega) (by omega) ha).mpr h63),if_pos h63];simp only [h.is (b := 43) (by omega) (by omega) (i := a + 1) (by omega)]
 ·rw [if_neg (fun e => h63 ((h.is (b := 63) (by omega) (by omega) ha).mp e)),if_neg h63];simp only [h.is (b := 43) (by omega) (by omega) ha]
theorem shutR_ld {p S : ByteArray} (h : TwoD p S) (lo hi : Int) {a : Nat} (ha : a <= p.size) : shutR S lo hi a = shutR p lo hi a := by
 unfold shutR
 by_cases h1 : bAt p a = 125
 ·have hi2 := in_of_bAt h1 (by omega);rw [if_pos ((h.is (b := 125) (by omega) (by omega) ha).mpr h1),if_pos h1,countR_ld h _ _ (by omega)]
 ·rw [if_neg (fun e => h1 ((h.is (b := 125) (by omega) (by omega) ha).mp e)),if_neg h1]
theorem bracesR_ld {p S : ByteArray} (h : TwoD p S) {k : Nat} (hk : k < p.size) : bracesR S k = bracesR p k := by
 unfold bracesR;have hle := (numR_le (s := p) (a := k + 1) hk).2;rw [numR_ld h (a := k + 1) hk];obtain ⟨⟨x,c,j⟩,hr⟩ : ∃ r,numR p (k + 1) = r := ⟨_,rfl⟩;rw [hr] at hle ⊢;dsimp only at hle ⊢;rw [shutR_ld h x x hle]
 by_cases h0 : c ≠ 0
 ·rw [if_pos h0,if_pos h0]
 ·rw [if_neg h0,if_neg h0]
  by_cases h44 : bAt p j = 44
  ·have hj := in_of_bAt h44 (by omega);have hm := (mostR_le (s := p) x (a := j + 1) hj).2;rw [if_pos ((h.is (b := 44) (by omega) (by omega) hle).mpr h44),if_pos h44,mostR_ld h x (a := j + 1) hj,shutR_ld h x _ hm]
  ·rw [if_neg (fun e => h44 ((h.is (b := 44) (by omega) (by omega) hle).mp e)),if_neg h44]
theorem openR_ld {p S : ByteArray} (h : TwoD p S) {k : Nat} (hk : k < p.size) : openR S k = openR p k := by
 unfold openR
 by_cases h1 : bAt p (k + 1) = 63
 ·have hi2 := in_of_bAt h1 (by omega);rw [if_pos ((h.is (b := 63) (by omega) (by omega) (i := k + 1) hk).mpr h1),if_pos h1];simp only [h.is (b := 58) (by omega) (by omega) (i := k + 1 + 1) (by omega)]
 ·rw [if_neg (fun e => h1 ((h.is (b := 63) (by omega) (by omega) (i := k + 1) hk).mp e)),if_neg h1]
theorem signR_ld {p S : ByteArray} (h : TwoD p S) {k : Nat} (hk : k < p.size) : signR S k = signR p k := by
 unfold signR;rw [h.lo k hk,countR_ld h _ _ (a := k + 1) hk,countR_ld h _ _ (a := k + 1) hk,countR_ld h _ _ (a := k + 1) hk]
theorem pairR_ld {p S : ByteArray} (h : TwoD p S) {j : Nat} (hj : j <= p.size) : pairR S j = pairR p j := by
 unfold pairR;rw [h.hex hj]
 by_cases h0 : (hexR (bAt p j)).2 = false
 ·rw [if_pos h0,if_pos h0]
 ·have hi0 := hex_in (by simpa using h0);rw [if_neg h0,if_neg h0,h.hex (i := j + 1) hi0]
  by_cases h1 : (hexR (bAt p (j + 1))).2 = false
  ·rw [if_pos h1,if_pos h1]
  ·have hi1 := hex_in (by simpa using h1);rw [if_neg h1,if_neg h1]
   have e : hexV S j 2 = hexV p j 2 := by
    show 16 * (16 * 0 + (hexR (bAt S (j + 0))).1) + (hexR (bAt S (j + 1))).1 = 16 * (16 * 0 + (hexR (bAt p (j + 0))).1) + (hexR (bAt p (j + 1))).1
    rw [h.lo (j + 0) hi0,h.lo (j + 1) hi1]
   rw [e]
theorem escR_ld {p S : ByteArray} (h : TwoD p S) {k : Nat} (hk : k + 1 < p.size) : escR S k = escR p k := by
 have := h.size;unfold escR;rw [if_neg (show ¬ S.size <= k + 1 by omega),if_neg (show ¬ p.size <= k + 1 by omega),h.lo (k + 1) hk,pairR_ld h (j := k + 1 + 1) hk]
theorem partR_ld {p S : ByteArray} (h : TwoD p S) {k : Nat} (he : (partR p k).2.1 = 0) : partR S k = partR p k := by
 have := h.size
 have hk : k < p.size := by
  by_cases hk : k < p.size
  ·exact hk
  ·unfold partR at he;rw [if_pos (by omega)] at he;exact absurd he (by simp)
 unfold partR at he ⊢;rw [if_neg (show ¬ p.size <= k by omega)] at he;rw [if_neg (show ¬ S.size <= k by omega),if_neg (show ¬ p.size <= k by omega),h.lo k hk]
 by_cases h92 : bAt p k = 92
 ·rw [if_pos h92] at he;rw [if_pos h92,if_pos h92]
  by_cases h1 : k + 1 < p.size
  ·exact escR_ld h h1
  ·unfold escR at he;rw [if_pos (by omega)] at he;exact absurd he (by simp)
 ·rw [if_neg h92,if_neg h92]
theorem toR_ld {p S : ByteArray} (h : TwoD p S) {k a j : Nat} (he : (toR p k a j).2.1 = 0) : toR S k a j = toR p k a j := by
 have h0 : (partR p j).2.1 = 0 := by
  by_cases h0 : (partR p j).2.1 = 0
  ·exact h0
  ·unfold toR at he;rw [if_pos h0] at he;exact absurd he h0
 unfold toR;rw [partR_ld h h0]
theorem itemR_ld {p S : ByteArray} (h : TwoD p S) {k : Nat} (hk : k <= p.size) (he : (itemR p k).2.1 = 0) : itemR S k = itemR p k := by
 have hs := partR_set hk
 have h0 : (partR p k).2.1 = 0 := by
  by_cases h0 : (partR p k).2.1 = 0
  ·exact h0
  ·unfold itemR at he;rw [if_pos (.inl h0)] at he;exact absurd he h0
 have hle := hs.le;unfold itemR at he ⊢;rw [partR_ld h h0]
 by_cases h45 : bAt p (partR p k).2.2 = 45
 ·have hb : ¬ ((partR p k).2.1 ≠ 0 \/ bAt p (partR p k).2.2 ≠ 45) := by rintro (x | x);exact x h0;exact x h45
  have hb2 : ¬ ((partR p k).2.1 ≠ 0 \/ bAt S (partR p k).2.2 ≠ 45) := by rintro (x | x);exact x h0;exact x ((h.is (b := 45) (by omega) (by omega) hle).mpr h45)
  rw [if_neg hb] at he;rw [if_neg hb,if_neg hb2]
  cases ho : onlyW (partR p k).1 with
  | none => rfl
  | some a => rw [ho] at he;exact toR_ld h he
 ·rw [if_pos (.inr (fun e => h45 ((h.is (b := 45) (by omega) (by omega) hle).mp e))),if_pos (.inr h45)]
theorem clsR_ld {p S : ByteArray} (h : TwoD p S) : ∀ (n : Nat) (t : W4) (e : Int) (i : Nat),i <= p.size -> (clsR p n t e i).2.1 = 0 -> clsR S n t e i = clsR p n t e i := by
 intro n
 induction n with
 | zero => intro t e i _ _;rfl
 | succ n ih =>
  intro t e i hi he
  by_cases h0 : e ≠ 0
  ·rw [clsR,if_pos h0] at he;exact absurd he h0
  ·by_cases h93 : bAt p i = 93
   ·rw [clsR,if_neg h0,if_pos ((h.is (b := 93) (by omega) (by omega) hi).mpr h93),clsR,if_neg h0,if_pos h93]
   ·rw [clsR,if_neg h0,if_neg h93] at he;rw [clsR,if_neg h0,if_neg (fun e => h93 ((h.is (b := 93) (by omega) (by omega) hi).mp e)),clsR,if_neg h0,if_neg h93];have hit := itemR_set hi
    have h1 : (itemR p i).2.1 = 0 := by
     by_cases h1 : (itemR p i).2.1 = 0
     ·exact h1
     ·cases n with
      | zero => exact absurd he (by simp [clsR])
      | succ n => rw [clsR,if_pos h1] at he;exact absurd he h1
    rw [itemR_ld h hi h1];exact ih _ _ _ hit.le he
theorem clsFrom_ld {p S : ByteArray} (h : TwoD p S) {i : Nat} (hi : i <= p.size) (he : (clsFrom p i).2.1 = 0) : clsFrom S i = clsFrom p i := by
 have := h.size;have hit := itemR_set hi
 have h1 : (itemR p i).2.1 = 0 := by
  by_cases h1 : (itemR p i).2.1 = 0
  ·exact h1
  ·unfold clsFrom at he;rw [clsR,if_pos h1] at he;exact absurd he h1
 have e := clsFrom_more (s := p) (i := i) (n := S.size + 2) hi (by omega);rw [<- e] at he ⊢;unfold clsFrom;rw [itemR_ld h hi h1];exact clsR_ld h _ _ _ _ hit.le he
theorem classR_ld {p S : ByteArray} (h : TwoD p S) {k : Nat} (hk : k < p.size) (he : (classR p k).2.1 = 0) : classR S k = classR p k := by
 unfold classR at he ⊢
 by_cases h94 : bAt p (k + 1) = 94
 ·have hi := in_of_bAt h94 (by omega);rw [if_pos h94] at he
  have h0 : (clsFrom p (k + 2)).2.1 = 0 := by
   by_cases h0 : (clsFrom p (k + 2)).2.1 = 0
   ·exact h0
   ·rw [if_pos h0] at he;exact absurd he h0
  rw [if_pos ((h.is (b := 94) (by omega) (by omega) (i := k + 1) hk).mpr h94),if_pos h94,clsFrom_ld h (by omega) h0]
 ·rw [if_neg h94] at he;rw [if_neg (fun e => h94 ((h.is (b := 94) (by omega) (by omega) (i := k + 1) hk).mp e)),if_neg h94,clsFrom_ld h hk he]
theorem setR_ld {p S : ByteArray} (h : TwoD p S) {k : Nat} (hk : k < p.size) (he : (setR p k).2.1 = 0) : setR S k = setR p k := by
 unfold setR at he ⊢;rw [h.lo k hk]
 by_cases h91 : bAt p k = 91
 ·rw [if_pos h91] at he;rw [if_pos h91,if_pos h91,classR_ld h hk he]
 ·rw [if_neg h91] at he;rw [if_neg h91,if_neg h91]
  by_cases h92 : bAt p k = 92
  ·rw [if_pos h92] at he;rw [if_pos h92,if_pos h92]
   by_cases h1 : k + 1 < p.size
   ·exact escR_ld h h1
   ·unfold escR at he;rw [if_pos (by omega)] at he;exact absurd he (by simp)
  ·rw [if_neg h92,if_neg h92]
theorem tokenR_ld {p S : ByteArray} (h : TwoD p S) {k : Nat} (hk : k < p.size) (he : (tokenR p k).2.1 = 0) : tokenR S k = tokenR p k := by
 unfold tokenR at he ⊢;rw [h.lo k hk,openR_ld h hk,signR_ld h hk,bracesR_ld h hk]
 by_cases c1 : bAt p k = 124
 ·rw [if_pos c1,if_pos c1]
 ·by_cases c2 : bAt p k = 40
  ·rw [if_neg c1,if_neg c1,if_pos c2,if_pos c2]
  ·by_cases c3 : bAt p k = 41
   ·rw [if_neg c1,if_neg c1,if_neg c2,if_neg c2,if_pos c3,if_pos c3]
   ·by_cases c4 : bAt p k = 42 \/ bAt p k = 43 \/ bAt p k = 63
    ·rw [if_neg c1,if_neg c1,if_neg c2,if_neg c2,if_neg c3,if_neg c3,if_pos c4,if_pos c4]
    ·by_cases c5 : bAt p k = 123
     ·rw [if_neg c1,if_neg c1,if_neg c2,if_neg c2,if_neg c3,if_neg c3,if_neg c4,if_neg c4,if_pos c5,if_pos c5]
     ·rw [if_neg c1,if_neg c2,if_neg c3,if_neg c4,if_neg c5] at he;rw [setR_ld h hk he]
theorem scanK_ld {p S : ByteArray} (h : TwoD p S) (hm : (scanK S (p.size + 1)).2.1 = 0) : ∀ (n k : Nat),p.size - k <= n -> k <= p.size -> (scanK p k).2.1 = 0 -> (scanK S k).2.1 = 0 /\ mt (scanK S k).1 = mt (scanK p k).1 ++ kTok 3 :: mt (scanK S (p.size + 1)).1 := by
 have hsz := h.size
 have hend : (scanK S p.size).2.1 = 0 /\ mt (scanK S p.size).1 = kTok 3 :: mt (scanK S (p.size + 1)).1 := by
  have et : tokenR S p.size = (kTok 3,0,p.size + 1) := by unfold tokenR;rw [h.mid];rfl
  rw [scanK_on (k := p.size) (by omega) (by rw [et]),et];dsimp only;rw [if_neg (by rw [hm];simp)];exact ⟨rfl,rfl⟩
 intro n
 induction n with
 | zero =>
  intro k hn hk he;obtain rfl : k = p.size := by omega
  rw [scanK_end (s := p) (jN _)];exact hend
 | succ n ih =>
  intro k hn hk he
  by_cases hkk : k < p.size
  ·by_cases h0 : (tokenR p k).2.1 = 0
   ·have et := tokenR_ld h hkk h0;have ht := tokenR_tok hkk;have hon := ht.on h0;rw [scanK_on hkk h0] at he ⊢
    have h1 : (scanK p (tokenR p k).2.2).2.1 = 0 := by
     by_cases h1 : (scanK p (tokenR p k).2.2).2.1 = 0
     ·exact h1
     ·rw [if_pos h1] at he;exact absurd he h1
    obtain ⟨i1,i2⟩ := ih (tokenR p k).2.2 (by omega) ht.le h1;rw [scanK_on (s := S) (k := k) (by omega) (by rw [et];exact h0),et,if_neg (by rw [i1];simp),if_neg (by rw [h1];simp)];refine ⟨rfl,?_⟩
    show (tokenR p k).1 :: mt (scanK S (tokenR p k).2.2).1 = (tokenR p k).1 :: (mt (scanK p (tokenR p k).2.2).1 ++ kTok 3 :: mt (scanK S (p.size + 1)).1)
    rw [i2]
   ·rw [scanK_bad hkk h0] at he;exact absurd he h0
  ·obtain rfl : k = p.size := by omega
   rw [scanK_end (s := p) (jN _)];exact hend
def Takes (S : ByteArray) (l : List TokM) : Prop := (scanK S 0).2.1 = 0 /\ mt (scanK S 0).1 = l
theorem bAt_right (a X : ByteArray) (i : Nat) : bAt (a ++ X) (a.size + i) = bAt X i := by
 by_cases h : i < X.size
 ·rw [bAt_in (show a.size + i < (a ++ X).size by rw [ByteArray.size_append];omega),bAt_in h,ByteArray.getElem_append_right (by omega)];congr 2;omega
 ·rw [bAt_end (by rw [ByteArray.size_append];omega),bAt_end (by omega)]
theorem bAt_left (a X : ByteArray) {i : Nat} (h : i < a.size) : bAt (a ++ X) i = bAt a i := by
 rw [bAt_in (show i < (a ++ X).size by rw [ByteArray.size_append];omega),bAt_in h,ByteArray.getElem_append_left h]
theorem takes_tail {a X : ByteArray} : (scanK (a ++ X) a.size).2.1 = (scanK X 0).2.1 /\ mt (scanK (a ++ X) a.size).1 = mt (scanK X 0).1 :=
 scanK_hk (d := a.size) (bAt_right a X) (by rw [ByteArray.size_append]) X.size 0 (by omega) (by omega)
theorem takes_on {a X : ByteArray} {x : TokM} {l : List TokM} (ha : 0 < a.size) (ht : tokenR (a ++ X) 0 = (x,0,a.size)) (h : Takes X l) : Takes (a ++ X) (x :: l) := by
 obtain ⟨d1,d2⟩ := takes_tail (a := a) (X := X);obtain ⟨c1,c2⟩ := h;unfold Takes;rw [scanK_on (k := 0) (by rw [ByteArray.size_append];omega) (by rw [ht]),ht];dsimp only;rw [if_neg (by rw [d1,c1];simp)];refine ⟨rfl,?_⟩
 show x :: mt (scanK (a ++ X) a.size).1 = _
 rw [d2,c2]
theorem takes_open {X : ByteArray} {l : List TokM} (h : Takes X l) : Takes (⟨#[40,63,58]⟩ ++ X) (kTok 2 :: l) := by
 refine takes_on (by decide) ?_ h;have e0 : bAt (⟨#[40,63,58]⟩ ++ X) 0 = 40 := (bAt_left _ X (by decide)).trans (by kernel_rfl);have e1 : bAt (⟨#[40,63,58]⟩ ++ X) 1 = 63 := (bAt_left _ X (by decide)).trans (by kernel_rfl);have e2 : bAt (⟨#[40,63,58]⟩ ++ X) 2 = 58 := (bAt_left _ X (by decide)).trans (by kernel_rfl);unfold tokenR;rw [e0,if_neg (by omega),if_pos rfl];unfold openR;rw [Nat.zero_add,if_pos e1,if_pos e2];rfl
theorem takes_bar {X : ByteArray} {l : List TokM} (h : Takes X l) : Takes (⟨#[124]⟩ ++ X) (kTok 4 :: l) := by
 refine takes_on (by decide) ?_ h;have e0 : bAt (⟨#[124]⟩ ++ X) 0 = 124 := (bAt_left _ X (by decide)).trans (by kernel_rfl);unfold tokenR;rw [e0,if_pos rfl];rfl
theorem takes_none : Takes ⟨#[]⟩ [] := by
 unfold Takes;rw [scanK_end (show (⟨#[]⟩ : ByteArray).size <= 0 from jN _)];exact ⟨rfl,rfl⟩
theorem takes_shut {p X : ByteArray} {l m : List TokM} (hp : Takes p l) (h : Takes X m) : Takes (p ++ (⟨#[41]⟩ ++ X)) (l ++ kTok 3 :: m) := by
 have h2 : TwoD p (p ++ (⟨#[41]⟩ ++ X)) := by
  refine ⟨?_,fun i hi => bAt_left _ _ hi,?_⟩
  ·rw [ByteArray.size_append,ByteArray.size_append]
   show p.size + 1 <= p.size + (1 + X.size)
   omega
  ·have e := bAt_right p (⟨#[41]⟩ ++ X) 0;rw [Nat.add_zero] at e;rw [e];exact (bAt_left _ X (by decide)).trans (by kernel_rfl)
 have e : p ++ (⟨#[41]⟩ ++ X) = (p ++ ⟨#[41]⟩) ++ X := by rw [ByteArray.append_assoc]
 obtain ⟨d1,d2⟩ := takes_tail (a := p ++ ⟨#[41]⟩) (X := X);rw [<- e,show (p ++ (⟨#[41]⟩ : ByteArray)).size = p.size + 1 by rw [ByteArray.size_append];rfl] at d1 d2;obtain ⟨g1,g2⟩ := scanK_ld h2 (by rw [d1];exact h.1) p.size 0 (by omega) (by omega) hp.1;exact ⟨g1,by rw [g2,hp.2,d2,h.2]⟩
theorem parse_takes {S : ByteArray} {T : Tr} (hR : RtT T) (h : Takes S (tkT T)) (hD : dpT T <= 200) : ∃ t',parseR S = (0,0,some t') /\ bare t' = bare T := by
 obtain ⟨g1,g2⟩ := h;have hT : tkT T = mt (scanAll S).1 := g2.symm;obtain ⟨L,hL⟩ : ∃ L,L = (scanAll S).1 := ⟨_,rfl⟩;rw [<- hL] at hT;have hlen : L.length = (tkT T).length := by rw [hT];simp [mt]
 obtain ⟨t',h1,h2⟩ := (prs_all (L := L) (size := S.size) hR).pat (6 * L.length + 6) 0 0 [] (by rw [hT];simp) (by rw [hlen];simp) (by omega) (fun x hx => by simp at hx);refine ⟨t',?_,h2⟩
 have hw : wholeR L S.size = (0,(tkT T).length,some t') := by
  unfold wholeR;rw [h1,thenR_ok,Nat.zero_add,if_neg (by omega)]
 unfold parseR;rw [if_neg (by exact fun e => e g1),<- hL,hw,if_neg (by simp)]
theorem takes_of {p : ByteArray} {t : Tr} (hp : parseR p = (0,0,some t)) : Takes p (tkT t) := by
 obtain ⟨hr,_,htk⟩ := parse_right hp
 have hsc : (scanK p 0).2.1 = 0 := by
  unfold parseR at hp
  by_cases h1 : (scanAll p).2.1 ≠ 0
  ·rw [if_pos h1] at hp;simp at hp
  ·exact Classical.not_not.1 h1
 exact ⟨hsc,htk.symm⟩
def gT (t : Tr) : Tr := .mk 3 noW 0 0 false 0 0 [t]
def catG (t u : Tr) : Tr := .mk 4 noW 0 0 false 0 0 [gT t,gT u]
def altG (t u : Tr) : Tr := .mk 5 noW 0 0 false 0 0 [gT t,gT u]
theorem rt_gT {t : Tr} (h : RtT t) : RtT (gT t) := .group 3 0 0 t (.inr rfl) h
theorem rt_catG {t u : Tr} (h : RtT t) (h' : RtT u) : RtT (catG t u) := by
 refine .cat 0 0 _ (by simp) (fun x hx => ?_) (fun x hx => ?_)
 ·rcases List.mem_cons.1 hx with rfl | hx
  ·first | exact .inl (.inr (.inr rfl)) | (simp [gT,IsItem,kdT];done) | decide
  ·rw [List.mem_singleton.1 hx]
   first | exact .inl (.inr (.inr rfl)) | (simp [gT,IsItem,kdT];done) | decide
 ·rcases List.mem_cons.1 hx with rfl | hx
  ·exact rt_gT h
  ·rw [List.mem_singleton.1 hx];exact rt_gT h'
theorem rt_altG {t u : Tr} (h : RtT t) (h' : RtT u) : RtT (altG t u) := by
 refine .alt 0 0 _ (by simp) (fun x hx => ?_) (fun x hx => ?_)
 ·rcases List.mem_cons.1 hx with rfl | hx
  ·show (3 : Int) ≠ 5;decide
  ·rw [List.mem_singleton.1 hx];show (3 : Int) ≠ 5;decide
 ·rcases List.mem_cons.1 hx with rfl | hx
  ·exact rt_gT h
  ·rw [List.mem_singleton.1 hx];exact rt_gT h'
theorem tk_gT (t : Tr) : tkT (gT t) = kTok 2 :: (tkT t ++ [kTok 3]) := by
 rw [gT,tkT_eq];rfl
theorem tk_catG (t u : Tr) : tkT (catG t u) = kTok 2 :: (tkT t ++ kTok 3 :: (kTok 2 :: (tkT u ++ [kTok 3]))) := by
 rw [catG,tkT_eq]
 show tkT (gT t) ++ _ = _
 rw [tk_gT];simp [tk_gT]
theorem tk_altG (t u : Tr) : tkT (altG t u) = kTok 2 :: (tkT t ++ kTok 3 :: (kTok 4 :: (kTok 2 :: (tkT u ++ [kTok 3])))) := by
 rw [altG,tkT_eq]
 show tkT (gT t) ++ _ = _
 rw [tk_gT];simp [tk_gT]
end
end
end Go.Proofs.YtihoefibfhccfaaGreatDoor
namespace Go.Proofs.YtihoefibfhccfaaGreatDoor
section
section
open Go Go.RowKit
attribute [local go_sem ↓] Go.wp_at_zero Go.wp_at_succ
attribute [local go_sem] eq4
def cntW : Nat -> Wts -> Nat
 | 0,_ => 0
 | n + 1,f => cntW n f + (if f n ≠ 0 then 1 else 0)
theorem cnt_out {n : Nat} {f : Wts} (hf : WtOK n f) : ∀ k,cntW (n + k) f = cntW n f
 | 0 => rfl
 | k + 1 => by
  rw [<- Nat.add_assoc,cntW,cnt_out hf k,hf.out _ (by omega)];simp
theorem len_cnt {H : Type} (f : Wts) : ∀ (N : Nat) (es : List (Lit × DataW H)),es.Pairwise (fun p q => p.1 ≠ q.1) -> (∀ p ∈ es,∃ n,n < N /\ p.1 = kyW n) -> (∀ n,n < N -> (es.any fun p => p.1.sameKey (kyW n)) = decide (f n ≠ 0)) -> es.length = cntW N f
 | 0,[],_,_,_ => rfl
 | 0,p :: _,_,h,_ => by
  obtain ⟨n,hn,_⟩ := h p (List.mem_cons_self ..);omega
 | N + 1,es,hp,h,hf => by
  have hs := Maps.length_strike (k := kyW N) es hp
  have ih := len_cnt f N (es.filter fun p => !p.1.sameKey (kyW N)) (hp.filter _) (fun p hp' => by
   obtain ⟨h1,h2⟩ := List.mem_filter.1 hp';obtain ⟨n,hn,e⟩ := h p h1;refine ⟨n,?_,e⟩
   have : n ≠ N := fun e2 => by
    rw [e,e2,WideAt.sameKey_self (show WideAt.IsKeyLit (kyW N) from trivial)] at h2
    cases h2
   omega) (fun n hn => by
   rw [<- hf n (by omega)];refine Maps.any_filter_keep (fun p hp => ?_) es
   by_cases e : p.1 = kyW n
   ·rw [e,Maps.sameKey_ne (fun e => by have := kyW_inj e;omega)];rfl
   ·rw [Maps.sameKey_ne e] at hp
    cases hp)
  rw [hf N (by omega)] at hs;rw [cntW,<- ih,<- hs]
  by_cases h0 : f N ≠ 0
  ·rw [if_pos h0,if_pos (by simpa using h0)]
  ·rw [if_neg h0,if_neg (by simpa using h0)]
theorem owns_cnt {w : World} {b n N : Nat} {D : DataW Nat} {f : Wts} (h : w.ownsMap Tryz.prog 3 (plainElem Tryz.prog 3) b n D) (hd : WtD D f) (hf : WtOK N f) : Maps.size D = cntW N f := by
 obtain ⟨es,rfl,hp,hk⟩ := h.entries lawI;refine len_cnt f N es hp (fun p hpm => ?_) (fun n _ => ?_)
 ·have hh : Maps.has (.map es) p.1 = true := by
   rw [Maps.has_eq];exact List.any_eq_true.2 ⟨p,hpm,WideAt.sameKey_self (hk p hpm)⟩
  obtain ⟨n,e⟩ := hd.keys _ hh;refine ⟨n,?_,e⟩;rw [e,hd.has] at hh;have h0 : f n ≠ 0 := by simpa using hh
  exact Nat.lt_of_not_le fun hle => h0 (hf.out n hle)
 ·rw [<- hd.has n,Maps.has_eq]
theorem cnt_none : ∀ N,cntW N noneW = 0
 | 0 => rfl
 | N + 1 => by rw [cntW,cnt_none N];rfl
theorem WtAt.lenN {w : World} {v : Value} {f : Wts} {N : Nat} (h : WtAt w v f) (hf : WtOK N f) : ∀ X ty,Below w.heap.size w X -> (Builtin.len_ #[47] ty #[v]).run Tryz.prog X = .ok (.int .i64 (cntW N f : Int)) X := by
 rcases h with ⟨rfl,rfl⟩ | ⟨b,rfl,h1,⟨D,h2,h3⟩,_⟩
 ·rw [cnt_none];exact fun X ty _ => Maps.len_nil Tryz.underlying47 ty
 ·rw [<- owns_cnt h2 h3 hf];exact fun X ty hb => (owns_kept h2 (hb.block b h1)).len Tryz.underlying47 ty
def edN (l : List (W4 × Wts)) : Nat := (l.map fun x => cntW 600 x.2).sum
theorem cnt_le' : ∀ N f,cntW N f <= N
 | 0,_ => jN _
 | N + 1,f => by
  have := cnt_le' N f;rw [cntW]
  split <;> omega
theorem edN_le : ∀ l : List (W4 × Wts),edN l <= l.length * 600
 | [] => jN _
 | x :: l => by
  have h1 := edN_le l;have h2 := cnt_le' 600 x.2;unfold edN at h1 ⊢;rw [List.map_cons,List.sum_cons,List.length_cons];omega
theorem edN_app (l m : List (W4 × Wts)) : edN (l ++ m) = edN l + edN m := by
 unfold edN;rw [List.map_append,List.sum_append]
theorem edN_take {l : List (W4 × Wts)} {j : Nat} {x : W4 × Wts} (h : l[j]? = some x) : edN (l.take (j + 1)) = edN (l.take j) + cntW 600 x.2 := by
 rw [List.take_add_one,h,edN_app];simp [edN]
theorem edges_any (w : World) (wb : Nat) (c : Co) (h : WgAt w wb c) :
  Calls Tryz.prog 13 #[.pointer (some ⟨wb,0,none⟩)] w fun e w' => e = .returned (.int .i64 (edN (folC c noneW 0) : Int)) /\ w' = w := by
 have hfl := fol_len c noneW 0;have hok : ∀ x ∈ folC c noneW 0,WtOK 600 x.2 := fun x hx => (fol_ok c noneW 0 (prtC c).places (noneW_ok _) (by omega) x hx).mono h.le
 obtain ⟨⟨mf,ml,sp,fp,sc,fc,fs,hme,_,_,_,⟨B,hf⟩,hfol⟩,h6⟩ := h;obtain ⟨T,hT⟩ : ∃ T,T = folC c noneW 0 := ⟨_,rfl⟩;obtain ⟨n,hn⟩ : ∃ n,n = (prtC c).places := ⟨_,rfl⟩;rw [<- hT] at hfl hok hfol ⊢;rw [<- hn] at hfl hme hf h6;obtain ⟨_,_,_,_,_,g5⟩ := wg_cells hme;have HOK := qhid hok;have HFOL := qhid hfol;have HF := qhid hf;have HFL := qhid hfl;clear hok hfol hf hme hfl hT hn
 go_enter Tryz.func13,Tryz.ntmps13
 go_wp2_with fail
 go_loopw [3,13] (fun a i wr => ∃ j : Nat,j <= n /\ i = .int .i64 (j : Int) /\ a = .int .i64 (edN (T.take j) : Int) /\ wr = w) (fun _ i _ => n - (intOf i).toNat)
 case atStart => exact ⟨0,Nat.zero_le _,rfl,rfl,rfl⟩
 case round =>
  obtain ⟨j,hj,rfl,rfl,hwr⟩ := hrel;rw [hwr] at *
  by_cases hlt : j < n
  ·obtain ⟨x,hx⟩ : ∃ x,T[j]? = some x := ⟨T[j]'(by rw [HFL.out];exact hlt),List.getElem?_eq_getElem _⟩;have hfsl : j < fs.length := by rw [HFOL.out.len,HFL.out];exact hlt
   obtain ⟨m,hm⟩ : ∃ m,fs[j]? = some m := ⟨fs[j],List.getElem?_eq_getElem hfsl⟩;obtain ⟨g,cap,hv,_,hgl⟩ := HF.out.form (by omega);have hfp : fp = some ⟨g,0,none⟩ := by injection hv
   subst hfp
   have hce : w.cell? ⟨g,j,none⟩ = some (.map m) := by
    have key := HF.out.cells (g := g) rfl j (.map m) (by rw [List.getElem?_map,hm];rfl);have ha : (⟨g,0,none⟩ : Addr).add j = ⟨g,j,none⟩ := by unfold Addr.add;split <;> simp_all
    rwa [ha] at key
   have hl := fun ty => (HFOL.out.at_ j m x hm hx).lenN (HOK.out x (List.mem_of_getElem? hx)) w ty (Below.refl _ _)
   have hb1 := edN_le (T.take j);rw [List.length_take,Nat.min_eq_left (by rw [HFL.out];omega)] at hb1;have hb2 := cnt_le' 600 x.2;have HE := qhid (edN_take hx);obtain ⟨ea,hea⟩ : ∃ e,e = edN (T.take j) := ⟨_,rfl⟩;obtain ⟨eb,heb⟩ : ∃ e,e = cntW 600 x.2 := ⟨_,rfl⟩;rw [<- hea,<- heb] at HE;rw [<- hea] at hb1 ⊢;rw [<- heb] at hl hb2
   have hb3 : ea <= 360000 := by
    have : j * 600 <= 600 * 600 := Nat.mul_le_mul_right _ (by omega);omega
   clear hb1 hm hx hfsl hv hea heb
   go_wp2_with fail
   go_roundw
   case rel => exact ⟨j + 1,by omega,by go_num,by rw [HE.out,Int.natCast_add],trivial⟩
   case measure => simp [intOf];omega
  ·obtain rfl : j = n := by omega
   have HE : Hid (edN (T.take j) = edN T) := qhid (by rw [List.take_of_length_le (by rw [HFL.out];omega)]);rw [HE.out]
   go_wp2_with fail
   go_ret
   exact ⟨rfl,rfl⟩
end
end
end Go.Proofs.YtihoefibfhccfaaGreatDoor
namespace Go.Proofs.YtihoefibfhccfaaGreatDoor
section
section
open Go Go.RowKit
attribute [local go_sem ↓] Go.wp_at_zero Go.wp_at_succ
attribute [local go_sem] eq4
def shW (d : Nat) (f : Wts) : Wts := fun p => if d <= p then f (p - d) else 0
theorem sh_none (d : Nat) : shW d noneW = noneW := by
 funext p;unfold shW noneW
 split <;> rfl
theorem sh_in {d p : Nat} {f : Wts} (h : d <= p) : shW d f p = f (p - d) := if_pos h
theorem sh_out {d p : Nat} {f : Wts} (h : ¬ d <= p) : shW d f p = 0 := if_neg h
theorem sh_sm (d : Nat) (f g : Wts) : shW d (smW f g) = smW (shW d f) (shW d g) := by
 funext p
 show _ = pl (shW d f p) (shW d g p)
 by_cases h : d <= p
 ·rw [sh_in h,sh_in h,sh_in h];rfl
 ·rw [sh_out h,sh_out h,sh_out h];rfl
theorem sh_tm (d : Nat) (f : Wts) (t : Int) : shW d (tmW f t 0) = tmW (shW d f) t 0 := by
 funext p
 by_cases h : d <= p
 ·rw [sh_in h];unfold tmW;rw [if_pos (Nat.zero_le _),if_pos (Nat.zero_le _),Nat.sub_zero,Nat.sub_zero,sh_in h]
 ·rw [sh_out h];unfold tmW;rw [if_pos (Nat.zero_le _),Nat.sub_zero,sh_out h,ti_zero_r]
theorem sh_tmo (d o : Nat) (f : Wts) (t : Int) : shW d (tmW f t o) = tmW f t (o + d) := by
 funext p;unfold shW tmW
 by_cases h : d <= p
 ·rw [if_pos h]
  by_cases h2 : o <= p - d
  ·rw [if_pos h2,if_pos (by omega),Nat.sub_sub,Nat.add_comm d o]
  ·rw [if_neg h2,if_neg (by omega)]
 ·rw [if_neg h,if_neg (by omega)]
theorem fol_sh : ∀ (c : Co) (f : Wts) (o d : Nat),folC c (shW d f) (o + d) = (folC c f o).map fun x => (x.1,shW d x.2)
 | .nil,_,_,_ => rfl
 | .node k s z a b,f,o,d => by
  have ha := fun f => fol_sh a f o d
  have hb := fun f o => fol_sh b f o d
  have e : o + d + (prtC a).places = o + (prtC a).places + d := by omega
  rw [folC,folC,e]
  by_cases h1 : k = 1
  ·rw [if_pos h1,if_pos h1];rfl
  ·rw [if_neg h1,if_neg h1]
   by_cases h2 : k = 2
   ·rw [if_pos h2,if_pos h2,<- sh_tm,<- sh_tmo,<- sh_sm,ha,hb,List.map_append]
   ·rw [if_neg h2,if_neg h2]
    by_cases h3 : k = 3
    ·rw [if_pos h3,if_pos h3,ha,hb,List.map_append]
    ·rw [if_neg h3,if_neg h3]
     by_cases h4 : k = 4
     ·rw [if_pos h4,if_pos h4,<- sh_tmo,<- sh_sm,ha]
     ·rw [if_neg h4,if_neg h4];rfl
theorem cnt_sh (d : Nat) (f : Wts) : ∀ n,cntW (n + d) (shW d f) = cntW n f
 | 0 => by
  have : ∀ k,k <= d -> cntW k (shW d f) = 0 := by
   intro k
   induction k with
   | zero => intro _;rfl
   | succ k ih =>
    intro h;rw [cntW,ih (by omega),sh_out (by omega)];rfl
  rw [Nat.zero_add];exact this d (jN _)
 | n + 1 => by
  rw [show n + 1 + d = n + d + 1 by omega,cntW,cnt_sh d f n,cntW,sh_in (show d <= n + d by omega),Nat.add_sub_cancel]
theorem ed_sh (c : Co) (d : Nat) (h : d + (prtC c).places <= 600) : edN (folC c noneW d) = edN (folC c noneW 0) := by
 have e := fol_sh c noneW 0 d;rw [sh_none,Nat.zero_add] at e;have hok := fol_ok c noneW 0 (prtC c).places (noneW_ok _) (by omega);rw [e];unfold edN;rw [List.map_map];refine congrArg List.sum (List.map_congr_left fun x hx => ?_);have h1 := cnt_out (hok x hx) (600 - d - (prtC c).places);have h2 := cnt_out (hok x hx) (600 - (prtC c).places);have h3 := cnt_sh d x.2 (600 - d);rw [show 600 - d + d = 600 by omega] at h3;rw [show (prtC c).places + (600 - d - (prtC c).places) = 600 - d by omega] at h1;rw [show (prtC c).places + (600 - (prtC c).places) = 600 by omega] at h2
 show cntW 600 (shW d x.2) = cntW 600 x.2
 rw [h3,h1,h2]
theorem ed_alt (a b : Co) (h : (prtC a).places + (prtC b).places <= 600) : edN (folC (.node 3 noW false a b) noneW 0) = edN (folC a noneW 0) + edN (folC b noneW 0) := by
 rw [folC,if_neg (by decide),if_neg (by decide),if_pos rfl,edN_app,Nat.zero_add,ed_sh b _ h]
theorem places_size : ∀ c : Co,(prtC c).places <= coSize c
 | .nil => jN _
 | .node k s z a b => by
  have ha := places_size a;have hb := places_size b;rw [prtC,coSize]
  split
  ·show 1 <= _;omega
  ·split
   ·show _ + _ <= _;omega
   ·split
    ·show _ + _ <= _;omega
    ·split
     ·show (prtC a).places <= _;omega
     ·show 0 <= _;omega
theorem prt_cat (a b : Co) : (prtC (.node 2 noW false a b)).places = (prtC a).places + (prtC b).places /\ (prtC (.node 2 noW false a b)).void = ti (prtC a).void (prtC b).void := by
 rw [prtC,if_neg (by decide),if_pos rfl];exact ⟨rfl,rfl⟩
theorem prt_alt (a b : Co) : (prtC (.node 3 noW false a b)).places = (prtC a).places + (prtC b).places /\ (prtC (.node 3 noW false a b)).void = pl (prtC a).void (prtC b).void := by
 rw [prtC,if_neg (by decide),if_neg (by decide),if_pos rfl];exact ⟨rfl,rfl⟩
theorem adL_sum2 {a b : Int} (ha : 0 <= a) (hb : 0 <= b) (h : a + b <= 1000000) : adL [a,b] = a + b := by
 show pl (pl 0 a) b = _
 rw [pl_zero a ha (by unfold top;omega)];exact pl_addR (.inr (.inr (.inr (.inl ⟨ha,hb,by omega,rfl⟩))))
theorem sz_gT {t : Tr} (h : 0 <= szT t) (h2 : szT t <= 100000) : szT (gT t) = szT t := by
 rw [gT,sz_many (by decide) _ _ _ _ _ _ (by simp)]
 show adL [0,szT t] = szT t
 rw [adL_sum2 (by omega) h (by omega)];omega
theorem sz_two {k : Int} (hk : k ≠ 6) {t u : Tr} (h : 0 <= szT t) (h2 : szT t <= 100000) (h' : 0 <= szT u) (h2' : szT u <= 100000) : szT (.mk k noW 0 0 false 0 0 [gT t,gT u]) = 1 + szT t + szT u := by
 rw [sz_many hk _ _ _ _ _ _ (by simp)]
 show adL [adL [1,szT (gT t)],szT (gT u)] = _
 rw [sz_gT h h2,sz_gT h' h2',adL_sum2 (a := 1) (by omega) h (by omega),adL_sum2 (by omega) h' (by omega)]
theorem core_gT (t : Tr) : coreT (gT t) = coreT t := by
 rw [gT,coreT,coreTs_map];rfl
theorem core_cat {t u : Tr} (hu : RtT u) : coreT (catG t u) = .node 2 noW false (coreT t) (coreT u) := by
 have e : coreT (catG t u) = joinC 2 (coreT (gT t)) (coreT (gT u)) := by
  rw [catG,coreT,coreTs_map];rfl
 rw [e,core_gT,core_gT,joinC_some 2 _ _ (core_ne hu)]
theorem core_alt {t u : Tr} (hu : RtT u) : coreT (altG t u) = .node 3 noW false (coreT t) (coreT u) := by
 have e : coreT (altG t u) = joinC 3 (coreT (gT t)) (coreT (gT u)) := by
  rw [altG,coreT,coreTs_map];rfl
 rw [e,core_gT,core_gT,joinC_some 3 _ _ (core_ne hu)]
theorem dp_small {s : ByteArray} {t : Tr} (hs : s.size <= 15) (h : parseR s = (0,0,some t)) : dpT t <= 62 := by
 obtain ⟨h1,h2,h3⟩ := parse_right h;have hl := scan_len' s;have h4 := (rt_sizes h1).2.2;rw [h3] at h4;unfold mt at h4;rw [List.length_map] at h4;have h5 := (deep_bound t).2;rw [deep_dp] at h5;omega
theorem dp_two (k : Int) (hk : k ≠ 2 /\ k ≠ 3) (t u : Tr) (h : dpT t <= 62) (h' : dpT u <= 62) : dpT (.mk k noW 0 0 false 0 0 [gT t,gT u]) <= 200 := by
 have hg : ∀ x : Tr,dpT x <= 62 -> dpT (gT x) <= 63 := fun x hx => by
  rw [gT,dpT,if_pos (.inr rfl),dpTs,dpTs];omega
 have := hg t h;have := hg u h';rw [dpT,if_neg (by omega),dpTs,dpTs,dpTs];omega
theorem byC_zero (c : Co) : byC 0 c = c := by
 unfold byC;rw [if_neg (by decide),if_neg (by decide),if_neg (by decide)]
theorem adL_zero {x : Int} (h : 0 <= x) (ht : x <= top) : adL [x,addM 0] = x := by
 show pl (pl 0 x) 0 = x
 rw [pl_zero x h ht,pl_comm',pl_zero x h ht]
theorem po_takes {S : ByteArray} {T : Tr} (hS : S.size <= 400) (hR : RtT T) (hT : Takes S (tkT T)) (hD : dpT T <= 200) (hz : szT T <= 4096) {w' : World} {v : Value} {e : Int} (h : PO S 0 w' v e) : e = 0 /\ CoAt w' (coreT T) v /\ GC (coreT T) := by
 obtain ⟨t',h1,h2⟩ := parse_takes hR hT hD;have ez : szT t' = szT T := by rw [<- sz_bare t',h2,sz_bare]
 have ec : coreT t' = coreT T := by rw [<- core_bare t',h2,core_bare]
 have hp := szT_pos hR;have ea : adL [szT t',addM 0] = szT T := by rw [ez,adL_zero (by omega) (by unfold top;omega)]
 have hg := po_good hS (m := 0) ⟨by decide,by decide⟩ h1 (by omega);rw [byC_zero,ec] at hg
 rcases h with ⟨_,_,h⟩ | ⟨rfl,t2,h3,_,h5⟩
 ·have := h t' h1;omega
 ·rw [h1] at h3;obtain rfl : t' = t2 := by simpa using h3
  rw [byC_zero,ec] at h5;exact ⟨rfl,h5,hg⟩
def catS (p q : ByteArray) : ByteArray := (((⟨#[40,63,58]⟩ ++ p) ++ ⟨#[41,40,63,58]⟩) ++ q) ++ ⟨#[41]⟩
def altS (p q : ByteArray) : ByteArray := (((⟨#[40,63,58]⟩ ++ p) ++ ⟨#[41,124,40,63,58]⟩) ++ q) ++ ⟨#[41]⟩
theorem cat_size (p q : ByteArray) : (catS p q).size = p.size + q.size + 8 := by
 unfold catS;simp only [ByteArray.size_append]
 show 3 + p.size + 4 + q.size + 1 = _
 omega
theorem alt_size (p q : ByteArray) : (altS p q).size = p.size + q.size + 9 := by
 unfold altS;simp only [ByteArray.size_append]
 show 3 + p.size + 5 + q.size + 1 = _
 omega
theorem shut_none : (⟨#[41]⟩ : ByteArray) ++ ⟨#[]⟩ = ⟨#[41]⟩ := by kernel_rfl
theorem cat_takes {p q : ByteArray} {t u : Tr} (hp : parseR p = (0,0,some t)) (hq : parseR q = (0,0,some u)) : Takes (catS p q) (tkT (catG t u)) := by
 have h := takes_open (takes_shut (takes_of hp) (takes_open (takes_shut (takes_of hq) takes_none)));rw [shut_none] at h
 have e : catS p q = ⟨#[40,63,58]⟩ ++ (p ++ (⟨#[41]⟩ ++ (⟨#[40,63,58]⟩ ++ (q ++ ⟨#[41]⟩)))) := by
  unfold catS;rw [show (⟨#[41,40,63,58]⟩ : ByteArray) = ⟨#[41]⟩ ++ ⟨#[40,63,58]⟩ by kernel_rfl];simp only [ByteArray.append_assoc]
 rw [e,tk_catG];exact h
theorem alt_takes {p q : ByteArray} {t u : Tr} (hp : parseR p = (0,0,some t)) (hq : parseR q = (0,0,some u)) : Takes (altS p q) (tkT (altG t u)) := by
 have h := takes_open (takes_shut (takes_of hp) (takes_bar (takes_open (takes_shut (takes_of hq) takes_none))));rw [shut_none] at h
 have e : altS p q = ⟨#[40,63,58]⟩ ++ (p ++ (⟨#[41]⟩ ++ (⟨#[124]⟩ ++ (⟨#[40,63,58]⟩ ++ (q ++ ⟨#[41]⟩))))) := by
  unfold altS;rw [show (⟨#[41,124,40,63,58]⟩ : ByteArray) = ⟨#[41]⟩ ++ (⟨#[124]⟩ ++ ⟨#[40,63,58]⟩) by kernel_rfl];simp only [ByteArray.append_assoc]
 rw [e,tk_altG];exact h
theorem cats_ok {p q : ByteArray} (hs : p.size <= 15) (hs' : q.size <= 15) {t u : Tr} (hp : parseR p = (0,0,some t)) (hq : parseR q = (0,0,some u)) (hz : coSize (coreT t) <= 60) (hz' : coSize (coreT u) <= 60) (hzt : adL [szT t,addM 0] <= 4096) (hzu : adL [szT u,addM 0] <= 4096) :
  (∀ (w' : World) (v : Value) (e : Int),PO (catS p q) 0 w' v e -> e = 0 /\ CoAt w' (.node 2 noW false (coreT t) (coreT u)) v /\ GC (.node 2 noW false (coreT t) (coreT u))) /\
  (∀ (w' : World) (v : Value) (e : Int),PO (altS p q) 0 w' v e -> e = 0 /\ CoAt w' (.node 3 noW false (coreT t) (coreT u)) v /\ GC (.node 3 noW false (coreT t) (coreT u))) := by
 obtain ⟨hr,_,_⟩ := parse_right hp;obtain ⟨hr',_,_⟩ := parse_right hq;have b1 := szT_bd t (parse_small (by omega) hp);have b2 := szT_bd u (parse_small (by omega) hq);rw [adL_zero b1.1 b1.2] at hzt;rw [adL_zero b2.1 b2.2] at hzu;have c1 := core_size hr (parse_small (by omega) hp) (by unfold top;omega);have c2 := core_size hr' (parse_small (by omega) hq) (by unfold top;omega);have d1 := dp_small hs hp;have d2 := dp_small hs' hq;refine ⟨fun w' v e h => ?_,fun w' v e h => ?_⟩
 ·have key := po_takes (by rw [cat_size];omega) (rt_catG hr hr') (cat_takes hp hq) (dp_two 4 (by decide) t u d1 d2) (by rw [show catG t u = .mk 4 noW 0 0 false 0 0 [gT t,gT u] from rfl,sz_two (by decide) b1.1 (by omega) b2.1 (by omega)];omega) h;rw [core_cat hr'] at key;exact key
 ·have key := po_takes (by rw [alt_size];omega) (rt_altG hr hr') (alt_takes hp hq) (dp_two 5 (by decide) t u d1 d2) (by rw [show altG t u = .mk 5 noW 0 0 false 0 0 [gT t,gT u] from rfl,sz_two (by decide) b1.1 (by omega) b2.1 (by omega)];omega) h;rw [core_alt hr'] at key;exact key
end
end
end Go.Proofs.YtihoefibfhccfaaGreatDoor
namespace Go.Proofs.YtihoefibfhccfaaGreatDoor
section
section
open Go Go.RowKit
attribute [local go_sem ↓] Go.wp_at_zero Go.wp_at_succ
attribute [local go_sem] eq4
theorem wc_long (p q : ByteArray) (hs : 15 < p.size \/ 15 < q.size) (w : World)
  (AW : ∀ X,Below w.heap.size w X -> Calls Tryz.prog 15 #[] X fun e w' => e = .returned (.bool true) /\ Below X.heap.size X w') :
  Calls Tryz.prog 4 #[.string p,.string q] w fun x w' => x = .returned (.bool true) /\ Below w.heap.size w w' := by
 have HAW := qhid AW;clear AW
 by_cases h : 15 < p.size
 ·have h1 : decide ((15 : Int) < (p.size : Int)) = true := jT (by omega);have h2 : (15 : Int) < (p.size : Int) := by omega
  clear hs h
  go_enter Tryz.func4,Tryz.ntmps4
  go_wp2_with fail
  refine (HAW.out w (Below.refl _ _)).mono ?_;rintro x w2 ⟨rfl,hb2⟩;have HB2 := qhid hb2;clear hb2
  go_wp2_with fail
  go_ret
  exact ⟨rfl,HB2.out⟩
 ·have h1 : decide ((15 : Int) < (p.size : Int)) = false := jF (by omega);have h2 : (p.size : Int) <= 15 := by omega
  have h3 : decide ((15 : Int) < (q.size : Int)) = true := jT (by omega);have h4 : (15 : Int) < (q.size : Int) := by omega
  clear hs h
  go_enter Tryz.func4,Tryz.ntmps4
  go_wp2_with fail
  refine (HAW.out w (Below.refl _ _)).mono ?_;rintro x w2 ⟨rfl,hb2⟩;have HB2 := qhid hb2;clear hb2
  go_wp2_with fail
  go_ret
  exact ⟨rfl,HB2.out⟩
theorem new_small {c : Co} (h : GC c) (hs : coSize c <= 600) (v : Value) (w : World) (hc : CoAt w c v) :
  Calls Tryz.prog 5 #[v] w fun e w' => ∃ wb,e = .returned (.tuple #[.pointer (some ⟨wb,0,none⟩),.int .i64 0]) /\ WgAt w' wb c /\ Below w.heap.size w w' := by
 refine (new_po h v w hc).mono ?_;rintro e w' ⟨hb,⟨_,wb,rfl,hwg⟩ | ⟨h6,_⟩⟩
 ·exact ⟨wb,rfl,hwg,hb⟩
 ·have := places_size c;omega
theorem weighcats_any (p q : ByteArray) (w : World) (hT : Tab w) :
  Calls Tryz.prog 4 #[.string p,.string q] w fun x w' => x = .returned (.bool true) /\ Below w.heap.size w w' := by
 have AW := qhid (fun X (hX : Below w.heap.size w X) => weigh_awake X (hT.below hX hT.lt))
 by_cases hlong : 15 < p.size \/ 15 < q.size
 ·exact wc_long p q hlong w AW.out
 have hp : p.size <= 15 := by omega
 have hq : q.size <= 15 := by omega
 have P1 := qhid (fun X (hX : Below w.heap.size w X) => cparse_po p 0 (by decide) (by omega) X (hT.below hX hT.lt));have P2 := qhid (fun X (hX : Below w.heap.size w X) => cparse_po q 0 (by decide) (by omega) X (hT.below hX hT.lt));have P3 := qhid (fun X (hX : Below w.heap.size w X) => cparse_po (catS p q) 0 (by decide) (by rw [cat_size];omega) X (hT.below hX hT.lt));have P4 := qhid (fun X (hX : Below w.heap.size w X) => cparse_po (altS p q) 0 (by decide) (by rw [alt_size];omega) X (hT.below hX hT.lt));unfold catS at P3;unfold altS at P4;have HP := qhid hp;have HQ := qhid hq;have h1 : decide ((15 : Int) < (p.size : Int)) = false := jF (by omega);have h2 : decide ((15 : Int) < (q.size : Int)) = false := jF (by omega);have h3 : (p.size : Int) <= 15 := by omega
 have h4 : (q.size : Int) <= 15 := by omega
 clear hT hlong hp hq
 go_enter Tryz.func4,Tryz.ntmps4
 go_wp2_with fail
 refine (AW.out w (Below.refl _ _)).mono ?_;rintro x w0 ⟨rfl,hb⟩;have HB0 := qhid hb;clear hb AW
 go_wp2_with fail
 refine (P1.out w0 HB0.out).mono ?_;rintro x w1 ⟨va,ata,e,rfl,hpo,hb⟩;have HPA := qhid hpo;have HB1 := qhid (HB0.out.trans (hb.mono HB0.out.size));clear hpo hb P1 HB0
 go_wp2_with fail
 refine (P2.out w1 HB1.out).mono ?_;rintro x w2 ⟨vb,atb,f,rfl,hpo,hb⟩;have HPB := qhid hpo;have HB2 := qhid (HB1.out.trans (hb.mono HB1.out.size));have HB12 := qhid hb;clear hpo hb P2
 rcases HPA.out with ⟨he,rfl,_⟩ | ⟨rfl,t,ht,hz,hca⟩
 ·have e1 : (e != 0) = true := by simpa using he
  clear HPA HPB
  go_wp2_with fail
  go_ret
  exact ⟨rfl,HB2.out⟩
 have GA := qhid (po_good (by have := HP.out;omega) (m := 0) (by decide) ht hz);rw [byC_zero] at GA hca;obtain ⟨pa,rfl⟩ := hca.ptr
 rcases HPB.out with ⟨hf,rfl,_⟩ | ⟨rfl,u,hu,hzu,hcb⟩
 ·have f1 : (f != 0) = true := by simpa using hf
  clear HPA HPB
  go_wp2_with fail
  go_ret
  exact ⟨rfl,HB2.out⟩
 have GB := qhid (po_good (by have := HQ.out;omega) (m := 0) (by decide) hu hzu);rw [byC_zero] at GB hcb;obtain ⟨pb,rfl⟩ := hcb.ptr;have HTA := qhid (And.intro ht hz);have HTB := qhid (And.intro hu hzu);have HCA : Hid (CoAt w2 (coreT t) (.pointer pa)) := qhid (hca.up HB12.out);have HCB := qhid hcb;obtain ⟨ca,hca'⟩ : ∃ c,c = coreT t := ⟨_,rfl⟩;obtain ⟨cb,hcb'⟩ : ∃ c,c = coreT u := ⟨_,rfl⟩;have OK := qhid (fun (hz1 : coSize (coreT t) <= 60) (hz2 : coSize (coreT u) <= 60) => cats_ok HP.out HQ.out ht hu hz1 hz2 hz hzu);rw [<- hca'] at HCA GA OK;rw [<- hcb'] at HCB GB OK;have CZA := qhid (csize_any ca _ w2 HCA.out (by have := GA.out.size;omega));have CZB := qhid (fun X (hX : Below w2.heap.size w2 X) => csize_any cb _ X (HCB.out.up hX) (by have := GB.out.size;omega));have HZA := qhid GA.out.size;have HZB := qhid GB.out.size;obtain ⟨na,hna⟩ : ∃ n,n = coSize ca := ⟨_,rfl⟩;obtain ⟨nb,hnb⟩ : ∃ n,n = coSize cb := ⟨_,rfl⟩;rw [<- hna] at CZA HZA;rw [<- hnb] at CZB HZB;have HNA := qhid hna;have HNB := qhid hnb;clear HPA HPB ht hz hca hu hzu hcb hca' hcb' HB12 HB1 hna hnb HTA HTB
 go_wp2_with fail
 refine CZA.out.mono ?_;rintro x w3 ⟨rfl,hb⟩;have HB23 := qhid hb;have HB3 := qhid (HB2.out.trans (hb.mono HB2.out.size));clear hb CZA
 by_cases ga : (60 : Int) < (na : Int)
 ·have g1 : decide ((60 : Int) < (na : Int)) = true := jT ga;clear HZA HZB HCA HCB GA GB CZB OK P3 P4
  go_wp2_with fail
  go_ret
  exact ⟨rfl,HB3.out⟩
 have g1 : decide ((60 : Int) < (na : Int)) = false := jF ga;have g2 : (na : Int) <= 60 := by omega
 go_wp2_with fail
 refine (CZB.out w3 HB23.out).mono ?_;rintro x w4 ⟨rfl,hb⟩;have HB24 := qhid (HB23.out.trans (hb.mono HB23.out.size));have HB4 := qhid (HB3.out.trans (hb.mono HB3.out.size));clear hb CZB HB23 HB3
 by_cases gb : (60 : Int) < (nb : Int)
 ·have g3 : decide ((60 : Int) < (nb : Int)) = true := jT gb;clear HZA HZB HCA HCB GA GB OK P3 P4
  go_wp2_with fail
  go_ret
  exact ⟨rfl,HB4.out⟩
 have g3 : decide ((60 : Int) < (nb : Int)) = false := jF gb;have g4 : (nb : Int) <= 60 := by omega
 have HLA : Hid (coSize ca <= 60) := qhid (by have := HNA.out;omega);have HLB : Hid (coSize cb <= 60) := qhid (by have := HNB.out;omega);have OKC := qhid (OK.out HLA.out HLB.out).1;have OKA := qhid (OK.out HLA.out HLB.out).2;have HCA4 := qhid (HCA.out.up HB24.out);have HCB4 := qhid (HCB.out.up HB24.out);unfold catS at OKC;unfold altS at OKA;clear OK HZA HZB HCA HCB HB24 HB2 HNA HNB;have HCZ : Hid (coSize (.node 2 noW false ca cb) <= 600 /\ coSize (.node 3 noW false ca cb) <= 600) := qhid (by have := HLA.out;have := HLB.out;rw [coSize,coSize];omega)
 go_wp2_with fail
 refine (P3.out w4 HB4.out).mono ?_;rintro x w5 ⟨vg,atg,g,rfl,hpo,hb⟩;obtain ⟨rfl,hcg,hgg⟩ := OKC.out _ _ _ hpo;obtain ⟨pg,rfl⟩ := hcg.ptr;have HCG := qhid hcg;have HGG := qhid hgg;have HB45 := qhid hb;have HB5 := qhid (HB4.out.trans (hb.mono HB4.out.size));clear hpo hcg hgg hb OKC P3 HB4
 go_wp2_with fail
 refine (P4.out w5 HB5.out).mono ?_;rintro x w6 ⟨vi,ati,k,rfl,hpo,hb⟩;obtain ⟨rfl,hci,hgi⟩ := OKA.out _ _ _ hpo;obtain ⟨pi,rfl⟩ := hci.ptr;have HGI := qhid hgi;have HB6 := qhid (HB5.out.trans (hb.mono HB5.out.size));have N1 := qhid (new_small GA.out (by have := HLA.out;omega) _ w6 ((HCA4.out.up HB45.out).up hb));have N2 := qhid (fun X (hX : Below w6.heap.size w6 X) => new_small GB.out (by have := HLB.out;omega) _ X (((HCB4.out.up HB45.out).up hb).up hX));have N3 := qhid (fun X (hX : Below w6.heap.size w6 X) => new_small HGG.out HCZ.out.1 _ X ((HCG.out.up hb).up hX));have N4 := qhid (fun X (hX : Below w6.heap.size w6 X) => new_small HGI.out HCZ.out.2 _ X (hci.up hX));clear hpo hci hgi hb OKA P4 HB5 HB45 HCA4 HCB4 HCG
 go_wp2_with fail
 refine N1.out.mono ?_;rintro x w7 ⟨wx,rfl,hwg,hb⟩;have WX := qhid hwg;have HB67 := qhid hb;have HB7 := qhid (HB6.out.trans (hb.mono HB6.out.size));clear hwg hb N1
 go_wp2_with fail
 refine (N2.out w7 HB67.out).mono ?_;rintro x w8 ⟨wy,rfl,hwg,hb⟩;have WY := qhid hwg;have HB68 := qhid (HB67.out.trans (hb.mono HB67.out.size));have HB8 := qhid (HB7.out.trans (hb.mono HB7.out.size));have WX8 := qhid (WX.out.up hb);clear hwg hb N2 HB67 HB7 WX
 go_wp2_with fail
 refine (N3.out w8 HB68.out).mono ?_;rintro x w9 ⟨wu,rfl,hwg,hb⟩;have WU := qhid hwg;have HB69 := qhid (HB68.out.trans (hb.mono HB68.out.size));have HB9 := qhid (HB8.out.trans (hb.mono HB8.out.size));have WX9 := qhid (WX8.out.up hb);have WY9 := qhid (WY.out.up hb);clear hwg hb N3 HB68 HB8 WX8 WY
 go_wp2_with fail
 refine (N4.out w9 HB69.out).mono ?_;rintro x wA ⟨wv,rfl,hwg,hb⟩;have HBA := qhid (HB9.out.trans (hb.mono HB9.out.size));have WXA := WX9.out.up hb;have WYA := WY9.out.up hb;have WUA := WU.out.up hb;have PX := places_any wA wx ca WXA;have PY := places_any wA wy cb WYA;have PU := places_any wA wu _ WUA;have PV := places_any wA wv _ hwg;have VX := void_any wA wx ca WXA;have VY := void_any wA wy cb WYA;have VU := void_any wA wu _ WUA;have VV := void_any wA wv _ hwg;have EX := edges_any wA wx ca WXA;have EY := edges_any wA wy cb WYA;have EV := edges_any wA wv _ hwg;have sa := places_size ca;have sb := places_size cb;have ha1 := HLA.out;have hb1 := HLB.out;have ea : edN (folC ca noneW 0) <= 36000 := by have := edN_le (folC ca noneW 0);rw [fol_len] at this;omega
 have eb : edN (folC cb noneW 0) <= 36000 := by have := edN_le (folC cb noneW 0);rw [fol_len] at this;omega
 rw [(prt_cat ca cb).1] at PU;rw [(prt_cat ca cb).2] at VU;rw [(prt_alt ca cb).1] at PV;rw [(prt_alt ca cb).2] at VV;rw [ed_alt ca cb (by omega)] at EV;have MU := refmul_any (prtC ca).void (prtC cb).void wA (prt_ok ca).void.2 (prt_ok cb).void.2;have AD := refadd_any (prtC ca).void (prtC cb).void wA (prt_ok ca).void.2 (prt_ok cb).void.2;obtain ⟨px,hpx⟩ : ∃ n,n = (prtC ca).places := ⟨_,rfl⟩;obtain ⟨py,hpy⟩ : ∃ n,n = (prtC cb).places := ⟨_,rfl⟩;obtain ⟨vx,hvx⟩ : ∃ n,n = (prtC ca).void := ⟨_,rfl⟩;obtain ⟨vy,hvy⟩ : ∃ n,n = (prtC cb).void := ⟨_,rfl⟩;obtain ⟨ex,hex⟩ : ∃ n,n = edN (folC ca noneW 0) := ⟨_,rfl⟩;obtain ⟨ey,hey⟩ : ∃ n,n = edN (folC cb noneW 0) := ⟨_,rfl⟩;rw [<- hpx] at PX PU PV sa;rw [<- hpy] at PY PU PV sb;rw [<- hvx] at VX VU VV MU AD;rw [<- hvy] at VY VU VV MU AD;rw [<- hex] at EX EV ea;rw [<- hey] at EY EV eb;rw [Int.natCast_add] at PU PV EV;have lx : (px : Int) <= 60 := by omega
 have ly : (py : Int) <= 60 := by omega
 have le1 : (ex : Int) <= 36000 := by omega
 have le2 : (ey : Int) <= 36000 := by omega
 obtain ⟨mu,hmu⟩ : ∃ n,n = ti vx vy := ⟨_,rfl⟩;obtain ⟨ad,had⟩ : ∃ n,n = pl vx vy := ⟨_,rfl⟩;rw [<- hmu] at VU MU;rw [<- had] at VV AD;have HPX := qhid PX;have HPY := qhid PY;have HPU := qhid PU;have HPV := qhid PV;have HVX := qhid VX;have HVY := qhid VY;have HVU := qhid VU;have HVV := qhid VV;have HEX := qhid EX;have HEY := qhid EY;have HEV := qhid EV;have HMU := qhid MU;have HAD := qhid AD;clear PX PY PU PV VX VY VU VV EX EY EV MU AD hwg hb WXA WYA WUA sa sb ha1 hb1 ea eb hpx hpy hvx hvy hex hey hmu had N4 HB69 HB9 WX9 WY9 WU HCZ HLA HLB GA GB HGG HGI HB6
 go_wp2_with fail
 refine HPX.out.mono ?_;rintro y wz ⟨rfl,hw⟩;obtain rfl := hw
 go_wp2_with fail
 refine HPY.out.mono ?_;rintro y wz ⟨rfl,hw⟩;obtain rfl := hw
 go_wp2_with fail
 refine HVU.out.mono ?_;rintro y wz ⟨rfl,hw⟩;obtain rfl := hw
 go_wp2_with fail
 refine HVX.out.mono ?_;rintro y wz ⟨rfl,hw⟩;obtain rfl := hw
 go_wp2_with fail
 refine HVY.out.mono ?_;rintro y wz ⟨rfl,hw⟩;obtain rfl := hw
 go_wp2_with fail
 refine HMU.out.mono ?_;rintro y wz ⟨rfl,hw⟩;obtain rfl := hw
 go_wp2_with fail
 refine HVV.out.mono ?_;rintro y wz ⟨rfl,hw⟩;obtain rfl := hw
 go_wp2_with fail
 refine HVX.out.mono ?_;rintro y wz ⟨rfl,hw⟩;obtain rfl := hw
 go_wp2_with fail
 refine HVY.out.mono ?_;rintro y wz ⟨rfl,hw⟩;obtain rfl := hw
 go_wp2_with fail
 refine HAD.out.mono ?_;rintro y wz ⟨rfl,hw⟩;obtain rfl := hw
 go_wp2_with fail
 refine HPU.out.mono ?_;rintro y wz ⟨rfl,hw⟩;obtain rfl := hw
 go_wp2_with fail
 refine HPV.out.mono ?_;rintro y wz ⟨rfl,hw⟩;obtain rfl := hw
 go_wp2_with fail
 refine HEV.out.mono ?_;rintro y wz ⟨rfl,hw⟩;obtain rfl := hw
 go_wp2_with fail
 refine HEX.out.mono ?_;rintro y wz ⟨rfl,hw⟩;obtain rfl := hw
 go_wp2_with fail
 refine HEY.out.mono ?_;rintro y wz ⟨rfl,hw⟩;obtain rfl := hw
 go_wp2_with fail
 go_ret
 exact ⟨rfl,HBA.out⟩
end
end
end Go.Proofs.YtihoefibfhccfaaGreatDoor
