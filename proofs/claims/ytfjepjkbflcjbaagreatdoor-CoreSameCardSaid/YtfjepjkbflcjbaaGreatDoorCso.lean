/- A pattern in a group: its tokens, its tree, and its core. A core's text tells it: cores as they are built, and their texts read back. How great a core is: as great as was reckoned, if that is no too great a number. The statement CoreSame walked whole. The statement CoreSame walked whole. -/
import Derived.Test.YtfjepjkbflcjbaaGreatDoorTokZb
import Derived.Test.YtfjepjkbflcjbaaGreatDoorPrK
import Derived.Test.YtfjepjkbflcjbaaGreatDoorCoC
import Derived.Test.YtfjepjkbflcjbaaGreatDoorCtF
import Derived.Test.YtfjepjkbflcjbaaGreatDoorCsn
namespace Go.Proofs.YtfjepjkbflcjbaaGreatDoor
section
section
open Go Go.RowKit
/-- A text is p, and a closing bracket. -/
structure TwoC (p S : ByteArray) : Prop where
  size : S.size = p.size + 1
  lo : ∀ i, i < p.size → bAt S i = bAt p i
  mid : bAt S p.size = 41
/-- Of a byte that is no closing bracket it is told alike. -/
theorem TwoC.is {p S : ByteArray} (h : TwoC p S) {b : Nat} (hb : b < 256) (hne : b ≠ 41) {i : Nat} (hi : i ≤ p.size) : (bAt S i = b) = (bAt p i = b) := by
  by_cases hlt : i < p.size
  · rw [h.lo i hlt]
  · obtain rfl : i = p.size := by omega
    rw [h.mid, bAt_end (Nat.le_refl _)]
    apply propext
    constructor <;> intro e <;> omega
theorem TwoC.dig {p S : ByteArray} (h : TwoC p S) {i : Nat} (hi : i ≤ p.size) : digB (bAt S i) = digB (bAt p i) := by
  by_cases hlt : i < p.size
  · rw [h.lo i hlt]
  · obtain rfl : i = p.size := by omega
    rw [h.mid, bAt_end (Nat.le_refl _)]
    rfl
theorem TwoC.hex {p S : ByteArray} (h : TwoC p S) {i : Nat} (hi : i ≤ p.size) : (hexR (bAt S i)).2 = (hexR (bAt p i)).2 := by
  by_cases hlt : i < p.size
  · rw [h.lo i hlt]
  · obtain rfl : i = p.size := by omega
    rw [h.mid, bAt_end (Nat.le_refl _)]
    decide
theorem dlen_lc {p S : ByteArray} (h : TwoC p S) : ∀ m n a, m ≤ n → a + m = p.size → dlen S a n = dlen p a m := by
  intro m
  induction m with
  | zero =>
    intro n a _ ha
    cases n with
    | zero => rfl
    | succ n =>
      obtain rfl : a = p.size := by omega
      show (if digB (bAt S p.size) = true then _ else 0) = 0
      rw [h.mid]; rfl
  | succ m ih =>
    intro n a hn ha
    cases n with
    | zero => omega
    | succ n =>
      unfold dlen
      rw [h.lo a (by omega), ih n (a + 1) (by omega) (by omega)]
theorem dall_lc {p S : ByteArray} (h : TwoC p S) {a : Nat} (ha : a ≤ p.size) : dall S a = dall p a := by
  have := h.size
  exact dlen_lc h (p.size - a) (S.size - a) a (by omega) (by omega)
theorem nval_lc {p S : ByteArray} (h : TwoC p S) {a : Nat} : ∀ i, a + i ≤ p.size → nval S a i = nval p a i := by
  intro i
  induction i with
  | zero => intro _; rfl
  | succ i ih => intro hi; unfold nval; rw [ih (by omega), h.lo (a + i) (by omega)]
theorem numR_lc {p S : ByteArray} (h : TwoC p S) {a : Nat} (ha : a ≤ p.size) : numR S a = numR p a := by
  unfold numR
  rw [dall_lc h ha, nval_lc h _ (dall_size ha)]
theorem mostR_lc {p S : ByteArray} (h : TwoC p S) (lo : Int) {a : Nat} (ha : a ≤ p.size) : mostR S lo a = mostR p lo a := by
  unfold mostR
  rw [numR_lc h ha]
  simp only [h.is (b := 125) (by omega) (by omega) ha]
theorem countR_lc {p S : ByteArray} (h : TwoC p S) (lo hi : Int) {a : Nat} (ha : a ≤ p.size) : countR S lo hi a = countR p lo hi a := by
  unfold countR
  by_cases h63 : bAt p a = 63
  · have hi2 := in_of_bAt h63 (by omega)
    rw [if_pos ((h.is (b := 63) (by omega) (by omega) ha).mpr h63), if_pos h63]
    simp only [h.is (b := 43) (by omega) (by omega) (i := a + 1) (by omega)]
  · rw [if_neg (fun e => h63 ((h.is (b := 63) (by omega) (by omega) ha).mp e)), if_neg h63]
    simp only [h.is (b := 43) (by omega) (by omega) ha]
theorem shutR_lc {p S : ByteArray} (h : TwoC p S) (lo hi : Int) {a : Nat} (ha : a ≤ p.size) : shutR S lo hi a = shutR p lo hi a := by
  unfold shutR
  by_cases h1 : bAt p a = 125
  · have hi2 := in_of_bAt h1 (by omega)
    rw [if_pos ((h.is (b := 125) (by omega) (by omega) ha).mpr h1), if_pos h1, countR_lc h _ _ (by omega)]
  · rw [if_neg (fun e => h1 ((h.is (b := 125) (by omega) (by omega) ha).mp e)), if_neg h1]
theorem bracesR_lc {p S : ByteArray} (h : TwoC p S) {k : Nat} (hk : k < p.size) : bracesR S k = bracesR p k := by
  unfold bracesR
  have hle := (numR_le (s := p) (a := k + 1) hk).2
  rw [numR_lc h (a := k + 1) hk]
  obtain ⟨⟨x, c, j⟩, hr⟩ : ∃ r, numR p (k + 1) = r := ⟨_, rfl⟩
  rw [hr] at hle ⊢
  dsimp only at hle ⊢
  rw [shutR_lc h x x hle]
  by_cases h0 : c ≠ 0
  · rw [if_pos h0, if_pos h0]
  · rw [if_neg h0, if_neg h0]
    by_cases h44 : bAt p j = 44
    · have hj := in_of_bAt h44 (by omega)
      have hm := (mostR_le (s := p) x (a := j + 1) hj).2
      rw [if_pos ((h.is (b := 44) (by omega) (by omega) hle).mpr h44), if_pos h44, mostR_lc h x (a := j + 1) hj, shutR_lc h x _ hm]
    · rw [if_neg (fun e => h44 ((h.is (b := 44) (by omega) (by omega) hle).mp e)), if_neg h44]
theorem openR_lc {p S : ByteArray} (h : TwoC p S) {k : Nat} (hk : k < p.size) : openR S k = openR p k := by
  unfold openR
  by_cases h1 : bAt p (k + 1) = 63
  · have hi2 := in_of_bAt h1 (by omega)
    rw [if_pos ((h.is (b := 63) (by omega) (by omega) (i := k + 1) hk).mpr h1), if_pos h1]
    simp only [h.is (b := 58) (by omega) (by omega) (i := k + 1 + 1) (by omega)]
  · rw [if_neg (fun e => h1 ((h.is (b := 63) (by omega) (by omega) (i := k + 1) hk).mp e)), if_neg h1]
theorem signR_lc {p S : ByteArray} (h : TwoC p S) {k : Nat} (hk : k < p.size) : signR S k = signR p k := by
  unfold signR
  rw [h.lo k hk, countR_lc h _ _ (a := k + 1) hk, countR_lc h _ _ (a := k + 1) hk, countR_lc h _ _ (a := k + 1) hk]
theorem pairR_lc {p S : ByteArray} (h : TwoC p S) {j : Nat} (hj : j ≤ p.size) : pairR S j = pairR p j := by
  unfold pairR
  rw [h.hex hj]
  by_cases h0 : (hexR (bAt p j)).2 = false
  · rw [if_pos h0, if_pos h0]
  · have hi0 := hex_in (by simpa using h0)
    rw [if_neg h0, if_neg h0, h.hex (i := j + 1) hi0]
    by_cases h1 : (hexR (bAt p (j + 1))).2 = false
    · rw [if_pos h1, if_pos h1]
    · have hi1 := hex_in (by simpa using h1)
      rw [if_neg h1, if_neg h1]
      have e : hexV S j 2 = hexV p j 2 := by
        show 16 * (16 * 0 + (hexR (bAt S (j + 0))).1) + (hexR (bAt S (j + 1))).1 = 16 * (16 * 0 + (hexR (bAt p (j + 0))).1) + (hexR (bAt p (j + 1))).1
        rw [h.lo (j + 0) hi0, h.lo (j + 1) hi1]
      rw [e]
theorem escR_lc {p S : ByteArray} (h : TwoC p S) {k : Nat} (hk : k + 1 < p.size) : escR S k = escR p k := by
  have := h.size
  unfold escR
  rw [if_neg (show ¬ S.size ≤ k + 1 by omega), if_neg (show ¬ p.size ≤ k + 1 by omega), h.lo (k + 1) hk, pairR_lc h (j := k + 1 + 1) hk]
theorem partR_lc {p S : ByteArray} (h : TwoC p S) {k : Nat} (he : (partR p k).2.1 = 0) : partR S k = partR p k := by
  have := h.size
  have hk : k < p.size := by
    by_cases hk : k < p.size
    · exact hk
    · unfold partR at he; rw [if_pos (by omega)] at he; exact absurd he (by simp)
  unfold partR at he ⊢
  rw [if_neg (show ¬ p.size ≤ k by omega)] at he
  rw [if_neg (show ¬ S.size ≤ k by omega), if_neg (show ¬ p.size ≤ k by omega), h.lo k hk]
  by_cases h92 : bAt p k = 92
  · rw [if_pos h92] at he
    rw [if_pos h92, if_pos h92]
    by_cases h1 : k + 1 < p.size
    · exact escR_lc h h1
    · unfold escR at he; rw [if_pos (by omega)] at he; exact absurd he (by simp)
  · rw [if_neg h92, if_neg h92]
theorem toR_lc {p S : ByteArray} (h : TwoC p S) {k a j : Nat} (he : (toR p k a j).2.1 = 0) : toR S k a j = toR p k a j := by
  have h0 : (partR p j).2.1 = 0 := by
    by_cases h0 : (partR p j).2.1 = 0
    · exact h0
    · unfold toR at he; rw [if_pos h0] at he; exact absurd he h0
  unfold toR
  rw [partR_lc h h0]
theorem itemR_lc {p S : ByteArray} (h : TwoC p S) {k : Nat} (hk : k ≤ p.size) (he : (itemR p k).2.1 = 0) : itemR S k = itemR p k := by
  have hs := partR_set hk
  have h0 : (partR p k).2.1 = 0 := by
    by_cases h0 : (partR p k).2.1 = 0
    · exact h0
    · unfold itemR at he; rw [if_pos (.inl h0)] at he; exact absurd he h0
  have hle := hs.le
  unfold itemR at he ⊢
  rw [partR_lc h h0]
  by_cases h45 : bAt p (partR p k).2.2 = 45
  · have hb : ¬ ((partR p k).2.1 ≠ 0 ∨ bAt p (partR p k).2.2 ≠ 45) := by rintro (x | x); exact x h0; exact x h45
    have hb2 : ¬ ((partR p k).2.1 ≠ 0 ∨ bAt S (partR p k).2.2 ≠ 45) := by rintro (x | x); exact x h0; exact x ((h.is (b := 45) (by omega) (by omega) hle).mpr h45)
    rw [if_neg hb] at he
    rw [if_neg hb, if_neg hb2]
    cases ho : onlyW (partR p k).1 with
    | none => rfl
    | some a => rw [ho] at he; exact toR_lc h he
  · rw [if_pos (.inr (fun e => h45 ((h.is (b := 45) (by omega) (by omega) hle).mp e))), if_pos (.inr h45)]
theorem clsR_lc {p S : ByteArray} (h : TwoC p S) : ∀ (n : Nat) (t : W4) (e : Int) (i : Nat), i ≤ p.size → (clsR p n t e i).2.1 = 0 → clsR S n t e i = clsR p n t e i := by
  intro n
  induction n with
  | zero => intro t e i _ _; rfl
  | succ n ih =>
    intro t e i hi he
    by_cases h0 : e ≠ 0
    · rw [clsR, if_pos h0] at he; exact absurd he h0
    · by_cases h93 : bAt p i = 93
      · rw [clsR, if_neg h0, if_pos ((h.is (b := 93) (by omega) (by omega) hi).mpr h93), clsR, if_neg h0, if_pos h93]
      · rw [clsR, if_neg h0, if_neg h93] at he
        rw [clsR, if_neg h0, if_neg (fun e => h93 ((h.is (b := 93) (by omega) (by omega) hi).mp e)), clsR, if_neg h0, if_neg h93]
        have hit := itemR_set hi
        have h1 : (itemR p i).2.1 = 0 := by
          by_cases h1 : (itemR p i).2.1 = 0
          · exact h1
          · cases n with
            | zero => exact absurd he (by simp [clsR])
            | succ n => rw [clsR, if_pos h1] at he; exact absurd he h1
        rw [itemR_lc h hi h1]
        exact ih _ _ _ hit.le he
theorem clsFrom_lc {p S : ByteArray} (h : TwoC p S) {i : Nat} (hi : i ≤ p.size) (he : (clsFrom p i).2.1 = 0) : clsFrom S i = clsFrom p i := by
  have := h.size
  have hit := itemR_set hi
  have h1 : (itemR p i).2.1 = 0 := by
    by_cases h1 : (itemR p i).2.1 = 0
    · exact h1
    · unfold clsFrom at he; rw [clsR, if_pos h1] at he; exact absurd he h1
  have e := clsFrom_more (s := p) (i := i) (n := S.size + 2) hi (by omega)
  rw [← e] at he ⊢
  unfold clsFrom
  rw [itemR_lc h hi h1]
  exact clsR_lc h _ _ _ _ hit.le he
theorem classR_lc {p S : ByteArray} (h : TwoC p S) {k : Nat} (hk : k < p.size) (he : (classR p k).2.1 = 0) : classR S k = classR p k := by
  unfold classR at he ⊢
  by_cases h94 : bAt p (k + 1) = 94
  · have hi := in_of_bAt h94 (by omega)
    rw [if_pos h94] at he
    have h0 : (clsFrom p (k + 2)).2.1 = 0 := by
      by_cases h0 : (clsFrom p (k + 2)).2.1 = 0
      · exact h0
      · rw [if_pos h0] at he; exact absurd he h0
    rw [if_pos ((h.is (b := 94) (by omega) (by omega) (i := k + 1) hk).mpr h94), if_pos h94, clsFrom_lc h (by omega) h0]
  · rw [if_neg h94] at he
    rw [if_neg (fun e => h94 ((h.is (b := 94) (by omega) (by omega) (i := k + 1) hk).mp e)), if_neg h94, clsFrom_lc h hk he]
theorem setR_lc {p S : ByteArray} (h : TwoC p S) {k : Nat} (hk : k < p.size) (he : (setR p k).2.1 = 0) : setR S k = setR p k := by
  unfold setR at he ⊢
  rw [h.lo k hk]
  by_cases h91 : bAt p k = 91
  · rw [if_pos h91] at he
    rw [if_pos h91, if_pos h91, classR_lc h hk he]
  · rw [if_neg h91] at he
    rw [if_neg h91, if_neg h91]
    by_cases h92 : bAt p k = 92
    · rw [if_pos h92] at he
      rw [if_pos h92, if_pos h92]
      by_cases h1 : k + 1 < p.size
      · exact escR_lc h h1
      · unfold escR at he; rw [if_pos (by omega)] at he; exact absurd he (by simp)
    · rw [if_neg h92, if_neg h92]
theorem tokenR_lc {p S : ByteArray} (h : TwoC p S) {k : Nat} (hk : k < p.size) (he : (tokenR p k).2.1 = 0) : tokenR S k = tokenR p k := by
  unfold tokenR at he ⊢
  rw [h.lo k hk, openR_lc h hk, signR_lc h hk, bracesR_lc h hk]
  by_cases c1 : bAt p k = 124
  · rw [if_pos c1, if_pos c1]
  · by_cases c2 : bAt p k = 40
    · rw [if_neg c1, if_neg c1, if_pos c2, if_pos c2]
    · by_cases c3 : bAt p k = 41
      · rw [if_neg c1, if_neg c1, if_neg c2, if_neg c2, if_pos c3, if_pos c3]
      · by_cases c4 : bAt p k = 42 ∨ bAt p k = 43 ∨ bAt p k = 63
        · rw [if_neg c1, if_neg c1, if_neg c2, if_neg c2, if_neg c3, if_neg c3, if_pos c4, if_pos c4]
        · by_cases c5 : bAt p k = 123
          · rw [if_neg c1, if_neg c1, if_neg c2, if_neg c2, if_neg c3, if_neg c3, if_neg c4, if_neg c4, if_pos c5, if_pos c5]
          · rw [if_neg c1, if_neg c2, if_neg c3, if_neg c4, if_neg c5] at he
            rw [setR_lc h hk he]
/-- A pattern that is taken, and a closing bracket: its tokens. -/
theorem scanK_lc {p S : ByteArray} (h : TwoC p S) : ∀ (n k : Nat), p.size - k ≤ n → k ≤ p.size → (scanK p k).2.1 = 0 → (scanK S k).2.1 = 0 ∧ mt (scanK S k).1 = mt (scanK p k).1 ++ [kTok 3] := by
  have hsz := h.size
  have hend : (scanK S p.size).2.1 = 0 ∧ mt (scanK S p.size).1 = [kTok 3] := by
    have et : tokenR S p.size = (kTok 3, 0, p.size + 1) := by unfold tokenR; rw [h.mid]; rfl
    have e2 : scanK S (p.size + 1) = ([], 0, p.size + 1) := scanK_end (by omega)
    rw [scanK_on (by omega) (by rw [et]), et]
    dsimp only
    rw [e2]
    exact ⟨rfl, rfl⟩
  intro n
  induction n with
  | zero =>
    intro k hn hk he
    obtain rfl : k = p.size := by omega
    rw [scanK_end (s := p) (Nat.le_refl _)]
    exact hend
  | succ n ih =>
    intro k hn hk he
    by_cases hkk : k < p.size
    · by_cases h0 : (tokenR p k).2.1 = 0
      · have et := tokenR_lc h hkk h0
        have ht := tokenR_tok hkk
        have hon := ht.on h0
        rw [scanK_on hkk h0] at he ⊢
        have h1 : (scanK p (tokenR p k).2.2).2.1 = 0 := by
          by_cases h1 : (scanK p (tokenR p k).2.2).2.1 = 0
          · exact h1
          · rw [if_pos h1] at he; exact absurd he h1
        obtain ⟨i1, i2⟩ := ih (tokenR p k).2.2 (by omega) ht.le h1
        rw [scanK_on (s := S) (by omega) (by rw [et]; exact h0), et, if_neg (by rw [i1]; simp), if_neg (by rw [h1]; simp)]
        refine ⟨rfl, ?_⟩
        show (tokenR p k).1 :: mt (scanK S (tokenR p k).2.2).1 = (tokenR p k).1 :: (mt (scanK p (tokenR p k).2.2).1 ++ [kTok 3])
        rw [i2]
      · rw [scanK_bad hkk h0] at he; exact absurd he h0
    · obtain rfl : k = p.size := by omega
      rw [scanK_end (s := p) (Nat.le_refl _)]
      exact hend
theorem scanK_hk {q S : ByteArray} {d : Nat} (h : ∀ i, bAt S (d + i) = bAt q i) (hs : S.size = d + q.size) : ∀ (n k : Nat), q.size - k ≤ n → k ≤ q.size → (scanK S (d + k)).2.1 = (scanK q k).2.1 ∧ mt (scanK S (d + k)).1 = mt (scanK q k).1 := by
  intro n
  induction n with
  | zero =>
    intro k hn hk
    rw [scanK_end (by omega), scanK_end (by omega)]
    exact ⟨rfl, rfl⟩
  | succ n ih =>
    intro k hn hk
    by_cases hkk : k < q.size
    · have ht := tokenR_tok hkk
      have e := tokenR_hi h hs hkk
      have e0 : (tokenR S (d + k)).1 = (tokenR q k).1 := by rw [e]; rfl
      have e1 : (tokenR S (d + k)).2.1 = (tokenR q k).2.1 := by rw [e]; rfl
      have e2 : (tokenR S (d + k)).2.2 = d + (tokenR q k).2.2 := by rw [e]; rfl
      by_cases he : (tokenR q k).2.1 = 0
      · have hon := ht.on he
        obtain ⟨i1, i2⟩ := ih (tokenR q k).2.2 (by omega) ht.le
        rw [scanK_on (by omega) (e1.trans he), scanK_on hkk he, e2]
        by_cases h1 : (scanK q (tokenR q k).2.2).2.1 ≠ 0
        · rw [if_pos (by rw [i1]; exact h1), if_pos h1]; exact ⟨i1, rfl⟩
        · rw [if_neg (by rw [i1]; exact h1), if_neg h1]
          refine ⟨rfl, ?_⟩
          show (tokenR S (d + k)).1 :: mt _ = (tokenR q k).1 :: mt _
          rw [e0, i2]
      · rw [scanK_bad (by omega) (by rw [e1]; exact he), scanK_bad hkk he]; exact ⟨e1, rfl⟩
    · rw [scanK_end (by omega), scanK_end (by omega)]
      exact ⟨rfl, rfl⟩
/-- A pattern in a group. -/
structure InG (p S : ByteArray) : Prop where
  size : S.size = p.size + 2
  fst : bAt S 0 = 40
  lo : ∀ i, i < p.size → bAt S (1 + i) = bAt p i
  mid : bAt S (1 + p.size) = 41
theorem InG.two {p S : ByteArray} (h : InG p S) : TwoC p (p ++ ⟨#[41]⟩) ∧ ∀ i, bAt S (1 + i) = bAt (p ++ ⟨#[41]⟩) i := by
  have hsz : (p ++ (⟨#[41]⟩ : ByteArray)).size = p.size + 1 := by rw [ByteArray.size_append]; rfl
  have h1 : ∀ i, i < p.size → bAt (p ++ ⟨#[41]⟩) i = bAt p i := by
    intro i hi
    rw [bAt_in (show i < (p ++ (⟨#[41]⟩ : ByteArray)).size by omega), bAt_in hi, ByteArray.getElem_append_left hi]
  have h2 : bAt (p ++ ⟨#[41]⟩) p.size = 41 := by
    rw [bAt_in (show p.size < (p ++ (⟨#[41]⟩ : ByteArray)).size by omega), ByteArray.getElem_append_right (Nat.le_refl _)]
    simp
    rfl
  refine ⟨⟨hsz, h1, h2⟩, fun i => ?_⟩
  rcases Nat.lt_trichotomy i p.size with hi | rfl | hi
  · rw [h.lo i hi, h1 i hi]
  · rw [h.mid, h2]
  · have := h.size
    rw [bAt_end (by omega), bAt_end (by omega)]
theorem scan_group {p S : ByteArray} (h : InG p S) (hp : (scanK p 0).2.1 = 0) (h63 : ∀ x, (mt (scanK p 0).1).head? = some x → x.kind ≠ 5) : (scanK S 0).2.1 = 0 ∧ mt (scanK S 0).1 = kTok 1 :: (mt (scanK p 0).1 ++ [kTok 3]) := by
  obtain ⟨h2, hh⟩ := h.two
  obtain ⟨c1, c2⟩ := scanK_lc h2 p.size 0 (by omega) (by omega) hp
  obtain ⟨d1, d2⟩ := scanK_hk hh (by rw [h2.size, h.size]; omega) (p ++ ⟨#[41]⟩).size 0 (by omega) (by omega)
  have hne : bAt S 1 ≠ 63 := by
    intro e
    have e1 : bAt (p ++ ⟨#[41]⟩) 0 = 63 := by rw [← hh 0]; exact e
    by_cases hs : 0 < p.size
    · rw [h2.lo 0 hs] at e1
      have ht : (tokenR p 0).2.1 = 0 → (tokenR p 0).1.kind = 5 := by
        have key : ∀ lo hi k, (countR p lo hi k).2.1 = 0 → (countR p lo hi k).1.kind = 5 := by
          intro lo hi k
          unfold countR
          repeat' split
          all_goals first | exact fun _ => rfl | exact fun e => absurd e (by simp)
        unfold tokenR
        rw [e1, if_neg (by omega), if_neg (by omega), if_neg (by omega), if_pos (by omega)]
        unfold signR
        rw [e1, if_neg (by omega), if_neg (by omega)]
        exact key _ _ _
      by_cases h0 : (tokenR p 0).2.1 = 0
      · rw [scanK_on hs h0] at hp h63
        by_cases h1 : (scanK p (tokenR p 0).2.2).2.1 ≠ 0
        · rw [if_pos h1] at hp; exact h1 hp
        · rw [if_neg h1] at h63
          exact h63 _ rfl (ht h0)
      · rw [scanK_bad hs h0] at hp; exact h0 hp
    · have e2 : p.size = 0 := by omega
      have := h2.mid
      rw [e2] at this
      omega
  have et : tokenR S 0 = (kTok 1, 0, 1) := by
    unfold tokenR
    rw [h.fst, if_neg (by omega), if_pos rfl]
    unfold openR
    rw [if_neg (by rw [Nat.zero_add]; exact fun e => hne (by first | exact e.1 | exact e))]
    rfl
  have hsz := h.size
  rw [scanK_on (by omega) (by rw [et]), et]
  dsimp only
  rw [show (1 : Nat) = 1 + 0 from rfl] at *
  rw [if_neg (by rw [d1, c1]; simp)]
  refine ⟨rfl, ?_⟩
  show kTok 1 :: mt (scanK S (1 + 0)).1 = _
  rw [d2, c2]
theorem in_group (p : ByteArray) : InG p ((⟨#[40]⟩ ++ p) ++ ⟨#[41]⟩) := by
  have hs1 : ((⟨#[40]⟩ : ByteArray) ++ p).size = p.size + 1 := by rw [ByteArray.size_append]; exact Nat.add_comm _ _
  have hs : (((⟨#[40]⟩ : ByteArray) ++ p) ++ (⟨#[41]⟩ : ByteArray)).size = p.size + 2 := by rw [ByteArray.size_append, hs1]; rfl
  refine ⟨hs, ?_, fun i hi => ?_, ?_⟩
  · rw [bAt_in (show 0 < (((⟨#[40]⟩ : ByteArray) ++ p) ++ (⟨#[41]⟩ : ByteArray)).size by omega), ByteArray.getElem_append_left (by omega), ByteArray.getElem_append_left (by decide)]
    rfl
  · rw [bAt_in (show 1 + i < (((⟨#[40]⟩ : ByteArray) ++ p) ++ (⟨#[41]⟩ : ByteArray)).size by omega), bAt_in hi, ByteArray.getElem_append_left (by omega), ByteArray.getElem_append_right (by show 1 ≤ 1 + i; omega)]
    congr 2
    show 1 + i - 1 = i
    omega
  · have key : ∀ (i : Nat) (h : i < (⟨#[41]⟩ : ByteArray).size), ((⟨#[41]⟩ : ByteArray)[i]'h).toNat = 41 := by
      intro i h
      have e : (⟨#[41]⟩ : ByteArray).size = 1 := rfl
      obtain rfl : i = 0 := by omega
      rfl
    rw [bAt_in (show 1 + p.size < (((⟨#[40]⟩ : ByteArray) ++ p) ++ (⟨#[41]⟩ : ByteArray)).size by omega), ByteArray.getElem_append_right (by omega)]
    exact key _ _
/-- It is parsed to a group round its tree, but for spans. -/
theorem parse_group {p S : ByteArray} {t : Tr} (h : InG p S) (hp : parseR p = (0, 0, some t)) (hd : dpT t < 200) : ∃ t', parseR S = (0, 0, some t') ∧ bare t' = bare (.mk 2 noW 0 0 false 0 0 [t]) := by
  obtain ⟨hr, _, htk⟩ := parse_right hp
  have hsc : (scanK p 0).2.1 = 0 := by
    unfold parseR at hp
    by_cases h1 : (scanAll p).2.1 ≠ 0
    · rw [if_pos h1] at hp; simp at hp
    · exact Classical.not_not.1 h1
  obtain ⟨g1, g2⟩ := scan_group h hsc (fun x hx => by
    have hok := tk_ok hr
    rw [htk] at hok
    change okC false (mt (scanK p 0).1) = true at hok
    cases hm : mt (scanK p 0).1 with
    | nil => rw [hm] at hx; cases hx
    | cons y r =>
      rw [hm] at hx hok
      obtain rfl : y = x := by simpa using hx
      rw [okC, Bool.and_eq_true] at hok
      simpa using hok.1)
  have hR : RtT (.mk 2 noW 0 0 false 0 0 [t]) := .group 2 0 0 t (.inl rfl) hr
  have hT : tkT (.mk 2 noW 0 0 false 0 0 [t]) = mt (scanAll S).1 := by
    rw [tkT_eq]
    show kTok 1 :: (tkT t ++ [kTok 3]) = _
    rw [htk]
    exact g2.symm
  have hD : dpT (.mk 2 noW 0 0 false 0 0 [t]) ≤ 200 := by
    rw [dpT, dpTs, dpTs]
    simp
    omega
  obtain ⟨L, hL⟩ : ∃ L, L = (scanAll S).1 := ⟨_, rfl⟩
  rw [← hL] at hT
  have hlen : L.length = (tkT (.mk 2 noW 0 0 false 0 0 [t])).length := by rw [hT]; simp [mt]
  obtain ⟨t', h1, h2⟩ := (prs_all (L := L) (size := S.size) hR).pat (6 * L.length + 6) 0 0 [] (by rw [hT]; simp) (by rw [hlen]; simp) (by omega) (fun x hx => by simp at hx)
  refine ⟨t', ?_, h2⟩
  have hw : wholeR L S.size = (0, (tkT (.mk 2 noW 0 0 false 0 0 [t])).length, some t') := by
    unfold wholeR
    rw [h1, thenR_ok, Nat.zero_add, if_neg (by omega)]
  unfold parseR
  rw [if_neg (by exact fun e => e g1), ← hL, hw, if_neg (by simp)]
/-- A tree's core knows no spans. -/
theorem core_bare (t : Tr) : coreT (bare t) = coreT t := by
  induction t using tr_ind with
  | h k s lo hi z a b l ih =>
    rw [bare_eq, coreT, coreT, coreTs_map, coreTs_map, List.map_map]
    congr 1
    exact List.map_congr_left ih
theorem core_group (t : Tr) : coreT (.mk 2 noW 0 0 false 0 0 [t]) = coreT t := by
  rw [coreT, coreTs_map]
  rfl
end
end
end Go.Proofs.YtfjepjkbflcjbaaGreatDoor
namespace Go.Proofs.YtfjepjkbflcjbaaGreatDoor
section
section
open Go Go.RowKit
/-- A core as it is built. -/
def WfC : Co → Prop
  | .nil => False
  | .node k s z a b => s.fit ∧ ((k = 0 ∧ s = noW ∧ z = false ∧ a = .nil ∧ b = .nil) ∨ (k = 1 ∧ z = false ∧ a = .nil ∧ b = .nil) ∨ ((k = 2 ∨ k = 3) ∧ s = noW ∧ z = false ∧ WfC a ∧ WfC b) ∨ (k = 4 ∧ s = noW ∧ WfC a ∧ b = .nil))
theorem atL_app {s : ByteArray} {k : Nat} : ∀ {l m : List Nat}, AtL s k (l ++ m) ↔ AtL s k l ∧ AtL s (k + l.length) m
  | [], m => ⟨fun h => ⟨AtL.nil s k, h⟩, fun h => h.2⟩
  | a :: l, m => by
    rw [List.cons_append, AtL.cons, AtL.cons, atL_app (s := s) (k := k + 1) (l := l) (m := m), List.length_cons, and_assoc, show k + 1 + l.length = k + (l.length + 1) by omega]
/-- How the texts begin. -/
theorem co_first {s : ByteArray} {k : Nat} : ∀ {c : Co}, WfC c → AtL s k (coN c) → bAt s k ≠ 41 ∧ bAt s k ≠ 124 ∧ bAt s k ≠ 63
  | .nil, h, _ => h.elim
  | .node kd t z a b, h, ha => by
    obtain ⟨hf, ⟨rfl, rfl, rfl, rfl, rfl⟩ | ⟨rfl, rfl, rfl, rfl⟩ | ⟨rfl | rfl, rfl, rfl, _, _⟩ | ⟨rfl, rfl, _, rfl⟩⟩ := h
    · have e : AtL s k [40, 41] := ha
      rw [AtL.cons] at e
      omega
    · have e : AtL s k (setN t ++ []) := ha
      rw [List.append_nil] at e
      obtain ⟨_, h1, _, h3, _, _, h6, _⟩ := set_back hf e
      exact ⟨h3, h1, h6⟩
    · have e : AtL s k (40 :: (coN a ++ (coN b ++ [41]))) := ha
      rw [AtL.cons] at e
      omega
    · have e : AtL s k (40 :: (coN a ++ (124 :: (coN b ++ [41])))) := ha
      rw [AtL.cons] at e
      omega
    · have e : AtL s k (123 :: (coN a ++ (if z then [125, 63] else [125]))) := ha
      rw [AtL.cons] at e
      omega
/-- Two cores whose texts stand at one place are one. -/
theorem co_back {s : ByteArray} : ∀ (c c' : Co) (k : Nat), WfC c → WfC c' → AtL s k (coN c) → AtL s k (coN c') → bAt s (k + (coN c).length) ≠ 63 → bAt s (k + (coN c').length) ≠ 63 → c = c'
  | .nil, _, _, h, _, _, _, _, _ => h.elim
  | .node _ _ _ _ _, .nil, _, _, h, _, _, _, _ => h.elim
  | .node kd t z a b, .node kd' t' z' a' b', k, h, h', ha, ha', hn, hn' => by
    obtain ⟨hf, h⟩ := h
    obtain ⟨hf', h'⟩ := h'
    have key : ∀ {c c' : Co} {i : Nat} {r r' : List Nat}, (WfC c → WfC c' → AtL s i (coN c) → AtL s i (coN c') → bAt s (i + (coN c).length) ≠ 63 → bAt s (i + (coN c').length) ≠ 63 → c = c') → WfC c → WfC c' → AtL s i (coN c ++ r) → AtL s i (coN c' ++ r') → bAt s (i + (coN c).length) ≠ 63 → bAt s (i + (coN c').length) ≠ 63 → c = c' ∧ AtL s (i + (coN c).length) r ∧ AtL s (i + (coN c).length) r' := by
      intro c c' i r r' ih w w' e e' n n'
      rw [atL_app] at e e'
      obtain rfl := ih w w' e.1 e'.1 n n'
      exact ⟨rfl, e.2, e'.2⟩
    rcases h with ⟨rfl, rfl, rfl, rfl, rfl⟩ | ⟨rfl, rfl, rfl, rfl⟩ | ⟨rfl | rfl, rfl, rfl, wa, wb⟩ | ⟨rfl, rfl, wa, rfl⟩
    · have e : AtL s k [40, 41] := ha
      rw [AtL.cons, AtL.cons] at e
      rcases h' with ⟨rfl, rfl, rfl, rfl, rfl⟩ | ⟨rfl, rfl, rfl, rfl⟩ | ⟨rfl | rfl, rfl, rfl, wa', wb'⟩ | ⟨rfl, rfl, wa', rfl⟩
      · rfl
      · have e' : AtL s k (setN t' ++ []) := ha'
        rw [List.append_nil] at e'
        obtain ⟨_, _, h2, _⟩ := set_back hf' e'
        exact absurd e.1 h2
      · have e' : AtL s k (40 :: (coN a' ++ (coN b' ++ [41]))) := ha'
        rw [AtL.cons, atL_app] at e'
        exact absurd e.2.1 (co_first wa' e'.2.1).1
      · have e' : AtL s k (40 :: (coN a' ++ (124 :: (coN b' ++ [41])))) := ha'
        rw [AtL.cons, atL_app] at e'
        exact absurd e.2.1 (co_first wa' e'.2.1).1
      · have e' : AtL s k (123 :: (coN a' ++ (if z' then [125, 63] else [125]))) := ha'
        rw [AtL.cons] at e'
        omega
    · have e : AtL s k (setN t ++ []) := ha
      rw [List.append_nil] at e
      obtain ⟨g0, _, g2, _, _, _, _, g7, _⟩ := set_back hf e
      rcases h' with ⟨rfl, rfl, rfl, rfl, rfl⟩ | ⟨rfl, rfl, rfl, rfl⟩ | ⟨rfl | rfl, rfl, rfl, wa', wb'⟩ | ⟨rfl, rfl, wa', rfl⟩
      · have e' : AtL s k [40, 41] := ha'
        rw [AtL.cons] at e'
        exact absurd e'.1 g2
      · have e' : AtL s k (setN t' ++ []) := ha'
        rw [List.append_nil] at e'
        have g' := (set_back hf' e').1
        rw [g0] at g'
        injection g' with g'
        rw [g']
      · have e' : AtL s k (40 :: (coN a' ++ (coN b' ++ [41]))) := ha'
        rw [AtL.cons] at e'
        exact absurd e'.1 g2
      · have e' : AtL s k (40 :: (coN a' ++ (124 :: (coN b' ++ [41])))) := ha'
        rw [AtL.cons] at e'
        exact absurd e'.1 g2
      · have e' : AtL s k (123 :: (coN a' ++ (if z' then [125, 63] else [125]))) := ha'
        rw [AtL.cons] at e'
        exact absurd e'.1 g7
    · have e : AtL s k (40 :: (coN a ++ (coN b ++ [41]))) := ha
      rw [AtL.cons] at e
      have ea := e.2
      rw [atL_app, atL_app] at ea
      rcases h' with ⟨rfl, rfl, rfl, rfl, rfl⟩ | ⟨rfl, rfl, rfl, rfl⟩ | ⟨rfl | rfl, rfl, rfl, wa', wb'⟩ | ⟨rfl, rfl, wa', rfl⟩
      · have e' : AtL s k [40, 41] := ha'
        rw [AtL.cons, AtL.cons] at e'
        exact absurd e'.2.1 (co_first wa ea.1).1
      · have e' : AtL s k (setN t' ++ []) := ha'
        rw [List.append_nil] at e'
        obtain ⟨_, _, h2, _⟩ := set_back hf' e'
        exact absurd e.1 h2
      · have e' : AtL s k (40 :: (coN a' ++ (coN b' ++ [41]))) := ha'
        rw [AtL.cons] at e'
        have ea' := e'.2
        rw [atL_app, atL_app] at ea'
        obtain ⟨rfl, r1, r2⟩ := key (co_back a a' (k + 1)) wa wa' e.2 e'.2 (co_first wb ea.2.1).2.2 (co_first wb' ea'.2.1).2.2
        have f1 := (AtL.cons.1 ea.2.2).1
        have f2 := (AtL.cons.1 ea'.2.2).1
        obtain ⟨rfl, _, _⟩ := key (co_back b b' _) wb wb' r1 r2 (by rw [f1]; decide) (by rw [f2]; decide)
        rfl
      · have e' : AtL s k (40 :: (coN a' ++ (124 :: (coN b' ++ [41])))) := ha'
        rw [AtL.cons] at e'
        have ea' := e'.2
        rw [atL_app, AtL.cons] at ea'
        obtain ⟨rfl, r1, r2⟩ := key (co_back a a' (k + 1)) wa wa' e.2 e'.2 (co_first wb ea.2.1).2.2 (by rw [ea'.2.1]; decide)
        exact absurd ea'.2.1 (co_first wb ea.2.1).2.1
      · have e' : AtL s k (123 :: (coN a' ++ (if z' then [125, 63] else [125]))) := ha'
        rw [AtL.cons] at e'
        omega
    · have e : AtL s k (40 :: (coN a ++ (124 :: (coN b ++ [41])))) := ha
      rw [AtL.cons] at e
      have ea := e.2
      rw [atL_app, AtL.cons, atL_app] at ea
      rcases h' with ⟨rfl, rfl, rfl, rfl, rfl⟩ | ⟨rfl, rfl, rfl, rfl⟩ | ⟨rfl | rfl, rfl, rfl, wa', wb'⟩ | ⟨rfl, rfl, wa', rfl⟩
      · have e' : AtL s k [40, 41] := ha'
        rw [AtL.cons, AtL.cons] at e'
        exact absurd e'.2.1 (co_first wa ea.1).1
      · have e' : AtL s k (setN t' ++ []) := ha'
        rw [List.append_nil] at e'
        obtain ⟨_, _, h2, _⟩ := set_back hf' e'
        exact absurd e.1 h2
      · have e' : AtL s k (40 :: (coN a' ++ (coN b' ++ [41]))) := ha'
        rw [AtL.cons] at e'
        have ea' := e'.2
        rw [atL_app, atL_app] at ea'
        obtain ⟨rfl, r1, r2⟩ := key (co_back a a' (k + 1)) wa wa' e.2 e'.2 (by rw [ea.2.1]; decide) (co_first wb' ea'.2.1).2.2
        exact absurd ea.2.1 (co_first wb' ea'.2.1).2.1
      · have e' : AtL s k (40 :: (coN a' ++ (124 :: (coN b' ++ [41])))) := ha'
        rw [AtL.cons] at e'
        have ea' := e'.2
        rw [atL_app, AtL.cons, atL_app] at ea'
        obtain ⟨rfl, r1, r2⟩ := key (co_back a a' (k + 1)) wa wa' e.2 e'.2 (by rw [ea.2.1]; decide) (by rw [ea'.2.1]; decide)
        have f1 := (AtL.cons.1 ea.2.2.2).1
        have f2 := (AtL.cons.1 ea'.2.2.2).1
        obtain ⟨rfl, _, _⟩ := key (co_back b b' _) wb wb' (AtL.cons.1 r1).2 (AtL.cons.1 r2).2 (by rw [f1]; decide) (by rw [f2]; decide)
        rfl
      · have e' : AtL s k (123 :: (coN a' ++ (if z' then [125, 63] else [125]))) := ha'
        rw [AtL.cons] at e'
        omega
    · have e : AtL s k (123 :: (coN a ++ (if z then [125, 63] else [125]))) := ha
      rw [AtL.cons] at e
      rcases h' with ⟨rfl, rfl, rfl, rfl, rfl⟩ | ⟨rfl, rfl, rfl, rfl⟩ | ⟨rfl | rfl, rfl, rfl, wa', wb'⟩ | ⟨rfl, rfl, wa', rfl⟩
      · have e' : AtL s k [40, 41] := ha'
        rw [AtL.cons] at e'
        omega
      · have e' : AtL s k (setN t' ++ []) := ha'
        rw [List.append_nil] at e'
        obtain ⟨_, _, _, _, _, _, _, h7, _⟩ := set_back hf' e'
        exact absurd e.1 h7
      · have e' : AtL s k (40 :: (coN a' ++ (coN b' ++ [41]))) := ha'
        rw [AtL.cons] at e'
        omega
      · have e' : AtL s k (40 :: (coN a' ++ (124 :: (coN b' ++ [41])))) := ha'
        rw [AtL.cons] at e'
        omega
      · have e' : AtL s k (123 :: (coN a' ++ (if z' then [125, 63] else [125]))) := ha'
        rw [AtL.cons] at e'
        have star : ∀ {z : Bool} {i : Nat}, AtL s i (if z then [125, 63] else [125]) → bAt s i = 125 ∧ (z = true → bAt s (i + 1) = 63) := by
          intro z i h
          cases z with
          | false => exact ⟨(AtL.cons.1 (show AtL s i [125] from h)).1, fun e => by cases e⟩
          | true =>
            have h : AtL s i [125, 63] := h
            rw [AtL.cons, AtL.cons] at h
            exact ⟨h.1, fun _ => h.2.1⟩
        have ea := star (atL_app.1 e.2).2
        have ea' := star (atL_app.1 e'.2).2
        obtain ⟨rfl, r1, r2⟩ := key (co_back a a' (k + 1)) wa wa' e.2 e'.2 (by rw [ea.1]; decide) (by rw [ea'.1]; decide)
        have hl : ∀ z : Bool, (coN (.node 4 noW z a .nil)).length = 1 + ((coN a).length + (if z then [125, 63] else [125] : List Nat).length) := by
          intro z
          show (123 :: (coN a ++ (if z then [125, 63] else [125]))).length = _
          rw [List.length_cons, List.length_append]
          omega
        rw [hl] at hn hn'
        cases z <;> cases z'
        · rfl
        · have := ea'.2 rfl
          exact absurd (by rw [← this]; congr 1; simp; omega) hn
        · have := ea.2 rfl
          exact absurd (by rw [← this]; congr 1; simp; omega) hn'
        · rfl
theorem co_bytes : ∀ {c : Co}, ∀ b ∈ coN c, b < 256
  | .nil, b, h => by cases h
  | .node k s z a b', b, h => by
    have h : b ∈ (frL k s z).1 ++ (coN a ++ ((frL k s z).2.1 ++ (coN b' ++ (frL k s z).2.2))) := h
    simp only [List.mem_append] at h
    have hf : ∀ x, x ∈ (frL k s z).1 ∨ x ∈ (frL k s z).2.1 ∨ x ∈ (frL k s z).2.2 → x < 256 := by
      intro x hx
      unfold frL at hx
      repeat' split at hx
      all_goals simp only [List.mem_cons, List.not_mem_nil, or_false, false_or] at hx
      · exact set_bytes x hx
      all_goals omega
    rcases h with h | h | h | h | h
    · exact hf b (.inl h)
    · exact co_bytes b h
    · exact hf b (.inr (.inl h))
    · exact co_bytes b h
    · exact hf b (.inr (.inr h))
/-- Unlike cores are told unlike. -/
theorem co_inj {c c' : Co} (h : WfC c) (h' : WfC c') (e : baN (coN c) = baN (coN c')) : c = c' := by
  have hs : (coN c).length = (coN c').length := by rw [← baN_size, e, baN_size]
  refine co_back (s := baN (coN c)) c c' 0 h h' (baN_at co_bytes) (by rw [e]; exact baN_at co_bytes) ?_ ?_
  · rw [bAt_end (by rw [baN_size]; omega)]; decide
  · rw [bAt_end (by rw [baN_size]; omega)]; decide
theorem WfC.fit : ∀ {c : Co}, WfC c → CoFit c
  | .nil, _ => trivial
  | .node k s z a b, h => by
    obtain ⟨hf, ⟨_, _, _, rfl, rfl⟩ | ⟨_, _, rfl, rfl⟩ | ⟨_, _, _, wa, wb⟩ | ⟨_, _, wa, rfl⟩⟩ := h
    · exact ⟨hf, trivial, trivial⟩
    · exact ⟨hf, trivial, trivial⟩
    · exact ⟨hf, wa.fit, wb.fit⟩
    · exact ⟨hf, wa.fit, trivial⟩
theorem WfC.ne {c : Co} (h : WfC c) : c ≠ .nil := by
  cases c with
  | nil => exact h.elim
  | node => exact Co.noConfusion
theorem wf_empty : WfC emptyC := ⟨noW_fit, .inl ⟨rfl, rfl, rfl, rfl, rfl⟩⟩
theorem wf_join {k : Int} (hk : k = 2 ∨ k = 3) {c b : Co} (hc : WfC c) (hb : b = .nil ∨ WfC b) : WfC (joinC k c b) := by
  rcases hb with rfl | hb
  · exact hc
  · rw [joinC_some _ _ _ hb.ne]
    exact ⟨noW_fit, .inr (.inr (.inl ⟨hk, rfl, rfl, hc, hb⟩))⟩
theorem wf_choice {z : Bool} {c : Co} (hc : WfC c) : WfC (choiceC z c) := by
  unfold choiceC
  split
  · exact ⟨noW_fit, .inr (.inr (.inl ⟨.inr rfl, rfl, rfl, wf_empty, hc⟩))⟩
  · exact ⟨noW_fit, .inr (.inr (.inl ⟨.inr rfl, rfl, rfl, hc, wf_empty⟩))⟩
theorem wf_joins {k : Int} (hk : k = 2 ∨ k = 3) : ∀ (cs : List Co) (b : Co), (∀ c ∈ cs, WfC c) → (b = .nil ∨ WfC b) → cs.foldr (joinC k) b = .nil ∨ WfC (cs.foldr (joinC k) b)
  | [], _, _, hb => hb
  | c :: r, b, hc, hb => .inr (wf_join hk (hc c (List.mem_cons_self ..)) (wf_joins hk r b (fun c h => hc c (List.mem_cons_of_mem _ h)) hb))
theorem wf_tail (lo hi : Int) (z : Bool) {c : Co} (hc : WfC c) : tailC lo hi z c = .nil ∨ WfC (tailC lo hi z c) := by
  unfold tailC
  split
  · exact .inr ⟨noW_fit, .inr (.inr (.inr ⟨rfl, rfl, hc, rfl⟩))⟩
  · generalize (hi - lo).toNat = n
    induction n with
    | zero => exact .inl rfl
    | succ n ih => exact .inr (wf_choice (wf_join (.inl rfl) hc ih))
/-- A right tree's core is one as they are built. -/
theorem wf_core {t : Tr} (h : RtT t) : WfC (coreT t) := by
  have or_ : ∀ {c : Co}, c = .nil ∨ WfC c → WfC (orEmpty c) := by
    intro c hc
    rcases hc with rfl | hc
    · exact wf_empty
    · cases c with
      | nil => exact hc.elim
      | node => exact hc
  induction h with
  | empty a b => rw [coreT]; exact wf_empty
  | set s a b hs => rw [coreT]; exact ⟨hs, .inr (.inl ⟨rfl, rfl, rfl, rfl⟩)⟩
  | group k a b u hk hu ih =>
    rw [coreT, coreTs_map]
    rcases hk with rfl | rfl <;> exact ih
  | cat a b l hl hi h ih =>
    rw [coreT, coreTs_map]
    rcases wf_joins (k := 2) (.inl rfl) (l.map coreT) .nil (fun c hc => by obtain ⟨u, hu, rfl⟩ := List.mem_map.1 hc; exact ih u hu) (.inl rfl) with e | e
    · exact absurd e (joins_ne 2 _ _ (fun c hc => by obtain ⟨u, hu, rfl⟩ := List.mem_map.1 hc; exact core_ne (h u hu)) (.inl (by intro e; rw [List.map_eq_nil_iff] at e; subst e; simp at hl)))
    · exact e
  | alt a b l hl hi h ih =>
    rw [coreT, coreTs_map]
    rcases wf_joins (k := 3) (.inr rfl) (l.map coreT) .nil (fun c hc => by obtain ⟨u, hu, rfl⟩ := List.mem_map.1 hc; exact ih u hu) (.inl rfl) with e | e
    · exact absurd e (joins_ne 3 _ _ (fun c hc => by obtain ⟨u, hu, rfl⟩ := List.mem_map.1 hc; exact core_ne (h u hu)) (.inl (by intro e; rw [List.map_eq_nil_iff] at e; subst e; simp at hl)))
    · exact e
  | rep lo hi z a b u hc hu h ih =>
    rw [coreT, coreTs_map]
    exact or_ (wf_joins (k := 2) (.inl rfl) _ _ (fun c hc => by rw [List.eq_of_mem_replicate hc]; exact ih) (wf_tail lo hi z ih))
theorem allW_fit : allW.fit := ⟨nt_fit _, nt_fit _, nt_fit _, nt_fit _⟩
theorem wf_rest : WfC restC := ⟨noW_fit, .inr (.inr (.inr ⟨rfl, rfl, ⟨allW_fit, .inr (.inl ⟨rfl, rfl, rfl, rfl⟩)⟩, rfl⟩))⟩
theorem wf_by (m : Int) {c : Co} (h : WfC c) : WfC (byC m c) := by
  unfold byC
  split
  · exact wf_join (.inl rfl) h (.inr wf_rest)
  · split
    · exact wf_join (.inl rfl) wf_rest (.inr h)
    · split
      · exact wf_join (.inl rfl) wf_rest (.inr (wf_join (.inl rfl) h (.inr wf_rest)))
      · exact h
/-- How long a core's text is. -/
theorem co_len : ∀ {c : Co}, (coN c).length ≤ 2404 * coSize c
  | .nil => Nat.zero_le _
  | .node k s z a b => by
    have ha := co_len (c := a)
    have hb := co_len (c := b)
    have hf : (frL k s z).1.length + (frL k s z).2.1.length + (frL k s z).2.2.length ≤ 2404 := by
      have h1 := setN_len s
      unfold frL
      repeat' split
      all_goals simp
      all_goals omega
    show ((frL k s z).1 ++ (coN a ++ ((frL k s z).2.1 ++ (coN b ++ (frL k s z).2.2)))).length ≤ _
    simp only [List.length_append]
    unfold coSize
    omega
end
end
end Go.Proofs.YtfjepjkbflcjbaaGreatDoor
namespace Go.Proofs.YtfjepjkbflcjbaaGreatDoor
section
section
open Go Go.RowKit
theorem pl_small {a b : Int} (ha : 0 ≤ a) (hb : 0 ≤ b) (h : pl a b < top) : pl a b = a + b := by
  unfold pl at h ⊢
  rw [cnt_of ha, cnt_of hb] at h ⊢
  exact sat_lt h
theorem sum_nn : ∀ {xs : List Int}, (∀ x ∈ xs, 0 ≤ x) → 0 ≤ xs.sum
  | [], _ => Int.le_refl _
  | x :: r, h => by
    rw [List.sum_cons]
    have := h x (List.mem_cons_self ..)
    have := sum_nn (xs := r) (fun y hy => h y (List.mem_cons_of_mem _ hy))
    omega
theorem fold_small : ∀ (xs : List Int) (a : Int), 0 ≤ a → (∀ x ∈ xs, 0 ≤ x) → xs.foldl pl a < top → xs.foldl pl a = a + xs.sum
  | [], a, _, _, _ => by simp
  | x :: r, a, ha, hx, h => by
    rw [List.foldl_cons] at h ⊢
    have hr : ∀ y ∈ r, 0 ≤ y := fun y hy => hx y (List.mem_cons_of_mem _ hy)
    have e := fold_small r (pl a x) (pl_nn _ _) hr h
    have := sum_nn hr
    have e2 := pl_small ha (hx x (List.mem_cons_self ..)) (by omega)
    rw [e, e2, List.sum_cons]
    omega
theorem adL_small {xs : List Int} (hx : ∀ x ∈ xs, 0 ≤ x) (h : adL xs < top) : adL xs = xs.sum := by
  unfold adL at h ⊢
  rw [fold_small xs 0 (Int.le_refl _) hx h]
  omega
theorem addS_small : ∀ (xs : List Int) (a : Int), 0 ≤ a → (∀ x ∈ xs, 0 ≤ x) → addS a xs < top → addS a xs = a + xs.sum
  | [], a, _, _, _ => by simp [addS]
  | x :: r, a, ha, hx, h => by
    have hr : ∀ y ∈ r, 0 ≤ y := fun y hy => hx y (List.mem_cons_of_mem _ hy)
    have hx0 := hx x (List.mem_cons_self ..)
    have e0 : addS a (x :: r) = addS (adL [a, x]) r := rfl
    rw [e0] at h ⊢
    have e := addS_small r (adL [a, x]) (adL_nn _) hr h
    have := sum_nn hr
    have e2 := adL_small (xs := [a, x]) (fun y hy => by
      simp only [List.mem_cons, List.not_mem_nil, or_false] at hy
      rcases hy with rfl | rfl
      · exact ha
      · exact hx0) (by omega)
    rw [e, e2, List.sum_cons, List.sum_cons, List.sum_cons, List.sum_nil]
    omega
theorem muL_small {x y : Int} (hx : 0 ≤ x) (hxt : x ≤ top) (hy : 0 ≤ y) (h : muL [x, y] < top) : muL [x, y] = x * y := by
  have e : muL [x, y] = ti (ti 1 x) y := rfl
  rw [e, ti_one x hx hxt] at h ⊢
  unfold ti at h ⊢
  rw [cnt_of hx, cnt_of hy] at h ⊢
  exact sat_lt h
theorem pl_ge {a b : Int} (ha : 0 ≤ a) (hat : a ≤ top) (hb : 0 ≤ b) (hbt : b ≤ top) : a ≤ pl a b ∧ b ≤ pl a b := by
  unfold pl
  rw [cnt_of ha, cnt_of hb]
  unfold sat
  split <;> omega
theorem fold_ge : ∀ (xs : List Int) (a : Int), 0 ≤ a → a ≤ top → (∀ x ∈ xs, 0 ≤ x ∧ x ≤ top) → a ≤ xs.foldl pl a ∧ ∀ x ∈ xs, x ≤ xs.foldl pl a
  | [], a, _, _, _ => ⟨Int.le_refl _, fun x h => by cases h⟩
  | x :: r, a, ha, hat, hx => by
    obtain ⟨hx0, hxt⟩ := hx x (List.mem_cons_self ..)
    obtain ⟨h1, h2⟩ := pl_ge ha hat hx0 hxt
    obtain ⟨h3, h4⟩ := fold_ge r (pl a x) (pl_nn _ _) (pl_le _ _) (fun y hy => hx y (List.mem_cons_of_mem _ hy))
    rw [List.foldl_cons]
    refine ⟨Int.le_trans h1 h3, fun y hy => ?_⟩
    rcases List.mem_cons.1 hy with rfl | hy
    · exact Int.le_trans h2 h3
    · exact h4 y hy
theorem adL_ge {xs : List Int} (hx : ∀ x ∈ xs, 0 ≤ x ∧ x ≤ top) {x : Int} (h : x ∈ xs) : x ≤ adL xs := (fold_ge xs 0 (Int.le_refl _) (by unfold top; omega) hx).2 x h
theorem repM_ge {x lo hi : Int} (h0 : 0 ≤ x) (ht : x ≤ top) (hh : hi ≠ 0) : x ≤ repM x lo hi := by
  have m : ∀ u v : Int, 0 ≤ muL [u, v] ∧ muL [u, v] ≤ top := fun u v => ⟨ti_nn _ _, ti_le _ _⟩
  have t1 : (1 : Int) ≤ top ∧ (2 : Int) ≤ top := by unfold top; omega
  unfold repM
  simp only [if_neg hh]
  split
  · refine adL_ge (fun y hy => ?_) (show x ∈ _ by simp)
    simp only [List.mem_cons, List.not_mem_nil, or_false] at hy
    rcases hy with rfl | rfl | rfl
    · exact m _ _
    · exact ⟨h0, ht⟩
    · omega
  · split
    · refine adL_ge (fun y hy => ?_) (show x ∈ _ by simp)
      simp only [List.mem_cons, List.not_mem_nil, or_false] at hy
      rcases hy with rfl | rfl
      · exact m _ _
      · exact ⟨h0, ht⟩
    · refine adL_ge (fun y hy => ?_) (show x ∈ _ by simp)
      simp only [List.mem_cons, List.not_mem_nil, or_false] at hy
      rcases hy with rfl | rfl | rfl | rfl
      · exact m _ _
      · exact m _ _
      · exact ⟨h0, ht⟩
      · omega
/-- A core's size and one more; of none nothing. -/
def szP : Co → Nat
  | .nil => 0
  | c => coSize c + 1
theorem szP_ne {c : Co} (h : c ≠ .nil) : szP c = coSize c + 1 := by
  cases c with
  | nil => exact absurd rfl h
  | node => rfl
theorem szP_join (k : Int) (c b : Co) (hc : c ≠ .nil) : szP (joinC k c b) = coSize c + 1 + szP b := by
  cases b with
  | nil => rw [joinC_nil, szP_ne hc]; rfl
  | node k' s z a' b' =>
    rw [joinC_some k c _ Co.noConfusion]
    show 1 + coSize c + coSize (.node k' s z a' b') + 1 = coSize c + 1 + (coSize (.node k' s z a' b') + 1)
    omega
theorem szP_joins (k : Int) : ∀ (cs : List Co) (b : Co), (∀ c ∈ cs, c ≠ .nil) → szP (cs.foldr (joinC k) b) = (cs.map fun c => coSize c + 1).sum + szP b
  | [], b, _ => by simp
  | c :: r, b, h => by
    rw [List.foldr_cons, szP_join k c _ (h c (List.mem_cons_self ..)), szP_joins k r b (fun d hd => h d (List.mem_cons_of_mem _ hd)), List.map_cons, List.sum_cons]
    omega
theorem szP_rep (k : Int) (n : Nat) (c b : Co) (hc : c ≠ .nil) : szP ((List.replicate n c).foldr (joinC k) b) = n * (coSize c + 1) + szP b := by
  rw [szP_joins k _ _ (fun d hd => by rw [List.eq_of_mem_replicate hd]; exact hc), List.map_replicate]
  congr 1
  induction n with
  | zero => simp
  | succ n ih => rw [List.replicate_succ, List.sum_cons, ih, Nat.succ_mul]; omega
theorem choice_ne (z : Bool) (c : Co) : choiceC z c ≠ .nil := by
  unfold choiceC
  split <;> exact Co.noConfusion
theorem szP_choice (z : Bool) (c b : Co) (hc : c ≠ .nil) : szP (choiceC z (joinC 2 c b)) = coSize c + 3 + szP b := by
  have h1 := szP_join 2 c b hc
  rw [szP_ne (joinC_ne 2 c b hc)] at h1
  rw [szP_ne (choice_ne _ _)]
  have h2 : coSize (choiceC z (joinC 2 c b)) = 2 + coSize (joinC 2 c b) := by
    unfold choiceC
    split
    · show 1 + 1 + coSize (joinC 2 c b) = _
      omega
    · show 1 + coSize (joinC 2 c b) + 1 = _
      omega
  omega
theorem szP_tail (n : Nat) (z : Bool) (c : Co) (hc : c ≠ .nil) : szP ((List.replicate n c).foldr (fun c b => choiceC z (joinC 2 c b)) .nil) = n * (coSize c + 3) := by
  induction n with
  | zero => simp [szP]
  | succ n ih => rw [List.replicate_succ, List.foldr_cons, szP_choice z c _ hc, ih, Nat.succ_mul]; omega
theorem orEmpty_size (c : Co) : coSize (orEmpty c) = if szP c = 0 then 1 else szP c - 1 := by
  cases c with
  | nil => rfl
  | node k s z a b =>
    have : szP (.node k s z a b) = coSize (.node k s z a b) + 1 := rfl
    rw [this]
    rfl
/-- How great repeats are. -/
theorem rep_size {lo hi : Int} (z : Bool) {c : Co} (hc : c ≠ .nil) (h0 : 0 ≤ lo) (h1 : lo ≤ 1000) (h2 : hi = -1 ∨ (lo ≤ hi ∧ hi ≤ 1000)) {x : Int} (hx : (coSize c : Int) = x) (hp : 1 ≤ x) (hr : repM x lo hi < top) : (coSize (repC lo hi z c) : Int) = repM x lo hi := by
  obtain ⟨a, rfl⟩ := Int.eq_ofNat_of_zero_le h0
  have ht : (1000 : Int) < top := by unfold top; omega
  obtain ⟨s, hs⟩ : ∃ s : Nat, s = coSize c := ⟨_, rfl⟩
  rw [← hs] at hx
  have two : ∀ {u v : Int}, 0 ≤ u → 0 ≤ v → adL [u, v] < top → adL [u, v] = u + v := fun hu hv h => by
    rw [adL_small (fun y hy => by
      simp only [List.mem_cons, List.not_mem_nil, or_false] at hy
      rcases hy with rfl | rfl <;> assumption) h]
    simp
  have three : ∀ {u v t : Int}, 0 ≤ u → 0 ≤ v → 0 ≤ t → adL [u, v, t] < top → adL [u, v, t] = u + v + t := fun hu hv ht h => by
    rw [adL_small (fun y hy => by
      simp only [List.mem_cons, List.not_mem_nil, or_false] at hy
      rcases hy with rfl | rfl | rfl <;> assumption) h]
    simp only [List.sum_cons, List.sum_nil]
    omega
  have add_le : ∀ k : Int, 0 ≤ k → 0 ≤ adL [x, k] := fun k _ => adL_nn _
  have mnn : ∀ u v : Int, 0 ≤ muL [u, v] := fun u v => ti_nn _ _
  unfold repC
  rw [orEmpty_size, szP_rep 2 _ _ _ hc, ← hs, Int.toNat_natCast]
  unfold repM at hr ⊢
  unfold tailC
  by_cases e1 : hi = -1
  · rw [if_pos e1] at hr ⊢
    rw [if_pos e1]
    have q := three (mnn (a : Int) (adL [x, 1])) (by omega) (by omega) hr
    have q1 : adL [x, 1] = x + 1 := two (by omega) (by omega) (by
      have : adL [x, 1] = pl (pl 0 x) 1 := rfl
      rw [this, pl_zero x (by omega) (by have := mnn (a : Int) (adL [x, 1]); omega)]
      unfold pl
      rw [cnt_of (by omega), cnt_of (by omega), sat_self (by have := mnn (a : Int) (adL [x, 1]); omega)]
      have := mnn (a : Int) (adL [x, 1])
      omega)
    rw [q1] at q hr
    have q2 := muL_small (x := (a : Int)) (y := x + 1) (by omega) (by omega) (by omega) (by omega)
    rw [q1, q, q2, ← hx]
    have e : szP (.node 4 noW z c .nil) = s + 2 := by rw [hs]; show 1 + coSize c + 0 + 1 = _; omega
    rw [e, if_neg (by omega)]
    have : a * (s + 1) + (s + 2) - 1 = a * (s + 1) + s + 1 := by omega
    rw [this]
    simp
  · rw [if_neg e1] at hr ⊢
    rw [if_neg e1]
    obtain ⟨h3, h4⟩ := h2.resolve_left e1
    obtain ⟨m, hm⟩ : ∃ m : Nat, hi - (a : Int) = (m : Int) := ⟨(hi - a).toNat, by omega⟩
    rw [hm, Int.toNat_natCast, szP_tail m z c hc, ← hs]
    by_cases e2 : hi = 0
    · rw [if_pos e2]
      have ha : a = 0 := by omega
      have hm0 : m = 0 := by omega
      rw [ha, hm0]
      simp
    · rw [if_neg e2] at hr ⊢
      by_cases e3 : (a : Int) = hi
      · rw [if_pos e3] at hr ⊢
        have hm0 : m = 0 := by omega
        obtain ⟨b, hb⟩ : ∃ b, a = b + 1 := ⟨a - 1, by omega⟩
        have hb1 : (a : Int) - 1 = (b : Int) := by omega
        rw [hb1] at hr ⊢
        have q := two (mnn (b : Int) (adL [x, 1])) (by omega) hr
        by_cases hb0 : b = 0
        · subst hb0
          have q2 : muL [((0 : Nat) : Int), adL [x, 1]] = 0 := by
            have : muL [((0 : Nat) : Int), adL [x, 1]] = ti (ti 1 0) (adL [x, 1]) := rfl
            rw [this, ti_one 0 (by omega) (by omega)]
            unfold ti cnt
            simp [sat, top]
          rw [q, q2, hb, hm0, ← hx]
          rw [if_neg (by omega)]
          simp
        · have q1 : adL [x, 1] = x + 1 := two (by omega) (by omega) (by
            have e : muL [(b : Int), adL [x, 1]] = (b : Int) * adL [x, 1] := muL_small (by omega) (by omega) (adL_nn _) (by omega)
            have h5 : 1 * adL [x, 1] ≤ (b : Int) * adL [x, 1] := Int.mul_le_mul_of_nonneg_right (by omega) (adL_nn _)
            omega)
          rw [q1] at q hr
          have q2 := muL_small (x := (b : Int)) (y := x + 1) (by omega) (by omega) (by omega) (by omega)
          rw [q1, q, q2, ← hx, hb, hm0]
          rw [if_neg (by rw [Nat.succ_mul]; omega), Nat.succ_mul]
          have : b * (s + 1) + (s + 1) + 0 * (s + 3) - 1 = b * (s + 1) + s := by omega
          rw [this]
          simp
      · rw [if_neg e3] at hr ⊢
        obtain ⟨b, hb⟩ : ∃ b, m = b + 1 := ⟨m - 1, by omega⟩
        have hb1 : hi - (a : Int) - 1 = (b : Int) := by omega
        have hb2 : (m : Int) - 1 = (b : Int) := by omega
        rw [hb1] at hr
        rw [hb2]
        have four : adL [muL [(a : Int), adL [x, 1]], muL [(b : Int), adL [x, 3]], x, 2] = muL [(a : Int), adL [x, 1]] + muL [(b : Int), adL [x, 3]] + x + 2 := by
          rw [adL_small (fun y hy => by
            simp only [List.mem_cons, List.not_mem_nil, or_false] at hy
            rcases hy with rfl | rfl | rfl | rfl
            · exact mnn _ _
            · exact mnn _ _
            · omega
            · omega) hr]
          simp only [List.sum_cons, List.sum_nil]
          omega
        have n1 := mnn (a : Int) (adL [x, 1])
        have n2 := mnn (b : Int) (adL [x, 3])
        have mul_of : ∀ (n : Nat) (k : Int), (n : Int) ≤ 1000 → 0 ≤ k → k ≤ 1000 → muL [(n : Int), adL [x, k]] < top → muL [(n : Int), adL [x, k]] + x + 2 < top → muL [(n : Int), adL [x, k]] = (n : Int) * (x + k) := by
          intro n k hn hk0 hk h6 h7
          have e : muL [(n : Int), adL [x, k]] = (n : Int) * adL [x, k] := muL_small (by omega) (by omega) (adL_nn _) h6
          by_cases hn0 : n = 0
          · rw [e, hn0]; simp
          · have h5 : 1 * adL [x, k] ≤ (n : Int) * adL [x, k] := Int.mul_le_mul_of_nonneg_right (by omega) (adL_nn _)
            rw [e, two (by omega) hk0 (by omega)]
        rw [four] at hr ⊢
        rw [mul_of a 1 (by omega) (by omega) (by omega) (by omega) (by omega), mul_of b 3 (by omega) (by omega) (by omega) (by omega) (by omega), ← hx, hb]
        rw [if_neg (by rw [Nat.succ_mul]; omega), Nat.succ_mul]
        have : a * (s + 1) + (b * (s + 3) + (s + 3)) - 1 = a * (s + 1) + b * (s + 3) + s + 2 := by omega
        rw [this]
        simp
/-- A right tree's core is as great as was reckoned. -/
theorem core_size {t : Tr} (h : RtT t) : trSize t ≤ 1000000000 → szT t < top → (coSize (coreT t) : Int) = szT t := by
  have many : ∀ (k : Int) (l : List Tr), (∀ u ∈ l, RtT u) → (∀ u ∈ l, szT u < top → (coSize (coreT u) : Int) = szT u) → 2 ≤ l.length → addS ((l.length : Int) - 1) (l.map szT) < top → (coSize ((l.map coreT).foldr (joinC k) .nil) : Int) = addS ((l.length : Int) - 1) (l.map szT) := by
    intro k l hr ih hl hs
    have hn : ∀ x ∈ l.map szT, 0 ≤ x := fun x hx => by
      obtain ⟨u, hu, rfl⟩ := List.mem_map.1 hx
      have := szT_pos (hr u hu)
      omega
    have e := addS_small _ _ (by omega) hn hs
    rw [e] at hs ⊢
    have hne : ∀ c ∈ l.map coreT, c ≠ .nil := fun c hc => by
      obtain ⟨u, hu, rfl⟩ := List.mem_map.1 hc
      exact core_ne (hr u hu)
    have q := szP_joins k (l.map coreT) .nil hne
    rw [szP_ne (joins_ne k _ _ hne (.inl (by intro e; rw [List.map_eq_nil_iff] at e; subst e; simp at hl)))] at q
    have hsum : ∀ (r : List Tr), (∀ u ∈ r, u ∈ l) → (((r.map coreT).map fun c => coSize c + 1).sum : Int) = (r.map szT).sum + r.length := by
      intro r
      induction r with
      | nil => intro _; simp
      | cons u r ihr =>
        intro hm
        have hu := hm u (List.mem_cons_self ..)
        have le : szT u ≤ (l.map szT).sum := by
          have key : ∀ (xs : List Int), (∀ x ∈ xs, 0 ≤ x) → ∀ y ∈ xs, y ≤ xs.sum := by
            intro xs
            induction xs with
            | nil => intro _ y hy; cases hy
            | cons x xs ihx =>
              intro hxs y hy
              rw [List.sum_cons]
              have h0 := hxs x (List.mem_cons_self ..)
              have h1 := sum_nn (xs := xs) (fun z hz => hxs z (List.mem_cons_of_mem _ hz))
              rcases List.mem_cons.1 hy with rfl | hy
              · omega
              · have := ihx (fun z hz => hxs z (List.mem_cons_of_mem _ hz)) y hy
                omega
          exact key _ hn _ (List.mem_map_of_mem hu)
        have e1 := ih u hu (by omega)
        have e2 := ihr (fun v hv => hm v (List.mem_cons_of_mem _ hv))
        simp only [List.map_cons, List.sum_cons, List.length_cons]
        omega
    have hall := hsum l (fun _ h => h)
    have z0 : szP .nil = 0 := rfl
    rw [z0] at q
    omega
  induction h with
  | empty a b => intro _ _; rfl
  | set s a b hs => intro _ _; rfl
  | group k a b u hk hu ih =>
    intro hz hs
    have hzu := trSize_part (u := .mk k noW 0 0 false a b [u]) (i := 0) (c := u) rfl
    have e : szT (.mk k noW 0 0 false a b [u]) = adL [0, szT u] := by
      rw [sz_many (by rcases hk with rfl | rfl <;> decide) _ _ _ _ _ _ (by simp)]
      rfl
    rw [e] at hs ⊢
    have hp := szT_pos hu
    have e2 := adL_small (xs := [0, szT u]) (fun y hy => by
      simp only [List.mem_cons, List.not_mem_nil, or_false] at hy
      rcases hy with rfl | rfl <;> omega) hs
    rw [e2] at hs ⊢
    simp only [List.sum_cons, List.sum_nil] at hs ⊢
    have := ih (by omega) (by omega)
    have e3 : coreT (.mk k noW 0 0 false a b [u]) = coreT u := by
      rw [coreT, coreTs_map]
      rcases hk with rfl | rfl <;> rfl
    rw [e3]
    omega
  | cat a b l hl hi h ih =>
    intro hz hs
    rw [sz_many (by decide) _ _ _ _ _ _ (by omega)] at hs ⊢
    rw [coreT, coreTs_map]
    exact many 2 l h (fun u hu hs => ih u hu (by have h1 := trSize_mem hu; have h2 := trSize_eq (.mk 4 noW 0 0 false a b l); rw [show prts (.mk 4 noW 0 0 false a b l) = l from rfl] at h2; omega) hs) hl hs
  | alt a b l hl hi h ih =>
    intro hz hs
    rw [sz_many (by decide) _ _ _ _ _ _ (by omega)] at hs ⊢
    rw [coreT, coreTs_map]
    exact many 3 l h (fun u hu hs => ih u hu (by have h1 := trSize_mem hu; have h2 := trSize_eq (.mk 5 noW 0 0 false a b l); rw [show prts (.mk 5 noW 0 0 false a b l) = l from rfl] at h2; omega) hs) hl hs
  | rep lo hi z a b u hc hu h ih =>
    intro hz hs
    have hzu := trSize_part (u := .mk 6 noW lo hi z a b [u]) (i := 0) (c := u) rfl
    have e : szT (.mk 6 noW lo hi z a b [u]) = repM (szT u) lo hi := by
      rw [szT, szTs_map]
      rfl
    rw [e] at hs ⊢
    obtain ⟨h1, h2, h3⟩ : 0 ≤ lo ∧ lo ≤ countM hi ∧ countM hi ≤ 1000 := by
      unfold countedR at hc
      simpa using hc
    have hh : hi = -1 ∨ (lo ≤ hi ∧ hi ≤ 1000) := by
      by_cases hm : hi = -1
      · exact .inl hm
      · right
        unfold countM at h2 h3
        rw [if_neg hm] at h2 h3
        exact ⟨h2, h3⟩
    have hp := szT_pos h
    have hne := core_ne h
    have ec : coreT (.mk 6 noW lo hi z a b [u]) = repC lo hi z (coreT u) := by
      rw [coreT, coreTs_map]
      rfl
    rw [ec]
    by_cases h6 : hi = 0
    · have hl : lo = 0 := by omega
      subst h6
      subst hl
      rfl
    · exact rep_size z hne h1 (by omega) hh (ih (by omega) (by have := repM_ge (lo := lo) (Int.le_trans (by omega) hp) (szT_bd u (by omega)).2 h6; omega)) hp hs
theorem rest_size : coSize restC = 2 := rfl
theorem by_size {m : Int} (hm : 0 ≤ m ∧ m < 4) {c : Co} (hc : c ≠ .nil) : (coSize (byC m c) : Int) = coSize c + addM m := by
  have hr : restC ≠ .nil := Co.noConfusion
  have j : ∀ (a b : Co), a ≠ .nil → b ≠ .nil → coSize (joinC 2 a b) = coSize a + coSize b + 1 := fun a b ha hb => by
    rw [joinC_some 2 a b hb]
    show 1 + coSize a + coSize b = _
    omega
  unfold byC addM
  by_cases h1 : m = 1
  · rw [if_pos h1, j c restC hc hr, rest_size, if_neg (by omega), if_neg (by omega)]
    omega
  · by_cases h2 : m = 2
    · rw [if_neg h1, if_pos h2, j restC c hr hc, rest_size, if_neg (by omega), if_neg (by omega)]
      omega
    · by_cases h3 : m = 3
      · rw [if_neg h1, if_neg h2, if_pos h3, j restC _ hr (joinC_ne 2 c restC hc), j c restC hc hr, rest_size, if_neg (by omega), if_pos h3]
        omega
      · rw [if_neg h1, if_neg h2, if_neg h3]
        obtain rfl : m = 0 := by omega
        simp
end
end
end Go.Proofs.YtfjepjkbflcjbaaGreatDoor
namespace Go.Proofs.YtfjepjkbflcjbaaGreatDoor
section
section
open Go Go.RowKit
attribute [local go_sem ↓] Go.wp_at_zero Go.wp_at_succ
attribute [local go_sem] eq4
theorem deep_dp (t : Tr) : foldR deepR t = (dpT t : Int) := by
  induction t using tr_ind with
  | h k s lo hi z a b l ih =>
    rw [foldR_eq]
    have e : (prts (.mk k s lo hi z a b l)).map (foldR deepR) = l.map fun t => (dpT t : Int) := List.map_congr_left ih
    rw [e]
    show (if k = 2 ∨ k = 3 then maxR _ + 1 else maxR _) = _
    rw [maxR_dp, dpT]
    split <;> omega
theorem sz_bare (t : Tr) : szT (bare t) = szT t := by
  induction t using tr_ind with
  | h k s lo hi z a b l ih =>
    rw [bare_eq, szT, szT, szTs_map, szTs_map, List.map_map]
    congr 1
    exact List.map_congr_left ih
theorem parse_small {s : ByteArray} {t : Tr} (hs : s.size ≤ 400) (h : parseR s = (0, 0, some t)) : trSize t ≤ 1000000000 := by
  obtain ⟨h1, h2, h3⟩ := parse_right h
  have hl := scan_len' s
  have h4 := (rt_sizes h1).2.2
  rw [h3] at h4
  unfold mt at h4
  rw [List.length_map] at h4
  omega
theorem adL_two_le {x y : Int} (hx : 1 ≤ x) (hxt : x ≤ top) (hy : 0 ≤ y) (h : adL [x, y] ≤ 4096) : adL [x, y] = x + y := by
  have e := adL_small (xs := [x, y]) (fun z hz => by
    simp only [List.mem_cons, List.not_mem_nil, or_false] at hz
    rcases hz with rfl | rfl <;> omega) (by unfold top; omega)
  rw [e]
  simp
/-- What core.Parse gives. -/
def PO (s : ByteArray) (m : Int) (w' : World) (v : Value) (e : Int) : Prop :=
  (e ≠ 0 ∧ v = .pointer none ∧ ∀ t, parseR s = (0, 0, some t) → 4096 < adL [szT t, addM m]) ∨ (e = 0 ∧ ∃ t, parseR s = (0, 0, some t) ∧ adL [szT t, addM m] ≤ 4096 ∧ CoAt w' (byC m (coreT t)) v)
theorem cparse_po (s : ByteArray) (m : Int) (hm : 0 ≤ m ∧ m < 4) (hs : s.size ≤ 400) (w : World) (hT : Tab w) :
    Calls Tryz.prog 5 #[.string s, .int .i64 m] w fun x w' => ∃ v at_ e, x = .returned (.tuple #[v, .int .i64 at_, .int .i64 e]) ∧ PO s m w' v e ∧ Below w.heap.size w w' := by
  rcases parseR_cases s with ⟨t, h⟩ | ⟨e, a, h, he⟩
  · obtain ⟨h1, h2, h3⟩ := parse_right h
    refine (cparse_ok s m hm t (by omega) h h1 (by rw [rt_right h1]; omega) (parse_small hs h) w hT).mono ?_
    rintro x w' ⟨v, e, rfl, hb, hB⟩
    refine ⟨v, 0, e, rfl, ?_, hB⟩
    rcases hb with ⟨g1, rfl, rfl⟩ | ⟨g1, rfl, g2⟩
    · refine .inl ⟨by decide, rfl, fun t' h' => ?_⟩
      rw [h] at h'
      obtain rfl : t = t' := by simpa using h'
      exact g1
    · exact .inr ⟨rfl, t, h, g1, g2⟩
  · refine (cparse_bad s m hm e a he (by omega) h w hT).mono ?_
    rintro x w' ⟨rfl, hB⟩
    exact ⟨_, a, e, rfl, .inl ⟨he, rfl, fun t h' => by rw [h] at h'; simp at h'⟩, hB⟩
/-- A core that is not too great. -/
structure GC (c : Co) : Prop where
  wf : WfC c
  size : coSize c ≤ 4096
theorem po_good {s : ByteArray} {m : Int} {t : Tr} (hs : s.size ≤ 400) (hm : 0 ≤ m ∧ m < 4) (h : parseR s = (0, 0, some t)) (hz : adL [szT t, addM m] ≤ 4096) : GC (byC m (coreT t)) := by
  obtain ⟨h1, _, _⟩ := parse_right h
  have hw := wf_core h1
  have hb := szT_bd t (parse_small hs h)
  have e := adL_two_le (szT_pos h1) hb.2 (addM_nn m).1 hz
  have hn := (addM_nn m).1
  have hc := core_size h1 (parse_small hs h) (by unfold top; omega)
  have hy := by_size (m := m) hm hw.ne
  exact ⟨wf_by m hw, by omega⟩
theorem GC.text {c : Co} (h : GC c) (p : Option Addr) (w : World) (hc : CoAt w c (.pointer p)) (hT : Tab w) :
    Calls Tryz.prog 8 #[.pointer p] w fun e w' => e = .returned (.string (baN (coN c))) ∧ Below w.heap.size w w' :=
  ctext_any c p w hc h.wf.fit hT (by have := h.size; omega) (by have := h.size; have := co_len (c := c); omega)
theorem GC.pl {c : Co} (h : GC c) : cPl c ≤ 1099511000000 := by
  rw [cPl_size]
  have := h.size
  omega
/-- The group round a pattern has its core. -/
theorem po_group {p : ByteArray} {m : Int} {t : Tr} (hp : parseR p = (0, 0, some t)) (hs : p.size ≤ 100) (hd : dpT t < 200) (hz : adL [szT t, addM m] ≤ 4096) {w' : World} {v : Value} {e : Int} (h : PO ((⟨#[40]⟩ ++ p) ++ ⟨#[41]⟩) m w' v e) : e = 0 ∧ CoAt w' (byC m (coreT t)) v := by
  obtain ⟨t', h1, h2⟩ := parse_group (in_group p) hp hd
  obtain ⟨hr, _, _⟩ := parse_right hp
  have hb := szT_bd t (parse_small (by omega) hp)
  have hpos := szT_pos hr
  have e2 := adL_two_le hpos hb.2 (addM_nn m).1 hz
  have hn := (addM_nn m).1
  have ez : szT t' = szT t := by
    rw [← sz_bare t', h2, sz_bare, sz_many (by decide) _ _ _ _ _ _ (by simp)]
    show adL [0, szT t] = szT t
    rw [adL_small (fun y hy => by
      simp only [List.mem_cons, List.not_mem_nil, or_false] at hy
      rcases hy with rfl | rfl <;> omega) (by
      show pl (pl 0 0) (szT t) < top
      rw [pl_zero 0 (by omega) (by unfold top; omega), pl_zero _ (by omega) hb.2]
      unfold top
      omega)]
    simp
  have ec : coreT t' = coreT t := by rw [← core_bare t', h2, core_bare, core_group]
  rcases h with ⟨_, _, h⟩ | ⟨rfl, t2, h3, _, h5⟩
  · have := h t' h1
    rw [ez] at this
    omega
  · rw [h1] at h3
    obtain rfl : t' = t2 := by simpa using h3
    rw [ec] at h5
    exact ⟨rfl, h5⟩
set_option maxRecDepth 100000 in
set_option maxHeartbeats 4000000 in
theorem csyn_any (s : ByteArray) (t : Tr) (hs : s.size ≤ 400) (hp : parseR s = (0, 0, some t)) (w : World) (hT : Tab w) :
    Calls Tryz.prog 6 #[.string s] w fun e w' => e = .returned (.bool (decide (dpT t < 200))) ∧ Below w.heap.size w w' := by
  have PA := parse_any s (by omega) w hT
  rw [hp] at PA
  have HPA := qhid PA
  have HZ : Hid (trSize t ≤ 1000000000) := qhid (parse_small hs hp)
  obtain ⟨d, hd⟩ : ∃ d, d = dpT t := ⟨_, rfl⟩
  have HD := qhid hd
  rw [← hd]
  clear PA hp hs hT hd
  have key : ∀ r : Bool, decide (d < 200) = r → decide ((d : Int) < 200) = r → Calls Tryz.prog 6 #[.string s] w fun e w' => e = .returned (.bool r) ∧ Below w.heap.size w w' := by
    intro r _ hr
    go_enter Tryz.func6, Tryz.ntmps6
    go_wp2_with fail
    refine HPA.out.mono ?_
    rintro x w1 ⟨v, rfl, hv, hb⟩
    have hv : NdAt w1 (fun b => w.heap.size ≤ b) t v := hv
    obtain ⟨a, rfl⟩ := hv.pointer
    have DE := sdeep_any _ t a w1 hv (by have := HZ.out; omega)
    rw [deep_dp, ← HD.out] at DE
    have HDE := qhid DE
    have HB1 := qhid hb
    clear hv hb HPA DE
    go_wp2_with fail
    refine HDE.out.mono ?_
    rintro x w2 ⟨rfl, hb2⟩
    have HB2 := qhid (HB1.out.trans (hb2.mono HB1.out.size))
    clear hb2 HDE HB1
    go_wp2_with fail
    exact bodyPost_ret (v := .bool r) (by simp [results, Tryz.results6, go_sem]) rfl ⟨rfl, HB2.out⟩
  by_cases h : d < 200
  · rw [decide_eq_true h]
    exact key true (decide_eq_true h) (decide_eq_true (by omega))
  · rw [decide_eq_false h]
    exact key false (decide_eq_false h) (decide_eq_false (by omega))
end
end
end Go.Proofs.YtfjepjkbflcjbaaGreatDoor
namespace Go.Proofs.YtfjepjkbflcjbaaGreatDoor
section
section
open Go Go.RowKit
attribute [local go_sem ↓] Go.wp_at_zero Go.wp_at_succ
attribute [local go_sem] eq4
set_option maxRecDepth 100000 in
set_option maxHeartbeats 4000000 in
theorem cs_long (p q : ByteArray) (hs : 100 < p.size ∨ 100 < q.size) (x2 : Int) (w : World)
    (AW : ∀ X, Below w.heap.size w X → Calls Tryz.prog 4 #[] X fun e w' => e = .returned (.bool true) ∧ Below X.heap.size X w') :
    Calls Tryz.prog 3 #[.string p, .string q, .int .u8 x2] w fun x w' => x = .returned (.bool true) ∧ Below w.heap.size w w' := by
  have HAW := qhid AW
  clear AW
  by_cases h : 100 < p.size
  · have h1 : decide ((100 : Int) < (p.size : Int)) = true := decide_eq_true (by omega)
    have h2 : (100 : Int) < (p.size : Int) := by omega
    clear hs h
    go_enter Tryz.func3, Tryz.ntmps3
    go_wp2_with fail
    refine (HAW.out w (Below.refl _ _)).mono ?_
    rintro x w2 ⟨rfl, hb2⟩
    have HB2 := qhid hb2
    clear hb2
    go_wp2_with fail
    go_ret
    exact ⟨rfl, HB2.out⟩
  · have h1 : decide ((100 : Int) < (p.size : Int)) = false := decide_eq_false (by omega)
    have h2 : (p.size : Int) ≤ 100 := by omega
    have h3 : decide ((100 : Int) < (q.size : Int)) = true := decide_eq_true (by omega)
    have h4 : (100 : Int) < (q.size : Int) := by omega
    clear hs h
    go_enter Tryz.func3, Tryz.ntmps3
    go_wp2_with fail
    refine (HAW.out w (Below.refl _ _)).mono ?_
    rintro x w2 ⟨rfl, hb2⟩
    have HB2 := qhid hb2
    clear hb2
    go_wp2_with fail
    go_ret
    exact ⟨rfl, HB2.out⟩
theorem CoAt.some {w : World} {c : Co} {v : Value} (h : CoAt w c v) (hc : c ≠ .nil) : ∃ q, v = .pointer (some ⟨q, 0, none⟩) := by
  rcases h.nil_iff with ⟨e, _⟩ | ⟨_, h⟩
  · exact absurd e hc
  · exact h
set_option maxRecDepth 100000 in
set_option maxHeartbeats 8000000 in
theorem coresame_any (p q : ByteArray) (x2 : Int) (hx : 0 ≤ x2 ∧ x2 ≤ 255) (w : World) (hT : Tab w) :
    Calls Tryz.prog 3 #[.string p, .string q, .int .u8 x2] w fun x w' => x = .returned (.bool true) ∧ Below w.heap.size w w' := by
  have AW := qhid (fun X (hX : Below w.heap.size w X) => core_awake X (hT.below hX hT.lt))
  by_cases hlong : 100 < p.size ∨ 100 < q.size
  · exact cs_long p q hlong x2 w AW.out
  have hp : p.size ≤ 100 := by omega
  have hq : q.size ≤ 100 := by omega
  obtain ⟨m, hm⟩ : ∃ m : Int, m = x2 % 4 := ⟨_, rfl⟩
  have hm4 : 0 ≤ m ∧ m < 4 := by rw [hm]; omega
  have HM4 := qhid hm4
  have P1 := qhid (fun X (hX : Below w.heap.size w X) => cparse_po p m hm4 (by omega) X (hT.below hX hT.lt))
  have P2 := qhid (fun X (hX : Below w.heap.size w X) => cparse_po q m hm4 (by omega) X (hT.below hX hT.lt))
  have P3 := qhid (fun X (hX : Below w.heap.size w X) => cparse_po ((⟨#[40]⟩ ++ p) ++ ⟨#[41]⟩) m hm4 (by rw [(in_group p).size]; omega) X (hT.below hX hT.lt))
  have SY := qhid (fun t (h : parseR p = (0, 0, some t)) X (hX : Below w.heap.size w X) => csyn_any p t (by omega) h X (hT.below hX hT.lt))
  have HT := qhid (fun X (hX : Below w.heap.size w X) => hT.below hX hT.lt)
  have HP := qhid hp
  have HQ := qhid hq
  have h1 : decide ((100 : Int) < (p.size : Int)) = false := decide_eq_false (by omega)
  have h2 : decide ((100 : Int) < (q.size : Int)) = false := decide_eq_false (by omega)
  have h3 : (p.size : Int) ≤ 100 := by omega
  have h4 : (q.size : Int) ≤ 100 := by omega
  have HMV := qhid hm
  clear hT hlong hp hq hm
  go_enter Tryz.func3, Tryz.ntmps3
  go_upto_region 4 with fail
  rw [← HMV.out]
  clear HMV hm4
  go_wp2_with fail
  refine (P1.out w (Below.refl _ _)).mono ?_
  rintro x w1 ⟨va, ata, e, rfl, hpo, hb⟩
  have HPA := qhid hpo
  have HB1 := qhid hb
  clear hpo hb P1
  go_wp2_with fail
  refine (P2.out w1 HB1.out).mono ?_
  rintro x w2 ⟨vb, atb, f, rfl, hpo, hb⟩
  have HPB := qhid hpo
  have HB2 := qhid (HB1.out.trans (hb.mono HB1.out.size))
  have HB12 := qhid hb
  clear hpo hb P2
  go_wp2_with fail
  refine (P3.out w2 HB2.out).mono ?_
  rintro x w3 ⟨vc, atc, g, rfl, hpo, hb⟩
  have HPC := qhid hpo
  have HB3 := qhid (HB2.out.trans (hb.mono HB2.out.size))
  have HB23 := qhid hb
  clear hpo hb P3
  go_upto_region 7 with fail
  have fin : ∀ (wk : World), Below w.heap.size w wk → Calls Tryz.prog 4 #[] wk fun e w' => e = .returned (.bool true) ∧ Below wk.heap.size wk w' := AW.out
  have FIN := qhid fin
  clear fin AW
  rcases HPA.out with ⟨he, rfl, _⟩ | ⟨rfl, t, ht, hz, hca⟩
  · have e1 : (e != 0) = true := by simpa using he
    have e2 : (e == 0) = false := by simpa using he
    clear HPA
    rcases HPB.out with ⟨hf, rfl, _⟩ | ⟨rfl, u, hu, hzu, hcb⟩
    · have f2 : (f == 0) = false := by simpa using hf
      clear HPB he hf
      go_wp2_with fail
      refine (FIN.out w3 HB3.out).mono ?_
      rintro x w4 ⟨rfl, hb⟩
      have HB4 := qhid (HB3.out.trans (hb.mono HB3.out.size))
      clear hb
      go_wp2_with fail
      go_ret
      exact ⟨rfl, HB4.out⟩
    · obtain ⟨pb, rfl⟩ := hcb.some (po_good (by have := HQ.out; omega) HM4.out hu hzu).wf.ne
      clear HPB he hu hzu hcb
      go_wp2_with fail
      refine (FIN.out w3 HB3.out).mono ?_
      rintro x w4 ⟨rfl, hb⟩
      have HB4 := qhid (HB3.out.trans (hb.mono HB3.out.size))
      clear hb
      go_wp2_with fail
      go_ret
      exact ⟨rfl, HB4.out⟩
  · have GA := qhid (po_good (by have := HP.out; omega) HM4.out ht hz)
    obtain ⟨pa, rfl⟩ := hca.some GA.out.wf.ne
    rcases HPB.out with ⟨hf, rfl, _⟩ | ⟨rfl, u, hu, hzu, hcb⟩
    · have f1 : (f != 0) = true := by simpa using hf
      have f2 : (f == 0) = false := by simpa using hf
      clear HPB HPA hf ht hz hca GA
      go_wp2_with fail
      refine (FIN.out w3 HB3.out).mono ?_
      rintro x w4 ⟨rfl, hb⟩
      have HB4 := qhid (HB3.out.trans (hb.mono HB3.out.size))
      clear hb
      go_wp2_with fail
      go_ret
      exact ⟨rfl, HB4.out⟩
    · have GB := qhid (po_good (by have := HQ.out; omega) HM4.out hu hzu)
      obtain ⟨pb, rfl⟩ := hcb.some GB.out.wf.ne
      have HTA := qhid (And.intro ht hz)
      obtain ⟨ca, hca'⟩ : ∃ c, c = byC m (coreT t) := ⟨_, rfl⟩
      obtain ⟨cb, hcb'⟩ : ∃ c, c = byC m (coreT u) := ⟨_, rfl⟩
      rw [← hca'] at hca GA
      rw [← hcb'] at hcb GB
      have HCE := qhid hca'
      have HA3 : Hid (CoAt w3 ca (.pointer (some ⟨pa, 0, none⟩))) := qhid ((hca.up HB12.out).up HB23.out)
      have HB3' : Hid (CoAt w3 cb (.pointer (some ⟨pb, 0, none⟩))) := qhid (hcb.up HB23.out)
      clear HPB HPA ht hz hca hu hzu hcb hca' hcb' HB12 HB23
      go_upto_region 9 with fail
      go_cut [84] (fun v wx => v = .bool false ∧ Hid (Below w3.heap.size w3 wx))
      case first =>
        have SYC := qhid (SY.out t HTA.out.1 w3 HB3.out)
        by_cases hd : dpT t < 200
        · obtain ⟨rfl, hcc⟩ := po_group HTA.out.1 HP.out hd HTA.out.2 HPC.out
          rw [← HCE.out] at hcc
          obtain ⟨pc, rfl⟩ := hcc.some GA.out.wf.ne
          have HCC := qhid hcc
          rw [decide_eq_true hd] at SYC
          clear HPC hcc hd
          go_wp2_with fail
          refine SYC.out.mono ?_
          rintro x w4 ⟨rfl, hb⟩
          have HB4 := qhid hb
          have SM := csame_any ca ca (some pa) (some pc) w4 (HA3.out.up hb) (HCC.out.up hb) GA.out.pl
          rw [eqC_true.2 rfl] at SM
          have HSM := qhid SM
          clear hb SM SYC
          go_wp2_with fail
          refine HSM.out.mono ?_
          rintro x w5 ⟨rfl, hb⟩
          have HB5 := qhid (HB4.out.trans (hb.mono HB4.out.size))
          clear hb HSM
          go_wp2_with fail
          go_meet
          exact ⟨rfl, HB5⟩
        · rw [decide_eq_false hd] at SYC
          clear hd
          go_wp2_with fail
          refine SYC.out.mono ?_
          rintro x w4 ⟨rfl, hb⟩
          have HB4 := qhid hb
          clear hb SYC
          go_wp2_with fail
          go_meet
          exact ⟨rfl, HB4⟩
      case rest =>
        obtain ⟨rfl, HBW⟩ := hcut
        have HA4 := qhid (HA3.out.up HBW.out)
        have HB4 := qhid (HB3'.out.up HBW.out)
        have HW4 := qhid (HB3.out.trans (HBW.out.mono HB3.out.size))
        clear HA3 HB3' HBW HB3 SY HPC HTA HCE
        have S1 := qhid (csame_any ca cb (some pa) (some pb) wc HA4.out HB4.out GA.out.pl)
        obtain ⟨r, hr⟩ : ∃ r, r = eqC ca cb := ⟨_, rfl⟩
        rw [← hr] at S1
        obtain ⟨sa, hsa⟩ : ∃ s, s = baN (coN ca) := ⟨_, rfl⟩
        obtain ⟨sb, hsb⟩ : ∃ s, s = baN (coN cb) := ⟨_, rfl⟩
        have hsd : (sa.toList == sb.toList) = r := by
          by_cases h : ca = cb
          · rw [hr, eqC_true.2 h, hsa, hsb, h, beq_self_eq_true]
          · have h0 : eqC ca cb = false := by
              cases h0 : eqC ca cb with
              | false => rfl
              | true => exact absurd (eqC_true.1 h0) h
            rw [hr, h0]
            exact beq_eq_false_iff_ne.2 fun e => h (co_inj GA.out.wf GB.out.wf (by
              rw [← hsa, ← hsb]
              rw [ByteArray.toList_eq, ByteArray.toList_eq] at e
              exact ByteArray.ext (Array.toList_inj.mp e)))
        have HSE := qhid hsd
        have HSA := qhid hsa
        have HSB := qhid hsb
        clear hr hsa hsb hsd
        go_wp2_with fail
        refine S1.out.mono ?_
        rintro x w5 ⟨rfl, hb⟩
        have HA5 := qhid (HA4.out.up hb)
        have HB5 := qhid (HB4.out.up hb)
        have HW5 := qhid (HW4.out.trans (hb.mono HW4.out.size))
        have T1 := GA.out.text _ w5 HA5.out (HT.out w5 HW5.out)
        rw [← HSA.out] at T1
        have HT1 := qhid T1
        clear hb T1 S1 HA4 HB4 HW4
        go_wp2_with fail
        refine HT1.out.mono ?_
        rintro x w6 ⟨rfl, hb⟩
        have HA6 := qhid (HA5.out.up hb)
        have HB6 := qhid (HB5.out.up hb)
        have HW6 := qhid (HW5.out.trans (hb.mono HW5.out.size))
        have T2 := GB.out.text _ w6 HB6.out (HT.out w6 HW6.out)
        rw [← HSB.out] at T2
        have HT2 := qhid T2
        clear hb T2 HT1 HA5 HB5 HW5
        go_wp2_with fail
        refine HT2.out.mono ?_
        rintro x w7 ⟨rfl, hb⟩
        have HW7 := qhid (HW6.out.trans (hb.mono HW6.out.size))
        have S2 := csame_any ca ca (some pa) (some pa) w7 (HA6.out.up hb) (HA6.out.up hb) GA.out.pl
        rw [eqC_true.2 rfl] at S2
        have HS2 := qhid S2
        have hsd := HSE.out
        clear hb S2 HT2 HA6 HB6 HW6
        go_wp2_with fail
        refine HS2.out.mono ?_
        rintro x w8 ⟨rfl, hb⟩
        have HW8 := qhid (HW7.out.trans (hb.mono HW7.out.size))
        clear hb HS2 HW7
        go_wp2_with fail
        refine (FIN.out w8 HW8.out).mono ?_
        rintro x w9 ⟨rfl, hb⟩
        have HW9 := qhid (HW8.out.trans (hb.mono HW8.out.size))
        clear hb
        go_wp2_with fail
        go_ret
        exact ⟨rfl, HW9.out⟩
end
end
end Go.Proofs.YtfjepjkbflcjbaaGreatDoor
