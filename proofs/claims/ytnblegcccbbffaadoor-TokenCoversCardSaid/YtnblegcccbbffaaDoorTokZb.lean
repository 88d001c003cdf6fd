/- Two patterns, one behind the other: what is told of the first one's places, and of the second one's. Two patterns, one behind the other: what is told of the first one's places; their tokens. -/
import Derived.Test.YtnblegcccbbffaaDoorTokP
namespace Go.Proofs.YtnblegcccbbffaaDoor
section
open Go Go.RowKit
/-- A text is p, a bar, and q. -/
structure Two (p q S : ByteArray) : Prop where
  size : S.size = p.size + 1 + q.size
  lo : ∀ i, i < p.size → bAt S i = bAt p i
  mid : bAt S p.size = 124
  hi : ∀ i, bAt S (p.size + 1 + i) = bAt q i
/-- What comes of a place, told of a text that begins d bytes ahead. -/
def sh {α : Type} (d : Nat) (r : α × Int × Nat) : α × Int × Nat := (r.1, r.2.1, d + r.2.2)
theorem sh_mk {α : Type} (d : Nat) (t : α) (e : Int) (j : Nat) : sh d (t, e, j) = (t, e, d + j) := rfl
theorem dlen_hi {q S : ByteArray} {d : Nat} (h : ∀ i, bAt S (d + i) = bAt q i) : ∀ n a, dlen S (d + a) n = dlen q a n := by
  intro n
  induction n with
  | zero => intro a; rfl
  | succ n ih => intro a; unfold dlen; rw [h, Nat.add_assoc, ih]
theorem nval_hi {q S : ByteArray} {d : Nat} (h : ∀ i, bAt S (d + i) = bAt q i) (a : Nat) : ∀ i, nval S (d + a) i = nval q a i := by
  intro i
  induction i with
  | zero => rfl
  | succ i ih => unfold nval; rw [ih, Nat.add_assoc, h]
theorem dall_hi {q S : ByteArray} {d : Nat} (h : ∀ i, bAt S (d + i) = bAt q i) (hs : S.size = d + q.size) (a : Nat) : dall S (d + a) = dall q a := by
  unfold dall; rw [hs, show d + q.size - (d + a) = q.size - a by omega, dlen_hi h]
theorem numR_hi {q S : ByteArray} {d : Nat} (h : ∀ i, bAt S (d + i) = bAt q i) (hs : S.size = d + q.size) (a : Nat) : numR S (d + a) = sh d (numR q a) := by
  unfold numR
  rw [dall_hi h hs, nval_hi h]
  simp only [apply_ite (sh d), sh_mk, Nat.add_assoc]
theorem mostR_hi {q S : ByteArray} {d : Nat} (h : ∀ i, bAt S (d + i) = bAt q i) (hs : S.size = d + q.size) (lo : Int) (a : Nat) : mostR S lo (d + a) = sh d (mostR q lo a) := by
  unfold mostR
  rw [numR_hi h hs, h]
  simp only [apply_ite (sh d), sh_mk]
  rfl
theorem countR_hi {q S : ByteArray} {d : Nat} (h : ∀ i, bAt S (d + i) = bAt q i) (lo hi : Int) (a : Nat) : countR S lo hi (d + a) = sh d (countR q lo hi a) := by
  unfold countR
  simp only [Nat.add_assoc, h, apply_ite (sh d), sh_mk]
theorem shutR_hi {q S : ByteArray} {d : Nat} (h : ∀ i, bAt S (d + i) = bAt q i) (lo hi : Int) (a : Nat) : shutR S lo hi (d + a) = sh d (shutR q lo hi a) := by
  unfold shutR
  rw [h, Nat.add_assoc, countR_hi h]
  simp only [apply_ite (sh d), sh_mk]
theorem bracesR_hi {q S : ByteArray} {d : Nat} (h : ∀ i, bAt S (d + i) = bAt q i) (hs : S.size = d + q.size) (k : Nat) : bracesR S (d + k) = sh d (bracesR q k) := by
  unfold bracesR
  obtain ⟨⟨x, c, j⟩, hr⟩ : ∃ r, numR q (k + 1) = r := ⟨_, rfl⟩
  have e : numR S (d + k + 1) = (x, c, d + j) := by rw [Nat.add_assoc, numR_hi h hs, hr]; rfl
  obtain ⟨⟨y, c2, j2⟩, hm⟩ : ∃ r, mostR q x (j + 1) = r := ⟨_, rfl⟩
  have e2 : mostR S x (d + j + 1) = (y, c2, d + j2) := by rw [Nat.add_assoc, mostR_hi h hs, hm]; rfl
  rw [e, hr]
  dsimp only
  rw [e2, hm, h, shutR_hi h, shutR_hi h]
  dsimp only
  by_cases h0 : c ≠ 0
  · rw [if_pos h0, if_pos h0]; rfl
  · rw [if_neg h0, if_neg h0]
    by_cases h44 : bAt q j = 44
    · rw [if_pos h44, if_pos h44]
      by_cases h1 : c2 ≠ 0
      · rw [if_pos h1, if_pos h1]; rfl
      · rw [if_neg h1, if_neg h1]
    · rw [if_neg h44, if_neg h44]
theorem openR_hi {q S : ByteArray} {d : Nat} (h : ∀ i, bAt S (d + i) = bAt q i) (k : Nat) : openR S (d + k) = sh d (openR q k) := by
  unfold openR
  simp only [Nat.add_assoc, h, apply_ite (sh d), sh_mk]
theorem signR_hi {q S : ByteArray} {d : Nat} (h : ∀ i, bAt S (d + i) = bAt q i) (k : Nat) : signR S (d + k) = sh d (signR q k) := by
  unfold signR
  rw [h, Nat.add_assoc, countR_hi h, countR_hi h, countR_hi h]
  simp only [apply_ite (sh d)]
theorem pairR_hi {q S : ByteArray} {d : Nat} (h : ∀ i, bAt S (d + i) = bAt q i) (j : Nat) : pairR S (d + j) = sh d (pairR q j) := by
  unfold pairR
  have e : hexV S (d + j) 2 = hexV q j 2 := by simp only [hexV, Nat.add_assoc, h]
  rw [e]
  simp only [Nat.add_assoc, h, apply_ite (sh d), sh_mk]
theorem escR_hi {q S : ByteArray} {d : Nat} (h : ∀ i, bAt S (d + i) = bAt q i) (hs : S.size = d + q.size) (k : Nat) : escR S (d + k) = sh d (escR q k) := by
  unfold escR
  rw [hs, Nat.add_assoc, h, Nat.add_assoc, pairR_hi h]
  simp only [show (d + q.size ≤ d + (k + 1)) = (q.size ≤ k + 1) by simp, apply_ite (sh d), sh_mk]
theorem partR_hi {q S : ByteArray} {d : Nat} (h : ∀ i, bAt S (d + i) = bAt q i) (hs : S.size = d + q.size) (k : Nat) : partR S (d + k) = sh d (partR q k) := by
  unfold partR
  rw [hs, h, escR_hi h hs]
  simp only [show (d + q.size ≤ d + k) = (q.size ≤ k) by simp, apply_ite (sh d), sh_mk, Nat.add_assoc]
theorem toR_hi {q S : ByteArray} {d : Nat} (h : ∀ i, bAt S (d + i) = bAt q i) (hs : S.size = d + q.size) (k a j : Nat) : toR S (d + k) a (d + j) = sh d (toR q k a j) := by
  unfold toR
  obtain ⟨⟨t, c, i⟩, hr⟩ : ∃ r, partR q j = r := ⟨_, rfl⟩
  have e : partR S (d + j) = (t, c, d + i) := by rw [partR_hi h hs, hr]; rfl
  rw [e, hr]
  dsimp only
  by_cases h0 : c ≠ 0
  · rw [if_pos h0, if_pos h0]; rfl
  · rw [if_neg h0, if_neg h0]
    cases onlyW t with
    | none => rfl
    | some b =>
      dsimp only
      by_cases hb : b < a
      · rw [if_pos hb, if_pos hb]; rfl
      · rw [if_neg hb, if_neg hb]; rfl
theorem itemR_hi {q S : ByteArray} {d : Nat} (h : ∀ i, bAt S (d + i) = bAt q i) (hs : S.size = d + q.size) (k : Nat) : itemR S (d + k) = sh d (itemR q k) := by
  unfold itemR
  obtain ⟨⟨t, c, i⟩, hr⟩ : ∃ r, partR q k = r := ⟨_, rfl⟩
  have e : partR S (d + k) = (t, c, d + i) := by rw [partR_hi h hs, hr]; rfl
  rw [e, hr]
  dsimp only
  rw [h]
  by_cases h0 : c ≠ 0 ∨ bAt q i ≠ 45
  · rw [if_pos h0, if_pos h0]; rfl
  · rw [if_neg h0, if_neg h0]
    cases onlyW t with
    | none => rfl
    | some b => dsimp only; rw [Nat.add_assoc, toR_hi h hs]
theorem clsR_hi {q S : ByteArray} {d : Nat} (h : ∀ i, bAt S (d + i) = bAt q i) (hs : S.size = d + q.size) : ∀ (n : Nat) (t : W4) (e : Int) (i : Nat), clsR S n t e (d + i) = sh d (clsR q n t e i) := by
  intro n
  induction n with
  | zero => intro t e i; rfl
  | succ n ih =>
    intro t e i
    unfold clsR
    obtain ⟨⟨t2, c, i2⟩, hr⟩ : ∃ r, itemR q i = r := ⟨_, rfl⟩
    have e2 : itemR S (d + i) = (t2, c, d + i2) := by rw [itemR_hi h hs, hr]; rfl
    rw [e2, hr]
    dsimp only
    rw [h, ih]
    by_cases h0 : e ≠ 0
    · rw [if_pos h0, if_pos h0]; rfl
    · rw [if_neg h0, if_neg h0]
      by_cases h93 : bAt q i = 93
      · rw [if_pos h93, if_pos h93]; rfl
      · rw [if_neg h93, if_neg h93]
/-- What comes of a class hangs on no number of steps, if there are enough. -/
theorem clsR_more {s : ByteArray} : ∀ (n m : Nat) (t : W4) (e : Int) (i : Nat), t.fit → (e = 0 ∨ e = 4 ∨ e = 5 ∨ e = 6) → i ≤ s.size → 1 ≤ n → 1 ≤ m → (e = 0 → s.size + 2 ≤ n + i) → (e = 0 → s.size + 2 ≤ m + i) → clsR s n t e i = clsR s m t e i := by
  intro n
  induction n with
  | zero => intro m t e i _ _ _ h; omega
  | succ n ih =>
    intro m t e i ht he hi _ hm hn hm2
    obtain ⟨m, rfl⟩ : ∃ x, m = x + 1 := ⟨m - 1, by omega⟩
    by_cases h0 : e ≠ 0
    · rw [clsR, if_pos h0, clsR, if_pos h0]
    · have h0' : e = 0 := by simpa using h0
      have hn' := hn h0'
      have hm' := hm2 h0'
      by_cases h93 : bAt s i = 93
      · rw [clsR, if_neg h0, if_pos h93, clsR, if_neg h0, if_pos h93]
      · have hit := itemR_set hi
        rw [clsR, if_neg h0, if_neg h93, clsR, if_neg h0, if_neg h93]
        exact ih _ _ _ _ (uni2_fit _ _) hit.err hit.le (by omega) (by omega) (fun e => by have := hit.on e; omega) (fun e => by have := hit.on e; omega)
theorem clsFrom_more {s : ByteArray} {i n : Nat} (hi : i ≤ s.size) (hn : s.size + 2 ≤ n) : clsR s n (itemR s i).1 (itemR s i).2.1 (itemR s i).2.2 = clsFrom s i := by
  have hit := itemR_set hi
  exact clsR_more _ _ _ _ _ hit.fit hit.err hit.le (by omega) (by omega) (fun _ => by omega) (fun _ => by omega)
theorem clsFrom_hi {q S : ByteArray} {d : Nat} (h : ∀ i, bAt S (d + i) = bAt q i) (hs : S.size = d + q.size) {i : Nat} (hi : i ≤ q.size) : clsFrom S (d + i) = sh d (clsFrom q i) := by
  have e := clsFrom_more (s := q) (i := i) (n := S.size + 2) hi (by omega)
  rw [← e, ← clsR_hi h hs]
  unfold clsFrom
  rw [itemR_hi h hs]
  rfl
theorem classR_hi {q S : ByteArray} {d : Nat} (h : ∀ i, bAt S (d + i) = bAt q i) (hs : S.size = d + q.size) {k : Nat} (hk : k < q.size) : classR S (d + k) = sh d (classR q k) := by
  unfold classR
  by_cases h94 : bAt q (k + 1) = 94
  · have hi := in_of_bAt h94 (by omega)
    obtain ⟨⟨t, c, i⟩, hr⟩ : ∃ r, clsFrom q (k + 2) = r := ⟨_, rfl⟩
    have e : clsFrom S (d + k + 2) = (t, c, d + i) := by rw [Nat.add_assoc, clsFrom_hi h hs (by omega), hr]; rfl
    rw [Nat.add_assoc d k 1, h, if_pos h94, if_pos h94, e, hr]
    dsimp only
    by_cases h0 : c ≠ 0
    · rw [if_pos h0, if_pos h0]; rfl
    · rw [if_neg h0, if_neg h0]; rfl
  · rw [Nat.add_assoc, h, if_neg h94, if_neg h94, clsFrom_hi h hs (by omega)]
theorem setR_hi {q S : ByteArray} {d : Nat} (h : ∀ i, bAt S (d + i) = bAt q i) (hs : S.size = d + q.size) {k : Nat} (hk : k < q.size) : setR S (d + k) = sh d (setR q k) := by
  unfold setR
  rw [h, classR_hi h hs hk, escR_hi h hs]
  simp only [apply_ite (sh d), sh_mk, Nat.add_assoc]
theorem tokenR_hi {q S : ByteArray} {d : Nat} (h : ∀ i, bAt S (d + i) = bAt q i) (hs : S.size = d + q.size) {k : Nat} (hk : k < q.size) : tokenR S (d + k) = sh d (tokenR q k) := by
  unfold tokenR
  obtain ⟨⟨t, c, i⟩, hr⟩ : ∃ r, setR q k = r := ⟨_, rfl⟩
  have e : setR S (d + k) = (t, c, d + i) := by rw [setR_hi h hs hk, hr]; rfl
  rw [h, e, hr, openR_hi h, signR_hi h, bracesR_hi h hs]
  simp only [apply_ite (sh d), sh_mk, Nat.add_assoc]
theorem scanK_hi {q S : ByteArray} {d : Nat} (h : ∀ i, bAt S (d + i) = bAt q i) (hs : S.size = d + q.size) : ∀ (n k : Nat), q.size - k ≤ n → k ≤ q.size → (scanK S (d + k)).2.1 = (scanK q k).2.1 ∧ (scanK S (d + k)).1.length = (scanK q k).1.length := by
  intro n
  induction n with
  | zero =>
    intro k hn hk
    rw [scanK_end (by omega), scanK_end (by omega)]
    exact ⟨rfl, rfl⟩
  | succ n ih =>
    intro k hn hk
    by_cases hkk : k < q.size
    · have ht := tokenR_tok hkk
      have e := tokenR_hi h hs hkk
      have e1 : (tokenR S (d + k)).2.1 = (tokenR q k).2.1 := by rw [e]; rfl
      have e2 : (tokenR S (d + k)).2.2 = d + (tokenR q k).2.2 := by rw [e]; rfl
      by_cases he : (tokenR q k).2.1 = 0
      · have hon := ht.on he
        obtain ⟨i1, i2⟩ := ih (tokenR q k).2.2 (by omega) ht.le
        rw [scanK_on (by omega) (e1.trans he), scanK_on hkk he, e2]
        by_cases h1 : (scanK q (tokenR q k).2.2).2.1 ≠ 0
        · rw [if_pos (by rw [i1]; exact h1), if_pos h1]; exact ⟨i1, rfl⟩
        · rw [if_neg (by rw [i1]; exact h1), if_neg h1]; exact ⟨rfl, by simp [i2]⟩
      · rw [scanK_bad (by omega) (by rw [e1]; exact he), scanK_bad hkk he]; exact ⟨e1, rfl⟩
    · rw [scanK_end (by omega), scanK_end (by omega)]
      exact ⟨rfl, rfl⟩
end
section
open Go Go.RowKit
/-- Of a byte that is no bar it is told alike. -/
theorem Two.is {p q S : ByteArray} (h : Two p q S) {b : Nat} (hb : b < 256) (hne : b ≠ 124) {i : Nat} (hi : i ≤ p.size) : (bAt S i = b) = (bAt p i = b) := by
  by_cases hlt : i < p.size
  · rw [h.lo i hlt]
  · obtain rfl : i = p.size := by omega
    rw [h.mid, bAt_end (Nat.le_refl _)]
    apply propext
    constructor <;> intro e <;> omega
theorem Two.dig {p q S : ByteArray} (h : Two p q S) {i : Nat} (hi : i ≤ p.size) : digB (bAt S i) = digB (bAt p i) := by
  by_cases hlt : i < p.size
  · rw [h.lo i hlt]
  · obtain rfl : i = p.size := by omega
    rw [h.mid, bAt_end (Nat.le_refl _)]
    rfl
theorem Two.hex {p q S : ByteArray} (h : Two p q S) {i : Nat} (hi : i ≤ p.size) : (hexR (bAt S i)).2 = (hexR (bAt p i)).2 := by
  by_cases hlt : i < p.size
  · rw [h.lo i hlt]
  · obtain rfl : i = p.size := by omega
    rw [h.mid, bAt_end (Nat.le_refl _)]
    decide
theorem dlen_lo {p q S : ByteArray} (h : Two p q S) : ∀ m n a, m ≤ n → a + m = p.size → dlen S a n = dlen p a m := by
  intro m
  induction m with
  | zero =>
    intro n a _ ha
    cases n with
    | zero => rfl
    | succ n =>
      obtain rfl : a = p.size := by omega
      show (if digB (bAt S p.size) = true then _ else 0) = 0
      rw [h.mid]; rfl
  | succ m ih =>
    intro n a hn ha
    cases n with
    | zero => omega
    | succ n =>
      unfold dlen
      rw [h.lo a (by omega), ih n (a + 1) (by omega) (by omega)]
theorem dall_lo {p q S : ByteArray} (h : Two p q S) {a : Nat} (ha : a ≤ p.size) : dall S a = dall p a := by
  have := h.size
  exact dlen_lo h (p.size - a) (S.size - a) a (by omega) (by omega)
theorem nval_lo {p q S : ByteArray} (h : Two p q S) {a : Nat} : ∀ i, a + i ≤ p.size → nval S a i = nval p a i := by
  intro i
  induction i with
  | zero => intro _; rfl
  | succ i ih => intro hi; unfold nval; rw [ih (by omega), h.lo (a + i) (by omega)]
theorem numR_lo {p q S : ByteArray} (h : Two p q S) {a : Nat} (ha : a ≤ p.size) : numR S a = numR p a := by
  unfold numR
  rw [dall_lo h ha, nval_lo h _ (dall_size ha)]
theorem mostR_lo {p q S : ByteArray} (h : Two p q S) (lo : Int) {a : Nat} (ha : a ≤ p.size) : mostR S lo a = mostR p lo a := by
  unfold mostR
  rw [numR_lo h ha]
  simp only [h.is (b := 125) (by omega) (by omega) ha]
theorem countR_lo {p q S : ByteArray} (h : Two p q S) (lo hi : Int) {a : Nat} (ha : a ≤ p.size) : countR S lo hi a = countR p lo hi a := by
  unfold countR
  by_cases h63 : bAt p a = 63
  · have hi2 := in_of_bAt h63 (by omega)
    rw [if_pos ((h.is (b := 63) (by omega) (by omega) ha).mpr h63), if_pos h63]
    simp only [h.is (b := 43) (by omega) (by omega) (i := a + 1) (by omega)]
  · rw [if_neg (fun e => h63 ((h.is (b := 63) (by omega) (by omega) ha).mp e)), if_neg h63]
    simp only [h.is (b := 43) (by omega) (by omega) ha]
theorem shutR_lo {p q S : ByteArray} (h : Two p q S) (lo hi : Int) {a : Nat} (ha : a ≤ p.size) : shutR S lo hi a = shutR p lo hi a := by
  unfold shutR
  by_cases h1 : bAt p a = 125
  · have hi2 := in_of_bAt h1 (by omega)
    rw [if_pos ((h.is (b := 125) (by omega) (by omega) ha).mpr h1), if_pos h1, countR_lo h _ _ (by omega)]
  · rw [if_neg (fun e => h1 ((h.is (b := 125) (by omega) (by omega) ha).mp e)), if_neg h1]
theorem bracesR_lo {p q S : ByteArray} (h : Two p q S) {k : Nat} (hk : k < p.size) : bracesR S k = bracesR p k := by
  unfold bracesR
  have hle := (numR_le (s := p) (a := k + 1) hk).2
  rw [numR_lo h (a := k + 1) hk]
  obtain ⟨⟨x, c, j⟩, hr⟩ : ∃ r, numR p (k + 1) = r := ⟨_, rfl⟩
  rw [hr] at hle ⊢
  dsimp only at hle ⊢
  rw [shutR_lo h x x hle]
  by_cases h0 : c ≠ 0
  · rw [if_pos h0, if_pos h0]
  · rw [if_neg h0, if_neg h0]
    by_cases h44 : bAt p j = 44
    · have hj := in_of_bAt h44 (by omega)
      have hm := (mostR_le (s := p) x (a := j + 1) hj).2
      rw [if_pos ((h.is (b := 44) (by omega) (by omega) hle).mpr h44), if_pos h44, mostR_lo h x (a := j + 1) hj, shutR_lo h x _ hm]
    · rw [if_neg (fun e => h44 ((h.is (b := 44) (by omega) (by omega) hle).mp e)), if_neg h44]
theorem openR_lo {p q S : ByteArray} (h : Two p q S) {k : Nat} (hk : k < p.size) : openR S k = openR p k := by
  unfold openR
  by_cases h1 : bAt p (k + 1) = 63
  · have hi2 := in_of_bAt h1 (by omega)
    rw [if_pos ((h.is (b := 63) (by omega) (by omega) (i := k + 1) hk).mpr h1), if_pos h1]
    simp only [h.is (b := 58) (by omega) (by omega) (i := k + 1 + 1) (by omega)]
  · rw [if_neg (fun e => h1 ((h.is (b := 63) (by omega) (by omega) (i := k + 1) hk).mp e)), if_neg h1]
theorem signR_lo {p q S : ByteArray} (h : Two p q S) {k : Nat} (hk : k < p.size) : signR S k = signR p k := by
  unfold signR
  rw [h.lo k hk, countR_lo h _ _ (a := k + 1) hk, countR_lo h _ _ (a := k + 1) hk, countR_lo h _ _ (a := k + 1) hk]
theorem pairR_lo {p q S : ByteArray} (h : Two p q S) {j : Nat} (hj : j ≤ p.size) : pairR S j = pairR p j := by
  unfold pairR
  rw [h.hex hj]
  by_cases h0 : (hexR (bAt p j)).2 = false
  · rw [if_pos h0, if_pos h0]
  · have hi0 := hex_in (by simpa using h0)
    rw [if_neg h0, if_neg h0, h.hex (i := j + 1) hi0]
    by_cases h1 : (hexR (bAt p (j + 1))).2 = false
    · rw [if_pos h1, if_pos h1]
    · have hi1 := hex_in (by simpa using h1)
      rw [if_neg h1, if_neg h1]
      have e : hexV S j 2 = hexV p j 2 := by
        show 16 * (16 * 0 + (hexR (bAt S (j + 0))).1) + (hexR (bAt S (j + 1))).1 = 16 * (16 * 0 + (hexR (bAt p (j + 0))).1) + (hexR (bAt p (j + 1))).1
        rw [h.lo (j + 0) hi0, h.lo (j + 1) hi1]
      rw [e]
theorem escR_lo {p q S : ByteArray} (h : Two p q S) {k : Nat} (hk : k + 1 < p.size) : escR S k = escR p k := by
  have := h.size
  unfold escR
  rw [if_neg (show ¬ S.size ≤ k + 1 by omega), if_neg (show ¬ p.size ≤ k + 1 by omega), h.lo (k + 1) hk, pairR_lo h (j := k + 1 + 1) hk]
theorem partR_lo {p q S : ByteArray} (h : Two p q S) {k : Nat} (he : (partR p k).2.1 = 0) : partR S k = partR p k := by
  have := h.size
  have hk : k < p.size := by
    by_cases hk : k < p.size
    · exact hk
    · unfold partR at he; rw [if_pos (by omega)] at he; exact absurd he (by simp)
  unfold partR at he ⊢
  rw [if_neg (show ¬ p.size ≤ k by omega)] at he
  rw [if_neg (show ¬ S.size ≤ k by omega), if_neg (show ¬ p.size ≤ k by omega), h.lo k hk]
  by_cases h92 : bAt p k = 92
  · rw [if_pos h92] at he
    rw [if_pos h92, if_pos h92]
    by_cases h1 : k + 1 < p.size
    · exact escR_lo h h1
    · unfold escR at he; rw [if_pos (by omega)] at he; exact absurd he (by simp)
  · rw [if_neg h92, if_neg h92]
theorem toR_lo {p q S : ByteArray} (h : Two p q S) {k a j : Nat} (he : (toR p k a j).2.1 = 0) : toR S k a j = toR p k a j := by
  have h0 : (partR p j).2.1 = 0 := by
    by_cases h0 : (partR p j).2.1 = 0
    · exact h0
    · unfold toR at he; rw [if_pos h0] at he; exact absurd he h0
  unfold toR
  rw [partR_lo h h0]
theorem itemR_lo {p q S : ByteArray} (h : Two p q S) {k : Nat} (hk : k ≤ p.size) (he : (itemR p k).2.1 = 0) : itemR S k = itemR p k := by
  have hs := partR_set hk
  have h0 : (partR p k).2.1 = 0 := by
    by_cases h0 : (partR p k).2.1 = 0
    · exact h0
    · unfold itemR at he; rw [if_pos (.inl h0)] at he; exact absurd he h0
  have hle := hs.le
  unfold itemR at he ⊢
  rw [partR_lo h h0]
  by_cases h45 : bAt p (partR p k).2.2 = 45
  · have hb : ¬ ((partR p k).2.1 ≠ 0 ∨ bAt p (partR p k).2.2 ≠ 45) := by rintro (x | x); exact x h0; exact x h45
    have hb2 : ¬ ((partR p k).2.1 ≠ 0 ∨ bAt S (partR p k).2.2 ≠ 45) := by rintro (x | x); exact x h0; exact x ((h.is (b := 45) (by omega) (by omega) hle).mpr h45)
    rw [if_neg hb] at he
    rw [if_neg hb, if_neg hb2]
    cases ho : onlyW (partR p k).1 with
    | none => rfl
    | some a => rw [ho] at he; exact toR_lo h he
  · rw [if_pos (.inr (fun e => h45 ((h.is (b := 45) (by omega) (by omega) hle).mp e))), if_pos (.inr h45)]
theorem clsR_lo {p q S : ByteArray} (h : Two p q S) : ∀ (n : Nat) (t : W4) (e : Int) (i : Nat), i ≤ p.size → (clsR p n t e i).2.1 = 0 → clsR S n t e i = clsR p n t e i := by
  intro n
  induction n with
  | zero => intro t e i _ _; rfl
  | succ n ih =>
    intro t e i hi he
    by_cases h0 : e ≠ 0
    · rw [clsR, if_pos h0] at he; exact absurd he h0
    · by_cases h93 : bAt p i = 93
      · rw [clsR, if_neg h0, if_pos ((h.is (b := 93) (by omega) (by omega) hi).mpr h93), clsR, if_neg h0, if_pos h93]
      · rw [clsR, if_neg h0, if_neg h93] at he
        rw [clsR, if_neg h0, if_neg (fun e => h93 ((h.is (b := 93) (by omega) (by omega) hi).mp e)), clsR, if_neg h0, if_neg h93]
        have hit := itemR_set hi
        have h1 : (itemR p i).2.1 = 0 := by
          by_cases h1 : (itemR p i).2.1 = 0
          · exact h1
          · cases n with
            | zero => exact absurd he (by simp [clsR])
            | succ n => rw [clsR, if_pos h1] at he; exact absurd he h1
        rw [itemR_lo h hi h1]
        exact ih _ _ _ hit.le he
theorem clsFrom_lo {p q S : ByteArray} (h : Two p q S) {i : Nat} (hi : i ≤ p.size) (he : (clsFrom p i).2.1 = 0) : clsFrom S i = clsFrom p i := by
  have := h.size
  have hit := itemR_set hi
  have h1 : (itemR p i).2.1 = 0 := by
    by_cases h1 : (itemR p i).2.1 = 0
    · exact h1
    · unfold clsFrom at he; rw [clsR, if_pos h1] at he; exact absurd he h1
  have e := clsFrom_more (s := p) (i := i) (n := S.size + 2) hi (by omega)
  rw [← e] at he ⊢
  unfold clsFrom
  rw [itemR_lo h hi h1]
  exact clsR_lo h _ _ _ _ hit.le he
theorem classR_lo {p q S : ByteArray} (h : Two p q S) {k : Nat} (hk : k < p.size) (he : (classR p k).2.1 = 0) : classR S k = classR p k := by
  unfold classR at he ⊢
  by_cases h94 : bAt p (k + 1) = 94
  · have hi := in_of_bAt h94 (by omega)
    rw [if_pos h94] at he
    have h0 : (clsFrom p (k + 2)).2.1 = 0 := by
      by_cases h0 : (clsFrom p (k + 2)).2.1 = 0
      · exact h0
      · rw [if_pos h0] at he; exact absurd he h0
    rw [if_pos ((h.is (b := 94) (by omega) (by omega) (i := k + 1) hk).mpr h94), if_pos h94, clsFrom_lo h (by omega) h0]
  · rw [if_neg h94] at he
    rw [if_neg (fun e => h94 ((h.is (b := 94) (by omega) (by omega) (i := k + 1) hk).mp e)), if_neg h94, clsFrom_lo h hk he]
theorem setR_lo {p q S : ByteArray} (h : Two p q S) {k : Nat} (hk : k < p.size) (he : (setR p k).2.1 = 0) : setR S k = setR p k := by
  unfold setR at he ⊢
  rw [h.lo k hk]
  by_cases h91 : bAt p k = 91
  · rw [if_pos h91] at he
    rw [if_pos h91, if_pos h91, classR_lo h hk he]
  · rw [if_neg h91] at he
    rw [if_neg h91, if_neg h91]
    by_cases h92 : bAt p k = 92
    · rw [if_pos h92] at he
      rw [if_pos h92, if_pos h92]
      by_cases h1 : k + 1 < p.size
      · exact escR_lo h h1
      · unfold escR at he; rw [if_pos (by omega)] at he; exact absurd he (by simp)
    · rw [if_neg h92, if_neg h92]
theorem tokenR_lo {p q S : ByteArray} (h : Two p q S) {k : Nat} (hk : k < p.size) (he : (tokenR p k).2.1 = 0) : tokenR S k = tokenR p k := by
  unfold tokenR at he ⊢
  rw [h.lo k hk, openR_lo h hk, signR_lo h hk, bracesR_lo h hk]
  by_cases c1 : bAt p k = 124
  · rw [if_pos c1, if_pos c1]
  · by_cases c2 : bAt p k = 40
    · rw [if_neg c1, if_neg c1, if_pos c2, if_pos c2]
    · by_cases c3 : bAt p k = 41
      · rw [if_neg c1, if_neg c1, if_neg c2, if_neg c2, if_pos c3, if_pos c3]
      · by_cases c4 : bAt p k = 42 ∨ bAt p k = 43 ∨ bAt p k = 63
        · rw [if_neg c1, if_neg c1, if_neg c2, if_neg c2, if_neg c3, if_neg c3, if_pos c4, if_pos c4]
        · by_cases c5 : bAt p k = 123
          · rw [if_neg c1, if_neg c1, if_neg c2, if_neg c2, if_neg c3, if_neg c3, if_neg c4, if_neg c4, if_pos c5, if_pos c5]
          · rw [if_neg c1, if_neg c2, if_neg c3, if_neg c4, if_neg c5] at he
            rw [setR_lo h hk he]
/-- Both patterns are taken: so is the one of both; it has as many tokens, and the bar. -/
theorem scanK_two {p q S : ByteArray} (h : Two p q S) (hq : (scanK q 0).2.1 = 0) : ∀ (n k : Nat), p.size - k ≤ n → k ≤ p.size → (scanK p k).2.1 = 0 → (scanK S k).2.1 = 0 ∧ (scanK S k).1.length = (scanK p k).1.length + 1 + (scanK q 0).1.length := by
  have hsz := h.size
  have hend : (scanK S p.size).2.1 = 0 ∧ (scanK S p.size).1.length = 1 + (scanK q 0).1.length := by
    have et : tokenR S p.size = (⟨4, noW, 0, 0, false⟩, 0, p.size + 1) := by unfold tokenR; rw [if_pos h.mid]
    obtain ⟨i1, i2⟩ := scanK_hi h.hi hsz q.size 0 (by omega) (by omega)
    rw [Nat.add_zero] at i1 i2
    rw [scanK_on (by omega) (by rw [et]), et]
    dsimp only
    rw [if_neg (by rw [i1]; simpa using hq)]
    exact ⟨rfl, by simp [i2]; omega⟩
  intro n
  induction n with
  | zero =>
    intro k hn hk he
    obtain rfl : k = p.size := by omega
    rw [scanK_end (s := p) (Nat.le_refl _)]
    exact ⟨hend.1, by rw [hend.2]; simp⟩
  | succ n ih =>
    intro k hn hk he
    by_cases hkk : k < p.size
    · by_cases h0 : (tokenR p k).2.1 = 0
      · have et := tokenR_lo h hkk h0
        have ht := tokenR_tok hkk
        have hon := ht.on h0
        rw [scanK_on hkk h0] at he ⊢
        have h1 : (scanK p (tokenR p k).2.2).2.1 = 0 := by
          by_cases h1 : (scanK p (tokenR p k).2.2).2.1 = 0
          · exact h1
          · rw [if_pos h1] at he; exact absurd he h1
        obtain ⟨i1, i2⟩ := ih (tokenR p k).2.2 (by omega) ht.le h1
        rw [scanK_on (s := S) (by omega) (by rw [et]; exact h0), et, if_neg (by rw [i1]; simp), if_neg (by rw [h1]; simp)]
        exact ⟨rfl, by simp [i2]; omega⟩
      · rw [scanK_bad hkk h0] at he; exact absurd he h0
    · obtain rfl : k = p.size := by omega
      rw [scanK_end (s := p) (Nat.le_refl _)]
      exact ⟨hend.1, by rw [hend.2]; simp⟩
/-- Tokens stand one behind the other, from a place to another one. -/
def Chain : List (TokM × Nat × Nat) → Nat → Nat → Prop
  | [], a, b => a = b
  | x :: l, a, b => x.2.1 = a ∧ a < x.2.2 ∧ Chain l x.2.2 b
theorem scanK_chain {s : ByteArray} : ∀ (n k : Nat), s.size - k ≤ n → k ≤ s.size → (scanK s k).2.1 = 0 → Chain (scanK s k).1 k s.size := by
  intro n
  induction n with
  | zero =>
    intro k hn hk _
    rw [scanK_end (by omega)]
    show k = s.size; omega
  | succ n ih =>
    intro k hn hk he
    by_cases hkk : k < s.size
    · by_cases h0 : (tokenR s k).2.1 = 0
      · have ht := tokenR_tok hkk
        have hon := ht.on h0
        rw [scanK_on hkk h0] at he ⊢
        have h1 : (scanK s (tokenR s k).2.2).2.1 = 0 := by
          by_cases h1 : (scanK s (tokenR s k).2.2).2.1 = 0
          · exact h1
          · rw [if_pos h1] at he; exact absurd he h1
        rw [if_neg (by rw [h1]; simp)]
        exact ⟨rfl, hon, ih _ (by omega) ht.le h1⟩
      · rw [scanK_bad hkk h0] at he; exact absurd he h0
    · rw [scanK_end (by omega)]
      show k = s.size; omega
theorem scanK_none {s : ByteArray} (h : (scanAll s).2.1 ≠ 0) : (scanAll s).1 = [] := scanK_sort s 0 h
end
end Go.Proofs.YtnblegcccbbffaaDoor
