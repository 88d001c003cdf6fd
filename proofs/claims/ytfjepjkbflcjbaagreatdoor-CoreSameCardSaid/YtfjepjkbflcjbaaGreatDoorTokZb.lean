/- Two patterns, one behind the other: what is told of the first one's places, and of the second one's. Two patterns, one behind the other: what is told of the first one's places; their tokens. -/
import Derived.Test.YtfjepjkbflcjbaaGreatDoorTb
namespace Go.Proofs.YtfjepjkbflcjbaaGreatDoor
section
open Go Go.RowKit
/-- What comes of a place, told of a text that begins d bytes ahead. -/
def sh {α : Type} (d : Nat) (r : α × Int × Nat) : α × Int × Nat := (r.1, r.2.1, d + r.2.2)
theorem sh_mk {α : Type} (d : Nat) (t : α) (e : Int) (j : Nat) : sh d (t, e, j) = (t, e, d + j) := rfl
theorem dlen_hi {q S : ByteArray} {d : Nat} (h : ∀ i, bAt S (d + i) = bAt q i) : ∀ n a, dlen S (d + a) n = dlen q a n := by
  intro n
  induction n with
  | zero => intro a; rfl
  | succ n ih => intro a; unfold dlen; rw [h, Nat.add_assoc, ih]
theorem nval_hi {q S : ByteArray} {d : Nat} (h : ∀ i, bAt S (d + i) = bAt q i) (a : Nat) : ∀ i, nval S (d + a) i = nval q a i := by
  intro i
  induction i with
  | zero => rfl
  | succ i ih => unfold nval; rw [ih, Nat.add_assoc, h]
theorem dall_hi {q S : ByteArray} {d : Nat} (h : ∀ i, bAt S (d + i) = bAt q i) (hs : S.size = d + q.size) (a : Nat) : dall S (d + a) = dall q a := by
  unfold dall; rw [hs, show d + q.size - (d + a) = q.size - a by omega, dlen_hi h]
theorem numR_hi {q S : ByteArray} {d : Nat} (h : ∀ i, bAt S (d + i) = bAt q i) (hs : S.size = d + q.size) (a : Nat) : numR S (d + a) = sh d (numR q a) := by
  unfold numR
  rw [dall_hi h hs, nval_hi h]
  simp only [apply_ite (sh d), sh_mk, Nat.add_assoc]
theorem mostR_hi {q S : ByteArray} {d : Nat} (h : ∀ i, bAt S (d + i) = bAt q i) (hs : S.size = d + q.size) (lo : Int) (a : Nat) : mostR S lo (d + a) = sh d (mostR q lo a) := by
  unfold mostR
  rw [numR_hi h hs, h]
  simp only [apply_ite (sh d), sh_mk]
  rfl
theorem countR_hi {q S : ByteArray} {d : Nat} (h : ∀ i, bAt S (d + i) = bAt q i) (lo hi : Int) (a : Nat) : countR S lo hi (d + a) = sh d (countR q lo hi a) := by
  unfold countR
  simp only [Nat.add_assoc, h, apply_ite (sh d), sh_mk]
theorem shutR_hi {q S : ByteArray} {d : Nat} (h : ∀ i, bAt S (d + i) = bAt q i) (lo hi : Int) (a : Nat) : shutR S lo hi (d + a) = sh d (shutR q lo hi a) := by
  unfold shutR
  rw [h, Nat.add_assoc, countR_hi h]
  simp only [apply_ite (sh d), sh_mk]
theorem bracesR_hi {q S : ByteArray} {d : Nat} (h : ∀ i, bAt S (d + i) = bAt q i) (hs : S.size = d + q.size) (k : Nat) : bracesR S (d + k) = sh d (bracesR q k) := by
  unfold bracesR
  obtain ⟨⟨x, c, j⟩, hr⟩ : ∃ r, numR q (k + 1) = r := ⟨_, rfl⟩
  have e : numR S (d + k + 1) = (x, c, d + j) := by rw [Nat.add_assoc, numR_hi h hs, hr]; rfl
  obtain ⟨⟨y, c2, j2⟩, hm⟩ : ∃ r, mostR q x (j + 1) = r := ⟨_, rfl⟩
  have e2 : mostR S x (d + j + 1) = (y, c2, d + j2) := by rw [Nat.add_assoc, mostR_hi h hs, hm]; rfl
  rw [e, hr]
  dsimp only
  rw [e2, hm, h, shutR_hi h, shutR_hi h]
  dsimp only
  by_cases h0 : c ≠ 0
  · rw [if_pos h0, if_pos h0]; rfl
  · rw [if_neg h0, if_neg h0]
    by_cases h44 : bAt q j = 44
    · rw [if_pos h44, if_pos h44]
      by_cases h1 : c2 ≠ 0
      · rw [if_pos h1, if_pos h1]; rfl
      · rw [if_neg h1, if_neg h1]
    · rw [if_neg h44, if_neg h44]
theorem openR_hi {q S : ByteArray} {d : Nat} (h : ∀ i, bAt S (d + i) = bAt q i) (k : Nat) : openR S (d + k) = sh d (openR q k) := by
  unfold openR
  simp only [Nat.add_assoc, h, apply_ite (sh d), sh_mk]
theorem signR_hi {q S : ByteArray} {d : Nat} (h : ∀ i, bAt S (d + i) = bAt q i) (k : Nat) : signR S (d + k) = sh d (signR q k) := by
  unfold signR
  rw [h, Nat.add_assoc, countR_hi h, countR_hi h, countR_hi h]
  simp only [apply_ite (sh d)]
theorem pairR_hi {q S : ByteArray} {d : Nat} (h : ∀ i, bAt S (d + i) = bAt q i) (j : Nat) : pairR S (d + j) = sh d (pairR q j) := by
  unfold pairR
  have e : hexV S (d + j) 2 = hexV q j 2 := by simp only [hexV, Nat.add_assoc, h]
  rw [e]
  simp only [Nat.add_assoc, h, apply_ite (sh d), sh_mk]
theorem escR_hi {q S : ByteArray} {d : Nat} (h : ∀ i, bAt S (d + i) = bAt q i) (hs : S.size = d + q.size) (k : Nat) : escR S (d + k) = sh d (escR q k) := by
  unfold escR
  rw [hs, Nat.add_assoc, h, Nat.add_assoc, pairR_hi h]
  simp only [show (d + q.size ≤ d + (k + 1)) = (q.size ≤ k + 1) by simp, apply_ite (sh d), sh_mk]
theorem partR_hi {q S : ByteArray} {d : Nat} (h : ∀ i, bAt S (d + i) = bAt q i) (hs : S.size = d + q.size) (k : Nat) : partR S (d + k) = sh d (partR q k) := by
  unfold partR
  rw [hs, h, escR_hi h hs]
  simp only [show (d + q.size ≤ d + k) = (q.size ≤ k) by simp, apply_ite (sh d), sh_mk, Nat.add_assoc]
theorem toR_hi {q S : ByteArray} {d : Nat} (h : ∀ i, bAt S (d + i) = bAt q i) (hs : S.size = d + q.size) (k a j : Nat) : toR S (d + k) a (d + j) = sh d (toR q k a j) := by
  unfold toR
  obtain ⟨⟨t, c, i⟩, hr⟩ : ∃ r, partR q j = r := ⟨_, rfl⟩
  have e : partR S (d + j) = (t, c, d + i) := by rw [partR_hi h hs, hr]; rfl
  rw [e, hr]
  dsimp only
  by_cases h0 : c ≠ 0
  · rw [if_pos h0, if_pos h0]; rfl
  · rw [if_neg h0, if_neg h0]
    cases onlyW t with
    | none => rfl
    | some b =>
      dsimp only
      by_cases hb : b < a
      · rw [if_pos hb, if_pos hb]; rfl
      · rw [if_neg hb, if_neg hb]; rfl
theorem itemR_hi {q S : ByteArray} {d : Nat} (h : ∀ i, bAt S (d + i) = bAt q i) (hs : S.size = d + q.size) (k : Nat) : itemR S (d + k) = sh d (itemR q k) := by
  unfold itemR
  obtain ⟨⟨t, c, i⟩, hr⟩ : ∃ r, partR q k = r := ⟨_, rfl⟩
  have e : partR S (d + k) = (t, c, d + i) := by rw [partR_hi h hs, hr]; rfl
  rw [e, hr]
  dsimp only
  rw [h]
  by_cases h0 : c ≠ 0 ∨ bAt q i ≠ 45
  · rw [if_pos h0, if_pos h0]; rfl
  · rw [if_neg h0, if_neg h0]
    cases onlyW t with
    | none => rfl
    | some b => dsimp only; rw [Nat.add_assoc, toR_hi h hs]
theorem clsR_hi {q S : ByteArray} {d : Nat} (h : ∀ i, bAt S (d + i) = bAt q i) (hs : S.size = d + q.size) : ∀ (n : Nat) (t : W4) (e : Int) (i : Nat), clsR S n t e (d + i) = sh d (clsR q n t e i) := by
  intro n
  induction n with
  | zero => intro t e i; rfl
  | succ n ih =>
    intro t e i
    unfold clsR
    obtain ⟨⟨t2, c, i2⟩, hr⟩ : ∃ r, itemR q i = r := ⟨_, rfl⟩
    have e2 : itemR S (d + i) = (t2, c, d + i2) := by rw [itemR_hi h hs, hr]; rfl
    rw [e2, hr]
    dsimp only
    rw [h, ih]
    by_cases h0 : e ≠ 0
    · rw [if_pos h0, if_pos h0]; rfl
    · rw [if_neg h0, if_neg h0]
      by_cases h93 : bAt q i = 93
      · rw [if_pos h93, if_pos h93]; rfl
      · rw [if_neg h93, if_neg h93]
/-- What comes of a class hangs on no number of steps, if there are enough. -/
theorem clsR_more {s : ByteArray} : ∀ (n m : Nat) (t : W4) (e : Int) (i : Nat), t.fit → (e = 0 ∨ e = 4 ∨ e = 5 ∨ e = 6) → i ≤ s.size → 1 ≤ n → 1 ≤ m → (e = 0 → s.size + 2 ≤ n + i) → (e = 0 → s.size + 2 ≤ m + i) → clsR s n t e i = clsR s m t e i := by
  intro n
  induction n with
  | zero => intro m t e i _ _ _ h; omega
  | succ n ih =>
    intro m t e i ht he hi _ hm hn hm2
    obtain ⟨m, rfl⟩ : ∃ x, m = x + 1 := ⟨m - 1, by omega⟩
    by_cases h0 : e ≠ 0
    · rw [clsR, if_pos h0, clsR, if_pos h0]
    · have h0' : e = 0 := by simpa using h0
      have hn' := hn h0'
      have hm' := hm2 h0'
      by_cases h93 : bAt s i = 93
      · rw [clsR, if_neg h0, if_pos h93, clsR, if_neg h0, if_pos h93]
      · have hit := itemR_set hi
        rw [clsR, if_neg h0, if_neg h93, clsR, if_neg h0, if_neg h93]
        exact ih _ _ _ _ (uni2_fit _ _) hit.err hit.le (by omega) (by omega) (fun e => by have := hit.on e; omega) (fun e => by have := hit.on e; omega)
theorem clsFrom_more {s : ByteArray} {i n : Nat} (hi : i ≤ s.size) (hn : s.size + 2 ≤ n) : clsR s n (itemR s i).1 (itemR s i).2.1 (itemR s i).2.2 = clsFrom s i := by
  have hit := itemR_set hi
  exact clsR_more _ _ _ _ _ hit.fit hit.err hit.le (by omega) (by omega) (fun _ => by omega) (fun _ => by omega)
theorem clsFrom_hi {q S : ByteArray} {d : Nat} (h : ∀ i, bAt S (d + i) = bAt q i) (hs : S.size = d + q.size) {i : Nat} (hi : i ≤ q.size) : clsFrom S (d + i) = sh d (clsFrom q i) := by
  have e := clsFrom_more (s := q) (i := i) (n := S.size + 2) hi (by omega)
  rw [← e, ← clsR_hi h hs]
  unfold clsFrom
  rw [itemR_hi h hs]
  rfl
theorem classR_hi {q S : ByteArray} {d : Nat} (h : ∀ i, bAt S (d + i) = bAt q i) (hs : S.size = d + q.size) {k : Nat} (hk : k < q.size) : classR S (d + k) = sh d (classR q k) := by
  unfold classR
  by_cases h94 : bAt q (k + 1) = 94
  · have hi := in_of_bAt h94 (by omega)
    obtain ⟨⟨t, c, i⟩, hr⟩ : ∃ r, clsFrom q (k + 2) = r := ⟨_, rfl⟩
    have e : clsFrom S (d + k + 2) = (t, c, d + i) := by rw [Nat.add_assoc, clsFrom_hi h hs (by omega), hr]; rfl
    rw [Nat.add_assoc d k 1, h, if_pos h94, if_pos h94, e, hr]
    dsimp only
    by_cases h0 : c ≠ 0
    · rw [if_pos h0, if_pos h0]; rfl
    · rw [if_neg h0, if_neg h0]; rfl
  · rw [Nat.add_assoc, h, if_neg h94, if_neg h94, clsFrom_hi h hs (by omega)]
theorem setR_hi {q S : ByteArray} {d : Nat} (h : ∀ i, bAt S (d + i) = bAt q i) (hs : S.size = d + q.size) {k : Nat} (hk : k < q.size) : setR S (d + k) = sh d (setR q k) := by
  unfold setR
  rw [h, classR_hi h hs hk, escR_hi h hs]
  simp only [apply_ite (sh d), sh_mk, Nat.add_assoc]
theorem tokenR_hi {q S : ByteArray} {d : Nat} (h : ∀ i, bAt S (d + i) = bAt q i) (hs : S.size = d + q.size) {k : Nat} (hk : k < q.size) : tokenR S (d + k) = sh d (tokenR q k) := by
  unfold tokenR
  obtain ⟨⟨t, c, i⟩, hr⟩ : ∃ r, setR q k = r := ⟨_, rfl⟩
  have e : setR S (d + k) = (t, c, d + i) := by rw [setR_hi h hs hk, hr]; rfl
  rw [h, e, hr, openR_hi h, signR_hi h, bracesR_hi h hs]
  simp only [apply_ite (sh d), sh_mk, Nat.add_assoc]
end
section
open Go Go.RowKit
end
end Go.Proofs.YtfjepjkbflcjbaaGreatDoor
