/- What comes of items, classes, sets, tokens and patterns, told plainly. Tokens: places lie in the text; the errors. A pattern's tokens, one behind the other. -/
import Derived.Test.YtenibhmjcafbiaaGreatDoorTokN
import Derived.Test.YtenibhmjcafbiaaGreatDoorTzC
namespace Go.Proofs.YtenibhmjcafbiaaGreatDoor
section
open Go Go.RowKit
/-- A set's bytes. -/
def ones (t : W4) : List Nat := (List.range 256).filter t.mem
/-- A set's byte, if it has just one. -/
def onlyW (t : W4) : Option Nat := match ones t with
  | [n] => some n
  | _ => none
theorem ones_len (t : W4) : (lst (memb t.a t.b t.c t.d) 256).length = (ones t).length := by
  unfold lst ones; rw [List.length_map]; rfl
theorem onlyW_some {t : W4} {n : Nat} (h : onlyW t = some n) : ones t = [n] := by
  unfold onlyW at h
  split at h
  · next m hm => rw [hm]; injection h with h; rw [h]
  · cases h
theorem onlyW_iff {t : W4} {n : Nat} : onlyW t = some n ↔ ones t = [n] := by
  constructor
  · exact onlyW_some
  · intro h; unfold onlyW; rw [h]
theorem only_mem {t : W4} {n : Nat} (h : onlyW t = some n) : n < 256 ∧ t.mem n = true ∧ ∀ m, m < 256 → t.mem m = true → m = n := by
  have h1 := onlyW_some h
  have hn : n ∈ ones t := by rw [h1]; simp
  unfold ones at hn
  rw [List.mem_filter, List.mem_range] at hn
  refine ⟨hn.1, hn.2, fun m hm hmem => ?_⟩
  have : m ∈ ones t := by unfold ones; rw [List.mem_filter, List.mem_range]; exact ⟨hm, hmem⟩
  rw [h1] at this
  simpa using this
theorem only_none {t : W4} (h : onlyW t = none) : (ones t).length ≠ 1 := by
  intro h1
  obtain ⟨n, hn⟩ := List.length_eq_one_iff.1 h1
  rw [onlyW_iff.2 hn] at h
  cases h
/-- The set of a range is none just if its end is the lower one. -/
theorem rngW_none {a b : Nat} (hb : b < 256) (h : b < a) : rngW a b = noW := by
  have hf : (rngW a b).fit := ⟨an_fit _ _, an_fit _ _, an_fit _ _, an_fit _ _⟩
  refine W4.ext' hf noW_fit fun n hn => ?_
  rw [noW_mem]
  show memb (rgw a b 0) (rgw a b 1) (rgw a b 2) (rgw a b 3) n = false
  rw [memb_rgw a b n hb hn]
  exact decide_eq_false (by omega)
theorem rngW_some {a b : Nat} (hb : b < 256) (h : a ≤ b) : rngW a b ≠ noW := by
  intro e
  have h1 : (rngW a b).mem a = true := by
    show memb (rgw a b 0) (rgw a b 1) (rgw a b 2) (rgw a b 3) a = true
    rw [memb_rgw a b a hb (by omega)]
    exact decide_eq_true (by omega)
  rw [e, noW_mem] at h1
  cases h1
/-- What comes of the end of a range. -/
def toR (s : ByteArray) (k a j : Nat) : W4 × Int × Nat :=
  if (partR s j).2.1 ≠ 0 then (noW, (partR s j).2.1, (partR s j).2.2) else match onlyW (partR s j).1 with
  | none => (noW, 4, j)
  | some b => if b < a then (noW, 5, k) else (rngW a b, 0, (partR s j).2.2)
/-- What comes of an item of a class. -/
def itemR (s : ByteArray) (k : Nat) : W4 × Int × Nat :=
  if (partR s k).2.1 ≠ 0 ∨ bAt s (partR s k).2.2 ≠ 45 then partR s k else match onlyW (partR s k).1 with
  | none => (noW, 4, (partR s k).2.2)
  | some a => toR s k a ((partR s k).2.2 + 1)
/-- What comes of the items of a class, n more at most, behind those that are t together. -/
def clsR (s : ByteArray) : Nat → W4 → Int → Nat → W4 × Int × Nat
  | 0, _, _, i => (noW, 4, i)
  | n + 1, t, e, i => if e ≠ 0 then (noW, e, i) else if bAt s i = 93 then (t, 0, i + 1) else clsR s n (uni2 t (itemR s i).1) (itemR s i).2.1 (itemR s i).2.2
/-- .. from the first one on. -/
def clsFrom (s : ByteArray) (i : Nat) : W4 × Int × Nat := clsR s (s.size + 2) (itemR s i).1 (itemR s i).2.1 (itemR s i).2.2
/-- What comes of a class. -/
def classR (s : ByteArray) (k : Nat) : W4 × Int × Nat :=
  if bAt s (k + 1) = 94 then (if (clsFrom s (k + 2)).2.1 ≠ 0 then (noW, (clsFrom s (k + 2)).2.1, (clsFrom s (k + 2)).2.2) else (notW (clsFrom s (k + 2)).1, 0, (clsFrom s (k + 2)).2.2))
  else clsFrom s (k + 1)
/-- What comes of a set. -/
def setR (s : ByteArray) (k : Nat) : W4 × Int × Nat :=
  if bAt s k = 91 then classR s k else if bAt s k = 92 then escR s k else if bAt s k = 46 then (notW (oneW 10), 0, k + 1)
  else if bAt s k = 94 ∨ bAt s k = 36 then (noW, 6, k) else if bAt s k = 93 ∨ bAt s k = 125 then (noW, 4, k) else (oneW (bAt s k), 0, k + 1)
/-- What comes of a token. -/
def tokenR (s : ByteArray) (k : Nat) : TokM × Int × Nat :=
  if bAt s k = 124 then (⟨4, noW, 0, 0, false⟩, 0, k + 1) else if bAt s k = 40 then openR s k else if bAt s k = 41 then (⟨3, noW, 0, 0, false⟩, 0, k + 1)
  else if bAt s k = 42 ∨ bAt s k = 43 ∨ bAt s k = 63 then signR s k else if bAt s k = 123 then bracesR s k
  else (⟨0, (setR s k).1, 0, 0, false⟩, (setR s k).2.1, (setR s k).2.2)
/-- What comes of a pattern from a place on: tokens with their places; the error, and the fault's place. -/
def scanR (s : ByteArray) : Nat → Nat → List (TokM × Nat × Nat) × Int × Nat
  | 0, k => ([], 4, k)
  | n + 1, k => if s.size ≤ k then ([], 0, k) else if (tokenR s k).2.1 ≠ 0 then ([], (tokenR s k).2.1, (tokenR s k).2.2)
    else if (scanR s n (tokenR s k).2.2).2.1 ≠ 0 then ([], (scanR s n (tokenR s k).2.2).2.1, (scanR s n (tokenR s k).2.2).2.2)
    else (((tokenR s k).1, k, (tokenR s k).2.2) :: (scanR s n (tokenR s k).2.2).1, 0, (scanR s n (tokenR s k).2.2).2.2)
def scanAll (s : ByteArray) : List (TokM × Nat × Nat) × Int × Nat := scanR s (s.size + 1) 0
/-! Sets fit; places lie in the text; the errors. -/
theorem oneW_fit (b : Nat) : (oneW b).fit := ⟨ofw_fit _ _ _, ofw_fit _ _ _, ofw_fit _ _ _, ofw_fit _ _ _⟩
theorem notW_fit (t : W4) : (notW t).fit := ⟨nt_fit _, nt_fit _, nt_fit _, nt_fit _⟩
theorem rngW_fit (a b : Nat) : (rngW a b).fit := ⟨an_fit _ _, an_fit _ _, an_fit _ _, an_fit _ _⟩
theorem uni2_fit (s t : W4) : (uni2 s t).fit := ⟨orr_fit _ _, orr_fit _ _, orr_fit _ _, orr_fit _ _⟩
theorem uni3_fit (s t u : W4) : (uni3 s t u).fit := ⟨orr_fit _ _, orr_fit _ _, orr_fit _ _, orr_fit _ _⟩
/-- An error of a part: none, with a set that fits, and a place behind it; else no set. -/
structure SetOK (s : ByteArray) (k : Nat) (r : W4 × Int × Nat) : Prop where
  fit : r.1.fit
  err : r.2.1 = 0 ∨ r.2.1 = 4 ∨ r.2.1 = 5 ∨ r.2.1 = 6
  le : r.2.2 ≤ s.size
  on : r.2.1 = 0 → k < r.2.2
  no : r.2.1 ≠ 0 → r.1 = noW
theorem SetOK.bad {s : ByteArray} {k j : Nat} {e : Int} (he : e = 4 ∨ e = 5 ∨ e = 6) (hj : j ≤ s.size) : SetOK s k (noW, e, j) :=
  ⟨noW_fit, .inr he, hj, fun h => by have h' : e = 0 := h; rcases he with rfl | rfl | rfl <;> exact absurd h' (by decide), fun _ => rfl⟩
theorem SetOK.good {s : ByteArray} {k j : Nat} {t : W4} (ht : t.fit) (hj : j ≤ s.size) (hk : k < j) : SetOK s k (t, 0, j) := ⟨ht, .inl rfl, hj, fun _ => hk, fun h => absurd rfl h⟩
theorem SetOK.up {s : ByteArray} {k j : Nat} {r : W4 × Int × Nat} (h : SetOK s j r) (hk : k ≤ j) : SetOK s k r := ⟨h.fit, h.err, h.le, fun e => Nat.lt_of_le_of_lt hk (h.on e), h.no⟩
theorem hex_in {s : ByteArray} {j : Nat} (h : (hexR (bAt s j)).2 = true) : j < s.size := by
  by_cases hj : j < s.size
  · exact hj
  · rw [bAt_end (by omega)] at h; exact absurd h (by decide)
theorem pairR_set {s : ByteArray} {k j : Nat} (hk : k < j) (hj : j ≤ s.size) : SetOK s k (pairR s j) := by
  unfold pairR
  split
  · exact .bad (.inl rfl) hj
  · next h0 =>
    have h0' := hex_in (by simpa using h0)
    split
    · exact .bad (.inl rfl) h0'
    · next h1 =>
      have h1' := hex_in (by simpa using h1)
      exact .good (oneW_fit _) h1' (by omega)
theorem digW_fit : digW.fit := ⟨an_fit _ _, an_fit _ _, an_fit _ _, an_fit _ _⟩
theorem meanR_fit (b : Nat) : (meanR b).1.fit := by
  unfold meanR
  split
  · exact oneW_fit _
  · skip
    split
    · exact oneW_fit _
    · skip
      split
      · exact oneW_fit _
      · skip
        split
        · exact oneW_fit _
        · skip
          split
          · exact oneW_fit _
          · skip
            split
            · exact oneW_fit _
            · skip
              split
              · exact digW_fit
              · skip
                split
                · exact uni3_fit _ _ _
                · skip
                  split
                  · exact uni2_fit _ _
                  · skip
                    split
                    · exact notW_fit _
                    · skip
                      split
                      · exact notW_fit _
                      · skip
                        split
                        · exact notW_fit _
                        · skip
                          exact noW_fit
theorem escR_set {s : ByteArray} {k : Nat} (hk : k < s.size) : SetOK s k (escR s k) := by
  unfold escR
  split
  · exact .bad (.inl rfl) hk
  · split
    · exact .bad (.inr (.inr rfl)) (by omega)
    · split
      · exact pairR_set (by omega) (by omega)
      · split
        · exact .good (meanR_fit _) (by omega) (by omega)
        · exact .bad (.inl rfl) hk
theorem partR_set {s : ByteArray} {k : Nat} (hk : k ≤ s.size) : SetOK s k (partR s k) := by
  unfold partR
  split
  · exact .bad (.inl rfl) hk
  · split
    · exact escR_set (by omega)
    · split
      · exact .bad (.inl rfl) hk
      · exact .good (oneW_fit _) (by omega) (by omega)
theorem toR_set {s : ByteArray} {k a j : Nat} (hk : k < j) (hj : j ≤ s.size) : SetOK s k (toR s k a j) := by
  have hp := partR_set hj
  unfold toR
  split
  · next h => exact .bad (hp.err.resolve_left h) hp.le
  · next h =>
    have he : (partR s j).2.1 = 0 := by simpa using h
    have := hp.on he
    split
    · exact .bad (.inl rfl) hj
    · split
      · exact .bad (.inr (.inl rfl)) (by omega)
      · exact .good (rngW_fit _ _) hp.le (by omega)
theorem itemR_set {s : ByteArray} {k : Nat} (hk : k ≤ s.size) : SetOK s k (itemR s k) := by
  have hp := partR_set hk
  unfold itemR
  split
  · exact hp
  · next h =>
    have he : (partR s k).2.1 = 0 := by
      by_cases h0 : (partR s k).2.1 = 0
      · exact h0
      · exact absurd (.inl h0) h
    have hb : bAt s (partR s k).2.2 = 45 := by
      by_cases h0 : bAt s (partR s k).2.2 = 45
      · exact h0
      · exact absurd (.inr h0) h
    have hi := in_of_bAt hb (by omega)
    have := hp.on he
    split
    · exact .bad (.inl rfl) hp.le
    · exact toR_set (by omega) hi
theorem clsR_set {s : ByteArray} : ∀ (n : Nat) (t : W4) (e : Int) (k i : Nat), t.fit → (e = 0 ∨ e = 4 ∨ e = 5 ∨ e = 6) → i ≤ s.size → k < i + 1 → SetOK s k (clsR s n t e i) := by
  intro n
  induction n with
  | zero => intro t e k i _ _ hi _; exact .bad (.inl rfl) hi
  | succ n ih =>
    intro t e k i ht he hi hk
    unfold clsR
    split
    · next h => exact .bad (he.resolve_left h) hi
    · split
      · next h93 => exact .good ht (in_of_bAt h93 (by omega)) hk
      · have hit := itemR_set hi
        rcases hit.err with h | h
        · exact ih _ _ _ _ (uni2_fit _ _) hit.err hit.le (by have := hit.on h; omega)
        · have : clsR s n (uni2 t (itemR s i).1) (itemR s i).2.1 (itemR s i).2.2 = (noW, (itemR s i).2.1, (itemR s i).2.2) ∨ clsR s n (uni2 t (itemR s i).1) (itemR s i).2.1 (itemR s i).2.2 = (noW, 4, (itemR s i).2.2) := by
            cases n with
            | zero => exact .inr rfl
            | succ n => refine .inl ?_; rw [clsR, if_pos (by rcases h with h | h | h <;> rw [h] <;> decide)]
          rcases this with e | e <;> rw [e]
          · exact .bad h hit.le
          · exact .bad (.inl rfl) hit.le
theorem clsFrom_set {s : ByteArray} {k : Nat} (hk : k ≤ s.size) : SetOK s k (clsFrom s k) := by
  have hit := itemR_set hk
  rcases hit.err with h | h
  · exact clsR_set _ _ _ _ _ hit.fit hit.err hit.le (by have := hit.on h; omega)
  · unfold clsFrom
    rw [clsR, if_pos (by rcases h with h | h | h <;> rw [h] <;> decide)]
    exact .bad h hit.le
theorem classR_set {s : ByteArray} {k : Nat} (hk : k < s.size) : SetOK s k (classR s k) := by
  unfold classR
  split
  · next h =>
    have hi := in_of_bAt h (by omega)
    have hc : SetOK s k (clsFrom s (k + 2)) := (clsFrom_set hi).up (by omega)
    split
    · next h0 => exact .bad (hc.err.resolve_left h0) hc.le
    · next h0 => exact .good (notW_fit _) hc.le (hc.on (by simpa using h0))
  · exact (clsFrom_set hk).up (by omega)
theorem setR_set {s : ByteArray} {k : Nat} (hk : k < s.size) : SetOK s k (setR s k) := by
  unfold setR
  split
  · exact classR_set hk
  · split
    · exact escR_set hk
    · split
      · exact .good (notW_fit _) hk (by omega)
      · split
        · exact .bad (.inr (.inr rfl)) (by omega)
        · split
          · exact .bad (.inl rfl) (by omega)
          · exact .good (oneW_fit _) hk (by omega)
end
section
open Go Go.RowKit
/-- An error of a token: none, and a place behind it; else some. -/
structure TkOK (s : ByteArray) (k : Nat) (r : TokM × Int × Nat) : Prop where
  fit : r.1.set.fit
  err : r.2.1 = 0 ∨ r.2.1 = 4 ∨ r.2.1 = 5 ∨ r.2.1 = 6
  le : r.2.2 ≤ s.size
  on : r.2.1 = 0 → k < r.2.2
theorem TkOK.bad {s : ByteArray} {k j : Nat} {e : Int} (he : e = 4 ∨ e = 5 ∨ e = 6) (hj : j ≤ s.size) : TkOK s k (noTok, e, j) :=
  ⟨noW_fit, .inr he, hj, fun h => by have h' : e = 0 := h; rcases he with rfl | rfl | rfl <;> exact absurd h' (by decide)⟩
theorem TkOK.good {s : ByteArray} {k j : Nat} {t : TokM} (ht : t.set.fit) (hj : j ≤ s.size) (hk : k < j) : TkOK s k (t, 0, j) := ⟨ht, .inl rfl, hj, fun _ => hk⟩
theorem TkOK.up {s : ByteArray} {k j : Nat} {r : TokM × Int × Nat} (h : TkOK s j r) (hk : k ≤ j) : TkOK s k r := ⟨h.fit, h.err, h.le, fun e => Nat.lt_of_le_of_lt hk (h.on e)⟩
theorem countR_tok {s : ByteArray} {k j : Nat} (lo hi : Int) (hk : k < j) (hj : j ≤ s.size) : TkOK s k (countR s lo hi j) := by
  unfold countR
  split
  · next h =>
    have := in_of_bAt h (by omega)
    split
    · exact .bad (.inr (.inr rfl)) (by omega)
    · exact .good noW_fit (by omega) (by omega)
  · split
    · exact .bad (.inr (.inr rfl)) hj
    · exact .good noW_fit hj hk
theorem openR_tok {s : ByteArray} {k : Nat} (hk : k < s.size) : TkOK s k (openR s k) := by
  unfold openR
  split
  · split
    · next h => exact .good noW_fit (in_of_bAt h (by omega)) (by omega)
    · exact .bad (.inr (.inr rfl)) (by omega)
  · exact .good noW_fit hk (by omega)
theorem signR_tok {s : ByteArray} {k : Nat} (hk : k < s.size) : TkOK s k (signR s k) := by
  unfold signR
  split
  · exact countR_tok _ _ (by omega) hk
  · split
    · exact countR_tok _ _ (by omega) hk
    · exact countR_tok _ _ (by omega) hk
theorem numR_le {s : ByteArray} {a : Nat} (ha : a ≤ s.size) : a ≤ (numR s a).2.2 ∧ (numR s a).2.2 ≤ s.size := by
  have h := dall_size ha
  unfold numR
  split
  · exact ⟨Nat.le_refl _, ha⟩
  · split
    · exact ⟨Nat.le_refl _, ha⟩
    · exact ⟨Nat.le_add_right _ _, h⟩
theorem numR_err (s : ByteArray) (a : Nat) : (numR s a).2.1 = 0 ∨ (numR s a).2.1 = 4 ∨ (numR s a).2.1 = 5 := by
  unfold numR
  split
  · exact .inr (.inl rfl)
  · split
    · exact .inr (.inr rfl)
    · exact .inl rfl
theorem mostR_le {s : ByteArray} {a : Nat} (lo : Int) (ha : a ≤ s.size) : a ≤ (mostR s lo a).2.2 ∧ (mostR s lo a).2.2 ≤ s.size := by
  unfold mostR
  split
  · exact ⟨Nat.le_refl _, ha⟩
  · split
    · exact ⟨Nat.le_refl _, ha⟩
    · exact numR_le ha
theorem shutR_tok {s : ByteArray} {k j : Nat} (lo hi : Int) (hk : k < j + 1) (hj : j ≤ s.size) : TkOK s k (shutR s lo hi j) := by
  unfold shutR
  split
  · next h => exact countR_tok _ _ hk (in_of_bAt h (by omega))
  · exact .bad (.inl rfl) hj
theorem err45 {c : Int} (h : c = 0 ∨ c = 4 ∨ c = 5) (h0 : c ≠ 0) : c = 4 ∨ c = 5 ∨ c = 6 := by rcases h with h | h | h <;> omega
theorem bracesR_tok {s : ByteArray} {k : Nat} (hk : k < s.size) : TkOK s k (bracesR s k) := by
  have h1 := numR_le (s := s) (a := k + 1) hk
  unfold bracesR
  split
  · next h => exact .bad (err45 (numR_err _ _) h) h1.2
  · split
    · next h44 =>
      have h2 := mostR_le (s := s) (numR s (k + 1)).1 (a := (numR s (k + 1)).2.2 + 1) (in_of_bAt h44 (by omega))
      split
      · next h => exact .bad (err45 (mostR_err _ _ _) h) h2.2
      · exact shutR_tok _ _ (by omega) h2.2
    · exact shutR_tok _ _ (by omega) h1.2
theorem tokenR_tok {s : ByteArray} {k : Nat} (hk : k < s.size) : TkOK s k (tokenR s k) := by
  unfold tokenR
  split
  · exact .good noW_fit hk (by omega)
  · split
    · exact openR_tok hk
    · split
      · exact .good noW_fit hk (by omega)
      · split
        · exact signR_tok hk
        · split
          · exact bracesR_tok hk
          · have h := setR_set hk
            exact ⟨h.fit, h.err, h.le, h.on⟩
/-- What comes of a pattern hangs on no number of steps, if there are enough. -/
theorem scanR_more {s : ByteArray} : ∀ (n m k : Nat), k ≤ s.size → s.size < n + k → s.size < m + k → scanR s n k = scanR s m k := by
  intro n
  induction n with
  | zero => intro m k h0 hn hm; omega
  | succ n ih =>
    intro m k h0 hn hm
    cases m with
    | zero => omega
    | succ m =>
      by_cases hk : s.size ≤ k
      · rw [scanR, if_pos hk, scanR, if_pos hk]
      · have ht := tokenR_tok (s := s) (k := k) (by omega)
        by_cases he : (tokenR s k).2.1 ≠ 0
        · rw [scanR, if_neg hk, if_pos he, scanR, if_neg hk, if_pos he]
        · have hon := ht.on (by simpa using he)
          have e := ih m (tokenR s k).2.2 ht.le (by omega) (by omega)
          rw [scanR, if_neg hk, if_neg he, scanR, if_neg hk, if_neg he, e]
/-- What comes of a pattern from a place on, steps enough. -/
def scanK (s : ByteArray) (k : Nat) : List (TokM × Nat × Nat) × Int × Nat := scanR s (s.size + 1) k
theorem scanK_end {s : ByteArray} {k : Nat} (hk : s.size ≤ k) : scanK s k = ([], 0, k) := by unfold scanK; rw [scanR, if_pos hk]
theorem scanK_bad {s : ByteArray} {k : Nat} (hk : k < s.size) (he : (tokenR s k).2.1 ≠ 0) : scanK s k = ([], (tokenR s k).2.1, (tokenR s k).2.2) := by
  unfold scanK; rw [scanR, if_neg (by omega), if_pos he]
theorem scanK_on {s : ByteArray} {k : Nat} (hk : k < s.size) (he : (tokenR s k).2.1 = 0) : scanK s k =
    if (scanK s (tokenR s k).2.2).2.1 ≠ 0 then ([], (scanK s (tokenR s k).2.2).2.1, (scanK s (tokenR s k).2.2).2.2)
    else (((tokenR s k).1, k, (tokenR s k).2.2) :: (scanK s (tokenR s k).2.2).1, 0, (scanK s (tokenR s k).2.2).2.2) := by
  have hon := (tokenR_tok hk).on he
  have e : scanR s s.size (tokenR s k).2.2 = scanK s (tokenR s k).2.2 := scanR_more _ _ _ (tokenR_tok hk).le (by omega) (by omega)
  rw [← e]
  unfold scanK
  rw [scanR, if_neg (by omega), if_neg (by rw [he]; simp)]
/-- What comes of a pattern, l taken already, which is from its beginning on to k. -/
def ScanAt (s : ByteArray) (l : List (TokM × Nat × Nat)) (k : Nat) : Prop :=
  scanAll s = if (scanK s k).2.1 ≠ 0 then ([], (scanK s k).2.1, (scanK s k).2.2) else (l ++ (scanK s k).1, 0, (scanK s k).2.2)
theorem scanK_sort (s : ByteArray) (k : Nat) (h : (scanK s k).2.1 ≠ 0) : (scanK s k).1 = [] := by
  unfold scanK at h ⊢
  rw [scanR] at h ⊢
  split
  · rfl
  · split
    · rfl
    · split
      · rfl
      · next h1 h2 h3 => rw [if_neg h1, if_neg h2, if_neg h3] at h; exact absurd rfl h
theorem ScanAt.start (s : ByteArray) : ScanAt s [] 0 := by
  show scanK s 0 = _
  by_cases h : (scanK s 0).2.1 ≠ 0
  · rw [if_pos h]
    have := scanK_sort s 0 h
    exact Prod.ext this rfl
  · rw [if_neg h]
    exact Prod.ext rfl (Prod.ext (by simpa using h) rfl)
theorem ScanAt.bad {s : ByteArray} {l : List (TokM × Nat × Nat)} {k : Nat} (h : ScanAt s l k) (hk : k < s.size) (he : (tokenR s k).2.1 ≠ 0) : scanAll s = ([], (tokenR s k).2.1, (tokenR s k).2.2) := by
  unfold ScanAt at h
  rw [scanK_bad hk he, if_pos he] at h
  exact h
theorem ScanAt.done {s : ByteArray} {l : List (TokM × Nat × Nat)} {k : Nat} (h : ScanAt s l k) (hk : s.size ≤ k) : scanAll s = (l, 0, k) := by
  unfold ScanAt at h
  rw [scanK_end hk, if_neg (by simp), List.append_nil] at h
  exact h
theorem ScanAt.step {s : ByteArray} {l : List (TokM × Nat × Nat)} {k : Nat} (h : ScanAt s l k) (hk : k < s.size) (he : (tokenR s k).2.1 = 0) : ScanAt s (l ++ [((tokenR s k).1, k, (tokenR s k).2.2)]) (tokenR s k).2.2 := by
  unfold ScanAt at h ⊢
  rw [h, scanK_on hk he]
  by_cases h1 : (scanK s (tokenR s k).2.2).2.1 ≠ 0
  · rw [if_pos h1, if_pos h1, if_pos h1]
  · rw [if_neg h1, if_neg h1, if_neg (by simp), List.append_assoc]; rfl
end
end Go.Proofs.YtenibhmjcafbiaaGreatDoor
