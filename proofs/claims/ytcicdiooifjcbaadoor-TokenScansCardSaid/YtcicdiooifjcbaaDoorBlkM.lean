/- Plain mathematics: blocks of bytes that can't be told apart, numbered by their least bytes. -/
import Derived.Test.YtcicdiooifjcbaaDoorWords
namespace Go.Proofs.YtcicdiooifjcbaaDoor
/-- A relation on bytes that sorts them. -/
structure Sorts (E : Nat → Nat → Bool) : Prop where
  refl : ∀ a, E a a = true
  symm : ∀ a b, E a b = true → E b a = true
  trans : ∀ a b c, E a b = true → E b c = true → E a c = true
/-- Those of the first n bytes that are the least of their block, rising. -/
def leads (E : Nat → Nat → Bool) : Nat → List Nat
  | 0 => []
  | n + 1 => if (leads E n).any (fun a => E a n) then leads E n else leads E n ++ [n]
theorem leads_succ (E : Nat → Nat → Bool) (n : Nat) : leads E (n + 1) = if (leads E n).any (fun a => E a n) then leads E n else leads E n ++ [n] := rfl
/-- A byte's block. -/
def num (E : Nat → Nat → Bool) (b : Nat) : Nat := (leads E (b + 1)).findIdx (fun a => E a b)
theorem leads_lt {E : Nat → Nat → Bool} : ∀ (n : Nat), ∀ a ∈ leads E n, a < n := by
  intro n
  induction n with
  | zero => intro a h; cases h
  | succ n ih =>
    intro a h
    unfold leads at h
    split at h
    · have := ih a h; omega
    · rcases List.mem_append.1 h with h | h
      · have := ih a h; omega
      · rw [List.mem_singleton.1 h]; omega
theorem leads_prefix {E : Nat → Nat → Bool} (n : Nat) : ∀ k, ∃ r, leads E (n + k) = leads E n ++ r := by
  intro k
  induction k with
  | zero => exact ⟨[], by simp⟩
  | succ k ih =>
    obtain ⟨r, hr⟩ := ih
    rw [← Nat.add_assoc, leads_succ]
    split
    · exact ⟨r, hr⟩
    · exact ⟨r ++ [n + k], by rw [hr, List.append_assoc]⟩
theorem lead_of {E : Nat → Nat → Bool} (hE : Sorts E) : ∀ (n b : Nat), b < n → ∃ a ∈ leads E n, E a b = true := by
  intro n
  induction n with
  | zero => intro b h; omega
  | succ n ih =>
    intro b hb
    rw [leads_succ]
    by_cases hany : (leads E n).any (fun a => E a n) = true
    · rw [if_pos hany]
      by_cases e : b = n
      · subst e
        obtain ⟨a, h1, h2⟩ := List.any_eq_true.1 hany
        exact ⟨a, h1, h2⟩
      · exact ih b (by omega)
    · rw [if_neg hany]
      by_cases e : b = n
      · subst e; exact ⟨b, by simp, hE.refl b⟩
      · obtain ⟨a, h1, h2⟩ := ih b (by omega)
        exact ⟨a, by simp [h1], h2⟩
/-- The leads are told apart. -/
theorem leads_apart {E : Nat → Nat → Bool} (hE : Sorts E) : ∀ (n i j : Nat) (a b : Nat), (leads E n)[i]? = some a → (leads E n)[j]? = some b → E a b = true → i = j := by
  intro n
  induction n with
  | zero => intro i j a b h; simp [leads] at h
  | succ n ih =>
    intro i j a b h1 h2 he
    unfold leads at h1 h2
    by_cases hany : (leads E n).any (fun a => E a n) = true
    · rw [if_pos hany] at h1 h2
      exact ih i j a b h1 h2 he
    · rw [if_neg hany] at h1 h2
      have hno : ∀ x ∈ leads E n, E x n = false := by
        intro x hx
        rw [← Bool.not_eq_true]
        intro h
        exact hany (List.any_eq_true.2 ⟨x, hx, h⟩)
      have key : ∀ (k : Nat) (c : Nat), (leads E n ++ [n])[k]? = some c → (k < (leads E n).length ∧ (leads E n)[k]? = some c) ∨ (k = (leads E n).length ∧ c = n) := by
        intro k c h
        by_cases hk : k < (leads E n).length
        · rw [List.getElem?_append_left hk] at h
          exact .inl ⟨hk, h⟩
        · rw [List.getElem?_append_right (by omega)] at h
          right
          by_cases e : k - (leads E n).length = 0
          · rw [e] at h
            simp at h
            exact ⟨by omega, h.symm⟩
          · obtain ⟨m, hm⟩ : ∃ m, k - (leads E n).length = m + 1 := ⟨k - (leads E n).length - 1, by omega⟩
            rw [hm] at h
            simp at h
      rcases key i a h1 with ⟨p1, p2⟩ | ⟨p1, p2⟩
      · rcases key j b h2 with ⟨q1, q2⟩ | ⟨q1, q2⟩
        · exact ih i j a b p2 q2 he
        · subst q2
          have := hno a (List.mem_of_getElem? p2)
          rw [this] at he; cases he
      · rcases key j b h2 with ⟨q1, q2⟩ | ⟨q1, q2⟩
        · subst p2
          have := hno b (List.mem_of_getElem? q2)
          rw [hE.symm a b he] at this; cases this
        · omega
theorem leads_at {E : Nat → Nat → Bool} {n m i a : Nat} (h : n ≤ m) (hi : (leads E n)[i]? = some a) : (leads E m)[i]? = some a := by
  obtain ⟨r, hr⟩ := leads_prefix (E := E) n (m - n)
  rw [show n + (m - n) = m by omega] at hr
  obtain ⟨hl, _⟩ := List.getElem?_eq_some_iff.1 hi
  rw [hr, List.getElem?_append_left hl]
  exact hi
/-- A byte's block is that of the lead that it can't be told from. -/
theorem num_of {E : Nat → Nat → Bool} (hE : Sorts E) {n i a b : Nat} (hi : (leads E n)[i]? = some a) (he : E a b = true) : num E b = i := by
  obtain ⟨c, hc, hcb⟩ := lead_of hE (b + 1) b (by omega)
  have hany : (leads E (b + 1)).any (fun a => E a b) = true := List.any_eq_true.2 ⟨c, hc, hcb⟩
  have hlt : num E b < (leads E (b + 1)).length := List.findIdx_lt_length_of_exists ⟨c, hc, hcb⟩
  have hp : E ((leads E (b + 1))[num E b]'hlt) b = true := List.findIdx_getElem (w := hlt)
  have h1 := leads_at (E := E) (Nat.le_max_left (b + 1) n) (List.getElem?_eq_getElem hlt)
  have h2 := leads_at (E := E) (Nat.le_max_right (b + 1) n) hi
  exact leads_apart hE _ _ _ _ _ h1 h2 (hE.trans _ _ _ hp (hE.symm _ _ he))
theorem num_lead {E : Nat → Nat → Bool} (hE : Sorts E) {n b : Nat} (hb : b < n) : ∃ a, (leads E n)[num E b]? = some a ∧ E a b = true := by
  obtain ⟨c, hc, hcb⟩ := lead_of hE (b + 1) b (by omega)
  have hlt : num E b < (leads E (b + 1)).length := List.findIdx_lt_length_of_exists ⟨c, hc, hcb⟩
  have hp : E ((leads E (b + 1))[num E b]'hlt) b = true := List.findIdx_getElem (w := hlt)
  exact ⟨_, leads_at (by omega) (List.getElem?_eq_getElem hlt), hp⟩
theorem num_iff {E : Nat → Nat → Bool} (hE : Sorts E) (a b : Nat) : num E a = num E b ↔ E a b = true := by
  constructor
  · intro h
    obtain ⟨x, h1, h2⟩ := num_lead hE (n := max a b + 1) (b := a) (by omega)
    obtain ⟨y, h3, h4⟩ := num_lead hE (n := max a b + 1) (b := b) (by omega)
    rw [h, h3] at h1
    injection h1 with h1
    subst h1
    exact hE.trans _ _ _ (hE.symm _ _ h2) h4
  · intro h
    obtain ⟨x, h1, h2⟩ := num_lead hE (n := a + 1) (b := a) (by omega)
    exact (num_of hE h1 (hE.trans _ _ _ h2 h)).symm
theorem num_lt {E : Nat → Nat → Bool} (hE : Sorts E) {n b : Nat} (hb : b < n) : num E b < (leads E n).length := by
  obtain ⟨a, h1, _⟩ := num_lead hE hb
  exact (List.getElem?_eq_some_iff.1 h1).1
/-- How a round of the numbering goes: the byte is of an elder block, or it is the first of a new one. -/
theorem num_old {E : Nat → Nat → Bool} (hE : Sorts E) {n a : Nat} (ha : a < n) (he : E a n = true) : leads E (n + 1) = leads E n ∧ num E n = num E a := by
  obtain ⟨x, h1, h2⟩ := num_lead hE ha
  have hx := List.mem_of_getElem? h1
  refine ⟨?_, ((num_iff hE a n).2 he).symm⟩
  rw [leads_succ, if_pos (List.any_eq_true.2 ⟨x, hx, hE.trans x a n h2 he⟩)]
theorem num_new {E : Nat → Nat → Bool} (hE : Sorts E) {n : Nat} (h : ∀ a, a < n → E a n = false) : leads E (n + 1) = leads E n ++ [n] ∧ num E n = (leads E n).length := by
  have e : leads E (n + 1) = leads E n ++ [n] := by
    rw [leads_succ, if_neg]
    intro hany
    obtain ⟨a, h1, h2⟩ := List.any_eq_true.1 hany
    rw [h a (leads_lt n a h1)] at h2; cases h2
  refine ⟨e, num_of hE (n := n + 1) (a := n) ?_ (hE.refl n)⟩
  rw [e, List.getElem?_append_right (Nat.le_refl _), Nat.sub_self]; rfl
theorem leads_congr {E F : Nat → Nat → Bool} {N : Nat} (h : ∀ a b, a < N → b < N → E a b = F a b) : ∀ n, n ≤ N → leads E n = leads F n := by
  intro n
  induction n with
  | zero => intro _; rfl
  | succ n ih =>
    intro hn
    have e := ih (by omega)
    have ha : (leads F n).any (fun a => E a n) = (leads F n).any (fun a => F a n) := by
      rw [Bool.eq_iff_iff, List.any_eq_true, List.any_eq_true]
      constructor
      · rintro ⟨x, h1, h2⟩
        have := leads_lt n x h1
        exact ⟨x, h1, by rw [← h x n (by omega) (by omega)]; exact h2⟩
      · rintro ⟨x, h1, h2⟩
        have := leads_lt n x h1
        exact ⟨x, h1, by rw [h x n (by omega) (by omega)]; exact h2⟩
    rw [leads_succ, leads_succ, e, ha]
theorem num_congr {E F : Nat → Nat → Bool} {N b : Nat} (hE : Sorts E) (hF : Sorts F) (h : ∀ a b, a < N → b < N → E a b = F a b) (hb : b < N) : num E b = num F b := by
  obtain ⟨x, h1, h2⟩ := num_lead hF (n := b + 1) (b := b) (by omega)
  have hx := leads_lt _ x (List.mem_of_getElem? h1)
  rw [← leads_congr h (b + 1) (by omega)] at h1
  rw [← h x b (by omega) hb] at h2
  exact num_of hE h1 h2
end Go.Proofs.YtcicdiooifjcbaaDoor
