/- Plain mathematics: the blocks' leads are their least bytes; how a byte's lead is looked for. -/
import Derived.Test.YtkjbecdngjdkhaaDoorBlkM
namespace Go.Proofs.YtkjbecdngjdkhaaDoor
theorem lead_num {E : Nat → Nat → Bool} (hE : Sorts E) {n i a : Nat} (hi : (leads E n)[i]? = some a) : num E a = i := num_of hE hi (hE.refl a)
theorem lead_least {E : Nat → Nat → Bool} (hE : Sorts E) {n i a : Nat} (hi : (leads E n)[i]? = some a) : ∀ m, m < a → num E m ≠ i := by
  intro m hm he
  obtain ⟨c, h1, _⟩ := num_lead hE (n := m + 1) (b := m) (by omega)
  have hc := leads_lt _ c (List.mem_of_getElem? h1)
  have ha := leads_lt n a (List.mem_of_getElem? hi)
  have h2 := leads_at (E := E) (Nat.le_max_left (m + 1) n) h1
  have h3 := leads_at (E := E) (Nat.le_max_right (m + 1) n) hi
  rw [he] at h2
  rw [h2] at h3
  have := Option.some.inj h3
  omega
/-- What was found among the first k leads of a byte's. -/
def Want (E : Nat → Nat → Bool) (l : List Nat) (b k : Nat) (v : Int) : Prop :=
  (v = -1 ∧ ∀ j a, j < k → l[j]? = some a → E a b = false) ∨ ∃ j a : Nat, j < k ∧ v = (j : Int) ∧ l[j]? = some a ∧ E a b = true
theorem Want.start (E : Nat → Nat → Bool) (l : List Nat) (b : Nat) : Want E l b 0 (-1) := .inl ⟨rfl, fun _ _ h => by omega⟩
theorem Want.yes {E : Nat → Nat → Bool} {l : List Nat} {b k a : Nat} (ha : l[k]? = some a) (he : E a b = true) : Want E l b (k + 1) (k : Int) := .inr ⟨k, a, by omega, rfl, ha, he⟩
theorem Want.no {E : Nat → Nat → Bool} {l : List Nat} {b k a : Nat} {v : Int} (h : Want E l b k v) (ha : l[k]? = some a) (he : E a b = false) : Want E l b (k + 1) v := by
  rcases h with ⟨h1, h2⟩ | ⟨j, c, h1, h2, h3, h4⟩
  · refine .inl ⟨h1, fun j c hj hc => ?_⟩
    by_cases e : j = k
    · subst e; rw [ha] at hc; rw [← Option.some.inj hc]; exact he
    · exact h2 j c (by omega) hc
  · exact .inr ⟨j, c, by omega, h2, h3, h4⟩
theorem Want.ends {E : Nat → Nat → Bool} (hE : Sorts E) {b : Nat} {v : Int} (h : Want E (leads E b) b (leads E b).length v) :
    (v = -1 ∧ leads E (b + 1) = leads E b ++ [b] ∧ num E b = (leads E b).length) ∨ (v = (num E b : Int) ∧ leads E (b + 1) = leads E b) := by
  rcases h with ⟨h1, h2⟩ | ⟨j, c, h1, h2, h3, h4⟩
  · refine .inl ⟨h1, num_new hE fun a ha => ?_⟩
    obtain ⟨c, hc1, hc2⟩ := num_lead hE (n := b) (b := a) ha
    have hl := (List.getElem?_eq_some_iff.1 hc1).1
    have hf := h2 _ c hl hc1
    rw [← Bool.not_eq_true]
    intro hab
    rw [hE.trans _ _ _ hc2 hab] at hf
    cases hf
  · have hc := leads_lt b c (List.mem_of_getElem? h3)
    refine .inr ⟨?_, (num_old hE hc h4).1⟩
    rw [num_of hE h3 h4, h2]
theorem Want.range {E : Nat → Nat → Bool} {l : List Nat} {b k : Nat} {v : Int} (h : Want E l b k v) : -1 ≤ v ∧ v ≤ k := by
  rcases h with ⟨h1, _⟩ | ⟨j, c, h1, h2, _, _⟩ <;> omega
theorem leads_len' (E : Nat → Nat → Bool) : ∀ n, (leads E n).length ≤ n := by
  intro n
  induction n with
  | zero => exact Nat.le_refl _
  | succ n ih =>
    rw [leads_succ]
    split
    · omega
    · rw [List.length_append]; simp; exact ih
end Go.Proofs.YtkjbecdngjdkhaaDoor
