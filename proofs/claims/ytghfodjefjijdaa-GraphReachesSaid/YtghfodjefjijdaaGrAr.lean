/- graph: how many arrows there are, counted in the table; what From lists, one by one. -/
import Derived.Test.YtghfodjefjijdaaGrRr
namespace Go.Proofs.Ytghfodjefjijdaa
section
/-- How many of the first ones are told. -/
def cntTo (q : Nat → Bool) : Nat → Nat
  | 0 => 0
  | j + 1 => cntTo q j + if q j then 1 else 0
/-- How many arrows the first rows hold. -/
def aN (n : Nat) (m : Nat → Nat → Bool) : Nat → Nat
  | 0 => 0
  | i + 1 => aN n m i + cntTo (m i) n
theorem cntTo_upd (q : Nat → Bool) (b : Nat) : ∀ j, cntTo (upd q b true) j = cntTo q j + if b < j ∧ q b = false then 1 else 0 := by
  intro j
  induction j with
  | zero => simp [cntTo]
  | succ j ih =>
    show cntTo (upd q b true) j + (if upd q b true j then 1 else 0) = cntTo q j + (if q j then 1 else 0) + _
    rw [ih]
    by_cases hj : j = b
    · subst hj
      rw [upd_same, if_neg (fun h => Nat.lt_irrefl _ h.1)]
      cases hq : q j <;> simp
    · rw [upd_other _ _ hj]
      have e1 : (b < j + 1 ∧ q b = false) ↔ (b < j ∧ q b = false) := ⟨fun h => ⟨by omega, h.2⟩, fun h => ⟨by omega, h.2⟩⟩
      simp only [e1]
      omega
theorem aN_upd {n a b : Nat} (m : Nat → Nat → Bool) (hb : b < n) : ∀ i, aN n (upd2 m a b) i = aN n m i + if a < i ∧ m a b = false then 1 else 0 := by
  intro i
  induction i with
  | zero => simp [aN]
  | succ i ih =>
    show aN n (upd2 m a b) i + cntTo (upd2 m a b i) n = aN n m i + cntTo (m i) n + _
    rw [ih]
    by_cases hi : i = a
    · subst hi
      unfold upd2
      rw [upd_same, cntTo_upd]
      by_cases h1 : m i b = false
      · simp [hb, h1]
        omega
      · simp [h1]
    · have e : upd2 m a b i = m i := by unfold upd2; rw [upd_other _ _ hi]
      rw [e]
      have e1 : (a < i + 1 ∧ m a b = false) ↔ (a < i ∧ m a b = false) := ⟨fun h => ⟨by omega, h.2⟩, fun h => ⟨by omega, h.2⟩⟩
      simp only [e1]
      omega
theorem cntTo_none (j : Nat) : cntTo (fun _ => false) j = 0 := by
  induction j with
  | zero => rfl
  | succ j ih => show cntTo _ j + 0 = 0; rw [ih]
theorem aN_none (n : Nat) : ∀ i, aN n noArrows i = 0 := by
  intro i
  induction i with
  | zero => rfl
  | succ i ih =>
    show aN n noArrows i + cntTo (noArrows i) n = 0
    rw [ih, Nat.zero_add]
    exact cntTo_none n
/-- The graph's count is the table's. -/
theorem cOf_aN (n : Nat) (xs ys : Nat → Int) : ∀ k, cOf n xs ys k = aN n (mOf n xs ys k) n := by
  intro k
  induction k with
  | zero => exact (aN_none n n).symm
  | succ k ih =>
    rw [cOf_succ, mOf_succ]
    by_cases hin : (inB n (xs k) && inB n (ys k)) = true
    · rw [if_pos hin, if_pos hin]
      have hin' := hin
      unfold inB at hin'
      simp at hin'
      rw [aN_upd _ (by omega), ih]
      by_cases h1 : mOf n xs ys k (xs k).toNat (ys k).toNat = true
      · rw [if_pos h1, if_neg (fun h => by rw [h1] at h; cases h.2)]
        rfl
      · rw [if_neg h1, if_pos ⟨by omega, by simpa using h1⟩]
    · rw [if_neg hin, if_neg hin, ih]
/-- What From lists: as many as are told, in their order. -/
theorem succ_succ (q : Nat → Bool) (j : Nat) : succ (j + 1) q = succ j q ++ if q j then [j] else [] := by
  unfold succ
  rw [List.range_succ, List.filter_append]
  congr 1
  cases hq : q j <;> simp [hq]
theorem succ_cnt (q : Nat → Bool) : ∀ j, (succ j q).length = cntTo q j := by
  intro j
  induction j with
  | zero => rfl
  | succ j ih =>
    rw [succ_succ, List.length_append, ih]
    show _ = cntTo q j + if q j then 1 else 0
    cases q j <;> rfl
theorem succ_at {q : Nat → Bool} {n j : Nat} (hj : j < n) (hq : q j = true) : (succ n q)[cntTo q j]? = some j := by
  obtain ⟨d, rfl⟩ : ∃ d, n = j + 1 + d := ⟨n - (j + 1), by omega⟩
  clear hj
  induction d with
  | zero =>
    rw [Nat.add_zero, succ_succ, if_pos hq, ← succ_cnt]
    simp
  | succ d ih =>
    rw [show j + 1 + (d + 1) = (j + 1 + d) + 1 from rfl, succ_succ]
    rw [List.getElem?_append_left (List.getElem?_eq_some_iff.1 ih).1]
    exact ih
/-- None of the first things ahead of i is of i's knot. -/
def firstTo (kn : Nat → Int) (i : Nat) : Nat → Bool
  | 0 => true
  | j + 1 => firstTo kn i j && (decide (i ≤ j) || !(kn j == kn i))
theorem firstTo_succ (kn : Nat → Int) (i j : Nat) : firstTo kn i (j + 1) = (firstTo kn i j && (decide (i ≤ j) || !(kn j == kn i))) := rfl
theorem firstTo_iff {kn : Nat → Int} {i : Nat} : ∀ {j : Nat}, firstTo kn i j = true ↔ ∀ v, v < j → v < i → kn v ≠ kn i := by
  intro j
  induction j with
  | zero => exact ⟨fun _ v h => absurd h (Nat.not_lt_zero _), fun _ => rfl⟩
  | succ j ih =>
    rw [firstTo_succ, Bool.and_eq_true, ih, Bool.or_eq_true]
    constructor
    · rintro ⟨h1, h2⟩ v hv hvi
      rcases Nat.lt_succ_iff_lt_or_eq.1 hv with hv | rfl
      · exact h1 v hv hvi
      · rcases h2 with h2 | h2
        · have := of_decide_eq_true h2
          omega
        · simpa using h2
    · intro h
      refine ⟨fun v hv hvi => h v (Nat.lt_succ_of_lt hv) hvi, ?_⟩
      by_cases hij : i ≤ j
      · exact .inl (decide_eq_true hij)
      · refine .inr ?_
        have := h j (Nat.lt_succ_self _) (by omega)
        simpa using this
theorem firstTo_all {kn : Nat → Int} {i n : Nat} (h : i < n) : firstTo kn i n = fresh kn i := by
  rw [Bool.eq_iff_iff, firstTo_iff, fresh_iff, num_none]
  exact ⟨fun e v hv => e v (by omega) hv, fun e v _ hv => e v hv⟩
end
end Go.Proofs.Ytghfodjefjijdaa
