/- Plain mathematics: numbers, told in tens, and read. -/
import Derived.Test.YtglbhmhkeegpdaaDoorReadM
import Derived.Lib.ItoaNum
import Derived.Lib.ItoaMem
import Derived.Lib.ItoaLen
import Derived.Lib.AtoiAll
namespace Go.Proofs.YtglbhmhkeegpdaaDoor
open Go Go.RowKit
def isDig (c : UInt8) : Bool := decide (48 ≤ c.toNat ∧ c.toNat ≤ 57)
theorem dig_of {d : Nat} (h : d < 10) : (UInt8.ofNat (48 + d)).toNat = 48 + d := by rw [UInt8.toNat_ofNat']; omega
theorem dd_small {u : Nat} (h : u < 10) : Lib.decDigits u = [UInt8.ofNat (48 + u)] := Lib.decDigits_one h
theorem dd_big {u : Nat} (h : ¬ u < 10) : Lib.decDigits u = Lib.decDigits (u / 10) ++ [UInt8.ofNat (48 + u % 10)] := by rw [Lib.decDigits, dif_neg h]
theorem dd_dig (u : Nat) : ∀ c ∈ Lib.decDigits u, isDig c = true := by
  induction u using Nat.strongRecOn with
  | ind u ih =>
    intro c hc
    by_cases h : u < 10
    · rw [dd_small h] at hc
      rw [List.mem_singleton.1 hc]
      unfold isDig; rw [dig_of h]; exact decide_eq_true ⟨by omega, by omega⟩
    · rw [dd_big h] at hc
      rcases List.mem_append.1 hc with hc | hc
      · exact ih (u / 10) (by omega) c hc
      · rw [List.mem_singleton.1 hc]
        unfold isDig; rw [dig_of (by omega)]; exact decide_eq_true ⟨by omega, by omega⟩
theorem dd_ne (u : Nat) : Lib.decDigits u ≠ [] := by
  by_cases h : u < 10
  · rw [dd_small h]; simp
  · rw [dd_big h]; simp
theorem parse_snoc {a : Nat} (l : List UInt8) : ∀ (acc : Nat) (c : UInt8), Lib.parseUint10 acc l = .ok a → Lib.parseUint10 acc (l ++ [c]) = Lib.parseUint10 a [c] := by
  induction l with
  | nil =>
    intro acc c h
    have e : acc = a := by injection h
    rw [e]; rfl
  | cons b l ih =>
    intro acc c h
    rw [Lib.parseUint10] at h
    rw [List.cons_append, Lib.parseUint10]
    split at h
    · rename_i h1
      rw [if_pos h1]
      split at h
      · cases h
      · rename_i h2
        rw [if_neg h2]
        split at h
        · cases h
        · rename_i h3
          rw [if_neg h3]
          exact ih _ c h
    · cases h
theorem atoi_ends (l : List UInt8) : (∃ v, Lib.atoiAll l = .ok v) ∨ Lib.atoiAll l = Lib.atoiAll [] ∨ Lib.atoiAll l = .range := by
  rcases Lib.atoiAll l with v | _ | _
  · exact .inl ⟨v, rfl⟩
  · exact .inr (.inl rfl)
  · exact .inr (.inr rfl)
theorem parse_one {acc : Nat} {c : UInt8} (hd : isDig c = true) (h : acc * 10 + (c.toNat - 48) < 18446744073709551616) : Lib.parseUint10 acc [c] = .ok (acc * 10 + (c.toNat - 48)) := by
  unfold isDig at hd
  rw [decide_eq_true_iff] at hd
  rw [Lib.parseUint10, if_pos hd, if_neg (by omega), if_neg (by omega)]
  rfl
theorem parse_dd (u : Nat) (hu : u < 18446744073709551616) : Lib.parseUint10 0 (Lib.decDigits u) = .ok u := by
  induction u using Nat.strongRecOn with
  | ind u ih =>
    by_cases h : u < 10
    · rw [dd_small h, parse_one (by unfold isDig; rw [dig_of h]; exact decide_eq_true ⟨by omega, by omega⟩) (by rw [dig_of h]; omega), dig_of h]
      congr 1; omega
    · have h2 := ih (u / 10) (by omega) (by omega)
      have hm : u % 10 < 10 := by omega
      rw [dd_big h, parse_snoc _ _ _ h2]
      rw [parse_one (by unfold isDig; rw [dig_of hm]; exact decide_eq_true ⟨by omega, by omega⟩) (by rw [dig_of hm]; omega), dig_of hm]
      congr 1; omega
theorem dd_back : ∀ (n : Nat) (l : List UInt8), l.length = n → l ≠ [] → (∀ c ∈ l, isDig c = true) → l.head?.map (·.toNat) ≠ some 48 → n ≤ 18 →
    ∃ u, Lib.parseUint10 0 l = .ok u ∧ Lib.decDigits u = l ∧ 1 ≤ u ∧ u < 10 ^ n := by
  intro n
  induction n with
  | zero => intro l h1 h2; exact absurd (List.length_eq_zero_iff.1 h1) h2
  | succ n ih =>
    intro l h1 h2 h3 h4 h5
    obtain ⟨l', c, rfl⟩ : ∃ l' c, l = l' ++ [c] := ⟨l.dropLast, l.getLast h2, (List.dropLast_concat_getLast h2).symm⟩
    have hc := h3 c (by simp)
    have hcd := hc
    unfold isDig at hcd
    rw [decide_eq_true_iff] at hcd
    rw [List.length_append] at h1
    simp only [List.length_cons, List.length_nil] at h1
    have hce : UInt8.ofNat (48 + (c.toNat - 48)) = c := by
      rw [show 48 + (c.toNat - 48) = c.toNat by omega]; simp
    match l', h1, h3, h4 with
    | [], h1, _, h4 =>
      have hn0 : n = 0 := by simpa using h1.symm
      subst hn0
      have hne : c.toNat ≠ 48 := fun e => h4 (by simp [e])
      refine ⟨c.toNat - 48, ?_, ?_, by omega, by omega⟩
      · have := parse_one (acc := 0) hc (by omega)
        rw [List.nil_append, this]
        congr 1; omega
      · rw [dd_small (by omega), hce]; rfl
    | b :: l'', h1, h3, h4 =>
      obtain ⟨u, p1, p2, p3, p4⟩ := ih (b :: l'') (by omega) (by simp) (fun x hx => h3 x (List.mem_append_left _ hx)) (by simpa using h4) (by omega)
      have hp : 10 ^ (n + 1) ≤ 10 ^ 18 := Nat.pow_le_pow_right (by decide) h5
      have hp2 : 10 ^ (n + 1) = 10 ^ n * 10 := Nat.pow_succ ..
      have h18 : (10 : Nat) ^ 18 = 1000000000000000000 := by decide
      refine ⟨u * 10 + (c.toNat - 48), ?_, ?_, by omega, by omega⟩
      · rw [parse_snoc _ _ _ p1]
        exact parse_one hc (by omega)
      · rw [dd_big (by omega), show (u * 10 + (c.toNat - 48)) / 10 = u by omega, show (u * 10 + (c.toNat - 48)) % 10 = c.toNat - 48 by omega, p2, hce]
/-- The number that a text tells, if it is told just so. -/
def parseF (l : List UInt8) : Option Int := match Lib.atoiAll l with
  | .ok v => if Lib.itoa v = l then some v else none
  | _ => none
theorem dig_head {l : List UInt8} {c : UInt8} {r : List UInt8} (hl : l = c :: r) (h : ∀ x ∈ l, isDig x = true) : 48 ≤ c.toNat ∧ c.toNat ≤ 57 := by
  have := h c (by rw [hl]; exact List.mem_cons_self ..)
  unfold isDig at this
  exact decide_eq_true_iff.1 this
theorem atoi_pos {l : List UInt8} {u : Nat} (hne : l ≠ []) (h : ∀ x ∈ l, isDig x = true) (hp : Lib.parseUint10 0 l = .ok u) (hu : u < 9223372036854775808) : Lib.atoiAll l = .ok (u : Int) := by
  match hl : l, hne with
  | c :: r, _ =>
    have hc := dig_head rfl h
    have n1 : ¬ (c.toNat = 43 ∨ c.toNat = 45) := by omega
    have n2 : ¬ c.toNat = 45 := by omega
    unfold Lib.atoiAll
    dsimp only
    rw [if_neg n1]
    unfold Lib.parseMag
    rw [if_neg (by simp), hp]
    dsimp only
    rw [if_neg (by omega), if_neg (by omega), if_neg n2]
theorem atoi_itoa (n : Int) (h0 : -9223372036854775808 ≤ n) (h1 : n ≤ 9223372036854775807) : Lib.atoiAll (Lib.itoa n) = .ok n := by
  by_cases h : n < 0
  · have e : Lib.itoa n = 45 :: Lib.decDigits n.natAbs := by unfold Lib.itoa; rw [if_pos h]
    rw [e]
    have hp := parse_dd n.natAbs (by omega)
    unfold Lib.atoiAll
    dsimp only
    rw [if_pos (by decide)]
    unfold Lib.parseMag
    rw [if_neg (dd_ne _), hp]
    dsimp only
    rw [if_neg (by simp), if_neg (by omega), if_pos (by decide)]
    congr 1; omega
  · have e : Lib.itoa n = Lib.decDigits n.toNat := by unfold Lib.itoa; rw [if_neg h]
    rw [e, atoi_pos (dd_ne _) (dd_dig _) (parse_dd n.toNat (by omega)) (by omega)]
    congr 1; omega
theorem parse_itoa (n : Int) (h0 : -9223372036854775808 ≤ n) (h1 : n ≤ 9223372036854775807) : parseF (Lib.itoa n) = some n := by
  unfold parseF; rw [atoi_itoa n h0 h1]; dsimp only; rw [if_pos rfl]
theorem parse_some {l : List UInt8} {v : Int} (h : parseF l = some v) : Lib.atoiAll l = .ok v ∧ Lib.itoa v = l := by
  unfold parseF at h
  split at h
  · rename_i w hw
    split at h
    · rename_i he
      injection h with h
      subst h
      exact ⟨hw, he⟩
    · cases h
  · cases h
/-- Is the text, as far as byte k, of digits, a minus ahead of some? -/
def okAt (l : List UInt8) (k : Nat) : Bool := match l[k]? with
  | some c => isDig c || (decide (k = 0) && decide (c.toNat = 45) && decide (1 < l.length))
  | none => false
def digsTo (l : List UInt8) : Nat → Bool
  | 0 => decide (0 < l.length)
  | k + 1 => digsTo l k && okAt l k
theorem digs_all {l : List UInt8} (h : 0 < l.length) (hk : ∀ k, k < l.length → okAt l k = true) : ∀ n, n ≤ l.length → digsTo l n = true := by
  intro n
  induction n with
  | zero => intro _; exact decide_eq_true h
  | succ n ih => intro hn; show (digsTo l n && okAt l n) = true; rw [ih (by omega), hk n (by omega)]; rfl
theorem digs_each {l : List UInt8} : ∀ n, digsTo l n = true → ∀ k, k < n → okAt l k = true := by
  intro n
  induction n with
  | zero => intro _ k hk; omega
  | succ n ih =>
    intro h k hk
    have h' : (digsTo l n && okAt l n) = true := h
    rw [Bool.and_eq_true] at h'
    by_cases e : k = n
    · subst e; exact h'.2
    · exact ih h'.1 k (by omega)
theorem ok_dig {l : List UInt8} (h : ∀ c ∈ l, isDig c = true) {k : Nat} (hk : k < l.length) : okAt l k = true := by
  unfold okAt
  rw [List.getElem?_eq_getElem hk]
  dsimp only
  rw [h _ (List.getElem_mem hk)]; rfl
/-- F1: what tells a number is one of digits. -/
theorem digs_of {l : List UInt8} {v : Int} (h : parseF l = some v) : digsTo l l.length = true := by
  obtain ⟨_, h2⟩ := parse_some h
  by_cases hv : v < 0
  · have e : l = 45 :: Lib.decDigits v.natAbs := by rw [← h2]; unfold Lib.itoa; rw [if_pos hv]
    have hl : 1 < l.length := by
      rw [e, List.length_cons]
      have := List.length_pos_iff.2 (dd_ne v.natAbs)
      omega
    refine digs_all (by omega) (fun k hk => ?_) _ (Nat.le_refl _)
    match k with
    | 0 =>
      unfold okAt
      rw [e]
      rw [e] at hl
      simp at hl ⊢
      right; exact hl
    | k + 1 =>
      unfold okAt
      rw [e, List.getElem?_cons_succ]
      rw [e, List.length_cons] at hk
      rw [List.getElem?_eq_getElem (by omega)]
      dsimp only
      rw [dd_dig _ _ (List.getElem_mem _)]; rfl
  · have e : l = Lib.decDigits v.toNat := by rw [← h2]; unfold Lib.itoa; rw [if_neg hv]
    have hd : ∀ c ∈ l, isDig c = true := by rw [e]; exact dd_dig _
    exact digs_all (by rw [e]; exact List.length_pos_iff.2 (dd_ne _)) (fun k hk => ok_dig hd hk) _ (Nat.le_refl _)
/-- F2: digits, not too many, none of them a leading nought, tell a number. -/
theorem digs_tell {l : List UInt8} (h : digsTo l l.length = true) (hl : l.length < 18) (hne : l ≠ []) (h0 : 49 ≤ (l.head hne).toNat) : ∃ v, parseF l = some v := by
  have hd : ∀ c ∈ l, isDig c = true := by
    intro c hc
    obtain ⟨k, hk, rfl⟩ := List.getElem_of_mem hc
    have := digs_each _ h k hk
    unfold okAt at this
    rw [List.getElem?_eq_getElem hk] at this
    dsimp only at this
    rw [Bool.or_eq_true] at this
    rcases this with h1 | h1
    · exact h1
    · simp only [Bool.and_eq_true, decide_eq_true_iff] at h1
      obtain ⟨⟨hk0, h45⟩, _⟩ := h1
      subst hk0
      rw [List.head_eq_getElem] at h0
      omega
  obtain ⟨u, p1, p2, _, p4⟩ := dd_back l.length l rfl hne hd (by
    rw [List.head?_eq_some_head hne]
    intro e
    have : (l.head hne).toNat = 48 := by simpa using e
    omega) (by omega)
  have hp : 10 ^ l.length ≤ 10 ^ 18 := Nat.pow_le_pow_right (by decide) (by omega)
  have h18 : (10 : Nat) ^ 18 = 1000000000000000000 := by decide
  refine ⟨(u : Int), ?_⟩
  unfold parseF
  rw [atoi_pos hne hd p1 (by omega)]
  dsimp only
  rw [if_pos (by rw [Lib.itoa_nonneg, p2])]
end Go.Proofs.YtglbhmhkeegpdaaDoor
