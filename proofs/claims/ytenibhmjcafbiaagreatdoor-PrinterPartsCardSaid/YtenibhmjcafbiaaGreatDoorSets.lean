/- Plain mathematics on sets of bytes as four words. -/
import Derived.Test.YtenibhmjcafbiaaGreatDoorBytesE
namespace Go.Proofs.YtenibhmjcafbiaaGreatDoor
open Go Go.RowKit
theorem fit0 : Fit 0 := by unfold Fit; omega
theorem V0 : V 0 = 0#64 := by decide
theorem zero_or (a : Int) (h : Fit a) : orr 0 a = a := V_inj (orr_fit _ _) h (by rw [V_orr, V0, BitVec.zero_or])
theorem an_self (a : Int) (h : Fit a) : an a a = a := V_inj (an_fit _ _) h (by rw [V_an, BitVec.and_self])
theorem or_comm' (a b : Int) : orr a b = orr b a := V_inj (orr_fit _ _) (orr_fit _ _) (by rw [V_orr, V_orr, BitVec.or_comm])
theorem an_comm' (a b : Int) : an a b = an b a := V_inj (an_fit _ _) (an_fit _ _) (by rw [V_an, V_an, BitVec.and_comm])
theorem or_zero_comm (a b : Int) : orr (orr 0 a) b = orr (orr 0 b) a := V_inj (orr_fit _ _) (orr_fit _ _) (by
  simp only [V_orr, V0, BitVec.zero_or]; exact BitVec.or_comm _ _)
theorem an_or_self (a b : Int) (h : Fit a) : an a (orr (orr 0 a) b) = a := V_inj (an_fit _ _) h (by
  simp only [V_an, V_orr, V0, BitVec.zero_or]
  apply BitVec.eq_of_getLsbD_eq; intro i hi; simp; intro h'; simp [h'])
theorem or_an_self (a b : Int) (h : Fit a) : orr (orr 0 a) (an a b) = a := V_inj (orr_fit _ _) h (by
  simp only [V_an, V_orr, V0, BitVec.zero_or]
  apply BitVec.eq_of_getLsbD_eq; intro i hi; simp; intro h' _; exact h')
theorem an_or_dist (a b c : Int) : an a (orr (orr 0 b) c) = orr (orr 0 (an a b)) (an a c) := V_inj (an_fit _ _) (orr_fit _ _) (by
  simp only [V_an, V_orr, V0, BitVec.zero_or]
  apply BitVec.eq_of_getLsbD_eq; intro i hi; simp
  cases (V a).getLsbD i <;> simp)
theorem nt_or (a b : Int) : nt (orr (orr 0 a) b) = an (nt a) (nt b) := V_inj (nt_fit _) (an_fit _ _) (by
  simp only [V_an, V_orr, V_nt, V0, BitVec.zero_or]
  apply BitVec.eq_of_getLsbD_eq; intro i hi; simp [hi])
theorem fo_or (a b : Int) (ha : Fit a) (hb : Fit b) : fo (orr (orr 0 a) b) = orr (orr 0 (fo a)) (fo b) := V_inj (fo_fit _ (orr_fit _ _)) (orr_fit _ _) (by
  rw [V_fo _ (orr_fit _ _), V_orr, V_orr, V_orr, V_orr, V_fo a ha, V_fo b hb, V0, BitVec.zero_or, BitVec.zero_or]
  apply BitVec.eq_of_getLsbD_eq
  intro i hi
  simp only [BitVec.getLsbD_or, BitVec.getLsbD_and, BitVec.getLsbD_shiftLeft, BitVec.getLsbD_ushiftRight]
  generalize (V a).getLsbD i = A
  generalize (V b).getLsbD i = B
  generalize (V a).getLsbD (i - 32) = A1
  generalize (V b).getLsbD (i - 32) = B1
  generalize (V a).getLsbD (32 + i) = A2
  generalize (V b).getLsbD (32 + i) = B2
  generalize (134217726#64).getLsbD (i - 32) = M1
  generalize (134217726#64).getLsbD i = M2
  generalize decide (i < 64) = D
  generalize decide (i < 32) = E
  clear hi
  cases A <;> cases B <;> cases A1 <;> cases B1 <;> cases A2 <;> cases B2 <;> cases M1 <;> cases M2 <;> cases D <;> cases E <;> rfl)
theorem an_fo (a : Int) (ha : Fit a) : an a (fo a) = a := V_inj (an_fit _ _) ha (by
  rw [V_an, V_fo a ha]
  apply BitVec.eq_of_getLsbD_eq; intro i hi
  simp only [BitVec.getLsbD_or, BitVec.getLsbD_and]
  cases (V a).getLsbD i <;> simp)
theorem fo_fo (a : Int) (ha : Fit a) : fo (fo a) = fo a := V_inj (fo_fit _ (fo_fit _ ha)) (fo_fit _ ha) (by
  rw [V_fo _ (fo_fit _ ha), V_fo a ha]
  apply BitVec.eq_of_getLsbD_eq; intro i hi
  simp only [BitVec.getLsbD_or, BitVec.getLsbD_and, BitVec.getLsbD_shiftLeft, BitVec.getLsbD_ushiftRight]
  have m1 : i < 32 → (134217726#64).getLsbD (32 + i) = false := by
    intro h; rw [show (134217726#64).getLsbD (32 + i) = Nat.testBit 134217726 (32 + i) from by simp [BitVec.getLsbD]]
    exact Nat.testBit_lt_two_pow (Nat.lt_of_lt_of_le (by decide : 134217726 < 2 ^ 32) (Nat.pow_le_pow_right (by decide) (by omega)))
  have m2 : 32 ≤ i → (134217726#64).getLsbD i = false := by
    intro h; rw [show (134217726#64).getLsbD i = Nat.testBit 134217726 i from by simp [BitVec.getLsbD]]
    exact Nat.testBit_lt_two_pow (Nat.lt_of_lt_of_le (by decide : 134217726 < 2 ^ 32) (Nat.pow_le_pow_right (by decide) h))
  by_cases h32 : i < 32
  · have e1 : 32 + i - 32 = i := by omega
    have d1 : decide (i < 32) = true := by simp [h32]
    have d2 : decide (32 + i < 64) = true := by simp; omega
    have d3 : decide (32 + i < 32) = false := by simp
    have m := m1 h32
    rw [e1, d1, d2, d3, m]
    generalize (V a).getLsbD i = A
    generalize (V a).getLsbD (32 + i) = B
    generalize (134217726#64).getLsbD i = M
    generalize decide (i < 64) = D
    simp only [Bool.not_true, Bool.and_false, Bool.false_and, Bool.false_or, Bool.or_false, Bool.not_false, Bool.and_true, Bool.true_and]
    clear m m1 m2 d1 d2 d3 e1 hi h32
    generalize (V a).getLsbD (i - 32) = C1
    generalize (134217726#64).getLsbD (i - 32) = C2
    generalize (V a).getLsbD (32 + (32 + i)) = C3
    cases A <;> cases B <;> cases M <;> cases D <;> cases C1 <;> cases C2 <;> cases C3 <;> rfl
  · have h' : 32 ≤ i := by omega
    have e1 : 32 + (i - 32) = i := by omega
    have d1 : decide (i < 32) = false := by simp; omega
    have d2 : decide (i < 64) = true := by simp [hi]
    have d3 : decide (i - 32 < 32) = true := by simp; omega
    have m := m2 h'
    rw [e1, d1, d2, d3, m]
    clear m m1 m2 d1 d2 d3 e1 hi h32 h'
    generalize (V a).getLsbD i = A
    generalize (V a).getLsbD (i - 32) = B
    generalize (134217726#64).getLsbD (i - 32) = M
    simp only [Bool.not_true, Bool.and_false, Bool.false_and, Bool.false_or, Bool.or_false, Bool.not_false, Bool.and_true, Bool.true_and]
    cases A <;> cases B <;> cases M <;> rfl)
/-- A bit of a word, as the program asks for it. -/
theorem hs_bit (a k : Int) (ha : Fit a) : hs a k = (V a).getLsbD (k % 64).toNat := by
  unfold hs
  obtain ⟨A, rfl⟩ := Int.eq_ofNat_of_zero_le ha.1
  have hA : A < 18446744073709551616 := by have := ha.2; omega
  generalize (k % 64).toNat = n
  have e : ((A : Int) / 2 ^ n) = ((A / 2 ^ n : Nat) : Int) := by simp
  have hd : A / 2 ^ n < 18446744073709551616 := Nat.lt_of_le_of_lt (Nat.div_le_self _ _) hA
  have e2 : bits .and .u64 ((A / 2 ^ n : Nat) : Int) 1 = ((A / 2 ^ n &&& 1 : Nat) : Int) := Pop.and64_nat _ 1 hd (by omega)
  rw [e, e2]
  have e3 : (V (A : Int)).getLsbD n = A.testBit n := by
    unfold V; rw [BitVec.ofInt_natCast, BitVec.getLsbD_ofNat]
    by_cases h : n < 64
    · simp [h]
    · simp only [h, decide_false, Bool.false_and]
      symm; exact Nat.testBit_lt_two_pow (Nat.lt_of_lt_of_le (show A < 2 ^ 64 by omega) (Nat.pow_le_pow_right (by decide) (by omega)))
  rw [e3, Nat.testBit_eq_decide_div_mod_eq, Nat.and_one_is_mod]
  by_cases h : A / 2 ^ n % 2 = 1
  · simp [h]
  · have : A / 2 ^ n % 2 = 0 := by omega
    simp [this]
theorem mask_on : ∀ t : Fin 26, (134217726#64).getLsbD (1 + t.val) = true ∧ (134217726#64).getLsbD (33 + t.val) = false := by decide
theorem bit_small (b : Int) (hb : Fit b) (t : Nat) (h : t < 26) : (V (fo b)).getLsbD (33 + t) = ((V b).getLsbD (33 + t) || (V b).getLsbD (1 + t)) ∧ (V (fo b)).getLsbD (1 + t) = ((V b).getLsbD (33 + t) || (V b).getLsbD (1 + t)) := by
  obtain ⟨m1, m2⟩ := mask_on ⟨t, h⟩
  simp only at m1 m2
  rw [V_fo b hb]
  simp only [BitVec.getLsbD_or, BitVec.getLsbD_and, BitVec.getLsbD_shiftLeft, BitVec.getLsbD_ushiftRight]
  have e1 : 33 + t - 32 = 1 + t := by omega
  have e2 : 32 + (1 + t) = 33 + t := by omega
  have d1 : decide (33 + t < 64) = true := by simp; omega
  have d2 : decide (33 + t < 32) = false := by simp; omega
  have d3 : decide (1 + t < 32) = true := by simp; omega
  rw [e1, e2, d1, d2, d3, m1, m2]
  generalize (V b).getLsbD (33 + t) = A
  generalize (V b).getLsbD (1 + t) = B
  cases A <;> cases B <;> simp
theorem hs_at (a : Int) (ha : Fit a) (k : Int) (n : Nat) (h : k % 64 = (n : Int)) : hs a k = (V a).getLsbD n := by
  rw [hs_bit a k ha, h, Int.toNat_natCast]
theorem has_fo (a b c d t : Int) (h0 : 0 ≤ t) (h1 : t < 26) (hb : Fit b) :
    hasW a (fo b) c d (97 + t) = (hasW a b c d (97 + t) || hasW a b c d (97 + t - 32)) ∧ hasW a (fo b) c d (97 + t - 32) = (hasW a b c d (97 + t) || hasW a b c d (97 + t - 32)) := by
  obtain ⟨T, rfl⟩ := Int.eq_ofNat_of_zero_le h0
  have q1 : (97 + (T : Int)) / 64 = 1 := by omega
  have q2 : (97 + (T : Int) - 32) / 64 = 1 := by omega
  have r1 : (97 + (T : Int)) % 64 = ((33 + T : Nat) : Int) := by omega
  have r2 : (97 + (T : Int) - 32) % 64 = ((1 + T : Nat) : Int) := by omega
  have n1 : ¬ ((1 : Int) = 0) := by omega
  unfold hasW
  simp only [q1, q2, n1, if_false, if_true]
  rw [hs_at _ (fo_fit b hb) _ _ r1, hs_at _ (fo_fit b hb) _ _ r2, hs_at _ hb _ _ r1, hs_at _ hb _ _ r2]
  exact bit_small b hb T (by omega)
end Go.Proofs.YtenibhmjcafbiaaGreatDoor
