/- Plain mathematics: what bytes the sets of words have. -/
import Derived.Test.YtenibhmjcafbiaaGreatDoorRefC
namespace Go.Proofs.YtenibhmjcafbiaaGreatDoor
open Go Go.RowKit
theorem memb_or (a b c d x y z u : Int) (n : Nat) : memb (orr (orr 0 a) x) (orr (orr 0 b) y) (orr (orr 0 c) z) (orr (orr 0 d) u) n = (memb a b c d n || memb x y z u n) := by
  unfold memb
  simp only [V_orr, V0, BitVec.zero_or, BitVec.getLsbD_or]
  split <;> (try rfl)
  split <;> (try rfl)
  split <;> rfl
theorem memb_an (a b c d x y z u : Int) (n : Nat) : memb (an a x) (an b y) (an c z) (an d u) n = (memb a b c d n && memb x y z u n) := by
  unfold memb
  simp only [V_an, BitVec.getLsbD_and]
  split <;> (try rfl)
  split <;> (try rfl)
  split <;> rfl
theorem memb_nt (a b c d : Int) (n : Nat) : memb (nt a) (nt b) (nt c) (nt d) n = !memb a b c d n := by
  have h : decide (n % 64 < 64) = true := by simp; omega
  unfold memb
  simp only [V_nt, BitVec.getLsbD_not, h, Bool.true_and]
  split <;> (try rfl)
  split <;> (try rfl)
  split <;> rfl
theorem word_ext {a x : Int} (fa : Fit a) (fx : Fit x) (h : ∀ i, i < 64 → (V a).getLsbD i = (V x).getLsbD i) : a = x := V_inj fa fx (BitVec.eq_of_getLsbD_eq h)
theorem memb_ext {a b c d x y z u : Int} (fa : Fit a) (fb : Fit b) (fc : Fit c) (fd : Fit d) (fx : Fit x) (fy : Fit y) (fz : Fit z) (fu : Fit u)
    (h : ∀ n, n < 256 → memb a b c d n = memb x y z u n) : a = x ∧ b = y ∧ c = z ∧ d = u := by
  have at_ : ∀ (j i : Nat), i < 64 → (64 * j + i) / 64 = j ∧ (64 * j + i) % 64 = i := by intro j i hi; omega
  refine ⟨word_ext fa fx fun i hi => ?_, word_ext fb fy fun i hi => ?_, word_ext fc fz fun i hi => ?_, word_ext fd fu fun i hi => ?_⟩
  · have := h (64 * 0 + i) (by omega)
    unfold memb at this
    rw [(at_ 0 i hi).1, (at_ 0 i hi).2] at this
    simpa using this
  · have := h (64 * 1 + i) (by omega)
    unfold memb at this
    rw [(at_ 1 i hi).1, (at_ 1 i hi).2] at this
    simpa using this
  · have := h (64 * 2 + i) (by omega)
    unfold memb at this
    rw [(at_ 2 i hi).1, (at_ 2 i hi).2] at this
    simpa using this
  · have := h (64 * 3 + i) (by omega)
    unfold memb at this
    rw [(at_ 3 i hi).1, (at_ 3 i hi).2] at this
    simpa using this
/-- Byte n, folded. -/
def foldf (f : Nat → Bool) (n : Nat) : Bool := f n || (decide (97 ≤ n ∧ n ≤ 122) && f (n - 32)) || (decide (65 ≤ n ∧ n ≤ 90) && f (n + 32))
theorem mask_bits : ∀ i : Fin 64, (134217726#64).getLsbD i.val = decide (1 ≤ i.val ∧ i.val ≤ 26) := by decide
theorem memb_fo (a b c d : Int) (hb : Fit b) (n : Nat) : memb a (fo b) c d n = foldf (memb a b c d) n := by
  by_cases h1 : n / 64 = 1
  · have hm : n % 64 < 64 := by omega
    unfold foldf
    have e0 : memb a (fo b) c d n = (V (fo b)).getLsbD (n % 64) := by unfold memb; simp [h1]
    have e1 : memb a b c d n = (V b).getLsbD (n % 64) := by unfold memb; simp [h1]
    rw [e0, e1, V_fo b hb]
    simp only [BitVec.getLsbD_or, BitVec.getLsbD_and, BitVec.getLsbD_shiftLeft, BitVec.getLsbD_ushiftRight]
    have k1 := mask_bits ⟨n % 64, hm⟩
    simp only at k1
    rw [k1]
    by_cases hs : 97 ≤ n ∧ n ≤ 122
    · have q1 : (n - 32) / 64 = 1 := by omega
      have q2 : (n - 32) % 64 = n % 64 - 32 := by omega
      have e2 : memb a b c d (n - 32) = (V b).getLsbD (n % 64 - 32) := by unfold memb; simp [q1, q2]
      have k2 := mask_bits ⟨n % 64 - 32, by omega⟩
      simp only at k2
      rw [e2, k2]
      have d1 : decide (n % 64 < 64) = true := by simp [hm]
      have d2 : decide (n % 64 < 32) = false := by simp; omega
      have d3 : decide (1 ≤ n % 64 - 32 ∧ n % 64 - 32 ≤ 26) = true := by simp; omega
      have d4 : decide (1 ≤ n % 64 ∧ n % 64 ≤ 26) = false := by simp; omega
      have d5 : decide (97 ≤ n ∧ n ≤ 122) = true := by simp; omega
      have d6 : decide (65 ≤ n ∧ n ≤ 90) = false := by simp; omega
      rw [d1, d2, d3, d4, d5, d6]
      simp
    · by_cases hl : 65 ≤ n ∧ n ≤ 90
      · have q1 : (n + 32) / 64 = 1 := by omega
        have q2 : (n + 32) % 64 = 32 + n % 64 := by omega
        have e2 : memb a b c d (n + 32) = (V b).getLsbD (32 + n % 64) := by unfold memb; simp [q1, q2]
        rw [e2]
        have d2 : decide (n % 64 < 32) = true := by simp; omega
        have d4 : decide (1 ≤ n % 64 ∧ n % 64 ≤ 26) = true := by simp; omega
        have d5 : decide (97 ≤ n ∧ n ≤ 122) = false := by simp; omega
        have d6 : decide (65 ≤ n ∧ n ≤ 90) = true := by simp; omega
        rw [d2, d4, d5, d6]
        simp
      · have d5 : decide (97 ≤ n ∧ n ≤ 122) = false := by simp; omega
        have d6 : decide (65 ≤ n ∧ n ≤ 90) = false := by simp; omega
        have d4 : decide (1 ≤ n % 64 ∧ n % 64 ≤ 26) = false := by simp; omega
        rw [d5, d6, d4]
        by_cases h32 : n % 64 < 32
        · simp [h32]
        · have k2 := mask_bits ⟨n % 64 - 32, by omega⟩
          simp only at k2
          have d3 : decide (1 ≤ n % 64 - 32 ∧ n % 64 - 32 ≤ 26) = false := by simp; omega
          rw [k2, d3]
          simp
  · have d5 : decide (97 ≤ n ∧ n ≤ 122) = false := by simp; omega
    have d6 : decide (65 ≤ n ∧ n ≤ 90) = false := by simp; omega
    unfold foldf
    rw [d5, d6]
    unfold memb
    simp [h1]
end Go.Proofs.YtenibhmjcafbiaaGreatDoor
