/- Contracts of the document's own answers on sets, continued: Make. -/
import Derived.Test.YtenibhmjcafbiaaGreatDoorRefB
namespace Go.Proofs.YtenibhmjcafbiaaGreatDoor
open Go Go.RowKit
attribute [local go_sem ↓] Go.wp_at_zero Go.wp_at_succ
attribute [local go_sem] eq4
/-- The word in which bit k alone is set. -/
def bitn (k : Nat) : Int := IntKind.u64.wrap (2 ^ (k % 64))
theorem bitn_eq (k : Nat) : bitn k = ((1#64 <<< (k % 64)).toNat : Int) := by
  unfold bitn
  have h : k % 64 < 64 := by omega
  have e : ((2 : Int) ^ (k % 64)) = ((2 ^ (k % 64) : Nat) : Int) := by simp
  have l : 2 ^ (k % 64) < 18446744073709551616 := Nat.lt_of_lt_of_le (Nat.pow_lt_pow_right (by decide) h) (by decide)
  rw [e, Pop.wrap64u _ l, BitVec.toNat_shiftLeft, Nat.shiftLeft_eq]
  simp only [BitVec.toNat_ofNat]
  omega
theorem V_bitn (k i : Nat) (hi : i < 64) : (V (bitn k)).getLsbD i = decide (i = k % 64) := by
  rw [bitn_eq, V_nat]
  simp only [BitVec.getLsbD_shiftLeft, BitVec.getLsbD_one]
  by_cases h : i = k % 64
  · subst h; simp [hi]
  · by_cases h2 : i < k % 64
    · simp [h2, h]
    · have : ¬ i - k % 64 = 0 := by omega
      simp [h, this]
theorem orr_bit (r : Int) (k i : Nat) (hi : i < 64) : (V (orr r (bitn k))).getLsbD i = ((V r).getLsbD i || decide (i = k % 64)) := by
  rw [V_orr, BitVec.getLsbD_or, V_bitn k i hi]
theorem memb_up (r0 r1 r2 r3 : Int) (k n : Nat) (hk : k < 256) (hn : n < 256) :
    (k / 64 = 0 → memb (orr r0 (bitn k)) r1 r2 r3 n = (memb r0 r1 r2 r3 n || decide (n = k))) ∧
    (k / 64 = 1 → memb r0 (orr r1 (bitn k)) r2 r3 n = (memb r0 r1 r2 r3 n || decide (n = k))) ∧
    (k / 64 = 2 → memb r0 r1 (orr r2 (bitn k)) r3 n = (memb r0 r1 r2 r3 n || decide (n = k))) ∧
    (k / 64 = 3 → memb r0 r1 r2 (orr r3 (bitn k)) n = (memb r0 r1 r2 r3 n || decide (n = k))) := by
  have hm : n % 64 < 64 := by omega
  have key : ∀ j, k / 64 = j → (n / 64 = j → decide (n % 64 = k % 64) = decide (n = k)) ∧ (n / 64 ≠ j → decide (n = k) = false) := by
    intro j hj
    refine ⟨fun h => ?_, fun h => ?_⟩
    · by_cases e : n = k
      · subst e; simp
      · have : ¬ n % 64 = k % 64 := by omega
        simp [e, this]
    · have : ¬ n = k := by intro e; subst e; exact h hj
      simp [this]
  unfold memb
  refine ⟨fun h => ?_, fun h => ?_, fun h => ?_, fun h => ?_⟩
  all_goals
    obtain ⟨k1, k2⟩ := key _ h
    have hq : n / 64 = 0 ∨ n / 64 = 1 ∨ n / 64 = 2 ∨ n / 64 = 3 := by omega
    rcases hq with hq | hq | hq | hq
    all_goals
      simp only [hq] at k1 k2 ⊢
      simp [orr_bit _ k _ hm] at k1 k2 ⊢
      first | (rw [k2]; simp) | (rw [k1]) | simp [k1] | simp [k2]
/-- A set that has of the first 256 bytes just those of f. -/
def IsMade (w : World) (f : Nat → Bool) (e : Ending) (w' : World) : Prop :=
  ∃ r0 r1 r2 r3, e = .returned (.agg #[.int .u64 r0, .int .u64 r1, .int .u64 r2, .int .u64 r3]) ∧ Fit r0 ∧ Fit r1 ∧ Fit r2 ∧ Fit r3 ∧ (∀ n, n < 256 → memb r0 r1 r2 r3 n = f n) ∧ Below w.heap.size w w'
/-- What holds at the head of round k of Make. -/
def MRel (w : World) (f : Nat → Bool) (k : Nat) (wr : World) : Prop :=
  ∃ r0 r1 r2 r3, Fit r0 ∧ Fit r1 ∧ Fit r2 ∧ Fit r3 ∧ (∀ n, n < 256 → memb r0 r1 r2 r3 n = (decide (n < k) && f n)) ∧
    wr.heap[w.heap.size + 1]? = some (.cells #[.int .u64 r0, .int .u64 r1, .int .u64 r2, .int .u64 r3] 34) ∧ wr.heap[w.heap.size]? = some (.cells #[.int .u64 0, .int .u64 0, .int .u64 0, .int .u64 0] 34) ∧ Below w.heap.size w wr
theorem memb_zero (n : Nat) : memb 0 0 0 0 n = false := by
  unfold memb; simp [V0]
theorem bound_lt (k : Nat) (_ : k < 256) : ((k : Int) / 64) = ((k / 64 : Nat) : Int) := by omega
theorem upto_step (f : Nat → Bool) (n k : Nat) (hf : f k = true) : (decide (n < k) && f n || decide (n = k)) = (decide (n < k + 1) && f n) := by
  by_cases e : n = k
  · subst e; simp [hf]
  · have : decide (n < k + 1) = decide (n < k) := by
      by_cases h : n < k
      · simp [h]; omega
      · simp [h]; omega
    rw [this]; simp [e]
end Go.Proofs.YtenibhmjcafbiaaGreatDoor
