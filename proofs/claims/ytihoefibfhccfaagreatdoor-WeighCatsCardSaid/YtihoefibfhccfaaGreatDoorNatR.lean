/- The document's own sums and products of two. -/
import Derived.Test.YtihoefibfhccfaaGreatDoorNatA
namespace Go.Proofs.YtihoefibfhccfaaGreatDoor
open Go Go.RowKit
theorem ti_comm (a b : Int) : ti a b = ti b a := by unfold ti; rw [Int.mul_comm]
theorem pl_eqR (a b : Int) : pl a b = if (if a ≤ 0 then 0 else a) + (if b ≤ 0 then 0 else b) ≤ 9223372036854775807 then (if a ≤ 0 then 0 else a) + (if b ≤ 0 then 0 else b) else 9223372036854775807 := rfl
theorem pl_addR {a b r : Int} (h : (a < 0 ∧ b < 0 ∧ r = 0) ∨ (a < 0 ∧ 0 ≤ b ∧ b ≤ 9223372036854775807 ∧ r = b) ∨ (b < 0 ∧ 0 ≤ a ∧ a ≤ 9223372036854775807 ∧ r = a) ∨ (0 ≤ a ∧ 0 ≤ b ∧ a + b ≤ 9223372036854775807 ∧ r = a + b) ∨ (0 ≤ a ∧ 0 ≤ b ∧ 9223372036854775807 < a + b ∧ r = 9223372036854775807)) : pl a b = r := by
  rw [pl_eqR]
  split <;> split <;> split <;> omega
theorem ret64R {a b : Int} (h : a = b) : Ending.returned (.int .i64 a) = .returned (.int .i64 b) := by rw [h]
set_option maxHeartbeats 1000000 in
theorem refadd_any (a b : Int) (w : World) (ha : a ≤ top) (hb : b ≤ top) :
    Calls Tryz.prog 18 #[.int .i64 a, .int .i64 b] w fun e w' => e = .returned (.int .i64 (pl a b)) ∧ w = w' := by
  unfold top at ha hb
  by_cases pa : 0 ≤ a
  all_goals by_cases pb : 0 ≤ b
  all_goals
    go_enter Tryz.func18, Tryz.ntmps18
    go_wp2
    all_goals
      go_ret
      exact ⟨ret64R (pl_addR (by omega)).symm, rfl⟩
theorem ti_zero_lR {a b : Int} (h : a ≤ 0) : ti a b = 0 := by
  unfold ti; have : cnt a = 0 := by unfold cnt; rw [if_pos h]
  rw [this]; simp [sat, top]
theorem ti_zero_rrR {a b : Int} (h : b ≤ 0) : ti a b = 0 := by rw [ti_comm]; exact ti_zero_lR h
theorem ti_mulR {a b : Int} (ha : 0 ≤ a) (hb : 0 ≤ b) (h : a * b ≤ 9223372036854775807) : ti a b = a * b := by
  unfold ti; rw [cnt_of ha, cnt_of hb, sat_self h]
theorem ti_overR {a b : Int} (ha : 0 ≤ a) (hb : 0 ≤ b) (h : 9223372036854775807 ≤ a * b) : ti a b = 9223372036854775807 := by
  unfold ti; rw [cnt_of ha, cnt_of hb, sat_top h]; rfl
set_option maxHeartbeats 1000000 in
theorem refmul_any (a b : Int) (w : World) (ha : a ≤ top) (hb : b ≤ top) :
    Calls Tryz.prog 17 #[.int .i64 a, .int .i64 b] w fun e w' => e = .returned (.int .i64 (ti a b)) ∧ w = w' := by
  unfold top at ha hb
  rcases Int.lt_trichotomy a 0 with pa | rfl | pa
  all_goals rcases Int.lt_trichotomy b 0 with pb | rfl | pb
  case inr.inr.inr.inr =>
    have hq := Int.le_ediv_iff_mul_le (a := a) (b := 9223372036854775807) pb
    have hm := Int.mul_nonneg (Int.le_of_lt pa) (Int.le_of_lt pb)
    have hd : 0 ≤ 9223372036854775807 / b := Int.ediv_nonneg (by omega) (by omega)
    have hd2 : 9223372036854775807 / b ≤ 9223372036854775807 := Int.ediv_le_self _ (by omega)
    have ea : (a == 0) = false := by simp; omega
    have eb : (b == 0) = false := by simp; omega
    by_cases h : a * b ≤ 9223372036854775807
    · have hr := hq.2 h
      have HT := nhid (ti_mulR (Int.le_of_lt pa) (Int.le_of_lt pb) h)
      clear hq
      go_enter Tryz.func17, Tryz.ntmps17
      go_wp2
      go_ret
      exact ⟨ret64R HT.out.symm, rfl⟩
    · have hr : 9223372036854775807 / b < a := by omega
      have HT := nhid (ti_overR (Int.le_of_lt pa) (Int.le_of_lt pb) (by omega : 9223372036854775807 ≤ a * b))
      clear hq h
      go_enter Tryz.func17, Tryz.ntmps17
      go_wp2
      go_ret
      exact ⟨ret64R HT.out.symm, rfl⟩
  all_goals
    go_enter Tryz.func17, Tryz.ntmps17
    go_wp2
    all_goals
      go_ret
      exact ⟨ret64R (by first | rw [ti_zero_lR (by omega)] | rw [ti_zero_rrR (by omega)]), rfl⟩
end Go.Proofs.YtihoefibfhccfaaGreatDoor
