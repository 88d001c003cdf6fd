/- Contracts, continued: the document's own answers, sums and products of two and three, and the document's example. -/
import Derived.Test.YtcpdobldconnaaaNatA
namespace Go.Proofs.Ytcpdobldconnaaa
open Go Go.RowKit
theorem pl_eq (a b : Int) : pl a b = if (if a ≤ 0 then 0 else a) + (if b ≤ 0 then 0 else b) ≤ 9223372036854775807 then (if a ≤ 0 then 0 else a) + (if b ≤ 0 then 0 else b) else 9223372036854775807 := rfl
theorem pl_add {a b r : Int} (h : (a < 0 ∧ b < 0 ∧ r = 0) ∨ (a < 0 ∧ 0 ≤ b ∧ b ≤ 9223372036854775807 ∧ r = b) ∨ (b < 0 ∧ 0 ≤ a ∧ a ≤ 9223372036854775807 ∧ r = a) ∨ (0 ≤ a ∧ 0 ≤ b ∧ a + b ≤ 9223372036854775807 ∧ r = a + b) ∨ (0 ≤ a ∧ 0 ≤ b ∧ 9223372036854775807 < a + b ∧ r = 9223372036854775807)) : pl a b = r := by
  rw [pl_eq]
  split <;> split <;> split <;> omega
theorem ret64 {a b : Int} (h : a = b) : Ending.returned (.int .i64 a) = .returned (.int .i64 b) := by rw [h]
set_option maxHeartbeats 1000000 in
theorem refadd_any (a b : Int) (w : World) (ha : a ≤ top) (hb : b ≤ top) :
    Calls Try.prog 26 #[.int .i64 a, .int .i64 b] w fun e w' => e = .returned (.int .i64 (pl a b)) ∧ w = w' := by
  unfold top at ha hb
  by_cases pa : 0 ≤ a
  all_goals by_cases pb : 0 ≤ b
  all_goals
    go_enter Try.func26, Try.ntmps26
    go_wp2
    all_goals
      go_ret
      exact ⟨ret64 (pl_add (by omega)).symm, rfl⟩
theorem ti_zero_l {a b : Int} (h : a ≤ 0) : ti a b = 0 := by
  unfold ti; have : cnt a = 0 := by unfold cnt; rw [if_pos h]
  rw [this]; simp [sat, top]
theorem ti_zero_r {a b : Int} (h : b ≤ 0) : ti a b = 0 := by rw [ti_comm]; exact ti_zero_l h
theorem ti_mul {a b : Int} (ha : 0 ≤ a) (hb : 0 ≤ b) (h : a * b ≤ 9223372036854775807) : ti a b = a * b := by
  unfold ti; rw [cnt_of ha, cnt_of hb, sat_self h]
theorem ti_over {a b : Int} (ha : 0 ≤ a) (hb : 0 ≤ b) (h : 9223372036854775807 ≤ a * b) : ti a b = 9223372036854775807 := by
  unfold ti; rw [cnt_of ha, cnt_of hb, sat_top h]; rfl
set_option maxHeartbeats 1000000 in
theorem refmul_any (a b : Int) (w : World) (ha : a ≤ top) (hb : b ≤ top) :
    Calls Try.prog 27 #[.int .i64 a, .int .i64 b] w fun e w' => e = .returned (.int .i64 (ti a b)) ∧ w = w' := by
  unfold top at ha hb
  rcases Int.lt_trichotomy a 0 with pa | rfl | pa
  all_goals rcases Int.lt_trichotomy b 0 with pb | rfl | pb
  case inr.inr.inr.inr =>
    have hq := Int.le_ediv_iff_mul_le (a := a) (b := 9223372036854775807) pb
    have hm := Int.mul_nonneg (Int.le_of_lt pa) (Int.le_of_lt pb)
    have hd : 0 ≤ 9223372036854775807 / b := Int.ediv_nonneg (by omega) (by omega)
    have hd2 : 9223372036854775807 / b ≤ 9223372036854775807 := Int.ediv_le_self _ (by omega)
    have ea : (a == 0) = false := by simp; omega
    have eb : (b == 0) = false := by simp; omega
    by_cases h : a * b ≤ 9223372036854775807
    · have hr := hq.2 h
      have HT := nhid (ti_mul (Int.le_of_lt pa) (Int.le_of_lt pb) h)
      clear hq
      go_enter Try.func27, Try.ntmps27
      go_wp2
      go_ret
      exact ⟨ret64 HT.out.symm, rfl⟩
    · have hr : 9223372036854775807 / b < a := by omega
      have HT := nhid (ti_over (Int.le_of_lt pa) (Int.le_of_lt pb) (by omega : 9223372036854775807 ≤ a * b))
      clear hq h
      go_enter Try.func27, Try.ntmps27
      go_wp2
      go_ret
      exact ⟨ret64 HT.out.symm, rfl⟩
  all_goals
    go_enter Try.func27, Try.ntmps27
    go_wp2
    all_goals
      go_ret
      exact ⟨ret64 (by first | rw [ti_zero_l (by omega)] | rw [ti_zero_r (by omega)]), rfl⟩
def two (a b : Int) : Nat → Int := fun j => if j = 0 then a else b
def three (a b c : Int) : Nat → Int := fun j => if j = 0 then a else if j = 1 then b else c
theorem pl_one_l (a b : Int) (ha : a ≤ top) : pl (pl 0 a) b = pl a b := by
  unfold pl
  rw [show cnt (0 : Int) = 0 from rfl]
  simp only [Int.zero_add]
  rw [sat_self (cnt_le a ha), cnt_of (cnt_nn a)]
theorem add2 (g cap : Nat) (a b : Int) (w : World) (ha : a ≤ top) (hb : b ≤ top) (h0 : w.cell? ⟨g, 0, none⟩ = some (.int .i64 a)) (h1 : w.cell? ⟨g, 1, none⟩ = some (.int .i64 b)) :
    Calls Try.prog 28 #[.slice (some ⟨g, 0, none⟩) 2 cap] w fun e w' => e = .returned (.int .i64 (pl a b)) ∧ w = w' := by
  refine (add_any g 0 2 cap (two a b) w (by omega) (fun j hj => ?_) (fun j hj => ?_)).mono fun e w' ⟨he, hw⟩ => ⟨he.trans (ret64 (pl_one_l a b ha)), hw⟩
  · match j, hj with
    | 0, _ => exact ha
    | 1, _ => exact hb
  · match j, hj with
    | 0, _ => exact h0
    | 1, _ => exact h1
theorem add3 (g cap : Nat) (a b c : Int) (w : World) (ha : a ≤ top) (hb : b ≤ top) (hc : c ≤ top) (h0 : w.cell? ⟨g, 0, none⟩ = some (.int .i64 a)) (h1 : w.cell? ⟨g, 1, none⟩ = some (.int .i64 b)) (h2 : w.cell? ⟨g, 2, none⟩ = some (.int .i64 c)) :
    Calls Try.prog 28 #[.slice (some ⟨g, 0, none⟩) 3 cap] w fun e w' => e = .returned (.int .i64 (pl (pl a b) c)) ∧ w = w' := by
  refine (add_any g 0 3 cap (three a b c) w (by omega) (fun j hj => ?_) (fun j hj => ?_)).mono fun e w' ⟨he, hw⟩ => ⟨he.trans (ret64 (congrArg (fun x => pl x c) (pl_one_l a b ha))), hw⟩
  · match j, hj with
    | 0, _ => exact ha
    | 1, _ => exact hb
    | 2, _ => exact hc
  · match j, hj with
    | 0, _ => exact h0
    | 1, _ => exact h1
    | 2, _ => exact h2
theorem ti_one_l (a b : Int) (ha : a ≤ top) : ti (ti 1 a) b = ti a b := by
  unfold ti
  rw [show cnt (1 : Int) = 1 from rfl]
  simp only [Int.one_mul]
  rw [sat_self (cnt_le a ha), cnt_of (cnt_nn a)]
theorem mul2 (g cap : Nat) (a b : Int) (w : World) (ha : a ≤ top) (hb : b ≤ top) (h0 : w.cell? ⟨g, 0, none⟩ = some (.int .i64 a)) (h1 : w.cell? ⟨g, 1, none⟩ = some (.int .i64 b)) :
    Calls Try.prog 30 #[.slice (some ⟨g, 0, none⟩) 2 cap] w fun e w' => e = .returned (.int .i64 (ti a b)) ∧ w = w' := by
  refine (mul_any g 0 2 cap (two a b) w (by omega) (fun j hj => ?_) (fun j hj => ?_)).mono fun e w' ⟨he, hw⟩ => ⟨he.trans (ret64 (ti_one_l a b ha)), hw⟩
  · match j, hj with
    | 0, _ => exact ha
    | 1, _ => exact hb
  · match j, hj with
    | 0, _ => exact h0
    | 1, _ => exact h1
theorem mul3 (g cap : Nat) (a b c : Int) (w : World) (ha : a ≤ top) (hb : b ≤ top) (hc : c ≤ top) (h0 : w.cell? ⟨g, 0, none⟩ = some (.int .i64 a)) (h1 : w.cell? ⟨g, 1, none⟩ = some (.int .i64 b)) (h2 : w.cell? ⟨g, 2, none⟩ = some (.int .i64 c)) :
    Calls Try.prog 30 #[.slice (some ⟨g, 0, none⟩) 3 cap] w fun e w' => e = .returned (.int .i64 (ti (ti a b) c)) ∧ w = w' := by
  refine (mul_any g 0 3 cap (three a b c) w (by omega) (fun j hj => ?_) (fun j hj => ?_)).mono fun e w' ⟨he, hw⟩ => ⟨he.trans (ret64 (congrArg (fun x => ti x c) (ti_one_l a b ha))), hw⟩
  · match j, hj with
    | 0, _ => exact ha
    | 1, _ => exact hb
    | 2, _ => exact hc
  · match j, hj with
    | 0, _ => exact h0
    | 1, _ => exact h1
    | 2, _ => exact h2
theorem full_yes (w : World) : Calls Try.prog 34 #[.int .i64 9223372036854775807] w fun e w' => e = .returned (.bool true) ∧ w = w' := by
  go_enter Try.func34, Try.ntmps34
  go_wp2
  go_ret
  exact ⟨rfl, rfl⟩
def fullB (n : Int) : Bool := n == 9223372036854775807
theorem full_any (n : Int) (w : World) : Calls Try.prog 34 #[.int .i64 n] w fun e w' => e = .returned (.bool (fullB n)) ∧ w = w' := by
  go_enter Try.func34, Try.ntmps34
  go_wp2
  go_ret
  exact ⟨rfl, rfl⟩
theorem ex1 : pl 4611686018427387904 4611686018427387904 = 9223372036854775807 := by decide +kernel
theorem ex2 : pl 2 3 = 5 := by decide +kernel
theorem ex3 : ti 4294967296 2147483648 = 9223372036854775807 := by decide +kernel
set_option maxHeartbeats 1000000 in
theorem nawake_any (w : World) :
    Calls Try.prog 25 #[] w fun e w' => e = .returned (.bool true) ∧ Below w.heap.size w w' := by
  go_enter Try.func25, Try.ntmps25
  go_wp2_with fail
  refine (add2 _ _ 4611686018427387904 4611686018427387904 _ (by unfold top; omega) (by unfold top; omega) (by simp [go_sem]) (by simp [go_sem])).mono ?_
  rintro e w1 ⟨rfl, rfl⟩
  rw [ex1]
  go_wp2_with fail
  refine (full_yes _).mono ?_
  rintro e w1 ⟨rfl, rfl⟩
  go_wp2_with fail
  refine (add2 _ _ 2 3 _ (by unfold top; omega) (by unfold top; omega) (by simp [go_sem]) (by simp [go_sem])).mono ?_
  rintro e w1 ⟨rfl, rfl⟩
  rw [ex2]
  go_wp2_with fail
  refine (mul2 _ _ 4294967296 2147483648 _ (by unfold top; omega) (by unfold top; omega) (by simp [go_sem]) (by simp [go_sem])).mono ?_
  rintro e w1 ⟨rfl, rfl⟩
  rw [ex3]
  go_wp2
  go_ret
  exact ⟨rfl, (((Below.refl _ _).alloc (Nat.le_refl _) _).alloc (by simp) _).alloc (by simp; omega) _⟩
end Go.Proofs.Ytcpdobldconnaaa
