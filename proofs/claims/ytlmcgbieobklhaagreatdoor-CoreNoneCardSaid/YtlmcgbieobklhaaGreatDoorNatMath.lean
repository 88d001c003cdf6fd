/- Numbers that end at the greatest: the plain mathematics. -/
import Derived.WalkKit
namespace Go.Proofs.YtlmcgbieobklhaaGreatDoor
open Go Go.RowKit
theorem nhid {p : Prop} (h : p) : Hid p := h
/-- The greatest number. -/
def top : Int := 9223372036854775807
def cnt (n : Int) : Int := if n ≤ 0 then 0 else n
def sat (n : Int) : Int := if n ≤ top then n else top
def pl (a b : Int) : Int := sat (cnt a + cnt b)
def ti (a b : Int) : Int := sat (cnt a * cnt b)
theorem cnt_nn (n : Int) : 0 ≤ cnt n := by unfold cnt; split <;> omega
theorem cnt_le (n : Int) (h : n ≤ top) : cnt n ≤ top := by unfold cnt top at *; split <;> omega
theorem cnt_of {n : Int} (h : 0 ≤ n) : cnt n = n := by unfold cnt; split <;> omega
theorem sat_nn {n : Int} (h : 0 ≤ n) : 0 ≤ sat n := by unfold sat top; split <;> omega
theorem sat_le (n : Int) : sat n ≤ top := by unfold sat; split <;> omega
theorem sat_self {n : Int} (h : n ≤ top) : sat n = n := by unfold sat; rw [if_pos h]
theorem sat_top {n : Int} (h : top ≤ n) : sat n = top := by unfold sat; split <;> omega
theorem sat_lt {n : Int} (h : sat n < top) : sat n = n := by unfold sat at *; split <;> simp_all <;> omega
theorem cnt_sat {n : Int} (h : 0 ≤ n) : cnt (sat n) = sat n := cnt_of (sat_nn h)
theorem sat_add {m n : Int} (_ : 0 ≤ m) (hn : 0 ≤ n) : sat (sat m + n) = sat (m + n) := by
  unfold sat; split <;> split <;> (try split) <;> omega
theorem le_mul' {m n : Int} (hm : 0 ≤ m) (hn : 1 ≤ n) : m ≤ m * n := by
  have := Int.mul_le_mul_of_nonneg_left hn hm
  omega
theorem sat_mul {m n : Int} (hm : 0 ≤ m) (hn : 0 ≤ n) : sat (sat m * n) = sat (m * n) := by
  by_cases h : m ≤ top
  · rw [sat_self h]
  · have h0 : top ≤ m := by omega
    by_cases hz : n = 0
    · subst hz; simp
    · have n1 : 1 ≤ n := by omega
      have t0 : (0:Int) ≤ top := by unfold top; omega
      rw [sat_top h0, sat_top (le_mul' t0 n1), sat_top (Int.le_trans h0 (le_mul' hm n1))]
theorem sat_mul' {m n : Int} (hm : 0 ≤ m) (hn : 0 ≤ n) : sat (n * sat m) = sat (n * m) := by
  rw [Int.mul_comm, sat_mul hm hn, Int.mul_comm]
theorem sat_add' {m n : Int} (hm : 0 ≤ m) (hn : 0 ≤ n) : sat (n + sat m) = sat (n + m) := by
  rw [Int.add_comm, sat_add hm hn, Int.add_comm]
theorem mul_nn {m n : Int} (hm : 0 ≤ m) (hn : 0 ≤ n) : 0 ≤ m * n := Int.mul_nonneg hm hn
theorem pl_nn (a b : Int) : 0 ≤ pl a b := sat_nn (by have := cnt_nn a; have := cnt_nn b; omega)
theorem ti_nn (a b : Int) : 0 ≤ ti a b := sat_nn (mul_nn (cnt_nn a) (cnt_nn b))
theorem pl_le (a b : Int) : pl a b ≤ top := sat_le _
theorem ti_le (a b : Int) : ti a b ≤ top := sat_le _
theorem pl_comm (a b : Int) : pl a b = pl b a := by unfold pl; rw [Int.add_comm]
theorem ti_comm (a b : Int) : ti a b = ti b a := by unfold ti; rw [Int.mul_comm]
theorem pl_assoc (a b c : Int) : pl (pl a b) c = pl a (pl b c) := by
  have ha := cnt_nn a; have hb := cnt_nn b; have hc := cnt_nn c
  unfold pl
  rw [cnt_sat (by omega), cnt_sat (by omega), sat_add (by omega) hc, sat_add' (by omega) ha, Int.add_assoc]
theorem ti_assoc (a b c : Int) : ti (ti a b) c = ti a (ti b c) := by
  have ha := cnt_nn a; have hb := cnt_nn b; have hc := cnt_nn c
  have hab := mul_nn ha hb; have hbc := mul_nn hb hc
  unfold ti
  rw [cnt_sat hab, cnt_sat hbc, sat_mul hab hc, sat_mul' hbc ha, Int.mul_assoc]
theorem ti_pl (a b c : Int) : ti a (pl b c) = pl (ti a b) (ti a c) := by
  have ha := cnt_nn a; have hb := cnt_nn b; have hc := cnt_nn c
  have hab := mul_nn ha hb; have hac := mul_nn ha hc
  unfold ti pl
  rw [cnt_sat (by omega), cnt_sat hab, cnt_sat hac, sat_mul' (by omega) ha, sat_add hab (sat_nn hac), sat_add' hac hab, Int.mul_add]
theorem pl_zero (a : Int) (h0 : 0 ≤ a) (h : a ≤ top) : pl 0 a = a := by unfold pl; rw [cnt_of h0]; simp [cnt, sat_self h]
theorem ti_one (a : Int) (h0 : 0 ≤ a) (h : a ≤ top) : ti 1 a = a := by unfold ti; rw [cnt_of h0]; simp [cnt, sat_self h]
/-- The n-th power. -/
def powM (p b : Int) (n : Nat) : Int := sat (p * cnt b ^ n)
def powS (b : Int) (n : Nat) : Int := powM 1 b n
theorem pow_nn (b : Int) (n : Nat) : 0 ≤ cnt b ^ n := Int.pow_nonneg (cnt_nn b)
theorem sat_pow {m c : Int} (hm : 0 ≤ m) (hc : 0 ≤ c) (n : Nat) : sat (m * sat c ^ n) = sat (m * c ^ n) := by
  induction n generalizing m with
  | zero => simp
  | succ n ih =>
    have hcn : 0 ≤ sat c ^ n := Int.pow_nonneg (sat_nn hc)
    have hs := sat_nn hc
    rw [Int.pow_succ, Int.pow_succ, ← Int.mul_assoc, ← Int.mul_assoc]
    rw [sat_mul' hc (mul_nn hm hcn), Int.mul_right_comm, ih (mul_nn hm hc), Int.mul_right_comm]
theorem powM_zero {p : Int} (b : Int) (h : p ≤ top) : powM p b 0 = p := by unfold powM; simp [sat_self h]
theorem powM_even {p : Int} (b : Int) (hp : 0 ≤ p) (n : Nat) (h : n % 2 = 0) : powM p b n = powM p (ti b b) (n / 2) := by
  unfold powM ti
  rw [cnt_sat (mul_nn (cnt_nn b) (cnt_nn b)), sat_pow hp (mul_nn (cnt_nn b) (cnt_nn b))]
  congr 2
  conv => lhs; rw [show n = 2 * (n / 2) by omega, Int.pow_mul]
  rw [show cnt b ^ 2 = cnt b * cnt b by rw [Int.pow_succ, Int.pow_succ, Int.pow_zero, Int.one_mul]]
theorem powM_odd {p : Int} (b : Int) (hp : 0 ≤ p) (n : Nat) (h : n % 2 = 1) : powM p b n = powM (ti p b) (ti b b) (n / 2) := by
  have hb := cnt_nn b
  have e : powM (ti p b) (ti b b) (n / 2) = powM (ti p b) b (2 * (n / 2)) := by
    rw [powM_even b (ti_nn p b) (2 * (n / 2)) (by omega)]
    congr 1; omega
  rw [e]
  unfold powM ti
  rw [cnt_of hp, sat_mul (mul_nn hp hb) (pow_nn b _), Int.mul_right_comm, Int.mul_assoc, ← Int.pow_succ]
  congr 3; omega
theorem powS_zero (b : Int) : powS b 0 = 1 := powM_zero b (by unfold top; omega)
theorem powS_succ (b : Int) (n : Nat) : powS b (n + 1) = ti (powS b n) b := by
  unfold powS powM ti
  simp only [Int.one_mul]
  rw [cnt_sat (pow_nn b n), sat_mul (pow_nn b n) (cnt_nn b), Int.pow_succ]
theorem powS_stays (b : Int) (n : Nat) (h : ti (powS b n) b = powS b n) (k : Nat) : powS b (n + k) = powS b n := by
  induction k with
  | zero => rfl
  | succ k ih => rw [← Nat.add_assoc, powS_succ, ih, h]
theorem powM_nn {p : Int} (hp : 0 ≤ p) (b : Int) (n : Nat) : 0 ≤ powM p b n := sat_nn (mul_nn hp (pow_nn b n))
theorem powS_nn (b : Int) (n : Nat) : 0 ≤ powS b n := powM_nn (by omega) b n
theorem powS_le (b : Int) (n : Nat) : powS b n ≤ top := sat_le _
end Go.Proofs.YtlmcgbieobklhaaGreatDoor
