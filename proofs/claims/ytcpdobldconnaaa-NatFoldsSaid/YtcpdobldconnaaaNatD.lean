/- Contracts, continued: the sum of all numbers up to one. -/
import Derived.Test.YtcpdobldconnaaaNatC
namespace Go.Proofs.Ytcpdobldconnaaa
open Go Go.RowKit
def trI (k : Int) : Int := if k ≤ 0 then 0 else if k % 2 = 0 then ti (k / 2) (k + 1) else ti k (k / 2 + 1)
theorem trI_neg {k : Int} (h : k ≤ 0) : trI k = 0 := by unfold trI; rw [if_pos h]
theorem trI_even {k : Int} (h : 0 < k) (h2 : k % 2 = 0) : trI k = ti (k / 2) (k + 1) := by unfold trI; rw [if_neg (by omega), if_pos h2]
theorem trI_odd {k : Int} (h : 0 < k) (h2 : k % 2 = 1) : trI k = ti k (k / 2 + 1) := by unfold trI; rw [if_neg (by omega), if_neg (by omega)]
theorem trI_nn (k : Int) : 0 ≤ trI k := by unfold trI; split; · omega
                                           split <;> exact ti_nn _ _
theorem trI_le (k : Int) : trI k ≤ top := by unfold trI; split; · unfold top; omega
                                             split <;> exact ti_le _ _
theorem trI_succ {k : Int} (h : 0 ≤ k) : trI (k + 1) = pl (trI k) (k + 1) := by
  by_cases h0 : k = 0
  · subst h0; decide +kernel
  · by_cases h2 : k % 2 = 0
    · obtain ⟨m, rfl⟩ : ∃ m, k = 2 * m := ⟨k / 2, by omega⟩
      rw [trI_even (k := 2 * m) (by omega) h2, trI_odd (k := 2 * m + 1) (by omega) (by omega)]
      rw [show 2 * m / 2 = m by omega, show (2 * m + 1) / 2 = m by omega]
      unfold pl ti
      have hm : 0 ≤ m := by omega
      have hmm : 0 ≤ m * (2 * m + 1) := mul_nn hm (by omega)
      rw [cnt_of hm, cnt_of (show 0 ≤ 2 * m + 1 by omega), cnt_of (show 0 ≤ m + 1 by omega), cnt_sat hmm, sat_add hmm (by omega), Int.mul_comm m]
      congr 1
      rw [Int.mul_add (2 * m + 1) m 1, Int.mul_one]
    · obtain ⟨m, rfl⟩ : ∃ m, k = 2 * m + 1 := ⟨k / 2, by omega⟩
      rw [trI_odd (k := 2 * m + 1) (by omega) (by omega), trI_even (k := 2 * m + 1 + 1) (by omega) (by omega)]
      rw [show (2 * m + 1 + 1) / 2 = m + 1 by omega, show (2 * m + 1) / 2 = m by omega]
      unfold pl ti
      have hm : 0 ≤ m := by omega
      have hmm : 0 ≤ (2 * m + 1) * (m + 1) := mul_nn (by omega) (by omega)
      rw [cnt_of (show 0 ≤ m + 1 by omega), cnt_of (show 0 ≤ 2 * m + 1 + 1 + 1 by omega), cnt_of (show 0 ≤ 2 * m + 1 by omega), cnt_of (show 0 ≤ 2 * m + 1 + 1 by omega), cnt_sat hmm, sat_add hmm (by omega), Int.mul_comm (m + 1)]
      congr 1
      rw [show 2 * m + 1 + 1 + 1 = (2 * m + 1) + 2 by omega, Int.add_mul (2 * m + 1) 2]
      omega
set_option maxHeartbeats 1000000 in
theorem tri_any (k : Int) (w : World) (h0 : -9223372036854775808 ≤ k) (h1 : k ≤ 9223372036854775807) :
    Calls Try.prog 33 #[.int .i64 k] w fun e w' => e = .returned (.int .i64 (trI k)) ∧ w = w' := by
  by_cases hk : 0 < k
  · have k0 : 0 ≤ k := by omega
    by_cases h2 : k % 2 = 0
    · rw [trI_even hk h2]
      have e1 : (k % 2 == 0) = true := by rw [beq_iff_eq]; exact h2
      have h3 : k ≤ 9223372036854775806 := by omega
      have h4 : 0 ≤ k / 2 := by omega
      have H2 := nhid (show k / 2 ≤ top by unfold top; omega)
      have H3 := nhid (show k + 1 ≤ top by unfold top; omega)
      clear h2
      go_enter Try.func33, Try.ntmps33
      go_wp2_with (go_at_call 47; refine (times_any _ _ _ H2.out H3.out).mono ?_; rintro e w' ⟨rfl, rfl⟩)
      go_ret
      exact ⟨rfl, rfl⟩
    · have h2 : k % 2 = 1 := by omega
      rw [trI_odd hk h2]
      have e1 : (k % 2 == 0) = false := by rw [beq_eq_false_iff_ne]; omega
      have h4 : 0 ≤ k / 2 := by omega
      have h5 : k / 2 ≤ 4611686018427387904 := by omega
      have H2 := nhid (show k / 2 + 1 ≤ top by unfold top; omega)
      have H3 := nhid (show k ≤ top by unfold top; omega)
      clear h2
      go_enter Try.func33, Try.ntmps33
      go_wp2_with (go_at_call 47; refine (times_any _ _ _ H3.out H2.out).mono ?_; rintro e w' ⟨rfl, rfl⟩)
      go_ret
      exact ⟨rfl, rfl⟩
  · rw [trI_neg (by omega)]
    have qq : -4611686018427387904 ≤ k.tdiv 2 ∧ k.tdiv 2 ≤ 0 := by
      rw [Int.tdiv_eq_ediv]; split <;> simp [Int.sign] <;> omega
    obtain ⟨q1, q0⟩ := qq
    have HZ := nhid (show k ≤ 0 by omega)
    have HK := nhid (show k ≤ top by unfold top; omega)
    have H2 := nhid (show k.tdiv 2 ≤ top by unfold top; omega)
    have H3 := nhid (show k + 1 ≤ top by unfold top; omega)
    have H4 := nhid (show k.tdiv 2 + 1 ≤ top by unfold top; omega)
    have HQ := nhid q0
    go_enter Try.func33, Try.ntmps33
    go_wp2_with (go_at_call 47; refine (times_any _ _ _ (by first | exact HK.out | exact H2.out) (by first | exact H4.out | exact H3.out)).mono ?_; rintro e w' ⟨rfl, rfl⟩)
    all_goals
      go_ret
      exact ⟨ret64 (by first | rw [ti_zero_l HZ.out] | rw [ti_zero_l HQ.out]), rfl⟩
end Go.Proofs.Ytcpdobldconnaaa
