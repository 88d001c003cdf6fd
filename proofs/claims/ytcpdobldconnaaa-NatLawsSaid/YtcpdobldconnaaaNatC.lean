/- Contracts, continued: powers and sums of all numbers up to one. -/
import Derived.Test.YtcpdobldconnaaaNatB
namespace Go.Proofs.Ytcpdobldconnaaa
open Go Go.RowKit
set_option maxHeartbeats 1000000 in
theorem pow_any (b e : Int) (w : World) (hb : b ≤ top) (he : e ≤ top) :
    Calls Try.prog 31 #[.int .i64 b, .int .i64 e] w fun r w' => r = .returned (.int .i64 (powS b e.toNat)) ∧ w = w' := by
  by_cases h0 : 0 < e
  · obtain ⟨n, rfl⟩ := Int.eq_ofNat_of_zero_le (Int.le_of_lt h0)
    rw [Int.toNat_natCast]
    generalize hr : powS b n = R
    have hr' : powM 1 b n = R := hr
    have HR := nhid hr'
    have HB := nhid hb
    unfold top at he
    have hn : n ≤ 9223372036854775807 := by omega
    clear hr hr' hb he h0
    go_enter Try.func31, Try.ntmps31
    go_wp2_with fail
    go_loop [0, 1, 5] (fun tb te tp => ∃ (b p : Int) (k : Nat), tb = .int .i64 b ∧ te = .int .i64 k ∧ tp = .int .i64 p ∧ k ≤ 9223372036854775807 ∧ Hid (b ≤ top ∧ 0 ≤ p ∧ p ≤ top ∧ powM p b k = R)) (fun _ te _ => (intOf te).toNat)
    case atStart => exact ⟨b, 1, n, rfl, rfl, rfl, hn, HB.out, by omega, by unfold top; omega, HR.out⟩
    case round =>
      clear HR HB hn
      obtain ⟨b, p, k, rfl, rfl, rfl, hk, HI⟩ := hrel
      by_cases hz : 0 < k
      · have hk0 : (0 : Int) ≤ (k : Int) / 2 := by omega
        by_cases ho : k % 2 = 1
        · have e1 : ((k : Int) % 2 == 1) = true := by rw [beq_iff_eq]; omega
          have HO := nhid ho
          clear ho
          go_wp2_with (first
            | (go_at_call 47; refine (times_any _ _ _ (by first | exact HI.out.2.2.1 | exact HI.out.1) HI.out.1).mono ?_; rintro e w' ⟨rfl, rfl⟩))
          go_round
          case rel => exact ⟨ti b b, ti p b, k / 2, rfl, by go_num, rfl, by omega, ti_le _ _, ti_nn _ _, ti_le _ _, by rw [← powM_odd b HI.out.2.1 k HO.out]; exact HI.out.2.2.2⟩
          case measure => simp [intOf]; omega
        · have e1 : ((k : Int) % 2 == 1) = false := by rw [beq_eq_false_iff_ne]; omega
          have HO := nhid (show k % 2 = 0 by omega)
          clear ho
          go_wp2_with (first
            | (go_at_call 47; refine (times_any _ _ _ (by first | exact HI.out.2.2.1 | exact HI.out.1) HI.out.1).mono ?_; rintro e w' ⟨rfl, rfl⟩))
          go_round
          case rel => exact ⟨ti b b, p, k / 2, rfl, by go_num, rfl, by omega, ti_le _ _, HI.out.2.1, HI.out.2.2.1, by rw [← powM_even b HI.out.2.1 k HO.out]; exact HI.out.2.2.2⟩
          case measure => simp [intOf]; omega
      · have e0 : k = 0 := by omega
        subst e0
        go_wp2
        go_ret
        exact ⟨ret64 ((powM_zero b HI.out.2.2.1).symm.trans HI.out.2.2.2), rfl⟩
  · have e1 : e.toNat = 0 := by omega
    rw [e1, powS_zero]
    clear e1
    go_enter Try.func31, Try.ntmps31
    go_wp2_with fail
    go_loop [0, 1, 5] (fun tb te tp => tb = .int .i64 b ∧ te = .int .i64 e ∧ tp = .int .i64 1) (fun _ _ _ => 0)
    case atStart => exact ⟨rfl, rfl, rfl⟩
    case round =>
      obtain ⟨rfl, rfl, rfl⟩ := hrel
      go_wp2
      go_ret
      exact ⟨rfl, rfl⟩
set_option maxHeartbeats 1000000 in
theorem refpow_any (b e : Int) (w : World) (hb : b ≤ top) (he : e ≤ top) :
    Calls Try.prog 32 #[.int .i64 b, .int .i64 e] w fun r w' => r = .returned (.int .i64 (powS b e.toNat)) ∧ w = w' := by
  have HB := nhid hb
  unfold top at he
  obtain ⟨n, hn⟩ : ∃ n : Nat, e.toNat = n := ⟨_, rfl⟩
  have he' : e ≤ n := by omega
  have hn' : (n : Int) ≤ e ∨ n = 0 := by omega
  have hnm : n ≤ 9223372036854775807 := by omega
  rw [hn]
  have HN := nhid hn'
  clear hb hn hn' he
  go_enter Try.func32, Try.ntmps32
  go_wp2_with fail
  go_loop [5, 6] (fun to i => ∃ k : Nat, k ≤ n ∧ i = .int .i64 k ∧ to = .int .i64 (powS b k)) (fun _ i => n - (intOf i).toNat)
  case atStart => exact ⟨0, by omega, rfl, by rw [powS_zero]⟩
  case round =>
    obtain ⟨k, hk, rfl, rfl⟩ := hrel
    by_cases hlt : k < n
    · have h2 : (k : Int) < e := by have := HN.out; omega
      by_cases hs : ti (powS b k) b = powS b k
      · have hst := powS_stays b k hs (n - k)
        rw [show k + (n - k) = n by omega] at hst
        have HS := nhid hs
        have HT := nhid hst
        clear hs hst
        go_wp2_with (go_at_call 27; refine (refmul_any _ _ _ (powS_le _ _) HB.out).mono ?_; rintro e w' ⟨rfl, rfl⟩; rw [HS.out])
        go_ret
        exact ⟨ret64 HT.out.symm, rfl⟩
      · have e1 : (powS b (k + 1) == powS b k) = false := by rw [beq_eq_false_iff_ne, powS_succ]; exact hs
        clear hs
        go_wp2_with (go_at_call 27; refine (refmul_any _ _ _ (powS_le _ _) HB.out).mono ?_; rintro e w' ⟨rfl, rfl⟩; rw [← powS_succ])
        go_round
        case rel => exact ⟨k + 1, by omega, by go_num, rfl⟩
        case measure => simp [intOf]; omega
    · have e1 : k = n := by omega
      subst e1
      go_wp2
      go_ret
      exact ⟨rfl, rfl⟩
end Go.Proofs.Ytcpdobldconnaaa
