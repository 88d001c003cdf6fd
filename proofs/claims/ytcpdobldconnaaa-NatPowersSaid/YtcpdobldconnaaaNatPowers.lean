/- The law NatPowers, walked. -/
import Derived.Test.YtcpdobldconnaaaNatD
import Derived.Below
namespace Go.Proofs.Ytcpdobldconnaaa
open Go Go.RowKit
theorem trI_even' {k : Int} (h : 0 < k) (h2 : k % 2 = 0) (h3 : k ≤ 9223372036854775807) : ti (k / 2) (pl k 1) = trI k := by
  rw [trI_even h h2, show pl k 1 = k + 1 from pl_add (by omega)]
theorem tri_next {k m : Int} (hm : m = if k + 1 ≤ 0 then 0 else k + 1) : trI (k + 1) = pl (trI k) m := by
  subst hm
  by_cases h : k + 1 ≤ 0
  · rw [if_pos h, trI_neg h, trI_neg (by omega)]; rfl
  · rw [if_neg h, trI_succ (by omega)]
set_option maxHeartbeats 4000000 in
set_option maxRecDepth 100000 in
theorem powers_even (b e k : Int) (w : World) (hb : b ≤ top) (he : e ≤ top) (hk : 0 < k) (h1 : k ≤ 9223372036854775807) (h2 : k % 2 = 0) :
    Calls Try.prog 7 #[.int .i64 b, .int .i64 e, .int .i64 k] w fun e w' => e = .returned (.bool true) ∧ Below w.heap.size w w' := by
  have HB := nhid hb
  have HE := nhid he
  have HL := nhid (trI_le k)
  clear hb he
  have HK := nhid (show k ≤ top from h1)
  have k0 : 0 ≤ k := by omega
  have k2 : 0 ≤ k / 2 := by omega
  have k3 : k / 2 ≤ 4611686018427387904 := by omega
  have K2 := nhid (show k / 2 ≤ top by unfold top; omega)
  have K3 := nhid (show k / 2 + 1 ≤ top by unfold top; omega)
  have HN := nhid (tri_next (k := k) (m := k + 1) (by rw [if_neg (by omega)]))
  have e1 : (k % 2 == 0) = true := by rw [beq_iff_eq]; exact h2
  have HT := nhid (trI_even' hk h2 h1)
  clear h2
  by_cases hbig : 1000 < k
  · go_enter Try.func7, Try.ntmps7
    go_wp2_with fail
    refine (refadd_any _ _ _ HK.out (by unfold top; omega)).mono ?_
    rintro e w1 ⟨rfl, rfl⟩
    go_wp2_with fail
    refine (refmul_any _ _ _ K2.out (pl_le _ _)).mono ?_
    rintro e w1 ⟨rfl, rfl⟩
    rw [HT.out]
    go_wp2_with fail
    refine (pow_any _ _ _ HB.out HE.out).mono ?_
    rintro e w1 ⟨rfl, rfl⟩
    go_wp2_with fail
    refine (refpow_any _ _ _ HB.out HE.out).mono ?_
    rintro e w1 ⟨rfl, rfl⟩
    go_wp2_with fail
    refine (tri_any _ _ (by omega) (by omega)).mono ?_
    rintro e w1 ⟨rfl, rfl⟩
    go_wp2_with fail
    refine (full_any _ _).mono ?_
    rintro e w1 ⟨rfl, rfl⟩
    unfold fullB
    go_wp2_with fail
    refine (nawake_any _).mono ?_
    rintro e w1 ⟨rfl, hb1⟩
    go_wp2
    go_ret
    exact ⟨rfl, hb1⟩
  · go_enter Try.func7, Try.ntmps7
    go_wp2_with fail
    refine (refadd_any _ _ _ HK.out (by unfold top; omega)).mono ?_
    rintro e w1 ⟨rfl, rfl⟩
    go_wp2_with fail
    refine (refmul_any _ _ _ K2.out (pl_le _ _)).mono ?_
    rintro e w1 ⟨rfl, rfl⟩
    rw [HT.out]
    go_wp2_with fail
    refine (pow_any _ _ _ HB.out HE.out).mono ?_
    rintro e w1 ⟨rfl, rfl⟩
    go_wp2_with fail
    refine (refpow_any _ _ _ HB.out HE.out).mono ?_
    rintro e w1 ⟨rfl, rfl⟩
    go_wp2_with fail
    refine (tri_any _ _ (by omega) (by omega)).mono ?_
    rintro e w1 ⟨rfl, rfl⟩
    go_wp2_with fail
    refine (full_any _ _).mono ?_
    rintro e w1 ⟨rfl, rfl⟩
    unfold fullB
    go_wp2_with fail
    refine (tri_any _ _ (by omega) (by omega)).mono ?_
    rintro e w1 ⟨rfl, rfl⟩
    go_wp2_with fail
    refine (refadd_any _ _ _ (by first | exact HL.out | (unfold top; omega)) (by unfold top; omega)).mono ?_
    rintro e w1 ⟨rfl, rfl⟩
    first | rw [← HN.out] | rw [HN.out]
    go_wp2_with fail
    refine (nawake_any _).mono ?_
    rintro e w1 ⟨rfl, hb1⟩
    go_wp2
    go_ret
    exact ⟨rfl, hb1⟩
set_option maxHeartbeats 4000000 in
set_option maxRecDepth 100000 in
theorem powers_odd (b e k : Int) (w : World) (hb : b ≤ top) (he : e ≤ top) (hk : 0 < k) (h1 : k ≤ 9223372036854775807) (h2 : k % 2 = 1) :
    Calls Try.prog 7 #[.int .i64 b, .int .i64 e, .int .i64 k] w fun e w' => e = .returned (.bool true) ∧ Below w.heap.size w w' := by
  have HB := nhid hb
  have HE := nhid he
  have HL := nhid (trI_le k)
  clear hb he
  have HK := nhid (show k ≤ top from h1)
  have k0 : 0 ≤ k := by omega
  have k2 : 0 ≤ k / 2 := by omega
  have k3 : k / 2 ≤ 4611686018427387904 := by omega
  have K2 := nhid (show k / 2 ≤ top by unfold top; omega)
  have K3 := nhid (show k / 2 + 1 ≤ top by unfold top; omega)
  have HN := nhid (tri_next (k := k) (m := k + 1) (by rw [if_neg (by omega)]))
  have e1 : (k % 2 == 0) = false := by rw [beq_eq_false_iff_ne]; omega
  have HT := nhid (trI_odd hk h2)
  clear h2
  by_cases hbig : 1000 < k
  · go_enter Try.func7, Try.ntmps7
    go_wp2_with fail
    refine (refmul_any _ _ _ HK.out K3.out).mono ?_
    rintro e w1 ⟨rfl, rfl⟩
    rw [← HT.out]
    go_wp2_with fail
    refine (pow_any _ _ _ HB.out HE.out).mono ?_
    rintro e w1 ⟨rfl, rfl⟩
    go_wp2_with fail
    refine (refpow_any _ _ _ HB.out HE.out).mono ?_
    rintro e w1 ⟨rfl, rfl⟩
    go_wp2_with fail
    refine (tri_any _ _ (by omega) (by omega)).mono ?_
    rintro e w1 ⟨rfl, rfl⟩
    go_wp2_with fail
    refine (full_any _ _).mono ?_
    rintro e w1 ⟨rfl, rfl⟩
    unfold fullB
    go_wp2_with fail
    refine (nawake_any _).mono ?_
    rintro e w1 ⟨rfl, hb1⟩
    go_wp2
    go_ret
    exact ⟨rfl, hb1⟩
  · go_enter Try.func7, Try.ntmps7
    go_wp2_with fail
    refine (refmul_any _ _ _ HK.out K3.out).mono ?_
    rintro e w1 ⟨rfl, rfl⟩
    rw [← HT.out]
    go_wp2_with fail
    refine (pow_any _ _ _ HB.out HE.out).mono ?_
    rintro e w1 ⟨rfl, rfl⟩
    go_wp2_with fail
    refine (refpow_any _ _ _ HB.out HE.out).mono ?_
    rintro e w1 ⟨rfl, rfl⟩
    go_wp2_with fail
    refine (tri_any _ _ (by omega) (by omega)).mono ?_
    rintro e w1 ⟨rfl, rfl⟩
    go_wp2_with fail
    refine (full_any _ _).mono ?_
    rintro e w1 ⟨rfl, rfl⟩
    unfold fullB
    go_wp2_with fail
    refine (tri_any _ _ (by omega) (by omega)).mono ?_
    rintro e w1 ⟨rfl, rfl⟩
    go_wp2_with fail
    refine (refadd_any _ _ _ (by first | exact HL.out | (unfold top; omega)) (by unfold top; omega)).mono ?_
    rintro e w1 ⟨rfl, rfl⟩
    first | rw [← HN.out] | rw [HN.out]
    go_wp2_with fail
    refine (nawake_any _).mono ?_
    rintro e w1 ⟨rfl, hb1⟩
    go_wp2
    go_ret
    exact ⟨rfl, hb1⟩
set_option maxHeartbeats 4000000 in
set_option maxRecDepth 100000 in
theorem powers_neg (b e k : Int) (w : World) (hb : b ≤ top) (he : e ≤ top) (hk : k < -1) (h0 : -9223372036854775808 ≤ k) :
    Calls Try.prog 7 #[.int .i64 b, .int .i64 e, .int .i64 k] w fun e w' => e = .returned (.bool true) ∧ Below w.heap.size w w' := by
  have HB := nhid hb
  have HE := nhid he
  have HL := nhid (trI_le k)
  clear hb he
  have HT := nhid (trI_neg (k := k) (by omega))
  have HN := nhid (show pl 0 0 = trI (k + 1) by rw [trI_neg (by omega)]; rfl)
  go_enter Try.func7, Try.ntmps7
  go_wp2_with fail
  refine (pow_any _ _ _ HB.out HE.out).mono ?_
  rintro e w1 ⟨rfl, rfl⟩
  go_wp2_with fail
  refine (refpow_any _ _ _ HB.out HE.out).mono ?_
  rintro e w1 ⟨rfl, rfl⟩
  go_wp2_with fail
  refine (tri_any _ _ (by omega) (by omega)).mono ?_
  rintro e w1 ⟨rfl, rfl⟩
  rw [HT.out]
  go_wp2_with fail
  refine (full_any _ _).mono ?_
  rintro e w1 ⟨rfl, rfl⟩
  unfold fullB
  go_wp2_with fail
  refine (tri_any _ _ (by omega) (by omega)).mono ?_
  rintro e w1 ⟨rfl, rfl⟩
  go_wp2_with fail
  refine (refadd_any _ _ _ (by first | exact HL.out | (unfold top; omega)) (by unfold top; omega)).mono ?_
  rintro e w1 ⟨rfl, rfl⟩
  first | rw [← HN.out] | rw [HN.out]
  go_wp2_with fail
  refine (nawake_any _).mono ?_
  rintro e w1 ⟨rfl, hb1⟩
  go_wp2
  go_ret
  exact ⟨rfl, hb1⟩
set_option maxHeartbeats 4000000 in
set_option maxRecDepth 100000 in
theorem powers_one (b e : Int) (w : World) (hb : b ≤ top) (he : e ≤ top)  :
    Calls Try.prog 7 #[.int .i64 b, .int .i64 e, .int .i64 (-1)] w fun e w' => e = .returned (.bool true) ∧ Below w.heap.size w w' := by
  have HB := nhid hb
  have HE := nhid he
  clear hb he
  have HT : trI (-1) = 0 := trI_neg (by omega)
  have HT := nhid HT
  have HN := nhid (show pl 0 (0) = trI (0) by decide +kernel)
  go_enter Try.func7, Try.ntmps7
  go_wp2_with fail
  refine (pow_any _ _ _ HB.out HE.out).mono ?_
  rintro e w1 ⟨rfl, rfl⟩
  go_wp2_with fail
  refine (refpow_any _ _ _ HB.out HE.out).mono ?_
  rintro e w1 ⟨rfl, rfl⟩
  go_wp2_with fail
  refine (tri_any _ _ (by omega) (by omega)).mono ?_
  rintro e w1 ⟨rfl, rfl⟩
  rw [HT.out]
  go_wp2_with fail
  refine (full_any _ _).mono ?_
  rintro e w1 ⟨rfl, rfl⟩
  unfold fullB
  go_wp2_with fail
  refine (tri_any _ _ (by omega) (by omega)).mono ?_
  rintro e w1 ⟨rfl, rfl⟩
  go_wp2_with fail
  refine (refadd_any _ _ _ (by first | exact HL.out | (unfold top; omega)) (by unfold top; omega)).mono ?_
  rintro e w1 ⟨rfl, rfl⟩
  first | rw [← HN.out] | rw [HN.out]
  go_wp2_with fail
  refine (nawake_any _).mono ?_
  rintro e w1 ⟨rfl, hb1⟩
  go_wp2
  go_ret
  exact ⟨rfl, hb1⟩
set_option maxHeartbeats 4000000 in
set_option maxRecDepth 100000 in
theorem powers_zero (b e : Int) (w : World) (hb : b ≤ top) (he : e ≤ top)  :
    Calls Try.prog 7 #[.int .i64 b, .int .i64 e, .int .i64 (0)] w fun e w' => e = .returned (.bool true) ∧ Below w.heap.size w w' := by
  have HB := nhid hb
  have HE := nhid he
  clear hb he
  have HT : trI (0) = 0 := trI_neg (by omega)
  have HT := nhid HT
  have HN := nhid (show pl 0 (1) = trI (1) by decide +kernel)
  go_enter Try.func7, Try.ntmps7
  go_wp2_with fail
  refine (pow_any _ _ _ HB.out HE.out).mono ?_
  rintro e w1 ⟨rfl, rfl⟩
  go_wp2_with fail
  refine (refpow_any _ _ _ HB.out HE.out).mono ?_
  rintro e w1 ⟨rfl, rfl⟩
  go_wp2_with fail
  refine (tri_any _ _ (by omega) (by omega)).mono ?_
  rintro e w1 ⟨rfl, rfl⟩
  rw [HT.out]
  go_wp2_with fail
  refine (full_any _ _).mono ?_
  rintro e w1 ⟨rfl, rfl⟩
  unfold fullB
  go_wp2_with fail
  refine (tri_any _ _ (by omega) (by omega)).mono ?_
  rintro e w1 ⟨rfl, rfl⟩
  go_wp2_with fail
  refine (refadd_any _ _ _ (by first | exact HL.out | (unfold top; omega)) (by unfold top; omega)).mono ?_
  rintro e w1 ⟨rfl, rfl⟩
  first | rw [← HN.out] | rw [HN.out]
  go_wp2_with fail
  refine (nawake_any _).mono ?_
  rintro e w1 ⟨rfl, hb1⟩
  go_wp2
  go_ret
  exact ⟨rfl, hb1⟩
theorem powers_walk (b e k : Int) (w : World) (hb : b ≤ top) (he : e ≤ top) (h0 : -9223372036854775808 ≤ k) (h1 : k ≤ 9223372036854775807) :
    Calls Try.prog 7 #[.int .i64 b, .int .i64 e, .int .i64 k] w fun e w' => e = .returned (.bool true) ∧ Below w.heap.size w w' := by
  by_cases hk : 0 < k
  · by_cases h2 : k % 2 = 0
    · exact powers_even b e k w hb he hk h1 h2
    · exact powers_odd b e k w hb he hk h1 (by omega)
  · by_cases hm : k < -1
    · exact powers_neg b e k w hb he hm h0
    · rcases (show k = -1 ∨ k = 0 by omega) with rfl | rfl
      · exact powers_one b e w hb he
      · exact powers_zero b e w hb he
end Go.Proofs.Ytcpdobldconnaaa
