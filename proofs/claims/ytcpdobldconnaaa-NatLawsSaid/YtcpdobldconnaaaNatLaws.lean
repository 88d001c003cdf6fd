/- The law NatLaws, walked. -/
import Derived.Test.YtcpdobldconnaaaNatD
import Derived.Below
namespace Go.Proofs.Ytcpdobldconnaaa
open Go Go.RowKit
theorem add3_back (g cap : Nat) (a b c : Int) (w : World) (ha : a ≤ top) (hb : b ≤ top) (hc : c ≤ top) (h0 : w.cell? ⟨g, 0, none⟩ = some (.int .i64 c)) (h1 : w.cell? ⟨g, 1, none⟩ = some (.int .i64 b)) (h2 : w.cell? ⟨g, 2, none⟩ = some (.int .i64 a)) :
    Calls Try.prog 28 #[.slice (some ⟨g, 0, none⟩) 3 cap] w fun e w' => e = .returned (.int .i64 (pl (pl a b) c)) ∧ w = w' :=
  (add3 g cap c b a w hc hb ha h0 h1 h2).mono fun _ _ ⟨he, hw⟩ => ⟨he.trans (ret64 (by rw [pl_comm (pl c b) a, pl_comm c b, ← pl_assoc])), hw⟩
theorem mul3_back (g cap : Nat) (a b c : Int) (w : World) (ha : a ≤ top) (hb : b ≤ top) (hc : c ≤ top) (h0 : w.cell? ⟨g, 0, none⟩ = some (.int .i64 c)) (h1 : w.cell? ⟨g, 1, none⟩ = some (.int .i64 b)) (h2 : w.cell? ⟨g, 2, none⟩ = some (.int .i64 a)) :
    Calls Try.prog 30 #[.slice (some ⟨g, 0, none⟩) 3 cap] w fun e w' => e = .returned (.int .i64 (ti (ti a b) c)) ∧ w = w' :=
  (mul3 g cap c b a w hc hb ha h0 h1 h2).mono fun _ _ ⟨he, hw⟩ => ⟨he.trans (ret64 (by rw [ti_comm (ti c b) a, ti_comm c b, ← ti_assoc])), hw⟩
theorem ex4 : powS 2 (5 : Int).toNat = 32 := by decide +kernel
set_option maxHeartbeats 2000000 in
set_option maxRecDepth 100000 in
theorem laws_walk (a b c : Int) (w : World) (ha : a ≤ top) (hb : b ≤ top) (hc : c ≤ top) :
    Calls Try.prog 9 #[.int .i64 a, .int .i64 b, .int .i64 c] w fun e w' => e = .returned (.bool true) ∧ Below w.heap.size w w' := by
  have HA := nhid ha
  have HB := nhid hb
  have HC := nhid hc
  clear ha hb hc
  go_enter Try.func9, Try.ntmps9
  go_wp2_with fail
  refine (add2 _ _ b c _ HB.out HC.out (by simp [go_sem]) (by simp [go_sem])).mono ?_
  rintro e w1 ⟨rfl, rfl⟩
  go_wp2_with fail
  refine (mul2 _ _ a (pl b c) _ HA.out (pl_le _ _) (by simp [go_sem]) (by simp [go_sem])).mono ?_
  rintro e w1 ⟨rfl, rfl⟩
  rw [ti_pl]
  go_wp2_with fail
  refine (mul2 _ _ a b _ HA.out HB.out (by simp [go_sem]) (by simp [go_sem])).mono ?_
  rintro e w1 ⟨rfl, rfl⟩
  go_wp2_with fail
  refine (mul2 _ _ a c _ HA.out HC.out (by simp [go_sem]) (by simp [go_sem])).mono ?_
  rintro e w1 ⟨rfl, rfl⟩
  go_wp2_with fail
  refine (add2 _ _ (ti a b) (ti a c) _ (ti_le _ _) (ti_le _ _) (by simp [go_sem]) (by simp [go_sem])).mono ?_
  rintro e w1 ⟨rfl, rfl⟩
  go_wp2_with fail
  refine (add3 _ _ a b c _ HA.out HB.out HC.out (by simp [go_sem]) (by simp [go_sem]) (by simp [go_sem])).mono ?_
  rintro e w1 ⟨rfl, rfl⟩
  go_wp2_with fail
  refine (add3_back _ _ a b c _ HA.out HB.out HC.out (by simp [go_sem]) (by simp [go_sem]) (by simp [go_sem])).mono ?_
  rintro e w1 ⟨rfl, rfl⟩
  go_wp2_with fail
  refine (mul3 _ _ a b c _ HA.out HB.out HC.out (by simp [go_sem]) (by simp [go_sem]) (by simp [go_sem])).mono ?_
  rintro e w1 ⟨rfl, rfl⟩
  go_wp2_with fail
  refine (mul3_back _ _ a b c _ HA.out HB.out HC.out (by simp [go_sem]) (by simp [go_sem]) (by simp [go_sem])).mono ?_
  rintro e w1 ⟨rfl, rfl⟩
  go_wp2_with fail
  refine (pow_any 2 5 _ (by unfold top; omega) (by unfold top; omega)).mono ?_
  rintro e w1 ⟨rfl, rfl⟩
  rw [ex4]
  go_wp2_with fail
  refine (nawake_any _).mono ?_
  rintro e w1 ⟨rfl, hb1⟩
  go_wp2
  go_ret
  refine ⟨rfl, Below.trans ?_ (hb1.mono (by simp; omega))⟩
  repeat first | exact Below.refl _ _ | (refine Below.alloc ?_ (by simp; try omega) _)
end Go.Proofs.Ytcpdobldconnaaa
