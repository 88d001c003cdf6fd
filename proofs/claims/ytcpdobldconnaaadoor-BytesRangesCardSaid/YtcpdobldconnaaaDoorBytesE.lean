/- The document's example holds, whatever the world. -/
import Derived.Test.YtcpdobldconnaaaDoorBytesD
namespace Go.Proofs.YtcpdobldconnaaaDoor
open Go Go.RowKit
attribute [local go_sem ↓] Go.wp_at_zero Go.wp_at_succ
attribute [local go_sem] eq4
def two : Nat → Int := fun j => if j = 0 then 97 else 49
def three : Nat → Int := fun j => if j = 0 then 65 else if j = 1 then 97 else 49
theorem two_set : ofw two 2 0 = ofw three 3 0 ∧ fo (ofw two 2 1) = ofw three 3 1 ∧ ofw two 2 2 = ofw three 3 2 ∧ ofw two 2 3 = ofw three 3 3 := by decide +kernel
theorem all_count : pw (nt 0) = 64 := by decide +kernel
set_option maxHeartbeats 1000000 in
theorem awake_any (w : World) :
    Calls Tryd.prog 8 #[] w fun e w' => e = .returned (.bool true) ∧ Below w.heap.size w w' := by
  have T := hid two_set
  have C := hid all_count
  go_enter Tryd.func8, Tryd.ntmps8
  go_wp2_with fail
  refine (of_any _ _ _ _ two _ (by simp) (by omega) (by intro j; unfold two; split <;> omega) (by intro j; unfold two; split <;> omega) (by
    intro j hj
    match j, hj with
    | 0, _ => simp [two]
    | 1, _ => simp [two])).mono ?_
  rintro e w1 ⟨rfl, hb1⟩
  obtain ⟨hc1, hf1, hz1⟩ := bcell hb1
  go_wp2_with fail
  refine (fold_any _ _ _ _ _).mono ?_
  rintro e w2 ⟨rfl, hb2⟩
  go_wp2_with fail
  refine (of_any _ _ _ _ three _ (by simp) (by omega) (by intro j; unfold three; split <;> (try split) <;> omega) (by intro j; unfold three; split <;> (try split) <;> omega) (by
    intro j hj
    match j, hj with
    | 0, _ => simp [three]
    | 1, _ => simp [three]
    | 2, _ => simp [three])).mono ?_
  rintro e w3 ⟨rfl, hb3⟩
  obtain ⟨t0, t1, t2, t3⟩ := T.out
  rw [t0, t1, t2, t3]
  clear t0 t1 t2 t3
  go_wp2_with fail
  refine (all_any _).mono ?_
  rintro e w4 ⟨rfl, hb4⟩
  go_wp2_with fail
  refine (count_any _ _ _ _ _ (nt_fit _) (nt_fit _) (nt_fit _) (nt_fit _)).mono ?_
  rintro e w5 ⟨rfl, hb5⟩
  rw [C.out]
  go_wp2
  go_ret
  refine ⟨rfl, ?_⟩
  have k1 := below_next (below1 _ _) hb1 (by simp)
  have z1 := k1.size
  have k2 := below_next k1 hb2 z1
  have z2 := k2.size
  have k3 := below_next (k2.alloc z2 _) hb3 (by simp; omega)
  have z3 := k3.size
  have k4 := below_next k3 hb4 z3
  exact below_next k4 hb5 k4.size
end Go.Proofs.YtcpdobldconnaaaDoor
