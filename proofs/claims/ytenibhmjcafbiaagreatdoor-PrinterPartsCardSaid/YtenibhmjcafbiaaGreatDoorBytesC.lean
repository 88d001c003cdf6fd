/- Contracts of bytes' functions, continued: Within, Union of two sets and of none. -/
import Derived.Test.YtenibhmjcafbiaaGreatDoorBytesB
namespace Go.Proofs.YtenibhmjcafbiaaGreatDoor
open Go Go.RowKit
attribute [local go_sem ↓] Go.wp_at_zero Go.wp_at_succ
/-- What '==' says of two sets. -/
theorem eq4 (a b c d x y z u : Int) (w : World) : (Op.equalIn 10000 34 (.agg #[.int .u64 a, .int .u64 b, .int .u64 c, .int .u64 d]) (.agg #[.int .u64 x, .int .u64 y, .int .u64 z, .int .u64 u])).run Tryz.prog w = .ok (a == x && b == y && c == z && d == u) w := by
  have u3 := Tryz.underlying32
  have a3 := Tryz.isAgg32
  have z3 := Tryz.sizeOf32
  rw [show (10000 : Nat) = 9999 + 1 from rfl, Op.equalIn]
  simp only [Sem.run_bind, run_underlying Tryz.underlying34, Result.andThen_ok]
  simp only [Std.Legacy.Range.forIn_eq_forIn_range', Std.Legacy.Range.size, Nat.sub_zero, Nat.add_sub_cancel, Nat.div_one, List.range'_succ, List.range'_zero, List.forIn_cons, List.forIn_nil]
  go_simp
  by_cases h1 : a = x <;> by_cases h2 : b = y <;> by_cases h3 : c = z <;> by_cases h4 : d = u <;> simp [h1, h2, h3, h4]
attribute [local go_sem] eq4
set_option maxHeartbeats 2000000 in
theorem union_two (g : Nat) (a b c d x y z u : Int) (w : World) (hg : g < w.heap.size)
    (q0 : w.cell? ⟨g, 0, none⟩ = some (.int .u64 a)) (q1 : w.cell? ⟨g, 1, none⟩ = some (.int .u64 b)) (q2 : w.cell? ⟨g, 2, none⟩ = some (.int .u64 c)) (q3 : w.cell? ⟨g, 3, none⟩ = some (.int .u64 d))
    (q4 : w.cell? ⟨g, 4, none⟩ = some (.int .u64 x)) (q5 : w.cell? ⟨g, 5, none⟩ = some (.int .u64 y)) (q6 : w.cell? ⟨g, 6, none⟩ = some (.int .u64 z)) (q7 : w.cell? ⟨g, 7, none⟩ = some (.int .u64 u)) :
    Calls Tryz.prog 129 #[.slice (some ⟨g, 0, none⟩) 2 2] w fun e w' => e = .returned (.agg #[.int .u64 (orr (orr 0 a) x), .int .u64 (orr (orr 0 b) y), .int .u64 (orr (orr 0 c) z), .int .u64 (orr (orr 0 d) u)]) ∧ Below w.heap.size w w' := by
  have n0 : ¬ g = w.heap.size := by omega
  have n1 : ¬ g = w.heap.size + 1 := by omega
  have n2 : ¬ g = w.heap.size + 1 + 1 := by omega
  have n3 : ¬ g = w.heap.size + 1 + 1 + 1 := by omega
  have m1 : g < w.heap.size + 1 := by omega
  have m2 : g < w.heap.size + 1 + 1 := by omega
  have m3 : g < w.heap.size + 1 + 1 + 1 := by omega
  go_enter Tryz.func129, Tryz.ntmps129
  go_wp2
  refine wp_loop_rounds 3 ?_
  rw [rounds_succ]
  go_wp2
  refine wp_loop_rounds 5 ?_
  rw [rounds_succ]; go_wp2
  go_region
  go_wp2
  rw [rounds_succ]; go_wp2
  go_region
  go_wp2
  rw [rounds_succ]; go_wp2
  go_region
  go_wp2
  rw [rounds_succ]; go_wp2
  go_region
  go_wp2
  rw [rounds_succ]; go_wp2
  rw [rounds_succ]
  go_wp2
  refine wp_loop_rounds 5 ?_
  rw [rounds_succ]; go_wp2
  go_region
  go_wp2
  rw [rounds_succ]; go_wp2
  go_region
  go_wp2
  rw [rounds_succ]; go_wp2
  go_region
  go_wp2
  rw [rounds_succ]; go_wp2
  go_region
  go_wp2
  rw [rounds_succ]; go_wp2
  rw [rounds_succ]
  go_wp2
  refine bodyPost_ret (v := .agg #[.int .u64 (orr (orr 0 a) x), .int .u64 (orr (orr 0 b) y), .int .u64 (orr (orr 0 c) z), .int .u64 (orr (orr 0 d) u)]) (by simp [results, Tryz.results129, go_sem, orr]) rfl ⟨rfl, ?_⟩
  exact (below4 _ _ _ _ _).drew.drew.drew.drew.drew.drew.drew.drew
/-- .. where the two sets have just been laid. -/
theorem union_new (a b c d x y z u : Int) (w : World) :
    Calls Tryz.prog 129 #[.slice (some ⟨w.heap.size, 0, none⟩) 2 2] (w.alloc (.cells #[.int .u64 a, .int .u64 b, .int .u64 c, .int .u64 d, .int .u64 x, .int .u64 y, .int .u64 z, .int .u64 u] 34)) fun e w' => e = .returned (.agg #[.int .u64 (orr (orr 0 a) x), .int .u64 (orr (orr 0 b) y), .int .u64 (orr (orr 0 c) z), .int .u64 (orr (orr 0 d) u)]) ∧ Below (w.alloc (.cells #[.int .u64 a, .int .u64 b, .int .u64 c, .int .u64 d, .int .u64 x, .int .u64 y, .int .u64 z, .int .u64 u] 34)).heap.size (w.alloc (.cells #[.int .u64 a, .int .u64 b, .int .u64 c, .int .u64 d, .int .u64 x, .int .u64 y, .int .u64 z, .int .u64 u] 34)) w' :=
  union_two _ a b c d x y z u _ (by simp) (by simp) (by simp) (by simp) (by simp) (by simp) (by simp) (by simp) (by simp)
/-- .. and the order of a region has been drawn before. -/
theorem union_newd (a b c d x y z u : Int) (w : World) :
    Calls Tryz.prog 129 #[.slice (some ⟨w.heap.size, 0, none⟩) 2 2] (w.alloc (.cells #[.int .u64 a, .int .u64 b, .int .u64 c, .int .u64 d, .int .u64 x, .int .u64 y, .int .u64 z, .int .u64 u] 34)).drew fun e w' => e = .returned (.agg #[.int .u64 (orr (orr 0 a) x), .int .u64 (orr (orr 0 b) y), .int .u64 (orr (orr 0 c) z), .int .u64 (orr (orr 0 d) u)]) ∧ Below (w.alloc (.cells #[.int .u64 a, .int .u64 b, .int .u64 c, .int .u64 d, .int .u64 x, .int .u64 y, .int .u64 z, .int .u64 u] 34)).drew.heap.size (w.alloc (.cells #[.int .u64 a, .int .u64 b, .int .u64 c, .int .u64 d, .int .u64 x, .int .u64 y, .int .u64 z, .int .u64 u] 34)).drew w' :=
  union_two _ a b c d x y z u _ (by simp) (by simp [go_sem]) (by simp [go_sem]) (by simp [go_sem]) (by simp [go_sem]) (by simp [go_sem]) (by simp [go_sem]) (by simp [go_sem]) (by simp [go_sem])
set_option maxHeartbeats 1000000 in
theorem union_none (w : World) :
    Calls Tryz.prog 129 #[.slice none 0 0] w fun e w' => e = .returned (.agg #[.int .u64 0, .int .u64 0, .int .u64 0, .int .u64 0]) ∧ Below w.heap.size w w' := by
  go_enter Tryz.func129, Tryz.ntmps129
  go_wp2
  refine wp_loop_rounds 1 ?_
  rw [rounds_succ]
  go_wp2
  exact bodyPost_ret (v := .agg #[.int .u64 0, .int .u64 0, .int .u64 0, .int .u64 0]) (by simp [results, Tryz.results129, go_sem]) rfl ⟨rfl, below2 _ _ _⟩
end Go.Proofs.YtenibhmjcafbiaaGreatDoor
