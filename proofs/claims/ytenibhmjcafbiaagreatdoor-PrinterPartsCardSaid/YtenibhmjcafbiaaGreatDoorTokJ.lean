/- Contracts: a byte looked for in a text that stands in the code; three sets together. -/
import Derived.Test.YtenibhmjcafbiaaGreatDoorTokI
import Derived.Laws.Externs
namespace Go.Proofs.YtenibhmjcafbiaaGreatDoor
open Go Go.RowKit
attribute [local go_sem ↓] Go.wp_at_zero Go.wp_at_succ
attribute [local go_sem] eq4
theorem tidx_run (args : Array Value) (w : World) : (callFunc 108 args).run Tryz.prog w = ((Extern.BytealgIndexByte.indexByte args).run Tryz.prog w).andThen fun v w' => .ok (.value v) w' :=
  run_callFunc_extern Tryz.func108 (by kernel_rfl) (by kernel_rfl) (by kernel_rfl) (by rfl) args w
theorem tidx_any (S : ByteArray) (b : Nat) (v : Int) (hv : firstIdx S (b : Int).toNat.toUInt8 = v) (w : World) :
    Calls Tryz.prog 130 #[.string S, .int .u8 (b : Int)] w fun e w' => e = .returned (.int .i64 v) ∧ w' = w := by
  have hx : ∀ W, (callFunc 108 #[.string S, .int .u8 (b : Int)]).run Tryz.prog W = .ok (.value (.int .i64 v)) W := fun W => by
    rw [tidx_run, run_indexByte_string, hv]; rfl
  go_enter Tryz.func130, Tryz.ntmps130
  go_wp2
  go_ret
  exact ⟨rfl, rfl⟩
set_option maxRecDepth 100000 in
set_option maxHeartbeats 8000000 in
theorem union_three (g : Nat) (a b c d x y z u i j k l : Int) (w : World) (hg : g < w.heap.size)
    (q0 : w.cell? ⟨g, 0, none⟩ = some (.int .u64 a)) (q1 : w.cell? ⟨g, 1, none⟩ = some (.int .u64 b)) (q2 : w.cell? ⟨g, 2, none⟩ = some (.int .u64 c)) (q3 : w.cell? ⟨g, 3, none⟩ = some (.int .u64 d)) (q4 : w.cell? ⟨g, 4, none⟩ = some (.int .u64 x)) (q5 : w.cell? ⟨g, 5, none⟩ = some (.int .u64 y)) (q6 : w.cell? ⟨g, 6, none⟩ = some (.int .u64 z)) (q7 : w.cell? ⟨g, 7, none⟩ = some (.int .u64 u)) (q8 : w.cell? ⟨g, 8, none⟩ = some (.int .u64 i)) (q9 : w.cell? ⟨g, 9, none⟩ = some (.int .u64 j)) (q10 : w.cell? ⟨g, 10, none⟩ = some (.int .u64 k)) (q11 : w.cell? ⟨g, 11, none⟩ = some (.int .u64 l)) :
    Calls Tryz.prog 129 #[.slice (some ⟨g, 0, none⟩) 3 3] w fun e w' => e = .returned (.agg #[.int .u64 (orr (orr (orr 0 a) x) i), .int .u64 (orr (orr (orr 0 b) y) j), .int .u64 (orr (orr (orr 0 c) z) k), .int .u64 (orr (orr (orr 0 d) u) l)]) ∧ Below w.heap.size w w' := by
  have n0 : ¬ g = w.heap.size := by omega
  have n1 : ¬ g = w.heap.size + 1 := by omega
  have m1 : g < w.heap.size + 1 := by omega
  have n2 : ¬ g = w.heap.size + 1 + 1 := by omega
  have m2 : g < w.heap.size + 1 + 1 := by omega
  have n3 : ¬ g = w.heap.size + 1 + 1 + 1 := by omega
  have m3 : g < w.heap.size + 1 + 1 + 1 := by omega
  have n4 : ¬ g = w.heap.size + 1 + 1 + 1 + 1 := by omega
  have m4 : g < w.heap.size + 1 + 1 + 1 + 1 := by omega
  go_enter Tryz.func129, Tryz.ntmps129
  go_wp2
  refine wp_loop_rounds 4 ?_
  rw [rounds_succ]
  go_wp2
  refine wp_loop_rounds 5 ?_
  rw [rounds_succ]; go_wp2
  go_region
  go_wp2
  rw [rounds_succ]; go_wp2
  go_region
  go_wp2
  rw [rounds_succ]; go_wp2
  go_region
  go_wp2
  rw [rounds_succ]; go_wp2
  go_region
  go_wp2
  rw [rounds_succ]; go_wp2
  rw [rounds_succ]
  go_wp2
  refine wp_loop_rounds 5 ?_
  rw [rounds_succ]; go_wp2
  go_region
  go_wp2
  rw [rounds_succ]; go_wp2
  go_region
  go_wp2
  rw [rounds_succ]; go_wp2
  go_region
  go_wp2
  rw [rounds_succ]; go_wp2
  go_region
  go_wp2
  rw [rounds_succ]; go_wp2
  rw [rounds_succ]
  go_wp2
  refine wp_loop_rounds 5 ?_
  rw [rounds_succ]; go_wp2
  go_region
  go_wp2
  rw [rounds_succ]; go_wp2
  go_region
  go_wp2
  rw [rounds_succ]; go_wp2
  go_region
  go_wp2
  rw [rounds_succ]; go_wp2
  go_region
  go_wp2
  rw [rounds_succ]; go_wp2
  rw [rounds_succ]
  go_wp2
  refine bodyPost_ret (v := .agg #[.int .u64 (orr (orr (orr 0 a) x) i), .int .u64 (orr (orr (orr 0 b) y) j), .int .u64 (orr (orr (orr 0 c) z) k), .int .u64 (orr (orr (orr 0 d) u) l)]) (by simp [results, Tryz.results129, go_sem, orr]) rfl ⟨rfl, ?_⟩
  exact ((below4 _ _ _ _ _).alloc (by simp; omega) _).drew.drew.drew.drew.drew.drew.drew.drew.drew.drew.drew.drew
end Go.Proofs.YtenibhmjcafbiaaGreatDoor
