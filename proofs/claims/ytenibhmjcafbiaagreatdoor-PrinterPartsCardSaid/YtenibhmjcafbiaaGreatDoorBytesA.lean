/- Contracts of bytes' functions: each tells its set's words, and leaves old memory as it was. -/
import Derived.Test.YtenibhmjcafbiaaGreatDoorRows
import Derived.Test.YtenibhmjcafbiaaGreatDoorWords
import Derived.WalkKit
import Derived.WalkSpells
import Derived.WalkLawsBesides
import Derived.LoopN
import Derived.RegionTactic
import Derived.BigRegion
import Derived.BigQuiet
import Derived.Deep.QuietTactic
import Derived.Deep.RegionHeld3
import Derived.Deep.DrawnRows
namespace Go.Proofs.YtenibhmjcafbiaaGreatDoor
open Go Go.RowKit
attribute [local go_sem ↓] Go.wp_at_zero Go.wp_at_succ
theorem bcell {W w1 : World} (hb : Below W.heap.size W w1) : (∀ b o, b < W.heap.size → w1.cell? ⟨b, o, none⟩ = W.cell? ⟨b, o, none⟩) ∧ (∀ b o, b < W.heap.size → w1.frozen? ⟨b, o, none⟩ = W.frozen? ⟨b, o, none⟩) ∧ W.heap.size ≤ w1.heap.size :=
  ⟨fun b o h => hb.cell (p := ⟨b, o, none⟩) h, fun b o h => hb.frozen (p := ⟨b, o, none⟩) h, hb.size⟩
theorem below1 (w : World) (a : Obj) : Below w.heap.size w (w.alloc a) := (Below.refl _ _).alloc (Nat.le_refl _) _
theorem below2 (w : World) (a b : Obj) : Below w.heap.size w ((w.alloc a).alloc b) := (below1 w a).alloc (by simp) _
theorem below3 (w : World) (a b c : Obj) : Below w.heap.size w (((w.alloc a).alloc b).alloc c) := (below2 w a b).alloc (by simp; omega) _
theorem below4 (w : World) (a b c d : Obj) : Below w.heap.size w ((((w.alloc a).alloc b).alloc c).alloc d) := (below3 w a b c).alloc (by simp; omega) _
theorem below_next {B : Nat} {W X Y : World} (h : Below B W X) (hb : Below X.heap.size X Y) (hB : B ≤ X.heap.size) : Below B W Y := h.trans (hb.mono hB)
theorem below_set4 {B : Nat} {W X : World} (h : Below B W X) {b : Nat} (hB : B ≤ b) (v0 v1 v2 v3 : Value) : Below B W ((((X.setCell ⟨b, 0, none⟩ v0).setCell ⟨b, 1, none⟩ v1).setCell ⟨b, 2, none⟩ v2).setCell ⟨b, 3, none⟩ v3) :=
  (((h.setCell hB v0).setCell hB v1).setCell hB v2).setCell hB v3
theorem size_drew (w : World) : w.drew.heap.size = w.heap.size := rfl
set_option maxHeartbeats 400000 in
theorem not_any (a b c d : Int) (w : World) :
    Calls Tryz.prog 31 #[.agg #[.int .u64 a, .int .u64 b, .int .u64 c, .int .u64 d]] w fun e w' => e = .returned (.agg #[.int .u64 (nt a), .int .u64 (nt b), .int .u64 (nt c), .int .u64 (nt d)]) ∧ Below w.heap.size w w' := by
  go_enter Tryz.func31, Tryz.ntmps31
  go_wp2
  refine wp_loop_rounds 5 ?_
  rw [rounds_succ]; go_wp2
  rw [rounds_succ]; go_wp2
  rw [rounds_succ]; go_wp2
  rw [rounds_succ]; go_wp2
  rw [rounds_succ]; go_wp2
  exact bodyPost_ret (v := .agg #[.int .u64 (nt a), .int .u64 (nt b), .int .u64 (nt c), .int .u64 (nt d)]) (by simp [results, Tryz.results31, go_sem, nt]) rfl ⟨rfl, below2 _ _ _⟩
set_option maxHeartbeats 400000 in
theorem fold_any (a b c d : Int) (w : World) :
    Calls Tryz.prog 137 #[.agg #[.int .u64 a, .int .u64 b, .int .u64 c, .int .u64 d]] w fun e w' => e = .returned (.agg #[.int .u64 a, .int .u64 (fo b), .int .u64 c, .int .u64 d]) ∧ Below w.heap.size w w' := by
  go_enter Tryz.func137, Tryz.ntmps137
  go_wp2
  exact bodyPost_ret (v := .agg #[.int .u64 a, .int .u64 (fo b), .int .u64 c, .int .u64 d]) (by simp [results, Tryz.results137, go_sem, fo]) rfl ⟨rfl, below2 _ _ _⟩
set_option maxHeartbeats 1000000 in
theorem meet_any (a b c d x y z u : Int) (w : World) :
    Calls Tryz.prog 91 #[.agg #[.int .u64 a, .int .u64 b, .int .u64 c, .int .u64 d], .agg #[.int .u64 x, .int .u64 y, .int .u64 z, .int .u64 u]] w fun e w' => e = .returned (.agg #[.int .u64 (an a x), .int .u64 (an b y), .int .u64 (an c z), .int .u64 (an d u)]) ∧ Below w.heap.size w w' := by
  go_enter Tryz.func91, Tryz.ntmps91
  go_wp2
  refine wp_loop_rounds 5 ?_
  rw [rounds_succ]; go_wp2
  go_region
  go_wp2
  rw [rounds_succ]; go_wp2
  go_region
  go_wp2
  rw [rounds_succ]; go_wp2
  go_region
  go_wp2
  rw [rounds_succ]; go_wp2
  go_region
  go_wp2
  rw [rounds_succ]; go_wp2
  exact bodyPost_ret (v := .agg #[.int .u64 (an a x), .int .u64 (an b y), .int .u64 (an c z), .int .u64 (an d u)]) (by simp [results, Tryz.results91, go_sem, an]) rfl ⟨rfl, (below3 _ _ _ _).drew.drew.drew.drew⟩
set_option maxHeartbeats 1000000 in
theorem minus_any (a b c d x y z u : Int) (w : World) :
    Calls Tryz.prog 71 #[.agg #[.int .u64 a, .int .u64 b, .int .u64 c, .int .u64 d], .agg #[.int .u64 x, .int .u64 y, .int .u64 z, .int .u64 u]] w fun e w' => e = .returned (.agg #[.int .u64 (an a (nt x)), .int .u64 (an b (nt y)), .int .u64 (an c (nt z)), .int .u64 (an d (nt u))]) ∧ Below w.heap.size w w' := by
  go_enter Tryz.func71, Tryz.ntmps71
  go_wp2_with fail
  have l0 : w.heap.size < w.heap.size + 1 + 1 + 1 := by omega
  have n0 : ¬ w.heap.size = w.heap.size + 1 + 1 := by omega
  have n1 : ¬ w.heap.size + 1 + 1 = w.heap.size := by omega
  go_region_held3 (fun w' => w'.cell? ⟨w.heap.size, 0, none⟩ = some (.int .u64 a) ∧ w'.cell? ⟨w.heap.size, 1, none⟩ = some (.int .u64 b) ∧ w'.cell? ⟨w.heap.size, 2, none⟩ = some (.int .u64 c) ∧ w'.cell? ⟨w.heap.size, 3, none⟩ = some (.int .u64 d)
     ∧ w'.cell? ⟨w.heap.size + 1, 0, none⟩ = some (.int .u64 x) ∧ w'.cell? ⟨w.heap.size + 1, 1, none⟩ = some (.int .u64 y) ∧ w'.cell? ⟨w.heap.size + 1, 2, none⟩ = some (.int .u64 z) ∧ w'.cell? ⟨w.heap.size + 1, 3, none⟩ = some (.int .u64 u)) (go_keep)
    (first
      | (go_at_call 31; refine (not_any _ _ _ _ _).mono ?_; rintro e w1 ⟨rfl, hb1⟩; obtain ⟨hc1, hf1, hz1⟩ := bcell hb1; (try simp at hz1); have l1 : w.heap.size < w1.heap.size := (by omega); have l2 : w.heap.size + 1 < w1.heap.size := (by omega); have l3 : w.heap.size + 1 + 1 < w1.heap.size := (by omega))
      | (go_at_call 91; refine (meet_any _ _ _ _ _ _ _ _ _).mono ?_; rintro e w2 ⟨rfl, hb2⟩; obtain ⟨hc2, hf2, hz2⟩ := bcell hb2; have l4 : w.heap.size + 1 + 1 < w2.heap.size := (by omega)))
  go_wp2
  refine bodyPost_ret (v := .agg #[.int .u64 (an a (nt x)), .int .u64 (an b (nt y)), .int .u64 (an c (nt z)), .int .u64 (an d (nt u))]) (by simp [results, Tryz.results71, go_sem, hc1, hc2, l3]) rfl ⟨rfl, ?_⟩
  exact below_set4 (below_next (below_next (below3 _ _ _ _).drew hb1 (by rw [size_drew]; simp; omega)) hb2 (by omega)) (by omega) _ _ _ _
end Go.Proofs.YtenibhmjcafbiaaGreatDoor
