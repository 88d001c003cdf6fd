/- The number of zero bits below the lowest one, and a set's least byte. -/
import Derived.Test.YtenibhmjcafbiaaGreatDoorRefD
import Derived.Lib.TrailingZeros
import Derived.Laws.Bits64b
import Derived.Shelf.Spec.TrailingZeros
namespace Go.Proofs.YtenibhmjcafbiaaGreatDoor
open Go Go.RowKit
attribute [local go_sem ↓] Go.wp_at_zero Go.wp_at_succ
attribute [local go_sem] eq4
/-- The table that the program's text lays. -/
def Tab (w : World) : Prop := ∀ j, j < 64 → w.cell? ⟨0, j, none⟩ = some (.int .u8 (Lib.deBruijn64tab.getD j 0))
theorem Tab.below {B : Nat} {w w' : World} (h : Tab w) (hb : Below B w w') (hB : 0 < B) : Tab w' := fun j hj => (hb.cell (p := ⟨0, j, none⟩) hB).trans (h j hj)
theorem Tab.lt {w : World} (h : Tab w) : 0 < w.heap.size := by
  have h0 := h 0 (by omega)
  by_cases hg : 0 < w.heap.size
  · exact hg
  · have hn : w.heap[0]? = none := Array.getElem?_eq_none (by omega)
    unfold World.cell? at h0
    simp [hn] at h0
theorem Tab.drew {w : World} (h : Tab w) : Tab w.drew := h
theorem Tab.drewN {w : World} (h : Tab w) (n : Nat) : Tab (w.drewN n) := h
theorem Tab.alloc {w : World} (h : Tab w) (o : Obj) : Tab (w.alloc o) := h.below (below1 w o) h.lt
theorem Tab.up {w w' : World} (h : Tab w) (hb : Below w.heap.size w w') : Tab w' := h.below hb h.lt
set_option maxHeartbeats 1000000 in
theorem tz_core (x k idx : Nat) (w : World) (hx0 : ((x : Int) == 0) = false)
    (key : IntKind.u64.wrap (bits BinOp.and IntKind.u64 (x : Int) (IntKind.u64.wrap (-(x : Int))) * 285870213051353865) / 288230376151711744 = (idx : Int))
    (hi : idx < 64) (hk : k < 64) (hcell : w.cell? ⟨0, idx, none⟩ = some (.int .u8 k)) :
    Calls Tryz.prog 56 #[.int .u64 x] w fun e w' => e = .returned (.int .i64 k) ∧ w = w' := by
  go_enter Tryz.func56, Tryz.ntmps56
  go_wp2_with (simp only [key])
  go_ret
  exact ⟨rfl, rfl⟩
theorem tz_any (x : Nat) (hx : x < 18446744073709551616) (hx0 : x ≠ 0) (w : World) (hT : Tab w) :
    Calls Tryz.prog 56 #[.int .u64 x] w fun e w' => e = .returned (.int .i64 (Lib.ctz 64 x)) ∧ w = w' := by
  obtain ⟨hlow, hk⟩ := Lib.lowest_bit 64 x hx0 hx
  obtain ⟨hi, htab⟩ := Lib.deBruijn64_at _ hk
  refine tz_core x _ _ w (by rw [beq_eq_false_iff_ne]; omega) (tz64_key x _ hx hx0 hlow) hi hk ?_
  have := hT _ hi
  rw [htab] at this
  exact this
theorem ctz_at {X i : Nat} (hX : X < 18446744073709551616) (h1 : X.testBit i = true) (h2 : ∀ j, j < i → X.testBit j = false) : Lib.ctz 64 X = i := by
  have h0 : X ≠ 0 := by intro e; subst e; simp at h1
  have hc : Lib.ctz 64 X = Lib.ctzFrom 64 X := by unfold Lib.ctz; rw [if_neg h0]
  obtain ⟨m, hm, hk⟩ := Lib.ctzFrom_spec 64 X (by omega) hX
  rw [hc]
  generalize Lib.ctzFrom 64 X = k at *
  have hb : ∀ j, X.testBit j = (decide (k ≤ j) && (2 * m + 1).testBit (j - k)) := by
    intro j; rw [hm, Nat.testBit_two_pow_mul]
  have hkk : X.testBit k = true := by rw [hb]; simp
  rcases Nat.lt_trichotomy k i with h | h | h
  · rw [h2 k h] at hkk; cases hkk
  · exact h
  · rw [hb] at h1; simp at h1; omega
theorem V_testBit {x : Int} (fx : Fit x) (i : Nat) : (V x).getLsbD i = x.toNat.testBit i := by
  have h := V_toNat fx
  have e : x.toNat = (V x).toNat := by omega
  rw [e]
  rfl
theorem zero_word {x : Int} (fx : Fit x) (h : ∀ i, i < 64 → (V x).getLsbD i = false) : x = 0 := by
  refine V_inj fx ⟨by omega, by omega⟩ (BitVec.eq_of_getLsbD_eq fun i hi => ?_)
  rw [h i hi, V0]; simp
set_option maxRecDepth 100000 in
set_option maxHeartbeats 1000000 in
theorem first_none (w : World) :
    Calls Tryz.prog 34 #[.agg #[.int .u64 0, .int .u64 0, .int .u64 0, .int .u64 0]] w fun e w' => e = .returned (.tuple #[.int .u8 0, .bool false]) ∧ Below w.heap.size w w' := by
  have i0 : ∀ w, (Instr.index 34 (.agg #[.int .u64 0, .int .u64 0, .int .u64 0, .int .u64 0]) (.int .i64 0)).run Tryz.prog w = .ok (.int .u64 0) w := fun _ => by kernel_rfl
  have i1 : ∀ w, (Instr.index 34 (.agg #[.int .u64 0, .int .u64 0, .int .u64 0, .int .u64 0]) (.int .i64 1)).run Tryz.prog w = .ok (.int .u64 0) w := fun _ => by kernel_rfl
  have i2 : ∀ w, (Instr.index 34 (.agg #[.int .u64 0, .int .u64 0, .int .u64 0, .int .u64 0]) (.int .i64 2)).run Tryz.prog w = .ok (.int .u64 0) w := fun _ => by kernel_rfl
  have i3 : ∀ w, (Instr.index 34 (.agg #[.int .u64 0, .int .u64 0, .int .u64 0, .int .u64 0]) (.int .i64 3)).run Tryz.prog w = .ok (.int .u64 0) w := fun _ => by kernel_rfl
  go_enter Tryz.func34, Tryz.ntmps34
  go_wp2_with fail
  refine wp_loop_rounds 5 ?_
  rw [rounds_succ]; go_wp2_with fail
  rw [rounds_succ]; go_wp2_with fail
  rw [rounds_succ]; go_wp2_with fail
  rw [rounds_succ]; go_wp2_with fail
  rw [rounds_succ]; go_wp2_with fail
  go_ret2
  exact ⟨rfl, below1 _ _⟩
set_option maxRecDepth 100000 in
set_option maxHeartbeats 1000000 in
theorem first_q (q : Nat) (a b c d : Int) (x k : Nat) (w : World) (hT : Tab w) (hx : x < 18446744073709551616) (hx0 : x ≠ 0) (hk : Lib.ctz 64 x = k) (hk64 : k < 64)
    (hq : (q = 0 ∧ a = x) ∨ (q = 1 ∧ a = 0 ∧ b = x) ∨ (q = 2 ∧ a = 0 ∧ b = 0 ∧ c = x) ∨ (q = 3 ∧ a = 0 ∧ b = 0 ∧ c = 0 ∧ d = x)) :
    Calls Tryz.prog 34 #[.agg #[.int .u64 a, .int .u64 b, .int .u64 c, .int .u64 d]] w fun e w' => e = .returned (.tuple #[.int .u8 ((64 * q + k : Nat) : Int), .bool true]) ∧ Below w.heap.size w w' := by
  have i0 : ∀ w, (Instr.index 34 (.agg #[.int .u64 a, .int .u64 b, .int .u64 c, .int .u64 d]) (.int .i64 0)).run Tryz.prog w = .ok (.int .u64 a) w := fun _ => by kernel_rfl
  have i1 : ∀ w, (Instr.index 34 (.agg #[.int .u64 a, .int .u64 b, .int .u64 c, .int .u64 d]) (.int .i64 1)).run Tryz.prog w = .ok (.int .u64 b) w := fun _ => by kernel_rfl
  have i2 : ∀ w, (Instr.index 34 (.agg #[.int .u64 a, .int .u64 b, .int .u64 c, .int .u64 d]) (.int .i64 2)).run Tryz.prog w = .ok (.int .u64 c) w := fun _ => by kernel_rfl
  have i3 : ∀ w, (Instr.index 34 (.agg #[.int .u64 a, .int .u64 b, .int .u64 c, .int .u64 d]) (.int .i64 3)).run Tryz.prog w = .ok (.int .u64 d) w := fun _ => by kernel_rfl
  have HT := hid hT
  have HK := hid hk
  have HX0 := hid hx0
  have hz : ((x : Int) == 0) = false := by rw [beq_eq_false_iff_ne]; omega
  clear hT hk hx0
  rcases hq with ⟨rfl, rfl⟩ | ⟨rfl, rfl, rfl⟩ | ⟨rfl, rfl, rfl, rfl⟩ | ⟨rfl, rfl, rfl, rfl, rfl⟩
  all_goals
    go_enter Tryz.func34, Tryz.ntmps34
    go_wp2_with fail
    refine wp_loop_rounds 5 ?_
    rw [rounds_succ]; go_wp2_with fail
    iterate 3 (first | (rw [rounds_succ]; go_wp2_with fail) | skip)
    refine (tz_any x hx HX0.out _ (HT.out.alloc _)).mono ?_
    rintro e w1 ⟨rfl, rfl⟩
    rw [HK.out]
    go_wp2_with fail
    go_ret2
    exact ⟨by simp, below1 _ _⟩
end Go.Proofs.YtenibhmjcafbiaaGreatDoor
