/- Contracts of bytes' functions, continued: Has, Within, OnesCount64, Count, All. -/
import Derived.Test.YtenibhmjcafbiaaGreatDoorBytesA
import Derived.Test.YtenibhmjcafbiaaGreatDoorPop
import Derived.Laws.ShiftsVarLaws

import Derived.KernelRfl
namespace Go.Proofs.YtenibhmjcafbiaaGreatDoor
open Go Go.RowKit
attribute [local go_sem ↓] Go.wp_at_zero Go.wp_at_succ

theorem hid {p : Prop} (h : p) : Hid p := h
def hs (a k : Int) : Bool := bits .and .u64 (a / 2 ^ (k % 64).toNat) 1 == 1
def hasW (a b c d k : Int) : Bool := if k / 64 = 0 then hs a k else if k / 64 = 1 then hs b k else if k / 64 = 2 then hs c k else hs d k
set_option maxHeartbeats 400000 in
theorem ones_any (x : Int) (w : World) (h0 : 0 ≤ x) (h1 : x < 18446744073709551616) :
    Calls Tryz.prog 55 #[.int .u64 x] w fun e w' => e = .returned (.int .i64 (Pop.bitsum 64 x.toNat : Int)) ∧ w = w' := by
  have hp := Pop.pw_eq x h0 h1
  have HP := hid hp
  clear hp
  go_enter Tryz.func55, Tryz.ntmps55
  go_wp2
  go_ret
  refine ⟨?_, rfl⟩
  rw [← HP.out]
  rfl
theorem pw_bd (x : Int) : (0 : Int) ≤ (Pop.bitsum 64 x.toNat : Int) ∧ (Pop.bitsum 64 x.toNat : Int) ≤ 64 := by
  have := Pop.bitsum_le 64 x.toNat; omega
/-- How many bits of a word are set. -/
def pw (x : Int) : Int := (Pop.bitsum 64 x.toNat : Int)
theorem pw_bd' (x : Int) : 0 ≤ pw x ∧ pw x ≤ 64 := pw_bd x
theorem ones_pw (x : Int) (w : World) (h0 : 0 ≤ x) (h1 : x < 18446744073709551616) :
    Calls Tryz.prog 55 #[.int .u64 x] w fun e w' => e = .returned (.int .i64 (pw x)) ∧ w = w' := ones_any x w h0 h1
set_option maxHeartbeats 1000000 in
theorem count_any (a b c d : Int) (w : World) (ha : Fit a) (hb : Fit b) (hc : Fit c) (hd : Fit d) :
    Calls Tryz.prog 33 #[.agg #[.int .u64 a, .int .u64 b, .int .u64 c, .int .u64 d]] w fun e w' => e = .returned (.int .i64 (pw a + pw b + pw c + pw d)) ∧ Below w.heap.size w w' := by
  obtain ⟨a0, a1⟩ := ha
  obtain ⟨b0, b1⟩ := hb
  obtain ⟨c0, c1⟩ := hc
  obtain ⟨d0, d1⟩ := hd
  obtain ⟨pa, pa'⟩ := pw_bd' a
  obtain ⟨pb, pb'⟩ := pw_bd' b
  obtain ⟨pc, pc'⟩ := pw_bd' c
  obtain ⟨pd, pd'⟩ := pw_bd' d
  have i0 : ∀ w, (Instr.index 34 (.agg #[.int .u64 a, .int .u64 b, .int .u64 c, .int .u64 d]) (.int .i64 0)).run Tryz.prog w = .ok (.int .u64 a) w := fun _ => by kernel_rfl
  have i1 : ∀ w, (Instr.index 34 (.agg #[.int .u64 a, .int .u64 b, .int .u64 c, .int .u64 d]) (.int .i64 1)).run Tryz.prog w = .ok (.int .u64 b) w := fun _ => by kernel_rfl
  have i2 : ∀ w, (Instr.index 34 (.agg #[.int .u64 a, .int .u64 b, .int .u64 c, .int .u64 d]) (.int .i64 2)).run Tryz.prog w = .ok (.int .u64 c) w := fun _ => by kernel_rfl
  have i3 : ∀ w, (Instr.index 34 (.agg #[.int .u64 a, .int .u64 b, .int .u64 c, .int .u64 d]) (.int .i64 3)).run Tryz.prog w = .ok (.int .u64 d) w := fun _ => by kernel_rfl
  go_enter Tryz.func33, Tryz.ntmps33
  go_wp2
  refine wp_loop_rounds 5 ?_
  rw [rounds_succ]
  go_wp2_with (go_at_call 55; refine (ones_pw _ _ a0 a1).mono ?_; rintro e w' ⟨rfl, rfl⟩)
  rw [rounds_succ]
  go_wp2_with (go_at_call 55; refine (ones_pw _ _ b0 b1).mono ?_; rintro e w' ⟨rfl, rfl⟩)
  rw [rounds_succ]
  go_wp2_with (go_at_call 55; refine (ones_pw _ _ c0 c1).mono ?_; rintro e w' ⟨rfl, rfl⟩)
  rw [rounds_succ]
  go_wp2_with (go_at_call 55; refine (ones_pw _ _ d0 d1).mono ?_; rintro e w' ⟨rfl, rfl⟩)
  rw [rounds_succ]
  go_wp2
  go_ret
  exact ⟨rfl, below1 _ _⟩
end Go.Proofs.YtenibhmjcafbiaaGreatDoor
