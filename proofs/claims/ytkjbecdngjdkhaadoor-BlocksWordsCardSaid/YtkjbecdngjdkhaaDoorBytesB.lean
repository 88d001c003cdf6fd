/- Contracts of bytes' functions, continued: Has, Within, OnesCount64, Count, All. -/
import Derived.Test.YtkjbecdngjdkhaaDoorBytesA
import Derived.Test.YtkjbecdngjdkhaaDoorPop
import Derived.Laws.ShiftsVarLaws

import Derived.KernelRfl
namespace Go.Proofs.YtkjbecdngjdkhaaDoor
open Go Go.RowKit
attribute [local go_sem ↓] Go.wp_at_zero Go.wp_at_succ

theorem hid {p : Prop} (h : p) : Hid p := h
def hs (a k : Int) : Bool := bits .and .u64 (a / 2 ^ (k % 64).toNat) 1 == 1
def hasW (a b c d k : Int) : Bool := if k / 64 = 0 then hs a k else if k / 64 = 1 then hs b k else if k / 64 = 2 then hs c k else hs d k
set_option maxHeartbeats 400000 in
theorem has_any (a b c d k : Int) (w : World) (h0 : 0 ≤ k) (h1 : k ≤ 255) :
    Calls Tryd.prog 42 #[.agg #[.int .u64 a, .int .u64 b, .int .u64 c, .int .u64 d], .int .u8 k] w fun e w' => e = .returned (.bool (hasW a b c d k)) ∧ Below w.heap.size w w' := by
  have hk : k / 64 = 0 ∨ k / 64 = 1 ∨ k / 64 = 2 ∨ k / 64 = 3 := by omega
  rcases hk with hk | hk | hk | hk
  all_goals
    have hr : ∀ x, hasW a b c d k = x → Ending.returned (.bool x) = Ending.returned (.bool (hasW a b c d k)) := fun x h => by rw [h]
    have HR := hid hr
    clear hr
    go_enter Tryd.func42, Tryd.ntmps42
    go_wp2
    go_ret
    exact ⟨HR.out _ (by unfold hasW hs; simp [hk]), below1 _ _⟩
set_option maxHeartbeats 400000 in
theorem ones_any (x : Int) (w : World) (h0 : 0 ≤ x) (h1 : x < 18446744073709551616) :
    Calls Tryd.prog 103 #[.int .u64 x] w fun e w' => e = .returned (.int .i64 (Pop.bitsum 64 x.toNat : Int)) ∧ w = w' := by
  have hp := Pop.pw_eq x h0 h1
  have HP := hid hp
  clear hp
  go_enter Tryd.func103, Tryd.ntmps103
  go_wp2
  go_ret
  refine ⟨?_, rfl⟩
  rw [← HP.out]
  rfl
theorem pw_bd (x : Int) : (0 : Int) ≤ (Pop.bitsum 64 x.toNat : Int) ∧ (Pop.bitsum 64 x.toNat : Int) ≤ 64 := by
  have := Pop.bitsum_le 64 x.toNat; omega
/-- How many bits of a word are set. -/
def pw (x : Int) : Int := (Pop.bitsum 64 x.toNat : Int)
theorem pw_bd' (x : Int) : 0 ≤ pw x ∧ pw x ≤ 64 := pw_bd x
theorem ones_pw (x : Int) (w : World) (h0 : 0 ≤ x) (h1 : x < 18446744073709551616) :
    Calls Tryd.prog 103 #[.int .u64 x] w fun e w' => e = .returned (.int .i64 (pw x)) ∧ w = w' := ones_any x w h0 h1
set_option maxHeartbeats 1000000 in
theorem count_any (a b c d : Int) (w : World) (ha : Fit a) (hb : Fit b) (hc : Fit c) (hd : Fit d) :
    Calls Tryd.prog 87 #[.agg #[.int .u64 a, .int .u64 b, .int .u64 c, .int .u64 d]] w fun e w' => e = .returned (.int .i64 (pw a + pw b + pw c + pw d)) ∧ Below w.heap.size w w' := by
  obtain ⟨a0, a1⟩ := ha
  obtain ⟨b0, b1⟩ := hb
  obtain ⟨c0, c1⟩ := hc
  obtain ⟨d0, d1⟩ := hd
  obtain ⟨pa, pa'⟩ := pw_bd' a
  obtain ⟨pb, pb'⟩ := pw_bd' b
  obtain ⟨pc, pc'⟩ := pw_bd' c
  obtain ⟨pd, pd'⟩ := pw_bd' d
  have i0 : ∀ w, (Instr.index 35 (.agg #[.int .u64 a, .int .u64 b, .int .u64 c, .int .u64 d]) (.int .i64 0)).run Tryd.prog w = .ok (.int .u64 a) w := fun _ => by kernel_rfl
  have i1 : ∀ w, (Instr.index 35 (.agg #[.int .u64 a, .int .u64 b, .int .u64 c, .int .u64 d]) (.int .i64 1)).run Tryd.prog w = .ok (.int .u64 b) w := fun _ => by kernel_rfl
  have i2 : ∀ w, (Instr.index 35 (.agg #[.int .u64 a, .int .u64 b, .int .u64 c, .int .u64 d]) (.int .i64 2)).run Tryd.prog w = .ok (.int .u64 c) w := fun _ => by kernel_rfl
  have i3 : ∀ w, (Instr.index 35 (.agg #[.int .u64 a, .int .u64 b, .int .u64 c, .int .u64 d]) (.int .i64 3)).run Tryd.prog w = .ok (.int .u64 d) w := fun _ => by kernel_rfl
  go_enter Tryd.func87, Tryd.ntmps87
  go_wp2
  refine wp_loop_rounds 5 ?_
  rw [rounds_succ]
  go_wp2_with (go_at_call 103; refine (ones_pw _ _ a0 a1).mono ?_; rintro e w' ⟨rfl, rfl⟩)
  rw [rounds_succ]
  go_wp2_with (go_at_call 103; refine (ones_pw _ _ b0 b1).mono ?_; rintro e w' ⟨rfl, rfl⟩)
  rw [rounds_succ]
  go_wp2_with (go_at_call 103; refine (ones_pw _ _ c0 c1).mono ?_; rintro e w' ⟨rfl, rfl⟩)
  rw [rounds_succ]
  go_wp2_with (go_at_call 103; refine (ones_pw _ _ d0 d1).mono ?_; rintro e w' ⟨rfl, rfl⟩)
  rw [rounds_succ]
  go_wp2
  go_ret
  exact ⟨rfl, below1 _ _⟩
set_option maxHeartbeats 1000000 in
theorem all_any (w : World) :
    Calls Tryd.prog 37 #[] w fun e w' => e = .returned (.agg #[.int .u64 (nt 0), .int .u64 (nt 0), .int .u64 (nt 0), .int .u64 (nt 0)]) ∧ Below w.heap.size w w' := by
  go_enter Tryd.func37, Tryd.ntmps37
  go_wp2_with (go_at_call 63; refine (not_any _ _ _ _ _).mono ?_; rintro e w1 ⟨rfl, hb1⟩; obtain ⟨hc1, hf1, hz1⟩ := bcell hb1; have l1 : w.heap.size < w1.heap.size := (by simp at hz1; omega))
  refine bodyPost_ret (v := .agg #[.int .u64 (nt 0), .int .u64 (nt 0), .int .u64 (nt 0), .int .u64 (nt 0)]) (by simp [results, Tryd.results37, go_sem, hc1]) rfl ⟨rfl, ?_⟩
  exact below_set4 (below_next (below1 _ _) hb1 (by simp)) (Nat.le_refl _) _ _ _ _
end Go.Proofs.YtkjbecdngjdkhaaDoor
