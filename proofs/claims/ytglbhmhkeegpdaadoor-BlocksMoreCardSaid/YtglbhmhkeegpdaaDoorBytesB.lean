/- Contracts of bytes' functions, continued: Has, Within, OnesCount64, Count, All. -/
import Derived.Test.YtglbhmhkeegpdaaDoorBytesA
import Derived.Test.YtglbhmhkeegpdaaDoorPop
import Derived.Laws.ShiftsVarLaws

import Derived.KernelRfl
namespace Go.Proofs.YtglbhmhkeegpdaaDoor
open Go Go.RowKit
attribute [local go_sem ↓] Go.wp_at_zero Go.wp_at_succ

theorem hid {p : Prop} (h : p) : Hid p := h
def hs (a k : Int) : Bool := bits .and .u64 (a / 2 ^ (k % 64).toNat) 1 == 1
def hasW (a b c d k : Int) : Bool := if k / 64 = 0 then hs a k else if k / 64 = 1 then hs b k else if k / 64 = 2 then hs c k else hs d k
set_option maxHeartbeats 400000 in
theorem has_any (a b c d k : Int) (w : World) (h0 : 0 ≤ k) (h1 : k ≤ 255) :
    Calls Tryd.prog 41 #[.agg #[.int .u64 a, .int .u64 b, .int .u64 c, .int .u64 d], .int .u8 k] w fun e w' => e = .returned (.bool (hasW a b c d k)) ∧ Below w.heap.size w w' := by
  have hk : k / 64 = 0 ∨ k / 64 = 1 ∨ k / 64 = 2 ∨ k / 64 = 3 := by omega
  rcases hk with hk | hk | hk | hk
  all_goals
    have hr : ∀ x, hasW a b c d k = x → Ending.returned (.bool x) = Ending.returned (.bool (hasW a b c d k)) := fun x h => by rw [h]
    have HR := hid hr
    clear hr
    go_enter Tryd.func41, Tryd.ntmps41
    go_wp2
    go_ret
    exact ⟨HR.out _ (by unfold hasW hs; simp [hk]), below1 _ _⟩
theorem pw_bd (x : Int) : (0 : Int) ≤ (Pop.bitsum 64 x.toNat : Int) ∧ (Pop.bitsum 64 x.toNat : Int) ≤ 64 := by
  have := Pop.bitsum_le 64 x.toNat; omega
/-- How many bits of a word are set. -/
def pw (x : Int) : Int := (Pop.bitsum 64 x.toNat : Int)
theorem pw_bd' (x : Int) : 0 ≤ pw x ∧ pw x ≤ 64 := pw_bd x
set_option maxHeartbeats 1000000 in
theorem all_any (w : World) :
    Calls Tryd.prog 36 #[] w fun e w' => e = .returned (.agg #[.int .u64 (nt 0), .int .u64 (nt 0), .int .u64 (nt 0), .int .u64 (nt 0)]) ∧ Below w.heap.size w w' := by
  go_enter Tryd.func36, Tryd.ntmps36
  go_wp2_with (go_at_call 55; refine (not_any _ _ _ _ _).mono ?_; rintro e w1 ⟨rfl, hb1⟩; obtain ⟨hc1, hf1, hz1⟩ := bcell hb1; have l1 : w.heap.size < w1.heap.size := (by simp at hz1; omega))
  refine bodyPost_ret (v := .agg #[.int .u64 (nt 0), .int .u64 (nt 0), .int .u64 (nt 0), .int .u64 (nt 0)]) (by simp [results, Tryd.results36, go_sem, hc1]) rfl ⟨rfl, ?_⟩
  exact below_set4 (below_next (below1 _ _) hb1 (by simp)) (Nat.le_refl _) _ _ _ _
end Go.Proofs.YtglbhmhkeegpdaaDoor
