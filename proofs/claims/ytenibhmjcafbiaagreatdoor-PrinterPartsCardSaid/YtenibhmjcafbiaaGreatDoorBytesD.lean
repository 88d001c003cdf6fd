/- Contracts of bytes' functions, continued: Of any bytes, and the document's example. -/
import Derived.Test.YtenibhmjcafbiaaGreatDoorBytesC
import Derived.LoopTactic
namespace Go.Proofs.YtenibhmjcafbiaaGreatDoor
open Go Go.RowKit
attribute [local go_sem ↓] Go.wp_at_zero Go.wp_at_succ
attribute [local go_sem] eq4
/-- The word in which bit b alone is set. -/
def bitw (b : Int) : Int := IntKind.u64.wrap (2 ^ (b % 64).toNat)
/-- Word k of the set of the first n bytes of l. -/
def ofw (l : Nat → Int) : Nat → Int → Int
  | 0, _ => 0
  | n + 1, k => if l n / 64 = k then orr (ofw l n k) (bitw (l n)) else ofw l n k
set_option maxHeartbeats 1000000 in
theorem of_any (g o len cap : Nat) (l : Nat → Int) (w : World) (hg : g < w.heap.size) (hlen : len ≤ 140737488351232) (hl0 : ∀ j, 0 ≤ l j) (hl1 : ∀ j, l j ≤ 255)
    (hc : ∀ j, j < len → w.cell? ⟨g, o + j, none⟩ = some (.int .u8 (l j))) :
    Calls Tryz.prog 32 #[.slice (some ⟨g, o, none⟩) len cap] w fun e w' => e = .returned (.agg #[.int .u64 (ofw l len 0), .int .u64 (ofw l len 1), .int .u64 (ofw l len 2), .int .u64 (ofw l len 3)]) ∧ Below w.heap.size w w' := by
  have m1 : g < w.heap.size + 1 := by omega
  have m2 : g < w.heap.size + 1 + 1 := by omega
  go_enter Tryz.func32, Tryz.ntmps32
  go_wp2
  go_loopw [8] (fun i wr => ∃ k : Nat, k ≤ len ∧ i = .int .i64 k ∧ wr = (w.alloc (.cells #[.int .u64 0, .int .u64 0, .int .u64 0, .int .u64 0] 34)).alloc (.cells #[.int .u64 (ofw l k 0), .int .u64 (ofw l k 1), .int .u64 (ofw l k 2), .int .u64 (ofw l k 3)] 34)) (fun i _ => len - (intOf i).toNat)
  case atStart => exact ⟨0, Nat.zero_le _, rfl, rfl⟩
  case round =>
    obtain ⟨k, hk, rfl, rfl⟩ := hrel
    by_cases hlt : k < len
    · have hcell := hc k hlt
      have b0 := hl0 k
      have b1 := hl1 k
      clear hc hl0 hl1
      generalize hbe : l k = b at *
      have HB := hid hbe
      clear hbe
      have hq : b / 64 = 0 ∨ b / 64 = 1 ∨ b / 64 = 2 ∨ b / 64 = 3 := by omega
      rcases hq with hq | hq | hq | hq
      all_goals
        go_wp2
        refine ⟨⟨k + 1, by omega, by simp, ?_⟩, by simp [intOf]; omega⟩
        simp [ofw, HB.out, hq, orr, bitw]
    · have e : k = len := by omega
      subst e
      clear hc hl0 hl1
      go_wp2
      exact bodyPost_ret (v := .agg #[.int .u64 (ofw l k 0), .int .u64 (ofw l k 1), .int .u64 (ofw l k 2), .int .u64 (ofw l k 3)]) (by simp [results, Tryz.results32, go_sem]) rfl ⟨rfl, below2 _ _ _⟩
end Go.Proofs.YtenibhmjcafbiaaGreatDoor
