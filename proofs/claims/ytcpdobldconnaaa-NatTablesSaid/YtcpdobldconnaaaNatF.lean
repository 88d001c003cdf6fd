/- Contracts for tables: the longest row. -/
import Derived.Test.YtcpdobldconnaaaNatE
namespace Go.Proofs.Ytcpdobldconnaaa
open Go Go.RowKit
theorem widest_any (a n : Nat) (p : Option Addr) (c : Nat) (w : World) (ha : a ≤ 9223372036854775807) (hn : n ≤ 9223372036854775807) :
    Calls Try.prog 49 #[.int .i64 a, .slice p n c] w fun e w' => e = .returned (.int .i64 ((max a n : Nat) : Int)) ∧ w = w' := by
  by_cases h : a < n
  · rw [show max a n = n by omega]
    go_enter Try.func49, Try.ntmps49
    go_wp2
    go_ret
    exact ⟨rfl, rfl⟩
  · rw [show max a n = a by omega]
    go_enter Try.func49, Try.ntmps49
    go_wp2
    go_ret
    exact ⟨rfl, rfl⟩
/-- The length of the longest of the first k rows. -/
def wid (L : Nat → Nat) : Nat → Nat
  | 0 => 0
  | k + 1 => max (wid L k) (L k)
theorem wid_le (L : Nat → Nat) (B : Nat) (k : Nat) (h : ∀ j, j < k → L j ≤ B) : wid L k ≤ B := by
  induction k with
  | zero => exact Nat.zero_le _
  | succ k ih => exact Nat.max_le.2 ⟨ih fun j hj => h j (by omega), h k (by omega)⟩
theorem le_wid (L : Nat → Nat) (k j : Nat) (h : j < k) : L j ≤ wid L k := by
  induction k with
  | zero => omega
  | succ k ih =>
    by_cases e : j = k
    · subst e; exact Nat.le_max_right _ _
    · exact Nat.le_trans (ih (by omega)) (Nat.le_max_left _ _)
set_option maxHeartbeats 1000000 in
theorem width_any (p : Option Addr) (n c : Nat) (A : Nat → Option Addr) (L C : Nat → Nat) (Z : Nat → Nat → Int) (w : World) (h : RowsAt w p n A L C Z) :
    Calls Try.prog 48 #[.slice p n c, .int .i64 0, .func (.func 49) #[] #[]] w fun e w' => e = .returned (.int .i64 (wid L n : Int)) ∧ w = w' := by
  obtain ⟨hn, h⟩ := h
  have HX := nhid h
  clear h
  go_enter Try.func48, Try.ntmps48
  go_wp2_with fail
  go_loop [1, 11] (fun t i => ∃ k : Nat, k ≤ n ∧ i = .int .i64 k ∧ t = .int .i64 (wid L k : Int)) (fun _ i => n - (intOf i).toNat)
  case atStart => exact ⟨0, Nat.zero_le _, rfl, rfl⟩
  case round =>
    obtain ⟨k, hk, rfl, rfl⟩ := hrel
    by_cases hlt : k < n
    · obtain ⟨g, o, rfl, _, hc⟩ := HX.out.resolve_left (by omega)
      have hcell := (hc k hlt).1
      have hl := (hc k hlt).2.1
      have hw := nhid (wid_le L 9223372036854775807 k fun j hj => (hc j (by omega)).2.1)
      have HL := nhid hl
      clear hc HX hl
      go_wp2_with (go_at_call 49; refine (widest_any _ _ _ _ _ hw.out HL.out).mono ?_; rintro e w' ⟨rfl, rfl⟩)
      go_round
      case rel => exact ⟨k + 1, by omega, by go_num, rfl⟩
      case measure => simp [intOf]; omega
    · have e : k = n := by omega
      subst e
      go_wp2
      go_ret
      exact ⟨rfl, rfl⟩
end Go.Proofs.Ytcpdobldconnaaa
