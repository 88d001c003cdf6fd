/- The law NatFolds, walked. -/
import Derived.Test.YtcpdobldconnaaaNatD
import Derived.Below
import Derived.Test.YtcpdobldconnaaaOpenInts
namespace Go.Proofs.Ytcpdobldconnaaa
open Go Go.RowKit
def Done (w : World) (e : Ending) (w' : World) : Prop := e = .returned (.bool true) ∧ Below w.heap.size w w'
set_option maxHeartbeats 1000000 in
set_option maxRecDepth 100000 in
theorem folds_nil (q : Option Addr) (cap : Nat) (w : World) : Calls Try.prog 6 #[.slice q 0 cap] w (Done w) := by
  go_enter Try.func6, Try.ntmps6
  go_wp2_with fail
  go_loop [3, 4, 5] (fun s p i => s = .int .i64 0 ∧ p = .int .i64 1 ∧ i = .int .i64 0) (fun _ _ _ => 0)
  case atStart => exact ⟨rfl, rfl, rfl⟩
  case round =>
    obtain ⟨rfl, rfl, rfl⟩ := hrel
    go_wp2_with fail
    refine (add_nil _ _ _).mono ?_
    rintro e w1 ⟨rfl, rfl⟩
    go_wp2_with fail
    refine (sum_nil _ _ _).mono ?_
    rintro e w1 ⟨rfl, rfl⟩
    go_wp2_with fail
    refine (mul_nil _ _ _).mono ?_
    rintro e w1 ⟨rfl, rfl⟩
    go_wp2_with fail
    refine (nawake_any _).mono ?_
    rintro e w1 ⟨rfl, hb1⟩
    go_wp2
    go_ret
    exact ⟨rfl, hb1⟩
set_option maxHeartbeats 1000000 in
set_option maxRecDepth 100000 in
theorem folds_long (a : Addr) (len cap : Nat) (h : 100 < len) (_ : len ≤ 9223372036854775807) (w : World) : Calls Try.prog 6 #[.slice (some a) len cap] w (Done w) := by
  go_enter Try.func6, Try.ntmps6
  go_wp2_with fail
  refine (nawake_any _).mono ?_
  rintro e w1 ⟨rfl, hb1⟩
  go_wp2
  go_ret
  exact ⟨rfl, hb1⟩
set_option maxHeartbeats 1000000 in
set_option maxRecDepth 100000 in
theorem folds_some (g o len cap : Nat) (l : Nat → Int) (w : World) (hlen : len ≤ 100) (hl : ∀ j, j < len → l j ≤ top)
    (hc : ∀ j, j < len → w.cell? ⟨g, o + j, none⟩ = some (.int .i64 (l j))) :
    Calls Try.prog 6 #[.slice (some ⟨g, o, none⟩) len cap] w (Done w) := by
  have HC := nhid hc
  have HL := nhid hl
  clear hc hl
  go_enter Try.func6, Try.ntmps6
  go_wp2_with fail
  go_loop [3, 4, 5] (fun s p i => ∃ k : Nat, k ≤ len ∧ i = .int .i64 k ∧ s = .int .i64 (fol pl 0 l k) ∧ p = .int .i64 (fol ti 1 l k)) (fun _ _ i => len - (intOf i).toNat)
  case atStart => exact ⟨0, by omega, rfl, rfl, rfl⟩
  case round =>
    obtain ⟨k, hk, rfl, rfl, rfl⟩ := hrel
    have HP := nhid (fol_le pl_le (show (0 : Int) ≤ top by unfold top; omega) l k)
    have HT := nhid (fol_le ti_le (show (1 : Int) ≤ top by unfold top; omega) l k)
    by_cases hlt : k < len
    · have hcell := HC.out k hlt
      have HK := nhid (HL.out k hlt)
      go_wp2_with (first
        | (go_at_call 26; refine (refadd_any _ _ _ HP.out HK.out).mono ?_; rintro e w' ⟨rfl, rfl⟩)
        | (go_at_call 27; refine (refmul_any _ _ _ HT.out HK.out).mono ?_; rintro e w' ⟨rfl, rfl⟩))
      go_round
      case rel => exact ⟨k + 1, by omega, by go_num, rfl, rfl⟩
      case measure => simp [intOf]; omega
    · have e1 : k = len := by omega
      subst e1
      go_wp2_with fail
      refine (add_any _ _ _ _ l _ (by omega) HL.out HC.out).mono ?_
      rintro e w1 ⟨rfl, rfl⟩
      go_wp2_with fail
      refine (sum_any _ _ _ _ l _ (by omega) HL.out HC.out).mono ?_
      rintro e w1 ⟨rfl, rfl⟩
      go_wp2_with fail
      refine (mul_any _ _ _ _ l _ (by omega) HL.out HC.out).mono ?_
      rintro e w1 ⟨rfl, rfl⟩
      go_wp2_with fail
      refine (nawake_any _).mono ?_
      rintro e w1 ⟨rfl, hb1⟩
      go_wp2
      go_ret
      exact ⟨rfl, hb1⟩
theorem folds_walk (v : Value) (w : World) (h : IntsIn w v) : Calls Try.prog 6 #[v] w (Done w) := by
  rcases h with ⟨q, cap, rfl⟩ | ⟨g, o, len, cap, l, rfl, h0, hm, _, hc, hl⟩
  · exact folds_nil q cap w
  · by_cases h : 100 < len
    · exact folds_long _ len cap h hm w
    · exact folds_some g o len cap l w (by omega) (fun j hj => (hl j hj).2) hc
end Go.Proofs.Ytcpdobldconnaaa
