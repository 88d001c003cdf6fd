/- The law of no ways, run on what is known: for every number, every order, every capacity. -/
import Derived.Test.YtgfnakdfhfoplaaGreatDoorCxW
namespace Go.Proofs.YtgfnakdfhfoplaaGreatDoor
open Go Go.RowKit
set_option maxRecDepth 100000 in
theorem ways_pos (n : Nat) (k : Int) (c : Nat) (e : TypeId) : Cx.isTrue 1 (Cx.ev Tryz.prog (Cx.FT Tryz.prog) 100000 (.call 3 #[.int .i64 (Int.ofNat n), .int .i64 k]) (Cx.tabS Tryz.prog 1 c e tabT)) = true := by kernel_rfl
set_option maxRecDepth 100000 in
theorem ways_neg (n : Nat) (k : Int) (c : Nat) (e : TypeId) : Cx.isTrue 1 (Cx.ev Tryz.prog (Cx.FT Tryz.prog) 100000 (.call 3 #[.int .i64 (Int.negSucc n), .int .i64 k]) (Cx.tabS Tryz.prog 1 c e tabT)) = true := by kernel_rfl
theorem waysnone_any (i k : Int) (w : World) (hT : TabB w) : Calls Tryz.prog 3 #[.int .i64 i, .int .i64 k] w fun e w' => e = .returned (.bool true) ∧ Below w.heap.size w w' := by
  obtain ⟨cs, e, hb, ht⟩ := hT
  have hM : Tryz.prog.follows .mixedOrders = true := Tryz.checked.mixed
  have h1 : Tryz.prog.funcs.size < Cx.lim := of_decide_eq_true (by kernel_rfl)
  have h2 : 1 < Tryz.prog.globals.size := of_decide_eq_true (by kernel_rfl)
  have ha : ∀ v ∈ (#[.int .i64 i, .int .i64 k] : Array Value), Cx.flat1 v = true := by simp [Cx.flat1]
  cases i with
  | ofNat n => exact Cx.run_true hM h1 h2 (by decide) hb ht ha (ways_pos n k cs.size e)
  | negSucc n => exact Cx.run_true hM h1 h2 (by decide) hb ht ha (ways_neg n k cs.size e)
end Go.Proofs.YtgfnakdfhfoplaaGreatDoor
