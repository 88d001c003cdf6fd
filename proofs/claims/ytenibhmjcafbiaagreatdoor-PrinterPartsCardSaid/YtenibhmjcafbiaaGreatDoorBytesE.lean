/- The document's example holds, whatever the world. -/
import Derived.Test.YtenibhmjcafbiaaGreatDoorBytesD
namespace Go.Proofs.YtenibhmjcafbiaaGreatDoor
open Go Go.RowKit
attribute [local go_sem ↓] Go.wp_at_zero Go.wp_at_succ
attribute [local go_sem] eq4
def two : Nat → Int := fun j => if j = 0 then 97 else 49
def three : Nat → Int := fun j => if j = 0 then 65 else if j = 1 then 97 else 49
theorem two_set : ofw two 2 0 = ofw three 3 0 ∧ fo (ofw two 2 1) = ofw three 3 1 ∧ ofw two 2 2 = ofw three 3 2 ∧ ofw two 2 3 = ofw three 3 3 := by decide +kernel
theorem all_count : pw (nt 0) = 64 := by decide +kernel
end Go.Proofs.YtenibhmjcafbiaaGreatDoor
