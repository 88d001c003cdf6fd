/- Groups within one another: their tokens, and the tree, told plainly. Contracts of trees: what comes of nothing. -/
import Derived.Test.YtfjepjkbflcjbaaGreatDoorPbH
import Derived.Test.YtfjepjkbflcjbaaGreatDoorPbM
namespace Go.Proofs.YtfjepjkbflcjbaaGreatDoor
section
open Go Go.RowKit
end
section
open Go Go.RowKit
attribute [local go_sem ↓] Go.wp_at_zero Go.wp_at_succ
attribute [local go_sem] eq4
theorem run_store_fncO (P : Program) (w : World) (a : Addr) (f : Fn) (x y : Array Value) (m : Mode) : (store a (.func f x y) m).run P w = stored P w a (.func f x y) m := run_store P w a _ m rfl
attribute [local go_sem] run_store_fncO
end
end Go.Proofs.YtfjepjkbflcjbaaGreatDoor
