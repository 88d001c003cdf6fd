/- Contracts of what is made of a tree: Deep, Right. -/
import Derived.Test.YtaliapknkpdmdaaDoorPbG
namespace Go.Proofs.YtaliapknkpdmdaaDoor
open Go Go.RowKit
attribute [local go_sem ↓] Go.wp_at_zero Go.wp_at_succ
attribute [local go_sem] eq4
/-- What Right makes of a node. -/
def rightN (u : Tr) (ps : List Int) : Int := if soundR u = true then deepR u ps else 201
end Go.Proofs.YtaliapknkpdmdaaDoor
