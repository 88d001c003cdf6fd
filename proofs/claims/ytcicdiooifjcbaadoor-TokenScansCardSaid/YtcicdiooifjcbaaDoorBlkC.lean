/- The map of signatures to blocks: what its keys are, and what it holds. -/
import Derived.Test.YtcicdiooifjcbaaDoorBlkB
import Derived.Test.YtcicdiooifjcbaaDoorOpen
import Derived.DeepKeys4
import Derived.Maps.Own
import Derived.Maps.OwnOps
import Derived.Maps.OwnSet
import Derived.Maps.Views
namespace Go.Proofs.YtcicdiooifjcbaaDoor
open Go Go.RowKit Go.Maps Go.WideMaps Go.WideElems
theorem zeroInt (w : World) : (zeroValue 3).run Tryd.prog w = .ok (.int .i64 0) w := by kernel_rfl
end Go.Proofs.YtcicdiooifjcbaaDoor
