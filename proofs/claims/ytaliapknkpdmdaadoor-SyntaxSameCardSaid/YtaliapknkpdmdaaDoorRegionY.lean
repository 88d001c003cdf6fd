/- A region whose order is drawn, told ahead, whose last operation waits for all others and leaves no value: a store into memory that was there. -/
import Derived.Test.YtaliapknkpdmdaaDoorRegion
namespace Go.Proofs.YtaliapknkpdmdaaDoor.Reg
open Go Go.RowKit
section
variable {P : Program} {ops : Array Oper} {Q : Exit → Act → World → Prop}
end
end Go.Proofs.YtaliapknkpdmdaaDoor.Reg
