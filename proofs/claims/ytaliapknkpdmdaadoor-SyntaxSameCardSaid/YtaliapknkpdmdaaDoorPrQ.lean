/- The document's own answers of layer 7: a byte, a count, told; a number's word. The document's own answer of layer 7: a set, told. The statement on a set, a byte and a count, told. -/
import Derived.Test.YtaliapknkpdmdaaDoorPrW
import Derived.Test.YtaliapknkpdmdaaDoorRa
import Derived.Test.YtaliapknkpdmdaaDoorPrK
namespace Go.Proofs.YtaliapknkpdmdaaDoor
section
section
open Go Go.RowKit
attribute [local go_sem ↓] Go.wp_at_zero Go.wp_at_succ
end
section
open Go Go.RowKit
attribute [local go_sem ↓] Go.wp_at_zero Go.wp_at_succ
end
end
section
section
open Go Go.RowKit
end
section
open Go Go.RowKit
attribute [local go_sem ↓] Go.wp_at_zero Go.wp_at_succ
attribute [local go_sem] eq4
end
end
section
section
open Go Go.RowKit
attribute [local go_sem ↓] Go.wp_at_zero Go.wp_at_succ
attribute [local go_sem] eq4
end
end
end Go.Proofs.YtaliapknkpdmdaaDoor
