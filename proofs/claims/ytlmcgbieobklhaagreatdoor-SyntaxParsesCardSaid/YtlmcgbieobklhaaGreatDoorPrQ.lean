/- A part of the proof. -/
import Derived.Test.YtlmcgbieobklhaaGreatDoorPrW
import Derived.Test.YtlmcgbieobklhaaGreatDoorRa
import Derived.Test.YtlmcgbieobklhaaGreatDoorPrK
namespace Go.Proofs.YtlmcgbieobklhaaGreatDoor
section
section
open Go Go.RowKit
attribute [local go_sem ↓] Go.wp_at_zero Go.wp_at_succ
open Go Go.RowKit
attribute [local go_sem ↓] Go.wp_at_zero Go.wp_at_succ
end
end
section
section
open Go Go.RowKit
open Go Go.RowKit
attribute [local go_sem ↓] Go.wp_at_zero Go.wp_at_succ
attribute [local go_sem] eq4
end
end
section
section
open Go Go.RowKit
attribute [local go_sem ↓] Go.wp_at_zero Go.wp_at_succ
attribute [local go_sem] eq4
end
end
end Go.Proofs.YtlmcgbieobklhaaGreatDoor
