/- A part of the proof. -/
import Derived.Test.YtlmcgbieobklhaaGreatDoorRegion
namespace Go.Proofs.YtlmcgbieobklhaaGreatDoor.Reg
open Go Go.RowKit
section
variable {P : Program} {ops : Array Oper} {Q : Exit -> Act -> World -> Prop}
end
end Go.Proofs.YtlmcgbieobklhaaGreatDoor.Reg
