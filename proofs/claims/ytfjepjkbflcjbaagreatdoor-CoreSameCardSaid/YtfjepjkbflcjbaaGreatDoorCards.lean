/-
  DERIVED. GIVEN WITH THE SEED: THE CARDS: each row of YtfjepjkbflcjbaaGreatDoorRows.lean that lists a variable, with what it lists TIED to the program's text (the seventh form; the later family's looks); each row that meets fmt, with fmt's text TOLD by the authors' own Lean function (tested against real Go, not proved from fmt's source: count such statements apart). THE CARD IS WHAT COUNTS. Prove the row's statement (the work); the ties are given (YtfjepjkbflcjbaaGreatDoorTie.lean); close each card by the builder's one call (the guide's Derived/Test/ToyasCard.lean, 'card_holds'). Laid BY PROGRAM, IN A SANDBOX (cutbox-door.mjs). By AI agents, Wed Nov 11 2026. No macro, syntax, notation, axiom, sorry.
-/
import Derived.Test.YtfjepjkbflcjbaaGreatDoorRows
import GoSem.ClaimSeven
namespace Go.Proofs.YtfjepjkbflcjbaaGreatDoor
namespace Rows

/-- THE TIED CARD OF 'caltroplaw08.CoreSame'. -/
def coreSameCard : Claim7 := { stood := { row := coreSameRow, standIns := [], harness := (true, "6595e242eaed290548c4c2832caa249ed09e93560ca24df50fc4ba4f13b6693a"), looks := false }, kinds := [], alts := [], laidByText := true, laidKinds := [.data], laidTests := true, laidLooks := .later }
def CoreSameCardSaid : Prop := Claim7.holds Tryz.pinned (.plain (OpenSpec.ofChange coreSameSpec)) coreSameCard

/-- THE SECOND FORM's CARD OF 'caltroplaw08.CoreSame'. -/
def coreSameUptoCard : Claim7 := { stood := { row := coreSameUptoRow, standIns := [], harness := (true, "6595e242eaed290548c4c2832caa249ed09e93560ca24df50fc4ba4f13b6693a"), looks := false }, kinds := [], alts := [], laidByText := true, laidKinds := [.data], laidTests := true, laidLooks := .later }
def CoreSameUptoCardSaid : Prop := Claim7.holds Tryz.pinned (.plain (OpenSpec.upto coreSameSpec)) coreSameUptoCard
end Rows
end Go.Proofs.YtfjepjkbflcjbaaGreatDoor
