/-
  DERIVED. GIVEN WITH THE SEED: THE CARDS: each row of YtihoefibfhccfaaGreatDoorRows.lean that lists a variable, with what it lists TIED to the program's text (the seventh form; the later family's looks); each row that meets fmt, with fmt's text TOLD by the authors' own Lean function (tested against real Go, not proved from fmt's source: count such statements apart). THE CARD IS WHAT COUNTS. Prove the row's statement (the work); the ties are given (YtihoefibfhccfaaGreatDoorTie.lean); close each card by the builder's one call (the guide's Derived/Test/ToyasCard.lean, 'card_holds'). Laid BY PROGRAM, IN A SANDBOX (cutbox-door.mjs). By AI agents, Wed Nov 11 2026. No macro, syntax, notation, axiom, sorry.
-/
import Derived.Test.YtihoefibfhccfaaGreatDoorRows
import GoSem.ClaimSeven
namespace Go.Proofs.YtihoefibfhccfaaGreatDoor
namespace Rows

/-- THE TIED CARD OF 'caltroplaw09.WeighNone'. -/
def weighNoneCard : Claim7 := { stood := { row := weighNoneRow, standIns := [], harness := (true, "38aa46832cc34ce01ae5af22d295561d6964fb6ac25c6150bfae0a5aab8d1e14"), looks := false }, kinds := [], alts := [], laidByText := true, laidKinds := [.data], laidTests := true, laidLooks := .later }
def WeighNoneCardSaid : Prop := Claim7.holds Tryz.pinned (.plain (OpenSpec.ofChange weighNoneSpec)) weighNoneCard

/-- THE TIED CARD OF 'caltroplaw09.WeighCats'. -/
def weighCatsCard : Claim7 := { stood := { row := weighCatsRow, standIns := [], harness := (true, "38aa46832cc34ce01ae5af22d295561d6964fb6ac25c6150bfae0a5aab8d1e14"), looks := false }, kinds := [], alts := [], laidByText := true, laidKinds := [.data], laidTests := true, laidLooks := .later }
def WeighCatsCardSaid : Prop := Claim7.holds Tryz.pinned (.plain (OpenSpec.ofChange weighCatsSpec)) weighCatsCard

/-- THE SECOND FORM's CARD OF 'caltroplaw09.WeighNone'. -/
def weighNoneUptoCard : Claim7 := { stood := { row := weighNoneUptoRow, standIns := [], harness := (true, "38aa46832cc34ce01ae5af22d295561d6964fb6ac25c6150bfae0a5aab8d1e14"), looks := false }, kinds := [], alts := [], laidByText := true, laidKinds := [.data], laidTests := true, laidLooks := .later }
def WeighNoneUptoCardSaid : Prop := Claim7.holds Tryz.pinned (.plain (OpenSpec.upto weighNoneSpec)) weighNoneUptoCard

/-- THE SECOND FORM's CARD OF 'caltroplaw09.WeighCats'. -/
def weighCatsUptoCard : Claim7 := { stood := { row := weighCatsUptoRow, standIns := [], harness := (true, "38aa46832cc34ce01ae5af22d295561d6964fb6ac25c6150bfae0a5aab8d1e14"), looks := false }, kinds := [], alts := [], laidByText := true, laidKinds := [.data], laidTests := true, laidLooks := .later }
def WeighCatsUptoCardSaid : Prop := Claim7.holds Tryz.pinned (.plain (OpenSpec.upto weighCatsSpec)) weighCatsUptoCard
end Rows
end Go.Proofs.YtihoefibfhccfaaGreatDoor
