/-
  DERIVED. GIVEN WITH THE SEED: THE CARDS: each row of YtgfnakdfhfoplaaGreatDoorRows.lean that lists a variable, with what it lists TIED to the program's text (the seventh form; the later family's looks); each row that meets fmt, with fmt's text TOLD by the authors' own Lean function (tested against real Go, not proved from fmt's source: count such statements apart). THE CARD IS WHAT COUNTS. Prove the row's statement (the work); the ties are given (YtgfnakdfhfoplaaGreatDoorTie.lean); close each card by the builder's one call (the guide's Derived/Test/ToyasCard.lean, 'card_holds'). Laid BY PROGRAM, IN A SANDBOX (cutbox-door.mjs). By AI agents, Wed Nov 11 2026. No macro, syntax, notation, axiom, sorry.
-/
import Derived.Test.YtgfnakdfhfoplaaGreatDoorRows
import GoSem.ClaimSeven
namespace Go.Proofs.YtgfnakdfhfoplaaGreatDoor
namespace Rows

/-- THE TIED CARD OF 'caltroplaw13.WaysNone'. -/
def waysNoneCard : Claim7 := { stood := { row := waysNoneRow, standIns := [], harness := (true, "89a714b06bb2a7fd89fcad85fc99e9fe545472f1eeb4b3fa00a8285ada613d80"), looks := false }, kinds := [], alts := [], laidByText := true, laidKinds := [.data], laidTests := true, laidLooks := .later }
def WaysNoneCardSaid : Prop := Claim7.holds Tryz.pinned (.plain (OpenSpec.ofChange waysNoneSpec)) waysNoneCard

/-- THE SECOND FORM's CARD OF 'caltroplaw13.WaysNone'. -/
def waysNoneUptoCard : Claim7 := { stood := { row := waysNoneUptoRow, standIns := [], harness := (true, "89a714b06bb2a7fd89fcad85fc99e9fe545472f1eeb4b3fa00a8285ada613d80"), looks := false }, kinds := [], alts := [], laidByText := true, laidKinds := [.data], laidTests := true, laidLooks := .later }
def WaysNoneUptoCardSaid : Prop := Claim7.holds Tryz.pinned (.plain (OpenSpec.upto waysNoneSpec)) waysNoneUptoCard
end Rows
end Go.Proofs.YtgfnakdfhfoplaaGreatDoor
