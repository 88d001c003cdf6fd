/-
  DERIVED. GIVEN WITH THE SEED: THE CARDS: each row of YtenibhmjcafbiaaGreatDoorRows.lean that lists a variable, with what it lists TIED to the program's text (the seventh form; the later family's looks); each row that meets fmt, with fmt's text TOLD by the authors' own Lean function (tested against real Go, not proved from fmt's source: count such statements apart). THE CARD IS WHAT COUNTS. Prove the row's statement (the work); the ties are given (YtenibhmjcafbiaaGreatDoorTie.lean); close each card by the builder's one call (the guide's Derived/Test/ToyasCard.lean, 'card_holds'). Laid BY PROGRAM, IN A SANDBOX (cutbox-door.mjs). By AI agents, Wed Nov 11 2026. No macro, syntax, notation, axiom, sorry.
-/
import Derived.Test.YtenibhmjcafbiaaGreatDoorRows
import GoSem.ClaimSeven
namespace Go.Proofs.YtenibhmjcafbiaaGreatDoor
namespace Rows

/-- THE TIED CARD OF 'caltroplaw07.PrinterBack'. -/
def printerBackCard : Claim7 := { stood := { row := printerBackRow, standIns := [], harness := (true, "8b10f64ad4030b632ad618cba1faad1bc8cee95870c02f626943d0f8df35dedc"), looks := false }, kinds := [], alts := [], laidByText := true, laidKinds := [.data, .data, .data], laidTests := true, laidLooks := .later }
def PrinterBackCardSaid : Prop := Claim7.holds Tryz.pinned (.plain (OpenSpec.ofChange printerBackSpec)) printerBackCard

/-- THE TIED CARD OF 'caltroplaw07.PrinterParts'. -/
def printerPartsCard : Claim7 := { stood := { row := printerPartsRow, standIns := [], harness := (true, "8b10f64ad4030b632ad618cba1faad1bc8cee95870c02f626943d0f8df35dedc"), looks := false }, kinds := [], alts := [], laidByText := true, laidKinds := [.data, .data, .data], laidTests := true, laidLooks := .later }
def PrinterPartsCardSaid : Prop := Claim7.holds Tryz.pinned (.plain (OpenSpec.ofChange printerPartsSpec)) printerPartsCard

/-- THE TIED CARD OF 'caltroplaw07.PrinterNone'. -/
def printerNoneCard : Claim7 := { stood := { row := printerNoneRow, standIns := [], harness := (true, "8b10f64ad4030b632ad618cba1faad1bc8cee95870c02f626943d0f8df35dedc"), looks := false }, kinds := [], alts := [], laidByText := true, laidKinds := [.data, .data, .data], laidTests := true, laidLooks := .later }
def PrinterNoneCardSaid : Prop := Claim7.holds Tryz.pinned (.plain (OpenSpec.ofChange printerNoneSpec)) printerNoneCard

/-- THE TIED CARD OF 'caltroplaw07.PrinterApart'. -/
def printerApartCard : Claim7 := { stood := { row := printerApartRow, standIns := [], harness := (true, "8b10f64ad4030b632ad618cba1faad1bc8cee95870c02f626943d0f8df35dedc"), looks := false }, kinds := [], alts := [], laidByText := true, laidKinds := [.data, .data, .data], laidTests := true, laidLooks := .later }
def PrinterApartCardSaid : Prop := Claim7.holds Tryz.pinned (.plain (OpenSpec.ofChange printerApartSpec)) printerApartCard

/-- THE SECOND FORM's CARD OF 'caltroplaw07.PrinterBack'. -/
def printerBackUptoCard : Claim7 := { stood := { row := printerBackUptoRow, standIns := [], harness := (true, "8b10f64ad4030b632ad618cba1faad1bc8cee95870c02f626943d0f8df35dedc"), looks := false }, kinds := [], alts := [], laidByText := true, laidKinds := [.data, .data, .data], laidTests := true, laidLooks := .later }
def PrinterBackUptoCardSaid : Prop := Claim7.holds Tryz.pinned (.plain (OpenSpec.upto printerBackSpec)) printerBackUptoCard

/-- THE SECOND FORM's CARD OF 'caltroplaw07.PrinterParts'. -/
def printerPartsUptoCard : Claim7 := { stood := { row := printerPartsUptoRow, standIns := [], harness := (true, "8b10f64ad4030b632ad618cba1faad1bc8cee95870c02f626943d0f8df35dedc"), looks := false }, kinds := [], alts := [], laidByText := true, laidKinds := [.data, .data, .data], laidTests := true, laidLooks := .later }
def PrinterPartsUptoCardSaid : Prop := Claim7.holds Tryz.pinned (.plain (OpenSpec.upto printerPartsSpec)) printerPartsUptoCard

/-- THE SECOND FORM's CARD OF 'caltroplaw07.PrinterNone'. -/
def printerNoneUptoCard : Claim7 := { stood := { row := printerNoneUptoRow, standIns := [], harness := (true, "8b10f64ad4030b632ad618cba1faad1bc8cee95870c02f626943d0f8df35dedc"), looks := false }, kinds := [], alts := [], laidByText := true, laidKinds := [.data, .data, .data], laidTests := true, laidLooks := .later }
def PrinterNoneUptoCardSaid : Prop := Claim7.holds Tryz.pinned (.plain (OpenSpec.upto printerNoneSpec)) printerNoneUptoCard

/-- THE SECOND FORM's CARD OF 'caltroplaw07.PrinterApart'. -/
def printerApartUptoCard : Claim7 := { stood := { row := printerApartUptoRow, standIns := [], harness := (true, "8b10f64ad4030b632ad618cba1faad1bc8cee95870c02f626943d0f8df35dedc"), looks := false }, kinds := [], alts := [], laidByText := true, laidKinds := [.data, .data, .data], laidTests := true, laidLooks := .later }
def PrinterApartUptoCardSaid : Prop := Claim7.holds Tryz.pinned (.plain (OpenSpec.upto printerApartSpec)) printerApartUptoCard
end Rows
end Go.Proofs.YtenibhmjcafbiaaGreatDoor
