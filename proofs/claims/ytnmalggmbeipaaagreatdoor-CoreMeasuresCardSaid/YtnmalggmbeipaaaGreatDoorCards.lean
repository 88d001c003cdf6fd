/-
  DERIVED. GIVEN WITH THE SEED: THE CARDS: each row of YtnmalggmbeipaaaGreatDoorRows.lean that lists a variable, with what it lists TIED to the program's text (the seventh form; the later family's looks); each row that meets fmt, with fmt's text TOLD by the authors' own Lean function (tested against real Go, not proved from fmt's source: count such statements apart). THE CARD IS WHAT COUNTS. Prove the row's statement (the work); the ties are given (YtnmalggmbeipaaaGreatDoorTie.lean); close each card by the builder's one call (the guide's Derived/Test/ToyasCard.lean, 'card_holds'). Laid BY PROGRAM, IN A SANDBOX (cutbox-door.mjs). By AI agents, Wed Nov 11 2026. No macro, syntax, notation, axiom, sorry.
-/
import Derived.Test.YtnmalggmbeipaaaGreatDoorRows
import GoSem.ClaimSeven
namespace Go.Proofs.YtnmalggmbeipaaaGreatDoor
namespace Rows

/-- THE TIED CARD OF 'caltroplaw08.CoreParses'. -/
def coreParsesCard : Claim7 := { stood := { row := coreParsesRow, standIns := [], harness := (true, "7bf8df4095ec24b91daa21501f710898bfd708829f2f2c641582a0ab9c0fec84"), looks := false }, kinds := [], alts := [], laidByText := true, laidKinds := [.data], laidTests := true, laidLooks := .later }
def CoreParsesCardSaid : Prop := Claim7.holds Tryz.pinned (.plain (OpenSpec.ofChange coreParsesSpec)) coreParsesCard

/-- THE TIED CARD OF 'caltroplaw08.CoreMeasures'. -/
def coreMeasuresCard : Claim7 := { stood := { row := coreMeasuresRow, standIns := [], harness := (true, "7bf8df4095ec24b91daa21501f710898bfd708829f2f2c641582a0ab9c0fec84"), looks := false }, kinds := [], alts := [], laidByText := true, laidKinds := [.data], laidTests := true, laidLooks := .later }
def CoreMeasuresCardSaid : Prop := Claim7.holds Tryz.pinned (.plain (OpenSpec.ofChange coreMeasuresSpec)) coreMeasuresCard

/-- THE TIED CARD OF 'caltroplaw11.MemberNone'. -/
def memberNoneCard : Claim7 := { stood := { row := memberNoneRow, standIns := [], harness := (true, "7bf8df4095ec24b91daa21501f710898bfd708829f2f2c641582a0ab9c0fec84"), looks := false }, kinds := [], alts := [], laidByText := true, laidKinds := [.data], laidTests := true, laidLooks := .later }
def MemberNoneCardSaid : Prop := Claim7.holds Tryz.pinned (.plain (OpenSpec.ofChange memberNoneSpec)) memberNoneCard

/-- THE SECOND FORM's CARD OF 'caltroplaw08.CoreParses'. -/
def coreParsesUptoCard : Claim7 := { stood := { row := coreParsesUptoRow, standIns := [], harness := (true, "7bf8df4095ec24b91daa21501f710898bfd708829f2f2c641582a0ab9c0fec84"), looks := false }, kinds := [], alts := [], laidByText := true, laidKinds := [.data], laidTests := true, laidLooks := .later }
def CoreParsesUptoCardSaid : Prop := Claim7.holds Tryz.pinned (.plain (OpenSpec.upto coreParsesSpec)) coreParsesUptoCard

/-- THE SECOND FORM's CARD OF 'caltroplaw08.CoreMeasures'. -/
def coreMeasuresUptoCard : Claim7 := { stood := { row := coreMeasuresUptoRow, standIns := [], harness := (true, "7bf8df4095ec24b91daa21501f710898bfd708829f2f2c641582a0ab9c0fec84"), looks := false }, kinds := [], alts := [], laidByText := true, laidKinds := [.data], laidTests := true, laidLooks := .later }
def CoreMeasuresUptoCardSaid : Prop := Claim7.holds Tryz.pinned (.plain (OpenSpec.upto coreMeasuresSpec)) coreMeasuresUptoCard

/-- THE SECOND FORM's CARD OF 'caltroplaw11.MemberNone'. -/
def memberNoneUptoCard : Claim7 := { stood := { row := memberNoneUptoRow, standIns := [], harness := (true, "7bf8df4095ec24b91daa21501f710898bfd708829f2f2c641582a0ab9c0fec84"), looks := false }, kinds := [], alts := [], laidByText := true, laidKinds := [.data], laidTests := true, laidLooks := .later }
def MemberNoneUptoCardSaid : Prop := Claim7.holds Tryz.pinned (.plain (OpenSpec.upto memberNoneSpec)) memberNoneUptoCard
end Rows
end Go.Proofs.YtnmalggmbeipaaaGreatDoor
