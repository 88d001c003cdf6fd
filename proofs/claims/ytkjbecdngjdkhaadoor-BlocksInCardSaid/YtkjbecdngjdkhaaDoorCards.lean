/-
  DERIVED. GIVEN WITH THE SEED: THE CARDS: each row of YtkjbecdngjdkhaaDoorRows.lean that lists a variable, with what it lists TIED to the program's text (the seventh form; the later family's looks); each row that meets fmt, with fmt's text TOLD by the authors' own Lean function (tested against real Go, not proved from fmt's source: count such statements apart). THE CARD IS WHAT COUNTS. Prove the row's statement (the work); the ties are given (YtkjbecdngjdkhaaDoorTie.lean); close each card by the builder's one call (the guide's Derived/Test/ToyasCard.lean, 'card_holds'). Laid BY PROGRAM, IN A SANDBOX (cutbox-door.mjs). By AI agents, Wed Nov 11 2026. No macro, syntax, notation, axiom, sorry.
-/
import Derived.Test.YtkjbecdngjdkhaaDoorRows
import GoSem.ClaimSeven
namespace Go.Proofs.YtkjbecdngjdkhaaDoor
namespace Rows

/-- THE TIED CARD OF 'caltroplaw04.BlocksOf'. -/
def blocksOfCard : Claim7 := { stood := { row := blocksOfRow, standIns := [], harness := (true, "632b664534b06875c2be8a3b2f1aa688666a532b2dbb6d4a4d941389da6f69d4"), looks := false }, kinds := [], alts := [], laidByText := true, laidKinds := [.data], laidTests := true, laidLooks := .later }
def BlocksOfCardSaid : Prop := Claim7.holds Tryd.pinned (.plain (OpenSpec.ofChange blocksOfSpec)) blocksOfCard

/-- THE TIED CARD OF 'caltroplaw04.BlocksIn'. -/
def blocksInCard : Claim7 := { stood := { row := blocksInRow, standIns := [], harness := (true, "632b664534b06875c2be8a3b2f1aa688666a532b2dbb6d4a4d941389da6f69d4"), looks := false }, kinds := [], alts := [], laidByText := true, laidKinds := [.data], laidTests := true, laidLooks := .later }
def BlocksInCardSaid : Prop := Claim7.holds Tryd.pinned (.plain (OpenSpec.ofChange blocksInSpec)) blocksInCard

/-- THE TIED CARD OF 'caltroplaw04.BlocksWords'. -/
def blocksWordsCard : Claim7 := { stood := { row := blocksWordsRow, standIns := [], harness := (true, "632b664534b06875c2be8a3b2f1aa688666a532b2dbb6d4a4d941389da6f69d4"), looks := false }, kinds := [], alts := [], laidByText := true, laidKinds := [.data], laidTests := true, laidLooks := .later }
def BlocksWordsCardSaid : Prop := Claim7.holds Tryd.pinned (.plain (OpenSpec.ofChange blocksWordsSpec)) blocksWordsCard

/-- THE TIED CARD OF 'caltroplaw05.TokenScans'. -/
def tokenScansCard : Claim7 := { stood := { row := tokenScansRow, standIns := [], harness := (true, "632b664534b06875c2be8a3b2f1aa688666a532b2dbb6d4a4d941389da6f69d4"), looks := false }, kinds := [], alts := [], laidByText := true, laidKinds := [.data], laidTests := true, laidLooks := .later }
def TokenScansCardSaid : Prop := Claim7.holds Tryd.pinned (.plain (OpenSpec.ofChange tokenScansSpec)) tokenScansCard

/-- THE TIED CARD OF 'caltroplaw05.TokenSets'. -/
def tokenSetsCard : Claim7 := { stood := { row := tokenSetsRow, standIns := [], harness := (true, "632b664534b06875c2be8a3b2f1aa688666a532b2dbb6d4a4d941389da6f69d4"), looks := false }, kinds := [], alts := [], laidByText := true, laidKinds := [.data], laidTests := true, laidLooks := .later }
def TokenSetsCardSaid : Prop := Claim7.holds Tryd.pinned (.plain (OpenSpec.ofChange tokenSetsSpec)) tokenSetsCard

/-- THE TIED CARD OF 'caltroplaw05.TokenCovers'. -/
def tokenCoversCard : Claim7 := { stood := { row := tokenCoversRow, standIns := [], harness := (true, "632b664534b06875c2be8a3b2f1aa688666a532b2dbb6d4a4d941389da6f69d4"), looks := false }, kinds := [], alts := [], laidByText := true, laidKinds := [.data], laidTests := true, laidLooks := .later }
def TokenCoversCardSaid : Prop := Claim7.holds Tryd.pinned (.plain (OpenSpec.ofChange tokenCoversSpec)) tokenCoversCard

/-- THE TIED CARD OF 'caltroplaw05.TokenLong'. -/
def tokenLongCard : Claim7 := { stood := { row := tokenLongRow, standIns := [], harness := (true, "632b664534b06875c2be8a3b2f1aa688666a532b2dbb6d4a4d941389da6f69d4"), looks := false }, kinds := [], alts := [], laidByText := true, laidKinds := [.data], laidTests := true, laidLooks := .later }
def TokenLongCardSaid : Prop := Claim7.holds Tryd.pinned (.plain (OpenSpec.ofChange tokenLongSpec)) tokenLongCard

/-- THE TIED CARD OF 'caltroplaw06.SyntaxSame'. -/
def syntaxSameCard : Claim7 := { stood := { row := syntaxSameRow, standIns := [], harness := (true, "632b664534b06875c2be8a3b2f1aa688666a532b2dbb6d4a4d941389da6f69d4"), looks := false }, kinds := [], alts := [], laidByText := true, laidKinds := [.data], laidTests := true, laidLooks := .later }
def SyntaxSameCardSaid : Prop := Claim7.holds Tryd.pinned (.plain (OpenSpec.ofChange syntaxSameSpec)) syntaxSameCard

/-- THE SECOND FORM's CARD OF 'caltroplaw04.BlocksOf'. -/
def blocksOfUptoCard : Claim7 := { stood := { row := blocksOfUptoRow, standIns := [], harness := (true, "632b664534b06875c2be8a3b2f1aa688666a532b2dbb6d4a4d941389da6f69d4"), looks := false }, kinds := [], alts := [], laidByText := true, laidKinds := [.data], laidTests := true, laidLooks := .later }
def BlocksOfUptoCardSaid : Prop := Claim7.holds Tryd.pinned (.plain (OpenSpec.upto blocksOfSpec)) blocksOfUptoCard

/-- THE SECOND FORM's CARD OF 'caltroplaw04.BlocksIn'. -/
def blocksInUptoCard : Claim7 := { stood := { row := blocksInUptoRow, standIns := [], harness := (true, "632b664534b06875c2be8a3b2f1aa688666a532b2dbb6d4a4d941389da6f69d4"), looks := false }, kinds := [], alts := [], laidByText := true, laidKinds := [.data], laidTests := true, laidLooks := .later }
def BlocksInUptoCardSaid : Prop := Claim7.holds Tryd.pinned (.plain (OpenSpec.upto blocksInSpec)) blocksInUptoCard

/-- THE SECOND FORM's CARD OF 'caltroplaw04.BlocksWords'. -/
def blocksWordsUptoCard : Claim7 := { stood := { row := blocksWordsUptoRow, standIns := [], harness := (true, "632b664534b06875c2be8a3b2f1aa688666a532b2dbb6d4a4d941389da6f69d4"), looks := false }, kinds := [], alts := [], laidByText := true, laidKinds := [.data], laidTests := true, laidLooks := .later }
def BlocksWordsUptoCardSaid : Prop := Claim7.holds Tryd.pinned (.plain (OpenSpec.upto blocksWordsSpec)) blocksWordsUptoCard

/-- THE SECOND FORM's CARD OF 'caltroplaw05.TokenScans'. -/
def tokenScansUptoCard : Claim7 := { stood := { row := tokenScansUptoRow, standIns := [], harness := (true, "632b664534b06875c2be8a3b2f1aa688666a532b2dbb6d4a4d941389da6f69d4"), looks := false }, kinds := [], alts := [], laidByText := true, laidKinds := [.data], laidTests := true, laidLooks := .later }
def TokenScansUptoCardSaid : Prop := Claim7.holds Tryd.pinned (.plain (OpenSpec.upto tokenScansSpec)) tokenScansUptoCard

/-- THE SECOND FORM's CARD OF 'caltroplaw05.TokenSets'. -/
def tokenSetsUptoCard : Claim7 := { stood := { row := tokenSetsUptoRow, standIns := [], harness := (true, "632b664534b06875c2be8a3b2f1aa688666a532b2dbb6d4a4d941389da6f69d4"), looks := false }, kinds := [], alts := [], laidByText := true, laidKinds := [.data], laidTests := true, laidLooks := .later }
def TokenSetsUptoCardSaid : Prop := Claim7.holds Tryd.pinned (.plain (OpenSpec.upto tokenSetsSpec)) tokenSetsUptoCard

/-- THE SECOND FORM's CARD OF 'caltroplaw05.TokenCovers'. -/
def tokenCoversUptoCard : Claim7 := { stood := { row := tokenCoversUptoRow, standIns := [], harness := (true, "632b664534b06875c2be8a3b2f1aa688666a532b2dbb6d4a4d941389da6f69d4"), looks := false }, kinds := [], alts := [], laidByText := true, laidKinds := [.data], laidTests := true, laidLooks := .later }
def TokenCoversUptoCardSaid : Prop := Claim7.holds Tryd.pinned (.plain (OpenSpec.upto tokenCoversSpec)) tokenCoversUptoCard

/-- THE SECOND FORM's CARD OF 'caltroplaw05.TokenLong'. -/
def tokenLongUptoCard : Claim7 := { stood := { row := tokenLongUptoRow, standIns := [], harness := (true, "632b664534b06875c2be8a3b2f1aa688666a532b2dbb6d4a4d941389da6f69d4"), looks := false }, kinds := [], alts := [], laidByText := true, laidKinds := [.data], laidTests := true, laidLooks := .later }
def TokenLongUptoCardSaid : Prop := Claim7.holds Tryd.pinned (.plain (OpenSpec.upto tokenLongSpec)) tokenLongUptoCard

/-- THE SECOND FORM's CARD OF 'caltroplaw06.SyntaxSame'. -/
def syntaxSameUptoCard : Claim7 := { stood := { row := syntaxSameUptoRow, standIns := [], harness := (true, "632b664534b06875c2be8a3b2f1aa688666a532b2dbb6d4a4d941389da6f69d4"), looks := false }, kinds := [], alts := [], laidByText := true, laidKinds := [.data], laidTests := true, laidLooks := .later }
def SyntaxSameUptoCardSaid : Prop := Claim7.holds Tryd.pinned (.plain (OpenSpec.upto syntaxSameSpec)) syntaxSameUptoCard
end Rows
end Go.Proofs.YtkjbecdngjdkhaaDoor
