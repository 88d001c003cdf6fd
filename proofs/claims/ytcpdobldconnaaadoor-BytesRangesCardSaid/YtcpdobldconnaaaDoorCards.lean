/-
  DERIVED. GIVEN WITH THE SEED: THE CARDS: each row of YtcpdobldconnaaaDoorRows.lean that lists a variable, with what it lists TIED to the program's text (the seventh form; the later family's looks); each row that meets fmt, with fmt's text TOLD by the authors' own Lean function (tested against real Go, not proved from fmt's source: count such statements apart). THE CARD IS WHAT COUNTS. Prove the row's statement (the work); the ties are given (YtcpdobldconnaaaDoorTie.lean); close each card by the builder's one call (the guide's Derived/Test/ToyasCard.lean, 'card_holds'). Laid BY PROGRAM, IN A SANDBOX (cutbox-door.mjs). By AI agents, Wed Nov 11 2026. No macro, syntax, notation, axiom, sorry.
-/
import Derived.Test.YtcpdobldconnaaaDoorRows
import GoSem.ClaimSeven
namespace Go.Proofs.YtcpdobldconnaaaDoor
namespace Rows

/-- THE TIED CARD OF 'caltroplaw01.BytesMakes'. -/
def bytesMakesCard : Claim7 := { stood := { row := bytesMakesRow, standIns := [], harness := (true, "ab3fa91b3a789b51a52d1d35b9fd74e1a794fd9c6a085d1982f0f1317c391c1f"), looks := true }, kinds := [], alts := [], laidByText := true, laidKinds := [.data], laidTests := true, laidLooks := .later }
def BytesMakesCardSaid : Prop := Claim7.holds Tryd.pinned (.plain (OpenSpec.ofChange bytesMakesSpec)) bytesMakesCard

/-- THE TIED CARD OF 'caltroplaw01.BytesRanges'. -/
def bytesRangesCard : Claim7 := { stood := { row := bytesRangesRow, standIns := [], harness := (true, "ab3fa91b3a789b51a52d1d35b9fd74e1a794fd9c6a085d1982f0f1317c391c1f"), looks := true }, kinds := [], alts := [], laidByText := true, laidKinds := [.data], laidTests := true, laidLooks := .later }
def BytesRangesCardSaid : Prop := Claim7.holds Tryd.pinned (.plain (OpenSpec.ofChange bytesRangesSpec)) bytesRangesCard

/-- THE TIED CARD OF 'caltroplaw02.QuoteNumbers'. -/
def quoteNumbersCard : Claim7 := { stood := { row := quoteNumbersRow, standIns := [], harness := (true, "ab3fa91b3a789b51a52d1d35b9fd74e1a794fd9c6a085d1982f0f1317c391c1f"), looks := true }, kinds := [], alts := [], laidByText := true, laidKinds := [.data, .data, .data, .sentinel, .sentinel], laidTests := true, laidLooks := .later }
def QuoteNumbersCardSaid : Prop := Claim7.holds Tryd.pinned (.plain (OpenSpec.ofChange quoteNumbersSpec)) quoteNumbersCard

/-- THE TIED CARD OF 'caltroplaw02.QuoteWords'. -/
def quoteWordsCard : Claim7 := { stood := { row := quoteWordsRow, standIns := [], harness := (true, "ab3fa91b3a789b51a52d1d35b9fd74e1a794fd9c6a085d1982f0f1317c391c1f"), looks := true }, kinds := [], alts := [], laidByText := true, laidKinds := [.data, .pinned], laidTests := true, laidLooks := .later }
def QuoteWordsCardSaid : Prop := Claim7.holds Tryd.pinned (.plain (OpenSpec.ofChange quoteWordsSpec)) quoteWordsCard

/-- THE TIED CARD OF 'caltroplaw04.BlocksOf'. -/
def blocksOfCard : Claim7 := { stood := { row := blocksOfRow, standIns := [], harness := (true, "ab3fa91b3a789b51a52d1d35b9fd74e1a794fd9c6a085d1982f0f1317c391c1f"), looks := true }, kinds := [], alts := [], laidByText := true, laidKinds := [.data], laidTests := true, laidLooks := .later }
def BlocksOfCardSaid : Prop := Claim7.holds Tryd.pinned (.plain (OpenSpec.ofChange blocksOfSpec)) blocksOfCard

/-- THE SECOND FORM's CARD OF 'caltroplaw01.BytesMakes'. -/
def bytesMakesUptoCard : Claim7 := { stood := { row := bytesMakesUptoRow, standIns := [], harness := (true, "ab3fa91b3a789b51a52d1d35b9fd74e1a794fd9c6a085d1982f0f1317c391c1f"), looks := true }, kinds := [], alts := [], laidByText := true, laidKinds := [.data], laidTests := true, laidLooks := .later }
def BytesMakesUptoCardSaid : Prop := Claim7.holds Tryd.pinned (.plain (OpenSpec.upto bytesMakesSpec)) bytesMakesUptoCard

/-- THE SECOND FORM's CARD OF 'caltroplaw01.BytesRanges'. -/
def bytesRangesUptoCard : Claim7 := { stood := { row := bytesRangesUptoRow, standIns := [], harness := (true, "ab3fa91b3a789b51a52d1d35b9fd74e1a794fd9c6a085d1982f0f1317c391c1f"), looks := true }, kinds := [], alts := [], laidByText := true, laidKinds := [.data], laidTests := true, laidLooks := .later }
def BytesRangesUptoCardSaid : Prop := Claim7.holds Tryd.pinned (.plain (OpenSpec.upto bytesRangesSpec)) bytesRangesUptoCard

/-- THE SECOND FORM's CARD OF 'caltroplaw02.QuoteNumbers'. -/
def quoteNumbersUptoCard : Claim7 := { stood := { row := quoteNumbersUptoRow, standIns := [], harness := (true, "ab3fa91b3a789b51a52d1d35b9fd74e1a794fd9c6a085d1982f0f1317c391c1f"), looks := true }, kinds := [], alts := [], laidByText := true, laidKinds := [.data, .data, .data, .sentinel, .sentinel], laidTests := true, laidLooks := .later }
def QuoteNumbersUptoCardSaid : Prop := Claim7.holds Tryd.pinned (.plain (OpenSpec.upto quoteNumbersSpec)) quoteNumbersUptoCard

/-- THE SECOND FORM's CARD OF 'caltroplaw02.QuoteWords'. -/
def quoteWordsUptoCard : Claim7 := { stood := { row := quoteWordsUptoRow, standIns := [], harness := (true, "ab3fa91b3a789b51a52d1d35b9fd74e1a794fd9c6a085d1982f0f1317c391c1f"), looks := true }, kinds := [], alts := [], laidByText := true, laidKinds := [.data, .pinned], laidTests := true, laidLooks := .later }
def QuoteWordsUptoCardSaid : Prop := Claim7.holds Tryd.pinned (.plain (OpenSpec.upto quoteWordsSpec)) quoteWordsUptoCard

/-- THE SECOND FORM's CARD OF 'caltroplaw04.BlocksOf'. -/
def blocksOfUptoCard : Claim7 := { stood := { row := blocksOfUptoRow, standIns := [], harness := (true, "ab3fa91b3a789b51a52d1d35b9fd74e1a794fd9c6a085d1982f0f1317c391c1f"), looks := true }, kinds := [], alts := [], laidByText := true, laidKinds := [.data], laidTests := true, laidLooks := .later }
def BlocksOfUptoCardSaid : Prop := Claim7.holds Tryd.pinned (.plain (OpenSpec.upto blocksOfSpec)) blocksOfUptoCard
end Rows
end Go.Proofs.YtcpdobldconnaaaDoor
