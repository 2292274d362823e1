/-
  DERIVED. GIVEN WITH THE SEED: THE CARDS: each row of YtpnjnnhedadjgaaDoorRows.lean that lists a variable, with what it lists TIED to the program's text (the seventh form; the later family's looks); each row that meets fmt, with fmt's text TOLD by the authors' own Lean function (tested against real Go, not proved from fmt's source: count such statements apart). THE CARD IS WHAT COUNTS. Prove the row's statement (the work); the ties are given (YtpnjnnhedadjgaaDoorTie.lean); close each card by the builder's one call (the guide's Derived/Test/ToyasCard.lean, 'card_holds'). Laid BY PROGRAM, IN A SANDBOX (cutbox-door.mjs). By AI agents, Wed Nov 11 2026. No macro, syntax, notation, axiom, sorry.
-/
import Derived.Test.YtpnjnnhedadjgaaDoorRows
import GoSem.ClaimSeven
namespace Go.Proofs.YtpnjnnhedadjgaaDoor
namespace Rows

/-- THE TIED CARD OF 'porterlaw10.QuoteTexts'. -/
def quoteTextsCard : Claim7 := { stood := { row := quoteTextsRow, standIns := [], harness := (true, "28c2672ff7af05d4c08fc0f1c86c1831fae9ea6cd3801bf1f315f0556efa7451"), looks := false }, kinds := [], alts := [], laidByText := true, laidKinds := [.data, .pinned], laidTests := true, laidLooks := .later }
def QuoteTextsCardSaid : Prop := Claim7.holds Tryd.pinned (.plain (OpenSpec.ofChange quoteTextsSpec)) quoteTextsCard

/-- THE TIED CARD OF 'porterlaw10.QuoteReads'. -/
def quoteReadsCard : Claim7 := { stood := { row := quoteReadsRow, standIns := [], harness := (true, "28c2672ff7af05d4c08fc0f1c86c1831fae9ea6cd3801bf1f315f0556efa7451"), looks := false }, kinds := [], alts := [], laidByText := true, laidKinds := [.data, .pinned], laidTests := true, laidLooks := .later }
def QuoteReadsCardSaid : Prop := Claim7.holds Tryd.pinned (.plain (OpenSpec.ofChange quoteReadsSpec)) quoteReadsCard

/-- THE TIED CARD OF 'porterlaw10.QuoteBack'. -/
def quoteBackCard : Claim7 := { stood := { row := quoteBackRow, standIns := [], harness := (true, "28c2672ff7af05d4c08fc0f1c86c1831fae9ea6cd3801bf1f315f0556efa7451"), looks := false }, kinds := [], alts := [], laidByText := true, laidKinds := [.data, .pinned], laidTests := true, laidLooks := .later }
def QuoteBackCardSaid : Prop := Claim7.holds Tryd.pinned (.plain (OpenSpec.ofChange quoteBackSpec)) quoteBackCard

/-- THE TIED CARD OF 'porterlaw10.QuoteSafe'. -/
def quoteSafeCard : Claim7 := { stood := { row := quoteSafeRow, standIns := [], harness := (true, "28c2672ff7af05d4c08fc0f1c86c1831fae9ea6cd3801bf1f315f0556efa7451"), looks := false }, kinds := [], alts := [], laidByText := true, laidKinds := [.data, .pinned], laidTests := true, laidLooks := .later }
def QuoteSafeCardSaid : Prop := Claim7.holds Tryd.pinned (.plain (OpenSpec.ofChange quoteSafeSpec)) quoteSafeCard

/-- THE TIED CARD OF 'porterlaw12.CharsetSets'. -/
def charsetSetsCard : Claim7 := { stood := { row := charsetSetsRow, standIns := [], harness := (true, "28c2672ff7af05d4c08fc0f1c86c1831fae9ea6cd3801bf1f315f0556efa7451"), looks := false }, kinds := [], alts := [], laidByText := true, laidKinds := [.data], laidTests := true, laidLooks := .later }
def CharsetSetsCardSaid : Prop := Claim7.holds Tryd.pinned (.plain (OpenSpec.ofChange charsetSetsSpec)) charsetSetsCard

/-- THE TIED CARD OF 'porterlaw12.CharsetLooks'. -/
def charsetLooksCard : Claim7 := { stood := { row := charsetLooksRow, standIns := [], harness := (true, "28c2672ff7af05d4c08fc0f1c86c1831fae9ea6cd3801bf1f315f0556efa7451"), looks := false }, kinds := [], alts := [], laidByText := true, laidKinds := [.data], laidTests := true, laidLooks := .later }
def CharsetLooksCardSaid : Prop := Claim7.holds Tryd.pinned (.plain (OpenSpec.ofChange charsetLooksSpec)) charsetLooksCard

/-- THE TIED CARD OF 'porterlaw12.CharsetTurns'. -/
def charsetTurnsCard : Claim7 := { stood := { row := charsetTurnsRow, standIns := [], harness := (true, "28c2672ff7af05d4c08fc0f1c86c1831fae9ea6cd3801bf1f315f0556efa7451"), looks := false }, kinds := [], alts := [], laidByText := true, laidKinds := [.data], laidTests := true, laidLooks := .later }
def CharsetTurnsCardSaid : Prop := Claim7.holds Tryd.pinned (.plain (OpenSpec.ofChange charsetTurnsSpec)) charsetTurnsCard

/-- THE SECOND FORM's CARD OF 'porterlaw10.QuoteTexts'. -/
def quoteTextsUptoCard : Claim7 := { stood := { row := quoteTextsUptoRow, standIns := [], harness := (true, "28c2672ff7af05d4c08fc0f1c86c1831fae9ea6cd3801bf1f315f0556efa7451"), looks := false }, kinds := [], alts := [], laidByText := true, laidKinds := [.data, .pinned], laidTests := true, laidLooks := .later }
def QuoteTextsUptoCardSaid : Prop := Claim7.holds Tryd.pinned (.plain (OpenSpec.upto quoteTextsSpec)) quoteTextsUptoCard

/-- THE SECOND FORM's CARD OF 'porterlaw10.QuoteReads'. -/
def quoteReadsUptoCard : Claim7 := { stood := { row := quoteReadsUptoRow, standIns := [], harness := (true, "28c2672ff7af05d4c08fc0f1c86c1831fae9ea6cd3801bf1f315f0556efa7451"), looks := false }, kinds := [], alts := [], laidByText := true, laidKinds := [.data, .pinned], laidTests := true, laidLooks := .later }
def QuoteReadsUptoCardSaid : Prop := Claim7.holds Tryd.pinned (.plain (OpenSpec.upto quoteReadsSpec)) quoteReadsUptoCard

/-- THE SECOND FORM's CARD OF 'porterlaw10.QuoteBack'. -/
def quoteBackUptoCard : Claim7 := { stood := { row := quoteBackUptoRow, standIns := [], harness := (true, "28c2672ff7af05d4c08fc0f1c86c1831fae9ea6cd3801bf1f315f0556efa7451"), looks := false }, kinds := [], alts := [], laidByText := true, laidKinds := [.data, .pinned], laidTests := true, laidLooks := .later }
def QuoteBackUptoCardSaid : Prop := Claim7.holds Tryd.pinned (.plain (OpenSpec.upto quoteBackSpec)) quoteBackUptoCard

/-- THE SECOND FORM's CARD OF 'porterlaw10.QuoteSafe'. -/
def quoteSafeUptoCard : Claim7 := { stood := { row := quoteSafeUptoRow, standIns := [], harness := (true, "28c2672ff7af05d4c08fc0f1c86c1831fae9ea6cd3801bf1f315f0556efa7451"), looks := false }, kinds := [], alts := [], laidByText := true, laidKinds := [.data, .pinned], laidTests := true, laidLooks := .later }
def QuoteSafeUptoCardSaid : Prop := Claim7.holds Tryd.pinned (.plain (OpenSpec.upto quoteSafeSpec)) quoteSafeUptoCard

/-- THE SECOND FORM's CARD OF 'porterlaw12.CharsetSets'. -/
def charsetSetsUptoCard : Claim7 := { stood := { row := charsetSetsUptoRow, standIns := [], harness := (true, "28c2672ff7af05d4c08fc0f1c86c1831fae9ea6cd3801bf1f315f0556efa7451"), looks := false }, kinds := [], alts := [], laidByText := true, laidKinds := [.data], laidTests := true, laidLooks := .later }
def CharsetSetsUptoCardSaid : Prop := Claim7.holds Tryd.pinned (.plain (OpenSpec.upto charsetSetsSpec)) charsetSetsUptoCard

/-- THE SECOND FORM's CARD OF 'porterlaw12.CharsetLooks'. -/
def charsetLooksUptoCard : Claim7 := { stood := { row := charsetLooksUptoRow, standIns := [], harness := (true, "28c2672ff7af05d4c08fc0f1c86c1831fae9ea6cd3801bf1f315f0556efa7451"), looks := false }, kinds := [], alts := [], laidByText := true, laidKinds := [.data], laidTests := true, laidLooks := .later }
def CharsetLooksUptoCardSaid : Prop := Claim7.holds Tryd.pinned (.plain (OpenSpec.upto charsetLooksSpec)) charsetLooksUptoCard

/-- THE SECOND FORM's CARD OF 'porterlaw12.CharsetTurns'. -/
def charsetTurnsUptoCard : Claim7 := { stood := { row := charsetTurnsUptoRow, standIns := [], harness := (true, "28c2672ff7af05d4c08fc0f1c86c1831fae9ea6cd3801bf1f315f0556efa7451"), looks := false }, kinds := [], alts := [], laidByText := true, laidKinds := [.data], laidTests := true, laidLooks := .later }
def CharsetTurnsUptoCardSaid : Prop := Claim7.holds Tryd.pinned (.plain (OpenSpec.upto charsetTurnsSpec)) charsetTurnsUptoCard
end Rows
end Go.Proofs.YtpnjnnhedadjgaaDoor
