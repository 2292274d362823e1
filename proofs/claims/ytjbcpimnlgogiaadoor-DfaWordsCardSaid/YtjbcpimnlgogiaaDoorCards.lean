/-
  DERIVED. GIVEN WITH THE SEED: THE CARDS: each row of YtjbcpimnlgogiaaDoorRows.lean that lists a variable, with what it lists TIED to the program's text (the seventh form; the later family's looks); each row that meets fmt, with fmt's text TOLD by the authors' own Lean function (tested against real Go, not proved from fmt's source: count such statements apart). THE CARD IS WHAT COUNTS. Prove the row's statement (the work); the ties are given (YtjbcpimnlgogiaaDoorTie.lean); close each card by the builder's one call (the guide's Derived/Test/ToyasCard.lean, 'card_holds'). Laid BY PROGRAM, IN A SANDBOX (cutbox-door.mjs). By AI agents, Wed Nov 11 2026. No macro, syntax, notation, axiom, sorry.
-/
import Derived.Test.YtjbcpimnlgogiaaDoorRows
import GoSem.ClaimSeven
namespace Go.Proofs.YtjbcpimnlgogiaaDoor
namespace Rows

/-- THE TIED CARD OF 'porterlaw18.DfaWords'. -/
def dfaWordsCard : Claim7 := { stood := { row := dfaWordsRow, standIns := [], harness := (true, "86806dd4af409f43d38c3095acf5acb23cf2478cc3de2f44712d13234229a39d"), looks := true }, kinds := [], alts := [], laidByText := true, laidKinds := [.data], laidTests := true, laidLooks := .later }
def DfaWordsCardSaid : Prop := Claim7.holds Tryd.pinned (.plain (OpenSpec.ofChange dfaWordsSpec)) dfaWordsCard

/-- THE SECOND FORM's CARD OF 'porterlaw18.DfaWords'. -/
def dfaWordsUptoCard : Claim7 := { stood := { row := dfaWordsUptoRow, standIns := [], harness := (true, "86806dd4af409f43d38c3095acf5acb23cf2478cc3de2f44712d13234229a39d"), looks := true }, kinds := [], alts := [], laidByText := true, laidKinds := [.data], laidTests := true, laidLooks := .later }
def DfaWordsUptoCardSaid : Prop := Claim7.holds Tryd.pinned (.plain (OpenSpec.upto dfaWordsSpec)) dfaWordsUptoCard
end Rows
end Go.Proofs.YtjbcpimnlgogiaaDoor
