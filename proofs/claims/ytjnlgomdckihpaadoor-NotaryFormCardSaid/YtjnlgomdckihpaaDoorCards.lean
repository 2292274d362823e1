/-
  DERIVED. GIVEN WITH THE SEED: THE CARDS: each row of YtjnlgomdckihpaaDoorRows.lean that lists a variable, with what it lists TIED to the program's text (the seventh form; the later family's looks); each row that meets fmt, with fmt's text TOLD by the authors' own Lean function (tested against real Go, not proved from fmt's source: count such statements apart). THE CARD IS WHAT COUNTS. Prove the row's statement (the work); the ties are given (YtjnlgomdckihpaaDoorTie.lean); close each card by the builder's one call (the guide's Derived/Test/ToyasCard.lean, 'card_holds'). Laid BY PROGRAM, IN A SANDBOX (cutbox-door.mjs). By AI agents, Wed Nov 11 2026. No macro, syntax, notation, axiom, sorry.
-/
import Derived.Test.YtjnlgomdckihpaaDoorRows
import GoSem.ClaimSeven
namespace Go.Proofs.YtjnlgomdckihpaaDoor
namespace Rows

/-- THE TIED CARD OF 'porterlaw36.NotaryBack'. -/
def notaryBackCard : Claim7 := { stood := { row := notaryBackRow, standIns := [], harness := (true, "9b783dcec2ce7154bb7f03a60ba4a8d3a95a3e497e0ced7144e787710e32001b"), looks := false }, kinds := [], alts := [], laidByText := true, laidKinds := [.data], laidTests := true, laidLooks := .later }
def NotaryBackCardSaid : Prop := Claim7.holds Tryd.pinned (.plain (OpenSpec.ofChange notaryBackSpec)) notaryBackCard

/-- THE TIED CARD OF 'porterlaw36.NotaryForm'. -/
def notaryFormCard : Claim7 := { stood := { row := notaryFormRow, standIns := [], harness := (true, "9b783dcec2ce7154bb7f03a60ba4a8d3a95a3e497e0ced7144e787710e32001b"), looks := false }, kinds := [], alts := [], laidByText := true, laidKinds := [.data], laidTests := true, laidLooks := .later }
def NotaryFormCardSaid : Prop := Claim7.holds Tryd.pinned (.plain (OpenSpec.ofChange notaryFormSpec)) notaryFormCard

/-- THE SECOND FORM's CARD OF 'porterlaw36.NotaryBack'. -/
def notaryBackUptoCard : Claim7 := { stood := { row := notaryBackUptoRow, standIns := [], harness := (true, "9b783dcec2ce7154bb7f03a60ba4a8d3a95a3e497e0ced7144e787710e32001b"), looks := false }, kinds := [], alts := [], laidByText := true, laidKinds := [.data], laidTests := true, laidLooks := .later }
def NotaryBackUptoCardSaid : Prop := Claim7.holds Tryd.pinned (.plain (OpenSpec.upto notaryBackSpec)) notaryBackUptoCard

/-- THE SECOND FORM's CARD OF 'porterlaw36.NotaryForm'. -/
def notaryFormUptoCard : Claim7 := { stood := { row := notaryFormUptoRow, standIns := [], harness := (true, "9b783dcec2ce7154bb7f03a60ba4a8d3a95a3e497e0ced7144e787710e32001b"), looks := false }, kinds := [], alts := [], laidByText := true, laidKinds := [.data], laidTests := true, laidLooks := .later }
def NotaryFormUptoCardSaid : Prop := Claim7.holds Tryd.pinned (.plain (OpenSpec.upto notaryFormSpec)) notaryFormUptoCard
end Rows
end Go.Proofs.YtjnlgomdckihpaaDoor
