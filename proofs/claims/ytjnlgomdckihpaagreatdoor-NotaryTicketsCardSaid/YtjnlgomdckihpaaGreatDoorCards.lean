/-
  DERIVED. GIVEN WITH THE SEED: THE CARDS: each row of YtjnlgomdckihpaaGreatDoorRows.lean that lists a variable, with what it lists TIED to the program's text (the seventh form; the later family's looks); each row that meets fmt, with fmt's text TOLD by the authors' own Lean function (tested against real Go, not proved from fmt's source: count such statements apart). THE CARD IS WHAT COUNTS. Prove the row's statement (the work); the ties are given (YtjnlgomdckihpaaGreatDoorTie.lean); close each card by the builder's one call (the guide's Derived/Test/ToyasCard.lean, 'card_holds'). Laid BY PROGRAM, IN A SANDBOX (cutbox-door.mjs). By AI agents, Wed Nov 11 2026. No macro, syntax, notation, axiom, sorry.
-/
import Derived.Test.YtjnlgomdckihpaaGreatDoorRows
import GoSem.ClaimSeven
namespace Go.Proofs.YtjnlgomdckihpaaGreatDoor
namespace Rows

/-- THE TIED CARD OF 'porterlaw36.NotaryTickets'. -/
def notaryTicketsCard : Claim7 := { stood := { row := notaryTicketsRow, standIns := [], harness := (true, "710e72c1b42ed2b5194427f74284e1969e75282febb8e75c32441a1f4c39a4c3"), looks := false }, kinds := [], alts := [], laidByText := true, laidKinds := [.data], laidTests := true, laidLooks := .later }
def NotaryTicketsCardSaid : Prop := Claim7.holds Tryz.pinned (.plain (OpenSpec.ofChange notaryTicketsSpec)) notaryTicketsCard

/-- THE SECOND FORM's CARD OF 'porterlaw36.NotaryTickets'. -/
def notaryTicketsUptoCard : Claim7 := { stood := { row := notaryTicketsUptoRow, standIns := [], harness := (true, "710e72c1b42ed2b5194427f74284e1969e75282febb8e75c32441a1f4c39a4c3"), looks := false }, kinds := [], alts := [], laidByText := true, laidKinds := [.data], laidTests := true, laidLooks := .later }
def NotaryTicketsUptoCardSaid : Prop := Claim7.holds Tryz.pinned (.plain (OpenSpec.upto notaryTicketsSpec)) notaryTicketsUptoCard
end Rows
end Go.Proofs.YtjnlgomdckihpaaGreatDoor
