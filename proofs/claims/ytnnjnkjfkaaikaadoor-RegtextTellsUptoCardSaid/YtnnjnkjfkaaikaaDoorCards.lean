/-
  DERIVED. GIVEN WITH THE SEED: THE CARDS: each row of YtnnjnkjfkaaikaaDoorRows.lean that lists a variable, with what it lists TIED to the program's text (the seventh form; the later family's looks); each row that meets fmt, with fmt's text TOLD by the authors' own Lean function (tested against real Go, not proved from fmt's source: count such statements apart). THE CARD IS WHAT COUNTS. Prove the row's statement (the work); the ties are given (YtnnjnkjfkaaikaaDoorTie.lean); close each card by the builder's one call (the guide's Derived/Test/ToyasCard.lean, 'card_holds'). Laid BY PROGRAM, IN A SANDBOX (cutbox-door.mjs). By AI agents, Wed Nov 11 2026. No macro, syntax, notation, axiom, sorry.
-/
import Derived.Test.YtnnjnkjfkaaikaaDoorRows
import GoSem.ClaimSeven
namespace Go.Proofs.YtnnjnkjfkaaikaaDoor
namespace Rows

/-- THE TIED CARD OF 'porterlaw14.RegtextTells'. -/
def regtextTellsCard : Claim7 := { stood := { row := regtextTellsRow, standIns := [], harness := (true, "14b2ed0dc85486383026524e67a5a385e3042a246f9a2cf21103c5910cafaf4a"), looks := true }, kinds := [], alts := [], laidByText := true, laidKinds := [.data, .data, .data, .data], laidTests := true, laidLooks := .later }
def RegtextTellsCardSaid : Prop := Claim7.holds Tryd.pinned (.plain (OpenSpec.ofChange regtextTellsSpec)) regtextTellsCard

/-- THE SECOND FORM's CARD OF 'porterlaw14.RegtextTells'. -/
def regtextTellsUptoCard : Claim7 := { stood := { row := regtextTellsUptoRow, standIns := [], harness := (true, "14b2ed0dc85486383026524e67a5a385e3042a246f9a2cf21103c5910cafaf4a"), looks := true }, kinds := [], alts := [], laidByText := true, laidKinds := [.data, .data, .data, .data], laidTests := true, laidLooks := .later }
def RegtextTellsUptoCardSaid : Prop := Claim7.holds Tryd.pinned (.plain (OpenSpec.upto regtextTellsSpec)) regtextTellsUptoCard
end Rows
end Go.Proofs.YtnnjnkjfkaaikaaDoor
