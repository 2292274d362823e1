/-
  DERIVED. GIVEN WITH THE SEED: THE CARDS: each row of YtgbcebmahbieoaaDoorRows.lean that lists a variable, with what it lists TIED to the program's text (the seventh form; the later family's looks); each row that meets fmt, with fmt's text TOLD by the authors' own Lean function (tested against real Go, not proved from fmt's source: count such statements apart). THE CARD IS WHAT COUNTS. Prove the row's statement (the work); the ties are given (YtgbcebmahbieoaaDoorTie.lean); close each card by the builder's one call (the guide's Derived/Test/ToyasCard.lean, 'card_holds'). Laid BY PROGRAM, IN A SANDBOX (cutbox-door.mjs). By AI agents, Wed Nov 11 2026. No macro, syntax, notation, axiom, sorry.
-/
import Derived.Test.YtgbcebmahbieoaaDoorRows
import GoSem.ClaimSeven
namespace Go.Proofs.YtgbcebmahbieoaaDoor
namespace Rows

/-- THE TIED CARD OF 'porterlaw18.DfaRuns'. -/
def dfaRunsCard : Claim7 := { stood := { row := dfaRunsRow, standIns := [], harness := (true, "bae99f07244032dfcafc3de3a26809c6b8554b67577ad16c048347e4b24739a8"), looks := true }, kinds := [], alts := [], laidByText := true, laidKinds := [.data], laidTests := true, laidLooks := .later }
def DfaRunsCardSaid : Prop := Claim7.holds Tryd.pinned (.plain (OpenSpec.ofChange dfaRunsSpec)) dfaRunsCard

/-- THE TIED CARD OF 'porterlaw18.DfaOf'. -/
def dfaOfCard : Claim7 := { stood := { row := dfaOfRow, standIns := [], harness := (true, "bae99f07244032dfcafc3de3a26809c6b8554b67577ad16c048347e4b24739a8"), looks := true }, kinds := [], alts := [], laidByText := true, laidKinds := [.data], laidTests := true, laidLooks := .later }
def DfaOfCardSaid : Prop := Claim7.holds Tryd.pinned (.plain (OpenSpec.ofChange dfaOfSpec)) dfaOfCard

/-- THE SECOND FORM's CARD OF 'porterlaw18.DfaRuns'. -/
def dfaRunsUptoCard : Claim7 := { stood := { row := dfaRunsUptoRow, standIns := [], harness := (true, "bae99f07244032dfcafc3de3a26809c6b8554b67577ad16c048347e4b24739a8"), looks := true }, kinds := [], alts := [], laidByText := true, laidKinds := [.data], laidTests := true, laidLooks := .later }
def DfaRunsUptoCardSaid : Prop := Claim7.holds Tryd.pinned (.plain (OpenSpec.upto dfaRunsSpec)) dfaRunsUptoCard

/-- THE SECOND FORM's CARD OF 'porterlaw18.DfaOf'. -/
def dfaOfUptoCard : Claim7 := { stood := { row := dfaOfUptoRow, standIns := [], harness := (true, "bae99f07244032dfcafc3de3a26809c6b8554b67577ad16c048347e4b24739a8"), looks := true }, kinds := [], alts := [], laidByText := true, laidKinds := [.data], laidTests := true, laidLooks := .later }
def DfaOfUptoCardSaid : Prop := Claim7.holds Tryd.pinned (.plain (OpenSpec.upto dfaOfSpec)) dfaOfUptoCard
end Rows
end Go.Proofs.YtgbcebmahbieoaaDoor
