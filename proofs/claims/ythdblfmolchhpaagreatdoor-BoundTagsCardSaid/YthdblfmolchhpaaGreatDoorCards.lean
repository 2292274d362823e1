/-
  DERIVED. GIVEN WITH THE SEED: THE CARDS: each row of YthdblfmolchhpaaGreatDoorRows.lean that lists a variable, with what it lists TIED to the program's text (the seventh form; the later family's looks); each row that meets fmt, with fmt's text TOLD by the authors' own Lean function (tested against real Go, not proved from fmt's source: count such statements apart). THE CARD IS WHAT COUNTS. Prove the row's statement (the work); the ties are given (YthdblfmolchhpaaGreatDoorTie.lean); close each card by the builder's one call (the guide's Derived/Test/ToyasCard.lean, 'card_holds'). Laid BY PROGRAM, IN A SANDBOX (cutbox-door.mjs). By AI agents, Wed Nov 11 2026. No macro, syntax, notation, axiom, sorry.
-/
import Derived.Test.YthdblfmolchhpaaGreatDoorRows
import GoSem.ClaimSeven
namespace Go.Proofs.YthdblfmolchhpaaGreatDoor
namespace Rows

/-- THE TIED CARD OF 'porterlaw48.BoundTags'. -/
def boundTagsCard : Claim7 := { stood := { row := boundTagsRow, standIns := [], harness := (true, "5923878d1306f086e8cb2093f6bfe15dce3d993e0ca4ddc90048dc74c1554796"), looks := true }, kinds := [], alts := [], laidByText := true, laidKinds := [.data, .handle], laidTests := true, laidLooks := .later }
def BoundTagsCardSaid : Prop := Claim7.holds Tryz.pinned (.plain (OpenSpec.ofChange boundTagsSpec)) boundTagsCard

/-- THE SECOND FORM's CARD OF 'porterlaw48.BoundTags'. -/
def boundTagsUptoCard : Claim7 := { stood := { row := boundTagsUptoRow, standIns := [], harness := (true, "5923878d1306f086e8cb2093f6bfe15dce3d993e0ca4ddc90048dc74c1554796"), looks := true }, kinds := [], alts := [], laidByText := true, laidKinds := [.data, .handle], laidTests := true, laidLooks := .later }
def BoundTagsUptoCardSaid : Prop := Claim7.holds Tryz.pinned (.plain (OpenSpec.upto boundTagsSpec)) boundTagsUptoCard
end Rows
end Go.Proofs.YthdblfmolchhpaaGreatDoor
