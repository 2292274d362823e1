/-
  DERIVED. GIVEN WITH THE SEED: THE CARDS: each row of YtlhdohlpilippaaDoorRows.lean that lists a variable, with what it lists TIED to the program's text (the seventh form; the later family's looks); each row that meets fmt, with fmt's text TOLD by the authors' own Lean function (tested against real Go, not proved from fmt's source: count such statements apart). THE CARD IS WHAT COUNTS. Prove the row's statement (the work); the ties are given (YtlhdohlpilippaaDoorTie.lean); close each card by the builder's one call (the guide's Derived/Test/ToyasCard.lean, 'card_holds'). Laid BY PROGRAM, IN A SANDBOX (cutbox-door.mjs). By AI agents, Wed Nov 11 2026. No macro, syntax, notation, axiom, sorry.
-/
import Derived.Test.YtlhdohlpilippaaDoorRows
import GoSem.ClaimSeven
namespace Go.Proofs.YtlhdohlpilippaaDoor
namespace Rows

/-- THE TIED CARD OF 'porterlaw37.VerifyHonest'. -/
def verifyHonestCard : Claim7 := { stood := { row := verifyHonestRow, standIns := [], harness := (true, "4b57a546a51f1876fe8d880f85f0decab9ada62f6b53756ecc929ccbf658fc4d"), looks := false }, kinds := [], alts := [], laidByText := true, laidKinds := [.data], laidTests := true, laidLooks := .later }
def VerifyHonestCardSaid : Prop := Claim7.holds Tryd.pinned (.plain (OpenSpec.ofChange verifyHonestSpec)) verifyHonestCard

/-- THE SECOND FORM's CARD OF 'porterlaw37.VerifyHonest'. -/
def verifyHonestUptoCard : Claim7 := { stood := { row := verifyHonestUptoRow, standIns := [], harness := (true, "4b57a546a51f1876fe8d880f85f0decab9ada62f6b53756ecc929ccbf658fc4d"), looks := false }, kinds := [], alts := [], laidByText := true, laidKinds := [.data], laidTests := true, laidLooks := .later }
def VerifyHonestUptoCardSaid : Prop := Claim7.holds Tryd.pinned (.plain (OpenSpec.upto verifyHonestSpec)) verifyHonestUptoCard
end Rows
end Go.Proofs.YtlhdohlpilippaaDoor
