/-
  DERIVED. GIVEN WITH THE SEED: THE CARDS: each row of YtkipbccgnekoaaaGreatDoorRows.lean that lists a variable, with what it lists TIED to the program's text (the seventh form; the later family's looks); each row that meets fmt, with fmt's text TOLD by the authors' own Lean function (tested against real Go, not proved from fmt's source: count such statements apart). THE CARD IS WHAT COUNTS. Prove the row's statement (the work); the ties are given (YtkipbccgnekoaaaGreatDoorTie.lean); close each card by the builder's one call (the guide's Derived/Test/ToyasCard.lean, 'card_holds'). Laid BY PROGRAM, IN A SANDBOX (cutbox-door.mjs). By AI agents, Wed Nov 11 2026. No macro, syntax, notation, axiom, sorry.
-/
import Derived.Test.YtkipbccgnekoaaaGreatDoorRows
import GoSem.ClaimSeven
namespace Go.Proofs.YtkipbccgnekoaaaGreatDoor
namespace Rows

/-- THE TIED CARD OF 'porterlaw37.VerifyTells'. -/
def verifyTellsCard : Claim7 := { stood := { row := verifyTellsRow, standIns := [], harness := (true, "107dcb8cc198badf2b4b429fd4959770347fb0a5a46bac3f4dbcba7673836232"), looks := false }, kinds := [], alts := [], laidByText := true, laidKinds := [.data], laidTests := true, laidLooks := .later }
def VerifyTellsCardSaid : Prop := Claim7.holds Tryz.pinned (.plain (OpenSpec.ofChange verifyTellsSpec)) verifyTellsCard

/-- THE TIED CARD OF 'porterlaw37.VerifyOne'. -/
def verifyOneCard : Claim7 := { stood := { row := verifyOneRow, standIns := [], harness := (true, "107dcb8cc198badf2b4b429fd4959770347fb0a5a46bac3f4dbcba7673836232"), looks := false }, kinds := [], alts := [], laidByText := true, laidKinds := [.data], laidTests := true, laidLooks := .later }
def VerifyOneCardSaid : Prop := Claim7.holds Tryz.pinned (.plain (OpenSpec.ofChange verifyOneSpec)) verifyOneCard

/-- THE TIED CARD OF 'porterlaw37.VerifyBound'. -/
def verifyBoundCard : Claim7 := { stood := { row := verifyBoundRow, standIns := [], harness := (true, "107dcb8cc198badf2b4b429fd4959770347fb0a5a46bac3f4dbcba7673836232"), looks := false }, kinds := [], alts := [], laidByText := true, laidKinds := [.data], laidTests := true, laidLooks := .later }
def VerifyBoundCardSaid : Prop := Claim7.holds Tryz.pinned (.plain (OpenSpec.ofChange verifyBoundSpec)) verifyBoundCard

/-- THE SECOND FORM's CARD OF 'porterlaw37.VerifyTells'. -/
def verifyTellsUptoCard : Claim7 := { stood := { row := verifyTellsUptoRow, standIns := [], harness := (true, "107dcb8cc198badf2b4b429fd4959770347fb0a5a46bac3f4dbcba7673836232"), looks := false }, kinds := [], alts := [], laidByText := true, laidKinds := [.data], laidTests := true, laidLooks := .later }
def VerifyTellsUptoCardSaid : Prop := Claim7.holds Tryz.pinned (.plain (OpenSpec.upto verifyTellsSpec)) verifyTellsUptoCard

/-- THE SECOND FORM's CARD OF 'porterlaw37.VerifyOne'. -/
def verifyOneUptoCard : Claim7 := { stood := { row := verifyOneUptoRow, standIns := [], harness := (true, "107dcb8cc198badf2b4b429fd4959770347fb0a5a46bac3f4dbcba7673836232"), looks := false }, kinds := [], alts := [], laidByText := true, laidKinds := [.data], laidTests := true, laidLooks := .later }
def VerifyOneUptoCardSaid : Prop := Claim7.holds Tryz.pinned (.plain (OpenSpec.upto verifyOneSpec)) verifyOneUptoCard

/-- THE SECOND FORM's CARD OF 'porterlaw37.VerifyBound'. -/
def verifyBoundUptoCard : Claim7 := { stood := { row := verifyBoundUptoRow, standIns := [], harness := (true, "107dcb8cc198badf2b4b429fd4959770347fb0a5a46bac3f4dbcba7673836232"), looks := false }, kinds := [], alts := [], laidByText := true, laidKinds := [.data], laidTests := true, laidLooks := .later }
def VerifyBoundUptoCardSaid : Prop := Claim7.holds Tryz.pinned (.plain (OpenSpec.upto verifyBoundSpec)) verifyBoundUptoCard
end Rows
end Go.Proofs.YtkipbccgnekoaaaGreatDoor
