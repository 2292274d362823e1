/-
  DERIVED. GIVEN WITH THE SEED: THE CARDS: each row of YtnfmbjljpolnnaaDoorRows.lean that lists a variable, with what it lists TIED to the program's text (the seventh form; the later family's looks); each row that meets fmt, with fmt's text TOLD by the authors' own Lean function (tested against real Go, not proved from fmt's source: count such statements apart). THE CARD IS WHAT COUNTS. Prove the row's statement (the work); the ties are given (YtnfmbjljpolnnaaDoorTie.lean); close each card by the builder's one call (the guide's Derived/Test/ToyasCard.lean, 'card_holds'). Laid BY PROGRAM, IN A SANDBOX (cutbox-door.mjs). By AI agents, Wed Nov 11 2026. No macro, syntax, notation, axiom, sorry.
-/
import Derived.Test.YtnfmbjljpolnnaaDoorRows
import GoSem.ClaimSeven
namespace Go.Proofs.YtnfmbjljpolnnaaDoor
namespace Rows

/-- THE TIED CARD OF 'porterlaw35.HolderAdds'. -/
def holderAddsCard : Claim7 := { stood := { row := holderAddsRow, standIns := [], harness := (true, "cf8dede9258ee85c148319043f30e6e1d1c7031035cc46fa43f0693671d96ca5"), looks := false }, kinds := [], alts := [], laidByText := true, laidKinds := [.data], laidTests := true, laidLooks := .later }
def HolderAddsCardSaid : Prop := Claim7.holds Tryd.pinned (.plain (OpenSpec.ofChange holderAddsSpec)) holderAddsCard

/-- THE TIED CARD OF 'porterlaw35.HolderBinds'. -/
def holderBindsCard : Claim7 := { stood := { row := holderBindsRow, standIns := [], harness := (true, "cf8dede9258ee85c148319043f30e6e1d1c7031035cc46fa43f0693671d96ca5"), looks := false }, kinds := [], alts := [], laidByText := true, laidKinds := [.data], laidTests := true, laidLooks := .later }
def HolderBindsCardSaid : Prop := Claim7.holds Tryd.pinned (.plain (OpenSpec.ofChange holderBindsSpec)) holderBindsCard

/-- THE TIED CARD OF 'porterlaw35.HolderKnown'. -/
def holderKnownCard : Claim7 := { stood := { row := holderKnownRow, standIns := [], harness := (true, "cf8dede9258ee85c148319043f30e6e1d1c7031035cc46fa43f0693671d96ca5"), looks := false }, kinds := [], alts := [], laidByText := true, laidKinds := [.data], laidTests := true, laidLooks := .later }
def HolderKnownCardSaid : Prop := Claim7.holds Tryd.pinned (.plain (OpenSpec.ofChange holderKnownSpec)) holderKnownCard

/-- THE SECOND FORM's CARD OF 'porterlaw35.HolderAdds'. -/
def holderAddsUptoCard : Claim7 := { stood := { row := holderAddsUptoRow, standIns := [], harness := (true, "cf8dede9258ee85c148319043f30e6e1d1c7031035cc46fa43f0693671d96ca5"), looks := false }, kinds := [], alts := [], laidByText := true, laidKinds := [.data], laidTests := true, laidLooks := .later }
def HolderAddsUptoCardSaid : Prop := Claim7.holds Tryd.pinned (.plain (OpenSpec.upto holderAddsSpec)) holderAddsUptoCard

/-- THE SECOND FORM's CARD OF 'porterlaw35.HolderBinds'. -/
def holderBindsUptoCard : Claim7 := { stood := { row := holderBindsUptoRow, standIns := [], harness := (true, "cf8dede9258ee85c148319043f30e6e1d1c7031035cc46fa43f0693671d96ca5"), looks := false }, kinds := [], alts := [], laidByText := true, laidKinds := [.data], laidTests := true, laidLooks := .later }
def HolderBindsUptoCardSaid : Prop := Claim7.holds Tryd.pinned (.plain (OpenSpec.upto holderBindsSpec)) holderBindsUptoCard

/-- THE SECOND FORM's CARD OF 'porterlaw35.HolderKnown'. -/
def holderKnownUptoCard : Claim7 := { stood := { row := holderKnownUptoRow, standIns := [], harness := (true, "cf8dede9258ee85c148319043f30e6e1d1c7031035cc46fa43f0693671d96ca5"), looks := false }, kinds := [], alts := [], laidByText := true, laidKinds := [.data], laidTests := true, laidLooks := .later }
def HolderKnownUptoCardSaid : Prop := Claim7.holds Tryd.pinned (.plain (OpenSpec.upto holderKnownSpec)) holderKnownUptoCard
end Rows
end Go.Proofs.YtnfmbjljpolnnaaDoor
