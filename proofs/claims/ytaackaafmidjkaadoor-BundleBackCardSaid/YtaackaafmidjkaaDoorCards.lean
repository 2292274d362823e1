/-
  DERIVED. GIVEN WITH THE SEED: THE CARDS: each row of YtaackaafmidjkaaDoorRows.lean that lists a variable, with what it lists TIED to the program's text (the seventh form; the later family's looks); each row that meets fmt, with fmt's text TOLD by the authors' own Lean function (tested against real Go, not proved from fmt's source: count such statements apart). THE CARD IS WHAT COUNTS. Prove the row's statement (the work); the ties are given (YtaackaafmidjkaaDoorTie.lean); close each card by the builder's one call (the guide's Derived/Test/ToyasCard.lean, 'card_holds'). Laid BY PROGRAM, IN A SANDBOX (cutbox-door.mjs). By AI agents, Wed Nov 11 2026. No macro, syntax, notation, axiom, sorry.
-/
import Derived.Test.YtaackaafmidjkaaDoorRows
import GoSem.ClaimSeven
namespace Go.Proofs.YtaackaafmidjkaaDoor
namespace Rows

/-- THE TIED CARD OF 'porterlaw31.BundlePuts'. -/
def bundlePutsCard : Claim7 := { stood := { row := bundlePutsRow, standIns := [], harness := (true, "bebf6c34376cfc34869d1e14d2d57e0a36eb76d4f079ceaaffa2df4818ddb289"), looks := true }, kinds := [], alts := [], laidByText := true, laidKinds := [.handle], laidTests := true, laidLooks := .later }
def BundlePutsCardSaid : Prop := Claim7.holds Tryd.pinned (.plain (OpenSpec.ofChange bundlePutsSpec)) bundlePutsCard

/-- THE TIED CARD OF 'porterlaw31.BundleGets'. -/
def bundleGetsCard : Claim7 := { stood := { row := bundleGetsRow, standIns := [], harness := (true, "bebf6c34376cfc34869d1e14d2d57e0a36eb76d4f079ceaaffa2df4818ddb289"), looks := true }, kinds := [], alts := [], laidByText := true, laidKinds := [.handle], laidTests := true, laidLooks := .later }
def BundleGetsCardSaid : Prop := Claim7.holds Tryd.pinned (.plain (OpenSpec.ofChange bundleGetsSpec)) bundleGetsCard

/-- THE TIED CARD OF 'porterlaw31.BundleBack'. -/
def bundleBackCard : Claim7 := { stood := { row := bundleBackRow, standIns := [], harness := (true, "bebf6c34376cfc34869d1e14d2d57e0a36eb76d4f079ceaaffa2df4818ddb289"), looks := true }, kinds := [], alts := [], laidByText := true, laidKinds := [.handle], laidTests := true, laidLooks := .later }
def BundleBackCardSaid : Prop := Claim7.holds Tryd.pinned (.plain (OpenSpec.ofChange bundleBackSpec)) bundleBackCard

/-- THE SECOND FORM's CARD OF 'porterlaw31.BundlePuts'. -/
def bundlePutsUptoCard : Claim7 := { stood := { row := bundlePutsUptoRow, standIns := [], harness := (true, "bebf6c34376cfc34869d1e14d2d57e0a36eb76d4f079ceaaffa2df4818ddb289"), looks := true }, kinds := [], alts := [], laidByText := true, laidKinds := [.handle], laidTests := true, laidLooks := .later }
def BundlePutsUptoCardSaid : Prop := Claim7.holds Tryd.pinned (.plain (OpenSpec.upto bundlePutsSpec)) bundlePutsUptoCard

/-- THE SECOND FORM's CARD OF 'porterlaw31.BundleGets'. -/
def bundleGetsUptoCard : Claim7 := { stood := { row := bundleGetsUptoRow, standIns := [], harness := (true, "bebf6c34376cfc34869d1e14d2d57e0a36eb76d4f079ceaaffa2df4818ddb289"), looks := true }, kinds := [], alts := [], laidByText := true, laidKinds := [.handle], laidTests := true, laidLooks := .later }
def BundleGetsUptoCardSaid : Prop := Claim7.holds Tryd.pinned (.plain (OpenSpec.upto bundleGetsSpec)) bundleGetsUptoCard

/-- THE SECOND FORM's CARD OF 'porterlaw31.BundleBack'. -/
def bundleBackUptoCard : Claim7 := { stood := { row := bundleBackUptoRow, standIns := [], harness := (true, "bebf6c34376cfc34869d1e14d2d57e0a36eb76d4f079ceaaffa2df4818ddb289"), looks := true }, kinds := [], alts := [], laidByText := true, laidKinds := [.handle], laidTests := true, laidLooks := .later }
def BundleBackUptoCardSaid : Prop := Claim7.holds Tryd.pinned (.plain (OpenSpec.upto bundleBackSpec)) bundleBackUptoCard
end Rows
end Go.Proofs.YtaackaafmidjkaaDoor
