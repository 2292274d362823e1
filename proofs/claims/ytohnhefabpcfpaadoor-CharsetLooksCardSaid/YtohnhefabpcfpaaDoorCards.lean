/-
  DERIVED. GIVEN WITH THE SEED: THE CARDS: each row of YtohnhefabpcfpaaDoorRows.lean that lists a variable, with what it lists TIED to the program's text (the seventh form; the later family's looks); each row that meets fmt, with fmt's text TOLD by the authors' own Lean function (tested against real Go, not proved from fmt's source: count such statements apart). THE CARD IS WHAT COUNTS. Prove the row's statement (the work); the ties are given (YtohnhefabpcfpaaDoorTie.lean); close each card by the builder's one call (the guide's Derived/Test/ToyasCard.lean, 'card_holds'). Laid BY PROGRAM, IN A SANDBOX (cutbox-door.mjs). By AI agents, Wed Nov 11 2026. No macro, syntax, notation, axiom, sorry.
-/
import Derived.Test.YtohnhefabpcfpaaDoorRows
import GoSem.ClaimSeven
namespace Go.Proofs.YtohnhefabpcfpaaDoor
namespace Rows

/-- THE TIED CARD OF 'porterlaw12.CharsetSets'. -/
def charsetSetsCard : Claim7 := { stood := { row := charsetSetsRow, standIns := [], harness := (true, "43168f1251caea93ff736a843614eda65a8bcf37503958ae0b1177fd3071b379"), looks := false }, kinds := [], alts := [], laidByText := true, laidKinds := [.data], laidTests := true, laidLooks := .later }
def CharsetSetsCardSaid : Prop := Claim7.holds Tryd.pinned (.plain (OpenSpec.ofChange charsetSetsSpec)) charsetSetsCard

/-- THE TIED CARD OF 'porterlaw12.CharsetLooks'. -/
def charsetLooksCard : Claim7 := { stood := { row := charsetLooksRow, standIns := [], harness := (true, "43168f1251caea93ff736a843614eda65a8bcf37503958ae0b1177fd3071b379"), looks := false }, kinds := [], alts := [], laidByText := true, laidKinds := [.data], laidTests := true, laidLooks := .later }
def CharsetLooksCardSaid : Prop := Claim7.holds Tryd.pinned (.plain (OpenSpec.ofChange charsetLooksSpec)) charsetLooksCard

/-- THE TIED CARD OF 'porterlaw12.CharsetTurns'. -/
def charsetTurnsCard : Claim7 := { stood := { row := charsetTurnsRow, standIns := [], harness := (true, "43168f1251caea93ff736a843614eda65a8bcf37503958ae0b1177fd3071b379"), looks := false }, kinds := [], alts := [], laidByText := true, laidKinds := [.data], laidTests := true, laidLooks := .later }
def CharsetTurnsCardSaid : Prop := Claim7.holds Tryd.pinned (.plain (OpenSpec.ofChange charsetTurnsSpec)) charsetTurnsCard

/-- THE SECOND FORM's CARD OF 'porterlaw12.CharsetSets'. -/
def charsetSetsUptoCard : Claim7 := { stood := { row := charsetSetsUptoRow, standIns := [], harness := (true, "43168f1251caea93ff736a843614eda65a8bcf37503958ae0b1177fd3071b379"), looks := false }, kinds := [], alts := [], laidByText := true, laidKinds := [.data], laidTests := true, laidLooks := .later }
def CharsetSetsUptoCardSaid : Prop := Claim7.holds Tryd.pinned (.plain (OpenSpec.upto charsetSetsSpec)) charsetSetsUptoCard

/-- THE SECOND FORM's CARD OF 'porterlaw12.CharsetLooks'. -/
def charsetLooksUptoCard : Claim7 := { stood := { row := charsetLooksUptoRow, standIns := [], harness := (true, "43168f1251caea93ff736a843614eda65a8bcf37503958ae0b1177fd3071b379"), looks := false }, kinds := [], alts := [], laidByText := true, laidKinds := [.data], laidTests := true, laidLooks := .later }
def CharsetLooksUptoCardSaid : Prop := Claim7.holds Tryd.pinned (.plain (OpenSpec.upto charsetLooksSpec)) charsetLooksUptoCard

/-- THE SECOND FORM's CARD OF 'porterlaw12.CharsetTurns'. -/
def charsetTurnsUptoCard : Claim7 := { stood := { row := charsetTurnsUptoRow, standIns := [], harness := (true, "43168f1251caea93ff736a843614eda65a8bcf37503958ae0b1177fd3071b379"), looks := false }, kinds := [], alts := [], laidByText := true, laidKinds := [.data], laidTests := true, laidLooks := .later }
def CharsetTurnsUptoCardSaid : Prop := Claim7.holds Tryd.pinned (.plain (OpenSpec.upto charsetTurnsSpec)) charsetTurnsUptoCard
end Rows
end Go.Proofs.YtohnhefabpcfpaaDoor
