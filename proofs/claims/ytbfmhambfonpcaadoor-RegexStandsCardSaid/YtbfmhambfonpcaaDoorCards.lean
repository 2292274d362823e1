/-
  DERIVED. GIVEN WITH THE SEED: THE CARDS: each row of YtbfmhambfonpcaaDoorRows.lean that lists a variable, with what it lists TIED to the program's text (the seventh form; the later family's looks); each row that meets fmt, with fmt's text TOLD by the authors' own Lean function (tested against real Go, not proved from fmt's source: count such statements apart). THE CARD IS WHAT COUNTS. Prove the row's statement (the work); the ties are given (YtbfmhambfonpcaaDoorTie.lean); close each card by the builder's one call (the guide's Derived/Test/ToyasCard.lean, 'card_holds'). Laid BY PROGRAM, IN A SANDBOX (cutbox-door.mjs). By AI agents, Wed Nov 11 2026. No macro, syntax, notation, axiom, sorry.
-/
import Derived.Test.YtbfmhambfonpcaaDoorRows
import GoSem.ClaimSeven
namespace Go.Proofs.YtbfmhambfonpcaaDoor
namespace Rows

/-- THE TIED CARD OF 'porterlaw13.RegexTells'. -/
def regexTellsCard : Claim7 := { stood := { row := regexTellsRow, standIns := [], harness := (true, "397ff60f1cd7ee252e7dbcb3740e449c38a345c109f656cc6e3b26dc8a4a4913"), looks := true }, kinds := [], alts := [], laidByText := true, laidKinds := [.data], laidTests := true, laidLooks := .later }
def RegexTellsCardSaid : Prop := Claim7.holds Tryd.pinned (.plain (OpenSpec.ofChange regexTellsSpec)) regexTellsCard

/-- THE TIED CARD OF 'porterlaw13.RegexReads'. -/
def regexReadsCard : Claim7 := { stood := { row := regexReadsRow, standIns := [], harness := (true, "397ff60f1cd7ee252e7dbcb3740e449c38a345c109f656cc6e3b26dc8a4a4913"), looks := true }, kinds := [], alts := [], laidByText := true, laidKinds := [.data], laidTests := true, laidLooks := .later }
def RegexReadsCardSaid : Prop := Claim7.holds Tryd.pinned (.plain (OpenSpec.ofChange regexReadsSpec)) regexReadsCard

/-- THE TIED CARD OF 'porterlaw13.RegexStands'. -/
def regexStandsCard : Claim7 := { stood := { row := regexStandsRow, standIns := [], harness := (true, "397ff60f1cd7ee252e7dbcb3740e449c38a345c109f656cc6e3b26dc8a4a4913"), looks := true }, kinds := [], alts := [], laidByText := true, laidKinds := [.data], laidTests := true, laidLooks := .later }
def RegexStandsCardSaid : Prop := Claim7.holds Tryd.pinned (.plain (OpenSpec.ofChange regexStandsSpec)) regexStandsCard

/-- THE SECOND FORM's CARD OF 'porterlaw13.RegexTells'. -/
def regexTellsUptoCard : Claim7 := { stood := { row := regexTellsUptoRow, standIns := [], harness := (true, "397ff60f1cd7ee252e7dbcb3740e449c38a345c109f656cc6e3b26dc8a4a4913"), looks := true }, kinds := [], alts := [], laidByText := true, laidKinds := [.data], laidTests := true, laidLooks := .later }
def RegexTellsUptoCardSaid : Prop := Claim7.holds Tryd.pinned (.plain (OpenSpec.upto regexTellsSpec)) regexTellsUptoCard

/-- THE SECOND FORM's CARD OF 'porterlaw13.RegexReads'. -/
def regexReadsUptoCard : Claim7 := { stood := { row := regexReadsUptoRow, standIns := [], harness := (true, "397ff60f1cd7ee252e7dbcb3740e449c38a345c109f656cc6e3b26dc8a4a4913"), looks := true }, kinds := [], alts := [], laidByText := true, laidKinds := [.data], laidTests := true, laidLooks := .later }
def RegexReadsUptoCardSaid : Prop := Claim7.holds Tryd.pinned (.plain (OpenSpec.upto regexReadsSpec)) regexReadsUptoCard

/-- THE SECOND FORM's CARD OF 'porterlaw13.RegexStands'. -/
def regexStandsUptoCard : Claim7 := { stood := { row := regexStandsUptoRow, standIns := [], harness := (true, "397ff60f1cd7ee252e7dbcb3740e449c38a345c109f656cc6e3b26dc8a4a4913"), looks := true }, kinds := [], alts := [], laidByText := true, laidKinds := [.data], laidTests := true, laidLooks := .later }
def RegexStandsUptoCardSaid : Prop := Claim7.holds Tryd.pinned (.plain (OpenSpec.upto regexStandsSpec)) regexStandsUptoCard
end Rows
end Go.Proofs.YtbfmhambfonpcaaDoor
