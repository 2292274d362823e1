/-
  DERIVED. GIVEN WITH THE SEED: THE CARDS: each row of YtbkackmlmccpjaaDoorRows.lean that lists a variable, with what it lists TIED to the program's text (the seventh form; the later family's looks); each row that meets fmt, with fmt's text TOLD by the authors' own Lean function (tested against real Go, not proved from fmt's source: count such statements apart). THE CARD IS WHAT COUNTS. Prove the row's statement (the work); the ties are given (YtbkackmlmccpjaaDoorTie.lean); close each card by the builder's one call (the guide's Derived/Test/ToyasCard.lean, 'card_holds'). Laid BY PROGRAM, IN A SANDBOX (cutbox-door.mjs). By AI agents, Wed Nov 11 2026. No macro, syntax, notation, axiom, sorry.
-/
import Derived.Test.YtbkackmlmccpjaaDoorRows
import GoSem.ClaimSeven
namespace Go.Proofs.YtbkackmlmccpjaaDoor
namespace Rows

/-- THE TIED CARD OF 'porterlaw11.LabelsMakes'. -/
def labelsMakesCard : Claim7 := { stood := { row := labelsMakesRow, standIns := [], harness := (true, "155e133f82689ffe3ab908ecef95c881520909597b9e8cf394bf865f32cee68e"), looks := false }, kinds := [], alts := [], laidByText := true, laidKinds := [.data, .pinned], laidTests := true, laidLooks := .later }
def LabelsMakesCardSaid : Prop := Claim7.holds Tryd.pinned (.plain (OpenSpec.ofChange labelsMakesSpec)) labelsMakesCard

/-- THE TIED CARD OF 'porterlaw11.LabelsTexts'. -/
def labelsTextsCard : Claim7 := { stood := { row := labelsTextsRow, standIns := [], harness := (true, "155e133f82689ffe3ab908ecef95c881520909597b9e8cf394bf865f32cee68e"), looks := false }, kinds := [], alts := [], laidByText := true, laidKinds := [.data, .pinned], laidTests := true, laidLooks := .later }
def LabelsTextsCardSaid : Prop := Claim7.holds Tryd.pinned (.plain (OpenSpec.ofChange labelsTextsSpec)) labelsTextsCard

/-- THE TIED CARD OF 'porterlaw11.LabelsBack'. -/
def labelsBackCard : Claim7 := { stood := { row := labelsBackRow, standIns := [], harness := (true, "155e133f82689ffe3ab908ecef95c881520909597b9e8cf394bf865f32cee68e"), looks := false }, kinds := [], alts := [], laidByText := true, laidKinds := [.data, .pinned], laidTests := true, laidLooks := .later }
def LabelsBackCardSaid : Prop := Claim7.holds Tryd.pinned (.plain (OpenSpec.ofChange labelsBackSpec)) labelsBackCard

/-- THE TIED CARD OF 'porterlaw11.LabelsKeep'. -/
def labelsKeepCard : Claim7 := { stood := { row := labelsKeepRow, standIns := [], harness := (true, "155e133f82689ffe3ab908ecef95c881520909597b9e8cf394bf865f32cee68e"), looks := false }, kinds := [], alts := [], laidByText := true, laidKinds := [.data, .pinned], laidTests := true, laidLooks := .later }
def LabelsKeepCardSaid : Prop := Claim7.holds Tryd.pinned (.plain (OpenSpec.ofChange labelsKeepSpec)) labelsKeepCard

/-- THE SECOND FORM's CARD OF 'porterlaw11.LabelsMakes'. -/
def labelsMakesUptoCard : Claim7 := { stood := { row := labelsMakesUptoRow, standIns := [], harness := (true, "155e133f82689ffe3ab908ecef95c881520909597b9e8cf394bf865f32cee68e"), looks := false }, kinds := [], alts := [], laidByText := true, laidKinds := [.data, .pinned], laidTests := true, laidLooks := .later }
def LabelsMakesUptoCardSaid : Prop := Claim7.holds Tryd.pinned (.plain (OpenSpec.upto labelsMakesSpec)) labelsMakesUptoCard

/-- THE SECOND FORM's CARD OF 'porterlaw11.LabelsTexts'. -/
def labelsTextsUptoCard : Claim7 := { stood := { row := labelsTextsUptoRow, standIns := [], harness := (true, "155e133f82689ffe3ab908ecef95c881520909597b9e8cf394bf865f32cee68e"), looks := false }, kinds := [], alts := [], laidByText := true, laidKinds := [.data, .pinned], laidTests := true, laidLooks := .later }
def LabelsTextsUptoCardSaid : Prop := Claim7.holds Tryd.pinned (.plain (OpenSpec.upto labelsTextsSpec)) labelsTextsUptoCard

/-- THE SECOND FORM's CARD OF 'porterlaw11.LabelsBack'. -/
def labelsBackUptoCard : Claim7 := { stood := { row := labelsBackUptoRow, standIns := [], harness := (true, "155e133f82689ffe3ab908ecef95c881520909597b9e8cf394bf865f32cee68e"), looks := false }, kinds := [], alts := [], laidByText := true, laidKinds := [.data, .pinned], laidTests := true, laidLooks := .later }
def LabelsBackUptoCardSaid : Prop := Claim7.holds Tryd.pinned (.plain (OpenSpec.upto labelsBackSpec)) labelsBackUptoCard

/-- THE SECOND FORM's CARD OF 'porterlaw11.LabelsKeep'. -/
def labelsKeepUptoCard : Claim7 := { stood := { row := labelsKeepUptoRow, standIns := [], harness := (true, "155e133f82689ffe3ab908ecef95c881520909597b9e8cf394bf865f32cee68e"), looks := false }, kinds := [], alts := [], laidByText := true, laidKinds := [.data, .pinned], laidTests := true, laidLooks := .later }
def LabelsKeepUptoCardSaid : Prop := Claim7.holds Tryd.pinned (.plain (OpenSpec.upto labelsKeepSpec)) labelsKeepUptoCard
end Rows
end Go.Proofs.YtbkackmlmccpjaaDoor
