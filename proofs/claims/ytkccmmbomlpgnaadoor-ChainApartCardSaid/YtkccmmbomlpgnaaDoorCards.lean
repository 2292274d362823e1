/-
  DERIVED. GIVEN WITH THE SEED: THE CARDS: each row of YtkccmmbomlpgnaaDoorRows.lean that lists a variable, with what it lists TIED to the program's text (the seventh form; the later family's looks); each row that meets fmt, with fmt's text TOLD by the authors' own Lean function (tested against real Go, not proved from fmt's source: count such statements apart). THE CARD IS WHAT COUNTS. Prove the row's statement (the work); the ties are given (YtkccmmbomlpgnaaDoorTie.lean); close each card by the builder's one call (the guide's Derived/Test/ToyasCard.lean, 'card_holds'). Laid BY PROGRAM, IN A SANDBOX (cutbox-door.mjs). By AI agents, Wed Nov 11 2026. No macro, syntax, notation, axiom, sorry.
-/
import Derived.Test.YtkccmmbomlpgnaaDoorRows
import GoSem.ClaimSeven
namespace Go.Proofs.YtkccmmbomlpgnaaDoor
namespace Rows

/-- THE TIED CARD OF 'porterlaw06.BoxSeals'. -/
def boxSealsCard : Claim7 := { stood := { row := boxSealsRow, standIns := [], harness := (true, "6b70ed4f78e9d4dde741cba1e1946d0bdd36b1505a1eadc96a51c73ffcf5e61f"), looks := false }, kinds := [], alts := [], laidByText := true, laidKinds := [.data], laidTests := true, laidLooks := .later }
def BoxSealsCardSaid : Prop := Claim7.holds Tryd.pinned (.plain (OpenSpec.ofChange boxSealsSpec)) boxSealsCard

/-- THE TIED CARD OF 'porterlaw06.BoxOpens'. -/
def boxOpensCard : Claim7 := { stood := { row := boxOpensRow, standIns := [], harness := (true, "6b70ed4f78e9d4dde741cba1e1946d0bdd36b1505a1eadc96a51c73ffcf5e61f"), looks := false }, kinds := [], alts := [], laidByText := true, laidKinds := [.data], laidTests := true, laidLooks := .later }
def BoxOpensCardSaid : Prop := Claim7.holds Tryd.pinned (.plain (OpenSpec.ofChange boxOpensSpec)) boxOpensCard

/-- THE TIED CARD OF 'porterlaw06.BoxBack'. -/
def boxBackCard : Claim7 := { stood := { row := boxBackRow, standIns := [], harness := (true, "6b70ed4f78e9d4dde741cba1e1946d0bdd36b1505a1eadc96a51c73ffcf5e61f"), looks := false }, kinds := [], alts := [], laidByText := true, laidKinds := [.data], laidTests := true, laidLooks := .later }
def BoxBackCardSaid : Prop := Claim7.holds Tryd.pinned (.plain (OpenSpec.ofChange boxBackSpec)) boxBackCard

/-- THE TIED CARD OF 'porterlaw06.BoxOther'. -/
def boxOtherCard : Claim7 := { stood := { row := boxOtherRow, standIns := [], harness := (true, "6b70ed4f78e9d4dde741cba1e1946d0bdd36b1505a1eadc96a51c73ffcf5e61f"), looks := false }, kinds := [], alts := [], laidByText := true, laidKinds := [.data], laidTests := true, laidLooks := .later }
def BoxOtherCardSaid : Prop := Claim7.holds Tryd.pinned (.plain (OpenSpec.ofChange boxOtherSpec)) boxOtherCard

/-- THE TIED CARD OF 'porterlaw34.ChainMakes'. -/
def chainMakesCard : Claim7 := { stood := { row := chainMakesRow, standIns := [], harness := (true, "6b70ed4f78e9d4dde741cba1e1946d0bdd36b1505a1eadc96a51c73ffcf5e61f"), looks := false }, kinds := [], alts := [], laidByText := true, laidKinds := [.data], laidTests := true, laidLooks := .later }
def ChainMakesCardSaid : Prop := Claim7.holds Tryd.pinned (.plain (OpenSpec.ofChange chainMakesSpec)) chainMakesCard

/-- THE TIED CARD OF 'porterlaw34.ChainTags'. -/
def chainTagsCard : Claim7 := { stood := { row := chainTagsRow, standIns := [], harness := (true, "6b70ed4f78e9d4dde741cba1e1946d0bdd36b1505a1eadc96a51c73ffcf5e61f"), looks := false }, kinds := [], alts := [], laidByText := true, laidKinds := [.data], laidTests := true, laidLooks := .later }
def ChainTagsCardSaid : Prop := Claim7.holds Tryd.pinned (.plain (OpenSpec.ofChange chainTagsSpec)) chainTagsCard

/-- THE TIED CARD OF 'porterlaw34.ChainOn'. -/
def chainOnCard : Claim7 := { stood := { row := chainOnRow, standIns := [], harness := (true, "6b70ed4f78e9d4dde741cba1e1946d0bdd36b1505a1eadc96a51c73ffcf5e61f"), looks := false }, kinds := [], alts := [], laidByText := true, laidKinds := [.data], laidTests := true, laidLooks := .later }
def ChainOnCardSaid : Prop := Claim7.holds Tryd.pinned (.plain (OpenSpec.ofChange chainOnSpec)) chainOnCard

/-- THE TIED CARD OF 'porterlaw34.ChainApart'. -/
def chainApartCard : Claim7 := { stood := { row := chainApartRow, standIns := [], harness := (true, "6b70ed4f78e9d4dde741cba1e1946d0bdd36b1505a1eadc96a51c73ffcf5e61f"), looks := false }, kinds := [], alts := [], laidByText := true, laidKinds := [.data], laidTests := true, laidLooks := .later }
def ChainApartCardSaid : Prop := Claim7.holds Tryd.pinned (.plain (OpenSpec.ofChange chainApartSpec)) chainApartCard

/-- THE TIED CARD OF 'porterlaw35.HolderAdds'. -/
def holderAddsCard : Claim7 := { stood := { row := holderAddsRow, standIns := [], harness := (true, "6b70ed4f78e9d4dde741cba1e1946d0bdd36b1505a1eadc96a51c73ffcf5e61f"), looks := false }, kinds := [], alts := [], laidByText := true, laidKinds := [.data], laidTests := true, laidLooks := .later }
def HolderAddsCardSaid : Prop := Claim7.holds Tryd.pinned (.plain (OpenSpec.ofChange holderAddsSpec)) holderAddsCard

/-- THE TIED CARD OF 'porterlaw35.HolderBinds'. -/
def holderBindsCard : Claim7 := { stood := { row := holderBindsRow, standIns := [], harness := (true, "6b70ed4f78e9d4dde741cba1e1946d0bdd36b1505a1eadc96a51c73ffcf5e61f"), looks := false }, kinds := [], alts := [], laidByText := true, laidKinds := [.data], laidTests := true, laidLooks := .later }
def HolderBindsCardSaid : Prop := Claim7.holds Tryd.pinned (.plain (OpenSpec.ofChange holderBindsSpec)) holderBindsCard

/-- THE TIED CARD OF 'porterlaw35.HolderKnown'. -/
def holderKnownCard : Claim7 := { stood := { row := holderKnownRow, standIns := [], harness := (true, "6b70ed4f78e9d4dde741cba1e1946d0bdd36b1505a1eadc96a51c73ffcf5e61f"), looks := false }, kinds := [], alts := [], laidByText := true, laidKinds := [.data], laidTests := true, laidLooks := .later }
def HolderKnownCardSaid : Prop := Claim7.holds Tryd.pinned (.plain (OpenSpec.ofChange holderKnownSpec)) holderKnownCard

/-- THE SECOND FORM's CARD OF 'porterlaw06.BoxSeals'. -/
def boxSealsUptoCard : Claim7 := { stood := { row := boxSealsUptoRow, standIns := [], harness := (true, "6b70ed4f78e9d4dde741cba1e1946d0bdd36b1505a1eadc96a51c73ffcf5e61f"), looks := false }, kinds := [], alts := [], laidByText := true, laidKinds := [.data], laidTests := true, laidLooks := .later }
def BoxSealsUptoCardSaid : Prop := Claim7.holds Tryd.pinned (.plain (OpenSpec.upto boxSealsSpec)) boxSealsUptoCard

/-- THE SECOND FORM's CARD OF 'porterlaw06.BoxOpens'. -/
def boxOpensUptoCard : Claim7 := { stood := { row := boxOpensUptoRow, standIns := [], harness := (true, "6b70ed4f78e9d4dde741cba1e1946d0bdd36b1505a1eadc96a51c73ffcf5e61f"), looks := false }, kinds := [], alts := [], laidByText := true, laidKinds := [.data], laidTests := true, laidLooks := .later }
def BoxOpensUptoCardSaid : Prop := Claim7.holds Tryd.pinned (.plain (OpenSpec.upto boxOpensSpec)) boxOpensUptoCard

/-- THE SECOND FORM's CARD OF 'porterlaw06.BoxBack'. -/
def boxBackUptoCard : Claim7 := { stood := { row := boxBackUptoRow, standIns := [], harness := (true, "6b70ed4f78e9d4dde741cba1e1946d0bdd36b1505a1eadc96a51c73ffcf5e61f"), looks := false }, kinds := [], alts := [], laidByText := true, laidKinds := [.data], laidTests := true, laidLooks := .later }
def BoxBackUptoCardSaid : Prop := Claim7.holds Tryd.pinned (.plain (OpenSpec.upto boxBackSpec)) boxBackUptoCard

/-- THE SECOND FORM's CARD OF 'porterlaw06.BoxOther'. -/
def boxOtherUptoCard : Claim7 := { stood := { row := boxOtherUptoRow, standIns := [], harness := (true, "6b70ed4f78e9d4dde741cba1e1946d0bdd36b1505a1eadc96a51c73ffcf5e61f"), looks := false }, kinds := [], alts := [], laidByText := true, laidKinds := [.data], laidTests := true, laidLooks := .later }
def BoxOtherUptoCardSaid : Prop := Claim7.holds Tryd.pinned (.plain (OpenSpec.upto boxOtherSpec)) boxOtherUptoCard

/-- THE SECOND FORM's CARD OF 'porterlaw34.ChainMakes'. -/
def chainMakesUptoCard : Claim7 := { stood := { row := chainMakesUptoRow, standIns := [], harness := (true, "6b70ed4f78e9d4dde741cba1e1946d0bdd36b1505a1eadc96a51c73ffcf5e61f"), looks := false }, kinds := [], alts := [], laidByText := true, laidKinds := [.data], laidTests := true, laidLooks := .later }
def ChainMakesUptoCardSaid : Prop := Claim7.holds Tryd.pinned (.plain (OpenSpec.upto chainMakesSpec)) chainMakesUptoCard

/-- THE SECOND FORM's CARD OF 'porterlaw34.ChainTags'. -/
def chainTagsUptoCard : Claim7 := { stood := { row := chainTagsUptoRow, standIns := [], harness := (true, "6b70ed4f78e9d4dde741cba1e1946d0bdd36b1505a1eadc96a51c73ffcf5e61f"), looks := false }, kinds := [], alts := [], laidByText := true, laidKinds := [.data], laidTests := true, laidLooks := .later }
def ChainTagsUptoCardSaid : Prop := Claim7.holds Tryd.pinned (.plain (OpenSpec.upto chainTagsSpec)) chainTagsUptoCard

/-- THE SECOND FORM's CARD OF 'porterlaw34.ChainOn'. -/
def chainOnUptoCard : Claim7 := { stood := { row := chainOnUptoRow, standIns := [], harness := (true, "6b70ed4f78e9d4dde741cba1e1946d0bdd36b1505a1eadc96a51c73ffcf5e61f"), looks := false }, kinds := [], alts := [], laidByText := true, laidKinds := [.data], laidTests := true, laidLooks := .later }
def ChainOnUptoCardSaid : Prop := Claim7.holds Tryd.pinned (.plain (OpenSpec.upto chainOnSpec)) chainOnUptoCard

/-- THE SECOND FORM's CARD OF 'porterlaw34.ChainApart'. -/
def chainApartUptoCard : Claim7 := { stood := { row := chainApartUptoRow, standIns := [], harness := (true, "6b70ed4f78e9d4dde741cba1e1946d0bdd36b1505a1eadc96a51c73ffcf5e61f"), looks := false }, kinds := [], alts := [], laidByText := true, laidKinds := [.data], laidTests := true, laidLooks := .later }
def ChainApartUptoCardSaid : Prop := Claim7.holds Tryd.pinned (.plain (OpenSpec.upto chainApartSpec)) chainApartUptoCard

/-- THE SECOND FORM's CARD OF 'porterlaw35.HolderAdds'. -/
def holderAddsUptoCard : Claim7 := { stood := { row := holderAddsUptoRow, standIns := [], harness := (true, "6b70ed4f78e9d4dde741cba1e1946d0bdd36b1505a1eadc96a51c73ffcf5e61f"), looks := false }, kinds := [], alts := [], laidByText := true, laidKinds := [.data], laidTests := true, laidLooks := .later }
def HolderAddsUptoCardSaid : Prop := Claim7.holds Tryd.pinned (.plain (OpenSpec.upto holderAddsSpec)) holderAddsUptoCard

/-- THE SECOND FORM's CARD OF 'porterlaw35.HolderBinds'. -/
def holderBindsUptoCard : Claim7 := { stood := { row := holderBindsUptoRow, standIns := [], harness := (true, "6b70ed4f78e9d4dde741cba1e1946d0bdd36b1505a1eadc96a51c73ffcf5e61f"), looks := false }, kinds := [], alts := [], laidByText := true, laidKinds := [.data], laidTests := true, laidLooks := .later }
def HolderBindsUptoCardSaid : Prop := Claim7.holds Tryd.pinned (.plain (OpenSpec.upto holderBindsSpec)) holderBindsUptoCard

/-- THE SECOND FORM's CARD OF 'porterlaw35.HolderKnown'. -/
def holderKnownUptoCard : Claim7 := { stood := { row := holderKnownUptoRow, standIns := [], harness := (true, "6b70ed4f78e9d4dde741cba1e1946d0bdd36b1505a1eadc96a51c73ffcf5e61f"), looks := false }, kinds := [], alts := [], laidByText := true, laidKinds := [.data], laidTests := true, laidLooks := .later }
def HolderKnownUptoCardSaid : Prop := Claim7.holds Tryd.pinned (.plain (OpenSpec.upto holderKnownSpec)) holderKnownUptoCard
end Rows
end Go.Proofs.YtkccmmbomlpgnaaDoor
