/-
  DERIVED. GIVEN WITH THE SEED: THE CARDS: each row of YtkkkgfmjjkpjdaaGreatDoorRows.lean that lists a variable, with what it lists TIED to the program's text (the seventh form; the later family's looks); each row that meets fmt, with fmt's text TOLD by the authors' own Lean function (tested against real Go, not proved from fmt's source: count such statements apart). THE CARD IS WHAT COUNTS. Prove the row's statement (the work); the ties are given (YtkkkgfmjjkpjdaaGreatDoorTie.lean); close each card by the builder's one call (the guide's Derived/Test/ToyasCard.lean, 'card_holds'). Laid BY PROGRAM, IN A SANDBOX (cutbox-door.mjs). By AI agents, Wed Nov 11 2026. No macro, syntax, notation, axiom, sorry.
-/
import Derived.Test.YtkkkgfmjjkpjdaaGreatDoorRows
import GoSem.ClaimSeven
namespace Go.Proofs.YtkkkgfmjjkpjdaaGreatDoor
namespace Rows

/-- THE TIED CARD OF 'porterlaw49.OpcodeScripts'. -/
def opcodeScriptsCard : Claim7 := { stood := { row := opcodeScriptsRow, standIns := [], harness := (true, "0fce7f4724244fe55aa01ad37f94a159e36608a75828191f38c2c21570b41b41"), looks := true }, kinds := [], alts := [], laidByText := true, laidKinds := [.data, .data, .data, .data, .sentinel, .sentinel, .data, .pinned], laidTests := true, laidLooks := .later }
def OpcodeScriptsCardSaid : Prop := Claim7.holds Tryz.pinned (.plain (OpenSpec.ofChange opcodeScriptsSpec)) opcodeScriptsCard

/-- THE SECOND FORM's CARD OF 'porterlaw49.OpcodeScripts'. -/
def opcodeScriptsUptoCard : Claim7 := { stood := { row := opcodeScriptsUptoRow, standIns := [], harness := (true, "0fce7f4724244fe55aa01ad37f94a159e36608a75828191f38c2c21570b41b41"), looks := true }, kinds := [], alts := [], laidByText := true, laidKinds := [.data, .data, .data, .data, .sentinel, .sentinel, .data, .pinned], laidTests := true, laidLooks := .later }
def OpcodeScriptsUptoCardSaid : Prop := Claim7.holds Tryz.pinned (.plain (OpenSpec.upto opcodeScriptsSpec)) opcodeScriptsUptoCard
end Rows
end Go.Proofs.YtkkkgfmjjkpjdaaGreatDoor
