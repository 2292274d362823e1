/-
  DERIVED. GIVEN WITH THE SEED: THE CARDS: each row of YtlmlihfmoabinaaDoorRows.lean that lists a variable, with what it lists TIED to the program's text (the seventh form; the later family's looks); each row that meets fmt, with fmt's text TOLD by the authors' own Lean function (tested against real Go, not proved from fmt's source: count such statements apart). THE CARD IS WHAT COUNTS. Prove the row's statement (the work); the ties are given (YtlmlihfmoabinaaDoorTie.lean); close each card by the builder's one call (the guide's Derived/Test/ToyasCard.lean, 'card_holds'). Laid BY PROGRAM, IN A SANDBOX (cutbox-door.mjs). By AI agents, Wed Nov 11 2026. No macro, syntax, notation, axiom, sorry.
-/
import Derived.Test.YtlmlihfmoabinaaDoorRows
import GoSem.ClaimSeven
namespace Go.Proofs.YtlmlihfmoabinaaDoor
namespace Rows

/-- THE TIED CARD OF 'porterlaw49.OpcodeLines'. -/
def opcodeLinesCard : Claim7 := { stood := { row := opcodeLinesRow, standIns := [], harness := (true, "9a718c06157379efdfa2056105b864db4f74085c923655adc518b36ab49bce8c"), looks := true }, kinds := [], alts := [], laidByText := true, laidKinds := [.data, .data, .data, .data, .sentinel, .sentinel, .data, .pinned], laidTests := true, laidLooks := .later }
def OpcodeLinesCardSaid : Prop := Claim7.holds Tryd.pinned (.plain (OpenSpec.ofChange opcodeLinesSpec)) opcodeLinesCard

/-- THE TIED CARD OF 'porterlaw49.OpcodeBack'. -/
def opcodeBackCard : Claim7 := { stood := { row := opcodeBackRow, standIns := [], harness := (true, "9a718c06157379efdfa2056105b864db4f74085c923655adc518b36ab49bce8c"), looks := true }, kinds := [], alts := [], laidByText := true, laidKinds := [.data, .data, .data, .data, .sentinel, .sentinel, .data, .pinned], laidTests := true, laidLooks := .later }
def OpcodeBackCardSaid : Prop := Claim7.holds Tryd.pinned (.plain (OpenSpec.ofChange opcodeBackSpec)) opcodeBackCard

/-- THE SECOND FORM's CARD OF 'porterlaw49.OpcodeLines'. -/
def opcodeLinesUptoCard : Claim7 := { stood := { row := opcodeLinesUptoRow, standIns := [], harness := (true, "9a718c06157379efdfa2056105b864db4f74085c923655adc518b36ab49bce8c"), looks := true }, kinds := [], alts := [], laidByText := true, laidKinds := [.data, .data, .data, .data, .sentinel, .sentinel, .data, .pinned], laidTests := true, laidLooks := .later }
def OpcodeLinesUptoCardSaid : Prop := Claim7.holds Tryd.pinned (.plain (OpenSpec.upto opcodeLinesSpec)) opcodeLinesUptoCard

/-- THE SECOND FORM's CARD OF 'porterlaw49.OpcodeBack'. -/
def opcodeBackUptoCard : Claim7 := { stood := { row := opcodeBackUptoRow, standIns := [], harness := (true, "9a718c06157379efdfa2056105b864db4f74085c923655adc518b36ab49bce8c"), looks := true }, kinds := [], alts := [], laidByText := true, laidKinds := [.data, .data, .data, .data, .sentinel, .sentinel, .data, .pinned], laidTests := true, laidLooks := .later }
def OpcodeBackUptoCardSaid : Prop := Claim7.holds Tryd.pinned (.plain (OpenSpec.upto opcodeBackSpec)) opcodeBackUptoCard
end Rows
end Go.Proofs.YtlmlihfmoabinaaDoor
