/-
  DERIVED. GIVEN WITH THE SEED: THE CARDS: each row of YtpmoinpamdbnhaaDoorRows.lean that lists a variable, with what it lists TIED to the program's text (the seventh form; the later family's looks); each row that meets fmt, with fmt's text TOLD by the authors' own Lean function (tested against real Go, not proved from fmt's source: count such statements apart). THE CARD IS WHAT COUNTS. Prove the row's statement (the work); the ties are given (YtpmoinpamdbnhaaDoorTie.lean); close each card by the builder's one call (the guide's Derived/Test/ToyasCard.lean, 'card_holds'). Laid BY PROGRAM, IN A SANDBOX (cutbox-door.mjs). By AI agents, Wed Nov 11 2026. No macro, syntax, notation, axiom, sorry.
-/
import Derived.Test.YtpmoinpamdbnhaaDoorRows
import GoSem.ClaimSeven
namespace Go.Proofs.YtpmoinpamdbnhaaDoor
namespace Rows

/-- THE TIED CARD OF 'porterlaw43.EntryWrites'. -/
def entryWritesCard : Claim7 := { stood := { row := entryWritesRow, standIns := [], harness := (true, "3b396096783d00a34d6eca424b5452acde2f7208232f6ae4cbaddad724bb2bef"), looks := false }, kinds := [], alts := [], laidByText := true, laidKinds := [.data], laidTests := true, laidLooks := .later }
def EntryWritesCardSaid : Prop := Claim7.holds Tryd.pinned (.plain (OpenSpec.ofChange entryWritesSpec)) entryWritesCard

/-- THE TIED CARD OF 'porterlaw43.EntryReads'. -/
def entryReadsCard : Claim7 := { stood := { row := entryReadsRow, standIns := [], harness := (true, "3b396096783d00a34d6eca424b5452acde2f7208232f6ae4cbaddad724bb2bef"), looks := false }, kinds := [], alts := [], laidByText := true, laidKinds := [.data], laidTests := true, laidLooks := .later }
def EntryReadsCardSaid : Prop := Claim7.holds Tryd.pinned (.plain (OpenSpec.ofChange entryReadsSpec)) entryReadsCard

/-- THE TIED CARD OF 'porterlaw43.EntryTorn'. -/
def entryTornCard : Claim7 := { stood := { row := entryTornRow, standIns := [], harness := (true, "3b396096783d00a34d6eca424b5452acde2f7208232f6ae4cbaddad724bb2bef"), looks := false }, kinds := [], alts := [], laidByText := true, laidKinds := [.data], laidTests := true, laidLooks := .later }
def EntryTornCardSaid : Prop := Claim7.holds Tryd.pinned (.plain (OpenSpec.ofChange entryTornSpec)) entryTornCard

/-- THE SECOND FORM's CARD OF 'porterlaw43.EntryWrites'. -/
def entryWritesUptoCard : Claim7 := { stood := { row := entryWritesUptoRow, standIns := [], harness := (true, "3b396096783d00a34d6eca424b5452acde2f7208232f6ae4cbaddad724bb2bef"), looks := false }, kinds := [], alts := [], laidByText := true, laidKinds := [.data], laidTests := true, laidLooks := .later }
def EntryWritesUptoCardSaid : Prop := Claim7.holds Tryd.pinned (.plain (OpenSpec.upto entryWritesSpec)) entryWritesUptoCard

/-- THE SECOND FORM's CARD OF 'porterlaw43.EntryReads'. -/
def entryReadsUptoCard : Claim7 := { stood := { row := entryReadsUptoRow, standIns := [], harness := (true, "3b396096783d00a34d6eca424b5452acde2f7208232f6ae4cbaddad724bb2bef"), looks := false }, kinds := [], alts := [], laidByText := true, laidKinds := [.data], laidTests := true, laidLooks := .later }
def EntryReadsUptoCardSaid : Prop := Claim7.holds Tryd.pinned (.plain (OpenSpec.upto entryReadsSpec)) entryReadsUptoCard

/-- THE SECOND FORM's CARD OF 'porterlaw43.EntryTorn'. -/
def entryTornUptoCard : Claim7 := { stood := { row := entryTornUptoRow, standIns := [], harness := (true, "3b396096783d00a34d6eca424b5452acde2f7208232f6ae4cbaddad724bb2bef"), looks := false }, kinds := [], alts := [], laidByText := true, laidKinds := [.data], laidTests := true, laidLooks := .later }
def EntryTornUptoCardSaid : Prop := Claim7.holds Tryd.pinned (.plain (OpenSpec.upto entryTornSpec)) entryTornUptoCard
end Rows
end Go.Proofs.YtpmoinpamdbnhaaDoor
