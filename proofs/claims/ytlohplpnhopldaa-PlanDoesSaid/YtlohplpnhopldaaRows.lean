/-
  No cell of these rows narrows 'for every input' (looked for: loops, veiled, ifaces, maps, wideKeys, modest, calm, conditions, laid).
  DERIVED. THE GIVEN ROWS OF THIS SEAT. 3 by the template 'for every input the law returns true; each argument reads behind the call as it read before'; 0 by the template 'total and deterministic' (their statements: YtlohplpnhopldaaTotals.lean).
  GIVEN WITH THE SEED: the statements are not yours to turn. If you find one false, say at which input.
  Laid BY PROGRAM, IN A SANDBOX (cutbox-rows.mjs): the forced cells as the released guide's own fill.sh prints them over the translation 27825e77d34f9791… (all of the seat's roots in one cut). By AI agents, Wed Nov 11 2026. No macro, syntax, notation, axiom, sorry.
-/
import Derived.Test.YtlohplpnhopldaaChecked
import GoSem.Claim
import GoSem.ClaimJoined
import GoSem.ClaimMapViews
import Derived.JoinedTies
import Derived.KernelRfl
namespace Go.Proofs.Ytlohplpnhopldaa
/- THE CELL 'sum', in the pinned program and in every row, IS THE sha256 OF THE DUMP (.gsa) THAT YtlohplpnhopldaaProg.lean LOADS. Nothing in Lean hashes anything: it is a label: what it is worth is what the hold of that sum in a sandbox is worth. -/
noncomputable def Try.pinned : Pinned := { name := "ytlohplpnhopldaa", sum := "27825e77d34f9791762eda108c8b010059db50208543db06943e79a7c02a687f", checked := Try.checked }
namespace Rows
def none {H : Type} : Left H := { results := [], args := [] }

/-- 'porterlaw40.PlanTells': WHATEVER THE INPUT: true; the input reads as it did. -/
def planTellsSpec : ChangeSpec := { name := "planTells", fn := fun _ => fun
  | [d1, d2, d3] => { results := [.lit (.bool true)], args := [d1, d2, d3] }
  | _ => none }
def planTellsRow : OpenClaim := { program := "ytlohplpnhopldaa", sum := "27825e77d34f9791762eda108c8b010059db50208543db06943e79a7c02a687f", func := "porter/porterlaw40.PlanTells", spec := "planTells", inPlace := ["slices.overlaps[porter/api.Tenant]", "slices.overlaps[porter/api.Key]"], unfollowed := true, recurses := true, apart := false }
def PlanTellsSaid : Prop := planTellsRow.holds Try.pinned (OpenSpec.ofChange planTellsSpec)

/-- ITS FALSE NEIGHBOUR: 'it returns false'. Refute it at one input. -/
def planTellsWrong : ChangeSpec := { name := "planTells", fn := fun _ => fun
  | [d1, d2, d3] => { results := [.lit (.bool false)], args := [d1, d2, d3] }
  | _ => none }
def PlanTellsWrongFalsely : Prop := planTellsRow.holds Try.pinned (OpenSpec.ofChange planTellsWrong)

/-- 'porterlaw40.PlanImage': WHATEVER THE INPUT: true; the input reads as it did. -/
def planImageSpec : ChangeSpec := { name := "planImage", fn := fun _ => fun
  | [d] => { results := [.lit (.bool true)], args := [d] }
  | _ => none }
def planImageRow : OpenClaim := { program := "ytlohplpnhopldaa", sum := "27825e77d34f9791762eda108c8b010059db50208543db06943e79a7c02a687f", func := "porter/porterlaw40.PlanImage", spec := "planImage", inPlace := ["slices.overlaps[porter/api.Tenant]", "slices.overlaps[porter/api.Key]"], unfollowed := true, recurses := true, apart := false }
def PlanImageSaid : Prop := planImageRow.holds Try.pinned (OpenSpec.ofChange planImageSpec)

/-- ITS FALSE NEIGHBOUR: 'it returns false'. Refute it at one input. -/
def planImageWrong : ChangeSpec := { name := "planImage", fn := fun _ => fun
  | [d] => { results := [.lit (.bool false)], args := [d] }
  | _ => none }
def PlanImageWrongFalsely : Prop := planImageRow.holds Try.pinned (OpenSpec.ofChange planImageWrong)

/-- 'porterlaw40.PlanDoes': WHATEVER THE INPUT: true; the input reads as it did. -/
def planDoesSpec : ChangeSpec := { name := "planDoes", fn := fun _ => fun
  | [d1, d2, d3] => { results := [.lit (.bool true)], args := [d1, d2, d3] }
  | _ => none }
def planDoesRow : OpenClaim := { program := "ytlohplpnhopldaa", sum := "27825e77d34f9791762eda108c8b010059db50208543db06943e79a7c02a687f", func := "porter/porterlaw40.PlanDoes", spec := "planDoes", inPlace := ["slices.overlaps[porter/api.Tenant]", "slices.overlaps[porter/api.Key]"], unfollowed := true, recurses := true, apart := false }
def PlanDoesSaid : Prop := planDoesRow.holds Try.pinned (OpenSpec.ofChange planDoesSpec)

/-- ITS FALSE NEIGHBOUR: 'it returns false'. Refute it at one input. -/
def planDoesWrong : ChangeSpec := { name := "planDoes", fn := fun _ => fun
  | [d1, d2, d3] => { results := [.lit (.bool false)], args := [d1, d2, d3] }
  | _ => none }
def PlanDoesWrongFalsely : Prop := planDoesRow.holds Try.pinned (OpenSpec.ofChange planDoesWrong)

/- THE SECOND FORM. 'bulk': how many values and letters a reading holds, each counted each time it is reached (what is shared counts as often as it is met; a slice's spare places count too). A statement '..UptoSaid' is the law's where the arguments, and the package variables that the reading takes, are together of bulk at most 1048576: NARROWER than '..Said'. Prove '..Said' where nothing that the law and all that it calls make is longer than what came in: it says more and counts as full. Else prove '..UptoSaid'. A law counts once. -/
mutual
def uptoBulk {H : Type} : DataW H → Nat
  | .lit (.string bytes) => bytes.length + 1
  | .lit _ => 1
  | .nil => 1
  | .ptr d => uptoBulk d + 1
  | .slice elems spare => uptoBulkAll elems + uptoBulkAll spare + 1
  | .agg parts => uptoBulkAll parts + 1
  | .iface _ d => uptoBulk d + 1
  | .map entries => uptoBulkEntries entries + 1
  | .held _ => 1
def uptoBulkAll {H : Type} : List (DataW H) → Nat
  | [] => 0
  | d :: r => uptoBulk d + uptoBulkAll r
def uptoBulkEntries {H : Type} : List (Lit × DataW H) → Nat
  | [] => 0
  | x :: r => uptoBulkEntry x + uptoBulkEntries r
def uptoBulkEntry {H : Type} : Lit × DataW H → Nat
  | (.string bytes, d) => bytes.length + uptoBulk d + 1
  | (_, d) => uptoBulk d + 1
 end
def uptoSmall : (H : Type) → List (DataW H) → Bool := fun _ ds => decide (uptoBulkAll ds ≤ 1048576)
def OpenSpec.upto (s : _root_.Go.ChangeSpec) : _root_.Go.OpenSpec := { _root_.Go.OpenSpec.ofChange s with cond := some uptoSmall }

/-- 'porterlaw40.PlanTells', WHERE WHAT IT READS IS OF BULK AT MOST 1048576: true; the input reads as it did. -/
def planTellsUptoRow : OpenClaim := { program := "ytlohplpnhopldaa", sum := "27825e77d34f9791762eda108c8b010059db50208543db06943e79a7c02a687f", func := "porter/porterlaw40.PlanTells", spec := "planTells", inPlace := ["slices.overlaps[porter/api.Tenant]", "slices.overlaps[porter/api.Key]"], unfollowed := true, recurses := true, apart := false, narrowed := true }
def PlanTellsUptoSaid : Prop := planTellsUptoRow.holds Try.pinned (OpenSpec.upto planTellsSpec)

/-- 'porterlaw40.PlanImage', WHERE WHAT IT READS IS OF BULK AT MOST 1048576: true; the input reads as it did. -/
def planImageUptoRow : OpenClaim := { program := "ytlohplpnhopldaa", sum := "27825e77d34f9791762eda108c8b010059db50208543db06943e79a7c02a687f", func := "porter/porterlaw40.PlanImage", spec := "planImage", inPlace := ["slices.overlaps[porter/api.Tenant]", "slices.overlaps[porter/api.Key]"], unfollowed := true, recurses := true, apart := false, narrowed := true }
def PlanImageUptoSaid : Prop := planImageUptoRow.holds Try.pinned (OpenSpec.upto planImageSpec)

/-- 'porterlaw40.PlanDoes', WHERE WHAT IT READS IS OF BULK AT MOST 1048576: true; the input reads as it did. -/
def planDoesUptoRow : OpenClaim := { program := "ytlohplpnhopldaa", sum := "27825e77d34f9791762eda108c8b010059db50208543db06943e79a7c02a687f", func := "porter/porterlaw40.PlanDoes", spec := "planDoes", inPlace := ["slices.overlaps[porter/api.Tenant]", "slices.overlaps[porter/api.Key]"], unfollowed := true, recurses := true, apart := false, narrowed := true }
def PlanDoesUptoSaid : Prop := planDoesUptoRow.holds Try.pinned (OpenSpec.upto planDoesSpec)

end Rows
end Go.Proofs.Ytlohplpnhopldaa
