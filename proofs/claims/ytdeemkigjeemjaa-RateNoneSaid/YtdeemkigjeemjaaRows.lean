/-
  No cell of these rows narrows 'for every input' (looked for: loops, veiled, ifaces, maps, wideKeys, modest, calm, conditions, laid).
  DERIVED. THE GIVEN ROWS OF THIS SEAT. 3 by the template 'for every input the law returns true; each argument reads behind the call as it read before'; 0 by the template 'total and deterministic' (their statements: YtdeemkigjeemjaaTotals.lean).
  GIVEN WITH THE SEED: the statements are not yours to turn. If you find one false, say at which input.
  Laid BY PROGRAM, IN A SANDBOX (cutbox-rows.mjs): the forced cells as the released guide's own fill.sh prints them over the translation 84c3c299e6cba36c… (all of the seat's roots in one cut). By AI agents, Wed Nov 11 2026. No macro, syntax, notation, axiom, sorry.
-/
import Derived.Test.YtdeemkigjeemjaaChecked
import GoSem.Claim
import GoSem.ClaimJoined
import GoSem.ClaimMapViews
import Derived.JoinedTies
import Derived.KernelRfl
namespace Go.Proofs.Ytdeemkigjeemjaa
/- THE CELL 'sum', in the pinned program and in every row, IS THE sha256 OF THE DUMP (.gsa) THAT YtdeemkigjeemjaaProg.lean LOADS. Nothing in Lean hashes anything: it is a label: what it is worth is what the hold of that sum in a sandbox is worth. -/
noncomputable def Try.pinned : Pinned := { name := "ytdeemkigjeemjaa", sum := "84c3c299e6cba36cf667fbf9368b9ad4f77bffb5b1e4535d5de805dbc3041d56", checked := Try.checked }
namespace Rows
def none {H : Type} : Left H := { results := [], args := [] }

/-- 'porterlaw46.RatePlays': WHATEVER THE INPUT: true; the input reads as it did. -/
def ratePlaysSpec : ChangeSpec := { name := "ratePlays", fn := fun _ => fun
  | [d1, d2, d3] => { results := [.lit (.bool true)], args := [d1, d2, d3] }
  | _ => none }
def ratePlaysRow : OpenClaim := { program := "ytdeemkigjeemjaa", sum := "84c3c299e6cba36cf667fbf9368b9ad4f77bffb5b1e4535d5de805dbc3041d56", func := "porter/porterlaw46.RatePlays", spec := "ratePlays", unfollowed := true, recurses := true, plainKeys := false, apart := false }
def RatePlaysSaid : Prop := ratePlaysRow.holds Try.pinned (OpenSpec.ofChange ratePlaysSpec)

/-- ITS FALSE NEIGHBOUR: 'it returns false'. Refute it at one input. -/
def ratePlaysWrong : ChangeSpec := { name := "ratePlays", fn := fun _ => fun
  | [d1, d2, d3] => { results := [.lit (.bool false)], args := [d1, d2, d3] }
  | _ => none }
def RatePlaysWrongFalsely : Prop := ratePlaysRow.holds Try.pinned (OpenSpec.ofChange ratePlaysWrong)

/-- 'porterlaw46.RateWindow': WHATEVER THE INPUT: true; the input reads as it did. -/
def rateWindowSpec : ChangeSpec := { name := "rateWindow", fn := fun _ => fun
  | [d1, d2, d3] => { results := [.lit (.bool true)], args := [d1, d2, d3] }
  | _ => none }
def rateWindowRow : OpenClaim := { program := "ytdeemkigjeemjaa", sum := "84c3c299e6cba36cf667fbf9368b9ad4f77bffb5b1e4535d5de805dbc3041d56", func := "porter/porterlaw46.RateWindow", spec := "rateWindow", unfollowed := true, recurses := true, plainKeys := false, apart := false }
def RateWindowSaid : Prop := rateWindowRow.holds Try.pinned (OpenSpec.ofChange rateWindowSpec)

/-- ITS FALSE NEIGHBOUR: 'it returns false'. Refute it at one input. -/
def rateWindowWrong : ChangeSpec := { name := "rateWindow", fn := fun _ => fun
  | [d1, d2, d3] => { results := [.lit (.bool false)], args := [d1, d2, d3] }
  | _ => none }
def RateWindowWrongFalsely : Prop := rateWindowRow.holds Try.pinned (OpenSpec.ofChange rateWindowWrong)

/-- 'porterlaw46.RateNone': WHATEVER THE INPUT: true; the input reads as it did. -/
def rateNoneSpec : ChangeSpec := { name := "rateNone", fn := fun _ => fun
  | [d1, d2, d3] => { results := [.lit (.bool true)], args := [d1, d2, d3] }
  | _ => none }
def rateNoneRow : OpenClaim := { program := "ytdeemkigjeemjaa", sum := "84c3c299e6cba36cf667fbf9368b9ad4f77bffb5b1e4535d5de805dbc3041d56", func := "porter/porterlaw46.RateNone", spec := "rateNone", unfollowed := true, recurses := true, plainKeys := false, apart := false }
def RateNoneSaid : Prop := rateNoneRow.holds Try.pinned (OpenSpec.ofChange rateNoneSpec)

/-- ITS FALSE NEIGHBOUR: 'it returns false'. Refute it at one input. -/
def rateNoneWrong : ChangeSpec := { name := "rateNone", fn := fun _ => fun
  | [d1, d2, d3] => { results := [.lit (.bool false)], args := [d1, d2, d3] }
  | _ => none }
def RateNoneWrongFalsely : Prop := rateNoneRow.holds Try.pinned (OpenSpec.ofChange rateNoneWrong)

/- THE SECOND FORM. 'bulk': how many values and letters a reading holds, each counted each time it is reached (what is shared counts as often as it is met; a slice's spare places count too). A statement '..UptoSaid' is the law's where the arguments, and the package variables that the reading takes, are together of bulk at most 1048576: NARROWER than '..Said'. Prove '..Said' where nothing that the law and all that it calls make is longer than what came in: it says more and counts as full. Else prove '..UptoSaid'. A law counts once. -/
mutual
def uptoBulk {H : Type} : DataW H → Nat
  | .lit (.string bytes) => bytes.length + 1
  | .lit _ => 1
  | .nil => 1
  | .ptr d => uptoBulk d + 1
  | .slice elems spare => uptoBulkAll elems + uptoBulkAll spare + 1
  | .agg parts => uptoBulkAll parts + 1
  | .iface _ d => uptoBulk d + 1
  | .map entries => uptoBulkEntries entries + 1
  | .held _ => 1
def uptoBulkAll {H : Type} : List (DataW H) → Nat
  | [] => 0
  | d :: r => uptoBulk d + uptoBulkAll r
def uptoBulkEntries {H : Type} : List (Lit × DataW H) → Nat
  | [] => 0
  | x :: r => uptoBulkEntry x + uptoBulkEntries r
def uptoBulkEntry {H : Type} : Lit × DataW H → Nat
  | (.string bytes, d) => bytes.length + uptoBulk d + 1
  | (_, d) => uptoBulk d + 1
 end
def uptoSmall : (H : Type) → List (DataW H) → Bool := fun _ ds => decide (uptoBulkAll ds ≤ 1048576)
def OpenSpec.upto (s : _root_.Go.ChangeSpec) : _root_.Go.OpenSpec := { _root_.Go.OpenSpec.ofChange s with cond := some uptoSmall }

/-- 'porterlaw46.RatePlays', WHERE WHAT IT READS IS OF BULK AT MOST 1048576: true; the input reads as it did. -/
def ratePlaysUptoRow : OpenClaim := { program := "ytdeemkigjeemjaa", sum := "84c3c299e6cba36cf667fbf9368b9ad4f77bffb5b1e4535d5de805dbc3041d56", func := "porter/porterlaw46.RatePlays", spec := "ratePlays", unfollowed := true, recurses := true, plainKeys := false, apart := false, narrowed := true }
def RatePlaysUptoSaid : Prop := ratePlaysUptoRow.holds Try.pinned (OpenSpec.upto ratePlaysSpec)

/-- 'porterlaw46.RateWindow', WHERE WHAT IT READS IS OF BULK AT MOST 1048576: true; the input reads as it did. -/
def rateWindowUptoRow : OpenClaim := { program := "ytdeemkigjeemjaa", sum := "84c3c299e6cba36cf667fbf9368b9ad4f77bffb5b1e4535d5de805dbc3041d56", func := "porter/porterlaw46.RateWindow", spec := "rateWindow", unfollowed := true, recurses := true, plainKeys := false, apart := false, narrowed := true }
def RateWindowUptoSaid : Prop := rateWindowUptoRow.holds Try.pinned (OpenSpec.upto rateWindowSpec)

/-- 'porterlaw46.RateNone', WHERE WHAT IT READS IS OF BULK AT MOST 1048576: true; the input reads as it did. -/
def rateNoneUptoRow : OpenClaim := { program := "ytdeemkigjeemjaa", sum := "84c3c299e6cba36cf667fbf9368b9ad4f77bffb5b1e4535d5de805dbc3041d56", func := "porter/porterlaw46.RateNone", spec := "rateNone", unfollowed := true, recurses := true, plainKeys := false, apart := false, narrowed := true }
def RateNoneUptoSaid : Prop := rateNoneUptoRow.holds Try.pinned (OpenSpec.upto rateNoneSpec)

end Rows
end Go.Proofs.Ytdeemkigjeemjaa
