/- Proved here: the card of LabelsBack: the law's function says true, whatever comes in; the table that the program lays is tied to its text. -/
import Derived.Test.YtbkackmlmccpjaaDoorLgPrlabelsback6
import Derived.Test.YtbkackmlmccpjaaDoorRows
import Derived.Test.YtbkackmlmccpjaaDoorCards
import Derived.Test.YtbkackmlmccpjaaDoorTie
import Derived.Test.YtbkackmlmccpjaaDoorLgPrlabelsback7
import Derived.SevenTiedAt
import Derived.LaidLaws
import Derived.WalkKit
import Derived.ProofKit
import Derived.OpenShut
import Derived.ChangeOld
import Derived.Below
namespace Go.Proofs.YtbkackmlmccpjaaDoor.labelsBack
open Go Go.Lift Go.ChangeShapes Go.WideShapes Go.ChangeAt Go.RowKit Go.Proofs.YtbkackmlmccpjaaDoorLg Go.Proofs.YtbkackmlmccpjaaDoor
open Go.Proofs.YtbkackmlmccpjaaDoorPx
set_option linter.all false

theorem own : ownKnob Tryd.prog.godebug = none := by kernel_rfl
theorem laidOut : laidOutB Tryd.prog = true := by kernel_rfl

theorem plain (x : denS (argsS [.sl (.pair .str (.pair .str .unit)), .str, .str])) (hx : WfS [.sl (.pair .str (.pair .str .unit)), .str, .str] x) : ∃ N, porterlaw11_LabelsBack N x.1 x.2.1 x.2.2.1 = some true := ⟨1000000, back_law11 0 _ _ _⟩

noncomputable def laidWorld (os : Os) : World := { World.holding Tryd.prog os ⟨#[], #[], []⟩ with heap := (((World.holding Tryd.prog os ⟨#[], #[], []⟩).heap).modify 1 (fun | .cells _ t frozen => .cells ((glob1.flatMap fun x => [Value.int .u8 x.1, Value.int .u8 x.2.1])).toArray t frozen | o => o)).modify 0 (fun | .cells _ t frozen => .cells ((glob0.map fun i => Value.int .u8 i)).toArray t frozen | o => o) }
theorem laidWorld_met (os : Os) (args : Array Value) : laidMet Tryd.prog Rows.labelsBackRow.laid ((laidWorld os).forCall (fun _ _ => 0) ⟨#[], args, []⟩).memory :=
  laidMet_of_run' 8 (by kernel_rfl) (by kernel_rfl)

theorem globOk {W : World} (h : laidMet Tryd.prog Rows.labelsBackRow.laid W) : GlobOk glob (hp W) := by
  have e0 : (Rows.laid_unicode_utf8_acceptRanges : DataW Unit) = .agg (glob1.map fun x => .agg [.lit (.int .u8 x.1), .lit (.int .u8 x.2.1)]) := by kernel_rfl
  have e1 : (Rows.laid_unicode_utf8_first : DataW Unit) = .agg (glob0.map fun i => .lit (.int .u8 i)) := by kernel_rfl
  obtain ⟨ps, hv, _⟩ := h
  rw [show Rows.labelsBackRow.laid = [("unicode/utf8.acceptRanges", .agg (glob1.map fun x => .agg [.lit (.int .u8 x.1), .lit (.int .u8 x.2.1)])), ("unicode/utf8.first", .agg (glob0.map fun i => .lit (.int .u8 i)))] by rw [← e0, ← e1]; rfl] at hv
  obtain ⟨t0, q0, w0⟩ := glob_pairs (P := Tryd.prog) (W := W) (name := "unicode/utf8.acceptRanges") (g := 1) (k := .u8) (n := 16) (l := glob1) (t := 119) (e := 118) (f0 := Go.Field.mk "lo" 5 0 false "" "unicode/utf8" 0) (f1 := Go.Field.mk "hi" 5 1 false "" "unicode/utf8" 1) (by kernel_rfl) (by kernel_rfl) (by kernel_rfl) (by kernel_rfl) (by kernel_rfl) (by kernel_rfl) rfl rfl (by kernel_rfl) (by kernel_rfl) (by kernel_rfl) (by kernel_rfl) hv
  obtain ⟨t1, q1, w1⟩ := glob_ints (P := Tryd.prog) (W := W) (name := "unicode/utf8.first") (g := 0) (k := .u8) (n := 256) (ns := glob0) (by kernel_rfl) (t := 116) (by kernel_rfl) (e := 5) (by kernel_rfl) (by kernel_rfl) (by kernel_rfl) (by kernel_rfl) w0
  intro g d e
  by_cases hg0 : g = 1
  · subst hg0
    obtain rfl := Option.some.inj (show some _ = some d from e)
    exact t0
  by_cases hg1 : g = 0
  · subst hg1
    obtain rfl := Option.some.inj (show some _ = some d from e)
    exact t1
  have hn : ∀ x, x ≠ g → Nat.beq x g = false := fun x hx => by
    cases hb : Nat.beq x g with
    | true => exact absurd (Nat.eq_of_beq_eq_true hb) hx
    | false => rfl
  have hnone : glob g = none := by
    simp only [glob, lk, hn 1 (Ne.symm hg0), hn 0 (Ne.symm hg1)]
  rw [hnone] at e; cases e

set_option maxRecDepth 100000 in
theorem lifted (os : Os) (started : os.Started) (H : Type) (enc : TypeId × Value → H) :
    ReturnsInHanded {} Tryd.checked os 5 .any (fun w args => (Rows.labelsBackSpec.pre enc Tryd.prog Tryd.f5 [] false w args ∧ laidMet Tryd.prog Rows.labelsBackRow.laid w) ∧ sizedMet enc Tryd.prog Tryd.f5 (OpenSpec.ofChange Rows.labelsBackSpec) false w args)
      (Rows.labelsBackSpec.post enc Tryd.prog Tryd.f5 false true false false) := by
  refine returnsInHanded_of_change_and (C := Tryd.checked) (X := fun w _ => laidMet Tryd.prog Rows.labelsBackRow.laid w) (fun _ _ _ hh h => h.of_heap hh) own started (by kernel_rfl) Tryd.func5
    (ChangeSpec.witness_at (enc := enc) (C := Tryd.checked) (os := os) (X := fun w _ => laidMet Tryd.prog Rows.labelsBackRow.laid w) false (laidWorld os) #[.slice none 0 0, .string ⟨#[]⟩, .string ⟨#[]⟩] 8 rfl (by kernel_rfl) (by kernel_rfl) (by kernel_rfl) (by kernel_rfl) (by kernel_rfl) (laidWorld_met os _)) ?_
  intro W base args ds gs before hval0 hW _ _ hL _
  have hval : ∀ (j : Nat) t v, Tryd.f5.params[j]? = some t → args[j]? = some v → Value.okWide Tryd.prog W .any base t v := hval0
  have hW' := hW
  obtain ⟨p, q, hA0, hV, rfl, hfz, hnd⟩ := hW
  have hA : DataW.TrodAll enc Tryd.prog W 0 (fun _ => true) true Tryd.f5.params.toList args.toList ds p := hA0
  obtain ⟨rfl, rfl⟩ := trodVars_none hV
  have hA1 := hA
  have hc := law_calls (us := [.sl (.pair .str (.pair .str .unit)), .str, .str]) (F := fun N x => porterlaw11_LabelsBack N x.1 x.2.1 x.2.2.1) (ts := Tryd.f5.params.toList) (by kernel_rfl) porterlaw11_LabelsBack_ct plain (globOk hL) (fun j t v ht hv => hval j t v (by simpa using ht) hv) hA1
  rw [Tryd.params5] at hA
  obtain ⟨v0, vs0, d0, ds0, p0, q0, hargs, rfl, rfl, h0, r0⟩ := trodAll_cons hA
  obtain ⟨v1, vs1, d1, ds1, p1, q1, rfl, rfl, rfl, h1, r1⟩ := trodAll_cons r0
  obtain ⟨v2, vs2, d2, ds2, p2, q2, rfl, rfl, rfl, h2, r2⟩ := trodAll_cons r1
  obtain ⟨rfl, rfl, rfl⟩ := trodAll_nil r2
  refine hc.mono fun e W' ⟨he, bel⟩ => ?_
  subst he
  exact ⟨_, rfl, _, _, _, [], _, [], hW', trodAll_mk1 (shut_bool Tryd.underlying4 _), trodAll_below laidOut bel (by kernel_rfl) hA1, rfl, bel.frame _, fun h => by cases h⟩

theorem over : Rows.labelsBackRow.holds Tryd.pinned (OpenSpec.ofChange Rows.labelsBackSpec) :=
  OpenClaim.holds_of_wide 5 Tryd.f5 rfl rfl rfl rfl rfl rfl rfl ⟨rfl, rfl, rfl, rfl, rfl⟩ rfl rfl rfl rfl rfl (by kernel_rfl) Tryd.func5 (by kernel_rfl)
    (of_decide_eq_true (by kernel_rfl)) (by unfold Func.isWrapper; first | (rw [if_pos (by decide +kernel)]; kernel_rfl) | (rw [if_neg (by decide +kernel)]; exact ⟨rfl, rfl⟩))
    (fun os started H enc _ => lifted os started H enc)

/-- THE STATEMENT -/
theorem proved : Rows.LabelsBackCardSaid :=
  Claim7.holds_tied_plain_at .later [] [.data, .pinned] true Rows.labelsBackCard.stood.harness Rows.labelsBackCard.stood.looks
    over (fun _ h => by cases h) (by kernel_rfl) (fun _ h => by cases h) labelsBack_row_tie rfl ⟨rfl, rfl⟩ (by kernel_rfl) rfl
    (fun f fn hf hfn => by
      obtain rfl : f = 5 := Option.some.inj ((show Tryd.prog.funcNamed Rows.labelsBackRow.func = some 5 by kernel_rfl).symm.trans hf) |>.symm
      obtain rfl : fn = Tryd.f5 := (Option.some.inj (Tryd.func5.symm.trans hfn)).symm
      refine ⟨by kernel_rfl, fun j t ht => ?_⟩
      have hm : t ∈ Tryd.f5.params.toList := List.mem_of_getElem? (by simpa using ht)
      have hall : (Tryd.f5.params.toList.all fun t => Tryd.prog.wantsStandIn t == false) = true := by kernel_rfl
      exact eq_of_beq (List.all_eq_true.1 hall t hm))
    (by kernel_rfl)
end Go.Proofs.YtbkackmlmccpjaaDoor.labelsBack
