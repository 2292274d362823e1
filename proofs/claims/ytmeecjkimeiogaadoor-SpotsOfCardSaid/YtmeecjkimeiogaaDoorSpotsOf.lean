/- Proved here: the card of SpotsOf: the law's function says true, whatever comes in; the table that the program lays is tied to its text. -/
import Derived.Test.YtmeecjkimeiogaaDoorLgPrSo5
import Derived.Test.YtmeecjkimeiogaaDoorRows
import Derived.Test.YtmeecjkimeiogaaDoorCards
import Derived.Test.YtmeecjkimeiogaaDoorTie
import Derived.Test.YtmeecjkimeiogaaDoorLgPrSo6
import Derived.SevenTiedAt
import Derived.LaidLaws
import Derived.WalkKit
import Derived.ProofKit
import Derived.OpenShut
import Derived.ChangeOld
import Derived.Below
namespace Go.Proofs.YtmeecjkimeiogaaDoor.spotsOf
open Go Go.Lift Go.ChangeShapes Go.WideShapes Go.ChangeAt Go.RowKit Go.Proofs.YtmeecjkimeiogaaDoorLg Go.Proofs.YtmeecjkimeiogaaDoor
open Go.Proofs.YtmeecjkimeiogaaDoorPx
set_option linter.all false

theorem own : ownKnob Tryd.prog.godebug = none := by kernel_rfl
theorem laidOut : laidOutB Tryd.prog = true := by kernel_rfl

theorem plain (x : zz (z8l [.pair (.int .i64) (.pair (.arr 4 (.int .u64)) (.pair (.sl .nod) (.pair (.int .i64) (.pair (.int .i64) .unit))))])) (hx : WfS [.pair (.int .i64) (.pair (.arr 4 (.int .u64)) (.pair (.sl .nod) (.pair (.int .i64) (.pair (.int .i64) .unit))))] x) (hq : SmN 140737488351232 (foN x.1)) : ∃ N, z34 N x.1 = some true := ⟨z3j (foN x.1) + 3000, zt9 (foN x.1) (z13o hx.1) hq⟩

noncomputable def zs9 (os : Os) : World := { World.holding Tryd.prog os ⟨#[], #[], []⟩ with heap := ((World.holding Tryd.prog os ⟨#[], #[], []⟩).heap).modify 0 (fun | .cells _ t frozen => .cells ((glob0.map fun i => Value.int .u8 i)).toArray t frozen | o => o) }
theorem laidWorld_met (os : Os) (args : Array Value) : laidMet Tryd.prog Rows.spotsOfRow.laid ((zs9 os).forCall (fun _ _ => 0) ⟨#[], args, []⟩).memory :=
  laidMet_of_run' 8 (by kernel_rfl) (by kernel_rfl)

theorem globOk {W : World} (h : laidMet Tryd.prog Rows.spotsOfRow.laid W) : GlobOk glob (hp W) := by
  have e0 : (Rows.laid_math_bits_deBruijn64tab : DataW Unit) = .agg (glob0.map fun i => .lit (.int .u8 i)) := by kernel_rfl
  obtain ⟨ps, hv, _⟩ := h
  rw [show Rows.spotsOfRow.laid = [("math/bits.deBruijn64tab", .agg (glob0.map fun i => .lit (.int .u8 i)))] by rw [<- e0]; rfl] at hv
  obtain ⟨t0, q0, w0⟩ := zzn (P := Tryd.prog) (W := W) (name := "math/bits.deBruijn64tab") (g := 0) (k := .u8) (n := 64) (ns := glob0) (by kernel_rfl) (t := 124) (by kernel_rfl) (e := 5) (by kernel_rfl) (by kernel_rfl) (by kernel_rfl) (by kernel_rfl) hv
  intro g d e
  by_cases hg0 : g = 0
  . subst hg0
    obtain rfl := Option.some.inj (show some _ = some d from e)
    exact t0
  have hn : ∀ x, x ≠ g -> Nat.beq x g = false := fun x hx => by
    cases hb : Nat.beq x g with
    | true => exact absurd (Nat.eq_of_beq_eq_true hb) hx
    | false => rfl
  have hnone : glob g = none := by
    simp only [glob, lk, hn 0 (Ne.symm hg0)]
  rw [hnone] at e; cases e

set_option maxRecDepth 100000 in
theorem lifted (os : Os) (started : os.Started) (H : Type) (enc : TypeId × Value -> H) :
    ReturnsInHanded {} Tryd.checked os 3 .any (fun w args => (Rows.spotsOfSpec.pre enc Tryd.prog Tryd.f3 [] false w args /\ laidMet Tryd.prog Rows.spotsOfRow.laid w) /\ sizedMet enc Tryd.prog Tryd.f3 (OpenSpec.ofChange Rows.spotsOfSpec) false w args)
      (Rows.spotsOfSpec.post enc Tryd.prog Tryd.f3 false true false false) := by
  refine returnsInHanded_of_change_and (C := Tryd.checked) (X := fun w _ => laidMet Tryd.prog Rows.spotsOfRow.laid w) (fun _ _ _ hh h => h.of_heap hh) own started (by kernel_rfl) Tryd.func3
    (ChangeSpec.witness_at (enc := enc) (C := Tryd.checked) (os := os) (X := fun w _ => laidMet Tryd.prog Rows.spotsOfRow.laid w) false (zs9 os) #[.agg #[.int .i64 0, .int .u64 0, .int .u64 0, .int .u64 0, .int .u64 0, .slice none 0 0, .int .i64 0, .int .i64 0]] 8 rfl (by kernel_rfl) (by kernel_rfl) (by kernel_rfl) (by kernel_rfl) (by kernel_rfl) (laidWorld_met os _)) ?_
  intro W base args ds gs before hval0 hW _ hwt hL _
  have hval : ∀ (j : Nat) t v, Tryd.f3.params[j]? = some t -> args[j]? = some v -> Value.okWide Tryd.prog W .any base t v := hval0
  have hW' := hW
  obtain ⟨p, q, hA0, hV, rfl, hfz, hnd⟩ := hW
  have hA : DataW.TrodAll enc Tryd.prog W 0 (fun _ => true) true Tryd.f3.params.toList args.toList ds p := hA0
  obtain ⟨rfl, rfl⟩ := trodVars_none hV
  have hA1 := hA
  have hAz := hA
  rw [Tryd.params3] at hAz hwt
  have hc := zp4 (us := [.pair (.int .i64) (.pair (.arr 4 (.int .u64)) (.pair (.sl .nod) (.pair (.int .i64) (.pair (.int .i64) .unit))))]) (Q := fun x => SmN 140737488351232 (foN x.1)) (F := fun N x => z34 N x.1) (ts := Tryd.f3.params.toList) (by kernel_rfl) zgh plain (globOk hL) (fun j t v ht hv => hval j t v (by simpa using ht) hv) hA1
    (fun x hx => zrj (t := 27) (by kernel_rfl) 140737488351232 hx hAz hwt)
  rw [Tryd.params3] at hA
  obtain ⟨v0, vs0, d0, ds0, p0, q0, hargs, rfl, rfl, h0, r0⟩ := trodAll_cons hA
  obtain ⟨rfl, rfl, rfl⟩ := trodAll_nil r0
  refine hc.mono fun e W' ⟨he, bel⟩ => ?_
  subst he
  exact ⟨_, rfl, _, _, _, [], _, [], hW', trodAll_mk1 (shut_bool Tryd.underlying4 _), zjn laidOut bel (by kernel_rfl) hA1, rfl, bel.frame _, fun h => by cases h⟩

theorem over : Rows.spotsOfRow.holds Tryd.pinned (OpenSpec.ofChange Rows.spotsOfSpec) :=
  OpenClaim.holds_of_wide 3 Tryd.f3 rfl rfl rfl rfl rfl rfl rfl ⟨rfl, rfl, rfl, rfl, rfl⟩ rfl rfl rfl rfl rfl (by kernel_rfl) Tryd.func3 (by kernel_rfl)
    (of_decide_eq_true (by kernel_rfl)) (by unfold Func.isWrapper; first | (rw [if_pos (by decide +kernel)]; kernel_rfl) | (rw [if_neg (by decide +kernel)]; exact ⟨rfl, rfl⟩))
    (fun os started H enc _ => lifted os started H enc)

/-- THE STATEMENT -/
theorem proved : Rows.SpotsOfCardSaid :=
  Claim7.holds_tied_plain_at .later [] [.data] true Rows.spotsOfCard.stood.harness Rows.spotsOfCard.stood.looks
    over (fun _ h => by cases h) (by kernel_rfl) (fun _ h => by cases h) spotsOf_row_tie rfl ⟨rfl, rfl⟩ (by kernel_rfl) rfl
    (fun f fn hf hfn => by
      obtain rfl : f = 3 := Option.some.inj ((show Tryd.prog.funcNamed Rows.spotsOfRow.func = some 3 by kernel_rfl).symm.trans hf) |>.symm
      obtain rfl : fn = Tryd.f3 := (Option.some.inj (Tryd.func3.symm.trans hfn)).symm
      refine ⟨by kernel_rfl, fun j t ht => ?_⟩
      have hm : t ∈ Tryd.f3.params.toList := List.mem_of_getElem? (by simpa using ht)
      have hall : (Tryd.f3.params.toList.all fun t => Tryd.prog.wantsStandIn t == false) = true := by kernel_rfl
      exact eq_of_beq (List.all_eq_true.1 hall t hm))
    (by kernel_rfl)
end Go.Proofs.YtmeecjkimeiogaaDoor.spotsOf
