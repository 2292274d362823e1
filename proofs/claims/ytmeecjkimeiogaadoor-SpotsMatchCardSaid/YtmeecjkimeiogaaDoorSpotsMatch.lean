/- Proved here: the card of SpotsMatch: the law's function says true, whatever comes in; the table that the program lays is tied to its text. -/
import Derived.Test.YtmeecjkimeiogaaDoorLgPrSm4
import Derived.Test.YtmeecjkimeiogaaDoorRows
import Derived.Test.YtmeecjkimeiogaaDoorCards
import Derived.Test.YtmeecjkimeiogaaDoorTie
import Derived.Test.YtmeecjkimeiogaaDoorLgPrSm5
import Derived.SevenTiedAt
import Derived.LaidLaws
import Derived.WalkKit
import Derived.ProofKit
import Derived.OpenShut
import Derived.ChangeOld
import Derived.Below
namespace Go.Proofs.YtmeecjkimeiogaaDoor.spotsMatch
open Go Go.Lift Go.ChangeShapes Go.WideShapes Go.ChangeAt Go.RowKit Go.Proofs.YtmeecjkimeiogaaDoorLg Go.Proofs.YtmeecjkimeiogaaDoor
open Go.Proofs.YtmeecjkimeiogaaDoorPx
set_option linter.all false

theorem own : ownKnob Tryd.prog.godebug = none := by kernel_rfl
theorem laidOut : laidOutB Tryd.prog = true := by kernel_rfl

theorem plain (x : z17 (zan [.pair (.sl (.arr 4 (.int .u64))) (.pair .bool (.pair (.sl (.int .i64)) (.pair (.sl (.int .i64)) (.pair (.sl (.sl (.int .i64))) .unit)))), .str])) (hx : WfS [.pair (.sl (.arr 4 (.int .u64))) (.pair .bool (.pair (.sl (.int .i64)) (.pair (.sl (.int .i64)) (.pair (.sl (.sl (.int .i64))) .unit)))), .str] x) : ∃ N, z20 N x.1 x.2.1 = some true := ⟨1500, zun 0 _ _ (fun y h => zxo (hx.1.1.2 y h))⟩

noncomputable def zp8 (os : Os) : World := { World.holding Tryd.prog os ⟨#[], #[], []⟩ with heap := ((World.holding Tryd.prog os ⟨#[], #[], []⟩).heap).modify 0 (fun | .cells _ t frozen => .cells ((glob0.map fun i => Value.int .u8 i)).toArray t frozen | o => o) }
theorem laidWorld_met (os : Os) (args : Array Value) : laidMet Tryd.prog Rows.spotsMatchRow.laid ((zp8 os).forCall (fun _ _ => 0) ⟨#[], args, []⟩).memory :=
  laidMet_of_run' 8 (by kernel_rfl) (by kernel_rfl)

theorem globOk {W : World} (h : laidMet Tryd.prog Rows.spotsMatchRow.laid W) : GlobOk glob (hp W) := by
  have e0 : (Rows.laid_math_bits_deBruijn64tab : DataW Unit) = .agg (glob0.map fun i => .lit (.int .u8 i)) := by kernel_rfl
  obtain ⟨ps, hv, _⟩ := h
  rw [show Rows.spotsMatchRow.laid = [("math/bits.deBruijn64tab", .agg (glob0.map fun i => .lit (.int .u8 i)))] by rw [<- e0]; rfl] at hv
  obtain ⟨t0, q0, w0⟩ := zwa (P := Tryd.prog) (W := W) (name := "math/bits.deBruijn64tab") (g := 0) (k := .u8) (n := 64) (ns := glob0) (by kernel_rfl) (t := 124) (by kernel_rfl) (e := 5) (by kernel_rfl) (by kernel_rfl) (by kernel_rfl) (by kernel_rfl) hv
  intro g d e
  by_cases hg0 : g = 0
  . subst hg0
    obtain rfl := Option.some.inj (show some _ = some d from e)
    exact t0
  have hn : ∀ x, x ≠ g -> Nat.beq x g = false := fun x hx => by
    cases hb : Nat.beq x g with
    | true => exact absurd (Nat.eq_of_beq_eq_true hb) hx
    | false => rfl
  have hnone : glob g = none := by
    simp only [glob, lk, hn 0 (Ne.symm hg0)]
  rw [hnone] at e; cases e

set_option maxRecDepth 100000 in
theorem lifted (os : Os) (started : os.Started) (H : Type) (enc : TypeId × Value -> H) :
    ReturnsInHanded {} Tryd.checked os 4 .any (fun w args => (Rows.spotsMatchSpec.pre enc Tryd.prog Tryd.f4 [] false w args /\ laidMet Tryd.prog Rows.spotsMatchRow.laid w) /\ sizedMet enc Tryd.prog Tryd.f4 (OpenSpec.ofChange Rows.spotsMatchSpec) false w args)
      (Rows.spotsMatchSpec.post enc Tryd.prog Tryd.f4 false true false false) := by
  refine returnsInHanded_of_change_and (C := Tryd.checked) (X := fun w _ => laidMet Tryd.prog Rows.spotsMatchRow.laid w) (fun _ _ _ hh h => h.of_heap hh) own started (by kernel_rfl) Tryd.func4
    (ChangeSpec.witness_at (enc := enc) (C := Tryd.checked) (os := os) (X := fun w _ => laidMet Tryd.prog Rows.spotsMatchRow.laid w) false (zp8 os) #[.agg #[.slice none 0 0, .bool false, .slice none 0 0, .slice none 0 0, .slice none 0 0], .string ⟨#[]⟩] 8 rfl (by kernel_rfl) (by kernel_rfl) (by kernel_rfl) (by kernel_rfl) (by kernel_rfl) (laidWorld_met os _)) ?_
  intro W base args ds gs before hval0 hW _ _ hL _
  have hval : ∀ (j : Nat) t v, Tryd.f4.params[j]? = some t -> args[j]? = some v -> Value.okWide Tryd.prog W .any base t v := hval0
  have hW' := hW
  obtain ⟨p, q, hA0, hV, rfl, hfz, hnd⟩ := hW
  have hA : DataW.TrodAll enc Tryd.prog W 0 (fun _ => true) true Tryd.f4.params.toList args.toList ds p := hA0
  obtain ⟨rfl, rfl⟩ := trodVars_none hV
  have hA1 := hA
  have hc := zvw (us := [.pair (.sl (.arr 4 (.int .u64))) (.pair .bool (.pair (.sl (.int .i64)) (.pair (.sl (.int .i64)) (.pair (.sl (.sl (.int .i64))) .unit)))), .str]) (F := fun N x => z20 N x.1 x.2.1) (ts := Tryd.f4.params.toList) (by kernel_rfl) zck plain (globOk hL) (fun j t v ht hv => hval j t v (by simpa using ht) hv) hA1
  rw [Tryd.params4] at hA
  obtain ⟨v0, vs0, d0, ds0, p0, q0, hargs, rfl, rfl, h0, r0⟩ := trodAll_cons hA
  obtain ⟨v1, vs1, d1, ds1, p1, q1, rfl, rfl, rfl, h1, r1⟩ := trodAll_cons r0
  obtain ⟨rfl, rfl, rfl⟩ := trodAll_nil r1
  refine hc.mono fun e W' ⟨he, bel⟩ => ?_
  subst he
  exact ⟨_, rfl, _, _, _, [], _, [], hW', trodAll_mk1 (shut_bool Tryd.underlying4 _), zhh laidOut bel (by kernel_rfl) hA1, rfl, bel.frame _, fun h => by cases h⟩

theorem over : Rows.spotsMatchRow.holds Tryd.pinned (OpenSpec.ofChange Rows.spotsMatchSpec) :=
  OpenClaim.holds_of_wide 4 Tryd.f4 rfl rfl rfl rfl rfl rfl rfl ⟨rfl, rfl, rfl, rfl, rfl⟩ rfl rfl rfl rfl rfl (by kernel_rfl) Tryd.func4 (by kernel_rfl)
    (of_decide_eq_true (by kernel_rfl)) (by unfold Func.isWrapper; first | (rw [if_pos (by decide +kernel)]; kernel_rfl) | (rw [if_neg (by decide +kernel)]; exact ⟨rfl, rfl⟩))
    (fun os started H enc _ => lifted os started H enc)

/-- THE STATEMENT -/
theorem proved : Rows.SpotsMatchCardSaid :=
  Claim7.holds_tied_plain_at .later [] [.data] true Rows.spotsMatchCard.stood.harness Rows.spotsMatchCard.stood.looks
    over (fun _ h => by cases h) (by kernel_rfl) (fun _ h => by cases h) spotsMatch_row_tie rfl ⟨rfl, rfl⟩ (by kernel_rfl) rfl
    (fun f fn hf hfn => by
      obtain rfl : f = 4 := Option.some.inj ((show Tryd.prog.funcNamed Rows.spotsMatchRow.func = some 4 by kernel_rfl).symm.trans hf) |>.symm
      obtain rfl : fn = Tryd.f4 := (Option.some.inj (Tryd.func4.symm.trans hfn)).symm
      refine ⟨by kernel_rfl, fun j t ht => ?_⟩
      have hm : t ∈ Tryd.f4.params.toList := List.mem_of_getElem? (by simpa using ht)
      have hall : (Tryd.f4.params.toList.all fun t => Tryd.prog.wantsStandIn t == false) = true := by kernel_rfl
      exact eq_of_beq (List.all_eq_true.1 hall t hm))
    (by kernel_rfl)
end Go.Proofs.YtmeecjkimeiogaaDoor.spotsMatch
