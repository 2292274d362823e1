/- Proved here: the card of VerifyBound: the law's function says true, whatever comes in; the table that the program lays is tied to its text. -/
import Derived.Test.YtkipbccgnekoaaaGreatDoorLgPrPre7
import Derived.Test.YtkipbccgnekoaaaGreatDoorLgPrPre6
import Derived.Test.YtkipbccgnekoaaaGreatDoorRows
import Derived.Test.YtkipbccgnekoaaaGreatDoorCards
import Derived.Test.YtkipbccgnekoaaaGreatDoorTie
import Derived.Test.YtkipbccgnekoaaaGreatDoorLgPrPre8
import Derived.SevenTiedAt
import Derived.LaidLaws
import Derived.WalkKit
import Derived.ProofKit
import Derived.OpenShut
import Derived.ChangeOld
import Derived.Below
namespace Go.Proofs.YtkipbccgnekoaaaGreatDoor.verifyBound
open Go Go.Lift Go.ChangeShapes Go.WideShapes Go.ChangeAt Go.RowKit Go.Proofs.YtkipbccgnekoaaaGreatDoorLg Go.Proofs.YtkipbccgnekoaaaGreatDoor
open Go.Proofs.YtkipbccgnekoaaaGreatDoorPx
set_option linter.all false

theorem own : ownKnob Tryz.prog.godebug = none := by kernel_rfl
theorem laidOut : laidOutB Tryz.prog = true := by kernel_rfl

theorem plain (x : z1h (zbe [.str, .str, .str])) (hx : WfS [.str, .str, .str] x) : ∃ N, ztm N x.1 x.2.1 x.2.2.1 = some true := ⟨4500, zyc 4400 (by omega) (z1bx 3400)⟩

noncomputable def zvo (os : Os) : World := { World.holding Tryz.prog os ⟨#[], #[], []⟩ with heap := ((World.holding Tryz.prog os ⟨#[], #[], []⟩).heap).modify 0 (fun | .cells _ t frozen => .cells ((glob0.map fun i => Value.int .u32 i)).toArray t frozen | o => o) }
theorem laidWorld_met (os : Os) (args : Array Value) : laidMet Tryz.prog Rows.verifyBoundRow.laid ((zvo os).forCall (fun _ _ => 0) ⟨#[], args, []⟩).memory :=
  laidMet_of_run' 8 (by kernel_rfl) (by kernel_rfl)

theorem globOk {W : World} (h : laidMet Tryz.prog Rows.verifyBoundRow.laid W) : GlobOk glob (hp W) := by
  have e0 : (Rows.laid_porter_sha_constants : DataW Unit) = .agg (glob0.map fun i => .lit (.int .u32 i)) := by kernel_rfl
  obtain ⟨ps, hv, _⟩ := h
  rw [show Rows.verifyBoundRow.laid = [("porter/sha.constants", .agg (glob0.map fun i => .lit (.int .u32 i)))] by rw [<- e0]; rfl] at hv
  obtain ⟨t0, q0, w0⟩ := z14z (P := Tryz.prog) (W := W) (name := "porter/sha.constants") (g := 0) (k := .u32) (n := 64) (ns := glob0) (by kernel_rfl) (t := 164) (by kernel_rfl) (e := 106) (by kernel_rfl) (by kernel_rfl) (by kernel_rfl) (by kernel_rfl) hv
  intro g d e
  by_cases hg0 : g = 0
  . subst hg0
    obtain rfl := Option.some.inj (show some _ = some d from e)
    exact t0
  have hn : ∀ x, x ≠ g -> Nat.beq x g = false := fun x hx => by
    cases hb : Nat.beq x g with
    | true => exact absurd (Nat.eq_of_beq_eq_true hb) hx
    | false => rfl
  have hnone : glob g = none := by
    simp only [glob, lk, hn 0 (Ne.symm hg0)]
  rw [hnone] at e; cases e

set_option maxRecDepth 100000 in
theorem lifted (os : Os) (started : os.Started) (H : Type) (enc : TypeId × Value -> H) :
    ReturnsInHanded {} Tryz.checked os 5 .any (fun w args => (Rows.verifyBoundSpec.pre enc Tryz.prog Tryz.f5 [] false w args /\ laidMet Tryz.prog Rows.verifyBoundRow.laid w) /\ sizedMet enc Tryz.prog Tryz.f5 (OpenSpec.ofChange Rows.verifyBoundSpec) false w args)
      (Rows.verifyBoundSpec.post enc Tryz.prog Tryz.f5 false true false false) := by
  refine returnsInHanded_of_change_and (C := Tryz.checked) (X := fun w _ => laidMet Tryz.prog Rows.verifyBoundRow.laid w) (fun _ _ _ hh h => h.of_heap hh) own started (by kernel_rfl) Tryz.func5
    (ChangeSpec.witness_at (enc := enc) (C := Tryz.checked) (os := os) (X := fun w _ => laidMet Tryz.prog Rows.verifyBoundRow.laid w) false (zvo os) #[.string ⟨#[]⟩, .string ⟨#[]⟩, .string ⟨#[]⟩] 8 rfl (by kernel_rfl) (by kernel_rfl) (by kernel_rfl) (by kernel_rfl) (by kernel_rfl) (laidWorld_met os _)) ?_
  intro W base args ds gs before hval0 hW _ _ hL _
  have hval : ∀ (j : Nat) t v, Tryz.f5.params[j]? = some t -> args[j]? = some v -> Value.okWide Tryz.prog W .any base t v := hval0
  have hW' := hW
  obtain ⟨p, q, hA0, hV, rfl, hfz, hnd⟩ := hW
  have hA : DataW.TrodAll enc Tryz.prog W 0 (fun _ => true) true Tryz.f5.params.toList args.toList ds p := hA0
  obtain ⟨rfl, rfl⟩ := trodVars_none hV
  have hA1 := hA
  have hc := z14r (us := [.str, .str, .str]) (F := fun N x => ztm N x.1 x.2.1 x.2.2.1) (ts := Tryz.f5.params.toList) (by kernel_rfl) z18g plain (globOk hL) (fun j t v ht hv => hval j t v (by simpa using ht) hv) hA1
  rw [Tryz.params5] at hA
  obtain ⟨v0, vs0, d0, ds0, p0, q0, hargs, rfl, rfl, h0, r0⟩ := trodAll_cons hA
  obtain ⟨v1, vs1, d1, ds1, p1, q1, rfl, rfl, rfl, h1, r1⟩ := trodAll_cons r0
  obtain ⟨v2, vs2, d2, ds2, p2, q2, rfl, rfl, rfl, h2, r2⟩ := trodAll_cons r1
  obtain ⟨rfl, rfl, rfl⟩ := trodAll_nil r2
  refine hc.mono fun e W' ⟨he, bel⟩ => ?_
  subst he
  exact ⟨_, rfl, _, _, _, [], _, [], hW', trodAll_mk1 (shut_bool Tryz.underlying4 _), zk8 laidOut bel (by kernel_rfl) hA1, rfl, bel.frame _, fun h => by cases h⟩

theorem over : Rows.verifyBoundRow.holds Tryz.pinned (OpenSpec.ofChange Rows.verifyBoundSpec) :=
  OpenClaim.holds_of_wide 5 Tryz.f5 rfl rfl rfl rfl rfl rfl rfl ⟨rfl, rfl, rfl, rfl, rfl⟩ rfl rfl rfl rfl rfl (by kernel_rfl) Tryz.func5 (by kernel_rfl)
    (of_decide_eq_true (by kernel_rfl)) (by unfold Func.isWrapper; first | (rw [if_pos (by decide +kernel)]; kernel_rfl) | (rw [if_neg (by decide +kernel)]; exact ⟨rfl, rfl⟩))
    (fun os started H enc _ => lifted os started H enc)

/-- THE STATEMENT -/
theorem proved : Rows.VerifyBoundCardSaid :=
  Claim7.holds_tied_plain_at .later [] [.data] true Rows.verifyBoundCard.stood.harness Rows.verifyBoundCard.stood.looks
    over (fun _ h => by cases h) (by kernel_rfl) (fun _ h => by cases h) verifyBound_row_tie rfl ⟨rfl, rfl⟩ (by kernel_rfl) rfl
    (fun f fn hf hfn => by
      obtain rfl : f = 5 := Option.some.inj ((show Tryz.prog.funcNamed Rows.verifyBoundRow.func = some 5 by kernel_rfl).symm.trans hf) |>.symm
      obtain rfl : fn = Tryz.f5 := (Option.some.inj (Tryz.func5.symm.trans hfn)).symm
      refine ⟨by kernel_rfl, fun j t ht => ?_⟩
      have hm : t ∈ Tryz.f5.params.toList := List.mem_of_getElem? (by simpa using ht)
      have hall : (Tryz.f5.params.toList.all fun t => Tryz.prog.wantsStandIn t == false) = true := by kernel_rfl
      exact eq_of_beq (List.all_eq_true.1 hall t hm))
    (by kernel_rfl)
end Go.Proofs.YtkipbccgnekoaaaGreatDoor.verifyBound
