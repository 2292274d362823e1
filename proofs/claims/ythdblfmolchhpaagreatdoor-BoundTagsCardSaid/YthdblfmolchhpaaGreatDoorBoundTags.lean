/- Proved here: the card of BoundTags: the law's function says true, whatever comes in; the table that the program lays is tied to its text. -/
import Derived.Test.YthdblfmolchhpaaGreatDoorLgPrBt6
import Derived.Test.YthdblfmolchhpaaGreatDoorRows
import Derived.Test.YthdblfmolchhpaaGreatDoorCards
import Derived.Test.YthdblfmolchhpaaGreatDoorTie
import Derived.Test.YthdblfmolchhpaaGreatDoorLgPrBt7
import Derived.SevenTiedAt
import Derived.LaidLaws
import Derived.LaidHandle
import Derived.ChangeSame
import Derived.ChangeVars
import Derived.JoinedOf
import Derived.RowKitTokens
import Derived.Stop.Joined
import Derived.WalkKit
import Derived.ProofKit
import Derived.OpenShut
import Derived.ChangeOld
import Derived.Below
namespace Go.Proofs.YthdblfmolchhpaaGreatDoor.boundTags
open Go Go.Lift Go.ChangeShapes Go.WideShapes Go.ChangeAt Go.RowKit Go.Proofs.YthdblfmolchhpaaGreatDoorLg Go.Proofs.YthdblfmolchhpaaGreatDoor
open Go.Proofs.YthdblfmolchhpaaGreatDoorPx
set_option linter.all false

theorem own : ownKnob Tryz.prog.godebug = none := by kernel_rfl
theorem laidOut : laidOutB Tryz.prog = true := by kernel_rfl

theorem plain (x : z1b (z7q [.str, .pair (.pair .str (.pair (.sl (.pair .str (.pair .str .unit))) (.pair .str .unit))) (.pair (.sl (.pair .str (.pair (.sl (.pair .str (.pair .str .unit))) (.pair .str .unit)))) .unit)])) (hx : WfS [.str, .pair (.pair .str (.pair (.sl (.pair .str (.pair .str .unit))) (.pair .str .unit))) (.pair (.sl (.pair .str (.pair (.sl (.pair .str (.pair .str .unit))) (.pair .str .unit)))) .unit)] x) : ∃ N, z1x N x.1 x.2.1 = some true := ⟨4500, zqv 4400 (by omega) (z13l 3500) _ _⟩

noncomputable def zsk (os : Os) : World := { World.holding Tryz.prog os ⟨#[], #[], []⟩ with heap := ((World.holding Tryz.prog os ⟨#[], #[], []⟩).heap.modify 1 (fun | .cells _ t frozen => .cells (glob1.map fun i => Value.int .u32 i).toArray t frozen | o => o)).modify 0 (fun | .cells _ t frozen => .cells #[.iface 164 (.agg #[.pointer (some ⟨3, 74, none⟩)])] t frozen | o => o) }
theorem laidWorld_met (os : Os) (args : Array Value) : laidMetH Tryz.prog Rows.boundTagsRow.laid ((zsk os).forCall (fun _ _ => 0) ⟨#[], args, []⟩).memory :=
  laidMetH_of_parts (laidMet_of_run' (l := [("porter/sha.constants", Rows.laid_porter_sha_constants)]) 8 (by kernel_rfl) (by kernel_rfl)) (by kernel_rfl)

theorem et : Tryz.prog.globalNamed "errors.errorType" = some 0 := by kernel_rfl
theorem rt : (Tryz.prog.cutTypes.find? (·.1 == "internal/reflectlite.rtype")).map (·.2) = some 164 := by kernel_rfl
theorem oneRow : ((List.range 229).filter fun t => Tryz.prog.rowNamed t [101, 114, 114, 111, 114]) = [74] := by kernel_rfl
theorem tsize : Tryz.prog.types.size = 229 := by kernel_rfl

/-- what the condition gives a walk: the variable's one cell -/
theorem handle_of_laid {W : World} (h : laidMetH Tryz.prog Rows.boundTagsRow.laid W) : W.cell? ⟨0, 0, none⟩ = some (.iface 164 (.agg #[.pointer (some ⟨3, 74, none⟩)])) := by
  have h' : laidMet Tryz.prog [("porter/sha.constants", Rows.laid_porter_sha_constants)] W /\ handlesMet Tryz.prog [("errors.errorType", Rows.laid_errors_errorType)] W := h
  obtain ⟨name, u, ty, e1, e2, e3, e4, e5⟩ := h'.2 _ (List.mem_singleton.2 rfl)
  have en : name = [101, 114, 114, 111, 114] := (Option.some.inj e1).symm
  subst en
  obtain rfl := Option.some.inj (rt.symm.trans e2)
  have hm : ty ∈ (List.range 229).filter fun t => Tryz.prog.rowNamed t [101, 114, 114, 111, 114] := List.mem_filter.2 ⟨List.mem_range.2 (by rw [<- tsize]; exact e3), e4⟩
  rw [oneRow] at hm
  obtain rfl := List.mem_singleton.1 hm
  have hh : typeHandle Tryz.prog 74 = .pointer (some ⟨3, 74, none⟩) := by kernel_rfl
  rw [hh] at e5
  simpa using World.var?_cell et e5 0

theorem globOk {W : World} (h : laidMetH Tryz.prog Rows.boundTagsRow.laid W) : GlobOk glob (hp W) := by
  have hc := handle_of_laid h
  have h' : laidMet Tryz.prog [("porter/sha.constants", Rows.laid_porter_sha_constants)] W /\ handlesMet Tryz.prog [("errors.errorType", Rows.laid_errors_errorType)] W := h
  have e0 : (Rows.laid_porter_sha_constants : DataW Unit) = .agg (glob1.map fun i => .lit (.int .u32 i)) := by kernel_rfl
  obtain ⟨ps, hv, _⟩ := h'.1
  rw [e0] at hv
  obtain ⟨t0, q0, w0⟩ := z123 (P := Tryz.prog) (W := W) (name := "porter/sha.constants") (g := 1) (k := .u32) (n := 64) (ns := glob1) (by kernel_rfl) (t := 198) (by kernel_rfl) (e := 181) (by kernel_rfl) (by kernel_rfl) (by kernel_rfl) (by kernel_rfl) hv
  intro g d e
  by_cases hg : g = 0
  . subst hg
    obtain rfl := Option.some.inj (show some _ = some d from e)
    cases hb : W.heap[0]? with
    | none => simp [World.cell?, hb] at hc
    | some o =>
      cases o with
      | cells all E fr =>
        simp only [World.cell?, hb] at hc
        have h0 : all[0]? = some (.iface 164 (.agg #[.pointer (some ⟨3, 74, none⟩)])) := by simpa using hc
        have h1 : all.toList[0]? = some (.iface 164 (.agg #[.pointer (some ⟨3, 74, none⟩)])) := by simpa using h0
        cases hl : all.toList with
        | nil => rw [hl] at h1; cases h1
        | cons x xs =>
          rw [hl] at h1
          have hx : x = .iface 164 (.agg #[.pointer (some ⟨3, 74, none⟩)]) := Option.some.inj h1
          have : Rd (hp W) (.ptr .opq) (.iface 164 (.agg #[.pointer (some ⟨3, 74, none⟩)])) [.pointer (some ⟨0, 0, none⟩)] :=
            ⟨0, 0, [x], rfl, ⟨all, E, fr, [], xs, hb, by rw [hl]; rfl, rfl⟩, by rw [hx]; exact ⟨rfl, rfl⟩⟩
          simpa [VR, T.isAgg] using this
      | _ => simp [World.cell?, hb] at hc
  . by_cases hg1 : g = 1
    . subst hg1
      obtain rfl := Option.some.inj (show some _ = some d from e)
      exact t0
    exfalso
    have hn : ∀ x, x ≠ g -> Nat.beq x g = false := fun x hx => by
      cases hb : Nat.beq x g with
      | true => exact absurd (Nat.eq_of_beq_eq_true hb) hx
      | false => rfl
    have hnone : glob g = none := by
      simp only [glob, lk, hn 0 (Ne.symm hg), hn 1 (Ne.symm hg1)]
    rw [hnone] at e; cases e

set_option maxRecDepth 100000 in
theorem lifted (os : Os) (started : os.Started) (H : Type) (enc : TypeId × Value -> H) :
    ReturnsInHanded {} Tryz.checked os 3 .any (fun w args => (Rows.boundTagsSpec.pre enc Tryz.prog Tryz.f3 [] false w args /\ laidMetH Tryz.prog Rows.boundTagsRow.laid w) /\ sizedMet enc Tryz.prog Tryz.f3 (OpenSpec.ofChange Rows.boundTagsSpec) false w args)
      (Rows.boundTagsSpec.post enc Tryz.prog Tryz.f3 false true false false) := by
  refine returnsInHanded_of_change_and (C := Tryz.checked) (X := fun w _ => laidMetH Tryz.prog Rows.boundTagsRow.laid w) (fun _ _ _ hh h => h.of_heap hh) own started (by kernel_rfl) Tryz.func3
    (ChangeSpec.witness_at (enc := enc) (C := Tryz.checked) (os := os) (X := fun w _ => laidMetH Tryz.prog Rows.boundTagsRow.laid w) false (zsk os) #[.string ⟨#[]⟩, .agg #[.string ⟨#[]⟩, .slice none 0 0, .string ⟨#[]⟩, .slice none 0 0]] 8 rfl (by kernel_rfl) (by kernel_rfl) (by kernel_rfl) (by kernel_rfl) (by kernel_rfl) (laidWorld_met os _)) ?_
  intro W base args ds gs before hval0 hW _ _ hL _
  have hval : ∀ (j : Nat) t v, Tryz.f3.params[j]? = some t -> args[j]? = some v -> Value.okWide Tryz.prog W .any base t v := hval0
  have hW' := hW
  obtain ⟨p, q, hA0, hV, rfl, hfz, hnd⟩ := hW
  have hA : DataW.TrodAll enc Tryz.prog W 0 (fun _ => true) true Tryz.f3.params.toList args.toList ds p := hA0
  obtain ⟨rfl, rfl⟩ := trodVars_none hV
  have hA1 := hA
  have hc := z11q (us := [.str, .pair (.pair .str (.pair (.sl (.pair .str (.pair .str .unit))) (.pair .str .unit))) (.pair (.sl (.pair .str (.pair (.sl (.pair .str (.pair .str .unit))) (.pair .str .unit)))) .unit)]) (F := fun N x => z1x N x.1 x.2.1) (ts := Tryz.f3.params.toList) (by kernel_rfl) za8 plain (globOk hL) (fun j t v ht hv => hval j t v (by simpa using ht) hv) hA1
  rw [Tryz.params3] at hA
  obtain ⟨v0, vs0, d0, ds0, p0, q0, hargs, rfl, rfl, h0, r0⟩ := trodAll_cons hA
  obtain ⟨v1, vs1, d1, ds1, p1, q1, rfl, rfl, rfl, h1, r1⟩ := trodAll_cons r0
  obtain ⟨rfl, rfl, rfl⟩ := trodAll_nil r1
  refine hc.mono fun e W' ⟨he, bel⟩ => ?_
  subst he
  exact ⟨_, rfl, _, _, _, [], _, [], hW', trodAll_mk1 (shut_bool Tryz.underlying4 _), zgw laidOut bel (by kernel_rfl) hA1, rfl, bel.frame _, fun h => by cases h⟩

theorem over : Rows.boundTagsRow.holds Tryz.pinned (OpenSpec.ofChange Rows.boundTagsSpec) :=
  OpenClaim.holds_of_wide 3 Tryz.f3 rfl rfl rfl rfl rfl rfl rfl ⟨rfl, rfl, rfl, rfl, rfl⟩ rfl rfl rfl rfl rfl (by kernel_rfl) Tryz.func3 (by kernel_rfl)
    (of_decide_eq_true (by kernel_rfl)) (by unfold Func.isWrapper; first | (rw [if_pos (by decide +kernel)]; kernel_rfl) | (rw [if_neg (by decide +kernel)]; exact ⟨rfl, rfl⟩))
    (fun os started H enc _ => lifted os started H enc)

/-- THE STATEMENT -/
theorem proved : Rows.BoundTagsCardSaid :=
  Claim7.holds_tied_plain_at .later [] [.data, .handle] true Rows.boundTagsCard.stood.harness Rows.boundTagsCard.stood.looks
    over (fun _ h => by cases h) (by kernel_rfl) (fun _ h => by cases h) boundTags_row_tie rfl ⟨rfl, rfl⟩ (by kernel_rfl) rfl
    (fun f fn hf hfn => by
      obtain rfl : f = 3 := Option.some.inj ((show Tryz.prog.funcNamed Rows.boundTagsRow.func = some 3 by kernel_rfl).symm.trans hf) |>.symm
      obtain rfl : fn = Tryz.f3 := (Option.some.inj (Tryz.func3.symm.trans hfn)).symm
      refine ⟨by kernel_rfl, fun j t ht => ?_⟩
      have hm : t ∈ Tryz.f3.params.toList := List.mem_of_getElem? (by simpa using ht)
      have hall : (Tryz.f3.params.toList.all fun t => Tryz.prog.wantsStandIn t == false) = true := by kernel_rfl
      exact eq_of_beq (List.all_eq_true.1 hall t hm))
    (by kernel_rfl)
end Go.Proofs.YthdblfmolchhpaaGreatDoor.boundTags
