/- Proved here: the card of BundleBack: the law's function says true, whatever comes in; the table that the program lays is tied to its text. -/
import Derived.Test.YtaackaafmidjkaaDoorLgPrBb6
import Derived.Test.YtaackaafmidjkaaDoorRows
import Derived.Test.YtaackaafmidjkaaDoorCards
import Derived.Test.YtaackaafmidjkaaDoorTie
import Derived.SevenTiedAt
import Derived.LaidLaws
import Derived.LaidHandle
import Derived.ChangeSame
import Derived.ChangeVars
import Derived.JoinedOf
import Derived.RowKitTokens
import Derived.Stop.Joined
import Derived.WalkKit
import Derived.ProofKit
import Derived.OpenShut
import Derived.ChangeOld
import Derived.Below
namespace Go.Proofs.YtaackaafmidjkaaDoor.bundleBack
open Go Go.Lift Go.ChangeShapes Go.WideShapes Go.ChangeAt Go.RowKit Go.Proofs.YtaackaafmidjkaaDoorLg Go.Proofs.YtaackaafmidjkaaDoor
open Go.Proofs.YtaackaafmidjkaaDoorPx
set_option linter.all false

theorem own : ownKnob Tryd.prog.godebug = none := by kernel_rfl
theorem laidOut : laidOutB Tryd.prog = true := by kernel_rfl

theorem plain (x : z2d (za4 [.pair (.pair .str (.pair (.sl (.pair .str (.pair .str .unit))) (.pair .str .unit))) (.pair (.sl (.pair .str (.pair (.sl (.pair .str (.pair .str .unit))) (.pair .str .unit)))) .unit), .str])) (hx : WfS [.pair (.pair .str (.pair (.sl (.pair .str (.pair .str .unit))) (.pair .str .unit))) (.pair (.sl (.pair .str (.pair (.sl (.pair .str (.pair .str .unit))) (.pair .str .unit)))) .unit), .str] x) : ∃ N, z1h N x.1 x.2.1 = some true := ⟨200, zr4 200 (by decide) _ _⟩

noncomputable def zuq (os : Os) : World := { World.holding Tryd.prog os ⟨#[], #[], []⟩ with heap := (World.holding Tryd.prog os ⟨#[], #[], []⟩).heap.modify 0 (fun | .cells _ t frozen => .cells #[.iface 123 (.agg #[.pointer (some ⟨1, 70, none⟩)])] t frozen | o => o) }
theorem laidWorld_met (os : Os) (args : Array Value) : laidMetH Tryd.prog Rows.bundleBackRow.laid ((zuq os).forCall (fun _ _ => 0) ⟨#[], args, []⟩).memory :=
  laidMetH_of_parts (laidMet_nil _ _) (by kernel_rfl)

theorem et : Tryd.prog.globalNamed "errors.errorType" = some 0 := by kernel_rfl
theorem rt : (Tryd.prog.cutTypes.find? (·.1 == "internal/reflectlite.rtype")).map (·.2) = some 123 := by kernel_rfl
theorem oneRow : ((List.range 163).filter fun t => Tryd.prog.rowNamed t [101, 114, 114, 111, 114]) = [70] := by kernel_rfl
theorem tsize : Tryd.prog.types.size = 163 := by kernel_rfl

/-- what the condition gives a walk: the variable's one cell -/
theorem handle_of_laid {W : World} (h : laidMetH Tryd.prog Rows.bundleBackRow.laid W) : W.cell? ⟨0, 0, none⟩ = some (.iface 123 (.agg #[.pointer (some ⟨1, 70, none⟩)])) := by
  have h' : laidMet Tryd.prog [] W /\ handlesMet Tryd.prog Rows.bundleBackRow.laid W := h
  obtain ⟨name, u, ty, e1, e2, e3, e4, e5⟩ := h'.2 _ (List.mem_singleton.2 rfl)
  have en : name = [101, 114, 114, 111, 114] := (Option.some.inj e1).symm
  subst en
  obtain rfl := Option.some.inj (rt.symm.trans e2)
  have hm : ty ∈ (List.range 163).filter fun t => Tryd.prog.rowNamed t [101, 114, 114, 111, 114] := List.mem_filter.2 ⟨List.mem_range.2 (by rw [<- tsize]; exact e3), e4⟩
  rw [oneRow] at hm
  obtain rfl := List.mem_singleton.1 hm
  have hh : typeHandle Tryd.prog 70 = .pointer (some ⟨1, 70, none⟩) := by kernel_rfl
  rw [hh] at e5
  simpa using World.var?_cell et e5 0

theorem globOk {W : World} (h : laidMetH Tryd.prog Rows.bundleBackRow.laid W) : GlobOk glob (hp W) := by
  have hc := handle_of_laid h
  intro g d e
  by_cases hg : g = 0
  . subst hg
    obtain rfl := Option.some.inj (show some _ = some d from e)
    cases hb : W.heap[0]? with
    | none => simp [World.cell?, hb] at hc
    | some o =>
      cases o with
      | cells all E fr =>
        simp only [World.cell?, hb] at hc
        have h0 : all[0]? = some (.iface 123 (.agg #[.pointer (some ⟨1, 70, none⟩)])) := by simpa using hc
        have h1 : all.toList[0]? = some (.iface 123 (.agg #[.pointer (some ⟨1, 70, none⟩)])) := by simpa using h0
        cases hl : all.toList with
        | nil => rw [hl] at h1; cases h1
        | cons x xs =>
          rw [hl] at h1
          have hx : x = .iface 123 (.agg #[.pointer (some ⟨1, 70, none⟩)]) := Option.some.inj h1
          have : Rd (hp W) (.ptr .opq) (.iface 123 (.agg #[.pointer (some ⟨1, 70, none⟩)])) [.pointer (some ⟨0, 0, none⟩)] :=
            ⟨0, 0, [x], rfl, ⟨all, E, fr, [], xs, hb, by rw [hl]; rfl, rfl⟩, by rw [hx]; exact ⟨rfl, rfl⟩⟩
          simpa [VR, T.isAgg] using this
      | _ => simp [World.cell?, hb] at hc
  . exfalso
    have hn : Nat.beq 0 g = false := by
      cases hb : Nat.beq 0 g with
      | true => exact absurd (Nat.eq_of_beq_eq_true hb).symm hg
      | false => rfl
    have hn' : Nat.beq g 0 = false := by
      cases hb : Nat.beq g 0 with
      | true => exact absurd (Nat.eq_of_beq_eq_true hb) hg
      | false => rfl
    have hnone : glob g = none := by
      simp only [glob, lk, hn, hn']
    rw [hnone] at e; cases e

set_option maxRecDepth 100000 in
theorem lifted (os : Os) (started : os.Started) (H : Type) (enc : TypeId × Value -> H) :
    ReturnsInHanded {} Tryd.checked os 5 .any (fun w args => (Rows.bundleBackSpec.pre enc Tryd.prog Tryd.f5 [] false w args /\ laidMetH Tryd.prog Rows.bundleBackRow.laid w) /\ sizedMet enc Tryd.prog Tryd.f5 (OpenSpec.ofChange Rows.bundleBackSpec) false w args)
      (Rows.bundleBackSpec.post enc Tryd.prog Tryd.f5 false true false false) := by
  refine returnsInHanded_of_change_and (C := Tryd.checked) (X := fun w _ => laidMetH Tryd.prog Rows.bundleBackRow.laid w) (fun _ _ _ hh h => h.of_heap hh) own started (by kernel_rfl) Tryd.func5
    (ChangeSpec.witness_at (enc := enc) (C := Tryd.checked) (os := os) (X := fun w _ => laidMetH Tryd.prog Rows.bundleBackRow.laid w) false (zuq os) #[.agg #[.string ⟨#[]⟩, .slice none 0 0, .string ⟨#[]⟩, .slice none 0 0], .string ⟨#[]⟩] 8 rfl (by kernel_rfl) (by kernel_rfl) (by kernel_rfl) (by kernel_rfl) (by kernel_rfl) (laidWorld_met os _)) ?_
  intro W base args ds gs before hval0 hW _ _ hL _
  have hval : ∀ (j : Nat) t v, Tryd.f5.params[j]? = some t -> args[j]? = some v -> Value.okWide Tryd.prog W .any base t v := hval0
  have hW' := hW
  obtain ⟨p, q, hA0, hV, rfl, hfz, hnd⟩ := hW
  have hA : DataW.TrodAll enc Tryd.prog W 0 (fun _ => true) true Tryd.f5.params.toList args.toList ds p := hA0
  obtain ⟨rfl, rfl⟩ := trodVars_none hV
  have hA1 := hA
  have hc := z12h (us := [.pair (.pair .str (.pair (.sl (.pair .str (.pair .str .unit))) (.pair .str .unit))) (.pair (.sl (.pair .str (.pair (.sl (.pair .str (.pair .str .unit))) (.pair .str .unit)))) .unit), .str]) (F := fun N x => z1h N x.1 x.2.1) (ts := Tryd.f5.params.toList) (by kernel_rfl) zcl plain (globOk hL) (fun j t v ht hv => hval j t v (by simpa using ht) hv) hA1
  rw [Tryd.params5] at hA
  obtain ⟨v0, vs0, d0, ds0, p0, q0, hargs, rfl, rfl, h0, r0⟩ := trodAll_cons hA
  obtain ⟨v1, vs1, d1, ds1, p1, q1, rfl, rfl, rfl, h1, r1⟩ := trodAll_cons r0
  obtain ⟨rfl, rfl, rfl⟩ := trodAll_nil r1
  refine hc.mono fun e W' ⟨he, bel⟩ => ?_
  subst he
  exact ⟨_, rfl, _, _, _, [], _, [], hW', trodAll_mk1 (shut_bool Tryd.underlying4 _), zkf laidOut bel (by kernel_rfl) hA1, rfl, bel.frame _, fun h => by cases h⟩

theorem over : Rows.bundleBackRow.holds Tryd.pinned (OpenSpec.ofChange Rows.bundleBackSpec) :=
  OpenClaim.holds_of_wide 5 Tryd.f5 rfl rfl rfl rfl rfl rfl rfl ⟨rfl, rfl, rfl, rfl, rfl⟩ rfl rfl rfl rfl rfl (by kernel_rfl) Tryd.func5 (by kernel_rfl)
    (of_decide_eq_true (by kernel_rfl)) (by unfold Func.isWrapper; first | (rw [if_pos (by decide +kernel)]; kernel_rfl) | (rw [if_neg (by decide +kernel)]; exact ⟨rfl, rfl⟩))
    (fun os started H enc _ => lifted os started H enc)

/-- THE STATEMENT -/
theorem proved : Rows.BundleBackCardSaid :=
  Claim7.holds_tied_plain_at .later [] [.handle] true Rows.bundleBackCard.stood.harness Rows.bundleBackCard.stood.looks
    over (fun _ h => by cases h) (by kernel_rfl) (fun _ h => by cases h) bundleBack_row_tie rfl ⟨rfl, rfl⟩ (by kernel_rfl) rfl
    (fun f fn hf hfn => by
      obtain rfl : f = 5 := Option.some.inj ((show Tryd.prog.funcNamed Rows.bundleBackRow.func = some 5 by kernel_rfl).symm.trans hf) |>.symm
      obtain rfl : fn = Tryd.f5 := (Option.some.inj (Tryd.func5.symm.trans hfn)).symm
      refine ⟨by kernel_rfl, fun j t ht => ?_⟩
      have hm : t ∈ Tryd.f5.params.toList := List.mem_of_getElem? (by simpa using ht)
      have hall : (Tryd.f5.params.toList.all fun t => Tryd.prog.wantsStandIn t == false) = true := by kernel_rfl
      exact eq_of_beq (List.all_eq_true.1 hall t hm))
    (by kernel_rfl)
end Go.Proofs.YtaackaafmidjkaaDoor.bundleBack
