/- Proved here: the statement BoundWindow: the law's function says true, whatever comes in. -/
import Derived.Test.YtbnhlpehccohjaaLgPrBw6
import Derived.Test.YtbnhlpehccohjaaRows
import Derived.WalkKit
import Derived.ProofKit
import Derived.OpenShut
import Derived.ChangeOld
import Derived.Below
namespace Go.Proofs.Ytbnhlpehccohjaa.boundWindow
open Go Go.Lift Go.ChangeShapes Go.WideShapes Go.ChangeAt Go.RowKit Go.Proofs.YtbnhlpehccohjaaLg Go.Proofs.Ytbnhlpehccohjaa
open Go.Proofs.YtbnhlpehccohjaaPx
set_option linter.all false

theorem own : ownKnob Try.prog.godebug = none := by kernel_rfl
theorem laidOut : laidOutB Try.prog = true := by kernel_rfl

theorem plain (x : z1j (z6f [.pair .str (.pair (.int .i64) (.pair (.int .i64) .unit)), .sl (.pair .str (.pair .str (.pair (.int .i64) .unit))), .arr 2 (.int .i64)])) (hx : WfS [.pair .str (.pair (.int .i64) (.pair (.int .i64) .unit)), .sl (.pair .str (.pair .str (.pair (.int .i64) .unit))), .arr 2 (.int .i64)] x) : ∃ N, z13 N x.1 x.2.1 x.2.2.1 = some true := ⟨1000, zn6 0 _ _ _ hx.2.2.1.1 (fun y h => z11x (hx.2.2.1.2 y h)) (fun a h => z11x (hx.2.1.2 a h).2.2.1)⟩

set_option maxRecDepth 100000 in
theorem lifted (os : Os) (started : os.Started) (H : Type) (enc : TypeId × Value -> H) :
    ReturnsInHanded {} Try.checked os 3 .any (Rows.boundWindowSpec.pre6 enc Try.prog Try.f3 Rows.boundWindowRow.domain false) (Rows.boundWindowSpec.post enc Try.prog Try.f3 false true false false) := by
  refine returnsInHanded_of_change (C := Try.checked) own started (by kernel_rfl) Try.func3
    (ChangeSpec.witness6 (enc := enc) (C := Try.checked) false ⟨#[], #[.agg #[.string ⟨#[]⟩, .int .i64 0, .int .i64 0], .slice none 0 0, .agg #[.int .i64 0, .int .i64 0]], []⟩ 8 (by kernel_rfl) (by kernel_rfl) (by kernel_rfl) (by kernel_rfl)) ?_
  intro W base args ds gs before hval0 hW hcnd _
  have hval : ∀ (j : Nat) t v, Try.f3.params[j]? = some t -> args[j]? = some v -> Value.okWide Try.prog W .any base t v := hval0
  have hW' := hW
  obtain ⟨p, q, hA0, hV, rfl, hfz, hnd⟩ := hW
  have hA : DataW.TrodAll enc Try.prog W 0 (fun _ => true) true Try.f3.params.toList args.toList ds p := hA0
  obtain ⟨rfl, rfl⟩ := trodVars_none hV
  have hA1 := hA
  have hc := zz4 (us := [.pair .str (.pair (.int .i64) (.pair (.int .i64) .unit)), .sl (.pair .str (.pair .str (.pair (.int .i64) .unit))), .arr 2 (.int .i64)]) (F := fun N x => z13 N x.1 x.2.1 x.2.2.1) (ts := Try.f3.params.toList) (by kernel_rfl) z81 plain (zyr _) (fun j t v ht hv => hval j t v (by simpa using ht) hv) hA1
  rw [Try.params3] at hA
  obtain ⟨v0, vs0, d0, ds0, p0, q0, hargs, rfl, rfl, h0, r0⟩ := trodAll_cons hA
  obtain ⟨v1, vs1, d1, ds1, p1, q1, rfl, rfl, rfl, h1, r1⟩ := trodAll_cons r0
  obtain ⟨v2, vs2, d2, ds2, p2, q2, rfl, rfl, rfl, h2, r2⟩ := trodAll_cons r1
  obtain ⟨rfl, rfl, rfl⟩ := trodAll_nil r2
  refine hc.mono fun e W' ⟨he, bel⟩ => ?_
  subst he
  exact ⟨_, rfl, _, _, _, [], _, [], hW', trodAll_mk1 (shut_bool Try.underlying4 _), zfa laidOut bel (by kernel_rfl) hA1, rfl, bel.frame _, fun h => by cases h⟩

theorem over : Rows.boundWindowRow.holds Try.pinned (OpenSpec.ofChange Rows.boundWindowSpec) :=
  OpenClaim.holds_of_wide 3 Try.f3 rfl rfl rfl rfl rfl rfl rfl ⟨rfl, rfl, rfl, rfl, rfl⟩ rfl rfl rfl rfl rfl (by kernel_rfl) Try.func3 (by kernel_rfl)
    (of_decide_eq_true (by kernel_rfl)) (by unfold Func.isWrapper; first | (rw [if_pos (by decide +kernel)]; kernel_rfl) | (rw [if_neg (by decide +kernel)]; exact ⟨rfl, rfl⟩))
    (fun os started H enc _ => lifted os started H enc)

/-- THE STATEMENT -/
theorem proved : Rows.BoundWindowSaid := over
end Go.Proofs.Ytbnhlpehccohjaa.boundWindow
