/- Proved here: the second form's card of RegtextTells: the law's function says true, whatever comes in, where what comes in holds together at most 1048576 values and letters; the table that the program lays is tied to its text. -/
import Derived.Test.YtnnjnkjfkaaikaaDoorLgPrRt7
import Derived.Test.YtnnjnkjfkaaikaaDoorLgPrRt9
import Derived.Test.YtnnjnkjfkaaikaaDoorRows
import Derived.Test.YtnnjnkjfkaaikaaDoorCards
import Derived.Test.YtnnjnkjfkaaikaaDoorTie
import Derived.SevenTiedAt
import Derived.LaidLaws
import Derived.WalkKit
import Derived.ProofKit
import Derived.OpenShut
import Derived.ChangeOld
import Derived.Below
import Derived.JoinedCond
import Derived.Deep.DeepHandedRow
namespace Go.Proofs.YtnnjnkjfkaaikaaDoor.regtextTells
open Go Go.Lift Go.ChangeShapes Go.WideShapes Go.ChangeAt Go.RowKit Go.Proofs.YtnnjnkjfkaaikaaDoorLg Go.Proofs.YtnnjnkjfkaaikaaDoor
open Go.Proofs.YtnnjnkjfkaaikaaDoorPx
set_option linter.all false

noncomputable def tab4 : List Int := [0, 1, 28, 2, 29, 14, 24, 3, 30, 22, 20, 15, 25, 17, 4, 8, 31, 27, 13, 23, 21, 19, 16, 7, 26, 12, 18, 6, 11, 5, 10, 9]
noncomputable def tab3 : List Int := [1, 10, 100, 1000, 10000, 100000, 1000000, 10000000, 100000000, 1000000000, 10000000000, 100000000000, 1000000000000, 10000000000000, 100000000000000, 1000000000000000, 10000000000000000, 100000000000000000, 1000000000000000000, 10000000000000000000]
theorem own : ownKnob Tryd.prog.godebug = none := by kernel_rfl
theorem laidOut : laidOutB Tryd.prog = true := by kernel_rfl

theorem plain (x : zw (z9h [.pair (.int .i64) (.pair (.arr 4 (.int .u64)) (.pair (.sl .nod) (.pair (.int .i64) (.pair (.int .i64) .unit)))), .arr 4 (.int .u64), .int .u8])) (hx : WfS [.pair (.int .i64) (.pair (.arr 4 (.int .u64)) (.pair (.sl .nod) (.pair (.int .i64) (.pair (.int .i64) .unit)))), .arr 4 (.int .u64), .int .u8] x) (hq : z23 (foN x.1) <= 2000000) : ∃ N, z1p N x.1 x.2.1 x.2.2.1 = some true := z157 x.1 x.2.1 x.2.2.1 hx.1 hx.2.1 hx.2.2.1 hq

noncomputable def low : Nat := (World.holding Tryd.prog default ⟨#[], #[], []⟩).heap.size

noncomputable def zp7 (os : Os) : World := { World.holding Tryd.prog os ⟨#[], #[], []⟩ with heap := (((((World.holding Tryd.prog os ⟨#[], #[], []⟩).heap).modify 4 (fun | .cells _ t frozen => .cells (tab4.map fun i => Value.int .u8 i).toArray t frozen | o => o)).modify 1 (fun | .cells _ t frozen => .cells (glob1.map fun i => Value.int .u8 i).toArray t frozen | o => o)).modify 3 (fun | .cells _ t frozen => .cells (tab3.map fun i => Value.int .u64 i).toArray t frozen | o => o)).modify 0 (fun | .cells _ t frozen => .cells (glob0.flatMap fun x => [Value.int .i64 x.1, Value.int .i64 x.2.1, Value.string ⟨⟨x.2.2.1⟩⟩]).toArray t frozen | o => o) }
theorem laidWorld_met (os : Os) (args : Array Value) : laidMet Tryd.prog Rows.regtextTellsUptoRow.laid ((zp7 os).forCall (fun _ _ => 0) ⟨#[], args, []⟩).memory :=
  laidMet_of_run' 8 (by kernel_rfl) (by kernel_rfl)

theorem globOk {W : World} (h : laidMet Tryd.prog Rows.regtextTellsUptoRow.laid W) : GlobOk glob (hp W) := by
  have e0 : (Rows.laid_math_bits_deBruijn32tab : DataW Unit) = .agg (tab4.map fun i => .lit (.int .u8 i)) := by kernel_rfl
  have e1 : (Rows.laid_math_bits_deBruijn64tab : DataW Unit) = .agg (glob1.map fun i => .lit (.int .u8 i)) := by kernel_rfl
  have e2 : (Rows.laid_internal_strconv_uint64pow10 : DataW Unit) = .agg (tab3.map fun i => .lit (.int .u64 i)) := by kernel_rfl
  have e3 : (Rows.laid_porter_regtext_signs : DataW Unit) = .agg (glob0.map fun x => .agg [.lit (.int .i64 x.1), .lit (.int .i64 x.2.1), .lit (.string x.2.2.1)]) := by kernel_rfl
  have hv := z161 h
  rw [show Rows.regtextTellsUptoRow.laid = [("math/bits.deBruijn32tab", .agg (tab4.map fun i => .lit (.int .u8 i))), ("math/bits.deBruijn64tab", .agg (glob1.map fun i => .lit (.int .u8 i))), ("internal/strconv.uint64pow10", .agg (tab3.map fun i => .lit (.int .u64 i))), ("porter/regtext.signs", .agg (glob0.map fun x => .agg [.lit (.int .i64 x.1), .lit (.int .i64 x.2.1), .lit (.string x.2.2.1)]))] by rw [<- e0, <- e1, <- e2, <- e3]; rfl] at hv
  have w0 := zrb hv
  obtain ⟨t1, w1⟩ := z13d (P := Tryd.prog) (W := W) (name := "math/bits.deBruijn64tab") (g := 1) (k := .u8) (n := 64) (ns := glob1) (by kernel_rfl) (t := 92) (by kernel_rfl) (e := 5) (by kernel_rfl) (by kernel_rfl) (by kernel_rfl) (by kernel_rfl) w0
  have w2 := zrb w1
  obtain ⟨t3, w3⟩ := z160 (P := Tryd.prog) (W := W) (name := "porter/regtext.signs") (g := 0) (k := .i64) (n := 3) (l := glob0) (t := 91) (e := 90) (f0 := Go.Field.mk "low" 3 0 false "" "porter/regtext" 0) (f1 := Go.Field.mk "high" 3 1 false "" "porter/regtext" 8) (f2 := Go.Field.mk "sign" 9 2 false "" "porter/regtext" 16) (by kernel_rfl) (by kernel_rfl) (by kernel_rfl) (by kernel_rfl) (by kernel_rfl) (by kernel_rfl) (by kernel_rfl) rfl rfl rfl (by kernel_rfl) (by kernel_rfl) (by kernel_rfl) (by kernel_rfl) (by kernel_rfl) w2
  intro g d e
  by_cases hg1 : g = 1
  . subst hg1
    obtain rfl := Option.some.inj (show some _ = some d from e)
    exact t1
  by_cases hg3 : g = 0
  . subst hg3
    obtain rfl := Option.some.inj (show some _ = some d from e)
    exact t3
  have hn : ∀ x, x ≠ g -> Nat.beq x g = false := fun x hx => by
    cases hb : Nat.beq x g with
    | true => exact absurd (Nat.eq_of_beq_eq_true hb) hx
    | false => rfl
  have hnone : glob g = none := by
    simp only [glob, lk, hn 1 (Ne.symm hg1), hn 0 (Ne.symm hg3)]
  rw [hnone] at e; cases e

theorem reads (os : Os) {H : Type} (enc : TypeId × Value -> H) : ∃ places, DataW.whole enc Tryd.prog ((zp7 os).forCall (fun _ _ => 0) ⟨#[], #[.agg #[.int .i64 0, .int .u64 0, .int .u64 0, .int .u64 0, .int .u64 0, .slice none 0 0, .int .i64 0, .int .i64 0], .agg #[.int .u64 0, .int .u64 0, .int .u64 0, .int .u64 0], .int .u8 0], []⟩).memory Tryd.f3.params.toList Rows.regtextTellsSpec.vars false #[.agg #[.int .i64 0, .int .u64 0, .int .u64 0, .int .u64 0, .int .u64 0, .slice none 0 0, .int .i64 0, .int .i64 0], .agg #[.int .u64 0, .int .u64 0, .int .u64 0, .int .u64 0], .int .u8 0].toList 8 = some ([.agg [.lit (.int .i64 0), .agg [.lit (.int .u64 0), .lit (.int .u64 0), .lit (.int .u64 0), .lit (.int .u64 0)], .nil, .lit (.int .i64 0), .lit (.int .i64 0)], .agg [.lit (.int .u64 0), .lit (.int .u64 0), .lit (.int .u64 0), .lit (.int .u64 0)], .lit (.int .u8 0)], [], places) :=
  ⟨[], by kernel_rfl⟩

set_option maxRecDepth 100000 in
theorem contract (os : Os) (H : Type) (enc : TypeId × Value -> H) (W : World) (base : Nat) (args : Array Value) (ds gs : List (DataW H)) (before : List MemPlace)
    (hval0 : ∀ (j : Nat) t v, Tryd.f3.params[j]? = some t -> args[j]? = some v -> Value.okWide Tryd.prog W .any base t v)
    (hW : DataW.Whole enc Tryd.prog Tryd.f3.params.toList Rows.regtextTellsSpec.vars false W args.toList ds gs before) (hk : Rows.uptoSmall H (ds ++ gs) = true) (hL : laidMet Tryd.prog Rows.regtextTellsUptoRow.laid W) :
    Calls Tryd.prog 3 args W fun e W' => ∃ v, e = .returned v /\ Rows.regtextTellsSpec.post enc Tryd.prog Tryd.f3 false true false false W args v W' := by
  have hval := hval0
  have hW' := hW
  obtain ⟨p, q, hA0, hV, rfl, hfz, hnd⟩ := hW
  have hA : DataW.TrodAll enc Tryd.prog W 0 (fun _ => true) true Tryd.f3.params.toList args.toList ds p := hA0
  obtain ⟨rfl, rfl⟩ := trodVars_none hV
  have hA1 := hA
  have hAz := hA
  rw [Tryd.params3] at hA hAz
  have hc := zqc (us := [.pair (.int .i64) (.pair (.arr 4 (.int .u64)) (.pair (.sl .nod) (.pair (.int .i64) (.pair (.int .i64) .unit)))), .arr 4 (.int .u64), .int .u8]) (Q := fun x => z23 (foN x.1) <= 2000000) (F := fun N x => z1p N x.1 x.2.1 x.2.2.1) (ts := Tryd.f3.params.toList) (by kernel_rfl) zeb plain (globOk hL) (fun j t v ht hv => hval j t v (by simpa using ht) hv) hA1
    (fun x hx => z10w (t := 27) (by kernel_rfl) hx hAz hk)
  obtain ⟨v0, vs0, d0, ds0, p0, q0, hargs, rfl, rfl, h0, r0⟩ := trodAll_cons hA
  obtain ⟨v1, vs1, d1, ds1, p1, q1, rfl, rfl, rfl, h1, r1⟩ := trodAll_cons r0
  obtain ⟨v2, vs2, d2, ds2, p2, q2, rfl, rfl, rfl, h2, r2⟩ := trodAll_cons r1
  obtain ⟨rfl, rfl, rfl⟩ := trodAll_nil r2
  refine hc.mono fun e W' ⟨he, bel⟩ => ?_
  subst he
  exact ⟨_, rfl, _, _, _, [], _, [], hW', trodAll_mk1 (shut_bool Tryd.underlying4 _), zkw laidOut bel (by kernel_rfl) hA1, rfl, bel.frame _, fun h => by cases h⟩

set_option maxRecDepth 100000 in
theorem lifted (os : Os) (started : os.Started) (H : Type) (enc : TypeId × Value -> H) (F : Stop.Interp) :
    ReturnsInHanded {} Tryd.checked os 3 .any ((Rows.OpenSpec.upto Rows.regtextTellsSpec).preRow enc Tryd.prog Tryd.f3 Rows.regtextTellsUptoRow.domain false Rows.regtextTellsUptoRow.laid) (((Rows.OpenSpec.upto Rows.regtextTellsSpec).at F).post enc Tryd.prog Tryd.f3 false true false false) := by
  obtain ⟨places, hx⟩ := reads os enc
  refine returnsInHanded_of_row (C := Tryd.checked) (s := Rows.OpenSpec.upto Rows.regtextTellsSpec) own started (by kernel_rfl) Tryd.func3
    (witness_row_at (enc := enc) (C := Tryd.checked) false (zp7 os) #[.agg #[.int .i64 0, .int .u64 0, .int .u64 0, .int .u64 0, .int .u64 0, .slice none 0 0, .int .i64 0, .int .i64 0], .agg #[.int .u64 0, .int .u64 0, .int .u64 0, .int .u64 0], .int .u8 0] rfl (by kernel_rfl) (by kernel_rfl) (by kernel_rfl)
      (OpenSpec.preRow_of_cond 8 hx (by kernel_rfl) (fun k hk => by cases hk; kernel_rfl) (by kernel_rfl) (laidWorld_met os _))) ?_
  intro W base args ds gs before hval hW _ hk _ hL _ _
  exact contract os H enc W base args ds gs before hval hW (hk _ rfl) hL

theorem over : Rows.regtextTellsUptoRow.holds Tryd.pinned (Rows.OpenSpec.upto Rows.regtextTellsSpec) :=
  OpenClaim.holds_of_cond 3 Tryd.f3 rfl rfl rfl rfl rfl rfl rfl ⟨rfl, rfl, rfl, rfl, rfl⟩ rfl rfl rfl rfl rfl (by kernel_rfl) Tryd.func3 (by kernel_rfl)
    (of_decide_eq_true (by kernel_rfl)) (by unfold Func.isWrapper; first | (rw [if_pos (by decide +kernel)]; kernel_rfl) | (rw [if_neg (by decide +kernel)]; exact ⟨rfl, rfl⟩))
    (fun os started H enc _ F => by rw [OpenClaim.pre_eq_preRow]; exact lifted os started H enc F)

/-- THE STATEMENT -/
theorem proved : Rows.RegtextTellsUptoCardSaid :=
  Claim7.holds_tied_plain_at .later [] [.data, .data, .data, .data] true Rows.regtextTellsUptoCard.stood.harness Rows.regtextTellsUptoCard.stood.looks
    over (fun _ h => by cases h) (by kernel_rfl) (fun _ h => by cases h) regtextTellsUpto_row_tie rfl ⟨rfl, rfl⟩ (by kernel_rfl) rfl
    (fun f fn hf hfn => by
      obtain rfl : f = 3 := Option.some.inj ((show Tryd.prog.funcNamed Rows.regtextTellsRow.func = some 3 by kernel_rfl).symm.trans hf) |>.symm
      obtain rfl : fn = Tryd.f3 := (Option.some.inj (Tryd.func3.symm.trans hfn)).symm
      refine ⟨by kernel_rfl, fun j t ht => ?_⟩
      have hm : t ∈ Tryd.f3.params.toList := List.mem_of_getElem? (by simpa using ht)
      have hall : (Tryd.f3.params.toList.all fun t => Tryd.prog.wantsStandIn t == false) = true := by kernel_rfl
      exact eq_of_beq (List.all_eq_true.1 hall t hm))
    (by kernel_rfl)
end Go.Proofs.YtnnjnkjfkaaikaaDoor.regtextTells
