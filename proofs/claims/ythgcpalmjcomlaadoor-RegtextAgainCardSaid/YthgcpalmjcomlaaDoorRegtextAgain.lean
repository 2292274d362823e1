/- Proved here: the card of RegtextAgain: the law's function says true, whatever comes in; the table that the program lays is tied to its text. -/
import Derived.Test.YthgcpalmjcomlaaDoorLgPrRa7
import Derived.Test.YthgcpalmjcomlaaDoorRows
import Derived.Test.YthgcpalmjcomlaaDoorCards
import Derived.Test.YthgcpalmjcomlaaDoorTie
import Derived.SevenTiedAt
import Derived.LaidLaws
import Derived.WalkKit
import Derived.ProofKit
import Derived.OpenShut
import Derived.ChangeOld
import Derived.Below
namespace Go.Proofs.YthgcpalmjcomlaaDoor.regtextAgain
open Go Go.Lift Go.ChangeShapes Go.WideShapes Go.ChangeAt Go.RowKit Go.Proofs.YthgcpalmjcomlaaDoorLg Go.Proofs.YthgcpalmjcomlaaDoor
open Go.Proofs.YthgcpalmjcomlaaDoorPx
set_option linter.all false

noncomputable def tab4 : List Int := [0, 1, 28, 2, 29, 14, 24, 3, 30, 22, 20, 15, 25, 17, 4, 8, 31, 27, 13, 23, 21, 19, 16, 7, 26, 12, 18, 6, 11, 5, 10, 9]
noncomputable def tab3 : List Int := [1, 10, 100, 1000, 10000, 100000, 1000000, 10000000, 100000000, 1000000000, 10000000000, 100000000000, 1000000000000, 10000000000000, 100000000000000, 1000000000000000, 10000000000000000, 100000000000000000, 1000000000000000000, 10000000000000000000]
theorem own : ownKnob Tryd.prog.godebug = none := by kernel_rfl
theorem laidOut : laidOutB Tryd.prog = true := by kernel_rfl

theorem plain (x : z1e (zbs [.str])) (hx : WfS [.str] x) : ∃ N, z23 N x.1 = some true := z1c8 _

noncomputable def zsx (os : Os) : World := { World.holding Tryd.prog os ⟨#[], #[], []⟩ with heap := (((((World.holding Tryd.prog os ⟨#[], #[], []⟩).heap).modify 4 (fun | .cells _ t frozen => .cells (tab4.map fun i => Value.int .u8 i).toArray t frozen | o => o)).modify 1 (fun | .cells _ t frozen => .cells (glob1.map fun i => Value.int .u8 i).toArray t frozen | o => o)).modify 3 (fun | .cells _ t frozen => .cells (tab3.map fun i => Value.int .u64 i).toArray t frozen | o => o)).modify 0 (fun | .cells _ t frozen => .cells (glob0.flatMap fun x => [Value.int .i64 x.1, Value.int .i64 x.2.1, Value.string ⟨⟨x.2.2.1⟩⟩]).toArray t frozen | o => o) }
theorem laidWorld_met (os : Os) (args : Array Value) : laidMet Tryd.prog Rows.regtextAgainRow.laid ((zsx os).forCall (fun _ _ => 0) ⟨#[], args, []⟩).memory :=
  laidMet_of_run' 8 (by kernel_rfl) (by kernel_rfl)

theorem globOk {W : World} (h : laidMet Tryd.prog Rows.regtextAgainRow.laid W) : GlobOk glob (hp W) := by
  have e0 : (Rows.laid_math_bits_deBruijn32tab : DataW Unit) = .agg (tab4.map fun i => .lit (.int .u8 i)) := by kernel_rfl
  have e1 : (Rows.laid_math_bits_deBruijn64tab : DataW Unit) = .agg (glob1.map fun i => .lit (.int .u8 i)) := by kernel_rfl
  have e2 : (Rows.laid_internal_strconv_uint64pow10 : DataW Unit) = .agg (tab3.map fun i => .lit (.int .u64 i)) := by kernel_rfl
  have e3 : (Rows.laid_porter_regtext_signs : DataW Unit) = .agg (glob0.map fun x => .agg [.lit (.int .i64 x.1), .lit (.int .i64 x.2.1), .lit (.string x.2.2.1)]) := by kernel_rfl
  obtain ⟨ps, hv, _⟩ := h
  rw [show Rows.regtextAgainRow.laid = [("math/bits.deBruijn32tab", .agg (tab4.map fun i => .lit (.int .u8 i))), ("math/bits.deBruijn64tab", .agg (glob1.map fun i => .lit (.int .u8 i))), ("internal/strconv.uint64pow10", .agg (tab3.map fun i => .lit (.int .u64 i))), ("porter/regtext.signs", .agg (glob0.map fun x => .agg [.lit (.int .i64 x.1), .lit (.int .i64 x.2.1), .lit (.string x.2.2.1)]))] by rw [<- e0, <- e1, <- e2, <- e3]; rfl] at hv
  obtain ⟨q0, w0⟩ := zsw hv
  obtain ⟨t1, q1, w1⟩ := z12o (P := Tryd.prog) (W := W) (name := "math/bits.deBruijn64tab") (g := 1) (k := .u8) (n := 64) (ns := glob1) (by kernel_rfl) (t := 85) (by kernel_rfl) (e := 5) (by kernel_rfl) (by kernel_rfl) (by kernel_rfl) (by kernel_rfl) w0
  obtain ⟨q2, w2⟩ := zsw w1
  obtain ⟨t3, q3, w3⟩ := z15s (P := Tryd.prog) (W := W) (name := "porter/regtext.signs") (g := 0) (k := .i64) (n := 3) (l := glob0) (t := 77) (e := 76) (f0 := Go.Field.mk "low" 3 0 false "" "porter/regtext" 0) (f1 := Go.Field.mk "high" 3 1 false "" "porter/regtext" 8) (f2 := Go.Field.mk "sign" 9 2 false "" "porter/regtext" 16) (by kernel_rfl) (by kernel_rfl) (by kernel_rfl) (by kernel_rfl) (by kernel_rfl) (by kernel_rfl) (by kernel_rfl) rfl rfl rfl (by kernel_rfl) (by kernel_rfl) (by kernel_rfl) (by kernel_rfl) (by kernel_rfl) w2
  intro g d e
  by_cases hg1 : g = 1
  . subst hg1
    obtain rfl := Option.some.inj (show some _ = some d from e)
    exact t1
  by_cases hg3 : g = 0
  . subst hg3
    obtain rfl := Option.some.inj (show some _ = some d from e)
    exact t3
  have hn : ∀ x, x ≠ g -> Nat.beq x g = false := fun x hx => by
    cases hb : Nat.beq x g with
    | true => exact absurd (Nat.eq_of_beq_eq_true hb) hx
    | false => rfl
  have hnone : glob g = none := by
    simp only [glob, lk, hn 1 (Ne.symm hg1), hn 0 (Ne.symm hg3)]
  rw [hnone] at e; cases e

set_option maxRecDepth 100000 in
theorem lifted (os : Os) (started : os.Started) (H : Type) (enc : TypeId × Value -> H) :
    ReturnsInHanded {} Tryd.checked os 4 .any (fun w args => (Rows.regtextAgainSpec.pre enc Tryd.prog Tryd.f4 [] false w args /\ laidMet Tryd.prog Rows.regtextAgainRow.laid w) /\ sizedMet enc Tryd.prog Tryd.f4 (OpenSpec.ofChange Rows.regtextAgainSpec) false w args)
      (Rows.regtextAgainSpec.post enc Tryd.prog Tryd.f4 false true false false) := by
  refine returnsInHanded_of_change_and (C := Tryd.checked) (X := fun w _ => laidMet Tryd.prog Rows.regtextAgainRow.laid w) (fun _ _ _ hh h => h.of_heap hh) own started (by kernel_rfl) Tryd.func4
    (ChangeSpec.witness_at (enc := enc) (C := Tryd.checked) (os := os) (X := fun w _ => laidMet Tryd.prog Rows.regtextAgainRow.laid w) false (zsx os) #[.string ⟨#[]⟩] 8 rfl (by kernel_rfl) (by kernel_rfl) (by kernel_rfl) (by kernel_rfl) (by kernel_rfl) (laidWorld_met os _)) ?_
  intro W base args ds gs before hval0 hW _ _ hL _
  have hval : ∀ (j : Nat) t v, Tryd.f4.params[j]? = some t -> args[j]? = some v -> Value.okWide Tryd.prog W .any base t v := hval0
  have hW' := hW
  obtain ⟨p, q, hA0, hV, rfl, hfz, hnd⟩ := hW
  have hA : DataW.TrodAll enc Tryd.prog W 0 (fun _ => true) true Tryd.f4.params.toList args.toList ds p := hA0
  obtain ⟨rfl, rfl⟩ := trodVars_none hV
  have hA1 := hA
  have hc := z12c (us := [.str]) (F := fun N x => z23 N x.1) (ts := Tryd.f4.params.toList) (by kernel_rfl) zck plain (globOk hL) (fun j t v ht hv => hval j t v (by simpa using ht) hv) hA1
  rw [Tryd.params4] at hA
  obtain ⟨v0, vs0, d0, ds0, p0, q0, hargs, rfl, rfl, h0, r0⟩ := trodAll_cons hA
  obtain ⟨rfl, rfl, rfl⟩ := trodAll_nil r0
  refine hc.mono fun e W' ⟨he, bel⟩ => ?_
  subst he
  exact ⟨_, rfl, _, _, _, [], _, [], hW', trodAll_mk1 (shut_bool Tryd.underlying4 _), ziz laidOut bel (by kernel_rfl) hA1, rfl, bel.frame _, fun h => by cases h⟩

theorem over : Rows.regtextAgainRow.holds Tryd.pinned (OpenSpec.ofChange Rows.regtextAgainSpec) :=
  OpenClaim.holds_of_wide 4 Tryd.f4 rfl rfl rfl rfl rfl rfl rfl ⟨rfl, rfl, rfl, rfl, rfl⟩ rfl rfl rfl rfl rfl (by kernel_rfl) Tryd.func4 (by kernel_rfl)
    (of_decide_eq_true (by kernel_rfl)) (by unfold Func.isWrapper; first | (rw [if_pos (by decide +kernel)]; kernel_rfl) | (rw [if_neg (by decide +kernel)]; exact ⟨rfl, rfl⟩))
    (fun os started H enc _ => lifted os started H enc)

/-- THE STATEMENT -/
theorem proved : Rows.RegtextAgainCardSaid :=
  Claim7.holds_tied_plain_at .later [] [.data, .data, .data, .data] true Rows.regtextAgainCard.stood.harness Rows.regtextAgainCard.stood.looks
    over (fun _ h => by cases h) (by kernel_rfl) (fun _ h => by cases h) regtextAgain_row_tie rfl ⟨rfl, rfl⟩ (by kernel_rfl) rfl
    (fun f fn hf hfn => by
      obtain rfl : f = 4 := Option.some.inj ((show Tryd.prog.funcNamed Rows.regtextAgainRow.func = some 4 by kernel_rfl).symm.trans hf) |>.symm
      obtain rfl : fn = Tryd.f4 := (Option.some.inj (Tryd.func4.symm.trans hfn)).symm
      refine ⟨by kernel_rfl, fun j t ht => ?_⟩
      have hm : t ∈ Tryd.f4.params.toList := List.mem_of_getElem? (by simpa using ht)
      have hall : (Tryd.f4.params.toList.all fun t => Tryd.prog.wantsStandIn t == false) = true := by kernel_rfl
      exact eq_of_beq (List.all_eq_true.1 hall t hm))
    (by kernel_rfl)
end Go.Proofs.YthgcpalmjcomlaaDoor.regtextAgain
