/- Proved here: the card of OpcodeScripts: the law's function says true, whatever comes in; the table that the program lays is tied to its text. -/
import Derived.Test.YtkkkgfmjjkpjdaaGreatDoorLgPrOs11
import Derived.Test.YtkkkgfmjjkpjdaaGreatDoorRows
import Derived.Test.YtkkkgfmjjkpjdaaGreatDoorCards
import Derived.Test.YtkkkgfmjjkpjdaaGreatDoorTie
import Derived.Test.YtkkkgfmjjkpjdaaGreatDoorLgPrOs12
import Derived.SevenTiedAt
import Derived.LaidLaws
import Derived.WalkKit
import Derived.ProofKit
import Derived.OpenShut
import Derived.ChangeOld
import Derived.Below
namespace Go.Proofs.YtkkkgfmjjkpjdaaGreatDoor.opcodeScripts
open Go Go.Lift Go.ChangeShapes Go.WideShapes Go.ChangeAt Go.RowKit Go.Proofs.YtkkkgfmjjkpjdaaGreatDoorLg Go.Proofs.YtkkkgfmjjkpjdaaGreatDoor
open Go.Proofs.YtkkkgfmjjkpjdaaGreatDoorPx
set_option linter.all false

noncomputable def tab7 : List Int := [0, 1, 28, 2, 29, 14, 24, 3, 30, 22, 20, 15, 25, 17, 4, 8, 31, 27, 13, 23, 21, 19, 16, 7, 26, 12, 18, 6, 11, 5, 10, 9]
noncomputable def tab8 : List Int := [0, 1, 56, 2, 57, 49, 28, 3, 61, 58, 42, 50, 38, 29, 17, 4, 62, 47, 59, 36, 45, 43, 51, 22, 53, 39, 33, 30, 24, 18, 12, 5, 63, 55, 48, 27, 60, 41, 37, 16, 46, 35, 44, 21, 52, 32, 23, 11, 54, 26, 40, 15, 34, 20, 31, 10, 25, 14, 19, 9, 13, 8, 7, 6]
theorem own : ownKnob Tryz.prog.godebug = none := by kernel_rfl
theorem laidOut : laidOutB Tryz.prog = true := by kernel_rfl

theorem plain (x : z1g (zj6 [.sl (.pair (.int .i64) (.pair .str (.pair (.int .i64) (.pair .str (.pair (.sl .str) .unit))))), .str])) (hx : WfS [.sl (.pair (.int .i64) (.pair .str (.pair (.int .i64) (.pair .str (.pair (.sl .str) .unit))))), .str] x) : ∃ N, z28 N x.1 x.2.1 = some true := ⟨1000000, z1mf 0⟩

noncomputable def low : Nat := (World.holding Tryz.prog default ⟨#[], #[], []⟩).heap.size
theorem errRow : ∀ u, Tryz.prog.typeName? 3 u = some "*errors.errorString" -> u = 124 := typeName_ptr_named (nm := "errors.errorString") (by kernel_rfl) (by kernel_rfl) (by decide)

noncomputable def z1fu (os : Os) : World := { World.holding Tryz.prog os ⟨#[.cells #[.string ⟨#[118, 97, 108, 117, 101, 32, 111, 117, 116, 32, 111, 102, 32, 114, 97, 110, 103, 101]⟩] 126, .cells #[.string ⟨#[105, 110, 118, 97, 108, 105, 100, 32, 115, 121, 110, 116, 97, 120]⟩] 126], #[], []⟩ with heap := (((((((((World.holding Tryz.prog os ⟨#[.cells #[.string ⟨#[118, 97, 108, 117, 101, 32, 111, 117, 116, 32, 111, 102, 32, 114, 97, 110, 103, 101]⟩] 126, .cells #[.string ⟨#[105, 110, 118, 97, 108, 105, 100, 32, 115, 121, 110, 116, 97, 120]⟩] 126], #[], []⟩).heap).modify 7 (fun | .cells _ t frozen => .cells (tab7.map fun i => Value.int .u8 i).toArray t frozen | o => o)).modify 8 (fun | .cells _ t frozen => .cells (tab8.map fun i => Value.int .u8 i).toArray t frozen | o => o)).modify 4 (fun | .cells _ t frozen => .cells (glob4.map fun i => Value.int .u64 i).toArray t frozen | o => o)).modify 6 (fun | .cells _ t frozen => .cells (glob6.flatMap fun x => [Value.int .u8 x.1, Value.int .u8 x.2.1]).toArray t frozen | o => o)).modify 3 (fun | .cells _ t frozen => .cells [Value.iface 124 (.pointer (some ⟨low + 0, 0, none⟩))].toArray t frozen | o => o)).modify 2 (fun | .cells _ t frozen => .cells [Value.iface 124 (.pointer (some ⟨low + 1, 0, none⟩))].toArray t frozen | o => o)).modify 0 (fun | .cells _ t frozen => .cells (glob0.flatMap z1q3).toArray t frozen | o => o)).modify 5 (fun | .cells _ t frozen => .cells (glob5.map fun i => Value.int .u8 i).toArray t frozen | o => o) }
theorem laidWorld_met (os : Os) (args : Array Value) : laidMet Tryz.prog Rows.opcodeScriptsRow.laid ((z1fu os).forCall (fun _ _ => 0) ⟨#[], args, []⟩).memory :=
  laidMet_of_run' 8 (by kernel_rfl) (by kernel_rfl)

theorem globOk {W : World} (h : laidMet Tryz.prog Rows.opcodeScriptsRow.laid W) : GlobOk glob (hp W) := by
  have e0 : (Rows.laid_math_bits_deBruijn32tab : DataW Unit) = .agg (tab7.map fun i => .lit (.int .u8 i)) := by kernel_rfl
  have e1 : (Rows.laid_math_bits_deBruijn64tab : DataW Unit) = .agg (tab8.map fun i => .lit (.int .u8 i)) := by kernel_rfl
  have e2 : (Rows.laid_internal_strconv_uint64pow10 : DataW Unit) = .agg (glob4.map fun i => .lit (.int .u64 i)) := by kernel_rfl
  have e3 : (Rows.laid_unicode_utf8_acceptRanges : DataW Unit) = .agg (glob6.map fun x => .agg [.lit (.int .u8 x.1), .lit (.int .u8 x.2.1)]) := by kernel_rfl
  have e4 : (Rows.laid_strconv_ErrRange : DataW Unit) = .iface "*errors.errorString" (.ptr (.agg [.lit (.string [118, 97, 108, 117, 101, 32, 111, 117, 116, 32, 111, 102, 32, 114, 97, 110, 103, 101])])) := by kernel_rfl
  have e5 : (Rows.laid_strconv_ErrSyntax : DataW Unit) = .iface "*errors.errorString" (.ptr (.agg [.lit (.string [105, 110, 118, 97, 108, 105, 100, 32, 115, 121, 110, 116, 97, 120])])) := by kernel_rfl
  have e6 : (Rows.laid_porter_opcode_forms : DataW Unit) = .agg (glob0.map z1q4) := by kernel_rfl
  have e7 : (Rows.laid_unicode_utf8_first : DataW Unit) = .agg (glob5.map fun i => .lit (.int .u8 i)) := by kernel_rfl
  have hv := z1px h
  rw [show Rows.opcodeScriptsRow.laid = [("math/bits.deBruijn32tab", .agg (tab7.map fun i => .lit (.int .u8 i))), ("math/bits.deBruijn64tab", .agg (tab8.map fun i => .lit (.int .u8 i))), ("internal/strconv.uint64pow10", .agg (glob4.map fun i => .lit (.int .u64 i))), ("unicode/utf8.acceptRanges", .agg (glob6.map fun x => .agg [.lit (.int .u8 x.1), .lit (.int .u8 x.2.1)])), ("strconv.ErrRange", .iface "*errors.errorString" (.ptr (.agg [.lit (.string [118, 97, 108, 117, 101, 32, 111, 117, 116, 32, 111, 102, 32, 114, 97, 110, 103, 101])]))), ("strconv.ErrSyntax", .iface "*errors.errorString" (.ptr (.agg [.lit (.string [105, 110, 118, 97, 108, 105, 100, 32, 115, 121, 110, 116, 97, 120])]))), ("porter/opcode.forms", .agg (glob0.map z1q4)), ("unicode/utf8.first", .agg (glob5.map fun i => .lit (.int .u8 i)))] by rw [<- e0, <- e1, <- e2, <- e3, <- e4, <- e5, <- e6, <- e7]; rfl] at hv
  have w0 := z1cu hv
  have w1 := z1cu w0
  obtain ⟨t2, w2⟩ := z1ft (P := Tryz.prog) (W := W) (name := "internal/strconv.uint64pow10") (g := 4) (k := .u64) (n := 20) (ns := glob4) (by kernel_rfl) (t := 128) (by kernel_rfl) (e := 110) (by kernel_rfl) (by kernel_rfl) (by kernel_rfl) (by kernel_rfl) w1
  obtain ⟨t3, w3⟩ := z1l4 (P := Tryz.prog) (W := W) (name := "unicode/utf8.acceptRanges") (g := 6) (k := .u8) (n := 16) (l := glob6) (t := 135) (e := 134) (f0 := Go.Field.mk "lo" 5 0 false "" "unicode/utf8" 0) (f1 := Go.Field.mk "hi" 5 1 false "" "unicode/utf8" 1) (by kernel_rfl) (by kernel_rfl) (by kernel_rfl) (by kernel_rfl) (by kernel_rfl) (by kernel_rfl) rfl rfl (by kernel_rfl) (by kernel_rfl) (by kernel_rfl) (by kernel_rfl) w2
  obtain ⟨t4, w4⟩ := z1jm (P := Tryz.prog) (W := W) (name := "strconv.ErrRange") (nm := "*errors.errorString") (g := 3) (ti := 45) (tp := 124) (te := 126) (ts := 9) (f := Go.Field.mk "s" 9 0 false "" "errors" 0) (ms := #[("Error", 48)]) (by kernel_rfl) (by kernel_rfl) (by kernel_rfl) errRow (by kernel_rfl) (by kernel_rfl) rfl rfl (by kernel_rfl) (by kernel_rfl) (by kernel_rfl) w3
  obtain ⟨t5, w5⟩ := z1jm (P := Tryz.prog) (W := W) (name := "strconv.ErrSyntax") (nm := "*errors.errorString") (g := 2) (ti := 45) (tp := 124) (te := 126) (ts := 9) (f := Go.Field.mk "s" 9 0 false "" "errors" 0) (ms := #[("Error", 48)]) (by kernel_rfl) (by kernel_rfl) (by kernel_rfl) errRow (by kernel_rfl) (by kernel_rfl) rfl rfl (by kernel_rfl) (by kernel_rfl) (by kernel_rfl) w4
  obtain ⟨t6, w6⟩ := z1l5 (P := Tryz.prog) (W := W) (name := "porter/opcode.forms") (g := 0) (n := 9) (l := glob0) (t := 70) (e := 55) (f0 := Go.Field.mk "command" 9 0 false "" "porter/opcode" 0) (f1 := Go.Field.mk "kind" 3 1 false "" "porter/opcode" 16) (f2 := Go.Field.mk "tenant" 4 2 false "" "porter/opcode" 24) (f3 := Go.Field.mk "text" 4 3 false "" "porter/opcode" 25) (f4 := Go.Field.mk "num" 4 4 false "" "porter/opcode" 26) (f5 := Go.Field.mk "words" 4 5 false "" "porter/opcode" 27) (by kernel_rfl) (by kernel_rfl) (by kernel_rfl) (by kernel_rfl) (by kernel_rfl) (by kernel_rfl) (by kernel_rfl) (by kernel_rfl) (by kernel_rfl) (by kernel_rfl) rfl rfl rfl rfl rfl rfl (by kernel_rfl) (by kernel_rfl) (by kernel_rfl) (by kernel_rfl) (by kernel_rfl) (by kernel_rfl) (by kernel_rfl) (by kernel_rfl) w5
  obtain ⟨t7, w7⟩ := z1ft (P := Tryz.prog) (W := W) (name := "unicode/utf8.first") (g := 5) (k := .u8) (n := 256) (ns := glob5) (by kernel_rfl) (t := 132) (by kernel_rfl) (e := 5) (by kernel_rfl) (by kernel_rfl) (by kernel_rfl) (by kernel_rfl) w6
  intro g d e
  by_cases hg2 : g = 4
  . subst hg2
    obtain rfl := Option.some.inj (show some _ = some d from e)
    exact t2
  by_cases hg3 : g = 6
  . subst hg3
    obtain rfl := Option.some.inj (show some _ = some d from e)
    exact t3
  by_cases hg4 : g = 3
  . subst hg4
    obtain rfl := Option.some.inj (show some _ = some d from e)
    exact t4
  by_cases hg5 : g = 2
  . subst hg5
    obtain rfl := Option.some.inj (show some _ = some d from e)
    exact t5
  by_cases hg6 : g = 0
  . subst hg6
    obtain rfl := Option.some.inj (show some _ = some d from e)
    exact t6
  by_cases hg7 : g = 5
  . subst hg7
    obtain rfl := Option.some.inj (show some _ = some d from e)
    exact t7
  have hn : ∀ x, x ≠ g -> Nat.beq x g = false := fun x hx => by
    cases hb : Nat.beq x g with
    | true => exact absurd (Nat.eq_of_beq_eq_true hb) hx
    | false => rfl
  have hnone : glob g = none := by
    simp only [glob, lk, hn 4 (Ne.symm hg2), hn 6 (Ne.symm hg3), hn 3 (Ne.symm hg4), hn 2 (Ne.symm hg5), hn 0 (Ne.symm hg6), hn 5 (Ne.symm hg7)]
  rw [hnone] at e; cases e

set_option maxRecDepth 100000 in
theorem lifted (os : Os) (started : os.Started) (H : Type) (enc : TypeId × Value -> H) :
    ReturnsInHanded {} Tryz.checked os 3 .any (fun w args => (Rows.opcodeScriptsSpec.pre enc Tryz.prog Tryz.f3 [] false w args /\ laidMet Tryz.prog Rows.opcodeScriptsRow.laid w) /\ sizedMet enc Tryz.prog Tryz.f3 (OpenSpec.ofChange Rows.opcodeScriptsSpec) false w args)
      (Rows.opcodeScriptsSpec.post enc Tryz.prog Tryz.f3 false true false false) := by
  refine returnsInHanded_of_change_and (C := Tryz.checked) (X := fun w _ => laidMet Tryz.prog Rows.opcodeScriptsRow.laid w) (fun _ _ _ hh h => h.of_heap hh) own started (by kernel_rfl) Tryz.func3
    (ChangeSpec.witness_at (enc := enc) (C := Tryz.checked) (os := os) (X := fun w _ => laidMet Tryz.prog Rows.opcodeScriptsRow.laid w) false (z1fu os) #[.slice none 0 0, .string ⟨#[]⟩] 8 rfl (by kernel_rfl) (by kernel_rfl) (by kernel_rfl) (by kernel_rfl) (by kernel_rfl) (laidWorld_met os _)) ?_
  intro W base args ds gs before hval0 hW _ _ hL _
  have hval : ∀ (j : Nat) t v, Tryz.f3.params[j]? = some t -> args[j]? = some v -> Value.okWide Tryz.prog W .any base t v := hval0
  have hW' := hW
  obtain ⟨p, q, hA0, hV, rfl, hfz, hnd⟩ := hW
  have hA : DataW.TrodAll enc Tryz.prog W 0 (fun _ => true) true Tryz.f3.params.toList args.toList ds p := hA0
  obtain ⟨rfl, rfl⟩ := trodVars_none hV
  have hA1 := hA
  have hc := z1nm (us := [.sl (.pair (.int .i64) (.pair .str (.pair (.int .i64) (.pair .str (.pair (.sl .str) .unit))))), .str]) (F := fun N x => z28 N x.1 x.2.1) (ts := Tryz.f3.params.toList) (by kernel_rfl) zj2 plain (globOk hL) (fun j t v ht hv => hval j t v (by simpa using ht) hv) hA1
  rw [Tryz.params3] at hA
  obtain ⟨v0, vs0, d0, ds0, p0, q0, hargs, rfl, rfl, h0, r0⟩ := trodAll_cons hA
  obtain ⟨v1, vs1, d1, ds1, p1, q1, rfl, rfl, rfl, h1, r1⟩ := trodAll_cons r0
  obtain ⟨rfl, rfl, rfl⟩ := trodAll_nil r1
  refine hc.mono fun e W' ⟨he, bel⟩ => ?_
  subst he
  exact ⟨_, rfl, _, _, _, [], _, [], hW', trodAll_mk1 (shut_bool Tryz.underlying4 _), z11w laidOut bel (by kernel_rfl) hA1, rfl, bel.frame _, fun h => by cases h⟩

theorem over : Rows.opcodeScriptsRow.holds Tryz.pinned (OpenSpec.ofChange Rows.opcodeScriptsSpec) :=
  OpenClaim.holds_of_wide 3 Tryz.f3 rfl rfl rfl rfl rfl rfl rfl ⟨rfl, rfl, rfl, rfl, rfl⟩ rfl rfl rfl rfl rfl (by kernel_rfl) Tryz.func3 (by kernel_rfl)
    (of_decide_eq_true (by kernel_rfl)) (by unfold Func.isWrapper; first | (rw [if_pos (by decide +kernel)]; kernel_rfl) | (rw [if_neg (by decide +kernel)]; exact ⟨rfl, rfl⟩))
    (fun os started H enc _ => lifted os started H enc)

/-- THE STATEMENT -/
theorem proved : Rows.OpcodeScriptsCardSaid :=
  Claim7.holds_tied_plain_at .later [] [.data, .data, .data, .data, .sentinel, .sentinel, .data, .pinned] true Rows.opcodeScriptsCard.stood.harness Rows.opcodeScriptsCard.stood.looks
    over (fun _ h => by cases h) (by kernel_rfl) (fun _ h => by cases h) opcodeScripts_row_tie rfl ⟨rfl, rfl⟩ (by kernel_rfl) rfl
    (fun f fn hf hfn => by
      obtain rfl : f = 3 := Option.some.inj ((show Tryz.prog.funcNamed Rows.opcodeScriptsRow.func = some 3 by kernel_rfl).symm.trans hf) |>.symm
      obtain rfl : fn = Tryz.f3 := (Option.some.inj (Tryz.func3.symm.trans hfn)).symm
      refine ⟨by kernel_rfl, fun j t ht => ?_⟩
      have hm : t ∈ Tryz.f3.params.toList := List.mem_of_getElem? (by simpa using ht)
      have hall : (Tryz.f3.params.toList.all fun t => Tryz.prog.wantsStandIn t == false) = true := by kernel_rfl
      exact eq_of_beq (List.all_eq_true.1 hall t hm))
    (by kernel_rfl)
end Go.Proofs.YtkkkgfmjjkpjdaaGreatDoor.opcodeScripts
