import Derived.Test.YtbfmhambfonpcaaDoorLgPrRr3
import Derived.Test.YtbfmhambfonpcaaDoorLgPn
import Derived.Test.YtbfmhambfonpcaaDoorLgPrRr4
import Derived.WalkKit
import Derived.Tactics
import Derived.Tactics2
import Derived.Defers
import Derived.Lib.Hide
import Derived.Below
import Derived.Recover
import Derived.Orders
import Derived.WalkSmall
import Derived.LoopN
import Derived.Test.YtbfmhambfonpcaaDoorChecked
import Derived.KernelRfl
set_option linter.all false
set_option maxRecDepth 100000
namespace Go.Proofs.YtbfmhambfonpcaaDoorLg
open Go Go.Lift

abbrev PrsT : T := .pair .str (.pair (.int .i64) (.pair (.int .i64) .unit))

theorem fail_walk {w : World} {v : Value} {e at_ : Int} :
    Calls Tryd.prog 20 #[v, .int .i64 e, .int .i64 at_] w fun r w' => r = .panicked [{ v := .iface 36 (.agg #[.int .i64 e, .int .i64 at_]), recovered := false }] ∧ w' = w := by
  go_enter Tryd.func20, Tryd.ntmps20
  go_wp2
  exact ⟨rfl, rfl, rfl⟩

noncomputable def regex_parser_fail_flt_res (N : Nat) : List A → PnRes := pnOf [(0, .box (.pair .str (.pair (.int .i64) (.pair (.int .i64) .unit)))), (0, .v (.int .i64)), (0, .v (.int .i64))] (fun x => some ((x.2.1, (x.2.2.1, ())) : Int × (Int × Unit))) (fun z => ⟨.pair (.int .i64) (.pair (.int .i64) .unit), z⟩)

theorem regex_parser_fail_flt_ct (N : Nat) : ContractP Tryd.prog glob 20 36 (regex_parser_fail_flt_res N) := by
  refine ContractP.hand ⟨_, Tryd.func20, by kernel_rfl, by decide⟩ ?_
  intro w S vals ob x y har hS hg hy
  obtain ⟨x, n, m, u⟩ := x
  cases u
  obtain ⟨⟨v0, hv0, hA0⟩, _⟩ := har.rel 0 _ rfl
  obtain ⟨⟨v1, hv1, hA1⟩, _⟩ := har.rel 1 _ rfl
  obtain ⟨⟨v2, hv2, hA2⟩, _⟩ := har.rel 2 _ rfl
  have hlen := har.len
  have hvals : vals = [v0, v1, v2] := by
    match vals, hlen with
    | [a, b, c], _ => cases hv0; cases hv1; cases hv2; rfl
  have e1 := VR.int_inv hA1.1
  have e2 := VR.int_inv hA2.1
  subst e1
  subst e2
  subst hvals
  cases hy
  refine fail_walk.mono ?_
  rintro r w' ⟨rfl, rfl⟩
  exact ⟨rfl, WF.refl _ _, hS⟩

noncomputable def regex_parser_next_flt_body : Code := (Go.Proofs.Tryd.f56.body).getD .skip

noncomputable def regex_parser_next_flt_L : List (List Nat × List Nat) := [([0], [0]), ([0, 0, 1], [12, 0]), ([1, 0, 1], [0]), ([0, 1, 0, 1], [0]), ([0, 1, 1], [2, 0]), ([1, 1, 1], [2, 0])]

noncomputable def regex_parser_next_flt_E (N : Nat) : Env := mkEnv tys glob [] [] [] [0] false [] []

theorem regex_parser_next_flt_Eok (N : Nat) : EnvOk Go.Proofs.Tryd.prog (regex_parser_next_flt_E N) := mkEnv_ok mixed tys_ok (FnsOk.nil) (ItsOk.nil)

noncomputable def regex_parser_next_flt_P (N : Nat) : PnT := pnT [(20, 36, regex_parser_fail_flt_res N)]

theorem regex_parser_next_flt_Pok (N : Nat) : PnOk Go.Proofs.Tryd.prog glob (regex_parser_next_flt_P N) := PnOk.cons (regex_parser_fail_flt_ct N) (PnOk.nil)

noncomputable def regex_parser_next_flt_p1 (N : Nat) (p : ((List UInt8) × (Int × (Int × Unit)))) (k0 : (Int × (Int × Unit)) → Option (Int × (Int × Unit))) (k1 : Option (Int × (Int × Unit))) : Option (Int × (Int × Unit)) :=
 cond (p.2.1 == (((List.length p.1) : Nat) : Int))
 (k0 ((1 : Int), (p.2.1, ())))
 (k1)

noncomputable def regex_parser_next_flt_g1 (N : Nat) (x : denS [(0, .box (.pair .str (.pair (.int .i64) (.pair (.int .i64) .unit))))]) (K : ExP → List A → Option (Int × (Int × Unit))) : Option (Int × (Int × Unit)) :=
 regex_parser_next_flt_p1 N x.1 (fun a0 => (K (.pan 36) (mkS [(0, .v (.pair (.int .i64) (.pair (.int .i64) .unit)))] 0 (a0, ())))) (K .normal (mkS [(0, .box (.pair .str (.pair (.int .i64) (.pair (.int .i64) .unit))))] 27 (x.1, ())))

noncomputable def regex_parser_next_flt_h1 (N : Nat) : HdP (Int × (Int × Unit)) := fun st K => (unS [(0, .box (.pair .str (.pair (.int .i64) (.pair (.int .i64) .unit))))] 27 (restr [0] 0 st)).bind fun x => regex_parser_next_flt_g1 N x K

noncomputable def regex_parser_next_flt_t1 (N : Nat) : TabP (Int × (Int × Unit)) := []

theorem regex_parser_next_flt_ok1 {N : Nat} {c : Ctx} (hb : Base Go.Proofs.Tryd.prog (regex_parser_next_flt_E N) c) (hP : PnOk Go.Proofs.Tryd.prog glob (regex_parser_next_flt_P N)) : CodeOkP Go.Proofs.Tryd.prog c (nodeAt regex_parser_next_flt_body [0, 1]) (regex_parser_next_flt_h1 N) :=
  pieceP_ok (s := [(0, .box (.pair .str (.pair (.int .i64) (.pair (.int .i64) .unit))))]) (m := 27) (g := regex_parser_next_flt_g1 N) [0] (evP_sound hb hP N (regex_parser_next_flt_t1 N) regex_parser_next_flt_L regex_parser_next_flt_body TabOkP.nil [0, 1] _ rfl) (fun x K => by kernel_rfl)

noncomputable def regex_parser_next_flt (N : Nat) (p : ((List UInt8) × (Int × (Int × Unit)))) : Option (Int × (Int × Unit)) :=
 regex_parser_next_flt_p1 N p
 (fun p1 => some p1)
 (cond (Go.Lift.inR p.2.1 (List.length p.1))
 (none)
 (none))

noncomputable def regex_parser_next_flt_t (N : Nat) : TabP (Int × (Int × Unit)) := [([0, 1], regex_parser_next_flt_h1 N)]

theorem regex_parser_next_flt_link (N : Nat) (x : denS [(0, .box (.pair .str (.pair (.int .i64) (.pair (.int .i64) .unit))))]) : panFX (regex_parser_next_flt_E N) (regex_parser_next_flt_P N) N (regex_parser_next_flt_t N) regex_parser_next_flt_L Go.Proofs.Tryd.f56 36 (.pair (.int .i64) (.pair (.int .i64) .unit)) (mkS [(0, .box (.pair .str (.pair (.int .i64) (.pair (.int .i64) .unit))))] 0 x) (fun z => some z) = regex_parser_next_flt N x.1 := by kernel_rfl

noncomputable def regex_parser_next_flt_res (N : Nat) : List A → PnRes := pnOf [(0, .box (.pair .str (.pair (.int .i64) (.pair (.int .i64) .unit))))] (fun x => regex_parser_next_flt N x.1) (fun z => ⟨(.pair (.int .i64) (.pair (.int .i64) .unit)), z⟩)

theorem regex_parser_next_flt_ct (N : Nat) : ContractP Go.Proofs.Tryd.prog glob 56 36 (regex_parser_next_flt_res N) :=
  ContractP.of (E := regex_parser_next_flt_E N) (Pn := regex_parser_next_flt_P N) (H := regex_parser_next_flt_t N) (L := regex_parser_next_flt_L) (N := N) (body := regex_parser_next_flt_body) (t := (.pair (.int .i64) (.pair (.int .i64) .unit))) (regex_parser_next_flt_Eok N) (regex_parser_next_flt_Pok N) Go.Proofs.Tryd.func56 (by kernel_rfl) (by decide) (fun _ hb => (TabOkP.cons (regex_parser_next_flt_ok1 hb (regex_parser_next_flt_Pok N)) TabOkP.nil)) (fun x y h => by rw [regex_parser_next_flt_link]; exact h)

noncomputable def regex_parser_need_flt_body : Code := (Go.Proofs.Tryd.f46.body).getD .skip

noncomputable def regex_parser_need_flt_L : List (List Nat × List Nat) := [([0, 0], [7, 0]), ([1, 0], [0]), ([0, 1, 0], [0]), ([1], [0])]

noncomputable def regex_parser_need_flt_E (N : Nat) : Env := mkEnv tys glob [(56, regex_parser_next_res N)] [] [] [0] false [] []

theorem regex_parser_need_flt_Eok (N : Nat) : EnvOk Go.Proofs.Tryd.prog (regex_parser_need_flt_E N) := mkEnv_ok mixed tys_ok (FnsOk.cons (regex_parser_next_ct N) (FnsOk.nil)) (ItsOk.nil)

noncomputable def regex_parser_need_flt_P (N : Nat) : PnT := pnT [(56, 36, regex_parser_next_flt_res N), (20, 36, regex_parser_fail_flt_res N)]

theorem regex_parser_need_flt_Pok (N : Nat) : PnOk Go.Proofs.Tryd.prog glob (regex_parser_need_flt_P N) := PnOk.cons (regex_parser_next_flt_ct N) (PnOk.cons (regex_parser_fail_flt_ct N) (PnOk.nil))

noncomputable def regex_parser_need_flt_p1 (N : Nat) (p : ((List UInt8) × (Int × (Int × Unit)))) (b : Int) (k0 : (Int × (Int × Unit)) → Option (Int × (Int × Unit))) (k1 : ((List UInt8) × (Int × (Int × Unit))) → Option (Int × (Int × Unit))) : Option (Int × (Int × Unit)) :=
 orP ((regex_parser_next_flt N p)) (fun z => k0 z)
 ((regex_parser_next N p).bind fun y =>
 cond (y.1 != b)
 (k0 ((2 : Int), (y.2.1.2.1, ())))
 (k1 y.2.1))

noncomputable def regex_parser_need_flt_g1 (N : Nat) (x : denS [(0, .box (.pair .str (.pair (.int .i64) (.pair (.int .i64) .unit)))), (0, .v (.int .u8))]) (K : ExP → List A → Option (Int × (Int × Unit))) : Option (Int × (Int × Unit)) :=
 regex_parser_need_flt_p1 N x.1 x.2.1 (fun a0 => (K (.pan 36) (mkS [(0, .v (.pair (.int .i64) (.pair (.int .i64) .unit)))] 0 (a0, ())))) (fun a0 => (K .normal (mkS [(0, .box (.pair .str (.pair (.int .i64) (.pair (.int .i64) .unit))))] 20 (a0, ()))))

noncomputable def regex_parser_need_flt_h1 (N : Nat) : HdP (Int × (Int × Unit)) := fun st K => (unS [(0, .box (.pair .str (.pair (.int .i64) (.pair (.int .i64) .unit)))), (0, .v (.int .u8))] 19 (restr [0, 1] 0 st)).bind fun x => regex_parser_need_flt_g1 N x K

noncomputable def regex_parser_need_flt_t1 (N : Nat) : TabP (Int × (Int × Unit)) := []

theorem regex_parser_need_flt_ok1 {N : Nat} {c : Ctx} (hb : Base Go.Proofs.Tryd.prog (regex_parser_need_flt_E N) c) (hP : PnOk Go.Proofs.Tryd.prog glob (regex_parser_need_flt_P N)) : CodeOkP Go.Proofs.Tryd.prog c (nodeAt regex_parser_need_flt_body [0]) (regex_parser_need_flt_h1 N) :=
  pieceP_ok (s := [(0, .box (.pair .str (.pair (.int .i64) (.pair (.int .i64) .unit)))), (0, .v (.int .u8))]) (m := 19) (g := regex_parser_need_flt_g1 N) [0, 1] (evP_sound hb hP N (regex_parser_need_flt_t1 N) regex_parser_need_flt_L regex_parser_need_flt_body TabOkP.nil [0] _ rfl) (fun x K => by kernel_rfl)

noncomputable def regex_parser_need_flt (N : Nat) (p : ((List UInt8) × (Int × (Int × Unit)))) (b : Int) : Option (Int × (Int × Unit)) :=
 regex_parser_need_flt_p1 N p b
 (fun p1 => some p1)
 (fun p2 => none)

noncomputable def regex_parser_need_flt_t (N : Nat) : TabP (Int × (Int × Unit)) := [([0], regex_parser_need_flt_h1 N)]

theorem regex_parser_need_flt_link (N : Nat) (x : denS [(0, .box (.pair .str (.pair (.int .i64) (.pair (.int .i64) .unit)))), (0, .v (.int .u8))]) : panFX (regex_parser_need_flt_E N) (regex_parser_need_flt_P N) N (regex_parser_need_flt_t N) regex_parser_need_flt_L Go.Proofs.Tryd.f46 36 (.pair (.int .i64) (.pair (.int .i64) .unit)) (mkS [(0, .box (.pair .str (.pair (.int .i64) (.pair (.int .i64) .unit)))), (0, .v (.int .u8))] 0 x) (fun z => some z) = regex_parser_need_flt N x.1 x.2.1 := by kernel_rfl

noncomputable def regex_parser_need_flt_res (N : Nat) : List A → PnRes := pnOf [(0, .box (.pair .str (.pair (.int .i64) (.pair (.int .i64) .unit)))), (0, .v (.int .u8))] (fun x => regex_parser_need_flt N x.1 x.2.1) (fun z => ⟨(.pair (.int .i64) (.pair (.int .i64) .unit)), z⟩)

theorem regex_parser_need_flt_ct (N : Nat) : ContractP Go.Proofs.Tryd.prog glob 46 36 (regex_parser_need_flt_res N) :=
  ContractP.of (E := regex_parser_need_flt_E N) (Pn := regex_parser_need_flt_P N) (H := regex_parser_need_flt_t N) (L := regex_parser_need_flt_L) (N := N) (body := regex_parser_need_flt_body) (t := (.pair (.int .i64) (.pair (.int .i64) .unit))) (regex_parser_need_flt_Eok N) (regex_parser_need_flt_Pok N) Go.Proofs.Tryd.func46 (by kernel_rfl) (by decide) (fun _ hb => (TabOkP.cons (regex_parser_need_flt_ok1 hb (regex_parser_need_flt_Pok N)) TabOkP.nil)) (fun x y h => by rw [regex_parser_need_flt_link]; exact h)

noncomputable def regex_parser_num_flt_body : Code := (Go.Proofs.Tryd.f45.body).getD .skip

noncomputable def regex_parser_num_flt_L : List (List Nat × List Nat) := [([0], [0]), ([0, 1], [0, 3]), ([0, 0, 1, 1], [12, 0, 3]), ([1, 0, 1, 1], [0, 3]), ([0, 1, 0, 1, 1], [0, 3]), ([0, 1, 1, 1], [0, 4, 3]), ([0, 0, 1, 1, 1, 1], [0, 4, 3]), ([0, 0, 0, 0, 0, 1, 1, 1, 1], [37, 4, 0, 3]), ([1, 0, 0, 0, 0, 1, 1, 1, 1], [4, 0, 3]), ([1, 1, 0, 0, 0, 0, 1, 1, 1, 1], [0, 3, 4]), ([0, 0, 1, 0, 0, 0, 1, 1, 1, 1], [0, 4, 3]), ([1, 0, 1, 0, 0, 0, 1, 1, 1, 1], [0, 4, 3]), ([1, 0, 0, 0, 1, 1, 1, 1], [0, 4, 3]), ([0, 1, 1, 1, 1], [0, 3, 4]), ([0, 0, 1, 1, 1, 1, 1], [75, 0, 3, 4]), ([1, 0, 1, 1, 1, 1, 1], [4, 0, 3]), ([0, 1, 0, 1, 1, 1, 1, 1], [4, 0, 3]), ([0, 0, 1, 1, 1, 1, 1, 1], [80, 0, 3, 4]), ([1, 0, 1, 1, 1, 1, 1, 1], [4, 0]), ([0, 1, 0, 1, 1, 1, 1, 1, 1], [4, 0]), ([0, 1, 1, 1, 1, 1, 1, 1], [2, 0]), ([1, 1, 1, 1, 1, 1, 1, 1], [2, 0])]

noncomputable def regex_parser_num_flt_E (N : Nat) : Env := mkEnv tys glob [(56, regex_parser_next_res N), (60, regex_digit_res N)] [] [] [0] false [] []

theorem regex_parser_num_flt_Eok (N : Nat) : EnvOk Go.Proofs.Tryd.prog (regex_parser_num_flt_E N) := mkEnv_ok mixed tys_ok (FnsOk.cons (regex_parser_next_ct N) (FnsOk.cons (regex_digit_ct N) (FnsOk.nil))) (ItsOk.nil)

noncomputable def regex_parser_num_flt_P (N : Nat) : PnT := pnT [(56, 36, regex_parser_next_flt_res N), (20, 36, regex_parser_fail_flt_res N)]

theorem regex_parser_num_flt_Pok (N : Nat) : PnOk Go.Proofs.Tryd.prog glob (regex_parser_num_flt_P N) := PnOk.cons (regex_parser_next_flt_ct N) (PnOk.cons (regex_parser_fail_flt_ct N) (PnOk.nil))

noncomputable def regex_parser_num_flt_p1 (N : Nat) (p : ((List UInt8) × (Int × (Int × Unit)))) (from_ : Int) (k0 : (Int × (Int × Unit)) → Option (Int × (Int × Unit))) (k1 : ((List UInt8) × (Int × (Int × Unit))) → Option (Int × (Int × Unit))) : Option (Int × (Int × Unit)) :=
 orP ((regex_parser_next_flt N p)) (fun z => k0 z)
 ((regex_parser_next N p).bind fun y =>
 (regex_digit N y.1).bind fun y1 =>
 cond (!y1)
 (k0 ((2 : Int), (from_, ())))
 (k1 y.2.1))

noncomputable def regex_parser_num_flt_g1 (N : Nat) (x : denS [(0, .box (.pair .str (.pair (.int .i64) (.pair (.int .i64) .unit)))), (2, .v (.int .i64))]) (K : ExP → List A → Option (Int × (Int × Unit))) : Option (Int × (Int × Unit)) :=
 regex_parser_num_flt_p1 N x.1 x.2.1 (fun a0 => (K (.pan 36) (mkS [(0, .v (.pair (.int .i64) (.pair (.int .i64) .unit)))] 0 (a0, ())))) (fun a0 => (K .normal (mkS [(0, .box (.pair .str (.pair (.int .i64) (.pair (.int .i64) .unit)))), (2, .v (.int .i64))] 81 (a0, x.2.1, ()))))

noncomputable def regex_parser_num_flt_h1 (N : Nat) : HdP (Int × (Int × Unit)) := fun st K => (unS [(0, .box (.pair .str (.pair (.int .i64) (.pair (.int .i64) .unit)))), (2, .v (.int .i64))] 81 (restr [0, 3] 0 st)).bind fun x => regex_parser_num_flt_g1 N x K

noncomputable def regex_parser_num_flt_t1 (N : Nat) : TabP (Int × (Int × Unit)) := []

theorem regex_parser_num_flt_ok1 {N : Nat} {c : Ctx} (hb : Base Go.Proofs.Tryd.prog (regex_parser_num_flt_E N) c) (hP : PnOk Go.Proofs.Tryd.prog glob (regex_parser_num_flt_P N)) : CodeOkP Go.Proofs.Tryd.prog c (nodeAt regex_parser_num_flt_body [0, 1, 1]) (regex_parser_num_flt_h1 N) :=
  pieceP_ok (s := [(0, .box (.pair .str (.pair (.int .i64) (.pair (.int .i64) .unit)))), (2, .v (.int .i64))]) (m := 81) (g := regex_parser_num_flt_g1 N) [0, 3] (evP_sound hb hP N (regex_parser_num_flt_t1 N) regex_parser_num_flt_L regex_parser_num_flt_body TabOkP.nil [0, 1, 1] _ rfl) (fun x K => by kernel_rfl)

noncomputable def regex_parser_num_flt_p4 (N : Nat) (p : ((List UInt8) × (Int × (Int × Unit)))) (from_ : Int) (n : Int) (k0 : Option (Int × (Int × Unit))) (k1 : Option (Int × (Int × Unit))) : Option (Int × (Int × Unit)) :=
 cond (decide (p.2.1 < (((List.length p.1) : Nat) : Int)))
 (cond (Go.Lift.inR p.2.1 (List.length p.1))
 ((regex_digit N (((UInt8.toNat (List.getD p.1 (Int.toNat p.2.1) (0 : UInt8))) : Nat) : Int)).bind fun y =>
 cond y
 (k0)
 (k1))
 (none))
 (k1)

noncomputable def regex_parser_num_flt_g4 (N : Nat) (x : denS [(0, .box (.pair .str (.pair (.int .i64) (.pair (.int .i64) .unit)))), (2, .v (.int .i64)), (0, .v (.int .i64))]) (K : ExP → List A → Option (Int × (Int × Unit))) : Option (Int × (Int × Unit)) :=
 regex_parser_num_flt_p4 N x.1 x.2.1 x.2.2.1 (K .normal (mkS [(0, .box (.pair .str (.pair (.int .i64) (.pair (.int .i64) .unit)))), (2, .v (.int .i64)), (0, .v (.int .i64))] 80 (x.1, x.2.1, x.2.2.1, ()))) (K (.exit 0) (mkS [(0, .box (.pair .str (.pair (.int .i64) (.pair (.int .i64) .unit)))), (2, .v (.int .i64)), (0, .v (.int .i64))] 80 (x.1, x.2.1, x.2.2.1, ())))

noncomputable def regex_parser_num_flt_h4 (N : Nat) : HdP (Int × (Int × Unit)) := fun st K => (unS [(0, .box (.pair .str (.pair (.int .i64) (.pair (.int .i64) .unit)))), (2, .v (.int .i64)), (0, .v (.int .i64))] 80 (restr [0, 4, 3] 0 st)).bind fun x => regex_parser_num_flt_g4 N x K

noncomputable def regex_parser_num_flt_t4 (N : Nat) : TabP (Int × (Int × Unit)) := []

theorem regex_parser_num_flt_ok4 {N : Nat} {c : Ctx} (hb : Base Go.Proofs.Tryd.prog (regex_parser_num_flt_E N) c) (hP : PnOk Go.Proofs.Tryd.prog glob (regex_parser_num_flt_P N)) : CodeOkP Go.Proofs.Tryd.prog c (nodeAt regex_parser_num_flt_body [0, 0, 0, 0, 1, 1, 1, 1]) (regex_parser_num_flt_h4 N) :=
  pieceP_ok (s := [(0, .box (.pair .str (.pair (.int .i64) (.pair (.int .i64) .unit)))), (2, .v (.int .i64)), (0, .v (.int .i64))]) (m := 80) (g := regex_parser_num_flt_g4 N) [0, 4, 3] (evP_sound hb hP N (regex_parser_num_flt_t4 N) regex_parser_num_flt_L regex_parser_num_flt_body TabOkP.nil [0, 0, 0, 0, 1, 1, 1, 1] _ rfl) (fun x K => by kernel_rfl)

noncomputable def regex_parser_num_flt_s3 (N : Nat) (from_ : Int) (p : ((List UInt8) × (Int × (Int × Unit)))) (n : Int) (rec : ((List UInt8) × (Int × (Int × Unit))) → Int → Option (Int × (Int × Unit))) (k0 : ((List UInt8) × (Int × (Int × Unit))) → Int → Option (Int × (Int × Unit))) : Option (Int × (Int × Unit)) :=
 regex_parser_num_flt_p4 N p from_ n
 (cond (Go.Lift.inR p.2.1 (List.length p.1))
 (rec (p.1, ((Go.IntKind.wrap Go.IntKind.i64 (p.2.1 + (1 : Int))), p.2.2)) (if ((17 : Int) < (Go.IntKind.wrap Go.IntKind.i64 ((Go.IntKind.wrap Go.IntKind.i64 ((10 : Int) * n)) + (Go.IntKind.wrap Go.IntKind.i64 (Go.IntKind.wrap Go.IntKind.u8 ((((UInt8.toNat (List.getD p.1 (Int.toNat p.2.1) (0 : UInt8))) : Nat) : Int) - (48 : Int))))))) then (17 : Int) else (Go.IntKind.wrap Go.IntKind.i64 ((Go.IntKind.wrap Go.IntKind.i64 ((10 : Int) * n)) + (Go.IntKind.wrap Go.IntKind.i64 (Go.IntKind.wrap Go.IntKind.u8 ((((UInt8.toNat (List.getD p.1 (Int.toNat p.2.1) (0 : UInt8))) : Nat) : Int) - (48 : Int))))))))
 (none))
 (k0 p n)

noncomputable def regex_parser_num_flt_p3 (N : Nat) (p : ((List UInt8) × (Int × (Int × Unit)))) (from_ : Int) (n : Int) (k0 : ((List UInt8) × (Int × (Int × Unit))) → Int → Option (Int × (Int × Unit))) : Option (Int × (Int × Unit)) :=
 iter (fun (v : (((List UInt8) × (Int × (Int × Unit))) × Int)) r => regex_parser_num_flt_s3 N from_ v.1 v.2 (fun p n => (r (p, n))) k0) N (p, n)

noncomputable def regex_parser_num_flt_g3 (N : Nat) (i : Int) (v : (((List UInt8) × (Int × (Int × Unit))) × Int)) (r : (((List UInt8) × (Int × (Int × Unit))) × Int) → Option (Int × (Int × Unit))) (K : ExP → List A → Option (Int × (Int × Unit))) : Option (Int × (Int × Unit)) :=
 regex_parser_num_flt_s3 N i v.1 v.2 (fun p n => (r (p, n))) (fun a0 a2 => (K (.exit 0) (mkS [(0, .box (.pair .str (.pair (.int .i64) (.pair (.int .i64) .unit)))), (2, .v (.int .i64)), (0, .v (.int .i64))] 80 (a0, i, a2, ()))))

noncomputable def regex_parser_num_flt_h3 (N : Nat) : HdP (Int × (Int × Unit)) := fun st K => (unS [(0, .box (.pair .str (.pair (.int .i64) (.pair (.int .i64) .unit)))), (2, .v (.int .i64)), (0, .v (.int .i64))] 80 (restr [0, 4, 3] 0 st)).bind fun x => iter (fun v r => regex_parser_num_flt_g3 N ((fun x => x.2.1) x) v r K) N ((fun x => (x.1, x.2.2.1)) x)

noncomputable def regex_parser_num_flt_t3 (N : Nat) : TabP (Int × (Int × Unit)) := [([0, 0, 0, 0, 1, 1, 1, 1], regex_parser_num_flt_h4 N)]

theorem regex_parser_num_flt_ok3 {N : Nat} {c : Ctx} (hb : Base Go.Proofs.Tryd.prog (regex_parser_num_flt_E N) c) (hP : PnOk Go.Proofs.Tryd.prog glob (regex_parser_num_flt_P N)) : CodeOkP Go.Proofs.Tryd.prog c (nodeAt regex_parser_num_flt_body [0, 0, 1, 1, 1, 1]) (regex_parser_num_flt_h3 N) :=
  loopP_ok (s := [(0, .box (.pair .str (.pair (.int .i64) (.pair (.int .i64) .unit)))), (2, .v (.int .i64)), (0, .v (.int .i64))]) (m := 80) (regex_parser_num_flt_g3 N) [0, 4, 3] N (fun x => x.2.1) (fun x => (x.1, x.2.2.1)) (fun i v => (v.1, i, v.2, ())) (fun _ => rfl) (evP_sound hb hP N (regex_parser_num_flt_t3 N) regex_parser_num_flt_L regex_parser_num_flt_body (TabOkP.cons (regex_parser_num_flt_ok4 hb hP) TabOkP.nil) [0, 0, 0, 1, 1, 1, 1] _ rfl) (fun i v r K => by kernel_rfl)

noncomputable def regex_parser_num_flt_p2 (N : Nat) (p : ((List UInt8) × (Int × (Int × Unit)))) (from_ : Int) (n : Int) (k0 : ((List UInt8) × (Int × (Int × Unit))) → Int → Option (Int × (Int × Unit))) : Option (Int × (Int × Unit)) :=
 regex_parser_num_flt_p3 N p from_ n
 (fun p1 n1 => k0 p1 n1)

noncomputable def regex_parser_num_flt_g2 (N : Nat) (x : denS [(0, .box (.pair .str (.pair (.int .i64) (.pair (.int .i64) .unit)))), (2, .v (.int .i64)), (0, .v (.int .i64))]) (K : ExP → List A → Option (Int × (Int × Unit))) : Option (Int × (Int × Unit)) :=
 regex_parser_num_flt_p2 N x.1 x.2.1 x.2.2.1 (fun a0 a2 => (K .normal (mkS [(0, .box (.pair .str (.pair (.int .i64) (.pair (.int .i64) .unit)))), (2, .v (.int .i64)), (0, .v (.int .i64))] 80 (a0, x.2.1, a2, ()))))

noncomputable def regex_parser_num_flt_h2 (N : Nat) : HdP (Int × (Int × Unit)) := fun st K => (unS [(0, .box (.pair .str (.pair (.int .i64) (.pair (.int .i64) .unit)))), (2, .v (.int .i64)), (0, .v (.int .i64))] 80 (restr [0, 4, 3] 0 st)).bind fun x => regex_parser_num_flt_g2 N x K

noncomputable def regex_parser_num_flt_t2 (N : Nat) : TabP (Int × (Int × Unit)) := [([0, 0, 1, 1, 1, 1], regex_parser_num_flt_h3 N)]

theorem regex_parser_num_flt_ok2 {N : Nat} {c : Ctx} (hb : Base Go.Proofs.Tryd.prog (regex_parser_num_flt_E N) c) (hP : PnOk Go.Proofs.Tryd.prog glob (regex_parser_num_flt_P N)) : CodeOkP Go.Proofs.Tryd.prog c (nodeAt regex_parser_num_flt_body [0, 1, 1, 1, 1]) (regex_parser_num_flt_h2 N) :=
  pieceP_ok (s := [(0, .box (.pair .str (.pair (.int .i64) (.pair (.int .i64) .unit)))), (2, .v (.int .i64)), (0, .v (.int .i64))]) (m := 80) (g := regex_parser_num_flt_g2 N) [0, 4, 3] (evP_sound hb hP N (regex_parser_num_flt_t2 N) regex_parser_num_flt_L regex_parser_num_flt_body (TabOkP.cons (regex_parser_num_flt_ok3 hb hP) TabOkP.nil) [0, 1, 1, 1, 1] _ rfl) (fun x K => by kernel_rfl)

noncomputable def regex_parser_num_flt_p6 (N : Nat) (p : ((List UInt8) × (Int × (Int × Unit)))) (from_ : Int) (n : Int) (k0 : Bool → Option (Int × (Int × Unit))) : Option (Int × (Int × Unit)) :=
 cond (Go.Lift.inR from_ (List.length p.1))
 (cond ((((UInt8.toNat (List.getD p.1 (Int.toNat from_) (0 : UInt8))) : Nat) : Int) == (48 : Int))
 (k0 (decide ((Go.IntKind.wrap Go.IntKind.i64 (from_ + (1 : Int))) < p.2.1)))
 (k0 false))
 (none)

noncomputable def regex_parser_num_flt_g6 (N : Nat) (x : denS [(0, .box (.pair .str (.pair (.int .i64) (.pair (.int .i64) .unit)))), (2, .v (.int .i64)), (0, .v (.int .i64))]) (K : ExP → List A → Option (Int × (Int × Unit))) : Option (Int × (Int × Unit)) :=
 regex_parser_num_flt_p6 N x.1 x.2.1 x.2.2.1 (fun a3 => (K .normal (mkS [(0, .box (.pair .str (.pair (.int .i64) (.pair (.int .i64) .unit)))), (2, .v (.int .i64)), (0, .v (.int .i64)), (70, .v .bool)] 9 (x.1, x.2.1, x.2.2.1, a3, ()))))

noncomputable def regex_parser_num_flt_h6 (N : Nat) : HdP (Int × (Int × Unit)) := fun st K => (unS [(0, .box (.pair .str (.pair (.int .i64) (.pair (.int .i64) .unit)))), (2, .v (.int .i64)), (0, .v (.int .i64))] 80 (restr [0, 3, 4] 0 st)).bind fun x => regex_parser_num_flt_g6 N x K

noncomputable def regex_parser_num_flt_t6 (N : Nat) : TabP (Int × (Int × Unit)) := []

theorem regex_parser_num_flt_ok6 {N : Nat} {c : Ctx} (hb : Base Go.Proofs.Tryd.prog (regex_parser_num_flt_E N) c) (hP : PnOk Go.Proofs.Tryd.prog glob (regex_parser_num_flt_P N)) : CodeOkP Go.Proofs.Tryd.prog c (nodeAt regex_parser_num_flt_body [0, 0, 1, 1, 1, 1, 1]) (regex_parser_num_flt_h6 N) :=
  pieceP_ok (s := [(0, .box (.pair .str (.pair (.int .i64) (.pair (.int .i64) .unit)))), (2, .v (.int .i64)), (0, .v (.int .i64))]) (m := 80) (g := regex_parser_num_flt_g6 N) [0, 3, 4] (evP_sound hb hP N (regex_parser_num_flt_t6 N) regex_parser_num_flt_L regex_parser_num_flt_body TabOkP.nil [0, 0, 1, 1, 1, 1, 1] _ rfl) (fun x K => by kernel_rfl)

noncomputable def regex_parser_num_flt_p5 (N : Nat) (p : ((List UInt8) × (Int × (Int × Unit)))) (from_ : Int) (n : Int) (k0 : (Int × (Int × Unit)) → Option (Int × (Int × Unit))) (k1 : Option (Int × (Int × Unit))) : Option (Int × (Int × Unit)) :=
 regex_parser_num_flt_p6 N p from_ n
 (fun x75 => cond x75
 (k0 ((2 : Int), (from_, ())))
 (k1))

noncomputable def regex_parser_num_flt_g5 (N : Nat) (x : denS [(0, .box (.pair .str (.pair (.int .i64) (.pair (.int .i64) .unit)))), (2, .v (.int .i64)), (0, .v (.int .i64))]) (K : ExP → List A → Option (Int × (Int × Unit))) : Option (Int × (Int × Unit)) :=
 regex_parser_num_flt_p5 N x.1 x.2.1 x.2.2.1 (fun a0 => (K (.pan 36) (mkS [(0, .v (.pair (.int .i64) (.pair (.int .i64) .unit)))] 0 (a0, ())))) (K .normal (mkS [(0, .box (.pair .str (.pair (.int .i64) (.pair (.int .i64) .unit)))), (2, .v (.int .i64)), (0, .v (.int .i64))] 80 (x.1, x.2.1, x.2.2.1, ())))

noncomputable def regex_parser_num_flt_h5 (N : Nat) : HdP (Int × (Int × Unit)) := fun st K => (unS [(0, .box (.pair .str (.pair (.int .i64) (.pair (.int .i64) .unit)))), (2, .v (.int .i64)), (0, .v (.int .i64))] 80 (restr [0, 3, 4] 0 st)).bind fun x => regex_parser_num_flt_g5 N x K

noncomputable def regex_parser_num_flt_t5 (N : Nat) : TabP (Int × (Int × Unit)) := [([0, 0, 1, 1, 1, 1, 1], regex_parser_num_flt_h6 N)]

theorem regex_parser_num_flt_ok5 {N : Nat} {c : Ctx} (hb : Base Go.Proofs.Tryd.prog (regex_parser_num_flt_E N) c) (hP : PnOk Go.Proofs.Tryd.prog glob (regex_parser_num_flt_P N)) : CodeOkP Go.Proofs.Tryd.prog c (nodeAt regex_parser_num_flt_body [0, 1, 1, 1, 1, 1]) (regex_parser_num_flt_h5 N) :=
  pieceP_ok (s := [(0, .box (.pair .str (.pair (.int .i64) (.pair (.int .i64) .unit)))), (2, .v (.int .i64)), (0, .v (.int .i64))]) (m := 80) (g := regex_parser_num_flt_g5 N) [0, 3, 4] (evP_sound hb hP N (regex_parser_num_flt_t5 N) regex_parser_num_flt_L regex_parser_num_flt_body (TabOkP.cons (regex_parser_num_flt_ok6 hb hP) TabOkP.nil) [0, 1, 1, 1, 1, 1] _ rfl) (fun x K => by kernel_rfl)

noncomputable def regex_parser_num_flt (N : Nat) (p : ((List UInt8) × (Int × (Int × Unit)))) : Option (Int × (Int × Unit)) :=
 regex_parser_num_flt_p1 N p p.2.1
 (fun p1 => some p1)
 (fun p2 => regex_parser_num_flt_p2 N p2 p.2.1 (0 : Int)
 (fun p3 n => regex_parser_num_flt_p5 N p3 p.2.1 n
 (fun p4 => some p4)
 (cond (decide ((16 : Int) < n))
 (some ((3 : Int), (p.2.1, ())))
 (none))))

noncomputable def regex_parser_num_flt_t (N : Nat) : TabP (Int × (Int × Unit)) := [([0, 1, 1], regex_parser_num_flt_h1 N), ([0, 1, 1, 1, 1], regex_parser_num_flt_h2 N), ([0, 1, 1, 1, 1, 1], regex_parser_num_flt_h5 N)]

theorem regex_parser_num_flt_link (N : Nat) (x : denS [(0, .box (.pair .str (.pair (.int .i64) (.pair (.int .i64) .unit))))]) : panFX (regex_parser_num_flt_E N) (regex_parser_num_flt_P N) N (regex_parser_num_flt_t N) regex_parser_num_flt_L Go.Proofs.Tryd.f45 36 (.pair (.int .i64) (.pair (.int .i64) .unit)) (mkS [(0, .box (.pair .str (.pair (.int .i64) (.pair (.int .i64) .unit))))] 0 x) (fun z => some z) = regex_parser_num_flt N x.1 := by kernel_rfl

noncomputable def regex_parser_num_flt_res (N : Nat) : List A → PnRes := pnOf [(0, .box (.pair .str (.pair (.int .i64) (.pair (.int .i64) .unit))))] (fun x => regex_parser_num_flt N x.1) (fun z => ⟨(.pair (.int .i64) (.pair (.int .i64) .unit)), z⟩)

theorem regex_parser_num_flt_ct (N : Nat) : ContractP Go.Proofs.Tryd.prog glob 45 36 (regex_parser_num_flt_res N) :=
  ContractP.of (E := regex_parser_num_flt_E N) (Pn := regex_parser_num_flt_P N) (H := regex_parser_num_flt_t N) (L := regex_parser_num_flt_L) (N := N) (body := regex_parser_num_flt_body) (t := (.pair (.int .i64) (.pair (.int .i64) .unit))) (regex_parser_num_flt_Eok N) (regex_parser_num_flt_Pok N) Go.Proofs.Tryd.func45 (by kernel_rfl) (by decide) (fun _ hb => (TabOkP.cons (regex_parser_num_flt_ok1 hb (regex_parser_num_flt_Pok N)) (TabOkP.cons (regex_parser_num_flt_ok2 hb (regex_parser_num_flt_Pok N)) (TabOkP.cons (regex_parser_num_flt_ok5 hb (regex_parser_num_flt_Pok N)) TabOkP.nil)))) (fun x y h => by rw [regex_parser_num_flt_link]; exact h)

noncomputable def regex_parser_hex_flt_body : Code := (Go.Proofs.Tryd.f58.body).getD .skip

noncomputable def regex_parser_hex_flt_L : List (List Nat × List Nat) := [([0], [0, 1]), ([0, 1], [0, 5, 1]), ([0, 1, 1], [5, 0, 1]), ([0, 0, 1, 1, 1], [16, 5, 0, 1]), ([1, 0, 1, 1, 1], [5, 0, 1]), ([0, 0, 1, 0, 1, 1, 1], [4, 0]), ([1, 0, 1, 0, 1, 1, 1], [4, 0]), ([0, 0, 1, 1, 1, 1], [24, 0, 1, 5]), ([1, 0, 1, 1, 1, 1], [5, 0]), ([0, 1, 0, 1, 1, 1, 1], [5, 0]), ([0, 1, 1, 1, 1, 1], [4, 0]), ([1, 1, 1, 1, 1, 1], [4, 0])]

noncomputable def regex_parser_hex_flt_E (N : Nat) : Env := mkEnv tys glob [(56, regex_parser_next_res N), (60, regex_digit_res N)] [] [] [0] false [] []

theorem regex_parser_hex_flt_Eok (N : Nat) : EnvOk Go.Proofs.Tryd.prog (regex_parser_hex_flt_E N) := mkEnv_ok mixed tys_ok (FnsOk.cons (regex_parser_next_ct N) (FnsOk.cons (regex_digit_ct N) (FnsOk.nil))) (ItsOk.nil)

noncomputable def regex_parser_hex_flt_P (N : Nat) : PnT := pnT [(56, 36, regex_parser_next_flt_res N), (20, 36, regex_parser_fail_flt_res N)]

theorem regex_parser_hex_flt_Pok (N : Nat) : PnOk Go.Proofs.Tryd.prog glob (regex_parser_hex_flt_P N) := PnOk.cons (regex_parser_next_flt_ct N) (PnOk.cons (regex_parser_fail_flt_ct N) (PnOk.nil))

noncomputable def regex_parser_hex_flt_p2 (N : Nat) (p : ((List UInt8) × (Int × (Int × Unit)))) (from_ : Int) (b : Int) (k0 : Bool → Option (Int × (Int × Unit))) : Option (Int × (Int × Unit)) :=
 cond (decide (b < (97 : Int)))
 (k0 true)
 (k0 (decide ((102 : Int) < b)))

noncomputable def regex_parser_hex_flt_g2 (N : Nat) (x : denS [(0, .box (.pair .str (.pair (.int .i64) (.pair (.int .i64) .unit)))), (0, .v (.int .i64)), (3, .v (.int .u8))]) (K : ExP → List A → Option (Int × (Int × Unit))) : Option (Int × (Int × Unit)) :=
 regex_parser_hex_flt_p2 N x.1 x.2.1 x.2.2.1 (fun a3 => (K .normal (mkS [(0, .box (.pair .str (.pair (.int .i64) (.pair (.int .i64) .unit)))), (0, .v (.int .i64)), (3, .v (.int .u8)), (18, .v .bool)] 6 (x.1, x.2.1, x.2.2.1, a3, ()))))

noncomputable def regex_parser_hex_flt_h2 (N : Nat) : HdP (Int × (Int × Unit)) := fun st K => (unS [(0, .box (.pair .str (.pair (.int .i64) (.pair (.int .i64) .unit)))), (0, .v (.int .i64)), (3, .v (.int .u8))] 25 (restr [5, 0, 1] 0 st)).bind fun x => regex_parser_hex_flt_g2 N x K

noncomputable def regex_parser_hex_flt_t2 (N : Nat) : TabP (Int × (Int × Unit)) := []

theorem regex_parser_hex_flt_ok2 {N : Nat} {c : Ctx} (hb : Base Go.Proofs.Tryd.prog (regex_parser_hex_flt_E N) c) (hP : PnOk Go.Proofs.Tryd.prog glob (regex_parser_hex_flt_P N)) : CodeOkP Go.Proofs.Tryd.prog c (nodeAt regex_parser_hex_flt_body [0, 0, 1, 1, 1, 1]) (regex_parser_hex_flt_h2 N) :=
  pieceP_ok (s := [(0, .box (.pair .str (.pair (.int .i64) (.pair (.int .i64) .unit)))), (0, .v (.int .i64)), (3, .v (.int .u8))]) (m := 25) (g := regex_parser_hex_flt_g2 N) [5, 0, 1] (evP_sound hb hP N (regex_parser_hex_flt_t2 N) regex_parser_hex_flt_L regex_parser_hex_flt_body TabOkP.nil [0, 0, 1, 1, 1, 1] _ rfl) (fun x K => by kernel_rfl)

noncomputable def regex_parser_hex_flt_p1 (N : Nat) (p : ((List UInt8) × (Int × (Int × Unit)))) (from_ : Int) (b : Int) (k0 : (Int × (Int × Unit)) → Option (Int × (Int × Unit))) (k1 : Option (Int × (Int × Unit))) : Option (Int × (Int × Unit)) :=
 regex_parser_hex_flt_p2 N p from_ b
 (fun x24 => cond x24
 (k0 ((2 : Int), (from_, ())))
 (k1))

noncomputable def regex_parser_hex_flt_g1 (N : Nat) (x : denS [(0, .box (.pair .str (.pair (.int .i64) (.pair (.int .i64) .unit)))), (0, .v (.int .i64)), (3, .v (.int .u8))]) (K : ExP → List A → Option (Int × (Int × Unit))) : Option (Int × (Int × Unit)) :=
 regex_parser_hex_flt_p1 N x.1 x.2.1 x.2.2.1 (fun a0 => (K (.pan 36) (mkS [(0, .v (.pair (.int .i64) (.pair (.int .i64) .unit)))] 0 (a0, ())))) (K .normal (mkS [(0, .box (.pair .str (.pair (.int .i64) (.pair (.int .i64) .unit)))), (4, .v (.int .u8))] 25 (x.1, x.2.2.1, ())))

noncomputable def regex_parser_hex_flt_h1 (N : Nat) : HdP (Int × (Int × Unit)) := fun st K => (unS [(0, .box (.pair .str (.pair (.int .i64) (.pair (.int .i64) .unit)))), (0, .v (.int .i64)), (3, .v (.int .u8))] 25 (restr [5, 0, 1] 0 st)).bind fun x => regex_parser_hex_flt_g1 N x K

noncomputable def regex_parser_hex_flt_t1 (N : Nat) : TabP (Int × (Int × Unit)) := [([0, 0, 1, 1, 1, 1], regex_parser_hex_flt_h2 N)]

theorem regex_parser_hex_flt_ok1 {N : Nat} {c : Ctx} (hb : Base Go.Proofs.Tryd.prog (regex_parser_hex_flt_E N) c) (hP : PnOk Go.Proofs.Tryd.prog glob (regex_parser_hex_flt_P N)) : CodeOkP Go.Proofs.Tryd.prog c (nodeAt regex_parser_hex_flt_body [0, 1, 1, 1, 1]) (regex_parser_hex_flt_h1 N) :=
  pieceP_ok (s := [(0, .box (.pair .str (.pair (.int .i64) (.pair (.int .i64) .unit)))), (0, .v (.int .i64)), (3, .v (.int .u8))]) (m := 25) (g := regex_parser_hex_flt_g1 N) [5, 0, 1] (evP_sound hb hP N (regex_parser_hex_flt_t1 N) regex_parser_hex_flt_L regex_parser_hex_flt_body (TabOkP.cons (regex_parser_hex_flt_ok2 hb hP) TabOkP.nil) [0, 1, 1, 1, 1] _ rfl) (fun x K => by kernel_rfl)

noncomputable def regex_parser_hex_flt (N : Nat) (p : ((List UInt8) × (Int × (Int × Unit)))) (from_ : Int) : Option (Int × (Int × Unit)) :=
 orP ((regex_parser_next_flt N p)) (fun z => some z)
 ((regex_parser_next N p).bind fun y =>
 (regex_digit N y.1).bind fun y1 =>
 cond y1
 (none)
 (regex_parser_hex_flt_p1 N (y.2.1.1, ((Go.IntKind.wrap Go.IntKind.i64 (y.2.1.2.1 + (1 : Int))), y.2.1.2.2)) from_ y.1
 (fun p1 => some p1)
 (none)))

noncomputable def regex_parser_hex_flt_t (N : Nat) : TabP (Int × (Int × Unit)) := [([0, 1, 1, 1, 1], regex_parser_hex_flt_h1 N)]

theorem regex_parser_hex_flt_link (N : Nat) (x : denS [(0, .box (.pair .str (.pair (.int .i64) (.pair (.int .i64) .unit)))), (0, .v (.int .i64))]) : panFX (regex_parser_hex_flt_E N) (regex_parser_hex_flt_P N) N (regex_parser_hex_flt_t N) regex_parser_hex_flt_L Go.Proofs.Tryd.f58 36 (.pair (.int .i64) (.pair (.int .i64) .unit)) (mkS [(0, .box (.pair .str (.pair (.int .i64) (.pair (.int .i64) .unit)))), (0, .v (.int .i64))] 0 x) (fun z => some z) = regex_parser_hex_flt N x.1 x.2.1 := by kernel_rfl

noncomputable def regex_parser_hex_flt_res (N : Nat) : List A → PnRes := pnOf [(0, .box (.pair .str (.pair (.int .i64) (.pair (.int .i64) .unit)))), (0, .v (.int .i64))] (fun x => regex_parser_hex_flt N x.1 x.2.1) (fun z => ⟨(.pair (.int .i64) (.pair (.int .i64) .unit)), z⟩)

theorem regex_parser_hex_flt_ct (N : Nat) : ContractP Go.Proofs.Tryd.prog glob 58 36 (regex_parser_hex_flt_res N) :=
  ContractP.of (E := regex_parser_hex_flt_E N) (Pn := regex_parser_hex_flt_P N) (H := regex_parser_hex_flt_t N) (L := regex_parser_hex_flt_L) (N := N) (body := regex_parser_hex_flt_body) (t := (.pair (.int .i64) (.pair (.int .i64) .unit))) (regex_parser_hex_flt_Eok N) (regex_parser_hex_flt_Pok N) Go.Proofs.Tryd.func58 (by kernel_rfl) (by decide) (fun _ hb => (TabOkP.cons (regex_parser_hex_flt_ok1 hb (regex_parser_hex_flt_Pok N)) TabOkP.nil)) (fun x y h => by rw [regex_parser_hex_flt_link]; exact h)

noncomputable def regex_parser_escape_flt_body : Code := (Go.Proofs.Tryd.f43.body).getD .skip

noncomputable def regex_parser_escape_flt_L : List (List Nat × List Nat) := [([0], [0, 2]), ([0, 1], [0, 2, 4]), ([0, 1, 1], [0, 2, 4]), ([0, 1, 1, 1], [0, 5, 2, 4]), ([0, 1, 1, 1, 1], [5, 2, 0, 4]), ([0, 0, 0, 1, 1, 1, 1, 1], [22, 2, 0, 5, 4]), ([1, 0, 0, 1, 1, 1, 1, 1], [5, 2, 0]), ([0, 1, 1, 0, 0, 1, 1, 1, 1, 1], [26, 2, 0, 5, 4]), ([1, 1, 1, 0, 0, 1, 1, 1, 1, 1], [5, 2, 0]), ([0, 1, 1, 1, 1, 0, 0, 1, 1, 1, 1, 1], [30, 0, 4, 2, 5]), ([1, 1, 1, 1, 1, 0, 0, 1, 1, 1, 1, 1], [5, 2, 0]), ([0, 1, 1, 1, 1, 1, 1, 0, 0, 1, 1, 1, 1, 1], [42, 0, 4, 5, 2]), ([1, 1, 1, 1, 1, 1, 1, 0, 0, 1, 1, 1, 1, 1], [5, 2, 0]), ([0, 1, 1, 1, 1, 1, 1, 1, 0, 0, 1, 1, 1, 1, 1], [5, 2, 0]), ([0, 0, 1, 1, 1, 1, 1, 0, 0, 1, 1, 1, 1, 1], [6, 0, 4, 2]), ([1, 0, 1, 1, 1, 1, 1, 0, 0, 1, 1, 1, 1, 1], [5, 2, 0]), ([0, 0, 1, 1, 1, 0, 0, 1, 1, 1, 1, 1], [2, 3, 0]), ([1, 0, 1, 1, 1, 0, 0, 1, 1, 1, 1, 1], [2, 3, 0]), ([0, 0, 1, 0, 0, 1, 1, 1, 1, 1], [2, 3, 0]), ([1, 0, 1, 0, 0, 1, 1, 1, 1, 1], [2, 3, 0]), ([0, 1, 1, 1, 1, 1], [5, 2, 0]), ([0, 1, 1, 1, 1, 1, 1], [2, 3, 0]), ([1, 1, 1, 1, 1, 1, 1], [2, 3, 0])]

noncomputable def regex_parser_escape_flt_E (N : Nat) : Env := mkEnv tys glob [(41, charset_Of_res N), (44, strings_IndexByte_res N), (46, regex_parser_need_res N), (56, regex_parser_next_res N), (57, charset_Texts_res N), (58, regex_parser_hex_res N)] [] [] [0] false [] []

theorem regex_parser_escape_flt_Eok (N : Nat) : EnvOk Go.Proofs.Tryd.prog (regex_parser_escape_flt_E N) := mkEnv_ok mixed tys_ok (FnsOk.cons (charset_Of_ct N) (FnsOk.cons (strings_IndexByte_ct N) (FnsOk.cons (regex_parser_need_ct N) (FnsOk.cons (regex_parser_next_ct N) (FnsOk.cons (charset_Texts_ct N) (FnsOk.cons (regex_parser_hex_ct N) (FnsOk.nil))))))) (ItsOk.nil)

noncomputable def regex_parser_escape_flt_P (N : Nat) : PnT := pnT [(58, 36, regex_parser_hex_flt_res N), (46, 36, regex_parser_need_flt_res N), (56, 36, regex_parser_next_flt_res N), (20, 36, regex_parser_fail_flt_res N)]

theorem regex_parser_escape_flt_Pok (N : Nat) : PnOk Go.Proofs.Tryd.prog glob (regex_parser_escape_flt_P N) := PnOk.cons (regex_parser_hex_flt_ct N) (PnOk.cons (regex_parser_need_flt_ct N) (PnOk.cons (regex_parser_next_flt_ct N) (PnOk.cons (regex_parser_fail_flt_ct N) (PnOk.nil))))

noncomputable def regex_parser_escape_flt_p1 (N : Nat) (p : ((List UInt8) × (Int × (Int × Unit)))) (set_ : (List Int)) (from_ : Int) (b : Int) (k0 : (List Int) → Bool → Option (Int × (Int × Unit))) (k1 : (Int × (Int × Unit)) → Option (Int × (Int × Unit))) (k2 : ((List UInt8) × (Int × (Int × Unit))) → Int → Option (Int × (Int × Unit))) : Option (Int × (Int × Unit)) :=
 cond (b == (100 : Int))
 ((charset_Of N (48 : Int) (57 : Int)).bind fun y =>
 k0 y true)
 (cond (b == (119 : Int))
 ((charset_Texts N ((48 : UInt8) :: (49 : UInt8) :: (50 : UInt8) :: (51 : UInt8) :: (52 : UInt8) :: (53 : UInt8) :: (54 : UInt8) :: (55 : UInt8) :: (56 : UInt8) :: (57 : UInt8) :: (65 : UInt8) :: (66 : UInt8) :: (67 : UInt8) :: (68 : UInt8) :: (69 : UInt8) :: (70 : UInt8) :: (71 : UInt8) :: (72 : UInt8) :: (73 : UInt8) :: (74 : UInt8) :: (75 : UInt8) :: (76 : UInt8) :: (77 : UInt8) :: (78 : UInt8) :: (79 : UInt8) :: (80 : UInt8) :: (81 : UInt8) :: (82 : UInt8) :: (83 : UInt8) :: (84 : UInt8) :: (85 : UInt8) :: (86 : UInt8) :: (87 : UInt8) :: (88 : UInt8) :: (89 : UInt8) :: (90 : UInt8) :: (95 : UInt8) :: (97 : UInt8) :: (98 : UInt8) :: (99 : UInt8) :: (100 : UInt8) :: (101 : UInt8) :: (102 : UInt8) :: (103 : UInt8) :: (104 : UInt8) :: (105 : UInt8) :: (106 : UInt8) :: (107 : UInt8) :: (108 : UInt8) :: (109 : UInt8) :: (110 : UInt8) :: (111 : UInt8) :: (112 : UInt8) :: (113 : UInt8) :: (114 : UInt8) :: (115 : UInt8) :: (116 : UInt8) :: (117 : UInt8) :: (118 : UInt8) :: (119 : UInt8) :: (120 : UInt8) :: (121 : UInt8) :: (122 : UInt8) :: ([] : List UInt8))).bind fun y1 =>
 k0 y1 true)
 (cond (b == (120 : Int))
 (orP ((regex_parser_hex_flt N p from_)) (fun z => k1 z)
 ((regex_parser_hex N p from_).bind fun y2 =>
 orP ((regex_parser_hex_flt N y2.2.1 from_)) (fun z1 => k1 z1)
 ((regex_parser_hex N y2.2.1 from_).bind fun y3 =>
 k2 y3.2.1 (Go.Lift.bitsOp Go.BinOp.or Go.IntKind.u8 (Go.Lift.shlI Go.IntKind.u8 y2.1 (4 : Int)) y3.1))))
 (cond (decide ((Go.Lib.indexByte ([(92 : UInt8), (46 : UInt8), (91 : UInt8), (93 : UInt8), (40 : UInt8), (41 : UInt8), (123 : UInt8), (125 : UInt8), (124 : UInt8), (42 : UInt8), (43 : UInt8), (63 : UInt8), (45 : UInt8), (94 : UInt8)] : List UInt8) (Nat.toUInt8 (Int.toNat b))) < (0 : Int)))
 (k1 ((2 : Int), (from_, ())))
 (k2 p b))))

noncomputable def regex_parser_escape_flt_g1 (N : Nat) (x : denS [(0, .box (.pair .str (.pair (.int .i64) (.pair (.int .i64) .unit)))), (1, .box (.arr 4 (.int .u64))), (1, .v (.int .i64)), (0, .v (.int .u8))]) (K : ExP → List A → Option (Int × (Int × Unit))) : Option (Int × (Int × Unit)) :=
 regex_parser_escape_flt_p1 N x.1 x.2.1 x.2.2.1 x.2.2.2.1 (fun a1 a2 => (K .ret (mkS [(0, .box (.pair .str (.pair (.int .i64) (.pair (.int .i64) .unit)))), (1, .box (.arr 4 (.int .u64))), (0, .v .bool)] 48 (x.1, a1, a2, ())))) (fun a0 => (K (.pan 36) (mkS [(0, .v (.pair (.int .i64) (.pair (.int .i64) .unit)))] 0 (a0, ())))) (fun a0 a2 => (K .normal (mkS [(0, .box (.pair .str (.pair (.int .i64) (.pair (.int .i64) .unit)))), (1, .box (.arr 4 (.int .u64))), (2, .v (.int .u8))] 46 (a0, x.2.1, a2, ()))))

noncomputable def regex_parser_escape_flt_h1 (N : Nat) : HdP (Int × (Int × Unit)) := fun st K => (unS [(0, .box (.pair .str (.pair (.int .i64) (.pair (.int .i64) .unit)))), (1, .box (.arr 4 (.int .u64))), (1, .v (.int .i64)), (0, .v (.int .u8))] 46 (restr [5, 2, 0, 4] 0 st)).bind fun x => regex_parser_escape_flt_g1 N x K

noncomputable def regex_parser_escape_flt_t1 (N : Nat) : TabP (Int × (Int × Unit)) := []

theorem regex_parser_escape_flt_ok1 {N : Nat} {c : Ctx} (hb : Base Go.Proofs.Tryd.prog (regex_parser_escape_flt_E N) c) (hP : PnOk Go.Proofs.Tryd.prog glob (regex_parser_escape_flt_P N)) : CodeOkP Go.Proofs.Tryd.prog c (nodeAt regex_parser_escape_flt_body [0, 1, 1, 1, 1, 1]) (regex_parser_escape_flt_h1 N) :=
  pieceP_ok (s := [(0, .box (.pair .str (.pair (.int .i64) (.pair (.int .i64) .unit)))), (1, .box (.arr 4 (.int .u64))), (1, .v (.int .i64)), (0, .v (.int .u8))]) (m := 46) (g := regex_parser_escape_flt_g1 N) [5, 2, 0, 4] (evP_sound hb hP N (regex_parser_escape_flt_t1 N) regex_parser_escape_flt_L regex_parser_escape_flt_body TabOkP.nil [0, 1, 1, 1, 1, 1] _ rfl) (fun x K => by kernel_rfl)

noncomputable def regex_parser_escape_flt (N : Nat) (p : ((List UInt8) × (Int × (Int × Unit)))) : Option (Int × (Int × Unit)) :=
 orP ((regex_parser_need_flt N p (92 : Int))) (fun z => some z)
 ((regex_parser_need N p (92 : Int)).bind fun y =>
 orP ((regex_parser_next_flt N y.2.1)) (fun z1 => some z1)
 ((regex_parser_next N y.2.1).bind fun y1 =>
 regex_parser_escape_flt_p1 N (y1.2.1.1, ((Go.IntKind.wrap Go.IntKind.i64 (y1.2.1.2.1 + (1 : Int))), y1.2.1.2.2)) ([(0 : Int), (0 : Int), (0 : Int), (0 : Int)] : List Int) p.2.1 y1.1
 (fun set_ class_ => none)
 (fun p1 => some p1)
 (fun p2 b => (charset_Of N b b).bind fun y2 =>
 none)))

noncomputable def regex_parser_escape_flt_t (N : Nat) : TabP (Int × (Int × Unit)) := [([0, 1, 1, 1, 1, 1], regex_parser_escape_flt_h1 N)]

theorem regex_parser_escape_flt_link (N : Nat) (x : denS [(0, .box (.pair .str (.pair (.int .i64) (.pair (.int .i64) .unit))))]) : panFX (regex_parser_escape_flt_E N) (regex_parser_escape_flt_P N) N (regex_parser_escape_flt_t N) regex_parser_escape_flt_L Go.Proofs.Tryd.f43 36 (.pair (.int .i64) (.pair (.int .i64) .unit)) (mkS [(0, .box (.pair .str (.pair (.int .i64) (.pair (.int .i64) .unit))))] 0 x) (fun z => some z) = regex_parser_escape_flt N x.1 := by kernel_rfl

noncomputable def regex_parser_escape_flt_res (N : Nat) : List A → PnRes := pnOf [(0, .box (.pair .str (.pair (.int .i64) (.pair (.int .i64) .unit))))] (fun x => regex_parser_escape_flt N x.1) (fun z => ⟨(.pair (.int .i64) (.pair (.int .i64) .unit)), z⟩)

theorem regex_parser_escape_flt_ct (N : Nat) : ContractP Go.Proofs.Tryd.prog glob 43 36 (regex_parser_escape_flt_res N) :=
  ContractP.of (E := regex_parser_escape_flt_E N) (Pn := regex_parser_escape_flt_P N) (H := regex_parser_escape_flt_t N) (L := regex_parser_escape_flt_L) (N := N) (body := regex_parser_escape_flt_body) (t := (.pair (.int .i64) (.pair (.int .i64) .unit))) (regex_parser_escape_flt_Eok N) (regex_parser_escape_flt_Pok N) Go.Proofs.Tryd.func43 (by kernel_rfl) (by decide) (fun _ hb => (TabOkP.cons (regex_parser_escape_flt_ok1 hb (regex_parser_escape_flt_Pok N)) TabOkP.nil)) (fun x y h => by rw [regex_parser_escape_flt_link]; exact h)

noncomputable def regex_parser_sign_flt_body : Code := (Go.Proofs.Tryd.f68.body).getD .skip

noncomputable def regex_parser_sign_flt_L : List (List Nat × List Nat) := [([0], [0, 2]), ([0, 1], [4, 0, 2]), ([0, 0, 1, 1], [7, 0, 2, 4]), ([0, 0, 1, 0, 1, 1], [8, 0, 2, 7, 4]), ([1, 0, 1, 0, 1, 1], [0, 4, 2]), ([0, 0, 1, 1, 0, 1, 0, 1, 1], [14, 0, 4, 2, 7]), ([1, 0, 1, 1, 0, 1, 0, 1, 1], [14, 0, 4, 2]), ([0, 1, 1, 0, 1, 1, 0, 1, 0, 1, 1], [14, 0, 4, 2, 7]), ([1, 1, 1, 0, 1, 1, 0, 1, 0, 1, 1], [14, 0, 4, 2]), ([0, 1, 1, 1, 1, 0, 1, 1, 0, 1, 0, 1, 1], [14, 0, 4, 2, 7]), ([1, 1, 1, 1, 1, 0, 1, 1, 0, 1, 0, 1, 1], [14, 0, 4, 2]), ([1, 1, 1, 1, 1, 1, 0, 1, 1, 0, 1, 0, 1, 1], [14, 0, 4, 2]), ([1, 1, 1, 0, 1, 0, 1, 1], [0, 4, 2]), ([0, 1, 1, 1, 0, 1, 0, 1, 1], [0, 4, 2]), ([0, 0, 1, 0, 1, 0, 1, 1], [2, 3, 0]), ([1, 0, 1, 0, 1, 0, 1, 1], [2, 3, 0]), ([1, 0, 1, 1], [0, 4, 2]), ([0, 1, 1, 1], [4, 2, 0]), ([0, 1, 1, 1, 1], [2, 3, 0]), ([1, 1, 1, 1, 1], [2, 3, 0])]

noncomputable def regex_parser_sign_flt_E (N : Nat) : Env := mkEnv tys glob [(41, charset_Of_res N), (43, regex_parser_escape_res N), (56, regex_parser_next_res N)] [] [] [0] false [] []

theorem regex_parser_sign_flt_Eok (N : Nat) : EnvOk Go.Proofs.Tryd.prog (regex_parser_sign_flt_E N) := mkEnv_ok mixed tys_ok (FnsOk.cons (charset_Of_ct N) (FnsOk.cons (regex_parser_escape_ct N) (FnsOk.cons (regex_parser_next_ct N) (FnsOk.nil)))) (ItsOk.nil)

noncomputable def regex_parser_sign_flt_P (N : Nat) : PnT := pnT [(43, 36, regex_parser_escape_flt_res N), (56, 36, regex_parser_next_flt_res N), (20, 36, regex_parser_fail_flt_res N)]

theorem regex_parser_sign_flt_Pok (N : Nat) : PnOk Go.Proofs.Tryd.prog glob (regex_parser_sign_flt_P N) := PnOk.cons (regex_parser_escape_flt_ct N) (PnOk.cons (regex_parser_next_flt_ct N) (PnOk.cons (regex_parser_fail_flt_ct N) (PnOk.nil)))

noncomputable def regex_parser_sign_flt_p2 (N : Nat) (p : ((List UInt8) × (Int × (Int × Unit)))) (set_ : (List Int)) (b : Int) (x7 : Int) (k0 : Bool → Option (Int × (Int × Unit))) : Option (Int × (Int × Unit)) :=
 cond (x7 == (91 : Int))
 (k0 (x7 == (91 : Int)))
 (cond (x7 == (93 : Int))
 (k0 (x7 == (93 : Int)))
 (cond (x7 == (45 : Int))
 (k0 (x7 == (45 : Int)))
 (k0 (x7 == (94 : Int)))))

noncomputable def regex_parser_sign_flt_g2 (N : Nat) (x : denS [(0, .box (.pair .str (.pair (.int .i64) (.pair (.int .i64) .unit)))), (1, .box (.arr 4 (.int .u64))), (1, .v (.int .u8)), (2, .v (.int .u8))]) (K : ExP → List A → Option (Int × (Int × Unit))) : Option (Int × (Int × Unit)) :=
 regex_parser_sign_flt_p2 N x.1 x.2.1 x.2.2.1 x.2.2.2.1 (fun a3 => (K .normal (mkS [(0, .box (.pair .str (.pair (.int .i64) (.pair (.int .i64) .unit)))), (1, .box (.arr 4 (.int .u64))), (1, .v (.int .u8)), (9, .v .bool)] 20 (x.1, x.2.1, x.2.2.1, a3, ()))))

noncomputable def regex_parser_sign_flt_h2 (N : Nat) : HdP (Int × (Int × Unit)) := fun st K => (unS [(0, .box (.pair .str (.pair (.int .i64) (.pair (.int .i64) .unit)))), (1, .box (.arr 4 (.int .u64))), (1, .v (.int .u8)), (2, .v (.int .u8))] 27 (restr [7, 0, 4, 2] 0 st)).bind fun x => regex_parser_sign_flt_g2 N x K

noncomputable def regex_parser_sign_flt_t2 (N : Nat) : TabP (Int × (Int × Unit)) := []

theorem regex_parser_sign_flt_ok2 {N : Nat} {c : Ctx} (hb : Base Go.Proofs.Tryd.prog (regex_parser_sign_flt_E N) c) (hP : PnOk Go.Proofs.Tryd.prog glob (regex_parser_sign_flt_P N)) : CodeOkP Go.Proofs.Tryd.prog c (nodeAt regex_parser_sign_flt_body [0, 1, 1, 0, 1, 0, 1, 1]) (regex_parser_sign_flt_h2 N) :=
  pieceP_ok (s := [(0, .box (.pair .str (.pair (.int .i64) (.pair (.int .i64) .unit)))), (1, .box (.arr 4 (.int .u64))), (1, .v (.int .u8)), (2, .v (.int .u8))]) (m := 27) (g := regex_parser_sign_flt_g2 N) [7, 0, 4, 2] (evP_sound hb hP N (regex_parser_sign_flt_t2 N) regex_parser_sign_flt_L regex_parser_sign_flt_body TabOkP.nil [0, 1, 1, 0, 1, 0, 1, 1] _ rfl) (fun x K => by kernel_rfl)

noncomputable def regex_parser_sign_flt_p1 (N : Nat) (p : ((List UInt8) × (Int × (Int × Unit)))) (set_ : (List Int)) (b : Int) (k0 : (Int × (Int × Unit)) → Option (Int × (Int × Unit))) (k1 : ((List UInt8) × (Int × (Int × Unit))) → (List Int) → Bool → Option (Int × (Int × Unit))) (k2 : Option (Int × (Int × Unit))) : Option (Int × (Int × Unit)) :=
 cond (b == (92 : Int))
 (orP ((regex_parser_escape_flt N p)) (fun z => k0 z)
 ((regex_parser_escape N p).bind fun y =>
 k1 y.2.1 y.1.1 y.1.2.1))
 (regex_parser_sign_flt_p2 N p set_ b b
 (fun x14 => cond x14
 (k0 ((2 : Int), (p.2.1, ())))
 (k2)))

noncomputable def regex_parser_sign_flt_g1 (N : Nat) (x : denS [(0, .box (.pair .str (.pair (.int .i64) (.pair (.int .i64) .unit)))), (1, .box (.arr 4 (.int .u64))), (1, .v (.int .u8))]) (K : ExP → List A → Option (Int × (Int × Unit))) : Option (Int × (Int × Unit)) :=
 regex_parser_sign_flt_p1 N x.1 x.2.1 x.2.2.1 (fun a0 => (K (.pan 36) (mkS [(0, .v (.pair (.int .i64) (.pair (.int .i64) .unit)))] 0 (a0, ())))) (fun a0 a1 a2 => (K .ret (mkS [(0, .box (.pair .str (.pair (.int .i64) (.pair (.int .i64) .unit)))), (1, .box (.arr 4 (.int .u64))), (0, .v .bool)] 31 (a0, a1, a2, ())))) (K .normal (mkS [(0, .box (.pair .str (.pair (.int .i64) (.pair (.int .i64) .unit)))), (1, .box (.arr 4 (.int .u64))), (1, .v (.int .u8))] 30 (x.1, x.2.1, x.2.2.1, ())))

noncomputable def regex_parser_sign_flt_h1 (N : Nat) : HdP (Int × (Int × Unit)) := fun st K => (unS [(0, .box (.pair .str (.pair (.int .i64) (.pair (.int .i64) .unit)))), (1, .box (.arr 4 (.int .u64))), (1, .v (.int .u8))] 30 (restr [4, 0, 2] 0 st)).bind fun x => regex_parser_sign_flt_g1 N x K

noncomputable def regex_parser_sign_flt_t1 (N : Nat) : TabP (Int × (Int × Unit)) := [([0, 1, 1, 0, 1, 0, 1, 1], regex_parser_sign_flt_h2 N)]

theorem regex_parser_sign_flt_ok1 {N : Nat} {c : Ctx} (hb : Base Go.Proofs.Tryd.prog (regex_parser_sign_flt_E N) c) (hP : PnOk Go.Proofs.Tryd.prog glob (regex_parser_sign_flt_P N)) : CodeOkP Go.Proofs.Tryd.prog c (nodeAt regex_parser_sign_flt_body [0, 1, 1]) (regex_parser_sign_flt_h1 N) :=
  pieceP_ok (s := [(0, .box (.pair .str (.pair (.int .i64) (.pair (.int .i64) .unit)))), (1, .box (.arr 4 (.int .u64))), (1, .v (.int .u8))]) (m := 30) (g := regex_parser_sign_flt_g1 N) [4, 0, 2] (evP_sound hb hP N (regex_parser_sign_flt_t1 N) regex_parser_sign_flt_L regex_parser_sign_flt_body (TabOkP.cons (regex_parser_sign_flt_ok2 hb hP) TabOkP.nil) [0, 1, 1] _ rfl) (fun x K => by kernel_rfl)

noncomputable def regex_parser_sign_flt (N : Nat) (p : ((List UInt8) × (Int × (Int × Unit)))) : Option (Int × (Int × Unit)) :=
 orP ((regex_parser_next_flt N p)) (fun z => some z)
 ((regex_parser_next N p).bind fun y =>
 regex_parser_sign_flt_p1 N y.2.1 ([(0 : Int), (0 : Int), (0 : Int), (0 : Int)] : List Int) y.1
 (fun p1 => some p1)
 (fun p2 set_ class_ => none)
 ((charset_Of N y.1 y.1).bind fun y1 =>
 none))

noncomputable def regex_parser_sign_flt_t (N : Nat) : TabP (Int × (Int × Unit)) := [([0, 1, 1], regex_parser_sign_flt_h1 N)]

theorem regex_parser_sign_flt_link (N : Nat) (x : denS [(0, .box (.pair .str (.pair (.int .i64) (.pair (.int .i64) .unit))))]) : panFX (regex_parser_sign_flt_E N) (regex_parser_sign_flt_P N) N (regex_parser_sign_flt_t N) regex_parser_sign_flt_L Go.Proofs.Tryd.f68 36 (.pair (.int .i64) (.pair (.int .i64) .unit)) (mkS [(0, .box (.pair .str (.pair (.int .i64) (.pair (.int .i64) .unit))))] 0 x) (fun z => some z) = regex_parser_sign_flt N x.1 := by kernel_rfl

noncomputable def regex_parser_sign_flt_res (N : Nat) : List A → PnRes := pnOf [(0, .box (.pair .str (.pair (.int .i64) (.pair (.int .i64) .unit))))] (fun x => regex_parser_sign_flt N x.1) (fun z => ⟨(.pair (.int .i64) (.pair (.int .i64) .unit)), z⟩)

theorem regex_parser_sign_flt_ct (N : Nat) : ContractP Go.Proofs.Tryd.prog glob 68 36 (regex_parser_sign_flt_res N) :=
  ContractP.of (E := regex_parser_sign_flt_E N) (Pn := regex_parser_sign_flt_P N) (H := regex_parser_sign_flt_t N) (L := regex_parser_sign_flt_L) (N := N) (body := regex_parser_sign_flt_body) (t := (.pair (.int .i64) (.pair (.int .i64) .unit))) (regex_parser_sign_flt_Eok N) (regex_parser_sign_flt_Pok N) Go.Proofs.Tryd.func68 (by kernel_rfl) (by decide) (fun _ hb => (TabOkP.cons (regex_parser_sign_flt_ok1 hb (regex_parser_sign_flt_Pok N)) TabOkP.nil)) (fun x y h => by rw [regex_parser_sign_flt_link]; exact h)

noncomputable def regex_parser_item_flt_body : Code := (Go.Proofs.Tryd.f53.body).getD .skip

noncomputable def regex_parser_item_flt_L : List (List Nat × List Nat) := [([0], [0, 2]), ([0, 1], [4, 0, 3, 2]), ([0, 0, 1, 1], [17, 3, 2, 0]), ([1, 0, 1, 1], [0, 3, 2]), ([0, 0, 1, 0, 1, 1], [2, 0]), ([1, 0, 1, 0, 1, 1], [2, 0]), ([0, 1, 1, 1], [0, 3, 5, 2]), ([0, 1, 1, 1, 1], [4, 6, 3, 0, 5, 2]), ([0, 0, 1, 1, 1, 1, 1], [35, 0, 5, 3, 6, 2]), ([1, 0, 1, 1, 1, 1, 1], [3, 6, 2, 0]), ([0, 1, 0, 1, 1, 1, 1, 1], [3, 6, 2, 0]), ([0, 1, 1, 1, 1, 1, 1], [2, 0]), ([1, 1, 1, 1, 1, 1, 1], [2, 0])]

noncomputable def regex_parser_item_flt_E (N : Nat) : Env := mkEnv tys glob [(26, regex_parser_skip_res N), (41, charset_Of_res N), (68, regex_parser_sign_res N), (69, charset_First_res N)] [] [] [0] false [] []

theorem regex_parser_item_flt_Eok (N : Nat) : EnvOk Go.Proofs.Tryd.prog (regex_parser_item_flt_E N) := mkEnv_ok mixed tys_ok (FnsOk.cons (regex_parser_skip_ct N) (FnsOk.cons (charset_Of_ct N) (FnsOk.cons (regex_parser_sign_ct N) (FnsOk.cons (charset_First_ct N) (FnsOk.nil))))) (ItsOk.nil)

noncomputable def regex_parser_item_flt_P (N : Nat) : PnT := pnT [(68, 36, regex_parser_sign_flt_res N), (20, 36, regex_parser_fail_flt_res N)]

theorem regex_parser_item_flt_Pok (N : Nat) : PnOk Go.Proofs.Tryd.prog glob (regex_parser_item_flt_P N) := PnOk.cons (regex_parser_sign_flt_ct N) (PnOk.cons (regex_parser_fail_flt_ct N) (PnOk.nil))

noncomputable def regex_parser_item_flt_p2 (N : Nat) (p : ((List UInt8) × (Int × (Int × Unit)))) (x2 : (List Int)) (first : (List Int)) (class_ : Bool) (k0 : ((List UInt8) × (Int × (Int × Unit))) → Bool → Option (Int × (Int × Unit))) : Option (Int × (Int × Unit)) :=
 cond class_
 (k0 p true)
 ((regex_parser_skip N p (45 : Int)).bind fun y =>
 k0 y.2.1 (!y.1))

noncomputable def regex_parser_item_flt_g2 (N : Nat) (x : denS [(0, .box (.pair .str (.pair (.int .i64) (.pair (.int .i64) .unit)))), (1, .box (.arr 4 (.int .u64))), (0, .box (.arr 4 (.int .u64))), (0, .v .bool)]) (K : ExP → List A → Option (Int × (Int × Unit))) : Option (Int × (Int × Unit)) :=
 regex_parser_item_flt_p2 N x.1 x.2.1 x.2.2.1 x.2.2.2.1 (fun a0 a3 => (K .normal (mkS [(0, .box (.pair .str (.pair (.int .i64) (.pair (.int .i64) .unit)))), (1, .box (.arr 4 (.int .u64))), (0, .box (.arr 4 (.int .u64))), (13, .v .bool)] 28 (a0, x.2.1, x.2.2.1, a3, ()))))

noncomputable def regex_parser_item_flt_h2 (N : Nat) : HdP (Int × (Int × Unit)) := fun st K => (unS [(0, .box (.pair .str (.pair (.int .i64) (.pair (.int .i64) .unit)))), (1, .box (.arr 4 (.int .u64))), (0, .box (.arr 4 (.int .u64))), (0, .v .bool)] 41 (restr [4, 0, 3, 2] 0 st)).bind fun x => regex_parser_item_flt_g2 N x K

noncomputable def regex_parser_item_flt_t2 (N : Nat) : TabP (Int × (Int × Unit)) := []

theorem regex_parser_item_flt_ok2 {N : Nat} {c : Ctx} (hb : Base Go.Proofs.Tryd.prog (regex_parser_item_flt_E N) c) (hP : PnOk Go.Proofs.Tryd.prog glob (regex_parser_item_flt_P N)) : CodeOkP Go.Proofs.Tryd.prog c (nodeAt regex_parser_item_flt_body [0, 0, 1, 1]) (regex_parser_item_flt_h2 N) :=
  pieceP_ok (s := [(0, .box (.pair .str (.pair (.int .i64) (.pair (.int .i64) .unit)))), (1, .box (.arr 4 (.int .u64))), (0, .box (.arr 4 (.int .u64))), (0, .v .bool)]) (m := 41) (g := regex_parser_item_flt_g2 N) [4, 0, 3, 2] (evP_sound hb hP N (regex_parser_item_flt_t2 N) regex_parser_item_flt_L regex_parser_item_flt_body TabOkP.nil [0, 0, 1, 1] _ rfl) (fun x K => by kernel_rfl)

noncomputable def regex_parser_item_flt_p1 (N : Nat) (p : ((List UInt8) × (Int × (Int × Unit)))) (x2 : (List Int)) (first : (List Int)) (class_ : Bool) (k0 : ((List UInt8) × (Int × (Int × Unit))) → Option (Int × (Int × Unit))) (k1 : ((List UInt8) × (Int × (Int × Unit))) → Option (Int × (Int × Unit))) : Option (Int × (Int × Unit)) :=
 regex_parser_item_flt_p2 N p x2 first class_
 (fun p1 x17 => cond x17
 (k0 p1)
 (k1 p1))

noncomputable def regex_parser_item_flt_g1 (N : Nat) (x : denS [(0, .box (.pair .str (.pair (.int .i64) (.pair (.int .i64) .unit)))), (1, .box (.arr 4 (.int .u64))), (0, .box (.arr 4 (.int .u64))), (0, .v .bool)]) (K : ExP → List A → Option (Int × (Int × Unit))) : Option (Int × (Int × Unit)) :=
 regex_parser_item_flt_p1 N x.1 x.2.1 x.2.2.1 x.2.2.2.1 (fun a0 => (K .ret (mkS [(0, .box (.pair .str (.pair (.int .i64) (.pair (.int .i64) .unit)))), (1, .box (.arr 4 (.int .u64)))] 43 (a0, x.2.2.1, ())))) (fun a0 => (K .normal (mkS [(0, .box (.pair .str (.pair (.int .i64) (.pair (.int .i64) .unit)))), (1, .box (.arr 4 (.int .u64))), (0, .box (.arr 4 (.int .u64)))] 42 (a0, x.2.1, x.2.2.1, ()))))

noncomputable def regex_parser_item_flt_h1 (N : Nat) : HdP (Int × (Int × Unit)) := fun st K => (unS [(0, .box (.pair .str (.pair (.int .i64) (.pair (.int .i64) .unit)))), (1, .box (.arr 4 (.int .u64))), (0, .box (.arr 4 (.int .u64))), (0, .v .bool)] 41 (restr [4, 0, 3, 2] 0 st)).bind fun x => regex_parser_item_flt_g1 N x K

noncomputable def regex_parser_item_flt_t1 (N : Nat) : TabP (Int × (Int × Unit)) := [([0, 0, 1, 1], regex_parser_item_flt_h2 N)]

theorem regex_parser_item_flt_ok1 {N : Nat} {c : Ctx} (hb : Base Go.Proofs.Tryd.prog (regex_parser_item_flt_E N) c) (hP : PnOk Go.Proofs.Tryd.prog glob (regex_parser_item_flt_P N)) : CodeOkP Go.Proofs.Tryd.prog c (nodeAt regex_parser_item_flt_body [0, 1, 1]) (regex_parser_item_flt_h1 N) :=
  pieceP_ok (s := [(0, .box (.pair .str (.pair (.int .i64) (.pair (.int .i64) .unit)))), (1, .box (.arr 4 (.int .u64))), (0, .box (.arr 4 (.int .u64))), (0, .v .bool)]) (m := 41) (g := regex_parser_item_flt_g1 N) [4, 0, 3, 2] (evP_sound hb hP N (regex_parser_item_flt_t1 N) regex_parser_item_flt_L regex_parser_item_flt_body (TabOkP.cons (regex_parser_item_flt_ok2 hb hP) TabOkP.nil) [0, 1, 1] _ rfl) (fun x K => by kernel_rfl)

noncomputable def regex_parser_item_flt_p4 (N : Nat) (p : ((List UInt8) × (Int × (Int × Unit)))) (x2 : (List Int)) (first : (List Int)) (class_ : Bool) (from_ : Int) (last : (List Int)) (k0 : Bool → Option (Int × (Int × Unit))) : Option (Int × (Int × Unit)) :=
 cond class_
 (k0 true)
 ((charset_First N last).bind fun y =>
 (charset_First N first).bind fun y1 =>
 k0 (decide (y < y1)))

noncomputable def regex_parser_item_flt_g4 (N : Nat) (x : denS [(0, .box (.pair .str (.pair (.int .i64) (.pair (.int .i64) .unit)))), (1, .box (.arr 4 (.int .u64))), (0, .box (.arr 4 (.int .u64))), (0, .v .bool), (0, .v (.int .i64)), (0, .box (.arr 4 (.int .u64)))]) (K : ExP → List A → Option (Int × (Int × Unit))) : Option (Int × (Int × Unit)) :=
 regex_parser_item_flt_p4 N x.1 x.2.1 x.2.2.1 x.2.2.2.1 x.2.2.2.2.1 x.2.2.2.2.2.1 (fun a5 => (K .normal (mkS [(0, .box (.pair .str (.pair (.int .i64) (.pair (.int .i64) .unit)))), (1, .box (.arr 4 (.int .u64))), (0, .box (.arr 4 (.int .u64))), (1, .v (.int .i64)), (0, .box (.arr 4 (.int .u64))), (28, .v .bool)] 10 (x.1, x.2.1, x.2.2.1, x.2.2.2.2.1, x.2.2.2.2.2.1, a5, ()))))

noncomputable def regex_parser_item_flt_h4 (N : Nat) : HdP (Int × (Int × Unit)) := fun st K => (unS [(0, .box (.pair .str (.pair (.int .i64) (.pair (.int .i64) .unit)))), (1, .box (.arr 4 (.int .u64))), (0, .box (.arr 4 (.int .u64))), (0, .v .bool), (0, .v (.int .i64)), (0, .box (.arr 4 (.int .u64)))] 39 (restr [4, 6, 3, 0, 5, 2] 0 st)).bind fun x => regex_parser_item_flt_g4 N x K

noncomputable def regex_parser_item_flt_t4 (N : Nat) : TabP (Int × (Int × Unit)) := []

theorem regex_parser_item_flt_ok4 {N : Nat} {c : Ctx} (hb : Base Go.Proofs.Tryd.prog (regex_parser_item_flt_E N) c) (hP : PnOk Go.Proofs.Tryd.prog glob (regex_parser_item_flt_P N)) : CodeOkP Go.Proofs.Tryd.prog c (nodeAt regex_parser_item_flt_body [0, 0, 1, 1, 1, 1, 1]) (regex_parser_item_flt_h4 N) :=
  pieceP_ok (s := [(0, .box (.pair .str (.pair (.int .i64) (.pair (.int .i64) .unit)))), (1, .box (.arr 4 (.int .u64))), (0, .box (.arr 4 (.int .u64))), (0, .v .bool), (0, .v (.int .i64)), (0, .box (.arr 4 (.int .u64)))]) (m := 39) (g := regex_parser_item_flt_g4 N) [4, 6, 3, 0, 5, 2] (evP_sound hb hP N (regex_parser_item_flt_t4 N) regex_parser_item_flt_L regex_parser_item_flt_body TabOkP.nil [0, 0, 1, 1, 1, 1, 1] _ rfl) (fun x K => by kernel_rfl)

noncomputable def regex_parser_item_flt_p3 (N : Nat) (p : ((List UInt8) × (Int × (Int × Unit)))) (x2 : (List Int)) (first : (List Int)) (class_ : Bool) (from_ : Int) (last : (List Int)) (k0 : (Int × (Int × Unit)) → Option (Int × (Int × Unit))) (k1 : Option (Int × (Int × Unit))) : Option (Int × (Int × Unit)) :=
 regex_parser_item_flt_p4 N p x2 first class_ from_ last
 (fun x35 => cond x35
 (k0 ((2 : Int), (from_, ())))
 (k1))

noncomputable def regex_parser_item_flt_g3 (N : Nat) (x : denS [(0, .box (.pair .str (.pair (.int .i64) (.pair (.int .i64) .unit)))), (1, .box (.arr 4 (.int .u64))), (0, .box (.arr 4 (.int .u64))), (0, .v .bool), (0, .v (.int .i64)), (0, .box (.arr 4 (.int .u64)))]) (K : ExP → List A → Option (Int × (Int × Unit))) : Option (Int × (Int × Unit)) :=
 regex_parser_item_flt_p3 N x.1 x.2.1 x.2.2.1 x.2.2.2.1 x.2.2.2.2.1 x.2.2.2.2.2.1 (fun a0 => (K (.pan 36) (mkS [(0, .v (.pair (.int .i64) (.pair (.int .i64) .unit)))] 0 (a0, ())))) (K .normal (mkS [(0, .box (.pair .str (.pair (.int .i64) (.pair (.int .i64) .unit)))), (1, .box (.arr 4 (.int .u64))), (0, .box (.arr 4 (.int .u64))), (2, .box (.arr 4 (.int .u64)))] 39 (x.1, x.2.1, x.2.2.1, x.2.2.2.2.2.1, ())))

noncomputable def regex_parser_item_flt_h3 (N : Nat) : HdP (Int × (Int × Unit)) := fun st K => (unS [(0, .box (.pair .str (.pair (.int .i64) (.pair (.int .i64) .unit)))), (1, .box (.arr 4 (.int .u64))), (0, .box (.arr 4 (.int .u64))), (0, .v .bool), (0, .v (.int .i64)), (0, .box (.arr 4 (.int .u64)))] 39 (restr [4, 6, 3, 0, 5, 2] 0 st)).bind fun x => regex_parser_item_flt_g3 N x K

noncomputable def regex_parser_item_flt_t3 (N : Nat) : TabP (Int × (Int × Unit)) := [([0, 0, 1, 1, 1, 1, 1], regex_parser_item_flt_h4 N)]

theorem regex_parser_item_flt_ok3 {N : Nat} {c : Ctx} (hb : Base Go.Proofs.Tryd.prog (regex_parser_item_flt_E N) c) (hP : PnOk Go.Proofs.Tryd.prog glob (regex_parser_item_flt_P N)) : CodeOkP Go.Proofs.Tryd.prog c (nodeAt regex_parser_item_flt_body [0, 1, 1, 1, 1, 1]) (regex_parser_item_flt_h3 N) :=
  pieceP_ok (s := [(0, .box (.pair .str (.pair (.int .i64) (.pair (.int .i64) .unit)))), (1, .box (.arr 4 (.int .u64))), (0, .box (.arr 4 (.int .u64))), (0, .v .bool), (0, .v (.int .i64)), (0, .box (.arr 4 (.int .u64)))]) (m := 39) (g := regex_parser_item_flt_g3 N) [4, 6, 3, 0, 5, 2] (evP_sound hb hP N (regex_parser_item_flt_t3 N) regex_parser_item_flt_L regex_parser_item_flt_body (TabOkP.cons (regex_parser_item_flt_ok4 hb hP) TabOkP.nil) [0, 1, 1, 1, 1, 1] _ rfl) (fun x K => by kernel_rfl)

noncomputable def regex_parser_item_flt (N : Nat) (p : ((List UInt8) × (Int × (Int × Unit)))) : Option (Int × (Int × Unit)) :=
 orP ((regex_parser_sign_flt N p)) (fun z => some z)
 ((regex_parser_sign N p).bind fun y =>
 regex_parser_item_flt_p1 N y.2.1 ([(0 : Int), (0 : Int), (0 : Int), (0 : Int)] : List Int) y.1.1 y.1.2.1
 (fun p1 => none)
 (fun p2 => orP ((regex_parser_sign_flt N p2)) (fun z1 => some z1)
 ((regex_parser_sign N p2).bind fun y1 =>
 regex_parser_item_flt_p3 N y1.2.1 ([(0 : Int), (0 : Int), (0 : Int), (0 : Int)] : List Int) y.1.1 y1.1.2.1 p2.2.1 y1.1.1
 (fun p3 => some p3)
 ((charset_First N y.1.1).bind fun y2 =>
 (charset_First N y1.1.1).bind fun y3 =>
 (charset_Of N (Go.IntKind.wrap Go.IntKind.u8 y2) (Go.IntKind.wrap Go.IntKind.u8 y3)).bind fun y4 =>
 none))))

noncomputable def regex_parser_item_flt_t (N : Nat) : TabP (Int × (Int × Unit)) := [([0, 1, 1], regex_parser_item_flt_h1 N), ([0, 1, 1, 1, 1, 1], regex_parser_item_flt_h3 N)]

theorem regex_parser_item_flt_link (N : Nat) (x : denS [(0, .box (.pair .str (.pair (.int .i64) (.pair (.int .i64) .unit))))]) : panFX (regex_parser_item_flt_E N) (regex_parser_item_flt_P N) N (regex_parser_item_flt_t N) regex_parser_item_flt_L Go.Proofs.Tryd.f53 36 (.pair (.int .i64) (.pair (.int .i64) .unit)) (mkS [(0, .box (.pair .str (.pair (.int .i64) (.pair (.int .i64) .unit))))] 0 x) (fun z => some z) = regex_parser_item_flt N x.1 := by kernel_rfl

noncomputable def regex_parser_item_flt_res (N : Nat) : List A → PnRes := pnOf [(0, .box (.pair .str (.pair (.int .i64) (.pair (.int .i64) .unit))))] (fun x => regex_parser_item_flt N x.1) (fun z => ⟨(.pair (.int .i64) (.pair (.int .i64) .unit)), z⟩)

theorem regex_parser_item_flt_ct (N : Nat) : ContractP Go.Proofs.Tryd.prog glob 53 36 (regex_parser_item_flt_res N) :=
  ContractP.of (E := regex_parser_item_flt_E N) (Pn := regex_parser_item_flt_P N) (H := regex_parser_item_flt_t N) (L := regex_parser_item_flt_L) (N := N) (body := regex_parser_item_flt_body) (t := (.pair (.int .i64) (.pair (.int .i64) .unit))) (regex_parser_item_flt_Eok N) (regex_parser_item_flt_Pok N) Go.Proofs.Tryd.func53 (by kernel_rfl) (by decide) (fun _ hb => (TabOkP.cons (regex_parser_item_flt_ok1 hb (regex_parser_item_flt_Pok N)) (TabOkP.cons (regex_parser_item_flt_ok3 hb (regex_parser_item_flt_Pok N)) TabOkP.nil))) (fun x y h => by rw [regex_parser_item_flt_link]; exact h)

noncomputable def regex_parser_brackets_flt_body : Code := (Go.Proofs.Tryd.f42.body).getD .skip

noncomputable def regex_parser_brackets_flt_L : List (List Nat × List Nat) := [([0], [0, 2]), ([0, 1], [0, 2]), ([0, 1, 1], [0, 3, 2]), ([0, 1, 1, 1], [0, 4, 3, 2]), ([0, 0, 1, 1, 1, 1], [0, 4, 3, 2]), ([0, 0, 0, 0, 0, 1, 1, 1, 1], [13, 4, 0, 3, 2]), ([1, 0, 0, 0, 0, 1, 1, 1, 1], [4, 0, 3, 2]), ([1, 1, 0, 0, 0, 0, 1, 1, 1, 1], [3, 4, 2, 0]), ([0, 1, 0, 0, 0, 1, 1, 1, 1], [0, 4, 3, 2]), ([1, 0, 0, 0, 1, 1, 1, 1], [0, 4, 3, 2]), ([0, 1, 1, 1, 1], [3, 4, 2, 0]), ([0, 0, 1, 1, 1, 1, 1], [18, 4, 2, 0]), ([1, 0, 1, 1, 1, 1, 1], [4, 2, 0]), ([0, 0, 1, 0, 1, 1, 1, 1, 1], [2, 0]), ([1, 0, 1, 0, 1, 1, 1, 1, 1], [2, 0]), ([0, 1, 1, 1, 1, 1, 1], [2, 0]), ([1, 1, 1, 1, 1, 1, 1], [2, 0])]

noncomputable def regex_parser_brackets_flt_E (N : Nat) : Env := mkEnv tys glob [(26, regex_parser_skip_res N), (46, regex_parser_need_res N), (53, regex_parser_item_res N), (54, charset_Or_res N), (55, charset_Not_res N)] [] [] [0] false [] []

theorem regex_parser_brackets_flt_Eok (N : Nat) : EnvOk Go.Proofs.Tryd.prog (regex_parser_brackets_flt_E N) := mkEnv_ok mixed tys_ok (FnsOk.cons (regex_parser_skip_ct N) (FnsOk.cons (regex_parser_need_ct N) (FnsOk.cons (regex_parser_item_ct N) (FnsOk.cons (charset_Or_ct N) (FnsOk.cons (charset_Not_ct N) (FnsOk.nil)))))) (ItsOk.nil)

noncomputable def regex_parser_brackets_flt_P (N : Nat) : PnT := pnT [(53, 36, regex_parser_item_flt_res N), (46, 36, regex_parser_need_flt_res N)]

theorem regex_parser_brackets_flt_Pok (N : Nat) : PnOk Go.Proofs.Tryd.prog glob (regex_parser_brackets_flt_P N) := PnOk.cons (regex_parser_item_flt_ct N) (PnOk.cons (regex_parser_need_flt_ct N) (PnOk.nil))

noncomputable def regex_parser_brackets_flt_s1 (N : Nat) (x2 : (List Int)) (not_ : Bool) (p : ((List UInt8) × (Int × (Int × Unit)))) (set_ : (List Int)) (rec : ((List UInt8) × (Int × (Int × Unit))) → (List Int) → Option (Int × (Int × Unit))) (k0 : (Int × (Int × Unit)) → Option (Int × (Int × Unit))) (k1 : ((List UInt8) × (Int × (Int × Unit))) → (List Int) → Option (Int × (Int × Unit))) : Option (Int × (Int × Unit)) :=
 (regex_parser_skip N p (93 : Int)).bind fun y =>
 cond (!y.1)
 (orP ((regex_parser_item_flt N y.2.1)) (fun z => k0 z)
 ((regex_parser_item N y.2.1).bind fun y1 =>
 (charset_Or N set_ y1.1).bind fun y2 =>
 rec y1.2.1 y2))
 (k1 y.2.1 set_)

noncomputable def regex_parser_brackets_flt_p1 (N : Nat) (p : ((List UInt8) × (Int × (Int × Unit)))) (x2 : (List Int)) (not_ : Bool) (set_ : (List Int)) (k0 : (Int × (Int × Unit)) → Option (Int × (Int × Unit))) (k1 : ((List UInt8) × (Int × (Int × Unit))) → (List Int) → Option (Int × (Int × Unit))) : Option (Int × (Int × Unit)) :=
 iter (fun (v : (((List UInt8) × (Int × (Int × Unit))) × (List Int))) r => regex_parser_brackets_flt_s1 N x2 not_ v.1 v.2 (fun p set_ => (r (p, set_))) k0 k1) N (p, set_)

noncomputable def regex_parser_brackets_flt_g1 (N : Nat) (i : ((List Int) × Bool)) (v : (((List UInt8) × (Int × (Int × Unit))) × (List Int))) (r : (((List UInt8) × (Int × (Int × Unit))) × (List Int)) → Option (Int × (Int × Unit))) (K : ExP → List A → Option (Int × (Int × Unit))) : Option (Int × (Int × Unit)) :=
 regex_parser_brackets_flt_s1 N i.1 i.2 v.1 v.2 (fun p set_ => (r (p, set_))) (fun a0 => (K (.pan 36) (mkS [(0, .v (.pair (.int .i64) (.pair (.int .i64) .unit)))] 0 (a0, ())))) (fun a0 a3 => (K (.exit 0) (mkS [(0, .box (.pair .str (.pair (.int .i64) (.pair (.int .i64) .unit)))), (1, .box (.arr 4 (.int .u64))), (0, .v .bool), (0, .box (.arr 4 (.int .u64)))] 17 (a0, i.1, i.2, a3, ()))))

noncomputable def regex_parser_brackets_flt_h1 (N : Nat) : HdP (Int × (Int × Unit)) := fun st K => (unS [(0, .box (.pair .str (.pair (.int .i64) (.pair (.int .i64) .unit)))), (1, .box (.arr 4 (.int .u64))), (0, .v .bool), (0, .box (.arr 4 (.int .u64)))] 17 (restr [0, 4, 3, 2] 0 st)).bind fun x => iter (fun v r => regex_parser_brackets_flt_g1 N ((fun x => (x.2.1, x.2.2.1)) x) v r K) N ((fun x => (x.1, x.2.2.2.1)) x)

noncomputable def regex_parser_brackets_flt_t1 (N : Nat) : TabP (Int × (Int × Unit)) := []

theorem regex_parser_brackets_flt_ok1 {N : Nat} {c : Ctx} (hb : Base Go.Proofs.Tryd.prog (regex_parser_brackets_flt_E N) c) (hP : PnOk Go.Proofs.Tryd.prog glob (regex_parser_brackets_flt_P N)) : CodeOkP Go.Proofs.Tryd.prog c (nodeAt regex_parser_brackets_flt_body [0, 0, 1, 1, 1, 1]) (regex_parser_brackets_flt_h1 N) :=
  loopP_ok (s := [(0, .box (.pair .str (.pair (.int .i64) (.pair (.int .i64) .unit)))), (1, .box (.arr 4 (.int .u64))), (0, .v .bool), (0, .box (.arr 4 (.int .u64)))]) (m := 17) (regex_parser_brackets_flt_g1 N) [0, 4, 3, 2] N (fun x => (x.2.1, x.2.2.1)) (fun x => (x.1, x.2.2.2.1)) (fun i v => (v.1, i.1, i.2, v.2, ())) (fun _ => rfl) (evP_sound hb hP N (regex_parser_brackets_flt_t1 N) regex_parser_brackets_flt_L regex_parser_brackets_flt_body TabOkP.nil [0, 0, 0, 1, 1, 1, 1] _ rfl) (fun i v r K => by kernel_rfl)

noncomputable def regex_parser_brackets_flt (N : Nat) (p : ((List UInt8) × (Int × (Int × Unit)))) : Option (Int × (Int × Unit)) :=
 orP ((regex_parser_need_flt N p (91 : Int))) (fun z => some z)
 ((regex_parser_need N p (91 : Int)).bind fun y =>
 (regex_parser_skip N y.2.1 (94 : Int)).bind fun y1 =>
 orP ((regex_parser_item_flt N y1.2.1)) (fun z1 => some z1)
 ((regex_parser_item N y1.2.1).bind fun y2 =>
 regex_parser_brackets_flt_p1 N y2.2.1 ([(0 : Int), (0 : Int), (0 : Int), (0 : Int)] : List Int) y1.1 y2.1
 (fun p1 => some p1)
 (fun p2 set_ => cond y1.1
 ((charset_Not N set_).bind fun y3 =>
 none)
 (none))))

noncomputable def regex_parser_brackets_flt_t (N : Nat) : TabP (Int × (Int × Unit)) := [([0, 0, 1, 1, 1, 1], regex_parser_brackets_flt_h1 N)]

theorem regex_parser_brackets_flt_link (N : Nat) (x : denS [(0, .box (.pair .str (.pair (.int .i64) (.pair (.int .i64) .unit))))]) : panFX (regex_parser_brackets_flt_E N) (regex_parser_brackets_flt_P N) N (regex_parser_brackets_flt_t N) regex_parser_brackets_flt_L Go.Proofs.Tryd.f42 36 (.pair (.int .i64) (.pair (.int .i64) .unit)) (mkS [(0, .box (.pair .str (.pair (.int .i64) (.pair (.int .i64) .unit))))] 0 x) (fun z => some z) = regex_parser_brackets_flt N x.1 := by kernel_rfl

noncomputable def regex_parser_brackets_flt_res (N : Nat) : List A → PnRes := pnOf [(0, .box (.pair .str (.pair (.int .i64) (.pair (.int .i64) .unit))))] (fun x => regex_parser_brackets_flt N x.1) (fun z => ⟨(.pair (.int .i64) (.pair (.int .i64) .unit)), z⟩)

theorem regex_parser_brackets_flt_ct (N : Nat) : ContractP Go.Proofs.Tryd.prog glob 42 36 (regex_parser_brackets_flt_res N) :=
  ContractP.of (E := regex_parser_brackets_flt_E N) (Pn := regex_parser_brackets_flt_P N) (H := regex_parser_brackets_flt_t N) (L := regex_parser_brackets_flt_L) (N := N) (body := regex_parser_brackets_flt_body) (t := (.pair (.int .i64) (.pair (.int .i64) .unit))) (regex_parser_brackets_flt_Eok N) (regex_parser_brackets_flt_Pok N) Go.Proofs.Tryd.func42 (by kernel_rfl) (by decide) (fun _ hb => (TabOkP.cons (regex_parser_brackets_flt_ok1 hb (regex_parser_brackets_flt_Pok N)) TabOkP.nil)) (fun x y h => by rw [regex_parser_brackets_flt_link]; exact h)

noncomputable def regex_parser_braces_flt_body : Code := (Go.Proofs.Tryd.f35.body).getD .skip

noncomputable def regex_parser_braces_flt_L : List (List Nat × List Nat) := [([0], [0]), ([0, 1], [0, 4]), ([0, 1, 1], [2, 0, 4]), ([0, 1, 1, 1], [0, 2, 3, 4]), ([0, 0, 1, 1, 1, 1], [13, 0, 2, 3, 4]), ([1, 0, 1, 1, 1, 1], [3, 2, 0, 4]), ([0, 0, 0, 1, 0, 1, 1, 1, 1], [15, 2, 0]), ([1, 0, 0, 1, 0, 1, 1, 1, 1], [0, 2]), ([0, 0, 1, 0, 0, 1, 0, 1, 1, 1, 1], [2, 3, 0]), ([1, 0, 1, 0, 0, 1, 0, 1, 1, 1, 1], [2, 3, 0]), ([0, 1, 0, 1, 0, 1, 1, 1, 1], [0, 2, 4]), ([1, 1, 0, 1, 0, 1, 1, 1, 1], [3, 2, 0, 4]), ([0, 0, 1, 1, 1, 1, 1], [26, 0, 4, 2, 3]), ([1, 0, 1, 1, 1, 1, 1], [0, 2, 3]), ([0, 1, 0, 1, 1, 1, 1, 1], [0, 2, 3]), ([0, 1, 1, 1, 1, 1, 1], [2, 3, 0]), ([0, 1, 1, 1, 1, 1, 1, 1], [2, 3, 0]), ([1, 1, 1, 1, 1, 1, 1, 1], [2, 3, 0])]

noncomputable def regex_parser_braces_flt_E (N : Nat) : Env := mkEnv tys glob [(26, regex_parser_skip_res N), (45, regex_parser_num_res N), (46, regex_parser_need_res N)] [] [] [0] false [] []

theorem regex_parser_braces_flt_Eok (N : Nat) : EnvOk Go.Proofs.Tryd.prog (regex_parser_braces_flt_E N) := mkEnv_ok mixed tys_ok (FnsOk.cons (regex_parser_skip_ct N) (FnsOk.cons (regex_parser_num_ct N) (FnsOk.cons (regex_parser_need_ct N) (FnsOk.nil)))) (ItsOk.nil)

noncomputable def regex_parser_braces_flt_P (N : Nat) : PnT := pnT [(45, 36, regex_parser_num_flt_res N), (46, 36, regex_parser_need_flt_res N), (20, 36, regex_parser_fail_flt_res N)]

theorem regex_parser_braces_flt_Pok (N : Nat) : PnOk Go.Proofs.Tryd.prog glob (regex_parser_braces_flt_P N) := PnOk.cons (regex_parser_num_flt_ct N) (PnOk.cons (regex_parser_need_flt_ct N) (PnOk.cons (regex_parser_fail_flt_ct N) (PnOk.nil)))

noncomputable def regex_parser_braces_flt_p1 (N : Nat) (p : ((List UInt8) × (Int × (Int × Unit)))) (low : Int) (high : Int) (from_ : Int) (k0 : ((List UInt8) × (Int × (Int × Unit))) → Int → Option (Int × (Int × Unit))) (k1 : (Int × (Int × Unit)) → Option (Int × (Int × Unit))) (k2 : ((List UInt8) × (Int × (Int × Unit))) → Int → Int → Option (Int × (Int × Unit))) : Option (Int × (Int × Unit)) :=
 (regex_parser_skip N p (44 : Int)).bind fun y =>
 cond y.1
 ((regex_parser_skip N y.2.1 (125 : Int)).bind fun y1 =>
 cond y1.1
 (k0 y1.2.1 (-(1 : Int)))
 (orP ((regex_parser_num_flt N y1.2.1)) (fun z => k1 z)
 ((regex_parser_num N y1.2.1).bind fun y2 =>
 k2 y2.2.1 y2.1 y1.2.1.2.1)))
 (k2 y.2.1 high from_)

noncomputable def regex_parser_braces_flt_g1 (N : Nat) (x : denS [(0, .box (.pair .str (.pair (.int .i64) (.pair (.int .i64) .unit)))), (1, .v (.int .i64)), (0, .v (.int .i64)), (0, .v (.int .i64))]) (K : ExP → List A → Option (Int × (Int × Unit))) : Option (Int × (Int × Unit)) :=
 regex_parser_braces_flt_p1 N x.1 x.2.1 x.2.2.1 x.2.2.2.1 (fun a0 a2 => (K .ret (mkS [(0, .box (.pair .str (.pair (.int .i64) (.pair (.int .i64) .unit)))), (1, .v (.int .i64)), (0, .v (.int .i64))] 30 (a0, x.2.1, a2, ())))) (fun a0 => (K (.pan 36) (mkS [(0, .v (.pair (.int .i64) (.pair (.int .i64) .unit)))] 0 (a0, ())))) (fun a0 a2 a3 => (K .normal (mkS [(0, .box (.pair .str (.pair (.int .i64) (.pair (.int .i64) .unit)))), (1, .v (.int .i64)), (0, .v (.int .i64)), (0, .v (.int .i64))] 29 (a0, x.2.1, a2, a3, ()))))

noncomputable def regex_parser_braces_flt_h1 (N : Nat) : HdP (Int × (Int × Unit)) := fun st K => (unS [(0, .box (.pair .str (.pair (.int .i64) (.pair (.int .i64) .unit)))), (1, .v (.int .i64)), (0, .v (.int .i64)), (0, .v (.int .i64))] 29 (restr [0, 2, 3, 4] 0 st)).bind fun x => regex_parser_braces_flt_g1 N x K

noncomputable def regex_parser_braces_flt_t1 (N : Nat) : TabP (Int × (Int × Unit)) := []

theorem regex_parser_braces_flt_ok1 {N : Nat} {c : Ctx} (hb : Base Go.Proofs.Tryd.prog (regex_parser_braces_flt_E N) c) (hP : PnOk Go.Proofs.Tryd.prog glob (regex_parser_braces_flt_P N)) : CodeOkP Go.Proofs.Tryd.prog c (nodeAt regex_parser_braces_flt_body [0, 1, 1, 1, 1]) (regex_parser_braces_flt_h1 N) :=
  pieceP_ok (s := [(0, .box (.pair .str (.pair (.int .i64) (.pair (.int .i64) .unit)))), (1, .v (.int .i64)), (0, .v (.int .i64)), (0, .v (.int .i64))]) (m := 29) (g := regex_parser_braces_flt_g1 N) [0, 2, 3, 4] (evP_sound hb hP N (regex_parser_braces_flt_t1 N) regex_parser_braces_flt_L regex_parser_braces_flt_body TabOkP.nil [0, 1, 1, 1, 1] _ rfl) (fun x K => by kernel_rfl)

noncomputable def regex_parser_braces_flt_p2 (N : Nat) (p : ((List UInt8) × (Int × (Int × Unit)))) (low : Int) (high : Int) (from_ : Int) (k0 : (Int × (Int × Unit)) → Option (Int × (Int × Unit))) (k1 : Option (Int × (Int × Unit))) : Option (Int × (Int × Unit)) :=
 cond (decide (high < (if ((1 : Int) > low) then (1 : Int) else low)))
 (k0 ((2 : Int), (from_, ())))
 (k1)

noncomputable def regex_parser_braces_flt_g2 (N : Nat) (x : denS [(0, .box (.pair .str (.pair (.int .i64) (.pair (.int .i64) .unit)))), (1, .v (.int .i64)), (0, .v (.int .i64)), (0, .v (.int .i64))]) (K : ExP → List A → Option (Int × (Int × Unit))) : Option (Int × (Int × Unit)) :=
 regex_parser_braces_flt_p2 N x.1 x.2.1 x.2.2.1 x.2.2.2.1 (fun a0 => (K (.pan 36) (mkS [(0, .v (.pair (.int .i64) (.pair (.int .i64) .unit)))] 0 (a0, ())))) (K .normal (mkS [(0, .box (.pair .str (.pair (.int .i64) (.pair (.int .i64) .unit)))), (1, .v (.int .i64)), (0, .v (.int .i64))] 30 (x.1, x.2.1, x.2.2.1, ())))

noncomputable def regex_parser_braces_flt_h2 (N : Nat) : HdP (Int × (Int × Unit)) := fun st K => (unS [(0, .box (.pair .str (.pair (.int .i64) (.pair (.int .i64) .unit)))), (1, .v (.int .i64)), (0, .v (.int .i64)), (0, .v (.int .i64))] 29 (restr [3, 2, 0, 4] 0 st)).bind fun x => regex_parser_braces_flt_g2 N x K

noncomputable def regex_parser_braces_flt_t2 (N : Nat) : TabP (Int × (Int × Unit)) := []

theorem regex_parser_braces_flt_ok2 {N : Nat} {c : Ctx} (hb : Base Go.Proofs.Tryd.prog (regex_parser_braces_flt_E N) c) (hP : PnOk Go.Proofs.Tryd.prog glob (regex_parser_braces_flt_P N)) : CodeOkP Go.Proofs.Tryd.prog c (nodeAt regex_parser_braces_flt_body [0, 1, 1, 1, 1, 1]) (regex_parser_braces_flt_h2 N) :=
  pieceP_ok (s := [(0, .box (.pair .str (.pair (.int .i64) (.pair (.int .i64) .unit)))), (1, .v (.int .i64)), (0, .v (.int .i64)), (0, .v (.int .i64))]) (m := 29) (g := regex_parser_braces_flt_g2 N) [3, 2, 0, 4] (evP_sound hb hP N (regex_parser_braces_flt_t2 N) regex_parser_braces_flt_L regex_parser_braces_flt_body TabOkP.nil [0, 1, 1, 1, 1, 1] _ rfl) (fun x K => by kernel_rfl)

noncomputable def regex_parser_braces_flt (N : Nat) (p : ((List UInt8) × (Int × (Int × Unit)))) : Option (Int × (Int × Unit)) :=
 orP ((regex_parser_num_flt N p)) (fun z => some z)
 ((regex_parser_num N p).bind fun y =>
 regex_parser_braces_flt_p1 N y.2.1 y.1 y.1 p.2.1
 (fun p1 high => none)
 (fun p2 => some p2)
 (fun p3 high1 from_ => regex_parser_braces_flt_p2 N p3 y.1 high1 from_
 (fun p4 => some p4)
 (orP ((regex_parser_need_flt N p3 (125 : Int))) (fun z1 => some z1)
 ((regex_parser_need N p3 (125 : Int)).bind fun y1 =>
 none))))

noncomputable def regex_parser_braces_flt_t (N : Nat) : TabP (Int × (Int × Unit)) := [([0, 1, 1, 1, 1], regex_parser_braces_flt_h1 N), ([0, 1, 1, 1, 1, 1], regex_parser_braces_flt_h2 N)]

theorem regex_parser_braces_flt_link (N : Nat) (x : denS [(0, .box (.pair .str (.pair (.int .i64) (.pair (.int .i64) .unit))))]) : panFX (regex_parser_braces_flt_E N) (regex_parser_braces_flt_P N) N (regex_parser_braces_flt_t N) regex_parser_braces_flt_L Go.Proofs.Tryd.f35 36 (.pair (.int .i64) (.pair (.int .i64) .unit)) (mkS [(0, .box (.pair .str (.pair (.int .i64) (.pair (.int .i64) .unit))))] 0 x) (fun z => some z) = regex_parser_braces_flt N x.1 := by kernel_rfl

noncomputable def regex_parser_braces_flt_res (N : Nat) : List A → PnRes := pnOf [(0, .box (.pair .str (.pair (.int .i64) (.pair (.int .i64) .unit))))] (fun x => regex_parser_braces_flt N x.1) (fun z => ⟨(.pair (.int .i64) (.pair (.int .i64) .unit)), z⟩)

theorem regex_parser_braces_flt_ct (N : Nat) : ContractP Go.Proofs.Tryd.prog glob 35 36 (regex_parser_braces_flt_res N) :=
  ContractP.of (E := regex_parser_braces_flt_E N) (Pn := regex_parser_braces_flt_P N) (H := regex_parser_braces_flt_t N) (L := regex_parser_braces_flt_L) (N := N) (body := regex_parser_braces_flt_body) (t := (.pair (.int .i64) (.pair (.int .i64) .unit))) (regex_parser_braces_flt_Eok N) (regex_parser_braces_flt_Pok N) Go.Proofs.Tryd.func35 (by kernel_rfl) (by decide) (fun _ hb => (TabOkP.cons (regex_parser_braces_flt_ok1 hb (regex_parser_braces_flt_Pok N)) (TabOkP.cons (regex_parser_braces_flt_ok2 hb (regex_parser_braces_flt_Pok N)) TabOkP.nil))) (fun x y h => by rw [regex_parser_braces_flt_link]; exact h)

abbrev regex_parser_alt_flt_Self : Type := ((List UInt8) × (Int × (Int × Unit))) → Option (Int × (Int × Unit))

noncomputable def regex_parser_group_flt_body : Code := (Go.Proofs.Tryd.f39.body).getD .skip

noncomputable def regex_parser_group_flt_L : List (List Nat × List Nat) := [([0], [0, 2]), ([0, 0, 1], [8, 0, 2]), ([1, 0, 1], [0, 2]), ([0, 1, 0, 1], [0, 2]), ([0, 1, 1], [0, 2]), ([0, 1, 1, 1], [0, 2]), ([0, 1, 1, 1, 1], [0, 3, 2]), ([0, 1, 1, 1, 1, 1], [0, 3, 2]), ([0, 1, 1, 1, 1, 1, 1], [3, 2, 0]), ([0, 1, 1, 1, 1, 1, 1, 1], [2, 0]), ([1, 1, 1, 1, 1, 1, 1, 1], [2, 0])]

noncomputable def regex_parser_group_flt_E (N : Nat) (self : regex_parser_alt_flt_Self) : Env := mkEnv tys glob [(19, regex_parser_alt_res N), (46, regex_parser_need_res N)] [] [] [0] false [] []

theorem regex_parser_group_flt_Eok (N : Nat) (self : regex_parser_alt_flt_Self) : EnvOk Go.Proofs.Tryd.prog (regex_parser_group_flt_E N self) := mkEnv_ok mixed tys_ok (FnsOk.cons (regex_parser_alt_ct N) (FnsOk.cons (regex_parser_need_ct N) (FnsOk.nil))) (ItsOk.nil)

noncomputable def regex_parser_group_flt_P (N : Nat) (self : regex_parser_alt_flt_Self) : PnT := pnT [(46, 36, regex_parser_need_flt_res N), (20, 36, regex_parser_fail_flt_res N), (19, 36, pnOf [(0, .box (.pair .str (.pair (.int .i64) (.pair (.int .i64) .unit))))] (fun x => self x.1) (fun z => ⟨(.pair (.int .i64) (.pair (.int .i64) .unit)), z⟩))]

theorem regex_parser_group_flt_Pok (N : Nat) (self : regex_parser_alt_flt_Self) (hself : ContractP Go.Proofs.Tryd.prog glob 19 36 (pnOf [(0, .box (.pair .str (.pair (.int .i64) (.pair (.int .i64) .unit))))] (fun x => self x.1) (fun z => ⟨(.pair (.int .i64) (.pair (.int .i64) .unit)), z⟩))) : PnOk Go.Proofs.Tryd.prog glob (regex_parser_group_flt_P N self) := PnOk.cons (regex_parser_need_flt_ct N) (PnOk.cons (regex_parser_fail_flt_ct N) (PnOk.cons (hself) (PnOk.nil)))

noncomputable def regex_parser_group_flt_p1 (N : Nat) (self : regex_parser_alt_flt_Self) (p : ((List UInt8) × (Int × (Int × Unit)))) (x2 : (Int × ((List Int) × ((List Tree) × (Int × (Int × Unit)))))) (k0 : (Int × (Int × Unit)) → Option (Int × (Int × Unit))) (k1 : Option (Int × (Int × Unit))) : Option (Int × (Int × Unit)) :=
 cond (p.2.2.1 == (16 : Int))
 (k0 ((3 : Int), (p.2.1, ())))
 (k1)

noncomputable def regex_parser_group_flt_g1 (N : Nat) (self : regex_parser_alt_flt_Self) (x : denS [(0, .box (.pair .str (.pair (.int .i64) (.pair (.int .i64) .unit)))), (1, .box (.pair (.int .i64) (.pair (.arr 4 (.int .u64)) (.pair (.sl .nod) (.pair (.int .i64) (.pair (.int .i64) .unit))))))]) (K : ExP → List A → Option (Int × (Int × Unit))) : Option (Int × (Int × Unit)) :=
 regex_parser_group_flt_p1 N self x.1 x.2.1 (fun a0 => (K (.pan 36) (mkS [(0, .v (.pair (.int .i64) (.pair (.int .i64) .unit)))] 0 (a0, ())))) (K .normal (mkS [(0, .box (.pair .str (.pair (.int .i64) (.pair (.int .i64) .unit)))), (1, .box (.pair (.int .i64) (.pair (.arr 4 (.int .u64)) (.pair (.sl .nod) (.pair (.int .i64) (.pair (.int .i64) .unit))))))] 33 (x.1, x.2.1, ())))

noncomputable def regex_parser_group_flt_h1 (N : Nat) (self : regex_parser_alt_flt_Self) : HdP (Int × (Int × Unit)) := fun st K => (unS [(0, .box (.pair .str (.pair (.int .i64) (.pair (.int .i64) .unit)))), (1, .box (.pair (.int .i64) (.pair (.arr 4 (.int .u64)) (.pair (.sl .nod) (.pair (.int .i64) (.pair (.int .i64) .unit))))))] 33 (restr [0, 2] 0 st)).bind fun x => regex_parser_group_flt_g1 N self x K

noncomputable def regex_parser_group_flt_t1 (N : Nat) (self : regex_parser_alt_flt_Self) : TabP (Int × (Int × Unit)) := []

theorem regex_parser_group_flt_ok1 {N : Nat} {self : regex_parser_alt_flt_Self} {c : Ctx} (hb : Base Go.Proofs.Tryd.prog (regex_parser_group_flt_E N self) c) (hP : PnOk Go.Proofs.Tryd.prog glob (regex_parser_group_flt_P N self)) : CodeOkP Go.Proofs.Tryd.prog c (nodeAt regex_parser_group_flt_body [0, 1]) (regex_parser_group_flt_h1 N self) :=
  pieceP_ok (s := [(0, .box (.pair .str (.pair (.int .i64) (.pair (.int .i64) .unit)))), (1, .box (.pair (.int .i64) (.pair (.arr 4 (.int .u64)) (.pair (.sl .nod) (.pair (.int .i64) (.pair (.int .i64) .unit))))))]) (m := 33) (g := regex_parser_group_flt_g1 N self) [0, 2] (evP_sound hb hP N (regex_parser_group_flt_t1 N self) regex_parser_group_flt_L regex_parser_group_flt_body TabOkP.nil [0, 1] _ rfl) (fun x K => by kernel_rfl)

noncomputable def regex_parser_group_flt (N : Nat) (self : regex_parser_alt_flt_Self) (p : ((List UInt8) × (Int × (Int × Unit)))) : Option (Int × (Int × Unit)) :=
 regex_parser_group_flt_p1 N self p ((0 : Int), (([(0 : Int), (0 : Int), (0 : Int), (0 : Int)] : List Int), (([] : List Go.Lift.Tree), ((0 : Int), ((0 : Int), ())))))
 (fun p1 => some p1)
 (orP ((regex_parser_need_flt N (p.1, (p.2.1, ((Go.IntKind.wrap Go.IntKind.i64 (p.2.2.1 + (1 : Int))), p.2.2.2))) (40 : Int))) (fun z => some z)
 ((regex_parser_need N (p.1, (p.2.1, ((Go.IntKind.wrap Go.IntKind.i64 (p.2.2.1 + (1 : Int))), p.2.2.2))) (40 : Int)).bind fun y =>
 orP ((self y.2.1)) (fun z1 => some z1)
 ((regex_parser_alt N y.2.1).bind fun y1 =>
 orP ((regex_parser_need_flt N y1.2.1 (41 : Int))) (fun z2 => some z2)
 ((regex_parser_need N y1.2.1 (41 : Int)).bind fun y2 =>
 none))))

noncomputable def regex_parser_group_flt_t (N : Nat) (self : regex_parser_alt_flt_Self) : TabP (Int × (Int × Unit)) := [([0, 1], regex_parser_group_flt_h1 N self)]

theorem regex_parser_group_flt_link (N : Nat) (self : regex_parser_alt_flt_Self) (x : denS [(0, .box (.pair .str (.pair (.int .i64) (.pair (.int .i64) .unit))))]) : panFX (regex_parser_group_flt_E N self) (regex_parser_group_flt_P N self) N (regex_parser_group_flt_t N self) regex_parser_group_flt_L Go.Proofs.Tryd.f39 36 (.pair (.int .i64) (.pair (.int .i64) .unit)) (mkS [(0, .box (.pair .str (.pair (.int .i64) (.pair (.int .i64) .unit))))] 0 x) (fun z => some z) = regex_parser_group_flt N self x.1 := by kernel_rfl

noncomputable def regex_parser_group_flt_res (N : Nat) (self : regex_parser_alt_flt_Self) : List A → PnRes := pnOf [(0, .box (.pair .str (.pair (.int .i64) (.pair (.int .i64) .unit))))] (fun x => regex_parser_group_flt N self x.1) (fun z => ⟨(.pair (.int .i64) (.pair (.int .i64) .unit)), z⟩)

theorem regex_parser_group_flt_ct (N : Nat) (self : regex_parser_alt_flt_Self) (hself : ContractP Go.Proofs.Tryd.prog glob 19 36 (pnOf [(0, .box (.pair .str (.pair (.int .i64) (.pair (.int .i64) .unit))))] (fun x => self x.1) (fun z => ⟨(.pair (.int .i64) (.pair (.int .i64) .unit)), z⟩))) : ContractP Go.Proofs.Tryd.prog glob 39 36 (regex_parser_group_flt_res N self) :=
  ContractP.of (E := regex_parser_group_flt_E N self) (Pn := regex_parser_group_flt_P N self) (H := regex_parser_group_flt_t N self) (L := regex_parser_group_flt_L) (N := N) (body := regex_parser_group_flt_body) (t := (.pair (.int .i64) (.pair (.int .i64) .unit))) (regex_parser_group_flt_Eok N self) (regex_parser_group_flt_Pok N self hself) Go.Proofs.Tryd.func39 (by kernel_rfl) (by decide) (fun _ hb => (TabOkP.cons (regex_parser_group_flt_ok1 hb (regex_parser_group_flt_Pok N self hself)) TabOkP.nil)) (fun x y h => by rw [regex_parser_group_flt_link]; exact h)

noncomputable def regex_parser_atom_flt_body : Code := (Go.Proofs.Tryd.f34.body).getD .skip

noncomputable def regex_parser_atom_flt_L : List (List Nat × List Nat) := [([0], [0, 2]), ([0, 1], [3, 0, 2]), ([0, 1, 1], [15, 0, 2, 3]), ([0, 0, 1, 1, 1], [36, 0, 2, 15, 3]), ([1, 0, 1, 1, 1], [2, 0]), ([0, 1, 1, 0, 1, 1, 1], [40, 0, 2, 15, 3]), ([1, 1, 1, 0, 1, 1, 1], [2, 0]), ([0, 1, 1, 1, 1, 0, 1, 1, 1], [51, 0, 2, 15, 3]), ([1, 1, 1, 1, 1, 0, 1, 1, 1], [2, 0]), ([0, 1, 1, 1, 1, 1, 1, 0, 1, 1, 1], [56, 0, 2, 3]), ([1, 1, 1, 1, 1, 1, 1, 0, 1, 1, 1], [2, 0]), ([0, 0, 1, 1, 1, 1, 1, 1, 1, 1, 0, 1, 1, 1], [18, 0, 3, 2]), ([1, 0, 1, 1, 1, 1, 1, 1, 1, 1, 0, 1, 1, 1], [0, 3, 2]), ([0, 1, 0, 1, 1, 1, 1, 1, 1, 1, 1, 0, 1, 1, 1], [0, 3, 2]), ([0, 1, 1, 1, 1, 1, 1, 1, 1, 1, 0, 1, 1, 1], [3, 2, 0]), ([0, 1, 1, 1, 1, 1, 1, 1, 1, 1, 1, 0, 1, 1, 1], [2, 0]), ([1, 1, 1, 1, 1, 1, 1, 1, 1, 1, 1, 0, 1, 1, 1], [2, 0]), ([0, 0, 1, 1, 1, 1, 1, 1, 1, 0, 1, 1, 1], [4, 2, 0]), ([0, 1, 0, 1, 1, 1, 1, 1, 1, 1, 0, 1, 1, 1], [2, 0]), ([1, 1, 0, 1, 1, 1, 1, 1, 1, 1, 0, 1, 1, 1], [2, 0]), ([0, 0, 1, 1, 1, 1, 1, 0, 1, 1, 1], [2, 0]), ([1, 0, 1, 1, 1, 1, 1, 0, 1, 1, 1], [2, 0]), ([0, 0, 1, 1, 1, 0, 1, 1, 1], [2, 0]), ([0, 1, 0, 1, 1, 1, 0, 1, 1, 1], [2, 0]), ([1, 1, 0, 1, 1, 1, 0, 1, 1, 1], [2, 0]), ([0, 0, 1, 0, 1, 1, 1], [2, 0]), ([1, 0, 1, 0, 1, 1, 1], [2, 0]), ([1, 1, 1], [2, 0])]

noncomputable def regex_parser_atom_flt_E (N : Nat) (self : regex_parser_alt_flt_Self) : Env := mkEnv tys glob [(39, regex_parser_group_res N (regex_parser_alt N)), (40, regex_one_res N), (41, charset_Of_res N), (42, regex_parser_brackets_res N), (43, regex_parser_escape_res N), (44, strings_IndexByte_res N)] [] [] [0] false [] []

theorem regex_parser_atom_flt_Eok (N : Nat) (self : regex_parser_alt_flt_Self) : EnvOk Go.Proofs.Tryd.prog (regex_parser_atom_flt_E N self) := mkEnv_ok mixed tys_ok (FnsOk.cons (regex_parser_group_ct N (regex_parser_alt N) (regex_parser_alt_ct N)) (FnsOk.cons (regex_one_ct N) (FnsOk.cons (charset_Of_ct N) (FnsOk.cons (regex_parser_brackets_ct N) (FnsOk.cons (regex_parser_escape_ct N) (FnsOk.cons (strings_IndexByte_ct N) (FnsOk.nil))))))) (ItsOk.nil)

noncomputable def regex_parser_atom_flt_P (N : Nat) (self : regex_parser_alt_flt_Self) : PnT := pnT [(39, 36, regex_parser_group_flt_res N self), (42, 36, regex_parser_brackets_flt_res N), (43, 36, regex_parser_escape_flt_res N), (20, 36, regex_parser_fail_flt_res N), (19, 36, pnOf [(0, .box (.pair .str (.pair (.int .i64) (.pair (.int .i64) .unit))))] (fun x => self x.1) (fun z => ⟨(.pair (.int .i64) (.pair (.int .i64) .unit)), z⟩))]

theorem regex_parser_atom_flt_Pok (N : Nat) (self : regex_parser_alt_flt_Self) (hself : ContractP Go.Proofs.Tryd.prog glob 19 36 (pnOf [(0, .box (.pair .str (.pair (.int .i64) (.pair (.int .i64) .unit))))] (fun x => self x.1) (fun z => ⟨(.pair (.int .i64) (.pair (.int .i64) .unit)), z⟩))) : PnOk Go.Proofs.Tryd.prog glob (regex_parser_atom_flt_P N self) := PnOk.cons (regex_parser_group_flt_ct N self hself) (PnOk.cons (regex_parser_brackets_flt_ct N) (PnOk.cons (regex_parser_escape_flt_ct N) (PnOk.cons (regex_parser_fail_flt_ct N) (PnOk.cons (hself) (PnOk.nil)))))

noncomputable def regex_parser_atom_flt_p1 (N : Nat) (self : regex_parser_alt_flt_Self) (p : ((List UInt8) × (Int × (Int × Unit)))) (x2 : (Int × ((List Int) × ((List Tree) × (Int × (Int × Unit)))))) (b : Int) (k0 : (Int × (Int × Unit)) → Option (Int × (Int × Unit))) (k1 : Option (Int × (Int × Unit))) : Option (Int × (Int × Unit)) :=
 cond (decide ((0 : Int) ≤ (Go.Lib.indexByte ([(92 : UInt8), (46 : UInt8), (91 : UInt8), (93 : UInt8), (40 : UInt8), (41 : UInt8), (123 : UInt8), (125 : UInt8), (124 : UInt8), (42 : UInt8), (43 : UInt8), (63 : UInt8)] : List UInt8) (Nat.toUInt8 (Int.toNat b)))))
 (k0 ((2 : Int), (p.2.1, ())))
 (k1)

noncomputable def regex_parser_atom_flt_g1 (N : Nat) (self : regex_parser_alt_flt_Self) (x : denS [(0, .box (.pair .str (.pair (.int .i64) (.pair (.int .i64) .unit)))), (1, .box (.pair (.int .i64) (.pair (.arr 4 (.int .u64)) (.pair (.sl .nod) (.pair (.int .i64) (.pair (.int .i64) .unit)))))), (0, .v (.int .u8))]) (K : ExP → List A → Option (Int × (Int × Unit))) : Option (Int × (Int × Unit)) :=
 regex_parser_atom_flt_p1 N self x.1 x.2.1 x.2.2.1 (fun a0 => (K (.pan 36) (mkS [(0, .v (.pair (.int .i64) (.pair (.int .i64) .unit)))] 0 (a0, ())))) (K .normal (mkS [(0, .box (.pair .str (.pair (.int .i64) (.pair (.int .i64) .unit)))), (1, .box (.pair (.int .i64) (.pair (.arr 4 (.int .u64)) (.pair (.sl .nod) (.pair (.int .i64) (.pair (.int .i64) .unit)))))), (0, .v (.int .u8))] 61 (x.1, x.2.1, x.2.2.1, ())))

noncomputable def regex_parser_atom_flt_h1 (N : Nat) (self : regex_parser_alt_flt_Self) : HdP (Int × (Int × Unit)) := fun st K => (unS [(0, .box (.pair .str (.pair (.int .i64) (.pair (.int .i64) .unit)))), (1, .box (.pair (.int .i64) (.pair (.arr 4 (.int .u64)) (.pair (.sl .nod) (.pair (.int .i64) (.pair (.int .i64) .unit)))))), (0, .v (.int .u8))] 61 (restr [3, 0, 2] 0 st)).bind fun x => regex_parser_atom_flt_g1 N self x K

noncomputable def regex_parser_atom_flt_t1 (N : Nat) (self : regex_parser_alt_flt_Self) : TabP (Int × (Int × Unit)) := []

theorem regex_parser_atom_flt_ok1 {N : Nat} {self : regex_parser_alt_flt_Self} {c : Ctx} (hb : Base Go.Proofs.Tryd.prog (regex_parser_atom_flt_E N self) c) (hP : PnOk Go.Proofs.Tryd.prog glob (regex_parser_atom_flt_P N self)) : CodeOkP Go.Proofs.Tryd.prog c (nodeAt regex_parser_atom_flt_body [0, 1, 1, 1, 1, 1, 1, 1, 1, 0, 1, 1, 1]) (regex_parser_atom_flt_h1 N self) :=
  pieceP_ok (s := [(0, .box (.pair .str (.pair (.int .i64) (.pair (.int .i64) .unit)))), (1, .box (.pair (.int .i64) (.pair (.arr 4 (.int .u64)) (.pair (.sl .nod) (.pair (.int .i64) (.pair (.int .i64) .unit)))))), (0, .v (.int .u8))]) (m := 61) (g := regex_parser_atom_flt_g1 N self) [3, 0, 2] (evP_sound hb hP N (regex_parser_atom_flt_t1 N self) regex_parser_atom_flt_L regex_parser_atom_flt_body TabOkP.nil [0, 1, 1, 1, 1, 1, 1, 1, 1, 0, 1, 1, 1] _ rfl) (fun x K => by kernel_rfl)

noncomputable def regex_parser_atom_flt (N : Nat) (self : regex_parser_alt_flt_Self) (p : ((List UInt8) × (Int × (Int × Unit)))) : Option (Int × (Int × Unit)) :=
 cond (Go.Lift.inR p.2.1 (List.length p.1))
 (cond ((((UInt8.toNat (List.getD p.1 (Int.toNat p.2.1) (0 : UInt8))) : Nat) : Int) == (40 : Int))
 (orP ((regex_parser_group_flt N self p)) (fun z => some z)
 ((regex_parser_group N (regex_parser_alt N) p).bind fun y =>
 none))
 (cond ((((UInt8.toNat (List.getD p.1 (Int.toNat p.2.1) (0 : UInt8))) : Nat) : Int) == (46 : Int))
 ((charset_Of N (0 : Int) (255 : Int)).bind fun y1 =>
 none)
 (cond ((((UInt8.toNat (List.getD p.1 (Int.toNat p.2.1) (0 : UInt8))) : Nat) : Int) == (91 : Int))
 (orP ((regex_parser_brackets_flt N p)) (fun z1 => some z1)
 ((regex_parser_brackets N p).bind fun y2 =>
 none))
 (cond ((((UInt8.toNat (List.getD p.1 (Int.toNat p.2.1) (0 : UInt8))) : Nat) : Int) == (92 : Int))
 (orP ((regex_parser_escape_flt N p)) (fun z2 => some z2)
 ((regex_parser_escape N p).bind fun y3 =>
 none))
 (regex_parser_atom_flt_p1 N self p ((0 : Int), (([(0 : Int), (0 : Int), (0 : Int), (0 : Int)] : List Int), (([] : List Go.Lift.Tree), ((0 : Int), ((0 : Int), ()))))) (((UInt8.toNat (List.getD p.1 (Int.toNat p.2.1) (0 : UInt8))) : Nat) : Int)
 (fun p1 => some p1)
 ((charset_Of N (((UInt8.toNat (List.getD p.1 (Int.toNat p.2.1) (0 : UInt8))) : Nat) : Int) (((UInt8.toNat (List.getD p.1 (Int.toNat p.2.1) (0 : UInt8))) : Nat) : Int)).bind fun y4 =>
 none))))))
 (none)

noncomputable def regex_parser_atom_flt_t (N : Nat) (self : regex_parser_alt_flt_Self) : TabP (Int × (Int × Unit)) := [([0, 1, 1, 1, 1, 1, 1, 1, 1, 0, 1, 1, 1], regex_parser_atom_flt_h1 N self)]

theorem regex_parser_atom_flt_link (N : Nat) (self : regex_parser_alt_flt_Self) (x : denS [(0, .box (.pair .str (.pair (.int .i64) (.pair (.int .i64) .unit))))]) : panFX (regex_parser_atom_flt_E N self) (regex_parser_atom_flt_P N self) N (regex_parser_atom_flt_t N self) regex_parser_atom_flt_L Go.Proofs.Tryd.f34 36 (.pair (.int .i64) (.pair (.int .i64) .unit)) (mkS [(0, .box (.pair .str (.pair (.int .i64) (.pair (.int .i64) .unit))))] 0 x) (fun z => some z) = regex_parser_atom_flt N self x.1 := by kernel_rfl

noncomputable def regex_parser_atom_flt_res (N : Nat) (self : regex_parser_alt_flt_Self) : List A → PnRes := pnOf [(0, .box (.pair .str (.pair (.int .i64) (.pair (.int .i64) .unit))))] (fun x => regex_parser_atom_flt N self x.1) (fun z => ⟨(.pair (.int .i64) (.pair (.int .i64) .unit)), z⟩)

theorem regex_parser_atom_flt_ct (N : Nat) (self : regex_parser_alt_flt_Self) (hself : ContractP Go.Proofs.Tryd.prog glob 19 36 (pnOf [(0, .box (.pair .str (.pair (.int .i64) (.pair (.int .i64) .unit))))] (fun x => self x.1) (fun z => ⟨(.pair (.int .i64) (.pair (.int .i64) .unit)), z⟩))) : ContractP Go.Proofs.Tryd.prog glob 34 36 (regex_parser_atom_flt_res N self) :=
  ContractP.of (E := regex_parser_atom_flt_E N self) (Pn := regex_parser_atom_flt_P N self) (H := regex_parser_atom_flt_t N self) (L := regex_parser_atom_flt_L) (N := N) (body := regex_parser_atom_flt_body) (t := (.pair (.int .i64) (.pair (.int .i64) .unit))) (regex_parser_atom_flt_Eok N self) (regex_parser_atom_flt_Pok N self hself) Go.Proofs.Tryd.func34 (by kernel_rfl) (by decide) (fun _ hb => (TabOkP.cons (regex_parser_atom_flt_ok1 hb (regex_parser_atom_flt_Pok N self hself)) TabOkP.nil)) (fun x y h => by rw [regex_parser_atom_flt_link]; exact h)

noncomputable def regex_parser_piece_flt_body : Code := (Go.Proofs.Tryd.f32.body).getD .skip

noncomputable def regex_parser_piece_flt_L : List (List Nat × List Nat) := [([0], [0, 2]), ([0, 1], [0, 3, 2]), ([0, 0, 1, 1], [16, 3, 2, 0]), ([1, 0, 1, 1], [3, 0, 2]), ([0, 0, 1, 0, 1, 1], [2, 0]), ([1, 0, 1, 0, 1, 1], [2, 0]), ([0, 1, 1, 1], [0, 4, 2, 3]), ([0, 0, 1, 1, 1, 1], [29, 4, 0, 2, 3]), ([0, 0, 0, 0, 0, 0, 0, 0, 0, 0, 0, 0, 0, 0, 1, 0, 1, 1, 1, 1], [30, 4, 0, 2, 29, 3]), ([1, 0, 0, 0, 0, 0, 0, 0, 0, 0, 0, 0, 0, 0, 1, 0, 1, 1, 1, 1], [29, 0, 4, 2, 3]), ([0, 1, 0, 0, 0, 0, 0, 0, 0, 0, 0, 0, 0, 0, 0, 1, 0, 1, 1, 1, 1], [4, 0, 2]), ([0, 0, 1, 0, 0, 0, 0, 0, 0, 0, 0, 0, 0, 0, 0, 1, 0, 1, 1, 1, 1], [32, 0, 4, 2, 29, 3]), ([1, 0, 1, 0, 0, 0, 0, 0, 0, 0, 0, 0, 0, 0, 0, 1, 0, 1, 1, 1, 1], [29, 0, 4, 2, 3]), ([0, 1, 0, 1, 0, 0, 0, 0, 0, 0, 0, 0, 0, 0, 0, 0, 1, 0, 1, 1, 1, 1], [0, 4, 2]), ([0, 0, 1, 1, 0, 0, 0, 0, 0, 0, 0, 0, 0, 0, 0, 0, 1, 0, 1, 1, 1, 1], [34, 0, 4, 2, 29, 3]), ([1, 0, 1, 1, 0, 0, 0, 0, 0, 0, 0, 0, 0, 0, 0, 0, 1, 0, 1, 1, 1, 1], [29, 0, 4, 2, 3]), ([0, 1, 0, 1, 1, 0, 0, 0, 0, 0, 0, 0, 0, 0, 0, 0, 0, 1, 0, 1, 1, 1, 1], [0, 4, 2]), ([0, 1, 1, 1, 0, 0, 0, 0, 0, 0, 0, 0, 0, 0, 0, 0, 1, 0, 1, 1, 1, 1], [36, 0, 4, 2, 3]), ([1, 1, 1, 1, 0, 0, 0, 0, 0, 0, 0, 0, 0, 0, 0, 0, 1, 0, 1, 1, 1, 1], [3, 2, 0]), ([0, 1, 1, 1, 1, 0, 0, 0, 0, 0, 0, 0, 0, 0, 0, 0, 0, 1, 0, 1, 1, 1, 1], [0, 4, 2]), ([1, 0, 0, 0, 0, 0, 0, 0, 0, 0, 0, 0, 1, 0, 1, 1, 1, 1], [3, 2, 0]), ([0, 0, 0, 0, 0, 0, 0, 0, 0, 0, 1, 0, 1, 1, 1, 1], [4, 0, 2]), ([1, 0, 0, 0, 0, 0, 0, 0, 0, 0, 1, 0, 1, 1, 1, 1], [0, 4, 2]), ([0, 0, 0, 0, 0, 0, 0, 0, 1, 0, 1, 1, 1, 1], [0, 4, 2]), ([0, 1, 0, 0, 0, 0, 0, 0, 0, 1, 0, 1, 1, 1, 1], [4, 2, 0]), ([1, 1, 0, 0, 0, 0, 0, 0, 0, 1, 0, 1, 1, 1, 1], [4, 2, 0]), ([0, 0, 0, 0, 0, 0, 1, 0, 1, 1, 1, 1], [0, 4, 2]), ([0, 0, 1, 0, 0, 0, 0, 0, 1, 0, 1, 1, 1, 1], [4, 2, 0]), ([1, 0, 1, 0, 0, 0, 0, 0, 1, 0, 1, 1, 1, 1], [4, 2, 0]), ([1, 1, 0, 0, 0, 0, 0, 1, 0, 1, 1, 1, 1], [4, 2, 0]), ([0, 0, 0, 0, 1, 0, 1, 1, 1, 1], [0, 4, 2]), ([0, 0, 1, 0, 0, 0, 1, 0, 1, 1, 1, 1], [0, 4, 2]), ([1, 0, 1, 0, 0, 0, 1, 0, 1, 1, 1, 1], [4, 2, 0]), ([1, 1, 0, 0, 0, 1, 0, 1, 1, 1, 1], [4, 2, 0]), ([0, 0, 1, 0, 1, 1, 1, 1], [3, 2, 0]), ([0, 0, 1, 0, 1, 0, 1, 1, 1, 1], [2, 0]), ([1, 0, 1, 0, 1, 0, 1, 1, 1, 1], [2, 0]), ([1, 1, 0, 1, 0, 1, 1, 1, 1], [4, 2, 0]), ([1, 0, 1, 1, 1, 1], [4, 2, 0]), ([0, 1, 1, 1, 1, 1], [2, 0]), ([1, 1, 1, 1, 1, 1], [2, 0])]

noncomputable def regex_parser_piece_flt_E (N : Nat) (self : regex_parser_alt_flt_Self) : Env := mkEnv tys glob [(34, regex_parser_atom_res N (regex_parser_alt N)), (35, regex_parser_braces_res N)] [] [] [0] false [] []

theorem regex_parser_piece_flt_Eok (N : Nat) (self : regex_parser_alt_flt_Self) : EnvOk Go.Proofs.Tryd.prog (regex_parser_piece_flt_E N self) := mkEnv_ok mixed tys_ok (FnsOk.cons (regex_parser_atom_ct N (regex_parser_alt N) (regex_parser_alt_ct N)) (FnsOk.cons (regex_parser_braces_ct N) (FnsOk.nil))) (ItsOk.nil)

noncomputable def regex_parser_piece_flt_P (N : Nat) (self : regex_parser_alt_flt_Self) : PnT := pnT [(34, 36, regex_parser_atom_flt_res N self), (35, 36, regex_parser_braces_flt_res N), (19, 36, pnOf [(0, .box (.pair .str (.pair (.int .i64) (.pair (.int .i64) .unit))))] (fun x => self x.1) (fun z => ⟨(.pair (.int .i64) (.pair (.int .i64) .unit)), z⟩))]

theorem regex_parser_piece_flt_Pok (N : Nat) (self : regex_parser_alt_flt_Self) (hself : ContractP Go.Proofs.Tryd.prog glob 19 36 (pnOf [(0, .box (.pair .str (.pair (.int .i64) (.pair (.int .i64) .unit))))] (fun x => self x.1) (fun z => ⟨(.pair (.int .i64) (.pair (.int .i64) .unit)), z⟩))) : PnOk Go.Proofs.Tryd.prog glob (regex_parser_piece_flt_P N self) := PnOk.cons (regex_parser_atom_flt_ct N self hself) (PnOk.cons (regex_parser_braces_flt_ct N) (PnOk.cons (hself) (PnOk.nil)))

noncomputable def regex_parser_piece_flt_p1 (N : Nat) (self : regex_parser_alt_flt_Self) (p : ((List UInt8) × (Int × (Int × Unit)))) (x2 : (Int × ((List Int) × ((List Tree) × (Int × (Int × Unit)))))) (kid : (Int × ((List Int) × ((List Tree) × (Int × (Int × Unit)))))) (rep : (Int × ((List Int) × ((List Tree) × (Int × (Int × Unit)))))) (x29 : Int) (k0 : (Int × ((List Int) × ((List Tree) × (Int × (Int × Unit))))) → Option (Int × (Int × Unit))) (k1 : Option (Int × (Int × Unit))) (k2 : Option (Int × (Int × Unit))) (k3 : Option (Int × (Int × Unit))) : Option (Int × (Int × Unit)) :=
 cond (x29 == (43 : Int))
 (k0 (rep.1, (rep.2.1, (rep.2.2.1, ((1 : Int), rep.2.2.2.2)))))
 (cond (x29 == (42 : Int))
 (k0 rep)
 (cond (x29 == (63 : Int))
 (k1)
 (cond (x29 == (123 : Int))
 (k2)
 (k3))))

noncomputable def regex_parser_piece_flt_g1 (N : Nat) (self : regex_parser_alt_flt_Self) (x : denS [(0, .box (.pair .str (.pair (.int .i64) (.pair (.int .i64) .unit)))), (1, .box (.pair (.int .i64) (.pair (.arr 4 (.int .u64)) (.pair (.sl .nod) (.pair (.int .i64) (.pair (.int .i64) .unit)))))), (0, .box (.pair (.int .i64) (.pair (.arr 4 (.int .u64)) (.pair (.sl .nod) (.pair (.int .i64) (.pair (.int .i64) .unit)))))), (0, .box (.pair (.int .i64) (.pair (.arr 4 (.int .u64)) (.pair (.sl .nod) (.pair (.int .i64) (.pair (.int .i64) .unit)))))), (24, .v (.int .u8))]) (K : ExP → List A → Option (Int × (Int × Unit))) : Option (Int × (Int × Unit)) :=
 regex_parser_piece_flt_p1 N self x.1 x.2.1 x.2.2.1 x.2.2.2.1 x.2.2.2.2.1 (fun a2 => (K .normal (mkS [(0, .box (.pair .str (.pair (.int .i64) (.pair (.int .i64) .unit)))), (1, .box (.pair (.int .i64) (.pair (.arr 4 (.int .u64)) (.pair (.sl .nod) (.pair (.int .i64) (.pair (.int .i64) .unit)))))), (1, .box (.pair (.int .i64) (.pair (.arr 4 (.int .u64)) (.pair (.sl .nod) (.pair (.int .i64) (.pair (.int .i64) .unit))))))] 65 (x.1, x.2.1, a2, ())))) (K (.exit 3) (mkS [(0, .box (.pair .str (.pair (.int .i64) (.pair (.int .i64) .unit)))), (1, .box (.pair (.int .i64) (.pair (.arr 4 (.int .u64)) (.pair (.sl .nod) (.pair (.int .i64) (.pair (.int .i64) .unit)))))), (1, .box (.pair (.int .i64) (.pair (.arr 4 (.int .u64)) (.pair (.sl .nod) (.pair (.int .i64) (.pair (.int .i64) .unit))))))] 65 (x.1, x.2.1, x.2.2.2.1, ()))) (K (.exit 4) (mkS [(0, .box (.pair .str (.pair (.int .i64) (.pair (.int .i64) .unit)))), (1, .box (.pair (.int .i64) (.pair (.arr 4 (.int .u64)) (.pair (.sl .nod) (.pair (.int .i64) (.pair (.int .i64) .unit)))))), (1, .box (.pair (.int .i64) (.pair (.arr 4 (.int .u64)) (.pair (.sl .nod) (.pair (.int .i64) (.pair (.int .i64) .unit))))))] 65 (x.1, x.2.1, x.2.2.2.1, ()))) (K (.exit 5) (mkS [(0, .box (.pair .str (.pair (.int .i64) (.pair (.int .i64) .unit)))), (1, .box (.pair (.int .i64) (.pair (.arr 4 (.int .u64)) (.pair (.sl .nod) (.pair (.int .i64) (.pair (.int .i64) .unit)))))), (0, .box (.pair (.int .i64) (.pair (.arr 4 (.int .u64)) (.pair (.sl .nod) (.pair (.int .i64) (.pair (.int .i64) .unit))))))] 66 (x.1, x.2.1, x.2.2.1, ())))

noncomputable def regex_parser_piece_flt_h1 (N : Nat) (self : regex_parser_alt_flt_Self) : HdP (Int × (Int × Unit)) := fun st K => (unS [(0, .box (.pair .str (.pair (.int .i64) (.pair (.int .i64) .unit)))), (1, .box (.pair (.int .i64) (.pair (.arr 4 (.int .u64)) (.pair (.sl .nod) (.pair (.int .i64) (.pair (.int .i64) .unit)))))), (0, .box (.pair (.int .i64) (.pair (.arr 4 (.int .u64)) (.pair (.sl .nod) (.pair (.int .i64) (.pair (.int .i64) .unit)))))), (0, .box (.pair (.int .i64) (.pair (.arr 4 (.int .u64)) (.pair (.sl .nod) (.pair (.int .i64) (.pair (.int .i64) .unit)))))), (24, .v (.int .u8))] 40 (restr [29, 4, 0, 2, 3] 0 st)).bind fun x => regex_parser_piece_flt_g1 N self x K

noncomputable def regex_parser_piece_flt_t1 (N : Nat) (self : regex_parser_alt_flt_Self) : TabP (Int × (Int × Unit)) := []

theorem regex_parser_piece_flt_ok1 {N : Nat} {self : regex_parser_alt_flt_Self} {c : Ctx} (hb : Base Go.Proofs.Tryd.prog (regex_parser_piece_flt_E N self) c) (hP : PnOk Go.Proofs.Tryd.prog glob (regex_parser_piece_flt_P N self)) : CodeOkP Go.Proofs.Tryd.prog c (nodeAt regex_parser_piece_flt_body [0, 0, 0, 0, 0, 0, 0, 0, 1, 0, 1, 1, 1, 1]) (regex_parser_piece_flt_h1 N self) :=
  pieceP_ok (s := [(0, .box (.pair .str (.pair (.int .i64) (.pair (.int .i64) .unit)))), (1, .box (.pair (.int .i64) (.pair (.arr 4 (.int .u64)) (.pair (.sl .nod) (.pair (.int .i64) (.pair (.int .i64) .unit)))))), (0, .box (.pair (.int .i64) (.pair (.arr 4 (.int .u64)) (.pair (.sl .nod) (.pair (.int .i64) (.pair (.int .i64) .unit)))))), (0, .box (.pair (.int .i64) (.pair (.arr 4 (.int .u64)) (.pair (.sl .nod) (.pair (.int .i64) (.pair (.int .i64) .unit)))))), (24, .v (.int .u8))]) (m := 40) (g := regex_parser_piece_flt_g1 N self) [29, 4, 0, 2, 3] (evP_sound hb hP N (regex_parser_piece_flt_t1 N self) regex_parser_piece_flt_L regex_parser_piece_flt_body TabOkP.nil [0, 0, 0, 0, 0, 0, 0, 0, 1, 0, 1, 1, 1, 1] _ rfl) (fun x K => by kernel_rfl)

noncomputable def regex_parser_piece_flt (N : Nat) (self : regex_parser_alt_flt_Self) (p : ((List UInt8) × (Int × (Int × Unit)))) : Option (Int × (Int × Unit)) :=
 orP ((regex_parser_atom_flt N self p)) (fun z => some z)
 ((regex_parser_atom N (regex_parser_alt N) p).bind fun y =>
 cond (y.2.1.2.1 == (((List.length y.2.1.1) : Nat) : Int))
 (none)
 (cond (Go.Lift.inR y.2.1.2.1 (List.length y.2.1.1))
 (regex_parser_piece_flt_p1 N self y.2.1 ((0 : Int), (([(0 : Int), (0 : Int), (0 : Int), (0 : Int)] : List Int), (([] : List Go.Lift.Tree), ((0 : Int), ((0 : Int), ()))))) y.1 ((4 : Int), (([(0 : Int), (0 : Int), (0 : Int), (0 : Int)] : List Int), ((List.map Go.Lift.foN ([y.1] : List (Int × ((List Int) × ((List Go.Lift.Tree) × (Int × (Int × Unit))))))), ((0 : Int), ((-(1 : Int)), ()))))) (((UInt8.toNat (List.getD y.2.1.1 (Int.toNat y.2.1.2.1) (0 : UInt8))) : Nat) : Int)
 (fun rep => none)
 (none)
 (orP ((regex_parser_braces_flt N (y.2.1.1, ((Go.IntKind.wrap Go.IntKind.i64 (y.2.1.2.1 + (1 : Int))), y.2.1.2.2)))) (fun z1 => some z1)
 ((regex_parser_braces N (y.2.1.1, ((Go.IntKind.wrap Go.IntKind.i64 (y.2.1.2.1 + (1 : Int))), y.2.1.2.2))).bind fun y1 =>
 none))
 (none))
 (none)))

noncomputable def regex_parser_piece_flt_t (N : Nat) (self : regex_parser_alt_flt_Self) : TabP (Int × (Int × Unit)) := [([0, 0, 0, 0, 0, 0, 0, 0, 1, 0, 1, 1, 1, 1], regex_parser_piece_flt_h1 N self)]

theorem regex_parser_piece_flt_link (N : Nat) (self : regex_parser_alt_flt_Self) (x : denS [(0, .box (.pair .str (.pair (.int .i64) (.pair (.int .i64) .unit))))]) : panFX (regex_parser_piece_flt_E N self) (regex_parser_piece_flt_P N self) N (regex_parser_piece_flt_t N self) regex_parser_piece_flt_L Go.Proofs.Tryd.f32 36 (.pair (.int .i64) (.pair (.int .i64) .unit)) (mkS [(0, .box (.pair .str (.pair (.int .i64) (.pair (.int .i64) .unit))))] 0 x) (fun z => some z) = regex_parser_piece_flt N self x.1 := by kernel_rfl

noncomputable def regex_parser_piece_flt_res (N : Nat) (self : regex_parser_alt_flt_Self) : List A → PnRes := pnOf [(0, .box (.pair .str (.pair (.int .i64) (.pair (.int .i64) .unit))))] (fun x => regex_parser_piece_flt N self x.1) (fun z => ⟨(.pair (.int .i64) (.pair (.int .i64) .unit)), z⟩)

theorem regex_parser_piece_flt_ct (N : Nat) (self : regex_parser_alt_flt_Self) (hself : ContractP Go.Proofs.Tryd.prog glob 19 36 (pnOf [(0, .box (.pair .str (.pair (.int .i64) (.pair (.int .i64) .unit))))] (fun x => self x.1) (fun z => ⟨(.pair (.int .i64) (.pair (.int .i64) .unit)), z⟩))) : ContractP Go.Proofs.Tryd.prog glob 32 36 (regex_parser_piece_flt_res N self) :=
  ContractP.of (E := regex_parser_piece_flt_E N self) (Pn := regex_parser_piece_flt_P N self) (H := regex_parser_piece_flt_t N self) (L := regex_parser_piece_flt_L) (N := N) (body := regex_parser_piece_flt_body) (t := (.pair (.int .i64) (.pair (.int .i64) .unit))) (regex_parser_piece_flt_Eok N self) (regex_parser_piece_flt_Pok N self hself) Go.Proofs.Tryd.func32 (by kernel_rfl) (by decide) (fun _ hb => (TabOkP.cons (regex_parser_piece_flt_ok1 hb (regex_parser_piece_flt_Pok N self hself)) TabOkP.nil)) (fun x y h => by rw [regex_parser_piece_flt_link]; exact h)

noncomputable def regex_parser_cat_flt_body : Code := (Go.Proofs.Tryd.f25.body).getD .skip

noncomputable def regex_parser_cat_flt_L : List (List Nat × List Nat) := [([0], [0, 2]), ([0, 1], [0, 3, 2]), ([0, 0, 1, 1], [0, 3, 2]), ([0, 0, 0, 0, 0, 1, 1], [37, 3, 0, 2]), ([1, 0, 0, 0, 0, 1, 1], [3, 0, 2]), ([1, 1, 0, 0, 0, 0, 1, 1], [3, 2, 0]), ([0, 1, 0, 0, 0, 1, 1], [0, 3, 2]), ([1, 0, 0, 0, 1, 1], [0, 3, 2]), ([0, 1, 1], [3, 2, 0]), ([0, 1, 1, 1], [2, 0]), ([1, 1, 1, 1], [2, 0])]

noncomputable def regex_parser_cat_flt_E (N : Nat) (self : regex_parser_alt_flt_Self) : Env := mkEnv tys glob [(27, regex_join_res N), (32, regex_parser_piece_res N (regex_parser_alt N))] [(3, (.pair (.int .i64) (.pair (.arr 4 (.int .u64)) (.pair (.sl .nod) (.pair (.int .i64) (.pair (.int .i64) .unit))))))] [] [0] false [] []

theorem regex_parser_cat_flt_Eok (N : Nat) (self : regex_parser_alt_flt_Self) : EnvOk Go.Proofs.Tryd.prog (regex_parser_cat_flt_E N self) := mkEnv_ok mixed tys_ok (FnsOk.cons (regex_join_ct N) (FnsOk.cons (regex_parser_piece_ct N (regex_parser_alt N) (regex_parser_alt_ct N)) (FnsOk.nil))) (ItsOk.nil)

noncomputable def regex_parser_cat_flt_P (N : Nat) (self : regex_parser_alt_flt_Self) : PnT := pnT [(32, 36, regex_parser_piece_flt_res N self), (19, 36, pnOf [(0, .box (.pair .str (.pair (.int .i64) (.pair (.int .i64) .unit))))] (fun x => self x.1) (fun z => ⟨(.pair (.int .i64) (.pair (.int .i64) .unit)), z⟩))]

theorem regex_parser_cat_flt_Pok (N : Nat) (self : regex_parser_alt_flt_Self) (hself : ContractP Go.Proofs.Tryd.prog glob 19 36 (pnOf [(0, .box (.pair .str (.pair (.int .i64) (.pair (.int .i64) .unit))))] (fun x => self x.1) (fun z => ⟨(.pair (.int .i64) (.pair (.int .i64) .unit)), z⟩))) : PnOk Go.Proofs.Tryd.prog glob (regex_parser_cat_flt_P N self) := PnOk.cons (regex_parser_piece_flt_ct N self hself) (PnOk.cons (hself) (PnOk.nil))

noncomputable def regex_parser_cat_flt_p3 (N : Nat) (self : regex_parser_alt_flt_Self) (p : ((List UInt8) × (Int × (Int × Unit)))) (x2 : (Int × ((List Int) × ((List Tree) × (Int × (Int × Unit)))))) (parts : (List (Int × ((List Int) × ((List Tree) × (Int × (Int × Unit))))))) (k0 : Option (Int × (Int × Unit))) (k1 : Option (Int × (Int × Unit))) : Option (Int × (Int × Unit)) :=
 cond (decide (p.2.1 < (((List.length p.1) : Nat) : Int)))
 (cond (Go.Lift.inR p.2.1 (List.length p.1))
 (cond ((((UInt8.toNat (List.getD p.1 (Int.toNat p.2.1) (0 : UInt8))) : Nat) : Int) != (124 : Int))
 (cond (Go.Lift.inR p.2.1 (List.length p.1))
 (cond ((((UInt8.toNat (List.getD p.1 (Int.toNat p.2.1) (0 : UInt8))) : Nat) : Int) != (41 : Int))
 (k0)
 (k1))
 (none))
 (k1))
 (none))
 (k1)

noncomputable def regex_parser_cat_flt_g3 (N : Nat) (self : regex_parser_alt_flt_Self) (x : denS [(0, .box (.pair .str (.pair (.int .i64) (.pair (.int .i64) .unit)))), (1, .box (.pair (.int .i64) (.pair (.arr 4 (.int .u64)) (.pair (.sl .nod) (.pair (.int .i64) (.pair (.int .i64) .unit)))))), (0, .row (.pair (.int .i64) (.pair (.arr 4 (.int .u64)) (.pair (.sl .nod) (.pair (.int .i64) (.pair (.int .i64) .unit))))))]) (K : ExP → List A → Option (Int × (Int × Unit))) : Option (Int × (Int × Unit)) :=
 regex_parser_cat_flt_p3 N self x.1 x.2.1 x.2.2.1 (K .normal (mkS [(0, .box (.pair .str (.pair (.int .i64) (.pair (.int .i64) .unit)))), (1, .box (.pair (.int .i64) (.pair (.arr 4 (.int .u64)) (.pair (.sl .nod) (.pair (.int .i64) (.pair (.int .i64) .unit)))))), (0, .row (.pair (.int .i64) (.pair (.arr 4 (.int .u64)) (.pair (.sl .nod) (.pair (.int .i64) (.pair (.int .i64) .unit))))))] 41 (x.1, x.2.1, x.2.2.1, ()))) (K (.exit 0) (mkS [(0, .box (.pair .str (.pair (.int .i64) (.pair (.int .i64) .unit)))), (1, .box (.pair (.int .i64) (.pair (.arr 4 (.int .u64)) (.pair (.sl .nod) (.pair (.int .i64) (.pair (.int .i64) .unit)))))), (0, .row (.pair (.int .i64) (.pair (.arr 4 (.int .u64)) (.pair (.sl .nod) (.pair (.int .i64) (.pair (.int .i64) .unit))))))] 41 (x.1, x.2.1, x.2.2.1, ())))

noncomputable def regex_parser_cat_flt_h3 (N : Nat) (self : regex_parser_alt_flt_Self) : HdP (Int × (Int × Unit)) := fun st K => (unS [(0, .box (.pair .str (.pair (.int .i64) (.pair (.int .i64) .unit)))), (1, .box (.pair (.int .i64) (.pair (.arr 4 (.int .u64)) (.pair (.sl .nod) (.pair (.int .i64) (.pair (.int .i64) .unit)))))), (0, .row (.pair (.int .i64) (.pair (.arr 4 (.int .u64)) (.pair (.sl .nod) (.pair (.int .i64) (.pair (.int .i64) .unit))))))] 41 (restr [0, 3, 2] 0 st)).bind fun x => regex_parser_cat_flt_g3 N self x K

noncomputable def regex_parser_cat_flt_t3 (N : Nat) (self : regex_parser_alt_flt_Self) : TabP (Int × (Int × Unit)) := []

theorem regex_parser_cat_flt_ok3 {N : Nat} {self : regex_parser_alt_flt_Self} {c : Ctx} (hb : Base Go.Proofs.Tryd.prog (regex_parser_cat_flt_E N self) c) (hP : PnOk Go.Proofs.Tryd.prog glob (regex_parser_cat_flt_P N self)) : CodeOkP Go.Proofs.Tryd.prog c (nodeAt regex_parser_cat_flt_body [0, 0, 0, 0, 1, 1]) (regex_parser_cat_flt_h3 N self) :=
  pieceP_ok (s := [(0, .box (.pair .str (.pair (.int .i64) (.pair (.int .i64) .unit)))), (1, .box (.pair (.int .i64) (.pair (.arr 4 (.int .u64)) (.pair (.sl .nod) (.pair (.int .i64) (.pair (.int .i64) .unit)))))), (0, .row (.pair (.int .i64) (.pair (.arr 4 (.int .u64)) (.pair (.sl .nod) (.pair (.int .i64) (.pair (.int .i64) .unit))))))]) (m := 41) (g := regex_parser_cat_flt_g3 N self) [0, 3, 2] (evP_sound hb hP N (regex_parser_cat_flt_t3 N self) regex_parser_cat_flt_L regex_parser_cat_flt_body TabOkP.nil [0, 0, 0, 0, 1, 1] _ rfl) (fun x K => by kernel_rfl)

noncomputable def regex_parser_cat_flt_s2 (N : Nat) (self : regex_parser_alt_flt_Self) (x2 : (Int × ((List Int) × ((List Tree) × (Int × (Int × Unit)))))) (p : ((List UInt8) × (Int × (Int × Unit)))) (parts : (List (Int × ((List Int) × ((List Tree) × (Int × (Int × Unit))))))) (rec : ((List UInt8) × (Int × (Int × Unit))) → (List (Int × ((List Int) × ((List Tree) × (Int × (Int × Unit)))))) → Option (Int × (Int × Unit))) (k0 : (Int × (Int × Unit)) → Option (Int × (Int × Unit))) (k1 : ((List UInt8) × (Int × (Int × Unit))) → (List (Int × ((List Int) × ((List Tree) × (Int × (Int × Unit)))))) → Option (Int × (Int × Unit))) : Option (Int × (Int × Unit)) :=
 regex_parser_cat_flt_p3 N self p x2 parts
 (orP ((regex_parser_piece_flt N self p)) (fun z => k0 z)
 ((regex_parser_piece N (regex_parser_alt N) p).bind fun y =>
 cond (decide ((((List.length parts) + 1) * 80) ≤ 70368744177664))
 (rec y.2.1 (parts ++ ([y.1] : List (Int × ((List Int) × ((List Go.Lift.Tree) × (Int × (Int × Unit))))))))
 (none)))
 (k1 p parts)

noncomputable def regex_parser_cat_flt_p2 (N : Nat) (self : regex_parser_alt_flt_Self) (p : ((List UInt8) × (Int × (Int × Unit)))) (x2 : (Int × ((List Int) × ((List Tree) × (Int × (Int × Unit)))))) (parts : (List (Int × ((List Int) × ((List Tree) × (Int × (Int × Unit))))))) (k0 : (Int × (Int × Unit)) → Option (Int × (Int × Unit))) (k1 : ((List UInt8) × (Int × (Int × Unit))) → (List (Int × ((List Int) × ((List Tree) × (Int × (Int × Unit)))))) → Option (Int × (Int × Unit))) : Option (Int × (Int × Unit)) :=
 iter (fun (v : (((List UInt8) × (Int × (Int × Unit))) × (List (Int × ((List Int) × ((List Tree) × (Int × (Int × Unit)))))))) r => regex_parser_cat_flt_s2 N self x2 v.1 v.2 (fun p parts => (r (p, parts))) k0 k1) N (p, parts)

noncomputable def regex_parser_cat_flt_g2 (N : Nat) (self : regex_parser_alt_flt_Self) (i : (Int × ((List Int) × ((List Tree) × (Int × (Int × Unit)))))) (v : (((List UInt8) × (Int × (Int × Unit))) × (List (Int × ((List Int) × ((List Tree) × (Int × (Int × Unit)))))))) (r : (((List UInt8) × (Int × (Int × Unit))) × (List (Int × ((List Int) × ((List Tree) × (Int × (Int × Unit))))))) → Option (Int × (Int × Unit))) (K : ExP → List A → Option (Int × (Int × Unit))) : Option (Int × (Int × Unit)) :=
 regex_parser_cat_flt_s2 N self i v.1 v.2 (fun p parts => (r (p, parts))) (fun a0 => (K (.pan 36) (mkS [(0, .v (.pair (.int .i64) (.pair (.int .i64) .unit)))] 0 (a0, ())))) (fun a0 a2 => (K (.exit 0) (mkS [(0, .box (.pair .str (.pair (.int .i64) (.pair (.int .i64) .unit)))), (1, .box (.pair (.int .i64) (.pair (.arr 4 (.int .u64)) (.pair (.sl .nod) (.pair (.int .i64) (.pair (.int .i64) .unit)))))), (0, .row (.pair (.int .i64) (.pair (.arr 4 (.int .u64)) (.pair (.sl .nod) (.pair (.int .i64) (.pair (.int .i64) .unit))))))] 41 (a0, i, a2, ()))))

noncomputable def regex_parser_cat_flt_h2 (N : Nat) (self : regex_parser_alt_flt_Self) : HdP (Int × (Int × Unit)) := fun st K => (unS [(0, .box (.pair .str (.pair (.int .i64) (.pair (.int .i64) .unit)))), (1, .box (.pair (.int .i64) (.pair (.arr 4 (.int .u64)) (.pair (.sl .nod) (.pair (.int .i64) (.pair (.int .i64) .unit)))))), (0, .row (.pair (.int .i64) (.pair (.arr 4 (.int .u64)) (.pair (.sl .nod) (.pair (.int .i64) (.pair (.int .i64) .unit))))))] 41 (restr [0, 3, 2] 0 st)).bind fun x => iter (fun v r => regex_parser_cat_flt_g2 N self ((fun x => x.2.1) x) v r K) N ((fun x => (x.1, x.2.2.1)) x)

noncomputable def regex_parser_cat_flt_t2 (N : Nat) (self : regex_parser_alt_flt_Self) : TabP (Int × (Int × Unit)) := [([0, 0, 0, 0, 1, 1], regex_parser_cat_flt_h3 N self)]

theorem regex_parser_cat_flt_ok2 {N : Nat} {self : regex_parser_alt_flt_Self} {c : Ctx} (hb : Base Go.Proofs.Tryd.prog (regex_parser_cat_flt_E N self) c) (hP : PnOk Go.Proofs.Tryd.prog glob (regex_parser_cat_flt_P N self)) : CodeOkP Go.Proofs.Tryd.prog c (nodeAt regex_parser_cat_flt_body [0, 0, 1, 1]) (regex_parser_cat_flt_h2 N self) :=
  loopP_ok (s := [(0, .box (.pair .str (.pair (.int .i64) (.pair (.int .i64) .unit)))), (1, .box (.pair (.int .i64) (.pair (.arr 4 (.int .u64)) (.pair (.sl .nod) (.pair (.int .i64) (.pair (.int .i64) .unit)))))), (0, .row (.pair (.int .i64) (.pair (.arr 4 (.int .u64)) (.pair (.sl .nod) (.pair (.int .i64) (.pair (.int .i64) .unit))))))]) (m := 41) (regex_parser_cat_flt_g2 N self) [0, 3, 2] N (fun x => x.2.1) (fun x => (x.1, x.2.2.1)) (fun i v => (v.1, i, v.2, ())) (fun _ => rfl) (evP_sound hb hP N (regex_parser_cat_flt_t2 N self) regex_parser_cat_flt_L regex_parser_cat_flt_body (TabOkP.cons (regex_parser_cat_flt_ok3 hb hP) TabOkP.nil) [0, 0, 0, 1, 1] _ rfl) (fun i v r K => by kernel_rfl)

noncomputable def regex_parser_cat_flt_p1 (N : Nat) (self : regex_parser_alt_flt_Self) (p : ((List UInt8) × (Int × (Int × Unit)))) (x2 : (Int × ((List Int) × ((List Tree) × (Int × (Int × Unit)))))) (parts : (List (Int × ((List Int) × ((List Tree) × (Int × (Int × Unit))))))) (k0 : (Int × (Int × Unit)) → Option (Int × (Int × Unit))) (k1 : ((List UInt8) × (Int × (Int × Unit))) → (List (Int × ((List Int) × ((List Tree) × (Int × (Int × Unit)))))) → Option (Int × (Int × Unit))) : Option (Int × (Int × Unit)) :=
 regex_parser_cat_flt_p2 N self p x2 parts
 (fun p1 => k0 p1)
 (fun p2 parts1 => k1 p2 parts1)

noncomputable def regex_parser_cat_flt_g1 (N : Nat) (self : regex_parser_alt_flt_Self) (x : denS [(0, .box (.pair .str (.pair (.int .i64) (.pair (.int .i64) .unit)))), (1, .box (.pair (.int .i64) (.pair (.arr 4 (.int .u64)) (.pair (.sl .nod) (.pair (.int .i64) (.pair (.int .i64) .unit)))))), (0, .row (.pair (.int .i64) (.pair (.arr 4 (.int .u64)) (.pair (.sl .nod) (.pair (.int .i64) (.pair (.int .i64) .unit))))))]) (K : ExP → List A → Option (Int × (Int × Unit))) : Option (Int × (Int × Unit)) :=
 regex_parser_cat_flt_p1 N self x.1 x.2.1 x.2.2.1 (fun a0 => (K (.pan 36) (mkS [(0, .v (.pair (.int .i64) (.pair (.int .i64) .unit)))] 0 (a0, ())))) (fun a0 a2 => (K .normal (mkS [(0, .box (.pair .str (.pair (.int .i64) (.pair (.int .i64) .unit)))), (1, .box (.pair (.int .i64) (.pair (.arr 4 (.int .u64)) (.pair (.sl .nod) (.pair (.int .i64) (.pair (.int .i64) .unit)))))), (0, .row (.pair (.int .i64) (.pair (.arr 4 (.int .u64)) (.pair (.sl .nod) (.pair (.int .i64) (.pair (.int .i64) .unit))))))] 41 (a0, x.2.1, a2, ()))))

noncomputable def regex_parser_cat_flt_h1 (N : Nat) (self : regex_parser_alt_flt_Self) : HdP (Int × (Int × Unit)) := fun st K => (unS [(0, .box (.pair .str (.pair (.int .i64) (.pair (.int .i64) .unit)))), (1, .box (.pair (.int .i64) (.pair (.arr 4 (.int .u64)) (.pair (.sl .nod) (.pair (.int .i64) (.pair (.int .i64) .unit)))))), (0, .row (.pair (.int .i64) (.pair (.arr 4 (.int .u64)) (.pair (.sl .nod) (.pair (.int .i64) (.pair (.int .i64) .unit))))))] 41 (restr [0, 3, 2] 0 st)).bind fun x => regex_parser_cat_flt_g1 N self x K

noncomputable def regex_parser_cat_flt_t1 (N : Nat) (self : regex_parser_alt_flt_Self) : TabP (Int × (Int × Unit)) := [([0, 0, 1, 1], regex_parser_cat_flt_h2 N self)]

theorem regex_parser_cat_flt_ok1 {N : Nat} {self : regex_parser_alt_flt_Self} {c : Ctx} (hb : Base Go.Proofs.Tryd.prog (regex_parser_cat_flt_E N self) c) (hP : PnOk Go.Proofs.Tryd.prog glob (regex_parser_cat_flt_P N self)) : CodeOkP Go.Proofs.Tryd.prog c (nodeAt regex_parser_cat_flt_body [0, 1, 1]) (regex_parser_cat_flt_h1 N self) :=
  pieceP_ok (s := [(0, .box (.pair .str (.pair (.int .i64) (.pair (.int .i64) .unit)))), (1, .box (.pair (.int .i64) (.pair (.arr 4 (.int .u64)) (.pair (.sl .nod) (.pair (.int .i64) (.pair (.int .i64) .unit)))))), (0, .row (.pair (.int .i64) (.pair (.arr 4 (.int .u64)) (.pair (.sl .nod) (.pair (.int .i64) (.pair (.int .i64) .unit))))))]) (m := 41) (g := regex_parser_cat_flt_g1 N self) [0, 3, 2] (evP_sound hb hP N (regex_parser_cat_flt_t1 N self) regex_parser_cat_flt_L regex_parser_cat_flt_body (TabOkP.cons (regex_parser_cat_flt_ok2 hb hP) TabOkP.nil) [0, 1, 1] _ rfl) (fun x K => by kernel_rfl)

noncomputable def regex_parser_cat_flt (N : Nat) (self : regex_parser_alt_flt_Self) (p : ((List UInt8) × (Int × (Int × Unit)))) : Option (Int × (Int × Unit)) :=
 regex_parser_cat_flt_p1 N self p ((0 : Int), (([(0 : Int), (0 : Int), (0 : Int), (0 : Int)] : List Int), (([] : List Go.Lift.Tree), ((0 : Int), ((0 : Int), ()))))) ([] : List (Int × ((List Int) × ((List Go.Lift.Tree) × (Int × (Int × Unit))))))
 (fun p1 => some p1)
 (fun p2 parts => (regex_join N (2 : Int) (List.map Go.Lift.foN parts)).bind fun y =>
 none)

noncomputable def regex_parser_cat_flt_t (N : Nat) (self : regex_parser_alt_flt_Self) : TabP (Int × (Int × Unit)) := [([0, 1, 1], regex_parser_cat_flt_h1 N self)]

theorem regex_parser_cat_flt_link (N : Nat) (self : regex_parser_alt_flt_Self) (x : denS [(0, .box (.pair .str (.pair (.int .i64) (.pair (.int .i64) .unit))))]) : panFX (regex_parser_cat_flt_E N self) (regex_parser_cat_flt_P N self) N (regex_parser_cat_flt_t N self) regex_parser_cat_flt_L Go.Proofs.Tryd.f25 36 (.pair (.int .i64) (.pair (.int .i64) .unit)) (mkS [(0, .box (.pair .str (.pair (.int .i64) (.pair (.int .i64) .unit))))] 0 x) (fun z => some z) = regex_parser_cat_flt N self x.1 := by kernel_rfl

noncomputable def regex_parser_cat_flt_res (N : Nat) (self : regex_parser_alt_flt_Self) : List A → PnRes := pnOf [(0, .box (.pair .str (.pair (.int .i64) (.pair (.int .i64) .unit))))] (fun x => regex_parser_cat_flt N self x.1) (fun z => ⟨(.pair (.int .i64) (.pair (.int .i64) .unit)), z⟩)

theorem regex_parser_cat_flt_ct (N : Nat) (self : regex_parser_alt_flt_Self) (hself : ContractP Go.Proofs.Tryd.prog glob 19 36 (pnOf [(0, .box (.pair .str (.pair (.int .i64) (.pair (.int .i64) .unit))))] (fun x => self x.1) (fun z => ⟨(.pair (.int .i64) (.pair (.int .i64) .unit)), z⟩))) : ContractP Go.Proofs.Tryd.prog glob 25 36 (regex_parser_cat_flt_res N self) :=
  ContractP.of (E := regex_parser_cat_flt_E N self) (Pn := regex_parser_cat_flt_P N self) (H := regex_parser_cat_flt_t N self) (L := regex_parser_cat_flt_L) (N := N) (body := regex_parser_cat_flt_body) (t := (.pair (.int .i64) (.pair (.int .i64) .unit))) (regex_parser_cat_flt_Eok N self) (regex_parser_cat_flt_Pok N self hself) Go.Proofs.Tryd.func25 (by kernel_rfl) (by decide) (fun _ hb => (TabOkP.cons (regex_parser_cat_flt_ok1 hb (regex_parser_cat_flt_Pok N self hself)) TabOkP.nil)) (fun x y h => by rw [regex_parser_cat_flt_link]; exact h)

noncomputable def regex_parser_alt_flt_body : Code := (Go.Proofs.Tryd.f19.body).getD .skip

noncomputable def regex_parser_alt_flt_L : List (List Nat × List Nat) := [([0], [0, 2]), ([0, 1], [0, 3, 2]), ([0, 0, 1, 1], [0, 3, 2]), ([0, 0, 0, 0, 0, 1, 1], [8, 3, 0, 2]), ([1, 0, 0, 0, 0, 1, 1], [3, 0, 2]), ([1, 1, 0, 0, 0, 0, 1, 1], [3, 2, 0]), ([0, 1, 0, 0, 0, 1, 1], [0, 3, 2]), ([1, 0, 0, 0, 1, 1], [0, 3, 2]), ([0, 1, 1], [3, 2, 0]), ([0, 1, 1, 1], [2, 0]), ([1, 1, 1, 1], [2, 0])]

noncomputable def regex_parser_alt_flt_E (N : Nat) (self : ((List UInt8) × (Int × (Int × Unit))) → Option (Int × (Int × Unit))) : Env := mkEnv tys glob [(25, regex_parser_cat_res N (regex_parser_alt N)), (26, regex_parser_skip_res N), (27, regex_join_res N)] [(3, (.pair (.int .i64) (.pair (.arr 4 (.int .u64)) (.pair (.sl .nod) (.pair (.int .i64) (.pair (.int .i64) .unit))))))] [] [0] false [] []

theorem regex_parser_alt_flt_Eok (N : Nat) (self : ((List UInt8) × (Int × (Int × Unit))) → Option (Int × (Int × Unit))) : EnvOk Go.Proofs.Tryd.prog (regex_parser_alt_flt_E N self) := mkEnv_ok mixed tys_ok (FnsOk.cons (regex_parser_cat_ct N (regex_parser_alt N) (regex_parser_alt_ct N)) (FnsOk.cons (regex_parser_skip_ct N) (FnsOk.cons (regex_join_ct N) (FnsOk.nil)))) (ItsOk.nil)

noncomputable def regex_parser_alt_flt_P (N : Nat) (self : ((List UInt8) × (Int × (Int × Unit))) → Option (Int × (Int × Unit))) : PnT := pnT [(25, 36, regex_parser_cat_flt_res N self), (19, 36, pnOf [(0, .box (.pair .str (.pair (.int .i64) (.pair (.int .i64) .unit))))] (fun x => self x.1) (fun z => ⟨(.pair (.int .i64) (.pair (.int .i64) .unit)), z⟩))]

theorem regex_parser_alt_flt_Pok (N : Nat) (self : ((List UInt8) × (Int × (Int × Unit))) → Option (Int × (Int × Unit))) (hself : ContractP Go.Proofs.Tryd.prog glob 19 36 (pnOf [(0, .box (.pair .str (.pair (.int .i64) (.pair (.int .i64) .unit))))] (fun x => self x.1) (fun z => ⟨(.pair (.int .i64) (.pair (.int .i64) .unit)), z⟩))) : PnOk Go.Proofs.Tryd.prog glob (regex_parser_alt_flt_P N self) := PnOk.cons (regex_parser_cat_flt_ct N self hself) (PnOk.cons (hself) (PnOk.nil))

noncomputable def regex_parser_alt_flt_s1 (N : Nat) (self : ((List UInt8) × (Int × (Int × Unit))) → Option (Int × (Int × Unit))) (x2 : (Int × ((List Int) × ((List Tree) × (Int × (Int × Unit)))))) (p : ((List UInt8) × (Int × (Int × Unit)))) (parts : (List (Int × ((List Int) × ((List Tree) × (Int × (Int × Unit))))))) (rec : ((List UInt8) × (Int × (Int × Unit))) → (List (Int × ((List Int) × ((List Tree) × (Int × (Int × Unit)))))) → Option (Int × (Int × Unit))) (k0 : (Int × (Int × Unit)) → Option (Int × (Int × Unit))) (k1 : ((List UInt8) × (Int × (Int × Unit))) → (List (Int × ((List Int) × ((List Tree) × (Int × (Int × Unit)))))) → Option (Int × (Int × Unit))) : Option (Int × (Int × Unit)) :=
 (regex_parser_skip N p (124 : Int)).bind fun y =>
 cond y.1
 (orP ((regex_parser_cat_flt N self y.2.1)) (fun z => k0 z)
 ((regex_parser_cat N (regex_parser_alt N) y.2.1).bind fun y1 =>
 cond (decide ((((List.length parts) + 1) * 80) ≤ 70368744177664))
 (rec y1.2.1 (parts ++ ([y1.1] : List (Int × ((List Int) × ((List Go.Lift.Tree) × (Int × (Int × Unit))))))))
 (none)))
 (k1 y.2.1 parts)

noncomputable def regex_parser_alt_flt_p1 (N : Nat) (self : ((List UInt8) × (Int × (Int × Unit))) → Option (Int × (Int × Unit))) (p : ((List UInt8) × (Int × (Int × Unit)))) (x2 : (Int × ((List Int) × ((List Tree) × (Int × (Int × Unit)))))) (parts : (List (Int × ((List Int) × ((List Tree) × (Int × (Int × Unit))))))) (k0 : (Int × (Int × Unit)) → Option (Int × (Int × Unit))) (k1 : ((List UInt8) × (Int × (Int × Unit))) → (List (Int × ((List Int) × ((List Tree) × (Int × (Int × Unit)))))) → Option (Int × (Int × Unit))) : Option (Int × (Int × Unit)) :=
 iter (fun (v : (((List UInt8) × (Int × (Int × Unit))) × (List (Int × ((List Int) × ((List Tree) × (Int × (Int × Unit)))))))) r => regex_parser_alt_flt_s1 N self x2 v.1 v.2 (fun p parts => (r (p, parts))) k0 k1) N (p, parts)

noncomputable def regex_parser_alt_flt_g1 (N : Nat) (self : ((List UInt8) × (Int × (Int × Unit))) → Option (Int × (Int × Unit))) (i : (Int × ((List Int) × ((List Tree) × (Int × (Int × Unit)))))) (v : (((List UInt8) × (Int × (Int × Unit))) × (List (Int × ((List Int) × ((List Tree) × (Int × (Int × Unit)))))))) (r : (((List UInt8) × (Int × (Int × Unit))) × (List (Int × ((List Int) × ((List Tree) × (Int × (Int × Unit))))))) → Option (Int × (Int × Unit))) (K : ExP → List A → Option (Int × (Int × Unit))) : Option (Int × (Int × Unit)) :=
 regex_parser_alt_flt_s1 N self i v.1 v.2 (fun p parts => (r (p, parts))) (fun a0 => (K (.pan 36) (mkS [(0, .v (.pair (.int .i64) (.pair (.int .i64) .unit)))] 0 (a0, ())))) (fun a0 a2 => (K (.exit 0) (mkS [(0, .box (.pair .str (.pair (.int .i64) (.pair (.int .i64) .unit)))), (1, .box (.pair (.int .i64) (.pair (.arr 4 (.int .u64)) (.pair (.sl .nod) (.pair (.int .i64) (.pair (.int .i64) .unit)))))), (0, .row (.pair (.int .i64) (.pair (.arr 4 (.int .u64)) (.pair (.sl .nod) (.pair (.int .i64) (.pair (.int .i64) .unit))))))] 12 (a0, i, a2, ()))))

noncomputable def regex_parser_alt_flt_h1 (N : Nat) (self : ((List UInt8) × (Int × (Int × Unit))) → Option (Int × (Int × Unit))) : HdP (Int × (Int × Unit)) := fun st K => (unS [(0, .box (.pair .str (.pair (.int .i64) (.pair (.int .i64) .unit)))), (1, .box (.pair (.int .i64) (.pair (.arr 4 (.int .u64)) (.pair (.sl .nod) (.pair (.int .i64) (.pair (.int .i64) .unit)))))), (0, .row (.pair (.int .i64) (.pair (.arr 4 (.int .u64)) (.pair (.sl .nod) (.pair (.int .i64) (.pair (.int .i64) .unit))))))] 12 (restr [0, 3, 2] 0 st)).bind fun x => iter (fun v r => regex_parser_alt_flt_g1 N self ((fun x => x.2.1) x) v r K) N ((fun x => (x.1, x.2.2.1)) x)

noncomputable def regex_parser_alt_flt_t1 (N : Nat) (self : ((List UInt8) × (Int × (Int × Unit))) → Option (Int × (Int × Unit))) : TabP (Int × (Int × Unit)) := []

theorem regex_parser_alt_flt_ok1 {N : Nat} {self : ((List UInt8) × (Int × (Int × Unit))) → Option (Int × (Int × Unit))} {c : Ctx} (hb : Base Go.Proofs.Tryd.prog (regex_parser_alt_flt_E N self) c) (hP : PnOk Go.Proofs.Tryd.prog glob (regex_parser_alt_flt_P N self)) : CodeOkP Go.Proofs.Tryd.prog c (nodeAt regex_parser_alt_flt_body [0, 0, 1, 1]) (regex_parser_alt_flt_h1 N self) :=
  loopP_ok (s := [(0, .box (.pair .str (.pair (.int .i64) (.pair (.int .i64) .unit)))), (1, .box (.pair (.int .i64) (.pair (.arr 4 (.int .u64)) (.pair (.sl .nod) (.pair (.int .i64) (.pair (.int .i64) .unit)))))), (0, .row (.pair (.int .i64) (.pair (.arr 4 (.int .u64)) (.pair (.sl .nod) (.pair (.int .i64) (.pair (.int .i64) .unit))))))]) (m := 12) (regex_parser_alt_flt_g1 N self) [0, 3, 2] N (fun x => x.2.1) (fun x => (x.1, x.2.2.1)) (fun i v => (v.1, i, v.2, ())) (fun _ => rfl) (evP_sound hb hP N (regex_parser_alt_flt_t1 N self) regex_parser_alt_flt_L regex_parser_alt_flt_body TabOkP.nil [0, 0, 0, 1, 1] _ rfl) (fun i v r K => by kernel_rfl)

noncomputable def regex_parser_alt_flt_F (N : Nat) (self : ((List UInt8) × (Int × (Int × Unit))) → Option (Int × (Int × Unit))) (p : ((List UInt8) × (Int × (Int × Unit)))) : Option (Int × (Int × Unit)) :=
 orP ((regex_parser_cat_flt N self p)) (fun z => some z)
 ((regex_parser_cat N (regex_parser_alt N) p).bind fun y =>
 regex_parser_alt_flt_p1 N self y.2.1 ((0 : Int), (([(0 : Int), (0 : Int), (0 : Int), (0 : Int)] : List Int), (([] : List Go.Lift.Tree), ((0 : Int), ((0 : Int), ()))))) ([y.1] : List (Int × ((List Int) × ((List Go.Lift.Tree) × (Int × (Int × Unit))))))
 (fun p1 => some p1)
 (fun p2 parts => (regex_join N (3 : Int) (List.map Go.Lift.foN parts)).bind fun y1 =>
 none))

noncomputable def regex_parser_alt_flt_t (N : Nat) (self : ((List UInt8) × (Int × (Int × Unit))) → Option (Int × (Int × Unit))) : TabP (Int × (Int × Unit)) := [([0, 0, 1, 1], regex_parser_alt_flt_h1 N self)]

theorem regex_parser_alt_flt_link (N : Nat) (self : ((List UInt8) × (Int × (Int × Unit))) → Option (Int × (Int × Unit))) (x : denS [(0, .box (.pair .str (.pair (.int .i64) (.pair (.int .i64) .unit))))]) : panFX (regex_parser_alt_flt_E N self) (regex_parser_alt_flt_P N self) N (regex_parser_alt_flt_t N self) regex_parser_alt_flt_L Go.Proofs.Tryd.f19 36 (.pair (.int .i64) (.pair (.int .i64) .unit)) (mkS [(0, .box (.pair .str (.pair (.int .i64) (.pair (.int .i64) .unit))))] 0 x) (fun z => some z) = regex_parser_alt_flt_F N self x.1 := by kernel_rfl

noncomputable def regex_parser_alt_flt : Nat → ((List UInt8) × (Int × (Int × Unit))) → Option (Int × (Int × Unit))
  | 0 => fun _ => none
  | N + 1 => regex_parser_alt_flt_F (N + 1) (regex_parser_alt_flt N)

noncomputable def regex_parser_alt_flt_res (N : Nat) : List A → PnRes := pnOf [(0, .box (.pair .str (.pair (.int .i64) (.pair (.int .i64) .unit))))] (fun x => regex_parser_alt_flt N x.1) (fun z => ⟨(.pair (.int .i64) (.pair (.int .i64) .unit)), z⟩)

theorem regex_parser_alt_flt_ct : ∀ N : Nat, ContractP Go.Proofs.Tryd.prog glob 19 36 (regex_parser_alt_flt_res N)
  | 0 => ContractP.zero Go.Proofs.Tryd.func19 (body := regex_parser_alt_flt_body) (by kernel_rfl) (by decide) (fun _ => rfl)
  | N + 1 => ContractP.of (E := regex_parser_alt_flt_E (N + 1) (regex_parser_alt_flt N)) (Pn := regex_parser_alt_flt_P (N + 1) (regex_parser_alt_flt N)) (H := regex_parser_alt_flt_t (N + 1) (regex_parser_alt_flt N)) (L := regex_parser_alt_flt_L) (N := (N + 1)) (body := regex_parser_alt_flt_body) (t := (.pair (.int .i64) (.pair (.int .i64) .unit))) (regex_parser_alt_flt_Eok (N + 1) (regex_parser_alt_flt N)) (regex_parser_alt_flt_Pok (N + 1) (regex_parser_alt_flt N) (regex_parser_alt_flt_ct N)) Go.Proofs.Tryd.func19 (by kernel_rfl) (by decide) (fun _ hb => (TabOkP.cons (regex_parser_alt_flt_ok1 hb (regex_parser_alt_flt_Pok (N + 1) (regex_parser_alt_flt N) (regex_parser_alt_flt_ct N))) TabOkP.nil)) (fun x y h => by rw [regex_parser_alt_flt_link]; exact h)

end Go.Proofs.YtbfmhambfonpcaaDoorLg

set_option linter.all false
set_option maxRecDepth 100000
namespace Go.Proofs.YtbfmhambfonpcaaDoorLg
open Go Go.Lift

def Cl (w : World) (n : Nat) (cs : List Value) : Prop := ∀ i v, cs[i]? = some v → w.cell? ⟨n, i, none⟩ = some v ∧ w.frozen? ⟨n, i, none⟩ = false

def PsW (w0 : World) (S0 S : Hp) (W : World) : Prop := WF w0 (fun _ => False) W ∧ Lift.Sub S0 S ∧ Lift.Sub S (hp W) ∧ ∀ k, S k ≠ none → S0 k ≠ none ∨ w0.heap.size ≤ k

theorem PsW.drew {w0 W : World} {S0 S : Hp} (h : PsW w0 S0 S W) : PsW w0 S0 S W.drew := by
  obtain ⟨h1, h2, h3, h4⟩ := h
  exact ⟨⟨h1.size, h1.same, h1.tape, h1.os, h1.output⟩, h2, h3, h4⟩

theorem PsW.alloc {w0 W : World} {S0 S : Hp} (h : PsW w0 S0 S W) (cs : Array Value) (E : Nat) : PsW w0 S0 S (W.alloc (.cells cs E)) := by
  obtain ⟨h1, h2, h3, h4⟩ := h
  have hh : (W.alloc (.cells cs E)).heap = W.heap.push (.cells cs E (0, 0)) := rfl
  have hk : ∀ k, k < W.heap.size → (W.alloc (.cells cs E)).heap[k]? = W.heap[k]? := fun k hk => by
    rw [hh, Array.getElem?_push, if_neg (by omega)]
  refine ⟨⟨by rw [hh, Array.size_push]; have := h1.size; omega, fun k h1' h2' => by rw [hk k (by have := h1.size; omega)]; exact h1.same k h1' h2', h1.tape, h1.os, h1.output⟩, h2, fun k q ho => ?_, h4⟩
  have := h3 k q ho
  simp only [hp] at this ⊢
  rw [hk k (Array.getElem?_eq_some_iff.1 this).1]
  exact this

theorem heap_setCell_ne {W : World} {p i : Nat} {v : Value} {k : Nat} (hk : k ≠ p) : (W.setCell ⟨p, i, none⟩ v).heap[k]? = W.heap[k]? := by
  unfold World.setCell
  split <;> simp [Array.getElem?_modify, Ne.symm hk]

theorem PsW.setCell {w0 W : World} {S0 S : Hp} {p i : Nat} {v : Value} (h : PsW w0 S0 S W) (hp' : w0.heap.size ≤ p) (hS : S p = none) : PsW w0 S0 S (W.setCell ⟨p, i, none⟩ v) := by
  obtain ⟨h1, h2, h3, h4⟩ := h
  have hsz : (W.setCell ⟨p, i, none⟩ v).heap.size = W.heap.size := by
    unfold World.setCell
    split <;> simp
  have ht : (W.setCell ⟨p, i, none⟩ v).tape = W.tape ∧ (W.setCell ⟨p, i, none⟩ v).os = W.os ∧ (W.setCell ⟨p, i, none⟩ v).output = W.output := by
    unfold World.setCell
    split
    · exact ⟨rfl, rfl, rfl⟩
    · exact ⟨rfl, rfl, rfl⟩
  refine ⟨⟨by rw [hsz]; exact h1.size, fun k h1' h2' => by rw [heap_setCell_ne (by omega)]; exact h1.same k h1' h2', by rw [ht.1]; exact h1.tape, by rw [ht.2.1]; exact h1.os, by rw [ht.2.2]; exact h1.output⟩, h2, fun k q ho => ?_, h4⟩
  have hk : k ≠ p := fun e => by rw [e, hS] at ho; cases ho
  have := h3 k q ho
  simp only [hp] at this ⊢
  rw [heap_setCell_ne hk]
  exact this

theorem cl_set {w : World} {n : Nat} {cs : List Value} (h : Cl w n cs) (i : Nat) (v : Value) : Cl (w.setCell ⟨n, i, none⟩ v) n (cs.set i v) := by
  intro j u hj
  rw [List.getElem?_set] at hj
  by_cases e : i = j
  · subst e
    rw [if_pos rfl] at hj
    split at hj
    · rename_i hl
      cases hj
      obtain ⟨h1, h2⟩ := h i _ (List.getElem?_eq_getElem hl)
      constructor <;> simp [go_sem, h1, h2]
    · cases hj
  · rw [if_neg e] at hj
    obtain ⟨h1, h2⟩ := h j _ hj
    have e' : j ≠ i := fun h => e h.symm
    constructor <;> simp [go_sem, h1, h2, e, e']

theorem cl_set_ne {w : World} {n m : Nat} {cs : List Value} (h : Cl w n cs) (hne : m ≠ n) (i : Nat) (v : Value) : Cl (w.setCell ⟨m, i, none⟩ v) n cs := by
  intro j u hj
  obtain ⟨h1, h2⟩ := h j _ hj
  have e' : n ≠ m := fun h => hne h.symm
  constructor <;> simp [go_sem, h1, h2, hne, e']

theorem cl_alloc {w : World} {n : Nat} {c : Value} {cs : List Value} (h : Cl w n (c :: cs)) (o : Obj) : Cl (w.alloc o) n (c :: cs) := by
  have hlt : n < w.heap.size := by
    have h0 := (h 0 c rfl).1
    rcases Nat.lt_or_ge n w.heap.size with h1 | h1
    · exact h1
    · simp [World.cell?, Array.getElem?_eq_none h1] at h0
  intro i v hi
  obtain ⟨h1, h2⟩ := h i v hi
  exact ⟨by rw [World.cell?_alloc_past _ _ _ hlt]; exact h1, by rw [World.frozen?_alloc_past _ _ _ hlt]; exact h2⟩

theorem cl_lt {w : World} {n : Nat} {c : Value} {cs : List Value} (h : Cl w n (c :: cs)) : n < w.heap.size := by
  have h0 := (h 0 c rfl).1
  rcases Nat.lt_or_ge n w.heap.size with h1 | h1
  · exact h1
  · simp [World.cell?, Array.getElem?_eq_none h1] at h0

theorem ps_idle {w : World} {n0 n1 : Nat} :
    CallsD Go.Proofs.Tryd.prog 18 #[.pointer (some ⟨n0, 0, none⟩), .pointer (some ⟨n1, 0, none⟩)] .returning w fun e u w' => (∃ v, e = .returned v) ∧ u = .returning ∧ w' = w.alloc (Obj.cells #[Value.int IntKind.i64 0, Value.int IntKind.i64 0] 36) := by
  refine callsD_of_wpS Go.Proofs.Tryd.func18 rfl fun c₀ cs hu => ?_
  have ha : ∀ W : World, (Instr.typeAssert .nilIface 20 36 true).run Go.Proofs.Tryd.prog W = .ok (.tuple #[.agg #[.int .i64 0, .int .i64 0], .bool false]) W := fun W => by kernel_rfl
  apply wpS_seq
  apply wpS_region
  simp only [Go.Proofs.Tryd.ntmps18, List.size_toArray, List.length_cons, List.length_nil, Nat.reduceAdd, Nat.reduceSub, Array.replicate_succ,
     Array.replicate_zero, List.push_toArray, List.append_toArray, List.nil_append, List.cons_append]
  simp [wpOpsS, go_sem, recoverD, hu, Exit.thenS, ha, List.range_succ]
  refine wpS_of_wp ?_
  go_wp2
  cases c₀
  simp_all [bodyPostS, results, Go.Proofs.Tryd.results18]

set_option maxHeartbeats 16000000 in
theorem ps_caught {w : World} {n0 n1 : Nat} {e a : Int} {y0 y1 : Value} {c0 c1 c2 c3 c4 c5 c6 c7 : Value} {R : World → Prop} (h0 : Cl (w.alloc (Obj.cells #[Value.int IntKind.i64 e, Value.int IntKind.i64 a] 36)) n0 [c0, c1, c2, c3, c4, c5, c6, c7]) (h1 : Cl (w.alloc (Obj.cells #[Value.int IntKind.i64 e, Value.int IntKind.i64 a] 36)) n1 [y0, y1]) (hne : n0 ≠ n1) (hn2 : n0 ≠ w.heap.size) (hn3 : n1 ≠ w.heap.size)
    (hR : ∀ w', Cl w' n0 [.int .i64 0, .int .u64 0, .int .u64 0, .int .u64 0, .int .u64 0, .slice none 0 0, .int .i64 0, .int .i64 0] → Cl w' n1 [.int .i64 e, .int .i64 a] →
      (∀ (w0 : World) (S0 S : Hp), PsW w0 S0 S w → w0.heap.size ≤ n0 → w0.heap.size ≤ n1 → S n0 = none → S n1 = none → PsW w0 S0 S w') → R w') :
    CallsD Go.Proofs.Tryd.prog 18 #[.pointer (some ⟨n0, 0, none⟩), .pointer (some ⟨n1, 0, none⟩)] (.panicking [{ v := .iface 36 (.agg #[.int .i64 e, .int .i64 a]), recovered := false }]) w fun r u w' => (∃ v, r = .returned v) ∧ u = .panicking [{ v := .iface 36 (.agg #[.int .i64 e, .int .i64 a]), recovered := true }] ∧ R w' := by
  refine callsD_of_wpS Go.Proofs.Tryd.func18 rfl fun c₀ cs hu => ?_
  have ha : ∀ W : World, (Instr.typeAssert (.iface 36 (.agg #[.int .i64 e, .int .i64 a])) 20 36 true).run Go.Proofs.Tryd.prog W = .ok (.tuple #[.agg #[.int .i64 e, .int .i64 a], .bool true]) W := fun W => by kernel_rfl
  have c00 : (w.alloc (Obj.cells #[Value.int IntKind.i64 e, Value.int IntKind.i64 a] 36)).cell? ⟨n0, 0, none⟩ = some (c0) := (h0 0 _ rfl).1
  have z00 : (w.alloc (Obj.cells #[Value.int IntKind.i64 e, Value.int IntKind.i64 a] 36)).frozen? ⟨n0, 0, none⟩ = false := (h0 0 _ rfl).2
  have c01 : (w.alloc (Obj.cells #[Value.int IntKind.i64 e, Value.int IntKind.i64 a] 36)).cell? ⟨n0, 1, none⟩ = some (c1) := (h0 1 _ rfl).1
  have z01 : (w.alloc (Obj.cells #[Value.int IntKind.i64 e, Value.int IntKind.i64 a] 36)).frozen? ⟨n0, 1, none⟩ = false := (h0 1 _ rfl).2
  have c02 : (w.alloc (Obj.cells #[Value.int IntKind.i64 e, Value.int IntKind.i64 a] 36)).cell? ⟨n0, 2, none⟩ = some (c2) := (h0 2 _ rfl).1
  have z02 : (w.alloc (Obj.cells #[Value.int IntKind.i64 e, Value.int IntKind.i64 a] 36)).frozen? ⟨n0, 2, none⟩ = false := (h0 2 _ rfl).2
  have c03 : (w.alloc (Obj.cells #[Value.int IntKind.i64 e, Value.int IntKind.i64 a] 36)).cell? ⟨n0, 3, none⟩ = some (c3) := (h0 3 _ rfl).1
  have z03 : (w.alloc (Obj.cells #[Value.int IntKind.i64 e, Value.int IntKind.i64 a] 36)).frozen? ⟨n0, 3, none⟩ = false := (h0 3 _ rfl).2
  have c04 : (w.alloc (Obj.cells #[Value.int IntKind.i64 e, Value.int IntKind.i64 a] 36)).cell? ⟨n0, 4, none⟩ = some (c4) := (h0 4 _ rfl).1
  have z04 : (w.alloc (Obj.cells #[Value.int IntKind.i64 e, Value.int IntKind.i64 a] 36)).frozen? ⟨n0, 4, none⟩ = false := (h0 4 _ rfl).2
  have c05 : (w.alloc (Obj.cells #[Value.int IntKind.i64 e, Value.int IntKind.i64 a] 36)).cell? ⟨n0, 5, none⟩ = some (c5) := (h0 5 _ rfl).1
  have z05 : (w.alloc (Obj.cells #[Value.int IntKind.i64 e, Value.int IntKind.i64 a] 36)).frozen? ⟨n0, 5, none⟩ = false := (h0 5 _ rfl).2
  have c06 : (w.alloc (Obj.cells #[Value.int IntKind.i64 e, Value.int IntKind.i64 a] 36)).cell? ⟨n0, 6, none⟩ = some (c6) := (h0 6 _ rfl).1
  have z06 : (w.alloc (Obj.cells #[Value.int IntKind.i64 e, Value.int IntKind.i64 a] 36)).frozen? ⟨n0, 6, none⟩ = false := (h0 6 _ rfl).2
  have c07 : (w.alloc (Obj.cells #[Value.int IntKind.i64 e, Value.int IntKind.i64 a] 36)).cell? ⟨n0, 7, none⟩ = some (c7) := (h0 7 _ rfl).1
  have z07 : (w.alloc (Obj.cells #[Value.int IntKind.i64 e, Value.int IntKind.i64 a] 36)).frozen? ⟨n0, 7, none⟩ = false := (h0 7 _ rfl).2
  have c10 : (w.alloc (Obj.cells #[Value.int IntKind.i64 e, Value.int IntKind.i64 a] 36)).cell? ⟨n1, 0, none⟩ = some (y0) := (h1 0 _ rfl).1
  have z10 : (w.alloc (Obj.cells #[Value.int IntKind.i64 e, Value.int IntKind.i64 a] 36)).frozen? ⟨n1, 0, none⟩ = false := (h1 0 _ rfl).2
  have c11 : (w.alloc (Obj.cells #[Value.int IntKind.i64 e, Value.int IntKind.i64 a] 36)).cell? ⟨n1, 1, none⟩ = some (y1) := (h1 1 _ rfl).1
  have z11 : (w.alloc (Obj.cells #[Value.int IntKind.i64 e, Value.int IntKind.i64 a] 36)).frozen? ⟨n1, 1, none⟩ = false := (h1 1 _ rfl).2
  apply wpS_seq
  apply wpS_region
  simp only [Go.Proofs.Tryd.ntmps18, List.size_toArray, List.length_cons, List.length_nil, Nat.reduceAdd, Nat.reduceSub, Array.replicate_succ,
     Array.replicate_zero, List.push_toArray, List.append_toArray, List.nil_append, List.cons_append]
  simp [wpOpsS, go_sem, recoverD, hu, Exit.thenS, ha, List.range_succ]
  refine wpS_of_wp ?_
  go_wp2
  go_region
  have hfin : R ((((((((((((w.alloc (Obj.cells #[Value.int IntKind.i64 e, Value.int IntKind.i64 a] 36)).setCell { block := n0, off := 0 } (.int .i64 0)).setCell { block := n0, off := 1 } (.int .u64 0)).setCell { block := n0, off := 2 } (.int .u64 0)).setCell { block := n0, off := 3 } (.int .u64 0)).setCell { block := n0, off := 4 } (.int .u64 0)).setCell { block := n0, off := 5 } (.slice none 0 0)).setCell { block := n0, off := 6 } (.int .i64 0)).setCell { block := n0, off := 7 } (.int .i64 0)).setCell { block := n1, off := 0 } (.int .i64 e)).setCell { block := n1, off := 1 } (.int .i64 a)).drew) := by
    refine hR _ ?_ ?_ ?_
    · intro i v hi
      rcases i with _ | _ | _ | _ | _ | _ | _ | _ | i
      case succ.succ.succ.succ.succ.succ.succ.succ => simp at hi
      all_goals (simp only [List.getElem?_cons_zero, List.getElem?_cons_succ, Option.some.injEq] at hi; subst hi; constructor <;> simp [go_sem, *])
    · intro i v hi
      rcases i with _ | _ | i
      case succ.succ => simp at hi
      all_goals (simp only [List.getElem?_cons_zero, List.getElem?_cons_succ, Option.some.injEq] at hi; subst hi; constructor <;> simp [go_sem, *])
    · intro w0 S0 S hw hl0 hl1 hS0 hS1
      exact (((((((((((hw.alloc _ _).setCell hl0 hS0).setCell hl0 hS0).setCell hl0 hS0).setCell hl0 hS0).setCell hl0 hS0).setCell hl0 hS0).setCell hl0 hS0).setCell hl0 hS0).setCell hl1 hS1).setCell hl1 hS1).drew
  change bodyPostS Go.Proofs.Tryd.prog Go.Proofs.Tryd.f18 c₀ cs _ _ _ _ _
  clear hR h0 h1 c00 z00 c01 z01 c02 z02 c03 z03 c04 z04 c05 z05 c06 z06 c07 z07 c10 z10 c11 z11
  cases c₀
  simp_all [bodyPostS, results, Go.Proofs.Tryd.results18]


theorem ps_long {w : World} {s : List UInt8} {S : Hp} (hS : Lift.Sub S (hp w)) (hlen : (256 : Int) < s.length) :
    Calls Go.Proofs.Tryd.prog 14 #[.string ⟨⟨s⟩⟩] w fun r w' => r = .returned (.tuple #[.agg #[Value.int IntKind.i64 0, Value.int IntKind.u64 0, Value.int IntKind.u64 0, Value.int IntKind.u64 0, Value.int IntKind.u64 0, Value.slice none 0 0, Value.int IntKind.i64 0, Value.int IntKind.i64 0], .agg #[.int .i64 3, .int .i64 256]]) ∧ PsW w S S w' := by
  have h0 : PsW w S S w := ⟨WF.refl _ _, Lift.Sub.refl _, hS, fun k hk => .inl hk⟩
  have hn0 : S w.heap.size = none := by
    cases hx : S w.heap.size with
    | none => rfl
    | some o => exact absurd (hp_lt (hS _ _ hx)) (Nat.lt_irrefl _)
  have hn1 : S (w.heap.size + 1) = none := by
    cases hx : S (w.heap.size + 1) with
    | none => rfl
    | some o => exact absurd (hp_lt (hS _ _ hx)) (by omega)
  go_enter Go.Proofs.Tryd.func14, Go.Proofs.Tryd.ntmps14
  go_wp2
  simp [bodyPost, results, Go.Proofs.Tryd.results14, go_sem]
  exact (h0.alloc _ _).alloc _ _

set_option maxHeartbeats 16000000 in
theorem ps_ok {w : World} {s : List UInt8} {S : Hp} {at_ : Int} {F : Hp → Value → Prop} (hlen : ¬ (256 : Int) < s.length)
    (hc : Calls Go.Proofs.Tryd.prog 19 #[.pointer (some ⟨w.heap.size + 1 + 1, 0, none⟩)] (((w.alloc (Obj.cells #[Value.int IntKind.i64 0, Value.int IntKind.u64 0, Value.int IntKind.u64 0, Value.int IntKind.u64 0, Value.int IntKind.u64 0, Value.slice none 0 0, Value.int IntKind.i64 0, Value.int IntKind.i64 0] 27)).alloc (Obj.cells #[Value.int IntKind.i64 0, Value.int IntKind.i64 0] 36)).alloc (Obj.cells #[Value.string ⟨⟨s⟩⟩, Value.int IntKind.i64 0, Value.int IntKind.i64 0] 45)) fun r w2 => ∃ (k a0 a1 a2 a3 lo hi : Int) (sp : Option Addr) (sn sc : Nat) (S' : Hp), r = .returned (.agg #[.int .i64 k, .int .u64 a0, .int .u64 a1, .int .u64 a2, .int .u64 a3, .slice sp sn sc, .int .i64 lo, .int .i64 hi]) ∧ Cl w2 (w.heap.size) [.int .i64 0, .int .u64 0, .int .u64 0, .int .u64 0, .int .u64 0, .slice none 0 0, .int .i64 0, .int .i64 0] ∧ Cl w2 (w.heap.size + 1) [.int .i64 0, .int .i64 0] ∧ w2.cell? ⟨w.heap.size + 1 + 1, 1, none⟩ = some (.int .i64 at_) ∧ S' (w.heap.size) = none ∧ S' (w.heap.size + 1) = none ∧ PsW w S S' w2 ∧ F S' (.agg #[.int .i64 k, .int .u64 a0, .int .u64 a1, .int .u64 a2, .int .u64 a3, .slice sp sn sc, .int .i64 lo, .int .i64 hi]))
    (hat : ¬ at_ < s.length) :
    Calls Go.Proofs.Tryd.prog 14 #[.string ⟨⟨s⟩⟩] w fun r w' => ∃ v S', r = .returned (.tuple #[v, .agg #[.int .i64 0, .int .i64 0]]) ∧ F S' v ∧ PsW w S S' w' := by
  have hmf : ∀ (fn : Fn) (first cap : Array Value) (w : World), (Instr.makeFunc fn first cap).run Go.Proofs.Tryd.prog w = .ok (.func fn first cap) w := fun _ _ _ _ => rfl
  have p1 : w.heap.size + 1 + 1 ≠ w.heap.size := by omega
  have p2 : w.heap.size + 1 ≠ w.heap.size := by omega
  go_enter_defers Go.Proofs.Tryd.func14, Go.Proofs.Tryd.ntmps14
  go_wp2_with (first
    | (go_at_call 19; refine hc.mono ?_; rintro r w2 ⟨k, a0, a1, a2, a3, lo, hi, sp, sn, sc, S', rfl, hC0, hC1, hat2, hs0, hs1, hP, hFF⟩; have c00 := (hC0 0 _ rfl).1; have z00 := (hC0 0 _ rfl).2; have c01 := (hC0 1 _ rfl).1; have z01 := (hC0 1 _ rfl).2; have c02 := (hC0 2 _ rfl).1; have z02 := (hC0 2 _ rfl).2; have c03 := (hC0 3 _ rfl).1; have z03 := (hC0 3 _ rfl).2; have c04 := (hC0 4 _ rfl).1; have z04 := (hC0 4 _ rfl).2; have c05 := (hC0 5 _ rfl).1; have z05 := (hC0 5 _ rfl).2; have c06 := (hC0 6 _ rfl).1; have z06 := (hC0 6 _ rfl).2; have c07 := (hC0 7 _ rfl).1; have z07 := (hC0 7 _ rfl).2; have c10 := (hC1 0 _ rfl).1; have z10 := (hC1 0 _ rfl).2; have c11 := (hC1 1 _ rfl).1; have z11 := (hC1 1 _ rfl).2; have hl0 : w.heap.size < w2.heap.size := cl_lt hC0; have hl1 : w.heap.size + 1 < w2.heap.size := cl_lt hC1; have H0 := Go.Lib.hid hC0; have H1 := Go.Lib.hid hC1; have HP := Go.Lib.hid hP; have HF := Go.Lib.hid hFF; clear hc hC0 hC1 hP hFF))
  have k0 : Cl (((((((((((((((((((w2).setCell { block := w.heap.size, off := 0 } (Value.int IntKind.i64 k)).setCell { block := w.heap.size, off := 1 } (Value.int IntKind.u64 a0)).setCell { block := w.heap.size, off := 2 } (Value.int IntKind.u64 a1)).setCell { block := w.heap.size, off := 3 } (Value.int IntKind.u64 a2)).setCell { block := w.heap.size, off := 4 } (Value.int IntKind.u64 a3)).setCell { block := w.heap.size, off := 5 } (Value.slice sp sn sc)).setCell { block := w.heap.size, off := 6 } (Value.int IntKind.i64 lo)).setCell { block := w.heap.size, off := 7 } (Value.int IntKind.i64 hi)).setCell { block := w.heap.size, off := 0 } (Value.int IntKind.i64 k)).setCell { block := w.heap.size, off := 1 } (Value.int IntKind.u64 a0)).setCell { block := w.heap.size, off := 2 } (Value.int IntKind.u64 a1)).setCell { block := w.heap.size, off := 3 } (Value.int IntKind.u64 a2)).setCell { block := w.heap.size, off := 4 } (Value.int IntKind.u64 a3)).setCell { block := w.heap.size, off := 5 } (Value.slice sp sn sc)).setCell { block := w.heap.size, off := 6 } (Value.int IntKind.i64 lo)).setCell { block := w.heap.size, off := 7 } (Value.int IntKind.i64 hi)).setCell { block := w.heap.size + 1, off := 0 } (Value.int IntKind.i64 0)).setCell { block := w.heap.size + 1, off := 1 } (Value.int IntKind.i64 0)) (w.heap.size) [.int .i64 k, .int .u64 a0, .int .u64 a1, .int .u64 a2, .int .u64 a3, .slice sp sn sc, .int .i64 lo, .int .i64 hi] := (cl_set_ne (cl_set_ne (cl_set (cl_set (cl_set (cl_set (cl_set (cl_set (cl_set (cl_set (cl_set (cl_set (cl_set (cl_set (cl_set (cl_set (cl_set (cl_set H0.out 0 _) 1 _) 2 _) 3 _) 4 _) 5 _) 6 _) 7 _) 0 _) 1 _) 2 _) 3 _) 4 _) 5 _) 6 _) 7 _) p2 0 _) p2 1 _)
  have k1 : Cl (((((((((((((((((((w2).setCell { block := w.heap.size, off := 0 } (Value.int IntKind.i64 k)).setCell { block := w.heap.size, off := 1 } (Value.int IntKind.u64 a0)).setCell { block := w.heap.size, off := 2 } (Value.int IntKind.u64 a1)).setCell { block := w.heap.size, off := 3 } (Value.int IntKind.u64 a2)).setCell { block := w.heap.size, off := 4 } (Value.int IntKind.u64 a3)).setCell { block := w.heap.size, off := 5 } (Value.slice sp sn sc)).setCell { block := w.heap.size, off := 6 } (Value.int IntKind.i64 lo)).setCell { block := w.heap.size, off := 7 } (Value.int IntKind.i64 hi)).setCell { block := w.heap.size, off := 0 } (Value.int IntKind.i64 k)).setCell { block := w.heap.size, off := 1 } (Value.int IntKind.u64 a0)).setCell { block := w.heap.size, off := 2 } (Value.int IntKind.u64 a1)).setCell { block := w.heap.size, off := 3 } (Value.int IntKind.u64 a2)).setCell { block := w.heap.size, off := 4 } (Value.int IntKind.u64 a3)).setCell { block := w.heap.size, off := 5 } (Value.slice sp sn sc)).setCell { block := w.heap.size, off := 6 } (Value.int IntKind.i64 lo)).setCell { block := w.heap.size, off := 7 } (Value.int IntKind.i64 hi)).setCell { block := w.heap.size + 1, off := 0 } (Value.int IntKind.i64 0)).setCell { block := w.heap.size + 1, off := 1 } (Value.int IntKind.i64 0)) (w.heap.size + 1) [.int .i64 0, .int .i64 0] := (cl_set (cl_set (cl_set_ne (cl_set_ne (cl_set_ne (cl_set_ne (cl_set_ne (cl_set_ne (cl_set_ne (cl_set_ne (cl_set_ne (cl_set_ne (cl_set_ne (cl_set_ne (cl_set_ne (cl_set_ne (cl_set_ne (cl_set_ne H1.out p2.symm 0 _) p2.symm 1 _) p2.symm 2 _) p2.symm 3 _) p2.symm 4 _) p2.symm 5 _) p2.symm 6 _) p2.symm 7 _) p2.symm 0 _) p2.symm 1 _) p2.symm 2 _) p2.symm 3 _) p2.symm 4 _) p2.symm 5 _) p2.symm 6 _) p2.symm 7 _) 0 _) 1 _)
  have k2 : PsW w S S' (((((((((((((((((((w2).setCell { block := w.heap.size, off := 0 } (Value.int IntKind.i64 k)).setCell { block := w.heap.size, off := 1 } (Value.int IntKind.u64 a0)).setCell { block := w.heap.size, off := 2 } (Value.int IntKind.u64 a1)).setCell { block := w.heap.size, off := 3 } (Value.int IntKind.u64 a2)).setCell { block := w.heap.size, off := 4 } (Value.int IntKind.u64 a3)).setCell { block := w.heap.size, off := 5 } (Value.slice sp sn sc)).setCell { block := w.heap.size, off := 6 } (Value.int IntKind.i64 lo)).setCell { block := w.heap.size, off := 7 } (Value.int IntKind.i64 hi)).setCell { block := w.heap.size, off := 0 } (Value.int IntKind.i64 k)).setCell { block := w.heap.size, off := 1 } (Value.int IntKind.u64 a0)).setCell { block := w.heap.size, off := 2 } (Value.int IntKind.u64 a1)).setCell { block := w.heap.size, off := 3 } (Value.int IntKind.u64 a2)).setCell { block := w.heap.size, off := 4 } (Value.int IntKind.u64 a3)).setCell { block := w.heap.size, off := 5 } (Value.slice sp sn sc)).setCell { block := w.heap.size, off := 6 } (Value.int IntKind.i64 lo)).setCell { block := w.heap.size, off := 7 } (Value.int IntKind.i64 hi)).setCell { block := w.heap.size + 1, off := 0 } (Value.int IntKind.i64 0)).setCell { block := w.heap.size + 1, off := 1 } (Value.int IntKind.i64 0)) := by
    have HQ := HP.out
    have hn0 : w.heap.size ≤ w.heap.size := Nat.le_refl _
    have hn1 : w.heap.size ≤ w.heap.size + 1 := by omega
    exact ((((((((((((((((((HQ.setCell hn0 hs0).setCell hn0 hs0).setCell hn0 hs0).setCell hn0 hs0).setCell hn0 hs0).setCell hn0 hs0).setCell hn0 hs0).setCell hn0 hs0).setCell hn0 hs0).setCell hn0 hs0).setCell hn0 hs0).setCell hn0 hs0).setCell hn0 hs0).setCell hn0 hs0).setCell hn0 hs0).setCell hn0 hs0).setCell hn1 hs1).setCell hn1 hs1)
  clear c00 z00 c01 z01 c02 z02 c03 z03 c04 z04 c05 z05 c06 z06 c07 z07 c10 z10 c11 z11
  generalize (((((((((((((((((((w2).setCell { block := w.heap.size, off := 0 } (Value.int IntKind.i64 k)).setCell { block := w.heap.size, off := 1 } (Value.int IntKind.u64 a0)).setCell { block := w.heap.size, off := 2 } (Value.int IntKind.u64 a1)).setCell { block := w.heap.size, off := 3 } (Value.int IntKind.u64 a2)).setCell { block := w.heap.size, off := 4 } (Value.int IntKind.u64 a3)).setCell { block := w.heap.size, off := 5 } (Value.slice sp sn sc)).setCell { block := w.heap.size, off := 6 } (Value.int IntKind.i64 lo)).setCell { block := w.heap.size, off := 7 } (Value.int IntKind.i64 hi)).setCell { block := w.heap.size, off := 0 } (Value.int IntKind.i64 k)).setCell { block := w.heap.size, off := 1 } (Value.int IntKind.u64 a0)).setCell { block := w.heap.size, off := 2 } (Value.int IntKind.u64 a1)).setCell { block := w.heap.size, off := 3 } (Value.int IntKind.u64 a2)).setCell { block := w.heap.size, off := 4 } (Value.int IntKind.u64 a3)).setCell { block := w.heap.size, off := 5 } (Value.slice sp sn sc)).setCell { block := w.heap.size, off := 6 } (Value.int IntKind.i64 lo)).setCell { block := w.heap.size, off := 7 } (Value.int IntKind.i64 hi)).setCell { block := w.heap.size + 1, off := 0 } (Value.int IntKind.i64 0)).setCell { block := w.heap.size + 1, off := 1 } (Value.int IntKind.i64 0)) = W3 at *
  refine leaves_cons (f := 18) (args := #[.pointer (some ⟨w.heap.size, 0, none⟩), .pointer (some ⟨w.heap.size + 1, 0, none⟩)]) (by simp) (by simp [go_sem]) ?_
  refine ps_idle.mono ?_
  rintro r u w5 ⟨⟨v, rfl⟩, rfl, rfl⟩
  have m0 := cl_alloc k0 (Obj.cells #[Value.int IntKind.i64 0, Value.int IntKind.i64 0] 36)
  have m1 := cl_alloc k1 (Obj.cells #[Value.int IntKind.i64 0, Value.int IntKind.i64 0] 36)
  have e00 := (m0 0 _ rfl).1; have e01 := (m0 1 _ rfl).1; have e02 := (m0 2 _ rfl).1; have e03 := (m0 3 _ rfl).1; have e04 := (m0 4 _ rfl).1; have e05 := (m0 5 _ rfl).1; have e06 := (m0 6 _ rfl).1; have e07 := (m0 7 _ rfl).1; have e10 := (m1 0 _ rfl).1; have e11 := (m1 1 _ rfl).1
  refine ⟨_, ?_, _, S', rfl, HF.out, k2.alloc _ _⟩
  clear k0 k1 k2 m0 m1 hmf
  simp [results, Go.Proofs.Tryd.results14, go_sem, e00, e01, e02, e03, e04, e05, e06, e07, e10, e11]

set_option maxHeartbeats 16000000 in
theorem ps_pan {w : World} {s : List UInt8} {S : Hp} {e a : Int} (hlen : ¬ (256 : Int) < s.length) (hs0 : S (w.heap.size) = none) (hs1 : S (w.heap.size + 1) = none)
    (hc : Calls Go.Proofs.Tryd.prog 19 #[.pointer (some ⟨w.heap.size + 1 + 1, 0, none⟩)] (((w.alloc (Obj.cells #[Value.int IntKind.i64 0, Value.int IntKind.u64 0, Value.int IntKind.u64 0, Value.int IntKind.u64 0, Value.int IntKind.u64 0, Value.slice none 0 0, Value.int IntKind.i64 0, Value.int IntKind.i64 0] 27)).alloc (Obj.cells #[Value.int IntKind.i64 0, Value.int IntKind.i64 0] 36)).alloc (Obj.cells #[Value.string ⟨⟨s⟩⟩, Value.int IntKind.i64 0, Value.int IntKind.i64 0] 45)) fun r w2 => r = .panicked [{ v := .iface 36 (.agg #[.int .i64 e, .int .i64 a]), recovered := false }] ∧ Cl w2 (w.heap.size) [.int .i64 0, .int .u64 0, .int .u64 0, .int .u64 0, .int .u64 0, .slice none 0 0, .int .i64 0, .int .i64 0] ∧ Cl w2 (w.heap.size + 1) [.int .i64 0, .int .i64 0] ∧ PsW w S S w2) :
    Calls Go.Proofs.Tryd.prog 14 #[.string ⟨⟨s⟩⟩] w fun r w' => r = .returned (.tuple #[.agg #[Value.int IntKind.i64 0, Value.int IntKind.u64 0, Value.int IntKind.u64 0, Value.int IntKind.u64 0, Value.int IntKind.u64 0, Value.slice none 0 0, Value.int IntKind.i64 0, Value.int IntKind.i64 0], .agg #[.int .i64 e, .int .i64 a]]) ∧ PsW w S S w' := by
  have hmf : ∀ (fn : Fn) (first cap : Array Value) (w : World), (Instr.makeFunc fn first cap).run Go.Proofs.Tryd.prog w = .ok (.func fn first cap) w := fun _ _ _ _ => rfl
  have p1 : w.heap.size + 1 + 1 ≠ w.heap.size := by omega
  have p2 : w.heap.size + 1 ≠ w.heap.size := by omega
  go_enter_defers Go.Proofs.Tryd.func14, Go.Proofs.Tryd.ntmps14
  go_wp2_with (first
    | (go_at_call 19; refine hc.mono ?_; rintro r w2 ⟨rfl, hC0, hC1, hP⟩; have H0 := Go.Lib.hid hC0; have H1 := Go.Lib.hid hC1; have HP := Go.Lib.hid hP; clear hc hC0 hC1 hP))
  refine leaves_cons (f := 18) (args := #[.pointer (some ⟨w.heap.size, 0, none⟩), .pointer (some ⟨w.heap.size + 1, 0, none⟩)]) (by simp) (by simp [go_sem]) ?_
  refine (ps_caught (R := fun w' => Cl w' (w.heap.size) [.int .i64 0, .int .u64 0, .int .u64 0, .int .u64 0, .int .u64 0, .slice none 0 0, .int .i64 0, .int .i64 0] ∧ Cl w' (w.heap.size + 1) [.int .i64 e, .int .i64 a] ∧ PsW w S S w') (cl_alloc H0.out _) (cl_alloc H1.out _) p2.symm (Nat.ne_of_lt (cl_lt H0.out)) (Nat.ne_of_lt (cl_lt H1.out)) (fun w' g0 g1 g2 => ⟨g0, g1, g2 w S S HP.out (Nat.le_refl _) (Nat.le_succ _) hs0 hs1⟩)).mono ?_
  rintro r u w5 ⟨⟨v, rfl⟩, rfl, m0, m1, hP5⟩
  have e00 := (m0 0 _ rfl).1; have e01 := (m0 1 _ rfl).1; have e02 := (m0 2 _ rfl).1; have e03 := (m0 3 _ rfl).1; have e04 := (m0 4 _ rfl).1; have e05 := (m0 5 _ rfl).1; have e06 := (m0 6 _ rfl).1; have e07 := (m0 7 _ rfl).1; have e10 := (m1 0 _ rfl).1; have e11 := (m1 1 _ rfl).1
  clear m0 m1 hmf H0 H1
  simp [Leaves, settle, results, Go.Proofs.Tryd.results14, go_sem, e00, e01, e02, e03, e04, e05, e06, e07, e10, e11]
  exact hP5

set_option maxHeartbeats 16000000 in
theorem ps_end {w : World} {s : List UInt8} {S : Hp} {at_ : Int} (hlen : ¬ (256 : Int) < s.length)
    (hc : Calls Go.Proofs.Tryd.prog 19 #[.pointer (some ⟨w.heap.size + 1 + 1, 0, none⟩)] (((w.alloc (Obj.cells #[Value.int IntKind.i64 0, Value.int IntKind.u64 0, Value.int IntKind.u64 0, Value.int IntKind.u64 0, Value.int IntKind.u64 0, Value.slice none 0 0, Value.int IntKind.i64 0, Value.int IntKind.i64 0] 27)).alloc (Obj.cells #[Value.int IntKind.i64 0, Value.int IntKind.i64 0] 36)).alloc (Obj.cells #[Value.string ⟨⟨s⟩⟩, Value.int IntKind.i64 0, Value.int IntKind.i64 0] 45)) fun r w2 => ∃ (k a0 a1 a2 a3 lo hi : Int) (sp : Option Addr) (sn sc : Nat) (S' : Hp), r = .returned (.agg #[.int .i64 k, .int .u64 a0, .int .u64 a1, .int .u64 a2, .int .u64 a3, .slice sp sn sc, .int .i64 lo, .int .i64 hi]) ∧ Cl w2 (w.heap.size) [.int .i64 0, .int .u64 0, .int .u64 0, .int .u64 0, .int .u64 0, .slice none 0 0, .int .i64 0, .int .i64 0] ∧ Cl w2 (w.heap.size + 1) [.int .i64 0, .int .i64 0] ∧ w2.cell? ⟨w.heap.size + 1 + 1, 1, none⟩ = some (.int .i64 at_) ∧ S' (w.heap.size) = none ∧ S' (w.heap.size + 1) = none ∧ PsW w S S' w2)
    (hat : at_ < s.length) :
    Calls Go.Proofs.Tryd.prog 14 #[.string ⟨⟨s⟩⟩] w fun r w' => r = .returned (.tuple #[.agg #[Value.int IntKind.i64 0, Value.int IntKind.u64 0, Value.int IntKind.u64 0, Value.int IntKind.u64 0, Value.int IntKind.u64 0, Value.slice none 0 0, Value.int IntKind.i64 0, Value.int IntKind.i64 0], .agg #[.int .i64 2, .int .i64 at_]]) ∧ ∃ S', PsW w S S' w' := by
  have hmf : ∀ (fn : Fn) (first cap : Array Value) (w : World), (Instr.makeFunc fn first cap).run Go.Proofs.Tryd.prog w = .ok (.func fn first cap) w := fun _ _ _ _ => rfl
  have p1 : w.heap.size + 1 + 1 ≠ w.heap.size := by omega
  have p2 : w.heap.size + 1 ≠ w.heap.size := by omega
  go_enter_defers Go.Proofs.Tryd.func14, Go.Proofs.Tryd.ntmps14
  go_wp2_with (first
    | (go_at_call 19; refine hc.mono ?_; rintro r w2 ⟨k, a0, a1, a2, a3, lo, hi, sp, sn, sc, S', rfl, hC0, hC1, hat2, hs0, hs1, hP⟩; have c00 := (hC0 0 _ rfl).1; have z00 := (hC0 0 _ rfl).2; have c01 := (hC0 1 _ rfl).1; have z01 := (hC0 1 _ rfl).2; have c02 := (hC0 2 _ rfl).1; have z02 := (hC0 2 _ rfl).2; have c03 := (hC0 3 _ rfl).1; have z03 := (hC0 3 _ rfl).2; have c04 := (hC0 4 _ rfl).1; have z04 := (hC0 4 _ rfl).2; have c05 := (hC0 5 _ rfl).1; have z05 := (hC0 5 _ rfl).2; have c06 := (hC0 6 _ rfl).1; have z06 := (hC0 6 _ rfl).2; have c07 := (hC0 7 _ rfl).1; have z07 := (hC0 7 _ rfl).2; have c10 := (hC1 0 _ rfl).1; have z10 := (hC1 0 _ rfl).2; have c11 := (hC1 1 _ rfl).1; have z11 := (hC1 1 _ rfl).2; have hl0 : w.heap.size < w2.heap.size := cl_lt hC0; have hl1 : w.heap.size + 1 < w2.heap.size := cl_lt hC1; have H0 := Go.Lib.hid hC0; have H1 := Go.Lib.hid hC1; have HP := Go.Lib.hid hP; clear hc hC0 hC1 hP)
    | (go_at_call 20; refine fail_walk.mono ?_; rintro r w3 ⟨rfl, rfl⟩))
  have k0 : Cl (((((((((w2).setCell { block := w.heap.size, off := 0 } (Value.int IntKind.i64 k)).setCell { block := w.heap.size, off := 1 } (Value.int IntKind.u64 a0)).setCell { block := w.heap.size, off := 2 } (Value.int IntKind.u64 a1)).setCell { block := w.heap.size, off := 3 } (Value.int IntKind.u64 a2)).setCell { block := w.heap.size, off := 4 } (Value.int IntKind.u64 a3)).setCell { block := w.heap.size, off := 5 } (Value.slice sp sn sc)).setCell { block := w.heap.size, off := 6 } (Value.int IntKind.i64 lo)).setCell { block := w.heap.size, off := 7 } (Value.int IntKind.i64 hi)) (w.heap.size) [.int .i64 k, .int .u64 a0, .int .u64 a1, .int .u64 a2, .int .u64 a3, .slice sp sn sc, .int .i64 lo, .int .i64 hi] := (cl_set (cl_set (cl_set (cl_set (cl_set (cl_set (cl_set (cl_set H0.out 0 _) 1 _) 2 _) 3 _) 4 _) 5 _) 6 _) 7 _)
  have k1 : Cl (((((((((w2).setCell { block := w.heap.size, off := 0 } (Value.int IntKind.i64 k)).setCell { block := w.heap.size, off := 1 } (Value.int IntKind.u64 a0)).setCell { block := w.heap.size, off := 2 } (Value.int IntKind.u64 a1)).setCell { block := w.heap.size, off := 3 } (Value.int IntKind.u64 a2)).setCell { block := w.heap.size, off := 4 } (Value.int IntKind.u64 a3)).setCell { block := w.heap.size, off := 5 } (Value.slice sp sn sc)).setCell { block := w.heap.size, off := 6 } (Value.int IntKind.i64 lo)).setCell { block := w.heap.size, off := 7 } (Value.int IntKind.i64 hi)) (w.heap.size + 1) [.int .i64 0, .int .i64 0] := (cl_set_ne (cl_set_ne (cl_set_ne (cl_set_ne (cl_set_ne (cl_set_ne (cl_set_ne (cl_set_ne H1.out p2.symm 0 _) p2.symm 1 _) p2.symm 2 _) p2.symm 3 _) p2.symm 4 _) p2.symm 5 _) p2.symm 6 _) p2.symm 7 _)
  have k2 : PsW w S S' (((((((((w2).setCell { block := w.heap.size, off := 0 } (Value.int IntKind.i64 k)).setCell { block := w.heap.size, off := 1 } (Value.int IntKind.u64 a0)).setCell { block := w.heap.size, off := 2 } (Value.int IntKind.u64 a1)).setCell { block := w.heap.size, off := 3 } (Value.int IntKind.u64 a2)).setCell { block := w.heap.size, off := 4 } (Value.int IntKind.u64 a3)).setCell { block := w.heap.size, off := 5 } (Value.slice sp sn sc)).setCell { block := w.heap.size, off := 6 } (Value.int IntKind.i64 lo)).setCell { block := w.heap.size, off := 7 } (Value.int IntKind.i64 hi)) := ((((((((HP.out.setCell (Nat.le_refl _) hs0).setCell (Nat.le_refl _) hs0).setCell (Nat.le_refl _) hs0).setCell (Nat.le_refl _) hs0).setCell (Nat.le_refl _) hs0).setCell (Nat.le_refl _) hs0).setCell (Nat.le_refl _) hs0).setCell (Nat.le_refl _) hs0)
  clear c00 z00 c01 z01 c02 z02 c03 z03 c04 z04 c05 z05 c06 z06 c07 z07 c10 z10 c11 z11
  generalize (((((((((w2).setCell { block := w.heap.size, off := 0 } (Value.int IntKind.i64 k)).setCell { block := w.heap.size, off := 1 } (Value.int IntKind.u64 a0)).setCell { block := w.heap.size, off := 2 } (Value.int IntKind.u64 a1)).setCell { block := w.heap.size, off := 3 } (Value.int IntKind.u64 a2)).setCell { block := w.heap.size, off := 4 } (Value.int IntKind.u64 a3)).setCell { block := w.heap.size, off := 5 } (Value.slice sp sn sc)).setCell { block := w.heap.size, off := 6 } (Value.int IntKind.i64 lo)).setCell { block := w.heap.size, off := 7 } (Value.int IntKind.i64 hi)) = W3 at *
  refine leaves_cons (f := 18) (args := #[.pointer (some ⟨w.heap.size, 0, none⟩), .pointer (some ⟨w.heap.size + 1, 0, none⟩)]) (by simp) (by simp [go_sem]) ?_
  refine (ps_caught (R := fun w' => Cl w' (w.heap.size) [.int .i64 0, .int .u64 0, .int .u64 0, .int .u64 0, .int .u64 0, .slice none 0 0, .int .i64 0, .int .i64 0] ∧ Cl w' (w.heap.size + 1) [.int .i64 2, .int .i64 at_] ∧ PsW w S S' w') (cl_alloc k0 _) (cl_alloc k1 _) p2.symm (Nat.ne_of_lt (cl_lt k0)) (Nat.ne_of_lt (cl_lt k1)) (fun w' g0 g1 g2 => ⟨g0, g1, g2 w S S' k2 (Nat.le_refl _) (Nat.le_succ _) hs0 hs1⟩)).mono ?_
  rintro r u w5 ⟨⟨v, rfl⟩, rfl, m0, m1, hP5⟩
  have e00 := (m0 0 _ rfl).1; have e01 := (m0 1 _ rfl).1; have e02 := (m0 2 _ rfl).1; have e03 := (m0 3 _ rfl).1; have e04 := (m0 4 _ rfl).1; have e05 := (m0 5 _ rfl).1; have e06 := (m0 6 _ rfl).1; have e07 := (m0 7 _ rfl).1; have e10 := (m1 0 _ rfl).1; have e11 := (m1 1 _ rfl).1
  clear m0 m1 hmf k0 k1 H0 H1
  simp [Leaves, settle, results, Go.Proofs.Tryd.results14, go_sem, e00, e01, e02, e03, e04, e05, e06, e07, e10, e11]
  exact ⟨S', hP5⟩

theorem nod_open {S : Hp} {y : NodT.den} {v : Value} (h : VR S NodT y v) : ∃ (k a0 a1 a2 a3 lo hi : Int) (sp : Option Addr) (sn sc : Nat), v = .agg #[.int .i64 k, .int .u64 a0, .int .u64 a1, .int .u64 a2, .int .u64 a3, .slice sp sn sc, .int .i64 lo, .int .i64 hi] := by
  unfold VR at h
  simp only [T.isAgg, if_true] at h
  obtain ⟨cs, e, h⟩ := h
  obtain ⟨c1, d1, e1, h1, c2, d2, e2, h2, c3, d3, e3, h3, c4, d4, e4, h4, c5, d5, e5, h5, h6⟩ := h
  have h1 : c1 = [.int .i64 y.1] := h1
  have h4 : c4 = [.int .i64 y.2.2.2.1] := h4
  have h5 : c5 = [.int .i64 y.2.2.2.2.1] := h5
  have h6 : d5 = [] := h6
  obtain ⟨hl, ha⟩ := h2
  obtain ⟨sp, sc, h3, _⟩ := h3
  obtain ⟨k, arr, sl, lo, hi, u⟩ := y
  match arr, hl with
  | [a0, a1, a2, a3], _ =>
    obtain ⟨q0, r0, f0, g0, q1, r1, f1, g1, q2, r2, f2, g2, q3, r3, f3, g3, g4⟩ := ha
    have g0 : q0 = [.int .u64 a0] := g0
    have g1 : q1 = [.int .u64 a1] := g1
    have g2 : q2 = [.int .u64 a2] := g2
    have g3 : q3 = [.int .u64 a3] := g3
    have g4 : r3 = [] := g4
    refine ⟨k, a0, a1, a2, a3, lo, hi, sp, List.length sl, sc, ?_⟩
    rw [e]
    congr 1
    apply Array.toList_inj.1
    rw [e1, h1, e2, f0, g0, f1, g1, f2, g2, f3, g3, g4, e3, h3, e4, h4, e5, h5, h6]
    rfl

abbrev FltT : T := .pair (.int .i64) (.pair (.int .i64) .unit)

def nodZ : NodT.den := ((0 : Int), (([(0 : Int), 0, 0, 0] : List Int), (([] : List Go.Lift.Tree), ((0 : Int), ((0 : Int), ())))))

theorem vr_nodZ (S : Hp) : VR S NodT nodZ (.agg #[Value.int IntKind.i64 0, Value.int IntKind.u64 0, Value.int IntKind.u64 0, Value.int IntKind.u64 0, Value.int IntKind.u64 0, Value.slice none 0 0, Value.int IntKind.i64 0, Value.int IntKind.i64 0]) := (zv_vr (t := NodT) (x := nodZ) rfl).mono (noHp_sub _)

theorem vr_flt (S : Hp) (e a : Int) : VR S FltT (e, a, ()) (.agg #[.int .i64 e, .int .i64 a]) := (zv_vr (t := FltT) (x := (e, a, ())) rfl).mono (noHp_sub _)

noncomputable def regex_Parse (N : Nat) (s : List UInt8) : Option (denL [NodT, FltT]) :=
 cond (decide ((256 : Int) < s.length))
 (some (nodZ, ((3, 256, ()), ())))
 (orP (regex_parser_alt_flt N (s, (0, (0, ())))) (fun z => some (nodZ, (z, ())))
 ((regex_parser_alt N (s, (0, (0, ())))).bind fun y =>
 cond (decide (y.2.1.2.1 < (s.length : Int)))
 (some (nodZ, ((2, y.2.1.2.1, ()), ())))
 (some (y.1, ((0, 0, ()), ())))))

noncomputable def regex_Parse_res (N : Nat) : List A → Res := resOf [(0, .v .str)] (fun x => regex_Parse N x.1) (oRes (.tup [NodT, FltT]) 1)

theorem cl_of {w : World} {n : Nat} {cs : Array Value} {E : Nat} (h : w.heap[n]? = some (.cells cs E (0, 0))) : Cl w n cs.toList := by
  intro i v hi
  have hi' : cs[i]? = some v := by rw [← Array.getElem?_toList]; exact hi
  constructor
  · simp [World.cell?, h, hi']
  · simp [World.frozen?, h]

def psW (w : World) (s : List UInt8) : World := ((w.alloc (Obj.cells #[Value.int IntKind.i64 0, Value.int IntKind.u64 0, Value.int IntKind.u64 0, Value.int IntKind.u64 0, Value.int IntKind.u64 0, Value.slice none 0 0, Value.int IntKind.i64 0, Value.int IntKind.i64 0] 27)).alloc (Obj.cells #[Value.int IntKind.i64 0, Value.int IntKind.i64 0] 36)).alloc (Obj.cells #[Value.string ⟨⟨s⟩⟩, Value.int IntKind.i64 0, Value.int IntKind.i64 0] 45)

theorem psW_facts (w : World) (s : List UInt8) : (psW w s).heap.size = w.heap.size + 3 ∧ (psW w s).heap[w.heap.size]? = some (.cells #[Value.int IntKind.i64 0, Value.int IntKind.u64 0, Value.int IntKind.u64 0, Value.int IntKind.u64 0, Value.int IntKind.u64 0, Value.slice none 0 0, Value.int IntKind.i64 0, Value.int IntKind.i64 0] 27 (0, 0)) ∧ (psW w s).heap[w.heap.size + 1]? = some (.cells #[Value.int IntKind.i64 0, Value.int IntKind.i64 0] 36 (0, 0)) ∧
    (psW w s).heap[w.heap.size + 1 + 1]? = some (.cells #[Value.string ⟨⟨s⟩⟩, Value.int IntKind.i64 0, Value.int IntKind.i64 0] 45 (0, 0)) ∧ (∀ k, k < w.heap.size → (psW w s).heap[k]? = w.heap[k]?) ∧
    (psW w s).tape = w.tape ∧ (psW w s).os = w.os ∧ (psW w s).output = w.output := by
  have hh : (psW w s).heap = ((w.heap.push (.cells #[Value.int IntKind.i64 0, Value.int IntKind.u64 0, Value.int IntKind.u64 0, Value.int IntKind.u64 0, Value.int IntKind.u64 0, Value.slice none 0 0, Value.int IntKind.i64 0, Value.int IntKind.i64 0] 27 (0, 0))).push (.cells #[Value.int IntKind.i64 0, Value.int IntKind.i64 0] 36 (0, 0))).push (.cells #[Value.string ⟨⟨s⟩⟩, Value.int IntKind.i64 0, Value.int IntKind.i64 0] 45 (0, 0)) := rfl
  refine ⟨by rw [hh]; simp, ?_, ?_, ?_, fun k hk => ?_, rfl, rfl, rfl⟩
  · rw [hh, Array.getElem?_push, if_neg (by simp; omega), Array.getElem?_push, if_neg (by simp), Array.getElem?_push, if_pos rfl]
  · rw [hh, Array.getElem?_push, if_neg (by simp), Array.getElem?_push, if_pos (by simp)]
  · rw [hh, Array.getElem?_push, if_pos (by simp)]
  · rw [hh, Array.getElem?_push, if_neg (by simp; omega), Array.getElem?_push, if_neg (by simp; omega), Array.getElem?_push, if_neg (by omega)]

theorem ps_args {w : World} {s : List UInt8} {S : Hp} (hS : Lift.Sub S (hp w)) : ArgsRel (hp (psW w s)) S [.box PrsT (s, (0, (0, ())))] [.pointer (some ⟨w.heap.size + 1 + 1, 0, none⟩)] (fun i => if i = 0 then [w.heap.size + 1 + 1] else []) ∧ Lift.Sub S (hp (psW w s)) := by
  obtain ⟨f1, f2, f3, f4, f5, _⟩ := psW_facts w s
  have hsub : Lift.Sub S (hp (psW w s)) := fun k q hk => by
    have := hS k q hk
    simp only [hp] at this ⊢
    rw [f5 k (hp_lt (hS k q hk))]
    exact this
  refine ⟨args_box (w := psW w s) (args := []) (vals := []) ?_ (by simp) (fun k hk => ?_) ⟨rfl, fun i x h => (by cases h), fun _ _ => rfl, fun i j b hb => (by cases hb), fun _ => .nil, fun i b hb => (by cases hb)⟩, hsub⟩
  · refine ⟨w.heap.size + 1 + 1, _, _, _, [], rfl, rfl, f4, free_zero _, RdO.of_rd PrsT _ _ ?_⟩
    exact ⟨[.string ⟨⟨s⟩⟩], _, rfl, rfl, [.int .i64 0], _, rfl, rfl, [.int .i64 0], [], rfl, rfl, rfl⟩
  · have : k = w.heap.size + 1 + 1 := by simpa using hk
    subst this
    cases hx : S (w.heap.size + 1 + 1) with
    | none => rfl
    | some o => exact absurd (hp_lt (hS _ _ hx)) (by omega)

theorem ps_high {w : World} {S : Hp} (hS : Lift.Sub S (hp w)) {k : Nat} (hk : w.heap.size ≤ k) : S k = none := by
  cases hx : S k with
  | none => rfl
  | some o => exact absurd (hp_lt (hS _ _ hx)) (by omega)

theorem ps_after {w w2 : World} {s : List UInt8} {S S' : Hp} (hS : Lift.Sub S (hp w)) (hwf : WF (psW w s) (fun b => ∃ i, b ∈ (fun i => if i = 0 then [w.heap.size + 1 + 1] else []) i) w2) (hSS : Lift.Sub S S') (hSw : Lift.Sub S' (hp w2))
    (hnew : ∀ b, S' b ≠ none → S b ≠ none ∨ b = w.heap.size + 1 + 1 ∨ (psW w s).heap.size ≤ b) :
    Cl w2 w.heap.size [.int .i64 0, .int .u64 0, .int .u64 0, .int .u64 0, .int .u64 0, .slice none 0 0, .int .i64 0, .int .i64 0] ∧ Cl w2 (w.heap.size + 1) [.int .i64 0, .int .i64 0] ∧ S' w.heap.size = none ∧ S' (w.heap.size + 1) = none ∧ PsW w S S' w2 := by
  obtain ⟨f1, f2, f3, f4, f5, f6, f7, f8⟩ := psW_facts w s
  have hin : ∀ k, (∃ i, k ∈ (fun i => if i = 0 then [w.heap.size + 1 + 1] else []) i) → k = w.heap.size + 1 + 1 := by
    rintro k ⟨i, hi⟩
    by_cases hi0 : i = 0
    · simpa [hi0] using hi
    · simp [hi0] at hi
  have g0 := hwf.same w.heap.size (by omega) (fun h => by have := hin _ h; omega)
  have g1 := hwf.same (w.heap.size + 1) (by omega) (fun h => by have := hin _ h; omega)
  rw [f2] at g0
  rw [f3] at g1
  refine ⟨cl_of g0, cl_of g1, ?_, ?_, ⟨by have := hwf.size; omega, fun k hk _ => ?_, hwf.tape.trans f6, hwf.os.trans f7, hwf.output.trans f8⟩, hSS, hSw, fun k hk => ?_⟩
  · cases hx : S' w.heap.size with
    | none => rfl
    | some o =>
      rcases hnew _ (by rw [hx]; simp) with h | h | h
      · exact absurd (ps_high hS (Nat.le_refl _)) h
      · omega
      · omega
  · cases hx : S' (w.heap.size + 1) with
    | none => rfl
    | some o =>
      rcases hnew _ (by rw [hx]; simp) with h | h | h
      · exact absurd (ps_high hS (by omega)) h
      · omega
      · omega
  · rw [hwf.same k (by omega) (fun h => by have := hin _ h; omega), f5 k hk]
  · rcases hnew k hk with h | h | h
    · exact .inl h
    · exact .inr (by omega)
    · exact .inr (by omega)

theorem prs_at {w : World} {S : Hp} {x : PrsT.den} {b : Nat} {o : List Nat} (h : ARel (hp w) S (fun _ => undef) (.box PrsT x) (.pointer (some ⟨b, 0, none⟩)) o) : w.cell? ⟨b, 1, none⟩ = some (.int .i64 x.2.1) := by
  obtain ⟨b', cs, E, fr, bs, e, e', hb, hf, hr⟩ := h
  cases e'
  obtain ⟨_, c1, d1, hc, h1, c2, d2, hc2, h2, h3⟩ := RdO.rd PrsT x _ _ rfl hr
  have k1 : c1 = [.string ⟨⟨x.1⟩⟩] := h1
  have k2 : c2 = [.int .i64 x.2.1] := h2
  have : cs[1]? = some (.int .i64 x.2.1) := by
    rw [← Array.getElem?_toList, hc, k1, hc2, k2]; rfl
  have hb : w.heap[b]? = some (.cells cs E fr) := hb
  simp [World.cell?, hb, this]

theorem ps_ends {w w' : World} {s : List UInt8} {S S' : Hp} {ob : Nat → List Nat} {y : denL [NodT, FltT]} {v1 v2 : Value} (hob : ∀ i, ob i = []) (hP : PsW w S S' w') (h1 : VR S' NodT y.1 v1) (h2 : VR S' FltT y.2.1 v2) :
    Lift.Ends w S (mkS [(0, .v .str)] 0 (s, ())) [.string ⟨⟨s⟩⟩] ob (oRes (.tup [NodT, FltT]) 1 y).1 (oRes (.tup [NodT, FltT]) 1 y).2 (.returned (.tuple #[v1, v2])) w' := by
  obtain ⟨k1, k2, k3, k4⟩ := hP
  refine ⟨_, S', [], ob, rfl, ⟨k1.size, fun k hk _ => k1.same k hk (fun h => h), k1.tape, k1.os, k1.output⟩, k2, k3, fun k hk => ?_, ⟨⟨rfl, _, rfl, .cons h1 (.cons h2 .nil)⟩, rfl⟩, (fun k hk => by cases hk), .nil, ?_, ?_, ?_, ?_, fun _ h => h⟩
  · rcases k4 k hk with h | h
    · exact .inl h
    · exact .inr (.inr h)
  · intro i x hx hbx
    match i with
    | 0 => simp [mkS, deads, AS.mk] at hx; subst hx; simp [isBoxA] at hbx
    | i + 1 => simp [mkS, deads] at hx
  · intro i k hk
    rw [hob i] at hk; cases hk
  · intro i j k hi
    rw [hob i] at hi; cases hi
  · intro i
    rw [hob i]; exact .nil

theorem regex_Parse_ct (N : Nat) : Contract Go.Proofs.Tryd.prog glob 14 (regex_Parse_res N) := by
  refine Contract.hand ⟨_, Go.Proofs.Tryd.func14, by kernel_rfl, by decide⟩ ?_
  intro w S vals ob x y har hS hg hy
  obtain ⟨s, u⟩ := x
  cases u
  have hob : ∀ i, ob i = [] := by
    intro i
    rcases i with _ | i
    · obtain ⟨⟨v, hv, hA⟩, _⟩ := har.rel 0 _ rfl
      exact hA.2
    · exact har.out _ (by simp [mkS, deads])
  have hvals : vals = [.string ⟨⟨s⟩⟩] := by
    have hlen := har.len
    obtain ⟨⟨v0, hv0, hA0⟩, _⟩ := har.rel 0 _ rfl
    have e0 : v0 = .string ⟨⟨s⟩⟩ := VR.str_inv hA0.1
    match vals, hlen with
    | [a], _ => cases hv0; rw [e0]
  subst hvals
  have hy : regex_Parse N s = some y := hy
  unfold regex_Parse at hy
  by_cases hlen : (256 : Int) < s.length
  · rw [decide_eq_true hlen] at hy
    cases hy
    refine (ps_long hS hlen).mono ?_
    rintro r w' ⟨rfl, hP⟩
    exact ps_ends hob hP (vr_nodZ _) (vr_flt _ _ _)
  · rw [decide_eq_false hlen] at hy
    simp only [cond_false] at hy
    obtain ⟨hA, hSB⟩ := ps_args (s := s) hS
    rcases orP_some hy with ⟨z, hz, hK⟩ | ⟨_, hK⟩
    · cases hK
      have hc := (regex_parser_alt_flt_ct N).2 (psW w s) S _ _ _ hA hSB hg z hz
      refine (ps_pan hlen (ps_high hS (Nat.le_refl _)) (ps_high hS (Nat.le_succ _)) (e := z.1) (a := z.2.1) (hc.mono ?_)).mono ?_
      · rintro e w2 ⟨rfl, hwf, hsub⟩
        obtain ⟨q1, q2, q3, q4, q5⟩ := ps_after hS hwf (Lift.Sub.refl S) hsub (fun b hb => .inl hb)
        exact ⟨rfl, q1, q2, q5⟩
      · rintro r w' ⟨rfl, hP⟩
        obtain ⟨z1, z2, u⟩ := z
        exact ps_ends hob hP (vr_nodZ _) (vr_flt _ _ _)
    · obtain ⟨q, hq, hK⟩ := Option.bind_eq_some_iff.1 hK
      have hc := (regex_parser_alt_ct N).2 (psW w s) S _ _ _ hA hSB hg q hq
      have key : ∀ e w2, Lift.Ends (psW w s) S [.box PrsT (s, (0, (0, ())))] [.pointer (some ⟨w.heap.size + 1 + 1, 0, none⟩)] (fun i => if i = 0 then [w.heap.size + 1 + 1] else []) (.v NodT q.1) [.box PrsT q.2.1] e w2 →
          ∃ v S', e = .returned v ∧ VR S' NodT q.1 v ∧ Cl w2 w.heap.size [.int .i64 0, .int .u64 0, .int .u64 0, .int .u64 0, .int .u64 0, .slice none 0 0, .int .i64 0, .int .i64 0] ∧ Cl w2 (w.heap.size + 1) [.int .i64 0, .int .i64 0] ∧ w2.cell? ⟨w.heap.size + 1 + 1, 1, none⟩ = some (.int .i64 q.2.1.2.1) ∧ S' w.heap.size = none ∧ S' (w.heap.size + 1) = none ∧ PsW w S S' w2 := by
        rintro e w2 ⟨v, S', o, ob', rfl, hwf, hSS, hSw, hnew, ⟨hr, _⟩, _, _, hbox, _⟩
        obtain ⟨x2, v2, g1, g2, _, g4⟩ := hbox 0 _ rfl rfl
        simp at g1 g2
        subst g1
        subst g2
        obtain ⟨q1, q2, q3, q4, q5⟩ := ps_after hS hwf hSS hSw (fun b hb => by
          rcases hnew b hb with h | ⟨i, hi⟩ | h
          · exact .inl h
          · by_cases hi0 : i = 0
            · simp [hi0] at hi; exact .inr (.inl hi)
            · simp [hi0] at hi
          · exact .inr (.inr h))
        exact ⟨v, S', rfl, hr.1, q1, q2, prs_at g4, q3, q4, q5⟩
      by_cases hat : q.2.1.2.1 < (s.length : Int)
      · rw [decide_eq_true hat] at hK
        cases hK
        refine (ps_end (S := S) hlen (at_ := q.2.1.2.1) (hc.mono ?_) hat).mono ?_
        · intro e w2 h
          obtain ⟨v, S', rfl, hv, q1, q2, q3, q4, q5, q6⟩ := key e w2 h
          obtain ⟨k, a0, a1, a2, a3, lo, hi, sp, sn, sc, rfl⟩ := nod_open hv
          exact ⟨k, a0, a1, a2, a3, lo, hi, sp, sn, sc, S', rfl, q1, q2, q3, q4, q5, q6⟩
        · rintro r w' ⟨rfl, S', hP⟩
          exact ps_ends hob hP (vr_nodZ _) (vr_flt _ _ _)
      · rw [decide_eq_false hat] at hK
        cases hK
        refine (ps_ok (S := S) hlen (at_ := q.2.1.2.1) (F := fun S' v => VR S' NodT q.1 v) (hc.mono ?_) hat).mono ?_
        · intro e w2 h
          obtain ⟨v, S', rfl, hv, q1, q2, q3, q4, q5, q6⟩ := key e w2 h
          obtain ⟨k, a0, a1, a2, a3, lo, hi, sp, sn, sc, rfl⟩ := nod_open hv
          exact ⟨k, a0, a1, a2, a3, lo, hi, sp, sn, sc, S', rfl, q1, q2, q3, q4, q5, q6, hv⟩
        · rintro r w' ⟨v, S', rfl, hv, hP⟩
          exact ps_ends hob hP hv (vr_flt _ _ _)

end Go.Proofs.YtbfmhambfonpcaaDoorLg

set_option linter.all false
set_option maxRecDepth 100000
namespace Go.Proofs.YtbfmhambfonpcaaDoorLg
open Go Go.Lift Go.Proofs.YtbfmhambfonpcaaDoorPx

def TOk (a b : Nat) (c : Nat) (t : Tree) : Prop := WfN t ∧ nodesT t + c ≤ 3 * (b - a) + 1

def TRes (a c : Nat) (r : PR Tree) : Prop := ∀ t b, r = .ok t b → TOk a b c t

theorem TRes.bad {a c : Nat} {e : Int} {x : Nat} : TRes a c (.bad e x) := fun t b h => by cases h

theorem TRes.next {α : Type} {a c : Nat} {r : PR α} {f : α → Nat → PR Tree} (h : ∀ x b, r = .ok x b → TRes a c (f x b)) : TRes a c (r.next f) := by
  cases r with
  | bad e x => exact TRes.bad
  | ok x b => exact h x b rfl

end Go.Proofs.YtbfmhambfonpcaaDoorLg

set_option linter.all false
set_option maxRecDepth 100000
namespace Go.Proofs.YtbfmhambfonpcaaDoorLg
open Go Go.Lift Go.Proofs.YtbfmhambfonpcaaDoorPx

abbrev PP := NodT.den × (List Int × (Bool × (Int × ((Int × (Int × Unit)) × Unit))))

def badP (e : Int) (a : Nat) : PP := (nodZ, (z4, (false, ((0 : Int), ((e, ((a : Int), ())), ())))))
def refP {α : Type} (f : α → Nat → PP) : PR α → PP
  | .bad e a => badP e a
  | .ok x a => f x a

def Nz {α : Type} (r : PR α) : Prop := match r with
  | .bad e _ => (e != 0) = true
  | .ok _ _ => True

theorem Nz.next {α β : Type} {r : PR α} {f : α → Nat → PR β} (h : Nz r) (hf : ∀ x b, r = .ok x b → Nz (f x b)) : Nz (r.next f) := by
  cases r with
  | bad e b => exact h
  | ok x b => exact hf x b rfl

end Go.Proofs.YtbfmhambfonpcaaDoorLg

set_option linter.all false
set_option maxRecDepth 100000
namespace Go.Proofs.YtbfmhambfonpcaaDoorLg
open Go Go.Lift Go.Proofs.YtbfmhambfonpcaaDoorPx

def Can (t : Tree) : Prop := (kindT t = 2 → (kidsT t).length ≠ 1) ∧ (kindT t = 3 → (kidsT t).length ≠ 1 ∧ t = .mk 3 z4 (kidsT t) 0 0)

def CanR (r : PR Tree) : Prop := ∀ t b, r = .ok t b → Can t

theorem CanR.bad {e : Int} {x : Nat} : CanR (.bad e x) := fun t b h => by cases h
theorem CanR.ok {t : Tree} {x : Nat} (h : Can t) : CanR (.ok t x) := fun t b h => by cases h; assumption
theorem CanR.next {α : Type} {r : PR α} {f : α → Nat → PR Tree} (h : ∀ x b, r = .ok x b → CanR (f x b)) : CanR (r.next f) := by
  cases r with
  | bad e b => exact CanR.bad
  | ok x b => exact h x b rfl


def RefR {α : Type} (f : α → Nat → PP) (r : PR α) (p : PP) : Prop := match r with
  | .bad e a => p.2.2.2.2.1 = (e, ((a : Int), ()))
  | .ok x a => p = f x a

theorem RefR.of {α : Type} {f : α → Nat → PP} (r : PR α) : RefR f r (refP f r) := by cases r <;> rfl

end Go.Proofs.YtbfmhambfonpcaaDoorLg

set_option linter.all false
set_option maxRecDepth 100000
namespace Go.Proofs.YtbfmhambfonpcaaDoorLg
open Go Go.Lift

noncomputable def porterlaw13_works_body : Code := (Go.Proofs.Tryd.f7.body).getD .skip

noncomputable def porterlaw13_works_L : List (List Nat × List Nat) := [([0], []), ([0, 1], [2, 1]), ([0, 1, 1], [2, 1, 4, 3]), ([0, 1, 1, 1], [2, 1, 4, 3, 6]), ([0, 1, 1, 1, 1], [0]), ([1, 1, 1, 1, 1], [0])]

noncomputable def porterlaw13_works_E (N : Nat) : Env := mkEnv tys glob [(14, regex_Parse_res N)] [] [] [] false [] []

theorem porterlaw13_works_Eok (N : Nat) : EnvOk Go.Proofs.Tryd.prog (porterlaw13_works_E N) := mkEnv_ok mixed tys_ok (FnsOk.cons (regex_Parse_ct N) (FnsOk.nil)) (ItsOk.nil)

noncomputable def porterlaw13_works (N : Nat) : Option Bool :=
 (regex_Parse N ([(97 : UInt8), (124 : UInt8), (98 : UInt8), (42 : UInt8)] : List UInt8)).bind fun y =>
 (regex_Parse N ([(40 : UInt8), (97 : UInt8), (41 : UInt8), (40 : UInt8), (98 : UInt8), (99 : UInt8), (41 : UInt8)] : List UInt8)).bind fun y1 =>
 (regex_Parse N ([(97 : UInt8), (123 : UInt8), (51 : UInt8), (44 : UInt8), (50 : UInt8), (125 : UInt8)] : List UInt8)).bind fun y2 =>
 cond (Go.Lift.eqD (Go.Lift.T.pair (Go.Lift.T.int Go.IntKind.i64) (Go.Lift.T.pair (Go.Lift.T.int Go.IntKind.i64) Go.Lift.T.unit)) y.2.1 ((0 : Int), ((0 : Int), ())))
 (cond (y.1.1 == (3 : Int))
 (cond ((((List.length y.1.2.2.1) : Nat) : Int) == (2 : Int))
 (cond (Go.Lift.inR (1 : Int) (List.length y.1.2.2.1))
 (cond ((Go.Lift.unN (List.getD y.1.2.2.1 1 (Go.Lift.Tree.mk (0 : Int) ([] : List Int) ([] : List Go.Lift.Tree) (0 : Int) (0 : Int)))).1 == (4 : Int))
 (cond (Go.Lift.inR (1 : Int) (List.length y.1.2.2.1))
 (cond ((Go.Lift.unN (List.getD y.1.2.2.1 1 (Go.Lift.Tree.mk (0 : Int) ([] : List Int) ([] : List Go.Lift.Tree) (0 : Int) (0 : Int)))).2.2.2.2.1 == (-(1 : Int)))
 (cond (Go.Lift.eqD (Go.Lift.T.pair (Go.Lift.T.int Go.IntKind.i64) (Go.Lift.T.pair (Go.Lift.T.int Go.IntKind.i64) Go.Lift.T.unit)) y1.2.1 ((0 : Int), ((0 : Int), ())))
 (cond (y1.1.1 == (2 : Int))
 (cond ((((List.length y1.1.2.2.1) : Nat) : Int) == (3 : Int))
 (some (Go.Lift.eqD (Go.Lift.T.pair (Go.Lift.T.int Go.IntKind.i64) (Go.Lift.T.pair (Go.Lift.T.int Go.IntKind.i64) Go.Lift.T.unit)) y2.2.1 ((2 : Int), ((4 : Int), ()))))
 (some false))
 (some false))
 (some false))
 (some false))
 (none))
 (some false))
 (none))
 (some false))
 (some false))
 (some false)

noncomputable def porterlaw13_works_t (N : Nat) : Tab Bool := []

theorem porterlaw13_works_link (N : Nat) (x : denS []) : evFX (porterlaw13_works_E N) N (porterlaw13_works_t N) porterlaw13_works_L Go.Proofs.Tryd.f7 (mkS [] 0 x) (kRes (.v .bool) 0) = porterlaw13_works N := by kernel_rfl

noncomputable def porterlaw13_works_res (N : Nat) : List A → Res := resOf [] (fun x => porterlaw13_works N) (oRes (.v .bool) 0)

theorem porterlaw13_works_ct (N : Nat) : Contract Go.Proofs.Tryd.prog glob 7 (porterlaw13_works_res N) :=
  Contract.of (E := porterlaw13_works_E N) (H := porterlaw13_works_t N) (L := porterlaw13_works_L) (N := N) (body := porterlaw13_works_body) (K := (kRes (.v .bool) 0)) (porterlaw13_works_Eok N) Go.Proofs.Tryd.func7 (by kernel_rfl) (by decide) (fun _ hb => TabOk.nil) (fun x y h => by rw [porterlaw13_works_link]; exact h) (kRes_ok (s := (.v .bool)) (m := 0))

noncomputable def porterlaw13_RegexReads_body : Code := (Go.Proofs.Tryd.f4.body).getD .skip

noncomputable def porterlaw13_RegexReads_L : List (List Nat × List Nat) := [([0], [0]), ([0, 0, 1], [9, 0]), ([1, 0, 1], [0]), ([0, 0, 1, 0, 1], [2]), ([1, 0, 1, 0, 1], [2]), ([0, 1, 1], [0, 3, 4]), ([0, 1, 1, 1], [3, 5, 4, 6]), ([0, 1, 1, 1, 1], [2]), ([1, 1, 1, 1, 1], [2])]

noncomputable def porterlaw13_RegexReads_E (N : Nat) : Env := mkEnv tys glob [(7, porterlaw13_works_res N), (12, porterref13_Same_res N), (14, regex_Parse_res N), (15, porterref13_Parse_res N)] [] [] [] false [] []

theorem porterlaw13_RegexReads_Eok (N : Nat) : EnvOk Go.Proofs.Tryd.prog (porterlaw13_RegexReads_E N) := mkEnv_ok mixed tys_ok (FnsOk.cons (porterlaw13_works_ct N) (FnsOk.cons (porterref13_Same_ct N) (FnsOk.cons (regex_Parse_ct N) (FnsOk.cons (porterref13_Parse_ct N) (FnsOk.nil))))) (ItsOk.nil)

noncomputable def porterlaw13_RegexReads (N : Nat) (s : (List UInt8)) : Option Bool :=
 cond (decide ((300 : Int) < (((List.length s) : Nat) : Int)))
 ((porterlaw13_works N).bind fun y =>
 some y)
 ((regex_Parse N s).bind fun y1 =>
 (porterref13_Parse N s).bind fun y2 =>
 (porterref13_Same N y1.1 y2.1).bind fun y3 =>
 cond y3
 (cond (Go.Lift.eqD (Go.Lift.T.pair (Go.Lift.T.int Go.IntKind.i64) (Go.Lift.T.pair (Go.Lift.T.int Go.IntKind.i64) Go.Lift.T.unit)) y1.2.1 y2.2.1)
 ((porterlaw13_works N).bind fun y4 =>
 some y4)
 (some false))
 (some false))

noncomputable def porterlaw13_RegexReads_t (N : Nat) : Tab Bool := []

theorem porterlaw13_RegexReads_link (N : Nat) (x : denS [(0, .v .str)]) : evFX (porterlaw13_RegexReads_E N) N (porterlaw13_RegexReads_t N) porterlaw13_RegexReads_L Go.Proofs.Tryd.f4 (mkS [(0, .v .str)] 0 x) (kRes (.v .bool) 1) = porterlaw13_RegexReads N x.1 := by kernel_rfl

noncomputable def porterlaw13_RegexReads_res (N : Nat) : List A → Res := resOf [(0, .v .str)] (fun x => porterlaw13_RegexReads N x.1) (oRes (.v .bool) 1)

theorem porterlaw13_RegexReads_ct (N : Nat) : Contract Go.Proofs.Tryd.prog glob 4 (porterlaw13_RegexReads_res N) :=
  Contract.of (E := porterlaw13_RegexReads_E N) (H := porterlaw13_RegexReads_t N) (L := porterlaw13_RegexReads_L) (N := N) (body := porterlaw13_RegexReads_body) (K := (kRes (.v .bool) 1)) (porterlaw13_RegexReads_Eok N) Go.Proofs.Tryd.func4 (by kernel_rfl) (by decide) (fun _ hb => TabOk.nil) (fun x y h => by rw [porterlaw13_RegexReads_link]; exact h) (kRes_ok (s := (.v .bool)) (m := 1))

end Go.Proofs.YtbfmhambfonpcaaDoorLg
