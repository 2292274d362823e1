import Derived.Test.YtbfmhambfonpcaaDoorLgPrRt2
import Derived.Test.YtbfmhambfonpcaaDoorLgPrRt1
import Derived.Test.YtbfmhambfonpcaaDoorLgW
set_option linter.all false
set_option maxRecDepth 100000
namespace Go.Proofs.YtbfmhambfonpcaaDoorLg
open Go Go.Lift

noncomputable def regex_parser_piece_g1 (N : Nat) (self : regex_parser_alt_Self) (x : denS [(0, .box (.pair .str (.pair (.int .i64) (.pair (.int .i64) .unit)))), (1, .box (.pair (.int .i64) (.pair (.arr 4 (.int .u64)) (.pair (.sl .nod) (.pair (.int .i64) (.pair (.int .i64) .unit)))))), (0, .box (.pair (.int .i64) (.pair (.arr 4 (.int .u64)) (.pair (.sl .nod) (.pair (.int .i64) (.pair (.int .i64) .unit)))))), (0, .box (.pair (.int .i64) (.pair (.arr 4 (.int .u64)) (.pair (.sl .nod) (.pair (.int .i64) (.pair (.int .i64) .unit)))))), (24, .v (.int .u8))]) (K : Ex → List A → Option ((Int × ((List Int) × ((List Tree) × (Int × (Int × Unit))))) × (((List UInt8) × (Int × (Int × Unit))) × Unit))) : Option ((Int × ((List Int) × ((List Tree) × (Int × (Int × Unit))))) × (((List UInt8) × (Int × (Int × Unit))) × Unit)) :=
 regex_parser_piece_p1 N self x.1 x.2.1 x.2.2.1 x.2.2.2.1 x.2.2.2.2.1 (fun a2 => (K .normal (mkS [(0, .box (.pair .str (.pair (.int .i64) (.pair (.int .i64) .unit)))), (1, .box (.pair (.int .i64) (.pair (.arr 4 (.int .u64)) (.pair (.sl .nod) (.pair (.int .i64) (.pair (.int .i64) .unit)))))), (1, .box (.pair (.int .i64) (.pair (.arr 4 (.int .u64)) (.pair (.sl .nod) (.pair (.int .i64) (.pair (.int .i64) .unit))))))] 65 (x.1, x.2.1, a2, ())))) (K (.exit 3) (mkS [(0, .box (.pair .str (.pair (.int .i64) (.pair (.int .i64) .unit)))), (1, .box (.pair (.int .i64) (.pair (.arr 4 (.int .u64)) (.pair (.sl .nod) (.pair (.int .i64) (.pair (.int .i64) .unit)))))), (1, .box (.pair (.int .i64) (.pair (.arr 4 (.int .u64)) (.pair (.sl .nod) (.pair (.int .i64) (.pair (.int .i64) .unit))))))] 65 (x.1, x.2.1, x.2.2.2.1, ()))) (K (.exit 4) (mkS [(0, .box (.pair .str (.pair (.int .i64) (.pair (.int .i64) .unit)))), (1, .box (.pair (.int .i64) (.pair (.arr 4 (.int .u64)) (.pair (.sl .nod) (.pair (.int .i64) (.pair (.int .i64) .unit)))))), (1, .box (.pair (.int .i64) (.pair (.arr 4 (.int .u64)) (.pair (.sl .nod) (.pair (.int .i64) (.pair (.int .i64) .unit))))))] 65 (x.1, x.2.1, x.2.2.2.1, ()))) (K (.exit 5) (mkS [(0, .box (.pair .str (.pair (.int .i64) (.pair (.int .i64) .unit)))), (1, .box (.pair (.int .i64) (.pair (.arr 4 (.int .u64)) (.pair (.sl .nod) (.pair (.int .i64) (.pair (.int .i64) .unit)))))), (0, .box (.pair (.int .i64) (.pair (.arr 4 (.int .u64)) (.pair (.sl .nod) (.pair (.int .i64) (.pair (.int .i64) .unit))))))] 66 (x.1, x.2.1, x.2.2.1, ())))

noncomputable def regex_parser_piece_h1 (N : Nat) (self : regex_parser_alt_Self) : Hd ((Int × ((List Int) × ((List Tree) × (Int × (Int × Unit))))) × (((List UInt8) × (Int × (Int × Unit))) × Unit)) := fun st K => (unS [(0, .box (.pair .str (.pair (.int .i64) (.pair (.int .i64) .unit)))), (1, .box (.pair (.int .i64) (.pair (.arr 4 (.int .u64)) (.pair (.sl .nod) (.pair (.int .i64) (.pair (.int .i64) .unit)))))), (0, .box (.pair (.int .i64) (.pair (.arr 4 (.int .u64)) (.pair (.sl .nod) (.pair (.int .i64) (.pair (.int .i64) .unit)))))), (0, .box (.pair (.int .i64) (.pair (.arr 4 (.int .u64)) (.pair (.sl .nod) (.pair (.int .i64) (.pair (.int .i64) .unit)))))), (24, .v (.int .u8))] 40 (restr [29, 4, 0, 2, 3] 0 st)).bind fun x => regex_parser_piece_g1 N self x K

noncomputable def regex_parser_piece_t1 (N : Nat) (self : regex_parser_alt_Self) : Tab ((Int × ((List Int) × ((List Tree) × (Int × (Int × Unit))))) × (((List UInt8) × (Int × (Int × Unit))) × Unit)) := []

theorem regex_parser_piece_ok1 {N : Nat} {self : regex_parser_alt_Self} {c : Ctx} (hb : Base Go.Proofs.Tryd.prog (regex_parser_piece_E N self) c) : CodeOk Go.Proofs.Tryd.prog c (nodeAt regex_parser_piece_body [0, 0, 0, 0, 0, 0, 0, 0, 1, 0, 1, 1, 1, 1]) (regex_parser_piece_h1 N self) :=
  piece_ok (s := [(0, .box (.pair .str (.pair (.int .i64) (.pair (.int .i64) .unit)))), (1, .box (.pair (.int .i64) (.pair (.arr 4 (.int .u64)) (.pair (.sl .nod) (.pair (.int .i64) (.pair (.int .i64) .unit)))))), (0, .box (.pair (.int .i64) (.pair (.arr 4 (.int .u64)) (.pair (.sl .nod) (.pair (.int .i64) (.pair (.int .i64) .unit)))))), (0, .box (.pair (.int .i64) (.pair (.arr 4 (.int .u64)) (.pair (.sl .nod) (.pair (.int .i64) (.pair (.int .i64) .unit)))))), (24, .v (.int .u8))]) (m := 40) (g := regex_parser_piece_g1 N self) [29, 4, 0, 2, 3] (evN_sound hb N (regex_parser_piece_t1 N self) regex_parser_piece_L regex_parser_piece_body TabOk.nil [0, 0, 0, 0, 0, 0, 0, 0, 1, 0, 1, 1, 1, 1] _ rfl) (fun x K => by kernel_rfl)

noncomputable def regex_parser_piece (N : Nat) (self : regex_parser_alt_Self) (p : ((List UInt8) × (Int × (Int × Unit)))) : Option ((Int × ((List Int) × ((List Tree) × (Int × (Int × Unit))))) × (((List UInt8) × (Int × (Int × Unit))) × Unit)) :=
 (regex_parser_atom N self p).bind fun y =>
 cond (y.2.1.2.1 == (((List.length y.2.1.1) : Nat) : Int))
 (some (y.1, (y.2.1, ())))
 (cond (Go.Lift.inR y.2.1.2.1 (List.length y.2.1.1))
 (regex_parser_piece_p1 N self y.2.1 ((0 : Int), (([(0 : Int), (0 : Int), (0 : Int), (0 : Int)] : List Int), (([] : List Go.Lift.Tree), ((0 : Int), ((0 : Int), ()))))) y.1 ((4 : Int), (([(0 : Int), (0 : Int), (0 : Int), (0 : Int)] : List Int), ((List.map Go.Lift.foN ([y.1] : List (Int × ((List Int) × ((List Go.Lift.Tree) × (Int × (Int × Unit))))))), ((0 : Int), ((-(1 : Int)), ()))))) (((UInt8.toNat (List.getD y.2.1.1 (Int.toNat y.2.1.2.1) (0 : UInt8))) : Nat) : Int)
 (fun rep => some (rep, ((y.2.1.1, ((Go.IntKind.wrap Go.IntKind.i64 (y.2.1.2.1 + (1 : Int))), y.2.1.2.2)), ())))
 (some (((4 : Int), (([(0 : Int), (0 : Int), (0 : Int), (0 : Int)] : List Int), ((List.map Go.Lift.foN ([y.1] : List (Int × ((List Int) × ((List Go.Lift.Tree) × (Int × (Int × Unit))))))), ((0 : Int), ((1 : Int), ()))))), ((y.2.1.1, ((Go.IntKind.wrap Go.IntKind.i64 (y.2.1.2.1 + (1 : Int))), y.2.1.2.2)), ())))
 ((regex_parser_braces N (y.2.1.1, ((Go.IntKind.wrap Go.IntKind.i64 (y.2.1.2.1 + (1 : Int))), y.2.1.2.2))).bind fun y1 =>
 some (((4 : Int), (([(0 : Int), (0 : Int), (0 : Int), (0 : Int)] : List Int), ((List.map Go.Lift.foN ([y.1] : List (Int × ((List Int) × ((List Go.Lift.Tree) × (Int × (Int × Unit))))))), (y1.1.1, (y1.1.2.1, ()))))), (y1.2.1, ())))
 (some (y.1, (y.2.1, ()))))
 (none))

noncomputable def regex_parser_piece_t (N : Nat) (self : regex_parser_alt_Self) : Tab ((Int × ((List Int) × ((List Tree) × (Int × (Int × Unit))))) × (((List UInt8) × (Int × (Int × Unit))) × Unit)) := [([0, 0, 0, 0, 0, 0, 0, 0, 1, 0, 1, 1, 1, 1], regex_parser_piece_h1 N self)]

theorem regex_parser_piece_link (N : Nat) (self : regex_parser_alt_Self) (x : denS [(0, .box (.pair .str (.pair (.int .i64) (.pair (.int .i64) .unit))))]) : evFX (regex_parser_piece_E N self) N (regex_parser_piece_t N self) regex_parser_piece_L Go.Proofs.Tryd.f32 (mkS [(0, .box (.pair .str (.pair (.int .i64) (.pair (.int .i64) .unit))))] 0 x) (kResB (.v (.pair (.int .i64) (.pair (.arr 4 (.int .u64)) (.pair (.sl .nod) (.pair (.int .i64) (.pair (.int .i64) .unit)))))) [(0, .box (.pair .str (.pair (.int .i64) (.pair (.int .i64) .unit))))] 0) = regex_parser_piece N self x.1 := by kernel_rfl

noncomputable def regex_parser_piece_res (N : Nat) (self : regex_parser_alt_Self) : List A → Res := resOf [(0, .box (.pair .str (.pair (.int .i64) (.pair (.int .i64) .unit))))] (fun x => regex_parser_piece N self x.1) (oResB (.v (.pair (.int .i64) (.pair (.arr 4 (.int .u64)) (.pair (.sl .nod) (.pair (.int .i64) (.pair (.int .i64) .unit)))))) [(0, .box (.pair .str (.pair (.int .i64) (.pair (.int .i64) .unit))))] 0)

theorem regex_parser_piece_ct (N : Nat) (self : regex_parser_alt_Self) (hself : Contract Go.Proofs.Tryd.prog glob 19 (resOf [(0, .box (.pair .str (.pair (.int .i64) (.pair (.int .i64) .unit))))] (fun x => self x.1) (oResB (.v (.pair (.int .i64) (.pair (.arr 4 (.int .u64)) (.pair (.sl .nod) (.pair (.int .i64) (.pair (.int .i64) .unit)))))) [(0, .box (.pair .str (.pair (.int .i64) (.pair (.int .i64) .unit))))] 0))) : Contract Go.Proofs.Tryd.prog glob 32 (regex_parser_piece_res N self) :=
  Contract.of (E := regex_parser_piece_E N self) (H := regex_parser_piece_t N self) (L := regex_parser_piece_L) (N := N) (body := regex_parser_piece_body) (K := (kResB (.v (.pair (.int .i64) (.pair (.arr 4 (.int .u64)) (.pair (.sl .nod) (.pair (.int .i64) (.pair (.int .i64) .unit)))))) [(0, .box (.pair .str (.pair (.int .i64) (.pair (.int .i64) .unit))))] 0)) (regex_parser_piece_Eok N self hself) Go.Proofs.Tryd.func32 (by kernel_rfl) (by decide) (fun _ hb => (TabOk.cons (regex_parser_piece_ok1 hb) TabOk.nil)) (fun x y h => by rw [regex_parser_piece_link]; exact h) (kResB_ok (s := (.v (.pair (.int .i64) (.pair (.arr 4 (.int .u64)) (.pair (.sl .nod) (.pair (.int .i64) (.pair (.int .i64) .unit))))))) (os := [(0, .box (.pair .str (.pair (.int .i64) (.pair (.int .i64) .unit))))]) (m := 0))

noncomputable def regex_join_body : Code := (Go.Proofs.Tryd.f27.body).getD .skip

noncomputable def regex_join_L : List (List Nat × List Nat) := [([0], [1, 0, 4]), ([0, 1], [1, 0, 5, 4]), ([0, 0, 1, 1], [10, 9, 8, 0, 5, 4]), ([0, 1, 0, 1, 1], [10, 9, 8, 0, 5, 4]), ([0, 0, 0, 1, 0, 1, 1], [11, 8, 10, 0, 5, 9, 4]), ([0, 1, 0, 0, 1, 0, 1, 1], [8, 10, 0, 5, 9, 4]), ([1, 0, 1, 0, 0, 1, 0, 1, 1], [5, 4, 0]), ([0, 0, 0, 1, 1, 0, 0, 1, 0, 1, 1], [7, 0, 5, 10, 9, 8, 4]), ([0, 1, 0, 0, 1, 1, 0, 0, 1, 0, 1, 1], [17, 5, 7, 10, 9, 8, 0, 4]), ([1, 1, 0, 0, 1, 1, 0, 0, 1, 0, 1, 1], [10, 9, 8, 0, 5, 4]), ([1, 1, 1, 0, 0, 1, 1, 0, 0, 1, 0, 1, 1], [10, 9, 8, 0, 5, 4]), ([0, 1, 1, 0, 0, 1, 1, 0, 0, 1, 0, 1, 1], [10, 9, 8, 0, 5, 4]), ([0, 1, 1, 0, 0, 1, 0, 1, 1], [10, 9, 8, 0, 5, 4]), ([1, 1, 1, 0, 0, 1, 0, 1, 1], [10, 9, 8, 0, 5, 4]), ([1, 0, 1, 1], [5, 4, 0]), ([0, 0, 1, 1, 1], [29, 5, 4, 0]), ([1, 0, 1, 1, 1], [0, 5, 4]), ([0, 0, 1, 0, 1, 1, 1], [4]), ([1, 0, 1, 0, 1, 1, 1], [4]), ([0, 1, 1, 1, 1], [4]), ([1, 1, 1, 1, 1], [4])]

noncomputable def regex_join_E (N : Nat) : Env := mkEnv tys glob [] [(5, (.pair (.int .i64) (.pair (.arr 4 (.int .u64)) (.pair (.sl .nod) (.pair (.int .i64) (.pair (.int .i64) .unit))))))] [] [] false [] []

theorem regex_join_Eok (N : Nat) : EnvOk Go.Proofs.Tryd.prog (regex_join_E N) := mkEnv_ok mixed tys_ok (FnsOk.nil) (ItsOk.nil)

noncomputable def regex_join_s1 (N : Nat) (kind : Int) (x4 : (Int × ((List Int) × ((List Tree) × (Int × (Int × Unit)))))) (x8 : (List Tree)) (x9 : Int) (kids : (List (Int × ((List Int) × ((List Tree) × (Int × (Int × Unit))))))) (x10 : Int) (rec : (List (Int × ((List Int) × ((List Tree) × (Int × (Int × Unit)))))) → Int → Option (Int × ((List Int) × ((List Tree) × (Int × (Int × Unit)))))) (k0 : (List (Int × ((List Int) × ((List Tree) × (Int × (Int × Unit)))))) → Option (Int × ((List Int) × ((List Tree) × (Int × (Int × Unit)))))) : Option (Int × ((List Int) × ((List Tree) × (Int × (Int × Unit))))) :=
 cond (decide (x10 < x9))
 (cond (Go.Lift.inR x10 (List.length x8))
 (cond ((Go.Lift.unN (List.getD x8 (Int.toNat x10) (Go.Lift.Tree.mk (0 : Int) ([] : List Int) ([] : List Go.Lift.Tree) (0 : Int) (0 : Int)))).1 == kind)
 (cond (decide ((((List.length kids) + (List.length (List.map Go.Lift.unN (Go.Lift.unN (List.getD x8 (Int.toNat x10) (Go.Lift.Tree.mk (0 : Int) ([] : List Int) ([] : List Go.Lift.Tree) (0 : Int) (0 : Int)))).2.2.1))) * 80) ≤ 70368744177664))
 (rec (kids ++ (List.map Go.Lift.unN (Go.Lift.unN (List.getD x8 (Int.toNat x10) (Go.Lift.Tree.mk (0 : Int) ([] : List Int) ([] : List Go.Lift.Tree) (0 : Int) (0 : Int)))).2.2.1)) (Go.IntKind.wrap Go.IntKind.i64 (x10 + (1 : Int))))
 (none))
 (cond (decide ((((List.length kids) + 1) * 80) ≤ 70368744177664))
 (rec (kids ++ ([(Go.Lift.unN (List.getD x8 (Int.toNat x10) (Go.Lift.Tree.mk (0 : Int) ([] : List Int) ([] : List Go.Lift.Tree) (0 : Int) (0 : Int))))] : List (Int × ((List Int) × ((List Go.Lift.Tree) × (Int × (Int × Unit))))))) (Go.IntKind.wrap Go.IntKind.i64 (x10 + (1 : Int))))
 (none)))
 (none))
 (k0 kids)

noncomputable def regex_join_p1 (N : Nat) (kind : Int) (x4 : (Int × ((List Int) × ((List Tree) × (Int × (Int × Unit)))))) (kids : (List (Int × ((List Int) × ((List Tree) × (Int × (Int × Unit))))))) (x8 : (List Tree)) (x9 : Int) (x10 : Int) (k0 : (List (Int × ((List Int) × ((List Tree) × (Int × (Int × Unit)))))) → Option (Int × ((List Int) × ((List Tree) × (Int × (Int × Unit)))))) : Option (Int × ((List Int) × ((List Tree) × (Int × (Int × Unit))))) :=
 iter (fun (v : ((List (Int × ((List Int) × ((List Tree) × (Int × (Int × Unit)))))) × Int)) r => regex_join_s1 N kind x4 x8 x9 v.1 v.2 (fun kids x10 => (r (kids, x10))) k0) N (kids, x10)

noncomputable def regex_join_g1 (N : Nat) (i : (Int × (Int × ((List Int) × ((List Tree) × (Int × (Int × Unit))))) × (List Tree) × Int)) (v : ((List (Int × ((List Int) × ((List Tree) × (Int × (Int × Unit)))))) × Int)) (r : ((List (Int × ((List Int) × ((List Tree) × (Int × (Int × Unit)))))) × Int) → Option (Int × ((List Int) × ((List Tree) × (Int × (Int × Unit)))))) (K : Ex → List A → Option (Int × ((List Int) × ((List Tree) × (Int × (Int × Unit)))))) : Option (Int × ((List Int) × ((List Tree) × (Int × (Int × Unit))))) :=
 regex_join_s1 N i.1 i.2.1 i.2.2.1 i.2.2.2 v.1 v.2 (fun kids x10 => (r (kids, x10))) (fun a2 => (K (.exit 0) (mkS [(0, .v (.int .i64)), (3, .box (.pair (.int .i64) (.pair (.arr 4 (.int .u64)) (.pair (.sl .nod) (.pair (.int .i64) (.pair (.int .i64) .unit)))))), (0, .row (.pair (.int .i64) (.pair (.arr 4 (.int .u64)) (.pair (.sl .nod) (.pair (.int .i64) (.pair (.int .i64) .unit))))))] 30 (i.1, i.2.1, a2, ()))))

noncomputable def regex_join_h1 (N : Nat) : Hd (Int × ((List Int) × ((List Tree) × (Int × (Int × Unit))))) := fun st K => (unS [(0, .v (.int .i64)), (3, .box (.pair (.int .i64) (.pair (.arr 4 (.int .u64)) (.pair (.sl .nod) (.pair (.int .i64) (.pair (.int .i64) .unit)))))), (0, .row (.pair (.int .i64) (.pair (.arr 4 (.int .u64)) (.pair (.sl .nod) (.pair (.int .i64) (.pair (.int .i64) .unit)))))), (2, .v (.sl .nod)), (0, .v (.int .i64)), (0, .v (.int .i64))] 25 (restr [10, 9, 8, 0, 5, 4] 0 st)).bind fun x => iter (fun v r => regex_join_g1 N ((fun x => (x.1, x.2.1, x.2.2.2.1, x.2.2.2.2.1)) x) v r K) N ((fun x => (x.2.2.1, x.2.2.2.2.2.1)) x)

noncomputable def regex_join_t1 (N : Nat) : Tab (Int × ((List Int) × ((List Tree) × (Int × (Int × Unit))))) := []

theorem regex_join_ok1 {N : Nat} {c : Ctx} (hb : Base Go.Proofs.Tryd.prog (regex_join_E N) c) : CodeOk Go.Proofs.Tryd.prog c (nodeAt regex_join_body [0, 1, 0, 1, 1]) (regex_join_h1 N) :=
  loop_ok (s := [(0, .v (.int .i64)), (3, .box (.pair (.int .i64) (.pair (.arr 4 (.int .u64)) (.pair (.sl .nod) (.pair (.int .i64) (.pair (.int .i64) .unit)))))), (0, .row (.pair (.int .i64) (.pair (.arr 4 (.int .u64)) (.pair (.sl .nod) (.pair (.int .i64) (.pair (.int .i64) .unit)))))), (2, .v (.sl .nod)), (0, .v (.int .i64)), (0, .v (.int .i64))]) (m := 25) (regex_join_g1 N) [10, 9, 8, 0, 5, 4] N (fun x => (x.1, x.2.1, x.2.2.2.1, x.2.2.2.2.1)) (fun x => (x.2.2.1, x.2.2.2.2.2.1)) (fun i v => (i.1, i.2.1, v.1, i.2.2.1, i.2.2.2, v.2, ())) (fun _ => rfl) (evN_sound hb N (regex_join_t1 N) regex_join_L regex_join_body TabOk.nil [0, 0, 1, 0, 1, 1] _ rfl) (fun i v r K => by kernel_rfl)

noncomputable def regex_join (N : Nat) (kind : Int) (parts : (List Tree)) : Option (Int × ((List Int) × ((List Tree) × (Int × (Int × Unit))))) :=
 regex_join_p1 N kind ((0 : Int), (([(0 : Int), (0 : Int), (0 : Int), (0 : Int)] : List Int), (([] : List Go.Lift.Tree), ((0 : Int), ((0 : Int), ()))))) ([] : List (Int × ((List Int) × ((List Go.Lift.Tree) × (Int × (Int × Unit)))))) parts (((List.length parts) : Nat) : Int) (0 : Int)
 (fun kids => cond ((((List.length kids) : Nat) : Int) == (1 : Int))
 (cond (Go.Lift.inR (0 : Int) (List.length kids))
 (cond (decide (0 < (List.length kids)))
 (some (List.getD kids 0 ((0 : Int), (([] : List Int), (([] : List Go.Lift.Tree), ((0 : Int), ((0 : Int), ())))))))
 (none))
 (none))
 (some (kind, (([(0 : Int), (0 : Int), (0 : Int), (0 : Int)] : List Int), ((List.map Go.Lift.foN kids), ((0 : Int), ((0 : Int), ())))))))

noncomputable def regex_join_t (N : Nat) : Tab (Int × ((List Int) × ((List Tree) × (Int × (Int × Unit))))) := [([0, 1, 0, 1, 1], regex_join_h1 N)]

theorem regex_join_link (N : Nat) (x : denS [(0, .v (.int .i64)), (0, .v (.sl .nod))]) : evFX (regex_join_E N) N (regex_join_t N) regex_join_L Go.Proofs.Tryd.f27 (mkS [(0, .v (.int .i64)), (0, .v (.sl .nod))] 0 x) (kRes (.v (.pair (.int .i64) (.pair (.arr 4 (.int .u64)) (.pair (.sl .nod) (.pair (.int .i64) (.pair (.int .i64) .unit)))))) 2) = regex_join N x.1 x.2.1 := by kernel_rfl

noncomputable def regex_join_res (N : Nat) : List A → Res := resOf [(0, .v (.int .i64)), (0, .v (.sl .nod))] (fun x => regex_join N x.1 x.2.1) (oRes (.v (.pair (.int .i64) (.pair (.arr 4 (.int .u64)) (.pair (.sl .nod) (.pair (.int .i64) (.pair (.int .i64) .unit)))))) 2)

theorem regex_join_ct (N : Nat) : Contract Go.Proofs.Tryd.prog glob 27 (regex_join_res N) :=
  Contract.of (E := regex_join_E N) (H := regex_join_t N) (L := regex_join_L) (N := N) (body := regex_join_body) (K := (kRes (.v (.pair (.int .i64) (.pair (.arr 4 (.int .u64)) (.pair (.sl .nod) (.pair (.int .i64) (.pair (.int .i64) .unit)))))) 2)) (regex_join_Eok N) Go.Proofs.Tryd.func27 (by kernel_rfl) (by decide) (fun _ hb => (TabOk.cons (regex_join_ok1 hb) TabOk.nil)) (fun x y h => by rw [regex_join_link]; exact h) (kRes_ok (s := (.v (.pair (.int .i64) (.pair (.arr 4 (.int .u64)) (.pair (.sl .nod) (.pair (.int .i64) (.pair (.int .i64) .unit))))))) (m := 2))

noncomputable def regex_parser_cat_body : Code := (Go.Proofs.Tryd.f25.body).getD .skip

noncomputable def regex_parser_cat_L : List (List Nat × List Nat) := [([0], [0, 2]), ([0, 1], [0, 3, 2]), ([0, 0, 1, 1], [0, 3, 2]), ([0, 0, 0, 0, 0, 1, 1], [37, 3, 0, 2]), ([1, 0, 0, 0, 0, 1, 1], [3, 0, 2]), ([1, 1, 0, 0, 0, 0, 1, 1], [3, 2, 0]), ([0, 1, 0, 0, 0, 1, 1], [0, 3, 2]), ([1, 0, 0, 0, 1, 1], [0, 3, 2]), ([0, 1, 1], [3, 2, 0]), ([0, 1, 1, 1], [2, 0]), ([1, 1, 1, 1], [2, 0])]

noncomputable def regex_parser_cat_E (N : Nat) (self : regex_parser_alt_Self) : Env := mkEnv tys glob [(27, regex_join_res N), (32, regex_parser_piece_res N self), (19, resOf [(0, .box (.pair .str (.pair (.int .i64) (.pair (.int .i64) .unit))))] (fun x => self x.1) (oResB (.v (.pair (.int .i64) (.pair (.arr 4 (.int .u64)) (.pair (.sl .nod) (.pair (.int .i64) (.pair (.int .i64) .unit)))))) [(0, .box (.pair .str (.pair (.int .i64) (.pair (.int .i64) .unit))))] 0))] [(3, (.pair (.int .i64) (.pair (.arr 4 (.int .u64)) (.pair (.sl .nod) (.pair (.int .i64) (.pair (.int .i64) .unit))))))] [] [0] false [] []

theorem regex_parser_cat_Eok (N : Nat) (self : regex_parser_alt_Self) (hself : Contract Go.Proofs.Tryd.prog glob 19 (resOf [(0, .box (.pair .str (.pair (.int .i64) (.pair (.int .i64) .unit))))] (fun x => self x.1) (oResB (.v (.pair (.int .i64) (.pair (.arr 4 (.int .u64)) (.pair (.sl .nod) (.pair (.int .i64) (.pair (.int .i64) .unit)))))) [(0, .box (.pair .str (.pair (.int .i64) (.pair (.int .i64) .unit))))] 0))) : EnvOk Go.Proofs.Tryd.prog (regex_parser_cat_E N self) := mkEnv_ok mixed tys_ok (FnsOk.cons (regex_join_ct N) (FnsOk.cons (regex_parser_piece_ct N self hself) (FnsOk.cons (hself) (FnsOk.nil)))) (ItsOk.nil)

noncomputable def regex_parser_cat_p3 (N : Nat) (self : regex_parser_alt_Self) (p : ((List UInt8) × (Int × (Int × Unit)))) (x2 : (Int × ((List Int) × ((List Tree) × (Int × (Int × Unit)))))) (parts : (List (Int × ((List Int) × ((List Tree) × (Int × (Int × Unit))))))) (k0 : Option ((Int × ((List Int) × ((List Tree) × (Int × (Int × Unit))))) × (((List UInt8) × (Int × (Int × Unit))) × Unit))) (k1 : Option ((Int × ((List Int) × ((List Tree) × (Int × (Int × Unit))))) × (((List UInt8) × (Int × (Int × Unit))) × Unit))) : Option ((Int × ((List Int) × ((List Tree) × (Int × (Int × Unit))))) × (((List UInt8) × (Int × (Int × Unit))) × Unit)) :=
 cond (decide (p.2.1 < (((List.length p.1) : Nat) : Int)))
 (cond (Go.Lift.inR p.2.1 (List.length p.1))
 (cond ((((UInt8.toNat (List.getD p.1 (Int.toNat p.2.1) (0 : UInt8))) : Nat) : Int) != (124 : Int))
 (cond (Go.Lift.inR p.2.1 (List.length p.1))
 (cond ((((UInt8.toNat (List.getD p.1 (Int.toNat p.2.1) (0 : UInt8))) : Nat) : Int) != (41 : Int))
 (k0)
 (k1))
 (none))
 (k1))
 (none))
 (k1)

noncomputable def regex_parser_cat_g3 (N : Nat) (self : regex_parser_alt_Self) (x : denS [(0, .box (.pair .str (.pair (.int .i64) (.pair (.int .i64) .unit)))), (1, .box (.pair (.int .i64) (.pair (.arr 4 (.int .u64)) (.pair (.sl .nod) (.pair (.int .i64) (.pair (.int .i64) .unit)))))), (0, .row (.pair (.int .i64) (.pair (.arr 4 (.int .u64)) (.pair (.sl .nod) (.pair (.int .i64) (.pair (.int .i64) .unit))))))]) (K : Ex → List A → Option ((Int × ((List Int) × ((List Tree) × (Int × (Int × Unit))))) × (((List UInt8) × (Int × (Int × Unit))) × Unit))) : Option ((Int × ((List Int) × ((List Tree) × (Int × (Int × Unit))))) × (((List UInt8) × (Int × (Int × Unit))) × Unit)) :=
 regex_parser_cat_p3 N self x.1 x.2.1 x.2.2.1 (K .normal (mkS [(0, .box (.pair .str (.pair (.int .i64) (.pair (.int .i64) .unit)))), (1, .box (.pair (.int .i64) (.pair (.arr 4 (.int .u64)) (.pair (.sl .nod) (.pair (.int .i64) (.pair (.int .i64) .unit)))))), (0, .row (.pair (.int .i64) (.pair (.arr 4 (.int .u64)) (.pair (.sl .nod) (.pair (.int .i64) (.pair (.int .i64) .unit))))))] 41 (x.1, x.2.1, x.2.2.1, ()))) (K (.exit 0) (mkS [(0, .box (.pair .str (.pair (.int .i64) (.pair (.int .i64) .unit)))), (1, .box (.pair (.int .i64) (.pair (.arr 4 (.int .u64)) (.pair (.sl .nod) (.pair (.int .i64) (.pair (.int .i64) .unit)))))), (0, .row (.pair (.int .i64) (.pair (.arr 4 (.int .u64)) (.pair (.sl .nod) (.pair (.int .i64) (.pair (.int .i64) .unit))))))] 41 (x.1, x.2.1, x.2.2.1, ())))

noncomputable def regex_parser_cat_h3 (N : Nat) (self : regex_parser_alt_Self) : Hd ((Int × ((List Int) × ((List Tree) × (Int × (Int × Unit))))) × (((List UInt8) × (Int × (Int × Unit))) × Unit)) := fun st K => (unS [(0, .box (.pair .str (.pair (.int .i64) (.pair (.int .i64) .unit)))), (1, .box (.pair (.int .i64) (.pair (.arr 4 (.int .u64)) (.pair (.sl .nod) (.pair (.int .i64) (.pair (.int .i64) .unit)))))), (0, .row (.pair (.int .i64) (.pair (.arr 4 (.int .u64)) (.pair (.sl .nod) (.pair (.int .i64) (.pair (.int .i64) .unit))))))] 41 (restr [0, 3, 2] 0 st)).bind fun x => regex_parser_cat_g3 N self x K

noncomputable def regex_parser_cat_t3 (N : Nat) (self : regex_parser_alt_Self) : Tab ((Int × ((List Int) × ((List Tree) × (Int × (Int × Unit))))) × (((List UInt8) × (Int × (Int × Unit))) × Unit)) := []

theorem regex_parser_cat_ok3 {N : Nat} {self : regex_parser_alt_Self} {c : Ctx} (hb : Base Go.Proofs.Tryd.prog (regex_parser_cat_E N self) c) : CodeOk Go.Proofs.Tryd.prog c (nodeAt regex_parser_cat_body [0, 0, 0, 0, 1, 1]) (regex_parser_cat_h3 N self) :=
  piece_ok (s := [(0, .box (.pair .str (.pair (.int .i64) (.pair (.int .i64) .unit)))), (1, .box (.pair (.int .i64) (.pair (.arr 4 (.int .u64)) (.pair (.sl .nod) (.pair (.int .i64) (.pair (.int .i64) .unit)))))), (0, .row (.pair (.int .i64) (.pair (.arr 4 (.int .u64)) (.pair (.sl .nod) (.pair (.int .i64) (.pair (.int .i64) .unit))))))]) (m := 41) (g := regex_parser_cat_g3 N self) [0, 3, 2] (evN_sound hb N (regex_parser_cat_t3 N self) regex_parser_cat_L regex_parser_cat_body TabOk.nil [0, 0, 0, 0, 1, 1] _ rfl) (fun x K => by kernel_rfl)

noncomputable def regex_parser_cat_s2 (N : Nat) (self : regex_parser_alt_Self) (x2 : (Int × ((List Int) × ((List Tree) × (Int × (Int × Unit)))))) (p : ((List UInt8) × (Int × (Int × Unit)))) (parts : (List (Int × ((List Int) × ((List Tree) × (Int × (Int × Unit))))))) (rec : ((List UInt8) × (Int × (Int × Unit))) → (List (Int × ((List Int) × ((List Tree) × (Int × (Int × Unit)))))) → Option ((Int × ((List Int) × ((List Tree) × (Int × (Int × Unit))))) × (((List UInt8) × (Int × (Int × Unit))) × Unit))) (k0 : ((List UInt8) × (Int × (Int × Unit))) → (List (Int × ((List Int) × ((List Tree) × (Int × (Int × Unit)))))) → Option ((Int × ((List Int) × ((List Tree) × (Int × (Int × Unit))))) × (((List UInt8) × (Int × (Int × Unit))) × Unit))) : Option ((Int × ((List Int) × ((List Tree) × (Int × (Int × Unit))))) × (((List UInt8) × (Int × (Int × Unit))) × Unit)) :=
 regex_parser_cat_p3 N self p x2 parts
 ((regex_parser_piece N self p).bind fun y =>
 cond (decide ((((List.length parts) + 1) * 80) ≤ 70368744177664))
 (rec y.2.1 (parts ++ ([y.1] : List (Int × ((List Int) × ((List Go.Lift.Tree) × (Int × (Int × Unit))))))))
 (none))
 (k0 p parts)

noncomputable def regex_parser_cat_p2 (N : Nat) (self : regex_parser_alt_Self) (p : ((List UInt8) × (Int × (Int × Unit)))) (x2 : (Int × ((List Int) × ((List Tree) × (Int × (Int × Unit)))))) (parts : (List (Int × ((List Int) × ((List Tree) × (Int × (Int × Unit))))))) (k0 : ((List UInt8) × (Int × (Int × Unit))) → (List (Int × ((List Int) × ((List Tree) × (Int × (Int × Unit)))))) → Option ((Int × ((List Int) × ((List Tree) × (Int × (Int × Unit))))) × (((List UInt8) × (Int × (Int × Unit))) × Unit))) : Option ((Int × ((List Int) × ((List Tree) × (Int × (Int × Unit))))) × (((List UInt8) × (Int × (Int × Unit))) × Unit)) :=
 iter (fun (v : (((List UInt8) × (Int × (Int × Unit))) × (List (Int × ((List Int) × ((List Tree) × (Int × (Int × Unit)))))))) r => regex_parser_cat_s2 N self x2 v.1 v.2 (fun p parts => (r (p, parts))) k0) N (p, parts)

noncomputable def regex_parser_cat_g2 (N : Nat) (self : regex_parser_alt_Self) (i : (Int × ((List Int) × ((List Tree) × (Int × (Int × Unit)))))) (v : (((List UInt8) × (Int × (Int × Unit))) × (List (Int × ((List Int) × ((List Tree) × (Int × (Int × Unit)))))))) (r : (((List UInt8) × (Int × (Int × Unit))) × (List (Int × ((List Int) × ((List Tree) × (Int × (Int × Unit))))))) → Option ((Int × ((List Int) × ((List Tree) × (Int × (Int × Unit))))) × (((List UInt8) × (Int × (Int × Unit))) × Unit))) (K : Ex → List A → Option ((Int × ((List Int) × ((List Tree) × (Int × (Int × Unit))))) × (((List UInt8) × (Int × (Int × Unit))) × Unit))) : Option ((Int × ((List Int) × ((List Tree) × (Int × (Int × Unit))))) × (((List UInt8) × (Int × (Int × Unit))) × Unit)) :=
 regex_parser_cat_s2 N self i v.1 v.2 (fun p parts => (r (p, parts))) (fun a0 a2 => (K (.exit 0) (mkS [(0, .box (.pair .str (.pair (.int .i64) (.pair (.int .i64) .unit)))), (1, .box (.pair (.int .i64) (.pair (.arr 4 (.int .u64)) (.pair (.sl .nod) (.pair (.int .i64) (.pair (.int .i64) .unit)))))), (0, .row (.pair (.int .i64) (.pair (.arr 4 (.int .u64)) (.pair (.sl .nod) (.pair (.int .i64) (.pair (.int .i64) .unit))))))] 41 (a0, i, a2, ()))))

noncomputable def regex_parser_cat_h2 (N : Nat) (self : regex_parser_alt_Self) : Hd ((Int × ((List Int) × ((List Tree) × (Int × (Int × Unit))))) × (((List UInt8) × (Int × (Int × Unit))) × Unit)) := fun st K => (unS [(0, .box (.pair .str (.pair (.int .i64) (.pair (.int .i64) .unit)))), (1, .box (.pair (.int .i64) (.pair (.arr 4 (.int .u64)) (.pair (.sl .nod) (.pair (.int .i64) (.pair (.int .i64) .unit)))))), (0, .row (.pair (.int .i64) (.pair (.arr 4 (.int .u64)) (.pair (.sl .nod) (.pair (.int .i64) (.pair (.int .i64) .unit))))))] 41 (restr [0, 3, 2] 0 st)).bind fun x => iter (fun v r => regex_parser_cat_g2 N self ((fun x => x.2.1) x) v r K) N ((fun x => (x.1, x.2.2.1)) x)

noncomputable def regex_parser_cat_t2 (N : Nat) (self : regex_parser_alt_Self) : Tab ((Int × ((List Int) × ((List Tree) × (Int × (Int × Unit))))) × (((List UInt8) × (Int × (Int × Unit))) × Unit)) := [([0, 0, 0, 0, 1, 1], regex_parser_cat_h3 N self)]

theorem regex_parser_cat_ok2 {N : Nat} {self : regex_parser_alt_Self} {c : Ctx} (hb : Base Go.Proofs.Tryd.prog (regex_parser_cat_E N self) c) : CodeOk Go.Proofs.Tryd.prog c (nodeAt regex_parser_cat_body [0, 0, 1, 1]) (regex_parser_cat_h2 N self) :=
  loop_ok (s := [(0, .box (.pair .str (.pair (.int .i64) (.pair (.int .i64) .unit)))), (1, .box (.pair (.int .i64) (.pair (.arr 4 (.int .u64)) (.pair (.sl .nod) (.pair (.int .i64) (.pair (.int .i64) .unit)))))), (0, .row (.pair (.int .i64) (.pair (.arr 4 (.int .u64)) (.pair (.sl .nod) (.pair (.int .i64) (.pair (.int .i64) .unit))))))]) (m := 41) (regex_parser_cat_g2 N self) [0, 3, 2] N (fun x => x.2.1) (fun x => (x.1, x.2.2.1)) (fun i v => (v.1, i, v.2, ())) (fun _ => rfl) (evN_sound hb N (regex_parser_cat_t2 N self) regex_parser_cat_L regex_parser_cat_body (TabOk.cons (regex_parser_cat_ok3 hb) TabOk.nil) [0, 0, 0, 1, 1] _ rfl) (fun i v r K => by kernel_rfl)

noncomputable def regex_parser_cat_p1 (N : Nat) (self : regex_parser_alt_Self) (p : ((List UInt8) × (Int × (Int × Unit)))) (x2 : (Int × ((List Int) × ((List Tree) × (Int × (Int × Unit)))))) (parts : (List (Int × ((List Int) × ((List Tree) × (Int × (Int × Unit))))))) (k0 : ((List UInt8) × (Int × (Int × Unit))) → (List (Int × ((List Int) × ((List Tree) × (Int × (Int × Unit)))))) → Option ((Int × ((List Int) × ((List Tree) × (Int × (Int × Unit))))) × (((List UInt8) × (Int × (Int × Unit))) × Unit))) : Option ((Int × ((List Int) × ((List Tree) × (Int × (Int × Unit))))) × (((List UInt8) × (Int × (Int × Unit))) × Unit)) :=
 regex_parser_cat_p2 N self p x2 parts
 (fun p1 parts1 => k0 p1 parts1)

noncomputable def regex_parser_cat_g1 (N : Nat) (self : regex_parser_alt_Self) (x : denS [(0, .box (.pair .str (.pair (.int .i64) (.pair (.int .i64) .unit)))), (1, .box (.pair (.int .i64) (.pair (.arr 4 (.int .u64)) (.pair (.sl .nod) (.pair (.int .i64) (.pair (.int .i64) .unit)))))), (0, .row (.pair (.int .i64) (.pair (.arr 4 (.int .u64)) (.pair (.sl .nod) (.pair (.int .i64) (.pair (.int .i64) .unit))))))]) (K : Ex → List A → Option ((Int × ((List Int) × ((List Tree) × (Int × (Int × Unit))))) × (((List UInt8) × (Int × (Int × Unit))) × Unit))) : Option ((Int × ((List Int) × ((List Tree) × (Int × (Int × Unit))))) × (((List UInt8) × (Int × (Int × Unit))) × Unit)) :=
 regex_parser_cat_p1 N self x.1 x.2.1 x.2.2.1 (fun a0 a2 => (K .normal (mkS [(0, .box (.pair .str (.pair (.int .i64) (.pair (.int .i64) .unit)))), (1, .box (.pair (.int .i64) (.pair (.arr 4 (.int .u64)) (.pair (.sl .nod) (.pair (.int .i64) (.pair (.int .i64) .unit)))))), (0, .row (.pair (.int .i64) (.pair (.arr 4 (.int .u64)) (.pair (.sl .nod) (.pair (.int .i64) (.pair (.int .i64) .unit))))))] 41 (a0, x.2.1, a2, ()))))

noncomputable def regex_parser_cat_h1 (N : Nat) (self : regex_parser_alt_Self) : Hd ((Int × ((List Int) × ((List Tree) × (Int × (Int × Unit))))) × (((List UInt8) × (Int × (Int × Unit))) × Unit)) := fun st K => (unS [(0, .box (.pair .str (.pair (.int .i64) (.pair (.int .i64) .unit)))), (1, .box (.pair (.int .i64) (.pair (.arr 4 (.int .u64)) (.pair (.sl .nod) (.pair (.int .i64) (.pair (.int .i64) .unit)))))), (0, .row (.pair (.int .i64) (.pair (.arr 4 (.int .u64)) (.pair (.sl .nod) (.pair (.int .i64) (.pair (.int .i64) .unit))))))] 41 (restr [0, 3, 2] 0 st)).bind fun x => regex_parser_cat_g1 N self x K

noncomputable def regex_parser_cat_t1 (N : Nat) (self : regex_parser_alt_Self) : Tab ((Int × ((List Int) × ((List Tree) × (Int × (Int × Unit))))) × (((List UInt8) × (Int × (Int × Unit))) × Unit)) := [([0, 0, 1, 1], regex_parser_cat_h2 N self)]

theorem regex_parser_cat_ok1 {N : Nat} {self : regex_parser_alt_Self} {c : Ctx} (hb : Base Go.Proofs.Tryd.prog (regex_parser_cat_E N self) c) : CodeOk Go.Proofs.Tryd.prog c (nodeAt regex_parser_cat_body [0, 1, 1]) (regex_parser_cat_h1 N self) :=
  piece_ok (s := [(0, .box (.pair .str (.pair (.int .i64) (.pair (.int .i64) .unit)))), (1, .box (.pair (.int .i64) (.pair (.arr 4 (.int .u64)) (.pair (.sl .nod) (.pair (.int .i64) (.pair (.int .i64) .unit)))))), (0, .row (.pair (.int .i64) (.pair (.arr 4 (.int .u64)) (.pair (.sl .nod) (.pair (.int .i64) (.pair (.int .i64) .unit))))))]) (m := 41) (g := regex_parser_cat_g1 N self) [0, 3, 2] (evN_sound hb N (regex_parser_cat_t1 N self) regex_parser_cat_L regex_parser_cat_body (TabOk.cons (regex_parser_cat_ok2 hb) TabOk.nil) [0, 1, 1] _ rfl) (fun x K => by kernel_rfl)

noncomputable def regex_parser_cat (N : Nat) (self : regex_parser_alt_Self) (p : ((List UInt8) × (Int × (Int × Unit)))) : Option ((Int × ((List Int) × ((List Tree) × (Int × (Int × Unit))))) × (((List UInt8) × (Int × (Int × Unit))) × Unit)) :=
 regex_parser_cat_p1 N self p ((0 : Int), (([(0 : Int), (0 : Int), (0 : Int), (0 : Int)] : List Int), (([] : List Go.Lift.Tree), ((0 : Int), ((0 : Int), ()))))) ([] : List (Int × ((List Int) × ((List Go.Lift.Tree) × (Int × (Int × Unit))))))
 (fun p1 parts => (regex_join N (2 : Int) (List.map Go.Lift.foN parts)).bind fun y =>
 some (y, (p1, ())))

noncomputable def regex_parser_cat_t (N : Nat) (self : regex_parser_alt_Self) : Tab ((Int × ((List Int) × ((List Tree) × (Int × (Int × Unit))))) × (((List UInt8) × (Int × (Int × Unit))) × Unit)) := [([0, 1, 1], regex_parser_cat_h1 N self)]

theorem regex_parser_cat_link (N : Nat) (self : regex_parser_alt_Self) (x : denS [(0, .box (.pair .str (.pair (.int .i64) (.pair (.int .i64) .unit))))]) : evFX (regex_parser_cat_E N self) N (regex_parser_cat_t N self) regex_parser_cat_L Go.Proofs.Tryd.f25 (mkS [(0, .box (.pair .str (.pair (.int .i64) (.pair (.int .i64) .unit))))] 0 x) (kResB (.v (.pair (.int .i64) (.pair (.arr 4 (.int .u64)) (.pair (.sl .nod) (.pair (.int .i64) (.pair (.int .i64) .unit)))))) [(0, .box (.pair .str (.pair (.int .i64) (.pair (.int .i64) .unit))))] 0) = regex_parser_cat N self x.1 := by kernel_rfl

noncomputable def regex_parser_cat_res (N : Nat) (self : regex_parser_alt_Self) : List A → Res := resOf [(0, .box (.pair .str (.pair (.int .i64) (.pair (.int .i64) .unit))))] (fun x => regex_parser_cat N self x.1) (oResB (.v (.pair (.int .i64) (.pair (.arr 4 (.int .u64)) (.pair (.sl .nod) (.pair (.int .i64) (.pair (.int .i64) .unit)))))) [(0, .box (.pair .str (.pair (.int .i64) (.pair (.int .i64) .unit))))] 0)

theorem regex_parser_cat_ct (N : Nat) (self : regex_parser_alt_Self) (hself : Contract Go.Proofs.Tryd.prog glob 19 (resOf [(0, .box (.pair .str (.pair (.int .i64) (.pair (.int .i64) .unit))))] (fun x => self x.1) (oResB (.v (.pair (.int .i64) (.pair (.arr 4 (.int .u64)) (.pair (.sl .nod) (.pair (.int .i64) (.pair (.int .i64) .unit)))))) [(0, .box (.pair .str (.pair (.int .i64) (.pair (.int .i64) .unit))))] 0))) : Contract Go.Proofs.Tryd.prog glob 25 (regex_parser_cat_res N self) :=
  Contract.of (E := regex_parser_cat_E N self) (H := regex_parser_cat_t N self) (L := regex_parser_cat_L) (N := N) (body := regex_parser_cat_body) (K := (kResB (.v (.pair (.int .i64) (.pair (.arr 4 (.int .u64)) (.pair (.sl .nod) (.pair (.int .i64) (.pair (.int .i64) .unit)))))) [(0, .box (.pair .str (.pair (.int .i64) (.pair (.int .i64) .unit))))] 0)) (regex_parser_cat_Eok N self hself) Go.Proofs.Tryd.func25 (by kernel_rfl) (by decide) (fun _ hb => (TabOk.cons (regex_parser_cat_ok1 hb) TabOk.nil)) (fun x y h => by rw [regex_parser_cat_link]; exact h) (kResB_ok (s := (.v (.pair (.int .i64) (.pair (.arr 4 (.int .u64)) (.pair (.sl .nod) (.pair (.int .i64) (.pair (.int .i64) .unit))))))) (os := [(0, .box (.pair .str (.pair (.int .i64) (.pair (.int .i64) .unit))))]) (m := 0))

noncomputable def regex_parser_alt_body : Code := (Go.Proofs.Tryd.f19.body).getD .skip

noncomputable def regex_parser_alt_L : List (List Nat × List Nat) := [([0], [0, 2]), ([0, 1], [0, 3, 2]), ([0, 0, 1, 1], [0, 3, 2]), ([0, 0, 0, 0, 0, 1, 1], [8, 3, 0, 2]), ([1, 0, 0, 0, 0, 1, 1], [3, 0, 2]), ([1, 1, 0, 0, 0, 0, 1, 1], [3, 2, 0]), ([0, 1, 0, 0, 0, 1, 1], [0, 3, 2]), ([1, 0, 0, 0, 1, 1], [0, 3, 2]), ([0, 1, 1], [3, 2, 0]), ([0, 1, 1, 1], [2, 0]), ([1, 1, 1, 1], [2, 0])]

noncomputable def regex_parser_alt_E (N : Nat) (self : ((List UInt8) × (Int × (Int × Unit))) → Option ((Int × ((List Int) × ((List Tree) × (Int × (Int × Unit))))) × (((List UInt8) × (Int × (Int × Unit))) × Unit))) : Env := mkEnv tys glob [(25, regex_parser_cat_res N self), (27, regex_join_res N), (26, regex_parser_skip_res N), (19, resOf [(0, .box (.pair .str (.pair (.int .i64) (.pair (.int .i64) .unit))))] (fun x => self x.1) (oResB (.v (.pair (.int .i64) (.pair (.arr 4 (.int .u64)) (.pair (.sl .nod) (.pair (.int .i64) (.pair (.int .i64) .unit)))))) [(0, .box (.pair .str (.pair (.int .i64) (.pair (.int .i64) .unit))))] 0))] [(3, (.pair (.int .i64) (.pair (.arr 4 (.int .u64)) (.pair (.sl .nod) (.pair (.int .i64) (.pair (.int .i64) .unit))))))] [] [0] false [] []

theorem regex_parser_alt_Eok (N : Nat) (self : ((List UInt8) × (Int × (Int × Unit))) → Option ((Int × ((List Int) × ((List Tree) × (Int × (Int × Unit))))) × (((List UInt8) × (Int × (Int × Unit))) × Unit))) (hself : Contract Go.Proofs.Tryd.prog glob 19 (resOf [(0, .box (.pair .str (.pair (.int .i64) (.pair (.int .i64) .unit))))] (fun x => self x.1) (oResB (.v (.pair (.int .i64) (.pair (.arr 4 (.int .u64)) (.pair (.sl .nod) (.pair (.int .i64) (.pair (.int .i64) .unit)))))) [(0, .box (.pair .str (.pair (.int .i64) (.pair (.int .i64) .unit))))] 0))) : EnvOk Go.Proofs.Tryd.prog (regex_parser_alt_E N self) := mkEnv_ok mixed tys_ok (FnsOk.cons (regex_parser_cat_ct N self hself) (FnsOk.cons (regex_join_ct N) (FnsOk.cons (regex_parser_skip_ct N) (FnsOk.cons (hself) (FnsOk.nil))))) (ItsOk.nil)

noncomputable def regex_parser_alt_s1 (N : Nat) (self : ((List UInt8) × (Int × (Int × Unit))) → Option ((Int × ((List Int) × ((List Tree) × (Int × (Int × Unit))))) × (((List UInt8) × (Int × (Int × Unit))) × Unit))) (x2 : (Int × ((List Int) × ((List Tree) × (Int × (Int × Unit)))))) (p : ((List UInt8) × (Int × (Int × Unit)))) (parts : (List (Int × ((List Int) × ((List Tree) × (Int × (Int × Unit))))))) (rec : ((List UInt8) × (Int × (Int × Unit))) → (List (Int × ((List Int) × ((List Tree) × (Int × (Int × Unit)))))) → Option ((Int × ((List Int) × ((List Tree) × (Int × (Int × Unit))))) × (((List UInt8) × (Int × (Int × Unit))) × Unit))) (k0 : ((List UInt8) × (Int × (Int × Unit))) → (List (Int × ((List Int) × ((List Tree) × (Int × (Int × Unit)))))) → Option ((Int × ((List Int) × ((List Tree) × (Int × (Int × Unit))))) × (((List UInt8) × (Int × (Int × Unit))) × Unit))) : Option ((Int × ((List Int) × ((List Tree) × (Int × (Int × Unit))))) × (((List UInt8) × (Int × (Int × Unit))) × Unit)) :=
 (regex_parser_skip N p (124 : Int)).bind fun y =>
 cond y.1
 ((regex_parser_cat N self y.2.1).bind fun y1 =>
 cond (decide ((((List.length parts) + 1) * 80) ≤ 70368744177664))
 (rec y1.2.1 (parts ++ ([y1.1] : List (Int × ((List Int) × ((List Go.Lift.Tree) × (Int × (Int × Unit))))))))
 (none))
 (k0 y.2.1 parts)

noncomputable def regex_parser_alt_p1 (N : Nat) (self : ((List UInt8) × (Int × (Int × Unit))) → Option ((Int × ((List Int) × ((List Tree) × (Int × (Int × Unit))))) × (((List UInt8) × (Int × (Int × Unit))) × Unit))) (p : ((List UInt8) × (Int × (Int × Unit)))) (x2 : (Int × ((List Int) × ((List Tree) × (Int × (Int × Unit)))))) (parts : (List (Int × ((List Int) × ((List Tree) × (Int × (Int × Unit))))))) (k0 : ((List UInt8) × (Int × (Int × Unit))) → (List (Int × ((List Int) × ((List Tree) × (Int × (Int × Unit)))))) → Option ((Int × ((List Int) × ((List Tree) × (Int × (Int × Unit))))) × (((List UInt8) × (Int × (Int × Unit))) × Unit))) : Option ((Int × ((List Int) × ((List Tree) × (Int × (Int × Unit))))) × (((List UInt8) × (Int × (Int × Unit))) × Unit)) :=
 iter (fun (v : (((List UInt8) × (Int × (Int × Unit))) × (List (Int × ((List Int) × ((List Tree) × (Int × (Int × Unit)))))))) r => regex_parser_alt_s1 N self x2 v.1 v.2 (fun p parts => (r (p, parts))) k0) N (p, parts)

noncomputable def regex_parser_alt_g1 (N : Nat) (self : ((List UInt8) × (Int × (Int × Unit))) → Option ((Int × ((List Int) × ((List Tree) × (Int × (Int × Unit))))) × (((List UInt8) × (Int × (Int × Unit))) × Unit))) (i : (Int × ((List Int) × ((List Tree) × (Int × (Int × Unit)))))) (v : (((List UInt8) × (Int × (Int × Unit))) × (List (Int × ((List Int) × ((List Tree) × (Int × (Int × Unit)))))))) (r : (((List UInt8) × (Int × (Int × Unit))) × (List (Int × ((List Int) × ((List Tree) × (Int × (Int × Unit))))))) → Option ((Int × ((List Int) × ((List Tree) × (Int × (Int × Unit))))) × (((List UInt8) × (Int × (Int × Unit))) × Unit))) (K : Ex → List A → Option ((Int × ((List Int) × ((List Tree) × (Int × (Int × Unit))))) × (((List UInt8) × (Int × (Int × Unit))) × Unit))) : Option ((Int × ((List Int) × ((List Tree) × (Int × (Int × Unit))))) × (((List UInt8) × (Int × (Int × Unit))) × Unit)) :=
 regex_parser_alt_s1 N self i v.1 v.2 (fun p parts => (r (p, parts))) (fun a0 a2 => (K (.exit 0) (mkS [(0, .box (.pair .str (.pair (.int .i64) (.pair (.int .i64) .unit)))), (1, .box (.pair (.int .i64) (.pair (.arr 4 (.int .u64)) (.pair (.sl .nod) (.pair (.int .i64) (.pair (.int .i64) .unit)))))), (0, .row (.pair (.int .i64) (.pair (.arr 4 (.int .u64)) (.pair (.sl .nod) (.pair (.int .i64) (.pair (.int .i64) .unit))))))] 12 (a0, i, a2, ()))))

noncomputable def regex_parser_alt_h1 (N : Nat) (self : ((List UInt8) × (Int × (Int × Unit))) → Option ((Int × ((List Int) × ((List Tree) × (Int × (Int × Unit))))) × (((List UInt8) × (Int × (Int × Unit))) × Unit))) : Hd ((Int × ((List Int) × ((List Tree) × (Int × (Int × Unit))))) × (((List UInt8) × (Int × (Int × Unit))) × Unit)) := fun st K => (unS [(0, .box (.pair .str (.pair (.int .i64) (.pair (.int .i64) .unit)))), (1, .box (.pair (.int .i64) (.pair (.arr 4 (.int .u64)) (.pair (.sl .nod) (.pair (.int .i64) (.pair (.int .i64) .unit)))))), (0, .row (.pair (.int .i64) (.pair (.arr 4 (.int .u64)) (.pair (.sl .nod) (.pair (.int .i64) (.pair (.int .i64) .unit))))))] 12 (restr [0, 3, 2] 0 st)).bind fun x => iter (fun v r => regex_parser_alt_g1 N self ((fun x => x.2.1) x) v r K) N ((fun x => (x.1, x.2.2.1)) x)

noncomputable def regex_parser_alt_t1 (N : Nat) (self : ((List UInt8) × (Int × (Int × Unit))) → Option ((Int × ((List Int) × ((List Tree) × (Int × (Int × Unit))))) × (((List UInt8) × (Int × (Int × Unit))) × Unit))) : Tab ((Int × ((List Int) × ((List Tree) × (Int × (Int × Unit))))) × (((List UInt8) × (Int × (Int × Unit))) × Unit)) := []

theorem regex_parser_alt_ok1 {N : Nat} {self : ((List UInt8) × (Int × (Int × Unit))) → Option ((Int × ((List Int) × ((List Tree) × (Int × (Int × Unit))))) × (((List UInt8) × (Int × (Int × Unit))) × Unit))} {c : Ctx} (hb : Base Go.Proofs.Tryd.prog (regex_parser_alt_E N self) c) : CodeOk Go.Proofs.Tryd.prog c (nodeAt regex_parser_alt_body [0, 0, 1, 1]) (regex_parser_alt_h1 N self) :=
  loop_ok (s := [(0, .box (.pair .str (.pair (.int .i64) (.pair (.int .i64) .unit)))), (1, .box (.pair (.int .i64) (.pair (.arr 4 (.int .u64)) (.pair (.sl .nod) (.pair (.int .i64) (.pair (.int .i64) .unit)))))), (0, .row (.pair (.int .i64) (.pair (.arr 4 (.int .u64)) (.pair (.sl .nod) (.pair (.int .i64) (.pair (.int .i64) .unit))))))]) (m := 12) (regex_parser_alt_g1 N self) [0, 3, 2] N (fun x => x.2.1) (fun x => (x.1, x.2.2.1)) (fun i v => (v.1, i, v.2, ())) (fun _ => rfl) (evN_sound hb N (regex_parser_alt_t1 N self) regex_parser_alt_L regex_parser_alt_body TabOk.nil [0, 0, 0, 1, 1] _ rfl) (fun i v r K => by kernel_rfl)

noncomputable def regex_parser_alt_F (N : Nat) (self : ((List UInt8) × (Int × (Int × Unit))) → Option ((Int × ((List Int) × ((List Tree) × (Int × (Int × Unit))))) × (((List UInt8) × (Int × (Int × Unit))) × Unit))) (p : ((List UInt8) × (Int × (Int × Unit)))) : Option ((Int × ((List Int) × ((List Tree) × (Int × (Int × Unit))))) × (((List UInt8) × (Int × (Int × Unit))) × Unit)) :=
 (regex_parser_cat N self p).bind fun y =>
 regex_parser_alt_p1 N self y.2.1 ((0 : Int), (([(0 : Int), (0 : Int), (0 : Int), (0 : Int)] : List Int), (([] : List Go.Lift.Tree), ((0 : Int), ((0 : Int), ()))))) ([y.1] : List (Int × ((List Int) × ((List Go.Lift.Tree) × (Int × (Int × Unit))))))
 (fun p1 parts => (regex_join N (3 : Int) (List.map Go.Lift.foN parts)).bind fun y1 =>
 some (y1, (p1, ())))

noncomputable def regex_parser_alt_t (N : Nat) (self : ((List UInt8) × (Int × (Int × Unit))) → Option ((Int × ((List Int) × ((List Tree) × (Int × (Int × Unit))))) × (((List UInt8) × (Int × (Int × Unit))) × Unit))) : Tab ((Int × ((List Int) × ((List Tree) × (Int × (Int × Unit))))) × (((List UInt8) × (Int × (Int × Unit))) × Unit)) := [([0, 0, 1, 1], regex_parser_alt_h1 N self)]

theorem regex_parser_alt_link (N : Nat) (self : ((List UInt8) × (Int × (Int × Unit))) → Option ((Int × ((List Int) × ((List Tree) × (Int × (Int × Unit))))) × (((List UInt8) × (Int × (Int × Unit))) × Unit))) (x : denS [(0, .box (.pair .str (.pair (.int .i64) (.pair (.int .i64) .unit))))]) : evFX (regex_parser_alt_E N self) N (regex_parser_alt_t N self) regex_parser_alt_L Go.Proofs.Tryd.f19 (mkS [(0, .box (.pair .str (.pair (.int .i64) (.pair (.int .i64) .unit))))] 0 x) (kResB (.v (.pair (.int .i64) (.pair (.arr 4 (.int .u64)) (.pair (.sl .nod) (.pair (.int .i64) (.pair (.int .i64) .unit)))))) [(0, .box (.pair .str (.pair (.int .i64) (.pair (.int .i64) .unit))))] 0) = regex_parser_alt_F N self x.1 := by kernel_rfl

noncomputable def regex_parser_alt : Nat → ((List UInt8) × (Int × (Int × Unit))) → Option ((Int × ((List Int) × ((List Tree) × (Int × (Int × Unit))))) × (((List UInt8) × (Int × (Int × Unit))) × Unit))
  | 0 => fun _ => none
  | N + 1 => regex_parser_alt_F (N + 1) (regex_parser_alt N)

noncomputable def regex_parser_alt_res (N : Nat) : List A → Res := resOf [(0, .box (.pair .str (.pair (.int .i64) (.pair (.int .i64) .unit))))] (fun x => regex_parser_alt N x.1) (oResB (.v (.pair (.int .i64) (.pair (.arr 4 (.int .u64)) (.pair (.sl .nod) (.pair (.int .i64) (.pair (.int .i64) .unit)))))) [(0, .box (.pair .str (.pair (.int .i64) (.pair (.int .i64) .unit))))] 0)

theorem regex_parser_alt_ct : ∀ N : Nat, Contract Go.Proofs.Tryd.prog glob 19 (regex_parser_alt_res N)
  | 0 => Contract.zero Go.Proofs.Tryd.func19 (body := regex_parser_alt_body) (by kernel_rfl) (by decide) (fun _ => rfl)
  | N + 1 => Contract.of (E := regex_parser_alt_E (N + 1) (regex_parser_alt N)) (H := regex_parser_alt_t (N + 1) (regex_parser_alt N)) (L := regex_parser_alt_L) (N := (N + 1)) (body := regex_parser_alt_body) (K := (kResB (.v (.pair (.int .i64) (.pair (.arr 4 (.int .u64)) (.pair (.sl .nod) (.pair (.int .i64) (.pair (.int .i64) .unit)))))) [(0, .box (.pair .str (.pair (.int .i64) (.pair (.int .i64) .unit))))] 0)) (regex_parser_alt_Eok (N + 1) (regex_parser_alt N) (regex_parser_alt_ct N)) Go.Proofs.Tryd.func19 (by kernel_rfl) (by decide) (fun _ hb => (TabOk.cons (regex_parser_alt_ok1 hb) TabOk.nil)) (fun x y h => by rw [regex_parser_alt_link]; exact h) (kResB_ok (s := (.v (.pair (.int .i64) (.pair (.arr 4 (.int .u64)) (.pair (.sl .nod) (.pair (.int .i64) (.pair (.int .i64) .unit))))))) (os := [(0, .box (.pair .str (.pair (.int .i64) (.pair (.int .i64) .unit))))]) (m := 0))

end Go.Proofs.YtbfmhambfonpcaaDoorLg

set_option linter.all false
set_option maxRecDepth 100000
namespace Go.Proofs.YtbfmhambfonpcaaDoorLg
open Go Go.Lift Go.Proofs.YtbfmhambfonpcaaDoorPx

mutual
def nodesT : Tree → Nat
  | .mk _ _ ks _ _ => 1 + nodesL ks
def nodesL : List Tree → Nat
  | [] => 0
  | x :: xs => nodesT x + nodesL xs
end

mutual
def sameT : Tree → Tree → Bool
  | .mk k st ks lo hi, .mk k' st' ks' lo' hi' => k == k' && (st == st' && (lo == lo' && (hi == hi' && (ks.length == ks'.length && sameL ks ks'))))
def sameL : List Tree → List Tree → Bool
  | x :: xs, y :: ys => sameT x y && sameL xs ys
  | _, _ => true
end

mutual
def sizeT : Tree → Int
  | .mk _ _ ks _ _ => sizeL ks 1
def sizeL : List Tree → Int → Int
  | [], n => n
  | x :: xs, n => sizeL xs (IntKind.wrap .i64 (n + sizeT x))
end

mutual
def depT : Tree → Int
  | .mk _ _ ks _ _ => IntKind.wrap .i64 (depL ks 0 + 1)
def depL : List Tree → Int → Int
  | [], n => n
  | x :: xs, n => depL xs (cond (decide (n < depT x)) (depT x) n)
end

def kindT (x : Tree) : Int := (unN x).1

def timesT (lo hi : Int) : Bool := decide (0 ≤ lo ∧ lo ≤ 16 ∧ (hi = -1 ∨ (1 ≤ hi ∧ lo ≤ hi ∧ hi ≤ 16)))

def shT (k : Int) (st : List Int) (ks : List Tree) (lo hi : Int) : Bool :=
 if k = 1 then ks.length == 0 && (lo == 0 && hi == 0)
 else if k = 2 then st == [0, 0, 0, 0] && (lo == 0 && (hi == 0 && (ks.length != 1 && !(ks.any fun x => kindT x == 2))))
 else if k = 3 then st == [0, 0, 0, 0] && (lo == 0 && (hi == 0 && (decide (2 ≤ ks.length) && !(ks.any fun x => kindT x == 3))))
 else if k = 4 then st == [0, 0, 0, 0] && (ks.length == 1 && timesT lo hi)
 else false

mutual
def rightT : Tree → Bool
  | .mk k st ks lo hi => shT k st ks lo hi && rightL ks
def rightL : List Tree → Bool
  | [] => true
  | x :: xs => rightT x && rightL xs
end

theorem nodesT_pos : ∀ x : Tree, 0 < nodesT x
  | .mk .. => by rw [nodesT]; omega

theorem nodesL_mem : ∀ {ks : List Tree} {x : Tree}, x ∈ ks → nodesT x ≤ nodesL ks
  | y :: ks, x, h => by
    rw [nodesL]
    rcases List.mem_cons.1 h with rfl | h
    · omega
    · have := nodesL_mem h; omega

theorem nodesL_len : ∀ ks : List Tree, ks.length ≤ nodesL ks
  | [] => by simp
  | y :: ks => by have := nodesL_len ks; have := nodesT_pos y; rw [nodesL, List.length_cons]; omega

theorem sameL_drop (d : Tree) {xs ys : List Tree} {i : Nat} (h : i < xs.length) (h' : i < ys.length) : sameL (xs.drop i) (ys.drop i) = (sameT (xs.getD i d) (ys.getD i d) && sameL (xs.drop (i + 1)) (ys.drop (i + 1))) := by
  rw [List.drop_eq_getElem_cons h, List.drop_eq_getElem_cons h', sameL, List.getD_eq_getElem?_getD, List.getD_eq_getElem?_getD, List.getElem?_eq_getElem h, List.getElem?_eq_getElem h']
  rfl

def dT : Tree := .mk 0 [] [] 0 0

theorem WfNs_get {ks : List Tree} (h : WfNs ks) {i : Nat} (hi : i < ks.length) : WfN (ks.getD i dT) := by
  rw [List.getD_eq_getElem?_getD, List.getElem?_eq_getElem hi]
  exact (WfNs_all ks).1 h _ (List.getElem_mem hi)

theorem getD_mem {ks : List Tree} {i : Nat} (hi : i < ks.length) : ks.getD i dT ∈ ks := by
  rw [List.getD_eq_getElem?_getD, List.getElem?_eq_getElem hi]; exact List.getElem_mem hi

theorem same_loop {xs ys : List Tree} (hl : xs.length = ys.length) (hm : xs.length ≤ maxLen) (self : NodT.den → NodT.den → Option Bool) (hself : ∀ i, i < xs.length → self (unN (xs.getD i dT)) (unN (ys.getD i dT)) = some (sameT (xs.getD i dT) (ys.getD i dT))) (n : Nat) (hn : xs.length < n)
    (step : Int → (Int → Option Bool) → Option Bool) (hs : ∀ (i : Nat) (r : Int → Option Bool), step (i : Int) r = cond (decide ((i : Int) < (xs.length : Int))) (cond (inR (i : Int) xs.length) (cond (inR (i : Int) ys.length) ((self (unN (xs.getD (Int.toNat (i : Int)) dT)) (unN (ys.getD (Int.toNat (i : Int)) dT))).bind fun y => cond (!y) (some false) (r (IntKind.wrap .i64 ((i : Int) + 1)))) none) none) (some true)) :
    iter step n 0 = some (sameL xs ys) := by
  have key := iter_eq (step := step) (fun v => ∃ i : Nat, v = (i : Int) ∧ i ≤ xs.length) (fun v => xs.length - v.toNat) (fun v => some (sameL (xs.drop v.toNat) (ys.drop v.toNat))) (by
    rintro v r ⟨i, rfl, hi⟩ hr
    rw [hs]
    rcases Nat.lt_or_ge i xs.length with h | h
    · rw [cond_t (decide_eq_true (by omega)), cond_t (inR_nat h), cond_t (inR_nat (by omega)), Int.toNat_natCast, hself i h, Option.bind_some, sameL_drop dT h (by omega)]
      cases hc : sameT (xs.getD i dT) (ys.getD i dT) with
      | false => rfl
      | true =>
        simp only [Bool.not_true, cond_false, Bool.true_and]
        have hw : IntKind.wrap .i64 ((i : Int) + 1) = ((i + 1 : Nat) : Int) := by
          rw [wrap_in (by unfold I64; unfold maxLen at hm; omega)]; omega
        rw [hw, hr _ ⟨i + 1, rfl, by omega⟩ (by simp only [Int.toNat_natCast]; omega), Int.toNat_natCast]
    · rw [cond_f (decide_eq_false (by omega)), Int.toNat_natCast, List.drop_eq_nil_of_le h]
      rfl)
  have := key n 0 ⟨0, rfl, by omega⟩ (by simp; omega)
  simpa using this

theorem self_same {N : Nat} {f : Nat → NodT.den → NodT.den → Option Bool} {ks : List Tree} (hN : nodesL ks < N) (hw : WfNs ks)
    (ih : ∀ a b : Tree, nodesT a < N → WfN a → f N (unN a) (unN b) = some (sameT a b)) (ys : List Tree) (i : Nat) (hi : i < ks.length) :
    f N (unN (ks.getD i dT)) (unN (ys.getD i dT)) = some (sameT (ks.getD i dT) (ys.getD i dT)) :=
  ih _ _ (Nat.lt_of_le_of_lt (nodesL_mem (getD_mem hi)) hN) (WfNs_get hw hi)

theorem eqD4 (x y : List Int) : eqD (T.arr 4 (T.int .u64)) x y = (x == y) := by
  rw [eqD_dec (t := .arr 4 (.int .u64)) rfl, Bool.eq_iff_iff, decide_eq_true_eq, beq_iff_eq]

theorem refSame_eq : ∀ (N : Nat) (a b : Tree), nodesT a < N → WfN a → porterref13_Same N (unN a) (unN b) = some (sameT a b)
  | 0, _, _, h, _ => absurd h (Nat.not_lt_zero _)
  | N + 1, .mk k st ks lo hi, .mk k' st' ks' lo' hi', h, hw => by
    rw [nodesT] at h
    rw [WfN] at hw
    have hlen := nodesL_len ks
    show porterref13_Same_F (N + 1) (porterref13_Same N) _ _ = _
    rw [sameT]
    unfold porterref13_Same_F porterref13_Same_p1 porterref13_Same_p2 porterref13_Same_p3
    dsimp only [unN]
    rw [eqD4]
    cases h1 : k == k' <;> simp only [bne, h1, Bool.not_false, Bool.not_true, cond_true, cond_false, Bool.false_and, Bool.true_and]
    cases h2 : st == st' <;> simp only [Bool.not_false, Bool.not_true, cond_true, cond_false, Bool.false_and, Bool.true_and]
    cases h3 : lo == lo' <;> simp only [Bool.not_false, Bool.not_true, cond_true, cond_false, Bool.false_and, Bool.true_and]
    cases h4 : hi == hi' <;> simp only [Bool.not_false, Bool.not_true, cond_true, cond_false, Bool.false_and, Bool.true_and]
    have h5 : ((ks.length : Int) == (ks'.length : Int)) = (ks.length == ks'.length) := by rw [Bool.eq_iff_iff, beq_iff_eq, beq_iff_eq]; omega
    rw [h5]
    cases h6 : ks.length == ks'.length <;> simp only [Bool.not_false, Bool.not_true, cond_true, cond_false, Bool.false_and, Bool.true_and]
    exact same_loop (by simpa using h6) hw.2.2.1.1 (porterref13_Same N) (fun i hi => self_same (by omega) hw.2.2.1.2 (fun a b => refSame_eq N a b) ks' i hi) (N + 1) (by omega) _ (fun i r => rfl)

theorem regSame_eq : ∀ (N : Nat) (a b : Tree), nodesT a < N → WfN a → regex_Same N (unN a) (unN b) = some (sameT a b)
  | 0, _, _, h, _ => absurd h (Nat.not_lt_zero _)
  | N + 1, .mk k st ks lo hi, .mk k' st' ks' lo' hi', h, hw => by
    rw [nodesT] at h
    rw [WfN] at hw
    have hlen := nodesL_len ks
    show regex_Same_F (N + 1) (regex_Same N) _ _ = _
    rw [sameT]
    unfold regex_Same_F regex_Same_p1 regex_Same_p2 regex_Same_p3
    dsimp only [unN]
    rw [eqD4]
    cases h1 : k == k' <;> simp only [bne, h1, Bool.not_false, Bool.not_true, cond_true, cond_false, Bool.false_and, Bool.true_and]
    cases h2 : st == st' <;> simp only [Bool.not_false, Bool.not_true, cond_true, cond_false, Bool.false_and, Bool.true_and]
    cases h3 : lo == lo' <;> simp only [Bool.not_false, Bool.not_true, cond_true, cond_false, Bool.false_and, Bool.true_and]
    cases h4 : hi == hi' <;> simp only [Bool.not_false, Bool.not_true, cond_true, cond_false, Bool.false_and, Bool.true_and]
    have h5 : ((ks.length : Int) == (ks'.length : Int)) = (ks.length == ks'.length) := by rw [Bool.eq_iff_iff, beq_iff_eq, beq_iff_eq]; omega
    rw [h5]
    cases h6 : ks.length == ks'.length <;> simp only [Bool.not_false, Bool.not_true, cond_true, cond_false, Bool.false_and, Bool.true_and]
    exact same_loop (by simpa using h6) hw.2.2.1.1 (regex_Same N) (fun i hi => self_same (by omega) hw.2.2.1.2 (fun a b => regSame_eq N a b) ks' i hi) (N + 1) (by omega) _ (fun i r => rfl)

theorem sizeL_drop (d : Tree) {xs : List Tree} {i : Nat} (h : i < xs.length) (n : Int) : sizeL (xs.drop i) n = sizeL (xs.drop (i + 1)) (IntKind.wrap .i64 (n + sizeT (xs.getD i d))) := by
  rw [List.drop_eq_getElem_cons h, sizeL, List.getD_eq_getElem?_getD, List.getElem?_eq_getElem h]
  rfl

theorem next_i {i len : Nat} (h : i < len) (hm : len ≤ maxLen) : IntKind.wrap .i64 ((i : Int) + 1) = ((i + 1 : Nat) : Int) := by
  rw [wrap_in (by unfold I64; unfold maxLen at hm; omega)]; omega

theorem regSize_eq : ∀ (N : Nat) (a : Tree), nodesT a < N → WfN a → regex_Size N (unN a) = some (sizeT a)
  | 0, _, h, _ => absurd h (Nat.not_lt_zero _)
  | N + 1, .mk k st ks lo hi, h, hw => by
    rw [nodesT] at h
    rw [WfN] at hw
    have hlen := nodesL_len ks
    show regex_Size_F (N + 1) (regex_Size N) _ = _
    rw [sizeT]
    unfold regex_Size_F regex_Size_p1
    dsimp only [unN]
    have key := iter_eq (step := fun (v : (Int × Int)) r => regex_Size_s1 (N + 1) (regex_Size N) ks (ks.length : Int) v.1 v.2 (fun size x9 => (r (size, x9))) (fun size => some size))
      (fun v => ∃ i : Nat, v.2 = (i : Int) ∧ i ≤ ks.length) (fun v => ks.length - v.2.toNat) (fun v => some (sizeL (ks.drop v.2.toNat) v.1)) (by
      rintro ⟨n, v⟩ r ⟨i, rfl, hi⟩ hr
      unfold regex_Size_s1
      dsimp only
      rcases Nat.lt_or_ge i ks.length with h' | h'
      · rw [cond_t (decide_eq_true (by omega)), cond_t (inR_nat h'), Int.toNat_natCast]
        have e := regSize_eq N (ks.getD i dT) (by have := nodesL_mem (getD_mem h'); omega) (WfNs_get hw.2.2.1.2 h')
        rw [show (Tree.mk (0 : Int) ([] : List Int) ([] : List Tree) (0 : Int) (0 : Int)) = dT from rfl, e, Option.bind_some, next_i h' hw.2.2.1.1]
        rw [hr _ ⟨i + 1, rfl, by omega⟩ (by simp only [Int.toNat_natCast]; omega)]
        simp only [Int.toNat_natCast]
        rw [sizeL_drop dT h']
      · rw [cond_f (decide_eq_false (by omega)), Int.toNat_natCast, List.drop_eq_nil_of_le h', sizeL])
    have := key (N + 1) (1, 0) ⟨0, rfl, by omega⟩ (by simp; omega)
    simpa using this

theorem depL_drop (d : Tree) {xs : List Tree} {i : Nat} (h : i < xs.length) (n : Int) : depL (xs.drop i) n = depL (xs.drop (i + 1)) (cond (decide (n < depT (xs.getD i d))) (depT (xs.getD i d)) n) := by
  rw [List.drop_eq_getElem_cons h, depL, List.getD_eq_getElem?_getD, List.getElem?_eq_getElem h]
  rfl

theorem refSize_eq : ∀ (N : Nat) (a : Tree), nodesT a < N → WfN a → porterref13_Size N (unN a) = some (sizeT a, depT a, ())
  | 0, _, h, _ => absurd h (Nat.not_lt_zero _)
  | N + 1, .mk k st ks lo hi, h, hw => by
    rw [nodesT] at h
    rw [WfN] at hw
    have hlen := nodesL_len ks
    show porterref13_Size_F (N + 1) (porterref13_Size N) _ = _
    rw [sizeT, depT]
    unfold porterref13_Size_F porterref13_Size_p1
    have key := iter_eq (step := fun (v : (Int × Int × Int)) r => porterref13_Size_s1 (N + 1) (porterref13_Size N) (k, st, ks, lo, hi, ()) v.1 v.2.1 v.2.2 (fun all deep i => (r (all, deep, i))) (fun all deep => some (all, ((IntKind.wrap .i64 (deep + (1 : Int))), ()))))
      (fun v => ∃ i : Nat, v.2.2 = (i : Int) ∧ i ≤ ks.length) (fun v => ks.length - v.2.2.toNat) (fun v => some (sizeL (ks.drop v.2.2.toNat) v.1, IntKind.wrap .i64 (depL (ks.drop v.2.2.toNat) v.2.1 + 1), ())) (by
      rintro ⟨n, d, v⟩ r ⟨i, rfl, hi⟩ hr
      unfold porterref13_Size_s1 porterref13_Size_p2
      dsimp only
      rcases Nat.lt_or_ge i ks.length with h' | h'
      · rw [cond_t (decide_eq_true (by omega)), cond_t (inR_nat h'), Int.toNat_natCast]
        have e := refSize_eq N (ks.getD i dT) (by have := nodesL_mem (getD_mem h'); omega) (WfNs_get hw.2.2.1.2 h')
        have e2 : porterref13_Size N (unN (ks.getD i (Tree.mk (0 : Int) ([] : List Int) ([] : List Tree) (0 : Int) (0 : Int)))) = some (sizeT (ks.getD i dT), depT (ks.getD i dT), ()) := e
        rw [e2, Option.bind_some, next_i h' hw.2.2.1.1]
        dsimp only
        rw [hr _ ⟨i + 1, rfl, by omega⟩ (by simp only [Int.toNat_natCast]; omega), hr _ ⟨i + 1, rfl, by omega⟩ (by simp only [Int.toNat_natCast]; omega)]
        simp only [Int.toNat_natCast]
        rw [sizeL_drop dT h', depL_drop dT h']
        cases decide (d < depT (ks.getD i dT)) <;> rfl
      · rw [cond_f (decide_eq_false (by omega)), Int.toNat_natCast, List.drop_eq_nil_of_le h', sizeL, depL])
    have := key (N + 1) (1, 0, 0) ⟨0, rfl, by omega⟩ (by simp; omega)
    simp only [Int.toNat_zero, List.drop_zero] at this
    exact this

theorem regTimes_eq (N : Nat) (lo hi : Int) : regex_times N lo hi = some (timesT lo hi) := by
  unfold regex_times regex_times_p1 regex_times_p2 timesT
  simp only [Bool.cond_eq_ite, decide_eq_true_eq, beq_iff_eq, if_true, Bool.false_eq_true, if_false]
  repeat' split
  all_goals first
    | (simp only [Option.some.injEq]; rw [eq_comm]; first | (apply decide_eq_true; omega) | (apply decide_eq_false; omega) | (rw [Bool.eq_iff_iff, decide_eq_true_eq, decide_eq_true_eq]; omega))
    | omega

theorem refTimes_eq (N : Nat) (lo hi : Int) : porterref13_times N lo hi = some (timesT lo hi) := by
  unfold porterref13_times porterref13_times_p1 porterref13_times_p2 timesT
  simp only [Bool.cond_eq_ite, decide_eq_true_eq, beq_iff_eq, if_true, Bool.false_eq_true, if_false]
  repeat' split
  all_goals first
    | (simp only [Option.some.injEq]; rw [eq_comm]; first | (apply decide_eq_true; omega) | (apply decide_eq_false; omega) | (rw [Bool.eq_iff_iff, decide_eq_true_eq, decide_eq_true_eq]; omega))
    | omega

theorem kids_loop {ks : List Tree} (hm : ks.length ≤ maxLen) (f : Tree → Option Bool) (e : Bool) (step : Int → (Int → Option Bool) → Option Bool)
    (hs : ∀ (i : Nat) (r : Int → Option Bool), i ≤ ks.length → step (i : Int) r = cond (decide ((i : Int) < (ks.length : Int))) (match f (ks.getD i dT) with
      | some b => some b
      | none => r (IntKind.wrap .i64 ((i : Int) + 1))) (some e)) (n : Nat) (hn : ks.length < n) : iter step n 0 = some ((ks.findSome? f).getD e) := by
  have key := iter_eq (step := step) (fun v => ∃ i : Nat, v = (i : Int) ∧ i ≤ ks.length) (fun v => ks.length - v.toNat) (fun v => some (((ks.drop v.toNat).findSome? f).getD e)) (by
    rintro v r ⟨i, rfl, hi⟩ hr
    rw [hs i r hi]
    rcases Nat.lt_or_ge i ks.length with h | h
    · have eg : ks.getD i dT = ks[i] := by rw [List.getD_eq_getElem?_getD, List.getElem?_eq_getElem h]; rfl
      rw [cond_t (decide_eq_true (by omega)), Int.toNat_natCast, List.drop_eq_getElem_cons h, List.findSome?_cons, eg]
      cases hf : f ks[i] with
      | some b => rfl
      | none =>
        dsimp only
        rw [next_i h hm, hr _ ⟨i + 1, rfl, by omega⟩ (by simp only [Int.toNat_natCast]; omega), Int.toNat_natCast]
    · rw [cond_f (decide_eq_false (by omega)), Int.toNat_natCast, List.drop_eq_nil_of_le h]
      rfl)
  have := key n 0 ⟨0, rfl, by omega⟩ (by simp; omega)
  simpa using this

theorem findSome_any (p : Tree → Bool) : ∀ ks : List Tree, (ks.findSome? fun x => cond (p x) (some true) none).getD false = ks.any p
  | [] => rfl
  | x :: ks => by
    rw [List.findSome?_cons, List.any_cons]
    cases hp : p x with
    | true => rfl
    | false => simpa using findSome_any p ks

theorem findSome_right : ∀ ks : List Tree, (ks.findSome? fun x => cond (rightT x) none (some false)).getD true = rightL ks
  | [] => by rw [rightL]; rfl
  | x :: ks => by
    rw [List.findSome?_cons, rightL]
    cases hp : rightT x with
    | true => simpa using findSome_right ks
    | false => rfl

theorem findSome_right2 (p : Tree → Bool) : ∀ ks : List Tree, (ks.findSome? fun x => cond (rightT x && !(p x)) none (some false)).getD true = (rightL ks && !(ks.any p))
  | [] => by rw [rightL]; rfl
  | x :: ks => by
    rw [List.findSome?_cons, rightL, List.any_cons]
    cases hp : rightT x with
    | false => rfl
    | true =>
      cases hq : p x with
      | true => simp
      | false => simpa using findSome_right2 p ks

theorem within_eq (N : Nat) (k : Int) (st : List Int) (ks : List Tree) (lo hi kind : Int) (hm : ks.length ≤ maxLen) (hN : ks.length < N) : regex_within N (k, st, ks, lo, hi, ()) kind = some (ks.any fun x => kindT x == kind) := by
  unfold regex_within regex_within_p1
  rw [← findSome_any]
  refine kids_loop hm (fun x => cond (kindT x == kind) (some true) none) false _ (fun i r hi => ?_) N hN
  unfold regex_within_s1
  dsimp only
  rcases Nat.lt_or_ge i ks.length with h | h
  · rw [cond_t (decide_eq_true (by omega)), cond_t (decide_eq_true (by omega)), cond_t (inR_nat h), Int.toNat_natCast]
    change cond (kindT (ks.getD i dT) == kind) _ _ = _
    cases kindT (ks.getD i dT) == kind <;> rfl
  · rw [cond_f (decide_eq_false (by omega)), cond_f (decide_eq_false (by omega))]

theorem shaped_eq (N : Nat) (k : Int) (st : List Int) (ks : List Tree) (lo hi : Int) (hm : ks.length ≤ maxLen) (hN : ks.length < N) : regex_shaped N (k, st, ks, lo, hi, ()) = some (shT k st ks lo hi) := by
  unfold regex_shaped regex_shaped_p1
  dsimp only
  rw [within_eq N k st ks lo hi 2 hm hN, within_eq N k st ks lo hi 3 hm hN, regTimes_eq, eqD4]
  unfold shT
  simp only [Option.bind_some]
  have e0 : ((ks.length : Int) == 0) = (ks.length == 0) := by rw [Bool.eq_iff_iff, beq_iff_eq, beq_iff_eq]; omega
  have e1 : ((ks.length : Int) == 1) = (ks.length == 1) := by rw [Bool.eq_iff_iff, beq_iff_eq, beq_iff_eq]; omega
  have e2 : decide ((2 : Int) ≤ (ks.length : Int)) = decide (2 ≤ ks.length) := by rw [Bool.eq_iff_iff, decide_eq_true_eq, decide_eq_true_eq]; omega
  simp only [bne, e0, e1, e2]
  by_cases h1 : k = 1
  · subst h1
    cases lo == 0 <;> cases hi == 0 <;> cases ks.length == 0 <;> rfl
  rw [if_neg h1]
  by_cases h2 : k = 2
  · subst h2
    cases lo == 0 <;> cases hi == 0 <;> cases ks.length == 1 <;> cases st == [0, 0, 0, 0] <;> rfl
  rw [if_neg h2]
  by_cases h3 : k = 3
  · subst h3
    cases lo == 0 <;> cases hi == 0 <;> cases decide (2 ≤ ks.length) <;> cases st == [0, 0, 0, 0] <;> rfl
  rw [if_neg h3]
  have f1 : (k == 1) = false := by simpa using h1
  have f2 : (k == 2) = false := by simpa using h2
  have f3 : (k == 3) = false := by simpa using h3
  by_cases h4 : k = 4
  · subst h4
    cases lo == 0 <;> cases hi == 0 <;> cases ks.length == 1 <;> cases st == [0, 0, 0, 0] <;> rfl
  have f4 : (k == 4) = false := by simpa using h4
  rw [if_neg h4, f1, f2, f3, f4]
  cases lo == 0 <;> rfl

theorem regRight_eq : ∀ (N : Nat) (a : Tree), nodesT a < N → WfN a → regex_Right N (unN a) = some (rightT a)
  | 0, _, h, _ => absurd h (Nat.not_lt_zero _)
  | N + 1, .mk k st ks lo hi, h, hw => by
    rw [nodesT] at h
    rw [WfN] at hw
    have hlen := nodesL_len ks
    show regex_Right_F (N + 1) (regex_Right N) (k, st, ks, lo, hi, ()) = _
    rw [rightT]
    unfold regex_Right_F regex_Right_p1
    rw [shaped_eq (N + 1) k st ks lo hi hw.2.2.1.1 (by omega), Option.bind_some]
    cases shT k st ks lo hi with
    | false => rfl
    | true =>
      simp only [Bool.not_true, cond_false, Bool.true_and]
      rw [← findSome_right]
      refine kids_loop hw.2.2.1.1 (fun x => cond (rightT x) none (some false)) true _ (fun i r hi => ?_) (N + 1) (by omega)
      unfold regex_Right_s1
      dsimp only
      rcases Nat.lt_or_ge i ks.length with h' | h'
      · rw [cond_t (decide_eq_true (by omega)), cond_t (decide_eq_true (by omega)), cond_t (inR_nat h'), Int.toNat_natCast]
        have e : regex_Right N (unN (ks.getD i (Tree.mk (0 : Int) ([] : List Int) ([] : List Tree) (0 : Int) (0 : Int)))) = some (rightT (ks.getD i dT)) := regRight_eq N (ks.getD i dT) (by have := nodesL_mem (getD_mem h'); omega) (WfNs_get hw.2.2.1.2 h')
        rw [e, Option.bind_some]
        cases rightT (ks.getD i dT) <;> rfl
      · rw [cond_f (decide_eq_false (by omega)), cond_f (decide_eq_false (by omega))]

def shU (k : Int) (st : List Int) (ks : List Tree) (lo hi : Int) : Bool :=
 if k = 1 then ks.length == 0 && (lo == 0 && hi == 0)
 else if k = 2 then st == [0, 0, 0, 0] && (lo == 0 && (hi == 0 && (ks.length != 1)))
 else if k = 3 then st == [0, 0, 0, 0] && (lo == 0 && (hi == 0 && (decide (2 ≤ ks.length))))
 else if k = 4 then st == [0, 0, 0, 0] && (ks.length == 1 && timesT lo hi)
 else false

theorem shU_and (k : Int) (st : List Int) (ks : List Tree) (lo hi : Int) : shT k st ks lo hi = (shU k st ks lo hi && !(ks.any fun x => kindT x == k && decide (k < 4))) := by
  unfold shT shU
  by_cases h1 : k = 1
  · subst h1
    rw [if_pos rfl, if_pos rfl]
    cases ks with
    | nil => simp
    | cons x xs => simp
  rw [if_neg h1, if_neg h1]
  by_cases h2 : k = 2
  · subst h2
    simp [Bool.and_assoc]
  rw [if_neg h2, if_neg h2]
  by_cases h3 : k = 3
  · subst h3
    simp [Bool.and_assoc]
  rw [if_neg h3, if_neg h3]
  by_cases h4 : k = 4
  · subst h4
    simp
  rw [if_neg h4]
  rfl

theorem refLoop {N : Nat} {k : Int} {st : List Int} {ks : List Tree} {lo hi : Int} (hm : ks.length ≤ maxLen) (hN : ks.length < N + 1) (self : NodT.den → Option Bool) (hself : ∀ i, i < ks.length → self (unN (ks.getD i dT)) = some (rightT (ks.getD i dT))) :
    porterref13_Right_p7 (N + 1) self (k, st, ks, lo, hi, ()) (ks.length : Int) 0 (fun x23 => some x23) (some true) = some (rightL ks && !(ks.any fun x => kindT x == k && decide (k < 4))) := by
  unfold porterref13_Right_p7
  rw [← findSome_right2]
  refine kids_loop hm (fun x => cond (rightT x && !(kindT x == k && decide (k < 4))) none (some false)) true _ (fun i r hi => ?_) (N + 1) hN
  unfold porterref13_Right_s7 porterref13_Right_p8 porterref13_Right_p9
  dsimp only
  rcases Nat.lt_or_ge i ks.length with h' | h'
  · have ht : decide ((i : Int) < (ks.length : Int)) = true := decide_eq_true (by omega)
    rw [cond_t ht, cond_t ht, cond_t (inR_nat h'), cond_t (inR_nat h'), Int.toNat_natCast]
    have e : self (unN (ks.getD i (Tree.mk (0 : Int) ([] : List Int) ([] : List Tree) (0 : Int) (0 : Int)))) = some (rightT (ks.getD i dT)) := hself i h'
    rw [e, Option.bind_some]
    change cond (!(rightT (ks.getD i dT))) _ (cond (kindT (ks.getD i dT) == k) _ _) = _
    cases rightT (ks.getD i dT) <;> cases kindT (ks.getD i dT) == k <;> cases decide (k < 4) <;> rfl
  · have ht : decide ((i : Int) < (ks.length : Int)) = false := decide_eq_false (by omega)
    rw [cond_f ht, cond_f ht]

theorem refRight_eq : ∀ (N : Nat) (a : Tree), nodesT a < N → WfN a → porterref13_Right N (unN a) = some (rightT a)
  | 0, _, h, _ => absurd h (Nat.not_lt_zero _)
  | N + 1, .mk k st ks lo hi, h, hw => by
    rw [nodesT] at h
    rw [WfN] at hw
    have hlen := nodesL_len ks
    show porterref13_Right_F (N + 1) (porterref13_Right N) (k, st, ks, lo, hi, ()) = _
    rw [rightT, shU_and]
    unfold porterref13_Right_F porterref13_Right_p1 porterref13_Right_p2 porterref13_Right_p3 porterref13_Right_p4 porterref13_Right_p5 porterref13_Right_p6
    dsimp only
    rw [refLoop hw.2.2.1.1 (by omega) (porterref13_Right N) (fun i hi => refRight_eq N _ (by have := nodesL_mem (getD_mem hi); omega) (WfNs_get hw.2.2.1.2 hi)), refTimes_eq, eqD4]
    simp only [Option.bind_some]
    have e0 : ((ks.length : Int) == 0) = (ks.length == 0) := by rw [Bool.eq_iff_iff, beq_iff_eq, beq_iff_eq]; omega
    have e1 : ((ks.length : Int) == 1) = (ks.length == 1) := by rw [Bool.eq_iff_iff, beq_iff_eq, beq_iff_eq]; omega
    have e2 : decide ((ks.length : Int) < 2) = !(decide (2 ≤ ks.length)) := by rw [Bool.eq_iff_iff, Bool.not_eq_true', decide_eq_true_eq, decide_eq_false_iff_not]; omega
    unfold shU
    simp only [bne, e0, e1, e2]
    generalize (ks.any fun x => kindT x == k && decide (k < 4)) = q
    generalize rightL ks = p
    by_cases h1 : k = 1
    · subst h1
      cases lo == 0 <;> cases hi == 0 <;> cases ks.length == 0 <;> cases p <;> cases q <;> rfl
    rw [if_neg h1]
    by_cases h2 : k = 2
    · subst h2
      cases lo == 0 <;> cases hi == 0 <;> cases ks.length == 1 <;> cases st == [0, 0, 0, 0] <;> cases p <;> cases q <;> rfl
    rw [if_neg h2]
    by_cases h3 : k = 3
    · subst h3
      cases lo == 0 <;> cases hi == 0 <;> cases decide (2 ≤ ks.length) <;> cases st == [0, 0, 0, 0] <;> cases p <;> cases q <;> rfl
    rw [if_neg h3]
    by_cases h4 : k = 4
    · subst h4
      cases timesT lo hi <;> cases ks.length == 1 <;> cases st == [0, 0, 0, 0] <;> cases p <;> cases q <;> rfl
    rw [if_neg h4]
    rcases Int.lt_or_le k 1 with h5 | h5
    · rw [cond_t (decide_eq_true h5)]; rfl
    · rw [cond_f (decide_eq_false (by omega)), decide_eq_true (show (4 : Int) < k by omega)]; rfl

end Go.Proofs.YtbfmhambfonpcaaDoorLg

set_option linter.all false
set_option maxRecDepth 100000
namespace Go.Lift


def BSt (t : T) (w0 : World) (S0 : Hp) (ob0 : List Nat) (bf : Nat) (w : World) (x : t.den) (L : List (Nat × Array Value × Nat)) : Prop :=
 ∃ S o, WF w0 (fun k => k ∈ ob0) w ∧ Sub S0 S ∧ Sub S (hp w) ∧ (∀ k, S k ≠ none → S0 k ≠ none ∨ k ∈ ob0 ∨ w0.heap.size ≤ k) ∧ ARel (hp w) S (fun _ => undef) (.box t x) (.pointer (some ⟨bf, 0, none⟩)) o ∧ o.Nodup ∧
 (∀ k ∈ o, S k = none ∧ (k ∈ ob0 ∨ w0.heap.size ≤ k)) ∧ ∀ p ∈ L, S p.1 = none ∧ p.1 ∉ o ∧ w0.heap.size ≤ p.1 ∧ w.heap[p.1]? = some (.cells p.2.1 p.2.2 (0, 0))

variable {P : Program} {glob : Nat → Option Dat} {t : T} {w0 w : World} {S0 : Hp} {ob0 : List Nat} {bf : Nat} {x : t.den} {L : List (Nat × Array Value × Nat)}

theorem BSt.lt (h : BSt t w0 S0 ob0 bf w x L) : ∀ p ∈ L, p.1 < w.heap.size := by
  obtain ⟨S, o, _, _, _, _, _, _, _, hL⟩ := h
  exact fun p hp => (Array.getElem?_eq_some_iff.1 (hL p hp).2.2.2).1

theorem BSt.drew (h : BSt t w0 S0 ob0 bf w x L) : BSt t w0 S0 ob0 bf w.drew x L := by
  obtain ⟨S, o, k1, k2⟩ := h
  exact ⟨S, o, ⟨k1.size, k1.same, k1.tape, k1.os, k1.output⟩, k2⟩

theorem BSt.plain {f : FuncId} {g : List A → Res} (ct : Contract P glob f g) (hg : ∀ S, GlobOk glob S) (h : BSt t w0 S0 ob0 bf w x L) {args : List A} {vals : List Value}
    (hrel : ∀ S, Sub S (hp w) → ArgsRel (hp w) S args vals (fun _ => [])) {y : (g args).X} (hy : (g args).val = some y) :
    Calls P f vals.toArray w fun e w' => ∃ v S' o', e = .returned v ∧ ARel (hp w') S' (fun _ => undef) ((g args).out y).1 v o' ∧ BSt t w0 S0 ob0 bf w' x L := by
  have h' := h
  obtain ⟨S, o, h1, h2, h3, h4, h5, h6, h7, hL⟩ := h'
  refine ((ct.2 w S args vals _ (hrel S h3) h3 (hg S) y hy)).mono ?_
  rintro e w' ⟨v, S', q, ob', rfl, hwf, hSS, hSw, hnew, ⟨hr, _⟩, _⟩
  refine ⟨v, S', q, rfl, hr, ?_⟩
  have hwf' : WF w (fun _ => False) w' := ⟨hwf.size, fun k hk _ => hwf.same k hk (by rintro ⟨i, hi⟩; cases hi), hwf.tape, hwf.os, hwf.output⟩
  have hlt : ∀ k ∈ o, k < w.heap.size := fun k hk => by
    obtain ⟨ob, hob⟩ := h5.obj k hk
    exact (Array.getElem?_eq_some_iff.1 hob.1).1
  have hnw : ∀ k, k < w.heap.size → S' k ≠ none → S k ≠ none := fun k hk hs => by
    rcases hnew k hs with h | ⟨i, hi⟩ | h
    · exact h
    · cases hi
    · omega
  refine ⟨S', o, h1.trans hwf' (fun _ h => h.elim), h2.trans hSS, hSw, fun k hk => ?_, ?_, h6, fun k hk => ⟨?_, (h7 k hk).2⟩, fun p hp => ?_⟩
  · rcases hnew k hk with h | ⟨i, hi⟩ | h
    · exact h4 k h
    · cases hi
    · exact .inr (.inr (Nat.le_trans h1.size h))
  · obtain ⟨b, cs, E, fr, bs, rfl, e1, e2, e3, e4⟩ := h5
    refine ⟨b, cs, E, fr, bs, rfl, e1, ?_, e3, e4.mono hSS _ _ _ _ (fun k hk => hwf'.same k (hlt k (by simp [hk])) (fun h => h))⟩
    have := hwf'.same b (hlt b (by simp)) (fun h => h)
    simp only [hp] at e2 ⊢
    rw [this]; exact e2
  · cases hs : S' k with
    | none => rfl
    | some q => exact absurd (h7 k hk).1 (hnw k (hlt k hk) (by rw [hs]; simp))
  · obtain ⟨p1, p2, p3, p4⟩ := hL p hp
    have hl := (Array.getElem?_eq_some_iff.1 p4).1
    refine ⟨?_, p2, p3, ?_⟩
    · cases hs : S' p.1 with
      | none => rfl
      | some q => exact absurd p1 (hnw _ hl (by rw [hs]; simp))
    · rw [hwf'.same p.1 hl (fun h => h)]; exact p4

theorem args_box {S : Hp} {v : Value} {o : List Nat} {args : List A} {vals : List Value} (h5 : ARel (hp w) S (fun _ => undef) (.box t x) v o) (h6 : o.Nodup) (h7 : ∀ k ∈ o, S k = none) (hr0 : ArgsRel (hp w) S args vals (fun _ => [])) :
    ArgsRel (hp w) S (.box t x :: args) (v :: vals) (fun i => if i = 0 then o else []) := by
  refine ⟨by simp [hr0.len], fun i q hq => ?_, fun i hi => ?_, fun i j b hi hj => ?_, fun i => ?_, fun i b hb => ?_⟩
  · cases i with
    | zero =>
      simp at hq; subst hq
      exact ⟨⟨_, rfl, by simpa using h5⟩, rfl⟩
    | succ i =>
      obtain ⟨⟨v, hv, ha⟩, hrf⟩ := hr0.rel i q (by simpa using hq)
      exact ⟨⟨v, by simpa using hv, by simpa using ha⟩, hrf⟩
  · rw [if_neg (by intro e; subst e; simp at hi)]
  · by_cases hi0 : i = 0 <;> by_cases hj0 : j = 0 <;> simp_all
  · by_cases hi0 : i = 0 <;> simp [hi0, h6]
  · by_cases hi0 : i = 0
    · rw [if_pos hi0] at hb; exact h7 b hb
    · rw [if_neg hi0] at hb; cases hb

theorem BSt.alloc (h : BSt t w0 S0 ob0 bf w x L) (cs : Array Value) (E : Nat) : BSt t w0 S0 ob0 bf (w.alloc (.cells cs E)) x ((w.heap.size, cs, E) :: L) := by
  have hlt := h.lt
  obtain ⟨S, o, h1, h2, h3, h4, h5, h6, h7, hL⟩ := h
  have hh : (w.alloc (.cells cs E)).heap = w.heap.push (.cells cs E (0, 0)) := rfl
  have hk : ∀ k, k < w.heap.size → (w.alloc (.cells cs E)).heap[k]? = w.heap[k]? := fun k hk => by
    rw [hh, Array.getElem?_push, if_neg (by omega)]
  have hol : ∀ k ∈ o, k < w.heap.size := fun k hk => by
    obtain ⟨ob, hob⟩ := h5.obj k hk
    exact (Array.getElem?_eq_some_iff.1 hob.1).1
  refine ⟨S, o, ⟨by rw [hh, Array.size_push]; have := h1.size; omega, fun k h1' h2' => by rw [hk k (by have := h1.size; omega)]; exact h1.same k h1' h2', h1.tape, h1.os, h1.output⟩, h2, fun k q ho => ?_, h4, ?_, h6, h7, fun p hpm => ?_⟩
  · have := h3 k q ho
    simp only [hp] at this ⊢
    rw [hk k (Array.getElem?_eq_some_iff.1 this).1]
    exact this
  · obtain ⟨b, c1, E', fr, bs, rfl, e1, e2, e3, e4⟩ := h5
    refine ⟨b, c1, E', fr, bs, rfl, e1, ?_, e3, e4.mono (Sub.refl _) _ _ _ _ (fun k hkm => hk k (hol k (by simp [hkm])))⟩
    simp only [hp] at e2 ⊢
    rw [hk b (hol b (by simp))]; exact e2
  · rcases List.mem_cons.1 hpm with rfl | hpm
    · refine ⟨?_, fun hm => absurd (hol _ hm) (by simp), h1.size, ?_⟩
      · cases hs : S w.heap.size with
        | none => rfl
        | some q =>
          have := h3 _ _ hs
          simp only [hp] at this
          have := (Array.getElem?_eq_some_iff.1 this).1
          omega
      · simp only
        rw [hh, Array.getElem?_push, if_pos rfl]
    · obtain ⟨p1, p2, p3, p4⟩ := hL p hpm
      exact ⟨p1, p2, p3, by rw [hk p.1 (hlt p hpm)]; exact p4⟩

theorem BSt.put {p : Nat} {cs : Array Value} {E : Nat} (h : BSt t w0 S0 ob0 bf w x ((p, cs, E) :: L)) (hd : ∀ q ∈ L, q.1 ≠ p) {w' : World} {cs' : Array Value} (hw : w' = setObj' w p (.cells cs' E (0, 0))) : BSt t w0 S0 ob0 bf w' x ((p, cs', E) :: L) := by
  obtain ⟨S, o, h1, h2, h3, h4, h5, h6, h7, hL⟩ := h
  obtain ⟨q1, q2, q3, q4⟩ := hL (p, cs, E) (List.mem_cons_self ..)
  simp only at q1 q2 q3 q4
  have hne : ∀ k, k ≠ p → w'.heap[k]? = w.heap[k]? := fun k hk => by
    have := hp_setObj_ne (w := w) (o := .cells cs' E (0, 0)) hk
    rw [hw]; exact this
  have hsz : w'.heap.size = w.heap.size := by rw [hw]; simp [setObj']
  refine ⟨S, o, ⟨by rw [hsz]; exact h1.size, fun k h1' h2' => by rw [hne k (by omega)]; exact h1.same k h1' h2', by rw [hw]; exact h1.tape, by rw [hw]; exact h1.os, by rw [hw]; exact h1.output⟩, h2, fun k q ho => ?_, h4, ?_, h6, h7, fun u hu => ?_⟩
  · have hk : k ≠ p := fun e => by rw [e, q1] at ho; cases ho
    have := h3 k q ho
    simp only [hp] at this ⊢
    rw [hne k hk]
    exact this
  · obtain ⟨b, c1, E', fr, bs, rfl, e1, e2, e3, e4⟩ := h5
    refine ⟨b, c1, E', fr, bs, rfl, e1, ?_, e3, e4.mono (Sub.refl _) _ _ _ _ (fun k hkm => hne k (fun e => q2 (by simp [← e, hkm])))⟩
    simp only [hp] at e2 ⊢
    rw [hne b (fun e => q2 (by simp [← e]))]; exact e2
  · rcases List.mem_cons.1 hu with rfl | hu
    · refine ⟨q1, q2, q3, ?_⟩
      rw [hw]
      exact hp_setObj q4
    · obtain ⟨p1, p2, p3, p4⟩ := hL u (List.mem_cons_of_mem _ hu)
      exact ⟨p1, p2, p3, by rw [hne u.1 (hd u hu)]; exact p4⟩

theorem BSt.setCell {p : Nat} {cs : Array Value} {E : Nat} (h : BSt t w0 S0 ob0 bf w x ((p, cs, E) :: L)) (hd : ∀ q ∈ L, q.1 ≠ p) (i : Nat) (v : Value) :
    BSt t w0 S0 ob0 bf (w.setCell ⟨p, i, none⟩ v) x ((p, cs.setIfInBounds i v, E) :: L) := by
  have hb : hp w p = some (.cells cs E (0, 0)) := by
    obtain ⟨S, o, _, _, _, _, _, _, _, hL⟩ := h
    exact (hL _ (List.mem_cons_self ..)).2.2.2
  exact h.put hd (setCell_eq v hb)

end Go.Lift
