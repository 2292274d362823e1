import Derived.Test.YtbfmhambfonpcaaDoorLgPrRt1
import Derived.Test.YtbfmhambfonpcaaDoorLgW
set_option linter.all false
set_option maxRecDepth 100000
namespace Go.Proofs.YtbfmhambfonpcaaDoorLg
open Go Go.Lift

noncomputable def regex_parser_piece_g1 (N : Nat) (self : regex_parser_alt_Self) (x : denS [(0, .box (.pair .str (.pair (.int .i64) (.pair (.int .i64) .unit)))), (1, .box (.pair (.int .i64) (.pair (.arr 4 (.int .u64)) (.pair (.sl .nod) (.pair (.int .i64) (.pair (.int .i64) .unit)))))), (0, .box (.pair (.int .i64) (.pair (.arr 4 (.int .u64)) (.pair (.sl .nod) (.pair (.int .i64) (.pair (.int .i64) .unit)))))), (0, .box (.pair (.int .i64) (.pair (.arr 4 (.int .u64)) (.pair (.sl .nod) (.pair (.int .i64) (.pair (.int .i64) .unit)))))), (24, .v (.int .u8))]) (K : Ex → List A → Option ((Int × ((List Int) × ((List Tree) × (Int × (Int × Unit))))) × (((List UInt8) × (Int × (Int × Unit))) × Unit))) : Option ((Int × ((List Int) × ((List Tree) × (Int × (Int × Unit))))) × (((List UInt8) × (Int × (Int × Unit))) × Unit)) :=
 regex_parser_piece_p1 N self x.1 x.2.1 x.2.2.1 x.2.2.2.1 x.2.2.2.2.1 (fun a2 => (K .normal (mkS [(0, .box (.pair .str (.pair (.int .i64) (.pair (.int .i64) .unit)))), (1, .box (.pair (.int .i64) (.pair (.arr 4 (.int .u64)) (.pair (.sl .nod) (.pair (.int .i64) (.pair (.int .i64) .unit)))))), (1, .box (.pair (.int .i64) (.pair (.arr 4 (.int .u64)) (.pair (.sl .nod) (.pair (.int .i64) (.pair (.int .i64) .unit))))))] 65 (x.1, x.2.1, a2, ())))) (K (.exit 3) (mkS [(0, .box (.pair .str (.pair (.int .i64) (.pair (.int .i64) .unit)))), (1, .box (.pair (.int .i64) (.pair (.arr 4 (.int .u64)) (.pair (.sl .nod) (.pair (.int .i64) (.pair (.int .i64) .unit)))))), (1, .box (.pair (.int .i64) (.pair (.arr 4 (.int .u64)) (.pair (.sl .nod) (.pair (.int .i64) (.pair (.int .i64) .unit))))))] 65 (x.1, x.2.1, x.2.2.2.1, ()))) (K (.exit 4) (mkS [(0, .box (.pair .str (.pair (.int .i64) (.pair (.int .i64) .unit)))), (1, .box (.pair (.int .i64) (.pair (.arr 4 (.int .u64)) (.pair (.sl .nod) (.pair (.int .i64) (.pair (.int .i64) .unit)))))), (1, .box (.pair (.int .i64) (.pair (.arr 4 (.int .u64)) (.pair (.sl .nod) (.pair (.int .i64) (.pair (.int .i64) .unit))))))] 65 (x.1, x.2.1, x.2.2.2.1, ()))) (K (.exit 5) (mkS [(0, .box (.pair .str (.pair (.int .i64) (.pair (.int .i64) .unit)))), (1, .box (.pair (.int .i64) (.pair (.arr 4 (.int .u64)) (.pair (.sl .nod) (.pair (.int .i64) (.pair (.int .i64) .unit)))))), (0, .box (.pair (.int .i64) (.pair (.arr 4 (.int .u64)) (.pair (.sl .nod) (.pair (.int .i64) (.pair (.int .i64) .unit))))))] 66 (x.1, x.2.1, x.2.2.1, ())))

noncomputable def regex_parser_piece_h1 (N : Nat) (self : regex_parser_alt_Self) : Hd ((Int × ((List Int) × ((List Tree) × (Int × (Int × Unit))))) × (((List UInt8) × (Int × (Int × Unit))) × Unit)) := fun st K => (unS [(0, .box (.pair .str (.pair (.int .i64) (.pair (.int .i64) .unit)))), (1, .box (.pair (.int .i64) (.pair (.arr 4 (.int .u64)) (.pair (.sl .nod) (.pair (.int .i64) (.pair (.int .i64) .unit)))))), (0, .box (.pair (.int .i64) (.pair (.arr 4 (.int .u64)) (.pair (.sl .nod) (.pair (.int .i64) (.pair (.int .i64) .unit)))))), (0, .box (.pair (.int .i64) (.pair (.arr 4 (.int .u64)) (.pair (.sl .nod) (.pair (.int .i64) (.pair (.int .i64) .unit)))))), (24, .v (.int .u8))] 40 (restr [29, 4, 0, 2, 3] 0 st)).bind fun x => regex_parser_piece_g1 N self x K

noncomputable def regex_parser_piece_t1 (N : Nat) (self : regex_parser_alt_Self) : Tab ((Int × ((List Int) × ((List Tree) × (Int × (Int × Unit))))) × (((List UInt8) × (Int × (Int × Unit))) × Unit)) := []

theorem regex_parser_piece_ok1 {N : Nat} {self : regex_parser_alt_Self} {c : Ctx} (hb : Base Go.Proofs.Tryd.prog (regex_parser_piece_E N self) c) : CodeOk Go.Proofs.Tryd.prog c (nodeAt regex_parser_piece_body [0, 0, 0, 0, 0, 0, 0, 0, 1, 0, 1, 1, 1, 1]) (regex_parser_piece_h1 N self) :=
  piece_ok (s := [(0, .box (.pair .str (.pair (.int .i64) (.pair (.int .i64) .unit)))), (1, .box (.pair (.int .i64) (.pair (.arr 4 (.int .u64)) (.pair (.sl .nod) (.pair (.int .i64) (.pair (.int .i64) .unit)))))), (0, .box (.pair (.int .i64) (.pair (.arr 4 (.int .u64)) (.pair (.sl .nod) (.pair (.int .i64) (.pair (.int .i64) .unit)))))), (0, .box (.pair (.int .i64) (.pair (.arr 4 (.int .u64)) (.pair (.sl .nod) (.pair (.int .i64) (.pair (.int .i64) .unit)))))), (24, .v (.int .u8))]) (m := 40) (g := regex_parser_piece_g1 N self) [29, 4, 0, 2, 3] (evN_sound hb N (regex_parser_piece_t1 N self) regex_parser_piece_L regex_parser_piece_body TabOk.nil [0, 0, 0, 0, 0, 0, 0, 0, 1, 0, 1, 1, 1, 1] _ rfl) (fun x K => by kernel_rfl)

noncomputable def regex_parser_piece (N : Nat) (self : regex_parser_alt_Self) (p : ((List UInt8) × (Int × (Int × Unit)))) : Option ((Int × ((List Int) × ((List Tree) × (Int × (Int × Unit))))) × (((List UInt8) × (Int × (Int × Unit))) × Unit)) :=
 (regex_parser_atom N self p).bind fun y =>
 cond (y.2.1.2.1 == (((List.length y.2.1.1) : Nat) : Int))
 (some (y.1, (y.2.1, ())))
 (cond (Go.Lift.inR y.2.1.2.1 (List.length y.2.1.1))
 (regex_parser_piece_p1 N self y.2.1 ((0 : Int), (([(0 : Int), (0 : Int), (0 : Int), (0 : Int)] : List Int), (([] : List Go.Lift.Tree), ((0 : Int), ((0 : Int), ()))))) y.1 ((4 : Int), (([(0 : Int), (0 : Int), (0 : Int), (0 : Int)] : List Int), ((List.map Go.Lift.foN ([y.1] : List (Int × ((List Int) × ((List Go.Lift.Tree) × (Int × (Int × Unit))))))), ((0 : Int), ((-(1 : Int)), ()))))) (((UInt8.toNat (List.getD y.2.1.1 (Int.toNat y.2.1.2.1) (0 : UInt8))) : Nat) : Int)
 (fun rep => some (rep, ((y.2.1.1, ((Go.IntKind.wrap Go.IntKind.i64 (y.2.1.2.1 + (1 : Int))), y.2.1.2.2)), ())))
 (some (((4 : Int), (([(0 : Int), (0 : Int), (0 : Int), (0 : Int)] : List Int), ((List.map Go.Lift.foN ([y.1] : List (Int × ((List Int) × ((List Go.Lift.Tree) × (Int × (Int × Unit))))))), ((0 : Int), ((1 : Int), ()))))), ((y.2.1.1, ((Go.IntKind.wrap Go.IntKind.i64 (y.2.1.2.1 + (1 : Int))), y.2.1.2.2)), ())))
 ((regex_parser_braces N (y.2.1.1, ((Go.IntKind.wrap Go.IntKind.i64 (y.2.1.2.1 + (1 : Int))), y.2.1.2.2))).bind fun y1 =>
 some (((4 : Int), (([(0 : Int), (0 : Int), (0 : Int), (0 : Int)] : List Int), ((List.map Go.Lift.foN ([y.1] : List (Int × ((List Int) × ((List Go.Lift.Tree) × (Int × (Int × Unit))))))), (y1.1.1, (y1.1.2.1, ()))))), (y1.2.1, ())))
 (some (y.1, (y.2.1, ()))))
 (none))

noncomputable def regex_parser_piece_t (N : Nat) (self : regex_parser_alt_Self) : Tab ((Int × ((List Int) × ((List Tree) × (Int × (Int × Unit))))) × (((List UInt8) × (Int × (Int × Unit))) × Unit)) := [([0, 0, 0, 0, 0, 0, 0, 0, 1, 0, 1, 1, 1, 1], regex_parser_piece_h1 N self)]

theorem regex_parser_piece_link (N : Nat) (self : regex_parser_alt_Self) (x : denS [(0, .box (.pair .str (.pair (.int .i64) (.pair (.int .i64) .unit))))]) : evFX (regex_parser_piece_E N self) N (regex_parser_piece_t N self) regex_parser_piece_L Go.Proofs.Tryd.f32 (mkS [(0, .box (.pair .str (.pair (.int .i64) (.pair (.int .i64) .unit))))] 0 x) (kResB (.v (.pair (.int .i64) (.pair (.arr 4 (.int .u64)) (.pair (.sl .nod) (.pair (.int .i64) (.pair (.int .i64) .unit)))))) [(0, .box (.pair .str (.pair (.int .i64) (.pair (.int .i64) .unit))))] 0) = regex_parser_piece N self x.1 := by kernel_rfl

noncomputable def regex_parser_piece_res (N : Nat) (self : regex_parser_alt_Self) : List A → Res := resOf [(0, .box (.pair .str (.pair (.int .i64) (.pair (.int .i64) .unit))))] (fun x => regex_parser_piece N self x.1) (oResB (.v (.pair (.int .i64) (.pair (.arr 4 (.int .u64)) (.pair (.sl .nod) (.pair (.int .i64) (.pair (.int .i64) .unit)))))) [(0, .box (.pair .str (.pair (.int .i64) (.pair (.int .i64) .unit))))] 0)

theorem regex_parser_piece_ct (N : Nat) (self : regex_parser_alt_Self) (hself : Contract Go.Proofs.Tryd.prog glob 19 (resOf [(0, .box (.pair .str (.pair (.int .i64) (.pair (.int .i64) .unit))))] (fun x => self x.1) (oResB (.v (.pair (.int .i64) (.pair (.arr 4 (.int .u64)) (.pair (.sl .nod) (.pair (.int .i64) (.pair (.int .i64) .unit)))))) [(0, .box (.pair .str (.pair (.int .i64) (.pair (.int .i64) .unit))))] 0))) : Contract Go.Proofs.Tryd.prog glob 32 (regex_parser_piece_res N self) :=
  Contract.of (E := regex_parser_piece_E N self) (H := regex_parser_piece_t N self) (L := regex_parser_piece_L) (N := N) (body := regex_parser_piece_body) (K := (kResB (.v (.pair (.int .i64) (.pair (.arr 4 (.int .u64)) (.pair (.sl .nod) (.pair (.int .i64) (.pair (.int .i64) .unit)))))) [(0, .box (.pair .str (.pair (.int .i64) (.pair (.int .i64) .unit))))] 0)) (regex_parser_piece_Eok N self hself) Go.Proofs.Tryd.func32 (by kernel_rfl) (by decide) (fun _ hb => (TabOk.cons (regex_parser_piece_ok1 hb) TabOk.nil)) (fun x y h => by rw [regex_parser_piece_link]; exact h) (kResB_ok (s := (.v (.pair (.int .i64) (.pair (.arr 4 (.int .u64)) (.pair (.sl .nod) (.pair (.int .i64) (.pair (.int .i64) .unit))))))) (os := [(0, .box (.pair .str (.pair (.int .i64) (.pair (.int .i64) .unit))))]) (m := 0))

noncomputable def regex_join_body : Code := (Go.Proofs.Tryd.f27.body).getD .skip

noncomputable def regex_join_L : List (List Nat × List Nat) := [([0], [1, 0, 4]), ([0, 1], [1, 0, 5, 4]), ([0, 0, 1, 1], [10, 9, 8, 0, 5, 4]), ([0, 1, 0, 1, 1], [10, 9, 8, 0, 5, 4]), ([0, 0, 0, 1, 0, 1, 1], [11, 8, 10, 0, 5, 9, 4]), ([0, 1, 0, 0, 1, 0, 1, 1], [8, 10, 0, 5, 9, 4]), ([1, 0, 1, 0, 0, 1, 0, 1, 1], [5, 4, 0]), ([0, 0, 0, 1, 1, 0, 0, 1, 0, 1, 1], [7, 0, 5, 10, 9, 8, 4]), ([0, 1, 0, 0, 1, 1, 0, 0, 1, 0, 1, 1], [17, 5, 7, 10, 9, 8, 0, 4]), ([1, 1, 0, 0, 1, 1, 0, 0, 1, 0, 1, 1], [10, 9, 8, 0, 5, 4]), ([1, 1, 1, 0, 0, 1, 1, 0, 0, 1, 0, 1, 1], [10, 9, 8, 0, 5, 4]), ([0, 1, 1, 0, 0, 1, 1, 0, 0, 1, 0, 1, 1], [10, 9, 8, 0, 5, 4]), ([0, 1, 1, 0, 0, 1, 0, 1, 1], [10, 9, 8, 0, 5, 4]), ([1, 1, 1, 0, 0, 1, 0, 1, 1], [10, 9, 8, 0, 5, 4]), ([1, 0, 1, 1], [5, 4, 0]), ([0, 0, 1, 1, 1], [29, 5, 4, 0]), ([1, 0, 1, 1, 1], [0, 5, 4]), ([0, 0, 1, 0, 1, 1, 1], [4]), ([1, 0, 1, 0, 1, 1, 1], [4]), ([0, 1, 1, 1, 1], [4]), ([1, 1, 1, 1, 1], [4])]

noncomputable def regex_join_E (N : Nat) : Env := mkEnv tys glob [] [(5, (.pair (.int .i64) (.pair (.arr 4 (.int .u64)) (.pair (.sl .nod) (.pair (.int .i64) (.pair (.int .i64) .unit))))))] [] [] false [] []

theorem regex_join_Eok (N : Nat) : EnvOk Go.Proofs.Tryd.prog (regex_join_E N) := mkEnv_ok mixed tys_ok (FnsOk.nil) (ItsOk.nil)

noncomputable def regex_join_s1 (N : Nat) (kind : Int) (x4 : (Int × ((List Int) × ((List Tree) × (Int × (Int × Unit)))))) (x8 : (List Tree)) (x9 : Int) (kids : (List (Int × ((List Int) × ((List Tree) × (Int × (Int × Unit))))))) (x10 : Int) (rec : (List (Int × ((List Int) × ((List Tree) × (Int × (Int × Unit)))))) → Int → Option (Int × ((List Int) × ((List Tree) × (Int × (Int × Unit)))))) (k0 : (List (Int × ((List Int) × ((List Tree) × (Int × (Int × Unit)))))) → Option (Int × ((List Int) × ((List Tree) × (Int × (Int × Unit)))))) : Option (Int × ((List Int) × ((List Tree) × (Int × (Int × Unit))))) :=
 cond (decide (x10 < x9))
 (cond (Go.Lift.inR x10 (List.length x8))
 (cond ((Go.Lift.unN (List.getD x8 (Int.toNat x10) (Go.Lift.Tree.mk (0 : Int) ([] : List Int) ([] : List Go.Lift.Tree) (0 : Int) (0 : Int)))).1 == kind)
 (cond (decide ((((List.length kids) + (List.length (List.map Go.Lift.unN (Go.Lift.unN (List.getD x8 (Int.toNat x10) (Go.Lift.Tree.mk (0 : Int) ([] : List Int) ([] : List Go.Lift.Tree) (0 : Int) (0 : Int)))).2.2.1))) * 80) ≤ 70368744177664))
 (rec (kids ++ (List.map Go.Lift.unN (Go.Lift.unN (List.getD x8 (Int.toNat x10) (Go.Lift.Tree.mk (0 : Int) ([] : List Int) ([] : List Go.Lift.Tree) (0 : Int) (0 : Int)))).2.2.1)) (Go.IntKind.wrap Go.IntKind.i64 (x10 + (1 : Int))))
 (none))
 (cond (decide ((((List.length kids) + 1) * 80) ≤ 70368744177664))
 (rec (kids ++ ([(Go.Lift.unN (List.getD x8 (Int.toNat x10) (Go.Lift.Tree.mk (0 : Int) ([] : List Int) ([] : List Go.Lift.Tree) (0 : Int) (0 : Int))))] : List (Int × ((List Int) × ((List Go.Lift.Tree) × (Int × (Int × Unit))))))) (Go.IntKind.wrap Go.IntKind.i64 (x10 + (1 : Int))))
 (none)))
 (none))
 (k0 kids)

noncomputable def regex_join_p1 (N : Nat) (kind : Int) (x4 : (Int × ((List Int) × ((List Tree) × (Int × (Int × Unit)))))) (kids : (List (Int × ((List Int) × ((List Tree) × (Int × (Int × Unit))))))) (x8 : (List Tree)) (x9 : Int) (x10 : Int) (k0 : (List (Int × ((List Int) × ((List Tree) × (Int × (Int × Unit)))))) → Option (Int × ((List Int) × ((List Tree) × (Int × (Int × Unit)))))) : Option (Int × ((List Int) × ((List Tree) × (Int × (Int × Unit))))) :=
 iter (fun (v : ((List (Int × ((List Int) × ((List Tree) × (Int × (Int × Unit)))))) × Int)) r => regex_join_s1 N kind x4 x8 x9 v.1 v.2 (fun kids x10 => (r (kids, x10))) k0) N (kids, x10)

noncomputable def regex_join_g1 (N : Nat) (i : (Int × (Int × ((List Int) × ((List Tree) × (Int × (Int × Unit))))) × (List Tree) × Int)) (v : ((List (Int × ((List Int) × ((List Tree) × (Int × (Int × Unit)))))) × Int)) (r : ((List (Int × ((List Int) × ((List Tree) × (Int × (Int × Unit)))))) × Int) → Option (Int × ((List Int) × ((List Tree) × (Int × (Int × Unit)))))) (K : Ex → List A → Option (Int × ((List Int) × ((List Tree) × (Int × (Int × Unit)))))) : Option (Int × ((List Int) × ((List Tree) × (Int × (Int × Unit))))) :=
 regex_join_s1 N i.1 i.2.1 i.2.2.1 i.2.2.2 v.1 v.2 (fun kids x10 => (r (kids, x10))) (fun a2 => (K (.exit 0) (mkS [(0, .v (.int .i64)), (3, .box (.pair (.int .i64) (.pair (.arr 4 (.int .u64)) (.pair (.sl .nod) (.pair (.int .i64) (.pair (.int .i64) .unit)))))), (0, .row (.pair (.int .i64) (.pair (.arr 4 (.int .u64)) (.pair (.sl .nod) (.pair (.int .i64) (.pair (.int .i64) .unit))))))] 30 (i.1, i.2.1, a2, ()))))

noncomputable def regex_join_h1 (N : Nat) : Hd (Int × ((List Int) × ((List Tree) × (Int × (Int × Unit))))) := fun st K => (unS [(0, .v (.int .i64)), (3, .box (.pair (.int .i64) (.pair (.arr 4 (.int .u64)) (.pair (.sl .nod) (.pair (.int .i64) (.pair (.int .i64) .unit)))))), (0, .row (.pair (.int .i64) (.pair (.arr 4 (.int .u64)) (.pair (.sl .nod) (.pair (.int .i64) (.pair (.int .i64) .unit)))))), (2, .v (.sl .nod)), (0, .v (.int .i64)), (0, .v (.int .i64))] 25 (restr [10, 9, 8, 0, 5, 4] 0 st)).bind fun x => iter (fun v r => regex_join_g1 N ((fun x => (x.1, x.2.1, x.2.2.2.1, x.2.2.2.2.1)) x) v r K) N ((fun x => (x.2.2.1, x.2.2.2.2.2.1)) x)

noncomputable def regex_join_t1 (N : Nat) : Tab (Int × ((List Int) × ((List Tree) × (Int × (Int × Unit))))) := []

theorem regex_join_ok1 {N : Nat} {c : Ctx} (hb : Base Go.Proofs.Tryd.prog (regex_join_E N) c) : CodeOk Go.Proofs.Tryd.prog c (nodeAt regex_join_body [0, 1, 0, 1, 1]) (regex_join_h1 N) :=
  loop_ok (s := [(0, .v (.int .i64)), (3, .box (.pair (.int .i64) (.pair (.arr 4 (.int .u64)) (.pair (.sl .nod) (.pair (.int .i64) (.pair (.int .i64) .unit)))))), (0, .row (.pair (.int .i64) (.pair (.arr 4 (.int .u64)) (.pair (.sl .nod) (.pair (.int .i64) (.pair (.int .i64) .unit)))))), (2, .v (.sl .nod)), (0, .v (.int .i64)), (0, .v (.int .i64))]) (m := 25) (regex_join_g1 N) [10, 9, 8, 0, 5, 4] N (fun x => (x.1, x.2.1, x.2.2.2.1, x.2.2.2.2.1)) (fun x => (x.2.2.1, x.2.2.2.2.2.1)) (fun i v => (i.1, i.2.1, v.1, i.2.2.1, i.2.2.2, v.2, ())) (fun _ => rfl) (evN_sound hb N (regex_join_t1 N) regex_join_L regex_join_body TabOk.nil [0, 0, 1, 0, 1, 1] _ rfl) (fun i v r K => by kernel_rfl)

noncomputable def regex_join (N : Nat) (kind : Int) (parts : (List Tree)) : Option (Int × ((List Int) × ((List Tree) × (Int × (Int × Unit))))) :=
 regex_join_p1 N kind ((0 : Int), (([(0 : Int), (0 : Int), (0 : Int), (0 : Int)] : List Int), (([] : List Go.Lift.Tree), ((0 : Int), ((0 : Int), ()))))) ([] : List (Int × ((List Int) × ((List Go.Lift.Tree) × (Int × (Int × Unit)))))) parts (((List.length parts) : Nat) : Int) (0 : Int)
 (fun kids => cond ((((List.length kids) : Nat) : Int) == (1 : Int))
 (cond (Go.Lift.inR (0 : Int) (List.length kids))
 (cond (decide (0 < (List.length kids)))
 (some (List.getD kids 0 ((0 : Int), (([] : List Int), (([] : List Go.Lift.Tree), ((0 : Int), ((0 : Int), ())))))))
 (none))
 (none))
 (some (kind, (([(0 : Int), (0 : Int), (0 : Int), (0 : Int)] : List Int), ((List.map Go.Lift.foN kids), ((0 : Int), ((0 : Int), ())))))))

noncomputable def regex_join_t (N : Nat) : Tab (Int × ((List Int) × ((List Tree) × (Int × (Int × Unit))))) := [([0, 1, 0, 1, 1], regex_join_h1 N)]

theorem regex_join_link (N : Nat) (x : denS [(0, .v (.int .i64)), (0, .v (.sl .nod))]) : evFX (regex_join_E N) N (regex_join_t N) regex_join_L Go.Proofs.Tryd.f27 (mkS [(0, .v (.int .i64)), (0, .v (.sl .nod))] 0 x) (kRes (.v (.pair (.int .i64) (.pair (.arr 4 (.int .u64)) (.pair (.sl .nod) (.pair (.int .i64) (.pair (.int .i64) .unit)))))) 2) = regex_join N x.1 x.2.1 := by kernel_rfl

noncomputable def regex_join_res (N : Nat) : List A → Res := resOf [(0, .v (.int .i64)), (0, .v (.sl .nod))] (fun x => regex_join N x.1 x.2.1) (oRes (.v (.pair (.int .i64) (.pair (.arr 4 (.int .u64)) (.pair (.sl .nod) (.pair (.int .i64) (.pair (.int .i64) .unit)))))) 2)

theorem regex_join_ct (N : Nat) : Contract Go.Proofs.Tryd.prog glob 27 (regex_join_res N) :=
  Contract.of (E := regex_join_E N) (H := regex_join_t N) (L := regex_join_L) (N := N) (body := regex_join_body) (K := (kRes (.v (.pair (.int .i64) (.pair (.arr 4 (.int .u64)) (.pair (.sl .nod) (.pair (.int .i64) (.pair (.int .i64) .unit)))))) 2)) (regex_join_Eok N) Go.Proofs.Tryd.func27 (by kernel_rfl) (by decide) (fun _ hb => (TabOk.cons (regex_join_ok1 hb) TabOk.nil)) (fun x y h => by rw [regex_join_link]; exact h) (kRes_ok (s := (.v (.pair (.int .i64) (.pair (.arr 4 (.int .u64)) (.pair (.sl .nod) (.pair (.int .i64) (.pair (.int .i64) .unit))))))) (m := 2))

noncomputable def regex_parser_cat_body : Code := (Go.Proofs.Tryd.f25.body).getD .skip

noncomputable def regex_parser_cat_L : List (List Nat × List Nat) := [([0], [0, 2]), ([0, 1], [0, 3, 2]), ([0, 0, 1, 1], [0, 3, 2]), ([0, 0, 0, 0, 0, 1, 1], [37, 3, 0, 2]), ([1, 0, 0, 0, 0, 1, 1], [3, 0, 2]), ([1, 1, 0, 0, 0, 0, 1, 1], [3, 2, 0]), ([0, 1, 0, 0, 0, 1, 1], [0, 3, 2]), ([1, 0, 0, 0, 1, 1], [0, 3, 2]), ([0, 1, 1], [3, 2, 0]), ([0, 1, 1, 1], [2, 0]), ([1, 1, 1, 1], [2, 0])]

noncomputable def regex_parser_cat_E (N : Nat) (self : regex_parser_alt_Self) : Env := mkEnv tys glob [(27, regex_join_res N), (32, regex_parser_piece_res N self), (19, resOf [(0, .box (.pair .str (.pair (.int .i64) (.pair (.int .i64) .unit))))] (fun x => self x.1) (oResB (.v (.pair (.int .i64) (.pair (.arr 4 (.int .u64)) (.pair (.sl .nod) (.pair (.int .i64) (.pair (.int .i64) .unit)))))) [(0, .box (.pair .str (.pair (.int .i64) (.pair (.int .i64) .unit))))] 0))] [(3, (.pair (.int .i64) (.pair (.arr 4 (.int .u64)) (.pair (.sl .nod) (.pair (.int .i64) (.pair (.int .i64) .unit))))))] [] [0] false [] []

theorem regex_parser_cat_Eok (N : Nat) (self : regex_parser_alt_Self) (hself : Contract Go.Proofs.Tryd.prog glob 19 (resOf [(0, .box (.pair .str (.pair (.int .i64) (.pair (.int .i64) .unit))))] (fun x => self x.1) (oResB (.v (.pair (.int .i64) (.pair (.arr 4 (.int .u64)) (.pair (.sl .nod) (.pair (.int .i64) (.pair (.int .i64) .unit)))))) [(0, .box (.pair .str (.pair (.int .i64) (.pair (.int .i64) .unit))))] 0))) : EnvOk Go.Proofs.Tryd.prog (regex_parser_cat_E N self) := mkEnv_ok mixed tys_ok (FnsOk.cons (regex_join_ct N) (FnsOk.cons (regex_parser_piece_ct N self hself) (FnsOk.cons (hself) (FnsOk.nil)))) (ItsOk.nil)

noncomputable def regex_parser_cat_p3 (N : Nat) (self : regex_parser_alt_Self) (p : ((List UInt8) × (Int × (Int × Unit)))) (x2 : (Int × ((List Int) × ((List Tree) × (Int × (Int × Unit)))))) (parts : (List (Int × ((List Int) × ((List Tree) × (Int × (Int × Unit))))))) (k0 : Option ((Int × ((List Int) × ((List Tree) × (Int × (Int × Unit))))) × (((List UInt8) × (Int × (Int × Unit))) × Unit))) (k1 : Option ((Int × ((List Int) × ((List Tree) × (Int × (Int × Unit))))) × (((List UInt8) × (Int × (Int × Unit))) × Unit))) : Option ((Int × ((List Int) × ((List Tree) × (Int × (Int × Unit))))) × (((List UInt8) × (Int × (Int × Unit))) × Unit)) :=
 cond (decide (p.2.1 < (((List.length p.1) : Nat) : Int)))
 (cond (Go.Lift.inR p.2.1 (List.length p.1))
 (cond ((((UInt8.toNat (List.getD p.1 (Int.toNat p.2.1) (0 : UInt8))) : Nat) : Int) != (124 : Int))
 (cond (Go.Lift.inR p.2.1 (List.length p.1))
 (cond ((((UInt8.toNat (List.getD p.1 (Int.toNat p.2.1) (0 : UInt8))) : Nat) : Int) != (41 : Int))
 (k0)
 (k1))
 (none))
 (k1))
 (none))
 (k1)

noncomputable def regex_parser_cat_g3 (N : Nat) (self : regex_parser_alt_Self) (x : denS [(0, .box (.pair .str (.pair (.int .i64) (.pair (.int .i64) .unit)))), (1, .box (.pair (.int .i64) (.pair (.arr 4 (.int .u64)) (.pair (.sl .nod) (.pair (.int .i64) (.pair (.int .i64) .unit)))))), (0, .row (.pair (.int .i64) (.pair (.arr 4 (.int .u64)) (.pair (.sl .nod) (.pair (.int .i64) (.pair (.int .i64) .unit))))))]) (K : Ex → List A → Option ((Int × ((List Int) × ((List Tree) × (Int × (Int × Unit))))) × (((List UInt8) × (Int × (Int × Unit))) × Unit))) : Option ((Int × ((List Int) × ((List Tree) × (Int × (Int × Unit))))) × (((List UInt8) × (Int × (Int × Unit))) × Unit)) :=
 regex_parser_cat_p3 N self x.1 x.2.1 x.2.2.1 (K .normal (mkS [(0, .box (.pair .str (.pair (.int .i64) (.pair (.int .i64) .unit)))), (1, .box (.pair (.int .i64) (.pair (.arr 4 (.int .u64)) (.pair (.sl .nod) (.pair (.int .i64) (.pair (.int .i64) .unit)))))), (0, .row (.pair (.int .i64) (.pair (.arr 4 (.int .u64)) (.pair (.sl .nod) (.pair (.int .i64) (.pair (.int .i64) .unit))))))] 41 (x.1, x.2.1, x.2.2.1, ()))) (K (.exit 0) (mkS [(0, .box (.pair .str (.pair (.int .i64) (.pair (.int .i64) .unit)))), (1, .box (.pair (.int .i64) (.pair (.arr 4 (.int .u64)) (.pair (.sl .nod) (.pair (.int .i64) (.pair (.int .i64) .unit)))))), (0, .row (.pair (.int .i64) (.pair (.arr 4 (.int .u64)) (.pair (.sl .nod) (.pair (.int .i64) (.pair (.int .i64) .unit))))))] 41 (x.1, x.2.1, x.2.2.1, ())))

noncomputable def regex_parser_cat_h3 (N : Nat) (self : regex_parser_alt_Self) : Hd ((Int × ((List Int) × ((List Tree) × (Int × (Int × Unit))))) × (((List UInt8) × (Int × (Int × Unit))) × Unit)) := fun st K => (unS [(0, .box (.pair .str (.pair (.int .i64) (.pair (.int .i64) .unit)))), (1, .box (.pair (.int .i64) (.pair (.arr 4 (.int .u64)) (.pair (.sl .nod) (.pair (.int .i64) (.pair (.int .i64) .unit)))))), (0, .row (.pair (.int .i64) (.pair (.arr 4 (.int .u64)) (.pair (.sl .nod) (.pair (.int .i64) (.pair (.int .i64) .unit))))))] 41 (restr [0, 3, 2] 0 st)).bind fun x => regex_parser_cat_g3 N self x K

noncomputable def regex_parser_cat_t3 (N : Nat) (self : regex_parser_alt_Self) : Tab ((Int × ((List Int) × ((List Tree) × (Int × (Int × Unit))))) × (((List UInt8) × (Int × (Int × Unit))) × Unit)) := []

theorem regex_parser_cat_ok3 {N : Nat} {self : regex_parser_alt_Self} {c : Ctx} (hb : Base Go.Proofs.Tryd.prog (regex_parser_cat_E N self) c) : CodeOk Go.Proofs.Tryd.prog c (nodeAt regex_parser_cat_body [0, 0, 0, 0, 1, 1]) (regex_parser_cat_h3 N self) :=
  piece_ok (s := [(0, .box (.pair .str (.pair (.int .i64) (.pair (.int .i64) .unit)))), (1, .box (.pair (.int .i64) (.pair (.arr 4 (.int .u64)) (.pair (.sl .nod) (.pair (.int .i64) (.pair (.int .i64) .unit)))))), (0, .row (.pair (.int .i64) (.pair (.arr 4 (.int .u64)) (.pair (.sl .nod) (.pair (.int .i64) (.pair (.int .i64) .unit))))))]) (m := 41) (g := regex_parser_cat_g3 N self) [0, 3, 2] (evN_sound hb N (regex_parser_cat_t3 N self) regex_parser_cat_L regex_parser_cat_body TabOk.nil [0, 0, 0, 0, 1, 1] _ rfl) (fun x K => by kernel_rfl)

noncomputable def regex_parser_cat_s2 (N : Nat) (self : regex_parser_alt_Self) (x2 : (Int × ((List Int) × ((List Tree) × (Int × (Int × Unit)))))) (p : ((List UInt8) × (Int × (Int × Unit)))) (parts : (List (Int × ((List Int) × ((List Tree) × (Int × (Int × Unit))))))) (rec : ((List UInt8) × (Int × (Int × Unit))) → (List (Int × ((List Int) × ((List Tree) × (Int × (Int × Unit)))))) → Option ((Int × ((List Int) × ((List Tree) × (Int × (Int × Unit))))) × (((List UInt8) × (Int × (Int × Unit))) × Unit))) (k0 : ((List UInt8) × (Int × (Int × Unit))) → (List (Int × ((List Int) × ((List Tree) × (Int × (Int × Unit)))))) → Option ((Int × ((List Int) × ((List Tree) × (Int × (Int × Unit))))) × (((List UInt8) × (Int × (Int × Unit))) × Unit))) : Option ((Int × ((List Int) × ((List Tree) × (Int × (Int × Unit))))) × (((List UInt8) × (Int × (Int × Unit))) × Unit)) :=
 regex_parser_cat_p3 N self p x2 parts
 ((regex_parser_piece N self p).bind fun y =>
 cond (decide ((((List.length parts) + 1) * 80) ≤ 70368744177664))
 (rec y.2.1 (parts ++ ([y.1] : List (Int × ((List Int) × ((List Go.Lift.Tree) × (Int × (Int × Unit))))))))
 (none))
 (k0 p parts)

noncomputable def regex_parser_cat_p2 (N : Nat) (self : regex_parser_alt_Self) (p : ((List UInt8) × (Int × (Int × Unit)))) (x2 : (Int × ((List Int) × ((List Tree) × (Int × (Int × Unit)))))) (parts : (List (Int × ((List Int) × ((List Tree) × (Int × (Int × Unit))))))) (k0 : ((List UInt8) × (Int × (Int × Unit))) → (List (Int × ((List Int) × ((List Tree) × (Int × (Int × Unit)))))) → Option ((Int × ((List Int) × ((List Tree) × (Int × (Int × Unit))))) × (((List UInt8) × (Int × (Int × Unit))) × Unit))) : Option ((Int × ((List Int) × ((List Tree) × (Int × (Int × Unit))))) × (((List UInt8) × (Int × (Int × Unit))) × Unit)) :=
 iter (fun (v : (((List UInt8) × (Int × (Int × Unit))) × (List (Int × ((List Int) × ((List Tree) × (Int × (Int × Unit)))))))) r => regex_parser_cat_s2 N self x2 v.1 v.2 (fun p parts => (r (p, parts))) k0) N (p, parts)

noncomputable def regex_parser_cat_g2 (N : Nat) (self : regex_parser_alt_Self) (i : (Int × ((List Int) × ((List Tree) × (Int × (Int × Unit)))))) (v : (((List UInt8) × (Int × (Int × Unit))) × (List (Int × ((List Int) × ((List Tree) × (Int × (Int × Unit)))))))) (r : (((List UInt8) × (Int × (Int × Unit))) × (List (Int × ((List Int) × ((List Tree) × (Int × (Int × Unit))))))) → Option ((Int × ((List Int) × ((List Tree) × (Int × (Int × Unit))))) × (((List UInt8) × (Int × (Int × Unit))) × Unit))) (K : Ex → List A → Option ((Int × ((List Int) × ((List Tree) × (Int × (Int × Unit))))) × (((List UInt8) × (Int × (Int × Unit))) × Unit))) : Option ((Int × ((List Int) × ((List Tree) × (Int × (Int × Unit))))) × (((List UInt8) × (Int × (Int × Unit))) × Unit)) :=
 regex_parser_cat_s2 N self i v.1 v.2 (fun p parts => (r (p, parts))) (fun a0 a2 => (K (.exit 0) (mkS [(0, .box (.pair .str (.pair (.int .i64) (.pair (.int .i64) .unit)))), (1, .box (.pair (.int .i64) (.pair (.arr 4 (.int .u64)) (.pair (.sl .nod) (.pair (.int .i64) (.pair (.int .i64) .unit)))))), (0, .row (.pair (.int .i64) (.pair (.arr 4 (.int .u64)) (.pair (.sl .nod) (.pair (.int .i64) (.pair (.int .i64) .unit))))))] 41 (a0, i, a2, ()))))

noncomputable def regex_parser_cat_h2 (N : Nat) (self : regex_parser_alt_Self) : Hd ((Int × ((List Int) × ((List Tree) × (Int × (Int × Unit))))) × (((List UInt8) × (Int × (Int × Unit))) × Unit)) := fun st K => (unS [(0, .box (.pair .str (.pair (.int .i64) (.pair (.int .i64) .unit)))), (1, .box (.pair (.int .i64) (.pair (.arr 4 (.int .u64)) (.pair (.sl .nod) (.pair (.int .i64) (.pair (.int .i64) .unit)))))), (0, .row (.pair (.int .i64) (.pair (.arr 4 (.int .u64)) (.pair (.sl .nod) (.pair (.int .i64) (.pair (.int .i64) .unit))))))] 41 (restr [0, 3, 2] 0 st)).bind fun x => iter (fun v r => regex_parser_cat_g2 N self ((fun x => x.2.1) x) v r K) N ((fun x => (x.1, x.2.2.1)) x)

noncomputable def regex_parser_cat_t2 (N : Nat) (self : regex_parser_alt_Self) : Tab ((Int × ((List Int) × ((List Tree) × (Int × (Int × Unit))))) × (((List UInt8) × (Int × (Int × Unit))) × Unit)) := [([0, 0, 0, 0, 1, 1], regex_parser_cat_h3 N self)]

theorem regex_parser_cat_ok2 {N : Nat} {self : regex_parser_alt_Self} {c : Ctx} (hb : Base Go.Proofs.Tryd.prog (regex_parser_cat_E N self) c) : CodeOk Go.Proofs.Tryd.prog c (nodeAt regex_parser_cat_body [0, 0, 1, 1]) (regex_parser_cat_h2 N self) :=
  loop_ok (s := [(0, .box (.pair .str (.pair (.int .i64) (.pair (.int .i64) .unit)))), (1, .box (.pair (.int .i64) (.pair (.arr 4 (.int .u64)) (.pair (.sl .nod) (.pair (.int .i64) (.pair (.int .i64) .unit)))))), (0, .row (.pair (.int .i64) (.pair (.arr 4 (.int .u64)) (.pair (.sl .nod) (.pair (.int .i64) (.pair (.int .i64) .unit))))))]) (m := 41) (regex_parser_cat_g2 N self) [0, 3, 2] N (fun x => x.2.1) (fun x => (x.1, x.2.2.1)) (fun i v => (v.1, i, v.2, ())) (fun _ => rfl) (evN_sound hb N (regex_parser_cat_t2 N self) regex_parser_cat_L regex_parser_cat_body (TabOk.cons (regex_parser_cat_ok3 hb) TabOk.nil) [0, 0, 0, 1, 1] _ rfl) (fun i v r K => by kernel_rfl)

noncomputable def regex_parser_cat_p1 (N : Nat) (self : regex_parser_alt_Self) (p : ((List UInt8) × (Int × (Int × Unit)))) (x2 : (Int × ((List Int) × ((List Tree) × (Int × (Int × Unit)))))) (parts : (List (Int × ((List Int) × ((List Tree) × (Int × (Int × Unit))))))) (k0 : ((List UInt8) × (Int × (Int × Unit))) → (List (Int × ((List Int) × ((List Tree) × (Int × (Int × Unit)))))) → Option ((Int × ((List Int) × ((List Tree) × (Int × (Int × Unit))))) × (((List UInt8) × (Int × (Int × Unit))) × Unit))) : Option ((Int × ((List Int) × ((List Tree) × (Int × (Int × Unit))))) × (((List UInt8) × (Int × (Int × Unit))) × Unit)) :=
 regex_parser_cat_p2 N self p x2 parts
 (fun p1 parts1 => k0 p1 parts1)

noncomputable def regex_parser_cat_g1 (N : Nat) (self : regex_parser_alt_Self) (x : denS [(0, .box (.pair .str (.pair (.int .i64) (.pair (.int .i64) .unit)))), (1, .box (.pair (.int .i64) (.pair (.arr 4 (.int .u64)) (.pair (.sl .nod) (.pair (.int .i64) (.pair (.int .i64) .unit)))))), (0, .row (.pair (.int .i64) (.pair (.arr 4 (.int .u64)) (.pair (.sl .nod) (.pair (.int .i64) (.pair (.int .i64) .unit))))))]) (K : Ex → List A → Option ((Int × ((List Int) × ((List Tree) × (Int × (Int × Unit))))) × (((List UInt8) × (Int × (Int × Unit))) × Unit))) : Option ((Int × ((List Int) × ((List Tree) × (Int × (Int × Unit))))) × (((List UInt8) × (Int × (Int × Unit))) × Unit)) :=
 regex_parser_cat_p1 N self x.1 x.2.1 x.2.2.1 (fun a0 a2 => (K .normal (mkS [(0, .box (.pair .str (.pair (.int .i64) (.pair (.int .i64) .unit)))), (1, .box (.pair (.int .i64) (.pair (.arr 4 (.int .u64)) (.pair (.sl .nod) (.pair (.int .i64) (.pair (.int .i64) .unit)))))), (0, .row (.pair (.int .i64) (.pair (.arr 4 (.int .u64)) (.pair (.sl .nod) (.pair (.int .i64) (.pair (.int .i64) .unit))))))] 41 (a0, x.2.1, a2, ()))))

noncomputable def regex_parser_cat_h1 (N : Nat) (self : regex_parser_alt_Self) : Hd ((Int × ((List Int) × ((List Tree) × (Int × (Int × Unit))))) × (((List UInt8) × (Int × (Int × Unit))) × Unit)) := fun st K => (unS [(0, .box (.pair .str (.pair (.int .i64) (.pair (.int .i64) .unit)))), (1, .box (.pair (.int .i64) (.pair (.arr 4 (.int .u64)) (.pair (.sl .nod) (.pair (.int .i64) (.pair (.int .i64) .unit)))))), (0, .row (.pair (.int .i64) (.pair (.arr 4 (.int .u64)) (.pair (.sl .nod) (.pair (.int .i64) (.pair (.int .i64) .unit))))))] 41 (restr [0, 3, 2] 0 st)).bind fun x => regex_parser_cat_g1 N self x K

noncomputable def regex_parser_cat_t1 (N : Nat) (self : regex_parser_alt_Self) : Tab ((Int × ((List Int) × ((List Tree) × (Int × (Int × Unit))))) × (((List UInt8) × (Int × (Int × Unit))) × Unit)) := [([0, 0, 1, 1], regex_parser_cat_h2 N self)]

theorem regex_parser_cat_ok1 {N : Nat} {self : regex_parser_alt_Self} {c : Ctx} (hb : Base Go.Proofs.Tryd.prog (regex_parser_cat_E N self) c) : CodeOk Go.Proofs.Tryd.prog c (nodeAt regex_parser_cat_body [0, 1, 1]) (regex_parser_cat_h1 N self) :=
  piece_ok (s := [(0, .box (.pair .str (.pair (.int .i64) (.pair (.int .i64) .unit)))), (1, .box (.pair (.int .i64) (.pair (.arr 4 (.int .u64)) (.pair (.sl .nod) (.pair (.int .i64) (.pair (.int .i64) .unit)))))), (0, .row (.pair (.int .i64) (.pair (.arr 4 (.int .u64)) (.pair (.sl .nod) (.pair (.int .i64) (.pair (.int .i64) .unit))))))]) (m := 41) (g := regex_parser_cat_g1 N self) [0, 3, 2] (evN_sound hb N (regex_parser_cat_t1 N self) regex_parser_cat_L regex_parser_cat_body (TabOk.cons (regex_parser_cat_ok2 hb) TabOk.nil) [0, 1, 1] _ rfl) (fun x K => by kernel_rfl)

noncomputable def regex_parser_cat (N : Nat) (self : regex_parser_alt_Self) (p : ((List UInt8) × (Int × (Int × Unit)))) : Option ((Int × ((List Int) × ((List Tree) × (Int × (Int × Unit))))) × (((List UInt8) × (Int × (Int × Unit))) × Unit)) :=
 regex_parser_cat_p1 N self p ((0 : Int), (([(0 : Int), (0 : Int), (0 : Int), (0 : Int)] : List Int), (([] : List Go.Lift.Tree), ((0 : Int), ((0 : Int), ()))))) ([] : List (Int × ((List Int) × ((List Go.Lift.Tree) × (Int × (Int × Unit))))))
 (fun p1 parts => (regex_join N (2 : Int) (List.map Go.Lift.foN parts)).bind fun y =>
 some (y, (p1, ())))

noncomputable def regex_parser_cat_t (N : Nat) (self : regex_parser_alt_Self) : Tab ((Int × ((List Int) × ((List Tree) × (Int × (Int × Unit))))) × (((List UInt8) × (Int × (Int × Unit))) × Unit)) := [([0, 1, 1], regex_parser_cat_h1 N self)]

theorem regex_parser_cat_link (N : Nat) (self : regex_parser_alt_Self) (x : denS [(0, .box (.pair .str (.pair (.int .i64) (.pair (.int .i64) .unit))))]) : evFX (regex_parser_cat_E N self) N (regex_parser_cat_t N self) regex_parser_cat_L Go.Proofs.Tryd.f25 (mkS [(0, .box (.pair .str (.pair (.int .i64) (.pair (.int .i64) .unit))))] 0 x) (kResB (.v (.pair (.int .i64) (.pair (.arr 4 (.int .u64)) (.pair (.sl .nod) (.pair (.int .i64) (.pair (.int .i64) .unit)))))) [(0, .box (.pair .str (.pair (.int .i64) (.pair (.int .i64) .unit))))] 0) = regex_parser_cat N self x.1 := by kernel_rfl

noncomputable def regex_parser_cat_res (N : Nat) (self : regex_parser_alt_Self) : List A → Res := resOf [(0, .box (.pair .str (.pair (.int .i64) (.pair (.int .i64) .unit))))] (fun x => regex_parser_cat N self x.1) (oResB (.v (.pair (.int .i64) (.pair (.arr 4 (.int .u64)) (.pair (.sl .nod) (.pair (.int .i64) (.pair (.int .i64) .unit)))))) [(0, .box (.pair .str (.pair (.int .i64) (.pair (.int .i64) .unit))))] 0)

theorem regex_parser_cat_ct (N : Nat) (self : regex_parser_alt_Self) (hself : Contract Go.Proofs.Tryd.prog glob 19 (resOf [(0, .box (.pair .str (.pair (.int .i64) (.pair (.int .i64) .unit))))] (fun x => self x.1) (oResB (.v (.pair (.int .i64) (.pair (.arr 4 (.int .u64)) (.pair (.sl .nod) (.pair (.int .i64) (.pair (.int .i64) .unit)))))) [(0, .box (.pair .str (.pair (.int .i64) (.pair (.int .i64) .unit))))] 0))) : Contract Go.Proofs.Tryd.prog glob 25 (regex_parser_cat_res N self) :=
  Contract.of (E := regex_parser_cat_E N self) (H := regex_parser_cat_t N self) (L := regex_parser_cat_L) (N := N) (body := regex_parser_cat_body) (K := (kResB (.v (.pair (.int .i64) (.pair (.arr 4 (.int .u64)) (.pair (.sl .nod) (.pair (.int .i64) (.pair (.int .i64) .unit)))))) [(0, .box (.pair .str (.pair (.int .i64) (.pair (.int .i64) .unit))))] 0)) (regex_parser_cat_Eok N self hself) Go.Proofs.Tryd.func25 (by kernel_rfl) (by decide) (fun _ hb => (TabOk.cons (regex_parser_cat_ok1 hb) TabOk.nil)) (fun x y h => by rw [regex_parser_cat_link]; exact h) (kResB_ok (s := (.v (.pair (.int .i64) (.pair (.arr 4 (.int .u64)) (.pair (.sl .nod) (.pair (.int .i64) (.pair (.int .i64) .unit))))))) (os := [(0, .box (.pair .str (.pair (.int .i64) (.pair (.int .i64) .unit))))]) (m := 0))

noncomputable def regex_parser_alt_body : Code := (Go.Proofs.Tryd.f19.body).getD .skip

noncomputable def regex_parser_alt_L : List (List Nat × List Nat) := [([0], [0, 2]), ([0, 1], [0, 3, 2]), ([0, 0, 1, 1], [0, 3, 2]), ([0, 0, 0, 0, 0, 1, 1], [8, 3, 0, 2]), ([1, 0, 0, 0, 0, 1, 1], [3, 0, 2]), ([1, 1, 0, 0, 0, 0, 1, 1], [3, 2, 0]), ([0, 1, 0, 0, 0, 1, 1], [0, 3, 2]), ([1, 0, 0, 0, 1, 1], [0, 3, 2]), ([0, 1, 1], [3, 2, 0]), ([0, 1, 1, 1], [2, 0]), ([1, 1, 1, 1], [2, 0])]

noncomputable def regex_parser_alt_E (N : Nat) (self : ((List UInt8) × (Int × (Int × Unit))) → Option ((Int × ((List Int) × ((List Tree) × (Int × (Int × Unit))))) × (((List UInt8) × (Int × (Int × Unit))) × Unit))) : Env := mkEnv tys glob [(25, regex_parser_cat_res N self), (27, regex_join_res N), (26, regex_parser_skip_res N), (19, resOf [(0, .box (.pair .str (.pair (.int .i64) (.pair (.int .i64) .unit))))] (fun x => self x.1) (oResB (.v (.pair (.int .i64) (.pair (.arr 4 (.int .u64)) (.pair (.sl .nod) (.pair (.int .i64) (.pair (.int .i64) .unit)))))) [(0, .box (.pair .str (.pair (.int .i64) (.pair (.int .i64) .unit))))] 0))] [(3, (.pair (.int .i64) (.pair (.arr 4 (.int .u64)) (.pair (.sl .nod) (.pair (.int .i64) (.pair (.int .i64) .unit))))))] [] [0] false [] []

theorem regex_parser_alt_Eok (N : Nat) (self : ((List UInt8) × (Int × (Int × Unit))) → Option ((Int × ((List Int) × ((List Tree) × (Int × (Int × Unit))))) × (((List UInt8) × (Int × (Int × Unit))) × Unit))) (hself : Contract Go.Proofs.Tryd.prog glob 19 (resOf [(0, .box (.pair .str (.pair (.int .i64) (.pair (.int .i64) .unit))))] (fun x => self x.1) (oResB (.v (.pair (.int .i64) (.pair (.arr 4 (.int .u64)) (.pair (.sl .nod) (.pair (.int .i64) (.pair (.int .i64) .unit)))))) [(0, .box (.pair .str (.pair (.int .i64) (.pair (.int .i64) .unit))))] 0))) : EnvOk Go.Proofs.Tryd.prog (regex_parser_alt_E N self) := mkEnv_ok mixed tys_ok (FnsOk.cons (regex_parser_cat_ct N self hself) (FnsOk.cons (regex_join_ct N) (FnsOk.cons (regex_parser_skip_ct N) (FnsOk.cons (hself) (FnsOk.nil))))) (ItsOk.nil)

noncomputable def regex_parser_alt_s1 (N : Nat) (self : ((List UInt8) × (Int × (Int × Unit))) → Option ((Int × ((List Int) × ((List Tree) × (Int × (Int × Unit))))) × (((List UInt8) × (Int × (Int × Unit))) × Unit))) (x2 : (Int × ((List Int) × ((List Tree) × (Int × (Int × Unit)))))) (p : ((List UInt8) × (Int × (Int × Unit)))) (parts : (List (Int × ((List Int) × ((List Tree) × (Int × (Int × Unit))))))) (rec : ((List UInt8) × (Int × (Int × Unit))) → (List (Int × ((List Int) × ((List Tree) × (Int × (Int × Unit)))))) → Option ((Int × ((List Int) × ((List Tree) × (Int × (Int × Unit))))) × (((List UInt8) × (Int × (Int × Unit))) × Unit))) (k0 : ((List UInt8) × (Int × (Int × Unit))) → (List (Int × ((List Int) × ((List Tree) × (Int × (Int × Unit)))))) → Option ((Int × ((List Int) × ((List Tree) × (Int × (Int × Unit))))) × (((List UInt8) × (Int × (Int × Unit))) × Unit))) : Option ((Int × ((List Int) × ((List Tree) × (Int × (Int × Unit))))) × (((List UInt8) × (Int × (Int × Unit))) × Unit)) :=
 (regex_parser_skip N p (124 : Int)).bind fun y =>
 cond y.1
 ((regex_parser_cat N self y.2.1).bind fun y1 =>
 cond (decide ((((List.length parts) + 1) * 80) ≤ 70368744177664))
 (rec y1.2.1 (parts ++ ([y1.1] : List (Int × ((List Int) × ((List Go.Lift.Tree) × (Int × (Int × Unit))))))))
 (none))
 (k0 y.2.1 parts)

noncomputable def regex_parser_alt_p1 (N : Nat) (self : ((List UInt8) × (Int × (Int × Unit))) → Option ((Int × ((List Int) × ((List Tree) × (Int × (Int × Unit))))) × (((List UInt8) × (Int × (Int × Unit))) × Unit))) (p : ((List UInt8) × (Int × (Int × Unit)))) (x2 : (Int × ((List Int) × ((List Tree) × (Int × (Int × Unit)))))) (parts : (List (Int × ((List Int) × ((List Tree) × (Int × (Int × Unit))))))) (k0 : ((List UInt8) × (Int × (Int × Unit))) → (List (Int × ((List Int) × ((List Tree) × (Int × (Int × Unit)))))) → Option ((Int × ((List Int) × ((List Tree) × (Int × (Int × Unit))))) × (((List UInt8) × (Int × (Int × Unit))) × Unit))) : Option ((Int × ((List Int) × ((List Tree) × (Int × (Int × Unit))))) × (((List UInt8) × (Int × (Int × Unit))) × Unit)) :=
 iter (fun (v : (((List UInt8) × (Int × (Int × Unit))) × (List (Int × ((List Int) × ((List Tree) × (Int × (Int × Unit)))))))) r => regex_parser_alt_s1 N self x2 v.1 v.2 (fun p parts => (r (p, parts))) k0) N (p, parts)

noncomputable def regex_parser_alt_g1 (N : Nat) (self : ((List UInt8) × (Int × (Int × Unit))) → Option ((Int × ((List Int) × ((List Tree) × (Int × (Int × Unit))))) × (((List UInt8) × (Int × (Int × Unit))) × Unit))) (i : (Int × ((List Int) × ((List Tree) × (Int × (Int × Unit)))))) (v : (((List UInt8) × (Int × (Int × Unit))) × (List (Int × ((List Int) × ((List Tree) × (Int × (Int × Unit)))))))) (r : (((List UInt8) × (Int × (Int × Unit))) × (List (Int × ((List Int) × ((List Tree) × (Int × (Int × Unit))))))) → Option ((Int × ((List Int) × ((List Tree) × (Int × (Int × Unit))))) × (((List UInt8) × (Int × (Int × Unit))) × Unit))) (K : Ex → List A → Option ((Int × ((List Int) × ((List Tree) × (Int × (Int × Unit))))) × (((List UInt8) × (Int × (Int × Unit))) × Unit))) : Option ((Int × ((List Int) × ((List Tree) × (Int × (Int × Unit))))) × (((List UInt8) × (Int × (Int × Unit))) × Unit)) :=
 regex_parser_alt_s1 N self i v.1 v.2 (fun p parts => (r (p, parts))) (fun a0 a2 => (K (.exit 0) (mkS [(0, .box (.pair .str (.pair (.int .i64) (.pair (.int .i64) .unit)))), (1, .box (.pair (.int .i64) (.pair (.arr 4 (.int .u64)) (.pair (.sl .nod) (.pair (.int .i64) (.pair (.int .i64) .unit)))))), (0, .row (.pair (.int .i64) (.pair (.arr 4 (.int .u64)) (.pair (.sl .nod) (.pair (.int .i64) (.pair (.int .i64) .unit))))))] 12 (a0, i, a2, ()))))

noncomputable def regex_parser_alt_h1 (N : Nat) (self : ((List UInt8) × (Int × (Int × Unit))) → Option ((Int × ((List Int) × ((List Tree) × (Int × (Int × Unit))))) × (((List UInt8) × (Int × (Int × Unit))) × Unit))) : Hd ((Int × ((List Int) × ((List Tree) × (Int × (Int × Unit))))) × (((List UInt8) × (Int × (Int × Unit))) × Unit)) := fun st K => (unS [(0, .box (.pair .str (.pair (.int .i64) (.pair (.int .i64) .unit)))), (1, .box (.pair (.int .i64) (.pair (.arr 4 (.int .u64)) (.pair (.sl .nod) (.pair (.int .i64) (.pair (.int .i64) .unit)))))), (0, .row (.pair (.int .i64) (.pair (.arr 4 (.int .u64)) (.pair (.sl .nod) (.pair (.int .i64) (.pair (.int .i64) .unit))))))] 12 (restr [0, 3, 2] 0 st)).bind fun x => iter (fun v r => regex_parser_alt_g1 N self ((fun x => x.2.1) x) v r K) N ((fun x => (x.1, x.2.2.1)) x)

noncomputable def regex_parser_alt_t1 (N : Nat) (self : ((List UInt8) × (Int × (Int × Unit))) → Option ((Int × ((List Int) × ((List Tree) × (Int × (Int × Unit))))) × (((List UInt8) × (Int × (Int × Unit))) × Unit))) : Tab ((Int × ((List Int) × ((List Tree) × (Int × (Int × Unit))))) × (((List UInt8) × (Int × (Int × Unit))) × Unit)) := []

theorem regex_parser_alt_ok1 {N : Nat} {self : ((List UInt8) × (Int × (Int × Unit))) → Option ((Int × ((List Int) × ((List Tree) × (Int × (Int × Unit))))) × (((List UInt8) × (Int × (Int × Unit))) × Unit))} {c : Ctx} (hb : Base Go.Proofs.Tryd.prog (regex_parser_alt_E N self) c) : CodeOk Go.Proofs.Tryd.prog c (nodeAt regex_parser_alt_body [0, 0, 1, 1]) (regex_parser_alt_h1 N self) :=
  loop_ok (s := [(0, .box (.pair .str (.pair (.int .i64) (.pair (.int .i64) .unit)))), (1, .box (.pair (.int .i64) (.pair (.arr 4 (.int .u64)) (.pair (.sl .nod) (.pair (.int .i64) (.pair (.int .i64) .unit)))))), (0, .row (.pair (.int .i64) (.pair (.arr 4 (.int .u64)) (.pair (.sl .nod) (.pair (.int .i64) (.pair (.int .i64) .unit))))))]) (m := 12) (regex_parser_alt_g1 N self) [0, 3, 2] N (fun x => x.2.1) (fun x => (x.1, x.2.2.1)) (fun i v => (v.1, i, v.2, ())) (fun _ => rfl) (evN_sound hb N (regex_parser_alt_t1 N self) regex_parser_alt_L regex_parser_alt_body TabOk.nil [0, 0, 0, 1, 1] _ rfl) (fun i v r K => by kernel_rfl)

noncomputable def regex_parser_alt_F (N : Nat) (self : ((List UInt8) × (Int × (Int × Unit))) → Option ((Int × ((List Int) × ((List Tree) × (Int × (Int × Unit))))) × (((List UInt8) × (Int × (Int × Unit))) × Unit))) (p : ((List UInt8) × (Int × (Int × Unit)))) : Option ((Int × ((List Int) × ((List Tree) × (Int × (Int × Unit))))) × (((List UInt8) × (Int × (Int × Unit))) × Unit)) :=
 (regex_parser_cat N self p).bind fun y =>
 regex_parser_alt_p1 N self y.2.1 ((0 : Int), (([(0 : Int), (0 : Int), (0 : Int), (0 : Int)] : List Int), (([] : List Go.Lift.Tree), ((0 : Int), ((0 : Int), ()))))) ([y.1] : List (Int × ((List Int) × ((List Go.Lift.Tree) × (Int × (Int × Unit))))))
 (fun p1 parts => (regex_join N (3 : Int) (List.map Go.Lift.foN parts)).bind fun y1 =>
 some (y1, (p1, ())))

noncomputable def regex_parser_alt_t (N : Nat) (self : ((List UInt8) × (Int × (Int × Unit))) → Option ((Int × ((List Int) × ((List Tree) × (Int × (Int × Unit))))) × (((List UInt8) × (Int × (Int × Unit))) × Unit))) : Tab ((Int × ((List Int) × ((List Tree) × (Int × (Int × Unit))))) × (((List UInt8) × (Int × (Int × Unit))) × Unit)) := [([0, 0, 1, 1], regex_parser_alt_h1 N self)]

theorem regex_parser_alt_link (N : Nat) (self : ((List UInt8) × (Int × (Int × Unit))) → Option ((Int × ((List Int) × ((List Tree) × (Int × (Int × Unit))))) × (((List UInt8) × (Int × (Int × Unit))) × Unit))) (x : denS [(0, .box (.pair .str (.pair (.int .i64) (.pair (.int .i64) .unit))))]) : evFX (regex_parser_alt_E N self) N (regex_parser_alt_t N self) regex_parser_alt_L Go.Proofs.Tryd.f19 (mkS [(0, .box (.pair .str (.pair (.int .i64) (.pair (.int .i64) .unit))))] 0 x) (kResB (.v (.pair (.int .i64) (.pair (.arr 4 (.int .u64)) (.pair (.sl .nod) (.pair (.int .i64) (.pair (.int .i64) .unit)))))) [(0, .box (.pair .str (.pair (.int .i64) (.pair (.int .i64) .unit))))] 0) = regex_parser_alt_F N self x.1 := by kernel_rfl

noncomputable def regex_parser_alt : Nat → ((List UInt8) × (Int × (Int × Unit))) → Option ((Int × ((List Int) × ((List Tree) × (Int × (Int × Unit))))) × (((List UInt8) × (Int × (Int × Unit))) × Unit))
  | 0 => fun _ => none
  | N + 1 => regex_parser_alt_F (N + 1) (regex_parser_alt N)

noncomputable def regex_parser_alt_res (N : Nat) : List A → Res := resOf [(0, .box (.pair .str (.pair (.int .i64) (.pair (.int .i64) .unit))))] (fun x => regex_parser_alt N x.1) (oResB (.v (.pair (.int .i64) (.pair (.arr 4 (.int .u64)) (.pair (.sl .nod) (.pair (.int .i64) (.pair (.int .i64) .unit)))))) [(0, .box (.pair .str (.pair (.int .i64) (.pair (.int .i64) .unit))))] 0)

theorem regex_parser_alt_ct : ∀ N : Nat, Contract Go.Proofs.Tryd.prog glob 19 (regex_parser_alt_res N)
  | 0 => Contract.zero Go.Proofs.Tryd.func19 (body := regex_parser_alt_body) (by kernel_rfl) (by decide) (fun _ => rfl)
  | N + 1 => Contract.of (E := regex_parser_alt_E (N + 1) (regex_parser_alt N)) (H := regex_parser_alt_t (N + 1) (regex_parser_alt N)) (L := regex_parser_alt_L) (N := (N + 1)) (body := regex_parser_alt_body) (K := (kResB (.v (.pair (.int .i64) (.pair (.arr 4 (.int .u64)) (.pair (.sl .nod) (.pair (.int .i64) (.pair (.int .i64) .unit)))))) [(0, .box (.pair .str (.pair (.int .i64) (.pair (.int .i64) .unit))))] 0)) (regex_parser_alt_Eok (N + 1) (regex_parser_alt N) (regex_parser_alt_ct N)) Go.Proofs.Tryd.func19 (by kernel_rfl) (by decide) (fun _ hb => (TabOk.cons (regex_parser_alt_ok1 hb) TabOk.nil)) (fun x y h => by rw [regex_parser_alt_link]; exact h) (kResB_ok (s := (.v (.pair (.int .i64) (.pair (.arr 4 (.int .u64)) (.pair (.sl .nod) (.pair (.int .i64) (.pair (.int .i64) .unit))))))) (os := [(0, .box (.pair .str (.pair (.int .i64) (.pair (.int .i64) .unit))))]) (m := 0))

end Go.Proofs.YtbfmhambfonpcaaDoorLg

set_option linter.all false
set_option maxRecDepth 100000
namespace Go.Lift


def BSt (t : T) (w0 : World) (S0 : Hp) (ob0 : List Nat) (bf : Nat) (w : World) (x : t.den) (L : List (Nat × Array Value × Nat)) : Prop :=
 ∃ S o, WF w0 (fun k => k ∈ ob0) w ∧ Sub S0 S ∧ Sub S (hp w) ∧ (∀ k, S k ≠ none → S0 k ≠ none ∨ k ∈ ob0 ∨ w0.heap.size ≤ k) ∧ ARel (hp w) S (fun _ => undef) (.box t x) (.pointer (some ⟨bf, 0, none⟩)) o ∧ o.Nodup ∧
 (∀ k ∈ o, S k = none ∧ (k ∈ ob0 ∨ w0.heap.size ≤ k)) ∧ ∀ p ∈ L, S p.1 = none ∧ p.1 ∉ o ∧ w0.heap.size ≤ p.1 ∧ w.heap[p.1]? = some (.cells p.2.1 p.2.2 (0, 0))

variable {P : Program} {glob : Nat → Option Dat} {t : T} {w0 w : World} {S0 : Hp} {ob0 : List Nat} {bf : Nat} {x : t.den} {L : List (Nat × Array Value × Nat)}

theorem BSt.lt (h : BSt t w0 S0 ob0 bf w x L) : ∀ p ∈ L, p.1 < w.heap.size := by
  obtain ⟨S, o, _, _, _, _, _, _, _, hL⟩ := h
  exact fun p hp => (Array.getElem?_eq_some_iff.1 (hL p hp).2.2.2).1

theorem BSt.drew (h : BSt t w0 S0 ob0 bf w x L) : BSt t w0 S0 ob0 bf w.drew x L := by
  obtain ⟨S, o, k1, k2⟩ := h
  exact ⟨S, o, ⟨k1.size, k1.same, k1.tape, k1.os, k1.output⟩, k2⟩

theorem BSt.plain {f : FuncId} {g : List A → Res} (ct : Contract P glob f g) (hg : ∀ S, GlobOk glob S) (h : BSt t w0 S0 ob0 bf w x L) {args : List A} {vals : List Value}
    (hrel : ∀ S, Sub S (hp w) → ArgsRel (hp w) S args vals (fun _ => [])) {y : (g args).X} (hy : (g args).val = some y) :
    Calls P f vals.toArray w fun e w' => ∃ v S' o', e = .returned v ∧ ARel (hp w') S' (fun _ => undef) ((g args).out y).1 v o' ∧ BSt t w0 S0 ob0 bf w' x L := by
  have h' := h
  obtain ⟨S, o, h1, h2, h3, h4, h5, h6, h7, hL⟩ := h'
  refine ((ct.2 w S args vals _ (hrel S h3) h3 (hg S) y hy)).mono ?_
  rintro e w' ⟨v, S', q, ob', rfl, hwf, hSS, hSw, hnew, ⟨hr, _⟩, _⟩
  refine ⟨v, S', q, rfl, hr, ?_⟩
  have hwf' : WF w (fun _ => False) w' := ⟨hwf.size, fun k hk _ => hwf.same k hk (by rintro ⟨i, hi⟩; cases hi), hwf.tape, hwf.os, hwf.output⟩
  have hlt : ∀ k ∈ o, k < w.heap.size := fun k hk => by
    obtain ⟨ob, hob⟩ := h5.obj k hk
    exact (Array.getElem?_eq_some_iff.1 hob.1).1
  have hnw : ∀ k, k < w.heap.size → S' k ≠ none → S k ≠ none := fun k hk hs => by
    rcases hnew k hs with h | ⟨i, hi⟩ | h
    · exact h
    · cases hi
    · omega
  refine ⟨S', o, h1.trans hwf' (fun _ h => h.elim), h2.trans hSS, hSw, fun k hk => ?_, ?_, h6, fun k hk => ⟨?_, (h7 k hk).2⟩, fun p hp => ?_⟩
  · rcases hnew k hk with h | ⟨i, hi⟩ | h
    · exact h4 k h
    · cases hi
    · exact .inr (.inr (Nat.le_trans h1.size h))
  · obtain ⟨b, cs, E, fr, bs, rfl, e1, e2, e3, e4⟩ := h5
    refine ⟨b, cs, E, fr, bs, rfl, e1, ?_, e3, e4.mono hSS _ _ _ _ (fun k hk => hwf'.same k (hlt k (by simp [hk])) (fun h => h))⟩
    have := hwf'.same b (hlt b (by simp)) (fun h => h)
    simp only [hp] at e2 ⊢
    rw [this]; exact e2
  · cases hs : S' k with
    | none => rfl
    | some q => exact absurd (h7 k hk).1 (hnw k (hlt k hk) (by rw [hs]; simp))
  · obtain ⟨p1, p2, p3, p4⟩ := hL p hp
    have hl := (Array.getElem?_eq_some_iff.1 p4).1
    refine ⟨?_, p2, p3, ?_⟩
    · cases hs : S' p.1 with
      | none => rfl
      | some q => exact absurd p1 (hnw _ hl (by rw [hs]; simp))
    · rw [hwf'.same p.1 hl (fun h => h)]; exact p4

theorem args_box {S : Hp} {v : Value} {o : List Nat} {args : List A} {vals : List Value} (h5 : ARel (hp w) S (fun _ => undef) (.box t x) v o) (h6 : o.Nodup) (h7 : ∀ k ∈ o, S k = none) (hr0 : ArgsRel (hp w) S args vals (fun _ => [])) :
    ArgsRel (hp w) S (.box t x :: args) (v :: vals) (fun i => if i = 0 then o else []) := by
  refine ⟨by simp [hr0.len], fun i q hq => ?_, fun i hi => ?_, fun i j b hi hj => ?_, fun i => ?_, fun i b hb => ?_⟩
  · cases i with
    | zero =>
      simp at hq; subst hq
      exact ⟨⟨_, rfl, by simpa using h5⟩, rfl⟩
    | succ i =>
      obtain ⟨⟨v, hv, ha⟩, hrf⟩ := hr0.rel i q (by simpa using hq)
      exact ⟨⟨v, by simpa using hv, by simpa using ha⟩, hrf⟩
  · rw [if_neg (by intro e; subst e; simp at hi)]
  · by_cases hi0 : i = 0 <;> by_cases hj0 : j = 0 <;> simp_all
  · by_cases hi0 : i = 0 <;> simp [hi0, h6]
  · by_cases hi0 : i = 0
    · rw [if_pos hi0] at hb; exact h7 b hb
    · rw [if_neg hi0] at hb; cases hb

theorem BSt.alloc (h : BSt t w0 S0 ob0 bf w x L) (cs : Array Value) (E : Nat) : BSt t w0 S0 ob0 bf (w.alloc (.cells cs E)) x ((w.heap.size, cs, E) :: L) := by
  have hlt := h.lt
  obtain ⟨S, o, h1, h2, h3, h4, h5, h6, h7, hL⟩ := h
  have hh : (w.alloc (.cells cs E)).heap = w.heap.push (.cells cs E (0, 0)) := rfl
  have hk : ∀ k, k < w.heap.size → (w.alloc (.cells cs E)).heap[k]? = w.heap[k]? := fun k hk => by
    rw [hh, Array.getElem?_push, if_neg (by omega)]
  have hol : ∀ k ∈ o, k < w.heap.size := fun k hk => by
    obtain ⟨ob, hob⟩ := h5.obj k hk
    exact (Array.getElem?_eq_some_iff.1 hob.1).1
  refine ⟨S, o, ⟨by rw [hh, Array.size_push]; have := h1.size; omega, fun k h1' h2' => by rw [hk k (by have := h1.size; omega)]; exact h1.same k h1' h2', h1.tape, h1.os, h1.output⟩, h2, fun k q ho => ?_, h4, ?_, h6, h7, fun p hpm => ?_⟩
  · have := h3 k q ho
    simp only [hp] at this ⊢
    rw [hk k (Array.getElem?_eq_some_iff.1 this).1]
    exact this
  · obtain ⟨b, c1, E', fr, bs, rfl, e1, e2, e3, e4⟩ := h5
    refine ⟨b, c1, E', fr, bs, rfl, e1, ?_, e3, e4.mono (Sub.refl _) _ _ _ _ (fun k hkm => hk k (hol k (by simp [hkm])))⟩
    simp only [hp] at e2 ⊢
    rw [hk b (hol b (by simp))]; exact e2
  · rcases List.mem_cons.1 hpm with rfl | hpm
    · refine ⟨?_, fun hm => absurd (hol _ hm) (by simp), h1.size, ?_⟩
      · cases hs : S w.heap.size with
        | none => rfl
        | some q =>
          have := h3 _ _ hs
          simp only [hp] at this
          have := (Array.getElem?_eq_some_iff.1 this).1
          omega
      · simp only
        rw [hh, Array.getElem?_push, if_pos rfl]
    · obtain ⟨p1, p2, p3, p4⟩ := hL p hpm
      exact ⟨p1, p2, p3, by rw [hk p.1 (hlt p hpm)]; exact p4⟩

theorem BSt.put {p : Nat} {cs : Array Value} {E : Nat} (h : BSt t w0 S0 ob0 bf w x ((p, cs, E) :: L)) (hd : ∀ q ∈ L, q.1 ≠ p) {w' : World} {cs' : Array Value} (hw : w' = setObj' w p (.cells cs' E (0, 0))) : BSt t w0 S0 ob0 bf w' x ((p, cs', E) :: L) := by
  obtain ⟨S, o, h1, h2, h3, h4, h5, h6, h7, hL⟩ := h
  obtain ⟨q1, q2, q3, q4⟩ := hL (p, cs, E) (List.mem_cons_self ..)
  simp only at q1 q2 q3 q4
  have hne : ∀ k, k ≠ p → w'.heap[k]? = w.heap[k]? := fun k hk => by
    have := hp_setObj_ne (w := w) (o := .cells cs' E (0, 0)) hk
    rw [hw]; exact this
  have hsz : w'.heap.size = w.heap.size := by rw [hw]; simp [setObj']
  refine ⟨S, o, ⟨by rw [hsz]; exact h1.size, fun k h1' h2' => by rw [hne k (by omega)]; exact h1.same k h1' h2', by rw [hw]; exact h1.tape, by rw [hw]; exact h1.os, by rw [hw]; exact h1.output⟩, h2, fun k q ho => ?_, h4, ?_, h6, h7, fun u hu => ?_⟩
  · have hk : k ≠ p := fun e => by rw [e, q1] at ho; cases ho
    have := h3 k q ho
    simp only [hp] at this ⊢
    rw [hne k hk]
    exact this
  · obtain ⟨b, c1, E', fr, bs, rfl, e1, e2, e3, e4⟩ := h5
    refine ⟨b, c1, E', fr, bs, rfl, e1, ?_, e3, e4.mono (Sub.refl _) _ _ _ _ (fun k hkm => hne k (fun e => q2 (by simp [← e, hkm])))⟩
    simp only [hp] at e2 ⊢
    rw [hne b (fun e => q2 (by simp [← e]))]; exact e2
  · rcases List.mem_cons.1 hu with rfl | hu
    · refine ⟨q1, q2, q3, ?_⟩
      rw [hw]
      exact hp_setObj q4
    · obtain ⟨p1, p2, p3, p4⟩ := hL u (List.mem_cons_of_mem _ hu)
      exact ⟨p1, p2, p3, by rw [hne u.1 (hd u hu)]; exact p4⟩

theorem BSt.setCell {p : Nat} {cs : Array Value} {E : Nat} (h : BSt t w0 S0 ob0 bf w x ((p, cs, E) :: L)) (hd : ∀ q ∈ L, q.1 ≠ p) (i : Nat) (v : Value) :
    BSt t w0 S0 ob0 bf (w.setCell ⟨p, i, none⟩ v) x ((p, cs.setIfInBounds i v, E) :: L) := by
  have hb : hp w p = some (.cells cs E (0, 0)) := by
    obtain ⟨S, o, _, _, _, _, _, _, _, hL⟩ := h
    exact (hL _ (List.mem_cons_self ..)).2.2.2
  exact h.put hd (setCell_eq v hb)

end Go.Lift
