import Derived.Test.YtbfmhambfonpcaaDoorLgPrRr1
set_option linter.all false
set_option maxRecDepth 100000
namespace Go.Proofs.YtbfmhambfonpcaaDoorLg
open Go Go.Lift

noncomputable def regex_parser_piece_g1 (N : Nat) (self : regex_parser_alt_Self) (x : denS [(0, .box (.pair .str (.pair (.int .i64) (.pair (.int .i64) .unit)))), (1, .box (.pair (.int .i64) (.pair (.arr 4 (.int .u64)) (.pair (.sl .nod) (.pair (.int .i64) (.pair (.int .i64) .unit)))))), (0, .box (.pair (.int .i64) (.pair (.arr 4 (.int .u64)) (.pair (.sl .nod) (.pair (.int .i64) (.pair (.int .i64) .unit)))))), (0, .box (.pair (.int .i64) (.pair (.arr 4 (.int .u64)) (.pair (.sl .nod) (.pair (.int .i64) (.pair (.int .i64) .unit)))))), (24, .v (.int .u8))]) (K : Ex → List A → Option ((Int × ((List Int) × ((List Tree) × (Int × (Int × Unit))))) × (((List UInt8) × (Int × (Int × Unit))) × Unit))) : Option ((Int × ((List Int) × ((List Tree) × (Int × (Int × Unit))))) × (((List UInt8) × (Int × (Int × Unit))) × Unit)) :=
 regex_parser_piece_p1 N self x.1 x.2.1 x.2.2.1 x.2.2.2.1 x.2.2.2.2.1 (fun a2 => (K .normal (mkS [(0, .box (.pair .str (.pair (.int .i64) (.pair (.int .i64) .unit)))), (1, .box (.pair (.int .i64) (.pair (.arr 4 (.int .u64)) (.pair (.sl .nod) (.pair (.int .i64) (.pair (.int .i64) .unit)))))), (1, .box (.pair (.int .i64) (.pair (.arr 4 (.int .u64)) (.pair (.sl .nod) (.pair (.int .i64) (.pair (.int .i64) .unit))))))] 65 (x.1, x.2.1, a2, ())))) (K (.exit 3) (mkS [(0, .box (.pair .str (.pair (.int .i64) (.pair (.int .i64) .unit)))), (1, .box (.pair (.int .i64) (.pair (.arr 4 (.int .u64)) (.pair (.sl .nod) (.pair (.int .i64) (.pair (.int .i64) .unit)))))), (1, .box (.pair (.int .i64) (.pair (.arr 4 (.int .u64)) (.pair (.sl .nod) (.pair (.int .i64) (.pair (.int .i64) .unit))))))] 65 (x.1, x.2.1, x.2.2.2.1, ()))) (K (.exit 4) (mkS [(0, .box (.pair .str (.pair (.int .i64) (.pair (.int .i64) .unit)))), (1, .box (.pair (.int .i64) (.pair (.arr 4 (.int .u64)) (.pair (.sl .nod) (.pair (.int .i64) (.pair (.int .i64) .unit)))))), (1, .box (.pair (.int .i64) (.pair (.arr 4 (.int .u64)) (.pair (.sl .nod) (.pair (.int .i64) (.pair (.int .i64) .unit))))))] 65 (x.1, x.2.1, x.2.2.2.1, ()))) (K (.exit 5) (mkS [(0, .box (.pair .str (.pair (.int .i64) (.pair (.int .i64) .unit)))), (1, .box (.pair (.int .i64) (.pair (.arr 4 (.int .u64)) (.pair (.sl .nod) (.pair (.int .i64) (.pair (.int .i64) .unit)))))), (0, .box (.pair (.int .i64) (.pair (.arr 4 (.int .u64)) (.pair (.sl .nod) (.pair (.int .i64) (.pair (.int .i64) .unit))))))] 66 (x.1, x.2.1, x.2.2.1, ())))

noncomputable def regex_parser_piece_h1 (N : Nat) (self : regex_parser_alt_Self) : Hd ((Int × ((List Int) × ((List Tree) × (Int × (Int × Unit))))) × (((List UInt8) × (Int × (Int × Unit))) × Unit)) := fun st K => (unS [(0, .box (.pair .str (.pair (.int .i64) (.pair (.int .i64) .unit)))), (1, .box (.pair (.int .i64) (.pair (.arr 4 (.int .u64)) (.pair (.sl .nod) (.pair (.int .i64) (.pair (.int .i64) .unit)))))), (0, .box (.pair (.int .i64) (.pair (.arr 4 (.int .u64)) (.pair (.sl .nod) (.pair (.int .i64) (.pair (.int .i64) .unit)))))), (0, .box (.pair (.int .i64) (.pair (.arr 4 (.int .u64)) (.pair (.sl .nod) (.pair (.int .i64) (.pair (.int .i64) .unit)))))), (24, .v (.int .u8))] 40 (restr [29, 4, 0, 2, 3] 0 st)).bind fun x => regex_parser_piece_g1 N self x K

noncomputable def regex_parser_piece_t1 (N : Nat) (self : regex_parser_alt_Self) : Tab ((Int × ((List Int) × ((List Tree) × (Int × (Int × Unit))))) × (((List UInt8) × (Int × (Int × Unit))) × Unit)) := []

theorem regex_parser_piece_ok1 {N : Nat} {self : regex_parser_alt_Self} {c : Ctx} (hb : Base Go.Proofs.Tryd.prog (regex_parser_piece_E N self) c) : CodeOk Go.Proofs.Tryd.prog c (nodeAt regex_parser_piece_body [0, 0, 0, 0, 0, 0, 0, 0, 1, 0, 1, 1, 1, 1]) (regex_parser_piece_h1 N self) :=
  piece_ok (s := [(0, .box (.pair .str (.pair (.int .i64) (.pair (.int .i64) .unit)))), (1, .box (.pair (.int .i64) (.pair (.arr 4 (.int .u64)) (.pair (.sl .nod) (.pair (.int .i64) (.pair (.int .i64) .unit)))))), (0, .box (.pair (.int .i64) (.pair (.arr 4 (.int .u64)) (.pair (.sl .nod) (.pair (.int .i64) (.pair (.int .i64) .unit)))))), (0, .box (.pair (.int .i64) (.pair (.arr 4 (.int .u64)) (.pair (.sl .nod) (.pair (.int .i64) (.pair (.int .i64) .unit)))))), (24, .v (.int .u8))]) (m := 40) (g := regex_parser_piece_g1 N self) [29, 4, 0, 2, 3] (evN_sound hb N (regex_parser_piece_t1 N self) regex_parser_piece_L regex_parser_piece_body TabOk.nil [0, 0, 0, 0, 0, 0, 0, 0, 1, 0, 1, 1, 1, 1] _ rfl) (fun x K => by kernel_rfl)

noncomputable def regex_parser_piece (N : Nat) (self : regex_parser_alt_Self) (p : ((List UInt8) × (Int × (Int × Unit)))) : Option ((Int × ((List Int) × ((List Tree) × (Int × (Int × Unit))))) × (((List UInt8) × (Int × (Int × Unit))) × Unit)) :=
 (regex_parser_atom N self p).bind fun y =>
 cond (y.2.1.2.1 == (((List.length y.2.1.1) : Nat) : Int))
 (some (y.1, (y.2.1, ())))
 (cond (Go.Lift.inR y.2.1.2.1 (List.length y.2.1.1))
 (regex_parser_piece_p1 N self y.2.1 ((0 : Int), (([(0 : Int), (0 : Int), (0 : Int), (0 : Int)] : List Int), (([] : List Go.Lift.Tree), ((0 : Int), ((0 : Int), ()))))) y.1 ((4 : Int), (([(0 : Int), (0 : Int), (0 : Int), (0 : Int)] : List Int), ((List.map Go.Lift.foN ([y.1] : List (Int × ((List Int) × ((List Go.Lift.Tree) × (Int × (Int × Unit))))))), ((0 : Int), ((-(1 : Int)), ()))))) (((UInt8.toNat (List.getD y.2.1.1 (Int.toNat y.2.1.2.1) (0 : UInt8))) : Nat) : Int)
 (fun rep => some (rep, ((y.2.1.1, ((Go.IntKind.wrap Go.IntKind.i64 (y.2.1.2.1 + (1 : Int))), y.2.1.2.2)), ())))
 (some (((4 : Int), (([(0 : Int), (0 : Int), (0 : Int), (0 : Int)] : List Int), ((List.map Go.Lift.foN ([y.1] : List (Int × ((List Int) × ((List Go.Lift.Tree) × (Int × (Int × Unit))))))), ((0 : Int), ((1 : Int), ()))))), ((y.2.1.1, ((Go.IntKind.wrap Go.IntKind.i64 (y.2.1.2.1 + (1 : Int))), y.2.1.2.2)), ())))
 ((regex_parser_braces N (y.2.1.1, ((Go.IntKind.wrap Go.IntKind.i64 (y.2.1.2.1 + (1 : Int))), y.2.1.2.2))).bind fun y1 =>
 some (((4 : Int), (([(0 : Int), (0 : Int), (0 : Int), (0 : Int)] : List Int), ((List.map Go.Lift.foN ([y.1] : List (Int × ((List Int) × ((List Go.Lift.Tree) × (Int × (Int × Unit))))))), (y1.1.1, (y1.1.2.1, ()))))), (y1.2.1, ())))
 (some (y.1, (y.2.1, ()))))
 (none))

noncomputable def regex_parser_piece_t (N : Nat) (self : regex_parser_alt_Self) : Tab ((Int × ((List Int) × ((List Tree) × (Int × (Int × Unit))))) × (((List UInt8) × (Int × (Int × Unit))) × Unit)) := [([0, 0, 0, 0, 0, 0, 0, 0, 1, 0, 1, 1, 1, 1], regex_parser_piece_h1 N self)]

theorem regex_parser_piece_link (N : Nat) (self : regex_parser_alt_Self) (x : denS [(0, .box (.pair .str (.pair (.int .i64) (.pair (.int .i64) .unit))))]) : evFX (regex_parser_piece_E N self) N (regex_parser_piece_t N self) regex_parser_piece_L Go.Proofs.Tryd.f32 (mkS [(0, .box (.pair .str (.pair (.int .i64) (.pair (.int .i64) .unit))))] 0 x) (kResB (.v (.pair (.int .i64) (.pair (.arr 4 (.int .u64)) (.pair (.sl .nod) (.pair (.int .i64) (.pair (.int .i64) .unit)))))) [(0, .box (.pair .str (.pair (.int .i64) (.pair (.int .i64) .unit))))] 0) = regex_parser_piece N self x.1 := by kernel_rfl

noncomputable def regex_parser_piece_res (N : Nat) (self : regex_parser_alt_Self) : List A → Res := resOf [(0, .box (.pair .str (.pair (.int .i64) (.pair (.int .i64) .unit))))] (fun x => regex_parser_piece N self x.1) (oResB (.v (.pair (.int .i64) (.pair (.arr 4 (.int .u64)) (.pair (.sl .nod) (.pair (.int .i64) (.pair (.int .i64) .unit)))))) [(0, .box (.pair .str (.pair (.int .i64) (.pair (.int .i64) .unit))))] 0)

theorem regex_parser_piece_ct (N : Nat) (self : regex_parser_alt_Self) (hself : Contract Go.Proofs.Tryd.prog glob 19 (resOf [(0, .box (.pair .str (.pair (.int .i64) (.pair (.int .i64) .unit))))] (fun x => self x.1) (oResB (.v (.pair (.int .i64) (.pair (.arr 4 (.int .u64)) (.pair (.sl .nod) (.pair (.int .i64) (.pair (.int .i64) .unit)))))) [(0, .box (.pair .str (.pair (.int .i64) (.pair (.int .i64) .unit))))] 0))) : Contract Go.Proofs.Tryd.prog glob 32 (regex_parser_piece_res N self) :=
  Contract.of (E := regex_parser_piece_E N self) (H := regex_parser_piece_t N self) (L := regex_parser_piece_L) (N := N) (body := regex_parser_piece_body) (K := (kResB (.v (.pair (.int .i64) (.pair (.arr 4 (.int .u64)) (.pair (.sl .nod) (.pair (.int .i64) (.pair (.int .i64) .unit)))))) [(0, .box (.pair .str (.pair (.int .i64) (.pair (.int .i64) .unit))))] 0)) (regex_parser_piece_Eok N self hself) Go.Proofs.Tryd.func32 (by kernel_rfl) (by decide) (fun _ hb => (TabOk.cons (regex_parser_piece_ok1 hb) TabOk.nil)) (fun x y h => by rw [regex_parser_piece_link]; exact h) (kResB_ok (s := (.v (.pair (.int .i64) (.pair (.arr 4 (.int .u64)) (.pair (.sl .nod) (.pair (.int .i64) (.pair (.int .i64) .unit))))))) (os := [(0, .box (.pair .str (.pair (.int .i64) (.pair (.int .i64) .unit))))]) (m := 0))

noncomputable def regex_join_body : Code := (Go.Proofs.Tryd.f27.body).getD .skip

noncomputable def regex_join_L : List (List Nat × List Nat) := [([0], [1, 0, 4]), ([0, 1], [1, 0, 5, 4]), ([0, 0, 1, 1], [10, 9, 8, 0, 5, 4]), ([0, 1, 0, 1, 1], [10, 9, 8, 0, 5, 4]), ([0, 0, 0, 1, 0, 1, 1], [11, 8, 10, 0, 5, 9, 4]), ([0, 1, 0, 0, 1, 0, 1, 1], [8, 10, 0, 5, 9, 4]), ([1, 0, 1, 0, 0, 1, 0, 1, 1], [5, 4, 0]), ([0, 0, 0, 1, 1, 0, 0, 1, 0, 1, 1], [7, 0, 5, 10, 9, 8, 4]), ([0, 1, 0, 0, 1, 1, 0, 0, 1, 0, 1, 1], [17, 5, 7, 10, 9, 8, 0, 4]), ([1, 1, 0, 0, 1, 1, 0, 0, 1, 0, 1, 1], [10, 9, 8, 0, 5, 4]), ([1, 1, 1, 0, 0, 1, 1, 0, 0, 1, 0, 1, 1], [10, 9, 8, 0, 5, 4]), ([0, 1, 1, 0, 0, 1, 1, 0, 0, 1, 0, 1, 1], [10, 9, 8, 0, 5, 4]), ([0, 1, 1, 0, 0, 1, 0, 1, 1], [10, 9, 8, 0, 5, 4]), ([1, 1, 1, 0, 0, 1, 0, 1, 1], [10, 9, 8, 0, 5, 4]), ([1, 0, 1, 1], [5, 4, 0]), ([0, 0, 1, 1, 1], [29, 5, 4, 0]), ([1, 0, 1, 1, 1], [0, 5, 4]), ([0, 0, 1, 0, 1, 1, 1], [4]), ([1, 0, 1, 0, 1, 1, 1], [4]), ([0, 1, 1, 1, 1], [4]), ([1, 1, 1, 1, 1], [4])]

noncomputable def regex_join_E (N : Nat) : Env := mkEnv tys glob [] [(5, (.pair (.int .i64) (.pair (.arr 4 (.int .u64)) (.pair (.sl .nod) (.pair (.int .i64) (.pair (.int .i64) .unit))))))] [] [] false [] []

theorem regex_join_Eok (N : Nat) : EnvOk Go.Proofs.Tryd.prog (regex_join_E N) := mkEnv_ok mixed tys_ok (FnsOk.nil) (ItsOk.nil)

noncomputable def regex_join_s1 (N : Nat) (kind : Int) (x4 : (Int × ((List Int) × ((List Tree) × (Int × (Int × Unit)))))) (x8 : (List Tree)) (x9 : Int) (kids : (List (Int × ((List Int) × ((List Tree) × (Int × (Int × Unit))))))) (x10 : Int) (rec : (List (Int × ((List Int) × ((List Tree) × (Int × (Int × Unit)))))) → Int → Option (Int × ((List Int) × ((List Tree) × (Int × (Int × Unit)))))) (k0 : (List (Int × ((List Int) × ((List Tree) × (Int × (Int × Unit)))))) → Option (Int × ((List Int) × ((List Tree) × (Int × (Int × Unit)))))) : Option (Int × ((List Int) × ((List Tree) × (Int × (Int × Unit))))) :=
 cond (decide (x10 < x9))
 (cond (Go.Lift.inR x10 (List.length x8))
 (cond ((Go.Lift.unN (List.getD x8 (Int.toNat x10) (Go.Lift.Tree.mk (0 : Int) ([] : List Int) ([] : List Go.Lift.Tree) (0 : Int) (0 : Int)))).1 == kind)
 (cond (decide ((((List.length kids) + (List.length (List.map Go.Lift.unN (Go.Lift.unN (List.getD x8 (Int.toNat x10) (Go.Lift.Tree.mk (0 : Int) ([] : List Int) ([] : List Go.Lift.Tree) (0 : Int) (0 : Int)))).2.2.1))) * 80) ≤ 70368744177664))
 (rec (kids ++ (List.map Go.Lift.unN (Go.Lift.unN (List.getD x8 (Int.toNat x10) (Go.Lift.Tree.mk (0 : Int) ([] : List Int) ([] : List Go.Lift.Tree) (0 : Int) (0 : Int)))).2.2.1)) (Go.IntKind.wrap Go.IntKind.i64 (x10 + (1 : Int))))
 (none))
 (cond (decide ((((List.length kids) + 1) * 80) ≤ 70368744177664))
 (rec (kids ++ ([(Go.Lift.unN (List.getD x8 (Int.toNat x10) (Go.Lift.Tree.mk (0 : Int) ([] : List Int) ([] : List Go.Lift.Tree) (0 : Int) (0 : Int))))] : List (Int × ((List Int) × ((List Go.Lift.Tree) × (Int × (Int × Unit))))))) (Go.IntKind.wrap Go.IntKind.i64 (x10 + (1 : Int))))
 (none)))
 (none))
 (k0 kids)

noncomputable def regex_join_p1 (N : Nat) (kind : Int) (x4 : (Int × ((List Int) × ((List Tree) × (Int × (Int × Unit)))))) (kids : (List (Int × ((List Int) × ((List Tree) × (Int × (Int × Unit))))))) (x8 : (List Tree)) (x9 : Int) (x10 : Int) (k0 : (List (Int × ((List Int) × ((List Tree) × (Int × (Int × Unit)))))) → Option (Int × ((List Int) × ((List Tree) × (Int × (Int × Unit)))))) : Option (Int × ((List Int) × ((List Tree) × (Int × (Int × Unit))))) :=
 iter (fun (v : ((List (Int × ((List Int) × ((List Tree) × (Int × (Int × Unit)))))) × Int)) r => regex_join_s1 N kind x4 x8 x9 v.1 v.2 (fun kids x10 => (r (kids, x10))) k0) N (kids, x10)

noncomputable def regex_join_g1 (N : Nat) (i : (Int × (Int × ((List Int) × ((List Tree) × (Int × (Int × Unit))))) × (List Tree) × Int)) (v : ((List (Int × ((List Int) × ((List Tree) × (Int × (Int × Unit)))))) × Int)) (r : ((List (Int × ((List Int) × ((List Tree) × (Int × (Int × Unit)))))) × Int) → Option (Int × ((List Int) × ((List Tree) × (Int × (Int × Unit)))))) (K : Ex → List A → Option (Int × ((List Int) × ((List Tree) × (Int × (Int × Unit)))))) : Option (Int × ((List Int) × ((List Tree) × (Int × (Int × Unit))))) :=
 regex_join_s1 N i.1 i.2.1 i.2.2.1 i.2.2.2 v.1 v.2 (fun kids x10 => (r (kids, x10))) (fun a2 => (K (.exit 0) (mkS [(0, .v (.int .i64)), (3, .box (.pair (.int .i64) (.pair (.arr 4 (.int .u64)) (.pair (.sl .nod) (.pair (.int .i64) (.pair (.int .i64) .unit)))))), (0, .row (.pair (.int .i64) (.pair (.arr 4 (.int .u64)) (.pair (.sl .nod) (.pair (.int .i64) (.pair (.int .i64) .unit))))))] 30 (i.1, i.2.1, a2, ()))))

noncomputable def regex_join_h1 (N : Nat) : Hd (Int × ((List Int) × ((List Tree) × (Int × (Int × Unit))))) := fun st K => (unS [(0, .v (.int .i64)), (3, .box (.pair (.int .i64) (.pair (.arr 4 (.int .u64)) (.pair (.sl .nod) (.pair (.int .i64) (.pair (.int .i64) .unit)))))), (0, .row (.pair (.int .i64) (.pair (.arr 4 (.int .u64)) (.pair (.sl .nod) (.pair (.int .i64) (.pair (.int .i64) .unit)))))), (2, .v (.sl .nod)), (0, .v (.int .i64)), (0, .v (.int .i64))] 25 (restr [10, 9, 8, 0, 5, 4] 0 st)).bind fun x => iter (fun v r => regex_join_g1 N ((fun x => (x.1, x.2.1, x.2.2.2.1, x.2.2.2.2.1)) x) v r K) N ((fun x => (x.2.2.1, x.2.2.2.2.2.1)) x)

noncomputable def regex_join_t1 (N : Nat) : Tab (Int × ((List Int) × ((List Tree) × (Int × (Int × Unit))))) := []

theorem regex_join_ok1 {N : Nat} {c : Ctx} (hb : Base Go.Proofs.Tryd.prog (regex_join_E N) c) : CodeOk Go.Proofs.Tryd.prog c (nodeAt regex_join_body [0, 1, 0, 1, 1]) (regex_join_h1 N) :=
  loop_ok (s := [(0, .v (.int .i64)), (3, .box (.pair (.int .i64) (.pair (.arr 4 (.int .u64)) (.pair (.sl .nod) (.pair (.int .i64) (.pair (.int .i64) .unit)))))), (0, .row (.pair (.int .i64) (.pair (.arr 4 (.int .u64)) (.pair (.sl .nod) (.pair (.int .i64) (.pair (.int .i64) .unit)))))), (2, .v (.sl .nod)), (0, .v (.int .i64)), (0, .v (.int .i64))]) (m := 25) (regex_join_g1 N) [10, 9, 8, 0, 5, 4] N (fun x => (x.1, x.2.1, x.2.2.2.1, x.2.2.2.2.1)) (fun x => (x.2.2.1, x.2.2.2.2.2.1)) (fun i v => (i.1, i.2.1, v.1, i.2.2.1, i.2.2.2, v.2, ())) (fun _ => rfl) (evN_sound hb N (regex_join_t1 N) regex_join_L regex_join_body TabOk.nil [0, 0, 1, 0, 1, 1] _ rfl) (fun i v r K => by kernel_rfl)

noncomputable def regex_join (N : Nat) (kind : Int) (parts : (List Tree)) : Option (Int × ((List Int) × ((List Tree) × (Int × (Int × Unit))))) :=
 regex_join_p1 N kind ((0 : Int), (([(0 : Int), (0 : Int), (0 : Int), (0 : Int)] : List Int), (([] : List Go.Lift.Tree), ((0 : Int), ((0 : Int), ()))))) ([] : List (Int × ((List Int) × ((List Go.Lift.Tree) × (Int × (Int × Unit)))))) parts (((List.length parts) : Nat) : Int) (0 : Int)
 (fun kids => cond ((((List.length kids) : Nat) : Int) == (1 : Int))
 (cond (Go.Lift.inR (0 : Int) (List.length kids))
 (cond (decide (0 < (List.length kids)))
 (some (List.getD kids 0 ((0 : Int), (([] : List Int), (([] : List Go.Lift.Tree), ((0 : Int), ((0 : Int), ())))))))
 (none))
 (none))
 (some (kind, (([(0 : Int), (0 : Int), (0 : Int), (0 : Int)] : List Int), ((List.map Go.Lift.foN kids), ((0 : Int), ((0 : Int), ())))))))

noncomputable def regex_join_t (N : Nat) : Tab (Int × ((List Int) × ((List Tree) × (Int × (Int × Unit))))) := [([0, 1, 0, 1, 1], regex_join_h1 N)]

theorem regex_join_link (N : Nat) (x : denS [(0, .v (.int .i64)), (0, .v (.sl .nod))]) : evFX (regex_join_E N) N (regex_join_t N) regex_join_L Go.Proofs.Tryd.f27 (mkS [(0, .v (.int .i64)), (0, .v (.sl .nod))] 0 x) (kRes (.v (.pair (.int .i64) (.pair (.arr 4 (.int .u64)) (.pair (.sl .nod) (.pair (.int .i64) (.pair (.int .i64) .unit)))))) 2) = regex_join N x.1 x.2.1 := by kernel_rfl

noncomputable def regex_join_res (N : Nat) : List A → Res := resOf [(0, .v (.int .i64)), (0, .v (.sl .nod))] (fun x => regex_join N x.1 x.2.1) (oRes (.v (.pair (.int .i64) (.pair (.arr 4 (.int .u64)) (.pair (.sl .nod) (.pair (.int .i64) (.pair (.int .i64) .unit)))))) 2)

theorem regex_join_ct (N : Nat) : Contract Go.Proofs.Tryd.prog glob 27 (regex_join_res N) :=
  Contract.of (E := regex_join_E N) (H := regex_join_t N) (L := regex_join_L) (N := N) (body := regex_join_body) (K := (kRes (.v (.pair (.int .i64) (.pair (.arr 4 (.int .u64)) (.pair (.sl .nod) (.pair (.int .i64) (.pair (.int .i64) .unit)))))) 2)) (regex_join_Eok N) Go.Proofs.Tryd.func27 (by kernel_rfl) (by decide) (fun _ hb => (TabOk.cons (regex_join_ok1 hb) TabOk.nil)) (fun x y h => by rw [regex_join_link]; exact h) (kRes_ok (s := (.v (.pair (.int .i64) (.pair (.arr 4 (.int .u64)) (.pair (.sl .nod) (.pair (.int .i64) (.pair (.int .i64) .unit))))))) (m := 2))

noncomputable def regex_parser_cat_body : Code := (Go.Proofs.Tryd.f25.body).getD .skip

noncomputable def regex_parser_cat_L : List (List Nat × List Nat) := [([0], [0, 2]), ([0, 1], [0, 3, 2]), ([0, 0, 1, 1], [0, 3, 2]), ([0, 0, 0, 0, 0, 1, 1], [37, 3, 0, 2]), ([1, 0, 0, 0, 0, 1, 1], [3, 0, 2]), ([1, 1, 0, 0, 0, 0, 1, 1], [3, 2, 0]), ([0, 1, 0, 0, 0, 1, 1], [0, 3, 2]), ([1, 0, 0, 0, 1, 1], [0, 3, 2]), ([0, 1, 1], [3, 2, 0]), ([0, 1, 1, 1], [2, 0]), ([1, 1, 1, 1], [2, 0])]

noncomputable def regex_parser_cat_E (N : Nat) (self : regex_parser_alt_Self) : Env := mkEnv tys glob [(27, regex_join_res N), (32, regex_parser_piece_res N self), (19, resOf [(0, .box (.pair .str (.pair (.int .i64) (.pair (.int .i64) .unit))))] (fun x => self x.1) (oResB (.v (.pair (.int .i64) (.pair (.arr 4 (.int .u64)) (.pair (.sl .nod) (.pair (.int .i64) (.pair (.int .i64) .unit)))))) [(0, .box (.pair .str (.pair (.int .i64) (.pair (.int .i64) .unit))))] 0))] [(3, (.pair (.int .i64) (.pair (.arr 4 (.int .u64)) (.pair (.sl .nod) (.pair (.int .i64) (.pair (.int .i64) .unit))))))] [] [0] false [] []

theorem regex_parser_cat_Eok (N : Nat) (self : regex_parser_alt_Self) (hself : Contract Go.Proofs.Tryd.prog glob 19 (resOf [(0, .box (.pair .str (.pair (.int .i64) (.pair (.int .i64) .unit))))] (fun x => self x.1) (oResB (.v (.pair (.int .i64) (.pair (.arr 4 (.int .u64)) (.pair (.sl .nod) (.pair (.int .i64) (.pair (.int .i64) .unit)))))) [(0, .box (.pair .str (.pair (.int .i64) (.pair (.int .i64) .unit))))] 0))) : EnvOk Go.Proofs.Tryd.prog (regex_parser_cat_E N self) := mkEnv_ok mixed tys_ok (FnsOk.cons (regex_join_ct N) (FnsOk.cons (regex_parser_piece_ct N self hself) (FnsOk.cons (hself) (FnsOk.nil)))) (ItsOk.nil)

noncomputable def regex_parser_cat_p3 (N : Nat) (self : regex_parser_alt_Self) (p : ((List UInt8) × (Int × (Int × Unit)))) (x2 : (Int × ((List Int) × ((List Tree) × (Int × (Int × Unit)))))) (parts : (List (Int × ((List Int) × ((List Tree) × (Int × (Int × Unit))))))) (k0 : Option ((Int × ((List Int) × ((List Tree) × (Int × (Int × Unit))))) × (((List UInt8) × (Int × (Int × Unit))) × Unit))) (k1 : Option ((Int × ((List Int) × ((List Tree) × (Int × (Int × Unit))))) × (((List UInt8) × (Int × (Int × Unit))) × Unit))) : Option ((Int × ((List Int) × ((List Tree) × (Int × (Int × Unit))))) × (((List UInt8) × (Int × (Int × Unit))) × Unit)) :=
 cond (decide (p.2.1 < (((List.length p.1) : Nat) : Int)))
 (cond (Go.Lift.inR p.2.1 (List.length p.1))
 (cond ((((UInt8.toNat (List.getD p.1 (Int.toNat p.2.1) (0 : UInt8))) : Nat) : Int) != (124 : Int))
 (cond (Go.Lift.inR p.2.1 (List.length p.1))
 (cond ((((UInt8.toNat (List.getD p.1 (Int.toNat p.2.1) (0 : UInt8))) : Nat) : Int) != (41 : Int))
 (k0)
 (k1))
 (none))
 (k1))
 (none))
 (k1)

noncomputable def regex_parser_cat_g3 (N : Nat) (self : regex_parser_alt_Self) (x : denS [(0, .box (.pair .str (.pair (.int .i64) (.pair (.int .i64) .unit)))), (1, .box (.pair (.int .i64) (.pair (.arr 4 (.int .u64)) (.pair (.sl .nod) (.pair (.int .i64) (.pair (.int .i64) .unit)))))), (0, .row (.pair (.int .i64) (.pair (.arr 4 (.int .u64)) (.pair (.sl .nod) (.pair (.int .i64) (.pair (.int .i64) .unit))))))]) (K : Ex → List A → Option ((Int × ((List Int) × ((List Tree) × (Int × (Int × Unit))))) × (((List UInt8) × (Int × (Int × Unit))) × Unit))) : Option ((Int × ((List Int) × ((List Tree) × (Int × (Int × Unit))))) × (((List UInt8) × (Int × (Int × Unit))) × Unit)) :=
 regex_parser_cat_p3 N self x.1 x.2.1 x.2.2.1 (K .normal (mkS [(0, .box (.pair .str (.pair (.int .i64) (.pair (.int .i64) .unit)))), (1, .box (.pair (.int .i64) (.pair (.arr 4 (.int .u64)) (.pair (.sl .nod) (.pair (.int .i64) (.pair (.int .i64) .unit)))))), (0, .row (.pair (.int .i64) (.pair (.arr 4 (.int .u64)) (.pair (.sl .nod) (.pair (.int .i64) (.pair (.int .i64) .unit))))))] 41 (x.1, x.2.1, x.2.2.1, ()))) (K (.exit 0) (mkS [(0, .box (.pair .str (.pair (.int .i64) (.pair (.int .i64) .unit)))), (1, .box (.pair (.int .i64) (.pair (.arr 4 (.int .u64)) (.pair (.sl .nod) (.pair (.int .i64) (.pair (.int .i64) .unit)))))), (0, .row (.pair (.int .i64) (.pair (.arr 4 (.int .u64)) (.pair (.sl .nod) (.pair (.int .i64) (.pair (.int .i64) .unit))))))] 41 (x.1, x.2.1, x.2.2.1, ())))

noncomputable def regex_parser_cat_h3 (N : Nat) (self : regex_parser_alt_Self) : Hd ((Int × ((List Int) × ((List Tree) × (Int × (Int × Unit))))) × (((List UInt8) × (Int × (Int × Unit))) × Unit)) := fun st K => (unS [(0, .box (.pair .str (.pair (.int .i64) (.pair (.int .i64) .unit)))), (1, .box (.pair (.int .i64) (.pair (.arr 4 (.int .u64)) (.pair (.sl .nod) (.pair (.int .i64) (.pair (.int .i64) .unit)))))), (0, .row (.pair (.int .i64) (.pair (.arr 4 (.int .u64)) (.pair (.sl .nod) (.pair (.int .i64) (.pair (.int .i64) .unit))))))] 41 (restr [0, 3, 2] 0 st)).bind fun x => regex_parser_cat_g3 N self x K

noncomputable def regex_parser_cat_t3 (N : Nat) (self : regex_parser_alt_Self) : Tab ((Int × ((List Int) × ((List Tree) × (Int × (Int × Unit))))) × (((List UInt8) × (Int × (Int × Unit))) × Unit)) := []

theorem regex_parser_cat_ok3 {N : Nat} {self : regex_parser_alt_Self} {c : Ctx} (hb : Base Go.Proofs.Tryd.prog (regex_parser_cat_E N self) c) : CodeOk Go.Proofs.Tryd.prog c (nodeAt regex_parser_cat_body [0, 0, 0, 0, 1, 1]) (regex_parser_cat_h3 N self) :=
  piece_ok (s := [(0, .box (.pair .str (.pair (.int .i64) (.pair (.int .i64) .unit)))), (1, .box (.pair (.int .i64) (.pair (.arr 4 (.int .u64)) (.pair (.sl .nod) (.pair (.int .i64) (.pair (.int .i64) .unit)))))), (0, .row (.pair (.int .i64) (.pair (.arr 4 (.int .u64)) (.pair (.sl .nod) (.pair (.int .i64) (.pair (.int .i64) .unit))))))]) (m := 41) (g := regex_parser_cat_g3 N self) [0, 3, 2] (evN_sound hb N (regex_parser_cat_t3 N self) regex_parser_cat_L regex_parser_cat_body TabOk.nil [0, 0, 0, 0, 1, 1] _ rfl) (fun x K => by kernel_rfl)

noncomputable def regex_parser_cat_s2 (N : Nat) (self : regex_parser_alt_Self) (x2 : (Int × ((List Int) × ((List Tree) × (Int × (Int × Unit)))))) (p : ((List UInt8) × (Int × (Int × Unit)))) (parts : (List (Int × ((List Int) × ((List Tree) × (Int × (Int × Unit))))))) (rec : ((List UInt8) × (Int × (Int × Unit))) → (List (Int × ((List Int) × ((List Tree) × (Int × (Int × Unit)))))) → Option ((Int × ((List Int) × ((List Tree) × (Int × (Int × Unit))))) × (((List UInt8) × (Int × (Int × Unit))) × Unit))) (k0 : ((List UInt8) × (Int × (Int × Unit))) → (List (Int × ((List Int) × ((List Tree) × (Int × (Int × Unit)))))) → Option ((Int × ((List Int) × ((List Tree) × (Int × (Int × Unit))))) × (((List UInt8) × (Int × (Int × Unit))) × Unit))) : Option ((Int × ((List Int) × ((List Tree) × (Int × (Int × Unit))))) × (((List UInt8) × (Int × (Int × Unit))) × Unit)) :=
 regex_parser_cat_p3 N self p x2 parts
 ((regex_parser_piece N self p).bind fun y =>
 cond (decide ((((List.length parts) + 1) * 80) ≤ 70368744177664))
 (rec y.2.1 (parts ++ ([y.1] : List (Int × ((List Int) × ((List Go.Lift.Tree) × (Int × (Int × Unit))))))))
 (none))
 (k0 p parts)

noncomputable def regex_parser_cat_p2 (N : Nat) (self : regex_parser_alt_Self) (p : ((List UInt8) × (Int × (Int × Unit)))) (x2 : (Int × ((List Int) × ((List Tree) × (Int × (Int × Unit)))))) (parts : (List (Int × ((List Int) × ((List Tree) × (Int × (Int × Unit))))))) (k0 : ((List UInt8) × (Int × (Int × Unit))) → (List (Int × ((List Int) × ((List Tree) × (Int × (Int × Unit)))))) → Option ((Int × ((List Int) × ((List Tree) × (Int × (Int × Unit))))) × (((List UInt8) × (Int × (Int × Unit))) × Unit))) : Option ((Int × ((List Int) × ((List Tree) × (Int × (Int × Unit))))) × (((List UInt8) × (Int × (Int × Unit))) × Unit)) :=
 iter (fun (v : (((List UInt8) × (Int × (Int × Unit))) × (List (Int × ((List Int) × ((List Tree) × (Int × (Int × Unit)))))))) r => regex_parser_cat_s2 N self x2 v.1 v.2 (fun p parts => (r (p, parts))) k0) N (p, parts)

noncomputable def regex_parser_cat_g2 (N : Nat) (self : regex_parser_alt_Self) (i : (Int × ((List Int) × ((List Tree) × (Int × (Int × Unit)))))) (v : (((List UInt8) × (Int × (Int × Unit))) × (List (Int × ((List Int) × ((List Tree) × (Int × (Int × Unit)))))))) (r : (((List UInt8) × (Int × (Int × Unit))) × (List (Int × ((List Int) × ((List Tree) × (Int × (Int × Unit))))))) → Option ((Int × ((List Int) × ((List Tree) × (Int × (Int × Unit))))) × (((List UInt8) × (Int × (Int × Unit))) × Unit))) (K : Ex → List A → Option ((Int × ((List Int) × ((List Tree) × (Int × (Int × Unit))))) × (((List UInt8) × (Int × (Int × Unit))) × Unit))) : Option ((Int × ((List Int) × ((List Tree) × (Int × (Int × Unit))))) × (((List UInt8) × (Int × (Int × Unit))) × Unit)) :=
 regex_parser_cat_s2 N self i v.1 v.2 (fun p parts => (r (p, parts))) (fun a0 a2 => (K (.exit 0) (mkS [(0, .box (.pair .str (.pair (.int .i64) (.pair (.int .i64) .unit)))), (1, .box (.pair (.int .i64) (.pair (.arr 4 (.int .u64)) (.pair (.sl .nod) (.pair (.int .i64) (.pair (.int .i64) .unit)))))), (0, .row (.pair (.int .i64) (.pair (.arr 4 (.int .u64)) (.pair (.sl .nod) (.pair (.int .i64) (.pair (.int .i64) .unit))))))] 41 (a0, i, a2, ()))))

noncomputable def regex_parser_cat_h2 (N : Nat) (self : regex_parser_alt_Self) : Hd ((Int × ((List Int) × ((List Tree) × (Int × (Int × Unit))))) × (((List UInt8) × (Int × (Int × Unit))) × Unit)) := fun st K => (unS [(0, .box (.pair .str (.pair (.int .i64) (.pair (.int .i64) .unit)))), (1, .box (.pair (.int .i64) (.pair (.arr 4 (.int .u64)) (.pair (.sl .nod) (.pair (.int .i64) (.pair (.int .i64) .unit)))))), (0, .row (.pair (.int .i64) (.pair (.arr 4 (.int .u64)) (.pair (.sl .nod) (.pair (.int .i64) (.pair (.int .i64) .unit))))))] 41 (restr [0, 3, 2] 0 st)).bind fun x => iter (fun v r => regex_parser_cat_g2 N self ((fun x => x.2.1) x) v r K) N ((fun x => (x.1, x.2.2.1)) x)

noncomputable def regex_parser_cat_t2 (N : Nat) (self : regex_parser_alt_Self) : Tab ((Int × ((List Int) × ((List Tree) × (Int × (Int × Unit))))) × (((List UInt8) × (Int × (Int × Unit))) × Unit)) := [([0, 0, 0, 0, 1, 1], regex_parser_cat_h3 N self)]

theorem regex_parser_cat_ok2 {N : Nat} {self : regex_parser_alt_Self} {c : Ctx} (hb : Base Go.Proofs.Tryd.prog (regex_parser_cat_E N self) c) : CodeOk Go.Proofs.Tryd.prog c (nodeAt regex_parser_cat_body [0, 0, 1, 1]) (regex_parser_cat_h2 N self) :=
  loop_ok (s := [(0, .box (.pair .str (.pair (.int .i64) (.pair (.int .i64) .unit)))), (1, .box (.pair (.int .i64) (.pair (.arr 4 (.int .u64)) (.pair (.sl .nod) (.pair (.int .i64) (.pair (.int .i64) .unit)))))), (0, .row (.pair (.int .i64) (.pair (.arr 4 (.int .u64)) (.pair (.sl .nod) (.pair (.int .i64) (.pair (.int .i64) .unit))))))]) (m := 41) (regex_parser_cat_g2 N self) [0, 3, 2] N (fun x => x.2.1) (fun x => (x.1, x.2.2.1)) (fun i v => (v.1, i, v.2, ())) (fun _ => rfl) (evN_sound hb N (regex_parser_cat_t2 N self) regex_parser_cat_L regex_parser_cat_body (TabOk.cons (regex_parser_cat_ok3 hb) TabOk.nil) [0, 0, 0, 1, 1] _ rfl) (fun i v r K => by kernel_rfl)

noncomputable def regex_parser_cat_p1 (N : Nat) (self : regex_parser_alt_Self) (p : ((List UInt8) × (Int × (Int × Unit)))) (x2 : (Int × ((List Int) × ((List Tree) × (Int × (Int × Unit)))))) (parts : (List (Int × ((List Int) × ((List Tree) × (Int × (Int × Unit))))))) (k0 : ((List UInt8) × (Int × (Int × Unit))) → (List (Int × ((List Int) × ((List Tree) × (Int × (Int × Unit)))))) → Option ((Int × ((List Int) × ((List Tree) × (Int × (Int × Unit))))) × (((List UInt8) × (Int × (Int × Unit))) × Unit))) : Option ((Int × ((List Int) × ((List Tree) × (Int × (Int × Unit))))) × (((List UInt8) × (Int × (Int × Unit))) × Unit)) :=
 regex_parser_cat_p2 N self p x2 parts
 (fun p1 parts1 => k0 p1 parts1)

noncomputable def regex_parser_cat_g1 (N : Nat) (self : regex_parser_alt_Self) (x : denS [(0, .box (.pair .str (.pair (.int .i64) (.pair (.int .i64) .unit)))), (1, .box (.pair (.int .i64) (.pair (.arr 4 (.int .u64)) (.pair (.sl .nod) (.pair (.int .i64) (.pair (.int .i64) .unit)))))), (0, .row (.pair (.int .i64) (.pair (.arr 4 (.int .u64)) (.pair (.sl .nod) (.pair (.int .i64) (.pair (.int .i64) .unit))))))]) (K : Ex → List A → Option ((Int × ((List Int) × ((List Tree) × (Int × (Int × Unit))))) × (((List UInt8) × (Int × (Int × Unit))) × Unit))) : Option ((Int × ((List Int) × ((List Tree) × (Int × (Int × Unit))))) × (((List UInt8) × (Int × (Int × Unit))) × Unit)) :=
 regex_parser_cat_p1 N self x.1 x.2.1 x.2.2.1 (fun a0 a2 => (K .normal (mkS [(0, .box (.pair .str (.pair (.int .i64) (.pair (.int .i64) .unit)))), (1, .box (.pair (.int .i64) (.pair (.arr 4 (.int .u64)) (.pair (.sl .nod) (.pair (.int .i64) (.pair (.int .i64) .unit)))))), (0, .row (.pair (.int .i64) (.pair (.arr 4 (.int .u64)) (.pair (.sl .nod) (.pair (.int .i64) (.pair (.int .i64) .unit))))))] 41 (a0, x.2.1, a2, ()))))

noncomputable def regex_parser_cat_h1 (N : Nat) (self : regex_parser_alt_Self) : Hd ((Int × ((List Int) × ((List Tree) × (Int × (Int × Unit))))) × (((List UInt8) × (Int × (Int × Unit))) × Unit)) := fun st K => (unS [(0, .box (.pair .str (.pair (.int .i64) (.pair (.int .i64) .unit)))), (1, .box (.pair (.int .i64) (.pair (.arr 4 (.int .u64)) (.pair (.sl .nod) (.pair (.int .i64) (.pair (.int .i64) .unit)))))), (0, .row (.pair (.int .i64) (.pair (.arr 4 (.int .u64)) (.pair (.sl .nod) (.pair (.int .i64) (.pair (.int .i64) .unit))))))] 41 (restr [0, 3, 2] 0 st)).bind fun x => regex_parser_cat_g1 N self x K

noncomputable def regex_parser_cat_t1 (N : Nat) (self : regex_parser_alt_Self) : Tab ((Int × ((List Int) × ((List Tree) × (Int × (Int × Unit))))) × (((List UInt8) × (Int × (Int × Unit))) × Unit)) := [([0, 0, 1, 1], regex_parser_cat_h2 N self)]

theorem regex_parser_cat_ok1 {N : Nat} {self : regex_parser_alt_Self} {c : Ctx} (hb : Base Go.Proofs.Tryd.prog (regex_parser_cat_E N self) c) : CodeOk Go.Proofs.Tryd.prog c (nodeAt regex_parser_cat_body [0, 1, 1]) (regex_parser_cat_h1 N self) :=
  piece_ok (s := [(0, .box (.pair .str (.pair (.int .i64) (.pair (.int .i64) .unit)))), (1, .box (.pair (.int .i64) (.pair (.arr 4 (.int .u64)) (.pair (.sl .nod) (.pair (.int .i64) (.pair (.int .i64) .unit)))))), (0, .row (.pair (.int .i64) (.pair (.arr 4 (.int .u64)) (.pair (.sl .nod) (.pair (.int .i64) (.pair (.int .i64) .unit))))))]) (m := 41) (g := regex_parser_cat_g1 N self) [0, 3, 2] (evN_sound hb N (regex_parser_cat_t1 N self) regex_parser_cat_L regex_parser_cat_body (TabOk.cons (regex_parser_cat_ok2 hb) TabOk.nil) [0, 1, 1] _ rfl) (fun x K => by kernel_rfl)

noncomputable def regex_parser_cat (N : Nat) (self : regex_parser_alt_Self) (p : ((List UInt8) × (Int × (Int × Unit)))) : Option ((Int × ((List Int) × ((List Tree) × (Int × (Int × Unit))))) × (((List UInt8) × (Int × (Int × Unit))) × Unit)) :=
 regex_parser_cat_p1 N self p ((0 : Int), (([(0 : Int), (0 : Int), (0 : Int), (0 : Int)] : List Int), (([] : List Go.Lift.Tree), ((0 : Int), ((0 : Int), ()))))) ([] : List (Int × ((List Int) × ((List Go.Lift.Tree) × (Int × (Int × Unit))))))
 (fun p1 parts => (regex_join N (2 : Int) (List.map Go.Lift.foN parts)).bind fun y =>
 some (y, (p1, ())))

noncomputable def regex_parser_cat_t (N : Nat) (self : regex_parser_alt_Self) : Tab ((Int × ((List Int) × ((List Tree) × (Int × (Int × Unit))))) × (((List UInt8) × (Int × (Int × Unit))) × Unit)) := [([0, 1, 1], regex_parser_cat_h1 N self)]

theorem regex_parser_cat_link (N : Nat) (self : regex_parser_alt_Self) (x : denS [(0, .box (.pair .str (.pair (.int .i64) (.pair (.int .i64) .unit))))]) : evFX (regex_parser_cat_E N self) N (regex_parser_cat_t N self) regex_parser_cat_L Go.Proofs.Tryd.f25 (mkS [(0, .box (.pair .str (.pair (.int .i64) (.pair (.int .i64) .unit))))] 0 x) (kResB (.v (.pair (.int .i64) (.pair (.arr 4 (.int .u64)) (.pair (.sl .nod) (.pair (.int .i64) (.pair (.int .i64) .unit)))))) [(0, .box (.pair .str (.pair (.int .i64) (.pair (.int .i64) .unit))))] 0) = regex_parser_cat N self x.1 := by kernel_rfl

noncomputable def regex_parser_cat_res (N : Nat) (self : regex_parser_alt_Self) : List A → Res := resOf [(0, .box (.pair .str (.pair (.int .i64) (.pair (.int .i64) .unit))))] (fun x => regex_parser_cat N self x.1) (oResB (.v (.pair (.int .i64) (.pair (.arr 4 (.int .u64)) (.pair (.sl .nod) (.pair (.int .i64) (.pair (.int .i64) .unit)))))) [(0, .box (.pair .str (.pair (.int .i64) (.pair (.int .i64) .unit))))] 0)

theorem regex_parser_cat_ct (N : Nat) (self : regex_parser_alt_Self) (hself : Contract Go.Proofs.Tryd.prog glob 19 (resOf [(0, .box (.pair .str (.pair (.int .i64) (.pair (.int .i64) .unit))))] (fun x => self x.1) (oResB (.v (.pair (.int .i64) (.pair (.arr 4 (.int .u64)) (.pair (.sl .nod) (.pair (.int .i64) (.pair (.int .i64) .unit)))))) [(0, .box (.pair .str (.pair (.int .i64) (.pair (.int .i64) .unit))))] 0))) : Contract Go.Proofs.Tryd.prog glob 25 (regex_parser_cat_res N self) :=
  Contract.of (E := regex_parser_cat_E N self) (H := regex_parser_cat_t N self) (L := regex_parser_cat_L) (N := N) (body := regex_parser_cat_body) (K := (kResB (.v (.pair (.int .i64) (.pair (.arr 4 (.int .u64)) (.pair (.sl .nod) (.pair (.int .i64) (.pair (.int .i64) .unit)))))) [(0, .box (.pair .str (.pair (.int .i64) (.pair (.int .i64) .unit))))] 0)) (regex_parser_cat_Eok N self hself) Go.Proofs.Tryd.func25 (by kernel_rfl) (by decide) (fun _ hb => (TabOk.cons (regex_parser_cat_ok1 hb) TabOk.nil)) (fun x y h => by rw [regex_parser_cat_link]; exact h) (kResB_ok (s := (.v (.pair (.int .i64) (.pair (.arr 4 (.int .u64)) (.pair (.sl .nod) (.pair (.int .i64) (.pair (.int .i64) .unit))))))) (os := [(0, .box (.pair .str (.pair (.int .i64) (.pair (.int .i64) .unit))))]) (m := 0))

noncomputable def regex_parser_alt_body : Code := (Go.Proofs.Tryd.f19.body).getD .skip

noncomputable def regex_parser_alt_L : List (List Nat × List Nat) := [([0], [0, 2]), ([0, 1], [0, 3, 2]), ([0, 0, 1, 1], [0, 3, 2]), ([0, 0, 0, 0, 0, 1, 1], [8, 3, 0, 2]), ([1, 0, 0, 0, 0, 1, 1], [3, 0, 2]), ([1, 1, 0, 0, 0, 0, 1, 1], [3, 2, 0]), ([0, 1, 0, 0, 0, 1, 1], [0, 3, 2]), ([1, 0, 0, 0, 1, 1], [0, 3, 2]), ([0, 1, 1], [3, 2, 0]), ([0, 1, 1, 1], [2, 0]), ([1, 1, 1, 1], [2, 0])]

noncomputable def regex_parser_alt_E (N : Nat) (self : ((List UInt8) × (Int × (Int × Unit))) → Option ((Int × ((List Int) × ((List Tree) × (Int × (Int × Unit))))) × (((List UInt8) × (Int × (Int × Unit))) × Unit))) : Env := mkEnv tys glob [(25, regex_parser_cat_res N self), (27, regex_join_res N), (26, regex_parser_skip_res N), (19, resOf [(0, .box (.pair .str (.pair (.int .i64) (.pair (.int .i64) .unit))))] (fun x => self x.1) (oResB (.v (.pair (.int .i64) (.pair (.arr 4 (.int .u64)) (.pair (.sl .nod) (.pair (.int .i64) (.pair (.int .i64) .unit)))))) [(0, .box (.pair .str (.pair (.int .i64) (.pair (.int .i64) .unit))))] 0))] [(3, (.pair (.int .i64) (.pair (.arr 4 (.int .u64)) (.pair (.sl .nod) (.pair (.int .i64) (.pair (.int .i64) .unit))))))] [] [0] false [] []

theorem regex_parser_alt_Eok (N : Nat) (self : ((List UInt8) × (Int × (Int × Unit))) → Option ((Int × ((List Int) × ((List Tree) × (Int × (Int × Unit))))) × (((List UInt8) × (Int × (Int × Unit))) × Unit))) (hself : Contract Go.Proofs.Tryd.prog glob 19 (resOf [(0, .box (.pair .str (.pair (.int .i64) (.pair (.int .i64) .unit))))] (fun x => self x.1) (oResB (.v (.pair (.int .i64) (.pair (.arr 4 (.int .u64)) (.pair (.sl .nod) (.pair (.int .i64) (.pair (.int .i64) .unit)))))) [(0, .box (.pair .str (.pair (.int .i64) (.pair (.int .i64) .unit))))] 0))) : EnvOk Go.Proofs.Tryd.prog (regex_parser_alt_E N self) := mkEnv_ok mixed tys_ok (FnsOk.cons (regex_parser_cat_ct N self hself) (FnsOk.cons (regex_join_ct N) (FnsOk.cons (regex_parser_skip_ct N) (FnsOk.cons (hself) (FnsOk.nil))))) (ItsOk.nil)

noncomputable def regex_parser_alt_s1 (N : Nat) (self : ((List UInt8) × (Int × (Int × Unit))) → Option ((Int × ((List Int) × ((List Tree) × (Int × (Int × Unit))))) × (((List UInt8) × (Int × (Int × Unit))) × Unit))) (x2 : (Int × ((List Int) × ((List Tree) × (Int × (Int × Unit)))))) (p : ((List UInt8) × (Int × (Int × Unit)))) (parts : (List (Int × ((List Int) × ((List Tree) × (Int × (Int × Unit))))))) (rec : ((List UInt8) × (Int × (Int × Unit))) → (List (Int × ((List Int) × ((List Tree) × (Int × (Int × Unit)))))) → Option ((Int × ((List Int) × ((List Tree) × (Int × (Int × Unit))))) × (((List UInt8) × (Int × (Int × Unit))) × Unit))) (k0 : ((List UInt8) × (Int × (Int × Unit))) → (List (Int × ((List Int) × ((List Tree) × (Int × (Int × Unit)))))) → Option ((Int × ((List Int) × ((List Tree) × (Int × (Int × Unit))))) × (((List UInt8) × (Int × (Int × Unit))) × Unit))) : Option ((Int × ((List Int) × ((List Tree) × (Int × (Int × Unit))))) × (((List UInt8) × (Int × (Int × Unit))) × Unit)) :=
 (regex_parser_skip N p (124 : Int)).bind fun y =>
 cond y.1
 ((regex_parser_cat N self y.2.1).bind fun y1 =>
 cond (decide ((((List.length parts) + 1) * 80) ≤ 70368744177664))
 (rec y1.2.1 (parts ++ ([y1.1] : List (Int × ((List Int) × ((List Go.Lift.Tree) × (Int × (Int × Unit))))))))
 (none))
 (k0 y.2.1 parts)

noncomputable def regex_parser_alt_p1 (N : Nat) (self : ((List UInt8) × (Int × (Int × Unit))) → Option ((Int × ((List Int) × ((List Tree) × (Int × (Int × Unit))))) × (((List UInt8) × (Int × (Int × Unit))) × Unit))) (p : ((List UInt8) × (Int × (Int × Unit)))) (x2 : (Int × ((List Int) × ((List Tree) × (Int × (Int × Unit)))))) (parts : (List (Int × ((List Int) × ((List Tree) × (Int × (Int × Unit))))))) (k0 : ((List UInt8) × (Int × (Int × Unit))) → (List (Int × ((List Int) × ((List Tree) × (Int × (Int × Unit)))))) → Option ((Int × ((List Int) × ((List Tree) × (Int × (Int × Unit))))) × (((List UInt8) × (Int × (Int × Unit))) × Unit))) : Option ((Int × ((List Int) × ((List Tree) × (Int × (Int × Unit))))) × (((List UInt8) × (Int × (Int × Unit))) × Unit)) :=
 iter (fun (v : (((List UInt8) × (Int × (Int × Unit))) × (List (Int × ((List Int) × ((List Tree) × (Int × (Int × Unit)))))))) r => regex_parser_alt_s1 N self x2 v.1 v.2 (fun p parts => (r (p, parts))) k0) N (p, parts)

noncomputable def regex_parser_alt_g1 (N : Nat) (self : ((List UInt8) × (Int × (Int × Unit))) → Option ((Int × ((List Int) × ((List Tree) × (Int × (Int × Unit))))) × (((List UInt8) × (Int × (Int × Unit))) × Unit))) (i : (Int × ((List Int) × ((List Tree) × (Int × (Int × Unit)))))) (v : (((List UInt8) × (Int × (Int × Unit))) × (List (Int × ((List Int) × ((List Tree) × (Int × (Int × Unit)))))))) (r : (((List UInt8) × (Int × (Int × Unit))) × (List (Int × ((List Int) × ((List Tree) × (Int × (Int × Unit))))))) → Option ((Int × ((List Int) × ((List Tree) × (Int × (Int × Unit))))) × (((List UInt8) × (Int × (Int × Unit))) × Unit))) (K : Ex → List A → Option ((Int × ((List Int) × ((List Tree) × (Int × (Int × Unit))))) × (((List UInt8) × (Int × (Int × Unit))) × Unit))) : Option ((Int × ((List Int) × ((List Tree) × (Int × (Int × Unit))))) × (((List UInt8) × (Int × (Int × Unit))) × Unit)) :=
 regex_parser_alt_s1 N self i v.1 v.2 (fun p parts => (r (p, parts))) (fun a0 a2 => (K (.exit 0) (mkS [(0, .box (.pair .str (.pair (.int .i64) (.pair (.int .i64) .unit)))), (1, .box (.pair (.int .i64) (.pair (.arr 4 (.int .u64)) (.pair (.sl .nod) (.pair (.int .i64) (.pair (.int .i64) .unit)))))), (0, .row (.pair (.int .i64) (.pair (.arr 4 (.int .u64)) (.pair (.sl .nod) (.pair (.int .i64) (.pair (.int .i64) .unit))))))] 12 (a0, i, a2, ()))))

noncomputable def regex_parser_alt_h1 (N : Nat) (self : ((List UInt8) × (Int × (Int × Unit))) → Option ((Int × ((List Int) × ((List Tree) × (Int × (Int × Unit))))) × (((List UInt8) × (Int × (Int × Unit))) × Unit))) : Hd ((Int × ((List Int) × ((List Tree) × (Int × (Int × Unit))))) × (((List UInt8) × (Int × (Int × Unit))) × Unit)) := fun st K => (unS [(0, .box (.pair .str (.pair (.int .i64) (.pair (.int .i64) .unit)))), (1, .box (.pair (.int .i64) (.pair (.arr 4 (.int .u64)) (.pair (.sl .nod) (.pair (.int .i64) (.pair (.int .i64) .unit)))))), (0, .row (.pair (.int .i64) (.pair (.arr 4 (.int .u64)) (.pair (.sl .nod) (.pair (.int .i64) (.pair (.int .i64) .unit))))))] 12 (restr [0, 3, 2] 0 st)).bind fun x => iter (fun v r => regex_parser_alt_g1 N self ((fun x => x.2.1) x) v r K) N ((fun x => (x.1, x.2.2.1)) x)

noncomputable def regex_parser_alt_t1 (N : Nat) (self : ((List UInt8) × (Int × (Int × Unit))) → Option ((Int × ((List Int) × ((List Tree) × (Int × (Int × Unit))))) × (((List UInt8) × (Int × (Int × Unit))) × Unit))) : Tab ((Int × ((List Int) × ((List Tree) × (Int × (Int × Unit))))) × (((List UInt8) × (Int × (Int × Unit))) × Unit)) := []

theorem regex_parser_alt_ok1 {N : Nat} {self : ((List UInt8) × (Int × (Int × Unit))) → Option ((Int × ((List Int) × ((List Tree) × (Int × (Int × Unit))))) × (((List UInt8) × (Int × (Int × Unit))) × Unit))} {c : Ctx} (hb : Base Go.Proofs.Tryd.prog (regex_parser_alt_E N self) c) : CodeOk Go.Proofs.Tryd.prog c (nodeAt regex_parser_alt_body [0, 0, 1, 1]) (regex_parser_alt_h1 N self) :=
  loop_ok (s := [(0, .box (.pair .str (.pair (.int .i64) (.pair (.int .i64) .unit)))), (1, .box (.pair (.int .i64) (.pair (.arr 4 (.int .u64)) (.pair (.sl .nod) (.pair (.int .i64) (.pair (.int .i64) .unit)))))), (0, .row (.pair (.int .i64) (.pair (.arr 4 (.int .u64)) (.pair (.sl .nod) (.pair (.int .i64) (.pair (.int .i64) .unit))))))]) (m := 12) (regex_parser_alt_g1 N self) [0, 3, 2] N (fun x => x.2.1) (fun x => (x.1, x.2.2.1)) (fun i v => (v.1, i, v.2, ())) (fun _ => rfl) (evN_sound hb N (regex_parser_alt_t1 N self) regex_parser_alt_L regex_parser_alt_body TabOk.nil [0, 0, 0, 1, 1] _ rfl) (fun i v r K => by kernel_rfl)

noncomputable def regex_parser_alt_F (N : Nat) (self : ((List UInt8) × (Int × (Int × Unit))) → Option ((Int × ((List Int) × ((List Tree) × (Int × (Int × Unit))))) × (((List UInt8) × (Int × (Int × Unit))) × Unit))) (p : ((List UInt8) × (Int × (Int × Unit)))) : Option ((Int × ((List Int) × ((List Tree) × (Int × (Int × Unit))))) × (((List UInt8) × (Int × (Int × Unit))) × Unit)) :=
 (regex_parser_cat N self p).bind fun y =>
 regex_parser_alt_p1 N self y.2.1 ((0 : Int), (([(0 : Int), (0 : Int), (0 : Int), (0 : Int)] : List Int), (([] : List Go.Lift.Tree), ((0 : Int), ((0 : Int), ()))))) ([y.1] : List (Int × ((List Int) × ((List Go.Lift.Tree) × (Int × (Int × Unit))))))
 (fun p1 parts => (regex_join N (3 : Int) (List.map Go.Lift.foN parts)).bind fun y1 =>
 some (y1, (p1, ())))

noncomputable def regex_parser_alt_t (N : Nat) (self : ((List UInt8) × (Int × (Int × Unit))) → Option ((Int × ((List Int) × ((List Tree) × (Int × (Int × Unit))))) × (((List UInt8) × (Int × (Int × Unit))) × Unit))) : Tab ((Int × ((List Int) × ((List Tree) × (Int × (Int × Unit))))) × (((List UInt8) × (Int × (Int × Unit))) × Unit)) := [([0, 0, 1, 1], regex_parser_alt_h1 N self)]

theorem regex_parser_alt_link (N : Nat) (self : ((List UInt8) × (Int × (Int × Unit))) → Option ((Int × ((List Int) × ((List Tree) × (Int × (Int × Unit))))) × (((List UInt8) × (Int × (Int × Unit))) × Unit))) (x : denS [(0, .box (.pair .str (.pair (.int .i64) (.pair (.int .i64) .unit))))]) : evFX (regex_parser_alt_E N self) N (regex_parser_alt_t N self) regex_parser_alt_L Go.Proofs.Tryd.f19 (mkS [(0, .box (.pair .str (.pair (.int .i64) (.pair (.int .i64) .unit))))] 0 x) (kResB (.v (.pair (.int .i64) (.pair (.arr 4 (.int .u64)) (.pair (.sl .nod) (.pair (.int .i64) (.pair (.int .i64) .unit)))))) [(0, .box (.pair .str (.pair (.int .i64) (.pair (.int .i64) .unit))))] 0) = regex_parser_alt_F N self x.1 := by kernel_rfl

noncomputable def regex_parser_alt : Nat → ((List UInt8) × (Int × (Int × Unit))) → Option ((Int × ((List Int) × ((List Tree) × (Int × (Int × Unit))))) × (((List UInt8) × (Int × (Int × Unit))) × Unit))
  | 0 => fun _ => none
  | N + 1 => regex_parser_alt_F (N + 1) (regex_parser_alt N)

noncomputable def regex_parser_alt_res (N : Nat) : List A → Res := resOf [(0, .box (.pair .str (.pair (.int .i64) (.pair (.int .i64) .unit))))] (fun x => regex_parser_alt N x.1) (oResB (.v (.pair (.int .i64) (.pair (.arr 4 (.int .u64)) (.pair (.sl .nod) (.pair (.int .i64) (.pair (.int .i64) .unit)))))) [(0, .box (.pair .str (.pair (.int .i64) (.pair (.int .i64) .unit))))] 0)

theorem regex_parser_alt_ct : ∀ N : Nat, Contract Go.Proofs.Tryd.prog glob 19 (regex_parser_alt_res N)
  | 0 => Contract.zero Go.Proofs.Tryd.func19 (body := regex_parser_alt_body) (by kernel_rfl) (by decide) (fun _ => rfl)
  | N + 1 => Contract.of (E := regex_parser_alt_E (N + 1) (regex_parser_alt N)) (H := regex_parser_alt_t (N + 1) (regex_parser_alt N)) (L := regex_parser_alt_L) (N := (N + 1)) (body := regex_parser_alt_body) (K := (kResB (.v (.pair (.int .i64) (.pair (.arr 4 (.int .u64)) (.pair (.sl .nod) (.pair (.int .i64) (.pair (.int .i64) .unit)))))) [(0, .box (.pair .str (.pair (.int .i64) (.pair (.int .i64) .unit))))] 0)) (regex_parser_alt_Eok (N + 1) (regex_parser_alt N) (regex_parser_alt_ct N)) Go.Proofs.Tryd.func19 (by kernel_rfl) (by decide) (fun _ hb => (TabOk.cons (regex_parser_alt_ok1 hb) TabOk.nil)) (fun x y h => by rw [regex_parser_alt_link]; exact h) (kResB_ok (s := (.v (.pair (.int .i64) (.pair (.arr 4 (.int .u64)) (.pair (.sl .nod) (.pair (.int .i64) (.pair (.int .i64) .unit))))))) (os := [(0, .box (.pair .str (.pair (.int .i64) (.pair (.int .i64) .unit))))]) (m := 0))

noncomputable def porterref13_among_body : Code := (Go.Proofs.Tryd.f47.body).getD .skip

noncomputable def porterref13_among_L : List (List Nat × List Nat) := [([0], [1, 0]), ([0, 0, 1], [5, 1, 0]), ([0, 1, 0, 1], [5, 1, 0]), ([0, 0, 0, 0, 1, 0, 1], [9, 1, 5, 0]), ([1, 0, 0, 0, 1, 0, 1], [1, 5, 0]), ([1, 1, 0, 0, 0, 1, 0, 1], []), ([0, 0, 0, 1, 0, 0, 1, 0, 1], [16, 5, 1, 0]), ([1, 0, 0, 1, 0, 0, 1, 0, 1], [5, 1, 0]), ([0, 0, 1, 0, 0, 1, 0, 0, 1, 0, 1], [4]), ([1, 0, 1, 0, 0, 1, 0, 0, 1, 0, 1], [4]), ([0, 1, 0, 0, 1, 0, 1], [5, 1, 0]), ([1, 1, 0, 0, 1, 0, 1], [5, 1, 0]), ([1, 0, 1], []), ([0, 1, 1], [4]), ([1, 1, 1], [4])]

noncomputable def porterref13_among_E (N : Nat) : Env := mkEnv tys glob [] [] [] [] false [] []

theorem porterref13_among_Eok (N : Nat) : EnvOk Go.Proofs.Tryd.prog (porterref13_among_E N) := mkEnv_ok mixed tys_ok (FnsOk.nil) (ItsOk.nil)

noncomputable def porterref13_among_s1 (N : Nat) (b : Int) (l : (List UInt8)) (i : Int) (rec : Int → Option Bool) (k0 : Bool → Option Bool) (k1 : Option Bool) : Option Bool :=
 cond (decide (i < (((List.length l) : Nat) : Int)))
 (cond (Go.Lift.inR i (List.length l))
 (cond ((((UInt8.toNat (List.getD l (Int.toNat i) (0 : UInt8))) : Nat) : Int) == b)
 (k0 true)
 (rec (Go.IntKind.wrap Go.IntKind.i64 (i + (1 : Int)))))
 (none))
 (k1)

noncomputable def porterref13_among_p1 (N : Nat) (b : Int) (l : (List UInt8)) (i : Int) (k0 : Bool → Option Bool) (k1 : Option Bool) : Option Bool :=
 iter (fun (v : Int) r => porterref13_among_s1 N b l v (fun i => (r i)) k0 k1) N i

noncomputable def porterref13_among_g1 (N : Nat) (i : (Int × (List UInt8))) (v : Int) (r : Int → Option Bool) (K : Ex → List A → Option Bool) : Option Bool :=
 porterref13_among_s1 N i.1 i.2 v (fun i => (r i)) (fun a0 => (K .ret (mkS [(4, .v .bool)] 12 (a0, ())))) (K (.exit 0) (mkS [] 17 ()))

noncomputable def porterref13_among_h1 (N : Nat) : Hd Bool := fun st K => (unS [(0, .v (.int .u8)), (0, .v .str), (3, .v (.int .i64))] 11 (restr [5, 1, 0] 0 st)).bind fun x => iter (fun v r => porterref13_among_g1 N ((fun x => (x.1, x.2.1)) x) v r K) N ((fun x => x.2.2.1) x)

noncomputable def porterref13_among_t1 (N : Nat) : Tab Bool := []

theorem porterref13_among_ok1 {N : Nat} {c : Ctx} (hb : Base Go.Proofs.Tryd.prog (porterref13_among_E N) c) : CodeOk Go.Proofs.Tryd.prog c (nodeAt porterref13_among_body [0, 1, 0, 1]) (porterref13_among_h1 N) :=
  loop_ok (s := [(0, .v (.int .u8)), (0, .v .str), (3, .v (.int .i64))]) (m := 11) (porterref13_among_g1 N) [5, 1, 0] N (fun x => (x.1, x.2.1)) (fun x => x.2.2.1) (fun i v => (i.1, i.2, v, ())) (fun _ => rfl) (evN_sound hb N (porterref13_among_t1 N) porterref13_among_L porterref13_among_body TabOk.nil [0, 0, 1, 0, 1] _ rfl) (fun i v r K => by kernel_rfl)

noncomputable def porterref13_among (N : Nat) (b : Int) (l : (List UInt8)) : Option Bool :=
 porterref13_among_p1 N b l (0 : Int)
 (fun x4 => some x4)
 (some false)

noncomputable def porterref13_among_t (N : Nat) : Tab Bool := [([0, 1, 0, 1], porterref13_among_h1 N)]

theorem porterref13_among_link (N : Nat) (x : denS [(0, .v (.int .u8)), (0, .v .str)]) : evFX (porterref13_among_E N) N (porterref13_among_t N) porterref13_among_L Go.Proofs.Tryd.f47 (mkS [(0, .v (.int .u8)), (0, .v .str)] 0 x) (kRes (.v .bool) 2) = porterref13_among N x.1 x.2.1 := by kernel_rfl

noncomputable def porterref13_among_res (N : Nat) : List A → Res := resOf [(0, .v (.int .u8)), (0, .v .str)] (fun x => porterref13_among N x.1 x.2.1) (oRes (.v .bool) 2)

theorem porterref13_among_ct (N : Nat) : Contract Go.Proofs.Tryd.prog glob 47 (porterref13_among_res N) :=
  Contract.of (E := porterref13_among_E N) (H := porterref13_among_t N) (L := porterref13_among_L) (N := N) (body := porterref13_among_body) (K := (kRes (.v .bool) 2)) (porterref13_among_Eok N) Go.Proofs.Tryd.func47 (by kernel_rfl) (by decide) (fun _ hb => (TabOk.cons (porterref13_among_ok1 hb) TabOk.nil)) (fun x y h => by rw [porterref13_among_link]; exact h) (kRes_ok (s := (.v .bool)) (m := 2))

noncomputable def porterref13_bad_body : Code := (Go.Proofs.Tryd.f31.body).getD .skip

noncomputable def porterref13_bad_L : List (List Nat × List Nat) := [([0], [0, 1, 4]), ([0, 1], [4]), ([1, 1], [4])]

noncomputable def porterref13_bad_E (N : Nat) : Env := mkEnv tys glob [] [] [] [] false [] []

theorem porterref13_bad_Eok (N : Nat) : EnvOk Go.Proofs.Tryd.prog (porterref13_bad_E N) := mkEnv_ok mixed tys_ok (FnsOk.nil) (ItsOk.nil)

noncomputable def porterref13_bad (N : Nat) (e : Int) (at_ : Int) : Option ((Int × ((List Int) × ((List Tree) × (Int × (Int × Unit))))) × ((List Int) × (Bool × (Int × ((Int × (Int × Unit)) × Unit))))) :=
 some (((0 : Int), (([(0 : Int), (0 : Int), (0 : Int), (0 : Int)] : List Int), (([] : List Go.Lift.Tree), ((0 : Int), ((0 : Int), ()))))), (([(0 : Int), (0 : Int), (0 : Int), (0 : Int)] : List Int), (false, ((0 : Int), ((e, (at_, ())), ())))))

noncomputable def porterref13_bad_t (N : Nat) : Tab ((Int × ((List Int) × ((List Tree) × (Int × (Int × Unit))))) × ((List Int) × (Bool × (Int × ((Int × (Int × Unit)) × Unit))))) := []

theorem porterref13_bad_link (N : Nat) (x : denS [(0, .v (.int .i64)), (0, .v (.int .i64))]) : evFX (porterref13_bad_E N) N (porterref13_bad_t N) porterref13_bad_L Go.Proofs.Tryd.f31 (mkS [(0, .v (.int .i64)), (0, .v (.int .i64))] 0 x) (kRes (.v (.pair (.pair (.int .i64) (.pair (.arr 4 (.int .u64)) (.pair (.sl .nod) (.pair (.int .i64) (.pair (.int .i64) .unit))))) (.pair (.arr 4 (.int .u64)) (.pair .bool (.pair (.int .i64) (.pair (.pair (.int .i64) (.pair (.int .i64) .unit)) .unit)))))) 2) = porterref13_bad N x.1 x.2.1 := by kernel_rfl

noncomputable def porterref13_bad_res (N : Nat) : List A → Res := resOf [(0, .v (.int .i64)), (0, .v (.int .i64))] (fun x => porterref13_bad N x.1 x.2.1) (oRes (.v (.pair (.pair (.int .i64) (.pair (.arr 4 (.int .u64)) (.pair (.sl .nod) (.pair (.int .i64) (.pair (.int .i64) .unit))))) (.pair (.arr 4 (.int .u64)) (.pair .bool (.pair (.int .i64) (.pair (.pair (.int .i64) (.pair (.int .i64) .unit)) .unit)))))) 2)

theorem porterref13_bad_ct (N : Nat) : Contract Go.Proofs.Tryd.prog glob 31 (porterref13_bad_res N) :=
  Contract.of (E := porterref13_bad_E N) (H := porterref13_bad_t N) (L := porterref13_bad_L) (N := N) (body := porterref13_bad_body) (K := (kRes (.v (.pair (.pair (.int .i64) (.pair (.arr 4 (.int .u64)) (.pair (.sl .nod) (.pair (.int .i64) (.pair (.int .i64) .unit))))) (.pair (.arr 4 (.int .u64)) (.pair .bool (.pair (.int .i64) (.pair (.pair (.int .i64) (.pair (.int .i64) .unit)) .unit)))))) 2)) (porterref13_bad_Eok N) Go.Proofs.Tryd.func31 (by kernel_rfl) (by decide) (fun _ hb => TabOk.nil) (fun x y h => by rw [porterref13_bad_link]; exact h) (kRes_ok (s := (.v (.pair (.pair (.int .i64) (.pair (.arr 4 (.int .u64)) (.pair (.sl .nod) (.pair (.int .i64) (.pair (.int .i64) .unit))))) (.pair (.arr 4 (.int .u64)) (.pair .bool (.pair (.int .i64) (.pair (.pair (.int .i64) (.pair (.int .i64) .unit)) .unit))))))) (m := 2))

noncomputable def porterref13_other_body : Code := (Go.Proofs.Tryd.f22.body).getD .skip

noncomputable def porterref13_other_L : List (List Nat × List Nat) := [([0], [1, 0, 4]), ([0, 0, 1], [8, 0, 4, 1]), ([1, 0, 1], [1, 4]), ([0, 0, 1, 0, 1], [4]), ([1, 0, 1, 0, 1], [4]), ([0, 1, 1], [4]), ([1, 1, 1], [4])]

noncomputable def porterref13_other_E (N : Nat) : Env := mkEnv tys glob [(31, porterref13_bad_res N)] [] [] [] false [] []

theorem porterref13_other_Eok (N : Nat) : EnvOk Go.Proofs.Tryd.prog (porterref13_other_E N) := mkEnv_ok mixed tys_ok (FnsOk.cons (porterref13_bad_ct N) (FnsOk.nil)) (ItsOk.nil)

noncomputable def porterref13_other (N : Nat) (s : (List UInt8)) (at_ : Int) : Option ((Int × ((List Int) × ((List Tree) × (Int × (Int × Unit))))) × ((List Int) × (Bool × (Int × ((Int × (Int × Unit)) × Unit))))) :=
 cond (decide ((((List.length s) : Nat) : Int) ≤ at_))
 (some (((0 : Int), (([(0 : Int), (0 : Int), (0 : Int), (0 : Int)] : List Int), (([] : List Go.Lift.Tree), ((0 : Int), ((0 : Int), ()))))), (([(0 : Int), (0 : Int), (0 : Int), (0 : Int)] : List Int), (false, ((0 : Int), (((1 : Int), ((((List.length s) : Nat) : Int), ())), ()))))))
 (some (((0 : Int), (([(0 : Int), (0 : Int), (0 : Int), (0 : Int)] : List Int), (([] : List Go.Lift.Tree), ((0 : Int), ((0 : Int), ()))))), (([(0 : Int), (0 : Int), (0 : Int), (0 : Int)] : List Int), (false, ((0 : Int), (((2 : Int), (at_, ())), ()))))))

noncomputable def porterref13_other_t (N : Nat) : Tab ((Int × ((List Int) × ((List Tree) × (Int × (Int × Unit))))) × ((List Int) × (Bool × (Int × ((Int × (Int × Unit)) × Unit))))) := []

theorem porterref13_other_link (N : Nat) (x : denS [(0, .v .str), (0, .v (.int .i64))]) : evFX (porterref13_other_E N) N (porterref13_other_t N) porterref13_other_L Go.Proofs.Tryd.f22 (mkS [(0, .v .str), (0, .v (.int .i64))] 0 x) (kRes (.v (.pair (.pair (.int .i64) (.pair (.arr 4 (.int .u64)) (.pair (.sl .nod) (.pair (.int .i64) (.pair (.int .i64) .unit))))) (.pair (.arr 4 (.int .u64)) (.pair .bool (.pair (.int .i64) (.pair (.pair (.int .i64) (.pair (.int .i64) .unit)) .unit)))))) 2) = porterref13_other N x.1 x.2.1 := by kernel_rfl

noncomputable def porterref13_other_res (N : Nat) : List A → Res := resOf [(0, .v .str), (0, .v (.int .i64))] (fun x => porterref13_other N x.1 x.2.1) (oRes (.v (.pair (.pair (.int .i64) (.pair (.arr 4 (.int .u64)) (.pair (.sl .nod) (.pair (.int .i64) (.pair (.int .i64) .unit))))) (.pair (.arr 4 (.int .u64)) (.pair .bool (.pair (.int .i64) (.pair (.pair (.int .i64) (.pair (.int .i64) .unit)) .unit)))))) 2)

theorem porterref13_other_ct (N : Nat) : Contract Go.Proofs.Tryd.prog glob 22 (porterref13_other_res N) :=
  Contract.of (E := porterref13_other_E N) (H := porterref13_other_t N) (L := porterref13_other_L) (N := N) (body := porterref13_other_body) (K := (kRes (.v (.pair (.pair (.int .i64) (.pair (.arr 4 (.int .u64)) (.pair (.sl .nod) (.pair (.int .i64) (.pair (.int .i64) .unit))))) (.pair (.arr 4 (.int .u64)) (.pair .bool (.pair (.int .i64) (.pair (.pair (.int .i64) (.pair (.int .i64) .unit)) .unit)))))) 2)) (porterref13_other_Eok N) Go.Proofs.Tryd.func22 (by kernel_rfl) (by decide) (fun _ hb => TabOk.nil) (fun x y h => by rw [porterref13_other_link]; exact h) (kRes_ok (s := (.v (.pair (.pair (.int .i64) (.pair (.arr 4 (.int .u64)) (.pair (.sl .nod) (.pair (.int .i64) (.pair (.int .i64) .unit))))) (.pair (.arr 4 (.int .u64)) (.pair .bool (.pair (.int .i64) (.pair (.pair (.int .i64) (.pair (.int .i64) .unit)) .unit))))))) (m := 2))

noncomputable def porterref13_is_body : Code := (Go.Proofs.Tryd.f29.body).getD .skip

noncomputable def porterref13_is_L : List (List Nat × List Nat) := [([0], [1, 0, 2]), ([0, 1], [6]), ([1, 1], [6])]

noncomputable def porterref13_is_E (N : Nat) : Env := mkEnv tys glob [] [] [] [] false [] []

theorem porterref13_is_Eok (N : Nat) : EnvOk Go.Proofs.Tryd.prog (porterref13_is_E N) := mkEnv_ok mixed tys_ok (FnsOk.nil) (ItsOk.nil)

noncomputable def porterref13_is (N : Nat) (s : (List UInt8)) (at_ : Int) (b : Int) : Option Bool :=
 cond (decide (at_ < (((List.length s) : Nat) : Int)))
 (cond (Go.Lift.inR at_ (List.length s))
 (some ((((UInt8.toNat (List.getD s (Int.toNat at_) (0 : UInt8))) : Nat) : Int) == b))
 (none))
 (some false)

noncomputable def porterref13_is_t (N : Nat) : Tab Bool := []

theorem porterref13_is_link (N : Nat) (x : denS [(0, .v .str), (0, .v (.int .i64)), (0, .v (.int .u8))]) : evFX (porterref13_is_E N) N (porterref13_is_t N) porterref13_is_L Go.Proofs.Tryd.f29 (mkS [(0, .v .str), (0, .v (.int .i64)), (0, .v (.int .u8))] 0 x) (kRes (.v .bool) 3) = porterref13_is N x.1 x.2.1 x.2.2.1 := by kernel_rfl

noncomputable def porterref13_is_res (N : Nat) : List A → Res := resOf [(0, .v .str), (0, .v (.int .i64)), (0, .v (.int .u8))] (fun x => porterref13_is N x.1 x.2.1 x.2.2.1) (oRes (.v .bool) 3)

theorem porterref13_is_ct (N : Nat) : Contract Go.Proofs.Tryd.prog glob 29 (porterref13_is_res N) :=
  Contract.of (E := porterref13_is_E N) (H := porterref13_is_t N) (L := porterref13_is_L) (N := N) (body := porterref13_is_body) (K := (kRes (.v .bool) 3)) (porterref13_is_Eok N) Go.Proofs.Tryd.func29 (by kernel_rfl) (by decide) (fun _ hb => TabOk.nil) (fun x y h => by rw [porterref13_is_link]; exact h) (kRes_ok (s := (.v .bool)) (m := 3))

noncomputable def porterref12_Has_body : Code := (Go.Proofs.Tryd.f71.body).getD .skip

noncomputable def porterref12_Has_L : List (List Nat × List Nat) := [([0], [1, 2]), ([0, 1], [1, 5]), ([0, 0, 1, 1], [6, 1, 5]), ([0, 1, 0, 1, 1], [6, 1, 5]), ([0, 0, 0, 0, 1, 0, 1, 1], [14, 5, 6, 1]), ([1, 0, 0, 0, 1, 0, 1, 1], [5, 6, 1]), ([1, 1, 0, 0, 0, 1, 0, 1, 1], [5]), ([0, 0, 1, 0, 0, 1, 0, 1, 1], [6, 1, 5]), ([0, 1, 0, 0, 1, 0, 1, 1], [6, 1, 5]), ([1, 1, 0, 0, 1, 0, 1, 1], [6, 1, 5]), ([1, 0, 1, 1], [5]), ([0, 1, 1, 1], [4]), ([1, 1, 1, 1], [4])]

noncomputable def porterref12_Has_E (N : Nat) : Env := mkEnv tys glob [] [] [] [] false [] []

theorem porterref12_Has_Eok (N : Nat) : EnvOk Go.Proofs.Tryd.prog (porterref12_Has_E N) := mkEnv_ok mixed tys_ok (FnsOk.nil) (ItsOk.nil)

noncomputable def porterref12_Has_s1 (N : Nat) (b : Int) (w : Int) (i : Int) (rec : Int → Int → Option Bool) (k0 : Int → Option Bool) : Option Bool :=
 cond (decide (i < (Int.tmod b (64 : Int))))
 (rec (Go.IntKind.wrap Go.IntKind.u64 (Int.tdiv w (2 : Int))) (Go.IntKind.wrap Go.IntKind.i64 (i + (1 : Int))))
 (k0 w)

noncomputable def porterref12_Has_p1 (N : Nat) (b : Int) (w : Int) (i : Int) (k0 : Int → Option Bool) : Option Bool :=
 iter (fun (v : (Int × Int)) r => porterref12_Has_s1 N b v.1 v.2 (fun w i => (r (w, i))) k0) N (w, i)

noncomputable def porterref12_Has_g1 (N : Nat) (i : Int) (v : (Int × Int)) (r : (Int × Int) → Option Bool) (K : Ex → List A → Option Bool) : Option Bool :=
 porterref12_Has_s1 N i v.1 v.2 (fun w i => (r (w, i))) (fun a0 => (K (.exit 0) (mkS [(5, .v (.int .u64))] 16 (a0, ()))))

noncomputable def porterref12_Has_h1 (N : Nat) : Hd Bool := fun st K => (unS [(1, .v (.int .i64)), (3, .v (.int .u64)), (0, .v (.int .i64))] 15 (restr [6, 1, 5] 0 st)).bind fun x => iter (fun v r => porterref12_Has_g1 N ((fun x => x.1) x) v r K) N ((fun x => (x.2.1, x.2.2.1)) x)

noncomputable def porterref12_Has_t1 (N : Nat) : Tab Bool := []

theorem porterref12_Has_ok1 {N : Nat} {c : Ctx} (hb : Base Go.Proofs.Tryd.prog (porterref12_Has_E N) c) : CodeOk Go.Proofs.Tryd.prog c (nodeAt porterref12_Has_body [0, 1, 0, 1, 1]) (porterref12_Has_h1 N) :=
  loop_ok (s := [(1, .v (.int .i64)), (3, .v (.int .u64)), (0, .v (.int .i64))]) (m := 15) (porterref12_Has_g1 N) [6, 1, 5] N (fun x => x.1) (fun x => (x.2.1, x.2.2.1)) (fun i v => (i, v.1, v.2, ())) (fun _ => rfl) (evN_sound hb N (porterref12_Has_t1 N) porterref12_Has_L porterref12_Has_body TabOk.nil [0, 0, 1, 0, 1, 1] _ rfl) (fun i v r K => by kernel_rfl)

noncomputable def porterref12_Has (N : Nat) (s : (List Int)) (b : Int) : Option Bool :=
 cond (Go.Lift.inR (Go.IntKind.wrap Go.IntKind.i64 (Int.tdiv b (64 : Int))) 4)
 (cond (decide ((Int.toNat (Go.IntKind.wrap Go.IntKind.i64 (Int.tdiv b (64 : Int)))) < (List.length s)))
 (porterref12_Has_p1 N b (List.getD s (Int.toNat (Go.IntKind.wrap Go.IntKind.i64 (Int.tdiv b (64 : Int)))) (0 : Int)) (0 : Int)
 (fun w => some ((Int.tmod w (2 : Int)) == (1 : Int))))
 (none))
 (none)

noncomputable def porterref12_Has_t (N : Nat) : Tab Bool := [([0, 1, 0, 1, 1], porterref12_Has_h1 N)]

theorem porterref12_Has_link (N : Nat) (x : denS [(0, .v (.arr 4 (.int .u64))), (0, .v (.int .i64))]) : evFX (porterref12_Has_E N) N (porterref12_Has_t N) porterref12_Has_L Go.Proofs.Tryd.f71 (mkS [(0, .v (.arr 4 (.int .u64))), (0, .v (.int .i64))] 0 x) (kRes (.v .bool) 2) = porterref12_Has N x.1 x.2.1 := by kernel_rfl

noncomputable def porterref12_Has_res (N : Nat) : List A → Res := resOf [(0, .v (.arr 4 (.int .u64))), (0, .v (.int .i64))] (fun x => porterref12_Has N x.1 x.2.1) (oRes (.v .bool) 2)

theorem porterref12_Has_ct (N : Nat) : Contract Go.Proofs.Tryd.prog glob 71 (porterref12_Has_res N) :=
  Contract.of (E := porterref12_Has_E N) (H := porterref12_Has_t N) (L := porterref12_Has_L) (N := N) (body := porterref12_Has_body) (K := (kRes (.v .bool) 2)) (porterref12_Has_Eok N) Go.Proofs.Tryd.func71 (by kernel_rfl) (by decide) (fun _ hb => (TabOk.cons (porterref12_Has_ok1 hb) TabOk.nil)) (fun x y h => by rw [porterref12_Has_link]; exact h) (kRes_ok (s := (.v .bool)) (m := 2))

noncomputable def porterref12_With_body : Code := (Go.Proofs.Tryd.f61.body).getD .skip

noncomputable def porterref12_With_L : List (List Nat × List Nat) := [([0], [1, 2, 4]), ([0, 0, 1], [17, 2, 4, 1]), ([1, 0, 1], [1, 2, 4]), ([0, 0, 1, 0, 1], [4]), ([1, 0, 1, 0, 1], [4]), ([0, 1, 1], [1, 5, 2, 4]), ([0, 0, 1, 1, 1], [6, 1, 5, 2, 4]), ([0, 1, 0, 1, 1, 1], [6, 1, 5, 2, 4]), ([0, 0, 0, 0, 1, 0, 1, 1, 1], [22, 5, 6, 1, 2, 4]), ([1, 0, 0, 0, 1, 0, 1, 1, 1], [5, 6, 1, 2, 4]), ([1, 1, 0, 0, 0, 1, 0, 1, 1, 1], [1, 2, 5, 4]), ([0, 0, 1, 0, 0, 1, 0, 1, 1, 1], [6, 1, 5, 2, 4]), ([0, 1, 0, 0, 1, 0, 1, 1, 1], [6, 1, 5, 2, 4]), ([1, 1, 0, 0, 1, 0, 1, 1, 1], [6, 1, 5, 2, 4]), ([1, 0, 1, 1, 1], [1, 2, 5, 4]), ([0, 1, 1, 1, 1], [2, 4]), ([0, 1, 1, 1, 1, 1], [4]), ([1, 1, 1, 1, 1, 1], [4])]

noncomputable def porterref12_With_E (N : Nat) : Env := mkEnv tys glob [(71, porterref12_Has_res N)] [] [] [] false [] []

theorem porterref12_With_Eok (N : Nat) : EnvOk Go.Proofs.Tryd.prog (porterref12_With_E N) := mkEnv_ok mixed tys_ok (FnsOk.cons (porterref12_Has_ct N) (FnsOk.nil)) (ItsOk.nil)

noncomputable def porterref12_With_p2 (N : Nat) (b : Int) (s : (List Int)) (x4 : (List Int)) (k0 : Bool → Option (List Int)) : Option (List Int) :=
 cond (decide (b < (0 : Int)))
 (k0 true)
 (cond (decide ((255 : Int) < b))
 (k0 true)
 ((porterref12_Has N s b).bind fun y =>
 k0 y))

noncomputable def porterref12_With_g2 (N : Nat) (x : denS [(1, .v (.int .i64)), (0, .box (.arr 4 (.int .u64))), (1, .box (.arr 4 (.int .u64)))]) (K : Ex → List A → Option (List Int)) : Option (List Int) :=
 porterref12_With_p2 N x.1 x.2.1 x.2.2.1 (fun a3 => (K .normal (mkS [(1, .v (.int .i64)), (0, .box (.arr 4 (.int .u64))), (1, .box (.arr 4 (.int .u64))), (12, .v .bool)] 19 (x.1, x.2.1, x.2.2.1, a3, ()))))

noncomputable def porterref12_With_h2 (N : Nat) : Hd (List Int) := fun st K => (unS [(1, .v (.int .i64)), (0, .box (.arr 4 (.int .u64))), (1, .box (.arr 4 (.int .u64)))] 32 (restr [1, 2, 4] 0 st)).bind fun x => porterref12_With_g2 N x K

noncomputable def porterref12_With_t2 (N : Nat) : Tab (List Int) := []

theorem porterref12_With_ok2 {N : Nat} {c : Ctx} (hb : Base Go.Proofs.Tryd.prog (porterref12_With_E N) c) : CodeOk Go.Proofs.Tryd.prog c (nodeAt porterref12_With_body [0, 0, 1]) (porterref12_With_h2 N) :=
  piece_ok (s := [(1, .v (.int .i64)), (0, .box (.arr 4 (.int .u64))), (1, .box (.arr 4 (.int .u64)))]) (m := 32) (g := porterref12_With_g2 N) [1, 2, 4] (evN_sound hb N (porterref12_With_t2 N) porterref12_With_L porterref12_With_body TabOk.nil [0, 0, 1] _ rfl) (fun x K => by kernel_rfl)

noncomputable def porterref12_With_p1 (N : Nat) (b : Int) (s : (List Int)) (x4 : (List Int)) (k0 : Option (List Int)) (k1 : Option (List Int)) : Option (List Int) :=
 porterref12_With_p2 N b s x4
 (fun x17 => cond x17
 (k0)
 (k1))

noncomputable def porterref12_With_g1 (N : Nat) (x : denS [(1, .v (.int .i64)), (0, .box (.arr 4 (.int .u64))), (1, .box (.arr 4 (.int .u64)))]) (K : Ex → List A → Option (List Int)) : Option (List Int) :=
 porterref12_With_p1 N x.1 x.2.1 x.2.2.1 (K .ret (mkS [(4, .box (.arr 4 (.int .u64)))] 32 (x.2.1, ()))) (K .normal (mkS [(1, .v (.int .i64)), (0, .box (.arr 4 (.int .u64))), (1, .box (.arr 4 (.int .u64)))] 32 (x.1, x.2.1, x.2.2.1, ())))

noncomputable def porterref12_With_h1 (N : Nat) : Hd (List Int) := fun st K => (unS [(1, .v (.int .i64)), (0, .box (.arr 4 (.int .u64))), (1, .box (.arr 4 (.int .u64)))] 32 (restr [1, 2, 4] 0 st)).bind fun x => porterref12_With_g1 N x K

noncomputable def porterref12_With_t1 (N : Nat) : Tab (List Int) := [([0, 0, 1], porterref12_With_h2 N)]

theorem porterref12_With_ok1 {N : Nat} {c : Ctx} (hb : Base Go.Proofs.Tryd.prog (porterref12_With_E N) c) : CodeOk Go.Proofs.Tryd.prog c (nodeAt porterref12_With_body [0, 1]) (porterref12_With_h1 N) :=
  piece_ok (s := [(1, .v (.int .i64)), (0, .box (.arr 4 (.int .u64))), (1, .box (.arr 4 (.int .u64)))]) (m := 32) (g := porterref12_With_g1 N) [1, 2, 4] (evN_sound hb N (porterref12_With_t1 N) porterref12_With_L porterref12_With_body (TabOk.cons (porterref12_With_ok2 hb) TabOk.nil) [0, 1] _ rfl) (fun x K => by kernel_rfl)

noncomputable def porterref12_With_s3 (N : Nat) (b : Int) (s : (List Int)) (x4 : (List Int)) (bit : Int) (i : Int) (rec : Int → Int → Option (List Int)) (k0 : Int → Option (List Int)) : Option (List Int) :=
 cond (decide (i < (Int.tmod b (64 : Int))))
 (rec (Go.IntKind.wrap Go.IntKind.u64 ((2 : Int) * bit)) (Go.IntKind.wrap Go.IntKind.i64 (i + (1 : Int))))
 (k0 bit)

noncomputable def porterref12_With_p3 (N : Nat) (b : Int) (s : (List Int)) (x4 : (List Int)) (bit : Int) (i : Int) (k0 : Int → Option (List Int)) : Option (List Int) :=
 iter (fun (v : (Int × Int)) r => porterref12_With_s3 N b s x4 v.1 v.2 (fun bit i => (r (bit, i))) k0) N (bit, i)

noncomputable def porterref12_With_g3 (N : Nat) (i : (Int × (List Int) × (List Int))) (v : (Int × Int)) (r : (Int × Int) → Option (List Int)) (K : Ex → List A → Option (List Int)) : Option (List Int) :=
 porterref12_With_s3 N i.1 i.2.1 i.2.2 v.1 v.2 (fun bit i => (r (bit, i))) (fun a3 => (K (.exit 0) (mkS [(1, .v (.int .i64)), (0, .box (.arr 4 (.int .u64))), (1, .box (.arr 4 (.int .u64))), (0, .v (.int .u64))] 31 (i.1, i.2.1, i.2.2, a3, ()))))

noncomputable def porterref12_With_h3 (N : Nat) : Hd (List Int) := fun st K => (unS [(1, .v (.int .i64)), (0, .box (.arr 4 (.int .u64))), (1, .box (.arr 4 (.int .u64))), (0, .v (.int .u64)), (0, .v (.int .i64))] 30 (restr [6, 1, 5, 2, 4] 0 st)).bind fun x => iter (fun v r => porterref12_With_g3 N ((fun x => (x.1, x.2.1, x.2.2.1)) x) v r K) N ((fun x => (x.2.2.2.1, x.2.2.2.2.1)) x)

noncomputable def porterref12_With_t3 (N : Nat) : Tab (List Int) := []

theorem porterref12_With_ok3 {N : Nat} {c : Ctx} (hb : Base Go.Proofs.Tryd.prog (porterref12_With_E N) c) : CodeOk Go.Proofs.Tryd.prog c (nodeAt porterref12_With_body [0, 1, 0, 1, 1, 1]) (porterref12_With_h3 N) :=
  loop_ok (s := [(1, .v (.int .i64)), (0, .box (.arr 4 (.int .u64))), (1, .box (.arr 4 (.int .u64))), (0, .v (.int .u64)), (0, .v (.int .i64))]) (m := 30) (porterref12_With_g3 N) [6, 1, 5, 2, 4] N (fun x => (x.1, x.2.1, x.2.2.1)) (fun x => (x.2.2.2.1, x.2.2.2.2.1)) (fun i v => (i.1, i.2.1, i.2.2, v.1, v.2, ())) (fun _ => rfl) (evN_sound hb N (porterref12_With_t3 N) porterref12_With_L porterref12_With_body TabOk.nil [0, 0, 1, 0, 1, 1, 1] _ rfl) (fun i v r K => by kernel_rfl)

noncomputable def porterref12_With (N : Nat) (s : (List Int)) (b : Int) : Option (List Int) :=
 porterref12_With_p1 N b s ([(0 : Int), (0 : Int), (0 : Int), (0 : Int)] : List Int)
 (some s)
 (porterref12_With_p3 N b s ([(0 : Int), (0 : Int), (0 : Int), (0 : Int)] : List Int) (1 : Int) (0 : Int)
 (fun bit => cond (Go.Lift.inR (Go.IntKind.wrap Go.IntKind.i64 (Int.tdiv b (64 : Int))) 4)
 (cond (decide ((Int.toNat (Go.IntKind.wrap Go.IntKind.i64 (Int.tdiv b (64 : Int)))) < (List.length s)))
 (cond (Go.Lift.inR (Go.IntKind.wrap Go.IntKind.i64 (Int.tdiv b (64 : Int))) 4)
 (cond (decide ((Int.toNat (Go.IntKind.wrap Go.IntKind.i64 (Int.tdiv b (64 : Int)))) < (List.length s)))
 (some (List.set s (Int.toNat (Go.IntKind.wrap Go.IntKind.i64 (Int.tdiv b (64 : Int)))) (Go.IntKind.wrap Go.IntKind.u64 ((List.getD s (Int.toNat (Go.IntKind.wrap Go.IntKind.i64 (Int.tdiv b (64 : Int)))) (0 : Int)) + bit))))
 (none))
 (none))
 (none))
 (none)))

noncomputable def porterref12_With_t (N : Nat) : Tab (List Int) := [([0, 1], porterref12_With_h1 N), ([0, 1, 0, 1, 1, 1], porterref12_With_h3 N)]

theorem porterref12_With_link (N : Nat) (x : denS [(0, .v (.arr 4 (.int .u64))), (0, .v (.int .i64))]) : evFX (porterref12_With_E N) N (porterref12_With_t N) porterref12_With_L Go.Proofs.Tryd.f61 (mkS [(0, .v (.arr 4 (.int .u64))), (0, .v (.int .i64))] 0 x) (kRes (.v (.arr 4 (.int .u64))) 2) = porterref12_With N x.1 x.2.1 := by kernel_rfl

noncomputable def porterref12_With_res (N : Nat) : List A → Res := resOf [(0, .v (.arr 4 (.int .u64))), (0, .v (.int .i64))] (fun x => porterref12_With N x.1 x.2.1) (oRes (.v (.arr 4 (.int .u64))) 2)

theorem porterref12_With_ct (N : Nat) : Contract Go.Proofs.Tryd.prog glob 61 (porterref12_With_res N) :=
  Contract.of (E := porterref12_With_E N) (H := porterref12_With_t N) (L := porterref12_With_L) (N := N) (body := porterref12_With_body) (K := (kRes (.v (.arr 4 (.int .u64))) 2)) (porterref12_With_Eok N) Go.Proofs.Tryd.func61 (by kernel_rfl) (by decide) (fun _ hb => (TabOk.cons (porterref12_With_ok1 hb) (TabOk.cons (porterref12_With_ok3 hb) TabOk.nil))) (fun x y h => by rw [porterref12_With_link]; exact h) (kRes_ok (s := (.v (.arr 4 (.int .u64)))) (m := 2))

noncomputable def porterref12_Between_body : Code := (Go.Proofs.Tryd.f48.body).getD .skip

noncomputable def porterref12_Between_L : List (List Nat × List Nat) := [([0], [0, 1, 4]), ([0, 1], [0, 1, 5, 4]), ([0, 0, 1, 1], [6, 1, 5, 4]), ([0, 1, 0, 1, 1], [6, 1, 5, 4]), ([0, 0, 0, 0, 1, 0, 1, 1], [10, 5, 6, 1, 4]), ([1, 0, 0, 0, 1, 0, 1, 1], [5, 6, 1, 4]), ([1, 1, 0, 0, 0, 1, 0, 1, 1], [5, 4]), ([0, 0, 1, 0, 0, 1, 0, 1, 1], [6, 1, 5, 4]), ([0, 1, 0, 0, 1, 0, 1, 1], [6, 1, 5, 4]), ([1, 1, 0, 0, 1, 0, 1, 1], [6, 1, 5, 4]), ([1, 0, 1, 1], [5, 4]), ([0, 1, 1, 1], [4]), ([1, 1, 1, 1], [4])]

noncomputable def porterref12_Between_E (N : Nat) : Env := mkEnv tys glob [(61, porterref12_With_res N)] [] [] [] false [] []

theorem porterref12_Between_Eok (N : Nat) : EnvOk Go.Proofs.Tryd.prog (porterref12_Between_E N) := mkEnv_ok mixed tys_ok (FnsOk.cons (porterref12_With_ct N) (FnsOk.nil)) (ItsOk.nil)

noncomputable def porterref12_Between_s1 (N : Nat) (hi : Int) (x4 : (List Int)) (s : (List Int)) (b : Int) (rec : (List Int) → Int → Option (List Int)) (k0 : (List Int) → Option (List Int)) : Option (List Int) :=
 cond (decide (b ≤ hi))
 ((porterref12_With N s b).bind fun y =>
 rec y (Go.IntKind.wrap Go.IntKind.i64 (b + (1 : Int))))
 (k0 s)

noncomputable def porterref12_Between_p1 (N : Nat) (hi : Int) (x4 : (List Int)) (s : (List Int)) (b : Int) (k0 : (List Int) → Option (List Int)) : Option (List Int) :=
 iter (fun (v : ((List Int) × Int)) r => porterref12_Between_s1 N hi x4 v.1 v.2 (fun s b => (r (s, b))) k0) N (s, b)

noncomputable def porterref12_Between_g1 (N : Nat) (i : (Int × (List Int))) (v : ((List Int) × Int)) (r : ((List Int) × Int) → Option (List Int)) (K : Ex → List A → Option (List Int)) : Option (List Int) :=
 porterref12_Between_s1 N i.1 i.2 v.1 v.2 (fun s b => (r (s, b))) (fun a1 => (K (.exit 0) (mkS [(4, .box (.arr 4 (.int .u64))), (0, .box (.arr 4 (.int .u64)))] 11 (i.2, a1, ()))))

noncomputable def porterref12_Between_h1 (N : Nat) : Hd (List Int) := fun st K => (unS [(1, .v (.int .i64)), (2, .box (.arr 4 (.int .u64))), (0, .box (.arr 4 (.int .u64))), (0, .v (.int .i64))] 10 (restr [6, 1, 5, 4] 0 st)).bind fun x => iter (fun v r => porterref12_Between_g1 N ((fun x => (x.1, x.2.1)) x) v r K) N ((fun x => (x.2.2.1, x.2.2.2.1)) x)

noncomputable def porterref12_Between_t1 (N : Nat) : Tab (List Int) := []

theorem porterref12_Between_ok1 {N : Nat} {c : Ctx} (hb : Base Go.Proofs.Tryd.prog (porterref12_Between_E N) c) : CodeOk Go.Proofs.Tryd.prog c (nodeAt porterref12_Between_body [0, 1, 0, 1, 1]) (porterref12_Between_h1 N) :=
  loop_ok (s := [(1, .v (.int .i64)), (2, .box (.arr 4 (.int .u64))), (0, .box (.arr 4 (.int .u64))), (0, .v (.int .i64))]) (m := 10) (porterref12_Between_g1 N) [6, 1, 5, 4] N (fun x => (x.1, x.2.1)) (fun x => (x.2.2.1, x.2.2.2.1)) (fun i v => (i.1, i.2, v.1, v.2, ())) (fun _ => rfl) (evN_sound hb N (porterref12_Between_t1 N) porterref12_Between_L porterref12_Between_body TabOk.nil [0, 0, 1, 0, 1, 1] _ rfl) (fun i v r K => by kernel_rfl)

noncomputable def porterref12_Between (N : Nat) (lo : Int) (hi : Int) : Option (List Int) :=
 porterref12_Between_p1 N hi ([(0 : Int), (0 : Int), (0 : Int), (0 : Int)] : List Int) ([(0 : Int), (0 : Int), (0 : Int), (0 : Int)] : List Int) lo
 (fun s => some s)

noncomputable def porterref12_Between_t (N : Nat) : Tab (List Int) := [([0, 1, 0, 1, 1], porterref12_Between_h1 N)]

theorem porterref12_Between_link (N : Nat) (x : denS [(0, .v (.int .i64)), (0, .v (.int .i64))]) : evFX (porterref12_Between_E N) N (porterref12_Between_t N) porterref12_Between_L Go.Proofs.Tryd.f48 (mkS [(0, .v (.int .i64)), (0, .v (.int .i64))] 0 x) (kRes (.v (.arr 4 (.int .u64))) 2) = porterref12_Between N x.1 x.2.1 := by kernel_rfl

noncomputable def porterref12_Between_res (N : Nat) : List A → Res := resOf [(0, .v (.int .i64)), (0, .v (.int .i64))] (fun x => porterref12_Between N x.1 x.2.1) (oRes (.v (.arr 4 (.int .u64))) 2)

theorem porterref12_Between_ct (N : Nat) : Contract Go.Proofs.Tryd.prog glob 48 (porterref12_Between_res N) :=
  Contract.of (E := porterref12_Between_E N) (H := porterref12_Between_t N) (L := porterref12_Between_L) (N := N) (body := porterref12_Between_body) (K := (kRes (.v (.arr 4 (.int .u64))) 2)) (porterref12_Between_Eok N) Go.Proofs.Tryd.func48 (by kernel_rfl) (by decide) (fun _ hb => (TabOk.cons (porterref12_Between_ok1 hb) TabOk.nil)) (fun x y h => by rw [porterref12_Between_link]; exact h) (kRes_ok (s := (.v (.arr 4 (.int .u64)))) (m := 2))

noncomputable def porterref13_Digits_body : Code := (Go.Proofs.Tryd.f65.body).getD .skip

noncomputable def porterref13_Digits_L : List (List Nat × List Nat) := [([0], [0]), ([0, 1], [0]), ([1, 1], [0])]

noncomputable def porterref13_Digits_E (N : Nat) : Env := mkEnv tys glob [(48, porterref12_Between_res N)] [] [] [] false [] []

theorem porterref13_Digits_Eok (N : Nat) : EnvOk Go.Proofs.Tryd.prog (porterref13_Digits_E N) := mkEnv_ok mixed tys_ok (FnsOk.cons (porterref12_Between_ct N) (FnsOk.nil)) (ItsOk.nil)

noncomputable def porterref13_Digits (N : Nat) : Option (List Int) :=
 (porterref12_Between N (48 : Int) (57 : Int)).bind fun y =>
 some y

noncomputable def porterref13_Digits_t (N : Nat) : Tab (List Int) := []

theorem porterref13_Digits_link (N : Nat) (x : denS []) : evFX (porterref13_Digits_E N) N (porterref13_Digits_t N) porterref13_Digits_L Go.Proofs.Tryd.f65 (mkS [] 0 x) (kRes (.v (.arr 4 (.int .u64))) 0) = porterref13_Digits N := by kernel_rfl

noncomputable def porterref13_Digits_res (N : Nat) : List A → Res := resOf [] (fun x => porterref13_Digits N) (oRes (.v (.arr 4 (.int .u64))) 0)

theorem porterref13_Digits_ct (N : Nat) : Contract Go.Proofs.Tryd.prog glob 65 (porterref13_Digits_res N) :=
  Contract.of (E := porterref13_Digits_E N) (H := porterref13_Digits_t N) (L := porterref13_Digits_L) (N := N) (body := porterref13_Digits_body) (K := (kRes (.v (.arr 4 (.int .u64))) 0)) (porterref13_Digits_Eok N) Go.Proofs.Tryd.func65 (by kernel_rfl) (by decide) (fun _ hb => TabOk.nil) (fun x y h => by rw [porterref13_Digits_link]; exact h) (kRes_ok (s := (.v (.arr 4 (.int .u64)))) (m := 0))

noncomputable def porterref12_Or_body : Code := (Go.Proofs.Tryd.f63.body).getD .skip

noncomputable def porterref12_Or_L : List (List Nat × List Nat) := [([0], [3, 2, 4]), ([0, 0, 1], [5, 3, 2, 4]), ([0, 1, 0, 1], [5, 3, 2, 4]), ([0, 0, 0, 0, 1, 0, 1], [7, 3, 5, 2, 4]), ([1, 0, 0, 0, 1, 0, 1], [3, 5, 2, 4]), ([1, 1, 0, 0, 0, 1, 0, 1], [2, 4]), ([0, 0, 0, 1, 0, 0, 1, 0, 1], [12, 2, 5, 3, 4]), ([1, 0, 0, 1, 0, 0, 1, 0, 1], [5, 3, 2, 4]), ([0, 1, 0, 0, 1, 0, 0, 1, 0, 1], [5, 3, 2, 4]), ([0, 1, 0, 0, 1, 0, 1], [5, 3, 2, 4]), ([1, 1, 0, 0, 1, 0, 1], [5, 3, 2, 4]), ([1, 0, 1], [2, 4]), ([0, 1, 1], [4]), ([1, 1, 1], [4])]

noncomputable def porterref12_Or_E (N : Nat) : Env := mkEnv tys glob [(61, porterref12_With_res N), (71, porterref12_Has_res N)] [] [] [] false [] []

theorem porterref12_Or_Eok (N : Nat) : EnvOk Go.Proofs.Tryd.prog (porterref12_Or_E N) := mkEnv_ok mixed tys_ok (FnsOk.cons (porterref12_With_ct N) (FnsOk.cons (porterref12_Has_ct N) (FnsOk.nil))) (ItsOk.nil)

noncomputable def porterref12_Or_p2 (N : Nat) (s : (List Int)) (t : (List Int)) (x4 : (List Int)) (b : Int) (k0 : (List Int) → Option (List Int)) : Option (List Int) :=
 (porterref12_Has N t b).bind fun y =>
 cond y
 ((porterref12_With N s b).bind fun y1 =>
 k0 y1)
 (k0 s)

noncomputable def porterref12_Or_g2 (N : Nat) (x : denS [(2, .box (.arr 4 (.int .u64))), (0, .box (.arr 4 (.int .u64))), (0, .box (.arr 4 (.int .u64))), (0, .v (.int .i64))]) (K : Ex → List A → Option (List Int)) : Option (List Int) :=
 porterref12_Or_p2 N x.1 x.2.1 x.2.2.1 x.2.2.2.1 (fun a0 => (K .normal (mkS [(2, .box (.arr 4 (.int .u64))), (0, .box (.arr 4 (.int .u64))), (0, .box (.arr 4 (.int .u64))), (0, .v (.int .i64))] 11 (a0, x.2.1, x.2.2.1, x.2.2.2.1, ()))))

noncomputable def porterref12_Or_h2 (N : Nat) : Hd (List Int) := fun st K => (unS [(2, .box (.arr 4 (.int .u64))), (0, .box (.arr 4 (.int .u64))), (0, .box (.arr 4 (.int .u64))), (0, .v (.int .i64))] 11 (restr [3, 5, 2, 4] 0 st)).bind fun x => porterref12_Or_g2 N x K

noncomputable def porterref12_Or_t2 (N : Nat) : Tab (List Int) := []

theorem porterref12_Or_ok2 {N : Nat} {c : Ctx} (hb : Base Go.Proofs.Tryd.prog (porterref12_Or_E N) c) : CodeOk Go.Proofs.Tryd.prog c (nodeAt porterref12_Or_body [0, 1, 0, 0, 1, 0, 1]) (porterref12_Or_h2 N) :=
  piece_ok (s := [(2, .box (.arr 4 (.int .u64))), (0, .box (.arr 4 (.int .u64))), (0, .box (.arr 4 (.int .u64))), (0, .v (.int .i64))]) (m := 11) (g := porterref12_Or_g2 N) [3, 5, 2, 4] (evN_sound hb N (porterref12_Or_t2 N) porterref12_Or_L porterref12_Or_body TabOk.nil [0, 1, 0, 0, 1, 0, 1] _ rfl) (fun x K => by kernel_rfl)

noncomputable def porterref12_Or_s1 (N : Nat) (t : (List Int)) (x4 : (List Int)) (s : (List Int)) (b : Int) (rec : (List Int) → Int → Option (List Int)) (k0 : (List Int) → Option (List Int)) : Option (List Int) :=
 cond (decide (b < (256 : Int)))
 (porterref12_Or_p2 N s t x4 b
 (fun s1 => rec s1 (Go.IntKind.wrap Go.IntKind.i64 (b + (1 : Int)))))
 (k0 s)

noncomputable def porterref12_Or_p1 (N : Nat) (s : (List Int)) (t : (List Int)) (x4 : (List Int)) (b : Int) (k0 : (List Int) → Option (List Int)) : Option (List Int) :=
 iter (fun (v : ((List Int) × Int)) r => porterref12_Or_s1 N t x4 v.1 v.2 (fun s b => (r (s, b))) k0) N (s, b)

noncomputable def porterref12_Or_g1 (N : Nat) (i : ((List Int) × (List Int))) (v : ((List Int) × Int)) (r : ((List Int) × Int) → Option (List Int)) (K : Ex → List A → Option (List Int)) : Option (List Int) :=
 porterref12_Or_s1 N i.1 i.2 v.1 v.2 (fun s b => (r (s, b))) (fun a0 => (K (.exit 0) (mkS [(2, .box (.arr 4 (.int .u64))), (1, .box (.arr 4 (.int .u64)))] 12 (a0, i.2, ()))))

noncomputable def porterref12_Or_h1 (N : Nat) : Hd (List Int) := fun st K => (unS [(2, .box (.arr 4 (.int .u64))), (0, .box (.arr 4 (.int .u64))), (0, .box (.arr 4 (.int .u64))), (0, .v (.int .i64))] 11 (restr [5, 3, 2, 4] 0 st)).bind fun x => iter (fun v r => porterref12_Or_g1 N ((fun x => (x.2.1, x.2.2.1)) x) v r K) N ((fun x => (x.1, x.2.2.2.1)) x)

noncomputable def porterref12_Or_t1 (N : Nat) : Tab (List Int) := [([0, 1, 0, 0, 1, 0, 1], porterref12_Or_h2 N)]

theorem porterref12_Or_ok1 {N : Nat} {c : Ctx} (hb : Base Go.Proofs.Tryd.prog (porterref12_Or_E N) c) : CodeOk Go.Proofs.Tryd.prog c (nodeAt porterref12_Or_body [0, 1, 0, 1]) (porterref12_Or_h1 N) :=
  loop_ok (s := [(2, .box (.arr 4 (.int .u64))), (0, .box (.arr 4 (.int .u64))), (0, .box (.arr 4 (.int .u64))), (0, .v (.int .i64))]) (m := 11) (porterref12_Or_g1 N) [5, 3, 2, 4] N (fun x => (x.2.1, x.2.2.1)) (fun x => (x.1, x.2.2.2.1)) (fun i v => (v.1, i.1, i.2, v.2, ())) (fun _ => rfl) (evN_sound hb N (porterref12_Or_t1 N) porterref12_Or_L porterref12_Or_body (TabOk.cons (porterref12_Or_ok2 hb) TabOk.nil) [0, 0, 1, 0, 1] _ rfl) (fun i v r K => by kernel_rfl)

noncomputable def porterref12_Or (N : Nat) (s : (List Int)) (t : (List Int)) : Option (List Int) :=
 porterref12_Or_p1 N s t ([(0 : Int), (0 : Int), (0 : Int), (0 : Int)] : List Int) (0 : Int)
 (fun s1 => some s1)

noncomputable def porterref12_Or_t (N : Nat) : Tab (List Int) := [([0, 1, 0, 1], porterref12_Or_h1 N)]

theorem porterref12_Or_link (N : Nat) (x : denS [(0, .v (.arr 4 (.int .u64))), (0, .v (.arr 4 (.int .u64)))]) : evFX (porterref12_Or_E N) N (porterref12_Or_t N) porterref12_Or_L Go.Proofs.Tryd.f63 (mkS [(0, .v (.arr 4 (.int .u64))), (0, .v (.arr 4 (.int .u64)))] 0 x) (kRes (.v (.arr 4 (.int .u64))) 2) = porterref12_Or N x.1 x.2.1 := by kernel_rfl

noncomputable def porterref12_Or_res (N : Nat) : List A → Res := resOf [(0, .v (.arr 4 (.int .u64))), (0, .v (.arr 4 (.int .u64)))] (fun x => porterref12_Or N x.1 x.2.1) (oRes (.v (.arr 4 (.int .u64))) 2)

theorem porterref12_Or_ct (N : Nat) : Contract Go.Proofs.Tryd.prog glob 63 (porterref12_Or_res N) :=
  Contract.of (E := porterref12_Or_E N) (H := porterref12_Or_t N) (L := porterref12_Or_L) (N := N) (body := porterref12_Or_body) (K := (kRes (.v (.arr 4 (.int .u64))) 2)) (porterref12_Or_Eok N) Go.Proofs.Tryd.func63 (by kernel_rfl) (by decide) (fun _ hb => (TabOk.cons (porterref12_Or_ok1 hb) TabOk.nil)) (fun x y h => by rw [porterref12_Or_link]; exact h) (kRes_ok (s := (.v (.arr 4 (.int .u64)))) (m := 2))

noncomputable def porterref13_Words_body : Code := (Go.Proofs.Tryd.f66.body).getD .skip

noncomputable def porterref13_Words_L : List (List Nat × List Nat) := [([0], [0]), ([0, 1], [0]), ([1, 1], [0])]

noncomputable def porterref13_Words_E (N : Nat) : Env := mkEnv tys glob [(63, porterref12_Or_res N), (48, porterref12_Between_res N), (61, porterref12_With_res N)] [] [] [] false [] []

theorem porterref13_Words_Eok (N : Nat) : EnvOk Go.Proofs.Tryd.prog (porterref13_Words_E N) := mkEnv_ok mixed tys_ok (FnsOk.cons (porterref12_Or_ct N) (FnsOk.cons (porterref12_Between_ct N) (FnsOk.cons (porterref12_With_ct N) (FnsOk.nil)))) (ItsOk.nil)

noncomputable def porterref13_Words (N : Nat) : Option (List Int) :=
 (porterref12_Between N (48 : Int) (57 : Int)).bind fun y =>
 (porterref12_Between N (65 : Int) (90 : Int)).bind fun y1 =>
 (porterref12_Or N y y1).bind fun y2 =>
 (porterref12_Between N (97 : Int) (122 : Int)).bind fun y3 =>
 (porterref12_Or N y2 y3).bind fun y4 =>
 (porterref12_With N y4 (95 : Int)).bind fun y5 =>
 some y5

noncomputable def porterref13_Words_t (N : Nat) : Tab (List Int) := []

theorem porterref13_Words_link (N : Nat) (x : denS []) : evFX (porterref13_Words_E N) N (porterref13_Words_t N) porterref13_Words_L Go.Proofs.Tryd.f66 (mkS [] 0 x) (kRes (.v (.arr 4 (.int .u64))) 0) = porterref13_Words N := by kernel_rfl

noncomputable def porterref13_Words_res (N : Nat) : List A → Res := resOf [] (fun x => porterref13_Words N) (oRes (.v (.arr 4 (.int .u64))) 0)

theorem porterref13_Words_ct (N : Nat) : Contract Go.Proofs.Tryd.prog glob 66 (porterref13_Words_res N) :=
  Contract.of (E := porterref13_Words_E N) (H := porterref13_Words_t N) (L := porterref13_Words_L) (N := N) (body := porterref13_Words_body) (K := (kRes (.v (.arr 4 (.int .u64))) 0)) (porterref13_Words_Eok N) Go.Proofs.Tryd.func66 (by kernel_rfl) (by decide) (fun _ hb => TabOk.nil) (fun x y h => by rw [porterref13_Words_link]; exact h) (kRes_ok (s := (.v (.arr 4 (.int .u64)))) (m := 0))

noncomputable def porterref13_hex_body : Code := (Go.Proofs.Tryd.f67.body).getD .skip

noncomputable def porterref13_hex_L : List (List Nat × List Nat) := [([0], [0]), ([0, 0, 1], [8, 0]), ([1, 0, 1], [0]), ([0, 0, 1, 0, 1], [2]), ([1, 0, 1, 0, 1], [2]), ([0, 0, 1, 1], [17, 0]), ([1, 0, 1, 1], []), ([0, 0, 1, 0, 1, 1], [2]), ([1, 0, 1, 0, 1, 1], [2]), ([0, 1, 1, 1], [2]), ([1, 1, 1, 1], [2])]

noncomputable def porterref13_hex_E (N : Nat) : Env := mkEnv tys glob [] [] [] [] false [] []

theorem porterref13_hex_Eok (N : Nat) : EnvOk Go.Proofs.Tryd.prog (porterref13_hex_E N) := mkEnv_ok mixed tys_ok (FnsOk.nil) (ItsOk.nil)

noncomputable def porterref13_hex_p2 (N : Nat) (b : Int) (k0 : Bool → Option Int) : Option Int :=
 cond (decide ((48 : Int) ≤ b))
 (k0 (decide (b ≤ (57 : Int))))
 (k0 false)

noncomputable def porterref13_hex_g2 (N : Nat) (x : denS [(0, .v (.int .u8))]) (K : Ex → List A → Option Int) : Option Int :=
 porterref13_hex_p2 N x.1 (fun a1 => (K .normal (mkS [(0, .v (.int .u8)), (7, .v .bool)] 12 (x.1, a1, ()))))

noncomputable def porterref13_hex_h2 (N : Nat) : Hd Int := fun st K => (unS [(0, .v (.int .u8))] 20 (restr [0] 0 st)).bind fun x => porterref13_hex_g2 N x K

noncomputable def porterref13_hex_t2 (N : Nat) : Tab Int := []

theorem porterref13_hex_ok2 {N : Nat} {c : Ctx} (hb : Base Go.Proofs.Tryd.prog (porterref13_hex_E N) c) : CodeOk Go.Proofs.Tryd.prog c (nodeAt porterref13_hex_body [0, 0, 1]) (porterref13_hex_h2 N) :=
  piece_ok (s := [(0, .v (.int .u8))]) (m := 20) (g := porterref13_hex_g2 N) [0] (evN_sound hb N (porterref13_hex_t2 N) porterref13_hex_L porterref13_hex_body TabOk.nil [0, 0, 1] _ rfl) (fun x K => by kernel_rfl)

noncomputable def porterref13_hex_p1 (N : Nat) (b : Int) (k0 : Int → Option Int) (k1 : Option Int) : Option Int :=
 porterref13_hex_p2 N b
 (fun x8 => cond x8
 (k0 (Go.IntKind.wrap Go.IntKind.i64 ((Go.IntKind.wrap Go.IntKind.i64 b) - (48 : Int))))
 (k1))

noncomputable def porterref13_hex_g1 (N : Nat) (x : denS [(0, .v (.int .u8))]) (K : Ex → List A → Option Int) : Option Int :=
 porterref13_hex_p1 N x.1 (fun a0 => (K .ret (mkS [(2, .v (.int .i64))] 18 (a0, ())))) (K .normal (mkS [(0, .v (.int .u8))] 20 (x.1, ())))

noncomputable def porterref13_hex_h1 (N : Nat) : Hd Int := fun st K => (unS [(0, .v (.int .u8))] 20 (restr [0] 0 st)).bind fun x => porterref13_hex_g1 N x K

noncomputable def porterref13_hex_t1 (N : Nat) : Tab Int := [([0, 0, 1], porterref13_hex_h2 N)]

theorem porterref13_hex_ok1 {N : Nat} {c : Ctx} (hb : Base Go.Proofs.Tryd.prog (porterref13_hex_E N) c) : CodeOk Go.Proofs.Tryd.prog c (nodeAt porterref13_hex_body [0, 1]) (porterref13_hex_h1 N) :=
  piece_ok (s := [(0, .v (.int .u8))]) (m := 20) (g := porterref13_hex_g1 N) [0] (evN_sound hb N (porterref13_hex_t1 N) porterref13_hex_L porterref13_hex_body (TabOk.cons (porterref13_hex_ok2 hb) TabOk.nil) [0, 1] _ rfl) (fun x K => by kernel_rfl)

noncomputable def porterref13_hex_p3 (N : Nat) (b : Int) (k0 : Bool → Option Int) : Option Int :=
 cond (decide ((97 : Int) ≤ b))
 (k0 (decide (b ≤ (102 : Int))))
 (k0 false)

noncomputable def porterref13_hex_g3 (N : Nat) (x : denS [(0, .v (.int .u8))]) (K : Ex → List A → Option Int) : Option Int :=
 porterref13_hex_p3 N x.1 (fun a1 => (K .normal (mkS [(0, .v (.int .u8)), (16, .v .bool)] 3 (x.1, a1, ()))))

noncomputable def porterref13_hex_h3 (N : Nat) : Hd Int := fun st K => (unS [(0, .v (.int .u8))] 20 (restr [0] 0 st)).bind fun x => porterref13_hex_g3 N x K

noncomputable def porterref13_hex_t3 (N : Nat) : Tab Int := []

theorem porterref13_hex_ok3 {N : Nat} {c : Ctx} (hb : Base Go.Proofs.Tryd.prog (porterref13_hex_E N) c) : CodeOk Go.Proofs.Tryd.prog c (nodeAt porterref13_hex_body [0, 0, 1, 1]) (porterref13_hex_h3 N) :=
  piece_ok (s := [(0, .v (.int .u8))]) (m := 20) (g := porterref13_hex_g3 N) [0] (evN_sound hb N (porterref13_hex_t3 N) porterref13_hex_L porterref13_hex_body TabOk.nil [0, 0, 1, 1] _ rfl) (fun x K => by kernel_rfl)

noncomputable def porterref13_hex (N : Nat) (b : Int) : Option Int :=
 porterref13_hex_p1 N b
 (fun x2 => some x2)
 (porterref13_hex_p3 N b
 (fun x17 => cond x17
 (some (Go.IntKind.wrap Go.IntKind.i64 ((Go.IntKind.wrap Go.IntKind.i64 b) - (87 : Int))))
 (some (-(1 : Int)))))

noncomputable def porterref13_hex_t (N : Nat) : Tab Int := [([0, 1], porterref13_hex_h1 N), ([0, 0, 1, 1], porterref13_hex_h3 N)]

theorem porterref13_hex_link (N : Nat) (x : denS [(0, .v (.int .u8))]) : evFX (porterref13_hex_E N) N (porterref13_hex_t N) porterref13_hex_L Go.Proofs.Tryd.f67 (mkS [(0, .v (.int .u8))] 0 x) (kRes (.v (.int .i64)) 1) = porterref13_hex N x.1 := by kernel_rfl

noncomputable def porterref13_hex_res (N : Nat) : List A → Res := resOf [(0, .v (.int .u8))] (fun x => porterref13_hex N x.1) (oRes (.v (.int .i64)) 1)

theorem porterref13_hex_ct (N : Nat) : Contract Go.Proofs.Tryd.prog glob 67 (porterref13_hex_res N) :=
  Contract.of (E := porterref13_hex_E N) (H := porterref13_hex_t N) (L := porterref13_hex_L) (N := N) (body := porterref13_hex_body) (K := (kRes (.v (.int .i64)) 1)) (porterref13_hex_Eok N) Go.Proofs.Tryd.func67 (by kernel_rfl) (by decide) (fun _ hb => (TabOk.cons (porterref13_hex_ok1 hb) (TabOk.cons (porterref13_hex_ok3 hb) TabOk.nil))) (fun x y h => by rw [porterref13_hex_link]; exact h) (kRes_ok (s := (.v (.int .i64))) (m := 1))

noncomputable def porterref13_escape_body : Code := (Go.Proofs.Tryd.f50.body).getD .skip

noncomputable def porterref13_escape_L : List (List Nat × List Nat) := [([0], [1, 0, 4]), ([0, 0, 1], [12, 0, 4, 1]), ([1, 0, 1], [0, 1, 4]), ([0, 0, 1, 0, 1], [4]), ([1, 0, 1, 0, 1], [4]), ([0, 1, 1], [5, 1, 4, 0]), ([0, 0, 1, 1, 1], [21, 1, 4, 5, 0]), ([1, 0, 1, 1, 1], [5, 1, 4, 0]), ([0, 0, 1, 0, 1, 1, 1], [4]), ([1, 0, 1, 0, 1, 1, 1], [4]), ([0, 0, 1, 1, 1, 1], [27, 1, 4, 5, 0]), ([1, 0, 1, 1, 1, 1], [5, 1, 0, 4]), ([0, 0, 1, 0, 1, 1, 1, 1], [4]), ([1, 0, 1, 0, 1, 1, 1, 1], [4]), ([0, 0, 1, 1, 1, 1, 1], [33, 1, 0, 4, 5]), ([1, 0, 1, 1, 1, 1, 1], [5, 1, 4]), ([0, 0, 1, 0, 1, 1, 1, 1, 1], [1, 0, 4, 6]), ([0, 0, 1, 0, 1, 0, 1, 1, 1, 1, 1], [7, 1, 0, 4, 6]), ([0, 1, 0, 1, 0, 1, 0, 1, 1, 1, 1, 1], [7, 1, 0, 4, 6]), ([0, 0, 0, 0, 1, 0, 1, 0, 1, 0, 1, 1, 1, 1, 1], [39, 7, 0, 4, 1, 6]), ([1, 0, 0, 0, 1, 0, 1, 0, 1, 0, 1, 1, 1, 1, 1], [7, 0, 4, 1, 6]), ([1, 1, 0, 0, 0, 1, 0, 1, 0, 1, 0, 1, 1, 1, 1, 1], [6, 1, 4]), ([0, 0, 0, 0, 1, 0, 0, 1, 0, 1, 0, 1, 0, 1, 1, 1, 1, 1], [45, 0, 4, 7, 1, 6]), ([1, 0, 0, 0, 1, 0, 0, 1, 0, 1, 0, 1, 0, 1, 1, 1, 1, 1], [0, 7, 1, 4, 6]), ([0, 0, 1, 0, 0, 0, 1, 0, 0, 1, 0, 1, 0, 1, 0, 1, 1, 1, 1, 1], [4]), ([1, 0, 1, 0, 0, 0, 1, 0, 0, 1, 0, 1, 0, 1, 0, 1, 1, 1, 1, 1], [4]), ([0, 0, 1, 0, 0, 1, 0, 0, 1, 0, 1, 0, 1, 0, 1, 1, 1, 1, 1], [53, 1, 4, 6, 0, 7]), ([1, 0, 1, 0, 0, 1, 0, 0, 1, 0, 1, 0, 1, 0, 1, 1, 1, 1, 1], [6, 0, 7, 1, 4]), ([0, 0, 1, 0, 1, 0, 0, 1, 0, 0, 1, 0, 1, 0, 1, 0, 1, 1, 1, 1, 1], [4]), ([1, 0, 1, 0, 1, 0, 0, 1, 0, 0, 1, 0, 1, 0, 1, 0, 1, 1, 1, 1, 1], [4]), ([1, 1, 0, 0, 1, 0, 0, 1, 0, 1, 0, 1, 0, 1, 1, 1, 1, 1], [7, 1, 0, 4, 6]), ([0, 1, 0, 0, 1, 0, 1, 0, 1, 0, 1, 1, 1, 1, 1], [7, 1, 0, 4, 6]), ([1, 1, 0, 0, 1, 0, 1, 0, 1, 0, 1, 1, 1, 1, 1], [7, 1, 0, 4, 6]), ([1, 0, 1, 0, 1, 0, 1, 1, 1, 1, 1], [6, 1, 4]), ([0, 1, 1, 0, 1, 0, 1, 1, 1, 1, 1], [4]), ([1, 1, 1, 0, 1, 0, 1, 1, 1, 1, 1], [4]), ([0, 0, 1, 1, 1, 1, 1, 1], [70, 5, 1, 4]), ([1, 0, 1, 1, 1, 1, 1, 1], [1, 4]), ([0, 0, 1, 0, 1, 1, 1, 1, 1, 1], [4]), ([1, 0, 1, 0, 1, 1, 1, 1, 1, 1], [4]), ([0, 1, 1, 1, 1, 1, 1, 1], [4]), ([1, 1, 1, 1, 1, 1, 1, 1], [4])]

noncomputable def porterref13_escape_E (N : Nat) : Env := mkEnv tys glob [(67, porterref13_hex_res N), (66, porterref13_Words_res N), (65, porterref13_Digits_res N), (48, porterref12_Between_res N), (31, porterref13_bad_res N), (47, porterref13_among_res N)] [] [] [] false [] []

theorem porterref13_escape_Eok (N : Nat) : EnvOk Go.Proofs.Tryd.prog (porterref13_escape_E N) := mkEnv_ok mixed tys_ok (FnsOk.cons (porterref13_hex_ct N) (FnsOk.cons (porterref13_Words_ct N) (FnsOk.cons (porterref13_Digits_ct N) (FnsOk.cons (porterref12_Between_ct N) (FnsOk.cons (porterref13_bad_ct N) (FnsOk.cons (porterref13_among_ct N) (FnsOk.nil))))))) (ItsOk.nil)

noncomputable def porterref13_escape_s1 (N : Nat) (s : (List UInt8)) (at_ : Int) (x4 : ((Int × ((List Int) × ((List Tree) × (Int × (Int × Unit))))) × ((List Int) × (Bool × (Int × ((Int × (Int × Unit)) × Unit)))))) (n : Int) (i : Int) (rec : Int → Int → Option ((Int × ((List Int) × ((List Tree) × (Int × (Int × Unit))))) × ((List Int) × (Bool × (Int × ((Int × (Int × Unit)) × Unit)))))) (k0 : ((Int × ((List Int) × ((List Tree) × (Int × (Int × Unit))))) × ((List Int) × (Bool × (Int × ((Int × (Int × Unit)) × Unit))))) → Option ((Int × ((List Int) × ((List Tree) × (Int × (Int × Unit))))) × ((List Int) × (Bool × (Int × ((Int × (Int × Unit)) × Unit)))))) (k1 : Int → Option ((Int × ((List Int) × ((List Tree) × (Int × (Int × Unit))))) × ((List Int) × (Bool × (Int × ((Int × (Int × Unit)) × Unit)))))) : Option ((Int × ((List Int) × ((List Tree) × (Int × (Int × Unit))))) × ((List Int) × (Bool × (Int × ((Int × (Int × Unit)) × Unit))))) :=
 cond (decide (i < (Go.IntKind.wrap Go.IntKind.i64 (at_ + (4 : Int)))))
 (cond (decide ((((List.length s) : Nat) : Int) ≤ i))
 (k0 (((0 : Int), (([(0 : Int), (0 : Int), (0 : Int), (0 : Int)] : List Int), (([] : List Go.Lift.Tree), ((0 : Int), ((0 : Int), ()))))), (([(0 : Int), (0 : Int), (0 : Int), (0 : Int)] : List Int), (false, ((0 : Int), (((1 : Int), ((((List.length s) : Nat) : Int), ())), ()))))))
 (cond (Go.Lift.inR i (List.length s))
 ((porterref13_hex N (((UInt8.toNat (List.getD s (Int.toNat i) (0 : UInt8))) : Nat) : Int)).bind fun y =>
 cond (decide (y < (0 : Int)))
 (k0 (((0 : Int), (([(0 : Int), (0 : Int), (0 : Int), (0 : Int)] : List Int), (([] : List Go.Lift.Tree), ((0 : Int), ((0 : Int), ()))))), (([(0 : Int), (0 : Int), (0 : Int), (0 : Int)] : List Int), (false, ((0 : Int), (((2 : Int), (at_, ())), ()))))))
 (cond (Go.Lift.inR i (List.length s))
 ((porterref13_hex N (((UInt8.toNat (List.getD s (Int.toNat i) (0 : UInt8))) : Nat) : Int)).bind fun y1 =>
 rec (Go.IntKind.wrap Go.IntKind.i64 ((Go.IntKind.wrap Go.IntKind.i64 ((16 : Int) * n)) + y1)) (Go.IntKind.wrap Go.IntKind.i64 (i + (1 : Int))))
 (none)))
 (none)))
 (k1 n)

noncomputable def porterref13_escape_p1 (N : Nat) (s : (List UInt8)) (at_ : Int) (x4 : ((Int × ((List Int) × ((List Tree) × (Int × (Int × Unit))))) × ((List Int) × (Bool × (Int × ((Int × (Int × Unit)) × Unit)))))) (n : Int) (i : Int) (k0 : ((Int × ((List Int) × ((List Tree) × (Int × (Int × Unit))))) × ((List Int) × (Bool × (Int × ((Int × (Int × Unit)) × Unit))))) → Option ((Int × ((List Int) × ((List Tree) × (Int × (Int × Unit))))) × ((List Int) × (Bool × (Int × ((Int × (Int × Unit)) × Unit)))))) (k1 : Int → Option ((Int × ((List Int) × ((List Tree) × (Int × (Int × Unit))))) × ((List Int) × (Bool × (Int × ((Int × (Int × Unit)) × Unit)))))) : Option ((Int × ((List Int) × ((List Tree) × (Int × (Int × Unit))))) × ((List Int) × (Bool × (Int × ((Int × (Int × Unit)) × Unit))))) :=
 iter (fun (v : (Int × Int)) r => porterref13_escape_s1 N s at_ x4 v.1 v.2 (fun n i => (r (n, i))) k0 k1) N (n, i)

noncomputable def porterref13_escape_g1 (N : Nat) (i : ((List UInt8) × Int × ((Int × ((List Int) × ((List Tree) × (Int × (Int × Unit))))) × ((List Int) × (Bool × (Int × ((Int × (Int × Unit)) × Unit))))))) (v : (Int × Int)) (r : (Int × Int) → Option ((Int × ((List Int) × ((List Tree) × (Int × (Int × Unit))))) × ((List Int) × (Bool × (Int × ((Int × (Int × Unit)) × Unit)))))) (K : Ex → List A → Option ((Int × ((List Int) × ((List Tree) × (Int × (Int × Unit))))) × ((List Int) × (Bool × (Int × ((Int × (Int × Unit)) × Unit)))))) : Option ((Int × ((List Int) × ((List Tree) × (Int × (Int × Unit))))) × ((List Int) × (Bool × (Int × ((Int × (Int × Unit)) × Unit))))) :=
 porterref13_escape_s1 N i.1 i.2.1 i.2.2 v.1 v.2 (fun n i => (r (n, i))) (fun a0 => (K .ret (mkS [(4, .box (.pair (.pair (.int .i64) (.pair (.arr 4 (.int .u64)) (.pair (.sl .nod) (.pair (.int .i64) (.pair (.int .i64) .unit))))) (.pair (.arr 4 (.int .u64)) (.pair .bool (.pair (.int .i64) (.pair (.pair (.int .i64) (.pair (.int .i64) .unit)) .unit))))))] 76 (a0, ())))) (fun a2 => (K (.exit 0) (mkS [(1, .v (.int .i64)), (2, .box (.pair (.pair (.int .i64) (.pair (.arr 4 (.int .u64)) (.pair (.sl .nod) (.pair (.int .i64) (.pair (.int .i64) .unit))))) (.pair (.arr 4 (.int .u64)) (.pair .bool (.pair (.int .i64) (.pair (.pair (.int .i64) (.pair (.int .i64) .unit)) .unit)))))), (1, .v (.int .i64))] 74 (i.2.1, i.2.2, a2, ()))))

noncomputable def porterref13_escape_h1 (N : Nat) : Hd ((Int × ((List Int) × ((List Tree) × (Int × (Int × Unit))))) × ((List Int) × (Bool × (Int × ((Int × (Int × Unit)) × Unit))))) := fun st K => (unS [(0, .v .str), (0, .v (.int .i64)), (2, .box (.pair (.pair (.int .i64) (.pair (.arr 4 (.int .u64)) (.pair (.sl .nod) (.pair (.int .i64) (.pair (.int .i64) .unit))))) (.pair (.arr 4 (.int .u64)) (.pair .bool (.pair (.int .i64) (.pair (.pair (.int .i64) (.pair (.int .i64) .unit)) .unit)))))), (1, .v (.int .i64)), (0, .v (.int .i64))] 73 (restr [7, 1, 0, 4, 6] 0 st)).bind fun x => iter (fun v r => porterref13_escape_g1 N ((fun x => (x.1, x.2.1, x.2.2.1)) x) v r K) N ((fun x => (x.2.2.2.1, x.2.2.2.2.1)) x)

noncomputable def porterref13_escape_t1 (N : Nat) : Tab ((Int × ((List Int) × ((List Tree) × (Int × (Int × Unit))))) × ((List Int) × (Bool × (Int × ((Int × (Int × Unit)) × Unit))))) := []

theorem porterref13_escape_ok1 {N : Nat} {c : Ctx} (hb : Base Go.Proofs.Tryd.prog (porterref13_escape_E N) c) : CodeOk Go.Proofs.Tryd.prog c (nodeAt porterref13_escape_body [0, 1, 0, 1, 0, 1, 0, 1, 1, 1, 1, 1]) (porterref13_escape_h1 N) :=
  loop_ok (s := [(0, .v .str), (0, .v (.int .i64)), (2, .box (.pair (.pair (.int .i64) (.pair (.arr 4 (.int .u64)) (.pair (.sl .nod) (.pair (.int .i64) (.pair (.int .i64) .unit))))) (.pair (.arr 4 (.int .u64)) (.pair .bool (.pair (.int .i64) (.pair (.pair (.int .i64) (.pair (.int .i64) .unit)) .unit)))))), (1, .v (.int .i64)), (0, .v (.int .i64))]) (m := 73) (porterref13_escape_g1 N) [7, 1, 0, 4, 6] N (fun x => (x.1, x.2.1, x.2.2.1)) (fun x => (x.2.2.2.1, x.2.2.2.2.1)) (fun i v => (i.1, i.2.1, i.2.2, v.1, v.2, ())) (fun _ => rfl) (evN_sound hb N (porterref13_escape_t1 N) porterref13_escape_L porterref13_escape_body TabOk.nil [0, 0, 1, 0, 1, 0, 1, 0, 1, 1, 1, 1, 1] _ rfl) (fun i v r K => by kernel_rfl)

noncomputable def porterref13_escape (N : Nat) (s : (List UInt8)) (at_ : Int) : Option ((Int × ((List Int) × ((List Tree) × (Int × (Int × Unit))))) × ((List Int) × (Bool × (Int × ((Int × (Int × Unit)) × Unit))))) :=
 cond (decide ((((List.length s) : Nat) : Int) ≤ (Go.IntKind.wrap Go.IntKind.i64 (at_ + (1 : Int)))))
 (some (((0 : Int), (([(0 : Int), (0 : Int), (0 : Int), (0 : Int)] : List Int), (([] : List Go.Lift.Tree), ((0 : Int), ((0 : Int), ()))))), (([(0 : Int), (0 : Int), (0 : Int), (0 : Int)] : List Int), (false, ((0 : Int), (((1 : Int), ((((List.length s) : Nat) : Int), ())), ()))))))
 (cond (Go.Lift.inR (Go.IntKind.wrap Go.IntKind.i64 (at_ + (1 : Int))) (List.length s))
 (cond ((((UInt8.toNat (List.getD s (Int.toNat (Go.IntKind.wrap Go.IntKind.i64 (at_ + (1 : Int)))) (0 : UInt8))) : Nat) : Int) == (100 : Int))
 ((porterref13_Digits N).bind fun y =>
 some (((0 : Int), (([(0 : Int), (0 : Int), (0 : Int), (0 : Int)] : List Int), (([] : List Go.Lift.Tree), ((0 : Int), ((0 : Int), ()))))), (y, (true, ((Go.IntKind.wrap Go.IntKind.i64 (at_ + (2 : Int))), (((0 : Int), ((0 : Int), ())), ()))))))
 (cond ((((UInt8.toNat (List.getD s (Int.toNat (Go.IntKind.wrap Go.IntKind.i64 (at_ + (1 : Int)))) (0 : UInt8))) : Nat) : Int) == (119 : Int))
 ((porterref13_Words N).bind fun y1 =>
 some (((0 : Int), (([(0 : Int), (0 : Int), (0 : Int), (0 : Int)] : List Int), (([] : List Go.Lift.Tree), ((0 : Int), ((0 : Int), ()))))), (y1, (true, ((Go.IntKind.wrap Go.IntKind.i64 (at_ + (2 : Int))), (((0 : Int), ((0 : Int), ())), ()))))))
 (cond ((((UInt8.toNat (List.getD s (Int.toNat (Go.IntKind.wrap Go.IntKind.i64 (at_ + (1 : Int)))) (0 : UInt8))) : Nat) : Int) == (120 : Int))
 (porterref13_escape_p1 N s at_ (((0 : Int), (([(0 : Int), (0 : Int), (0 : Int), (0 : Int)] : List Int), (([] : List Go.Lift.Tree), ((0 : Int), ((0 : Int), ()))))), (([(0 : Int), (0 : Int), (0 : Int), (0 : Int)] : List Int), (false, ((0 : Int), (((0 : Int), ((0 : Int), ())), ()))))) (0 : Int) (Go.IntKind.wrap Go.IntKind.i64 (at_ + (2 : Int)))
 (fun x4 => some x4)
 (fun n => (porterref12_Between N n n).bind fun y2 =>
 some (((0 : Int), (([(0 : Int), (0 : Int), (0 : Int), (0 : Int)] : List Int), (([] : List Go.Lift.Tree), ((0 : Int), ((0 : Int), ()))))), (y2, (false, ((Go.IntKind.wrap Go.IntKind.i64 (at_ + (4 : Int))), (((0 : Int), ((0 : Int), ())), ())))))))
 ((porterref13_among N (((UInt8.toNat (List.getD s (Int.toNat (Go.IntKind.wrap Go.IntKind.i64 (at_ + (1 : Int)))) (0 : UInt8))) : Nat) : Int) ([(92 : UInt8), (46 : UInt8), (91 : UInt8), (93 : UInt8), (40 : UInt8), (41 : UInt8), (123 : UInt8), (125 : UInt8), (124 : UInt8), (42 : UInt8), (43 : UInt8), (63 : UInt8), (45 : UInt8), (94 : UInt8)] : List UInt8)).bind fun y3 =>
 cond y3
 ((porterref12_Between N (Go.IntKind.wrap Go.IntKind.i64 (((UInt8.toNat (List.getD s (Int.toNat (Go.IntKind.wrap Go.IntKind.i64 (at_ + (1 : Int)))) (0 : UInt8))) : Nat) : Int)) (Go.IntKind.wrap Go.IntKind.i64 (((UInt8.toNat (List.getD s (Int.toNat (Go.IntKind.wrap Go.IntKind.i64 (at_ + (1 : Int)))) (0 : UInt8))) : Nat) : Int))).bind fun y4 =>
 some (((0 : Int), (([(0 : Int), (0 : Int), (0 : Int), (0 : Int)] : List Int), (([] : List Go.Lift.Tree), ((0 : Int), ((0 : Int), ()))))), (y4, (false, ((Go.IntKind.wrap Go.IntKind.i64 (at_ + (2 : Int))), (((0 : Int), ((0 : Int), ())), ()))))))
 (some (((0 : Int), (([(0 : Int), (0 : Int), (0 : Int), (0 : Int)] : List Int), (([] : List Go.Lift.Tree), ((0 : Int), ((0 : Int), ()))))), (([(0 : Int), (0 : Int), (0 : Int), (0 : Int)] : List Int), (false, ((0 : Int), (((2 : Int), (at_, ())), ()))))))))))
 (none))

noncomputable def porterref13_escape_t (N : Nat) : Tab ((Int × ((List Int) × ((List Tree) × (Int × (Int × Unit))))) × ((List Int) × (Bool × (Int × ((Int × (Int × Unit)) × Unit))))) := [([0, 1, 0, 1, 0, 1, 0, 1, 1, 1, 1, 1], porterref13_escape_h1 N)]

theorem porterref13_escape_link (N : Nat) (x : denS [(0, .v .str), (0, .v (.int .i64))]) : evFX (porterref13_escape_E N) N (porterref13_escape_t N) porterref13_escape_L Go.Proofs.Tryd.f50 (mkS [(0, .v .str), (0, .v (.int .i64))] 0 x) (kRes (.v (.pair (.pair (.int .i64) (.pair (.arr 4 (.int .u64)) (.pair (.sl .nod) (.pair (.int .i64) (.pair (.int .i64) .unit))))) (.pair (.arr 4 (.int .u64)) (.pair .bool (.pair (.int .i64) (.pair (.pair (.int .i64) (.pair (.int .i64) .unit)) .unit)))))) 2) = porterref13_escape N x.1 x.2.1 := by kernel_rfl

noncomputable def porterref13_escape_res (N : Nat) : List A → Res := resOf [(0, .v .str), (0, .v (.int .i64))] (fun x => porterref13_escape N x.1 x.2.1) (oRes (.v (.pair (.pair (.int .i64) (.pair (.arr 4 (.int .u64)) (.pair (.sl .nod) (.pair (.int .i64) (.pair (.int .i64) .unit))))) (.pair (.arr 4 (.int .u64)) (.pair .bool (.pair (.int .i64) (.pair (.pair (.int .i64) (.pair (.int .i64) .unit)) .unit)))))) 2)

theorem porterref13_escape_ct (N : Nat) : Contract Go.Proofs.Tryd.prog glob 50 (porterref13_escape_res N) :=
  Contract.of (E := porterref13_escape_E N) (H := porterref13_escape_t N) (L := porterref13_escape_L) (N := N) (body := porterref13_escape_body) (K := (kRes (.v (.pair (.pair (.int .i64) (.pair (.arr 4 (.int .u64)) (.pair (.sl .nod) (.pair (.int .i64) (.pair (.int .i64) .unit))))) (.pair (.arr 4 (.int .u64)) (.pair .bool (.pair (.int .i64) (.pair (.pair (.int .i64) (.pair (.int .i64) .unit)) .unit)))))) 2)) (porterref13_escape_Eok N) Go.Proofs.Tryd.func50 (by kernel_rfl) (by decide) (fun _ hb => (TabOk.cons (porterref13_escape_ok1 hb) TabOk.nil)) (fun x y h => by rw [porterref13_escape_link]; exact h) (kRes_ok (s := (.v (.pair (.pair (.int .i64) (.pair (.arr 4 (.int .u64)) (.pair (.sl .nod) (.pair (.int .i64) (.pair (.int .i64) .unit))))) (.pair (.arr 4 (.int .u64)) (.pair .bool (.pair (.int .i64) (.pair (.pair (.int .i64) (.pair (.int .i64) .unit)) .unit))))))) (m := 2))

noncomputable def porterref13_sign_body : Code := (Go.Proofs.Tryd.f72.body).getD .skip

noncomputable def porterref13_sign_L : List (List Nat × List Nat) := [([0], [1, 0, 4]), ([0, 0, 1], [14, 0, 1, 4]), ([1, 0, 1], [0, 1, 4]), ([0, 0, 1, 0, 1], [4]), ([1, 0, 1, 0, 1], [4]), ([0, 0, 1, 1], [21, 0, 1, 4]), ([1, 0, 1, 1], [0, 1, 4]), ([0, 0, 1, 0, 1, 1], [4]), ([1, 0, 1, 0, 1, 1], [4]), ([0, 1, 1, 1], [4]), ([1, 1, 1, 1], [4])]

noncomputable def porterref13_sign_E (N : Nat) : Env := mkEnv tys glob [(50, porterref13_escape_res N), (48, porterref12_Between_res N), (22, porterref13_other_res N), (47, porterref13_among_res N)] [] [] [] false [] []

theorem porterref13_sign_Eok (N : Nat) : EnvOk Go.Proofs.Tryd.prog (porterref13_sign_E N) := mkEnv_ok mixed tys_ok (FnsOk.cons (porterref13_escape_ct N) (FnsOk.cons (porterref12_Between_ct N) (FnsOk.cons (porterref13_other_ct N) (FnsOk.cons (porterref13_among_ct N) (FnsOk.nil))))) (ItsOk.nil)

noncomputable def porterref13_sign_p2 (N : Nat) (s : (List UInt8)) (at_ : Int) (x4 : ((Int × ((List Int) × ((List Tree) × (Int × (Int × Unit))))) × ((List Int) × (Bool × (Int × ((Int × (Int × Unit)) × Unit)))))) (k0 : Bool → Option ((Int × ((List Int) × ((List Tree) × (Int × (Int × Unit))))) × ((List Int) × (Bool × (Int × ((Int × (Int × Unit)) × Unit)))))) : Option ((Int × ((List Int) × ((List Tree) × (Int × (Int × Unit))))) × ((List Int) × (Bool × (Int × ((Int × (Int × Unit)) × Unit))))) :=
 cond (decide ((((List.length s) : Nat) : Int) ≤ at_))
 (k0 true)
 (cond (Go.Lift.inR at_ (List.length s))
 ((porterref13_among N (((UInt8.toNat (List.getD s (Int.toNat at_) (0 : UInt8))) : Nat) : Int) ([(91 : UInt8), (93 : UInt8), (45 : UInt8), (94 : UInt8)] : List UInt8)).bind fun y =>
 k0 y)
 (none))

noncomputable def porterref13_sign_g2 (N : Nat) (x : denS [(0, .v .str), (0, .v (.int .i64)), (2, .box (.pair (.pair (.int .i64) (.pair (.arr 4 (.int .u64)) (.pair (.sl .nod) (.pair (.int .i64) (.pair (.int .i64) .unit))))) (.pair (.arr 4 (.int .u64)) (.pair .bool (.pair (.int .i64) (.pair (.pair (.int .i64) (.pair (.int .i64) .unit)) .unit))))))]) (K : Ex → List A → Option ((Int × ((List Int) × ((List Tree) × (Int × (Int × Unit))))) × ((List Int) × (Bool × (Int × ((Int × (Int × Unit)) × Unit)))))) : Option ((Int × ((List Int) × ((List Tree) × (Int × (Int × Unit))))) × ((List Int) × (Bool × (Int × ((Int × (Int × Unit)) × Unit))))) :=
 porterref13_sign_p2 N x.1 x.2.1 x.2.2.1 (fun a3 => (K .normal (mkS [(0, .v .str), (0, .v (.int .i64)), (2, .box (.pair (.pair (.int .i64) (.pair (.arr 4 (.int .u64)) (.pair (.sl .nod) (.pair (.int .i64) (.pair (.int .i64) .unit))))) (.pair (.arr 4 (.int .u64)) (.pair .bool (.pair (.int .i64) (.pair (.pair (.int .i64) (.pair (.int .i64) .unit)) .unit)))))), (9, .v .bool)] 22 (x.1, x.2.1, x.2.2.1, a3, ()))))

noncomputable def porterref13_sign_h2 (N : Nat) : Hd ((Int × ((List Int) × ((List Tree) × (Int × (Int × Unit))))) × ((List Int) × (Bool × (Int × ((Int × (Int × Unit)) × Unit))))) := fun st K => (unS [(0, .v .str), (0, .v (.int .i64)), (2, .box (.pair (.pair (.int .i64) (.pair (.arr 4 (.int .u64)) (.pair (.sl .nod) (.pair (.int .i64) (.pair (.int .i64) .unit))))) (.pair (.arr 4 (.int .u64)) (.pair .bool (.pair (.int .i64) (.pair (.pair (.int .i64) (.pair (.int .i64) .unit)) .unit))))))] 32 (restr [1, 0, 4] 0 st)).bind fun x => porterref13_sign_g2 N x K

noncomputable def porterref13_sign_t2 (N : Nat) : Tab ((Int × ((List Int) × ((List Tree) × (Int × (Int × Unit))))) × ((List Int) × (Bool × (Int × ((Int × (Int × Unit)) × Unit))))) := []

theorem porterref13_sign_ok2 {N : Nat} {c : Ctx} (hb : Base Go.Proofs.Tryd.prog (porterref13_sign_E N) c) : CodeOk Go.Proofs.Tryd.prog c (nodeAt porterref13_sign_body [0, 0, 1]) (porterref13_sign_h2 N) :=
  piece_ok (s := [(0, .v .str), (0, .v (.int .i64)), (2, .box (.pair (.pair (.int .i64) (.pair (.arr 4 (.int .u64)) (.pair (.sl .nod) (.pair (.int .i64) (.pair (.int .i64) .unit))))) (.pair (.arr 4 (.int .u64)) (.pair .bool (.pair (.int .i64) (.pair (.pair (.int .i64) (.pair (.int .i64) .unit)) .unit))))))]) (m := 32) (g := porterref13_sign_g2 N) [1, 0, 4] (evN_sound hb N (porterref13_sign_t2 N) porterref13_sign_L porterref13_sign_body TabOk.nil [0, 0, 1] _ rfl) (fun x K => by kernel_rfl)

noncomputable def porterref13_sign_p1 (N : Nat) (s : (List UInt8)) (at_ : Int) (x4 : ((Int × ((List Int) × ((List Tree) × (Int × (Int × Unit))))) × ((List Int) × (Bool × (Int × ((Int × (Int × Unit)) × Unit)))))) (k0 : ((Int × ((List Int) × ((List Tree) × (Int × (Int × Unit))))) × ((List Int) × (Bool × (Int × ((Int × (Int × Unit)) × Unit))))) → Option ((Int × ((List Int) × ((List Tree) × (Int × (Int × Unit))))) × ((List Int) × (Bool × (Int × ((Int × (Int × Unit)) × Unit)))))) (k1 : Option ((Int × ((List Int) × ((List Tree) × (Int × (Int × Unit))))) × ((List Int) × (Bool × (Int × ((Int × (Int × Unit)) × Unit)))))) : Option ((Int × ((List Int) × ((List Tree) × (Int × (Int × Unit))))) × ((List Int) × (Bool × (Int × ((Int × (Int × Unit)) × Unit))))) :=
 porterref13_sign_p2 N s at_ x4
 (fun x14 => cond x14
 ((porterref13_other N s at_).bind fun y =>
 k0 y)
 (k1))

noncomputable def porterref13_sign_g1 (N : Nat) (x : denS [(0, .v .str), (0, .v (.int .i64)), (2, .box (.pair (.pair (.int .i64) (.pair (.arr 4 (.int .u64)) (.pair (.sl .nod) (.pair (.int .i64) (.pair (.int .i64) .unit))))) (.pair (.arr 4 (.int .u64)) (.pair .bool (.pair (.int .i64) (.pair (.pair (.int .i64) (.pair (.int .i64) .unit)) .unit))))))]) (K : Ex → List A → Option ((Int × ((List Int) × ((List Tree) × (Int × (Int × Unit))))) × ((List Int) × (Bool × (Int × ((Int × (Int × Unit)) × Unit)))))) : Option ((Int × ((List Int) × ((List Tree) × (Int × (Int × Unit))))) × ((List Int) × (Bool × (Int × ((Int × (Int × Unit)) × Unit))))) :=
 porterref13_sign_p1 N x.1 x.2.1 x.2.2.1 (fun a0 => (K .ret (mkS [(4, .box (.pair (.pair (.int .i64) (.pair (.arr 4 (.int .u64)) (.pair (.sl .nod) (.pair (.int .i64) (.pair (.int .i64) .unit))))) (.pair (.arr 4 (.int .u64)) (.pair .bool (.pair (.int .i64) (.pair (.pair (.int .i64) (.pair (.int .i64) .unit)) .unit))))))] 32 (a0, ())))) (K .normal (mkS [(0, .v .str), (0, .v (.int .i64)), (2, .box (.pair (.pair (.int .i64) (.pair (.arr 4 (.int .u64)) (.pair (.sl .nod) (.pair (.int .i64) (.pair (.int .i64) .unit))))) (.pair (.arr 4 (.int .u64)) (.pair .bool (.pair (.int .i64) (.pair (.pair (.int .i64) (.pair (.int .i64) .unit)) .unit))))))] 32 (x.1, x.2.1, x.2.2.1, ())))

noncomputable def porterref13_sign_h1 (N : Nat) : Hd ((Int × ((List Int) × ((List Tree) × (Int × (Int × Unit))))) × ((List Int) × (Bool × (Int × ((Int × (Int × Unit)) × Unit))))) := fun st K => (unS [(0, .v .str), (0, .v (.int .i64)), (2, .box (.pair (.pair (.int .i64) (.pair (.arr 4 (.int .u64)) (.pair (.sl .nod) (.pair (.int .i64) (.pair (.int .i64) .unit))))) (.pair (.arr 4 (.int .u64)) (.pair .bool (.pair (.int .i64) (.pair (.pair (.int .i64) (.pair (.int .i64) .unit)) .unit))))))] 32 (restr [1, 0, 4] 0 st)).bind fun x => porterref13_sign_g1 N x K

noncomputable def porterref13_sign_t1 (N : Nat) : Tab ((Int × ((List Int) × ((List Tree) × (Int × (Int × Unit))))) × ((List Int) × (Bool × (Int × ((Int × (Int × Unit)) × Unit))))) := [([0, 0, 1], porterref13_sign_h2 N)]

theorem porterref13_sign_ok1 {N : Nat} {c : Ctx} (hb : Base Go.Proofs.Tryd.prog (porterref13_sign_E N) c) : CodeOk Go.Proofs.Tryd.prog c (nodeAt porterref13_sign_body [0, 1]) (porterref13_sign_h1 N) :=
  piece_ok (s := [(0, .v .str), (0, .v (.int .i64)), (2, .box (.pair (.pair (.int .i64) (.pair (.arr 4 (.int .u64)) (.pair (.sl .nod) (.pair (.int .i64) (.pair (.int .i64) .unit))))) (.pair (.arr 4 (.int .u64)) (.pair .bool (.pair (.int .i64) (.pair (.pair (.int .i64) (.pair (.int .i64) .unit)) .unit))))))]) (m := 32) (g := porterref13_sign_g1 N) [1, 0, 4] (evN_sound hb N (porterref13_sign_t1 N) porterref13_sign_L porterref13_sign_body (TabOk.cons (porterref13_sign_ok2 hb) TabOk.nil) [0, 1] _ rfl) (fun x K => by kernel_rfl)

noncomputable def porterref13_sign (N : Nat) (s : (List UInt8)) (at_ : Int) : Option ((Int × ((List Int) × ((List Tree) × (Int × (Int × Unit))))) × ((List Int) × (Bool × (Int × ((Int × (Int × Unit)) × Unit))))) :=
 porterref13_sign_p1 N s at_ (((0 : Int), (([(0 : Int), (0 : Int), (0 : Int), (0 : Int)] : List Int), (([] : List Go.Lift.Tree), ((0 : Int), ((0 : Int), ()))))), (([(0 : Int), (0 : Int), (0 : Int), (0 : Int)] : List Int), (false, ((0 : Int), (((0 : Int), ((0 : Int), ())), ())))))
 (fun x4 => some x4)
 (cond (Go.Lift.inR at_ (List.length s))
 (cond ((((UInt8.toNat (List.getD s (Int.toNat at_) (0 : UInt8))) : Nat) : Int) == (92 : Int))
 ((porterref13_escape N s at_).bind fun y =>
 some y)
 (cond (Go.Lift.inR at_ (List.length s))
 (cond (Go.Lift.inR at_ (List.length s))
 ((porterref12_Between N (Go.IntKind.wrap Go.IntKind.i64 (((UInt8.toNat (List.getD s (Int.toNat at_) (0 : UInt8))) : Nat) : Int)) (Go.IntKind.wrap Go.IntKind.i64 (((UInt8.toNat (List.getD s (Int.toNat at_) (0 : UInt8))) : Nat) : Int))).bind fun y1 =>
 some (((0 : Int), (([(0 : Int), (0 : Int), (0 : Int), (0 : Int)] : List Int), (([] : List Go.Lift.Tree), ((0 : Int), ((0 : Int), ()))))), (y1, (false, ((Go.IntKind.wrap Go.IntKind.i64 (at_ + (1 : Int))), (((0 : Int), ((0 : Int), ())), ()))))))
 (none))
 (none)))
 (none))

noncomputable def porterref13_sign_t (N : Nat) : Tab ((Int × ((List Int) × ((List Tree) × (Int × (Int × Unit))))) × ((List Int) × (Bool × (Int × ((Int × (Int × Unit)) × Unit))))) := [([0, 1], porterref13_sign_h1 N)]

theorem porterref13_sign_link (N : Nat) (x : denS [(0, .v .str), (0, .v (.int .i64))]) : evFX (porterref13_sign_E N) N (porterref13_sign_t N) porterref13_sign_L Go.Proofs.Tryd.f72 (mkS [(0, .v .str), (0, .v (.int .i64))] 0 x) (kRes (.v (.pair (.pair (.int .i64) (.pair (.arr 4 (.int .u64)) (.pair (.sl .nod) (.pair (.int .i64) (.pair (.int .i64) .unit))))) (.pair (.arr 4 (.int .u64)) (.pair .bool (.pair (.int .i64) (.pair (.pair (.int .i64) (.pair (.int .i64) .unit)) .unit)))))) 2) = porterref13_sign N x.1 x.2.1 := by kernel_rfl

noncomputable def porterref13_sign_res (N : Nat) : List A → Res := resOf [(0, .v .str), (0, .v (.int .i64))] (fun x => porterref13_sign N x.1 x.2.1) (oRes (.v (.pair (.pair (.int .i64) (.pair (.arr 4 (.int .u64)) (.pair (.sl .nod) (.pair (.int .i64) (.pair (.int .i64) .unit))))) (.pair (.arr 4 (.int .u64)) (.pair .bool (.pair (.int .i64) (.pair (.pair (.int .i64) (.pair (.int .i64) .unit)) .unit)))))) 2)

theorem porterref13_sign_ct (N : Nat) : Contract Go.Proofs.Tryd.prog glob 72 (porterref13_sign_res N) :=
  Contract.of (E := porterref13_sign_E N) (H := porterref13_sign_t N) (L := porterref13_sign_L) (N := N) (body := porterref13_sign_body) (K := (kRes (.v (.pair (.pair (.int .i64) (.pair (.arr 4 (.int .u64)) (.pair (.sl .nod) (.pair (.int .i64) (.pair (.int .i64) .unit))))) (.pair (.arr 4 (.int .u64)) (.pair .bool (.pair (.int .i64) (.pair (.pair (.int .i64) (.pair (.int .i64) .unit)) .unit)))))) 2)) (porterref13_sign_Eok N) Go.Proofs.Tryd.func72 (by kernel_rfl) (by decide) (fun _ hb => (TabOk.cons (porterref13_sign_ok1 hb) TabOk.nil)) (fun x y h => by rw [porterref13_sign_link]; exact h) (kRes_ok (s := (.v (.pair (.pair (.int .i64) (.pair (.arr 4 (.int .u64)) (.pair (.sl .nod) (.pair (.int .i64) (.pair (.int .i64) .unit))))) (.pair (.arr 4 (.int .u64)) (.pair .bool (.pair (.int .i64) (.pair (.pair (.int .i64) (.pair (.int .i64) .unit)) .unit))))))) (m := 2))

noncomputable def porterref12_First_body : Code := (Go.Proofs.Tryd.f73.body).getD .skip

noncomputable def porterref12_First_L : List (List Nat × List Nat) := [([0], [1]), ([0, 0, 1], [3, 1]), ([0, 1, 0, 1], [3, 1]), ([0, 0, 0, 0, 1, 0, 1], [5, 1, 3]), ([1, 0, 0, 0, 1, 0, 1], [1, 3]), ([1, 1, 0, 0, 0, 1, 0, 1], []), ([0, 0, 0, 1, 0, 0, 1, 0, 1], [10, 3, 1]), ([1, 0, 0, 1, 0, 0, 1, 0, 1], [3, 1]), ([0, 0, 1, 0, 0, 1, 0, 0, 1, 0, 1], [2]), ([1, 0, 1, 0, 0, 1, 0, 0, 1, 0, 1], [2]), ([0, 1, 0, 0, 1, 0, 1], [3, 1]), ([1, 1, 0, 0, 1, 0, 1], [3, 1]), ([1, 0, 1], []), ([0, 1, 1], [2]), ([1, 1, 1], [2])]

noncomputable def porterref12_First_E (N : Nat) : Env := mkEnv tys glob [(71, porterref12_Has_res N)] [] [] [] false [] []

theorem porterref12_First_Eok (N : Nat) : EnvOk Go.Proofs.Tryd.prog (porterref12_First_E N) := mkEnv_ok mixed tys_ok (FnsOk.cons (porterref12_Has_ct N) (FnsOk.nil)) (ItsOk.nil)

noncomputable def porterref12_First_s1 (N : Nat) (s : (List Int)) (b : Int) (rec : Int → Option Int) (k0 : Int → Option Int) (k1 : Option Int) : Option Int :=
 cond (decide (b < (256 : Int)))
 ((porterref12_Has N s b).bind fun y =>
 cond y
 (k0 b)
 (rec (Go.IntKind.wrap Go.IntKind.i64 (b + (1 : Int)))))
 (k1)

noncomputable def porterref12_First_p1 (N : Nat) (s : (List Int)) (b : Int) (k0 : Int → Option Int) (k1 : Option Int) : Option Int :=
 iter (fun (v : Int) r => porterref12_First_s1 N s v (fun b => (r b)) k0 k1) N b

noncomputable def porterref12_First_g1 (N : Nat) (i : (List Int)) (v : Int) (r : Int → Option Int) (K : Ex → List A → Option Int) : Option Int :=
 porterref12_First_s1 N i v (fun b => (r b)) (fun a0 => (K .ret (mkS [(2, .v (.int .i64))] 9 (a0, ())))) (K (.exit 0) (mkS [] 12 ()))

noncomputable def porterref12_First_h1 (N : Nat) : Hd Int := fun st K => (unS [(1, .box (.arr 4 (.int .u64))), (1, .v (.int .i64))] 8 (restr [3, 1] 0 st)).bind fun x => iter (fun v r => porterref12_First_g1 N ((fun x => x.1) x) v r K) N ((fun x => x.2.1) x)

noncomputable def porterref12_First_t1 (N : Nat) : Tab Int := []

theorem porterref12_First_ok1 {N : Nat} {c : Ctx} (hb : Base Go.Proofs.Tryd.prog (porterref12_First_E N) c) : CodeOk Go.Proofs.Tryd.prog c (nodeAt porterref12_First_body [0, 1, 0, 1]) (porterref12_First_h1 N) :=
  loop_ok (s := [(1, .box (.arr 4 (.int .u64))), (1, .v (.int .i64))]) (m := 8) (porterref12_First_g1 N) [3, 1] N (fun x => x.1) (fun x => x.2.1) (fun i v => (i, v, ())) (fun _ => rfl) (evN_sound hb N (porterref12_First_t1 N) porterref12_First_L porterref12_First_body TabOk.nil [0, 0, 1, 0, 1] _ rfl) (fun i v r K => by kernel_rfl)

noncomputable def porterref12_First (N : Nat) (s : (List Int)) : Option Int :=
 porterref12_First_p1 N s (0 : Int)
 (fun x2 => some x2)
 (some (-(1 : Int)))

noncomputable def porterref12_First_t (N : Nat) : Tab Int := [([0, 1, 0, 1], porterref12_First_h1 N)]

theorem porterref12_First_link (N : Nat) (x : denS [(0, .v (.arr 4 (.int .u64)))]) : evFX (porterref12_First_E N) N (porterref12_First_t N) porterref12_First_L Go.Proofs.Tryd.f73 (mkS [(0, .v (.arr 4 (.int .u64)))] 0 x) (kRes (.v (.int .i64)) 1) = porterref12_First N x.1 := by kernel_rfl

noncomputable def porterref12_First_res (N : Nat) : List A → Res := resOf [(0, .v (.arr 4 (.int .u64)))] (fun x => porterref12_First N x.1) (oRes (.v (.int .i64)) 1)

theorem porterref12_First_ct (N : Nat) : Contract Go.Proofs.Tryd.prog glob 73 (porterref12_First_res N) :=
  Contract.of (E := porterref12_First_E N) (H := porterref12_First_t N) (L := porterref12_First_L) (N := N) (body := porterref12_First_body) (K := (kRes (.v (.int .i64)) 1)) (porterref12_First_Eok N) Go.Proofs.Tryd.func73 (by kernel_rfl) (by decide) (fun _ hb => (TabOk.cons (porterref12_First_ok1 hb) TabOk.nil)) (fun x y h => by rw [porterref12_First_link]; exact h) (kRes_ok (s := (.v (.int .i64))) (m := 1))

noncomputable def porterref13_item_body : Code := (Go.Proofs.Tryd.f62.body).getD .skip

noncomputable def porterref13_item_L : List (List Nat × List Nat) := [([0], [0, 1, 4]), ([0, 1], [5, 0, 4]), ([0, 0, 1, 1], [26, 5, 4, 0]), ([1, 0, 1, 1], [0, 5, 4]), ([0, 0, 1, 0, 1, 1], [4]), ([1, 0, 1, 0, 1, 1], [4]), ([0, 1, 1, 1], [6, 4, 5]), ([0, 0, 1, 1, 1, 1], [36, 6, 4, 5]), ([1, 0, 1, 1, 1, 1], [5, 6, 4]), ([0, 0, 1, 0, 1, 1, 1, 1], [4]), ([1, 0, 1, 0, 1, 1, 1, 1], [4]), ([0, 1, 1, 1, 1, 1], [6, 8, 7, 5, 4]), ([0, 0, 1, 1, 1, 1, 1, 1], [50, 5, 4, 7, 8, 6]), ([1, 0, 1, 1, 1, 1, 1, 1], [7, 8, 6, 4]), ([0, 0, 1, 0, 1, 1, 1, 1, 1, 1], [4]), ([1, 0, 1, 0, 1, 1, 1, 1, 1, 1], [4]), ([0, 1, 1, 1, 1, 1, 1, 1], [4]), ([1, 1, 1, 1, 1, 1, 1, 1], [4])]

noncomputable def porterref13_item_E (N : Nat) : Env := mkEnv tys glob [(73, porterref12_First_res N), (72, porterref13_sign_res N), (48, porterref12_Between_res N), (29, porterref13_is_res N), (31, porterref13_bad_res N)] [] [] [] false [] []

theorem porterref13_item_Eok (N : Nat) : EnvOk Go.Proofs.Tryd.prog (porterref13_item_E N) := mkEnv_ok mixed tys_ok (FnsOk.cons (porterref12_First_ct N) (FnsOk.cons (porterref13_sign_ct N) (FnsOk.cons (porterref12_Between_ct N) (FnsOk.cons (porterref13_is_ct N) (FnsOk.cons (porterref13_bad_ct N) (FnsOk.nil)))))) (ItsOk.nil)

noncomputable def porterref13_item_p2 (N : Nat) (s : (List UInt8)) (x4 : ((Int × ((List Int) × ((List Tree) × (Int × (Int × Unit))))) × ((List Int) × (Bool × (Int × ((Int × (Int × Unit)) × Unit)))))) (a : ((Int × ((List Int) × ((List Tree) × (Int × (Int × Unit))))) × ((List Int) × (Bool × (Int × ((Int × (Int × Unit)) × Unit)))))) (k0 : Bool → Option ((Int × ((List Int) × ((List Tree) × (Int × (Int × Unit))))) × ((List Int) × (Bool × (Int × ((Int × (Int × Unit)) × Unit)))))) : Option ((Int × ((List Int) × ((List Tree) × (Int × (Int × Unit))))) × ((List Int) × (Bool × (Int × ((Int × (Int × Unit)) × Unit))))) :=
 cond (a.2.2.2.2.1.1 != (0 : Int))
 (k0 true)
 (cond a.2.2.1
 (k0 true)
 ((porterref13_is N s a.2.2.2.1 (45 : Int)).bind fun y =>
 k0 (!y)))

noncomputable def porterref13_item_g2 (N : Nat) (x : denS [(0, .v .str), (3, .box (.pair (.pair (.int .i64) (.pair (.arr 4 (.int .u64)) (.pair (.sl .nod) (.pair (.int .i64) (.pair (.int .i64) .unit))))) (.pair (.arr 4 (.int .u64)) (.pair .bool (.pair (.int .i64) (.pair (.pair (.int .i64) (.pair (.int .i64) .unit)) .unit)))))), (0, .box (.pair (.pair (.int .i64) (.pair (.arr 4 (.int .u64)) (.pair (.sl .nod) (.pair (.int .i64) (.pair (.int .i64) .unit))))) (.pair (.arr 4 (.int .u64)) (.pair .bool (.pair (.int .i64) (.pair (.pair (.int .i64) (.pair (.int .i64) .unit)) .unit))))))]) (K : Ex → List A → Option ((Int × ((List Int) × ((List Tree) × (Int × (Int × Unit))))) × ((List Int) × (Bool × (Int × ((Int × (Int × Unit)) × Unit)))))) : Option ((Int × ((List Int) × ((List Tree) × (Int × (Int × Unit))))) × ((List Int) × (Bool × (Int × ((Int × (Int × Unit)) × Unit))))) :=
 porterref13_item_p2 N x.1 x.2.1 x.2.2.1 (fun a3 => (K .normal (mkS [(0, .v .str), (3, .box (.pair (.pair (.int .i64) (.pair (.arr 4 (.int .u64)) (.pair (.sl .nod) (.pair (.int .i64) (.pair (.int .i64) .unit))))) (.pair (.arr 4 (.int .u64)) (.pair .bool (.pair (.int .i64) (.pair (.pair (.int .i64) (.pair (.int .i64) .unit)) .unit)))))), (0, .box (.pair (.pair (.int .i64) (.pair (.arr 4 (.int .u64)) (.pair (.sl .nod) (.pair (.int .i64) (.pair (.int .i64) .unit))))) (.pair (.arr 4 (.int .u64)) (.pair .bool (.pair (.int .i64) (.pair (.pair (.int .i64) (.pair (.int .i64) .unit)) .unit)))))), (20, .v .bool)] 34 (x.1, x.2.1, x.2.2.1, a3, ()))))

noncomputable def porterref13_item_h2 (N : Nat) : Hd ((Int × ((List Int) × ((List Tree) × (Int × (Int × Unit))))) × ((List Int) × (Bool × (Int × ((Int × (Int × Unit)) × Unit))))) := fun st K => (unS [(0, .v .str), (3, .box (.pair (.pair (.int .i64) (.pair (.arr 4 (.int .u64)) (.pair (.sl .nod) (.pair (.int .i64) (.pair (.int .i64) .unit))))) (.pair (.arr 4 (.int .u64)) (.pair .bool (.pair (.int .i64) (.pair (.pair (.int .i64) (.pair (.int .i64) .unit)) .unit)))))), (0, .box (.pair (.pair (.int .i64) (.pair (.arr 4 (.int .u64)) (.pair (.sl .nod) (.pair (.int .i64) (.pair (.int .i64) .unit))))) (.pair (.arr 4 (.int .u64)) (.pair .bool (.pair (.int .i64) (.pair (.pair (.int .i64) (.pair (.int .i64) .unit)) .unit))))))] 55 (restr [5, 0, 4] 0 st)).bind fun x => porterref13_item_g2 N x K

noncomputable def porterref13_item_t2 (N : Nat) : Tab ((Int × ((List Int) × ((List Tree) × (Int × (Int × Unit))))) × ((List Int) × (Bool × (Int × ((Int × (Int × Unit)) × Unit))))) := []

theorem porterref13_item_ok2 {N : Nat} {c : Ctx} (hb : Base Go.Proofs.Tryd.prog (porterref13_item_E N) c) : CodeOk Go.Proofs.Tryd.prog c (nodeAt porterref13_item_body [0, 0, 1, 1]) (porterref13_item_h2 N) :=
  piece_ok (s := [(0, .v .str), (3, .box (.pair (.pair (.int .i64) (.pair (.arr 4 (.int .u64)) (.pair (.sl .nod) (.pair (.int .i64) (.pair (.int .i64) .unit))))) (.pair (.arr 4 (.int .u64)) (.pair .bool (.pair (.int .i64) (.pair (.pair (.int .i64) (.pair (.int .i64) .unit)) .unit)))))), (0, .box (.pair (.pair (.int .i64) (.pair (.arr 4 (.int .u64)) (.pair (.sl .nod) (.pair (.int .i64) (.pair (.int .i64) .unit))))) (.pair (.arr 4 (.int .u64)) (.pair .bool (.pair (.int .i64) (.pair (.pair (.int .i64) (.pair (.int .i64) .unit)) .unit))))))]) (m := 55) (g := porterref13_item_g2 N) [5, 0, 4] (evN_sound hb N (porterref13_item_t2 N) porterref13_item_L porterref13_item_body TabOk.nil [0, 0, 1, 1] _ rfl) (fun x K => by kernel_rfl)

noncomputable def porterref13_item_p1 (N : Nat) (s : (List UInt8)) (x4 : ((Int × ((List Int) × ((List Tree) × (Int × (Int × Unit))))) × ((List Int) × (Bool × (Int × ((Int × (Int × Unit)) × Unit)))))) (a : ((Int × ((List Int) × ((List Tree) × (Int × (Int × Unit))))) × ((List Int) × (Bool × (Int × ((Int × (Int × Unit)) × Unit)))))) (k0 : Option ((Int × ((List Int) × ((List Tree) × (Int × (Int × Unit))))) × ((List Int) × (Bool × (Int × ((Int × (Int × Unit)) × Unit)))))) (k1 : Option ((Int × ((List Int) × ((List Tree) × (Int × (Int × Unit))))) × ((List Int) × (Bool × (Int × ((Int × (Int × Unit)) × Unit)))))) : Option ((Int × ((List Int) × ((List Tree) × (Int × (Int × Unit))))) × ((List Int) × (Bool × (Int × ((Int × (Int × Unit)) × Unit))))) :=
 porterref13_item_p2 N s x4 a
 (fun x26 => cond x26
 (k0)
 (k1))

noncomputable def porterref13_item_g1 (N : Nat) (x : denS [(0, .v .str), (3, .box (.pair (.pair (.int .i64) (.pair (.arr 4 (.int .u64)) (.pair (.sl .nod) (.pair (.int .i64) (.pair (.int .i64) .unit))))) (.pair (.arr 4 (.int .u64)) (.pair .bool (.pair (.int .i64) (.pair (.pair (.int .i64) (.pair (.int .i64) .unit)) .unit)))))), (0, .box (.pair (.pair (.int .i64) (.pair (.arr 4 (.int .u64)) (.pair (.sl .nod) (.pair (.int .i64) (.pair (.int .i64) .unit))))) (.pair (.arr 4 (.int .u64)) (.pair .bool (.pair (.int .i64) (.pair (.pair (.int .i64) (.pair (.int .i64) .unit)) .unit))))))]) (K : Ex → List A → Option ((Int × ((List Int) × ((List Tree) × (Int × (Int × Unit))))) × ((List Int) × (Bool × (Int × ((Int × (Int × Unit)) × Unit)))))) : Option ((Int × ((List Int) × ((List Tree) × (Int × (Int × Unit))))) × ((List Int) × (Bool × (Int × ((Int × (Int × Unit)) × Unit))))) :=
 porterref13_item_p1 N x.1 x.2.1 x.2.2.1 (K .ret (mkS [(4, .box (.pair (.pair (.int .i64) (.pair (.arr 4 (.int .u64)) (.pair (.sl .nod) (.pair (.int .i64) (.pair (.int .i64) .unit))))) (.pair (.arr 4 (.int .u64)) (.pair .bool (.pair (.int .i64) (.pair (.pair (.int .i64) (.pair (.int .i64) .unit)) .unit))))))] 56 (x.2.2.1, ()))) (K .normal (mkS [(0, .v .str), (3, .box (.pair (.pair (.int .i64) (.pair (.arr 4 (.int .u64)) (.pair (.sl .nod) (.pair (.int .i64) (.pair (.int .i64) .unit))))) (.pair (.arr 4 (.int .u64)) (.pair .bool (.pair (.int .i64) (.pair (.pair (.int .i64) (.pair (.int .i64) .unit)) .unit)))))), (0, .box (.pair (.pair (.int .i64) (.pair (.arr 4 (.int .u64)) (.pair (.sl .nod) (.pair (.int .i64) (.pair (.int .i64) .unit))))) (.pair (.arr 4 (.int .u64)) (.pair .bool (.pair (.int .i64) (.pair (.pair (.int .i64) (.pair (.int .i64) .unit)) .unit))))))] 55 (x.1, x.2.1, x.2.2.1, ())))

noncomputable def porterref13_item_h1 (N : Nat) : Hd ((Int × ((List Int) × ((List Tree) × (Int × (Int × Unit))))) × ((List Int) × (Bool × (Int × ((Int × (Int × Unit)) × Unit))))) := fun st K => (unS [(0, .v .str), (3, .box (.pair (.pair (.int .i64) (.pair (.arr 4 (.int .u64)) (.pair (.sl .nod) (.pair (.int .i64) (.pair (.int .i64) .unit))))) (.pair (.arr 4 (.int .u64)) (.pair .bool (.pair (.int .i64) (.pair (.pair (.int .i64) (.pair (.int .i64) .unit)) .unit)))))), (0, .box (.pair (.pair (.int .i64) (.pair (.arr 4 (.int .u64)) (.pair (.sl .nod) (.pair (.int .i64) (.pair (.int .i64) .unit))))) (.pair (.arr 4 (.int .u64)) (.pair .bool (.pair (.int .i64) (.pair (.pair (.int .i64) (.pair (.int .i64) .unit)) .unit))))))] 55 (restr [5, 0, 4] 0 st)).bind fun x => porterref13_item_g1 N x K

noncomputable def porterref13_item_t1 (N : Nat) : Tab ((Int × ((List Int) × ((List Tree) × (Int × (Int × Unit))))) × ((List Int) × (Bool × (Int × ((Int × (Int × Unit)) × Unit))))) := [([0, 0, 1, 1], porterref13_item_h2 N)]

theorem porterref13_item_ok1 {N : Nat} {c : Ctx} (hb : Base Go.Proofs.Tryd.prog (porterref13_item_E N) c) : CodeOk Go.Proofs.Tryd.prog c (nodeAt porterref13_item_body [0, 1, 1]) (porterref13_item_h1 N) :=
  piece_ok (s := [(0, .v .str), (3, .box (.pair (.pair (.int .i64) (.pair (.arr 4 (.int .u64)) (.pair (.sl .nod) (.pair (.int .i64) (.pair (.int .i64) .unit))))) (.pair (.arr 4 (.int .u64)) (.pair .bool (.pair (.int .i64) (.pair (.pair (.int .i64) (.pair (.int .i64) .unit)) .unit)))))), (0, .box (.pair (.pair (.int .i64) (.pair (.arr 4 (.int .u64)) (.pair (.sl .nod) (.pair (.int .i64) (.pair (.int .i64) .unit))))) (.pair (.arr 4 (.int .u64)) (.pair .bool (.pair (.int .i64) (.pair (.pair (.int .i64) (.pair (.int .i64) .unit)) .unit))))))]) (m := 55) (g := porterref13_item_g1 N) [5, 0, 4] (evN_sound hb N (porterref13_item_t1 N) porterref13_item_L porterref13_item_body (TabOk.cons (porterref13_item_ok2 hb) TabOk.nil) [0, 1, 1] _ rfl) (fun x K => by kernel_rfl)

noncomputable def porterref13_item_p4 (N : Nat) (x4 : ((Int × ((List Int) × ((List Tree) × (Int × (Int × Unit))))) × ((List Int) × (Bool × (Int × ((Int × (Int × Unit)) × Unit)))))) (a : ((Int × ((List Int) × ((List Tree) × (Int × (Int × Unit))))) × ((List Int) × (Bool × (Int × ((Int × (Int × Unit)) × Unit)))))) (b : ((Int × ((List Int) × ((List Tree) × (Int × (Int × Unit))))) × ((List Int) × (Bool × (Int × ((Int × (Int × Unit)) × Unit)))))) (lo : Int) (hi : Int) (k0 : Bool → Option ((Int × ((List Int) × ((List Tree) × (Int × (Int × Unit))))) × ((List Int) × (Bool × (Int × ((Int × (Int × Unit)) × Unit)))))) : Option ((Int × ((List Int) × ((List Tree) × (Int × (Int × Unit))))) × ((List Int) × (Bool × (Int × ((Int × (Int × Unit)) × Unit))))) :=
 cond b.2.2.1
 (k0 true)
 (k0 (decide (hi < lo)))

noncomputable def porterref13_item_g4 (N : Nat) (x : denS [(4, .box (.pair (.pair (.int .i64) (.pair (.arr 4 (.int .u64)) (.pair (.sl .nod) (.pair (.int .i64) (.pair (.int .i64) .unit))))) (.pair (.arr 4 (.int .u64)) (.pair .bool (.pair (.int .i64) (.pair (.pair (.int .i64) (.pair (.int .i64) .unit)) .unit)))))), (0, .box (.pair (.pair (.int .i64) (.pair (.arr 4 (.int .u64)) (.pair (.sl .nod) (.pair (.int .i64) (.pair (.int .i64) .unit))))) (.pair (.arr 4 (.int .u64)) (.pair .bool (.pair (.int .i64) (.pair (.pair (.int .i64) (.pair (.int .i64) .unit)) .unit)))))), (0, .box (.pair (.pair (.int .i64) (.pair (.arr 4 (.int .u64)) (.pair (.sl .nod) (.pair (.int .i64) (.pair (.int .i64) .unit))))) (.pair (.arr 4 (.int .u64)) (.pair .bool (.pair (.int .i64) (.pair (.pair (.int .i64) (.pair (.int .i64) .unit)) .unit)))))), (0, .v (.int .i64)), (0, .v (.int .i64))]) (K : Ex → List A → Option ((Int × ((List Int) × ((List Tree) × (Int × (Int × Unit))))) × ((List Int) × (Bool × (Int × ((Int × (Int × Unit)) × Unit)))))) : Option ((Int × ((List Int) × ((List Tree) × (Int × (Int × Unit))))) × ((List Int) × (Bool × (Int × ((Int × (Int × Unit)) × Unit))))) :=
 porterref13_item_p4 N x.1 x.2.1 x.2.2.1 x.2.2.2.1 x.2.2.2.2.1 (fun a5 => (K .normal (mkS [(4, .box (.pair (.pair (.int .i64) (.pair (.arr 4 (.int .u64)) (.pair (.sl .nod) (.pair (.int .i64) (.pair (.int .i64) .unit))))) (.pair (.arr 4 (.int .u64)) (.pair .bool (.pair (.int .i64) (.pair (.pair (.int .i64) (.pair (.int .i64) .unit)) .unit)))))), (0, .box (.pair (.pair (.int .i64) (.pair (.arr 4 (.int .u64)) (.pair (.sl .nod) (.pair (.int .i64) (.pair (.int .i64) .unit))))) (.pair (.arr 4 (.int .u64)) (.pair .bool (.pair (.int .i64) (.pair (.pair (.int .i64) (.pair (.int .i64) .unit)) .unit)))))), (0, .box (.pair (.pair (.int .i64) (.pair (.arr 4 (.int .u64)) (.pair (.sl .nod) (.pair (.int .i64) (.pair (.int .i64) .unit))))) (.pair (.arr 4 (.int .u64)) (.pair .bool (.pair (.int .i64) (.pair (.pair (.int .i64) (.pair (.int .i64) .unit)) .unit)))))), (0, .v (.int .i64)), (0, .v (.int .i64)), (41, .v .bool)] 10 (x.1, x.2.1, x.2.2.1, x.2.2.2.1, x.2.2.2.2.1, a5, ()))))

noncomputable def porterref13_item_h4 (N : Nat) : Hd ((Int × ((List Int) × ((List Tree) × (Int × (Int × Unit))))) × ((List Int) × (Bool × (Int × ((Int × (Int × Unit)) × Unit))))) := fun st K => (unS [(4, .box (.pair (.pair (.int .i64) (.pair (.arr 4 (.int .u64)) (.pair (.sl .nod) (.pair (.int .i64) (.pair (.int .i64) .unit))))) (.pair (.arr 4 (.int .u64)) (.pair .bool (.pair (.int .i64) (.pair (.pair (.int .i64) (.pair (.int .i64) .unit)) .unit)))))), (0, .box (.pair (.pair (.int .i64) (.pair (.arr 4 (.int .u64)) (.pair (.sl .nod) (.pair (.int .i64) (.pair (.int .i64) .unit))))) (.pair (.arr 4 (.int .u64)) (.pair .bool (.pair (.int .i64) (.pair (.pair (.int .i64) (.pair (.int .i64) .unit)) .unit)))))), (0, .box (.pair (.pair (.int .i64) (.pair (.arr 4 (.int .u64)) (.pair (.sl .nod) (.pair (.int .i64) (.pair (.int .i64) .unit))))) (.pair (.arr 4 (.int .u64)) (.pair .bool (.pair (.int .i64) (.pair (.pair (.int .i64) (.pair (.int .i64) .unit)) .unit)))))), (0, .v (.int .i64)), (0, .v (.int .i64))] 52 (restr [6, 8, 7, 5, 4] 0 st)).bind fun x => porterref13_item_g4 N x K

noncomputable def porterref13_item_t4 (N : Nat) : Tab ((Int × ((List Int) × ((List Tree) × (Int × (Int × Unit))))) × ((List Int) × (Bool × (Int × ((Int × (Int × Unit)) × Unit))))) := []

theorem porterref13_item_ok4 {N : Nat} {c : Ctx} (hb : Base Go.Proofs.Tryd.prog (porterref13_item_E N) c) : CodeOk Go.Proofs.Tryd.prog c (nodeAt porterref13_item_body [0, 0, 1, 1, 1, 1, 1, 1]) (porterref13_item_h4 N) :=
  piece_ok (s := [(4, .box (.pair (.pair (.int .i64) (.pair (.arr 4 (.int .u64)) (.pair (.sl .nod) (.pair (.int .i64) (.pair (.int .i64) .unit))))) (.pair (.arr 4 (.int .u64)) (.pair .bool (.pair (.int .i64) (.pair (.pair (.int .i64) (.pair (.int .i64) .unit)) .unit)))))), (0, .box (.pair (.pair (.int .i64) (.pair (.arr 4 (.int .u64)) (.pair (.sl .nod) (.pair (.int .i64) (.pair (.int .i64) .unit))))) (.pair (.arr 4 (.int .u64)) (.pair .bool (.pair (.int .i64) (.pair (.pair (.int .i64) (.pair (.int .i64) .unit)) .unit)))))), (0, .box (.pair (.pair (.int .i64) (.pair (.arr 4 (.int .u64)) (.pair (.sl .nod) (.pair (.int .i64) (.pair (.int .i64) .unit))))) (.pair (.arr 4 (.int .u64)) (.pair .bool (.pair (.int .i64) (.pair (.pair (.int .i64) (.pair (.int .i64) .unit)) .unit)))))), (0, .v (.int .i64)), (0, .v (.int .i64))]) (m := 52) (g := porterref13_item_g4 N) [6, 8, 7, 5, 4] (evN_sound hb N (porterref13_item_t4 N) porterref13_item_L porterref13_item_body TabOk.nil [0, 0, 1, 1, 1, 1, 1, 1] _ rfl) (fun x K => by kernel_rfl)

noncomputable def porterref13_item_p3 (N : Nat) (x4 : ((Int × ((List Int) × ((List Tree) × (Int × (Int × Unit))))) × ((List Int) × (Bool × (Int × ((Int × (Int × Unit)) × Unit)))))) (a : ((Int × ((List Int) × ((List Tree) × (Int × (Int × Unit))))) × ((List Int) × (Bool × (Int × ((Int × (Int × Unit)) × Unit)))))) (b : ((Int × ((List Int) × ((List Tree) × (Int × (Int × Unit))))) × ((List Int) × (Bool × (Int × ((Int × (Int × Unit)) × Unit)))))) (lo : Int) (hi : Int) (k0 : ((Int × ((List Int) × ((List Tree) × (Int × (Int × Unit))))) × ((List Int) × (Bool × (Int × ((Int × (Int × Unit)) × Unit))))) → Option ((Int × ((List Int) × ((List Tree) × (Int × (Int × Unit))))) × ((List Int) × (Bool × (Int × ((Int × (Int × Unit)) × Unit)))))) (k1 : Option ((Int × ((List Int) × ((List Tree) × (Int × (Int × Unit))))) × ((List Int) × (Bool × (Int × ((Int × (Int × Unit)) × Unit)))))) : Option ((Int × ((List Int) × ((List Tree) × (Int × (Int × Unit))))) × ((List Int) × (Bool × (Int × ((Int × (Int × Unit)) × Unit))))) :=
 porterref13_item_p4 N x4 a b lo hi
 (fun x50 => cond x50
 (k0 (((0 : Int), (([(0 : Int), (0 : Int), (0 : Int), (0 : Int)] : List Int), (([] : List Go.Lift.Tree), ((0 : Int), ((0 : Int), ()))))), (([(0 : Int), (0 : Int), (0 : Int), (0 : Int)] : List Int), (false, ((0 : Int), (((2 : Int), ((Go.IntKind.wrap Go.IntKind.i64 (a.2.2.2.1 + (1 : Int))), ())), ()))))))
 (k1))

noncomputable def porterref13_item_g3 (N : Nat) (x : denS [(4, .box (.pair (.pair (.int .i64) (.pair (.arr 4 (.int .u64)) (.pair (.sl .nod) (.pair (.int .i64) (.pair (.int .i64) .unit))))) (.pair (.arr 4 (.int .u64)) (.pair .bool (.pair (.int .i64) (.pair (.pair (.int .i64) (.pair (.int .i64) .unit)) .unit)))))), (0, .box (.pair (.pair (.int .i64) (.pair (.arr 4 (.int .u64)) (.pair (.sl .nod) (.pair (.int .i64) (.pair (.int .i64) .unit))))) (.pair (.arr 4 (.int .u64)) (.pair .bool (.pair (.int .i64) (.pair (.pair (.int .i64) (.pair (.int .i64) .unit)) .unit)))))), (0, .box (.pair (.pair (.int .i64) (.pair (.arr 4 (.int .u64)) (.pair (.sl .nod) (.pair (.int .i64) (.pair (.int .i64) .unit))))) (.pair (.arr 4 (.int .u64)) (.pair .bool (.pair (.int .i64) (.pair (.pair (.int .i64) (.pair (.int .i64) .unit)) .unit)))))), (0, .v (.int .i64)), (0, .v (.int .i64))]) (K : Ex → List A → Option ((Int × ((List Int) × ((List Tree) × (Int × (Int × Unit))))) × ((List Int) × (Bool × (Int × ((Int × (Int × Unit)) × Unit)))))) : Option ((Int × ((List Int) × ((List Tree) × (Int × (Int × Unit))))) × ((List Int) × (Bool × (Int × ((Int × (Int × Unit)) × Unit))))) :=
 porterref13_item_p3 N x.1 x.2.1 x.2.2.1 x.2.2.2.1 x.2.2.2.2.1 (fun a0 => (K .ret (mkS [(4, .box (.pair (.pair (.int .i64) (.pair (.arr 4 (.int .u64)) (.pair (.sl .nod) (.pair (.int .i64) (.pair (.int .i64) .unit))))) (.pair (.arr 4 (.int .u64)) (.pair .bool (.pair (.int .i64) (.pair (.pair (.int .i64) (.pair (.int .i64) .unit)) .unit))))))] 56 (a0, ())))) (K .normal (mkS [(4, .box (.pair (.pair (.int .i64) (.pair (.arr 4 (.int .u64)) (.pair (.sl .nod) (.pair (.int .i64) (.pair (.int .i64) .unit))))) (.pair (.arr 4 (.int .u64)) (.pair .bool (.pair (.int .i64) (.pair (.pair (.int .i64) (.pair (.int .i64) .unit)) .unit)))))), (1, .box (.pair (.pair (.int .i64) (.pair (.arr 4 (.int .u64)) (.pair (.sl .nod) (.pair (.int .i64) (.pair (.int .i64) .unit))))) (.pair (.arr 4 (.int .u64)) (.pair .bool (.pair (.int .i64) (.pair (.pair (.int .i64) (.pair (.int .i64) .unit)) .unit)))))), (0, .v (.int .i64)), (0, .v (.int .i64))] 52 (x.1, x.2.2.1, x.2.2.2.1, x.2.2.2.2.1, ())))

noncomputable def porterref13_item_h3 (N : Nat) : Hd ((Int × ((List Int) × ((List Tree) × (Int × (Int × Unit))))) × ((List Int) × (Bool × (Int × ((Int × (Int × Unit)) × Unit))))) := fun st K => (unS [(4, .box (.pair (.pair (.int .i64) (.pair (.arr 4 (.int .u64)) (.pair (.sl .nod) (.pair (.int .i64) (.pair (.int .i64) .unit))))) (.pair (.arr 4 (.int .u64)) (.pair .bool (.pair (.int .i64) (.pair (.pair (.int .i64) (.pair (.int .i64) .unit)) .unit)))))), (0, .box (.pair (.pair (.int .i64) (.pair (.arr 4 (.int .u64)) (.pair (.sl .nod) (.pair (.int .i64) (.pair (.int .i64) .unit))))) (.pair (.arr 4 (.int .u64)) (.pair .bool (.pair (.int .i64) (.pair (.pair (.int .i64) (.pair (.int .i64) .unit)) .unit)))))), (0, .box (.pair (.pair (.int .i64) (.pair (.arr 4 (.int .u64)) (.pair (.sl .nod) (.pair (.int .i64) (.pair (.int .i64) .unit))))) (.pair (.arr 4 (.int .u64)) (.pair .bool (.pair (.int .i64) (.pair (.pair (.int .i64) (.pair (.int .i64) .unit)) .unit)))))), (0, .v (.int .i64)), (0, .v (.int .i64))] 52 (restr [6, 8, 7, 5, 4] 0 st)).bind fun x => porterref13_item_g3 N x K

noncomputable def porterref13_item_t3 (N : Nat) : Tab ((Int × ((List Int) × ((List Tree) × (Int × (Int × Unit))))) × ((List Int) × (Bool × (Int × ((Int × (Int × Unit)) × Unit))))) := [([0, 0, 1, 1, 1, 1, 1, 1], porterref13_item_h4 N)]

theorem porterref13_item_ok3 {N : Nat} {c : Ctx} (hb : Base Go.Proofs.Tryd.prog (porterref13_item_E N) c) : CodeOk Go.Proofs.Tryd.prog c (nodeAt porterref13_item_body [0, 1, 1, 1, 1, 1, 1]) (porterref13_item_h3 N) :=
  piece_ok (s := [(4, .box (.pair (.pair (.int .i64) (.pair (.arr 4 (.int .u64)) (.pair (.sl .nod) (.pair (.int .i64) (.pair (.int .i64) .unit))))) (.pair (.arr 4 (.int .u64)) (.pair .bool (.pair (.int .i64) (.pair (.pair (.int .i64) (.pair (.int .i64) .unit)) .unit)))))), (0, .box (.pair (.pair (.int .i64) (.pair (.arr 4 (.int .u64)) (.pair (.sl .nod) (.pair (.int .i64) (.pair (.int .i64) .unit))))) (.pair (.arr 4 (.int .u64)) (.pair .bool (.pair (.int .i64) (.pair (.pair (.int .i64) (.pair (.int .i64) .unit)) .unit)))))), (0, .box (.pair (.pair (.int .i64) (.pair (.arr 4 (.int .u64)) (.pair (.sl .nod) (.pair (.int .i64) (.pair (.int .i64) .unit))))) (.pair (.arr 4 (.int .u64)) (.pair .bool (.pair (.int .i64) (.pair (.pair (.int .i64) (.pair (.int .i64) .unit)) .unit)))))), (0, .v (.int .i64)), (0, .v (.int .i64))]) (m := 52) (g := porterref13_item_g3 N) [6, 8, 7, 5, 4] (evN_sound hb N (porterref13_item_t3 N) porterref13_item_L porterref13_item_body (TabOk.cons (porterref13_item_ok4 hb) TabOk.nil) [0, 1, 1, 1, 1, 1, 1] _ rfl) (fun x K => by kernel_rfl)

noncomputable def porterref13_item (N : Nat) (s : (List UInt8)) (at_ : Int) : Option ((Int × ((List Int) × ((List Tree) × (Int × (Int × Unit))))) × ((List Int) × (Bool × (Int × ((Int × (Int × Unit)) × Unit))))) :=
 (porterref13_sign N s at_).bind fun y =>
 porterref13_item_p1 N s (((0 : Int), (([(0 : Int), (0 : Int), (0 : Int), (0 : Int)] : List Int), (([] : List Go.Lift.Tree), ((0 : Int), ((0 : Int), ()))))), (([(0 : Int), (0 : Int), (0 : Int), (0 : Int)] : List Int), (false, ((0 : Int), (((0 : Int), ((0 : Int), ())), ()))))) y
 (some y)
 ((porterref13_sign N s (Go.IntKind.wrap Go.IntKind.i64 (y.2.2.2.1 + (1 : Int)))).bind fun y1 =>
 cond (y1.2.2.2.2.1.1 != (0 : Int))
 (some y1)
 ((porterref12_First N y.2.1).bind fun y2 =>
 (porterref12_First N y1.2.1).bind fun y3 =>
 porterref13_item_p3 N (((0 : Int), (([(0 : Int), (0 : Int), (0 : Int), (0 : Int)] : List Int), (([] : List Go.Lift.Tree), ((0 : Int), ((0 : Int), ()))))), (([(0 : Int), (0 : Int), (0 : Int), (0 : Int)] : List Int), (false, ((0 : Int), (((0 : Int), ((0 : Int), ())), ()))))) y y1 y2 y3
 (fun x4 => some x4)
 ((porterref12_Between N y2 y3).bind fun y4 =>
 some (((0 : Int), (([(0 : Int), (0 : Int), (0 : Int), (0 : Int)] : List Int), (([] : List Go.Lift.Tree), ((0 : Int), ((0 : Int), ()))))), (y4, (false, (y1.2.2.2.1, (((0 : Int), ((0 : Int), ())), ()))))))))

noncomputable def porterref13_item_t (N : Nat) : Tab ((Int × ((List Int) × ((List Tree) × (Int × (Int × Unit))))) × ((List Int) × (Bool × (Int × ((Int × (Int × Unit)) × Unit))))) := [([0, 1, 1], porterref13_item_h1 N), ([0, 1, 1, 1, 1, 1, 1], porterref13_item_h3 N)]

theorem porterref13_item_link (N : Nat) (x : denS [(0, .v .str), (0, .v (.int .i64))]) : evFX (porterref13_item_E N) N (porterref13_item_t N) porterref13_item_L Go.Proofs.Tryd.f62 (mkS [(0, .v .str), (0, .v (.int .i64))] 0 x) (kRes (.v (.pair (.pair (.int .i64) (.pair (.arr 4 (.int .u64)) (.pair (.sl .nod) (.pair (.int .i64) (.pair (.int .i64) .unit))))) (.pair (.arr 4 (.int .u64)) (.pair .bool (.pair (.int .i64) (.pair (.pair (.int .i64) (.pair (.int .i64) .unit)) .unit)))))) 2) = porterref13_item N x.1 x.2.1 := by kernel_rfl

noncomputable def porterref13_item_res (N : Nat) : List A → Res := resOf [(0, .v .str), (0, .v (.int .i64))] (fun x => porterref13_item N x.1 x.2.1) (oRes (.v (.pair (.pair (.int .i64) (.pair (.arr 4 (.int .u64)) (.pair (.sl .nod) (.pair (.int .i64) (.pair (.int .i64) .unit))))) (.pair (.arr 4 (.int .u64)) (.pair .bool (.pair (.int .i64) (.pair (.pair (.int .i64) (.pair (.int .i64) .unit)) .unit)))))) 2)

theorem porterref13_item_ct (N : Nat) : Contract Go.Proofs.Tryd.prog glob 62 (porterref13_item_res N) :=
  Contract.of (E := porterref13_item_E N) (H := porterref13_item_t N) (L := porterref13_item_L) (N := N) (body := porterref13_item_body) (K := (kRes (.v (.pair (.pair (.int .i64) (.pair (.arr 4 (.int .u64)) (.pair (.sl .nod) (.pair (.int .i64) (.pair (.int .i64) .unit))))) (.pair (.arr 4 (.int .u64)) (.pair .bool (.pair (.int .i64) (.pair (.pair (.int .i64) (.pair (.int .i64) .unit)) .unit)))))) 2)) (porterref13_item_Eok N) Go.Proofs.Tryd.func62 (by kernel_rfl) (by decide) (fun _ hb => (TabOk.cons (porterref13_item_ok1 hb) (TabOk.cons (porterref13_item_ok3 hb) TabOk.nil))) (fun x y h => by rw [porterref13_item_link]; exact h) (kRes_ok (s := (.v (.pair (.pair (.int .i64) (.pair (.arr 4 (.int .u64)) (.pair (.sl .nod) (.pair (.int .i64) (.pair (.int .i64) .unit))))) (.pair (.arr 4 (.int .u64)) (.pair .bool (.pair (.int .i64) (.pair (.pair (.int .i64) (.pair (.int .i64) .unit)) .unit))))))) (m := 2))

noncomputable def porterref12_Not_body : Code := (Go.Proofs.Tryd.f64.body).getD .skip

noncomputable def porterref12_Not_L : List (List Nat × List Nat) := [([0], [1, 2]), ([0, 1], [1, 3, 2]), ([0, 0, 1, 1], [4, 1, 3, 2]), ([0, 1, 0, 1, 1], [4, 1, 3, 2]), ([0, 0, 0, 0, 1, 0, 1, 1], [6, 1, 4, 3, 2]), ([1, 0, 0, 0, 1, 0, 1, 1], [1, 4, 3, 2]), ([1, 1, 0, 0, 0, 1, 0, 1, 1], [3, 2]), ([0, 0, 0, 1, 0, 0, 1, 0, 1, 1], [12, 3, 4, 1, 2]), ([1, 0, 0, 1, 0, 0, 1, 0, 1, 1], [4, 1, 3, 2]), ([0, 1, 0, 0, 1, 0, 0, 1, 0, 1, 1], [4, 1, 3, 2]), ([0, 1, 0, 0, 1, 0, 1, 1], [4, 1, 3, 2]), ([1, 1, 0, 0, 1, 0, 1, 1], [4, 1, 3, 2]), ([1, 0, 1, 1], [3, 2]), ([0, 1, 1, 1], [2]), ([1, 1, 1, 1], [2])]

noncomputable def porterref12_Not_E (N : Nat) : Env := mkEnv tys glob [(61, porterref12_With_res N), (71, porterref12_Has_res N)] [] [] [] false [] []

theorem porterref12_Not_Eok (N : Nat) : EnvOk Go.Proofs.Tryd.prog (porterref12_Not_E N) := mkEnv_ok mixed tys_ok (FnsOk.cons (porterref12_With_ct N) (FnsOk.cons (porterref12_Has_ct N) (FnsOk.nil))) (ItsOk.nil)

noncomputable def porterref12_Not_p2 (N : Nat) (s : (List Int)) (x2 : (List Int)) (t : (List Int)) (b : Int) (k0 : (List Int) → Option (List Int)) : Option (List Int) :=
 (porterref12_Has N s b).bind fun y =>
 cond (!y)
 ((porterref12_With N t b).bind fun y1 =>
 k0 y1)
 (k0 t)

noncomputable def porterref12_Not_g2 (N : Nat) (x : denS [(1, .box (.arr 4 (.int .u64))), (0, .box (.arr 4 (.int .u64))), (0, .box (.arr 4 (.int .u64))), (0, .v (.int .i64))]) (K : Ex → List A → Option (List Int)) : Option (List Int) :=
 porterref12_Not_p2 N x.1 x.2.1 x.2.2.1 x.2.2.2.1 (fun a2 => (K .normal (mkS [(1, .box (.arr 4 (.int .u64))), (0, .box (.arr 4 (.int .u64))), (0, .box (.arr 4 (.int .u64))), (0, .v (.int .i64))] 12 (x.1, x.2.1, a2, x.2.2.2.1, ()))))

noncomputable def porterref12_Not_h2 (N : Nat) : Hd (List Int) := fun st K => (unS [(1, .box (.arr 4 (.int .u64))), (0, .box (.arr 4 (.int .u64))), (0, .box (.arr 4 (.int .u64))), (0, .v (.int .i64))] 12 (restr [1, 4, 3, 2] 0 st)).bind fun x => porterref12_Not_g2 N x K

noncomputable def porterref12_Not_t2 (N : Nat) : Tab (List Int) := []

theorem porterref12_Not_ok2 {N : Nat} {c : Ctx} (hb : Base Go.Proofs.Tryd.prog (porterref12_Not_E N) c) : CodeOk Go.Proofs.Tryd.prog c (nodeAt porterref12_Not_body [0, 1, 0, 0, 1, 0, 1, 1]) (porterref12_Not_h2 N) :=
  piece_ok (s := [(1, .box (.arr 4 (.int .u64))), (0, .box (.arr 4 (.int .u64))), (0, .box (.arr 4 (.int .u64))), (0, .v (.int .i64))]) (m := 12) (g := porterref12_Not_g2 N) [1, 4, 3, 2] (evN_sound hb N (porterref12_Not_t2 N) porterref12_Not_L porterref12_Not_body TabOk.nil [0, 1, 0, 0, 1, 0, 1, 1] _ rfl) (fun x K => by kernel_rfl)

noncomputable def porterref12_Not_s1 (N : Nat) (s : (List Int)) (x2 : (List Int)) (t : (List Int)) (b : Int) (rec : (List Int) → Int → Option (List Int)) (k0 : (List Int) → Option (List Int)) : Option (List Int) :=
 cond (decide (b < (256 : Int)))
 (porterref12_Not_p2 N s x2 t b
 (fun t1 => rec t1 (Go.IntKind.wrap Go.IntKind.i64 (b + (1 : Int)))))
 (k0 t)

noncomputable def porterref12_Not_p1 (N : Nat) (s : (List Int)) (x2 : (List Int)) (t : (List Int)) (b : Int) (k0 : (List Int) → Option (List Int)) : Option (List Int) :=
 iter (fun (v : ((List Int) × Int)) r => porterref12_Not_s1 N s x2 v.1 v.2 (fun t b => (r (t, b))) k0) N (t, b)

noncomputable def porterref12_Not_g1 (N : Nat) (i : ((List Int) × (List Int))) (v : ((List Int) × Int)) (r : ((List Int) × Int) → Option (List Int)) (K : Ex → List A → Option (List Int)) : Option (List Int) :=
 porterref12_Not_s1 N i.1 i.2 v.1 v.2 (fun t b => (r (t, b))) (fun a1 => (K (.exit 0) (mkS [(2, .box (.arr 4 (.int .u64))), (0, .box (.arr 4 (.int .u64)))] 13 (i.2, a1, ()))))

noncomputable def porterref12_Not_h1 (N : Nat) : Hd (List Int) := fun st K => (unS [(1, .box (.arr 4 (.int .u64))), (0, .box (.arr 4 (.int .u64))), (0, .box (.arr 4 (.int .u64))), (0, .v (.int .i64))] 12 (restr [4, 1, 3, 2] 0 st)).bind fun x => iter (fun v r => porterref12_Not_g1 N ((fun x => (x.1, x.2.1)) x) v r K) N ((fun x => (x.2.2.1, x.2.2.2.1)) x)

noncomputable def porterref12_Not_t1 (N : Nat) : Tab (List Int) := [([0, 1, 0, 0, 1, 0, 1, 1], porterref12_Not_h2 N)]

theorem porterref12_Not_ok1 {N : Nat} {c : Ctx} (hb : Base Go.Proofs.Tryd.prog (porterref12_Not_E N) c) : CodeOk Go.Proofs.Tryd.prog c (nodeAt porterref12_Not_body [0, 1, 0, 1, 1]) (porterref12_Not_h1 N) :=
  loop_ok (s := [(1, .box (.arr 4 (.int .u64))), (0, .box (.arr 4 (.int .u64))), (0, .box (.arr 4 (.int .u64))), (0, .v (.int .i64))]) (m := 12) (porterref12_Not_g1 N) [4, 1, 3, 2] N (fun x => (x.1, x.2.1)) (fun x => (x.2.2.1, x.2.2.2.1)) (fun i v => (i.1, i.2, v.1, v.2, ())) (fun _ => rfl) (evN_sound hb N (porterref12_Not_t1 N) porterref12_Not_L porterref12_Not_body (TabOk.cons (porterref12_Not_ok2 hb) TabOk.nil) [0, 0, 1, 0, 1, 1] _ rfl) (fun i v r K => by kernel_rfl)

noncomputable def porterref12_Not (N : Nat) (s : (List Int)) : Option (List Int) :=
 porterref12_Not_p1 N s ([(0 : Int), (0 : Int), (0 : Int), (0 : Int)] : List Int) ([(0 : Int), (0 : Int), (0 : Int), (0 : Int)] : List Int) (0 : Int)
 (fun t => some t)

noncomputable def porterref12_Not_t (N : Nat) : Tab (List Int) := [([0, 1, 0, 1, 1], porterref12_Not_h1 N)]

theorem porterref12_Not_link (N : Nat) (x : denS [(0, .v (.arr 4 (.int .u64)))]) : evFX (porterref12_Not_E N) N (porterref12_Not_t N) porterref12_Not_L Go.Proofs.Tryd.f64 (mkS [(0, .v (.arr 4 (.int .u64)))] 0 x) (kRes (.v (.arr 4 (.int .u64))) 1) = porterref12_Not N x.1 := by kernel_rfl

noncomputable def porterref12_Not_res (N : Nat) : List A → Res := resOf [(0, .v (.arr 4 (.int .u64)))] (fun x => porterref12_Not N x.1) (oRes (.v (.arr 4 (.int .u64))) 1)

theorem porterref12_Not_ct (N : Nat) : Contract Go.Proofs.Tryd.prog glob 64 (porterref12_Not_res N) :=
  Contract.of (E := porterref12_Not_E N) (H := porterref12_Not_t N) (L := porterref12_Not_L) (N := N) (body := porterref12_Not_body) (K := (kRes (.v (.arr 4 (.int .u64))) 1)) (porterref12_Not_Eok N) Go.Proofs.Tryd.func64 (by kernel_rfl) (by decide) (fun _ hb => (TabOk.cons (porterref12_Not_ok1 hb) TabOk.nil)) (fun x y h => by rw [porterref12_Not_link]; exact h) (kRes_ok (s := (.v (.arr 4 (.int .u64)))) (m := 1))

noncomputable def porterref13_class_body : Code := (Go.Proofs.Tryd.f49.body).getD .skip

noncomputable def porterref13_class_L : List (List Nat × List Nat) := [([0], [0, 1, 4]), ([0, 1], [5, 1, 0, 4]), ([0, 0, 1, 1], [11, 1, 0, 4, 5]), ([1, 0, 1, 1], [0, 1, 4, 5]), ([0, 1, 0, 1, 1], [0, 1, 4, 5]), ([0, 1, 1, 1], [6, 4, 0, 5]), ([0, 0, 1, 1, 1, 1], [20, 6, 4, 0, 5]), ([1, 0, 1, 1, 1, 1], [6, 0, 4, 5]), ([0, 0, 1, 0, 1, 1, 1, 1], [4]), ([1, 0, 1, 0, 1, 1, 1, 1], [4]), ([0, 1, 1, 1, 1, 1], [6, 0, 4, 7, 5]), ([0, 1, 1, 1, 1, 1, 1], [0, 1, 6, 4, 7, 5]), ([0, 0, 1, 1, 1, 1, 1, 1, 1], [0, 1, 6, 4, 7, 5]), ([0, 0, 0, 0, 0, 1, 1, 1, 1, 1, 1, 1], [29, 0, 1, 6, 4, 7, 5]), ([1, 0, 0, 0, 0, 1, 1, 1, 1, 1, 1, 1], [0, 1, 6, 4, 7, 5]), ([1, 1, 0, 0, 0, 0, 1, 1, 1, 1, 1, 1, 1], [5, 7, 1, 4]), ([0, 0, 1, 0, 0, 0, 1, 1, 1, 1, 1, 1, 1], [6, 4, 7, 0, 5]), ([0, 0, 1, 0, 1, 0, 0, 0, 1, 1, 1, 1, 1, 1, 1], [36, 6, 4, 7, 0, 5]), ([1, 0, 1, 0, 1, 0, 0, 0, 1, 1, 1, 1, 1, 1, 1], [7, 6, 0, 4, 5]), ([0, 0, 1, 0, 1, 0, 1, 0, 0, 0, 1, 1, 1, 1, 1, 1, 1], [4]), ([1, 0, 1, 0, 1, 0, 1, 0, 0, 0, 1, 1, 1, 1, 1, 1, 1], [4]), ([0, 1, 1, 0, 1, 0, 0, 0, 1, 1, 1, 1, 1, 1, 1], [6, 0, 4, 7, 5]), ([1, 1, 1, 0, 1, 0, 0, 0, 1, 1, 1, 1, 1, 1, 1], [0, 1, 6, 4, 7, 5]), ([1, 0, 0, 0, 1, 1, 1, 1, 1, 1, 1], [0, 1, 6, 4, 7, 5]), ([0, 1, 1, 1, 1, 1, 1, 1], [5, 7, 1, 4]), ([0, 0, 1, 1, 1, 1, 1, 1, 1, 1], [44, 7, 1, 4]), ([1, 0, 1, 1, 1, 1, 1, 1, 1, 1], [7, 1, 4]), ([0, 1, 0, 1, 1, 1, 1, 1, 1, 1, 1], [7, 1, 4]), ([0, 1, 1, 1, 1, 1, 1, 1, 1, 1], [4]), ([1, 1, 1, 1, 1, 1, 1, 1, 1, 1], [4])]

noncomputable def porterref13_class_E (N : Nat) : Env := mkEnv tys glob [(64, porterref12_Not_res N), (62, porterref13_item_res N), (63, porterref12_Or_res N), (29, porterref13_is_res N)] [] [] [] false [] []

theorem porterref13_class_Eok (N : Nat) : EnvOk Go.Proofs.Tryd.prog (porterref13_class_E N) := mkEnv_ok mixed tys_ok (FnsOk.cons (porterref12_Not_ct N) (FnsOk.cons (porterref13_item_ct N) (FnsOk.cons (porterref12_Or_ct N) (FnsOk.cons (porterref13_is_ct N) (FnsOk.nil))))) (ItsOk.nil)

noncomputable def porterref13_class_p1 (N : Nat) (s : (List UInt8)) (at_ : Int) (x4 : ((Int × ((List Int) × ((List Tree) × (Int × (Int × Unit))))) × ((List Int) × (Bool × (Int × ((Int × (Int × Unit)) × Unit)))))) (not_ : Bool) (k0 : Int → Option ((Int × ((List Int) × ((List Tree) × (Int × (Int × Unit))))) × ((List Int) × (Bool × (Int × ((Int × (Int × Unit)) × Unit)))))) : Option ((Int × ((List Int) × ((List Tree) × (Int × (Int × Unit))))) × ((List Int) × (Bool × (Int × ((Int × (Int × Unit)) × Unit))))) :=
 cond not_
 (k0 (Go.IntKind.wrap Go.IntKind.i64 (at_ + (1 : Int))))
 (k0 at_)

noncomputable def porterref13_class_g1 (N : Nat) (x : denS [(0, .v .str), (0, .v (.int .i64)), (2, .box (.pair (.pair (.int .i64) (.pair (.arr 4 (.int .u64)) (.pair (.sl .nod) (.pair (.int .i64) (.pair (.int .i64) .unit))))) (.pair (.arr 4 (.int .u64)) (.pair .bool (.pair (.int .i64) (.pair (.pair (.int .i64) (.pair (.int .i64) .unit)) .unit)))))), (0, .v .bool)]) (K : Ex → List A → Option ((Int × ((List Int) × ((List Tree) × (Int × (Int × Unit))))) × ((List Int) × (Bool × (Int × ((Int × (Int × Unit)) × Unit)))))) : Option ((Int × ((List Int) × ((List Tree) × (Int × (Int × Unit))))) × ((List Int) × (Bool × (Int × ((Int × (Int × Unit)) × Unit))))) :=
 porterref13_class_p1 N x.1 x.2.1 x.2.2.1 x.2.2.2.1 (fun a1 => (K .normal (mkS [(0, .v .str), (0, .v (.int .i64)), (2, .box (.pair (.pair (.int .i64) (.pair (.arr 4 (.int .u64)) (.pair (.sl .nod) (.pair (.int .i64) (.pair (.int .i64) .unit))))) (.pair (.arr 4 (.int .u64)) (.pair .bool (.pair (.int .i64) (.pair (.pair (.int .i64) (.pair (.int .i64) .unit)) .unit)))))), (0, .v .bool)] 46 (x.1, a1, x.2.2.1, x.2.2.2.1, ()))))

noncomputable def porterref13_class_h1 (N : Nat) : Hd ((Int × ((List Int) × ((List Tree) × (Int × (Int × Unit))))) × ((List Int) × (Bool × (Int × ((Int × (Int × Unit)) × Unit))))) := fun st K => (unS [(0, .v .str), (0, .v (.int .i64)), (2, .box (.pair (.pair (.int .i64) (.pair (.arr 4 (.int .u64)) (.pair (.sl .nod) (.pair (.int .i64) (.pair (.int .i64) .unit))))) (.pair (.arr 4 (.int .u64)) (.pair .bool (.pair (.int .i64) (.pair (.pair (.int .i64) (.pair (.int .i64) .unit)) .unit)))))), (0, .v .bool)] 46 (restr [5, 1, 0, 4] 0 st)).bind fun x => porterref13_class_g1 N x K

noncomputable def porterref13_class_t1 (N : Nat) : Tab ((Int × ((List Int) × ((List Tree) × (Int × (Int × Unit))))) × ((List Int) × (Bool × (Int × ((Int × (Int × Unit)) × Unit))))) := []

theorem porterref13_class_ok1 {N : Nat} {c : Ctx} (hb : Base Go.Proofs.Tryd.prog (porterref13_class_E N) c) : CodeOk Go.Proofs.Tryd.prog c (nodeAt porterref13_class_body [0, 1, 1]) (porterref13_class_h1 N) :=
  piece_ok (s := [(0, .v .str), (0, .v (.int .i64)), (2, .box (.pair (.pair (.int .i64) (.pair (.arr 4 (.int .u64)) (.pair (.sl .nod) (.pair (.int .i64) (.pair (.int .i64) .unit))))) (.pair (.arr 4 (.int .u64)) (.pair .bool (.pair (.int .i64) (.pair (.pair (.int .i64) (.pair (.int .i64) .unit)) .unit)))))), (0, .v .bool)]) (m := 46) (g := porterref13_class_g1 N) [5, 1, 0, 4] (evN_sound hb N (porterref13_class_t1 N) porterref13_class_L porterref13_class_body TabOk.nil [0, 1, 1] _ rfl) (fun x K => by kernel_rfl)

noncomputable def porterref13_class_s2 (N : Nat) (s : (List UInt8)) (x4 : ((Int × ((List Int) × ((List Tree) × (Int × (Int × Unit))))) × ((List Int) × (Bool × (Int × ((Int × (Int × Unit)) × Unit)))))) (not_ : Bool) (at_ : Int) (x6 : ((Int × ((List Int) × ((List Tree) × (Int × (Int × Unit))))) × ((List Int) × (Bool × (Int × ((Int × (Int × Unit)) × Unit)))))) (all : (List Int)) (rec : Int → ((Int × ((List Int) × ((List Tree) × (Int × (Int × Unit))))) × ((List Int) × (Bool × (Int × ((Int × (Int × Unit)) × Unit))))) → (List Int) → Option ((Int × ((List Int) × ((List Tree) × (Int × (Int × Unit))))) × ((List Int) × (Bool × (Int × ((Int × (Int × Unit)) × Unit)))))) (k0 : ((Int × ((List Int) × ((List Tree) × (Int × (Int × Unit))))) × ((List Int) × (Bool × (Int × ((Int × (Int × Unit)) × Unit))))) → Option ((Int × ((List Int) × ((List Tree) × (Int × (Int × Unit))))) × ((List Int) × (Bool × (Int × ((Int × (Int × Unit)) × Unit)))))) (k1 : Int → (List Int) → Option ((Int × ((List Int) × ((List Tree) × (Int × (Int × Unit))))) × ((List Int) × (Bool × (Int × ((Int × (Int × Unit)) × Unit)))))) : Option ((Int × ((List Int) × ((List Tree) × (Int × (Int × Unit))))) × ((List Int) × (Bool × (Int × ((Int × (Int × Unit)) × Unit))))) :=
 (porterref13_is N s at_ (93 : Int)).bind fun y =>
 cond (!y)
 ((porterref13_item N s at_).bind fun y1 =>
 cond (y1.2.2.2.2.1.1 != (0 : Int))
 (k0 y1)
 ((porterref12_Or N all y1.2.1).bind fun y2 =>
 rec y1.2.2.2.1 y1 y2))
 (k1 at_ all)

noncomputable def porterref13_class_p2 (N : Nat) (s : (List UInt8)) (at_ : Int) (x4 : ((Int × ((List Int) × ((List Tree) × (Int × (Int × Unit))))) × ((List Int) × (Bool × (Int × ((Int × (Int × Unit)) × Unit)))))) (not_ : Bool) (x6 : ((Int × ((List Int) × ((List Tree) × (Int × (Int × Unit))))) × ((List Int) × (Bool × (Int × ((Int × (Int × Unit)) × Unit)))))) (all : (List Int)) (k0 : ((Int × ((List Int) × ((List Tree) × (Int × (Int × Unit))))) × ((List Int) × (Bool × (Int × ((Int × (Int × Unit)) × Unit))))) → Option ((Int × ((List Int) × ((List Tree) × (Int × (Int × Unit))))) × ((List Int) × (Bool × (Int × ((Int × (Int × Unit)) × Unit)))))) (k1 : Int → (List Int) → Option ((Int × ((List Int) × ((List Tree) × (Int × (Int × Unit))))) × ((List Int) × (Bool × (Int × ((Int × (Int × Unit)) × Unit)))))) : Option ((Int × ((List Int) × ((List Tree) × (Int × (Int × Unit))))) × ((List Int) × (Bool × (Int × ((Int × (Int × Unit)) × Unit))))) :=
 iter (fun (v : (Int × ((Int × ((List Int) × ((List Tree) × (Int × (Int × Unit))))) × ((List Int) × (Bool × (Int × ((Int × (Int × Unit)) × Unit))))) × (List Int))) r => porterref13_class_s2 N s x4 not_ v.1 v.2.1 v.2.2 (fun at_ x6 all => (r (at_, x6, all))) k0 k1) N (at_, x6, all)

noncomputable def porterref13_class_g2 (N : Nat) (i : ((List UInt8) × ((Int × ((List Int) × ((List Tree) × (Int × (Int × Unit))))) × ((List Int) × (Bool × (Int × ((Int × (Int × Unit)) × Unit))))) × Bool)) (v : (Int × ((Int × ((List Int) × ((List Tree) × (Int × (Int × Unit))))) × ((List Int) × (Bool × (Int × ((Int × (Int × Unit)) × Unit))))) × (List Int))) (r : (Int × ((Int × ((List Int) × ((List Tree) × (Int × (Int × Unit))))) × ((List Int) × (Bool × (Int × ((Int × (Int × Unit)) × Unit))))) × (List Int)) → Option ((Int × ((List Int) × ((List Tree) × (Int × (Int × Unit))))) × ((List Int) × (Bool × (Int × ((Int × (Int × Unit)) × Unit)))))) (K : Ex → List A → Option ((Int × ((List Int) × ((List Tree) × (Int × (Int × Unit))))) × ((List Int) × (Bool × (Int × ((Int × (Int × Unit)) × Unit)))))) : Option ((Int × ((List Int) × ((List Tree) × (Int × (Int × Unit))))) × ((List Int) × (Bool × (Int × ((Int × (Int × Unit)) × Unit))))) :=
 porterref13_class_s2 N i.1 i.2.1 i.2.2 v.1 v.2.1 v.2.2 (fun at_ x6 all => (r (at_, x6, all))) (fun a0 => (K .ret (mkS [(4, .box (.pair (.pair (.int .i64) (.pair (.arr 4 (.int .u64)) (.pair (.sl .nod) (.pair (.int .i64) (.pair (.int .i64) .unit))))) (.pair (.arr 4 (.int .u64)) (.pair .bool (.pair (.int .i64) (.pair (.pair (.int .i64) (.pair (.int .i64) .unit)) .unit))))))] 47 (a0, ())))) (fun a0 a3 => (K (.exit 0) (mkS [(1, .v (.int .i64)), (2, .box (.pair (.pair (.int .i64) (.pair (.arr 4 (.int .u64)) (.pair (.sl .nod) (.pair (.int .i64) (.pair (.int .i64) .unit))))) (.pair (.arr 4 (.int .u64)) (.pair .bool (.pair (.int .i64) (.pair (.pair (.int .i64) (.pair (.int .i64) .unit)) .unit)))))), (0, .v .bool), (1, .box (.arr 4 (.int .u64)))] 44 (a0, i.2.1, i.2.2, a3, ()))))

noncomputable def porterref13_class_h2 (N : Nat) : Hd ((Int × ((List Int) × ((List Tree) × (Int × (Int × Unit))))) × ((List Int) × (Bool × (Int × ((Int × (Int × Unit)) × Unit))))) := fun st K => (unS [(0, .v .str), (0, .v (.int .i64)), (2, .box (.pair (.pair (.int .i64) (.pair (.arr 4 (.int .u64)) (.pair (.sl .nod) (.pair (.int .i64) (.pair (.int .i64) .unit))))) (.pair (.arr 4 (.int .u64)) (.pair .bool (.pair (.int .i64) (.pair (.pair (.int .i64) (.pair (.int .i64) .unit)) .unit)))))), (0, .v .bool), (0, .box (.pair (.pair (.int .i64) (.pair (.arr 4 (.int .u64)) (.pair (.sl .nod) (.pair (.int .i64) (.pair (.int .i64) .unit))))) (.pair (.arr 4 (.int .u64)) (.pair .bool (.pair (.int .i64) (.pair (.pair (.int .i64) (.pair (.int .i64) .unit)) .unit)))))), (0, .box (.arr 4 (.int .u64)))] 44 (restr [0, 1, 6, 4, 7, 5] 0 st)).bind fun x => iter (fun v r => porterref13_class_g2 N ((fun x => (x.1, x.2.2.1, x.2.2.2.1)) x) v r K) N ((fun x => (x.2.1, x.2.2.2.2.1, x.2.2.2.2.2.1)) x)

noncomputable def porterref13_class_t2 (N : Nat) : Tab ((Int × ((List Int) × ((List Tree) × (Int × (Int × Unit))))) × ((List Int) × (Bool × (Int × ((Int × (Int × Unit)) × Unit))))) := []

theorem porterref13_class_ok2 {N : Nat} {c : Ctx} (hb : Base Go.Proofs.Tryd.prog (porterref13_class_E N) c) : CodeOk Go.Proofs.Tryd.prog c (nodeAt porterref13_class_body [0, 0, 1, 1, 1, 1, 1, 1, 1]) (porterref13_class_h2 N) :=
  loop_ok (s := [(0, .v .str), (0, .v (.int .i64)), (2, .box (.pair (.pair (.int .i64) (.pair (.arr 4 (.int .u64)) (.pair (.sl .nod) (.pair (.int .i64) (.pair (.int .i64) .unit))))) (.pair (.arr 4 (.int .u64)) (.pair .bool (.pair (.int .i64) (.pair (.pair (.int .i64) (.pair (.int .i64) .unit)) .unit)))))), (0, .v .bool), (0, .box (.pair (.pair (.int .i64) (.pair (.arr 4 (.int .u64)) (.pair (.sl .nod) (.pair (.int .i64) (.pair (.int .i64) .unit))))) (.pair (.arr 4 (.int .u64)) (.pair .bool (.pair (.int .i64) (.pair (.pair (.int .i64) (.pair (.int .i64) .unit)) .unit)))))), (0, .box (.arr 4 (.int .u64)))]) (m := 44) (porterref13_class_g2 N) [0, 1, 6, 4, 7, 5] N (fun x => (x.1, x.2.2.1, x.2.2.2.1)) (fun x => (x.2.1, x.2.2.2.2.1, x.2.2.2.2.2.1)) (fun i v => (i.1, v.1, i.2.1, i.2.2, v.2.1, v.2.2, ())) (fun _ => rfl) (evN_sound hb N (porterref13_class_t2 N) porterref13_class_L porterref13_class_body TabOk.nil [0, 0, 0, 1, 1, 1, 1, 1, 1, 1] _ rfl) (fun i v r K => by kernel_rfl)

noncomputable def porterref13_class_p3 (N : Nat) (at_ : Int) (x4 : ((Int × ((List Int) × ((List Tree) × (Int × (Int × Unit))))) × ((List Int) × (Bool × (Int × ((Int × (Int × Unit)) × Unit)))))) (not_ : Bool) (all : (List Int)) (k0 : (List Int) → Option ((Int × ((List Int) × ((List Tree) × (Int × (Int × Unit))))) × ((List Int) × (Bool × (Int × ((Int × (Int × Unit)) × Unit)))))) : Option ((Int × ((List Int) × ((List Tree) × (Int × (Int × Unit))))) × ((List Int) × (Bool × (Int × ((Int × (Int × Unit)) × Unit))))) :=
 cond not_
 ((porterref12_Not N all).bind fun y =>
 k0 y)
 (k0 all)

noncomputable def porterref13_class_g3 (N : Nat) (x : denS [(1, .v (.int .i64)), (2, .box (.pair (.pair (.int .i64) (.pair (.arr 4 (.int .u64)) (.pair (.sl .nod) (.pair (.int .i64) (.pair (.int .i64) .unit))))) (.pair (.arr 4 (.int .u64)) (.pair .bool (.pair (.int .i64) (.pair (.pair (.int .i64) (.pair (.int .i64) .unit)) .unit)))))), (0, .v .bool), (1, .box (.arr 4 (.int .u64)))]) (K : Ex → List A → Option ((Int × ((List Int) × ((List Tree) × (Int × (Int × Unit))))) × ((List Int) × (Bool × (Int × ((Int × (Int × Unit)) × Unit)))))) : Option ((Int × ((List Int) × ((List Tree) × (Int × (Int × Unit))))) × ((List Int) × (Bool × (Int × ((Int × (Int × Unit)) × Unit))))) :=
 porterref13_class_p3 N x.1 x.2.1 x.2.2.1 x.2.2.2.1 (fun a2 => (K .normal (mkS [(1, .v (.int .i64)), (2, .box (.pair (.pair (.int .i64) (.pair (.arr 4 (.int .u64)) (.pair (.sl .nod) (.pair (.int .i64) (.pair (.int .i64) .unit))))) (.pair (.arr 4 (.int .u64)) (.pair .bool (.pair (.int .i64) (.pair (.pair (.int .i64) (.pair (.int .i64) .unit)) .unit)))))), (2, .box (.arr 4 (.int .u64)))] 44 (x.1, x.2.1, a2, ()))))

noncomputable def porterref13_class_h3 (N : Nat) : Hd ((Int × ((List Int) × ((List Tree) × (Int × (Int × Unit))))) × ((List Int) × (Bool × (Int × ((Int × (Int × Unit)) × Unit))))) := fun st K => (unS [(1, .v (.int .i64)), (2, .box (.pair (.pair (.int .i64) (.pair (.arr 4 (.int .u64)) (.pair (.sl .nod) (.pair (.int .i64) (.pair (.int .i64) .unit))))) (.pair (.arr 4 (.int .u64)) (.pair .bool (.pair (.int .i64) (.pair (.pair (.int .i64) (.pair (.int .i64) .unit)) .unit)))))), (0, .v .bool), (1, .box (.arr 4 (.int .u64)))] 44 (restr [5, 7, 1, 4] 0 st)).bind fun x => porterref13_class_g3 N x K

noncomputable def porterref13_class_t3 (N : Nat) : Tab ((Int × ((List Int) × ((List Tree) × (Int × (Int × Unit))))) × ((List Int) × (Bool × (Int × ((Int × (Int × Unit)) × Unit))))) := []

theorem porterref13_class_ok3 {N : Nat} {c : Ctx} (hb : Base Go.Proofs.Tryd.prog (porterref13_class_E N) c) : CodeOk Go.Proofs.Tryd.prog c (nodeAt porterref13_class_body [0, 1, 1, 1, 1, 1, 1, 1, 1]) (porterref13_class_h3 N) :=
  piece_ok (s := [(1, .v (.int .i64)), (2, .box (.pair (.pair (.int .i64) (.pair (.arr 4 (.int .u64)) (.pair (.sl .nod) (.pair (.int .i64) (.pair (.int .i64) .unit))))) (.pair (.arr 4 (.int .u64)) (.pair .bool (.pair (.int .i64) (.pair (.pair (.int .i64) (.pair (.int .i64) .unit)) .unit)))))), (0, .v .bool), (1, .box (.arr 4 (.int .u64)))]) (m := 44) (g := porterref13_class_g3 N) [5, 7, 1, 4] (evN_sound hb N (porterref13_class_t3 N) porterref13_class_L porterref13_class_body TabOk.nil [0, 1, 1, 1, 1, 1, 1, 1, 1] _ rfl) (fun x K => by kernel_rfl)

noncomputable def porterref13_class (N : Nat) (s : (List UInt8)) (at_ : Int) : Option ((Int × ((List Int) × ((List Tree) × (Int × (Int × Unit))))) × ((List Int) × (Bool × (Int × ((Int × (Int × Unit)) × Unit))))) :=
 (porterref13_is N s at_ (94 : Int)).bind fun y =>
 porterref13_class_p1 N s at_ (((0 : Int), (([(0 : Int), (0 : Int), (0 : Int), (0 : Int)] : List Int), (([] : List Go.Lift.Tree), ((0 : Int), ((0 : Int), ()))))), (([(0 : Int), (0 : Int), (0 : Int), (0 : Int)] : List Int), (false, ((0 : Int), (((0 : Int), ((0 : Int), ())), ()))))) y
 (fun at_1 => (porterref13_item N s at_1).bind fun y1 =>
 cond (y1.2.2.2.2.1.1 != (0 : Int))
 (some y1)
 (porterref13_class_p2 N s y1.2.2.2.1 (((0 : Int), (([(0 : Int), (0 : Int), (0 : Int), (0 : Int)] : List Int), (([] : List Go.Lift.Tree), ((0 : Int), ((0 : Int), ()))))), (([(0 : Int), (0 : Int), (0 : Int), (0 : Int)] : List Int), (false, ((0 : Int), (((0 : Int), ((0 : Int), ())), ()))))) y y1 y1.2.1
 (fun x4 => some x4)
 (fun at_2 all => porterref13_class_p3 N at_2 (((0 : Int), (([(0 : Int), (0 : Int), (0 : Int), (0 : Int)] : List Int), (([] : List Go.Lift.Tree), ((0 : Int), ((0 : Int), ()))))), (([(0 : Int), (0 : Int), (0 : Int), (0 : Int)] : List Int), (false, ((0 : Int), (((0 : Int), ((0 : Int), ())), ()))))) y all
 (fun all1 => some (((1 : Int), (all1, (([] : List Go.Lift.Tree), ((0 : Int), ((0 : Int), ()))))), (([(0 : Int), (0 : Int), (0 : Int), (0 : Int)] : List Int), (false, ((Go.IntKind.wrap Go.IntKind.i64 (at_2 + (1 : Int))), (((0 : Int), ((0 : Int), ())), ())))))))))

noncomputable def porterref13_class_t (N : Nat) : Tab ((Int × ((List Int) × ((List Tree) × (Int × (Int × Unit))))) × ((List Int) × (Bool × (Int × ((Int × (Int × Unit)) × Unit))))) := [([0, 1, 1], porterref13_class_h1 N), ([0, 0, 1, 1, 1, 1, 1, 1, 1], porterref13_class_h2 N), ([0, 1, 1, 1, 1, 1, 1, 1, 1], porterref13_class_h3 N)]

theorem porterref13_class_link (N : Nat) (x : denS [(0, .v .str), (0, .v (.int .i64))]) : evFX (porterref13_class_E N) N (porterref13_class_t N) porterref13_class_L Go.Proofs.Tryd.f49 (mkS [(0, .v .str), (0, .v (.int .i64))] 0 x) (kRes (.v (.pair (.pair (.int .i64) (.pair (.arr 4 (.int .u64)) (.pair (.sl .nod) (.pair (.int .i64) (.pair (.int .i64) .unit))))) (.pair (.arr 4 (.int .u64)) (.pair .bool (.pair (.int .i64) (.pair (.pair (.int .i64) (.pair (.int .i64) .unit)) .unit)))))) 2) = porterref13_class N x.1 x.2.1 := by kernel_rfl

noncomputable def porterref13_class_res (N : Nat) : List A → Res := resOf [(0, .v .str), (0, .v (.int .i64))] (fun x => porterref13_class N x.1 x.2.1) (oRes (.v (.pair (.pair (.int .i64) (.pair (.arr 4 (.int .u64)) (.pair (.sl .nod) (.pair (.int .i64) (.pair (.int .i64) .unit))))) (.pair (.arr 4 (.int .u64)) (.pair .bool (.pair (.int .i64) (.pair (.pair (.int .i64) (.pair (.int .i64) .unit)) .unit)))))) 2)

theorem porterref13_class_ct (N : Nat) : Contract Go.Proofs.Tryd.prog glob 49 (porterref13_class_res N) :=
  Contract.of (E := porterref13_class_E N) (H := porterref13_class_t N) (L := porterref13_class_L) (N := N) (body := porterref13_class_body) (K := (kRes (.v (.pair (.pair (.int .i64) (.pair (.arr 4 (.int .u64)) (.pair (.sl .nod) (.pair (.int .i64) (.pair (.int .i64) .unit))))) (.pair (.arr 4 (.int .u64)) (.pair .bool (.pair (.int .i64) (.pair (.pair (.int .i64) (.pair (.int .i64) .unit)) .unit)))))) 2)) (porterref13_class_Eok N) Go.Proofs.Tryd.func49 (by kernel_rfl) (by decide) (fun _ hb => (TabOk.cons (porterref13_class_ok1 hb) (TabOk.cons (porterref13_class_ok2 hb) (TabOk.cons (porterref13_class_ok3 hb) TabOk.nil)))) (fun x y h => by rw [porterref13_class_link]; exact h) (kRes_ok (s := (.v (.pair (.pair (.int .i64) (.pair (.arr 4 (.int .u64)) (.pair (.sl .nod) (.pair (.int .i64) (.pair (.int .i64) .unit))))) (.pair (.arr 4 (.int .u64)) (.pair .bool (.pair (.int .i64) (.pair (.pair (.int .i64) (.pair (.int .i64) .unit)) .unit))))))) (m := 2))

abbrev porterref13_alt_Self : Type := (List UInt8) → Int → Int → Option ((Int × (List Int × (List Tree × (Int × (Int × Unit))))) × (List Int × (Bool × (Int × ((Int × (Int × Unit)) × Unit)))))

noncomputable def porterref13_atom_body : Code := (Go.Proofs.Tryd.f36.body).getD .skip

noncomputable def porterref13_atom_L : List (List Nat × List Nat) := [([0], [1, 0, 6, 2]), ([0, 0, 1], [18, 0, 1, 6, 2]), ([1, 0, 1], [0, 1, 2, 6]), ([0, 0, 1, 0, 1], [6]), ([1, 0, 1, 0, 1], [6]), ([0, 0, 1, 1], [25, 2, 1, 6, 0]), ([1, 0, 1, 1], [0, 1, 6]), ([0, 0, 0, 1, 0, 1, 1], [27, 1, 6, 0, 2]), ([1, 0, 0, 1, 0, 1, 1], [0, 1, 2, 6]), ([0, 0, 1, 0, 0, 1, 0, 1, 1], [6]), ([1, 0, 1, 0, 0, 1, 0, 1, 1], [6]), ([0, 1, 0, 1, 0, 1, 1], [7, 0, 6]), ([0, 0, 1, 1, 0, 1, 0, 1, 1], [46, 0, 7, 6]), ([1, 0, 1, 1, 0, 1, 0, 1, 1], [7, 6]), ([0, 0, 1, 0, 1, 1, 0, 1, 0, 1, 1], [6]), ([1, 0, 1, 0, 1, 1, 0, 1, 0, 1, 1], [6]), ([0, 1, 1, 1, 0, 1, 0, 1, 1], [7, 6]), ([0, 1, 1, 1, 1, 0, 1, 0, 1, 1], [6]), ([1, 1, 1, 1, 1, 0, 1, 0, 1, 1], [6]), ([0, 0, 1, 1, 1], [59, 1, 6, 0]), ([1, 0, 1, 1, 1], [0, 1, 6]), ([0, 0, 1, 0, 1, 1, 1], [6]), ([1, 0, 1, 0, 1, 1, 1], [6]), ([0, 0, 1, 1, 1, 1], [68, 0, 1, 6]), ([1, 0, 1, 1, 1, 1], [0, 1, 6]), ([0, 0, 1, 0, 1, 1, 1, 1], [6]), ([1, 0, 1, 0, 1, 1, 1, 1], [6]), ([0, 0, 1, 1, 1, 1, 1], [76, 0, 1, 6]), ([1, 0, 1, 1, 1, 1, 1], [0, 1, 6]), ([0, 0, 1, 0, 1, 1, 1, 1, 1], [8, 6]), ([0, 0, 1, 0, 1, 0, 1, 1, 1, 1, 1], [83, 8, 6]), ([1, 0, 1, 0, 1, 0, 1, 1, 1, 1, 1], [8, 6]), ([0, 0, 1, 0, 1, 0, 1, 0, 1, 1, 1, 1, 1], [6]), ([1, 0, 1, 0, 1, 0, 1, 0, 1, 1, 1, 1, 1], [6]), ([0, 1, 1, 0, 1, 0, 1, 1, 1, 1, 1], [6]), ([1, 1, 1, 0, 1, 0, 1, 1, 1, 1, 1], [6]), ([0, 1, 1, 1, 1, 1, 1], [6]), ([1, 1, 1, 1, 1, 1, 1], [6])]

noncomputable def porterref13_atom_E (N : Nat) (self : porterref13_alt_Self) : Env := mkEnv tys glob [(49, porterref13_class_res N), (50, porterref13_escape_res N), (48, porterref12_Between_res N), (29, porterref13_is_res N), (22, porterref13_other_res N), (31, porterref13_bad_res N), (47, porterref13_among_res N), (21, resOf [(0, .v .str), (0, .v (.int .i64)), (0, .v (.int .i64))] (fun x => self x.1 x.2.1 x.2.2.1) (oRes (.v (.pair (.pair (.int .i64) (.pair (.arr 4 (.int .u64)) (.pair (.sl .nod) (.pair (.int .i64) (.pair (.int .i64) .unit))))) (.pair (.arr 4 (.int .u64)) (.pair .bool (.pair (.int .i64) (.pair (.pair (.int .i64) (.pair (.int .i64) .unit)) .unit)))))) 3))] [] [] [] false [] []

theorem porterref13_atom_Eok (N : Nat) (self : porterref13_alt_Self) (hself : Contract Go.Proofs.Tryd.prog glob 21 (resOf [(0, .v .str), (0, .v (.int .i64)), (0, .v (.int .i64))] (fun x => self x.1 x.2.1 x.2.2.1) (oRes (.v (.pair (.pair (.int .i64) (.pair (.arr 4 (.int .u64)) (.pair (.sl .nod) (.pair (.int .i64) (.pair (.int .i64) .unit))))) (.pair (.arr 4 (.int .u64)) (.pair .bool (.pair (.int .i64) (.pair (.pair (.int .i64) (.pair (.int .i64) .unit)) .unit)))))) 3))) : EnvOk Go.Proofs.Tryd.prog (porterref13_atom_E N self) := mkEnv_ok mixed tys_ok (FnsOk.cons (porterref13_class_ct N) (FnsOk.cons (porterref13_escape_ct N) (FnsOk.cons (porterref12_Between_ct N) (FnsOk.cons (porterref13_is_ct N) (FnsOk.cons (porterref13_other_ct N) (FnsOk.cons (porterref13_bad_ct N) (FnsOk.cons (porterref13_among_ct N) (FnsOk.cons (hself) (FnsOk.nil))))))))) (ItsOk.nil)

noncomputable def porterref13_atom_p2 (N : Nat) (self : porterref13_alt_Self) (s : (List UInt8)) (at_ : Int) (open_ : Int) (x6 : ((Int × ((List Int) × ((List Tree) × (Int × (Int × Unit))))) × ((List Int) × (Bool × (Int × ((Int × (Int × Unit)) × Unit)))))) (k0 : Bool → Option ((Int × ((List Int) × ((List Tree) × (Int × (Int × Unit))))) × ((List Int) × (Bool × (Int × ((Int × (Int × Unit)) × Unit)))))) : Option ((Int × ((List Int) × ((List Tree) × (Int × (Int × Unit))))) × ((List Int) × (Bool × (Int × ((Int × (Int × Unit)) × Unit))))) :=
 cond (decide ((((List.length s) : Nat) : Int) ≤ at_))
 (k0 true)
 (cond (Go.Lift.inR at_ (List.length s))
 ((porterref13_among N (((UInt8.toNat (List.getD s (Int.toNat at_) (0 : UInt8))) : Nat) : Int) ([(41 : UInt8), (93 : UInt8), (123 : UInt8), (125 : UInt8), (124 : UInt8), (42 : UInt8), (43 : UInt8), (63 : UInt8)] : List UInt8)).bind fun y =>
 k0 y)
 (none))

noncomputable def porterref13_atom_g2 (N : Nat) (self : porterref13_alt_Self) (x : denS [(0, .v .str), (0, .v (.int .i64)), (0, .v (.int .i64)), (3, .box (.pair (.pair (.int .i64) (.pair (.arr 4 (.int .u64)) (.pair (.sl .nod) (.pair (.int .i64) (.pair (.int .i64) .unit))))) (.pair (.arr 4 (.int .u64)) (.pair .bool (.pair (.int .i64) (.pair (.pair (.int .i64) (.pair (.int .i64) .unit)) .unit))))))]) (K : Ex → List A → Option ((Int × ((List Int) × ((List Tree) × (Int × (Int × Unit))))) × ((List Int) × (Bool × (Int × ((Int × (Int × Unit)) × Unit)))))) : Option ((Int × ((List Int) × ((List Tree) × (Int × (Int × Unit))))) × ((List Int) × (Bool × (Int × ((Int × (Int × Unit)) × Unit))))) :=
 porterref13_atom_p2 N self x.1 x.2.1 x.2.2.1 x.2.2.2.1 (fun a4 => (K .normal (mkS [(0, .v .str), (0, .v (.int .i64)), (0, .v (.int .i64)), (3, .box (.pair (.pair (.int .i64) (.pair (.arr 4 (.int .u64)) (.pair (.sl .nod) (.pair (.int .i64) (.pair (.int .i64) .unit))))) (.pair (.arr 4 (.int .u64)) (.pair .bool (.pair (.int .i64) (.pair (.pair (.int .i64) (.pair (.int .i64) .unit)) .unit)))))), (11, .v .bool)] 85 (x.1, x.2.1, x.2.2.1, x.2.2.2.1, a4, ()))))

noncomputable def porterref13_atom_h2 (N : Nat) (self : porterref13_alt_Self) : Hd ((Int × ((List Int) × ((List Tree) × (Int × (Int × Unit))))) × ((List Int) × (Bool × (Int × ((Int × (Int × Unit)) × Unit))))) := fun st K => (unS [(0, .v .str), (0, .v (.int .i64)), (0, .v (.int .i64)), (3, .box (.pair (.pair (.int .i64) (.pair (.arr 4 (.int .u64)) (.pair (.sl .nod) (.pair (.int .i64) (.pair (.int .i64) .unit))))) (.pair (.arr 4 (.int .u64)) (.pair .bool (.pair (.int .i64) (.pair (.pair (.int .i64) (.pair (.int .i64) .unit)) .unit))))))] 97 (restr [1, 0, 6, 2] 0 st)).bind fun x => porterref13_atom_g2 N self x K

noncomputable def porterref13_atom_t2 (N : Nat) (self : porterref13_alt_Self) : Tab ((Int × ((List Int) × ((List Tree) × (Int × (Int × Unit))))) × ((List Int) × (Bool × (Int × ((Int × (Int × Unit)) × Unit))))) := []

theorem porterref13_atom_ok2 {N : Nat} {self : porterref13_alt_Self} {c : Ctx} (hb : Base Go.Proofs.Tryd.prog (porterref13_atom_E N self) c) : CodeOk Go.Proofs.Tryd.prog c (nodeAt porterref13_atom_body [0, 0, 1]) (porterref13_atom_h2 N self) :=
  piece_ok (s := [(0, .v .str), (0, .v (.int .i64)), (0, .v (.int .i64)), (3, .box (.pair (.pair (.int .i64) (.pair (.arr 4 (.int .u64)) (.pair (.sl .nod) (.pair (.int .i64) (.pair (.int .i64) .unit))))) (.pair (.arr 4 (.int .u64)) (.pair .bool (.pair (.int .i64) (.pair (.pair (.int .i64) (.pair (.int .i64) .unit)) .unit))))))]) (m := 97) (g := porterref13_atom_g2 N self) [1, 0, 6, 2] (evN_sound hb N (porterref13_atom_t2 N self) porterref13_atom_L porterref13_atom_body TabOk.nil [0, 0, 1] _ rfl) (fun x K => by kernel_rfl)

noncomputable def porterref13_atom_p1 (N : Nat) (self : porterref13_alt_Self) (s : (List UInt8)) (at_ : Int) (open_ : Int) (x6 : ((Int × ((List Int) × ((List Tree) × (Int × (Int × Unit))))) × ((List Int) × (Bool × (Int × ((Int × (Int × Unit)) × Unit)))))) (k0 : ((Int × ((List Int) × ((List Tree) × (Int × (Int × Unit))))) × ((List Int) × (Bool × (Int × ((Int × (Int × Unit)) × Unit))))) → Option ((Int × ((List Int) × ((List Tree) × (Int × (Int × Unit))))) × ((List Int) × (Bool × (Int × ((Int × (Int × Unit)) × Unit)))))) (k1 : Option ((Int × ((List Int) × ((List Tree) × (Int × (Int × Unit))))) × ((List Int) × (Bool × (Int × ((Int × (Int × Unit)) × Unit)))))) : Option ((Int × ((List Int) × ((List Tree) × (Int × (Int × Unit))))) × ((List Int) × (Bool × (Int × ((Int × (Int × Unit)) × Unit))))) :=
 porterref13_atom_p2 N self s at_ open_ x6
 (fun x18 => cond x18
 ((porterref13_other N s at_).bind fun y =>
 k0 y)
 (k1))

noncomputable def porterref13_atom_g1 (N : Nat) (self : porterref13_alt_Self) (x : denS [(0, .v .str), (0, .v (.int .i64)), (0, .v (.int .i64)), (3, .box (.pair (.pair (.int .i64) (.pair (.arr 4 (.int .u64)) (.pair (.sl .nod) (.pair (.int .i64) (.pair (.int .i64) .unit))))) (.pair (.arr 4 (.int .u64)) (.pair .bool (.pair (.int .i64) (.pair (.pair (.int .i64) (.pair (.int .i64) .unit)) .unit))))))]) (K : Ex → List A → Option ((Int × ((List Int) × ((List Tree) × (Int × (Int × Unit))))) × ((List Int) × (Bool × (Int × ((Int × (Int × Unit)) × Unit)))))) : Option ((Int × ((List Int) × ((List Tree) × (Int × (Int × Unit))))) × ((List Int) × (Bool × (Int × ((Int × (Int × Unit)) × Unit))))) :=
 porterref13_atom_p1 N self x.1 x.2.1 x.2.2.1 x.2.2.2.1 (fun a0 => (K .ret (mkS [(6, .box (.pair (.pair (.int .i64) (.pair (.arr 4 (.int .u64)) (.pair (.sl .nod) (.pair (.int .i64) (.pair (.int .i64) .unit))))) (.pair (.arr 4 (.int .u64)) (.pair .bool (.pair (.int .i64) (.pair (.pair (.int .i64) (.pair (.int .i64) .unit)) .unit))))))] 97 (a0, ())))) (K .normal (mkS [(0, .v .str), (0, .v (.int .i64)), (0, .v (.int .i64)), (3, .box (.pair (.pair (.int .i64) (.pair (.arr 4 (.int .u64)) (.pair (.sl .nod) (.pair (.int .i64) (.pair (.int .i64) .unit))))) (.pair (.arr 4 (.int .u64)) (.pair .bool (.pair (.int .i64) (.pair (.pair (.int .i64) (.pair (.int .i64) .unit)) .unit))))))] 97 (x.1, x.2.1, x.2.2.1, x.2.2.2.1, ())))

noncomputable def porterref13_atom_h1 (N : Nat) (self : porterref13_alt_Self) : Hd ((Int × ((List Int) × ((List Tree) × (Int × (Int × Unit))))) × ((List Int) × (Bool × (Int × ((Int × (Int × Unit)) × Unit))))) := fun st K => (unS [(0, .v .str), (0, .v (.int .i64)), (0, .v (.int .i64)), (3, .box (.pair (.pair (.int .i64) (.pair (.arr 4 (.int .u64)) (.pair (.sl .nod) (.pair (.int .i64) (.pair (.int .i64) .unit))))) (.pair (.arr 4 (.int .u64)) (.pair .bool (.pair (.int .i64) (.pair (.pair (.int .i64) (.pair (.int .i64) .unit)) .unit))))))] 97 (restr [1, 0, 6, 2] 0 st)).bind fun x => porterref13_atom_g1 N self x K

noncomputable def porterref13_atom_t1 (N : Nat) (self : porterref13_alt_Self) : Tab ((Int × ((List Int) × ((List Tree) × (Int × (Int × Unit))))) × ((List Int) × (Bool × (Int × ((Int × (Int × Unit)) × Unit))))) := [([0, 0, 1], porterref13_atom_h2 N self)]

theorem porterref13_atom_ok1 {N : Nat} {self : porterref13_alt_Self} {c : Ctx} (hb : Base Go.Proofs.Tryd.prog (porterref13_atom_E N self) c) : CodeOk Go.Proofs.Tryd.prog c (nodeAt porterref13_atom_body [0, 1]) (porterref13_atom_h1 N self) :=
  piece_ok (s := [(0, .v .str), (0, .v (.int .i64)), (0, .v (.int .i64)), (3, .box (.pair (.pair (.int .i64) (.pair (.arr 4 (.int .u64)) (.pair (.sl .nod) (.pair (.int .i64) (.pair (.int .i64) .unit))))) (.pair (.arr 4 (.int .u64)) (.pair .bool (.pair (.int .i64) (.pair (.pair (.int .i64) (.pair (.int .i64) .unit)) .unit))))))]) (m := 97) (g := porterref13_atom_g1 N self) [1, 0, 6, 2] (evN_sound hb N (porterref13_atom_t1 N self) porterref13_atom_L porterref13_atom_body (TabOk.cons (porterref13_atom_ok2 hb) TabOk.nil) [0, 1] _ rfl) (fun x K => by kernel_rfl)

noncomputable def porterref13_atom_p4 (N : Nat) (self : porterref13_alt_Self) (s : (List UInt8)) (x6 : ((Int × ((List Int) × ((List Tree) × (Int × (Int × Unit))))) × ((List Int) × (Bool × (Int × ((Int × (Int × Unit)) × Unit)))))) (x7 : ((Int × ((List Int) × ((List Tree) × (Int × (Int × Unit))))) × ((List Int) × (Bool × (Int × ((Int × (Int × Unit)) × Unit)))))) (k0 : Bool → Option ((Int × ((List Int) × ((List Tree) × (Int × (Int × Unit))))) × ((List Int) × (Bool × (Int × ((Int × (Int × Unit)) × Unit)))))) : Option ((Int × ((List Int) × ((List Tree) × (Int × (Int × Unit))))) × ((List Int) × (Bool × (Int × ((Int × (Int × Unit)) × Unit))))) :=
 cond (x7.2.2.2.2.1.1 == (0 : Int))
 ((porterref13_is N s x7.2.2.2.1 (41 : Int)).bind fun y =>
 k0 (!y))
 (k0 false)

noncomputable def porterref13_atom_g4 (N : Nat) (self : porterref13_alt_Self) (x : denS [(0, .v .str), (5, .box (.pair (.pair (.int .i64) (.pair (.arr 4 (.int .u64)) (.pair (.sl .nod) (.pair (.int .i64) (.pair (.int .i64) .unit))))) (.pair (.arr 4 (.int .u64)) (.pair .bool (.pair (.int .i64) (.pair (.pair (.int .i64) (.pair (.int .i64) .unit)) .unit)))))), (0, .box (.pair (.pair (.int .i64) (.pair (.arr 4 (.int .u64)) (.pair (.sl .nod) (.pair (.int .i64) (.pair (.int .i64) .unit))))) (.pair (.arr 4 (.int .u64)) (.pair .bool (.pair (.int .i64) (.pair (.pair (.int .i64) (.pair (.int .i64) .unit)) .unit))))))]) (K : Ex → List A → Option ((Int × ((List Int) × ((List Tree) × (Int × (Int × Unit))))) × ((List Int) × (Bool × (Int × ((Int × (Int × Unit)) × Unit)))))) : Option ((Int × ((List Int) × ((List Tree) × (Int × (Int × Unit))))) × ((List Int) × (Bool × (Int × ((Int × (Int × Unit)) × Unit))))) :=
 porterref13_atom_p4 N self x.1 x.2.1 x.2.2.1 (fun a3 => (K .normal (mkS [(0, .v .str), (5, .box (.pair (.pair (.int .i64) (.pair (.arr 4 (.int .u64)) (.pair (.sl .nod) (.pair (.int .i64) (.pair (.int .i64) .unit))))) (.pair (.arr 4 (.int .u64)) (.pair .bool (.pair (.int .i64) (.pair (.pair (.int .i64) (.pair (.int .i64) .unit)) .unit)))))), (0, .box (.pair (.pair (.int .i64) (.pair (.arr 4 (.int .u64)) (.pair (.sl .nod) (.pair (.int .i64) (.pair (.int .i64) .unit))))) (.pair (.arr 4 (.int .u64)) (.pair .bool (.pair (.int .i64) (.pair (.pair (.int .i64) (.pair (.int .i64) .unit)) .unit)))))), (38, .v .bool)] 57 (x.1, x.2.1, x.2.2.1, a3, ()))))

noncomputable def porterref13_atom_h4 (N : Nat) (self : porterref13_alt_Self) : Hd ((Int × ((List Int) × ((List Tree) × (Int × (Int × Unit))))) × ((List Int) × (Bool × (Int × ((Int × (Int × Unit)) × Unit))))) := fun st K => (unS [(0, .v .str), (5, .box (.pair (.pair (.int .i64) (.pair (.arr 4 (.int .u64)) (.pair (.sl .nod) (.pair (.int .i64) (.pair (.int .i64) .unit))))) (.pair (.arr 4 (.int .u64)) (.pair .bool (.pair (.int .i64) (.pair (.pair (.int .i64) (.pair (.int .i64) .unit)) .unit)))))), (0, .box (.pair (.pair (.int .i64) (.pair (.arr 4 (.int .u64)) (.pair (.sl .nod) (.pair (.int .i64) (.pair (.int .i64) .unit))))) (.pair (.arr 4 (.int .u64)) (.pair .bool (.pair (.int .i64) (.pair (.pair (.int .i64) (.pair (.int .i64) .unit)) .unit))))))] 96 (restr [7, 0, 6] 0 st)).bind fun x => porterref13_atom_g4 N self x K

noncomputable def porterref13_atom_t4 (N : Nat) (self : porterref13_alt_Self) : Tab ((Int × ((List Int) × ((List Tree) × (Int × (Int × Unit))))) × ((List Int) × (Bool × (Int × ((Int × (Int × Unit)) × Unit))))) := []

theorem porterref13_atom_ok4 {N : Nat} {self : porterref13_alt_Self} {c : Ctx} (hb : Base Go.Proofs.Tryd.prog (porterref13_atom_E N self) c) : CodeOk Go.Proofs.Tryd.prog c (nodeAt porterref13_atom_body [0, 0, 1, 1, 0, 1, 0, 1, 1]) (porterref13_atom_h4 N self) :=
  piece_ok (s := [(0, .v .str), (5, .box (.pair (.pair (.int .i64) (.pair (.arr 4 (.int .u64)) (.pair (.sl .nod) (.pair (.int .i64) (.pair (.int .i64) .unit))))) (.pair (.arr 4 (.int .u64)) (.pair .bool (.pair (.int .i64) (.pair (.pair (.int .i64) (.pair (.int .i64) .unit)) .unit)))))), (0, .box (.pair (.pair (.int .i64) (.pair (.arr 4 (.int .u64)) (.pair (.sl .nod) (.pair (.int .i64) (.pair (.int .i64) .unit))))) (.pair (.arr 4 (.int .u64)) (.pair .bool (.pair (.int .i64) (.pair (.pair (.int .i64) (.pair (.int .i64) .unit)) .unit))))))]) (m := 96) (g := porterref13_atom_g4 N self) [7, 0, 6] (evN_sound hb N (porterref13_atom_t4 N self) porterref13_atom_L porterref13_atom_body TabOk.nil [0, 0, 1, 1, 0, 1, 0, 1, 1] _ rfl) (fun x K => by kernel_rfl)

noncomputable def porterref13_atom_p3 (N : Nat) (self : porterref13_alt_Self) (s : (List UInt8)) (x6 : ((Int × ((List Int) × ((List Tree) × (Int × (Int × Unit))))) × ((List Int) × (Bool × (Int × ((Int × (Int × Unit)) × Unit)))))) (x7 : ((Int × ((List Int) × ((List Tree) × (Int × (Int × Unit))))) × ((List Int) × (Bool × (Int × ((Int × (Int × Unit)) × Unit)))))) (k0 : ((Int × ((List Int) × ((List Tree) × (Int × (Int × Unit))))) × ((List Int) × (Bool × (Int × ((Int × (Int × Unit)) × Unit))))) → Option ((Int × ((List Int) × ((List Tree) × (Int × (Int × Unit))))) × ((List Int) × (Bool × (Int × ((Int × (Int × Unit)) × Unit)))))) (k1 : Option ((Int × ((List Int) × ((List Tree) × (Int × (Int × Unit))))) × ((List Int) × (Bool × (Int × ((Int × (Int × Unit)) × Unit)))))) : Option ((Int × ((List Int) × ((List Tree) × (Int × (Int × Unit))))) × ((List Int) × (Bool × (Int × ((Int × (Int × Unit)) × Unit))))) :=
 porterref13_atom_p4 N self s x6 x7
 (fun x46 => cond x46
 ((porterref13_other N s x7.2.2.2.1).bind fun y =>
 k0 y)
 (k1))

noncomputable def porterref13_atom_g3 (N : Nat) (self : porterref13_alt_Self) (x : denS [(0, .v .str), (5, .box (.pair (.pair (.int .i64) (.pair (.arr 4 (.int .u64)) (.pair (.sl .nod) (.pair (.int .i64) (.pair (.int .i64) .unit))))) (.pair (.arr 4 (.int .u64)) (.pair .bool (.pair (.int .i64) (.pair (.pair (.int .i64) (.pair (.int .i64) .unit)) .unit)))))), (0, .box (.pair (.pair (.int .i64) (.pair (.arr 4 (.int .u64)) (.pair (.sl .nod) (.pair (.int .i64) (.pair (.int .i64) .unit))))) (.pair (.arr 4 (.int .u64)) (.pair .bool (.pair (.int .i64) (.pair (.pair (.int .i64) (.pair (.int .i64) .unit)) .unit))))))]) (K : Ex → List A → Option ((Int × ((List Int) × ((List Tree) × (Int × (Int × Unit))))) × ((List Int) × (Bool × (Int × ((Int × (Int × Unit)) × Unit)))))) : Option ((Int × ((List Int) × ((List Tree) × (Int × (Int × Unit))))) × ((List Int) × (Bool × (Int × ((Int × (Int × Unit)) × Unit))))) :=
 porterref13_atom_p3 N self x.1 x.2.1 x.2.2.1 (fun a0 => (K .ret (mkS [(6, .box (.pair (.pair (.int .i64) (.pair (.arr 4 (.int .u64)) (.pair (.sl .nod) (.pair (.int .i64) (.pair (.int .i64) .unit))))) (.pair (.arr 4 (.int .u64)) (.pair .bool (.pair (.int .i64) (.pair (.pair (.int .i64) (.pair (.int .i64) .unit)) .unit))))))] 97 (a0, ())))) (K .normal (mkS [(6, .box (.pair (.pair (.int .i64) (.pair (.arr 4 (.int .u64)) (.pair (.sl .nod) (.pair (.int .i64) (.pair (.int .i64) .unit))))) (.pair (.arr 4 (.int .u64)) (.pair .bool (.pair (.int .i64) (.pair (.pair (.int .i64) (.pair (.int .i64) .unit)) .unit)))))), (0, .box (.pair (.pair (.int .i64) (.pair (.arr 4 (.int .u64)) (.pair (.sl .nod) (.pair (.int .i64) (.pair (.int .i64) .unit))))) (.pair (.arr 4 (.int .u64)) (.pair .bool (.pair (.int .i64) (.pair (.pair (.int .i64) (.pair (.int .i64) .unit)) .unit))))))] 96 (x.2.1, x.2.2.1, ())))

noncomputable def porterref13_atom_h3 (N : Nat) (self : porterref13_alt_Self) : Hd ((Int × ((List Int) × ((List Tree) × (Int × (Int × Unit))))) × ((List Int) × (Bool × (Int × ((Int × (Int × Unit)) × Unit))))) := fun st K => (unS [(0, .v .str), (5, .box (.pair (.pair (.int .i64) (.pair (.arr 4 (.int .u64)) (.pair (.sl .nod) (.pair (.int .i64) (.pair (.int .i64) .unit))))) (.pair (.arr 4 (.int .u64)) (.pair .bool (.pair (.int .i64) (.pair (.pair (.int .i64) (.pair (.int .i64) .unit)) .unit)))))), (0, .box (.pair (.pair (.int .i64) (.pair (.arr 4 (.int .u64)) (.pair (.sl .nod) (.pair (.int .i64) (.pair (.int .i64) .unit))))) (.pair (.arr 4 (.int .u64)) (.pair .bool (.pair (.int .i64) (.pair (.pair (.int .i64) (.pair (.int .i64) .unit)) .unit))))))] 96 (restr [7, 0, 6] 0 st)).bind fun x => porterref13_atom_g3 N self x K

noncomputable def porterref13_atom_t3 (N : Nat) (self : porterref13_alt_Self) : Tab ((Int × ((List Int) × ((List Tree) × (Int × (Int × Unit))))) × ((List Int) × (Bool × (Int × ((Int × (Int × Unit)) × Unit))))) := [([0, 0, 1, 1, 0, 1, 0, 1, 1], porterref13_atom_h4 N self)]

theorem porterref13_atom_ok3 {N : Nat} {self : porterref13_alt_Self} {c : Ctx} (hb : Base Go.Proofs.Tryd.prog (porterref13_atom_E N self) c) : CodeOk Go.Proofs.Tryd.prog c (nodeAt porterref13_atom_body [0, 1, 1, 0, 1, 0, 1, 1]) (porterref13_atom_h3 N self) :=
  piece_ok (s := [(0, .v .str), (5, .box (.pair (.pair (.int .i64) (.pair (.arr 4 (.int .u64)) (.pair (.sl .nod) (.pair (.int .i64) (.pair (.int .i64) .unit))))) (.pair (.arr 4 (.int .u64)) (.pair .bool (.pair (.int .i64) (.pair (.pair (.int .i64) (.pair (.int .i64) .unit)) .unit)))))), (0, .box (.pair (.pair (.int .i64) (.pair (.arr 4 (.int .u64)) (.pair (.sl .nod) (.pair (.int .i64) (.pair (.int .i64) .unit))))) (.pair (.arr 4 (.int .u64)) (.pair .bool (.pair (.int .i64) (.pair (.pair (.int .i64) (.pair (.int .i64) .unit)) .unit))))))]) (m := 96) (g := porterref13_atom_g3 N self) [7, 0, 6] (evN_sound hb N (porterref13_atom_t3 N self) porterref13_atom_L porterref13_atom_body (TabOk.cons (porterref13_atom_ok4 hb) TabOk.nil) [0, 1, 1, 0, 1, 0, 1, 1] _ rfl) (fun x K => by kernel_rfl)

noncomputable def porterref13_atom (N : Nat) (self : porterref13_alt_Self) (s : (List UInt8)) (at_ : Int) (open_ : Int) : Option ((Int × ((List Int) × ((List Tree) × (Int × (Int × Unit))))) × ((List Int) × (Bool × (Int × ((Int × (Int × Unit)) × Unit))))) :=
 porterref13_atom_p1 N self s at_ open_ (((0 : Int), (([(0 : Int), (0 : Int), (0 : Int), (0 : Int)] : List Int), (([] : List Go.Lift.Tree), ((0 : Int), ((0 : Int), ()))))), (([(0 : Int), (0 : Int), (0 : Int), (0 : Int)] : List Int), (false, ((0 : Int), (((0 : Int), ((0 : Int), ())), ())))))
 (fun x6 => some x6)
 (cond (Go.Lift.inR at_ (List.length s))
 (cond ((((UInt8.toNat (List.getD s (Int.toNat at_) (0 : UInt8))) : Nat) : Int) == (40 : Int))
 (cond (open_ == (16 : Int))
 (some (((0 : Int), (([(0 : Int), (0 : Int), (0 : Int), (0 : Int)] : List Int), (([] : List Go.Lift.Tree), ((0 : Int), ((0 : Int), ()))))), (([(0 : Int), (0 : Int), (0 : Int), (0 : Int)] : List Int), (false, ((0 : Int), (((3 : Int), (at_, ())), ()))))))
 ((self s (Go.IntKind.wrap Go.IntKind.i64 (at_ + (1 : Int))) (Go.IntKind.wrap Go.IntKind.i64 (open_ + (1 : Int)))).bind fun y =>
 porterref13_atom_p3 N self s (((0 : Int), (([(0 : Int), (0 : Int), (0 : Int), (0 : Int)] : List Int), (([] : List Go.Lift.Tree), ((0 : Int), ((0 : Int), ()))))), (([(0 : Int), (0 : Int), (0 : Int), (0 : Int)] : List Int), (false, ((0 : Int), (((0 : Int), ((0 : Int), ())), ()))))) y
 (fun x61 => some x61)
 (some (y.1, (y.2.1, (y.2.2.1, ((Go.IntKind.wrap Go.IntKind.i64 (y.2.2.2.1 + (1 : Int))), y.2.2.2.2)))))))
 (cond (Go.Lift.inR at_ (List.length s))
 (cond ((((UInt8.toNat (List.getD s (Int.toNat at_) (0 : UInt8))) : Nat) : Int) == (46 : Int))
 ((porterref12_Between N (0 : Int) (255 : Int)).bind fun y1 =>
 some (((1 : Int), (y1, (([] : List Go.Lift.Tree), ((0 : Int), ((0 : Int), ()))))), (([(0 : Int), (0 : Int), (0 : Int), (0 : Int)] : List Int), (false, ((Go.IntKind.wrap Go.IntKind.i64 (at_ + (1 : Int))), (((0 : Int), ((0 : Int), ())), ()))))))
 (cond (Go.Lift.inR at_ (List.length s))
 (cond ((((UInt8.toNat (List.getD s (Int.toNat at_) (0 : UInt8))) : Nat) : Int) == (91 : Int))
 ((porterref13_class N s (Go.IntKind.wrap Go.IntKind.i64 (at_ + (1 : Int)))).bind fun y2 =>
 some y2)
 (cond (Go.Lift.inR at_ (List.length s))
 (cond ((((UInt8.toNat (List.getD s (Int.toNat at_) (0 : UInt8))) : Nat) : Int) == (92 : Int))
 ((porterref13_escape N s at_).bind fun y3 =>
 cond (y3.2.2.2.2.1.1 != (0 : Int))
 (some y3)
 (some (((1 : Int), (y3.2.1, (([] : List Go.Lift.Tree), ((0 : Int), ((0 : Int), ()))))), (([(0 : Int), (0 : Int), (0 : Int), (0 : Int)] : List Int), (false, (y3.2.2.2.1, (((0 : Int), ((0 : Int), ())), ())))))))
 (cond (Go.Lift.inR at_ (List.length s))
 (cond (Go.Lift.inR at_ (List.length s))
 ((porterref12_Between N (Go.IntKind.wrap Go.IntKind.i64 (((UInt8.toNat (List.getD s (Int.toNat at_) (0 : UInt8))) : Nat) : Int)) (Go.IntKind.wrap Go.IntKind.i64 (((UInt8.toNat (List.getD s (Int.toNat at_) (0 : UInt8))) : Nat) : Int))).bind fun y4 =>
 some (((1 : Int), (y4, (([] : List Go.Lift.Tree), ((0 : Int), ((0 : Int), ()))))), (([(0 : Int), (0 : Int), (0 : Int), (0 : Int)] : List Int), (false, ((Go.IntKind.wrap Go.IntKind.i64 (at_ + (1 : Int))), (((0 : Int), ((0 : Int), ())), ()))))))
 (none))
 (none)))
 (none)))
 (none)))
 (none)))
 (none))

noncomputable def porterref13_atom_t (N : Nat) (self : porterref13_alt_Self) : Tab ((Int × ((List Int) × ((List Tree) × (Int × (Int × Unit))))) × ((List Int) × (Bool × (Int × ((Int × (Int × Unit)) × Unit))))) := [([0, 1], porterref13_atom_h1 N self), ([0, 1, 1, 0, 1, 0, 1, 1], porterref13_atom_h3 N self)]

theorem porterref13_atom_link (N : Nat) (self : porterref13_alt_Self) (x : denS [(0, .v .str), (0, .v (.int .i64)), (0, .v (.int .i64))]) : evFX (porterref13_atom_E N self) N (porterref13_atom_t N self) porterref13_atom_L Go.Proofs.Tryd.f36 (mkS [(0, .v .str), (0, .v (.int .i64)), (0, .v (.int .i64))] 0 x) (kRes (.v (.pair (.pair (.int .i64) (.pair (.arr 4 (.int .u64)) (.pair (.sl .nod) (.pair (.int .i64) (.pair (.int .i64) .unit))))) (.pair (.arr 4 (.int .u64)) (.pair .bool (.pair (.int .i64) (.pair (.pair (.int .i64) (.pair (.int .i64) .unit)) .unit)))))) 3) = porterref13_atom N self x.1 x.2.1 x.2.2.1 := by kernel_rfl

noncomputable def porterref13_atom_res (N : Nat) (self : porterref13_alt_Self) : List A → Res := resOf [(0, .v .str), (0, .v (.int .i64)), (0, .v (.int .i64))] (fun x => porterref13_atom N self x.1 x.2.1 x.2.2.1) (oRes (.v (.pair (.pair (.int .i64) (.pair (.arr 4 (.int .u64)) (.pair (.sl .nod) (.pair (.int .i64) (.pair (.int .i64) .unit))))) (.pair (.arr 4 (.int .u64)) (.pair .bool (.pair (.int .i64) (.pair (.pair (.int .i64) (.pair (.int .i64) .unit)) .unit)))))) 3)

theorem porterref13_atom_ct (N : Nat) (self : porterref13_alt_Self) (hself : Contract Go.Proofs.Tryd.prog glob 21 (resOf [(0, .v .str), (0, .v (.int .i64)), (0, .v (.int .i64))] (fun x => self x.1 x.2.1 x.2.2.1) (oRes (.v (.pair (.pair (.int .i64) (.pair (.arr 4 (.int .u64)) (.pair (.sl .nod) (.pair (.int .i64) (.pair (.int .i64) .unit))))) (.pair (.arr 4 (.int .u64)) (.pair .bool (.pair (.int .i64) (.pair (.pair (.int .i64) (.pair (.int .i64) .unit)) .unit)))))) 3))) : Contract Go.Proofs.Tryd.prog glob 36 (porterref13_atom_res N self) :=
  Contract.of (E := porterref13_atom_E N self) (H := porterref13_atom_t N self) (L := porterref13_atom_L) (N := N) (body := porterref13_atom_body) (K := (kRes (.v (.pair (.pair (.int .i64) (.pair (.arr 4 (.int .u64)) (.pair (.sl .nod) (.pair (.int .i64) (.pair (.int .i64) .unit))))) (.pair (.arr 4 (.int .u64)) (.pair .bool (.pair (.int .i64) (.pair (.pair (.int .i64) (.pair (.int .i64) .unit)) .unit)))))) 3)) (porterref13_atom_Eok N self hself) Go.Proofs.Tryd.func36 (by kernel_rfl) (by decide) (fun _ hb => (TabOk.cons (porterref13_atom_ok1 hb) (TabOk.cons (porterref13_atom_ok3 hb) TabOk.nil))) (fun x y h => by rw [porterref13_atom_link]; exact h) (kRes_ok (s := (.v (.pair (.pair (.int .i64) (.pair (.arr 4 (.int .u64)) (.pair (.sl .nod) (.pair (.int .i64) (.pair (.int .i64) .unit))))) (.pair (.arr 4 (.int .u64)) (.pair .bool (.pair (.int .i64) (.pair (.pair (.int .i64) (.pair (.int .i64) .unit)) .unit))))))) (m := 3))

noncomputable def porterref13_rep_body : Code := (Go.Proofs.Tryd.f37.body).getD .skip

noncomputable def porterref13_rep_L : List (List Nat × List Nat) := [([0], [4, 1, 2, 3, 8]), ([0, 1], [8]), ([1, 1], [8])]

noncomputable def porterref13_rep_E (N : Nat) : Env := mkEnv tys glob [] [] [] [] false [] []

theorem porterref13_rep_Eok (N : Nat) : EnvOk Go.Proofs.Tryd.prog (porterref13_rep_E N) := mkEnv_ok mixed tys_ok (FnsOk.nil) (ItsOk.nil)

noncomputable def porterref13_rep (N : Nat) (n : (Int × ((List Int) × ((List Tree) × (Int × (Int × Unit)))))) (low : Int) (high : Int) (at_ : Int) : Option ((Int × ((List Int) × ((List Tree) × (Int × (Int × Unit))))) × ((List Int) × (Bool × (Int × ((Int × (Int × Unit)) × Unit))))) :=
 some (((4 : Int), (([(0 : Int), (0 : Int), (0 : Int), (0 : Int)] : List Int), ((List.map Go.Lift.foN ([n] : List (Int × ((List Int) × ((List Go.Lift.Tree) × (Int × (Int × Unit))))))), (low, (high, ()))))), (([(0 : Int), (0 : Int), (0 : Int), (0 : Int)] : List Int), (false, (at_, (((0 : Int), ((0 : Int), ())), ())))))

noncomputable def porterref13_rep_t (N : Nat) : Tab ((Int × ((List Int) × ((List Tree) × (Int × (Int × Unit))))) × ((List Int) × (Bool × (Int × ((Int × (Int × Unit)) × Unit))))) := []

theorem porterref13_rep_link (N : Nat) (x : denS [(0, .v (.pair (.int .i64) (.pair (.arr 4 (.int .u64)) (.pair (.sl .nod) (.pair (.int .i64) (.pair (.int .i64) .unit)))))), (0, .v (.int .i64)), (0, .v (.int .i64)), (0, .v (.int .i64))]) : evFX (porterref13_rep_E N) N (porterref13_rep_t N) porterref13_rep_L Go.Proofs.Tryd.f37 (mkS [(0, .v (.pair (.int .i64) (.pair (.arr 4 (.int .u64)) (.pair (.sl .nod) (.pair (.int .i64) (.pair (.int .i64) .unit)))))), (0, .v (.int .i64)), (0, .v (.int .i64)), (0, .v (.int .i64))] 0 x) (kRes (.v (.pair (.pair (.int .i64) (.pair (.arr 4 (.int .u64)) (.pair (.sl .nod) (.pair (.int .i64) (.pair (.int .i64) .unit))))) (.pair (.arr 4 (.int .u64)) (.pair .bool (.pair (.int .i64) (.pair (.pair (.int .i64) (.pair (.int .i64) .unit)) .unit)))))) 4) = porterref13_rep N x.1 x.2.1 x.2.2.1 x.2.2.2.1 := by kernel_rfl

noncomputable def porterref13_rep_res (N : Nat) : List A → Res := resOf [(0, .v (.pair (.int .i64) (.pair (.arr 4 (.int .u64)) (.pair (.sl .nod) (.pair (.int .i64) (.pair (.int .i64) .unit)))))), (0, .v (.int .i64)), (0, .v (.int .i64)), (0, .v (.int .i64))] (fun x => porterref13_rep N x.1 x.2.1 x.2.2.1 x.2.2.2.1) (oRes (.v (.pair (.pair (.int .i64) (.pair (.arr 4 (.int .u64)) (.pair (.sl .nod) (.pair (.int .i64) (.pair (.int .i64) .unit))))) (.pair (.arr 4 (.int .u64)) (.pair .bool (.pair (.int .i64) (.pair (.pair (.int .i64) (.pair (.int .i64) .unit)) .unit)))))) 4)

theorem porterref13_rep_ct (N : Nat) : Contract Go.Proofs.Tryd.prog glob 37 (porterref13_rep_res N) :=
  Contract.of (E := porterref13_rep_E N) (H := porterref13_rep_t N) (L := porterref13_rep_L) (N := N) (body := porterref13_rep_body) (K := (kRes (.v (.pair (.pair (.int .i64) (.pair (.arr 4 (.int .u64)) (.pair (.sl .nod) (.pair (.int .i64) (.pair (.int .i64) .unit))))) (.pair (.arr 4 (.int .u64)) (.pair .bool (.pair (.int .i64) (.pair (.pair (.int .i64) (.pair (.int .i64) .unit)) .unit)))))) 4)) (porterref13_rep_Eok N) Go.Proofs.Tryd.func37 (by kernel_rfl) (by decide) (fun _ hb => TabOk.nil) (fun x y h => by rw [porterref13_rep_link]; exact h) (kRes_ok (s := (.v (.pair (.pair (.int .i64) (.pair (.arr 4 (.int .u64)) (.pair (.sl .nod) (.pair (.int .i64) (.pair (.int .i64) .unit))))) (.pair (.arr 4 (.int .u64)) (.pair .bool (.pair (.int .i64) (.pair (.pair (.int .i64) (.pair (.int .i64) .unit)) .unit))))))) (m := 4))

noncomputable def porterref13_number_body : Code := (Go.Proofs.Tryd.f51.body).getD .skip

noncomputable def porterref13_number_L : List (List Nat × List Nat) := [([0], [1, 0, 5]), ([0, 1], [6, 0, 1, 5]), ([0, 1, 1], [6, 0, 7, 1, 5]), ([0, 0, 1, 1, 1], [6, 0, 7, 1, 5]), ([0, 0, 0, 0, 0, 1, 1, 1], [24, 7, 0, 6, 1, 5]), ([1, 0, 0, 0, 0, 1, 1, 1], [7, 0, 6, 1, 5]), ([1, 1, 0, 0, 0, 0, 1, 1, 1], [6, 1, 0, 5, 7]), ([0, 0, 0, 1, 0, 0, 0, 1, 1, 1], [26, 7, 0, 6, 1, 5]), ([1, 0, 0, 1, 0, 0, 0, 1, 1, 1], [6, 0, 7, 1, 5]), ([0, 1, 0, 0, 1, 0, 0, 0, 1, 1, 1], [6, 0, 7, 1, 5]), ([1, 0, 1, 0, 0, 0, 1, 1, 1], [6, 0, 7, 1, 5]), ([1, 0, 0, 0, 1, 1, 1], [6, 0, 7, 1, 5]), ([0, 1, 1, 1], [6, 1, 0, 5, 7]), ([0, 0, 1, 1, 1, 1], [39, 0, 1, 5, 6, 7]), ([1, 0, 1, 1, 1, 1], [0, 1, 6, 5, 7]), ([0, 0, 1, 0, 1, 1, 1, 1], [4, 5]), ([1, 0, 1, 0, 1, 1, 1, 1], [4, 5]), ([0, 0, 1, 1, 1, 1, 1], [52, 1, 5, 7, 6]), ([1, 0, 1, 1, 1, 1, 1], [7, 1, 5, 6]), ([0, 0, 1, 0, 1, 1, 1, 1, 1], [4, 5]), ([1, 0, 1, 0, 1, 1, 1, 1, 1], [4, 5]), ([0, 0, 1, 1, 1, 1, 1, 1], [56, 1, 5, 7, 6]), ([1, 0, 1, 1, 1, 1, 1, 1], [7, 6, 5]), ([0, 0, 1, 0, 1, 1, 1, 1, 1, 1], [4, 5]), ([1, 0, 1, 0, 1, 1, 1, 1, 1, 1], [4, 5]), ([0, 1, 1, 1, 1, 1, 1, 1], [4, 5]), ([1, 1, 1, 1, 1, 1, 1, 1], [4, 5])]

noncomputable def porterref13_number_E (N : Nat) : Env := mkEnv tys glob [(22, porterref13_other_res N), (31, porterref13_bad_res N)] [] [] [] false [] []

theorem porterref13_number_Eok (N : Nat) : EnvOk Go.Proofs.Tryd.prog (porterref13_number_E N) := mkEnv_ok mixed tys_ok (FnsOk.cons (porterref13_other_ct N) (FnsOk.cons (porterref13_bad_ct N) (FnsOk.nil))) (ItsOk.nil)

noncomputable def porterref13_number_p3 (N : Nat) (s : (List UInt8)) (at_ : Int) (x5 : ((Int × ((List Int) × ((List Tree) × (Int × (Int × Unit))))) × ((List Int) × (Bool × (Int × ((Int × (Int × Unit)) × Unit)))))) (k : Int) (n : Int) (k0 : Option (Int × ((Int × ((List Int) × ((List Tree) × (Int × (Int × Unit))))) × ((List Int) × (Bool × (Int × ((Int × (Int × Unit)) × Unit))))) × Unit)) (k1 : Option (Int × ((Int × ((List Int) × ((List Tree) × (Int × (Int × Unit))))) × ((List Int) × (Bool × (Int × ((Int × (Int × Unit)) × Unit))))) × Unit)) : Option (Int × ((Int × ((List Int) × ((List Tree) × (Int × (Int × Unit))))) × ((List Int) × (Bool × (Int × ((Int × (Int × Unit)) × Unit))))) × Unit) :=
 cond (decide (k < (((List.length s) : Nat) : Int)))
 (cond (Go.Lift.inR k (List.length s))
 (cond (decide ((48 : Int) ≤ (((UInt8.toNat (List.getD s (Int.toNat k) (0 : UInt8))) : Nat) : Int)))
 (cond (Go.Lift.inR k (List.length s))
 (cond (decide ((((UInt8.toNat (List.getD s (Int.toNat k) (0 : UInt8))) : Nat) : Int) ≤ (57 : Int)))
 (k0)
 (k1))
 (none))
 (k1))
 (none))
 (k1)

noncomputable def porterref13_number_g3 (N : Nat) (x : denS [(0, .v .str), (0, .v (.int .i64)), (3, .box (.pair (.pair (.int .i64) (.pair (.arr 4 (.int .u64)) (.pair (.sl .nod) (.pair (.int .i64) (.pair (.int .i64) .unit))))) (.pair (.arr 4 (.int .u64)) (.pair .bool (.pair (.int .i64) (.pair (.pair (.int .i64) (.pair (.int .i64) .unit)) .unit)))))), (0, .v (.int .i64)), (0, .v (.int .i64))]) (K : Ex → List A → Option (Int × ((Int × ((List Int) × ((List Tree) × (Int × (Int × Unit))))) × ((List Int) × (Bool × (Int × ((Int × (Int × Unit)) × Unit))))) × Unit)) : Option (Int × ((Int × ((List Int) × ((List Tree) × (Int × (Int × Unit))))) × ((List Int) × (Bool × (Int × ((Int × (Int × Unit)) × Unit))))) × Unit) :=
 porterref13_number_p3 N x.1 x.2.1 x.2.2.1 x.2.2.2.1 x.2.2.2.2.1 (K .normal (mkS [(0, .v .str), (0, .v (.int .i64)), (3, .box (.pair (.pair (.int .i64) (.pair (.arr 4 (.int .u64)) (.pair (.sl .nod) (.pair (.int .i64) (.pair (.int .i64) .unit))))) (.pair (.arr 4 (.int .u64)) (.pair .bool (.pair (.int .i64) (.pair (.pair (.int .i64) (.pair (.int .i64) .unit)) .unit)))))), (0, .v (.int .i64)), (0, .v (.int .i64))] 54 (x.1, x.2.1, x.2.2.1, x.2.2.2.1, x.2.2.2.2.1, ()))) (K (.exit 0) (mkS [(0, .v .str), (0, .v (.int .i64)), (3, .box (.pair (.pair (.int .i64) (.pair (.arr 4 (.int .u64)) (.pair (.sl .nod) (.pair (.int .i64) (.pair (.int .i64) .unit))))) (.pair (.arr 4 (.int .u64)) (.pair .bool (.pair (.int .i64) (.pair (.pair (.int .i64) (.pair (.int .i64) .unit)) .unit)))))), (0, .v (.int .i64)), (0, .v (.int .i64))] 54 (x.1, x.2.1, x.2.2.1, x.2.2.2.1, x.2.2.2.2.1, ())))

noncomputable def porterref13_number_h3 (N : Nat) : Hd (Int × ((Int × ((List Int) × ((List Tree) × (Int × (Int × Unit))))) × ((List Int) × (Bool × (Int × ((Int × (Int × Unit)) × Unit))))) × Unit) := fun st K => (unS [(0, .v .str), (0, .v (.int .i64)), (3, .box (.pair (.pair (.int .i64) (.pair (.arr 4 (.int .u64)) (.pair (.sl .nod) (.pair (.int .i64) (.pair (.int .i64) .unit))))) (.pair (.arr 4 (.int .u64)) (.pair .bool (.pair (.int .i64) (.pair (.pair (.int .i64) (.pair (.int .i64) .unit)) .unit)))))), (0, .v (.int .i64)), (0, .v (.int .i64))] 54 (restr [6, 0, 7, 1, 5] 0 st)).bind fun x => porterref13_number_g3 N x K

noncomputable def porterref13_number_t3 (N : Nat) : Tab (Int × ((Int × ((List Int) × ((List Tree) × (Int × (Int × Unit))))) × ((List Int) × (Bool × (Int × ((Int × (Int × Unit)) × Unit))))) × Unit) := []

theorem porterref13_number_ok3 {N : Nat} {c : Ctx} (hb : Base Go.Proofs.Tryd.prog (porterref13_number_E N) c) : CodeOk Go.Proofs.Tryd.prog c (nodeAt porterref13_number_body [0, 0, 0, 0, 1, 1, 1]) (porterref13_number_h3 N) :=
  piece_ok (s := [(0, .v .str), (0, .v (.int .i64)), (3, .box (.pair (.pair (.int .i64) (.pair (.arr 4 (.int .u64)) (.pair (.sl .nod) (.pair (.int .i64) (.pair (.int .i64) .unit))))) (.pair (.arr 4 (.int .u64)) (.pair .bool (.pair (.int .i64) (.pair (.pair (.int .i64) (.pair (.int .i64) .unit)) .unit)))))), (0, .v (.int .i64)), (0, .v (.int .i64))]) (m := 54) (g := porterref13_number_g3 N) [6, 0, 7, 1, 5] (evN_sound hb N (porterref13_number_t3 N) porterref13_number_L porterref13_number_body TabOk.nil [0, 0, 0, 0, 1, 1, 1] _ rfl) (fun x K => by kernel_rfl)

noncomputable def porterref13_number_p4 (N : Nat) (s : (List UInt8)) (at_ : Int) (x5 : ((Int × ((List Int) × ((List Tree) × (Int × (Int × Unit))))) × ((List Int) × (Bool × (Int × ((Int × (Int × Unit)) × Unit)))))) (k : Int) (n : Int) (k0 : Int → Option (Int × ((Int × ((List Int) × ((List Tree) × (Int × (Int × Unit))))) × ((List Int) × (Bool × (Int × ((Int × (Int × Unit)) × Unit))))) × Unit)) : Option (Int × ((Int × ((List Int) × ((List Tree) × (Int × (Int × Unit))))) × ((List Int) × (Bool × (Int × ((Int × (Int × Unit)) × Unit))))) × Unit) :=
 cond (decide (n < (1000 : Int)))
 (cond (Go.Lift.inR k (List.length s))
 (k0 (Go.IntKind.wrap Go.IntKind.i64 ((Go.IntKind.wrap Go.IntKind.i64 ((Go.IntKind.wrap Go.IntKind.i64 ((10 : Int) * n)) + (Go.IntKind.wrap Go.IntKind.i64 (((UInt8.toNat (List.getD s (Int.toNat k) (0 : UInt8))) : Nat) : Int)))) - (48 : Int))))
 (none))
 (k0 n)

noncomputable def porterref13_number_g4 (N : Nat) (x : denS [(0, .v .str), (0, .v (.int .i64)), (3, .box (.pair (.pair (.int .i64) (.pair (.arr 4 (.int .u64)) (.pair (.sl .nod) (.pair (.int .i64) (.pair (.int .i64) .unit))))) (.pair (.arr 4 (.int .u64)) (.pair .bool (.pair (.int .i64) (.pair (.pair (.int .i64) (.pair (.int .i64) .unit)) .unit)))))), (0, .v (.int .i64)), (0, .v (.int .i64))]) (K : Ex → List A → Option (Int × ((Int × ((List Int) × ((List Tree) × (Int × (Int × Unit))))) × ((List Int) × (Bool × (Int × ((Int × (Int × Unit)) × Unit))))) × Unit)) : Option (Int × ((Int × ((List Int) × ((List Tree) × (Int × (Int × Unit))))) × ((List Int) × (Bool × (Int × ((Int × (Int × Unit)) × Unit))))) × Unit) :=
 porterref13_number_p4 N x.1 x.2.1 x.2.2.1 x.2.2.2.1 x.2.2.2.2.1 (fun a4 => (K .normal (mkS [(0, .v .str), (0, .v (.int .i64)), (3, .box (.pair (.pair (.int .i64) (.pair (.arr 4 (.int .u64)) (.pair (.sl .nod) (.pair (.int .i64) (.pair (.int .i64) .unit))))) (.pair (.arr 4 (.int .u64)) (.pair .bool (.pair (.int .i64) (.pair (.pair (.int .i64) (.pair (.int .i64) .unit)) .unit)))))), (0, .v (.int .i64)), (0, .v (.int .i64))] 54 (x.1, x.2.1, x.2.2.1, x.2.2.2.1, a4, ()))))

noncomputable def porterref13_number_h4 (N : Nat) : Hd (Int × ((Int × ((List Int) × ((List Tree) × (Int × (Int × Unit))))) × ((List Int) × (Bool × (Int × ((Int × (Int × Unit)) × Unit))))) × Unit) := fun st K => (unS [(0, .v .str), (0, .v (.int .i64)), (3, .box (.pair (.pair (.int .i64) (.pair (.arr 4 (.int .u64)) (.pair (.sl .nod) (.pair (.int .i64) (.pair (.int .i64) .unit))))) (.pair (.arr 4 (.int .u64)) (.pair .bool (.pair (.int .i64) (.pair (.pair (.int .i64) (.pair (.int .i64) .unit)) .unit)))))), (0, .v (.int .i64)), (0, .v (.int .i64))] 54 (restr [7, 0, 6, 1, 5] 0 st)).bind fun x => porterref13_number_g4 N x K

noncomputable def porterref13_number_t4 (N : Nat) : Tab (Int × ((Int × ((List Int) × ((List Tree) × (Int × (Int × Unit))))) × ((List Int) × (Bool × (Int × ((Int × (Int × Unit)) × Unit))))) × Unit) := []

theorem porterref13_number_ok4 {N : Nat} {c : Ctx} (hb : Base Go.Proofs.Tryd.prog (porterref13_number_E N) c) : CodeOk Go.Proofs.Tryd.prog c (nodeAt porterref13_number_body [0, 0, 1, 0, 0, 0, 1, 1, 1]) (porterref13_number_h4 N) :=
  piece_ok (s := [(0, .v .str), (0, .v (.int .i64)), (3, .box (.pair (.pair (.int .i64) (.pair (.arr 4 (.int .u64)) (.pair (.sl .nod) (.pair (.int .i64) (.pair (.int .i64) .unit))))) (.pair (.arr 4 (.int .u64)) (.pair .bool (.pair (.int .i64) (.pair (.pair (.int .i64) (.pair (.int .i64) .unit)) .unit)))))), (0, .v (.int .i64)), (0, .v (.int .i64))]) (m := 54) (g := porterref13_number_g4 N) [7, 0, 6, 1, 5] (evN_sound hb N (porterref13_number_t4 N) porterref13_number_L porterref13_number_body TabOk.nil [0, 0, 1, 0, 0, 0, 1, 1, 1] _ rfl) (fun x K => by kernel_rfl)

noncomputable def porterref13_number_s2 (N : Nat) (s : (List UInt8)) (at_ : Int) (x5 : ((Int × ((List Int) × ((List Tree) × (Int × (Int × Unit))))) × ((List Int) × (Bool × (Int × ((Int × (Int × Unit)) × Unit)))))) (k : Int) (n : Int) (rec : Int → Int → Option (Int × ((Int × ((List Int) × ((List Tree) × (Int × (Int × Unit))))) × ((List Int) × (Bool × (Int × ((Int × (Int × Unit)) × Unit))))) × Unit)) (k0 : Int → Int → Option (Int × ((Int × ((List Int) × ((List Tree) × (Int × (Int × Unit))))) × ((List Int) × (Bool × (Int × ((Int × (Int × Unit)) × Unit))))) × Unit)) : Option (Int × ((Int × ((List Int) × ((List Tree) × (Int × (Int × Unit))))) × ((List Int) × (Bool × (Int × ((Int × (Int × Unit)) × Unit))))) × Unit) :=
 porterref13_number_p3 N s at_ x5 k n
 (porterref13_number_p4 N s at_ x5 k n
 (fun n1 => rec (Go.IntKind.wrap Go.IntKind.i64 (k + (1 : Int))) n1))
 (k0 k n)

noncomputable def porterref13_number_p2 (N : Nat) (s : (List UInt8)) (at_ : Int) (x5 : ((Int × ((List Int) × ((List Tree) × (Int × (Int × Unit))))) × ((List Int) × (Bool × (Int × ((Int × (Int × Unit)) × Unit)))))) (k : Int) (n : Int) (k0 : Int → Int → Option (Int × ((Int × ((List Int) × ((List Tree) × (Int × (Int × Unit))))) × ((List Int) × (Bool × (Int × ((Int × (Int × Unit)) × Unit))))) × Unit)) : Option (Int × ((Int × ((List Int) × ((List Tree) × (Int × (Int × Unit))))) × ((List Int) × (Bool × (Int × ((Int × (Int × Unit)) × Unit))))) × Unit) :=
 iter (fun (v : (Int × Int)) r => porterref13_number_s2 N s at_ x5 v.1 v.2 (fun k n => (r (k, n))) k0) N (k, n)

noncomputable def porterref13_number_g2 (N : Nat) (i : ((List UInt8) × Int × ((Int × ((List Int) × ((List Tree) × (Int × (Int × Unit))))) × ((List Int) × (Bool × (Int × ((Int × (Int × Unit)) × Unit))))))) (v : (Int × Int)) (r : (Int × Int) → Option (Int × ((Int × ((List Int) × ((List Tree) × (Int × (Int × Unit))))) × ((List Int) × (Bool × (Int × ((Int × (Int × Unit)) × Unit))))) × Unit)) (K : Ex → List A → Option (Int × ((Int × ((List Int) × ((List Tree) × (Int × (Int × Unit))))) × ((List Int) × (Bool × (Int × ((Int × (Int × Unit)) × Unit))))) × Unit)) : Option (Int × ((Int × ((List Int) × ((List Tree) × (Int × (Int × Unit))))) × ((List Int) × (Bool × (Int × ((Int × (Int × Unit)) × Unit))))) × Unit) :=
 porterref13_number_s2 N i.1 i.2.1 i.2.2 v.1 v.2 (fun k n => (r (k, n))) (fun a3 a4 => (K (.exit 0) (mkS [(0, .v .str), (0, .v (.int .i64)), (3, .box (.pair (.pair (.int .i64) (.pair (.arr 4 (.int .u64)) (.pair (.sl .nod) (.pair (.int .i64) (.pair (.int .i64) .unit))))) (.pair (.arr 4 (.int .u64)) (.pair .bool (.pair (.int .i64) (.pair (.pair (.int .i64) (.pair (.int .i64) .unit)) .unit)))))), (0, .v (.int .i64)), (0, .v (.int .i64))] 54 (i.1, i.2.1, i.2.2, a3, a4, ()))))

noncomputable def porterref13_number_h2 (N : Nat) : Hd (Int × ((Int × ((List Int) × ((List Tree) × (Int × (Int × Unit))))) × ((List Int) × (Bool × (Int × ((Int × (Int × Unit)) × Unit))))) × Unit) := fun st K => (unS [(0, .v .str), (0, .v (.int .i64)), (3, .box (.pair (.pair (.int .i64) (.pair (.arr 4 (.int .u64)) (.pair (.sl .nod) (.pair (.int .i64) (.pair (.int .i64) .unit))))) (.pair (.arr 4 (.int .u64)) (.pair .bool (.pair (.int .i64) (.pair (.pair (.int .i64) (.pair (.int .i64) .unit)) .unit)))))), (0, .v (.int .i64)), (0, .v (.int .i64))] 54 (restr [6, 0, 7, 1, 5] 0 st)).bind fun x => iter (fun v r => porterref13_number_g2 N ((fun x => (x.1, x.2.1, x.2.2.1)) x) v r K) N ((fun x => (x.2.2.2.1, x.2.2.2.2.1)) x)

noncomputable def porterref13_number_t2 (N : Nat) : Tab (Int × ((Int × ((List Int) × ((List Tree) × (Int × (Int × Unit))))) × ((List Int) × (Bool × (Int × ((Int × (Int × Unit)) × Unit))))) × Unit) := [([0, 0, 0, 0, 1, 1, 1], porterref13_number_h3 N), ([0, 0, 1, 0, 0, 0, 1, 1, 1], porterref13_number_h4 N)]

theorem porterref13_number_ok2 {N : Nat} {c : Ctx} (hb : Base Go.Proofs.Tryd.prog (porterref13_number_E N) c) : CodeOk Go.Proofs.Tryd.prog c (nodeAt porterref13_number_body [0, 0, 1, 1, 1]) (porterref13_number_h2 N) :=
  loop_ok (s := [(0, .v .str), (0, .v (.int .i64)), (3, .box (.pair (.pair (.int .i64) (.pair (.arr 4 (.int .u64)) (.pair (.sl .nod) (.pair (.int .i64) (.pair (.int .i64) .unit))))) (.pair (.arr 4 (.int .u64)) (.pair .bool (.pair (.int .i64) (.pair (.pair (.int .i64) (.pair (.int .i64) .unit)) .unit)))))), (0, .v (.int .i64)), (0, .v (.int .i64))]) (m := 54) (porterref13_number_g2 N) [6, 0, 7, 1, 5] N (fun x => (x.1, x.2.1, x.2.2.1)) (fun x => (x.2.2.2.1, x.2.2.2.2.1)) (fun i v => (i.1, i.2.1, i.2.2, v.1, v.2, ())) (fun _ => rfl) (evN_sound hb N (porterref13_number_t2 N) porterref13_number_L porterref13_number_body (TabOk.cons (porterref13_number_ok3 hb) (TabOk.cons (porterref13_number_ok4 hb) TabOk.nil)) [0, 0, 0, 1, 1, 1] _ rfl) (fun i v r K => by kernel_rfl)

noncomputable def porterref13_number_p1 (N : Nat) (s : (List UInt8)) (at_ : Int) (x5 : ((Int × ((List Int) × ((List Tree) × (Int × (Int × Unit))))) × ((List Int) × (Bool × (Int × ((Int × (Int × Unit)) × Unit)))))) (k : Int) (n : Int) (k0 : Int → Int → Option (Int × ((Int × ((List Int) × ((List Tree) × (Int × (Int × Unit))))) × ((List Int) × (Bool × (Int × ((Int × (Int × Unit)) × Unit))))) × Unit)) : Option (Int × ((Int × ((List Int) × ((List Tree) × (Int × (Int × Unit))))) × ((List Int) × (Bool × (Int × ((Int × (Int × Unit)) × Unit))))) × Unit) :=
 porterref13_number_p2 N s at_ x5 k n
 (fun k1 n1 => k0 k1 n1)

noncomputable def porterref13_number_g1 (N : Nat) (x : denS [(0, .v .str), (0, .v (.int .i64)), (3, .box (.pair (.pair (.int .i64) (.pair (.arr 4 (.int .u64)) (.pair (.sl .nod) (.pair (.int .i64) (.pair (.int .i64) .unit))))) (.pair (.arr 4 (.int .u64)) (.pair .bool (.pair (.int .i64) (.pair (.pair (.int .i64) (.pair (.int .i64) .unit)) .unit)))))), (0, .v (.int .i64)), (0, .v (.int .i64))]) (K : Ex → List A → Option (Int × ((Int × ((List Int) × ((List Tree) × (Int × (Int × Unit))))) × ((List Int) × (Bool × (Int × ((Int × (Int × Unit)) × Unit))))) × Unit)) : Option (Int × ((Int × ((List Int) × ((List Tree) × (Int × (Int × Unit))))) × ((List Int) × (Bool × (Int × ((Int × (Int × Unit)) × Unit))))) × Unit) :=
 porterref13_number_p1 N x.1 x.2.1 x.2.2.1 x.2.2.2.1 x.2.2.2.2.1 (fun a3 a4 => (K .normal (mkS [(0, .v .str), (0, .v (.int .i64)), (3, .box (.pair (.pair (.int .i64) (.pair (.arr 4 (.int .u64)) (.pair (.sl .nod) (.pair (.int .i64) (.pair (.int .i64) .unit))))) (.pair (.arr 4 (.int .u64)) (.pair .bool (.pair (.int .i64) (.pair (.pair (.int .i64) (.pair (.int .i64) .unit)) .unit)))))), (0, .v (.int .i64)), (0, .v (.int .i64))] 54 (x.1, x.2.1, x.2.2.1, a3, a4, ()))))

noncomputable def porterref13_number_h1 (N : Nat) : Hd (Int × ((Int × ((List Int) × ((List Tree) × (Int × (Int × Unit))))) × ((List Int) × (Bool × (Int × ((Int × (Int × Unit)) × Unit))))) × Unit) := fun st K => (unS [(0, .v .str), (0, .v (.int .i64)), (3, .box (.pair (.pair (.int .i64) (.pair (.arr 4 (.int .u64)) (.pair (.sl .nod) (.pair (.int .i64) (.pair (.int .i64) .unit))))) (.pair (.arr 4 (.int .u64)) (.pair .bool (.pair (.int .i64) (.pair (.pair (.int .i64) (.pair (.int .i64) .unit)) .unit)))))), (0, .v (.int .i64)), (0, .v (.int .i64))] 54 (restr [6, 0, 7, 1, 5] 0 st)).bind fun x => porterref13_number_g1 N x K

noncomputable def porterref13_number_t1 (N : Nat) : Tab (Int × ((Int × ((List Int) × ((List Tree) × (Int × (Int × Unit))))) × ((List Int) × (Bool × (Int × ((Int × (Int × Unit)) × Unit))))) × Unit) := [([0, 0, 1, 1, 1], porterref13_number_h2 N)]

theorem porterref13_number_ok1 {N : Nat} {c : Ctx} (hb : Base Go.Proofs.Tryd.prog (porterref13_number_E N) c) : CodeOk Go.Proofs.Tryd.prog c (nodeAt porterref13_number_body [0, 1, 1, 1]) (porterref13_number_h1 N) :=
  piece_ok (s := [(0, .v .str), (0, .v (.int .i64)), (3, .box (.pair (.pair (.int .i64) (.pair (.arr 4 (.int .u64)) (.pair (.sl .nod) (.pair (.int .i64) (.pair (.int .i64) .unit))))) (.pair (.arr 4 (.int .u64)) (.pair .bool (.pair (.int .i64) (.pair (.pair (.int .i64) (.pair (.int .i64) .unit)) .unit)))))), (0, .v (.int .i64)), (0, .v (.int .i64))]) (m := 54) (g := porterref13_number_g1 N) [6, 0, 7, 1, 5] (evN_sound hb N (porterref13_number_t1 N) porterref13_number_L porterref13_number_body (TabOk.cons (porterref13_number_ok2 hb) TabOk.nil) [0, 1, 1, 1] _ rfl) (fun x K => by kernel_rfl)

noncomputable def porterref13_number_p6 (N : Nat) (s : (List UInt8)) (at_ : Int) (x5 : ((Int × ((List Int) × ((List Tree) × (Int × (Int × Unit))))) × ((List Int) × (Bool × (Int × ((Int × (Int × Unit)) × Unit)))))) (k : Int) (n : Int) (k0 : Bool → Option (Int × ((Int × ((List Int) × ((List Tree) × (Int × (Int × Unit))))) × ((List Int) × (Bool × (Int × ((Int × (Int × Unit)) × Unit))))) × Unit)) : Option (Int × ((Int × ((List Int) × ((List Tree) × (Int × (Int × Unit))))) × ((List Int) × (Bool × (Int × ((Int × (Int × Unit)) × Unit))))) × Unit) :=
 cond (Go.Lift.inR at_ (List.length s))
 (cond ((((UInt8.toNat (List.getD s (Int.toNat at_) (0 : UInt8))) : Nat) : Int) == (48 : Int))
 (k0 (decide ((Go.IntKind.wrap Go.IntKind.i64 (at_ + (1 : Int))) < k)))
 (k0 false))
 (none)

noncomputable def porterref13_number_g6 (N : Nat) (x : denS [(0, .v .str), (0, .v (.int .i64)), (3, .box (.pair (.pair (.int .i64) (.pair (.arr 4 (.int .u64)) (.pair (.sl .nod) (.pair (.int .i64) (.pair (.int .i64) .unit))))) (.pair (.arr 4 (.int .u64)) (.pair .bool (.pair (.int .i64) (.pair (.pair (.int .i64) (.pair (.int .i64) .unit)) .unit)))))), (0, .v (.int .i64)), (0, .v (.int .i64))]) (K : Ex → List A → Option (Int × ((Int × ((List Int) × ((List Tree) × (Int × (Int × Unit))))) × ((List Int) × (Bool × (Int × ((Int × (Int × Unit)) × Unit))))) × Unit)) : Option (Int × ((Int × ((List Int) × ((List Tree) × (Int × (Int × Unit))))) × ((List Int) × (Bool × (Int × ((Int × (Int × Unit)) × Unit))))) × Unit) :=
 porterref13_number_p6 N x.1 x.2.1 x.2.2.1 x.2.2.2.1 x.2.2.2.2.1 (fun a4 => (K .normal (mkS [(1, .v (.int .i64)), (3, .box (.pair (.pair (.int .i64) (.pair (.arr 4 (.int .u64)) (.pair (.sl .nod) (.pair (.int .i64) (.pair (.int .i64) .unit))))) (.pair (.arr 4 (.int .u64)) (.pair .bool (.pair (.int .i64) (.pair (.pair (.int .i64) (.pair (.int .i64) .unit)) .unit)))))), (0, .v (.int .i64)), (0, .v (.int .i64)), (44, .v .bool)] 9 (x.2.1, x.2.2.1, x.2.2.2.1, x.2.2.2.2.1, a4, ()))))

noncomputable def porterref13_number_h6 (N : Nat) : Hd (Int × ((Int × ((List Int) × ((List Tree) × (Int × (Int × Unit))))) × ((List Int) × (Bool × (Int × ((Int × (Int × Unit)) × Unit))))) × Unit) := fun st K => (unS [(0, .v .str), (0, .v (.int .i64)), (3, .box (.pair (.pair (.int .i64) (.pair (.arr 4 (.int .u64)) (.pair (.sl .nod) (.pair (.int .i64) (.pair (.int .i64) .unit))))) (.pair (.arr 4 (.int .u64)) (.pair .bool (.pair (.int .i64) (.pair (.pair (.int .i64) (.pair (.int .i64) .unit)) .unit)))))), (0, .v (.int .i64)), (0, .v (.int .i64))] 54 (restr [0, 1, 6, 5, 7] 0 st)).bind fun x => porterref13_number_g6 N x K

noncomputable def porterref13_number_t6 (N : Nat) : Tab (Int × ((Int × ((List Int) × ((List Tree) × (Int × (Int × Unit))))) × ((List Int) × (Bool × (Int × ((Int × (Int × Unit)) × Unit))))) × Unit) := []

theorem porterref13_number_ok6 {N : Nat} {c : Ctx} (hb : Base Go.Proofs.Tryd.prog (porterref13_number_E N) c) : CodeOk Go.Proofs.Tryd.prog c (nodeAt porterref13_number_body [0, 0, 1, 1, 1, 1, 1]) (porterref13_number_h6 N) :=
  piece_ok (s := [(0, .v .str), (0, .v (.int .i64)), (3, .box (.pair (.pair (.int .i64) (.pair (.arr 4 (.int .u64)) (.pair (.sl .nod) (.pair (.int .i64) (.pair (.int .i64) .unit))))) (.pair (.arr 4 (.int .u64)) (.pair .bool (.pair (.int .i64) (.pair (.pair (.int .i64) (.pair (.int .i64) .unit)) .unit)))))), (0, .v (.int .i64)), (0, .v (.int .i64))]) (m := 54) (g := porterref13_number_g6 N) [0, 1, 6, 5, 7] (evN_sound hb N (porterref13_number_t6 N) porterref13_number_L porterref13_number_body TabOk.nil [0, 0, 1, 1, 1, 1, 1] _ rfl) (fun x K => by kernel_rfl)

noncomputable def porterref13_number_p5 (N : Nat) (s : (List UInt8)) (at_ : Int) (x5 : ((Int × ((List Int) × ((List Tree) × (Int × (Int × Unit))))) × ((List Int) × (Bool × (Int × ((Int × (Int × Unit)) × Unit)))))) (k : Int) (n : Int) (k0 : Int → ((Int × ((List Int) × ((List Tree) × (Int × (Int × Unit))))) × ((List Int) × (Bool × (Int × ((Int × (Int × Unit)) × Unit))))) → Option (Int × ((Int × ((List Int) × ((List Tree) × (Int × (Int × Unit))))) × ((List Int) × (Bool × (Int × ((Int × (Int × Unit)) × Unit))))) × Unit)) (k1 : Option (Int × ((Int × ((List Int) × ((List Tree) × (Int × (Int × Unit))))) × ((List Int) × (Bool × (Int × ((Int × (Int × Unit)) × Unit))))) × Unit)) : Option (Int × ((Int × ((List Int) × ((List Tree) × (Int × (Int × Unit))))) × ((List Int) × (Bool × (Int × ((Int × (Int × Unit)) × Unit))))) × Unit) :=
 porterref13_number_p6 N s at_ x5 k n
 (fun x52 => cond x52
 (k0 (0 : Int) (((0 : Int), (([(0 : Int), (0 : Int), (0 : Int), (0 : Int)] : List Int), (([] : List Go.Lift.Tree), ((0 : Int), ((0 : Int), ()))))), (([(0 : Int), (0 : Int), (0 : Int), (0 : Int)] : List Int), (false, ((0 : Int), (((2 : Int), (at_, ())), ()))))))
 (k1))

noncomputable def porterref13_number_g5 (N : Nat) (x : denS [(0, .v .str), (0, .v (.int .i64)), (3, .box (.pair (.pair (.int .i64) (.pair (.arr 4 (.int .u64)) (.pair (.sl .nod) (.pair (.int .i64) (.pair (.int .i64) .unit))))) (.pair (.arr 4 (.int .u64)) (.pair .bool (.pair (.int .i64) (.pair (.pair (.int .i64) (.pair (.int .i64) .unit)) .unit)))))), (0, .v (.int .i64)), (0, .v (.int .i64))]) (K : Ex → List A → Option (Int × ((Int × ((List Int) × ((List Tree) × (Int × (Int × Unit))))) × ((List Int) × (Bool × (Int × ((Int × (Int × Unit)) × Unit))))) × Unit)) : Option (Int × ((Int × ((List Int) × ((List Tree) × (Int × (Int × Unit))))) × ((List Int) × (Bool × (Int × ((Int × (Int × Unit)) × Unit))))) × Unit) :=
 porterref13_number_p5 N x.1 x.2.1 x.2.2.1 x.2.2.2.1 x.2.2.2.2.1 (fun a0 a1 => (K .ret (mkS [(4, .v (.int .i64)), (0, .box (.pair (.pair (.int .i64) (.pair (.arr 4 (.int .u64)) (.pair (.sl .nod) (.pair (.int .i64) (.pair (.int .i64) .unit))))) (.pair (.arr 4 (.int .u64)) (.pair .bool (.pair (.int .i64) (.pair (.pair (.int .i64) (.pair (.int .i64) .unit)) .unit))))))] 56 (a0, a1, ())))) (K .normal (mkS [(1, .v (.int .i64)), (3, .box (.pair (.pair (.int .i64) (.pair (.arr 4 (.int .u64)) (.pair (.sl .nod) (.pair (.int .i64) (.pair (.int .i64) .unit))))) (.pair (.arr 4 (.int .u64)) (.pair .bool (.pair (.int .i64) (.pair (.pair (.int .i64) (.pair (.int .i64) .unit)) .unit)))))), (0, .v (.int .i64)), (0, .v (.int .i64))] 54 (x.2.1, x.2.2.1, x.2.2.2.1, x.2.2.2.2.1, ())))

noncomputable def porterref13_number_h5 (N : Nat) : Hd (Int × ((Int × ((List Int) × ((List Tree) × (Int × (Int × Unit))))) × ((List Int) × (Bool × (Int × ((Int × (Int × Unit)) × Unit))))) × Unit) := fun st K => (unS [(0, .v .str), (0, .v (.int .i64)), (3, .box (.pair (.pair (.int .i64) (.pair (.arr 4 (.int .u64)) (.pair (.sl .nod) (.pair (.int .i64) (.pair (.int .i64) .unit))))) (.pair (.arr 4 (.int .u64)) (.pair .bool (.pair (.int .i64) (.pair (.pair (.int .i64) (.pair (.int .i64) .unit)) .unit)))))), (0, .v (.int .i64)), (0, .v (.int .i64))] 54 (restr [0, 1, 6, 5, 7] 0 st)).bind fun x => porterref13_number_g5 N x K

noncomputable def porterref13_number_t5 (N : Nat) : Tab (Int × ((Int × ((List Int) × ((List Tree) × (Int × (Int × Unit))))) × ((List Int) × (Bool × (Int × ((Int × (Int × Unit)) × Unit))))) × Unit) := [([0, 0, 1, 1, 1, 1, 1], porterref13_number_h6 N)]

theorem porterref13_number_ok5 {N : Nat} {c : Ctx} (hb : Base Go.Proofs.Tryd.prog (porterref13_number_E N) c) : CodeOk Go.Proofs.Tryd.prog c (nodeAt porterref13_number_body [0, 1, 1, 1, 1, 1]) (porterref13_number_h5 N) :=
  piece_ok (s := [(0, .v .str), (0, .v (.int .i64)), (3, .box (.pair (.pair (.int .i64) (.pair (.arr 4 (.int .u64)) (.pair (.sl .nod) (.pair (.int .i64) (.pair (.int .i64) .unit))))) (.pair (.arr 4 (.int .u64)) (.pair .bool (.pair (.int .i64) (.pair (.pair (.int .i64) (.pair (.int .i64) .unit)) .unit)))))), (0, .v (.int .i64)), (0, .v (.int .i64))]) (m := 54) (g := porterref13_number_g5 N) [0, 1, 6, 5, 7] (evN_sound hb N (porterref13_number_t5 N) porterref13_number_L porterref13_number_body (TabOk.cons (porterref13_number_ok6 hb) TabOk.nil) [0, 1, 1, 1, 1, 1] _ rfl) (fun x K => by kernel_rfl)

noncomputable def porterref13_number (N : Nat) (s : (List UInt8)) (at_ : Int) : Option (Int × ((Int × ((List Int) × ((List Tree) × (Int × (Int × Unit))))) × ((List Int) × (Bool × (Int × ((Int × (Int × Unit)) × Unit))))) × Unit) :=
 porterref13_number_p1 N s at_ (((0 : Int), (([(0 : Int), (0 : Int), (0 : Int), (0 : Int)] : List Int), (([] : List Go.Lift.Tree), ((0 : Int), ((0 : Int), ()))))), (([(0 : Int), (0 : Int), (0 : Int), (0 : Int)] : List Int), (false, ((0 : Int), (((0 : Int), ((0 : Int), ())), ()))))) at_ (0 : Int)
 (fun k n => cond (k == at_)
 ((porterref13_other N s at_).bind fun y =>
 some ((0 : Int), (y, ())))
 (porterref13_number_p5 N s at_ (((0 : Int), (([(0 : Int), (0 : Int), (0 : Int), (0 : Int)] : List Int), (([] : List Go.Lift.Tree), ((0 : Int), ((0 : Int), ()))))), (([(0 : Int), (0 : Int), (0 : Int), (0 : Int)] : List Int), (false, ((0 : Int), (((0 : Int), ((0 : Int), ())), ()))))) k n
 (fun x4 x5 => some (x4, (x5, ())))
 (cond (decide ((16 : Int) < n))
 (some ((0 : Int), ((((0 : Int), (([(0 : Int), (0 : Int), (0 : Int), (0 : Int)] : List Int), (([] : List Go.Lift.Tree), ((0 : Int), ((0 : Int), ()))))), (([(0 : Int), (0 : Int), (0 : Int), (0 : Int)] : List Int), (false, ((0 : Int), (((3 : Int), (at_, ())), ()))))), ())))
 (some (n, ((((0 : Int), (([(0 : Int), (0 : Int), (0 : Int), (0 : Int)] : List Int), (([] : List Go.Lift.Tree), ((0 : Int), ((0 : Int), ()))))), (([(0 : Int), (0 : Int), (0 : Int), (0 : Int)] : List Int), (false, (k, (((0 : Int), ((0 : Int), ())), ()))))), ()))))))

noncomputable def porterref13_number_t (N : Nat) : Tab (Int × ((Int × ((List Int) × ((List Tree) × (Int × (Int × Unit))))) × ((List Int) × (Bool × (Int × ((Int × (Int × Unit)) × Unit))))) × Unit) := [([0, 1, 1, 1], porterref13_number_h1 N), ([0, 1, 1, 1, 1, 1], porterref13_number_h5 N)]

theorem porterref13_number_link (N : Nat) (x : denS [(0, .v .str), (0, .v (.int .i64))]) : evFX (porterref13_number_E N) N (porterref13_number_t N) porterref13_number_L Go.Proofs.Tryd.f51 (mkS [(0, .v .str), (0, .v (.int .i64))] 0 x) (kRes (.tup [(.int .i64), (.pair (.pair (.int .i64) (.pair (.arr 4 (.int .u64)) (.pair (.sl .nod) (.pair (.int .i64) (.pair (.int .i64) .unit))))) (.pair (.arr 4 (.int .u64)) (.pair .bool (.pair (.int .i64) (.pair (.pair (.int .i64) (.pair (.int .i64) .unit)) .unit)))))]) 2) = porterref13_number N x.1 x.2.1 := by kernel_rfl

noncomputable def porterref13_number_res (N : Nat) : List A → Res := resOf [(0, .v .str), (0, .v (.int .i64))] (fun x => porterref13_number N x.1 x.2.1) (oRes (.tup [(.int .i64), (.pair (.pair (.int .i64) (.pair (.arr 4 (.int .u64)) (.pair (.sl .nod) (.pair (.int .i64) (.pair (.int .i64) .unit))))) (.pair (.arr 4 (.int .u64)) (.pair .bool (.pair (.int .i64) (.pair (.pair (.int .i64) (.pair (.int .i64) .unit)) .unit)))))]) 2)

theorem porterref13_number_ct (N : Nat) : Contract Go.Proofs.Tryd.prog glob 51 (porterref13_number_res N) :=
  Contract.of (E := porterref13_number_E N) (H := porterref13_number_t N) (L := porterref13_number_L) (N := N) (body := porterref13_number_body) (K := (kRes (.tup [(.int .i64), (.pair (.pair (.int .i64) (.pair (.arr 4 (.int .u64)) (.pair (.sl .nod) (.pair (.int .i64) (.pair (.int .i64) .unit))))) (.pair (.arr 4 (.int .u64)) (.pair .bool (.pair (.int .i64) (.pair (.pair (.int .i64) (.pair (.int .i64) .unit)) .unit)))))]) 2)) (porterref13_number_Eok N) Go.Proofs.Tryd.func51 (by kernel_rfl) (by decide) (fun _ hb => (TabOk.cons (porterref13_number_ok1 hb) (TabOk.cons (porterref13_number_ok5 hb) TabOk.nil))) (fun x y h => by rw [porterref13_number_link]; exact h) (kRes_ok (s := (.tup [(.int .i64), (.pair (.pair (.int .i64) (.pair (.arr 4 (.int .u64)) (.pair (.sl .nod) (.pair (.int .i64) (.pair (.int .i64) .unit))))) (.pair (.arr 4 (.int .u64)) (.pair .bool (.pair (.int .i64) (.pair (.pair (.int .i64) (.pair (.int .i64) .unit)) .unit)))))])) (m := 2))

noncomputable def porterref13_braces_body : Code := (Go.Proofs.Tryd.f38.body).getD .skip

noncomputable def porterref13_braces_L : List (List Nat × List Nat) := [([0], [0, 2, 6, 4]), ([0, 1], [8, 6, 7, 2, 0, 4]), ([0, 0, 1, 1], [21, 8, 6, 7, 2, 0, 4]), ([1, 0, 1, 1], [7, 2, 0, 8, 4, 6]), ([0, 0, 1, 0, 1, 1], [6]), ([1, 0, 1, 0, 1, 1], [6]), ([0, 1, 1, 1], [0, 8, 4, 7, 6, 9, 10]), ([0, 0, 1, 1, 1, 1], [36, 4, 7, 8, 6, 0, 9, 10]), ([1, 0, 1, 1, 1, 1], [0, 8, 6, 7, 4, 9, 10]), ([0, 0, 1, 0, 1, 1, 1, 1], [6]), ([1, 0, 1, 0, 1, 1, 1, 1], [6]), ([0, 0, 1, 1, 1, 1, 1], [46, 8, 0, 6, 7, 4, 9, 10]), ([1, 0, 1, 1, 1, 1, 1], [9, 7, 10, 6, 0, 8, 4]), ([0, 0, 1, 0, 1, 1, 1, 1, 1], [0, 10, 8, 6, 7, 4]), ([0, 1, 0, 1, 0, 1, 1, 1, 1, 1], [8, 6, 9, 7, 10, 0, 4]), ([0, 1, 1, 0, 1, 0, 1, 1, 1, 1, 1], [59, 8, 6, 9, 7, 10, 0, 4]), ([1, 1, 1, 0, 1, 0, 1, 1, 1, 1, 1], [9, 7, 10, 6, 0, 8, 4]), ([0, 0, 1, 1, 1, 0, 1, 0, 1, 1, 1, 1, 1], [6]), ([1, 0, 1, 1, 1, 0, 1, 0, 1, 1, 1, 1, 1], [6]), ([0, 0, 1, 1, 1, 1, 1, 1], [67, 10, 6, 0, 8, 4, 7, 9]), ([1, 0, 1, 1, 1, 1, 1, 1], [0, 8, 6, 4, 7, 9]), ([0, 0, 1, 0, 1, 1, 1, 1, 1, 1], [6]), ([1, 0, 1, 0, 1, 1, 1, 1, 1, 1], [6]), ([0, 0, 1, 1, 1, 1, 1, 1, 1], [74, 0, 8, 6, 4, 7, 9]), ([1, 0, 1, 1, 1, 1, 1, 1, 1], [4, 7, 9, 8, 6]), ([0, 0, 1, 0, 1, 1, 1, 1, 1, 1, 1], [6]), ([1, 0, 1, 0, 1, 1, 1, 1, 1, 1, 1], [6]), ([0, 1, 1, 1, 1, 1, 1, 1, 1], [6]), ([1, 1, 1, 1, 1, 1, 1, 1, 1], [6])]

noncomputable def porterref13_braces_E (N : Nat) : Env := mkEnv tys glob [(51, porterref13_number_res N), (37, porterref13_rep_res N), (29, porterref13_is_res N), (22, porterref13_other_res N), (31, porterref13_bad_res N)] [] [] [] false [] []

theorem porterref13_braces_Eok (N : Nat) : EnvOk Go.Proofs.Tryd.prog (porterref13_braces_E N) := mkEnv_ok mixed tys_ok (FnsOk.cons (porterref13_number_ct N) (FnsOk.cons (porterref13_rep_ct N) (FnsOk.cons (porterref13_is_ct N) (FnsOk.cons (porterref13_other_ct N) (FnsOk.cons (porterref13_bad_ct N) (FnsOk.nil)))))) (ItsOk.nil)

noncomputable def porterref13_braces_p2 (N : Nat) (s : (List UInt8)) (n : (Int × ((List Int) × ((List Tree) × (Int × (Int × Unit)))))) (x6 : ((Int × ((List Int) × ((List Tree) × (Int × (Int × Unit))))) × ((List Int) × (Bool × (Int × ((Int × (Int × Unit)) × Unit)))))) (low : Int) (x8 : ((Int × ((List Int) × ((List Tree) × (Int × (Int × Unit))))) × ((List Int) × (Bool × (Int × ((Int × (Int × Unit)) × Unit)))))) (high : Int) (from_ : Int) (k0 : Bool → Option ((Int × ((List Int) × ((List Tree) × (Int × (Int × Unit))))) × ((List Int) × (Bool × (Int × ((Int × (Int × Unit)) × Unit)))))) : Option ((Int × ((List Int) × ((List Tree) × (Int × (Int × Unit))))) × ((List Int) × (Bool × (Int × ((Int × (Int × Unit)) × Unit))))) :=
 (porterref13_is N s x8.2.2.2.1 (44 : Int)).bind fun y =>
 cond y
 ((porterref13_is N s (Go.IntKind.wrap Go.IntKind.i64 (x8.2.2.2.1 + (1 : Int))) (125 : Int)).bind fun y1 =>
 k0 y1)
 (k0 false)

noncomputable def porterref13_braces_g2 (N : Nat) (x : denS [(0, .v .str), (3, .box (.pair (.int .i64) (.pair (.arr 4 (.int .u64)) (.pair (.sl .nod) (.pair (.int .i64) (.pair (.int .i64) .unit)))))), (1, .box (.pair (.pair (.int .i64) (.pair (.arr 4 (.int .u64)) (.pair (.sl .nod) (.pair (.int .i64) (.pair (.int .i64) .unit))))) (.pair (.arr 4 (.int .u64)) (.pair .bool (.pair (.int .i64) (.pair (.pair (.int .i64) (.pair (.int .i64) .unit)) .unit)))))), (0, .v (.int .i64)), (0, .box (.pair (.pair (.int .i64) (.pair (.arr 4 (.int .u64)) (.pair (.sl .nod) (.pair (.int .i64) (.pair (.int .i64) .unit))))) (.pair (.arr 4 (.int .u64)) (.pair .bool (.pair (.int .i64) (.pair (.pair (.int .i64) (.pair (.int .i64) .unit)) .unit)))))), (0, .v (.int .i64)), (0, .v (.int .i64))]) (K : Ex → List A → Option ((Int × ((List Int) × ((List Tree) × (Int × (Int × Unit))))) × ((List Int) × (Bool × (Int × ((Int × (Int × Unit)) × Unit)))))) : Option ((Int × ((List Int) × ((List Tree) × (Int × (Int × Unit))))) × ((List Int) × (Bool × (Int × ((Int × (Int × Unit)) × Unit))))) :=
 porterref13_braces_p2 N x.1 x.2.1 x.2.2.1 x.2.2.2.1 x.2.2.2.2.1 x.2.2.2.2.2.1 x.2.2.2.2.2.2.1 (fun a7 => (K .normal (mkS [(0, .v .str), (3, .box (.pair (.int .i64) (.pair (.arr 4 (.int .u64)) (.pair (.sl .nod) (.pair (.int .i64) (.pair (.int .i64) .unit)))))), (1, .box (.pair (.pair (.int .i64) (.pair (.arr 4 (.int .u64)) (.pair (.sl .nod) (.pair (.int .i64) (.pair (.int .i64) .unit))))) (.pair (.arr 4 (.int .u64)) (.pair .bool (.pair (.int .i64) (.pair (.pair (.int .i64) (.pair (.int .i64) .unit)) .unit)))))), (0, .v (.int .i64)), (0, .box (.pair (.pair (.int .i64) (.pair (.arr 4 (.int .u64)) (.pair (.sl .nod) (.pair (.int .i64) (.pair (.int .i64) .unit))))) (.pair (.arr 4 (.int .u64)) (.pair .bool (.pair (.int .i64) (.pair (.pair (.int .i64) (.pair (.int .i64) .unit)) .unit)))))), (0, .v (.int .i64)), (0, .v (.int .i64)), (25, .v .bool)] 49 (x.1, x.2.1, x.2.2.1, x.2.2.2.1, x.2.2.2.2.1, x.2.2.2.2.2.1, x.2.2.2.2.2.2.1, a7, ()))))

noncomputable def porterref13_braces_h2 (N : Nat) : Hd ((Int × ((List Int) × ((List Tree) × (Int × (Int × Unit))))) × ((List Int) × (Bool × (Int × ((Int × (Int × Unit)) × Unit))))) := fun st K => (unS [(0, .v .str), (3, .box (.pair (.int .i64) (.pair (.arr 4 (.int .u64)) (.pair (.sl .nod) (.pair (.int .i64) (.pair (.int .i64) .unit)))))), (1, .box (.pair (.pair (.int .i64) (.pair (.arr 4 (.int .u64)) (.pair (.sl .nod) (.pair (.int .i64) (.pair (.int .i64) .unit))))) (.pair (.arr 4 (.int .u64)) (.pair .bool (.pair (.int .i64) (.pair (.pair (.int .i64) (.pair (.int .i64) .unit)) .unit)))))), (0, .v (.int .i64)), (0, .box (.pair (.pair (.int .i64) (.pair (.arr 4 (.int .u64)) (.pair (.sl .nod) (.pair (.int .i64) (.pair (.int .i64) .unit))))) (.pair (.arr 4 (.int .u64)) (.pair .bool (.pair (.int .i64) (.pair (.pair (.int .i64) (.pair (.int .i64) .unit)) .unit)))))), (0, .v (.int .i64)), (0, .v (.int .i64))] 75 (restr [0, 8, 4, 7, 6, 9, 10] 0 st)).bind fun x => porterref13_braces_g2 N x K

noncomputable def porterref13_braces_t2 (N : Nat) : Tab ((Int × ((List Int) × ((List Tree) × (Int × (Int × Unit))))) × ((List Int) × (Bool × (Int × ((Int × (Int × Unit)) × Unit))))) := []

theorem porterref13_braces_ok2 {N : Nat} {c : Ctx} (hb : Base Go.Proofs.Tryd.prog (porterref13_braces_E N) c) : CodeOk Go.Proofs.Tryd.prog c (nodeAt porterref13_braces_body [0, 0, 1, 1, 1, 1]) (porterref13_braces_h2 N) :=
  piece_ok (s := [(0, .v .str), (3, .box (.pair (.int .i64) (.pair (.arr 4 (.int .u64)) (.pair (.sl .nod) (.pair (.int .i64) (.pair (.int .i64) .unit)))))), (1, .box (.pair (.pair (.int .i64) (.pair (.arr 4 (.int .u64)) (.pair (.sl .nod) (.pair (.int .i64) (.pair (.int .i64) .unit))))) (.pair (.arr 4 (.int .u64)) (.pair .bool (.pair (.int .i64) (.pair (.pair (.int .i64) (.pair (.int .i64) .unit)) .unit)))))), (0, .v (.int .i64)), (0, .box (.pair (.pair (.int .i64) (.pair (.arr 4 (.int .u64)) (.pair (.sl .nod) (.pair (.int .i64) (.pair (.int .i64) .unit))))) (.pair (.arr 4 (.int .u64)) (.pair .bool (.pair (.int .i64) (.pair (.pair (.int .i64) (.pair (.int .i64) .unit)) .unit)))))), (0, .v (.int .i64)), (0, .v (.int .i64))]) (m := 75) (g := porterref13_braces_g2 N) [0, 8, 4, 7, 6, 9, 10] (evN_sound hb N (porterref13_braces_t2 N) porterref13_braces_L porterref13_braces_body TabOk.nil [0, 0, 1, 1, 1, 1] _ rfl) (fun x K => by kernel_rfl)

noncomputable def porterref13_braces_p1 (N : Nat) (s : (List UInt8)) (n : (Int × ((List Int) × ((List Tree) × (Int × (Int × Unit)))))) (x6 : ((Int × ((List Int) × ((List Tree) × (Int × (Int × Unit))))) × ((List Int) × (Bool × (Int × ((Int × (Int × Unit)) × Unit)))))) (low : Int) (x8 : ((Int × ((List Int) × ((List Tree) × (Int × (Int × Unit))))) × ((List Int) × (Bool × (Int × ((Int × (Int × Unit)) × Unit)))))) (high : Int) (from_ : Int) (k0 : ((Int × ((List Int) × ((List Tree) × (Int × (Int × Unit))))) × ((List Int) × (Bool × (Int × ((Int × (Int × Unit)) × Unit))))) → Option ((Int × ((List Int) × ((List Tree) × (Int × (Int × Unit))))) × ((List Int) × (Bool × (Int × ((Int × (Int × Unit)) × Unit)))))) (k1 : Option ((Int × ((List Int) × ((List Tree) × (Int × (Int × Unit))))) × ((List Int) × (Bool × (Int × ((Int × (Int × Unit)) × Unit)))))) : Option ((Int × ((List Int) × ((List Tree) × (Int × (Int × Unit))))) × ((List Int) × (Bool × (Int × ((Int × (Int × Unit)) × Unit))))) :=
 porterref13_braces_p2 N s n x6 low x8 high from_
 (fun x36 => cond x36
 (k0 (((4 : Int), (([(0 : Int), (0 : Int), (0 : Int), (0 : Int)] : List Int), ((List.map Go.Lift.foN ([n] : List (Int × ((List Int) × ((List Go.Lift.Tree) × (Int × (Int × Unit))))))), (low, ((-(1 : Int)), ()))))), (([(0 : Int), (0 : Int), (0 : Int), (0 : Int)] : List Int), (false, ((Go.IntKind.wrap Go.IntKind.i64 (x8.2.2.2.1 + (2 : Int))), (((0 : Int), ((0 : Int), ())), ()))))))
 (k1))

end Go.Proofs.YtbfmhambfonpcaaDoorLg
