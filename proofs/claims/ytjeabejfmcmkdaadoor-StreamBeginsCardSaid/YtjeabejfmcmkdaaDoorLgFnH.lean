/- The functions of the seat, as plain functions, and what their calls do. Printed by a program of mine; checked here. -/
import Derived.Test.YtjeabejfmcmkdaaDoorLgFnH1
set_option linter.all false
set_option maxRecDepth 100000
namespace Go.Proofs.YtjeabejfmcmkdaaDoorLg
open Go Go.Lift

theorem porterref04_Texts_ct (N : Nat) : Contract Go.Proofs.Tryd.prog glob 41 (porterref04_Texts_res N) :=
  Contract.of (E := porterref04_Texts_E N) (H := porterref04_Texts_t N) (L := porterref04_Texts_L) (N := N) (body := porterref04_Texts_body) (K := (kRes (.row .str) 2)) (porterref04_Texts_Eok N) Go.Proofs.Tryd.func41 (by kernel_rfl) (by decide) (fun _ hb => TabOk.nil) (fun x y h => by rw [porterref04_Texts_link]; exact h) (kRes_ok (s := (.row .str)) (m := 2))

abbrev porterref04_Sum_R : Type := (List UInt8)

noncomputable def porterref04_Sum_body : Code := (Go.Proofs.Tryd.f31.body).getD .skip

noncomputable def porterref04_Sum_L : List (List Nat × List Nat) := [([0], [0, 1]), ([0, 1], [5]), ([0, 1, 1], [4]), ([1, 1, 1], [4])]

noncomputable def porterref04_Sum_E (N : Nat) : Env := mkEnv tys glob [(41, porterref04_Texts_res N), (15, porterref03_Sum_res N)] [] [] [] false [] [(79, hmac_split1_itr N)]

theorem porterref04_Sum_Eok (N : Nat) : EnvOk Go.Proofs.Tryd.prog (porterref04_Sum_E N) := mkEnv_ok mixed tys_ok (FnsOk.cons (porterref04_Texts_ct N) (FnsOk.cons (porterref03_Sum_ct N) (FnsOk.nil))) (ItsOk.cons (hmac_split1_it N) (ItsOk.nil))

noncomputable def porterref04_Sum (N : Nat) (k : (List UInt8)) (text : (List UInt8)) : Option (List UInt8) :=
  (porterref04_Texts N k text).bind fun y =>
  cond (Go.Lift.inR (1 : Int) (List.length y))
  ((porterref03_Sum N (List.getD y 1 ([] : List UInt8))).bind fun y1 =>
    some y1)
  (none)

noncomputable def porterref04_Sum_t (N : Nat) : Tab (List UInt8) := []

theorem porterref04_Sum_link (N : Nat) (x : denS [(0, .v .str), (0, .v .str)]) : evFX (porterref04_Sum_E N) N (porterref04_Sum_t N) porterref04_Sum_L Go.Proofs.Tryd.f31 (mkS [(0, .v .str), (0, .v .str)] 0 x) (kRes (.v .str) 2) = porterref04_Sum N x.1 x.2.1 := by kernel_rfl

noncomputable def porterref04_Sum_res (N : Nat) : List A → Res := resOf [(0, .v .str), (0, .v .str)] (fun x => porterref04_Sum N x.1 x.2.1) (oRes (.v .str) 2)

theorem porterref04_Sum_ct (N : Nat) : Contract Go.Proofs.Tryd.prog glob 31 (porterref04_Sum_res N) :=
  Contract.of (E := porterref04_Sum_E N) (H := porterref04_Sum_t N) (L := porterref04_Sum_L) (N := N) (body := porterref04_Sum_body) (K := (kRes (.v .str) 2)) (porterref04_Sum_Eok N) Go.Proofs.Tryd.func31 (by kernel_rfl) (by decide) (fun _ hb => TabOk.nil) (fun x y h => by rw [porterref04_Sum_link]; exact h) (kRes_ok (s := (.v .str)) (m := 2))

abbrev hmac_length_R : Type := (List UInt8)

noncomputable def hmac_length_body : Code := (Go.Proofs.Tryd.f77.body).getD .skip

noncomputable def hmac_length_L : List (List Nat × List Nat) := [([0], [0]), ([0, 1], [3, 0]), ([0, 0, 1, 1], [6, 3, 0]), ([0, 1, 0, 1, 1], [6, 3, 0]), ([0, 0, 0, 1, 0, 1, 1], [7, 6, 3, 0]), ([0, 1, 0, 0, 1, 0, 1, 1], [6, 3, 0]), ([1, 0, 1, 0, 0, 1, 0, 1, 1], [3]), ([0, 0, 0, 1, 1, 0, 0, 1, 0, 1, 1], [3, 4, 0, 6]), ([1, 0, 0, 1, 1, 0, 0, 1, 0, 1, 1], [6, 3, 0]), ([0, 1, 1, 0, 0, 1, 0, 1, 1], [6, 3, 0]), ([1, 1, 1, 0, 0, 1, 0, 1, 1], [6, 3, 0]), ([1, 0, 1, 1], [3]), ([0, 1, 1, 1], [2]), ([1, 1, 1, 1], [2])]

noncomputable def hmac_length_E (N : Nat) : Env := mkEnv tys glob [] [(3, (.int .u8))] [] [] false [] [(79, hmac_split1_itr N)]

theorem hmac_length_Eok (N : Nat) : EnvOk Go.Proofs.Tryd.prog (hmac_length_E N) := mkEnv_ok mixed tys_ok (FnsOk.nil) (ItsOk.cons (hmac_split1_it N) (ItsOk.nil))

noncomputable def hmac_length_s1 (N : Nat) (s : (List UInt8)) (out : (List Int)) (x6 : Int) (rec : (List Int) → Int → Option (List UInt8)) (k0 : (List Int) → Option (List UInt8)) : Option (List UInt8) :=
  cond (decide (x6 < (8 : Int)))
  (cond (decide ((0 : Int) ≤ (Go.IntKind.wrap Go.IntKind.i64 ((8 : Int) * (Go.IntKind.wrap Go.IntKind.i64 ((7 : Int) - x6))))))
    (cond (Go.Lift.inR x6 (List.length out))
      (cond (decide ((Int.toNat x6) < (List.length out)))
        (rec (List.set out (Int.toNat x6) (Go.IntKind.wrap Go.IntKind.u8 (Go.Lift.shrI Go.IntKind.u64 (Go.IntKind.wrap Go.IntKind.u64 (((List.length s) : Nat) : Int)) (Go.IntKind.wrap Go.IntKind.i64 ((8 : Int) * (Go.IntKind.wrap Go.IntKind.i64 ((7 : Int) - x6))))))) (Go.IntKind.wrap Go.IntKind.i64 (x6 + (1 : Int))))
        (none))
      (none))
    (none))
  (k0 out)

noncomputable def hmac_length_p1 (N : Nat) (s : (List UInt8)) (out : (List Int)) (x6 : Int) (k0 : (List Int) → Option (List UInt8)) : Option (List UInt8) :=
  iter (fun (v : ((List Int) × Int)) r => hmac_length_s1 N s v.1 v.2 (fun out x6 => (r (out, x6))) k0) N (out, x6)

noncomputable def hmac_length_g1 (N : Nat) (i : (List UInt8)) (v : ((List Int) × Int)) (r : ((List Int) × Int) → Option (List UInt8)) (K : Ex → List A → Option (List UInt8)) : Option (List UInt8) :=
  hmac_length_s1 N i v.1 v.2 (fun out x6 => (r (out, x6))) (fun a0 => (K (.exit 0) (mkS [(3, .row (.int .u8))] 19 (a0, ()))))

noncomputable def hmac_length_h1 (N : Nat) : Hd (List UInt8) := fun st K => (unS [(0, .v .str), (2, .row (.int .u8)), (2, .v (.int .i64))] 16 (restr [6, 3, 0] 0 st)).bind fun x => iter (fun v r => hmac_length_g1 N ((fun x => x.1) x) v r K) N ((fun x => (x.2.1, x.2.2.1)) x)

noncomputable def hmac_length_t1 (N : Nat) : Tab (List UInt8) := []

theorem hmac_length_ok1 {N : Nat} {c : Ctx} (hb : Base Go.Proofs.Tryd.prog (hmac_length_E N) c) : CodeOk Go.Proofs.Tryd.prog c (nodeAt hmac_length_body [0, 1, 0, 1, 1]) (hmac_length_h1 N) :=
  loop_ok (s := [(0, .v .str), (2, .row (.int .u8)), (2, .v (.int .i64))]) (m := 16) (hmac_length_g1 N) [6, 3, 0] N (fun x => x.1) (fun x => (x.2.1, x.2.2.1)) (fun i v => (i, v.1, v.2, ())) (fun _ => rfl) (evN_sound hb N (hmac_length_t1 N) hmac_length_L hmac_length_body TabOk.nil [0, 0, 1, 0, 1, 1] _ rfl) (fun i v r K => by kernel_rfl)

noncomputable def hmac_length (N : Nat) (s : (List UInt8)) : Option (List UInt8) :=
  hmac_length_p1 N s ([(0 : Int), (0 : Int), (0 : Int), (0 : Int), (0 : Int), (0 : Int), (0 : Int), (0 : Int)] : List Int) (0 : Int)
  (fun out => some (Go.Lift.toStr out))

noncomputable def hmac_length_t (N : Nat) : Tab (List UInt8) := [([0, 1, 0, 1, 1], hmac_length_h1 N)]

theorem hmac_length_link (N : Nat) (x : denS [(0, .v .str)]) : evFX (hmac_length_E N) N (hmac_length_t N) hmac_length_L Go.Proofs.Tryd.f77 (mkS [(0, .v .str)] 0 x) (kRes (.v .str) 1) = hmac_length N x.1 := by kernel_rfl

noncomputable def hmac_length_res (N : Nat) : List A → Res := resOf [(0, .v .str)] (fun x => hmac_length N x.1) (oRes (.v .str) 1)

theorem hmac_length_ct (N : Nat) : Contract Go.Proofs.Tryd.prog glob 77 (hmac_length_res N) :=
  Contract.of (E := hmac_length_E N) (H := hmac_length_t N) (L := hmac_length_L) (N := N) (body := hmac_length_body) (K := (kRes (.v .str) 1)) (hmac_length_Eok N) Go.Proofs.Tryd.func77 (by kernel_rfl) (by decide) (fun _ hb => (TabOk.cons (hmac_length_ok1 hb) TabOk.nil)) (fun x y h => by rw [hmac_length_link]; exact h) (kRes_ok (s := (.v .str)) (m := 1))

abbrev hmac_framed1_R : Type := (List ((List UInt8) × Unit))

noncomputable def hmac_framed1_body : Code := (Go.Proofs.Tryd.f76.body).getD .skip

noncomputable def hmac_framed1_L : List (List Nat × List Nat) := [([0], [7, 6, 5, 0]), ([0, 1], [7, 6, 5, 0]), ([0, 0, 0, 1], [8, 5, 7, 0, 6]), ([0, 1, 0, 0, 1], [5, 7, 0, 6]), ([1, 0, 1, 0, 0, 1], [0]), ([0, 0, 0, 1, 1, 0, 0, 1], [0, 4, 7, 6, 5]), ([0, 1, 0, 0, 1, 1, 0, 0, 1], [21, 0, 7, 6, 5]), ([1, 1, 0, 0, 1, 1, 0, 0, 1], [7, 6, 5, 0]), ([0, 1, 1, 0, 0, 1, 1, 0, 0, 1], [0]), ([0, 1, 1, 0, 0, 1], [7, 6, 5, 0]), ([1, 1, 1, 0, 0, 1], [7, 6, 5, 0]), ([1], [0])]

noncomputable def hmac_framed1_E (N : Nat) : Env := mkEnv tys glob [(77, hmac_length_res N)] [] [] [0] false [] []

theorem hmac_framed1_Eok (N : Nat) : EnvOk Go.Proofs.Tryd.prog (hmac_framed1_E N) := mkEnv_ok mixed tys_ok (FnsOk.cons (hmac_length_ct N) (FnsOk.nil)) ItsOk.nil

noncomputable def hmac_framed1_s1 (N : Nat) (x5 : (List (List UInt8))) (x6 : Int) (x7 : Int) (rec : Int → Option (List ((List UInt8) × Unit))) (k0 : Option (List ((List UInt8) × Unit))) (k1 : Option (List ((List UInt8) × Unit))) : Option (List ((List UInt8) × Unit)) :=
  cond (decide (x7 < x6))
  (cond (Go.Lift.inR x7 (List.length x5))
    ((hmac_length N (List.getD x5 (Int.toNat x7) ([] : List UInt8))).bind fun y =>
      comb (y, ())
      (comb ((List.getD x5 (Int.toNat x7) ([] : List UInt8)), ())
        (rec (Go.IntKind.wrap Go.IntKind.i64 (x7 + (1 : Int))))
        (k0))
      (k0))
    (none))
  (k1)

noncomputable def hmac_framed1_p1 (N : Nat) (x5 : (List (List UInt8))) (x6 : Int) (x7 : Int) (k0 : Option (List ((List UInt8) × Unit))) (k1 : Option (List ((List UInt8) × Unit))) : Option (List ((List UInt8) × Unit)) :=
  iter (fun (v : Int) r => hmac_framed1_s1 N x5 x6 v (fun x7 => (r x7)) k0 k1) N x7

noncomputable def hmac_framed1_g1 (N : Nat) (i : ((List (List UInt8)) × Int)) (v : Int) (r : Int → Option (List ((List UInt8) × Unit))) (K : Ex → List A → Option (List ((List UInt8) × Unit))) : Option (List ((List UInt8) × Unit)) :=
  hmac_framed1_s1 N i.1 i.2 v (fun x7 => (r x7)) (K .ret (mkS [(0, .yld)] 22 ((), ()))) (K (.exit 0) (mkS [(0, .yld)] 22 ((), ())))

noncomputable def hmac_framed1_h1 (N : Nat) : Hd (List ((List UInt8) × Unit)) := fun st K => (unS [(0, .yld), (4, .v (.sl .str)), (0, .v (.int .i64)), (0, .v (.int .i64))] 15 (restr [7, 6, 5, 0] 0 st)).bind fun x => iter (fun v r => hmac_framed1_g1 N ((fun x => (x.2.1, x.2.2.1)) x) v r K) N ((fun x => x.2.2.2.1) x)

noncomputable def hmac_framed1_t1 (N : Nat) : Tab (List ((List UInt8) × Unit)) := []

theorem hmac_framed1_ok1 {N : Nat} {G : GY [.str]} (hG : RestrOk G) (hev : EvOk G Go.Proofs.Tryd.prog (hmac_framed1_E N) N hmac_framed1_L hmac_framed1_body) : YOk G Go.Proofs.Tryd.prog (nodeAt hmac_framed1_body [0, 1]) (hmac_framed1_h1 N) :=
  loopY_ok hG (s := [(0, .yld), (4, .v (.sl .str)), (0, .v (.int .i64)), (0, .v (.int .i64))]) (m := 15) (hmac_framed1_g1 N) [7, 6, 5, 0] N (fun x => (x.2.1, x.2.2.1)) (fun x => x.2.2.2.1) (fun i v => ((), i.1, i.2, v, ())) (fun _ => rfl) (hev (hmac_framed1_t1 N) TabOkY.nil [0, 0, 1]) (fun i v r K => by kernel_rfl)

noncomputable def hmac_framed1 (N : Nat) (x1 : (List (List UInt8))) : Option (List ((List UInt8) × Unit)) :=
  hmac_framed1_p1 N x1 (((List.length x1) : Nat) : Int) (0 : Int)
  (some ([] : List ((List UInt8) × Unit)))
  (some ([] : List ((List UInt8) × Unit)))

noncomputable def hmac_framed1_t (N : Nat) : Tab (List ((List UInt8) × Unit)) := [([0, 1], hmac_framed1_h1 N)]

theorem hmac_framed1_link (N : Nat) (x : T.den (.pair (.ptr (.sl .str)) .unit)) : evYX (hmac_framed1_E N) [.str] comb N (hmac_framed1_t N) hmac_framed1_L Go.Proofs.Tryd.f76 [.v (.ptr (.sl .str)) x.1] = hmac_framed1 N x.1 := by kernel_rfl

noncomputable def hmac_framed1_itr (N : Nat) : Dat → ItRes := itRes (ts := [.str]) (.pair (.ptr (.sl .str)) .unit) (fun x => hmac_framed1 N x.1)

theorem hmac_framed1_it (N : Nat) : ItOk Go.Proofs.Tryd.prog glob 76 (hmac_framed1_itr N) := ItOk.of (ts := [.str]) (E := hmac_framed1_E N) (H := hmac_framed1_t N) (L := hmac_framed1_L) (N := N) (body := hmac_framed1_body) (hmac_framed1_Eok N) rfl Go.Proofs.Tryd.func76 (by kernel_rfl) (by decide) (fun G hG hev => (TabOkY.cons (hmac_framed1_ok1 hG hev) TabOkY.nil)) (fun x y h => ⟨_, rfl, by rw [hmac_framed1_link]; exact h⟩)

abbrev hmac_framed_R : Type := ((List (List UInt8)) × Unit)

noncomputable def hmac_framed_body : Code := (Go.Proofs.Tryd.f60.body).getD .skip

noncomputable def hmac_framed_L : List (List Nat × List Nat) := [([0], [1]), ([0, 1], [2]), ([1, 1], [2])]

noncomputable def hmac_framed_E (N : Nat) : Env := mkEnv tys glob [] [] [] [] false [] [(76, hmac_framed1_itr N), (79, hmac_split1_itr N)]

theorem hmac_framed_Eok (N : Nat) : EnvOk Go.Proofs.Tryd.prog (hmac_framed_E N) := mkEnv_ok mixed tys_ok (FnsOk.nil) (ItsOk.cons (hmac_framed1_it N) (ItsOk.cons (hmac_split1_it N) (ItsOk.nil)))

noncomputable def hmac_framed (N : Nat) (parts : (List (List UInt8))) : Option ((List (List UInt8)) × Unit) :=
  some (parts, ())

noncomputable def hmac_framed_t (N : Nat) : Tab ((List (List UInt8)) × Unit) := []

theorem hmac_framed_link (N : Nat) (x : denS [(0, .v (.sl .str))]) : evFX (hmac_framed_E N) N (hmac_framed_t N) hmac_framed_L Go.Proofs.Tryd.f60 (mkS [(0, .v (.sl .str))] 0 x) (kRes (.v (.fn 76 (.pair (.ptr (.sl .str)) .unit))) 1) = hmac_framed N x.1 := by kernel_rfl

noncomputable def hmac_framed_res (N : Nat) : List A → Res := resOf [(0, .v (.sl .str))] (fun x => hmac_framed N x.1) (oRes (.v (.fn 76 (.pair (.ptr (.sl .str)) .unit))) 1)

theorem hmac_framed_ct (N : Nat) : Contract Go.Proofs.Tryd.prog glob 60 (hmac_framed_res N) :=
  Contract.of (E := hmac_framed_E N) (H := hmac_framed_t N) (L := hmac_framed_L) (N := N) (body := hmac_framed_body) (K := (kRes (.v (.fn 76 (.pair (.ptr (.sl .str)) .unit))) 1)) (hmac_framed_Eok N) Go.Proofs.Tryd.func60 (by kernel_rfl) (by decide) (fun _ hb => TabOk.nil) (fun x y h => by rw [hmac_framed_link]; exact h) (kRes_ok (s := (.v (.fn 76 (.pair (.ptr (.sl .str)) .unit)))) (m := 1))

abbrev hmac_Frame_R : Type := (List UInt8)

noncomputable def hmac_Frame_body : Code := (Go.Proofs.Tryd.f35.body).getD .skip

noncomputable def hmac_Frame_L : List (List Nat × List Nat) := [([0], [0]), ([0, 1], [0, 3]), ([0, 0, 1, 1], [6, 3]), ([0, 1, 0, 1, 1], [3]), ([0, 0, 1, 0, 1, 1], [4, 3]), ([0, 1, 0, 1, 0, 1, 1], [3]), ([1, 0, 1, 0, 1, 1], [3]), ([1, 0, 1, 1], [3]), ([0, 1, 1, 1], [2]), ([1, 1, 1, 1], [2])]

noncomputable def hmac_Frame_E (N : Nat) : Env := mkEnv tys glob [(60, hmac_framed_res N), (61, strings_Builder_WriteString_res N), (62, str_res)] [] [] [] false [(3, (.pair (.self 77) (.pair (.own (.byt 5)) .unit)))] [(76, hmac_framed1_itr N), (79, hmac_split1_itr N)]

theorem hmac_Frame_Eok (N : Nat) : EnvOk Go.Proofs.Tryd.prog (hmac_Frame_E N) := mkEnv_ok mixed tys_ok (FnsOk.cons (hmac_framed_ct N) (FnsOk.cons (strings_Builder_WriteString_ct N) (FnsOk.cons (str_ct glob) (FnsOk.nil)))) (ItsOk.cons (hmac_framed1_it N) (ItsOk.cons (hmac_split1_it N) (ItsOk.nil)))

noncomputable def hmac_Frame_s1 (N : Nat) (out_1 : (Unit × ((List Int) × Unit))) (y : ((List UInt8) × Unit)) (rec : (Unit × ((List Int) × Unit)) → Option (List UInt8)) (k0 : (Unit × ((List Int) × Unit)) → Option (List UInt8)) : Option (List UInt8) :=
  (strings_Builder_WriteString N out_1 y.1).bind fun y1 =>
  rec y1.2.1

noncomputable def hmac_Frame_fit1 (N : Nat) (out : (Unit × ((List Int) × Unit))) (x6 : ((List (List UInt8)) × Unit)) : Option (List ((List UInt8) × Unit)) := (hmac_framed1 N x6.1)

noncomputable def hmac_Frame_i1 (N : Nat) (out : (Unit × ((List Int) × Unit))) (x6 : ((List (List UInt8)) × Unit)) : Unit := ()

noncomputable def hmac_Frame_v1 (N : Nat) (out : (Unit × ((List Int) × Unit))) (x6 : ((List (List UInt8)) × Unit)) : (Unit × ((List Int) × Unit)) := out

noncomputable def hmac_Frame_p1 (N : Nat) (out : (Unit × ((List Int) × Unit))) (x6 : ((List (List UInt8)) × Unit)) (k0 : (Unit × ((List Int) × Unit)) → Option (List UInt8)) : Option (List UInt8) :=
  (hmac_Frame_fit1 N out x6).bind fun ys => iterL (fun (y : ((List UInt8) × Unit)) (v : (Unit × ((List Int) × Unit))) r => hmac_Frame_s1 N v y (fun out_1 => (r out_1)) k0) (fun (v : (Unit × ((List Int) × Unit))) => k0 v) ys out

noncomputable def hmac_Frame_g1 (N : Nat) (y : ((List UInt8) × Unit)) (i : Unit) (v : (Unit × ((List Int) × Unit))) (r : (Unit × ((List Int) × Unit)) → Option (List UInt8)) (K : Ex → List A → Option (List UInt8)) : Option (List UInt8) :=
  hmac_Frame_s1 N v y (fun out_1 => (r out_1)) (fun a0 => (K .normal (mkS [(3, .box (.pair (.self 77) (.pair (.own (.byt 5)) .unit)))] 7 (a0, ()))))

noncomputable def hmac_Frame_h1 (N : Nat) : Hd (List UInt8) := fun st K => (unS [(3, .box (.pair (.self 77) (.pair (.own (.byt 5)) .unit))), (2, .v (.fn 76 (.pair (.ptr (.sl .str)) .unit)))] 4 (restr [6, 3] 0 st)).bind fun x => ((fun x => hmac_Frame_fit1 N x.1 x.2.1) x).bind fun xs => iterL (fun y v r => hmac_Frame_g1 N y ((fun x => hmac_Frame_i1 N x.1 x.2.1) x) v r K) (fun v => K .normal (mkS [(3, .box (.pair (.self 77) (.pair (.own (.byt 5)) .unit)))] 7 ((fun i v => (v, ())) ((fun x => hmac_Frame_i1 N x.1 x.2.1) x) v))) xs ((fun x => hmac_Frame_v1 N x.1 x.2.1) x)

noncomputable def hmac_Frame_t1 (N : Nat) : Tab (List UInt8) := []

theorem hmac_Frame_ok1 {N : Nat} {c : Ctx} (hb : Base Go.Proofs.Tryd.prog (hmac_Frame_E N) c) : CodeOk Go.Proofs.Tryd.prog c (nodeAt hmac_Frame_body [0, 1, 0, 1, 1]) (hmac_Frame_h1 N) :=
  rf_ok (ts := [.str]) (s := [(3, .box (.pair (.self 77) (.pair (.own (.byt 5)) .unit))), (2, .v (.fn 76 (.pair (.ptr (.sl .str)) .unit)))]) (m := 4) (s2 := [(3, .box (.pair (.self 77) (.pair (.own (.byt 5)) .unit)))]) (m2 := 7) [6, 3] (fun x => hmac_Frame_fit1 N x.1 x.2.1) (fun x => hmac_Frame_i1 N x.1 x.2.1) (fun x => hmac_Frame_v1 N x.1 x.2.1) (fun i v => (v, ())) (rfF (hmac_Frame_E N) N [.str] (nodeAt hmac_Frame_body [0, 1, 0, 1, 1])) (hmac_Frame_g1 N) (evN_sound hb N [] hmac_Frame_L hmac_Frame_body TabOk.nil [0, 1, 0, 1, 1] _ rfl) (fun x K => by kernel_rfl) (fun y i v r K => by kernel_rfl)

noncomputable def hmac_Frame (N : Nat) (parts : (List (List UInt8))) : Option (List UInt8) :=
  hmac_Frame_p1 N ((), (([] : List Int), ())) (parts, ())
  (fun out_1 => (str_F (out_1, ())).bind fun y =>
    some y.1)

noncomputable def hmac_Frame_t (N : Nat) : Tab (List UInt8) := [([0, 1, 0, 1, 1], hmac_Frame_h1 N)]

theorem hmac_Frame_link (N : Nat) (x : denS [(0, .v (.sl .str))]) : evFX (hmac_Frame_E N) N (hmac_Frame_t N) hmac_Frame_L Go.Proofs.Tryd.f35 (mkS [(0, .v (.sl .str))] 0 x) (kRes (.v .str) 1) = hmac_Frame N x.1 := by kernel_rfl

noncomputable def hmac_Frame_res (N : Nat) : List A → Res := resOf [(0, .v (.sl .str))] (fun x => hmac_Frame N x.1) (oRes (.v .str) 1)

theorem hmac_Frame_ct (N : Nat) : Contract Go.Proofs.Tryd.prog glob 35 (hmac_Frame_res N) :=
  Contract.of (E := hmac_Frame_E N) (H := hmac_Frame_t N) (L := hmac_Frame_L) (N := N) (body := hmac_Frame_body) (K := (kRes (.v .str) 1)) (hmac_Frame_Eok N) Go.Proofs.Tryd.func35 (by kernel_rfl) (by decide) (fun _ hb => (TabOk.cons (hmac_Frame_ok1 hb) TabOk.nil)) (fun x y h => by rw [hmac_Frame_link]; exact h) (kRes_ok (s := (.v .str)) (m := 1))

abbrev hmac_Parts_R : Type := (List UInt8)

noncomputable def hmac_Parts_body : Code := (Go.Proofs.Tryd.f32.body).getD .skip

noncomputable def hmac_Parts_L : List (List Nat × List Nat) := [([0], [0, 1]), ([0, 1], [4]), ([1, 1], [4])]

noncomputable def hmac_Parts_E (N : Nat) : Env := mkEnv tys glob [(35, hmac_Frame_res N), (30, hmac_Sum_res N)] [] [] [] false [] [(76, hmac_framed1_itr N), (79, hmac_split1_itr N)]

theorem hmac_Parts_Eok (N : Nat) : EnvOk Go.Proofs.Tryd.prog (hmac_Parts_E N) := mkEnv_ok mixed tys_ok (FnsOk.cons (hmac_Frame_ct N) (FnsOk.cons (hmac_Sum_ct N) (FnsOk.nil))) (ItsOk.cons (hmac_framed1_it N) (ItsOk.cons (hmac_split1_it N) (ItsOk.nil)))

noncomputable def hmac_Parts (N : Nat) (key : (List UInt8)) (parts : (List (List UInt8))) : Option (List UInt8) :=
  (hmac_Frame N parts).bind fun y =>
  (hmac_Sum N key y).bind fun y1 =>
  some y1

noncomputable def hmac_Parts_t (N : Nat) : Tab (List UInt8) := []

theorem hmac_Parts_link (N : Nat) (x : denS [(0, .v .str), (0, .v (.sl .str))]) : evFX (hmac_Parts_E N) N (hmac_Parts_t N) hmac_Parts_L Go.Proofs.Tryd.f32 (mkS [(0, .v .str), (0, .v (.sl .str))] 0 x) (kRes (.v .str) 2) = hmac_Parts N x.1 x.2.1 := by kernel_rfl

noncomputable def hmac_Parts_res (N : Nat) : List A → Res := resOf [(0, .v .str), (0, .v (.sl .str))] (fun x => hmac_Parts N x.1 x.2.1) (oRes (.v .str) 2)

theorem hmac_Parts_ct (N : Nat) : Contract Go.Proofs.Tryd.prog glob 32 (hmac_Parts_res N) :=
  Contract.of (E := hmac_Parts_E N) (H := hmac_Parts_t N) (L := hmac_Parts_L) (N := N) (body := hmac_Parts_body) (K := (kRes (.v .str) 2)) (hmac_Parts_Eok N) Go.Proofs.Tryd.func32 (by kernel_rfl) (by decide) (fun _ hb => TabOk.nil) (fun x y h => by rw [hmac_Parts_link]; exact h) (kRes_ok (s := (.v .str)) (m := 2))

abbrev porterref04_long_R : Type := (List UInt8)

noncomputable def porterref04_long_body : Code := (Go.Proofs.Tryd.f64.body).getD .skip

noncomputable def porterref04_long_L : List (List Nat × List Nat) := [([0], [0]), ([0, 1], [0, 3]), ([0, 0, 1, 1], [4, 0, 3]), ([0, 1, 0, 1, 1], [4, 0, 3]), ([0, 0, 0, 0, 1, 0, 1, 1], [6, 0, 3, 4]), ([1, 0, 0, 0, 1, 0, 1, 1], [0, 3, 4]), ([1, 1, 0, 0, 0, 1, 0, 1, 1], [3]), ([0, 0, 0, 1, 0, 0, 1, 0, 1, 1], [0, 4, 3]), ([1, 0, 0, 1, 0, 0, 1, 0, 1, 1], [4, 0, 3]), ([0, 1, 0, 0, 1, 0, 1, 1], [4, 0, 3]), ([1, 1, 0, 0, 1, 0, 1, 1], [4, 0, 3]), ([1, 0, 1, 1], [3]), ([0, 1, 1, 1], [2]), ([1, 1, 1, 1], [2])]

noncomputable def porterref04_long_E (N : Nat) : Env := mkEnv tys glob [(81, porterref02_Byte_res N)] [] [] [] false [] [(76, hmac_framed1_itr N), (79, hmac_split1_itr N)]

theorem porterref04_long_Eok (N : Nat) : EnvOk Go.Proofs.Tryd.prog (porterref04_long_E N) := mkEnv_ok mixed tys_ok (FnsOk.cons (porterref02_Byte_ct N) (FnsOk.nil)) (ItsOk.cons (hmac_framed1_it N) (ItsOk.cons (hmac_split1_it N) (ItsOk.nil)))

noncomputable def porterref04_long_s1 (N : Nat) (n : Int) (out : (List UInt8)) (i : Int) (rec : Int → (List UInt8) → Int → Option (List UInt8)) (k0 : (List UInt8) → Option (List UInt8)) : Option (List UInt8) :=
  cond (decide (i < (8 : Int)))
  (cond (decide (((List.length (Go.Lift.toStr ([(Go.IntKind.wrap Go.IntKind.u8 (Int.tmod n (256 : Int)))] : List Int))) + (List.length out)) ≤ 9223372036854775807))
    (rec (Go.IntKind.wrap Go.IntKind.i64 (Int.tdiv n (256 : Int))) ((Go.Lift.toStr ([(Go.IntKind.wrap Go.IntKind.u8 (Int.tmod n (256 : Int)))] : List Int)) ++ out) (Go.IntKind.wrap Go.IntKind.i64 (i + (1 : Int))))
    (none))
  (k0 out)

noncomputable def porterref04_long_p1 (N : Nat) (n : Int) (out : (List UInt8)) (i : Int) (k0 : (List UInt8) → Option (List UInt8)) : Option (List UInt8) :=
  iter (fun (v : (Int × (List UInt8) × Int)) r => porterref04_long_s1 N v.1 v.2.1 v.2.2 (fun n out i => (r (n, out, i))) k0) N (n, out, i)

noncomputable def porterref04_long_g1 (N : Nat) (i : Unit) (v : (Int × (List UInt8) × Int)) (r : (Int × (List UInt8) × Int) → Option (List UInt8)) (K : Ex → List A → Option (List UInt8)) : Option (List UInt8) :=
  porterref04_long_s1 N v.1 v.2.1 v.2.2 (fun n out i => (r (n, out, i))) (fun a0 => (K (.exit 0) (mkS [(3, .v .str)] 13 (a0, ()))))

noncomputable def porterref04_long_h1 (N : Nat) : Hd (List UInt8) := fun st K => (unS [(0, .v (.int .i64)), (2, .v .str), (0, .v (.int .i64))] 12 (restr [4, 0, 3] 0 st)).bind fun x => iter (fun v r => porterref04_long_g1 N ((fun x => ()) x) v r K) N ((fun x => (x.1, x.2.1, x.2.2.1)) x)

noncomputable def porterref04_long_t1 (N : Nat) : Tab (List UInt8) := []

theorem porterref04_long_ok1 {N : Nat} {c : Ctx} (hb : Base Go.Proofs.Tryd.prog (porterref04_long_E N) c) : CodeOk Go.Proofs.Tryd.prog c (nodeAt porterref04_long_body [0, 1, 0, 1, 1]) (porterref04_long_h1 N) :=
  loop_ok (s := [(0, .v (.int .i64)), (2, .v .str), (0, .v (.int .i64))]) (m := 12) (porterref04_long_g1 N) [4, 0, 3] N (fun x => ()) (fun x => (x.1, x.2.1, x.2.2.1)) (fun i v => (v.1, v.2.1, v.2.2, ())) (fun _ => rfl) (evN_sound hb N (porterref04_long_t1 N) porterref04_long_L porterref04_long_body TabOk.nil [0, 0, 1, 0, 1, 1] _ rfl) (fun i v r K => by kernel_rfl)

noncomputable def porterref04_long (N : Nat) (n : Int) : Option (List UInt8) :=
  porterref04_long_p1 N n ([] : List UInt8) (0 : Int)
  (fun out => some out)

noncomputable def porterref04_long_t (N : Nat) : Tab (List UInt8) := [([0, 1, 0, 1, 1], porterref04_long_h1 N)]

theorem porterref04_long_link (N : Nat) (x : denS [(0, .v (.int .i64))]) : evFX (porterref04_long_E N) N (porterref04_long_t N) porterref04_long_L Go.Proofs.Tryd.f64 (mkS [(0, .v (.int .i64))] 0 x) (kRes (.v .str) 1) = porterref04_long N x.1 := by kernel_rfl

noncomputable def porterref04_long_res (N : Nat) : List A → Res := resOf [(0, .v (.int .i64))] (fun x => porterref04_long N x.1) (oRes (.v .str) 1)

theorem porterref04_long_ct (N : Nat) : Contract Go.Proofs.Tryd.prog glob 64 (porterref04_long_res N) :=
  Contract.of (E := porterref04_long_E N) (H := porterref04_long_t N) (L := porterref04_long_L) (N := N) (body := porterref04_long_body) (K := (kRes (.v .str) 1)) (porterref04_long_Eok N) Go.Proofs.Tryd.func64 (by kernel_rfl) (by decide) (fun _ hb => (TabOk.cons (porterref04_long_ok1 hb) TabOk.nil)) (fun x y h => by rw [porterref04_long_link]; exact h) (kRes_ok (s := (.v .str)) (m := 1))

abbrev porterref04_Frame_R : Type := (List UInt8)

noncomputable def porterref04_Frame_body : Code := (Go.Proofs.Tryd.f38.body).getD .skip

noncomputable def porterref04_Frame_L : List (List Nat × List Nat) := [([0], [0]), ([0, 1], [0, 3]), ([0, 0, 1, 1], [4, 0, 3]), ([0, 1, 0, 1, 1], [4, 0, 3]), ([0, 0, 0, 0, 1, 0, 1, 1], [8, 3, 0, 4]), ([1, 0, 0, 0, 1, 0, 1, 1], [3, 0, 4]), ([1, 1, 0, 0, 0, 1, 0, 1, 1], [3]), ([0, 0, 1, 0, 0, 1, 0, 1, 1], [4, 0, 3]), ([0, 1, 0, 0, 1, 0, 1, 1], [4, 0, 3]), ([1, 1, 0, 0, 1, 0, 1, 1], [4, 0, 3]), ([1, 0, 1, 1], [3]), ([0, 1, 1, 1], [2]), ([1, 1, 1, 1], [2])]

noncomputable def porterref04_Frame_E (N : Nat) : Env := mkEnv tys glob [(64, porterref04_long_res N)] [] [] [] false [] [(76, hmac_framed1_itr N), (79, hmac_split1_itr N)]

theorem porterref04_Frame_Eok (N : Nat) : EnvOk Go.Proofs.Tryd.prog (porterref04_Frame_E N) := mkEnv_ok mixed tys_ok (FnsOk.cons (porterref04_long_ct N) (FnsOk.nil)) (ItsOk.cons (hmac_framed1_it N) (ItsOk.cons (hmac_split1_it N) (ItsOk.nil)))

noncomputable def porterref04_Frame_s1 (N : Nat) (l : (List (List UInt8))) (out : (List UInt8)) (i : Int) (rec : (List UInt8) → Int → Option (List UInt8)) (k0 : (List UInt8) → Option (List UInt8)) : Option (List UInt8) :=
  cond (decide (i < (((List.length l) : Nat) : Int)))
  (cond (Go.Lift.inR i (List.length l))
    ((porterref04_long N (((List.length (List.getD l (Int.toNat i) ([] : List UInt8))) : Nat) : Int)).bind fun y =>
      cond (decide (((List.length out) + (List.length y)) ≤ 9223372036854775807))
      (cond (Go.Lift.inR i (List.length l))
        (cond (decide (((List.length (out ++ y)) + (List.length (List.getD l (Int.toNat i) ([] : List UInt8)))) ≤ 9223372036854775807))
          (rec ((out ++ y) ++ (List.getD l (Int.toNat i) ([] : List UInt8))) (Go.IntKind.wrap Go.IntKind.i64 (i + (1 : Int))))
          (none))
        (none))
      (none))
    (none))
  (k0 out)

noncomputable def porterref04_Frame_p1 (N : Nat) (l : (List (List UInt8))) (out : (List UInt8)) (i : Int) (k0 : (List UInt8) → Option (List UInt8)) : Option (List UInt8) :=
  iter (fun (v : ((List UInt8) × Int)) r => porterref04_Frame_s1 N l v.1 v.2 (fun out i => (r (out, i))) k0) N (out, i)

noncomputable def porterref04_Frame_g1 (N : Nat) (i : (List (List UInt8))) (v : ((List UInt8) × Int)) (r : ((List UInt8) × Int) → Option (List UInt8)) (K : Ex → List A → Option (List UInt8)) : Option (List UInt8) :=
  porterref04_Frame_s1 N i v.1 v.2 (fun out i => (r (out, i))) (fun a0 => (K (.exit 0) (mkS [(3, .v .str)] 21 (a0, ()))))

noncomputable def porterref04_Frame_h1 (N : Nat) : Hd (List UInt8) := fun st K => (unS [(0, .v (.sl .str)), (2, .v .str), (0, .v (.int .i64))] 20 (restr [4, 0, 3] 0 st)).bind fun x => iter (fun v r => porterref04_Frame_g1 N ((fun x => x.1) x) v r K) N ((fun x => (x.2.1, x.2.2.1)) x)

noncomputable def porterref04_Frame_t1 (N : Nat) : Tab (List UInt8) := []

theorem porterref04_Frame_ok1 {N : Nat} {c : Ctx} (hb : Base Go.Proofs.Tryd.prog (porterref04_Frame_E N) c) : CodeOk Go.Proofs.Tryd.prog c (nodeAt porterref04_Frame_body [0, 1, 0, 1, 1]) (porterref04_Frame_h1 N) :=
  loop_ok (s := [(0, .v (.sl .str)), (2, .v .str), (0, .v (.int .i64))]) (m := 20) (porterref04_Frame_g1 N) [4, 0, 3] N (fun x => x.1) (fun x => (x.2.1, x.2.2.1)) (fun i v => (i, v.1, v.2, ())) (fun _ => rfl) (evN_sound hb N (porterref04_Frame_t1 N) porterref04_Frame_L porterref04_Frame_body TabOk.nil [0, 0, 1, 0, 1, 1] _ rfl) (fun i v r K => by kernel_rfl)

noncomputable def porterref04_Frame (N : Nat) (l : (List (List UInt8))) : Option (List UInt8) :=
  porterref04_Frame_p1 N l ([] : List UInt8) (0 : Int)
  (fun out => some out)

noncomputable def porterref04_Frame_t (N : Nat) : Tab (List UInt8) := [([0, 1, 0, 1, 1], porterref04_Frame_h1 N)]

theorem porterref04_Frame_link (N : Nat) (x : denS [(0, .v (.sl .str))]) : evFX (porterref04_Frame_E N) N (porterref04_Frame_t N) porterref04_Frame_L Go.Proofs.Tryd.f38 (mkS [(0, .v (.sl .str))] 0 x) (kRes (.v .str) 1) = porterref04_Frame N x.1 := by kernel_rfl

noncomputable def porterref04_Frame_res (N : Nat) : List A → Res := resOf [(0, .v (.sl .str))] (fun x => porterref04_Frame N x.1) (oRes (.v .str) 1)

theorem porterref04_Frame_ct (N : Nat) : Contract Go.Proofs.Tryd.prog glob 38 (porterref04_Frame_res N) :=
  Contract.of (E := porterref04_Frame_E N) (H := porterref04_Frame_t N) (L := porterref04_Frame_L) (N := N) (body := porterref04_Frame_body) (K := (kRes (.v .str) 1)) (porterref04_Frame_Eok N) Go.Proofs.Tryd.func38 (by kernel_rfl) (by decide) (fun _ hb => (TabOk.cons (porterref04_Frame_ok1 hb) TabOk.nil)) (fun x y h => by rw [porterref04_Frame_link]; exact h) (kRes_ok (s := (.v .str)) (m := 1))

abbrev porterref04_Parts_R : Type := (List UInt8)

noncomputable def porterref04_Parts_body : Code := (Go.Proofs.Tryd.f33.body).getD .skip

noncomputable def porterref04_Parts_L : List (List Nat × List Nat) := [([0], [0, 1]), ([0, 1], [4]), ([1, 1], [4])]

noncomputable def porterref04_Parts_E (N : Nat) : Env := mkEnv tys glob [(38, porterref04_Frame_res N), (31, porterref04_Sum_res N)] [] [] [] false [] [(76, hmac_framed1_itr N), (79, hmac_split1_itr N)]

theorem porterref04_Parts_Eok (N : Nat) : EnvOk Go.Proofs.Tryd.prog (porterref04_Parts_E N) := mkEnv_ok mixed tys_ok (FnsOk.cons (porterref04_Frame_ct N) (FnsOk.cons (porterref04_Sum_ct N) (FnsOk.nil))) (ItsOk.cons (hmac_framed1_it N) (ItsOk.cons (hmac_split1_it N) (ItsOk.nil)))

noncomputable def porterref04_Parts (N : Nat) (k : (List UInt8)) (l : (List (List UInt8))) : Option (List UInt8) :=
  (porterref04_Frame N l).bind fun y =>
  (porterref04_Sum N k y).bind fun y1 =>
  some y1

noncomputable def porterref04_Parts_t (N : Nat) : Tab (List UInt8) := []

theorem porterref04_Parts_link (N : Nat) (x : denS [(0, .v .str), (0, .v (.sl .str))]) : evFX (porterref04_Parts_E N) N (porterref04_Parts_t N) porterref04_Parts_L Go.Proofs.Tryd.f33 (mkS [(0, .v .str), (0, .v (.sl .str))] 0 x) (kRes (.v .str) 2) = porterref04_Parts N x.1 x.2.1 := by kernel_rfl

noncomputable def porterref04_Parts_res (N : Nat) : List A → Res := resOf [(0, .v .str), (0, .v (.sl .str))] (fun x => porterref04_Parts N x.1 x.2.1) (oRes (.v .str) 2)

theorem porterref04_Parts_ct (N : Nat) : Contract Go.Proofs.Tryd.prog glob 33 (porterref04_Parts_res N) :=
  Contract.of (E := porterref04_Parts_E N) (H := porterref04_Parts_t N) (L := porterref04_Parts_L) (N := N) (body := porterref04_Parts_body) (K := (kRes (.v .str) 2)) (porterref04_Parts_Eok N) Go.Proofs.Tryd.func33 (by kernel_rfl) (by decide) (fun _ hb => TabOk.nil) (fun x y h => by rw [porterref04_Parts_link]; exact h) (kRes_ok (s := (.v .str)) (m := 2))

abbrev porterlaw04_HmacSums_R : Type := Bool

noncomputable def porterlaw04_HmacSums_body : Code := (Go.Proofs.Tryd.f7.body).getD .skip

noncomputable def porterlaw04_HmacSums_L : List (List Nat × List Nat) := [([0], [0, 1, 2]), ([0, 0, 1], [20, 0, 1, 2]), ([1, 0, 1], [0, 1, 2]), ([0, 0, 1, 0, 1], [6]), ([1, 0, 1, 0, 1], [6]), ([0, 1, 1], [7, 0, 1, 2]), ([0, 1, 1, 1], [6]), ([1, 1, 1, 1], [6])]

noncomputable def porterlaw04_HmacSums_E (N : Nat) : Env := mkEnv tys glob [(33, porterref04_Parts_res N), (32, hmac_Parts_res N), (31, porterref04_Sum_res N), (29, porterlaw04_works_res N), (34, hmac_Same_res N), (30, hmac_Sum_res N), (28, porterbase_Short_res N)] [] [] [] false [] [(76, hmac_framed1_itr N), (79, hmac_split1_itr N)]

theorem porterlaw04_HmacSums_Eok (N : Nat) : EnvOk Go.Proofs.Tryd.prog (porterlaw04_HmacSums_E N) := mkEnv_ok mixed tys_ok (FnsOk.cons (porterref04_Parts_ct N) (FnsOk.cons (hmac_Parts_ct N) (FnsOk.cons (porterref04_Sum_ct N) (FnsOk.cons (porterlaw04_works_ct N) (FnsOk.cons (hmac_Same_ct N) (FnsOk.cons (hmac_Sum_ct N) (FnsOk.cons (porterbase_Short_ct N) (FnsOk.nil)))))))) (ItsOk.cons (hmac_framed1_it N) (ItsOk.cons (hmac_split1_it N) (ItsOk.nil)))

noncomputable def porterlaw04_HmacSums_p2 (N : Nat) (key : (List UInt8)) (text : (List UInt8)) (l : (List (List UInt8))) (k0 : Bool → Option Bool) : Option Bool :=
  cond (decide ((200 : Int) < (((List.length key) : Nat) : Int)))
  (k0 true)
  (cond (decide ((500 : Int) < (((List.length text) : Nat) : Int)))
    (k0 true)
    ((porterbase_Short N l (8 : Int) (300 : Int)).bind fun y =>
      k0 (!y)))

noncomputable def porterlaw04_HmacSums_g2 (N : Nat) (x : denS [(0, .v .str), (0, .v .str), (0, .v (.sl .str))]) (K : Ex → List A → Option Bool) : Option Bool :=
  porterlaw04_HmacSums_p2 N x.1 x.2.1 x.2.2.1 (fun a3 => (K .normal (mkS [(0, .v .str), (0, .v .str), (0, .v (.sl .str)), (17, .v .bool)] 40 (x.1, x.2.1, x.2.2.1, a3, ()))))

noncomputable def porterlaw04_HmacSums_h2 (N : Nat) : Hd Bool := fun st K => (unS [(0, .v .str), (0, .v .str), (0, .v (.sl .str))] 58 (restr [0, 1, 2] 0 st)).bind fun x => porterlaw04_HmacSums_g2 N x K

noncomputable def porterlaw04_HmacSums_t2 (N : Nat) : Tab Bool := []

theorem porterlaw04_HmacSums_ok2 {N : Nat} {c : Ctx} (hb : Base Go.Proofs.Tryd.prog (porterlaw04_HmacSums_E N) c) : CodeOk Go.Proofs.Tryd.prog c (nodeAt porterlaw04_HmacSums_body [0, 0, 1]) (porterlaw04_HmacSums_h2 N) :=
  piece_ok (s := [(0, .v .str), (0, .v .str), (0, .v (.sl .str))]) (m := 58) (g := porterlaw04_HmacSums_g2 N) [0, 1, 2] (evN_sound hb N (porterlaw04_HmacSums_t2 N) porterlaw04_HmacSums_L porterlaw04_HmacSums_body TabOk.nil [0, 0, 1] _ rfl) (fun x K => by kernel_rfl)

noncomputable def porterlaw04_HmacSums_p1 (N : Nat) (key : (List UInt8)) (text : (List UInt8)) (l : (List (List UInt8))) (k0 : Bool → Option Bool) (k1 : Option Bool) : Option Bool :=
  porterlaw04_HmacSums_p2 N key text l
  (fun x20 => cond x20
    ((porterlaw04_works N).bind fun y =>
      k0 y)
    (k1))

noncomputable def porterlaw04_HmacSums_g1 (N : Nat) (x : denS [(0, .v .str), (0, .v .str), (0, .v (.sl .str))]) (K : Ex → List A → Option Bool) : Option Bool :=
  porterlaw04_HmacSums_p1 N x.1 x.2.1 x.2.2.1 (fun a0 => (K .ret (mkS [(6, .v .bool)] 54 (a0, ())))) (K .normal (mkS [(0, .v .str), (0, .v .str), (0, .v (.sl .str))] 58 (x.1, x.2.1, x.2.2.1, ())))

noncomputable def porterlaw04_HmacSums_h1 (N : Nat) : Hd Bool := fun st K => (unS [(0, .v .str), (0, .v .str), (0, .v (.sl .str))] 58 (restr [0, 1, 2] 0 st)).bind fun x => porterlaw04_HmacSums_g1 N x K

noncomputable def porterlaw04_HmacSums_t1 (N : Nat) : Tab Bool := [([0, 0, 1], porterlaw04_HmacSums_h2 N)]

theorem porterlaw04_HmacSums_ok1 {N : Nat} {c : Ctx} (hb : Base Go.Proofs.Tryd.prog (porterlaw04_HmacSums_E N) c) : CodeOk Go.Proofs.Tryd.prog c (nodeAt porterlaw04_HmacSums_body [0, 1]) (porterlaw04_HmacSums_h1 N) :=
  piece_ok (s := [(0, .v .str), (0, .v .str), (0, .v (.sl .str))]) (m := 58) (g := porterlaw04_HmacSums_g1 N) [0, 1, 2] (evN_sound hb N (porterlaw04_HmacSums_t1 N) porterlaw04_HmacSums_L porterlaw04_HmacSums_body (TabOk.cons (porterlaw04_HmacSums_ok2 hb) TabOk.nil) [0, 1] _ rfl) (fun x K => by kernel_rfl)

noncomputable def porterlaw04_HmacSums (N : Nat) (key : (List UInt8)) (text : (List UInt8)) (l : (List (List UInt8))) : Option Bool :=
  porterlaw04_HmacSums_p1 N key text l
  (fun x6 => some x6)
  ((hmac_Sum N key text).bind fun y =>
    (porterref04_Sum N key text).bind fun y1 =>
    cond (y == y1)
    ((hmac_Parts N key l).bind fun y2 =>
      (porterref04_Parts N key l).bind fun y3 =>
      cond (y2 == y3)
      ((hmac_Same N key text).bind fun y4 =>
        cond ((((List.length key) : Nat) : Int) == (32 : Int))
        (cond (y4 == (key == text))
          ((hmac_Same N y y).bind fun y5 =>
            cond y5
            ((porterlaw04_works N).bind fun y6 =>
              some y6)
            (some false))
          (some false))
        (cond (y4 == false)
          ((hmac_Same N y y).bind fun y7 =>
            cond y7
            ((porterlaw04_works N).bind fun y8 =>
              some y8)
            (some false))
          (some false)))
      (some false))
    (some false))

noncomputable def porterlaw04_HmacSums_t (N : Nat) : Tab Bool := [([0, 1], porterlaw04_HmacSums_h1 N)]

theorem porterlaw04_HmacSums_link (N : Nat) (x : denS [(0, .v .str), (0, .v .str), (0, .v (.sl .str))]) : evFX (porterlaw04_HmacSums_E N) N (porterlaw04_HmacSums_t N) porterlaw04_HmacSums_L Go.Proofs.Tryd.f7 (mkS [(0, .v .str), (0, .v .str), (0, .v (.sl .str))] 0 x) (kRes (.v .bool) 3) = porterlaw04_HmacSums N x.1 x.2.1 x.2.2.1 := by kernel_rfl

noncomputable def porterlaw04_HmacSums_res (N : Nat) : List A → Res := resOf [(0, .v .str), (0, .v .str), (0, .v (.sl .str))] (fun x => porterlaw04_HmacSums N x.1 x.2.1 x.2.2.1) (oRes (.v .bool) 3)

theorem porterlaw04_HmacSums_ct (N : Nat) : Contract Go.Proofs.Tryd.prog glob 7 (porterlaw04_HmacSums_res N) :=
  Contract.of (E := porterlaw04_HmacSums_E N) (H := porterlaw04_HmacSums_t N) (L := porterlaw04_HmacSums_L) (N := N) (body := porterlaw04_HmacSums_body) (K := (kRes (.v .bool) 3)) (porterlaw04_HmacSums_Eok N) Go.Proofs.Tryd.func7 (by kernel_rfl) (by decide) (fun _ hb => (TabOk.cons (porterlaw04_HmacSums_ok1 hb) TabOk.nil)) (fun x y h => by rw [porterlaw04_HmacSums_link]; exact h) (kRes_ok (s := (.v .bool)) (m := 3))

abbrev porterref04_Split_R : Type := ((List (List UInt8)) × Bool × Unit)

noncomputable def porterref04_Split_body : Code := (Go.Proofs.Tryd.f37.body).getD .skip

noncomputable def porterref04_Split_L : List (List Nat × List Nat) := [([0], [0]), ([0, 1], [0, 4]), ([0, 1, 1], [5, 0, 4]), ([0, 0, 1, 1, 1], [5, 0, 4]), ([0, 0, 0, 0, 0, 1, 1, 1], [11, 0, 5, 4]), ([1, 0, 0, 0, 0, 1, 1, 1], [0, 5, 4]), ([1, 1, 0, 0, 0, 0, 1, 1, 1], [4]), ([0, 0, 0, 1, 0, 0, 0, 1, 1, 1], [16, 5, 0, 4]), ([1, 0, 0, 1, 0, 0, 0, 1, 1, 1], [5, 0, 4]), ([0, 0, 1, 0, 0, 1, 0, 0, 0, 1, 1, 1], [2, 3]), ([1, 0, 1, 0, 0, 1, 0, 0, 0, 1, 1, 1], [2, 3]), ([0, 1, 0, 1, 0, 0, 0, 1, 1, 1], [5, 6, 0, 4]), ([0, 0, 1, 1, 0, 1, 0, 0, 0, 1, 1, 1], [7, 5, 6, 0, 4]), ([0, 1, 0, 1, 1, 0, 1, 0, 0, 0, 1, 1, 1], [7, 5, 6, 0, 4]), ([0, 0, 0, 0, 1, 0, 1, 1, 0, 1, 0, 0, 0, 1, 1, 1], [21, 6, 0, 7, 5, 4]), ([1, 0, 0, 0, 1, 0, 1, 1, 0, 1, 0, 0, 0, 1, 1, 1], [6, 0, 7, 5, 4]), ([1, 1, 0, 0, 0, 1, 0, 1, 1, 0, 1, 0, 0, 0, 1, 1, 1], [5, 6, 0, 4]), ([0, 0, 0, 0, 1, 0, 0, 1, 0, 1, 1, 0, 1, 0, 0, 0, 1, 1, 1], [25, 6, 0, 7, 5, 4]), ([1, 0, 0, 0, 1, 0, 0, 1, 0, 1, 1, 0, 1, 0, 0, 0, 1, 1, 1], [6, 0, 7, 5, 4]), ([0, 0, 1, 0, 0, 0, 1, 0, 0, 1, 0, 1, 1, 0, 1, 0, 0, 0, 1, 1, 1], [2, 3]), ([1, 0, 1, 0, 0, 0, 1, 0, 0, 1, 0, 1, 1, 0, 1, 0, 0, 0, 1, 1, 1], [2, 3]), ([1, 0, 0, 1, 0, 0, 1, 0, 1, 1, 0, 1, 0, 0, 0, 1, 1, 1], [7, 5, 6, 0, 4]), ([0, 1, 0, 0, 1, 0, 1, 1, 0, 1, 0, 0, 0, 1, 1, 1], [7, 5, 6, 0, 4]), ([1, 1, 0, 0, 1, 0, 1, 1, 0, 1, 0, 0, 0, 1, 1, 1], [7, 5, 6, 0, 4]), ([1, 0, 1, 1, 0, 1, 0, 0, 0, 1, 1, 1], [5, 6, 0, 4]), ([0, 1, 1, 1, 0, 1, 0, 0, 0, 1, 1, 1], [6, 0, 5, 4]), ([0, 0, 1, 1, 1, 1, 0, 1, 0, 0, 0, 1, 1, 1], [40, 4, 0, 5, 6]), ([1, 0, 1, 1, 1, 1, 0, 1, 0, 0, 0, 1, 1, 1], [4, 0, 5, 6]), ([0, 0, 1, 0, 1, 1, 1, 1, 0, 1, 0, 0, 0, 1, 1, 1], [2, 3]), ([1, 0, 1, 0, 1, 1, 1, 1, 0, 1, 0, 0, 0, 1, 1, 1], [2, 3]), ([0, 1, 1, 1, 1, 1, 0, 1, 0, 0, 0, 1, 1, 1], [5, 6, 0, 4]), ([1, 1, 1, 1, 1, 1, 0, 1, 0, 0, 0, 1, 1, 1], [5, 0, 4]), ([1, 0, 0, 0, 1, 1, 1], [5, 0, 4]), ([0, 1, 1, 1], [4]), ([0, 1, 1, 1, 1], [2, 3]), ([1, 1, 1, 1, 1], [2, 3])]

noncomputable def porterref04_Split_E (N : Nat) : Env := mkEnv tys glob [] [(4, .str), (2, .str)] [] [] false [] [(76, hmac_framed1_itr N), (79, hmac_split1_itr N)]

theorem porterref04_Split_Eok (N : Nat) : EnvOk Go.Proofs.Tryd.prog (porterref04_Split_E N) := mkEnv_ok mixed tys_ok (FnsOk.nil) (ItsOk.cons (hmac_framed1_it N) (ItsOk.cons (hmac_split1_it N) (ItsOk.nil)))

noncomputable def porterref04_Split_s2 (N : Nat) (s : (List UInt8)) (out : (List (List UInt8))) (at_ : Int) (n : Int) (i : Int) (rec : Int → Int → Option ((List (List UInt8)) × Bool × Unit)) (k0 : (List (List UInt8)) → Bool → Option ((List (List UInt8)) × Bool × Unit)) (k1 : Int → Option ((List (List UInt8)) × Bool × Unit)) : Option ((List (List UInt8)) × Bool × Unit) :=
  cond (decide (i < (Go.IntKind.wrap Go.IntKind.i64 (at_ + (8 : Int)))))
  (cond (decide ((4294967296 : Int) < n))
    (k0 ([] : List (List UInt8)) false)
    (cond (Go.Lift.inR i (List.length s))
      (rec (Go.IntKind.wrap Go.IntKind.i64 ((Go.IntKind.wrap Go.IntKind.i64 ((256 : Int) * n)) + (Go.IntKind.wrap Go.IntKind.i64 (((UInt8.toNat (List.getD s (Int.toNat i) (0 : UInt8))) : Nat) : Int)))) (Go.IntKind.wrap Go.IntKind.i64 (i + (1 : Int))))
      (none)))
  (k1 n)

noncomputable def porterref04_Split_p2 (N : Nat) (s : (List UInt8)) (out : (List (List UInt8))) (at_ : Int) (n : Int) (i : Int) (k0 : (List (List UInt8)) → Bool → Option ((List (List UInt8)) × Bool × Unit)) (k1 : Int → Option ((List (List UInt8)) × Bool × Unit)) : Option ((List (List UInt8)) × Bool × Unit) :=
  iter (fun (v : (Int × Int)) r => porterref04_Split_s2 N s out at_ v.1 v.2 (fun n i => (r (n, i))) k0 k1) N (n, i)

noncomputable def porterref04_Split_g2 (N : Nat) (i : ((List UInt8) × (List (List UInt8)) × Int)) (v : (Int × Int)) (r : (Int × Int) → Option ((List (List UInt8)) × Bool × Unit)) (K : Ex → List A → Option ((List (List UInt8)) × Bool × Unit)) : Option ((List (List UInt8)) × Bool × Unit) :=
  porterref04_Split_s2 N i.1 i.2.1 i.2.2 v.1 v.2 (fun n i => (r (n, i))) (fun a0 a1 => (K .ret (mkS [(2, .row .str), (0, .v .bool)] 50 (a0, a1, ())))) (fun a3 => (K (.exit 2) (mkS [(0, .v .str), (3, .row .str), (0, .v (.int .i64)), (0, .v (.int .i64))] 47 (i.1, i.2.1, i.2.2, a3, ()))))

noncomputable def porterref04_Split_h2 (N : Nat) : Hd ((List (List UInt8)) × Bool × Unit) := fun st K => (unS [(0, .v .str), (3, .row .str), (0, .v (.int .i64)), (0, .v (.int .i64)), (0, .v (.int .i64))] 46 (restr [7, 5, 6, 0, 4] 0 st)).bind fun x => iter (fun v r => porterref04_Split_g2 N ((fun x => (x.1, x.2.1, x.2.2.1)) x) v r K) N ((fun x => (x.2.2.2.1, x.2.2.2.2.1)) x)

noncomputable def porterref04_Split_t2 (N : Nat) : Tab ((List (List UInt8)) × Bool × Unit) := []

theorem porterref04_Split_ok2 {N : Nat} {c : Ctx} (hb : Base Go.Proofs.Tryd.prog (porterref04_Split_E N) c) : CodeOk Go.Proofs.Tryd.prog c (nodeAt porterref04_Split_body [0, 1, 0, 1, 1, 0, 1, 0, 0, 0, 1, 1, 1]) (porterref04_Split_h2 N) :=
  loop_ok (s := [(0, .v .str), (3, .row .str), (0, .v (.int .i64)), (0, .v (.int .i64)), (0, .v (.int .i64))]) (m := 46) (porterref04_Split_g2 N) [7, 5, 6, 0, 4] N (fun x => (x.1, x.2.1, x.2.2.1)) (fun x => (x.2.2.2.1, x.2.2.2.2.1)) (fun i v => (i.1, i.2.1, i.2.2, v.1, v.2, ())) (fun _ => rfl) (evN_sound hb N (porterref04_Split_t2 N) porterref04_Split_L porterref04_Split_body TabOk.nil [0, 0, 1, 0, 1, 1, 0, 1, 0, 0, 0, 1, 1, 1] _ rfl) (fun i v r K => by kernel_rfl)

noncomputable def porterref04_Split_s1 (N : Nat) (s : (List UInt8)) (out : (List (List UInt8))) (at_ : Int) (rec : (List (List UInt8)) → Int → Option ((List (List UInt8)) × Bool × Unit)) (k0 : (List (List UInt8)) → Bool → Option ((List (List UInt8)) × Bool × Unit)) (k1 : (List (List UInt8)) → Option ((List (List UInt8)) × Bool × Unit)) : Option ((List (List UInt8)) × Bool × Unit) :=
  cond (decide (at_ < (((List.length s) : Nat) : Int)))
  (cond (decide ((Go.IntKind.wrap Go.IntKind.i64 ((((List.length s) : Nat) : Int) - at_)) < (8 : Int)))
    (k0 ([] : List (List UInt8)) false)
    (porterref04_Split_p2 N s out at_ (0 : Int) at_
      (fun x2 x3 => k0 x2 x3)
      (fun n => cond (decide ((Go.IntKind.wrap Go.IntKind.i64 ((((List.length s) : Nat) : Int) - (Go.IntKind.wrap Go.IntKind.i64 (at_ + (8 : Int))))) < n))
        (k0 ([] : List (List UInt8)) false)
        (cond (decide (((0 : Int) ≤ (Go.IntKind.wrap Go.IntKind.i64 ((Go.IntKind.wrap Go.IntKind.i64 (at_ + (8 : Int))) + n))) ∧ ((Go.IntKind.wrap Go.IntKind.i64 ((Go.IntKind.wrap Go.IntKind.i64 (at_ + (8 : Int))) + n)) ≤ (((List.length s) : Nat) : Int))))
          (cond (decide (((0 : Int) ≤ (Go.IntKind.wrap Go.IntKind.i64 (at_ + (8 : Int)))) ∧ ((Go.IntKind.wrap Go.IntKind.i64 (at_ + (8 : Int))) ≤ (Go.IntKind.wrap Go.IntKind.i64 ((Go.IntKind.wrap Go.IntKind.i64 (at_ + (8 : Int))) + n)))))
            (cond (decide ((((List.length out) + 1) * 16) ≤ 70368744177664))
              (rec (out ++ ([(Go.Lift.cut s (Int.toNat (Go.IntKind.wrap Go.IntKind.i64 (at_ + (8 : Int)))) (Int.toNat (Go.IntKind.wrap Go.IntKind.i64 ((Go.IntKind.wrap Go.IntKind.i64 (at_ + (8 : Int))) + n))))] : List (List UInt8))) (Go.IntKind.wrap Go.IntKind.i64 ((Go.IntKind.wrap Go.IntKind.i64 (at_ + (8 : Int))) + n)))
              (none))
            (none))
          (none)))))
  (k1 out)

noncomputable def porterref04_Split_p1 (N : Nat) (s : (List UInt8)) (out : (List (List UInt8))) (at_ : Int) (k0 : (List (List UInt8)) → Bool → Option ((List (List UInt8)) × Bool × Unit)) (k1 : (List (List UInt8)) → Option ((List (List UInt8)) × Bool × Unit)) : Option ((List (List UInt8)) × Bool × Unit) :=
  iter (fun (v : ((List (List UInt8)) × Int)) r => porterref04_Split_s1 N s v.1 v.2 (fun out at_ => (r (out, at_))) k0 k1) N (out, at_)

noncomputable def porterref04_Split_g1 (N : Nat) (i : (List UInt8)) (v : ((List (List UInt8)) × Int)) (r : ((List (List UInt8)) × Int) → Option ((List (List UInt8)) × Bool × Unit)) (K : Ex → List A → Option ((List (List UInt8)) × Bool × Unit)) : Option ((List (List UInt8)) × Bool × Unit) :=
  porterref04_Split_s1 N i v.1 v.2 (fun out at_ => (r (out, at_))) (fun a0 a1 => (K .ret (mkS [(2, .row .str), (0, .v .bool)] 50 (a0, a1, ())))) (fun a0 => (K (.exit 0) (mkS [(4, .row .str)] 49 (a0, ()))))

noncomputable def porterref04_Split_h1 (N : Nat) : Hd ((List (List UInt8)) × Bool × Unit) := fun st K => (unS [(0, .v .str), (3, .row .str), (0, .v (.int .i64))] 48 (restr [5, 0, 4] 0 st)).bind fun x => iter (fun v r => porterref04_Split_g1 N ((fun x => x.1) x) v r K) N ((fun x => (x.2.1, x.2.2.1)) x)

noncomputable def porterref04_Split_t1 (N : Nat) : Tab ((List (List UInt8)) × Bool × Unit) := [([0, 1, 0, 1, 1, 0, 1, 0, 0, 0, 1, 1, 1], porterref04_Split_h2 N)]

theorem porterref04_Split_ok1 {N : Nat} {c : Ctx} (hb : Base Go.Proofs.Tryd.prog (porterref04_Split_E N) c) : CodeOk Go.Proofs.Tryd.prog c (nodeAt porterref04_Split_body [0, 0, 1, 1, 1]) (porterref04_Split_h1 N) :=
  loop_ok (s := [(0, .v .str), (3, .row .str), (0, .v (.int .i64))]) (m := 48) (porterref04_Split_g1 N) [5, 0, 4] N (fun x => x.1) (fun x => (x.2.1, x.2.2.1)) (fun i v => (i, v.1, v.2, ())) (fun _ => rfl) (evN_sound hb N (porterref04_Split_t1 N) porterref04_Split_L porterref04_Split_body (TabOk.cons (porterref04_Split_ok2 hb) TabOk.nil) [0, 0, 0, 1, 1, 1] _ rfl) (fun i v r K => by kernel_rfl)

noncomputable def porterref04_Split (N : Nat) (s : (List UInt8)) : Option ((List (List UInt8)) × Bool × Unit) :=
  porterref04_Split_p1 N s ([] : List (List UInt8)) (0 : Int)
  (fun x2 x3 => some (x2, (x3, ())))
  (fun out => some (out, (true, ())))

noncomputable def porterref04_Split_t (N : Nat) : Tab ((List (List UInt8)) × Bool × Unit) := [([0, 0, 1, 1, 1], porterref04_Split_h1 N)]

theorem porterref04_Split_link (N : Nat) (x : denS [(0, .v .str)]) : evFX (porterref04_Split_E N) N (porterref04_Split_t N) porterref04_Split_L Go.Proofs.Tryd.f37 (mkS [(0, .v .str)] 0 x) (kRes (.tup [(.sl .str), .bool]) 1) = porterref04_Split N x.1 := by kernel_rfl

noncomputable def porterref04_Split_res (N : Nat) : List A → Res := resOf [(0, .v .str)] (fun x => porterref04_Split N x.1) (oRes (.tup [(.sl .str), .bool]) 1)

theorem porterref04_Split_ct (N : Nat) : Contract Go.Proofs.Tryd.prog glob 37 (porterref04_Split_res N) :=
  Contract.of (E := porterref04_Split_E N) (H := porterref04_Split_t N) (L := porterref04_Split_L) (N := N) (body := porterref04_Split_body) (K := (kRes (.tup [(.sl .str), .bool]) 1)) (porterref04_Split_Eok N) Go.Proofs.Tryd.func37 (by kernel_rfl) (by decide) (fun _ hb => (TabOk.cons (porterref04_Split_ok1 hb) TabOk.nil)) (fun x y h => by rw [porterref04_Split_link]; exact h) (kRes_ok (s := (.tup [(.sl .str), .bool])) (m := 1))

abbrev porterbase_SameTexts_R : Type := Bool

noncomputable def porterbase_SameTexts_body : Code := (Go.Proofs.Tryd.f39.body).getD .skip

noncomputable def porterbase_SameTexts_L : List (List Nat × List Nat) := [([0], [0, 1]), ([0, 0, 1], [10, 0, 1]), ([1, 0, 1], [0, 1]), ([0, 0, 1, 0, 1], [4]), ([1, 0, 1, 0, 1], [4]), ([0, 0, 1, 1], [5, 0, 1]), ([0, 1, 0, 1, 1], [5, 0, 1]), ([0, 0, 0, 0, 1, 0, 1, 1], [14, 0, 5, 1]), ([1, 0, 0, 0, 1, 0, 1, 1], [0, 5, 1]), ([1, 1, 0, 0, 0, 1, 0, 1, 1], []), ([0, 0, 0, 1, 0, 0, 1, 0, 1, 1], [25, 5, 0, 1]), ([1, 0, 0, 1, 0, 0, 1, 0, 1, 1], [5, 0, 1]), ([0, 0, 1, 0, 0, 1, 0, 0, 1, 0, 1, 1], [4]), ([1, 0, 1, 0, 0, 1, 0, 0, 1, 0, 1, 1], [4]), ([0, 1, 0, 0, 1, 0, 1, 1], [5, 0, 1]), ([1, 1, 0, 0, 1, 0, 1, 1], [5, 0, 1]), ([1, 0, 1, 1], []), ([0, 1, 1, 1], [4]), ([1, 1, 1, 1], [4])]

noncomputable def porterbase_SameTexts_E (N : Nat) : Env := mkEnv tys glob [] [] [] [] false [] [(76, hmac_framed1_itr N), (79, hmac_split1_itr N)]

theorem porterbase_SameTexts_Eok (N : Nat) : EnvOk Go.Proofs.Tryd.prog (porterbase_SameTexts_E N) := mkEnv_ok mixed tys_ok (FnsOk.nil) (ItsOk.cons (hmac_framed1_it N) (ItsOk.cons (hmac_split1_it N) (ItsOk.nil)))

noncomputable def porterbase_SameTexts_s1 (N : Nat) (a : (List (List UInt8))) (b : (List (List UInt8))) (i : Int) (rec : Int → Option Bool) (k0 : Bool → Option Bool) (k1 : Option Bool) : Option Bool :=
  cond (decide (i < (((List.length a) : Nat) : Int)))
  (cond (Go.Lift.inR i (List.length a))
    (cond (Go.Lift.inR i (List.length b))
      (cond (!((List.getD a (Int.toNat i) ([] : List UInt8)) == (List.getD b (Int.toNat i) ([] : List UInt8))))
        (k0 false)
        (rec (Go.IntKind.wrap Go.IntKind.i64 (i + (1 : Int)))))
      (none))
    (none))
  (k1)

noncomputable def porterbase_SameTexts_p1 (N : Nat) (a : (List (List UInt8))) (b : (List (List UInt8))) (i : Int) (k0 : Bool → Option Bool) (k1 : Option Bool) : Option Bool :=
  iter (fun (v : Int) r => porterbase_SameTexts_s1 N a b v (fun i => (r i)) k0 k1) N i

noncomputable def porterbase_SameTexts_g1 (N : Nat) (i : ((List (List UInt8)) × (List (List UInt8)))) (v : Int) (r : Int → Option Bool) (K : Ex → List A → Option Bool) : Option Bool :=
  porterbase_SameTexts_s1 N i.1 i.2 v (fun i => (r i)) (fun a0 => (K .ret (mkS [(4, .v .bool)] 21 (a0, ())))) (K (.exit 0) (mkS [] 26 ()))

noncomputable def porterbase_SameTexts_h1 (N : Nat) : Hd Bool := fun st K => (unS [(0, .v (.sl .str)), (0, .v (.sl .str)), (3, .v (.int .i64))] 20 (restr [5, 0, 1] 0 st)).bind fun x => iter (fun v r => porterbase_SameTexts_g1 N ((fun x => (x.1, x.2.1)) x) v r K) N ((fun x => x.2.2.1) x)

noncomputable def porterbase_SameTexts_t1 (N : Nat) : Tab Bool := []

theorem porterbase_SameTexts_ok1 {N : Nat} {c : Ctx} (hb : Base Go.Proofs.Tryd.prog (porterbase_SameTexts_E N) c) : CodeOk Go.Proofs.Tryd.prog c (nodeAt porterbase_SameTexts_body [0, 1, 0, 1, 1]) (porterbase_SameTexts_h1 N) :=
  loop_ok (s := [(0, .v (.sl .str)), (0, .v (.sl .str)), (3, .v (.int .i64))]) (m := 20) (porterbase_SameTexts_g1 N) [5, 0, 1] N (fun x => (x.1, x.2.1)) (fun x => x.2.2.1) (fun i v => (i.1, i.2, v, ())) (fun _ => rfl) (evN_sound hb N (porterbase_SameTexts_t1 N) porterbase_SameTexts_L porterbase_SameTexts_body TabOk.nil [0, 0, 1, 0, 1, 1] _ rfl) (fun i v r K => by kernel_rfl)

noncomputable def porterbase_SameTexts (N : Nat) (a : (List (List UInt8))) (b : (List (List UInt8))) : Option Bool :=
  cond ((((List.length a) : Nat) : Int) != (((List.length b) : Nat) : Int))
  (some false)
  (porterbase_SameTexts_p1 N a b (0 : Int)
    (fun x4 => some x4)
    (some true))

noncomputable def porterbase_SameTexts_t (N : Nat) : Tab Bool := [([0, 1, 0, 1, 1], porterbase_SameTexts_h1 N)]

theorem porterbase_SameTexts_link (N : Nat) (x : denS [(0, .v (.sl .str)), (0, .v (.sl .str))]) : evFX (porterbase_SameTexts_E N) N (porterbase_SameTexts_t N) porterbase_SameTexts_L Go.Proofs.Tryd.f39 (mkS [(0, .v (.sl .str)), (0, .v (.sl .str))] 0 x) (kRes (.v .bool) 2) = porterbase_SameTexts N x.1 x.2.1 := by kernel_rfl

noncomputable def porterbase_SameTexts_res (N : Nat) : List A → Res := resOf [(0, .v (.sl .str)), (0, .v (.sl .str))] (fun x => porterbase_SameTexts N x.1 x.2.1) (oRes (.v .bool) 2)

theorem porterbase_SameTexts_ct (N : Nat) : Contract Go.Proofs.Tryd.prog glob 39 (porterbase_SameTexts_res N) :=
  Contract.of (E := porterbase_SameTexts_E N) (H := porterbase_SameTexts_t N) (L := porterbase_SameTexts_L) (N := N) (body := porterbase_SameTexts_body) (K := (kRes (.v .bool) 2)) (porterbase_SameTexts_Eok N) Go.Proofs.Tryd.func39 (by kernel_rfl) (by decide) (fun _ hb => (TabOk.cons (porterbase_SameTexts_ok1 hb) TabOk.nil)) (fun x y h => by rw [porterbase_SameTexts_link]; exact h) (kRes_ok (s := (.v .bool)) (m := 2))

abbrev porterlaw04_HmacFrames_R : Type := Bool

noncomputable def porterlaw04_HmacFrames_body : Code := (Go.Proofs.Tryd.f8.body).getD .skip

noncomputable def porterlaw04_HmacFrames_L : List (List Nat × List Nat) := [([0], [0, 1]), ([0, 0, 1], [19, 0, 1]), ([1, 0, 1], [0, 1]), ([0, 0, 1, 0, 1], [4]), ([1, 0, 1, 0, 1], [4]), ([0, 1, 1], [5, 1, 0]), ([0, 1, 1, 1], [1, 5, 0, 7, 6]), ([0, 1, 1, 1, 1], [1, 5, 0, 7, 6, 9, 8]), ([0, 1, 1, 1, 1, 1], [5, 0, 7, 6, 9, 11, 8, 10, 1]), ([0, 1, 1, 1, 1, 1, 1], [4]), ([1, 1, 1, 1, 1, 1, 1], [4])]

noncomputable def porterlaw04_HmacFrames_E (N : Nat) : Env := mkEnv tys glob [(39, porterbase_SameTexts_res N), (37, porterref04_Split_res N), (38, porterref04_Frame_res N), (35, hmac_Frame_res N), (29, porterlaw04_works_res N), (36, hmac_Split_res N), (28, porterbase_Short_res N)] [] [] [] false [] [(76, hmac_framed1_itr N), (79, hmac_split1_itr N)]

theorem porterlaw04_HmacFrames_Eok (N : Nat) : EnvOk Go.Proofs.Tryd.prog (porterlaw04_HmacFrames_E N) := mkEnv_ok mixed tys_ok (FnsOk.cons (porterbase_SameTexts_ct N) (FnsOk.cons (porterref04_Split_ct N) (FnsOk.cons (porterref04_Frame_ct N) (FnsOk.cons (hmac_Frame_ct N) (FnsOk.cons (porterlaw04_works_ct N) (FnsOk.cons (hmac_Split_ct N) (FnsOk.cons (porterbase_Short_ct N) (FnsOk.nil)))))))) (ItsOk.cons (hmac_framed1_it N) (ItsOk.cons (hmac_split1_it N) (ItsOk.nil)))

noncomputable def porterlaw04_HmacFrames_p2 (N : Nat) (l : (List (List UInt8))) (s : (List UInt8)) (k0 : Bool → Option Bool) : Option Bool :=
  (porterbase_Short N l (12 : Int) (400 : Int)).bind fun y =>
  cond (!y)
  (k0 true)
  (k0 (decide ((400 : Int) < (((List.length s) : Nat) : Int))))

noncomputable def porterlaw04_HmacFrames_g2 (N : Nat) (x : denS [(0, .v (.sl .str)), (0, .v .str)]) (K : Ex → List A → Option Bool) : Option Bool :=
  porterlaw04_HmacFrames_p2 N x.1 x.2.1 (fun a2 => (K .normal (mkS [(0, .v (.sl .str)), (0, .v .str), (17, .v .bool)] 53 (x.1, x.2.1, a2, ()))))

noncomputable def porterlaw04_HmacFrames_h2 (N : Nat) : Hd Bool := fun st K => (unS [(0, .v (.sl .str)), (0, .v .str)] 71 (restr [0, 1] 0 st)).bind fun x => porterlaw04_HmacFrames_g2 N x K

noncomputable def porterlaw04_HmacFrames_t2 (N : Nat) : Tab Bool := []

theorem porterlaw04_HmacFrames_ok2 {N : Nat} {c : Ctx} (hb : Base Go.Proofs.Tryd.prog (porterlaw04_HmacFrames_E N) c) : CodeOk Go.Proofs.Tryd.prog c (nodeAt porterlaw04_HmacFrames_body [0, 0, 1]) (porterlaw04_HmacFrames_h2 N) :=
  piece_ok (s := [(0, .v (.sl .str)), (0, .v .str)]) (m := 71) (g := porterlaw04_HmacFrames_g2 N) [0, 1] (evN_sound hb N (porterlaw04_HmacFrames_t2 N) porterlaw04_HmacFrames_L porterlaw04_HmacFrames_body TabOk.nil [0, 0, 1] _ rfl) (fun x K => by kernel_rfl)

noncomputable def porterlaw04_HmacFrames_p1 (N : Nat) (l : (List (List UInt8))) (s : (List UInt8)) (k0 : Bool → Option Bool) (k1 : Option Bool) : Option Bool :=
  porterlaw04_HmacFrames_p2 N l s
  (fun x19 => cond x19
    ((porterlaw04_works N).bind fun y =>
      k0 y)
    (k1))

noncomputable def porterlaw04_HmacFrames_g1 (N : Nat) (x : denS [(0, .v (.sl .str)), (0, .v .str)]) (K : Ex → List A → Option Bool) : Option Bool :=
  porterlaw04_HmacFrames_p1 N x.1 x.2.1 (fun a0 => (K .ret (mkS [(4, .v .bool)] 68 (a0, ())))) (K .normal (mkS [(0, .v (.sl .str)), (0, .v .str)] 71 (x.1, x.2.1, ())))

noncomputable def porterlaw04_HmacFrames_h1 (N : Nat) : Hd Bool := fun st K => (unS [(0, .v (.sl .str)), (0, .v .str)] 71 (restr [0, 1] 0 st)).bind fun x => porterlaw04_HmacFrames_g1 N x K

noncomputable def porterlaw04_HmacFrames_t1 (N : Nat) : Tab Bool := [([0, 0, 1], porterlaw04_HmacFrames_h2 N)]

theorem porterlaw04_HmacFrames_ok1 {N : Nat} {c : Ctx} (hb : Base Go.Proofs.Tryd.prog (porterlaw04_HmacFrames_E N) c) : CodeOk Go.Proofs.Tryd.prog c (nodeAt porterlaw04_HmacFrames_body [0, 1]) (porterlaw04_HmacFrames_h1 N) :=
  piece_ok (s := [(0, .v (.sl .str)), (0, .v .str)]) (m := 71) (g := porterlaw04_HmacFrames_g1 N) [0, 1] (evN_sound hb N (porterlaw04_HmacFrames_t1 N) porterlaw04_HmacFrames_L porterlaw04_HmacFrames_body (TabOk.cons (porterlaw04_HmacFrames_ok2 hb) TabOk.nil) [0, 1] _ rfl) (fun x K => by kernel_rfl)

noncomputable def porterlaw04_HmacFrames (N : Nat) (l : (List (List UInt8))) (s : (List UInt8)) : Option Bool :=
  porterlaw04_HmacFrames_p1 N l s
  (fun x4 => some x4)
  ((hmac_Frame N l).bind fun y =>
    (hmac_Split N y).bind fun y1 =>
    (hmac_Split N s).bind fun y2 =>
    (porterref04_Split N s).bind fun y3 =>
    (porterref04_Frame N l).bind fun y4 =>
    cond (y == y4)
    (cond y1.2.1
      ((porterbase_SameTexts N y1.1 l).bind fun y5 =>
        cond y5
        (cond (y2.2.1 == y3.2.1)
          ((porterbase_SameTexts N y2.1 y3.1).bind fun y6 =>
            cond y6
            (cond (!y2.2.1)
              ((porterlaw04_works N).bind fun y7 =>
                some y7)
              ((hmac_Frame N y2.1).bind fun y8 =>
                cond (y8 == s)
                ((porterlaw04_works N).bind fun y9 =>
                  some y9)
                (some false)))
            (some false))
          (some false))
        (some false))
      (some false))
    (some false))

noncomputable def porterlaw04_HmacFrames_t (N : Nat) : Tab Bool := [([0, 1], porterlaw04_HmacFrames_h1 N)]

theorem porterlaw04_HmacFrames_link (N : Nat) (x : denS [(0, .v (.sl .str)), (0, .v .str)]) : evFX (porterlaw04_HmacFrames_E N) N (porterlaw04_HmacFrames_t N) porterlaw04_HmacFrames_L Go.Proofs.Tryd.f8 (mkS [(0, .v (.sl .str)), (0, .v .str)] 0 x) (kRes (.v .bool) 2) = porterlaw04_HmacFrames N x.1 x.2.1 := by kernel_rfl

noncomputable def porterlaw04_HmacFrames_res (N : Nat) : List A → Res := resOf [(0, .v (.sl .str)), (0, .v .str)] (fun x => porterlaw04_HmacFrames N x.1 x.2.1) (oRes (.v .bool) 2)

theorem porterlaw04_HmacFrames_ct (N : Nat) : Contract Go.Proofs.Tryd.prog glob 8 (porterlaw04_HmacFrames_res N) :=
  Contract.of (E := porterlaw04_HmacFrames_E N) (H := porterlaw04_HmacFrames_t N) (L := porterlaw04_HmacFrames_L) (N := N) (body := porterlaw04_HmacFrames_body) (K := (kRes (.v .bool) 2)) (porterlaw04_HmacFrames_Eok N) Go.Proofs.Tryd.func8 (by kernel_rfl) (by decide) (fun _ hb => (TabOk.cons (porterlaw04_HmacFrames_ok1 hb) TabOk.nil)) (fun x y h => by rw [porterlaw04_HmacFrames_link]; exact h) (kRes_ok (s := (.v .bool)) (m := 2))

abbrev porterref03_Clash_R : Type := Bool

noncomputable def porterref03_Clash_body : Code := (Go.Proofs.Tryd.f40.body).getD .skip

noncomputable def porterref03_Clash_L : List (List Nat × List Nat) := [([0], [0]), ([0, 1], [0, 3]), ([0, 0, 1, 1], [4, 0, 3]), ([0, 1, 0, 1, 1], [4, 0, 3]), ([0, 0, 0, 0, 1, 0, 1, 1], [9, 3, 0, 4]), ([1, 0, 0, 0, 1, 0, 1, 1], [3, 0, 4]), ([1, 1, 0, 0, 0, 1, 0, 1, 1], []), ([0, 0, 0, 1, 0, 0, 1, 0, 1, 1], [4, 3, 0]), ([0, 1, 0, 0, 1, 0, 0, 1, 0, 1, 1], [5, 4, 3, 0]), ([0, 1, 1, 0, 0, 1, 0, 0, 1, 0, 1, 1], [5, 4, 3, 0]), ([0, 0, 0, 0, 1, 1, 0, 0, 1, 0, 0, 1, 0, 1, 1], [22, 3, 5, 4, 0]), ([1, 0, 0, 0, 1, 1, 0, 0, 1, 0, 0, 1, 0, 1, 1], [3, 5, 4, 0]), ([1, 1, 0, 0, 0, 1, 1, 0, 0, 1, 0, 0, 1, 0, 1, 1], [4, 0, 3]), ([0, 0, 0, 1, 0, 0, 1, 1, 0, 0, 1, 0, 0, 1, 0, 1, 1], [44, 5, 4, 3, 0]), ([1, 0, 0, 1, 0, 0, 1, 1, 0, 0, 1, 0, 0, 1, 0, 1, 1], [5, 4, 3, 0]), ([0, 0, 1, 0, 0, 1, 0, 0, 1, 1, 0, 0, 1, 0, 0, 1, 0, 1, 1], [2]), ([1, 0, 1, 0, 0, 1, 0, 0, 1, 1, 0, 0, 1, 0, 0, 1, 0, 1, 1], [2]), ([0, 1, 0, 0, 1, 1, 0, 0, 1, 0, 0, 1, 0, 1, 1], [5, 4, 3, 0]), ([1, 1, 0, 0, 1, 1, 0, 0, 1, 0, 0, 1, 0, 1, 1], [5, 4, 3, 0]), ([1, 1, 0, 0, 1, 0, 0, 1, 0, 1, 1], [4, 0, 3]), ([0, 1, 0, 0, 1, 0, 1, 1], [4, 0, 3]), ([1, 1, 0, 0, 1, 0, 1, 1], [4, 0, 3]), ([1, 0, 1, 1], []), ([0, 1, 1, 1], [2]), ([1, 1, 1, 1], [2])]

noncomputable def porterref03_Clash_E (N : Nat) : Env := mkEnv tys glob [(15, porterref03_Sum_res N)] [(3, .str)] [] [] false [] [(76, hmac_framed1_itr N), (79, hmac_split1_itr N)]

theorem porterref03_Clash_Eok (N : Nat) : EnvOk Go.Proofs.Tryd.prog (porterref03_Clash_E N) := mkEnv_ok mixed tys_ok (FnsOk.cons (porterref03_Sum_ct N) (FnsOk.nil)) (ItsOk.cons (hmac_framed1_it N) (ItsOk.cons (hmac_split1_it N) (ItsOk.nil)))

noncomputable def porterref03_Clash_p4 (N : Nat) (l : (List (List UInt8))) (sums : (List (List UInt8))) (i : Int) (k : Int) (k0 : Bool → Option Bool) : Option Bool :=
  cond (Go.Lift.inR k (List.length sums))
  (cond (decide ((Int.toNat k) < (List.length sums)))
    (cond (Go.Lift.inR i (List.length sums))
      (cond (decide ((Int.toNat i) < (List.length sums)))
        (cond ((List.getD sums (Int.toNat k) ([] : List UInt8)) == (List.getD sums (Int.toNat i) ([] : List UInt8)))
          (cond (Go.Lift.inR k (List.length l))
            (cond (Go.Lift.inR i (List.length l))
              (k0 (!((List.getD l (Int.toNat k) ([] : List UInt8)) == (List.getD l (Int.toNat i) ([] : List UInt8)))))
              (none))
            (none))
          (k0 false))
        (none))
      (none))
    (none))
  (none)

noncomputable def porterref03_Clash_g4 (N : Nat) (x : denS [(0, .v (.sl .str)), (2, .row .str), (0, .v (.int .i64)), (0, .v (.int .i64))]) (K : Ex → List A → Option Bool) : Option Bool :=
  porterref03_Clash_p4 N x.1 x.2.1 x.2.2.1 x.2.2.2.1 (fun a4 => (K .normal (mkS [(0, .v (.sl .str)), (2, .row .str), (0, .v (.int .i64)), (0, .v (.int .i64)), (38, .v .bool)] 0 (x.1, x.2.1, x.2.2.1, x.2.2.2.1, a4, ()))))

noncomputable def porterref03_Clash_h4 (N : Nat) : Hd Bool := fun st K => (unS [(0, .v (.sl .str)), (2, .row .str), (0, .v (.int .i64)), (0, .v (.int .i64))] 39 (restr [3, 5, 4, 0] 0 st)).bind fun x => porterref03_Clash_g4 N x K

noncomputable def porterref03_Clash_t4 (N : Nat) : Tab Bool := []

theorem porterref03_Clash_ok4 {N : Nat} {c : Ctx} (hb : Base Go.Proofs.Tryd.prog (porterref03_Clash_E N) c) : CodeOk Go.Proofs.Tryd.prog c (nodeAt porterref03_Clash_body [0, 0, 0, 1, 0, 0, 1, 1, 0, 0, 1, 0, 0, 1, 0, 1, 1]) (porterref03_Clash_h4 N) :=
  piece_ok (s := [(0, .v (.sl .str)), (2, .row .str), (0, .v (.int .i64)), (0, .v (.int .i64))]) (m := 39) (g := porterref03_Clash_g4 N) [3, 5, 4, 0] (evN_sound hb N (porterref03_Clash_t4 N) porterref03_Clash_L porterref03_Clash_body TabOk.nil [0, 0, 0, 1, 0, 0, 1, 1, 0, 0, 1, 0, 0, 1, 0, 1, 1] _ rfl) (fun x K => by kernel_rfl)

noncomputable def porterref03_Clash_p3 (N : Nat) (l : (List (List UInt8))) (sums : (List (List UInt8))) (i : Int) (k : Int) (k0 : Bool → Option Bool) (k1 : Option Bool) : Option Bool :=
  porterref03_Clash_p4 N l sums i k
  (fun x44 => cond x44
    (k0 true)
    (k1))

noncomputable def porterref03_Clash_g3 (N : Nat) (x : denS [(0, .v (.sl .str)), (2, .row .str), (0, .v (.int .i64)), (0, .v (.int .i64))]) (K : Ex → List A → Option Bool) : Option Bool :=
  porterref03_Clash_p3 N x.1 x.2.1 x.2.2.1 x.2.2.2.1 (fun a0 => (K .ret (mkS [(2, .v .bool)] 42 (a0, ())))) (K .normal (mkS [(0, .v (.sl .str)), (2, .row .str), (0, .v (.int .i64)), (0, .v (.int .i64))] 39 (x.1, x.2.1, x.2.2.1, x.2.2.2.1, ())))

noncomputable def porterref03_Clash_h3 (N : Nat) : Hd Bool := fun st K => (unS [(0, .v (.sl .str)), (2, .row .str), (0, .v (.int .i64)), (0, .v (.int .i64))] 39 (restr [3, 5, 4, 0] 0 st)).bind fun x => porterref03_Clash_g3 N x K

noncomputable def porterref03_Clash_t3 (N : Nat) : Tab Bool := [([0, 0, 0, 1, 0, 0, 1, 1, 0, 0, 1, 0, 0, 1, 0, 1, 1], porterref03_Clash_h4 N)]

theorem porterref03_Clash_ok3 {N : Nat} {c : Ctx} (hb : Base Go.Proofs.Tryd.prog (porterref03_Clash_E N) c) : CodeOk Go.Proofs.Tryd.prog c (nodeAt porterref03_Clash_body [0, 1, 0, 0, 1, 1, 0, 0, 1, 0, 0, 1, 0, 1, 1]) (porterref03_Clash_h3 N) :=
  piece_ok (s := [(0, .v (.sl .str)), (2, .row .str), (0, .v (.int .i64)), (0, .v (.int .i64))]) (m := 39) (g := porterref03_Clash_g3 N) [3, 5, 4, 0] (evN_sound hb N (porterref03_Clash_t3 N) porterref03_Clash_L porterref03_Clash_body (TabOk.cons (porterref03_Clash_ok4 hb) TabOk.nil) [0, 1, 0, 0, 1, 1, 0, 0, 1, 0, 0, 1, 0, 1, 1] _ rfl) (fun x K => by kernel_rfl)

noncomputable def porterref03_Clash_s2 (N : Nat) (l : (List (List UInt8))) (sums : (List (List UInt8))) (i : Int) (k : Int) (rec : Int → Option Bool) (k0 : Bool → Option Bool) (k1 : Option Bool) : Option Bool :=
  cond (decide (k < i))
  (porterref03_Clash_p3 N l sums i k
    (fun x2 => k0 x2)
    (rec (Go.IntKind.wrap Go.IntKind.i64 (k + (1 : Int)))))
  (k1)

noncomputable def porterref03_Clash_p2 (N : Nat) (l : (List (List UInt8))) (sums : (List (List UInt8))) (i : Int) (k : Int) (k0 : Bool → Option Bool) (k1 : Option Bool) : Option Bool :=
  iter (fun (v : Int) r => porterref03_Clash_s2 N l sums i v (fun k => (r k)) k0 k1) N k

noncomputable def porterref03_Clash_g2 (N : Nat) (i : ((List (List UInt8)) × (List (List UInt8)) × Int)) (v : Int) (r : Int → Option Bool) (K : Ex → List A → Option Bool) : Option Bool :=
  porterref03_Clash_s2 N i.1 i.2.1 i.2.2 v (fun k => (r k)) (fun a0 => (K .ret (mkS [(2, .v .bool)] 42 (a0, ())))) (K (.exit 2) (mkS [(0, .v (.sl .str)), (2, .row .str), (0, .v (.int .i64))] 40 (i.1, i.2.1, i.2.2, ())))

noncomputable def porterref03_Clash_h2 (N : Nat) : Hd Bool := fun st K => (unS [(0, .v (.sl .str)), (2, .row .str), (0, .v (.int .i64)), (0, .v (.int .i64))] 39 (restr [5, 4, 3, 0] 0 st)).bind fun x => iter (fun v r => porterref03_Clash_g2 N ((fun x => (x.1, x.2.1, x.2.2.1)) x) v r K) N ((fun x => x.2.2.2.1) x)

noncomputable def porterref03_Clash_t2 (N : Nat) : Tab Bool := [([0, 1, 0, 0, 1, 1, 0, 0, 1, 0, 0, 1, 0, 1, 1], porterref03_Clash_h3 N)]

theorem porterref03_Clash_ok2 {N : Nat} {c : Ctx} (hb : Base Go.Proofs.Tryd.prog (porterref03_Clash_E N) c) : CodeOk Go.Proofs.Tryd.prog c (nodeAt porterref03_Clash_body [0, 1, 1, 0, 0, 1, 0, 0, 1, 0, 1, 1]) (porterref03_Clash_h2 N) :=
  loop_ok (s := [(0, .v (.sl .str)), (2, .row .str), (0, .v (.int .i64)), (0, .v (.int .i64))]) (m := 39) (porterref03_Clash_g2 N) [5, 4, 3, 0] N (fun x => (x.1, x.2.1, x.2.2.1)) (fun x => x.2.2.2.1) (fun i v => (i.1, i.2.1, i.2.2, v, ())) (fun _ => rfl) (evN_sound hb N (porterref03_Clash_t2 N) porterref03_Clash_L porterref03_Clash_body (TabOk.cons (porterref03_Clash_ok3 hb) TabOk.nil) [0, 0, 1, 1, 0, 0, 1, 0, 0, 1, 0, 1, 1] _ rfl) (fun i v r K => by kernel_rfl)

noncomputable def porterref03_Clash_s1 (N : Nat) (l : (List (List UInt8))) (sums : (List (List UInt8))) (i : Int) (rec : (List (List UInt8)) → Int → Option Bool) (k0 : Bool → Option Bool) (k1 : Option Bool) : Option Bool :=
  cond (decide (i < (((List.length l) : Nat) : Int)))
  (cond (Go.Lift.inR i (List.length l))
    ((porterref03_Sum N (List.getD l (Int.toNat i) ([] : List UInt8))).bind fun y =>
      cond (decide ((((List.length sums) + 1) * 16) ≤ 70368744177664))
      (porterref03_Clash_p2 N l (sums ++ ([y] : List (List UInt8))) i (0 : Int)
        (fun x2 => k0 x2)
        (rec (sums ++ ([y] : List (List UInt8))) (Go.IntKind.wrap Go.IntKind.i64 (i + (1 : Int)))))
      (none))
    (none))
  (k1)

noncomputable def porterref03_Clash_p1 (N : Nat) (l : (List (List UInt8))) (sums : (List (List UInt8))) (i : Int) (k0 : Bool → Option Bool) (k1 : Option Bool) : Option Bool :=
  iter (fun (v : ((List (List UInt8)) × Int)) r => porterref03_Clash_s1 N l v.1 v.2 (fun sums i => (r (sums, i))) k0 k1) N (sums, i)

noncomputable def porterref03_Clash_g1 (N : Nat) (i : (List (List UInt8))) (v : ((List (List UInt8)) × Int)) (r : ((List (List UInt8)) × Int) → Option Bool) (K : Ex → List A → Option Bool) : Option Bool :=
  porterref03_Clash_s1 N i v.1 v.2 (fun sums i => (r (sums, i))) (fun a0 => (K .ret (mkS [(2, .v .bool)] 42 (a0, ())))) (K (.exit 0) (mkS [] 45 ()))

noncomputable def porterref03_Clash_h1 (N : Nat) : Hd Bool := fun st K => (unS [(0, .v (.sl .str)), (2, .row .str), (0, .v (.int .i64))] 40 (restr [4, 0, 3] 0 st)).bind fun x => iter (fun v r => porterref03_Clash_g1 N ((fun x => x.1) x) v r K) N ((fun x => (x.2.1, x.2.2.1)) x)

noncomputable def porterref03_Clash_t1 (N : Nat) : Tab Bool := [([0, 1, 1, 0, 0, 1, 0, 0, 1, 0, 1, 1], porterref03_Clash_h2 N)]

theorem porterref03_Clash_ok1 {N : Nat} {c : Ctx} (hb : Base Go.Proofs.Tryd.prog (porterref03_Clash_E N) c) : CodeOk Go.Proofs.Tryd.prog c (nodeAt porterref03_Clash_body [0, 1, 0, 1, 1]) (porterref03_Clash_h1 N) :=
  loop_ok (s := [(0, .v (.sl .str)), (2, .row .str), (0, .v (.int .i64))]) (m := 40) (porterref03_Clash_g1 N) [4, 0, 3] N (fun x => x.1) (fun x => (x.2.1, x.2.2.1)) (fun i v => (i, v.1, v.2, ())) (fun _ => rfl) (evN_sound hb N (porterref03_Clash_t1 N) porterref03_Clash_L porterref03_Clash_body (TabOk.cons (porterref03_Clash_ok2 hb) TabOk.nil) [0, 0, 1, 0, 1, 1] _ rfl) (fun i v r K => by kernel_rfl)

noncomputable def porterref03_Clash (N : Nat) (l : (List (List UInt8))) : Option Bool :=
  porterref03_Clash_p1 N l ([] : List (List UInt8)) (0 : Int)
  (fun x2 => some x2)
  (some false)

noncomputable def porterref03_Clash_t (N : Nat) : Tab Bool := [([0, 1, 0, 1, 1], porterref03_Clash_h1 N)]

theorem porterref03_Clash_link (N : Nat) (x : denS [(0, .v (.sl .str))]) : evFX (porterref03_Clash_E N) N (porterref03_Clash_t N) porterref03_Clash_L Go.Proofs.Tryd.f40 (mkS [(0, .v (.sl .str))] 0 x) (kRes (.v .bool) 1) = porterref03_Clash N x.1 := by kernel_rfl

noncomputable def porterref03_Clash_res (N : Nat) : List A → Res := resOf [(0, .v (.sl .str))] (fun x => porterref03_Clash N x.1) (oRes (.v .bool) 1)

theorem porterref03_Clash_ct (N : Nat) : Contract Go.Proofs.Tryd.prog glob 40 (porterref03_Clash_res N) :=
  Contract.of (E := porterref03_Clash_E N) (H := porterref03_Clash_t N) (L := porterref03_Clash_L) (N := N) (body := porterref03_Clash_body) (K := (kRes (.v .bool) 1)) (porterref03_Clash_Eok N) Go.Proofs.Tryd.func40 (by kernel_rfl) (by decide) (fun _ hb => (TabOk.cons (porterref03_Clash_ok1 hb) TabOk.nil)) (fun x y h => by rw [porterref03_Clash_link]; exact h) (kRes_ok (s := (.v .bool)) (m := 1))

abbrev porterlaw04_HmacApart_R : Type := Bool

noncomputable def porterlaw04_HmacApart_body : Code := (Go.Proofs.Tryd.f9.body).getD .skip

noncomputable def porterlaw04_HmacApart_L : List (List Nat × List Nat) := [([0], [2, 3]), ([0, 1], [5, 7, 6, 8]), ([0, 0, 1, 1], [44, 5, 6, 7, 8]), ([1, 0, 1, 1], [5, 6, 7, 8]), ([0, 0, 1, 0, 1, 1], [4]), ([1, 0, 1, 0, 1, 1], [4]), ([0, 0, 1, 1, 1], [52, 5, 6, 7, 8]), ([1, 0, 1, 1, 1], [5, 6, 7, 8]), ([0, 0, 1, 0, 1, 1, 1], [4]), ([1, 0, 1, 0, 1, 1, 1], [4]), ([0, 1, 1, 1, 1], [4]), ([1, 1, 1, 1, 1], [4])]

noncomputable def porterlaw04_HmacApart_E (N : Nat) : Env := mkEnv tys glob [(40, porterref03_Clash_res N), (41, porterref04_Texts_res N), (29, porterlaw04_works_res N), (30, hmac_Sum_res N)] [] [] [] false [] [(76, hmac_framed1_itr N), (79, hmac_split1_itr N)]

theorem porterlaw04_HmacApart_Eok (N : Nat) : EnvOk Go.Proofs.Tryd.prog (porterlaw04_HmacApart_E N) := mkEnv_ok mixed tys_ok (FnsOk.cons (porterref03_Clash_ct N) (FnsOk.cons (porterref04_Texts_ct N) (FnsOk.cons (porterlaw04_works_ct N) (FnsOk.cons (hmac_Sum_ct N) (FnsOk.nil))))) (ItsOk.cons (hmac_framed1_it N) (ItsOk.cons (hmac_split1_it N) (ItsOk.nil)))

noncomputable def porterlaw04_HmacApart_p2 (N : Nat) (k : (List UInt8)) (s : (List UInt8)) (m : (List UInt8)) (t : (List UInt8)) (k0 : Bool → Option Bool) : Option Bool :=
  cond ((((List.length k) : Nat) : Int) != (32 : Int))
  (k0 true)
  (cond ((((List.length m) : Nat) : Int) != (32 : Int))
    (k0 true)
    (cond (decide ((300 : Int) < (((List.length s) : Nat) : Int)))
      (k0 true)
      (cond (decide ((300 : Int) < (((List.length t) : Nat) : Int)))
        (k0 true)
        (cond (k == m)
          (k0 (s == t))
          (k0 false)))))

noncomputable def porterlaw04_HmacApart_g2 (N : Nat) (x : denS [(5, .v .str), (0, .v .str), (0, .v .str), (0, .v .str)]) (K : Ex → List A → Option Bool) : Option Bool :=
  porterlaw04_HmacApart_p2 N x.1 x.2.1 x.2.2.1 x.2.2.2.1 (fun a4 => (K .normal (mkS [(5, .v .str), (0, .v .str), (0, .v .str), (0, .v .str), (35, .v .bool)] 17 (x.1, x.2.1, x.2.2.1, x.2.2.2.1, a4, ()))))

noncomputable def porterlaw04_HmacApart_h2 (N : Nat) : Hd Bool := fun st K => (unS [(5, .v .str), (0, .v .str), (0, .v .str), (0, .v .str)] 53 (restr [5, 7, 6, 8] 0 st)).bind fun x => porterlaw04_HmacApart_g2 N x K

noncomputable def porterlaw04_HmacApart_t2 (N : Nat) : Tab Bool := []

theorem porterlaw04_HmacApart_ok2 {N : Nat} {c : Ctx} (hb : Base Go.Proofs.Tryd.prog (porterlaw04_HmacApart_E N) c) : CodeOk Go.Proofs.Tryd.prog c (nodeAt porterlaw04_HmacApart_body [0, 0, 1, 1]) (porterlaw04_HmacApart_h2 N) :=
  piece_ok (s := [(5, .v .str), (0, .v .str), (0, .v .str), (0, .v .str)]) (m := 53) (g := porterlaw04_HmacApart_g2 N) [5, 7, 6, 8] (evN_sound hb N (porterlaw04_HmacApart_t2 N) porterlaw04_HmacApart_L porterlaw04_HmacApart_body TabOk.nil [0, 0, 1, 1] _ rfl) (fun x K => by kernel_rfl)

noncomputable def porterlaw04_HmacApart_p1 (N : Nat) (k : (List UInt8)) (s : (List UInt8)) (m : (List UInt8)) (t : (List UInt8)) (k0 : Bool → Option Bool) (k1 : Option Bool) : Option Bool :=
  porterlaw04_HmacApart_p2 N k s m t
  (fun x44 => cond x44
    ((porterlaw04_works N).bind fun y =>
      k0 y)
    (k1))

noncomputable def porterlaw04_HmacApart_g1 (N : Nat) (x : denS [(5, .v .str), (0, .v .str), (0, .v .str), (0, .v .str)]) (K : Ex → List A → Option Bool) : Option Bool :=
  porterlaw04_HmacApart_p1 N x.1 x.2.1 x.2.2.1 x.2.2.2.1 (fun a0 => (K .ret (mkS [(4, .v .bool)] 57 (a0, ())))) (K .normal (mkS [(5, .v .str), (0, .v .str), (0, .v .str), (0, .v .str)] 53 (x.1, x.2.1, x.2.2.1, x.2.2.2.1, ())))

noncomputable def porterlaw04_HmacApart_h1 (N : Nat) : Hd Bool := fun st K => (unS [(5, .v .str), (0, .v .str), (0, .v .str), (0, .v .str)] 53 (restr [5, 7, 6, 8] 0 st)).bind fun x => porterlaw04_HmacApart_g1 N x K

noncomputable def porterlaw04_HmacApart_t1 (N : Nat) : Tab Bool := [([0, 0, 1, 1], porterlaw04_HmacApart_h2 N)]

theorem porterlaw04_HmacApart_ok1 {N : Nat} {c : Ctx} (hb : Base Go.Proofs.Tryd.prog (porterlaw04_HmacApart_E N) c) : CodeOk Go.Proofs.Tryd.prog c (nodeAt porterlaw04_HmacApart_body [0, 1, 1]) (porterlaw04_HmacApart_h1 N) :=
  piece_ok (s := [(5, .v .str), (0, .v .str), (0, .v .str), (0, .v .str)]) (m := 53) (g := porterlaw04_HmacApart_g1 N) [5, 7, 6, 8] (evN_sound hb N (porterlaw04_HmacApart_t1 N) porterlaw04_HmacApart_L porterlaw04_HmacApart_body (TabOk.cons (porterlaw04_HmacApart_ok2 hb) TabOk.nil) [0, 1, 1] _ rfl) (fun x K => by kernel_rfl)

noncomputable def porterlaw04_HmacApart (N : Nat) (a : (List (List UInt8))) (b : (List (List UInt8))) : Option Bool :=
  cond (decide (0 < (List.length a)))
  (cond (decide (1 < (List.length a)))
    (cond (decide (0 < (List.length b)))
      (cond (decide (1 < (List.length b)))
        (porterlaw04_HmacApart_p1 N (List.getD a 0 ([] : List UInt8)) (List.getD a 1 ([] : List UInt8)) (List.getD b 0 ([] : List UInt8)) (List.getD b 1 ([] : List UInt8))
          (fun x4 => some x4)
          ((hmac_Sum N (List.getD a 0 ([] : List UInt8)) (List.getD a 1 ([] : List UInt8))).bind fun y =>
            (hmac_Sum N (List.getD b 0 ([] : List UInt8)) (List.getD b 1 ([] : List UInt8))).bind fun y1 =>
            cond (!(y == y1))
            ((porterlaw04_works N).bind fun y2 =>
              some y2)
            ((porterref04_Texts N (List.getD a 0 ([] : List UInt8)) (List.getD a 1 ([] : List UInt8))).bind fun y3 =>
              (porterref04_Texts N (List.getD b 0 ([] : List UInt8)) (List.getD b 1 ([] : List UInt8))).bind fun y4 =>
              cond (decide ((((List.length y3) + (List.length y4)) * 16) ≤ 70368744177664))
              ((porterref03_Clash N (y3 ++ y4)).bind fun y5 =>
                some y5)
              (none))))
        (none))
      (none))
    (none))
  (none)

noncomputable def porterlaw04_HmacApart_t (N : Nat) : Tab Bool := [([0, 1, 1], porterlaw04_HmacApart_h1 N)]

theorem porterlaw04_HmacApart_link (N : Nat) (x : denS [(0, .v (.arr 2 .str)), (0, .v (.arr 2 .str))]) : evFX (porterlaw04_HmacApart_E N) N (porterlaw04_HmacApart_t N) porterlaw04_HmacApart_L Go.Proofs.Tryd.f9 (mkS [(0, .v (.arr 2 .str)), (0, .v (.arr 2 .str))] 0 x) (kRes (.v .bool) 2) = porterlaw04_HmacApart N x.1 x.2.1 := by kernel_rfl

noncomputable def porterlaw04_HmacApart_res (N : Nat) : List A → Res := resOf [(0, .v (.arr 2 .str)), (0, .v (.arr 2 .str))] (fun x => porterlaw04_HmacApart N x.1 x.2.1) (oRes (.v .bool) 2)

theorem porterlaw04_HmacApart_ct (N : Nat) : Contract Go.Proofs.Tryd.prog glob 9 (porterlaw04_HmacApart_res N) :=
  Contract.of (E := porterlaw04_HmacApart_E N) (H := porterlaw04_HmacApart_t N) (L := porterlaw04_HmacApart_L) (N := N) (body := porterlaw04_HmacApart_body) (K := (kRes (.v .bool) 2)) (porterlaw04_HmacApart_Eok N) Go.Proofs.Tryd.func9 (by kernel_rfl) (by decide) (fun _ hb => (TabOk.cons (porterlaw04_HmacApart_ok1 hb) TabOk.nil)) (fun x y h => by rw [porterlaw04_HmacApart_link]; exact h) (kRes_ok (s := (.v .bool)) (m := 2))

abbrev stream_number_R : Type := (List UInt8)

noncomputable def stream_number_body : Code := (Go.Proofs.Tryd.f67.body).getD .skip

noncomputable def stream_number_L : List (List Nat × List Nat) := [([0], [0]), ([0, 1], [3, 0]), ([0, 0, 1, 1], [6, 3, 0]), ([0, 1, 0, 1, 1], [6, 3, 0]), ([0, 0, 0, 1, 0, 1, 1], [7, 6, 3, 0]), ([0, 1, 0, 0, 1, 0, 1, 1], [6, 3, 0]), ([1, 0, 1, 0, 0, 1, 0, 1, 1], [3]), ([0, 0, 0, 1, 1, 0, 0, 1, 0, 1, 1], [3, 4, 0, 6]), ([1, 0, 0, 1, 1, 0, 0, 1, 0, 1, 1], [6, 3, 0]), ([0, 1, 1, 0, 0, 1, 0, 1, 1], [6, 3, 0]), ([1, 1, 1, 0, 0, 1, 0, 1, 1], [6, 3, 0]), ([1, 0, 1, 1], [3]), ([0, 1, 1, 1], [2]), ([1, 1, 1, 1], [2])]

noncomputable def stream_number_E (N : Nat) : Env := mkEnv tys glob [] [(3, (.int .u8))] [] [] false [] [(76, hmac_framed1_itr N), (79, hmac_split1_itr N)]

theorem stream_number_Eok (N : Nat) : EnvOk Go.Proofs.Tryd.prog (stream_number_E N) := mkEnv_ok mixed tys_ok (FnsOk.nil) (ItsOk.cons (hmac_framed1_it N) (ItsOk.cons (hmac_split1_it N) (ItsOk.nil)))

noncomputable def stream_number_s1 (N : Nat) (n : Int) (out : (List Int)) (x6 : Int) (rec : (List Int) → Int → Option (List UInt8)) (k0 : (List Int) → Option (List UInt8)) : Option (List UInt8) :=
  cond (decide (x6 < (8 : Int)))
  (cond (decide ((0 : Int) ≤ (Go.IntKind.wrap Go.IntKind.i64 ((8 : Int) * (Go.IntKind.wrap Go.IntKind.i64 ((7 : Int) - x6))))))
    (cond (Go.Lift.inR x6 (List.length out))
      (cond (decide ((Int.toNat x6) < (List.length out)))
        (rec (List.set out (Int.toNat x6) (Go.IntKind.wrap Go.IntKind.u8 (Go.Lift.shrI Go.IntKind.i64 n (Go.IntKind.wrap Go.IntKind.i64 ((8 : Int) * (Go.IntKind.wrap Go.IntKind.i64 ((7 : Int) - x6))))))) (Go.IntKind.wrap Go.IntKind.i64 (x6 + (1 : Int))))
        (none))
      (none))
    (none))
  (k0 out)

noncomputable def stream_number_p1 (N : Nat) (n : Int) (out : (List Int)) (x6 : Int) (k0 : (List Int) → Option (List UInt8)) : Option (List UInt8) :=
  iter (fun (v : ((List Int) × Int)) r => stream_number_s1 N n v.1 v.2 (fun out x6 => (r (out, x6))) k0) N (out, x6)

noncomputable def stream_number_g1 (N : Nat) (i : Int) (v : ((List Int) × Int)) (r : ((List Int) × Int) → Option (List UInt8)) (K : Ex → List A → Option (List UInt8)) : Option (List UInt8) :=
  stream_number_s1 N i v.1 v.2 (fun out x6 => (r (out, x6))) (fun a0 => (K (.exit 0) (mkS [(3, .row (.int .u8))] 17 (a0, ()))))

noncomputable def stream_number_h1 (N : Nat) : Hd (List UInt8) := fun st K => (unS [(0, .v (.int .i64)), (2, .row (.int .u8)), (2, .v (.int .i64))] 14 (restr [6, 3, 0] 0 st)).bind fun x => iter (fun v r => stream_number_g1 N ((fun x => x.1) x) v r K) N ((fun x => (x.2.1, x.2.2.1)) x)

noncomputable def stream_number_t1 (N : Nat) : Tab (List UInt8) := []

theorem stream_number_ok1 {N : Nat} {c : Ctx} (hb : Base Go.Proofs.Tryd.prog (stream_number_E N) c) : CodeOk Go.Proofs.Tryd.prog c (nodeAt stream_number_body [0, 1, 0, 1, 1]) (stream_number_h1 N) :=
  loop_ok (s := [(0, .v (.int .i64)), (2, .row (.int .u8)), (2, .v (.int .i64))]) (m := 14) (stream_number_g1 N) [6, 3, 0] N (fun x => x.1) (fun x => (x.2.1, x.2.2.1)) (fun i v => (i, v.1, v.2, ())) (fun _ => rfl) (evN_sound hb N (stream_number_t1 N) stream_number_L stream_number_body TabOk.nil [0, 0, 1, 0, 1, 1] _ rfl) (fun i v r K => by kernel_rfl)

noncomputable def stream_number (N : Nat) (n : Int) : Option (List UInt8) :=
  stream_number_p1 N n ([(0 : Int), (0 : Int), (0 : Int), (0 : Int), (0 : Int), (0 : Int), (0 : Int), (0 : Int)] : List Int) (0 : Int)
  (fun out => some (Go.Lift.toStr out))

noncomputable def stream_number_t (N : Nat) : Tab (List UInt8) := [([0, 1, 0, 1, 1], stream_number_h1 N)]

theorem stream_number_link (N : Nat) (x : denS [(0, .v (.int .i64))]) : evFX (stream_number_E N) N (stream_number_t N) stream_number_L Go.Proofs.Tryd.f67 (mkS [(0, .v (.int .i64))] 0 x) (kRes (.v .str) 1) = stream_number N x.1 := by kernel_rfl

noncomputable def stream_number_res (N : Nat) : List A → Res := resOf [(0, .v (.int .i64))] (fun x => stream_number N x.1) (oRes (.v .str) 1)

theorem stream_number_ct (N : Nat) : Contract Go.Proofs.Tryd.prog glob 67 (stream_number_res N) :=
  Contract.of (E := stream_number_E N) (H := stream_number_t N) (L := stream_number_L) (N := N) (body := stream_number_body) (K := (kRes (.v .str) 1)) (stream_number_Eok N) Go.Proofs.Tryd.func67 (by kernel_rfl) (by decide) (fun _ hb => (TabOk.cons (stream_number_ok1 hb) TabOk.nil)) (fun x y h => by rw [stream_number_link]; exact h) (kRes_ok (s := (.v .str)) (m := 1))

abbrev stream_Block_R : Type := (List UInt8)

noncomputable def stream_Block_body : Code := (Go.Proofs.Tryd.f43.body).getD .skip

noncomputable def stream_Block_L : List (List Nat × List Nat) := [([0], [2, 0, 1]), ([0, 0, 1], [8, 0, 1, 2]), ([1, 0, 1], [0, 1, 2]), ([0, 0, 1, 0, 1], [6]), ([1, 0, 1, 0, 1], [6]), ([0, 1, 1], [6]), ([1, 1, 1], [6])]

noncomputable def stream_Block_E (N : Nat) : Env := mkEnv tys glob [(67, stream_number_res N), (32, hmac_Parts_res N)] [] [] [] false [] [(76, hmac_framed1_itr N), (79, hmac_split1_itr N)]

theorem stream_Block_Eok (N : Nat) : EnvOk Go.Proofs.Tryd.prog (stream_Block_E N) := mkEnv_ok mixed tys_ok (FnsOk.cons (stream_number_ct N) (FnsOk.cons (hmac_Parts_ct N) (FnsOk.nil))) (ItsOk.cons (hmac_framed1_it N) (ItsOk.cons (hmac_split1_it N) (ItsOk.nil)))

noncomputable def stream_Block (N : Nat) (key : (List UInt8)) (nonce : (List UInt8)) (i : Int) : Option (List UInt8) :=
  cond (decide (i < (0 : Int)))
  (some ([] : List UInt8))
  ((stream_number N i).bind fun y =>
    (hmac_Parts N key ([([(115 : UInt8), (116 : UInt8), (114 : UInt8), (101 : UInt8), (97 : UInt8), (109 : UInt8)] : List UInt8), nonce, y] : List (List UInt8))).bind fun y1 =>
    some y1)

noncomputable def stream_Block_t (N : Nat) : Tab (List UInt8) := []

theorem stream_Block_link (N : Nat) (x : denS [(0, .v .str), (0, .v .str), (0, .v (.int .i64))]) : evFX (stream_Block_E N) N (stream_Block_t N) stream_Block_L Go.Proofs.Tryd.f43 (mkS [(0, .v .str), (0, .v .str), (0, .v (.int .i64))] 0 x) (kRes (.v .str) 3) = stream_Block N x.1 x.2.1 x.2.2.1 := by kernel_rfl

noncomputable def stream_Block_res (N : Nat) : List A → Res := resOf [(0, .v .str), (0, .v .str), (0, .v (.int .i64))] (fun x => stream_Block N x.1 x.2.1 x.2.2.1) (oRes (.v .str) 3)

theorem stream_Block_ct (N : Nat) : Contract Go.Proofs.Tryd.prog glob 43 (stream_Block_res N) :=
  Contract.of (E := stream_Block_E N) (H := stream_Block_t N) (L := stream_Block_L) (N := N) (body := stream_Block_body) (K := (kRes (.v .str) 3)) (stream_Block_Eok N) Go.Proofs.Tryd.func43 (by kernel_rfl) (by decide) (fun _ hb => TabOk.nil) (fun x y h => by rw [stream_Block_link]; exact h) (kRes_ok (s := (.v .str)) (m := 3))

abbrev stream_blocks1_R : Type := (List ((List UInt8) × Unit))

noncomputable def stream_blocks1_body : Code := (Go.Proofs.Tryd.f83.body).getD .skip

noncomputable def stream_blocks1_L : List (List Nat × List Nat) := [([0], [10, 9, 0, 2, 3]), ([0, 1], [10, 9, 0, 2, 3]), ([0, 0, 0, 1], [11, 10, 0, 2, 3, 9]), ([0, 1, 0, 0, 1], [10, 0, 2, 3, 9]), ([1, 0, 1, 0, 0, 1], [0]), ([0, 0, 0, 1, 1, 0, 0, 1], [0, 2, 3, 5, 10, 9]), ([0, 1, 0, 0, 1, 1, 0, 0, 1], [19, 0, 10, 9, 2, 3]), ([1, 1, 0, 0, 1, 1, 0, 0, 1], [10, 9, 0, 2, 3]), ([0, 1, 1, 0, 0, 1, 1, 0, 0, 1], [0]), ([0, 1, 1, 0, 0, 1], [10, 9, 0, 2, 3]), ([1, 1, 1, 0, 0, 1], [10, 9, 0, 2, 3]), ([1], [0])]

noncomputable def stream_blocks1_E (N : Nat) : Env := mkEnv tys glob [(43, stream_Block_res N)] [] [] [0] false [] []

theorem stream_blocks1_Eok (N : Nat) : EnvOk Go.Proofs.Tryd.prog (stream_blocks1_E N) := mkEnv_ok mixed tys_ok (FnsOk.cons (stream_Block_ct N) (FnsOk.nil)) ItsOk.nil

noncomputable def stream_blocks1_s1 (N : Nat) (x2 : (List UInt8)) (x3 : (List UInt8)) (x9 : Int) (x10 : Int) (rec : Int → Option (List ((List UInt8) × Unit))) (k0 : Option (List ((List UInt8) × Unit))) (k1 : Option (List ((List UInt8) × Unit))) : Option (List ((List UInt8) × Unit)) :=
  cond (decide (x10 < x9))
  ((stream_Block N x2 x3 x10).bind fun y =>
    comb (y, ())
    (rec (Go.IntKind.wrap Go.IntKind.i64 (x10 + (1 : Int))))
    (k0))
  (k1)

noncomputable def stream_blocks1_p1 (N : Nat) (x2 : (List UInt8)) (x3 : (List UInt8)) (x9 : Int) (x10 : Int) (k0 : Option (List ((List UInt8) × Unit))) (k1 : Option (List ((List UInt8) × Unit))) : Option (List ((List UInt8) × Unit)) :=
  iter (fun (v : Int) r => stream_blocks1_s1 N x2 x3 x9 v (fun x10 => (r x10)) k0 k1) N x10

noncomputable def stream_blocks1_g1 (N : Nat) (i : ((List UInt8) × (List UInt8) × Int)) (v : Int) (r : Int → Option (List ((List UInt8) × Unit))) (K : Ex → List A → Option (List ((List UInt8) × Unit))) : Option (List ((List UInt8) × Unit)) :=
  stream_blocks1_s1 N i.1 i.2.1 i.2.2 v (fun x10 => (r x10)) (K .ret (mkS [(0, .yld)] 20 ((), ()))) (K (.exit 0) (mkS [(0, .yld)] 20 ((), ())))

noncomputable def stream_blocks1_h1 (N : Nat) : Hd (List ((List UInt8) × Unit)) := fun st K => (unS [(0, .yld), (1, .v (.ptr .str)), (0, .v (.ptr .str)), (5, .v (.int .i64)), (0, .v (.int .i64))] 10 (restr [10, 9, 0, 2, 3] 0 st)).bind fun x => iter (fun v r => stream_blocks1_g1 N ((fun x => (x.2.1, x.2.2.1, x.2.2.2.1)) x) v r K) N ((fun x => x.2.2.2.2.1) x)

noncomputable def stream_blocks1_t1 (N : Nat) : Tab (List ((List UInt8) × Unit)) := []

theorem stream_blocks1_ok1 {N : Nat} {G : GY [.str]} (hG : RestrOk G) (hev : EvOk G Go.Proofs.Tryd.prog (stream_blocks1_E N) N stream_blocks1_L stream_blocks1_body) : YOk G Go.Proofs.Tryd.prog (nodeAt stream_blocks1_body [0, 1]) (stream_blocks1_h1 N) :=
  loopY_ok hG (s := [(0, .yld), (1, .v (.ptr .str)), (0, .v (.ptr .str)), (5, .v (.int .i64)), (0, .v (.int .i64))]) (m := 10) (stream_blocks1_g1 N) [10, 9, 0, 2, 3] N (fun x => (x.2.1, x.2.2.1, x.2.2.2.1)) (fun x => x.2.2.2.2.1) (fun i v => ((), i.1, i.2.1, i.2.2, v, ())) (fun _ => rfl) (hev (stream_blocks1_t1 N) TabOkY.nil [0, 0, 1]) (fun i v r K => by kernel_rfl)

noncomputable def stream_blocks1 (N : Nat) (x1 : Int) (x2 : (List UInt8)) (x3 : (List UInt8)) : Option (List ((List UInt8) × Unit)) :=
  stream_blocks1_p1 N x2 x3 (Go.IntKind.wrap Go.IntKind.i64 (Int.tdiv (Go.IntKind.wrap Go.IntKind.i64 ((Go.IntKind.wrap Go.IntKind.i64 (x1 + (32 : Int))) - (1 : Int))) (32 : Int))) (0 : Int)
  (some ([] : List ((List UInt8) × Unit)))
  (some ([] : List ((List UInt8) × Unit)))

noncomputable def stream_blocks1_t (N : Nat) : Tab (List ((List UInt8) × Unit)) := [([0, 1], stream_blocks1_h1 N)]

theorem stream_blocks1_link (N : Nat) (x : T.den (.pair (.ptr (.int .i64)) (.pair (.ptr .str) (.pair (.ptr .str) .unit)))) : evYX (stream_blocks1_E N) [.str] comb N (stream_blocks1_t N) stream_blocks1_L Go.Proofs.Tryd.f83 [.v (.ptr (.int .i64)) x.1, .v (.ptr .str) x.2.1, .v (.ptr .str) x.2.2.1] = stream_blocks1 N x.1 x.2.1 x.2.2.1 := by kernel_rfl

noncomputable def stream_blocks1_itr (N : Nat) : Dat → ItRes := itRes (ts := [.str]) (.pair (.ptr (.int .i64)) (.pair (.ptr .str) (.pair (.ptr .str) .unit))) (fun x => stream_blocks1 N x.1 x.2.1 x.2.2.1)

theorem stream_blocks1_it (N : Nat) : ItOk Go.Proofs.Tryd.prog glob 83 (stream_blocks1_itr N) := ItOk.of (ts := [.str]) (E := stream_blocks1_E N) (H := stream_blocks1_t N) (L := stream_blocks1_L) (N := N) (body := stream_blocks1_body) (stream_blocks1_Eok N) rfl Go.Proofs.Tryd.func83 (by kernel_rfl) (by decide) (fun G hG hev => (TabOkY.cons (stream_blocks1_ok1 hG hev) TabOkY.nil)) (fun x y h => ⟨_, rfl, by rw [stream_blocks1_link]; exact h⟩)

abbrev stream_blocks_R : Type := (Int × ((List UInt8) × ((List UInt8) × Unit)))

noncomputable def stream_blocks_body : Code := (Go.Proofs.Tryd.f69.body).getD .skip

noncomputable def stream_blocks_L : List (List Nat × List Nat) := [([0], [5, 3, 4]), ([0, 1], [6]), ([1, 1], [6])]

noncomputable def stream_blocks_E (N : Nat) : Env := mkEnv tys glob [] [] [] [] false [] [(83, stream_blocks1_itr N), (76, hmac_framed1_itr N), (79, hmac_split1_itr N)]

theorem stream_blocks_Eok (N : Nat) : EnvOk Go.Proofs.Tryd.prog (stream_blocks_E N) := mkEnv_ok mixed tys_ok (FnsOk.nil) (ItsOk.cons (stream_blocks1_it N) (ItsOk.cons (hmac_framed1_it N) (ItsOk.cons (hmac_split1_it N) (ItsOk.nil))))

noncomputable def stream_blocks (N : Nat) (key : (List UInt8)) (nonce : (List UInt8)) (n : Int) : Option (Int × ((List UInt8) × ((List UInt8) × Unit))) :=
  some (n, (key, (nonce, ())))

noncomputable def stream_blocks_t (N : Nat) : Tab (Int × ((List UInt8) × ((List UInt8) × Unit))) := []

theorem stream_blocks_link (N : Nat) (x : denS [(0, .v .str), (0, .v .str), (0, .v (.int .i64))]) : evFX (stream_blocks_E N) N (stream_blocks_t N) stream_blocks_L Go.Proofs.Tryd.f69 (mkS [(0, .v .str), (0, .v .str), (0, .v (.int .i64))] 0 x) (kRes (.v (.fn 83 (.pair (.ptr (.int .i64)) (.pair (.ptr .str) (.pair (.ptr .str) .unit))))) 3) = stream_blocks N x.1 x.2.1 x.2.2.1 := by kernel_rfl

noncomputable def stream_blocks_res (N : Nat) : List A → Res := resOf [(0, .v .str), (0, .v .str), (0, .v (.int .i64))] (fun x => stream_blocks N x.1 x.2.1 x.2.2.1) (oRes (.v (.fn 83 (.pair (.ptr (.int .i64)) (.pair (.ptr .str) (.pair (.ptr .str) .unit))))) 3)

theorem stream_blocks_ct (N : Nat) : Contract Go.Proofs.Tryd.prog glob 69 (stream_blocks_res N) :=
  Contract.of (E := stream_blocks_E N) (H := stream_blocks_t N) (L := stream_blocks_L) (N := N) (body := stream_blocks_body) (K := (kRes (.v (.fn 83 (.pair (.ptr (.int .i64)) (.pair (.ptr .str) (.pair (.ptr .str) .unit))))) 3)) (stream_blocks_Eok N) Go.Proofs.Tryd.func69 (by kernel_rfl) (by decide) (fun _ hb => TabOk.nil) (fun x y h => by rw [stream_blocks_link]; exact h) (kRes_ok (s := (.v (.fn 83 (.pair (.ptr (.int .i64)) (.pair (.ptr .str) (.pair (.ptr .str) .unit)))))) (m := 3))

abbrev stream_Take_R : Type := (List UInt8)

noncomputable def stream_Take_body : Code := (Go.Proofs.Tryd.f45.body).getD .skip

noncomputable def stream_Take_L : List (List Nat × List Nat) := [([0], [2, 0, 1]), ([0, 0, 1], [10, 2, 0, 1]), ([1, 0, 1], [2, 0, 1]), ([0, 0, 1, 0, 1], [6]), ([1, 0, 1, 0, 1], [6]), ([0, 1, 1], [0, 1, 2]), ([0, 1, 1, 1], [0, 1, 2, 7]), ([0, 0, 1, 1, 1, 1], [16, 7, 2]), ([0, 1, 0, 1, 1, 1, 1], [7, 2]), ([0, 0, 1, 0, 1, 1, 1, 1], [8, 7, 2]), ([0, 1, 0, 1, 0, 1, 1, 1, 1], [7, 2]), ([1, 0, 1, 0, 1, 1, 1, 1], [7, 2]), ([1, 0, 1, 1, 1, 1], [7, 2]), ([0, 1, 1, 1, 1, 1], [6]), ([1, 1, 1, 1, 1, 1], [6])]

noncomputable def stream_Take_E (N : Nat) : Env := mkEnv tys glob [(69, stream_blocks_res N), (61, strings_Builder_WriteString_res N), (62, str_res)] [] [] [] false [(7, (.pair (.self 77) (.pair (.own (.byt 5)) .unit)))] [(83, stream_blocks1_itr N), (76, hmac_framed1_itr N), (79, hmac_split1_itr N)]

theorem stream_Take_Eok (N : Nat) : EnvOk Go.Proofs.Tryd.prog (stream_Take_E N) := mkEnv_ok mixed tys_ok (FnsOk.cons (stream_blocks_ct N) (FnsOk.cons (strings_Builder_WriteString_ct N) (FnsOk.cons (str_ct glob) (FnsOk.nil)))) (ItsOk.cons (stream_blocks1_it N) (ItsOk.cons (hmac_framed1_it N) (ItsOk.cons (hmac_split1_it N) (ItsOk.nil))))

noncomputable def stream_Take_s1 (N : Nat) (n_1 : Int) (out_1 : (Unit × ((List Int) × Unit))) (y : ((List UInt8) × Unit)) (rec : (Unit × ((List Int) × Unit)) → Option (List UInt8)) (k0 : (Unit × ((List Int) × Unit)) → Option (List UInt8)) : Option (List UInt8) :=
  (strings_Builder_WriteString N out_1 y.1).bind fun y1 =>
  rec y1.2.1

noncomputable def stream_Take_fit1 (N : Nat) (n : Int) (out : (Unit × ((List Int) × Unit))) (x16 : (Int × ((List UInt8) × ((List UInt8) × Unit)))) : Option (List ((List UInt8) × Unit)) := (stream_blocks1 N x16.1 x16.2.1 x16.2.2.1)

noncomputable def stream_Take_i1 (N : Nat) (n : Int) (out : (Unit × ((List Int) × Unit))) (x16 : (Int × ((List UInt8) × ((List UInt8) × Unit)))) : Int := n

noncomputable def stream_Take_v1 (N : Nat) (n : Int) (out : (Unit × ((List Int) × Unit))) (x16 : (Int × ((List UInt8) × ((List UInt8) × Unit)))) : (Unit × ((List Int) × Unit)) := out

noncomputable def stream_Take_p1 (N : Nat) (n : Int) (out : (Unit × ((List Int) × Unit))) (x16 : (Int × ((List UInt8) × ((List UInt8) × Unit)))) (k0 : (Unit × ((List Int) × Unit)) → Option (List UInt8)) : Option (List UInt8) :=
  (stream_Take_fit1 N n out x16).bind fun ys => iterL (fun (y : ((List UInt8) × Unit)) (v : (Unit × ((List Int) × Unit))) r => stream_Take_s1 N n v y (fun out_1 => (r out_1)) k0) (fun (v : (Unit × ((List Int) × Unit))) => k0 v) ys out

noncomputable def stream_Take_g1 (N : Nat) (y : ((List UInt8) × Unit)) (i : Int) (v : (Unit × ((List Int) × Unit))) (r : (Unit × ((List Int) × Unit)) → Option (List UInt8)) (K : Ex → List A → Option (List UInt8)) : Option (List UInt8) :=
  stream_Take_s1 N i v y (fun out_1 => (r out_1)) (fun a1 => (K .normal (mkS [(2, .v (.int .i64)), (4, .box (.pair (.self 77) (.pair (.own (.byt 5)) .unit)))] 15 (i, a1, ()))))

noncomputable def stream_Take_h1 (N : Nat) : Hd (List UInt8) := fun st K => (unS [(2, .v (.int .i64)), (4, .box (.pair (.self 77) (.pair (.own (.byt 5)) .unit))), (8, .v (.fn 83 (.pair (.ptr (.int .i64)) (.pair (.ptr .str) (.pair (.ptr .str) .unit)))))] 6 (restr [16, 7, 2] 0 st)).bind fun x => ((fun x => stream_Take_fit1 N x.1 x.2.1 x.2.2.1) x).bind fun xs => iterL (fun y v r => stream_Take_g1 N y ((fun x => stream_Take_i1 N x.1 x.2.1 x.2.2.1) x) v r K) (fun v => K .normal (mkS [(2, .v (.int .i64)), (4, .box (.pair (.self 77) (.pair (.own (.byt 5)) .unit)))] 15 ((fun i v => (i, v, ())) ((fun x => stream_Take_i1 N x.1 x.2.1 x.2.2.1) x) v))) xs ((fun x => stream_Take_v1 N x.1 x.2.1 x.2.2.1) x)

noncomputable def stream_Take_t1 (N : Nat) : Tab (List UInt8) := []

theorem stream_Take_ok1 {N : Nat} {c : Ctx} (hb : Base Go.Proofs.Tryd.prog (stream_Take_E N) c) : CodeOk Go.Proofs.Tryd.prog c (nodeAt stream_Take_body [0, 1, 0, 1, 1, 1, 1]) (stream_Take_h1 N) :=
  rf_ok (ts := [.str]) (s := [(2, .v (.int .i64)), (4, .box (.pair (.self 77) (.pair (.own (.byt 5)) .unit))), (8, .v (.fn 83 (.pair (.ptr (.int .i64)) (.pair (.ptr .str) (.pair (.ptr .str) .unit)))))]) (m := 6) (s2 := [(2, .v (.int .i64)), (4, .box (.pair (.self 77) (.pair (.own (.byt 5)) .unit)))]) (m2 := 15) [16, 7, 2] (fun x => stream_Take_fit1 N x.1 x.2.1 x.2.2.1) (fun x => stream_Take_i1 N x.1 x.2.1 x.2.2.1) (fun x => stream_Take_v1 N x.1 x.2.1 x.2.2.1) (fun i v => (i, v, ())) (rfF (stream_Take_E N) N [.str] (nodeAt stream_Take_body [0, 1, 0, 1, 1, 1, 1])) (stream_Take_g1 N) (evN_sound hb N [] stream_Take_L stream_Take_body TabOk.nil [0, 1, 0, 1, 1, 1, 1] _ rfl) (fun x K => by kernel_rfl) (fun y i v r K => by kernel_rfl)

noncomputable def stream_Take (N : Nat) (key : (List UInt8)) (nonce : (List UInt8)) (n : Int) : Option (List UInt8) :=
  cond (decide (n < (1 : Int)))
  (some ([] : List UInt8))
  (stream_Take_p1 N (if ((65536 : Int) < n) then (65536 : Int) else n) ((), (([] : List Int), ())) ((if ((65536 : Int) < n) then (65536 : Int) else n), (key, (nonce, ())))
    (fun out_1 => (str_F (out_1, ())).bind fun y =>
      cond (decide (((0 : Int) ≤ (if ((65536 : Int) < n) then (65536 : Int) else n)) ∧ ((if ((65536 : Int) < n) then (65536 : Int) else n) ≤ (((List.length y.1) : Nat) : Int))))
      (some (Go.Lift.cut y.1 0 (Int.toNat (if ((65536 : Int) < n) then (65536 : Int) else n))))
      (none)))

noncomputable def stream_Take_t (N : Nat) : Tab (List UInt8) := [([0, 1, 0, 1, 1, 1, 1], stream_Take_h1 N)]

theorem stream_Take_link (N : Nat) (x : denS [(0, .v .str), (0, .v .str), (0, .v (.int .i64))]) : evFX (stream_Take_E N) N (stream_Take_t N) stream_Take_L Go.Proofs.Tryd.f45 (mkS [(0, .v .str), (0, .v .str), (0, .v (.int .i64))] 0 x) (kRes (.v .str) 3) = stream_Take N x.1 x.2.1 x.2.2.1 := by kernel_rfl

noncomputable def stream_Take_res (N : Nat) : List A → Res := resOf [(0, .v .str), (0, .v .str), (0, .v (.int .i64))] (fun x => stream_Take N x.1 x.2.1 x.2.2.1) (oRes (.v .str) 3)

theorem stream_Take_ct (N : Nat) : Contract Go.Proofs.Tryd.prog glob 45 (stream_Take_res N) :=
  Contract.of (E := stream_Take_E N) (H := stream_Take_t N) (L := stream_Take_L) (N := N) (body := stream_Take_body) (K := (kRes (.v .str) 3)) (stream_Take_Eok N) Go.Proofs.Tryd.func45 (by kernel_rfl) (by decide) (fun _ hb => (TabOk.cons (stream_Take_ok1 hb) TabOk.nil)) (fun x y h => by rw [stream_Take_link]; exact h) (kRes_ok (s := (.v .str)) (m := 3))

abbrev stream_Mix_R : Type := (List UInt8)

noncomputable def stream_Mix_body : Code := (Go.Proofs.Tryd.f47.body).getD .skip

noncomputable def stream_Mix_L : List (List Nat × List Nat) := [([0], [2, 0, 1]), ([0, 0, 1], [9, 2, 0, 1]), ([1, 0, 1], [2, 0, 1]), ([0, 0, 1, 0, 1], [6]), ([1, 0, 1, 0, 1], [6]), ([0, 1, 1], [6]), ([1, 1, 1], [6])]

noncomputable def stream_Mix_E (N : Nat) : Env := mkEnv tys glob [(45, stream_Take_res N), (70, octet_Xor_res N)] [] [] [] false [] [(83, stream_blocks1_itr N), (76, hmac_framed1_itr N), (79, hmac_split1_itr N)]

theorem stream_Mix_Eok (N : Nat) : EnvOk Go.Proofs.Tryd.prog (stream_Mix_E N) := mkEnv_ok mixed tys_ok (FnsOk.cons (stream_Take_ct N) (FnsOk.cons (octet_Xor_ct N) (FnsOk.nil))) (ItsOk.cons (stream_blocks1_it N) (ItsOk.cons (hmac_framed1_it N) (ItsOk.cons (hmac_split1_it N) (ItsOk.nil))))

noncomputable def stream_Mix (N : Nat) (key : (List UInt8)) (nonce : (List UInt8)) (text : (List UInt8)) : Option (List UInt8) :=
  cond (decide ((65536 : Int) < (((List.length text) : Nat) : Int)))
  (some ([] : List UInt8))
  ((stream_Take N key nonce (((List.length text) : Nat) : Int)).bind fun y =>
    (octet_Xor N text y).bind fun y1 =>
    some y1)

noncomputable def stream_Mix_t (N : Nat) : Tab (List UInt8) := []

theorem stream_Mix_link (N : Nat) (x : denS [(0, .v .str), (0, .v .str), (0, .v .str)]) : evFX (stream_Mix_E N) N (stream_Mix_t N) stream_Mix_L Go.Proofs.Tryd.f47 (mkS [(0, .v .str), (0, .v .str), (0, .v .str)] 0 x) (kRes (.v .str) 3) = stream_Mix N x.1 x.2.1 x.2.2.1 := by kernel_rfl

noncomputable def stream_Mix_res (N : Nat) : List A → Res := resOf [(0, .v .str), (0, .v .str), (0, .v .str)] (fun x => stream_Mix N x.1 x.2.1 x.2.2.1) (oRes (.v .str) 3)

theorem stream_Mix_ct (N : Nat) : Contract Go.Proofs.Tryd.prog glob 47 (stream_Mix_res N) :=
  Contract.of (E := stream_Mix_E N) (H := stream_Mix_t N) (L := stream_Mix_L) (N := N) (body := stream_Mix_body) (K := (kRes (.v .str) 3)) (stream_Mix_Eok N) Go.Proofs.Tryd.func47 (by kernel_rfl) (by decide) (fun _ hb => TabOk.nil) (fun x y h => by rw [stream_Mix_link]; exact h) (kRes_ok (s := (.v .str)) (m := 3))

abbrev porterlaw05_works_R : Type := Bool

noncomputable def porterlaw05_works_body : Code := (Go.Proofs.Tryd.f42.body).getD .skip

noncomputable def porterlaw05_works_L : List (List Nat × List Nat) := [([0], []), ([0, 1], [1]), ([0, 1, 1], [0]), ([1, 1, 1], [0])]

noncomputable def porterlaw05_works_E (N : Nat) : Env := mkEnv tys glob [(47, stream_Mix_res N), (45, stream_Take_res N), (43, stream_Block_res N), (32, hmac_Parts_res N)] [] [] [] false [] [(83, stream_blocks1_itr N), (76, hmac_framed1_itr N), (79, hmac_split1_itr N)]

theorem porterlaw05_works_Eok (N : Nat) : EnvOk Go.Proofs.Tryd.prog (porterlaw05_works_E N) := mkEnv_ok mixed tys_ok (FnsOk.cons (stream_Mix_ct N) (FnsOk.cons (stream_Take_ct N) (FnsOk.cons (stream_Block_ct N) (FnsOk.cons (hmac_Parts_ct N) (FnsOk.nil))))) (ItsOk.cons (stream_blocks1_it N) (ItsOk.cons (hmac_framed1_it N) (ItsOk.cons (hmac_split1_it N) (ItsOk.nil))))

noncomputable def porterlaw05_works (N : Nat) : Option Bool :=
  (stream_Block N ([(107 : UInt8)] : List UInt8) ([(110 : UInt8)] : List UInt8) (0 : Int)).bind fun y =>
  cond ((((List.length y) : Nat) : Int) == (32 : Int))
  ((stream_Take N ([(107 : UInt8)] : List UInt8) ([(110 : UInt8)] : List UInt8) (3 : Int)).bind fun y1 =>
    cond (decide (((0 : Int) ≤ (3 : Int)) ∧ ((3 : Int) ≤ (((List.length y) : Nat) : Int))))
    (cond (y1 == (Go.Lift.cut y 0 3))
      ((hmac_Parts N ([(107 : UInt8)] : List UInt8) ([([(115 : UInt8), (116 : UInt8), (114 : UInt8), (101 : UInt8), (97 : UInt8), (109 : UInt8)] : List UInt8), ([(110 : UInt8)] : List UInt8), ([(0 : UInt8), (0 : UInt8), (0 : UInt8), (0 : UInt8), (0 : UInt8), (0 : UInt8), (0 : UInt8), (0 : UInt8)] : List UInt8)] : List (List UInt8))).bind fun y2 =>
        cond (y == y2)
        ((stream_Mix N ([(107 : UInt8)] : List UInt8) ([(110 : UInt8)] : List UInt8) ([] : List UInt8)).bind fun y3 =>
          cond (y3 == ([] : List UInt8))
          (some (([] : List UInt8) == ([] : List UInt8)))
          (some false))
        (some false))
      (some false))
    (none))
  (some false)

noncomputable def porterlaw05_works_t (N : Nat) : Tab Bool := []

theorem porterlaw05_works_link (N : Nat) (x : denS []) : evFX (porterlaw05_works_E N) N (porterlaw05_works_t N) porterlaw05_works_L Go.Proofs.Tryd.f42 (mkS [] 0 x) (kRes (.v .bool) 0) = porterlaw05_works N := by kernel_rfl

noncomputable def porterlaw05_works_res (N : Nat) : List A → Res := resOf [] (fun x => porterlaw05_works N) (oRes (.v .bool) 0)

theorem porterlaw05_works_ct (N : Nat) : Contract Go.Proofs.Tryd.prog glob 42 (porterlaw05_works_res N) :=
  Contract.of (E := porterlaw05_works_E N) (H := porterlaw05_works_t N) (L := porterlaw05_works_L) (N := N) (body := porterlaw05_works_body) (K := (kRes (.v .bool) 0)) (porterlaw05_works_Eok N) Go.Proofs.Tryd.func42 (by kernel_rfl) (by decide) (fun _ hb => TabOk.nil) (fun x y h => by rw [porterlaw05_works_link]; exact h) (kRes_ok (s := (.v .bool)) (m := 0))

abbrev porterref05_number_R : Type := (List UInt8)

noncomputable def porterref05_number_body : Code := (Go.Proofs.Tryd.f68.body).getD .skip

noncomputable def porterref05_number_L : List (List Nat × List Nat) := [([0], [0]), ([0, 1], [0, 3]), ([0, 0, 1, 1], [4, 0, 3]), ([0, 1, 0, 1, 1], [4, 0, 3]), ([0, 0, 0, 0, 1, 0, 1, 1], [6, 0, 3, 4]), ([1, 0, 0, 0, 1, 0, 1, 1], [0, 3, 4]), ([1, 1, 0, 0, 0, 1, 0, 1, 1], [3]), ([0, 0, 0, 1, 0, 0, 1, 0, 1, 1], [0, 4, 3]), ([1, 0, 0, 1, 0, 0, 1, 0, 1, 1], [4, 0, 3]), ([0, 1, 0, 0, 1, 0, 1, 1], [4, 0, 3]), ([1, 1, 0, 0, 1, 0, 1, 1], [4, 0, 3]), ([1, 0, 1, 1], [3]), ([0, 1, 1, 1], [2]), ([1, 1, 1, 1], [2])]

noncomputable def porterref05_number_E (N : Nat) : Env := mkEnv tys glob [(81, porterref02_Byte_res N)] [] [] [] false [] [(83, stream_blocks1_itr N), (76, hmac_framed1_itr N), (79, hmac_split1_itr N)]

theorem porterref05_number_Eok (N : Nat) : EnvOk Go.Proofs.Tryd.prog (porterref05_number_E N) := mkEnv_ok mixed tys_ok (FnsOk.cons (porterref02_Byte_ct N) (FnsOk.nil)) (ItsOk.cons (stream_blocks1_it N) (ItsOk.cons (hmac_framed1_it N) (ItsOk.cons (hmac_split1_it N) (ItsOk.nil))))

noncomputable def porterref05_number_s1 (N : Nat) (n : Int) (out : (List UInt8)) (i : Int) (rec : Int → (List UInt8) → Int → Option (List UInt8)) (k0 : (List UInt8) → Option (List UInt8)) : Option (List UInt8) :=
  cond (decide (i < (8 : Int)))
  (cond (decide (((List.length (Go.Lift.toStr ([(Go.IntKind.wrap Go.IntKind.u8 (Int.tmod n (256 : Int)))] : List Int))) + (List.length out)) ≤ 9223372036854775807))
    (rec (Go.IntKind.wrap Go.IntKind.i64 (Int.tdiv n (256 : Int))) ((Go.Lift.toStr ([(Go.IntKind.wrap Go.IntKind.u8 (Int.tmod n (256 : Int)))] : List Int)) ++ out) (Go.IntKind.wrap Go.IntKind.i64 (i + (1 : Int))))
    (none))
  (k0 out)

noncomputable def porterref05_number_p1 (N : Nat) (n : Int) (out : (List UInt8)) (i : Int) (k0 : (List UInt8) → Option (List UInt8)) : Option (List UInt8) :=
  iter (fun (v : (Int × (List UInt8) × Int)) r => porterref05_number_s1 N v.1 v.2.1 v.2.2 (fun n out i => (r (n, out, i))) k0) N (n, out, i)

noncomputable def porterref05_number_g1 (N : Nat) (i : Unit) (v : (Int × (List UInt8) × Int)) (r : (Int × (List UInt8) × Int) → Option (List UInt8)) (K : Ex → List A → Option (List UInt8)) : Option (List UInt8) :=
  porterref05_number_s1 N v.1 v.2.1 v.2.2 (fun n out i => (r (n, out, i))) (fun a0 => (K (.exit 0) (mkS [(3, .v .str)] 13 (a0, ()))))

noncomputable def porterref05_number_h1 (N : Nat) : Hd (List UInt8) := fun st K => (unS [(0, .v (.int .i64)), (2, .v .str), (0, .v (.int .i64))] 12 (restr [4, 0, 3] 0 st)).bind fun x => iter (fun v r => porterref05_number_g1 N ((fun x => ()) x) v r K) N ((fun x => (x.1, x.2.1, x.2.2.1)) x)

noncomputable def porterref05_number_t1 (N : Nat) : Tab (List UInt8) := []

theorem porterref05_number_ok1 {N : Nat} {c : Ctx} (hb : Base Go.Proofs.Tryd.prog (porterref05_number_E N) c) : CodeOk Go.Proofs.Tryd.prog c (nodeAt porterref05_number_body [0, 1, 0, 1, 1]) (porterref05_number_h1 N) :=
  loop_ok (s := [(0, .v (.int .i64)), (2, .v .str), (0, .v (.int .i64))]) (m := 12) (porterref05_number_g1 N) [4, 0, 3] N (fun x => ()) (fun x => (x.1, x.2.1, x.2.2.1)) (fun i v => (v.1, v.2.1, v.2.2, ())) (fun _ => rfl) (evN_sound hb N (porterref05_number_t1 N) porterref05_number_L porterref05_number_body TabOk.nil [0, 0, 1, 0, 1, 1] _ rfl) (fun i v r K => by kernel_rfl)

noncomputable def porterref05_number (N : Nat) (n : Int) : Option (List UInt8) :=
  porterref05_number_p1 N n ([] : List UInt8) (0 : Int)
  (fun out => some out)

noncomputable def porterref05_number_t (N : Nat) : Tab (List UInt8) := [([0, 1, 0, 1, 1], porterref05_number_h1 N)]

theorem porterref05_number_link (N : Nat) (x : denS [(0, .v (.int .i64))]) : evFX (porterref05_number_E N) N (porterref05_number_t N) porterref05_number_L Go.Proofs.Tryd.f68 (mkS [(0, .v (.int .i64))] 0 x) (kRes (.v .str) 1) = porterref05_number N x.1 := by kernel_rfl

noncomputable def porterref05_number_res (N : Nat) : List A → Res := resOf [(0, .v (.int .i64))] (fun x => porterref05_number N x.1) (oRes (.v .str) 1)

theorem porterref05_number_ct (N : Nat) : Contract Go.Proofs.Tryd.prog glob 68 (porterref05_number_res N) :=
  Contract.of (E := porterref05_number_E N) (H := porterref05_number_t N) (L := porterref05_number_L) (N := N) (body := porterref05_number_body) (K := (kRes (.v .str) 1)) (porterref05_number_Eok N) Go.Proofs.Tryd.func68 (by kernel_rfl) (by decide) (fun _ hb => (TabOk.cons (porterref05_number_ok1 hb) TabOk.nil)) (fun x y h => by rw [porterref05_number_link]; exact h) (kRes_ok (s := (.v .str)) (m := 1))

abbrev porterref05_Block_R : Type := (List UInt8)

noncomputable def porterref05_Block_body : Code := (Go.Proofs.Tryd.f44.body).getD .skip

noncomputable def porterref05_Block_L : List (List Nat × List Nat) := [([0], [2, 0, 1]), ([0, 0, 1], [8, 0, 1, 2]), ([1, 0, 1], [0, 1, 2]), ([0, 0, 1, 0, 1], [6]), ([1, 0, 1, 0, 1], [6]), ([0, 1, 1], [6]), ([1, 1, 1], [6])]

noncomputable def porterref05_Block_E (N : Nat) : Env := mkEnv tys glob [(68, porterref05_number_res N), (33, porterref04_Parts_res N)] [] [] [] false [] [(83, stream_blocks1_itr N), (76, hmac_framed1_itr N), (79, hmac_split1_itr N)]

theorem porterref05_Block_Eok (N : Nat) : EnvOk Go.Proofs.Tryd.prog (porterref05_Block_E N) := mkEnv_ok mixed tys_ok (FnsOk.cons (porterref05_number_ct N) (FnsOk.cons (porterref04_Parts_ct N) (FnsOk.nil))) (ItsOk.cons (stream_blocks1_it N) (ItsOk.cons (hmac_framed1_it N) (ItsOk.cons (hmac_split1_it N) (ItsOk.nil))))

noncomputable def porterref05_Block (N : Nat) (key : (List UInt8)) (nonce : (List UInt8)) (i : Int) : Option (List UInt8) :=
  cond (decide (i < (0 : Int)))
  (some ([] : List UInt8))
  ((porterref05_number N i).bind fun y =>
    (porterref04_Parts N key ([([(115 : UInt8), (116 : UInt8), (114 : UInt8), (101 : UInt8), (97 : UInt8), (109 : UInt8)] : List UInt8), nonce, y] : List (List UInt8))).bind fun y1 =>
    some y1)

noncomputable def porterref05_Block_t (N : Nat) : Tab (List UInt8) := []

theorem porterref05_Block_link (N : Nat) (x : denS [(0, .v .str), (0, .v .str), (0, .v (.int .i64))]) : evFX (porterref05_Block_E N) N (porterref05_Block_t N) porterref05_Block_L Go.Proofs.Tryd.f44 (mkS [(0, .v .str), (0, .v .str), (0, .v (.int .i64))] 0 x) (kRes (.v .str) 3) = porterref05_Block N x.1 x.2.1 x.2.2.1 := by kernel_rfl

noncomputable def porterref05_Block_res (N : Nat) : List A → Res := resOf [(0, .v .str), (0, .v .str), (0, .v (.int .i64))] (fun x => porterref05_Block N x.1 x.2.1 x.2.2.1) (oRes (.v .str) 3)

theorem porterref05_Block_ct (N : Nat) : Contract Go.Proofs.Tryd.prog glob 44 (porterref05_Block_res N) :=
  Contract.of (E := porterref05_Block_E N) (H := porterref05_Block_t N) (L := porterref05_Block_L) (N := N) (body := porterref05_Block_body) (K := (kRes (.v .str) 3)) (porterref05_Block_Eok N) Go.Proofs.Tryd.func44 (by kernel_rfl) (by decide) (fun _ hb => TabOk.nil) (fun x y h => by rw [porterref05_Block_link]; exact h) (kRes_ok (s := (.v .str)) (m := 3))

abbrev porterref05_Take_R : Type := (List UInt8)

noncomputable def porterref05_Take_body : Code := (Go.Proofs.Tryd.f46.body).getD .skip

noncomputable def porterref05_Take_L : List (List Nat × List Nat) := [([0], [2, 0, 1]), ([0, 0, 1], [10, 0, 1, 2]), ([1, 0, 1], [2, 0, 1]), ([0, 1, 0, 1], [2, 0, 1]), ([0, 1, 1], [7, 2, 0, 1]), ([0, 0, 1, 1, 1], [7, 2, 0, 1, 8]), ([0, 1, 0, 1, 1, 1], [7, 2, 0, 1, 8]), ([0, 0, 0, 0, 1, 0, 1, 1, 1], [14, 7, 0, 1, 8, 2]), ([1, 0, 0, 0, 1, 0, 1, 1, 1], [7, 0, 1, 8, 2]), ([1, 1, 0, 0, 0, 1, 0, 1, 1, 1], [2, 7]), ([0, 0, 1, 0, 0, 1, 0, 1, 1, 1], [8, 7, 2, 0, 1]), ([0, 1, 0, 0, 1, 0, 1, 1, 1], [8, 7, 2, 0, 1]), ([1, 1, 0, 0, 1, 0, 1, 1, 1], [7, 2, 0, 1, 8]), ([1, 0, 1, 1, 1], [2, 7]), ([0, 0, 1, 1, 1, 1], [24, 7, 2]), ([1, 0, 1, 1, 1, 1], [7, 2]), ([0, 0, 1, 0, 1, 1, 1, 1], [6]), ([1, 0, 1, 0, 1, 1, 1, 1], [6]), ([0, 1, 1, 1, 1, 1], [6]), ([1, 1, 1, 1, 1, 1], [6])]

noncomputable def porterref05_Take_E (N : Nat) : Env := mkEnv tys glob [(44, porterref05_Block_res N)] [] [] [] false [] [(83, stream_blocks1_itr N), (76, hmac_framed1_itr N), (79, hmac_split1_itr N)]

theorem porterref05_Take_Eok (N : Nat) : EnvOk Go.Proofs.Tryd.prog (porterref05_Take_E N) := mkEnv_ok mixed tys_ok (FnsOk.cons (porterref05_Block_ct N) (FnsOk.nil)) (ItsOk.cons (stream_blocks1_it N) (ItsOk.cons (hmac_framed1_it N) (ItsOk.cons (hmac_split1_it N) (ItsOk.nil))))

noncomputable def porterref05_Take_p1 (N : Nat) (key : (List UInt8)) (nonce : (List UInt8)) (n : Int) (k0 : Int → Option (List UInt8)) : Option (List UInt8) :=
  cond (decide ((65536 : Int) < n))
  (k0 (65536 : Int))
  (k0 n)

noncomputable def porterref05_Take_g1 (N : Nat) (x : denS [(0, .v .str), (0, .v .str), (0, .v (.int .i64))]) (K : Ex → List A → Option (List UInt8)) : Option (List UInt8) :=
  porterref05_Take_p1 N x.1 x.2.1 x.2.2.1 (fun a2 => (K .normal (mkS [(0, .v .str), (0, .v .str), (0, .v (.int .i64))] 25 (x.1, x.2.1, a2, ()))))

noncomputable def porterref05_Take_h1 (N : Nat) : Hd (List UInt8) := fun st K => (unS [(0, .v .str), (0, .v .str), (0, .v (.int .i64))] 25 (restr [2, 0, 1] 0 st)).bind fun x => porterref05_Take_g1 N x K

noncomputable def porterref05_Take_t1 (N : Nat) : Tab (List UInt8) := []

theorem porterref05_Take_ok1 {N : Nat} {c : Ctx} (hb : Base Go.Proofs.Tryd.prog (porterref05_Take_E N) c) : CodeOk Go.Proofs.Tryd.prog c (nodeAt porterref05_Take_body [0, 1]) (porterref05_Take_h1 N) :=
  piece_ok (s := [(0, .v .str), (0, .v .str), (0, .v (.int .i64))]) (m := 25) (g := porterref05_Take_g1 N) [2, 0, 1] (evN_sound hb N (porterref05_Take_t1 N) porterref05_Take_L porterref05_Take_body TabOk.nil [0, 1] _ rfl) (fun x K => by kernel_rfl)

noncomputable def porterref05_Take_s2 (N : Nat) (key : (List UInt8)) (nonce : (List UInt8)) (n : Int) (out : (List UInt8)) (i : Int) (rec : (List UInt8) → Int → Option (List UInt8)) (k0 : (List UInt8) → Option (List UInt8)) : Option (List UInt8) :=
  cond (decide ((((List.length out) : Nat) : Int) < n))
  ((porterref05_Block N key nonce i).bind fun y =>
    cond (decide (((List.length out) + (List.length y)) ≤ 9223372036854775807))
    (rec (out ++ y) (Go.IntKind.wrap Go.IntKind.i64 (i + (1 : Int))))
    (none))
  (k0 out)

noncomputable def porterref05_Take_p2 (N : Nat) (key : (List UInt8)) (nonce : (List UInt8)) (n : Int) (out : (List UInt8)) (i : Int) (k0 : (List UInt8) → Option (List UInt8)) : Option (List UInt8) :=
  iter (fun (v : ((List UInt8) × Int)) r => porterref05_Take_s2 N key nonce n v.1 v.2 (fun out i => (r (out, i))) k0) N (out, i)

noncomputable def porterref05_Take_g2 (N : Nat) (i : ((List UInt8) × (List UInt8) × Int)) (v : ((List UInt8) × Int)) (r : ((List UInt8) × Int) → Option (List UInt8)) (K : Ex → List A → Option (List UInt8)) : Option (List UInt8) :=
  porterref05_Take_s2 N i.1 i.2.1 i.2.2 v.1 v.2 (fun out i => (r (out, i))) (fun a1 => (K (.exit 0) (mkS [(2, .v (.int .i64)), (4, .v .str)] 20 (i.2.2, a1, ()))))

noncomputable def porterref05_Take_h2 (N : Nat) : Hd (List UInt8) := fun st K => (unS [(0, .v .str), (0, .v .str), (0, .v (.int .i64)), (4, .v .str), (0, .v (.int .i64))] 19 (restr [7, 2, 0, 1, 8] 0 st)).bind fun x => iter (fun v r => porterref05_Take_g2 N ((fun x => (x.1, x.2.1, x.2.2.1)) x) v r K) N ((fun x => (x.2.2.2.1, x.2.2.2.2.1)) x)

noncomputable def porterref05_Take_t2 (N : Nat) : Tab (List UInt8) := []

theorem porterref05_Take_ok2 {N : Nat} {c : Ctx} (hb : Base Go.Proofs.Tryd.prog (porterref05_Take_E N) c) : CodeOk Go.Proofs.Tryd.prog c (nodeAt porterref05_Take_body [0, 1, 0, 1, 1, 1]) (porterref05_Take_h2 N) :=
  loop_ok (s := [(0, .v .str), (0, .v .str), (0, .v (.int .i64)), (4, .v .str), (0, .v (.int .i64))]) (m := 19) (porterref05_Take_g2 N) [7, 2, 0, 1, 8] N (fun x => (x.1, x.2.1, x.2.2.1)) (fun x => (x.2.2.2.1, x.2.2.2.2.1)) (fun i v => (i.1, i.2.1, i.2.2, v.1, v.2, ())) (fun _ => rfl) (evN_sound hb N (porterref05_Take_t2 N) porterref05_Take_L porterref05_Take_body TabOk.nil [0, 0, 1, 0, 1, 1, 1] _ rfl) (fun i v r K => by kernel_rfl)

noncomputable def porterref05_Take (N : Nat) (key : (List UInt8)) (nonce : (List UInt8)) (n : Int) : Option (List UInt8) :=
  porterref05_Take_p1 N key nonce n
  (fun n1 => porterref05_Take_p2 N key nonce n1 ([] : List UInt8) (0 : Int)
    (fun out => cond (decide (n1 < (1 : Int)))
      (some ([] : List UInt8))
      (cond (decide (((0 : Int) ≤ n1) ∧ (n1 ≤ (((List.length out) : Nat) : Int))))
        (some (Go.Lift.cut out 0 (Int.toNat n1)))
        (none))))

noncomputable def porterref05_Take_t (N : Nat) : Tab (List UInt8) := [([0, 1], porterref05_Take_h1 N), ([0, 1, 0, 1, 1, 1], porterref05_Take_h2 N)]

theorem porterref05_Take_link (N : Nat) (x : denS [(0, .v .str), (0, .v .str), (0, .v (.int .i64))]) : evFX (porterref05_Take_E N) N (porterref05_Take_t N) porterref05_Take_L Go.Proofs.Tryd.f46 (mkS [(0, .v .str), (0, .v .str), (0, .v (.int .i64))] 0 x) (kRes (.v .str) 3) = porterref05_Take N x.1 x.2.1 x.2.2.1 := by kernel_rfl

noncomputable def porterref05_Take_res (N : Nat) : List A → Res := resOf [(0, .v .str), (0, .v .str), (0, .v (.int .i64))] (fun x => porterref05_Take N x.1 x.2.1 x.2.2.1) (oRes (.v .str) 3)

theorem porterref05_Take_ct (N : Nat) : Contract Go.Proofs.Tryd.prog glob 46 (porterref05_Take_res N) :=
  Contract.of (E := porterref05_Take_E N) (H := porterref05_Take_t N) (L := porterref05_Take_L) (N := N) (body := porterref05_Take_body) (K := (kRes (.v .str) 3)) (porterref05_Take_Eok N) Go.Proofs.Tryd.func46 (by kernel_rfl) (by decide) (fun _ hb => (TabOk.cons (porterref05_Take_ok1 hb) (TabOk.cons (porterref05_Take_ok2 hb) TabOk.nil))) (fun x y h => by rw [porterref05_Take_link]; exact h) (kRes_ok (s := (.v .str)) (m := 3))

abbrev porterref05_Mix_R : Type := (List UInt8)

noncomputable def porterref05_Mix_body : Code := (Go.Proofs.Tryd.f48.body).getD .skip

noncomputable def porterref05_Mix_L : List (List Nat × List Nat) := [([0], [2, 0, 1]), ([0, 0, 1], [9, 2, 0, 1]), ([1, 0, 1], [2, 0, 1]), ([0, 0, 1, 0, 1], [6]), ([1, 0, 1, 0, 1], [6]), ([0, 1, 1], [6]), ([1, 1, 1], [6])]

noncomputable def porterref05_Mix_E (N : Nat) : Env := mkEnv tys glob [(46, porterref05_Take_res N), (71, porterref02_Xor_res N)] [] [] [] false [] [(83, stream_blocks1_itr N), (76, hmac_framed1_itr N), (79, hmac_split1_itr N)]

theorem porterref05_Mix_Eok (N : Nat) : EnvOk Go.Proofs.Tryd.prog (porterref05_Mix_E N) := mkEnv_ok mixed tys_ok (FnsOk.cons (porterref05_Take_ct N) (FnsOk.cons (porterref02_Xor_ct N) (FnsOk.nil))) (ItsOk.cons (stream_blocks1_it N) (ItsOk.cons (hmac_framed1_it N) (ItsOk.cons (hmac_split1_it N) (ItsOk.nil))))

noncomputable def porterref05_Mix (N : Nat) (key : (List UInt8)) (nonce : (List UInt8)) (text : (List UInt8)) : Option (List UInt8) :=
  cond (decide ((65536 : Int) < (((List.length text) : Nat) : Int)))
  (some ([] : List UInt8))
  ((porterref05_Take N key nonce (((List.length text) : Nat) : Int)).bind fun y =>
    (porterref02_Xor N text y).bind fun y1 =>
    some y1)

noncomputable def porterref05_Mix_t (N : Nat) : Tab (List UInt8) := []

theorem porterref05_Mix_link (N : Nat) (x : denS [(0, .v .str), (0, .v .str), (0, .v .str)]) : evFX (porterref05_Mix_E N) N (porterref05_Mix_t N) porterref05_Mix_L Go.Proofs.Tryd.f48 (mkS [(0, .v .str), (0, .v .str), (0, .v .str)] 0 x) (kRes (.v .str) 3) = porterref05_Mix N x.1 x.2.1 x.2.2.1 := by kernel_rfl

noncomputable def porterref05_Mix_res (N : Nat) : List A → Res := resOf [(0, .v .str), (0, .v .str), (0, .v .str)] (fun x => porterref05_Mix N x.1 x.2.1 x.2.2.1) (oRes (.v .str) 3)

theorem porterref05_Mix_ct (N : Nat) : Contract Go.Proofs.Tryd.prog glob 48 (porterref05_Mix_res N) :=
  Contract.of (E := porterref05_Mix_E N) (H := porterref05_Mix_t N) (L := porterref05_Mix_L) (N := N) (body := porterref05_Mix_body) (K := (kRes (.v .str) 3)) (porterref05_Mix_Eok N) Go.Proofs.Tryd.func48 (by kernel_rfl) (by decide) (fun _ hb => TabOk.nil) (fun x y h => by rw [porterref05_Mix_link]; exact h) (kRes_ok (s := (.v .str)) (m := 3))

abbrev porterlaw05_StreamBytes_R : Type := Bool

noncomputable def porterlaw05_StreamBytes_body : Code := (Go.Proofs.Tryd.f10.body).getD .skip

noncomputable def porterlaw05_StreamBytes_L : List (List Nat × List Nat) := [([0], [0, 1, 2]), ([0, 0, 1], [23, 2, 0, 1]), ([1, 0, 1], [2, 0, 1]), ([0, 0, 1, 0, 1], [6]), ([1, 0, 1, 0, 1], [6]), ([0, 1, 1], [2, 0, 1, 7]), ([0, 0, 1, 1, 1], [27, 0, 1, 7, 2]), ([1, 0, 1, 1, 1], [0, 1, 7, 2]), ([0, 1, 0, 1, 1, 1], [0, 1, 7, 2]), ([0, 1, 1, 1, 1], [6]), ([1, 1, 1, 1, 1], [6])]

noncomputable def porterlaw05_StreamBytes_E (N : Nat) : Env := mkEnv tys glob [(48, porterref05_Mix_res N), (46, porterref05_Take_res N), (44, porterref05_Block_res N), (42, porterlaw05_works_res N), (47, stream_Mix_res N), (45, stream_Take_res N), (43, stream_Block_res N)] [] [] [] false [] [(83, stream_blocks1_itr N), (76, hmac_framed1_itr N), (79, hmac_split1_itr N)]

theorem porterlaw05_StreamBytes_Eok (N : Nat) : EnvOk Go.Proofs.Tryd.prog (porterlaw05_StreamBytes_E N) := mkEnv_ok mixed tys_ok (FnsOk.cons (porterref05_Mix_ct N) (FnsOk.cons (porterref05_Take_ct N) (FnsOk.cons (porterref05_Block_ct N) (FnsOk.cons (porterlaw05_works_ct N) (FnsOk.cons (stream_Mix_ct N) (FnsOk.cons (stream_Take_ct N) (FnsOk.cons (stream_Block_ct N) (FnsOk.nil)))))))) (ItsOk.cons (stream_blocks1_it N) (ItsOk.cons (hmac_framed1_it N) (ItsOk.cons (hmac_split1_it N) (ItsOk.nil))))

noncomputable def porterlaw05_StreamBytes_p2 (N : Nat) (key : (List UInt8)) (text : (List UInt8)) (n : Int) (k0 : Bool → Option Bool) : Option Bool :=
  cond (decide ((100 : Int) < (((List.length key) : Nat) : Int)))
  (k0 true)
  (cond (decide ((200 : Int) < (((List.length text) : Nat) : Int)))
    (k0 true)
    (cond (decide ((200 : Int) < n))
      (k0 (decide (n ≤ (65536 : Int))))
      (k0 false)))

noncomputable def porterlaw05_StreamBytes_g2 (N : Nat) (x : denS [(0, .v .str), (0, .v .str), (0, .v (.int .i64))]) (K : Ex → List A → Option Bool) : Option Bool :=
  porterlaw05_StreamBytes_p2 N x.1 x.2.1 x.2.2.1 (fun a3 => (K .normal (mkS [(0, .v .str), (0, .v .str), (0, .v (.int .i64)), (20, .v .bool)] 36 (x.1, x.2.1, x.2.2.1, a3, ()))))

noncomputable def porterlaw05_StreamBytes_h2 (N : Nat) : Hd Bool := fun st K => (unS [(0, .v .str), (0, .v .str), (0, .v (.int .i64))] 57 (restr [0, 1, 2] 0 st)).bind fun x => porterlaw05_StreamBytes_g2 N x K

noncomputable def porterlaw05_StreamBytes_t2 (N : Nat) : Tab Bool := []

theorem porterlaw05_StreamBytes_ok2 {N : Nat} {c : Ctx} (hb : Base Go.Proofs.Tryd.prog (porterlaw05_StreamBytes_E N) c) : CodeOk Go.Proofs.Tryd.prog c (nodeAt porterlaw05_StreamBytes_body [0, 0, 1]) (porterlaw05_StreamBytes_h2 N) :=
  piece_ok (s := [(0, .v .str), (0, .v .str), (0, .v (.int .i64))]) (m := 57) (g := porterlaw05_StreamBytes_g2 N) [0, 1, 2] (evN_sound hb N (porterlaw05_StreamBytes_t2 N) porterlaw05_StreamBytes_L porterlaw05_StreamBytes_body TabOk.nil [0, 0, 1] _ rfl) (fun x K => by kernel_rfl)

noncomputable def porterlaw05_StreamBytes_p1 (N : Nat) (key : (List UInt8)) (text : (List UInt8)) (n : Int) (k0 : Bool → Option Bool) (k1 : Option Bool) : Option Bool :=
  porterlaw05_StreamBytes_p2 N key text n
  (fun x23 => cond x23
    ((porterlaw05_works N).bind fun y =>
      k0 y)
    (k1))

noncomputable def porterlaw05_StreamBytes_g1 (N : Nat) (x : denS [(0, .v .str), (0, .v .str), (0, .v (.int .i64))]) (K : Ex → List A → Option Bool) : Option Bool :=
  porterlaw05_StreamBytes_p1 N x.1 x.2.1 x.2.2.1 (fun a0 => (K .ret (mkS [(6, .v .bool)] 53 (a0, ())))) (K .normal (mkS [(0, .v .str), (0, .v .str), (0, .v (.int .i64))] 57 (x.1, x.2.1, x.2.2.1, ())))

noncomputable def porterlaw05_StreamBytes_h1 (N : Nat) : Hd Bool := fun st K => (unS [(0, .v .str), (0, .v .str), (0, .v (.int .i64))] 57 (restr [0, 1, 2] 0 st)).bind fun x => porterlaw05_StreamBytes_g1 N x K

noncomputable def porterlaw05_StreamBytes_t1 (N : Nat) : Tab Bool := [([0, 0, 1], porterlaw05_StreamBytes_h2 N)]

theorem porterlaw05_StreamBytes_ok1 {N : Nat} {c : Ctx} (hb : Base Go.Proofs.Tryd.prog (porterlaw05_StreamBytes_E N) c) : CodeOk Go.Proofs.Tryd.prog c (nodeAt porterlaw05_StreamBytes_body [0, 1]) (porterlaw05_StreamBytes_h1 N) :=
  piece_ok (s := [(0, .v .str), (0, .v .str), (0, .v (.int .i64))]) (m := 57) (g := porterlaw05_StreamBytes_g1 N) [0, 1, 2] (evN_sound hb N (porterlaw05_StreamBytes_t1 N) porterlaw05_StreamBytes_L porterlaw05_StreamBytes_body (TabOk.cons (porterlaw05_StreamBytes_ok2 hb) TabOk.nil) [0, 1] _ rfl) (fun x K => by kernel_rfl)

noncomputable def porterlaw05_StreamBytes_p3 (N : Nat) (key : (List UInt8)) (text : (List UInt8)) (n : Int) (i : Int) (k0 : Int → Option Bool) : Option Bool :=
  cond (decide ((200 : Int) < n))
  (k0 (70 : Int))
  (k0 n)

noncomputable def porterlaw05_StreamBytes_g3 (N : Nat) (x : denS [(0, .v .str), (0, .v .str), (0, .v (.int .i64)), (4, .v (.int .i64))]) (K : Ex → List A → Option Bool) : Option Bool :=
  porterlaw05_StreamBytes_p3 N x.1 x.2.1 x.2.2.1 x.2.2.2.1 (fun a2 => (K .normal (mkS [(0, .v .str), (0, .v .str), (0, .v (.int .i64)), (4, .v (.int .i64))] 52 (x.1, x.2.1, a2, x.2.2.2.1, ()))))

noncomputable def porterlaw05_StreamBytes_h3 (N : Nat) : Hd Bool := fun st K => (unS [(0, .v .str), (0, .v .str), (0, .v (.int .i64)), (4, .v (.int .i64))] 52 (restr [2, 0, 1, 7] 0 st)).bind fun x => porterlaw05_StreamBytes_g3 N x K

noncomputable def porterlaw05_StreamBytes_t3 (N : Nat) : Tab Bool := []

theorem porterlaw05_StreamBytes_ok3 {N : Nat} {c : Ctx} (hb : Base Go.Proofs.Tryd.prog (porterlaw05_StreamBytes_E N) c) : CodeOk Go.Proofs.Tryd.prog c (nodeAt porterlaw05_StreamBytes_body [0, 1, 1, 1]) (porterlaw05_StreamBytes_h3 N) :=
  piece_ok (s := [(0, .v .str), (0, .v .str), (0, .v (.int .i64)), (4, .v (.int .i64))]) (m := 52) (g := porterlaw05_StreamBytes_g3 N) [2, 0, 1, 7] (evN_sound hb N (porterlaw05_StreamBytes_t3 N) porterlaw05_StreamBytes_L porterlaw05_StreamBytes_body TabOk.nil [0, 1, 1, 1] _ rfl) (fun x K => by kernel_rfl)

noncomputable def porterlaw05_StreamBytes (N : Nat) (key : (List UInt8)) (text : (List UInt8)) (n : Int) : Option Bool :=
  porterlaw05_StreamBytes_p1 N key text n
  (fun x6 => some x6)
  (porterlaw05_StreamBytes_p3 N key text n n
    (fun n1 => (stream_Block N key text n).bind fun y =>
      (porterref05_Block N key text n).bind fun y1 =>
      cond (y == y1)
      ((stream_Take N key text n1).bind fun y2 =>
        (porterref05_Take N key text n1).bind fun y3 =>
        cond (y2 == y3)
        ((stream_Mix N key ([(110 : UInt8)] : List UInt8) text).bind fun y4 =>
          (porterref05_Mix N key ([(110 : UInt8)] : List UInt8) text).bind fun y5 =>
          cond (y4 == y5)
          ((porterlaw05_works N).bind fun y6 =>
            some y6)
          (some false))
        (some false))
      (some false)))

noncomputable def porterlaw05_StreamBytes_t (N : Nat) : Tab Bool := [([0, 1], porterlaw05_StreamBytes_h1 N), ([0, 1, 1, 1], porterlaw05_StreamBytes_h3 N)]

theorem porterlaw05_StreamBytes_link (N : Nat) (x : denS [(0, .v .str), (0, .v .str), (0, .v (.int .i64))]) : evFX (porterlaw05_StreamBytes_E N) N (porterlaw05_StreamBytes_t N) porterlaw05_StreamBytes_L Go.Proofs.Tryd.f10 (mkS [(0, .v .str), (0, .v .str), (0, .v (.int .i64))] 0 x) (kRes (.v .bool) 3) = porterlaw05_StreamBytes N x.1 x.2.1 x.2.2.1 := by kernel_rfl

noncomputable def porterlaw05_StreamBytes_res (N : Nat) : List A → Res := resOf [(0, .v .str), (0, .v .str), (0, .v (.int .i64))] (fun x => porterlaw05_StreamBytes N x.1 x.2.1 x.2.2.1) (oRes (.v .bool) 3)

theorem porterlaw05_StreamBytes_ct (N : Nat) : Contract Go.Proofs.Tryd.prog glob 10 (porterlaw05_StreamBytes_res N) :=
  Contract.of (E := porterlaw05_StreamBytes_E N) (H := porterlaw05_StreamBytes_t N) (L := porterlaw05_StreamBytes_L) (N := N) (body := porterlaw05_StreamBytes_body) (K := (kRes (.v .bool) 3)) (porterlaw05_StreamBytes_Eok N) Go.Proofs.Tryd.func10 (by kernel_rfl) (by decide) (fun _ hb => (TabOk.cons (porterlaw05_StreamBytes_ok1 hb) (TabOk.cons (porterlaw05_StreamBytes_ok3 hb) TabOk.nil))) (fun x y h => by rw [porterlaw05_StreamBytes_link]; exact h) (kRes_ok (s := (.v .bool)) (m := 3))

abbrev porterlaw05_StreamBack_R : Type := Bool

noncomputable def porterlaw05_StreamBack_body : Code := (Go.Proofs.Tryd.f11.body).getD .skip

noncomputable def porterlaw05_StreamBack_L : List (List Nat × List Nat) := [([0], [0, 1, 2]), ([0, 0, 1], [20, 0, 1, 2]), ([1, 0, 1], [0, 1, 2]), ([0, 0, 1, 0, 1], [6]), ([1, 0, 1, 0, 1], [6]), ([0, 1, 1], [7, 2, 0, 1]), ([0, 1, 1, 1], [6]), ([1, 1, 1, 1], [6])]

noncomputable def porterlaw05_StreamBack_E (N : Nat) : Env := mkEnv tys glob [(42, porterlaw05_works_res N), (47, stream_Mix_res N)] [] [] [] false [] [(83, stream_blocks1_itr N), (76, hmac_framed1_itr N), (79, hmac_split1_itr N)]

theorem porterlaw05_StreamBack_Eok (N : Nat) : EnvOk Go.Proofs.Tryd.prog (porterlaw05_StreamBack_E N) := mkEnv_ok mixed tys_ok (FnsOk.cons (porterlaw05_works_ct N) (FnsOk.cons (stream_Mix_ct N) (FnsOk.nil))) (ItsOk.cons (stream_blocks1_it N) (ItsOk.cons (hmac_framed1_it N) (ItsOk.cons (hmac_split1_it N) (ItsOk.nil))))

noncomputable def porterlaw05_StreamBack_p2 (N : Nat) (key : (List UInt8)) (nonce : (List UInt8)) (text : (List UInt8)) (k0 : Bool → Option Bool) : Option Bool :=
  cond (decide ((100 : Int) < (((List.length key) : Nat) : Int)))
  (k0 true)
  (cond (decide ((100 : Int) < (((List.length nonce) : Nat) : Int)))
    (k0 true)
    (k0 (decide ((300 : Int) < (((List.length text) : Nat) : Int)))))

noncomputable def porterlaw05_StreamBack_g2 (N : Nat) (x : denS [(0, .v .str), (0, .v .str), (0, .v .str)]) (K : Ex → List A → Option Bool) : Option Bool :=
  porterlaw05_StreamBack_p2 N x.1 x.2.1 x.2.2.1 (fun a3 => (K .normal (mkS [(0, .v .str), (0, .v .str), (0, .v .str), (17, .v .bool)] 21 (x.1, x.2.1, x.2.2.1, a3, ()))))

noncomputable def porterlaw05_StreamBack_h2 (N : Nat) : Hd Bool := fun st K => (unS [(0, .v .str), (0, .v .str), (0, .v .str)] 39 (restr [0, 1, 2] 0 st)).bind fun x => porterlaw05_StreamBack_g2 N x K

noncomputable def porterlaw05_StreamBack_t2 (N : Nat) : Tab Bool := []

theorem porterlaw05_StreamBack_ok2 {N : Nat} {c : Ctx} (hb : Base Go.Proofs.Tryd.prog (porterlaw05_StreamBack_E N) c) : CodeOk Go.Proofs.Tryd.prog c (nodeAt porterlaw05_StreamBack_body [0, 0, 1]) (porterlaw05_StreamBack_h2 N) :=
  piece_ok (s := [(0, .v .str), (0, .v .str), (0, .v .str)]) (m := 39) (g := porterlaw05_StreamBack_g2 N) [0, 1, 2] (evN_sound hb N (porterlaw05_StreamBack_t2 N) porterlaw05_StreamBack_L porterlaw05_StreamBack_body TabOk.nil [0, 0, 1] _ rfl) (fun x K => by kernel_rfl)

noncomputable def porterlaw05_StreamBack_p1 (N : Nat) (key : (List UInt8)) (nonce : (List UInt8)) (text : (List UInt8)) (k0 : Bool → Option Bool) (k1 : Option Bool) : Option Bool :=
  porterlaw05_StreamBack_p2 N key nonce text
  (fun x20 => cond x20
    ((porterlaw05_works N).bind fun y =>
      k0 y)
    (k1))

noncomputable def porterlaw05_StreamBack_g1 (N : Nat) (x : denS [(0, .v .str), (0, .v .str), (0, .v .str)]) (K : Ex → List A → Option Bool) : Option Bool :=
  porterlaw05_StreamBack_p1 N x.1 x.2.1 x.2.2.1 (fun a0 => (K .ret (mkS [(6, .v .bool)] 35 (a0, ())))) (K .normal (mkS [(0, .v .str), (0, .v .str), (0, .v .str)] 39 (x.1, x.2.1, x.2.2.1, ())))

noncomputable def porterlaw05_StreamBack_h1 (N : Nat) : Hd Bool := fun st K => (unS [(0, .v .str), (0, .v .str), (0, .v .str)] 39 (restr [0, 1, 2] 0 st)).bind fun x => porterlaw05_StreamBack_g1 N x K

noncomputable def porterlaw05_StreamBack_t1 (N : Nat) : Tab Bool := [([0, 0, 1], porterlaw05_StreamBack_h2 N)]

theorem porterlaw05_StreamBack_ok1 {N : Nat} {c : Ctx} (hb : Base Go.Proofs.Tryd.prog (porterlaw05_StreamBack_E N) c) : CodeOk Go.Proofs.Tryd.prog c (nodeAt porterlaw05_StreamBack_body [0, 1]) (porterlaw05_StreamBack_h1 N) :=
  piece_ok (s := [(0, .v .str), (0, .v .str), (0, .v .str)]) (m := 39) (g := porterlaw05_StreamBack_g1 N) [0, 1, 2] (evN_sound hb N (porterlaw05_StreamBack_t1 N) porterlaw05_StreamBack_L porterlaw05_StreamBack_body (TabOk.cons (porterlaw05_StreamBack_ok2 hb) TabOk.nil) [0, 1] _ rfl) (fun x K => by kernel_rfl)

noncomputable def porterlaw05_StreamBack (N : Nat) (key : (List UInt8)) (nonce : (List UInt8)) (text : (List UInt8)) : Option Bool :=
  porterlaw05_StreamBack_p1 N key nonce text
  (fun x6 => some x6)
  ((stream_Mix N key nonce text).bind fun y =>
    cond ((((List.length y) : Nat) : Int) == (((List.length text) : Nat) : Int))
    ((stream_Mix N key nonce y).bind fun y1 =>
      cond (y1 == text)
      ((porterlaw05_works N).bind fun y2 =>
        some y2)
      (some false))
    (some false))

noncomputable def porterlaw05_StreamBack_t (N : Nat) : Tab Bool := [([0, 1], porterlaw05_StreamBack_h1 N)]

theorem porterlaw05_StreamBack_link (N : Nat) (x : denS [(0, .v .str), (0, .v .str), (0, .v .str)]) : evFX (porterlaw05_StreamBack_E N) N (porterlaw05_StreamBack_t N) porterlaw05_StreamBack_L Go.Proofs.Tryd.f11 (mkS [(0, .v .str), (0, .v .str), (0, .v .str)] 0 x) (kRes (.v .bool) 3) = porterlaw05_StreamBack N x.1 x.2.1 x.2.2.1 := by kernel_rfl

noncomputable def porterlaw05_StreamBack_res (N : Nat) : List A → Res := resOf [(0, .v .str), (0, .v .str), (0, .v .str)] (fun x => porterlaw05_StreamBack N x.1 x.2.1 x.2.2.1) (oRes (.v .bool) 3)

theorem porterlaw05_StreamBack_ct (N : Nat) : Contract Go.Proofs.Tryd.prog glob 11 (porterlaw05_StreamBack_res N) :=
  Contract.of (E := porterlaw05_StreamBack_E N) (H := porterlaw05_StreamBack_t N) (L := porterlaw05_StreamBack_L) (N := N) (body := porterlaw05_StreamBack_body) (K := (kRes (.v .bool) 3)) (porterlaw05_StreamBack_Eok N) Go.Proofs.Tryd.func11 (by kernel_rfl) (by decide) (fun _ hb => (TabOk.cons (porterlaw05_StreamBack_ok1 hb) TabOk.nil)) (fun x y h => by rw [porterlaw05_StreamBack_link]; exact h) (kRes_ok (s := (.v .bool)) (m := 3))

abbrev porterlaw05_StreamBegins_R : Type := Bool

noncomputable def porterlaw05_StreamBegins_body : Code := (Go.Proofs.Tryd.f12.body).getD .skip

noncomputable def porterlaw05_StreamBegins_L : List (List Nat × List Nat) := [([0], [0, 1, 2]), ([0, 0, 1], [26, 0, 1, 2]), ([1, 0, 1], [0, 1, 2]), ([0, 0, 1, 0, 1], [6]), ([1, 0, 1, 0, 1], [6]), ([0, 1, 1], [0, 1, 7, 2]), ([0, 1, 1, 1], [7, 1, 8, 0, 2]), ([0, 0, 1, 1, 1, 1], [46, 0, 2, 7, 1, 8]), ([1, 0, 1, 1, 1, 1], [0, 2, 7, 1, 8]), ([0, 0, 1, 0, 1, 1, 1, 1], [6]), ([1, 0, 1, 0, 1, 1, 1, 1], [6]), ([0, 1, 1, 1, 1, 1], [6]), ([1, 1, 1, 1, 1, 1], [6])]

noncomputable def porterlaw05_StreamBegins_E (N : Nat) : Env := mkEnv tys glob [(42, porterlaw05_works_res N), (47, stream_Mix_res N), (45, stream_Take_res N)] [] [] [] false [] [(83, stream_blocks1_itr N), (76, hmac_framed1_itr N), (79, hmac_split1_itr N)]

theorem porterlaw05_StreamBegins_Eok (N : Nat) : EnvOk Go.Proofs.Tryd.prog (porterlaw05_StreamBegins_E N) := mkEnv_ok mixed tys_ok (FnsOk.cons (porterlaw05_works_ct N) (FnsOk.cons (stream_Mix_ct N) (FnsOk.cons (stream_Take_ct N) (FnsOk.nil)))) (ItsOk.cons (stream_blocks1_it N) (ItsOk.cons (hmac_framed1_it N) (ItsOk.cons (hmac_split1_it N) (ItsOk.nil))))

noncomputable def porterlaw05_StreamBegins_p2 (N : Nat) (key : (List UInt8)) (text : (List UInt8)) (n : Int) (k0 : Bool → Option Bool) : Option Bool :=
  cond (decide ((100 : Int) < (((List.length key) : Nat) : Int)))
  (k0 true)
  (cond (decide ((300 : Int) < (((List.length text) : Nat) : Int)))
    (k0 true)
    (cond (decide (n < (0 : Int)))
      (k0 true)
      (k0 (decide ((((List.length text) : Nat) : Int) < n)))))

noncomputable def porterlaw05_StreamBegins_g2 (N : Nat) (x : denS [(0, .v .str), (0, .v .str), (0, .v (.int .i64))]) (K : Ex → List A → Option Bool) : Option Bool :=
  porterlaw05_StreamBegins_p2 N x.1 x.2.1 x.2.2.1 (fun a3 => (K .normal (mkS [(0, .v .str), (0, .v .str), (0, .v (.int .i64)), (23, .v .bool)] 41 (x.1, x.2.1, x.2.2.1, a3, ()))))

noncomputable def porterlaw05_StreamBegins_h2 (N : Nat) : Hd Bool := fun st K => (unS [(0, .v .str), (0, .v .str), (0, .v (.int .i64))] 65 (restr [0, 1, 2] 0 st)).bind fun x => porterlaw05_StreamBegins_g2 N x K

noncomputable def porterlaw05_StreamBegins_t2 (N : Nat) : Tab Bool := []

theorem porterlaw05_StreamBegins_ok2 {N : Nat} {c : Ctx} (hb : Base Go.Proofs.Tryd.prog (porterlaw05_StreamBegins_E N) c) : CodeOk Go.Proofs.Tryd.prog c (nodeAt porterlaw05_StreamBegins_body [0, 0, 1]) (porterlaw05_StreamBegins_h2 N) :=
  piece_ok (s := [(0, .v .str), (0, .v .str), (0, .v (.int .i64))]) (m := 65) (g := porterlaw05_StreamBegins_g2 N) [0, 1, 2] (evN_sound hb N (porterlaw05_StreamBegins_t2 N) porterlaw05_StreamBegins_L porterlaw05_StreamBegins_body TabOk.nil [0, 0, 1] _ rfl) (fun x K => by kernel_rfl)

noncomputable def porterlaw05_StreamBegins_p1 (N : Nat) (key : (List UInt8)) (text : (List UInt8)) (n : Int) (k0 : Bool → Option Bool) (k1 : Option Bool) : Option Bool :=
  porterlaw05_StreamBegins_p2 N key text n
  (fun x26 => cond x26
    ((porterlaw05_works N).bind fun y =>
      k0 y)
    (k1))

noncomputable def porterlaw05_StreamBegins_g1 (N : Nat) (x : denS [(0, .v .str), (0, .v .str), (0, .v (.int .i64))]) (K : Ex → List A → Option Bool) : Option Bool :=
  porterlaw05_StreamBegins_p1 N x.1 x.2.1 x.2.2.1 (fun a0 => (K .ret (mkS [(6, .v .bool)] 61 (a0, ())))) (K .normal (mkS [(0, .v .str), (0, .v .str), (0, .v (.int .i64))] 65 (x.1, x.2.1, x.2.2.1, ())))

noncomputable def porterlaw05_StreamBegins_h1 (N : Nat) : Hd Bool := fun st K => (unS [(0, .v .str), (0, .v .str), (0, .v (.int .i64))] 65 (restr [0, 1, 2] 0 st)).bind fun x => porterlaw05_StreamBegins_g1 N x K

noncomputable def porterlaw05_StreamBegins_t1 (N : Nat) : Tab Bool := [([0, 0, 1], porterlaw05_StreamBegins_h2 N)]

theorem porterlaw05_StreamBegins_ok1 {N : Nat} {c : Ctx} (hb : Base Go.Proofs.Tryd.prog (porterlaw05_StreamBegins_E N) c) : CodeOk Go.Proofs.Tryd.prog c (nodeAt porterlaw05_StreamBegins_body [0, 1]) (porterlaw05_StreamBegins_h1 N) :=
  piece_ok (s := [(0, .v .str), (0, .v .str), (0, .v (.int .i64))]) (m := 65) (g := porterlaw05_StreamBegins_g1 N) [0, 1, 2] (evN_sound hb N (porterlaw05_StreamBegins_t1 N) porterlaw05_StreamBegins_L porterlaw05_StreamBegins_body (TabOk.cons (porterlaw05_StreamBegins_ok2 hb) TabOk.nil) [0, 1] _ rfl) (fun x K => by kernel_rfl)

noncomputable def porterlaw05_StreamBegins_p4 (N : Nat) (key : (List UInt8)) (text : (List UInt8)) (n : Int) (s : (List UInt8)) (m : (List UInt8)) (k0 : Bool → Option Bool) : Option Bool :=
  cond ((((List.length s) : Nat) : Int) != (((List.length text) : Nat) : Int))
  (k0 true)
  (k0 ((((List.length m) : Nat) : Int) != (((List.length text) : Nat) : Int)))

noncomputable def porterlaw05_StreamBegins_g4 (N : Nat) (x : denS [(0, .v .str), (0, .v .str), (0, .v (.int .i64)), (4, .v .str), (0, .v .str)]) (K : Ex → List A → Option Bool) : Option Bool :=
  porterlaw05_StreamBegins_p4 N x.1 x.2.1 x.2.2.1 x.2.2.2.1 x.2.2.2.2.1 (fun a5 => (K .normal (mkS [(0, .v .str), (0, .v .str), (0, .v (.int .i64)), (4, .v .str), (0, .v .str), (37, .v .bool)] 21 (x.1, x.2.1, x.2.2.1, x.2.2.2.1, x.2.2.2.2.1, a5, ()))))

noncomputable def porterlaw05_StreamBegins_h4 (N : Nat) : Hd Bool := fun st K => (unS [(0, .v .str), (0, .v .str), (0, .v (.int .i64)), (4, .v .str), (0, .v .str)] 59 (restr [7, 1, 8, 0, 2] 0 st)).bind fun x => porterlaw05_StreamBegins_g4 N x K

noncomputable def porterlaw05_StreamBegins_t4 (N : Nat) : Tab Bool := []

theorem porterlaw05_StreamBegins_ok4 {N : Nat} {c : Ctx} (hb : Base Go.Proofs.Tryd.prog (porterlaw05_StreamBegins_E N) c) : CodeOk Go.Proofs.Tryd.prog c (nodeAt porterlaw05_StreamBegins_body [0, 0, 1, 1, 1, 1]) (porterlaw05_StreamBegins_h4 N) :=
  piece_ok (s := [(0, .v .str), (0, .v .str), (0, .v (.int .i64)), (4, .v .str), (0, .v .str)]) (m := 59) (g := porterlaw05_StreamBegins_g4 N) [7, 1, 8, 0, 2] (evN_sound hb N (porterlaw05_StreamBegins_t4 N) porterlaw05_StreamBegins_L porterlaw05_StreamBegins_body TabOk.nil [0, 0, 1, 1, 1, 1] _ rfl) (fun x K => by kernel_rfl)

noncomputable def porterlaw05_StreamBegins_p3 (N : Nat) (key : (List UInt8)) (text : (List UInt8)) (n : Int) (s : (List UInt8)) (m : (List UInt8)) (k0 : Bool → Option Bool) (k1 : Option Bool) : Option Bool :=
  porterlaw05_StreamBegins_p4 N key text n s m
  (fun x46 => cond x46
    (k0 false)
    (k1))

noncomputable def porterlaw05_StreamBegins_g3 (N : Nat) (x : denS [(0, .v .str), (0, .v .str), (0, .v (.int .i64)), (4, .v .str), (0, .v .str)]) (K : Ex → List A → Option Bool) : Option Bool :=
  porterlaw05_StreamBegins_p3 N x.1 x.2.1 x.2.2.1 x.2.2.2.1 x.2.2.2.2.1 (fun a0 => (K .ret (mkS [(6, .v .bool)] 61 (a0, ())))) (K .normal (mkS [(0, .v .str), (0, .v .str), (0, .v (.int .i64)), (4, .v .str), (0, .v .str)] 59 (x.1, x.2.1, x.2.2.1, x.2.2.2.1, x.2.2.2.2.1, ())))

noncomputable def porterlaw05_StreamBegins_h3 (N : Nat) : Hd Bool := fun st K => (unS [(0, .v .str), (0, .v .str), (0, .v (.int .i64)), (4, .v .str), (0, .v .str)] 59 (restr [7, 1, 8, 0, 2] 0 st)).bind fun x => porterlaw05_StreamBegins_g3 N x K

noncomputable def porterlaw05_StreamBegins_t3 (N : Nat) : Tab Bool := [([0, 0, 1, 1, 1, 1], porterlaw05_StreamBegins_h4 N)]

theorem porterlaw05_StreamBegins_ok3 {N : Nat} {c : Ctx} (hb : Base Go.Proofs.Tryd.prog (porterlaw05_StreamBegins_E N) c) : CodeOk Go.Proofs.Tryd.prog c (nodeAt porterlaw05_StreamBegins_body [0, 1, 1, 1, 1]) (porterlaw05_StreamBegins_h3 N) :=
  piece_ok (s := [(0, .v .str), (0, .v .str), (0, .v (.int .i64)), (4, .v .str), (0, .v .str)]) (m := 59) (g := porterlaw05_StreamBegins_g3 N) [7, 1, 8, 0, 2] (evN_sound hb N (porterlaw05_StreamBegins_t3 N) porterlaw05_StreamBegins_L porterlaw05_StreamBegins_body (TabOk.cons (porterlaw05_StreamBegins_ok4 hb) TabOk.nil) [0, 1, 1, 1, 1] _ rfl) (fun x K => by kernel_rfl)

noncomputable def porterlaw05_StreamBegins (N : Nat) (key : (List UInt8)) (text : (List UInt8)) (n : Int) : Option Bool :=
  porterlaw05_StreamBegins_p1 N key text n
  (fun x6 => some x6)
  ((stream_Take N key ([(110 : UInt8)] : List UInt8) (((List.length text) : Nat) : Int)).bind fun y =>
    (stream_Mix N key ([(110 : UInt8)] : List UInt8) text).bind fun y1 =>
    porterlaw05_StreamBegins_p3 N key text n y y1
    (fun x61 => some x61)
    ((stream_Take N key ([(110 : UInt8)] : List UInt8) n).bind fun y2 =>
      cond (decide (((0 : Int) ≤ n) ∧ (n ≤ (((List.length y) : Nat) : Int))))
      (cond (y2 == (Go.Lift.cut y 0 (Int.toNat n)))
        (cond (decide (((0 : Int) ≤ n) ∧ (n ≤ (((List.length text) : Nat) : Int))))
          ((stream_Mix N key ([(110 : UInt8)] : List UInt8) (Go.Lift.cut text 0 (Int.toNat n))).bind fun y3 =>
            cond (decide (((0 : Int) ≤ n) ∧ (n ≤ (((List.length y1) : Nat) : Int))))
            (cond (y3 == (Go.Lift.cut y1 0 (Int.toNat n)))
              ((porterlaw05_works N).bind fun y4 =>
                some y4)
              (some false))
            (none))
          (none))
        (some false))
      (none)))

noncomputable def porterlaw05_StreamBegins_t (N : Nat) : Tab Bool := [([0, 1], porterlaw05_StreamBegins_h1 N), ([0, 1, 1, 1, 1], porterlaw05_StreamBegins_h3 N)]

theorem porterlaw05_StreamBegins_link (N : Nat) (x : denS [(0, .v .str), (0, .v .str), (0, .v (.int .i64))]) : evFX (porterlaw05_StreamBegins_E N) N (porterlaw05_StreamBegins_t N) porterlaw05_StreamBegins_L Go.Proofs.Tryd.f12 (mkS [(0, .v .str), (0, .v .str), (0, .v (.int .i64))] 0 x) (kRes (.v .bool) 3) = porterlaw05_StreamBegins N x.1 x.2.1 x.2.2.1 := by kernel_rfl

noncomputable def porterlaw05_StreamBegins_res (N : Nat) : List A → Res := resOf [(0, .v .str), (0, .v .str), (0, .v (.int .i64))] (fun x => porterlaw05_StreamBegins N x.1 x.2.1 x.2.2.1) (oRes (.v .bool) 3)

theorem porterlaw05_StreamBegins_ct (N : Nat) : Contract Go.Proofs.Tryd.prog glob 12 (porterlaw05_StreamBegins_res N) :=
  Contract.of (E := porterlaw05_StreamBegins_E N) (H := porterlaw05_StreamBegins_t N) (L := porterlaw05_StreamBegins_L) (N := N) (body := porterlaw05_StreamBegins_body) (K := (kRes (.v .bool) 3)) (porterlaw05_StreamBegins_Eok N) Go.Proofs.Tryd.func12 (by kernel_rfl) (by decide) (fun _ hb => (TabOk.cons (porterlaw05_StreamBegins_ok1 hb) (TabOk.cons (porterlaw05_StreamBegins_ok3 hb) TabOk.nil))) (fun x y h => by rw [porterlaw05_StreamBegins_link]; exact h) (kRes_ok (s := (.v .bool)) (m := 3))

end Go.Proofs.YtjeabejfmcmkdaaDoorLg
