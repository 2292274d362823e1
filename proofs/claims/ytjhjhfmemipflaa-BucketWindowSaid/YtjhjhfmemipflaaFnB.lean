/- The functions of the seat, as plain functions, and what their calls do. Printed by a program of mine; checked here. -/
import Derived.Test.YtjhjhfmemipflaaLfW
import Derived.Test.YtjhjhfmemipflaaChecked
import Derived.KernelRfl
set_option linter.all false
set_option maxRecDepth 100000
namespace Go.Proofs.YtjhjhfmemipflaaLf
open Go Go.Lift

noncomputable def ty3 : TyI := ⟨(Go.TypeDesc.int Go.IntKind.i64), 1, 8, (.int .i64), (0 : Int), false⟩

theorem ty3_ok : TyOk Go.Proofs.Try.prog 3 ty3 := TyOk.of (by kernel_rfl) (by kernel_rfl) (by kernel_rfl) (by kernel_rfl)

noncomputable def ty4 : TyI := ⟨Go.TypeDesc.bool, 1, 1, .bool, false, false⟩

theorem ty4_ok : TyOk Go.Proofs.Try.prog 4 ty4 := TyOk.of (by kernel_rfl) (by kernel_rfl) (by kernel_rfl) (by kernel_rfl)

noncomputable def ty9 : TyI := ⟨Go.TypeDesc.string, 1, 16, .str, ([] : List UInt8), false⟩

theorem ty9_ok : TyOk Go.Proofs.Try.prog 9 ty9 := TyOk.of (by kernel_rfl) (by kernel_rfl) (by kernel_rfl) (by kernel_rfl)

noncomputable def ty44 : TyI := ⟨(Go.TypeDesc.struct (List.toArray ([(Go.Field.mk "Cap" 3 0 false "" "" 0), (Go.Field.mk "Fill" 3 1 false "" "" 8), (Go.Field.mk "Have" 3 2 false "" "" 16), (Go.Field.mk "At" 3 3 false "" "" 24)] : List Go.Field))), 4, 32, (.pair (.int .i64) (.pair (.int .i64) (.pair (.int .i64) (.pair (.int .i64) .unit)))), ((0 : Int), (0 : Int), (0 : Int), (0 : Int), ()), true⟩

theorem ty44_ok : TyOk Go.Proofs.Try.prog 44 ty44 := TyOk.of (by kernel_rfl) (by kernel_rfl) (by kernel_rfl) (by kernel_rfl)

noncomputable def ty47 : TyI := ⟨(Go.TypeDesc.struct (List.toArray ([(Go.Field.mk "Cap" 3 0 false "" "" 0), (Go.Field.mk "Fill" 3 1 false "" "" 8), (Go.Field.mk "Have" 3 2 false "" "" 16), (Go.Field.mk "At" 3 3 false "" "" 24)] : List Go.Field))), 4, 32, (.pair (.int .i64) (.pair (.int .i64) (.pair (.int .i64) (.pair (.int .i64) .unit)))), ((0 : Int), (0 : Int), (0 : Int), (0 : Int), ()), true⟩

theorem ty47_ok : TyOk Go.Proofs.Try.prog 47 ty47 := TyOk.of (by kernel_rfl) (by kernel_rfl) (by kernel_rfl) (by kernel_rfl)

noncomputable def ty52 : TyI := ⟨(Go.TypeDesc.struct (List.toArray ([(Go.Field.mk "Name" 9 0 false "" "" 0), (Go.Field.mk "Cap" 3 1 false "" "" 16), (Go.Field.mk "Fill" 3 2 false "" "" 24)] : List Go.Field))), 3, 32, (.pair .str (.pair (.int .i64) (.pair (.int .i64) .unit))), (([] : List UInt8), (0 : Int), (0 : Int), ()), true⟩

theorem ty52_ok : TyOk Go.Proofs.Try.prog 52 ty52 := TyOk.of (by kernel_rfl) (by kernel_rfl) (by kernel_rfl) (by kernel_rfl)

noncomputable def ty58 : TyI := ⟨(Go.TypeDesc.slice 3), 1, 24, (.sl (.int .i64)), ([] : List Int), false⟩

theorem ty58_ok : TyOk Go.Proofs.Try.prog 58 ty58 := TyOk.of (by kernel_rfl) (by kernel_rfl) (by kernel_rfl) (by kernel_rfl)

noncomputable def ty59 : TyI := ⟨(Go.TypeDesc.array 2 3), 2, 16, (.arr 2 (.int .i64)), (List.replicate 2 (0 : Int)), true⟩

theorem ty59_ok : TyOk Go.Proofs.Try.prog 59 ty59 := TyOk.of (by kernel_rfl) (by kernel_rfl) (by kernel_rfl) (by kernel_rfl)

noncomputable def tys : List (Nat × TyI) := [(3, ty3), (4, ty4), (9, ty9), (44, ty44), (47, ty47), (52, ty52), (58, ty58), (59, ty59)]

theorem tys_ok : TysOk Go.Proofs.Try.prog tys := TysOk.cons ty3_ok (TysOk.cons ty4_ok (TysOk.cons ty9_ok (TysOk.cons ty44_ok (TysOk.cons ty47_ok (TysOk.cons ty52_ok (TysOk.cons ty58_ok (TysOk.cons ty59_ok (TysOk.nil))))))))

theorem mixed : Go.Proofs.Try.prog.follows .mixedOrders = true := by kernel_rfl

abbrev bucket_within_R : Type := Bool

noncomputable def bucket_within_body : Code := (Go.Proofs.Try.f47.body).getD .skip

noncomputable def bucket_within_L : List (List Nat × List Nat) := [([0], [0]), ([0, 1], [2]), ([1, 1], [2])]

noncomputable def bucket_within_E (N : Nat) : Env := mkEnv tys noGlob [] [] [] [] false

theorem bucket_within_Eok (N : Nat) : EnvOk Go.Proofs.Try.prog (bucket_within_E N) := mkEnv_ok mixed tys_ok (FnsOk.nil)

noncomputable def bucket_within (N : Nat) (n : Int) : Option Bool :=
  cond (decide ((0 : Int) ≤ n))
  (some (decide (n ≤ (1099511627776 : Int))))
  (some false)

noncomputable def bucket_within_t (N : Nat) : Tab Bool := []

theorem bucket_within_link (N : Nat) (x : denS [(0, .v (.int .i64))]) : evFX (bucket_within_E N) N (bucket_within_t N) bucket_within_L Go.Proofs.Try.f47 (mkS [(0, .v (.int .i64))] 0 x) (kRes (.v .bool) 1) = bucket_within N x.1 := by kernel_rfl

noncomputable def bucket_within_res (N : Nat) : List A → Res := resOf [(0, .v (.int .i64))] (fun x => bucket_within N x.1) (oRes (.v .bool) 1)

theorem bucket_within_ct (N : Nat) : Contract Go.Proofs.Try.prog noGlob 47 (bucket_within_res N) :=
  Contract.of (E := bucket_within_E N) (H := bucket_within_t N) (L := bucket_within_L) (N := N) (body := bucket_within_body) (K := (kRes (.v .bool) 1)) (bucket_within_Eok N) Go.Proofs.Try.func47 (by kernel_rfl) (by decide) (fun _ hb => TabOk.nil) (fun x y h => by rw [bucket_within_link]; exact h) (kRes_ok (s := (.v .bool)) (m := 1))

abbrev bucket_Right_R : Type := Bool

noncomputable def bucket_Right_body : Code := (Go.Proofs.Try.f38.body).getD .skip

noncomputable def bucket_Right_L : List (List Nat × List Nat) := [([0], [1]), ([0, 1], [2]), ([1, 1], [2])]

noncomputable def bucket_Right_E (N : Nat) : Env := mkEnv tys noGlob [(47, bucket_within_res N)] [] [] [] false

theorem bucket_Right_Eok (N : Nat) : EnvOk Go.Proofs.Try.prog (bucket_Right_E N) := mkEnv_ok mixed tys_ok (FnsOk.cons (bucket_within_ct N) (FnsOk.nil))

noncomputable def bucket_Right (N : Nat) (b : (Int × (Int × (Int × (Int × Unit))))) : Option Bool :=
  (bucket_within N b.1).bind fun y =>
  cond y
  ((bucket_within N b.2.1).bind fun y1 =>
    cond y1
    ((bucket_within N b.2.2.2.1).bind fun y2 =>
      cond y2
      (cond (decide ((0 : Int) ≤ b.2.2.1))
        (some (decide (b.2.2.1 ≤ b.1)))
        (some false))
      (some false))
    (some false))
  (some false)

noncomputable def bucket_Right_t (N : Nat) : Tab Bool := []

theorem bucket_Right_link (N : Nat) (x : denS [(0, .v (.pair (.int .i64) (.pair (.int .i64) (.pair (.int .i64) (.pair (.int .i64) .unit)))))]) : evFX (bucket_Right_E N) N (bucket_Right_t N) bucket_Right_L Go.Proofs.Try.f38 (mkS [(0, .v (.pair (.int .i64) (.pair (.int .i64) (.pair (.int .i64) (.pair (.int .i64) .unit)))))] 0 x) (kRes (.v .bool) 1) = bucket_Right N x.1 := by kernel_rfl

noncomputable def bucket_Right_res (N : Nat) : List A → Res := resOf [(0, .v (.pair (.int .i64) (.pair (.int .i64) (.pair (.int .i64) (.pair (.int .i64) .unit)))))] (fun x => bucket_Right N x.1) (oRes (.v .bool) 1)

theorem bucket_Right_ct (N : Nat) : Contract Go.Proofs.Try.prog noGlob 38 (bucket_Right_res N) :=
  Contract.of (E := bucket_Right_E N) (H := bucket_Right_t N) (L := bucket_Right_L) (N := N) (body := bucket_Right_body) (K := (kRes (.v .bool) 1)) (bucket_Right_Eok N) Go.Proofs.Try.func38 (by kernel_rfl) (by decide) (fun _ hb => TabOk.nil) (fun x y h => by rw [bucket_Right_link]; exact h) (kRes_ok (s := (.v .bool)) (m := 1))

abbrev sat_overflows_R : Type := Bool

noncomputable def sat_overflows_body : Code := (Go.Proofs.Try.f50.body).getD .skip

noncomputable def sat_overflows_L : List (List Nat × List Nat) := [([0], [0, 1]), ([0, 0, 1], [18, 0, 1]), ([1, 0, 1], [0, 1]), ([0, 0, 1, 0, 1], [4]), ([1, 0, 1, 0, 1], [4]), ([0, 1, 1], [4]), ([1, 1, 1], [4])]

noncomputable def sat_overflows_E (N : Nat) : Env := mkEnv tys noGlob [] [] [] [] false

theorem sat_overflows_Eok (N : Nat) : EnvOk Go.Proofs.Try.prog (sat_overflows_E N) := mkEnv_ok mixed tys_ok (FnsOk.nil)

noncomputable def sat_overflows_p2 (N : Nat) (a : Int) (b : Int) (k0 : Bool → Option Bool) : Option Bool :=
  cond (a == (-(9223372036854775808 : Int)))
  (cond (b == (-(1 : Int)))
    (k0 true)
    (cond (b == (-(9223372036854775808 : Int)))
      (k0 (a == (-(1 : Int))))
      (k0 false)))
  (cond (b == (-(9223372036854775808 : Int)))
    (k0 (a == (-(1 : Int))))
    (k0 false))

noncomputable def sat_overflows_g2 (N : Nat) (x : denS [(0, .v (.int .i64)), (0, .v (.int .i64))]) (K : Ex → List A → Option Bool) : Option Bool :=
  sat_overflows_p2 N x.1 x.2.1 (fun a2 => (K .normal (mkS [(0, .v (.int .i64)), (0, .v (.int .i64)), (16, .v .bool)] 7 (x.1, x.2.1, a2, ()))))

noncomputable def sat_overflows_h2 (N : Nat) : Hd Bool := fun st K => (unS [(0, .v (.int .i64)), (0, .v (.int .i64))] 24 (restr [0, 1] 0 st)).bind fun x => sat_overflows_g2 N x K

noncomputable def sat_overflows_t2 (N : Nat) : Tab Bool := []

theorem sat_overflows_ok2 {N : Nat} {c : Ctx} (hb : Base Go.Proofs.Try.prog (sat_overflows_E N) c) : CodeOk Go.Proofs.Try.prog c (nodeAt sat_overflows_body [0, 0, 1]) (sat_overflows_h2 N) :=
  piece_ok (s := [(0, .v (.int .i64)), (0, .v (.int .i64))]) (m := 24) (g := sat_overflows_g2 N) [0, 1] (evN_sound hb N (sat_overflows_t2 N) sat_overflows_L sat_overflows_body TabOk.nil [0, 0, 1] _ rfl) (fun x K => by kernel_rfl)

noncomputable def sat_overflows_p1 (N : Nat) (a : Int) (b : Int) (k0 : Bool → Option Bool) (k1 : Option Bool) : Option Bool :=
  sat_overflows_p2 N a b
  (fun x18 => cond x18
    (k0 true)
    (k1))

noncomputable def sat_overflows_g1 (N : Nat) (x : denS [(0, .v (.int .i64)), (0, .v (.int .i64))]) (K : Ex → List A → Option Bool) : Option Bool :=
  sat_overflows_p1 N x.1 x.2.1 (fun a0 => (K .ret (mkS [(4, .v .bool)] 21 (a0, ())))) (K .normal (mkS [(0, .v (.int .i64)), (0, .v (.int .i64))] 24 (x.1, x.2.1, ())))

noncomputable def sat_overflows_h1 (N : Nat) : Hd Bool := fun st K => (unS [(0, .v (.int .i64)), (0, .v (.int .i64))] 24 (restr [0, 1] 0 st)).bind fun x => sat_overflows_g1 N x K

noncomputable def sat_overflows_t1 (N : Nat) : Tab Bool := [([0, 0, 1], sat_overflows_h2 N)]

theorem sat_overflows_ok1 {N : Nat} {c : Ctx} (hb : Base Go.Proofs.Try.prog (sat_overflows_E N) c) : CodeOk Go.Proofs.Try.prog c (nodeAt sat_overflows_body [0, 1]) (sat_overflows_h1 N) :=
  piece_ok (s := [(0, .v (.int .i64)), (0, .v (.int .i64))]) (m := 24) (g := sat_overflows_g1 N) [0, 1] (evN_sound hb N (sat_overflows_t1 N) sat_overflows_L sat_overflows_body (TabOk.cons (sat_overflows_ok2 hb) TabOk.nil) [0, 1] _ rfl) (fun x K => by kernel_rfl)

noncomputable def sat_overflows (N : Nat) (a : Int) (b : Int) : Option Bool :=
  sat_overflows_p1 N a b
  (fun x4 => some x4)
  (cond (b == (0 : Int))
    (none)
    (some ((Go.IntKind.wrap Go.IntKind.i64 (Int.tdiv (Go.IntKind.wrap Go.IntKind.i64 (a * b)) b)) != a)))

noncomputable def sat_overflows_t (N : Nat) : Tab Bool := [([0, 1], sat_overflows_h1 N)]

theorem sat_overflows_link (N : Nat) (x : denS [(0, .v (.int .i64)), (0, .v (.int .i64))]) : evFX (sat_overflows_E N) N (sat_overflows_t N) sat_overflows_L Go.Proofs.Try.f50 (mkS [(0, .v (.int .i64)), (0, .v (.int .i64))] 0 x) (kRes (.v .bool) 2) = sat_overflows N x.1 x.2.1 := by kernel_rfl

noncomputable def sat_overflows_res (N : Nat) : List A → Res := resOf [(0, .v (.int .i64)), (0, .v (.int .i64))] (fun x => sat_overflows N x.1 x.2.1) (oRes (.v .bool) 2)

theorem sat_overflows_ct (N : Nat) : Contract Go.Proofs.Try.prog noGlob 50 (sat_overflows_res N) :=
  Contract.of (E := sat_overflows_E N) (H := sat_overflows_t N) (L := sat_overflows_L) (N := N) (body := sat_overflows_body) (K := (kRes (.v .bool) 2)) (sat_overflows_Eok N) Go.Proofs.Try.func50 (by kernel_rfl) (by decide) (fun _ hb => (TabOk.cons (sat_overflows_ok1 hb) TabOk.nil)) (fun x y h => by rw [sat_overflows_link]; exact h) (kRes_ok (s := (.v .bool)) (m := 2))

abbrev sat_end_R : Type := Int

noncomputable def sat_end_body : Code := (Go.Proofs.Try.f51.body).getD .skip

noncomputable def sat_end_L : List (List Nat × List Nat) := [([0], [0]), ([0, 0, 1], [3]), ([1, 0, 1], []), ([0, 0, 1, 0, 1], [2]), ([1, 0, 1, 0, 1], [2]), ([0, 1, 1], [2]), ([1, 1, 1], [2])]

noncomputable def sat_end_E (N : Nat) : Env := mkEnv tys noGlob [] [] [] [] false

theorem sat_end_Eok (N : Nat) : EnvOk Go.Proofs.Try.prog (sat_end_E N) := mkEnv_ok mixed tys_ok (FnsOk.nil)

noncomputable def sat_end (N : Nat) (negative : Bool) : Option Int :=
  cond negative
  (some (-(9223372036854775808 : Int)))
  (some (9223372036854775807 : Int))

noncomputable def sat_end_t (N : Nat) : Tab Int := []

theorem sat_end_link (N : Nat) (x : denS [(0, .v .bool)]) : evFX (sat_end_E N) N (sat_end_t N) sat_end_L Go.Proofs.Try.f51 (mkS [(0, .v .bool)] 0 x) (kRes (.v (.int .i64)) 1) = sat_end N x.1 := by kernel_rfl

noncomputable def sat_end_res (N : Nat) : List A → Res := resOf [(0, .v .bool)] (fun x => sat_end N x.1) (oRes (.v (.int .i64)) 1)

theorem sat_end_ct (N : Nat) : Contract Go.Proofs.Try.prog noGlob 51 (sat_end_res N) :=
  Contract.of (E := sat_end_E N) (H := sat_end_t N) (L := sat_end_L) (N := N) (body := sat_end_body) (K := (kRes (.v (.int .i64)) 1)) (sat_end_Eok N) Go.Proofs.Try.func51 (by kernel_rfl) (by decide) (fun _ hb => TabOk.nil) (fun x y h => by rw [sat_end_link]; exact h) (kRes_ok (s := (.v (.int .i64))) (m := 1))

abbrev sat_Mul_R : Type := Int

noncomputable def sat_Mul_body : Code := (Go.Proofs.Try.f49.body).getD .skip

noncomputable def sat_Mul_L : List (List Nat × List Nat) := [([0], [0, 1]), ([0, 0, 1], [10, 0, 1]), ([1, 0, 1], [0, 1]), ([0, 0, 1, 0, 1], [4]), ([1, 0, 1, 0, 1], [4]), ([0, 0, 1, 1], [13, 0, 1]), ([1, 0, 1, 1], [0, 1]), ([0, 0, 1, 0, 1, 1], [4]), ([1, 0, 1, 0, 1, 1], [4]), ([0, 1, 1, 1], [4]), ([1, 1, 1, 1], [4])]

noncomputable def sat_Mul_E (N : Nat) : Env := mkEnv tys noGlob [(51, sat_end_res N), (50, sat_overflows_res N)] [] [] [] false

theorem sat_Mul_Eok (N : Nat) : EnvOk Go.Proofs.Try.prog (sat_Mul_E N) := mkEnv_ok mixed tys_ok (FnsOk.cons (sat_end_ct N) (FnsOk.cons (sat_overflows_ct N) (FnsOk.nil)))

noncomputable def sat_Mul_p2 (N : Nat) (a : Int) (b : Int) (k0 : Bool → Option Int) : Option Int :=
  cond (a == (0 : Int))
  (k0 true)
  (k0 (b == (0 : Int)))

noncomputable def sat_Mul_g2 (N : Nat) (x : denS [(0, .v (.int .i64)), (0, .v (.int .i64))]) (K : Ex → List A → Option Int) : Option Int :=
  sat_Mul_p2 N x.1 x.2.1 (fun a2 => (K .normal (mkS [(0, .v (.int .i64)), (0, .v (.int .i64)), (8, .v .bool)] 12 (x.1, x.2.1, a2, ()))))

noncomputable def sat_Mul_h2 (N : Nat) : Hd Int := fun st K => (unS [(0, .v (.int .i64)), (0, .v (.int .i64))] 21 (restr [0, 1] 0 st)).bind fun x => sat_Mul_g2 N x K

noncomputable def sat_Mul_t2 (N : Nat) : Tab Int := []

theorem sat_Mul_ok2 {N : Nat} {c : Ctx} (hb : Base Go.Proofs.Try.prog (sat_Mul_E N) c) : CodeOk Go.Proofs.Try.prog c (nodeAt sat_Mul_body [0, 0, 1]) (sat_Mul_h2 N) :=
  piece_ok (s := [(0, .v (.int .i64)), (0, .v (.int .i64))]) (m := 21) (g := sat_Mul_g2 N) [0, 1] (evN_sound hb N (sat_Mul_t2 N) sat_Mul_L sat_Mul_body TabOk.nil [0, 0, 1] _ rfl) (fun x K => by kernel_rfl)

noncomputable def sat_Mul_p1 (N : Nat) (a : Int) (b : Int) (k0 : Int → Option Int) (k1 : Option Int) : Option Int :=
  sat_Mul_p2 N a b
  (fun x10 => cond x10
    (k0 (0 : Int))
    (k1))

noncomputable def sat_Mul_g1 (N : Nat) (x : denS [(0, .v (.int .i64)), (0, .v (.int .i64))]) (K : Ex → List A → Option Int) : Option Int :=
  sat_Mul_p1 N x.1 x.2.1 (fun a0 => (K .ret (mkS [(4, .v (.int .i64))] 18 (a0, ())))) (K .normal (mkS [(0, .v (.int .i64)), (0, .v (.int .i64))] 21 (x.1, x.2.1, ())))

noncomputable def sat_Mul_h1 (N : Nat) : Hd Int := fun st K => (unS [(0, .v (.int .i64)), (0, .v (.int .i64))] 21 (restr [0, 1] 0 st)).bind fun x => sat_Mul_g1 N x K

noncomputable def sat_Mul_t1 (N : Nat) : Tab Int := [([0, 0, 1], sat_Mul_h2 N)]

theorem sat_Mul_ok1 {N : Nat} {c : Ctx} (hb : Base Go.Proofs.Try.prog (sat_Mul_E N) c) : CodeOk Go.Proofs.Try.prog c (nodeAt sat_Mul_body [0, 1]) (sat_Mul_h1 N) :=
  piece_ok (s := [(0, .v (.int .i64)), (0, .v (.int .i64))]) (m := 21) (g := sat_Mul_g1 N) [0, 1] (evN_sound hb N (sat_Mul_t1 N) sat_Mul_L sat_Mul_body (TabOk.cons (sat_Mul_ok2 hb) TabOk.nil) [0, 1] _ rfl) (fun x K => by kernel_rfl)

noncomputable def sat_Mul (N : Nat) (a : Int) (b : Int) : Option Int :=
  sat_Mul_p1 N a b
  (fun x4 => some x4)
  ((sat_overflows N a b).bind fun y =>
    cond y
    ((sat_end N (!((decide (a < (0 : Int))) == (decide (b < (0 : Int)))))).bind fun y1 =>
      some y1)
    (some (Go.IntKind.wrap Go.IntKind.i64 (a * b))))

noncomputable def sat_Mul_t (N : Nat) : Tab Int := [([0, 1], sat_Mul_h1 N)]

theorem sat_Mul_link (N : Nat) (x : denS [(0, .v (.int .i64)), (0, .v (.int .i64))]) : evFX (sat_Mul_E N) N (sat_Mul_t N) sat_Mul_L Go.Proofs.Try.f49 (mkS [(0, .v (.int .i64)), (0, .v (.int .i64))] 0 x) (kRes (.v (.int .i64)) 2) = sat_Mul N x.1 x.2.1 := by kernel_rfl

noncomputable def sat_Mul_res (N : Nat) : List A → Res := resOf [(0, .v (.int .i64)), (0, .v (.int .i64))] (fun x => sat_Mul N x.1 x.2.1) (oRes (.v (.int .i64)) 2)

theorem sat_Mul_ct (N : Nat) : Contract Go.Proofs.Try.prog noGlob 49 (sat_Mul_res N) :=
  Contract.of (E := sat_Mul_E N) (H := sat_Mul_t N) (L := sat_Mul_L) (N := N) (body := sat_Mul_body) (K := (kRes (.v (.int .i64)) 2)) (sat_Mul_Eok N) Go.Proofs.Try.func49 (by kernel_rfl) (by decide) (fun _ hb => (TabOk.cons (sat_Mul_ok1 hb) TabOk.nil)) (fun x y h => by rw [sat_Mul_link]; exact h) (kRes_ok (s := (.v (.int .i64))) (m := 2))

abbrev sat_Add_R : Type := Int

noncomputable def sat_Add_body : Code := (Go.Proofs.Try.f48.body).getD .skip

noncomputable def sat_Add_L : List (List Nat × List Nat) := [([0], [1, 0]), ([0, 0, 1], [12, 1, 0]), ([1, 0, 1], [1, 0]), ([0, 0, 1, 0, 1], [4]), ([1, 0, 1, 0, 1], [4]), ([0, 0, 1, 1], [20, 0, 1]), ([1, 0, 1, 1], [0, 1]), ([0, 0, 1, 0, 1, 1], [4]), ([1, 0, 1, 0, 1, 1], [4]), ([0, 1, 1, 1], [4]), ([1, 1, 1, 1], [4])]

noncomputable def sat_Add_E (N : Nat) : Env := mkEnv tys noGlob [] [] [] [] false

theorem sat_Add_Eok (N : Nat) : EnvOk Go.Proofs.Try.prog (sat_Add_E N) := mkEnv_ok mixed tys_ok (FnsOk.nil)

noncomputable def sat_Add_p2 (N : Nat) (a : Int) (b : Int) (k0 : Bool → Option Int) : Option Int :=
  cond (decide ((0 : Int) < b))
  (k0 (decide ((Go.IntKind.wrap Go.IntKind.i64 ((9223372036854775807 : Int) - b)) < a)))
  (k0 false)

noncomputable def sat_Add_g2 (N : Nat) (x : denS [(0, .v (.int .i64)), (0, .v (.int .i64))]) (K : Ex → List A → Option Int) : Option Int :=
  sat_Add_p2 N x.1 x.2.1 (fun a2 => (K .normal (mkS [(0, .v (.int .i64)), (0, .v (.int .i64)), (10, .v .bool)] 11 (x.1, x.2.1, a2, ()))))

noncomputable def sat_Add_h2 (N : Nat) : Hd Int := fun st K => (unS [(0, .v (.int .i64)), (0, .v (.int .i64))] 22 (restr [1, 0] 0 st)).bind fun x => sat_Add_g2 N x K

noncomputable def sat_Add_t2 (N : Nat) : Tab Int := []

theorem sat_Add_ok2 {N : Nat} {c : Ctx} (hb : Base Go.Proofs.Try.prog (sat_Add_E N) c) : CodeOk Go.Proofs.Try.prog c (nodeAt sat_Add_body [0, 0, 1]) (sat_Add_h2 N) :=
  piece_ok (s := [(0, .v (.int .i64)), (0, .v (.int .i64))]) (m := 22) (g := sat_Add_g2 N) [1, 0] (evN_sound hb N (sat_Add_t2 N) sat_Add_L sat_Add_body TabOk.nil [0, 0, 1] _ rfl) (fun x K => by kernel_rfl)

noncomputable def sat_Add_p1 (N : Nat) (a : Int) (b : Int) (k0 : Int → Option Int) (k1 : Option Int) : Option Int :=
  sat_Add_p2 N a b
  (fun x12 => cond x12
    (k0 (9223372036854775807 : Int))
    (k1))

noncomputable def sat_Add_g1 (N : Nat) (x : denS [(0, .v (.int .i64)), (0, .v (.int .i64))]) (K : Ex → List A → Option Int) : Option Int :=
  sat_Add_p1 N x.1 x.2.1 (fun a0 => (K .ret (mkS [(4, .v (.int .i64))] 19 (a0, ())))) (K .normal (mkS [(0, .v (.int .i64)), (0, .v (.int .i64))] 22 (x.1, x.2.1, ())))

noncomputable def sat_Add_h1 (N : Nat) : Hd Int := fun st K => (unS [(0, .v (.int .i64)), (0, .v (.int .i64))] 22 (restr [1, 0] 0 st)).bind fun x => sat_Add_g1 N x K

noncomputable def sat_Add_t1 (N : Nat) : Tab Int := [([0, 0, 1], sat_Add_h2 N)]

theorem sat_Add_ok1 {N : Nat} {c : Ctx} (hb : Base Go.Proofs.Try.prog (sat_Add_E N) c) : CodeOk Go.Proofs.Try.prog c (nodeAt sat_Add_body [0, 1]) (sat_Add_h1 N) :=
  piece_ok (s := [(0, .v (.int .i64)), (0, .v (.int .i64))]) (m := 22) (g := sat_Add_g1 N) [1, 0] (evN_sound hb N (sat_Add_t1 N) sat_Add_L sat_Add_body (TabOk.cons (sat_Add_ok2 hb) TabOk.nil) [0, 1] _ rfl) (fun x K => by kernel_rfl)

noncomputable def sat_Add_p4 (N : Nat) (a : Int) (b : Int) (k0 : Bool → Option Int) : Option Int :=
  cond (decide (b < (0 : Int)))
  (k0 (decide (a < (Go.IntKind.wrap Go.IntKind.i64 ((-(9223372036854775808 : Int)) - b)))))
  (k0 false)

noncomputable def sat_Add_g4 (N : Nat) (x : denS [(0, .v (.int .i64)), (0, .v (.int .i64))]) (K : Ex → List A → Option Int) : Option Int :=
  sat_Add_p4 N x.1 x.2.1 (fun a2 => (K .normal (mkS [(0, .v (.int .i64)), (0, .v (.int .i64)), (18, .v .bool)] 3 (x.1, x.2.1, a2, ()))))

noncomputable def sat_Add_h4 (N : Nat) : Hd Int := fun st K => (unS [(0, .v (.int .i64)), (0, .v (.int .i64))] 22 (restr [1, 0] 0 st)).bind fun x => sat_Add_g4 N x K

noncomputable def sat_Add_t4 (N : Nat) : Tab Int := []

theorem sat_Add_ok4 {N : Nat} {c : Ctx} (hb : Base Go.Proofs.Try.prog (sat_Add_E N) c) : CodeOk Go.Proofs.Try.prog c (nodeAt sat_Add_body [0, 0, 1, 1]) (sat_Add_h4 N) :=
  piece_ok (s := [(0, .v (.int .i64)), (0, .v (.int .i64))]) (m := 22) (g := sat_Add_g4 N) [1, 0] (evN_sound hb N (sat_Add_t4 N) sat_Add_L sat_Add_body TabOk.nil [0, 0, 1, 1] _ rfl) (fun x K => by kernel_rfl)

noncomputable def sat_Add_p3 (N : Nat) (a : Int) (b : Int) (k0 : Int → Option Int) (k1 : Option Int) : Option Int :=
  sat_Add_p4 N a b
  (fun x20 => cond x20
    (k0 (-(9223372036854775808 : Int)))
    (k1))

noncomputable def sat_Add_g3 (N : Nat) (x : denS [(0, .v (.int .i64)), (0, .v (.int .i64))]) (K : Ex → List A → Option Int) : Option Int :=
  sat_Add_p3 N x.1 x.2.1 (fun a0 => (K .ret (mkS [(4, .v (.int .i64))] 19 (a0, ())))) (K .normal (mkS [(0, .v (.int .i64)), (0, .v (.int .i64))] 22 (x.1, x.2.1, ())))

noncomputable def sat_Add_h3 (N : Nat) : Hd Int := fun st K => (unS [(0, .v (.int .i64)), (0, .v (.int .i64))] 22 (restr [1, 0] 0 st)).bind fun x => sat_Add_g3 N x K

noncomputable def sat_Add_t3 (N : Nat) : Tab Int := [([0, 0, 1, 1], sat_Add_h4 N)]

theorem sat_Add_ok3 {N : Nat} {c : Ctx} (hb : Base Go.Proofs.Try.prog (sat_Add_E N) c) : CodeOk Go.Proofs.Try.prog c (nodeAt sat_Add_body [0, 1, 1]) (sat_Add_h3 N) :=
  piece_ok (s := [(0, .v (.int .i64)), (0, .v (.int .i64))]) (m := 22) (g := sat_Add_g3 N) [1, 0] (evN_sound hb N (sat_Add_t3 N) sat_Add_L sat_Add_body (TabOk.cons (sat_Add_ok4 hb) TabOk.nil) [0, 1, 1] _ rfl) (fun x K => by kernel_rfl)

noncomputable def sat_Add (N : Nat) (a : Int) (b : Int) : Option Int :=
  sat_Add_p1 N a b
  (fun x4 => some x4)
  (sat_Add_p3 N a b
    (fun x41 => some x41)
    (some (Go.IntKind.wrap Go.IntKind.i64 (a + b))))

noncomputable def sat_Add_t (N : Nat) : Tab Int := [([0, 1], sat_Add_h1 N), ([0, 1, 1], sat_Add_h3 N)]

theorem sat_Add_link (N : Nat) (x : denS [(0, .v (.int .i64)), (0, .v (.int .i64))]) : evFX (sat_Add_E N) N (sat_Add_t N) sat_Add_L Go.Proofs.Try.f48 (mkS [(0, .v (.int .i64)), (0, .v (.int .i64))] 0 x) (kRes (.v (.int .i64)) 2) = sat_Add N x.1 x.2.1 := by kernel_rfl

noncomputable def sat_Add_res (N : Nat) : List A → Res := resOf [(0, .v (.int .i64)), (0, .v (.int .i64))] (fun x => sat_Add N x.1 x.2.1) (oRes (.v (.int .i64)) 2)

theorem sat_Add_ct (N : Nat) : Contract Go.Proofs.Try.prog noGlob 48 (sat_Add_res N) :=
  Contract.of (E := sat_Add_E N) (H := sat_Add_t N) (L := sat_Add_L) (N := N) (body := sat_Add_body) (K := (kRes (.v (.int .i64)) 2)) (sat_Add_Eok N) Go.Proofs.Try.func48 (by kernel_rfl) (by decide) (fun _ hb => (TabOk.cons (sat_Add_ok1 hb) (TabOk.cons (sat_Add_ok3 hb) TabOk.nil))) (fun x y h => by rw [sat_Add_link]; exact h) (kRes_ok (s := (.v (.int .i64))) (m := 2))

abbrev bucket_At_R : Type := (Int × (Int × (Int × (Int × Unit))))

noncomputable def bucket_At_body : Code := (Go.Proofs.Try.f40.body).getD .skip

noncomputable def bucket_At_L : List (List Nat × List Nat) := [([0], [2, 1, 4]), ([0, 0, 1], [18, 2, 4, 1]), ([1, 0, 1], [2, 1, 4]), ([0, 0, 1, 0, 1], [4]), ([1, 0, 1, 0, 1], [4]), ([0, 1, 1], [5, 2, 1, 4]), ([0, 1, 1, 1], [2, 4]), ([0, 1, 1, 1, 1], [4]), ([1, 1, 1, 1, 1], [4])]

noncomputable def bucket_At_E (N : Nat) : Env := mkEnv tys noGlob [(48, sat_Add_res N), (49, sat_Mul_res N), (38, bucket_Right_res N)] [] [] [] false

theorem bucket_At_Eok (N : Nat) : EnvOk Go.Proofs.Try.prog (bucket_At_E N) := mkEnv_ok mixed tys_ok (FnsOk.cons (sat_Add_ct N) (FnsOk.cons (sat_Mul_ct N) (FnsOk.cons (bucket_Right_ct N) (FnsOk.nil))))

noncomputable def bucket_At_p2 (N : Nat) (now : Int) (b : (Int × (Int × (Int × (Int × Unit))))) (x4 : (Int × (Int × (Int × (Int × Unit))))) (k0 : Bool → Option (Int × (Int × (Int × (Int × Unit))))) : Option (Int × (Int × (Int × (Int × Unit)))) :=
  (bucket_Right N b).bind fun y =>
  cond (!y)
  (k0 true)
  (cond (decide (now ≤ b.2.2.2.1))
    (k0 true)
    (k0 (decide ((1099511627776 : Int) < now))))

noncomputable def bucket_At_g2 (N : Nat) (x : denS [(1, .v (.int .i64)), (0, .box (.pair (.int .i64) (.pair (.int .i64) (.pair (.int .i64) (.pair (.int .i64) .unit))))), (1, .box (.pair (.int .i64) (.pair (.int .i64) (.pair (.int .i64) (.pair (.int .i64) .unit)))))]) (K : Ex → List A → Option (Int × (Int × (Int × (Int × Unit))))) : Option (Int × (Int × (Int × (Int × Unit)))) :=
  bucket_At_p2 N x.1 x.2.1 x.2.2.1 (fun a3 => (K .normal (mkS [(1, .v (.int .i64)), (0, .box (.pair (.int .i64) (.pair (.int .i64) (.pair (.int .i64) (.pair (.int .i64) .unit))))), (1, .box (.pair (.int .i64) (.pair (.int .i64) (.pair (.int .i64) (.pair (.int .i64) .unit))))), (13, .v .bool)] 19 (x.1, x.2.1, x.2.2.1, a3, ()))))

noncomputable def bucket_At_h2 (N : Nat) : Hd (Int × (Int × (Int × (Int × Unit)))) := fun st K => (unS [(1, .v (.int .i64)), (0, .box (.pair (.int .i64) (.pair (.int .i64) (.pair (.int .i64) (.pair (.int .i64) .unit))))), (1, .box (.pair (.int .i64) (.pair (.int .i64) (.pair (.int .i64) (.pair (.int .i64) .unit)))))] 33 (restr [2, 1, 4] 0 st)).bind fun x => bucket_At_g2 N x K

noncomputable def bucket_At_t2 (N : Nat) : Tab (Int × (Int × (Int × (Int × Unit)))) := []

theorem bucket_At_ok2 {N : Nat} {c : Ctx} (hb : Base Go.Proofs.Try.prog (bucket_At_E N) c) : CodeOk Go.Proofs.Try.prog c (nodeAt bucket_At_body [0, 0, 1]) (bucket_At_h2 N) :=
  piece_ok (s := [(1, .v (.int .i64)), (0, .box (.pair (.int .i64) (.pair (.int .i64) (.pair (.int .i64) (.pair (.int .i64) .unit))))), (1, .box (.pair (.int .i64) (.pair (.int .i64) (.pair (.int .i64) (.pair (.int .i64) .unit)))))]) (m := 33) (g := bucket_At_g2 N) [2, 1, 4] (evN_sound hb N (bucket_At_t2 N) bucket_At_L bucket_At_body TabOk.nil [0, 0, 1] _ rfl) (fun x K => by kernel_rfl)

noncomputable def bucket_At_p1 (N : Nat) (now : Int) (b : (Int × (Int × (Int × (Int × Unit))))) (x4 : (Int × (Int × (Int × (Int × Unit))))) (k0 : Option (Int × (Int × (Int × (Int × Unit))))) (k1 : Option (Int × (Int × (Int × (Int × Unit))))) : Option (Int × (Int × (Int × (Int × Unit)))) :=
  bucket_At_p2 N now b x4
  (fun x18 => cond x18
    (k0)
    (k1))

noncomputable def bucket_At_g1 (N : Nat) (x : denS [(1, .v (.int .i64)), (0, .box (.pair (.int .i64) (.pair (.int .i64) (.pair (.int .i64) (.pair (.int .i64) .unit))))), (1, .box (.pair (.int .i64) (.pair (.int .i64) (.pair (.int .i64) (.pair (.int .i64) .unit)))))]) (K : Ex → List A → Option (Int × (Int × (Int × (Int × Unit))))) : Option (Int × (Int × (Int × (Int × Unit)))) :=
  bucket_At_p1 N x.1 x.2.1 x.2.2.1 (K .ret (mkS [(4, .box (.pair (.int .i64) (.pair (.int .i64) (.pair (.int .i64) (.pair (.int .i64) .unit)))))] 33 (x.2.1, ()))) (K .normal (mkS [(1, .v (.int .i64)), (0, .box (.pair (.int .i64) (.pair (.int .i64) (.pair (.int .i64) (.pair (.int .i64) .unit))))), (1, .box (.pair (.int .i64) (.pair (.int .i64) (.pair (.int .i64) (.pair (.int .i64) .unit)))))] 33 (x.1, x.2.1, x.2.2.1, ())))

noncomputable def bucket_At_h1 (N : Nat) : Hd (Int × (Int × (Int × (Int × Unit)))) := fun st K => (unS [(1, .v (.int .i64)), (0, .box (.pair (.int .i64) (.pair (.int .i64) (.pair (.int .i64) (.pair (.int .i64) .unit))))), (1, .box (.pair (.int .i64) (.pair (.int .i64) (.pair (.int .i64) (.pair (.int .i64) .unit)))))] 33 (restr [2, 1, 4] 0 st)).bind fun x => bucket_At_g1 N x K

noncomputable def bucket_At_t1 (N : Nat) : Tab (Int × (Int × (Int × (Int × Unit)))) := [([0, 0, 1], bucket_At_h2 N)]

theorem bucket_At_ok1 {N : Nat} {c : Ctx} (hb : Base Go.Proofs.Try.prog (bucket_At_E N) c) : CodeOk Go.Proofs.Try.prog c (nodeAt bucket_At_body [0, 1]) (bucket_At_h1 N) :=
  piece_ok (s := [(1, .v (.int .i64)), (0, .box (.pair (.int .i64) (.pair (.int .i64) (.pair (.int .i64) (.pair (.int .i64) .unit))))), (1, .box (.pair (.int .i64) (.pair (.int .i64) (.pair (.int .i64) (.pair (.int .i64) .unit)))))]) (m := 33) (g := bucket_At_g1 N) [2, 1, 4] (evN_sound hb N (bucket_At_t1 N) bucket_At_L bucket_At_body (TabOk.cons (bucket_At_ok2 hb) TabOk.nil) [0, 1] _ rfl) (fun x K => by kernel_rfl)

noncomputable def bucket_At (N : Nat) (b : (Int × (Int × (Int × (Int × Unit))))) (now : Int) : Option (Int × (Int × (Int × (Int × Unit)))) :=
  bucket_At_p1 N now b ((0 : Int), ((0 : Int), ((0 : Int), ((0 : Int), ()))))
  (some b)
  ((sat_Mul N b.2.1 (Go.IntKind.wrap Go.IntKind.i64 (now - b.2.2.2.1))).bind fun y =>
    (sat_Add N b.2.2.1 y).bind fun y1 =>
    some (b.1, (b.2.1, ((if (b.1 < y1) then b.1 else y1), (now, b.2.2.2.2)))))

noncomputable def bucket_At_t (N : Nat) : Tab (Int × (Int × (Int × (Int × Unit)))) := [([0, 1], bucket_At_h1 N)]

theorem bucket_At_link (N : Nat) (x : denS [(0, .v (.pair (.int .i64) (.pair (.int .i64) (.pair (.int .i64) (.pair (.int .i64) .unit))))), (0, .v (.int .i64))]) : evFX (bucket_At_E N) N (bucket_At_t N) bucket_At_L Go.Proofs.Try.f40 (mkS [(0, .v (.pair (.int .i64) (.pair (.int .i64) (.pair (.int .i64) (.pair (.int .i64) .unit))))), (0, .v (.int .i64))] 0 x) (kRes (.v (.pair (.int .i64) (.pair (.int .i64) (.pair (.int .i64) (.pair (.int .i64) .unit))))) 2) = bucket_At N x.1 x.2.1 := by kernel_rfl

noncomputable def bucket_At_res (N : Nat) : List A → Res := resOf [(0, .v (.pair (.int .i64) (.pair (.int .i64) (.pair (.int .i64) (.pair (.int .i64) .unit))))), (0, .v (.int .i64))] (fun x => bucket_At N x.1 x.2.1) (oRes (.v (.pair (.int .i64) (.pair (.int .i64) (.pair (.int .i64) (.pair (.int .i64) .unit))))) 2)

theorem bucket_At_ct (N : Nat) : Contract Go.Proofs.Try.prog noGlob 40 (bucket_At_res N) :=
  Contract.of (E := bucket_At_E N) (H := bucket_At_t N) (L := bucket_At_L) (N := N) (body := bucket_At_body) (K := (kRes (.v (.pair (.int .i64) (.pair (.int .i64) (.pair (.int .i64) (.pair (.int .i64) .unit))))) 2)) (bucket_At_Eok N) Go.Proofs.Try.func40 (by kernel_rfl) (by decide) (fun _ hb => (TabOk.cons (bucket_At_ok1 hb) TabOk.nil)) (fun x y h => by rw [bucket_At_link]; exact h) (kRes_ok (s := (.v (.pair (.int .i64) (.pair (.int .i64) (.pair (.int .i64) (.pair (.int .i64) .unit)))))) (m := 2))

abbrev bucket_Take_R : Type := ((Int × (Int × (Int × (Int × Unit)))) × Bool × Unit)

noncomputable def bucket_Take_body : Code := (Go.Proofs.Try.f35.body).getD .skip

noncomputable def bucket_Take_L : List (List Nat × List Nat) := [([0], [2, 1, 4]), ([0, 1], [6, 4]), ([0, 1, 1], [6, 7, 4]), ([0, 0, 1, 1, 1], [13, 6, 7, 4]), ([1, 0, 1, 1, 1], [7, 6, 4]), ([0, 1, 0, 1, 1, 1], [7, 6, 4]), ([0, 1, 1, 1, 1], [4, 5]), ([1, 1, 1, 1, 1], [4, 5])]

noncomputable def bucket_Take_E (N : Nat) : Env := mkEnv tys noGlob [(40, bucket_At_res N), (38, bucket_Right_res N)] [] [] [] false

theorem bucket_Take_Eok (N : Nat) : EnvOk Go.Proofs.Try.prog (bucket_Take_E N) := mkEnv_ok mixed tys_ok (FnsOk.cons (bucket_At_ct N) (FnsOk.cons (bucket_Right_ct N) (FnsOk.nil)))

noncomputable def bucket_Take_p1 (N : Nat) (x4 : (Int × (Int × (Int × (Int × Unit))))) (later : (Int × (Int × (Int × (Int × Unit))))) (rest : (Int × (Int × (Int × (Int × Unit))))) (k0 : (Int × (Int × (Int × (Int × Unit)))) → Option ((Int × (Int × (Int × (Int × Unit)))) × Bool × Unit)) : Option ((Int × (Int × (Int × (Int × Unit)))) × Bool × Unit) :=
  (bucket_Right N later).bind fun y =>
  cond y
  (k0 (rest.1, (rest.2.1, ((if ((0 : Int) > (Go.IntKind.wrap Go.IntKind.i64 (later.2.2.1 - (1 : Int)))) then (0 : Int) else (Go.IntKind.wrap Go.IntKind.i64 (later.2.2.1 - (1 : Int)))), rest.2.2.2))))
  (k0 rest)

noncomputable def bucket_Take_g1 (N : Nat) (x : denS [(4, .box (.pair (.int .i64) (.pair (.int .i64) (.pair (.int .i64) (.pair (.int .i64) .unit))))), (1, .box (.pair (.int .i64) (.pair (.int .i64) (.pair (.int .i64) (.pair (.int .i64) .unit))))), (0, .box (.pair (.int .i64) (.pair (.int .i64) (.pair (.int .i64) (.pair (.int .i64) .unit)))))]) (K : Ex → List A → Option ((Int × (Int × (Int × (Int × Unit)))) × Bool × Unit)) : Option ((Int × (Int × (Int × (Int × Unit)))) × Bool × Unit) :=
  bucket_Take_p1 N x.1 x.2.1 x.2.2.1 (fun a2 => (K .normal (mkS [(4, .box (.pair (.int .i64) (.pair (.int .i64) (.pair (.int .i64) (.pair (.int .i64) .unit))))), (1, .box (.pair (.int .i64) (.pair (.int .i64) (.pair (.int .i64) (.pair (.int .i64) .unit))))), (0, .box (.pair (.int .i64) (.pair (.int .i64) (.pair (.int .i64) (.pair (.int .i64) .unit)))))] 15 (x.1, x.2.1, a2, ()))))

noncomputable def bucket_Take_h1 (N : Nat) : Hd ((Int × (Int × (Int × (Int × Unit)))) × Bool × Unit) := fun st K => (unS [(4, .box (.pair (.int .i64) (.pair (.int .i64) (.pair (.int .i64) (.pair (.int .i64) .unit))))), (1, .box (.pair (.int .i64) (.pair (.int .i64) (.pair (.int .i64) (.pair (.int .i64) .unit))))), (0, .box (.pair (.int .i64) (.pair (.int .i64) (.pair (.int .i64) (.pair (.int .i64) .unit)))))] 15 (restr [6, 7, 4] 0 st)).bind fun x => bucket_Take_g1 N x K

noncomputable def bucket_Take_t1 (N : Nat) : Tab ((Int × (Int × (Int × (Int × Unit)))) × Bool × Unit) := []

theorem bucket_Take_ok1 {N : Nat} {c : Ctx} (hb : Base Go.Proofs.Try.prog (bucket_Take_E N) c) : CodeOk Go.Proofs.Try.prog c (nodeAt bucket_Take_body [0, 1, 1, 1]) (bucket_Take_h1 N) :=
  piece_ok (s := [(4, .box (.pair (.int .i64) (.pair (.int .i64) (.pair (.int .i64) (.pair (.int .i64) .unit))))), (1, .box (.pair (.int .i64) (.pair (.int .i64) (.pair (.int .i64) (.pair (.int .i64) .unit))))), (0, .box (.pair (.int .i64) (.pair (.int .i64) (.pair (.int .i64) (.pair (.int .i64) .unit)))))]) (m := 15) (g := bucket_Take_g1 N) [6, 7, 4] (evN_sound hb N (bucket_Take_t1 N) bucket_Take_L bucket_Take_body TabOk.nil [0, 1, 1, 1] _ rfl) (fun x K => by kernel_rfl)

noncomputable def bucket_Take (N : Nat) (b : (Int × (Int × (Int × (Int × Unit))))) (now : Int) : Option ((Int × (Int × (Int × (Int × Unit)))) × Bool × Unit) :=
  (bucket_At N b now).bind fun y =>
  bucket_Take_p1 N ((0 : Int), ((0 : Int), ((0 : Int), ((0 : Int), ())))) y y
  (fun rest => some (rest, ((!(Go.Lift.eqD (Go.Lift.T.pair (Go.Lift.T.int Go.IntKind.i64) (Go.Lift.T.pair (Go.Lift.T.int Go.IntKind.i64) (Go.Lift.T.pair (Go.Lift.T.int Go.IntKind.i64) (Go.Lift.T.pair (Go.Lift.T.int Go.IntKind.i64) Go.Lift.T.unit)))) rest y)), ())))

noncomputable def bucket_Take_t (N : Nat) : Tab ((Int × (Int × (Int × (Int × Unit)))) × Bool × Unit) := [([0, 1, 1, 1], bucket_Take_h1 N)]

theorem bucket_Take_link (N : Nat) (x : denS [(0, .v (.pair (.int .i64) (.pair (.int .i64) (.pair (.int .i64) (.pair (.int .i64) .unit))))), (0, .v (.int .i64))]) : evFX (bucket_Take_E N) N (bucket_Take_t N) bucket_Take_L Go.Proofs.Try.f35 (mkS [(0, .v (.pair (.int .i64) (.pair (.int .i64) (.pair (.int .i64) (.pair (.int .i64) .unit))))), (0, .v (.int .i64))] 0 x) (kRes (.tup [(.pair (.int .i64) (.pair (.int .i64) (.pair (.int .i64) (.pair (.int .i64) .unit)))), .bool]) 2) = bucket_Take N x.1 x.2.1 := by kernel_rfl

noncomputable def bucket_Take_res (N : Nat) : List A → Res := resOf [(0, .v (.pair (.int .i64) (.pair (.int .i64) (.pair (.int .i64) (.pair (.int .i64) .unit))))), (0, .v (.int .i64))] (fun x => bucket_Take N x.1 x.2.1) (oRes (.tup [(.pair (.int .i64) (.pair (.int .i64) (.pair (.int .i64) (.pair (.int .i64) .unit)))), .bool]) 2)

theorem bucket_Take_ct (N : Nat) : Contract Go.Proofs.Try.prog noGlob 35 (bucket_Take_res N) :=
  Contract.of (E := bucket_Take_E N) (H := bucket_Take_t N) (L := bucket_Take_L) (N := N) (body := bucket_Take_body) (K := (kRes (.tup [(.pair (.int .i64) (.pair (.int .i64) (.pair (.int .i64) (.pair (.int .i64) .unit)))), .bool]) 2)) (bucket_Take_Eok N) Go.Proofs.Try.func35 (by kernel_rfl) (by decide) (fun _ hb => (TabOk.cons (bucket_Take_ok1 hb) TabOk.nil)) (fun x y h => by rw [bucket_Take_link]; exact h) (kRes_ok (s := (.tup [(.pair (.int .i64) (.pair (.int .i64) (.pair (.int .i64) (.pair (.int .i64) .unit)))), .bool])) (m := 2))

abbrev porterref45_Right_R : Type := Bool

noncomputable def porterref45_Right_body : Code := (Go.Proofs.Try.f39.body).getD .skip

noncomputable def porterref45_Right_L : List (List Nat × List Nat) := [([0], [1]), ([0, 1], [2]), ([1, 1], [2])]

noncomputable def porterref45_Right_E (N : Nat) : Env := mkEnv tys noGlob [] [] [] [] false

theorem porterref45_Right_Eok (N : Nat) : EnvOk Go.Proofs.Try.prog (porterref45_Right_E N) := mkEnv_ok mixed tys_ok (FnsOk.nil)

noncomputable def porterref45_Right (N : Nat) (b : (Int × (Int × (Int × (Int × Unit))))) : Option Bool :=
  cond (decide ((0 : Int) ≤ b.1))
  (cond (decide (b.1 ≤ (1099511627776 : Int)))
    (cond (decide ((0 : Int) ≤ b.2.1))
      (cond (decide (b.2.1 ≤ (1099511627776 : Int)))
        (cond (decide ((0 : Int) ≤ b.2.2.1))
          (cond (decide (b.2.2.1 ≤ b.1))
            (cond (decide ((0 : Int) ≤ b.2.2.2.1))
              (some (decide (b.2.2.2.1 ≤ (1099511627776 : Int))))
              (some false))
            (some false))
          (some false))
        (some false))
      (some false))
    (some false))
  (some false)

noncomputable def porterref45_Right_t (N : Nat) : Tab Bool := []

theorem porterref45_Right_link (N : Nat) (x : denS [(0, .v (.pair (.int .i64) (.pair (.int .i64) (.pair (.int .i64) (.pair (.int .i64) .unit)))))]) : evFX (porterref45_Right_E N) N (porterref45_Right_t N) porterref45_Right_L Go.Proofs.Try.f39 (mkS [(0, .v (.pair (.int .i64) (.pair (.int .i64) (.pair (.int .i64) (.pair (.int .i64) .unit)))))] 0 x) (kRes (.v .bool) 1) = porterref45_Right N x.1 := by kernel_rfl

noncomputable def porterref45_Right_res (N : Nat) : List A → Res := resOf [(0, .v (.pair (.int .i64) (.pair (.int .i64) (.pair (.int .i64) (.pair (.int .i64) .unit)))))] (fun x => porterref45_Right N x.1) (oRes (.v .bool) 1)

theorem porterref45_Right_ct (N : Nat) : Contract Go.Proofs.Try.prog noGlob 39 (porterref45_Right_res N) :=
  Contract.of (E := porterref45_Right_E N) (H := porterref45_Right_t N) (L := porterref45_Right_L) (N := N) (body := porterref45_Right_body) (K := (kRes (.v .bool) 1)) (porterref45_Right_Eok N) Go.Proofs.Try.func39 (by kernel_rfl) (by decide) (fun _ hb => TabOk.nil) (fun x y h => by rw [porterref45_Right_link]; exact h) (kRes_ok (s := (.v .bool)) (m := 1))

abbrev porterref45_At_R : Type := (Int × (Int × (Int × (Int × Unit))))

noncomputable def porterref45_At_body : Code := (Go.Proofs.Try.f41.body).getD .skip

noncomputable def porterref45_At_L : List (List Nat × List Nat) := [([0], [2, 1, 4]), ([0, 0, 1], [18, 2, 4, 1]), ([1, 0, 1], [1, 2, 4]), ([0, 0, 1, 0, 1], [4]), ([1, 0, 1, 0, 1], [4]), ([0, 1, 1], [1, 2, 5, 4]), ([0, 1, 1, 1], [2, 5, 4]), ([0, 0, 1, 1, 1, 1], [40, 2, 4, 5]), ([1, 0, 1, 1, 1, 1], [2, 5, 4]), ([0, 0, 1, 0, 1, 1, 1, 1], [2, 4]), ([0, 1, 0, 1, 0, 1, 1, 1, 1], [4]), ([1, 1, 0, 1, 0, 1, 1, 1, 1], [4]), ([0, 1, 1, 1, 1, 1], [2, 4]), ([0, 1, 1, 1, 1, 1, 1], [4]), ([1, 1, 1, 1, 1, 1, 1], [4])]

noncomputable def porterref45_At_E (N : Nat) : Env := mkEnv tys noGlob [(39, porterref45_Right_res N)] [] [] [] false

theorem porterref45_At_Eok (N : Nat) : EnvOk Go.Proofs.Try.prog (porterref45_At_E N) := mkEnv_ok mixed tys_ok (FnsOk.cons (porterref45_Right_ct N) (FnsOk.nil))

noncomputable def porterref45_At_p2 (N : Nat) (now : Int) (b : (Int × (Int × (Int × (Int × Unit))))) (x4 : (Int × (Int × (Int × (Int × Unit))))) (k0 : Bool → Option (Int × (Int × (Int × (Int × Unit))))) : Option (Int × (Int × (Int × (Int × Unit)))) :=
  (porterref45_Right N b).bind fun y =>
  cond (!y)
  (k0 true)
  (cond (decide (now ≤ b.2.2.2.1))
    (k0 true)
    (k0 (decide ((1099511627776 : Int) < now))))

noncomputable def porterref45_At_g2 (N : Nat) (x : denS [(1, .v (.int .i64)), (0, .box (.pair (.int .i64) (.pair (.int .i64) (.pair (.int .i64) (.pair (.int .i64) .unit))))), (1, .box (.pair (.int .i64) (.pair (.int .i64) (.pair (.int .i64) (.pair (.int .i64) .unit)))))]) (K : Ex → List A → Option (Int × (Int × (Int × (Int × Unit))))) : Option (Int × (Int × (Int × (Int × Unit)))) :=
  porterref45_At_p2 N x.1 x.2.1 x.2.2.1 (fun a3 => (K .normal (mkS [(1, .v (.int .i64)), (0, .box (.pair (.int .i64) (.pair (.int .i64) (.pair (.int .i64) (.pair (.int .i64) .unit))))), (1, .box (.pair (.int .i64) (.pair (.int .i64) (.pair (.int .i64) (.pair (.int .i64) .unit))))), (13, .v .bool)] 35 (x.1, x.2.1, x.2.2.1, a3, ()))))

noncomputable def porterref45_At_h2 (N : Nat) : Hd (Int × (Int × (Int × (Int × Unit)))) := fun st K => (unS [(1, .v (.int .i64)), (0, .box (.pair (.int .i64) (.pair (.int .i64) (.pair (.int .i64) (.pair (.int .i64) .unit))))), (1, .box (.pair (.int .i64) (.pair (.int .i64) (.pair (.int .i64) (.pair (.int .i64) .unit)))))] 49 (restr [2, 1, 4] 0 st)).bind fun x => porterref45_At_g2 N x K

noncomputable def porterref45_At_t2 (N : Nat) : Tab (Int × (Int × (Int × (Int × Unit)))) := []

theorem porterref45_At_ok2 {N : Nat} {c : Ctx} (hb : Base Go.Proofs.Try.prog (porterref45_At_E N) c) : CodeOk Go.Proofs.Try.prog c (nodeAt porterref45_At_body [0, 0, 1]) (porterref45_At_h2 N) :=
  piece_ok (s := [(1, .v (.int .i64)), (0, .box (.pair (.int .i64) (.pair (.int .i64) (.pair (.int .i64) (.pair (.int .i64) .unit))))), (1, .box (.pair (.int .i64) (.pair (.int .i64) (.pair (.int .i64) (.pair (.int .i64) .unit)))))]) (m := 49) (g := porterref45_At_g2 N) [2, 1, 4] (evN_sound hb N (porterref45_At_t2 N) porterref45_At_L porterref45_At_body TabOk.nil [0, 0, 1] _ rfl) (fun x K => by kernel_rfl)

noncomputable def porterref45_At_p1 (N : Nat) (now : Int) (b : (Int × (Int × (Int × (Int × Unit))))) (x4 : (Int × (Int × (Int × (Int × Unit))))) (k0 : Option (Int × (Int × (Int × (Int × Unit))))) (k1 : Option (Int × (Int × (Int × (Int × Unit))))) : Option (Int × (Int × (Int × (Int × Unit)))) :=
  porterref45_At_p2 N now b x4
  (fun x18 => cond x18
    (k0)
    (k1))

noncomputable def porterref45_At_g1 (N : Nat) (x : denS [(1, .v (.int .i64)), (0, .box (.pair (.int .i64) (.pair (.int .i64) (.pair (.int .i64) (.pair (.int .i64) .unit))))), (1, .box (.pair (.int .i64) (.pair (.int .i64) (.pair (.int .i64) (.pair (.int .i64) .unit)))))]) (K : Ex → List A → Option (Int × (Int × (Int × (Int × Unit))))) : Option (Int × (Int × (Int × (Int × Unit)))) :=
  porterref45_At_p1 N x.1 x.2.1 x.2.2.1 (K .ret (mkS [(4, .box (.pair (.int .i64) (.pair (.int .i64) (.pair (.int .i64) (.pair (.int .i64) .unit)))))] 49 (x.2.1, ()))) (K .normal (mkS [(1, .v (.int .i64)), (0, .box (.pair (.int .i64) (.pair (.int .i64) (.pair (.int .i64) (.pair (.int .i64) .unit))))), (1, .box (.pair (.int .i64) (.pair (.int .i64) (.pair (.int .i64) (.pair (.int .i64) .unit)))))] 49 (x.1, x.2.1, x.2.2.1, ())))

noncomputable def porterref45_At_h1 (N : Nat) : Hd (Int × (Int × (Int × (Int × Unit)))) := fun st K => (unS [(1, .v (.int .i64)), (0, .box (.pair (.int .i64) (.pair (.int .i64) (.pair (.int .i64) (.pair (.int .i64) .unit))))), (1, .box (.pair (.int .i64) (.pair (.int .i64) (.pair (.int .i64) (.pair (.int .i64) .unit)))))] 49 (restr [2, 1, 4] 0 st)).bind fun x => porterref45_At_g1 N x K

noncomputable def porterref45_At_t1 (N : Nat) : Tab (Int × (Int × (Int × (Int × Unit)))) := [([0, 0, 1], porterref45_At_h2 N)]

theorem porterref45_At_ok1 {N : Nat} {c : Ctx} (hb : Base Go.Proofs.Try.prog (porterref45_At_E N) c) : CodeOk Go.Proofs.Try.prog c (nodeAt porterref45_At_body [0, 1]) (porterref45_At_h1 N) :=
  piece_ok (s := [(1, .v (.int .i64)), (0, .box (.pair (.int .i64) (.pair (.int .i64) (.pair (.int .i64) (.pair (.int .i64) .unit))))), (1, .box (.pair (.int .i64) (.pair (.int .i64) (.pair (.int .i64) (.pair (.int .i64) .unit)))))]) (m := 49) (g := porterref45_At_g1 N) [2, 1, 4] (evN_sound hb N (porterref45_At_t1 N) porterref45_At_L porterref45_At_body (TabOk.cons (porterref45_At_ok2 hb) TabOk.nil) [0, 1] _ rfl) (fun x K => by kernel_rfl)

noncomputable def porterref45_At_p4 (N : Nat) (b : (Int × (Int × (Int × (Int × Unit))))) (x4 : (Int × (Int × (Int × (Int × Unit))))) (ticks : Int) (k0 : Bool → Option (Int × (Int × (Int × (Int × Unit))))) : Option (Int × (Int × (Int × (Int × Unit)))) :=
  cond (decide ((0 : Int) < b.2.1))
  (cond (b.2.1 == (0 : Int))
    (none)
    (k0 (decide ((Go.IntKind.wrap Go.IntKind.i64 (Int.tdiv (Go.IntKind.wrap Go.IntKind.i64 (b.1 - b.2.2.1)) b.2.1)) < ticks))))
  (k0 false)

noncomputable def porterref45_At_g4 (N : Nat) (x : denS [(2, .box (.pair (.int .i64) (.pair (.int .i64) (.pair (.int .i64) (.pair (.int .i64) .unit))))), (1, .box (.pair (.int .i64) (.pair (.int .i64) (.pair (.int .i64) (.pair (.int .i64) .unit))))), (0, .v (.int .i64))]) (K : Ex → List A → Option (Int × (Int × (Int × (Int × Unit))))) : Option (Int × (Int × (Int × (Int × Unit)))) :=
  porterref45_At_p4 N x.1 x.2.1 x.2.2.1 (fun a3 => (K .normal (mkS [(2, .box (.pair (.int .i64) (.pair (.int .i64) (.pair (.int .i64) (.pair (.int .i64) .unit))))), (1, .box (.pair (.int .i64) (.pair (.int .i64) (.pair (.int .i64) (.pair (.int .i64) .unit))))), (0, .v (.int .i64)), (34, .v .bool)] 13 (x.1, x.2.1, x.2.2.1, a3, ()))))

noncomputable def porterref45_At_h4 (N : Nat) : Hd (Int × (Int × (Int × (Int × Unit)))) := fun st K => (unS [(2, .box (.pair (.int .i64) (.pair (.int .i64) (.pair (.int .i64) (.pair (.int .i64) .unit))))), (1, .box (.pair (.int .i64) (.pair (.int .i64) (.pair (.int .i64) (.pair (.int .i64) .unit))))), (0, .v (.int .i64))] 48 (restr [2, 5, 4] 0 st)).bind fun x => porterref45_At_g4 N x K

noncomputable def porterref45_At_t4 (N : Nat) : Tab (Int × (Int × (Int × (Int × Unit)))) := []

theorem porterref45_At_ok4 {N : Nat} {c : Ctx} (hb : Base Go.Proofs.Try.prog (porterref45_At_E N) c) : CodeOk Go.Proofs.Try.prog c (nodeAt porterref45_At_body [0, 0, 1, 1, 1, 1]) (porterref45_At_h4 N) :=
  piece_ok (s := [(2, .box (.pair (.int .i64) (.pair (.int .i64) (.pair (.int .i64) (.pair (.int .i64) .unit))))), (1, .box (.pair (.int .i64) (.pair (.int .i64) (.pair (.int .i64) (.pair (.int .i64) .unit))))), (0, .v (.int .i64))]) (m := 48) (g := porterref45_At_g4 N) [2, 5, 4] (evN_sound hb N (porterref45_At_t4 N) porterref45_At_L porterref45_At_body TabOk.nil [0, 0, 1, 1, 1, 1] _ rfl) (fun x K => by kernel_rfl)

noncomputable def porterref45_At_p3 (N : Nat) (b : (Int × (Int × (Int × (Int × Unit))))) (x4 : (Int × (Int × (Int × (Int × Unit))))) (ticks : Int) (k0 : (Int × (Int × (Int × (Int × Unit)))) → Option (Int × (Int × (Int × (Int × Unit))))) (k1 : Option (Int × (Int × (Int × (Int × Unit))))) : Option (Int × (Int × (Int × (Int × Unit)))) :=
  porterref45_At_p4 N b x4 ticks
  (fun x40 => cond x40
    (k0 (b.1, (b.2.1, (b.1, b.2.2.2))))
    (k1))

noncomputable def porterref45_At_g3 (N : Nat) (x : denS [(2, .box (.pair (.int .i64) (.pair (.int .i64) (.pair (.int .i64) (.pair (.int .i64) .unit))))), (1, .box (.pair (.int .i64) (.pair (.int .i64) (.pair (.int .i64) (.pair (.int .i64) .unit))))), (0, .v (.int .i64))]) (K : Ex → List A → Option (Int × (Int × (Int × (Int × Unit))))) : Option (Int × (Int × (Int × (Int × Unit)))) :=
  porterref45_At_p3 N x.1 x.2.1 x.2.2.1 (fun a0 => (K .ret (mkS [(4, .box (.pair (.int .i64) (.pair (.int .i64) (.pair (.int .i64) (.pair (.int .i64) .unit)))))] 49 (a0, ())))) (K .normal (mkS [(2, .box (.pair (.int .i64) (.pair (.int .i64) (.pair (.int .i64) (.pair (.int .i64) .unit))))), (1, .box (.pair (.int .i64) (.pair (.int .i64) (.pair (.int .i64) (.pair (.int .i64) .unit))))), (0, .v (.int .i64))] 48 (x.1, x.2.1, x.2.2.1, ())))

noncomputable def porterref45_At_h3 (N : Nat) : Hd (Int × (Int × (Int × (Int × Unit)))) := fun st K => (unS [(2, .box (.pair (.int .i64) (.pair (.int .i64) (.pair (.int .i64) (.pair (.int .i64) .unit))))), (1, .box (.pair (.int .i64) (.pair (.int .i64) (.pair (.int .i64) (.pair (.int .i64) .unit))))), (0, .v (.int .i64))] 48 (restr [2, 5, 4] 0 st)).bind fun x => porterref45_At_g3 N x K

noncomputable def porterref45_At_t3 (N : Nat) : Tab (Int × (Int × (Int × (Int × Unit)))) := [([0, 0, 1, 1, 1, 1], porterref45_At_h4 N)]

theorem porterref45_At_ok3 {N : Nat} {c : Ctx} (hb : Base Go.Proofs.Try.prog (porterref45_At_E N) c) : CodeOk Go.Proofs.Try.prog c (nodeAt porterref45_At_body [0, 1, 1, 1, 1]) (porterref45_At_h3 N) :=
  piece_ok (s := [(2, .box (.pair (.int .i64) (.pair (.int .i64) (.pair (.int .i64) (.pair (.int .i64) .unit))))), (1, .box (.pair (.int .i64) (.pair (.int .i64) (.pair (.int .i64) (.pair (.int .i64) .unit))))), (0, .v (.int .i64))]) (m := 48) (g := porterref45_At_g3 N) [2, 5, 4] (evN_sound hb N (porterref45_At_t3 N) porterref45_At_L porterref45_At_body (TabOk.cons (porterref45_At_ok4 hb) TabOk.nil) [0, 1, 1, 1, 1] _ rfl) (fun x K => by kernel_rfl)

noncomputable def porterref45_At (N : Nat) (b : (Int × (Int × (Int × (Int × Unit))))) (now : Int) : Option (Int × (Int × (Int × (Int × Unit)))) :=
  porterref45_At_p1 N now b ((0 : Int), ((0 : Int), ((0 : Int), ((0 : Int), ()))))
  (some b)
  (porterref45_At_p3 N (b.1, (b.2.1, (b.2.2.1, (now, b.2.2.2.2)))) ((0 : Int), ((0 : Int), ((0 : Int), ((0 : Int), ())))) (Go.IntKind.wrap Go.IntKind.i64 (now - b.2.2.2.1))
    (fun x4 => some x4)
    (some (b.1, (b.2.1, ((Go.IntKind.wrap Go.IntKind.i64 (b.2.2.1 + (Go.IntKind.wrap Go.IntKind.i64 (b.2.1 * (Go.IntKind.wrap Go.IntKind.i64 (now - b.2.2.2.1)))))), (now, b.2.2.2.2))))))

noncomputable def porterref45_At_t (N : Nat) : Tab (Int × (Int × (Int × (Int × Unit)))) := [([0, 1], porterref45_At_h1 N), ([0, 1, 1, 1, 1], porterref45_At_h3 N)]

theorem porterref45_At_link (N : Nat) (x : denS [(0, .v (.pair (.int .i64) (.pair (.int .i64) (.pair (.int .i64) (.pair (.int .i64) .unit))))), (0, .v (.int .i64))]) : evFX (porterref45_At_E N) N (porterref45_At_t N) porterref45_At_L Go.Proofs.Try.f41 (mkS [(0, .v (.pair (.int .i64) (.pair (.int .i64) (.pair (.int .i64) (.pair (.int .i64) .unit))))), (0, .v (.int .i64))] 0 x) (kRes (.v (.pair (.int .i64) (.pair (.int .i64) (.pair (.int .i64) (.pair (.int .i64) .unit))))) 2) = porterref45_At N x.1 x.2.1 := by kernel_rfl

noncomputable def porterref45_At_res (N : Nat) : List A → Res := resOf [(0, .v (.pair (.int .i64) (.pair (.int .i64) (.pair (.int .i64) (.pair (.int .i64) .unit))))), (0, .v (.int .i64))] (fun x => porterref45_At N x.1 x.2.1) (oRes (.v (.pair (.int .i64) (.pair (.int .i64) (.pair (.int .i64) (.pair (.int .i64) .unit))))) 2)

theorem porterref45_At_ct (N : Nat) : Contract Go.Proofs.Try.prog noGlob 41 (porterref45_At_res N) :=
  Contract.of (E := porterref45_At_E N) (H := porterref45_At_t N) (L := porterref45_At_L) (N := N) (body := porterref45_At_body) (K := (kRes (.v (.pair (.int .i64) (.pair (.int .i64) (.pair (.int .i64) (.pair (.int .i64) .unit))))) 2)) (porterref45_At_Eok N) Go.Proofs.Try.func41 (by kernel_rfl) (by decide) (fun _ hb => (TabOk.cons (porterref45_At_ok1 hb) (TabOk.cons (porterref45_At_ok3 hb) TabOk.nil))) (fun x y h => by rw [porterref45_At_link]; exact h) (kRes_ok (s := (.v (.pair (.int .i64) (.pair (.int .i64) (.pair (.int .i64) (.pair (.int .i64) .unit)))))) (m := 2))

abbrev porterref45_Take_R : Type := ((Int × (Int × (Int × (Int × Unit)))) × Bool × Unit)

noncomputable def porterref45_Take_body : Code := (Go.Proofs.Try.f36.body).getD .skip

noncomputable def porterref45_Take_L : List (List Nat × List Nat) := [([0], [2, 4, 1]), ([0, 0, 1], [8, 2, 4, 1]), ([1, 0, 1], [2, 1, 4]), ([0, 0, 1, 0, 1], [4, 5]), ([1, 0, 1, 0, 1], [4, 5]), ([0, 1, 1], [2, 4]), ([0, 0, 1, 1, 1], [15, 2, 4]), ([1, 0, 1, 1, 1], [2, 4]), ([0, 0, 1, 0, 1, 1, 1], [4, 5]), ([1, 0, 1, 0, 1, 1, 1], [4, 5]), ([0, 1, 1, 1, 1], [2, 4]), ([0, 1, 1, 1, 1, 1], [4, 5]), ([1, 1, 1, 1, 1, 1], [4, 5])]

noncomputable def porterref45_Take_E (N : Nat) : Env := mkEnv tys noGlob [(41, porterref45_At_res N), (39, porterref45_Right_res N)] [] [] [] false

theorem porterref45_Take_Eok (N : Nat) : EnvOk Go.Proofs.Try.prog (porterref45_Take_E N) := mkEnv_ok mixed tys_ok (FnsOk.cons (porterref45_At_ct N) (FnsOk.cons (porterref45_Right_ct N) (FnsOk.nil)))

noncomputable def porterref45_Take (N : Nat) (b : (Int × (Int × (Int × (Int × Unit))))) (now : Int) : Option ((Int × (Int × (Int × (Int × Unit)))) × Bool × Unit) :=
  (porterref45_Right N b).bind fun y =>
  cond (!y)
  (some (b, (false, ())))
  ((porterref45_At N b now).bind fun y1 =>
    cond (y1.2.2.1 == (0 : Int))
    (some (y1, (false, ())))
    (some ((y1.1, (y1.2.1, ((Go.IntKind.wrap Go.IntKind.i64 (y1.2.2.1 - (1 : Int))), y1.2.2.2))), (true, ()))))

noncomputable def porterref45_Take_t (N : Nat) : Tab ((Int × (Int × (Int × (Int × Unit)))) × Bool × Unit) := []

theorem porterref45_Take_link (N : Nat) (x : denS [(0, .v (.pair (.int .i64) (.pair (.int .i64) (.pair (.int .i64) (.pair (.int .i64) .unit))))), (0, .v (.int .i64))]) : evFX (porterref45_Take_E N) N (porterref45_Take_t N) porterref45_Take_L Go.Proofs.Try.f36 (mkS [(0, .v (.pair (.int .i64) (.pair (.int .i64) (.pair (.int .i64) (.pair (.int .i64) .unit))))), (0, .v (.int .i64))] 0 x) (kRes (.tup [(.pair (.int .i64) (.pair (.int .i64) (.pair (.int .i64) (.pair (.int .i64) .unit)))), .bool]) 2) = porterref45_Take N x.1 x.2.1 := by kernel_rfl

noncomputable def porterref45_Take_res (N : Nat) : List A → Res := resOf [(0, .v (.pair (.int .i64) (.pair (.int .i64) (.pair (.int .i64) (.pair (.int .i64) .unit))))), (0, .v (.int .i64))] (fun x => porterref45_Take N x.1 x.2.1) (oRes (.tup [(.pair (.int .i64) (.pair (.int .i64) (.pair (.int .i64) (.pair (.int .i64) .unit)))), .bool]) 2)

theorem porterref45_Take_ct (N : Nat) : Contract Go.Proofs.Try.prog noGlob 36 (porterref45_Take_res N) :=
  Contract.of (E := porterref45_Take_E N) (H := porterref45_Take_t N) (L := porterref45_Take_L) (N := N) (body := porterref45_Take_body) (K := (kRes (.tup [(.pair (.int .i64) (.pair (.int .i64) (.pair (.int .i64) (.pair (.int .i64) .unit)))), .bool]) 2)) (porterref45_Take_Eok N) Go.Proofs.Try.func36 (by kernel_rfl) (by decide) (fun _ hb => TabOk.nil) (fun x y h => by rw [porterref45_Take_link]; exact h) (kRes_ok (s := (.tup [(.pair (.int .i64) (.pair (.int .i64) (.pair (.int .i64) (.pair (.int .i64) .unit)))), .bool])) (m := 2))

abbrev bucket_New_R : Type := (Int × (Int × (Int × (Int × Unit))))

noncomputable def bucket_New_body : Code := (Go.Proofs.Try.f37.body).getD .skip

noncomputable def bucket_New_L : List (List Nat × List Nat) := [([0], [2, 1, 4]), ([0, 1], [4]), ([1, 1], [4])]

noncomputable def bucket_New_E (N : Nat) : Env := mkEnv tys noGlob [] [] [] [] false

theorem bucket_New_Eok (N : Nat) : EnvOk Go.Proofs.Try.prog (bucket_New_E N) := mkEnv_ok mixed tys_ok (FnsOk.nil)

noncomputable def bucket_New (N : Nat) (c : ((List UInt8) × (Int × (Int × Unit)))) (now : Int) : Option (Int × (Int × (Int × (Int × Unit)))) :=
  some (c.2.1, (c.2.2.1, ((0 : Int), (now, ()))))

noncomputable def bucket_New_t (N : Nat) : Tab (Int × (Int × (Int × (Int × Unit)))) := []

theorem bucket_New_link (N : Nat) (x : denS [(0, .v (.pair .str (.pair (.int .i64) (.pair (.int .i64) .unit)))), (0, .v (.int .i64))]) : evFX (bucket_New_E N) N (bucket_New_t N) bucket_New_L Go.Proofs.Try.f37 (mkS [(0, .v (.pair .str (.pair (.int .i64) (.pair (.int .i64) .unit)))), (0, .v (.int .i64))] 0 x) (kRes (.v (.pair (.int .i64) (.pair (.int .i64) (.pair (.int .i64) (.pair (.int .i64) .unit))))) 2) = bucket_New N x.1 x.2.1 := by kernel_rfl

noncomputable def bucket_New_res (N : Nat) : List A → Res := resOf [(0, .v (.pair .str (.pair (.int .i64) (.pair (.int .i64) .unit)))), (0, .v (.int .i64))] (fun x => bucket_New N x.1 x.2.1) (oRes (.v (.pair (.int .i64) (.pair (.int .i64) (.pair (.int .i64) (.pair (.int .i64) .unit))))) 2)

theorem bucket_New_ct (N : Nat) : Contract Go.Proofs.Try.prog noGlob 37 (bucket_New_res N) :=
  Contract.of (E := bucket_New_E N) (H := bucket_New_t N) (L := bucket_New_L) (N := N) (body := bucket_New_body) (K := (kRes (.v (.pair (.int .i64) (.pair (.int .i64) (.pair (.int .i64) (.pair (.int .i64) .unit))))) 2)) (bucket_New_Eok N) Go.Proofs.Try.func37 (by kernel_rfl) (by decide) (fun _ hb => TabOk.nil) (fun x y h => by rw [bucket_New_link]; exact h) (kRes_ok (s := (.v (.pair (.int .i64) (.pair (.int .i64) (.pair (.int .i64) (.pair (.int .i64) .unit)))))) (m := 2))

abbrev porterlaw45_works_R : Type := Bool

noncomputable def porterlaw45_works_body : Code := (Go.Proofs.Try.f42.body).getD .skip

noncomputable def porterlaw45_works_L : List (List Nat × List Nat) := [([0], []), ([0, 1], [1]), ([0, 1, 1], [1, 3]), ([0, 1, 1, 1], [4, 3, 5, 1]), ([0, 1, 1, 1, 1], [6, 3, 5, 7, 1]), ([0, 1, 1, 1, 1, 1], [3, 5, 7, 9, 6, 1]), ([0, 1, 1, 1, 1, 1, 1], [0]), ([1, 1, 1, 1, 1, 1, 1], [0])]

noncomputable def porterlaw45_works_E (N : Nat) : Env := mkEnv tys noGlob [(37, bucket_New_res N), (35, bucket_Take_res N), (40, bucket_At_res N), (38, bucket_Right_res N)] [] [] [] false

theorem porterlaw45_works_Eok (N : Nat) : EnvOk Go.Proofs.Try.prog (porterlaw45_works_E N) := mkEnv_ok mixed tys_ok (FnsOk.cons (bucket_New_ct N) (FnsOk.cons (bucket_Take_ct N) (FnsOk.cons (bucket_At_ct N) (FnsOk.cons (bucket_Right_ct N) (FnsOk.nil)))))

noncomputable def porterlaw45_works (N : Nat) : Option Bool :=
  some (decide ((0 : Int) ≤ (3 : Int)))

noncomputable def porterlaw45_works_t (N : Nat) : Tab Bool := []

theorem porterlaw45_works_link (N : Nat) (x : denS []) : evFX (porterlaw45_works_E N) N (porterlaw45_works_t N) porterlaw45_works_L Go.Proofs.Try.f42 (mkS [] 0 x) (kRes (.v .bool) 0) = porterlaw45_works N := by kernel_rfl

noncomputable def porterlaw45_works_res (N : Nat) : List A → Res := resOf [] (fun x => porterlaw45_works N) (oRes (.v .bool) 0)

theorem porterlaw45_works_ct (N : Nat) : Contract Go.Proofs.Try.prog noGlob 42 (porterlaw45_works_res N) :=
  Contract.of (E := porterlaw45_works_E N) (H := porterlaw45_works_t N) (L := porterlaw45_works_L) (N := N) (body := porterlaw45_works_body) (K := (kRes (.v .bool) 0)) (porterlaw45_works_Eok N) Go.Proofs.Try.func42 (by kernel_rfl) (by decide) (fun _ hb => TabOk.nil) (fun x y h => by rw [porterlaw45_works_link]; exact h) (kRes_ok (s := (.v .bool)) (m := 0))

abbrev porterlaw45_BucketTells_R : Type := Bool

noncomputable def porterlaw45_BucketTells_body : Code := (Go.Proofs.Try.f10.body).getD .skip

noncomputable def porterlaw45_BucketTells_L : List (List Nat × List Nat) := [([0], [2, 1]), ([0, 1], [2, 1, 5, 6]), ([0, 1, 1], [2, 1, 5, 7, 6, 8]), ([0, 1, 1, 1], [2, 1, 5, 7, 6, 8, 9]), ([0, 1, 1, 1, 1], [4]), ([1, 1, 1, 1, 1], [4])]

noncomputable def porterlaw45_BucketTells_E (N : Nat) : Env := mkEnv tys noGlob [(42, porterlaw45_works_res N), (37, bucket_New_res N), (36, porterref45_Take_res N), (41, porterref45_At_res N), (39, porterref45_Right_res N), (35, bucket_Take_res N), (40, bucket_At_res N), (38, bucket_Right_res N)] [] [] [] false

theorem porterlaw45_BucketTells_Eok (N : Nat) : EnvOk Go.Proofs.Try.prog (porterlaw45_BucketTells_E N) := mkEnv_ok mixed tys_ok (FnsOk.cons (porterlaw45_works_ct N) (FnsOk.cons (bucket_New_ct N) (FnsOk.cons (porterref45_Take_ct N) (FnsOk.cons (porterref45_At_ct N) (FnsOk.cons (porterref45_Right_ct N) (FnsOk.cons (bucket_Take_ct N) (FnsOk.cons (bucket_At_ct N) (FnsOk.cons (bucket_Right_ct N) (FnsOk.nil)))))))))

noncomputable def porterlaw45_BucketTells (N : Nat) (b : (Int × (Int × (Int × (Int × Unit))))) (now : Int) : Option Bool :=
  (bucket_Take N b now).bind fun y =>
  (porterref45_Take N b now).bind fun y1 =>
  (bucket_Right N b).bind fun y2 =>
  (porterref45_Right N b).bind fun y3 =>
  cond (y2 == y3)
  ((bucket_At N b now).bind fun y4 =>
    (porterref45_At N b now).bind fun y5 =>
    cond (Go.Lift.eqD (Go.Lift.T.pair (Go.Lift.T.int Go.IntKind.i64) (Go.Lift.T.pair (Go.Lift.T.int Go.IntKind.i64) (Go.Lift.T.pair (Go.Lift.T.int Go.IntKind.i64) (Go.Lift.T.pair (Go.Lift.T.int Go.IntKind.i64) Go.Lift.T.unit)))) y4 y5)
    (cond (Go.Lift.eqD (Go.Lift.T.pair (Go.Lift.T.int Go.IntKind.i64) (Go.Lift.T.pair (Go.Lift.T.int Go.IntKind.i64) (Go.Lift.T.pair (Go.Lift.T.int Go.IntKind.i64) (Go.Lift.T.pair (Go.Lift.T.int Go.IntKind.i64) Go.Lift.T.unit)))) y.1 y1.1)
      (cond (y.2.1 == y1.2.1)
        (cond (Go.Lift.eqD (Go.Lift.T.pair (Go.Lift.T.int Go.IntKind.i64) (Go.Lift.T.pair (Go.Lift.T.int Go.IntKind.i64) (Go.Lift.T.pair (Go.Lift.T.int Go.IntKind.i64) (Go.Lift.T.pair (Go.Lift.T.int Go.IntKind.i64) Go.Lift.T.unit)))) (b.1, (b.2.1, ((0 : Int), (now, ())))) (b.1, (b.2.1, ((0 : Int), (now, ())))))
          (some (decide ((0 : Int) ≤ (3 : Int))))
          (some false))
        (some false))
      (some false))
    (some false))
  (some false)

noncomputable def porterlaw45_BucketTells_t (N : Nat) : Tab Bool := []

theorem porterlaw45_BucketTells_link (N : Nat) (x : denS [(0, .v (.pair (.int .i64) (.pair (.int .i64) (.pair (.int .i64) (.pair (.int .i64) .unit))))), (0, .v (.int .i64))]) : evFX (porterlaw45_BucketTells_E N) N (porterlaw45_BucketTells_t N) porterlaw45_BucketTells_L Go.Proofs.Try.f10 (mkS [(0, .v (.pair (.int .i64) (.pair (.int .i64) (.pair (.int .i64) (.pair (.int .i64) .unit))))), (0, .v (.int .i64))] 0 x) (kRes (.v .bool) 2) = porterlaw45_BucketTells N x.1 x.2.1 := by kernel_rfl

noncomputable def porterlaw45_BucketTells_res (N : Nat) : List A → Res := resOf [(0, .v (.pair (.int .i64) (.pair (.int .i64) (.pair (.int .i64) (.pair (.int .i64) .unit))))), (0, .v (.int .i64))] (fun x => porterlaw45_BucketTells N x.1 x.2.1) (oRes (.v .bool) 2)

theorem porterlaw45_BucketTells_ct (N : Nat) : Contract Go.Proofs.Try.prog noGlob 10 (porterlaw45_BucketTells_res N) :=
  Contract.of (E := porterlaw45_BucketTells_E N) (H := porterlaw45_BucketTells_t N) (L := porterlaw45_BucketTells_L) (N := N) (body := porterlaw45_BucketTells_body) (K := (kRes (.v .bool) 2)) (porterlaw45_BucketTells_Eok N) Go.Proofs.Try.func10 (by kernel_rfl) (by decide) (fun _ hb => TabOk.nil) (fun x y h => by rw [porterlaw45_BucketTells_link]; exact h) (kRes_ok (s := (.v .bool)) (m := 2))

abbrev porterlaw45_BucketWindow_R : Type := Bool

noncomputable def porterlaw45_BucketWindow_body : Code := (Go.Proofs.Try.f11.body).getD .skip

noncomputable def porterlaw45_BucketWindow_L : List (List Nat × List Nat) := [([0], [3, 1, 5]), ([0, 0, 1], [41, 5, 3, 1]), ([1, 0, 1], [5, 3, 1]), ([0, 0, 1, 0, 1], [6]), ([1, 0, 1, 0, 1], [6]), ([0, 1, 1], [3, 1, 7, 8]), ([0, 1, 1, 1], [3, 1, 7, 8, 9]), ([0, 1, 1, 1, 1], [1, 3, 10, 7, 8, 9]), ([0, 0, 1, 1, 1, 1, 1], [11, 1, 3, 10, 7, 8, 9]), ([0, 1, 0, 1, 1, 1, 1, 1], [11, 1, 3, 10, 7, 8, 9]), ([0, 0, 0, 0, 1, 0, 1, 1, 1, 1, 1], [52, 3, 1, 11, 10, 7, 8, 9]), ([1, 0, 0, 0, 1, 0, 1, 1, 1, 1, 1], [3, 1, 11, 10, 7, 8, 9]), ([1, 1, 0, 0, 0, 1, 0, 1, 1, 1, 1, 1], [9, 3, 8]), ([0, 0, 0, 1, 0, 0, 1, 0, 1, 1, 1, 1, 1], [12, 10, 13, 7, 8, 9, 3, 11, 1]), ([0, 0, 1, 0, 0, 1, 0, 0, 1, 0, 1, 1, 1, 1, 1], [72, 12, 13, 7, 8, 9, 3, 11, 1]), ([1, 0, 1, 0, 0, 1, 0, 0, 1, 0, 1, 1, 1, 1, 1], [12, 13, 7, 8, 9, 3, 11, 1]), ([0, 0, 1, 0, 1, 0, 0, 1, 0, 0, 1, 0, 1, 1, 1, 1, 1], [6]), ([1, 0, 1, 0, 1, 0, 0, 1, 0, 0, 1, 0, 1, 1, 1, 1, 1], [6]), ([0, 1, 1, 0, 0, 1, 0, 0, 1, 0, 1, 1, 1, 1, 1], [13, 12, 7, 8, 9, 3, 11, 1, 10]), ([0, 0, 1, 1, 1, 0, 0, 1, 0, 0, 1, 0, 1, 1, 1, 1, 1], [89, 9, 12, 3, 11, 1, 10, 7, 8]), ([1, 0, 1, 1, 1, 0, 0, 1, 0, 0, 1, 0, 1, 1, 1, 1, 1], [12, 3, 11, 1, 10, 7, 8, 9]), ([0, 1, 0, 1, 1, 1, 0, 0, 1, 0, 0, 1, 0, 1, 1, 1, 1, 1], [12, 3, 11, 1, 10, 7, 8, 9]), ([1, 1, 1, 1, 0, 0, 1, 0, 0, 1, 0, 1, 1, 1, 1, 1], [11, 1, 3, 10, 7, 8, 9]), ([0, 1, 0, 0, 1, 0, 1, 1, 1, 1, 1], [11, 1, 3, 10, 7, 8, 9]), ([1, 1, 0, 0, 1, 0, 1, 1, 1, 1, 1], [11, 1, 3, 10, 7, 8, 9]), ([1, 0, 1, 1, 1, 1, 1], [9, 3, 8]), ([0, 1, 1, 1, 1, 1, 1], [6]), ([1, 1, 1, 1, 1, 1, 1], [6])]

noncomputable def porterlaw45_BucketWindow_E (N : Nat) : Env := mkEnv tys noGlob [(42, porterlaw45_works_res N), (35, bucket_Take_res N), (38, bucket_Right_res N)] [] [] [] false

theorem porterlaw45_BucketWindow_Eok (N : Nat) : EnvOk Go.Proofs.Try.prog (porterlaw45_BucketWindow_E N) := mkEnv_ok mixed tys_ok (FnsOk.cons (porterlaw45_works_ct N) (FnsOk.cons (bucket_Take_ct N) (FnsOk.cons (bucket_Right_ct N) (FnsOk.nil))))

noncomputable def porterlaw45_BucketWindow_p2 (N : Nat) (times : (List Int)) (b : (Int × (Int × (Int × (Int × Unit))))) (l : (List Int)) (k0 : Bool → Option Bool) : Option Bool :=
  (bucket_Right N b).bind fun y =>
  cond (!y)
  (k0 true)
  (cond (decide ((60 : Int) < (((List.length times) : Nat) : Int)))
    (k0 true)
    (cond (decide (0 < (List.length l)))
      (cond (decide ((List.getD l 0 (0 : Int)) < (0 : Int)))
        (k0 true)
        (cond (decide (0 < (List.length l)))
          (cond (decide ((1099511627776 : Int) < (List.getD l 0 (0 : Int))))
            (k0 true)
            (cond (decide (1 < (List.length l)))
              (cond (decide ((List.getD l 1 (0 : Int)) < (0 : Int)))
                (k0 true)
                (cond (decide (1 < (List.length l)))
                  (k0 (decide ((1099511627776 : Int) < (List.getD l 1 (0 : Int)))))
                  (none)))
              (none)))
          (none)))
      (none)))

noncomputable def porterlaw45_BucketWindow_g2 (N : Nat) (x : denS [(1, .v (.sl (.int .i64))), (1, .box (.pair (.int .i64) (.pair (.int .i64) (.pair (.int .i64) (.pair (.int .i64) .unit))))), (1, .box (.arr 2 (.int .i64)))]) (K : Ex → List A → Option Bool) : Option Bool :=
  porterlaw45_BucketWindow_p2 N x.1 x.2.1 x.2.2.1 (fun a3 => (K .normal (mkS [(1, .v (.sl (.int .i64))), (1, .box (.pair (.int .i64) (.pair (.int .i64) (.pair (.int .i64) (.pair (.int .i64) .unit))))), (1, .box (.arr 2 (.int .i64))), (35, .v .bool)] 76 (x.1, x.2.1, x.2.2.1, a3, ()))))

noncomputable def porterlaw45_BucketWindow_h2 (N : Nat) : Hd Bool := fun st K => (unS [(1, .v (.sl (.int .i64))), (1, .box (.pair (.int .i64) (.pair (.int .i64) (.pair (.int .i64) (.pair (.int .i64) .unit))))), (1, .box (.arr 2 (.int .i64)))] 112 (restr [3, 1, 5] 0 st)).bind fun x => porterlaw45_BucketWindow_g2 N x K

noncomputable def porterlaw45_BucketWindow_t2 (N : Nat) : Tab Bool := []

theorem porterlaw45_BucketWindow_ok2 {N : Nat} {c : Ctx} (hb : Base Go.Proofs.Try.prog (porterlaw45_BucketWindow_E N) c) : CodeOk Go.Proofs.Try.prog c (nodeAt porterlaw45_BucketWindow_body [0, 0, 1]) (porterlaw45_BucketWindow_h2 N) :=
  piece_ok (s := [(1, .v (.sl (.int .i64))), (1, .box (.pair (.int .i64) (.pair (.int .i64) (.pair (.int .i64) (.pair (.int .i64) .unit))))), (1, .box (.arr 2 (.int .i64)))]) (m := 112) (g := porterlaw45_BucketWindow_g2 N) [3, 1, 5] (evN_sound hb N (porterlaw45_BucketWindow_t2 N) porterlaw45_BucketWindow_L porterlaw45_BucketWindow_body TabOk.nil [0, 0, 1] _ rfl) (fun x K => by kernel_rfl)

noncomputable def porterlaw45_BucketWindow_p1 (N : Nat) (times : (List Int)) (b : (Int × (Int × (Int × (Int × Unit))))) (l : (List Int)) (k0 : Bool → Option Bool) (k1 : Option Bool) : Option Bool :=
  porterlaw45_BucketWindow_p2 N times b l
  (fun x41 => cond x41
    (k0 (decide ((0 : Int) ≤ (3 : Int))))
    (k1))

noncomputable def porterlaw45_BucketWindow_g1 (N : Nat) (x : denS [(1, .v (.sl (.int .i64))), (1, .box (.pair (.int .i64) (.pair (.int .i64) (.pair (.int .i64) (.pair (.int .i64) .unit))))), (1, .box (.arr 2 (.int .i64)))]) (K : Ex → List A → Option Bool) : Option Bool :=
  porterlaw45_BucketWindow_p1 N x.1 x.2.1 x.2.2.1 (fun a0 => (K .ret (mkS [(6, .v .bool)] 111 (a0, ())))) (K .normal (mkS [(1, .v (.sl (.int .i64))), (1, .box (.pair (.int .i64) (.pair (.int .i64) (.pair (.int .i64) (.pair (.int .i64) .unit))))), (1, .box (.arr 2 (.int .i64)))] 112 (x.1, x.2.1, x.2.2.1, ())))

noncomputable def porterlaw45_BucketWindow_h1 (N : Nat) : Hd Bool := fun st K => (unS [(1, .v (.sl (.int .i64))), (1, .box (.pair (.int .i64) (.pair (.int .i64) (.pair (.int .i64) (.pair (.int .i64) .unit))))), (1, .box (.arr 2 (.int .i64)))] 112 (restr [3, 1, 5] 0 st)).bind fun x => porterlaw45_BucketWindow_g1 N x K

noncomputable def porterlaw45_BucketWindow_t1 (N : Nat) : Tab Bool := [([0, 0, 1], porterlaw45_BucketWindow_h2 N)]

theorem porterlaw45_BucketWindow_ok1 {N : Nat} {c : Ctx} (hb : Base Go.Proofs.Try.prog (porterlaw45_BucketWindow_E N) c) : CodeOk Go.Proofs.Try.prog c (nodeAt porterlaw45_BucketWindow_body [0, 1]) (porterlaw45_BucketWindow_h1 N) :=
  piece_ok (s := [(1, .v (.sl (.int .i64))), (1, .box (.pair (.int .i64) (.pair (.int .i64) (.pair (.int .i64) (.pair (.int .i64) .unit))))), (1, .box (.arr 2 (.int .i64)))]) (m := 112) (g := porterlaw45_BucketWindow_g1 N) [3, 1, 5] (evN_sound hb N (porterlaw45_BucketWindow_t1 N) porterlaw45_BucketWindow_L porterlaw45_BucketWindow_body (TabOk.cons (porterlaw45_BucketWindow_ok2 hb) TabOk.nil) [0, 1] _ rfl) (fun x K => by kernel_rfl)

noncomputable def porterlaw45_BucketWindow_p6 (N : Nat) (times : (List Int)) (b : (Int × (Int × (Int × (Int × Unit))))) (from_ : Int) (long : Int) (n : Int) (last : Int) (i : Int) (c : (Int × (Int × (Int × (Int × Unit))))) (is_ : Bool) (k0 : Bool → Option Bool) : Option Bool :=
  (bucket_Right N c).bind fun y =>
  cond (!y)
  (k0 true)
  (k0 (decide (c.2.2.2.1 < last)))

noncomputable def porterlaw45_BucketWindow_g6 (N : Nat) (x : denS [(1, .v (.sl (.int .i64))), (1, .box (.pair (.int .i64) (.pair (.int .i64) (.pair (.int .i64) (.pair (.int .i64) .unit))))), (3, .v (.int .i64)), (0, .v (.int .i64)), (0, .v (.int .i64)), (0, .v (.int .i64)), (0, .v (.int .i64)), (0, .box (.pair (.int .i64) (.pair (.int .i64) (.pair (.int .i64) (.pair (.int .i64) .unit))))), (0, .v .bool)]) (K : Ex → List A → Option Bool) : Option Bool :=
  porterlaw45_BucketWindow_p6 N x.1 x.2.1 x.2.2.1 x.2.2.2.1 x.2.2.2.2.1 x.2.2.2.2.2.1 x.2.2.2.2.2.2.1 x.2.2.2.2.2.2.2.1 x.2.2.2.2.2.2.2.2.1 (fun a8 => (K .normal (mkS [(1, .v (.sl (.int .i64))), (1, .box (.pair (.int .i64) (.pair (.int .i64) (.pair (.int .i64) (.pair (.int .i64) .unit))))), (3, .v (.int .i64)), (0, .v (.int .i64)), (0, .v (.int .i64)), (1, .v (.int .i64)), (0, .box (.pair (.int .i64) (.pair (.int .i64) (.pair (.int .i64) (.pair (.int .i64) .unit))))), (0, .v .bool), (58, .v .bool)] 45 (x.1, x.2.1, x.2.2.1, x.2.2.2.1, x.2.2.2.2.1, x.2.2.2.2.2.2.1, x.2.2.2.2.2.2.2.1, x.2.2.2.2.2.2.2.2.1, a8, ()))))

noncomputable def porterlaw45_BucketWindow_h6 (N : Nat) : Hd Bool := fun st K => (unS [(1, .v (.sl (.int .i64))), (1, .box (.pair (.int .i64) (.pair (.int .i64) (.pair (.int .i64) (.pair (.int .i64) .unit))))), (3, .v (.int .i64)), (0, .v (.int .i64)), (0, .v (.int .i64)), (0, .v (.int .i64)), (0, .v (.int .i64)), (0, .box (.pair (.int .i64) (.pair (.int .i64) (.pair (.int .i64) (.pair (.int .i64) .unit))))), (0, .v .bool)] 104 (restr [12, 10, 13, 7, 8, 9, 3, 11, 1] 0 st)).bind fun x => porterlaw45_BucketWindow_g6 N x K

noncomputable def porterlaw45_BucketWindow_t6 (N : Nat) : Tab Bool := []

theorem porterlaw45_BucketWindow_ok6 {N : Nat} {c : Ctx} (hb : Base Go.Proofs.Try.prog (porterlaw45_BucketWindow_E N) c) : CodeOk Go.Proofs.Try.prog c (nodeAt porterlaw45_BucketWindow_body [0, 0, 1, 0, 0, 1, 0, 0, 1, 0, 1, 1, 1, 1, 1]) (porterlaw45_BucketWindow_h6 N) :=
  piece_ok (s := [(1, .v (.sl (.int .i64))), (1, .box (.pair (.int .i64) (.pair (.int .i64) (.pair (.int .i64) (.pair (.int .i64) .unit))))), (3, .v (.int .i64)), (0, .v (.int .i64)), (0, .v (.int .i64)), (0, .v (.int .i64)), (0, .v (.int .i64)), (0, .box (.pair (.int .i64) (.pair (.int .i64) (.pair (.int .i64) (.pair (.int .i64) .unit))))), (0, .v .bool)]) (m := 104) (g := porterlaw45_BucketWindow_g6 N) [12, 10, 13, 7, 8, 9, 3, 11, 1] (evN_sound hb N (porterlaw45_BucketWindow_t6 N) porterlaw45_BucketWindow_L porterlaw45_BucketWindow_body TabOk.nil [0, 0, 1, 0, 0, 1, 0, 0, 1, 0, 1, 1, 1, 1, 1] _ rfl) (fun x K => by kernel_rfl)

noncomputable def porterlaw45_BucketWindow_p5 (N : Nat) (times : (List Int)) (b : (Int × (Int × (Int × (Int × Unit))))) (from_ : Int) (long : Int) (n : Int) (last : Int) (i : Int) (c : (Int × (Int × (Int × (Int × Unit))))) (is_ : Bool) (k0 : Bool → Option Bool) (k1 : Option Bool) : Option Bool :=
  porterlaw45_BucketWindow_p6 N times b from_ long n last i c is_
  (fun x72 => cond x72
    (k0 false)
    (k1))

noncomputable def porterlaw45_BucketWindow_g5 (N : Nat) (x : denS [(1, .v (.sl (.int .i64))), (1, .box (.pair (.int .i64) (.pair (.int .i64) (.pair (.int .i64) (.pair (.int .i64) .unit))))), (3, .v (.int .i64)), (0, .v (.int .i64)), (0, .v (.int .i64)), (0, .v (.int .i64)), (0, .v (.int .i64)), (0, .box (.pair (.int .i64) (.pair (.int .i64) (.pair (.int .i64) (.pair (.int .i64) .unit))))), (0, .v .bool)]) (K : Ex → List A → Option Bool) : Option Bool :=
  porterlaw45_BucketWindow_p5 N x.1 x.2.1 x.2.2.1 x.2.2.2.1 x.2.2.2.2.1 x.2.2.2.2.2.1 x.2.2.2.2.2.2.1 x.2.2.2.2.2.2.2.1 x.2.2.2.2.2.2.2.2.1 (fun a0 => (K .ret (mkS [(6, .v .bool)] 111 (a0, ())))) (K .normal (mkS [(1, .v (.sl (.int .i64))), (1, .box (.pair (.int .i64) (.pair (.int .i64) (.pair (.int .i64) (.pair (.int .i64) .unit))))), (3, .v (.int .i64)), (0, .v (.int .i64)), (0, .v (.int .i64)), (1, .v (.int .i64)), (0, .box (.pair (.int .i64) (.pair (.int .i64) (.pair (.int .i64) (.pair (.int .i64) .unit))))), (0, .v .bool)] 104 (x.1, x.2.1, x.2.2.1, x.2.2.2.1, x.2.2.2.2.1, x.2.2.2.2.2.2.1, x.2.2.2.2.2.2.2.1, x.2.2.2.2.2.2.2.2.1, ())))

noncomputable def porterlaw45_BucketWindow_h5 (N : Nat) : Hd Bool := fun st K => (unS [(1, .v (.sl (.int .i64))), (1, .box (.pair (.int .i64) (.pair (.int .i64) (.pair (.int .i64) (.pair (.int .i64) .unit))))), (3, .v (.int .i64)), (0, .v (.int .i64)), (0, .v (.int .i64)), (0, .v (.int .i64)), (0, .v (.int .i64)), (0, .box (.pair (.int .i64) (.pair (.int .i64) (.pair (.int .i64) (.pair (.int .i64) .unit))))), (0, .v .bool)] 104 (restr [12, 10, 13, 7, 8, 9, 3, 11, 1] 0 st)).bind fun x => porterlaw45_BucketWindow_g5 N x K

noncomputable def porterlaw45_BucketWindow_t5 (N : Nat) : Tab Bool := [([0, 0, 1, 0, 0, 1, 0, 0, 1, 0, 1, 1, 1, 1, 1], porterlaw45_BucketWindow_h6 N)]

theorem porterlaw45_BucketWindow_ok5 {N : Nat} {c : Ctx} (hb : Base Go.Proofs.Try.prog (porterlaw45_BucketWindow_E N) c) : CodeOk Go.Proofs.Try.prog c (nodeAt porterlaw45_BucketWindow_body [0, 1, 0, 0, 1, 0, 0, 1, 0, 1, 1, 1, 1, 1]) (porterlaw45_BucketWindow_h5 N) :=
  piece_ok (s := [(1, .v (.sl (.int .i64))), (1, .box (.pair (.int .i64) (.pair (.int .i64) (.pair (.int .i64) (.pair (.int .i64) .unit))))), (3, .v (.int .i64)), (0, .v (.int .i64)), (0, .v (.int .i64)), (0, .v (.int .i64)), (0, .v (.int .i64)), (0, .box (.pair (.int .i64) (.pair (.int .i64) (.pair (.int .i64) (.pair (.int .i64) .unit))))), (0, .v .bool)]) (m := 104) (g := porterlaw45_BucketWindow_g5 N) [12, 10, 13, 7, 8, 9, 3, 11, 1] (evN_sound hb N (porterlaw45_BucketWindow_t5 N) porterlaw45_BucketWindow_L porterlaw45_BucketWindow_body (TabOk.cons (porterlaw45_BucketWindow_ok6 hb) TabOk.nil) [0, 1, 0, 0, 1, 0, 0, 1, 0, 1, 1, 1, 1, 1] _ rfl) (fun x K => by kernel_rfl)

noncomputable def porterlaw45_BucketWindow_p7 (N : Nat) (times : (List Int)) (b : (Int × (Int × (Int × (Int × Unit))))) (from_ : Int) (long : Int) (n : Int) (last : Int) (i : Int) (c : (Int × (Int × (Int × (Int × Unit))))) (is_ : Bool) (k0 : Bool → Option Bool) : Option Bool :=
  cond is_
  (cond (decide (from_ ≤ c.2.2.2.1))
    (k0 (decide ((Go.IntKind.wrap Go.IntKind.i64 (c.2.2.2.1 - from_)) ≤ long)))
    (k0 false))
  (k0 false)

noncomputable def porterlaw45_BucketWindow_g7 (N : Nat) (x : denS [(1, .v (.sl (.int .i64))), (1, .box (.pair (.int .i64) (.pair (.int .i64) (.pair (.int .i64) (.pair (.int .i64) .unit))))), (3, .v (.int .i64)), (0, .v (.int .i64)), (0, .v (.int .i64)), (0, .v (.int .i64)), (0, .v (.int .i64)), (0, .box (.pair (.int .i64) (.pair (.int .i64) (.pair (.int .i64) (.pair (.int .i64) .unit))))), (0, .v .bool)]) (K : Ex → List A → Option Bool) : Option Bool :=
  porterlaw45_BucketWindow_p7 N x.1 x.2.1 x.2.2.1 x.2.2.2.1 x.2.2.2.2.1 x.2.2.2.2.2.1 x.2.2.2.2.2.2.1 x.2.2.2.2.2.2.2.1 x.2.2.2.2.2.2.2.2.1 (fun a8 => (K .normal (mkS [(1, .v (.sl (.int .i64))), (1, .box (.pair (.int .i64) (.pair (.int .i64) (.pair (.int .i64) (.pair (.int .i64) .unit))))), (3, .v (.int .i64)), (0, .v (.int .i64)), (0, .v (.int .i64)), (0, .v (.int .i64)), (0, .v (.int .i64)), (0, .box (.pair (.int .i64) (.pair (.int .i64) (.pair (.int .i64) (.pair (.int .i64) .unit))))), (76, .v .bool)] 28 (x.1, x.2.1, x.2.2.1, x.2.2.2.1, x.2.2.2.2.1, x.2.2.2.2.2.1, x.2.2.2.2.2.2.1, x.2.2.2.2.2.2.2.1, a8, ()))))

noncomputable def porterlaw45_BucketWindow_h7 (N : Nat) : Hd Bool := fun st K => (unS [(1, .v (.sl (.int .i64))), (1, .box (.pair (.int .i64) (.pair (.int .i64) (.pair (.int .i64) (.pair (.int .i64) .unit))))), (3, .v (.int .i64)), (0, .v (.int .i64)), (0, .v (.int .i64)), (0, .v (.int .i64)), (0, .v (.int .i64)), (0, .box (.pair (.int .i64) (.pair (.int .i64) (.pair (.int .i64) (.pair (.int .i64) .unit))))), (0, .v .bool)] 104 (restr [13, 12, 7, 8, 9, 3, 11, 1, 10] 0 st)).bind fun x => porterlaw45_BucketWindow_g7 N x K

noncomputable def porterlaw45_BucketWindow_t7 (N : Nat) : Tab Bool := []

theorem porterlaw45_BucketWindow_ok7 {N : Nat} {c : Ctx} (hb : Base Go.Proofs.Try.prog (porterlaw45_BucketWindow_E N) c) : CodeOk Go.Proofs.Try.prog c (nodeAt porterlaw45_BucketWindow_body [0, 0, 1, 1, 1, 0, 0, 1, 0, 0, 1, 0, 1, 1, 1, 1, 1]) (porterlaw45_BucketWindow_h7 N) :=
  piece_ok (s := [(1, .v (.sl (.int .i64))), (1, .box (.pair (.int .i64) (.pair (.int .i64) (.pair (.int .i64) (.pair (.int .i64) .unit))))), (3, .v (.int .i64)), (0, .v (.int .i64)), (0, .v (.int .i64)), (0, .v (.int .i64)), (0, .v (.int .i64)), (0, .box (.pair (.int .i64) (.pair (.int .i64) (.pair (.int .i64) (.pair (.int .i64) .unit))))), (0, .v .bool)]) (m := 104) (g := porterlaw45_BucketWindow_g7 N) [13, 12, 7, 8, 9, 3, 11, 1, 10] (evN_sound hb N (porterlaw45_BucketWindow_t7 N) porterlaw45_BucketWindow_L porterlaw45_BucketWindow_body TabOk.nil [0, 0, 1, 1, 1, 0, 0, 1, 0, 0, 1, 0, 1, 1, 1, 1, 1] _ rfl) (fun x K => by kernel_rfl)

noncomputable def porterlaw45_BucketWindow_p4 (N : Nat) (times : (List Int)) (b : (Int × (Int × (Int × (Int × Unit))))) (from_ : Int) (long : Int) (n : Int) (last : Int) (i : Int) (k0 : Bool → Option Bool) (k1 : (Int × (Int × (Int × (Int × Unit)))) → Int → Int → Option Bool) : Option Bool :=
  cond (Go.Lift.inR i (List.length times))
  ((bucket_Take N b (List.getD times (Int.toNat i) (0 : Int))).bind fun y =>
    porterlaw45_BucketWindow_p5 N times b from_ long n last i y.1 y.2.1
    (fun x6 => k0 x6)
    (porterlaw45_BucketWindow_p7 N times b from_ long n y.1.2.2.2.1 i y.1 y.2.1
      (fun x89 => cond x89
        (k1 y.1 (Go.IntKind.wrap Go.IntKind.i64 (n + (1 : Int))) y.1.2.2.2.1)
        (k1 y.1 n y.1.2.2.2.1))))
  (none)

noncomputable def porterlaw45_BucketWindow_g4 (N : Nat) (x : denS [(1, .v (.sl (.int .i64))), (1, .box (.pair (.int .i64) (.pair (.int .i64) (.pair (.int .i64) (.pair (.int .i64) .unit))))), (3, .v (.int .i64)), (0, .v (.int .i64)), (0, .v (.int .i64)), (0, .v (.int .i64)), (0, .v (.int .i64))]) (K : Ex → List A → Option Bool) : Option Bool :=
  porterlaw45_BucketWindow_p4 N x.1 x.2.1 x.2.2.1 x.2.2.2.1 x.2.2.2.2.1 x.2.2.2.2.2.1 x.2.2.2.2.2.2.1 (fun a0 => (K .ret (mkS [(6, .v .bool)] 111 (a0, ())))) (fun a1 a4 a5 => (K .normal (mkS [(1, .v (.sl (.int .i64))), (1, .box (.pair (.int .i64) (.pair (.int .i64) (.pair (.int .i64) (.pair (.int .i64) .unit))))), (3, .v (.int .i64)), (0, .v (.int .i64)), (0, .v (.int .i64)), (0, .v (.int .i64)), (0, .v (.int .i64))] 106 (x.1, a1, x.2.2.1, x.2.2.2.1, a4, a5, x.2.2.2.2.2.2.1, ()))))

noncomputable def porterlaw45_BucketWindow_h4 (N : Nat) : Hd Bool := fun st K => (unS [(1, .v (.sl (.int .i64))), (1, .box (.pair (.int .i64) (.pair (.int .i64) (.pair (.int .i64) (.pair (.int .i64) .unit))))), (3, .v (.int .i64)), (0, .v (.int .i64)), (0, .v (.int .i64)), (0, .v (.int .i64)), (0, .v (.int .i64))] 106 (restr [3, 1, 11, 10, 7, 8, 9] 0 st)).bind fun x => porterlaw45_BucketWindow_g4 N x K

noncomputable def porterlaw45_BucketWindow_t4 (N : Nat) : Tab Bool := [([0, 1, 0, 0, 1, 0, 0, 1, 0, 1, 1, 1, 1, 1], porterlaw45_BucketWindow_h5 N), ([0, 0, 1, 1, 1, 0, 0, 1, 0, 0, 1, 0, 1, 1, 1, 1, 1], porterlaw45_BucketWindow_h7 N)]

theorem porterlaw45_BucketWindow_ok4 {N : Nat} {c : Ctx} (hb : Base Go.Proofs.Try.prog (porterlaw45_BucketWindow_E N) c) : CodeOk Go.Proofs.Try.prog c (nodeAt porterlaw45_BucketWindow_body [0, 1, 0, 0, 1, 0, 1, 1, 1, 1, 1]) (porterlaw45_BucketWindow_h4 N) :=
  piece_ok (s := [(1, .v (.sl (.int .i64))), (1, .box (.pair (.int .i64) (.pair (.int .i64) (.pair (.int .i64) (.pair (.int .i64) .unit))))), (3, .v (.int .i64)), (0, .v (.int .i64)), (0, .v (.int .i64)), (0, .v (.int .i64)), (0, .v (.int .i64))]) (m := 106) (g := porterlaw45_BucketWindow_g4 N) [3, 1, 11, 10, 7, 8, 9] (evN_sound hb N (porterlaw45_BucketWindow_t4 N) porterlaw45_BucketWindow_L porterlaw45_BucketWindow_body (TabOk.cons (porterlaw45_BucketWindow_ok5 hb) (TabOk.cons (porterlaw45_BucketWindow_ok7 hb) TabOk.nil)) [0, 1, 0, 0, 1, 0, 1, 1, 1, 1, 1] _ rfl) (fun x K => by kernel_rfl)

noncomputable def porterlaw45_BucketWindow_s3 (N : Nat) (times : (List Int)) (from_ : Int) (long : Int) (b : (Int × (Int × (Int × (Int × Unit))))) (n : Int) (last : Int) (i : Int) (rec : (Int × (Int × (Int × (Int × Unit)))) → Int → Int → Int → Option Bool) (k0 : Bool → Option Bool) (k1 : (Int × (Int × (Int × (Int × Unit)))) → Int → Option Bool) : Option Bool :=
  cond (decide (i < (((List.length times) : Nat) : Int)))
  (porterlaw45_BucketWindow_p4 N times b from_ long n last i
    (fun x6 => k0 x6)
    (fun b1 n1 last1 => rec b1 n1 last1 (Go.IntKind.wrap Go.IntKind.i64 (i + (1 : Int)))))
  (k1 b n)

noncomputable def porterlaw45_BucketWindow_p3 (N : Nat) (times : (List Int)) (b : (Int × (Int × (Int × (Int × Unit))))) (from_ : Int) (long : Int) (n : Int) (last : Int) (i : Int) (k0 : Bool → Option Bool) (k1 : (Int × (Int × (Int × (Int × Unit)))) → Int → Option Bool) : Option Bool :=
  iter (fun (v : ((Int × (Int × (Int × (Int × Unit)))) × Int × Int × Int)) r => porterlaw45_BucketWindow_s3 N times from_ long v.1 v.2.1 v.2.2.1 v.2.2.2 (fun b n last i => (r (b, n, last, i))) k0 k1) N (b, n, last, i)

noncomputable def porterlaw45_BucketWindow_g3 (N : Nat) (i : ((List Int) × Int × Int)) (v : ((Int × (Int × (Int × (Int × Unit)))) × Int × Int × Int)) (r : ((Int × (Int × (Int × (Int × Unit)))) × Int × Int × Int) → Option Bool) (K : Ex → List A → Option Bool) : Option Bool :=
  porterlaw45_BucketWindow_s3 N i.1 i.2.1 i.2.2 v.1 v.2.1 v.2.2.1 v.2.2.2 (fun b n last i => (r (b, n, last, i))) (fun a0 => (K .ret (mkS [(6, .v .bool)] 111 (a0, ())))) (fun a0 a2 => (K (.exit 0) (mkS [(3, .box (.pair (.int .i64) (.pair (.int .i64) (.pair (.int .i64) (.pair (.int .i64) .unit))))), (4, .v (.int .i64)), (0, .v (.int .i64))] 108 (a0, i.2.2, a2, ()))))

noncomputable def porterlaw45_BucketWindow_h3 (N : Nat) : Hd Bool := fun st K => (unS [(1, .v (.sl (.int .i64))), (1, .box (.pair (.int .i64) (.pair (.int .i64) (.pair (.int .i64) (.pair (.int .i64) .unit))))), (3, .v (.int .i64)), (0, .v (.int .i64)), (0, .v (.int .i64)), (0, .v (.int .i64)), (0, .v (.int .i64))] 106 (restr [11, 1, 3, 10, 7, 8, 9] 0 st)).bind fun x => iter (fun v r => porterlaw45_BucketWindow_g3 N ((fun x => (x.1, x.2.2.1, x.2.2.2.1)) x) v r K) N ((fun x => (x.2.1, x.2.2.2.2.1, x.2.2.2.2.2.1, x.2.2.2.2.2.2.1)) x)

noncomputable def porterlaw45_BucketWindow_t3 (N : Nat) : Tab Bool := [([0, 1, 0, 0, 1, 0, 1, 1, 1, 1, 1], porterlaw45_BucketWindow_h4 N)]

theorem porterlaw45_BucketWindow_ok3 {N : Nat} {c : Ctx} (hb : Base Go.Proofs.Try.prog (porterlaw45_BucketWindow_E N) c) : CodeOk Go.Proofs.Try.prog c (nodeAt porterlaw45_BucketWindow_body [0, 1, 0, 1, 1, 1, 1, 1]) (porterlaw45_BucketWindow_h3 N) :=
  loop_ok (s := [(1, .v (.sl (.int .i64))), (1, .box (.pair (.int .i64) (.pair (.int .i64) (.pair (.int .i64) (.pair (.int .i64) .unit))))), (3, .v (.int .i64)), (0, .v (.int .i64)), (0, .v (.int .i64)), (0, .v (.int .i64)), (0, .v (.int .i64))]) (m := 106) (porterlaw45_BucketWindow_g3 N) [11, 1, 3, 10, 7, 8, 9] N (fun x => (x.1, x.2.2.1, x.2.2.2.1)) (fun x => (x.2.1, x.2.2.2.2.1, x.2.2.2.2.2.1, x.2.2.2.2.2.2.1)) (fun i v => (i.1, v.1, i.2.1, i.2.2, v.2.1, v.2.2.1, v.2.2.2, ())) (fun _ => rfl) (evN_sound hb N (porterlaw45_BucketWindow_t3 N) porterlaw45_BucketWindow_L porterlaw45_BucketWindow_body (TabOk.cons (porterlaw45_BucketWindow_ok4 hb) TabOk.nil) [0, 0, 1, 0, 1, 1, 1, 1, 1] _ rfl) (fun i v r K => by kernel_rfl)

noncomputable def porterlaw45_BucketWindow (N : Nat) (b : (Int × (Int × (Int × (Int × Unit))))) (times : (List Int)) (l : (List Int)) : Option Bool :=
  porterlaw45_BucketWindow_p1 N times b l
  (fun x6 => some x6)
  (cond (decide (0 < (List.length l)))
    (cond (decide (1 < (List.length l)))
      (porterlaw45_BucketWindow_p3 N times b (List.getD l 0 (0 : Int)) (List.getD l 1 (0 : Int)) (0 : Int) b.2.2.2.1 (0 : Int)
        (fun x61 => some x61)
        (fun b1 n => cond (decide (n ≤ b1.1))
          (some (decide ((0 : Int) ≤ (3 : Int))))
          (cond ((if (b1.2.1 > (1 : Int)) then b1.2.1 else (1 : Int)) == (0 : Int))
            (none)
            (cond (decide ((Go.IntKind.wrap Go.IntKind.i64 (Int.tdiv (Go.IntKind.wrap Go.IntKind.i64 ((Go.IntKind.wrap Go.IntKind.i64 (n - b1.1)) - (1 : Int))) (if (b1.2.1 > (1 : Int)) then b1.2.1 else (1 : Int)))) < (List.getD l 1 (0 : Int))))
              (cond (decide ((0 : Int) < b1.2.1))
                (some (decide ((0 : Int) ≤ (3 : Int))))
                (some false))
              (some false)))))
      (none))
    (none))

noncomputable def porterlaw45_BucketWindow_t (N : Nat) : Tab Bool := [([0, 1], porterlaw45_BucketWindow_h1 N), ([0, 1, 0, 1, 1, 1, 1, 1], porterlaw45_BucketWindow_h3 N)]

theorem porterlaw45_BucketWindow_link (N : Nat) (x : denS [(0, .v (.pair (.int .i64) (.pair (.int .i64) (.pair (.int .i64) (.pair (.int .i64) .unit))))), (0, .v (.sl (.int .i64))), (0, .v (.arr 2 (.int .i64)))]) : evFX (porterlaw45_BucketWindow_E N) N (porterlaw45_BucketWindow_t N) porterlaw45_BucketWindow_L Go.Proofs.Try.f11 (mkS [(0, .v (.pair (.int .i64) (.pair (.int .i64) (.pair (.int .i64) (.pair (.int .i64) .unit))))), (0, .v (.sl (.int .i64))), (0, .v (.arr 2 (.int .i64)))] 0 x) (kRes (.v .bool) 3) = porterlaw45_BucketWindow N x.1 x.2.1 x.2.2.1 := by kernel_rfl

noncomputable def porterlaw45_BucketWindow_res (N : Nat) : List A → Res := resOf [(0, .v (.pair (.int .i64) (.pair (.int .i64) (.pair (.int .i64) (.pair (.int .i64) .unit))))), (0, .v (.sl (.int .i64))), (0, .v (.arr 2 (.int .i64)))] (fun x => porterlaw45_BucketWindow N x.1 x.2.1 x.2.2.1) (oRes (.v .bool) 3)

theorem porterlaw45_BucketWindow_ct (N : Nat) : Contract Go.Proofs.Try.prog noGlob 11 (porterlaw45_BucketWindow_res N) :=
  Contract.of (E := porterlaw45_BucketWindow_E N) (H := porterlaw45_BucketWindow_t N) (L := porterlaw45_BucketWindow_L) (N := N) (body := porterlaw45_BucketWindow_body) (K := (kRes (.v .bool) 3)) (porterlaw45_BucketWindow_Eok N) Go.Proofs.Try.func11 (by kernel_rfl) (by decide) (fun _ hb => (TabOk.cons (porterlaw45_BucketWindow_ok1 hb) (TabOk.cons (porterlaw45_BucketWindow_ok3 hb) TabOk.nil))) (fun x y h => by rw [porterlaw45_BucketWindow_link]; exact h) (kRes_ok (s := (.v .bool)) (m := 3))

abbrev porterlaw45_BucketOnce_R : Type := Bool

noncomputable def porterlaw45_BucketOnce_body : Code := (Go.Proofs.Try.f12.body).getD .skip

noncomputable def porterlaw45_BucketOnce_L : List (List Nat × List Nat) := [([0], [1, 2, 3]), ([0, 0, 1], [18, 3, 1, 2]), ([1, 0, 1], [3, 1, 2]), ([0, 0, 1, 0, 1], [6]), ([1, 0, 1, 0, 1], [6]), ([0, 1, 1], [6]), ([1, 1, 1], [6])]

noncomputable def porterlaw45_BucketOnce_E (N : Nat) : Env := mkEnv tys noGlob [(42, porterlaw45_works_res N), (40, bucket_At_res N), (38, bucket_Right_res N)] [] [] [] false

theorem porterlaw45_BucketOnce_Eok (N : Nat) : EnvOk Go.Proofs.Try.prog (porterlaw45_BucketOnce_E N) := mkEnv_ok mixed tys_ok (FnsOk.cons (porterlaw45_works_ct N) (FnsOk.cons (bucket_At_ct N) (FnsOk.cons (bucket_Right_ct N) (FnsOk.nil))))

noncomputable def porterlaw45_BucketOnce_p2 (N : Nat) (m : Int) (n : Int) (b : (Int × (Int × (Int × (Int × Unit))))) (k0 : Bool → Option Bool) : Option Bool :=
  cond (decide (n < m))
  (k0 true)
  (cond (decide ((1099511627776 : Int) < n))
    (k0 true)
    ((bucket_Right N b).bind fun y =>
      k0 (!y)))

noncomputable def porterlaw45_BucketOnce_g2 (N : Nat) (x : denS [(1, .v (.int .i64)), (0, .v (.int .i64)), (0, .box (.pair (.int .i64) (.pair (.int .i64) (.pair (.int .i64) (.pair (.int .i64) .unit)))))]) (K : Ex → List A → Option Bool) : Option Bool :=
  porterlaw45_BucketOnce_p2 N x.1 x.2.1 x.2.2.1 (fun a3 => (K .normal (mkS [(1, .v (.int .i64)), (0, .v (.int .i64)), (0, .box (.pair (.int .i64) (.pair (.int .i64) (.pair (.int .i64) (.pair (.int .i64) .unit))))), (14, .v .bool)] 13 (x.1, x.2.1, x.2.2.1, a3, ()))))

noncomputable def porterlaw45_BucketOnce_h2 (N : Nat) : Hd Bool := fun st K => (unS [(1, .v (.int .i64)), (0, .v (.int .i64)), (0, .box (.pair (.int .i64) (.pair (.int .i64) (.pair (.int .i64) (.pair (.int .i64) .unit)))))] 28 (restr [1, 2, 3] 0 st)).bind fun x => porterlaw45_BucketOnce_g2 N x K

noncomputable def porterlaw45_BucketOnce_t2 (N : Nat) : Tab Bool := []

theorem porterlaw45_BucketOnce_ok2 {N : Nat} {c : Ctx} (hb : Base Go.Proofs.Try.prog (porterlaw45_BucketOnce_E N) c) : CodeOk Go.Proofs.Try.prog c (nodeAt porterlaw45_BucketOnce_body [0, 0, 1]) (porterlaw45_BucketOnce_h2 N) :=
  piece_ok (s := [(1, .v (.int .i64)), (0, .v (.int .i64)), (0, .box (.pair (.int .i64) (.pair (.int .i64) (.pair (.int .i64) (.pair (.int .i64) .unit)))))]) (m := 28) (g := porterlaw45_BucketOnce_g2 N) [1, 2, 3] (evN_sound hb N (porterlaw45_BucketOnce_t2 N) porterlaw45_BucketOnce_L porterlaw45_BucketOnce_body TabOk.nil [0, 0, 1] _ rfl) (fun x K => by kernel_rfl)

noncomputable def porterlaw45_BucketOnce_p1 (N : Nat) (m : Int) (n : Int) (b : (Int × (Int × (Int × (Int × Unit))))) (k0 : Bool → Option Bool) (k1 : Option Bool) : Option Bool :=
  porterlaw45_BucketOnce_p2 N m n b
  (fun x18 => cond x18
    (k0 (decide ((0 : Int) ≤ (3 : Int))))
    (k1))

noncomputable def porterlaw45_BucketOnce_g1 (N : Nat) (x : denS [(1, .v (.int .i64)), (0, .v (.int .i64)), (0, .box (.pair (.int .i64) (.pair (.int .i64) (.pair (.int .i64) (.pair (.int .i64) .unit)))))]) (K : Ex → List A → Option Bool) : Option Bool :=
  porterlaw45_BucketOnce_p1 N x.1 x.2.1 x.2.2.1 (fun a0 => (K .ret (mkS [(6, .v .bool)] 25 (a0, ())))) (K .normal (mkS [(1, .v (.int .i64)), (0, .v (.int .i64)), (0, .box (.pair (.int .i64) (.pair (.int .i64) (.pair (.int .i64) (.pair (.int .i64) .unit)))))] 28 (x.1, x.2.1, x.2.2.1, ())))

noncomputable def porterlaw45_BucketOnce_h1 (N : Nat) : Hd Bool := fun st K => (unS [(1, .v (.int .i64)), (0, .v (.int .i64)), (0, .box (.pair (.int .i64) (.pair (.int .i64) (.pair (.int .i64) (.pair (.int .i64) .unit)))))] 28 (restr [1, 2, 3] 0 st)).bind fun x => porterlaw45_BucketOnce_g1 N x K

noncomputable def porterlaw45_BucketOnce_t1 (N : Nat) : Tab Bool := [([0, 0, 1], porterlaw45_BucketOnce_h2 N)]

theorem porterlaw45_BucketOnce_ok1 {N : Nat} {c : Ctx} (hb : Base Go.Proofs.Try.prog (porterlaw45_BucketOnce_E N) c) : CodeOk Go.Proofs.Try.prog c (nodeAt porterlaw45_BucketOnce_body [0, 1]) (porterlaw45_BucketOnce_h1 N) :=
  piece_ok (s := [(1, .v (.int .i64)), (0, .v (.int .i64)), (0, .box (.pair (.int .i64) (.pair (.int .i64) (.pair (.int .i64) (.pair (.int .i64) .unit)))))]) (m := 28) (g := porterlaw45_BucketOnce_g1 N) [1, 2, 3] (evN_sound hb N (porterlaw45_BucketOnce_t1 N) porterlaw45_BucketOnce_L porterlaw45_BucketOnce_body (TabOk.cons (porterlaw45_BucketOnce_ok2 hb) TabOk.nil) [0, 1] _ rfl) (fun x K => by kernel_rfl)

noncomputable def porterlaw45_BucketOnce (N : Nat) (b : (Int × (Int × (Int × (Int × Unit))))) (m : Int) (n : Int) : Option Bool :=
  porterlaw45_BucketOnce_p1 N m n b
  (fun x6 => some x6)
  ((bucket_At N b m).bind fun y =>
    (bucket_At N y n).bind fun y1 =>
    (bucket_At N b n).bind fun y2 =>
    cond (Go.Lift.eqD (Go.Lift.T.pair (Go.Lift.T.int Go.IntKind.i64) (Go.Lift.T.pair (Go.Lift.T.int Go.IntKind.i64) (Go.Lift.T.pair (Go.Lift.T.int Go.IntKind.i64) (Go.Lift.T.pair (Go.Lift.T.int Go.IntKind.i64) Go.Lift.T.unit)))) y1 y2)
    (some (decide ((0 : Int) ≤ (3 : Int))))
    (some false))

noncomputable def porterlaw45_BucketOnce_t (N : Nat) : Tab Bool := [([0, 1], porterlaw45_BucketOnce_h1 N)]

theorem porterlaw45_BucketOnce_link (N : Nat) (x : denS [(0, .v (.pair (.int .i64) (.pair (.int .i64) (.pair (.int .i64) (.pair (.int .i64) .unit))))), (0, .v (.int .i64)), (0, .v (.int .i64))]) : evFX (porterlaw45_BucketOnce_E N) N (porterlaw45_BucketOnce_t N) porterlaw45_BucketOnce_L Go.Proofs.Try.f12 (mkS [(0, .v (.pair (.int .i64) (.pair (.int .i64) (.pair (.int .i64) (.pair (.int .i64) .unit))))), (0, .v (.int .i64)), (0, .v (.int .i64))] 0 x) (kRes (.v .bool) 3) = porterlaw45_BucketOnce N x.1 x.2.1 x.2.2.1 := by kernel_rfl

noncomputable def porterlaw45_BucketOnce_res (N : Nat) : List A → Res := resOf [(0, .v (.pair (.int .i64) (.pair (.int .i64) (.pair (.int .i64) (.pair (.int .i64) .unit))))), (0, .v (.int .i64)), (0, .v (.int .i64))] (fun x => porterlaw45_BucketOnce N x.1 x.2.1 x.2.2.1) (oRes (.v .bool) 3)

theorem porterlaw45_BucketOnce_ct (N : Nat) : Contract Go.Proofs.Try.prog noGlob 12 (porterlaw45_BucketOnce_res N) :=
  Contract.of (E := porterlaw45_BucketOnce_E N) (H := porterlaw45_BucketOnce_t N) (L := porterlaw45_BucketOnce_L) (N := N) (body := porterlaw45_BucketOnce_body) (K := (kRes (.v .bool) 3)) (porterlaw45_BucketOnce_Eok N) Go.Proofs.Try.func12 (by kernel_rfl) (by decide) (fun _ hb => (TabOk.cons (porterlaw45_BucketOnce_ok1 hb) TabOk.nil)) (fun x y h => by rw [porterlaw45_BucketOnce_link]; exact h) (kRes_ok (s := (.v .bool)) (m := 3))

end Go.Proofs.YtjhjhfmemipflaaLf
