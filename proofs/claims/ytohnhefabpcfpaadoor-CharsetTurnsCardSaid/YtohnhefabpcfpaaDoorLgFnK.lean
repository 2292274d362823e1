/- The functions of the seat, as plain functions, and what their calls do. Printed by a program of mine; checked here. -/
import Derived.Test.YtohnhefabpcfpaaDoorLgW
import Derived.Test.YtohnhefabpcfpaaDoorChecked
import Derived.KernelRfl
set_option linter.all false
set_option maxRecDepth 100000
namespace Go.Proofs.YtohnhefabpcfpaaDoorLg
open Go Go.Lift

noncomputable def ty3 : TyI := ⟨(Go.TypeDesc.int Go.IntKind.i64), 1, 8, (.int .i64), (0 : Int), false⟩

theorem ty3_ok : TyOk Go.Proofs.Tryd.prog 3 ty3 := TyOk.of (by kernel_rfl) (by kernel_rfl) (by kernel_rfl) (by kernel_rfl)

noncomputable def ty4 : TyI := ⟨Go.TypeDesc.bool, 1, 1, .bool, false, false⟩

theorem ty4_ok : TyOk Go.Proofs.Tryd.prog 4 ty4 := TyOk.of (by kernel_rfl) (by kernel_rfl) (by kernel_rfl) (by kernel_rfl)

noncomputable def ty5 : TyI := ⟨(Go.TypeDesc.int Go.IntKind.u8), 1, 1, (.int .u8), (0 : Int), false⟩

theorem ty5_ok : TyOk Go.Proofs.Tryd.prog 5 ty5 := TyOk.of (by kernel_rfl) (by kernel_rfl) (by kernel_rfl) (by kernel_rfl)

noncomputable def ty9 : TyI := ⟨Go.TypeDesc.string, 1, 16, .str, ([] : List UInt8), false⟩

theorem ty9_ok : TyOk Go.Proofs.Tryd.prog 9 ty9 := TyOk.of (by kernel_rfl) (by kernel_rfl) (by kernel_rfl) (by kernel_rfl)

noncomputable def ty22 : TyI := ⟨(Go.TypeDesc.int Go.IntKind.u64), 1, 8, (.int .u64), (0 : Int), false⟩

theorem ty22_ok : TyOk Go.Proofs.Tryd.prog 22 ty22 := TyOk.of (by kernel_rfl) (by kernel_rfl) (by kernel_rfl) (by kernel_rfl)

noncomputable def ty24 : TyI := ⟨(Go.TypeDesc.array 4 22), 4, 32, (.arr 4 (.int .u64)), ([(0 : Int), (0 : Int), (0 : Int), (0 : Int)] : List Int), true⟩

theorem ty24_ok : TyOk Go.Proofs.Tryd.prog 24 ty24 := TyOk.of (by kernel_rfl) (by kernel_rfl) (by kernel_rfl) (by kernel_rfl)

noncomputable def ty25 : TyI := ⟨(Go.TypeDesc.array 2 5), 2, 2, (.arr 2 (.int .u8)), ([(0 : Int), (0 : Int)] : List Int), true⟩

theorem ty25_ok : TyOk Go.Proofs.Tryd.prog 25 ty25 := TyOk.of (by kernel_rfl) (by kernel_rfl) (by kernel_rfl) (by kernel_rfl)

noncomputable def ty39 : TyI := ⟨(Go.TypeDesc.slice 5), 1, 24, (.sl (.int .u8)), ([] : List Int), false⟩

theorem ty39_ok : TyOk Go.Proofs.Tryd.prog 39 ty39 := TyOk.of (by kernel_rfl) (by kernel_rfl) (by kernel_rfl) (by kernel_rfl)

noncomputable def ty41 : TyI := ⟨(Go.TypeDesc.int Go.IntKind.u64), 1, 8, (.int .u64), (0 : Int), false⟩

theorem ty41_ok : TyOk Go.Proofs.Tryd.prog 41 ty41 := TyOk.of (by kernel_rfl) (by kernel_rfl) (by kernel_rfl) (by kernel_rfl)

noncomputable def ty42 : TyI := ⟨(Go.TypeDesc.array 64 5), 64, 64, (.arr 64 (.int .u8)), ((0 : Int) :: (0 : Int) :: (0 : Int) :: (0 : Int) :: (0 : Int) :: (0 : Int) :: (0 : Int) :: (0 : Int) :: (0 : Int) :: (0 : Int) :: (0 : Int) :: (0 : Int) :: (0 : Int) :: (0 : Int) :: (0 : Int) :: (0 : Int) :: (0 : Int) :: (0 : Int) :: (0 : Int) :: (0 : Int) :: (0 : Int) :: (0 : Int) :: (0 : Int) :: (0 : Int) :: (0 : Int) :: (0 : Int) :: (0 : Int) :: (0 : Int) :: (0 : Int) :: (0 : Int) :: (0 : Int) :: (0 : Int) :: (0 : Int) :: (0 : Int) :: (0 : Int) :: (0 : Int) :: (0 : Int) :: (0 : Int) :: (0 : Int) :: (0 : Int) :: (0 : Int) :: (0 : Int) :: (0 : Int) :: (0 : Int) :: (0 : Int) :: (0 : Int) :: (0 : Int) :: (0 : Int) :: (0 : Int) :: (0 : Int) :: (0 : Int) :: (0 : Int) :: (0 : Int) :: (0 : Int) :: (0 : Int) :: (0 : Int) :: (0 : Int) :: (0 : Int) :: (0 : Int) :: (0 : Int) :: (0 : Int) :: (0 : Int) :: (0 : Int) :: (0 : Int) :: ([] : List Int)), true⟩

theorem ty42_ok : TyOk Go.Proofs.Tryd.prog 42 ty42 := TyOk.of (by kernel_rfl) (by kernel_rfl) (by kernel_rfl) (by kernel_rfl)

noncomputable def tys : List (Nat × TyI) := [(3, ty3), (4, ty4), (5, ty5), (9, ty9), (22, ty22), (24, ty24), (25, ty25), (39, ty39), (41, ty41), (42, ty42)]

theorem tys_ok : TysOk Go.Proofs.Tryd.prog tys := TysOk.cons ty3_ok (TysOk.cons ty4_ok (TysOk.cons ty5_ok (TysOk.cons ty9_ok (TysOk.cons ty22_ok (TysOk.cons ty24_ok (TysOk.cons ty25_ok (TysOk.cons ty39_ok (TysOk.cons ty41_ok (TysOk.cons ty42_ok (TysOk.nil))))))))))

theorem mixed : Go.Proofs.Tryd.prog.follows .mixedOrders = true := by kernel_rfl

noncomputable def glob0 : List Int := [0, 1, 56, 2, 57, 49, 28, 3, 61, 58, 42, 50, 38, 29, 17, 4, 62, 47, 59, 36, 45, 43, 51, 22, 53, 39, 33, 30, 24, 18, 12, 5, 63, 55, 48, 27, 60, 41, 37, 16, 46, 35, 44, 21, 52, 32, 23, 11, 54, 26, 40, 15, 34, 20, 31, 10, 25, 14, 19, 9, 13, 8, 7, 6]

noncomputable def glob : Nat → Option Dat := lk [(0, ⟨(.arr 64 (.int .u8)), glob0⟩)]

abbrev charset_And_R : Type := (List Int)

noncomputable def charset_And_body : Code := (Go.Proofs.Tryd.f7.body).getD .skip

noncomputable def charset_And_L : List (List Nat × List Nat) := [([0], [2, 3, 4]), ([0, 0, 1], [6, 2, 3, 4]), ([0, 1, 0, 1], [6, 2, 3, 4]), ([0, 0, 0, 1, 0, 1], [7, 6, 2, 3, 4]), ([0, 1, 0, 0, 1, 0, 1], [6, 2, 3, 4]), ([1, 0, 1, 0, 0, 1, 0, 1], [2, 4]), ([0, 0, 0, 1, 1, 0, 0, 1, 0, 1], [5, 2, 3, 6, 4]), ([1, 0, 0, 1, 1, 0, 0, 1, 0, 1], [6, 2, 3, 4]), ([0, 1, 1, 0, 0, 1, 0, 1], [6, 2, 3, 4]), ([1, 1, 1, 0, 0, 1, 0, 1], [6, 2, 3, 4]), ([1, 0, 1], [2, 4]), ([0, 1, 1], [4]), ([1, 1, 1], [4])]

noncomputable def charset_And_E (N : Nat) : Env := mkEnv tys glob [] [] [] [] false [] []

theorem charset_And_Eok (N : Nat) : EnvOk Go.Proofs.Tryd.prog (charset_And_E N) := mkEnv_ok mixed tys_ok (FnsOk.nil) (ItsOk.nil)

noncomputable def charset_And_s1 (N : Nat) (t : (List Int)) (x4 : (List Int)) (s : (List Int)) (x6 : Int) (rec : (List Int) → Int → Option (List Int)) (k0 : (List Int) → Option (List Int)) : Option (List Int) :=
  cond (decide (x6 < (4 : Int)))
  (cond (Go.Lift.inR x6 4)
    (cond (decide ((Int.toNat x6) < (List.length s)))
      (cond (Go.Lift.inR x6 4)
        (cond (decide ((Int.toNat x6) < (List.length t)))
          (cond (Go.Lift.inR x6 4)
            (cond (decide ((Int.toNat x6) < (List.length s)))
              (rec (List.set s (Int.toNat x6) (Go.Lift.bitsOp Go.BinOp.and Go.IntKind.u64 (List.getD s (Int.toNat x6) (0 : Int)) (List.getD t (Int.toNat x6) (0 : Int)))) (Go.IntKind.wrap Go.IntKind.i64 (x6 + (1 : Int))))
              (none))
            (none))
          (none))
        (none))
      (none))
    (none))
  (k0 s)

noncomputable def charset_And_p1 (N : Nat) (s : (List Int)) (t : (List Int)) (x4 : (List Int)) (x6 : Int) (k0 : (List Int) → Option (List Int)) : Option (List Int) :=
  iter (fun (v : ((List Int) × Int)) r => charset_And_s1 N t x4 v.1 v.2 (fun s x6 => (r (s, x6))) k0) N (s, x6)

noncomputable def charset_And_g1 (N : Nat) (i : ((List Int) × (List Int))) (v : ((List Int) × Int)) (r : ((List Int) × Int) → Option (List Int)) (K : Ex → List A → Option (List Int)) : Option (List Int) :=
  charset_And_s1 N i.1 i.2 v.1 v.2 (fun s x6 => (r (s, x6))) (fun a0 => (K (.exit 0) (mkS [(2, .box (.arr 4 (.int .u64))), (1, .box (.arr 4 (.int .u64)))] 14 (a0, i.2, ()))))

noncomputable def charset_And_h1 (N : Nat) : Hd (List Int) := fun st K => (unS [(2, .box (.arr 4 (.int .u64))), (0, .box (.arr 4 (.int .u64))), (0, .box (.arr 4 (.int .u64))), (1, .v (.int .i64))] 12 (restr [6, 2, 3, 4] 0 st)).bind fun x => iter (fun v r => charset_And_g1 N ((fun x => (x.2.1, x.2.2.1)) x) v r K) N ((fun x => (x.1, x.2.2.2.1)) x)

noncomputable def charset_And_t1 (N : Nat) : Tab (List Int) := []

theorem charset_And_ok1 {N : Nat} {c : Ctx} (hb : Base Go.Proofs.Tryd.prog (charset_And_E N) c) : CodeOk Go.Proofs.Tryd.prog c (nodeAt charset_And_body [0, 1, 0, 1]) (charset_And_h1 N) :=
  loop_ok (s := [(2, .box (.arr 4 (.int .u64))), (0, .box (.arr 4 (.int .u64))), (0, .box (.arr 4 (.int .u64))), (1, .v (.int .i64))]) (m := 12) (charset_And_g1 N) [6, 2, 3, 4] N (fun x => (x.2.1, x.2.2.1)) (fun x => (x.1, x.2.2.2.1)) (fun i v => (v.1, i.1, i.2, v.2, ())) (fun _ => rfl) (evN_sound hb N (charset_And_t1 N) charset_And_L charset_And_body TabOk.nil [0, 0, 1, 0, 1] _ rfl) (fun i v r K => by kernel_rfl)

noncomputable def charset_And (N : Nat) (s : (List Int)) (t : (List Int)) : Option (List Int) :=
  charset_And_p1 N s t ([(0 : Int), (0 : Int), (0 : Int), (0 : Int)] : List Int) (0 : Int)
  (fun s1 => some s1)

noncomputable def charset_And_t (N : Nat) : Tab (List Int) := [([0, 1, 0, 1], charset_And_h1 N)]

theorem charset_And_link (N : Nat) (x : denS [(0, .v (.arr 4 (.int .u64))), (0, .v (.arr 4 (.int .u64)))]) : evFX (charset_And_E N) N (charset_And_t N) charset_And_L Go.Proofs.Tryd.f7 (mkS [(0, .v (.arr 4 (.int .u64))), (0, .v (.arr 4 (.int .u64)))] 0 x) (kRes (.v (.arr 4 (.int .u64))) 2) = charset_And N x.1 x.2.1 := by kernel_rfl

noncomputable def charset_And_res (N : Nat) : List A → Res := resOf [(0, .v (.arr 4 (.int .u64))), (0, .v (.arr 4 (.int .u64)))] (fun x => charset_And N x.1 x.2.1) (oRes (.v (.arr 4 (.int .u64))) 2)

theorem charset_And_ct (N : Nat) : Contract Go.Proofs.Tryd.prog glob 7 (charset_And_res N) :=
  Contract.of (E := charset_And_E N) (H := charset_And_t N) (L := charset_And_L) (N := N) (body := charset_And_body) (K := (kRes (.v (.arr 4 (.int .u64))) 2)) (charset_And_Eok N) Go.Proofs.Tryd.func7 (by kernel_rfl) (by decide) (fun _ hb => (TabOk.cons (charset_And_ok1 hb) TabOk.nil)) (fun x y h => by rw [charset_And_link]; exact h) (kRes_ok (s := (.v (.arr 4 (.int .u64)))) (m := 2))

abbrev charset_Not_R : Type := (List Int)

noncomputable def charset_Not_body : Code := (Go.Proofs.Tryd.f9.body).getD .skip

noncomputable def charset_Not_L : List (List Nat × List Nat) := [([0], [1, 2]), ([0, 0, 1], [4, 1, 2]), ([0, 1, 0, 1], [4, 1, 2]), ([0, 0, 0, 1, 0, 1], [5, 4, 1, 2]), ([0, 1, 0, 0, 1, 0, 1], [4, 1, 2]), ([1, 0, 1, 0, 0, 1, 0, 1], [1, 2]), ([0, 0, 0, 1, 1, 0, 0, 1, 0, 1], [3, 1, 4, 2]), ([1, 0, 0, 1, 1, 0, 0, 1, 0, 1], [4, 1, 2]), ([0, 1, 1, 0, 0, 1, 0, 1], [4, 1, 2]), ([1, 1, 1, 0, 0, 1, 0, 1], [4, 1, 2]), ([1, 0, 1], [1, 2]), ([0, 1, 1], [2]), ([1, 1, 1], [2])]

noncomputable def charset_Not_E (N : Nat) : Env := mkEnv tys glob [] [] [] [] false [] []

theorem charset_Not_Eok (N : Nat) : EnvOk Go.Proofs.Tryd.prog (charset_Not_E N) := mkEnv_ok mixed tys_ok (FnsOk.nil) (ItsOk.nil)

noncomputable def charset_Not_s1 (N : Nat) (x2 : (List Int)) (s : (List Int)) (x4 : Int) (rec : (List Int) → Int → Option (List Int)) (k0 : (List Int) → Option (List Int)) : Option (List Int) :=
  cond (decide (x4 < (4 : Int)))
  (cond (Go.Lift.inR x4 4)
    (cond (decide ((Int.toNat x4) < (List.length s)))
      (cond (Go.Lift.inR x4 4)
        (cond (decide ((Int.toNat x4) < (List.length s)))
          (rec (List.set s (Int.toNat x4) (Go.Lift.bitsOp Go.BinOp.xor Go.IntKind.u64 (if ((Go.IntKind.signed Go.IntKind.u64) = true) then (-(1 : Int)) else (Go.IntKind.max Go.IntKind.u64)) (List.getD s (Int.toNat x4) (0 : Int)))) (Go.IntKind.wrap Go.IntKind.i64 (x4 + (1 : Int))))
          (none))
        (none))
      (none))
    (none))
  (k0 s)

noncomputable def charset_Not_p1 (N : Nat) (s : (List Int)) (x2 : (List Int)) (x4 : Int) (k0 : (List Int) → Option (List Int)) : Option (List Int) :=
  iter (fun (v : ((List Int) × Int)) r => charset_Not_s1 N x2 v.1 v.2 (fun s x4 => (r (s, x4))) k0) N (s, x4)

noncomputable def charset_Not_g1 (N : Nat) (i : (List Int)) (v : ((List Int) × Int)) (r : ((List Int) × Int) → Option (List Int)) (K : Ex → List A → Option (List Int)) : Option (List Int) :=
  charset_Not_s1 N i v.1 v.2 (fun s x4 => (r (s, x4))) (fun a0 => (K (.exit 0) (mkS [(1, .box (.arr 4 (.int .u64))), (0, .box (.arr 4 (.int .u64)))] 12 (a0, i, ()))))

noncomputable def charset_Not_h1 (N : Nat) : Hd (List Int) := fun st K => (unS [(1, .box (.arr 4 (.int .u64))), (0, .box (.arr 4 (.int .u64))), (1, .v (.int .i64))] 10 (restr [4, 1, 2] 0 st)).bind fun x => iter (fun v r => charset_Not_g1 N ((fun x => x.2.1) x) v r K) N ((fun x => (x.1, x.2.2.1)) x)

noncomputable def charset_Not_t1 (N : Nat) : Tab (List Int) := []

theorem charset_Not_ok1 {N : Nat} {c : Ctx} (hb : Base Go.Proofs.Tryd.prog (charset_Not_E N) c) : CodeOk Go.Proofs.Tryd.prog c (nodeAt charset_Not_body [0, 1, 0, 1]) (charset_Not_h1 N) :=
  loop_ok (s := [(1, .box (.arr 4 (.int .u64))), (0, .box (.arr 4 (.int .u64))), (1, .v (.int .i64))]) (m := 10) (charset_Not_g1 N) [4, 1, 2] N (fun x => x.2.1) (fun x => (x.1, x.2.2.1)) (fun i v => (v.1, i, v.2, ())) (fun _ => rfl) (evN_sound hb N (charset_Not_t1 N) charset_Not_L charset_Not_body TabOk.nil [0, 0, 1, 0, 1] _ rfl) (fun i v r K => by kernel_rfl)

noncomputable def charset_Not (N : Nat) (s : (List Int)) : Option (List Int) :=
  charset_Not_p1 N s ([(0 : Int), (0 : Int), (0 : Int), (0 : Int)] : List Int) (0 : Int)
  (fun s1 => some s1)

noncomputable def charset_Not_t (N : Nat) : Tab (List Int) := [([0, 1, 0, 1], charset_Not_h1 N)]

theorem charset_Not_link (N : Nat) (x : denS [(0, .v (.arr 4 (.int .u64)))]) : evFX (charset_Not_E N) N (charset_Not_t N) charset_Not_L Go.Proofs.Tryd.f9 (mkS [(0, .v (.arr 4 (.int .u64)))] 0 x) (kRes (.v (.arr 4 (.int .u64))) 1) = charset_Not N x.1 := by kernel_rfl

noncomputable def charset_Not_res (N : Nat) : List A → Res := resOf [(0, .v (.arr 4 (.int .u64)))] (fun x => charset_Not N x.1) (oRes (.v (.arr 4 (.int .u64))) 1)

theorem charset_Not_ct (N : Nat) : Contract Go.Proofs.Tryd.prog glob 9 (charset_Not_res N) :=
  Contract.of (E := charset_Not_E N) (H := charset_Not_t N) (L := charset_Not_L) (N := N) (body := charset_Not_body) (K := (kRes (.v (.arr 4 (.int .u64))) 1)) (charset_Not_Eok N) Go.Proofs.Tryd.func9 (by kernel_rfl) (by decide) (fun _ hb => (TabOk.cons (charset_Not_ok1 hb) TabOk.nil)) (fun x y h => by rw [charset_Not_link]; exact h) (kRes_ok (s := (.v (.arr 4 (.int .u64)))) (m := 1))

abbrev charset_Less_R : Type := (List Int)

noncomputable def charset_Less_body : Code := (Go.Proofs.Tryd.f8.body).getD .skip

noncomputable def charset_Less_L : List (List Nat × List Nat) := [([0], [2, 3, 4]), ([0, 1], [4]), ([1, 1], [4])]

noncomputable def charset_Less_E (N : Nat) : Env := mkEnv tys glob [(9, charset_Not_res N), (7, charset_And_res N)] [] [] [] false [] []

theorem charset_Less_Eok (N : Nat) : EnvOk Go.Proofs.Tryd.prog (charset_Less_E N) := mkEnv_ok mixed tys_ok (FnsOk.cons (charset_Not_ct N) (FnsOk.cons (charset_And_ct N) (FnsOk.nil))) (ItsOk.nil)

noncomputable def charset_Less (N : Nat) (s : (List Int)) (t : (List Int)) : Option (List Int) :=
  (charset_Not N t).bind fun y =>
  (charset_And N s y).bind fun y1 =>
  some y1

noncomputable def charset_Less_t (N : Nat) : Tab (List Int) := []

theorem charset_Less_link (N : Nat) (x : denS [(0, .v (.arr 4 (.int .u64))), (0, .v (.arr 4 (.int .u64)))]) : evFX (charset_Less_E N) N (charset_Less_t N) charset_Less_L Go.Proofs.Tryd.f8 (mkS [(0, .v (.arr 4 (.int .u64))), (0, .v (.arr 4 (.int .u64)))] 0 x) (kRes (.v (.arr 4 (.int .u64))) 2) = charset_Less N x.1 x.2.1 := by kernel_rfl

noncomputable def charset_Less_res (N : Nat) : List A → Res := resOf [(0, .v (.arr 4 (.int .u64))), (0, .v (.arr 4 (.int .u64)))] (fun x => charset_Less N x.1 x.2.1) (oRes (.v (.arr 4 (.int .u64))) 2)

theorem charset_Less_ct (N : Nat) : Contract Go.Proofs.Tryd.prog glob 8 (charset_Less_res N) :=
  Contract.of (E := charset_Less_E N) (H := charset_Less_t N) (L := charset_Less_L) (N := N) (body := charset_Less_body) (K := (kRes (.v (.arr 4 (.int .u64))) 2)) (charset_Less_Eok N) Go.Proofs.Tryd.func8 (by kernel_rfl) (by decide) (fun _ hb => TabOk.nil) (fun x y h => by rw [charset_Less_link]; exact h) (kRes_ok (s := (.v (.arr 4 (.int .u64)))) (m := 2))

abbrev charset_Or_R : Type := (List Int)

noncomputable def charset_Or_body : Code := (Go.Proofs.Tryd.f6.body).getD .skip

noncomputable def charset_Or_L : List (List Nat × List Nat) := [([0], [2, 3, 4]), ([0, 0, 1], [6, 2, 3, 4]), ([0, 1, 0, 1], [6, 2, 3, 4]), ([0, 0, 0, 1, 0, 1], [7, 6, 2, 3, 4]), ([0, 1, 0, 0, 1, 0, 1], [6, 2, 3, 4]), ([1, 0, 1, 0, 0, 1, 0, 1], [2, 4]), ([0, 0, 0, 1, 1, 0, 0, 1, 0, 1], [5, 2, 3, 6, 4]), ([1, 0, 0, 1, 1, 0, 0, 1, 0, 1], [6, 2, 3, 4]), ([0, 1, 1, 0, 0, 1, 0, 1], [6, 2, 3, 4]), ([1, 1, 1, 0, 0, 1, 0, 1], [6, 2, 3, 4]), ([1, 0, 1], [2, 4]), ([0, 1, 1], [4]), ([1, 1, 1], [4])]

noncomputable def charset_Or_E (N : Nat) : Env := mkEnv tys glob [] [] [] [] false [] []

theorem charset_Or_Eok (N : Nat) : EnvOk Go.Proofs.Tryd.prog (charset_Or_E N) := mkEnv_ok mixed tys_ok (FnsOk.nil) (ItsOk.nil)

noncomputable def charset_Or_s1 (N : Nat) (t : (List Int)) (x4 : (List Int)) (s : (List Int)) (x6 : Int) (rec : (List Int) → Int → Option (List Int)) (k0 : (List Int) → Option (List Int)) : Option (List Int) :=
  cond (decide (x6 < (4 : Int)))
  (cond (Go.Lift.inR x6 4)
    (cond (decide ((Int.toNat x6) < (List.length s)))
      (cond (Go.Lift.inR x6 4)
        (cond (decide ((Int.toNat x6) < (List.length t)))
          (cond (Go.Lift.inR x6 4)
            (cond (decide ((Int.toNat x6) < (List.length s)))
              (rec (List.set s (Int.toNat x6) (Go.Lift.bitsOp Go.BinOp.or Go.IntKind.u64 (List.getD s (Int.toNat x6) (0 : Int)) (List.getD t (Int.toNat x6) (0 : Int)))) (Go.IntKind.wrap Go.IntKind.i64 (x6 + (1 : Int))))
              (none))
            (none))
          (none))
        (none))
      (none))
    (none))
  (k0 s)

noncomputable def charset_Or_p1 (N : Nat) (s : (List Int)) (t : (List Int)) (x4 : (List Int)) (x6 : Int) (k0 : (List Int) → Option (List Int)) : Option (List Int) :=
  iter (fun (v : ((List Int) × Int)) r => charset_Or_s1 N t x4 v.1 v.2 (fun s x6 => (r (s, x6))) k0) N (s, x6)

noncomputable def charset_Or_g1 (N : Nat) (i : ((List Int) × (List Int))) (v : ((List Int) × Int)) (r : ((List Int) × Int) → Option (List Int)) (K : Ex → List A → Option (List Int)) : Option (List Int) :=
  charset_Or_s1 N i.1 i.2 v.1 v.2 (fun s x6 => (r (s, x6))) (fun a0 => (K (.exit 0) (mkS [(2, .box (.arr 4 (.int .u64))), (1, .box (.arr 4 (.int .u64)))] 14 (a0, i.2, ()))))

noncomputable def charset_Or_h1 (N : Nat) : Hd (List Int) := fun st K => (unS [(2, .box (.arr 4 (.int .u64))), (0, .box (.arr 4 (.int .u64))), (0, .box (.arr 4 (.int .u64))), (1, .v (.int .i64))] 12 (restr [6, 2, 3, 4] 0 st)).bind fun x => iter (fun v r => charset_Or_g1 N ((fun x => (x.2.1, x.2.2.1)) x) v r K) N ((fun x => (x.1, x.2.2.2.1)) x)

noncomputable def charset_Or_t1 (N : Nat) : Tab (List Int) := []

theorem charset_Or_ok1 {N : Nat} {c : Ctx} (hb : Base Go.Proofs.Tryd.prog (charset_Or_E N) c) : CodeOk Go.Proofs.Tryd.prog c (nodeAt charset_Or_body [0, 1, 0, 1]) (charset_Or_h1 N) :=
  loop_ok (s := [(2, .box (.arr 4 (.int .u64))), (0, .box (.arr 4 (.int .u64))), (0, .box (.arr 4 (.int .u64))), (1, .v (.int .i64))]) (m := 12) (charset_Or_g1 N) [6, 2, 3, 4] N (fun x => (x.2.1, x.2.2.1)) (fun x => (x.1, x.2.2.2.1)) (fun i v => (v.1, i.1, i.2, v.2, ())) (fun _ => rfl) (evN_sound hb N (charset_Or_t1 N) charset_Or_L charset_Or_body TabOk.nil [0, 0, 1, 0, 1] _ rfl) (fun i v r K => by kernel_rfl)

noncomputable def charset_Or (N : Nat) (s : (List Int)) (t : (List Int)) : Option (List Int) :=
  charset_Or_p1 N s t ([(0 : Int), (0 : Int), (0 : Int), (0 : Int)] : List Int) (0 : Int)
  (fun s1 => some s1)

noncomputable def charset_Or_t (N : Nat) : Tab (List Int) := [([0, 1, 0, 1], charset_Or_h1 N)]

theorem charset_Or_link (N : Nat) (x : denS [(0, .v (.arr 4 (.int .u64))), (0, .v (.arr 4 (.int .u64)))]) : evFX (charset_Or_E N) N (charset_Or_t N) charset_Or_L Go.Proofs.Tryd.f6 (mkS [(0, .v (.arr 4 (.int .u64))), (0, .v (.arr 4 (.int .u64)))] 0 x) (kRes (.v (.arr 4 (.int .u64))) 2) = charset_Or N x.1 x.2.1 := by kernel_rfl

noncomputable def charset_Or_res (N : Nat) : List A → Res := resOf [(0, .v (.arr 4 (.int .u64))), (0, .v (.arr 4 (.int .u64)))] (fun x => charset_Or N x.1 x.2.1) (oRes (.v (.arr 4 (.int .u64))) 2)

theorem charset_Or_ct (N : Nat) : Contract Go.Proofs.Tryd.prog glob 6 (charset_Or_res N) :=
  Contract.of (E := charset_Or_E N) (H := charset_Or_t N) (L := charset_Or_L) (N := N) (body := charset_Or_body) (K := (kRes (.v (.arr 4 (.int .u64))) 2)) (charset_Or_Eok N) Go.Proofs.Tryd.func6 (by kernel_rfl) (by decide) (fun _ hb => (TabOk.cons (charset_Or_ok1 hb) TabOk.nil)) (fun x y h => by rw [charset_Or_link]; exact h) (kRes_ok (s := (.v (.arr 4 (.int .u64)))) (m := 2))

abbrev math_bits_OnesCount64_R : Type := Int

noncomputable def math_bits_OnesCount64_body : Code := (Go.Proofs.Tryd.f19.body).getD .skip

noncomputable def math_bits_OnesCount64_L : List (List Nat × List Nat) := [([0], [0]), ([0, 1], [0]), ([0, 1, 1], [0]), ([0, 1, 1, 1], [0]), ([0, 1, 1, 1, 1], [0]), ([0, 1, 1, 1, 1, 1], [0]), ([0, 1, 1, 1, 1, 1, 1], [0]), ([0, 1, 1, 1, 1, 1, 1, 1], [2]), ([1, 1, 1, 1, 1, 1, 1, 1], [2])]

noncomputable def math_bits_OnesCount64_E (N : Nat) : Env := mkEnv tys glob [] [] [] [] false [] []

theorem math_bits_OnesCount64_Eok (N : Nat) : EnvOk Go.Proofs.Tryd.prog (math_bits_OnesCount64_E N) := mkEnv_ok mixed tys_ok (FnsOk.nil) (ItsOk.nil)

noncomputable def math_bits_OnesCount64 (N : Nat) (x0 : Int) : Option Int :=
  some (Go.Lift.bitsOp Go.BinOp.and Go.IntKind.i64 (Go.IntKind.wrap Go.IntKind.i64 (Go.IntKind.wrap Go.IntKind.u64 ((Go.IntKind.wrap Go.IntKind.u64 ((Go.IntKind.wrap Go.IntKind.u64 ((Go.Lift.bitsOp Go.BinOp.and Go.IntKind.u64 (Go.IntKind.wrap Go.IntKind.u64 ((Go.Lift.shrI Go.IntKind.u64 (Go.IntKind.wrap Go.IntKind.u64 ((Go.Lift.bitsOp Go.BinOp.and Go.IntKind.u64 (Go.Lift.shrI Go.IntKind.u64 (Go.IntKind.wrap Go.IntKind.u64 ((Go.Lift.bitsOp Go.BinOp.and Go.IntKind.u64 (Go.Lift.shrI Go.IntKind.u64 x0 (1 : Int)) (6148914691236517205 : Int)) + (Go.Lift.bitsOp Go.BinOp.and Go.IntKind.u64 x0 (6148914691236517205 : Int)))) (2 : Int)) (3689348814741910323 : Int)) + (Go.Lift.bitsOp Go.BinOp.and Go.IntKind.u64 (Go.IntKind.wrap Go.IntKind.u64 ((Go.Lift.bitsOp Go.BinOp.and Go.IntKind.u64 (Go.Lift.shrI Go.IntKind.u64 x0 (1 : Int)) (6148914691236517205 : Int)) + (Go.Lift.bitsOp Go.BinOp.and Go.IntKind.u64 x0 (6148914691236517205 : Int)))) (3689348814741910323 : Int)))) (4 : Int)) + (Go.IntKind.wrap Go.IntKind.u64 ((Go.Lift.bitsOp Go.BinOp.and Go.IntKind.u64 (Go.Lift.shrI Go.IntKind.u64 (Go.IntKind.wrap Go.IntKind.u64 ((Go.Lift.bitsOp Go.BinOp.and Go.IntKind.u64 (Go.Lift.shrI Go.IntKind.u64 x0 (1 : Int)) (6148914691236517205 : Int)) + (Go.Lift.bitsOp Go.BinOp.and Go.IntKind.u64 x0 (6148914691236517205 : Int)))) (2 : Int)) (3689348814741910323 : Int)) + (Go.Lift.bitsOp Go.BinOp.and Go.IntKind.u64 (Go.IntKind.wrap Go.IntKind.u64 ((Go.Lift.bitsOp Go.BinOp.and Go.IntKind.u64 (Go.Lift.shrI Go.IntKind.u64 x0 (1 : Int)) (6148914691236517205 : Int)) + (Go.Lift.bitsOp Go.BinOp.and Go.IntKind.u64 x0 (6148914691236517205 : Int)))) (3689348814741910323 : Int)))))) (1085102592571150095 : Int)) + (Go.Lift.shrI Go.IntKind.u64 (Go.Lift.bitsOp Go.BinOp.and Go.IntKind.u64 (Go.IntKind.wrap Go.IntKind.u64 ((Go.Lift.shrI Go.IntKind.u64 (Go.IntKind.wrap Go.IntKind.u64 ((Go.Lift.bitsOp Go.BinOp.and Go.IntKind.u64 (Go.Lift.shrI Go.IntKind.u64 (Go.IntKind.wrap Go.IntKind.u64 ((Go.Lift.bitsOp Go.BinOp.and Go.IntKind.u64 (Go.Lift.shrI Go.IntKind.u64 x0 (1 : Int)) (6148914691236517205 : Int)) + (Go.Lift.bitsOp Go.BinOp.and Go.IntKind.u64 x0 (6148914691236517205 : Int)))) (2 : Int)) (3689348814741910323 : Int)) + (Go.Lift.bitsOp Go.BinOp.and Go.IntKind.u64 (Go.IntKind.wrap Go.IntKind.u64 ((Go.Lift.bitsOp Go.BinOp.and Go.IntKind.u64 (Go.Lift.shrI Go.IntKind.u64 x0 (1 : Int)) (6148914691236517205 : Int)) + (Go.Lift.bitsOp Go.BinOp.and Go.IntKind.u64 x0 (6148914691236517205 : Int)))) (3689348814741910323 : Int)))) (4 : Int)) + (Go.IntKind.wrap Go.IntKind.u64 ((Go.Lift.bitsOp Go.BinOp.and Go.IntKind.u64 (Go.Lift.shrI Go.IntKind.u64 (Go.IntKind.wrap Go.IntKind.u64 ((Go.Lift.bitsOp Go.BinOp.and Go.IntKind.u64 (Go.Lift.shrI Go.IntKind.u64 x0 (1 : Int)) (6148914691236517205 : Int)) + (Go.Lift.bitsOp Go.BinOp.and Go.IntKind.u64 x0 (6148914691236517205 : Int)))) (2 : Int)) (3689348814741910323 : Int)) + (Go.Lift.bitsOp Go.BinOp.and Go.IntKind.u64 (Go.IntKind.wrap Go.IntKind.u64 ((Go.Lift.bitsOp Go.BinOp.and Go.IntKind.u64 (Go.Lift.shrI Go.IntKind.u64 x0 (1 : Int)) (6148914691236517205 : Int)) + (Go.Lift.bitsOp Go.BinOp.and Go.IntKind.u64 x0 (6148914691236517205 : Int)))) (3689348814741910323 : Int)))))) (1085102592571150095 : Int)) (8 : Int)))) + (Go.Lift.shrI Go.IntKind.u64 (Go.IntKind.wrap Go.IntKind.u64 ((Go.Lift.bitsOp Go.BinOp.and Go.IntKind.u64 (Go.IntKind.wrap Go.IntKind.u64 ((Go.Lift.shrI Go.IntKind.u64 (Go.IntKind.wrap Go.IntKind.u64 ((Go.Lift.bitsOp Go.BinOp.and Go.IntKind.u64 (Go.Lift.shrI Go.IntKind.u64 (Go.IntKind.wrap Go.IntKind.u64 ((Go.Lift.bitsOp Go.BinOp.and Go.IntKind.u64 (Go.Lift.shrI Go.IntKind.u64 x0 (1 : Int)) (6148914691236517205 : Int)) + (Go.Lift.bitsOp Go.BinOp.and Go.IntKind.u64 x0 (6148914691236517205 : Int)))) (2 : Int)) (3689348814741910323 : Int)) + (Go.Lift.bitsOp Go.BinOp.and Go.IntKind.u64 (Go.IntKind.wrap Go.IntKind.u64 ((Go.Lift.bitsOp Go.BinOp.and Go.IntKind.u64 (Go.Lift.shrI Go.IntKind.u64 x0 (1 : Int)) (6148914691236517205 : Int)) + (Go.Lift.bitsOp Go.BinOp.and Go.IntKind.u64 x0 (6148914691236517205 : Int)))) (3689348814741910323 : Int)))) (4 : Int)) + (Go.IntKind.wrap Go.IntKind.u64 ((Go.Lift.bitsOp Go.BinOp.and Go.IntKind.u64 (Go.Lift.shrI Go.IntKind.u64 (Go.IntKind.wrap Go.IntKind.u64 ((Go.Lift.bitsOp Go.BinOp.and Go.IntKind.u64 (Go.Lift.shrI Go.IntKind.u64 x0 (1 : Int)) (6148914691236517205 : Int)) + (Go.Lift.bitsOp Go.BinOp.and Go.IntKind.u64 x0 (6148914691236517205 : Int)))) (2 : Int)) (3689348814741910323 : Int)) + (Go.Lift.bitsOp Go.BinOp.and Go.IntKind.u64 (Go.IntKind.wrap Go.IntKind.u64 ((Go.Lift.bitsOp Go.BinOp.and Go.IntKind.u64 (Go.Lift.shrI Go.IntKind.u64 x0 (1 : Int)) (6148914691236517205 : Int)) + (Go.Lift.bitsOp Go.BinOp.and Go.IntKind.u64 x0 (6148914691236517205 : Int)))) (3689348814741910323 : Int)))))) (1085102592571150095 : Int)) + (Go.Lift.shrI Go.IntKind.u64 (Go.Lift.bitsOp Go.BinOp.and Go.IntKind.u64 (Go.IntKind.wrap Go.IntKind.u64 ((Go.Lift.shrI Go.IntKind.u64 (Go.IntKind.wrap Go.IntKind.u64 ((Go.Lift.bitsOp Go.BinOp.and Go.IntKind.u64 (Go.Lift.shrI Go.IntKind.u64 (Go.IntKind.wrap Go.IntKind.u64 ((Go.Lift.bitsOp Go.BinOp.and Go.IntKind.u64 (Go.Lift.shrI Go.IntKind.u64 x0 (1 : Int)) (6148914691236517205 : Int)) + (Go.Lift.bitsOp Go.BinOp.and Go.IntKind.u64 x0 (6148914691236517205 : Int)))) (2 : Int)) (3689348814741910323 : Int)) + (Go.Lift.bitsOp Go.BinOp.and Go.IntKind.u64 (Go.IntKind.wrap Go.IntKind.u64 ((Go.Lift.bitsOp Go.BinOp.and Go.IntKind.u64 (Go.Lift.shrI Go.IntKind.u64 x0 (1 : Int)) (6148914691236517205 : Int)) + (Go.Lift.bitsOp Go.BinOp.and Go.IntKind.u64 x0 (6148914691236517205 : Int)))) (3689348814741910323 : Int)))) (4 : Int)) + (Go.IntKind.wrap Go.IntKind.u64 ((Go.Lift.bitsOp Go.BinOp.and Go.IntKind.u64 (Go.Lift.shrI Go.IntKind.u64 (Go.IntKind.wrap Go.IntKind.u64 ((Go.Lift.bitsOp Go.BinOp.and Go.IntKind.u64 (Go.Lift.shrI Go.IntKind.u64 x0 (1 : Int)) (6148914691236517205 : Int)) + (Go.Lift.bitsOp Go.BinOp.and Go.IntKind.u64 x0 (6148914691236517205 : Int)))) (2 : Int)) (3689348814741910323 : Int)) + (Go.Lift.bitsOp Go.BinOp.and Go.IntKind.u64 (Go.IntKind.wrap Go.IntKind.u64 ((Go.Lift.bitsOp Go.BinOp.and Go.IntKind.u64 (Go.Lift.shrI Go.IntKind.u64 x0 (1 : Int)) (6148914691236517205 : Int)) + (Go.Lift.bitsOp Go.BinOp.and Go.IntKind.u64 x0 (6148914691236517205 : Int)))) (3689348814741910323 : Int)))))) (1085102592571150095 : Int)) (8 : Int)))) (16 : Int)))) + (Go.Lift.shrI Go.IntKind.u64 (Go.IntKind.wrap Go.IntKind.u64 ((Go.IntKind.wrap Go.IntKind.u64 ((Go.Lift.bitsOp Go.BinOp.and Go.IntKind.u64 (Go.IntKind.wrap Go.IntKind.u64 ((Go.Lift.shrI Go.IntKind.u64 (Go.IntKind.wrap Go.IntKind.u64 ((Go.Lift.bitsOp Go.BinOp.and Go.IntKind.u64 (Go.Lift.shrI Go.IntKind.u64 (Go.IntKind.wrap Go.IntKind.u64 ((Go.Lift.bitsOp Go.BinOp.and Go.IntKind.u64 (Go.Lift.shrI Go.IntKind.u64 x0 (1 : Int)) (6148914691236517205 : Int)) + (Go.Lift.bitsOp Go.BinOp.and Go.IntKind.u64 x0 (6148914691236517205 : Int)))) (2 : Int)) (3689348814741910323 : Int)) + (Go.Lift.bitsOp Go.BinOp.and Go.IntKind.u64 (Go.IntKind.wrap Go.IntKind.u64 ((Go.Lift.bitsOp Go.BinOp.and Go.IntKind.u64 (Go.Lift.shrI Go.IntKind.u64 x0 (1 : Int)) (6148914691236517205 : Int)) + (Go.Lift.bitsOp Go.BinOp.and Go.IntKind.u64 x0 (6148914691236517205 : Int)))) (3689348814741910323 : Int)))) (4 : Int)) + (Go.IntKind.wrap Go.IntKind.u64 ((Go.Lift.bitsOp Go.BinOp.and Go.IntKind.u64 (Go.Lift.shrI Go.IntKind.u64 (Go.IntKind.wrap Go.IntKind.u64 ((Go.Lift.bitsOp Go.BinOp.and Go.IntKind.u64 (Go.Lift.shrI Go.IntKind.u64 x0 (1 : Int)) (6148914691236517205 : Int)) + (Go.Lift.bitsOp Go.BinOp.and Go.IntKind.u64 x0 (6148914691236517205 : Int)))) (2 : Int)) (3689348814741910323 : Int)) + (Go.Lift.bitsOp Go.BinOp.and Go.IntKind.u64 (Go.IntKind.wrap Go.IntKind.u64 ((Go.Lift.bitsOp Go.BinOp.and Go.IntKind.u64 (Go.Lift.shrI Go.IntKind.u64 x0 (1 : Int)) (6148914691236517205 : Int)) + (Go.Lift.bitsOp Go.BinOp.and Go.IntKind.u64 x0 (6148914691236517205 : Int)))) (3689348814741910323 : Int)))))) (1085102592571150095 : Int)) + (Go.Lift.shrI Go.IntKind.u64 (Go.Lift.bitsOp Go.BinOp.and Go.IntKind.u64 (Go.IntKind.wrap Go.IntKind.u64 ((Go.Lift.shrI Go.IntKind.u64 (Go.IntKind.wrap Go.IntKind.u64 ((Go.Lift.bitsOp Go.BinOp.and Go.IntKind.u64 (Go.Lift.shrI Go.IntKind.u64 (Go.IntKind.wrap Go.IntKind.u64 ((Go.Lift.bitsOp Go.BinOp.and Go.IntKind.u64 (Go.Lift.shrI Go.IntKind.u64 x0 (1 : Int)) (6148914691236517205 : Int)) + (Go.Lift.bitsOp Go.BinOp.and Go.IntKind.u64 x0 (6148914691236517205 : Int)))) (2 : Int)) (3689348814741910323 : Int)) + (Go.Lift.bitsOp Go.BinOp.and Go.IntKind.u64 (Go.IntKind.wrap Go.IntKind.u64 ((Go.Lift.bitsOp Go.BinOp.and Go.IntKind.u64 (Go.Lift.shrI Go.IntKind.u64 x0 (1 : Int)) (6148914691236517205 : Int)) + (Go.Lift.bitsOp Go.BinOp.and Go.IntKind.u64 x0 (6148914691236517205 : Int)))) (3689348814741910323 : Int)))) (4 : Int)) + (Go.IntKind.wrap Go.IntKind.u64 ((Go.Lift.bitsOp Go.BinOp.and Go.IntKind.u64 (Go.Lift.shrI Go.IntKind.u64 (Go.IntKind.wrap Go.IntKind.u64 ((Go.Lift.bitsOp Go.BinOp.and Go.IntKind.u64 (Go.Lift.shrI Go.IntKind.u64 x0 (1 : Int)) (6148914691236517205 : Int)) + (Go.Lift.bitsOp Go.BinOp.and Go.IntKind.u64 x0 (6148914691236517205 : Int)))) (2 : Int)) (3689348814741910323 : Int)) + (Go.Lift.bitsOp Go.BinOp.and Go.IntKind.u64 (Go.IntKind.wrap Go.IntKind.u64 ((Go.Lift.bitsOp Go.BinOp.and Go.IntKind.u64 (Go.Lift.shrI Go.IntKind.u64 x0 (1 : Int)) (6148914691236517205 : Int)) + (Go.Lift.bitsOp Go.BinOp.and Go.IntKind.u64 x0 (6148914691236517205 : Int)))) (3689348814741910323 : Int)))))) (1085102592571150095 : Int)) (8 : Int)))) + (Go.Lift.shrI Go.IntKind.u64 (Go.IntKind.wrap Go.IntKind.u64 ((Go.Lift.bitsOp Go.BinOp.and Go.IntKind.u64 (Go.IntKind.wrap Go.IntKind.u64 ((Go.Lift.shrI Go.IntKind.u64 (Go.IntKind.wrap Go.IntKind.u64 ((Go.Lift.bitsOp Go.BinOp.and Go.IntKind.u64 (Go.Lift.shrI Go.IntKind.u64 (Go.IntKind.wrap Go.IntKind.u64 ((Go.Lift.bitsOp Go.BinOp.and Go.IntKind.u64 (Go.Lift.shrI Go.IntKind.u64 x0 (1 : Int)) (6148914691236517205 : Int)) + (Go.Lift.bitsOp Go.BinOp.and Go.IntKind.u64 x0 (6148914691236517205 : Int)))) (2 : Int)) (3689348814741910323 : Int)) + (Go.Lift.bitsOp Go.BinOp.and Go.IntKind.u64 (Go.IntKind.wrap Go.IntKind.u64 ((Go.Lift.bitsOp Go.BinOp.and Go.IntKind.u64 (Go.Lift.shrI Go.IntKind.u64 x0 (1 : Int)) (6148914691236517205 : Int)) + (Go.Lift.bitsOp Go.BinOp.and Go.IntKind.u64 x0 (6148914691236517205 : Int)))) (3689348814741910323 : Int)))) (4 : Int)) + (Go.IntKind.wrap Go.IntKind.u64 ((Go.Lift.bitsOp Go.BinOp.and Go.IntKind.u64 (Go.Lift.shrI Go.IntKind.u64 (Go.IntKind.wrap Go.IntKind.u64 ((Go.Lift.bitsOp Go.BinOp.and Go.IntKind.u64 (Go.Lift.shrI Go.IntKind.u64 x0 (1 : Int)) (6148914691236517205 : Int)) + (Go.Lift.bitsOp Go.BinOp.and Go.IntKind.u64 x0 (6148914691236517205 : Int)))) (2 : Int)) (3689348814741910323 : Int)) + (Go.Lift.bitsOp Go.BinOp.and Go.IntKind.u64 (Go.IntKind.wrap Go.IntKind.u64 ((Go.Lift.bitsOp Go.BinOp.and Go.IntKind.u64 (Go.Lift.shrI Go.IntKind.u64 x0 (1 : Int)) (6148914691236517205 : Int)) + (Go.Lift.bitsOp Go.BinOp.and Go.IntKind.u64 x0 (6148914691236517205 : Int)))) (3689348814741910323 : Int)))))) (1085102592571150095 : Int)) + (Go.Lift.shrI Go.IntKind.u64 (Go.Lift.bitsOp Go.BinOp.and Go.IntKind.u64 (Go.IntKind.wrap Go.IntKind.u64 ((Go.Lift.shrI Go.IntKind.u64 (Go.IntKind.wrap Go.IntKind.u64 ((Go.Lift.bitsOp Go.BinOp.and Go.IntKind.u64 (Go.Lift.shrI Go.IntKind.u64 (Go.IntKind.wrap Go.IntKind.u64 ((Go.Lift.bitsOp Go.BinOp.and Go.IntKind.u64 (Go.Lift.shrI Go.IntKind.u64 x0 (1 : Int)) (6148914691236517205 : Int)) + (Go.Lift.bitsOp Go.BinOp.and Go.IntKind.u64 x0 (6148914691236517205 : Int)))) (2 : Int)) (3689348814741910323 : Int)) + (Go.Lift.bitsOp Go.BinOp.and Go.IntKind.u64 (Go.IntKind.wrap Go.IntKind.u64 ((Go.Lift.bitsOp Go.BinOp.and Go.IntKind.u64 (Go.Lift.shrI Go.IntKind.u64 x0 (1 : Int)) (6148914691236517205 : Int)) + (Go.Lift.bitsOp Go.BinOp.and Go.IntKind.u64 x0 (6148914691236517205 : Int)))) (3689348814741910323 : Int)))) (4 : Int)) + (Go.IntKind.wrap Go.IntKind.u64 ((Go.Lift.bitsOp Go.BinOp.and Go.IntKind.u64 (Go.Lift.shrI Go.IntKind.u64 (Go.IntKind.wrap Go.IntKind.u64 ((Go.Lift.bitsOp Go.BinOp.and Go.IntKind.u64 (Go.Lift.shrI Go.IntKind.u64 x0 (1 : Int)) (6148914691236517205 : Int)) + (Go.Lift.bitsOp Go.BinOp.and Go.IntKind.u64 x0 (6148914691236517205 : Int)))) (2 : Int)) (3689348814741910323 : Int)) + (Go.Lift.bitsOp Go.BinOp.and Go.IntKind.u64 (Go.IntKind.wrap Go.IntKind.u64 ((Go.Lift.bitsOp Go.BinOp.and Go.IntKind.u64 (Go.Lift.shrI Go.IntKind.u64 x0 (1 : Int)) (6148914691236517205 : Int)) + (Go.Lift.bitsOp Go.BinOp.and Go.IntKind.u64 x0 (6148914691236517205 : Int)))) (3689348814741910323 : Int)))))) (1085102592571150095 : Int)) (8 : Int)))) (16 : Int)))) (32 : Int))))) (127 : Int))

noncomputable def math_bits_OnesCount64_t (N : Nat) : Tab Int := []

theorem math_bits_OnesCount64_link (N : Nat) (x : denS [(0, .v (.int .u64))]) : evFX (math_bits_OnesCount64_E N) N (math_bits_OnesCount64_t N) math_bits_OnesCount64_L Go.Proofs.Tryd.f19 (mkS [(0, .v (.int .u64))] 0 x) (kRes (.v (.int .i64)) 1) = math_bits_OnesCount64 N x.1 := by kernel_rfl

noncomputable def math_bits_OnesCount64_res (N : Nat) : List A → Res := resOf [(0, .v (.int .u64))] (fun x => math_bits_OnesCount64 N x.1) (oRes (.v (.int .i64)) 1)

theorem math_bits_OnesCount64_ct (N : Nat) : Contract Go.Proofs.Tryd.prog glob 19 (math_bits_OnesCount64_res N) :=
  Contract.of (E := math_bits_OnesCount64_E N) (H := math_bits_OnesCount64_t N) (L := math_bits_OnesCount64_L) (N := N) (body := math_bits_OnesCount64_body) (K := (kRes (.v (.int .i64)) 1)) (math_bits_OnesCount64_Eok N) Go.Proofs.Tryd.func19 (by kernel_rfl) (by decide) (fun _ hb => TabOk.nil) (fun x y h => by rw [math_bits_OnesCount64_link]; exact h) (kRes_ok (s := (.v (.int .i64))) (m := 1))

abbrev charset_Count_R : Type := Int

noncomputable def charset_Count_body : Code := (Go.Proofs.Tryd.f15.body).getD .skip

noncomputable def charset_Count_L : List (List Nat × List Nat) := [([0], [1]), ([0, 1], [1, 3]), ([0, 0, 1, 1], [7, 6, 3]), ([0, 1, 0, 1, 1], [7, 6, 3]), ([0, 0, 0, 1, 0, 1, 1], [8, 6, 7, 3]), ([0, 1, 0, 0, 1, 0, 1, 1], [6, 7, 3]), ([1, 0, 1, 0, 0, 1, 0, 1, 1], [3]), ([0, 0, 0, 1, 1, 0, 0, 1, 0, 1, 1], [3, 5, 7, 6]), ([1, 0, 0, 1, 1, 0, 0, 1, 0, 1, 1], [7, 6, 3]), ([0, 1, 1, 0, 0, 1, 0, 1, 1], [7, 6, 3]), ([1, 1, 1, 0, 0, 1, 0, 1, 1], [7, 6, 3]), ([1, 0, 1, 1], [3]), ([0, 1, 1, 1], [2]), ([1, 1, 1, 1], [2])]

noncomputable def charset_Count_E (N : Nat) : Env := mkEnv tys glob [(19, math_bits_OnesCount64_res N)] [] [] [] false [] []

theorem charset_Count_Eok (N : Nat) : EnvOk Go.Proofs.Tryd.prog (charset_Count_E N) := mkEnv_ok mixed tys_ok (FnsOk.cons (math_bits_OnesCount64_ct N) (FnsOk.nil)) (ItsOk.nil)

noncomputable def charset_Count_s1 (N : Nat) (x6 : (List Int)) (n : Int) (x7 : Int) (rec : Int → Int → Option Int) (k0 : Int → Option Int) : Option Int :=
  cond (decide (x7 < (4 : Int)))
  (cond (Go.Lift.inR x7 4)
    (rec (Go.IntKind.wrap Go.IntKind.i64 (n + (Go.Lift.bitsOp Go.BinOp.and Go.IntKind.i64 (Go.IntKind.wrap Go.IntKind.i64 (Go.IntKind.wrap Go.IntKind.u64 ((Go.IntKind.wrap Go.IntKind.u64 ((Go.IntKind.wrap Go.IntKind.u64 ((Go.Lift.bitsOp Go.BinOp.and Go.IntKind.u64 (Go.IntKind.wrap Go.IntKind.u64 ((Go.Lift.shrI Go.IntKind.u64 (Go.IntKind.wrap Go.IntKind.u64 ((Go.Lift.bitsOp Go.BinOp.and Go.IntKind.u64 (Go.Lift.shrI Go.IntKind.u64 (Go.IntKind.wrap Go.IntKind.u64 ((Go.Lift.bitsOp Go.BinOp.and Go.IntKind.u64 (Go.Lift.shrI Go.IntKind.u64 (List.getD x6 (Int.toNat x7) (0 : Int)) (1 : Int)) (6148914691236517205 : Int)) + (Go.Lift.bitsOp Go.BinOp.and Go.IntKind.u64 (List.getD x6 (Int.toNat x7) (0 : Int)) (6148914691236517205 : Int)))) (2 : Int)) (3689348814741910323 : Int)) + (Go.Lift.bitsOp Go.BinOp.and Go.IntKind.u64 (Go.IntKind.wrap Go.IntKind.u64 ((Go.Lift.bitsOp Go.BinOp.and Go.IntKind.u64 (Go.Lift.shrI Go.IntKind.u64 (List.getD x6 (Int.toNat x7) (0 : Int)) (1 : Int)) (6148914691236517205 : Int)) + (Go.Lift.bitsOp Go.BinOp.and Go.IntKind.u64 (List.getD x6 (Int.toNat x7) (0 : Int)) (6148914691236517205 : Int)))) (3689348814741910323 : Int)))) (4 : Int)) + (Go.IntKind.wrap Go.IntKind.u64 ((Go.Lift.bitsOp Go.BinOp.and Go.IntKind.u64 (Go.Lift.shrI Go.IntKind.u64 (Go.IntKind.wrap Go.IntKind.u64 ((Go.Lift.bitsOp Go.BinOp.and Go.IntKind.u64 (Go.Lift.shrI Go.IntKind.u64 (List.getD x6 (Int.toNat x7) (0 : Int)) (1 : Int)) (6148914691236517205 : Int)) + (Go.Lift.bitsOp Go.BinOp.and Go.IntKind.u64 (List.getD x6 (Int.toNat x7) (0 : Int)) (6148914691236517205 : Int)))) (2 : Int)) (3689348814741910323 : Int)) + (Go.Lift.bitsOp Go.BinOp.and Go.IntKind.u64 (Go.IntKind.wrap Go.IntKind.u64 ((Go.Lift.bitsOp Go.BinOp.and Go.IntKind.u64 (Go.Lift.shrI Go.IntKind.u64 (List.getD x6 (Int.toNat x7) (0 : Int)) (1 : Int)) (6148914691236517205 : Int)) + (Go.Lift.bitsOp Go.BinOp.and Go.IntKind.u64 (List.getD x6 (Int.toNat x7) (0 : Int)) (6148914691236517205 : Int)))) (3689348814741910323 : Int)))))) (1085102592571150095 : Int)) + (Go.Lift.shrI Go.IntKind.u64 (Go.Lift.bitsOp Go.BinOp.and Go.IntKind.u64 (Go.IntKind.wrap Go.IntKind.u64 ((Go.Lift.shrI Go.IntKind.u64 (Go.IntKind.wrap Go.IntKind.u64 ((Go.Lift.bitsOp Go.BinOp.and Go.IntKind.u64 (Go.Lift.shrI Go.IntKind.u64 (Go.IntKind.wrap Go.IntKind.u64 ((Go.Lift.bitsOp Go.BinOp.and Go.IntKind.u64 (Go.Lift.shrI Go.IntKind.u64 (List.getD x6 (Int.toNat x7) (0 : Int)) (1 : Int)) (6148914691236517205 : Int)) + (Go.Lift.bitsOp Go.BinOp.and Go.IntKind.u64 (List.getD x6 (Int.toNat x7) (0 : Int)) (6148914691236517205 : Int)))) (2 : Int)) (3689348814741910323 : Int)) + (Go.Lift.bitsOp Go.BinOp.and Go.IntKind.u64 (Go.IntKind.wrap Go.IntKind.u64 ((Go.Lift.bitsOp Go.BinOp.and Go.IntKind.u64 (Go.Lift.shrI Go.IntKind.u64 (List.getD x6 (Int.toNat x7) (0 : Int)) (1 : Int)) (6148914691236517205 : Int)) + (Go.Lift.bitsOp Go.BinOp.and Go.IntKind.u64 (List.getD x6 (Int.toNat x7) (0 : Int)) (6148914691236517205 : Int)))) (3689348814741910323 : Int)))) (4 : Int)) + (Go.IntKind.wrap Go.IntKind.u64 ((Go.Lift.bitsOp Go.BinOp.and Go.IntKind.u64 (Go.Lift.shrI Go.IntKind.u64 (Go.IntKind.wrap Go.IntKind.u64 ((Go.Lift.bitsOp Go.BinOp.and Go.IntKind.u64 (Go.Lift.shrI Go.IntKind.u64 (List.getD x6 (Int.toNat x7) (0 : Int)) (1 : Int)) (6148914691236517205 : Int)) + (Go.Lift.bitsOp Go.BinOp.and Go.IntKind.u64 (List.getD x6 (Int.toNat x7) (0 : Int)) (6148914691236517205 : Int)))) (2 : Int)) (3689348814741910323 : Int)) + (Go.Lift.bitsOp Go.BinOp.and Go.IntKind.u64 (Go.IntKind.wrap Go.IntKind.u64 ((Go.Lift.bitsOp Go.BinOp.and Go.IntKind.u64 (Go.Lift.shrI Go.IntKind.u64 (List.getD x6 (Int.toNat x7) (0 : Int)) (1 : Int)) (6148914691236517205 : Int)) + (Go.Lift.bitsOp Go.BinOp.and Go.IntKind.u64 (List.getD x6 (Int.toNat x7) (0 : Int)) (6148914691236517205 : Int)))) (3689348814741910323 : Int)))))) (1085102592571150095 : Int)) (8 : Int)))) + (Go.Lift.shrI Go.IntKind.u64 (Go.IntKind.wrap Go.IntKind.u64 ((Go.Lift.bitsOp Go.BinOp.and Go.IntKind.u64 (Go.IntKind.wrap Go.IntKind.u64 ((Go.Lift.shrI Go.IntKind.u64 (Go.IntKind.wrap Go.IntKind.u64 ((Go.Lift.bitsOp Go.BinOp.and Go.IntKind.u64 (Go.Lift.shrI Go.IntKind.u64 (Go.IntKind.wrap Go.IntKind.u64 ((Go.Lift.bitsOp Go.BinOp.and Go.IntKind.u64 (Go.Lift.shrI Go.IntKind.u64 (List.getD x6 (Int.toNat x7) (0 : Int)) (1 : Int)) (6148914691236517205 : Int)) + (Go.Lift.bitsOp Go.BinOp.and Go.IntKind.u64 (List.getD x6 (Int.toNat x7) (0 : Int)) (6148914691236517205 : Int)))) (2 : Int)) (3689348814741910323 : Int)) + (Go.Lift.bitsOp Go.BinOp.and Go.IntKind.u64 (Go.IntKind.wrap Go.IntKind.u64 ((Go.Lift.bitsOp Go.BinOp.and Go.IntKind.u64 (Go.Lift.shrI Go.IntKind.u64 (List.getD x6 (Int.toNat x7) (0 : Int)) (1 : Int)) (6148914691236517205 : Int)) + (Go.Lift.bitsOp Go.BinOp.and Go.IntKind.u64 (List.getD x6 (Int.toNat x7) (0 : Int)) (6148914691236517205 : Int)))) (3689348814741910323 : Int)))) (4 : Int)) + (Go.IntKind.wrap Go.IntKind.u64 ((Go.Lift.bitsOp Go.BinOp.and Go.IntKind.u64 (Go.Lift.shrI Go.IntKind.u64 (Go.IntKind.wrap Go.IntKind.u64 ((Go.Lift.bitsOp Go.BinOp.and Go.IntKind.u64 (Go.Lift.shrI Go.IntKind.u64 (List.getD x6 (Int.toNat x7) (0 : Int)) (1 : Int)) (6148914691236517205 : Int)) + (Go.Lift.bitsOp Go.BinOp.and Go.IntKind.u64 (List.getD x6 (Int.toNat x7) (0 : Int)) (6148914691236517205 : Int)))) (2 : Int)) (3689348814741910323 : Int)) + (Go.Lift.bitsOp Go.BinOp.and Go.IntKind.u64 (Go.IntKind.wrap Go.IntKind.u64 ((Go.Lift.bitsOp Go.BinOp.and Go.IntKind.u64 (Go.Lift.shrI Go.IntKind.u64 (List.getD x6 (Int.toNat x7) (0 : Int)) (1 : Int)) (6148914691236517205 : Int)) + (Go.Lift.bitsOp Go.BinOp.and Go.IntKind.u64 (List.getD x6 (Int.toNat x7) (0 : Int)) (6148914691236517205 : Int)))) (3689348814741910323 : Int)))))) (1085102592571150095 : Int)) + (Go.Lift.shrI Go.IntKind.u64 (Go.Lift.bitsOp Go.BinOp.and Go.IntKind.u64 (Go.IntKind.wrap Go.IntKind.u64 ((Go.Lift.shrI Go.IntKind.u64 (Go.IntKind.wrap Go.IntKind.u64 ((Go.Lift.bitsOp Go.BinOp.and Go.IntKind.u64 (Go.Lift.shrI Go.IntKind.u64 (Go.IntKind.wrap Go.IntKind.u64 ((Go.Lift.bitsOp Go.BinOp.and Go.IntKind.u64 (Go.Lift.shrI Go.IntKind.u64 (List.getD x6 (Int.toNat x7) (0 : Int)) (1 : Int)) (6148914691236517205 : Int)) + (Go.Lift.bitsOp Go.BinOp.and Go.IntKind.u64 (List.getD x6 (Int.toNat x7) (0 : Int)) (6148914691236517205 : Int)))) (2 : Int)) (3689348814741910323 : Int)) + (Go.Lift.bitsOp Go.BinOp.and Go.IntKind.u64 (Go.IntKind.wrap Go.IntKind.u64 ((Go.Lift.bitsOp Go.BinOp.and Go.IntKind.u64 (Go.Lift.shrI Go.IntKind.u64 (List.getD x6 (Int.toNat x7) (0 : Int)) (1 : Int)) (6148914691236517205 : Int)) + (Go.Lift.bitsOp Go.BinOp.and Go.IntKind.u64 (List.getD x6 (Int.toNat x7) (0 : Int)) (6148914691236517205 : Int)))) (3689348814741910323 : Int)))) (4 : Int)) + (Go.IntKind.wrap Go.IntKind.u64 ((Go.Lift.bitsOp Go.BinOp.and Go.IntKind.u64 (Go.Lift.shrI Go.IntKind.u64 (Go.IntKind.wrap Go.IntKind.u64 ((Go.Lift.bitsOp Go.BinOp.and Go.IntKind.u64 (Go.Lift.shrI Go.IntKind.u64 (List.getD x6 (Int.toNat x7) (0 : Int)) (1 : Int)) (6148914691236517205 : Int)) + (Go.Lift.bitsOp Go.BinOp.and Go.IntKind.u64 (List.getD x6 (Int.toNat x7) (0 : Int)) (6148914691236517205 : Int)))) (2 : Int)) (3689348814741910323 : Int)) + (Go.Lift.bitsOp Go.BinOp.and Go.IntKind.u64 (Go.IntKind.wrap Go.IntKind.u64 ((Go.Lift.bitsOp Go.BinOp.and Go.IntKind.u64 (Go.Lift.shrI Go.IntKind.u64 (List.getD x6 (Int.toNat x7) (0 : Int)) (1 : Int)) (6148914691236517205 : Int)) + (Go.Lift.bitsOp Go.BinOp.and Go.IntKind.u64 (List.getD x6 (Int.toNat x7) (0 : Int)) (6148914691236517205 : Int)))) (3689348814741910323 : Int)))))) (1085102592571150095 : Int)) (8 : Int)))) (16 : Int)))) + (Go.Lift.shrI Go.IntKind.u64 (Go.IntKind.wrap Go.IntKind.u64 ((Go.IntKind.wrap Go.IntKind.u64 ((Go.Lift.bitsOp Go.BinOp.and Go.IntKind.u64 (Go.IntKind.wrap Go.IntKind.u64 ((Go.Lift.shrI Go.IntKind.u64 (Go.IntKind.wrap Go.IntKind.u64 ((Go.Lift.bitsOp Go.BinOp.and Go.IntKind.u64 (Go.Lift.shrI Go.IntKind.u64 (Go.IntKind.wrap Go.IntKind.u64 ((Go.Lift.bitsOp Go.BinOp.and Go.IntKind.u64 (Go.Lift.shrI Go.IntKind.u64 (List.getD x6 (Int.toNat x7) (0 : Int)) (1 : Int)) (6148914691236517205 : Int)) + (Go.Lift.bitsOp Go.BinOp.and Go.IntKind.u64 (List.getD x6 (Int.toNat x7) (0 : Int)) (6148914691236517205 : Int)))) (2 : Int)) (3689348814741910323 : Int)) + (Go.Lift.bitsOp Go.BinOp.and Go.IntKind.u64 (Go.IntKind.wrap Go.IntKind.u64 ((Go.Lift.bitsOp Go.BinOp.and Go.IntKind.u64 (Go.Lift.shrI Go.IntKind.u64 (List.getD x6 (Int.toNat x7) (0 : Int)) (1 : Int)) (6148914691236517205 : Int)) + (Go.Lift.bitsOp Go.BinOp.and Go.IntKind.u64 (List.getD x6 (Int.toNat x7) (0 : Int)) (6148914691236517205 : Int)))) (3689348814741910323 : Int)))) (4 : Int)) + (Go.IntKind.wrap Go.IntKind.u64 ((Go.Lift.bitsOp Go.BinOp.and Go.IntKind.u64 (Go.Lift.shrI Go.IntKind.u64 (Go.IntKind.wrap Go.IntKind.u64 ((Go.Lift.bitsOp Go.BinOp.and Go.IntKind.u64 (Go.Lift.shrI Go.IntKind.u64 (List.getD x6 (Int.toNat x7) (0 : Int)) (1 : Int)) (6148914691236517205 : Int)) + (Go.Lift.bitsOp Go.BinOp.and Go.IntKind.u64 (List.getD x6 (Int.toNat x7) (0 : Int)) (6148914691236517205 : Int)))) (2 : Int)) (3689348814741910323 : Int)) + (Go.Lift.bitsOp Go.BinOp.and Go.IntKind.u64 (Go.IntKind.wrap Go.IntKind.u64 ((Go.Lift.bitsOp Go.BinOp.and Go.IntKind.u64 (Go.Lift.shrI Go.IntKind.u64 (List.getD x6 (Int.toNat x7) (0 : Int)) (1 : Int)) (6148914691236517205 : Int)) + (Go.Lift.bitsOp Go.BinOp.and Go.IntKind.u64 (List.getD x6 (Int.toNat x7) (0 : Int)) (6148914691236517205 : Int)))) (3689348814741910323 : Int)))))) (1085102592571150095 : Int)) + (Go.Lift.shrI Go.IntKind.u64 (Go.Lift.bitsOp Go.BinOp.and Go.IntKind.u64 (Go.IntKind.wrap Go.IntKind.u64 ((Go.Lift.shrI Go.IntKind.u64 (Go.IntKind.wrap Go.IntKind.u64 ((Go.Lift.bitsOp Go.BinOp.and Go.IntKind.u64 (Go.Lift.shrI Go.IntKind.u64 (Go.IntKind.wrap Go.IntKind.u64 ((Go.Lift.bitsOp Go.BinOp.and Go.IntKind.u64 (Go.Lift.shrI Go.IntKind.u64 (List.getD x6 (Int.toNat x7) (0 : Int)) (1 : Int)) (6148914691236517205 : Int)) + (Go.Lift.bitsOp Go.BinOp.and Go.IntKind.u64 (List.getD x6 (Int.toNat x7) (0 : Int)) (6148914691236517205 : Int)))) (2 : Int)) (3689348814741910323 : Int)) + (Go.Lift.bitsOp Go.BinOp.and Go.IntKind.u64 (Go.IntKind.wrap Go.IntKind.u64 ((Go.Lift.bitsOp Go.BinOp.and Go.IntKind.u64 (Go.Lift.shrI Go.IntKind.u64 (List.getD x6 (Int.toNat x7) (0 : Int)) (1 : Int)) (6148914691236517205 : Int)) + (Go.Lift.bitsOp Go.BinOp.and Go.IntKind.u64 (List.getD x6 (Int.toNat x7) (0 : Int)) (6148914691236517205 : Int)))) (3689348814741910323 : Int)))) (4 : Int)) + (Go.IntKind.wrap Go.IntKind.u64 ((Go.Lift.bitsOp Go.BinOp.and Go.IntKind.u64 (Go.Lift.shrI Go.IntKind.u64 (Go.IntKind.wrap Go.IntKind.u64 ((Go.Lift.bitsOp Go.BinOp.and Go.IntKind.u64 (Go.Lift.shrI Go.IntKind.u64 (List.getD x6 (Int.toNat x7) (0 : Int)) (1 : Int)) (6148914691236517205 : Int)) + (Go.Lift.bitsOp Go.BinOp.and Go.IntKind.u64 (List.getD x6 (Int.toNat x7) (0 : Int)) (6148914691236517205 : Int)))) (2 : Int)) (3689348814741910323 : Int)) + (Go.Lift.bitsOp Go.BinOp.and Go.IntKind.u64 (Go.IntKind.wrap Go.IntKind.u64 ((Go.Lift.bitsOp Go.BinOp.and Go.IntKind.u64 (Go.Lift.shrI Go.IntKind.u64 (List.getD x6 (Int.toNat x7) (0 : Int)) (1 : Int)) (6148914691236517205 : Int)) + (Go.Lift.bitsOp Go.BinOp.and Go.IntKind.u64 (List.getD x6 (Int.toNat x7) (0 : Int)) (6148914691236517205 : Int)))) (3689348814741910323 : Int)))))) (1085102592571150095 : Int)) (8 : Int)))) + (Go.Lift.shrI Go.IntKind.u64 (Go.IntKind.wrap Go.IntKind.u64 ((Go.Lift.bitsOp Go.BinOp.and Go.IntKind.u64 (Go.IntKind.wrap Go.IntKind.u64 ((Go.Lift.shrI Go.IntKind.u64 (Go.IntKind.wrap Go.IntKind.u64 ((Go.Lift.bitsOp Go.BinOp.and Go.IntKind.u64 (Go.Lift.shrI Go.IntKind.u64 (Go.IntKind.wrap Go.IntKind.u64 ((Go.Lift.bitsOp Go.BinOp.and Go.IntKind.u64 (Go.Lift.shrI Go.IntKind.u64 (List.getD x6 (Int.toNat x7) (0 : Int)) (1 : Int)) (6148914691236517205 : Int)) + (Go.Lift.bitsOp Go.BinOp.and Go.IntKind.u64 (List.getD x6 (Int.toNat x7) (0 : Int)) (6148914691236517205 : Int)))) (2 : Int)) (3689348814741910323 : Int)) + (Go.Lift.bitsOp Go.BinOp.and Go.IntKind.u64 (Go.IntKind.wrap Go.IntKind.u64 ((Go.Lift.bitsOp Go.BinOp.and Go.IntKind.u64 (Go.Lift.shrI Go.IntKind.u64 (List.getD x6 (Int.toNat x7) (0 : Int)) (1 : Int)) (6148914691236517205 : Int)) + (Go.Lift.bitsOp Go.BinOp.and Go.IntKind.u64 (List.getD x6 (Int.toNat x7) (0 : Int)) (6148914691236517205 : Int)))) (3689348814741910323 : Int)))) (4 : Int)) + (Go.IntKind.wrap Go.IntKind.u64 ((Go.Lift.bitsOp Go.BinOp.and Go.IntKind.u64 (Go.Lift.shrI Go.IntKind.u64 (Go.IntKind.wrap Go.IntKind.u64 ((Go.Lift.bitsOp Go.BinOp.and Go.IntKind.u64 (Go.Lift.shrI Go.IntKind.u64 (List.getD x6 (Int.toNat x7) (0 : Int)) (1 : Int)) (6148914691236517205 : Int)) + (Go.Lift.bitsOp Go.BinOp.and Go.IntKind.u64 (List.getD x6 (Int.toNat x7) (0 : Int)) (6148914691236517205 : Int)))) (2 : Int)) (3689348814741910323 : Int)) + (Go.Lift.bitsOp Go.BinOp.and Go.IntKind.u64 (Go.IntKind.wrap Go.IntKind.u64 ((Go.Lift.bitsOp Go.BinOp.and Go.IntKind.u64 (Go.Lift.shrI Go.IntKind.u64 (List.getD x6 (Int.toNat x7) (0 : Int)) (1 : Int)) (6148914691236517205 : Int)) + (Go.Lift.bitsOp Go.BinOp.and Go.IntKind.u64 (List.getD x6 (Int.toNat x7) (0 : Int)) (6148914691236517205 : Int)))) (3689348814741910323 : Int)))))) (1085102592571150095 : Int)) + (Go.Lift.shrI Go.IntKind.u64 (Go.Lift.bitsOp Go.BinOp.and Go.IntKind.u64 (Go.IntKind.wrap Go.IntKind.u64 ((Go.Lift.shrI Go.IntKind.u64 (Go.IntKind.wrap Go.IntKind.u64 ((Go.Lift.bitsOp Go.BinOp.and Go.IntKind.u64 (Go.Lift.shrI Go.IntKind.u64 (Go.IntKind.wrap Go.IntKind.u64 ((Go.Lift.bitsOp Go.BinOp.and Go.IntKind.u64 (Go.Lift.shrI Go.IntKind.u64 (List.getD x6 (Int.toNat x7) (0 : Int)) (1 : Int)) (6148914691236517205 : Int)) + (Go.Lift.bitsOp Go.BinOp.and Go.IntKind.u64 (List.getD x6 (Int.toNat x7) (0 : Int)) (6148914691236517205 : Int)))) (2 : Int)) (3689348814741910323 : Int)) + (Go.Lift.bitsOp Go.BinOp.and Go.IntKind.u64 (Go.IntKind.wrap Go.IntKind.u64 ((Go.Lift.bitsOp Go.BinOp.and Go.IntKind.u64 (Go.Lift.shrI Go.IntKind.u64 (List.getD x6 (Int.toNat x7) (0 : Int)) (1 : Int)) (6148914691236517205 : Int)) + (Go.Lift.bitsOp Go.BinOp.and Go.IntKind.u64 (List.getD x6 (Int.toNat x7) (0 : Int)) (6148914691236517205 : Int)))) (3689348814741910323 : Int)))) (4 : Int)) + (Go.IntKind.wrap Go.IntKind.u64 ((Go.Lift.bitsOp Go.BinOp.and Go.IntKind.u64 (Go.Lift.shrI Go.IntKind.u64 (Go.IntKind.wrap Go.IntKind.u64 ((Go.Lift.bitsOp Go.BinOp.and Go.IntKind.u64 (Go.Lift.shrI Go.IntKind.u64 (List.getD x6 (Int.toNat x7) (0 : Int)) (1 : Int)) (6148914691236517205 : Int)) + (Go.Lift.bitsOp Go.BinOp.and Go.IntKind.u64 (List.getD x6 (Int.toNat x7) (0 : Int)) (6148914691236517205 : Int)))) (2 : Int)) (3689348814741910323 : Int)) + (Go.Lift.bitsOp Go.BinOp.and Go.IntKind.u64 (Go.IntKind.wrap Go.IntKind.u64 ((Go.Lift.bitsOp Go.BinOp.and Go.IntKind.u64 (Go.Lift.shrI Go.IntKind.u64 (List.getD x6 (Int.toNat x7) (0 : Int)) (1 : Int)) (6148914691236517205 : Int)) + (Go.Lift.bitsOp Go.BinOp.and Go.IntKind.u64 (List.getD x6 (Int.toNat x7) (0 : Int)) (6148914691236517205 : Int)))) (3689348814741910323 : Int)))))) (1085102592571150095 : Int)) (8 : Int)))) (16 : Int)))) (32 : Int))))) (127 : Int)))) (Go.IntKind.wrap Go.IntKind.i64 (x7 + (1 : Int))))
    (none))
  (k0 n)

noncomputable def charset_Count_p1 (N : Nat) (n : Int) (x6 : (List Int)) (x7 : Int) (k0 : Int → Option Int) : Option Int :=
  iter (fun (v : (Int × Int)) r => charset_Count_s1 N x6 v.1 v.2 (fun n x7 => (r (n, x7))) k0) N (n, x7)

noncomputable def charset_Count_g1 (N : Nat) (i : (List Int)) (v : (Int × Int)) (r : (Int × Int) → Option Int) (K : Ex → List A → Option Int) : Option Int :=
  charset_Count_s1 N i v.1 v.2 (fun n x7 => (r (n, x7))) (fun a0 => (K (.exit 0) (mkS [(3, .v (.int .i64))] 12 (a0, ()))))

noncomputable def charset_Count_h1 (N : Nat) : Hd Int := fun st K => (unS [(3, .v (.int .i64)), (2, .v (.arr 4 (.int .u64))), (0, .v (.int .i64))] 8 (restr [7, 6, 3] 0 st)).bind fun x => iter (fun v r => charset_Count_g1 N ((fun x => x.2.1) x) v r K) N ((fun x => (x.1, x.2.2.1)) x)

noncomputable def charset_Count_t1 (N : Nat) : Tab Int := []

theorem charset_Count_ok1 {N : Nat} {c : Ctx} (hb : Base Go.Proofs.Tryd.prog (charset_Count_E N) c) : CodeOk Go.Proofs.Tryd.prog c (nodeAt charset_Count_body [0, 1, 0, 1, 1]) (charset_Count_h1 N) :=
  loop_ok (s := [(3, .v (.int .i64)), (2, .v (.arr 4 (.int .u64))), (0, .v (.int .i64))]) (m := 8) (charset_Count_g1 N) [7, 6, 3] N (fun x => x.2.1) (fun x => (x.1, x.2.2.1)) (fun i v => (v.1, i, v.2, ())) (fun _ => rfl) (evN_sound hb N (charset_Count_t1 N) charset_Count_L charset_Count_body TabOk.nil [0, 0, 1, 0, 1, 1] _ rfl) (fun i v r K => by kernel_rfl)

noncomputable def charset_Count (N : Nat) (s : (List Int)) : Option Int :=
  charset_Count_p1 N (0 : Int) s (0 : Int)
  (fun n => some n)

noncomputable def charset_Count_t (N : Nat) : Tab Int := [([0, 1, 0, 1, 1], charset_Count_h1 N)]

theorem charset_Count_link (N : Nat) (x : denS [(0, .v (.arr 4 (.int .u64)))]) : evFX (charset_Count_E N) N (charset_Count_t N) charset_Count_L Go.Proofs.Tryd.f15 (mkS [(0, .v (.arr 4 (.int .u64)))] 0 x) (kRes (.v (.int .i64)) 1) = charset_Count N x.1 := by kernel_rfl

noncomputable def charset_Count_res (N : Nat) : List A → Res := resOf [(0, .v (.arr 4 (.int .u64)))] (fun x => charset_Count N x.1) (oRes (.v (.int .i64)) 1)

theorem charset_Count_ct (N : Nat) : Contract Go.Proofs.Tryd.prog glob 15 (charset_Count_res N) :=
  Contract.of (E := charset_Count_E N) (H := charset_Count_t N) (L := charset_Count_L) (N := N) (body := charset_Count_body) (K := (kRes (.v (.int .i64)) 1)) (charset_Count_Eok N) Go.Proofs.Tryd.func15 (by kernel_rfl) (by decide) (fun _ hb => (TabOk.cons (charset_Count_ok1 hb) TabOk.nil)) (fun x y h => by rw [charset_Count_link]; exact h) (kRes_ok (s := (.v (.int .i64))) (m := 1))

abbrev charset_Has_R : Type := Bool

noncomputable def charset_Has_body : Code := (Go.Proofs.Tryd.f12.body).getD .skip

noncomputable def charset_Has_L : List (List Nat × List Nat) := [([0], [1, 2]), ([0, 1], [4]), ([1, 1], [4])]

noncomputable def charset_Has_E (N : Nat) : Env := mkEnv tys glob [] [] [] [] false [] []

theorem charset_Has_Eok (N : Nat) : EnvOk Go.Proofs.Tryd.prog (charset_Has_E N) := mkEnv_ok mixed tys_ok (FnsOk.nil) (ItsOk.nil)

noncomputable def charset_Has (N : Nat) (s : (List Int)) (b : Int) : Option Bool :=
  cond (Go.Lift.inR (Go.IntKind.wrap Go.IntKind.u8 (Int.tdiv b (64 : Int))) 4)
  (cond (decide ((Int.toNat (Go.IntKind.wrap Go.IntKind.u8 (Int.tdiv b (64 : Int)))) < (List.length s)))
    (cond (decide ((0 : Int) ≤ (Int.tmod b (64 : Int))))
      (some ((Go.Lift.bitsOp Go.BinOp.and Go.IntKind.u64 (Go.Lift.shrI Go.IntKind.u64 (List.getD s (Int.toNat (Go.IntKind.wrap Go.IntKind.u8 (Int.tdiv b (64 : Int)))) (0 : Int)) (Int.tmod b (64 : Int))) (1 : Int)) == (1 : Int)))
      (none))
    (none))
  (none)

noncomputable def charset_Has_t (N : Nat) : Tab Bool := []

theorem charset_Has_link (N : Nat) (x : denS [(0, .v (.arr 4 (.int .u64))), (0, .v (.int .u8))]) : evFX (charset_Has_E N) N (charset_Has_t N) charset_Has_L Go.Proofs.Tryd.f12 (mkS [(0, .v (.arr 4 (.int .u64))), (0, .v (.int .u8))] 0 x) (kRes (.v .bool) 2) = charset_Has N x.1 x.2.1 := by kernel_rfl

noncomputable def charset_Has_res (N : Nat) : List A → Res := resOf [(0, .v (.arr 4 (.int .u64))), (0, .v (.int .u8))] (fun x => charset_Has N x.1 x.2.1) (oRes (.v .bool) 2)

theorem charset_Has_ct (N : Nat) : Contract Go.Proofs.Tryd.prog glob 12 (charset_Has_res N) :=
  Contract.of (E := charset_Has_E N) (H := charset_Has_t N) (L := charset_Has_L) (N := N) (body := charset_Has_body) (K := (kRes (.v .bool) 2)) (charset_Has_Eok N) Go.Proofs.Tryd.func12 (by kernel_rfl) (by decide) (fun _ hb => TabOk.nil) (fun x y h => by rw [charset_Has_link]; exact h) (kRes_ok (s := (.v .bool)) (m := 2))

abbrev charset_Text_R : Type := (List UInt8)

noncomputable def charset_Text_body : Code := (Go.Proofs.Tryd.f14.body).getD .skip

noncomputable def charset_Text_L : List (List Nat × List Nat) := [([0], [1]), ([0, 1], [1, 3]), ([0, 0, 1, 1], [8, 1, 3]), ([0, 1, 0, 1, 1], [8, 1, 3]), ([0, 0, 0, 1, 0, 1, 1], [9, 8, 1, 3]), ([0, 1, 0, 0, 1, 0, 1, 1], [8, 1, 3]), ([1, 0, 1, 0, 0, 1, 0, 1, 1], [3]), ([0, 0, 0, 1, 1, 0, 0, 1, 0, 1, 1], [1, 4, 3, 8]), ([0, 1, 0, 0, 1, 1, 0, 0, 1, 0, 1, 1], [14, 3, 4, 8, 1]), ([1, 1, 0, 0, 1, 1, 0, 0, 1, 0, 1, 1], [8, 1, 3]), ([0, 1, 1, 0, 0, 1, 1, 0, 0, 1, 0, 1, 1], [8, 1, 3]), ([0, 1, 1, 0, 0, 1, 0, 1, 1], [8, 1, 3]), ([1, 1, 1, 0, 0, 1, 0, 1, 1], [8, 1, 3]), ([1, 0, 1, 1], [3]), ([0, 1, 1, 1], [2]), ([1, 1, 1, 1], [2])]

noncomputable def charset_Text_E (N : Nat) : Env := mkEnv tys glob [(12, charset_Has_res N), (15, charset_Count_res N)] [(3, (.int .u8))] [] [] false [] []

theorem charset_Text_Eok (N : Nat) : EnvOk Go.Proofs.Tryd.prog (charset_Text_E N) := mkEnv_ok mixed tys_ok (FnsOk.cons (charset_Has_ct N) (FnsOk.cons (charset_Count_ct N) (FnsOk.nil))) (ItsOk.nil)

noncomputable def charset_Text_s1 (N : Nat) (s : (List Int)) (out : (List Int)) (x8 : Int) (rec : (List Int) → Int → Option (List UInt8)) (k0 : (List Int) → Option (List UInt8)) : Option (List UInt8) :=
  cond (decide (x8 < (256 : Int)))
  ((charset_Has N s (Go.IntKind.wrap Go.IntKind.u8 x8)).bind fun y =>
    cond y
    (cond (decide ((((List.length out) + 1) * 1) ≤ 70368744177664))
      (rec (out ++ ([(Go.IntKind.wrap Go.IntKind.u8 x8)] : List Int)) (Go.IntKind.wrap Go.IntKind.i64 (x8 + (1 : Int))))
      (none))
    (rec out (Go.IntKind.wrap Go.IntKind.i64 (x8 + (1 : Int)))))
  (k0 out)

noncomputable def charset_Text_p1 (N : Nat) (s : (List Int)) (out : (List Int)) (x8 : Int) (k0 : (List Int) → Option (List UInt8)) : Option (List UInt8) :=
  iter (fun (v : ((List Int) × Int)) r => charset_Text_s1 N s v.1 v.2 (fun out x8 => (r (out, x8))) k0) N (out, x8)

noncomputable def charset_Text_g1 (N : Nat) (i : (List Int)) (v : ((List Int) × Int)) (r : ((List Int) × Int) → Option (List UInt8)) (K : Ex → List A → Option (List UInt8)) : Option (List UInt8) :=
  charset_Text_s1 N i v.1 v.2 (fun out x8 => (r (out, x8))) (fun a0 => (K (.exit 0) (mkS [(3, .row (.int .u8))] 19 (a0, ()))))

noncomputable def charset_Text_h1 (N : Nat) : Hd (List UInt8) := fun st K => (unS [(1, .box (.arr 4 (.int .u64))), (1, .row (.int .u8)), (4, .v (.int .i64))] 14 (restr [8, 1, 3] 0 st)).bind fun x => iter (fun v r => charset_Text_g1 N ((fun x => x.1) x) v r K) N ((fun x => (x.2.1, x.2.2.1)) x)

noncomputable def charset_Text_t1 (N : Nat) : Tab (List UInt8) := []

theorem charset_Text_ok1 {N : Nat} {c : Ctx} (hb : Base Go.Proofs.Tryd.prog (charset_Text_E N) c) : CodeOk Go.Proofs.Tryd.prog c (nodeAt charset_Text_body [0, 1, 0, 1, 1]) (charset_Text_h1 N) :=
  loop_ok (s := [(1, .box (.arr 4 (.int .u64))), (1, .row (.int .u8)), (4, .v (.int .i64))]) (m := 14) (charset_Text_g1 N) [8, 1, 3] N (fun x => x.1) (fun x => (x.2.1, x.2.2.1)) (fun i v => (i, v.1, v.2, ())) (fun _ => rfl) (evN_sound hb N (charset_Text_t1 N) charset_Text_L charset_Text_body TabOk.nil [0, 0, 1, 0, 1, 1] _ rfl) (fun i v r K => by kernel_rfl)

noncomputable def charset_Text (N : Nat) (s : (List Int)) : Option (List UInt8) :=
  (charset_Count N s).bind fun y =>
  cond (decide (((0 : Int) ≤ (0 : Int)) ∧ (((0 : Int) ≤ y) ∧ (((y * (1 : Int)) ≤ (281474976710656 : Int)) ∧ (y ≤ (9223372036854775807 : Int))))))
  (charset_Text_p1 N s ([] : List Int) (0 : Int)
    (fun out => some (Go.Lift.toStr out)))
  (none)

noncomputable def charset_Text_t (N : Nat) : Tab (List UInt8) := [([0, 1, 0, 1, 1], charset_Text_h1 N)]

theorem charset_Text_link (N : Nat) (x : denS [(0, .v (.arr 4 (.int .u64)))]) : evFX (charset_Text_E N) N (charset_Text_t N) charset_Text_L Go.Proofs.Tryd.f14 (mkS [(0, .v (.arr 4 (.int .u64)))] 0 x) (kRes (.v .str) 1) = charset_Text N x.1 := by kernel_rfl

noncomputable def charset_Text_res (N : Nat) : List A → Res := resOf [(0, .v (.arr 4 (.int .u64)))] (fun x => charset_Text N x.1) (oRes (.v .str) 1)

theorem charset_Text_ct (N : Nat) : Contract Go.Proofs.Tryd.prog glob 14 (charset_Text_res N) :=
  Contract.of (E := charset_Text_E N) (H := charset_Text_t N) (L := charset_Text_L) (N := N) (body := charset_Text_body) (K := (kRes (.v .str) 1)) (charset_Text_Eok N) Go.Proofs.Tryd.func14 (by kernel_rfl) (by decide) (fun _ hb => (TabOk.cons (charset_Text_ok1 hb) TabOk.nil)) (fun x y h => by rw [charset_Text_link]; exact h) (kRes_ok (s := (.v .str)) (m := 1))

abbrev charset_with_R : Type := (List Int)

noncomputable def charset_with_body : Code := (Go.Proofs.Tryd.f18.body).getD .skip

noncomputable def charset_with_L : List (List Nat × List Nat) := [([0], [1, 2, 4]), ([0, 1], [2, 4]), ([0, 1, 1], [4]), ([1, 1, 1], [4])]

noncomputable def charset_with_E (N : Nat) : Env := mkEnv tys glob [] [] [] [] false [] []

theorem charset_with_Eok (N : Nat) : EnvOk Go.Proofs.Tryd.prog (charset_with_E N) := mkEnv_ok mixed tys_ok (FnsOk.nil) (ItsOk.nil)

noncomputable def charset_with (N : Nat) (s : (List Int)) (b : Int) : Option (List Int) :=
  cond (Go.Lift.inR (Go.IntKind.wrap Go.IntKind.u8 (Int.tdiv b (64 : Int))) 4)
  (cond (decide ((Int.toNat (Go.IntKind.wrap Go.IntKind.u8 (Int.tdiv b (64 : Int)))) < (List.length s)))
    (cond (decide ((0 : Int) ≤ (Int.tmod b (64 : Int))))
      (cond (Go.Lift.inR (Go.IntKind.wrap Go.IntKind.u8 (Int.tdiv b (64 : Int))) 4)
        (cond (decide ((Int.toNat (Go.IntKind.wrap Go.IntKind.u8 (Int.tdiv b (64 : Int)))) < (List.length s)))
          (some (List.set s (Int.toNat (Go.IntKind.wrap Go.IntKind.u8 (Int.tdiv b (64 : Int)))) (Go.Lift.bitsOp Go.BinOp.or Go.IntKind.u64 (List.getD s (Int.toNat (Go.IntKind.wrap Go.IntKind.u8 (Int.tdiv b (64 : Int)))) (0 : Int)) (Go.Lift.shlI Go.IntKind.u64 (1 : Int) (Int.tmod b (64 : Int))))))
          (none))
        (none))
      (none))
    (none))
  (none)

noncomputable def charset_with_t (N : Nat) : Tab (List Int) := []

theorem charset_with_link (N : Nat) (x : denS [(0, .v (.arr 4 (.int .u64))), (0, .v (.int .u8))]) : evFX (charset_with_E N) N (charset_with_t N) charset_with_L Go.Proofs.Tryd.f18 (mkS [(0, .v (.arr 4 (.int .u64))), (0, .v (.int .u8))] 0 x) (kRes (.v (.arr 4 (.int .u64))) 2) = charset_with N x.1 x.2.1 := by kernel_rfl

noncomputable def charset_with_res (N : Nat) : List A → Res := resOf [(0, .v (.arr 4 (.int .u64))), (0, .v (.int .u8))] (fun x => charset_with N x.1 x.2.1) (oRes (.v (.arr 4 (.int .u64))) 2)

theorem charset_with_ct (N : Nat) : Contract Go.Proofs.Tryd.prog glob 18 (charset_with_res N) :=
  Contract.of (E := charset_with_E N) (H := charset_with_t N) (L := charset_with_L) (N := N) (body := charset_with_body) (K := (kRes (.v (.arr 4 (.int .u64))) 2)) (charset_with_Eok N) Go.Proofs.Tryd.func18 (by kernel_rfl) (by decide) (fun _ hb => TabOk.nil) (fun x y h => by rw [charset_with_link]; exact h) (kRes_ok (s := (.v (.arr 4 (.int .u64)))) (m := 2))

abbrev charset_Texts_R : Type := (List Int)

noncomputable def charset_Texts_body : Code := (Go.Proofs.Tryd.f17.body).getD .skip

noncomputable def charset_Texts_L : List (List Nat × List Nat) := [([0], [0, 2]), ([0, 1], [0, 3, 2]), ([0, 0, 1, 1], [7, 6, 3, 0, 2]), ([0, 1, 0, 1, 1], [7, 6, 3, 0, 2]), ([0, 0, 0, 1, 0, 1, 1], [8, 7, 3, 0, 6, 2]), ([0, 1, 0, 0, 1, 0, 1, 1], [7, 3, 0, 6, 2]), ([1, 0, 1, 0, 0, 1, 0, 1, 1], [3, 2]), ([0, 0, 0, 1, 1, 0, 0, 1, 0, 1, 1], [3, 0, 4, 7, 6, 2]), ([1, 0, 0, 1, 1, 0, 0, 1, 0, 1, 1], [7, 6, 3, 0, 2]), ([0, 1, 1, 0, 0, 1, 0, 1, 1], [7, 6, 3, 0, 2]), ([1, 1, 1, 0, 0, 1, 0, 1, 1], [7, 6, 3, 0, 2]), ([1, 0, 1, 1], [3, 2]), ([0, 1, 1, 1], [2]), ([1, 1, 1, 1], [2])]

noncomputable def charset_Texts_E (N : Nat) : Env := mkEnv tys glob [(18, charset_with_res N)] [] [] [] false [] []

theorem charset_Texts_Eok (N : Nat) : EnvOk Go.Proofs.Tryd.prog (charset_Texts_E N) := mkEnv_ok mixed tys_ok (FnsOk.cons (charset_with_ct N) (FnsOk.nil)) (ItsOk.nil)

noncomputable def charset_Texts_s1 (N : Nat) (s : (List UInt8)) (x2 : (List Int)) (x6 : Int) (set_ : (List Int)) (x7 : Int) (rec : (List Int) → Int → Option (List Int)) (k0 : (List Int) → Option (List Int)) : Option (List Int) :=
  cond (decide (x7 < x6))
  (cond (Go.Lift.inR x7 (List.length s))
    ((charset_with N set_ (((UInt8.toNat (List.getD s (Int.toNat x7) (0 : UInt8))) : Nat) : Int)).bind fun y =>
      rec y (Go.IntKind.wrap Go.IntKind.i64 (x7 + (1 : Int))))
    (none))
  (k0 set_)

noncomputable def charset_Texts_p1 (N : Nat) (s : (List UInt8)) (x2 : (List Int)) (set_ : (List Int)) (x6 : Int) (x7 : Int) (k0 : (List Int) → Option (List Int)) : Option (List Int) :=
  iter (fun (v : ((List Int) × Int)) r => charset_Texts_s1 N s x2 x6 v.1 v.2 (fun set_ x7 => (r (set_, x7))) k0) N (set_, x7)

noncomputable def charset_Texts_g1 (N : Nat) (i : ((List UInt8) × (List Int) × Int)) (v : ((List Int) × Int)) (r : ((List Int) × Int) → Option (List Int)) (K : Ex → List A → Option (List Int)) : Option (List Int) :=
  charset_Texts_s1 N i.1 i.2.1 i.2.2 v.1 v.2 (fun set_ x7 => (r (set_, x7))) (fun a1 => (K (.exit 0) (mkS [(2, .box (.arr 4 (.int .u64))), (0, .box (.arr 4 (.int .u64)))] 13 (i.2.1, a1, ()))))

noncomputable def charset_Texts_h1 (N : Nat) : Hd (List Int) := fun st K => (unS [(0, .v .str), (1, .box (.arr 4 (.int .u64))), (0, .box (.arr 4 (.int .u64))), (2, .v (.int .i64)), (0, .v (.int .i64))] 9 (restr [7, 6, 3, 0, 2] 0 st)).bind fun x => iter (fun v r => charset_Texts_g1 N ((fun x => (x.1, x.2.1, x.2.2.2.1)) x) v r K) N ((fun x => (x.2.2.1, x.2.2.2.2.1)) x)

noncomputable def charset_Texts_t1 (N : Nat) : Tab (List Int) := []

theorem charset_Texts_ok1 {N : Nat} {c : Ctx} (hb : Base Go.Proofs.Tryd.prog (charset_Texts_E N) c) : CodeOk Go.Proofs.Tryd.prog c (nodeAt charset_Texts_body [0, 1, 0, 1, 1]) (charset_Texts_h1 N) :=
  loop_ok (s := [(0, .v .str), (1, .box (.arr 4 (.int .u64))), (0, .box (.arr 4 (.int .u64))), (2, .v (.int .i64)), (0, .v (.int .i64))]) (m := 9) (charset_Texts_g1 N) [7, 6, 3, 0, 2] N (fun x => (x.1, x.2.1, x.2.2.2.1)) (fun x => (x.2.2.1, x.2.2.2.2.1)) (fun i v => (i.1, i.2.1, v.1, i.2.2, v.2, ())) (fun _ => rfl) (evN_sound hb N (charset_Texts_t1 N) charset_Texts_L charset_Texts_body TabOk.nil [0, 0, 1, 0, 1, 1] _ rfl) (fun i v r K => by kernel_rfl)

noncomputable def charset_Texts (N : Nat) (s : (List UInt8)) : Option (List Int) :=
  charset_Texts_p1 N s ([(0 : Int), (0 : Int), (0 : Int), (0 : Int)] : List Int) ([(0 : Int), (0 : Int), (0 : Int), (0 : Int)] : List Int) (((List.length s) : Nat) : Int) (0 : Int)
  (fun set_ => some set_)

noncomputable def charset_Texts_t (N : Nat) : Tab (List Int) := [([0, 1, 0, 1, 1], charset_Texts_h1 N)]

theorem charset_Texts_link (N : Nat) (x : denS [(0, .v .str)]) : evFX (charset_Texts_E N) N (charset_Texts_t N) charset_Texts_L Go.Proofs.Tryd.f17 (mkS [(0, .v .str)] 0 x) (kRes (.v (.arr 4 (.int .u64))) 1) = charset_Texts N x.1 := by kernel_rfl

noncomputable def charset_Texts_res (N : Nat) : List A → Res := resOf [(0, .v .str)] (fun x => charset_Texts N x.1) (oRes (.v (.arr 4 (.int .u64))) 1)

theorem charset_Texts_ct (N : Nat) : Contract Go.Proofs.Tryd.prog glob 17 (charset_Texts_res N) :=
  Contract.of (E := charset_Texts_E N) (H := charset_Texts_t N) (L := charset_Texts_L) (N := N) (body := charset_Texts_body) (K := (kRes (.v (.arr 4 (.int .u64))) 1)) (charset_Texts_Eok N) Go.Proofs.Tryd.func17 (by kernel_rfl) (by decide) (fun _ hb => (TabOk.cons (charset_Texts_ok1 hb) TabOk.nil)) (fun x y h => by rw [charset_Texts_link]; exact h) (kRes_ok (s := (.v (.arr 4 (.int .u64)))) (m := 1))

abbrev charset_Of_R : Type := (List Int)

noncomputable def charset_Of_body : Code := (Go.Proofs.Tryd.f10.body).getD .skip

noncomputable def charset_Of_L : List (List Nat × List Nat) := [([0], [0, 1, 4]), ([0, 1], [0, 1, 5, 4]), ([0, 0, 1, 1], [6, 1, 5, 4]), ([0, 1, 0, 1, 1], [6, 1, 5, 4]), ([0, 0, 0, 0, 1, 0, 1, 1], [12, 5, 6, 1, 4]), ([1, 0, 0, 0, 1, 0, 1, 1], [5, 6, 1, 4]), ([1, 1, 0, 0, 0, 1, 0, 1, 1], [5, 4]), ([0, 0, 1, 0, 0, 1, 0, 1, 1], [6, 1, 5, 4]), ([0, 1, 0, 0, 1, 0, 1, 1], [6, 1, 5, 4]), ([1, 1, 0, 0, 1, 0, 1, 1], [6, 1, 5, 4]), ([1, 0, 1, 1], [5, 4]), ([0, 1, 1, 1], [4]), ([1, 1, 1, 1], [4])]

noncomputable def charset_Of_E (N : Nat) : Env := mkEnv tys glob [(18, charset_with_res N)] [] [] [] false [] []

theorem charset_Of_Eok (N : Nat) : EnvOk Go.Proofs.Tryd.prog (charset_Of_E N) := mkEnv_ok mixed tys_ok (FnsOk.cons (charset_with_ct N) (FnsOk.nil)) (ItsOk.nil)

noncomputable def charset_Of_s1 (N : Nat) (hi : Int) (x4 : (List Int)) (s : (List Int)) (b : Int) (rec : (List Int) → Int → Option (List Int)) (k0 : (List Int) → Option (List Int)) : Option (List Int) :=
  cond (decide (b ≤ (Go.IntKind.wrap Go.IntKind.i64 hi)))
  ((charset_with N s (Go.IntKind.wrap Go.IntKind.u8 b)).bind fun y =>
    rec y (Go.IntKind.wrap Go.IntKind.i64 (b + (1 : Int))))
  (k0 s)

noncomputable def charset_Of_p1 (N : Nat) (hi : Int) (x4 : (List Int)) (s : (List Int)) (b : Int) (k0 : (List Int) → Option (List Int)) : Option (List Int) :=
  iter (fun (v : ((List Int) × Int)) r => charset_Of_s1 N hi x4 v.1 v.2 (fun s b => (r (s, b))) k0) N (s, b)

noncomputable def charset_Of_g1 (N : Nat) (i : (Int × (List Int))) (v : ((List Int) × Int)) (r : ((List Int) × Int) → Option (List Int)) (K : Ex → List A → Option (List Int)) : Option (List Int) :=
  charset_Of_s1 N i.1 i.2 v.1 v.2 (fun s b => (r (s, b))) (fun a1 => (K (.exit 0) (mkS [(4, .box (.arr 4 (.int .u64))), (0, .box (.arr 4 (.int .u64)))] 14 (i.2, a1, ()))))

noncomputable def charset_Of_h1 (N : Nat) : Hd (List Int) := fun st K => (unS [(1, .v (.int .u8)), (2, .box (.arr 4 (.int .u64))), (0, .box (.arr 4 (.int .u64))), (0, .v (.int .i64))] 13 (restr [6, 1, 5, 4] 0 st)).bind fun x => iter (fun v r => charset_Of_g1 N ((fun x => (x.1, x.2.1)) x) v r K) N ((fun x => (x.2.2.1, x.2.2.2.1)) x)

noncomputable def charset_Of_t1 (N : Nat) : Tab (List Int) := []

theorem charset_Of_ok1 {N : Nat} {c : Ctx} (hb : Base Go.Proofs.Tryd.prog (charset_Of_E N) c) : CodeOk Go.Proofs.Tryd.prog c (nodeAt charset_Of_body [0, 1, 0, 1, 1]) (charset_Of_h1 N) :=
  loop_ok (s := [(1, .v (.int .u8)), (2, .box (.arr 4 (.int .u64))), (0, .box (.arr 4 (.int .u64))), (0, .v (.int .i64))]) (m := 13) (charset_Of_g1 N) [6, 1, 5, 4] N (fun x => (x.1, x.2.1)) (fun x => (x.2.2.1, x.2.2.2.1)) (fun i v => (i.1, i.2, v.1, v.2, ())) (fun _ => rfl) (evN_sound hb N (charset_Of_t1 N) charset_Of_L charset_Of_body TabOk.nil [0, 0, 1, 0, 1, 1] _ rfl) (fun i v r K => by kernel_rfl)

noncomputable def charset_Of (N : Nat) (lo : Int) (hi : Int) : Option (List Int) :=
  charset_Of_p1 N hi ([(0 : Int), (0 : Int), (0 : Int), (0 : Int)] : List Int) ([(0 : Int), (0 : Int), (0 : Int), (0 : Int)] : List Int) (Go.IntKind.wrap Go.IntKind.i64 lo)
  (fun s => some s)

noncomputable def charset_Of_t (N : Nat) : Tab (List Int) := [([0, 1, 0, 1, 1], charset_Of_h1 N)]

theorem charset_Of_link (N : Nat) (x : denS [(0, .v (.int .u8)), (0, .v (.int .u8))]) : evFX (charset_Of_E N) N (charset_Of_t N) charset_Of_L Go.Proofs.Tryd.f10 (mkS [(0, .v (.int .u8)), (0, .v (.int .u8))] 0 x) (kRes (.v (.arr 4 (.int .u64))) 2) = charset_Of N x.1 x.2.1 := by kernel_rfl

noncomputable def charset_Of_res (N : Nat) : List A → Res := resOf [(0, .v (.int .u8)), (0, .v (.int .u8))] (fun x => charset_Of N x.1 x.2.1) (oRes (.v (.arr 4 (.int .u64))) 2)

theorem charset_Of_ct (N : Nat) : Contract Go.Proofs.Tryd.prog glob 10 (charset_Of_res N) :=
  Contract.of (E := charset_Of_E N) (H := charset_Of_t N) (L := charset_Of_L) (N := N) (body := charset_Of_body) (K := (kRes (.v (.arr 4 (.int .u64))) 2)) (charset_Of_Eok N) Go.Proofs.Tryd.func10 (by kernel_rfl) (by decide) (fun _ hb => (TabOk.cons (charset_Of_ok1 hb) TabOk.nil)) (fun x y h => by rw [charset_Of_link]; exact h) (kRes_ok (s := (.v (.arr 4 (.int .u64)))) (m := 2))

abbrev math_bits_TrailingZeros64_R : Type := Int

noncomputable def math_bits_TrailingZeros64_body : Code := (Go.Proofs.Tryd.f20.body).getD .skip

noncomputable def math_bits_TrailingZeros64_L : List (List Nat × List Nat) := [([0], [0]), ([0, 0, 1], [4, 0]), ([1, 0, 1], [0]), ([0, 0, 1, 0, 1], [2]), ([1, 0, 1, 0, 1], [2]), ([0, 1, 1], [2]), ([1, 1, 1], [2])]

noncomputable def math_bits_TrailingZeros64_E (N : Nat) : Env := mkEnv tys glob [] [] [] [] false [] []

theorem math_bits_TrailingZeros64_Eok (N : Nat) : EnvOk Go.Proofs.Tryd.prog (math_bits_TrailingZeros64_E N) := mkEnv_ok mixed tys_ok (FnsOk.nil) (ItsOk.nil)

noncomputable def math_bits_TrailingZeros64 (N : Nat) (x0 : Int) : Option Int :=
  cond (x0 == (0 : Int))
  (some (64 : Int))
  (cond (Go.Lift.inR (Go.Lift.shrI Go.IntKind.u64 (Go.IntKind.wrap Go.IntKind.u64 ((285870213051353865 : Int) * (Go.Lift.bitsOp Go.BinOp.and Go.IntKind.u64 x0 (Go.IntKind.wrap Go.IntKind.u64 ((0 : Int) - x0))))) (58 : Int)) 64)
    (some (Go.IntKind.wrap Go.IntKind.i64 (List.getD glob0 (Int.toNat (Go.Lift.shrI Go.IntKind.u64 (Go.IntKind.wrap Go.IntKind.u64 ((285870213051353865 : Int) * (Go.Lift.bitsOp Go.BinOp.and Go.IntKind.u64 x0 (Go.IntKind.wrap Go.IntKind.u64 ((0 : Int) - x0))))) (58 : Int))) (0 : Int))))
    (none))

noncomputable def math_bits_TrailingZeros64_t (N : Nat) : Tab Int := []

theorem math_bits_TrailingZeros64_link (N : Nat) (x : denS [(0, .v (.int .u64))]) : evFX (math_bits_TrailingZeros64_E N) N (math_bits_TrailingZeros64_t N) math_bits_TrailingZeros64_L Go.Proofs.Tryd.f20 (mkS [(0, .v (.int .u64))] 0 x) (kRes (.v (.int .i64)) 1) = math_bits_TrailingZeros64 N x.1 := by kernel_rfl

noncomputable def math_bits_TrailingZeros64_res (N : Nat) : List A → Res := resOf [(0, .v (.int .u64))] (fun x => math_bits_TrailingZeros64 N x.1) (oRes (.v (.int .i64)) 1)

theorem math_bits_TrailingZeros64_ct (N : Nat) : Contract Go.Proofs.Tryd.prog glob 20 (math_bits_TrailingZeros64_res N) :=
  Contract.of (E := math_bits_TrailingZeros64_E N) (H := math_bits_TrailingZeros64_t N) (L := math_bits_TrailingZeros64_L) (N := N) (body := math_bits_TrailingZeros64_body) (K := (kRes (.v (.int .i64)) 1)) (math_bits_TrailingZeros64_Eok N) Go.Proofs.Tryd.func20 (by kernel_rfl) (by decide) (fun _ hb => TabOk.nil) (fun x y h => by rw [math_bits_TrailingZeros64_link]; exact h) (kRes_ok (s := (.v (.int .i64))) (m := 1))

abbrev charset_First_R : Type := Int

noncomputable def charset_First_body : Code := (Go.Proofs.Tryd.f16.body).getD .skip

noncomputable def charset_First_L : List (List Nat × List Nat) := [([0], [1]), ([0, 0, 1], [6, 1]), ([1, 0, 1], [1]), ([0, 0, 1, 0, 1], [2]), ([1, 0, 1, 0, 1], [2]), ([0, 1, 1], [3, 1]), ([0, 0, 1, 1, 1], [3, 1]), ([0, 0, 0, 0, 0, 1, 1, 1], [10, 3, 1]), ([1, 0, 0, 0, 0, 1, 1, 1], [3, 1]), ([1, 1, 0, 0, 0, 0, 1, 1, 1], [3, 1]), ([0, 1, 0, 0, 0, 1, 1, 1], [3, 1]), ([1, 0, 0, 0, 1, 1, 1], [3, 1]), ([0, 1, 1, 1], [3, 1]), ([0, 1, 1, 1, 1], [2]), ([1, 1, 1, 1, 1], [2])]

noncomputable def charset_First_E (N : Nat) : Env := mkEnv tys glob [(20, math_bits_TrailingZeros64_res N)] [] [] [] false [] []

theorem charset_First_Eok (N : Nat) : EnvOk Go.Proofs.Tryd.prog (charset_First_E N) := mkEnv_ok mixed tys_ok (FnsOk.cons (math_bits_TrailingZeros64_ct N) (FnsOk.nil)) (ItsOk.nil)

noncomputable def charset_First_s1 (N : Nat) (s : (List Int)) (i : Int) (rec : Int → Option Int) (k0 : Int → Option Int) : Option Int :=
  cond (Go.Lift.inR i 4)
  (cond (decide ((Int.toNat i) < (List.length s)))
    (cond ((List.getD s (Int.toNat i) (0 : Int)) == (0 : Int))
      (rec (Go.IntKind.wrap Go.IntKind.i64 (i + (1 : Int))))
      (k0 i))
    (none))
  (none)

noncomputable def charset_First_p1 (N : Nat) (s : (List Int)) (i : Int) (k0 : Int → Option Int) : Option Int :=
  iter (fun (v : Int) r => charset_First_s1 N s v (fun i => (r i)) k0) N i

noncomputable def charset_First_g1 (N : Nat) (i : (List Int)) (v : Int) (r : Int → Option Int) (K : Ex → List A → Option Int) : Option Int :=
  charset_First_s1 N i v (fun i => (r i)) (fun a1 => (K (.exit 0) (mkS [(1, .box (.arr 4 (.int .u64))), (1, .v (.int .i64))] 16 (i, a1, ()))))

noncomputable def charset_First_h1 (N : Nat) : Hd Int := fun st K => (unS [(1, .box (.arr 4 (.int .u64))), (1, .v (.int .i64))] 16 (restr [3, 1] 0 st)).bind fun x => iter (fun v r => charset_First_g1 N ((fun x => x.1) x) v r K) N ((fun x => x.2.1) x)

noncomputable def charset_First_t1 (N : Nat) : Tab Int := []

theorem charset_First_ok1 {N : Nat} {c : Ctx} (hb : Base Go.Proofs.Tryd.prog (charset_First_E N) c) : CodeOk Go.Proofs.Tryd.prog c (nodeAt charset_First_body [0, 0, 1, 1, 1]) (charset_First_h1 N) :=
  loop_ok (s := [(1, .box (.arr 4 (.int .u64))), (1, .v (.int .i64))]) (m := 16) (charset_First_g1 N) [3, 1] N (fun x => x.1) (fun x => x.2.1) (fun i v => (i, v, ())) (fun _ => rfl) (evN_sound hb N (charset_First_t1 N) charset_First_L charset_First_body TabOk.nil [0, 0, 0, 1, 1, 1] _ rfl) (fun i v r K => by kernel_rfl)

noncomputable def charset_First (N : Nat) (s : (List Int)) : Option Int :=
  cond (Go.Lift.eqD (Go.Lift.T.arr 4 (Go.Lift.T.int Go.IntKind.u64)) s ([(0 : Int), (0 : Int), (0 : Int), (0 : Int)] : List Int))
  (some (-(1 : Int)))
  (charset_First_p1 N s (0 : Int)
    (fun i => cond (Go.Lift.inR i 4)
      (cond (decide ((Int.toNat i) < (List.length s)))
        ((math_bits_TrailingZeros64 N (List.getD s (Int.toNat i) (0 : Int))).bind fun y =>
          some (Go.IntKind.wrap Go.IntKind.i64 ((Go.IntKind.wrap Go.IntKind.i64 (i * (64 : Int))) + y)))
        (none))
      (none)))

noncomputable def charset_First_t (N : Nat) : Tab Int := [([0, 0, 1, 1, 1], charset_First_h1 N)]

theorem charset_First_link (N : Nat) (x : denS [(0, .v (.arr 4 (.int .u64)))]) : evFX (charset_First_E N) N (charset_First_t N) charset_First_L Go.Proofs.Tryd.f16 (mkS [(0, .v (.arr 4 (.int .u64)))] 0 x) (kRes (.v (.int .i64)) 1) = charset_First N x.1 := by kernel_rfl

noncomputable def charset_First_res (N : Nat) : List A → Res := resOf [(0, .v (.arr 4 (.int .u64)))] (fun x => charset_First N x.1) (oRes (.v (.int .i64)) 1)

theorem charset_First_ct (N : Nat) : Contract Go.Proofs.Tryd.prog glob 16 (charset_First_res N) :=
  Contract.of (E := charset_First_E N) (H := charset_First_t N) (L := charset_First_L) (N := N) (body := charset_First_body) (K := (kRes (.v (.int .i64)) 1)) (charset_First_Eok N) Go.Proofs.Tryd.func16 (by kernel_rfl) (by decide) (fun _ hb => (TabOk.cons (charset_First_ok1 hb) TabOk.nil)) (fun x y h => by rw [charset_First_link]; exact h) (kRes_ok (s := (.v (.int .i64))) (m := 1))

abbrev porterlaw12_works_R : Type := Bool

noncomputable def porterlaw12_works_body : Code := (Go.Proofs.Tryd.f13.body).getD .skip

noncomputable def porterlaw12_works_L : List (List Nat × List Nat) := [([0], []), ([0, 1], [1]), ([0, 1, 1], [0]), ([1, 1, 1], [0])]

noncomputable def porterlaw12_works_E (N : Nat) : Env := mkEnv tys glob [(16, charset_First_res N), (10, charset_Of_res N), (17, charset_Texts_res N), (14, charset_Text_res N), (12, charset_Has_res N), (15, charset_Count_res N), (9, charset_Not_res N)] [] [] [] false [] []

theorem porterlaw12_works_Eok (N : Nat) : EnvOk Go.Proofs.Tryd.prog (porterlaw12_works_E N) := mkEnv_ok mixed tys_ok (FnsOk.cons (charset_First_ct N) (FnsOk.cons (charset_Of_ct N) (FnsOk.cons (charset_Texts_ct N) (FnsOk.cons (charset_Text_ct N) (FnsOk.cons (charset_Has_ct N) (FnsOk.cons (charset_Count_ct N) (FnsOk.cons (charset_Not_ct N) (FnsOk.nil)))))))) (ItsOk.nil)

noncomputable def porterlaw12_works (N : Nat) : Option Bool :=
  (charset_Of N (97 : Int) (99 : Int)).bind fun y =>
  (charset_Text N y).bind fun y1 =>
  cond (y1 == ([(97 : UInt8), (98 : UInt8), (99 : UInt8)] : List UInt8))
  ((charset_Not N y).bind fun y2 =>
    (charset_Count N y2).bind fun y3 =>
    cond (y3 == (253 : Int))
    ((charset_First N y).bind fun y4 =>
      cond (y4 == (97 : Int))
      ((charset_Has N y (98 : Int)).bind fun y5 =>
        cond y5
        ((charset_Texts N ([(99 : UInt8), (97 : UInt8), (98 : UInt8)] : List UInt8)).bind fun y6 =>
          cond (Go.Lift.eqD (Go.Lift.T.arr 4 (Go.Lift.T.int Go.IntKind.u64)) y6 y)
          (some ((-(1 : Int)) == (-(1 : Int))))
          (some false))
        (some false))
      (some false))
    (some false))
  (some false)

noncomputable def porterlaw12_works_t (N : Nat) : Tab Bool := []

theorem porterlaw12_works_link (N : Nat) (x : denS []) : evFX (porterlaw12_works_E N) N (porterlaw12_works_t N) porterlaw12_works_L Go.Proofs.Tryd.f13 (mkS [] 0 x) (kRes (.v .bool) 0) = porterlaw12_works N := by kernel_rfl

noncomputable def porterlaw12_works_res (N : Nat) : List A → Res := resOf [] (fun x => porterlaw12_works N) (oRes (.v .bool) 0)

theorem porterlaw12_works_ct (N : Nat) : Contract Go.Proofs.Tryd.prog glob 13 (porterlaw12_works_res N) :=
  Contract.of (E := porterlaw12_works_E N) (H := porterlaw12_works_t N) (L := porterlaw12_works_L) (N := N) (body := porterlaw12_works_body) (K := (kRes (.v .bool) 0)) (porterlaw12_works_Eok N) Go.Proofs.Tryd.func13 (by kernel_rfl) (by decide) (fun _ hb => TabOk.nil) (fun x y h => by rw [porterlaw12_works_link]; exact h) (kRes_ok (s := (.v .bool)) (m := 0))

abbrev porterlaw12_CharsetTurns_R : Type := Bool

noncomputable def porterlaw12_CharsetTurns_body : Code := (Go.Proofs.Tryd.f5.body).getD .skip

noncomputable def porterlaw12_CharsetTurns_L : List (List Nat × List Nat) := [([0], [2, 3]), ([0, 1], [2, 3, 5, 6]), ([0, 1, 1], [4]), ([1, 1, 1], [4])]

noncomputable def porterlaw12_CharsetTurns_E (N : Nat) : Env := mkEnv tys glob [(13, porterlaw12_works_res N), (17, charset_Texts_res N), (14, charset_Text_res N), (15, charset_Count_res N), (6, charset_Or_res N), (8, charset_Less_res N), (9, charset_Not_res N), (7, charset_And_res N)] [] [] [] false [] []

theorem porterlaw12_CharsetTurns_Eok (N : Nat) : EnvOk Go.Proofs.Tryd.prog (porterlaw12_CharsetTurns_E N) := mkEnv_ok mixed tys_ok (FnsOk.cons (porterlaw12_works_ct N) (FnsOk.cons (charset_Texts_ct N) (FnsOk.cons (charset_Text_ct N) (FnsOk.cons (charset_Count_ct N) (FnsOk.cons (charset_Or_ct N) (FnsOk.cons (charset_Less_ct N) (FnsOk.cons (charset_Not_ct N) (FnsOk.cons (charset_And_ct N) (FnsOk.nil))))))))) (ItsOk.nil)

noncomputable def porterlaw12_CharsetTurns (N : Nat) (s : (List Int)) (t : (List Int)) : Option Bool :=
  (charset_And N s t).bind fun y =>
  (charset_Less N s t).bind fun y1 =>
  (charset_Not N s).bind fun y2 =>
  (charset_Not N y2).bind fun y3 =>
  cond (Go.Lift.eqD (Go.Lift.T.arr 4 (Go.Lift.T.int Go.IntKind.u64)) y3 s)
  ((charset_Or N s t).bind fun y4 =>
    (charset_Not N y4).bind fun y5 =>
    (charset_Not N s).bind fun y6 =>
    (charset_Not N t).bind fun y7 =>
    (charset_And N y6 y7).bind fun y8 =>
    cond (Go.Lift.eqD (Go.Lift.T.arr 4 (Go.Lift.T.int Go.IntKind.u64)) y5 y8)
    ((charset_Or N y y1).bind fun y9 =>
      cond (Go.Lift.eqD (Go.Lift.T.arr 4 (Go.Lift.T.int Go.IntKind.u64)) y9 s)
      ((charset_Count N y).bind fun y10 =>
        (charset_Count N y1).bind fun y11 =>
        (charset_Count N s).bind fun y12 =>
        cond ((Go.IntKind.wrap Go.IntKind.i64 (y10 + y11)) == y12)
        ((charset_Or N s t).bind fun y13 =>
          (charset_Or N t s).bind fun y14 =>
          cond (Go.Lift.eqD (Go.Lift.T.arr 4 (Go.Lift.T.int Go.IntKind.u64)) y13 y14)
          ((charset_Text N s).bind fun y15 =>
            (charset_Texts N y15).bind fun y16 =>
            cond (Go.Lift.eqD (Go.Lift.T.arr 4 (Go.Lift.T.int Go.IntKind.u64)) y16 s)
            ((porterlaw12_works N).bind fun y17 =>
              some y17)
            (some false))
          (some false))
        (some false))
      (some false))
    (some false))
  (some false)

noncomputable def porterlaw12_CharsetTurns_t (N : Nat) : Tab Bool := []

theorem porterlaw12_CharsetTurns_link (N : Nat) (x : denS [(0, .v (.arr 4 (.int .u64))), (0, .v (.arr 4 (.int .u64)))]) : evFX (porterlaw12_CharsetTurns_E N) N (porterlaw12_CharsetTurns_t N) porterlaw12_CharsetTurns_L Go.Proofs.Tryd.f5 (mkS [(0, .v (.arr 4 (.int .u64))), (0, .v (.arr 4 (.int .u64)))] 0 x) (kRes (.v .bool) 2) = porterlaw12_CharsetTurns N x.1 x.2.1 := by kernel_rfl

noncomputable def porterlaw12_CharsetTurns_res (N : Nat) : List A → Res := resOf [(0, .v (.arr 4 (.int .u64))), (0, .v (.arr 4 (.int .u64)))] (fun x => porterlaw12_CharsetTurns N x.1 x.2.1) (oRes (.v .bool) 2)

theorem porterlaw12_CharsetTurns_ct (N : Nat) : Contract Go.Proofs.Tryd.prog glob 5 (porterlaw12_CharsetTurns_res N) :=
  Contract.of (E := porterlaw12_CharsetTurns_E N) (H := porterlaw12_CharsetTurns_t N) (L := porterlaw12_CharsetTurns_L) (N := N) (body := porterlaw12_CharsetTurns_body) (K := (kRes (.v .bool) 2)) (porterlaw12_CharsetTurns_Eok N) Go.Proofs.Tryd.func5 (by kernel_rfl) (by decide) (fun _ hb => TabOk.nil) (fun x y h => by rw [porterlaw12_CharsetTurns_link]; exact h) (kRes_ok (s := (.v .bool)) (m := 2))

abbrev porterref12_Has_R : Type := Bool

noncomputable def porterref12_Has_body : Code := (Go.Proofs.Tryd.f11.body).getD .skip

noncomputable def porterref12_Has_L : List (List Nat × List Nat) := [([0], [1, 2]), ([0, 1], [1, 5]), ([0, 0, 1, 1], [6, 1, 5]), ([0, 1, 0, 1, 1], [6, 1, 5]), ([0, 0, 0, 0, 1, 0, 1, 1], [14, 5, 6, 1]), ([1, 0, 0, 0, 1, 0, 1, 1], [5, 6, 1]), ([1, 1, 0, 0, 0, 1, 0, 1, 1], [5]), ([0, 0, 1, 0, 0, 1, 0, 1, 1], [6, 1, 5]), ([0, 1, 0, 0, 1, 0, 1, 1], [6, 1, 5]), ([1, 1, 0, 0, 1, 0, 1, 1], [6, 1, 5]), ([1, 0, 1, 1], [5]), ([0, 1, 1, 1], [4]), ([1, 1, 1, 1], [4])]

noncomputable def porterref12_Has_E (N : Nat) : Env := mkEnv tys glob [] [] [] [] false [] []

theorem porterref12_Has_Eok (N : Nat) : EnvOk Go.Proofs.Tryd.prog (porterref12_Has_E N) := mkEnv_ok mixed tys_ok (FnsOk.nil) (ItsOk.nil)

noncomputable def porterref12_Has_s1 (N : Nat) (b : Int) (w : Int) (i : Int) (rec : Int → Int → Option Bool) (k0 : Int → Option Bool) : Option Bool :=
  cond (decide (i < (Int.tmod b (64 : Int))))
  (rec (Go.IntKind.wrap Go.IntKind.u64 (Int.tdiv w (2 : Int))) (Go.IntKind.wrap Go.IntKind.i64 (i + (1 : Int))))
  (k0 w)

noncomputable def porterref12_Has_p1 (N : Nat) (b : Int) (w : Int) (i : Int) (k0 : Int → Option Bool) : Option Bool :=
  iter (fun (v : (Int × Int)) r => porterref12_Has_s1 N b v.1 v.2 (fun w i => (r (w, i))) k0) N (w, i)

noncomputable def porterref12_Has_g1 (N : Nat) (i : Int) (v : (Int × Int)) (r : (Int × Int) → Option Bool) (K : Ex → List A → Option Bool) : Option Bool :=
  porterref12_Has_s1 N i v.1 v.2 (fun w i => (r (w, i))) (fun a0 => (K (.exit 0) (mkS [(5, .v (.int .u64))] 16 (a0, ()))))

noncomputable def porterref12_Has_h1 (N : Nat) : Hd Bool := fun st K => (unS [(1, .v (.int .i64)), (3, .v (.int .u64)), (0, .v (.int .i64))] 15 (restr [6, 1, 5] 0 st)).bind fun x => iter (fun v r => porterref12_Has_g1 N ((fun x => x.1) x) v r K) N ((fun x => (x.2.1, x.2.2.1)) x)

noncomputable def porterref12_Has_t1 (N : Nat) : Tab Bool := []

theorem porterref12_Has_ok1 {N : Nat} {c : Ctx} (hb : Base Go.Proofs.Tryd.prog (porterref12_Has_E N) c) : CodeOk Go.Proofs.Tryd.prog c (nodeAt porterref12_Has_body [0, 1, 0, 1, 1]) (porterref12_Has_h1 N) :=
  loop_ok (s := [(1, .v (.int .i64)), (3, .v (.int .u64)), (0, .v (.int .i64))]) (m := 15) (porterref12_Has_g1 N) [6, 1, 5] N (fun x => x.1) (fun x => (x.2.1, x.2.2.1)) (fun i v => (i, v.1, v.2, ())) (fun _ => rfl) (evN_sound hb N (porterref12_Has_t1 N) porterref12_Has_L porterref12_Has_body TabOk.nil [0, 0, 1, 0, 1, 1] _ rfl) (fun i v r K => by kernel_rfl)

noncomputable def porterref12_Has (N : Nat) (s : (List Int)) (b : Int) : Option Bool :=
  cond (Go.Lift.inR (Go.IntKind.wrap Go.IntKind.i64 (Int.tdiv b (64 : Int))) 4)
  (cond (decide ((Int.toNat (Go.IntKind.wrap Go.IntKind.i64 (Int.tdiv b (64 : Int)))) < (List.length s)))
    (porterref12_Has_p1 N b (List.getD s (Int.toNat (Go.IntKind.wrap Go.IntKind.i64 (Int.tdiv b (64 : Int)))) (0 : Int)) (0 : Int)
      (fun w => some ((Int.tmod w (2 : Int)) == (1 : Int))))
    (none))
  (none)

noncomputable def porterref12_Has_t (N : Nat) : Tab Bool := [([0, 1, 0, 1, 1], porterref12_Has_h1 N)]

theorem porterref12_Has_link (N : Nat) (x : denS [(0, .v (.arr 4 (.int .u64))), (0, .v (.int .i64))]) : evFX (porterref12_Has_E N) N (porterref12_Has_t N) porterref12_Has_L Go.Proofs.Tryd.f11 (mkS [(0, .v (.arr 4 (.int .u64))), (0, .v (.int .i64))] 0 x) (kRes (.v .bool) 2) = porterref12_Has N x.1 x.2.1 := by kernel_rfl

noncomputable def porterref12_Has_res (N : Nat) : List A → Res := resOf [(0, .v (.arr 4 (.int .u64))), (0, .v (.int .i64))] (fun x => porterref12_Has N x.1 x.2.1) (oRes (.v .bool) 2)

theorem porterref12_Has_ct (N : Nat) : Contract Go.Proofs.Tryd.prog glob 11 (porterref12_Has_res N) :=
  Contract.of (E := porterref12_Has_E N) (H := porterref12_Has_t N) (L := porterref12_Has_L) (N := N) (body := porterref12_Has_body) (K := (kRes (.v .bool) 2)) (porterref12_Has_Eok N) Go.Proofs.Tryd.func11 (by kernel_rfl) (by decide) (fun _ hb => (TabOk.cons (porterref12_Has_ok1 hb) TabOk.nil)) (fun x y h => by rw [porterref12_Has_link]; exact h) (kRes_ok (s := (.v .bool)) (m := 2))

abbrev porterlaw12_CharsetLooks_R : Type := Bool

noncomputable def porterlaw12_CharsetLooks_body : Code := (Go.Proofs.Tryd.f4.body).getD .skip

noncomputable def porterlaw12_CharsetLooks_L : List (List Nat × List Nat) := [([0], [1, 2]), ([0, 0, 1], [16, 2, 1]), ([1, 0, 1], [2, 1]), ([0, 0, 1, 0, 1], [4]), ([1, 0, 1, 0, 1], [4]), ([0, 1, 1], [2, 5, 1]), ([0, 1, 1, 1], [2, 6, 5, 1]), ([0, 1, 1, 1, 1], [2, 6, 5, 7, 1]), ([0, 0, 1, 1, 1, 1, 1], [8, 2, 6, 5, 7, 1]), ([0, 1, 0, 1, 1, 1, 1, 1], [8, 2, 6, 5, 7, 1]), ([0, 0, 0, 0, 1, 0, 1, 1, 1, 1, 1], [21, 2, 8, 6, 5, 1, 7]), ([1, 0, 0, 0, 1, 0, 1, 1, 1, 1, 1], [2, 8, 6, 5, 1, 7]), ([1, 1, 0, 0, 0, 1, 0, 1, 1, 1, 1, 1], [5, 6, 2, 7, 1]), ([0, 0, 0, 1, 0, 0, 1, 0, 1, 1, 1, 1, 1], [26, 6, 8, 2, 5, 1, 7]), ([1, 0, 0, 1, 0, 0, 1, 0, 1, 1, 1, 1, 1], [8, 2, 6, 5, 7, 1]), ([0, 0, 1, 0, 0, 1, 0, 0, 1, 0, 1, 1, 1, 1, 1], [8, 2, 6, 5, 1]), ([1, 0, 1, 0, 0, 1, 0, 0, 1, 0, 1, 1, 1, 1, 1], [8, 2, 6, 5, 7, 1]), ([0, 1, 0, 0, 1, 0, 1, 1, 1, 1, 1], [8, 2, 6, 5, 7, 1]), ([1, 1, 0, 0, 1, 0, 1, 1, 1, 1, 1], [8, 2, 6, 5, 7, 1]), ([1, 0, 1, 1, 1, 1, 1], [5, 6, 2, 7, 1]), ([0, 0, 1, 1, 1, 1, 1, 1], [45, 5, 2, 1]), ([1, 0, 1, 1, 1, 1, 1, 1], [5, 2, 1]), ([0, 0, 1, 0, 1, 1, 1, 1, 1, 1], [4]), ([1, 0, 1, 0, 1, 1, 1, 1, 1, 1], [4]), ([0, 0, 1, 1, 1, 1, 1, 1, 1], [9, 5, 2, 1]), ([0, 1, 0, 1, 1, 1, 1, 1, 1, 1], [9, 5, 2, 1]), ([0, 0, 0, 0, 1, 0, 1, 1, 1, 1, 1, 1, 1], [49, 2, 5, 9, 1]), ([1, 0, 0, 0, 1, 0, 1, 1, 1, 1, 1, 1, 1], [2, 5, 9, 1]), ([1, 1, 0, 0, 0, 1, 0, 1, 1, 1, 1, 1, 1, 1], [1]), ([0, 0, 0, 1, 0, 0, 1, 0, 1, 1, 1, 1, 1, 1, 1], [72, 9, 5, 2, 1]), ([1, 0, 0, 1, 0, 0, 1, 0, 1, 1, 1, 1, 1, 1, 1], [9, 5, 2, 1]), ([0, 0, 1, 0, 0, 1, 0, 0, 1, 0, 1, 1, 1, 1, 1, 1, 1], [4]), ([1, 0, 1, 0, 0, 1, 0, 0, 1, 0, 1, 1, 1, 1, 1, 1, 1], [4]), ([0, 1, 0, 0, 1, 0, 1, 1, 1, 1, 1, 1, 1], [9, 5, 2, 1]), ([1, 1, 0, 0, 1, 0, 1, 1, 1, 1, 1, 1, 1], [9, 5, 2, 1]), ([1, 0, 1, 1, 1, 1, 1, 1, 1], [1]), ([0, 1, 1, 1, 1, 1, 1, 1, 1], [1, 10]), ([0, 0, 1, 1, 1, 1, 1, 1, 1, 1, 1], [11, 1, 10]), ([0, 1, 0, 1, 1, 1, 1, 1, 1, 1, 1, 1], [11, 1, 10]), ([0, 0, 0, 0, 1, 0, 1, 1, 1, 1, 1, 1, 1, 1, 1], [76, 1, 11, 10]), ([1, 0, 0, 0, 1, 0, 1, 1, 1, 1, 1, 1, 1, 1, 1], [1, 11, 10]), ([1, 1, 0, 0, 0, 1, 0, 1, 1, 1, 1, 1, 1, 1, 1, 1], []), ([0, 0, 0, 1, 0, 0, 1, 0, 1, 1, 1, 1, 1, 1, 1, 1, 1], [1, 12, 11, 10]), ([0, 0, 1, 0, 0, 1, 0, 0, 1, 0, 1, 1, 1, 1, 1, 1, 1, 1, 1], [13, 1, 12, 11, 10]), ([0, 1, 0, 1, 0, 0, 1, 0, 0, 1, 0, 1, 1, 1, 1, 1, 1, 1, 1, 1], [13, 1, 12, 11, 10]), ([0, 0, 0, 0, 1, 0, 1, 0, 0, 1, 0, 0, 1, 0, 1, 1, 1, 1, 1, 1, 1, 1, 1], [82, 12, 1, 13, 11, 10]), ([1, 0, 0, 0, 1, 0, 1, 0, 0, 1, 0, 0, 1, 0, 1, 1, 1, 1, 1, 1, 1, 1, 1], [12, 1, 13, 11, 10]), ([1, 1, 0, 0, 0, 1, 0, 1, 0, 0, 1, 0, 0, 1, 0, 1, 1, 1, 1, 1, 1, 1, 1, 1], [10, 11, 12, 1]), ([0, 0, 1, 0, 0, 1, 0, 1, 0, 0, 1, 0, 0, 1, 0, 1, 1, 1, 1, 1, 1, 1, 1, 1], [13, 1, 12, 11, 10]), ([0, 1, 0, 0, 1, 0, 1, 0, 0, 1, 0, 0, 1, 0, 1, 1, 1, 1, 1, 1, 1, 1, 1], [13, 1, 12, 11, 10]), ([1, 1, 0, 0, 1, 0, 1, 0, 0, 1, 0, 0, 1, 0, 1, 1, 1, 1, 1, 1, 1, 1, 1], [13, 1, 12, 11, 10]), ([1, 0, 1, 0, 0, 1, 0, 0, 1, 0, 1, 1, 1, 1, 1, 1, 1, 1, 1], [10, 11, 12, 1]), ([0, 1, 1, 0, 0, 1, 0, 0, 1, 0, 1, 1, 1, 1, 1, 1, 1, 1, 1], [99, 11, 1, 10]), ([1, 1, 1, 0, 0, 1, 0, 0, 1, 0, 1, 1, 1, 1, 1, 1, 1, 1, 1], [11, 1, 10]), ([0, 0, 1, 1, 1, 0, 0, 1, 0, 0, 1, 0, 1, 1, 1, 1, 1, 1, 1, 1, 1], [4]), ([1, 0, 1, 1, 1, 0, 0, 1, 0, 0, 1, 0, 1, 1, 1, 1, 1, 1, 1, 1, 1], [4]), ([0, 1, 0, 0, 1, 0, 1, 1, 1, 1, 1, 1, 1, 1, 1], [11, 1, 10]), ([1, 1, 0, 0, 1, 0, 1, 1, 1, 1, 1, 1, 1, 1, 1], [11, 1, 10]), ([1, 0, 1, 1, 1, 1, 1, 1, 1, 1, 1], []), ([0, 1, 1, 1, 1, 1, 1, 1, 1, 1, 1], [4]), ([1, 1, 1, 1, 1, 1, 1, 1, 1, 1, 1], [4])]

noncomputable def porterlaw12_CharsetLooks_E (N : Nat) : Env := mkEnv tys glob [(11, porterref12_Has_res N), (13, porterlaw12_works_res N), (16, charset_First_res N), (17, charset_Texts_res N), (14, charset_Text_res N), (12, charset_Has_res N), (15, charset_Count_res N)] [] [] [] false [] []

theorem porterlaw12_CharsetLooks_Eok (N : Nat) : EnvOk Go.Proofs.Tryd.prog (porterlaw12_CharsetLooks_E N) := mkEnv_ok mixed tys_ok (FnsOk.cons (porterref12_Has_ct N) (FnsOk.cons (porterlaw12_works_ct N) (FnsOk.cons (charset_First_ct N) (FnsOk.cons (charset_Texts_ct N) (FnsOk.cons (charset_Text_ct N) (FnsOk.cons (charset_Has_ct N) (FnsOk.cons (charset_Count_ct N) (FnsOk.nil)))))))) (ItsOk.nil)

noncomputable def porterlaw12_CharsetLooks_p2 (N : Nat) (text : (List UInt8)) (s : (List Int)) (t : (List UInt8)) (n : Int) (first : Int) (b : Int) (k0 : Int → Int → Option Bool) : Option Bool :=
  (porterref12_Has N s b).bind fun y =>
  cond y
  (k0 (Go.IntKind.wrap Go.IntKind.i64 (n + (1 : Int))) b)
  (k0 n first)

noncomputable def porterlaw12_CharsetLooks_g2 (N : Nat) (x : denS [(1, .v .str), (0, .box (.arr 4 (.int .u64))), (2, .v .str), (0, .v (.int .i64)), (0, .v (.int .i64)), (0, .v (.int .i64))]) (K : Ex → List A → Option Bool) : Option Bool :=
  porterlaw12_CharsetLooks_p2 N x.1 x.2.1 x.2.2.1 x.2.2.2.1 x.2.2.2.2.1 x.2.2.2.2.2.1 (fun a3 a4 => (K .normal (mkS [(1, .v .str), (0, .box (.arr 4 (.int .u64))), (2, .v .str), (0, .v (.int .i64)), (0, .v (.int .i64)), (0, .v (.int .i64))] 92 (x.1, x.2.1, x.2.2.1, a3, a4, x.2.2.2.2.2.1, ()))))

noncomputable def porterlaw12_CharsetLooks_h2 (N : Nat) : Hd Bool := fun st K => (unS [(1, .v .str), (0, .box (.arr 4 (.int .u64))), (2, .v .str), (0, .v (.int .i64)), (0, .v (.int .i64)), (0, .v (.int .i64))] 92 (restr [2, 8, 6, 5, 1, 7] 0 st)).bind fun x => porterlaw12_CharsetLooks_g2 N x K

noncomputable def porterlaw12_CharsetLooks_t2 (N : Nat) : Tab Bool := []

theorem porterlaw12_CharsetLooks_ok2 {N : Nat} {c : Ctx} (hb : Base Go.Proofs.Tryd.prog (porterlaw12_CharsetLooks_E N) c) : CodeOk Go.Proofs.Tryd.prog c (nodeAt porterlaw12_CharsetLooks_body [0, 1, 0, 0, 1, 0, 1, 1, 1, 1, 1]) (porterlaw12_CharsetLooks_h2 N) :=
  piece_ok (s := [(1, .v .str), (0, .box (.arr 4 (.int .u64))), (2, .v .str), (0, .v (.int .i64)), (0, .v (.int .i64)), (0, .v (.int .i64))]) (m := 92) (g := porterlaw12_CharsetLooks_g2 N) [2, 8, 6, 5, 1, 7] (evN_sound hb N (porterlaw12_CharsetLooks_t2 N) porterlaw12_CharsetLooks_L porterlaw12_CharsetLooks_body TabOk.nil [0, 1, 0, 0, 1, 0, 1, 1, 1, 1, 1] _ rfl) (fun x K => by kernel_rfl)

noncomputable def porterlaw12_CharsetLooks_s1 (N : Nat) (text : (List UInt8)) (s : (List Int)) (t : (List UInt8)) (n : Int) (first : Int) (b : Int) (rec : Int → Int → Int → Option Bool) (k0 : Int → Int → Option Bool) : Option Bool :=
  cond (decide ((0 : Int) ≤ b))
  (porterlaw12_CharsetLooks_p2 N text s t n first b
    (fun n1 first1 => rec n1 first1 (Go.IntKind.wrap Go.IntKind.i64 (b - (1 : Int)))))
  (k0 n first)

noncomputable def porterlaw12_CharsetLooks_p1 (N : Nat) (text : (List UInt8)) (s : (List Int)) (t : (List UInt8)) (n : Int) (first : Int) (b : Int) (k0 : Int → Int → Option Bool) : Option Bool :=
  iter (fun (v : (Int × Int × Int)) r => porterlaw12_CharsetLooks_s1 N text s t v.1 v.2.1 v.2.2 (fun n first b => (r (n, first, b))) k0) N (n, first, b)

noncomputable def porterlaw12_CharsetLooks_g1 (N : Nat) (i : ((List UInt8) × (List Int) × (List UInt8))) (v : (Int × Int × Int)) (r : (Int × Int × Int) → Option Bool) (K : Ex → List A → Option Bool) : Option Bool :=
  porterlaw12_CharsetLooks_s1 N i.1 i.2.1 i.2.2 v.1 v.2.1 v.2.2 (fun n first b => (r (n, first, b))) (fun a3 a4 => (K (.exit 0) (mkS [(1, .v .str), (0, .box (.arr 4 (.int .u64))), (2, .v .str), (0, .v (.int .i64)), (0, .v (.int .i64))] 93 (i.1, i.2.1, i.2.2, a3, a4, ()))))

noncomputable def porterlaw12_CharsetLooks_h1 (N : Nat) : Hd Bool := fun st K => (unS [(1, .v .str), (0, .box (.arr 4 (.int .u64))), (2, .v .str), (0, .v (.int .i64)), (0, .v (.int .i64)), (0, .v (.int .i64))] 92 (restr [8, 2, 6, 5, 7, 1] 0 st)).bind fun x => iter (fun v r => porterlaw12_CharsetLooks_g1 N ((fun x => (x.1, x.2.1, x.2.2.1)) x) v r K) N ((fun x => (x.2.2.2.1, x.2.2.2.2.1, x.2.2.2.2.2.1)) x)

noncomputable def porterlaw12_CharsetLooks_t1 (N : Nat) : Tab Bool := [([0, 1, 0, 0, 1, 0, 1, 1, 1, 1, 1], porterlaw12_CharsetLooks_h2 N)]

theorem porterlaw12_CharsetLooks_ok1 {N : Nat} {c : Ctx} (hb : Base Go.Proofs.Tryd.prog (porterlaw12_CharsetLooks_E N) c) : CodeOk Go.Proofs.Tryd.prog c (nodeAt porterlaw12_CharsetLooks_body [0, 1, 0, 1, 1, 1, 1, 1]) (porterlaw12_CharsetLooks_h1 N) :=
  loop_ok (s := [(1, .v .str), (0, .box (.arr 4 (.int .u64))), (2, .v .str), (0, .v (.int .i64)), (0, .v (.int .i64)), (0, .v (.int .i64))]) (m := 92) (porterlaw12_CharsetLooks_g1 N) [8, 2, 6, 5, 7, 1] N (fun x => (x.1, x.2.1, x.2.2.1)) (fun x => (x.2.2.2.1, x.2.2.2.2.1, x.2.2.2.2.2.1)) (fun i v => (i.1, i.2.1, i.2.2, v.1, v.2.1, v.2.2, ())) (fun _ => rfl) (evN_sound hb N (porterlaw12_CharsetLooks_t1 N) porterlaw12_CharsetLooks_L porterlaw12_CharsetLooks_body (TabOk.cons (porterlaw12_CharsetLooks_ok2 hb) TabOk.nil) [0, 0, 1, 0, 1, 1, 1, 1, 1] _ rfl) (fun i v r K => by kernel_rfl)

noncomputable def porterlaw12_CharsetLooks_p4 (N : Nat) (text : (List UInt8)) (s : (List Int)) (t : (List UInt8)) (n : Int) (first : Int) (k0 : Bool → Option Bool) : Option Bool :=
  cond ((((List.length t) : Nat) : Int) != n)
  (k0 true)
  ((charset_Count N s).bind fun y =>
    cond (y != n)
    (k0 true)
    ((charset_First N s).bind fun y1 =>
      k0 (y1 != first)))

noncomputable def porterlaw12_CharsetLooks_g4 (N : Nat) (x : denS [(1, .v .str), (0, .box (.arr 4 (.int .u64))), (2, .v .str), (0, .v (.int .i64)), (0, .v (.int .i64))]) (K : Ex → List A → Option Bool) : Option Bool :=
  porterlaw12_CharsetLooks_p4 N x.1 x.2.1 x.2.2.1 x.2.2.2.1 x.2.2.2.2.1 (fun a3 => (K .normal (mkS [(1, .v .str), (0, .box (.arr 4 (.int .u64))), (2, .v .str), (39, .v .bool)] 55 (x.1, x.2.1, x.2.2.1, a3, ()))))

noncomputable def porterlaw12_CharsetLooks_h4 (N : Nat) : Hd Bool := fun st K => (unS [(1, .v .str), (0, .box (.arr 4 (.int .u64))), (2, .v .str), (0, .v (.int .i64)), (0, .v (.int .i64))] 93 (restr [5, 6, 2, 7, 1] 0 st)).bind fun x => porterlaw12_CharsetLooks_g4 N x K

noncomputable def porterlaw12_CharsetLooks_t4 (N : Nat) : Tab Bool := []

theorem porterlaw12_CharsetLooks_ok4 {N : Nat} {c : Ctx} (hb : Base Go.Proofs.Tryd.prog (porterlaw12_CharsetLooks_E N) c) : CodeOk Go.Proofs.Tryd.prog c (nodeAt porterlaw12_CharsetLooks_body [0, 0, 1, 1, 1, 1, 1, 1]) (porterlaw12_CharsetLooks_h4 N) :=
  piece_ok (s := [(1, .v .str), (0, .box (.arr 4 (.int .u64))), (2, .v .str), (0, .v (.int .i64)), (0, .v (.int .i64))]) (m := 93) (g := porterlaw12_CharsetLooks_g4 N) [5, 6, 2, 7, 1] (evN_sound hb N (porterlaw12_CharsetLooks_t4 N) porterlaw12_CharsetLooks_L porterlaw12_CharsetLooks_body TabOk.nil [0, 0, 1, 1, 1, 1, 1, 1] _ rfl) (fun x K => by kernel_rfl)

noncomputable def porterlaw12_CharsetLooks_p3 (N : Nat) (text : (List UInt8)) (s : (List Int)) (t : (List UInt8)) (n : Int) (first : Int) (k0 : Bool → Option Bool) (k1 : Option Bool) : Option Bool :=
  porterlaw12_CharsetLooks_p4 N text s t n first
  (fun x45 => cond x45
    (k0 false)
    (k1))

noncomputable def porterlaw12_CharsetLooks_g3 (N : Nat) (x : denS [(1, .v .str), (0, .box (.arr 4 (.int .u64))), (2, .v .str), (0, .v (.int .i64)), (0, .v (.int .i64))]) (K : Ex → List A → Option Bool) : Option Bool :=
  porterlaw12_CharsetLooks_p3 N x.1 x.2.1 x.2.2.1 x.2.2.2.1 x.2.2.2.2.1 (fun a0 => (K .ret (mkS [(4, .v .bool)] 96 (a0, ())))) (K .normal (mkS [(1, .v .str), (0, .box (.arr 4 (.int .u64))), (2, .v .str)] 95 (x.1, x.2.1, x.2.2.1, ())))

noncomputable def porterlaw12_CharsetLooks_h3 (N : Nat) : Hd Bool := fun st K => (unS [(1, .v .str), (0, .box (.arr 4 (.int .u64))), (2, .v .str), (0, .v (.int .i64)), (0, .v (.int .i64))] 93 (restr [5, 6, 2, 7, 1] 0 st)).bind fun x => porterlaw12_CharsetLooks_g3 N x K

noncomputable def porterlaw12_CharsetLooks_t3 (N : Nat) : Tab Bool := [([0, 0, 1, 1, 1, 1, 1, 1], porterlaw12_CharsetLooks_h4 N)]

theorem porterlaw12_CharsetLooks_ok3 {N : Nat} {c : Ctx} (hb : Base Go.Proofs.Tryd.prog (porterlaw12_CharsetLooks_E N) c) : CodeOk Go.Proofs.Tryd.prog c (nodeAt porterlaw12_CharsetLooks_body [0, 1, 1, 1, 1, 1, 1]) (porterlaw12_CharsetLooks_h3 N) :=
  piece_ok (s := [(1, .v .str), (0, .box (.arr 4 (.int .u64))), (2, .v .str), (0, .v (.int .i64)), (0, .v (.int .i64))]) (m := 93) (g := porterlaw12_CharsetLooks_g3 N) [5, 6, 2, 7, 1] (evN_sound hb N (porterlaw12_CharsetLooks_t3 N) porterlaw12_CharsetLooks_L porterlaw12_CharsetLooks_body (TabOk.cons (porterlaw12_CharsetLooks_ok4 hb) TabOk.nil) [0, 1, 1, 1, 1, 1, 1] _ rfl) (fun x K => by kernel_rfl)

noncomputable def porterlaw12_CharsetLooks_p7 (N : Nat) (text : (List UInt8)) (s : (List Int)) (t : (List UInt8)) (i : Int) (k0 : Bool → Option Bool) : Option Bool :=
  cond (Go.Lift.inR i (List.length t))
  ((porterref12_Has N s (Go.IntKind.wrap Go.IntKind.i64 (((UInt8.toNat (List.getD t (Int.toNat i) (0 : UInt8))) : Nat) : Int))).bind fun y =>
    cond (!y)
    (k0 true)
    (cond (decide ((0 : Int) < i))
      (cond (Go.Lift.inR (Go.IntKind.wrap Go.IntKind.i64 (i - (1 : Int))) (List.length t))
        (cond (Go.Lift.inR i (List.length t))
          (k0 (decide ((((UInt8.toNat (List.getD t (Int.toNat i) (0 : UInt8))) : Nat) : Int) ≤ (((UInt8.toNat (List.getD t (Int.toNat (Go.IntKind.wrap Go.IntKind.i64 (i - (1 : Int)))) (0 : UInt8))) : Nat) : Int))))
          (none))
        (none))
      (k0 false)))
  (none)

noncomputable def porterlaw12_CharsetLooks_g7 (N : Nat) (x : denS [(1, .v .str), (0, .box (.arr 4 (.int .u64))), (2, .v .str), (3, .v (.int .i64))]) (K : Ex → List A → Option Bool) : Option Bool :=
  porterlaw12_CharsetLooks_p7 N x.1 x.2.1 x.2.2.1 x.2.2.2.1 (fun a4 => (K .normal (mkS [(1, .v .str), (0, .box (.arr 4 (.int .u64))), (2, .v .str), (3, .v (.int .i64)), (62, .v .bool)] 28 (x.1, x.2.1, x.2.2.1, x.2.2.2.1, a4, ()))))

noncomputable def porterlaw12_CharsetLooks_h7 (N : Nat) : Hd Bool := fun st K => (unS [(1, .v .str), (0, .box (.arr 4 (.int .u64))), (2, .v .str), (3, .v (.int .i64))] 91 (restr [2, 5, 9, 1] 0 st)).bind fun x => porterlaw12_CharsetLooks_g7 N x K

noncomputable def porterlaw12_CharsetLooks_t7 (N : Nat) : Tab Bool := []

theorem porterlaw12_CharsetLooks_ok7 {N : Nat} {c : Ctx} (hb : Base Go.Proofs.Tryd.prog (porterlaw12_CharsetLooks_E N) c) : CodeOk Go.Proofs.Tryd.prog c (nodeAt porterlaw12_CharsetLooks_body [0, 0, 0, 1, 0, 0, 1, 0, 1, 1, 1, 1, 1, 1, 1]) (porterlaw12_CharsetLooks_h7 N) :=
  piece_ok (s := [(1, .v .str), (0, .box (.arr 4 (.int .u64))), (2, .v .str), (3, .v (.int .i64))]) (m := 91) (g := porterlaw12_CharsetLooks_g7 N) [2, 5, 9, 1] (evN_sound hb N (porterlaw12_CharsetLooks_t7 N) porterlaw12_CharsetLooks_L porterlaw12_CharsetLooks_body TabOk.nil [0, 0, 0, 1, 0, 0, 1, 0, 1, 1, 1, 1, 1, 1, 1] _ rfl) (fun x K => by kernel_rfl)

noncomputable def porterlaw12_CharsetLooks_p6 (N : Nat) (text : (List UInt8)) (s : (List Int)) (t : (List UInt8)) (i : Int) (k0 : Bool → Option Bool) (k1 : Option Bool) : Option Bool :=
  porterlaw12_CharsetLooks_p7 N text s t i
  (fun x72 => cond x72
    (k0 false)
    (k1))

noncomputable def porterlaw12_CharsetLooks_g6 (N : Nat) (x : denS [(1, .v .str), (0, .box (.arr 4 (.int .u64))), (2, .v .str), (3, .v (.int .i64))]) (K : Ex → List A → Option Bool) : Option Bool :=
  porterlaw12_CharsetLooks_p6 N x.1 x.2.1 x.2.2.1 x.2.2.2.1 (fun a0 => (K .ret (mkS [(4, .v .bool)] 96 (a0, ())))) (K .normal (mkS [(1, .v .str), (0, .box (.arr 4 (.int .u64))), (2, .v .str), (3, .v (.int .i64))] 91 (x.1, x.2.1, x.2.2.1, x.2.2.2.1, ())))

noncomputable def porterlaw12_CharsetLooks_h6 (N : Nat) : Hd Bool := fun st K => (unS [(1, .v .str), (0, .box (.arr 4 (.int .u64))), (2, .v .str), (3, .v (.int .i64))] 91 (restr [2, 5, 9, 1] 0 st)).bind fun x => porterlaw12_CharsetLooks_g6 N x K

noncomputable def porterlaw12_CharsetLooks_t6 (N : Nat) : Tab Bool := [([0, 0, 0, 1, 0, 0, 1, 0, 1, 1, 1, 1, 1, 1, 1], porterlaw12_CharsetLooks_h7 N)]

theorem porterlaw12_CharsetLooks_ok6 {N : Nat} {c : Ctx} (hb : Base Go.Proofs.Tryd.prog (porterlaw12_CharsetLooks_E N) c) : CodeOk Go.Proofs.Tryd.prog c (nodeAt porterlaw12_CharsetLooks_body [0, 1, 0, 0, 1, 0, 1, 1, 1, 1, 1, 1, 1]) (porterlaw12_CharsetLooks_h6 N) :=
  piece_ok (s := [(1, .v .str), (0, .box (.arr 4 (.int .u64))), (2, .v .str), (3, .v (.int .i64))]) (m := 91) (g := porterlaw12_CharsetLooks_g6 N) [2, 5, 9, 1] (evN_sound hb N (porterlaw12_CharsetLooks_t6 N) porterlaw12_CharsetLooks_L porterlaw12_CharsetLooks_body (TabOk.cons (porterlaw12_CharsetLooks_ok7 hb) TabOk.nil) [0, 1, 0, 0, 1, 0, 1, 1, 1, 1, 1, 1, 1] _ rfl) (fun x K => by kernel_rfl)

noncomputable def porterlaw12_CharsetLooks_s5 (N : Nat) (text : (List UInt8)) (s : (List Int)) (t : (List UInt8)) (i : Int) (rec : Int → Option Bool) (k0 : Bool → Option Bool) (k1 : Option Bool) : Option Bool :=
  cond (decide (i < (((List.length t) : Nat) : Int)))
  (porterlaw12_CharsetLooks_p6 N text s t i
    (fun x4 => k0 x4)
    (rec (Go.IntKind.wrap Go.IntKind.i64 (i + (1 : Int)))))
  (k1)

noncomputable def porterlaw12_CharsetLooks_p5 (N : Nat) (text : (List UInt8)) (s : (List Int)) (t : (List UInt8)) (i : Int) (k0 : Bool → Option Bool) (k1 : Option Bool) : Option Bool :=
  iter (fun (v : Int) r => porterlaw12_CharsetLooks_s5 N text s t v (fun i => (r i)) k0 k1) N i

noncomputable def porterlaw12_CharsetLooks_g5 (N : Nat) (i : ((List UInt8) × (List Int) × (List UInt8))) (v : Int) (r : Int → Option Bool) (K : Ex → List A → Option Bool) : Option Bool :=
  porterlaw12_CharsetLooks_s5 N i.1 i.2.1 i.2.2 v (fun i => (r i)) (fun a0 => (K .ret (mkS [(4, .v .bool)] 96 (a0, ())))) (K (.exit 2) (mkS [(1, .v .str)] 99 (i.1, ())))

noncomputable def porterlaw12_CharsetLooks_h5 (N : Nat) : Hd Bool := fun st K => (unS [(1, .v .str), (0, .box (.arr 4 (.int .u64))), (2, .v .str), (3, .v (.int .i64))] 91 (restr [9, 5, 2, 1] 0 st)).bind fun x => iter (fun v r => porterlaw12_CharsetLooks_g5 N ((fun x => (x.1, x.2.1, x.2.2.1)) x) v r K) N ((fun x => x.2.2.2.1) x)

noncomputable def porterlaw12_CharsetLooks_t5 (N : Nat) : Tab Bool := [([0, 1, 0, 0, 1, 0, 1, 1, 1, 1, 1, 1, 1], porterlaw12_CharsetLooks_h6 N)]

theorem porterlaw12_CharsetLooks_ok5 {N : Nat} {c : Ctx} (hb : Base Go.Proofs.Tryd.prog (porterlaw12_CharsetLooks_E N) c) : CodeOk Go.Proofs.Tryd.prog c (nodeAt porterlaw12_CharsetLooks_body [0, 1, 0, 1, 1, 1, 1, 1, 1, 1]) (porterlaw12_CharsetLooks_h5 N) :=
  loop_ok (s := [(1, .v .str), (0, .box (.arr 4 (.int .u64))), (2, .v .str), (3, .v (.int .i64))]) (m := 91) (porterlaw12_CharsetLooks_g5 N) [9, 5, 2, 1] N (fun x => (x.1, x.2.1, x.2.2.1)) (fun x => x.2.2.2.1) (fun i v => (i.1, i.2.1, i.2.2, v, ())) (fun _ => rfl) (evN_sound hb N (porterlaw12_CharsetLooks_t5 N) porterlaw12_CharsetLooks_L porterlaw12_CharsetLooks_body (TabOk.cons (porterlaw12_CharsetLooks_ok6 hb) TabOk.nil) [0, 0, 1, 0, 1, 1, 1, 1, 1, 1, 1] _ rfl) (fun i v r K => by kernel_rfl)

noncomputable def porterlaw12_CharsetLooks_p10 (N : Nat) (text : (List UInt8)) (u : (List Int)) (b : Int) (in_ : Bool) (i : Int) (k0 : Bool → Option Bool) : Option Bool :=
  cond in_
  (k0 true)
  (cond (Go.Lift.inR i (List.length text))
    (k0 ((Go.IntKind.wrap Go.IntKind.i64 (((UInt8.toNat (List.getD text (Int.toNat i) (0 : UInt8))) : Nat) : Int)) == b))
    (none))

noncomputable def porterlaw12_CharsetLooks_g10 (N : Nat) (x : denS [(1, .v .str), (8, .box (.arr 4 (.int .u64))), (0, .v (.int .i64)), (0, .v .bool), (0, .v (.int .i64))]) (K : Ex → List A → Option Bool) : Option Bool :=
  porterlaw12_CharsetLooks_p10 N x.1 x.2.1 x.2.2.1 x.2.2.2.1 x.2.2.2.2.1 (fun a3 => (K .normal (mkS [(1, .v .str), (8, .box (.arr 4 (.int .u64))), (0, .v (.int .i64)), (0, .v .bool), (0, .v (.int .i64))] 87 (x.1, x.2.1, x.2.2.1, a3, x.2.2.2.2.1, ()))))

noncomputable def porterlaw12_CharsetLooks_h10 (N : Nat) : Hd Bool := fun st K => (unS [(1, .v .str), (8, .box (.arr 4 (.int .u64))), (0, .v (.int .i64)), (0, .v .bool), (0, .v (.int .i64))] 87 (restr [12, 1, 13, 11, 10] 0 st)).bind fun x => porterlaw12_CharsetLooks_g10 N x K

noncomputable def porterlaw12_CharsetLooks_t10 (N : Nat) : Tab Bool := []

theorem porterlaw12_CharsetLooks_ok10 {N : Nat} {c : Ctx} (hb : Base Go.Proofs.Tryd.prog (porterlaw12_CharsetLooks_E N) c) : CodeOk Go.Proofs.Tryd.prog c (nodeAt porterlaw12_CharsetLooks_body [0, 1, 0, 0, 1, 0, 1, 0, 0, 1, 0, 0, 1, 0, 1, 1, 1, 1, 1, 1, 1, 1, 1]) (porterlaw12_CharsetLooks_h10 N) :=
  piece_ok (s := [(1, .v .str), (8, .box (.arr 4 (.int .u64))), (0, .v (.int .i64)), (0, .v .bool), (0, .v (.int .i64))]) (m := 87) (g := porterlaw12_CharsetLooks_g10 N) [12, 1, 13, 11, 10] (evN_sound hb N (porterlaw12_CharsetLooks_t10 N) porterlaw12_CharsetLooks_L porterlaw12_CharsetLooks_body TabOk.nil [0, 1, 0, 0, 1, 0, 1, 0, 0, 1, 0, 0, 1, 0, 1, 1, 1, 1, 1, 1, 1, 1, 1] _ rfl) (fun x K => by kernel_rfl)

noncomputable def porterlaw12_CharsetLooks_s9 (N : Nat) (text : (List UInt8)) (u : (List Int)) (b : Int) (in_ : Bool) (i : Int) (rec : Bool → Int → Option Bool) (k0 : Bool → Option Bool) : Option Bool :=
  cond (decide (i < (((List.length text) : Nat) : Int)))
  (porterlaw12_CharsetLooks_p10 N text u b in_ i
    (fun in_1 => rec in_1 (Go.IntKind.wrap Go.IntKind.i64 (i + (1 : Int)))))
  (k0 in_)

noncomputable def porterlaw12_CharsetLooks_p9 (N : Nat) (text : (List UInt8)) (u : (List Int)) (b : Int) (in_ : Bool) (i : Int) (k0 : Bool → Option Bool) : Option Bool :=
  iter (fun (v : (Bool × Int)) r => porterlaw12_CharsetLooks_s9 N text u b v.1 v.2 (fun in_ i => (r (in_, i))) k0) N (in_, i)

noncomputable def porterlaw12_CharsetLooks_g9 (N : Nat) (i : ((List UInt8) × (List Int) × Int)) (v : (Bool × Int)) (r : (Bool × Int) → Option Bool) (K : Ex → List A → Option Bool) : Option Bool :=
  porterlaw12_CharsetLooks_s9 N i.1 i.2.1 i.2.2 v.1 v.2 (fun in_ i => (r (in_, i))) (fun a3 => (K (.exit 6) (mkS [(1, .v .str), (8, .box (.arr 4 (.int .u64))), (0, .v (.int .i64)), (0, .v .bool)] 88 (i.1, i.2.1, i.2.2, a3, ()))))

noncomputable def porterlaw12_CharsetLooks_h9 (N : Nat) : Hd Bool := fun st K => (unS [(1, .v .str), (8, .box (.arr 4 (.int .u64))), (0, .v (.int .i64)), (0, .v .bool), (0, .v (.int .i64))] 87 (restr [13, 1, 12, 11, 10] 0 st)).bind fun x => iter (fun v r => porterlaw12_CharsetLooks_g9 N ((fun x => (x.1, x.2.1, x.2.2.1)) x) v r K) N ((fun x => (x.2.2.2.1, x.2.2.2.2.1)) x)

noncomputable def porterlaw12_CharsetLooks_t9 (N : Nat) : Tab Bool := [([0, 1, 0, 0, 1, 0, 1, 0, 0, 1, 0, 0, 1, 0, 1, 1, 1, 1, 1, 1, 1, 1, 1], porterlaw12_CharsetLooks_h10 N)]

theorem porterlaw12_CharsetLooks_ok9 {N : Nat} {c : Ctx} (hb : Base Go.Proofs.Tryd.prog (porterlaw12_CharsetLooks_E N) c) : CodeOk Go.Proofs.Tryd.prog c (nodeAt porterlaw12_CharsetLooks_body [0, 1, 0, 1, 0, 0, 1, 0, 0, 1, 0, 1, 1, 1, 1, 1, 1, 1, 1, 1]) (porterlaw12_CharsetLooks_h9 N) :=
  loop_ok (s := [(1, .v .str), (8, .box (.arr 4 (.int .u64))), (0, .v (.int .i64)), (0, .v .bool), (0, .v (.int .i64))]) (m := 87) (porterlaw12_CharsetLooks_g9 N) [13, 1, 12, 11, 10] N (fun x => (x.1, x.2.1, x.2.2.1)) (fun x => (x.2.2.2.1, x.2.2.2.2.1)) (fun i v => (i.1, i.2.1, i.2.2, v.1, v.2, ())) (fun _ => rfl) (evN_sound hb N (porterlaw12_CharsetLooks_t9 N) porterlaw12_CharsetLooks_L porterlaw12_CharsetLooks_body (TabOk.cons (porterlaw12_CharsetLooks_ok10 hb) TabOk.nil) [0, 0, 1, 0, 1, 0, 0, 1, 0, 0, 1, 0, 1, 1, 1, 1, 1, 1, 1, 1, 1] _ rfl) (fun i v r K => by kernel_rfl)

noncomputable def porterlaw12_CharsetLooks_s8 (N : Nat) (text : (List UInt8)) (u : (List Int)) (b : Int) (rec : Int → Option Bool) (k0 : Bool → Option Bool) (k1 : Option Bool) : Option Bool :=
  cond (decide (b < (256 : Int)))
  (porterlaw12_CharsetLooks_p9 N text u b false (0 : Int)
    (fun in_ => (charset_Has N u (Go.IntKind.wrap Go.IntKind.u8 b)).bind fun y =>
      cond (!(y == in_))
      (k0 false)
      (rec (Go.IntKind.wrap Go.IntKind.i64 (b + (1 : Int))))))
  (k1)

noncomputable def porterlaw12_CharsetLooks_p8 (N : Nat) (text : (List UInt8)) (u : (List Int)) (b : Int) (k0 : Bool → Option Bool) (k1 : Option Bool) : Option Bool :=
  iter (fun (v : Int) r => porterlaw12_CharsetLooks_s8 N text u v (fun b => (r b)) k0 k1) N b

noncomputable def porterlaw12_CharsetLooks_g8 (N : Nat) (i : ((List UInt8) × (List Int))) (v : Int) (r : Int → Option Bool) (K : Ex → List A → Option Bool) : Option Bool :=
  porterlaw12_CharsetLooks_s8 N i.1 i.2 v (fun b => (r b)) (fun a0 => (K .ret (mkS [(4, .v .bool)] 96 (a0, ())))) (K (.exit 4) (mkS [] 101 ()))

noncomputable def porterlaw12_CharsetLooks_h8 (N : Nat) : Hd Bool := fun st K => (unS [(1, .v .str), (8, .box (.arr 4 (.int .u64))), (0, .v (.int .i64))] 89 (restr [11, 1, 10] 0 st)).bind fun x => iter (fun v r => porterlaw12_CharsetLooks_g8 N ((fun x => (x.1, x.2.1)) x) v r K) N ((fun x => x.2.2.1) x)

noncomputable def porterlaw12_CharsetLooks_t8 (N : Nat) : Tab Bool := [([0, 1, 0, 1, 0, 0, 1, 0, 0, 1, 0, 1, 1, 1, 1, 1, 1, 1, 1, 1], porterlaw12_CharsetLooks_h9 N)]

theorem porterlaw12_CharsetLooks_ok8 {N : Nat} {c : Ctx} (hb : Base Go.Proofs.Tryd.prog (porterlaw12_CharsetLooks_E N) c) : CodeOk Go.Proofs.Tryd.prog c (nodeAt porterlaw12_CharsetLooks_body [0, 1, 0, 1, 1, 1, 1, 1, 1, 1, 1, 1]) (porterlaw12_CharsetLooks_h8 N) :=
  loop_ok (s := [(1, .v .str), (8, .box (.arr 4 (.int .u64))), (0, .v (.int .i64))]) (m := 89) (porterlaw12_CharsetLooks_g8 N) [11, 1, 10] N (fun x => (x.1, x.2.1)) (fun x => x.2.2.1) (fun i v => (i.1, i.2, v, ())) (fun _ => rfl) (evN_sound hb N (porterlaw12_CharsetLooks_t8 N) porterlaw12_CharsetLooks_L porterlaw12_CharsetLooks_body (TabOk.cons (porterlaw12_CharsetLooks_ok9 hb) TabOk.nil) [0, 0, 1, 0, 1, 1, 1, 1, 1, 1, 1, 1, 1] _ rfl) (fun i v r K => by kernel_rfl)

noncomputable def porterlaw12_CharsetLooks (N : Nat) (s : (List Int)) (text : (List UInt8)) : Option Bool :=
  cond (decide ((400 : Int) < (((List.length text) : Nat) : Int)))
  ((porterlaw12_works N).bind fun y =>
    some y)
  ((charset_Text N s).bind fun y1 =>
    porterlaw12_CharsetLooks_p1 N text s y1 (0 : Int) (-(1 : Int)) (255 : Int)
    (fun n first => porterlaw12_CharsetLooks_p3 N text s y1 n first
      (fun x4 => some x4)
      (porterlaw12_CharsetLooks_p5 N text s y1 (0 : Int)
        (fun x41 => some x41)
        ((charset_Texts N text).bind fun y2 =>
          porterlaw12_CharsetLooks_p8 N text y2 (0 : Int)
          (fun x42 => some x42)
          ((porterlaw12_works N).bind fun y3 =>
            some y3)))))

noncomputable def porterlaw12_CharsetLooks_t (N : Nat) : Tab Bool := [([0, 1, 0, 1, 1, 1, 1, 1], porterlaw12_CharsetLooks_h1 N), ([0, 1, 1, 1, 1, 1, 1], porterlaw12_CharsetLooks_h3 N), ([0, 1, 0, 1, 1, 1, 1, 1, 1, 1], porterlaw12_CharsetLooks_h5 N), ([0, 1, 0, 1, 1, 1, 1, 1, 1, 1, 1, 1], porterlaw12_CharsetLooks_h8 N)]

theorem porterlaw12_CharsetLooks_link (N : Nat) (x : denS [(0, .v (.arr 4 (.int .u64))), (0, .v .str)]) : evFX (porterlaw12_CharsetLooks_E N) N (porterlaw12_CharsetLooks_t N) porterlaw12_CharsetLooks_L Go.Proofs.Tryd.f4 (mkS [(0, .v (.arr 4 (.int .u64))), (0, .v .str)] 0 x) (kRes (.v .bool) 2) = porterlaw12_CharsetLooks N x.1 x.2.1 := by kernel_rfl

noncomputable def porterlaw12_CharsetLooks_res (N : Nat) : List A → Res := resOf [(0, .v (.arr 4 (.int .u64))), (0, .v .str)] (fun x => porterlaw12_CharsetLooks N x.1 x.2.1) (oRes (.v .bool) 2)

theorem porterlaw12_CharsetLooks_ct (N : Nat) : Contract Go.Proofs.Tryd.prog glob 4 (porterlaw12_CharsetLooks_res N) :=
  Contract.of (E := porterlaw12_CharsetLooks_E N) (H := porterlaw12_CharsetLooks_t N) (L := porterlaw12_CharsetLooks_L) (N := N) (body := porterlaw12_CharsetLooks_body) (K := (kRes (.v .bool) 2)) (porterlaw12_CharsetLooks_Eok N) Go.Proofs.Tryd.func4 (by kernel_rfl) (by decide) (fun _ hb => (TabOk.cons (porterlaw12_CharsetLooks_ok1 hb) (TabOk.cons (porterlaw12_CharsetLooks_ok3 hb) (TabOk.cons (porterlaw12_CharsetLooks_ok5 hb) (TabOk.cons (porterlaw12_CharsetLooks_ok8 hb) TabOk.nil))))) (fun x y h => by rw [porterlaw12_CharsetLooks_link]; exact h) (kRes_ok (s := (.v .bool)) (m := 2))

abbrev porterlaw12_CharsetSets_R : Type := Bool

noncomputable def porterlaw12_CharsetSets_body : Code := (Go.Proofs.Tryd.f3.body).getD .skip

noncomputable def porterlaw12_CharsetSets_L : List (List Nat × List Nat) := [([0], [3, 4, 5]), ([0, 1], [3, 4, 7, 8, 9, 10, 11, 5]), ([0, 0, 1, 1], [12, 3, 4, 7, 8, 9, 10, 11, 5]), ([0, 1, 0, 1, 1], [12, 3, 4, 7, 8, 9, 10, 11, 5]), ([0, 0, 0, 0, 1, 0, 1, 1], [33, 3, 12, 4, 7, 8, 9, 10, 11, 5]), ([1, 0, 0, 0, 1, 0, 1, 1], [3, 12, 4, 7, 8, 9, 10, 11, 5]), ([1, 1, 0, 0, 0, 1, 0, 1, 1], []), ([0, 0, 0, 1, 0, 0, 1, 0, 1, 1], [12, 3, 13, 7, 14, 8, 9, 10, 11, 5, 4]), ([0, 1, 0, 0, 1, 0, 0, 1, 0, 1, 1], [3, 15, 13, 7, 14, 8, 9, 10, 11, 12, 5, 4]), ([0, 1, 1, 0, 0, 1, 0, 0, 1, 0, 1, 1], [104, 12, 3, 4, 7, 8, 9, 10, 11, 5]), ([1, 1, 1, 0, 0, 1, 0, 0, 1, 0, 1, 1], [12, 3, 4, 7, 8, 9, 10, 11, 5]), ([0, 0, 1, 1, 1, 0, 0, 1, 0, 0, 1, 0, 1, 1], [6]), ([1, 0, 1, 1, 1, 0, 0, 1, 0, 0, 1, 0, 1, 1], [6]), ([0, 1, 0, 0, 1, 0, 1, 1], [12, 3, 4, 7, 8, 9, 10, 11, 5]), ([1, 1, 0, 0, 1, 0, 1, 1], [12, 3, 4, 7, 8, 9, 10, 11, 5]), ([1, 0, 1, 1], []), ([0, 1, 1, 1], [6]), ([1, 1, 1, 1], [6])]

noncomputable def porterlaw12_CharsetSets_E (N : Nat) : Env := mkEnv tys glob [(11, porterref12_Has_res N), (13, porterlaw12_works_res N), (10, charset_Of_res N), (12, charset_Has_res N), (6, charset_Or_res N), (8, charset_Less_res N), (9, charset_Not_res N), (7, charset_And_res N)] [] [] [] false [] []

theorem porterlaw12_CharsetSets_Eok (N : Nat) : EnvOk Go.Proofs.Tryd.prog (porterlaw12_CharsetSets_E N) := mkEnv_ok mixed tys_ok (FnsOk.cons (porterref12_Has_ct N) (FnsOk.cons (porterlaw12_works_ct N) (FnsOk.cons (charset_Of_ct N) (FnsOk.cons (charset_Has_ct N) (FnsOk.cons (charset_Or_ct N) (FnsOk.cons (charset_Less_ct N) (FnsOk.cons (charset_Not_ct N) (FnsOk.cons (charset_And_ct N) (FnsOk.nil))))))))) (ItsOk.nil)

noncomputable def porterlaw12_CharsetSets_p3 (N : Nat) (s : (List Int)) (t : (List Int)) (l : (List Int)) (or_ : (List Int)) (and_ : (List Int)) (less : (List Int)) (not_ : (List Int)) (of : (List Int)) (b : Int) (x13 : Bool) (y : Bool) (c : Int) (k0 : Bool → Option Bool) : Option Bool :=
  (charset_Has N s c).bind fun y1 =>
  cond (!(y1 == x13))
  (k0 true)
  ((charset_Has N or_ c).bind fun y2 =>
    cond x13
    (cond (!(y2 == true))
      (k0 true)
      ((charset_Has N and_ c).bind fun y3 =>
        cond x13
        (cond (!(y3 == y))
          (k0 true)
          ((charset_Has N less c).bind fun y4 =>
            cond x13
            (cond (!(y4 == (!y)))
              (k0 true)
              ((charset_Has N not_ c).bind fun y5 =>
                cond (y5 == x13)
                (k0 true)
                ((charset_Has N of c).bind fun y6 =>
                  cond (decide (0 < (List.length l)))
                  (cond (decide ((Go.IntKind.wrap Go.IntKind.i64 (List.getD l 0 (0 : Int))) ≤ b))
                    (cond (decide (1 < (List.length l)))
                      (k0 (!(y6 == (decide (b ≤ (Go.IntKind.wrap Go.IntKind.i64 (List.getD l 1 (0 : Int))))))))
                      (none))
                    (k0 (!(y6 == false))))
                  (none))))
            (cond (!(y4 == false))
              (k0 true)
              ((charset_Has N not_ c).bind fun y7 =>
                cond (y7 == x13)
                (k0 true)
                ((charset_Has N of c).bind fun y8 =>
                  cond (decide (0 < (List.length l)))
                  (cond (decide ((Go.IntKind.wrap Go.IntKind.i64 (List.getD l 0 (0 : Int))) ≤ b))
                    (cond (decide (1 < (List.length l)))
                      (k0 (!(y8 == (decide (b ≤ (Go.IntKind.wrap Go.IntKind.i64 (List.getD l 1 (0 : Int))))))))
                      (none))
                    (k0 (!(y8 == false))))
                  (none))))))
        (cond (!(y3 == false))
          (k0 true)
          ((charset_Has N less c).bind fun y9 =>
            cond x13
            (cond (!(y9 == (!y)))
              (k0 true)
              ((charset_Has N not_ c).bind fun y10 =>
                cond (y10 == x13)
                (k0 true)
                ((charset_Has N of c).bind fun y11 =>
                  cond (decide (0 < (List.length l)))
                  (cond (decide ((Go.IntKind.wrap Go.IntKind.i64 (List.getD l 0 (0 : Int))) ≤ b))
                    (cond (decide (1 < (List.length l)))
                      (k0 (!(y11 == (decide (b ≤ (Go.IntKind.wrap Go.IntKind.i64 (List.getD l 1 (0 : Int))))))))
                      (none))
                    (k0 (!(y11 == false))))
                  (none))))
            (cond (!(y9 == false))
              (k0 true)
              ((charset_Has N not_ c).bind fun y12 =>
                cond (y12 == x13)
                (k0 true)
                ((charset_Has N of c).bind fun y13 =>
                  cond (decide (0 < (List.length l)))
                  (cond (decide ((Go.IntKind.wrap Go.IntKind.i64 (List.getD l 0 (0 : Int))) ≤ b))
                    (cond (decide (1 < (List.length l)))
                      (k0 (!(y13 == (decide (b ≤ (Go.IntKind.wrap Go.IntKind.i64 (List.getD l 1 (0 : Int))))))))
                      (none))
                    (k0 (!(y13 == false))))
                  (none))))))))
    (cond (!(y2 == y))
      (k0 true)
      ((charset_Has N and_ c).bind fun y14 =>
        cond x13
        (cond (!(y14 == y))
          (k0 true)
          ((charset_Has N less c).bind fun y15 =>
            cond x13
            (cond (!(y15 == (!y)))
              (k0 true)
              ((charset_Has N not_ c).bind fun y16 =>
                cond (y16 == x13)
                (k0 true)
                ((charset_Has N of c).bind fun y17 =>
                  cond (decide (0 < (List.length l)))
                  (cond (decide ((Go.IntKind.wrap Go.IntKind.i64 (List.getD l 0 (0 : Int))) ≤ b))
                    (cond (decide (1 < (List.length l)))
                      (k0 (!(y17 == (decide (b ≤ (Go.IntKind.wrap Go.IntKind.i64 (List.getD l 1 (0 : Int))))))))
                      (none))
                    (k0 (!(y17 == false))))
                  (none))))
            (cond (!(y15 == false))
              (k0 true)
              ((charset_Has N not_ c).bind fun y18 =>
                cond (y18 == x13)
                (k0 true)
                ((charset_Has N of c).bind fun y19 =>
                  cond (decide (0 < (List.length l)))
                  (cond (decide ((Go.IntKind.wrap Go.IntKind.i64 (List.getD l 0 (0 : Int))) ≤ b))
                    (cond (decide (1 < (List.length l)))
                      (k0 (!(y19 == (decide (b ≤ (Go.IntKind.wrap Go.IntKind.i64 (List.getD l 1 (0 : Int))))))))
                      (none))
                    (k0 (!(y19 == false))))
                  (none))))))
        (cond (!(y14 == false))
          (k0 true)
          ((charset_Has N less c).bind fun y20 =>
            cond x13
            (cond (!(y20 == (!y)))
              (k0 true)
              ((charset_Has N not_ c).bind fun y21 =>
                cond (y21 == x13)
                (k0 true)
                ((charset_Has N of c).bind fun y22 =>
                  cond (decide (0 < (List.length l)))
                  (cond (decide ((Go.IntKind.wrap Go.IntKind.i64 (List.getD l 0 (0 : Int))) ≤ b))
                    (cond (decide (1 < (List.length l)))
                      (k0 (!(y22 == (decide (b ≤ (Go.IntKind.wrap Go.IntKind.i64 (List.getD l 1 (0 : Int))))))))
                      (none))
                    (k0 (!(y22 == false))))
                  (none))))
            (cond (!(y20 == false))
              (k0 true)
              ((charset_Has N not_ c).bind fun y23 =>
                cond (y23 == x13)
                (k0 true)
                ((charset_Has N of c).bind fun y24 =>
                  cond (decide (0 < (List.length l)))
                  (cond (decide ((Go.IntKind.wrap Go.IntKind.i64 (List.getD l 0 (0 : Int))) ≤ b))
                    (cond (decide (1 < (List.length l)))
                      (k0 (!(y24 == (decide (b ≤ (Go.IntKind.wrap Go.IntKind.i64 (List.getD l 1 (0 : Int))))))))
                      (none))
                    (k0 (!(y24 == false))))
                  (none)))))))))

noncomputable def porterlaw12_CharsetSets_g3 (N : Nat) (x : denS [(3, .box (.arr 4 (.int .u64))), (0, .box (.arr 4 (.int .u64))), (0, .box (.arr 2 (.int .u8))), (1, .box (.arr 4 (.int .u64))), (0, .box (.arr 4 (.int .u64))), (0, .box (.arr 4 (.int .u64))), (0, .box (.arr 4 (.int .u64))), (0, .box (.arr 4 (.int .u64))), (0, .v (.int .i64)), (0, .v .bool), (0, .v .bool), (0, .v (.int .u8))]) (K : Ex → List A → Option Bool) : Option Bool :=
  porterlaw12_CharsetSets_p3 N x.1 x.2.1 x.2.2.1 x.2.2.2.1 x.2.2.2.2.1 x.2.2.2.2.2.1 x.2.2.2.2.2.2.1 x.2.2.2.2.2.2.2.1 x.2.2.2.2.2.2.2.2.1 x.2.2.2.2.2.2.2.2.2.1 x.2.2.2.2.2.2.2.2.2.2.1 x.2.2.2.2.2.2.2.2.2.2.2.1 (fun a9 => (K .normal (mkS [(3, .box (.arr 4 (.int .u64))), (0, .box (.arr 4 (.int .u64))), (0, .box (.arr 2 (.int .u8))), (1, .box (.arr 4 (.int .u64))), (0, .box (.arr 4 (.int .u64))), (0, .box (.arr 4 (.int .u64))), (0, .box (.arr 4 (.int .u64))), (0, .box (.arr 4 (.int .u64))), (0, .v (.int .i64)), (91, .v .bool)] 1 (x.1, x.2.1, x.2.2.1, x.2.2.2.1, x.2.2.2.2.1, x.2.2.2.2.2.1, x.2.2.2.2.2.2.1, x.2.2.2.2.2.2.2.1, x.2.2.2.2.2.2.2.2.1, a9, ()))))

noncomputable def porterlaw12_CharsetSets_h3 (N : Nat) : Hd Bool := fun st K => (unS [(3, .box (.arr 4 (.int .u64))), (0, .box (.arr 4 (.int .u64))), (0, .box (.arr 2 (.int .u8))), (1, .box (.arr 4 (.int .u64))), (0, .box (.arr 4 (.int .u64))), (0, .box (.arr 4 (.int .u64))), (0, .box (.arr 4 (.int .u64))), (0, .box (.arr 4 (.int .u64))), (0, .v (.int .i64)), (0, .v .bool), (0, .v .bool), (0, .v (.int .u8))] 90 (restr [3, 15, 13, 7, 14, 8, 9, 10, 11, 12, 5, 4] 0 st)).bind fun x => porterlaw12_CharsetSets_g3 N x K

noncomputable def porterlaw12_CharsetSets_t3 (N : Nat) : Tab Bool := []

theorem porterlaw12_CharsetSets_ok3 {N : Nat} {c : Ctx} (hb : Base Go.Proofs.Tryd.prog (porterlaw12_CharsetSets_E N) c) : CodeOk Go.Proofs.Tryd.prog c (nodeAt porterlaw12_CharsetSets_body [0, 1, 1, 0, 0, 1, 0, 0, 1, 0, 1, 1]) (porterlaw12_CharsetSets_h3 N) :=
  piece_ok (s := [(3, .box (.arr 4 (.int .u64))), (0, .box (.arr 4 (.int .u64))), (0, .box (.arr 2 (.int .u8))), (1, .box (.arr 4 (.int .u64))), (0, .box (.arr 4 (.int .u64))), (0, .box (.arr 4 (.int .u64))), (0, .box (.arr 4 (.int .u64))), (0, .box (.arr 4 (.int .u64))), (0, .v (.int .i64)), (0, .v .bool), (0, .v .bool), (0, .v (.int .u8))]) (m := 90) (g := porterlaw12_CharsetSets_g3 N) [3, 15, 13, 7, 14, 8, 9, 10, 11, 12, 5, 4] (evN_sound hb N (porterlaw12_CharsetSets_t3 N) porterlaw12_CharsetSets_L porterlaw12_CharsetSets_body TabOk.nil [0, 1, 1, 0, 0, 1, 0, 0, 1, 0, 1, 1] _ rfl) (fun x K => by
    obtain ⟨s, t, l, v1, v2, v3, v4, v5, b, x13, y, c1, u⟩ := x
    cases x13 <;> cases y
    · kernel_rfl
    · kernel_rfl
    · kernel_rfl
    · kernel_rfl)

noncomputable def porterlaw12_CharsetSets_p2 (N : Nat) (s : (List Int)) (t : (List Int)) (l : (List Int)) (or_ : (List Int)) (and_ : (List Int)) (less : (List Int)) (not_ : (List Int)) (of : (List Int)) (b : Int) (k0 : Bool → Option Bool) (k1 : Option Bool) : Option Bool :=
  (porterref12_Has N s b).bind fun y =>
  (porterref12_Has N t b).bind fun y1 =>
  porterlaw12_CharsetSets_p3 N s t l or_ and_ less not_ of b y y1 (Go.IntKind.wrap Go.IntKind.u8 b)
  (fun x104 => cond x104
    (k0 false)
    (k1))

noncomputable def porterlaw12_CharsetSets_g2 (N : Nat) (x : denS [(3, .box (.arr 4 (.int .u64))), (0, .box (.arr 4 (.int .u64))), (0, .box (.arr 2 (.int .u8))), (1, .box (.arr 4 (.int .u64))), (0, .box (.arr 4 (.int .u64))), (0, .box (.arr 4 (.int .u64))), (0, .box (.arr 4 (.int .u64))), (0, .box (.arr 4 (.int .u64))), (0, .v (.int .i64))]) (K : Ex → List A → Option Bool) : Option Bool :=
  porterlaw12_CharsetSets_p2 N x.1 x.2.1 x.2.2.1 x.2.2.2.1 x.2.2.2.2.1 x.2.2.2.2.2.1 x.2.2.2.2.2.2.1 x.2.2.2.2.2.2.2.1 x.2.2.2.2.2.2.2.2.1 (fun a0 => (K .ret (mkS [(6, .v .bool)] 99 (a0, ())))) (K .normal (mkS [(3, .box (.arr 4 (.int .u64))), (0, .box (.arr 4 (.int .u64))), (0, .box (.arr 2 (.int .u8))), (1, .box (.arr 4 (.int .u64))), (0, .box (.arr 4 (.int .u64))), (0, .box (.arr 4 (.int .u64))), (0, .box (.arr 4 (.int .u64))), (0, .box (.arr 4 (.int .u64))), (0, .v (.int .i64))] 93 (x.1, x.2.1, x.2.2.1, x.2.2.2.1, x.2.2.2.2.1, x.2.2.2.2.2.1, x.2.2.2.2.2.2.1, x.2.2.2.2.2.2.2.1, x.2.2.2.2.2.2.2.2.1, ())))

noncomputable def porterlaw12_CharsetSets_h2 (N : Nat) : Hd Bool := fun st K => (unS [(3, .box (.arr 4 (.int .u64))), (0, .box (.arr 4 (.int .u64))), (0, .box (.arr 2 (.int .u8))), (1, .box (.arr 4 (.int .u64))), (0, .box (.arr 4 (.int .u64))), (0, .box (.arr 4 (.int .u64))), (0, .box (.arr 4 (.int .u64))), (0, .box (.arr 4 (.int .u64))), (0, .v (.int .i64))] 93 (restr [3, 12, 4, 7, 8, 9, 10, 11, 5] 0 st)).bind fun x => porterlaw12_CharsetSets_g2 N x K

noncomputable def porterlaw12_CharsetSets_t2 (N : Nat) : Tab Bool := [([0, 1, 1, 0, 0, 1, 0, 0, 1, 0, 1, 1], porterlaw12_CharsetSets_h3 N)]

theorem porterlaw12_CharsetSets_ok2 {N : Nat} {c : Ctx} (hb : Base Go.Proofs.Tryd.prog (porterlaw12_CharsetSets_E N) c) : CodeOk Go.Proofs.Tryd.prog c (nodeAt porterlaw12_CharsetSets_body [0, 1, 0, 0, 1, 0, 1, 1]) (porterlaw12_CharsetSets_h2 N) :=
  piece_ok (s := [(3, .box (.arr 4 (.int .u64))), (0, .box (.arr 4 (.int .u64))), (0, .box (.arr 2 (.int .u8))), (1, .box (.arr 4 (.int .u64))), (0, .box (.arr 4 (.int .u64))), (0, .box (.arr 4 (.int .u64))), (0, .box (.arr 4 (.int .u64))), (0, .box (.arr 4 (.int .u64))), (0, .v (.int .i64))]) (m := 93) (g := porterlaw12_CharsetSets_g2 N) [3, 12, 4, 7, 8, 9, 10, 11, 5] (evN_sound hb N (porterlaw12_CharsetSets_t2 N) porterlaw12_CharsetSets_L porterlaw12_CharsetSets_body (TabOk.cons (porterlaw12_CharsetSets_ok3 hb) TabOk.nil) [0, 1, 0, 0, 1, 0, 1, 1] _ rfl) (fun x K => by kernel_rfl)

noncomputable def porterlaw12_CharsetSets_s1 (N : Nat) (s : (List Int)) (t : (List Int)) (l : (List Int)) (or_ : (List Int)) (and_ : (List Int)) (less : (List Int)) (not_ : (List Int)) (of : (List Int)) (b : Int) (rec : Int → Option Bool) (k0 : Bool → Option Bool) (k1 : Option Bool) : Option Bool :=
  cond (decide (b < (256 : Int)))
  (porterlaw12_CharsetSets_p2 N s t l or_ and_ less not_ of b
    (fun x6 => k0 x6)
    (rec (Go.IntKind.wrap Go.IntKind.i64 (b + (1 : Int)))))
  (k1)

noncomputable def porterlaw12_CharsetSets_p1 (N : Nat) (s : (List Int)) (t : (List Int)) (l : (List Int)) (or_ : (List Int)) (and_ : (List Int)) (less : (List Int)) (not_ : (List Int)) (of : (List Int)) (b : Int) (k0 : Bool → Option Bool) (k1 : Option Bool) : Option Bool :=
  iter (fun (v : Int) r => porterlaw12_CharsetSets_s1 N s t l or_ and_ less not_ of v (fun b => (r b)) k0 k1) N b

noncomputable def porterlaw12_CharsetSets_g1 (N : Nat) (i : ((List Int) × (List Int) × (List Int) × (List Int) × (List Int) × (List Int) × (List Int) × (List Int))) (v : Int) (r : Int → Option Bool) (K : Ex → List A → Option Bool) : Option Bool :=
  porterlaw12_CharsetSets_s1 N i.1 i.2.1 i.2.2.1 i.2.2.2.1 i.2.2.2.2.1 i.2.2.2.2.2.1 i.2.2.2.2.2.2.1 i.2.2.2.2.2.2.2 v (fun b => (r b)) (fun a0 => (K .ret (mkS [(6, .v .bool)] 99 (a0, ())))) (K (.exit 0) (mkS [] 106 ()))

noncomputable def porterlaw12_CharsetSets_h1 (N : Nat) : Hd Bool := fun st K => (unS [(3, .box (.arr 4 (.int .u64))), (0, .box (.arr 4 (.int .u64))), (0, .box (.arr 2 (.int .u8))), (1, .box (.arr 4 (.int .u64))), (0, .box (.arr 4 (.int .u64))), (0, .box (.arr 4 (.int .u64))), (0, .box (.arr 4 (.int .u64))), (0, .box (.arr 4 (.int .u64))), (0, .v (.int .i64))] 93 (restr [12, 3, 4, 7, 8, 9, 10, 11, 5] 0 st)).bind fun x => iter (fun v r => porterlaw12_CharsetSets_g1 N ((fun x => (x.1, x.2.1, x.2.2.1, x.2.2.2.1, x.2.2.2.2.1, x.2.2.2.2.2.1, x.2.2.2.2.2.2.1, x.2.2.2.2.2.2.2.1)) x) v r K) N ((fun x => x.2.2.2.2.2.2.2.2.1) x)

noncomputable def porterlaw12_CharsetSets_t1 (N : Nat) : Tab Bool := [([0, 1, 0, 0, 1, 0, 1, 1], porterlaw12_CharsetSets_h2 N)]

theorem porterlaw12_CharsetSets_ok1 {N : Nat} {c : Ctx} (hb : Base Go.Proofs.Tryd.prog (porterlaw12_CharsetSets_E N) c) : CodeOk Go.Proofs.Tryd.prog c (nodeAt porterlaw12_CharsetSets_body [0, 1, 0, 1, 1]) (porterlaw12_CharsetSets_h1 N) :=
  loop_ok (s := [(3, .box (.arr 4 (.int .u64))), (0, .box (.arr 4 (.int .u64))), (0, .box (.arr 2 (.int .u8))), (1, .box (.arr 4 (.int .u64))), (0, .box (.arr 4 (.int .u64))), (0, .box (.arr 4 (.int .u64))), (0, .box (.arr 4 (.int .u64))), (0, .box (.arr 4 (.int .u64))), (0, .v (.int .i64))]) (m := 93) (porterlaw12_CharsetSets_g1 N) [12, 3, 4, 7, 8, 9, 10, 11, 5] N (fun x => (x.1, x.2.1, x.2.2.1, x.2.2.2.1, x.2.2.2.2.1, x.2.2.2.2.2.1, x.2.2.2.2.2.2.1, x.2.2.2.2.2.2.2.1)) (fun x => x.2.2.2.2.2.2.2.2.1) (fun i v => (i.1, i.2.1, i.2.2.1, i.2.2.2.1, i.2.2.2.2.1, i.2.2.2.2.2.1, i.2.2.2.2.2.2.1, i.2.2.2.2.2.2.2, v, ())) (fun _ => rfl) (evN_sound hb N (porterlaw12_CharsetSets_t1 N) porterlaw12_CharsetSets_L porterlaw12_CharsetSets_body (TabOk.cons (porterlaw12_CharsetSets_ok2 hb) TabOk.nil) [0, 0, 1, 0, 1, 1] _ rfl) (fun i v r K => by kernel_rfl)

noncomputable def porterlaw12_CharsetSets (N : Nat) (s : (List Int)) (t : (List Int)) (l : (List Int)) : Option Bool :=
  (charset_Or N s t).bind fun y =>
  (charset_And N s t).bind fun y1 =>
  (charset_Less N s t).bind fun y2 =>
  (charset_Not N s).bind fun y3 =>
  cond (decide (0 < (List.length l)))
  (cond (decide (1 < (List.length l)))
    ((charset_Of N (List.getD l 0 (0 : Int)) (List.getD l 1 (0 : Int))).bind fun y4 =>
      porterlaw12_CharsetSets_p1 N s t l y y1 y2 y3 y4 (0 : Int)
      (fun x6 => some x6)
      ((porterlaw12_works N).bind fun y5 =>
        some y5))
    (none))
  (none)

noncomputable def porterlaw12_CharsetSets_t (N : Nat) : Tab Bool := [([0, 1, 0, 1, 1], porterlaw12_CharsetSets_h1 N)]

theorem porterlaw12_CharsetSets_link (N : Nat) (x : denS [(0, .v (.arr 4 (.int .u64))), (0, .v (.arr 4 (.int .u64))), (0, .v (.arr 2 (.int .u8)))]) : evFX (porterlaw12_CharsetSets_E N) N (porterlaw12_CharsetSets_t N) porterlaw12_CharsetSets_L Go.Proofs.Tryd.f3 (mkS [(0, .v (.arr 4 (.int .u64))), (0, .v (.arr 4 (.int .u64))), (0, .v (.arr 2 (.int .u8)))] 0 x) (kRes (.v .bool) 3) = porterlaw12_CharsetSets N x.1 x.2.1 x.2.2.1 := by kernel_rfl

noncomputable def porterlaw12_CharsetSets_res (N : Nat) : List A → Res := resOf [(0, .v (.arr 4 (.int .u64))), (0, .v (.arr 4 (.int .u64))), (0, .v (.arr 2 (.int .u8)))] (fun x => porterlaw12_CharsetSets N x.1 x.2.1 x.2.2.1) (oRes (.v .bool) 3)

theorem porterlaw12_CharsetSets_ct (N : Nat) : Contract Go.Proofs.Tryd.prog glob 3 (porterlaw12_CharsetSets_res N) :=
  Contract.of (E := porterlaw12_CharsetSets_E N) (H := porterlaw12_CharsetSets_t N) (L := porterlaw12_CharsetSets_L) (N := N) (body := porterlaw12_CharsetSets_body) (K := (kRes (.v .bool) 3)) (porterlaw12_CharsetSets_Eok N) Go.Proofs.Tryd.func3 (by kernel_rfl) (by decide) (fun _ hb => (TabOk.cons (porterlaw12_CharsetSets_ok1 hb) TabOk.nil)) (fun x y h => by rw [porterlaw12_CharsetSets_link]; exact h) (kRes_ok (s := (.v .bool)) (m := 3))

end Go.Proofs.YtohnhefabpcfpaaDoorLg
