/- The functions of the seat, as plain functions, and what their calls do. Printed by a program of mine; checked here. -/
import Derived.Test.YtjeabejfmcmkdaaDoorLfW
import Derived.Test.YtjeabejfmcmkdaaDoorChecked
import Derived.KernelRfl
set_option linter.all false
set_option maxRecDepth 100000
namespace Go.Proofs.YtjeabejfmcmkdaaDoorLf
open Go Go.Lift

noncomputable def ty3 : TyI := ⟨(Go.TypeDesc.int Go.IntKind.i64), 1, 8, (.int .i64), (0 : Int), false⟩

theorem ty3_ok : TyOk Go.Proofs.Tryd.prog 3 ty3 := TyOk.of (by kernel_rfl) (by kernel_rfl) (by kernel_rfl) (by kernel_rfl)

noncomputable def ty4 : TyI := ⟨Go.TypeDesc.bool, 1, 1, .bool, false, false⟩

theorem ty4_ok : TyOk Go.Proofs.Tryd.prog 4 ty4 := TyOk.of (by kernel_rfl) (by kernel_rfl) (by kernel_rfl) (by kernel_rfl)

noncomputable def ty5 : TyI := ⟨(Go.TypeDesc.int Go.IntKind.u8), 1, 1, (.int .u8), (0 : Int), false⟩

theorem ty5_ok : TyOk Go.Proofs.Tryd.prog 5 ty5 := TyOk.of (by kernel_rfl) (by kernel_rfl) (by kernel_rfl) (by kernel_rfl)

noncomputable def ty9 : TyI := ⟨Go.TypeDesc.string, 1, 16, .str, ([] : List UInt8), false⟩

theorem ty9_ok : TyOk Go.Proofs.Tryd.prog 9 ty9 := TyOk.of (by kernel_rfl) (by kernel_rfl) (by kernel_rfl) (by kernel_rfl)

noncomputable def ty25 : TyI := ⟨(Go.TypeDesc.int Go.IntKind.u32), 1, 4, (.int .u32), (0 : Int), false⟩

theorem ty25_ok : TyOk Go.Proofs.Tryd.prog 25 ty25 := TyOk.of (by kernel_rfl) (by kernel_rfl) (by kernel_rfl) (by kernel_rfl)

noncomputable def ty26 : TyI := ⟨(Go.TypeDesc.array 8 25), 8, 32, (.arr 8 (.int .u32)), ([(0 : Int), (0 : Int), (0 : Int), (0 : Int), (0 : Int), (0 : Int), (0 : Int), (0 : Int)] : List Int), true⟩

theorem ty26_ok : TyOk Go.Proofs.Tryd.prog 26 ty26 := TyOk.of (by kernel_rfl) (by kernel_rfl) (by kernel_rfl) (by kernel_rfl)

noncomputable def ty27 : TyI := ⟨(Go.TypeDesc.array 8 25), 8, 32, (.arr 8 (.int .u32)), ([(0 : Int), (0 : Int), (0 : Int), (0 : Int), (0 : Int), (0 : Int), (0 : Int), (0 : Int)] : List Int), true⟩

theorem ty27_ok : TyOk Go.Proofs.Tryd.prog 27 ty27 := TyOk.of (by kernel_rfl) (by kernel_rfl) (by kernel_rfl) (by kernel_rfl)

noncomputable def ty35 : TyI := ⟨(Go.TypeDesc.slice 9), 1, 24, (.sl .str), ([] : List (List UInt8)), false⟩

theorem ty35_ok : TyOk Go.Proofs.Tryd.prog 35 ty35 := TyOk.of (by kernel_rfl) (by kernel_rfl) (by kernel_rfl) (by kernel_rfl)

noncomputable def ty36 : TyI := ⟨(Go.TypeDesc.pointer 42), 1, 8, .opq, (Go.Value.pointer none), false⟩

theorem ty36_ok : TyOk Go.Proofs.Tryd.prog 36 ty36 := TyOk.of (by kernel_rfl) (by kernel_rfl) (by kernel_rfl) (by kernel_rfl)

noncomputable def ty42 : TyI := ⟨(Go.TypeDesc.struct (List.toArray ([(Go.Field.mk "made" 4 0 false "" "porter/sha" 0), (Go.Field.mk "words" 27 1 false "" "porter/sha" 4), (Go.Field.mk "rest" 9 9 false "" "porter/sha" 40), (Go.Field.mk "long" 3 10 false "" "porter/sha" 56)] : List Go.Field))), 11, 64, (.pair .bool (.pair (.arr 8 (.int .u32)) (.pair .str (.pair (.int .i64) .unit)))), (false, ([(0 : Int), (0 : Int), (0 : Int), (0 : Int), (0 : Int), (0 : Int), (0 : Int), (0 : Int)] : List Int), ([] : List UInt8), (0 : Int), ()), true⟩

theorem ty42_ok : TyOk Go.Proofs.Tryd.prog 42 ty42 := TyOk.of (by kernel_rfl) (by kernel_rfl) (by kernel_rfl) (by kernel_rfl)

noncomputable def ty63 : TyI := ⟨(Go.TypeDesc.slice 25), 1, 24, (.sl (.int .u32)), ([] : List Int), false⟩

theorem ty63_ok : TyOk Go.Proofs.Tryd.prog 63 ty63 := TyOk.of (by kernel_rfl) (by kernel_rfl) (by kernel_rfl) (by kernel_rfl)

noncomputable def ty67 : TyI := ⟨(Go.TypeDesc.slice 5), 1, 24, (.sl (.int .u8)), ([] : List Int), false⟩

theorem ty67_ok : TyOk Go.Proofs.Tryd.prog 67 ty67 := TyOk.of (by kernel_rfl) (by kernel_rfl) (by kernel_rfl) (by kernel_rfl)

noncomputable def ty68 : TyI := ⟨(Go.TypeDesc.int Go.IntKind.u64), 1, 8, (.int .u64), (0 : Int), false⟩

theorem ty68_ok : TyOk Go.Proofs.Tryd.prog 68 ty68 := TyOk.of (by kernel_rfl) (by kernel_rfl) (by kernel_rfl) (by kernel_rfl)

noncomputable def ty69 : TyI := ⟨(Go.TypeDesc.int Go.IntKind.u64), 1, 8, (.int .u64), (0 : Int), false⟩

theorem ty69_ok : TyOk Go.Proofs.Tryd.prog 69 ty69 := TyOk.of (by kernel_rfl) (by kernel_rfl) (by kernel_rfl) (by kernel_rfl)

noncomputable def ty70 : TyI := ⟨(Go.TypeDesc.array 64 25), 64, 256, (.arr 64 (.int .u32)), ((0 : Int) :: (0 : Int) :: (0 : Int) :: (0 : Int) :: (0 : Int) :: (0 : Int) :: (0 : Int) :: (0 : Int) :: (0 : Int) :: (0 : Int) :: (0 : Int) :: (0 : Int) :: (0 : Int) :: (0 : Int) :: (0 : Int) :: (0 : Int) :: (0 : Int) :: (0 : Int) :: (0 : Int) :: (0 : Int) :: (0 : Int) :: (0 : Int) :: (0 : Int) :: (0 : Int) :: (0 : Int) :: (0 : Int) :: (0 : Int) :: (0 : Int) :: (0 : Int) :: (0 : Int) :: (0 : Int) :: (0 : Int) :: (0 : Int) :: (0 : Int) :: (0 : Int) :: (0 : Int) :: (0 : Int) :: (0 : Int) :: (0 : Int) :: (0 : Int) :: (0 : Int) :: (0 : Int) :: (0 : Int) :: (0 : Int) :: (0 : Int) :: (0 : Int) :: (0 : Int) :: (0 : Int) :: (0 : Int) :: (0 : Int) :: (0 : Int) :: (0 : Int) :: (0 : Int) :: (0 : Int) :: (0 : Int) :: (0 : Int) :: (0 : Int) :: (0 : Int) :: (0 : Int) :: (0 : Int) :: (0 : Int) :: (0 : Int) :: (0 : Int) :: (0 : Int) :: ([] : List Int)), true⟩

theorem ty70_ok : TyOk Go.Proofs.Tryd.prog 70 ty70 := TyOk.of (by kernel_rfl) (by kernel_rfl) (by kernel_rfl) (by kernel_rfl)

noncomputable def ty101 : TyI := ⟨(Go.TypeDesc.slice 68), 1, 24, (.sl (.int .u64)), ([] : List Int), false⟩

theorem ty101_ok : TyOk Go.Proofs.Tryd.prog 101 ty101 := TyOk.of (by kernel_rfl) (by kernel_rfl) (by kernel_rfl) (by kernel_rfl)

noncomputable def tys : List (Nat × TyI) := [(3, ty3), (4, ty4), (5, ty5), (9, ty9), (25, ty25), (26, ty26), (27, ty27), (35, ty35), (36, ty36), (42, ty42), (63, ty63), (67, ty67), (68, ty68), (69, ty69), (70, ty70), (101, ty101)]

theorem tys_ok : TysOk Go.Proofs.Tryd.prog tys := TysOk.cons ty3_ok (TysOk.cons ty4_ok (TysOk.cons ty5_ok (TysOk.cons ty9_ok (TysOk.cons ty25_ok (TysOk.cons ty26_ok (TysOk.cons ty27_ok (TysOk.cons ty35_ok (TysOk.cons ty36_ok (TysOk.cons ty42_ok (TysOk.cons ty63_ok (TysOk.cons ty67_ok (TysOk.cons ty68_ok (TysOk.cons ty69_ok (TysOk.cons ty70_ok (TysOk.cons ty101_ok (TysOk.nil))))))))))))))))

theorem mixed : Go.Proofs.Tryd.prog.follows .mixedOrders = true := by kernel_rfl

noncomputable def glob0 : List Int := [1116352408, 1899447441, 3049323471, 3921009573, 961987163, 1508970993, 2453635748, 2870763221, 3624381080, 310598401, 607225278, 1426881987, 1925078388, 2162078206, 2614888103, 3248222580, 3835390401, 4022224774, 264347078, 604807628, 770255983, 1249150122, 1555081692, 1996064986, 2554220882, 2821834349, 2952996808, 3210313671, 3336571891, 3584528711, 113926993, 338241895, 666307205, 773529912, 1294757372, 1396182291, 1695183700, 1986661051, 2177026350, 2456956037, 2730485921, 2820302411, 3259730800, 3345764771, 3516065817, 3600352804, 4094571909, 275423344, 430227734, 506948616, 659060556, 883997877, 958139571, 1322822218, 1537002063, 1747873779, 1955562222, 2024104815, 2227730452, 2361852424, 2428436474, 2756734187, 3204031479, 3329325298]

noncomputable def glob : Nat → Option Dat := lk [(0, ⟨(.arr 64 (.int .u32)), glob0⟩)]

abbrev sha_First_R : Type := (List Int)

noncomputable def sha_First_body : Code := (Go.Proofs.Tryd.f22.body).getD .skip

noncomputable def sha_First_L : List (List Nat × List Nat) := [([0], [0]), ([0, 1], [0]), ([1, 1], [0])]

noncomputable def sha_First_E (N : Nat) : Env := mkEnv tys glob [] [] [] [] false

theorem sha_First_Eok (N : Nat) : EnvOk Go.Proofs.Tryd.prog (sha_First_E N) := mkEnv_ok mixed tys_ok (FnsOk.nil)

noncomputable def sha_First (N : Nat) : Option (List Int) :=
  some ([(1779033703 : Int), (3144134277 : Int), (1013904242 : Int), (2773480762 : Int), (1359893119 : Int), (2600822924 : Int), (528734635 : Int), (1541459225 : Int)] : List Int)

noncomputable def sha_First_t (N : Nat) : Tab (List Int) := []

theorem sha_First_link (N : Nat) (x : denS []) : evFX (sha_First_E N) N (sha_First_t N) sha_First_L Go.Proofs.Tryd.f22 (mkS [] 0 x) (kRes (.v (.arr 8 (.int .u32))) 0) = sha_First N := by kernel_rfl

noncomputable def sha_First_res (N : Nat) : List A → Res := resOf [] (fun x => sha_First N) (oRes (.v (.arr 8 (.int .u32))) 0)

theorem sha_First_ct (N : Nat) : Contract Go.Proofs.Tryd.prog glob 22 (sha_First_res N) :=
  Contract.of (E := sha_First_E N) (H := sha_First_t N) (L := sha_First_L) (N := N) (body := sha_First_body) (K := (kRes (.v (.arr 8 (.int .u32))) 0)) (sha_First_Eok N) Go.Proofs.Tryd.func22 (by kernel_rfl) (by decide) (fun _ hb => TabOk.nil) (fun x y h => by rw [sha_First_link]; exact h) (kRes_ok (s := (.v (.arr 8 (.int .u32)))) (m := 0))

abbrev sha_New_R : Type := (Bool × ((List Int) × ((List UInt8) × (Int × Unit))))

noncomputable def sha_New_body : Code := (Go.Proofs.Tryd.f24.body).getD .skip

noncomputable def sha_New_L : List (List Nat × List Nat) := [([0], []), ([0, 1], [0]), ([1, 1], [0])]

noncomputable def sha_New_E (N : Nat) : Env := mkEnv tys glob [(22, sha_First_res N)] [] [] [] false

theorem sha_New_Eok (N : Nat) : EnvOk Go.Proofs.Tryd.prog (sha_New_E N) := mkEnv_ok mixed tys_ok (FnsOk.cons (sha_First_ct N) (FnsOk.nil))

noncomputable def sha_New (N : Nat) : Option (Bool × ((List Int) × ((List UInt8) × (Int × Unit)))) :=
  some (true, (([(1779033703 : Int), (3144134277 : Int), (1013904242 : Int), (2773480762 : Int), (1359893119 : Int), (2600822924 : Int), (528734635 : Int), (1541459225 : Int)] : List Int), (([] : List UInt8), ((0 : Int), ()))))

noncomputable def sha_New_t (N : Nat) : Tab (Bool × ((List Int) × ((List UInt8) × (Int × Unit)))) := []

theorem sha_New_link (N : Nat) (x : denS []) : evFX (sha_New_E N) N (sha_New_t N) sha_New_L Go.Proofs.Tryd.f24 (mkS [] 0 x) (kRes (.box (.pair .bool (.pair (.arr 8 (.int .u32)) (.pair .str (.pair (.int .i64) .unit))))) 0) = sha_New N := by kernel_rfl

noncomputable def sha_New_res (N : Nat) : List A → Res := resOf [] (fun x => sha_New N) (oRes (.box (.pair .bool (.pair (.arr 8 (.int .u32)) (.pair .str (.pair (.int .i64) .unit))))) 0)

theorem sha_New_ct (N : Nat) : Contract Go.Proofs.Tryd.prog glob 24 (sha_New_res N) :=
  Contract.of (E := sha_New_E N) (H := sha_New_t N) (L := sha_New_L) (N := N) (body := sha_New_body) (K := (kRes (.box (.pair .bool (.pair (.arr 8 (.int .u32)) (.pair .str (.pair (.int .i64) .unit))))) 0)) (sha_New_Eok N) Go.Proofs.Tryd.func24 (by kernel_rfl) (by decide) (fun _ hb => TabOk.nil) (fun x y h => by rw [sha_New_link]; exact h) (kRes_ok (s := (.box (.pair .bool (.pair (.arr 8 (.int .u32)) (.pair .str (.pair (.int .i64) .unit)))))) (m := 0))

abbrev math_bits_RotateLeft32_R : Type := Int

noncomputable def math_bits_RotateLeft32_body : Code := (Go.Proofs.Tryd.f84.body).getD .skip

noncomputable def math_bits_RotateLeft32_L : List (List Nat × List Nat) := [([0], [1, 0]), ([0, 1], [0, 5]), ([0, 1, 1], [4]), ([1, 1, 1], [4])]

noncomputable def math_bits_RotateLeft32_E (N : Nat) : Env := mkEnv tys glob [] [] [] [] false

theorem math_bits_RotateLeft32_Eok (N : Nat) : EnvOk Go.Proofs.Tryd.prog (math_bits_RotateLeft32_E N) := mkEnv_ok mixed tys_ok (FnsOk.nil)

noncomputable def math_bits_RotateLeft32 (N : Nat) (x0 : Int) (k : Int) : Option Int :=
  cond (decide ((0 : Int) ≤ (Go.IntKind.wrap Go.IntKind.u64 ((32 : Int) - (Go.Lift.bitsOp Go.BinOp.and Go.IntKind.u64 (Go.IntKind.wrap Go.IntKind.u64 k) (31 : Int))))))
  (some (Go.Lift.bitsOp Go.BinOp.or Go.IntKind.u32 (Go.Lift.shlI Go.IntKind.u32 x0 (Go.Lift.bitsOp Go.BinOp.and Go.IntKind.u64 (Go.IntKind.wrap Go.IntKind.u64 k) (31 : Int))) (Go.Lift.shrI Go.IntKind.u32 x0 (Go.IntKind.wrap Go.IntKind.u64 ((32 : Int) - (Go.Lift.bitsOp Go.BinOp.and Go.IntKind.u64 (Go.IntKind.wrap Go.IntKind.u64 k) (31 : Int)))))))
  (none)

noncomputable def math_bits_RotateLeft32_t (N : Nat) : Tab Int := []

theorem math_bits_RotateLeft32_link (N : Nat) (x : denS [(0, .v (.int .u32)), (0, .v (.int .i64))]) : evFX (math_bits_RotateLeft32_E N) N (math_bits_RotateLeft32_t N) math_bits_RotateLeft32_L Go.Proofs.Tryd.f84 (mkS [(0, .v (.int .u32)), (0, .v (.int .i64))] 0 x) (kRes (.v (.int .u32)) 2) = math_bits_RotateLeft32 N x.1 x.2.1 := by kernel_rfl

noncomputable def math_bits_RotateLeft32_res (N : Nat) : List A → Res := resOf [(0, .v (.int .u32)), (0, .v (.int .i64))] (fun x => math_bits_RotateLeft32 N x.1 x.2.1) (oRes (.v (.int .u32)) 2)

theorem math_bits_RotateLeft32_ct (N : Nat) : Contract Go.Proofs.Tryd.prog glob 84 (math_bits_RotateLeft32_res N) :=
  Contract.of (E := math_bits_RotateLeft32_E N) (H := math_bits_RotateLeft32_t N) (L := math_bits_RotateLeft32_L) (N := N) (body := math_bits_RotateLeft32_body) (K := (kRes (.v (.int .u32)) 2)) (math_bits_RotateLeft32_Eok N) Go.Proofs.Tryd.func84 (by kernel_rfl) (by decide) (fun _ hb => TabOk.nil) (fun x y h => by rw [math_bits_RotateLeft32_link]; exact h) (kRes_ok (s := (.v (.int .u32))) (m := 2))

abbrev sha_ror_R : Type := Int

noncomputable def sha_ror_body : Code := (Go.Proofs.Tryd.f73.body).getD .skip

noncomputable def sha_ror_L : List (List Nat × List Nat) := [([0], [0, 1]), ([0, 1], [4]), ([1, 1], [4])]

noncomputable def sha_ror_E (N : Nat) : Env := mkEnv tys glob [(84, math_bits_RotateLeft32_res N)] [] [] [] false

theorem sha_ror_Eok (N : Nat) : EnvOk Go.Proofs.Tryd.prog (sha_ror_E N) := mkEnv_ok mixed tys_ok (FnsOk.cons (math_bits_RotateLeft32_ct N) (FnsOk.nil))

noncomputable def sha_ror (N : Nat) (x0 : Int) (n : Int) : Option Int :=
  (math_bits_RotateLeft32 N x0 (Go.IntKind.wrap Go.IntKind.i64 ((0 : Int) - n))).bind fun y =>
  some y

noncomputable def sha_ror_t (N : Nat) : Tab Int := []

theorem sha_ror_link (N : Nat) (x : denS [(0, .v (.int .u32)), (0, .v (.int .i64))]) : evFX (sha_ror_E N) N (sha_ror_t N) sha_ror_L Go.Proofs.Tryd.f73 (mkS [(0, .v (.int .u32)), (0, .v (.int .i64))] 0 x) (kRes (.v (.int .u32)) 2) = sha_ror N x.1 x.2.1 := by kernel_rfl

noncomputable def sha_ror_res (N : Nat) : List A → Res := resOf [(0, .v (.int .u32)), (0, .v (.int .i64))] (fun x => sha_ror N x.1 x.2.1) (oRes (.v (.int .u32)) 2)

theorem sha_ror_ct (N : Nat) : Contract Go.Proofs.Tryd.prog glob 73 (sha_ror_res N) :=
  Contract.of (E := sha_ror_E N) (H := sha_ror_t N) (L := sha_ror_L) (N := N) (body := sha_ror_body) (K := (kRes (.v (.int .u32)) 2)) (sha_ror_Eok N) Go.Proofs.Tryd.func73 (by kernel_rfl) (by decide) (fun _ hb => TabOk.nil) (fun x y h => by rw [sha_ror_link]; exact h) (kRes_ok (s := (.v (.int .u32))) (m := 2))

abbrev sha_schedule_R : Type := (List Int)

noncomputable def sha_schedule_body : Code := (Go.Proofs.Tryd.f52.body).getD .skip

noncomputable def sha_schedule_L : List (List Nat × List Nat) := [([0], [0, 2]), ([0, 1], [0, 3, 2]), ([0, 0, 1, 1], [11, 0, 3, 2]), ([0, 1, 0, 1, 1], [11, 0, 3, 2]), ([0, 0, 0, 1, 0, 1, 1], [12, 11, 0, 3, 2]), ([0, 1, 0, 0, 1, 0, 1, 1], [11, 0, 3, 2]), ([1, 0, 1, 0, 0, 1, 0, 1, 1], [3, 2]), ([0, 0, 0, 1, 1, 0, 0, 1, 0, 1, 1], [0, 4, 3, 11, 2]), ([0, 1, 0, 0, 1, 1, 0, 0, 1, 0, 1, 1], [4, 5, 3, 11, 0, 2]), ([1, 1, 0, 0, 1, 1, 0, 0, 1, 0, 1, 1], [11, 0, 3, 2]), ([0, 1, 1, 0, 0, 1, 0, 1, 1], [11, 0, 3, 2]), ([1, 1, 1, 0, 0, 1, 0, 1, 1], [11, 0, 3, 2]), ([1, 0, 1, 1], [3, 2]), ([0, 0, 1, 1, 1], [6, 3, 2]), ([0, 1, 0, 1, 1, 1], [6, 3, 2]), ([0, 0, 0, 0, 1, 0, 1, 1, 1], [43, 6, 3, 2]), ([1, 0, 0, 0, 1, 0, 1, 1, 1], [6, 3, 2]), ([1, 1, 0, 0, 0, 1, 0, 1, 1, 1], [3, 2]), ([0, 0, 0, 1, 0, 0, 1, 0, 1, 1, 1], [7, 8, 6, 3, 2]), ([0, 1, 0, 0, 1, 0, 0, 1, 0, 1, 1, 1], [8, 6, 3, 9, 2]), ([0, 1, 1, 0, 0, 1, 0, 0, 1, 0, 1, 1, 1], [6, 10, 3, 9, 2]), ([1, 1, 1, 0, 0, 1, 0, 0, 1, 0, 1, 1, 1], [6, 3, 2]), ([0, 1, 0, 0, 1, 0, 1, 1, 1], [6, 3, 2]), ([1, 1, 0, 0, 1, 0, 1, 1, 1], [6, 3, 2]), ([1, 0, 1, 1, 1], [3, 2]), ([0, 1, 1, 1, 1], [2]), ([1, 1, 1, 1, 1], [2])]

noncomputable def sha_schedule_E (N : Nat) : Env := mkEnv tys glob [(73, sha_ror_res N)] [] [] [] false

theorem sha_schedule_Eok (N : Nat) : EnvOk Go.Proofs.Tryd.prog (sha_schedule_E N) := mkEnv_ok mixed tys_ok (FnsOk.cons (sha_ror_ct N) (FnsOk.nil))

noncomputable def sha_schedule_s1 (N : Nat) (block : (List UInt8)) (x2 : (List Int)) (w : (List Int)) (x11 : Int) (rec : (List Int) → Int → Option (List Int)) (k0 : (List Int) → Option (List Int)) : Option (List Int) :=
  cond (decide (x11 < (16 : Int)))
  (cond (decide (((0 : Int) ≤ (Go.IntKind.wrap Go.IntKind.i64 ((Go.IntKind.wrap Go.IntKind.i64 ((4 : Int) * x11)) + (4 : Int)))) ∧ ((Go.IntKind.wrap Go.IntKind.i64 ((Go.IntKind.wrap Go.IntKind.i64 ((4 : Int) * x11)) + (4 : Int))) ≤ (((List.length block) : Nat) : Int))))
    (cond (decide (((0 : Int) ≤ (Go.IntKind.wrap Go.IntKind.i64 ((4 : Int) * x11))) ∧ ((Go.IntKind.wrap Go.IntKind.i64 ((4 : Int) * x11)) ≤ (Go.IntKind.wrap Go.IntKind.i64 ((Go.IntKind.wrap Go.IntKind.i64 ((4 : Int) * x11)) + (4 : Int))))))
      (cond (Go.Lift.inR (0 : Int) (List.length (Go.Lift.cut block (Int.toNat (Go.IntKind.wrap Go.IntKind.i64 ((4 : Int) * x11))) (Int.toNat (Go.IntKind.wrap Go.IntKind.i64 ((Go.IntKind.wrap Go.IntKind.i64 ((4 : Int) * x11)) + (4 : Int)))))))
        (cond (Go.Lift.inR (1 : Int) (List.length (Go.Lift.cut block (Int.toNat (Go.IntKind.wrap Go.IntKind.i64 ((4 : Int) * x11))) (Int.toNat (Go.IntKind.wrap Go.IntKind.i64 ((Go.IntKind.wrap Go.IntKind.i64 ((4 : Int) * x11)) + (4 : Int)))))))
          (cond (Go.Lift.inR (2 : Int) (List.length (Go.Lift.cut block (Int.toNat (Go.IntKind.wrap Go.IntKind.i64 ((4 : Int) * x11))) (Int.toNat (Go.IntKind.wrap Go.IntKind.i64 ((Go.IntKind.wrap Go.IntKind.i64 ((4 : Int) * x11)) + (4 : Int)))))))
            (cond (Go.Lift.inR (3 : Int) (List.length (Go.Lift.cut block (Int.toNat (Go.IntKind.wrap Go.IntKind.i64 ((4 : Int) * x11))) (Int.toNat (Go.IntKind.wrap Go.IntKind.i64 ((Go.IntKind.wrap Go.IntKind.i64 ((4 : Int) * x11)) + (4 : Int)))))))
              (cond (Go.Lift.inR x11 64)
                (cond (decide ((Int.toNat x11) < (List.length w)))
                  (rec (List.set w (Int.toNat x11) (Go.Lift.bitsOp Go.BinOp.or Go.IntKind.u32 (Go.Lift.bitsOp Go.BinOp.or Go.IntKind.u32 (Go.Lift.bitsOp Go.BinOp.or Go.IntKind.u32 (Go.Lift.shlI Go.IntKind.u32 (Go.IntKind.wrap Go.IntKind.u32 (((UInt8.toNat (List.getD (Go.Lift.cut block (Int.toNat (Go.IntKind.wrap Go.IntKind.i64 ((4 : Int) * x11))) (Int.toNat (Go.IntKind.wrap Go.IntKind.i64 ((Go.IntKind.wrap Go.IntKind.i64 ((4 : Int) * x11)) + (4 : Int))))) 0 (0 : UInt8))) : Nat) : Int)) (24 : Int)) (Go.Lift.shlI Go.IntKind.u32 (Go.IntKind.wrap Go.IntKind.u32 (((UInt8.toNat (List.getD (Go.Lift.cut block (Int.toNat (Go.IntKind.wrap Go.IntKind.i64 ((4 : Int) * x11))) (Int.toNat (Go.IntKind.wrap Go.IntKind.i64 ((Go.IntKind.wrap Go.IntKind.i64 ((4 : Int) * x11)) + (4 : Int))))) 1 (0 : UInt8))) : Nat) : Int)) (16 : Int))) (Go.Lift.shlI Go.IntKind.u32 (Go.IntKind.wrap Go.IntKind.u32 (((UInt8.toNat (List.getD (Go.Lift.cut block (Int.toNat (Go.IntKind.wrap Go.IntKind.i64 ((4 : Int) * x11))) (Int.toNat (Go.IntKind.wrap Go.IntKind.i64 ((Go.IntKind.wrap Go.IntKind.i64 ((4 : Int) * x11)) + (4 : Int))))) 2 (0 : UInt8))) : Nat) : Int)) (8 : Int))) (Go.IntKind.wrap Go.IntKind.u32 (((UInt8.toNat (List.getD (Go.Lift.cut block (Int.toNat (Go.IntKind.wrap Go.IntKind.i64 ((4 : Int) * x11))) (Int.toNat (Go.IntKind.wrap Go.IntKind.i64 ((Go.IntKind.wrap Go.IntKind.i64 ((4 : Int) * x11)) + (4 : Int))))) 3 (0 : UInt8))) : Nat) : Int)))) (Go.IntKind.wrap Go.IntKind.i64 (x11 + (1 : Int))))
                  (none))
                (none))
              (none))
            (none))
          (none))
        (none))
      (none))
    (none))
  (k0 w)

noncomputable def sha_schedule_p1 (N : Nat) (block : (List UInt8)) (x2 : (List Int)) (w : (List Int)) (x11 : Int) (k0 : (List Int) → Option (List Int)) : Option (List Int) :=
  iter (fun (v : ((List Int) × Int)) r => sha_schedule_s1 N block x2 v.1 v.2 (fun w x11 => (r (w, x11))) k0) N (w, x11)

noncomputable def sha_schedule_g1 (N : Nat) (i : ((List UInt8) × (List Int))) (v : ((List Int) × Int)) (r : ((List Int) × Int) → Option (List Int)) (K : Ex → List A → Option (List Int)) : Option (List Int) :=
  sha_schedule_s1 N i.1 i.2 v.1 v.2 (fun w x11 => (r (w, x11))) (fun a1 => (K (.exit 0) (mkS [(2, .box (.arr 64 (.int .u32))), (0, .box (.arr 64 (.int .u32)))] 82 (i.2, a1, ()))))

noncomputable def sha_schedule_h1 (N : Nat) : Hd (List Int) := fun st K => (unS [(0, .v .str), (1, .box (.arr 64 (.int .u32))), (0, .box (.arr 64 (.int .u32))), (7, .v (.int .i64))] 74 (restr [11, 0, 3, 2] 0 st)).bind fun x => iter (fun v r => sha_schedule_g1 N ((fun x => (x.1, x.2.1)) x) v r K) N ((fun x => (x.2.2.1, x.2.2.2.1)) x)

noncomputable def sha_schedule_t1 (N : Nat) : Tab (List Int) := []

theorem sha_schedule_ok1 {N : Nat} {c : Ctx} (hb : Base Go.Proofs.Tryd.prog (sha_schedule_E N) c) : CodeOk Go.Proofs.Tryd.prog c (nodeAt sha_schedule_body [0, 1, 0, 1, 1]) (sha_schedule_h1 N) :=
  loop_ok (s := [(0, .v .str), (1, .box (.arr 64 (.int .u32))), (0, .box (.arr 64 (.int .u32))), (7, .v (.int .i64))]) (m := 74) (sha_schedule_g1 N) [11, 0, 3, 2] N (fun x => (x.1, x.2.1)) (fun x => (x.2.2.1, x.2.2.2.1)) (fun i v => (i.1, i.2, v.1, v.2, ())) (fun _ => rfl) (evN_sound hb N (sha_schedule_t1 N) sha_schedule_L sha_schedule_body TabOk.nil [0, 0, 1, 0, 1, 1] _ rfl) (fun i v r K => by kernel_rfl)

noncomputable def sha_schedule_s2 (N : Nat) (x2 : (List Int)) (w : (List Int)) (t : Int) (rec : (List Int) → Int → Option (List Int)) (k0 : (List Int) → Option (List Int)) : Option (List Int) :=
  cond (decide (t < (64 : Int)))
  (cond (Go.Lift.inR (Go.IntKind.wrap Go.IntKind.i64 (t - (15 : Int))) 64)
    (cond (decide ((Int.toNat (Go.IntKind.wrap Go.IntKind.i64 (t - (15 : Int)))) < (List.length w)))
      (cond (Go.Lift.inR (Go.IntKind.wrap Go.IntKind.i64 (t - (2 : Int))) 64)
        (cond (decide ((Int.toNat (Go.IntKind.wrap Go.IntKind.i64 (t - (2 : Int)))) < (List.length w)))
          (cond (Go.Lift.inR (Go.IntKind.wrap Go.IntKind.i64 (t - (7 : Int))) 64)
            (cond (decide ((Int.toNat (Go.IntKind.wrap Go.IntKind.i64 (t - (7 : Int)))) < (List.length w)))
              (cond (Go.Lift.inR (Go.IntKind.wrap Go.IntKind.i64 (t - (16 : Int))) 64)
                (cond (decide ((Int.toNat (Go.IntKind.wrap Go.IntKind.i64 (t - (16 : Int)))) < (List.length w)))
                  (cond (Go.Lift.inR t 64)
                    (cond (decide ((Int.toNat t) < (List.length w)))
                      (rec (List.set w (Int.toNat t) (Go.IntKind.wrap Go.IntKind.u32 ((Go.IntKind.wrap Go.IntKind.u32 ((Go.IntKind.wrap Go.IntKind.u32 ((Go.Lift.bitsOp Go.BinOp.xor Go.IntKind.u32 (Go.Lift.bitsOp Go.BinOp.xor Go.IntKind.u32 (Go.Lift.bitsOp Go.BinOp.or Go.IntKind.u32 (Go.Lift.shlI Go.IntKind.u32 (List.getD w (Int.toNat (Go.IntKind.wrap Go.IntKind.i64 (t - (2 : Int)))) (0 : Int)) (Go.Lift.bitsOp Go.BinOp.and Go.IntKind.u64 (Go.IntKind.wrap Go.IntKind.u64 (Go.IntKind.wrap Go.IntKind.i64 ((0 : Int) - (17 : Int)))) (31 : Int))) (Go.Lift.shrI Go.IntKind.u32 (List.getD w (Int.toNat (Go.IntKind.wrap Go.IntKind.i64 (t - (2 : Int)))) (0 : Int)) (Go.IntKind.wrap Go.IntKind.u64 ((32 : Int) - (Go.Lift.bitsOp Go.BinOp.and Go.IntKind.u64 (Go.IntKind.wrap Go.IntKind.u64 (Go.IntKind.wrap Go.IntKind.i64 ((0 : Int) - (17 : Int)))) (31 : Int)))))) (Go.Lift.bitsOp Go.BinOp.or Go.IntKind.u32 (Go.Lift.shlI Go.IntKind.u32 (List.getD w (Int.toNat (Go.IntKind.wrap Go.IntKind.i64 (t - (2 : Int)))) (0 : Int)) (Go.Lift.bitsOp Go.BinOp.and Go.IntKind.u64 (Go.IntKind.wrap Go.IntKind.u64 (Go.IntKind.wrap Go.IntKind.i64 ((0 : Int) - (19 : Int)))) (31 : Int))) (Go.Lift.shrI Go.IntKind.u32 (List.getD w (Int.toNat (Go.IntKind.wrap Go.IntKind.i64 (t - (2 : Int)))) (0 : Int)) (Go.IntKind.wrap Go.IntKind.u64 ((32 : Int) - (Go.Lift.bitsOp Go.BinOp.and Go.IntKind.u64 (Go.IntKind.wrap Go.IntKind.u64 (Go.IntKind.wrap Go.IntKind.i64 ((0 : Int) - (19 : Int)))) (31 : Int))))))) (Go.Lift.shrI Go.IntKind.u32 (List.getD w (Int.toNat (Go.IntKind.wrap Go.IntKind.i64 (t - (2 : Int)))) (0 : Int)) (10 : Int))) + (List.getD w (Int.toNat (Go.IntKind.wrap Go.IntKind.i64 (t - (7 : Int)))) (0 : Int)))) + (Go.Lift.bitsOp Go.BinOp.xor Go.IntKind.u32 (Go.Lift.bitsOp Go.BinOp.xor Go.IntKind.u32 (Go.Lift.bitsOp Go.BinOp.or Go.IntKind.u32 (Go.Lift.shlI Go.IntKind.u32 (List.getD w (Int.toNat (Go.IntKind.wrap Go.IntKind.i64 (t - (15 : Int)))) (0 : Int)) (Go.Lift.bitsOp Go.BinOp.and Go.IntKind.u64 (Go.IntKind.wrap Go.IntKind.u64 (Go.IntKind.wrap Go.IntKind.i64 ((0 : Int) - (7 : Int)))) (31 : Int))) (Go.Lift.shrI Go.IntKind.u32 (List.getD w (Int.toNat (Go.IntKind.wrap Go.IntKind.i64 (t - (15 : Int)))) (0 : Int)) (Go.IntKind.wrap Go.IntKind.u64 ((32 : Int) - (Go.Lift.bitsOp Go.BinOp.and Go.IntKind.u64 (Go.IntKind.wrap Go.IntKind.u64 (Go.IntKind.wrap Go.IntKind.i64 ((0 : Int) - (7 : Int)))) (31 : Int)))))) (Go.Lift.bitsOp Go.BinOp.or Go.IntKind.u32 (Go.Lift.shlI Go.IntKind.u32 (List.getD w (Int.toNat (Go.IntKind.wrap Go.IntKind.i64 (t - (15 : Int)))) (0 : Int)) (Go.Lift.bitsOp Go.BinOp.and Go.IntKind.u64 (Go.IntKind.wrap Go.IntKind.u64 (Go.IntKind.wrap Go.IntKind.i64 ((0 : Int) - (18 : Int)))) (31 : Int))) (Go.Lift.shrI Go.IntKind.u32 (List.getD w (Int.toNat (Go.IntKind.wrap Go.IntKind.i64 (t - (15 : Int)))) (0 : Int)) (Go.IntKind.wrap Go.IntKind.u64 ((32 : Int) - (Go.Lift.bitsOp Go.BinOp.and Go.IntKind.u64 (Go.IntKind.wrap Go.IntKind.u64 (Go.IntKind.wrap Go.IntKind.i64 ((0 : Int) - (18 : Int)))) (31 : Int))))))) (Go.Lift.shrI Go.IntKind.u32 (List.getD w (Int.toNat (Go.IntKind.wrap Go.IntKind.i64 (t - (15 : Int)))) (0 : Int)) (3 : Int))))) + (List.getD w (Int.toNat (Go.IntKind.wrap Go.IntKind.i64 (t - (16 : Int)))) (0 : Int))))) (Go.IntKind.wrap Go.IntKind.i64 (t + (1 : Int))))
                      (none))
                    (none))
                  (none))
                (none))
              (none))
            (none))
          (none))
        (none))
      (none))
    (none))
  (k0 w)

noncomputable def sha_schedule_p2 (N : Nat) (x2 : (List Int)) (w : (List Int)) (t : Int) (k0 : (List Int) → Option (List Int)) : Option (List Int) :=
  iter (fun (v : ((List Int) × Int)) r => sha_schedule_s2 N x2 v.1 v.2 (fun w t => (r (w, t))) k0) N (w, t)

noncomputable def sha_schedule_g2 (N : Nat) (i : (List Int)) (v : ((List Int) × Int)) (r : ((List Int) × Int) → Option (List Int)) (K : Ex → List A → Option (List Int)) : Option (List Int) :=
  sha_schedule_s2 N i v.1 v.2 (fun w t => (r (w, t))) (fun a1 => (K (.exit 2) (mkS [(2, .box (.arr 64 (.int .u32))), (0, .box (.arr 64 (.int .u32)))] 82 (i, a1, ()))))

noncomputable def sha_schedule_h2 (N : Nat) : Hd (List Int) := fun st K => (unS [(2, .box (.arr 64 (.int .u32))), (0, .box (.arr 64 (.int .u32))), (2, .v (.int .i64))] 79 (restr [6, 3, 2] 0 st)).bind fun x => iter (fun v r => sha_schedule_g2 N ((fun x => x.1) x) v r K) N ((fun x => (x.2.1, x.2.2.1)) x)

noncomputable def sha_schedule_t2 (N : Nat) : Tab (List Int) := []

theorem sha_schedule_ok2 {N : Nat} {c : Ctx} (hb : Base Go.Proofs.Tryd.prog (sha_schedule_E N) c) : CodeOk Go.Proofs.Tryd.prog c (nodeAt sha_schedule_body [0, 1, 0, 1, 1, 1]) (sha_schedule_h2 N) :=
  loop_ok (s := [(2, .box (.arr 64 (.int .u32))), (0, .box (.arr 64 (.int .u32))), (2, .v (.int .i64))]) (m := 79) (sha_schedule_g2 N) [6, 3, 2] N (fun x => x.1) (fun x => (x.2.1, x.2.2.1)) (fun i v => (i, v.1, v.2, ())) (fun _ => rfl) (evN_sound hb N (sha_schedule_t2 N) sha_schedule_L sha_schedule_body TabOk.nil [0, 0, 1, 0, 1, 1, 1] _ rfl) (fun i v r K => by kernel_rfl)

noncomputable def sha_schedule (N : Nat) (block : (List UInt8)) : Option (List Int) :=
  sha_schedule_p1 N block ((0 : Int) :: (0 : Int) :: (0 : Int) :: (0 : Int) :: (0 : Int) :: (0 : Int) :: (0 : Int) :: (0 : Int) :: (0 : Int) :: (0 : Int) :: (0 : Int) :: (0 : Int) :: (0 : Int) :: (0 : Int) :: (0 : Int) :: (0 : Int) :: (0 : Int) :: (0 : Int) :: (0 : Int) :: (0 : Int) :: (0 : Int) :: (0 : Int) :: (0 : Int) :: (0 : Int) :: (0 : Int) :: (0 : Int) :: (0 : Int) :: (0 : Int) :: (0 : Int) :: (0 : Int) :: (0 : Int) :: (0 : Int) :: (0 : Int) :: (0 : Int) :: (0 : Int) :: (0 : Int) :: (0 : Int) :: (0 : Int) :: (0 : Int) :: (0 : Int) :: (0 : Int) :: (0 : Int) :: (0 : Int) :: (0 : Int) :: (0 : Int) :: (0 : Int) :: (0 : Int) :: (0 : Int) :: (0 : Int) :: (0 : Int) :: (0 : Int) :: (0 : Int) :: (0 : Int) :: (0 : Int) :: (0 : Int) :: (0 : Int) :: (0 : Int) :: (0 : Int) :: (0 : Int) :: (0 : Int) :: (0 : Int) :: (0 : Int) :: (0 : Int) :: (0 : Int) :: ([] : List Int)) ((0 : Int) :: (0 : Int) :: (0 : Int) :: (0 : Int) :: (0 : Int) :: (0 : Int) :: (0 : Int) :: (0 : Int) :: (0 : Int) :: (0 : Int) :: (0 : Int) :: (0 : Int) :: (0 : Int) :: (0 : Int) :: (0 : Int) :: (0 : Int) :: (0 : Int) :: (0 : Int) :: (0 : Int) :: (0 : Int) :: (0 : Int) :: (0 : Int) :: (0 : Int) :: (0 : Int) :: (0 : Int) :: (0 : Int) :: (0 : Int) :: (0 : Int) :: (0 : Int) :: (0 : Int) :: (0 : Int) :: (0 : Int) :: (0 : Int) :: (0 : Int) :: (0 : Int) :: (0 : Int) :: (0 : Int) :: (0 : Int) :: (0 : Int) :: (0 : Int) :: (0 : Int) :: (0 : Int) :: (0 : Int) :: (0 : Int) :: (0 : Int) :: (0 : Int) :: (0 : Int) :: (0 : Int) :: (0 : Int) :: (0 : Int) :: (0 : Int) :: (0 : Int) :: (0 : Int) :: (0 : Int) :: (0 : Int) :: (0 : Int) :: (0 : Int) :: (0 : Int) :: (0 : Int) :: (0 : Int) :: (0 : Int) :: (0 : Int) :: (0 : Int) :: (0 : Int) :: ([] : List Int)) (0 : Int)
  (fun w => sha_schedule_p2 N ((0 : Int) :: (0 : Int) :: (0 : Int) :: (0 : Int) :: (0 : Int) :: (0 : Int) :: (0 : Int) :: (0 : Int) :: (0 : Int) :: (0 : Int) :: (0 : Int) :: (0 : Int) :: (0 : Int) :: (0 : Int) :: (0 : Int) :: (0 : Int) :: (0 : Int) :: (0 : Int) :: (0 : Int) :: (0 : Int) :: (0 : Int) :: (0 : Int) :: (0 : Int) :: (0 : Int) :: (0 : Int) :: (0 : Int) :: (0 : Int) :: (0 : Int) :: (0 : Int) :: (0 : Int) :: (0 : Int) :: (0 : Int) :: (0 : Int) :: (0 : Int) :: (0 : Int) :: (0 : Int) :: (0 : Int) :: (0 : Int) :: (0 : Int) :: (0 : Int) :: (0 : Int) :: (0 : Int) :: (0 : Int) :: (0 : Int) :: (0 : Int) :: (0 : Int) :: (0 : Int) :: (0 : Int) :: (0 : Int) :: (0 : Int) :: (0 : Int) :: (0 : Int) :: (0 : Int) :: (0 : Int) :: (0 : Int) :: (0 : Int) :: (0 : Int) :: (0 : Int) :: (0 : Int) :: (0 : Int) :: (0 : Int) :: (0 : Int) :: (0 : Int) :: (0 : Int) :: ([] : List Int)) w (16 : Int)
    (fun w1 => some w1))

noncomputable def sha_schedule_t (N : Nat) : Tab (List Int) := [([0, 1, 0, 1, 1], sha_schedule_h1 N), ([0, 1, 0, 1, 1, 1], sha_schedule_h2 N)]

theorem sha_schedule_link (N : Nat) (x : denS [(0, .v .str)]) : evFX (sha_schedule_E N) N (sha_schedule_t N) sha_schedule_L Go.Proofs.Tryd.f52 (mkS [(0, .v .str)] 0 x) (kRes (.v (.arr 64 (.int .u32))) 1) = sha_schedule N x.1 := by kernel_rfl

noncomputable def sha_schedule_res (N : Nat) : List A → Res := resOf [(0, .v .str)] (fun x => sha_schedule N x.1) (oRes (.v (.arr 64 (.int .u32))) 1)

theorem sha_schedule_ct (N : Nat) : Contract Go.Proofs.Tryd.prog glob 52 (sha_schedule_res N) :=
  Contract.of (E := sha_schedule_E N) (H := sha_schedule_t N) (L := sha_schedule_L) (N := N) (body := sha_schedule_body) (K := (kRes (.v (.arr 64 (.int .u32))) 1)) (sha_schedule_Eok N) Go.Proofs.Tryd.func52 (by kernel_rfl) (by decide) (fun _ hb => (TabOk.cons (sha_schedule_ok1 hb) (TabOk.cons (sha_schedule_ok2 hb) TabOk.nil))) (fun x y h => by rw [sha_schedule_link]; exact h) (kRes_ok (s := (.v (.arr 64 (.int .u32)))) (m := 1))

abbrev sha_round_R : Type := (List Int)

noncomputable def sha_round_body : Code := (Go.Proofs.Tryd.f53.body).getD .skip

noncomputable def sha_round_L : List (List Nat × List Nat) := [([0], [2, 1, 4]), ([0, 1], [12, 9, 10, 11, 1, 5, 6, 7, 8, 4]), ([0, 1, 1], [5, 6, 7, 13, 8, 9, 10, 11, 4]), ([0, 1, 1, 1], [13, 14, 5, 6, 7, 8, 9, 10, 11, 4]), ([0, 1, 1, 1, 1], [4]), ([1, 1, 1, 1, 1], [4])]

noncomputable def sha_round_E (N : Nat) : Env := mkEnv tys glob [(73, sha_ror_res N)] [] [] [] false

theorem sha_round_Eok (N : Nat) : EnvOk Go.Proofs.Tryd.prog (sha_round_E N) := mkEnv_ok mixed tys_ok (FnsOk.cons (sha_ror_ct N) (FnsOk.nil))

noncomputable def sha_round (N : Nat) (v : (List Int)) (k : Int) : Option (List Int) :=
  cond (decide (0 < (List.length v)))
  (cond (decide (1 < (List.length v)))
    (cond (decide (2 < (List.length v)))
      (cond (decide (3 < (List.length v)))
        (cond (decide (4 < (List.length v)))
          (cond (decide (5 < (List.length v)))
            (cond (decide (6 < (List.length v)))
              (cond (decide (7 < (List.length v)))
                (some ([(Go.IntKind.wrap Go.IntKind.u32 ((Go.IntKind.wrap Go.IntKind.u32 ((Go.IntKind.wrap Go.IntKind.u32 ((Go.IntKind.wrap Go.IntKind.u32 ((List.getD v 7 (0 : Int)) + (Go.Lift.bitsOp Go.BinOp.xor Go.IntKind.u32 (Go.Lift.bitsOp Go.BinOp.xor Go.IntKind.u32 (Go.Lift.bitsOp Go.BinOp.or Go.IntKind.u32 (Go.Lift.shlI Go.IntKind.u32 (List.getD v 4 (0 : Int)) (Go.Lift.bitsOp Go.BinOp.and Go.IntKind.u64 (Go.IntKind.wrap Go.IntKind.u64 (Go.IntKind.wrap Go.IntKind.i64 ((0 : Int) - (6 : Int)))) (31 : Int))) (Go.Lift.shrI Go.IntKind.u32 (List.getD v 4 (0 : Int)) (Go.IntKind.wrap Go.IntKind.u64 ((32 : Int) - (Go.Lift.bitsOp Go.BinOp.and Go.IntKind.u64 (Go.IntKind.wrap Go.IntKind.u64 (Go.IntKind.wrap Go.IntKind.i64 ((0 : Int) - (6 : Int)))) (31 : Int)))))) (Go.Lift.bitsOp Go.BinOp.or Go.IntKind.u32 (Go.Lift.shlI Go.IntKind.u32 (List.getD v 4 (0 : Int)) (Go.Lift.bitsOp Go.BinOp.and Go.IntKind.u64 (Go.IntKind.wrap Go.IntKind.u64 (Go.IntKind.wrap Go.IntKind.i64 ((0 : Int) - (11 : Int)))) (31 : Int))) (Go.Lift.shrI Go.IntKind.u32 (List.getD v 4 (0 : Int)) (Go.IntKind.wrap Go.IntKind.u64 ((32 : Int) - (Go.Lift.bitsOp Go.BinOp.and Go.IntKind.u64 (Go.IntKind.wrap Go.IntKind.u64 (Go.IntKind.wrap Go.IntKind.i64 ((0 : Int) - (11 : Int)))) (31 : Int))))))) (Go.Lift.bitsOp Go.BinOp.or Go.IntKind.u32 (Go.Lift.shlI Go.IntKind.u32 (List.getD v 4 (0 : Int)) (Go.Lift.bitsOp Go.BinOp.and Go.IntKind.u64 (Go.IntKind.wrap Go.IntKind.u64 (Go.IntKind.wrap Go.IntKind.i64 ((0 : Int) - (25 : Int)))) (31 : Int))) (Go.Lift.shrI Go.IntKind.u32 (List.getD v 4 (0 : Int)) (Go.IntKind.wrap Go.IntKind.u64 ((32 : Int) - (Go.Lift.bitsOp Go.BinOp.and Go.IntKind.u64 (Go.IntKind.wrap Go.IntKind.u64 (Go.IntKind.wrap Go.IntKind.i64 ((0 : Int) - (25 : Int)))) (31 : Int))))))))) + (Go.Lift.bitsOp Go.BinOp.xor Go.IntKind.u32 (Go.Lift.bitsOp Go.BinOp.and Go.IntKind.u32 (List.getD v 4 (0 : Int)) (List.getD v 5 (0 : Int))) (Go.Lift.bitsOp Go.BinOp.and Go.IntKind.u32 (Go.Lift.bitsOp Go.BinOp.xor Go.IntKind.u32 (if ((Go.IntKind.signed Go.IntKind.u32) = true) then (-(1 : Int)) else (Go.IntKind.max Go.IntKind.u32)) (List.getD v 4 (0 : Int))) (List.getD v 6 (0 : Int)))))) + k)) + (Go.IntKind.wrap Go.IntKind.u32 ((Go.Lift.bitsOp Go.BinOp.xor Go.IntKind.u32 (Go.Lift.bitsOp Go.BinOp.xor Go.IntKind.u32 (Go.Lift.bitsOp Go.BinOp.or Go.IntKind.u32 (Go.Lift.shlI Go.IntKind.u32 (List.getD v 0 (0 : Int)) (Go.Lift.bitsOp Go.BinOp.and Go.IntKind.u64 (Go.IntKind.wrap Go.IntKind.u64 (Go.IntKind.wrap Go.IntKind.i64 ((0 : Int) - (2 : Int)))) (31 : Int))) (Go.Lift.shrI Go.IntKind.u32 (List.getD v 0 (0 : Int)) (Go.IntKind.wrap Go.IntKind.u64 ((32 : Int) - (Go.Lift.bitsOp Go.BinOp.and Go.IntKind.u64 (Go.IntKind.wrap Go.IntKind.u64 (Go.IntKind.wrap Go.IntKind.i64 ((0 : Int) - (2 : Int)))) (31 : Int)))))) (Go.Lift.bitsOp Go.BinOp.or Go.IntKind.u32 (Go.Lift.shlI Go.IntKind.u32 (List.getD v 0 (0 : Int)) (Go.Lift.bitsOp Go.BinOp.and Go.IntKind.u64 (Go.IntKind.wrap Go.IntKind.u64 (Go.IntKind.wrap Go.IntKind.i64 ((0 : Int) - (13 : Int)))) (31 : Int))) (Go.Lift.shrI Go.IntKind.u32 (List.getD v 0 (0 : Int)) (Go.IntKind.wrap Go.IntKind.u64 ((32 : Int) - (Go.Lift.bitsOp Go.BinOp.and Go.IntKind.u64 (Go.IntKind.wrap Go.IntKind.u64 (Go.IntKind.wrap Go.IntKind.i64 ((0 : Int) - (13 : Int)))) (31 : Int))))))) (Go.Lift.bitsOp Go.BinOp.or Go.IntKind.u32 (Go.Lift.shlI Go.IntKind.u32 (List.getD v 0 (0 : Int)) (Go.Lift.bitsOp Go.BinOp.and Go.IntKind.u64 (Go.IntKind.wrap Go.IntKind.u64 (Go.IntKind.wrap Go.IntKind.i64 ((0 : Int) - (22 : Int)))) (31 : Int))) (Go.Lift.shrI Go.IntKind.u32 (List.getD v 0 (0 : Int)) (Go.IntKind.wrap Go.IntKind.u64 ((32 : Int) - (Go.Lift.bitsOp Go.BinOp.and Go.IntKind.u64 (Go.IntKind.wrap Go.IntKind.u64 (Go.IntKind.wrap Go.IntKind.i64 ((0 : Int) - (22 : Int)))) (31 : Int))))))) + (Go.Lift.bitsOp Go.BinOp.xor Go.IntKind.u32 (Go.Lift.bitsOp Go.BinOp.xor Go.IntKind.u32 (Go.Lift.bitsOp Go.BinOp.and Go.IntKind.u32 (List.getD v 0 (0 : Int)) (List.getD v 1 (0 : Int))) (Go.Lift.bitsOp Go.BinOp.and Go.IntKind.u32 (List.getD v 0 (0 : Int)) (List.getD v 2 (0 : Int)))) (Go.Lift.bitsOp Go.BinOp.and Go.IntKind.u32 (List.getD v 1 (0 : Int)) (List.getD v 2 (0 : Int)))))))), (List.getD v 0 (0 : Int)), (List.getD v 1 (0 : Int)), (List.getD v 2 (0 : Int)), (Go.IntKind.wrap Go.IntKind.u32 ((List.getD v 3 (0 : Int)) + (Go.IntKind.wrap Go.IntKind.u32 ((Go.IntKind.wrap Go.IntKind.u32 ((Go.IntKind.wrap Go.IntKind.u32 ((List.getD v 7 (0 : Int)) + (Go.Lift.bitsOp Go.BinOp.xor Go.IntKind.u32 (Go.Lift.bitsOp Go.BinOp.xor Go.IntKind.u32 (Go.Lift.bitsOp Go.BinOp.or Go.IntKind.u32 (Go.Lift.shlI Go.IntKind.u32 (List.getD v 4 (0 : Int)) (Go.Lift.bitsOp Go.BinOp.and Go.IntKind.u64 (Go.IntKind.wrap Go.IntKind.u64 (Go.IntKind.wrap Go.IntKind.i64 ((0 : Int) - (6 : Int)))) (31 : Int))) (Go.Lift.shrI Go.IntKind.u32 (List.getD v 4 (0 : Int)) (Go.IntKind.wrap Go.IntKind.u64 ((32 : Int) - (Go.Lift.bitsOp Go.BinOp.and Go.IntKind.u64 (Go.IntKind.wrap Go.IntKind.u64 (Go.IntKind.wrap Go.IntKind.i64 ((0 : Int) - (6 : Int)))) (31 : Int)))))) (Go.Lift.bitsOp Go.BinOp.or Go.IntKind.u32 (Go.Lift.shlI Go.IntKind.u32 (List.getD v 4 (0 : Int)) (Go.Lift.bitsOp Go.BinOp.and Go.IntKind.u64 (Go.IntKind.wrap Go.IntKind.u64 (Go.IntKind.wrap Go.IntKind.i64 ((0 : Int) - (11 : Int)))) (31 : Int))) (Go.Lift.shrI Go.IntKind.u32 (List.getD v 4 (0 : Int)) (Go.IntKind.wrap Go.IntKind.u64 ((32 : Int) - (Go.Lift.bitsOp Go.BinOp.and Go.IntKind.u64 (Go.IntKind.wrap Go.IntKind.u64 (Go.IntKind.wrap Go.IntKind.i64 ((0 : Int) - (11 : Int)))) (31 : Int))))))) (Go.Lift.bitsOp Go.BinOp.or Go.IntKind.u32 (Go.Lift.shlI Go.IntKind.u32 (List.getD v 4 (0 : Int)) (Go.Lift.bitsOp Go.BinOp.and Go.IntKind.u64 (Go.IntKind.wrap Go.IntKind.u64 (Go.IntKind.wrap Go.IntKind.i64 ((0 : Int) - (25 : Int)))) (31 : Int))) (Go.Lift.shrI Go.IntKind.u32 (List.getD v 4 (0 : Int)) (Go.IntKind.wrap Go.IntKind.u64 ((32 : Int) - (Go.Lift.bitsOp Go.BinOp.and Go.IntKind.u64 (Go.IntKind.wrap Go.IntKind.u64 (Go.IntKind.wrap Go.IntKind.i64 ((0 : Int) - (25 : Int)))) (31 : Int))))))))) + (Go.Lift.bitsOp Go.BinOp.xor Go.IntKind.u32 (Go.Lift.bitsOp Go.BinOp.and Go.IntKind.u32 (List.getD v 4 (0 : Int)) (List.getD v 5 (0 : Int))) (Go.Lift.bitsOp Go.BinOp.and Go.IntKind.u32 (Go.Lift.bitsOp Go.BinOp.xor Go.IntKind.u32 (if ((Go.IntKind.signed Go.IntKind.u32) = true) then (-(1 : Int)) else (Go.IntKind.max Go.IntKind.u32)) (List.getD v 4 (0 : Int))) (List.getD v 6 (0 : Int)))))) + k)))), (List.getD v 4 (0 : Int)), (List.getD v 5 (0 : Int)), (List.getD v 6 (0 : Int))] : List Int))
                (none))
              (none))
            (none))
          (none))
        (none))
      (none))
    (none))
  (none)

noncomputable def sha_round_t (N : Nat) : Tab (List Int) := []

theorem sha_round_link (N : Nat) (x : denS [(0, .v (.arr 8 (.int .u32))), (0, .v (.int .u32))]) : evFX (sha_round_E N) N (sha_round_t N) sha_round_L Go.Proofs.Tryd.f53 (mkS [(0, .v (.arr 8 (.int .u32))), (0, .v (.int .u32))] 0 x) (kRes (.v (.arr 8 (.int .u32))) 2) = sha_round N x.1 x.2.1 := by kernel_rfl

noncomputable def sha_round_res (N : Nat) : List A → Res := resOf [(0, .v (.arr 8 (.int .u32))), (0, .v (.int .u32))] (fun x => sha_round N x.1 x.2.1) (oRes (.v (.arr 8 (.int .u32))) 2)

theorem sha_round_ct (N : Nat) : Contract Go.Proofs.Tryd.prog glob 53 (sha_round_res N) :=
  Contract.of (E := sha_round_E N) (H := sha_round_t N) (L := sha_round_L) (N := N) (body := sha_round_body) (K := (kRes (.v (.arr 8 (.int .u32))) 2)) (sha_round_Eok N) Go.Proofs.Tryd.func53 (by kernel_rfl) (by decide) (fun _ hb => TabOk.nil) (fun x y h => by rw [sha_round_link]; exact h) (kRes_ok (s := (.v (.arr 8 (.int .u32)))) (m := 2))

abbrev sha_Step_R : Type := (List Int)

noncomputable def sha_Step_body : Code := (Go.Proofs.Tryd.f18.body).getD .skip

noncomputable def sha_Step_L : List (List Nat × List Nat) := [([0], [1, 2, 4]), ([0, 0, 1], [11, 2, 4, 1]), ([1, 0, 1], [1, 2, 4]), ([0, 0, 1, 0, 1], [4]), ([1, 0, 1, 0, 1], [4]), ([0, 1, 1], [2, 5, 4]), ([0, 1, 1, 1], [6, 5, 2, 4]), ([0, 0, 1, 1, 1, 1], [16, 6, 5, 2, 4]), ([0, 1, 0, 1, 1, 1, 1], [16, 6, 5, 2, 4]), ([0, 0, 0, 1, 0, 1, 1, 1, 1], [17, 16, 6, 5, 2, 4]), ([0, 1, 0, 0, 1, 0, 1, 1, 1, 1], [16, 6, 5, 2, 4]), ([1, 0, 1, 0, 0, 1, 0, 1, 1, 1, 1], [6, 2, 4]), ([0, 0, 0, 1, 1, 0, 0, 1, 0, 1, 1, 1, 1], [6, 7, 5, 16, 2, 4]), ([1, 0, 0, 1, 1, 0, 0, 1, 0, 1, 1, 1, 1], [16, 6, 5, 2, 4]), ([0, 1, 1, 0, 0, 1, 0, 1, 1, 1, 1], [16, 6, 5, 2, 4]), ([1, 1, 1, 0, 0, 1, 0, 1, 1, 1, 1], [16, 6, 5, 2, 4]), ([1, 0, 1, 1, 1, 1], [6, 2, 4]), ([0, 0, 1, 1, 1, 1, 1], [29, 6, 2, 4]), ([0, 1, 0, 1, 1, 1, 1, 1], [29, 6, 2, 4]), ([0, 0, 0, 1, 0, 1, 1, 1, 1, 1], [30, 29, 6, 2, 4]), ([0, 1, 0, 0, 1, 0, 1, 1, 1, 1, 1], [29, 6, 2, 4]), ([1, 0, 1, 0, 0, 1, 0, 1, 1, 1, 1, 1], [6, 4]), ([0, 0, 0, 1, 1, 0, 0, 1, 0, 1, 1, 1, 1, 1], [8, 6, 2, 29, 4]), ([1, 0, 0, 1, 1, 0, 0, 1, 0, 1, 1, 1, 1, 1], [29, 6, 2, 4]), ([0, 1, 1, 0, 0, 1, 0, 1, 1, 1, 1, 1], [29, 6, 2, 4]), ([1, 1, 1, 0, 0, 1, 0, 1, 1, 1, 1, 1], [29, 6, 2, 4]), ([1, 0, 1, 1, 1, 1, 1], [6, 4]), ([0, 1, 1, 1, 1, 1, 1], [4]), ([1, 1, 1, 1, 1, 1, 1], [4])]

noncomputable def sha_Step_E (N : Nat) : Env := mkEnv tys glob [(53, sha_round_res N), (52, sha_schedule_res N)] [] [] [] false

theorem sha_Step_Eok (N : Nat) : EnvOk Go.Proofs.Tryd.prog (sha_Step_E N) := mkEnv_ok mixed tys_ok (FnsOk.cons (sha_round_ct N) (FnsOk.cons (sha_schedule_ct N) (FnsOk.nil)))

noncomputable def sha_Step_s1 (N : Nat) (h : (List Int)) (x4 : (List Int)) (w : (List Int)) (v : (List Int)) (x16 : Int) (rec : (List Int) → Int → Option (List Int)) (k0 : (List Int) → Option (List Int)) : Option (List Int) :=
  cond (decide (x16 < (64 : Int)))
  (cond (Go.Lift.inR x16 64)
    (cond (Go.Lift.inR x16 64)
      (cond (decide ((Int.toNat x16) < (List.length w)))
        ((sha_round N v (Go.IntKind.wrap Go.IntKind.u32 ((List.getD glob0 (Int.toNat x16) (0 : Int)) + (List.getD w (Int.toNat x16) (0 : Int))))).bind fun y =>
          rec y (Go.IntKind.wrap Go.IntKind.i64 (x16 + (1 : Int))))
        (none))
      (none))
    (none))
  (k0 v)

noncomputable def sha_Step_p1 (N : Nat) (h : (List Int)) (x4 : (List Int)) (w : (List Int)) (v : (List Int)) (x16 : Int) (k0 : (List Int) → Option (List Int)) : Option (List Int) :=
  iter (fun (v : ((List Int) × Int)) r => sha_Step_s1 N h x4 w v.1 v.2 (fun v x16 => (r (v, x16))) k0) N (v, x16)

noncomputable def sha_Step_g1 (N : Nat) (i : ((List Int) × (List Int) × (List Int))) (v : ((List Int) × Int)) (r : ((List Int) × Int) → Option (List Int)) (K : Ex → List A → Option (List Int)) : Option (List Int) :=
  sha_Step_s1 N i.1 i.2.1 i.2.2 v.1 v.2 (fun v x16 => (r (v, x16))) (fun a2 => (K (.exit 0) (mkS [(2, .box (.arr 8 (.int .u32))), (1, .box (.arr 8 (.int .u32))), (1, .box (.arr 8 (.int .u32)))] 35 (i.1, i.2.1, a2, ()))))

noncomputable def sha_Step_h1 (N : Nat) : Hd (List Int) := fun st K => (unS [(2, .box (.arr 8 (.int .u32))), (1, .box (.arr 8 (.int .u32))), (0, .box (.arr 64 (.int .u32))), (0, .box (.arr 8 (.int .u32))), (9, .v (.int .i64))] 25 (restr [16, 6, 5, 2, 4] 0 st)).bind fun x => iter (fun v r => sha_Step_g1 N ((fun x => (x.1, x.2.1, x.2.2.1)) x) v r K) N ((fun x => (x.2.2.2.1, x.2.2.2.2.1)) x)

noncomputable def sha_Step_t1 (N : Nat) : Tab (List Int) := []

theorem sha_Step_ok1 {N : Nat} {c : Ctx} (hb : Base Go.Proofs.Tryd.prog (sha_Step_E N) c) : CodeOk Go.Proofs.Tryd.prog c (nodeAt sha_Step_body [0, 1, 0, 1, 1, 1, 1]) (sha_Step_h1 N) :=
  loop_ok (s := [(2, .box (.arr 8 (.int .u32))), (1, .box (.arr 8 (.int .u32))), (0, .box (.arr 64 (.int .u32))), (0, .box (.arr 8 (.int .u32))), (9, .v (.int .i64))]) (m := 25) (sha_Step_g1 N) [16, 6, 5, 2, 4] N (fun x => (x.1, x.2.1, x.2.2.1)) (fun x => (x.2.2.2.1, x.2.2.2.2.1)) (fun i v => (i.1, i.2.1, i.2.2, v.1, v.2, ())) (fun _ => rfl) (evN_sound hb N (sha_Step_t1 N) sha_Step_L sha_Step_body TabOk.nil [0, 0, 1, 0, 1, 1, 1, 1] _ rfl) (fun i v r K => by kernel_rfl)

noncomputable def sha_Step_s2 (N : Nat) (h : (List Int)) (x4 : (List Int)) (v : (List Int)) (x29 : Int) (rec : (List Int) → Int → Option (List Int)) (k0 : (List Int) → Option (List Int)) : Option (List Int) :=
  cond (decide (x29 < (8 : Int)))
  (cond (Go.Lift.inR x29 8)
    (cond (decide ((Int.toNat x29) < (List.length v)))
      (cond (Go.Lift.inR x29 8)
        (cond (decide ((Int.toNat x29) < (List.length h)))
          (cond (Go.Lift.inR x29 8)
            (cond (decide ((Int.toNat x29) < (List.length v)))
              (rec (List.set v (Int.toNat x29) (Go.IntKind.wrap Go.IntKind.u32 ((List.getD v (Int.toNat x29) (0 : Int)) + (List.getD h (Int.toNat x29) (0 : Int))))) (Go.IntKind.wrap Go.IntKind.i64 (x29 + (1 : Int))))
              (none))
            (none))
          (none))
        (none))
      (none))
    (none))
  (k0 v)

noncomputable def sha_Step_p2 (N : Nat) (h : (List Int)) (x4 : (List Int)) (v : (List Int)) (x29 : Int) (k0 : (List Int) → Option (List Int)) : Option (List Int) :=
  iter (fun (v : ((List Int) × Int)) r => sha_Step_s2 N h x4 v.1 v.2 (fun v x29 => (r (v, x29))) k0) N (v, x29)

noncomputable def sha_Step_g2 (N : Nat) (i : ((List Int) × (List Int))) (v : ((List Int) × Int)) (r : ((List Int) × Int) → Option (List Int)) (K : Ex → List A → Option (List Int)) : Option (List Int) :=
  sha_Step_s2 N i.1 i.2 v.1 v.2 (fun v x29 => (r (v, x29))) (fun a1 => (K (.exit 2) (mkS [(4, .box (.arr 8 (.int .u32))), (1, .box (.arr 8 (.int .u32)))] 35 (i.2, a1, ()))))

noncomputable def sha_Step_h2 (N : Nat) : Hd (List Int) := fun st K => (unS [(2, .box (.arr 8 (.int .u32))), (1, .box (.arr 8 (.int .u32))), (1, .box (.arr 8 (.int .u32))), (22, .v (.int .i64))] 12 (restr [29, 6, 2, 4] 0 st)).bind fun x => iter (fun v r => sha_Step_g2 N ((fun x => (x.1, x.2.1)) x) v r K) N ((fun x => (x.2.2.1, x.2.2.2.1)) x)

noncomputable def sha_Step_t2 (N : Nat) : Tab (List Int) := []

theorem sha_Step_ok2 {N : Nat} {c : Ctx} (hb : Base Go.Proofs.Tryd.prog (sha_Step_E N) c) : CodeOk Go.Proofs.Tryd.prog c (nodeAt sha_Step_body [0, 1, 0, 1, 1, 1, 1, 1]) (sha_Step_h2 N) :=
  loop_ok (s := [(2, .box (.arr 8 (.int .u32))), (1, .box (.arr 8 (.int .u32))), (1, .box (.arr 8 (.int .u32))), (22, .v (.int .i64))]) (m := 12) (sha_Step_g2 N) [29, 6, 2, 4] N (fun x => (x.1, x.2.1)) (fun x => (x.2.2.1, x.2.2.2.1)) (fun i v => (i.1, i.2, v.1, v.2, ())) (fun _ => rfl) (evN_sound hb N (sha_Step_t2 N) sha_Step_L sha_Step_body TabOk.nil [0, 0, 1, 0, 1, 1, 1, 1, 1] _ rfl) (fun i v r K => by kernel_rfl)

noncomputable def sha_Step (N : Nat) (h : (List Int)) (block : (List UInt8)) : Option (List Int) :=
  cond ((((List.length block) : Nat) : Int) != (64 : Int))
  (some h)
  ((sha_schedule N block).bind fun y =>
    sha_Step_p1 N h ([(0 : Int), (0 : Int), (0 : Int), (0 : Int), (0 : Int), (0 : Int), (0 : Int), (0 : Int)] : List Int) y h (0 : Int)
    (fun v => sha_Step_p2 N h ([(0 : Int), (0 : Int), (0 : Int), (0 : Int), (0 : Int), (0 : Int), (0 : Int), (0 : Int)] : List Int) v (0 : Int)
      (fun v1 => some v1)))

noncomputable def sha_Step_t (N : Nat) : Tab (List Int) := [([0, 1, 0, 1, 1, 1, 1], sha_Step_h1 N), ([0, 1, 0, 1, 1, 1, 1, 1], sha_Step_h2 N)]

theorem sha_Step_link (N : Nat) (x : denS [(0, .v (.arr 8 (.int .u32))), (0, .v .str)]) : evFX (sha_Step_E N) N (sha_Step_t N) sha_Step_L Go.Proofs.Tryd.f18 (mkS [(0, .v (.arr 8 (.int .u32))), (0, .v .str)] 0 x) (kRes (.v (.arr 8 (.int .u32))) 2) = sha_Step N x.1 x.2.1 := by kernel_rfl

noncomputable def sha_Step_res (N : Nat) : List A → Res := resOf [(0, .v (.arr 8 (.int .u32))), (0, .v .str)] (fun x => sha_Step N x.1 x.2.1) (oRes (.v (.arr 8 (.int .u32))) 2)

theorem sha_Step_ct (N : Nat) : Contract Go.Proofs.Tryd.prog glob 18 (sha_Step_res N) :=
  Contract.of (E := sha_Step_E N) (H := sha_Step_t N) (L := sha_Step_L) (N := N) (body := sha_Step_body) (K := (kRes (.v (.arr 8 (.int .u32))) 2)) (sha_Step_Eok N) Go.Proofs.Tryd.func18 (by kernel_rfl) (by decide) (fun _ hb => (TabOk.cons (sha_Step_ok1 hb) (TabOk.cons (sha_Step_ok2 hb) TabOk.nil))) (fun x y h => by rw [sha_Step_link]; exact h) (kRes_ok (s := (.v (.arr 8 (.int .u32)))) (m := 2))

abbrev sha_steps_R : Type := (List Int)

noncomputable def sha_steps_body : Code := (Go.Proofs.Tryd.f56.body).getD .skip

noncomputable def sha_steps_L : List (List Nat × List Nat) := [([0], [1, 2, 4]), ([0, 0, 1], [5, 1, 2, 4]), ([0, 1, 0, 1], [5, 1, 2, 4]), ([0, 0, 0, 0, 1, 0, 1], [9, 2, 1, 5, 4]), ([1, 0, 0, 0, 1, 0, 1], [2, 1, 5, 4]), ([1, 1, 0, 0, 0, 1, 0, 1], [2, 4]), ([0, 0, 1, 0, 0, 1, 0, 1], [5, 1, 2, 4]), ([0, 1, 0, 0, 1, 0, 1], [5, 1, 2, 4]), ([1, 1, 0, 0, 1, 0, 1], [5, 1, 2, 4]), ([1, 0, 1], [2, 4]), ([0, 1, 1], [4]), ([1, 1, 1], [4])]

noncomputable def sha_steps_E (N : Nat) : Env := mkEnv tys glob [(18, sha_Step_res N)] [] [] [] false

theorem sha_steps_Eok (N : Nat) : EnvOk Go.Proofs.Tryd.prog (sha_steps_E N) := mkEnv_ok mixed tys_ok (FnsOk.cons (sha_Step_ct N) (FnsOk.nil))

noncomputable def sha_steps_s1 (N : Nat) (s : (List UInt8)) (x4 : (List Int)) (h : (List Int)) (i : Int) (rec : (List Int) → Int → Option (List Int)) (k0 : (List Int) → Option (List Int)) : Option (List Int) :=
  cond (decide (i < (((List.length s) : Nat) : Int)))
  (cond (decide (((0 : Int) ≤ (Go.IntKind.wrap Go.IntKind.i64 (i + (64 : Int)))) ∧ ((Go.IntKind.wrap Go.IntKind.i64 (i + (64 : Int))) ≤ (((List.length s) : Nat) : Int))))
    (cond (decide (((0 : Int) ≤ i) ∧ (i ≤ (Go.IntKind.wrap Go.IntKind.i64 (i + (64 : Int))))))
      ((sha_Step N h (Go.Lift.cut s (Int.toNat i) (Int.toNat (Go.IntKind.wrap Go.IntKind.i64 (i + (64 : Int)))))).bind fun y =>
        rec y (Go.IntKind.wrap Go.IntKind.i64 (i + (64 : Int))))
      (none))
    (none))
  (k0 h)

noncomputable def sha_steps_p1 (N : Nat) (s : (List UInt8)) (h : (List Int)) (x4 : (List Int)) (i : Int) (k0 : (List Int) → Option (List Int)) : Option (List Int) :=
  iter (fun (v : ((List Int) × Int)) r => sha_steps_s1 N s x4 v.1 v.2 (fun h i => (r (h, i))) k0) N (h, i)

noncomputable def sha_steps_g1 (N : Nat) (i : ((List UInt8) × (List Int))) (v : ((List Int) × Int)) (r : ((List Int) × Int) → Option (List Int)) (K : Ex → List A → Option (List Int)) : Option (List Int) :=
  sha_steps_s1 N i.1 i.2 v.1 v.2 (fun h i => (r (h, i))) (fun a0 => (K (.exit 0) (mkS [(2, .box (.arr 8 (.int .u32))), (1, .box (.arr 8 (.int .u32)))] 15 (a0, i.2, ()))))

noncomputable def sha_steps_h1 (N : Nat) : Hd (List Int) := fun st K => (unS [(1, .v .str), (0, .box (.arr 8 (.int .u32))), (1, .box (.arr 8 (.int .u32))), (0, .v (.int .i64))] 14 (restr [5, 1, 2, 4] 0 st)).bind fun x => iter (fun v r => sha_steps_g1 N ((fun x => (x.1, x.2.2.1)) x) v r K) N ((fun x => (x.2.1, x.2.2.2.1)) x)

noncomputable def sha_steps_t1 (N : Nat) : Tab (List Int) := []

theorem sha_steps_ok1 {N : Nat} {c : Ctx} (hb : Base Go.Proofs.Tryd.prog (sha_steps_E N) c) : CodeOk Go.Proofs.Tryd.prog c (nodeAt sha_steps_body [0, 1, 0, 1]) (sha_steps_h1 N) :=
  loop_ok (s := [(1, .v .str), (0, .box (.arr 8 (.int .u32))), (1, .box (.arr 8 (.int .u32))), (0, .v (.int .i64))]) (m := 14) (sha_steps_g1 N) [5, 1, 2, 4] N (fun x => (x.1, x.2.2.1)) (fun x => (x.2.1, x.2.2.2.1)) (fun i v => (i.1, v.1, i.2, v.2, ())) (fun _ => rfl) (evN_sound hb N (sha_steps_t1 N) sha_steps_L sha_steps_body TabOk.nil [0, 0, 1, 0, 1] _ rfl) (fun i v r K => by kernel_rfl)

noncomputable def sha_steps (N : Nat) (h : (List Int)) (s : (List UInt8)) : Option (List Int) :=
  sha_steps_p1 N s h ([(0 : Int), (0 : Int), (0 : Int), (0 : Int), (0 : Int), (0 : Int), (0 : Int), (0 : Int)] : List Int) (0 : Int)
  (fun h1 => some h1)

noncomputable def sha_steps_t (N : Nat) : Tab (List Int) := [([0, 1, 0, 1], sha_steps_h1 N)]

theorem sha_steps_link (N : Nat) (x : denS [(0, .v (.arr 8 (.int .u32))), (0, .v .str)]) : evFX (sha_steps_E N) N (sha_steps_t N) sha_steps_L Go.Proofs.Tryd.f56 (mkS [(0, .v (.arr 8 (.int .u32))), (0, .v .str)] 0 x) (kRes (.v (.arr 8 (.int .u32))) 2) = sha_steps N x.1 x.2.1 := by kernel_rfl

noncomputable def sha_steps_res (N : Nat) : List A → Res := resOf [(0, .v (.arr 8 (.int .u32))), (0, .v .str)] (fun x => sha_steps N x.1 x.2.1) (oRes (.v (.arr 8 (.int .u32))) 2)

theorem sha_steps_ct (N : Nat) : Contract Go.Proofs.Tryd.prog glob 56 (sha_steps_res N) :=
  Contract.of (E := sha_steps_E N) (H := sha_steps_t N) (L := sha_steps_L) (N := N) (body := sha_steps_body) (K := (kRes (.v (.arr 8 (.int .u32))) 2)) (sha_steps_Eok N) Go.Proofs.Tryd.func56 (by kernel_rfl) (by decide) (fun _ hb => (TabOk.cons (sha_steps_ok1 hb) TabOk.nil)) (fun x y h => by rw [sha_steps_link]; exact h) (kRes_ok (s := (.v (.arr 8 (.int .u32)))) (m := 2))

abbrev sha_Hash_Add_R : Type := ((Unit) × ((Bool × ((List Int) × ((List UInt8) × (Int × Unit)))) × Unit))

noncomputable def sha_Hash_Add_body : Code := (Go.Proofs.Tryd.f25.body).getD .skip

noncomputable def sha_Hash_Add_L : List (List Nat × List Nat) := [([0, 0], [14, 0, 1]), ([1, 0], [0, 1]), ([0, 1, 0], [0]), ([0, 1], [0, 1]), ([0, 1, 1], [4, 0]), ([0, 1, 1, 1], [0, 4, 5]), ([0, 1, 1, 1, 1], [0, 4, 5]), ([1, 1, 1, 1, 1], [0])]

noncomputable def sha_Hash_Add_E (N : Nat) : Env := mkEnv tys glob [(56, sha_steps_res N)] [] [] [0] false

theorem sha_Hash_Add_Eok (N : Nat) : EnvOk Go.Proofs.Tryd.prog (sha_Hash_Add_E N) := mkEnv_ok mixed tys_ok (FnsOk.cons (sha_steps_ct N) (FnsOk.nil))

noncomputable def sha_Hash_Add_p1 (N : Nat) (h : (Bool × ((List Int) × ((List UInt8) × (Int × Unit))))) (s : (List UInt8)) (k0 : Option ((Unit) × ((Bool × ((List Int) × ((List UInt8) × (Int × Unit)))) × Unit))) (k1 : Option ((Unit) × ((Bool × ((List Int) × ((List UInt8) × (Int × Unit)))) × Unit))) : Option ((Unit) × ((Bool × ((List Int) × ((List UInt8) × (Int × Unit)))) × Unit)) :=
  cond (!h.1)
  (k0)
  (k1)

noncomputable def sha_Hash_Add_g1 (N : Nat) (x : denS [(0, .box (.pair .bool (.pair (.arr 8 (.int .u32)) (.pair .str (.pair (.int .i64) .unit))))), (0, .v .str)]) (K : Ex → List A → Option ((Unit) × ((Bool × ((List Int) × ((List UInt8) × (Int × Unit)))) × Unit))) : Option ((Unit) × ((Bool × ((List Int) × ((List UInt8) × (Int × Unit)))) × Unit)) :=
  sha_Hash_Add_p1 N x.1 x.2.1 (K .ret (mkS [(0, .box (.pair .bool (.pair (.arr 8 (.int .u32)) (.pair .str (.pair (.int .i64) .unit)))))] 52 (x.1, ()))) (K .normal (mkS [(0, .box (.pair .bool (.pair (.arr 8 (.int .u32)) (.pair .str (.pair (.int .i64) .unit))))), (0, .v .str)] 51 (x.1, x.2.1, ())))

noncomputable def sha_Hash_Add_h1 (N : Nat) : Hd ((Unit) × ((Bool × ((List Int) × ((List UInt8) × (Int × Unit)))) × Unit)) := fun st K => (unS [(0, .box (.pair .bool (.pair (.arr 8 (.int .u32)) (.pair .str (.pair (.int .i64) .unit))))), (0, .v .str)] 51 (restr [0, 1] 0 st)).bind fun x => sha_Hash_Add_g1 N x K

noncomputable def sha_Hash_Add_t1 (N : Nat) : Tab ((Unit) × ((Bool × ((List Int) × ((List UInt8) × (Int × Unit)))) × Unit)) := []

theorem sha_Hash_Add_ok1 {N : Nat} {c : Ctx} (hb : Base Go.Proofs.Tryd.prog (sha_Hash_Add_E N) c) : CodeOk Go.Proofs.Tryd.prog c (nodeAt sha_Hash_Add_body [0]) (sha_Hash_Add_h1 N) :=
  piece_ok (s := [(0, .box (.pair .bool (.pair (.arr 8 (.int .u32)) (.pair .str (.pair (.int .i64) .unit))))), (0, .v .str)]) (m := 51) (g := sha_Hash_Add_g1 N) [0, 1] (evN_sound hb N (sha_Hash_Add_t1 N) sha_Hash_Add_L sha_Hash_Add_body TabOk.nil [0] _ rfl) (fun x K => by kernel_rfl)

noncomputable def sha_Hash_Add (N : Nat) (h : (Bool × ((List Int) × ((List UInt8) × (Int × Unit))))) (s : (List UInt8)) : Option ((Unit) × ((Bool × ((List Int) × ((List UInt8) × (Int × Unit)))) × Unit)) :=
  sha_Hash_Add_p1 N h s
  (some ((), (h, ())))
  (cond (decide (((List.length h.2.2.1) + (List.length s)) ≤ 9223372036854775807))
    (cond (decide (((0 : Int) ≤ (Go.IntKind.wrap Go.IntKind.i64 ((((List.length (h.2.2.1 ++ s)) : Nat) : Int) - (Int.tmod (((List.length (h.2.2.1 ++ s)) : Nat) : Int) (64 : Int))))) ∧ ((Go.IntKind.wrap Go.IntKind.i64 ((((List.length (h.2.2.1 ++ s)) : Nat) : Int) - (Int.tmod (((List.length (h.2.2.1 ++ s)) : Nat) : Int) (64 : Int)))) ≤ (((List.length (h.2.2.1 ++ s)) : Nat) : Int))))
      ((sha_steps N h.2.1 (Go.Lift.cut (h.2.2.1 ++ s) 0 (Int.toNat (Go.IntKind.wrap Go.IntKind.i64 ((((List.length (h.2.2.1 ++ s)) : Nat) : Int) - (Int.tmod (((List.length (h.2.2.1 ++ s)) : Nat) : Int) (64 : Int))))))).bind fun y =>
        cond (decide (((0 : Int) ≤ (Go.IntKind.wrap Go.IntKind.i64 ((((List.length (h.2.2.1 ++ s)) : Nat) : Int) - (Int.tmod (((List.length (h.2.2.1 ++ s)) : Nat) : Int) (64 : Int))))) ∧ ((Go.IntKind.wrap Go.IntKind.i64 ((((List.length (h.2.2.1 ++ s)) : Nat) : Int) - (Int.tmod (((List.length (h.2.2.1 ++ s)) : Nat) : Int) (64 : Int)))) ≤ (((List.length (h.2.2.1 ++ s)) : Nat) : Int))))
        (some ((), ((h.1, (y, ((Go.Lift.cut (h.2.2.1 ++ s) (Int.toNat (Go.IntKind.wrap Go.IntKind.i64 ((((List.length (h.2.2.1 ++ s)) : Nat) : Int) - (Int.tmod (((List.length (h.2.2.1 ++ s)) : Nat) : Int) (64 : Int))))) (List.length (h.2.2.1 ++ s))), ((Go.IntKind.wrap Go.IntKind.i64 (h.2.2.2.1 + (((List.length s) : Nat) : Int))), h.2.2.2.2)))), ())))
        (none))
      (none))
    (none))

noncomputable def sha_Hash_Add_t (N : Nat) : Tab ((Unit) × ((Bool × ((List Int) × ((List UInt8) × (Int × Unit)))) × Unit)) := [([0], sha_Hash_Add_h1 N)]

theorem sha_Hash_Add_link (N : Nat) (x : denS [(0, .box (.pair .bool (.pair (.arr 8 (.int .u32)) (.pair .str (.pair (.int .i64) .unit))))), (0, .v .str)]) : evFX (sha_Hash_Add_E N) N (sha_Hash_Add_t N) sha_Hash_Add_L Go.Proofs.Tryd.f25 (mkS [(0, .box (.pair .bool (.pair (.arr 8 (.int .u32)) (.pair .str (.pair (.int .i64) .unit))))), (0, .v .str)] 0 x) (kResB (.tup []) [(0, .box (.pair .bool (.pair (.arr 8 (.int .u32)) (.pair .str (.pair (.int .i64) .unit)))))] 1) = sha_Hash_Add N x.1 x.2.1 := by kernel_rfl

noncomputable def sha_Hash_Add_res (N : Nat) : List A → Res := resOf [(0, .box (.pair .bool (.pair (.arr 8 (.int .u32)) (.pair .str (.pair (.int .i64) .unit))))), (0, .v .str)] (fun x => sha_Hash_Add N x.1 x.2.1) (oResB (.tup []) [(0, .box (.pair .bool (.pair (.arr 8 (.int .u32)) (.pair .str (.pair (.int .i64) .unit)))))] 1)

theorem sha_Hash_Add_ct (N : Nat) : Contract Go.Proofs.Tryd.prog glob 25 (sha_Hash_Add_res N) :=
  Contract.of (E := sha_Hash_Add_E N) (H := sha_Hash_Add_t N) (L := sha_Hash_Add_L) (N := N) (body := sha_Hash_Add_body) (K := (kResB (.tup []) [(0, .box (.pair .bool (.pair (.arr 8 (.int .u32)) (.pair .str (.pair (.int .i64) .unit)))))] 1)) (sha_Hash_Add_Eok N) Go.Proofs.Tryd.func25 (by kernel_rfl) (by decide) (fun _ hb => (TabOk.cons (sha_Hash_Add_ok1 hb) TabOk.nil)) (fun x y h => by rw [sha_Hash_Add_link]; exact h) (kResB_ok (s := (.tup [])) (os := [(0, .box (.pair .bool (.pair (.arr 8 (.int .u32)) (.pair .str (.pair (.int .i64) .unit)))))]) (m := 1))

abbrev sha_Hash_Add_nil_R : Type := (Unit)

noncomputable def sha_Hash_Add_nil_body : Code := (Go.Proofs.Tryd.f25.body).getD .skip

noncomputable def sha_Hash_Add_nil_L : List (List Nat × List Nat) := [([0, 0], [14, 0, 1]), ([1, 0], [0, 1]), ([0, 1, 0], []), ([0, 1], [0, 1]), ([0, 1, 1], [4, 0]), ([0, 1, 1, 1], [0, 4, 5]), ([0, 1, 1, 1, 1], [0, 4, 5]), ([1, 1, 1, 1, 1], [])]

noncomputable def sha_Hash_Add_nil_E (N : Nat) : Env := mkEnv tys glob [(56, sha_steps_res N)] [] [] [] false

theorem sha_Hash_Add_nil_Eok (N : Nat) : EnvOk Go.Proofs.Tryd.prog (sha_Hash_Add_nil_E N) := mkEnv_ok mixed tys_ok (FnsOk.cons (sha_steps_ct N) (FnsOk.nil))

noncomputable def sha_Hash_Add_nil_p1 (N : Nat) (s : (List UInt8)) (k0 : Option (Unit)) : Option (Unit) :=
  k0

noncomputable def sha_Hash_Add_nil_g1 (N : Nat) (x : denS [(0, .nilp), (0, .v .str)]) (K : Ex → List A → Option (Unit)) : Option (Unit) :=
  sha_Hash_Add_nil_p1 N x.2.1 (K .ret (mkS [] 53 ()))

noncomputable def sha_Hash_Add_nil_h1 (N : Nat) : Hd (Unit) := fun st K => (unS [(0, .nilp), (0, .v .str)] 51 (restr [0, 1] 0 st)).bind fun x => sha_Hash_Add_nil_g1 N x K

noncomputable def sha_Hash_Add_nil_t1 (N : Nat) : Tab (Unit) := []

theorem sha_Hash_Add_nil_ok1 {N : Nat} {c : Ctx} (hb : Base Go.Proofs.Tryd.prog (sha_Hash_Add_nil_E N) c) : CodeOk Go.Proofs.Tryd.prog c (nodeAt sha_Hash_Add_nil_body [0]) (sha_Hash_Add_nil_h1 N) :=
  piece_ok (s := [(0, .nilp), (0, .v .str)]) (m := 51) (g := sha_Hash_Add_nil_g1 N) [0, 1] (evN_sound hb N (sha_Hash_Add_nil_t1 N) sha_Hash_Add_nil_L sha_Hash_Add_nil_body TabOk.nil [0] _ rfl) (fun x K => by kernel_rfl)

noncomputable def sha_Hash_Add_nil (N : Nat) (s : (List UInt8)) : Option (Unit) :=
  sha_Hash_Add_nil_p1 N s
  (some ())

noncomputable def sha_Hash_Add_nil_t (N : Nat) : Tab (Unit) := [([0], sha_Hash_Add_nil_h1 N)]

theorem sha_Hash_Add_nil_link (N : Nat) (x : denS [(0, .nilp), (0, .v .str)]) : evFX (sha_Hash_Add_nil_E N) N (sha_Hash_Add_nil_t N) sha_Hash_Add_nil_L Go.Proofs.Tryd.f25 (mkS [(0, .nilp), (0, .v .str)] 0 x) (kRes (.tup []) 2) = sha_Hash_Add_nil N x.2.1 := by kernel_rfl

noncomputable def sha_Hash_Add_nil_res (N : Nat) : List A → Res := resOf [(0, .nilp), (0, .v .str)] (fun x => sha_Hash_Add_nil N x.2.1) (oRes (.tup []) 2)

theorem sha_Hash_Add_nil_ct (N : Nat) : Contract Go.Proofs.Tryd.prog glob 25 (sha_Hash_Add_nil_res N) :=
  Contract.of (E := sha_Hash_Add_nil_E N) (H := sha_Hash_Add_nil_t N) (L := sha_Hash_Add_nil_L) (N := N) (body := sha_Hash_Add_nil_body) (K := (kRes (.tup []) 2)) (sha_Hash_Add_nil_Eok N) Go.Proofs.Tryd.func25 (by kernel_rfl) (by decide) (fun _ hb => (TabOk.cons (sha_Hash_Add_nil_ok1 hb) TabOk.nil)) (fun x y h => by rw [sha_Hash_Add_nil_link]; exact h) (kRes_ok (s := (.tup [])) (m := 2))

noncomputable def sha_Hash_Add_nil_all (N : Nat) : List A → Res := resAlt [(0, .nilp), (0, .v .str)] (fun x => sha_Hash_Add_nil N x.2.1) (oRes (.tup []) 2) (sha_Hash_Add_res N)

theorem sha_Hash_Add_nil_allct (N : Nat) : Contract Go.Proofs.Tryd.prog glob 25 (sha_Hash_Add_nil_all N) := Contract.alt (sha_Hash_Add_nil_ct N) (sha_Hash_Add_ct N)

abbrev octet_Pad_R : Type := (List UInt8)

noncomputable def octet_Pad_body : Code := (Go.Proofs.Tryd.f57.body).getD .skip

noncomputable def octet_Pad_L : List (List Nat × List Nat) := [([0], [1, 0]), ([0, 1], [1, 0]), ([0, 0, 1, 1], [10, 0, 1]), ([1, 0, 1, 1], [0, 1]), ([0, 0, 1, 0, 1, 1], [4]), ([1, 0, 1, 0, 1, 1], [4]), ([0, 1, 1, 1], [4]), ([1, 1, 1, 1], [4])]

noncomputable def octet_Pad_E (N : Nat) : Env := mkEnv tys glob [] [] [] [] false

theorem octet_Pad_Eok (N : Nat) : EnvOk Go.Proofs.Tryd.prog (octet_Pad_E N) := mkEnv_ok mixed tys_ok (FnsOk.nil)

noncomputable def octet_Pad (N : Nat) (s : (List UInt8)) (n : Int) : Option (List UInt8) :=
  cond (decide ((if ((65536 : Int) < n) then (65536 : Int) else n) ≤ (((List.length s) : Nat) : Int)))
  (some s)
  (cond (decide (((0 : Int) ≤ (Go.IntKind.wrap Go.IntKind.i64 ((if ((65536 : Int) < n) then (65536 : Int) else n) - (((List.length s) : Nat) : Int)))) ∧ (((Go.IntKind.wrap Go.IntKind.i64 ((if ((65536 : Int) < n) then (65536 : Int) else n) - (((List.length s) : Nat) : Int))) ≤ (Go.IntKind.wrap Go.IntKind.i64 ((if ((65536 : Int) < n) then (65536 : Int) else n) - (((List.length s) : Nat) : Int)))) ∧ ((((Go.IntKind.wrap Go.IntKind.i64 ((if ((65536 : Int) < n) then (65536 : Int) else n) - (((List.length s) : Nat) : Int))) * (1 : Int)) ≤ (281474976710656 : Int)) ∧ ((Go.IntKind.wrap Go.IntKind.i64 ((if ((65536 : Int) < n) then (65536 : Int) else n) - (((List.length s) : Nat) : Int))) ≤ (9223372036854775807 : Int))))))
    (cond (decide (((List.length s) + (List.length (Go.Lift.toStr (List.replicate (Int.toNat (Go.IntKind.wrap Go.IntKind.i64 ((if ((65536 : Int) < n) then (65536 : Int) else n) - (((List.length s) : Nat) : Int)))) (0 : Int))))) ≤ 9223372036854775807))
      (some (s ++ (Go.Lift.toStr (List.replicate (Int.toNat (Go.IntKind.wrap Go.IntKind.i64 ((if ((65536 : Int) < n) then (65536 : Int) else n) - (((List.length s) : Nat) : Int)))) (0 : Int)))))
      (none))
    (none))

noncomputable def octet_Pad_t (N : Nat) : Tab (List UInt8) := []

theorem octet_Pad_link (N : Nat) (x : denS [(0, .v .str), (0, .v (.int .i64))]) : evFX (octet_Pad_E N) N (octet_Pad_t N) octet_Pad_L Go.Proofs.Tryd.f57 (mkS [(0, .v .str), (0, .v (.int .i64))] 0 x) (kRes (.v .str) 2) = octet_Pad N x.1 x.2.1 := by kernel_rfl

noncomputable def octet_Pad_res (N : Nat) : List A → Res := resOf [(0, .v .str), (0, .v (.int .i64))] (fun x => octet_Pad N x.1 x.2.1) (oRes (.v .str) 2)

theorem octet_Pad_ct (N : Nat) : Contract Go.Proofs.Tryd.prog glob 57 (octet_Pad_res N) :=
  Contract.of (E := octet_Pad_E N) (H := octet_Pad_t N) (L := octet_Pad_L) (N := N) (body := octet_Pad_body) (K := (kRes (.v .str) 2)) (octet_Pad_Eok N) Go.Proofs.Tryd.func57 (by kernel_rfl) (by decide) (fun _ hb => TabOk.nil) (fun x y h => by rw [octet_Pad_link]; exact h) (kRes_ok (s := (.v .str)) (m := 2))

abbrev sha_bigEndian_R : Type := (List UInt8)

noncomputable def sha_bigEndian_body : Code := (Go.Proofs.Tryd.f55.body).getD .skip

noncomputable def sha_bigEndian_L : List (List Nat × List Nat) := [([0], [1, 0]), ([0, 1], [1, 5, 0]), ([0, 0, 1, 1], [10, 9, 5, 0, 1]), ([0, 1, 0, 1, 1], [10, 9, 5, 0, 1]), ([0, 0, 0, 1, 0, 1, 1], [11, 10, 5, 0, 1, 9]), ([0, 1, 0, 0, 1, 0, 1, 1], [10, 5, 0, 1, 9]), ([1, 0, 1, 0, 0, 1, 0, 1, 1], [5]), ([0, 0, 0, 1, 1, 0, 0, 1, 0, 1, 1], [5, 6, 0, 1, 10, 9]), ([1, 0, 0, 1, 1, 0, 0, 1, 0, 1, 1], [10, 9, 5, 0, 1]), ([0, 1, 1, 0, 0, 1, 0, 1, 1], [10, 9, 5, 0, 1]), ([1, 1, 1, 0, 0, 1, 0, 1, 1], [10, 9, 5, 0, 1]), ([1, 0, 1, 1], [5]), ([0, 1, 1, 1], [4]), ([1, 1, 1, 1], [4])]

noncomputable def sha_bigEndian_E (N : Nat) : Env := mkEnv tys glob [] [(5, (.int .u8))] [] [] false

theorem sha_bigEndian_Eok (N : Nat) : EnvOk Go.Proofs.Tryd.prog (sha_bigEndian_E N) := mkEnv_ok mixed tys_ok (FnsOk.nil)

noncomputable def sha_bigEndian_s1 (N : Nat) (n : Int) (size : Int) (x9 : Int) (out : (List Int)) (x10 : Int) (rec : (List Int) → Int → Option (List UInt8)) (k0 : (List Int) → Option (List UInt8)) : Option (List UInt8) :=
  cond (decide (x10 < x9))
  (cond (decide ((0 : Int) ≤ (Go.IntKind.wrap Go.IntKind.i64 ((8 : Int) * (Go.IntKind.wrap Go.IntKind.i64 ((Go.IntKind.wrap Go.IntKind.i64 (size - (1 : Int))) - x10))))))
    (cond (Go.Lift.inR x10 (List.length out))
      (cond (decide ((Int.toNat x10) < (List.length out)))
        (rec (List.set out (Int.toNat x10) (Go.IntKind.wrap Go.IntKind.u8 (Go.Lift.shrI Go.IntKind.u64 n (Go.IntKind.wrap Go.IntKind.i64 ((8 : Int) * (Go.IntKind.wrap Go.IntKind.i64 ((Go.IntKind.wrap Go.IntKind.i64 (size - (1 : Int))) - x10))))))) (Go.IntKind.wrap Go.IntKind.i64 (x10 + (1 : Int))))
        (none))
      (none))
    (none))
  (k0 out)

noncomputable def sha_bigEndian_p1 (N : Nat) (n : Int) (size : Int) (out : (List Int)) (x9 : Int) (x10 : Int) (k0 : (List Int) → Option (List UInt8)) : Option (List UInt8) :=
  iter (fun (v : ((List Int) × Int)) r => sha_bigEndian_s1 N n size x9 v.1 v.2 (fun out x10 => (r (out, x10))) k0) N (out, x10)

noncomputable def sha_bigEndian_g1 (N : Nat) (i : (Int × Int × Int)) (v : ((List Int) × Int)) (r : ((List Int) × Int) → Option (List UInt8)) (K : Ex → List A → Option (List UInt8)) : Option (List UInt8) :=
  sha_bigEndian_s1 N i.1 i.2.1 i.2.2 v.1 v.2 (fun out x10 => (r (out, x10))) (fun a0 => (K (.exit 0) (mkS [(5, .row (.int .u8))] 21 (a0, ()))))

noncomputable def sha_bigEndian_h1 (N : Nat) : Hd (List UInt8) := fun st K => (unS [(0, .v (.int .u64)), (0, .v (.int .i64)), (3, .row (.int .u8)), (3, .v (.int .i64)), (0, .v (.int .i64))] 16 (restr [10, 9, 5, 0, 1] 0 st)).bind fun x => iter (fun v r => sha_bigEndian_g1 N ((fun x => (x.1, x.2.1, x.2.2.2.1)) x) v r K) N ((fun x => (x.2.2.1, x.2.2.2.2.1)) x)

noncomputable def sha_bigEndian_t1 (N : Nat) : Tab (List UInt8) := []

theorem sha_bigEndian_ok1 {N : Nat} {c : Ctx} (hb : Base Go.Proofs.Tryd.prog (sha_bigEndian_E N) c) : CodeOk Go.Proofs.Tryd.prog c (nodeAt sha_bigEndian_body [0, 1, 0, 1, 1]) (sha_bigEndian_h1 N) :=
  loop_ok (s := [(0, .v (.int .u64)), (0, .v (.int .i64)), (3, .row (.int .u8)), (3, .v (.int .i64)), (0, .v (.int .i64))]) (m := 16) (sha_bigEndian_g1 N) [10, 9, 5, 0, 1] N (fun x => (x.1, x.2.1, x.2.2.2.1)) (fun x => (x.2.2.1, x.2.2.2.2.1)) (fun i v => (i.1, i.2.1, v.1, i.2.2, v.2, ())) (fun _ => rfl) (evN_sound hb N (sha_bigEndian_t1 N) sha_bigEndian_L sha_bigEndian_body TabOk.nil [0, 0, 1, 0, 1, 1] _ rfl) (fun i v r K => by kernel_rfl)

noncomputable def sha_bigEndian (N : Nat) (n : Int) (size : Int) : Option (List UInt8) :=
  cond (decide (((0 : Int) ≤ size) ∧ ((size ≤ size) ∧ (((size * (1 : Int)) ≤ (281474976710656 : Int)) ∧ (size ≤ (9223372036854775807 : Int))))))
  (sha_bigEndian_p1 N n size (List.replicate (Int.toNat size) (0 : Int)) size (0 : Int)
    (fun out => some (Go.Lift.toStr out)))
  (none)

noncomputable def sha_bigEndian_t (N : Nat) : Tab (List UInt8) := [([0, 1, 0, 1, 1], sha_bigEndian_h1 N)]

theorem sha_bigEndian_link (N : Nat) (x : denS [(0, .v (.int .u64)), (0, .v (.int .i64))]) : evFX (sha_bigEndian_E N) N (sha_bigEndian_t N) sha_bigEndian_L Go.Proofs.Tryd.f55 (mkS [(0, .v (.int .u64)), (0, .v (.int .i64))] 0 x) (kRes (.v .str) 2) = sha_bigEndian N x.1 x.2.1 := by kernel_rfl

noncomputable def sha_bigEndian_res (N : Nat) : List A → Res := resOf [(0, .v (.int .u64)), (0, .v (.int .i64))] (fun x => sha_bigEndian N x.1 x.2.1) (oRes (.v .str) 2)

theorem sha_bigEndian_ct (N : Nat) : Contract Go.Proofs.Tryd.prog glob 55 (sha_bigEndian_res N) :=
  Contract.of (E := sha_bigEndian_E N) (H := sha_bigEndian_t N) (L := sha_bigEndian_L) (N := N) (body := sha_bigEndian_body) (K := (kRes (.v .str) 2)) (sha_bigEndian_Eok N) Go.Proofs.Tryd.func55 (by kernel_rfl) (by decide) (fun _ hb => (TabOk.cons (sha_bigEndian_ok1 hb) TabOk.nil)) (fun x y h => by rw [sha_bigEndian_link]; exact h) (kRes_ok (s := (.v .str)) (m := 2))

abbrev sha_tail_R : Type := (List UInt8)

noncomputable def sha_tail_body : Code := (Go.Proofs.Tryd.f51.body).getD .skip

noncomputable def sha_tail_L : List (List Nat × List Nat) := [([0], [0]), ([0, 1], [3, 0]), ([0, 1, 1], [2]), ([1, 1, 1], [2])]

noncomputable def sha_tail_E (N : Nat) : Env := mkEnv tys glob [(55, sha_bigEndian_res N), (57, octet_Pad_res N)] [] [] [] false

theorem sha_tail_Eok (N : Nat) : EnvOk Go.Proofs.Tryd.prog (sha_tail_E N) := mkEnv_ok mixed tys_ok (FnsOk.cons (sha_bigEndian_ct N) (FnsOk.cons (octet_Pad_ct N) (FnsOk.nil)))

noncomputable def sha_tail (N : Nat) (n : Int) : Option (List UInt8) :=
  (octet_Pad N ([(128 : UInt8)] : List UInt8) (Go.IntKind.wrap Go.IntKind.i64 ((1 : Int) + (Int.tmod (Go.IntKind.wrap Go.IntKind.i64 ((119 : Int) - (Int.tmod n (64 : Int)))) (64 : Int))))).bind fun y =>
  (sha_bigEndian N (Go.IntKind.wrap Go.IntKind.u64 ((Go.IntKind.wrap Go.IntKind.u64 n) * (8 : Int))) (8 : Int)).bind fun y1 =>
  cond (decide (((List.length y) + (List.length y1)) ≤ 9223372036854775807))
  (some (y ++ y1))
  (none)

noncomputable def sha_tail_t (N : Nat) : Tab (List UInt8) := []

theorem sha_tail_link (N : Nat) (x : denS [(0, .v (.int .i64))]) : evFX (sha_tail_E N) N (sha_tail_t N) sha_tail_L Go.Proofs.Tryd.f51 (mkS [(0, .v (.int .i64))] 0 x) (kRes (.v .str) 1) = sha_tail N x.1 := by kernel_rfl

noncomputable def sha_tail_res (N : Nat) : List A → Res := resOf [(0, .v (.int .i64))] (fun x => sha_tail N x.1) (oRes (.v .str) 1)

theorem sha_tail_ct (N : Nat) : Contract Go.Proofs.Tryd.prog glob 51 (sha_tail_res N) :=
  Contract.of (E := sha_tail_E N) (H := sha_tail_t N) (L := sha_tail_L) (N := N) (body := sha_tail_body) (K := (kRes (.v .str) 1)) (sha_tail_Eok N) Go.Proofs.Tryd.func51 (by kernel_rfl) (by decide) (fun _ hb => TabOk.nil) (fun x y h => by rw [sha_tail_link]; exact h) (kRes_ok (s := (.v .str)) (m := 1))

abbrev sha_Tell_R : Type := (List UInt8)

noncomputable def sha_Tell_body : Code := (Go.Proofs.Tryd.f20.body).getD .skip

noncomputable def sha_Tell_L : List (List Nat × List Nat) := [([0], [1]), ([0, 1], [1, 3]), ([0, 0, 1, 1], [7, 6, 3]), ([0, 1, 0, 1, 1], [7, 6, 3]), ([0, 0, 0, 1, 0, 1, 1], [8, 6, 7, 3]), ([0, 1, 0, 0, 1, 0, 1, 1], [6, 7, 3]), ([1, 0, 1, 0, 0, 1, 0, 1, 1], [3]), ([0, 0, 0, 1, 1, 0, 0, 1, 0, 1, 1], [3, 5, 7, 6]), ([1, 0, 0, 1, 1, 0, 0, 1, 0, 1, 1], [7, 6, 3]), ([0, 1, 1, 0, 0, 1, 0, 1, 1], [7, 6, 3]), ([1, 1, 1, 0, 0, 1, 0, 1, 1], [7, 6, 3]), ([1, 0, 1, 1], [3]), ([0, 1, 1, 1], [2]), ([1, 1, 1, 1], [2])]

noncomputable def sha_Tell_E (N : Nat) : Env := mkEnv tys glob [(55, sha_bigEndian_res N)] [] [] [] false

theorem sha_Tell_Eok (N : Nat) : EnvOk Go.Proofs.Tryd.prog (sha_Tell_E N) := mkEnv_ok mixed tys_ok (FnsOk.cons (sha_bigEndian_ct N) (FnsOk.nil))

noncomputable def sha_Tell_s1 (N : Nat) (x6 : (List Int)) (out : (List UInt8)) (x7 : Int) (rec : (List UInt8) → Int → Option (List UInt8)) (k0 : (List UInt8) → Option (List UInt8)) : Option (List UInt8) :=
  cond (decide (x7 < (8 : Int)))
  (cond (Go.Lift.inR x7 8)
    ((sha_bigEndian N (Go.IntKind.wrap Go.IntKind.u64 (List.getD x6 (Int.toNat x7) (0 : Int))) (4 : Int)).bind fun y =>
      cond (decide (((List.length out) + (List.length y)) ≤ 9223372036854775807))
      (rec (out ++ y) (Go.IntKind.wrap Go.IntKind.i64 (x7 + (1 : Int))))
      (none))
    (none))
  (k0 out)

noncomputable def sha_Tell_p1 (N : Nat) (out : (List UInt8)) (x6 : (List Int)) (x7 : Int) (k0 : (List UInt8) → Option (List UInt8)) : Option (List UInt8) :=
  iter (fun (v : ((List UInt8) × Int)) r => sha_Tell_s1 N x6 v.1 v.2 (fun out x7 => (r (out, x7))) k0) N (out, x7)

noncomputable def sha_Tell_g1 (N : Nat) (i : (List Int)) (v : ((List UInt8) × Int)) (r : ((List UInt8) × Int) → Option (List UInt8)) (K : Ex → List A → Option (List UInt8)) : Option (List UInt8) :=
  sha_Tell_s1 N i v.1 v.2 (fun out x7 => (r (out, x7))) (fun a0 => (K (.exit 0) (mkS [(3, .v .str)] 13 (a0, ()))))

noncomputable def sha_Tell_h1 (N : Nat) : Hd (List UInt8) := fun st K => (unS [(3, .v .str), (2, .v (.arr 8 (.int .u32))), (0, .v (.int .i64))] 9 (restr [7, 6, 3] 0 st)).bind fun x => iter (fun v r => sha_Tell_g1 N ((fun x => x.2.1) x) v r K) N ((fun x => (x.1, x.2.2.1)) x)

noncomputable def sha_Tell_t1 (N : Nat) : Tab (List UInt8) := []

theorem sha_Tell_ok1 {N : Nat} {c : Ctx} (hb : Base Go.Proofs.Tryd.prog (sha_Tell_E N) c) : CodeOk Go.Proofs.Tryd.prog c (nodeAt sha_Tell_body [0, 1, 0, 1, 1]) (sha_Tell_h1 N) :=
  loop_ok (s := [(3, .v .str), (2, .v (.arr 8 (.int .u32))), (0, .v (.int .i64))]) (m := 9) (sha_Tell_g1 N) [7, 6, 3] N (fun x => x.2.1) (fun x => (x.1, x.2.2.1)) (fun i v => (v.1, i, v.2, ())) (fun _ => rfl) (evN_sound hb N (sha_Tell_t1 N) sha_Tell_L sha_Tell_body TabOk.nil [0, 0, 1, 0, 1, 1] _ rfl) (fun i v r K => by kernel_rfl)

noncomputable def sha_Tell (N : Nat) (h : (List Int)) : Option (List UInt8) :=
  sha_Tell_p1 N ([] : List UInt8) h (0 : Int)
  (fun out => some out)

noncomputable def sha_Tell_t (N : Nat) : Tab (List UInt8) := [([0, 1, 0, 1, 1], sha_Tell_h1 N)]

theorem sha_Tell_link (N : Nat) (x : denS [(0, .v (.arr 8 (.int .u32)))]) : evFX (sha_Tell_E N) N (sha_Tell_t N) sha_Tell_L Go.Proofs.Tryd.f20 (mkS [(0, .v (.arr 8 (.int .u32)))] 0 x) (kRes (.v .str) 1) = sha_Tell N x.1 := by kernel_rfl

noncomputable def sha_Tell_res (N : Nat) : List A → Res := resOf [(0, .v (.arr 8 (.int .u32)))] (fun x => sha_Tell N x.1) (oRes (.v .str) 1)

theorem sha_Tell_ct (N : Nat) : Contract Go.Proofs.Tryd.prog glob 20 (sha_Tell_res N) :=
  Contract.of (E := sha_Tell_E N) (H := sha_Tell_t N) (L := sha_Tell_L) (N := N) (body := sha_Tell_body) (K := (kRes (.v .str) 1)) (sha_Tell_Eok N) Go.Proofs.Tryd.func20 (by kernel_rfl) (by decide) (fun _ hb => (TabOk.cons (sha_Tell_ok1 hb) TabOk.nil)) (fun x y h => by rw [sha_Tell_link]; exact h) (kRes_ok (s := (.v .str)) (m := 1))

abbrev sha_Hash_Sum1_R : Type := ((List UInt8) × ((Bool × ((List Int) × ((List UInt8) × (Int × Unit)))) × Unit))

noncomputable def sha_Hash_Sum1_body : Code := (Go.Proofs.Tryd.f27.body).getD .skip

noncomputable def sha_Hash_Sum1_L : List (List Nat × List Nat) := [([0], [0]), ([0, 0, 1], [11, 0]), ([1, 0, 1], [0]), ([0, 0, 1, 0, 1], [2, 0]), ([1, 0, 1, 0, 1], [2, 0]), ([0, 1, 1], [2, 0]), ([1, 1, 1], [2, 0])]

noncomputable def sha_Hash_Sum1_E (N : Nat) : Env := mkEnv tys glob [(20, sha_Tell_res N), (51, sha_tail_res N), (56, sha_steps_res N)] [] [] [0] false

theorem sha_Hash_Sum1_Eok (N : Nat) : EnvOk Go.Proofs.Tryd.prog (sha_Hash_Sum1_E N) := mkEnv_ok mixed tys_ok (FnsOk.cons (sha_Tell_ct N) (FnsOk.cons (sha_tail_ct N) (FnsOk.cons (sha_steps_ct N) (FnsOk.nil))))

noncomputable def sha_Hash_Sum1_p2 (N : Nat) (h : (Bool × ((List Int) × ((List UInt8) × (Int × Unit))))) (k0 : Bool → Option ((List UInt8) × ((Bool × ((List Int) × ((List UInt8) × (Int × Unit)))) × Unit))) : Option ((List UInt8) × ((Bool × ((List Int) × ((List UInt8) × (Int × Unit)))) × Unit)) :=
  k0 (!h.1)

noncomputable def sha_Hash_Sum1_g2 (N : Nat) (x : denS [(0, .box (.pair .bool (.pair (.arr 8 (.int .u32)) (.pair .str (.pair (.int .i64) .unit)))))]) (K : Ex → List A → Option ((List UInt8) × ((Bool × ((List Int) × ((List UInt8) × (Int × Unit)))) × Unit))) : Option ((List UInt8) × ((Bool × ((List Int) × ((List UInt8) × (Int × Unit)))) × Unit)) :=
  sha_Hash_Sum1_p2 N x.1 (fun a1 => (K .normal (mkS [(0, .box (.pair .bool (.pair (.arr 8 (.int .u32)) (.pair .str (.pair (.int .i64) .unit))))), (10, .v .bool)] 17 (x.1, a1, ()))))

noncomputable def sha_Hash_Sum1_h2 (N : Nat) : Hd ((List UInt8) × ((Bool × ((List Int) × ((List UInt8) × (Int × Unit)))) × Unit)) := fun st K => (unS [(0, .box (.pair .bool (.pair (.arr 8 (.int .u32)) (.pair .str (.pair (.int .i64) .unit)))))] 28 (restr [0] 0 st)).bind fun x => sha_Hash_Sum1_g2 N x K

noncomputable def sha_Hash_Sum1_t2 (N : Nat) : Tab ((List UInt8) × ((Bool × ((List Int) × ((List UInt8) × (Int × Unit)))) × Unit)) := []

theorem sha_Hash_Sum1_ok2 {N : Nat} {c : Ctx} (hb : Base Go.Proofs.Tryd.prog (sha_Hash_Sum1_E N) c) : CodeOk Go.Proofs.Tryd.prog c (nodeAt sha_Hash_Sum1_body [0, 0, 1]) (sha_Hash_Sum1_h2 N) :=
  piece_ok (s := [(0, .box (.pair .bool (.pair (.arr 8 (.int .u32)) (.pair .str (.pair (.int .i64) .unit)))))]) (m := 28) (g := sha_Hash_Sum1_g2 N) [0] (evN_sound hb N (sha_Hash_Sum1_t2 N) sha_Hash_Sum1_L sha_Hash_Sum1_body TabOk.nil [0, 0, 1] _ rfl) (fun x K => by kernel_rfl)

noncomputable def sha_Hash_Sum1_p1 (N : Nat) (h : (Bool × ((List Int) × ((List UInt8) × (Int × Unit))))) (k0 : Option ((List UInt8) × ((Bool × ((List Int) × ((List UInt8) × (Int × Unit)))) × Unit))) : Option ((List UInt8) × ((Bool × ((List Int) × ((List UInt8) × (Int × Unit)))) × Unit)) :=
  sha_Hash_Sum1_p2 N h
  (fun x11 => cond x11
    (none)
    (k0))

noncomputable def sha_Hash_Sum1_g1 (N : Nat) (x : denS [(0, .box (.pair .bool (.pair (.arr 8 (.int .u32)) (.pair .str (.pair (.int .i64) .unit)))))]) (K : Ex → List A → Option ((List UInt8) × ((Bool × ((List Int) × ((List UInt8) × (Int × Unit)))) × Unit))) : Option ((List UInt8) × ((Bool × ((List Int) × ((List UInt8) × (Int × Unit)))) × Unit)) :=
  sha_Hash_Sum1_p1 N x.1 (K .normal (mkS [(0, .box (.pair .bool (.pair (.arr 8 (.int .u32)) (.pair .str (.pair (.int .i64) .unit)))))] 28 (x.1, ())))

noncomputable def sha_Hash_Sum1_h1 (N : Nat) : Hd ((List UInt8) × ((Bool × ((List Int) × ((List UInt8) × (Int × Unit)))) × Unit)) := fun st K => (unS [(0, .box (.pair .bool (.pair (.arr 8 (.int .u32)) (.pair .str (.pair (.int .i64) .unit)))))] 28 (restr [0] 0 st)).bind fun x => sha_Hash_Sum1_g1 N x K

noncomputable def sha_Hash_Sum1_t1 (N : Nat) : Tab ((List UInt8) × ((Bool × ((List Int) × ((List UInt8) × (Int × Unit)))) × Unit)) := [([0, 0, 1], sha_Hash_Sum1_h2 N)]

theorem sha_Hash_Sum1_ok1 {N : Nat} {c : Ctx} (hb : Base Go.Proofs.Tryd.prog (sha_Hash_Sum1_E N) c) : CodeOk Go.Proofs.Tryd.prog c (nodeAt sha_Hash_Sum1_body [0, 1]) (sha_Hash_Sum1_h1 N) :=
  piece_ok (s := [(0, .box (.pair .bool (.pair (.arr 8 (.int .u32)) (.pair .str (.pair (.int .i64) .unit)))))]) (m := 28) (g := sha_Hash_Sum1_g1 N) [0] (evN_sound hb N (sha_Hash_Sum1_t1 N) sha_Hash_Sum1_L sha_Hash_Sum1_body (TabOk.cons (sha_Hash_Sum1_ok2 hb) TabOk.nil) [0, 1] _ rfl) (fun x K => by kernel_rfl)

noncomputable def sha_Hash_Sum1 (N : Nat) (h : (Bool × ((List Int) × ((List UInt8) × (Int × Unit))))) : Option ((List UInt8) × ((Bool × ((List Int) × ((List UInt8) × (Int × Unit)))) × Unit)) :=
  sha_Hash_Sum1_p1 N h
  ((sha_tail N h.2.2.2.1).bind fun y =>
    cond (decide (((List.length h.2.2.1) + (List.length y)) ≤ 9223372036854775807))
    ((sha_steps N h.2.1 (h.2.2.1 ++ y)).bind fun y1 =>
      (sha_Tell N y1).bind fun y2 =>
      some (y2, (h, ())))
    (none))

noncomputable def sha_Hash_Sum1_t (N : Nat) : Tab ((List UInt8) × ((Bool × ((List Int) × ((List UInt8) × (Int × Unit)))) × Unit)) := [([0, 1], sha_Hash_Sum1_h1 N)]

theorem sha_Hash_Sum1_link (N : Nat) (x : denS [(0, .box (.pair .bool (.pair (.arr 8 (.int .u32)) (.pair .str (.pair (.int .i64) .unit)))))]) : evFX (sha_Hash_Sum1_E N) N (sha_Hash_Sum1_t N) sha_Hash_Sum1_L Go.Proofs.Tryd.f27 (mkS [(0, .box (.pair .bool (.pair (.arr 8 (.int .u32)) (.pair .str (.pair (.int .i64) .unit)))))] 0 x) (kResB (.v .str) [(0, .box (.pair .bool (.pair (.arr 8 (.int .u32)) (.pair .str (.pair (.int .i64) .unit)))))] 0) = sha_Hash_Sum1 N x.1 := by kernel_rfl

noncomputable def sha_Hash_Sum1_res (N : Nat) : List A → Res := resOf [(0, .box (.pair .bool (.pair (.arr 8 (.int .u32)) (.pair .str (.pair (.int .i64) .unit)))))] (fun x => sha_Hash_Sum1 N x.1) (oResB (.v .str) [(0, .box (.pair .bool (.pair (.arr 8 (.int .u32)) (.pair .str (.pair (.int .i64) .unit)))))] 0)

theorem sha_Hash_Sum1_ct (N : Nat) : Contract Go.Proofs.Tryd.prog glob 27 (sha_Hash_Sum1_res N) :=
  Contract.of (E := sha_Hash_Sum1_E N) (H := sha_Hash_Sum1_t N) (L := sha_Hash_Sum1_L) (N := N) (body := sha_Hash_Sum1_body) (K := (kResB (.v .str) [(0, .box (.pair .bool (.pair (.arr 8 (.int .u32)) (.pair .str (.pair (.int .i64) .unit)))))] 0)) (sha_Hash_Sum1_Eok N) Go.Proofs.Tryd.func27 (by kernel_rfl) (by decide) (fun _ hb => (TabOk.cons (sha_Hash_Sum1_ok1 hb) TabOk.nil)) (fun x y h => by rw [sha_Hash_Sum1_link]; exact h) (kResB_ok (s := (.v .str)) (os := [(0, .box (.pair .bool (.pair (.arr 8 (.int .u32)) (.pair .str (.pair (.int .i64) .unit)))))]) (m := 0))

abbrev sha_Sum_R : Type := (List UInt8)

noncomputable def sha_Sum_body : Code := (Go.Proofs.Tryd.f14.body).getD .skip

noncomputable def sha_Sum_L : List (List Nat × List Nat) := [([0], [0]), ([0, 1], [3, 0]), ([0, 1, 1], [3]), ([0, 1, 1, 1], [2]), ([1, 1, 1, 1], [2])]

noncomputable def sha_Sum_E (N : Nat) : Env := mkEnv tys glob [(27, sha_Hash_Sum1_res N), (25, sha_Hash_Add_nil_all N), (24, sha_New_res N)] [] [] [] false

theorem sha_Sum_Eok (N : Nat) : EnvOk Go.Proofs.Tryd.prog (sha_Sum_E N) := mkEnv_ok mixed tys_ok (FnsOk.cons (sha_Hash_Sum1_ct N) (FnsOk.cons (sha_Hash_Add_nil_allct N) (FnsOk.cons (sha_New_ct N) (FnsOk.nil))))

noncomputable def sha_Sum (N : Nat) (s : (List UInt8)) : Option (List UInt8) :=
  (sha_Hash_Add N (true, (([(1779033703 : Int), (3144134277 : Int), (1013904242 : Int), (2773480762 : Int), (1359893119 : Int), (2600822924 : Int), (528734635 : Int), (1541459225 : Int)] : List Int), (([] : List UInt8), ((0 : Int), ())))) s).bind fun y =>
  (sha_Hash_Sum1 N y.2.1).bind fun y1 =>
  some y1.1

noncomputable def sha_Sum_t (N : Nat) : Tab (List UInt8) := []

theorem sha_Sum_link (N : Nat) (x : denS [(0, .v .str)]) : evFX (sha_Sum_E N) N (sha_Sum_t N) sha_Sum_L Go.Proofs.Tryd.f14 (mkS [(0, .v .str)] 0 x) (kRes (.v .str) 1) = sha_Sum N x.1 := by kernel_rfl

noncomputable def sha_Sum_res (N : Nat) : List A → Res := resOf [(0, .v .str)] (fun x => sha_Sum N x.1) (oRes (.v .str) 1)

theorem sha_Sum_ct (N : Nat) : Contract Go.Proofs.Tryd.prog glob 14 (sha_Sum_res N) :=
  Contract.of (E := sha_Sum_E N) (H := sha_Sum_t N) (L := sha_Sum_L) (N := N) (body := sha_Sum_body) (K := (kRes (.v .str) 1)) (sha_Sum_Eok N) Go.Proofs.Tryd.func14 (by kernel_rfl) (by decide) (fun _ hb => TabOk.nil) (fun x y h => by rw [sha_Sum_link]; exact h) (kRes_ok (s := (.v .str)) (m := 1))

abbrev sha_Hash_Sum_R : Type := ((List UInt8) × ((Bool × ((List Int) × ((List UInt8) × (Int × Unit)))) × Unit))

noncomputable def sha_Hash_Sum_body : Code := (Go.Proofs.Tryd.f27.body).getD .skip

noncomputable def sha_Hash_Sum_L : List (List Nat × List Nat) := [([0], [0]), ([0, 0, 1], [11, 0]), ([1, 0, 1], [0]), ([0, 0, 1, 0, 1], [2, 0]), ([1, 0, 1, 0, 1], [2, 0]), ([0, 1, 1], [2, 0]), ([1, 1, 1], [2, 0])]

noncomputable def sha_Hash_Sum_E (N : Nat) : Env := mkEnv tys glob [(14, sha_Sum_res N), (20, sha_Tell_res N), (51, sha_tail_res N), (56, sha_steps_res N)] [] [] [0] false

theorem sha_Hash_Sum_Eok (N : Nat) : EnvOk Go.Proofs.Tryd.prog (sha_Hash_Sum_E N) := mkEnv_ok mixed tys_ok (FnsOk.cons (sha_Sum_ct N) (FnsOk.cons (sha_Tell_ct N) (FnsOk.cons (sha_tail_ct N) (FnsOk.cons (sha_steps_ct N) (FnsOk.nil)))))

noncomputable def sha_Hash_Sum_p2 (N : Nat) (h : (Bool × ((List Int) × ((List UInt8) × (Int × Unit))))) (k0 : Bool → Option ((List UInt8) × ((Bool × ((List Int) × ((List UInt8) × (Int × Unit)))) × Unit))) : Option ((List UInt8) × ((Bool × ((List Int) × ((List UInt8) × (Int × Unit)))) × Unit)) :=
  k0 (!h.1)

noncomputable def sha_Hash_Sum_g2 (N : Nat) (x : denS [(0, .box (.pair .bool (.pair (.arr 8 (.int .u32)) (.pair .str (.pair (.int .i64) .unit)))))]) (K : Ex → List A → Option ((List UInt8) × ((Bool × ((List Int) × ((List UInt8) × (Int × Unit)))) × Unit))) : Option ((List UInt8) × ((Bool × ((List Int) × ((List UInt8) × (Int × Unit)))) × Unit)) :=
  sha_Hash_Sum_p2 N x.1 (fun a1 => (K .normal (mkS [(0, .box (.pair .bool (.pair (.arr 8 (.int .u32)) (.pair .str (.pair (.int .i64) .unit))))), (10, .v .bool)] 17 (x.1, a1, ()))))

noncomputable def sha_Hash_Sum_h2 (N : Nat) : Hd ((List UInt8) × ((Bool × ((List Int) × ((List UInt8) × (Int × Unit)))) × Unit)) := fun st K => (unS [(0, .box (.pair .bool (.pair (.arr 8 (.int .u32)) (.pair .str (.pair (.int .i64) .unit)))))] 28 (restr [0] 0 st)).bind fun x => sha_Hash_Sum_g2 N x K

noncomputable def sha_Hash_Sum_t2 (N : Nat) : Tab ((List UInt8) × ((Bool × ((List Int) × ((List UInt8) × (Int × Unit)))) × Unit)) := []

theorem sha_Hash_Sum_ok2 {N : Nat} {c : Ctx} (hb : Base Go.Proofs.Tryd.prog (sha_Hash_Sum_E N) c) : CodeOk Go.Proofs.Tryd.prog c (nodeAt sha_Hash_Sum_body [0, 0, 1]) (sha_Hash_Sum_h2 N) :=
  piece_ok (s := [(0, .box (.pair .bool (.pair (.arr 8 (.int .u32)) (.pair .str (.pair (.int .i64) .unit)))))]) (m := 28) (g := sha_Hash_Sum_g2 N) [0] (evN_sound hb N (sha_Hash_Sum_t2 N) sha_Hash_Sum_L sha_Hash_Sum_body TabOk.nil [0, 0, 1] _ rfl) (fun x K => by kernel_rfl)

noncomputable def sha_Hash_Sum_p1 (N : Nat) (h : (Bool × ((List Int) × ((List UInt8) × (Int × Unit))))) (k0 : (List UInt8) → Option ((List UInt8) × ((Bool × ((List Int) × ((List UInt8) × (Int × Unit)))) × Unit))) (k1 : Option ((List UInt8) × ((Bool × ((List Int) × ((List UInt8) × (Int × Unit)))) × Unit))) : Option ((List UInt8) × ((Bool × ((List Int) × ((List UInt8) × (Int × Unit)))) × Unit)) :=
  sha_Hash_Sum_p2 N h
  (fun x11 => cond x11
    ((sha_Sum N ([] : List UInt8)).bind fun y =>
      k0 y)
    (k1))

noncomputable def sha_Hash_Sum_g1 (N : Nat) (x : denS [(0, .box (.pair .bool (.pair (.arr 8 (.int .u32)) (.pair .str (.pair (.int .i64) .unit)))))]) (K : Ex → List A → Option ((List UInt8) × ((Bool × ((List Int) × ((List UInt8) × (Int × Unit)))) × Unit))) : Option ((List UInt8) × ((Bool × ((List Int) × ((List UInt8) × (Int × Unit)))) × Unit)) :=
  sha_Hash_Sum_p1 N x.1 (fun a1 => (K .ret (mkS [(0, .box (.pair .bool (.pair (.arr 8 (.int .u32)) (.pair .str (.pair (.int .i64) .unit))))), (1, .v .str)] 26 (x.1, a1, ())))) (K .normal (mkS [(0, .box (.pair .bool (.pair (.arr 8 (.int .u32)) (.pair .str (.pair (.int .i64) .unit)))))] 28 (x.1, ())))

noncomputable def sha_Hash_Sum_h1 (N : Nat) : Hd ((List UInt8) × ((Bool × ((List Int) × ((List UInt8) × (Int × Unit)))) × Unit)) := fun st K => (unS [(0, .box (.pair .bool (.pair (.arr 8 (.int .u32)) (.pair .str (.pair (.int .i64) .unit)))))] 28 (restr [0] 0 st)).bind fun x => sha_Hash_Sum_g1 N x K

noncomputable def sha_Hash_Sum_t1 (N : Nat) : Tab ((List UInt8) × ((Bool × ((List Int) × ((List UInt8) × (Int × Unit)))) × Unit)) := [([0, 0, 1], sha_Hash_Sum_h2 N)]

theorem sha_Hash_Sum_ok1 {N : Nat} {c : Ctx} (hb : Base Go.Proofs.Tryd.prog (sha_Hash_Sum_E N) c) : CodeOk Go.Proofs.Tryd.prog c (nodeAt sha_Hash_Sum_body [0, 1]) (sha_Hash_Sum_h1 N) :=
  piece_ok (s := [(0, .box (.pair .bool (.pair (.arr 8 (.int .u32)) (.pair .str (.pair (.int .i64) .unit)))))]) (m := 28) (g := sha_Hash_Sum_g1 N) [0] (evN_sound hb N (sha_Hash_Sum_t1 N) sha_Hash_Sum_L sha_Hash_Sum_body (TabOk.cons (sha_Hash_Sum_ok2 hb) TabOk.nil) [0, 1] _ rfl) (fun x K => by kernel_rfl)

noncomputable def sha_Hash_Sum (N : Nat) (h : (Bool × ((List Int) × ((List UInt8) × (Int × Unit))))) : Option ((List UInt8) × ((Bool × ((List Int) × ((List UInt8) × (Int × Unit)))) × Unit)) :=
  sha_Hash_Sum_p1 N h
  (fun x2 => some (x2, (h, ())))
  ((sha_tail N h.2.2.2.1).bind fun y =>
    cond (decide (((List.length h.2.2.1) + (List.length y)) ≤ 9223372036854775807))
    ((sha_steps N h.2.1 (h.2.2.1 ++ y)).bind fun y1 =>
      (sha_Tell N y1).bind fun y2 =>
      some (y2, (h, ())))
    (none))

noncomputable def sha_Hash_Sum_t (N : Nat) : Tab ((List UInt8) × ((Bool × ((List Int) × ((List UInt8) × (Int × Unit)))) × Unit)) := [([0, 1], sha_Hash_Sum_h1 N)]

theorem sha_Hash_Sum_link (N : Nat) (x : denS [(0, .box (.pair .bool (.pair (.arr 8 (.int .u32)) (.pair .str (.pair (.int .i64) .unit)))))]) : evFX (sha_Hash_Sum_E N) N (sha_Hash_Sum_t N) sha_Hash_Sum_L Go.Proofs.Tryd.f27 (mkS [(0, .box (.pair .bool (.pair (.arr 8 (.int .u32)) (.pair .str (.pair (.int .i64) .unit)))))] 0 x) (kResB (.v .str) [(0, .box (.pair .bool (.pair (.arr 8 (.int .u32)) (.pair .str (.pair (.int .i64) .unit)))))] 0) = sha_Hash_Sum N x.1 := by kernel_rfl

noncomputable def sha_Hash_Sum_res (N : Nat) : List A → Res := resOf [(0, .box (.pair .bool (.pair (.arr 8 (.int .u32)) (.pair .str (.pair (.int .i64) .unit)))))] (fun x => sha_Hash_Sum N x.1) (oResB (.v .str) [(0, .box (.pair .bool (.pair (.arr 8 (.int .u32)) (.pair .str (.pair (.int .i64) .unit)))))] 0)

theorem sha_Hash_Sum_ct (N : Nat) : Contract Go.Proofs.Tryd.prog glob 27 (sha_Hash_Sum_res N) :=
  Contract.of (E := sha_Hash_Sum_E N) (H := sha_Hash_Sum_t N) (L := sha_Hash_Sum_L) (N := N) (body := sha_Hash_Sum_body) (K := (kResB (.v .str) [(0, .box (.pair .bool (.pair (.arr 8 (.int .u32)) (.pair .str (.pair (.int .i64) .unit)))))] 0)) (sha_Hash_Sum_Eok N) Go.Proofs.Tryd.func27 (by kernel_rfl) (by decide) (fun _ hb => (TabOk.cons (sha_Hash_Sum_ok1 hb) TabOk.nil)) (fun x y h => by rw [sha_Hash_Sum_link]; exact h) (kResB_ok (s := (.v .str)) (os := [(0, .box (.pair .bool (.pair (.arr 8 (.int .u32)) (.pair .str (.pair (.int .i64) .unit)))))]) (m := 0))

noncomputable def sha_Hash_Sum_all (N : Nat) : List A → Res := resAlt [(0, .box (.pair .bool (.pair (.arr 8 (.int .u32)) (.pair .str (.pair (.int .i64) .unit)))))] (fun x => sha_Hash_Sum N x.1) (oResB (.v .str) [(0, .box (.pair .bool (.pair (.arr 8 (.int .u32)) (.pair .str (.pair (.int .i64) .unit)))))] 0) (sha_Hash_Sum1_res N)

theorem sha_Hash_Sum_allct (N : Nat) : Contract Go.Proofs.Tryd.prog glob 27 (sha_Hash_Sum_all N) := Contract.alt (sha_Hash_Sum_ct N) (sha_Hash_Sum1_ct N)

abbrev sha_Hash_Sum_nil_R : Type := (List UInt8)

noncomputable def sha_Hash_Sum_nil_body : Code := (Go.Proofs.Tryd.f27.body).getD .skip

noncomputable def sha_Hash_Sum_nil_L : List (List Nat × List Nat) := [([0], [0]), ([0, 0, 1], [11, 0]), ([1, 0, 1], [0]), ([0, 0, 1, 0, 1], [2]), ([1, 0, 1, 0, 1], [2]), ([0, 1, 1], [2]), ([1, 1, 1], [2])]

noncomputable def sha_Hash_Sum_nil_E (N : Nat) : Env := mkEnv tys glob [(14, sha_Sum_res N), (20, sha_Tell_res N), (51, sha_tail_res N), (56, sha_steps_res N)] [] [] [] false

theorem sha_Hash_Sum_nil_Eok (N : Nat) : EnvOk Go.Proofs.Tryd.prog (sha_Hash_Sum_nil_E N) := mkEnv_ok mixed tys_ok (FnsOk.cons (sha_Sum_ct N) (FnsOk.cons (sha_Tell_ct N) (FnsOk.cons (sha_tail_ct N) (FnsOk.cons (sha_steps_ct N) (FnsOk.nil)))))

noncomputable def sha_Hash_Sum_nil_p2 (N : Nat) (k0 : Bool → Option (List UInt8)) : Option (List UInt8) :=
  k0 true

noncomputable def sha_Hash_Sum_nil_g2 (N : Nat) (x : denS [(0, .nilp)]) (K : Ex → List A → Option (List UInt8)) : Option (List UInt8) :=
  sha_Hash_Sum_nil_p2 N (fun a0 => (K .normal (mkS [(0, .nilp), (10, .v .bool)] 17 ((), a0, ()))))

noncomputable def sha_Hash_Sum_nil_h2 (N : Nat) : Hd (List UInt8) := fun st K => (unS [(0, .nilp)] 28 (restr [0] 0 st)).bind fun x => sha_Hash_Sum_nil_g2 N x K

noncomputable def sha_Hash_Sum_nil_t2 (N : Nat) : Tab (List UInt8) := []

theorem sha_Hash_Sum_nil_ok2 {N : Nat} {c : Ctx} (hb : Base Go.Proofs.Tryd.prog (sha_Hash_Sum_nil_E N) c) : CodeOk Go.Proofs.Tryd.prog c (nodeAt sha_Hash_Sum_nil_body [0, 0, 1]) (sha_Hash_Sum_nil_h2 N) :=
  piece_ok (s := [(0, .nilp)]) (m := 28) (g := sha_Hash_Sum_nil_g2 N) [0] (evN_sound hb N (sha_Hash_Sum_nil_t2 N) sha_Hash_Sum_nil_L sha_Hash_Sum_nil_body TabOk.nil [0, 0, 1] _ rfl) (fun x K => by kernel_rfl)

noncomputable def sha_Hash_Sum_nil_p1 (N : Nat) (k0 : (List UInt8) → Option (List UInt8)) (k1 : Option (List UInt8)) : Option (List UInt8) :=
  sha_Hash_Sum_nil_p2 N
  (fun x11 => cond x11
    ((sha_Sum N ([] : List UInt8)).bind fun y =>
      k0 y)
    (k1))

noncomputable def sha_Hash_Sum_nil_g1 (N : Nat) (x : denS [(0, .nilp)]) (K : Ex → List A → Option (List UInt8)) : Option (List UInt8) :=
  sha_Hash_Sum_nil_p1 N (fun a0 => (K .ret (mkS [(2, .v .str)] 26 (a0, ())))) (K .normal (mkS [(0, .nilp)] 28 ((), ())))

noncomputable def sha_Hash_Sum_nil_h1 (N : Nat) : Hd (List UInt8) := fun st K => (unS [(0, .nilp)] 28 (restr [0] 0 st)).bind fun x => sha_Hash_Sum_nil_g1 N x K

noncomputable def sha_Hash_Sum_nil_t1 (N : Nat) : Tab (List UInt8) := [([0, 0, 1], sha_Hash_Sum_nil_h2 N)]

theorem sha_Hash_Sum_nil_ok1 {N : Nat} {c : Ctx} (hb : Base Go.Proofs.Tryd.prog (sha_Hash_Sum_nil_E N) c) : CodeOk Go.Proofs.Tryd.prog c (nodeAt sha_Hash_Sum_nil_body [0, 1]) (sha_Hash_Sum_nil_h1 N) :=
  piece_ok (s := [(0, .nilp)]) (m := 28) (g := sha_Hash_Sum_nil_g1 N) [0] (evN_sound hb N (sha_Hash_Sum_nil_t1 N) sha_Hash_Sum_nil_L sha_Hash_Sum_nil_body (TabOk.cons (sha_Hash_Sum_nil_ok2 hb) TabOk.nil) [0, 1] _ rfl) (fun x K => by kernel_rfl)

noncomputable def sha_Hash_Sum_nil (N : Nat) : Option (List UInt8) :=
  sha_Hash_Sum_nil_p1 N
  (fun x2 => some x2)
  (none)

noncomputable def sha_Hash_Sum_nil_t (N : Nat) : Tab (List UInt8) := [([0, 1], sha_Hash_Sum_nil_h1 N)]

theorem sha_Hash_Sum_nil_link (N : Nat) (x : denS [(0, .nilp)]) : evFX (sha_Hash_Sum_nil_E N) N (sha_Hash_Sum_nil_t N) sha_Hash_Sum_nil_L Go.Proofs.Tryd.f27 (mkS [(0, .nilp)] 0 x) (kRes (.v .str) 1) = sha_Hash_Sum_nil N := by kernel_rfl

noncomputable def sha_Hash_Sum_nil_res (N : Nat) : List A → Res := resOf [(0, .nilp)] (fun x => sha_Hash_Sum_nil N) (oRes (.v .str) 1)

theorem sha_Hash_Sum_nil_ct (N : Nat) : Contract Go.Proofs.Tryd.prog glob 27 (sha_Hash_Sum_nil_res N) :=
  Contract.of (E := sha_Hash_Sum_nil_E N) (H := sha_Hash_Sum_nil_t N) (L := sha_Hash_Sum_nil_L) (N := N) (body := sha_Hash_Sum_nil_body) (K := (kRes (.v .str) 1)) (sha_Hash_Sum_nil_Eok N) Go.Proofs.Tryd.func27 (by kernel_rfl) (by decide) (fun _ hb => (TabOk.cons (sha_Hash_Sum_nil_ok1 hb) TabOk.nil)) (fun x y h => by rw [sha_Hash_Sum_nil_link]; exact h) (kRes_ok (s := (.v .str)) (m := 1))

noncomputable def sha_Hash_Sum_nil_all (N : Nat) : List A → Res := resAlt [(0, .nilp)] (fun x => sha_Hash_Sum_nil N) (oRes (.v .str) 1) (sha_Hash_Sum_all N)

theorem sha_Hash_Sum_nil_allct (N : Nat) : Contract Go.Proofs.Tryd.prog glob 27 (sha_Hash_Sum_nil_all N) := Contract.alt (sha_Hash_Sum_nil_ct N) (sha_Hash_Sum_allct N)

abbrev sha_Hash_Long_R : Type := (Int × ((Bool × ((List Int) × ((List UInt8) × (Int × Unit)))) × Unit))

noncomputable def sha_Hash_Long_body : Code := (Go.Proofs.Tryd.f26.body).getD .skip

noncomputable def sha_Hash_Long_L : List (List Nat × List Nat) := [([0], [0]), ([0, 0, 1], [4, 0]), ([1, 0, 1], [0]), ([0, 0, 1, 0, 1], [2, 0]), ([1, 0, 1, 0, 1], [2, 0]), ([0, 1, 1], [2, 0]), ([1, 1, 1], [2, 0])]

noncomputable def sha_Hash_Long_E (N : Nat) : Env := mkEnv tys glob [] [] [] [0] false

theorem sha_Hash_Long_Eok (N : Nat) : EnvOk Go.Proofs.Tryd.prog (sha_Hash_Long_E N) := mkEnv_ok mixed tys_ok (FnsOk.nil)

noncomputable def sha_Hash_Long (N : Nat) (h : (Bool × ((List Int) × ((List UInt8) × (Int × Unit))))) : Option (Int × ((Bool × ((List Int) × ((List UInt8) × (Int × Unit)))) × Unit)) :=
  some (h.2.2.2.1, (h, ()))

noncomputable def sha_Hash_Long_t (N : Nat) : Tab (Int × ((Bool × ((List Int) × ((List UInt8) × (Int × Unit)))) × Unit)) := []

theorem sha_Hash_Long_link (N : Nat) (x : denS [(0, .box (.pair .bool (.pair (.arr 8 (.int .u32)) (.pair .str (.pair (.int .i64) .unit)))))]) : evFX (sha_Hash_Long_E N) N (sha_Hash_Long_t N) sha_Hash_Long_L Go.Proofs.Tryd.f26 (mkS [(0, .box (.pair .bool (.pair (.arr 8 (.int .u32)) (.pair .str (.pair (.int .i64) .unit)))))] 0 x) (kResB (.v (.int .i64)) [(0, .box (.pair .bool (.pair (.arr 8 (.int .u32)) (.pair .str (.pair (.int .i64) .unit)))))] 0) = sha_Hash_Long N x.1 := by kernel_rfl

noncomputable def sha_Hash_Long_res (N : Nat) : List A → Res := resOf [(0, .box (.pair .bool (.pair (.arr 8 (.int .u32)) (.pair .str (.pair (.int .i64) .unit)))))] (fun x => sha_Hash_Long N x.1) (oResB (.v (.int .i64)) [(0, .box (.pair .bool (.pair (.arr 8 (.int .u32)) (.pair .str (.pair (.int .i64) .unit)))))] 0)

theorem sha_Hash_Long_ct (N : Nat) : Contract Go.Proofs.Tryd.prog glob 26 (sha_Hash_Long_res N) :=
  Contract.of (E := sha_Hash_Long_E N) (H := sha_Hash_Long_t N) (L := sha_Hash_Long_L) (N := N) (body := sha_Hash_Long_body) (K := (kResB (.v (.int .i64)) [(0, .box (.pair .bool (.pair (.arr 8 (.int .u32)) (.pair .str (.pair (.int .i64) .unit)))))] 0)) (sha_Hash_Long_Eok N) Go.Proofs.Tryd.func26 (by kernel_rfl) (by decide) (fun _ hb => TabOk.nil) (fun x y h => by rw [sha_Hash_Long_link]; exact h) (kResB_ok (s := (.v (.int .i64))) (os := [(0, .box (.pair .bool (.pair (.arr 8 (.int .u32)) (.pair .str (.pair (.int .i64) .unit)))))]) (m := 0))

abbrev sha_Hash_Long_nil_R : Type := Int

noncomputable def sha_Hash_Long_nil_body : Code := (Go.Proofs.Tryd.f26.body).getD .skip

noncomputable def sha_Hash_Long_nil_L : List (List Nat × List Nat) := [([0], [0]), ([0, 0, 1], [4, 0]), ([1, 0, 1], [0]), ([0, 0, 1, 0, 1], [2]), ([1, 0, 1, 0, 1], [2]), ([0, 1, 1], [2]), ([1, 1, 1], [2])]

noncomputable def sha_Hash_Long_nil_E (N : Nat) : Env := mkEnv tys glob [] [] [] [] false

theorem sha_Hash_Long_nil_Eok (N : Nat) : EnvOk Go.Proofs.Tryd.prog (sha_Hash_Long_nil_E N) := mkEnv_ok mixed tys_ok (FnsOk.nil)

noncomputable def sha_Hash_Long_nil (N : Nat) : Option Int :=
  some (0 : Int)

noncomputable def sha_Hash_Long_nil_t (N : Nat) : Tab Int := []

theorem sha_Hash_Long_nil_link (N : Nat) (x : denS [(0, .nilp)]) : evFX (sha_Hash_Long_nil_E N) N (sha_Hash_Long_nil_t N) sha_Hash_Long_nil_L Go.Proofs.Tryd.f26 (mkS [(0, .nilp)] 0 x) (kRes (.v (.int .i64)) 1) = sha_Hash_Long_nil N := by kernel_rfl

noncomputable def sha_Hash_Long_nil_res (N : Nat) : List A → Res := resOf [(0, .nilp)] (fun x => sha_Hash_Long_nil N) (oRes (.v (.int .i64)) 1)

theorem sha_Hash_Long_nil_ct (N : Nat) : Contract Go.Proofs.Tryd.prog glob 26 (sha_Hash_Long_nil_res N) :=
  Contract.of (E := sha_Hash_Long_nil_E N) (H := sha_Hash_Long_nil_t N) (L := sha_Hash_Long_nil_L) (N := N) (body := sha_Hash_Long_nil_body) (K := (kRes (.v (.int .i64)) 1)) (sha_Hash_Long_nil_Eok N) Go.Proofs.Tryd.func26 (by kernel_rfl) (by decide) (fun _ hb => TabOk.nil) (fun x y h => by rw [sha_Hash_Long_nil_link]; exact h) (kRes_ok (s := (.v (.int .i64))) (m := 1))

noncomputable def sha_Hash_Long_nil_all (N : Nat) : List A → Res := resAlt [(0, .nilp)] (fun x => sha_Hash_Long_nil N) (oRes (.v (.int .i64)) 1) (sha_Hash_Long_res N)

theorem sha_Hash_Long_nil_allct (N : Nat) : Contract Go.Proofs.Tryd.prog glob 26 (sha_Hash_Long_nil_all N) := Contract.alt (sha_Hash_Long_nil_ct N) (sha_Hash_Long_ct N)

abbrev porterlaw03_works_R : Type := Bool

noncomputable def porterlaw03_works_body : Code := (Go.Proofs.Tryd.f13.body).getD .skip

noncomputable def porterlaw03_works_L : List (List Nat × List Nat) := [([0], []), ([0, 1], [1]), ([0, 1, 1], [1]), ([0, 1, 1, 1], [1]), ([0, 1, 1, 1, 1], [0]), ([1, 1, 1, 1, 1], [0])]

noncomputable def porterlaw03_works_E (N : Nat) : Env := mkEnv tys glob [(26, sha_Hash_Long_nil_all N), (27, sha_Hash_Sum_nil_all N), (14, sha_Sum_res N), (25, sha_Hash_Add_nil_all N), (24, sha_New_res N)] [] [] [] false

theorem porterlaw03_works_Eok (N : Nat) : EnvOk Go.Proofs.Tryd.prog (porterlaw03_works_E N) := mkEnv_ok mixed tys_ok (FnsOk.cons (sha_Hash_Long_nil_allct N) (FnsOk.cons (sha_Hash_Sum_nil_allct N) (FnsOk.cons (sha_Sum_ct N) (FnsOk.cons (sha_Hash_Add_nil_allct N) (FnsOk.cons (sha_New_ct N) (FnsOk.nil))))))

noncomputable def porterlaw03_works (N : Nat) : Option Bool :=
  (sha_Hash_Add N (true, (([(1779033703 : Int), (3144134277 : Int), (1013904242 : Int), (2773480762 : Int), (1359893119 : Int), (2600822924 : Int), (528734635 : Int), (1541459225 : Int)] : List Int), (([] : List UInt8), ((0 : Int), ())))) ([(97 : UInt8), (98 : UInt8)] : List UInt8)).bind fun y =>
  (sha_Hash_Add N y.2.1 ([(99 : UInt8)] : List UInt8)).bind fun y1 =>
  (sha_Sum N ([(97 : UInt8), (98 : UInt8), (99 : UInt8)] : List UInt8)).bind fun y2 =>
  cond (y2 == ([(186 : UInt8), (120 : UInt8), (22 : UInt8), (191 : UInt8), (143 : UInt8), (1 : UInt8), (207 : UInt8), (234 : UInt8), (65 : UInt8), (65 : UInt8), (64 : UInt8), (222 : UInt8), (93 : UInt8), (174 : UInt8), (34 : UInt8), (35 : UInt8), (176 : UInt8), (3 : UInt8), (97 : UInt8), (163 : UInt8), (150 : UInt8), (23 : UInt8), (122 : UInt8), (156 : UInt8), (180 : UInt8), (16 : UInt8), (255 : UInt8), (97 : UInt8), (242 : UInt8), (0 : UInt8), (21 : UInt8), (173 : UInt8)] : List UInt8))
  ((sha_Hash_Sum N y1.2.1).bind fun y3 =>
    (sha_Sum N ([(97 : UInt8), (98 : UInt8), (99 : UInt8)] : List UInt8)).bind fun y4 =>
    cond (y3.1 == y4)
    (some (y3.2.1.2.2.2.1 == (3 : Int)))
    (some false))
  (some false)

noncomputable def porterlaw03_works_t (N : Nat) : Tab Bool := []

theorem porterlaw03_works_link (N : Nat) (x : denS []) : evFX (porterlaw03_works_E N) N (porterlaw03_works_t N) porterlaw03_works_L Go.Proofs.Tryd.f13 (mkS [] 0 x) (kRes (.v .bool) 0) = porterlaw03_works N := by kernel_rfl

noncomputable def porterlaw03_works_res (N : Nat) : List A → Res := resOf [] (fun x => porterlaw03_works N) (oRes (.v .bool) 0)

theorem porterlaw03_works_ct (N : Nat) : Contract Go.Proofs.Tryd.prog glob 13 (porterlaw03_works_res N) :=
  Contract.of (E := porterlaw03_works_E N) (H := porterlaw03_works_t N) (L := porterlaw03_works_L) (N := N) (body := porterlaw03_works_body) (K := (kRes (.v .bool) 0)) (porterlaw03_works_Eok N) Go.Proofs.Tryd.func13 (by kernel_rfl) (by decide) (fun _ hb => TabOk.nil) (fun x y h => by rw [porterlaw03_works_link]; exact h) (kRes_ok (s := (.v .bool)) (m := 0))

abbrev porterref03_Pad_R : Type := (List UInt8)

noncomputable def porterref03_Pad_body : Code := (Go.Proofs.Tryd.f17.body).getD .skip

noncomputable def porterref03_Pad_L : List (List Nat × List Nat) := [([0], [0]), ([0, 1], [3, 0]), ([0, 1, 1], [3, 0]), ([0, 0, 1, 1, 1], [3, 0]), ([0, 0, 0, 0, 0, 1, 1, 1], [14, 3, 0]), ([1, 0, 0, 0, 0, 1, 1, 1], [3, 0]), ([1, 1, 0, 0, 0, 0, 1, 1, 1], [0, 3]), ([0, 1, 0, 0, 0, 1, 1, 1], [3, 0]), ([1, 0, 0, 0, 1, 1, 1], [3, 0]), ([0, 1, 1, 1], [0, 3]), ([0, 1, 1, 1, 1], [3, 4]), ([0, 0, 1, 1, 1, 1, 1], [5, 3, 4]), ([0, 1, 0, 1, 1, 1, 1, 1], [5, 3, 4]), ([0, 0, 0, 0, 1, 0, 1, 1, 1, 1, 1], [23, 3, 4, 5]), ([1, 0, 0, 0, 1, 0, 1, 1, 1, 1, 1], [3, 4, 5]), ([1, 1, 0, 0, 0, 1, 0, 1, 1, 1, 1, 1], [3]), ([0, 0, 1, 0, 0, 1, 0, 1, 1, 1, 1, 1], [5, 3, 4]), ([0, 1, 0, 0, 1, 0, 1, 1, 1, 1, 1], [5, 3, 4]), ([1, 1, 0, 0, 1, 0, 1, 1, 1, 1, 1], [5, 3, 4]), ([1, 0, 1, 1, 1, 1, 1], [3]), ([0, 1, 1, 1, 1, 1, 1], [2]), ([1, 1, 1, 1, 1, 1, 1], [2])]

noncomputable def porterref03_Pad_E (N : Nat) : Env := mkEnv tys glob [] [(3, (.int .u8))] [] [] false

theorem porterref03_Pad_Eok (N : Nat) : EnvOk Go.Proofs.Tryd.prog (porterref03_Pad_E N) := mkEnv_ok mixed tys_ok (FnsOk.nil)

noncomputable def porterref03_Pad_s1 (N : Nat) (s : (List UInt8)) (b : (List Int)) (rec : (List Int) → Option (List UInt8)) (k0 : (List Int) → Option (List UInt8)) : Option (List UInt8) :=
  cond ((Int.tmod (((List.length b) : Nat) : Int) (64 : Int)) != (56 : Int))
  (cond (decide ((((List.length b) + 1) * 1) ≤ 70368744177664))
    (rec (b ++ ([(0 : Int)] : List Int)))
    (none))
  (k0 b)

noncomputable def porterref03_Pad_p1 (N : Nat) (s : (List UInt8)) (b : (List Int)) (k0 : (List Int) → Option (List UInt8)) : Option (List UInt8) :=
  iter (fun (v : (List Int)) r => porterref03_Pad_s1 N s v (fun b => (r b)) k0) N b

noncomputable def porterref03_Pad_g1 (N : Nat) (i : (List UInt8)) (v : (List Int)) (r : (List Int) → Option (List UInt8)) (K : Ex → List A → Option (List UInt8)) : Option (List UInt8) :=
  porterref03_Pad_s1 N i v (fun b => (r b)) (fun a1 => (K (.exit 0) (mkS [(0, .v .str), (2, .row (.int .u8))] 33 (i, a1, ()))))

noncomputable def porterref03_Pad_h1 (N : Nat) : Hd (List UInt8) := fun st K => (unS [(0, .v .str), (2, .row (.int .u8))] 33 (restr [3, 0] 0 st)).bind fun x => iter (fun v r => porterref03_Pad_g1 N ((fun x => x.1) x) v r K) N ((fun x => x.2.1) x)

noncomputable def porterref03_Pad_t1 (N : Nat) : Tab (List UInt8) := []

theorem porterref03_Pad_ok1 {N : Nat} {c : Ctx} (hb : Base Go.Proofs.Tryd.prog (porterref03_Pad_E N) c) : CodeOk Go.Proofs.Tryd.prog c (nodeAt porterref03_Pad_body [0, 0, 1, 1, 1]) (porterref03_Pad_h1 N) :=
  loop_ok (s := [(0, .v .str), (2, .row (.int .u8))]) (m := 33) (porterref03_Pad_g1 N) [3, 0] N (fun x => x.1) (fun x => x.2.1) (fun i v => (i, v, ())) (fun _ => rfl) (evN_sound hb N (porterref03_Pad_t1 N) porterref03_Pad_L porterref03_Pad_body TabOk.nil [0, 0, 0, 1, 1, 1] _ rfl) (fun i v r K => by kernel_rfl)

noncomputable def porterref03_Pad_s2 (N : Nat) (n : Int) (b : (List Int)) (i : Int) (rec : (List Int) → Int → Option (List UInt8)) (k0 : (List Int) → Option (List UInt8)) : Option (List UInt8) :=
  cond (decide ((0 : Int) ≤ i))
  (cond (decide ((0 : Int) ≤ (Go.IntKind.wrap Go.IntKind.u64 (Go.IntKind.wrap Go.IntKind.i64 ((8 : Int) * i)))))
    (cond (decide ((((List.length b) + 1) * 1) ≤ 70368744177664))
      (rec (b ++ ([(Go.IntKind.wrap Go.IntKind.u8 (Go.Lift.shrI Go.IntKind.u64 n (Go.IntKind.wrap Go.IntKind.u64 (Go.IntKind.wrap Go.IntKind.i64 ((8 : Int) * i)))))] : List Int)) (Go.IntKind.wrap Go.IntKind.i64 (i - (1 : Int))))
      (none))
    (none))
  (k0 b)

noncomputable def porterref03_Pad_p2 (N : Nat) (b : (List Int)) (n : Int) (i : Int) (k0 : (List Int) → Option (List UInt8)) : Option (List UInt8) :=
  iter (fun (v : ((List Int) × Int)) r => porterref03_Pad_s2 N n v.1 v.2 (fun b i => (r (b, i))) k0) N (b, i)

noncomputable def porterref03_Pad_g2 (N : Nat) (i : Int) (v : ((List Int) × Int)) (r : ((List Int) × Int) → Option (List UInt8)) (K : Ex → List A → Option (List UInt8)) : Option (List UInt8) :=
  porterref03_Pad_s2 N i v.1 v.2 (fun b i => (r (b, i))) (fun a0 => (K (.exit 2) (mkS [(3, .row (.int .u8))] 33 (a0, ()))))

noncomputable def porterref03_Pad_h2 (N : Nat) : Hd (List UInt8) := fun st K => (unS [(3, .row (.int .u8)), (0, .v (.int .u64)), (0, .v (.int .i64))] 31 (restr [5, 3, 4] 0 st)).bind fun x => iter (fun v r => porterref03_Pad_g2 N ((fun x => x.2.1) x) v r K) N ((fun x => (x.1, x.2.2.1)) x)

noncomputable def porterref03_Pad_t2 (N : Nat) : Tab (List UInt8) := []

theorem porterref03_Pad_ok2 {N : Nat} {c : Ctx} (hb : Base Go.Proofs.Tryd.prog (porterref03_Pad_E N) c) : CodeOk Go.Proofs.Tryd.prog c (nodeAt porterref03_Pad_body [0, 1, 0, 1, 1, 1, 1, 1]) (porterref03_Pad_h2 N) :=
  loop_ok (s := [(3, .row (.int .u8)), (0, .v (.int .u64)), (0, .v (.int .i64))]) (m := 31) (porterref03_Pad_g2 N) [5, 3, 4] N (fun x => x.2.1) (fun x => (x.1, x.2.2.1)) (fun i v => (v.1, i, v.2, ())) (fun _ => rfl) (evN_sound hb N (porterref03_Pad_t2 N) porterref03_Pad_L porterref03_Pad_body TabOk.nil [0, 0, 1, 0, 1, 1, 1, 1, 1] _ rfl) (fun i v r K => by kernel_rfl)

noncomputable def porterref03_Pad (N : Nat) (s : (List UInt8)) : Option (List UInt8) :=
  cond (decide ((((List.length (Go.Lift.ofStr s)) + 1) * 1) ≤ 70368744177664))
  (porterref03_Pad_p1 N s ((Go.Lift.ofStr s) ++ ([(128 : Int)] : List Int))
    (fun b => porterref03_Pad_p2 N b (Go.IntKind.wrap Go.IntKind.u64 ((Go.IntKind.wrap Go.IntKind.u64 (((List.length s) : Nat) : Int)) * (8 : Int))) (7 : Int)
      (fun b1 => some (Go.Lift.toStr b1))))
  (none)

noncomputable def porterref03_Pad_t (N : Nat) : Tab (List UInt8) := [([0, 0, 1, 1, 1], porterref03_Pad_h1 N), ([0, 1, 0, 1, 1, 1, 1, 1], porterref03_Pad_h2 N)]

theorem porterref03_Pad_link (N : Nat) (x : denS [(0, .v .str)]) : evFX (porterref03_Pad_E N) N (porterref03_Pad_t N) porterref03_Pad_L Go.Proofs.Tryd.f17 (mkS [(0, .v .str)] 0 x) (kRes (.v .str) 1) = porterref03_Pad N x.1 := by kernel_rfl

noncomputable def porterref03_Pad_res (N : Nat) : List A → Res := resOf [(0, .v .str)] (fun x => porterref03_Pad N x.1) (oRes (.v .str) 1)

theorem porterref03_Pad_ct (N : Nat) : Contract Go.Proofs.Tryd.prog glob 17 (porterref03_Pad_res N) :=
  Contract.of (E := porterref03_Pad_E N) (H := porterref03_Pad_t N) (L := porterref03_Pad_L) (N := N) (body := porterref03_Pad_body) (K := (kRes (.v .str) 1)) (porterref03_Pad_Eok N) Go.Proofs.Tryd.func17 (by kernel_rfl) (by decide) (fun _ hb => (TabOk.cons (porterref03_Pad_ok1 hb) (TabOk.cons (porterref03_Pad_ok2 hb) TabOk.nil))) (fun x y h => by rw [porterref03_Pad_link]; exact h) (kRes_ok (s := (.v .str)) (m := 1))

abbrev porterref03_table_R : Type := (List Int)

noncomputable def porterref03_table_body : Code := (Go.Proofs.Tryd.f49.body).getD .skip

noncomputable def porterref03_table_L : List (List Nat × List Nat) := [([0], []), ([0, 1], [0]), ([1, 1], [0])]

noncomputable def porterref03_table_E (N : Nat) : Env := mkEnv tys glob [] [] [] [] false

theorem porterref03_table_Eok (N : Nat) : EnvOk Go.Proofs.Tryd.prog (porterref03_table_E N) := mkEnv_ok mixed tys_ok (FnsOk.nil)

noncomputable def porterref03_table (N : Nat) : Option (List Int) :=
  some (List.set (List.set (List.set (List.set (List.set (List.set (List.set (List.set (List.set (List.set (List.set (List.set (List.set (List.set (List.set (List.set (List.set (List.set (List.set (List.set (List.set (List.set (List.set (List.set (List.set (List.set (List.set (List.set (List.set (List.set (List.set (List.set (List.set (List.set (List.set (List.set (List.set (List.set (List.set (List.set (List.set (List.set (List.set (List.set (List.set (List.set (List.set (List.set (List.set (List.set (List.set (List.set (List.set (List.set (List.set (List.set (List.set (List.set (List.set (List.set (List.set (List.set (List.set (List.set (List.replicate 64 (0 : Int)) 0 (1116352408 : Int)) 1 (1899447441 : Int)) 2 (3049323471 : Int)) 3 (3921009573 : Int)) 4 (961987163 : Int)) 5 (1508970993 : Int)) 6 (2453635748 : Int)) 7 (2870763221 : Int)) 8 (3624381080 : Int)) 9 (310598401 : Int)) 10 (607225278 : Int)) 11 (1426881987 : Int)) 12 (1925078388 : Int)) 13 (2162078206 : Int)) 14 (2614888103 : Int)) 15 (3248222580 : Int)) 16 (3835390401 : Int)) 17 (4022224774 : Int)) 18 (264347078 : Int)) 19 (604807628 : Int)) 20 (770255983 : Int)) 21 (1249150122 : Int)) 22 (1555081692 : Int)) 23 (1996064986 : Int)) 24 (2554220882 : Int)) 25 (2821834349 : Int)) 26 (2952996808 : Int)) 27 (3210313671 : Int)) 28 (3336571891 : Int)) 29 (3584528711 : Int)) 30 (113926993 : Int)) 31 (338241895 : Int)) 32 (666307205 : Int)) 33 (773529912 : Int)) 34 (1294757372 : Int)) 35 (1396182291 : Int)) 36 (1695183700 : Int)) 37 (1986661051 : Int)) 38 (2177026350 : Int)) 39 (2456956037 : Int)) 40 (2730485921 : Int)) 41 (2820302411 : Int)) 42 (3259730800 : Int)) 43 (3345764771 : Int)) 44 (3516065817 : Int)) 45 (3600352804 : Int)) 46 (4094571909 : Int)) 47 (275423344 : Int)) 48 (430227734 : Int)) 49 (506948616 : Int)) 50 (659060556 : Int)) 51 (883997877 : Int)) 52 (958139571 : Int)) 53 (1322822218 : Int)) 54 (1537002063 : Int)) 55 (1747873779 : Int)) 56 (1955562222 : Int)) 57 (2024104815 : Int)) 58 (2227730452 : Int)) 59 (2361852424 : Int)) 60 (2428436474 : Int)) 61 (2756734187 : Int)) 62 (3204031479 : Int)) 63 (3329325298 : Int))

noncomputable def porterref03_table_t (N : Nat) : Tab (List Int) := []

theorem porterref03_table_link (N : Nat) (x : denS []) : evFX (porterref03_table_E N) N (porterref03_table_t N) porterref03_table_L Go.Proofs.Tryd.f49 (mkS [] 0 x) (kRes (.v (.sl (.int .u32))) 0) = porterref03_table N := by kernel_rfl

noncomputable def porterref03_table_res (N : Nat) : List A → Res := resOf [] (fun x => porterref03_table N) (oRes (.v (.sl (.int .u32))) 0)

theorem porterref03_table_ct (N : Nat) : Contract Go.Proofs.Tryd.prog glob 49 (porterref03_table_res N) :=
  Contract.of (E := porterref03_table_E N) (H := porterref03_table_t N) (L := porterref03_table_L) (N := N) (body := porterref03_table_body) (K := (kRes (.v (.sl (.int .u32))) 0)) (porterref03_table_Eok N) Go.Proofs.Tryd.func49 (by kernel_rfl) (by decide) (fun _ hb => TabOk.nil) (fun x y h => by rw [porterref03_table_link]; exact h) (kRes_ok (s := (.v (.sl (.int .u32)))) (m := 0))

abbrev porterref03_First_R : Type := (List Int)

noncomputable def porterref03_First_body : Code := (Go.Proofs.Tryd.f23.body).getD .skip

noncomputable def porterref03_First_L : List (List Nat × List Nat) := [([0], [0]), ([0, 1], [0]), ([1, 1], [0])]

noncomputable def porterref03_First_E (N : Nat) : Env := mkEnv tys glob [] [] [] [] false

theorem porterref03_First_Eok (N : Nat) : EnvOk Go.Proofs.Tryd.prog (porterref03_First_E N) := mkEnv_ok mixed tys_ok (FnsOk.nil)

noncomputable def porterref03_First (N : Nat) : Option (List Int) :=
  some ([(1779033703 : Int), (3144134277 : Int), (1013904242 : Int), (2773480762 : Int), (1359893119 : Int), (2600822924 : Int), (528734635 : Int), (1541459225 : Int)] : List Int)

noncomputable def porterref03_First_t (N : Nat) : Tab (List Int) := []

theorem porterref03_First_link (N : Nat) (x : denS []) : evFX (porterref03_First_E N) N (porterref03_First_t N) porterref03_First_L Go.Proofs.Tryd.f23 (mkS [] 0 x) (kRes (.v (.arr 8 (.int .u32))) 0) = porterref03_First N := by kernel_rfl

noncomputable def porterref03_First_res (N : Nat) : List A → Res := resOf [] (fun x => porterref03_First N) (oRes (.v (.arr 8 (.int .u32))) 0)

theorem porterref03_First_ct (N : Nat) : Contract Go.Proofs.Tryd.prog glob 23 (porterref03_First_res N) :=
  Contract.of (E := porterref03_First_E N) (H := porterref03_First_t N) (L := porterref03_First_L) (N := N) (body := porterref03_First_body) (K := (kRes (.v (.arr 8 (.int .u32))) 0)) (porterref03_First_Eok N) Go.Proofs.Tryd.func23 (by kernel_rfl) (by decide) (fun _ hb => TabOk.nil) (fun x y h => by rw [porterref03_First_link]; exact h) (kRes_ok (s := (.v (.arr 8 (.int .u32)))) (m := 0))

abbrev porterref03_ror_R : Type := Int

noncomputable def porterref03_ror_body : Code := (Go.Proofs.Tryd.f72.body).getD .skip

noncomputable def porterref03_ror_L : List (List Nat × List Nat) := [([0], [0, 1]), ([0, 1], [4]), ([1, 1], [4])]

noncomputable def porterref03_ror_E (N : Nat) : Env := mkEnv tys glob [] [] [] [] false

theorem porterref03_ror_Eok (N : Nat) : EnvOk Go.Proofs.Tryd.prog (porterref03_ror_E N) := mkEnv_ok mixed tys_ok (FnsOk.nil)

noncomputable def porterref03_ror (N : Nat) (x0 : Int) (n : Int) : Option Int :=
  cond (decide ((0 : Int) ≤ (Go.IntKind.wrap Go.IntKind.u64 n)))
  (cond (decide ((0 : Int) ≤ (Go.IntKind.wrap Go.IntKind.u64 (Go.IntKind.wrap Go.IntKind.i64 ((32 : Int) - n)))))
    (some (Go.Lift.bitsOp Go.BinOp.or Go.IntKind.u32 (Go.Lift.shrI Go.IntKind.u32 x0 (Go.IntKind.wrap Go.IntKind.u64 n)) (Go.Lift.shlI Go.IntKind.u32 x0 (Go.IntKind.wrap Go.IntKind.u64 (Go.IntKind.wrap Go.IntKind.i64 ((32 : Int) - n))))))
    (none))
  (none)

noncomputable def porterref03_ror_t (N : Nat) : Tab Int := []

theorem porterref03_ror_link (N : Nat) (x : denS [(0, .v (.int .u32)), (0, .v (.int .i64))]) : evFX (porterref03_ror_E N) N (porterref03_ror_t N) porterref03_ror_L Go.Proofs.Tryd.f72 (mkS [(0, .v (.int .u32)), (0, .v (.int .i64))] 0 x) (kRes (.v (.int .u32)) 2) = porterref03_ror N x.1 x.2.1 := by kernel_rfl

noncomputable def porterref03_ror_res (N : Nat) : List A → Res := resOf [(0, .v (.int .u32)), (0, .v (.int .i64))] (fun x => porterref03_ror N x.1 x.2.1) (oRes (.v (.int .u32)) 2)

theorem porterref03_ror_ct (N : Nat) : Contract Go.Proofs.Tryd.prog glob 72 (porterref03_ror_res N) :=
  Contract.of (E := porterref03_ror_E N) (H := porterref03_ror_t N) (L := porterref03_ror_L) (N := N) (body := porterref03_ror_body) (K := (kRes (.v (.int .u32)) 2)) (porterref03_ror_Eok N) Go.Proofs.Tryd.func72 (by kernel_rfl) (by decide) (fun _ hb => TabOk.nil) (fun x y h => by rw [porterref03_ror_link]; exact h) (kRes_ok (s := (.v (.int .u32))) (m := 2))

abbrev porterref03_step_R : Type := (List Int)

noncomputable def porterref03_step_body : Code := (Go.Proofs.Tryd.f50.body).getD .skip

noncomputable def porterref03_step_L : List (List Nat × List Nat) := [([0], [2, 1, 4, 3, 8]), ([0, 1], [2, 9, 1, 4, 3, 8]), ([0, 0, 1, 1], [10, 2, 9, 1, 4, 3, 8]), ([0, 1, 0, 1, 1], [10, 2, 9, 1, 4, 3, 8]), ([0, 0, 0, 0, 1, 0, 1, 1], [26, 2, 10, 9, 1, 4, 3, 8]), ([1, 0, 0, 0, 1, 0, 1, 1], [2, 10, 9, 1, 4, 3, 8]), ([1, 1, 0, 0, 0, 1, 0, 1, 1], [9, 4, 3, 8]), ([0, 0, 0, 1, 0, 0, 1, 0, 1, 1], [9, 1, 11, 10, 2, 4, 3, 8]), ([1, 0, 0, 1, 0, 0, 1, 0, 1, 1], [10, 2, 9, 1, 4, 3, 8]), ([0, 1, 0, 0, 1, 0, 1, 1], [10, 2, 9, 1, 4, 3, 8]), ([1, 1, 0, 0, 1, 0, 1, 1], [10, 2, 9, 1, 4, 3, 8]), ([1, 0, 1, 1], [9, 4, 3, 8]), ([0, 0, 1, 1, 1], [12, 9, 4, 3, 8]), ([0, 1, 0, 1, 1, 1], [12, 9, 4, 3, 8]), ([0, 0, 0, 0, 1, 0, 1, 1, 1], [62, 9, 12, 4, 3, 8]), ([1, 0, 0, 0, 1, 0, 1, 1, 1], [9, 12, 4, 3, 8]), ([1, 1, 0, 0, 0, 1, 0, 1, 1, 1], [4, 3, 9, 8]), ([0, 0, 0, 1, 0, 0, 1, 0, 1, 1, 1], [13, 14, 9, 12, 4, 3, 8]), ([0, 1, 0, 0, 1, 0, 0, 1, 0, 1, 1, 1], [14, 9, 12, 15, 4, 3, 8]), ([0, 1, 1, 0, 0, 1, 0, 0, 1, 0, 1, 1, 1], [9, 16, 12, 15, 4, 3, 8]), ([1, 1, 1, 0, 0, 1, 0, 0, 1, 0, 1, 1, 1], [12, 9, 4, 3, 8]), ([0, 1, 0, 0, 1, 0, 1, 1, 1], [12, 9, 4, 3, 8]), ([1, 1, 0, 0, 1, 0, 1, 1, 1], [12, 9, 4, 3, 8]), ([1, 0, 1, 1, 1], [4, 3, 9, 8]), ([0, 1, 1, 1, 1], [17, 3, 9, 4, 8]), ([0, 0, 1, 1, 1, 1, 1], [18, 17, 3, 9, 4, 8]), ([0, 1, 0, 1, 1, 1, 1, 1], [18, 17, 3, 9, 4, 8]), ([0, 0, 0, 0, 1, 0, 1, 1, 1, 1, 1], [111, 17, 3, 18, 9, 4, 8]), ([1, 0, 0, 0, 1, 0, 1, 1, 1, 1, 1], [17, 3, 18, 9, 4, 8]), ([1, 1, 0, 0, 0, 1, 0, 1, 1, 1, 1, 1], [17, 4, 8]), ([0, 0, 0, 1, 0, 0, 1, 0, 1, 1, 1, 1, 1], [17, 19, 3, 18, 9, 4, 8]), ([0, 1, 0, 0, 1, 0, 0, 1, 0, 1, 1, 1, 1, 1], [17, 19, 20, 3, 18, 9, 4, 8]), ([0, 1, 1, 0, 0, 1, 0, 0, 1, 0, 1, 1, 1, 1, 1], [17, 21, 18, 3, 9, 4, 8]), ([0, 1, 1, 1, 0, 0, 1, 0, 0, 1, 0, 1, 1, 1, 1, 1], [17, 21, 22, 18, 3, 9, 4, 8]), ([0, 1, 1, 1, 1, 0, 0, 1, 0, 0, 1, 0, 1, 1, 1, 1, 1], [21, 22, 23, 17, 18, 3, 9, 4, 8]), ([1, 1, 1, 1, 1, 0, 0, 1, 0, 0, 1, 0, 1, 1, 1, 1, 1], [18, 17, 3, 9, 4, 8]), ([0, 1, 0, 0, 1, 0, 1, 1, 1, 1, 1], [18, 17, 3, 9, 4, 8]), ([1, 1, 0, 0, 1, 0, 1, 1, 1, 1, 1], [18, 17, 3, 9, 4, 8]), ([1, 0, 1, 1, 1, 1, 1], [17, 4, 8]), ([0, 0, 1, 1, 1, 1, 1, 1], [24, 17, 4, 8]), ([0, 1, 0, 1, 1, 1, 1, 1, 1], [24, 17, 4, 8]), ([0, 0, 0, 0, 1, 0, 1, 1, 1, 1, 1, 1], [204, 24, 17, 4, 8]), ([1, 0, 0, 0, 1, 0, 1, 1, 1, 1, 1, 1], [24, 17, 4, 8]), ([1, 1, 0, 0, 0, 1, 0, 1, 1, 1, 1, 1, 1], [17, 8]), ([0, 0, 1, 0, 0, 1, 0, 1, 1, 1, 1, 1, 1], [24, 17, 4, 8]), ([0, 1, 0, 0, 1, 0, 1, 1, 1, 1, 1, 1], [24, 17, 4, 8]), ([1, 1, 0, 0, 1, 0, 1, 1, 1, 1, 1, 1], [24, 17, 4, 8]), ([1, 0, 1, 1, 1, 1, 1, 1], [17, 8]), ([0, 1, 1, 1, 1, 1, 1, 1], [8]), ([1, 1, 1, 1, 1, 1, 1, 1], [8])]

noncomputable def porterref03_step_E (N : Nat) : Env := mkEnv tys glob [(72, porterref03_ror_res N)] [(9, (.int .u32))] [] [] false

theorem porterref03_step_Eok (N : Nat) : EnvOk Go.Proofs.Tryd.prog (porterref03_step_E N) := mkEnv_ok mixed tys_ok (FnsOk.cons (porterref03_ror_ct N) (FnsOk.nil))

noncomputable def porterref03_step_s1 (N : Nat) (s : (List UInt8)) (at_ : Int) (k : (List Int)) (h : (List Int)) (x8 : (List Int)) (w : (List Int)) (t : Int) (rec : (List Int) → Int → Option (List Int)) (k0 : (List Int) → Option (List Int)) : Option (List Int) :=
  cond (decide (t < (16 : Int)))
  (cond (Go.Lift.inR (Go.IntKind.wrap Go.IntKind.i64 (at_ + (Go.IntKind.wrap Go.IntKind.i64 ((4 : Int) * t)))) (List.length s))
    (cond (Go.Lift.inR (Go.IntKind.wrap Go.IntKind.i64 ((Go.IntKind.wrap Go.IntKind.i64 (at_ + (Go.IntKind.wrap Go.IntKind.i64 ((4 : Int) * t)))) + (1 : Int))) (List.length s))
      (cond (Go.Lift.inR (Go.IntKind.wrap Go.IntKind.i64 ((Go.IntKind.wrap Go.IntKind.i64 (at_ + (Go.IntKind.wrap Go.IntKind.i64 ((4 : Int) * t)))) + (2 : Int))) (List.length s))
        (cond (Go.Lift.inR (Go.IntKind.wrap Go.IntKind.i64 ((Go.IntKind.wrap Go.IntKind.i64 (at_ + (Go.IntKind.wrap Go.IntKind.i64 ((4 : Int) * t)))) + (3 : Int))) (List.length s))
          (cond (decide ((((List.length w) + 1) * 4) ≤ 70368744177664))
            (rec (w ++ ([(Go.IntKind.wrap Go.IntKind.u32 ((Go.IntKind.wrap Go.IntKind.u32 ((Go.IntKind.wrap Go.IntKind.u32 ((Go.Lift.shlI Go.IntKind.u32 (Go.IntKind.wrap Go.IntKind.u32 (((UInt8.toNat (List.getD s (Int.toNat (Go.IntKind.wrap Go.IntKind.i64 (at_ + (Go.IntKind.wrap Go.IntKind.i64 ((4 : Int) * t))))) (0 : UInt8))) : Nat) : Int)) (24 : Int)) + (Go.Lift.shlI Go.IntKind.u32 (Go.IntKind.wrap Go.IntKind.u32 (((UInt8.toNat (List.getD s (Int.toNat (Go.IntKind.wrap Go.IntKind.i64 ((Go.IntKind.wrap Go.IntKind.i64 (at_ + (Go.IntKind.wrap Go.IntKind.i64 ((4 : Int) * t)))) + (1 : Int)))) (0 : UInt8))) : Nat) : Int)) (16 : Int)))) + (Go.Lift.shlI Go.IntKind.u32 (Go.IntKind.wrap Go.IntKind.u32 (((UInt8.toNat (List.getD s (Int.toNat (Go.IntKind.wrap Go.IntKind.i64 ((Go.IntKind.wrap Go.IntKind.i64 (at_ + (Go.IntKind.wrap Go.IntKind.i64 ((4 : Int) * t)))) + (2 : Int)))) (0 : UInt8))) : Nat) : Int)) (8 : Int)))) + (Go.IntKind.wrap Go.IntKind.u32 (((UInt8.toNat (List.getD s (Int.toNat (Go.IntKind.wrap Go.IntKind.i64 ((Go.IntKind.wrap Go.IntKind.i64 (at_ + (Go.IntKind.wrap Go.IntKind.i64 ((4 : Int) * t)))) + (3 : Int)))) (0 : UInt8))) : Nat) : Int))))] : List Int)) (Go.IntKind.wrap Go.IntKind.i64 (t + (1 : Int))))
            (none))
          (none))
        (none))
      (none))
    (none))
  (k0 w)

noncomputable def porterref03_step_p1 (N : Nat) (s : (List UInt8)) (at_ : Int) (k : (List Int)) (h : (List Int)) (x8 : (List Int)) (w : (List Int)) (t : Int) (k0 : (List Int) → Option (List Int)) : Option (List Int) :=
  iter (fun (v : ((List Int) × Int)) r => porterref03_step_s1 N s at_ k h x8 v.1 v.2 (fun w t => (r (w, t))) k0) N (w, t)

noncomputable def porterref03_step_g1 (N : Nat) (i : ((List UInt8) × Int × (List Int) × (List Int) × (List Int))) (v : ((List Int) × Int)) (r : ((List Int) × Int) → Option (List Int)) (K : Ex → List A → Option (List Int)) : Option (List Int) :=
  porterref03_step_s1 N i.1 i.2.1 i.2.2.1 i.2.2.2.1 i.2.2.2.2 v.1 v.2 (fun w t => (r (w, t))) (fun a3 => (K (.exit 0) (mkS [(3, .v (.sl (.int .u32))), (0, .box (.arr 8 (.int .u32))), (3, .box (.arr 8 (.int .u32))), (0, .row (.int .u32))] 207 (i.2.2.1, i.2.2.2.1, i.2.2.2.2, a3, ()))))

noncomputable def porterref03_step_h1 (N : Nat) : Hd (List Int) := fun st K => (unS [(1, .v .str), (0, .v (.int .i64)), (0, .v (.sl (.int .u32))), (0, .box (.arr 8 (.int .u32))), (3, .box (.arr 8 (.int .u32))), (0, .row (.int .u32)), (0, .v (.int .i64))] 206 (restr [10, 2, 9, 1, 4, 3, 8] 0 st)).bind fun x => iter (fun v r => porterref03_step_g1 N ((fun x => (x.1, x.2.1, x.2.2.1, x.2.2.2.1, x.2.2.2.2.1)) x) v r K) N ((fun x => (x.2.2.2.2.2.1, x.2.2.2.2.2.2.1)) x)

noncomputable def porterref03_step_t1 (N : Nat) : Tab (List Int) := []

theorem porterref03_step_ok1 {N : Nat} {c : Ctx} (hb : Base Go.Proofs.Tryd.prog (porterref03_step_E N) c) : CodeOk Go.Proofs.Tryd.prog c (nodeAt porterref03_step_body [0, 1, 0, 1, 1]) (porterref03_step_h1 N) :=
  loop_ok (s := [(1, .v .str), (0, .v (.int .i64)), (0, .v (.sl (.int .u32))), (0, .box (.arr 8 (.int .u32))), (3, .box (.arr 8 (.int .u32))), (0, .row (.int .u32)), (0, .v (.int .i64))]) (m := 206) (porterref03_step_g1 N) [10, 2, 9, 1, 4, 3, 8] N (fun x => (x.1, x.2.1, x.2.2.1, x.2.2.2.1, x.2.2.2.2.1)) (fun x => (x.2.2.2.2.2.1, x.2.2.2.2.2.2.1)) (fun i v => (i.1, i.2.1, i.2.2.1, i.2.2.2.1, i.2.2.2.2, v.1, v.2, ())) (fun _ => rfl) (evN_sound hb N (porterref03_step_t1 N) porterref03_step_L porterref03_step_body TabOk.nil [0, 0, 1, 0, 1, 1] _ rfl) (fun i v r K => by kernel_rfl)

noncomputable def porterref03_step_s2 (N : Nat) (k : (List Int)) (h : (List Int)) (x8 : (List Int)) (w : (List Int)) (t : Int) (rec : (List Int) → Int → Option (List Int)) (k0 : (List Int) → Option (List Int)) : Option (List Int) :=
  cond (decide (t < (64 : Int)))
  (cond (Go.Lift.inR (Go.IntKind.wrap Go.IntKind.i64 (t - (15 : Int))) (List.length w))
    (cond (decide ((Int.toNat (Go.IntKind.wrap Go.IntKind.i64 (t - (15 : Int)))) < (List.length w)))
      (cond (Go.Lift.inR (Go.IntKind.wrap Go.IntKind.i64 (t - (2 : Int))) (List.length w))
        (cond (decide ((Int.toNat (Go.IntKind.wrap Go.IntKind.i64 (t - (2 : Int)))) < (List.length w)))
          (cond (Go.Lift.inR (Go.IntKind.wrap Go.IntKind.i64 (t - (7 : Int))) (List.length w))
            (cond (decide ((Int.toNat (Go.IntKind.wrap Go.IntKind.i64 (t - (7 : Int)))) < (List.length w)))
              (cond (Go.Lift.inR (Go.IntKind.wrap Go.IntKind.i64 (t - (16 : Int))) (List.length w))
                (cond (decide ((Int.toNat (Go.IntKind.wrap Go.IntKind.i64 (t - (16 : Int)))) < (List.length w)))
                  (cond (decide ((((List.length w) + 1) * 4) ≤ 70368744177664))
                    (rec (w ++ ([(Go.IntKind.wrap Go.IntKind.u32 ((Go.IntKind.wrap Go.IntKind.u32 ((Go.IntKind.wrap Go.IntKind.u32 ((Go.Lift.bitsOp Go.BinOp.xor Go.IntKind.u32 (Go.Lift.bitsOp Go.BinOp.xor Go.IntKind.u32 (Go.Lift.bitsOp Go.BinOp.or Go.IntKind.u32 (Go.Lift.shrI Go.IntKind.u32 (List.getD w (Int.toNat (Go.IntKind.wrap Go.IntKind.i64 (t - (2 : Int)))) (0 : Int)) (Go.IntKind.wrap Go.IntKind.u64 (17 : Int))) (Go.Lift.shlI Go.IntKind.u32 (List.getD w (Int.toNat (Go.IntKind.wrap Go.IntKind.i64 (t - (2 : Int)))) (0 : Int)) (Go.IntKind.wrap Go.IntKind.u64 (Go.IntKind.wrap Go.IntKind.i64 ((32 : Int) - (17 : Int)))))) (Go.Lift.bitsOp Go.BinOp.or Go.IntKind.u32 (Go.Lift.shrI Go.IntKind.u32 (List.getD w (Int.toNat (Go.IntKind.wrap Go.IntKind.i64 (t - (2 : Int)))) (0 : Int)) (Go.IntKind.wrap Go.IntKind.u64 (19 : Int))) (Go.Lift.shlI Go.IntKind.u32 (List.getD w (Int.toNat (Go.IntKind.wrap Go.IntKind.i64 (t - (2 : Int)))) (0 : Int)) (Go.IntKind.wrap Go.IntKind.u64 (Go.IntKind.wrap Go.IntKind.i64 ((32 : Int) - (19 : Int))))))) (Go.Lift.shrI Go.IntKind.u32 (List.getD w (Int.toNat (Go.IntKind.wrap Go.IntKind.i64 (t - (2 : Int)))) (0 : Int)) (10 : Int))) + (List.getD w (Int.toNat (Go.IntKind.wrap Go.IntKind.i64 (t - (7 : Int)))) (0 : Int)))) + (Go.Lift.bitsOp Go.BinOp.xor Go.IntKind.u32 (Go.Lift.bitsOp Go.BinOp.xor Go.IntKind.u32 (Go.Lift.bitsOp Go.BinOp.or Go.IntKind.u32 (Go.Lift.shrI Go.IntKind.u32 (List.getD w (Int.toNat (Go.IntKind.wrap Go.IntKind.i64 (t - (15 : Int)))) (0 : Int)) (Go.IntKind.wrap Go.IntKind.u64 (7 : Int))) (Go.Lift.shlI Go.IntKind.u32 (List.getD w (Int.toNat (Go.IntKind.wrap Go.IntKind.i64 (t - (15 : Int)))) (0 : Int)) (Go.IntKind.wrap Go.IntKind.u64 (Go.IntKind.wrap Go.IntKind.i64 ((32 : Int) - (7 : Int)))))) (Go.Lift.bitsOp Go.BinOp.or Go.IntKind.u32 (Go.Lift.shrI Go.IntKind.u32 (List.getD w (Int.toNat (Go.IntKind.wrap Go.IntKind.i64 (t - (15 : Int)))) (0 : Int)) (Go.IntKind.wrap Go.IntKind.u64 (18 : Int))) (Go.Lift.shlI Go.IntKind.u32 (List.getD w (Int.toNat (Go.IntKind.wrap Go.IntKind.i64 (t - (15 : Int)))) (0 : Int)) (Go.IntKind.wrap Go.IntKind.u64 (Go.IntKind.wrap Go.IntKind.i64 ((32 : Int) - (18 : Int))))))) (Go.Lift.shrI Go.IntKind.u32 (List.getD w (Int.toNat (Go.IntKind.wrap Go.IntKind.i64 (t - (15 : Int)))) (0 : Int)) (3 : Int))))) + (List.getD w (Int.toNat (Go.IntKind.wrap Go.IntKind.i64 (t - (16 : Int)))) (0 : Int))))] : List Int)) (Go.IntKind.wrap Go.IntKind.i64 (t + (1 : Int))))
                    (none))
                  (none))
                (none))
              (none))
            (none))
          (none))
        (none))
      (none))
    (none))
  (k0 w)

noncomputable def porterref03_step_p2 (N : Nat) (k : (List Int)) (h : (List Int)) (x8 : (List Int)) (w : (List Int)) (t : Int) (k0 : (List Int) → Option (List Int)) : Option (List Int) :=
  iter (fun (v : ((List Int) × Int)) r => porterref03_step_s2 N k h x8 v.1 v.2 (fun w t => (r (w, t))) k0) N (w, t)

noncomputable def porterref03_step_g2 (N : Nat) (i : ((List Int) × (List Int) × (List Int))) (v : ((List Int) × Int)) (r : ((List Int) × Int) → Option (List Int)) (K : Ex → List A → Option (List Int)) : Option (List Int) :=
  porterref03_step_s2 N i.1 i.2.1 i.2.2 v.1 v.2 (fun w t => (r (w, t))) (fun a3 => (K (.exit 2) (mkS [(3, .v (.sl (.int .u32))), (0, .box (.arr 8 (.int .u32))), (3, .box (.arr 8 (.int .u32))), (0, .row (.int .u32))] 207 (i.1, i.2.1, i.2.2, a3, ()))))

noncomputable def porterref03_step_h2 (N : Nat) : Hd (List Int) := fun st K => (unS [(3, .v (.sl (.int .u32))), (0, .box (.arr 8 (.int .u32))), (3, .box (.arr 8 (.int .u32))), (0, .row (.int .u32)), (2, .v (.int .i64))] 204 (restr [12, 9, 4, 3, 8] 0 st)).bind fun x => iter (fun v r => porterref03_step_g2 N ((fun x => (x.1, x.2.1, x.2.2.1)) x) v r K) N ((fun x => (x.2.2.2.1, x.2.2.2.2.1)) x)

noncomputable def porterref03_step_t2 (N : Nat) : Tab (List Int) := []

theorem porterref03_step_ok2 {N : Nat} {c : Ctx} (hb : Base Go.Proofs.Tryd.prog (porterref03_step_E N) c) : CodeOk Go.Proofs.Tryd.prog c (nodeAt porterref03_step_body [0, 1, 0, 1, 1, 1]) (porterref03_step_h2 N) :=
  loop_ok (s := [(3, .v (.sl (.int .u32))), (0, .box (.arr 8 (.int .u32))), (3, .box (.arr 8 (.int .u32))), (0, .row (.int .u32)), (2, .v (.int .i64))]) (m := 204) (porterref03_step_g2 N) [12, 9, 4, 3, 8] N (fun x => (x.1, x.2.1, x.2.2.1)) (fun x => (x.2.2.2.1, x.2.2.2.2.1)) (fun i v => (i.1, i.2.1, i.2.2, v.1, v.2, ())) (fun _ => rfl) (evN_sound hb N (porterref03_step_t2 N) porterref03_step_L porterref03_step_body TabOk.nil [0, 0, 1, 0, 1, 1, 1] _ rfl) (fun i v r K => by kernel_rfl)

noncomputable def porterref03_step_s3 (N : Nat) (k : (List Int)) (h : (List Int)) (x8 : (List Int)) (w : (List Int)) (v : (List Int)) (t : Int) (rec : (List Int) → Int → Option (List Int)) (k0 : (List Int) → Option (List Int)) : Option (List Int) :=
  cond (decide (t < (64 : Int)))
  (cond (decide (4 < (List.length v)))
    (cond (decide (4 < (List.length v)))
      (cond (decide (4 < (List.length v)))
        (cond (decide (4 < (List.length v)))
          (cond (decide (5 < (List.length v)))
            (cond (decide (4 < (List.length v)))
              (cond (decide (6 < (List.length v)))
                (cond (decide (7 < (List.length v)))
                  (cond (Go.Lift.inR t (List.length k))
                    (cond (Go.Lift.inR t (List.length w))
                      (cond (decide ((Int.toNat t) < (List.length w)))
                        (cond (decide (0 < (List.length v)))
                          (cond (decide (0 < (List.length v)))
                            (cond (decide (0 < (List.length v)))
                              (cond (decide (0 < (List.length v)))
                                (cond (decide (1 < (List.length v)))
                                  (cond (decide (0 < (List.length v)))
                                    (cond (decide (2 < (List.length v)))
                                      (cond (decide (1 < (List.length v)))
                                        (cond (decide (2 < (List.length v)))
                                          (cond (decide (0 < (List.length v)))
                                            (cond (decide (1 < (List.length v)))
                                              (cond (decide (2 < (List.length v)))
                                                (cond (decide (3 < (List.length v)))
                                                  (cond (decide (4 < (List.length v)))
                                                    (cond (decide (5 < (List.length v)))
                                                      (cond (decide (6 < (List.length v)))
                                                        (rec ([(Go.IntKind.wrap Go.IntKind.u32 ((Go.IntKind.wrap Go.IntKind.u32 ((Go.IntKind.wrap Go.IntKind.u32 ((Go.IntKind.wrap Go.IntKind.u32 ((Go.IntKind.wrap Go.IntKind.u32 ((Go.IntKind.wrap Go.IntKind.u32 ((List.getD v 7 (0 : Int)) + (Go.Lift.bitsOp Go.BinOp.xor Go.IntKind.u32 (Go.Lift.bitsOp Go.BinOp.xor Go.IntKind.u32 (Go.Lift.bitsOp Go.BinOp.or Go.IntKind.u32 (Go.Lift.shrI Go.IntKind.u32 (List.getD v 4 (0 : Int)) (Go.IntKind.wrap Go.IntKind.u64 (6 : Int))) (Go.Lift.shlI Go.IntKind.u32 (List.getD v 4 (0 : Int)) (Go.IntKind.wrap Go.IntKind.u64 (Go.IntKind.wrap Go.IntKind.i64 ((32 : Int) - (6 : Int)))))) (Go.Lift.bitsOp Go.BinOp.or Go.IntKind.u32 (Go.Lift.shrI Go.IntKind.u32 (List.getD v 4 (0 : Int)) (Go.IntKind.wrap Go.IntKind.u64 (11 : Int))) (Go.Lift.shlI Go.IntKind.u32 (List.getD v 4 (0 : Int)) (Go.IntKind.wrap Go.IntKind.u64 (Go.IntKind.wrap Go.IntKind.i64 ((32 : Int) - (11 : Int))))))) (Go.Lift.bitsOp Go.BinOp.or Go.IntKind.u32 (Go.Lift.shrI Go.IntKind.u32 (List.getD v 4 (0 : Int)) (Go.IntKind.wrap Go.IntKind.u64 (25 : Int))) (Go.Lift.shlI Go.IntKind.u32 (List.getD v 4 (0 : Int)) (Go.IntKind.wrap Go.IntKind.u64 (Go.IntKind.wrap Go.IntKind.i64 ((32 : Int) - (25 : Int))))))))) + (Go.Lift.bitsOp Go.BinOp.xor Go.IntKind.u32 (Go.Lift.bitsOp Go.BinOp.and Go.IntKind.u32 (List.getD v 4 (0 : Int)) (List.getD v 5 (0 : Int))) (Go.Lift.bitsOp Go.BinOp.and Go.IntKind.u32 (Go.Lift.bitsOp Go.BinOp.xor Go.IntKind.u32 (if ((Go.IntKind.signed Go.IntKind.u32) = true) then (-(1 : Int)) else (Go.IntKind.max Go.IntKind.u32)) (List.getD v 4 (0 : Int))) (List.getD v 6 (0 : Int)))))) + (List.getD k (Int.toNat t) (0 : Int)))) + (List.getD w (Int.toNat t) (0 : Int)))) + (Go.Lift.bitsOp Go.BinOp.xor Go.IntKind.u32 (Go.Lift.bitsOp Go.BinOp.xor Go.IntKind.u32 (Go.Lift.bitsOp Go.BinOp.or Go.IntKind.u32 (Go.Lift.shrI Go.IntKind.u32 (List.getD v 0 (0 : Int)) (Go.IntKind.wrap Go.IntKind.u64 (2 : Int))) (Go.Lift.shlI Go.IntKind.u32 (List.getD v 0 (0 : Int)) (Go.IntKind.wrap Go.IntKind.u64 (Go.IntKind.wrap Go.IntKind.i64 ((32 : Int) - (2 : Int)))))) (Go.Lift.bitsOp Go.BinOp.or Go.IntKind.u32 (Go.Lift.shrI Go.IntKind.u32 (List.getD v 0 (0 : Int)) (Go.IntKind.wrap Go.IntKind.u64 (13 : Int))) (Go.Lift.shlI Go.IntKind.u32 (List.getD v 0 (0 : Int)) (Go.IntKind.wrap Go.IntKind.u64 (Go.IntKind.wrap Go.IntKind.i64 ((32 : Int) - (13 : Int))))))) (Go.Lift.bitsOp Go.BinOp.or Go.IntKind.u32 (Go.Lift.shrI Go.IntKind.u32 (List.getD v 0 (0 : Int)) (Go.IntKind.wrap Go.IntKind.u64 (22 : Int))) (Go.Lift.shlI Go.IntKind.u32 (List.getD v 0 (0 : Int)) (Go.IntKind.wrap Go.IntKind.u64 (Go.IntKind.wrap Go.IntKind.i64 ((32 : Int) - (22 : Int))))))))) + (Go.Lift.bitsOp Go.BinOp.xor Go.IntKind.u32 (Go.Lift.bitsOp Go.BinOp.xor Go.IntKind.u32 (Go.Lift.bitsOp Go.BinOp.and Go.IntKind.u32 (List.getD v 0 (0 : Int)) (List.getD v 1 (0 : Int))) (Go.Lift.bitsOp Go.BinOp.and Go.IntKind.u32 (List.getD v 0 (0 : Int)) (List.getD v 2 (0 : Int)))) (Go.Lift.bitsOp Go.BinOp.and Go.IntKind.u32 (List.getD v 1 (0 : Int)) (List.getD v 2 (0 : Int)))))), (List.getD v 0 (0 : Int)), (List.getD v 1 (0 : Int)), (List.getD v 2 (0 : Int)), (Go.IntKind.wrap Go.IntKind.u32 ((List.getD v 3 (0 : Int)) + (Go.IntKind.wrap Go.IntKind.u32 ((Go.IntKind.wrap Go.IntKind.u32 ((Go.IntKind.wrap Go.IntKind.u32 ((Go.IntKind.wrap Go.IntKind.u32 ((List.getD v 7 (0 : Int)) + (Go.Lift.bitsOp Go.BinOp.xor Go.IntKind.u32 (Go.Lift.bitsOp Go.BinOp.xor Go.IntKind.u32 (Go.Lift.bitsOp Go.BinOp.or Go.IntKind.u32 (Go.Lift.shrI Go.IntKind.u32 (List.getD v 4 (0 : Int)) (Go.IntKind.wrap Go.IntKind.u64 (6 : Int))) (Go.Lift.shlI Go.IntKind.u32 (List.getD v 4 (0 : Int)) (Go.IntKind.wrap Go.IntKind.u64 (Go.IntKind.wrap Go.IntKind.i64 ((32 : Int) - (6 : Int)))))) (Go.Lift.bitsOp Go.BinOp.or Go.IntKind.u32 (Go.Lift.shrI Go.IntKind.u32 (List.getD v 4 (0 : Int)) (Go.IntKind.wrap Go.IntKind.u64 (11 : Int))) (Go.Lift.shlI Go.IntKind.u32 (List.getD v 4 (0 : Int)) (Go.IntKind.wrap Go.IntKind.u64 (Go.IntKind.wrap Go.IntKind.i64 ((32 : Int) - (11 : Int))))))) (Go.Lift.bitsOp Go.BinOp.or Go.IntKind.u32 (Go.Lift.shrI Go.IntKind.u32 (List.getD v 4 (0 : Int)) (Go.IntKind.wrap Go.IntKind.u64 (25 : Int))) (Go.Lift.shlI Go.IntKind.u32 (List.getD v 4 (0 : Int)) (Go.IntKind.wrap Go.IntKind.u64 (Go.IntKind.wrap Go.IntKind.i64 ((32 : Int) - (25 : Int))))))))) + (Go.Lift.bitsOp Go.BinOp.xor Go.IntKind.u32 (Go.Lift.bitsOp Go.BinOp.and Go.IntKind.u32 (List.getD v 4 (0 : Int)) (List.getD v 5 (0 : Int))) (Go.Lift.bitsOp Go.BinOp.and Go.IntKind.u32 (Go.Lift.bitsOp Go.BinOp.xor Go.IntKind.u32 (if ((Go.IntKind.signed Go.IntKind.u32) = true) then (-(1 : Int)) else (Go.IntKind.max Go.IntKind.u32)) (List.getD v 4 (0 : Int))) (List.getD v 6 (0 : Int)))))) + (List.getD k (Int.toNat t) (0 : Int)))) + (List.getD w (Int.toNat t) (0 : Int)))))), (List.getD v 4 (0 : Int)), (List.getD v 5 (0 : Int)), (List.getD v 6 (0 : Int))] : List Int) (Go.IntKind.wrap Go.IntKind.i64 (t + (1 : Int))))
                                                        (none))
                                                      (none))
                                                    (none))
                                                  (none))
                                                (none))
                                              (none))
                                            (none))
                                          (none))
                                        (none))
                                      (none))
                                    (none))
                                  (none))
                                (none))
                              (none))
                            (none))
                          (none))
                        (none))
                      (none))
                    (none))
                  (none))
                (none))
              (none))
            (none))
          (none))
        (none))
      (none))
    (none))
  (k0 v)

noncomputable def porterref03_step_p3 (N : Nat) (k : (List Int)) (h : (List Int)) (x8 : (List Int)) (w : (List Int)) (v : (List Int)) (t : Int) (k0 : (List Int) → Option (List Int)) : Option (List Int) :=
  iter (fun (v : ((List Int) × Int)) r => porterref03_step_s3 N k h x8 w v.1 v.2 (fun v t => (r (v, t))) k0) N (v, t)

noncomputable def porterref03_step_g3 (N : Nat) (i : ((List Int) × (List Int) × (List Int) × (List Int))) (v : ((List Int) × Int)) (r : ((List Int) × Int) → Option (List Int)) (K : Ex → List A → Option (List Int)) : Option (List Int) :=
  porterref03_step_s3 N i.1 i.2.1 i.2.2.1 i.2.2.2 v.1 v.2 (fun v t => (r (v, t))) (fun a2 => (K (.exit 4) (mkS [(4, .box (.arr 8 (.int .u32))), (3, .box (.arr 8 (.int .u32))), (8, .box (.arr 8 (.int .u32)))] 199 (i.2.1, i.2.2.1, a2, ()))))

noncomputable def porterref03_step_h3 (N : Nat) : Hd (List Int) := fun st K => (unS [(3, .v (.sl (.int .u32))), (0, .box (.arr 8 (.int .u32))), (3, .box (.arr 8 (.int .u32))), (0, .row (.int .u32)), (7, .box (.arr 8 (.int .u32))), (0, .v (.int .i64))] 198 (restr [18, 17, 3, 9, 4, 8] 0 st)).bind fun x => iter (fun v r => porterref03_step_g3 N ((fun x => (x.1, x.2.1, x.2.2.1, x.2.2.2.1)) x) v r K) N ((fun x => (x.2.2.2.2.1, x.2.2.2.2.2.1)) x)

noncomputable def porterref03_step_t3 (N : Nat) : Tab (List Int) := []

theorem porterref03_step_ok3 {N : Nat} {c : Ctx} (hb : Base Go.Proofs.Tryd.prog (porterref03_step_E N) c) : CodeOk Go.Proofs.Tryd.prog c (nodeAt porterref03_step_body [0, 1, 0, 1, 1, 1, 1, 1]) (porterref03_step_h3 N) :=
  loop_ok (s := [(3, .v (.sl (.int .u32))), (0, .box (.arr 8 (.int .u32))), (3, .box (.arr 8 (.int .u32))), (0, .row (.int .u32)), (7, .box (.arr 8 (.int .u32))), (0, .v (.int .i64))]) (m := 198) (porterref03_step_g3 N) [18, 17, 3, 9, 4, 8] N (fun x => (x.1, x.2.1, x.2.2.1, x.2.2.2.1)) (fun x => (x.2.2.2.2.1, x.2.2.2.2.2.1)) (fun i v => (i.1, i.2.1, i.2.2.1, i.2.2.2, v.1, v.2, ())) (fun _ => rfl) (evN_sound hb N (porterref03_step_t3 N) porterref03_step_L porterref03_step_body TabOk.nil [0, 0, 1, 0, 1, 1, 1, 1, 1] _ rfl) (fun i v r K => by kernel_rfl)

noncomputable def porterref03_step_s4 (N : Nat) (h : (List Int)) (x8 : (List Int)) (v : (List Int)) (i : Int) (rec : (List Int) → Int → Option (List Int)) (k0 : (List Int) → Option (List Int)) : Option (List Int) :=
  cond (decide (i < (8 : Int)))
  (cond (Go.Lift.inR i 8)
    (cond (decide ((Int.toNat i) < (List.length v)))
      (cond (Go.Lift.inR i 8)
        (cond (decide ((Int.toNat i) < (List.length h)))
          (cond (Go.Lift.inR i 8)
            (cond (decide ((Int.toNat i) < (List.length v)))
              (rec (List.set v (Int.toNat i) (Go.IntKind.wrap Go.IntKind.u32 ((List.getD v (Int.toNat i) (0 : Int)) + (List.getD h (Int.toNat i) (0 : Int))))) (Go.IntKind.wrap Go.IntKind.i64 (i + (1 : Int))))
              (none))
            (none))
          (none))
        (none))
      (none))
    (none))
  (k0 v)

noncomputable def porterref03_step_p4 (N : Nat) (h : (List Int)) (x8 : (List Int)) (v : (List Int)) (i : Int) (k0 : (List Int) → Option (List Int)) : Option (List Int) :=
  iter (fun (v : ((List Int) × Int)) r => porterref03_step_s4 N h x8 v.1 v.2 (fun v i => (r (v, i))) k0) N (v, i)

noncomputable def porterref03_step_g4 (N : Nat) (i : ((List Int) × (List Int))) (v : ((List Int) × Int)) (r : ((List Int) × Int) → Option (List Int)) (K : Ex → List A → Option (List Int)) : Option (List Int) :=
  porterref03_step_s4 N i.1 i.2 v.1 v.2 (fun v i => (r (v, i))) (fun a1 => (K (.exit 6) (mkS [(8, .box (.arr 8 (.int .u32))), (8, .box (.arr 8 (.int .u32)))] 199 (i.2, a1, ()))))

noncomputable def porterref03_step_h4 (N : Nat) : Hd (List Int) := fun st K => (unS [(4, .box (.arr 8 (.int .u32))), (3, .box (.arr 8 (.int .u32))), (8, .box (.arr 8 (.int .u32))), (6, .v (.int .i64))] 192 (restr [24, 17, 4, 8] 0 st)).bind fun x => iter (fun v r => porterref03_step_g4 N ((fun x => (x.1, x.2.1)) x) v r K) N ((fun x => (x.2.2.1, x.2.2.2.1)) x)

noncomputable def porterref03_step_t4 (N : Nat) : Tab (List Int) := []

theorem porterref03_step_ok4 {N : Nat} {c : Ctx} (hb : Base Go.Proofs.Tryd.prog (porterref03_step_E N) c) : CodeOk Go.Proofs.Tryd.prog c (nodeAt porterref03_step_body [0, 1, 0, 1, 1, 1, 1, 1, 1]) (porterref03_step_h4 N) :=
  loop_ok (s := [(4, .box (.arr 8 (.int .u32))), (3, .box (.arr 8 (.int .u32))), (8, .box (.arr 8 (.int .u32))), (6, .v (.int .i64))]) (m := 192) (porterref03_step_g4 N) [24, 17, 4, 8] N (fun x => (x.1, x.2.1)) (fun x => (x.2.2.1, x.2.2.2.1)) (fun i v => (i.1, i.2, v.1, v.2, ())) (fun _ => rfl) (evN_sound hb N (porterref03_step_t4 N) porterref03_step_L porterref03_step_body TabOk.nil [0, 0, 1, 0, 1, 1, 1, 1, 1, 1] _ rfl) (fun i v r K => by kernel_rfl)

noncomputable def porterref03_step (N : Nat) (h : (List Int)) (s : (List UInt8)) (at_ : Int) (k : (List Int)) : Option (List Int) :=
  porterref03_step_p1 N s at_ k h ([(0 : Int), (0 : Int), (0 : Int), (0 : Int), (0 : Int), (0 : Int), (0 : Int), (0 : Int)] : List Int) ([] : List Int) (0 : Int)
  (fun w => porterref03_step_p2 N k h ([(0 : Int), (0 : Int), (0 : Int), (0 : Int), (0 : Int), (0 : Int), (0 : Int), (0 : Int)] : List Int) w (16 : Int)
    (fun w1 => porterref03_step_p3 N k h ([(0 : Int), (0 : Int), (0 : Int), (0 : Int), (0 : Int), (0 : Int), (0 : Int), (0 : Int)] : List Int) w1 h (0 : Int)
      (fun v => porterref03_step_p4 N h ([(0 : Int), (0 : Int), (0 : Int), (0 : Int), (0 : Int), (0 : Int), (0 : Int), (0 : Int)] : List Int) v (0 : Int)
        (fun v1 => some v1))))

noncomputable def porterref03_step_t (N : Nat) : Tab (List Int) := [([0, 1, 0, 1, 1], porterref03_step_h1 N), ([0, 1, 0, 1, 1, 1], porterref03_step_h2 N), ([0, 1, 0, 1, 1, 1, 1, 1], porterref03_step_h3 N), ([0, 1, 0, 1, 1, 1, 1, 1, 1], porterref03_step_h4 N)]

theorem porterref03_step_link (N : Nat) (x : denS [(0, .v (.arr 8 (.int .u32))), (0, .v .str), (0, .v (.int .i64)), (0, .v (.sl (.int .u32)))]) : evFX (porterref03_step_E N) N (porterref03_step_t N) porterref03_step_L Go.Proofs.Tryd.f50 (mkS [(0, .v (.arr 8 (.int .u32))), (0, .v .str), (0, .v (.int .i64)), (0, .v (.sl (.int .u32)))] 0 x) (kRes (.v (.arr 8 (.int .u32))) 4) = porterref03_step N x.1 x.2.1 x.2.2.1 x.2.2.2.1 := by kernel_rfl

noncomputable def porterref03_step_res (N : Nat) : List A → Res := resOf [(0, .v (.arr 8 (.int .u32))), (0, .v .str), (0, .v (.int .i64)), (0, .v (.sl (.int .u32)))] (fun x => porterref03_step N x.1 x.2.1 x.2.2.1 x.2.2.2.1) (oRes (.v (.arr 8 (.int .u32))) 4)

theorem porterref03_step_ct (N : Nat) : Contract Go.Proofs.Tryd.prog glob 50 (porterref03_step_res N) :=
  Contract.of (E := porterref03_step_E N) (H := porterref03_step_t N) (L := porterref03_step_L) (N := N) (body := porterref03_step_body) (K := (kRes (.v (.arr 8 (.int .u32))) 4)) (porterref03_step_Eok N) Go.Proofs.Tryd.func50 (by kernel_rfl) (by decide) (fun _ hb => (TabOk.cons (porterref03_step_ok1 hb) (TabOk.cons (porterref03_step_ok2 hb) (TabOk.cons (porterref03_step_ok3 hb) (TabOk.cons (porterref03_step_ok4 hb) TabOk.nil))))) (fun x y h => by rw [porterref03_step_link]; exact h) (kRes_ok (s := (.v (.arr 8 (.int .u32)))) (m := 4))

abbrev porterref03_Tell_R : Type := (List UInt8)

noncomputable def porterref03_Tell_body : Code := (Go.Proofs.Tryd.f21.body).getD .skip

noncomputable def porterref03_Tell_L : List (List Nat × List Nat) := [([0], [1]), ([0, 1], [3, 1]), ([0, 0, 1, 1], [4, 3, 1]), ([0, 1, 0, 1, 1], [4, 3, 1]), ([0, 0, 0, 0, 1, 0, 1, 1], [6, 3, 4, 1]), ([1, 0, 0, 0, 1, 0, 1, 1], [3, 4, 1]), ([1, 1, 0, 0, 0, 1, 0, 1, 1], [3]), ([0, 0, 1, 0, 0, 1, 0, 1, 1], [4, 3, 1]), ([0, 1, 0, 0, 1, 0, 1, 1], [4, 3, 1]), ([1, 1, 0, 0, 1, 0, 1, 1], [4, 3, 1]), ([1, 0, 1, 1], [3]), ([0, 1, 1, 1], [2]), ([1, 1, 1, 1], [2])]

noncomputable def porterref03_Tell_E (N : Nat) : Env := mkEnv tys glob [] [(3, (.int .u8))] [] [] false

theorem porterref03_Tell_Eok (N : Nat) : EnvOk Go.Proofs.Tryd.prog (porterref03_Tell_E N) := mkEnv_ok mixed tys_ok (FnsOk.nil)

noncomputable def porterref03_Tell_s1 (N : Nat) (h : (List Int)) (b : (List Int)) (i : Int) (rec : (List Int) → Int → Option (List UInt8)) (k0 : (List Int) → Option (List UInt8)) : Option (List UInt8) :=
  cond (decide (i < (8 : Int)))
  (cond (Go.Lift.inR i 8)
    (cond (decide ((Int.toNat i) < (List.length h)))
      (cond (Go.Lift.inR i 8)
        (cond (decide ((Int.toNat i) < (List.length h)))
          (cond (Go.Lift.inR i 8)
            (cond (decide ((Int.toNat i) < (List.length h)))
              (cond (Go.Lift.inR i 8)
                (cond (decide ((Int.toNat i) < (List.length h)))
                  (cond (decide ((((List.length b) + 4) * 1) ≤ 70368744177664))
                    (rec (b ++ ([(Go.IntKind.wrap Go.IntKind.u8 (Go.Lift.shrI Go.IntKind.u32 (List.getD h (Int.toNat i) (0 : Int)) (24 : Int))), (Go.IntKind.wrap Go.IntKind.u8 (Go.Lift.shrI Go.IntKind.u32 (List.getD h (Int.toNat i) (0 : Int)) (16 : Int))), (Go.IntKind.wrap Go.IntKind.u8 (Go.Lift.shrI Go.IntKind.u32 (List.getD h (Int.toNat i) (0 : Int)) (8 : Int))), (Go.IntKind.wrap Go.IntKind.u8 (List.getD h (Int.toNat i) (0 : Int)))] : List Int)) (Go.IntKind.wrap Go.IntKind.i64 (i + (1 : Int))))
                    (none))
                  (none))
                (none))
              (none))
            (none))
          (none))
        (none))
      (none))
    (none))
  (k0 b)

noncomputable def porterref03_Tell_p1 (N : Nat) (h : (List Int)) (b : (List Int)) (i : Int) (k0 : (List Int) → Option (List UInt8)) : Option (List UInt8) :=
  iter (fun (v : ((List Int) × Int)) r => porterref03_Tell_s1 N h v.1 v.2 (fun b i => (r (b, i))) k0) N (b, i)

noncomputable def porterref03_Tell_g1 (N : Nat) (i : (List Int)) (v : ((List Int) × Int)) (r : ((List Int) × Int) → Option (List UInt8)) (K : Ex → List A → Option (List UInt8)) : Option (List UInt8) :=
  porterref03_Tell_s1 N i v.1 v.2 (fun b i => (r (b, i))) (fun a0 => (K (.exit 0) (mkS [(3, .row (.int .u8))] 29 (a0, ()))))

noncomputable def porterref03_Tell_h1 (N : Nat) : Hd (List UInt8) := fun st K => (unS [(1, .box (.arr 8 (.int .u32))), (1, .row (.int .u8)), (0, .v (.int .i64))] 28 (restr [4, 3, 1] 0 st)).bind fun x => iter (fun v r => porterref03_Tell_g1 N ((fun x => x.1) x) v r K) N ((fun x => (x.2.1, x.2.2.1)) x)

noncomputable def porterref03_Tell_t1 (N : Nat) : Tab (List UInt8) := []

theorem porterref03_Tell_ok1 {N : Nat} {c : Ctx} (hb : Base Go.Proofs.Tryd.prog (porterref03_Tell_E N) c) : CodeOk Go.Proofs.Tryd.prog c (nodeAt porterref03_Tell_body [0, 1, 0, 1, 1]) (porterref03_Tell_h1 N) :=
  loop_ok (s := [(1, .box (.arr 8 (.int .u32))), (1, .row (.int .u8)), (0, .v (.int .i64))]) (m := 28) (porterref03_Tell_g1 N) [4, 3, 1] N (fun x => x.1) (fun x => (x.2.1, x.2.2.1)) (fun i v => (i, v.1, v.2, ())) (fun _ => rfl) (evN_sound hb N (porterref03_Tell_t1 N) porterref03_Tell_L porterref03_Tell_body TabOk.nil [0, 0, 1, 0, 1, 1] _ rfl) (fun i v r K => by kernel_rfl)

noncomputable def porterref03_Tell (N : Nat) (h : (List Int)) : Option (List UInt8) :=
  porterref03_Tell_p1 N h ([] : List Int) (0 : Int)
  (fun b => some (Go.Lift.toStr b))

noncomputable def porterref03_Tell_t (N : Nat) : Tab (List UInt8) := [([0, 1, 0, 1, 1], porterref03_Tell_h1 N)]

theorem porterref03_Tell_link (N : Nat) (x : denS [(0, .v (.arr 8 (.int .u32)))]) : evFX (porterref03_Tell_E N) N (porterref03_Tell_t N) porterref03_Tell_L Go.Proofs.Tryd.f21 (mkS [(0, .v (.arr 8 (.int .u32)))] 0 x) (kRes (.v .str) 1) = porterref03_Tell N x.1 := by kernel_rfl

noncomputable def porterref03_Tell_res (N : Nat) : List A → Res := resOf [(0, .v (.arr 8 (.int .u32)))] (fun x => porterref03_Tell N x.1) (oRes (.v .str) 1)

theorem porterref03_Tell_ct (N : Nat) : Contract Go.Proofs.Tryd.prog glob 21 (porterref03_Tell_res N) :=
  Contract.of (E := porterref03_Tell_E N) (H := porterref03_Tell_t N) (L := porterref03_Tell_L) (N := N) (body := porterref03_Tell_body) (K := (kRes (.v .str) 1)) (porterref03_Tell_Eok N) Go.Proofs.Tryd.func21 (by kernel_rfl) (by decide) (fun _ hb => (TabOk.cons (porterref03_Tell_ok1 hb) TabOk.nil)) (fun x y h => by rw [porterref03_Tell_link]; exact h) (kRes_ok (s := (.v .str)) (m := 1))

abbrev porterref03_Sum_R : Type := (List UInt8)

noncomputable def porterref03_Sum_body : Code := (Go.Proofs.Tryd.f15.body).getD .skip

noncomputable def porterref03_Sum_L : List (List Nat × List Nat) := [([0], [0]), ([0, 1], [3]), ([0, 1, 1], [3, 4]), ([0, 1, 1, 1], [3, 5, 4]), ([0, 0, 1, 1, 1, 1], [6, 3, 5, 4]), ([0, 1, 0, 1, 1, 1, 1], [6, 3, 5, 4]), ([0, 0, 0, 0, 1, 0, 1, 1, 1, 1], [14, 5, 3, 6, 4]), ([1, 0, 0, 0, 1, 0, 1, 1, 1, 1], [5, 3, 6, 4]), ([1, 1, 0, 0, 0, 1, 0, 1, 1, 1, 1], [5]), ([0, 0, 1, 0, 0, 1, 0, 1, 1, 1, 1], [6, 3, 5, 4]), ([0, 1, 0, 0, 1, 0, 1, 1, 1, 1], [6, 3, 5, 4]), ([1, 1, 0, 0, 1, 0, 1, 1, 1, 1], [6, 3, 5, 4]), ([1, 0, 1, 1, 1, 1], [5]), ([0, 1, 1, 1, 1, 1], [2]), ([1, 1, 1, 1, 1, 1], [2])]

noncomputable def porterref03_Sum_E (N : Nat) : Env := mkEnv tys glob [(21, porterref03_Tell_res N), (50, porterref03_step_res N), (23, porterref03_First_res N), (49, porterref03_table_res N), (17, porterref03_Pad_res N)] [(4, (.int .u32))] [] [] false

theorem porterref03_Sum_Eok (N : Nat) : EnvOk Go.Proofs.Tryd.prog (porterref03_Sum_E N) := mkEnv_ok mixed tys_ok (FnsOk.cons (porterref03_Tell_ct N) (FnsOk.cons (porterref03_step_ct N) (FnsOk.cons (porterref03_First_ct N) (FnsOk.cons (porterref03_table_ct N) (FnsOk.cons (porterref03_Pad_ct N) (FnsOk.nil))))))

noncomputable def porterref03_Sum_s1 (N : Nat) (p : (List UInt8)) (k : (List Int)) (h : (List Int)) (at_ : Int) (rec : (List Int) → Int → Option (List UInt8)) (k0 : (List Int) → Option (List UInt8)) : Option (List UInt8) :=
  cond (decide (at_ < (((List.length p) : Nat) : Int)))
  ((porterref03_step N h p at_ k).bind fun y =>
    rec y (Go.IntKind.wrap Go.IntKind.i64 (at_ + (64 : Int))))
  (k0 h)

noncomputable def porterref03_Sum_p1 (N : Nat) (p : (List UInt8)) (k : (List Int)) (h : (List Int)) (at_ : Int) (k0 : (List Int) → Option (List UInt8)) : Option (List UInt8) :=
  iter (fun (v : ((List Int) × Int)) r => porterref03_Sum_s1 N p k v.1 v.2 (fun h at_ => (r (h, at_))) k0) N (h, at_)

noncomputable def porterref03_Sum_g1 (N : Nat) (i : ((List UInt8) × (List Int))) (v : ((List Int) × Int)) (r : ((List Int) × Int) → Option (List UInt8)) (K : Ex → List A → Option (List UInt8)) : Option (List UInt8) :=
  porterref03_Sum_s1 N i.1 i.2 v.1 v.2 (fun h at_ => (r (h, at_))) (fun a0 => (K (.exit 0) (mkS [(5, .box (.arr 8 (.int .u32)))] 18 (a0, ()))))

noncomputable def porterref03_Sum_h1 (N : Nat) : Hd (List UInt8) := fun st K => (unS [(3, .v .str), (0, .v (.sl (.int .u32))), (0, .box (.arr 8 (.int .u32))), (0, .v (.int .i64))] 17 (restr [6, 3, 5, 4] 0 st)).bind fun x => iter (fun v r => porterref03_Sum_g1 N ((fun x => (x.1, x.2.1)) x) v r K) N ((fun x => (x.2.2.1, x.2.2.2.1)) x)

noncomputable def porterref03_Sum_t1 (N : Nat) : Tab (List UInt8) := []

theorem porterref03_Sum_ok1 {N : Nat} {c : Ctx} (hb : Base Go.Proofs.Tryd.prog (porterref03_Sum_E N) c) : CodeOk Go.Proofs.Tryd.prog c (nodeAt porterref03_Sum_body [0, 1, 0, 1, 1, 1, 1]) (porterref03_Sum_h1 N) :=
  loop_ok (s := [(3, .v .str), (0, .v (.sl (.int .u32))), (0, .box (.arr 8 (.int .u32))), (0, .v (.int .i64))]) (m := 17) (porterref03_Sum_g1 N) [6, 3, 5, 4] N (fun x => (x.1, x.2.1)) (fun x => (x.2.2.1, x.2.2.2.1)) (fun i v => (i.1, i.2, v.1, v.2, ())) (fun _ => rfl) (evN_sound hb N (porterref03_Sum_t1 N) porterref03_Sum_L porterref03_Sum_body TabOk.nil [0, 0, 1, 0, 1, 1, 1, 1] _ rfl) (fun i v r K => by kernel_rfl)

noncomputable def porterref03_Sum (N : Nat) (s : (List UInt8)) : Option (List UInt8) :=
  (porterref03_Pad N s).bind fun y =>
  porterref03_Sum_p1 N y (List.set (List.set (List.set (List.set (List.set (List.set (List.set (List.set (List.set (List.set (List.set (List.set (List.set (List.set (List.set (List.set (List.set (List.set (List.set (List.set (List.set (List.set (List.set (List.set (List.set (List.set (List.set (List.set (List.set (List.set (List.set (List.set (List.set (List.set (List.set (List.set (List.set (List.set (List.set (List.set (List.set (List.set (List.set (List.set (List.set (List.set (List.set (List.set (List.set (List.set (List.set (List.set (List.set (List.set (List.set (List.set (List.set (List.set (List.set (List.set (List.set (List.set (List.set (List.set (List.replicate 64 (0 : Int)) 0 (1116352408 : Int)) 1 (1899447441 : Int)) 2 (3049323471 : Int)) 3 (3921009573 : Int)) 4 (961987163 : Int)) 5 (1508970993 : Int)) 6 (2453635748 : Int)) 7 (2870763221 : Int)) 8 (3624381080 : Int)) 9 (310598401 : Int)) 10 (607225278 : Int)) 11 (1426881987 : Int)) 12 (1925078388 : Int)) 13 (2162078206 : Int)) 14 (2614888103 : Int)) 15 (3248222580 : Int)) 16 (3835390401 : Int)) 17 (4022224774 : Int)) 18 (264347078 : Int)) 19 (604807628 : Int)) 20 (770255983 : Int)) 21 (1249150122 : Int)) 22 (1555081692 : Int)) 23 (1996064986 : Int)) 24 (2554220882 : Int)) 25 (2821834349 : Int)) 26 (2952996808 : Int)) 27 (3210313671 : Int)) 28 (3336571891 : Int)) 29 (3584528711 : Int)) 30 (113926993 : Int)) 31 (338241895 : Int)) 32 (666307205 : Int)) 33 (773529912 : Int)) 34 (1294757372 : Int)) 35 (1396182291 : Int)) 36 (1695183700 : Int)) 37 (1986661051 : Int)) 38 (2177026350 : Int)) 39 (2456956037 : Int)) 40 (2730485921 : Int)) 41 (2820302411 : Int)) 42 (3259730800 : Int)) 43 (3345764771 : Int)) 44 (3516065817 : Int)) 45 (3600352804 : Int)) 46 (4094571909 : Int)) 47 (275423344 : Int)) 48 (430227734 : Int)) 49 (506948616 : Int)) 50 (659060556 : Int)) 51 (883997877 : Int)) 52 (958139571 : Int)) 53 (1322822218 : Int)) 54 (1537002063 : Int)) 55 (1747873779 : Int)) 56 (1955562222 : Int)) 57 (2024104815 : Int)) 58 (2227730452 : Int)) 59 (2361852424 : Int)) 60 (2428436474 : Int)) 61 (2756734187 : Int)) 62 (3204031479 : Int)) 63 (3329325298 : Int)) ([(1779033703 : Int), (3144134277 : Int), (1013904242 : Int), (2773480762 : Int), (1359893119 : Int), (2600822924 : Int), (528734635 : Int), (1541459225 : Int)] : List Int) (0 : Int)
  (fun h => (porterref03_Tell N h).bind fun y1 =>
    some y1)

noncomputable def porterref03_Sum_t (N : Nat) : Tab (List UInt8) := [([0, 1, 0, 1, 1, 1, 1], porterref03_Sum_h1 N)]

theorem porterref03_Sum_link (N : Nat) (x : denS [(0, .v .str)]) : evFX (porterref03_Sum_E N) N (porterref03_Sum_t N) porterref03_Sum_L Go.Proofs.Tryd.f15 (mkS [(0, .v .str)] 0 x) (kRes (.v .str) 1) = porterref03_Sum N x.1 := by kernel_rfl

noncomputable def porterref03_Sum_res (N : Nat) : List A → Res := resOf [(0, .v .str)] (fun x => porterref03_Sum N x.1) (oRes (.v .str) 1)

theorem porterref03_Sum_ct (N : Nat) : Contract Go.Proofs.Tryd.prog glob 15 (porterref03_Sum_res N) :=
  Contract.of (E := porterref03_Sum_E N) (H := porterref03_Sum_t N) (L := porterref03_Sum_L) (N := N) (body := porterref03_Sum_body) (K := (kRes (.v .str) 1)) (porterref03_Sum_Eok N) Go.Proofs.Tryd.func15 (by kernel_rfl) (by decide) (fun _ hb => (TabOk.cons (porterref03_Sum_ok1 hb) TabOk.nil)) (fun x y h => by rw [porterref03_Sum_link]; exact h) (kRes_ok (s := (.v .str)) (m := 1))

abbrev sha_Pad_R : Type := (List UInt8)

noncomputable def sha_Pad_body : Code := (Go.Proofs.Tryd.f16.body).getD .skip

noncomputable def sha_Pad_L : List (List Nat × List Nat) := [([0], [0]), ([0, 1], [2]), ([1, 1], [2])]

noncomputable def sha_Pad_E (N : Nat) : Env := mkEnv tys glob [(51, sha_tail_res N)] [] [] [] false

theorem sha_Pad_Eok (N : Nat) : EnvOk Go.Proofs.Tryd.prog (sha_Pad_E N) := mkEnv_ok mixed tys_ok (FnsOk.cons (sha_tail_ct N) (FnsOk.nil))

noncomputable def sha_Pad (N : Nat) (s : (List UInt8)) : Option (List UInt8) :=
  (sha_tail N (((List.length s) : Nat) : Int)).bind fun y =>
  cond (decide (((List.length s) + (List.length y)) ≤ 9223372036854775807))
  (some (s ++ y))
  (none)

noncomputable def sha_Pad_t (N : Nat) : Tab (List UInt8) := []

theorem sha_Pad_link (N : Nat) (x : denS [(0, .v .str)]) : evFX (sha_Pad_E N) N (sha_Pad_t N) sha_Pad_L Go.Proofs.Tryd.f16 (mkS [(0, .v .str)] 0 x) (kRes (.v .str) 1) = sha_Pad N x.1 := by kernel_rfl

noncomputable def sha_Pad_res (N : Nat) : List A → Res := resOf [(0, .v .str)] (fun x => sha_Pad N x.1) (oRes (.v .str) 1)

theorem sha_Pad_ct (N : Nat) : Contract Go.Proofs.Tryd.prog glob 16 (sha_Pad_res N) :=
  Contract.of (E := sha_Pad_E N) (H := sha_Pad_t N) (L := sha_Pad_L) (N := N) (body := sha_Pad_body) (K := (kRes (.v .str) 1)) (sha_Pad_Eok N) Go.Proofs.Tryd.func16 (by kernel_rfl) (by decide) (fun _ hb => TabOk.nil) (fun x y h => by rw [sha_Pad_link]; exact h) (kRes_ok (s := (.v .str)) (m := 1))

abbrev porterlaw03_ShaSums_R : Type := Bool

noncomputable def porterlaw03_ShaSums_body : Code := (Go.Proofs.Tryd.f3.body).getD .skip

noncomputable def porterlaw03_ShaSums_L : List (List Nat × List Nat) := [([0], [0]), ([0, 0, 1], [5, 0]), ([1, 0, 1], [0]), ([0, 0, 1, 0, 1], [2]), ([1, 0, 1, 0, 1], [2]), ([0, 1, 1], [2]), ([1, 1, 1], [2])]

noncomputable def porterlaw03_ShaSums_E (N : Nat) : Env := mkEnv tys glob [(16, sha_Pad_res N), (15, porterref03_Sum_res N), (17, porterref03_Pad_res N), (13, porterlaw03_works_res N), (14, sha_Sum_res N)] [] [] [] false

theorem porterlaw03_ShaSums_Eok (N : Nat) : EnvOk Go.Proofs.Tryd.prog (porterlaw03_ShaSums_E N) := mkEnv_ok mixed tys_ok (FnsOk.cons (sha_Pad_ct N) (FnsOk.cons (porterref03_Sum_ct N) (FnsOk.cons (porterref03_Pad_ct N) (FnsOk.cons (porterlaw03_works_ct N) (FnsOk.cons (sha_Sum_ct N) (FnsOk.nil))))))

noncomputable def porterlaw03_ShaSums (N : Nat) (s : (List UInt8)) : Option Bool :=
  cond (decide ((2000 : Int) < (((List.length s) : Nat) : Int)))
  ((porterlaw03_works N).bind fun y =>
    some y)
  ((sha_Sum N s).bind fun y1 =>
    (porterref03_Sum N s).bind fun y2 =>
    cond (y1 == y2)
    ((sha_Pad N s).bind fun y3 =>
      (porterref03_Pad N s).bind fun y4 =>
      cond (y3 == y4)
      ((porterlaw03_works N).bind fun y5 =>
        some y5)
      (some false))
    (some false))

noncomputable def porterlaw03_ShaSums_t (N : Nat) : Tab Bool := []

theorem porterlaw03_ShaSums_link (N : Nat) (x : denS [(0, .v .str)]) : evFX (porterlaw03_ShaSums_E N) N (porterlaw03_ShaSums_t N) porterlaw03_ShaSums_L Go.Proofs.Tryd.f3 (mkS [(0, .v .str)] 0 x) (kRes (.v .bool) 1) = porterlaw03_ShaSums N x.1 := by kernel_rfl

noncomputable def porterlaw03_ShaSums_res (N : Nat) : List A → Res := resOf [(0, .v .str)] (fun x => porterlaw03_ShaSums N x.1) (oRes (.v .bool) 1)

theorem porterlaw03_ShaSums_ct (N : Nat) : Contract Go.Proofs.Tryd.prog glob 3 (porterlaw03_ShaSums_res N) :=
  Contract.of (E := porterlaw03_ShaSums_E N) (H := porterlaw03_ShaSums_t N) (L := porterlaw03_ShaSums_L) (N := N) (body := porterlaw03_ShaSums_body) (K := (kRes (.v .bool) 1)) (porterlaw03_ShaSums_Eok N) Go.Proofs.Tryd.func3 (by kernel_rfl) (by decide) (fun _ hb => TabOk.nil) (fun x y h => by rw [porterlaw03_ShaSums_link]; exact h) (kRes_ok (s := (.v .bool)) (m := 1))

abbrev porterref03_put_R : Type := (Unit)

noncomputable def porterref03_put_body : Code := (Go.Proofs.Tryd.f96.body).getD .skip

noncomputable def porterref03_put_L : List (List Nat × List Nat) := [([0], [1, 0, 2, 6]), ([0, 1], [7, 0, 1, 2, 6]), ([0, 1, 1], [7, 0, 1, 2, 6]), ([0, 0, 0, 0, 1, 1], [14, 7, 1, 2, 0, 6]), ([1, 0, 0, 0, 1, 1], [7, 1, 2, 0, 6]), ([1, 1, 0, 0, 0, 1, 1], []), ([0, 0, 0, 1, 0, 0, 1, 1], [7, 1, 2, 0, 6, 8]), ([0, 0, 1, 0, 0, 1, 0, 0, 1, 1], [19, 2, 7, 1, 0, 6, 8]), ([1, 0, 1, 0, 0, 1, 0, 0, 1, 1], [7, 1, 2, 0, 6, 8]), ([0, 1, 0, 1, 0, 0, 1, 0, 0, 1, 1], [7, 1, 2, 0, 6, 8]), ([0, 0, 1, 1, 0, 0, 1, 0, 0, 1, 1], [25, 2, 0, 7, 6, 1, 8]), ([1, 0, 1, 1, 0, 0, 1, 0, 0, 1, 1], [0, 7, 8, 6, 1, 2]), ([0, 1, 0, 1, 1, 0, 0, 1, 0, 0, 1, 1], [0, 7, 8, 6, 1, 2]), ([0, 1, 1, 1, 0, 0, 1, 0, 0, 1, 1], [0, 7, 9, 1, 2]), ([0, 1, 1, 1, 1, 0, 0, 1, 0, 0, 1, 1], [9, 7, 0, 1, 2]), ([1, 1, 1, 1, 1, 0, 0, 1, 0, 0, 1, 1], [7, 0, 1, 2, 6]), ([0, 1, 0, 0, 1, 1], [7, 0, 1, 2, 6]), ([1, 1, 0, 0, 1, 1], [7, 0, 1, 2, 6]), ([1, 1], [])]

noncomputable def porterref03_put_E (N : Nat) : Env := mkEnv tys glob [] [] [] [] false

theorem porterref03_put_Eok (N : Nat) : EnvOk Go.Proofs.Tryd.prog (porterref03_put_E N) := mkEnv_ok mixed tys_ok (FnsOk.nil)

noncomputable def porterref03_put_p3 (N : Nat) (out : (List Int)) (at_ : Int) (n : Int) (carry : Int) (i : Int) (part : Int) (k0 : Int → Option (Unit)) : Option (Unit) :=
  cond (i == at_)
  (k0 (Int.tmod n (4294967296 : Int)))
  (k0 part)

noncomputable def porterref03_put_g3 (N : Nat) (x : denS [(0, .v (.sl (.int .u64))), (0, .v (.int .i64)), (0, .v (.int .u64)), (3, .v (.int .u64)), (0, .v (.int .i64)), (0, .v (.int .u64))]) (K : Ex → List A → Option (Unit)) : Option (Unit) :=
  porterref03_put_p3 N x.1 x.2.1 x.2.2.1 x.2.2.2.1 x.2.2.2.2.1 x.2.2.2.2.2.1 (fun a5 => (K .normal (mkS [(0, .v (.sl (.int .u64))), (0, .v (.int .i64)), (0, .v (.int .u64)), (3, .v (.int .u64)), (0, .v (.int .i64)), (0, .v (.int .u64))] 34 (x.1, x.2.1, x.2.2.1, x.2.2.2.1, x.2.2.2.2.1, a5, ()))))

noncomputable def porterref03_put_h3 (N : Nat) : Hd (Unit) := fun st K => (unS [(0, .v (.sl (.int .u64))), (0, .v (.int .i64)), (0, .v (.int .u64)), (3, .v (.int .u64)), (0, .v (.int .i64)), (0, .v (.int .u64))] 34 (restr [7, 1, 2, 0, 6, 8] 0 st)).bind fun x => porterref03_put_g3 N x K

noncomputable def porterref03_put_t3 (N : Nat) : Tab (Unit) := []

theorem porterref03_put_ok3 {N : Nat} {c : Ctx} (hb : Base Go.Proofs.Tryd.prog (porterref03_put_E N) c) : CodeOk Go.Proofs.Tryd.prog c (nodeAt porterref03_put_body [0, 1, 0, 0, 1, 0, 0, 1, 1]) (porterref03_put_h3 N) :=
  piece_ok (s := [(0, .v (.sl (.int .u64))), (0, .v (.int .i64)), (0, .v (.int .u64)), (3, .v (.int .u64)), (0, .v (.int .i64)), (0, .v (.int .u64))]) (m := 34) (g := porterref03_put_g3 N) [7, 1, 2, 0, 6, 8] (evN_sound hb N (porterref03_put_t3 N) porterref03_put_L porterref03_put_body TabOk.nil [0, 1, 0, 0, 1, 0, 0, 1, 1] _ rfl) (fun x K => by kernel_rfl)

noncomputable def porterref03_put_p4 (N : Nat) (out : (List Int)) (at_ : Int) (n : Int) (carry : Int) (i : Int) (part : Int) (k0 : Int → Option (Unit)) : Option (Unit) :=
  cond (i == (Go.IntKind.wrap Go.IntKind.i64 (at_ + (1 : Int))))
  (k0 (Go.IntKind.wrap Go.IntKind.u64 (Int.tdiv n (4294967296 : Int))))
  (k0 part)

noncomputable def porterref03_put_g4 (N : Nat) (x : denS [(0, .v (.sl (.int .u64))), (0, .v (.int .i64)), (0, .v (.int .u64)), (3, .v (.int .u64)), (0, .v (.int .i64)), (0, .v (.int .u64))]) (K : Ex → List A → Option (Unit)) : Option (Unit) :=
  porterref03_put_p4 N x.1 x.2.1 x.2.2.1 x.2.2.2.1 x.2.2.2.2.1 x.2.2.2.2.2.1 (fun a5 => (K .normal (mkS [(0, .v (.sl (.int .u64))), (0, .v (.int .i64)), (0, .v (.int .u64)), (3, .v (.int .u64)), (0, .v (.int .i64)), (0, .v (.int .u64))] 34 (x.1, x.2.1, x.2.2.1, x.2.2.2.1, x.2.2.2.2.1, a5, ()))))

noncomputable def porterref03_put_h4 (N : Nat) : Hd (Unit) := fun st K => (unS [(0, .v (.sl (.int .u64))), (0, .v (.int .i64)), (0, .v (.int .u64)), (3, .v (.int .u64)), (0, .v (.int .i64)), (0, .v (.int .u64))] 34 (restr [7, 1, 2, 0, 6, 8] 0 st)).bind fun x => porterref03_put_g4 N x K

noncomputable def porterref03_put_t4 (N : Nat) : Tab (Unit) := []

theorem porterref03_put_ok4 {N : Nat} {c : Ctx} (hb : Base Go.Proofs.Tryd.prog (porterref03_put_E N) c) : CodeOk Go.Proofs.Tryd.prog c (nodeAt porterref03_put_body [0, 1, 1, 0, 0, 1, 0, 0, 1, 1]) (porterref03_put_h4 N) :=
  piece_ok (s := [(0, .v (.sl (.int .u64))), (0, .v (.int .i64)), (0, .v (.int .u64)), (3, .v (.int .u64)), (0, .v (.int .i64)), (0, .v (.int .u64))]) (m := 34) (g := porterref03_put_g4 N) [7, 1, 2, 0, 6, 8] (evN_sound hb N (porterref03_put_t4 N) porterref03_put_L porterref03_put_body TabOk.nil [0, 1, 1, 0, 0, 1, 0, 0, 1, 1] _ rfl) (fun x K => by kernel_rfl)

noncomputable def porterref03_put_p2 (N : Nat) (out : (List Int)) (at_ : Int) (n : Int) (carry : Int) (i : Int) : Option (Unit) :=
  porterref03_put_p3 N out at_ n carry i (0 : Int)
  (fun part => porterref03_put_p4 N out at_ n carry i part
    (fun part1 => cond (Go.Lift.inR i (List.length out))
      (cond (Go.Lift.inR i (List.length out))
        (none)
        (none))
      (none)))

noncomputable def porterref03_put_g2 (N : Nat) (x : denS [(0, .v (.sl (.int .u64))), (0, .v (.int .i64)), (0, .v (.int .u64)), (3, .v (.int .u64)), (0, .v (.int .i64))]) (K : Ex → List A → Option (Unit)) : Option (Unit) :=
  porterref03_put_p2 N x.1 x.2.1 x.2.2.1 x.2.2.2.1 x.2.2.2.2.1

noncomputable def porterref03_put_h2 (N : Nat) : Hd (Unit) := fun st K => (unS [(0, .v (.sl (.int .u64))), (0, .v (.int .i64)), (0, .v (.int .u64)), (3, .v (.int .u64)), (0, .v (.int .i64))] 35 (restr [7, 1, 2, 0, 6] 0 st)).bind fun x => porterref03_put_g2 N x K

noncomputable def porterref03_put_t2 (N : Nat) : Tab (Unit) := [([0, 1, 0, 0, 1, 0, 0, 1, 1], porterref03_put_h3 N), ([0, 1, 1, 0, 0, 1, 0, 0, 1, 1], porterref03_put_h4 N)]

theorem porterref03_put_ok2 {N : Nat} {c : Ctx} (hb : Base Go.Proofs.Tryd.prog (porterref03_put_E N) c) : CodeOk Go.Proofs.Tryd.prog c (nodeAt porterref03_put_body [0, 1, 0, 0, 1, 1]) (porterref03_put_h2 N) :=
  piece_ok (s := [(0, .v (.sl (.int .u64))), (0, .v (.int .i64)), (0, .v (.int .u64)), (3, .v (.int .u64)), (0, .v (.int .i64))]) (m := 35) (g := porterref03_put_g2 N) [7, 1, 2, 0, 6] (evN_sound hb N (porterref03_put_t2 N) porterref03_put_L porterref03_put_body (TabOk.cons (porterref03_put_ok3 hb) (TabOk.cons (porterref03_put_ok4 hb) TabOk.nil)) [0, 1, 0, 0, 1, 1] _ rfl) (fun x K => by kernel_rfl)

noncomputable def porterref03_put_s1 (N : Nat) (out : (List Int)) (at_ : Int) (n : Int) (carry : Int) (i : Int) (rec : Option (Unit)) (k0 : Option (Unit)) : Option (Unit) :=
  cond (decide (i < (((List.length out) : Nat) : Int)))
  (porterref03_put_p2 N out at_ n carry i)
  (k0)

noncomputable def porterref03_put_p1 (N : Nat) (out : (List Int)) (at_ : Int) (n : Int) (carry : Int) (i : Int) (k0 : Option (Unit)) : Option (Unit) :=
  iter (fun (v : Unit) r => porterref03_put_s1 N out at_ n carry i (r ()) k0) N ()

noncomputable def porterref03_put_g1 (N : Nat) (i : ((List Int) × Int × Int × Int × Int)) (v : Unit) (r : Unit → Option (Unit)) (K : Ex → List A → Option (Unit)) : Option (Unit) :=
  porterref03_put_s1 N i.1 i.2.1 i.2.2.1 i.2.2.2.1 i.2.2.2.2 (r ()) (K (.exit 0) (mkS [] 43 ()))

noncomputable def porterref03_put_h1 (N : Nat) : Hd (Unit) := fun st K => (unS [(0, .v (.sl (.int .u64))), (0, .v (.int .i64)), (0, .v (.int .u64)), (3, .v (.int .u64)), (0, .v (.int .i64))] 35 (restr [7, 0, 1, 2, 6] 0 st)).bind fun x => iter (fun v r => porterref03_put_g1 N ((fun x => (x.1, x.2.1, x.2.2.1, x.2.2.2.1, x.2.2.2.2.1)) x) v r K) N ((fun x => ()) x)

noncomputable def porterref03_put_t1 (N : Nat) : Tab (Unit) := [([0, 1, 0, 0, 1, 1], porterref03_put_h2 N)]

theorem porterref03_put_ok1 {N : Nat} {c : Ctx} (hb : Base Go.Proofs.Tryd.prog (porterref03_put_E N) c) : CodeOk Go.Proofs.Tryd.prog c (nodeAt porterref03_put_body [0, 1, 1]) (porterref03_put_h1 N) :=
  loop_ok (s := [(0, .v (.sl (.int .u64))), (0, .v (.int .i64)), (0, .v (.int .u64)), (3, .v (.int .u64)), (0, .v (.int .i64))]) (m := 35) (porterref03_put_g1 N) [7, 0, 1, 2, 6] N (fun x => (x.1, x.2.1, x.2.2.1, x.2.2.2.1, x.2.2.2.2.1)) (fun x => ()) (fun i v => (i.1, i.2.1, i.2.2.1, i.2.2.2.1, i.2.2.2.2, ())) (fun _ => rfl) (evN_sound hb N (porterref03_put_t1 N) porterref03_put_L porterref03_put_body (TabOk.cons (porterref03_put_ok2 hb) TabOk.nil) [0, 0, 1, 1] _ rfl) (fun i v r K => by kernel_rfl)

noncomputable def porterref03_put (N : Nat) (out : (List Int)) (at_ : Int) (n : Int) : Option (Unit) :=
  porterref03_put_p1 N out at_ n (0 : Int) at_
  (some ())

noncomputable def porterref03_put_t (N : Nat) : Tab (Unit) := [([0, 1, 1], porterref03_put_h1 N)]

theorem porterref03_put_link (N : Nat) (x : denS [(0, .v (.sl (.int .u64))), (0, .v (.int .i64)), (0, .v (.int .u64))]) : evFX (porterref03_put_E N) N (porterref03_put_t N) porterref03_put_L Go.Proofs.Tryd.f96 (mkS [(0, .v (.sl (.int .u64))), (0, .v (.int .i64)), (0, .v (.int .u64))] 0 x) (kRes (.tup []) 3) = porterref03_put N x.1 x.2.1 x.2.2.1 := by kernel_rfl

noncomputable def porterref03_put_res (N : Nat) : List A → Res := resOf [(0, .v (.sl (.int .u64))), (0, .v (.int .i64)), (0, .v (.int .u64))] (fun x => porterref03_put N x.1 x.2.1 x.2.2.1) (oRes (.tup []) 3)

theorem porterref03_put_ct (N : Nat) : Contract Go.Proofs.Tryd.prog glob 96 (porterref03_put_res N) :=
  Contract.of (E := porterref03_put_E N) (H := porterref03_put_t N) (L := porterref03_put_L) (N := N) (body := porterref03_put_body) (K := (kRes (.tup []) 3)) (porterref03_put_Eok N) Go.Proofs.Tryd.func96 (by kernel_rfl) (by decide) (fun _ hb => (TabOk.cons (porterref03_put_ok1 hb) TabOk.nil)) (fun x y h => by rw [porterref03_put_link]; exact h) (kRes_ok (s := (.tup [])) (m := 3))

abbrev porterref03_times_R : Type := (List Int)

noncomputable def porterref03_times_body : Code := (Go.Proofs.Tryd.f91.body).getD .skip

noncomputable def porterref03_times_L : List (List Nat × List Nat) := [([0], [1, 0]), ([0, 1], [0, 5, 6]), ([0, 1, 1], [0, 7, 5, 6]), ([0, 0, 1, 1, 1], [8, 0, 7, 5, 6]), ([0, 1, 0, 1, 1, 1], [8, 0, 7, 5, 6]), ([0, 0, 0, 0, 1, 0, 1, 1, 1], [20, 7, 8, 0, 5, 6]), ([1, 0, 0, 0, 1, 0, 1, 1, 1], [7, 8, 0, 5, 6]), ([1, 1, 0, 0, 0, 1, 0, 1, 1, 1], [7]), ([0, 0, 0, 1, 0, 0, 1, 0, 1, 1, 1], [7, 8, 0, 6, 5]), ([1, 0, 0, 1, 0, 0, 1, 0, 1, 1, 1], [8, 0, 7, 5, 6]), ([0, 1, 0, 0, 1, 0, 1, 1, 1], [8, 0, 7, 5, 6]), ([1, 1, 0, 0, 1, 0, 1, 1, 1], [8, 0, 7, 5, 6]), ([1, 0, 1, 1, 1], [7]), ([0, 1, 1, 1, 1], [4]), ([1, 1, 1, 1, 1], [4])]

noncomputable def porterref03_times_E (N : Nat) : Env := mkEnv tys glob [(96, porterref03_put_res N)] [] [] [] false

theorem porterref03_times_Eok (N : Nat) : EnvOk Go.Proofs.Tryd.prog (porterref03_times_E N) := mkEnv_ok mixed tys_ok (FnsOk.cons (porterref03_put_ct N) (FnsOk.nil))

noncomputable def porterref03_times_s1 (N : Nat) (d : (List Int)) (lo : Int) (hi : Int) (out : (List Int)) (i : Int) (rec : Int → Option (List Int)) (k0 : Option (List Int)) : Option (List Int) :=
  cond (decide (i < (((List.length d) : Nat) : Int)))
  (cond (Go.Lift.inR i (List.length d))
    ((porterref03_put N out i (Go.IntKind.wrap Go.IntKind.u64 ((List.getD d (Int.toNat i) (0 : Int)) * lo))).bind fun y =>
      cond (Go.Lift.inR i (List.length d))
      ((porterref03_put N out (Go.IntKind.wrap Go.IntKind.i64 (i + (1 : Int))) (Go.IntKind.wrap Go.IntKind.u64 ((List.getD d (Int.toNat i) (0 : Int)) * hi))).bind fun y1 =>
        rec (Go.IntKind.wrap Go.IntKind.i64 (i + (1 : Int))))
      (none))
    (none))
  (k0)

noncomputable def porterref03_times_p1 (N : Nat) (d : (List Int)) (lo : Int) (hi : Int) (out : (List Int)) (i : Int) (k0 : Option (List Int)) : Option (List Int) :=
  iter (fun (v : Int) r => porterref03_times_s1 N d lo hi out v (fun i => (r i)) k0) N i

noncomputable def porterref03_times_g1 (N : Nat) (i : ((List Int) × Int × Int × (List Int))) (v : Int) (r : Int → Option (List Int)) (K : Ex → List A → Option (List Int)) : Option (List Int) :=
  porterref03_times_s1 N i.1 i.2.1 i.2.2.1 i.2.2.2 v (fun i => (r i)) (K (.exit 0) (mkS [(7, .v (.sl (.int .u64)))] 35 (i.2.2.2, ())))

noncomputable def porterref03_times_h1 (N : Nat) : Hd (List Int) := fun st K => (unS [(0, .v (.sl (.int .u64))), (4, .v (.int .u64)), (0, .v (.int .u64)), (0, .v (.sl (.int .u64))), (0, .v (.int .i64))] 34 (restr [8, 0, 7, 5, 6] 0 st)).bind fun x => iter (fun v r => porterref03_times_g1 N ((fun x => (x.1, x.2.1, x.2.2.1, x.2.2.2.1)) x) v r K) N ((fun x => x.2.2.2.2.1) x)

noncomputable def porterref03_times_t1 (N : Nat) : Tab (List Int) := []

theorem porterref03_times_ok1 {N : Nat} {c : Ctx} (hb : Base Go.Proofs.Tryd.prog (porterref03_times_E N) c) : CodeOk Go.Proofs.Tryd.prog c (nodeAt porterref03_times_body [0, 1, 0, 1, 1, 1]) (porterref03_times_h1 N) :=
  loop_ok (s := [(0, .v (.sl (.int .u64))), (4, .v (.int .u64)), (0, .v (.int .u64)), (0, .v (.sl (.int .u64))), (0, .v (.int .i64))]) (m := 34) (porterref03_times_g1 N) [8, 0, 7, 5, 6] N (fun x => (x.1, x.2.1, x.2.2.1, x.2.2.2.1)) (fun x => x.2.2.2.2.1) (fun i v => (i.1, i.2.1, i.2.2.1, i.2.2.2, v, ())) (fun _ => rfl) (evN_sound hb N (porterref03_times_t1 N) porterref03_times_L porterref03_times_body TabOk.nil [0, 0, 1, 0, 1, 1, 1] _ rfl) (fun i v r K => by kernel_rfl)

noncomputable def porterref03_times (N : Nat) (d : (List Int)) (n : Int) : Option (List Int) :=
  cond (decide (((0 : Int) ≤ (Go.IntKind.wrap Go.IntKind.i64 ((((List.length d) : Nat) : Int) + (3 : Int)))) ∧ (((Go.IntKind.wrap Go.IntKind.i64 ((((List.length d) : Nat) : Int) + (3 : Int))) ≤ (Go.IntKind.wrap Go.IntKind.i64 ((((List.length d) : Nat) : Int) + (3 : Int)))) ∧ ((((Go.IntKind.wrap Go.IntKind.i64 ((((List.length d) : Nat) : Int) + (3 : Int))) * (8 : Int)) ≤ (281474976710656 : Int)) ∧ ((Go.IntKind.wrap Go.IntKind.i64 ((((List.length d) : Nat) : Int) + (3 : Int))) ≤ (9223372036854775807 : Int))))))
  (porterref03_times_p1 N d (Int.tmod n (4294967296 : Int)) (Go.IntKind.wrap Go.IntKind.u64 (Int.tdiv n (4294967296 : Int))) (List.replicate (Int.toNat (Go.IntKind.wrap Go.IntKind.i64 ((((List.length d) : Nat) : Int) + (3 : Int)))) (0 : Int)) (0 : Int)
    (some (List.replicate (Int.toNat (Go.IntKind.wrap Go.IntKind.i64 ((((List.length d) : Nat) : Int) + (3 : Int)))) (0 : Int))))
  (none)

noncomputable def porterref03_times_t (N : Nat) : Tab (List Int) := [([0, 1, 0, 1, 1, 1], porterref03_times_h1 N)]

theorem porterref03_times_link (N : Nat) (x : denS [(0, .v (.sl (.int .u64))), (0, .v (.int .u64))]) : evFX (porterref03_times_E N) N (porterref03_times_t N) porterref03_times_L Go.Proofs.Tryd.f91 (mkS [(0, .v (.sl (.int .u64))), (0, .v (.int .u64))] 0 x) (kRes (.v (.sl (.int .u64))) 2) = porterref03_times N x.1 x.2.1 := by kernel_rfl

noncomputable def porterref03_times_res (N : Nat) : List A → Res := resOf [(0, .v (.sl (.int .u64))), (0, .v (.int .u64))] (fun x => porterref03_times N x.1 x.2.1) (oRes (.v (.sl (.int .u64))) 2)

theorem porterref03_times_ct (N : Nat) : Contract Go.Proofs.Tryd.prog glob 91 (porterref03_times_res N) :=
  Contract.of (E := porterref03_times_E N) (H := porterref03_times_t N) (L := porterref03_times_L) (N := N) (body := porterref03_times_body) (K := (kRes (.v (.sl (.int .u64))) 2)) (porterref03_times_Eok N) Go.Proofs.Tryd.func91 (by kernel_rfl) (by decide) (fun _ hb => (TabOk.cons (porterref03_times_ok1 hb) TabOk.nil)) (fun x y h => by rw [porterref03_times_link]; exact h) (kRes_ok (s := (.v (.sl (.int .u64)))) (m := 2))

abbrev porterref03_below_R : Type := Bool

noncomputable def porterref03_below_body : Code := (Go.Proofs.Tryd.f85.body).getD .skip

noncomputable def porterref03_below_L : List (List Nat × List Nat) := [([0], [0, 1]), ([0, 1], [5, 1]), ([0, 1, 1], [5, 6, 1]), ([0, 0, 1, 1, 1], [7, 6, 5, 1]), ([0, 1, 0, 1, 1, 1], [7, 6, 5, 1]), ([0, 0, 0, 0, 1, 0, 1, 1, 1], [21, 6, 5, 7, 1]), ([1, 0, 0, 0, 1, 0, 1, 1, 1], [6, 5, 7, 1]), ([1, 1, 0, 0, 0, 1, 0, 1, 1, 1], [6, 5, 1]), ([0, 0, 1, 0, 0, 1, 0, 1, 1, 1], [7, 6, 5, 1]), ([0, 1, 0, 0, 1, 0, 1, 1, 1], [7, 6, 5, 1]), ([1, 1, 0, 0, 1, 0, 1, 1, 1], [7, 6, 5, 1]), ([1, 0, 1, 1, 1], [6, 5, 1]), ([0, 0, 1, 1, 1, 1], [38, 5, 1]), ([1, 0, 1, 1, 1, 1], [5, 1]), ([0, 0, 1, 0, 1, 1, 1, 1], [4]), ([1, 0, 1, 0, 1, 1, 1, 1], [4]), ([0, 1, 1, 1, 1, 1], [4]), ([1, 1, 1, 1, 1, 1], [4])]

noncomputable def porterref03_below_E (N : Nat) : Env := mkEnv tys glob [(91, porterref03_times_res N)] [] [] [] false

theorem porterref03_below_Eok (N : Nat) : EnvOk Go.Proofs.Tryd.prog (porterref03_below_E N) := mkEnv_ok mixed tys_ok (FnsOk.cons (porterref03_times_ct N) (FnsOk.nil))

noncomputable def porterref03_below_s1 (N : Nat) (p : Int) (c : (List Int)) (high : Int) (i : Int) (rec : Int → Int → Option Bool) (k0 : Int → Option Bool) : Option Bool :=
  cond (decide ((4 : Int) ≤ i))
  (cond (Go.Lift.inR i (List.length c))
    (rec (Go.IntKind.wrap Go.IntKind.u64 (high + (List.getD c (Int.toNat i) (0 : Int)))) (Go.IntKind.wrap Go.IntKind.i64 (i - (1 : Int))))
    (none))
  (k0 high)

noncomputable def porterref03_below_p1 (N : Nat) (p : Int) (c : (List Int)) (high : Int) (i : Int) (k0 : Int → Option Bool) : Option Bool :=
  iter (fun (v : (Int × Int)) r => porterref03_below_s1 N p c v.1 v.2 (fun high i => (r (high, i))) k0) N (high, i)

noncomputable def porterref03_below_g1 (N : Nat) (i : (Int × (List Int))) (v : (Int × Int)) (r : (Int × Int) → Option Bool) (K : Ex → List A → Option Bool) : Option Bool :=
  porterref03_below_s1 N i.1 i.2 v.1 v.2 (fun high i => (r (high, i))) (fun a2 => (K (.exit 0) (mkS [(1, .v (.int .u64)), (3, .v (.sl (.int .u64))), (0, .v (.int .u64))] 55 (i.1, i.2, a2, ()))))

noncomputable def porterref03_below_h1 (N : Nat) : Hd Bool := fun st K => (unS [(1, .v (.int .u64)), (3, .v (.sl (.int .u64))), (0, .v (.int .u64)), (0, .v (.int .i64))] 54 (restr [7, 6, 5, 1] 0 st)).bind fun x => iter (fun v r => porterref03_below_g1 N ((fun x => (x.1, x.2.1)) x) v r K) N ((fun x => (x.2.2.1, x.2.2.2.1)) x)

noncomputable def porterref03_below_t1 (N : Nat) : Tab Bool := []

theorem porterref03_below_ok1 {N : Nat} {c : Ctx} (hb : Base Go.Proofs.Tryd.prog (porterref03_below_E N) c) : CodeOk Go.Proofs.Tryd.prog c (nodeAt porterref03_below_body [0, 1, 0, 1, 1, 1]) (porterref03_below_h1 N) :=
  loop_ok (s := [(1, .v (.int .u64)), (3, .v (.sl (.int .u64))), (0, .v (.int .u64)), (0, .v (.int .i64))]) (m := 54) (porterref03_below_g1 N) [7, 6, 5, 1] N (fun x => (x.1, x.2.1)) (fun x => (x.2.2.1, x.2.2.2.1)) (fun i v => (i.1, i.2, v.1, v.2, ())) (fun _ => rfl) (evN_sound hb N (porterref03_below_t1 N) porterref03_below_L porterref03_below_body TabOk.nil [0, 0, 1, 0, 1, 1, 1] _ rfl) (fun i v r K => by kernel_rfl)

noncomputable def porterref03_below_p3 (N : Nat) (p : Int) (c : (List Int)) (high : Int) (k0 : Bool → Option Bool) : Option Bool :=
  cond (decide ((0 : Int) < high))
  (k0 true)
  (cond (Go.Lift.inR (3 : Int) (List.length c))
    (k0 (decide (p < (List.getD c 3 (0 : Int)))))
    (none))

noncomputable def porterref03_below_g3 (N : Nat) (x : denS [(1, .v (.int .u64)), (3, .v (.sl (.int .u64))), (0, .v (.int .u64))]) (K : Ex → List A → Option Bool) : Option Bool :=
  porterref03_below_p3 N x.1 x.2.1 x.2.2.1 (fun a2 => (K .normal (mkS [(1, .v (.int .u64)), (3, .v (.sl (.int .u64))), (32, .v .bool)] 23 (x.1, x.2.1, a2, ()))))

noncomputable def porterref03_below_h3 (N : Nat) : Hd Bool := fun st K => (unS [(1, .v (.int .u64)), (3, .v (.sl (.int .u64))), (0, .v (.int .u64))] 55 (restr [6, 5, 1] 0 st)).bind fun x => porterref03_below_g3 N x K

noncomputable def porterref03_below_t3 (N : Nat) : Tab Bool := []

theorem porterref03_below_ok3 {N : Nat} {c : Ctx} (hb : Base Go.Proofs.Tryd.prog (porterref03_below_E N) c) : CodeOk Go.Proofs.Tryd.prog c (nodeAt porterref03_below_body [0, 0, 1, 1, 1, 1]) (porterref03_below_h3 N) :=
  piece_ok (s := [(1, .v (.int .u64)), (3, .v (.sl (.int .u64))), (0, .v (.int .u64))]) (m := 55) (g := porterref03_below_g3 N) [6, 5, 1] (evN_sound hb N (porterref03_below_t3 N) porterref03_below_L porterref03_below_body TabOk.nil [0, 0, 1, 1, 1, 1] _ rfl) (fun x K => by kernel_rfl)

noncomputable def porterref03_below_p2 (N : Nat) (p : Int) (c : (List Int)) (high : Int) (k0 : Bool → Option Bool) (k1 : Option Bool) : Option Bool :=
  porterref03_below_p3 N p c high
  (fun x38 => cond x38
    (k0 false)
    (k1))

noncomputable def porterref03_below_g2 (N : Nat) (x : denS [(1, .v (.int .u64)), (3, .v (.sl (.int .u64))), (0, .v (.int .u64))]) (K : Ex → List A → Option Bool) : Option Bool :=
  porterref03_below_p2 N x.1 x.2.1 x.2.2.1 (fun a0 => (K .ret (mkS [(4, .v .bool)] 57 (a0, ())))) (K .normal (mkS [(1, .v (.int .u64)), (3, .v (.sl (.int .u64)))] 56 (x.1, x.2.1, ())))

noncomputable def porterref03_below_h2 (N : Nat) : Hd Bool := fun st K => (unS [(1, .v (.int .u64)), (3, .v (.sl (.int .u64))), (0, .v (.int .u64))] 55 (restr [6, 5, 1] 0 st)).bind fun x => porterref03_below_g2 N x K

noncomputable def porterref03_below_t2 (N : Nat) : Tab Bool := [([0, 0, 1, 1, 1, 1], porterref03_below_h3 N)]

theorem porterref03_below_ok2 {N : Nat} {c : Ctx} (hb : Base Go.Proofs.Tryd.prog (porterref03_below_E N) c) : CodeOk Go.Proofs.Tryd.prog c (nodeAt porterref03_below_body [0, 1, 1, 1, 1]) (porterref03_below_h2 N) :=
  piece_ok (s := [(1, .v (.int .u64)), (3, .v (.sl (.int .u64))), (0, .v (.int .u64))]) (m := 55) (g := porterref03_below_g2 N) [6, 5, 1] (evN_sound hb N (porterref03_below_t2 N) porterref03_below_L porterref03_below_body (TabOk.cons (porterref03_below_ok3 hb) TabOk.nil) [0, 1, 1, 1, 1] _ rfl) (fun x K => by kernel_rfl)

noncomputable def porterref03_below (N : Nat) (n : Int) (p : Int) : Option Bool :=
  (porterref03_times N ([(Int.tmod n (4294967296 : Int)), (Go.IntKind.wrap Go.IntKind.u64 (Int.tdiv n (4294967296 : Int)))] : List Int) n).bind fun y =>
  (porterref03_times N y n).bind fun y1 =>
  porterref03_below_p1 N p y1 (0 : Int) (Go.IntKind.wrap Go.IntKind.i64 ((((List.length y1) : Nat) : Int) - (1 : Int)))
  (fun high => porterref03_below_p2 N p y1 high
    (fun x4 => some x4)
    (cond (Go.Lift.inR (3 : Int) (List.length y1))
      (cond (decide ((List.getD y1 3 (0 : Int)) < p))
        (some true)
        (cond (Go.Lift.inR (0 : Int) (List.length y1))
          (cond ((List.getD y1 0 (0 : Int)) == (0 : Int))
            (cond (Go.Lift.inR (1 : Int) (List.length y1))
              (cond ((List.getD y1 1 (0 : Int)) == (0 : Int))
                (cond (Go.Lift.inR (2 : Int) (List.length y1))
                  (some ((List.getD y1 2 (0 : Int)) == (0 : Int)))
                  (none))
                (some false))
              (none))
            (some false))
          (none)))
      (none)))

noncomputable def porterref03_below_t (N : Nat) : Tab Bool := [([0, 1, 0, 1, 1, 1], porterref03_below_h1 N), ([0, 1, 1, 1, 1], porterref03_below_h2 N)]

theorem porterref03_below_link (N : Nat) (x : denS [(0, .v (.int .u64)), (0, .v (.int .u64))]) : evFX (porterref03_below_E N) N (porterref03_below_t N) porterref03_below_L Go.Proofs.Tryd.f85 (mkS [(0, .v (.int .u64)), (0, .v (.int .u64))] 0 x) (kRes (.v .bool) 2) = porterref03_below N x.1 x.2.1 := by kernel_rfl

noncomputable def porterref03_below_res (N : Nat) : List A → Res := resOf [(0, .v (.int .u64)), (0, .v (.int .u64))] (fun x => porterref03_below N x.1 x.2.1) (oRes (.v .bool) 2)

theorem porterref03_below_ct (N : Nat) : Contract Go.Proofs.Tryd.prog glob 85 (porterref03_below_res N) :=
  Contract.of (E := porterref03_below_E N) (H := porterref03_below_t N) (L := porterref03_below_L) (N := N) (body := porterref03_below_body) (K := (kRes (.v .bool) 2)) (porterref03_below_Eok N) Go.Proofs.Tryd.func85 (by kernel_rfl) (by decide) (fun _ hb => (TabOk.cons (porterref03_below_ok1 hb) (TabOk.cons (porterref03_below_ok2 hb) TabOk.nil))) (fun x y h => by rw [porterref03_below_link]; exact h) (kRes_ok (s := (.v .bool)) (m := 2))

abbrev porterref03_root_R : Type := Int

noncomputable def porterref03_root_body : Code := (Go.Proofs.Tryd.f74.body).getD .skip

noncomputable def porterref03_root_L : List (List Nat × List Nat) := [([0], [0]), ([0, 1], [3, 0]), ([0, 0, 1, 1], [4, 3, 0]), ([0, 1, 0, 1, 1], [4, 3, 0]), ([0, 0, 0, 0, 1, 0, 1, 1], [7, 3, 4, 0]), ([1, 0, 0, 0, 1, 0, 1, 1], [3, 4, 0]), ([1, 1, 0, 0, 0, 1, 0, 1, 1], [3]), ([0, 0, 0, 1, 0, 0, 1, 0, 1, 1], [5, 0, 4, 3]), ([0, 1, 0, 0, 1, 0, 0, 1, 0, 1, 1], [18, 5, 4, 0, 3]), ([1, 1, 0, 0, 1, 0, 0, 1, 0, 1, 1], [4, 3, 0]), ([0, 1, 1, 0, 0, 1, 0, 0, 1, 0, 1, 1], [4, 3, 0]), ([0, 1, 0, 0, 1, 0, 1, 1], [4, 3, 0]), ([1, 1, 0, 0, 1, 0, 1, 1], [4, 3, 0]), ([1, 0, 1, 1], [3]), ([0, 1, 1, 1], [2]), ([1, 1, 1, 1], [2])]

noncomputable def porterref03_root_E (N : Nat) : Env := mkEnv tys glob [(85, porterref03_below_res N)] [] [] [] false

theorem porterref03_root_Eok (N : Nat) : EnvOk Go.Proofs.Tryd.prog (porterref03_root_E N) := mkEnv_ok mixed tys_ok (FnsOk.cons (porterref03_below_ct N) (FnsOk.nil))

noncomputable def porterref03_root_p2 (N : Nat) (p : Int) (k : Int) (bit : Int) (k0 : Int → Option Int) : Option Int :=
  cond (decide ((0 : Int) ≤ (Go.IntKind.wrap Go.IntKind.u64 bit)))
  ((porterref03_below N (Go.IntKind.wrap Go.IntKind.u64 (k + (Go.Lift.shlI Go.IntKind.u64 (1 : Int) (Go.IntKind.wrap Go.IntKind.u64 bit)))) (Go.IntKind.wrap Go.IntKind.u64 p)).bind fun y =>
    cond y
    (k0 (Go.IntKind.wrap Go.IntKind.u64 (k + (Go.Lift.shlI Go.IntKind.u64 (1 : Int) (Go.IntKind.wrap Go.IntKind.u64 bit)))))
    (k0 k))
  (none)

noncomputable def porterref03_root_g2 (N : Nat) (x : denS [(0, .v (.int .i64)), (2, .v (.int .u64)), (0, .v (.int .i64))]) (K : Ex → List A → Option Int) : Option Int :=
  porterref03_root_p2 N x.1 x.2.1 x.2.2.1 (fun a1 => (K .normal (mkS [(0, .v (.int .i64)), (2, .v (.int .u64)), (0, .v (.int .i64))] 18 (x.1, a1, x.2.2.1, ()))))

noncomputable def porterref03_root_h2 (N : Nat) : Hd Int := fun st K => (unS [(0, .v (.int .i64)), (2, .v (.int .u64)), (0, .v (.int .i64))] 18 (restr [3, 4, 0] 0 st)).bind fun x => porterref03_root_g2 N x K

noncomputable def porterref03_root_t2 (N : Nat) : Tab Int := []

theorem porterref03_root_ok2 {N : Nat} {c : Ctx} (hb : Base Go.Proofs.Tryd.prog (porterref03_root_E N) c) : CodeOk Go.Proofs.Tryd.prog c (nodeAt porterref03_root_body [0, 1, 0, 0, 1, 0, 1, 1]) (porterref03_root_h2 N) :=
  piece_ok (s := [(0, .v (.int .i64)), (2, .v (.int .u64)), (0, .v (.int .i64))]) (m := 18) (g := porterref03_root_g2 N) [3, 4, 0] (evN_sound hb N (porterref03_root_t2 N) porterref03_root_L porterref03_root_body TabOk.nil [0, 1, 0, 0, 1, 0, 1, 1] _ rfl) (fun x K => by kernel_rfl)

noncomputable def porterref03_root_s1 (N : Nat) (p : Int) (k : Int) (bit : Int) (rec : Int → Int → Option Int) (k0 : Int → Option Int) : Option Int :=
  cond (decide ((0 : Int) ≤ bit))
  (porterref03_root_p2 N p k bit
    (fun k1 => rec k1 (Go.IntKind.wrap Go.IntKind.i64 (bit - (1 : Int)))))
  (k0 k)

noncomputable def porterref03_root_p1 (N : Nat) (p : Int) (k : Int) (bit : Int) (k0 : Int → Option Int) : Option Int :=
  iter (fun (v : (Int × Int)) r => porterref03_root_s1 N p v.1 v.2 (fun k bit => (r (k, bit))) k0) N (k, bit)

noncomputable def porterref03_root_g1 (N : Nat) (i : Int) (v : (Int × Int)) (r : (Int × Int) → Option Int) (K : Ex → List A → Option Int) : Option Int :=
  porterref03_root_s1 N i v.1 v.2 (fun k bit => (r (k, bit))) (fun a0 => (K (.exit 0) (mkS [(3, .v (.int .u64))] 19 (a0, ()))))

noncomputable def porterref03_root_h1 (N : Nat) : Hd Int := fun st K => (unS [(0, .v (.int .i64)), (2, .v (.int .u64)), (0, .v (.int .i64))] 18 (restr [4, 3, 0] 0 st)).bind fun x => iter (fun v r => porterref03_root_g1 N ((fun x => x.1) x) v r K) N ((fun x => (x.2.1, x.2.2.1)) x)

noncomputable def porterref03_root_t1 (N : Nat) : Tab Int := [([0, 1, 0, 0, 1, 0, 1, 1], porterref03_root_h2 N)]

theorem porterref03_root_ok1 {N : Nat} {c : Ctx} (hb : Base Go.Proofs.Tryd.prog (porterref03_root_E N) c) : CodeOk Go.Proofs.Tryd.prog c (nodeAt porterref03_root_body [0, 1, 0, 1, 1]) (porterref03_root_h1 N) :=
  loop_ok (s := [(0, .v (.int .i64)), (2, .v (.int .u64)), (0, .v (.int .i64))]) (m := 18) (porterref03_root_g1 N) [4, 3, 0] N (fun x => x.1) (fun x => (x.2.1, x.2.2.1)) (fun i v => (i, v.1, v.2, ())) (fun _ => rfl) (evN_sound hb N (porterref03_root_t1 N) porterref03_root_L porterref03_root_body (TabOk.cons (porterref03_root_ok2 hb) TabOk.nil) [0, 0, 1, 0, 1, 1] _ rfl) (fun i v r K => by kernel_rfl)

noncomputable def porterref03_root (N : Nat) (p : Int) : Option Int :=
  porterref03_root_p1 N p (0 : Int) (35 : Int)
  (fun k => some (Go.IntKind.wrap Go.IntKind.u32 (Int.tmod k (4294967296 : Int))))

noncomputable def porterref03_root_t (N : Nat) : Tab Int := [([0, 1, 0, 1, 1], porterref03_root_h1 N)]

theorem porterref03_root_link (N : Nat) (x : denS [(0, .v (.int .i64))]) : evFX (porterref03_root_E N) N (porterref03_root_t N) porterref03_root_L Go.Proofs.Tryd.f74 (mkS [(0, .v (.int .i64))] 0 x) (kRes (.v (.int .u32)) 1) = porterref03_root N x.1 := by kernel_rfl

noncomputable def porterref03_root_res (N : Nat) : List A → Res := resOf [(0, .v (.int .i64))] (fun x => porterref03_root N x.1) (oRes (.v (.int .u32)) 1)

theorem porterref03_root_ct (N : Nat) : Contract Go.Proofs.Tryd.prog glob 74 (porterref03_root_res N) :=
  Contract.of (E := porterref03_root_E N) (H := porterref03_root_t N) (L := porterref03_root_L) (N := N) (body := porterref03_root_body) (K := (kRes (.v (.int .u32)) 1)) (porterref03_root_Eok N) Go.Proofs.Tryd.func74 (by kernel_rfl) (by decide) (fun _ hb => (TabOk.cons (porterref03_root_ok1 hb) TabOk.nil)) (fun x y h => by rw [porterref03_root_link]; exact h) (kRes_ok (s := (.v (.int .u32))) (m := 1))

abbrev porterref03_Constants_R : Type := (List Int)

noncomputable def porterref03_Constants_body : Code := (Go.Proofs.Tryd.f54.body).getD .skip

noncomputable def porterref03_Constants_L : List (List Nat × List Nat) := [([0], []), ([0, 1], [1]), ([0, 0, 1, 1], [1, 2]), ([0, 1, 0, 1, 1], [1, 2]), ([0, 0, 0, 0, 1, 0, 1, 1], [11, 2, 1]), ([1, 0, 0, 0, 1, 0, 1, 1], [2, 1]), ([1, 1, 0, 0, 0, 1, 0, 1, 1], [1]), ([0, 0, 0, 1, 0, 0, 1, 0, 1, 1], [2, 3, 1]), ([0, 0, 1, 0, 0, 1, 0, 0, 1, 0, 1, 1], [4, 2, 3, 1]), ([0, 1, 0, 1, 0, 0, 1, 0, 0, 1, 0, 1, 1], [4, 2, 3, 1]), ([0, 0, 0, 0, 1, 0, 1, 0, 0, 1, 0, 0, 1, 0, 1, 1], [16, 3, 2, 4, 1]), ([1, 0, 0, 0, 1, 0, 1, 0, 0, 1, 0, 0, 1, 0, 1, 1], [3, 2, 4, 1]), ([1, 1, 0, 0, 0, 1, 0, 1, 0, 0, 1, 0, 0, 1, 0, 1, 1], [3, 1, 2]), ([0, 0, 1, 0, 0, 1, 0, 1, 0, 0, 1, 0, 0, 1, 0, 1, 1], [4, 2, 3, 1]), ([0, 1, 0, 0, 1, 0, 1, 0, 0, 1, 0, 0, 1, 0, 1, 1], [4, 2, 3, 1]), ([1, 1, 0, 0, 1, 0, 1, 0, 0, 1, 0, 0, 1, 0, 1, 1], [4, 2, 3, 1]), ([1, 0, 1, 0, 0, 1, 0, 0, 1, 0, 1, 1], [3, 1, 2]), ([0, 1, 1, 0, 0, 1, 0, 0, 1, 0, 1, 1], [26, 1, 2]), ([1, 1, 1, 0, 0, 1, 0, 0, 1, 0, 1, 1], [2, 1]), ([0, 1, 1, 1, 0, 0, 1, 0, 0, 1, 0, 1, 1], [2, 1]), ([0, 1, 0, 0, 1, 0, 1, 1], [2, 1]), ([1, 1, 0, 0, 1, 0, 1, 1], [1, 2]), ([1, 0, 1, 1], [1]), ([0, 1, 1, 1], [0]), ([1, 1, 1, 1], [0])]

noncomputable def porterref03_Constants_E (N : Nat) : Env := mkEnv tys glob [(74, porterref03_root_res N)] [(1, (.int .u32)), (0, (.int .u32))] [] [] false

theorem porterref03_Constants_Eok (N : Nat) : EnvOk Go.Proofs.Tryd.prog (porterref03_Constants_E N) := mkEnv_ok mixed tys_ok (FnsOk.cons (porterref03_root_ct N) (FnsOk.nil))

noncomputable def porterref03_Constants_p2 (N : Nat) (out : (List Int)) (p : Int) (k0 : Option (List Int)) (k1 : Option (List Int)) : Option (List Int) :=
  cond (decide ((((List.length out) : Nat) : Int) < (64 : Int)))
  (cond (decide (p < (400 : Int)))
    (k0)
    (k1))
  (k1)

noncomputable def porterref03_Constants_g2 (N : Nat) (x : denS [(1, .row (.int .u32)), (0, .v (.int .i64))]) (K : Ex → List A → Option (List Int)) : Option (List Int) :=
  porterref03_Constants_p2 N x.1 x.2.1 (K .normal (mkS [(1, .row (.int .u32)), (0, .v (.int .i64))] 30 (x.1, x.2.1, ()))) (K (.exit 0) (mkS [(1, .row (.int .u32))] 31 (x.1, ())))

noncomputable def porterref03_Constants_h2 (N : Nat) : Hd (List Int) := fun st K => (unS [(1, .row (.int .u32)), (0, .v (.int .i64))] 30 (restr [1, 2] 0 st)).bind fun x => porterref03_Constants_g2 N x K

noncomputable def porterref03_Constants_t2 (N : Nat) : Tab (List Int) := []

theorem porterref03_Constants_ok2 {N : Nat} {c : Ctx} (hb : Base Go.Proofs.Tryd.prog (porterref03_Constants_E N) c) : CodeOk Go.Proofs.Tryd.prog c (nodeAt porterref03_Constants_body [0, 0, 0, 1, 0, 1, 1]) (porterref03_Constants_h2 N) :=
  piece_ok (s := [(1, .row (.int .u32)), (0, .v (.int .i64))]) (m := 30) (g := porterref03_Constants_g2 N) [1, 2] (evN_sound hb N (porterref03_Constants_t2 N) porterref03_Constants_L porterref03_Constants_body TabOk.nil [0, 0, 0, 1, 0, 1, 1] _ rfl) (fun x K => by kernel_rfl)

noncomputable def porterref03_Constants_p5 (N : Nat) (out : (List Int)) (p : Int) (prime : Bool) (d : Int) (k0 : Bool → Option (List Int)) : Option (List Int) :=
  cond prime
  (cond (d == (0 : Int))
    (none)
    (k0 ((Int.tmod p d) != (0 : Int))))
  (k0 false)

noncomputable def porterref03_Constants_g5 (N : Nat) (x : denS [(1, .row (.int .u32)), (0, .v (.int .i64)), (0, .v .bool), (0, .v (.int .i64))]) (K : Ex → List A → Option (List Int)) : Option (List Int) :=
  porterref03_Constants_p5 N x.1 x.2.1 x.2.2.1 x.2.2.2.1 (fun a2 => (K .normal (mkS [(1, .row (.int .u32)), (0, .v (.int .i64)), (0, .v .bool), (0, .v (.int .i64))] 28 (x.1, x.2.1, a2, x.2.2.2.1, ()))))

noncomputable def porterref03_Constants_h5 (N : Nat) : Hd (List Int) := fun st K => (unS [(1, .row (.int .u32)), (0, .v (.int .i64)), (0, .v .bool), (0, .v (.int .i64))] 28 (restr [3, 2, 4, 1] 0 st)).bind fun x => porterref03_Constants_g5 N x K

noncomputable def porterref03_Constants_t5 (N : Nat) : Tab (List Int) := []

theorem porterref03_Constants_ok5 {N : Nat} {c : Ctx} (hb : Base Go.Proofs.Tryd.prog (porterref03_Constants_E N) c) : CodeOk Go.Proofs.Tryd.prog c (nodeAt porterref03_Constants_body [0, 1, 0, 0, 1, 0, 1, 0, 0, 1, 0, 0, 1, 0, 1, 1]) (porterref03_Constants_h5 N) :=
  piece_ok (s := [(1, .row (.int .u32)), (0, .v (.int .i64)), (0, .v .bool), (0, .v (.int .i64))]) (m := 28) (g := porterref03_Constants_g5 N) [3, 2, 4, 1] (evN_sound hb N (porterref03_Constants_t5 N) porterref03_Constants_L porterref03_Constants_body TabOk.nil [0, 1, 0, 0, 1, 0, 1, 0, 0, 1, 0, 0, 1, 0, 1, 1] _ rfl) (fun x K => by kernel_rfl)

noncomputable def porterref03_Constants_s4 (N : Nat) (out : (List Int)) (p : Int) (prime : Bool) (d : Int) (rec : Bool → Int → Option (List Int)) (k0 : Bool → Option (List Int)) : Option (List Int) :=
  cond (decide (d < p))
  (porterref03_Constants_p5 N out p prime d
    (fun prime1 => rec prime1 (Go.IntKind.wrap Go.IntKind.i64 (d + (1 : Int)))))
  (k0 prime)

noncomputable def porterref03_Constants_p4 (N : Nat) (out : (List Int)) (p : Int) (prime : Bool) (d : Int) (k0 : Bool → Option (List Int)) : Option (List Int) :=
  iter (fun (v : (Bool × Int)) r => porterref03_Constants_s4 N out p v.1 v.2 (fun prime d => (r (prime, d))) k0) N (prime, d)

noncomputable def porterref03_Constants_g4 (N : Nat) (i : ((List Int) × Int)) (v : (Bool × Int)) (r : (Bool × Int) → Option (List Int)) (K : Ex → List A → Option (List Int)) : Option (List Int) :=
  porterref03_Constants_s4 N i.1 i.2 v.1 v.2 (fun prime d => (r (prime, d))) (fun a2 => (K (.exit 2) (mkS [(1, .row (.int .u32)), (0, .v (.int .i64)), (0, .v .bool)] 29 (i.1, i.2, a2, ()))))

noncomputable def porterref03_Constants_h4 (N : Nat) : Hd (List Int) := fun st K => (unS [(1, .row (.int .u32)), (0, .v (.int .i64)), (0, .v .bool), (0, .v (.int .i64))] 28 (restr [4, 2, 3, 1] 0 st)).bind fun x => iter (fun v r => porterref03_Constants_g4 N ((fun x => (x.1, x.2.1)) x) v r K) N ((fun x => (x.2.2.1, x.2.2.2.1)) x)

noncomputable def porterref03_Constants_t4 (N : Nat) : Tab (List Int) := [([0, 1, 0, 0, 1, 0, 1, 0, 0, 1, 0, 0, 1, 0, 1, 1], porterref03_Constants_h5 N)]

theorem porterref03_Constants_ok4 {N : Nat} {c : Ctx} (hb : Base Go.Proofs.Tryd.prog (porterref03_Constants_E N) c) : CodeOk Go.Proofs.Tryd.prog c (nodeAt porterref03_Constants_body [0, 1, 0, 1, 0, 0, 1, 0, 0, 1, 0, 1, 1]) (porterref03_Constants_h4 N) :=
  loop_ok (s := [(1, .row (.int .u32)), (0, .v (.int .i64)), (0, .v .bool), (0, .v (.int .i64))]) (m := 28) (porterref03_Constants_g4 N) [4, 2, 3, 1] N (fun x => (x.1, x.2.1)) (fun x => (x.2.2.1, x.2.2.2.1)) (fun i v => (i.1, i.2, v.1, v.2, ())) (fun _ => rfl) (evN_sound hb N (porterref03_Constants_t4 N) porterref03_Constants_L porterref03_Constants_body (TabOk.cons (porterref03_Constants_ok5 hb) TabOk.nil) [0, 0, 1, 0, 1, 0, 0, 1, 0, 0, 1, 0, 1, 1] _ rfl) (fun i v r K => by kernel_rfl)

noncomputable def porterref03_Constants_p3 (N : Nat) (out : (List Int)) (p : Int) (k0 : (List Int) → Option (List Int)) : Option (List Int) :=
  porterref03_Constants_p4 N out p true (2 : Int)
  (fun prime => cond prime
    ((porterref03_root N p).bind fun y =>
      cond (decide ((((List.length out) + 1) * 4) ≤ 70368744177664))
      (k0 (out ++ ([y] : List Int)))
      (none))
    (k0 out))

noncomputable def porterref03_Constants_g3 (N : Nat) (x : denS [(1, .row (.int .u32)), (0, .v (.int .i64))]) (K : Ex → List A → Option (List Int)) : Option (List Int) :=
  porterref03_Constants_p3 N x.1 x.2.1 (fun a0 => (K .normal (mkS [(1, .row (.int .u32)), (0, .v (.int .i64))] 30 (a0, x.2.1, ()))))

noncomputable def porterref03_Constants_h3 (N : Nat) : Hd (List Int) := fun st K => (unS [(1, .row (.int .u32)), (0, .v (.int .i64))] 30 (restr [2, 1] 0 st)).bind fun x => porterref03_Constants_g3 N x K

noncomputable def porterref03_Constants_t3 (N : Nat) : Tab (List Int) := [([0, 1, 0, 1, 0, 0, 1, 0, 0, 1, 0, 1, 1], porterref03_Constants_h4 N)]

theorem porterref03_Constants_ok3 {N : Nat} {c : Ctx} (hb : Base Go.Proofs.Tryd.prog (porterref03_Constants_E N) c) : CodeOk Go.Proofs.Tryd.prog c (nodeAt porterref03_Constants_body [0, 1, 0, 0, 1, 0, 1, 1]) (porterref03_Constants_h3 N) :=
  piece_ok (s := [(1, .row (.int .u32)), (0, .v (.int .i64))]) (m := 30) (g := porterref03_Constants_g3 N) [2, 1] (evN_sound hb N (porterref03_Constants_t3 N) porterref03_Constants_L porterref03_Constants_body (TabOk.cons (porterref03_Constants_ok4 hb) TabOk.nil) [0, 1, 0, 0, 1, 0, 1, 1] _ rfl) (fun x K => by kernel_rfl)

noncomputable def porterref03_Constants_s1 (N : Nat) (out : (List Int)) (p : Int) (rec : (List Int) → Int → Option (List Int)) (k0 : (List Int) → Option (List Int)) : Option (List Int) :=
  porterref03_Constants_p2 N out p
  (porterref03_Constants_p3 N out p
    (fun out1 => rec out1 (Go.IntKind.wrap Go.IntKind.i64 (p + (1 : Int)))))
  (k0 out)

noncomputable def porterref03_Constants_p1 (N : Nat) (out : (List Int)) (p : Int) (k0 : (List Int) → Option (List Int)) : Option (List Int) :=
  iter (fun (v : ((List Int) × Int)) r => porterref03_Constants_s1 N v.1 v.2 (fun out p => (r (out, p))) k0) N (out, p)

noncomputable def porterref03_Constants_g1 (N : Nat) (i : Unit) (v : ((List Int) × Int)) (r : ((List Int) × Int) → Option (List Int)) (K : Ex → List A → Option (List Int)) : Option (List Int) :=
  porterref03_Constants_s1 N v.1 v.2 (fun out p => (r (out, p))) (fun a0 => (K (.exit 0) (mkS [(1, .row (.int .u32))] 31 (a0, ()))))

noncomputable def porterref03_Constants_h1 (N : Nat) : Hd (List Int) := fun st K => (unS [(1, .row (.int .u32)), (0, .v (.int .i64))] 30 (restr [1, 2] 0 st)).bind fun x => iter (fun v r => porterref03_Constants_g1 N ((fun x => ()) x) v r K) N ((fun x => (x.1, x.2.1)) x)

noncomputable def porterref03_Constants_t1 (N : Nat) : Tab (List Int) := [([0, 0, 0, 1, 0, 1, 1], porterref03_Constants_h2 N), ([0, 1, 0, 0, 1, 0, 1, 1], porterref03_Constants_h3 N)]

theorem porterref03_Constants_ok1 {N : Nat} {c : Ctx} (hb : Base Go.Proofs.Tryd.prog (porterref03_Constants_E N) c) : CodeOk Go.Proofs.Tryd.prog c (nodeAt porterref03_Constants_body [0, 1, 0, 1, 1]) (porterref03_Constants_h1 N) :=
  loop_ok (s := [(1, .row (.int .u32)), (0, .v (.int .i64))]) (m := 30) (porterref03_Constants_g1 N) [1, 2] N (fun x => ()) (fun x => (x.1, x.2.1)) (fun i v => (v.1, v.2, ())) (fun _ => rfl) (evN_sound hb N (porterref03_Constants_t1 N) porterref03_Constants_L porterref03_Constants_body (TabOk.cons (porterref03_Constants_ok2 hb) (TabOk.cons (porterref03_Constants_ok3 hb) TabOk.nil)) [0, 0, 1, 0, 1, 1] _ rfl) (fun i v r K => by kernel_rfl)

noncomputable def porterref03_Constants (N : Nat) : Option (List Int) :=
  porterref03_Constants_p1 N ([] : List Int) (2 : Int)
  (fun out => some out)

noncomputable def porterref03_Constants_t (N : Nat) : Tab (List Int) := [([0, 1, 0, 1, 1], porterref03_Constants_h1 N)]

theorem porterref03_Constants_link (N : Nat) (x : denS []) : evFX (porterref03_Constants_E N) N (porterref03_Constants_t N) porterref03_Constants_L Go.Proofs.Tryd.f54 (mkS [] 0 x) (kRes (.v (.sl (.int .u32))) 0) = porterref03_Constants N := by kernel_rfl

noncomputable def porterref03_Constants_res (N : Nat) : List A → Res := resOf [] (fun x => porterref03_Constants N) (oRes (.v (.sl (.int .u32))) 0)

theorem porterref03_Constants_ct (N : Nat) : Contract Go.Proofs.Tryd.prog glob 54 (porterref03_Constants_res N) :=
  Contract.of (E := porterref03_Constants_E N) (H := porterref03_Constants_t N) (L := porterref03_Constants_L) (N := N) (body := porterref03_Constants_body) (K := (kRes (.v (.sl (.int .u32))) 0)) (porterref03_Constants_Eok N) Go.Proofs.Tryd.func54 (by kernel_rfl) (by decide) (fun _ hb => (TabOk.cons (porterref03_Constants_ok1 hb) TabOk.nil)) (fun x y h => by rw [porterref03_Constants_link]; exact h) (kRes_ok (s := (.v (.sl (.int .u32)))) (m := 0))

abbrev porterref03_Step_R : Type := (List Int)

noncomputable def porterref03_Step_body : Code := (Go.Proofs.Tryd.f19.body).getD .skip

noncomputable def porterref03_Step_L : List (List Nat × List Nat) := [([0], [1, 2, 4]), ([0, 0, 1], [7, 2, 4, 1]), ([1, 0, 1], [2, 1, 4]), ([0, 0, 1, 0, 1], [4]), ([1, 0, 1, 0, 1], [4]), ([0, 1, 1], [4]), ([1, 1, 1], [4])]

noncomputable def porterref03_Step_E (N : Nat) : Env := mkEnv tys glob [(54, porterref03_Constants_res N), (50, porterref03_step_res N)] [] [] [] false

theorem porterref03_Step_Eok (N : Nat) : EnvOk Go.Proofs.Tryd.prog (porterref03_Step_E N) := mkEnv_ok mixed tys_ok (FnsOk.cons (porterref03_Constants_ct N) (FnsOk.cons (porterref03_step_ct N) (FnsOk.nil)))

noncomputable def porterref03_Step (N : Nat) (h : (List Int)) (block : (List UInt8)) : Option (List Int) :=
  cond ((((List.length block) : Nat) : Int) != (64 : Int))
  (some h)
  ((porterref03_Constants N).bind fun y =>
    (porterref03_step N h block (0 : Int) y).bind fun y1 =>
    some y1)

noncomputable def porterref03_Step_t (N : Nat) : Tab (List Int) := []

theorem porterref03_Step_link (N : Nat) (x : denS [(0, .v (.arr 8 (.int .u32))), (0, .v .str)]) : evFX (porterref03_Step_E N) N (porterref03_Step_t N) porterref03_Step_L Go.Proofs.Tryd.f19 (mkS [(0, .v (.arr 8 (.int .u32))), (0, .v .str)] 0 x) (kRes (.v (.arr 8 (.int .u32))) 2) = porterref03_Step N x.1 x.2.1 := by kernel_rfl

noncomputable def porterref03_Step_res (N : Nat) : List A → Res := resOf [(0, .v (.arr 8 (.int .u32))), (0, .v .str)] (fun x => porterref03_Step N x.1 x.2.1) (oRes (.v (.arr 8 (.int .u32))) 2)

theorem porterref03_Step_ct (N : Nat) : Contract Go.Proofs.Tryd.prog glob 19 (porterref03_Step_res N) :=
  Contract.of (E := porterref03_Step_E N) (H := porterref03_Step_t N) (L := porterref03_Step_L) (N := N) (body := porterref03_Step_body) (K := (kRes (.v (.arr 8 (.int .u32))) 2)) (porterref03_Step_Eok N) Go.Proofs.Tryd.func19 (by kernel_rfl) (by decide) (fun _ hb => TabOk.nil) (fun x y h => by rw [porterref03_Step_link]; exact h) (kRes_ok (s := (.v (.arr 8 (.int .u32)))) (m := 2))

abbrev porterlaw03_ShaSteps_R : Type := Bool

noncomputable def porterlaw03_ShaSteps_body : Code := (Go.Proofs.Tryd.f4.body).getD .skip

noncomputable def porterlaw03_ShaSteps_L : List (List Nat × List Nat) := [([0], [1, 2]), ([0, 0, 1], [7, 2, 1]), ([1, 0, 1], [2, 1]), ([0, 0, 1, 0, 1], [4]), ([1, 0, 1, 0, 1], [4]), ([0, 1, 1], [4]), ([1, 1, 1], [4])]

noncomputable def porterlaw03_ShaSteps_E (N : Nat) : Env := mkEnv tys glob [(19, porterref03_Step_res N), (21, porterref03_Tell_res N), (23, porterref03_First_res N), (13, porterlaw03_works_res N), (20, sha_Tell_res N), (18, sha_Step_res N), (22, sha_First_res N)] [] [] [] false

theorem porterlaw03_ShaSteps_Eok (N : Nat) : EnvOk Go.Proofs.Tryd.prog (porterlaw03_ShaSteps_E N) := mkEnv_ok mixed tys_ok (FnsOk.cons (porterref03_Step_ct N) (FnsOk.cons (porterref03_Tell_ct N) (FnsOk.cons (porterref03_First_ct N) (FnsOk.cons (porterlaw03_works_ct N) (FnsOk.cons (sha_Tell_ct N) (FnsOk.cons (sha_Step_ct N) (FnsOk.cons (sha_First_ct N) (FnsOk.nil))))))))

noncomputable def porterlaw03_ShaSteps (N : Nat) (h : (List Int)) (block : (List UInt8)) : Option Bool :=
  cond (decide ((200 : Int) < (((List.length block) : Nat) : Int)))
  ((porterlaw03_works N).bind fun y =>
    some y)
  ((sha_Step N h block).bind fun y1 =>
    (porterref03_Step N h block).bind fun y2 =>
    cond (Go.Lift.eqD (Go.Lift.T.arr 8 (Go.Lift.T.int Go.IntKind.u32)) y1 y2)
    ((sha_Tell N h).bind fun y3 =>
      (porterref03_Tell N h).bind fun y4 =>
      cond (y3 == y4)
      ((porterlaw03_works N).bind fun y5 =>
        some y5)
      (some false))
    (some false))

noncomputable def porterlaw03_ShaSteps_t (N : Nat) : Tab Bool := []

theorem porterlaw03_ShaSteps_link (N : Nat) (x : denS [(0, .v (.arr 8 (.int .u32))), (0, .v .str)]) : evFX (porterlaw03_ShaSteps_E N) N (porterlaw03_ShaSteps_t N) porterlaw03_ShaSteps_L Go.Proofs.Tryd.f4 (mkS [(0, .v (.arr 8 (.int .u32))), (0, .v .str)] 0 x) (kRes (.v .bool) 2) = porterlaw03_ShaSteps N x.1 x.2.1 := by kernel_rfl

noncomputable def porterlaw03_ShaSteps_res (N : Nat) : List A → Res := resOf [(0, .v (.arr 8 (.int .u32))), (0, .v .str)] (fun x => porterlaw03_ShaSteps N x.1 x.2.1) (oRes (.v .bool) 2)

theorem porterlaw03_ShaSteps_ct (N : Nat) : Contract Go.Proofs.Tryd.prog glob 4 (porterlaw03_ShaSteps_res N) :=
  Contract.of (E := porterlaw03_ShaSteps_E N) (H := porterlaw03_ShaSteps_t N) (L := porterlaw03_ShaSteps_L) (N := N) (body := porterlaw03_ShaSteps_body) (K := (kRes (.v .bool) 2)) (porterlaw03_ShaSteps_Eok N) Go.Proofs.Tryd.func4 (by kernel_rfl) (by decide) (fun _ hb => TabOk.nil) (fun x y h => by rw [porterlaw03_ShaSteps_link]; exact h) (kRes_ok (s := (.v .bool)) (m := 2))

abbrev porterlaw03_ShaParts_R : Type := Bool

noncomputable def porterlaw03_ShaParts_body : Code := (Go.Proofs.Tryd.f5.body).getD .skip

noncomputable def porterlaw03_ShaParts_L : List (List Nat × List Nat) := [([0], [0]), ([0, 0, 1], [10, 0]), ([1, 0, 1], [0]), ([0, 0, 1, 0, 1], [2]), ([1, 0, 1, 0, 1], [2]), ([0, 1, 1], [3, 0]), ([0, 0, 1, 1, 1], [14, 0, 3]), ([1, 0, 1, 1, 1], [0, 3]), ([0, 0, 1, 0, 1, 1, 1], [2]), ([1, 0, 1, 0, 1, 1, 1], [2]), ([0, 1, 1, 1, 1], [0, 3, 4]), ([0, 0, 1, 1, 1, 1, 1], [5, 0, 3, 4]), ([0, 1, 0, 1, 1, 1, 1, 1], [5, 0, 3, 4]), ([0, 0, 0, 0, 1, 0, 1, 1, 1, 1, 1], [18, 0, 5, 3, 4]), ([1, 0, 0, 0, 1, 0, 1, 1, 1, 1, 1], [0, 5, 3, 4]), ([1, 1, 0, 0, 0, 1, 0, 1, 1, 1, 1, 1], []), ([0, 0, 0, 0, 1, 0, 0, 1, 0, 1, 1, 1, 1, 1], [26, 3, 0, 5, 4]), ([1, 0, 0, 0, 1, 0, 0, 1, 0, 1, 1, 1, 1, 1], [3, 0, 5, 4]), ([0, 0, 1, 0, 0, 0, 1, 0, 0, 1, 0, 1, 1, 1, 1, 1], [2]), ([1, 0, 1, 0, 0, 0, 1, 0, 0, 1, 0, 1, 1, 1, 1, 1], [2]), ([0, 1, 0, 0, 1, 0, 0, 1, 0, 1, 1, 1, 1, 1], [4, 0, 5, 3]), ([0, 1, 1, 0, 0, 1, 0, 0, 1, 0, 1, 1, 1, 1, 1], [3, 4, 5, 0]), ([0, 1, 1, 1, 0, 0, 1, 0, 0, 1, 0, 1, 1, 1, 1, 1], [51, 5, 0, 3, 4]), ([1, 1, 1, 1, 0, 0, 1, 0, 0, 1, 0, 1, 1, 1, 1, 1], [5, 0, 3, 4]), ([0, 0, 1, 1, 1, 1, 0, 0, 1, 0, 0, 1, 0, 1, 1, 1, 1, 1], [2]), ([1, 0, 1, 1, 1, 1, 0, 0, 1, 0, 0, 1, 0, 1, 1, 1, 1, 1], [2]), ([0, 1, 0, 0, 1, 0, 1, 1, 1, 1, 1], [5, 0, 3, 4]), ([1, 1, 0, 0, 1, 0, 1, 1, 1, 1, 1], [5, 0, 3, 4]), ([1, 0, 1, 1, 1, 1, 1], []), ([0, 1, 1, 1, 1, 1, 1], [6]), ([0, 1, 1, 1, 1, 1, 1, 1], [6]), ([0, 1, 1, 1, 1, 1, 1, 1, 1], [7, 6]), ([0, 1, 1, 1, 1, 1, 1, 1, 1, 1], [6, 7]), ([0, 1, 1, 1, 1, 1, 1, 1, 1, 1, 1], [2]), ([1, 1, 1, 1, 1, 1, 1, 1, 1, 1, 1], [2])]

noncomputable def porterlaw03_ShaParts_E (N : Nat) : Env := mkEnv tys glob [(13, porterlaw03_works_res N), (26, sha_Hash_Long_nil_all N), (27, sha_Hash_Sum_nil_all N), (14, sha_Sum_res N), (25, sha_Hash_Add_nil_all N), (24, sha_New_res N)] [] [] [] false

theorem porterlaw03_ShaParts_Eok (N : Nat) : EnvOk Go.Proofs.Tryd.prog (porterlaw03_ShaParts_E N) := mkEnv_ok mixed tys_ok (FnsOk.cons (porterlaw03_works_ct N) (FnsOk.cons (sha_Hash_Long_nil_allct N) (FnsOk.cons (sha_Hash_Sum_nil_allct N) (FnsOk.cons (sha_Sum_ct N) (FnsOk.cons (sha_Hash_Add_nil_allct N) (FnsOk.cons (sha_New_ct N) (FnsOk.nil)))))))

noncomputable def porterlaw03_ShaParts_p3 (N : Nat) (l : (List (List UInt8))) (h : (Bool × ((List Int) × ((List UInt8) × (Int × Unit))))) (all : (List UInt8)) (i : Int) (k0 : (Bool × ((List Int) × ((List UInt8) × (Int × Unit)))) → Bool → Option Bool) : Option Bool :=
  cond (h.2.2.2.1 != (((List.length all) : Nat) : Int))
  (k0 h true)
  ((sha_Hash_Sum N h).bind fun y =>
    (sha_Sum N all).bind fun y1 =>
    k0 y.2.1 (!(y.1 == y1)))

noncomputable def porterlaw03_ShaParts_g3 (N : Nat) (x : denS [(0, .v (.sl .str)), (2, .box (.pair .bool (.pair (.arr 8 (.int .u32)) (.pair .str (.pair (.int .i64) .unit))))), (0, .v .str), (0, .v (.int .i64))]) (K : Ex → List A → Option Bool) : Option Bool :=
  porterlaw03_ShaParts_p3 N x.1 x.2.1 x.2.2.1 x.2.2.2.1 (fun a1 a4 => (K .normal (mkS [(0, .v (.sl .str)), (2, .box (.pair .bool (.pair (.arr 8 (.int .u32)) (.pair .str (.pair (.int .i64) .unit))))), (0, .v .str), (0, .v (.int .i64)), (45, .v .bool)] 24 (x.1, a1, x.2.2.1, x.2.2.2.1, a4, ()))))

noncomputable def porterlaw03_ShaParts_h3 (N : Nat) : Hd Bool := fun st K => (unS [(0, .v (.sl .str)), (2, .box (.pair .bool (.pair (.arr 8 (.int .u32)) (.pair .str (.pair (.int .i64) .unit))))), (0, .v .str), (0, .v (.int .i64))] 70 (restr [3, 4, 5, 0] 0 st)).bind fun x => porterlaw03_ShaParts_g3 N x K

noncomputable def porterlaw03_ShaParts_t3 (N : Nat) : Tab Bool := []

theorem porterlaw03_ShaParts_ok3 {N : Nat} {c : Ctx} (hb : Base Go.Proofs.Tryd.prog (porterlaw03_ShaParts_E N) c) : CodeOk Go.Proofs.Tryd.prog c (nodeAt porterlaw03_ShaParts_body [0, 1, 1, 1, 0, 0, 1, 0, 0, 1, 0, 1, 1, 1, 1, 1]) (porterlaw03_ShaParts_h3 N) :=
  piece_ok (s := [(0, .v (.sl .str)), (2, .box (.pair .bool (.pair (.arr 8 (.int .u32)) (.pair .str (.pair (.int .i64) .unit))))), (0, .v .str), (0, .v (.int .i64))]) (m := 70) (g := porterlaw03_ShaParts_g3 N) [3, 4, 5, 0] (evN_sound hb N (porterlaw03_ShaParts_t3 N) porterlaw03_ShaParts_L porterlaw03_ShaParts_body TabOk.nil [0, 1, 1, 1, 0, 0, 1, 0, 0, 1, 0, 1, 1, 1, 1, 1] _ rfl) (fun x K => by kernel_rfl)

noncomputable def porterlaw03_ShaParts_p2 (N : Nat) (l : (List (List UInt8))) (h : (Bool × ((List Int) × ((List UInt8) × (Int × Unit))))) (all : (List UInt8)) (i : Int) (k0 : Bool → Option Bool) (k1 : (Bool × ((List Int) × ((List UInt8) × (Int × Unit)))) → (List UInt8) → Option Bool) : Option Bool :=
  cond (Go.Lift.inR i (List.length l))
  (cond (decide ((300 : Int) < (((List.length (List.getD l (Int.toNat i) ([] : List UInt8))) : Nat) : Int)))
    ((porterlaw03_works N).bind fun y =>
      k0 y)
    (cond (Go.Lift.inR i (List.length l))
      ((sha_Hash_Add N h (List.getD l (Int.toNat i) ([] : List UInt8))).bind fun y1 =>
        cond (Go.Lift.inR i (List.length l))
        (cond (decide (((List.length all) + (List.length (List.getD l (Int.toNat i) ([] : List UInt8)))) ≤ 9223372036854775807))
          (porterlaw03_ShaParts_p3 N l y1.2.1 (all ++ (List.getD l (Int.toNat i) ([] : List UInt8))) i
            (fun h1 x51 => cond x51
              (k0 false)
              (k1 h1 (all ++ (List.getD l (Int.toNat i) ([] : List UInt8))))))
          (none))
        (none))
      (none)))
  (none)

noncomputable def porterlaw03_ShaParts_g2 (N : Nat) (x : denS [(0, .v (.sl .str)), (2, .box (.pair .bool (.pair (.arr 8 (.int .u32)) (.pair .str (.pair (.int .i64) .unit))))), (0, .v .str), (0, .v (.int .i64))]) (K : Ex → List A → Option Bool) : Option Bool :=
  porterlaw03_ShaParts_p2 N x.1 x.2.1 x.2.2.1 x.2.2.2.1 (fun a0 => (K .ret (mkS [(2, .v .bool)] 73 (a0, ())))) (fun a1 a2 => (K .normal (mkS [(0, .v (.sl .str)), (2, .box (.pair .bool (.pair (.arr 8 (.int .u32)) (.pair .str (.pair (.int .i64) .unit))))), (0, .v .str), (0, .v (.int .i64))] 70 (x.1, a1, a2, x.2.2.2.1, ()))))

noncomputable def porterlaw03_ShaParts_h2 (N : Nat) : Hd Bool := fun st K => (unS [(0, .v (.sl .str)), (2, .box (.pair .bool (.pair (.arr 8 (.int .u32)) (.pair .str (.pair (.int .i64) .unit))))), (0, .v .str), (0, .v (.int .i64))] 70 (restr [0, 5, 3, 4] 0 st)).bind fun x => porterlaw03_ShaParts_g2 N x K

noncomputable def porterlaw03_ShaParts_t2 (N : Nat) : Tab Bool := [([0, 1, 1, 1, 0, 0, 1, 0, 0, 1, 0, 1, 1, 1, 1, 1], porterlaw03_ShaParts_h3 N)]

theorem porterlaw03_ShaParts_ok2 {N : Nat} {c : Ctx} (hb : Base Go.Proofs.Tryd.prog (porterlaw03_ShaParts_E N) c) : CodeOk Go.Proofs.Tryd.prog c (nodeAt porterlaw03_ShaParts_body [0, 1, 0, 0, 1, 0, 1, 1, 1, 1, 1]) (porterlaw03_ShaParts_h2 N) :=
  piece_ok (s := [(0, .v (.sl .str)), (2, .box (.pair .bool (.pair (.arr 8 (.int .u32)) (.pair .str (.pair (.int .i64) .unit))))), (0, .v .str), (0, .v (.int .i64))]) (m := 70) (g := porterlaw03_ShaParts_g2 N) [0, 5, 3, 4] (evN_sound hb N (porterlaw03_ShaParts_t2 N) porterlaw03_ShaParts_L porterlaw03_ShaParts_body (TabOk.cons (porterlaw03_ShaParts_ok3 hb) TabOk.nil) [0, 1, 0, 0, 1, 0, 1, 1, 1, 1, 1] _ rfl) (fun x K => by kernel_rfl)

noncomputable def porterlaw03_ShaParts_s1 (N : Nat) (l : (List (List UInt8))) (h : (Bool × ((List Int) × ((List UInt8) × (Int × Unit))))) (all : (List UInt8)) (i : Int) (rec : (Bool × ((List Int) × ((List UInt8) × (Int × Unit)))) → (List UInt8) → Int → Option Bool) (k0 : Bool → Option Bool) (k1 : Option Bool) : Option Bool :=
  cond (decide (i < (((List.length l) : Nat) : Int)))
  (porterlaw03_ShaParts_p2 N l h all i
    (fun x2 => k0 x2)
    (fun h1 all1 => rec h1 all1 (Go.IntKind.wrap Go.IntKind.i64 (i + (1 : Int)))))
  (k1)

noncomputable def porterlaw03_ShaParts_p1 (N : Nat) (l : (List (List UInt8))) (h : (Bool × ((List Int) × ((List UInt8) × (Int × Unit))))) (all : (List UInt8)) (i : Int) (k0 : Bool → Option Bool) (k1 : Option Bool) : Option Bool :=
  iter (fun (v : ((Bool × ((List Int) × ((List UInt8) × (Int × Unit)))) × (List UInt8) × Int)) r => porterlaw03_ShaParts_s1 N l v.1 v.2.1 v.2.2 (fun h all i => (r (h, all, i))) k0 k1) N (h, all, i)

noncomputable def porterlaw03_ShaParts_g1 (N : Nat) (i : (List (List UInt8))) (v : ((Bool × ((List Int) × ((List UInt8) × (Int × Unit)))) × (List UInt8) × Int)) (r : ((Bool × ((List Int) × ((List UInt8) × (Int × Unit)))) × (List UInt8) × Int) → Option Bool) (K : Ex → List A → Option Bool) : Option Bool :=
  porterlaw03_ShaParts_s1 N i v.1 v.2.1 v.2.2 (fun h all i => (r (h, all, i))) (fun a0 => (K .ret (mkS [(2, .v .bool)] 73 (a0, ())))) (K (.exit 0) (mkS [] 76 ()))

noncomputable def porterlaw03_ShaParts_h1 (N : Nat) : Hd Bool := fun st K => (unS [(0, .v (.sl .str)), (2, .box (.pair .bool (.pair (.arr 8 (.int .u32)) (.pair .str (.pair (.int .i64) .unit))))), (0, .v .str), (0, .v (.int .i64))] 70 (restr [5, 0, 3, 4] 0 st)).bind fun x => iter (fun v r => porterlaw03_ShaParts_g1 N ((fun x => x.1) x) v r K) N ((fun x => (x.2.1, x.2.2.1, x.2.2.2.1)) x)

noncomputable def porterlaw03_ShaParts_t1 (N : Nat) : Tab Bool := [([0, 1, 0, 0, 1, 0, 1, 1, 1, 1, 1], porterlaw03_ShaParts_h2 N)]

theorem porterlaw03_ShaParts_ok1 {N : Nat} {c : Ctx} (hb : Base Go.Proofs.Tryd.prog (porterlaw03_ShaParts_E N) c) : CodeOk Go.Proofs.Tryd.prog c (nodeAt porterlaw03_ShaParts_body [0, 1, 0, 1, 1, 1, 1, 1]) (porterlaw03_ShaParts_h1 N) :=
  loop_ok (s := [(0, .v (.sl .str)), (2, .box (.pair .bool (.pair (.arr 8 (.int .u32)) (.pair .str (.pair (.int .i64) .unit))))), (0, .v .str), (0, .v (.int .i64))]) (m := 70) (porterlaw03_ShaParts_g1 N) [5, 0, 3, 4] N (fun x => x.1) (fun x => (x.2.1, x.2.2.1, x.2.2.2.1)) (fun i v => (i, v.1, v.2.1, v.2.2, ())) (fun _ => rfl) (evN_sound hb N (porterlaw03_ShaParts_t1 N) porterlaw03_ShaParts_L porterlaw03_ShaParts_body (TabOk.cons (porterlaw03_ShaParts_ok2 hb) TabOk.nil) [0, 0, 1, 0, 1, 1, 1, 1, 1] _ rfl) (fun i v r K => by kernel_rfl)

noncomputable def porterlaw03_ShaParts (N : Nat) (l : (List (List UInt8))) : Option Bool :=
  cond (decide ((12 : Int) < (((List.length l) : Nat) : Int)))
  ((porterlaw03_works N).bind fun y =>
    some y)
  (porterlaw03_ShaParts_p1 N l (true, (([(1779033703 : Int), (3144134277 : Int), (1013904242 : Int), (2773480762 : Int), (1359893119 : Int), (2600822924 : Int), (528734635 : Int), (1541459225 : Int)] : List Int), (([] : List UInt8), ((0 : Int), ())))) ([] : List UInt8) (0 : Int)
    (fun x2 => some x2)
    ((sha_Hash_Sum_nil N).bind fun y1 =>
      (sha_Sum N ([] : List UInt8)).bind fun y2 =>
      cond (y1 == y2)
      ((sha_Hash_Sum N (false, (([(0 : Int), (0 : Int), (0 : Int), (0 : Int), (0 : Int), (0 : Int), (0 : Int), (0 : Int)] : List Int), (([] : List UInt8), ((0 : Int), ()))))).bind fun y3 =>
        (sha_Sum N ([] : List UInt8)).bind fun y4 =>
        cond (y3.1 == y4)
        (cond (y3.2.1.2.2.2.1 == (0 : Int))
          ((porterlaw03_works N).bind fun y5 =>
            some y5)
          (some false))
        (some false))
      (some false)))

noncomputable def porterlaw03_ShaParts_t (N : Nat) : Tab Bool := [([0, 1, 0, 1, 1, 1, 1, 1], porterlaw03_ShaParts_h1 N)]

theorem porterlaw03_ShaParts_link (N : Nat) (x : denS [(0, .v (.sl .str))]) : evFX (porterlaw03_ShaParts_E N) N (porterlaw03_ShaParts_t N) porterlaw03_ShaParts_L Go.Proofs.Tryd.f5 (mkS [(0, .v (.sl .str))] 0 x) (kRes (.v .bool) 1) = porterlaw03_ShaParts N x.1 := by kernel_rfl

noncomputable def porterlaw03_ShaParts_res (N : Nat) : List A → Res := resOf [(0, .v (.sl .str))] (fun x => porterlaw03_ShaParts N x.1) (oRes (.v .bool) 1)

theorem porterlaw03_ShaParts_ct (N : Nat) : Contract Go.Proofs.Tryd.prog glob 5 (porterlaw03_ShaParts_res N) :=
  Contract.of (E := porterlaw03_ShaParts_E N) (H := porterlaw03_ShaParts_t N) (L := porterlaw03_ShaParts_L) (N := N) (body := porterlaw03_ShaParts_body) (K := (kRes (.v .bool) 1)) (porterlaw03_ShaParts_Eok N) Go.Proofs.Tryd.func5 (by kernel_rfl) (by decide) (fun _ hb => (TabOk.cons (porterlaw03_ShaParts_ok1 hb) TabOk.nil)) (fun x y h => by rw [porterlaw03_ShaParts_link]; exact h) (kRes_ok (s := (.v .bool)) (m := 1))

abbrev porterlaw03_ShaPads_R : Type := Bool

noncomputable def porterlaw03_ShaPads_body : Code := (Go.Proofs.Tryd.f6.body).getD .skip

noncomputable def porterlaw03_ShaPads_L : List (List Nat × List Nat) := [([0], [0]), ([0, 0, 1], [9, 0]), ([1, 0, 1], [0]), ([0, 0, 1, 0, 1], [2]), ([1, 0, 1, 0, 1], [2]), ([0, 1, 1], [3, 0]), ([0, 0, 1, 1, 1], [47, 3, 0]), ([1, 0, 1, 1, 1], [3, 0]), ([0, 0, 1, 0, 1, 1, 1], [2]), ([1, 0, 1, 0, 1, 1, 1], [2]), ([0, 1, 1, 1, 1], [3, 4, 0]), ([0, 0, 1, 1, 1, 1, 1], [5, 3, 4, 0]), ([0, 1, 0, 1, 1, 1, 1, 1], [5, 3, 4, 0]), ([0, 0, 0, 0, 1, 0, 1, 1, 1, 1, 1], [54, 4, 3, 5, 0]), ([1, 0, 0, 0, 1, 0, 1, 1, 1, 1, 1], [4, 3, 5, 0]), ([1, 1, 0, 0, 0, 1, 0, 1, 1, 1, 1, 1], [0, 3, 4]), ([0, 0, 1, 0, 0, 1, 0, 1, 1, 1, 1, 1], [5, 3, 4, 0]), ([0, 1, 0, 0, 1, 0, 1, 1, 1, 1, 1], [5, 3, 4, 0]), ([1, 1, 0, 0, 1, 0, 1, 1, 1, 1, 1], [5, 3, 4, 0]), ([1, 0, 1, 1, 1, 1, 1], [0, 3, 4]), ([0, 0, 1, 1, 1, 1, 1, 1], [6, 3, 4, 0]), ([0, 1, 0, 1, 1, 1, 1, 1, 1], [6, 3, 4, 0]), ([0, 0, 0, 0, 1, 0, 1, 1, 1, 1, 1, 1], [71, 3, 6, 4, 0]), ([1, 0, 0, 0, 1, 0, 1, 1, 1, 1, 1, 1], [3, 6, 4, 0]), ([1, 1, 0, 0, 0, 1, 0, 1, 1, 1, 1, 1, 1], [4, 0]), ([0, 0, 0, 1, 0, 0, 1, 0, 1, 1, 1, 1, 1, 1], [77, 6, 3, 4, 0]), ([1, 0, 0, 1, 0, 0, 1, 0, 1, 1, 1, 1, 1, 1], [6, 3, 4, 0]), ([0, 0, 1, 0, 0, 1, 0, 0, 1, 0, 1, 1, 1, 1, 1, 1], [2]), ([1, 0, 1, 0, 0, 1, 0, 0, 1, 0, 1, 1, 1, 1, 1, 1], [2]), ([0, 1, 0, 0, 1, 0, 1, 1, 1, 1, 1, 1], [6, 3, 4, 0]), ([1, 1, 0, 0, 1, 0, 1, 1, 1, 1, 1, 1], [6, 3, 4, 0]), ([1, 0, 1, 1, 1, 1, 1, 1], [4, 0]), ([0, 1, 1, 1, 1, 1, 1, 1], [2]), ([1, 1, 1, 1, 1, 1, 1, 1], [2])]

noncomputable def porterlaw03_ShaPads_E (N : Nat) : Env := mkEnv tys glob [(16, sha_Pad_res N), (13, porterlaw03_works_res N)] [] [] [] false

theorem porterlaw03_ShaPads_Eok (N : Nat) : EnvOk Go.Proofs.Tryd.prog (porterlaw03_ShaPads_E N) := mkEnv_ok mixed tys_ok (FnsOk.cons (sha_Pad_ct N) (FnsOk.cons (porterlaw03_works_ct N) (FnsOk.nil)))

noncomputable def porterlaw03_ShaPads_p2 (N : Nat) (s : (List UInt8)) (p : (List UInt8)) (k0 : Bool → Option Bool) : Option Bool :=
  cond ((Int.tmod (((List.length p) : Nat) : Int) (64 : Int)) != (0 : Int))
  (k0 true)
  (cond (decide ((((List.length p) : Nat) : Int) < (Go.IntKind.wrap Go.IntKind.i64 ((((List.length s) : Nat) : Int) + (9 : Int)))))
    (k0 true)
    (cond (decide ((Go.IntKind.wrap Go.IntKind.i64 ((((List.length s) : Nat) : Int) + (72 : Int))) < (((List.length p) : Nat) : Int)))
      (k0 true)
      (cond (decide (((0 : Int) ≤ (((List.length s) : Nat) : Int)) ∧ ((((List.length s) : Nat) : Int) ≤ (((List.length p) : Nat) : Int))))
        (cond (!((Go.Lift.cut p 0 (Int.toNat (((List.length s) : Nat) : Int))) == s))
          (k0 true)
          (cond (Go.Lift.inR (((List.length s) : Nat) : Int) (List.length p))
            (k0 ((((UInt8.toNat (List.getD p (Int.toNat (((List.length s) : Nat) : Int)) (0 : UInt8))) : Nat) : Int) != (128 : Int)))
            (none)))
        (none))))

noncomputable def porterlaw03_ShaPads_g2 (N : Nat) (x : denS [(0, .v .str), (2, .v .str)]) (K : Ex → List A → Option Bool) : Option Bool :=
  porterlaw03_ShaPads_p2 N x.1 x.2.1 (fun a2 => (K .normal (mkS [(0, .v .str), (2, .v .str), (43, .v .bool)] 38 (x.1, x.2.1, a2, ()))))

noncomputable def porterlaw03_ShaPads_h2 (N : Nat) : Hd Bool := fun st K => (unS [(0, .v .str), (2, .v .str)] 82 (restr [3, 0] 0 st)).bind fun x => porterlaw03_ShaPads_g2 N x K

noncomputable def porterlaw03_ShaPads_t2 (N : Nat) : Tab Bool := []

theorem porterlaw03_ShaPads_ok2 {N : Nat} {c : Ctx} (hb : Base Go.Proofs.Tryd.prog (porterlaw03_ShaPads_E N) c) : CodeOk Go.Proofs.Tryd.prog c (nodeAt porterlaw03_ShaPads_body [0, 0, 1, 1, 1]) (porterlaw03_ShaPads_h2 N) :=
  piece_ok (s := [(0, .v .str), (2, .v .str)]) (m := 82) (g := porterlaw03_ShaPads_g2 N) [3, 0] (evN_sound hb N (porterlaw03_ShaPads_t2 N) porterlaw03_ShaPads_L porterlaw03_ShaPads_body TabOk.nil [0, 0, 1, 1, 1] _ rfl) (fun x K => by kernel_rfl)

noncomputable def porterlaw03_ShaPads_p1 (N : Nat) (s : (List UInt8)) (p : (List UInt8)) (k0 : Bool → Option Bool) (k1 : Option Bool) : Option Bool :=
  porterlaw03_ShaPads_p2 N s p
  (fun x47 => cond x47
    (k0 false)
    (k1))

noncomputable def porterlaw03_ShaPads_g1 (N : Nat) (x : denS [(0, .v .str), (2, .v .str)]) (K : Ex → List A → Option Bool) : Option Bool :=
  porterlaw03_ShaPads_p1 N x.1 x.2.1 (fun a0 => (K .ret (mkS [(2, .v .bool)] 83 (a0, ())))) (K .normal (mkS [(0, .v .str), (2, .v .str)] 82 (x.1, x.2.1, ())))

noncomputable def porterlaw03_ShaPads_h1 (N : Nat) : Hd Bool := fun st K => (unS [(0, .v .str), (2, .v .str)] 82 (restr [3, 0] 0 st)).bind fun x => porterlaw03_ShaPads_g1 N x K

noncomputable def porterlaw03_ShaPads_t1 (N : Nat) : Tab Bool := [([0, 0, 1, 1, 1], porterlaw03_ShaPads_h2 N)]

theorem porterlaw03_ShaPads_ok1 {N : Nat} {c : Ctx} (hb : Base Go.Proofs.Tryd.prog (porterlaw03_ShaPads_E N) c) : CodeOk Go.Proofs.Tryd.prog c (nodeAt porterlaw03_ShaPads_body [0, 1, 1, 1]) (porterlaw03_ShaPads_h1 N) :=
  piece_ok (s := [(0, .v .str), (2, .v .str)]) (m := 82) (g := porterlaw03_ShaPads_g1 N) [3, 0] (evN_sound hb N (porterlaw03_ShaPads_t1 N) porterlaw03_ShaPads_L porterlaw03_ShaPads_body (TabOk.cons (porterlaw03_ShaPads_ok2 hb) TabOk.nil) [0, 1, 1, 1] _ rfl) (fun x K => by kernel_rfl)

noncomputable def porterlaw03_ShaPads_s3 (N : Nat) (s : (List UInt8)) (p : (List UInt8)) (n : Int) (i : Int) (rec : Int → Int → Option Bool) (k0 : Int → Option Bool) : Option Bool :=
  cond (decide (i < (((List.length p) : Nat) : Int)))
  (cond (Go.Lift.inR i (List.length p))
    (rec (Go.IntKind.wrap Go.IntKind.i64 ((Go.IntKind.wrap Go.IntKind.i64 ((256 : Int) * n)) + (Go.IntKind.wrap Go.IntKind.i64 (((UInt8.toNat (List.getD p (Int.toNat i) (0 : UInt8))) : Nat) : Int)))) (Go.IntKind.wrap Go.IntKind.i64 (i + (1 : Int))))
    (none))
  (k0 n)

noncomputable def porterlaw03_ShaPads_p3 (N : Nat) (s : (List UInt8)) (p : (List UInt8)) (n : Int) (i : Int) (k0 : Int → Option Bool) : Option Bool :=
  iter (fun (v : (Int × Int)) r => porterlaw03_ShaPads_s3 N s p v.1 v.2 (fun n i => (r (n, i))) k0) N (n, i)

noncomputable def porterlaw03_ShaPads_g3 (N : Nat) (i : ((List UInt8) × (List UInt8))) (v : (Int × Int)) (r : (Int × Int) → Option Bool) (K : Ex → List A → Option Bool) : Option Bool :=
  porterlaw03_ShaPads_s3 N i.1 i.2 v.1 v.2 (fun n i => (r (n, i))) (fun a2 => (K (.exit 0) (mkS [(0, .v .str), (2, .v .str), (0, .v (.int .i64))] 81 (i.1, i.2, a2, ()))))

noncomputable def porterlaw03_ShaPads_h3 (N : Nat) : Hd Bool := fun st K => (unS [(0, .v .str), (2, .v .str), (0, .v (.int .i64)), (0, .v (.int .i64))] 80 (restr [5, 3, 4, 0] 0 st)).bind fun x => iter (fun v r => porterlaw03_ShaPads_g3 N ((fun x => (x.1, x.2.1)) x) v r K) N ((fun x => (x.2.2.1, x.2.2.2.1)) x)

noncomputable def porterlaw03_ShaPads_t3 (N : Nat) : Tab Bool := []

theorem porterlaw03_ShaPads_ok3 {N : Nat} {c : Ctx} (hb : Base Go.Proofs.Tryd.prog (porterlaw03_ShaPads_E N) c) : CodeOk Go.Proofs.Tryd.prog c (nodeAt porterlaw03_ShaPads_body [0, 1, 0, 1, 1, 1, 1, 1]) (porterlaw03_ShaPads_h3 N) :=
  loop_ok (s := [(0, .v .str), (2, .v .str), (0, .v (.int .i64)), (0, .v (.int .i64))]) (m := 80) (porterlaw03_ShaPads_g3 N) [5, 3, 4, 0] N (fun x => (x.1, x.2.1)) (fun x => (x.2.2.1, x.2.2.2.1)) (fun i v => (i.1, i.2, v.1, v.2, ())) (fun _ => rfl) (evN_sound hb N (porterlaw03_ShaPads_t3 N) porterlaw03_ShaPads_L porterlaw03_ShaPads_body TabOk.nil [0, 0, 1, 0, 1, 1, 1, 1, 1] _ rfl) (fun i v r K => by kernel_rfl)

noncomputable def porterlaw03_ShaPads_s4 (N : Nat) (s : (List UInt8)) (p : (List UInt8)) (n : Int) (i : Int) (rec : Int → Option Bool) (k0 : Bool → Option Bool) (k1 : Option Bool) : Option Bool :=
  cond (decide (i < (Go.IntKind.wrap Go.IntKind.i64 ((((List.length p) : Nat) : Int) - (8 : Int)))))
  (cond (Go.Lift.inR i (List.length p))
    (cond ((((UInt8.toNat (List.getD p (Int.toNat i) (0 : UInt8))) : Nat) : Int) != (0 : Int))
      (k0 false)
      (rec (Go.IntKind.wrap Go.IntKind.i64 (i + (1 : Int)))))
    (none))
  (k1)

noncomputable def porterlaw03_ShaPads_p4 (N : Nat) (s : (List UInt8)) (p : (List UInt8)) (n : Int) (i : Int) (k0 : Bool → Option Bool) (k1 : Option Bool) : Option Bool :=
  iter (fun (v : Int) r => porterlaw03_ShaPads_s4 N s p n v (fun i => (r i)) k0 k1) N i

noncomputable def porterlaw03_ShaPads_g4 (N : Nat) (i : ((List UInt8) × (List UInt8) × Int)) (v : Int) (r : Int → Option Bool) (K : Ex → List A → Option Bool) : Option Bool :=
  porterlaw03_ShaPads_s4 N i.1 i.2.1 i.2.2 v (fun i => (r i)) (fun a0 => (K .ret (mkS [(2, .v .bool)] 83 (a0, ())))) (K (.exit 2) (mkS [(0, .v .str), (3, .v (.int .i64))] 81 (i.1, i.2.2, ())))

noncomputable def porterlaw03_ShaPads_h4 (N : Nat) : Hd Bool := fun st K => (unS [(0, .v .str), (2, .v .str), (0, .v (.int .i64)), (1, .v (.int .i64))] 79 (restr [6, 3, 4, 0] 0 st)).bind fun x => iter (fun v r => porterlaw03_ShaPads_g4 N ((fun x => (x.1, x.2.1, x.2.2.1)) x) v r K) N ((fun x => x.2.2.2.1) x)

noncomputable def porterlaw03_ShaPads_t4 (N : Nat) : Tab Bool := []

theorem porterlaw03_ShaPads_ok4 {N : Nat} {c : Ctx} (hb : Base Go.Proofs.Tryd.prog (porterlaw03_ShaPads_E N) c) : CodeOk Go.Proofs.Tryd.prog c (nodeAt porterlaw03_ShaPads_body [0, 1, 0, 1, 1, 1, 1, 1, 1]) (porterlaw03_ShaPads_h4 N) :=
  loop_ok (s := [(0, .v .str), (2, .v .str), (0, .v (.int .i64)), (1, .v (.int .i64))]) (m := 79) (porterlaw03_ShaPads_g4 N) [6, 3, 4, 0] N (fun x => (x.1, x.2.1, x.2.2.1)) (fun x => x.2.2.2.1) (fun i v => (i.1, i.2.1, i.2.2, v, ())) (fun _ => rfl) (evN_sound hb N (porterlaw03_ShaPads_t4 N) porterlaw03_ShaPads_L porterlaw03_ShaPads_body TabOk.nil [0, 0, 1, 0, 1, 1, 1, 1, 1, 1] _ rfl) (fun i v r K => by kernel_rfl)

noncomputable def porterlaw03_ShaPads (N : Nat) (s : (List UInt8)) : Option Bool :=
  cond (decide ((2000 : Int) < (((List.length s) : Nat) : Int)))
  ((porterlaw03_works N).bind fun y =>
    some y)
  ((sha_Pad N s).bind fun y1 =>
    porterlaw03_ShaPads_p1 N s y1
    (fun x2 => some x2)
    (porterlaw03_ShaPads_p3 N s y1 (0 : Int) (Go.IntKind.wrap Go.IntKind.i64 ((((List.length y1) : Nat) : Int) - (8 : Int)))
      (fun n => porterlaw03_ShaPads_p4 N s y1 n (Go.IntKind.wrap Go.IntKind.i64 ((((List.length s) : Nat) : Int) + (1 : Int)))
        (fun x21 => some x21)
        (cond (n == (Go.IntKind.wrap Go.IntKind.i64 ((8 : Int) * (((List.length s) : Nat) : Int))))
          ((porterlaw03_works N).bind fun y2 =>
            some y2)
          (some false)))))

noncomputable def porterlaw03_ShaPads_t (N : Nat) : Tab Bool := [([0, 1, 1, 1], porterlaw03_ShaPads_h1 N), ([0, 1, 0, 1, 1, 1, 1, 1], porterlaw03_ShaPads_h3 N), ([0, 1, 0, 1, 1, 1, 1, 1, 1], porterlaw03_ShaPads_h4 N)]

theorem porterlaw03_ShaPads_link (N : Nat) (x : denS [(0, .v .str)]) : evFX (porterlaw03_ShaPads_E N) N (porterlaw03_ShaPads_t N) porterlaw03_ShaPads_L Go.Proofs.Tryd.f6 (mkS [(0, .v .str)] 0 x) (kRes (.v .bool) 1) = porterlaw03_ShaPads N x.1 := by kernel_rfl

noncomputable def porterlaw03_ShaPads_res (N : Nat) : List A → Res := resOf [(0, .v .str)] (fun x => porterlaw03_ShaPads N x.1) (oRes (.v .bool) 1)

theorem porterlaw03_ShaPads_ct (N : Nat) : Contract Go.Proofs.Tryd.prog glob 6 (porterlaw03_ShaPads_res N) :=
  Contract.of (E := porterlaw03_ShaPads_E N) (H := porterlaw03_ShaPads_t N) (L := porterlaw03_ShaPads_L) (N := N) (body := porterlaw03_ShaPads_body) (K := (kRes (.v .bool) 1)) (porterlaw03_ShaPads_Eok N) Go.Proofs.Tryd.func6 (by kernel_rfl) (by decide) (fun _ hb => (TabOk.cons (porterlaw03_ShaPads_ok1 hb) (TabOk.cons (porterlaw03_ShaPads_ok3 hb) (TabOk.cons (porterlaw03_ShaPads_ok4 hb) TabOk.nil)))) (fun x y h => by rw [porterlaw03_ShaPads_link]; exact h) (kRes_ok (s := (.v .bool)) (m := 1))

end Go.Proofs.YtjeabejfmcmkdaaDoorLf
