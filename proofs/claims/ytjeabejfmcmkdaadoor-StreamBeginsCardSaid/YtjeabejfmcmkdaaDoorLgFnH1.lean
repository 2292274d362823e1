/- The functions of the seat, as plain functions, and what their calls do. Printed by a program of mine; checked here. -/
import Derived.Test.YtjeabejfmcmkdaaDoorLgBld
import Derived.Test.YtjeabejfmcmkdaaDoorLgRep
import Derived.Test.YtjeabejfmcmkdaaDoorLgW
import Derived.Test.YtjeabejfmcmkdaaDoorChecked
import Derived.KernelRfl
set_option linter.all false
set_option maxRecDepth 100000
namespace Go.Proofs.YtjeabejfmcmkdaaDoorLg
open Go Go.Lift

noncomputable def ty3 : TyI := ⟨(Go.TypeDesc.int Go.IntKind.i64), 1, 8, (.int .i64), (0 : Int), false⟩

theorem ty3_ok : TyOk Go.Proofs.Tryd.prog 3 ty3 := TyOk.of (by kernel_rfl) (by kernel_rfl) (by kernel_rfl) (by kernel_rfl)

noncomputable def ty4 : TyI := ⟨Go.TypeDesc.bool, 1, 1, .bool, false, false⟩

theorem ty4_ok : TyOk Go.Proofs.Tryd.prog 4 ty4 := TyOk.of (by kernel_rfl) (by kernel_rfl) (by kernel_rfl) (by kernel_rfl)

noncomputable def ty5 : TyI := ⟨(Go.TypeDesc.int Go.IntKind.u8), 1, 1, (.int .u8), (0 : Int), false⟩

theorem ty5_ok : TyOk Go.Proofs.Tryd.prog 5 ty5 := TyOk.of (by kernel_rfl) (by kernel_rfl) (by kernel_rfl) (by kernel_rfl)

noncomputable def ty9 : TyI := ⟨Go.TypeDesc.string, 1, 16, .str, ([] : List UInt8), false⟩

theorem ty9_ok : TyOk Go.Proofs.Tryd.prog 9 ty9 := TyOk.of (by kernel_rfl) (by kernel_rfl) (by kernel_rfl) (by kernel_rfl)

noncomputable def ty24 : TyI := ⟨(Go.TypeDesc.func (List.toArray ([9] : List Nat)) (List.toArray ([4] : List Nat)) false), 1, 8, .opq, Go.Value.nilFunc, false⟩

theorem ty24_ok : TyOk Go.Proofs.Tryd.prog 24 ty24 := TyOk.of (by kernel_rfl) (by kernel_rfl) (by kernel_rfl) (by kernel_rfl)

noncomputable def ty25 : TyI := ⟨(Go.TypeDesc.int Go.IntKind.u32), 1, 4, (.int .u32), (0 : Int), false⟩

theorem ty25_ok : TyOk Go.Proofs.Tryd.prog 25 ty25 := TyOk.of (by kernel_rfl) (by kernel_rfl) (by kernel_rfl) (by kernel_rfl)

noncomputable def ty26 : TyI := ⟨(Go.TypeDesc.array 8 25), 8, 32, (.arr 8 (.int .u32)), ([(0 : Int), (0 : Int), (0 : Int), (0 : Int), (0 : Int), (0 : Int), (0 : Int), (0 : Int)] : List Int), true⟩

theorem ty26_ok : TyOk Go.Proofs.Tryd.prog 26 ty26 := TyOk.of (by kernel_rfl) (by kernel_rfl) (by kernel_rfl) (by kernel_rfl)

noncomputable def ty27 : TyI := ⟨(Go.TypeDesc.array 8 25), 8, 32, (.arr 8 (.int .u32)), ([(0 : Int), (0 : Int), (0 : Int), (0 : Int), (0 : Int), (0 : Int), (0 : Int), (0 : Int)] : List Int), true⟩

theorem ty27_ok : TyOk Go.Proofs.Tryd.prog 27 ty27 := TyOk.of (by kernel_rfl) (by kernel_rfl) (by kernel_rfl) (by kernel_rfl)

noncomputable def ty35 : TyI := ⟨(Go.TypeDesc.slice 9), 1, 24, (.sl .str), ([] : List (List UInt8)), false⟩

theorem ty35_ok : TyOk Go.Proofs.Tryd.prog 35 ty35 := TyOk.of (by kernel_rfl) (by kernel_rfl) (by kernel_rfl) (by kernel_rfl)

noncomputable def ty36 : TyI := ⟨(Go.TypeDesc.pointer 42), 1, 8, .opq, (Go.Value.pointer none), false⟩

theorem ty36_ok : TyOk Go.Proofs.Tryd.prog 36 ty36 := TyOk.of (by kernel_rfl) (by kernel_rfl) (by kernel_rfl) (by kernel_rfl)

noncomputable def ty42 : TyI := ⟨(Go.TypeDesc.struct (List.toArray ([(Go.Field.mk "made" 4 0 false "" "porter/sha" 0), (Go.Field.mk "words" 27 1 false "" "porter/sha" 4), (Go.Field.mk "rest" 9 9 false "" "porter/sha" 40), (Go.Field.mk "long" 3 10 false "" "porter/sha" 56)] : List Go.Field))), 11, 64, (.pair .bool (.pair (.arr 8 (.int .u32)) (.pair .str (.pair (.int .i64) .unit)))), (false, ([(0 : Int), (0 : Int), (0 : Int), (0 : Int), (0 : Int), (0 : Int), (0 : Int), (0 : Int)] : List Int), ([] : List UInt8), (0 : Int), ()), true⟩

theorem ty42_ok : TyOk Go.Proofs.Tryd.prog 42 ty42 := TyOk.of (by kernel_rfl) (by kernel_rfl) (by kernel_rfl) (by kernel_rfl)

noncomputable def ty56 : TyI := ⟨(Go.TypeDesc.array 2 9), 2, 32, (.arr 2 .str), ([([] : List UInt8), ([] : List UInt8)] : List (List UInt8)), true⟩

theorem ty56_ok : TyOk Go.Proofs.Tryd.prog 56 ty56 := TyOk.of (by kernel_rfl) (by kernel_rfl) (by kernel_rfl) (by kernel_rfl)

noncomputable def ty63 : TyI := ⟨(Go.TypeDesc.slice 25), 1, 24, (.sl (.int .u32)), ([] : List Int), false⟩

theorem ty63_ok : TyOk Go.Proofs.Tryd.prog 63 ty63 := TyOk.of (by kernel_rfl) (by kernel_rfl) (by kernel_rfl) (by kernel_rfl)

noncomputable def ty67 : TyI := ⟨(Go.TypeDesc.slice 5), 1, 24, (.sl (.int .u8)), ([] : List Int), false⟩

theorem ty67_ok : TyOk Go.Proofs.Tryd.prog 67 ty67 := TyOk.of (by kernel_rfl) (by kernel_rfl) (by kernel_rfl) (by kernel_rfl)

noncomputable def ty68 : TyI := ⟨(Go.TypeDesc.int Go.IntKind.u64), 1, 8, (.int .u64), (0 : Int), false⟩

theorem ty68_ok : TyOk Go.Proofs.Tryd.prog 68 ty68 := TyOk.of (by kernel_rfl) (by kernel_rfl) (by kernel_rfl) (by kernel_rfl)

noncomputable def ty69 : TyI := ⟨(Go.TypeDesc.int Go.IntKind.u64), 1, 8, (.int .u64), (0 : Int), false⟩

theorem ty69_ok : TyOk Go.Proofs.Tryd.prog 69 ty69 := TyOk.of (by kernel_rfl) (by kernel_rfl) (by kernel_rfl) (by kernel_rfl)

noncomputable def ty70 : TyI := ⟨(Go.TypeDesc.array 64 25), 64, 256, (.arr 64 (.int .u32)), ((0 : Int) :: (0 : Int) :: (0 : Int) :: (0 : Int) :: (0 : Int) :: (0 : Int) :: (0 : Int) :: (0 : Int) :: (0 : Int) :: (0 : Int) :: (0 : Int) :: (0 : Int) :: (0 : Int) :: (0 : Int) :: (0 : Int) :: (0 : Int) :: (0 : Int) :: (0 : Int) :: (0 : Int) :: (0 : Int) :: (0 : Int) :: (0 : Int) :: (0 : Int) :: (0 : Int) :: (0 : Int) :: (0 : Int) :: (0 : Int) :: (0 : Int) :: (0 : Int) :: (0 : Int) :: (0 : Int) :: (0 : Int) :: (0 : Int) :: (0 : Int) :: (0 : Int) :: (0 : Int) :: (0 : Int) :: (0 : Int) :: (0 : Int) :: (0 : Int) :: (0 : Int) :: (0 : Int) :: (0 : Int) :: (0 : Int) :: (0 : Int) :: (0 : Int) :: (0 : Int) :: (0 : Int) :: (0 : Int) :: (0 : Int) :: (0 : Int) :: (0 : Int) :: (0 : Int) :: (0 : Int) :: (0 : Int) :: (0 : Int) :: (0 : Int) :: (0 : Int) :: (0 : Int) :: (0 : Int) :: (0 : Int) :: (0 : Int) :: (0 : Int) :: (0 : Int) :: ([] : List Int)), true⟩

theorem ty70_ok : TyOk Go.Proofs.Tryd.prog 70 ty70 := TyOk.of (by kernel_rfl) (by kernel_rfl) (by kernel_rfl) (by kernel_rfl)

noncomputable def ty75 : TyI := ⟨(Go.TypeDesc.pointer 77), 1, 8, .opq, (Go.Value.pointer none), false⟩

theorem ty75_ok : TyOk Go.Proofs.Tryd.prog 75 ty75 := TyOk.of (by kernel_rfl) (by kernel_rfl) (by kernel_rfl) (by kernel_rfl)

noncomputable def ty77 : TyI := ⟨(Go.TypeDesc.struct (List.toArray ([(Go.Field.mk "addr" 75 0 false "" "strings" 0), (Go.Field.mk "buf" 67 1 false "" "strings" 8)] : List Go.Field))), 2, 32, (.pair .opq (.pair (.sl (.int .u8)) .unit)), ((Go.Value.pointer none), ([] : List Int), ()), true⟩

theorem ty77_ok : TyOk Go.Proofs.Tryd.prog 77 ty77 := TyOk.of (by kernel_rfl) (by kernel_rfl) (by kernel_rfl) (by kernel_rfl)

noncomputable def ty79 : TyI := ⟨(Go.TypeDesc.func (List.toArray ([24] : List Nat)) (List.toArray ([] : List Nat)) false), 1, 8, .opq, Go.Value.nilFunc, false⟩

theorem ty79_ok : TyOk Go.Proofs.Tryd.prog 79 ty79 := TyOk.of (by kernel_rfl) (by kernel_rfl) (by kernel_rfl) (by kernel_rfl)

noncomputable def ty82 : TyI := ⟨(Go.TypeDesc.interface (List.toArray ([("Error", 40)] : List (String × Nat)))), 1, 16, .opq, Go.Value.nilIface, false⟩

theorem ty82_ok : TyOk Go.Proofs.Tryd.prog 82 ty82 := TyOk.of (by kernel_rfl) (by kernel_rfl) (by kernel_rfl) (by kernel_rfl)

noncomputable def ty86 : TyI := ⟨(Go.TypeDesc.func (List.toArray ([92] : List Nat)) (List.toArray ([] : List Nat)) false), 1, 8, .opq, Go.Value.nilFunc, false⟩

theorem ty86_ok : TyOk Go.Proofs.Tryd.prog 86 ty86 := TyOk.of (by kernel_rfl) (by kernel_rfl) (by kernel_rfl) (by kernel_rfl)

noncomputable def ty92 : TyI := ⟨(Go.TypeDesc.func (List.toArray ([9, 4] : List Nat)) (List.toArray ([4] : List Nat)) false), 1, 8, .opq, Go.Value.nilFunc, false⟩

theorem ty92_ok : TyOk Go.Proofs.Tryd.prog 92 ty92 := TyOk.of (by kernel_rfl) (by kernel_rfl) (by kernel_rfl) (by kernel_rfl)

noncomputable def tys : List (Nat × TyI) := [(3, ty3), (4, ty4), (5, ty5), (9, ty9), (24, ty24), (25, ty25), (26, ty26), (27, ty27), (35, ty35), (36, ty36), (42, ty42), (56, ty56), (63, ty63), (67, ty67), (68, ty68), (69, ty69), (70, ty70), (75, ty75), (77, ty77), (79, ty79), (82, ty82), (86, ty86), (92, ty92)]

theorem tys_ok : TysOk Go.Proofs.Tryd.prog tys := TysOk.cons ty3_ok (TysOk.cons ty4_ok (TysOk.cons ty5_ok (TysOk.cons ty9_ok (TysOk.cons ty24_ok (TysOk.cons ty25_ok (TysOk.cons ty26_ok (TysOk.cons ty27_ok (TysOk.cons ty35_ok (TysOk.cons ty36_ok (TysOk.cons ty42_ok (TysOk.cons ty56_ok (TysOk.cons ty63_ok (TysOk.cons ty67_ok (TysOk.cons ty68_ok (TysOk.cons ty69_ok (TysOk.cons ty70_ok (TysOk.cons ty75_ok (TysOk.cons ty77_ok (TysOk.cons ty79_ok (TysOk.cons ty82_ok (TysOk.cons ty86_ok (TysOk.cons ty92_ok (TysOk.nil)))))))))))))))))))))))

theorem mixed : Go.Proofs.Tryd.prog.follows .mixedOrders = true := by kernel_rfl

noncomputable def glob0 : List Int := [1116352408, 1899447441, 3049323471, 3921009573, 961987163, 1508970993, 2453635748, 2870763221, 3624381080, 310598401, 607225278, 1426881987, 1925078388, 2162078206, 2614888103, 3248222580, 3835390401, 4022224774, 264347078, 604807628, 770255983, 1249150122, 1555081692, 1996064986, 2554220882, 2821834349, 2952996808, 3210313671, 3336571891, 3584528711, 113926993, 338241895, 666307205, 773529912, 1294757372, 1396182291, 1695183700, 1986661051, 2177026350, 2456956037, 2730485921, 2820302411, 3259730800, 3345764771, 3516065817, 3600352804, 4094571909, 275423344, 430227734, 506948616, 659060556, 883997877, 958139571, 1322822218, 1537002063, 1747873779, 1955562222, 2024104815, 2227730452, 2361852424, 2428436474, 2756734187, 3204031479, 3329325298]

noncomputable def glob : Nat → Option Dat := lk [(0, ⟨(.arr 64 (.int .u32)), glob0⟩)]

abbrev porterbase_Short_R : Type := Bool

noncomputable def porterbase_Short_body : Code := (Go.Proofs.Tryd.f28.body).getD .skip

noncomputable def porterbase_Short_L : List (List Nat × List Nat) := [([0], [0, 1, 2]), ([0, 0, 1], [12, 2, 0]), ([1, 0, 1], [2, 0]), ([0, 0, 1, 0, 1], [6]), ([1, 0, 1, 0, 1], [6]), ([0, 1, 1], [0, 7]), ([0, 0, 1, 1, 1], [8, 0, 7]), ([0, 1, 0, 1, 1, 1], [8, 0, 7]), ([0, 0, 0, 0, 1, 0, 1, 1, 1], [17, 0, 8, 7]), ([1, 0, 0, 0, 1, 0, 1, 1, 1], [0, 8, 7]), ([1, 1, 0, 0, 0, 1, 0, 1, 1, 1], []), ([0, 0, 0, 0, 1, 0, 0, 1, 0, 1, 1, 1], [26, 7, 0, 8]), ([1, 0, 0, 0, 1, 0, 0, 1, 0, 1, 1, 1], [7, 0, 8]), ([0, 0, 1, 0, 0, 0, 1, 0, 0, 1, 0, 1, 1, 1], [6]), ([1, 0, 1, 0, 0, 0, 1, 0, 0, 1, 0, 1, 1, 1], [6]), ([1, 0, 0, 1, 0, 0, 1, 0, 1, 1, 1], [8, 0, 7]), ([0, 1, 0, 0, 1, 0, 1, 1, 1], [8, 0, 7]), ([1, 1, 0, 0, 1, 0, 1, 1, 1], [8, 0, 7]), ([1, 0, 1, 1, 1], []), ([0, 1, 1, 1, 1], [6]), ([1, 1, 1, 1, 1], [6])]

noncomputable def porterbase_Short_E (N : Nat) : Env := mkEnv tys glob [] [] [] [] false [] []

theorem porterbase_Short_Eok (N : Nat) : EnvOk Go.Proofs.Tryd.prog (porterbase_Short_E N) := mkEnv_ok mixed tys_ok (FnsOk.nil) (ItsOk.nil)

noncomputable def porterbase_Short_s1 (N : Nat) (l : (List (List UInt8))) (left : Int) (i : Int) (rec : Int → Int → Option Bool) (k0 : Bool → Option Bool) (k1 : Option Bool) : Option Bool :=
  cond (decide (i < (((List.length l) : Nat) : Int)))
  (cond (Go.Lift.inR i (List.length l))
    (cond (decide (left < (((List.length (List.getD l (Int.toNat i) ([] : List UInt8))) : Nat) : Int)))
      (k0 false)
      (cond (Go.Lift.inR i (List.length l))
        (rec (Go.IntKind.wrap Go.IntKind.i64 (left - (((List.length (List.getD l (Int.toNat i) ([] : List UInt8))) : Nat) : Int))) (Go.IntKind.wrap Go.IntKind.i64 (i + (1 : Int))))
        (none)))
    (none))
  (k1)

noncomputable def porterbase_Short_p1 (N : Nat) (l : (List (List UInt8))) (left : Int) (i : Int) (k0 : Bool → Option Bool) (k1 : Option Bool) : Option Bool :=
  iter (fun (v : (Int × Int)) r => porterbase_Short_s1 N l v.1 v.2 (fun left i => (r (left, i))) k0 k1) N (left, i)

noncomputable def porterbase_Short_g1 (N : Nat) (i : (List (List UInt8))) (v : (Int × Int)) (r : (Int × Int) → Option Bool) (K : Ex → List A → Option Bool) : Option Bool :=
  porterbase_Short_s1 N i v.1 v.2 (fun left i => (r (left, i))) (fun a0 => (K .ret (mkS [(6, .v .bool)] 27 (a0, ())))) (K (.exit 0) (mkS [] 34 ()))

noncomputable def porterbase_Short_h1 (N : Nat) : Hd Bool := fun st K => (unS [(0, .v (.sl .str)), (6, .v (.int .i64)), (0, .v (.int .i64))] 25 (restr [8, 0, 7] 0 st)).bind fun x => iter (fun v r => porterbase_Short_g1 N ((fun x => x.1) x) v r K) N ((fun x => (x.2.1, x.2.2.1)) x)

noncomputable def porterbase_Short_t1 (N : Nat) : Tab Bool := []

theorem porterbase_Short_ok1 {N : Nat} {c : Ctx} (hb : Base Go.Proofs.Tryd.prog (porterbase_Short_E N) c) : CodeOk Go.Proofs.Tryd.prog c (nodeAt porterbase_Short_body [0, 1, 0, 1, 1, 1]) (porterbase_Short_h1 N) :=
  loop_ok (s := [(0, .v (.sl .str)), (6, .v (.int .i64)), (0, .v (.int .i64))]) (m := 25) (porterbase_Short_g1 N) [8, 0, 7] N (fun x => x.1) (fun x => (x.2.1, x.2.2.1)) (fun i v => (i, v.1, v.2, ())) (fun _ => rfl) (evN_sound hb N (porterbase_Short_t1 N) porterbase_Short_L porterbase_Short_body TabOk.nil [0, 0, 1, 0, 1, 1, 1] _ rfl) (fun i v r K => by kernel_rfl)

noncomputable def porterbase_Short (N : Nat) (l : (List (List UInt8))) (many : Int) (most : Int) : Option Bool :=
  cond (decide (many < (((List.length l) : Nat) : Int)))
  (some false)
  (porterbase_Short_p1 N l most (0 : Int)
    (fun x6 => some x6)
    (some true))

noncomputable def porterbase_Short_t (N : Nat) : Tab Bool := [([0, 1, 0, 1, 1, 1], porterbase_Short_h1 N)]

theorem porterbase_Short_link (N : Nat) (x : denS [(0, .v (.sl .str)), (0, .v (.int .i64)), (0, .v (.int .i64))]) : evFX (porterbase_Short_E N) N (porterbase_Short_t N) porterbase_Short_L Go.Proofs.Tryd.f28 (mkS [(0, .v (.sl .str)), (0, .v (.int .i64)), (0, .v (.int .i64))] 0 x) (kRes (.v .bool) 3) = porterbase_Short N x.1 x.2.1 x.2.2.1 := by kernel_rfl

noncomputable def porterbase_Short_res (N : Nat) : List A → Res := resOf [(0, .v (.sl .str)), (0, .v (.int .i64)), (0, .v (.int .i64))] (fun x => porterbase_Short N x.1 x.2.1 x.2.2.1) (oRes (.v .bool) 3)

theorem porterbase_Short_ct (N : Nat) : Contract Go.Proofs.Tryd.prog glob 28 (porterbase_Short_res N) :=
  Contract.of (E := porterbase_Short_E N) (H := porterbase_Short_t N) (L := porterbase_Short_L) (N := N) (body := porterbase_Short_body) (K := (kRes (.v .bool) 3)) (porterbase_Short_Eok N) Go.Proofs.Tryd.func28 (by kernel_rfl) (by decide) (fun _ hb => (TabOk.cons (porterbase_Short_ok1 hb) TabOk.nil)) (fun x y h => by rw [porterbase_Short_link]; exact h) (kRes_ok (s := (.v .bool)) (m := 3))

abbrev hmac_cut_R : Type := ((List UInt8) × (List UInt8) × Bool × Unit)

noncomputable def hmac_cut_body : Code := (Go.Proofs.Tryd.f80.body).getD .skip

noncomputable def hmac_cut_L : List (List Nat × List Nat) := [([0], [0]), ([0, 0, 1], [9, 0]), ([1, 0, 1], [0]), ([0, 0, 1, 0, 1], [2, 3, 4]), ([1, 0, 1, 0, 1], [2, 3, 4]), ([0, 1, 1], [5, 0]), ([0, 0, 1, 1, 1], [10, 5, 0]), ([0, 1, 0, 1, 1, 1], [10, 5, 0]), ([0, 0, 0, 1, 0, 1, 1, 1], [11, 10, 5, 0]), ([0, 1, 0, 0, 1, 0, 1, 1, 1], [10, 5, 0]), ([1, 0, 1, 0, 0, 1, 0, 1, 1, 1], [0, 5]), ([0, 0, 0, 1, 1, 0, 0, 1, 0, 1, 1, 1], [5, 0, 6, 10]), ([1, 0, 0, 1, 1, 0, 0, 1, 0, 1, 1, 1], [10, 5, 0]), ([0, 1, 1, 0, 0, 1, 0, 1, 1, 1], [10, 5, 0]), ([1, 1, 1, 0, 0, 1, 0, 1, 1, 1], [10, 5, 0]), ([1, 0, 1, 1, 1], [0, 5]), ([0, 1, 1, 1, 1], [5, 0]), ([0, 0, 1, 1, 1, 1, 1], [27, 0, 5]), ([1, 0, 1, 1, 1, 1, 1], [0, 5]), ([0, 0, 1, 0, 1, 1, 1, 1, 1], [2, 3, 4]), ([1, 0, 1, 0, 1, 1, 1, 1, 1], [2, 3, 4]), ([0, 1, 1, 1, 1, 1, 1], [2, 3, 4]), ([1, 1, 1, 1, 1, 1, 1], [2, 3, 4])]

noncomputable def hmac_cut_E (N : Nat) : Env := mkEnv tys glob [] [] [] [] false [] []

theorem hmac_cut_Eok (N : Nat) : EnvOk Go.Proofs.Tryd.prog (hmac_cut_E N) := mkEnv_ok mixed tys_ok (FnsOk.nil) (ItsOk.nil)

noncomputable def hmac_cut_s1 (N : Nat) (s : (List UInt8)) (n : Int) (x10 : Int) (rec : Int → Int → Option ((List UInt8) × (List UInt8) × Bool × Unit)) (k0 : Int → Option ((List UInt8) × (List UInt8) × Bool × Unit)) : Option ((List UInt8) × (List UInt8) × Bool × Unit) :=
  cond (decide (x10 < (8 : Int)))
  (cond (Go.Lift.inR x10 (List.length s))
    (rec (Go.Lift.bitsOp Go.BinOp.or Go.IntKind.u64 (Go.Lift.shlI Go.IntKind.u64 n (8 : Int)) (Go.IntKind.wrap Go.IntKind.u64 (((UInt8.toNat (List.getD s (Int.toNat x10) (0 : UInt8))) : Nat) : Int))) (Go.IntKind.wrap Go.IntKind.i64 (x10 + (1 : Int))))
    (none))
  (k0 n)

noncomputable def hmac_cut_p1 (N : Nat) (s : (List UInt8)) (n : Int) (x10 : Int) (k0 : Int → Option ((List UInt8) × (List UInt8) × Bool × Unit)) : Option ((List UInt8) × (List UInt8) × Bool × Unit) :=
  iter (fun (v : (Int × Int)) r => hmac_cut_s1 N s v.1 v.2 (fun n x10 => (r (n, x10))) k0) N (n, x10)

noncomputable def hmac_cut_g1 (N : Nat) (i : (List UInt8)) (v : (Int × Int)) (r : (Int × Int) → Option ((List UInt8) × (List UInt8) × Bool × Unit)) (K : Ex → List A → Option ((List UInt8) × (List UInt8) × Bool × Unit)) : Option ((List UInt8) × (List UInt8) × Bool × Unit) :=
  hmac_cut_s1 N i v.1 v.2 (fun n x10 => (r (n, x10))) (fun a1 => (K (.exit 0) (mkS [(0, .v .str), (4, .v (.int .u64))] 28 (i, a1, ()))))

noncomputable def hmac_cut_h1 (N : Nat) : Hd ((List UInt8) × (List UInt8) × Bool × Unit) := fun st K => (unS [(0, .v .str), (4, .v (.int .u64)), (4, .v (.int .i64))] 23 (restr [10, 5, 0] 0 st)).bind fun x => iter (fun v r => hmac_cut_g1 N ((fun x => x.1) x) v r K) N ((fun x => (x.2.1, x.2.2.1)) x)

noncomputable def hmac_cut_t1 (N : Nat) : Tab ((List UInt8) × (List UInt8) × Bool × Unit) := []

theorem hmac_cut_ok1 {N : Nat} {c : Ctx} (hb : Base Go.Proofs.Tryd.prog (hmac_cut_E N) c) : CodeOk Go.Proofs.Tryd.prog c (nodeAt hmac_cut_body [0, 1, 0, 1, 1, 1]) (hmac_cut_h1 N) :=
  loop_ok (s := [(0, .v .str), (4, .v (.int .u64)), (4, .v (.int .i64))]) (m := 23) (hmac_cut_g1 N) [10, 5, 0] N (fun x => x.1) (fun x => (x.2.1, x.2.2.1)) (fun i v => (i, v.1, v.2, ())) (fun _ => rfl) (evN_sound hb N (hmac_cut_t1 N) hmac_cut_L hmac_cut_body TabOk.nil [0, 0, 1, 0, 1, 1, 1] _ rfl) (fun i v r K => by kernel_rfl)

noncomputable def hmac_cut (N : Nat) (s : (List UInt8)) : Option ((List UInt8) × (List UInt8) × Bool × Unit) :=
  cond (decide ((((List.length s) : Nat) : Int) < (8 : Int)))
  (some (([] : List UInt8), (([] : List UInt8), (false, ()))))
  (hmac_cut_p1 N s (0 : Int) (0 : Int)
    (fun n => cond (decide (((0 : Int) ≤ (8 : Int)) ∧ ((8 : Int) ≤ (((List.length s) : Nat) : Int))))
      (cond (decide ((Go.IntKind.wrap Go.IntKind.u64 (((List.length (Go.Lift.cut s 8 (List.length s))) : Nat) : Int)) < n))
        (some (([] : List UInt8), (([] : List UInt8), (false, ()))))
        (cond (decide (((0 : Int) ≤ n) ∧ (n ≤ (((List.length (Go.Lift.cut s 8 (List.length s))) : Nat) : Int))))
          (cond (decide (((0 : Int) ≤ n) ∧ (n ≤ (((List.length (Go.Lift.cut s 8 (List.length s))) : Nat) : Int))))
            (some ((Go.Lift.cut (Go.Lift.cut s 8 (List.length s)) 0 (Int.toNat n)), ((Go.Lift.cut (Go.Lift.cut s 8 (List.length s)) (Int.toNat n) (List.length (Go.Lift.cut s 8 (List.length s)))), (true, ()))))
            (none))
          (none)))
      (none)))

noncomputable def hmac_cut_t (N : Nat) : Tab ((List UInt8) × (List UInt8) × Bool × Unit) := [([0, 1, 0, 1, 1, 1], hmac_cut_h1 N)]

theorem hmac_cut_link (N : Nat) (x : denS [(0, .v .str)]) : evFX (hmac_cut_E N) N (hmac_cut_t N) hmac_cut_L Go.Proofs.Tryd.f80 (mkS [(0, .v .str)] 0 x) (kRes (.tup [.str, .str, .bool]) 1) = hmac_cut N x.1 := by kernel_rfl

noncomputable def hmac_cut_res (N : Nat) : List A → Res := resOf [(0, .v .str)] (fun x => hmac_cut N x.1) (oRes (.tup [.str, .str, .bool]) 1)

theorem hmac_cut_ct (N : Nat) : Contract Go.Proofs.Tryd.prog glob 80 (hmac_cut_res N) :=
  Contract.of (E := hmac_cut_E N) (H := hmac_cut_t N) (L := hmac_cut_L) (N := N) (body := hmac_cut_body) (K := (kRes (.tup [.str, .str, .bool]) 1)) (hmac_cut_Eok N) Go.Proofs.Tryd.func80 (by kernel_rfl) (by decide) (fun _ hb => (TabOk.cons (hmac_cut_ok1 hb) TabOk.nil)) (fun x y h => by rw [hmac_cut_link]; exact h) (kRes_ok (s := (.tup [.str, .str, .bool])) (m := 1))

abbrev hmac_split1_R : Type := (List ((List UInt8) × Bool × Unit))

noncomputable def hmac_split1_body : Code := (Go.Proofs.Tryd.f79.body).getD .skip

noncomputable def hmac_split1_L : List (List Nat × List Nat) := [([0], [3, 0]), ([0, 1], [3, 0]), ([0, 0, 0, 0, 1], [9, 3, 0]), ([1, 0, 0, 0, 1], [3, 0]), ([1, 1, 0, 0, 0, 1], [0]), ([0, 0, 1, 0, 0, 1], [0, 4, 6, 5]), ([0, 0, 1, 0, 1, 0, 0, 1], [24, 0, 5]), ([1, 0, 1, 0, 1, 0, 0, 1], [5, 0]), ([0, 1, 0, 1, 0, 1, 0, 0, 1], [0]), ([1, 1, 0, 1, 0, 0, 1], [3, 0]), ([1, 0, 0, 1], [3, 0]), ([1], [0])]

noncomputable def hmac_split1_E (N : Nat) : Env := mkEnv tys glob [(80, hmac_cut_res N)] [] [] [0] false [] []

theorem hmac_split1_Eok (N : Nat) : EnvOk Go.Proofs.Tryd.prog (hmac_split1_E N) := mkEnv_ok mixed tys_ok (FnsOk.cons (hmac_cut_ct N) (FnsOk.nil)) ItsOk.nil

noncomputable def hmac_split1_s1 (N : Nat) (s : (List UInt8)) (rec : (List UInt8) → Option (List ((List UInt8) × Bool × Unit))) (k0 : Option (List ((List UInt8) × Bool × Unit))) (k1 : Option (List ((List UInt8) × Bool × Unit))) : Option (List ((List UInt8) × Bool × Unit)) :=
  cond (!(s == ([] : List UInt8)))
  ((hmac_cut N s).bind fun y =>
    comb (y.1, (y.2.2.1, ()))
    (cond (!y.2.2.1)
      (k0)
      (rec y.2.1))
    (k0))
  (k1)

noncomputable def hmac_split1_p1 (N : Nat) (s : (List UInt8)) (k0 : Option (List ((List UInt8) × Bool × Unit))) (k1 : Option (List ((List UInt8) × Bool × Unit))) : Option (List ((List UInt8) × Bool × Unit)) :=
  iter (fun (v : (List UInt8)) r => hmac_split1_s1 N v (fun s => (r s)) k0 k1) N s

noncomputable def hmac_split1_g1 (N : Nat) (i : Unit) (v : (List UInt8)) (r : (List UInt8) → Option (List ((List UInt8) × Bool × Unit))) (K : Ex → List A → Option (List ((List UInt8) × Bool × Unit))) : Option (List ((List UInt8) × Bool × Unit)) :=
  hmac_split1_s1 N v (fun s => (r s)) (K .ret (mkS [(0, .yld)] 25 ((), ()))) (K (.exit 0) (mkS [(0, .yld)] 25 ((), ())))

noncomputable def hmac_split1_h1 (N : Nat) : Hd (List ((List UInt8) × Bool × Unit)) := fun st K => (unS [(0, .yld), (2, .v .str)] 22 (restr [3, 0] 0 st)).bind fun x => iter (fun v r => hmac_split1_g1 N ((fun x => ()) x) v r K) N ((fun x => x.2.1) x)

noncomputable def hmac_split1_t1 (N : Nat) : Tab (List ((List UInt8) × Bool × Unit)) := []

theorem hmac_split1_ok1 {N : Nat} {G : GY [.str, .bool]} (hG : RestrOk G) (hev : EvOk G Go.Proofs.Tryd.prog (hmac_split1_E N) N hmac_split1_L hmac_split1_body) : YOk G Go.Proofs.Tryd.prog (nodeAt hmac_split1_body [0, 1]) (hmac_split1_h1 N) :=
  loopY_ok hG (s := [(0, .yld), (2, .v .str)]) (m := 22) (hmac_split1_g1 N) [3, 0] N (fun x => ()) (fun x => x.2.1) (fun i v => ((), v, ())) (fun _ => rfl) (hev (hmac_split1_t1 N) TabOkY.nil [0, 0, 1]) (fun i v r K => by kernel_rfl)

noncomputable def hmac_split1 (N : Nat) (x1 : (List UInt8)) : Option (List ((List UInt8) × Bool × Unit)) :=
  hmac_split1_p1 N x1
  (some ([] : List ((List UInt8) × (Bool × Unit))))
  (some ([] : List ((List UInt8) × (Bool × Unit))))

noncomputable def hmac_split1_t (N : Nat) : Tab (List ((List UInt8) × Bool × Unit)) := [([0, 1], hmac_split1_h1 N)]

theorem hmac_split1_link (N : Nat) (x : T.den (.pair (.ptr .str) .unit)) : evYX (hmac_split1_E N) [.str, .bool] comb N (hmac_split1_t N) hmac_split1_L Go.Proofs.Tryd.f79 [.v (.ptr .str) x.1] = hmac_split1 N x.1 := by kernel_rfl

noncomputable def hmac_split1_itr (N : Nat) : Dat → ItRes := itRes (ts := [.str, .bool]) (.pair (.ptr .str) .unit) (fun x => hmac_split1 N x.1)

theorem hmac_split1_it (N : Nat) : ItOk Go.Proofs.Tryd.prog glob 79 (hmac_split1_itr N) := ItOk.of (ts := [.str, .bool]) (E := hmac_split1_E N) (H := hmac_split1_t N) (L := hmac_split1_L) (N := N) (body := hmac_split1_body) (hmac_split1_Eok N) rfl Go.Proofs.Tryd.func79 (by kernel_rfl) (by decide) (fun G hG hev => (TabOkY.cons (hmac_split1_ok1 hG hev) TabOkY.nil)) (fun x y h => ⟨_, rfl, by rw [hmac_split1_link]; exact h⟩)

abbrev hmac_split_R : Type := ((List UInt8) × Unit)

noncomputable def hmac_split_body : Code := (Go.Proofs.Tryd.f63.body).getD .skip

noncomputable def hmac_split_L : List (List Nat × List Nat) := [([0], [1]), ([0, 1], [2]), ([1, 1], [2])]

noncomputable def hmac_split_E (N : Nat) : Env := mkEnv tys glob [] [] [] [] false [] [(79, hmac_split1_itr N)]

theorem hmac_split_Eok (N : Nat) : EnvOk Go.Proofs.Tryd.prog (hmac_split_E N) := mkEnv_ok mixed tys_ok (FnsOk.nil) (ItsOk.cons (hmac_split1_it N) (ItsOk.nil))

noncomputable def hmac_split (N : Nat) (s : (List UInt8)) : Option ((List UInt8) × Unit) :=
  some (s, ())

noncomputable def hmac_split_t (N : Nat) : Tab ((List UInt8) × Unit) := []

theorem hmac_split_link (N : Nat) (x : denS [(0, .v .str)]) : evFX (hmac_split_E N) N (hmac_split_t N) hmac_split_L Go.Proofs.Tryd.f63 (mkS [(0, .v .str)] 0 x) (kRes (.v (.fn 79 (.pair (.ptr .str) .unit))) 1) = hmac_split N x.1 := by kernel_rfl

noncomputable def hmac_split_res (N : Nat) : List A → Res := resOf [(0, .v .str)] (fun x => hmac_split N x.1) (oRes (.v (.fn 79 (.pair (.ptr .str) .unit))) 1)

theorem hmac_split_ct (N : Nat) : Contract Go.Proofs.Tryd.prog glob 63 (hmac_split_res N) :=
  Contract.of (E := hmac_split_E N) (H := hmac_split_t N) (L := hmac_split_L) (N := N) (body := hmac_split_body) (K := (kRes (.v (.fn 79 (.pair (.ptr .str) .unit))) 1)) (hmac_split_Eok N) Go.Proofs.Tryd.func63 (by kernel_rfl) (by decide) (fun _ hb => TabOk.nil) (fun x y h => by rw [hmac_split_link]; exact h) (kRes_ok (s := (.v (.fn 79 (.pair (.ptr .str) .unit)))) (m := 1))

abbrev hmac_Split_R : Type := ((List (List UInt8)) × Bool × Unit)

noncomputable def hmac_Split_body : Code := (Go.Proofs.Tryd.f36.body).getD .skip

noncomputable def hmac_Split_L : List (List Nat × List Nat) := [([0], [0, 2, 3]), ([0, 1], [0, 4, 2, 3]), ([0, 0, 1, 1], [8, 4, 2, 3]), ([0, 1, 0, 1, 1], [4, 2, 3]), ([0, 0, 0, 1, 0, 1, 1], [10, 2, 3, 4, 5]), ([1, 0, 0, 1, 0, 1, 1], [6, 2, 3, 4, 5]), ([0, 0, 0, 1, 0, 1, 0, 1, 1], [12, 2, 3, 4, 5]), ([1, 0, 0, 1, 0, 1, 0, 1, 1], [4, 5, 2, 3]), ([0, 0, 1, 0, 0, 1, 0, 1, 0, 1, 1], [2, 3]), ([1, 0, 1, 0, 0, 1, 0, 1, 0, 1, 1], [2, 3]), ([1, 0, 1, 0, 1, 0, 1, 1], [4, 2, 3]), ([1, 0, 1, 0, 1, 1], [4, 2, 3]), ([1, 0, 1, 1], [4, 2, 3]), ([0, 1, 1, 1], [2, 3]), ([1, 1, 1, 1], [2, 3])]

noncomputable def hmac_Split_E (N : Nat) : Env := mkEnv tys glob [(63, hmac_split_res N)] [] [] [] false [(4, (.own .str))] [(79, hmac_split1_itr N)]

theorem hmac_Split_Eok (N : Nat) : EnvOk Go.Proofs.Tryd.prog (hmac_Split_E N) := mkEnv_ok mixed tys_ok (FnsOk.cons (hmac_split_ct N) (FnsOk.nil)) (ItsOk.cons (hmac_split1_it N) (ItsOk.nil))

noncomputable def hmac_Split_s1 (N : Nat) (x2_1 : (List (List UInt8))) (x3_1 : Bool) (parts_1 : (List (List UInt8))) (y : ((List UInt8) × Bool × Unit)) (rec : (List (List UInt8)) → Option ((List (List UInt8)) × Bool × Unit)) (k0 : (List (List UInt8)) → Bool → (List (List UInt8)) → Option ((List (List UInt8)) × Bool × Unit)) (k1 : (List (List UInt8)) → Option ((List (List UInt8)) × Bool × Unit)) : Option ((List (List UInt8)) × Bool × Unit) :=
  cond (!y.2.1)
  (k0 ([] : List (List UInt8)) false parts_1)
  (cond (decide ((((List.length parts_1) + 1) * 16) ≤ 70368744177664))
    (rec (parts_1 ++ ([y.1] : List (List UInt8))))
    (none))

noncomputable def hmac_Split_fit1 (N : Nat) (x2 : (List (List UInt8))) (x3 : Bool) (parts : (List (List UInt8))) (x8 : ((List UInt8) × Unit)) : Option (List ((List UInt8) × Bool × Unit)) := (hmac_split1 N x8.1)

noncomputable def hmac_Split_i1 (N : Nat) (x2 : (List (List UInt8))) (x3 : Bool) (parts : (List (List UInt8))) (x8 : ((List UInt8) × Unit)) : ((List (List UInt8)) × Bool) := (x2, x3)

noncomputable def hmac_Split_v1 (N : Nat) (x2 : (List (List UInt8))) (x3 : Bool) (parts : (List (List UInt8))) (x8 : ((List UInt8) × Unit)) : (List (List UInt8)) := parts

noncomputable def hmac_Split_p1 (N : Nat) (x2 : (List (List UInt8))) (x3 : Bool) (parts : (List (List UInt8))) (x8 : ((List UInt8) × Unit)) (k0 : (List (List UInt8)) → Bool → (List (List UInt8)) → Option ((List (List UInt8)) × Bool × Unit)) (k1 : (List (List UInt8)) → Option ((List (List UInt8)) × Bool × Unit)) : Option ((List (List UInt8)) × Bool × Unit) :=
  (hmac_Split_fit1 N x2 x3 parts x8).bind fun ys => iterL (fun (y : ((List UInt8) × Bool × Unit)) (v : (List (List UInt8))) r => hmac_Split_s1 N x2 x3 v y (fun parts_1 => (r parts_1)) k0 k1) (fun (v : (List (List UInt8))) => k1 v) ys parts

noncomputable def hmac_Split_g1 (N : Nat) (y : ((List UInt8) × Bool × Unit)) (i : ((List (List UInt8)) × Bool)) (v : (List (List UInt8))) (r : (List (List UInt8)) → Option ((List (List UInt8)) × Bool × Unit)) (K : Ex → List A → Option ((List (List UInt8)) × Bool × Unit)) : Option ((List (List UInt8)) × Bool × Unit) :=
  hmac_Split_s1 N i.1 i.2 v y (fun parts_1 => (r parts_1)) (fun a0 a1 a2 => (K .ret (mkS [(2, .box (.sl .str)), (0, .box .bool), (0, .box (.own .str))] 13 (a0, a1, a2, ())))) (fun a2 => (K .normal (mkS [(2, .box (.sl .str)), (0, .box .bool), (0, .box (.own .str))] 13 (i.1, i.2, a2, ()))))

noncomputable def hmac_Split_h1 (N : Nat) : Hd ((List (List UInt8)) × Bool × Unit) := fun st K => (unS [(2, .box (.sl .str)), (0, .box .bool), (0, .box (.own .str)), (3, .v (.fn 79 (.pair (.ptr .str) .unit)))] 9 (restr [8, 4, 2, 3] 0 st)).bind fun x => ((fun x => hmac_Split_fit1 N x.1 x.2.1 x.2.2.1 x.2.2.2.1) x).bind fun xs => iterL (fun y v r => hmac_Split_g1 N y ((fun x => hmac_Split_i1 N x.1 x.2.1 x.2.2.1 x.2.2.2.1) x) v r K) (fun v => K .normal (mkS [(2, .box (.sl .str)), (0, .box .bool), (0, .box (.own .str))] 13 ((fun i v => (i.1, i.2, v, ())) ((fun x => hmac_Split_i1 N x.1 x.2.1 x.2.2.1 x.2.2.2.1) x) v))) xs ((fun x => hmac_Split_v1 N x.1 x.2.1 x.2.2.1 x.2.2.2.1) x)

noncomputable def hmac_Split_t1 (N : Nat) : Tab ((List (List UInt8)) × Bool × Unit) := []

theorem hmac_Split_ok1 {N : Nat} {c : Ctx} (hb : Base Go.Proofs.Tryd.prog (hmac_Split_E N) c) : CodeOk Go.Proofs.Tryd.prog c (nodeAt hmac_Split_body [0, 1, 0, 1, 1]) (hmac_Split_h1 N) :=
  rf_ok (ts := [.str, .bool]) (s := [(2, .box (.sl .str)), (0, .box .bool), (0, .box (.own .str)), (3, .v (.fn 79 (.pair (.ptr .str) .unit)))]) (m := 9) (s2 := [(2, .box (.sl .str)), (0, .box .bool), (0, .box (.own .str))]) (m2 := 13) [8, 4, 2, 3] (fun x => hmac_Split_fit1 N x.1 x.2.1 x.2.2.1 x.2.2.2.1) (fun x => hmac_Split_i1 N x.1 x.2.1 x.2.2.1 x.2.2.2.1) (fun x => hmac_Split_v1 N x.1 x.2.1 x.2.2.1 x.2.2.2.1) (fun i v => (i.1, i.2, v, ())) (rfF (hmac_Split_E N) N [.str, .bool] (nodeAt hmac_Split_body [0, 1, 0, 1, 1])) (hmac_Split_g1 N) (evN_sound hb N [] hmac_Split_L hmac_Split_body TabOk.nil [0, 1, 0, 1, 1] _ rfl) (fun x K => by kernel_rfl) (fun y i v r K => by kernel_rfl)

noncomputable def hmac_Split (N : Nat) (s : (List UInt8)) : Option ((List (List UInt8)) × Bool × Unit) :=
  hmac_Split_p1 N ([] : List (List UInt8)) false ([] : List (List UInt8)) (s, ())
  (fun x2 x3 parts => some (x2, (x3, ())))
  (fun parts_1 => some (parts_1, (true, ())))

noncomputable def hmac_Split_t (N : Nat) : Tab ((List (List UInt8)) × Bool × Unit) := [([0, 1, 0, 1, 1], hmac_Split_h1 N)]

theorem hmac_Split_link (N : Nat) (x : denS [(0, .v .str)]) : evFX (hmac_Split_E N) N (hmac_Split_t N) hmac_Split_L Go.Proofs.Tryd.f36 (mkS [(0, .v .str)] 0 x) (kRes (.tup [(.sl .str), .bool]) 1) = hmac_Split N x.1 := by kernel_rfl

noncomputable def hmac_Split_res (N : Nat) : List A → Res := resOf [(0, .v .str)] (fun x => hmac_Split N x.1) (oRes (.tup [(.sl .str), .bool]) 1)

theorem hmac_Split_ct (N : Nat) : Contract Go.Proofs.Tryd.prog glob 36 (hmac_Split_res N) :=
  Contract.of (E := hmac_Split_E N) (H := hmac_Split_t N) (L := hmac_Split_L) (N := N) (body := hmac_Split_body) (K := (kRes (.tup [(.sl .str), .bool]) 1)) (hmac_Split_Eok N) Go.Proofs.Tryd.func36 (by kernel_rfl) (by decide) (fun _ hb => (TabOk.cons (hmac_Split_ok1 hb) TabOk.nil)) (fun x y h => by rw [hmac_Split_link]; exact h) (kRes_ok (s := (.tup [(.sl .str), .bool])) (m := 1))

abbrev sha_First_R : Type := (List Int)

noncomputable def sha_First_body : Code := (Go.Proofs.Tryd.f22.body).getD .skip

noncomputable def sha_First_L : List (List Nat × List Nat) := [([0], [0]), ([0, 1], [0]), ([1, 1], [0])]

noncomputable def sha_First_E (N : Nat) : Env := mkEnv tys glob [] [] [] [] false [] [(79, hmac_split1_itr N)]

theorem sha_First_Eok (N : Nat) : EnvOk Go.Proofs.Tryd.prog (sha_First_E N) := mkEnv_ok mixed tys_ok (FnsOk.nil) (ItsOk.cons (hmac_split1_it N) (ItsOk.nil))

noncomputable def sha_First (N : Nat) : Option (List Int) :=
  some ([(1779033703 : Int), (3144134277 : Int), (1013904242 : Int), (2773480762 : Int), (1359893119 : Int), (2600822924 : Int), (528734635 : Int), (1541459225 : Int)] : List Int)

noncomputable def sha_First_t (N : Nat) : Tab (List Int) := []

theorem sha_First_link (N : Nat) (x : denS []) : evFX (sha_First_E N) N (sha_First_t N) sha_First_L Go.Proofs.Tryd.f22 (mkS [] 0 x) (kRes (.v (.arr 8 (.int .u32))) 0) = sha_First N := by kernel_rfl

noncomputable def sha_First_res (N : Nat) : List A → Res := resOf [] (fun x => sha_First N) (oRes (.v (.arr 8 (.int .u32))) 0)

theorem sha_First_ct (N : Nat) : Contract Go.Proofs.Tryd.prog glob 22 (sha_First_res N) :=
  Contract.of (E := sha_First_E N) (H := sha_First_t N) (L := sha_First_L) (N := N) (body := sha_First_body) (K := (kRes (.v (.arr 8 (.int .u32))) 0)) (sha_First_Eok N) Go.Proofs.Tryd.func22 (by kernel_rfl) (by decide) (fun _ hb => TabOk.nil) (fun x y h => by rw [sha_First_link]; exact h) (kRes_ok (s := (.v (.arr 8 (.int .u32)))) (m := 0))

abbrev sha_New_R : Type := (Bool × ((List Int) × ((List UInt8) × (Int × Unit))))

noncomputable def sha_New_body : Code := (Go.Proofs.Tryd.f24.body).getD .skip

noncomputable def sha_New_L : List (List Nat × List Nat) := [([0], []), ([0, 1], [0]), ([1, 1], [0])]

noncomputable def sha_New_E (N : Nat) : Env := mkEnv tys glob [(22, sha_First_res N)] [] [] [] false [] [(79, hmac_split1_itr N)]

theorem sha_New_Eok (N : Nat) : EnvOk Go.Proofs.Tryd.prog (sha_New_E N) := mkEnv_ok mixed tys_ok (FnsOk.cons (sha_First_ct N) (FnsOk.nil)) (ItsOk.cons (hmac_split1_it N) (ItsOk.nil))

noncomputable def sha_New (N : Nat) : Option (Bool × ((List Int) × ((List UInt8) × (Int × Unit)))) :=
  some (true, (([(1779033703 : Int), (3144134277 : Int), (1013904242 : Int), (2773480762 : Int), (1359893119 : Int), (2600822924 : Int), (528734635 : Int), (1541459225 : Int)] : List Int), (([] : List UInt8), ((0 : Int), ()))))

noncomputable def sha_New_t (N : Nat) : Tab (Bool × ((List Int) × ((List UInt8) × (Int × Unit)))) := []

theorem sha_New_link (N : Nat) (x : denS []) : evFX (sha_New_E N) N (sha_New_t N) sha_New_L Go.Proofs.Tryd.f24 (mkS [] 0 x) (kRes (.box (.pair .bool (.pair (.arr 8 (.int .u32)) (.pair .str (.pair (.int .i64) .unit))))) 0) = sha_New N := by kernel_rfl

noncomputable def sha_New_res (N : Nat) : List A → Res := resOf [] (fun x => sha_New N) (oRes (.box (.pair .bool (.pair (.arr 8 (.int .u32)) (.pair .str (.pair (.int .i64) .unit))))) 0)

theorem sha_New_ct (N : Nat) : Contract Go.Proofs.Tryd.prog glob 24 (sha_New_res N) :=
  Contract.of (E := sha_New_E N) (H := sha_New_t N) (L := sha_New_L) (N := N) (body := sha_New_body) (K := (kRes (.box (.pair .bool (.pair (.arr 8 (.int .u32)) (.pair .str (.pair (.int .i64) .unit))))) 0)) (sha_New_Eok N) Go.Proofs.Tryd.func24 (by kernel_rfl) (by decide) (fun _ hb => TabOk.nil) (fun x y h => by rw [sha_New_link]; exact h) (kRes_ok (s := (.box (.pair .bool (.pair (.arr 8 (.int .u32)) (.pair .str (.pair (.int .i64) .unit)))))) (m := 0))

abbrev math_bits_RotateLeft32_R : Type := Int

noncomputable def math_bits_RotateLeft32_body : Code := (Go.Proofs.Tryd.f84.body).getD .skip

noncomputable def math_bits_RotateLeft32_L : List (List Nat × List Nat) := [([0], [1, 0]), ([0, 1], [0, 5]), ([0, 1, 1], [4]), ([1, 1, 1], [4])]

noncomputable def math_bits_RotateLeft32_E (N : Nat) : Env := mkEnv tys glob [] [] [] [] false [] [(79, hmac_split1_itr N)]

theorem math_bits_RotateLeft32_Eok (N : Nat) : EnvOk Go.Proofs.Tryd.prog (math_bits_RotateLeft32_E N) := mkEnv_ok mixed tys_ok (FnsOk.nil) (ItsOk.cons (hmac_split1_it N) (ItsOk.nil))

noncomputable def math_bits_RotateLeft32 (N : Nat) (x0 : Int) (k : Int) : Option Int :=
  cond (decide ((0 : Int) ≤ (Go.IntKind.wrap Go.IntKind.u64 ((32 : Int) - (Go.Lift.bitsOp Go.BinOp.and Go.IntKind.u64 (Go.IntKind.wrap Go.IntKind.u64 k) (31 : Int))))))
  (some (Go.Lift.bitsOp Go.BinOp.or Go.IntKind.u32 (Go.Lift.shlI Go.IntKind.u32 x0 (Go.Lift.bitsOp Go.BinOp.and Go.IntKind.u64 (Go.IntKind.wrap Go.IntKind.u64 k) (31 : Int))) (Go.Lift.shrI Go.IntKind.u32 x0 (Go.IntKind.wrap Go.IntKind.u64 ((32 : Int) - (Go.Lift.bitsOp Go.BinOp.and Go.IntKind.u64 (Go.IntKind.wrap Go.IntKind.u64 k) (31 : Int)))))))
  (none)

noncomputable def math_bits_RotateLeft32_t (N : Nat) : Tab Int := []

theorem math_bits_RotateLeft32_link (N : Nat) (x : denS [(0, .v (.int .u32)), (0, .v (.int .i64))]) : evFX (math_bits_RotateLeft32_E N) N (math_bits_RotateLeft32_t N) math_bits_RotateLeft32_L Go.Proofs.Tryd.f84 (mkS [(0, .v (.int .u32)), (0, .v (.int .i64))] 0 x) (kRes (.v (.int .u32)) 2) = math_bits_RotateLeft32 N x.1 x.2.1 := by kernel_rfl

noncomputable def math_bits_RotateLeft32_res (N : Nat) : List A → Res := resOf [(0, .v (.int .u32)), (0, .v (.int .i64))] (fun x => math_bits_RotateLeft32 N x.1 x.2.1) (oRes (.v (.int .u32)) 2)

theorem math_bits_RotateLeft32_ct (N : Nat) : Contract Go.Proofs.Tryd.prog glob 84 (math_bits_RotateLeft32_res N) :=
  Contract.of (E := math_bits_RotateLeft32_E N) (H := math_bits_RotateLeft32_t N) (L := math_bits_RotateLeft32_L) (N := N) (body := math_bits_RotateLeft32_body) (K := (kRes (.v (.int .u32)) 2)) (math_bits_RotateLeft32_Eok N) Go.Proofs.Tryd.func84 (by kernel_rfl) (by decide) (fun _ hb => TabOk.nil) (fun x y h => by rw [math_bits_RotateLeft32_link]; exact h) (kRes_ok (s := (.v (.int .u32))) (m := 2))

abbrev sha_ror_R : Type := Int

noncomputable def sha_ror_body : Code := (Go.Proofs.Tryd.f73.body).getD .skip

noncomputable def sha_ror_L : List (List Nat × List Nat) := [([0], [0, 1]), ([0, 1], [4]), ([1, 1], [4])]

noncomputable def sha_ror_E (N : Nat) : Env := mkEnv tys glob [(84, math_bits_RotateLeft32_res N)] [] [] [] false [] [(79, hmac_split1_itr N)]

theorem sha_ror_Eok (N : Nat) : EnvOk Go.Proofs.Tryd.prog (sha_ror_E N) := mkEnv_ok mixed tys_ok (FnsOk.cons (math_bits_RotateLeft32_ct N) (FnsOk.nil)) (ItsOk.cons (hmac_split1_it N) (ItsOk.nil))

noncomputable def sha_ror (N : Nat) (x0 : Int) (n : Int) : Option Int :=
  (math_bits_RotateLeft32 N x0 (Go.IntKind.wrap Go.IntKind.i64 ((0 : Int) - n))).bind fun y =>
  some y

noncomputable def sha_ror_t (N : Nat) : Tab Int := []

theorem sha_ror_link (N : Nat) (x : denS [(0, .v (.int .u32)), (0, .v (.int .i64))]) : evFX (sha_ror_E N) N (sha_ror_t N) sha_ror_L Go.Proofs.Tryd.f73 (mkS [(0, .v (.int .u32)), (0, .v (.int .i64))] 0 x) (kRes (.v (.int .u32)) 2) = sha_ror N x.1 x.2.1 := by kernel_rfl

noncomputable def sha_ror_res (N : Nat) : List A → Res := resOf [(0, .v (.int .u32)), (0, .v (.int .i64))] (fun x => sha_ror N x.1 x.2.1) (oRes (.v (.int .u32)) 2)

theorem sha_ror_ct (N : Nat) : Contract Go.Proofs.Tryd.prog glob 73 (sha_ror_res N) :=
  Contract.of (E := sha_ror_E N) (H := sha_ror_t N) (L := sha_ror_L) (N := N) (body := sha_ror_body) (K := (kRes (.v (.int .u32)) 2)) (sha_ror_Eok N) Go.Proofs.Tryd.func73 (by kernel_rfl) (by decide) (fun _ hb => TabOk.nil) (fun x y h => by rw [sha_ror_link]; exact h) (kRes_ok (s := (.v (.int .u32))) (m := 2))

abbrev sha_schedule_R : Type := (List Int)

noncomputable def sha_schedule_body : Code := (Go.Proofs.Tryd.f52.body).getD .skip

noncomputable def sha_schedule_L : List (List Nat × List Nat) := [([0], [0, 2]), ([0, 1], [0, 3, 2]), ([0, 0, 1, 1], [11, 0, 3, 2]), ([0, 1, 0, 1, 1], [11, 0, 3, 2]), ([0, 0, 0, 1, 0, 1, 1], [12, 11, 0, 3, 2]), ([0, 1, 0, 0, 1, 0, 1, 1], [11, 0, 3, 2]), ([1, 0, 1, 0, 0, 1, 0, 1, 1], [3, 2]), ([0, 0, 0, 1, 1, 0, 0, 1, 0, 1, 1], [0, 4, 3, 11, 2]), ([0, 1, 0, 0, 1, 1, 0, 0, 1, 0, 1, 1], [4, 5, 3, 11, 0, 2]), ([1, 1, 0, 0, 1, 1, 0, 0, 1, 0, 1, 1], [11, 0, 3, 2]), ([0, 1, 1, 0, 0, 1, 0, 1, 1], [11, 0, 3, 2]), ([1, 1, 1, 0, 0, 1, 0, 1, 1], [11, 0, 3, 2]), ([1, 0, 1, 1], [3, 2]), ([0, 0, 1, 1, 1], [6, 3, 2]), ([0, 1, 0, 1, 1, 1], [6, 3, 2]), ([0, 0, 0, 0, 1, 0, 1, 1, 1], [43, 6, 3, 2]), ([1, 0, 0, 0, 1, 0, 1, 1, 1], [6, 3, 2]), ([1, 1, 0, 0, 0, 1, 0, 1, 1, 1], [3, 2]), ([0, 0, 0, 1, 0, 0, 1, 0, 1, 1, 1], [7, 8, 6, 3, 2]), ([0, 1, 0, 0, 1, 0, 0, 1, 0, 1, 1, 1], [8, 6, 3, 9, 2]), ([0, 1, 1, 0, 0, 1, 0, 0, 1, 0, 1, 1, 1], [6, 10, 3, 9, 2]), ([1, 1, 1, 0, 0, 1, 0, 0, 1, 0, 1, 1, 1], [6, 3, 2]), ([0, 1, 0, 0, 1, 0, 1, 1, 1], [6, 3, 2]), ([1, 1, 0, 0, 1, 0, 1, 1, 1], [6, 3, 2]), ([1, 0, 1, 1, 1], [3, 2]), ([0, 1, 1, 1, 1], [2]), ([1, 1, 1, 1, 1], [2])]

noncomputable def sha_schedule_E (N : Nat) : Env := mkEnv tys glob [(73, sha_ror_res N)] [] [] [] false [] [(79, hmac_split1_itr N)]

theorem sha_schedule_Eok (N : Nat) : EnvOk Go.Proofs.Tryd.prog (sha_schedule_E N) := mkEnv_ok mixed tys_ok (FnsOk.cons (sha_ror_ct N) (FnsOk.nil)) (ItsOk.cons (hmac_split1_it N) (ItsOk.nil))

noncomputable def sha_schedule_s1 (N : Nat) (block : (List UInt8)) (x2 : (List Int)) (w : (List Int)) (x11 : Int) (rec : (List Int) → Int → Option (List Int)) (k0 : (List Int) → Option (List Int)) : Option (List Int) :=
  cond (decide (x11 < (16 : Int)))
  (cond (decide (((0 : Int) ≤ (Go.IntKind.wrap Go.IntKind.i64 ((Go.IntKind.wrap Go.IntKind.i64 ((4 : Int) * x11)) + (4 : Int)))) ∧ ((Go.IntKind.wrap Go.IntKind.i64 ((Go.IntKind.wrap Go.IntKind.i64 ((4 : Int) * x11)) + (4 : Int))) ≤ (((List.length block) : Nat) : Int))))
    (cond (decide (((0 : Int) ≤ (Go.IntKind.wrap Go.IntKind.i64 ((4 : Int) * x11))) ∧ ((Go.IntKind.wrap Go.IntKind.i64 ((4 : Int) * x11)) ≤ (Go.IntKind.wrap Go.IntKind.i64 ((Go.IntKind.wrap Go.IntKind.i64 ((4 : Int) * x11)) + (4 : Int))))))
      (cond (Go.Lift.inR (0 : Int) (List.length (Go.Lift.cut block (Int.toNat (Go.IntKind.wrap Go.IntKind.i64 ((4 : Int) * x11))) (Int.toNat (Go.IntKind.wrap Go.IntKind.i64 ((Go.IntKind.wrap Go.IntKind.i64 ((4 : Int) * x11)) + (4 : Int)))))))
        (cond (Go.Lift.inR (1 : Int) (List.length (Go.Lift.cut block (Int.toNat (Go.IntKind.wrap Go.IntKind.i64 ((4 : Int) * x11))) (Int.toNat (Go.IntKind.wrap Go.IntKind.i64 ((Go.IntKind.wrap Go.IntKind.i64 ((4 : Int) * x11)) + (4 : Int)))))))
          (cond (Go.Lift.inR (2 : Int) (List.length (Go.Lift.cut block (Int.toNat (Go.IntKind.wrap Go.IntKind.i64 ((4 : Int) * x11))) (Int.toNat (Go.IntKind.wrap Go.IntKind.i64 ((Go.IntKind.wrap Go.IntKind.i64 ((4 : Int) * x11)) + (4 : Int)))))))
            (cond (Go.Lift.inR (3 : Int) (List.length (Go.Lift.cut block (Int.toNat (Go.IntKind.wrap Go.IntKind.i64 ((4 : Int) * x11))) (Int.toNat (Go.IntKind.wrap Go.IntKind.i64 ((Go.IntKind.wrap Go.IntKind.i64 ((4 : Int) * x11)) + (4 : Int)))))))
              (cond (Go.Lift.inR x11 64)
                (cond (decide ((Int.toNat x11) < (List.length w)))
                  (rec (List.set w (Int.toNat x11) (Go.Lift.bitsOp Go.BinOp.or Go.IntKind.u32 (Go.Lift.bitsOp Go.BinOp.or Go.IntKind.u32 (Go.Lift.bitsOp Go.BinOp.or Go.IntKind.u32 (Go.Lift.shlI Go.IntKind.u32 (Go.IntKind.wrap Go.IntKind.u32 (((UInt8.toNat (List.getD (Go.Lift.cut block (Int.toNat (Go.IntKind.wrap Go.IntKind.i64 ((4 : Int) * x11))) (Int.toNat (Go.IntKind.wrap Go.IntKind.i64 ((Go.IntKind.wrap Go.IntKind.i64 ((4 : Int) * x11)) + (4 : Int))))) 0 (0 : UInt8))) : Nat) : Int)) (24 : Int)) (Go.Lift.shlI Go.IntKind.u32 (Go.IntKind.wrap Go.IntKind.u32 (((UInt8.toNat (List.getD (Go.Lift.cut block (Int.toNat (Go.IntKind.wrap Go.IntKind.i64 ((4 : Int) * x11))) (Int.toNat (Go.IntKind.wrap Go.IntKind.i64 ((Go.IntKind.wrap Go.IntKind.i64 ((4 : Int) * x11)) + (4 : Int))))) 1 (0 : UInt8))) : Nat) : Int)) (16 : Int))) (Go.Lift.shlI Go.IntKind.u32 (Go.IntKind.wrap Go.IntKind.u32 (((UInt8.toNat (List.getD (Go.Lift.cut block (Int.toNat (Go.IntKind.wrap Go.IntKind.i64 ((4 : Int) * x11))) (Int.toNat (Go.IntKind.wrap Go.IntKind.i64 ((Go.IntKind.wrap Go.IntKind.i64 ((4 : Int) * x11)) + (4 : Int))))) 2 (0 : UInt8))) : Nat) : Int)) (8 : Int))) (Go.IntKind.wrap Go.IntKind.u32 (((UInt8.toNat (List.getD (Go.Lift.cut block (Int.toNat (Go.IntKind.wrap Go.IntKind.i64 ((4 : Int) * x11))) (Int.toNat (Go.IntKind.wrap Go.IntKind.i64 ((Go.IntKind.wrap Go.IntKind.i64 ((4 : Int) * x11)) + (4 : Int))))) 3 (0 : UInt8))) : Nat) : Int)))) (Go.IntKind.wrap Go.IntKind.i64 (x11 + (1 : Int))))
                  (none))
                (none))
              (none))
            (none))
          (none))
        (none))
      (none))
    (none))
  (k0 w)

noncomputable def sha_schedule_p1 (N : Nat) (block : (List UInt8)) (x2 : (List Int)) (w : (List Int)) (x11 : Int) (k0 : (List Int) → Option (List Int)) : Option (List Int) :=
  iter (fun (v : ((List Int) × Int)) r => sha_schedule_s1 N block x2 v.1 v.2 (fun w x11 => (r (w, x11))) k0) N (w, x11)

noncomputable def sha_schedule_g1 (N : Nat) (i : ((List UInt8) × (List Int))) (v : ((List Int) × Int)) (r : ((List Int) × Int) → Option (List Int)) (K : Ex → List A → Option (List Int)) : Option (List Int) :=
  sha_schedule_s1 N i.1 i.2 v.1 v.2 (fun w x11 => (r (w, x11))) (fun a1 => (K (.exit 0) (mkS [(2, .box (.arr 64 (.int .u32))), (0, .box (.arr 64 (.int .u32)))] 82 (i.2, a1, ()))))

noncomputable def sha_schedule_h1 (N : Nat) : Hd (List Int) := fun st K => (unS [(0, .v .str), (1, .box (.arr 64 (.int .u32))), (0, .box (.arr 64 (.int .u32))), (7, .v (.int .i64))] 74 (restr [11, 0, 3, 2] 0 st)).bind fun x => iter (fun v r => sha_schedule_g1 N ((fun x => (x.1, x.2.1)) x) v r K) N ((fun x => (x.2.2.1, x.2.2.2.1)) x)

noncomputable def sha_schedule_t1 (N : Nat) : Tab (List Int) := []

theorem sha_schedule_ok1 {N : Nat} {c : Ctx} (hb : Base Go.Proofs.Tryd.prog (sha_schedule_E N) c) : CodeOk Go.Proofs.Tryd.prog c (nodeAt sha_schedule_body [0, 1, 0, 1, 1]) (sha_schedule_h1 N) :=
  loop_ok (s := [(0, .v .str), (1, .box (.arr 64 (.int .u32))), (0, .box (.arr 64 (.int .u32))), (7, .v (.int .i64))]) (m := 74) (sha_schedule_g1 N) [11, 0, 3, 2] N (fun x => (x.1, x.2.1)) (fun x => (x.2.2.1, x.2.2.2.1)) (fun i v => (i.1, i.2, v.1, v.2, ())) (fun _ => rfl) (evN_sound hb N (sha_schedule_t1 N) sha_schedule_L sha_schedule_body TabOk.nil [0, 0, 1, 0, 1, 1] _ rfl) (fun i v r K => by kernel_rfl)

noncomputable def sha_schedule_s2 (N : Nat) (x2 : (List Int)) (w : (List Int)) (t : Int) (rec : (List Int) → Int → Option (List Int)) (k0 : (List Int) → Option (List Int)) : Option (List Int) :=
  cond (decide (t < (64 : Int)))
  (cond (Go.Lift.inR (Go.IntKind.wrap Go.IntKind.i64 (t - (15 : Int))) 64)
    (cond (decide ((Int.toNat (Go.IntKind.wrap Go.IntKind.i64 (t - (15 : Int)))) < (List.length w)))
      (cond (Go.Lift.inR (Go.IntKind.wrap Go.IntKind.i64 (t - (2 : Int))) 64)
        (cond (decide ((Int.toNat (Go.IntKind.wrap Go.IntKind.i64 (t - (2 : Int)))) < (List.length w)))
          (cond (Go.Lift.inR (Go.IntKind.wrap Go.IntKind.i64 (t - (7 : Int))) 64)
            (cond (decide ((Int.toNat (Go.IntKind.wrap Go.IntKind.i64 (t - (7 : Int)))) < (List.length w)))
              (cond (Go.Lift.inR (Go.IntKind.wrap Go.IntKind.i64 (t - (16 : Int))) 64)
                (cond (decide ((Int.toNat (Go.IntKind.wrap Go.IntKind.i64 (t - (16 : Int)))) < (List.length w)))
                  (cond (Go.Lift.inR t 64)
                    (cond (decide ((Int.toNat t) < (List.length w)))
                      (rec (List.set w (Int.toNat t) (Go.IntKind.wrap Go.IntKind.u32 ((Go.IntKind.wrap Go.IntKind.u32 ((Go.IntKind.wrap Go.IntKind.u32 ((Go.Lift.bitsOp Go.BinOp.xor Go.IntKind.u32 (Go.Lift.bitsOp Go.BinOp.xor Go.IntKind.u32 (Go.Lift.bitsOp Go.BinOp.or Go.IntKind.u32 (Go.Lift.shlI Go.IntKind.u32 (List.getD w (Int.toNat (Go.IntKind.wrap Go.IntKind.i64 (t - (2 : Int)))) (0 : Int)) (Go.Lift.bitsOp Go.BinOp.and Go.IntKind.u64 (Go.IntKind.wrap Go.IntKind.u64 (Go.IntKind.wrap Go.IntKind.i64 ((0 : Int) - (17 : Int)))) (31 : Int))) (Go.Lift.shrI Go.IntKind.u32 (List.getD w (Int.toNat (Go.IntKind.wrap Go.IntKind.i64 (t - (2 : Int)))) (0 : Int)) (Go.IntKind.wrap Go.IntKind.u64 ((32 : Int) - (Go.Lift.bitsOp Go.BinOp.and Go.IntKind.u64 (Go.IntKind.wrap Go.IntKind.u64 (Go.IntKind.wrap Go.IntKind.i64 ((0 : Int) - (17 : Int)))) (31 : Int)))))) (Go.Lift.bitsOp Go.BinOp.or Go.IntKind.u32 (Go.Lift.shlI Go.IntKind.u32 (List.getD w (Int.toNat (Go.IntKind.wrap Go.IntKind.i64 (t - (2 : Int)))) (0 : Int)) (Go.Lift.bitsOp Go.BinOp.and Go.IntKind.u64 (Go.IntKind.wrap Go.IntKind.u64 (Go.IntKind.wrap Go.IntKind.i64 ((0 : Int) - (19 : Int)))) (31 : Int))) (Go.Lift.shrI Go.IntKind.u32 (List.getD w (Int.toNat (Go.IntKind.wrap Go.IntKind.i64 (t - (2 : Int)))) (0 : Int)) (Go.IntKind.wrap Go.IntKind.u64 ((32 : Int) - (Go.Lift.bitsOp Go.BinOp.and Go.IntKind.u64 (Go.IntKind.wrap Go.IntKind.u64 (Go.IntKind.wrap Go.IntKind.i64 ((0 : Int) - (19 : Int)))) (31 : Int))))))) (Go.Lift.shrI Go.IntKind.u32 (List.getD w (Int.toNat (Go.IntKind.wrap Go.IntKind.i64 (t - (2 : Int)))) (0 : Int)) (10 : Int))) + (List.getD w (Int.toNat (Go.IntKind.wrap Go.IntKind.i64 (t - (7 : Int)))) (0 : Int)))) + (Go.Lift.bitsOp Go.BinOp.xor Go.IntKind.u32 (Go.Lift.bitsOp Go.BinOp.xor Go.IntKind.u32 (Go.Lift.bitsOp Go.BinOp.or Go.IntKind.u32 (Go.Lift.shlI Go.IntKind.u32 (List.getD w (Int.toNat (Go.IntKind.wrap Go.IntKind.i64 (t - (15 : Int)))) (0 : Int)) (Go.Lift.bitsOp Go.BinOp.and Go.IntKind.u64 (Go.IntKind.wrap Go.IntKind.u64 (Go.IntKind.wrap Go.IntKind.i64 ((0 : Int) - (7 : Int)))) (31 : Int))) (Go.Lift.shrI Go.IntKind.u32 (List.getD w (Int.toNat (Go.IntKind.wrap Go.IntKind.i64 (t - (15 : Int)))) (0 : Int)) (Go.IntKind.wrap Go.IntKind.u64 ((32 : Int) - (Go.Lift.bitsOp Go.BinOp.and Go.IntKind.u64 (Go.IntKind.wrap Go.IntKind.u64 (Go.IntKind.wrap Go.IntKind.i64 ((0 : Int) - (7 : Int)))) (31 : Int)))))) (Go.Lift.bitsOp Go.BinOp.or Go.IntKind.u32 (Go.Lift.shlI Go.IntKind.u32 (List.getD w (Int.toNat (Go.IntKind.wrap Go.IntKind.i64 (t - (15 : Int)))) (0 : Int)) (Go.Lift.bitsOp Go.BinOp.and Go.IntKind.u64 (Go.IntKind.wrap Go.IntKind.u64 (Go.IntKind.wrap Go.IntKind.i64 ((0 : Int) - (18 : Int)))) (31 : Int))) (Go.Lift.shrI Go.IntKind.u32 (List.getD w (Int.toNat (Go.IntKind.wrap Go.IntKind.i64 (t - (15 : Int)))) (0 : Int)) (Go.IntKind.wrap Go.IntKind.u64 ((32 : Int) - (Go.Lift.bitsOp Go.BinOp.and Go.IntKind.u64 (Go.IntKind.wrap Go.IntKind.u64 (Go.IntKind.wrap Go.IntKind.i64 ((0 : Int) - (18 : Int)))) (31 : Int))))))) (Go.Lift.shrI Go.IntKind.u32 (List.getD w (Int.toNat (Go.IntKind.wrap Go.IntKind.i64 (t - (15 : Int)))) (0 : Int)) (3 : Int))))) + (List.getD w (Int.toNat (Go.IntKind.wrap Go.IntKind.i64 (t - (16 : Int)))) (0 : Int))))) (Go.IntKind.wrap Go.IntKind.i64 (t + (1 : Int))))
                      (none))
                    (none))
                  (none))
                (none))
              (none))
            (none))
          (none))
        (none))
      (none))
    (none))
  (k0 w)

noncomputable def sha_schedule_p2 (N : Nat) (x2 : (List Int)) (w : (List Int)) (t : Int) (k0 : (List Int) → Option (List Int)) : Option (List Int) :=
  iter (fun (v : ((List Int) × Int)) r => sha_schedule_s2 N x2 v.1 v.2 (fun w t => (r (w, t))) k0) N (w, t)

noncomputable def sha_schedule_g2 (N : Nat) (i : (List Int)) (v : ((List Int) × Int)) (r : ((List Int) × Int) → Option (List Int)) (K : Ex → List A → Option (List Int)) : Option (List Int) :=
  sha_schedule_s2 N i v.1 v.2 (fun w t => (r (w, t))) (fun a1 => (K (.exit 2) (mkS [(2, .box (.arr 64 (.int .u32))), (0, .box (.arr 64 (.int .u32)))] 82 (i, a1, ()))))

noncomputable def sha_schedule_h2 (N : Nat) : Hd (List Int) := fun st K => (unS [(2, .box (.arr 64 (.int .u32))), (0, .box (.arr 64 (.int .u32))), (2, .v (.int .i64))] 79 (restr [6, 3, 2] 0 st)).bind fun x => iter (fun v r => sha_schedule_g2 N ((fun x => x.1) x) v r K) N ((fun x => (x.2.1, x.2.2.1)) x)

noncomputable def sha_schedule_t2 (N : Nat) : Tab (List Int) := []

theorem sha_schedule_ok2 {N : Nat} {c : Ctx} (hb : Base Go.Proofs.Tryd.prog (sha_schedule_E N) c) : CodeOk Go.Proofs.Tryd.prog c (nodeAt sha_schedule_body [0, 1, 0, 1, 1, 1]) (sha_schedule_h2 N) :=
  loop_ok (s := [(2, .box (.arr 64 (.int .u32))), (0, .box (.arr 64 (.int .u32))), (2, .v (.int .i64))]) (m := 79) (sha_schedule_g2 N) [6, 3, 2] N (fun x => x.1) (fun x => (x.2.1, x.2.2.1)) (fun i v => (i, v.1, v.2, ())) (fun _ => rfl) (evN_sound hb N (sha_schedule_t2 N) sha_schedule_L sha_schedule_body TabOk.nil [0, 0, 1, 0, 1, 1, 1] _ rfl) (fun i v r K => by kernel_rfl)

noncomputable def sha_schedule (N : Nat) (block : (List UInt8)) : Option (List Int) :=
  sha_schedule_p1 N block ((0 : Int) :: (0 : Int) :: (0 : Int) :: (0 : Int) :: (0 : Int) :: (0 : Int) :: (0 : Int) :: (0 : Int) :: (0 : Int) :: (0 : Int) :: (0 : Int) :: (0 : Int) :: (0 : Int) :: (0 : Int) :: (0 : Int) :: (0 : Int) :: (0 : Int) :: (0 : Int) :: (0 : Int) :: (0 : Int) :: (0 : Int) :: (0 : Int) :: (0 : Int) :: (0 : Int) :: (0 : Int) :: (0 : Int) :: (0 : Int) :: (0 : Int) :: (0 : Int) :: (0 : Int) :: (0 : Int) :: (0 : Int) :: (0 : Int) :: (0 : Int) :: (0 : Int) :: (0 : Int) :: (0 : Int) :: (0 : Int) :: (0 : Int) :: (0 : Int) :: (0 : Int) :: (0 : Int) :: (0 : Int) :: (0 : Int) :: (0 : Int) :: (0 : Int) :: (0 : Int) :: (0 : Int) :: (0 : Int) :: (0 : Int) :: (0 : Int) :: (0 : Int) :: (0 : Int) :: (0 : Int) :: (0 : Int) :: (0 : Int) :: (0 : Int) :: (0 : Int) :: (0 : Int) :: (0 : Int) :: (0 : Int) :: (0 : Int) :: (0 : Int) :: (0 : Int) :: ([] : List Int)) ((0 : Int) :: (0 : Int) :: (0 : Int) :: (0 : Int) :: (0 : Int) :: (0 : Int) :: (0 : Int) :: (0 : Int) :: (0 : Int) :: (0 : Int) :: (0 : Int) :: (0 : Int) :: (0 : Int) :: (0 : Int) :: (0 : Int) :: (0 : Int) :: (0 : Int) :: (0 : Int) :: (0 : Int) :: (0 : Int) :: (0 : Int) :: (0 : Int) :: (0 : Int) :: (0 : Int) :: (0 : Int) :: (0 : Int) :: (0 : Int) :: (0 : Int) :: (0 : Int) :: (0 : Int) :: (0 : Int) :: (0 : Int) :: (0 : Int) :: (0 : Int) :: (0 : Int) :: (0 : Int) :: (0 : Int) :: (0 : Int) :: (0 : Int) :: (0 : Int) :: (0 : Int) :: (0 : Int) :: (0 : Int) :: (0 : Int) :: (0 : Int) :: (0 : Int) :: (0 : Int) :: (0 : Int) :: (0 : Int) :: (0 : Int) :: (0 : Int) :: (0 : Int) :: (0 : Int) :: (0 : Int) :: (0 : Int) :: (0 : Int) :: (0 : Int) :: (0 : Int) :: (0 : Int) :: (0 : Int) :: (0 : Int) :: (0 : Int) :: (0 : Int) :: (0 : Int) :: ([] : List Int)) (0 : Int)
  (fun w => sha_schedule_p2 N ((0 : Int) :: (0 : Int) :: (0 : Int) :: (0 : Int) :: (0 : Int) :: (0 : Int) :: (0 : Int) :: (0 : Int) :: (0 : Int) :: (0 : Int) :: (0 : Int) :: (0 : Int) :: (0 : Int) :: (0 : Int) :: (0 : Int) :: (0 : Int) :: (0 : Int) :: (0 : Int) :: (0 : Int) :: (0 : Int) :: (0 : Int) :: (0 : Int) :: (0 : Int) :: (0 : Int) :: (0 : Int) :: (0 : Int) :: (0 : Int) :: (0 : Int) :: (0 : Int) :: (0 : Int) :: (0 : Int) :: (0 : Int) :: (0 : Int) :: (0 : Int) :: (0 : Int) :: (0 : Int) :: (0 : Int) :: (0 : Int) :: (0 : Int) :: (0 : Int) :: (0 : Int) :: (0 : Int) :: (0 : Int) :: (0 : Int) :: (0 : Int) :: (0 : Int) :: (0 : Int) :: (0 : Int) :: (0 : Int) :: (0 : Int) :: (0 : Int) :: (0 : Int) :: (0 : Int) :: (0 : Int) :: (0 : Int) :: (0 : Int) :: (0 : Int) :: (0 : Int) :: (0 : Int) :: (0 : Int) :: (0 : Int) :: (0 : Int) :: (0 : Int) :: (0 : Int) :: ([] : List Int)) w (16 : Int)
    (fun w1 => some w1))

noncomputable def sha_schedule_t (N : Nat) : Tab (List Int) := [([0, 1, 0, 1, 1], sha_schedule_h1 N), ([0, 1, 0, 1, 1, 1], sha_schedule_h2 N)]

theorem sha_schedule_link (N : Nat) (x : denS [(0, .v .str)]) : evFX (sha_schedule_E N) N (sha_schedule_t N) sha_schedule_L Go.Proofs.Tryd.f52 (mkS [(0, .v .str)] 0 x) (kRes (.v (.arr 64 (.int .u32))) 1) = sha_schedule N x.1 := by kernel_rfl

noncomputable def sha_schedule_res (N : Nat) : List A → Res := resOf [(0, .v .str)] (fun x => sha_schedule N x.1) (oRes (.v (.arr 64 (.int .u32))) 1)

theorem sha_schedule_ct (N : Nat) : Contract Go.Proofs.Tryd.prog glob 52 (sha_schedule_res N) :=
  Contract.of (E := sha_schedule_E N) (H := sha_schedule_t N) (L := sha_schedule_L) (N := N) (body := sha_schedule_body) (K := (kRes (.v (.arr 64 (.int .u32))) 1)) (sha_schedule_Eok N) Go.Proofs.Tryd.func52 (by kernel_rfl) (by decide) (fun _ hb => (TabOk.cons (sha_schedule_ok1 hb) (TabOk.cons (sha_schedule_ok2 hb) TabOk.nil))) (fun x y h => by rw [sha_schedule_link]; exact h) (kRes_ok (s := (.v (.arr 64 (.int .u32)))) (m := 1))

abbrev sha_round_R : Type := (List Int)

noncomputable def sha_round_body : Code := (Go.Proofs.Tryd.f53.body).getD .skip

noncomputable def sha_round_L : List (List Nat × List Nat) := [([0], [2, 1, 4]), ([0, 1], [12, 9, 10, 11, 1, 5, 6, 7, 8, 4]), ([0, 1, 1], [5, 6, 7, 13, 8, 9, 10, 11, 4]), ([0, 1, 1, 1], [13, 14, 5, 6, 7, 8, 9, 10, 11, 4]), ([0, 1, 1, 1, 1], [4]), ([1, 1, 1, 1, 1], [4])]

noncomputable def sha_round_E (N : Nat) : Env := mkEnv tys glob [(73, sha_ror_res N)] [] [] [] false [] [(79, hmac_split1_itr N)]

theorem sha_round_Eok (N : Nat) : EnvOk Go.Proofs.Tryd.prog (sha_round_E N) := mkEnv_ok mixed tys_ok (FnsOk.cons (sha_ror_ct N) (FnsOk.nil)) (ItsOk.cons (hmac_split1_it N) (ItsOk.nil))

noncomputable def sha_round (N : Nat) (v : (List Int)) (k : Int) : Option (List Int) :=
  cond (decide (0 < (List.length v)))
  (cond (decide (1 < (List.length v)))
    (cond (decide (2 < (List.length v)))
      (cond (decide (3 < (List.length v)))
        (cond (decide (4 < (List.length v)))
          (cond (decide (5 < (List.length v)))
            (cond (decide (6 < (List.length v)))
              (cond (decide (7 < (List.length v)))
                (some ([(Go.IntKind.wrap Go.IntKind.u32 ((Go.IntKind.wrap Go.IntKind.u32 ((Go.IntKind.wrap Go.IntKind.u32 ((Go.IntKind.wrap Go.IntKind.u32 ((List.getD v 7 (0 : Int)) + (Go.Lift.bitsOp Go.BinOp.xor Go.IntKind.u32 (Go.Lift.bitsOp Go.BinOp.xor Go.IntKind.u32 (Go.Lift.bitsOp Go.BinOp.or Go.IntKind.u32 (Go.Lift.shlI Go.IntKind.u32 (List.getD v 4 (0 : Int)) (Go.Lift.bitsOp Go.BinOp.and Go.IntKind.u64 (Go.IntKind.wrap Go.IntKind.u64 (Go.IntKind.wrap Go.IntKind.i64 ((0 : Int) - (6 : Int)))) (31 : Int))) (Go.Lift.shrI Go.IntKind.u32 (List.getD v 4 (0 : Int)) (Go.IntKind.wrap Go.IntKind.u64 ((32 : Int) - (Go.Lift.bitsOp Go.BinOp.and Go.IntKind.u64 (Go.IntKind.wrap Go.IntKind.u64 (Go.IntKind.wrap Go.IntKind.i64 ((0 : Int) - (6 : Int)))) (31 : Int)))))) (Go.Lift.bitsOp Go.BinOp.or Go.IntKind.u32 (Go.Lift.shlI Go.IntKind.u32 (List.getD v 4 (0 : Int)) (Go.Lift.bitsOp Go.BinOp.and Go.IntKind.u64 (Go.IntKind.wrap Go.IntKind.u64 (Go.IntKind.wrap Go.IntKind.i64 ((0 : Int) - (11 : Int)))) (31 : Int))) (Go.Lift.shrI Go.IntKind.u32 (List.getD v 4 (0 : Int)) (Go.IntKind.wrap Go.IntKind.u64 ((32 : Int) - (Go.Lift.bitsOp Go.BinOp.and Go.IntKind.u64 (Go.IntKind.wrap Go.IntKind.u64 (Go.IntKind.wrap Go.IntKind.i64 ((0 : Int) - (11 : Int)))) (31 : Int))))))) (Go.Lift.bitsOp Go.BinOp.or Go.IntKind.u32 (Go.Lift.shlI Go.IntKind.u32 (List.getD v 4 (0 : Int)) (Go.Lift.bitsOp Go.BinOp.and Go.IntKind.u64 (Go.IntKind.wrap Go.IntKind.u64 (Go.IntKind.wrap Go.IntKind.i64 ((0 : Int) - (25 : Int)))) (31 : Int))) (Go.Lift.shrI Go.IntKind.u32 (List.getD v 4 (0 : Int)) (Go.IntKind.wrap Go.IntKind.u64 ((32 : Int) - (Go.Lift.bitsOp Go.BinOp.and Go.IntKind.u64 (Go.IntKind.wrap Go.IntKind.u64 (Go.IntKind.wrap Go.IntKind.i64 ((0 : Int) - (25 : Int)))) (31 : Int))))))))) + (Go.Lift.bitsOp Go.BinOp.xor Go.IntKind.u32 (Go.Lift.bitsOp Go.BinOp.and Go.IntKind.u32 (List.getD v 4 (0 : Int)) (List.getD v 5 (0 : Int))) (Go.Lift.bitsOp Go.BinOp.and Go.IntKind.u32 (Go.Lift.bitsOp Go.BinOp.xor Go.IntKind.u32 (if ((Go.IntKind.signed Go.IntKind.u32) = true) then (-(1 : Int)) else (Go.IntKind.max Go.IntKind.u32)) (List.getD v 4 (0 : Int))) (List.getD v 6 (0 : Int)))))) + k)) + (Go.IntKind.wrap Go.IntKind.u32 ((Go.Lift.bitsOp Go.BinOp.xor Go.IntKind.u32 (Go.Lift.bitsOp Go.BinOp.xor Go.IntKind.u32 (Go.Lift.bitsOp Go.BinOp.or Go.IntKind.u32 (Go.Lift.shlI Go.IntKind.u32 (List.getD v 0 (0 : Int)) (Go.Lift.bitsOp Go.BinOp.and Go.IntKind.u64 (Go.IntKind.wrap Go.IntKind.u64 (Go.IntKind.wrap Go.IntKind.i64 ((0 : Int) - (2 : Int)))) (31 : Int))) (Go.Lift.shrI Go.IntKind.u32 (List.getD v 0 (0 : Int)) (Go.IntKind.wrap Go.IntKind.u64 ((32 : Int) - (Go.Lift.bitsOp Go.BinOp.and Go.IntKind.u64 (Go.IntKind.wrap Go.IntKind.u64 (Go.IntKind.wrap Go.IntKind.i64 ((0 : Int) - (2 : Int)))) (31 : Int)))))) (Go.Lift.bitsOp Go.BinOp.or Go.IntKind.u32 (Go.Lift.shlI Go.IntKind.u32 (List.getD v 0 (0 : Int)) (Go.Lift.bitsOp Go.BinOp.and Go.IntKind.u64 (Go.IntKind.wrap Go.IntKind.u64 (Go.IntKind.wrap Go.IntKind.i64 ((0 : Int) - (13 : Int)))) (31 : Int))) (Go.Lift.shrI Go.IntKind.u32 (List.getD v 0 (0 : Int)) (Go.IntKind.wrap Go.IntKind.u64 ((32 : Int) - (Go.Lift.bitsOp Go.BinOp.and Go.IntKind.u64 (Go.IntKind.wrap Go.IntKind.u64 (Go.IntKind.wrap Go.IntKind.i64 ((0 : Int) - (13 : Int)))) (31 : Int))))))) (Go.Lift.bitsOp Go.BinOp.or Go.IntKind.u32 (Go.Lift.shlI Go.IntKind.u32 (List.getD v 0 (0 : Int)) (Go.Lift.bitsOp Go.BinOp.and Go.IntKind.u64 (Go.IntKind.wrap Go.IntKind.u64 (Go.IntKind.wrap Go.IntKind.i64 ((0 : Int) - (22 : Int)))) (31 : Int))) (Go.Lift.shrI Go.IntKind.u32 (List.getD v 0 (0 : Int)) (Go.IntKind.wrap Go.IntKind.u64 ((32 : Int) - (Go.Lift.bitsOp Go.BinOp.and Go.IntKind.u64 (Go.IntKind.wrap Go.IntKind.u64 (Go.IntKind.wrap Go.IntKind.i64 ((0 : Int) - (22 : Int)))) (31 : Int))))))) + (Go.Lift.bitsOp Go.BinOp.xor Go.IntKind.u32 (Go.Lift.bitsOp Go.BinOp.xor Go.IntKind.u32 (Go.Lift.bitsOp Go.BinOp.and Go.IntKind.u32 (List.getD v 0 (0 : Int)) (List.getD v 1 (0 : Int))) (Go.Lift.bitsOp Go.BinOp.and Go.IntKind.u32 (List.getD v 0 (0 : Int)) (List.getD v 2 (0 : Int)))) (Go.Lift.bitsOp Go.BinOp.and Go.IntKind.u32 (List.getD v 1 (0 : Int)) (List.getD v 2 (0 : Int)))))))), (List.getD v 0 (0 : Int)), (List.getD v 1 (0 : Int)), (List.getD v 2 (0 : Int)), (Go.IntKind.wrap Go.IntKind.u32 ((List.getD v 3 (0 : Int)) + (Go.IntKind.wrap Go.IntKind.u32 ((Go.IntKind.wrap Go.IntKind.u32 ((Go.IntKind.wrap Go.IntKind.u32 ((List.getD v 7 (0 : Int)) + (Go.Lift.bitsOp Go.BinOp.xor Go.IntKind.u32 (Go.Lift.bitsOp Go.BinOp.xor Go.IntKind.u32 (Go.Lift.bitsOp Go.BinOp.or Go.IntKind.u32 (Go.Lift.shlI Go.IntKind.u32 (List.getD v 4 (0 : Int)) (Go.Lift.bitsOp Go.BinOp.and Go.IntKind.u64 (Go.IntKind.wrap Go.IntKind.u64 (Go.IntKind.wrap Go.IntKind.i64 ((0 : Int) - (6 : Int)))) (31 : Int))) (Go.Lift.shrI Go.IntKind.u32 (List.getD v 4 (0 : Int)) (Go.IntKind.wrap Go.IntKind.u64 ((32 : Int) - (Go.Lift.bitsOp Go.BinOp.and Go.IntKind.u64 (Go.IntKind.wrap Go.IntKind.u64 (Go.IntKind.wrap Go.IntKind.i64 ((0 : Int) - (6 : Int)))) (31 : Int)))))) (Go.Lift.bitsOp Go.BinOp.or Go.IntKind.u32 (Go.Lift.shlI Go.IntKind.u32 (List.getD v 4 (0 : Int)) (Go.Lift.bitsOp Go.BinOp.and Go.IntKind.u64 (Go.IntKind.wrap Go.IntKind.u64 (Go.IntKind.wrap Go.IntKind.i64 ((0 : Int) - (11 : Int)))) (31 : Int))) (Go.Lift.shrI Go.IntKind.u32 (List.getD v 4 (0 : Int)) (Go.IntKind.wrap Go.IntKind.u64 ((32 : Int) - (Go.Lift.bitsOp Go.BinOp.and Go.IntKind.u64 (Go.IntKind.wrap Go.IntKind.u64 (Go.IntKind.wrap Go.IntKind.i64 ((0 : Int) - (11 : Int)))) (31 : Int))))))) (Go.Lift.bitsOp Go.BinOp.or Go.IntKind.u32 (Go.Lift.shlI Go.IntKind.u32 (List.getD v 4 (0 : Int)) (Go.Lift.bitsOp Go.BinOp.and Go.IntKind.u64 (Go.IntKind.wrap Go.IntKind.u64 (Go.IntKind.wrap Go.IntKind.i64 ((0 : Int) - (25 : Int)))) (31 : Int))) (Go.Lift.shrI Go.IntKind.u32 (List.getD v 4 (0 : Int)) (Go.IntKind.wrap Go.IntKind.u64 ((32 : Int) - (Go.Lift.bitsOp Go.BinOp.and Go.IntKind.u64 (Go.IntKind.wrap Go.IntKind.u64 (Go.IntKind.wrap Go.IntKind.i64 ((0 : Int) - (25 : Int)))) (31 : Int))))))))) + (Go.Lift.bitsOp Go.BinOp.xor Go.IntKind.u32 (Go.Lift.bitsOp Go.BinOp.and Go.IntKind.u32 (List.getD v 4 (0 : Int)) (List.getD v 5 (0 : Int))) (Go.Lift.bitsOp Go.BinOp.and Go.IntKind.u32 (Go.Lift.bitsOp Go.BinOp.xor Go.IntKind.u32 (if ((Go.IntKind.signed Go.IntKind.u32) = true) then (-(1 : Int)) else (Go.IntKind.max Go.IntKind.u32)) (List.getD v 4 (0 : Int))) (List.getD v 6 (0 : Int)))))) + k)))), (List.getD v 4 (0 : Int)), (List.getD v 5 (0 : Int)), (List.getD v 6 (0 : Int))] : List Int))
                (none))
              (none))
            (none))
          (none))
        (none))
      (none))
    (none))
  (none)

noncomputable def sha_round_t (N : Nat) : Tab (List Int) := []

theorem sha_round_link (N : Nat) (x : denS [(0, .v (.arr 8 (.int .u32))), (0, .v (.int .u32))]) : evFX (sha_round_E N) N (sha_round_t N) sha_round_L Go.Proofs.Tryd.f53 (mkS [(0, .v (.arr 8 (.int .u32))), (0, .v (.int .u32))] 0 x) (kRes (.v (.arr 8 (.int .u32))) 2) = sha_round N x.1 x.2.1 := by kernel_rfl

noncomputable def sha_round_res (N : Nat) : List A → Res := resOf [(0, .v (.arr 8 (.int .u32))), (0, .v (.int .u32))] (fun x => sha_round N x.1 x.2.1) (oRes (.v (.arr 8 (.int .u32))) 2)

theorem sha_round_ct (N : Nat) : Contract Go.Proofs.Tryd.prog glob 53 (sha_round_res N) :=
  Contract.of (E := sha_round_E N) (H := sha_round_t N) (L := sha_round_L) (N := N) (body := sha_round_body) (K := (kRes (.v (.arr 8 (.int .u32))) 2)) (sha_round_Eok N) Go.Proofs.Tryd.func53 (by kernel_rfl) (by decide) (fun _ hb => TabOk.nil) (fun x y h => by rw [sha_round_link]; exact h) (kRes_ok (s := (.v (.arr 8 (.int .u32)))) (m := 2))

abbrev sha_Step_R : Type := (List Int)

noncomputable def sha_Step_body : Code := (Go.Proofs.Tryd.f18.body).getD .skip

noncomputable def sha_Step_L : List (List Nat × List Nat) := [([0], [1, 2, 4]), ([0, 0, 1], [11, 2, 4, 1]), ([1, 0, 1], [1, 2, 4]), ([0, 0, 1, 0, 1], [4]), ([1, 0, 1, 0, 1], [4]), ([0, 1, 1], [2, 5, 4]), ([0, 1, 1, 1], [6, 5, 2, 4]), ([0, 0, 1, 1, 1, 1], [16, 6, 5, 2, 4]), ([0, 1, 0, 1, 1, 1, 1], [16, 6, 5, 2, 4]), ([0, 0, 0, 1, 0, 1, 1, 1, 1], [17, 16, 6, 5, 2, 4]), ([0, 1, 0, 0, 1, 0, 1, 1, 1, 1], [16, 6, 5, 2, 4]), ([1, 0, 1, 0, 0, 1, 0, 1, 1, 1, 1], [6, 2, 4]), ([0, 0, 0, 1, 1, 0, 0, 1, 0, 1, 1, 1, 1], [6, 7, 5, 16, 2, 4]), ([1, 0, 0, 1, 1, 0, 0, 1, 0, 1, 1, 1, 1], [16, 6, 5, 2, 4]), ([0, 1, 1, 0, 0, 1, 0, 1, 1, 1, 1], [16, 6, 5, 2, 4]), ([1, 1, 1, 0, 0, 1, 0, 1, 1, 1, 1], [16, 6, 5, 2, 4]), ([1, 0, 1, 1, 1, 1], [6, 2, 4]), ([0, 0, 1, 1, 1, 1, 1], [29, 6, 2, 4]), ([0, 1, 0, 1, 1, 1, 1, 1], [29, 6, 2, 4]), ([0, 0, 0, 1, 0, 1, 1, 1, 1, 1], [30, 29, 6, 2, 4]), ([0, 1, 0, 0, 1, 0, 1, 1, 1, 1, 1], [29, 6, 2, 4]), ([1, 0, 1, 0, 0, 1, 0, 1, 1, 1, 1, 1], [6, 4]), ([0, 0, 0, 1, 1, 0, 0, 1, 0, 1, 1, 1, 1, 1], [8, 6, 2, 29, 4]), ([1, 0, 0, 1, 1, 0, 0, 1, 0, 1, 1, 1, 1, 1], [29, 6, 2, 4]), ([0, 1, 1, 0, 0, 1, 0, 1, 1, 1, 1, 1], [29, 6, 2, 4]), ([1, 1, 1, 0, 0, 1, 0, 1, 1, 1, 1, 1], [29, 6, 2, 4]), ([1, 0, 1, 1, 1, 1, 1], [6, 4]), ([0, 1, 1, 1, 1, 1, 1], [4]), ([1, 1, 1, 1, 1, 1, 1], [4])]

noncomputable def sha_Step_E (N : Nat) : Env := mkEnv tys glob [(53, sha_round_res N), (52, sha_schedule_res N)] [] [] [] false [] [(79, hmac_split1_itr N)]

theorem sha_Step_Eok (N : Nat) : EnvOk Go.Proofs.Tryd.prog (sha_Step_E N) := mkEnv_ok mixed tys_ok (FnsOk.cons (sha_round_ct N) (FnsOk.cons (sha_schedule_ct N) (FnsOk.nil))) (ItsOk.cons (hmac_split1_it N) (ItsOk.nil))

noncomputable def sha_Step_s1 (N : Nat) (h : (List Int)) (x4 : (List Int)) (w : (List Int)) (v : (List Int)) (x16 : Int) (rec : (List Int) → Int → Option (List Int)) (k0 : (List Int) → Option (List Int)) : Option (List Int) :=
  cond (decide (x16 < (64 : Int)))
  (cond (Go.Lift.inR x16 64)
    (cond (Go.Lift.inR x16 64)
      (cond (decide ((Int.toNat x16) < (List.length w)))
        ((sha_round N v (Go.IntKind.wrap Go.IntKind.u32 ((List.getD glob0 (Int.toNat x16) (0 : Int)) + (List.getD w (Int.toNat x16) (0 : Int))))).bind fun y =>
          rec y (Go.IntKind.wrap Go.IntKind.i64 (x16 + (1 : Int))))
        (none))
      (none))
    (none))
  (k0 v)

noncomputable def sha_Step_p1 (N : Nat) (h : (List Int)) (x4 : (List Int)) (w : (List Int)) (v : (List Int)) (x16 : Int) (k0 : (List Int) → Option (List Int)) : Option (List Int) :=
  iter (fun (v : ((List Int) × Int)) r => sha_Step_s1 N h x4 w v.1 v.2 (fun v x16 => (r (v, x16))) k0) N (v, x16)

noncomputable def sha_Step_g1 (N : Nat) (i : ((List Int) × (List Int) × (List Int))) (v : ((List Int) × Int)) (r : ((List Int) × Int) → Option (List Int)) (K : Ex → List A → Option (List Int)) : Option (List Int) :=
  sha_Step_s1 N i.1 i.2.1 i.2.2 v.1 v.2 (fun v x16 => (r (v, x16))) (fun a2 => (K (.exit 0) (mkS [(2, .box (.arr 8 (.int .u32))), (1, .box (.arr 8 (.int .u32))), (1, .box (.arr 8 (.int .u32)))] 35 (i.1, i.2.1, a2, ()))))

noncomputable def sha_Step_h1 (N : Nat) : Hd (List Int) := fun st K => (unS [(2, .box (.arr 8 (.int .u32))), (1, .box (.arr 8 (.int .u32))), (0, .box (.arr 64 (.int .u32))), (0, .box (.arr 8 (.int .u32))), (9, .v (.int .i64))] 25 (restr [16, 6, 5, 2, 4] 0 st)).bind fun x => iter (fun v r => sha_Step_g1 N ((fun x => (x.1, x.2.1, x.2.2.1)) x) v r K) N ((fun x => (x.2.2.2.1, x.2.2.2.2.1)) x)

noncomputable def sha_Step_t1 (N : Nat) : Tab (List Int) := []

theorem sha_Step_ok1 {N : Nat} {c : Ctx} (hb : Base Go.Proofs.Tryd.prog (sha_Step_E N) c) : CodeOk Go.Proofs.Tryd.prog c (nodeAt sha_Step_body [0, 1, 0, 1, 1, 1, 1]) (sha_Step_h1 N) :=
  loop_ok (s := [(2, .box (.arr 8 (.int .u32))), (1, .box (.arr 8 (.int .u32))), (0, .box (.arr 64 (.int .u32))), (0, .box (.arr 8 (.int .u32))), (9, .v (.int .i64))]) (m := 25) (sha_Step_g1 N) [16, 6, 5, 2, 4] N (fun x => (x.1, x.2.1, x.2.2.1)) (fun x => (x.2.2.2.1, x.2.2.2.2.1)) (fun i v => (i.1, i.2.1, i.2.2, v.1, v.2, ())) (fun _ => rfl) (evN_sound hb N (sha_Step_t1 N) sha_Step_L sha_Step_body TabOk.nil [0, 0, 1, 0, 1, 1, 1, 1] _ rfl) (fun i v r K => by kernel_rfl)

noncomputable def sha_Step_s2 (N : Nat) (h : (List Int)) (x4 : (List Int)) (v : (List Int)) (x29 : Int) (rec : (List Int) → Int → Option (List Int)) (k0 : (List Int) → Option (List Int)) : Option (List Int) :=
  cond (decide (x29 < (8 : Int)))
  (cond (Go.Lift.inR x29 8)
    (cond (decide ((Int.toNat x29) < (List.length v)))
      (cond (Go.Lift.inR x29 8)
        (cond (decide ((Int.toNat x29) < (List.length h)))
          (cond (Go.Lift.inR x29 8)
            (cond (decide ((Int.toNat x29) < (List.length v)))
              (rec (List.set v (Int.toNat x29) (Go.IntKind.wrap Go.IntKind.u32 ((List.getD v (Int.toNat x29) (0 : Int)) + (List.getD h (Int.toNat x29) (0 : Int))))) (Go.IntKind.wrap Go.IntKind.i64 (x29 + (1 : Int))))
              (none))
            (none))
          (none))
        (none))
      (none))
    (none))
  (k0 v)

noncomputable def sha_Step_p2 (N : Nat) (h : (List Int)) (x4 : (List Int)) (v : (List Int)) (x29 : Int) (k0 : (List Int) → Option (List Int)) : Option (List Int) :=
  iter (fun (v : ((List Int) × Int)) r => sha_Step_s2 N h x4 v.1 v.2 (fun v x29 => (r (v, x29))) k0) N (v, x29)

noncomputable def sha_Step_g2 (N : Nat) (i : ((List Int) × (List Int))) (v : ((List Int) × Int)) (r : ((List Int) × Int) → Option (List Int)) (K : Ex → List A → Option (List Int)) : Option (List Int) :=
  sha_Step_s2 N i.1 i.2 v.1 v.2 (fun v x29 => (r (v, x29))) (fun a1 => (K (.exit 2) (mkS [(4, .box (.arr 8 (.int .u32))), (1, .box (.arr 8 (.int .u32)))] 35 (i.2, a1, ()))))

noncomputable def sha_Step_h2 (N : Nat) : Hd (List Int) := fun st K => (unS [(2, .box (.arr 8 (.int .u32))), (1, .box (.arr 8 (.int .u32))), (1, .box (.arr 8 (.int .u32))), (22, .v (.int .i64))] 12 (restr [29, 6, 2, 4] 0 st)).bind fun x => iter (fun v r => sha_Step_g2 N ((fun x => (x.1, x.2.1)) x) v r K) N ((fun x => (x.2.2.1, x.2.2.2.1)) x)

noncomputable def sha_Step_t2 (N : Nat) : Tab (List Int) := []

theorem sha_Step_ok2 {N : Nat} {c : Ctx} (hb : Base Go.Proofs.Tryd.prog (sha_Step_E N) c) : CodeOk Go.Proofs.Tryd.prog c (nodeAt sha_Step_body [0, 1, 0, 1, 1, 1, 1, 1]) (sha_Step_h2 N) :=
  loop_ok (s := [(2, .box (.arr 8 (.int .u32))), (1, .box (.arr 8 (.int .u32))), (1, .box (.arr 8 (.int .u32))), (22, .v (.int .i64))]) (m := 12) (sha_Step_g2 N) [29, 6, 2, 4] N (fun x => (x.1, x.2.1)) (fun x => (x.2.2.1, x.2.2.2.1)) (fun i v => (i.1, i.2, v.1, v.2, ())) (fun _ => rfl) (evN_sound hb N (sha_Step_t2 N) sha_Step_L sha_Step_body TabOk.nil [0, 0, 1, 0, 1, 1, 1, 1, 1] _ rfl) (fun i v r K => by kernel_rfl)

noncomputable def sha_Step (N : Nat) (h : (List Int)) (block : (List UInt8)) : Option (List Int) :=
  cond ((((List.length block) : Nat) : Int) != (64 : Int))
  (some h)
  ((sha_schedule N block).bind fun y =>
    sha_Step_p1 N h ([(0 : Int), (0 : Int), (0 : Int), (0 : Int), (0 : Int), (0 : Int), (0 : Int), (0 : Int)] : List Int) y h (0 : Int)
    (fun v => sha_Step_p2 N h ([(0 : Int), (0 : Int), (0 : Int), (0 : Int), (0 : Int), (0 : Int), (0 : Int), (0 : Int)] : List Int) v (0 : Int)
      (fun v1 => some v1)))

noncomputable def sha_Step_t (N : Nat) : Tab (List Int) := [([0, 1, 0, 1, 1, 1, 1], sha_Step_h1 N), ([0, 1, 0, 1, 1, 1, 1, 1], sha_Step_h2 N)]

theorem sha_Step_link (N : Nat) (x : denS [(0, .v (.arr 8 (.int .u32))), (0, .v .str)]) : evFX (sha_Step_E N) N (sha_Step_t N) sha_Step_L Go.Proofs.Tryd.f18 (mkS [(0, .v (.arr 8 (.int .u32))), (0, .v .str)] 0 x) (kRes (.v (.arr 8 (.int .u32))) 2) = sha_Step N x.1 x.2.1 := by kernel_rfl

noncomputable def sha_Step_res (N : Nat) : List A → Res := resOf [(0, .v (.arr 8 (.int .u32))), (0, .v .str)] (fun x => sha_Step N x.1 x.2.1) (oRes (.v (.arr 8 (.int .u32))) 2)

theorem sha_Step_ct (N : Nat) : Contract Go.Proofs.Tryd.prog glob 18 (sha_Step_res N) :=
  Contract.of (E := sha_Step_E N) (H := sha_Step_t N) (L := sha_Step_L) (N := N) (body := sha_Step_body) (K := (kRes (.v (.arr 8 (.int .u32))) 2)) (sha_Step_Eok N) Go.Proofs.Tryd.func18 (by kernel_rfl) (by decide) (fun _ hb => (TabOk.cons (sha_Step_ok1 hb) (TabOk.cons (sha_Step_ok2 hb) TabOk.nil))) (fun x y h => by rw [sha_Step_link]; exact h) (kRes_ok (s := (.v (.arr 8 (.int .u32)))) (m := 2))

abbrev sha_steps_R : Type := (List Int)

noncomputable def sha_steps_body : Code := (Go.Proofs.Tryd.f56.body).getD .skip

noncomputable def sha_steps_L : List (List Nat × List Nat) := [([0], [1, 2, 4]), ([0, 0, 1], [5, 1, 2, 4]), ([0, 1, 0, 1], [5, 1, 2, 4]), ([0, 0, 0, 0, 1, 0, 1], [9, 2, 1, 5, 4]), ([1, 0, 0, 0, 1, 0, 1], [2, 1, 5, 4]), ([1, 1, 0, 0, 0, 1, 0, 1], [2, 4]), ([0, 0, 1, 0, 0, 1, 0, 1], [5, 1, 2, 4]), ([0, 1, 0, 0, 1, 0, 1], [5, 1, 2, 4]), ([1, 1, 0, 0, 1, 0, 1], [5, 1, 2, 4]), ([1, 0, 1], [2, 4]), ([0, 1, 1], [4]), ([1, 1, 1], [4])]

noncomputable def sha_steps_E (N : Nat) : Env := mkEnv tys glob [(18, sha_Step_res N)] [] [] [] false [] [(79, hmac_split1_itr N)]

theorem sha_steps_Eok (N : Nat) : EnvOk Go.Proofs.Tryd.prog (sha_steps_E N) := mkEnv_ok mixed tys_ok (FnsOk.cons (sha_Step_ct N) (FnsOk.nil)) (ItsOk.cons (hmac_split1_it N) (ItsOk.nil))

noncomputable def sha_steps_s1 (N : Nat) (s : (List UInt8)) (x4 : (List Int)) (h : (List Int)) (i : Int) (rec : (List Int) → Int → Option (List Int)) (k0 : (List Int) → Option (List Int)) : Option (List Int) :=
  cond (decide (i < (((List.length s) : Nat) : Int)))
  (cond (decide (((0 : Int) ≤ (Go.IntKind.wrap Go.IntKind.i64 (i + (64 : Int)))) ∧ ((Go.IntKind.wrap Go.IntKind.i64 (i + (64 : Int))) ≤ (((List.length s) : Nat) : Int))))
    (cond (decide (((0 : Int) ≤ i) ∧ (i ≤ (Go.IntKind.wrap Go.IntKind.i64 (i + (64 : Int))))))
      ((sha_Step N h (Go.Lift.cut s (Int.toNat i) (Int.toNat (Go.IntKind.wrap Go.IntKind.i64 (i + (64 : Int)))))).bind fun y =>
        rec y (Go.IntKind.wrap Go.IntKind.i64 (i + (64 : Int))))
      (none))
    (none))
  (k0 h)

noncomputable def sha_steps_p1 (N : Nat) (s : (List UInt8)) (h : (List Int)) (x4 : (List Int)) (i : Int) (k0 : (List Int) → Option (List Int)) : Option (List Int) :=
  iter (fun (v : ((List Int) × Int)) r => sha_steps_s1 N s x4 v.1 v.2 (fun h i => (r (h, i))) k0) N (h, i)

noncomputable def sha_steps_g1 (N : Nat) (i : ((List UInt8) × (List Int))) (v : ((List Int) × Int)) (r : ((List Int) × Int) → Option (List Int)) (K : Ex → List A → Option (List Int)) : Option (List Int) :=
  sha_steps_s1 N i.1 i.2 v.1 v.2 (fun h i => (r (h, i))) (fun a0 => (K (.exit 0) (mkS [(2, .box (.arr 8 (.int .u32))), (1, .box (.arr 8 (.int .u32)))] 15 (a0, i.2, ()))))

noncomputable def sha_steps_h1 (N : Nat) : Hd (List Int) := fun st K => (unS [(1, .v .str), (0, .box (.arr 8 (.int .u32))), (1, .box (.arr 8 (.int .u32))), (0, .v (.int .i64))] 14 (restr [5, 1, 2, 4] 0 st)).bind fun x => iter (fun v r => sha_steps_g1 N ((fun x => (x.1, x.2.2.1)) x) v r K) N ((fun x => (x.2.1, x.2.2.2.1)) x)

noncomputable def sha_steps_t1 (N : Nat) : Tab (List Int) := []

theorem sha_steps_ok1 {N : Nat} {c : Ctx} (hb : Base Go.Proofs.Tryd.prog (sha_steps_E N) c) : CodeOk Go.Proofs.Tryd.prog c (nodeAt sha_steps_body [0, 1, 0, 1]) (sha_steps_h1 N) :=
  loop_ok (s := [(1, .v .str), (0, .box (.arr 8 (.int .u32))), (1, .box (.arr 8 (.int .u32))), (0, .v (.int .i64))]) (m := 14) (sha_steps_g1 N) [5, 1, 2, 4] N (fun x => (x.1, x.2.2.1)) (fun x => (x.2.1, x.2.2.2.1)) (fun i v => (i.1, v.1, i.2, v.2, ())) (fun _ => rfl) (evN_sound hb N (sha_steps_t1 N) sha_steps_L sha_steps_body TabOk.nil [0, 0, 1, 0, 1] _ rfl) (fun i v r K => by kernel_rfl)

noncomputable def sha_steps (N : Nat) (h : (List Int)) (s : (List UInt8)) : Option (List Int) :=
  sha_steps_p1 N s h ([(0 : Int), (0 : Int), (0 : Int), (0 : Int), (0 : Int), (0 : Int), (0 : Int), (0 : Int)] : List Int) (0 : Int)
  (fun h1 => some h1)

noncomputable def sha_steps_t (N : Nat) : Tab (List Int) := [([0, 1, 0, 1], sha_steps_h1 N)]

theorem sha_steps_link (N : Nat) (x : denS [(0, .v (.arr 8 (.int .u32))), (0, .v .str)]) : evFX (sha_steps_E N) N (sha_steps_t N) sha_steps_L Go.Proofs.Tryd.f56 (mkS [(0, .v (.arr 8 (.int .u32))), (0, .v .str)] 0 x) (kRes (.v (.arr 8 (.int .u32))) 2) = sha_steps N x.1 x.2.1 := by kernel_rfl

noncomputable def sha_steps_res (N : Nat) : List A → Res := resOf [(0, .v (.arr 8 (.int .u32))), (0, .v .str)] (fun x => sha_steps N x.1 x.2.1) (oRes (.v (.arr 8 (.int .u32))) 2)

theorem sha_steps_ct (N : Nat) : Contract Go.Proofs.Tryd.prog glob 56 (sha_steps_res N) :=
  Contract.of (E := sha_steps_E N) (H := sha_steps_t N) (L := sha_steps_L) (N := N) (body := sha_steps_body) (K := (kRes (.v (.arr 8 (.int .u32))) 2)) (sha_steps_Eok N) Go.Proofs.Tryd.func56 (by kernel_rfl) (by decide) (fun _ hb => (TabOk.cons (sha_steps_ok1 hb) TabOk.nil)) (fun x y h => by rw [sha_steps_link]; exact h) (kRes_ok (s := (.v (.arr 8 (.int .u32)))) (m := 2))

abbrev sha_Hash_Add_R : Type := ((Unit) × ((Bool × ((List Int) × ((List UInt8) × (Int × Unit)))) × Unit))

noncomputable def sha_Hash_Add_body : Code := (Go.Proofs.Tryd.f25.body).getD .skip

noncomputable def sha_Hash_Add_L : List (List Nat × List Nat) := [([0, 0], [14, 0, 1]), ([1, 0], [0, 1]), ([0, 1, 0], [0]), ([0, 1], [0, 1]), ([0, 1, 1], [4, 0]), ([0, 1, 1, 1], [0, 4, 5]), ([0, 1, 1, 1, 1], [0, 4, 5]), ([1, 1, 1, 1, 1], [0])]

noncomputable def sha_Hash_Add_E (N : Nat) : Env := mkEnv tys glob [(56, sha_steps_res N)] [] [] [0] false [] [(79, hmac_split1_itr N)]

theorem sha_Hash_Add_Eok (N : Nat) : EnvOk Go.Proofs.Tryd.prog (sha_Hash_Add_E N) := mkEnv_ok mixed tys_ok (FnsOk.cons (sha_steps_ct N) (FnsOk.nil)) (ItsOk.cons (hmac_split1_it N) (ItsOk.nil))

noncomputable def sha_Hash_Add_p1 (N : Nat) (h : (Bool × ((List Int) × ((List UInt8) × (Int × Unit))))) (s : (List UInt8)) (k0 : Option ((Unit) × ((Bool × ((List Int) × ((List UInt8) × (Int × Unit)))) × Unit))) (k1 : Option ((Unit) × ((Bool × ((List Int) × ((List UInt8) × (Int × Unit)))) × Unit))) : Option ((Unit) × ((Bool × ((List Int) × ((List UInt8) × (Int × Unit)))) × Unit)) :=
  cond (!h.1)
  (k0)
  (k1)

noncomputable def sha_Hash_Add_g1 (N : Nat) (x : denS [(0, .box (.pair .bool (.pair (.arr 8 (.int .u32)) (.pair .str (.pair (.int .i64) .unit))))), (0, .v .str)]) (K : Ex → List A → Option ((Unit) × ((Bool × ((List Int) × ((List UInt8) × (Int × Unit)))) × Unit))) : Option ((Unit) × ((Bool × ((List Int) × ((List UInt8) × (Int × Unit)))) × Unit)) :=
  sha_Hash_Add_p1 N x.1 x.2.1 (K .ret (mkS [(0, .box (.pair .bool (.pair (.arr 8 (.int .u32)) (.pair .str (.pair (.int .i64) .unit)))))] 52 (x.1, ()))) (K .normal (mkS [(0, .box (.pair .bool (.pair (.arr 8 (.int .u32)) (.pair .str (.pair (.int .i64) .unit))))), (0, .v .str)] 51 (x.1, x.2.1, ())))

noncomputable def sha_Hash_Add_h1 (N : Nat) : Hd ((Unit) × ((Bool × ((List Int) × ((List UInt8) × (Int × Unit)))) × Unit)) := fun st K => (unS [(0, .box (.pair .bool (.pair (.arr 8 (.int .u32)) (.pair .str (.pair (.int .i64) .unit))))), (0, .v .str)] 51 (restr [0, 1] 0 st)).bind fun x => sha_Hash_Add_g1 N x K

noncomputable def sha_Hash_Add_t1 (N : Nat) : Tab ((Unit) × ((Bool × ((List Int) × ((List UInt8) × (Int × Unit)))) × Unit)) := []

theorem sha_Hash_Add_ok1 {N : Nat} {c : Ctx} (hb : Base Go.Proofs.Tryd.prog (sha_Hash_Add_E N) c) : CodeOk Go.Proofs.Tryd.prog c (nodeAt sha_Hash_Add_body [0]) (sha_Hash_Add_h1 N) :=
  piece_ok (s := [(0, .box (.pair .bool (.pair (.arr 8 (.int .u32)) (.pair .str (.pair (.int .i64) .unit))))), (0, .v .str)]) (m := 51) (g := sha_Hash_Add_g1 N) [0, 1] (evN_sound hb N (sha_Hash_Add_t1 N) sha_Hash_Add_L sha_Hash_Add_body TabOk.nil [0] _ rfl) (fun x K => by kernel_rfl)

noncomputable def sha_Hash_Add (N : Nat) (h : (Bool × ((List Int) × ((List UInt8) × (Int × Unit))))) (s : (List UInt8)) : Option ((Unit) × ((Bool × ((List Int) × ((List UInt8) × (Int × Unit)))) × Unit)) :=
  sha_Hash_Add_p1 N h s
  (some ((), (h, ())))
  (cond (decide (((List.length h.2.2.1) + (List.length s)) ≤ 9223372036854775807))
    (cond (decide (((0 : Int) ≤ (Go.IntKind.wrap Go.IntKind.i64 ((((List.length (h.2.2.1 ++ s)) : Nat) : Int) - (Int.tmod (((List.length (h.2.2.1 ++ s)) : Nat) : Int) (64 : Int))))) ∧ ((Go.IntKind.wrap Go.IntKind.i64 ((((List.length (h.2.2.1 ++ s)) : Nat) : Int) - (Int.tmod (((List.length (h.2.2.1 ++ s)) : Nat) : Int) (64 : Int)))) ≤ (((List.length (h.2.2.1 ++ s)) : Nat) : Int))))
      ((sha_steps N h.2.1 (Go.Lift.cut (h.2.2.1 ++ s) 0 (Int.toNat (Go.IntKind.wrap Go.IntKind.i64 ((((List.length (h.2.2.1 ++ s)) : Nat) : Int) - (Int.tmod (((List.length (h.2.2.1 ++ s)) : Nat) : Int) (64 : Int))))))).bind fun y =>
        cond (decide (((0 : Int) ≤ (Go.IntKind.wrap Go.IntKind.i64 ((((List.length (h.2.2.1 ++ s)) : Nat) : Int) - (Int.tmod (((List.length (h.2.2.1 ++ s)) : Nat) : Int) (64 : Int))))) ∧ ((Go.IntKind.wrap Go.IntKind.i64 ((((List.length (h.2.2.1 ++ s)) : Nat) : Int) - (Int.tmod (((List.length (h.2.2.1 ++ s)) : Nat) : Int) (64 : Int)))) ≤ (((List.length (h.2.2.1 ++ s)) : Nat) : Int))))
        (some ((), ((h.1, (y, ((Go.Lift.cut (h.2.2.1 ++ s) (Int.toNat (Go.IntKind.wrap Go.IntKind.i64 ((((List.length (h.2.2.1 ++ s)) : Nat) : Int) - (Int.tmod (((List.length (h.2.2.1 ++ s)) : Nat) : Int) (64 : Int))))) (List.length (h.2.2.1 ++ s))), ((Go.IntKind.wrap Go.IntKind.i64 (h.2.2.2.1 + (((List.length s) : Nat) : Int))), h.2.2.2.2)))), ())))
        (none))
      (none))
    (none))

noncomputable def sha_Hash_Add_t (N : Nat) : Tab ((Unit) × ((Bool × ((List Int) × ((List UInt8) × (Int × Unit)))) × Unit)) := [([0], sha_Hash_Add_h1 N)]

theorem sha_Hash_Add_link (N : Nat) (x : denS [(0, .box (.pair .bool (.pair (.arr 8 (.int .u32)) (.pair .str (.pair (.int .i64) .unit))))), (0, .v .str)]) : evFX (sha_Hash_Add_E N) N (sha_Hash_Add_t N) sha_Hash_Add_L Go.Proofs.Tryd.f25 (mkS [(0, .box (.pair .bool (.pair (.arr 8 (.int .u32)) (.pair .str (.pair (.int .i64) .unit))))), (0, .v .str)] 0 x) (kResB (.tup []) [(0, .box (.pair .bool (.pair (.arr 8 (.int .u32)) (.pair .str (.pair (.int .i64) .unit)))))] 1) = sha_Hash_Add N x.1 x.2.1 := by kernel_rfl

noncomputable def sha_Hash_Add_res (N : Nat) : List A → Res := resOf [(0, .box (.pair .bool (.pair (.arr 8 (.int .u32)) (.pair .str (.pair (.int .i64) .unit))))), (0, .v .str)] (fun x => sha_Hash_Add N x.1 x.2.1) (oResB (.tup []) [(0, .box (.pair .bool (.pair (.arr 8 (.int .u32)) (.pair .str (.pair (.int .i64) .unit)))))] 1)

theorem sha_Hash_Add_ct (N : Nat) : Contract Go.Proofs.Tryd.prog glob 25 (sha_Hash_Add_res N) :=
  Contract.of (E := sha_Hash_Add_E N) (H := sha_Hash_Add_t N) (L := sha_Hash_Add_L) (N := N) (body := sha_Hash_Add_body) (K := (kResB (.tup []) [(0, .box (.pair .bool (.pair (.arr 8 (.int .u32)) (.pair .str (.pair (.int .i64) .unit)))))] 1)) (sha_Hash_Add_Eok N) Go.Proofs.Tryd.func25 (by kernel_rfl) (by decide) (fun _ hb => (TabOk.cons (sha_Hash_Add_ok1 hb) TabOk.nil)) (fun x y h => by rw [sha_Hash_Add_link]; exact h) (kResB_ok (s := (.tup [])) (os := [(0, .box (.pair .bool (.pair (.arr 8 (.int .u32)) (.pair .str (.pair (.int .i64) .unit)))))]) (m := 1))

abbrev sha_Hash_Add_nil_R : Type := (Unit)

noncomputable def sha_Hash_Add_nil_body : Code := (Go.Proofs.Tryd.f25.body).getD .skip

noncomputable def sha_Hash_Add_nil_L : List (List Nat × List Nat) := [([0, 0], [14, 0, 1]), ([1, 0], [0, 1]), ([0, 1, 0], []), ([0, 1], [0, 1]), ([0, 1, 1], [4, 0]), ([0, 1, 1, 1], [0, 4, 5]), ([0, 1, 1, 1, 1], [0, 4, 5]), ([1, 1, 1, 1, 1], [])]

noncomputable def sha_Hash_Add_nil_E (N : Nat) : Env := mkEnv tys glob [(56, sha_steps_res N)] [] [] [] false [] [(79, hmac_split1_itr N)]

theorem sha_Hash_Add_nil_Eok (N : Nat) : EnvOk Go.Proofs.Tryd.prog (sha_Hash_Add_nil_E N) := mkEnv_ok mixed tys_ok (FnsOk.cons (sha_steps_ct N) (FnsOk.nil)) (ItsOk.cons (hmac_split1_it N) (ItsOk.nil))

noncomputable def sha_Hash_Add_nil_p1 (N : Nat) (s : (List UInt8)) (k0 : Option (Unit)) : Option (Unit) :=
  k0

noncomputable def sha_Hash_Add_nil_g1 (N : Nat) (x : denS [(0, .nilp), (0, .v .str)]) (K : Ex → List A → Option (Unit)) : Option (Unit) :=
  sha_Hash_Add_nil_p1 N x.2.1 (K .ret (mkS [] 53 ()))

noncomputable def sha_Hash_Add_nil_h1 (N : Nat) : Hd (Unit) := fun st K => (unS [(0, .nilp), (0, .v .str)] 51 (restr [0, 1] 0 st)).bind fun x => sha_Hash_Add_nil_g1 N x K

noncomputable def sha_Hash_Add_nil_t1 (N : Nat) : Tab (Unit) := []

theorem sha_Hash_Add_nil_ok1 {N : Nat} {c : Ctx} (hb : Base Go.Proofs.Tryd.prog (sha_Hash_Add_nil_E N) c) : CodeOk Go.Proofs.Tryd.prog c (nodeAt sha_Hash_Add_nil_body [0]) (sha_Hash_Add_nil_h1 N) :=
  piece_ok (s := [(0, .nilp), (0, .v .str)]) (m := 51) (g := sha_Hash_Add_nil_g1 N) [0, 1] (evN_sound hb N (sha_Hash_Add_nil_t1 N) sha_Hash_Add_nil_L sha_Hash_Add_nil_body TabOk.nil [0] _ rfl) (fun x K => by kernel_rfl)

noncomputable def sha_Hash_Add_nil (N : Nat) (s : (List UInt8)) : Option (Unit) :=
  sha_Hash_Add_nil_p1 N s
  (some ())

noncomputable def sha_Hash_Add_nil_t (N : Nat) : Tab (Unit) := [([0], sha_Hash_Add_nil_h1 N)]

theorem sha_Hash_Add_nil_link (N : Nat) (x : denS [(0, .nilp), (0, .v .str)]) : evFX (sha_Hash_Add_nil_E N) N (sha_Hash_Add_nil_t N) sha_Hash_Add_nil_L Go.Proofs.Tryd.f25 (mkS [(0, .nilp), (0, .v .str)] 0 x) (kRes (.tup []) 2) = sha_Hash_Add_nil N x.2.1 := by kernel_rfl

noncomputable def sha_Hash_Add_nil_res (N : Nat) : List A → Res := resOf [(0, .nilp), (0, .v .str)] (fun x => sha_Hash_Add_nil N x.2.1) (oRes (.tup []) 2)

theorem sha_Hash_Add_nil_ct (N : Nat) : Contract Go.Proofs.Tryd.prog glob 25 (sha_Hash_Add_nil_res N) :=
  Contract.of (E := sha_Hash_Add_nil_E N) (H := sha_Hash_Add_nil_t N) (L := sha_Hash_Add_nil_L) (N := N) (body := sha_Hash_Add_nil_body) (K := (kRes (.tup []) 2)) (sha_Hash_Add_nil_Eok N) Go.Proofs.Tryd.func25 (by kernel_rfl) (by decide) (fun _ hb => (TabOk.cons (sha_Hash_Add_nil_ok1 hb) TabOk.nil)) (fun x y h => by rw [sha_Hash_Add_nil_link]; exact h) (kRes_ok (s := (.tup [])) (m := 2))

noncomputable def sha_Hash_Add_nil_all (N : Nat) : List A → Res := resAlt [(0, .nilp), (0, .v .str)] (fun x => sha_Hash_Add_nil N x.2.1) (oRes (.tup []) 2) (sha_Hash_Add_res N)

theorem sha_Hash_Add_nil_allct (N : Nat) : Contract Go.Proofs.Tryd.prog glob 25 (sha_Hash_Add_nil_all N) := Contract.alt (sha_Hash_Add_nil_ct N) (sha_Hash_Add_ct N)

abbrev octet_Pad_R : Type := (List UInt8)

noncomputable def octet_Pad_body : Code := (Go.Proofs.Tryd.f57.body).getD .skip

noncomputable def octet_Pad_L : List (List Nat × List Nat) := [([0], [1, 0]), ([0, 1], [1, 0]), ([0, 0, 1, 1], [10, 0, 1]), ([1, 0, 1, 1], [0, 1]), ([0, 0, 1, 0, 1, 1], [4]), ([1, 0, 1, 0, 1, 1], [4]), ([0, 1, 1, 1], [4]), ([1, 1, 1, 1], [4])]

noncomputable def octet_Pad_E (N : Nat) : Env := mkEnv tys glob [] [] [] [] false [] [(79, hmac_split1_itr N)]

theorem octet_Pad_Eok (N : Nat) : EnvOk Go.Proofs.Tryd.prog (octet_Pad_E N) := mkEnv_ok mixed tys_ok (FnsOk.nil) (ItsOk.cons (hmac_split1_it N) (ItsOk.nil))

noncomputable def octet_Pad (N : Nat) (s : (List UInt8)) (n : Int) : Option (List UInt8) :=
  cond (decide ((if ((65536 : Int) < n) then (65536 : Int) else n) ≤ (((List.length s) : Nat) : Int)))
  (some s)
  (cond (decide (((0 : Int) ≤ (Go.IntKind.wrap Go.IntKind.i64 ((if ((65536 : Int) < n) then (65536 : Int) else n) - (((List.length s) : Nat) : Int)))) ∧ (((Go.IntKind.wrap Go.IntKind.i64 ((if ((65536 : Int) < n) then (65536 : Int) else n) - (((List.length s) : Nat) : Int))) ≤ (Go.IntKind.wrap Go.IntKind.i64 ((if ((65536 : Int) < n) then (65536 : Int) else n) - (((List.length s) : Nat) : Int)))) ∧ ((((Go.IntKind.wrap Go.IntKind.i64 ((if ((65536 : Int) < n) then (65536 : Int) else n) - (((List.length s) : Nat) : Int))) * (1 : Int)) ≤ (281474976710656 : Int)) ∧ ((Go.IntKind.wrap Go.IntKind.i64 ((if ((65536 : Int) < n) then (65536 : Int) else n) - (((List.length s) : Nat) : Int))) ≤ (9223372036854775807 : Int))))))
    (cond (decide (((List.length s) + (List.length (Go.Lift.toStr (List.replicate (Int.toNat (Go.IntKind.wrap Go.IntKind.i64 ((if ((65536 : Int) < n) then (65536 : Int) else n) - (((List.length s) : Nat) : Int)))) (0 : Int))))) ≤ 9223372036854775807))
      (some (s ++ (Go.Lift.toStr (List.replicate (Int.toNat (Go.IntKind.wrap Go.IntKind.i64 ((if ((65536 : Int) < n) then (65536 : Int) else n) - (((List.length s) : Nat) : Int)))) (0 : Int)))))
      (none))
    (none))

noncomputable def octet_Pad_t (N : Nat) : Tab (List UInt8) := []

theorem octet_Pad_link (N : Nat) (x : denS [(0, .v .str), (0, .v (.int .i64))]) : evFX (octet_Pad_E N) N (octet_Pad_t N) octet_Pad_L Go.Proofs.Tryd.f57 (mkS [(0, .v .str), (0, .v (.int .i64))] 0 x) (kRes (.v .str) 2) = octet_Pad N x.1 x.2.1 := by kernel_rfl

noncomputable def octet_Pad_res (N : Nat) : List A → Res := resOf [(0, .v .str), (0, .v (.int .i64))] (fun x => octet_Pad N x.1 x.2.1) (oRes (.v .str) 2)

theorem octet_Pad_ct (N : Nat) : Contract Go.Proofs.Tryd.prog glob 57 (octet_Pad_res N) :=
  Contract.of (E := octet_Pad_E N) (H := octet_Pad_t N) (L := octet_Pad_L) (N := N) (body := octet_Pad_body) (K := (kRes (.v .str) 2)) (octet_Pad_Eok N) Go.Proofs.Tryd.func57 (by kernel_rfl) (by decide) (fun _ hb => TabOk.nil) (fun x y h => by rw [octet_Pad_link]; exact h) (kRes_ok (s := (.v .str)) (m := 2))

abbrev sha_bigEndian_R : Type := (List UInt8)

noncomputable def sha_bigEndian_body : Code := (Go.Proofs.Tryd.f55.body).getD .skip

noncomputable def sha_bigEndian_L : List (List Nat × List Nat) := [([0], [1, 0]), ([0, 1], [1, 5, 0]), ([0, 0, 1, 1], [10, 9, 5, 0, 1]), ([0, 1, 0, 1, 1], [10, 9, 5, 0, 1]), ([0, 0, 0, 1, 0, 1, 1], [11, 10, 5, 0, 1, 9]), ([0, 1, 0, 0, 1, 0, 1, 1], [10, 5, 0, 1, 9]), ([1, 0, 1, 0, 0, 1, 0, 1, 1], [5]), ([0, 0, 0, 1, 1, 0, 0, 1, 0, 1, 1], [5, 6, 0, 1, 10, 9]), ([1, 0, 0, 1, 1, 0, 0, 1, 0, 1, 1], [10, 9, 5, 0, 1]), ([0, 1, 1, 0, 0, 1, 0, 1, 1], [10, 9, 5, 0, 1]), ([1, 1, 1, 0, 0, 1, 0, 1, 1], [10, 9, 5, 0, 1]), ([1, 0, 1, 1], [5]), ([0, 1, 1, 1], [4]), ([1, 1, 1, 1], [4])]

noncomputable def sha_bigEndian_E (N : Nat) : Env := mkEnv tys glob [] [(5, (.int .u8))] [] [] false [] [(79, hmac_split1_itr N)]

theorem sha_bigEndian_Eok (N : Nat) : EnvOk Go.Proofs.Tryd.prog (sha_bigEndian_E N) := mkEnv_ok mixed tys_ok (FnsOk.nil) (ItsOk.cons (hmac_split1_it N) (ItsOk.nil))

noncomputable def sha_bigEndian_s1 (N : Nat) (n : Int) (size : Int) (x9 : Int) (out : (List Int)) (x10 : Int) (rec : (List Int) → Int → Option (List UInt8)) (k0 : (List Int) → Option (List UInt8)) : Option (List UInt8) :=
  cond (decide (x10 < x9))
  (cond (decide ((0 : Int) ≤ (Go.IntKind.wrap Go.IntKind.i64 ((8 : Int) * (Go.IntKind.wrap Go.IntKind.i64 ((Go.IntKind.wrap Go.IntKind.i64 (size - (1 : Int))) - x10))))))
    (cond (Go.Lift.inR x10 (List.length out))
      (cond (decide ((Int.toNat x10) < (List.length out)))
        (rec (List.set out (Int.toNat x10) (Go.IntKind.wrap Go.IntKind.u8 (Go.Lift.shrI Go.IntKind.u64 n (Go.IntKind.wrap Go.IntKind.i64 ((8 : Int) * (Go.IntKind.wrap Go.IntKind.i64 ((Go.IntKind.wrap Go.IntKind.i64 (size - (1 : Int))) - x10))))))) (Go.IntKind.wrap Go.IntKind.i64 (x10 + (1 : Int))))
        (none))
      (none))
    (none))
  (k0 out)

noncomputable def sha_bigEndian_p1 (N : Nat) (n : Int) (size : Int) (out : (List Int)) (x9 : Int) (x10 : Int) (k0 : (List Int) → Option (List UInt8)) : Option (List UInt8) :=
  iter (fun (v : ((List Int) × Int)) r => sha_bigEndian_s1 N n size x9 v.1 v.2 (fun out x10 => (r (out, x10))) k0) N (out, x10)

noncomputable def sha_bigEndian_g1 (N : Nat) (i : (Int × Int × Int)) (v : ((List Int) × Int)) (r : ((List Int) × Int) → Option (List UInt8)) (K : Ex → List A → Option (List UInt8)) : Option (List UInt8) :=
  sha_bigEndian_s1 N i.1 i.2.1 i.2.2 v.1 v.2 (fun out x10 => (r (out, x10))) (fun a0 => (K (.exit 0) (mkS [(5, .row (.int .u8))] 21 (a0, ()))))

noncomputable def sha_bigEndian_h1 (N : Nat) : Hd (List UInt8) := fun st K => (unS [(0, .v (.int .u64)), (0, .v (.int .i64)), (3, .row (.int .u8)), (3, .v (.int .i64)), (0, .v (.int .i64))] 16 (restr [10, 9, 5, 0, 1] 0 st)).bind fun x => iter (fun v r => sha_bigEndian_g1 N ((fun x => (x.1, x.2.1, x.2.2.2.1)) x) v r K) N ((fun x => (x.2.2.1, x.2.2.2.2.1)) x)

noncomputable def sha_bigEndian_t1 (N : Nat) : Tab (List UInt8) := []

theorem sha_bigEndian_ok1 {N : Nat} {c : Ctx} (hb : Base Go.Proofs.Tryd.prog (sha_bigEndian_E N) c) : CodeOk Go.Proofs.Tryd.prog c (nodeAt sha_bigEndian_body [0, 1, 0, 1, 1]) (sha_bigEndian_h1 N) :=
  loop_ok (s := [(0, .v (.int .u64)), (0, .v (.int .i64)), (3, .row (.int .u8)), (3, .v (.int .i64)), (0, .v (.int .i64))]) (m := 16) (sha_bigEndian_g1 N) [10, 9, 5, 0, 1] N (fun x => (x.1, x.2.1, x.2.2.2.1)) (fun x => (x.2.2.1, x.2.2.2.2.1)) (fun i v => (i.1, i.2.1, v.1, i.2.2, v.2, ())) (fun _ => rfl) (evN_sound hb N (sha_bigEndian_t1 N) sha_bigEndian_L sha_bigEndian_body TabOk.nil [0, 0, 1, 0, 1, 1] _ rfl) (fun i v r K => by kernel_rfl)

noncomputable def sha_bigEndian (N : Nat) (n : Int) (size : Int) : Option (List UInt8) :=
  cond (decide (((0 : Int) ≤ size) ∧ ((size ≤ size) ∧ (((size * (1 : Int)) ≤ (281474976710656 : Int)) ∧ (size ≤ (9223372036854775807 : Int))))))
  (sha_bigEndian_p1 N n size (List.replicate (Int.toNat size) (0 : Int)) size (0 : Int)
    (fun out => some (Go.Lift.toStr out)))
  (none)

noncomputable def sha_bigEndian_t (N : Nat) : Tab (List UInt8) := [([0, 1, 0, 1, 1], sha_bigEndian_h1 N)]

theorem sha_bigEndian_link (N : Nat) (x : denS [(0, .v (.int .u64)), (0, .v (.int .i64))]) : evFX (sha_bigEndian_E N) N (sha_bigEndian_t N) sha_bigEndian_L Go.Proofs.Tryd.f55 (mkS [(0, .v (.int .u64)), (0, .v (.int .i64))] 0 x) (kRes (.v .str) 2) = sha_bigEndian N x.1 x.2.1 := by kernel_rfl

noncomputable def sha_bigEndian_res (N : Nat) : List A → Res := resOf [(0, .v (.int .u64)), (0, .v (.int .i64))] (fun x => sha_bigEndian N x.1 x.2.1) (oRes (.v .str) 2)

theorem sha_bigEndian_ct (N : Nat) : Contract Go.Proofs.Tryd.prog glob 55 (sha_bigEndian_res N) :=
  Contract.of (E := sha_bigEndian_E N) (H := sha_bigEndian_t N) (L := sha_bigEndian_L) (N := N) (body := sha_bigEndian_body) (K := (kRes (.v .str) 2)) (sha_bigEndian_Eok N) Go.Proofs.Tryd.func55 (by kernel_rfl) (by decide) (fun _ hb => (TabOk.cons (sha_bigEndian_ok1 hb) TabOk.nil)) (fun x y h => by rw [sha_bigEndian_link]; exact h) (kRes_ok (s := (.v .str)) (m := 2))

abbrev sha_tail_R : Type := (List UInt8)

noncomputable def sha_tail_body : Code := (Go.Proofs.Tryd.f51.body).getD .skip

noncomputable def sha_tail_L : List (List Nat × List Nat) := [([0], [0]), ([0, 1], [3, 0]), ([0, 1, 1], [2]), ([1, 1, 1], [2])]

noncomputable def sha_tail_E (N : Nat) : Env := mkEnv tys glob [(55, sha_bigEndian_res N), (57, octet_Pad_res N)] [] [] [] false [] [(79, hmac_split1_itr N)]

theorem sha_tail_Eok (N : Nat) : EnvOk Go.Proofs.Tryd.prog (sha_tail_E N) := mkEnv_ok mixed tys_ok (FnsOk.cons (sha_bigEndian_ct N) (FnsOk.cons (octet_Pad_ct N) (FnsOk.nil))) (ItsOk.cons (hmac_split1_it N) (ItsOk.nil))

noncomputable def sha_tail (N : Nat) (n : Int) : Option (List UInt8) :=
  (octet_Pad N ([(128 : UInt8)] : List UInt8) (Go.IntKind.wrap Go.IntKind.i64 ((1 : Int) + (Int.tmod (Go.IntKind.wrap Go.IntKind.i64 ((119 : Int) - (Int.tmod n (64 : Int)))) (64 : Int))))).bind fun y =>
  (sha_bigEndian N (Go.IntKind.wrap Go.IntKind.u64 ((8 : Int) * (Go.IntKind.wrap Go.IntKind.u64 n))) (8 : Int)).bind fun y1 =>
  cond (decide (((List.length y) + (List.length y1)) ≤ 9223372036854775807))
  (some (y ++ y1))
  (none)

noncomputable def sha_tail_t (N : Nat) : Tab (List UInt8) := []

theorem sha_tail_link (N : Nat) (x : denS [(0, .v (.int .i64))]) : evFX (sha_tail_E N) N (sha_tail_t N) sha_tail_L Go.Proofs.Tryd.f51 (mkS [(0, .v (.int .i64))] 0 x) (kRes (.v .str) 1) = sha_tail N x.1 := by kernel_rfl

noncomputable def sha_tail_res (N : Nat) : List A → Res := resOf [(0, .v (.int .i64))] (fun x => sha_tail N x.1) (oRes (.v .str) 1)

theorem sha_tail_ct (N : Nat) : Contract Go.Proofs.Tryd.prog glob 51 (sha_tail_res N) :=
  Contract.of (E := sha_tail_E N) (H := sha_tail_t N) (L := sha_tail_L) (N := N) (body := sha_tail_body) (K := (kRes (.v .str) 1)) (sha_tail_Eok N) Go.Proofs.Tryd.func51 (by kernel_rfl) (by decide) (fun _ hb => TabOk.nil) (fun x y h => by rw [sha_tail_link]; exact h) (kRes_ok (s := (.v .str)) (m := 1))

abbrev sha_Tell_R : Type := (List UInt8)

noncomputable def sha_Tell_body : Code := (Go.Proofs.Tryd.f20.body).getD .skip

noncomputable def sha_Tell_L : List (List Nat × List Nat) := [([0], [1]), ([0, 1], [1, 3]), ([0, 0, 1, 1], [7, 6, 3]), ([0, 1, 0, 1, 1], [7, 6, 3]), ([0, 0, 0, 1, 0, 1, 1], [8, 6, 7, 3]), ([0, 1, 0, 0, 1, 0, 1, 1], [6, 7, 3]), ([1, 0, 1, 0, 0, 1, 0, 1, 1], [3]), ([0, 0, 0, 1, 1, 0, 0, 1, 0, 1, 1], [3, 5, 7, 6]), ([1, 0, 0, 1, 1, 0, 0, 1, 0, 1, 1], [7, 6, 3]), ([0, 1, 1, 0, 0, 1, 0, 1, 1], [7, 6, 3]), ([1, 1, 1, 0, 0, 1, 0, 1, 1], [7, 6, 3]), ([1, 0, 1, 1], [3]), ([0, 1, 1, 1], [2]), ([1, 1, 1, 1], [2])]

noncomputable def sha_Tell_E (N : Nat) : Env := mkEnv tys glob [(55, sha_bigEndian_res N)] [] [] [] false [] [(79, hmac_split1_itr N)]

theorem sha_Tell_Eok (N : Nat) : EnvOk Go.Proofs.Tryd.prog (sha_Tell_E N) := mkEnv_ok mixed tys_ok (FnsOk.cons (sha_bigEndian_ct N) (FnsOk.nil)) (ItsOk.cons (hmac_split1_it N) (ItsOk.nil))

noncomputable def sha_Tell_s1 (N : Nat) (x6 : (List Int)) (out : (List UInt8)) (x7 : Int) (rec : (List UInt8) → Int → Option (List UInt8)) (k0 : (List UInt8) → Option (List UInt8)) : Option (List UInt8) :=
  cond (decide (x7 < (8 : Int)))
  (cond (Go.Lift.inR x7 8)
    ((sha_bigEndian N (Go.IntKind.wrap Go.IntKind.u64 (List.getD x6 (Int.toNat x7) (0 : Int))) (4 : Int)).bind fun y =>
      cond (decide (((List.length out) + (List.length y)) ≤ 9223372036854775807))
      (rec (out ++ y) (Go.IntKind.wrap Go.IntKind.i64 (x7 + (1 : Int))))
      (none))
    (none))
  (k0 out)

noncomputable def sha_Tell_p1 (N : Nat) (out : (List UInt8)) (x6 : (List Int)) (x7 : Int) (k0 : (List UInt8) → Option (List UInt8)) : Option (List UInt8) :=
  iter (fun (v : ((List UInt8) × Int)) r => sha_Tell_s1 N x6 v.1 v.2 (fun out x7 => (r (out, x7))) k0) N (out, x7)

noncomputable def sha_Tell_g1 (N : Nat) (i : (List Int)) (v : ((List UInt8) × Int)) (r : ((List UInt8) × Int) → Option (List UInt8)) (K : Ex → List A → Option (List UInt8)) : Option (List UInt8) :=
  sha_Tell_s1 N i v.1 v.2 (fun out x7 => (r (out, x7))) (fun a0 => (K (.exit 0) (mkS [(3, .v .str)] 13 (a0, ()))))

noncomputable def sha_Tell_h1 (N : Nat) : Hd (List UInt8) := fun st K => (unS [(3, .v .str), (2, .v (.arr 8 (.int .u32))), (0, .v (.int .i64))] 9 (restr [7, 6, 3] 0 st)).bind fun x => iter (fun v r => sha_Tell_g1 N ((fun x => x.2.1) x) v r K) N ((fun x => (x.1, x.2.2.1)) x)

noncomputable def sha_Tell_t1 (N : Nat) : Tab (List UInt8) := []

theorem sha_Tell_ok1 {N : Nat} {c : Ctx} (hb : Base Go.Proofs.Tryd.prog (sha_Tell_E N) c) : CodeOk Go.Proofs.Tryd.prog c (nodeAt sha_Tell_body [0, 1, 0, 1, 1]) (sha_Tell_h1 N) :=
  loop_ok (s := [(3, .v .str), (2, .v (.arr 8 (.int .u32))), (0, .v (.int .i64))]) (m := 9) (sha_Tell_g1 N) [7, 6, 3] N (fun x => x.2.1) (fun x => (x.1, x.2.2.1)) (fun i v => (v.1, i, v.2, ())) (fun _ => rfl) (evN_sound hb N (sha_Tell_t1 N) sha_Tell_L sha_Tell_body TabOk.nil [0, 0, 1, 0, 1, 1] _ rfl) (fun i v r K => by kernel_rfl)

noncomputable def sha_Tell (N : Nat) (h : (List Int)) : Option (List UInt8) :=
  sha_Tell_p1 N ([] : List UInt8) h (0 : Int)
  (fun out => some out)

noncomputable def sha_Tell_t (N : Nat) : Tab (List UInt8) := [([0, 1, 0, 1, 1], sha_Tell_h1 N)]

theorem sha_Tell_link (N : Nat) (x : denS [(0, .v (.arr 8 (.int .u32)))]) : evFX (sha_Tell_E N) N (sha_Tell_t N) sha_Tell_L Go.Proofs.Tryd.f20 (mkS [(0, .v (.arr 8 (.int .u32)))] 0 x) (kRes (.v .str) 1) = sha_Tell N x.1 := by kernel_rfl

noncomputable def sha_Tell_res (N : Nat) : List A → Res := resOf [(0, .v (.arr 8 (.int .u32)))] (fun x => sha_Tell N x.1) (oRes (.v .str) 1)

theorem sha_Tell_ct (N : Nat) : Contract Go.Proofs.Tryd.prog glob 20 (sha_Tell_res N) :=
  Contract.of (E := sha_Tell_E N) (H := sha_Tell_t N) (L := sha_Tell_L) (N := N) (body := sha_Tell_body) (K := (kRes (.v .str) 1)) (sha_Tell_Eok N) Go.Proofs.Tryd.func20 (by kernel_rfl) (by decide) (fun _ hb => (TabOk.cons (sha_Tell_ok1 hb) TabOk.nil)) (fun x y h => by rw [sha_Tell_link]; exact h) (kRes_ok (s := (.v .str)) (m := 1))

abbrev sha_Hash_Sum1_R : Type := ((List UInt8) × ((Bool × ((List Int) × ((List UInt8) × (Int × Unit)))) × Unit))

noncomputable def sha_Hash_Sum1_body : Code := (Go.Proofs.Tryd.f27.body).getD .skip

noncomputable def sha_Hash_Sum1_L : List (List Nat × List Nat) := [([0], [0]), ([0, 0, 1], [11, 0]), ([1, 0, 1], [0]), ([0, 0, 1, 0, 1], [2, 0]), ([1, 0, 1, 0, 1], [2, 0]), ([0, 1, 1], [2, 0]), ([1, 1, 1], [2, 0])]

noncomputable def sha_Hash_Sum1_E (N : Nat) : Env := mkEnv tys glob [(20, sha_Tell_res N), (51, sha_tail_res N), (56, sha_steps_res N)] [] [] [0] false [] [(79, hmac_split1_itr N)]

theorem sha_Hash_Sum1_Eok (N : Nat) : EnvOk Go.Proofs.Tryd.prog (sha_Hash_Sum1_E N) := mkEnv_ok mixed tys_ok (FnsOk.cons (sha_Tell_ct N) (FnsOk.cons (sha_tail_ct N) (FnsOk.cons (sha_steps_ct N) (FnsOk.nil)))) (ItsOk.cons (hmac_split1_it N) (ItsOk.nil))

noncomputable def sha_Hash_Sum1_p2 (N : Nat) (h : (Bool × ((List Int) × ((List UInt8) × (Int × Unit))))) (k0 : Bool → Option ((List UInt8) × ((Bool × ((List Int) × ((List UInt8) × (Int × Unit)))) × Unit))) : Option ((List UInt8) × ((Bool × ((List Int) × ((List UInt8) × (Int × Unit)))) × Unit)) :=
  k0 (!h.1)

noncomputable def sha_Hash_Sum1_g2 (N : Nat) (x : denS [(0, .box (.pair .bool (.pair (.arr 8 (.int .u32)) (.pair .str (.pair (.int .i64) .unit)))))]) (K : Ex → List A → Option ((List UInt8) × ((Bool × ((List Int) × ((List UInt8) × (Int × Unit)))) × Unit))) : Option ((List UInt8) × ((Bool × ((List Int) × ((List UInt8) × (Int × Unit)))) × Unit)) :=
  sha_Hash_Sum1_p2 N x.1 (fun a1 => (K .normal (mkS [(0, .box (.pair .bool (.pair (.arr 8 (.int .u32)) (.pair .str (.pair (.int .i64) .unit))))), (10, .v .bool)] 17 (x.1, a1, ()))))

noncomputable def sha_Hash_Sum1_h2 (N : Nat) : Hd ((List UInt8) × ((Bool × ((List Int) × ((List UInt8) × (Int × Unit)))) × Unit)) := fun st K => (unS [(0, .box (.pair .bool (.pair (.arr 8 (.int .u32)) (.pair .str (.pair (.int .i64) .unit)))))] 28 (restr [0] 0 st)).bind fun x => sha_Hash_Sum1_g2 N x K

noncomputable def sha_Hash_Sum1_t2 (N : Nat) : Tab ((List UInt8) × ((Bool × ((List Int) × ((List UInt8) × (Int × Unit)))) × Unit)) := []

theorem sha_Hash_Sum1_ok2 {N : Nat} {c : Ctx} (hb : Base Go.Proofs.Tryd.prog (sha_Hash_Sum1_E N) c) : CodeOk Go.Proofs.Tryd.prog c (nodeAt sha_Hash_Sum1_body [0, 0, 1]) (sha_Hash_Sum1_h2 N) :=
  piece_ok (s := [(0, .box (.pair .bool (.pair (.arr 8 (.int .u32)) (.pair .str (.pair (.int .i64) .unit)))))]) (m := 28) (g := sha_Hash_Sum1_g2 N) [0] (evN_sound hb N (sha_Hash_Sum1_t2 N) sha_Hash_Sum1_L sha_Hash_Sum1_body TabOk.nil [0, 0, 1] _ rfl) (fun x K => by kernel_rfl)

noncomputable def sha_Hash_Sum1_p1 (N : Nat) (h : (Bool × ((List Int) × ((List UInt8) × (Int × Unit))))) (k0 : Option ((List UInt8) × ((Bool × ((List Int) × ((List UInt8) × (Int × Unit)))) × Unit))) : Option ((List UInt8) × ((Bool × ((List Int) × ((List UInt8) × (Int × Unit)))) × Unit)) :=
  sha_Hash_Sum1_p2 N h
  (fun x11 => cond x11
    (none)
    (k0))

noncomputable def sha_Hash_Sum1_g1 (N : Nat) (x : denS [(0, .box (.pair .bool (.pair (.arr 8 (.int .u32)) (.pair .str (.pair (.int .i64) .unit)))))]) (K : Ex → List A → Option ((List UInt8) × ((Bool × ((List Int) × ((List UInt8) × (Int × Unit)))) × Unit))) : Option ((List UInt8) × ((Bool × ((List Int) × ((List UInt8) × (Int × Unit)))) × Unit)) :=
  sha_Hash_Sum1_p1 N x.1 (K .normal (mkS [(0, .box (.pair .bool (.pair (.arr 8 (.int .u32)) (.pair .str (.pair (.int .i64) .unit)))))] 28 (x.1, ())))

noncomputable def sha_Hash_Sum1_h1 (N : Nat) : Hd ((List UInt8) × ((Bool × ((List Int) × ((List UInt8) × (Int × Unit)))) × Unit)) := fun st K => (unS [(0, .box (.pair .bool (.pair (.arr 8 (.int .u32)) (.pair .str (.pair (.int .i64) .unit)))))] 28 (restr [0] 0 st)).bind fun x => sha_Hash_Sum1_g1 N x K

noncomputable def sha_Hash_Sum1_t1 (N : Nat) : Tab ((List UInt8) × ((Bool × ((List Int) × ((List UInt8) × (Int × Unit)))) × Unit)) := [([0, 0, 1], sha_Hash_Sum1_h2 N)]

theorem sha_Hash_Sum1_ok1 {N : Nat} {c : Ctx} (hb : Base Go.Proofs.Tryd.prog (sha_Hash_Sum1_E N) c) : CodeOk Go.Proofs.Tryd.prog c (nodeAt sha_Hash_Sum1_body [0, 1]) (sha_Hash_Sum1_h1 N) :=
  piece_ok (s := [(0, .box (.pair .bool (.pair (.arr 8 (.int .u32)) (.pair .str (.pair (.int .i64) .unit)))))]) (m := 28) (g := sha_Hash_Sum1_g1 N) [0] (evN_sound hb N (sha_Hash_Sum1_t1 N) sha_Hash_Sum1_L sha_Hash_Sum1_body (TabOk.cons (sha_Hash_Sum1_ok2 hb) TabOk.nil) [0, 1] _ rfl) (fun x K => by kernel_rfl)

noncomputable def sha_Hash_Sum1 (N : Nat) (h : (Bool × ((List Int) × ((List UInt8) × (Int × Unit))))) : Option ((List UInt8) × ((Bool × ((List Int) × ((List UInt8) × (Int × Unit)))) × Unit)) :=
  sha_Hash_Sum1_p1 N h
  ((sha_tail N h.2.2.2.1).bind fun y =>
    cond (decide (((List.length h.2.2.1) + (List.length y)) ≤ 9223372036854775807))
    ((sha_steps N h.2.1 (h.2.2.1 ++ y)).bind fun y1 =>
      (sha_Tell N y1).bind fun y2 =>
      some (y2, (h, ())))
    (none))

noncomputable def sha_Hash_Sum1_t (N : Nat) : Tab ((List UInt8) × ((Bool × ((List Int) × ((List UInt8) × (Int × Unit)))) × Unit)) := [([0, 1], sha_Hash_Sum1_h1 N)]

theorem sha_Hash_Sum1_link (N : Nat) (x : denS [(0, .box (.pair .bool (.pair (.arr 8 (.int .u32)) (.pair .str (.pair (.int .i64) .unit)))))]) : evFX (sha_Hash_Sum1_E N) N (sha_Hash_Sum1_t N) sha_Hash_Sum1_L Go.Proofs.Tryd.f27 (mkS [(0, .box (.pair .bool (.pair (.arr 8 (.int .u32)) (.pair .str (.pair (.int .i64) .unit)))))] 0 x) (kResB (.v .str) [(0, .box (.pair .bool (.pair (.arr 8 (.int .u32)) (.pair .str (.pair (.int .i64) .unit)))))] 0) = sha_Hash_Sum1 N x.1 := by kernel_rfl

noncomputable def sha_Hash_Sum1_res (N : Nat) : List A → Res := resOf [(0, .box (.pair .bool (.pair (.arr 8 (.int .u32)) (.pair .str (.pair (.int .i64) .unit)))))] (fun x => sha_Hash_Sum1 N x.1) (oResB (.v .str) [(0, .box (.pair .bool (.pair (.arr 8 (.int .u32)) (.pair .str (.pair (.int .i64) .unit)))))] 0)

theorem sha_Hash_Sum1_ct (N : Nat) : Contract Go.Proofs.Tryd.prog glob 27 (sha_Hash_Sum1_res N) :=
  Contract.of (E := sha_Hash_Sum1_E N) (H := sha_Hash_Sum1_t N) (L := sha_Hash_Sum1_L) (N := N) (body := sha_Hash_Sum1_body) (K := (kResB (.v .str) [(0, .box (.pair .bool (.pair (.arr 8 (.int .u32)) (.pair .str (.pair (.int .i64) .unit)))))] 0)) (sha_Hash_Sum1_Eok N) Go.Proofs.Tryd.func27 (by kernel_rfl) (by decide) (fun _ hb => (TabOk.cons (sha_Hash_Sum1_ok1 hb) TabOk.nil)) (fun x y h => by rw [sha_Hash_Sum1_link]; exact h) (kResB_ok (s := (.v .str)) (os := [(0, .box (.pair .bool (.pair (.arr 8 (.int .u32)) (.pair .str (.pair (.int .i64) .unit)))))]) (m := 0))

abbrev sha_Sum_R : Type := (List UInt8)

noncomputable def sha_Sum_body : Code := (Go.Proofs.Tryd.f14.body).getD .skip

noncomputable def sha_Sum_L : List (List Nat × List Nat) := [([0], [0]), ([0, 1], [3, 0]), ([0, 1, 1], [3]), ([0, 1, 1, 1], [2]), ([1, 1, 1, 1], [2])]

noncomputable def sha_Sum_E (N : Nat) : Env := mkEnv tys glob [(27, sha_Hash_Sum1_res N), (25, sha_Hash_Add_nil_all N), (24, sha_New_res N)] [] [] [] false [] [(79, hmac_split1_itr N)]

theorem sha_Sum_Eok (N : Nat) : EnvOk Go.Proofs.Tryd.prog (sha_Sum_E N) := mkEnv_ok mixed tys_ok (FnsOk.cons (sha_Hash_Sum1_ct N) (FnsOk.cons (sha_Hash_Add_nil_allct N) (FnsOk.cons (sha_New_ct N) (FnsOk.nil)))) (ItsOk.cons (hmac_split1_it N) (ItsOk.nil))

noncomputable def sha_Sum (N : Nat) (s : (List UInt8)) : Option (List UInt8) :=
  (sha_Hash_Add N (true, (([(1779033703 : Int), (3144134277 : Int), (1013904242 : Int), (2773480762 : Int), (1359893119 : Int), (2600822924 : Int), (528734635 : Int), (1541459225 : Int)] : List Int), (([] : List UInt8), ((0 : Int), ())))) s).bind fun y =>
  (sha_Hash_Sum1 N y.2.1).bind fun y1 =>
  some y1.1

noncomputable def sha_Sum_t (N : Nat) : Tab (List UInt8) := []

theorem sha_Sum_link (N : Nat) (x : denS [(0, .v .str)]) : evFX (sha_Sum_E N) N (sha_Sum_t N) sha_Sum_L Go.Proofs.Tryd.f14 (mkS [(0, .v .str)] 0 x) (kRes (.v .str) 1) = sha_Sum N x.1 := by kernel_rfl

noncomputable def sha_Sum_res (N : Nat) : List A → Res := resOf [(0, .v .str)] (fun x => sha_Sum N x.1) (oRes (.v .str) 1)

theorem sha_Sum_ct (N : Nat) : Contract Go.Proofs.Tryd.prog glob 14 (sha_Sum_res N) :=
  Contract.of (E := sha_Sum_E N) (H := sha_Sum_t N) (L := sha_Sum_L) (N := N) (body := sha_Sum_body) (K := (kRes (.v .str) 1)) (sha_Sum_Eok N) Go.Proofs.Tryd.func14 (by kernel_rfl) (by decide) (fun _ hb => TabOk.nil) (fun x y h => by rw [sha_Sum_link]; exact h) (kRes_ok (s := (.v .str)) (m := 1))

abbrev sha_Hash_Sum_R : Type := ((List UInt8) × ((Bool × ((List Int) × ((List UInt8) × (Int × Unit)))) × Unit))

noncomputable def sha_Hash_Sum_body : Code := (Go.Proofs.Tryd.f27.body).getD .skip

noncomputable def sha_Hash_Sum_L : List (List Nat × List Nat) := [([0], [0]), ([0, 0, 1], [11, 0]), ([1, 0, 1], [0]), ([0, 0, 1, 0, 1], [2, 0]), ([1, 0, 1, 0, 1], [2, 0]), ([0, 1, 1], [2, 0]), ([1, 1, 1], [2, 0])]

noncomputable def sha_Hash_Sum_E (N : Nat) : Env := mkEnv tys glob [(14, sha_Sum_res N), (20, sha_Tell_res N), (51, sha_tail_res N), (56, sha_steps_res N)] [] [] [0] false [] [(79, hmac_split1_itr N)]

theorem sha_Hash_Sum_Eok (N : Nat) : EnvOk Go.Proofs.Tryd.prog (sha_Hash_Sum_E N) := mkEnv_ok mixed tys_ok (FnsOk.cons (sha_Sum_ct N) (FnsOk.cons (sha_Tell_ct N) (FnsOk.cons (sha_tail_ct N) (FnsOk.cons (sha_steps_ct N) (FnsOk.nil))))) (ItsOk.cons (hmac_split1_it N) (ItsOk.nil))

noncomputable def sha_Hash_Sum_p2 (N : Nat) (h : (Bool × ((List Int) × ((List UInt8) × (Int × Unit))))) (k0 : Bool → Option ((List UInt8) × ((Bool × ((List Int) × ((List UInt8) × (Int × Unit)))) × Unit))) : Option ((List UInt8) × ((Bool × ((List Int) × ((List UInt8) × (Int × Unit)))) × Unit)) :=
  k0 (!h.1)

noncomputable def sha_Hash_Sum_g2 (N : Nat) (x : denS [(0, .box (.pair .bool (.pair (.arr 8 (.int .u32)) (.pair .str (.pair (.int .i64) .unit)))))]) (K : Ex → List A → Option ((List UInt8) × ((Bool × ((List Int) × ((List UInt8) × (Int × Unit)))) × Unit))) : Option ((List UInt8) × ((Bool × ((List Int) × ((List UInt8) × (Int × Unit)))) × Unit)) :=
  sha_Hash_Sum_p2 N x.1 (fun a1 => (K .normal (mkS [(0, .box (.pair .bool (.pair (.arr 8 (.int .u32)) (.pair .str (.pair (.int .i64) .unit))))), (10, .v .bool)] 17 (x.1, a1, ()))))

noncomputable def sha_Hash_Sum_h2 (N : Nat) : Hd ((List UInt8) × ((Bool × ((List Int) × ((List UInt8) × (Int × Unit)))) × Unit)) := fun st K => (unS [(0, .box (.pair .bool (.pair (.arr 8 (.int .u32)) (.pair .str (.pair (.int .i64) .unit)))))] 28 (restr [0] 0 st)).bind fun x => sha_Hash_Sum_g2 N x K

noncomputable def sha_Hash_Sum_t2 (N : Nat) : Tab ((List UInt8) × ((Bool × ((List Int) × ((List UInt8) × (Int × Unit)))) × Unit)) := []

theorem sha_Hash_Sum_ok2 {N : Nat} {c : Ctx} (hb : Base Go.Proofs.Tryd.prog (sha_Hash_Sum_E N) c) : CodeOk Go.Proofs.Tryd.prog c (nodeAt sha_Hash_Sum_body [0, 0, 1]) (sha_Hash_Sum_h2 N) :=
  piece_ok (s := [(0, .box (.pair .bool (.pair (.arr 8 (.int .u32)) (.pair .str (.pair (.int .i64) .unit)))))]) (m := 28) (g := sha_Hash_Sum_g2 N) [0] (evN_sound hb N (sha_Hash_Sum_t2 N) sha_Hash_Sum_L sha_Hash_Sum_body TabOk.nil [0, 0, 1] _ rfl) (fun x K => by kernel_rfl)

noncomputable def sha_Hash_Sum_p1 (N : Nat) (h : (Bool × ((List Int) × ((List UInt8) × (Int × Unit))))) (k0 : (List UInt8) → Option ((List UInt8) × ((Bool × ((List Int) × ((List UInt8) × (Int × Unit)))) × Unit))) (k1 : Option ((List UInt8) × ((Bool × ((List Int) × ((List UInt8) × (Int × Unit)))) × Unit))) : Option ((List UInt8) × ((Bool × ((List Int) × ((List UInt8) × (Int × Unit)))) × Unit)) :=
  sha_Hash_Sum_p2 N h
  (fun x11 => cond x11
    ((sha_Sum N ([] : List UInt8)).bind fun y =>
      k0 y)
    (k1))

noncomputable def sha_Hash_Sum_g1 (N : Nat) (x : denS [(0, .box (.pair .bool (.pair (.arr 8 (.int .u32)) (.pair .str (.pair (.int .i64) .unit)))))]) (K : Ex → List A → Option ((List UInt8) × ((Bool × ((List Int) × ((List UInt8) × (Int × Unit)))) × Unit))) : Option ((List UInt8) × ((Bool × ((List Int) × ((List UInt8) × (Int × Unit)))) × Unit)) :=
  sha_Hash_Sum_p1 N x.1 (fun a1 => (K .ret (mkS [(0, .box (.pair .bool (.pair (.arr 8 (.int .u32)) (.pair .str (.pair (.int .i64) .unit))))), (1, .v .str)] 26 (x.1, a1, ())))) (K .normal (mkS [(0, .box (.pair .bool (.pair (.arr 8 (.int .u32)) (.pair .str (.pair (.int .i64) .unit)))))] 28 (x.1, ())))

noncomputable def sha_Hash_Sum_h1 (N : Nat) : Hd ((List UInt8) × ((Bool × ((List Int) × ((List UInt8) × (Int × Unit)))) × Unit)) := fun st K => (unS [(0, .box (.pair .bool (.pair (.arr 8 (.int .u32)) (.pair .str (.pair (.int .i64) .unit)))))] 28 (restr [0] 0 st)).bind fun x => sha_Hash_Sum_g1 N x K

noncomputable def sha_Hash_Sum_t1 (N : Nat) : Tab ((List UInt8) × ((Bool × ((List Int) × ((List UInt8) × (Int × Unit)))) × Unit)) := [([0, 0, 1], sha_Hash_Sum_h2 N)]

theorem sha_Hash_Sum_ok1 {N : Nat} {c : Ctx} (hb : Base Go.Proofs.Tryd.prog (sha_Hash_Sum_E N) c) : CodeOk Go.Proofs.Tryd.prog c (nodeAt sha_Hash_Sum_body [0, 1]) (sha_Hash_Sum_h1 N) :=
  piece_ok (s := [(0, .box (.pair .bool (.pair (.arr 8 (.int .u32)) (.pair .str (.pair (.int .i64) .unit)))))]) (m := 28) (g := sha_Hash_Sum_g1 N) [0] (evN_sound hb N (sha_Hash_Sum_t1 N) sha_Hash_Sum_L sha_Hash_Sum_body (TabOk.cons (sha_Hash_Sum_ok2 hb) TabOk.nil) [0, 1] _ rfl) (fun x K => by kernel_rfl)

noncomputable def sha_Hash_Sum (N : Nat) (h : (Bool × ((List Int) × ((List UInt8) × (Int × Unit))))) : Option ((List UInt8) × ((Bool × ((List Int) × ((List UInt8) × (Int × Unit)))) × Unit)) :=
  sha_Hash_Sum_p1 N h
  (fun x2 => some (x2, (h, ())))
  ((sha_tail N h.2.2.2.1).bind fun y =>
    cond (decide (((List.length h.2.2.1) + (List.length y)) ≤ 9223372036854775807))
    ((sha_steps N h.2.1 (h.2.2.1 ++ y)).bind fun y1 =>
      (sha_Tell N y1).bind fun y2 =>
      some (y2, (h, ())))
    (none))

noncomputable def sha_Hash_Sum_t (N : Nat) : Tab ((List UInt8) × ((Bool × ((List Int) × ((List UInt8) × (Int × Unit)))) × Unit)) := [([0, 1], sha_Hash_Sum_h1 N)]

theorem sha_Hash_Sum_link (N : Nat) (x : denS [(0, .box (.pair .bool (.pair (.arr 8 (.int .u32)) (.pair .str (.pair (.int .i64) .unit)))))]) : evFX (sha_Hash_Sum_E N) N (sha_Hash_Sum_t N) sha_Hash_Sum_L Go.Proofs.Tryd.f27 (mkS [(0, .box (.pair .bool (.pair (.arr 8 (.int .u32)) (.pair .str (.pair (.int .i64) .unit)))))] 0 x) (kResB (.v .str) [(0, .box (.pair .bool (.pair (.arr 8 (.int .u32)) (.pair .str (.pair (.int .i64) .unit)))))] 0) = sha_Hash_Sum N x.1 := by kernel_rfl

noncomputable def sha_Hash_Sum_res (N : Nat) : List A → Res := resOf [(0, .box (.pair .bool (.pair (.arr 8 (.int .u32)) (.pair .str (.pair (.int .i64) .unit)))))] (fun x => sha_Hash_Sum N x.1) (oResB (.v .str) [(0, .box (.pair .bool (.pair (.arr 8 (.int .u32)) (.pair .str (.pair (.int .i64) .unit)))))] 0)

theorem sha_Hash_Sum_ct (N : Nat) : Contract Go.Proofs.Tryd.prog glob 27 (sha_Hash_Sum_res N) :=
  Contract.of (E := sha_Hash_Sum_E N) (H := sha_Hash_Sum_t N) (L := sha_Hash_Sum_L) (N := N) (body := sha_Hash_Sum_body) (K := (kResB (.v .str) [(0, .box (.pair .bool (.pair (.arr 8 (.int .u32)) (.pair .str (.pair (.int .i64) .unit)))))] 0)) (sha_Hash_Sum_Eok N) Go.Proofs.Tryd.func27 (by kernel_rfl) (by decide) (fun _ hb => (TabOk.cons (sha_Hash_Sum_ok1 hb) TabOk.nil)) (fun x y h => by rw [sha_Hash_Sum_link]; exact h) (kResB_ok (s := (.v .str)) (os := [(0, .box (.pair .bool (.pair (.arr 8 (.int .u32)) (.pair .str (.pair (.int .i64) .unit)))))]) (m := 0))

noncomputable def sha_Hash_Sum_all (N : Nat) : List A → Res := resAlt [(0, .box (.pair .bool (.pair (.arr 8 (.int .u32)) (.pair .str (.pair (.int .i64) .unit)))))] (fun x => sha_Hash_Sum N x.1) (oResB (.v .str) [(0, .box (.pair .bool (.pair (.arr 8 (.int .u32)) (.pair .str (.pair (.int .i64) .unit)))))] 0) (sha_Hash_Sum1_res N)

theorem sha_Hash_Sum_allct (N : Nat) : Contract Go.Proofs.Tryd.prog glob 27 (sha_Hash_Sum_all N) := Contract.alt (sha_Hash_Sum_ct N) (sha_Hash_Sum1_ct N)

abbrev sha_Hash_Sum_nil_R : Type := (List UInt8)

noncomputable def sha_Hash_Sum_nil_body : Code := (Go.Proofs.Tryd.f27.body).getD .skip

noncomputable def sha_Hash_Sum_nil_L : List (List Nat × List Nat) := [([0], [0]), ([0, 0, 1], [11, 0]), ([1, 0, 1], [0]), ([0, 0, 1, 0, 1], [2]), ([1, 0, 1, 0, 1], [2]), ([0, 1, 1], [2]), ([1, 1, 1], [2])]

noncomputable def sha_Hash_Sum_nil_E (N : Nat) : Env := mkEnv tys glob [(14, sha_Sum_res N), (20, sha_Tell_res N), (51, sha_tail_res N), (56, sha_steps_res N)] [] [] [] false [] [(79, hmac_split1_itr N)]

theorem sha_Hash_Sum_nil_Eok (N : Nat) : EnvOk Go.Proofs.Tryd.prog (sha_Hash_Sum_nil_E N) := mkEnv_ok mixed tys_ok (FnsOk.cons (sha_Sum_ct N) (FnsOk.cons (sha_Tell_ct N) (FnsOk.cons (sha_tail_ct N) (FnsOk.cons (sha_steps_ct N) (FnsOk.nil))))) (ItsOk.cons (hmac_split1_it N) (ItsOk.nil))

noncomputable def sha_Hash_Sum_nil_p2 (N : Nat) (k0 : Bool → Option (List UInt8)) : Option (List UInt8) :=
  k0 true

noncomputable def sha_Hash_Sum_nil_g2 (N : Nat) (x : denS [(0, .nilp)]) (K : Ex → List A → Option (List UInt8)) : Option (List UInt8) :=
  sha_Hash_Sum_nil_p2 N (fun a0 => (K .normal (mkS [(0, .nilp), (10, .v .bool)] 17 ((), a0, ()))))

noncomputable def sha_Hash_Sum_nil_h2 (N : Nat) : Hd (List UInt8) := fun st K => (unS [(0, .nilp)] 28 (restr [0] 0 st)).bind fun x => sha_Hash_Sum_nil_g2 N x K

noncomputable def sha_Hash_Sum_nil_t2 (N : Nat) : Tab (List UInt8) := []

theorem sha_Hash_Sum_nil_ok2 {N : Nat} {c : Ctx} (hb : Base Go.Proofs.Tryd.prog (sha_Hash_Sum_nil_E N) c) : CodeOk Go.Proofs.Tryd.prog c (nodeAt sha_Hash_Sum_nil_body [0, 0, 1]) (sha_Hash_Sum_nil_h2 N) :=
  piece_ok (s := [(0, .nilp)]) (m := 28) (g := sha_Hash_Sum_nil_g2 N) [0] (evN_sound hb N (sha_Hash_Sum_nil_t2 N) sha_Hash_Sum_nil_L sha_Hash_Sum_nil_body TabOk.nil [0, 0, 1] _ rfl) (fun x K => by kernel_rfl)

noncomputable def sha_Hash_Sum_nil_p1 (N : Nat) (k0 : (List UInt8) → Option (List UInt8)) (k1 : Option (List UInt8)) : Option (List UInt8) :=
  sha_Hash_Sum_nil_p2 N
  (fun x11 => cond x11
    ((sha_Sum N ([] : List UInt8)).bind fun y =>
      k0 y)
    (k1))

noncomputable def sha_Hash_Sum_nil_g1 (N : Nat) (x : denS [(0, .nilp)]) (K : Ex → List A → Option (List UInt8)) : Option (List UInt8) :=
  sha_Hash_Sum_nil_p1 N (fun a0 => (K .ret (mkS [(2, .v .str)] 26 (a0, ())))) (K .normal (mkS [(0, .nilp)] 28 ((), ())))

noncomputable def sha_Hash_Sum_nil_h1 (N : Nat) : Hd (List UInt8) := fun st K => (unS [(0, .nilp)] 28 (restr [0] 0 st)).bind fun x => sha_Hash_Sum_nil_g1 N x K

noncomputable def sha_Hash_Sum_nil_t1 (N : Nat) : Tab (List UInt8) := [([0, 0, 1], sha_Hash_Sum_nil_h2 N)]

theorem sha_Hash_Sum_nil_ok1 {N : Nat} {c : Ctx} (hb : Base Go.Proofs.Tryd.prog (sha_Hash_Sum_nil_E N) c) : CodeOk Go.Proofs.Tryd.prog c (nodeAt sha_Hash_Sum_nil_body [0, 1]) (sha_Hash_Sum_nil_h1 N) :=
  piece_ok (s := [(0, .nilp)]) (m := 28) (g := sha_Hash_Sum_nil_g1 N) [0] (evN_sound hb N (sha_Hash_Sum_nil_t1 N) sha_Hash_Sum_nil_L sha_Hash_Sum_nil_body (TabOk.cons (sha_Hash_Sum_nil_ok2 hb) TabOk.nil) [0, 1] _ rfl) (fun x K => by kernel_rfl)

noncomputable def sha_Hash_Sum_nil (N : Nat) : Option (List UInt8) :=
  sha_Hash_Sum_nil_p1 N
  (fun x2 => some x2)
  (none)

noncomputable def sha_Hash_Sum_nil_t (N : Nat) : Tab (List UInt8) := [([0, 1], sha_Hash_Sum_nil_h1 N)]

theorem sha_Hash_Sum_nil_link (N : Nat) (x : denS [(0, .nilp)]) : evFX (sha_Hash_Sum_nil_E N) N (sha_Hash_Sum_nil_t N) sha_Hash_Sum_nil_L Go.Proofs.Tryd.f27 (mkS [(0, .nilp)] 0 x) (kRes (.v .str) 1) = sha_Hash_Sum_nil N := by kernel_rfl

noncomputable def sha_Hash_Sum_nil_res (N : Nat) : List A → Res := resOf [(0, .nilp)] (fun x => sha_Hash_Sum_nil N) (oRes (.v .str) 1)

theorem sha_Hash_Sum_nil_ct (N : Nat) : Contract Go.Proofs.Tryd.prog glob 27 (sha_Hash_Sum_nil_res N) :=
  Contract.of (E := sha_Hash_Sum_nil_E N) (H := sha_Hash_Sum_nil_t N) (L := sha_Hash_Sum_nil_L) (N := N) (body := sha_Hash_Sum_nil_body) (K := (kRes (.v .str) 1)) (sha_Hash_Sum_nil_Eok N) Go.Proofs.Tryd.func27 (by kernel_rfl) (by decide) (fun _ hb => (TabOk.cons (sha_Hash_Sum_nil_ok1 hb) TabOk.nil)) (fun x y h => by rw [sha_Hash_Sum_nil_link]; exact h) (kRes_ok (s := (.v .str)) (m := 1))

noncomputable def sha_Hash_Sum_nil_all (N : Nat) : List A → Res := resAlt [(0, .nilp)] (fun x => sha_Hash_Sum_nil N) (oRes (.v .str) 1) (sha_Hash_Sum_all N)

theorem sha_Hash_Sum_nil_allct (N : Nat) : Contract Go.Proofs.Tryd.prog glob 27 (sha_Hash_Sum_nil_all N) := Contract.alt (sha_Hash_Sum_nil_ct N) (sha_Hash_Sum_allct N)

abbrev math_bits_Mul32_R : Type := (Int × Int × Unit)

noncomputable def math_bits_Mul32_body : Code := (Go.Proofs.Tryd.f92.body).getD .skip

noncomputable def math_bits_Mul32_L : List (List Nat × List Nat) := [([0], [0, 1]), ([0, 1], [6]), ([0, 1, 1], [4, 5]), ([1, 1, 1], [4, 5])]

noncomputable def math_bits_Mul32_E (N : Nat) : Env := mkEnv tys glob [] [] [] [] false [] [(79, hmac_split1_itr N)]

theorem math_bits_Mul32_Eok (N : Nat) : EnvOk Go.Proofs.Tryd.prog (math_bits_Mul32_E N) := mkEnv_ok mixed tys_ok (FnsOk.nil) (ItsOk.cons (hmac_split1_it N) (ItsOk.nil))

noncomputable def math_bits_Mul32 (N : Nat) (x0 : Int) (y : Int) : Option (Int × Int × Unit) :=
  some ((Go.IntKind.wrap Go.IntKind.u32 (Go.Lift.shrI Go.IntKind.u64 (Go.IntKind.wrap Go.IntKind.u64 ((Go.IntKind.wrap Go.IntKind.u64 y) * (Go.IntKind.wrap Go.IntKind.u64 x0))) (32 : Int))), ((Go.IntKind.wrap Go.IntKind.u32 (Go.IntKind.wrap Go.IntKind.u64 ((Go.IntKind.wrap Go.IntKind.u64 y) * (Go.IntKind.wrap Go.IntKind.u64 x0)))), ()))

noncomputable def math_bits_Mul32_t (N : Nat) : Tab (Int × Int × Unit) := []

theorem math_bits_Mul32_link (N : Nat) (x : denS [(0, .v (.int .u32)), (0, .v (.int .u32))]) : evFX (math_bits_Mul32_E N) N (math_bits_Mul32_t N) math_bits_Mul32_L Go.Proofs.Tryd.f92 (mkS [(0, .v (.int .u32)), (0, .v (.int .u32))] 0 x) (kRes (.tup [(.int .u32), (.int .u32)]) 2) = math_bits_Mul32 N x.1 x.2.1 := by kernel_rfl

noncomputable def math_bits_Mul32_res (N : Nat) : List A → Res := resOf [(0, .v (.int .u32)), (0, .v (.int .u32))] (fun x => math_bits_Mul32 N x.1 x.2.1) (oRes (.tup [(.int .u32), (.int .u32)]) 2)

theorem math_bits_Mul32_ct (N : Nat) : Contract Go.Proofs.Tryd.prog glob 92 (math_bits_Mul32_res N) :=
  Contract.of (E := math_bits_Mul32_E N) (H := math_bits_Mul32_t N) (L := math_bits_Mul32_L) (N := N) (body := math_bits_Mul32_body) (K := (kRes (.tup [(.int .u32), (.int .u32)]) 2)) (math_bits_Mul32_Eok N) Go.Proofs.Tryd.func92 (by kernel_rfl) (by decide) (fun _ hb => TabOk.nil) (fun x y h => by rw [math_bits_Mul32_link]; exact h) (kRes_ok (s := (.tup [(.int .u32), (.int .u32)])) (m := 2))

abbrev math_bits_Mul64_R : Type := (Int × Int × Unit)

noncomputable def math_bits_Mul64_body : Code := (Go.Proofs.Tryd.f93.body).getD .skip

noncomputable def math_bits_Mul64_L : List (List Nat × List Nat) := [([0], [0, 1]), ([0, 1], [0, 1, 6]), ([0, 1, 1], [1, 6, 7, 0]), ([0, 1, 1, 1], [1, 6, 8, 7, 0]), ([0, 1, 1, 1, 1], [6, 8, 7, 9, 0, 1]), ([0, 1, 1, 1, 1, 1], [7, 8, 10, 6, 9, 0, 1]), ([0, 1, 1, 1, 1, 1, 1], [11, 6, 9, 7, 0, 1]), ([0, 1, 1, 1, 1, 1, 1, 1], [11, 12, 6, 9, 7, 0, 1]), ([0, 1, 1, 1, 1, 1, 1, 1, 1], [12, 6, 9, 7, 13, 0, 1]), ([0, 1, 1, 1, 1, 1, 1, 1, 1, 1], [7, 9, 13, 12, 0, 1]), ([0, 1, 1, 1, 1, 1, 1, 1, 1, 1, 1], [0, 1, 4]), ([0, 1, 1, 1, 1, 1, 1, 1, 1, 1, 1, 1], [4, 5]), ([1, 1, 1, 1, 1, 1, 1, 1, 1, 1, 1, 1], [4, 5])]

noncomputable def math_bits_Mul64_E (N : Nat) : Env := mkEnv tys glob [] [] [] [] false [] [(79, hmac_split1_itr N)]

theorem math_bits_Mul64_Eok (N : Nat) : EnvOk Go.Proofs.Tryd.prog (math_bits_Mul64_E N) := mkEnv_ok mixed tys_ok (FnsOk.nil) (ItsOk.cons (hmac_split1_it N) (ItsOk.nil))

noncomputable def math_bits_Mul64 (N : Nat) (x0 : Int) (y : Int) : Option (Int × Int × Unit) :=
  some ((Go.IntKind.wrap Go.IntKind.u64 ((Go.IntKind.wrap Go.IntKind.u64 ((Go.IntKind.wrap Go.IntKind.u64 ((Go.Lift.shrI Go.IntKind.u64 y (32 : Int)) * (Go.Lift.shrI Go.IntKind.u64 x0 (32 : Int)))) + (Go.Lift.shrI Go.IntKind.u64 (Go.IntKind.wrap Go.IntKind.u64 ((Go.IntKind.wrap Go.IntKind.u64 ((Go.Lift.bitsOp Go.BinOp.and Go.IntKind.u64 y (4294967295 : Int)) * (Go.Lift.shrI Go.IntKind.u64 x0 (32 : Int)))) + (Go.Lift.shrI Go.IntKind.u64 (Go.IntKind.wrap Go.IntKind.u64 ((Go.Lift.bitsOp Go.BinOp.and Go.IntKind.u64 y (4294967295 : Int)) * (Go.Lift.bitsOp Go.BinOp.and Go.IntKind.u64 x0 (4294967295 : Int)))) (32 : Int)))) (32 : Int)))) + (Go.Lift.shrI Go.IntKind.u64 (Go.IntKind.wrap Go.IntKind.u64 ((Go.Lift.bitsOp Go.BinOp.and Go.IntKind.u64 (Go.IntKind.wrap Go.IntKind.u64 ((Go.IntKind.wrap Go.IntKind.u64 ((Go.Lift.bitsOp Go.BinOp.and Go.IntKind.u64 y (4294967295 : Int)) * (Go.Lift.shrI Go.IntKind.u64 x0 (32 : Int)))) + (Go.Lift.shrI Go.IntKind.u64 (Go.IntKind.wrap Go.IntKind.u64 ((Go.Lift.bitsOp Go.BinOp.and Go.IntKind.u64 y (4294967295 : Int)) * (Go.Lift.bitsOp Go.BinOp.and Go.IntKind.u64 x0 (4294967295 : Int)))) (32 : Int)))) (4294967295 : Int)) + (Go.IntKind.wrap Go.IntKind.u64 ((Go.Lift.shrI Go.IntKind.u64 y (32 : Int)) * (Go.Lift.bitsOp Go.BinOp.and Go.IntKind.u64 x0 (4294967295 : Int)))))) (32 : Int)))), ((Go.IntKind.wrap Go.IntKind.u64 (y * x0)), ()))

noncomputable def math_bits_Mul64_t (N : Nat) : Tab (Int × Int × Unit) := []

theorem math_bits_Mul64_link (N : Nat) (x : denS [(0, .v (.int .u64)), (0, .v (.int .u64))]) : evFX (math_bits_Mul64_E N) N (math_bits_Mul64_t N) math_bits_Mul64_L Go.Proofs.Tryd.f93 (mkS [(0, .v (.int .u64)), (0, .v (.int .u64))] 0 x) (kRes (.tup [(.int .u64), (.int .u64)]) 2) = math_bits_Mul64 N x.1 x.2.1 := by kernel_rfl

noncomputable def math_bits_Mul64_res (N : Nat) : List A → Res := resOf [(0, .v (.int .u64)), (0, .v (.int .u64))] (fun x => math_bits_Mul64 N x.1 x.2.1) (oRes (.tup [(.int .u64), (.int .u64)]) 2)

theorem math_bits_Mul64_ct (N : Nat) : Contract Go.Proofs.Tryd.prog glob 93 (math_bits_Mul64_res N) :=
  Contract.of (E := math_bits_Mul64_E N) (H := math_bits_Mul64_t N) (L := math_bits_Mul64_L) (N := N) (body := math_bits_Mul64_body) (K := (kRes (.tup [(.int .u64), (.int .u64)]) 2)) (math_bits_Mul64_Eok N) Go.Proofs.Tryd.func93 (by kernel_rfl) (by decide) (fun _ hb => TabOk.nil) (fun x y h => by rw [math_bits_Mul64_link]; exact h) (kRes_ok (s := (.tup [(.int .u64), (.int .u64)])) (m := 2))

abbrev math_bits_Mul_R : Type := (Int × Int × Unit)

noncomputable def math_bits_Mul_body : Code := (Go.Proofs.Tryd.f86.body).getD .skip

noncomputable def math_bits_Mul_L : List (List Nat × List Nat) := [([0], [0, 1]), ([0, 1], [0, 1]), ([0, 0, 0, 1], [6, 7]), ([0, 1, 0, 0, 1], [4, 5]), ([1, 1, 0, 0, 1], [4, 5]), ([0, 1, 1], [8, 9]), ([0, 1, 1, 1], [4, 5]), ([1, 1, 1, 1], [4, 5])]

noncomputable def math_bits_Mul_E (N : Nat) : Env := mkEnv tys glob [(93, math_bits_Mul64_res N), (92, math_bits_Mul32_res N)] [] [] [] false [] [(79, hmac_split1_itr N)]

theorem math_bits_Mul_Eok (N : Nat) : EnvOk Go.Proofs.Tryd.prog (math_bits_Mul_E N) := mkEnv_ok mixed tys_ok (FnsOk.cons (math_bits_Mul64_ct N) (FnsOk.cons (math_bits_Mul32_ct N) (FnsOk.nil))) (ItsOk.cons (hmac_split1_it N) (ItsOk.nil))

noncomputable def math_bits_Mul (N : Nat) (x0 : Int) (y : Int) : Option (Int × Int × Unit) :=
  some ((Go.IntKind.wrap Go.IntKind.u64 ((Go.IntKind.wrap Go.IntKind.u64 ((Go.IntKind.wrap Go.IntKind.u64 ((Go.Lift.shrI Go.IntKind.u64 y (32 : Int)) * (Go.Lift.shrI Go.IntKind.u64 x0 (32 : Int)))) + (Go.Lift.shrI Go.IntKind.u64 (Go.IntKind.wrap Go.IntKind.u64 ((Go.IntKind.wrap Go.IntKind.u64 ((Go.Lift.bitsOp Go.BinOp.and Go.IntKind.u64 y (4294967295 : Int)) * (Go.Lift.shrI Go.IntKind.u64 x0 (32 : Int)))) + (Go.Lift.shrI Go.IntKind.u64 (Go.IntKind.wrap Go.IntKind.u64 ((Go.Lift.bitsOp Go.BinOp.and Go.IntKind.u64 y (4294967295 : Int)) * (Go.Lift.bitsOp Go.BinOp.and Go.IntKind.u64 x0 (4294967295 : Int)))) (32 : Int)))) (32 : Int)))) + (Go.Lift.shrI Go.IntKind.u64 (Go.IntKind.wrap Go.IntKind.u64 ((Go.Lift.bitsOp Go.BinOp.and Go.IntKind.u64 (Go.IntKind.wrap Go.IntKind.u64 ((Go.IntKind.wrap Go.IntKind.u64 ((Go.Lift.bitsOp Go.BinOp.and Go.IntKind.u64 y (4294967295 : Int)) * (Go.Lift.shrI Go.IntKind.u64 x0 (32 : Int)))) + (Go.Lift.shrI Go.IntKind.u64 (Go.IntKind.wrap Go.IntKind.u64 ((Go.Lift.bitsOp Go.BinOp.and Go.IntKind.u64 y (4294967295 : Int)) * (Go.Lift.bitsOp Go.BinOp.and Go.IntKind.u64 x0 (4294967295 : Int)))) (32 : Int)))) (4294967295 : Int)) + (Go.IntKind.wrap Go.IntKind.u64 ((Go.Lift.shrI Go.IntKind.u64 y (32 : Int)) * (Go.Lift.bitsOp Go.BinOp.and Go.IntKind.u64 x0 (4294967295 : Int)))))) (32 : Int)))), ((Go.IntKind.wrap Go.IntKind.u64 (y * x0)), ()))

noncomputable def math_bits_Mul_t (N : Nat) : Tab (Int × Int × Unit) := []

theorem math_bits_Mul_link (N : Nat) (x : denS [(0, .v (.int .u64)), (0, .v (.int .u64))]) : evFX (math_bits_Mul_E N) N (math_bits_Mul_t N) math_bits_Mul_L Go.Proofs.Tryd.f86 (mkS [(0, .v (.int .u64)), (0, .v (.int .u64))] 0 x) (kRes (.tup [(.int .u64), (.int .u64)]) 2) = math_bits_Mul N x.1 x.2.1 := by kernel_rfl

noncomputable def math_bits_Mul_res (N : Nat) : List A → Res := resOf [(0, .v (.int .u64)), (0, .v (.int .u64))] (fun x => math_bits_Mul N x.1 x.2.1) (oRes (.tup [(.int .u64), (.int .u64)]) 2)

theorem math_bits_Mul_ct (N : Nat) : Contract Go.Proofs.Tryd.prog glob 86 (math_bits_Mul_res N) :=
  Contract.of (E := math_bits_Mul_E N) (H := math_bits_Mul_t N) (L := math_bits_Mul_L) (N := N) (body := math_bits_Mul_body) (K := (kRes (.tup [(.int .u64), (.int .u64)]) 2)) (math_bits_Mul_Eok N) Go.Proofs.Tryd.func86 (by kernel_rfl) (by decide) (fun _ hb => TabOk.nil) (fun x y h => by rw [math_bits_Mul_link]; exact h) (kRes_ok (s := (.tup [(.int .u64), (.int .u64)])) (m := 2))

abbrev internal_stringslite_HasPrefix_R : Type := Bool

noncomputable def internal_stringslite_HasPrefix_body : Code := (Go.Proofs.Tryd.f94.body).getD .skip

noncomputable def internal_stringslite_HasPrefix_L : List (List Nat × List Nat) := [([0], [0, 1]), ([0, 1], [4]), ([1, 1], [4])]

noncomputable def internal_stringslite_HasPrefix_E (N : Nat) : Env := mkEnv tys glob [] [] [] [] false [] [(79, hmac_split1_itr N)]

theorem internal_stringslite_HasPrefix_Eok (N : Nat) : EnvOk Go.Proofs.Tryd.prog (internal_stringslite_HasPrefix_E N) := mkEnv_ok mixed tys_ok (FnsOk.nil) (ItsOk.cons (hmac_split1_it N) (ItsOk.nil))

noncomputable def internal_stringslite_HasPrefix (N : Nat) (s : (List UInt8)) (prefix_ : (List UInt8)) : Option Bool :=
  cond (decide ((((List.length prefix_) : Nat) : Int) ≤ (((List.length s) : Nat) : Int)))
  (cond (decide (((0 : Int) ≤ (((List.length prefix_) : Nat) : Int)) ∧ ((((List.length prefix_) : Nat) : Int) ≤ (((List.length s) : Nat) : Int))))
    (some ((Go.Lift.cut s 0 (Int.toNat (((List.length prefix_) : Nat) : Int))) == prefix_))
    (none))
  (some false)

noncomputable def internal_stringslite_HasPrefix_t (N : Nat) : Tab Bool := []

theorem internal_stringslite_HasPrefix_link (N : Nat) (x : denS [(0, .v .str), (0, .v .str)]) : evFX (internal_stringslite_HasPrefix_E N) N (internal_stringslite_HasPrefix_t N) internal_stringslite_HasPrefix_L Go.Proofs.Tryd.f94 (mkS [(0, .v .str), (0, .v .str)] 0 x) (kRes (.v .bool) 2) = internal_stringslite_HasPrefix N x.1 x.2.1 := by kernel_rfl

noncomputable def internal_stringslite_HasPrefix_res (N : Nat) : List A → Res := resOf [(0, .v .str), (0, .v .str)] (fun x => internal_stringslite_HasPrefix N x.1 x.2.1) (oRes (.v .bool) 2)

theorem internal_stringslite_HasPrefix_ct (N : Nat) : Contract Go.Proofs.Tryd.prog glob 94 (internal_stringslite_HasPrefix_res N) :=
  Contract.of (E := internal_stringslite_HasPrefix_E N) (H := internal_stringslite_HasPrefix_t N) (L := internal_stringslite_HasPrefix_L) (N := N) (body := internal_stringslite_HasPrefix_body) (K := (kRes (.v .bool) 2)) (internal_stringslite_HasPrefix_Eok N) Go.Proofs.Tryd.func94 (by kernel_rfl) (by decide) (fun _ hb => TabOk.nil) (fun x y h => by rw [internal_stringslite_HasPrefix_link]; exact h) (kRes_ok (s := (.v .bool)) (m := 2))

abbrev strings_HasPrefix_R : Type := Bool

noncomputable def strings_HasPrefix_body : Code := (Go.Proofs.Tryd.f87.body).getD .skip

noncomputable def strings_HasPrefix_L : List (List Nat × List Nat) := [([0], [0, 1]), ([0, 1], [4]), ([1, 1], [4])]

noncomputable def strings_HasPrefix_E (N : Nat) : Env := mkEnv tys glob [(94, internal_stringslite_HasPrefix_res N)] [] [] [] false [] [(79, hmac_split1_itr N)]

theorem strings_HasPrefix_Eok (N : Nat) : EnvOk Go.Proofs.Tryd.prog (strings_HasPrefix_E N) := mkEnv_ok mixed tys_ok (FnsOk.cons (internal_stringslite_HasPrefix_ct N) (FnsOk.nil)) (ItsOk.cons (hmac_split1_it N) (ItsOk.nil))

noncomputable def strings_HasPrefix (N : Nat) (s : (List UInt8)) (prefix_ : (List UInt8)) : Option Bool :=
  (internal_stringslite_HasPrefix N s prefix_).bind fun y =>
  some y

noncomputable def strings_HasPrefix_t (N : Nat) : Tab Bool := []

theorem strings_HasPrefix_link (N : Nat) (x : denS [(0, .v .str), (0, .v .str)]) : evFX (strings_HasPrefix_E N) N (strings_HasPrefix_t N) strings_HasPrefix_L Go.Proofs.Tryd.f87 (mkS [(0, .v .str), (0, .v .str)] 0 x) (kRes (.v .bool) 2) = strings_HasPrefix N x.1 x.2.1 := by kernel_rfl

noncomputable def strings_HasPrefix_res (N : Nat) : List A → Res := resOf [(0, .v .str), (0, .v .str)] (fun x => strings_HasPrefix N x.1 x.2.1) (oRes (.v .bool) 2)

theorem strings_HasPrefix_ct (N : Nat) : Contract Go.Proofs.Tryd.prog glob 87 (strings_HasPrefix_res N) :=
  Contract.of (E := strings_HasPrefix_E N) (H := strings_HasPrefix_t N) (L := strings_HasPrefix_L) (N := N) (body := strings_HasPrefix_body) (K := (kRes (.v .bool) 2)) (strings_HasPrefix_Eok N) Go.Proofs.Tryd.func87 (by kernel_rfl) (by decide) (fun _ hb => TabOk.nil) (fun x y h => by rw [strings_HasPrefix_link]; exact h) (kRes_ok (s := (.v .bool)) (m := 2))

abbrev strings_Builder_grow_R : Type := (Unit)

noncomputable def strings_Builder_grow_body : Code := (Go.Proofs.Tryd.f95.body).getD .skip

noncomputable def strings_Builder_grow_L : List (List Nat × List Nat) := [([0], [4, 0]), ([0, 1], [0, 4]), ([1, 1], [])]

noncomputable def strings_Builder_grow_E (N : Nat) : Env := mkEnv tys glob [] [(4, (.int .u8))] [] [] false [] [(79, hmac_split1_itr N)]

theorem strings_Builder_grow_Eok (N : Nat) : EnvOk Go.Proofs.Tryd.prog (strings_Builder_grow_E N) := mkEnv_ok mixed tys_ok (FnsOk.nil) (ItsOk.cons (hmac_split1_it N) (ItsOk.nil))

noncomputable def strings_Builder_grow (N : Nat) (b : Go.Value) (n : Int) : Option (Unit) :=
  none

noncomputable def strings_Builder_grow_t (N : Nat) : Tab (Unit) := []

theorem strings_Builder_grow_link (N : Nat) (x : denS [(0, .v .opq), (0, .v (.int .i64))]) : evFX (strings_Builder_grow_E N) N (strings_Builder_grow_t N) strings_Builder_grow_L Go.Proofs.Tryd.f95 (mkS [(0, .v .opq), (0, .v (.int .i64))] 0 x) (kRes (.tup []) 2) = strings_Builder_grow N x.1 x.2.1 := by kernel_rfl

noncomputable def strings_Builder_grow_res (N : Nat) : List A → Res := resOf [(0, .v .opq), (0, .v (.int .i64))] (fun x => strings_Builder_grow N x.1 x.2.1) (oRes (.tup []) 2)

theorem strings_Builder_grow_ct (N : Nat) : Contract Go.Proofs.Tryd.prog glob 95 (strings_Builder_grow_res N) :=
  Contract.of (E := strings_Builder_grow_E N) (H := strings_Builder_grow_t N) (L := strings_Builder_grow_L) (N := N) (body := strings_Builder_grow_body) (K := (kRes (.tup []) 2)) (strings_Builder_grow_Eok N) Go.Proofs.Tryd.func95 (by kernel_rfl) (by decide) (fun _ hb => TabOk.nil) (fun x y h => by rw [strings_Builder_grow_link]; exact h) (kRes_ok (s := (.tup [])) (m := 2))

abbrev strings_Builder_Grow_R : Type := (Unit)

noncomputable def strings_Builder_Grow_body : Code := (Go.Proofs.Tryd.f88.body).getD .skip

noncomputable def strings_Builder_Grow_L : List (List Nat × List Nat) := [([0], [1, 0]), ([0, 0, 1], [7, 0, 1]), ([1, 0, 1], [0, 1]), ([0, 1, 0, 1], [0, 1]), ([0, 1, 1], [21, 0, 1]), ([1, 1, 1], []), ([0, 1, 1, 1], [])]

noncomputable def strings_Builder_Grow_E (N : Nat) : Env := mkEnv tys glob [(95, strings_Builder_grow_res N), (78, cc_res)] [] [] [] false [] [(79, hmac_split1_itr N)]

theorem strings_Builder_Grow_Eok (N : Nat) : EnvOk Go.Proofs.Tryd.prog (strings_Builder_Grow_E N) := mkEnv_ok mixed tys_ok (FnsOk.cons (strings_Builder_grow_ct N) (FnsOk.cons (cc_ct glob) (FnsOk.nil))) (ItsOk.cons (hmac_split1_it N) (ItsOk.nil))

noncomputable def strings_Builder_Grow (N : Nat) (b : Go.Value) (n : Int) : Option (Unit) :=
  none

noncomputable def strings_Builder_Grow_t (N : Nat) : Tab (Unit) := []

theorem strings_Builder_Grow_link (N : Nat) (x : denS [(0, .v .opq), (0, .v (.int .i64))]) : evFX (strings_Builder_Grow_E N) N (strings_Builder_Grow_t N) strings_Builder_Grow_L Go.Proofs.Tryd.f88 (mkS [(0, .v .opq), (0, .v (.int .i64))] 0 x) (kRes (.tup []) 2) = strings_Builder_Grow N x.1 x.2.1 := by kernel_rfl

noncomputable def strings_Builder_Grow_res (N : Nat) : List A → Res := resOf [(0, .v .opq), (0, .v (.int .i64))] (fun x => strings_Builder_Grow N x.1 x.2.1) (oRes (.tup []) 2)

theorem strings_Builder_Grow_ct (N : Nat) : Contract Go.Proofs.Tryd.prog glob 88 (strings_Builder_Grow_res N) :=
  Contract.of (E := strings_Builder_Grow_E N) (H := strings_Builder_Grow_t N) (L := strings_Builder_Grow_L) (N := N) (body := strings_Builder_Grow_body) (K := (kRes (.tup []) 2)) (strings_Builder_Grow_Eok N) Go.Proofs.Tryd.func88 (by kernel_rfl) (by decide) (fun _ hb => TabOk.nil) (fun x y h => by rw [strings_Builder_Grow_link]; exact h) (kRes_ok (s := (.tup [])) (m := 2))

abbrev strings_Builder_WriteString_R : Type := ((Int × Go.Value × Unit) × ((Unit × ((List Int) × Unit)) × Unit))

noncomputable def strings_Builder_WriteString_body : Code := (Go.Proofs.Tryd.f61.body).getD .skip

noncomputable def strings_Builder_WriteString_L : List (List Nat × List Nat) := [([0], [0, 1]), ([0, 1], [0, 1]), ([0, 1, 1], [1, 0]), ([0, 1, 1, 1], [4, 5, 0]), ([1, 1, 1, 1], [4, 5, 0])]

noncomputable def strings_Builder_WriteString_E (N : Nat) : Env := mkEnv tys glob [(78, cc_res)] [] [] [0] false [] [(79, hmac_split1_itr N)]

theorem strings_Builder_WriteString_Eok (N : Nat) : EnvOk Go.Proofs.Tryd.prog (strings_Builder_WriteString_E N) := mkEnv_ok mixed tys_ok (FnsOk.cons (cc_ct glob) (FnsOk.nil)) (ItsOk.cons (hmac_split1_it N) (ItsOk.nil))

noncomputable def strings_Builder_WriteString (N : Nat) (b : (Unit × ((List Int) × Unit))) (s : (List UInt8)) : Option ((Int × Go.Value × Unit) × ((Unit × ((List Int) × Unit)) × Unit)) :=
  cond (decide ((((List.length b.2.1) + (List.length (Go.Lift.ofStr s))) * 1) ≤ 70368744177664))
  (some (((((List.length s) : Nat) : Int), (Go.Value.nilIface, ())), ((b.1, ((b.2.1 ++ (Go.Lift.ofStr s)), b.2.2)), ())))
  (none)

noncomputable def strings_Builder_WriteString_t (N : Nat) : Tab ((Int × Go.Value × Unit) × ((Unit × ((List Int) × Unit)) × Unit)) := []

theorem strings_Builder_WriteString_link (N : Nat) (x : denS [(0, .box (.pair (.self 77) (.pair (.own (.byt 5)) .unit))), (0, .v .str)]) : evFX (strings_Builder_WriteString_E N) N (strings_Builder_WriteString_t N) strings_Builder_WriteString_L Go.Proofs.Tryd.f61 (mkS [(0, .box (.pair (.self 77) (.pair (.own (.byt 5)) .unit))), (0, .v .str)] 0 x) (kResB (.tup [(.int .i64), .opq]) [(0, .box (.pair (.self 77) (.pair (.own (.byt 5)) .unit)))] 1) = strings_Builder_WriteString N x.1 x.2.1 := by kernel_rfl

noncomputable def strings_Builder_WriteString_res (N : Nat) : List A → Res := resOf [(0, .box (.pair (.self 77) (.pair (.own (.byt 5)) .unit))), (0, .v .str)] (fun x => strings_Builder_WriteString N x.1 x.2.1) (oResB (.tup [(.int .i64), .opq]) [(0, .box (.pair (.self 77) (.pair (.own (.byt 5)) .unit)))] 1)

theorem strings_Builder_WriteString_ct (N : Nat) : Contract Go.Proofs.Tryd.prog glob 61 (strings_Builder_WriteString_res N) :=
  Contract.of (E := strings_Builder_WriteString_E N) (H := strings_Builder_WriteString_t N) (L := strings_Builder_WriteString_L) (N := N) (body := strings_Builder_WriteString_body) (K := (kResB (.tup [(.int .i64), .opq]) [(0, .box (.pair (.self 77) (.pair (.own (.byt 5)) .unit)))] 1)) (strings_Builder_WriteString_Eok N) Go.Proofs.Tryd.func61 (by kernel_rfl) (by decide) (fun _ hb => TabOk.nil) (fun x y h => by rw [strings_Builder_WriteString_link]; exact h) (kResB_ok (s := (.tup [(.int .i64), .opq])) (os := [(0, .box (.pair (.self 77) (.pair (.own (.byt 5)) .unit)))]) (m := 1))

abbrev strings_Builder_Len_R : Type := Int

noncomputable def strings_Builder_Len_body : Code := (Go.Proofs.Tryd.f89.body).getD .skip

noncomputable def strings_Builder_Len_L : List (List Nat × List Nat) := [([0], [0]), ([0, 1], [2]), ([1, 1], [2])]

noncomputable def strings_Builder_Len_E (N : Nat) : Env := mkEnv tys glob [] [] [] [] false [] [(79, hmac_split1_itr N)]

theorem strings_Builder_Len_Eok (N : Nat) : EnvOk Go.Proofs.Tryd.prog (strings_Builder_Len_E N) := mkEnv_ok mixed tys_ok (FnsOk.nil) (ItsOk.cons (hmac_split1_it N) (ItsOk.nil))

noncomputable def strings_Builder_Len (N : Nat) (b : Go.Value) : Option Int :=
  none

noncomputable def strings_Builder_Len_t (N : Nat) : Tab Int := []

theorem strings_Builder_Len_link (N : Nat) (x : denS [(0, .v .opq)]) : evFX (strings_Builder_Len_E N) N (strings_Builder_Len_t N) strings_Builder_Len_L Go.Proofs.Tryd.f89 (mkS [(0, .v .opq)] 0 x) (kRes (.v (.int .i64)) 1) = strings_Builder_Len N x.1 := by kernel_rfl

noncomputable def strings_Builder_Len_res (N : Nat) : List A → Res := resOf [(0, .v .opq)] (fun x => strings_Builder_Len N x.1) (oRes (.v (.int .i64)) 1)

theorem strings_Builder_Len_ct (N : Nat) : Contract Go.Proofs.Tryd.prog glob 89 (strings_Builder_Len_res N) :=
  Contract.of (E := strings_Builder_Len_E N) (H := strings_Builder_Len_t N) (L := strings_Builder_Len_L) (N := N) (body := strings_Builder_Len_body) (K := (kRes (.v (.int .i64)) 1)) (strings_Builder_Len_Eok N) Go.Proofs.Tryd.func89 (by kernel_rfl) (by decide) (fun _ hb => TabOk.nil) (fun x y h => by rw [strings_Builder_Len_link]; exact h) (kRes_ok (s := (.v (.int .i64))) (m := 1))

abbrev octet_Xor_R : Type := (List UInt8)

noncomputable def octet_Xor_body : Code := (Go.Proofs.Tryd.f70.body).getD .skip

noncomputable def octet_Xor_L : List (List Nat × List Nat) := [([0], [0, 1]), ([0, 1], [5, 0, 1]), ([0, 0, 1, 1], [15, 14, 5, 0, 1]), ([0, 1, 0, 1, 1], [15, 14, 5, 0, 1]), ([0, 0, 0, 1, 0, 1, 1], [16, 15, 5, 0, 1, 14]), ([0, 1, 0, 0, 1, 0, 1, 1], [15, 5, 0, 1, 14]), ([1, 0, 1, 0, 0, 1, 0, 1, 1], [5]), ([0, 0, 0, 1, 1, 0, 0, 1, 0, 1, 1], [5, 6, 0, 1, 15, 14]), ([1, 0, 0, 1, 1, 0, 0, 1, 0, 1, 1], [15, 14, 5, 0, 1]), ([0, 1, 1, 0, 0, 1, 0, 1, 1], [15, 14, 5, 0, 1]), ([1, 1, 1, 0, 0, 1, 0, 1, 1], [15, 14, 5, 0, 1]), ([1, 0, 1, 1], [5]), ([0, 1, 1, 1], [4]), ([1, 1, 1, 1], [4])]

noncomputable def octet_Xor_E (N : Nat) : Env := mkEnv tys glob [] [(5, (.int .u8))] [] [] false [] [(79, hmac_split1_itr N)]

theorem octet_Xor_Eok (N : Nat) : EnvOk Go.Proofs.Tryd.prog (octet_Xor_E N) := mkEnv_ok mixed tys_ok (FnsOk.nil) (ItsOk.cons (hmac_split1_it N) (ItsOk.nil))

noncomputable def octet_Xor_s1 (N : Nat) (a : (List UInt8)) (b : (List UInt8)) (x14 : Int) (out : (List Int)) (x15 : Int) (rec : (List Int) → Int → Option (List UInt8)) (k0 : (List Int) → Option (List UInt8)) : Option (List UInt8) :=
  cond (decide (x15 < x14))
  (cond (Go.Lift.inR x15 (List.length a))
    (cond (Go.Lift.inR x15 (List.length b))
      (cond (Go.Lift.inR x15 (List.length out))
        (cond (decide ((Int.toNat x15) < (List.length out)))
          (rec (List.set out (Int.toNat x15) (Go.Lift.bitsOp Go.BinOp.xor Go.IntKind.u8 (((UInt8.toNat (List.getD a (Int.toNat x15) (0 : UInt8))) : Nat) : Int) (((UInt8.toNat (List.getD b (Int.toNat x15) (0 : UInt8))) : Nat) : Int))) (Go.IntKind.wrap Go.IntKind.i64 (x15 + (1 : Int))))
          (none))
        (none))
      (none))
    (none))
  (k0 out)

noncomputable def octet_Xor_p1 (N : Nat) (a : (List UInt8)) (b : (List UInt8)) (out : (List Int)) (x14 : Int) (x15 : Int) (k0 : (List Int) → Option (List UInt8)) : Option (List UInt8) :=
  iter (fun (v : ((List Int) × Int)) r => octet_Xor_s1 N a b x14 v.1 v.2 (fun out x15 => (r (out, x15))) k0) N (out, x15)

noncomputable def octet_Xor_g1 (N : Nat) (i : ((List UInt8) × (List UInt8) × Int)) (v : ((List Int) × Int)) (r : ((List Int) × Int) → Option (List UInt8)) (K : Ex → List A → Option (List UInt8)) : Option (List UInt8) :=
  octet_Xor_s1 N i.1 i.2.1 i.2.2 v.1 v.2 (fun out x15 => (r (out, x15))) (fun a0 => (K (.exit 0) (mkS [(5, .row (.int .u8))] 25 (a0, ()))))

noncomputable def octet_Xor_h1 (N : Nat) : Hd (List UInt8) := fun st K => (unS [(0, .v .str), (0, .v .str), (3, .row (.int .u8)), (8, .v (.int .i64)), (0, .v (.int .i64))] 15 (restr [15, 14, 5, 0, 1] 0 st)).bind fun x => iter (fun v r => octet_Xor_g1 N ((fun x => (x.1, x.2.1, x.2.2.2.1)) x) v r K) N ((fun x => (x.2.2.1, x.2.2.2.2.1)) x)

noncomputable def octet_Xor_t1 (N : Nat) : Tab (List UInt8) := []

theorem octet_Xor_ok1 {N : Nat} {c : Ctx} (hb : Base Go.Proofs.Tryd.prog (octet_Xor_E N) c) : CodeOk Go.Proofs.Tryd.prog c (nodeAt octet_Xor_body [0, 1, 0, 1, 1]) (octet_Xor_h1 N) :=
  loop_ok (s := [(0, .v .str), (0, .v .str), (3, .row (.int .u8)), (8, .v (.int .i64)), (0, .v (.int .i64))]) (m := 15) (octet_Xor_g1 N) [15, 14, 5, 0, 1] N (fun x => (x.1, x.2.1, x.2.2.2.1)) (fun x => (x.2.2.1, x.2.2.2.2.1)) (fun i v => (i.1, i.2.1, v.1, i.2.2, v.2, ())) (fun _ => rfl) (evN_sound hb N (octet_Xor_t1 N) octet_Xor_L octet_Xor_body TabOk.nil [0, 0, 1, 0, 1, 1] _ rfl) (fun i v r K => by kernel_rfl)

noncomputable def octet_Xor (N : Nat) (a : (List UInt8)) (b : (List UInt8)) : Option (List UInt8) :=
  cond (decide (((0 : Int) ≤ (if ((((List.length b) : Nat) : Int) < (((List.length a) : Nat) : Int)) then (((List.length b) : Nat) : Int) else (((List.length a) : Nat) : Int))) ∧ (((if ((((List.length b) : Nat) : Int) < (((List.length a) : Nat) : Int)) then (((List.length b) : Nat) : Int) else (((List.length a) : Nat) : Int)) ≤ (if ((((List.length b) : Nat) : Int) < (((List.length a) : Nat) : Int)) then (((List.length b) : Nat) : Int) else (((List.length a) : Nat) : Int))) ∧ ((((if ((((List.length b) : Nat) : Int) < (((List.length a) : Nat) : Int)) then (((List.length b) : Nat) : Int) else (((List.length a) : Nat) : Int)) * (1 : Int)) ≤ (281474976710656 : Int)) ∧ ((if ((((List.length b) : Nat) : Int) < (((List.length a) : Nat) : Int)) then (((List.length b) : Nat) : Int) else (((List.length a) : Nat) : Int)) ≤ (9223372036854775807 : Int))))))
  (octet_Xor_p1 N a b (List.replicate (Int.toNat (if ((((List.length b) : Nat) : Int) < (((List.length a) : Nat) : Int)) then (((List.length b) : Nat) : Int) else (((List.length a) : Nat) : Int))) (0 : Int)) (((List.length (List.replicate (Int.toNat (if ((((List.length b) : Nat) : Int) < (((List.length a) : Nat) : Int)) then (((List.length b) : Nat) : Int) else (((List.length a) : Nat) : Int))) (0 : Int))) : Nat) : Int) (0 : Int)
    (fun out => some (Go.Lift.toStr out)))
  (none)

noncomputable def octet_Xor_t (N : Nat) : Tab (List UInt8) := [([0, 1, 0, 1, 1], octet_Xor_h1 N)]

theorem octet_Xor_link (N : Nat) (x : denS [(0, .v .str), (0, .v .str)]) : evFX (octet_Xor_E N) N (octet_Xor_t N) octet_Xor_L Go.Proofs.Tryd.f70 (mkS [(0, .v .str), (0, .v .str)] 0 x) (kRes (.v .str) 2) = octet_Xor N x.1 x.2.1 := by kernel_rfl

noncomputable def octet_Xor_res (N : Nat) : List A → Res := resOf [(0, .v .str), (0, .v .str)] (fun x => octet_Xor N x.1 x.2.1) (oRes (.v .str) 2)

theorem octet_Xor_ct (N : Nat) : Contract Go.Proofs.Tryd.prog glob 70 (octet_Xor_res N) :=
  Contract.of (E := octet_Xor_E N) (H := octet_Xor_t N) (L := octet_Xor_L) (N := N) (body := octet_Xor_body) (K := (kRes (.v .str) 2)) (octet_Xor_Eok N) Go.Proofs.Tryd.func70 (by kernel_rfl) (by decide) (fun _ hb => (TabOk.cons (octet_Xor_ok1 hb) TabOk.nil)) (fun x y h => by rw [octet_Xor_link]; exact h) (kRes_ok (s := (.v .str)) (m := 2))

abbrev hmac_keyed_R : Type := (List UInt8)

noncomputable def hmac_keyed_body : Code := (Go.Proofs.Tryd.f58.body).getD .skip

noncomputable def hmac_keyed_L : List (List Nat × List Nat) := [([0], [0, 1, 2]), ([0, 1], [7, 0, 1, 2]), ([0, 1, 1], [7, 2]), ([0, 1, 1, 1], [7]), ([0, 1, 1, 1, 1], [6]), ([1, 1, 1, 1, 1], [6])]

noncomputable def hmac_keyed_E (N : Nat) : Env := mkEnv tys glob [(70, octet_Xor_res N), (27, sha_Hash_Sum_nil_all N), (25, sha_Hash_Add_nil_all N), (24, sha_New_res N), (75, repeat_res)] [] [] [] false [] [(79, hmac_split1_itr N)]

theorem hmac_keyed_Eok (N : Nat) : EnvOk Go.Proofs.Tryd.prog (hmac_keyed_E N) := mkEnv_ok mixed tys_ok (FnsOk.cons (octet_Xor_ct N) (FnsOk.cons (sha_Hash_Sum_nil_allct N) (FnsOk.cons (sha_Hash_Add_nil_allct N) (FnsOk.cons (sha_New_ct N) (FnsOk.cons (repeat_ct glob) (FnsOk.nil)))))) (ItsOk.cons (hmac_split1_it N) (ItsOk.nil))

noncomputable def hmac_keyed (N : Nat) (key : (List UInt8)) (mask : (List UInt8)) (text : (List UInt8)) : Option (List UInt8) :=
  (repeat_F (mask, ((64 : Int), ()))).bind fun y =>
  (octet_Xor N key y).bind fun y1 =>
  (sha_Hash_Add N (true, (([(1779033703 : Int), (3144134277 : Int), (1013904242 : Int), (2773480762 : Int), (1359893119 : Int), (2600822924 : Int), (528734635 : Int), (1541459225 : Int)] : List Int), (([] : List UInt8), ((0 : Int), ())))) y1).bind fun y2 =>
  (sha_Hash_Add N y2.2.1 text).bind fun y3 =>
  (sha_Hash_Sum N y3.2.1).bind fun y4 =>
  some y4.1

noncomputable def hmac_keyed_t (N : Nat) : Tab (List UInt8) := []

theorem hmac_keyed_link (N : Nat) (x : denS [(0, .v .str), (0, .v .str), (0, .v .str)]) : evFX (hmac_keyed_E N) N (hmac_keyed_t N) hmac_keyed_L Go.Proofs.Tryd.f58 (mkS [(0, .v .str), (0, .v .str), (0, .v .str)] 0 x) (kRes (.v .str) 3) = hmac_keyed N x.1 x.2.1 x.2.2.1 := by kernel_rfl

noncomputable def hmac_keyed_res (N : Nat) : List A → Res := resOf [(0, .v .str), (0, .v .str), (0, .v .str)] (fun x => hmac_keyed N x.1 x.2.1 x.2.2.1) (oRes (.v .str) 3)

theorem hmac_keyed_ct (N : Nat) : Contract Go.Proofs.Tryd.prog glob 58 (hmac_keyed_res N) :=
  Contract.of (E := hmac_keyed_E N) (H := hmac_keyed_t N) (L := hmac_keyed_L) (N := N) (body := hmac_keyed_body) (K := (kRes (.v .str) 3)) (hmac_keyed_Eok N) Go.Proofs.Tryd.func58 (by kernel_rfl) (by decide) (fun _ hb => TabOk.nil) (fun x y h => by rw [hmac_keyed_link]; exact h) (kRes_ok (s := (.v .str)) (m := 3))

abbrev hmac_Sum_R : Type := (List UInt8)

noncomputable def hmac_Sum_body : Code := (Go.Proofs.Tryd.f30.body).getD .skip

noncomputable def hmac_Sum_L : List (List Nat × List Nat) := [([0], [0, 1]), ([0, 0, 1], [8, 0, 1]), ([1, 0, 1], [0, 1]), ([0, 1, 0, 1], [0, 1]), ([0, 1, 1], [0, 1]), ([0, 1, 1, 1], [0, 5]), ([0, 1, 1, 1, 1], [4]), ([1, 1, 1, 1, 1], [4])]

noncomputable def hmac_Sum_E (N : Nat) : Env := mkEnv tys glob [(58, hmac_keyed_res N), (14, sha_Sum_res N), (57, octet_Pad_res N)] [] [] [] false [] [(79, hmac_split1_itr N)]

theorem hmac_Sum_Eok (N : Nat) : EnvOk Go.Proofs.Tryd.prog (hmac_Sum_E N) := mkEnv_ok mixed tys_ok (FnsOk.cons (hmac_keyed_ct N) (FnsOk.cons (sha_Sum_ct N) (FnsOk.cons (octet_Pad_ct N) (FnsOk.nil)))) (ItsOk.cons (hmac_split1_it N) (ItsOk.nil))

noncomputable def hmac_Sum_p1 (N : Nat) (key : (List UInt8)) (text : (List UInt8)) (k0 : (List UInt8) → Option (List UInt8)) : Option (List UInt8) :=
  cond (decide ((64 : Int) < (((List.length key) : Nat) : Int)))
  ((sha_Sum N key).bind fun y =>
    k0 y)
  (k0 key)

noncomputable def hmac_Sum_g1 (N : Nat) (x : denS [(0, .v .str), (0, .v .str)]) (K : Ex → List A → Option (List UInt8)) : Option (List UInt8) :=
  hmac_Sum_p1 N x.1 x.2.1 (fun a0 => (K .normal (mkS [(0, .v .str), (0, .v .str)] 17 (a0, x.2.1, ()))))

noncomputable def hmac_Sum_h1 (N : Nat) : Hd (List UInt8) := fun st K => (unS [(0, .v .str), (0, .v .str)] 17 (restr [0, 1] 0 st)).bind fun x => hmac_Sum_g1 N x K

noncomputable def hmac_Sum_t1 (N : Nat) : Tab (List UInt8) := []

theorem hmac_Sum_ok1 {N : Nat} {c : Ctx} (hb : Base Go.Proofs.Tryd.prog (hmac_Sum_E N) c) : CodeOk Go.Proofs.Tryd.prog c (nodeAt hmac_Sum_body [0, 1]) (hmac_Sum_h1 N) :=
  piece_ok (s := [(0, .v .str), (0, .v .str)]) (m := 17) (g := hmac_Sum_g1 N) [0, 1] (evN_sound hb N (hmac_Sum_t1 N) hmac_Sum_L hmac_Sum_body TabOk.nil [0, 1] _ rfl) (fun x K => by kernel_rfl)

noncomputable def hmac_Sum (N : Nat) (key : (List UInt8)) (text : (List UInt8)) : Option (List UInt8) :=
  hmac_Sum_p1 N key text
  (fun key1 => (octet_Pad N key1 (64 : Int)).bind fun y =>
    (hmac_keyed N y ([(54 : UInt8)] : List UInt8) text).bind fun y1 =>
    (hmac_keyed N y ([(92 : UInt8)] : List UInt8) y1).bind fun y2 =>
    some y2)

noncomputable def hmac_Sum_t (N : Nat) : Tab (List UInt8) := [([0, 1], hmac_Sum_h1 N)]

theorem hmac_Sum_link (N : Nat) (x : denS [(0, .v .str), (0, .v .str)]) : evFX (hmac_Sum_E N) N (hmac_Sum_t N) hmac_Sum_L Go.Proofs.Tryd.f30 (mkS [(0, .v .str), (0, .v .str)] 0 x) (kRes (.v .str) 2) = hmac_Sum N x.1 x.2.1 := by kernel_rfl

noncomputable def hmac_Sum_res (N : Nat) : List A → Res := resOf [(0, .v .str), (0, .v .str)] (fun x => hmac_Sum N x.1 x.2.1) (oRes (.v .str) 2)

theorem hmac_Sum_ct (N : Nat) : Contract Go.Proofs.Tryd.prog glob 30 (hmac_Sum_res N) :=
  Contract.of (E := hmac_Sum_E N) (H := hmac_Sum_t N) (L := hmac_Sum_L) (N := N) (body := hmac_Sum_body) (K := (kRes (.v .str) 2)) (hmac_Sum_Eok N) Go.Proofs.Tryd.func30 (by kernel_rfl) (by decide) (fun _ hb => (TabOk.cons (hmac_Sum_ok1 hb) TabOk.nil)) (fun x y h => by rw [hmac_Sum_link]; exact h) (kRes_ok (s := (.v .str)) (m := 2))

abbrev octet_Equal_R : Type := Bool

noncomputable def octet_Equal_body : Code := (Go.Proofs.Tryd.f59.body).getD .skip

noncomputable def octet_Equal_L : List (List Nat × List Nat) := [([0], [0, 1]), ([0, 0, 1], [11, 0, 1]), ([1, 0, 1], [0, 1]), ([0, 0, 1, 0, 1], [4]), ([1, 0, 1, 0, 1], [4]), ([0, 1, 1], [0, 5, 1]), ([0, 0, 1, 1, 1], [14, 13, 5, 0, 1]), ([0, 1, 0, 1, 1, 1], [14, 13, 5, 0, 1]), ([0, 0, 0, 1, 0, 1, 1, 1], [15, 14, 5, 0, 1, 13]), ([0, 1, 0, 0, 1, 0, 1, 1, 1], [14, 5, 0, 1, 13]), ([1, 0, 1, 0, 0, 1, 0, 1, 1, 1], [5]), ([0, 0, 0, 1, 1, 0, 0, 1, 0, 1, 1, 1], [5, 0, 6, 1, 14, 13]), ([1, 0, 0, 1, 1, 0, 0, 1, 0, 1, 1, 1], [14, 13, 5, 0, 1]), ([0, 1, 1, 0, 0, 1, 0, 1, 1, 1], [14, 13, 5, 0, 1]), ([1, 1, 1, 0, 0, 1, 0, 1, 1, 1], [14, 13, 5, 0, 1]), ([1, 0, 1, 1, 1], [5]), ([0, 1, 1, 1, 1], [4]), ([1, 1, 1, 1, 1], [4])]

noncomputable def octet_Equal_E (N : Nat) : Env := mkEnv tys glob [] [] [] [] false [] [(79, hmac_split1_itr N)]

theorem octet_Equal_Eok (N : Nat) : EnvOk Go.Proofs.Tryd.prog (octet_Equal_E N) := mkEnv_ok mixed tys_ok (FnsOk.nil) (ItsOk.cons (hmac_split1_it N) (ItsOk.nil))

noncomputable def octet_Equal_s1 (N : Nat) (a : (List UInt8)) (b : (List UInt8)) (x13 : Int) (differ : Int) (x14 : Int) (rec : Int → Int → Option Bool) (k0 : Int → Option Bool) : Option Bool :=
  cond (decide (x14 < x13))
  (cond (Go.Lift.inR x14 (List.length a))
    (cond (Go.Lift.inR x14 (List.length b))
      (rec (Go.Lift.bitsOp Go.BinOp.or Go.IntKind.u8 differ (Go.Lift.bitsOp Go.BinOp.xor Go.IntKind.u8 (((UInt8.toNat (List.getD a (Int.toNat x14) (0 : UInt8))) : Nat) : Int) (((UInt8.toNat (List.getD b (Int.toNat x14) (0 : UInt8))) : Nat) : Int))) (Go.IntKind.wrap Go.IntKind.i64 (x14 + (1 : Int))))
      (none))
    (none))
  (k0 differ)

noncomputable def octet_Equal_p1 (N : Nat) (a : (List UInt8)) (b : (List UInt8)) (differ : Int) (x13 : Int) (x14 : Int) (k0 : Int → Option Bool) : Option Bool :=
  iter (fun (v : (Int × Int)) r => octet_Equal_s1 N a b x13 v.1 v.2 (fun differ x14 => (r (differ, x14))) k0) N (differ, x14)

noncomputable def octet_Equal_g1 (N : Nat) (i : ((List UInt8) × (List UInt8) × Int)) (v : (Int × Int)) (r : (Int × Int) → Option Bool) (K : Ex → List A → Option Bool) : Option Bool :=
  octet_Equal_s1 N i.1 i.2.1 i.2.2 v.1 v.2 (fun differ x14 => (r (differ, x14))) (fun a0 => (K (.exit 0) (mkS [(5, .v (.int .u8))] 23 (a0, ()))))

noncomputable def octet_Equal_h1 (N : Nat) : Hd Bool := fun st K => (unS [(0, .v .str), (0, .v .str), (3, .v (.int .u8)), (7, .v (.int .i64)), (0, .v (.int .i64))] 14 (restr [14, 13, 5, 0, 1] 0 st)).bind fun x => iter (fun v r => octet_Equal_g1 N ((fun x => (x.1, x.2.1, x.2.2.2.1)) x) v r K) N ((fun x => (x.2.2.1, x.2.2.2.2.1)) x)

noncomputable def octet_Equal_t1 (N : Nat) : Tab Bool := []

theorem octet_Equal_ok1 {N : Nat} {c : Ctx} (hb : Base Go.Proofs.Tryd.prog (octet_Equal_E N) c) : CodeOk Go.Proofs.Tryd.prog c (nodeAt octet_Equal_body [0, 1, 0, 1, 1, 1]) (octet_Equal_h1 N) :=
  loop_ok (s := [(0, .v .str), (0, .v .str), (3, .v (.int .u8)), (7, .v (.int .i64)), (0, .v (.int .i64))]) (m := 14) (octet_Equal_g1 N) [14, 13, 5, 0, 1] N (fun x => (x.1, x.2.1, x.2.2.2.1)) (fun x => (x.2.2.1, x.2.2.2.2.1)) (fun i v => (i.1, i.2.1, v.1, i.2.2, v.2, ())) (fun _ => rfl) (evN_sound hb N (octet_Equal_t1 N) octet_Equal_L octet_Equal_body TabOk.nil [0, 0, 1, 0, 1, 1, 1] _ rfl) (fun i v r K => by kernel_rfl)

noncomputable def octet_Equal (N : Nat) (a : (List UInt8)) (b : (List UInt8)) : Option Bool :=
  cond ((((List.length a) : Nat) : Int) != (((List.length b) : Nat) : Int))
  (some false)
  (octet_Equal_p1 N a b (0 : Int) (((List.length a) : Nat) : Int) (0 : Int)
    (fun differ => some (differ == (0 : Int))))

noncomputable def octet_Equal_t (N : Nat) : Tab Bool := [([0, 1, 0, 1, 1, 1], octet_Equal_h1 N)]

theorem octet_Equal_link (N : Nat) (x : denS [(0, .v .str), (0, .v .str)]) : evFX (octet_Equal_E N) N (octet_Equal_t N) octet_Equal_L Go.Proofs.Tryd.f59 (mkS [(0, .v .str), (0, .v .str)] 0 x) (kRes (.v .bool) 2) = octet_Equal N x.1 x.2.1 := by kernel_rfl

noncomputable def octet_Equal_res (N : Nat) : List A → Res := resOf [(0, .v .str), (0, .v .str)] (fun x => octet_Equal N x.1 x.2.1) (oRes (.v .bool) 2)

theorem octet_Equal_ct (N : Nat) : Contract Go.Proofs.Tryd.prog glob 59 (octet_Equal_res N) :=
  Contract.of (E := octet_Equal_E N) (H := octet_Equal_t N) (L := octet_Equal_L) (N := N) (body := octet_Equal_body) (K := (kRes (.v .bool) 2)) (octet_Equal_Eok N) Go.Proofs.Tryd.func59 (by kernel_rfl) (by decide) (fun _ hb => (TabOk.cons (octet_Equal_ok1 hb) TabOk.nil)) (fun x y h => by rw [octet_Equal_link]; exact h) (kRes_ok (s := (.v .bool)) (m := 2))

abbrev hmac_Same_R : Type := Bool

noncomputable def hmac_Same_body : Code := (Go.Proofs.Tryd.f34.body).getD .skip

noncomputable def hmac_Same_L : List (List Nat × List Nat) := [([0], [0, 1]), ([0, 1], [4]), ([1, 1], [4])]

noncomputable def hmac_Same_E (N : Nat) : Env := mkEnv tys glob [(59, octet_Equal_res N)] [] [] [] false [] [(79, hmac_split1_itr N)]

theorem hmac_Same_Eok (N : Nat) : EnvOk Go.Proofs.Tryd.prog (hmac_Same_E N) := mkEnv_ok mixed tys_ok (FnsOk.cons (octet_Equal_ct N) (FnsOk.nil)) (ItsOk.cons (hmac_split1_it N) (ItsOk.nil))

noncomputable def hmac_Same (N : Nat) (a : (List UInt8)) (b : (List UInt8)) : Option Bool :=
  cond ((((List.length a) : Nat) : Int) == (32 : Int))
  (cond ((((List.length b) : Nat) : Int) == (32 : Int))
    ((octet_Equal N a b).bind fun y =>
      some y)
    (some false))
  (some false)

noncomputable def hmac_Same_t (N : Nat) : Tab Bool := []

theorem hmac_Same_link (N : Nat) (x : denS [(0, .v .str), (0, .v .str)]) : evFX (hmac_Same_E N) N (hmac_Same_t N) hmac_Same_L Go.Proofs.Tryd.f34 (mkS [(0, .v .str), (0, .v .str)] 0 x) (kRes (.v .bool) 2) = hmac_Same N x.1 x.2.1 := by kernel_rfl

noncomputable def hmac_Same_res (N : Nat) : List A → Res := resOf [(0, .v .str), (0, .v .str)] (fun x => hmac_Same N x.1 x.2.1) (oRes (.v .bool) 2)

theorem hmac_Same_ct (N : Nat) : Contract Go.Proofs.Tryd.prog glob 34 (hmac_Same_res N) :=
  Contract.of (E := hmac_Same_E N) (H := hmac_Same_t N) (L := hmac_Same_L) (N := N) (body := hmac_Same_body) (K := (kRes (.v .bool) 2)) (hmac_Same_Eok N) Go.Proofs.Tryd.func34 (by kernel_rfl) (by decide) (fun _ hb => TabOk.nil) (fun x y h => by rw [hmac_Same_link]; exact h) (kRes_ok (s := (.v .bool)) (m := 2))

abbrev porterlaw04_works_R : Type := Bool

noncomputable def porterlaw04_works_body : Code := (Go.Proofs.Tryd.f29.body).getD .skip

noncomputable def porterlaw04_works_L : List (List Nat × List Nat) := [([0], []), ([0, 1], [1, 2]), ([0, 1, 1], [3, 1, 2]), ([0, 1, 1, 1], [0]), ([1, 1, 1, 1], [0])]

noncomputable def porterlaw04_works_E (N : Nat) : Env := mkEnv tys glob [(34, hmac_Same_res N), (30, hmac_Sum_res N), (36, hmac_Split_res N)] [] [] [] false [] [(79, hmac_split1_itr N)]

theorem porterlaw04_works_Eok (N : Nat) : EnvOk Go.Proofs.Tryd.prog (porterlaw04_works_E N) := mkEnv_ok mixed tys_ok (FnsOk.cons (hmac_Same_ct N) (FnsOk.cons (hmac_Sum_ct N) (FnsOk.cons (hmac_Split_ct N) (FnsOk.nil)))) (ItsOk.cons (hmac_split1_it N) (ItsOk.nil))

noncomputable def porterlaw04_works (N : Nat) : Option Bool :=
  (hmac_Split N ([(0 : UInt8), (0 : UInt8), (0 : UInt8), (0 : UInt8), (0 : UInt8), (0 : UInt8), (0 : UInt8), (2 : UInt8), (97 : UInt8), (98 : UInt8)] : List UInt8)).bind fun y =>
  (hmac_Sum N ([(107 : UInt8), (101 : UInt8), (121 : UInt8)] : List UInt8) ([(84 : UInt8), (104 : UInt8), (101 : UInt8), (32 : UInt8), (113 : UInt8), (117 : UInt8), (105 : UInt8), (99 : UInt8), (107 : UInt8), (32 : UInt8), (98 : UInt8), (114 : UInt8), (111 : UInt8), (119 : UInt8), (110 : UInt8), (32 : UInt8), (102 : UInt8), (111 : UInt8), (120 : UInt8), (32 : UInt8), (106 : UInt8), (117 : UInt8), (109 : UInt8), (112 : UInt8), (115 : UInt8), (32 : UInt8), (111 : UInt8), (118 : UInt8), (101 : UInt8), (114 : UInt8), (32 : UInt8), (116 : UInt8), (104 : UInt8), (101 : UInt8), (32 : UInt8), (108 : UInt8), (97 : UInt8), (122 : UInt8), (121 : UInt8), (32 : UInt8), (100 : UInt8), (111 : UInt8), (103 : UInt8)] : List UInt8)).bind fun y1 =>
  cond ((((List.length y1) : Nat) : Int) == (32 : Int))
  (cond (decide (((0 : Int) ≤ (4 : Int)) ∧ ((4 : Int) ≤ (((List.length y1) : Nat) : Int))))
    (cond ((Go.Lift.cut y1 0 4) == ([(247 : UInt8), (188 : UInt8), (131 : UInt8), (244 : UInt8)] : List UInt8))
      (cond ((((List.length y.1) : Nat) : Int) == (1 : Int))
        (cond (Go.Lift.inR (0 : Int) (List.length y.1))
          (cond ((List.getD y.1 0 ([] : List UInt8)) == ([(97 : UInt8), (98 : UInt8)] : List UInt8))
            (cond y.2.1
              ((hmac_Same N y1 y1).bind fun y2 =>
                cond y2
                (some (!false))
                (some false))
              (some false))
            (some false))
          (none))
        (some false))
      (some false))
    (none))
  (some false)

noncomputable def porterlaw04_works_t (N : Nat) : Tab Bool := []

theorem porterlaw04_works_link (N : Nat) (x : denS []) : evFX (porterlaw04_works_E N) N (porterlaw04_works_t N) porterlaw04_works_L Go.Proofs.Tryd.f29 (mkS [] 0 x) (kRes (.v .bool) 0) = porterlaw04_works N := by kernel_rfl

noncomputable def porterlaw04_works_res (N : Nat) : List A → Res := resOf [] (fun x => porterlaw04_works N) (oRes (.v .bool) 0)

theorem porterlaw04_works_ct (N : Nat) : Contract Go.Proofs.Tryd.prog glob 29 (porterlaw04_works_res N) :=
  Contract.of (E := porterlaw04_works_E N) (H := porterlaw04_works_t N) (L := porterlaw04_works_L) (N := N) (body := porterlaw04_works_body) (K := (kRes (.v .bool) 0)) (porterlaw04_works_Eok N) Go.Proofs.Tryd.func29 (by kernel_rfl) (by decide) (fun _ hb => TabOk.nil) (fun x y h => by rw [porterlaw04_works_link]; exact h) (kRes_ok (s := (.v .bool)) (m := 0))

abbrev porterref03_Pad_R : Type := (List UInt8)

noncomputable def porterref03_Pad_body : Code := (Go.Proofs.Tryd.f17.body).getD .skip

noncomputable def porterref03_Pad_L : List (List Nat × List Nat) := [([0], [0]), ([0, 1], [3, 0]), ([0, 1, 1], [3, 0]), ([0, 0, 1, 1, 1], [3, 0]), ([0, 0, 0, 0, 0, 1, 1, 1], [14, 3, 0]), ([1, 0, 0, 0, 0, 1, 1, 1], [3, 0]), ([1, 1, 0, 0, 0, 0, 1, 1, 1], [0, 3]), ([0, 1, 0, 0, 0, 1, 1, 1], [3, 0]), ([1, 0, 0, 0, 1, 1, 1], [3, 0]), ([0, 1, 1, 1], [0, 3]), ([0, 1, 1, 1, 1], [3, 4]), ([0, 0, 1, 1, 1, 1, 1], [5, 3, 4]), ([0, 1, 0, 1, 1, 1, 1, 1], [5, 3, 4]), ([0, 0, 0, 0, 1, 0, 1, 1, 1, 1, 1], [23, 3, 4, 5]), ([1, 0, 0, 0, 1, 0, 1, 1, 1, 1, 1], [3, 4, 5]), ([1, 1, 0, 0, 0, 1, 0, 1, 1, 1, 1, 1], [3]), ([0, 0, 1, 0, 0, 1, 0, 1, 1, 1, 1, 1], [5, 3, 4]), ([0, 1, 0, 0, 1, 0, 1, 1, 1, 1, 1], [5, 3, 4]), ([1, 1, 0, 0, 1, 0, 1, 1, 1, 1, 1], [5, 3, 4]), ([1, 0, 1, 1, 1, 1, 1], [3]), ([0, 1, 1, 1, 1, 1, 1], [2]), ([1, 1, 1, 1, 1, 1, 1], [2])]

noncomputable def porterref03_Pad_E (N : Nat) : Env := mkEnv tys glob [] [(3, (.int .u8))] [] [] false [] [(79, hmac_split1_itr N)]

theorem porterref03_Pad_Eok (N : Nat) : EnvOk Go.Proofs.Tryd.prog (porterref03_Pad_E N) := mkEnv_ok mixed tys_ok (FnsOk.nil) (ItsOk.cons (hmac_split1_it N) (ItsOk.nil))

noncomputable def porterref03_Pad_s1 (N : Nat) (s : (List UInt8)) (b : (List Int)) (rec : (List Int) → Option (List UInt8)) (k0 : (List Int) → Option (List UInt8)) : Option (List UInt8) :=
  cond ((Int.tmod (((List.length b) : Nat) : Int) (64 : Int)) != (56 : Int))
  (cond (decide ((((List.length b) + 1) * 1) ≤ 70368744177664))
    (rec (b ++ ([(0 : Int)] : List Int)))
    (none))
  (k0 b)

noncomputable def porterref03_Pad_p1 (N : Nat) (s : (List UInt8)) (b : (List Int)) (k0 : (List Int) → Option (List UInt8)) : Option (List UInt8) :=
  iter (fun (v : (List Int)) r => porterref03_Pad_s1 N s v (fun b => (r b)) k0) N b

noncomputable def porterref03_Pad_g1 (N : Nat) (i : (List UInt8)) (v : (List Int)) (r : (List Int) → Option (List UInt8)) (K : Ex → List A → Option (List UInt8)) : Option (List UInt8) :=
  porterref03_Pad_s1 N i v (fun b => (r b)) (fun a1 => (K (.exit 0) (mkS [(0, .v .str), (2, .row (.int .u8))] 33 (i, a1, ()))))

noncomputable def porterref03_Pad_h1 (N : Nat) : Hd (List UInt8) := fun st K => (unS [(0, .v .str), (2, .row (.int .u8))] 33 (restr [3, 0] 0 st)).bind fun x => iter (fun v r => porterref03_Pad_g1 N ((fun x => x.1) x) v r K) N ((fun x => x.2.1) x)

noncomputable def porterref03_Pad_t1 (N : Nat) : Tab (List UInt8) := []

theorem porterref03_Pad_ok1 {N : Nat} {c : Ctx} (hb : Base Go.Proofs.Tryd.prog (porterref03_Pad_E N) c) : CodeOk Go.Proofs.Tryd.prog c (nodeAt porterref03_Pad_body [0, 0, 1, 1, 1]) (porterref03_Pad_h1 N) :=
  loop_ok (s := [(0, .v .str), (2, .row (.int .u8))]) (m := 33) (porterref03_Pad_g1 N) [3, 0] N (fun x => x.1) (fun x => x.2.1) (fun i v => (i, v, ())) (fun _ => rfl) (evN_sound hb N (porterref03_Pad_t1 N) porterref03_Pad_L porterref03_Pad_body TabOk.nil [0, 0, 0, 1, 1, 1] _ rfl) (fun i v r K => by kernel_rfl)

noncomputable def porterref03_Pad_s2 (N : Nat) (n : Int) (b : (List Int)) (i : Int) (rec : (List Int) → Int → Option (List UInt8)) (k0 : (List Int) → Option (List UInt8)) : Option (List UInt8) :=
  cond (decide ((0 : Int) ≤ i))
  (cond (decide ((0 : Int) ≤ (Go.IntKind.wrap Go.IntKind.u64 (Go.IntKind.wrap Go.IntKind.i64 ((8 : Int) * i)))))
    (cond (decide ((((List.length b) + 1) * 1) ≤ 70368744177664))
      (rec (b ++ ([(Go.IntKind.wrap Go.IntKind.u8 (Go.Lift.shrI Go.IntKind.u64 n (Go.IntKind.wrap Go.IntKind.u64 (Go.IntKind.wrap Go.IntKind.i64 ((8 : Int) * i)))))] : List Int)) (Go.IntKind.wrap Go.IntKind.i64 (i - (1 : Int))))
      (none))
    (none))
  (k0 b)

noncomputable def porterref03_Pad_p2 (N : Nat) (b : (List Int)) (n : Int) (i : Int) (k0 : (List Int) → Option (List UInt8)) : Option (List UInt8) :=
  iter (fun (v : ((List Int) × Int)) r => porterref03_Pad_s2 N n v.1 v.2 (fun b i => (r (b, i))) k0) N (b, i)

noncomputable def porterref03_Pad_g2 (N : Nat) (i : Int) (v : ((List Int) × Int)) (r : ((List Int) × Int) → Option (List UInt8)) (K : Ex → List A → Option (List UInt8)) : Option (List UInt8) :=
  porterref03_Pad_s2 N i v.1 v.2 (fun b i => (r (b, i))) (fun a0 => (K (.exit 2) (mkS [(3, .row (.int .u8))] 33 (a0, ()))))

noncomputable def porterref03_Pad_h2 (N : Nat) : Hd (List UInt8) := fun st K => (unS [(3, .row (.int .u8)), (0, .v (.int .u64)), (0, .v (.int .i64))] 31 (restr [5, 3, 4] 0 st)).bind fun x => iter (fun v r => porterref03_Pad_g2 N ((fun x => x.2.1) x) v r K) N ((fun x => (x.1, x.2.2.1)) x)

noncomputable def porterref03_Pad_t2 (N : Nat) : Tab (List UInt8) := []

theorem porterref03_Pad_ok2 {N : Nat} {c : Ctx} (hb : Base Go.Proofs.Tryd.prog (porterref03_Pad_E N) c) : CodeOk Go.Proofs.Tryd.prog c (nodeAt porterref03_Pad_body [0, 1, 0, 1, 1, 1, 1, 1]) (porterref03_Pad_h2 N) :=
  loop_ok (s := [(3, .row (.int .u8)), (0, .v (.int .u64)), (0, .v (.int .i64))]) (m := 31) (porterref03_Pad_g2 N) [5, 3, 4] N (fun x => x.2.1) (fun x => (x.1, x.2.2.1)) (fun i v => (v.1, i, v.2, ())) (fun _ => rfl) (evN_sound hb N (porterref03_Pad_t2 N) porterref03_Pad_L porterref03_Pad_body TabOk.nil [0, 0, 1, 0, 1, 1, 1, 1, 1] _ rfl) (fun i v r K => by kernel_rfl)

noncomputable def porterref03_Pad (N : Nat) (s : (List UInt8)) : Option (List UInt8) :=
  cond (decide ((((List.length (Go.Lift.ofStr s)) + 1) * 1) ≤ 70368744177664))
  (porterref03_Pad_p1 N s ((Go.Lift.ofStr s) ++ ([(128 : Int)] : List Int))
    (fun b => porterref03_Pad_p2 N b (Go.IntKind.wrap Go.IntKind.u64 ((8 : Int) * (Go.IntKind.wrap Go.IntKind.u64 (((List.length s) : Nat) : Int)))) (7 : Int)
      (fun b1 => some (Go.Lift.toStr b1))))
  (none)

noncomputable def porterref03_Pad_t (N : Nat) : Tab (List UInt8) := [([0, 0, 1, 1, 1], porterref03_Pad_h1 N), ([0, 1, 0, 1, 1, 1, 1, 1], porterref03_Pad_h2 N)]

theorem porterref03_Pad_link (N : Nat) (x : denS [(0, .v .str)]) : evFX (porterref03_Pad_E N) N (porterref03_Pad_t N) porterref03_Pad_L Go.Proofs.Tryd.f17 (mkS [(0, .v .str)] 0 x) (kRes (.v .str) 1) = porterref03_Pad N x.1 := by kernel_rfl

noncomputable def porterref03_Pad_res (N : Nat) : List A → Res := resOf [(0, .v .str)] (fun x => porterref03_Pad N x.1) (oRes (.v .str) 1)

theorem porterref03_Pad_ct (N : Nat) : Contract Go.Proofs.Tryd.prog glob 17 (porterref03_Pad_res N) :=
  Contract.of (E := porterref03_Pad_E N) (H := porterref03_Pad_t N) (L := porterref03_Pad_L) (N := N) (body := porterref03_Pad_body) (K := (kRes (.v .str) 1)) (porterref03_Pad_Eok N) Go.Proofs.Tryd.func17 (by kernel_rfl) (by decide) (fun _ hb => (TabOk.cons (porterref03_Pad_ok1 hb) (TabOk.cons (porterref03_Pad_ok2 hb) TabOk.nil))) (fun x y h => by rw [porterref03_Pad_link]; exact h) (kRes_ok (s := (.v .str)) (m := 1))

abbrev porterref03_table_R : Type := (List Int)

noncomputable def porterref03_table_body : Code := (Go.Proofs.Tryd.f49.body).getD .skip

noncomputable def porterref03_table_L : List (List Nat × List Nat) := [([0], []), ([0, 1], [0]), ([1, 1], [0])]

noncomputable def porterref03_table_E (N : Nat) : Env := mkEnv tys glob [] [] [] [] false [] [(79, hmac_split1_itr N)]

theorem porterref03_table_Eok (N : Nat) : EnvOk Go.Proofs.Tryd.prog (porterref03_table_E N) := mkEnv_ok mixed tys_ok (FnsOk.nil) (ItsOk.cons (hmac_split1_it N) (ItsOk.nil))

noncomputable def porterref03_table (N : Nat) : Option (List Int) :=
  some (List.set (List.set (List.set (List.set (List.set (List.set (List.set (List.set (List.set (List.set (List.set (List.set (List.set (List.set (List.set (List.set (List.set (List.set (List.set (List.set (List.set (List.set (List.set (List.set (List.set (List.set (List.set (List.set (List.set (List.set (List.set (List.set (List.set (List.set (List.set (List.set (List.set (List.set (List.set (List.set (List.set (List.set (List.set (List.set (List.set (List.set (List.set (List.set (List.set (List.set (List.set (List.set (List.set (List.set (List.set (List.set (List.set (List.set (List.set (List.set (List.set (List.set (List.set (List.set (List.replicate 64 (0 : Int)) 0 (1116352408 : Int)) 1 (1899447441 : Int)) 2 (3049323471 : Int)) 3 (3921009573 : Int)) 4 (961987163 : Int)) 5 (1508970993 : Int)) 6 (2453635748 : Int)) 7 (2870763221 : Int)) 8 (3624381080 : Int)) 9 (310598401 : Int)) 10 (607225278 : Int)) 11 (1426881987 : Int)) 12 (1925078388 : Int)) 13 (2162078206 : Int)) 14 (2614888103 : Int)) 15 (3248222580 : Int)) 16 (3835390401 : Int)) 17 (4022224774 : Int)) 18 (264347078 : Int)) 19 (604807628 : Int)) 20 (770255983 : Int)) 21 (1249150122 : Int)) 22 (1555081692 : Int)) 23 (1996064986 : Int)) 24 (2554220882 : Int)) 25 (2821834349 : Int)) 26 (2952996808 : Int)) 27 (3210313671 : Int)) 28 (3336571891 : Int)) 29 (3584528711 : Int)) 30 (113926993 : Int)) 31 (338241895 : Int)) 32 (666307205 : Int)) 33 (773529912 : Int)) 34 (1294757372 : Int)) 35 (1396182291 : Int)) 36 (1695183700 : Int)) 37 (1986661051 : Int)) 38 (2177026350 : Int)) 39 (2456956037 : Int)) 40 (2730485921 : Int)) 41 (2820302411 : Int)) 42 (3259730800 : Int)) 43 (3345764771 : Int)) 44 (3516065817 : Int)) 45 (3600352804 : Int)) 46 (4094571909 : Int)) 47 (275423344 : Int)) 48 (430227734 : Int)) 49 (506948616 : Int)) 50 (659060556 : Int)) 51 (883997877 : Int)) 52 (958139571 : Int)) 53 (1322822218 : Int)) 54 (1537002063 : Int)) 55 (1747873779 : Int)) 56 (1955562222 : Int)) 57 (2024104815 : Int)) 58 (2227730452 : Int)) 59 (2361852424 : Int)) 60 (2428436474 : Int)) 61 (2756734187 : Int)) 62 (3204031479 : Int)) 63 (3329325298 : Int))

noncomputable def porterref03_table_t (N : Nat) : Tab (List Int) := []

theorem porterref03_table_link (N : Nat) (x : denS []) : evFX (porterref03_table_E N) N (porterref03_table_t N) porterref03_table_L Go.Proofs.Tryd.f49 (mkS [] 0 x) (kRes (.v (.sl (.int .u32))) 0) = porterref03_table N := by kernel_rfl

noncomputable def porterref03_table_res (N : Nat) : List A → Res := resOf [] (fun x => porterref03_table N) (oRes (.v (.sl (.int .u32))) 0)

theorem porterref03_table_ct (N : Nat) : Contract Go.Proofs.Tryd.prog glob 49 (porterref03_table_res N) :=
  Contract.of (E := porterref03_table_E N) (H := porterref03_table_t N) (L := porterref03_table_L) (N := N) (body := porterref03_table_body) (K := (kRes (.v (.sl (.int .u32))) 0)) (porterref03_table_Eok N) Go.Proofs.Tryd.func49 (by kernel_rfl) (by decide) (fun _ hb => TabOk.nil) (fun x y h => by rw [porterref03_table_link]; exact h) (kRes_ok (s := (.v (.sl (.int .u32)))) (m := 0))

abbrev porterref03_First_R : Type := (List Int)

noncomputable def porterref03_First_body : Code := (Go.Proofs.Tryd.f23.body).getD .skip

noncomputable def porterref03_First_L : List (List Nat × List Nat) := [([0], [0]), ([0, 1], [0]), ([1, 1], [0])]

noncomputable def porterref03_First_E (N : Nat) : Env := mkEnv tys glob [] [] [] [] false [] [(79, hmac_split1_itr N)]

theorem porterref03_First_Eok (N : Nat) : EnvOk Go.Proofs.Tryd.prog (porterref03_First_E N) := mkEnv_ok mixed tys_ok (FnsOk.nil) (ItsOk.cons (hmac_split1_it N) (ItsOk.nil))

noncomputable def porterref03_First (N : Nat) : Option (List Int) :=
  some ([(1779033703 : Int), (3144134277 : Int), (1013904242 : Int), (2773480762 : Int), (1359893119 : Int), (2600822924 : Int), (528734635 : Int), (1541459225 : Int)] : List Int)

noncomputable def porterref03_First_t (N : Nat) : Tab (List Int) := []

theorem porterref03_First_link (N : Nat) (x : denS []) : evFX (porterref03_First_E N) N (porterref03_First_t N) porterref03_First_L Go.Proofs.Tryd.f23 (mkS [] 0 x) (kRes (.v (.arr 8 (.int .u32))) 0) = porterref03_First N := by kernel_rfl

noncomputable def porterref03_First_res (N : Nat) : List A → Res := resOf [] (fun x => porterref03_First N) (oRes (.v (.arr 8 (.int .u32))) 0)

theorem porterref03_First_ct (N : Nat) : Contract Go.Proofs.Tryd.prog glob 23 (porterref03_First_res N) :=
  Contract.of (E := porterref03_First_E N) (H := porterref03_First_t N) (L := porterref03_First_L) (N := N) (body := porterref03_First_body) (K := (kRes (.v (.arr 8 (.int .u32))) 0)) (porterref03_First_Eok N) Go.Proofs.Tryd.func23 (by kernel_rfl) (by decide) (fun _ hb => TabOk.nil) (fun x y h => by rw [porterref03_First_link]; exact h) (kRes_ok (s := (.v (.arr 8 (.int .u32)))) (m := 0))

abbrev porterref03_ror_R : Type := Int

noncomputable def porterref03_ror_body : Code := (Go.Proofs.Tryd.f72.body).getD .skip

noncomputable def porterref03_ror_L : List (List Nat × List Nat) := [([0], [0, 1]), ([0, 1], [4]), ([1, 1], [4])]

noncomputable def porterref03_ror_E (N : Nat) : Env := mkEnv tys glob [] [] [] [] false [] [(79, hmac_split1_itr N)]

theorem porterref03_ror_Eok (N : Nat) : EnvOk Go.Proofs.Tryd.prog (porterref03_ror_E N) := mkEnv_ok mixed tys_ok (FnsOk.nil) (ItsOk.cons (hmac_split1_it N) (ItsOk.nil))

noncomputable def porterref03_ror (N : Nat) (x0 : Int) (n : Int) : Option Int :=
  cond (decide ((0 : Int) ≤ (Go.IntKind.wrap Go.IntKind.u64 n)))
  (cond (decide ((0 : Int) ≤ (Go.IntKind.wrap Go.IntKind.u64 (Go.IntKind.wrap Go.IntKind.i64 ((32 : Int) - n)))))
    (some (Go.Lift.bitsOp Go.BinOp.or Go.IntKind.u32 (Go.Lift.shrI Go.IntKind.u32 x0 (Go.IntKind.wrap Go.IntKind.u64 n)) (Go.Lift.shlI Go.IntKind.u32 x0 (Go.IntKind.wrap Go.IntKind.u64 (Go.IntKind.wrap Go.IntKind.i64 ((32 : Int) - n))))))
    (none))
  (none)

noncomputable def porterref03_ror_t (N : Nat) : Tab Int := []

theorem porterref03_ror_link (N : Nat) (x : denS [(0, .v (.int .u32)), (0, .v (.int .i64))]) : evFX (porterref03_ror_E N) N (porterref03_ror_t N) porterref03_ror_L Go.Proofs.Tryd.f72 (mkS [(0, .v (.int .u32)), (0, .v (.int .i64))] 0 x) (kRes (.v (.int .u32)) 2) = porterref03_ror N x.1 x.2.1 := by kernel_rfl

noncomputable def porterref03_ror_res (N : Nat) : List A → Res := resOf [(0, .v (.int .u32)), (0, .v (.int .i64))] (fun x => porterref03_ror N x.1 x.2.1) (oRes (.v (.int .u32)) 2)

theorem porterref03_ror_ct (N : Nat) : Contract Go.Proofs.Tryd.prog glob 72 (porterref03_ror_res N) :=
  Contract.of (E := porterref03_ror_E N) (H := porterref03_ror_t N) (L := porterref03_ror_L) (N := N) (body := porterref03_ror_body) (K := (kRes (.v (.int .u32)) 2)) (porterref03_ror_Eok N) Go.Proofs.Tryd.func72 (by kernel_rfl) (by decide) (fun _ hb => TabOk.nil) (fun x y h => by rw [porterref03_ror_link]; exact h) (kRes_ok (s := (.v (.int .u32))) (m := 2))

abbrev porterref03_step_R : Type := (List Int)

noncomputable def porterref03_step_body : Code := (Go.Proofs.Tryd.f50.body).getD .skip

noncomputable def porterref03_step_L : List (List Nat × List Nat) := [([0], [2, 1, 4, 3, 8]), ([0, 1], [2, 9, 1, 4, 3, 8]), ([0, 0, 1, 1], [10, 2, 9, 1, 4, 3, 8]), ([0, 1, 0, 1, 1], [10, 2, 9, 1, 4, 3, 8]), ([0, 0, 0, 0, 1, 0, 1, 1], [26, 2, 10, 9, 1, 4, 3, 8]), ([1, 0, 0, 0, 1, 0, 1, 1], [2, 10, 9, 1, 4, 3, 8]), ([1, 1, 0, 0, 0, 1, 0, 1, 1], [9, 4, 3, 8]), ([0, 0, 0, 1, 0, 0, 1, 0, 1, 1], [9, 1, 11, 10, 2, 4, 3, 8]), ([1, 0, 0, 1, 0, 0, 1, 0, 1, 1], [10, 2, 9, 1, 4, 3, 8]), ([0, 1, 0, 0, 1, 0, 1, 1], [10, 2, 9, 1, 4, 3, 8]), ([1, 1, 0, 0, 1, 0, 1, 1], [10, 2, 9, 1, 4, 3, 8]), ([1, 0, 1, 1], [9, 4, 3, 8]), ([0, 0, 1, 1, 1], [12, 9, 4, 3, 8]), ([0, 1, 0, 1, 1, 1], [12, 9, 4, 3, 8]), ([0, 0, 0, 0, 1, 0, 1, 1, 1], [62, 9, 12, 4, 3, 8]), ([1, 0, 0, 0, 1, 0, 1, 1, 1], [9, 12, 4, 3, 8]), ([1, 1, 0, 0, 0, 1, 0, 1, 1, 1], [4, 3, 9, 8]), ([0, 0, 0, 1, 0, 0, 1, 0, 1, 1, 1], [13, 14, 9, 12, 4, 3, 8]), ([0, 1, 0, 0, 1, 0, 0, 1, 0, 1, 1, 1], [14, 9, 12, 15, 4, 3, 8]), ([0, 1, 1, 0, 0, 1, 0, 0, 1, 0, 1, 1, 1], [9, 16, 12, 15, 4, 3, 8]), ([1, 1, 1, 0, 0, 1, 0, 0, 1, 0, 1, 1, 1], [12, 9, 4, 3, 8]), ([0, 1, 0, 0, 1, 0, 1, 1, 1], [12, 9, 4, 3, 8]), ([1, 1, 0, 0, 1, 0, 1, 1, 1], [12, 9, 4, 3, 8]), ([1, 0, 1, 1, 1], [4, 3, 9, 8]), ([0, 1, 1, 1, 1], [17, 3, 9, 4, 8]), ([0, 0, 1, 1, 1, 1, 1], [18, 17, 3, 9, 4, 8]), ([0, 1, 0, 1, 1, 1, 1, 1], [18, 17, 3, 9, 4, 8]), ([0, 0, 0, 0, 1, 0, 1, 1, 1, 1, 1], [111, 17, 3, 18, 9, 4, 8]), ([1, 0, 0, 0, 1, 0, 1, 1, 1, 1, 1], [17, 3, 18, 9, 4, 8]), ([1, 1, 0, 0, 0, 1, 0, 1, 1, 1, 1, 1], [17, 4, 8]), ([0, 0, 0, 1, 0, 0, 1, 0, 1, 1, 1, 1, 1], [17, 19, 3, 18, 9, 4, 8]), ([0, 1, 0, 0, 1, 0, 0, 1, 0, 1, 1, 1, 1, 1], [17, 19, 20, 3, 18, 9, 4, 8]), ([0, 1, 1, 0, 0, 1, 0, 0, 1, 0, 1, 1, 1, 1, 1], [17, 21, 18, 3, 9, 4, 8]), ([0, 1, 1, 1, 0, 0, 1, 0, 0, 1, 0, 1, 1, 1, 1, 1], [17, 21, 22, 18, 3, 9, 4, 8]), ([0, 1, 1, 1, 1, 0, 0, 1, 0, 0, 1, 0, 1, 1, 1, 1, 1], [21, 22, 23, 17, 18, 3, 9, 4, 8]), ([1, 1, 1, 1, 1, 0, 0, 1, 0, 0, 1, 0, 1, 1, 1, 1, 1], [18, 17, 3, 9, 4, 8]), ([0, 1, 0, 0, 1, 0, 1, 1, 1, 1, 1], [18, 17, 3, 9, 4, 8]), ([1, 1, 0, 0, 1, 0, 1, 1, 1, 1, 1], [18, 17, 3, 9, 4, 8]), ([1, 0, 1, 1, 1, 1, 1], [17, 4, 8]), ([0, 0, 1, 1, 1, 1, 1, 1], [24, 17, 4, 8]), ([0, 1, 0, 1, 1, 1, 1, 1, 1], [24, 17, 4, 8]), ([0, 0, 0, 0, 1, 0, 1, 1, 1, 1, 1, 1], [204, 24, 17, 4, 8]), ([1, 0, 0, 0, 1, 0, 1, 1, 1, 1, 1, 1], [24, 17, 4, 8]), ([1, 1, 0, 0, 0, 1, 0, 1, 1, 1, 1, 1, 1], [17, 8]), ([0, 0, 1, 0, 0, 1, 0, 1, 1, 1, 1, 1, 1], [24, 17, 4, 8]), ([0, 1, 0, 0, 1, 0, 1, 1, 1, 1, 1, 1], [24, 17, 4, 8]), ([1, 1, 0, 0, 1, 0, 1, 1, 1, 1, 1, 1], [24, 17, 4, 8]), ([1, 0, 1, 1, 1, 1, 1, 1], [17, 8]), ([0, 1, 1, 1, 1, 1, 1, 1], [8]), ([1, 1, 1, 1, 1, 1, 1, 1], [8])]

noncomputable def porterref03_step_E (N : Nat) : Env := mkEnv tys glob [(72, porterref03_ror_res N)] [(9, (.int .u32))] [] [] false [] [(79, hmac_split1_itr N)]

theorem porterref03_step_Eok (N : Nat) : EnvOk Go.Proofs.Tryd.prog (porterref03_step_E N) := mkEnv_ok mixed tys_ok (FnsOk.cons (porterref03_ror_ct N) (FnsOk.nil)) (ItsOk.cons (hmac_split1_it N) (ItsOk.nil))

noncomputable def porterref03_step_s1 (N : Nat) (s : (List UInt8)) (at_ : Int) (k : (List Int)) (h : (List Int)) (x8 : (List Int)) (w : (List Int)) (t : Int) (rec : (List Int) → Int → Option (List Int)) (k0 : (List Int) → Option (List Int)) : Option (List Int) :=
  cond (decide (t < (16 : Int)))
  (cond (Go.Lift.inR (Go.IntKind.wrap Go.IntKind.i64 (at_ + (Go.IntKind.wrap Go.IntKind.i64 ((4 : Int) * t)))) (List.length s))
    (cond (Go.Lift.inR (Go.IntKind.wrap Go.IntKind.i64 ((Go.IntKind.wrap Go.IntKind.i64 (at_ + (Go.IntKind.wrap Go.IntKind.i64 ((4 : Int) * t)))) + (1 : Int))) (List.length s))
      (cond (Go.Lift.inR (Go.IntKind.wrap Go.IntKind.i64 ((Go.IntKind.wrap Go.IntKind.i64 (at_ + (Go.IntKind.wrap Go.IntKind.i64 ((4 : Int) * t)))) + (2 : Int))) (List.length s))
        (cond (Go.Lift.inR (Go.IntKind.wrap Go.IntKind.i64 ((Go.IntKind.wrap Go.IntKind.i64 (at_ + (Go.IntKind.wrap Go.IntKind.i64 ((4 : Int) * t)))) + (3 : Int))) (List.length s))
          (cond (decide ((((List.length w) + 1) * 4) ≤ 70368744177664))
            (rec (w ++ ([(Go.IntKind.wrap Go.IntKind.u32 ((Go.IntKind.wrap Go.IntKind.u32 ((Go.IntKind.wrap Go.IntKind.u32 ((Go.Lift.shlI Go.IntKind.u32 (Go.IntKind.wrap Go.IntKind.u32 (((UInt8.toNat (List.getD s (Int.toNat (Go.IntKind.wrap Go.IntKind.i64 (at_ + (Go.IntKind.wrap Go.IntKind.i64 ((4 : Int) * t))))) (0 : UInt8))) : Nat) : Int)) (24 : Int)) + (Go.Lift.shlI Go.IntKind.u32 (Go.IntKind.wrap Go.IntKind.u32 (((UInt8.toNat (List.getD s (Int.toNat (Go.IntKind.wrap Go.IntKind.i64 ((Go.IntKind.wrap Go.IntKind.i64 (at_ + (Go.IntKind.wrap Go.IntKind.i64 ((4 : Int) * t)))) + (1 : Int)))) (0 : UInt8))) : Nat) : Int)) (16 : Int)))) + (Go.Lift.shlI Go.IntKind.u32 (Go.IntKind.wrap Go.IntKind.u32 (((UInt8.toNat (List.getD s (Int.toNat (Go.IntKind.wrap Go.IntKind.i64 ((Go.IntKind.wrap Go.IntKind.i64 (at_ + (Go.IntKind.wrap Go.IntKind.i64 ((4 : Int) * t)))) + (2 : Int)))) (0 : UInt8))) : Nat) : Int)) (8 : Int)))) + (Go.IntKind.wrap Go.IntKind.u32 (((UInt8.toNat (List.getD s (Int.toNat (Go.IntKind.wrap Go.IntKind.i64 ((Go.IntKind.wrap Go.IntKind.i64 (at_ + (Go.IntKind.wrap Go.IntKind.i64 ((4 : Int) * t)))) + (3 : Int)))) (0 : UInt8))) : Nat) : Int))))] : List Int)) (Go.IntKind.wrap Go.IntKind.i64 (t + (1 : Int))))
            (none))
          (none))
        (none))
      (none))
    (none))
  (k0 w)

noncomputable def porterref03_step_p1 (N : Nat) (s : (List UInt8)) (at_ : Int) (k : (List Int)) (h : (List Int)) (x8 : (List Int)) (w : (List Int)) (t : Int) (k0 : (List Int) → Option (List Int)) : Option (List Int) :=
  iter (fun (v : ((List Int) × Int)) r => porterref03_step_s1 N s at_ k h x8 v.1 v.2 (fun w t => (r (w, t))) k0) N (w, t)

noncomputable def porterref03_step_g1 (N : Nat) (i : ((List UInt8) × Int × (List Int) × (List Int) × (List Int))) (v : ((List Int) × Int)) (r : ((List Int) × Int) → Option (List Int)) (K : Ex → List A → Option (List Int)) : Option (List Int) :=
  porterref03_step_s1 N i.1 i.2.1 i.2.2.1 i.2.2.2.1 i.2.2.2.2 v.1 v.2 (fun w t => (r (w, t))) (fun a3 => (K (.exit 0) (mkS [(3, .v (.sl (.int .u32))), (0, .box (.arr 8 (.int .u32))), (3, .box (.arr 8 (.int .u32))), (0, .row (.int .u32))] 207 (i.2.2.1, i.2.2.2.1, i.2.2.2.2, a3, ()))))

noncomputable def porterref03_step_h1 (N : Nat) : Hd (List Int) := fun st K => (unS [(1, .v .str), (0, .v (.int .i64)), (0, .v (.sl (.int .u32))), (0, .box (.arr 8 (.int .u32))), (3, .box (.arr 8 (.int .u32))), (0, .row (.int .u32)), (0, .v (.int .i64))] 206 (restr [10, 2, 9, 1, 4, 3, 8] 0 st)).bind fun x => iter (fun v r => porterref03_step_g1 N ((fun x => (x.1, x.2.1, x.2.2.1, x.2.2.2.1, x.2.2.2.2.1)) x) v r K) N ((fun x => (x.2.2.2.2.2.1, x.2.2.2.2.2.2.1)) x)

noncomputable def porterref03_step_t1 (N : Nat) : Tab (List Int) := []

theorem porterref03_step_ok1 {N : Nat} {c : Ctx} (hb : Base Go.Proofs.Tryd.prog (porterref03_step_E N) c) : CodeOk Go.Proofs.Tryd.prog c (nodeAt porterref03_step_body [0, 1, 0, 1, 1]) (porterref03_step_h1 N) :=
  loop_ok (s := [(1, .v .str), (0, .v (.int .i64)), (0, .v (.sl (.int .u32))), (0, .box (.arr 8 (.int .u32))), (3, .box (.arr 8 (.int .u32))), (0, .row (.int .u32)), (0, .v (.int .i64))]) (m := 206) (porterref03_step_g1 N) [10, 2, 9, 1, 4, 3, 8] N (fun x => (x.1, x.2.1, x.2.2.1, x.2.2.2.1, x.2.2.2.2.1)) (fun x => (x.2.2.2.2.2.1, x.2.2.2.2.2.2.1)) (fun i v => (i.1, i.2.1, i.2.2.1, i.2.2.2.1, i.2.2.2.2, v.1, v.2, ())) (fun _ => rfl) (evN_sound hb N (porterref03_step_t1 N) porterref03_step_L porterref03_step_body TabOk.nil [0, 0, 1, 0, 1, 1] _ rfl) (fun i v r K => by kernel_rfl)

noncomputable def porterref03_step_s2 (N : Nat) (k : (List Int)) (h : (List Int)) (x8 : (List Int)) (w : (List Int)) (t : Int) (rec : (List Int) → Int → Option (List Int)) (k0 : (List Int) → Option (List Int)) : Option (List Int) :=
  cond (decide (t < (64 : Int)))
  (cond (Go.Lift.inR (Go.IntKind.wrap Go.IntKind.i64 (t - (15 : Int))) (List.length w))
    (cond (decide ((Int.toNat (Go.IntKind.wrap Go.IntKind.i64 (t - (15 : Int)))) < (List.length w)))
      (cond (Go.Lift.inR (Go.IntKind.wrap Go.IntKind.i64 (t - (2 : Int))) (List.length w))
        (cond (decide ((Int.toNat (Go.IntKind.wrap Go.IntKind.i64 (t - (2 : Int)))) < (List.length w)))
          (cond (Go.Lift.inR (Go.IntKind.wrap Go.IntKind.i64 (t - (7 : Int))) (List.length w))
            (cond (decide ((Int.toNat (Go.IntKind.wrap Go.IntKind.i64 (t - (7 : Int)))) < (List.length w)))
              (cond (Go.Lift.inR (Go.IntKind.wrap Go.IntKind.i64 (t - (16 : Int))) (List.length w))
                (cond (decide ((Int.toNat (Go.IntKind.wrap Go.IntKind.i64 (t - (16 : Int)))) < (List.length w)))
                  (cond (decide ((((List.length w) + 1) * 4) ≤ 70368744177664))
                    (rec (w ++ ([(Go.IntKind.wrap Go.IntKind.u32 ((Go.IntKind.wrap Go.IntKind.u32 ((Go.IntKind.wrap Go.IntKind.u32 ((Go.Lift.bitsOp Go.BinOp.xor Go.IntKind.u32 (Go.Lift.bitsOp Go.BinOp.xor Go.IntKind.u32 (Go.Lift.bitsOp Go.BinOp.or Go.IntKind.u32 (Go.Lift.shrI Go.IntKind.u32 (List.getD w (Int.toNat (Go.IntKind.wrap Go.IntKind.i64 (t - (2 : Int)))) (0 : Int)) (Go.IntKind.wrap Go.IntKind.u64 (17 : Int))) (Go.Lift.shlI Go.IntKind.u32 (List.getD w (Int.toNat (Go.IntKind.wrap Go.IntKind.i64 (t - (2 : Int)))) (0 : Int)) (Go.IntKind.wrap Go.IntKind.u64 (Go.IntKind.wrap Go.IntKind.i64 ((32 : Int) - (17 : Int)))))) (Go.Lift.bitsOp Go.BinOp.or Go.IntKind.u32 (Go.Lift.shrI Go.IntKind.u32 (List.getD w (Int.toNat (Go.IntKind.wrap Go.IntKind.i64 (t - (2 : Int)))) (0 : Int)) (Go.IntKind.wrap Go.IntKind.u64 (19 : Int))) (Go.Lift.shlI Go.IntKind.u32 (List.getD w (Int.toNat (Go.IntKind.wrap Go.IntKind.i64 (t - (2 : Int)))) (0 : Int)) (Go.IntKind.wrap Go.IntKind.u64 (Go.IntKind.wrap Go.IntKind.i64 ((32 : Int) - (19 : Int))))))) (Go.Lift.shrI Go.IntKind.u32 (List.getD w (Int.toNat (Go.IntKind.wrap Go.IntKind.i64 (t - (2 : Int)))) (0 : Int)) (10 : Int))) + (List.getD w (Int.toNat (Go.IntKind.wrap Go.IntKind.i64 (t - (7 : Int)))) (0 : Int)))) + (Go.Lift.bitsOp Go.BinOp.xor Go.IntKind.u32 (Go.Lift.bitsOp Go.BinOp.xor Go.IntKind.u32 (Go.Lift.bitsOp Go.BinOp.or Go.IntKind.u32 (Go.Lift.shrI Go.IntKind.u32 (List.getD w (Int.toNat (Go.IntKind.wrap Go.IntKind.i64 (t - (15 : Int)))) (0 : Int)) (Go.IntKind.wrap Go.IntKind.u64 (7 : Int))) (Go.Lift.shlI Go.IntKind.u32 (List.getD w (Int.toNat (Go.IntKind.wrap Go.IntKind.i64 (t - (15 : Int)))) (0 : Int)) (Go.IntKind.wrap Go.IntKind.u64 (Go.IntKind.wrap Go.IntKind.i64 ((32 : Int) - (7 : Int)))))) (Go.Lift.bitsOp Go.BinOp.or Go.IntKind.u32 (Go.Lift.shrI Go.IntKind.u32 (List.getD w (Int.toNat (Go.IntKind.wrap Go.IntKind.i64 (t - (15 : Int)))) (0 : Int)) (Go.IntKind.wrap Go.IntKind.u64 (18 : Int))) (Go.Lift.shlI Go.IntKind.u32 (List.getD w (Int.toNat (Go.IntKind.wrap Go.IntKind.i64 (t - (15 : Int)))) (0 : Int)) (Go.IntKind.wrap Go.IntKind.u64 (Go.IntKind.wrap Go.IntKind.i64 ((32 : Int) - (18 : Int))))))) (Go.Lift.shrI Go.IntKind.u32 (List.getD w (Int.toNat (Go.IntKind.wrap Go.IntKind.i64 (t - (15 : Int)))) (0 : Int)) (3 : Int))))) + (List.getD w (Int.toNat (Go.IntKind.wrap Go.IntKind.i64 (t - (16 : Int)))) (0 : Int))))] : List Int)) (Go.IntKind.wrap Go.IntKind.i64 (t + (1 : Int))))
                    (none))
                  (none))
                (none))
              (none))
            (none))
          (none))
        (none))
      (none))
    (none))
  (k0 w)

noncomputable def porterref03_step_p2 (N : Nat) (k : (List Int)) (h : (List Int)) (x8 : (List Int)) (w : (List Int)) (t : Int) (k0 : (List Int) → Option (List Int)) : Option (List Int) :=
  iter (fun (v : ((List Int) × Int)) r => porterref03_step_s2 N k h x8 v.1 v.2 (fun w t => (r (w, t))) k0) N (w, t)

noncomputable def porterref03_step_g2 (N : Nat) (i : ((List Int) × (List Int) × (List Int))) (v : ((List Int) × Int)) (r : ((List Int) × Int) → Option (List Int)) (K : Ex → List A → Option (List Int)) : Option (List Int) :=
  porterref03_step_s2 N i.1 i.2.1 i.2.2 v.1 v.2 (fun w t => (r (w, t))) (fun a3 => (K (.exit 2) (mkS [(3, .v (.sl (.int .u32))), (0, .box (.arr 8 (.int .u32))), (3, .box (.arr 8 (.int .u32))), (0, .row (.int .u32))] 207 (i.1, i.2.1, i.2.2, a3, ()))))

noncomputable def porterref03_step_h2 (N : Nat) : Hd (List Int) := fun st K => (unS [(3, .v (.sl (.int .u32))), (0, .box (.arr 8 (.int .u32))), (3, .box (.arr 8 (.int .u32))), (0, .row (.int .u32)), (2, .v (.int .i64))] 204 (restr [12, 9, 4, 3, 8] 0 st)).bind fun x => iter (fun v r => porterref03_step_g2 N ((fun x => (x.1, x.2.1, x.2.2.1)) x) v r K) N ((fun x => (x.2.2.2.1, x.2.2.2.2.1)) x)

noncomputable def porterref03_step_t2 (N : Nat) : Tab (List Int) := []

theorem porterref03_step_ok2 {N : Nat} {c : Ctx} (hb : Base Go.Proofs.Tryd.prog (porterref03_step_E N) c) : CodeOk Go.Proofs.Tryd.prog c (nodeAt porterref03_step_body [0, 1, 0, 1, 1, 1]) (porterref03_step_h2 N) :=
  loop_ok (s := [(3, .v (.sl (.int .u32))), (0, .box (.arr 8 (.int .u32))), (3, .box (.arr 8 (.int .u32))), (0, .row (.int .u32)), (2, .v (.int .i64))]) (m := 204) (porterref03_step_g2 N) [12, 9, 4, 3, 8] N (fun x => (x.1, x.2.1, x.2.2.1)) (fun x => (x.2.2.2.1, x.2.2.2.2.1)) (fun i v => (i.1, i.2.1, i.2.2, v.1, v.2, ())) (fun _ => rfl) (evN_sound hb N (porterref03_step_t2 N) porterref03_step_L porterref03_step_body TabOk.nil [0, 0, 1, 0, 1, 1, 1] _ rfl) (fun i v r K => by kernel_rfl)

noncomputable def porterref03_step_s3 (N : Nat) (k : (List Int)) (h : (List Int)) (x8 : (List Int)) (w : (List Int)) (v : (List Int)) (t : Int) (rec : (List Int) → Int → Option (List Int)) (k0 : (List Int) → Option (List Int)) : Option (List Int) :=
  cond (decide (t < (64 : Int)))
  (cond (decide (4 < (List.length v)))
    (cond (decide (4 < (List.length v)))
      (cond (decide (4 < (List.length v)))
        (cond (decide (4 < (List.length v)))
          (cond (decide (5 < (List.length v)))
            (cond (decide (4 < (List.length v)))
              (cond (decide (6 < (List.length v)))
                (cond (decide (7 < (List.length v)))
                  (cond (Go.Lift.inR t (List.length k))
                    (cond (Go.Lift.inR t (List.length w))
                      (cond (decide ((Int.toNat t) < (List.length w)))
                        (cond (decide (0 < (List.length v)))
                          (cond (decide (0 < (List.length v)))
                            (cond (decide (0 < (List.length v)))
                              (cond (decide (0 < (List.length v)))
                                (cond (decide (1 < (List.length v)))
                                  (cond (decide (0 < (List.length v)))
                                    (cond (decide (2 < (List.length v)))
                                      (cond (decide (1 < (List.length v)))
                                        (cond (decide (2 < (List.length v)))
                                          (cond (decide (0 < (List.length v)))
                                            (cond (decide (1 < (List.length v)))
                                              (cond (decide (2 < (List.length v)))
                                                (cond (decide (3 < (List.length v)))
                                                  (cond (decide (4 < (List.length v)))
                                                    (cond (decide (5 < (List.length v)))
                                                      (cond (decide (6 < (List.length v)))
                                                        (rec ([(Go.IntKind.wrap Go.IntKind.u32 ((Go.IntKind.wrap Go.IntKind.u32 ((Go.IntKind.wrap Go.IntKind.u32 ((Go.IntKind.wrap Go.IntKind.u32 ((Go.IntKind.wrap Go.IntKind.u32 ((Go.IntKind.wrap Go.IntKind.u32 ((List.getD v 7 (0 : Int)) + (Go.Lift.bitsOp Go.BinOp.xor Go.IntKind.u32 (Go.Lift.bitsOp Go.BinOp.xor Go.IntKind.u32 (Go.Lift.bitsOp Go.BinOp.or Go.IntKind.u32 (Go.Lift.shrI Go.IntKind.u32 (List.getD v 4 (0 : Int)) (Go.IntKind.wrap Go.IntKind.u64 (6 : Int))) (Go.Lift.shlI Go.IntKind.u32 (List.getD v 4 (0 : Int)) (Go.IntKind.wrap Go.IntKind.u64 (Go.IntKind.wrap Go.IntKind.i64 ((32 : Int) - (6 : Int)))))) (Go.Lift.bitsOp Go.BinOp.or Go.IntKind.u32 (Go.Lift.shrI Go.IntKind.u32 (List.getD v 4 (0 : Int)) (Go.IntKind.wrap Go.IntKind.u64 (11 : Int))) (Go.Lift.shlI Go.IntKind.u32 (List.getD v 4 (0 : Int)) (Go.IntKind.wrap Go.IntKind.u64 (Go.IntKind.wrap Go.IntKind.i64 ((32 : Int) - (11 : Int))))))) (Go.Lift.bitsOp Go.BinOp.or Go.IntKind.u32 (Go.Lift.shrI Go.IntKind.u32 (List.getD v 4 (0 : Int)) (Go.IntKind.wrap Go.IntKind.u64 (25 : Int))) (Go.Lift.shlI Go.IntKind.u32 (List.getD v 4 (0 : Int)) (Go.IntKind.wrap Go.IntKind.u64 (Go.IntKind.wrap Go.IntKind.i64 ((32 : Int) - (25 : Int))))))))) + (Go.Lift.bitsOp Go.BinOp.xor Go.IntKind.u32 (Go.Lift.bitsOp Go.BinOp.and Go.IntKind.u32 (List.getD v 4 (0 : Int)) (List.getD v 5 (0 : Int))) (Go.Lift.bitsOp Go.BinOp.and Go.IntKind.u32 (Go.Lift.bitsOp Go.BinOp.xor Go.IntKind.u32 (if ((Go.IntKind.signed Go.IntKind.u32) = true) then (-(1 : Int)) else (Go.IntKind.max Go.IntKind.u32)) (List.getD v 4 (0 : Int))) (List.getD v 6 (0 : Int)))))) + (List.getD k (Int.toNat t) (0 : Int)))) + (List.getD w (Int.toNat t) (0 : Int)))) + (Go.Lift.bitsOp Go.BinOp.xor Go.IntKind.u32 (Go.Lift.bitsOp Go.BinOp.xor Go.IntKind.u32 (Go.Lift.bitsOp Go.BinOp.or Go.IntKind.u32 (Go.Lift.shrI Go.IntKind.u32 (List.getD v 0 (0 : Int)) (Go.IntKind.wrap Go.IntKind.u64 (2 : Int))) (Go.Lift.shlI Go.IntKind.u32 (List.getD v 0 (0 : Int)) (Go.IntKind.wrap Go.IntKind.u64 (Go.IntKind.wrap Go.IntKind.i64 ((32 : Int) - (2 : Int)))))) (Go.Lift.bitsOp Go.BinOp.or Go.IntKind.u32 (Go.Lift.shrI Go.IntKind.u32 (List.getD v 0 (0 : Int)) (Go.IntKind.wrap Go.IntKind.u64 (13 : Int))) (Go.Lift.shlI Go.IntKind.u32 (List.getD v 0 (0 : Int)) (Go.IntKind.wrap Go.IntKind.u64 (Go.IntKind.wrap Go.IntKind.i64 ((32 : Int) - (13 : Int))))))) (Go.Lift.bitsOp Go.BinOp.or Go.IntKind.u32 (Go.Lift.shrI Go.IntKind.u32 (List.getD v 0 (0 : Int)) (Go.IntKind.wrap Go.IntKind.u64 (22 : Int))) (Go.Lift.shlI Go.IntKind.u32 (List.getD v 0 (0 : Int)) (Go.IntKind.wrap Go.IntKind.u64 (Go.IntKind.wrap Go.IntKind.i64 ((32 : Int) - (22 : Int))))))))) + (Go.Lift.bitsOp Go.BinOp.xor Go.IntKind.u32 (Go.Lift.bitsOp Go.BinOp.xor Go.IntKind.u32 (Go.Lift.bitsOp Go.BinOp.and Go.IntKind.u32 (List.getD v 0 (0 : Int)) (List.getD v 1 (0 : Int))) (Go.Lift.bitsOp Go.BinOp.and Go.IntKind.u32 (List.getD v 0 (0 : Int)) (List.getD v 2 (0 : Int)))) (Go.Lift.bitsOp Go.BinOp.and Go.IntKind.u32 (List.getD v 1 (0 : Int)) (List.getD v 2 (0 : Int)))))), (List.getD v 0 (0 : Int)), (List.getD v 1 (0 : Int)), (List.getD v 2 (0 : Int)), (Go.IntKind.wrap Go.IntKind.u32 ((List.getD v 3 (0 : Int)) + (Go.IntKind.wrap Go.IntKind.u32 ((Go.IntKind.wrap Go.IntKind.u32 ((Go.IntKind.wrap Go.IntKind.u32 ((Go.IntKind.wrap Go.IntKind.u32 ((List.getD v 7 (0 : Int)) + (Go.Lift.bitsOp Go.BinOp.xor Go.IntKind.u32 (Go.Lift.bitsOp Go.BinOp.xor Go.IntKind.u32 (Go.Lift.bitsOp Go.BinOp.or Go.IntKind.u32 (Go.Lift.shrI Go.IntKind.u32 (List.getD v 4 (0 : Int)) (Go.IntKind.wrap Go.IntKind.u64 (6 : Int))) (Go.Lift.shlI Go.IntKind.u32 (List.getD v 4 (0 : Int)) (Go.IntKind.wrap Go.IntKind.u64 (Go.IntKind.wrap Go.IntKind.i64 ((32 : Int) - (6 : Int)))))) (Go.Lift.bitsOp Go.BinOp.or Go.IntKind.u32 (Go.Lift.shrI Go.IntKind.u32 (List.getD v 4 (0 : Int)) (Go.IntKind.wrap Go.IntKind.u64 (11 : Int))) (Go.Lift.shlI Go.IntKind.u32 (List.getD v 4 (0 : Int)) (Go.IntKind.wrap Go.IntKind.u64 (Go.IntKind.wrap Go.IntKind.i64 ((32 : Int) - (11 : Int))))))) (Go.Lift.bitsOp Go.BinOp.or Go.IntKind.u32 (Go.Lift.shrI Go.IntKind.u32 (List.getD v 4 (0 : Int)) (Go.IntKind.wrap Go.IntKind.u64 (25 : Int))) (Go.Lift.shlI Go.IntKind.u32 (List.getD v 4 (0 : Int)) (Go.IntKind.wrap Go.IntKind.u64 (Go.IntKind.wrap Go.IntKind.i64 ((32 : Int) - (25 : Int))))))))) + (Go.Lift.bitsOp Go.BinOp.xor Go.IntKind.u32 (Go.Lift.bitsOp Go.BinOp.and Go.IntKind.u32 (List.getD v 4 (0 : Int)) (List.getD v 5 (0 : Int))) (Go.Lift.bitsOp Go.BinOp.and Go.IntKind.u32 (Go.Lift.bitsOp Go.BinOp.xor Go.IntKind.u32 (if ((Go.IntKind.signed Go.IntKind.u32) = true) then (-(1 : Int)) else (Go.IntKind.max Go.IntKind.u32)) (List.getD v 4 (0 : Int))) (List.getD v 6 (0 : Int)))))) + (List.getD k (Int.toNat t) (0 : Int)))) + (List.getD w (Int.toNat t) (0 : Int)))))), (List.getD v 4 (0 : Int)), (List.getD v 5 (0 : Int)), (List.getD v 6 (0 : Int))] : List Int) (Go.IntKind.wrap Go.IntKind.i64 (t + (1 : Int))))
                                                        (none))
                                                      (none))
                                                    (none))
                                                  (none))
                                                (none))
                                              (none))
                                            (none))
                                          (none))
                                        (none))
                                      (none))
                                    (none))
                                  (none))
                                (none))
                              (none))
                            (none))
                          (none))
                        (none))
                      (none))
                    (none))
                  (none))
                (none))
              (none))
            (none))
          (none))
        (none))
      (none))
    (none))
  (k0 v)

noncomputable def porterref03_step_p3 (N : Nat) (k : (List Int)) (h : (List Int)) (x8 : (List Int)) (w : (List Int)) (v : (List Int)) (t : Int) (k0 : (List Int) → Option (List Int)) : Option (List Int) :=
  iter (fun (v : ((List Int) × Int)) r => porterref03_step_s3 N k h x8 w v.1 v.2 (fun v t => (r (v, t))) k0) N (v, t)

noncomputable def porterref03_step_g3 (N : Nat) (i : ((List Int) × (List Int) × (List Int) × (List Int))) (v : ((List Int) × Int)) (r : ((List Int) × Int) → Option (List Int)) (K : Ex → List A → Option (List Int)) : Option (List Int) :=
  porterref03_step_s3 N i.1 i.2.1 i.2.2.1 i.2.2.2 v.1 v.2 (fun v t => (r (v, t))) (fun a2 => (K (.exit 4) (mkS [(4, .box (.arr 8 (.int .u32))), (3, .box (.arr 8 (.int .u32))), (8, .box (.arr 8 (.int .u32)))] 199 (i.2.1, i.2.2.1, a2, ()))))

noncomputable def porterref03_step_h3 (N : Nat) : Hd (List Int) := fun st K => (unS [(3, .v (.sl (.int .u32))), (0, .box (.arr 8 (.int .u32))), (3, .box (.arr 8 (.int .u32))), (0, .row (.int .u32)), (7, .box (.arr 8 (.int .u32))), (0, .v (.int .i64))] 198 (restr [18, 17, 3, 9, 4, 8] 0 st)).bind fun x => iter (fun v r => porterref03_step_g3 N ((fun x => (x.1, x.2.1, x.2.2.1, x.2.2.2.1)) x) v r K) N ((fun x => (x.2.2.2.2.1, x.2.2.2.2.2.1)) x)

noncomputable def porterref03_step_t3 (N : Nat) : Tab (List Int) := []

theorem porterref03_step_ok3 {N : Nat} {c : Ctx} (hb : Base Go.Proofs.Tryd.prog (porterref03_step_E N) c) : CodeOk Go.Proofs.Tryd.prog c (nodeAt porterref03_step_body [0, 1, 0, 1, 1, 1, 1, 1]) (porterref03_step_h3 N) :=
  loop_ok (s := [(3, .v (.sl (.int .u32))), (0, .box (.arr 8 (.int .u32))), (3, .box (.arr 8 (.int .u32))), (0, .row (.int .u32)), (7, .box (.arr 8 (.int .u32))), (0, .v (.int .i64))]) (m := 198) (porterref03_step_g3 N) [18, 17, 3, 9, 4, 8] N (fun x => (x.1, x.2.1, x.2.2.1, x.2.2.2.1)) (fun x => (x.2.2.2.2.1, x.2.2.2.2.2.1)) (fun i v => (i.1, i.2.1, i.2.2.1, i.2.2.2, v.1, v.2, ())) (fun _ => rfl) (evN_sound hb N (porterref03_step_t3 N) porterref03_step_L porterref03_step_body TabOk.nil [0, 0, 1, 0, 1, 1, 1, 1, 1] _ rfl) (fun i v r K => by kernel_rfl)

noncomputable def porterref03_step_s4 (N : Nat) (h : (List Int)) (x8 : (List Int)) (v : (List Int)) (i : Int) (rec : (List Int) → Int → Option (List Int)) (k0 : (List Int) → Option (List Int)) : Option (List Int) :=
  cond (decide (i < (8 : Int)))
  (cond (Go.Lift.inR i 8)
    (cond (decide ((Int.toNat i) < (List.length v)))
      (cond (Go.Lift.inR i 8)
        (cond (decide ((Int.toNat i) < (List.length h)))
          (cond (Go.Lift.inR i 8)
            (cond (decide ((Int.toNat i) < (List.length v)))
              (rec (List.set v (Int.toNat i) (Go.IntKind.wrap Go.IntKind.u32 ((List.getD v (Int.toNat i) (0 : Int)) + (List.getD h (Int.toNat i) (0 : Int))))) (Go.IntKind.wrap Go.IntKind.i64 (i + (1 : Int))))
              (none))
            (none))
          (none))
        (none))
      (none))
    (none))
  (k0 v)

noncomputable def porterref03_step_p4 (N : Nat) (h : (List Int)) (x8 : (List Int)) (v : (List Int)) (i : Int) (k0 : (List Int) → Option (List Int)) : Option (List Int) :=
  iter (fun (v : ((List Int) × Int)) r => porterref03_step_s4 N h x8 v.1 v.2 (fun v i => (r (v, i))) k0) N (v, i)

noncomputable def porterref03_step_g4 (N : Nat) (i : ((List Int) × (List Int))) (v : ((List Int) × Int)) (r : ((List Int) × Int) → Option (List Int)) (K : Ex → List A → Option (List Int)) : Option (List Int) :=
  porterref03_step_s4 N i.1 i.2 v.1 v.2 (fun v i => (r (v, i))) (fun a1 => (K (.exit 6) (mkS [(8, .box (.arr 8 (.int .u32))), (8, .box (.arr 8 (.int .u32)))] 199 (i.2, a1, ()))))

noncomputable def porterref03_step_h4 (N : Nat) : Hd (List Int) := fun st K => (unS [(4, .box (.arr 8 (.int .u32))), (3, .box (.arr 8 (.int .u32))), (8, .box (.arr 8 (.int .u32))), (6, .v (.int .i64))] 192 (restr [24, 17, 4, 8] 0 st)).bind fun x => iter (fun v r => porterref03_step_g4 N ((fun x => (x.1, x.2.1)) x) v r K) N ((fun x => (x.2.2.1, x.2.2.2.1)) x)

noncomputable def porterref03_step_t4 (N : Nat) : Tab (List Int) := []

theorem porterref03_step_ok4 {N : Nat} {c : Ctx} (hb : Base Go.Proofs.Tryd.prog (porterref03_step_E N) c) : CodeOk Go.Proofs.Tryd.prog c (nodeAt porterref03_step_body [0, 1, 0, 1, 1, 1, 1, 1, 1]) (porterref03_step_h4 N) :=
  loop_ok (s := [(4, .box (.arr 8 (.int .u32))), (3, .box (.arr 8 (.int .u32))), (8, .box (.arr 8 (.int .u32))), (6, .v (.int .i64))]) (m := 192) (porterref03_step_g4 N) [24, 17, 4, 8] N (fun x => (x.1, x.2.1)) (fun x => (x.2.2.1, x.2.2.2.1)) (fun i v => (i.1, i.2, v.1, v.2, ())) (fun _ => rfl) (evN_sound hb N (porterref03_step_t4 N) porterref03_step_L porterref03_step_body TabOk.nil [0, 0, 1, 0, 1, 1, 1, 1, 1, 1] _ rfl) (fun i v r K => by kernel_rfl)

noncomputable def porterref03_step (N : Nat) (h : (List Int)) (s : (List UInt8)) (at_ : Int) (k : (List Int)) : Option (List Int) :=
  porterref03_step_p1 N s at_ k h ([(0 : Int), (0 : Int), (0 : Int), (0 : Int), (0 : Int), (0 : Int), (0 : Int), (0 : Int)] : List Int) ([] : List Int) (0 : Int)
  (fun w => porterref03_step_p2 N k h ([(0 : Int), (0 : Int), (0 : Int), (0 : Int), (0 : Int), (0 : Int), (0 : Int), (0 : Int)] : List Int) w (16 : Int)
    (fun w1 => porterref03_step_p3 N k h ([(0 : Int), (0 : Int), (0 : Int), (0 : Int), (0 : Int), (0 : Int), (0 : Int), (0 : Int)] : List Int) w1 h (0 : Int)
      (fun v => porterref03_step_p4 N h ([(0 : Int), (0 : Int), (0 : Int), (0 : Int), (0 : Int), (0 : Int), (0 : Int), (0 : Int)] : List Int) v (0 : Int)
        (fun v1 => some v1))))

noncomputable def porterref03_step_t (N : Nat) : Tab (List Int) := [([0, 1, 0, 1, 1], porterref03_step_h1 N), ([0, 1, 0, 1, 1, 1], porterref03_step_h2 N), ([0, 1, 0, 1, 1, 1, 1, 1], porterref03_step_h3 N), ([0, 1, 0, 1, 1, 1, 1, 1, 1], porterref03_step_h4 N)]

theorem porterref03_step_link (N : Nat) (x : denS [(0, .v (.arr 8 (.int .u32))), (0, .v .str), (0, .v (.int .i64)), (0, .v (.sl (.int .u32)))]) : evFX (porterref03_step_E N) N (porterref03_step_t N) porterref03_step_L Go.Proofs.Tryd.f50 (mkS [(0, .v (.arr 8 (.int .u32))), (0, .v .str), (0, .v (.int .i64)), (0, .v (.sl (.int .u32)))] 0 x) (kRes (.v (.arr 8 (.int .u32))) 4) = porterref03_step N x.1 x.2.1 x.2.2.1 x.2.2.2.1 := by kernel_rfl

noncomputable def porterref03_step_res (N : Nat) : List A → Res := resOf [(0, .v (.arr 8 (.int .u32))), (0, .v .str), (0, .v (.int .i64)), (0, .v (.sl (.int .u32)))] (fun x => porterref03_step N x.1 x.2.1 x.2.2.1 x.2.2.2.1) (oRes (.v (.arr 8 (.int .u32))) 4)

theorem porterref03_step_ct (N : Nat) : Contract Go.Proofs.Tryd.prog glob 50 (porterref03_step_res N) :=
  Contract.of (E := porterref03_step_E N) (H := porterref03_step_t N) (L := porterref03_step_L) (N := N) (body := porterref03_step_body) (K := (kRes (.v (.arr 8 (.int .u32))) 4)) (porterref03_step_Eok N) Go.Proofs.Tryd.func50 (by kernel_rfl) (by decide) (fun _ hb => (TabOk.cons (porterref03_step_ok1 hb) (TabOk.cons (porterref03_step_ok2 hb) (TabOk.cons (porterref03_step_ok3 hb) (TabOk.cons (porterref03_step_ok4 hb) TabOk.nil))))) (fun x y h => by rw [porterref03_step_link]; exact h) (kRes_ok (s := (.v (.arr 8 (.int .u32)))) (m := 4))

abbrev porterref03_Tell_R : Type := (List UInt8)

noncomputable def porterref03_Tell_body : Code := (Go.Proofs.Tryd.f21.body).getD .skip

noncomputable def porterref03_Tell_L : List (List Nat × List Nat) := [([0], [1]), ([0, 1], [3, 1]), ([0, 0, 1, 1], [4, 3, 1]), ([0, 1, 0, 1, 1], [4, 3, 1]), ([0, 0, 0, 0, 1, 0, 1, 1], [6, 3, 4, 1]), ([1, 0, 0, 0, 1, 0, 1, 1], [3, 4, 1]), ([1, 1, 0, 0, 0, 1, 0, 1, 1], [3]), ([0, 0, 1, 0, 0, 1, 0, 1, 1], [4, 3, 1]), ([0, 1, 0, 0, 1, 0, 1, 1], [4, 3, 1]), ([1, 1, 0, 0, 1, 0, 1, 1], [4, 3, 1]), ([1, 0, 1, 1], [3]), ([0, 1, 1, 1], [2]), ([1, 1, 1, 1], [2])]

noncomputable def porterref03_Tell_E (N : Nat) : Env := mkEnv tys glob [] [(3, (.int .u8))] [] [] false [] [(79, hmac_split1_itr N)]

theorem porterref03_Tell_Eok (N : Nat) : EnvOk Go.Proofs.Tryd.prog (porterref03_Tell_E N) := mkEnv_ok mixed tys_ok (FnsOk.nil) (ItsOk.cons (hmac_split1_it N) (ItsOk.nil))

noncomputable def porterref03_Tell_s1 (N : Nat) (h : (List Int)) (b : (List Int)) (i : Int) (rec : (List Int) → Int → Option (List UInt8)) (k0 : (List Int) → Option (List UInt8)) : Option (List UInt8) :=
  cond (decide (i < (8 : Int)))
  (cond (Go.Lift.inR i 8)
    (cond (decide ((Int.toNat i) < (List.length h)))
      (cond (Go.Lift.inR i 8)
        (cond (decide ((Int.toNat i) < (List.length h)))
          (cond (Go.Lift.inR i 8)
            (cond (decide ((Int.toNat i) < (List.length h)))
              (cond (Go.Lift.inR i 8)
                (cond (decide ((Int.toNat i) < (List.length h)))
                  (cond (decide ((((List.length b) + 4) * 1) ≤ 70368744177664))
                    (rec (b ++ ([(Go.IntKind.wrap Go.IntKind.u8 (Go.Lift.shrI Go.IntKind.u32 (List.getD h (Int.toNat i) (0 : Int)) (24 : Int))), (Go.IntKind.wrap Go.IntKind.u8 (Go.Lift.shrI Go.IntKind.u32 (List.getD h (Int.toNat i) (0 : Int)) (16 : Int))), (Go.IntKind.wrap Go.IntKind.u8 (Go.Lift.shrI Go.IntKind.u32 (List.getD h (Int.toNat i) (0 : Int)) (8 : Int))), (Go.IntKind.wrap Go.IntKind.u8 (List.getD h (Int.toNat i) (0 : Int)))] : List Int)) (Go.IntKind.wrap Go.IntKind.i64 (i + (1 : Int))))
                    (none))
                  (none))
                (none))
              (none))
            (none))
          (none))
        (none))
      (none))
    (none))
  (k0 b)

noncomputable def porterref03_Tell_p1 (N : Nat) (h : (List Int)) (b : (List Int)) (i : Int) (k0 : (List Int) → Option (List UInt8)) : Option (List UInt8) :=
  iter (fun (v : ((List Int) × Int)) r => porterref03_Tell_s1 N h v.1 v.2 (fun b i => (r (b, i))) k0) N (b, i)

noncomputable def porterref03_Tell_g1 (N : Nat) (i : (List Int)) (v : ((List Int) × Int)) (r : ((List Int) × Int) → Option (List UInt8)) (K : Ex → List A → Option (List UInt8)) : Option (List UInt8) :=
  porterref03_Tell_s1 N i v.1 v.2 (fun b i => (r (b, i))) (fun a0 => (K (.exit 0) (mkS [(3, .row (.int .u8))] 29 (a0, ()))))

noncomputable def porterref03_Tell_h1 (N : Nat) : Hd (List UInt8) := fun st K => (unS [(1, .box (.arr 8 (.int .u32))), (1, .row (.int .u8)), (0, .v (.int .i64))] 28 (restr [4, 3, 1] 0 st)).bind fun x => iter (fun v r => porterref03_Tell_g1 N ((fun x => x.1) x) v r K) N ((fun x => (x.2.1, x.2.2.1)) x)

noncomputable def porterref03_Tell_t1 (N : Nat) : Tab (List UInt8) := []

theorem porterref03_Tell_ok1 {N : Nat} {c : Ctx} (hb : Base Go.Proofs.Tryd.prog (porterref03_Tell_E N) c) : CodeOk Go.Proofs.Tryd.prog c (nodeAt porterref03_Tell_body [0, 1, 0, 1, 1]) (porterref03_Tell_h1 N) :=
  loop_ok (s := [(1, .box (.arr 8 (.int .u32))), (1, .row (.int .u8)), (0, .v (.int .i64))]) (m := 28) (porterref03_Tell_g1 N) [4, 3, 1] N (fun x => x.1) (fun x => (x.2.1, x.2.2.1)) (fun i v => (i, v.1, v.2, ())) (fun _ => rfl) (evN_sound hb N (porterref03_Tell_t1 N) porterref03_Tell_L porterref03_Tell_body TabOk.nil [0, 0, 1, 0, 1, 1] _ rfl) (fun i v r K => by kernel_rfl)

noncomputable def porterref03_Tell (N : Nat) (h : (List Int)) : Option (List UInt8) :=
  porterref03_Tell_p1 N h ([] : List Int) (0 : Int)
  (fun b => some (Go.Lift.toStr b))

noncomputable def porterref03_Tell_t (N : Nat) : Tab (List UInt8) := [([0, 1, 0, 1, 1], porterref03_Tell_h1 N)]

theorem porterref03_Tell_link (N : Nat) (x : denS [(0, .v (.arr 8 (.int .u32)))]) : evFX (porterref03_Tell_E N) N (porterref03_Tell_t N) porterref03_Tell_L Go.Proofs.Tryd.f21 (mkS [(0, .v (.arr 8 (.int .u32)))] 0 x) (kRes (.v .str) 1) = porterref03_Tell N x.1 := by kernel_rfl

noncomputable def porterref03_Tell_res (N : Nat) : List A → Res := resOf [(0, .v (.arr 8 (.int .u32)))] (fun x => porterref03_Tell N x.1) (oRes (.v .str) 1)

theorem porterref03_Tell_ct (N : Nat) : Contract Go.Proofs.Tryd.prog glob 21 (porterref03_Tell_res N) :=
  Contract.of (E := porterref03_Tell_E N) (H := porterref03_Tell_t N) (L := porterref03_Tell_L) (N := N) (body := porterref03_Tell_body) (K := (kRes (.v .str) 1)) (porterref03_Tell_Eok N) Go.Proofs.Tryd.func21 (by kernel_rfl) (by decide) (fun _ hb => (TabOk.cons (porterref03_Tell_ok1 hb) TabOk.nil)) (fun x y h => by rw [porterref03_Tell_link]; exact h) (kRes_ok (s := (.v .str)) (m := 1))

abbrev porterref03_Sum_R : Type := (List UInt8)

noncomputable def porterref03_Sum_body : Code := (Go.Proofs.Tryd.f15.body).getD .skip

noncomputable def porterref03_Sum_L : List (List Nat × List Nat) := [([0], [0]), ([0, 1], [3]), ([0, 1, 1], [3, 4]), ([0, 1, 1, 1], [3, 5, 4]), ([0, 0, 1, 1, 1, 1], [6, 3, 5, 4]), ([0, 1, 0, 1, 1, 1, 1], [6, 3, 5, 4]), ([0, 0, 0, 0, 1, 0, 1, 1, 1, 1], [14, 5, 3, 6, 4]), ([1, 0, 0, 0, 1, 0, 1, 1, 1, 1], [5, 3, 6, 4]), ([1, 1, 0, 0, 0, 1, 0, 1, 1, 1, 1], [5]), ([0, 0, 1, 0, 0, 1, 0, 1, 1, 1, 1], [6, 3, 5, 4]), ([0, 1, 0, 0, 1, 0, 1, 1, 1, 1], [6, 3, 5, 4]), ([1, 1, 0, 0, 1, 0, 1, 1, 1, 1], [6, 3, 5, 4]), ([1, 0, 1, 1, 1, 1], [5]), ([0, 1, 1, 1, 1, 1], [2]), ([1, 1, 1, 1, 1, 1], [2])]

noncomputable def porterref03_Sum_E (N : Nat) : Env := mkEnv tys glob [(21, porterref03_Tell_res N), (50, porterref03_step_res N), (23, porterref03_First_res N), (49, porterref03_table_res N), (17, porterref03_Pad_res N)] [(4, (.int .u32))] [] [] false [] [(79, hmac_split1_itr N)]

theorem porterref03_Sum_Eok (N : Nat) : EnvOk Go.Proofs.Tryd.prog (porterref03_Sum_E N) := mkEnv_ok mixed tys_ok (FnsOk.cons (porterref03_Tell_ct N) (FnsOk.cons (porterref03_step_ct N) (FnsOk.cons (porterref03_First_ct N) (FnsOk.cons (porterref03_table_ct N) (FnsOk.cons (porterref03_Pad_ct N) (FnsOk.nil)))))) (ItsOk.cons (hmac_split1_it N) (ItsOk.nil))

noncomputable def porterref03_Sum_s1 (N : Nat) (p : (List UInt8)) (k : (List Int)) (h : (List Int)) (at_ : Int) (rec : (List Int) → Int → Option (List UInt8)) (k0 : (List Int) → Option (List UInt8)) : Option (List UInt8) :=
  cond (decide (at_ < (((List.length p) : Nat) : Int)))
  ((porterref03_step N h p at_ k).bind fun y =>
    rec y (Go.IntKind.wrap Go.IntKind.i64 (at_ + (64 : Int))))
  (k0 h)

noncomputable def porterref03_Sum_p1 (N : Nat) (p : (List UInt8)) (k : (List Int)) (h : (List Int)) (at_ : Int) (k0 : (List Int) → Option (List UInt8)) : Option (List UInt8) :=
  iter (fun (v : ((List Int) × Int)) r => porterref03_Sum_s1 N p k v.1 v.2 (fun h at_ => (r (h, at_))) k0) N (h, at_)

noncomputable def porterref03_Sum_g1 (N : Nat) (i : ((List UInt8) × (List Int))) (v : ((List Int) × Int)) (r : ((List Int) × Int) → Option (List UInt8)) (K : Ex → List A → Option (List UInt8)) : Option (List UInt8) :=
  porterref03_Sum_s1 N i.1 i.2 v.1 v.2 (fun h at_ => (r (h, at_))) (fun a0 => (K (.exit 0) (mkS [(5, .box (.arr 8 (.int .u32)))] 18 (a0, ()))))

noncomputable def porterref03_Sum_h1 (N : Nat) : Hd (List UInt8) := fun st K => (unS [(3, .v .str), (0, .v (.sl (.int .u32))), (0, .box (.arr 8 (.int .u32))), (0, .v (.int .i64))] 17 (restr [6, 3, 5, 4] 0 st)).bind fun x => iter (fun v r => porterref03_Sum_g1 N ((fun x => (x.1, x.2.1)) x) v r K) N ((fun x => (x.2.2.1, x.2.2.2.1)) x)

noncomputable def porterref03_Sum_t1 (N : Nat) : Tab (List UInt8) := []

theorem porterref03_Sum_ok1 {N : Nat} {c : Ctx} (hb : Base Go.Proofs.Tryd.prog (porterref03_Sum_E N) c) : CodeOk Go.Proofs.Tryd.prog c (nodeAt porterref03_Sum_body [0, 1, 0, 1, 1, 1, 1]) (porterref03_Sum_h1 N) :=
  loop_ok (s := [(3, .v .str), (0, .v (.sl (.int .u32))), (0, .box (.arr 8 (.int .u32))), (0, .v (.int .i64))]) (m := 17) (porterref03_Sum_g1 N) [6, 3, 5, 4] N (fun x => (x.1, x.2.1)) (fun x => (x.2.2.1, x.2.2.2.1)) (fun i v => (i.1, i.2, v.1, v.2, ())) (fun _ => rfl) (evN_sound hb N (porterref03_Sum_t1 N) porterref03_Sum_L porterref03_Sum_body TabOk.nil [0, 0, 1, 0, 1, 1, 1, 1] _ rfl) (fun i v r K => by kernel_rfl)

noncomputable def porterref03_Sum (N : Nat) (s : (List UInt8)) : Option (List UInt8) :=
  (porterref03_Pad N s).bind fun y =>
  porterref03_Sum_p1 N y (List.set (List.set (List.set (List.set (List.set (List.set (List.set (List.set (List.set (List.set (List.set (List.set (List.set (List.set (List.set (List.set (List.set (List.set (List.set (List.set (List.set (List.set (List.set (List.set (List.set (List.set (List.set (List.set (List.set (List.set (List.set (List.set (List.set (List.set (List.set (List.set (List.set (List.set (List.set (List.set (List.set (List.set (List.set (List.set (List.set (List.set (List.set (List.set (List.set (List.set (List.set (List.set (List.set (List.set (List.set (List.set (List.set (List.set (List.set (List.set (List.set (List.set (List.set (List.set (List.replicate 64 (0 : Int)) 0 (1116352408 : Int)) 1 (1899447441 : Int)) 2 (3049323471 : Int)) 3 (3921009573 : Int)) 4 (961987163 : Int)) 5 (1508970993 : Int)) 6 (2453635748 : Int)) 7 (2870763221 : Int)) 8 (3624381080 : Int)) 9 (310598401 : Int)) 10 (607225278 : Int)) 11 (1426881987 : Int)) 12 (1925078388 : Int)) 13 (2162078206 : Int)) 14 (2614888103 : Int)) 15 (3248222580 : Int)) 16 (3835390401 : Int)) 17 (4022224774 : Int)) 18 (264347078 : Int)) 19 (604807628 : Int)) 20 (770255983 : Int)) 21 (1249150122 : Int)) 22 (1555081692 : Int)) 23 (1996064986 : Int)) 24 (2554220882 : Int)) 25 (2821834349 : Int)) 26 (2952996808 : Int)) 27 (3210313671 : Int)) 28 (3336571891 : Int)) 29 (3584528711 : Int)) 30 (113926993 : Int)) 31 (338241895 : Int)) 32 (666307205 : Int)) 33 (773529912 : Int)) 34 (1294757372 : Int)) 35 (1396182291 : Int)) 36 (1695183700 : Int)) 37 (1986661051 : Int)) 38 (2177026350 : Int)) 39 (2456956037 : Int)) 40 (2730485921 : Int)) 41 (2820302411 : Int)) 42 (3259730800 : Int)) 43 (3345764771 : Int)) 44 (3516065817 : Int)) 45 (3600352804 : Int)) 46 (4094571909 : Int)) 47 (275423344 : Int)) 48 (430227734 : Int)) 49 (506948616 : Int)) 50 (659060556 : Int)) 51 (883997877 : Int)) 52 (958139571 : Int)) 53 (1322822218 : Int)) 54 (1537002063 : Int)) 55 (1747873779 : Int)) 56 (1955562222 : Int)) 57 (2024104815 : Int)) 58 (2227730452 : Int)) 59 (2361852424 : Int)) 60 (2428436474 : Int)) 61 (2756734187 : Int)) 62 (3204031479 : Int)) 63 (3329325298 : Int)) ([(1779033703 : Int), (3144134277 : Int), (1013904242 : Int), (2773480762 : Int), (1359893119 : Int), (2600822924 : Int), (528734635 : Int), (1541459225 : Int)] : List Int) (0 : Int)
  (fun h => (porterref03_Tell N h).bind fun y1 =>
    some y1)

noncomputable def porterref03_Sum_t (N : Nat) : Tab (List UInt8) := [([0, 1, 0, 1, 1, 1, 1], porterref03_Sum_h1 N)]

theorem porterref03_Sum_link (N : Nat) (x : denS [(0, .v .str)]) : evFX (porterref03_Sum_E N) N (porterref03_Sum_t N) porterref03_Sum_L Go.Proofs.Tryd.f15 (mkS [(0, .v .str)] 0 x) (kRes (.v .str) 1) = porterref03_Sum N x.1 := by kernel_rfl

noncomputable def porterref03_Sum_res (N : Nat) : List A → Res := resOf [(0, .v .str)] (fun x => porterref03_Sum N x.1) (oRes (.v .str) 1)

theorem porterref03_Sum_ct (N : Nat) : Contract Go.Proofs.Tryd.prog glob 15 (porterref03_Sum_res N) :=
  Contract.of (E := porterref03_Sum_E N) (H := porterref03_Sum_t N) (L := porterref03_Sum_L) (N := N) (body := porterref03_Sum_body) (K := (kRes (.v .str) 1)) (porterref03_Sum_Eok N) Go.Proofs.Tryd.func15 (by kernel_rfl) (by decide) (fun _ hb => (TabOk.cons (porterref03_Sum_ok1 hb) TabOk.nil)) (fun x y h => by rw [porterref03_Sum_link]; exact h) (kRes_ok (s := (.v .str)) (m := 1))

abbrev porterref02_Pad_R : Type := (List UInt8)

noncomputable def porterref02_Pad_body : Code := (Go.Proofs.Tryd.f82.body).getD .skip

noncomputable def porterref02_Pad_L : List (List Nat × List Nat) := [([0], [1, 0]), ([0, 0, 1], [7, 0, 1]), ([1, 0, 1], [0, 1]), ([0, 1, 0, 1], [0, 1]), ([0, 0, 1, 1], [11, 0, 1]), ([1, 0, 1, 1], [1, 0]), ([0, 0, 1, 0, 1, 1], [4]), ([1, 0, 1, 0, 1, 1], [4]), ([0, 1, 1, 1], [0, 5]), ([0, 1, 1, 1, 1], [4]), ([1, 1, 1, 1, 1], [4])]

noncomputable def porterref02_Pad_E (N : Nat) : Env := mkEnv tys glob [] [] [] [] false [] [(79, hmac_split1_itr N)]

theorem porterref02_Pad_Eok (N : Nat) : EnvOk Go.Proofs.Tryd.prog (porterref02_Pad_E N) := mkEnv_ok mixed tys_ok (FnsOk.nil) (ItsOk.cons (hmac_split1_it N) (ItsOk.nil))

noncomputable def porterref02_Pad_p1 (N : Nat) (s : (List UInt8)) (n : Int) (k0 : Int → Option (List UInt8)) : Option (List UInt8) :=
  cond (decide ((65536 : Int) < n))
  (k0 (65536 : Int))
  (k0 n)

noncomputable def porterref02_Pad_g1 (N : Nat) (x : denS [(0, .v .str), (0, .v (.int .i64))]) (K : Ex → List A → Option (List UInt8)) : Option (List UInt8) :=
  porterref02_Pad_p1 N x.1 x.2.1 (fun a1 => (K .normal (mkS [(0, .v .str), (0, .v (.int .i64))] 20 (x.1, a1, ()))))

noncomputable def porterref02_Pad_h1 (N : Nat) : Hd (List UInt8) := fun st K => (unS [(0, .v .str), (0, .v (.int .i64))] 20 (restr [1, 0] 0 st)).bind fun x => porterref02_Pad_g1 N x K

noncomputable def porterref02_Pad_t1 (N : Nat) : Tab (List UInt8) := []

theorem porterref02_Pad_ok1 {N : Nat} {c : Ctx} (hb : Base Go.Proofs.Tryd.prog (porterref02_Pad_E N) c) : CodeOk Go.Proofs.Tryd.prog c (nodeAt porterref02_Pad_body [0, 1]) (porterref02_Pad_h1 N) :=
  piece_ok (s := [(0, .v .str), (0, .v (.int .i64))]) (m := 20) (g := porterref02_Pad_g1 N) [1, 0] (evN_sound hb N (porterref02_Pad_t1 N) porterref02_Pad_L porterref02_Pad_body TabOk.nil [0, 1] _ rfl) (fun x K => by kernel_rfl)

noncomputable def porterref02_Pad (N : Nat) (s : (List UInt8)) (n : Int) : Option (List UInt8) :=
  porterref02_Pad_p1 N s n
  (fun n1 => cond (decide (n1 ≤ (((List.length s) : Nat) : Int)))
    (some s)
    (cond (decide (((0 : Int) ≤ (Go.IntKind.wrap Go.IntKind.i64 (n1 - (((List.length s) : Nat) : Int)))) ∧ (((Go.IntKind.wrap Go.IntKind.i64 (n1 - (((List.length s) : Nat) : Int))) ≤ (Go.IntKind.wrap Go.IntKind.i64 (n1 - (((List.length s) : Nat) : Int)))) ∧ ((((Go.IntKind.wrap Go.IntKind.i64 (n1 - (((List.length s) : Nat) : Int))) * (1 : Int)) ≤ (281474976710656 : Int)) ∧ ((Go.IntKind.wrap Go.IntKind.i64 (n1 - (((List.length s) : Nat) : Int))) ≤ (9223372036854775807 : Int))))))
      (cond (decide (((List.length s) + (List.length (Go.Lift.toStr (List.replicate (Int.toNat (Go.IntKind.wrap Go.IntKind.i64 (n1 - (((List.length s) : Nat) : Int)))) (0 : Int))))) ≤ 9223372036854775807))
        (some (s ++ (Go.Lift.toStr (List.replicate (Int.toNat (Go.IntKind.wrap Go.IntKind.i64 (n1 - (((List.length s) : Nat) : Int)))) (0 : Int)))))
        (none))
      (none)))

noncomputable def porterref02_Pad_t (N : Nat) : Tab (List UInt8) := [([0, 1], porterref02_Pad_h1 N)]

theorem porterref02_Pad_link (N : Nat) (x : denS [(0, .v .str), (0, .v (.int .i64))]) : evFX (porterref02_Pad_E N) N (porterref02_Pad_t N) porterref02_Pad_L Go.Proofs.Tryd.f82 (mkS [(0, .v .str), (0, .v (.int .i64))] 0 x) (kRes (.v .str) 2) = porterref02_Pad N x.1 x.2.1 := by kernel_rfl

noncomputable def porterref02_Pad_res (N : Nat) : List A → Res := resOf [(0, .v .str), (0, .v (.int .i64))] (fun x => porterref02_Pad N x.1 x.2.1) (oRes (.v .str) 2)

theorem porterref02_Pad_ct (N : Nat) : Contract Go.Proofs.Tryd.prog glob 82 (porterref02_Pad_res N) :=
  Contract.of (E := porterref02_Pad_E N) (H := porterref02_Pad_t N) (L := porterref02_Pad_L) (N := N) (body := porterref02_Pad_body) (K := (kRes (.v .str) 2)) (porterref02_Pad_Eok N) Go.Proofs.Tryd.func82 (by kernel_rfl) (by decide) (fun _ hb => (TabOk.cons (porterref02_Pad_ok1 hb) TabOk.nil)) (fun x y h => by rw [porterref02_Pad_link]; exact h) (kRes_ok (s := (.v .str)) (m := 2))

abbrev porterref04_key_R : Type := (List UInt8)

noncomputable def porterref04_key_body : Code := (Go.Proofs.Tryd.f66.body).getD .skip

noncomputable def porterref04_key_L : List (List Nat × List Nat) := [([0], [0]), ([0, 0, 1], [5, 0]), ([1, 0, 1], [0]), ([0, 1, 0, 1], [0]), ([0, 1, 1], [2]), ([1, 1, 1], [2])]

noncomputable def porterref04_key_E (N : Nat) : Env := mkEnv tys glob [(82, porterref02_Pad_res N), (15, porterref03_Sum_res N)] [] [] [] false [] [(79, hmac_split1_itr N)]

theorem porterref04_key_Eok (N : Nat) : EnvOk Go.Proofs.Tryd.prog (porterref04_key_E N) := mkEnv_ok mixed tys_ok (FnsOk.cons (porterref02_Pad_ct N) (FnsOk.cons (porterref03_Sum_ct N) (FnsOk.nil))) (ItsOk.cons (hmac_split1_it N) (ItsOk.nil))

noncomputable def porterref04_key_p1 (N : Nat) (k : (List UInt8)) (k0 : (List UInt8) → Option (List UInt8)) : Option (List UInt8) :=
  cond (decide ((64 : Int) < (((List.length k) : Nat) : Int)))
  ((porterref03_Sum N k).bind fun y =>
    k0 y)
  (k0 k)

noncomputable def porterref04_key_g1 (N : Nat) (x : denS [(0, .v .str)]) (K : Ex → List A → Option (List UInt8)) : Option (List UInt8) :=
  porterref04_key_p1 N x.1 (fun a0 => (K .normal (mkS [(0, .v .str)] 9 (a0, ()))))

noncomputable def porterref04_key_h1 (N : Nat) : Hd (List UInt8) := fun st K => (unS [(0, .v .str)] 9 (restr [0] 0 st)).bind fun x => porterref04_key_g1 N x K

noncomputable def porterref04_key_t1 (N : Nat) : Tab (List UInt8) := []

theorem porterref04_key_ok1 {N : Nat} {c : Ctx} (hb : Base Go.Proofs.Tryd.prog (porterref04_key_E N) c) : CodeOk Go.Proofs.Tryd.prog c (nodeAt porterref04_key_body [0, 1]) (porterref04_key_h1 N) :=
  piece_ok (s := [(0, .v .str)]) (m := 9) (g := porterref04_key_g1 N) [0] (evN_sound hb N (porterref04_key_t1 N) porterref04_key_L porterref04_key_body TabOk.nil [0, 1] _ rfl) (fun x K => by kernel_rfl)

noncomputable def porterref04_key (N : Nat) (k : (List UInt8)) : Option (List UInt8) :=
  porterref04_key_p1 N k
  (fun k1 => (porterref02_Pad N k1 (64 : Int)).bind fun y =>
    some y)

noncomputable def porterref04_key_t (N : Nat) : Tab (List UInt8) := [([0, 1], porterref04_key_h1 N)]

theorem porterref04_key_link (N : Nat) (x : denS [(0, .v .str)]) : evFX (porterref04_key_E N) N (porterref04_key_t N) porterref04_key_L Go.Proofs.Tryd.f66 (mkS [(0, .v .str)] 0 x) (kRes (.v .str) 1) = porterref04_key N x.1 := by kernel_rfl

noncomputable def porterref04_key_res (N : Nat) : List A → Res := resOf [(0, .v .str)] (fun x => porterref04_key N x.1) (oRes (.v .str) 1)

theorem porterref04_key_ct (N : Nat) : Contract Go.Proofs.Tryd.prog glob 66 (porterref04_key_res N) :=
  Contract.of (E := porterref04_key_E N) (H := porterref04_key_t N) (L := porterref04_key_L) (N := N) (body := porterref04_key_body) (K := (kRes (.v .str) 1)) (porterref04_key_Eok N) Go.Proofs.Tryd.func66 (by kernel_rfl) (by decide) (fun _ hb => (TabOk.cons (porterref04_key_ok1 hb) TabOk.nil)) (fun x y h => by rw [porterref04_key_link]; exact h) (kRes_ok (s := (.v .str)) (m := 1))

abbrev porterref02_Byte_R : Type := (List UInt8)

noncomputable def porterref02_Byte_body : Code := (Go.Proofs.Tryd.f81.body).getD .skip

noncomputable def porterref02_Byte_L : List (List Nat × List Nat) := [([0], [0]), ([0, 1], [3]), ([0, 1, 1], [2]), ([1, 1, 1], [2])]

noncomputable def porterref02_Byte_E (N : Nat) : Env := mkEnv tys glob [] [] [] [] false [] [(79, hmac_split1_itr N)]

theorem porterref02_Byte_Eok (N : Nat) : EnvOk Go.Proofs.Tryd.prog (porterref02_Byte_E N) := mkEnv_ok mixed tys_ok (FnsOk.nil) (ItsOk.cons (hmac_split1_it N) (ItsOk.nil))

noncomputable def porterref02_Byte (N : Nat) (n : Int) : Option (List UInt8) :=
  some (Go.Lift.toStr ([(Go.IntKind.wrap Go.IntKind.u8 n)] : List Int))

noncomputable def porterref02_Byte_t (N : Nat) : Tab (List UInt8) := []

theorem porterref02_Byte_link (N : Nat) (x : denS [(0, .v (.int .i64))]) : evFX (porterref02_Byte_E N) N (porterref02_Byte_t N) porterref02_Byte_L Go.Proofs.Tryd.f81 (mkS [(0, .v (.int .i64))] 0 x) (kRes (.v .str) 1) = porterref02_Byte N x.1 := by kernel_rfl

noncomputable def porterref02_Byte_res (N : Nat) : List A → Res := resOf [(0, .v (.int .i64))] (fun x => porterref02_Byte N x.1) (oRes (.v .str) 1)

theorem porterref02_Byte_ct (N : Nat) : Contract Go.Proofs.Tryd.prog glob 81 (porterref02_Byte_res N) :=
  Contract.of (E := porterref02_Byte_E N) (H := porterref02_Byte_t N) (L := porterref02_Byte_L) (N := N) (body := porterref02_Byte_body) (K := (kRes (.v .str) 1)) (porterref02_Byte_Eok N) Go.Proofs.Tryd.func81 (by kernel_rfl) (by decide) (fun _ hb => TabOk.nil) (fun x y h => by rw [porterref02_Byte_link]; exact h) (kRes_ok (s := (.v .str)) (m := 1))

abbrev porterref02_Xor_R : Type := (List UInt8)

noncomputable def porterref02_Xor_body : Code := (Go.Proofs.Tryd.f71.body).getD .skip

noncomputable def porterref02_Xor_L : List (List Nat × List Nat) := [([0], [0, 1]), ([0, 1], [0, 1, 5]), ([0, 0, 1, 1], [6, 0, 1, 5]), ([0, 1, 0, 1, 1], [6, 0, 1, 5]), ([0, 0, 0, 0, 1, 0, 1, 1], [21, 0, 6, 1, 5]), ([1, 0, 0, 0, 1, 0, 1, 1], [0, 6, 1, 5]), ([1, 1, 0, 0, 0, 1, 0, 1, 1], [5]), ([0, 0, 0, 1, 0, 0, 1, 0, 1, 1], [7, 8, 9, 10, 5, 6, 0, 1]), ([0, 0, 1, 0, 0, 1, 0, 0, 1, 0, 1, 1], [11, 7, 8, 9, 10, 5, 6, 0, 1]), ([0, 1, 0, 1, 0, 0, 1, 0, 0, 1, 0, 1, 1], [11, 7, 8, 9, 10, 5, 6, 0, 1]), ([0, 0, 0, 0, 1, 0, 1, 0, 0, 1, 0, 0, 1, 0, 1, 1], [33, 7, 8, 9, 10, 11, 5, 6, 0, 1]), ([1, 0, 0, 0, 1, 0, 1, 0, 0, 1, 0, 0, 1, 0, 1, 1], [7, 8, 9, 10, 11, 5, 6, 0, 1]), ([1, 1, 0, 0, 0, 1, 0, 1, 0, 0, 1, 0, 0, 1, 0, 1, 1], [5, 9, 6, 0, 1]), ([0, 0, 0, 0, 1, 0, 0, 1, 0, 1, 0, 0, 1, 0, 0, 1, 0, 1, 1], [40, 9, 10, 7, 8, 11, 5, 6, 0, 1]), ([1, 0, 0, 0, 1, 0, 0, 1, 0, 1, 0, 0, 1, 0, 0, 1, 0, 1, 1], [7, 8, 10, 11, 9, 5, 6, 0, 1]), ([0, 1, 0, 0, 0, 1, 0, 0, 1, 0, 1, 0, 0, 1, 0, 0, 1, 0, 1, 1], [7, 8, 10, 11, 9, 5, 6, 0, 1]), ([0, 1, 0, 0, 1, 0, 0, 1, 0, 1, 0, 0, 1, 0, 0, 1, 0, 1, 1], [8, 10, 11, 7, 9, 5, 6, 0, 1]), ([0, 1, 1, 0, 0, 1, 0, 0, 1, 0, 1, 0, 0, 1, 0, 0, 1, 0, 1, 1], [10, 11, 7, 8, 9, 5, 6, 0, 1]), ([1, 1, 1, 0, 0, 1, 0, 0, 1, 0, 1, 0, 0, 1, 0, 0, 1, 0, 1, 1], [11, 7, 8, 9, 10, 5, 6, 0, 1]), ([0, 1, 0, 0, 1, 0, 1, 0, 0, 1, 0, 0, 1, 0, 1, 1], [11, 7, 8, 9, 10, 5, 6, 0, 1]), ([1, 1, 0, 0, 1, 0, 1, 0, 0, 1, 0, 0, 1, 0, 1, 1], [11, 7, 8, 9, 10, 5, 6, 0, 1]), ([1, 0, 1, 0, 0, 1, 0, 0, 1, 0, 1, 1], [5, 9, 6, 0, 1]), ([1, 1, 0, 0, 1, 0, 0, 1, 0, 1, 1], [6, 0, 1, 5]), ([0, 1, 0, 0, 1, 0, 1, 1], [6, 0, 1, 5]), ([1, 1, 0, 0, 1, 0, 1, 1], [6, 0, 1, 5]), ([1, 0, 1, 1], [5]), ([0, 1, 1, 1], [4]), ([1, 1, 1, 1], [4])]

noncomputable def porterref02_Xor_E (N : Nat) : Env := mkEnv tys glob [(81, porterref02_Byte_res N)] [] [] [] false [] [(79, hmac_split1_itr N)]

theorem porterref02_Xor_Eok (N : Nat) : EnvOk Go.Proofs.Tryd.prog (porterref02_Xor_E N) := mkEnv_ok mixed tys_ok (FnsOk.cons (porterref02_Byte_ct N) (FnsOk.nil)) (ItsOk.cons (hmac_split1_it N) (ItsOk.nil))

noncomputable def porterref02_Xor_p2 (N : Nat) (a : (List UInt8)) (b : (List UInt8)) (out : (List UInt8)) (i : Int) (k0 : Option (List UInt8)) (k1 : Option (List UInt8)) : Option (List UInt8) :=
  cond (decide (i < (((List.length a) : Nat) : Int)))
  (cond (decide (i < (((List.length b) : Nat) : Int)))
    (k0)
    (k1))
  (k1)

noncomputable def porterref02_Xor_g2 (N : Nat) (x : denS [(0, .v .str), (0, .v .str), (3, .v .str), (0, .v (.int .i64))]) (K : Ex → List A → Option (List UInt8)) : Option (List UInt8) :=
  porterref02_Xor_p2 N x.1 x.2.1 x.2.2.1 x.2.2.2.1 (K .normal (mkS [(0, .v .str), (0, .v .str), (3, .v .str), (0, .v (.int .i64))] 48 (x.1, x.2.1, x.2.2.1, x.2.2.2.1, ()))) (K (.exit 0) (mkS [(5, .v .str)] 49 (x.2.2.1, ())))

noncomputable def porterref02_Xor_h2 (N : Nat) : Hd (List UInt8) := fun st K => (unS [(0, .v .str), (0, .v .str), (3, .v .str), (0, .v (.int .i64))] 48 (restr [6, 0, 1, 5] 0 st)).bind fun x => porterref02_Xor_g2 N x K

noncomputable def porterref02_Xor_t2 (N : Nat) : Tab (List UInt8) := []

theorem porterref02_Xor_ok2 {N : Nat} {c : Ctx} (hb : Base Go.Proofs.Tryd.prog (porterref02_Xor_E N) c) : CodeOk Go.Proofs.Tryd.prog c (nodeAt porterref02_Xor_body [0, 0, 0, 1, 0, 1, 1]) (porterref02_Xor_h2 N) :=
  piece_ok (s := [(0, .v .str), (0, .v .str), (3, .v .str), (0, .v (.int .i64))]) (m := 48) (g := porterref02_Xor_g2 N) [6, 0, 1, 5] (evN_sound hb N (porterref02_Xor_t2 N) porterref02_Xor_L porterref02_Xor_body TabOk.nil [0, 0, 0, 1, 0, 1, 1] _ rfl) (fun x K => by kernel_rfl)

noncomputable def porterref02_Xor_p5 (N : Nat) (a : (List UInt8)) (b : (List UInt8)) (out : (List UInt8)) (i : Int) (x7 : Int) (y : Int) (n : Int) (bit : Int) (k : Int) (k0 : Int → Option (List UInt8)) : Option (List UInt8) :=
  cond ((Int.tmod x7 (2 : Int)) != (Int.tmod y (2 : Int)))
  (k0 (Go.IntKind.wrap Go.IntKind.i64 (n + bit)))
  (k0 n)

noncomputable def porterref02_Xor_g5 (N : Nat) (x : denS [(0, .v .str), (0, .v .str), (3, .v .str), (0, .v (.int .i64)), (0, .v (.int .i64)), (0, .v (.int .i64)), (0, .v (.int .i64)), (0, .v (.int .i64)), (0, .v (.int .i64))]) (K : Ex → List A → Option (List UInt8)) : Option (List UInt8) :=
  porterref02_Xor_p5 N x.1 x.2.1 x.2.2.1 x.2.2.2.1 x.2.2.2.2.1 x.2.2.2.2.2.1 x.2.2.2.2.2.2.1 x.2.2.2.2.2.2.2.1 x.2.2.2.2.2.2.2.2.1 (fun a6 => (K .normal (mkS [(0, .v .str), (0, .v .str), (3, .v .str), (0, .v (.int .i64)), (0, .v (.int .i64)), (0, .v (.int .i64)), (0, .v (.int .i64)), (0, .v (.int .i64)), (0, .v (.int .i64))] 43 (x.1, x.2.1, x.2.2.1, x.2.2.2.1, x.2.2.2.2.1, x.2.2.2.2.2.1, a6, x.2.2.2.2.2.2.2.1, x.2.2.2.2.2.2.2.2.1, ()))))

noncomputable def porterref02_Xor_h5 (N : Nat) : Hd (List UInt8) := fun st K => (unS [(0, .v .str), (0, .v .str), (3, .v .str), (0, .v (.int .i64)), (0, .v (.int .i64)), (0, .v (.int .i64)), (0, .v (.int .i64)), (0, .v (.int .i64)), (0, .v (.int .i64))] 43 (restr [7, 8, 9, 10, 11, 5, 6, 0, 1] 0 st)).bind fun x => porterref02_Xor_g5 N x K

noncomputable def porterref02_Xor_t5 (N : Nat) : Tab (List UInt8) := []

theorem porterref02_Xor_ok5 {N : Nat} {c : Ctx} (hb : Base Go.Proofs.Tryd.prog (porterref02_Xor_E N) c) : CodeOk Go.Proofs.Tryd.prog c (nodeAt porterref02_Xor_body [0, 0, 0, 1, 0, 0, 1, 0, 1, 0, 0, 1, 0, 0, 1, 0, 1, 1]) (porterref02_Xor_h5 N) :=
  piece_ok (s := [(0, .v .str), (0, .v .str), (3, .v .str), (0, .v (.int .i64)), (0, .v (.int .i64)), (0, .v (.int .i64)), (0, .v (.int .i64)), (0, .v (.int .i64)), (0, .v (.int .i64))]) (m := 43) (g := porterref02_Xor_g5 N) [7, 8, 9, 10, 11, 5, 6, 0, 1] (evN_sound hb N (porterref02_Xor_t5 N) porterref02_Xor_L porterref02_Xor_body TabOk.nil [0, 0, 0, 1, 0, 0, 1, 0, 1, 0, 0, 1, 0, 0, 1, 0, 1, 1] _ rfl) (fun x K => by kernel_rfl)

noncomputable def porterref02_Xor_p4 (N : Nat) (a : (List UInt8)) (b : (List UInt8)) (out : (List UInt8)) (i : Int) (x7 : Int) (y : Int) (n : Int) (bit : Int) (k : Int) (k0 : Int → Int → Int → Int → Option (List UInt8)) : Option (List UInt8) :=
  porterref02_Xor_p5 N a b out i x7 y n bit k
  (fun n1 => k0 (Go.IntKind.wrap Go.IntKind.i64 (Int.tdiv x7 (2 : Int))) (Go.IntKind.wrap Go.IntKind.i64 (Int.tdiv y (2 : Int))) n1 (Go.IntKind.wrap Go.IntKind.i64 (bit * (2 : Int))))

noncomputable def porterref02_Xor_g4 (N : Nat) (x : denS [(0, .v .str), (0, .v .str), (3, .v .str), (0, .v (.int .i64)), (0, .v (.int .i64)), (0, .v (.int .i64)), (0, .v (.int .i64)), (0, .v (.int .i64)), (0, .v (.int .i64))]) (K : Ex → List A → Option (List UInt8)) : Option (List UInt8) :=
  porterref02_Xor_p4 N x.1 x.2.1 x.2.2.1 x.2.2.2.1 x.2.2.2.2.1 x.2.2.2.2.2.1 x.2.2.2.2.2.2.1 x.2.2.2.2.2.2.2.1 x.2.2.2.2.2.2.2.2.1 (fun a4 a5 a6 a7 => (K .normal (mkS [(0, .v .str), (0, .v .str), (3, .v .str), (0, .v (.int .i64)), (0, .v (.int .i64)), (0, .v (.int .i64)), (0, .v (.int .i64)), (0, .v (.int .i64)), (0, .v (.int .i64))] 43 (x.1, x.2.1, x.2.2.1, x.2.2.2.1, a4, a5, a6, a7, x.2.2.2.2.2.2.2.2.1, ()))))

noncomputable def porterref02_Xor_h4 (N : Nat) : Hd (List UInt8) := fun st K => (unS [(0, .v .str), (0, .v .str), (3, .v .str), (0, .v (.int .i64)), (0, .v (.int .i64)), (0, .v (.int .i64)), (0, .v (.int .i64)), (0, .v (.int .i64)), (0, .v (.int .i64))] 43 (restr [7, 8, 9, 10, 11, 5, 6, 0, 1] 0 st)).bind fun x => porterref02_Xor_g4 N x K

noncomputable def porterref02_Xor_t4 (N : Nat) : Tab (List UInt8) := [([0, 0, 0, 1, 0, 0, 1, 0, 1, 0, 0, 1, 0, 0, 1, 0, 1, 1], porterref02_Xor_h5 N)]

theorem porterref02_Xor_ok4 {N : Nat} {c : Ctx} (hb : Base Go.Proofs.Tryd.prog (porterref02_Xor_E N) c) : CodeOk Go.Proofs.Tryd.prog c (nodeAt porterref02_Xor_body [0, 1, 0, 0, 1, 0, 1, 0, 0, 1, 0, 0, 1, 0, 1, 1]) (porterref02_Xor_h4 N) :=
  piece_ok (s := [(0, .v .str), (0, .v .str), (3, .v .str), (0, .v (.int .i64)), (0, .v (.int .i64)), (0, .v (.int .i64)), (0, .v (.int .i64)), (0, .v (.int .i64)), (0, .v (.int .i64))]) (m := 43) (g := porterref02_Xor_g4 N) [7, 8, 9, 10, 11, 5, 6, 0, 1] (evN_sound hb N (porterref02_Xor_t4 N) porterref02_Xor_L porterref02_Xor_body (TabOk.cons (porterref02_Xor_ok5 hb) TabOk.nil) [0, 1, 0, 0, 1, 0, 1, 0, 0, 1, 0, 0, 1, 0, 1, 1] _ rfl) (fun x K => by kernel_rfl)

noncomputable def porterref02_Xor_s3 (N : Nat) (a : (List UInt8)) (b : (List UInt8)) (out : (List UInt8)) (i : Int) (x7 : Int) (y : Int) (n : Int) (bit : Int) (k : Int) (rec : Int → Int → Int → Int → Int → Option (List UInt8)) (k0 : Int → Option (List UInt8)) : Option (List UInt8) :=
  cond (decide (k < (8 : Int)))
  (porterref02_Xor_p4 N a b out i x7 y n bit k
    (fun x71 y1 n1 bit1 => rec x71 y1 n1 bit1 (Go.IntKind.wrap Go.IntKind.i64 (k + (1 : Int)))))
  (k0 n)

noncomputable def porterref02_Xor_p3 (N : Nat) (a : (List UInt8)) (b : (List UInt8)) (out : (List UInt8)) (i : Int) (x7 : Int) (y : Int) (n : Int) (bit : Int) (k : Int) (k0 : Int → Option (List UInt8)) : Option (List UInt8) :=
  iter (fun (v : (Int × Int × Int × Int × Int)) r => porterref02_Xor_s3 N a b out i v.1 v.2.1 v.2.2.1 v.2.2.2.1 v.2.2.2.2 (fun x7 y n bit k => (r (x7, y, n, bit, k))) k0) N (x7, y, n, bit, k)

noncomputable def porterref02_Xor_g3 (N : Nat) (i : ((List UInt8) × (List UInt8) × (List UInt8) × Int)) (v : (Int × Int × Int × Int × Int)) (r : (Int × Int × Int × Int × Int) → Option (List UInt8)) (K : Ex → List A → Option (List UInt8)) : Option (List UInt8) :=
  porterref02_Xor_s3 N i.1 i.2.1 i.2.2.1 i.2.2.2 v.1 v.2.1 v.2.2.1 v.2.2.2.1 v.2.2.2.2 (fun x7 y n bit k => (r (x7, y, n, bit, k))) (fun a4 => (K (.exit 2) (mkS [(0, .v .str), (0, .v .str), (3, .v .str), (0, .v (.int .i64)), (2, .v (.int .i64))] 45 (i.1, i.2.1, i.2.2.1, i.2.2.2, a4, ()))))

noncomputable def porterref02_Xor_h3 (N : Nat) : Hd (List UInt8) := fun st K => (unS [(0, .v .str), (0, .v .str), (3, .v .str), (0, .v (.int .i64)), (0, .v (.int .i64)), (0, .v (.int .i64)), (0, .v (.int .i64)), (0, .v (.int .i64)), (0, .v (.int .i64))] 43 (restr [11, 7, 8, 9, 10, 5, 6, 0, 1] 0 st)).bind fun x => iter (fun v r => porterref02_Xor_g3 N ((fun x => (x.1, x.2.1, x.2.2.1, x.2.2.2.1)) x) v r K) N ((fun x => (x.2.2.2.2.1, x.2.2.2.2.2.1, x.2.2.2.2.2.2.1, x.2.2.2.2.2.2.2.1, x.2.2.2.2.2.2.2.2.1)) x)

noncomputable def porterref02_Xor_t3 (N : Nat) : Tab (List UInt8) := [([0, 1, 0, 0, 1, 0, 1, 0, 0, 1, 0, 0, 1, 0, 1, 1], porterref02_Xor_h4 N)]

theorem porterref02_Xor_ok3 {N : Nat} {c : Ctx} (hb : Base Go.Proofs.Tryd.prog (porterref02_Xor_E N) c) : CodeOk Go.Proofs.Tryd.prog c (nodeAt porterref02_Xor_body [0, 1, 0, 1, 0, 0, 1, 0, 0, 1, 0, 1, 1]) (porterref02_Xor_h3 N) :=
  loop_ok (s := [(0, .v .str), (0, .v .str), (3, .v .str), (0, .v (.int .i64)), (0, .v (.int .i64)), (0, .v (.int .i64)), (0, .v (.int .i64)), (0, .v (.int .i64)), (0, .v (.int .i64))]) (m := 43) (porterref02_Xor_g3 N) [11, 7, 8, 9, 10, 5, 6, 0, 1] N (fun x => (x.1, x.2.1, x.2.2.1, x.2.2.2.1)) (fun x => (x.2.2.2.2.1, x.2.2.2.2.2.1, x.2.2.2.2.2.2.1, x.2.2.2.2.2.2.2.1, x.2.2.2.2.2.2.2.2.1)) (fun i v => (i.1, i.2.1, i.2.2.1, i.2.2.2, v.1, v.2.1, v.2.2.1, v.2.2.2.1, v.2.2.2.2, ())) (fun _ => rfl) (evN_sound hb N (porterref02_Xor_t3 N) porterref02_Xor_L porterref02_Xor_body (TabOk.cons (porterref02_Xor_ok4 hb) TabOk.nil) [0, 0, 1, 0, 1, 0, 0, 1, 0, 0, 1, 0, 1, 1] _ rfl) (fun i v r K => by kernel_rfl)

noncomputable def porterref02_Xor_s1 (N : Nat) (a : (List UInt8)) (b : (List UInt8)) (out : (List UInt8)) (i : Int) (rec : (List UInt8) → Int → Option (List UInt8)) (k0 : (List UInt8) → Option (List UInt8)) : Option (List UInt8) :=
  porterref02_Xor_p2 N a b out i
  (cond (Go.Lift.inR i (List.length a))
    (cond (Go.Lift.inR i (List.length b))
      (porterref02_Xor_p3 N a b out i (Go.IntKind.wrap Go.IntKind.i64 (((UInt8.toNat (List.getD a (Int.toNat i) (0 : UInt8))) : Nat) : Int)) (Go.IntKind.wrap Go.IntKind.i64 (((UInt8.toNat (List.getD b (Int.toNat i) (0 : UInt8))) : Nat) : Int)) (0 : Int) (1 : Int) (0 : Int)
        (fun n => cond (decide (((List.length out) + (List.length (Go.Lift.toStr ([(Go.IntKind.wrap Go.IntKind.u8 n)] : List Int)))) ≤ 9223372036854775807))
          (rec (out ++ (Go.Lift.toStr ([(Go.IntKind.wrap Go.IntKind.u8 n)] : List Int))) (Go.IntKind.wrap Go.IntKind.i64 (i + (1 : Int))))
          (none)))
      (none))
    (none))
  (k0 out)

noncomputable def porterref02_Xor_p1 (N : Nat) (a : (List UInt8)) (b : (List UInt8)) (out : (List UInt8)) (i : Int) (k0 : (List UInt8) → Option (List UInt8)) : Option (List UInt8) :=
  iter (fun (v : ((List UInt8) × Int)) r => porterref02_Xor_s1 N a b v.1 v.2 (fun out i => (r (out, i))) k0) N (out, i)

noncomputable def porterref02_Xor_g1 (N : Nat) (i : ((List UInt8) × (List UInt8))) (v : ((List UInt8) × Int)) (r : ((List UInt8) × Int) → Option (List UInt8)) (K : Ex → List A → Option (List UInt8)) : Option (List UInt8) :=
  porterref02_Xor_s1 N i.1 i.2 v.1 v.2 (fun out i => (r (out, i))) (fun a0 => (K (.exit 0) (mkS [(5, .v .str)] 49 (a0, ()))))

noncomputable def porterref02_Xor_h1 (N : Nat) : Hd (List UInt8) := fun st K => (unS [(0, .v .str), (0, .v .str), (3, .v .str), (0, .v (.int .i64))] 48 (restr [6, 0, 1, 5] 0 st)).bind fun x => iter (fun v r => porterref02_Xor_g1 N ((fun x => (x.1, x.2.1)) x) v r K) N ((fun x => (x.2.2.1, x.2.2.2.1)) x)

noncomputable def porterref02_Xor_t1 (N : Nat) : Tab (List UInt8) := [([0, 0, 0, 1, 0, 1, 1], porterref02_Xor_h2 N), ([0, 1, 0, 1, 0, 0, 1, 0, 0, 1, 0, 1, 1], porterref02_Xor_h3 N)]

theorem porterref02_Xor_ok1 {N : Nat} {c : Ctx} (hb : Base Go.Proofs.Tryd.prog (porterref02_Xor_E N) c) : CodeOk Go.Proofs.Tryd.prog c (nodeAt porterref02_Xor_body [0, 1, 0, 1, 1]) (porterref02_Xor_h1 N) :=
  loop_ok (s := [(0, .v .str), (0, .v .str), (3, .v .str), (0, .v (.int .i64))]) (m := 48) (porterref02_Xor_g1 N) [6, 0, 1, 5] N (fun x => (x.1, x.2.1)) (fun x => (x.2.2.1, x.2.2.2.1)) (fun i v => (i.1, i.2, v.1, v.2, ())) (fun _ => rfl) (evN_sound hb N (porterref02_Xor_t1 N) porterref02_Xor_L porterref02_Xor_body (TabOk.cons (porterref02_Xor_ok2 hb) (TabOk.cons (porterref02_Xor_ok3 hb) TabOk.nil)) [0, 0, 1, 0, 1, 1] _ rfl) (fun i v r K => by kernel_rfl)

noncomputable def porterref02_Xor (N : Nat) (a : (List UInt8)) (b : (List UInt8)) : Option (List UInt8) :=
  porterref02_Xor_p1 N a b ([] : List UInt8) (0 : Int)
  (fun out => some out)

noncomputable def porterref02_Xor_t (N : Nat) : Tab (List UInt8) := [([0, 1, 0, 1, 1], porterref02_Xor_h1 N)]

theorem porterref02_Xor_link (N : Nat) (x : denS [(0, .v .str), (0, .v .str)]) : evFX (porterref02_Xor_E N) N (porterref02_Xor_t N) porterref02_Xor_L Go.Proofs.Tryd.f71 (mkS [(0, .v .str), (0, .v .str)] 0 x) (kRes (.v .str) 2) = porterref02_Xor N x.1 x.2.1 := by kernel_rfl

noncomputable def porterref02_Xor_res (N : Nat) : List A → Res := resOf [(0, .v .str), (0, .v .str)] (fun x => porterref02_Xor N x.1 x.2.1) (oRes (.v .str) 2)

theorem porterref02_Xor_ct (N : Nat) : Contract Go.Proofs.Tryd.prog glob 71 (porterref02_Xor_res N) :=
  Contract.of (E := porterref02_Xor_E N) (H := porterref02_Xor_t N) (L := porterref02_Xor_L) (N := N) (body := porterref02_Xor_body) (K := (kRes (.v .str) 2)) (porterref02_Xor_Eok N) Go.Proofs.Tryd.func71 (by kernel_rfl) (by decide) (fun _ hb => (TabOk.cons (porterref02_Xor_ok1 hb) TabOk.nil)) (fun x y h => by rw [porterref02_Xor_link]; exact h) (kRes_ok (s := (.v .str)) (m := 2))

abbrev porterref04_with_R : Type := (List UInt8)

noncomputable def porterref04_with_body : Code := (Go.Proofs.Tryd.f65.body).getD .skip

noncomputable def porterref04_with_L : List (List Nat × List Nat) := [([0], [1, 0]), ([0, 1], [5, 1, 0]), ([0, 0, 1, 1], [5, 1, 0]), ([0, 0, 0, 0, 0, 1, 1], [8, 5, 1, 0]), ([1, 0, 0, 0, 0, 1, 1], [5, 1, 0]), ([1, 1, 0, 0, 0, 0, 1, 1], [0, 5]), ([0, 1, 0, 0, 0, 1, 1], [5, 1, 0]), ([1, 0, 0, 0, 1, 1], [5, 1, 0]), ([0, 1, 1], [0, 5]), ([0, 1, 1, 1], [4]), ([1, 1, 1, 1], [4])]

noncomputable def porterref04_with_E (N : Nat) : Env := mkEnv tys glob [(71, porterref02_Xor_res N), (81, porterref02_Byte_res N)] [] [] [] false [] [(79, hmac_split1_itr N)]

theorem porterref04_with_Eok (N : Nat) : EnvOk Go.Proofs.Tryd.prog (porterref04_with_E N) := mkEnv_ok mixed tys_ok (FnsOk.cons (porterref02_Xor_ct N) (FnsOk.cons (porterref02_Byte_ct N) (FnsOk.nil))) (ItsOk.cons (hmac_split1_it N) (ItsOk.nil))

noncomputable def porterref04_with_s1 (N : Nat) (k : (List UInt8)) (n : Int) (p : (List UInt8)) (rec : (List UInt8) → Option (List UInt8)) (k0 : (List UInt8) → Option (List UInt8)) : Option (List UInt8) :=
  cond (decide ((((List.length p) : Nat) : Int) < (64 : Int)))
  (cond (decide (((List.length p) + (List.length (Go.Lift.toStr ([(Go.IntKind.wrap Go.IntKind.u8 n)] : List Int)))) ≤ 9223372036854775807))
    (rec (p ++ (Go.Lift.toStr ([(Go.IntKind.wrap Go.IntKind.u8 n)] : List Int))))
    (none))
  (k0 p)

noncomputable def porterref04_with_p1 (N : Nat) (k : (List UInt8)) (n : Int) (p : (List UInt8)) (k0 : (List UInt8) → Option (List UInt8)) : Option (List UInt8) :=
  iter (fun (v : (List UInt8)) r => porterref04_with_s1 N k n v (fun p => (r p)) k0) N p

noncomputable def porterref04_with_g1 (N : Nat) (i : ((List UInt8) × Int)) (v : (List UInt8)) (r : (List UInt8) → Option (List UInt8)) (K : Ex → List A → Option (List UInt8)) : Option (List UInt8) :=
  porterref04_with_s1 N i.1 i.2 v (fun p => (r p)) (fun a1 => (K (.exit 0) (mkS [(0, .v .str), (4, .v .str)] 10 (i.1, a1, ()))))

noncomputable def porterref04_with_h1 (N : Nat) : Hd (List UInt8) := fun st K => (unS [(0, .v .str), (0, .v (.int .i64)), (3, .v .str)] 10 (restr [5, 1, 0] 0 st)).bind fun x => iter (fun v r => porterref04_with_g1 N ((fun x => (x.1, x.2.1)) x) v r K) N ((fun x => x.2.2.1) x)

noncomputable def porterref04_with_t1 (N : Nat) : Tab (List UInt8) := []

theorem porterref04_with_ok1 {N : Nat} {c : Ctx} (hb : Base Go.Proofs.Tryd.prog (porterref04_with_E N) c) : CodeOk Go.Proofs.Tryd.prog c (nodeAt porterref04_with_body [0, 0, 1, 1]) (porterref04_with_h1 N) :=
  loop_ok (s := [(0, .v .str), (0, .v (.int .i64)), (3, .v .str)]) (m := 10) (porterref04_with_g1 N) [5, 1, 0] N (fun x => (x.1, x.2.1)) (fun x => x.2.2.1) (fun i v => (i.1, i.2, v, ())) (fun _ => rfl) (evN_sound hb N (porterref04_with_t1 N) porterref04_with_L porterref04_with_body TabOk.nil [0, 0, 0, 1, 1] _ rfl) (fun i v r K => by kernel_rfl)

noncomputable def porterref04_with (N : Nat) (k : (List UInt8)) (n : Int) : Option (List UInt8) :=
  porterref04_with_p1 N k n ([] : List UInt8)
  (fun p => (porterref02_Xor N k p).bind fun y =>
    some y)

noncomputable def porterref04_with_t (N : Nat) : Tab (List UInt8) := [([0, 0, 1, 1], porterref04_with_h1 N)]

theorem porterref04_with_link (N : Nat) (x : denS [(0, .v .str), (0, .v (.int .i64))]) : evFX (porterref04_with_E N) N (porterref04_with_t N) porterref04_with_L Go.Proofs.Tryd.f65 (mkS [(0, .v .str), (0, .v (.int .i64))] 0 x) (kRes (.v .str) 2) = porterref04_with N x.1 x.2.1 := by kernel_rfl

noncomputable def porterref04_with_res (N : Nat) : List A → Res := resOf [(0, .v .str), (0, .v (.int .i64))] (fun x => porterref04_with N x.1 x.2.1) (oRes (.v .str) 2)

theorem porterref04_with_ct (N : Nat) : Contract Go.Proofs.Tryd.prog glob 65 (porterref04_with_res N) :=
  Contract.of (E := porterref04_with_E N) (H := porterref04_with_t N) (L := porterref04_with_L) (N := N) (body := porterref04_with_body) (K := (kRes (.v .str) 2)) (porterref04_with_Eok N) Go.Proofs.Tryd.func65 (by kernel_rfl) (by decide) (fun _ hb => (TabOk.cons (porterref04_with_ok1 hb) TabOk.nil)) (fun x y h => by rw [porterref04_with_link]; exact h) (kRes_ok (s := (.v .str)) (m := 2))

abbrev porterref04_Texts_R : Type := (List (List UInt8))

noncomputable def porterref04_Texts_body : Code := (Go.Proofs.Tryd.f41.body).getD .skip

noncomputable def porterref04_Texts_L : List (List Nat × List Nat) := [([0], [0, 1]), ([0, 1], [5, 0]), ([0, 1, 1], [4]), ([1, 1, 1], [4])]

noncomputable def porterref04_Texts_E (N : Nat) : Env := mkEnv tys glob [(65, porterref04_with_res N), (66, porterref04_key_res N), (15, porterref03_Sum_res N)] [(4, .str)] [] [] true [] [(79, hmac_split1_itr N)]

theorem porterref04_Texts_Eok (N : Nat) : EnvOk Go.Proofs.Tryd.prog (porterref04_Texts_E N) := mkEnv_ok mixed tys_ok (FnsOk.cons (porterref04_with_ct N) (FnsOk.cons (porterref04_key_ct N) (FnsOk.cons (porterref03_Sum_ct N) (FnsOk.nil)))) (ItsOk.cons (hmac_split1_it N) (ItsOk.nil))

noncomputable def porterref04_Texts (N : Nat) (k : (List UInt8)) (text : (List UInt8)) : Option (List (List UInt8)) :=
  (porterref04_key N k).bind fun y =>
  (porterref04_with N y (54 : Int)).bind fun y1 =>
  cond (decide (((List.length y1) + (List.length text)) ≤ 9223372036854775807))
  ((porterref04_key N k).bind fun y2 =>
    (porterref04_with N y2 (92 : Int)).bind fun y3 =>
    (porterref03_Sum N (y1 ++ text)).bind fun y4 =>
    cond (decide (((List.length y3) + (List.length y4)) ≤ 9223372036854775807))
    (some ([(y1 ++ text), (y3 ++ y4)] : List (List UInt8)))
    (none))
  (none)

noncomputable def porterref04_Texts_t (N : Nat) : Tab (List (List UInt8)) := []

theorem porterref04_Texts_link (N : Nat) (x : denS [(0, .v .str), (0, .v .str)]) : evFX (porterref04_Texts_E N) N (porterref04_Texts_t N) porterref04_Texts_L Go.Proofs.Tryd.f41 (mkS [(0, .v .str), (0, .v .str)] 0 x) (kRes (.row .str) 2) = porterref04_Texts N x.1 x.2.1 := by kernel_rfl

noncomputable def porterref04_Texts_res (N : Nat) : List A → Res := resOf [(0, .v .str), (0, .v .str)] (fun x => porterref04_Texts N x.1 x.2.1) (oRes (.row .str) 2)

end Go.Proofs.YtjeabejfmcmkdaaDoorLg
