/- The functions of the seat, as plain functions, and what their calls do. Printed by a program of mine; checked here. -/
import Derived.Test.YtkccmmbomlpgnaaDoorLgBld
import Derived.Test.YtkccmmbomlpgnaaDoorLgRep
import Derived.Test.YtkccmmbomlpgnaaDoorLgW
import Derived.Test.YtkccmmbomlpgnaaDoorChecked
import Derived.KernelRfl
import Derived.WalkKit
import Derived.Tactics
import Derived.Tactics2
import Derived.Defers
import Derived.Lib.Hide
import Derived.Below
set_option linter.all false
set_option maxRecDepth 100000
namespace Go.Proofs.YtkccmmbomlpgnaaDoorLg
open Go Go.Lift

noncomputable def ty3 : TyI := ⟨(Go.TypeDesc.int Go.IntKind.i64), 1, 8, (.int .i64), (0 : Int), false⟩

theorem ty3_ok : TyOk Go.Proofs.Tryd.prog 3 ty3 := TyOk.of (by kernel_rfl) (by kernel_rfl) (by kernel_rfl) (by kernel_rfl)

noncomputable def ty4 : TyI := ⟨Go.TypeDesc.bool, 1, 1, .bool, false, false⟩

theorem ty4_ok : TyOk Go.Proofs.Tryd.prog 4 ty4 := TyOk.of (by kernel_rfl) (by kernel_rfl) (by kernel_rfl) (by kernel_rfl)

noncomputable def ty5 : TyI := ⟨(Go.TypeDesc.int Go.IntKind.u8), 1, 1, (.int .u8), (0 : Int), false⟩

theorem ty5_ok : TyOk Go.Proofs.Tryd.prog 5 ty5 := TyOk.of (by kernel_rfl) (by kernel_rfl) (by kernel_rfl) (by kernel_rfl)

noncomputable def ty9 : TyI := ⟨Go.TypeDesc.string, 1, 16, .str, ([] : List UInt8), false⟩

theorem ty9_ok : TyOk Go.Proofs.Tryd.prog 9 ty9 := TyOk.of (by kernel_rfl) (by kernel_rfl) (by kernel_rfl) (by kernel_rfl)

noncomputable def ty23 : TyI := ⟨(Go.TypeDesc.int Go.IntKind.i64), 1, 8, (.int .i64), (0 : Int), false⟩

theorem ty23_ok : TyOk Go.Proofs.Tryd.prog 23 ty23 := TyOk.of (by kernel_rfl) (by kernel_rfl) (by kernel_rfl) (by kernel_rfl)

noncomputable def ty31 : TyI := ⟨(Go.TypeDesc.slice 9), 1, 24, (.sl .str), ([] : List (List UInt8)), false⟩

theorem ty31_ok : TyOk Go.Proofs.Tryd.prog 31 ty31 := TyOk.of (by kernel_rfl) (by kernel_rfl) (by kernel_rfl) (by kernel_rfl)

noncomputable def ty34 : TyI := ⟨(Go.TypeDesc.struct (List.toArray ([(Go.Field.mk "Text" 9 0 false "" "" 0), (Go.Field.mk "Seal" 9 1 false "" "" 16)] : List Go.Field))), 2, 32, (.pair .str (.pair .str .unit)), (([] : List UInt8), ([] : List UInt8), ()), true⟩

theorem ty34_ok : TyOk Go.Proofs.Tryd.prog 34 ty34 := TyOk.of (by kernel_rfl) (by kernel_rfl) (by kernel_rfl) (by kernel_rfl)

noncomputable def ty42 : TyI := ⟨(Go.TypeDesc.slice 34), 1, 24, (.sl (.pair .str (.pair .str .unit))), ([] : List ((List UInt8) × ((List UInt8) × Unit))), false⟩

theorem ty42_ok : TyOk Go.Proofs.Tryd.prog 42 ty42 := TyOk.of (by kernel_rfl) (by kernel_rfl) (by kernel_rfl) (by kernel_rfl)

noncomputable def ty44 : TyI := ⟨(Go.TypeDesc.struct (List.toArray ([(Go.Field.mk "ID" 9 0 false "" "" 0), (Go.Field.mk "Links" 42 1 false "" "" 16), (Go.Field.mk "Tag" 9 2 false "" "" 40)] : List Go.Field))), 3, 56, (.pair .str (.pair (.sl (.pair .str (.pair .str .unit))) (.pair .str .unit))), (([] : List UInt8), ([] : List ((List UInt8) × ((List UInt8) × Unit))), ([] : List UInt8), ()), true⟩

theorem ty44_ok : TyOk Go.Proofs.Tryd.prog 44 ty44 := TyOk.of (by kernel_rfl) (by kernel_rfl) (by kernel_rfl) (by kernel_rfl)

noncomputable def ty51 : TyI := ⟨(Go.TypeDesc.array 2 9), 2, 32, (.arr 2 .str), ([([] : List UInt8), ([] : List UInt8)] : List (List UInt8)), true⟩

theorem ty51_ok : TyOk Go.Proofs.Tryd.prog 51 ty51 := TyOk.of (by kernel_rfl) (by kernel_rfl) (by kernel_rfl) (by kernel_rfl)

noncomputable def ty72 : TyI := ⟨Go.TypeDesc.string, 1, 16, .str, ([] : List UInt8), false⟩

theorem ty72_ok : TyOk Go.Proofs.Tryd.prog 72 ty72 := TyOk.of (by kernel_rfl) (by kernel_rfl) (by kernel_rfl) (by kernel_rfl)

noncomputable def ty75 : TyI := ⟨(Go.TypeDesc.func (List.toArray ([94] : List Nat)) (List.toArray ([] : List Nat)) false), 1, 8, .opq, Go.Value.nilFunc, false⟩

theorem ty75_ok : TyOk Go.Proofs.Tryd.prog 75 ty75 := TyOk.of (by kernel_rfl) (by kernel_rfl) (by kernel_rfl) (by kernel_rfl)

noncomputable def ty77 : TyI := ⟨(Go.TypeDesc.func (List.toArray ([72, 34] : List Nat)) (List.toArray ([72] : List Nat)) false), 1, 8, .opq, Go.Value.nilFunc, false⟩

theorem ty77_ok : TyOk Go.Proofs.Tryd.prog 77 ty77 := TyOk.of (by kernel_rfl) (by kernel_rfl) (by kernel_rfl) (by kernel_rfl)

noncomputable def ty84 : TyI := ⟨(Go.TypeDesc.slice 86), 1, 24, (.sl (.int .u32)), ([] : List Int), false⟩

theorem ty84_ok : TyOk Go.Proofs.Tryd.prog 84 ty84 := TyOk.of (by kernel_rfl) (by kernel_rfl) (by kernel_rfl) (by kernel_rfl)

noncomputable def ty86 : TyI := ⟨(Go.TypeDesc.int Go.IntKind.u32), 1, 4, (.int .u32), (0 : Int), false⟩

theorem ty86_ok : TyOk Go.Proofs.Tryd.prog 86 ty86 := TyOk.of (by kernel_rfl) (by kernel_rfl) (by kernel_rfl) (by kernel_rfl)

noncomputable def ty87 : TyI := ⟨(Go.TypeDesc.array 8 86), 8, 32, (.arr 8 (.int .u32)), ([(0 : Int), (0 : Int), (0 : Int), (0 : Int), (0 : Int), (0 : Int), (0 : Int), (0 : Int)] : List Int), true⟩

theorem ty87_ok : TyOk Go.Proofs.Tryd.prog 87 ty87 := TyOk.of (by kernel_rfl) (by kernel_rfl) (by kernel_rfl) (by kernel_rfl)

noncomputable def ty94 : TyI := ⟨(Go.TypeDesc.func (List.toArray ([72] : List Nat)) (List.toArray ([4] : List Nat)) false), 1, 8, .opq, Go.Value.nilFunc, false⟩

theorem ty94_ok : TyOk Go.Proofs.Tryd.prog 94 ty94 := TyOk.of (by kernel_rfl) (by kernel_rfl) (by kernel_rfl) (by kernel_rfl)

noncomputable def ty96 : TyI := ⟨(Go.TypeDesc.slice 5), 1, 24, (.sl (.int .u8)), ([] : List Int), false⟩

theorem ty96_ok : TyOk Go.Proofs.Tryd.prog 96 ty96 := TyOk.of (by kernel_rfl) (by kernel_rfl) (by kernel_rfl) (by kernel_rfl)

noncomputable def ty97 : TyI := ⟨(Go.TypeDesc.pointer 99), 1, 8, .opq, (Go.Value.pointer none), false⟩

theorem ty97_ok : TyOk Go.Proofs.Tryd.prog 97 ty97 := TyOk.of (by kernel_rfl) (by kernel_rfl) (by kernel_rfl) (by kernel_rfl)

noncomputable def ty99 : TyI := ⟨(Go.TypeDesc.struct (List.toArray ([(Go.Field.mk "addr" 97 0 false "" "strings" 0), (Go.Field.mk "buf" 96 1 false "" "strings" 8)] : List Go.Field))), 2, 32, (.pair .opq (.pair (.sl (.int .u8)) .unit)), ((Go.Value.pointer none), ([] : List Int), ()), true⟩

theorem ty99_ok : TyOk Go.Proofs.Tryd.prog 99 ty99 := TyOk.of (by kernel_rfl) (by kernel_rfl) (by kernel_rfl) (by kernel_rfl)

noncomputable def ty101 : TyI := ⟨(Go.TypeDesc.func (List.toArray ([112] : List Nat)) (List.toArray ([] : List Nat)) false), 1, 8, .opq, Go.Value.nilFunc, false⟩

theorem ty101_ok : TyOk Go.Proofs.Tryd.prog 101 ty101 := TyOk.of (by kernel_rfl) (by kernel_rfl) (by kernel_rfl) (by kernel_rfl)

noncomputable def ty104 : TyI := ⟨(Go.TypeDesc.interface (List.toArray ([("Error", 107)] : List (String × Nat)))), 1, 16, .opq, Go.Value.nilIface, false⟩

theorem ty104_ok : TyOk Go.Proofs.Tryd.prog 104 ty104 := TyOk.of (by kernel_rfl) (by kernel_rfl) (by kernel_rfl) (by kernel_rfl)

noncomputable def ty108 : TyI := ⟨(Go.TypeDesc.int Go.IntKind.u64), 1, 8, (.int .u64), (0 : Int), false⟩

theorem ty108_ok : TyOk Go.Proofs.Tryd.prog 108 ty108 := TyOk.of (by kernel_rfl) (by kernel_rfl) (by kernel_rfl) (by kernel_rfl)

noncomputable def ty109 : TyI := ⟨(Go.TypeDesc.int Go.IntKind.u64), 1, 8, (.int .u64), (0 : Int), false⟩

theorem ty109_ok : TyOk Go.Proofs.Tryd.prog 109 ty109 := TyOk.of (by kernel_rfl) (by kernel_rfl) (by kernel_rfl) (by kernel_rfl)

noncomputable def ty112 : TyI := ⟨(Go.TypeDesc.func (List.toArray ([9] : List Nat)) (List.toArray ([4] : List Nat)) false), 1, 8, .opq, Go.Value.nilFunc, false⟩

theorem ty112_ok : TyOk Go.Proofs.Tryd.prog 112 ty112 := TyOk.of (by kernel_rfl) (by kernel_rfl) (by kernel_rfl) (by kernel_rfl)

noncomputable def ty114 : TyI := ⟨(Go.TypeDesc.pointer 122), 1, 8, .opq, (Go.Value.pointer none), false⟩

theorem ty114_ok : TyOk Go.Proofs.Tryd.prog 114 ty114 := TyOk.of (by kernel_rfl) (by kernel_rfl) (by kernel_rfl) (by kernel_rfl)

noncomputable def ty119 : TyI := ⟨(Go.TypeDesc.array 8 86), 8, 32, (.arr 8 (.int .u32)), ([(0 : Int), (0 : Int), (0 : Int), (0 : Int), (0 : Int), (0 : Int), (0 : Int), (0 : Int)] : List Int), true⟩

theorem ty119_ok : TyOk Go.Proofs.Tryd.prog 119 ty119 := TyOk.of (by kernel_rfl) (by kernel_rfl) (by kernel_rfl) (by kernel_rfl)

noncomputable def ty122 : TyI := ⟨(Go.TypeDesc.struct (List.toArray ([(Go.Field.mk "made" 4 0 false "" "porter/sha" 0), (Go.Field.mk "words" 119 1 false "" "porter/sha" 4), (Go.Field.mk "rest" 9 9 false "" "porter/sha" 40), (Go.Field.mk "long" 3 10 false "" "porter/sha" 56)] : List Go.Field))), 11, 64, (.pair .bool (.pair (.arr 8 (.int .u32)) (.pair .str (.pair (.int .i64) .unit)))), (false, ([(0 : Int), (0 : Int), (0 : Int), (0 : Int), (0 : Int), (0 : Int), (0 : Int), (0 : Int)] : List Int), ([] : List UInt8), (0 : Int), ()), true⟩

theorem ty122_ok : TyOk Go.Proofs.Tryd.prog 122 ty122 := TyOk.of (by kernel_rfl) (by kernel_rfl) (by kernel_rfl) (by kernel_rfl)

noncomputable def ty134 : TyI := ⟨(Go.TypeDesc.array 64 86), 64, 256, (.arr 64 (.int .u32)), ((0 : Int) :: (0 : Int) :: (0 : Int) :: (0 : Int) :: (0 : Int) :: (0 : Int) :: (0 : Int) :: (0 : Int) :: (0 : Int) :: (0 : Int) :: (0 : Int) :: (0 : Int) :: (0 : Int) :: (0 : Int) :: (0 : Int) :: (0 : Int) :: (0 : Int) :: (0 : Int) :: (0 : Int) :: (0 : Int) :: (0 : Int) :: (0 : Int) :: (0 : Int) :: (0 : Int) :: (0 : Int) :: (0 : Int) :: (0 : Int) :: (0 : Int) :: (0 : Int) :: (0 : Int) :: (0 : Int) :: (0 : Int) :: (0 : Int) :: (0 : Int) :: (0 : Int) :: (0 : Int) :: (0 : Int) :: (0 : Int) :: (0 : Int) :: (0 : Int) :: (0 : Int) :: (0 : Int) :: (0 : Int) :: (0 : Int) :: (0 : Int) :: (0 : Int) :: (0 : Int) :: (0 : Int) :: (0 : Int) :: (0 : Int) :: (0 : Int) :: (0 : Int) :: (0 : Int) :: (0 : Int) :: (0 : Int) :: (0 : Int) :: (0 : Int) :: (0 : Int) :: (0 : Int) :: (0 : Int) :: (0 : Int) :: (0 : Int) :: (0 : Int) :: (0 : Int) :: ([] : List Int)), true⟩

theorem ty134_ok : TyOk Go.Proofs.Tryd.prog 134 ty134 := TyOk.of (by kernel_rfl) (by kernel_rfl) (by kernel_rfl) (by kernel_rfl)

noncomputable def tys : List (Nat × TyI) := [(3, ty3), (4, ty4), (5, ty5), (9, ty9), (23, ty23), (31, ty31), (34, ty34), (42, ty42), (44, ty44), (51, ty51), (72, ty72), (75, ty75), (77, ty77), (84, ty84), (86, ty86), (87, ty87), (94, ty94), (96, ty96), (97, ty97), (99, ty99), (101, ty101), (104, ty104), (108, ty108), (109, ty109), (112, ty112), (114, ty114), (119, ty119), (122, ty122), (134, ty134)]

theorem tys_ok : TysOk Go.Proofs.Tryd.prog tys := TysOk.cons ty3_ok (TysOk.cons ty4_ok (TysOk.cons ty5_ok (TysOk.cons ty9_ok (TysOk.cons ty23_ok (TysOk.cons ty31_ok (TysOk.cons ty34_ok (TysOk.cons ty42_ok (TysOk.cons ty44_ok (TysOk.cons ty51_ok (TysOk.cons ty72_ok (TysOk.cons ty75_ok (TysOk.cons ty77_ok (TysOk.cons ty84_ok (TysOk.cons ty86_ok (TysOk.cons ty87_ok (TysOk.cons ty94_ok (TysOk.cons ty96_ok (TysOk.cons ty97_ok (TysOk.cons ty99_ok (TysOk.cons ty101_ok (TysOk.cons ty104_ok (TysOk.cons ty108_ok (TysOk.cons ty109_ok (TysOk.cons ty112_ok (TysOk.cons ty114_ok (TysOk.cons ty119_ok (TysOk.cons ty122_ok (TysOk.cons ty134_ok (TysOk.nil)))))))))))))))))))))))))))))

theorem mixed : Go.Proofs.Tryd.prog.follows .mixedOrders = true := by kernel_rfl

noncomputable def glob0 : List Int := [1116352408, 1899447441, 3049323471, 3921009573, 961987163, 1508970993, 2453635748, 2870763221, 3624381080, 310598401, 607225278, 1426881987, 1925078388, 2162078206, 2614888103, 3248222580, 3835390401, 4022224774, 264347078, 604807628, 770255983, 1249150122, 1555081692, 1996064986, 2554220882, 2821834349, 2952996808, 3210313671, 3336571891, 3584528711, 113926993, 338241895, 666307205, 773529912, 1294757372, 1396182291, 1695183700, 1986661051, 2177026350, 2456956037, 2730485921, 2820302411, 3259730800, 3345764771, 3516065817, 3600352804, 4094571909, 275423344, 430227734, 506948616, 659060556, 883997877, 958139571, 1322822218, 1537002063, 1747873779, 1955562222, 2024104815, 2227730452, 2361852424, 2428436474, 2756734187, 3204031479, 3329325298]

noncomputable def glob : Nat → Option Dat := lk [(0, ⟨(.arr 64 (.int .u32)), glob0⟩)]

abbrev hmac_length_R : Type := (List UInt8)

noncomputable def hmac_length_body : Code := (Go.Proofs.Tryd.f107.body).getD .skip

noncomputable def hmac_length_L : List (List Nat × List Nat) := [([0], [0]), ([0, 1], [3, 0]), ([0, 0, 1, 1], [6, 3, 0]), ([0, 1, 0, 1, 1], [6, 3, 0]), ([0, 0, 0, 1, 0, 1, 1], [7, 6, 3, 0]), ([0, 1, 0, 0, 1, 0, 1, 1], [6, 3, 0]), ([1, 0, 1, 0, 0, 1, 0, 1, 1], [3]), ([0, 0, 0, 1, 1, 0, 0, 1, 0, 1, 1], [3, 4, 0, 6]), ([1, 0, 0, 1, 1, 0, 0, 1, 0, 1, 1], [6, 3, 0]), ([0, 1, 1, 0, 0, 1, 0, 1, 1], [6, 3, 0]), ([1, 1, 1, 0, 0, 1, 0, 1, 1], [6, 3, 0]), ([1, 0, 1, 1], [3]), ([0, 1, 1, 1], [2]), ([1, 1, 1, 1], [2])]

noncomputable def hmac_length_E (N : Nat) : Env := mkEnv tys glob [] [(3, (.int .u8))] [] [] false [] []

theorem hmac_length_Eok (N : Nat) : EnvOk Go.Proofs.Tryd.prog (hmac_length_E N) := mkEnv_ok mixed tys_ok (FnsOk.nil) (ItsOk.nil)

noncomputable def hmac_length_s1 (N : Nat) (s : (List UInt8)) (out : (List Int)) (x6 : Int) (rec : (List Int) → Int → Option (List UInt8)) (k0 : (List Int) → Option (List UInt8)) : Option (List UInt8) :=
  cond (decide (x6 < (8 : Int)))
  (cond (decide ((0 : Int) ≤ (Go.IntKind.wrap Go.IntKind.i64 ((8 : Int) * (Go.IntKind.wrap Go.IntKind.i64 ((7 : Int) - x6))))))
    (cond (Go.Lift.inR x6 (List.length out))
      (cond (decide ((Int.toNat x6) < (List.length out)))
        (rec (List.set out (Int.toNat x6) (Go.IntKind.wrap Go.IntKind.u8 (Go.Lift.shrI Go.IntKind.u64 (Go.IntKind.wrap Go.IntKind.u64 (((List.length s) : Nat) : Int)) (Go.IntKind.wrap Go.IntKind.i64 ((8 : Int) * (Go.IntKind.wrap Go.IntKind.i64 ((7 : Int) - x6))))))) (Go.IntKind.wrap Go.IntKind.i64 (x6 + (1 : Int))))
        (none))
      (none))
    (none))
  (k0 out)

noncomputable def hmac_length_p1 (N : Nat) (s : (List UInt8)) (out : (List Int)) (x6 : Int) (k0 : (List Int) → Option (List UInt8)) : Option (List UInt8) :=
  iter (fun (v : ((List Int) × Int)) r => hmac_length_s1 N s v.1 v.2 (fun out x6 => (r (out, x6))) k0) N (out, x6)

noncomputable def hmac_length_g1 (N : Nat) (i : (List UInt8)) (v : ((List Int) × Int)) (r : ((List Int) × Int) → Option (List UInt8)) (K : Ex → List A → Option (List UInt8)) : Option (List UInt8) :=
  hmac_length_s1 N i v.1 v.2 (fun out x6 => (r (out, x6))) (fun a0 => (K (.exit 0) (mkS [(3, .row (.int .u8))] 19 (a0, ()))))

noncomputable def hmac_length_h1 (N : Nat) : Hd (List UInt8) := fun st K => (unS [(0, .v .str), (2, .row (.int .u8)), (2, .v (.int .i64))] 16 (restr [6, 3, 0] 0 st)).bind fun x => iter (fun v r => hmac_length_g1 N ((fun x => x.1) x) v r K) N ((fun x => (x.2.1, x.2.2.1)) x)

noncomputable def hmac_length_t1 (N : Nat) : Tab (List UInt8) := []

theorem hmac_length_ok1 {N : Nat} {c : Ctx} (hb : Base Go.Proofs.Tryd.prog (hmac_length_E N) c) : CodeOk Go.Proofs.Tryd.prog c (nodeAt hmac_length_body [0, 1, 0, 1, 1]) (hmac_length_h1 N) :=
  loop_ok (s := [(0, .v .str), (2, .row (.int .u8)), (2, .v (.int .i64))]) (m := 16) (hmac_length_g1 N) [6, 3, 0] N (fun x => x.1) (fun x => (x.2.1, x.2.2.1)) (fun i v => (i, v.1, v.2, ())) (fun _ => rfl) (evN_sound hb N (hmac_length_t1 N) hmac_length_L hmac_length_body TabOk.nil [0, 0, 1, 0, 1, 1] _ rfl) (fun i v r K => by kernel_rfl)

noncomputable def hmac_length (N : Nat) (s : (List UInt8)) : Option (List UInt8) :=
  hmac_length_p1 N s ([(0 : Int), (0 : Int), (0 : Int), (0 : Int), (0 : Int), (0 : Int), (0 : Int), (0 : Int)] : List Int) (0 : Int)
  (fun out => some (Go.Lift.toStr out))

noncomputable def hmac_length_t (N : Nat) : Tab (List UInt8) := [([0, 1, 0, 1, 1], hmac_length_h1 N)]

theorem hmac_length_link (N : Nat) (x : denS [(0, .v .str)]) : evFX (hmac_length_E N) N (hmac_length_t N) hmac_length_L Go.Proofs.Tryd.f107 (mkS [(0, .v .str)] 0 x) (kRes (.v .str) 1) = hmac_length N x.1 := by kernel_rfl

noncomputable def hmac_length_res (N : Nat) : List A → Res := resOf [(0, .v .str)] (fun x => hmac_length N x.1) (oRes (.v .str) 1)

theorem hmac_length_ct (N : Nat) : Contract Go.Proofs.Tryd.prog glob 107 (hmac_length_res N) :=
  Contract.of (E := hmac_length_E N) (H := hmac_length_t N) (L := hmac_length_L) (N := N) (body := hmac_length_body) (K := (kRes (.v .str) 1)) (hmac_length_Eok N) Go.Proofs.Tryd.func107 (by kernel_rfl) (by decide) (fun _ hb => (TabOk.cons (hmac_length_ok1 hb) TabOk.nil)) (fun x y h => by rw [hmac_length_link]; exact h) (kRes_ok (s := (.v .str)) (m := 1))

abbrev hmac_framed1_R : Type := (List ((List UInt8) × Unit))

noncomputable def hmac_framed1_body : Code := (Go.Proofs.Tryd.f106.body).getD .skip

noncomputable def hmac_framed1_L : List (List Nat × List Nat) := [([0], [7, 6, 5, 0]), ([0, 1], [7, 6, 5, 0]), ([0, 0, 0, 1], [8, 5, 7, 0, 6]), ([0, 1, 0, 0, 1], [5, 7, 0, 6]), ([1, 0, 1, 0, 0, 1], [0]), ([0, 0, 0, 1, 1, 0, 0, 1], [0, 4, 7, 6, 5]), ([0, 1, 0, 0, 1, 1, 0, 0, 1], [21, 0, 7, 6, 5]), ([1, 1, 0, 0, 1, 1, 0, 0, 1], [7, 6, 5, 0]), ([0, 1, 1, 0, 0, 1, 1, 0, 0, 1], [0]), ([0, 1, 1, 0, 0, 1], [7, 6, 5, 0]), ([1, 1, 1, 0, 0, 1], [7, 6, 5, 0]), ([1], [0])]

noncomputable def hmac_framed1_E (N : Nat) : Env := mkEnv tys glob [(107, hmac_length_res N)] [] [] [0] false [] []

theorem hmac_framed1_Eok (N : Nat) : EnvOk Go.Proofs.Tryd.prog (hmac_framed1_E N) := mkEnv_ok mixed tys_ok (FnsOk.cons (hmac_length_ct N) (FnsOk.nil)) ItsOk.nil

noncomputable def hmac_framed1_s1 (N : Nat) (x5 : (List (List UInt8))) (x6 : Int) (x7 : Int) (rec : Int → Option (List ((List UInt8) × Unit))) (k0 : Option (List ((List UInt8) × Unit))) (k1 : Option (List ((List UInt8) × Unit))) : Option (List ((List UInt8) × Unit)) :=
  cond (decide (x7 < x6))
  (cond (Go.Lift.inR x7 (List.length x5))
    ((hmac_length N (List.getD x5 (Int.toNat x7) ([] : List UInt8))).bind fun y =>
      comb (y, ())
      (comb ((List.getD x5 (Int.toNat x7) ([] : List UInt8)), ())
        (rec (Go.IntKind.wrap Go.IntKind.i64 (x7 + (1 : Int))))
        (k0))
      (k0))
    (none))
  (k1)

noncomputable def hmac_framed1_p1 (N : Nat) (x5 : (List (List UInt8))) (x6 : Int) (x7 : Int) (k0 : Option (List ((List UInt8) × Unit))) (k1 : Option (List ((List UInt8) × Unit))) : Option (List ((List UInt8) × Unit)) :=
  iter (fun (v : Int) r => hmac_framed1_s1 N x5 x6 v (fun x7 => (r x7)) k0 k1) N x7

noncomputable def hmac_framed1_g1 (N : Nat) (i : ((List (List UInt8)) × Int)) (v : Int) (r : Int → Option (List ((List UInt8) × Unit))) (K : Ex → List A → Option (List ((List UInt8) × Unit))) : Option (List ((List UInt8) × Unit)) :=
  hmac_framed1_s1 N i.1 i.2 v (fun x7 => (r x7)) (K .ret (mkS [(0, .yld)] 22 ((), ()))) (K (.exit 0) (mkS [(0, .yld)] 22 ((), ())))

noncomputable def hmac_framed1_h1 (N : Nat) : Hd (List ((List UInt8) × Unit)) := fun st K => (unS [(0, .yld), (4, .v (.sl .str)), (0, .v (.int .i64)), (0, .v (.int .i64))] 15 (restr [7, 6, 5, 0] 0 st)).bind fun x => iter (fun v r => hmac_framed1_g1 N ((fun x => (x.2.1, x.2.2.1)) x) v r K) N ((fun x => x.2.2.2.1) x)

noncomputable def hmac_framed1_t1 (N : Nat) : Tab (List ((List UInt8) × Unit)) := []

theorem hmac_framed1_ok1 {N : Nat} {G : GY [.str]} (hG : RestrOk G) (hev : EvOk G Go.Proofs.Tryd.prog (hmac_framed1_E N) N hmac_framed1_L hmac_framed1_body) : YOk G Go.Proofs.Tryd.prog (nodeAt hmac_framed1_body [0, 1]) (hmac_framed1_h1 N) :=
  loopY_ok hG (s := [(0, .yld), (4, .v (.sl .str)), (0, .v (.int .i64)), (0, .v (.int .i64))]) (m := 15) (hmac_framed1_g1 N) [7, 6, 5, 0] N (fun x => (x.2.1, x.2.2.1)) (fun x => x.2.2.2.1) (fun i v => ((), i.1, i.2, v, ())) (fun _ => rfl) (hev (hmac_framed1_t1 N) TabOkY.nil [0, 0, 1]) (fun i v r K => by kernel_rfl)

noncomputable def hmac_framed1 (N : Nat) (x1 : (List (List UInt8))) : Option (List ((List UInt8) × Unit)) :=
  hmac_framed1_p1 N x1 (((List.length x1) : Nat) : Int) (0 : Int)
  (some ([] : List ((List UInt8) × Unit)))
  (some ([] : List ((List UInt8) × Unit)))

noncomputable def hmac_framed1_t (N : Nat) : Tab (List ((List UInt8) × Unit)) := [([0, 1], hmac_framed1_h1 N)]

theorem hmac_framed1_link (N : Nat) (x : T.den (.pair (.ptr (.sl .str)) .unit)) : evYX (hmac_framed1_E N) [.str] comb N (hmac_framed1_t N) hmac_framed1_L Go.Proofs.Tryd.f106 [.v (.ptr (.sl .str)) x.1] = hmac_framed1 N x.1 := by kernel_rfl

noncomputable def hmac_framed1_itr (N : Nat) : Dat → ItRes := itRes (ts := [.str]) (.pair (.ptr (.sl .str)) .unit) (fun x => hmac_framed1 N x.1)

theorem hmac_framed1_it (N : Nat) : ItOk Go.Proofs.Tryd.prog glob 106 (hmac_framed1_itr N) := ItOk.of (ts := [.str]) (E := hmac_framed1_E N) (H := hmac_framed1_t N) (L := hmac_framed1_L) (N := N) (body := hmac_framed1_body) (hmac_framed1_Eok N) rfl Go.Proofs.Tryd.func106 (by kernel_rfl) (by decide) (fun G hG hev => (TabOkY.cons (hmac_framed1_ok1 hG hev) TabOkY.nil)) (fun x y h => ⟨_, rfl, by rw [hmac_framed1_link]; exact h⟩)

abbrev hmac_framed_R : Type := ((List (List UInt8)) × Unit)

noncomputable def hmac_framed_body : Code := (Go.Proofs.Tryd.f97.body).getD .skip

noncomputable def hmac_framed_L : List (List Nat × List Nat) := [([0], [1]), ([0, 1], [2]), ([1, 1], [2])]

noncomputable def hmac_framed_E (N : Nat) : Env := mkEnv tys glob [] [] [] [] false [] [(106, hmac_framed1_itr N)]

theorem hmac_framed_Eok (N : Nat) : EnvOk Go.Proofs.Tryd.prog (hmac_framed_E N) := mkEnv_ok mixed tys_ok (FnsOk.nil) (ItsOk.cons (hmac_framed1_it N) (ItsOk.nil))

noncomputable def hmac_framed (N : Nat) (parts : (List (List UInt8))) : Option ((List (List UInt8)) × Unit) :=
  some (parts, ())

noncomputable def hmac_framed_t (N : Nat) : Tab ((List (List UInt8)) × Unit) := []

theorem hmac_framed_link (N : Nat) (x : denS [(0, .v (.sl .str))]) : evFX (hmac_framed_E N) N (hmac_framed_t N) hmac_framed_L Go.Proofs.Tryd.f97 (mkS [(0, .v (.sl .str))] 0 x) (kRes (.v (.fn 106 (.pair (.ptr (.sl .str)) .unit))) 1) = hmac_framed N x.1 := by kernel_rfl

noncomputable def hmac_framed_res (N : Nat) : List A → Res := resOf [(0, .v (.sl .str))] (fun x => hmac_framed N x.1) (oRes (.v (.fn 106 (.pair (.ptr (.sl .str)) .unit))) 1)

theorem hmac_framed_ct (N : Nat) : Contract Go.Proofs.Tryd.prog glob 97 (hmac_framed_res N) :=
  Contract.of (E := hmac_framed_E N) (H := hmac_framed_t N) (L := hmac_framed_L) (N := N) (body := hmac_framed_body) (K := (kRes (.v (.fn 106 (.pair (.ptr (.sl .str)) .unit))) 1)) (hmac_framed_Eok N) Go.Proofs.Tryd.func97 (by kernel_rfl) (by decide) (fun _ hb => TabOk.nil) (fun x y h => by rw [hmac_framed_link]; exact h) (kRes_ok (s := (.v (.fn 106 (.pair (.ptr (.sl .str)) .unit)))) (m := 1))

abbrev strings_Builder_WriteString_R : Type := ((Int × Go.Value × Unit) × ((Unit × ((List Int) × Unit)) × Unit))

noncomputable def strings_Builder_WriteString_body : Code := (Go.Proofs.Tryd.f87.body).getD .skip

noncomputable def strings_Builder_WriteString_L : List (List Nat × List Nat) := [([0], [0, 1]), ([0, 1], [0, 1]), ([0, 1, 1], [1, 0]), ([0, 1, 1, 1], [4, 5, 0]), ([1, 1, 1, 1], [4, 5, 0])]

noncomputable def strings_Builder_WriteString_E (N : Nat) : Env := mkEnv tys glob [(100, cc_res)] [] [] [0] false [] [(106, hmac_framed1_itr N)]

theorem strings_Builder_WriteString_Eok (N : Nat) : EnvOk Go.Proofs.Tryd.prog (strings_Builder_WriteString_E N) := mkEnv_ok mixed tys_ok (FnsOk.cons (cc_ct glob) (FnsOk.nil)) (ItsOk.cons (hmac_framed1_it N) (ItsOk.nil))

noncomputable def strings_Builder_WriteString (N : Nat) (b : (Unit × ((List Int) × Unit))) (s : (List UInt8)) : Option ((Int × Go.Value × Unit) × ((Unit × ((List Int) × Unit)) × Unit)) :=
  cond (decide ((((List.length b.2.1) + (List.length (Go.Lift.ofStr s))) * 1) ≤ 70368744177664))
  (some (((((List.length s) : Nat) : Int), (Go.Value.nilIface, ())), ((b.1, ((b.2.1 ++ (Go.Lift.ofStr s)), b.2.2)), ())))
  (none)

noncomputable def strings_Builder_WriteString_t (N : Nat) : Tab ((Int × Go.Value × Unit) × ((Unit × ((List Int) × Unit)) × Unit)) := []

theorem strings_Builder_WriteString_link (N : Nat) (x : denS [(0, .box (.pair (.self 99) (.pair (.own (.byt 5)) .unit))), (0, .v .str)]) : evFX (strings_Builder_WriteString_E N) N (strings_Builder_WriteString_t N) strings_Builder_WriteString_L Go.Proofs.Tryd.f87 (mkS [(0, .box (.pair (.self 99) (.pair (.own (.byt 5)) .unit))), (0, .v .str)] 0 x) (kResB (.tup [(.int .i64), .opq]) [(0, .box (.pair (.self 99) (.pair (.own (.byt 5)) .unit)))] 1) = strings_Builder_WriteString N x.1 x.2.1 := by kernel_rfl

noncomputable def strings_Builder_WriteString_res (N : Nat) : List A → Res := resOf [(0, .box (.pair (.self 99) (.pair (.own (.byt 5)) .unit))), (0, .v .str)] (fun x => strings_Builder_WriteString N x.1 x.2.1) (oResB (.tup [(.int .i64), .opq]) [(0, .box (.pair (.self 99) (.pair (.own (.byt 5)) .unit)))] 1)

theorem strings_Builder_WriteString_ct (N : Nat) : Contract Go.Proofs.Tryd.prog glob 87 (strings_Builder_WriteString_res N) :=
  Contract.of (E := strings_Builder_WriteString_E N) (H := strings_Builder_WriteString_t N) (L := strings_Builder_WriteString_L) (N := N) (body := strings_Builder_WriteString_body) (K := (kResB (.tup [(.int .i64), .opq]) [(0, .box (.pair (.self 99) (.pair (.own (.byt 5)) .unit)))] 1)) (strings_Builder_WriteString_Eok N) Go.Proofs.Tryd.func87 (by kernel_rfl) (by decide) (fun _ hb => TabOk.nil) (fun x y h => by rw [strings_Builder_WriteString_link]; exact h) (kResB_ok (s := (.tup [(.int .i64), .opq])) (os := [(0, .box (.pair (.self 99) (.pair (.own (.byt 5)) .unit)))]) (m := 1))

abbrev hmac_Frame_R : Type := (List UInt8)

noncomputable def hmac_Frame_body : Code := (Go.Proofs.Tryd.f83.body).getD .skip

noncomputable def hmac_Frame_L : List (List Nat × List Nat) := [([0], [0]), ([0, 1], [0, 3]), ([0, 0, 1, 1], [6, 3]), ([0, 1, 0, 1, 1], [3]), ([0, 0, 1, 0, 1, 1], [4, 3]), ([0, 1, 0, 1, 0, 1, 1], [3]), ([1, 0, 1, 0, 1, 1], [3]), ([1, 0, 1, 1], [3]), ([0, 1, 1, 1], [2]), ([1, 1, 1, 1], [2])]

noncomputable def hmac_Frame_E (N : Nat) : Env := mkEnv tys glob [(87, strings_Builder_WriteString_res N), (97, hmac_framed_res N), (88, str_res)] [] [] [] false [(3, (.pair (.self 99) (.pair (.own (.byt 5)) .unit)))] [(106, hmac_framed1_itr N)]

theorem hmac_Frame_Eok (N : Nat) : EnvOk Go.Proofs.Tryd.prog (hmac_Frame_E N) := mkEnv_ok mixed tys_ok (FnsOk.cons (strings_Builder_WriteString_ct N) (FnsOk.cons (hmac_framed_ct N) (FnsOk.cons (str_ct glob) (FnsOk.nil)))) (ItsOk.cons (hmac_framed1_it N) (ItsOk.nil))

noncomputable def hmac_Frame_s1 (N : Nat) (out_1 : (Unit × ((List Int) × Unit))) (y : ((List UInt8) × Unit)) (rec : (Unit × ((List Int) × Unit)) → Option (List UInt8)) (k0 : (Unit × ((List Int) × Unit)) → Option (List UInt8)) : Option (List UInt8) :=
  (strings_Builder_WriteString N out_1 y.1).bind fun y1 =>
  rec y1.2.1

noncomputable def hmac_Frame_fit1 (N : Nat) (out : (Unit × ((List Int) × Unit))) (x6 : ((List (List UInt8)) × Unit)) : Option (List ((List UInt8) × Unit)) := (hmac_framed1 N x6.1)

noncomputable def hmac_Frame_i1 (N : Nat) (out : (Unit × ((List Int) × Unit))) (x6 : ((List (List UInt8)) × Unit)) : Unit := ()

noncomputable def hmac_Frame_v1 (N : Nat) (out : (Unit × ((List Int) × Unit))) (x6 : ((List (List UInt8)) × Unit)) : (Unit × ((List Int) × Unit)) := out

noncomputable def hmac_Frame_p1 (N : Nat) (out : (Unit × ((List Int) × Unit))) (x6 : ((List (List UInt8)) × Unit)) (k0 : (Unit × ((List Int) × Unit)) → Option (List UInt8)) : Option (List UInt8) :=
  (hmac_Frame_fit1 N out x6).bind fun ys => iterL (fun (y : ((List UInt8) × Unit)) (v : (Unit × ((List Int) × Unit))) r => hmac_Frame_s1 N v y (fun out_1 => (r out_1)) k0) (fun (v : (Unit × ((List Int) × Unit))) => k0 v) ys out

noncomputable def hmac_Frame_g1 (N : Nat) (y : ((List UInt8) × Unit)) (i : Unit) (v : (Unit × ((List Int) × Unit))) (r : (Unit × ((List Int) × Unit)) → Option (List UInt8)) (K : Ex → List A → Option (List UInt8)) : Option (List UInt8) :=
  hmac_Frame_s1 N v y (fun out_1 => (r out_1)) (fun a0 => (K .normal (mkS [(3, .box (.pair (.self 99) (.pair (.own (.byt 5)) .unit)))] 7 (a0, ()))))

noncomputable def hmac_Frame_h1 (N : Nat) : Hd (List UInt8) := fun st K => (unS [(3, .box (.pair (.self 99) (.pair (.own (.byt 5)) .unit))), (2, .v (.fn 106 (.pair (.ptr (.sl .str)) .unit)))] 4 (restr [6, 3] 0 st)).bind fun x => ((fun x => hmac_Frame_fit1 N x.1 x.2.1) x).bind fun xs => iterL (fun y v r => hmac_Frame_g1 N y ((fun x => hmac_Frame_i1 N x.1 x.2.1) x) v r K) (fun v => K .normal (mkS [(3, .box (.pair (.self 99) (.pair (.own (.byt 5)) .unit)))] 7 ((fun i v => (v, ())) ((fun x => hmac_Frame_i1 N x.1 x.2.1) x) v))) xs ((fun x => hmac_Frame_v1 N x.1 x.2.1) x)

noncomputable def hmac_Frame_t1 (N : Nat) : Tab (List UInt8) := []

theorem hmac_Frame_ok1 {N : Nat} {c : Ctx} (hb : Base Go.Proofs.Tryd.prog (hmac_Frame_E N) c) : CodeOk Go.Proofs.Tryd.prog c (nodeAt hmac_Frame_body [0, 1, 0, 1, 1]) (hmac_Frame_h1 N) :=
  rf_ok (ts := [.str]) (s := [(3, .box (.pair (.self 99) (.pair (.own (.byt 5)) .unit))), (2, .v (.fn 106 (.pair (.ptr (.sl .str)) .unit)))]) (m := 4) (s2 := [(3, .box (.pair (.self 99) (.pair (.own (.byt 5)) .unit)))]) (m2 := 7) [6, 3] (fun x => hmac_Frame_fit1 N x.1 x.2.1) (fun x => hmac_Frame_i1 N x.1 x.2.1) (fun x => hmac_Frame_v1 N x.1 x.2.1) (fun i v => (v, ())) (rfF (hmac_Frame_E N) N [.str] (nodeAt hmac_Frame_body [0, 1, 0, 1, 1])) (hmac_Frame_g1 N) (evN_sound hb N [] hmac_Frame_L hmac_Frame_body TabOk.nil [0, 1, 0, 1, 1] _ rfl) (fun x K => by kernel_rfl) (fun y i v r K => by kernel_rfl)

noncomputable def hmac_Frame (N : Nat) (parts : (List (List UInt8))) : Option (List UInt8) :=
  hmac_Frame_p1 N ((), (([] : List Int), ())) (parts, ())
  (fun out_1 => (str_F (out_1, ())).bind fun y =>
    some y.1)

noncomputable def hmac_Frame_t (N : Nat) : Tab (List UInt8) := [([0, 1, 0, 1, 1], hmac_Frame_h1 N)]

theorem hmac_Frame_link (N : Nat) (x : denS [(0, .v (.sl .str))]) : evFX (hmac_Frame_E N) N (hmac_Frame_t N) hmac_Frame_L Go.Proofs.Tryd.f83 (mkS [(0, .v (.sl .str))] 0 x) (kRes (.v .str) 1) = hmac_Frame N x.1 := by kernel_rfl

noncomputable def hmac_Frame_res (N : Nat) : List A → Res := resOf [(0, .v (.sl .str))] (fun x => hmac_Frame N x.1) (oRes (.v .str) 1)

theorem hmac_Frame_ct (N : Nat) : Contract Go.Proofs.Tryd.prog glob 83 (hmac_Frame_res N) :=
  Contract.of (E := hmac_Frame_E N) (H := hmac_Frame_t N) (L := hmac_Frame_L) (N := N) (body := hmac_Frame_body) (K := (kRes (.v .str) 1)) (hmac_Frame_Eok N) Go.Proofs.Tryd.func83 (by kernel_rfl) (by decide) (fun _ hb => (TabOk.cons (hmac_Frame_ok1 hb) TabOk.nil)) (fun x y h => by rw [hmac_Frame_link]; exact h) (kRes_ok (s := (.v .str)) (m := 1))

abbrev sha_First_R : Type := (List Int)

noncomputable def sha_First_body : Code := (Go.Proofs.Tryd.f110.body).getD .skip

noncomputable def sha_First_L : List (List Nat × List Nat) := [([0], [0]), ([0, 1], [0]), ([1, 1], [0])]

noncomputable def sha_First_E (N : Nat) : Env := mkEnv tys glob [] [] [] [] false [] [(106, hmac_framed1_itr N)]

theorem sha_First_Eok (N : Nat) : EnvOk Go.Proofs.Tryd.prog (sha_First_E N) := mkEnv_ok mixed tys_ok (FnsOk.nil) (ItsOk.cons (hmac_framed1_it N) (ItsOk.nil))

noncomputable def sha_First (N : Nat) : Option (List Int) :=
  some ([(1779033703 : Int), (3144134277 : Int), (1013904242 : Int), (2773480762 : Int), (1359893119 : Int), (2600822924 : Int), (528734635 : Int), (1541459225 : Int)] : List Int)

noncomputable def sha_First_t (N : Nat) : Tab (List Int) := []

theorem sha_First_link (N : Nat) (x : denS []) : evFX (sha_First_E N) N (sha_First_t N) sha_First_L Go.Proofs.Tryd.f110 (mkS [] 0 x) (kRes (.v (.arr 8 (.int .u32))) 0) = sha_First N := by kernel_rfl

noncomputable def sha_First_res (N : Nat) : List A → Res := resOf [] (fun x => sha_First N) (oRes (.v (.arr 8 (.int .u32))) 0)

theorem sha_First_ct (N : Nat) : Contract Go.Proofs.Tryd.prog glob 110 (sha_First_res N) :=
  Contract.of (E := sha_First_E N) (H := sha_First_t N) (L := sha_First_L) (N := N) (body := sha_First_body) (K := (kRes (.v (.arr 8 (.int .u32))) 0)) (sha_First_Eok N) Go.Proofs.Tryd.func110 (by kernel_rfl) (by decide) (fun _ hb => TabOk.nil) (fun x y h => by rw [sha_First_link]; exact h) (kRes_ok (s := (.v (.arr 8 (.int .u32)))) (m := 0))

abbrev sha_New_R : Type := (Bool × ((List Int) × ((List UInt8) × (Int × Unit))))

noncomputable def sha_New_body : Code := (Go.Proofs.Tryd.f101.body).getD .skip

noncomputable def sha_New_L : List (List Nat × List Nat) := [([0], []), ([0, 1], [0]), ([1, 1], [0])]

noncomputable def sha_New_E (N : Nat) : Env := mkEnv tys glob [(110, sha_First_res N)] [] [] [] false [] [(106, hmac_framed1_itr N)]

theorem sha_New_Eok (N : Nat) : EnvOk Go.Proofs.Tryd.prog (sha_New_E N) := mkEnv_ok mixed tys_ok (FnsOk.cons (sha_First_ct N) (FnsOk.nil)) (ItsOk.cons (hmac_framed1_it N) (ItsOk.nil))

noncomputable def sha_New (N : Nat) : Option (Bool × ((List Int) × ((List UInt8) × (Int × Unit)))) :=
  some (true, (([(1779033703 : Int), (3144134277 : Int), (1013904242 : Int), (2773480762 : Int), (1359893119 : Int), (2600822924 : Int), (528734635 : Int), (1541459225 : Int)] : List Int), (([] : List UInt8), ((0 : Int), ()))))

noncomputable def sha_New_t (N : Nat) : Tab (Bool × ((List Int) × ((List UInt8) × (Int × Unit)))) := []

theorem sha_New_link (N : Nat) (x : denS []) : evFX (sha_New_E N) N (sha_New_t N) sha_New_L Go.Proofs.Tryd.f101 (mkS [] 0 x) (kRes (.box (.pair .bool (.pair (.arr 8 (.int .u32)) (.pair .str (.pair (.int .i64) .unit))))) 0) = sha_New N := by kernel_rfl

noncomputable def sha_New_res (N : Nat) : List A → Res := resOf [] (fun x => sha_New N) (oRes (.box (.pair .bool (.pair (.arr 8 (.int .u32)) (.pair .str (.pair (.int .i64) .unit))))) 0)

theorem sha_New_ct (N : Nat) : Contract Go.Proofs.Tryd.prog glob 101 (sha_New_res N) :=
  Contract.of (E := sha_New_E N) (H := sha_New_t N) (L := sha_New_L) (N := N) (body := sha_New_body) (K := (kRes (.box (.pair .bool (.pair (.arr 8 (.int .u32)) (.pair .str (.pair (.int .i64) .unit))))) 0)) (sha_New_Eok N) Go.Proofs.Tryd.func101 (by kernel_rfl) (by decide) (fun _ hb => TabOk.nil) (fun x y h => by rw [sha_New_link]; exact h) (kRes_ok (s := (.box (.pair .bool (.pair (.arr 8 (.int .u32)) (.pair .str (.pair (.int .i64) .unit)))))) (m := 0))

abbrev math_bits_RotateLeft32_R : Type := Int

noncomputable def math_bits_RotateLeft32_body : Code := (Go.Proofs.Tryd.f128.body).getD .skip

noncomputable def math_bits_RotateLeft32_L : List (List Nat × List Nat) := [([0], [1, 0]), ([0, 1], [0, 5]), ([0, 1, 1], [4]), ([1, 1, 1], [4])]

noncomputable def math_bits_RotateLeft32_E (N : Nat) : Env := mkEnv tys glob [] [] [] [] false [] [(106, hmac_framed1_itr N)]

theorem math_bits_RotateLeft32_Eok (N : Nat) : EnvOk Go.Proofs.Tryd.prog (math_bits_RotateLeft32_E N) := mkEnv_ok mixed tys_ok (FnsOk.nil) (ItsOk.cons (hmac_framed1_it N) (ItsOk.nil))

noncomputable def math_bits_RotateLeft32 (N : Nat) (x0 : Int) (k : Int) : Option Int :=
  cond (decide ((0 : Int) ≤ (Go.IntKind.wrap Go.IntKind.u64 ((32 : Int) - (Go.Lift.bitsOp Go.BinOp.and Go.IntKind.u64 (Go.IntKind.wrap Go.IntKind.u64 k) (31 : Int))))))
  (some (Go.Lift.bitsOp Go.BinOp.or Go.IntKind.u32 (Go.Lift.shlI Go.IntKind.u32 x0 (Go.Lift.bitsOp Go.BinOp.and Go.IntKind.u64 (Go.IntKind.wrap Go.IntKind.u64 k) (31 : Int))) (Go.Lift.shrI Go.IntKind.u32 x0 (Go.IntKind.wrap Go.IntKind.u64 ((32 : Int) - (Go.Lift.bitsOp Go.BinOp.and Go.IntKind.u64 (Go.IntKind.wrap Go.IntKind.u64 k) (31 : Int)))))))
  (none)

noncomputable def math_bits_RotateLeft32_t (N : Nat) : Tab Int := []

theorem math_bits_RotateLeft32_link (N : Nat) (x : denS [(0, .v (.int .u32)), (0, .v (.int .i64))]) : evFX (math_bits_RotateLeft32_E N) N (math_bits_RotateLeft32_t N) math_bits_RotateLeft32_L Go.Proofs.Tryd.f128 (mkS [(0, .v (.int .u32)), (0, .v (.int .i64))] 0 x) (kRes (.v (.int .u32)) 2) = math_bits_RotateLeft32 N x.1 x.2.1 := by kernel_rfl

noncomputable def math_bits_RotateLeft32_res (N : Nat) : List A → Res := resOf [(0, .v (.int .u32)), (0, .v (.int .i64))] (fun x => math_bits_RotateLeft32 N x.1 x.2.1) (oRes (.v (.int .u32)) 2)

theorem math_bits_RotateLeft32_ct (N : Nat) : Contract Go.Proofs.Tryd.prog glob 128 (math_bits_RotateLeft32_res N) :=
  Contract.of (E := math_bits_RotateLeft32_E N) (H := math_bits_RotateLeft32_t N) (L := math_bits_RotateLeft32_L) (N := N) (body := math_bits_RotateLeft32_body) (K := (kRes (.v (.int .u32)) 2)) (math_bits_RotateLeft32_Eok N) Go.Proofs.Tryd.func128 (by kernel_rfl) (by decide) (fun _ hb => TabOk.nil) (fun x y h => by rw [math_bits_RotateLeft32_link]; exact h) (kRes_ok (s := (.v (.int .u32))) (m := 2))

abbrev sha_ror_R : Type := Int

noncomputable def sha_ror_body : Code := (Go.Proofs.Tryd.f127.body).getD .skip

noncomputable def sha_ror_L : List (List Nat × List Nat) := [([0], [0, 1]), ([0, 1], [4]), ([1, 1], [4])]

noncomputable def sha_ror_E (N : Nat) : Env := mkEnv tys glob [(128, math_bits_RotateLeft32_res N)] [] [] [] false [] [(106, hmac_framed1_itr N)]

theorem sha_ror_Eok (N : Nat) : EnvOk Go.Proofs.Tryd.prog (sha_ror_E N) := mkEnv_ok mixed tys_ok (FnsOk.cons (math_bits_RotateLeft32_ct N) (FnsOk.nil)) (ItsOk.cons (hmac_framed1_it N) (ItsOk.nil))

noncomputable def sha_ror (N : Nat) (x0 : Int) (n : Int) : Option Int :=
  (math_bits_RotateLeft32 N x0 (Go.IntKind.wrap Go.IntKind.i64 ((0 : Int) - n))).bind fun y =>
  some y

noncomputable def sha_ror_t (N : Nat) : Tab Int := []

theorem sha_ror_link (N : Nat) (x : denS [(0, .v (.int .u32)), (0, .v (.int .i64))]) : evFX (sha_ror_E N) N (sha_ror_t N) sha_ror_L Go.Proofs.Tryd.f127 (mkS [(0, .v (.int .u32)), (0, .v (.int .i64))] 0 x) (kRes (.v (.int .u32)) 2) = sha_ror N x.1 x.2.1 := by kernel_rfl

noncomputable def sha_ror_res (N : Nat) : List A → Res := resOf [(0, .v (.int .u32)), (0, .v (.int .i64))] (fun x => sha_ror N x.1 x.2.1) (oRes (.v (.int .u32)) 2)

theorem sha_ror_ct (N : Nat) : Contract Go.Proofs.Tryd.prog glob 127 (sha_ror_res N) :=
  Contract.of (E := sha_ror_E N) (H := sha_ror_t N) (L := sha_ror_L) (N := N) (body := sha_ror_body) (K := (kRes (.v (.int .u32)) 2)) (sha_ror_Eok N) Go.Proofs.Tryd.func127 (by kernel_rfl) (by decide) (fun _ hb => TabOk.nil) (fun x y h => by rw [sha_ror_link]; exact h) (kRes_ok (s := (.v (.int .u32))) (m := 2))

abbrev sha_schedule_R : Type := (List Int)

noncomputable def sha_schedule_body : Code := (Go.Proofs.Tryd.f124.body).getD .skip

noncomputable def sha_schedule_L : List (List Nat × List Nat) := [([0], [0, 2]), ([0, 1], [0, 3, 2]), ([0, 0, 1, 1], [11, 0, 3, 2]), ([0, 1, 0, 1, 1], [11, 0, 3, 2]), ([0, 0, 0, 1, 0, 1, 1], [12, 11, 0, 3, 2]), ([0, 1, 0, 0, 1, 0, 1, 1], [11, 0, 3, 2]), ([1, 0, 1, 0, 0, 1, 0, 1, 1], [3, 2]), ([0, 0, 0, 1, 1, 0, 0, 1, 0, 1, 1], [0, 4, 3, 11, 2]), ([0, 1, 0, 0, 1, 1, 0, 0, 1, 0, 1, 1], [4, 5, 3, 11, 0, 2]), ([1, 1, 0, 0, 1, 1, 0, 0, 1, 0, 1, 1], [11, 0, 3, 2]), ([0, 1, 1, 0, 0, 1, 0, 1, 1], [11, 0, 3, 2]), ([1, 1, 1, 0, 0, 1, 0, 1, 1], [11, 0, 3, 2]), ([1, 0, 1, 1], [3, 2]), ([0, 0, 1, 1, 1], [6, 3, 2]), ([0, 1, 0, 1, 1, 1], [6, 3, 2]), ([0, 0, 0, 0, 1, 0, 1, 1, 1], [43, 6, 3, 2]), ([1, 0, 0, 0, 1, 0, 1, 1, 1], [6, 3, 2]), ([1, 1, 0, 0, 0, 1, 0, 1, 1, 1], [3, 2]), ([0, 0, 0, 1, 0, 0, 1, 0, 1, 1, 1], [7, 8, 6, 3, 2]), ([0, 1, 0, 0, 1, 0, 0, 1, 0, 1, 1, 1], [8, 6, 3, 9, 2]), ([0, 1, 1, 0, 0, 1, 0, 0, 1, 0, 1, 1, 1], [6, 10, 3, 9, 2]), ([1, 1, 1, 0, 0, 1, 0, 0, 1, 0, 1, 1, 1], [6, 3, 2]), ([0, 1, 0, 0, 1, 0, 1, 1, 1], [6, 3, 2]), ([1, 1, 0, 0, 1, 0, 1, 1, 1], [6, 3, 2]), ([1, 0, 1, 1, 1], [3, 2]), ([0, 1, 1, 1, 1], [2]), ([1, 1, 1, 1, 1], [2])]

noncomputable def sha_schedule_E (N : Nat) : Env := mkEnv tys glob [(127, sha_ror_res N)] [] [] [] false [] [(106, hmac_framed1_itr N)]

theorem sha_schedule_Eok (N : Nat) : EnvOk Go.Proofs.Tryd.prog (sha_schedule_E N) := mkEnv_ok mixed tys_ok (FnsOk.cons (sha_ror_ct N) (FnsOk.nil)) (ItsOk.cons (hmac_framed1_it N) (ItsOk.nil))

noncomputable def sha_schedule_s1 (N : Nat) (block : (List UInt8)) (x2 : (List Int)) (w : (List Int)) (x11 : Int) (rec : (List Int) → Int → Option (List Int)) (k0 : (List Int) → Option (List Int)) : Option (List Int) :=
  cond (decide (x11 < (16 : Int)))
  (cond (decide (((0 : Int) ≤ (Go.IntKind.wrap Go.IntKind.i64 ((Go.IntKind.wrap Go.IntKind.i64 ((4 : Int) * x11)) + (4 : Int)))) ∧ ((Go.IntKind.wrap Go.IntKind.i64 ((Go.IntKind.wrap Go.IntKind.i64 ((4 : Int) * x11)) + (4 : Int))) ≤ (((List.length block) : Nat) : Int))))
    (cond (decide (((0 : Int) ≤ (Go.IntKind.wrap Go.IntKind.i64 ((4 : Int) * x11))) ∧ ((Go.IntKind.wrap Go.IntKind.i64 ((4 : Int) * x11)) ≤ (Go.IntKind.wrap Go.IntKind.i64 ((Go.IntKind.wrap Go.IntKind.i64 ((4 : Int) * x11)) + (4 : Int))))))
      (cond (Go.Lift.inR (0 : Int) (List.length (Go.Lift.cut block (Int.toNat (Go.IntKind.wrap Go.IntKind.i64 ((4 : Int) * x11))) (Int.toNat (Go.IntKind.wrap Go.IntKind.i64 ((Go.IntKind.wrap Go.IntKind.i64 ((4 : Int) * x11)) + (4 : Int)))))))
        (cond (Go.Lift.inR (1 : Int) (List.length (Go.Lift.cut block (Int.toNat (Go.IntKind.wrap Go.IntKind.i64 ((4 : Int) * x11))) (Int.toNat (Go.IntKind.wrap Go.IntKind.i64 ((Go.IntKind.wrap Go.IntKind.i64 ((4 : Int) * x11)) + (4 : Int)))))))
          (cond (Go.Lift.inR (2 : Int) (List.length (Go.Lift.cut block (Int.toNat (Go.IntKind.wrap Go.IntKind.i64 ((4 : Int) * x11))) (Int.toNat (Go.IntKind.wrap Go.IntKind.i64 ((Go.IntKind.wrap Go.IntKind.i64 ((4 : Int) * x11)) + (4 : Int)))))))
            (cond (Go.Lift.inR (3 : Int) (List.length (Go.Lift.cut block (Int.toNat (Go.IntKind.wrap Go.IntKind.i64 ((4 : Int) * x11))) (Int.toNat (Go.IntKind.wrap Go.IntKind.i64 ((Go.IntKind.wrap Go.IntKind.i64 ((4 : Int) * x11)) + (4 : Int)))))))
              (cond (Go.Lift.inR x11 64)
                (cond (decide ((Int.toNat x11) < (List.length w)))
                  (rec (List.set w (Int.toNat x11) (Go.Lift.bitsOp Go.BinOp.or Go.IntKind.u32 (Go.Lift.bitsOp Go.BinOp.or Go.IntKind.u32 (Go.Lift.bitsOp Go.BinOp.or Go.IntKind.u32 (Go.Lift.shlI Go.IntKind.u32 (Go.IntKind.wrap Go.IntKind.u32 (((UInt8.toNat (List.getD (Go.Lift.cut block (Int.toNat (Go.IntKind.wrap Go.IntKind.i64 ((4 : Int) * x11))) (Int.toNat (Go.IntKind.wrap Go.IntKind.i64 ((Go.IntKind.wrap Go.IntKind.i64 ((4 : Int) * x11)) + (4 : Int))))) 0 (0 : UInt8))) : Nat) : Int)) (24 : Int)) (Go.Lift.shlI Go.IntKind.u32 (Go.IntKind.wrap Go.IntKind.u32 (((UInt8.toNat (List.getD (Go.Lift.cut block (Int.toNat (Go.IntKind.wrap Go.IntKind.i64 ((4 : Int) * x11))) (Int.toNat (Go.IntKind.wrap Go.IntKind.i64 ((Go.IntKind.wrap Go.IntKind.i64 ((4 : Int) * x11)) + (4 : Int))))) 1 (0 : UInt8))) : Nat) : Int)) (16 : Int))) (Go.Lift.shlI Go.IntKind.u32 (Go.IntKind.wrap Go.IntKind.u32 (((UInt8.toNat (List.getD (Go.Lift.cut block (Int.toNat (Go.IntKind.wrap Go.IntKind.i64 ((4 : Int) * x11))) (Int.toNat (Go.IntKind.wrap Go.IntKind.i64 ((Go.IntKind.wrap Go.IntKind.i64 ((4 : Int) * x11)) + (4 : Int))))) 2 (0 : UInt8))) : Nat) : Int)) (8 : Int))) (Go.IntKind.wrap Go.IntKind.u32 (((UInt8.toNat (List.getD (Go.Lift.cut block (Int.toNat (Go.IntKind.wrap Go.IntKind.i64 ((4 : Int) * x11))) (Int.toNat (Go.IntKind.wrap Go.IntKind.i64 ((Go.IntKind.wrap Go.IntKind.i64 ((4 : Int) * x11)) + (4 : Int))))) 3 (0 : UInt8))) : Nat) : Int)))) (Go.IntKind.wrap Go.IntKind.i64 (x11 + (1 : Int))))
                  (none))
                (none))
              (none))
            (none))
          (none))
        (none))
      (none))
    (none))
  (k0 w)

noncomputable def sha_schedule_p1 (N : Nat) (block : (List UInt8)) (x2 : (List Int)) (w : (List Int)) (x11 : Int) (k0 : (List Int) → Option (List Int)) : Option (List Int) :=
  iter (fun (v : ((List Int) × Int)) r => sha_schedule_s1 N block x2 v.1 v.2 (fun w x11 => (r (w, x11))) k0) N (w, x11)

noncomputable def sha_schedule_g1 (N : Nat) (i : ((List UInt8) × (List Int))) (v : ((List Int) × Int)) (r : ((List Int) × Int) → Option (List Int)) (K : Ex → List A → Option (List Int)) : Option (List Int) :=
  sha_schedule_s1 N i.1 i.2 v.1 v.2 (fun w x11 => (r (w, x11))) (fun a1 => (K (.exit 0) (mkS [(2, .box (.arr 64 (.int .u32))), (0, .box (.arr 64 (.int .u32)))] 82 (i.2, a1, ()))))

noncomputable def sha_schedule_h1 (N : Nat) : Hd (List Int) := fun st K => (unS [(0, .v .str), (1, .box (.arr 64 (.int .u32))), (0, .box (.arr 64 (.int .u32))), (7, .v (.int .i64))] 74 (restr [11, 0, 3, 2] 0 st)).bind fun x => iter (fun v r => sha_schedule_g1 N ((fun x => (x.1, x.2.1)) x) v r K) N ((fun x => (x.2.2.1, x.2.2.2.1)) x)

noncomputable def sha_schedule_t1 (N : Nat) : Tab (List Int) := []

theorem sha_schedule_ok1 {N : Nat} {c : Ctx} (hb : Base Go.Proofs.Tryd.prog (sha_schedule_E N) c) : CodeOk Go.Proofs.Tryd.prog c (nodeAt sha_schedule_body [0, 1, 0, 1, 1]) (sha_schedule_h1 N) :=
  loop_ok (s := [(0, .v .str), (1, .box (.arr 64 (.int .u32))), (0, .box (.arr 64 (.int .u32))), (7, .v (.int .i64))]) (m := 74) (sha_schedule_g1 N) [11, 0, 3, 2] N (fun x => (x.1, x.2.1)) (fun x => (x.2.2.1, x.2.2.2.1)) (fun i v => (i.1, i.2, v.1, v.2, ())) (fun _ => rfl) (evN_sound hb N (sha_schedule_t1 N) sha_schedule_L sha_schedule_body TabOk.nil [0, 0, 1, 0, 1, 1] _ rfl) (fun i v r K => by kernel_rfl)

noncomputable def sha_schedule_s2 (N : Nat) (x2 : (List Int)) (w : (List Int)) (t : Int) (rec : (List Int) → Int → Option (List Int)) (k0 : (List Int) → Option (List Int)) : Option (List Int) :=
  cond (decide (t < (64 : Int)))
  (cond (Go.Lift.inR (Go.IntKind.wrap Go.IntKind.i64 (t - (15 : Int))) 64)
    (cond (decide ((Int.toNat (Go.IntKind.wrap Go.IntKind.i64 (t - (15 : Int)))) < (List.length w)))
      (cond (Go.Lift.inR (Go.IntKind.wrap Go.IntKind.i64 (t - (2 : Int))) 64)
        (cond (decide ((Int.toNat (Go.IntKind.wrap Go.IntKind.i64 (t - (2 : Int)))) < (List.length w)))
          (cond (Go.Lift.inR (Go.IntKind.wrap Go.IntKind.i64 (t - (7 : Int))) 64)
            (cond (decide ((Int.toNat (Go.IntKind.wrap Go.IntKind.i64 (t - (7 : Int)))) < (List.length w)))
              (cond (Go.Lift.inR (Go.IntKind.wrap Go.IntKind.i64 (t - (16 : Int))) 64)
                (cond (decide ((Int.toNat (Go.IntKind.wrap Go.IntKind.i64 (t - (16 : Int)))) < (List.length w)))
                  (cond (Go.Lift.inR t 64)
                    (cond (decide ((Int.toNat t) < (List.length w)))
                      (rec (List.set w (Int.toNat t) (Go.IntKind.wrap Go.IntKind.u32 ((Go.IntKind.wrap Go.IntKind.u32 ((Go.IntKind.wrap Go.IntKind.u32 ((Go.Lift.bitsOp Go.BinOp.xor Go.IntKind.u32 (Go.Lift.bitsOp Go.BinOp.xor Go.IntKind.u32 (Go.Lift.bitsOp Go.BinOp.or Go.IntKind.u32 (Go.Lift.shlI Go.IntKind.u32 (List.getD w (Int.toNat (Go.IntKind.wrap Go.IntKind.i64 (t - (2 : Int)))) (0 : Int)) (Go.Lift.bitsOp Go.BinOp.and Go.IntKind.u64 (Go.IntKind.wrap Go.IntKind.u64 (Go.IntKind.wrap Go.IntKind.i64 ((0 : Int) - (17 : Int)))) (31 : Int))) (Go.Lift.shrI Go.IntKind.u32 (List.getD w (Int.toNat (Go.IntKind.wrap Go.IntKind.i64 (t - (2 : Int)))) (0 : Int)) (Go.IntKind.wrap Go.IntKind.u64 ((32 : Int) - (Go.Lift.bitsOp Go.BinOp.and Go.IntKind.u64 (Go.IntKind.wrap Go.IntKind.u64 (Go.IntKind.wrap Go.IntKind.i64 ((0 : Int) - (17 : Int)))) (31 : Int)))))) (Go.Lift.bitsOp Go.BinOp.or Go.IntKind.u32 (Go.Lift.shlI Go.IntKind.u32 (List.getD w (Int.toNat (Go.IntKind.wrap Go.IntKind.i64 (t - (2 : Int)))) (0 : Int)) (Go.Lift.bitsOp Go.BinOp.and Go.IntKind.u64 (Go.IntKind.wrap Go.IntKind.u64 (Go.IntKind.wrap Go.IntKind.i64 ((0 : Int) - (19 : Int)))) (31 : Int))) (Go.Lift.shrI Go.IntKind.u32 (List.getD w (Int.toNat (Go.IntKind.wrap Go.IntKind.i64 (t - (2 : Int)))) (0 : Int)) (Go.IntKind.wrap Go.IntKind.u64 ((32 : Int) - (Go.Lift.bitsOp Go.BinOp.and Go.IntKind.u64 (Go.IntKind.wrap Go.IntKind.u64 (Go.IntKind.wrap Go.IntKind.i64 ((0 : Int) - (19 : Int)))) (31 : Int))))))) (Go.Lift.shrI Go.IntKind.u32 (List.getD w (Int.toNat (Go.IntKind.wrap Go.IntKind.i64 (t - (2 : Int)))) (0 : Int)) (10 : Int))) + (List.getD w (Int.toNat (Go.IntKind.wrap Go.IntKind.i64 (t - (7 : Int)))) (0 : Int)))) + (Go.Lift.bitsOp Go.BinOp.xor Go.IntKind.u32 (Go.Lift.bitsOp Go.BinOp.xor Go.IntKind.u32 (Go.Lift.bitsOp Go.BinOp.or Go.IntKind.u32 (Go.Lift.shlI Go.IntKind.u32 (List.getD w (Int.toNat (Go.IntKind.wrap Go.IntKind.i64 (t - (15 : Int)))) (0 : Int)) (Go.Lift.bitsOp Go.BinOp.and Go.IntKind.u64 (Go.IntKind.wrap Go.IntKind.u64 (Go.IntKind.wrap Go.IntKind.i64 ((0 : Int) - (7 : Int)))) (31 : Int))) (Go.Lift.shrI Go.IntKind.u32 (List.getD w (Int.toNat (Go.IntKind.wrap Go.IntKind.i64 (t - (15 : Int)))) (0 : Int)) (Go.IntKind.wrap Go.IntKind.u64 ((32 : Int) - (Go.Lift.bitsOp Go.BinOp.and Go.IntKind.u64 (Go.IntKind.wrap Go.IntKind.u64 (Go.IntKind.wrap Go.IntKind.i64 ((0 : Int) - (7 : Int)))) (31 : Int)))))) (Go.Lift.bitsOp Go.BinOp.or Go.IntKind.u32 (Go.Lift.shlI Go.IntKind.u32 (List.getD w (Int.toNat (Go.IntKind.wrap Go.IntKind.i64 (t - (15 : Int)))) (0 : Int)) (Go.Lift.bitsOp Go.BinOp.and Go.IntKind.u64 (Go.IntKind.wrap Go.IntKind.u64 (Go.IntKind.wrap Go.IntKind.i64 ((0 : Int) - (18 : Int)))) (31 : Int))) (Go.Lift.shrI Go.IntKind.u32 (List.getD w (Int.toNat (Go.IntKind.wrap Go.IntKind.i64 (t - (15 : Int)))) (0 : Int)) (Go.IntKind.wrap Go.IntKind.u64 ((32 : Int) - (Go.Lift.bitsOp Go.BinOp.and Go.IntKind.u64 (Go.IntKind.wrap Go.IntKind.u64 (Go.IntKind.wrap Go.IntKind.i64 ((0 : Int) - (18 : Int)))) (31 : Int))))))) (Go.Lift.shrI Go.IntKind.u32 (List.getD w (Int.toNat (Go.IntKind.wrap Go.IntKind.i64 (t - (15 : Int)))) (0 : Int)) (3 : Int))))) + (List.getD w (Int.toNat (Go.IntKind.wrap Go.IntKind.i64 (t - (16 : Int)))) (0 : Int))))) (Go.IntKind.wrap Go.IntKind.i64 (t + (1 : Int))))
                      (none))
                    (none))
                  (none))
                (none))
              (none))
            (none))
          (none))
        (none))
      (none))
    (none))
  (k0 w)

noncomputable def sha_schedule_p2 (N : Nat) (x2 : (List Int)) (w : (List Int)) (t : Int) (k0 : (List Int) → Option (List Int)) : Option (List Int) :=
  iter (fun (v : ((List Int) × Int)) r => sha_schedule_s2 N x2 v.1 v.2 (fun w t => (r (w, t))) k0) N (w, t)

noncomputable def sha_schedule_g2 (N : Nat) (i : (List Int)) (v : ((List Int) × Int)) (r : ((List Int) × Int) → Option (List Int)) (K : Ex → List A → Option (List Int)) : Option (List Int) :=
  sha_schedule_s2 N i v.1 v.2 (fun w t => (r (w, t))) (fun a1 => (K (.exit 2) (mkS [(2, .box (.arr 64 (.int .u32))), (0, .box (.arr 64 (.int .u32)))] 82 (i, a1, ()))))

noncomputable def sha_schedule_h2 (N : Nat) : Hd (List Int) := fun st K => (unS [(2, .box (.arr 64 (.int .u32))), (0, .box (.arr 64 (.int .u32))), (2, .v (.int .i64))] 79 (restr [6, 3, 2] 0 st)).bind fun x => iter (fun v r => sha_schedule_g2 N ((fun x => x.1) x) v r K) N ((fun x => (x.2.1, x.2.2.1)) x)

noncomputable def sha_schedule_t2 (N : Nat) : Tab (List Int) := []

theorem sha_schedule_ok2 {N : Nat} {c : Ctx} (hb : Base Go.Proofs.Tryd.prog (sha_schedule_E N) c) : CodeOk Go.Proofs.Tryd.prog c (nodeAt sha_schedule_body [0, 1, 0, 1, 1, 1]) (sha_schedule_h2 N) :=
  loop_ok (s := [(2, .box (.arr 64 (.int .u32))), (0, .box (.arr 64 (.int .u32))), (2, .v (.int .i64))]) (m := 79) (sha_schedule_g2 N) [6, 3, 2] N (fun x => x.1) (fun x => (x.2.1, x.2.2.1)) (fun i v => (i, v.1, v.2, ())) (fun _ => rfl) (evN_sound hb N (sha_schedule_t2 N) sha_schedule_L sha_schedule_body TabOk.nil [0, 0, 1, 0, 1, 1, 1] _ rfl) (fun i v r K => by kernel_rfl)

noncomputable def sha_schedule (N : Nat) (block : (List UInt8)) : Option (List Int) :=
  sha_schedule_p1 N block ((0 : Int) :: (0 : Int) :: (0 : Int) :: (0 : Int) :: (0 : Int) :: (0 : Int) :: (0 : Int) :: (0 : Int) :: (0 : Int) :: (0 : Int) :: (0 : Int) :: (0 : Int) :: (0 : Int) :: (0 : Int) :: (0 : Int) :: (0 : Int) :: (0 : Int) :: (0 : Int) :: (0 : Int) :: (0 : Int) :: (0 : Int) :: (0 : Int) :: (0 : Int) :: (0 : Int) :: (0 : Int) :: (0 : Int) :: (0 : Int) :: (0 : Int) :: (0 : Int) :: (0 : Int) :: (0 : Int) :: (0 : Int) :: (0 : Int) :: (0 : Int) :: (0 : Int) :: (0 : Int) :: (0 : Int) :: (0 : Int) :: (0 : Int) :: (0 : Int) :: (0 : Int) :: (0 : Int) :: (0 : Int) :: (0 : Int) :: (0 : Int) :: (0 : Int) :: (0 : Int) :: (0 : Int) :: (0 : Int) :: (0 : Int) :: (0 : Int) :: (0 : Int) :: (0 : Int) :: (0 : Int) :: (0 : Int) :: (0 : Int) :: (0 : Int) :: (0 : Int) :: (0 : Int) :: (0 : Int) :: (0 : Int) :: (0 : Int) :: (0 : Int) :: (0 : Int) :: ([] : List Int)) ((0 : Int) :: (0 : Int) :: (0 : Int) :: (0 : Int) :: (0 : Int) :: (0 : Int) :: (0 : Int) :: (0 : Int) :: (0 : Int) :: (0 : Int) :: (0 : Int) :: (0 : Int) :: (0 : Int) :: (0 : Int) :: (0 : Int) :: (0 : Int) :: (0 : Int) :: (0 : Int) :: (0 : Int) :: (0 : Int) :: (0 : Int) :: (0 : Int) :: (0 : Int) :: (0 : Int) :: (0 : Int) :: (0 : Int) :: (0 : Int) :: (0 : Int) :: (0 : Int) :: (0 : Int) :: (0 : Int) :: (0 : Int) :: (0 : Int) :: (0 : Int) :: (0 : Int) :: (0 : Int) :: (0 : Int) :: (0 : Int) :: (0 : Int) :: (0 : Int) :: (0 : Int) :: (0 : Int) :: (0 : Int) :: (0 : Int) :: (0 : Int) :: (0 : Int) :: (0 : Int) :: (0 : Int) :: (0 : Int) :: (0 : Int) :: (0 : Int) :: (0 : Int) :: (0 : Int) :: (0 : Int) :: (0 : Int) :: (0 : Int) :: (0 : Int) :: (0 : Int) :: (0 : Int) :: (0 : Int) :: (0 : Int) :: (0 : Int) :: (0 : Int) :: (0 : Int) :: ([] : List Int)) (0 : Int)
  (fun w => sha_schedule_p2 N ((0 : Int) :: (0 : Int) :: (0 : Int) :: (0 : Int) :: (0 : Int) :: (0 : Int) :: (0 : Int) :: (0 : Int) :: (0 : Int) :: (0 : Int) :: (0 : Int) :: (0 : Int) :: (0 : Int) :: (0 : Int) :: (0 : Int) :: (0 : Int) :: (0 : Int) :: (0 : Int) :: (0 : Int) :: (0 : Int) :: (0 : Int) :: (0 : Int) :: (0 : Int) :: (0 : Int) :: (0 : Int) :: (0 : Int) :: (0 : Int) :: (0 : Int) :: (0 : Int) :: (0 : Int) :: (0 : Int) :: (0 : Int) :: (0 : Int) :: (0 : Int) :: (0 : Int) :: (0 : Int) :: (0 : Int) :: (0 : Int) :: (0 : Int) :: (0 : Int) :: (0 : Int) :: (0 : Int) :: (0 : Int) :: (0 : Int) :: (0 : Int) :: (0 : Int) :: (0 : Int) :: (0 : Int) :: (0 : Int) :: (0 : Int) :: (0 : Int) :: (0 : Int) :: (0 : Int) :: (0 : Int) :: (0 : Int) :: (0 : Int) :: (0 : Int) :: (0 : Int) :: (0 : Int) :: (0 : Int) :: (0 : Int) :: (0 : Int) :: (0 : Int) :: (0 : Int) :: ([] : List Int)) w (16 : Int)
    (fun w1 => some w1))

noncomputable def sha_schedule_t (N : Nat) : Tab (List Int) := [([0, 1, 0, 1, 1], sha_schedule_h1 N), ([0, 1, 0, 1, 1, 1], sha_schedule_h2 N)]

theorem sha_schedule_link (N : Nat) (x : denS [(0, .v .str)]) : evFX (sha_schedule_E N) N (sha_schedule_t N) sha_schedule_L Go.Proofs.Tryd.f124 (mkS [(0, .v .str)] 0 x) (kRes (.v (.arr 64 (.int .u32))) 1) = sha_schedule N x.1 := by kernel_rfl

noncomputable def sha_schedule_res (N : Nat) : List A → Res := resOf [(0, .v .str)] (fun x => sha_schedule N x.1) (oRes (.v (.arr 64 (.int .u32))) 1)

theorem sha_schedule_ct (N : Nat) : Contract Go.Proofs.Tryd.prog glob 124 (sha_schedule_res N) :=
  Contract.of (E := sha_schedule_E N) (H := sha_schedule_t N) (L := sha_schedule_L) (N := N) (body := sha_schedule_body) (K := (kRes (.v (.arr 64 (.int .u32))) 1)) (sha_schedule_Eok N) Go.Proofs.Tryd.func124 (by kernel_rfl) (by decide) (fun _ hb => (TabOk.cons (sha_schedule_ok1 hb) (TabOk.cons (sha_schedule_ok2 hb) TabOk.nil))) (fun x y h => by rw [sha_schedule_link]; exact h) (kRes_ok (s := (.v (.arr 64 (.int .u32)))) (m := 1))

abbrev sha_round_R : Type := (List Int)

noncomputable def sha_round_body : Code := (Go.Proofs.Tryd.f125.body).getD .skip

noncomputable def sha_round_L : List (List Nat × List Nat) := [([0], [2, 1, 4]), ([0, 1], [12, 9, 10, 11, 1, 5, 6, 7, 8, 4]), ([0, 1, 1], [5, 6, 7, 13, 8, 9, 10, 11, 4]), ([0, 1, 1, 1], [13, 14, 5, 6, 7, 8, 9, 10, 11, 4]), ([0, 1, 1, 1, 1], [4]), ([1, 1, 1, 1, 1], [4])]

noncomputable def sha_round_E (N : Nat) : Env := mkEnv tys glob [(127, sha_ror_res N)] [] [] [] false [] [(106, hmac_framed1_itr N)]

theorem sha_round_Eok (N : Nat) : EnvOk Go.Proofs.Tryd.prog (sha_round_E N) := mkEnv_ok mixed tys_ok (FnsOk.cons (sha_ror_ct N) (FnsOk.nil)) (ItsOk.cons (hmac_framed1_it N) (ItsOk.nil))

noncomputable def sha_round (N : Nat) (v : (List Int)) (k : Int) : Option (List Int) :=
  cond (decide (0 < (List.length v)))
  (cond (decide (1 < (List.length v)))
    (cond (decide (2 < (List.length v)))
      (cond (decide (3 < (List.length v)))
        (cond (decide (4 < (List.length v)))
          (cond (decide (5 < (List.length v)))
            (cond (decide (6 < (List.length v)))
              (cond (decide (7 < (List.length v)))
                (some ([(Go.IntKind.wrap Go.IntKind.u32 ((Go.IntKind.wrap Go.IntKind.u32 ((Go.IntKind.wrap Go.IntKind.u32 ((Go.IntKind.wrap Go.IntKind.u32 ((List.getD v 7 (0 : Int)) + (Go.Lift.bitsOp Go.BinOp.xor Go.IntKind.u32 (Go.Lift.bitsOp Go.BinOp.xor Go.IntKind.u32 (Go.Lift.bitsOp Go.BinOp.or Go.IntKind.u32 (Go.Lift.shlI Go.IntKind.u32 (List.getD v 4 (0 : Int)) (Go.Lift.bitsOp Go.BinOp.and Go.IntKind.u64 (Go.IntKind.wrap Go.IntKind.u64 (Go.IntKind.wrap Go.IntKind.i64 ((0 : Int) - (6 : Int)))) (31 : Int))) (Go.Lift.shrI Go.IntKind.u32 (List.getD v 4 (0 : Int)) (Go.IntKind.wrap Go.IntKind.u64 ((32 : Int) - (Go.Lift.bitsOp Go.BinOp.and Go.IntKind.u64 (Go.IntKind.wrap Go.IntKind.u64 (Go.IntKind.wrap Go.IntKind.i64 ((0 : Int) - (6 : Int)))) (31 : Int)))))) (Go.Lift.bitsOp Go.BinOp.or Go.IntKind.u32 (Go.Lift.shlI Go.IntKind.u32 (List.getD v 4 (0 : Int)) (Go.Lift.bitsOp Go.BinOp.and Go.IntKind.u64 (Go.IntKind.wrap Go.IntKind.u64 (Go.IntKind.wrap Go.IntKind.i64 ((0 : Int) - (11 : Int)))) (31 : Int))) (Go.Lift.shrI Go.IntKind.u32 (List.getD v 4 (0 : Int)) (Go.IntKind.wrap Go.IntKind.u64 ((32 : Int) - (Go.Lift.bitsOp Go.BinOp.and Go.IntKind.u64 (Go.IntKind.wrap Go.IntKind.u64 (Go.IntKind.wrap Go.IntKind.i64 ((0 : Int) - (11 : Int)))) (31 : Int))))))) (Go.Lift.bitsOp Go.BinOp.or Go.IntKind.u32 (Go.Lift.shlI Go.IntKind.u32 (List.getD v 4 (0 : Int)) (Go.Lift.bitsOp Go.BinOp.and Go.IntKind.u64 (Go.IntKind.wrap Go.IntKind.u64 (Go.IntKind.wrap Go.IntKind.i64 ((0 : Int) - (25 : Int)))) (31 : Int))) (Go.Lift.shrI Go.IntKind.u32 (List.getD v 4 (0 : Int)) (Go.IntKind.wrap Go.IntKind.u64 ((32 : Int) - (Go.Lift.bitsOp Go.BinOp.and Go.IntKind.u64 (Go.IntKind.wrap Go.IntKind.u64 (Go.IntKind.wrap Go.IntKind.i64 ((0 : Int) - (25 : Int)))) (31 : Int))))))))) + (Go.Lift.bitsOp Go.BinOp.xor Go.IntKind.u32 (Go.Lift.bitsOp Go.BinOp.and Go.IntKind.u32 (List.getD v 4 (0 : Int)) (List.getD v 5 (0 : Int))) (Go.Lift.bitsOp Go.BinOp.and Go.IntKind.u32 (Go.Lift.bitsOp Go.BinOp.xor Go.IntKind.u32 (if ((Go.IntKind.signed Go.IntKind.u32) = true) then (-(1 : Int)) else (Go.IntKind.max Go.IntKind.u32)) (List.getD v 4 (0 : Int))) (List.getD v 6 (0 : Int)))))) + k)) + (Go.IntKind.wrap Go.IntKind.u32 ((Go.Lift.bitsOp Go.BinOp.xor Go.IntKind.u32 (Go.Lift.bitsOp Go.BinOp.xor Go.IntKind.u32 (Go.Lift.bitsOp Go.BinOp.or Go.IntKind.u32 (Go.Lift.shlI Go.IntKind.u32 (List.getD v 0 (0 : Int)) (Go.Lift.bitsOp Go.BinOp.and Go.IntKind.u64 (Go.IntKind.wrap Go.IntKind.u64 (Go.IntKind.wrap Go.IntKind.i64 ((0 : Int) - (2 : Int)))) (31 : Int))) (Go.Lift.shrI Go.IntKind.u32 (List.getD v 0 (0 : Int)) (Go.IntKind.wrap Go.IntKind.u64 ((32 : Int) - (Go.Lift.bitsOp Go.BinOp.and Go.IntKind.u64 (Go.IntKind.wrap Go.IntKind.u64 (Go.IntKind.wrap Go.IntKind.i64 ((0 : Int) - (2 : Int)))) (31 : Int)))))) (Go.Lift.bitsOp Go.BinOp.or Go.IntKind.u32 (Go.Lift.shlI Go.IntKind.u32 (List.getD v 0 (0 : Int)) (Go.Lift.bitsOp Go.BinOp.and Go.IntKind.u64 (Go.IntKind.wrap Go.IntKind.u64 (Go.IntKind.wrap Go.IntKind.i64 ((0 : Int) - (13 : Int)))) (31 : Int))) (Go.Lift.shrI Go.IntKind.u32 (List.getD v 0 (0 : Int)) (Go.IntKind.wrap Go.IntKind.u64 ((32 : Int) - (Go.Lift.bitsOp Go.BinOp.and Go.IntKind.u64 (Go.IntKind.wrap Go.IntKind.u64 (Go.IntKind.wrap Go.IntKind.i64 ((0 : Int) - (13 : Int)))) (31 : Int))))))) (Go.Lift.bitsOp Go.BinOp.or Go.IntKind.u32 (Go.Lift.shlI Go.IntKind.u32 (List.getD v 0 (0 : Int)) (Go.Lift.bitsOp Go.BinOp.and Go.IntKind.u64 (Go.IntKind.wrap Go.IntKind.u64 (Go.IntKind.wrap Go.IntKind.i64 ((0 : Int) - (22 : Int)))) (31 : Int))) (Go.Lift.shrI Go.IntKind.u32 (List.getD v 0 (0 : Int)) (Go.IntKind.wrap Go.IntKind.u64 ((32 : Int) - (Go.Lift.bitsOp Go.BinOp.and Go.IntKind.u64 (Go.IntKind.wrap Go.IntKind.u64 (Go.IntKind.wrap Go.IntKind.i64 ((0 : Int) - (22 : Int)))) (31 : Int))))))) + (Go.Lift.bitsOp Go.BinOp.xor Go.IntKind.u32 (Go.Lift.bitsOp Go.BinOp.xor Go.IntKind.u32 (Go.Lift.bitsOp Go.BinOp.and Go.IntKind.u32 (List.getD v 0 (0 : Int)) (List.getD v 1 (0 : Int))) (Go.Lift.bitsOp Go.BinOp.and Go.IntKind.u32 (List.getD v 0 (0 : Int)) (List.getD v 2 (0 : Int)))) (Go.Lift.bitsOp Go.BinOp.and Go.IntKind.u32 (List.getD v 1 (0 : Int)) (List.getD v 2 (0 : Int)))))))), (List.getD v 0 (0 : Int)), (List.getD v 1 (0 : Int)), (List.getD v 2 (0 : Int)), (Go.IntKind.wrap Go.IntKind.u32 ((List.getD v 3 (0 : Int)) + (Go.IntKind.wrap Go.IntKind.u32 ((Go.IntKind.wrap Go.IntKind.u32 ((Go.IntKind.wrap Go.IntKind.u32 ((List.getD v 7 (0 : Int)) + (Go.Lift.bitsOp Go.BinOp.xor Go.IntKind.u32 (Go.Lift.bitsOp Go.BinOp.xor Go.IntKind.u32 (Go.Lift.bitsOp Go.BinOp.or Go.IntKind.u32 (Go.Lift.shlI Go.IntKind.u32 (List.getD v 4 (0 : Int)) (Go.Lift.bitsOp Go.BinOp.and Go.IntKind.u64 (Go.IntKind.wrap Go.IntKind.u64 (Go.IntKind.wrap Go.IntKind.i64 ((0 : Int) - (6 : Int)))) (31 : Int))) (Go.Lift.shrI Go.IntKind.u32 (List.getD v 4 (0 : Int)) (Go.IntKind.wrap Go.IntKind.u64 ((32 : Int) - (Go.Lift.bitsOp Go.BinOp.and Go.IntKind.u64 (Go.IntKind.wrap Go.IntKind.u64 (Go.IntKind.wrap Go.IntKind.i64 ((0 : Int) - (6 : Int)))) (31 : Int)))))) (Go.Lift.bitsOp Go.BinOp.or Go.IntKind.u32 (Go.Lift.shlI Go.IntKind.u32 (List.getD v 4 (0 : Int)) (Go.Lift.bitsOp Go.BinOp.and Go.IntKind.u64 (Go.IntKind.wrap Go.IntKind.u64 (Go.IntKind.wrap Go.IntKind.i64 ((0 : Int) - (11 : Int)))) (31 : Int))) (Go.Lift.shrI Go.IntKind.u32 (List.getD v 4 (0 : Int)) (Go.IntKind.wrap Go.IntKind.u64 ((32 : Int) - (Go.Lift.bitsOp Go.BinOp.and Go.IntKind.u64 (Go.IntKind.wrap Go.IntKind.u64 (Go.IntKind.wrap Go.IntKind.i64 ((0 : Int) - (11 : Int)))) (31 : Int))))))) (Go.Lift.bitsOp Go.BinOp.or Go.IntKind.u32 (Go.Lift.shlI Go.IntKind.u32 (List.getD v 4 (0 : Int)) (Go.Lift.bitsOp Go.BinOp.and Go.IntKind.u64 (Go.IntKind.wrap Go.IntKind.u64 (Go.IntKind.wrap Go.IntKind.i64 ((0 : Int) - (25 : Int)))) (31 : Int))) (Go.Lift.shrI Go.IntKind.u32 (List.getD v 4 (0 : Int)) (Go.IntKind.wrap Go.IntKind.u64 ((32 : Int) - (Go.Lift.bitsOp Go.BinOp.and Go.IntKind.u64 (Go.IntKind.wrap Go.IntKind.u64 (Go.IntKind.wrap Go.IntKind.i64 ((0 : Int) - (25 : Int)))) (31 : Int))))))))) + (Go.Lift.bitsOp Go.BinOp.xor Go.IntKind.u32 (Go.Lift.bitsOp Go.BinOp.and Go.IntKind.u32 (List.getD v 4 (0 : Int)) (List.getD v 5 (0 : Int))) (Go.Lift.bitsOp Go.BinOp.and Go.IntKind.u32 (Go.Lift.bitsOp Go.BinOp.xor Go.IntKind.u32 (if ((Go.IntKind.signed Go.IntKind.u32) = true) then (-(1 : Int)) else (Go.IntKind.max Go.IntKind.u32)) (List.getD v 4 (0 : Int))) (List.getD v 6 (0 : Int)))))) + k)))), (List.getD v 4 (0 : Int)), (List.getD v 5 (0 : Int)), (List.getD v 6 (0 : Int))] : List Int))
                (none))
              (none))
            (none))
          (none))
        (none))
      (none))
    (none))
  (none)

noncomputable def sha_round_t (N : Nat) : Tab (List Int) := []

theorem sha_round_link (N : Nat) (x : denS [(0, .v (.arr 8 (.int .u32))), (0, .v (.int .u32))]) : evFX (sha_round_E N) N (sha_round_t N) sha_round_L Go.Proofs.Tryd.f125 (mkS [(0, .v (.arr 8 (.int .u32))), (0, .v (.int .u32))] 0 x) (kRes (.v (.arr 8 (.int .u32))) 2) = sha_round N x.1 x.2.1 := by kernel_rfl

noncomputable def sha_round_res (N : Nat) : List A → Res := resOf [(0, .v (.arr 8 (.int .u32))), (0, .v (.int .u32))] (fun x => sha_round N x.1 x.2.1) (oRes (.v (.arr 8 (.int .u32))) 2)

theorem sha_round_ct (N : Nat) : Contract Go.Proofs.Tryd.prog glob 125 (sha_round_res N) :=
  Contract.of (E := sha_round_E N) (H := sha_round_t N) (L := sha_round_L) (N := N) (body := sha_round_body) (K := (kRes (.v (.arr 8 (.int .u32))) 2)) (sha_round_Eok N) Go.Proofs.Tryd.func125 (by kernel_rfl) (by decide) (fun _ hb => TabOk.nil) (fun x y h => by rw [sha_round_link]; exact h) (kRes_ok (s := (.v (.arr 8 (.int .u32)))) (m := 2))

abbrev sha_Step_R : Type := (List Int)

noncomputable def sha_Step_body : Code := (Go.Proofs.Tryd.f118.body).getD .skip

noncomputable def sha_Step_L : List (List Nat × List Nat) := [([0], [1, 2, 4]), ([0, 0, 1], [11, 2, 4, 1]), ([1, 0, 1], [1, 2, 4]), ([0, 0, 1, 0, 1], [4]), ([1, 0, 1, 0, 1], [4]), ([0, 1, 1], [2, 5, 4]), ([0, 1, 1, 1], [6, 5, 2, 4]), ([0, 0, 1, 1, 1, 1], [16, 6, 5, 2, 4]), ([0, 1, 0, 1, 1, 1, 1], [16, 6, 5, 2, 4]), ([0, 0, 0, 1, 0, 1, 1, 1, 1], [17, 16, 6, 5, 2, 4]), ([0, 1, 0, 0, 1, 0, 1, 1, 1, 1], [16, 6, 5, 2, 4]), ([1, 0, 1, 0, 0, 1, 0, 1, 1, 1, 1], [6, 2, 4]), ([0, 0, 0, 1, 1, 0, 0, 1, 0, 1, 1, 1, 1], [6, 7, 5, 16, 2, 4]), ([1, 0, 0, 1, 1, 0, 0, 1, 0, 1, 1, 1, 1], [16, 6, 5, 2, 4]), ([0, 1, 1, 0, 0, 1, 0, 1, 1, 1, 1], [16, 6, 5, 2, 4]), ([1, 1, 1, 0, 0, 1, 0, 1, 1, 1, 1], [16, 6, 5, 2, 4]), ([1, 0, 1, 1, 1, 1], [6, 2, 4]), ([0, 0, 1, 1, 1, 1, 1], [29, 6, 2, 4]), ([0, 1, 0, 1, 1, 1, 1, 1], [29, 6, 2, 4]), ([0, 0, 0, 1, 0, 1, 1, 1, 1, 1], [30, 29, 6, 2, 4]), ([0, 1, 0, 0, 1, 0, 1, 1, 1, 1, 1], [29, 6, 2, 4]), ([1, 0, 1, 0, 0, 1, 0, 1, 1, 1, 1, 1], [6, 4]), ([0, 0, 0, 1, 1, 0, 0, 1, 0, 1, 1, 1, 1, 1], [8, 6, 2, 29, 4]), ([1, 0, 0, 1, 1, 0, 0, 1, 0, 1, 1, 1, 1, 1], [29, 6, 2, 4]), ([0, 1, 1, 0, 0, 1, 0, 1, 1, 1, 1, 1], [29, 6, 2, 4]), ([1, 1, 1, 0, 0, 1, 0, 1, 1, 1, 1, 1], [29, 6, 2, 4]), ([1, 0, 1, 1, 1, 1, 1], [6, 4]), ([0, 1, 1, 1, 1, 1, 1], [4]), ([1, 1, 1, 1, 1, 1, 1], [4])]

noncomputable def sha_Step_E (N : Nat) : Env := mkEnv tys glob [(125, sha_round_res N), (124, sha_schedule_res N)] [] [] [] false [] [(106, hmac_framed1_itr N)]

theorem sha_Step_Eok (N : Nat) : EnvOk Go.Proofs.Tryd.prog (sha_Step_E N) := mkEnv_ok mixed tys_ok (FnsOk.cons (sha_round_ct N) (FnsOk.cons (sha_schedule_ct N) (FnsOk.nil))) (ItsOk.cons (hmac_framed1_it N) (ItsOk.nil))

noncomputable def sha_Step_s1 (N : Nat) (h : (List Int)) (x4 : (List Int)) (w : (List Int)) (v : (List Int)) (x16 : Int) (rec : (List Int) → Int → Option (List Int)) (k0 : (List Int) → Option (List Int)) : Option (List Int) :=
  cond (decide (x16 < (64 : Int)))
  (cond (Go.Lift.inR x16 64)
    (cond (Go.Lift.inR x16 64)
      (cond (decide ((Int.toNat x16) < (List.length w)))
        ((sha_round N v (Go.IntKind.wrap Go.IntKind.u32 ((List.getD glob0 (Int.toNat x16) (0 : Int)) + (List.getD w (Int.toNat x16) (0 : Int))))).bind fun y =>
          rec y (Go.IntKind.wrap Go.IntKind.i64 (x16 + (1 : Int))))
        (none))
      (none))
    (none))
  (k0 v)

noncomputable def sha_Step_p1 (N : Nat) (h : (List Int)) (x4 : (List Int)) (w : (List Int)) (v : (List Int)) (x16 : Int) (k0 : (List Int) → Option (List Int)) : Option (List Int) :=
  iter (fun (v : ((List Int) × Int)) r => sha_Step_s1 N h x4 w v.1 v.2 (fun v x16 => (r (v, x16))) k0) N (v, x16)

noncomputable def sha_Step_g1 (N : Nat) (i : ((List Int) × (List Int) × (List Int))) (v : ((List Int) × Int)) (r : ((List Int) × Int) → Option (List Int)) (K : Ex → List A → Option (List Int)) : Option (List Int) :=
  sha_Step_s1 N i.1 i.2.1 i.2.2 v.1 v.2 (fun v x16 => (r (v, x16))) (fun a2 => (K (.exit 0) (mkS [(2, .box (.arr 8 (.int .u32))), (1, .box (.arr 8 (.int .u32))), (1, .box (.arr 8 (.int .u32)))] 35 (i.1, i.2.1, a2, ()))))

noncomputable def sha_Step_h1 (N : Nat) : Hd (List Int) := fun st K => (unS [(2, .box (.arr 8 (.int .u32))), (1, .box (.arr 8 (.int .u32))), (0, .box (.arr 64 (.int .u32))), (0, .box (.arr 8 (.int .u32))), (9, .v (.int .i64))] 25 (restr [16, 6, 5, 2, 4] 0 st)).bind fun x => iter (fun v r => sha_Step_g1 N ((fun x => (x.1, x.2.1, x.2.2.1)) x) v r K) N ((fun x => (x.2.2.2.1, x.2.2.2.2.1)) x)

noncomputable def sha_Step_t1 (N : Nat) : Tab (List Int) := []

theorem sha_Step_ok1 {N : Nat} {c : Ctx} (hb : Base Go.Proofs.Tryd.prog (sha_Step_E N) c) : CodeOk Go.Proofs.Tryd.prog c (nodeAt sha_Step_body [0, 1, 0, 1, 1, 1, 1]) (sha_Step_h1 N) :=
  loop_ok (s := [(2, .box (.arr 8 (.int .u32))), (1, .box (.arr 8 (.int .u32))), (0, .box (.arr 64 (.int .u32))), (0, .box (.arr 8 (.int .u32))), (9, .v (.int .i64))]) (m := 25) (sha_Step_g1 N) [16, 6, 5, 2, 4] N (fun x => (x.1, x.2.1, x.2.2.1)) (fun x => (x.2.2.2.1, x.2.2.2.2.1)) (fun i v => (i.1, i.2.1, i.2.2, v.1, v.2, ())) (fun _ => rfl) (evN_sound hb N (sha_Step_t1 N) sha_Step_L sha_Step_body TabOk.nil [0, 0, 1, 0, 1, 1, 1, 1] _ rfl) (fun i v r K => by kernel_rfl)

noncomputable def sha_Step_s2 (N : Nat) (h : (List Int)) (x4 : (List Int)) (v : (List Int)) (x29 : Int) (rec : (List Int) → Int → Option (List Int)) (k0 : (List Int) → Option (List Int)) : Option (List Int) :=
  cond (decide (x29 < (8 : Int)))
  (cond (Go.Lift.inR x29 8)
    (cond (decide ((Int.toNat x29) < (List.length v)))
      (cond (Go.Lift.inR x29 8)
        (cond (decide ((Int.toNat x29) < (List.length h)))
          (cond (Go.Lift.inR x29 8)
            (cond (decide ((Int.toNat x29) < (List.length v)))
              (rec (List.set v (Int.toNat x29) (Go.IntKind.wrap Go.IntKind.u32 ((List.getD v (Int.toNat x29) (0 : Int)) + (List.getD h (Int.toNat x29) (0 : Int))))) (Go.IntKind.wrap Go.IntKind.i64 (x29 + (1 : Int))))
              (none))
            (none))
          (none))
        (none))
      (none))
    (none))
  (k0 v)

noncomputable def sha_Step_p2 (N : Nat) (h : (List Int)) (x4 : (List Int)) (v : (List Int)) (x29 : Int) (k0 : (List Int) → Option (List Int)) : Option (List Int) :=
  iter (fun (v : ((List Int) × Int)) r => sha_Step_s2 N h x4 v.1 v.2 (fun v x29 => (r (v, x29))) k0) N (v, x29)

noncomputable def sha_Step_g2 (N : Nat) (i : ((List Int) × (List Int))) (v : ((List Int) × Int)) (r : ((List Int) × Int) → Option (List Int)) (K : Ex → List A → Option (List Int)) : Option (List Int) :=
  sha_Step_s2 N i.1 i.2 v.1 v.2 (fun v x29 => (r (v, x29))) (fun a1 => (K (.exit 2) (mkS [(4, .box (.arr 8 (.int .u32))), (1, .box (.arr 8 (.int .u32)))] 35 (i.2, a1, ()))))

noncomputable def sha_Step_h2 (N : Nat) : Hd (List Int) := fun st K => (unS [(2, .box (.arr 8 (.int .u32))), (1, .box (.arr 8 (.int .u32))), (1, .box (.arr 8 (.int .u32))), (22, .v (.int .i64))] 12 (restr [29, 6, 2, 4] 0 st)).bind fun x => iter (fun v r => sha_Step_g2 N ((fun x => (x.1, x.2.1)) x) v r K) N ((fun x => (x.2.2.1, x.2.2.2.1)) x)

noncomputable def sha_Step_t2 (N : Nat) : Tab (List Int) := []

theorem sha_Step_ok2 {N : Nat} {c : Ctx} (hb : Base Go.Proofs.Tryd.prog (sha_Step_E N) c) : CodeOk Go.Proofs.Tryd.prog c (nodeAt sha_Step_body [0, 1, 0, 1, 1, 1, 1, 1]) (sha_Step_h2 N) :=
  loop_ok (s := [(2, .box (.arr 8 (.int .u32))), (1, .box (.arr 8 (.int .u32))), (1, .box (.arr 8 (.int .u32))), (22, .v (.int .i64))]) (m := 12) (sha_Step_g2 N) [29, 6, 2, 4] N (fun x => (x.1, x.2.1)) (fun x => (x.2.2.1, x.2.2.2.1)) (fun i v => (i.1, i.2, v.1, v.2, ())) (fun _ => rfl) (evN_sound hb N (sha_Step_t2 N) sha_Step_L sha_Step_body TabOk.nil [0, 0, 1, 0, 1, 1, 1, 1, 1] _ rfl) (fun i v r K => by kernel_rfl)

noncomputable def sha_Step (N : Nat) (h : (List Int)) (block : (List UInt8)) : Option (List Int) :=
  cond ((((List.length block) : Nat) : Int) != (64 : Int))
  (some h)
  ((sha_schedule N block).bind fun y =>
    sha_Step_p1 N h ([(0 : Int), (0 : Int), (0 : Int), (0 : Int), (0 : Int), (0 : Int), (0 : Int), (0 : Int)] : List Int) y h (0 : Int)
    (fun v => sha_Step_p2 N h ([(0 : Int), (0 : Int), (0 : Int), (0 : Int), (0 : Int), (0 : Int), (0 : Int), (0 : Int)] : List Int) v (0 : Int)
      (fun v1 => some v1)))

noncomputable def sha_Step_t (N : Nat) : Tab (List Int) := [([0, 1, 0, 1, 1, 1, 1], sha_Step_h1 N), ([0, 1, 0, 1, 1, 1, 1, 1], sha_Step_h2 N)]

theorem sha_Step_link (N : Nat) (x : denS [(0, .v (.arr 8 (.int .u32))), (0, .v .str)]) : evFX (sha_Step_E N) N (sha_Step_t N) sha_Step_L Go.Proofs.Tryd.f118 (mkS [(0, .v (.arr 8 (.int .u32))), (0, .v .str)] 0 x) (kRes (.v (.arr 8 (.int .u32))) 2) = sha_Step N x.1 x.2.1 := by kernel_rfl

noncomputable def sha_Step_res (N : Nat) : List A → Res := resOf [(0, .v (.arr 8 (.int .u32))), (0, .v .str)] (fun x => sha_Step N x.1 x.2.1) (oRes (.v (.arr 8 (.int .u32))) 2)

theorem sha_Step_ct (N : Nat) : Contract Go.Proofs.Tryd.prog glob 118 (sha_Step_res N) :=
  Contract.of (E := sha_Step_E N) (H := sha_Step_t N) (L := sha_Step_L) (N := N) (body := sha_Step_body) (K := (kRes (.v (.arr 8 (.int .u32))) 2)) (sha_Step_Eok N) Go.Proofs.Tryd.func118 (by kernel_rfl) (by decide) (fun _ hb => (TabOk.cons (sha_Step_ok1 hb) (TabOk.cons (sha_Step_ok2 hb) TabOk.nil))) (fun x y h => by rw [sha_Step_link]; exact h) (kRes_ok (s := (.v (.arr 8 (.int .u32)))) (m := 2))

abbrev sha_steps_R : Type := (List Int)

noncomputable def sha_steps_body : Code := (Go.Proofs.Tryd.f111.body).getD .skip

noncomputable def sha_steps_L : List (List Nat × List Nat) := [([0], [1, 2, 4]), ([0, 0, 1], [5, 1, 2, 4]), ([0, 1, 0, 1], [5, 1, 2, 4]), ([0, 0, 0, 0, 1, 0, 1], [9, 2, 1, 5, 4]), ([1, 0, 0, 0, 1, 0, 1], [2, 1, 5, 4]), ([1, 1, 0, 0, 0, 1, 0, 1], [2, 4]), ([0, 0, 1, 0, 0, 1, 0, 1], [5, 1, 2, 4]), ([0, 1, 0, 0, 1, 0, 1], [5, 1, 2, 4]), ([1, 1, 0, 0, 1, 0, 1], [5, 1, 2, 4]), ([1, 0, 1], [2, 4]), ([0, 1, 1], [4]), ([1, 1, 1], [4])]

noncomputable def sha_steps_E (N : Nat) : Env := mkEnv tys glob [(118, sha_Step_res N)] [] [] [] false [] [(106, hmac_framed1_itr N)]

theorem sha_steps_Eok (N : Nat) : EnvOk Go.Proofs.Tryd.prog (sha_steps_E N) := mkEnv_ok mixed tys_ok (FnsOk.cons (sha_Step_ct N) (FnsOk.nil)) (ItsOk.cons (hmac_framed1_it N) (ItsOk.nil))

noncomputable def sha_steps_s1 (N : Nat) (s : (List UInt8)) (x4 : (List Int)) (h : (List Int)) (i : Int) (rec : (List Int) → Int → Option (List Int)) (k0 : (List Int) → Option (List Int)) : Option (List Int) :=
  cond (decide (i < (((List.length s) : Nat) : Int)))
  (cond (decide (((0 : Int) ≤ (Go.IntKind.wrap Go.IntKind.i64 (i + (64 : Int)))) ∧ ((Go.IntKind.wrap Go.IntKind.i64 (i + (64 : Int))) ≤ (((List.length s) : Nat) : Int))))
    (cond (decide (((0 : Int) ≤ i) ∧ (i ≤ (Go.IntKind.wrap Go.IntKind.i64 (i + (64 : Int))))))
      ((sha_Step N h (Go.Lift.cut s (Int.toNat i) (Int.toNat (Go.IntKind.wrap Go.IntKind.i64 (i + (64 : Int)))))).bind fun y =>
        rec y (Go.IntKind.wrap Go.IntKind.i64 (i + (64 : Int))))
      (none))
    (none))
  (k0 h)

noncomputable def sha_steps_p1 (N : Nat) (s : (List UInt8)) (h : (List Int)) (x4 : (List Int)) (i : Int) (k0 : (List Int) → Option (List Int)) : Option (List Int) :=
  iter (fun (v : ((List Int) × Int)) r => sha_steps_s1 N s x4 v.1 v.2 (fun h i => (r (h, i))) k0) N (h, i)

noncomputable def sha_steps_g1 (N : Nat) (i : ((List UInt8) × (List Int))) (v : ((List Int) × Int)) (r : ((List Int) × Int) → Option (List Int)) (K : Ex → List A → Option (List Int)) : Option (List Int) :=
  sha_steps_s1 N i.1 i.2 v.1 v.2 (fun h i => (r (h, i))) (fun a0 => (K (.exit 0) (mkS [(2, .box (.arr 8 (.int .u32))), (1, .box (.arr 8 (.int .u32)))] 15 (a0, i.2, ()))))

noncomputable def sha_steps_h1 (N : Nat) : Hd (List Int) := fun st K => (unS [(1, .v .str), (0, .box (.arr 8 (.int .u32))), (1, .box (.arr 8 (.int .u32))), (0, .v (.int .i64))] 14 (restr [5, 1, 2, 4] 0 st)).bind fun x => iter (fun v r => sha_steps_g1 N ((fun x => (x.1, x.2.2.1)) x) v r K) N ((fun x => (x.2.1, x.2.2.2.1)) x)

noncomputable def sha_steps_t1 (N : Nat) : Tab (List Int) := []

theorem sha_steps_ok1 {N : Nat} {c : Ctx} (hb : Base Go.Proofs.Tryd.prog (sha_steps_E N) c) : CodeOk Go.Proofs.Tryd.prog c (nodeAt sha_steps_body [0, 1, 0, 1]) (sha_steps_h1 N) :=
  loop_ok (s := [(1, .v .str), (0, .box (.arr 8 (.int .u32))), (1, .box (.arr 8 (.int .u32))), (0, .v (.int .i64))]) (m := 14) (sha_steps_g1 N) [5, 1, 2, 4] N (fun x => (x.1, x.2.2.1)) (fun x => (x.2.1, x.2.2.2.1)) (fun i v => (i.1, v.1, i.2, v.2, ())) (fun _ => rfl) (evN_sound hb N (sha_steps_t1 N) sha_steps_L sha_steps_body TabOk.nil [0, 0, 1, 0, 1] _ rfl) (fun i v r K => by kernel_rfl)

noncomputable def sha_steps (N : Nat) (h : (List Int)) (s : (List UInt8)) : Option (List Int) :=
  sha_steps_p1 N s h ([(0 : Int), (0 : Int), (0 : Int), (0 : Int), (0 : Int), (0 : Int), (0 : Int), (0 : Int)] : List Int) (0 : Int)
  (fun h1 => some h1)

noncomputable def sha_steps_t (N : Nat) : Tab (List Int) := [([0, 1, 0, 1], sha_steps_h1 N)]

theorem sha_steps_link (N : Nat) (x : denS [(0, .v (.arr 8 (.int .u32))), (0, .v .str)]) : evFX (sha_steps_E N) N (sha_steps_t N) sha_steps_L Go.Proofs.Tryd.f111 (mkS [(0, .v (.arr 8 (.int .u32))), (0, .v .str)] 0 x) (kRes (.v (.arr 8 (.int .u32))) 2) = sha_steps N x.1 x.2.1 := by kernel_rfl

noncomputable def sha_steps_res (N : Nat) : List A → Res := resOf [(0, .v (.arr 8 (.int .u32))), (0, .v .str)] (fun x => sha_steps N x.1 x.2.1) (oRes (.v (.arr 8 (.int .u32))) 2)

theorem sha_steps_ct (N : Nat) : Contract Go.Proofs.Tryd.prog glob 111 (sha_steps_res N) :=
  Contract.of (E := sha_steps_E N) (H := sha_steps_t N) (L := sha_steps_L) (N := N) (body := sha_steps_body) (K := (kRes (.v (.arr 8 (.int .u32))) 2)) (sha_steps_Eok N) Go.Proofs.Tryd.func111 (by kernel_rfl) (by decide) (fun _ hb => (TabOk.cons (sha_steps_ok1 hb) TabOk.nil)) (fun x y h => by rw [sha_steps_link]; exact h) (kRes_ok (s := (.v (.arr 8 (.int .u32)))) (m := 2))

abbrev sha_Hash_Add_R : Type := ((Unit) × ((Bool × ((List Int) × ((List UInt8) × (Int × Unit)))) × Unit))

noncomputable def sha_Hash_Add_body : Code := (Go.Proofs.Tryd.f102.body).getD .skip

noncomputable def sha_Hash_Add_L : List (List Nat × List Nat) := [([0, 0], [14, 0, 1]), ([1, 0], [0, 1]), ([0, 1, 0], [0]), ([0, 1], [0, 1]), ([0, 1, 1], [4, 0]), ([0, 1, 1, 1], [0, 4, 5]), ([0, 1, 1, 1, 1], [0, 4, 5]), ([1, 1, 1, 1, 1], [0])]

noncomputable def sha_Hash_Add_E (N : Nat) : Env := mkEnv tys glob [(111, sha_steps_res N)] [] [] [0] false [] [(106, hmac_framed1_itr N)]

theorem sha_Hash_Add_Eok (N : Nat) : EnvOk Go.Proofs.Tryd.prog (sha_Hash_Add_E N) := mkEnv_ok mixed tys_ok (FnsOk.cons (sha_steps_ct N) (FnsOk.nil)) (ItsOk.cons (hmac_framed1_it N) (ItsOk.nil))

noncomputable def sha_Hash_Add_p1 (N : Nat) (h : (Bool × ((List Int) × ((List UInt8) × (Int × Unit))))) (s : (List UInt8)) (k0 : Option ((Unit) × ((Bool × ((List Int) × ((List UInt8) × (Int × Unit)))) × Unit))) (k1 : Option ((Unit) × ((Bool × ((List Int) × ((List UInt8) × (Int × Unit)))) × Unit))) : Option ((Unit) × ((Bool × ((List Int) × ((List UInt8) × (Int × Unit)))) × Unit)) :=
  cond (!h.1)
  (k0)
  (k1)

noncomputable def sha_Hash_Add_g1 (N : Nat) (x : denS [(0, .box (.pair .bool (.pair (.arr 8 (.int .u32)) (.pair .str (.pair (.int .i64) .unit))))), (0, .v .str)]) (K : Ex → List A → Option ((Unit) × ((Bool × ((List Int) × ((List UInt8) × (Int × Unit)))) × Unit))) : Option ((Unit) × ((Bool × ((List Int) × ((List UInt8) × (Int × Unit)))) × Unit)) :=
  sha_Hash_Add_p1 N x.1 x.2.1 (K .ret (mkS [(0, .box (.pair .bool (.pair (.arr 8 (.int .u32)) (.pair .str (.pair (.int .i64) .unit)))))] 52 (x.1, ()))) (K .normal (mkS [(0, .box (.pair .bool (.pair (.arr 8 (.int .u32)) (.pair .str (.pair (.int .i64) .unit))))), (0, .v .str)] 51 (x.1, x.2.1, ())))

noncomputable def sha_Hash_Add_h1 (N : Nat) : Hd ((Unit) × ((Bool × ((List Int) × ((List UInt8) × (Int × Unit)))) × Unit)) := fun st K => (unS [(0, .box (.pair .bool (.pair (.arr 8 (.int .u32)) (.pair .str (.pair (.int .i64) .unit))))), (0, .v .str)] 51 (restr [0, 1] 0 st)).bind fun x => sha_Hash_Add_g1 N x K

noncomputable def sha_Hash_Add_t1 (N : Nat) : Tab ((Unit) × ((Bool × ((List Int) × ((List UInt8) × (Int × Unit)))) × Unit)) := []

theorem sha_Hash_Add_ok1 {N : Nat} {c : Ctx} (hb : Base Go.Proofs.Tryd.prog (sha_Hash_Add_E N) c) : CodeOk Go.Proofs.Tryd.prog c (nodeAt sha_Hash_Add_body [0]) (sha_Hash_Add_h1 N) :=
  piece_ok (s := [(0, .box (.pair .bool (.pair (.arr 8 (.int .u32)) (.pair .str (.pair (.int .i64) .unit))))), (0, .v .str)]) (m := 51) (g := sha_Hash_Add_g1 N) [0, 1] (evN_sound hb N (sha_Hash_Add_t1 N) sha_Hash_Add_L sha_Hash_Add_body TabOk.nil [0] _ rfl) (fun x K => by kernel_rfl)

noncomputable def sha_Hash_Add (N : Nat) (h : (Bool × ((List Int) × ((List UInt8) × (Int × Unit))))) (s : (List UInt8)) : Option ((Unit) × ((Bool × ((List Int) × ((List UInt8) × (Int × Unit)))) × Unit)) :=
  sha_Hash_Add_p1 N h s
  (some ((), (h, ())))
  (cond (decide (((List.length h.2.2.1) + (List.length s)) ≤ 9223372036854775807))
    (cond (decide (((0 : Int) ≤ (Go.IntKind.wrap Go.IntKind.i64 ((((List.length (h.2.2.1 ++ s)) : Nat) : Int) - (Int.tmod (((List.length (h.2.2.1 ++ s)) : Nat) : Int) (64 : Int))))) ∧ ((Go.IntKind.wrap Go.IntKind.i64 ((((List.length (h.2.2.1 ++ s)) : Nat) : Int) - (Int.tmod (((List.length (h.2.2.1 ++ s)) : Nat) : Int) (64 : Int)))) ≤ (((List.length (h.2.2.1 ++ s)) : Nat) : Int))))
      ((sha_steps N h.2.1 (Go.Lift.cut (h.2.2.1 ++ s) 0 (Int.toNat (Go.IntKind.wrap Go.IntKind.i64 ((((List.length (h.2.2.1 ++ s)) : Nat) : Int) - (Int.tmod (((List.length (h.2.2.1 ++ s)) : Nat) : Int) (64 : Int))))))).bind fun y =>
        cond (decide (((0 : Int) ≤ (Go.IntKind.wrap Go.IntKind.i64 ((((List.length (h.2.2.1 ++ s)) : Nat) : Int) - (Int.tmod (((List.length (h.2.2.1 ++ s)) : Nat) : Int) (64 : Int))))) ∧ ((Go.IntKind.wrap Go.IntKind.i64 ((((List.length (h.2.2.1 ++ s)) : Nat) : Int) - (Int.tmod (((List.length (h.2.2.1 ++ s)) : Nat) : Int) (64 : Int)))) ≤ (((List.length (h.2.2.1 ++ s)) : Nat) : Int))))
        (some ((), ((h.1, (y, ((Go.Lift.cut (h.2.2.1 ++ s) (Int.toNat (Go.IntKind.wrap Go.IntKind.i64 ((((List.length (h.2.2.1 ++ s)) : Nat) : Int) - (Int.tmod (((List.length (h.2.2.1 ++ s)) : Nat) : Int) (64 : Int))))) (List.length (h.2.2.1 ++ s))), ((Go.IntKind.wrap Go.IntKind.i64 (h.2.2.2.1 + (((List.length s) : Nat) : Int))), h.2.2.2.2)))), ())))
        (none))
      (none))
    (none))

noncomputable def sha_Hash_Add_t (N : Nat) : Tab ((Unit) × ((Bool × ((List Int) × ((List UInt8) × (Int × Unit)))) × Unit)) := [([0], sha_Hash_Add_h1 N)]

theorem sha_Hash_Add_link (N : Nat) (x : denS [(0, .box (.pair .bool (.pair (.arr 8 (.int .u32)) (.pair .str (.pair (.int .i64) .unit))))), (0, .v .str)]) : evFX (sha_Hash_Add_E N) N (sha_Hash_Add_t N) sha_Hash_Add_L Go.Proofs.Tryd.f102 (mkS [(0, .box (.pair .bool (.pair (.arr 8 (.int .u32)) (.pair .str (.pair (.int .i64) .unit))))), (0, .v .str)] 0 x) (kResB (.tup []) [(0, .box (.pair .bool (.pair (.arr 8 (.int .u32)) (.pair .str (.pair (.int .i64) .unit)))))] 1) = sha_Hash_Add N x.1 x.2.1 := by kernel_rfl

noncomputable def sha_Hash_Add_res (N : Nat) : List A → Res := resOf [(0, .box (.pair .bool (.pair (.arr 8 (.int .u32)) (.pair .str (.pair (.int .i64) .unit))))), (0, .v .str)] (fun x => sha_Hash_Add N x.1 x.2.1) (oResB (.tup []) [(0, .box (.pair .bool (.pair (.arr 8 (.int .u32)) (.pair .str (.pair (.int .i64) .unit)))))] 1)

theorem sha_Hash_Add_ct (N : Nat) : Contract Go.Proofs.Tryd.prog glob 102 (sha_Hash_Add_res N) :=
  Contract.of (E := sha_Hash_Add_E N) (H := sha_Hash_Add_t N) (L := sha_Hash_Add_L) (N := N) (body := sha_Hash_Add_body) (K := (kResB (.tup []) [(0, .box (.pair .bool (.pair (.arr 8 (.int .u32)) (.pair .str (.pair (.int .i64) .unit)))))] 1)) (sha_Hash_Add_Eok N) Go.Proofs.Tryd.func102 (by kernel_rfl) (by decide) (fun _ hb => (TabOk.cons (sha_Hash_Add_ok1 hb) TabOk.nil)) (fun x y h => by rw [sha_Hash_Add_link]; exact h) (kResB_ok (s := (.tup [])) (os := [(0, .box (.pair .bool (.pair (.arr 8 (.int .u32)) (.pair .str (.pair (.int .i64) .unit)))))]) (m := 1))

abbrev sha_Hash_Add_nil_R : Type := (Unit)

noncomputable def sha_Hash_Add_nil_body : Code := (Go.Proofs.Tryd.f102.body).getD .skip

noncomputable def sha_Hash_Add_nil_L : List (List Nat × List Nat) := [([0, 0], [14, 0, 1]), ([1, 0], [0, 1]), ([0, 1, 0], []), ([0, 1], [0, 1]), ([0, 1, 1], [4, 0]), ([0, 1, 1, 1], [0, 4, 5]), ([0, 1, 1, 1, 1], [0, 4, 5]), ([1, 1, 1, 1, 1], [])]

noncomputable def sha_Hash_Add_nil_E (N : Nat) : Env := mkEnv tys glob [(111, sha_steps_res N)] [] [] [] false [] [(106, hmac_framed1_itr N)]

theorem sha_Hash_Add_nil_Eok (N : Nat) : EnvOk Go.Proofs.Tryd.prog (sha_Hash_Add_nil_E N) := mkEnv_ok mixed tys_ok (FnsOk.cons (sha_steps_ct N) (FnsOk.nil)) (ItsOk.cons (hmac_framed1_it N) (ItsOk.nil))

noncomputable def sha_Hash_Add_nil_p1 (N : Nat) (s : (List UInt8)) (k0 : Option (Unit)) : Option (Unit) :=
  k0

noncomputable def sha_Hash_Add_nil_g1 (N : Nat) (x : denS [(0, .nilp), (0, .v .str)]) (K : Ex → List A → Option (Unit)) : Option (Unit) :=
  sha_Hash_Add_nil_p1 N x.2.1 (K .ret (mkS [] 53 ()))

noncomputable def sha_Hash_Add_nil_h1 (N : Nat) : Hd (Unit) := fun st K => (unS [(0, .nilp), (0, .v .str)] 51 (restr [0, 1] 0 st)).bind fun x => sha_Hash_Add_nil_g1 N x K

noncomputable def sha_Hash_Add_nil_t1 (N : Nat) : Tab (Unit) := []

theorem sha_Hash_Add_nil_ok1 {N : Nat} {c : Ctx} (hb : Base Go.Proofs.Tryd.prog (sha_Hash_Add_nil_E N) c) : CodeOk Go.Proofs.Tryd.prog c (nodeAt sha_Hash_Add_nil_body [0]) (sha_Hash_Add_nil_h1 N) :=
  piece_ok (s := [(0, .nilp), (0, .v .str)]) (m := 51) (g := sha_Hash_Add_nil_g1 N) [0, 1] (evN_sound hb N (sha_Hash_Add_nil_t1 N) sha_Hash_Add_nil_L sha_Hash_Add_nil_body TabOk.nil [0] _ rfl) (fun x K => by kernel_rfl)

noncomputable def sha_Hash_Add_nil (N : Nat) (s : (List UInt8)) : Option (Unit) :=
  sha_Hash_Add_nil_p1 N s
  (some ())

noncomputable def sha_Hash_Add_nil_t (N : Nat) : Tab (Unit) := [([0], sha_Hash_Add_nil_h1 N)]

theorem sha_Hash_Add_nil_link (N : Nat) (x : denS [(0, .nilp), (0, .v .str)]) : evFX (sha_Hash_Add_nil_E N) N (sha_Hash_Add_nil_t N) sha_Hash_Add_nil_L Go.Proofs.Tryd.f102 (mkS [(0, .nilp), (0, .v .str)] 0 x) (kRes (.tup []) 2) = sha_Hash_Add_nil N x.2.1 := by kernel_rfl

noncomputable def sha_Hash_Add_nil_res (N : Nat) : List A → Res := resOf [(0, .nilp), (0, .v .str)] (fun x => sha_Hash_Add_nil N x.2.1) (oRes (.tup []) 2)

theorem sha_Hash_Add_nil_ct (N : Nat) : Contract Go.Proofs.Tryd.prog glob 102 (sha_Hash_Add_nil_res N) :=
  Contract.of (E := sha_Hash_Add_nil_E N) (H := sha_Hash_Add_nil_t N) (L := sha_Hash_Add_nil_L) (N := N) (body := sha_Hash_Add_nil_body) (K := (kRes (.tup []) 2)) (sha_Hash_Add_nil_Eok N) Go.Proofs.Tryd.func102 (by kernel_rfl) (by decide) (fun _ hb => (TabOk.cons (sha_Hash_Add_nil_ok1 hb) TabOk.nil)) (fun x y h => by rw [sha_Hash_Add_nil_link]; exact h) (kRes_ok (s := (.tup [])) (m := 2))

noncomputable def sha_Hash_Add_nil_all (N : Nat) : List A → Res := resAlt [(0, .nilp), (0, .v .str)] (fun x => sha_Hash_Add_nil N x.2.1) (oRes (.tup []) 2) (sha_Hash_Add_res N)

theorem sha_Hash_Add_nil_allct (N : Nat) : Contract Go.Proofs.Tryd.prog glob 102 (sha_Hash_Add_nil_all N) := Contract.alt (sha_Hash_Add_nil_ct N) (sha_Hash_Add_ct N)

abbrev octet_Pad_R : Type := (List UInt8)

noncomputable def octet_Pad_body : Code := (Go.Proofs.Tryd.f90.body).getD .skip

noncomputable def octet_Pad_L : List (List Nat × List Nat) := [([0], [1, 0]), ([0, 1], [1, 0]), ([0, 0, 1, 1], [10, 0, 1]), ([1, 0, 1, 1], [0, 1]), ([0, 0, 1, 0, 1, 1], [4]), ([1, 0, 1, 0, 1, 1], [4]), ([0, 1, 1, 1], [4]), ([1, 1, 1, 1], [4])]

noncomputable def octet_Pad_E (N : Nat) : Env := mkEnv tys glob [] [] [] [] false [] [(106, hmac_framed1_itr N)]

theorem octet_Pad_Eok (N : Nat) : EnvOk Go.Proofs.Tryd.prog (octet_Pad_E N) := mkEnv_ok mixed tys_ok (FnsOk.nil) (ItsOk.cons (hmac_framed1_it N) (ItsOk.nil))

noncomputable def octet_Pad (N : Nat) (s : (List UInt8)) (n : Int) : Option (List UInt8) :=
  cond (decide ((if ((65536 : Int) < n) then (65536 : Int) else n) ≤ (((List.length s) : Nat) : Int)))
  (some s)
  (cond (decide (((0 : Int) ≤ (Go.IntKind.wrap Go.IntKind.i64 ((if ((65536 : Int) < n) then (65536 : Int) else n) - (((List.length s) : Nat) : Int)))) ∧ (((Go.IntKind.wrap Go.IntKind.i64 ((if ((65536 : Int) < n) then (65536 : Int) else n) - (((List.length s) : Nat) : Int))) ≤ (Go.IntKind.wrap Go.IntKind.i64 ((if ((65536 : Int) < n) then (65536 : Int) else n) - (((List.length s) : Nat) : Int)))) ∧ ((((Go.IntKind.wrap Go.IntKind.i64 ((if ((65536 : Int) < n) then (65536 : Int) else n) - (((List.length s) : Nat) : Int))) * (1 : Int)) ≤ (281474976710656 : Int)) ∧ ((Go.IntKind.wrap Go.IntKind.i64 ((if ((65536 : Int) < n) then (65536 : Int) else n) - (((List.length s) : Nat) : Int))) ≤ (9223372036854775807 : Int))))))
    (cond (decide (((List.length s) + (List.length (Go.Lift.toStr (List.replicate (Int.toNat (Go.IntKind.wrap Go.IntKind.i64 ((if ((65536 : Int) < n) then (65536 : Int) else n) - (((List.length s) : Nat) : Int)))) (0 : Int))))) ≤ 9223372036854775807))
      (some (s ++ (Go.Lift.toStr (List.replicate (Int.toNat (Go.IntKind.wrap Go.IntKind.i64 ((if ((65536 : Int) < n) then (65536 : Int) else n) - (((List.length s) : Nat) : Int)))) (0 : Int)))))
      (none))
    (none))

noncomputable def octet_Pad_t (N : Nat) : Tab (List UInt8) := []

theorem octet_Pad_link (N : Nat) (x : denS [(0, .v .str), (0, .v (.int .i64))]) : evFX (octet_Pad_E N) N (octet_Pad_t N) octet_Pad_L Go.Proofs.Tryd.f90 (mkS [(0, .v .str), (0, .v (.int .i64))] 0 x) (kRes (.v .str) 2) = octet_Pad N x.1 x.2.1 := by kernel_rfl

noncomputable def octet_Pad_res (N : Nat) : List A → Res := resOf [(0, .v .str), (0, .v (.int .i64))] (fun x => octet_Pad N x.1 x.2.1) (oRes (.v .str) 2)

theorem octet_Pad_ct (N : Nat) : Contract Go.Proofs.Tryd.prog glob 90 (octet_Pad_res N) :=
  Contract.of (E := octet_Pad_E N) (H := octet_Pad_t N) (L := octet_Pad_L) (N := N) (body := octet_Pad_body) (K := (kRes (.v .str) 2)) (octet_Pad_Eok N) Go.Proofs.Tryd.func90 (by kernel_rfl) (by decide) (fun _ hb => TabOk.nil) (fun x y h => by rw [octet_Pad_link]; exact h) (kRes_ok (s := (.v .str)) (m := 2))

abbrev sha_bigEndian_R : Type := (List UInt8)

noncomputable def sha_bigEndian_body : Code := (Go.Proofs.Tryd.f119.body).getD .skip

noncomputable def sha_bigEndian_L : List (List Nat × List Nat) := [([0], [1, 0]), ([0, 1], [1, 5, 0]), ([0, 0, 1, 1], [10, 9, 5, 0, 1]), ([0, 1, 0, 1, 1], [10, 9, 5, 0, 1]), ([0, 0, 0, 1, 0, 1, 1], [11, 10, 5, 0, 1, 9]), ([0, 1, 0, 0, 1, 0, 1, 1], [10, 5, 0, 1, 9]), ([1, 0, 1, 0, 0, 1, 0, 1, 1], [5]), ([0, 0, 0, 1, 1, 0, 0, 1, 0, 1, 1], [5, 6, 0, 1, 10, 9]), ([1, 0, 0, 1, 1, 0, 0, 1, 0, 1, 1], [10, 9, 5, 0, 1]), ([0, 1, 1, 0, 0, 1, 0, 1, 1], [10, 9, 5, 0, 1]), ([1, 1, 1, 0, 0, 1, 0, 1, 1], [10, 9, 5, 0, 1]), ([1, 0, 1, 1], [5]), ([0, 1, 1, 1], [4]), ([1, 1, 1, 1], [4])]

noncomputable def sha_bigEndian_E (N : Nat) : Env := mkEnv tys glob [] [(5, (.int .u8))] [] [] false [] [(106, hmac_framed1_itr N)]

theorem sha_bigEndian_Eok (N : Nat) : EnvOk Go.Proofs.Tryd.prog (sha_bigEndian_E N) := mkEnv_ok mixed tys_ok (FnsOk.nil) (ItsOk.cons (hmac_framed1_it N) (ItsOk.nil))

noncomputable def sha_bigEndian_s1 (N : Nat) (n : Int) (size : Int) (x9 : Int) (out : (List Int)) (x10 : Int) (rec : (List Int) → Int → Option (List UInt8)) (k0 : (List Int) → Option (List UInt8)) : Option (List UInt8) :=
  cond (decide (x10 < x9))
  (cond (decide ((0 : Int) ≤ (Go.IntKind.wrap Go.IntKind.i64 ((8 : Int) * (Go.IntKind.wrap Go.IntKind.i64 ((Go.IntKind.wrap Go.IntKind.i64 (size - (1 : Int))) - x10))))))
    (cond (Go.Lift.inR x10 (List.length out))
      (cond (decide ((Int.toNat x10) < (List.length out)))
        (rec (List.set out (Int.toNat x10) (Go.IntKind.wrap Go.IntKind.u8 (Go.Lift.shrI Go.IntKind.u64 n (Go.IntKind.wrap Go.IntKind.i64 ((8 : Int) * (Go.IntKind.wrap Go.IntKind.i64 ((Go.IntKind.wrap Go.IntKind.i64 (size - (1 : Int))) - x10))))))) (Go.IntKind.wrap Go.IntKind.i64 (x10 + (1 : Int))))
        (none))
      (none))
    (none))
  (k0 out)

noncomputable def sha_bigEndian_p1 (N : Nat) (n : Int) (size : Int) (out : (List Int)) (x9 : Int) (x10 : Int) (k0 : (List Int) → Option (List UInt8)) : Option (List UInt8) :=
  iter (fun (v : ((List Int) × Int)) r => sha_bigEndian_s1 N n size x9 v.1 v.2 (fun out x10 => (r (out, x10))) k0) N (out, x10)

noncomputable def sha_bigEndian_g1 (N : Nat) (i : (Int × Int × Int)) (v : ((List Int) × Int)) (r : ((List Int) × Int) → Option (List UInt8)) (K : Ex → List A → Option (List UInt8)) : Option (List UInt8) :=
  sha_bigEndian_s1 N i.1 i.2.1 i.2.2 v.1 v.2 (fun out x10 => (r (out, x10))) (fun a0 => (K (.exit 0) (mkS [(5, .row (.int .u8))] 21 (a0, ()))))

noncomputable def sha_bigEndian_h1 (N : Nat) : Hd (List UInt8) := fun st K => (unS [(0, .v (.int .u64)), (0, .v (.int .i64)), (3, .row (.int .u8)), (3, .v (.int .i64)), (0, .v (.int .i64))] 16 (restr [10, 9, 5, 0, 1] 0 st)).bind fun x => iter (fun v r => sha_bigEndian_g1 N ((fun x => (x.1, x.2.1, x.2.2.2.1)) x) v r K) N ((fun x => (x.2.2.1, x.2.2.2.2.1)) x)

noncomputable def sha_bigEndian_t1 (N : Nat) : Tab (List UInt8) := []

theorem sha_bigEndian_ok1 {N : Nat} {c : Ctx} (hb : Base Go.Proofs.Tryd.prog (sha_bigEndian_E N) c) : CodeOk Go.Proofs.Tryd.prog c (nodeAt sha_bigEndian_body [0, 1, 0, 1, 1]) (sha_bigEndian_h1 N) :=
  loop_ok (s := [(0, .v (.int .u64)), (0, .v (.int .i64)), (3, .row (.int .u8)), (3, .v (.int .i64)), (0, .v (.int .i64))]) (m := 16) (sha_bigEndian_g1 N) [10, 9, 5, 0, 1] N (fun x => (x.1, x.2.1, x.2.2.2.1)) (fun x => (x.2.2.1, x.2.2.2.2.1)) (fun i v => (i.1, i.2.1, v.1, i.2.2, v.2, ())) (fun _ => rfl) (evN_sound hb N (sha_bigEndian_t1 N) sha_bigEndian_L sha_bigEndian_body TabOk.nil [0, 0, 1, 0, 1, 1] _ rfl) (fun i v r K => by kernel_rfl)

noncomputable def sha_bigEndian (N : Nat) (n : Int) (size : Int) : Option (List UInt8) :=
  cond (decide (((0 : Int) ≤ size) ∧ ((size ≤ size) ∧ (((size * (1 : Int)) ≤ (281474976710656 : Int)) ∧ (size ≤ (9223372036854775807 : Int))))))
  (sha_bigEndian_p1 N n size (List.replicate (Int.toNat size) (0 : Int)) size (0 : Int)
    (fun out => some (Go.Lift.toStr out)))
  (none)

noncomputable def sha_bigEndian_t (N : Nat) : Tab (List UInt8) := [([0, 1, 0, 1, 1], sha_bigEndian_h1 N)]

theorem sha_bigEndian_link (N : Nat) (x : denS [(0, .v (.int .u64)), (0, .v (.int .i64))]) : evFX (sha_bigEndian_E N) N (sha_bigEndian_t N) sha_bigEndian_L Go.Proofs.Tryd.f119 (mkS [(0, .v (.int .u64)), (0, .v (.int .i64))] 0 x) (kRes (.v .str) 2) = sha_bigEndian N x.1 x.2.1 := by kernel_rfl

noncomputable def sha_bigEndian_res (N : Nat) : List A → Res := resOf [(0, .v (.int .u64)), (0, .v (.int .i64))] (fun x => sha_bigEndian N x.1 x.2.1) (oRes (.v .str) 2)

theorem sha_bigEndian_ct (N : Nat) : Contract Go.Proofs.Tryd.prog glob 119 (sha_bigEndian_res N) :=
  Contract.of (E := sha_bigEndian_E N) (H := sha_bigEndian_t N) (L := sha_bigEndian_L) (N := N) (body := sha_bigEndian_body) (K := (kRes (.v .str) 2)) (sha_bigEndian_Eok N) Go.Proofs.Tryd.func119 (by kernel_rfl) (by decide) (fun _ hb => (TabOk.cons (sha_bigEndian_ok1 hb) TabOk.nil)) (fun x y h => by rw [sha_bigEndian_link]; exact h) (kRes_ok (s := (.v .str)) (m := 2))

abbrev sha_tail_R : Type := (List UInt8)

noncomputable def sha_tail_body : Code := (Go.Proofs.Tryd.f113.body).getD .skip

noncomputable def sha_tail_L : List (List Nat × List Nat) := [([0], [0]), ([0, 1], [3, 0]), ([0, 1, 1], [2]), ([1, 1, 1], [2])]

noncomputable def sha_tail_E (N : Nat) : Env := mkEnv tys glob [(119, sha_bigEndian_res N), (90, octet_Pad_res N)] [] [] [] false [] [(106, hmac_framed1_itr N)]

theorem sha_tail_Eok (N : Nat) : EnvOk Go.Proofs.Tryd.prog (sha_tail_E N) := mkEnv_ok mixed tys_ok (FnsOk.cons (sha_bigEndian_ct N) (FnsOk.cons (octet_Pad_ct N) (FnsOk.nil))) (ItsOk.cons (hmac_framed1_it N) (ItsOk.nil))

noncomputable def sha_tail (N : Nat) (n : Int) : Option (List UInt8) :=
  (octet_Pad N ([(128 : UInt8)] : List UInt8) (Go.IntKind.wrap Go.IntKind.i64 ((1 : Int) + (Int.tmod (Go.IntKind.wrap Go.IntKind.i64 ((119 : Int) - (Int.tmod n (64 : Int)))) (64 : Int))))).bind fun y =>
  (sha_bigEndian N (Go.IntKind.wrap Go.IntKind.u64 ((8 : Int) * (Go.IntKind.wrap Go.IntKind.u64 n))) (8 : Int)).bind fun y1 =>
  cond (decide (((List.length y) + (List.length y1)) ≤ 9223372036854775807))
  (some (y ++ y1))
  (none)

noncomputable def sha_tail_t (N : Nat) : Tab (List UInt8) := []

theorem sha_tail_link (N : Nat) (x : denS [(0, .v (.int .i64))]) : evFX (sha_tail_E N) N (sha_tail_t N) sha_tail_L Go.Proofs.Tryd.f113 (mkS [(0, .v (.int .i64))] 0 x) (kRes (.v .str) 1) = sha_tail N x.1 := by kernel_rfl

noncomputable def sha_tail_res (N : Nat) : List A → Res := resOf [(0, .v (.int .i64))] (fun x => sha_tail N x.1) (oRes (.v .str) 1)

theorem sha_tail_ct (N : Nat) : Contract Go.Proofs.Tryd.prog glob 113 (sha_tail_res N) :=
  Contract.of (E := sha_tail_E N) (H := sha_tail_t N) (L := sha_tail_L) (N := N) (body := sha_tail_body) (K := (kRes (.v .str) 1)) (sha_tail_Eok N) Go.Proofs.Tryd.func113 (by kernel_rfl) (by decide) (fun _ hb => TabOk.nil) (fun x y h => by rw [sha_tail_link]; exact h) (kRes_ok (s := (.v .str)) (m := 1))

abbrev sha_Tell_R : Type := (List UInt8)

noncomputable def sha_Tell_body : Code := (Go.Proofs.Tryd.f112.body).getD .skip

noncomputable def sha_Tell_L : List (List Nat × List Nat) := [([0], [1]), ([0, 1], [1, 3]), ([0, 0, 1, 1], [7, 6, 3]), ([0, 1, 0, 1, 1], [7, 6, 3]), ([0, 0, 0, 1, 0, 1, 1], [8, 6, 7, 3]), ([0, 1, 0, 0, 1, 0, 1, 1], [6, 7, 3]), ([1, 0, 1, 0, 0, 1, 0, 1, 1], [3]), ([0, 0, 0, 1, 1, 0, 0, 1, 0, 1, 1], [3, 5, 7, 6]), ([1, 0, 0, 1, 1, 0, 0, 1, 0, 1, 1], [7, 6, 3]), ([0, 1, 1, 0, 0, 1, 0, 1, 1], [7, 6, 3]), ([1, 1, 1, 0, 0, 1, 0, 1, 1], [7, 6, 3]), ([1, 0, 1, 1], [3]), ([0, 1, 1, 1], [2]), ([1, 1, 1, 1], [2])]

noncomputable def sha_Tell_E (N : Nat) : Env := mkEnv tys glob [(119, sha_bigEndian_res N)] [] [] [] false [] [(106, hmac_framed1_itr N)]

theorem sha_Tell_Eok (N : Nat) : EnvOk Go.Proofs.Tryd.prog (sha_Tell_E N) := mkEnv_ok mixed tys_ok (FnsOk.cons (sha_bigEndian_ct N) (FnsOk.nil)) (ItsOk.cons (hmac_framed1_it N) (ItsOk.nil))

noncomputable def sha_Tell_s1 (N : Nat) (x6 : (List Int)) (out : (List UInt8)) (x7 : Int) (rec : (List UInt8) → Int → Option (List UInt8)) (k0 : (List UInt8) → Option (List UInt8)) : Option (List UInt8) :=
  cond (decide (x7 < (8 : Int)))
  (cond (Go.Lift.inR x7 8)
    ((sha_bigEndian N (Go.IntKind.wrap Go.IntKind.u64 (List.getD x6 (Int.toNat x7) (0 : Int))) (4 : Int)).bind fun y =>
      cond (decide (((List.length out) + (List.length y)) ≤ 9223372036854775807))
      (rec (out ++ y) (Go.IntKind.wrap Go.IntKind.i64 (x7 + (1 : Int))))
      (none))
    (none))
  (k0 out)

noncomputable def sha_Tell_p1 (N : Nat) (out : (List UInt8)) (x6 : (List Int)) (x7 : Int) (k0 : (List UInt8) → Option (List UInt8)) : Option (List UInt8) :=
  iter (fun (v : ((List UInt8) × Int)) r => sha_Tell_s1 N x6 v.1 v.2 (fun out x7 => (r (out, x7))) k0) N (out, x7)

noncomputable def sha_Tell_g1 (N : Nat) (i : (List Int)) (v : ((List UInt8) × Int)) (r : ((List UInt8) × Int) → Option (List UInt8)) (K : Ex → List A → Option (List UInt8)) : Option (List UInt8) :=
  sha_Tell_s1 N i v.1 v.2 (fun out x7 => (r (out, x7))) (fun a0 => (K (.exit 0) (mkS [(3, .v .str)] 13 (a0, ()))))

noncomputable def sha_Tell_h1 (N : Nat) : Hd (List UInt8) := fun st K => (unS [(3, .v .str), (2, .v (.arr 8 (.int .u32))), (0, .v (.int .i64))] 9 (restr [7, 6, 3] 0 st)).bind fun x => iter (fun v r => sha_Tell_g1 N ((fun x => x.2.1) x) v r K) N ((fun x => (x.1, x.2.2.1)) x)

noncomputable def sha_Tell_t1 (N : Nat) : Tab (List UInt8) := []

theorem sha_Tell_ok1 {N : Nat} {c : Ctx} (hb : Base Go.Proofs.Tryd.prog (sha_Tell_E N) c) : CodeOk Go.Proofs.Tryd.prog c (nodeAt sha_Tell_body [0, 1, 0, 1, 1]) (sha_Tell_h1 N) :=
  loop_ok (s := [(3, .v .str), (2, .v (.arr 8 (.int .u32))), (0, .v (.int .i64))]) (m := 9) (sha_Tell_g1 N) [7, 6, 3] N (fun x => x.2.1) (fun x => (x.1, x.2.2.1)) (fun i v => (v.1, i, v.2, ())) (fun _ => rfl) (evN_sound hb N (sha_Tell_t1 N) sha_Tell_L sha_Tell_body TabOk.nil [0, 0, 1, 0, 1, 1] _ rfl) (fun i v r K => by kernel_rfl)

noncomputable def sha_Tell (N : Nat) (h : (List Int)) : Option (List UInt8) :=
  sha_Tell_p1 N ([] : List UInt8) h (0 : Int)
  (fun out => some out)

noncomputable def sha_Tell_t (N : Nat) : Tab (List UInt8) := [([0, 1, 0, 1, 1], sha_Tell_h1 N)]

theorem sha_Tell_link (N : Nat) (x : denS [(0, .v (.arr 8 (.int .u32)))]) : evFX (sha_Tell_E N) N (sha_Tell_t N) sha_Tell_L Go.Proofs.Tryd.f112 (mkS [(0, .v (.arr 8 (.int .u32)))] 0 x) (kRes (.v .str) 1) = sha_Tell N x.1 := by kernel_rfl

noncomputable def sha_Tell_res (N : Nat) : List A → Res := resOf [(0, .v (.arr 8 (.int .u32)))] (fun x => sha_Tell N x.1) (oRes (.v .str) 1)

theorem sha_Tell_ct (N : Nat) : Contract Go.Proofs.Tryd.prog glob 112 (sha_Tell_res N) :=
  Contract.of (E := sha_Tell_E N) (H := sha_Tell_t N) (L := sha_Tell_L) (N := N) (body := sha_Tell_body) (K := (kRes (.v .str) 1)) (sha_Tell_Eok N) Go.Proofs.Tryd.func112 (by kernel_rfl) (by decide) (fun _ hb => (TabOk.cons (sha_Tell_ok1 hb) TabOk.nil)) (fun x y h => by rw [sha_Tell_link]; exact h) (kRes_ok (s := (.v .str)) (m := 1))

abbrev sha_Hash_Sum1_R : Type := ((List UInt8) × ((Bool × ((List Int) × ((List UInt8) × (Int × Unit)))) × Unit))

noncomputable def sha_Hash_Sum1_body : Code := (Go.Proofs.Tryd.f103.body).getD .skip

noncomputable def sha_Hash_Sum1_L : List (List Nat × List Nat) := [([0], [0]), ([0, 0, 1], [11, 0]), ([1, 0, 1], [0]), ([0, 0, 1, 0, 1], [2, 0]), ([1, 0, 1, 0, 1], [2, 0]), ([0, 1, 1], [2, 0]), ([1, 1, 1], [2, 0])]

noncomputable def sha_Hash_Sum1_E (N : Nat) : Env := mkEnv tys glob [(112, sha_Tell_res N), (113, sha_tail_res N), (111, sha_steps_res N)] [] [] [0] false [] [(106, hmac_framed1_itr N)]

theorem sha_Hash_Sum1_Eok (N : Nat) : EnvOk Go.Proofs.Tryd.prog (sha_Hash_Sum1_E N) := mkEnv_ok mixed tys_ok (FnsOk.cons (sha_Tell_ct N) (FnsOk.cons (sha_tail_ct N) (FnsOk.cons (sha_steps_ct N) (FnsOk.nil)))) (ItsOk.cons (hmac_framed1_it N) (ItsOk.nil))

noncomputable def sha_Hash_Sum1_p2 (N : Nat) (h : (Bool × ((List Int) × ((List UInt8) × (Int × Unit))))) (k0 : Bool → Option ((List UInt8) × ((Bool × ((List Int) × ((List UInt8) × (Int × Unit)))) × Unit))) : Option ((List UInt8) × ((Bool × ((List Int) × ((List UInt8) × (Int × Unit)))) × Unit)) :=
  k0 (!h.1)

noncomputable def sha_Hash_Sum1_g2 (N : Nat) (x : denS [(0, .box (.pair .bool (.pair (.arr 8 (.int .u32)) (.pair .str (.pair (.int .i64) .unit)))))]) (K : Ex → List A → Option ((List UInt8) × ((Bool × ((List Int) × ((List UInt8) × (Int × Unit)))) × Unit))) : Option ((List UInt8) × ((Bool × ((List Int) × ((List UInt8) × (Int × Unit)))) × Unit)) :=
  sha_Hash_Sum1_p2 N x.1 (fun a1 => (K .normal (mkS [(0, .box (.pair .bool (.pair (.arr 8 (.int .u32)) (.pair .str (.pair (.int .i64) .unit))))), (10, .v .bool)] 17 (x.1, a1, ()))))

noncomputable def sha_Hash_Sum1_h2 (N : Nat) : Hd ((List UInt8) × ((Bool × ((List Int) × ((List UInt8) × (Int × Unit)))) × Unit)) := fun st K => (unS [(0, .box (.pair .bool (.pair (.arr 8 (.int .u32)) (.pair .str (.pair (.int .i64) .unit)))))] 28 (restr [0] 0 st)).bind fun x => sha_Hash_Sum1_g2 N x K

noncomputable def sha_Hash_Sum1_t2 (N : Nat) : Tab ((List UInt8) × ((Bool × ((List Int) × ((List UInt8) × (Int × Unit)))) × Unit)) := []

theorem sha_Hash_Sum1_ok2 {N : Nat} {c : Ctx} (hb : Base Go.Proofs.Tryd.prog (sha_Hash_Sum1_E N) c) : CodeOk Go.Proofs.Tryd.prog c (nodeAt sha_Hash_Sum1_body [0, 0, 1]) (sha_Hash_Sum1_h2 N) :=
  piece_ok (s := [(0, .box (.pair .bool (.pair (.arr 8 (.int .u32)) (.pair .str (.pair (.int .i64) .unit)))))]) (m := 28) (g := sha_Hash_Sum1_g2 N) [0] (evN_sound hb N (sha_Hash_Sum1_t2 N) sha_Hash_Sum1_L sha_Hash_Sum1_body TabOk.nil [0, 0, 1] _ rfl) (fun x K => by kernel_rfl)

noncomputable def sha_Hash_Sum1_p1 (N : Nat) (h : (Bool × ((List Int) × ((List UInt8) × (Int × Unit))))) (k0 : Option ((List UInt8) × ((Bool × ((List Int) × ((List UInt8) × (Int × Unit)))) × Unit))) : Option ((List UInt8) × ((Bool × ((List Int) × ((List UInt8) × (Int × Unit)))) × Unit)) :=
  sha_Hash_Sum1_p2 N h
  (fun x11 => cond x11
    (none)
    (k0))

noncomputable def sha_Hash_Sum1_g1 (N : Nat) (x : denS [(0, .box (.pair .bool (.pair (.arr 8 (.int .u32)) (.pair .str (.pair (.int .i64) .unit)))))]) (K : Ex → List A → Option ((List UInt8) × ((Bool × ((List Int) × ((List UInt8) × (Int × Unit)))) × Unit))) : Option ((List UInt8) × ((Bool × ((List Int) × ((List UInt8) × (Int × Unit)))) × Unit)) :=
  sha_Hash_Sum1_p1 N x.1 (K .normal (mkS [(0, .box (.pair .bool (.pair (.arr 8 (.int .u32)) (.pair .str (.pair (.int .i64) .unit)))))] 28 (x.1, ())))

noncomputable def sha_Hash_Sum1_h1 (N : Nat) : Hd ((List UInt8) × ((Bool × ((List Int) × ((List UInt8) × (Int × Unit)))) × Unit)) := fun st K => (unS [(0, .box (.pair .bool (.pair (.arr 8 (.int .u32)) (.pair .str (.pair (.int .i64) .unit)))))] 28 (restr [0] 0 st)).bind fun x => sha_Hash_Sum1_g1 N x K

noncomputable def sha_Hash_Sum1_t1 (N : Nat) : Tab ((List UInt8) × ((Bool × ((List Int) × ((List UInt8) × (Int × Unit)))) × Unit)) := [([0, 0, 1], sha_Hash_Sum1_h2 N)]

theorem sha_Hash_Sum1_ok1 {N : Nat} {c : Ctx} (hb : Base Go.Proofs.Tryd.prog (sha_Hash_Sum1_E N) c) : CodeOk Go.Proofs.Tryd.prog c (nodeAt sha_Hash_Sum1_body [0, 1]) (sha_Hash_Sum1_h1 N) :=
  piece_ok (s := [(0, .box (.pair .bool (.pair (.arr 8 (.int .u32)) (.pair .str (.pair (.int .i64) .unit)))))]) (m := 28) (g := sha_Hash_Sum1_g1 N) [0] (evN_sound hb N (sha_Hash_Sum1_t1 N) sha_Hash_Sum1_L sha_Hash_Sum1_body (TabOk.cons (sha_Hash_Sum1_ok2 hb) TabOk.nil) [0, 1] _ rfl) (fun x K => by kernel_rfl)

noncomputable def sha_Hash_Sum1 (N : Nat) (h : (Bool × ((List Int) × ((List UInt8) × (Int × Unit))))) : Option ((List UInt8) × ((Bool × ((List Int) × ((List UInt8) × (Int × Unit)))) × Unit)) :=
  sha_Hash_Sum1_p1 N h
  ((sha_tail N h.2.2.2.1).bind fun y =>
    cond (decide (((List.length h.2.2.1) + (List.length y)) ≤ 9223372036854775807))
    ((sha_steps N h.2.1 (h.2.2.1 ++ y)).bind fun y1 =>
      (sha_Tell N y1).bind fun y2 =>
      some (y2, (h, ())))
    (none))

noncomputable def sha_Hash_Sum1_t (N : Nat) : Tab ((List UInt8) × ((Bool × ((List Int) × ((List UInt8) × (Int × Unit)))) × Unit)) := [([0, 1], sha_Hash_Sum1_h1 N)]

theorem sha_Hash_Sum1_link (N : Nat) (x : denS [(0, .box (.pair .bool (.pair (.arr 8 (.int .u32)) (.pair .str (.pair (.int .i64) .unit)))))]) : evFX (sha_Hash_Sum1_E N) N (sha_Hash_Sum1_t N) sha_Hash_Sum1_L Go.Proofs.Tryd.f103 (mkS [(0, .box (.pair .bool (.pair (.arr 8 (.int .u32)) (.pair .str (.pair (.int .i64) .unit)))))] 0 x) (kResB (.v .str) [(0, .box (.pair .bool (.pair (.arr 8 (.int .u32)) (.pair .str (.pair (.int .i64) .unit)))))] 0) = sha_Hash_Sum1 N x.1 := by kernel_rfl

noncomputable def sha_Hash_Sum1_res (N : Nat) : List A → Res := resOf [(0, .box (.pair .bool (.pair (.arr 8 (.int .u32)) (.pair .str (.pair (.int .i64) .unit)))))] (fun x => sha_Hash_Sum1 N x.1) (oResB (.v .str) [(0, .box (.pair .bool (.pair (.arr 8 (.int .u32)) (.pair .str (.pair (.int .i64) .unit)))))] 0)

theorem sha_Hash_Sum1_ct (N : Nat) : Contract Go.Proofs.Tryd.prog glob 103 (sha_Hash_Sum1_res N) :=
  Contract.of (E := sha_Hash_Sum1_E N) (H := sha_Hash_Sum1_t N) (L := sha_Hash_Sum1_L) (N := N) (body := sha_Hash_Sum1_body) (K := (kResB (.v .str) [(0, .box (.pair .bool (.pair (.arr 8 (.int .u32)) (.pair .str (.pair (.int .i64) .unit)))))] 0)) (sha_Hash_Sum1_Eok N) Go.Proofs.Tryd.func103 (by kernel_rfl) (by decide) (fun _ hb => (TabOk.cons (sha_Hash_Sum1_ok1 hb) TabOk.nil)) (fun x y h => by rw [sha_Hash_Sum1_link]; exact h) (kResB_ok (s := (.v .str)) (os := [(0, .box (.pair .bool (.pair (.arr 8 (.int .u32)) (.pair .str (.pair (.int .i64) .unit)))))]) (m := 0))

abbrev sha_Sum_R : Type := (List UInt8)

noncomputable def sha_Sum_body : Code := (Go.Proofs.Tryd.f89.body).getD .skip

noncomputable def sha_Sum_L : List (List Nat × List Nat) := [([0], [0]), ([0, 1], [3, 0]), ([0, 1, 1], [3]), ([0, 1, 1, 1], [2]), ([1, 1, 1, 1], [2])]

noncomputable def sha_Sum_E (N : Nat) : Env := mkEnv tys glob [(103, sha_Hash_Sum1_res N), (102, sha_Hash_Add_nil_all N), (101, sha_New_res N)] [] [] [] false [] [(106, hmac_framed1_itr N)]

theorem sha_Sum_Eok (N : Nat) : EnvOk Go.Proofs.Tryd.prog (sha_Sum_E N) := mkEnv_ok mixed tys_ok (FnsOk.cons (sha_Hash_Sum1_ct N) (FnsOk.cons (sha_Hash_Add_nil_allct N) (FnsOk.cons (sha_New_ct N) (FnsOk.nil)))) (ItsOk.cons (hmac_framed1_it N) (ItsOk.nil))

noncomputable def sha_Sum (N : Nat) (s : (List UInt8)) : Option (List UInt8) :=
  (sha_Hash_Add N (true, (([(1779033703 : Int), (3144134277 : Int), (1013904242 : Int), (2773480762 : Int), (1359893119 : Int), (2600822924 : Int), (528734635 : Int), (1541459225 : Int)] : List Int), (([] : List UInt8), ((0 : Int), ())))) s).bind fun y =>
  (sha_Hash_Sum1 N y.2.1).bind fun y1 =>
  some y1.1

noncomputable def sha_Sum_t (N : Nat) : Tab (List UInt8) := []

theorem sha_Sum_link (N : Nat) (x : denS [(0, .v .str)]) : evFX (sha_Sum_E N) N (sha_Sum_t N) sha_Sum_L Go.Proofs.Tryd.f89 (mkS [(0, .v .str)] 0 x) (kRes (.v .str) 1) = sha_Sum N x.1 := by kernel_rfl

noncomputable def sha_Sum_res (N : Nat) : List A → Res := resOf [(0, .v .str)] (fun x => sha_Sum N x.1) (oRes (.v .str) 1)

theorem sha_Sum_ct (N : Nat) : Contract Go.Proofs.Tryd.prog glob 89 (sha_Sum_res N) :=
  Contract.of (E := sha_Sum_E N) (H := sha_Sum_t N) (L := sha_Sum_L) (N := N) (body := sha_Sum_body) (K := (kRes (.v .str) 1)) (sha_Sum_Eok N) Go.Proofs.Tryd.func89 (by kernel_rfl) (by decide) (fun _ hb => TabOk.nil) (fun x y h => by rw [sha_Sum_link]; exact h) (kRes_ok (s := (.v .str)) (m := 1))

abbrev sha_Hash_Sum_R : Type := ((List UInt8) × ((Bool × ((List Int) × ((List UInt8) × (Int × Unit)))) × Unit))

noncomputable def sha_Hash_Sum_body : Code := (Go.Proofs.Tryd.f103.body).getD .skip

noncomputable def sha_Hash_Sum_L : List (List Nat × List Nat) := [([0], [0]), ([0, 0, 1], [11, 0]), ([1, 0, 1], [0]), ([0, 0, 1, 0, 1], [2, 0]), ([1, 0, 1, 0, 1], [2, 0]), ([0, 1, 1], [2, 0]), ([1, 1, 1], [2, 0])]

noncomputable def sha_Hash_Sum_E (N : Nat) : Env := mkEnv tys glob [(89, sha_Sum_res N), (112, sha_Tell_res N), (113, sha_tail_res N), (111, sha_steps_res N)] [] [] [0] false [] [(106, hmac_framed1_itr N)]

theorem sha_Hash_Sum_Eok (N : Nat) : EnvOk Go.Proofs.Tryd.prog (sha_Hash_Sum_E N) := mkEnv_ok mixed tys_ok (FnsOk.cons (sha_Sum_ct N) (FnsOk.cons (sha_Tell_ct N) (FnsOk.cons (sha_tail_ct N) (FnsOk.cons (sha_steps_ct N) (FnsOk.nil))))) (ItsOk.cons (hmac_framed1_it N) (ItsOk.nil))

noncomputable def sha_Hash_Sum_p2 (N : Nat) (h : (Bool × ((List Int) × ((List UInt8) × (Int × Unit))))) (k0 : Bool → Option ((List UInt8) × ((Bool × ((List Int) × ((List UInt8) × (Int × Unit)))) × Unit))) : Option ((List UInt8) × ((Bool × ((List Int) × ((List UInt8) × (Int × Unit)))) × Unit)) :=
  k0 (!h.1)

noncomputable def sha_Hash_Sum_g2 (N : Nat) (x : denS [(0, .box (.pair .bool (.pair (.arr 8 (.int .u32)) (.pair .str (.pair (.int .i64) .unit)))))]) (K : Ex → List A → Option ((List UInt8) × ((Bool × ((List Int) × ((List UInt8) × (Int × Unit)))) × Unit))) : Option ((List UInt8) × ((Bool × ((List Int) × ((List UInt8) × (Int × Unit)))) × Unit)) :=
  sha_Hash_Sum_p2 N x.1 (fun a1 => (K .normal (mkS [(0, .box (.pair .bool (.pair (.arr 8 (.int .u32)) (.pair .str (.pair (.int .i64) .unit))))), (10, .v .bool)] 17 (x.1, a1, ()))))

noncomputable def sha_Hash_Sum_h2 (N : Nat) : Hd ((List UInt8) × ((Bool × ((List Int) × ((List UInt8) × (Int × Unit)))) × Unit)) := fun st K => (unS [(0, .box (.pair .bool (.pair (.arr 8 (.int .u32)) (.pair .str (.pair (.int .i64) .unit)))))] 28 (restr [0] 0 st)).bind fun x => sha_Hash_Sum_g2 N x K

noncomputable def sha_Hash_Sum_t2 (N : Nat) : Tab ((List UInt8) × ((Bool × ((List Int) × ((List UInt8) × (Int × Unit)))) × Unit)) := []

theorem sha_Hash_Sum_ok2 {N : Nat} {c : Ctx} (hb : Base Go.Proofs.Tryd.prog (sha_Hash_Sum_E N) c) : CodeOk Go.Proofs.Tryd.prog c (nodeAt sha_Hash_Sum_body [0, 0, 1]) (sha_Hash_Sum_h2 N) :=
  piece_ok (s := [(0, .box (.pair .bool (.pair (.arr 8 (.int .u32)) (.pair .str (.pair (.int .i64) .unit)))))]) (m := 28) (g := sha_Hash_Sum_g2 N) [0] (evN_sound hb N (sha_Hash_Sum_t2 N) sha_Hash_Sum_L sha_Hash_Sum_body TabOk.nil [0, 0, 1] _ rfl) (fun x K => by kernel_rfl)

noncomputable def sha_Hash_Sum_p1 (N : Nat) (h : (Bool × ((List Int) × ((List UInt8) × (Int × Unit))))) (k0 : (List UInt8) → Option ((List UInt8) × ((Bool × ((List Int) × ((List UInt8) × (Int × Unit)))) × Unit))) (k1 : Option ((List UInt8) × ((Bool × ((List Int) × ((List UInt8) × (Int × Unit)))) × Unit))) : Option ((List UInt8) × ((Bool × ((List Int) × ((List UInt8) × (Int × Unit)))) × Unit)) :=
  sha_Hash_Sum_p2 N h
  (fun x11 => cond x11
    ((sha_Sum N ([] : List UInt8)).bind fun y =>
      k0 y)
    (k1))

noncomputable def sha_Hash_Sum_g1 (N : Nat) (x : denS [(0, .box (.pair .bool (.pair (.arr 8 (.int .u32)) (.pair .str (.pair (.int .i64) .unit)))))]) (K : Ex → List A → Option ((List UInt8) × ((Bool × ((List Int) × ((List UInt8) × (Int × Unit)))) × Unit))) : Option ((List UInt8) × ((Bool × ((List Int) × ((List UInt8) × (Int × Unit)))) × Unit)) :=
  sha_Hash_Sum_p1 N x.1 (fun a1 => (K .ret (mkS [(0, .box (.pair .bool (.pair (.arr 8 (.int .u32)) (.pair .str (.pair (.int .i64) .unit))))), (1, .v .str)] 26 (x.1, a1, ())))) (K .normal (mkS [(0, .box (.pair .bool (.pair (.arr 8 (.int .u32)) (.pair .str (.pair (.int .i64) .unit)))))] 28 (x.1, ())))

noncomputable def sha_Hash_Sum_h1 (N : Nat) : Hd ((List UInt8) × ((Bool × ((List Int) × ((List UInt8) × (Int × Unit)))) × Unit)) := fun st K => (unS [(0, .box (.pair .bool (.pair (.arr 8 (.int .u32)) (.pair .str (.pair (.int .i64) .unit)))))] 28 (restr [0] 0 st)).bind fun x => sha_Hash_Sum_g1 N x K

noncomputable def sha_Hash_Sum_t1 (N : Nat) : Tab ((List UInt8) × ((Bool × ((List Int) × ((List UInt8) × (Int × Unit)))) × Unit)) := [([0, 0, 1], sha_Hash_Sum_h2 N)]

theorem sha_Hash_Sum_ok1 {N : Nat} {c : Ctx} (hb : Base Go.Proofs.Tryd.prog (sha_Hash_Sum_E N) c) : CodeOk Go.Proofs.Tryd.prog c (nodeAt sha_Hash_Sum_body [0, 1]) (sha_Hash_Sum_h1 N) :=
  piece_ok (s := [(0, .box (.pair .bool (.pair (.arr 8 (.int .u32)) (.pair .str (.pair (.int .i64) .unit)))))]) (m := 28) (g := sha_Hash_Sum_g1 N) [0] (evN_sound hb N (sha_Hash_Sum_t1 N) sha_Hash_Sum_L sha_Hash_Sum_body (TabOk.cons (sha_Hash_Sum_ok2 hb) TabOk.nil) [0, 1] _ rfl) (fun x K => by kernel_rfl)

noncomputable def sha_Hash_Sum (N : Nat) (h : (Bool × ((List Int) × ((List UInt8) × (Int × Unit))))) : Option ((List UInt8) × ((Bool × ((List Int) × ((List UInt8) × (Int × Unit)))) × Unit)) :=
  sha_Hash_Sum_p1 N h
  (fun x2 => some (x2, (h, ())))
  ((sha_tail N h.2.2.2.1).bind fun y =>
    cond (decide (((List.length h.2.2.1) + (List.length y)) ≤ 9223372036854775807))
    ((sha_steps N h.2.1 (h.2.2.1 ++ y)).bind fun y1 =>
      (sha_Tell N y1).bind fun y2 =>
      some (y2, (h, ())))
    (none))

noncomputable def sha_Hash_Sum_t (N : Nat) : Tab ((List UInt8) × ((Bool × ((List Int) × ((List UInt8) × (Int × Unit)))) × Unit)) := [([0, 1], sha_Hash_Sum_h1 N)]

theorem sha_Hash_Sum_link (N : Nat) (x : denS [(0, .box (.pair .bool (.pair (.arr 8 (.int .u32)) (.pair .str (.pair (.int .i64) .unit)))))]) : evFX (sha_Hash_Sum_E N) N (sha_Hash_Sum_t N) sha_Hash_Sum_L Go.Proofs.Tryd.f103 (mkS [(0, .box (.pair .bool (.pair (.arr 8 (.int .u32)) (.pair .str (.pair (.int .i64) .unit)))))] 0 x) (kResB (.v .str) [(0, .box (.pair .bool (.pair (.arr 8 (.int .u32)) (.pair .str (.pair (.int .i64) .unit)))))] 0) = sha_Hash_Sum N x.1 := by kernel_rfl

noncomputable def sha_Hash_Sum_res (N : Nat) : List A → Res := resOf [(0, .box (.pair .bool (.pair (.arr 8 (.int .u32)) (.pair .str (.pair (.int .i64) .unit)))))] (fun x => sha_Hash_Sum N x.1) (oResB (.v .str) [(0, .box (.pair .bool (.pair (.arr 8 (.int .u32)) (.pair .str (.pair (.int .i64) .unit)))))] 0)

theorem sha_Hash_Sum_ct (N : Nat) : Contract Go.Proofs.Tryd.prog glob 103 (sha_Hash_Sum_res N) :=
  Contract.of (E := sha_Hash_Sum_E N) (H := sha_Hash_Sum_t N) (L := sha_Hash_Sum_L) (N := N) (body := sha_Hash_Sum_body) (K := (kResB (.v .str) [(0, .box (.pair .bool (.pair (.arr 8 (.int .u32)) (.pair .str (.pair (.int .i64) .unit)))))] 0)) (sha_Hash_Sum_Eok N) Go.Proofs.Tryd.func103 (by kernel_rfl) (by decide) (fun _ hb => (TabOk.cons (sha_Hash_Sum_ok1 hb) TabOk.nil)) (fun x y h => by rw [sha_Hash_Sum_link]; exact h) (kResB_ok (s := (.v .str)) (os := [(0, .box (.pair .bool (.pair (.arr 8 (.int .u32)) (.pair .str (.pair (.int .i64) .unit)))))]) (m := 0))

noncomputable def sha_Hash_Sum_all (N : Nat) : List A → Res := resAlt [(0, .box (.pair .bool (.pair (.arr 8 (.int .u32)) (.pair .str (.pair (.int .i64) .unit)))))] (fun x => sha_Hash_Sum N x.1) (oResB (.v .str) [(0, .box (.pair .bool (.pair (.arr 8 (.int .u32)) (.pair .str (.pair (.int .i64) .unit)))))] 0) (sha_Hash_Sum1_res N)

theorem sha_Hash_Sum_allct (N : Nat) : Contract Go.Proofs.Tryd.prog glob 103 (sha_Hash_Sum_all N) := Contract.alt (sha_Hash_Sum_ct N) (sha_Hash_Sum1_ct N)

abbrev sha_Hash_Sum_nil_R : Type := (List UInt8)

noncomputable def sha_Hash_Sum_nil_body : Code := (Go.Proofs.Tryd.f103.body).getD .skip

noncomputable def sha_Hash_Sum_nil_L : List (List Nat × List Nat) := [([0], [0]), ([0, 0, 1], [11, 0]), ([1, 0, 1], [0]), ([0, 0, 1, 0, 1], [2]), ([1, 0, 1, 0, 1], [2]), ([0, 1, 1], [2]), ([1, 1, 1], [2])]

noncomputable def sha_Hash_Sum_nil_E (N : Nat) : Env := mkEnv tys glob [(89, sha_Sum_res N), (112, sha_Tell_res N), (113, sha_tail_res N), (111, sha_steps_res N)] [] [] [] false [] [(106, hmac_framed1_itr N)]

theorem sha_Hash_Sum_nil_Eok (N : Nat) : EnvOk Go.Proofs.Tryd.prog (sha_Hash_Sum_nil_E N) := mkEnv_ok mixed tys_ok (FnsOk.cons (sha_Sum_ct N) (FnsOk.cons (sha_Tell_ct N) (FnsOk.cons (sha_tail_ct N) (FnsOk.cons (sha_steps_ct N) (FnsOk.nil))))) (ItsOk.cons (hmac_framed1_it N) (ItsOk.nil))

noncomputable def sha_Hash_Sum_nil_p2 (N : Nat) (k0 : Bool → Option (List UInt8)) : Option (List UInt8) :=
  k0 true

noncomputable def sha_Hash_Sum_nil_g2 (N : Nat) (x : denS [(0, .nilp)]) (K : Ex → List A → Option (List UInt8)) : Option (List UInt8) :=
  sha_Hash_Sum_nil_p2 N (fun a0 => (K .normal (mkS [(0, .nilp), (10, .v .bool)] 17 ((), a0, ()))))

noncomputable def sha_Hash_Sum_nil_h2 (N : Nat) : Hd (List UInt8) := fun st K => (unS [(0, .nilp)] 28 (restr [0] 0 st)).bind fun x => sha_Hash_Sum_nil_g2 N x K

noncomputable def sha_Hash_Sum_nil_t2 (N : Nat) : Tab (List UInt8) := []

theorem sha_Hash_Sum_nil_ok2 {N : Nat} {c : Ctx} (hb : Base Go.Proofs.Tryd.prog (sha_Hash_Sum_nil_E N) c) : CodeOk Go.Proofs.Tryd.prog c (nodeAt sha_Hash_Sum_nil_body [0, 0, 1]) (sha_Hash_Sum_nil_h2 N) :=
  piece_ok (s := [(0, .nilp)]) (m := 28) (g := sha_Hash_Sum_nil_g2 N) [0] (evN_sound hb N (sha_Hash_Sum_nil_t2 N) sha_Hash_Sum_nil_L sha_Hash_Sum_nil_body TabOk.nil [0, 0, 1] _ rfl) (fun x K => by kernel_rfl)

noncomputable def sha_Hash_Sum_nil_p1 (N : Nat) (k0 : (List UInt8) → Option (List UInt8)) (k1 : Option (List UInt8)) : Option (List UInt8) :=
  sha_Hash_Sum_nil_p2 N
  (fun x11 => cond x11
    ((sha_Sum N ([] : List UInt8)).bind fun y =>
      k0 y)
    (k1))

noncomputable def sha_Hash_Sum_nil_g1 (N : Nat) (x : denS [(0, .nilp)]) (K : Ex → List A → Option (List UInt8)) : Option (List UInt8) :=
  sha_Hash_Sum_nil_p1 N (fun a0 => (K .ret (mkS [(2, .v .str)] 26 (a0, ())))) (K .normal (mkS [(0, .nilp)] 28 ((), ())))

noncomputable def sha_Hash_Sum_nil_h1 (N : Nat) : Hd (List UInt8) := fun st K => (unS [(0, .nilp)] 28 (restr [0] 0 st)).bind fun x => sha_Hash_Sum_nil_g1 N x K

noncomputable def sha_Hash_Sum_nil_t1 (N : Nat) : Tab (List UInt8) := [([0, 0, 1], sha_Hash_Sum_nil_h2 N)]

theorem sha_Hash_Sum_nil_ok1 {N : Nat} {c : Ctx} (hb : Base Go.Proofs.Tryd.prog (sha_Hash_Sum_nil_E N) c) : CodeOk Go.Proofs.Tryd.prog c (nodeAt sha_Hash_Sum_nil_body [0, 1]) (sha_Hash_Sum_nil_h1 N) :=
  piece_ok (s := [(0, .nilp)]) (m := 28) (g := sha_Hash_Sum_nil_g1 N) [0] (evN_sound hb N (sha_Hash_Sum_nil_t1 N) sha_Hash_Sum_nil_L sha_Hash_Sum_nil_body (TabOk.cons (sha_Hash_Sum_nil_ok2 hb) TabOk.nil) [0, 1] _ rfl) (fun x K => by kernel_rfl)

noncomputable def sha_Hash_Sum_nil (N : Nat) : Option (List UInt8) :=
  sha_Hash_Sum_nil_p1 N
  (fun x2 => some x2)
  (none)

noncomputable def sha_Hash_Sum_nil_t (N : Nat) : Tab (List UInt8) := [([0, 1], sha_Hash_Sum_nil_h1 N)]

theorem sha_Hash_Sum_nil_link (N : Nat) (x : denS [(0, .nilp)]) : evFX (sha_Hash_Sum_nil_E N) N (sha_Hash_Sum_nil_t N) sha_Hash_Sum_nil_L Go.Proofs.Tryd.f103 (mkS [(0, .nilp)] 0 x) (kRes (.v .str) 1) = sha_Hash_Sum_nil N := by kernel_rfl

noncomputable def sha_Hash_Sum_nil_res (N : Nat) : List A → Res := resOf [(0, .nilp)] (fun x => sha_Hash_Sum_nil N) (oRes (.v .str) 1)

theorem sha_Hash_Sum_nil_ct (N : Nat) : Contract Go.Proofs.Tryd.prog glob 103 (sha_Hash_Sum_nil_res N) :=
  Contract.of (E := sha_Hash_Sum_nil_E N) (H := sha_Hash_Sum_nil_t N) (L := sha_Hash_Sum_nil_L) (N := N) (body := sha_Hash_Sum_nil_body) (K := (kRes (.v .str) 1)) (sha_Hash_Sum_nil_Eok N) Go.Proofs.Tryd.func103 (by kernel_rfl) (by decide) (fun _ hb => (TabOk.cons (sha_Hash_Sum_nil_ok1 hb) TabOk.nil)) (fun x y h => by rw [sha_Hash_Sum_nil_link]; exact h) (kRes_ok (s := (.v .str)) (m := 1))

noncomputable def sha_Hash_Sum_nil_all (N : Nat) : List A → Res := resAlt [(0, .nilp)] (fun x => sha_Hash_Sum_nil N) (oRes (.v .str) 1) (sha_Hash_Sum_all N)

theorem sha_Hash_Sum_nil_allct (N : Nat) : Contract Go.Proofs.Tryd.prog glob 103 (sha_Hash_Sum_nil_all N) := Contract.alt (sha_Hash_Sum_nil_ct N) (sha_Hash_Sum_allct N)

abbrev math_bits_Mul32_R : Type := (Int × Int × Unit)

noncomputable def math_bits_Mul32_body : Code := (Go.Proofs.Tryd.f120.body).getD .skip

noncomputable def math_bits_Mul32_L : List (List Nat × List Nat) := [([0], [0, 1]), ([0, 1], [6]), ([0, 1, 1], [4, 5]), ([1, 1, 1], [4, 5])]

noncomputable def math_bits_Mul32_E (N : Nat) : Env := mkEnv tys glob [] [] [] [] false [] [(106, hmac_framed1_itr N)]

theorem math_bits_Mul32_Eok (N : Nat) : EnvOk Go.Proofs.Tryd.prog (math_bits_Mul32_E N) := mkEnv_ok mixed tys_ok (FnsOk.nil) (ItsOk.cons (hmac_framed1_it N) (ItsOk.nil))

noncomputable def math_bits_Mul32 (N : Nat) (x0 : Int) (y : Int) : Option (Int × Int × Unit) :=
  some ((Go.IntKind.wrap Go.IntKind.u32 (Go.Lift.shrI Go.IntKind.u64 (Go.IntKind.wrap Go.IntKind.u64 ((Go.IntKind.wrap Go.IntKind.u64 y) * (Go.IntKind.wrap Go.IntKind.u64 x0))) (32 : Int))), ((Go.IntKind.wrap Go.IntKind.u32 (Go.IntKind.wrap Go.IntKind.u64 ((Go.IntKind.wrap Go.IntKind.u64 y) * (Go.IntKind.wrap Go.IntKind.u64 x0)))), ()))

noncomputable def math_bits_Mul32_t (N : Nat) : Tab (Int × Int × Unit) := []

theorem math_bits_Mul32_link (N : Nat) (x : denS [(0, .v (.int .u32)), (0, .v (.int .u32))]) : evFX (math_bits_Mul32_E N) N (math_bits_Mul32_t N) math_bits_Mul32_L Go.Proofs.Tryd.f120 (mkS [(0, .v (.int .u32)), (0, .v (.int .u32))] 0 x) (kRes (.tup [(.int .u32), (.int .u32)]) 2) = math_bits_Mul32 N x.1 x.2.1 := by kernel_rfl

noncomputable def math_bits_Mul32_res (N : Nat) : List A → Res := resOf [(0, .v (.int .u32)), (0, .v (.int .u32))] (fun x => math_bits_Mul32 N x.1 x.2.1) (oRes (.tup [(.int .u32), (.int .u32)]) 2)

theorem math_bits_Mul32_ct (N : Nat) : Contract Go.Proofs.Tryd.prog glob 120 (math_bits_Mul32_res N) :=
  Contract.of (E := math_bits_Mul32_E N) (H := math_bits_Mul32_t N) (L := math_bits_Mul32_L) (N := N) (body := math_bits_Mul32_body) (K := (kRes (.tup [(.int .u32), (.int .u32)]) 2)) (math_bits_Mul32_Eok N) Go.Proofs.Tryd.func120 (by kernel_rfl) (by decide) (fun _ hb => TabOk.nil) (fun x y h => by rw [math_bits_Mul32_link]; exact h) (kRes_ok (s := (.tup [(.int .u32), (.int .u32)])) (m := 2))

abbrev math_bits_Mul64_R : Type := (Int × Int × Unit)

noncomputable def math_bits_Mul64_body : Code := (Go.Proofs.Tryd.f121.body).getD .skip

noncomputable def math_bits_Mul64_L : List (List Nat × List Nat) := [([0], [0, 1]), ([0, 1], [0, 1, 6]), ([0, 1, 1], [1, 6, 7, 0]), ([0, 1, 1, 1], [1, 6, 8, 7, 0]), ([0, 1, 1, 1, 1], [6, 8, 7, 9, 0, 1]), ([0, 1, 1, 1, 1, 1], [7, 8, 10, 6, 9, 0, 1]), ([0, 1, 1, 1, 1, 1, 1], [11, 6, 9, 7, 0, 1]), ([0, 1, 1, 1, 1, 1, 1, 1], [11, 12, 6, 9, 7, 0, 1]), ([0, 1, 1, 1, 1, 1, 1, 1, 1], [12, 6, 9, 7, 13, 0, 1]), ([0, 1, 1, 1, 1, 1, 1, 1, 1, 1], [7, 9, 13, 12, 0, 1]), ([0, 1, 1, 1, 1, 1, 1, 1, 1, 1, 1], [0, 1, 4]), ([0, 1, 1, 1, 1, 1, 1, 1, 1, 1, 1, 1], [4, 5]), ([1, 1, 1, 1, 1, 1, 1, 1, 1, 1, 1, 1], [4, 5])]

noncomputable def math_bits_Mul64_E (N : Nat) : Env := mkEnv tys glob [] [] [] [] false [] [(106, hmac_framed1_itr N)]

theorem math_bits_Mul64_Eok (N : Nat) : EnvOk Go.Proofs.Tryd.prog (math_bits_Mul64_E N) := mkEnv_ok mixed tys_ok (FnsOk.nil) (ItsOk.cons (hmac_framed1_it N) (ItsOk.nil))

noncomputable def math_bits_Mul64 (N : Nat) (x0 : Int) (y : Int) : Option (Int × Int × Unit) :=
  some ((Go.IntKind.wrap Go.IntKind.u64 ((Go.IntKind.wrap Go.IntKind.u64 ((Go.IntKind.wrap Go.IntKind.u64 ((Go.Lift.shrI Go.IntKind.u64 y (32 : Int)) * (Go.Lift.shrI Go.IntKind.u64 x0 (32 : Int)))) + (Go.Lift.shrI Go.IntKind.u64 (Go.IntKind.wrap Go.IntKind.u64 ((Go.IntKind.wrap Go.IntKind.u64 ((Go.Lift.bitsOp Go.BinOp.and Go.IntKind.u64 y (4294967295 : Int)) * (Go.Lift.shrI Go.IntKind.u64 x0 (32 : Int)))) + (Go.Lift.shrI Go.IntKind.u64 (Go.IntKind.wrap Go.IntKind.u64 ((Go.Lift.bitsOp Go.BinOp.and Go.IntKind.u64 y (4294967295 : Int)) * (Go.Lift.bitsOp Go.BinOp.and Go.IntKind.u64 x0 (4294967295 : Int)))) (32 : Int)))) (32 : Int)))) + (Go.Lift.shrI Go.IntKind.u64 (Go.IntKind.wrap Go.IntKind.u64 ((Go.Lift.bitsOp Go.BinOp.and Go.IntKind.u64 (Go.IntKind.wrap Go.IntKind.u64 ((Go.IntKind.wrap Go.IntKind.u64 ((Go.Lift.bitsOp Go.BinOp.and Go.IntKind.u64 y (4294967295 : Int)) * (Go.Lift.shrI Go.IntKind.u64 x0 (32 : Int)))) + (Go.Lift.shrI Go.IntKind.u64 (Go.IntKind.wrap Go.IntKind.u64 ((Go.Lift.bitsOp Go.BinOp.and Go.IntKind.u64 y (4294967295 : Int)) * (Go.Lift.bitsOp Go.BinOp.and Go.IntKind.u64 x0 (4294967295 : Int)))) (32 : Int)))) (4294967295 : Int)) + (Go.IntKind.wrap Go.IntKind.u64 ((Go.Lift.shrI Go.IntKind.u64 y (32 : Int)) * (Go.Lift.bitsOp Go.BinOp.and Go.IntKind.u64 x0 (4294967295 : Int)))))) (32 : Int)))), ((Go.IntKind.wrap Go.IntKind.u64 (y * x0)), ()))

noncomputable def math_bits_Mul64_t (N : Nat) : Tab (Int × Int × Unit) := []

theorem math_bits_Mul64_link (N : Nat) (x : denS [(0, .v (.int .u64)), (0, .v (.int .u64))]) : evFX (math_bits_Mul64_E N) N (math_bits_Mul64_t N) math_bits_Mul64_L Go.Proofs.Tryd.f121 (mkS [(0, .v (.int .u64)), (0, .v (.int .u64))] 0 x) (kRes (.tup [(.int .u64), (.int .u64)]) 2) = math_bits_Mul64 N x.1 x.2.1 := by kernel_rfl

noncomputable def math_bits_Mul64_res (N : Nat) : List A → Res := resOf [(0, .v (.int .u64)), (0, .v (.int .u64))] (fun x => math_bits_Mul64 N x.1 x.2.1) (oRes (.tup [(.int .u64), (.int .u64)]) 2)

theorem math_bits_Mul64_ct (N : Nat) : Contract Go.Proofs.Tryd.prog glob 121 (math_bits_Mul64_res N) :=
  Contract.of (E := math_bits_Mul64_E N) (H := math_bits_Mul64_t N) (L := math_bits_Mul64_L) (N := N) (body := math_bits_Mul64_body) (K := (kRes (.tup [(.int .u64), (.int .u64)]) 2)) (math_bits_Mul64_Eok N) Go.Proofs.Tryd.func121 (by kernel_rfl) (by decide) (fun _ hb => TabOk.nil) (fun x y h => by rw [math_bits_Mul64_link]; exact h) (kRes_ok (s := (.tup [(.int .u64), (.int .u64)])) (m := 2))

abbrev math_bits_Mul_R : Type := (Int × Int × Unit)

noncomputable def math_bits_Mul_body : Code := (Go.Proofs.Tryd.f114.body).getD .skip

noncomputable def math_bits_Mul_L : List (List Nat × List Nat) := [([0], [0, 1]), ([0, 1], [0, 1]), ([0, 0, 0, 1], [6, 7]), ([0, 1, 0, 0, 1], [4, 5]), ([1, 1, 0, 0, 1], [4, 5]), ([0, 1, 1], [8, 9]), ([0, 1, 1, 1], [4, 5]), ([1, 1, 1, 1], [4, 5])]

noncomputable def math_bits_Mul_E (N : Nat) : Env := mkEnv tys glob [(121, math_bits_Mul64_res N), (120, math_bits_Mul32_res N)] [] [] [] false [] [(106, hmac_framed1_itr N)]

theorem math_bits_Mul_Eok (N : Nat) : EnvOk Go.Proofs.Tryd.prog (math_bits_Mul_E N) := mkEnv_ok mixed tys_ok (FnsOk.cons (math_bits_Mul64_ct N) (FnsOk.cons (math_bits_Mul32_ct N) (FnsOk.nil))) (ItsOk.cons (hmac_framed1_it N) (ItsOk.nil))

noncomputable def math_bits_Mul (N : Nat) (x0 : Int) (y : Int) : Option (Int × Int × Unit) :=
  some ((Go.IntKind.wrap Go.IntKind.u64 ((Go.IntKind.wrap Go.IntKind.u64 ((Go.IntKind.wrap Go.IntKind.u64 ((Go.Lift.shrI Go.IntKind.u64 y (32 : Int)) * (Go.Lift.shrI Go.IntKind.u64 x0 (32 : Int)))) + (Go.Lift.shrI Go.IntKind.u64 (Go.IntKind.wrap Go.IntKind.u64 ((Go.IntKind.wrap Go.IntKind.u64 ((Go.Lift.bitsOp Go.BinOp.and Go.IntKind.u64 y (4294967295 : Int)) * (Go.Lift.shrI Go.IntKind.u64 x0 (32 : Int)))) + (Go.Lift.shrI Go.IntKind.u64 (Go.IntKind.wrap Go.IntKind.u64 ((Go.Lift.bitsOp Go.BinOp.and Go.IntKind.u64 y (4294967295 : Int)) * (Go.Lift.bitsOp Go.BinOp.and Go.IntKind.u64 x0 (4294967295 : Int)))) (32 : Int)))) (32 : Int)))) + (Go.Lift.shrI Go.IntKind.u64 (Go.IntKind.wrap Go.IntKind.u64 ((Go.Lift.bitsOp Go.BinOp.and Go.IntKind.u64 (Go.IntKind.wrap Go.IntKind.u64 ((Go.IntKind.wrap Go.IntKind.u64 ((Go.Lift.bitsOp Go.BinOp.and Go.IntKind.u64 y (4294967295 : Int)) * (Go.Lift.shrI Go.IntKind.u64 x0 (32 : Int)))) + (Go.Lift.shrI Go.IntKind.u64 (Go.IntKind.wrap Go.IntKind.u64 ((Go.Lift.bitsOp Go.BinOp.and Go.IntKind.u64 y (4294967295 : Int)) * (Go.Lift.bitsOp Go.BinOp.and Go.IntKind.u64 x0 (4294967295 : Int)))) (32 : Int)))) (4294967295 : Int)) + (Go.IntKind.wrap Go.IntKind.u64 ((Go.Lift.shrI Go.IntKind.u64 y (32 : Int)) * (Go.Lift.bitsOp Go.BinOp.and Go.IntKind.u64 x0 (4294967295 : Int)))))) (32 : Int)))), ((Go.IntKind.wrap Go.IntKind.u64 (y * x0)), ()))

noncomputable def math_bits_Mul_t (N : Nat) : Tab (Int × Int × Unit) := []

theorem math_bits_Mul_link (N : Nat) (x : denS [(0, .v (.int .u64)), (0, .v (.int .u64))]) : evFX (math_bits_Mul_E N) N (math_bits_Mul_t N) math_bits_Mul_L Go.Proofs.Tryd.f114 (mkS [(0, .v (.int .u64)), (0, .v (.int .u64))] 0 x) (kRes (.tup [(.int .u64), (.int .u64)]) 2) = math_bits_Mul N x.1 x.2.1 := by kernel_rfl

noncomputable def math_bits_Mul_res (N : Nat) : List A → Res := resOf [(0, .v (.int .u64)), (0, .v (.int .u64))] (fun x => math_bits_Mul N x.1 x.2.1) (oRes (.tup [(.int .u64), (.int .u64)]) 2)

theorem math_bits_Mul_ct (N : Nat) : Contract Go.Proofs.Tryd.prog glob 114 (math_bits_Mul_res N) :=
  Contract.of (E := math_bits_Mul_E N) (H := math_bits_Mul_t N) (L := math_bits_Mul_L) (N := N) (body := math_bits_Mul_body) (K := (kRes (.tup [(.int .u64), (.int .u64)]) 2)) (math_bits_Mul_Eok N) Go.Proofs.Tryd.func114 (by kernel_rfl) (by decide) (fun _ hb => TabOk.nil) (fun x y h => by rw [math_bits_Mul_link]; exact h) (kRes_ok (s := (.tup [(.int .u64), (.int .u64)])) (m := 2))

abbrev internal_stringslite_HasPrefix_R : Type := Bool

noncomputable def internal_stringslite_HasPrefix_body : Code := (Go.Proofs.Tryd.f122.body).getD .skip

noncomputable def internal_stringslite_HasPrefix_L : List (List Nat × List Nat) := [([0], [0, 1]), ([0, 1], [4]), ([1, 1], [4])]

noncomputable def internal_stringslite_HasPrefix_E (N : Nat) : Env := mkEnv tys glob [] [] [] [] false [] [(106, hmac_framed1_itr N)]

theorem internal_stringslite_HasPrefix_Eok (N : Nat) : EnvOk Go.Proofs.Tryd.prog (internal_stringslite_HasPrefix_E N) := mkEnv_ok mixed tys_ok (FnsOk.nil) (ItsOk.cons (hmac_framed1_it N) (ItsOk.nil))

noncomputable def internal_stringslite_HasPrefix (N : Nat) (s : (List UInt8)) (prefix_ : (List UInt8)) : Option Bool :=
  cond (decide ((((List.length prefix_) : Nat) : Int) ≤ (((List.length s) : Nat) : Int)))
  (cond (decide (((0 : Int) ≤ (((List.length prefix_) : Nat) : Int)) ∧ ((((List.length prefix_) : Nat) : Int) ≤ (((List.length s) : Nat) : Int))))
    (some ((Go.Lift.cut s 0 (Int.toNat (((List.length prefix_) : Nat) : Int))) == prefix_))
    (none))
  (some false)

noncomputable def internal_stringslite_HasPrefix_t (N : Nat) : Tab Bool := []

theorem internal_stringslite_HasPrefix_link (N : Nat) (x : denS [(0, .v .str), (0, .v .str)]) : evFX (internal_stringslite_HasPrefix_E N) N (internal_stringslite_HasPrefix_t N) internal_stringslite_HasPrefix_L Go.Proofs.Tryd.f122 (mkS [(0, .v .str), (0, .v .str)] 0 x) (kRes (.v .bool) 2) = internal_stringslite_HasPrefix N x.1 x.2.1 := by kernel_rfl

noncomputable def internal_stringslite_HasPrefix_res (N : Nat) : List A → Res := resOf [(0, .v .str), (0, .v .str)] (fun x => internal_stringslite_HasPrefix N x.1 x.2.1) (oRes (.v .bool) 2)

theorem internal_stringslite_HasPrefix_ct (N : Nat) : Contract Go.Proofs.Tryd.prog glob 122 (internal_stringslite_HasPrefix_res N) :=
  Contract.of (E := internal_stringslite_HasPrefix_E N) (H := internal_stringslite_HasPrefix_t N) (L := internal_stringslite_HasPrefix_L) (N := N) (body := internal_stringslite_HasPrefix_body) (K := (kRes (.v .bool) 2)) (internal_stringslite_HasPrefix_Eok N) Go.Proofs.Tryd.func122 (by kernel_rfl) (by decide) (fun _ hb => TabOk.nil) (fun x y h => by rw [internal_stringslite_HasPrefix_link]; exact h) (kRes_ok (s := (.v .bool)) (m := 2))

abbrev strings_HasPrefix_R : Type := Bool

noncomputable def strings_HasPrefix_body : Code := (Go.Proofs.Tryd.f115.body).getD .skip

noncomputable def strings_HasPrefix_L : List (List Nat × List Nat) := [([0], [0, 1]), ([0, 1], [4]), ([1, 1], [4])]

noncomputable def strings_HasPrefix_E (N : Nat) : Env := mkEnv tys glob [(122, internal_stringslite_HasPrefix_res N)] [] [] [] false [] [(106, hmac_framed1_itr N)]

theorem strings_HasPrefix_Eok (N : Nat) : EnvOk Go.Proofs.Tryd.prog (strings_HasPrefix_E N) := mkEnv_ok mixed tys_ok (FnsOk.cons (internal_stringslite_HasPrefix_ct N) (FnsOk.nil)) (ItsOk.cons (hmac_framed1_it N) (ItsOk.nil))

noncomputable def strings_HasPrefix (N : Nat) (s : (List UInt8)) (prefix_ : (List UInt8)) : Option Bool :=
  (internal_stringslite_HasPrefix N s prefix_).bind fun y =>
  some y

noncomputable def strings_HasPrefix_t (N : Nat) : Tab Bool := []

theorem strings_HasPrefix_link (N : Nat) (x : denS [(0, .v .str), (0, .v .str)]) : evFX (strings_HasPrefix_E N) N (strings_HasPrefix_t N) strings_HasPrefix_L Go.Proofs.Tryd.f115 (mkS [(0, .v .str), (0, .v .str)] 0 x) (kRes (.v .bool) 2) = strings_HasPrefix N x.1 x.2.1 := by kernel_rfl

noncomputable def strings_HasPrefix_res (N : Nat) : List A → Res := resOf [(0, .v .str), (0, .v .str)] (fun x => strings_HasPrefix N x.1 x.2.1) (oRes (.v .bool) 2)

theorem strings_HasPrefix_ct (N : Nat) : Contract Go.Proofs.Tryd.prog glob 115 (strings_HasPrefix_res N) :=
  Contract.of (E := strings_HasPrefix_E N) (H := strings_HasPrefix_t N) (L := strings_HasPrefix_L) (N := N) (body := strings_HasPrefix_body) (K := (kRes (.v .bool) 2)) (strings_HasPrefix_Eok N) Go.Proofs.Tryd.func115 (by kernel_rfl) (by decide) (fun _ hb => TabOk.nil) (fun x y h => by rw [strings_HasPrefix_link]; exact h) (kRes_ok (s := (.v .bool)) (m := 2))

abbrev strings_Builder_grow_R : Type := (Unit)

noncomputable def strings_Builder_grow_body : Code := (Go.Proofs.Tryd.f123.body).getD .skip

noncomputable def strings_Builder_grow_L : List (List Nat × List Nat) := [([0], [4, 0]), ([0, 1], [0, 4]), ([1, 1], [])]

noncomputable def strings_Builder_grow_E (N : Nat) : Env := mkEnv tys glob [] [(4, (.int .u8))] [] [] false [] [(106, hmac_framed1_itr N)]

theorem strings_Builder_grow_Eok (N : Nat) : EnvOk Go.Proofs.Tryd.prog (strings_Builder_grow_E N) := mkEnv_ok mixed tys_ok (FnsOk.nil) (ItsOk.cons (hmac_framed1_it N) (ItsOk.nil))

noncomputable def strings_Builder_grow (N : Nat) (b : Go.Value) (n : Int) : Option (Unit) :=
  none

noncomputable def strings_Builder_grow_t (N : Nat) : Tab (Unit) := []

theorem strings_Builder_grow_link (N : Nat) (x : denS [(0, .v .opq), (0, .v (.int .i64))]) : evFX (strings_Builder_grow_E N) N (strings_Builder_grow_t N) strings_Builder_grow_L Go.Proofs.Tryd.f123 (mkS [(0, .v .opq), (0, .v (.int .i64))] 0 x) (kRes (.tup []) 2) = strings_Builder_grow N x.1 x.2.1 := by kernel_rfl

noncomputable def strings_Builder_grow_res (N : Nat) : List A → Res := resOf [(0, .v .opq), (0, .v (.int .i64))] (fun x => strings_Builder_grow N x.1 x.2.1) (oRes (.tup []) 2)

theorem strings_Builder_grow_ct (N : Nat) : Contract Go.Proofs.Tryd.prog glob 123 (strings_Builder_grow_res N) :=
  Contract.of (E := strings_Builder_grow_E N) (H := strings_Builder_grow_t N) (L := strings_Builder_grow_L) (N := N) (body := strings_Builder_grow_body) (K := (kRes (.tup []) 2)) (strings_Builder_grow_Eok N) Go.Proofs.Tryd.func123 (by kernel_rfl) (by decide) (fun _ hb => TabOk.nil) (fun x y h => by rw [strings_Builder_grow_link]; exact h) (kRes_ok (s := (.tup [])) (m := 2))

abbrev strings_Builder_Grow_R : Type := (Unit)

noncomputable def strings_Builder_Grow_body : Code := (Go.Proofs.Tryd.f116.body).getD .skip

noncomputable def strings_Builder_Grow_L : List (List Nat × List Nat) := [([0], [1, 0]), ([0, 0, 1], [7, 0, 1]), ([1, 0, 1], [0, 1]), ([0, 1, 0, 1], [0, 1]), ([0, 1, 1], [21, 0, 1]), ([1, 1, 1], []), ([0, 1, 1, 1], [])]

noncomputable def strings_Builder_Grow_E (N : Nat) : Env := mkEnv tys glob [(123, strings_Builder_grow_res N), (100, cc_res)] [] [] [] false [] [(106, hmac_framed1_itr N)]

theorem strings_Builder_Grow_Eok (N : Nat) : EnvOk Go.Proofs.Tryd.prog (strings_Builder_Grow_E N) := mkEnv_ok mixed tys_ok (FnsOk.cons (strings_Builder_grow_ct N) (FnsOk.cons (cc_ct glob) (FnsOk.nil))) (ItsOk.cons (hmac_framed1_it N) (ItsOk.nil))

noncomputable def strings_Builder_Grow (N : Nat) (b : Go.Value) (n : Int) : Option (Unit) :=
  none

noncomputable def strings_Builder_Grow_t (N : Nat) : Tab (Unit) := []

theorem strings_Builder_Grow_link (N : Nat) (x : denS [(0, .v .opq), (0, .v (.int .i64))]) : evFX (strings_Builder_Grow_E N) N (strings_Builder_Grow_t N) strings_Builder_Grow_L Go.Proofs.Tryd.f116 (mkS [(0, .v .opq), (0, .v (.int .i64))] 0 x) (kRes (.tup []) 2) = strings_Builder_Grow N x.1 x.2.1 := by kernel_rfl

noncomputable def strings_Builder_Grow_res (N : Nat) : List A → Res := resOf [(0, .v .opq), (0, .v (.int .i64))] (fun x => strings_Builder_Grow N x.1 x.2.1) (oRes (.tup []) 2)

theorem strings_Builder_Grow_ct (N : Nat) : Contract Go.Proofs.Tryd.prog glob 116 (strings_Builder_Grow_res N) :=
  Contract.of (E := strings_Builder_Grow_E N) (H := strings_Builder_Grow_t N) (L := strings_Builder_Grow_L) (N := N) (body := strings_Builder_Grow_body) (K := (kRes (.tup []) 2)) (strings_Builder_Grow_Eok N) Go.Proofs.Tryd.func116 (by kernel_rfl) (by decide) (fun _ hb => TabOk.nil) (fun x y h => by rw [strings_Builder_Grow_link]; exact h) (kRes_ok (s := (.tup [])) (m := 2))

abbrev strings_Builder_Len_R : Type := Int

noncomputable def strings_Builder_Len_body : Code := (Go.Proofs.Tryd.f117.body).getD .skip

noncomputable def strings_Builder_Len_L : List (List Nat × List Nat) := [([0], [0]), ([0, 1], [2]), ([1, 1], [2])]

noncomputable def strings_Builder_Len_E (N : Nat) : Env := mkEnv tys glob [] [] [] [] false [] [(106, hmac_framed1_itr N)]

theorem strings_Builder_Len_Eok (N : Nat) : EnvOk Go.Proofs.Tryd.prog (strings_Builder_Len_E N) := mkEnv_ok mixed tys_ok (FnsOk.nil) (ItsOk.cons (hmac_framed1_it N) (ItsOk.nil))

noncomputable def strings_Builder_Len (N : Nat) (b : Go.Value) : Option Int :=
  none

noncomputable def strings_Builder_Len_t (N : Nat) : Tab Int := []

theorem strings_Builder_Len_link (N : Nat) (x : denS [(0, .v .opq)]) : evFX (strings_Builder_Len_E N) N (strings_Builder_Len_t N) strings_Builder_Len_L Go.Proofs.Tryd.f117 (mkS [(0, .v .opq)] 0 x) (kRes (.v (.int .i64)) 1) = strings_Builder_Len N x.1 := by kernel_rfl

noncomputable def strings_Builder_Len_res (N : Nat) : List A → Res := resOf [(0, .v .opq)] (fun x => strings_Builder_Len N x.1) (oRes (.v (.int .i64)) 1)

theorem strings_Builder_Len_ct (N : Nat) : Contract Go.Proofs.Tryd.prog glob 117 (strings_Builder_Len_res N) :=
  Contract.of (E := strings_Builder_Len_E N) (H := strings_Builder_Len_t N) (L := strings_Builder_Len_L) (N := N) (body := strings_Builder_Len_body) (K := (kRes (.v (.int .i64)) 1)) (strings_Builder_Len_Eok N) Go.Proofs.Tryd.func117 (by kernel_rfl) (by decide) (fun _ hb => TabOk.nil) (fun x y h => by rw [strings_Builder_Len_link]; exact h) (kRes_ok (s := (.v (.int .i64))) (m := 1))

abbrev octet_Xor_R : Type := (List UInt8)

noncomputable def octet_Xor_body : Code := (Go.Proofs.Tryd.f69.body).getD .skip

noncomputable def octet_Xor_L : List (List Nat × List Nat) := [([0], [0, 1]), ([0, 1], [5, 0, 1]), ([0, 0, 1, 1], [15, 14, 5, 0, 1]), ([0, 1, 0, 1, 1], [15, 14, 5, 0, 1]), ([0, 0, 0, 1, 0, 1, 1], [16, 15, 5, 0, 1, 14]), ([0, 1, 0, 0, 1, 0, 1, 1], [15, 5, 0, 1, 14]), ([1, 0, 1, 0, 0, 1, 0, 1, 1], [5]), ([0, 0, 0, 1, 1, 0, 0, 1, 0, 1, 1], [5, 6, 0, 1, 15, 14]), ([1, 0, 0, 1, 1, 0, 0, 1, 0, 1, 1], [15, 14, 5, 0, 1]), ([0, 1, 1, 0, 0, 1, 0, 1, 1], [15, 14, 5, 0, 1]), ([1, 1, 1, 0, 0, 1, 0, 1, 1], [15, 14, 5, 0, 1]), ([1, 0, 1, 1], [5]), ([0, 1, 1, 1], [4]), ([1, 1, 1, 1], [4])]

noncomputable def octet_Xor_E (N : Nat) : Env := mkEnv tys glob [] [(5, (.int .u8))] [] [] false [] [(106, hmac_framed1_itr N)]

theorem octet_Xor_Eok (N : Nat) : EnvOk Go.Proofs.Tryd.prog (octet_Xor_E N) := mkEnv_ok mixed tys_ok (FnsOk.nil) (ItsOk.cons (hmac_framed1_it N) (ItsOk.nil))

noncomputable def octet_Xor_s1 (N : Nat) (a : (List UInt8)) (b : (List UInt8)) (x14 : Int) (out : (List Int)) (x15 : Int) (rec : (List Int) → Int → Option (List UInt8)) (k0 : (List Int) → Option (List UInt8)) : Option (List UInt8) :=
  cond (decide (x15 < x14))
  (cond (Go.Lift.inR x15 (List.length a))
    (cond (Go.Lift.inR x15 (List.length b))
      (cond (Go.Lift.inR x15 (List.length out))
        (cond (decide ((Int.toNat x15) < (List.length out)))
          (rec (List.set out (Int.toNat x15) (Go.Lift.bitsOp Go.BinOp.xor Go.IntKind.u8 (((UInt8.toNat (List.getD a (Int.toNat x15) (0 : UInt8))) : Nat) : Int) (((UInt8.toNat (List.getD b (Int.toNat x15) (0 : UInt8))) : Nat) : Int))) (Go.IntKind.wrap Go.IntKind.i64 (x15 + (1 : Int))))
          (none))
        (none))
      (none))
    (none))
  (k0 out)

noncomputable def octet_Xor_p1 (N : Nat) (a : (List UInt8)) (b : (List UInt8)) (out : (List Int)) (x14 : Int) (x15 : Int) (k0 : (List Int) → Option (List UInt8)) : Option (List UInt8) :=
  iter (fun (v : ((List Int) × Int)) r => octet_Xor_s1 N a b x14 v.1 v.2 (fun out x15 => (r (out, x15))) k0) N (out, x15)

noncomputable def octet_Xor_g1 (N : Nat) (i : ((List UInt8) × (List UInt8) × Int)) (v : ((List Int) × Int)) (r : ((List Int) × Int) → Option (List UInt8)) (K : Ex → List A → Option (List UInt8)) : Option (List UInt8) :=
  octet_Xor_s1 N i.1 i.2.1 i.2.2 v.1 v.2 (fun out x15 => (r (out, x15))) (fun a0 => (K (.exit 0) (mkS [(5, .row (.int .u8))] 25 (a0, ()))))

noncomputable def octet_Xor_h1 (N : Nat) : Hd (List UInt8) := fun st K => (unS [(0, .v .str), (0, .v .str), (3, .row (.int .u8)), (8, .v (.int .i64)), (0, .v (.int .i64))] 15 (restr [15, 14, 5, 0, 1] 0 st)).bind fun x => iter (fun v r => octet_Xor_g1 N ((fun x => (x.1, x.2.1, x.2.2.2.1)) x) v r K) N ((fun x => (x.2.2.1, x.2.2.2.2.1)) x)

noncomputable def octet_Xor_t1 (N : Nat) : Tab (List UInt8) := []

theorem octet_Xor_ok1 {N : Nat} {c : Ctx} (hb : Base Go.Proofs.Tryd.prog (octet_Xor_E N) c) : CodeOk Go.Proofs.Tryd.prog c (nodeAt octet_Xor_body [0, 1, 0, 1, 1]) (octet_Xor_h1 N) :=
  loop_ok (s := [(0, .v .str), (0, .v .str), (3, .row (.int .u8)), (8, .v (.int .i64)), (0, .v (.int .i64))]) (m := 15) (octet_Xor_g1 N) [15, 14, 5, 0, 1] N (fun x => (x.1, x.2.1, x.2.2.2.1)) (fun x => (x.2.2.1, x.2.2.2.2.1)) (fun i v => (i.1, i.2.1, v.1, i.2.2, v.2, ())) (fun _ => rfl) (evN_sound hb N (octet_Xor_t1 N) octet_Xor_L octet_Xor_body TabOk.nil [0, 0, 1, 0, 1, 1] _ rfl) (fun i v r K => by kernel_rfl)

noncomputable def octet_Xor (N : Nat) (a : (List UInt8)) (b : (List UInt8)) : Option (List UInt8) :=
  cond (decide (((0 : Int) ≤ (if ((((List.length b) : Nat) : Int) < (((List.length a) : Nat) : Int)) then (((List.length b) : Nat) : Int) else (((List.length a) : Nat) : Int))) ∧ (((if ((((List.length b) : Nat) : Int) < (((List.length a) : Nat) : Int)) then (((List.length b) : Nat) : Int) else (((List.length a) : Nat) : Int)) ≤ (if ((((List.length b) : Nat) : Int) < (((List.length a) : Nat) : Int)) then (((List.length b) : Nat) : Int) else (((List.length a) : Nat) : Int))) ∧ ((((if ((((List.length b) : Nat) : Int) < (((List.length a) : Nat) : Int)) then (((List.length b) : Nat) : Int) else (((List.length a) : Nat) : Int)) * (1 : Int)) ≤ (281474976710656 : Int)) ∧ ((if ((((List.length b) : Nat) : Int) < (((List.length a) : Nat) : Int)) then (((List.length b) : Nat) : Int) else (((List.length a) : Nat) : Int)) ≤ (9223372036854775807 : Int))))))
  (octet_Xor_p1 N a b (List.replicate (Int.toNat (if ((((List.length b) : Nat) : Int) < (((List.length a) : Nat) : Int)) then (((List.length b) : Nat) : Int) else (((List.length a) : Nat) : Int))) (0 : Int)) (((List.length (List.replicate (Int.toNat (if ((((List.length b) : Nat) : Int) < (((List.length a) : Nat) : Int)) then (((List.length b) : Nat) : Int) else (((List.length a) : Nat) : Int))) (0 : Int))) : Nat) : Int) (0 : Int)
    (fun out => some (Go.Lift.toStr out)))
  (none)

noncomputable def octet_Xor_t (N : Nat) : Tab (List UInt8) := [([0, 1, 0, 1, 1], octet_Xor_h1 N)]

theorem octet_Xor_link (N : Nat) (x : denS [(0, .v .str), (0, .v .str)]) : evFX (octet_Xor_E N) N (octet_Xor_t N) octet_Xor_L Go.Proofs.Tryd.f69 (mkS [(0, .v .str), (0, .v .str)] 0 x) (kRes (.v .str) 2) = octet_Xor N x.1 x.2.1 := by kernel_rfl

noncomputable def octet_Xor_res (N : Nat) : List A → Res := resOf [(0, .v .str), (0, .v .str)] (fun x => octet_Xor N x.1 x.2.1) (oRes (.v .str) 2)

theorem octet_Xor_ct (N : Nat) : Contract Go.Proofs.Tryd.prog glob 69 (octet_Xor_res N) :=
  Contract.of (E := octet_Xor_E N) (H := octet_Xor_t N) (L := octet_Xor_L) (N := N) (body := octet_Xor_body) (K := (kRes (.v .str) 2)) (octet_Xor_Eok N) Go.Proofs.Tryd.func69 (by kernel_rfl) (by decide) (fun _ hb => (TabOk.cons (octet_Xor_ok1 hb) TabOk.nil)) (fun x y h => by rw [octet_Xor_link]; exact h) (kRes_ok (s := (.v .str)) (m := 2))

abbrev hmac_keyed_R : Type := (List UInt8)

noncomputable def hmac_keyed_body : Code := (Go.Proofs.Tryd.f91.body).getD .skip

noncomputable def hmac_keyed_L : List (List Nat × List Nat) := [([0], [0, 1, 2]), ([0, 1], [7, 0, 1, 2]), ([0, 1, 1], [7, 2]), ([0, 1, 1, 1], [7]), ([0, 1, 1, 1, 1], [6]), ([1, 1, 1, 1, 1], [6])]

noncomputable def hmac_keyed_E (N : Nat) : Env := mkEnv tys glob [(69, octet_Xor_res N), (103, sha_Hash_Sum_nil_all N), (102, sha_Hash_Add_nil_all N), (101, sha_New_res N), (104, repeat_res)] [] [] [] false [] [(106, hmac_framed1_itr N)]

theorem hmac_keyed_Eok (N : Nat) : EnvOk Go.Proofs.Tryd.prog (hmac_keyed_E N) := mkEnv_ok mixed tys_ok (FnsOk.cons (octet_Xor_ct N) (FnsOk.cons (sha_Hash_Sum_nil_allct N) (FnsOk.cons (sha_Hash_Add_nil_allct N) (FnsOk.cons (sha_New_ct N) (FnsOk.cons (repeat_ct glob) (FnsOk.nil)))))) (ItsOk.cons (hmac_framed1_it N) (ItsOk.nil))

noncomputable def hmac_keyed (N : Nat) (key : (List UInt8)) (mask : (List UInt8)) (text : (List UInt8)) : Option (List UInt8) :=
  (repeat_F (mask, ((64 : Int), ()))).bind fun y =>
  (octet_Xor N key y).bind fun y1 =>
  (sha_Hash_Add N (true, (([(1779033703 : Int), (3144134277 : Int), (1013904242 : Int), (2773480762 : Int), (1359893119 : Int), (2600822924 : Int), (528734635 : Int), (1541459225 : Int)] : List Int), (([] : List UInt8), ((0 : Int), ())))) y1).bind fun y2 =>
  (sha_Hash_Add N y2.2.1 text).bind fun y3 =>
  (sha_Hash_Sum N y3.2.1).bind fun y4 =>
  some y4.1

noncomputable def hmac_keyed_t (N : Nat) : Tab (List UInt8) := []

theorem hmac_keyed_link (N : Nat) (x : denS [(0, .v .str), (0, .v .str), (0, .v .str)]) : evFX (hmac_keyed_E N) N (hmac_keyed_t N) hmac_keyed_L Go.Proofs.Tryd.f91 (mkS [(0, .v .str), (0, .v .str), (0, .v .str)] 0 x) (kRes (.v .str) 3) = hmac_keyed N x.1 x.2.1 x.2.2.1 := by kernel_rfl

noncomputable def hmac_keyed_res (N : Nat) : List A → Res := resOf [(0, .v .str), (0, .v .str), (0, .v .str)] (fun x => hmac_keyed N x.1 x.2.1 x.2.2.1) (oRes (.v .str) 3)

theorem hmac_keyed_ct (N : Nat) : Contract Go.Proofs.Tryd.prog glob 91 (hmac_keyed_res N) :=
  Contract.of (E := hmac_keyed_E N) (H := hmac_keyed_t N) (L := hmac_keyed_L) (N := N) (body := hmac_keyed_body) (K := (kRes (.v .str) 3)) (hmac_keyed_Eok N) Go.Proofs.Tryd.func91 (by kernel_rfl) (by decide) (fun _ hb => TabOk.nil) (fun x y h => by rw [hmac_keyed_link]; exact h) (kRes_ok (s := (.v .str)) (m := 3))

abbrev hmac_Sum_R : Type := (List UInt8)

noncomputable def hmac_Sum_body : Code := (Go.Proofs.Tryd.f71.body).getD .skip

noncomputable def hmac_Sum_L : List (List Nat × List Nat) := [([0], [0, 1]), ([0, 0, 1], [8, 0, 1]), ([1, 0, 1], [0, 1]), ([0, 1, 0, 1], [0, 1]), ([0, 1, 1], [0, 1]), ([0, 1, 1, 1], [0, 5]), ([0, 1, 1, 1, 1], [4]), ([1, 1, 1, 1, 1], [4])]

noncomputable def hmac_Sum_E (N : Nat) : Env := mkEnv tys glob [(91, hmac_keyed_res N), (89, sha_Sum_res N), (90, octet_Pad_res N)] [] [] [] false [] [(106, hmac_framed1_itr N)]

theorem hmac_Sum_Eok (N : Nat) : EnvOk Go.Proofs.Tryd.prog (hmac_Sum_E N) := mkEnv_ok mixed tys_ok (FnsOk.cons (hmac_keyed_ct N) (FnsOk.cons (sha_Sum_ct N) (FnsOk.cons (octet_Pad_ct N) (FnsOk.nil)))) (ItsOk.cons (hmac_framed1_it N) (ItsOk.nil))

noncomputable def hmac_Sum_p1 (N : Nat) (key : (List UInt8)) (text : (List UInt8)) (k0 : (List UInt8) → Option (List UInt8)) : Option (List UInt8) :=
  cond (decide ((64 : Int) < (((List.length key) : Nat) : Int)))
  ((sha_Sum N key).bind fun y =>
    k0 y)
  (k0 key)

noncomputable def hmac_Sum_g1 (N : Nat) (x : denS [(0, .v .str), (0, .v .str)]) (K : Ex → List A → Option (List UInt8)) : Option (List UInt8) :=
  hmac_Sum_p1 N x.1 x.2.1 (fun a0 => (K .normal (mkS [(0, .v .str), (0, .v .str)] 17 (a0, x.2.1, ()))))

noncomputable def hmac_Sum_h1 (N : Nat) : Hd (List UInt8) := fun st K => (unS [(0, .v .str), (0, .v .str)] 17 (restr [0, 1] 0 st)).bind fun x => hmac_Sum_g1 N x K

noncomputable def hmac_Sum_t1 (N : Nat) : Tab (List UInt8) := []

theorem hmac_Sum_ok1 {N : Nat} {c : Ctx} (hb : Base Go.Proofs.Tryd.prog (hmac_Sum_E N) c) : CodeOk Go.Proofs.Tryd.prog c (nodeAt hmac_Sum_body [0, 1]) (hmac_Sum_h1 N) :=
  piece_ok (s := [(0, .v .str), (0, .v .str)]) (m := 17) (g := hmac_Sum_g1 N) [0, 1] (evN_sound hb N (hmac_Sum_t1 N) hmac_Sum_L hmac_Sum_body TabOk.nil [0, 1] _ rfl) (fun x K => by kernel_rfl)

noncomputable def hmac_Sum (N : Nat) (key : (List UInt8)) (text : (List UInt8)) : Option (List UInt8) :=
  hmac_Sum_p1 N key text
  (fun key1 => (octet_Pad N key1 (64 : Int)).bind fun y =>
    (hmac_keyed N y ([(54 : UInt8)] : List UInt8) text).bind fun y1 =>
    (hmac_keyed N y ([(92 : UInt8)] : List UInt8) y1).bind fun y2 =>
    some y2)

noncomputable def hmac_Sum_t (N : Nat) : Tab (List UInt8) := [([0, 1], hmac_Sum_h1 N)]

theorem hmac_Sum_link (N : Nat) (x : denS [(0, .v .str), (0, .v .str)]) : evFX (hmac_Sum_E N) N (hmac_Sum_t N) hmac_Sum_L Go.Proofs.Tryd.f71 (mkS [(0, .v .str), (0, .v .str)] 0 x) (kRes (.v .str) 2) = hmac_Sum N x.1 x.2.1 := by kernel_rfl

noncomputable def hmac_Sum_res (N : Nat) : List A → Res := resOf [(0, .v .str), (0, .v .str)] (fun x => hmac_Sum N x.1 x.2.1) (oRes (.v .str) 2)

theorem hmac_Sum_ct (N : Nat) : Contract Go.Proofs.Tryd.prog glob 71 (hmac_Sum_res N) :=
  Contract.of (E := hmac_Sum_E N) (H := hmac_Sum_t N) (L := hmac_Sum_L) (N := N) (body := hmac_Sum_body) (K := (kRes (.v .str) 2)) (hmac_Sum_Eok N) Go.Proofs.Tryd.func71 (by kernel_rfl) (by decide) (fun _ hb => (TabOk.cons (hmac_Sum_ok1 hb) TabOk.nil)) (fun x y h => by rw [hmac_Sum_link]; exact h) (kRes_ok (s := (.v .str)) (m := 2))

abbrev hmac_Parts_R : Type := (List UInt8)

noncomputable def hmac_Parts_body : Code := (Go.Proofs.Tryd.f62.body).getD .skip

noncomputable def hmac_Parts_L : List (List Nat × List Nat) := [([0], [0, 1]), ([0, 1], [4]), ([1, 1], [4])]

noncomputable def hmac_Parts_E (N : Nat) : Env := mkEnv tys glob [(71, hmac_Sum_res N), (83, hmac_Frame_res N)] [] [] [] false [] [(106, hmac_framed1_itr N)]

theorem hmac_Parts_Eok (N : Nat) : EnvOk Go.Proofs.Tryd.prog (hmac_Parts_E N) := mkEnv_ok mixed tys_ok (FnsOk.cons (hmac_Sum_ct N) (FnsOk.cons (hmac_Frame_ct N) (FnsOk.nil))) (ItsOk.cons (hmac_framed1_it N) (ItsOk.nil))

noncomputable def hmac_Parts (N : Nat) (key : (List UInt8)) (parts : (List (List UInt8))) : Option (List UInt8) :=
  (hmac_Frame N parts).bind fun y =>
  (hmac_Sum N key y).bind fun y1 =>
  some y1

noncomputable def hmac_Parts_t (N : Nat) : Tab (List UInt8) := []

theorem hmac_Parts_link (N : Nat) (x : denS [(0, .v .str), (0, .v (.sl .str))]) : evFX (hmac_Parts_E N) N (hmac_Parts_t N) hmac_Parts_L Go.Proofs.Tryd.f62 (mkS [(0, .v .str), (0, .v (.sl .str))] 0 x) (kRes (.v .str) 2) = hmac_Parts N x.1 x.2.1 := by kernel_rfl

noncomputable def hmac_Parts_res (N : Nat) : List A → Res := resOf [(0, .v .str), (0, .v (.sl .str))] (fun x => hmac_Parts N x.1 x.2.1) (oRes (.v .str) 2)

theorem hmac_Parts_ct (N : Nat) : Contract Go.Proofs.Tryd.prog glob 62 (hmac_Parts_res N) :=
  Contract.of (E := hmac_Parts_E N) (H := hmac_Parts_t N) (L := hmac_Parts_L) (N := N) (body := hmac_Parts_body) (K := (kRes (.v .str) 2)) (hmac_Parts_Eok N) Go.Proofs.Tryd.func62 (by kernel_rfl) (by decide) (fun _ hb => TabOk.nil) (fun x y h => by rw [hmac_Parts_link]; exact h) (kRes_ok (s := (.v .str)) (m := 2))

abbrev box_hideKey_R : Type := (List UInt8)

noncomputable def box_hideKey_body : Code := (Go.Proofs.Tryd.f53.body).getD .skip

noncomputable def box_hideKey_L : List (List Nat × List Nat) := [([0], [0]), ([0, 1], [2]), ([1, 1], [2])]

noncomputable def box_hideKey_E (N : Nat) : Env := mkEnv tys glob [(62, hmac_Parts_res N)] [] [] [] false [] [(106, hmac_framed1_itr N)]

theorem box_hideKey_Eok (N : Nat) : EnvOk Go.Proofs.Tryd.prog (box_hideKey_E N) := mkEnv_ok mixed tys_ok (FnsOk.cons (hmac_Parts_ct N) (FnsOk.nil)) (ItsOk.cons (hmac_framed1_it N) (ItsOk.nil))

noncomputable def box_hideKey (N : Nat) (key : (List UInt8)) : Option (List UInt8) :=
  (hmac_Parts N key ([([(104 : UInt8), (105 : UInt8), (100 : UInt8), (101 : UInt8)] : List UInt8)] : List (List UInt8))).bind fun y =>
  some y

noncomputable def box_hideKey_t (N : Nat) : Tab (List UInt8) := []

theorem box_hideKey_link (N : Nat) (x : denS [(0, .v .str)]) : evFX (box_hideKey_E N) N (box_hideKey_t N) box_hideKey_L Go.Proofs.Tryd.f53 (mkS [(0, .v .str)] 0 x) (kRes (.v .str) 1) = box_hideKey N x.1 := by kernel_rfl

noncomputable def box_hideKey_res (N : Nat) : List A → Res := resOf [(0, .v .str)] (fun x => box_hideKey N x.1) (oRes (.v .str) 1)

theorem box_hideKey_ct (N : Nat) : Contract Go.Proofs.Tryd.prog glob 53 (box_hideKey_res N) :=
  Contract.of (E := box_hideKey_E N) (H := box_hideKey_t N) (L := box_hideKey_L) (N := N) (body := box_hideKey_body) (K := (kRes (.v .str) 1)) (box_hideKey_Eok N) Go.Proofs.Tryd.func53 (by kernel_rfl) (by decide) (fun _ hb => TabOk.nil) (fun x y h => by rw [box_hideKey_link]; exact h) (kRes_ok (s := (.v .str)) (m := 1))

abbrev stream_number_R : Type := (List UInt8)

noncomputable def stream_number_body : Code := (Go.Proofs.Tryd.f108.body).getD .skip

noncomputable def stream_number_L : List (List Nat × List Nat) := [([0], [0]), ([0, 1], [3, 0]), ([0, 0, 1, 1], [6, 3, 0]), ([0, 1, 0, 1, 1], [6, 3, 0]), ([0, 0, 0, 1, 0, 1, 1], [7, 6, 3, 0]), ([0, 1, 0, 0, 1, 0, 1, 1], [6, 3, 0]), ([1, 0, 1, 0, 0, 1, 0, 1, 1], [3]), ([0, 0, 0, 1, 1, 0, 0, 1, 0, 1, 1], [3, 4, 0, 6]), ([1, 0, 0, 1, 1, 0, 0, 1, 0, 1, 1], [6, 3, 0]), ([0, 1, 1, 0, 0, 1, 0, 1, 1], [6, 3, 0]), ([1, 1, 1, 0, 0, 1, 0, 1, 1], [6, 3, 0]), ([1, 0, 1, 1], [3]), ([0, 1, 1, 1], [2]), ([1, 1, 1, 1], [2])]

noncomputable def stream_number_E (N : Nat) : Env := mkEnv tys glob [] [(3, (.int .u8))] [] [] false [] [(106, hmac_framed1_itr N)]

theorem stream_number_Eok (N : Nat) : EnvOk Go.Proofs.Tryd.prog (stream_number_E N) := mkEnv_ok mixed tys_ok (FnsOk.nil) (ItsOk.cons (hmac_framed1_it N) (ItsOk.nil))

noncomputable def stream_number_s1 (N : Nat) (n : Int) (out : (List Int)) (x6 : Int) (rec : (List Int) → Int → Option (List UInt8)) (k0 : (List Int) → Option (List UInt8)) : Option (List UInt8) :=
  cond (decide (x6 < (8 : Int)))
  (cond (decide ((0 : Int) ≤ (Go.IntKind.wrap Go.IntKind.i64 ((8 : Int) * (Go.IntKind.wrap Go.IntKind.i64 ((7 : Int) - x6))))))
    (cond (Go.Lift.inR x6 (List.length out))
      (cond (decide ((Int.toNat x6) < (List.length out)))
        (rec (List.set out (Int.toNat x6) (Go.IntKind.wrap Go.IntKind.u8 (Go.Lift.shrI Go.IntKind.i64 n (Go.IntKind.wrap Go.IntKind.i64 ((8 : Int) * (Go.IntKind.wrap Go.IntKind.i64 ((7 : Int) - x6))))))) (Go.IntKind.wrap Go.IntKind.i64 (x6 + (1 : Int))))
        (none))
      (none))
    (none))
  (k0 out)

noncomputable def stream_number_p1 (N : Nat) (n : Int) (out : (List Int)) (x6 : Int) (k0 : (List Int) → Option (List UInt8)) : Option (List UInt8) :=
  iter (fun (v : ((List Int) × Int)) r => stream_number_s1 N n v.1 v.2 (fun out x6 => (r (out, x6))) k0) N (out, x6)

noncomputable def stream_number_g1 (N : Nat) (i : Int) (v : ((List Int) × Int)) (r : ((List Int) × Int) → Option (List UInt8)) (K : Ex → List A → Option (List UInt8)) : Option (List UInt8) :=
  stream_number_s1 N i v.1 v.2 (fun out x6 => (r (out, x6))) (fun a0 => (K (.exit 0) (mkS [(3, .row (.int .u8))] 17 (a0, ()))))

noncomputable def stream_number_h1 (N : Nat) : Hd (List UInt8) := fun st K => (unS [(0, .v (.int .i64)), (2, .row (.int .u8)), (2, .v (.int .i64))] 14 (restr [6, 3, 0] 0 st)).bind fun x => iter (fun v r => stream_number_g1 N ((fun x => x.1) x) v r K) N ((fun x => (x.2.1, x.2.2.1)) x)

noncomputable def stream_number_t1 (N : Nat) : Tab (List UInt8) := []

theorem stream_number_ok1 {N : Nat} {c : Ctx} (hb : Base Go.Proofs.Tryd.prog (stream_number_E N) c) : CodeOk Go.Proofs.Tryd.prog c (nodeAt stream_number_body [0, 1, 0, 1, 1]) (stream_number_h1 N) :=
  loop_ok (s := [(0, .v (.int .i64)), (2, .row (.int .u8)), (2, .v (.int .i64))]) (m := 14) (stream_number_g1 N) [6, 3, 0] N (fun x => x.1) (fun x => (x.2.1, x.2.2.1)) (fun i v => (i, v.1, v.2, ())) (fun _ => rfl) (evN_sound hb N (stream_number_t1 N) stream_number_L stream_number_body TabOk.nil [0, 0, 1, 0, 1, 1] _ rfl) (fun i v r K => by kernel_rfl)

noncomputable def stream_number (N : Nat) (n : Int) : Option (List UInt8) :=
  stream_number_p1 N n ([(0 : Int), (0 : Int), (0 : Int), (0 : Int), (0 : Int), (0 : Int), (0 : Int), (0 : Int)] : List Int) (0 : Int)
  (fun out => some (Go.Lift.toStr out))

noncomputable def stream_number_t (N : Nat) : Tab (List UInt8) := [([0, 1, 0, 1, 1], stream_number_h1 N)]

theorem stream_number_link (N : Nat) (x : denS [(0, .v (.int .i64))]) : evFX (stream_number_E N) N (stream_number_t N) stream_number_L Go.Proofs.Tryd.f108 (mkS [(0, .v (.int .i64))] 0 x) (kRes (.v .str) 1) = stream_number N x.1 := by kernel_rfl

noncomputable def stream_number_res (N : Nat) : List A → Res := resOf [(0, .v (.int .i64))] (fun x => stream_number N x.1) (oRes (.v .str) 1)

theorem stream_number_ct (N : Nat) : Contract Go.Proofs.Tryd.prog glob 108 (stream_number_res N) :=
  Contract.of (E := stream_number_E N) (H := stream_number_t N) (L := stream_number_L) (N := N) (body := stream_number_body) (K := (kRes (.v .str) 1)) (stream_number_Eok N) Go.Proofs.Tryd.func108 (by kernel_rfl) (by decide) (fun _ hb => (TabOk.cons (stream_number_ok1 hb) TabOk.nil)) (fun x y h => by rw [stream_number_link]; exact h) (kRes_ok (s := (.v .str)) (m := 1))

abbrev stream_Block_R : Type := (List UInt8)

noncomputable def stream_Block_body : Code := (Go.Proofs.Tryd.f99.body).getD .skip

noncomputable def stream_Block_L : List (List Nat × List Nat) := [([0], [2, 0, 1]), ([0, 0, 1], [8, 0, 1, 2]), ([1, 0, 1], [0, 1, 2]), ([0, 0, 1, 0, 1], [6]), ([1, 0, 1, 0, 1], [6]), ([0, 1, 1], [6]), ([1, 1, 1], [6])]

noncomputable def stream_Block_E (N : Nat) : Env := mkEnv tys glob [(108, stream_number_res N), (62, hmac_Parts_res N)] [] [] [] false [] [(106, hmac_framed1_itr N)]

theorem stream_Block_Eok (N : Nat) : EnvOk Go.Proofs.Tryd.prog (stream_Block_E N) := mkEnv_ok mixed tys_ok (FnsOk.cons (stream_number_ct N) (FnsOk.cons (hmac_Parts_ct N) (FnsOk.nil))) (ItsOk.cons (hmac_framed1_it N) (ItsOk.nil))

noncomputable def stream_Block (N : Nat) (key : (List UInt8)) (nonce : (List UInt8)) (i : Int) : Option (List UInt8) :=
  cond (decide (i < (0 : Int)))
  (some ([] : List UInt8))
  ((stream_number N i).bind fun y =>
    (hmac_Parts N key ([([(115 : UInt8), (116 : UInt8), (114 : UInt8), (101 : UInt8), (97 : UInt8), (109 : UInt8)] : List UInt8), nonce, y] : List (List UInt8))).bind fun y1 =>
    some y1)

noncomputable def stream_Block_t (N : Nat) : Tab (List UInt8) := []

theorem stream_Block_link (N : Nat) (x : denS [(0, .v .str), (0, .v .str), (0, .v (.int .i64))]) : evFX (stream_Block_E N) N (stream_Block_t N) stream_Block_L Go.Proofs.Tryd.f99 (mkS [(0, .v .str), (0, .v .str), (0, .v (.int .i64))] 0 x) (kRes (.v .str) 3) = stream_Block N x.1 x.2.1 x.2.2.1 := by kernel_rfl

noncomputable def stream_Block_res (N : Nat) : List A → Res := resOf [(0, .v .str), (0, .v .str), (0, .v (.int .i64))] (fun x => stream_Block N x.1 x.2.1 x.2.2.1) (oRes (.v .str) 3)

theorem stream_Block_ct (N : Nat) : Contract Go.Proofs.Tryd.prog glob 99 (stream_Block_res N) :=
  Contract.of (E := stream_Block_E N) (H := stream_Block_t N) (L := stream_Block_L) (N := N) (body := stream_Block_body) (K := (kRes (.v .str) 3)) (stream_Block_Eok N) Go.Proofs.Tryd.func99 (by kernel_rfl) (by decide) (fun _ hb => TabOk.nil) (fun x y h => by rw [stream_Block_link]; exact h) (kRes_ok (s := (.v .str)) (m := 3))

abbrev stream_blocks1_R : Type := (List ((List UInt8) × Unit))

noncomputable def stream_blocks1_body : Code := (Go.Proofs.Tryd.f98.body).getD .skip

noncomputable def stream_blocks1_L : List (List Nat × List Nat) := [([0], [10, 9, 0, 2, 3]), ([0, 1], [10, 9, 0, 2, 3]), ([0, 0, 0, 1], [11, 10, 0, 2, 3, 9]), ([0, 1, 0, 0, 1], [10, 0, 2, 3, 9]), ([1, 0, 1, 0, 0, 1], [0]), ([0, 0, 0, 1, 1, 0, 0, 1], [0, 2, 3, 5, 10, 9]), ([0, 1, 0, 0, 1, 1, 0, 0, 1], [19, 0, 10, 9, 2, 3]), ([1, 1, 0, 0, 1, 1, 0, 0, 1], [10, 9, 0, 2, 3]), ([0, 1, 1, 0, 0, 1, 1, 0, 0, 1], [0]), ([0, 1, 1, 0, 0, 1], [10, 9, 0, 2, 3]), ([1, 1, 1, 0, 0, 1], [10, 9, 0, 2, 3]), ([1], [0])]

noncomputable def stream_blocks1_E (N : Nat) : Env := mkEnv tys glob [(99, stream_Block_res N)] [] [] [0] false [] []

theorem stream_blocks1_Eok (N : Nat) : EnvOk Go.Proofs.Tryd.prog (stream_blocks1_E N) := mkEnv_ok mixed tys_ok (FnsOk.cons (stream_Block_ct N) (FnsOk.nil)) ItsOk.nil

noncomputable def stream_blocks1_s1 (N : Nat) (x2 : (List UInt8)) (x3 : (List UInt8)) (x9 : Int) (x10 : Int) (rec : Int → Option (List ((List UInt8) × Unit))) (k0 : Option (List ((List UInt8) × Unit))) (k1 : Option (List ((List UInt8) × Unit))) : Option (List ((List UInt8) × Unit)) :=
  cond (decide (x10 < x9))
  ((stream_Block N x2 x3 x10).bind fun y =>
    comb (y, ())
    (rec (Go.IntKind.wrap Go.IntKind.i64 (x10 + (1 : Int))))
    (k0))
  (k1)

noncomputable def stream_blocks1_p1 (N : Nat) (x2 : (List UInt8)) (x3 : (List UInt8)) (x9 : Int) (x10 : Int) (k0 : Option (List ((List UInt8) × Unit))) (k1 : Option (List ((List UInt8) × Unit))) : Option (List ((List UInt8) × Unit)) :=
  iter (fun (v : Int) r => stream_blocks1_s1 N x2 x3 x9 v (fun x10 => (r x10)) k0 k1) N x10

noncomputable def stream_blocks1_g1 (N : Nat) (i : ((List UInt8) × (List UInt8) × Int)) (v : Int) (r : Int → Option (List ((List UInt8) × Unit))) (K : Ex → List A → Option (List ((List UInt8) × Unit))) : Option (List ((List UInt8) × Unit)) :=
  stream_blocks1_s1 N i.1 i.2.1 i.2.2 v (fun x10 => (r x10)) (K .ret (mkS [(0, .yld)] 20 ((), ()))) (K (.exit 0) (mkS [(0, .yld)] 20 ((), ())))

noncomputable def stream_blocks1_h1 (N : Nat) : Hd (List ((List UInt8) × Unit)) := fun st K => (unS [(0, .yld), (1, .v (.ptr .str)), (0, .v (.ptr .str)), (5, .v (.int .i64)), (0, .v (.int .i64))] 10 (restr [10, 9, 0, 2, 3] 0 st)).bind fun x => iter (fun v r => stream_blocks1_g1 N ((fun x => (x.2.1, x.2.2.1, x.2.2.2.1)) x) v r K) N ((fun x => x.2.2.2.2.1) x)

noncomputable def stream_blocks1_t1 (N : Nat) : Tab (List ((List UInt8) × Unit)) := []

theorem stream_blocks1_ok1 {N : Nat} {G : GY [.str]} (hG : RestrOk G) (hev : EvOk G Go.Proofs.Tryd.prog (stream_blocks1_E N) N stream_blocks1_L stream_blocks1_body) : YOk G Go.Proofs.Tryd.prog (nodeAt stream_blocks1_body [0, 1]) (stream_blocks1_h1 N) :=
  loopY_ok hG (s := [(0, .yld), (1, .v (.ptr .str)), (0, .v (.ptr .str)), (5, .v (.int .i64)), (0, .v (.int .i64))]) (m := 10) (stream_blocks1_g1 N) [10, 9, 0, 2, 3] N (fun x => (x.2.1, x.2.2.1, x.2.2.2.1)) (fun x => x.2.2.2.2.1) (fun i v => ((), i.1, i.2.1, i.2.2, v, ())) (fun _ => rfl) (hev (stream_blocks1_t1 N) TabOkY.nil [0, 0, 1]) (fun i v r K => by kernel_rfl)

noncomputable def stream_blocks1 (N : Nat) (x1 : Int) (x2 : (List UInt8)) (x3 : (List UInt8)) : Option (List ((List UInt8) × Unit)) :=
  stream_blocks1_p1 N x2 x3 (Go.IntKind.wrap Go.IntKind.i64 (Int.tdiv (Go.IntKind.wrap Go.IntKind.i64 ((Go.IntKind.wrap Go.IntKind.i64 (x1 + (32 : Int))) - (1 : Int))) (32 : Int))) (0 : Int)
  (some ([] : List ((List UInt8) × Unit)))
  (some ([] : List ((List UInt8) × Unit)))

noncomputable def stream_blocks1_t (N : Nat) : Tab (List ((List UInt8) × Unit)) := [([0, 1], stream_blocks1_h1 N)]

theorem stream_blocks1_link (N : Nat) (x : T.den (.pair (.ptr (.int .i64)) (.pair (.ptr .str) (.pair (.ptr .str) .unit)))) : evYX (stream_blocks1_E N) [.str] comb N (stream_blocks1_t N) stream_blocks1_L Go.Proofs.Tryd.f98 [.v (.ptr (.int .i64)) x.1, .v (.ptr .str) x.2.1, .v (.ptr .str) x.2.2.1] = stream_blocks1 N x.1 x.2.1 x.2.2.1 := by kernel_rfl

noncomputable def stream_blocks1_itr (N : Nat) : Dat → ItRes := itRes (ts := [.str]) (.pair (.ptr (.int .i64)) (.pair (.ptr .str) (.pair (.ptr .str) .unit))) (fun x => stream_blocks1 N x.1 x.2.1 x.2.2.1)

theorem stream_blocks1_it (N : Nat) : ItOk Go.Proofs.Tryd.prog glob 98 (stream_blocks1_itr N) := ItOk.of (ts := [.str]) (E := stream_blocks1_E N) (H := stream_blocks1_t N) (L := stream_blocks1_L) (N := N) (body := stream_blocks1_body) (stream_blocks1_Eok N) rfl Go.Proofs.Tryd.func98 (by kernel_rfl) (by decide) (fun G hG hev => (TabOkY.cons (stream_blocks1_ok1 hG hev) TabOkY.nil)) (fun x y h => ⟨_, rfl, by rw [stream_blocks1_link]; exact h⟩)

abbrev stream_blocks_R : Type := (Int × ((List UInt8) × ((List UInt8) × Unit)))

noncomputable def stream_blocks_body : Code := (Go.Proofs.Tryd.f86.body).getD .skip

noncomputable def stream_blocks_L : List (List Nat × List Nat) := [([0], [5, 3, 4]), ([0, 1], [6]), ([1, 1], [6])]

noncomputable def stream_blocks_E (N : Nat) : Env := mkEnv tys glob [] [] [] [] false [] [(98, stream_blocks1_itr N), (106, hmac_framed1_itr N)]

theorem stream_blocks_Eok (N : Nat) : EnvOk Go.Proofs.Tryd.prog (stream_blocks_E N) := mkEnv_ok mixed tys_ok (FnsOk.nil) (ItsOk.cons (stream_blocks1_it N) (ItsOk.cons (hmac_framed1_it N) (ItsOk.nil)))

noncomputable def stream_blocks (N : Nat) (key : (List UInt8)) (nonce : (List UInt8)) (n : Int) : Option (Int × ((List UInt8) × ((List UInt8) × Unit))) :=
  some (n, (key, (nonce, ())))

noncomputable def stream_blocks_t (N : Nat) : Tab (Int × ((List UInt8) × ((List UInt8) × Unit))) := []

theorem stream_blocks_link (N : Nat) (x : denS [(0, .v .str), (0, .v .str), (0, .v (.int .i64))]) : evFX (stream_blocks_E N) N (stream_blocks_t N) stream_blocks_L Go.Proofs.Tryd.f86 (mkS [(0, .v .str), (0, .v .str), (0, .v (.int .i64))] 0 x) (kRes (.v (.fn 98 (.pair (.ptr (.int .i64)) (.pair (.ptr .str) (.pair (.ptr .str) .unit))))) 3) = stream_blocks N x.1 x.2.1 x.2.2.1 := by kernel_rfl

noncomputable def stream_blocks_res (N : Nat) : List A → Res := resOf [(0, .v .str), (0, .v .str), (0, .v (.int .i64))] (fun x => stream_blocks N x.1 x.2.1 x.2.2.1) (oRes (.v (.fn 98 (.pair (.ptr (.int .i64)) (.pair (.ptr .str) (.pair (.ptr .str) .unit))))) 3)

theorem stream_blocks_ct (N : Nat) : Contract Go.Proofs.Tryd.prog glob 86 (stream_blocks_res N) :=
  Contract.of (E := stream_blocks_E N) (H := stream_blocks_t N) (L := stream_blocks_L) (N := N) (body := stream_blocks_body) (K := (kRes (.v (.fn 98 (.pair (.ptr (.int .i64)) (.pair (.ptr .str) (.pair (.ptr .str) .unit))))) 3)) (stream_blocks_Eok N) Go.Proofs.Tryd.func86 (by kernel_rfl) (by decide) (fun _ hb => TabOk.nil) (fun x y h => by rw [stream_blocks_link]; exact h) (kRes_ok (s := (.v (.fn 98 (.pair (.ptr (.int .i64)) (.pair (.ptr .str) (.pair (.ptr .str) .unit)))))) (m := 3))

abbrev stream_Take_R : Type := (List UInt8)

noncomputable def stream_Take_body : Code := (Go.Proofs.Tryd.f70.body).getD .skip

noncomputable def stream_Take_L : List (List Nat × List Nat) := [([0], [2, 0, 1]), ([0, 0, 1], [10, 2, 0, 1]), ([1, 0, 1], [2, 0, 1]), ([0, 0, 1, 0, 1], [6]), ([1, 0, 1, 0, 1], [6]), ([0, 1, 1], [0, 1, 2]), ([0, 1, 1, 1], [0, 1, 2, 7]), ([0, 0, 1, 1, 1, 1], [16, 7, 2]), ([0, 1, 0, 1, 1, 1, 1], [7, 2]), ([0, 0, 1, 0, 1, 1, 1, 1], [8, 7, 2]), ([0, 1, 0, 1, 0, 1, 1, 1, 1], [7, 2]), ([1, 0, 1, 0, 1, 1, 1, 1], [7, 2]), ([1, 0, 1, 1, 1, 1], [7, 2]), ([0, 1, 1, 1, 1, 1], [6]), ([1, 1, 1, 1, 1, 1], [6])]

noncomputable def stream_Take_E (N : Nat) : Env := mkEnv tys glob [(86, stream_blocks_res N), (87, strings_Builder_WriteString_res N), (88, str_res)] [] [] [] false [(7, (.pair (.self 99) (.pair (.own (.byt 5)) .unit)))] [(98, stream_blocks1_itr N), (106, hmac_framed1_itr N)]

theorem stream_Take_Eok (N : Nat) : EnvOk Go.Proofs.Tryd.prog (stream_Take_E N) := mkEnv_ok mixed tys_ok (FnsOk.cons (stream_blocks_ct N) (FnsOk.cons (strings_Builder_WriteString_ct N) (FnsOk.cons (str_ct glob) (FnsOk.nil)))) (ItsOk.cons (stream_blocks1_it N) (ItsOk.cons (hmac_framed1_it N) (ItsOk.nil)))

noncomputable def stream_Take_s1 (N : Nat) (n_1 : Int) (out_1 : (Unit × ((List Int) × Unit))) (y : ((List UInt8) × Unit)) (rec : (Unit × ((List Int) × Unit)) → Option (List UInt8)) (k0 : (Unit × ((List Int) × Unit)) → Option (List UInt8)) : Option (List UInt8) :=
  (strings_Builder_WriteString N out_1 y.1).bind fun y1 =>
  rec y1.2.1

noncomputable def stream_Take_fit1 (N : Nat) (n : Int) (out : (Unit × ((List Int) × Unit))) (x16 : (Int × ((List UInt8) × ((List UInt8) × Unit)))) : Option (List ((List UInt8) × Unit)) := (stream_blocks1 N x16.1 x16.2.1 x16.2.2.1)

noncomputable def stream_Take_i1 (N : Nat) (n : Int) (out : (Unit × ((List Int) × Unit))) (x16 : (Int × ((List UInt8) × ((List UInt8) × Unit)))) : Int := n

noncomputable def stream_Take_v1 (N : Nat) (n : Int) (out : (Unit × ((List Int) × Unit))) (x16 : (Int × ((List UInt8) × ((List UInt8) × Unit)))) : (Unit × ((List Int) × Unit)) := out

noncomputable def stream_Take_p1 (N : Nat) (n : Int) (out : (Unit × ((List Int) × Unit))) (x16 : (Int × ((List UInt8) × ((List UInt8) × Unit)))) (k0 : (Unit × ((List Int) × Unit)) → Option (List UInt8)) : Option (List UInt8) :=
  (stream_Take_fit1 N n out x16).bind fun ys => iterL (fun (y : ((List UInt8) × Unit)) (v : (Unit × ((List Int) × Unit))) r => stream_Take_s1 N n v y (fun out_1 => (r out_1)) k0) (fun (v : (Unit × ((List Int) × Unit))) => k0 v) ys out

noncomputable def stream_Take_g1 (N : Nat) (y : ((List UInt8) × Unit)) (i : Int) (v : (Unit × ((List Int) × Unit))) (r : (Unit × ((List Int) × Unit)) → Option (List UInt8)) (K : Ex → List A → Option (List UInt8)) : Option (List UInt8) :=
  stream_Take_s1 N i v y (fun out_1 => (r out_1)) (fun a1 => (K .normal (mkS [(2, .v (.int .i64)), (4, .box (.pair (.self 99) (.pair (.own (.byt 5)) .unit)))] 15 (i, a1, ()))))

noncomputable def stream_Take_h1 (N : Nat) : Hd (List UInt8) := fun st K => (unS [(2, .v (.int .i64)), (4, .box (.pair (.self 99) (.pair (.own (.byt 5)) .unit))), (8, .v (.fn 98 (.pair (.ptr (.int .i64)) (.pair (.ptr .str) (.pair (.ptr .str) .unit)))))] 6 (restr [16, 7, 2] 0 st)).bind fun x => ((fun x => stream_Take_fit1 N x.1 x.2.1 x.2.2.1) x).bind fun xs => iterL (fun y v r => stream_Take_g1 N y ((fun x => stream_Take_i1 N x.1 x.2.1 x.2.2.1) x) v r K) (fun v => K .normal (mkS [(2, .v (.int .i64)), (4, .box (.pair (.self 99) (.pair (.own (.byt 5)) .unit)))] 15 ((fun i v => (i, v, ())) ((fun x => stream_Take_i1 N x.1 x.2.1 x.2.2.1) x) v))) xs ((fun x => stream_Take_v1 N x.1 x.2.1 x.2.2.1) x)

noncomputable def stream_Take_t1 (N : Nat) : Tab (List UInt8) := []

theorem stream_Take_ok1 {N : Nat} {c : Ctx} (hb : Base Go.Proofs.Tryd.prog (stream_Take_E N) c) : CodeOk Go.Proofs.Tryd.prog c (nodeAt stream_Take_body [0, 1, 0, 1, 1, 1, 1]) (stream_Take_h1 N) :=
  rf_ok (ts := [.str]) (s := [(2, .v (.int .i64)), (4, .box (.pair (.self 99) (.pair (.own (.byt 5)) .unit))), (8, .v (.fn 98 (.pair (.ptr (.int .i64)) (.pair (.ptr .str) (.pair (.ptr .str) .unit)))))]) (m := 6) (s2 := [(2, .v (.int .i64)), (4, .box (.pair (.self 99) (.pair (.own (.byt 5)) .unit)))]) (m2 := 15) [16, 7, 2] (fun x => stream_Take_fit1 N x.1 x.2.1 x.2.2.1) (fun x => stream_Take_i1 N x.1 x.2.1 x.2.2.1) (fun x => stream_Take_v1 N x.1 x.2.1 x.2.2.1) (fun i v => (i, v, ())) (rfF (stream_Take_E N) N [.str] (nodeAt stream_Take_body [0, 1, 0, 1, 1, 1, 1])) (stream_Take_g1 N) (evN_sound hb N [] stream_Take_L stream_Take_body TabOk.nil [0, 1, 0, 1, 1, 1, 1] _ rfl) (fun x K => by kernel_rfl) (fun y i v r K => by kernel_rfl)

noncomputable def stream_Take (N : Nat) (key : (List UInt8)) (nonce : (List UInt8)) (n : Int) : Option (List UInt8) :=
  cond (decide (n < (1 : Int)))
  (some ([] : List UInt8))
  (stream_Take_p1 N (if ((65536 : Int) < n) then (65536 : Int) else n) ((), (([] : List Int), ())) ((if ((65536 : Int) < n) then (65536 : Int) else n), (key, (nonce, ())))
    (fun out_1 => (str_F (out_1, ())).bind fun y =>
      cond (decide (((0 : Int) ≤ (if ((65536 : Int) < n) then (65536 : Int) else n)) ∧ ((if ((65536 : Int) < n) then (65536 : Int) else n) ≤ (((List.length y.1) : Nat) : Int))))
      (some (Go.Lift.cut y.1 0 (Int.toNat (if ((65536 : Int) < n) then (65536 : Int) else n))))
      (none)))

noncomputable def stream_Take_t (N : Nat) : Tab (List UInt8) := [([0, 1, 0, 1, 1, 1, 1], stream_Take_h1 N)]

theorem stream_Take_link (N : Nat) (x : denS [(0, .v .str), (0, .v .str), (0, .v (.int .i64))]) : evFX (stream_Take_E N) N (stream_Take_t N) stream_Take_L Go.Proofs.Tryd.f70 (mkS [(0, .v .str), (0, .v .str), (0, .v (.int .i64))] 0 x) (kRes (.v .str) 3) = stream_Take N x.1 x.2.1 x.2.2.1 := by kernel_rfl

noncomputable def stream_Take_res (N : Nat) : List A → Res := resOf [(0, .v .str), (0, .v .str), (0, .v (.int .i64))] (fun x => stream_Take N x.1 x.2.1 x.2.2.1) (oRes (.v .str) 3)

theorem stream_Take_ct (N : Nat) : Contract Go.Proofs.Tryd.prog glob 70 (stream_Take_res N) :=
  Contract.of (E := stream_Take_E N) (H := stream_Take_t N) (L := stream_Take_L) (N := N) (body := stream_Take_body) (K := (kRes (.v .str) 3)) (stream_Take_Eok N) Go.Proofs.Tryd.func70 (by kernel_rfl) (by decide) (fun _ hb => (TabOk.cons (stream_Take_ok1 hb) TabOk.nil)) (fun x y h => by rw [stream_Take_link]; exact h) (kRes_ok (s := (.v .str)) (m := 3))

abbrev stream_Mix_R : Type := (List UInt8)

noncomputable def stream_Mix_body : Code := (Go.Proofs.Tryd.f52.body).getD .skip

noncomputable def stream_Mix_L : List (List Nat × List Nat) := [([0], [2, 0, 1]), ([0, 0, 1], [9, 2, 0, 1]), ([1, 0, 1], [2, 0, 1]), ([0, 0, 1, 0, 1], [6]), ([1, 0, 1, 0, 1], [6]), ([0, 1, 1], [6]), ([1, 1, 1], [6])]

noncomputable def stream_Mix_E (N : Nat) : Env := mkEnv tys glob [(70, stream_Take_res N), (69, octet_Xor_res N)] [] [] [] false [] [(98, stream_blocks1_itr N), (106, hmac_framed1_itr N)]

theorem stream_Mix_Eok (N : Nat) : EnvOk Go.Proofs.Tryd.prog (stream_Mix_E N) := mkEnv_ok mixed tys_ok (FnsOk.cons (stream_Take_ct N) (FnsOk.cons (octet_Xor_ct N) (FnsOk.nil))) (ItsOk.cons (stream_blocks1_it N) (ItsOk.cons (hmac_framed1_it N) (ItsOk.nil)))

noncomputable def stream_Mix (N : Nat) (key : (List UInt8)) (nonce : (List UInt8)) (text : (List UInt8)) : Option (List UInt8) :=
  cond (decide ((65536 : Int) < (((List.length text) : Nat) : Int)))
  (some ([] : List UInt8))
  ((stream_Take N key nonce (((List.length text) : Nat) : Int)).bind fun y =>
    (octet_Xor N text y).bind fun y1 =>
    some y1)

noncomputable def stream_Mix_t (N : Nat) : Tab (List UInt8) := []

theorem stream_Mix_link (N : Nat) (x : denS [(0, .v .str), (0, .v .str), (0, .v .str)]) : evFX (stream_Mix_E N) N (stream_Mix_t N) stream_Mix_L Go.Proofs.Tryd.f52 (mkS [(0, .v .str), (0, .v .str), (0, .v .str)] 0 x) (kRes (.v .str) 3) = stream_Mix N x.1 x.2.1 x.2.2.1 := by kernel_rfl

noncomputable def stream_Mix_res (N : Nat) : List A → Res := resOf [(0, .v .str), (0, .v .str), (0, .v .str)] (fun x => stream_Mix N x.1 x.2.1 x.2.2.1) (oRes (.v .str) 3)

theorem stream_Mix_ct (N : Nat) : Contract Go.Proofs.Tryd.prog glob 52 (stream_Mix_res N) :=
  Contract.of (E := stream_Mix_E N) (H := stream_Mix_t N) (L := stream_Mix_L) (N := N) (body := stream_Mix_body) (K := (kRes (.v .str) 3)) (stream_Mix_Eok N) Go.Proofs.Tryd.func52 (by kernel_rfl) (by decide) (fun _ hb => TabOk.nil) (fun x y h => by rw [stream_Mix_link]; exact h) (kRes_ok (s := (.v .str)) (m := 3))

abbrev box_tag_R : Type := (List UInt8)

noncomputable def box_tag_body : Code := (Go.Proofs.Tryd.f54.body).getD .skip

noncomputable def box_tag_L : List (List Nat × List Nat) := [([0], [0, 1]), ([0, 1], [4]), ([1, 1], [4])]

noncomputable def box_tag_E (N : Nat) : Env := mkEnv tys glob [(62, hmac_Parts_res N), (71, hmac_Sum_res N)] [] [] [] false [] [(98, stream_blocks1_itr N), (106, hmac_framed1_itr N)]

theorem box_tag_Eok (N : Nat) : EnvOk Go.Proofs.Tryd.prog (box_tag_E N) := mkEnv_ok mixed tys_ok (FnsOk.cons (hmac_Parts_ct N) (FnsOk.cons (hmac_Sum_ct N) (FnsOk.nil))) (ItsOk.cons (stream_blocks1_it N) (ItsOk.cons (hmac_framed1_it N) (ItsOk.nil)))

noncomputable def box_tag (N : Nat) (key : (List UInt8)) (body : (List UInt8)) : Option (List UInt8) :=
  (hmac_Parts N key ([([(116 : UInt8), (97 : UInt8), (103 : UInt8)] : List UInt8)] : List (List UInt8))).bind fun y =>
  (hmac_Sum N y body).bind fun y1 =>
  some y1

noncomputable def box_tag_t (N : Nat) : Tab (List UInt8) := []

theorem box_tag_link (N : Nat) (x : denS [(0, .v .str), (0, .v .str)]) : evFX (box_tag_E N) N (box_tag_t N) box_tag_L Go.Proofs.Tryd.f54 (mkS [(0, .v .str), (0, .v .str)] 0 x) (kRes (.v .str) 2) = box_tag N x.1 x.2.1 := by kernel_rfl

noncomputable def box_tag_res (N : Nat) : List A → Res := resOf [(0, .v .str), (0, .v .str)] (fun x => box_tag N x.1 x.2.1) (oRes (.v .str) 2)

theorem box_tag_ct (N : Nat) : Contract Go.Proofs.Tryd.prog glob 54 (box_tag_res N) :=
  Contract.of (E := box_tag_E N) (H := box_tag_t N) (L := box_tag_L) (N := N) (body := box_tag_body) (K := (kRes (.v .str) 2)) (box_tag_Eok N) Go.Proofs.Tryd.func54 (by kernel_rfl) (by decide) (fun _ hb => TabOk.nil) (fun x y h => by rw [box_tag_link]; exact h) (kRes_ok (s := (.v .str)) (m := 2))

abbrev box_Seal_R : Type := ((List UInt8) × Int × Unit)

noncomputable def box_Seal_body : Code := (Go.Proofs.Tryd.f15.body).getD .skip

noncomputable def box_Seal_L : List (List Nat × List Nat) := [([0], [1, 2, 0]), ([0, 0, 1], [11, 2, 1, 0]), ([1, 0, 1], [2, 1, 0]), ([0, 0, 1, 0, 1], [6, 7]), ([1, 0, 1, 0, 1], [6, 7]), ([0, 0, 1, 1], [14, 1, 0, 2]), ([1, 0, 1, 1], [1, 0, 2]), ([0, 0, 1, 0, 1, 1], [6, 7]), ([1, 0, 1, 0, 1, 1], [6, 7]), ([0, 1, 1, 1], [8, 0]), ([0, 1, 1, 1, 1], [6, 7]), ([1, 1, 1, 1, 1], [6, 7])]

noncomputable def box_Seal_E (N : Nat) : Env := mkEnv tys glob [(54, box_tag_res N), (52, stream_Mix_res N), (53, box_hideKey_res N)] [] [] [] false [] [(98, stream_blocks1_itr N), (106, hmac_framed1_itr N)]

theorem box_Seal_Eok (N : Nat) : EnvOk Go.Proofs.Tryd.prog (box_Seal_E N) := mkEnv_ok mixed tys_ok (FnsOk.cons (box_tag_ct N) (FnsOk.cons (stream_Mix_ct N) (FnsOk.cons (box_hideKey_ct N) (FnsOk.nil)))) (ItsOk.cons (stream_blocks1_it N) (ItsOk.cons (hmac_framed1_it N) (ItsOk.nil)))

noncomputable def box_Seal (N : Nat) (key : (List UInt8)) (nonce : (List UInt8)) (text : (List UInt8)) : Option ((List UInt8) × Int × Unit) :=
  cond ((((List.length nonce) : Nat) : Int) != (16 : Int))
  (some (([] : List UInt8), ((7 : Int), ())))
  (cond (decide ((4096 : Int) < (((List.length text) : Nat) : Int)))
    (some (([] : List UInt8), ((3 : Int), ())))
    ((box_hideKey N key).bind fun y =>
      (stream_Mix N y nonce text).bind fun y1 =>
      cond (decide (((List.length nonce) + (List.length y1)) ≤ 9223372036854775807))
      ((box_tag N key (nonce ++ y1)).bind fun y2 =>
        cond (decide (((List.length (nonce ++ y1)) + (List.length y2)) ≤ 9223372036854775807))
        (some (((nonce ++ y1) ++ y2), ((0 : Int), ())))
        (none))
      (none)))

noncomputable def box_Seal_t (N : Nat) : Tab ((List UInt8) × Int × Unit) := []

theorem box_Seal_link (N : Nat) (x : denS [(0, .v .str), (0, .v .str), (0, .v .str)]) : evFX (box_Seal_E N) N (box_Seal_t N) box_Seal_L Go.Proofs.Tryd.f15 (mkS [(0, .v .str), (0, .v .str), (0, .v .str)] 0 x) (kRes (.tup [.str, (.int .i64)]) 3) = box_Seal N x.1 x.2.1 x.2.2.1 := by kernel_rfl

noncomputable def box_Seal_res (N : Nat) : List A → Res := resOf [(0, .v .str), (0, .v .str), (0, .v .str)] (fun x => box_Seal N x.1 x.2.1 x.2.2.1) (oRes (.tup [.str, (.int .i64)]) 3)

theorem box_Seal_ct (N : Nat) : Contract Go.Proofs.Tryd.prog glob 15 (box_Seal_res N) :=
  Contract.of (E := box_Seal_E N) (H := box_Seal_t N) (L := box_Seal_L) (N := N) (body := box_Seal_body) (K := (kRes (.tup [.str, (.int .i64)]) 3)) (box_Seal_Eok N) Go.Proofs.Tryd.func15 (by kernel_rfl) (by decide) (fun _ hb => TabOk.nil) (fun x y h => by rw [box_Seal_link]; exact h) (kRes_ok (s := (.tup [.str, (.int .i64)])) (m := 3))

abbrev box_Nonce_R : Type := (List UInt8)

noncomputable def box_Nonce_body : Code := (Go.Proofs.Tryd.f19.body).getD .skip

noncomputable def box_Nonce_L : List (List Nat × List Nat) := [([0], [0]), ([0, 0, 1], [5, 0]), ([1, 0, 1], [0]), ([0, 0, 1, 0, 1], [2]), ([1, 0, 1, 0, 1], [2]), ([0, 1, 1], [2]), ([1, 1, 1], [2])]

noncomputable def box_Nonce_E (N : Nat) : Env := mkEnv tys glob [] [] [] [] false [] [(98, stream_blocks1_itr N), (106, hmac_framed1_itr N)]

theorem box_Nonce_Eok (N : Nat) : EnvOk Go.Proofs.Tryd.prog (box_Nonce_E N) := mkEnv_ok mixed tys_ok (FnsOk.nil) (ItsOk.cons (stream_blocks1_it N) (ItsOk.cons (hmac_framed1_it N) (ItsOk.nil)))

noncomputable def box_Nonce (N : Nat) (s : (List UInt8)) : Option (List UInt8) :=
  cond (decide ((((List.length s) : Nat) : Int) < (16 : Int)))
  (some ([] : List UInt8))
  (cond (decide (((0 : Int) ≤ (16 : Int)) ∧ ((16 : Int) ≤ (((List.length s) : Nat) : Int))))
    (some (Go.Lift.cut s 0 16))
    (none))

noncomputable def box_Nonce_t (N : Nat) : Tab (List UInt8) := []

theorem box_Nonce_link (N : Nat) (x : denS [(0, .v .str)]) : evFX (box_Nonce_E N) N (box_Nonce_t N) box_Nonce_L Go.Proofs.Tryd.f19 (mkS [(0, .v .str)] 0 x) (kRes (.v .str) 1) = box_Nonce N x.1 := by kernel_rfl

noncomputable def box_Nonce_res (N : Nat) : List A → Res := resOf [(0, .v .str)] (fun x => box_Nonce N x.1) (oRes (.v .str) 1)

theorem box_Nonce_ct (N : Nat) : Contract Go.Proofs.Tryd.prog glob 19 (box_Nonce_res N) :=
  Contract.of (E := box_Nonce_E N) (H := box_Nonce_t N) (L := box_Nonce_L) (N := N) (body := box_Nonce_body) (K := (kRes (.v .str) 1)) (box_Nonce_Eok N) Go.Proofs.Tryd.func19 (by kernel_rfl) (by decide) (fun _ hb => TabOk.nil) (fun x y h => by rw [box_Nonce_link]; exact h) (kRes_ok (s := (.v .str)) (m := 1))

abbrev box_Open1_R : Type := ((Unit) × (Int × (List UInt8) × (List UInt8) × (List UInt8) × Unit))

noncomputable def box_Open1_body : Code := (Go.Proofs.Tryd.f57.body).getD .skip

noncomputable def box_Open1_L : List (List Nat × List Nat) := [([0], [5, 1, 2, 3, 0]), ([1], [0, 1, 2, 3]), ([0, 1], [0, 1, 2, 3])]

noncomputable def box_Open1_E (N : Nat) : Env := mkEnv tys glob [(19, box_Nonce_res N), (52, stream_Mix_res N), (53, box_hideKey_res N)] [] [] [0, 1, 2, 3] false [] [(98, stream_blocks1_itr N), (106, hmac_framed1_itr N)]

theorem box_Open1_Eok (N : Nat) : EnvOk Go.Proofs.Tryd.prog (box_Open1_E N) := mkEnv_ok mixed tys_ok (FnsOk.cons (box_Nonce_ct N) (FnsOk.cons (stream_Mix_ct N) (FnsOk.cons (box_hideKey_ct N) (FnsOk.nil)))) (ItsOk.cons (stream_blocks1_it N) (ItsOk.cons (hmac_framed1_it N) (ItsOk.nil)))

noncomputable def box_Open1 (N : Nat) (x0 : Int) (x1 : (List UInt8)) (x2 : (List UInt8)) (x3 : (List UInt8)) : Option ((Unit) × (Int × (List UInt8) × (List UInt8) × (List UInt8) × Unit)) :=
  cond (x0 == (0 : Int))
  ((box_hideKey N x1).bind fun y =>
    (box_Nonce N x2).bind fun y1 =>
    cond (decide (((0 : Int) ≤ (Go.IntKind.wrap Go.IntKind.i64 ((((List.length x2) : Nat) : Int) - (32 : Int)))) ∧ ((Go.IntKind.wrap Go.IntKind.i64 ((((List.length x2) : Nat) : Int) - (32 : Int))) ≤ (((List.length x2) : Nat) : Int))))
    (cond (decide (((0 : Int) ≤ (16 : Int)) ∧ ((16 : Int) ≤ (Go.IntKind.wrap Go.IntKind.i64 ((((List.length x2) : Nat) : Int) - (32 : Int))))))
      ((stream_Mix N y y1 (Go.Lift.cut x2 16 (Int.toNat (Go.IntKind.wrap Go.IntKind.i64 ((((List.length x2) : Nat) : Int) - (32 : Int)))))).bind fun y2 =>
        some ((), (x0, (x1, (x2, (y2, ()))))))
      (none))
    (none))
  (some ((), (x0, (x1, (x2, (x3, ()))))))

noncomputable def box_Open1_t (N : Nat) : Tab ((Unit) × (Int × (List UInt8) × (List UInt8) × (List UInt8) × Unit)) := []

theorem box_Open1_link (N : Nat) (x : denS [(0, .box (.int .i64)), (0, .box .str), (0, .box .str), (0, .box .str)]) : evFX (box_Open1_E N) N (box_Open1_t N) box_Open1_L Go.Proofs.Tryd.f57 (mkS [(0, .box (.int .i64)), (0, .box .str), (0, .box .str), (0, .box .str)] 0 x) (kResB (.tup []) [(0, .box (.int .i64)), (0, .box .str), (0, .box .str), (0, .box .str)] 0) = box_Open1 N x.1 x.2.1 x.2.2.1 x.2.2.2.1 := by kernel_rfl

noncomputable def box_Open1_res (N : Nat) : List A → Res := resOf [(0, .box (.int .i64)), (0, .box .str), (0, .box .str), (0, .box .str)] (fun x => box_Open1 N x.1 x.2.1 x.2.2.1 x.2.2.2.1) (oResB (.tup []) [(0, .box (.int .i64)), (0, .box .str), (0, .box .str), (0, .box .str)] 0)

theorem box_Open1_ct (N : Nat) : Contract Go.Proofs.Tryd.prog glob 57 (box_Open1_res N) :=
  Contract.of (E := box_Open1_E N) (H := box_Open1_t N) (L := box_Open1_L) (N := N) (body := box_Open1_body) (K := (kResB (.tup []) [(0, .box (.int .i64)), (0, .box .str), (0, .box .str), (0, .box .str)] 0)) (box_Open1_Eok N) Go.Proofs.Tryd.func57 (by kernel_rfl) (by decide) (fun _ hb => TabOk.nil) (fun x y h => by rw [box_Open1_link]; exact h) (kResB_ok (s := (.tup [])) (os := [(0, .box (.int .i64)), (0, .box .str), (0, .box .str), (0, .box .str)]) (m := 0))

theorem box_Open1_ctd (N : Nat) : ContractD Go.Proofs.Tryd.prog glob 57 (box_Open1_res N) :=
  ContractD.of (E := box_Open1_E N) (H := box_Open1_t N) (L := box_Open1_L) (N := N) (body := box_Open1_body) (K := (kResB (.tup []) [(0, .box (.int .i64)), (0, .box .str), (0, .box .str), (0, .box .str)] 0)) (box_Open1_Eok N) Go.Proofs.Tryd.func57 (by kernel_rfl) (by decide) (fun _ hb => TabOk.nil) (fun x y h => by rw [box_Open1_link]; exact h) (kResB_ok (s := (.tup [])) (os := [(0, .box (.int .i64)), (0, .box .str), (0, .box .str), (0, .box .str)]) (m := 0))

abbrev octet_Equal_R : Type := Bool

noncomputable def octet_Equal_body : Code := (Go.Proofs.Tryd.f94.body).getD .skip

noncomputable def octet_Equal_L : List (List Nat × List Nat) := [([0], [0, 1]), ([0, 0, 1], [11, 0, 1]), ([1, 0, 1], [0, 1]), ([0, 0, 1, 0, 1], [4]), ([1, 0, 1, 0, 1], [4]), ([0, 1, 1], [0, 5, 1]), ([0, 0, 1, 1, 1], [14, 13, 5, 0, 1]), ([0, 1, 0, 1, 1, 1], [14, 13, 5, 0, 1]), ([0, 0, 0, 1, 0, 1, 1, 1], [15, 14, 5, 0, 1, 13]), ([0, 1, 0, 0, 1, 0, 1, 1, 1], [14, 5, 0, 1, 13]), ([1, 0, 1, 0, 0, 1, 0, 1, 1, 1], [5]), ([0, 0, 0, 1, 1, 0, 0, 1, 0, 1, 1, 1], [5, 0, 6, 1, 14, 13]), ([1, 0, 0, 1, 1, 0, 0, 1, 0, 1, 1, 1], [14, 13, 5, 0, 1]), ([0, 1, 1, 0, 0, 1, 0, 1, 1, 1], [14, 13, 5, 0, 1]), ([1, 1, 1, 0, 0, 1, 0, 1, 1, 1], [14, 13, 5, 0, 1]), ([1, 0, 1, 1, 1], [5]), ([0, 1, 1, 1, 1], [4]), ([1, 1, 1, 1, 1], [4])]

noncomputable def octet_Equal_E (N : Nat) : Env := mkEnv tys glob [] [] [] [] false [] [(98, stream_blocks1_itr N), (106, hmac_framed1_itr N)]

theorem octet_Equal_Eok (N : Nat) : EnvOk Go.Proofs.Tryd.prog (octet_Equal_E N) := mkEnv_ok mixed tys_ok (FnsOk.nil) (ItsOk.cons (stream_blocks1_it N) (ItsOk.cons (hmac_framed1_it N) (ItsOk.nil)))

noncomputable def octet_Equal_s1 (N : Nat) (a : (List UInt8)) (b : (List UInt8)) (x13 : Int) (differ : Int) (x14 : Int) (rec : Int → Int → Option Bool) (k0 : Int → Option Bool) : Option Bool :=
  cond (decide (x14 < x13))
  (cond (Go.Lift.inR x14 (List.length a))
    (cond (Go.Lift.inR x14 (List.length b))
      (rec (Go.Lift.bitsOp Go.BinOp.or Go.IntKind.u8 differ (Go.Lift.bitsOp Go.BinOp.xor Go.IntKind.u8 (((UInt8.toNat (List.getD a (Int.toNat x14) (0 : UInt8))) : Nat) : Int) (((UInt8.toNat (List.getD b (Int.toNat x14) (0 : UInt8))) : Nat) : Int))) (Go.IntKind.wrap Go.IntKind.i64 (x14 + (1 : Int))))
      (none))
    (none))
  (k0 differ)

noncomputable def octet_Equal_p1 (N : Nat) (a : (List UInt8)) (b : (List UInt8)) (differ : Int) (x13 : Int) (x14 : Int) (k0 : Int → Option Bool) : Option Bool :=
  iter (fun (v : (Int × Int)) r => octet_Equal_s1 N a b x13 v.1 v.2 (fun differ x14 => (r (differ, x14))) k0) N (differ, x14)

noncomputable def octet_Equal_g1 (N : Nat) (i : ((List UInt8) × (List UInt8) × Int)) (v : (Int × Int)) (r : (Int × Int) → Option Bool) (K : Ex → List A → Option Bool) : Option Bool :=
  octet_Equal_s1 N i.1 i.2.1 i.2.2 v.1 v.2 (fun differ x14 => (r (differ, x14))) (fun a0 => (K (.exit 0) (mkS [(5, .v (.int .u8))] 23 (a0, ()))))

noncomputable def octet_Equal_h1 (N : Nat) : Hd Bool := fun st K => (unS [(0, .v .str), (0, .v .str), (3, .v (.int .u8)), (7, .v (.int .i64)), (0, .v (.int .i64))] 14 (restr [14, 13, 5, 0, 1] 0 st)).bind fun x => iter (fun v r => octet_Equal_g1 N ((fun x => (x.1, x.2.1, x.2.2.2.1)) x) v r K) N ((fun x => (x.2.2.1, x.2.2.2.2.1)) x)

noncomputable def octet_Equal_t1 (N : Nat) : Tab Bool := []

theorem octet_Equal_ok1 {N : Nat} {c : Ctx} (hb : Base Go.Proofs.Tryd.prog (octet_Equal_E N) c) : CodeOk Go.Proofs.Tryd.prog c (nodeAt octet_Equal_body [0, 1, 0, 1, 1, 1]) (octet_Equal_h1 N) :=
  loop_ok (s := [(0, .v .str), (0, .v .str), (3, .v (.int .u8)), (7, .v (.int .i64)), (0, .v (.int .i64))]) (m := 14) (octet_Equal_g1 N) [14, 13, 5, 0, 1] N (fun x => (x.1, x.2.1, x.2.2.2.1)) (fun x => (x.2.2.1, x.2.2.2.2.1)) (fun i v => (i.1, i.2.1, v.1, i.2.2, v.2, ())) (fun _ => rfl) (evN_sound hb N (octet_Equal_t1 N) octet_Equal_L octet_Equal_body TabOk.nil [0, 0, 1, 0, 1, 1, 1] _ rfl) (fun i v r K => by kernel_rfl)

noncomputable def octet_Equal (N : Nat) (a : (List UInt8)) (b : (List UInt8)) : Option Bool :=
  cond ((((List.length a) : Nat) : Int) != (((List.length b) : Nat) : Int))
  (some false)
  (octet_Equal_p1 N a b (0 : Int) (((List.length a) : Nat) : Int) (0 : Int)
    (fun differ => some (differ == (0 : Int))))

noncomputable def octet_Equal_t (N : Nat) : Tab Bool := [([0, 1, 0, 1, 1, 1], octet_Equal_h1 N)]

theorem octet_Equal_link (N : Nat) (x : denS [(0, .v .str), (0, .v .str)]) : evFX (octet_Equal_E N) N (octet_Equal_t N) octet_Equal_L Go.Proofs.Tryd.f94 (mkS [(0, .v .str), (0, .v .str)] 0 x) (kRes (.v .bool) 2) = octet_Equal N x.1 x.2.1 := by kernel_rfl

noncomputable def octet_Equal_res (N : Nat) : List A → Res := resOf [(0, .v .str), (0, .v .str)] (fun x => octet_Equal N x.1 x.2.1) (oRes (.v .bool) 2)

theorem octet_Equal_ct (N : Nat) : Contract Go.Proofs.Tryd.prog glob 94 (octet_Equal_res N) :=
  Contract.of (E := octet_Equal_E N) (H := octet_Equal_t N) (L := octet_Equal_L) (N := N) (body := octet_Equal_body) (K := (kRes (.v .bool) 2)) (octet_Equal_Eok N) Go.Proofs.Tryd.func94 (by kernel_rfl) (by decide) (fun _ hb => (TabOk.cons (octet_Equal_ok1 hb) TabOk.nil)) (fun x y h => by rw [octet_Equal_link]; exact h) (kRes_ok (s := (.v .bool)) (m := 2))

abbrev hmac_Same_R : Type := Bool

noncomputable def hmac_Same_body : Code := (Go.Proofs.Tryd.f74.body).getD .skip

noncomputable def hmac_Same_L : List (List Nat × List Nat) := [([0], [0, 1]), ([0, 1], [4]), ([1, 1], [4])]

noncomputable def hmac_Same_E (N : Nat) : Env := mkEnv tys glob [(94, octet_Equal_res N)] [] [] [] false [] [(98, stream_blocks1_itr N), (106, hmac_framed1_itr N)]

theorem hmac_Same_Eok (N : Nat) : EnvOk Go.Proofs.Tryd.prog (hmac_Same_E N) := mkEnv_ok mixed tys_ok (FnsOk.cons (octet_Equal_ct N) (FnsOk.nil)) (ItsOk.cons (stream_blocks1_it N) (ItsOk.cons (hmac_framed1_it N) (ItsOk.nil)))

noncomputable def hmac_Same (N : Nat) (a : (List UInt8)) (b : (List UInt8)) : Option Bool :=
  cond ((((List.length a) : Nat) : Int) == (32 : Int))
  (cond ((((List.length b) : Nat) : Int) == (32 : Int))
    ((octet_Equal N a b).bind fun y =>
      some y)
    (some false))
  (some false)

noncomputable def hmac_Same_t (N : Nat) : Tab Bool := []

theorem hmac_Same_link (N : Nat) (x : denS [(0, .v .str), (0, .v .str)]) : evFX (hmac_Same_E N) N (hmac_Same_t N) hmac_Same_L Go.Proofs.Tryd.f74 (mkS [(0, .v .str), (0, .v .str)] 0 x) (kRes (.v .bool) 2) = hmac_Same N x.1 x.2.1 := by kernel_rfl

noncomputable def hmac_Same_res (N : Nat) : List A → Res := resOf [(0, .v .str), (0, .v .str)] (fun x => hmac_Same N x.1 x.2.1) (oRes (.v .bool) 2)

theorem hmac_Same_ct (N : Nat) : Contract Go.Proofs.Tryd.prog glob 74 (hmac_Same_res N) :=
  Contract.of (E := hmac_Same_E N) (H := hmac_Same_t N) (L := hmac_Same_L) (N := N) (body := hmac_Same_body) (K := (kRes (.v .bool) 2)) (hmac_Same_Eok N) Go.Proofs.Tryd.func74 (by kernel_rfl) (by decide) (fun _ hb => TabOk.nil) (fun x y h => by rw [hmac_Same_link]; exact h) (kRes_ok (s := (.v .bool)) (m := 2))

abbrev box_check_R : Type := Int

noncomputable def box_check_body : Code := (Go.Proofs.Tryd.f58.body).getD .skip

noncomputable def box_check_L : List (List Nat × List Nat) := [([0], [1, 0]), ([0, 0, 1], [8, 1, 0]), ([1, 0, 1], [1, 0]), ([0, 0, 1, 0, 1], [4]), ([1, 0, 1, 0, 1], [4]), ([0, 0, 1, 1], [11, 1, 0]), ([1, 0, 1, 1], [1, 0]), ([0, 0, 1, 0, 1, 1], [4]), ([1, 0, 1, 0, 1, 1], [4]), ([0, 1, 1, 1], [1, 5, 0]), ([0, 0, 1, 1, 1, 1], [24]), ([1, 0, 1, 1, 1, 1], []), ([0, 0, 1, 0, 1, 1, 1, 1], [4]), ([1, 0, 1, 0, 1, 1, 1, 1], [4]), ([0, 1, 1, 1, 1, 1], [4]), ([1, 1, 1, 1, 1, 1], [4])]

noncomputable def box_check_E (N : Nat) : Env := mkEnv tys glob [(74, hmac_Same_res N), (54, box_tag_res N)] [] [] [] false [] [(98, stream_blocks1_itr N), (106, hmac_framed1_itr N)]

theorem box_check_Eok (N : Nat) : EnvOk Go.Proofs.Tryd.prog (box_check_E N) := mkEnv_ok mixed tys_ok (FnsOk.cons (hmac_Same_ct N) (FnsOk.cons (box_tag_ct N) (FnsOk.nil))) (ItsOk.cons (stream_blocks1_it N) (ItsOk.cons (hmac_framed1_it N) (ItsOk.nil)))

noncomputable def box_check (N : Nat) (key : (List UInt8)) (s : (List UInt8)) : Option Int :=
  cond (decide ((((List.length s) : Nat) : Int) < (48 : Int)))
  (some (1 : Int))
  (cond (decide ((4144 : Int) < (((List.length s) : Nat) : Int)))
    (some (3 : Int))
    (cond (decide (((0 : Int) ≤ (Go.IntKind.wrap Go.IntKind.i64 ((((List.length s) : Nat) : Int) - (32 : Int)))) ∧ ((Go.IntKind.wrap Go.IntKind.i64 ((((List.length s) : Nat) : Int) - (32 : Int))) ≤ (((List.length s) : Nat) : Int))))
      (cond (decide (((0 : Int) ≤ (Go.IntKind.wrap Go.IntKind.i64 ((((List.length s) : Nat) : Int) - (32 : Int)))) ∧ ((Go.IntKind.wrap Go.IntKind.i64 ((((List.length s) : Nat) : Int) - (32 : Int))) ≤ (((List.length s) : Nat) : Int))))
        ((box_tag N key (Go.Lift.cut s 0 (Int.toNat (Go.IntKind.wrap Go.IntKind.i64 ((((List.length s) : Nat) : Int) - (32 : Int)))))).bind fun y =>
          (hmac_Same N (Go.Lift.cut s (Int.toNat (Go.IntKind.wrap Go.IntKind.i64 ((((List.length s) : Nat) : Int) - (32 : Int)))) (List.length s)) y).bind fun y1 =>
          cond (!y1)
          (some (8 : Int))
          (some (0 : Int)))
        (none))
      (none)))

noncomputable def box_check_t (N : Nat) : Tab Int := []

theorem box_check_link (N : Nat) (x : denS [(0, .v .str), (0, .v .str)]) : evFX (box_check_E N) N (box_check_t N) box_check_L Go.Proofs.Tryd.f58 (mkS [(0, .v .str), (0, .v .str)] 0 x) (kRes (.v (.int .i64)) 2) = box_check N x.1 x.2.1 := by kernel_rfl

noncomputable def box_check_res (N : Nat) : List A → Res := resOf [(0, .v .str), (0, .v .str)] (fun x => box_check N x.1 x.2.1) (oRes (.v (.int .i64)) 2)

theorem box_check_ct (N : Nat) : Contract Go.Proofs.Tryd.prog glob 58 (box_check_res N) :=
  Contract.of (E := box_check_E N) (H := box_check_t N) (L := box_check_L) (N := N) (body := box_check_body) (K := (kRes (.v (.int .i64)) 2)) (box_check_Eok N) Go.Proofs.Tryd.func58 (by kernel_rfl) (by decide) (fun _ hb => TabOk.nil) (fun x y h => by rw [box_check_link]; exact h) (kRes_ok (s := (.v (.int .i64))) (m := 2))

noncomputable def box_Open (N : Nat) (key s : List UInt8) : Option (List UInt8 × Int × Unit) :=
  (box_check N key s).bind fun e => (box_Open1 N e key s []).bind fun y => some (y.2.2.2.2.1, y.2.1, ())

noncomputable def box_Open_res (N : Nat) : List A → Res := resOf [(0, .v .str), (0, .v .str)] (fun x => box_Open N x.1 x.2.1) (oRes (.tup [.str, (.int .i64)]) 2)

theorem box_Open_check {N : Nat} {key s : List UInt8} {e : Int} {w : World} {S : Hp} (hS : Sub S (hp w)) (hg : GlobOk glob S) (he : box_check N key s = some e) :
    Calls Tryd.prog 58 #[.string ⟨⟨key⟩⟩, .string ⟨⟨s⟩⟩] w fun r w' => r = .returned (.int .i64 e) ∧ Go.RowKit.Below w.heap.size w w' ∧ ∃ S', Sub S S' ∧ Sub S' (hp w') ∧ ∀ b, S' b ≠ none → S b ≠ none ∨ w.heap.size ≤ b := by
  have h := (box_check_ct N).2 w S (mkS [(0, .v .str), (0, .v .str)] 0 (key, s, ())) [.string ⟨⟨key⟩⟩, .string ⟨⟨s⟩⟩] (fun _ => []) ⟨rfl, fun i x hx => ?_, fun _ _ => rfl, (fun i j b hb => by cases hb), fun _ => .nil, (fun i b hb => by cases hb)⟩ hS hg
  · have h2 := h e (by show box_check N key s = some e; exact he)
    refine h2.mono ?_
    rintro r w' ⟨v, S', o, ob', rfl, hwf, h3, h4, h5, ⟨⟨hv, _⟩, _⟩, _⟩
    have hv' := VR.int_inv hv
    subst hv'
    refine ⟨rfl, ⟨hwf.os, hwf.tape, hwf.output, hwf.size, fun k hk => hwf.same k hk (by rintro ⟨i, hi⟩; cases hi)⟩, S', h3, h4, fun b hb => ?_⟩
    rcases h5 b hb with h | ⟨i, hi⟩ | h
    · exact .inl h
    · cases hi
    · exact .inr h
  · match i with
    | 0 => simp [mkS, deads, AS.mk] at hx; subst hx; exact ⟨⟨_, rfl, VR.str, rfl⟩, rfl⟩
    | 1 => simp [mkS, deads, AS.mk] at hx; subst hx; exact ⟨⟨_, rfl, VR.str, rfl⟩, rfl⟩
    | i + 2 => simp [mkS, deads] at hx

theorem box_Open_box {h S : Hp} {tv : Nat → Value} {b E : Nat} {t : T} {x : t.den} {v : Value} (ht : t.isAgg = false) (hb : h b = some (.cells #[v] E (0, 0))) (hv : Rd S t x [v]) : ARel h S tv (.box t x) (.pointer (some ⟨b, 0, none⟩)) [b] :=
  ⟨b, #[v], E, (0, 0), [], rfl, rfl, hb, (fun i _ hq => by have := hq.2; omega), RdO.of_rd t x _ hv⟩

theorem box_Open_back {h S : Hp} {tv : Nat → Value} {t : T} {x : t.den} {b : Nat} {o : List Nat} (ht : noOwn t = true) (hs : t.size = 1) (hx : ARel h S tv (.box t x) (.pointer (some ⟨b, 0, none⟩)) o) : ∃ v E fr, h b = some (.cells #[v] E fr) ∧ Rd S t x [v] := by
  obtain ⟨b', cs, E, fr, bs, _, e, hb, _, hr⟩ := hx
  cases e
  obtain ⟨_, hr⟩ := RdO.rd t x _ _ ht hr
  have hl := hr.length
  rw [hs] at hl
  obtain ⟨v, hv⟩ := List.length_eq_one_iff.1 hl
  have : cs = #[v] := by apply Array.toList_inj.1; rw [hv]
  subst this
  exact ⟨v, E, fr, hb, hr⟩

theorem box_Open_ct (N : Nat) : Contract Tryd.prog glob 17 (box_Open_res N) := by
  refine Contract.hand ⟨_, Tryd.func17, by kernel_rfl, by decide⟩ ?_
  intro w S vals ob x y har hS hg hy
  obtain ⟨key, s, u⟩ := x
  cases u
  unfold box_Open at hy
  dsimp only at hy
  cases he : box_check N key s with
  | none => rw [he] at hy; cases hy
  | some e =>
  rw [he, Option.bind_some] at hy
  cases ho : box_Open1 N e key s [] with
  | none => rw [ho] at hy; cases hy
  | some z =>
  rw [ho, Option.bind_some] at hy
  cases hy
  obtain ⟨⟨v0, hv0, hA0, ho0⟩, _⟩ := har.rel 0 _ rfl
  obtain ⟨⟨v1, hv1, hA1, ho1⟩, _⟩ := har.rel 1 _ rfl
  have hlen := har.len
  obtain ⟨u0, u1, rfl⟩ : ∃ u0 u1, vals = [u0, u1] := by
    have : vals.length = 2 := by simpa [mkS, deads] using hlen.symm
    match vals, this with
    | [a, b], _ => exact ⟨a, b, rfl⟩
  simp at hv0 hv1
  subst hv0; subst hv1
  have e0 := hA0.str_inv
  have e1 := hA1.str_inv
  subst e0; subst e1
  have hnone : ∀ i, ob i = [] := by
    intro i
    match i with
    | 0 => exact ho0
    | 1 => exact ho1
    | i + 2 => exact har.out _ (by simp [mkS, deads])
  have hmf : ∀ (fn : Fn) (first cap : Array Value) (w : World), (Instr.makeFunc fn first cap).run Tryd.prog w = .ok (.func fn first cap) w := fun _ _ _ _ => rfl
  obtain ⟨n, hn⟩ : ∃ n, n = w.heap.size := ⟨_, rfl⟩
  have hltS : ∀ b, S b ≠ none → b < n := fun b hb => by
    cases hs : S b with
    | none => exact absurd hs hb
    | some o => rw [hn]; exact hp_lt (hS b o hs)
  obtain ⟨W4, hW4⟩ : ∃ W4, W4 = (((w.alloc (.cells #[.string ⟨⟨key⟩⟩] 9)).alloc (.cells #[.string ⟨⟨s⟩⟩] 9)).alloc (.cells #[.string ⟨#[]⟩] 9)).alloc (.cells #[.int .i64 0] 23) := ⟨_, rfl⟩
  have hh : W4.heap = (((w.heap.push (.cells #[.string ⟨⟨key⟩⟩] 9 (0, 0))).push (.cells #[.string ⟨⟨s⟩⟩] 9 (0, 0))).push (.cells #[.string ⟨#[]⟩] 9 (0, 0))).push (.cells #[.int .i64 0] 23 (0, 0)) := by rw [hW4]; rfl
  have z4 : W4.heap.size = n + 4 := by rw [hh, hn]; simp only [Array.size_push]
  have k0 : W4.heap[n]? = some (.cells #[.string ⟨⟨key⟩⟩] 9 (0, 0)) := by rw [hh, hn]; simp only [Array.getElem?_push, Array.size_push]; rw [if_neg (by omega), if_neg (by omega), if_neg (by omega), if_pos trivial]
  have k1 : W4.heap[n + 1]? = some (.cells #[.string ⟨⟨s⟩⟩] 9 (0, 0)) := by rw [hh, hn]; simp only [Array.getElem?_push, Array.size_push]; rw [if_neg (by omega), if_neg (by omega), if_pos trivial]
  have k2 : W4.heap[n + 2]? = some (.cells #[.string ⟨#[]⟩] 9 (0, 0)) := by rw [hh, hn]; simp only [Array.getElem?_push, Array.size_push]; rw [if_neg (by omega), if_pos (by first | omega | trivial)]
  have k3 : W4.heap[n + 3]? = some (.cells #[.int .i64 0] 23 (0, 0)) := by rw [hh, hn]; simp only [Array.getElem?_push, Array.size_push]; rw [if_pos (by first | omega | trivial)]
  have kl : ∀ b, b < n → W4.heap[b]? = w.heap[b]? := fun b hb => by
    rw [hh]; simp only [Array.getElem?_push, Array.size_push]
    rw [if_neg (by omega), if_neg (by omega), if_neg (by omega), if_neg (by omega)]
  have hS4 : Sub S (hp W4) := fun b o hb => by
    have h1 := hS b o hb
    simp only [hp] at h1 ⊢
    rw [kl b (hltS b (by rw [hb]; simp))]; exact h1
  have t4 : W4.tape = w.tape ∧ W4.os = w.os ∧ W4.output = w.output := by rw [hW4]; exact ⟨rfl, rfl, rfl⟩
  have hck := box_Open_check (N := N) hS4 hg he
  have main : ∀ w5, Go.RowKit.Below W4.heap.size W4 w5 → (∃ S', Sub S S' ∧ Sub S' (hp w5) ∧ ∀ b, S' b ≠ none → S b ≠ none ∨ W4.heap.size ≤ b) →
      CallsD Tryd.prog 57 #[.pointer (some ⟨n + 3, 0, none⟩), .pointer (some ⟨n, 0, none⟩), .pointer (some ⟨n + 1, 0, none⟩), .pointer (some ⟨n + 2, 0, none⟩)] .returning
        ((w5.setCell ⟨n + 2, 0, none⟩ (.string ⟨#[]⟩)).setCell ⟨n + 3, 0, none⟩ (.int .i64 e)) fun r u w7 => (∃ v, r = .returned v) ∧ u = .returning ∧ w7.cell? ⟨n + 2, 0, none⟩ = some (.string ⟨⟨z.2.2.2.2.1⟩⟩) ∧ w7.cell? ⟨n + 3, 0, none⟩ = some (.int .i64 z.2.1) ∧
          Lift.Ends w S (mkS [(0, .v .str), (0, .v .str)] 0 (key, s, ())) [.string ⟨⟨key⟩⟩, .string ⟨⟨s⟩⟩] ob (oRes (.tup [.str, .int .i64]) 2 (z.2.2.2.2.1, z.2.1, ())).1 (oRes (.tup [.str, .int .i64]) 2 (z.2.2.2.2.1, z.2.1, ())).2 (.returned (.tuple #[.string ⟨⟨z.2.2.2.2.1⟩⟩, .int .i64 z.2.1])) w7 := by
    rintro w5 hbel ⟨S5, hS5, hS5w, hnew⟩
    have b0 := hbel.block n (by omega)
    have b1 := hbel.block (n + 1) (by omega)
    have b2 := hbel.block (n + 2) (by omega)
    have b3 := hbel.block (n + 3) (by omega)
    rw [k0] at b0; rw [k1] at b1; rw [k2] at b2; rw [k3] at b3
    have hz5 := hbel.size
    obtain ⟨w6, hw6⟩ : ∃ w6, w6 = (w5.setCell ⟨n + 2, 0, none⟩ (.string ⟨#[]⟩)).setCell ⟨n + 3, 0, none⟩ (.int .i64 e) := ⟨_, rfl⟩
    rw [← hw6]
    have e5 := setCell_eq (w := w5) (b := n + 2) (off := 0) (.string ⟨#[]⟩) b2
    have e6 := setCell_eq (w := w5.setCell ⟨n + 2, 0, none⟩ (.string ⟨#[]⟩)) (b := n + 3) (off := 0) (.int .i64 e) (by rw [e5, hp_setObj_ne (by omega)]; exact b3)
    rw [e6, e5] at hw6
    have m2 : hp w6 (n + 2) = some (.cells #[.string ⟨#[]⟩] 9 (0, 0)) := by rw [hw6, hp_setObj_ne (by omega)]; exact hp_setObj b2
    have m3 : hp w6 (n + 3) = some (.cells #[.int .i64 e] 23 (0, 0)) := by rw [hw6]; exact hp_setObj (o' := .cells #[.int .i64 0] 23 (0, 0)) (by rw [hp_setObj_ne (by omega)]; exact b3)
    have mo : ∀ b, b ≠ n + 2 → b ≠ n + 3 → hp w6 b = hp w5 b := fun b h1 h2 => by rw [hw6, hp_setObj_ne h2, hp_setObj_ne h1]
    have m0 : hp w6 n = some (.cells #[.string ⟨⟨key⟩⟩] 9 (0, 0)) := by rw [mo n (by omega) (by omega)]; exact b0
    have m1 : hp w6 (n + 1) = some (.cells #[.string ⟨⟨s⟩⟩] 9 (0, 0)) := by rw [mo (n + 1) (by omega) (by omega)]; exact b1
    have mz : w6.heap.size = w5.heap.size := by rw [hw6]; simp [setObj']
    have mt : w6.tape = w5.tape ∧ w6.os = w5.os ∧ w6.output = w5.output := by rw [hw6]; exact ⟨rfl, rfl, rfl⟩
    have hS5none : ∀ b, n ≤ b → b < n + 4 → S5 b = none := fun b h1 h2 => by
      cases hs : S5 b with
      | none => rfl
      | some o =>
        rcases hnew b (by rw [hs]; simp) with h | h
        · have := hltS b h; omega
        · omega
    have hS6 : Sub S5 (hp w6) := fun b o hb => by
      rw [mo b (fun h => by subst h; rw [hS5none (n + 2) (by omega) (by omega)] at hb; cases hb) (fun h => by subst h; rw [hS5none (n + 3) (by omega) (by omega)] at hb; cases hb)]
      exact hS5w b o hb
    have hc := box_Open1_ctd N w6 S5 (mkS [(0, .box (.int .i64)), (0, .box .str), (0, .box .str), (0, .box .str)] 0 (e, key, s, [], ())) [.pointer (some ⟨n + 3, 0, none⟩), .pointer (some ⟨n, 0, none⟩), .pointer (some ⟨n + 1, 0, none⟩), .pointer (some ⟨n + 2, 0, none⟩)]
      (fun i => match i with | 0 => [n + 3] | 1 => [n] | 2 => [n + 1] | 3 => [n + 2] | _ => []) ⟨rfl, fun i x hx => ?_, fun i hi => ?_, fun i j b hi hj => ?_, fun i => ?_, fun i b hb => ?_⟩ hS6 (hg.mono hS5) z (by show box_Open1 N e key s [] = some z; exact ho)
    · refine CallsD.mono hc ?_
      rintro r u w7 ⟨rfl, v, S7, o, ob7, rfl, hwf, hS57, hS7, hnew7, _, _, _, houts, _⟩
      obtain ⟨x3, v3, hx3, hv3, _, hA3⟩ := houts 3 _ rfl rfl
      obtain ⟨x0, v0, hx0, hv0', _, hA0'⟩ := houts 0 _ rfl rfl
      have hx3' : x3 = .box .str z.2.2.2.2.1 := (Option.some.inj hx3).symm
      have hx0' : x0 = .box (.int .i64) z.2.1 := (Option.some.inj hx0).symm
      have hv3' : v3 = .pointer (some ⟨n + 2, 0, none⟩) := (Option.some.inj hv3).symm
      have hv0'' : v0 = .pointer (some ⟨n + 3, 0, none⟩) := (Option.some.inj hv0').symm
      subst hx3'; subst hx0'; subst hv3'; subst hv0''
      obtain ⟨q3, E3, f3, g3, h3⟩ := box_Open_back rfl rfl hA3
      obtain ⟨q0, E0, f0, g0, h0⟩ := box_Open_back rfl rfl hA0'
      have h3' : q3 = .string ⟨⟨z.2.2.2.2.1⟩⟩ := by simpa [Rd] using h3
      have h0' : q0 = .int .i64 z.2.1 := by simpa [Rd] using h0
      subst h3'; subst h0'
      refine ⟨⟨v, rfl⟩, rfl, by simp only [hp] at g3; simp [World.cell?, g3], by simp only [hp] at g0; simp [World.cell?, g0], _, S7, [], ob, rfl, ⟨?_, fun b hb _ => ?_, ?_, ?_, ?_⟩, hS5.trans hS57, hS7, fun b hb => ?_, ⟨⟨rfl, _, rfl, .cons VR.str (.cons VR.int .nil)⟩, rfl⟩, (fun k hk => by cases hk), .nil, ?_, ?_, har.inj, har.nd, fun i hi => hi⟩
      · have := hwf.size; omega
      · have h1 := hwf.same b (by omega) (by
          rintro ⟨i, hi⟩
          match i with
          | 0 => simp at hi; omega
          | 1 => simp at hi; omega
          | 2 => simp at hi; omega
          | 3 => simp at hi; omega
          | i + 4 => simp at hi)
        have h2 := mo b (by omega) (by omega)
        simp only [hp] at h2
        rw [h1, h2, hbel.block b (by omega), kl b (by omega)]
      · rw [hwf.tape, mt.1, hbel.tape, t4.1]
      · rw [hwf.os, mt.2.1, hbel.os, t4.2.1]
      · rw [hwf.output, mt.2.2, hbel.output, t4.2.2]
      · rcases hnew7 b hb with h | ⟨i, hi⟩ | h
        · rcases hnew b h with h | h
          · exact .inl h
          · exact .inr (.inr (by omega))
        · refine .inr (.inr ?_)
          match i with
          | 0 => simp at hi; omega
          | 1 => simp at hi; omega
          | 2 => simp at hi; omega
          | 3 => simp at hi; omega
          | i + 4 => simp at hi
        · exact .inr (.inr (by omega))
      · intro i x hx hbx
        match i with
        | 0 => simp [mkS, deads, AS.mk] at hx; subst hx; cases hbx
        | 1 => simp [mkS, deads, AS.mk] at hx; subst hx; cases hbx
        | i + 2 => simp [mkS, deads] at hx
      · intro i k hk
        rw [hnone i] at hk; cases hk
    · match i with
      | 0 => simp [mkS, deads, AS.mk] at hx; subst hx; exact ⟨⟨_, rfl, box_Open_box rfl m3 rfl⟩, rfl⟩
      | 1 => simp [mkS, deads, AS.mk] at hx; subst hx; exact ⟨⟨_, rfl, box_Open_box rfl m0 rfl⟩, rfl⟩
      | 2 => simp [mkS, deads, AS.mk] at hx; subst hx; exact ⟨⟨_, rfl, box_Open_box rfl m1 rfl⟩, rfl⟩
      | 3 => simp [mkS, deads, AS.mk] at hx; subst hx; exact ⟨⟨_, rfl, box_Open_box rfl m2 rfl⟩, rfl⟩
      | i + 4 => simp [mkS, deads] at hx
    · match i with
      | 0 => simp [mkS, deads] at hi
      | 1 => simp [mkS, deads] at hi
      | 2 => simp [mkS, deads] at hi
      | 3 => simp [mkS, deads] at hi
      | i + 4 => rfl
    · match i, j with
      | 0, 0 => rfl
      | 1, 1 => rfl
      | 2, 2 => rfl
      | 3, 3 => rfl
      | i + 4, _ => cases hi
      | 0, 1 => simp at hi hj; omega
      | 0, 2 => simp at hi hj; omega
      | 0, 3 => simp at hi hj; omega
      | 1, 0 => simp at hi hj; omega
      | 1, 2 => simp at hi hj; omega
      | 1, 3 => simp at hi hj; omega
      | 2, 0 => simp at hi hj; omega
      | 2, 1 => simp at hi hj; omega
      | 2, 3 => simp at hi hj; omega
      | 3, 0 => simp at hi hj; omega
      | 3, 1 => simp at hi hj; omega
      | 3, 2 => simp at hi hj; omega
      | 0, j + 4 => cases hj
      | 1, j + 4 => cases hj
      | 2, j + 4 => cases hj
      | 3, j + 4 => cases hj
    · match i with
      | 0 => simp
      | 1 => simp
      | 2 => simp
      | 3 => simp
      | i + 4 => exact .nil
    · match i with
      | 0 => simp at hb; subst hb; exact hS5none _ (by omega) (by omega)
      | 1 => simp at hb; subst hb; exact hS5none _ (by omega) (by omega)
      | 2 => simp at hb; subst hb; exact hS5none _ (by omega) (by omega)
      | 3 => simp at hb; subst hb; exact hS5none _ (by omega) (by omega)
      | i + 4 => cases hb
  have cells : ∀ w5, Go.RowKit.Below W4.heap.size W4 w5 → w5.cell? ⟨n + 2, 0, none⟩ = some (.string ⟨#[]⟩) ∧ w5.frozen? ⟨n + 2, 0, none⟩ = false ∧ w5.cell? ⟨n + 3, 0, none⟩ = some (.int .i64 0) ∧ w5.frozen? ⟨n + 3, 0, none⟩ = false := by
    intro w5 hbel
    have b2 := hbel.block (n + 2) (by omega)
    have b3 := hbel.block (n + 3) (by omega)
    rw [k2] at b2; rw [k3] at b3
    exact ⟨by simp [World.cell?, b2], by simp [World.frozen?, b2], by simp [World.cell?, b3], by simp [World.frozen?, b3]⟩
  clear k0 k1 k2 k3 kl z4 t4 hS4 hlen har hnone ho he hA0 hA1
  subst hW4; subst hn
  go_enter_defers Tryd.func17, Tryd.ntmps17
  go_wp2_with (go_at_call 58; refine hck.mono ?_; rintro r w5 ⟨rfl, hbel, hS5⟩; obtain ⟨d2, d2', d3, d3'⟩ := cells w5 hbel; have HM := Go.Lib.hid (main w5 hbel hS5); clear hck cells main hbel hS5)
  refine leaves_cons (f := 57) (args := #[.pointer (some ⟨w.heap.size + 1 + 1 + 1, 0, none⟩), .pointer (some ⟨w.heap.size, 0, none⟩), .pointer (some ⟨w.heap.size + 1, 0, none⟩), .pointer (some ⟨w.heap.size + 1 + 1, 0, none⟩)]) (by simp) (by simp [go_sem]) ?_
  refine (HM.out).mono ?_
  rintro r u w7 ⟨⟨v, rfl⟩, rfl, c2, c3, hend⟩
  refine ⟨_, ?_, hend⟩
  simp [results, Tryd.results17, go_sem, c2, c3]

abbrev porterlaw06_works_R : Type := Bool

noncomputable def porterlaw06_works_body : Code := (Go.Proofs.Tryd.f14.body).getD .skip

noncomputable def porterlaw06_works_L : List (List Nat × List Nat) := [([0], []), ([0, 1], [1, 2]), ([0, 1, 1], [1, 2, 3, 4]), ([0, 1, 1, 1], [2, 1, 3, 4, 6]), ([0, 1, 1, 1, 1], [2, 1, 3, 4, 6, 8]), ([0, 1, 1, 1, 1, 1], [0]), ([1, 1, 1, 1, 1, 1], [0])]

noncomputable def porterlaw06_works_E (N : Nat) : Env := mkEnv tys glob [(17, box_Open_res N), (19, box_Nonce_res N), (15, box_Seal_res N)] [] [] [] false [] [(98, stream_blocks1_itr N), (106, hmac_framed1_itr N)]

theorem porterlaw06_works_Eok (N : Nat) : EnvOk Go.Proofs.Tryd.prog (porterlaw06_works_E N) := mkEnv_ok mixed tys_ok (FnsOk.cons (box_Open_ct N) (FnsOk.cons (box_Nonce_ct N) (FnsOk.cons (box_Seal_ct N) (FnsOk.nil)))) (ItsOk.cons (stream_blocks1_it N) (ItsOk.cons (hmac_framed1_it N) (ItsOk.nil)))

noncomputable def porterlaw06_works (N : Nat) : Option Bool :=
  (box_Seal N ([(107 : UInt8)] : List UInt8) ([(48 : UInt8), (49 : UInt8), (50 : UInt8), (51 : UInt8), (52 : UInt8), (53 : UInt8), (54 : UInt8), (55 : UInt8), (56 : UInt8), (57 : UInt8), (97 : UInt8), (98 : UInt8), (99 : UInt8), (100 : UInt8), (101 : UInt8), (102 : UInt8)] : List UInt8) ([(116 : UInt8), (101 : UInt8), (120 : UInt8), (116 : UInt8)] : List UInt8)).bind fun y =>
  (box_Open N ([(107 : UInt8)] : List UInt8) y.1).bind fun y1 =>
  (box_Open N ([(106 : UInt8)] : List UInt8) y.1).bind fun y2 =>
  cond (y.2.1 == (0 : Int))
  (cond ((((List.length y.1) : Nat) : Int) == (52 : Int))
    (cond (y1.1 == ([(116 : UInt8), (101 : UInt8), (120 : UInt8), (116 : UInt8)] : List UInt8))
      (cond (y1.2.1 == (0 : Int))
        (cond (y2.2.1 == (8 : Int))
          ((box_Nonce N y.1).bind fun y3 =>
            some (y3 == ([(48 : UInt8), (49 : UInt8), (50 : UInt8), (51 : UInt8), (52 : UInt8), (53 : UInt8), (54 : UInt8), (55 : UInt8), (56 : UInt8), (57 : UInt8), (97 : UInt8), (98 : UInt8), (99 : UInt8), (100 : UInt8), (101 : UInt8), (102 : UInt8)] : List UInt8)))
          (some false))
        (some false))
      (some false))
    (some false))
  (some false)

noncomputable def porterlaw06_works_t (N : Nat) : Tab Bool := []

theorem porterlaw06_works_link (N : Nat) (x : denS []) : evFX (porterlaw06_works_E N) N (porterlaw06_works_t N) porterlaw06_works_L Go.Proofs.Tryd.f14 (mkS [] 0 x) (kRes (.v .bool) 0) = porterlaw06_works N := by kernel_rfl

noncomputable def porterlaw06_works_res (N : Nat) : List A → Res := resOf [] (fun x => porterlaw06_works N) (oRes (.v .bool) 0)

theorem porterlaw06_works_ct (N : Nat) : Contract Go.Proofs.Tryd.prog glob 14 (porterlaw06_works_res N) :=
  Contract.of (E := porterlaw06_works_E N) (H := porterlaw06_works_t N) (L := porterlaw06_works_L) (N := N) (body := porterlaw06_works_body) (K := (kRes (.v .bool) 0)) (porterlaw06_works_Eok N) Go.Proofs.Tryd.func14 (by kernel_rfl) (by decide) (fun _ hb => TabOk.nil) (fun x y h => by rw [porterlaw06_works_link]; exact h) (kRes_ok (s := (.v .bool)) (m := 0))

abbrev porterref02_Byte_R : Type := (List UInt8)

noncomputable def porterref02_Byte_body : Code := (Go.Proofs.Tryd.f92.body).getD .skip

noncomputable def porterref02_Byte_L : List (List Nat × List Nat) := [([0], [0]), ([0, 1], [3]), ([0, 1, 1], [2]), ([1, 1, 1], [2])]

noncomputable def porterref02_Byte_E (N : Nat) : Env := mkEnv tys glob [] [] [] [] false [] [(98, stream_blocks1_itr N), (106, hmac_framed1_itr N)]

theorem porterref02_Byte_Eok (N : Nat) : EnvOk Go.Proofs.Tryd.prog (porterref02_Byte_E N) := mkEnv_ok mixed tys_ok (FnsOk.nil) (ItsOk.cons (stream_blocks1_it N) (ItsOk.cons (hmac_framed1_it N) (ItsOk.nil)))

noncomputable def porterref02_Byte (N : Nat) (n : Int) : Option (List UInt8) :=
  some (Go.Lift.toStr ([(Go.IntKind.wrap Go.IntKind.u8 n)] : List Int))

noncomputable def porterref02_Byte_t (N : Nat) : Tab (List UInt8) := []

theorem porterref02_Byte_link (N : Nat) (x : denS [(0, .v (.int .i64))]) : evFX (porterref02_Byte_E N) N (porterref02_Byte_t N) porterref02_Byte_L Go.Proofs.Tryd.f92 (mkS [(0, .v (.int .i64))] 0 x) (kRes (.v .str) 1) = porterref02_Byte N x.1 := by kernel_rfl

noncomputable def porterref02_Byte_res (N : Nat) : List A → Res := resOf [(0, .v (.int .i64))] (fun x => porterref02_Byte N x.1) (oRes (.v .str) 1)

theorem porterref02_Byte_ct (N : Nat) : Contract Go.Proofs.Tryd.prog glob 92 (porterref02_Byte_res N) :=
  Contract.of (E := porterref02_Byte_E N) (H := porterref02_Byte_t N) (L := porterref02_Byte_L) (N := N) (body := porterref02_Byte_body) (K := (kRes (.v .str) 1)) (porterref02_Byte_Eok N) Go.Proofs.Tryd.func92 (by kernel_rfl) (by decide) (fun _ hb => TabOk.nil) (fun x y h => by rw [porterref02_Byte_link]; exact h) (kRes_ok (s := (.v .str)) (m := 1))

abbrev porterref04_long_R : Type := (List UInt8)

noncomputable def porterref04_long_body : Code := (Go.Proofs.Tryd.f82.body).getD .skip

noncomputable def porterref04_long_L : List (List Nat × List Nat) := [([0], [0]), ([0, 1], [0, 3]), ([0, 0, 1, 1], [4, 0, 3]), ([0, 1, 0, 1, 1], [4, 0, 3]), ([0, 0, 0, 0, 1, 0, 1, 1], [6, 0, 3, 4]), ([1, 0, 0, 0, 1, 0, 1, 1], [0, 3, 4]), ([1, 1, 0, 0, 0, 1, 0, 1, 1], [3]), ([0, 0, 0, 1, 0, 0, 1, 0, 1, 1], [0, 4, 3]), ([1, 0, 0, 1, 0, 0, 1, 0, 1, 1], [4, 0, 3]), ([0, 1, 0, 0, 1, 0, 1, 1], [4, 0, 3]), ([1, 1, 0, 0, 1, 0, 1, 1], [4, 0, 3]), ([1, 0, 1, 1], [3]), ([0, 1, 1, 1], [2]), ([1, 1, 1, 1], [2])]

noncomputable def porterref04_long_E (N : Nat) : Env := mkEnv tys glob [(92, porterref02_Byte_res N)] [] [] [] false [] [(98, stream_blocks1_itr N), (106, hmac_framed1_itr N)]

theorem porterref04_long_Eok (N : Nat) : EnvOk Go.Proofs.Tryd.prog (porterref04_long_E N) := mkEnv_ok mixed tys_ok (FnsOk.cons (porterref02_Byte_ct N) (FnsOk.nil)) (ItsOk.cons (stream_blocks1_it N) (ItsOk.cons (hmac_framed1_it N) (ItsOk.nil)))

noncomputable def porterref04_long_s1 (N : Nat) (n : Int) (out : (List UInt8)) (i : Int) (rec : Int → (List UInt8) → Int → Option (List UInt8)) (k0 : (List UInt8) → Option (List UInt8)) : Option (List UInt8) :=
  cond (decide (i < (8 : Int)))
  (cond (decide (((List.length (Go.Lift.toStr ([(Go.IntKind.wrap Go.IntKind.u8 (Int.tmod n (256 : Int)))] : List Int))) + (List.length out)) ≤ 9223372036854775807))
    (rec (Go.IntKind.wrap Go.IntKind.i64 (Int.tdiv n (256 : Int))) ((Go.Lift.toStr ([(Go.IntKind.wrap Go.IntKind.u8 (Int.tmod n (256 : Int)))] : List Int)) ++ out) (Go.IntKind.wrap Go.IntKind.i64 (i + (1 : Int))))
    (none))
  (k0 out)

noncomputable def porterref04_long_p1 (N : Nat) (n : Int) (out : (List UInt8)) (i : Int) (k0 : (List UInt8) → Option (List UInt8)) : Option (List UInt8) :=
  iter (fun (v : (Int × (List UInt8) × Int)) r => porterref04_long_s1 N v.1 v.2.1 v.2.2 (fun n out i => (r (n, out, i))) k0) N (n, out, i)

noncomputable def porterref04_long_g1 (N : Nat) (i : Unit) (v : (Int × (List UInt8) × Int)) (r : (Int × (List UInt8) × Int) → Option (List UInt8)) (K : Ex → List A → Option (List UInt8)) : Option (List UInt8) :=
  porterref04_long_s1 N v.1 v.2.1 v.2.2 (fun n out i => (r (n, out, i))) (fun a0 => (K (.exit 0) (mkS [(3, .v .str)] 13 (a0, ()))))

noncomputable def porterref04_long_h1 (N : Nat) : Hd (List UInt8) := fun st K => (unS [(0, .v (.int .i64)), (2, .v .str), (0, .v (.int .i64))] 12 (restr [4, 0, 3] 0 st)).bind fun x => iter (fun v r => porterref04_long_g1 N ((fun x => ()) x) v r K) N ((fun x => (x.1, x.2.1, x.2.2.1)) x)

noncomputable def porterref04_long_t1 (N : Nat) : Tab (List UInt8) := []

theorem porterref04_long_ok1 {N : Nat} {c : Ctx} (hb : Base Go.Proofs.Tryd.prog (porterref04_long_E N) c) : CodeOk Go.Proofs.Tryd.prog c (nodeAt porterref04_long_body [0, 1, 0, 1, 1]) (porterref04_long_h1 N) :=
  loop_ok (s := [(0, .v (.int .i64)), (2, .v .str), (0, .v (.int .i64))]) (m := 12) (porterref04_long_g1 N) [4, 0, 3] N (fun x => ()) (fun x => (x.1, x.2.1, x.2.2.1)) (fun i v => (v.1, v.2.1, v.2.2, ())) (fun _ => rfl) (evN_sound hb N (porterref04_long_t1 N) porterref04_long_L porterref04_long_body TabOk.nil [0, 0, 1, 0, 1, 1] _ rfl) (fun i v r K => by kernel_rfl)

noncomputable def porterref04_long (N : Nat) (n : Int) : Option (List UInt8) :=
  porterref04_long_p1 N n ([] : List UInt8) (0 : Int)
  (fun out => some out)

noncomputable def porterref04_long_t (N : Nat) : Tab (List UInt8) := [([0, 1, 0, 1, 1], porterref04_long_h1 N)]

theorem porterref04_long_link (N : Nat) (x : denS [(0, .v (.int .i64))]) : evFX (porterref04_long_E N) N (porterref04_long_t N) porterref04_long_L Go.Proofs.Tryd.f82 (mkS [(0, .v (.int .i64))] 0 x) (kRes (.v .str) 1) = porterref04_long N x.1 := by kernel_rfl

noncomputable def porterref04_long_res (N : Nat) : List A → Res := resOf [(0, .v (.int .i64))] (fun x => porterref04_long N x.1) (oRes (.v .str) 1)

theorem porterref04_long_ct (N : Nat) : Contract Go.Proofs.Tryd.prog glob 82 (porterref04_long_res N) :=
  Contract.of (E := porterref04_long_E N) (H := porterref04_long_t N) (L := porterref04_long_L) (N := N) (body := porterref04_long_body) (K := (kRes (.v .str) 1)) (porterref04_long_Eok N) Go.Proofs.Tryd.func82 (by kernel_rfl) (by decide) (fun _ hb => (TabOk.cons (porterref04_long_ok1 hb) TabOk.nil)) (fun x y h => by rw [porterref04_long_link]; exact h) (kRes_ok (s := (.v .str)) (m := 1))

abbrev porterref04_Frame_R : Type := (List UInt8)

noncomputable def porterref04_Frame_body : Code := (Go.Proofs.Tryd.f61.body).getD .skip

noncomputable def porterref04_Frame_L : List (List Nat × List Nat) := [([0], [0]), ([0, 1], [0, 3]), ([0, 0, 1, 1], [4, 0, 3]), ([0, 1, 0, 1, 1], [4, 0, 3]), ([0, 0, 0, 0, 1, 0, 1, 1], [8, 3, 0, 4]), ([1, 0, 0, 0, 1, 0, 1, 1], [3, 0, 4]), ([1, 1, 0, 0, 0, 1, 0, 1, 1], [3]), ([0, 0, 1, 0, 0, 1, 0, 1, 1], [4, 0, 3]), ([0, 1, 0, 0, 1, 0, 1, 1], [4, 0, 3]), ([1, 1, 0, 0, 1, 0, 1, 1], [4, 0, 3]), ([1, 0, 1, 1], [3]), ([0, 1, 1, 1], [2]), ([1, 1, 1, 1], [2])]

noncomputable def porterref04_Frame_E (N : Nat) : Env := mkEnv tys glob [(82, porterref04_long_res N)] [] [] [] false [] [(98, stream_blocks1_itr N), (106, hmac_framed1_itr N)]

theorem porterref04_Frame_Eok (N : Nat) : EnvOk Go.Proofs.Tryd.prog (porterref04_Frame_E N) := mkEnv_ok mixed tys_ok (FnsOk.cons (porterref04_long_ct N) (FnsOk.nil)) (ItsOk.cons (stream_blocks1_it N) (ItsOk.cons (hmac_framed1_it N) (ItsOk.nil)))

noncomputable def porterref04_Frame_s1 (N : Nat) (l : (List (List UInt8))) (out : (List UInt8)) (i : Int) (rec : (List UInt8) → Int → Option (List UInt8)) (k0 : (List UInt8) → Option (List UInt8)) : Option (List UInt8) :=
  cond (decide (i < (((List.length l) : Nat) : Int)))
  (cond (Go.Lift.inR i (List.length l))
    ((porterref04_long N (((List.length (List.getD l (Int.toNat i) ([] : List UInt8))) : Nat) : Int)).bind fun y =>
      cond (decide (((List.length out) + (List.length y)) ≤ 9223372036854775807))
      (cond (Go.Lift.inR i (List.length l))
        (cond (decide (((List.length (out ++ y)) + (List.length (List.getD l (Int.toNat i) ([] : List UInt8)))) ≤ 9223372036854775807))
          (rec ((out ++ y) ++ (List.getD l (Int.toNat i) ([] : List UInt8))) (Go.IntKind.wrap Go.IntKind.i64 (i + (1 : Int))))
          (none))
        (none))
      (none))
    (none))
  (k0 out)

noncomputable def porterref04_Frame_p1 (N : Nat) (l : (List (List UInt8))) (out : (List UInt8)) (i : Int) (k0 : (List UInt8) → Option (List UInt8)) : Option (List UInt8) :=
  iter (fun (v : ((List UInt8) × Int)) r => porterref04_Frame_s1 N l v.1 v.2 (fun out i => (r (out, i))) k0) N (out, i)

noncomputable def porterref04_Frame_g1 (N : Nat) (i : (List (List UInt8))) (v : ((List UInt8) × Int)) (r : ((List UInt8) × Int) → Option (List UInt8)) (K : Ex → List A → Option (List UInt8)) : Option (List UInt8) :=
  porterref04_Frame_s1 N i v.1 v.2 (fun out i => (r (out, i))) (fun a0 => (K (.exit 0) (mkS [(3, .v .str)] 21 (a0, ()))))

noncomputable def porterref04_Frame_h1 (N : Nat) : Hd (List UInt8) := fun st K => (unS [(0, .v (.sl .str)), (2, .v .str), (0, .v (.int .i64))] 20 (restr [4, 0, 3] 0 st)).bind fun x => iter (fun v r => porterref04_Frame_g1 N ((fun x => x.1) x) v r K) N ((fun x => (x.2.1, x.2.2.1)) x)

noncomputable def porterref04_Frame_t1 (N : Nat) : Tab (List UInt8) := []

theorem porterref04_Frame_ok1 {N : Nat} {c : Ctx} (hb : Base Go.Proofs.Tryd.prog (porterref04_Frame_E N) c) : CodeOk Go.Proofs.Tryd.prog c (nodeAt porterref04_Frame_body [0, 1, 0, 1, 1]) (porterref04_Frame_h1 N) :=
  loop_ok (s := [(0, .v (.sl .str)), (2, .v .str), (0, .v (.int .i64))]) (m := 20) (porterref04_Frame_g1 N) [4, 0, 3] N (fun x => x.1) (fun x => (x.2.1, x.2.2.1)) (fun i v => (i, v.1, v.2, ())) (fun _ => rfl) (evN_sound hb N (porterref04_Frame_t1 N) porterref04_Frame_L porterref04_Frame_body TabOk.nil [0, 0, 1, 0, 1, 1] _ rfl) (fun i v r K => by kernel_rfl)

noncomputable def porterref04_Frame (N : Nat) (l : (List (List UInt8))) : Option (List UInt8) :=
  porterref04_Frame_p1 N l ([] : List UInt8) (0 : Int)
  (fun out => some out)

noncomputable def porterref04_Frame_t (N : Nat) : Tab (List UInt8) := [([0, 1, 0, 1, 1], porterref04_Frame_h1 N)]

theorem porterref04_Frame_link (N : Nat) (x : denS [(0, .v (.sl .str))]) : evFX (porterref04_Frame_E N) N (porterref04_Frame_t N) porterref04_Frame_L Go.Proofs.Tryd.f61 (mkS [(0, .v (.sl .str))] 0 x) (kRes (.v .str) 1) = porterref04_Frame N x.1 := by kernel_rfl

noncomputable def porterref04_Frame_res (N : Nat) : List A → Res := resOf [(0, .v (.sl .str))] (fun x => porterref04_Frame N x.1) (oRes (.v .str) 1)

theorem porterref04_Frame_ct (N : Nat) : Contract Go.Proofs.Tryd.prog glob 61 (porterref04_Frame_res N) :=
  Contract.of (E := porterref04_Frame_E N) (H := porterref04_Frame_t N) (L := porterref04_Frame_L) (N := N) (body := porterref04_Frame_body) (K := (kRes (.v .str) 1)) (porterref04_Frame_Eok N) Go.Proofs.Tryd.func61 (by kernel_rfl) (by decide) (fun _ hb => (TabOk.cons (porterref04_Frame_ok1 hb) TabOk.nil)) (fun x y h => by rw [porterref04_Frame_link]; exact h) (kRes_ok (s := (.v .str)) (m := 1))

abbrev porterref03_Pad_R : Type := (List UInt8)

noncomputable def porterref03_Pad_body : Code := (Go.Proofs.Tryd.f75.body).getD .skip

noncomputable def porterref03_Pad_L : List (List Nat × List Nat) := [([0], [0]), ([0, 1], [3, 0]), ([0, 1, 1], [3, 0]), ([0, 0, 1, 1, 1], [3, 0]), ([0, 0, 0, 0, 0, 1, 1, 1], [14, 3, 0]), ([1, 0, 0, 0, 0, 1, 1, 1], [3, 0]), ([1, 1, 0, 0, 0, 0, 1, 1, 1], [0, 3]), ([0, 1, 0, 0, 0, 1, 1, 1], [3, 0]), ([1, 0, 0, 0, 1, 1, 1], [3, 0]), ([0, 1, 1, 1], [0, 3]), ([0, 1, 1, 1, 1], [3, 4]), ([0, 0, 1, 1, 1, 1, 1], [5, 3, 4]), ([0, 1, 0, 1, 1, 1, 1, 1], [5, 3, 4]), ([0, 0, 0, 0, 1, 0, 1, 1, 1, 1, 1], [23, 3, 4, 5]), ([1, 0, 0, 0, 1, 0, 1, 1, 1, 1, 1], [3, 4, 5]), ([1, 1, 0, 0, 0, 1, 0, 1, 1, 1, 1, 1], [3]), ([0, 0, 1, 0, 0, 1, 0, 1, 1, 1, 1, 1], [5, 3, 4]), ([0, 1, 0, 0, 1, 0, 1, 1, 1, 1, 1], [5, 3, 4]), ([1, 1, 0, 0, 1, 0, 1, 1, 1, 1, 1], [5, 3, 4]), ([1, 0, 1, 1, 1, 1, 1], [3]), ([0, 1, 1, 1, 1, 1, 1], [2]), ([1, 1, 1, 1, 1, 1, 1], [2])]

noncomputable def porterref03_Pad_E (N : Nat) : Env := mkEnv tys glob [] [(3, (.int .u8))] [] [] false [] [(98, stream_blocks1_itr N), (106, hmac_framed1_itr N)]

theorem porterref03_Pad_Eok (N : Nat) : EnvOk Go.Proofs.Tryd.prog (porterref03_Pad_E N) := mkEnv_ok mixed tys_ok (FnsOk.nil) (ItsOk.cons (stream_blocks1_it N) (ItsOk.cons (hmac_framed1_it N) (ItsOk.nil)))

noncomputable def porterref03_Pad_s1 (N : Nat) (s : (List UInt8)) (b : (List Int)) (rec : (List Int) → Option (List UInt8)) (k0 : (List Int) → Option (List UInt8)) : Option (List UInt8) :=
  cond ((Int.tmod (((List.length b) : Nat) : Int) (64 : Int)) != (56 : Int))
  (cond (decide ((((List.length b) + 1) * 1) ≤ 70368744177664))
    (rec (b ++ ([(0 : Int)] : List Int)))
    (none))
  (k0 b)

noncomputable def porterref03_Pad_p1 (N : Nat) (s : (List UInt8)) (b : (List Int)) (k0 : (List Int) → Option (List UInt8)) : Option (List UInt8) :=
  iter (fun (v : (List Int)) r => porterref03_Pad_s1 N s v (fun b => (r b)) k0) N b

noncomputable def porterref03_Pad_g1 (N : Nat) (i : (List UInt8)) (v : (List Int)) (r : (List Int) → Option (List UInt8)) (K : Ex → List A → Option (List UInt8)) : Option (List UInt8) :=
  porterref03_Pad_s1 N i v (fun b => (r b)) (fun a1 => (K (.exit 0) (mkS [(0, .v .str), (2, .row (.int .u8))] 33 (i, a1, ()))))

noncomputable def porterref03_Pad_h1 (N : Nat) : Hd (List UInt8) := fun st K => (unS [(0, .v .str), (2, .row (.int .u8))] 33 (restr [3, 0] 0 st)).bind fun x => iter (fun v r => porterref03_Pad_g1 N ((fun x => x.1) x) v r K) N ((fun x => x.2.1) x)

noncomputable def porterref03_Pad_t1 (N : Nat) : Tab (List UInt8) := []

theorem porterref03_Pad_ok1 {N : Nat} {c : Ctx} (hb : Base Go.Proofs.Tryd.prog (porterref03_Pad_E N) c) : CodeOk Go.Proofs.Tryd.prog c (nodeAt porterref03_Pad_body [0, 0, 1, 1, 1]) (porterref03_Pad_h1 N) :=
  loop_ok (s := [(0, .v .str), (2, .row (.int .u8))]) (m := 33) (porterref03_Pad_g1 N) [3, 0] N (fun x => x.1) (fun x => x.2.1) (fun i v => (i, v, ())) (fun _ => rfl) (evN_sound hb N (porterref03_Pad_t1 N) porterref03_Pad_L porterref03_Pad_body TabOk.nil [0, 0, 0, 1, 1, 1] _ rfl) (fun i v r K => by kernel_rfl)

noncomputable def porterref03_Pad_s2 (N : Nat) (n : Int) (b : (List Int)) (i : Int) (rec : (List Int) → Int → Option (List UInt8)) (k0 : (List Int) → Option (List UInt8)) : Option (List UInt8) :=
  cond (decide ((0 : Int) ≤ i))
  (cond (decide ((0 : Int) ≤ (Go.IntKind.wrap Go.IntKind.u64 (Go.IntKind.wrap Go.IntKind.i64 ((8 : Int) * i)))))
    (cond (decide ((((List.length b) + 1) * 1) ≤ 70368744177664))
      (rec (b ++ ([(Go.IntKind.wrap Go.IntKind.u8 (Go.Lift.shrI Go.IntKind.u64 n (Go.IntKind.wrap Go.IntKind.u64 (Go.IntKind.wrap Go.IntKind.i64 ((8 : Int) * i)))))] : List Int)) (Go.IntKind.wrap Go.IntKind.i64 (i - (1 : Int))))
      (none))
    (none))
  (k0 b)

noncomputable def porterref03_Pad_p2 (N : Nat) (b : (List Int)) (n : Int) (i : Int) (k0 : (List Int) → Option (List UInt8)) : Option (List UInt8) :=
  iter (fun (v : ((List Int) × Int)) r => porterref03_Pad_s2 N n v.1 v.2 (fun b i => (r (b, i))) k0) N (b, i)

noncomputable def porterref03_Pad_g2 (N : Nat) (i : Int) (v : ((List Int) × Int)) (r : ((List Int) × Int) → Option (List UInt8)) (K : Ex → List A → Option (List UInt8)) : Option (List UInt8) :=
  porterref03_Pad_s2 N i v.1 v.2 (fun b i => (r (b, i))) (fun a0 => (K (.exit 2) (mkS [(3, .row (.int .u8))] 33 (a0, ()))))

noncomputable def porterref03_Pad_h2 (N : Nat) : Hd (List UInt8) := fun st K => (unS [(3, .row (.int .u8)), (0, .v (.int .u64)), (0, .v (.int .i64))] 31 (restr [5, 3, 4] 0 st)).bind fun x => iter (fun v r => porterref03_Pad_g2 N ((fun x => x.2.1) x) v r K) N ((fun x => (x.1, x.2.2.1)) x)

noncomputable def porterref03_Pad_t2 (N : Nat) : Tab (List UInt8) := []

theorem porterref03_Pad_ok2 {N : Nat} {c : Ctx} (hb : Base Go.Proofs.Tryd.prog (porterref03_Pad_E N) c) : CodeOk Go.Proofs.Tryd.prog c (nodeAt porterref03_Pad_body [0, 1, 0, 1, 1, 1, 1, 1]) (porterref03_Pad_h2 N) :=
  loop_ok (s := [(3, .row (.int .u8)), (0, .v (.int .u64)), (0, .v (.int .i64))]) (m := 31) (porterref03_Pad_g2 N) [5, 3, 4] N (fun x => x.2.1) (fun x => (x.1, x.2.2.1)) (fun i v => (v.1, i, v.2, ())) (fun _ => rfl) (evN_sound hb N (porterref03_Pad_t2 N) porterref03_Pad_L porterref03_Pad_body TabOk.nil [0, 0, 1, 0, 1, 1, 1, 1, 1] _ rfl) (fun i v r K => by kernel_rfl)

noncomputable def porterref03_Pad (N : Nat) (s : (List UInt8)) : Option (List UInt8) :=
  cond (decide ((((List.length (Go.Lift.ofStr s)) + 1) * 1) ≤ 70368744177664))
  (porterref03_Pad_p1 N s ((Go.Lift.ofStr s) ++ ([(128 : Int)] : List Int))
    (fun b => porterref03_Pad_p2 N b (Go.IntKind.wrap Go.IntKind.u64 ((8 : Int) * (Go.IntKind.wrap Go.IntKind.u64 (((List.length s) : Nat) : Int)))) (7 : Int)
      (fun b1 => some (Go.Lift.toStr b1))))
  (none)

noncomputable def porterref03_Pad_t (N : Nat) : Tab (List UInt8) := [([0, 0, 1, 1, 1], porterref03_Pad_h1 N), ([0, 1, 0, 1, 1, 1, 1, 1], porterref03_Pad_h2 N)]

theorem porterref03_Pad_link (N : Nat) (x : denS [(0, .v .str)]) : evFX (porterref03_Pad_E N) N (porterref03_Pad_t N) porterref03_Pad_L Go.Proofs.Tryd.f75 (mkS [(0, .v .str)] 0 x) (kRes (.v .str) 1) = porterref03_Pad N x.1 := by kernel_rfl

noncomputable def porterref03_Pad_res (N : Nat) : List A → Res := resOf [(0, .v .str)] (fun x => porterref03_Pad N x.1) (oRes (.v .str) 1)

theorem porterref03_Pad_ct (N : Nat) : Contract Go.Proofs.Tryd.prog glob 75 (porterref03_Pad_res N) :=
  Contract.of (E := porterref03_Pad_E N) (H := porterref03_Pad_t N) (L := porterref03_Pad_L) (N := N) (body := porterref03_Pad_body) (K := (kRes (.v .str) 1)) (porterref03_Pad_Eok N) Go.Proofs.Tryd.func75 (by kernel_rfl) (by decide) (fun _ hb => (TabOk.cons (porterref03_Pad_ok1 hb) (TabOk.cons (porterref03_Pad_ok2 hb) TabOk.nil))) (fun x y h => by rw [porterref03_Pad_link]; exact h) (kRes_ok (s := (.v .str)) (m := 1))

abbrev porterref03_table_R : Type := (List Int)

noncomputable def porterref03_table_body : Code := (Go.Proofs.Tryd.f76.body).getD .skip

noncomputable def porterref03_table_L : List (List Nat × List Nat) := [([0], []), ([0, 1], [0]), ([1, 1], [0])]

noncomputable def porterref03_table_E (N : Nat) : Env := mkEnv tys glob [] [] [] [] false [] [(98, stream_blocks1_itr N), (106, hmac_framed1_itr N)]

theorem porterref03_table_Eok (N : Nat) : EnvOk Go.Proofs.Tryd.prog (porterref03_table_E N) := mkEnv_ok mixed tys_ok (FnsOk.nil) (ItsOk.cons (stream_blocks1_it N) (ItsOk.cons (hmac_framed1_it N) (ItsOk.nil)))

noncomputable def porterref03_table (N : Nat) : Option (List Int) :=
  some (List.set (List.set (List.set (List.set (List.set (List.set (List.set (List.set (List.set (List.set (List.set (List.set (List.set (List.set (List.set (List.set (List.set (List.set (List.set (List.set (List.set (List.set (List.set (List.set (List.set (List.set (List.set (List.set (List.set (List.set (List.set (List.set (List.set (List.set (List.set (List.set (List.set (List.set (List.set (List.set (List.set (List.set (List.set (List.set (List.set (List.set (List.set (List.set (List.set (List.set (List.set (List.set (List.set (List.set (List.set (List.set (List.set (List.set (List.set (List.set (List.set (List.set (List.set (List.set (List.replicate 64 (0 : Int)) 0 (1116352408 : Int)) 1 (1899447441 : Int)) 2 (3049323471 : Int)) 3 (3921009573 : Int)) 4 (961987163 : Int)) 5 (1508970993 : Int)) 6 (2453635748 : Int)) 7 (2870763221 : Int)) 8 (3624381080 : Int)) 9 (310598401 : Int)) 10 (607225278 : Int)) 11 (1426881987 : Int)) 12 (1925078388 : Int)) 13 (2162078206 : Int)) 14 (2614888103 : Int)) 15 (3248222580 : Int)) 16 (3835390401 : Int)) 17 (4022224774 : Int)) 18 (264347078 : Int)) 19 (604807628 : Int)) 20 (770255983 : Int)) 21 (1249150122 : Int)) 22 (1555081692 : Int)) 23 (1996064986 : Int)) 24 (2554220882 : Int)) 25 (2821834349 : Int)) 26 (2952996808 : Int)) 27 (3210313671 : Int)) 28 (3336571891 : Int)) 29 (3584528711 : Int)) 30 (113926993 : Int)) 31 (338241895 : Int)) 32 (666307205 : Int)) 33 (773529912 : Int)) 34 (1294757372 : Int)) 35 (1396182291 : Int)) 36 (1695183700 : Int)) 37 (1986661051 : Int)) 38 (2177026350 : Int)) 39 (2456956037 : Int)) 40 (2730485921 : Int)) 41 (2820302411 : Int)) 42 (3259730800 : Int)) 43 (3345764771 : Int)) 44 (3516065817 : Int)) 45 (3600352804 : Int)) 46 (4094571909 : Int)) 47 (275423344 : Int)) 48 (430227734 : Int)) 49 (506948616 : Int)) 50 (659060556 : Int)) 51 (883997877 : Int)) 52 (958139571 : Int)) 53 (1322822218 : Int)) 54 (1537002063 : Int)) 55 (1747873779 : Int)) 56 (1955562222 : Int)) 57 (2024104815 : Int)) 58 (2227730452 : Int)) 59 (2361852424 : Int)) 60 (2428436474 : Int)) 61 (2756734187 : Int)) 62 (3204031479 : Int)) 63 (3329325298 : Int))

noncomputable def porterref03_table_t (N : Nat) : Tab (List Int) := []

theorem porterref03_table_link (N : Nat) (x : denS []) : evFX (porterref03_table_E N) N (porterref03_table_t N) porterref03_table_L Go.Proofs.Tryd.f76 (mkS [] 0 x) (kRes (.v (.sl (.int .u32))) 0) = porterref03_table N := by kernel_rfl

noncomputable def porterref03_table_res (N : Nat) : List A → Res := resOf [] (fun x => porterref03_table N) (oRes (.v (.sl (.int .u32))) 0)

theorem porterref03_table_ct (N : Nat) : Contract Go.Proofs.Tryd.prog glob 76 (porterref03_table_res N) :=
  Contract.of (E := porterref03_table_E N) (H := porterref03_table_t N) (L := porterref03_table_L) (N := N) (body := porterref03_table_body) (K := (kRes (.v (.sl (.int .u32))) 0)) (porterref03_table_Eok N) Go.Proofs.Tryd.func76 (by kernel_rfl) (by decide) (fun _ hb => TabOk.nil) (fun x y h => by rw [porterref03_table_link]; exact h) (kRes_ok (s := (.v (.sl (.int .u32)))) (m := 0))

abbrev porterref03_First_R : Type := (List Int)

noncomputable def porterref03_First_body : Code := (Go.Proofs.Tryd.f77.body).getD .skip

noncomputable def porterref03_First_L : List (List Nat × List Nat) := [([0], [0]), ([0, 1], [0]), ([1, 1], [0])]

noncomputable def porterref03_First_E (N : Nat) : Env := mkEnv tys glob [] [] [] [] false [] [(98, stream_blocks1_itr N), (106, hmac_framed1_itr N)]

theorem porterref03_First_Eok (N : Nat) : EnvOk Go.Proofs.Tryd.prog (porterref03_First_E N) := mkEnv_ok mixed tys_ok (FnsOk.nil) (ItsOk.cons (stream_blocks1_it N) (ItsOk.cons (hmac_framed1_it N) (ItsOk.nil)))

noncomputable def porterref03_First (N : Nat) : Option (List Int) :=
  some ([(1779033703 : Int), (3144134277 : Int), (1013904242 : Int), (2773480762 : Int), (1359893119 : Int), (2600822924 : Int), (528734635 : Int), (1541459225 : Int)] : List Int)

noncomputable def porterref03_First_t (N : Nat) : Tab (List Int) := []

theorem porterref03_First_link (N : Nat) (x : denS []) : evFX (porterref03_First_E N) N (porterref03_First_t N) porterref03_First_L Go.Proofs.Tryd.f77 (mkS [] 0 x) (kRes (.v (.arr 8 (.int .u32))) 0) = porterref03_First N := by kernel_rfl

noncomputable def porterref03_First_res (N : Nat) : List A → Res := resOf [] (fun x => porterref03_First N) (oRes (.v (.arr 8 (.int .u32))) 0)

theorem porterref03_First_ct (N : Nat) : Contract Go.Proofs.Tryd.prog glob 77 (porterref03_First_res N) :=
  Contract.of (E := porterref03_First_E N) (H := porterref03_First_t N) (L := porterref03_First_L) (N := N) (body := porterref03_First_body) (K := (kRes (.v (.arr 8 (.int .u32))) 0)) (porterref03_First_Eok N) Go.Proofs.Tryd.func77 (by kernel_rfl) (by decide) (fun _ hb => TabOk.nil) (fun x y h => by rw [porterref03_First_link]; exact h) (kRes_ok (s := (.v (.arr 8 (.int .u32)))) (m := 0))

abbrev porterref03_ror_R : Type := Int

noncomputable def porterref03_ror_body : Code := (Go.Proofs.Tryd.f95.body).getD .skip

noncomputable def porterref03_ror_L : List (List Nat × List Nat) := [([0], [0, 1]), ([0, 1], [4]), ([1, 1], [4])]

noncomputable def porterref03_ror_E (N : Nat) : Env := mkEnv tys glob [] [] [] [] false [] [(98, stream_blocks1_itr N), (106, hmac_framed1_itr N)]

theorem porterref03_ror_Eok (N : Nat) : EnvOk Go.Proofs.Tryd.prog (porterref03_ror_E N) := mkEnv_ok mixed tys_ok (FnsOk.nil) (ItsOk.cons (stream_blocks1_it N) (ItsOk.cons (hmac_framed1_it N) (ItsOk.nil)))

noncomputable def porterref03_ror (N : Nat) (x0 : Int) (n : Int) : Option Int :=
  cond (decide ((0 : Int) ≤ (Go.IntKind.wrap Go.IntKind.u64 n)))
  (cond (decide ((0 : Int) ≤ (Go.IntKind.wrap Go.IntKind.u64 (Go.IntKind.wrap Go.IntKind.i64 ((32 : Int) - n)))))
    (some (Go.Lift.bitsOp Go.BinOp.or Go.IntKind.u32 (Go.Lift.shrI Go.IntKind.u32 x0 (Go.IntKind.wrap Go.IntKind.u64 n)) (Go.Lift.shlI Go.IntKind.u32 x0 (Go.IntKind.wrap Go.IntKind.u64 (Go.IntKind.wrap Go.IntKind.i64 ((32 : Int) - n))))))
    (none))
  (none)

noncomputable def porterref03_ror_t (N : Nat) : Tab Int := []

theorem porterref03_ror_link (N : Nat) (x : denS [(0, .v (.int .u32)), (0, .v (.int .i64))]) : evFX (porterref03_ror_E N) N (porterref03_ror_t N) porterref03_ror_L Go.Proofs.Tryd.f95 (mkS [(0, .v (.int .u32)), (0, .v (.int .i64))] 0 x) (kRes (.v (.int .u32)) 2) = porterref03_ror N x.1 x.2.1 := by kernel_rfl

noncomputable def porterref03_ror_res (N : Nat) : List A → Res := resOf [(0, .v (.int .u32)), (0, .v (.int .i64))] (fun x => porterref03_ror N x.1 x.2.1) (oRes (.v (.int .u32)) 2)

theorem porterref03_ror_ct (N : Nat) : Contract Go.Proofs.Tryd.prog glob 95 (porterref03_ror_res N) :=
  Contract.of (E := porterref03_ror_E N) (H := porterref03_ror_t N) (L := porterref03_ror_L) (N := N) (body := porterref03_ror_body) (K := (kRes (.v (.int .u32)) 2)) (porterref03_ror_Eok N) Go.Proofs.Tryd.func95 (by kernel_rfl) (by decide) (fun _ hb => TabOk.nil) (fun x y h => by rw [porterref03_ror_link]; exact h) (kRes_ok (s := (.v (.int .u32))) (m := 2))

abbrev porterref03_step_R : Type := (List Int)

noncomputable def porterref03_step_body : Code := (Go.Proofs.Tryd.f78.body).getD .skip

noncomputable def porterref03_step_L : List (List Nat × List Nat) := [([0], [2, 1, 4, 3, 8]), ([0, 1], [2, 9, 1, 4, 3, 8]), ([0, 0, 1, 1], [10, 2, 9, 1, 4, 3, 8]), ([0, 1, 0, 1, 1], [10, 2, 9, 1, 4, 3, 8]), ([0, 0, 0, 0, 1, 0, 1, 1], [26, 2, 10, 9, 1, 4, 3, 8]), ([1, 0, 0, 0, 1, 0, 1, 1], [2, 10, 9, 1, 4, 3, 8]), ([1, 1, 0, 0, 0, 1, 0, 1, 1], [9, 4, 3, 8]), ([0, 0, 0, 1, 0, 0, 1, 0, 1, 1], [9, 1, 11, 10, 2, 4, 3, 8]), ([1, 0, 0, 1, 0, 0, 1, 0, 1, 1], [10, 2, 9, 1, 4, 3, 8]), ([0, 1, 0, 0, 1, 0, 1, 1], [10, 2, 9, 1, 4, 3, 8]), ([1, 1, 0, 0, 1, 0, 1, 1], [10, 2, 9, 1, 4, 3, 8]), ([1, 0, 1, 1], [9, 4, 3, 8]), ([0, 0, 1, 1, 1], [12, 9, 4, 3, 8]), ([0, 1, 0, 1, 1, 1], [12, 9, 4, 3, 8]), ([0, 0, 0, 0, 1, 0, 1, 1, 1], [62, 9, 12, 4, 3, 8]), ([1, 0, 0, 0, 1, 0, 1, 1, 1], [9, 12, 4, 3, 8]), ([1, 1, 0, 0, 0, 1, 0, 1, 1, 1], [4, 3, 9, 8]), ([0, 0, 0, 1, 0, 0, 1, 0, 1, 1, 1], [13, 14, 9, 12, 4, 3, 8]), ([0, 1, 0, 0, 1, 0, 0, 1, 0, 1, 1, 1], [14, 9, 12, 15, 4, 3, 8]), ([0, 1, 1, 0, 0, 1, 0, 0, 1, 0, 1, 1, 1], [9, 16, 12, 15, 4, 3, 8]), ([1, 1, 1, 0, 0, 1, 0, 0, 1, 0, 1, 1, 1], [12, 9, 4, 3, 8]), ([0, 1, 0, 0, 1, 0, 1, 1, 1], [12, 9, 4, 3, 8]), ([1, 1, 0, 0, 1, 0, 1, 1, 1], [12, 9, 4, 3, 8]), ([1, 0, 1, 1, 1], [4, 3, 9, 8]), ([0, 1, 1, 1, 1], [17, 3, 9, 4, 8]), ([0, 0, 1, 1, 1, 1, 1], [18, 17, 3, 9, 4, 8]), ([0, 1, 0, 1, 1, 1, 1, 1], [18, 17, 3, 9, 4, 8]), ([0, 0, 0, 0, 1, 0, 1, 1, 1, 1, 1], [111, 17, 3, 18, 9, 4, 8]), ([1, 0, 0, 0, 1, 0, 1, 1, 1, 1, 1], [17, 3, 18, 9, 4, 8]), ([1, 1, 0, 0, 0, 1, 0, 1, 1, 1, 1, 1], [17, 4, 8]), ([0, 0, 0, 1, 0, 0, 1, 0, 1, 1, 1, 1, 1], [17, 19, 3, 18, 9, 4, 8]), ([0, 1, 0, 0, 1, 0, 0, 1, 0, 1, 1, 1, 1, 1], [17, 19, 20, 3, 18, 9, 4, 8]), ([0, 1, 1, 0, 0, 1, 0, 0, 1, 0, 1, 1, 1, 1, 1], [17, 21, 18, 3, 9, 4, 8]), ([0, 1, 1, 1, 0, 0, 1, 0, 0, 1, 0, 1, 1, 1, 1, 1], [17, 21, 22, 18, 3, 9, 4, 8]), ([0, 1, 1, 1, 1, 0, 0, 1, 0, 0, 1, 0, 1, 1, 1, 1, 1], [21, 22, 23, 17, 18, 3, 9, 4, 8]), ([1, 1, 1, 1, 1, 0, 0, 1, 0, 0, 1, 0, 1, 1, 1, 1, 1], [18, 17, 3, 9, 4, 8]), ([0, 1, 0, 0, 1, 0, 1, 1, 1, 1, 1], [18, 17, 3, 9, 4, 8]), ([1, 1, 0, 0, 1, 0, 1, 1, 1, 1, 1], [18, 17, 3, 9, 4, 8]), ([1, 0, 1, 1, 1, 1, 1], [17, 4, 8]), ([0, 0, 1, 1, 1, 1, 1, 1], [24, 17, 4, 8]), ([0, 1, 0, 1, 1, 1, 1, 1, 1], [24, 17, 4, 8]), ([0, 0, 0, 0, 1, 0, 1, 1, 1, 1, 1, 1], [204, 24, 17, 4, 8]), ([1, 0, 0, 0, 1, 0, 1, 1, 1, 1, 1, 1], [24, 17, 4, 8]), ([1, 1, 0, 0, 0, 1, 0, 1, 1, 1, 1, 1, 1], [17, 8]), ([0, 0, 1, 0, 0, 1, 0, 1, 1, 1, 1, 1, 1], [24, 17, 4, 8]), ([0, 1, 0, 0, 1, 0, 1, 1, 1, 1, 1, 1], [24, 17, 4, 8]), ([1, 1, 0, 0, 1, 0, 1, 1, 1, 1, 1, 1], [24, 17, 4, 8]), ([1, 0, 1, 1, 1, 1, 1, 1], [17, 8]), ([0, 1, 1, 1, 1, 1, 1, 1], [8]), ([1, 1, 1, 1, 1, 1, 1, 1], [8])]

noncomputable def porterref03_step_E (N : Nat) : Env := mkEnv tys glob [(95, porterref03_ror_res N)] [(9, (.int .u32))] [] [] false [] [(98, stream_blocks1_itr N), (106, hmac_framed1_itr N)]

theorem porterref03_step_Eok (N : Nat) : EnvOk Go.Proofs.Tryd.prog (porterref03_step_E N) := mkEnv_ok mixed tys_ok (FnsOk.cons (porterref03_ror_ct N) (FnsOk.nil)) (ItsOk.cons (stream_blocks1_it N) (ItsOk.cons (hmac_framed1_it N) (ItsOk.nil)))

noncomputable def porterref03_step_s1 (N : Nat) (s : (List UInt8)) (at_ : Int) (k : (List Int)) (h : (List Int)) (x8 : (List Int)) (w : (List Int)) (t : Int) (rec : (List Int) → Int → Option (List Int)) (k0 : (List Int) → Option (List Int)) : Option (List Int) :=
  cond (decide (t < (16 : Int)))
  (cond (Go.Lift.inR (Go.IntKind.wrap Go.IntKind.i64 (at_ + (Go.IntKind.wrap Go.IntKind.i64 ((4 : Int) * t)))) (List.length s))
    (cond (Go.Lift.inR (Go.IntKind.wrap Go.IntKind.i64 ((Go.IntKind.wrap Go.IntKind.i64 (at_ + (Go.IntKind.wrap Go.IntKind.i64 ((4 : Int) * t)))) + (1 : Int))) (List.length s))
      (cond (Go.Lift.inR (Go.IntKind.wrap Go.IntKind.i64 ((Go.IntKind.wrap Go.IntKind.i64 (at_ + (Go.IntKind.wrap Go.IntKind.i64 ((4 : Int) * t)))) + (2 : Int))) (List.length s))
        (cond (Go.Lift.inR (Go.IntKind.wrap Go.IntKind.i64 ((Go.IntKind.wrap Go.IntKind.i64 (at_ + (Go.IntKind.wrap Go.IntKind.i64 ((4 : Int) * t)))) + (3 : Int))) (List.length s))
          (cond (decide ((((List.length w) + 1) * 4) ≤ 70368744177664))
            (rec (w ++ ([(Go.IntKind.wrap Go.IntKind.u32 ((Go.IntKind.wrap Go.IntKind.u32 ((Go.IntKind.wrap Go.IntKind.u32 ((Go.Lift.shlI Go.IntKind.u32 (Go.IntKind.wrap Go.IntKind.u32 (((UInt8.toNat (List.getD s (Int.toNat (Go.IntKind.wrap Go.IntKind.i64 (at_ + (Go.IntKind.wrap Go.IntKind.i64 ((4 : Int) * t))))) (0 : UInt8))) : Nat) : Int)) (24 : Int)) + (Go.Lift.shlI Go.IntKind.u32 (Go.IntKind.wrap Go.IntKind.u32 (((UInt8.toNat (List.getD s (Int.toNat (Go.IntKind.wrap Go.IntKind.i64 ((Go.IntKind.wrap Go.IntKind.i64 (at_ + (Go.IntKind.wrap Go.IntKind.i64 ((4 : Int) * t)))) + (1 : Int)))) (0 : UInt8))) : Nat) : Int)) (16 : Int)))) + (Go.Lift.shlI Go.IntKind.u32 (Go.IntKind.wrap Go.IntKind.u32 (((UInt8.toNat (List.getD s (Int.toNat (Go.IntKind.wrap Go.IntKind.i64 ((Go.IntKind.wrap Go.IntKind.i64 (at_ + (Go.IntKind.wrap Go.IntKind.i64 ((4 : Int) * t)))) + (2 : Int)))) (0 : UInt8))) : Nat) : Int)) (8 : Int)))) + (Go.IntKind.wrap Go.IntKind.u32 (((UInt8.toNat (List.getD s (Int.toNat (Go.IntKind.wrap Go.IntKind.i64 ((Go.IntKind.wrap Go.IntKind.i64 (at_ + (Go.IntKind.wrap Go.IntKind.i64 ((4 : Int) * t)))) + (3 : Int)))) (0 : UInt8))) : Nat) : Int))))] : List Int)) (Go.IntKind.wrap Go.IntKind.i64 (t + (1 : Int))))
            (none))
          (none))
        (none))
      (none))
    (none))
  (k0 w)

noncomputable def porterref03_step_p1 (N : Nat) (s : (List UInt8)) (at_ : Int) (k : (List Int)) (h : (List Int)) (x8 : (List Int)) (w : (List Int)) (t : Int) (k0 : (List Int) → Option (List Int)) : Option (List Int) :=
  iter (fun (v : ((List Int) × Int)) r => porterref03_step_s1 N s at_ k h x8 v.1 v.2 (fun w t => (r (w, t))) k0) N (w, t)

noncomputable def porterref03_step_g1 (N : Nat) (i : ((List UInt8) × Int × (List Int) × (List Int) × (List Int))) (v : ((List Int) × Int)) (r : ((List Int) × Int) → Option (List Int)) (K : Ex → List A → Option (List Int)) : Option (List Int) :=
  porterref03_step_s1 N i.1 i.2.1 i.2.2.1 i.2.2.2.1 i.2.2.2.2 v.1 v.2 (fun w t => (r (w, t))) (fun a3 => (K (.exit 0) (mkS [(3, .v (.sl (.int .u32))), (0, .box (.arr 8 (.int .u32))), (3, .box (.arr 8 (.int .u32))), (0, .row (.int .u32))] 207 (i.2.2.1, i.2.2.2.1, i.2.2.2.2, a3, ()))))

noncomputable def porterref03_step_h1 (N : Nat) : Hd (List Int) := fun st K => (unS [(1, .v .str), (0, .v (.int .i64)), (0, .v (.sl (.int .u32))), (0, .box (.arr 8 (.int .u32))), (3, .box (.arr 8 (.int .u32))), (0, .row (.int .u32)), (0, .v (.int .i64))] 206 (restr [10, 2, 9, 1, 4, 3, 8] 0 st)).bind fun x => iter (fun v r => porterref03_step_g1 N ((fun x => (x.1, x.2.1, x.2.2.1, x.2.2.2.1, x.2.2.2.2.1)) x) v r K) N ((fun x => (x.2.2.2.2.2.1, x.2.2.2.2.2.2.1)) x)

noncomputable def porterref03_step_t1 (N : Nat) : Tab (List Int) := []

theorem porterref03_step_ok1 {N : Nat} {c : Ctx} (hb : Base Go.Proofs.Tryd.prog (porterref03_step_E N) c) : CodeOk Go.Proofs.Tryd.prog c (nodeAt porterref03_step_body [0, 1, 0, 1, 1]) (porterref03_step_h1 N) :=
  loop_ok (s := [(1, .v .str), (0, .v (.int .i64)), (0, .v (.sl (.int .u32))), (0, .box (.arr 8 (.int .u32))), (3, .box (.arr 8 (.int .u32))), (0, .row (.int .u32)), (0, .v (.int .i64))]) (m := 206) (porterref03_step_g1 N) [10, 2, 9, 1, 4, 3, 8] N (fun x => (x.1, x.2.1, x.2.2.1, x.2.2.2.1, x.2.2.2.2.1)) (fun x => (x.2.2.2.2.2.1, x.2.2.2.2.2.2.1)) (fun i v => (i.1, i.2.1, i.2.2.1, i.2.2.2.1, i.2.2.2.2, v.1, v.2, ())) (fun _ => rfl) (evN_sound hb N (porterref03_step_t1 N) porterref03_step_L porterref03_step_body TabOk.nil [0, 0, 1, 0, 1, 1] _ rfl) (fun i v r K => by kernel_rfl)

end Go.Proofs.YtkccmmbomlpgnaaDoorLg
