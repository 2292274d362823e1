/- The plain functions that the law reaches, what their calls do, and what they give (own work, in one text). -/
import Derived.Test.YtpmoinpamdbnhaaDoorLgW
import Derived.Test.YtpmoinpamdbnhaaDoorChecked
import Derived.KernelRfl
/- The functions of the seat, as plain functions, and what their calls do. Printed by a program of mine; checked here. -/
set_option linter.all false
set_option maxRecDepth 100000
namespace Go.Proofs.YtpmoinpamdbnhaaDoorLg
open Go Go.Lift

abbrev TT0 : T := (.pair (.own (.arr 128 (.int .u8))) (.pair (.mp (.int .i64) (.int .i64)) (.pair .bool (.pair (.int .i64) .unit))))

abbrev DT1 : Type := ((List (List Int)) × ((Option (List (Int × Int))) × (Bool × (Int × Unit))))

abbrev TT2 : T := (.pair (.int .i64) (.pair (.int .i64) (.pair .str .unit)))

abbrev DT3 : Type := ((Int × ((List UInt8) × (Int × Unit))) × Bool × Unit)

abbrev TT4 : T := (.pair .str (.pair (.int .i64) .unit))

abbrev DT6 : Type := (Int × (Int × ((List UInt8) × Unit)))

abbrev DT7 : Type := (Bool × ((List Int) × ((List UInt8) × (Int × Unit))))

abbrev TT8 : T := (.pair .bool (.pair (.arr 8 (.int .u32)) TT4))

abbrev TT9 : T := (.pair (.int .i64) TT4)

abbrev DT10 : Type := ((Option DT1) × Int × Unit)

abbrev DT11 : Type := (Int × ((List UInt8) × (Int × Unit)))

abbrev DT13 : Type := ((List UInt8) × Int × Unit)

abbrev DT14 : Type := ((List UInt8) × (DT7 × Unit))

abbrev TT15 : T := (.pair (.int .i64) (.pair (.int .i64) .unit))

noncomputable def ty3 : TyI := ⟨(Go.TypeDesc.int IntKind.i64), 1, 8, (.int .i64), (0 : Int), false⟩

theorem ty3_ok : TyOk Tryd.prog 3 ty3 := TyOk.of (by kernel_rfl) (by kernel_rfl) (by kernel_rfl) (by kernel_rfl)

noncomputable def ty4 : TyI := ⟨Go.TypeDesc.bool, 1, 1, .bool, false, false⟩

theorem ty4_ok : TyOk Tryd.prog 4 ty4 := TyOk.of (by kernel_rfl) (by kernel_rfl) (by kernel_rfl) (by kernel_rfl)

noncomputable def ty5 : TyI := ⟨(Go.TypeDesc.int IntKind.u8), 1, 1, (.int .u8), (0 : Int), false⟩

theorem ty5_ok : TyOk Tryd.prog 5 ty5 := TyOk.of (by kernel_rfl) (by kernel_rfl) (by kernel_rfl) (by kernel_rfl)

noncomputable def ty9 : TyI := ⟨Go.TypeDesc.string, 1, 16, .str, ([] : List UInt8), false⟩

theorem ty9_ok : TyOk Tryd.prog 9 ty9 := TyOk.of (by kernel_rfl) (by kernel_rfl) (by kernel_rfl) (by kernel_rfl)

noncomputable def ty22 : TyI := ⟨(Go.TypeDesc.array 4 3), 4, 32, (.arr 4 (.int .i64)), ([(0 : Int), (0 : Int), (0 : Int), (0 : Int)] : List Int), true⟩

theorem ty22_ok : TyOk Tryd.prog 22 ty22 := TyOk.of (by kernel_rfl) (by kernel_rfl) (by kernel_rfl) (by kernel_rfl)

noncomputable def ty24 : TyI := ⟨(Go.TypeDesc.pointer 55), 1, 8, .opq, (Go.Value.pointer none), false⟩

theorem ty24_ok : TyOk Tryd.prog 24 ty24 := TyOk.of (by kernel_rfl) (by kernel_rfl) (by kernel_rfl) (by kernel_rfl)

noncomputable def ty25 : TyI := ⟨(Go.TypeDesc.int IntKind.i64), 1, 8, (.int .i64), (0 : Int), false⟩

theorem ty25_ok : TyOk Tryd.prog 25 ty25 := TyOk.of (by kernel_rfl) (by kernel_rfl) (by kernel_rfl) (by kernel_rfl)

noncomputable def ty31 : TyI := ⟨(Go.TypeDesc.slice 9), 1, 24, (.sl .str), ([] : List (List UInt8)), false⟩

theorem ty31_ok : TyOk Tryd.prog 31 ty31 := TyOk.of (by kernel_rfl) (by kernel_rfl) (by kernel_rfl) (by kernel_rfl)

noncomputable def ty34 : TyI := ⟨(Go.TypeDesc.slice 5), 1, 24, (.sl (.int .u8)), ([] : List Int), false⟩

theorem ty34_ok : TyOk Tryd.prog 34 ty34 := TyOk.of (by kernel_rfl) (by kernel_rfl) (by kernel_rfl) (by kernel_rfl)

noncomputable def ty36 : TyI := ⟨(Go.TypeDesc.array 3 3), 3, 24, (.arr 3 (.int .i64)), ([(0 : Int), (0 : Int), (0 : Int)] : List Int), true⟩

theorem ty36_ok : TyOk Tryd.prog 36 ty36 := TyOk.of (by kernel_rfl) (by kernel_rfl) (by kernel_rfl) (by kernel_rfl)

noncomputable def ty39 : TyI := ⟨(Go.TypeDesc.struct (List.toArray ([(Go.Field.mk "Kind" 3 0 false "" "" 0), (Go.Field.mk "Text" 9 1 false "" "" 8), (Go.Field.mk "Blocks" 3 2 false "" "" 24)] : List Go.Field))), 3, 32, TT9, ((0 : Int), ([] : List UInt8), (0 : Int), ()), true⟩

theorem ty39_ok : TyOk Tryd.prog 39 ty39 := TyOk.of (by kernel_rfl) (by kernel_rfl) (by kernel_rfl) (by kernel_rfl)

noncomputable def ty45 : TyI := ⟨(Go.TypeDesc.array 2 9), 2, 32, (.arr 2 .str), ([([] : List UInt8), ([] : List UInt8)] : List (List UInt8)), true⟩

theorem ty45_ok : TyOk Tryd.prog 45 ty45 := TyOk.of (by kernel_rfl) (by kernel_rfl) (by kernel_rfl) (by kernel_rfl)

noncomputable def ty47 : TyI := ⟨(Go.TypeDesc.struct (List.toArray ([(Go.Field.mk "At" 3 0 false "" "" 0), (Go.Field.mk "Keep" 3 1 false "" "" 8)] : List Go.Field))), 2, 16, TT15, ((0 : Int), (0 : Int), ()), true⟩

theorem ty47_ok : TyOk Tryd.prog 47 ty47 := TyOk.of (by kernel_rfl) (by kernel_rfl) (by kernel_rfl) (by kernel_rfl)

noncomputable def ty51 : TyI := ⟨(Go.TypeDesc.slice 47), 1, 24, (.sl TT15), ([] : List (Int × (Int × Unit))), false⟩

theorem ty51_ok : TyOk Tryd.prog 51 ty51 := TyOk.of (by kernel_rfl) (by kernel_rfl) (by kernel_rfl) (by kernel_rfl)

noncomputable def ty52 : TyI := ⟨(Go.TypeDesc.slice 67), 1, 24, (.sl (.arr 128 (.int .u8))), ([] : List (List Int)), false⟩

theorem ty52_ok : TyOk Tryd.prog 52 ty52 := TyOk.of (by kernel_rfl) (by kernel_rfl) (by kernel_rfl) (by kernel_rfl)

noncomputable def ty53 : TyI := ⟨(Go.TypeDesc.map 3 3), 1, 8, .opq, (Go.Value.map none), false⟩

theorem ty53_ok : TyOk Tryd.prog 53 ty53 := TyOk.of (by kernel_rfl) (by kernel_rfl) (by kernel_rfl) (by kernel_rfl)

noncomputable def ty55 : TyI := ⟨(Go.TypeDesc.struct (List.toArray ([(Go.Field.mk "blocks" 52 0 false "" "porter/disk" 0), (Go.Field.mk "crashes" 53 1 false "" "porter/disk" 24), (Go.Field.mk "down" 4 2 false "" "porter/disk" 32), (Go.Field.mk "writes" 3 3 false "" "porter/disk" 40)] : List Go.Field))), 4, 48, (.pair (.sl (.arr 128 (.int .u8))) (.pair .opq (.pair .bool (.pair (.int .i64) .unit)))), (([] : List (List Int)), (Go.Value.map none), false, (0 : Int), ()), true⟩

theorem ty55_ok : TyOk Tryd.prog 55 ty55 := TyOk.of (by kernel_rfl) (by kernel_rfl) (by kernel_rfl) (by kernel_rfl)

noncomputable def ty57 : TyI := ⟨(Go.TypeDesc.slice 34), 1, 24, (.sl (.sl (.int .u8))), ([] : List (List Int)), false⟩

theorem ty57_ok : TyOk Tryd.prog 57 ty57 := TyOk.of (by kernel_rfl) (by kernel_rfl) (by kernel_rfl) (by kernel_rfl)

noncomputable def ty60 : TyI := ⟨(Go.TypeDesc.struct (List.toArray ([(Go.Field.mk "Mark" 3 0 false "" "" 0), (Go.Field.mk "Kind" 3 1 false "" "" 8), (Go.Field.mk "Text" 9 2 false "" "" 16)] : List Go.Field))), 3, 32, TT2, ((0 : Int), (0 : Int), ([] : List UInt8), ()), true⟩

theorem ty60_ok : TyOk Tryd.prog 60 ty60 := TyOk.of (by kernel_rfl) (by kernel_rfl) (by kernel_rfl) (by kernel_rfl)

noncomputable def ty67 : TyI := ⟨(Go.TypeDesc.array 128 5), 128, 128, (.arr 128 (.int .u8)), ((0 : Int) :: (0 : Int) :: (0 : Int) :: (0 : Int) :: (0 : Int) :: (0 : Int) :: (0 : Int) :: (0 : Int) :: (0 : Int) :: (0 : Int) :: (0 : Int) :: (0 : Int) :: (0 : Int) :: (0 : Int) :: (0 : Int) :: (0 : Int) :: (0 : Int) :: (0 : Int) :: (0 : Int) :: (0 : Int) :: (0 : Int) :: (0 : Int) :: (0 : Int) :: (0 : Int) :: (0 : Int) :: (0 : Int) :: (0 : Int) :: (0 : Int) :: (0 : Int) :: (0 : Int) :: (0 : Int) :: (0 : Int) :: (0 : Int) :: (0 : Int) :: (0 : Int) :: (0 : Int) :: (0 : Int) :: (0 : Int) :: (0 : Int) :: (0 : Int) :: (0 : Int) :: (0 : Int) :: (0 : Int) :: (0 : Int) :: (0 : Int) :: (0 : Int) :: (0 : Int) :: (0 : Int) :: (0 : Int) :: (0 : Int) :: (0 : Int) :: (0 : Int) :: (0 : Int) :: (0 : Int) :: (0 : Int) :: (0 : Int) :: (0 : Int) :: (0 : Int) :: (0 : Int) :: (0 : Int) :: (0 : Int) :: (0 : Int) :: (0 : Int) :: (0 : Int) :: (0 : Int) :: (0 : Int) :: (0 : Int) :: (0 : Int) :: (0 : Int) :: (0 : Int) :: (0 : Int) :: (0 : Int) :: (0 : Int) :: (0 : Int) :: (0 : Int) :: (0 : Int) :: (0 : Int) :: (0 : Int) :: (0 : Int) :: (0 : Int) :: (0 : Int) :: (0 : Int) :: (0 : Int) :: (0 : Int) :: (0 : Int) :: (0 : Int) :: (0 : Int) :: (0 : Int) :: (0 : Int) :: (0 : Int) :: (0 : Int) :: (0 : Int) :: (0 : Int) :: (0 : Int) :: (0 : Int) :: (0 : Int) :: (0 : Int) :: (0 : Int) :: (0 : Int) :: (0 : Int) :: (0 : Int) :: (0 : Int) :: (0 : Int) :: (0 : Int) :: (0 : Int) :: (0 : Int) :: (0 : Int) :: (0 : Int) :: (0 : Int) :: (0 : Int) :: (0 : Int) :: (0 : Int) :: (0 : Int) :: (0 : Int) :: (0 : Int) :: (0 : Int) :: (0 : Int) :: (0 : Int) :: (0 : Int) :: (0 : Int) :: (0 : Int) :: (0 : Int) :: (0 : Int) :: (0 : Int) :: (0 : Int) :: (0 : Int) :: (0 : Int) :: (0 : Int) :: ([] : List Int)), true⟩

theorem ty67_ok : TyOk Tryd.prog 67 ty67 := TyOk.of (by kernel_rfl) (by kernel_rfl) (by kernel_rfl) (by kernel_rfl)

noncomputable def ty74 : TyI := ⟨(Go.TypeDesc.slice 76), 1, 24, (.sl (.int .u32)), ([] : List Int), false⟩

theorem ty74_ok : TyOk Tryd.prog 74 ty74 := TyOk.of (by kernel_rfl) (by kernel_rfl) (by kernel_rfl) (by kernel_rfl)

noncomputable def ty76 : TyI := ⟨(Go.TypeDesc.int IntKind.u32), 1, 4, (.int .u32), (0 : Int), false⟩

theorem ty76_ok : TyOk Tryd.prog 76 ty76 := TyOk.of (by kernel_rfl) (by kernel_rfl) (by kernel_rfl) (by kernel_rfl)

noncomputable def ty77 : TyI := ⟨(Go.TypeDesc.array 8 76), 8, 32, (.arr 8 (.int .u32)), ([(0 : Int), (0 : Int), (0 : Int), (0 : Int), (0 : Int), (0 : Int), (0 : Int), (0 : Int)] : List Int), true⟩

theorem ty77_ok : TyOk Tryd.prog 77 ty77 := TyOk.of (by kernel_rfl) (by kernel_rfl) (by kernel_rfl) (by kernel_rfl)

noncomputable def ty83 : TyI := ⟨(Go.TypeDesc.pointer 94), 1, 8, .opq, (Go.Value.pointer none), false⟩

theorem ty83_ok : TyOk Tryd.prog 83 ty83 := TyOk.of (by kernel_rfl) (by kernel_rfl) (by kernel_rfl) (by kernel_rfl)

noncomputable def ty87 : TyI := ⟨(Go.TypeDesc.int IntKind.u64), 1, 8, (.int .u64), (0 : Int), false⟩

theorem ty87_ok : TyOk Tryd.prog 87 ty87 := TyOk.of (by kernel_rfl) (by kernel_rfl) (by kernel_rfl) (by kernel_rfl)

noncomputable def ty88 : TyI := ⟨(Go.TypeDesc.int IntKind.u64), 1, 8, (.int .u64), (0 : Int), false⟩

theorem ty88_ok : TyOk Tryd.prog 88 ty88 := TyOk.of (by kernel_rfl) (by kernel_rfl) (by kernel_rfl) (by kernel_rfl)

noncomputable def ty91 : TyI := ⟨(Go.TypeDesc.array 8 76), 8, 32, (.arr 8 (.int .u32)), ([(0 : Int), (0 : Int), (0 : Int), (0 : Int), (0 : Int), (0 : Int), (0 : Int), (0 : Int)] : List Int), true⟩

theorem ty91_ok : TyOk Tryd.prog 91 ty91 := TyOk.of (by kernel_rfl) (by kernel_rfl) (by kernel_rfl) (by kernel_rfl)

noncomputable def ty94 : TyI := ⟨(Go.TypeDesc.struct (List.toArray ([(Go.Field.mk "made" 4 0 false "" "porter/sha" 0), (Go.Field.mk "words" 91 1 false "" "porter/sha" 4), (Go.Field.mk "rest" 9 9 false "" "porter/sha" 40), (Go.Field.mk "long" 3 10 false "" "porter/sha" 56)] : List Go.Field))), 11, 64, TT8, (false, ([(0 : Int), (0 : Int), (0 : Int), (0 : Int), (0 : Int), (0 : Int), (0 : Int), (0 : Int)] : List Int), ([] : List UInt8), (0 : Int), ()), true⟩

theorem ty94_ok : TyOk Tryd.prog 94 ty94 := TyOk.of (by kernel_rfl) (by kernel_rfl) (by kernel_rfl) (by kernel_rfl)

noncomputable def ty98 : TyI := ⟨(Go.TypeDesc.array 64 76), 64, 256, (.arr 64 (.int .u32)), ((0 : Int) :: (0 : Int) :: (0 : Int) :: (0 : Int) :: (0 : Int) :: (0 : Int) :: (0 : Int) :: (0 : Int) :: (0 : Int) :: (0 : Int) :: (0 : Int) :: (0 : Int) :: (0 : Int) :: (0 : Int) :: (0 : Int) :: (0 : Int) :: (0 : Int) :: (0 : Int) :: (0 : Int) :: (0 : Int) :: (0 : Int) :: (0 : Int) :: (0 : Int) :: (0 : Int) :: (0 : Int) :: (0 : Int) :: (0 : Int) :: (0 : Int) :: (0 : Int) :: (0 : Int) :: (0 : Int) :: (0 : Int) :: (0 : Int) :: (0 : Int) :: (0 : Int) :: (0 : Int) :: (0 : Int) :: (0 : Int) :: (0 : Int) :: (0 : Int) :: (0 : Int) :: (0 : Int) :: (0 : Int) :: (0 : Int) :: (0 : Int) :: (0 : Int) :: (0 : Int) :: (0 : Int) :: (0 : Int) :: (0 : Int) :: (0 : Int) :: (0 : Int) :: (0 : Int) :: (0 : Int) :: (0 : Int) :: (0 : Int) :: (0 : Int) :: (0 : Int) :: (0 : Int) :: (0 : Int) :: (0 : Int) :: (0 : Int) :: (0 : Int) :: (0 : Int) :: ([] : List Int)), true⟩

theorem ty98_ok : TyOk Tryd.prog 98 ty98 := TyOk.of (by kernel_rfl) (by kernel_rfl) (by kernel_rfl) (by kernel_rfl)

noncomputable def tys : List (Nat × TyI) := [(3, ty3), (4, ty4), (5, ty5), (9, ty9), (22, ty22), (24, ty24), (25, ty25), (31, ty31), (34, ty34), (36, ty36), (39, ty39), (45, ty45), (47, ty47), (51, ty51), (52, ty52), (53, ty53), (55, ty55), (57, ty57), (60, ty60), (67, ty67), (74, ty74), (76, ty76), (77, ty77), (83, ty83), (87, ty87), (88, ty88), (91, ty91), (94, ty94), (98, ty98)]

theorem tys_ok : TysOk Tryd.prog tys := TysOk.cons ty3_ok (TysOk.cons ty4_ok (TysOk.cons ty5_ok (TysOk.cons ty9_ok (TysOk.cons ty22_ok (TysOk.cons ty24_ok (TysOk.cons ty25_ok (TysOk.cons ty31_ok (TysOk.cons ty34_ok (TysOk.cons ty36_ok (TysOk.cons ty39_ok (TysOk.cons ty45_ok (TysOk.cons ty47_ok (TysOk.cons ty51_ok (TysOk.cons ty52_ok (TysOk.cons ty53_ok (TysOk.cons ty55_ok (TysOk.cons ty57_ok (TysOk.cons ty60_ok (TysOk.cons ty67_ok (TysOk.cons ty74_ok (TysOk.cons ty76_ok (TysOk.cons ty77_ok (TysOk.cons ty83_ok (TysOk.cons ty87_ok (TysOk.cons ty88_ok (TysOk.cons ty91_ok (TysOk.cons ty94_ok (TysOk.cons ty98_ok (TysOk.nil)))))))))))))))))))))))))))))

theorem mixed : Tryd.prog.follows .mixedOrders = true := by kernel_rfl

noncomputable def glob0 : List Int := [1116352408, 1899447441, 3049323471, 3921009573, 961987163, 1508970993, 2453635748, 2870763221, 3624381080, 310598401, 607225278, 1426881987, 1925078388, 2162078206, 2614888103, 3248222580, 3835390401, 4022224774, 264347078, 604807628, 770255983, 1249150122, 1555081692, 1996064986, 2554220882, 2821834349, 2952996808, 3210313671, 3336571891, 3584528711, 113926993, 338241895, 666307205, 773529912, 1294757372, 1396182291, 1695183700, 1986661051, 2177026350, 2456956037, 2730485921, 2820302411, 3259730800, 3345764771, 3516065817, 3600352804, 4094571909, 275423344, 430227734, 506948616, 659060556, 883997877, 958139571, 1322822218, 1537002063, 1747873779, 1955562222, 2024104815, 2227730452, 2361852424, 2428436474, 2756734187, 3204031479, 3329325298]

noncomputable def glob : Nat → Option Dat := lk [(0, ⟨(.arr 64 (.int .u32)), glob0⟩)]

noncomputable def body_0 : Code := (Tryd.f7.body).getD .skip

noncomputable def L_0 : List (List Nat × List Nat) := [([0], [0, 1]), ([0, 0, 1], [16, 0, 1]), ([1, 0, 1], [0, 1]), ([0, 0, 1, 0, 1], [4, 5]), ([1, 0, 1, 0, 1], [4, 5]), ([0, 1, 1], [1, 6]), ([0, 0, 1, 1, 1], [24, 23, 22, 6]), ([0, 1, 0, 1, 1, 1], [24, 23, 22, 6]), ([0, 0, 0, 1, 0, 1, 1, 1], [25, 22, 24, 6, 23]), ([0, 1, 0, 0, 1, 0, 1, 1, 1], [22, 24, 6, 23]), ([1, 0, 1, 0, 0, 1, 0, 1, 1, 1], [6]), ([0, 0, 0, 1, 1, 0, 0, 1, 0, 1, 1, 1], [6, 8, 24, 23, 22]), ([0, 1, 0, 0, 1, 1, 0, 0, 1, 0, 1, 1, 1], [10, 6, 8, 24, 23, 22]), ([0, 1, 1, 0, 0, 1, 1, 0, 0, 1, 0, 1, 1, 1], [39, 6, 8, 24, 23, 22]), ([1, 1, 1, 0, 0, 1, 1, 0, 0, 1, 0, 1, 1, 1], [24, 23, 22, 6]), ([0, 1, 1, 1, 0, 0, 1, 1, 0, 0, 1, 0, 1, 1, 1], [24, 23, 22, 6]), ([0, 1, 1, 0, 0, 1, 0, 1, 1, 1], [24, 23, 22, 6]), ([1, 1, 1, 0, 0, 1, 0, 1, 1, 1], [24, 23, 22, 6]), ([1, 0, 1, 1, 1], [6]), ([0, 1, 1, 1, 1], [4, 5]), ([1, 1, 1, 1, 1], [4, 5])]

noncomputable def E_0 (N : Nat) : Env := mkEnv tys glob [] [] [] [] false [(4, TT0), (20, TT0), (21, TT0)] [] [(.nb TT0), (.int .i64)]

theorem Eok_0 (N : Nat) : EnvOk Tryd.prog (E_0 N) := mkEnv_ok mixed tys_ok (FnsOk.nil) (ItsOk.nil)

noncomputable def disk_New_p2 (N : Nat) (blocks : Int) (crashes : (List (Int × (Int × Unit)))) (k0 : Bool → Option DT10) : Option DT10 :=
  cond (decide (blocks < (1 : Int)))
  (k0 true)
  (k0 (decide ((4096 : Int) < blocks)))

noncomputable def g2_0 (N : Nat) (x : denS [(0, .v (.int .i64)), (0, .v (.sl TT15))]) (K : Ex → List A → Option DT10) : Option DT10 :=
  disk_New_p2 N x.1 x.2.1 (fun a2 => (K .normal (mkS [(0, .v (.int .i64)), (0, .v (.sl TT15)), (14, .v .bool)] 35 (x.1, x.2.1, a2, ()))))

noncomputable def h2_0 (N : Nat) : Hd DT10 := fun st K => (unS [(0, .v (.int .i64)), (0, .v (.sl TT15))] 50 (restr [0, 1] 0 st)).bind fun x => g2_0 N x K

noncomputable def t2_0 (N : Nat) : Tab DT10 := []

theorem ok2_0 {N : Nat} {c : Ctx} (hb : Base Tryd.prog (E_0 N) c) : CodeOk Tryd.prog c (nodeAt body_0 [0, 0, 1]) (h2_0 N) :=
  piece_ok (s := [(0, .v (.int .i64)), (0, .v (.sl TT15))]) (m := 50) (g := g2_0 N) [0, 1] (evN_sound hb N (t2_0 N) L_0 body_0 TabOk.nil [0, 0, 1] _ rfl) (fun x K => by kernel_rfl)

noncomputable def disk_New_p1 (N : Nat) (blocks : Int) (crashes : (List (Int × (Int × Unit)))) (k0 : Int → Option DT10) (k1 : Option DT10) : Option DT10 :=
  disk_New_p2 N blocks crashes
  (fun x16 => cond x16
    (k0 (7 : Int))
    (k1))

noncomputable def g1_0 (N : Nat) (x : denS [(0, .v (.int .i64)), (0, .v (.sl TT15))]) (K : Ex → List A → Option DT10) : Option DT10 :=
  disk_New_p1 N x.1 x.2.1 (fun a0 => (K .ret (mkS [(4, .nilp), (0, .v (.int .i64))] 46 ((), a0, ())))) (K .normal (mkS [(0, .v (.int .i64)), (0, .v (.sl TT15))] 50 (x.1, x.2.1, ())))

noncomputable def h1_0 (N : Nat) : Hd DT10 := fun st K => (unS [(0, .v (.int .i64)), (0, .v (.sl TT15))] 50 (restr [0, 1] 0 st)).bind fun x => g1_0 N x K

noncomputable def t1_0 (N : Nat) : Tab DT10 := [([0, 0, 1], h2_0 N)]

theorem ok1_0 {N : Nat} {c : Ctx} (hb : Base Tryd.prog (E_0 N) c) : CodeOk Tryd.prog c (nodeAt body_0 [0, 1]) (h1_0 N) :=
  piece_ok (s := [(0, .v (.int .i64)), (0, .v (.sl TT15))]) (m := 50) (g := g1_0 N) [0, 1] (evN_sound hb N (t1_0 N) L_0 body_0 (TabOk.cons (ok2_0 hb) TabOk.nil) [0, 1] _ rfl) (fun x K => by kernel_rfl)

noncomputable def disk_New_s3 (N : Nat) (x22 : (List (Int × (Int × Unit)))) (x23 : Int) (d : DT1) (x24 : Int) (rec : DT1 → Int → Option DT10) (k0 : DT1 → Option DT10) : Option DT10 :=
  cond (decide (x24 < x23))
  (cond (inR x24 (List.length x22))
    (cond (!(Option.isSome (lookM (eqD (T.int IntKind.i64)) (List.getD x22 (Int.toNat x24) ((0 : Int), ((0 : Int), ()))).1 (Option.getD d.2.1 ([] : List (Int × Int))))))
      (cond (Option.isSome d.2.1)
        (rec (d.1, ((Option.some (setM (eqD (T.int IntKind.i64)) (List.getD x22 (Int.toNat x24) ((0 : Int), ((0 : Int), ()))).1 (if ((128 : Int) < (if ((0 : Int) > (List.getD x22 (Int.toNat x24) ((0 : Int), ((0 : Int), ()))).2.1) then (0 : Int) else (List.getD x22 (Int.toNat x24) ((0 : Int), ((0 : Int), ()))).2.1)) then (128 : Int) else (if ((0 : Int) > (List.getD x22 (Int.toNat x24) ((0 : Int), ((0 : Int), ()))).2.1) then (0 : Int) else (List.getD x22 (Int.toNat x24) ((0 : Int), ((0 : Int), ()))).2.1)) (Option.getD d.2.1 ([] : List (Int × Int))))), d.2.2)) (IntKind.wrap IntKind.i64 (x24 + (1 : Int))))
        (none))
      (rec d (IntKind.wrap IntKind.i64 (x24 + (1 : Int)))))
    (none))
  (k0 d)

noncomputable def disk_New_p3 (N : Nat) (d : DT1) (x22 : (List (Int × (Int × Unit)))) (x23 : Int) (x24 : Int) (k0 : DT1 → Option DT10) : Option DT10 :=
  iter (fun (v : (DT1 × Int)) r => disk_New_s3 N x22 x23 v.1 v.2 (fun d x24 => (r (d, x24))) k0) N (d, x24)

noncomputable def g3_0 (N : Nat) (i : ((List (Int × (Int × Unit))) × Int)) (v : (DT1 × Int)) (r : (DT1 × Int) → Option DT10) (K : Ex → List A → Option DT10) : Option DT10 :=
  disk_New_s3 N i.1 i.2 v.1 v.2 (fun d x24 => (r (d, x24))) (fun a0 => (K (.exit 0) (mkS [(6, .box TT0)] 45 (a0, ()))))

noncomputable def h3_0 (N : Nat) : Hd DT10 := fun st K => (unS [(6, .box TT0), (15, .v (.sl TT15)), (0, .v (.int .i64)), (0, .v (.int .i64))] 27 (restr [24, 23, 22, 6] 0 st)).bind fun x => iter (fun v r => g3_0 N ((fun x => (x.2.1, x.2.2.1)) x) v r K) N ((fun x => (x.1, x.2.2.2.1)) x)

noncomputable def t3_0 (N : Nat) : Tab DT10 := []

theorem ok3_0 {N : Nat} {c : Ctx} (hb : Base Tryd.prog (E_0 N) c) : CodeOk Tryd.prog c (nodeAt body_0 [0, 1, 0, 1, 1, 1]) (h3_0 N) :=
  loop_ok (s := [(6, .box TT0), (15, .v (.sl TT15)), (0, .v (.int .i64)), (0, .v (.int .i64))]) (m := 27) (g3_0 N) [24, 23, 22, 6] N (fun x => (x.2.1, x.2.2.1)) (fun x => (x.1, x.2.2.2.1)) (fun i v => (v.1, i.1, i.2, v.2, ())) (fun _ => rfl) (evN_sound hb N (t3_0 N) L_0 body_0 TabOk.nil [0, 0, 1, 0, 1, 1, 1] _ rfl) (fun i v r K => by kernel_rfl)

noncomputable def disk_New (N : Nat) (blocks : Int) (crashes : (List (Int × (Int × Unit)))) : Option DT10 :=
  disk_New_p1 N blocks crashes
  (fun x5 => some ((Option.none), (x5, ())))
  (cond (decide (((0 : Int) ≤ blocks) ∧ ((blocks ≤ blocks) ∧ (((blocks * (128 : Int)) ≤ (281474976710656 : Int)) ∧ (blocks ≤ (9223372036854775807 : Int))))))
    (disk_New_p3 N ((List.replicate (Int.toNat blocks) ((0 : Int) :: (0 : Int) :: (0 : Int) :: (0 : Int) :: (0 : Int) :: (0 : Int) :: (0 : Int) :: (0 : Int) :: (0 : Int) :: (0 : Int) :: (0 : Int) :: (0 : Int) :: (0 : Int) :: (0 : Int) :: (0 : Int) :: (0 : Int) :: (0 : Int) :: (0 : Int) :: (0 : Int) :: (0 : Int) :: (0 : Int) :: (0 : Int) :: (0 : Int) :: (0 : Int) :: (0 : Int) :: (0 : Int) :: (0 : Int) :: (0 : Int) :: (0 : Int) :: (0 : Int) :: (0 : Int) :: (0 : Int) :: (0 : Int) :: (0 : Int) :: (0 : Int) :: (0 : Int) :: (0 : Int) :: (0 : Int) :: (0 : Int) :: (0 : Int) :: (0 : Int) :: (0 : Int) :: (0 : Int) :: (0 : Int) :: (0 : Int) :: (0 : Int) :: (0 : Int) :: (0 : Int) :: (0 : Int) :: (0 : Int) :: (0 : Int) :: (0 : Int) :: (0 : Int) :: (0 : Int) :: (0 : Int) :: (0 : Int) :: (0 : Int) :: (0 : Int) :: (0 : Int) :: (0 : Int) :: (0 : Int) :: (0 : Int) :: (0 : Int) :: (0 : Int) :: (0 : Int) :: (0 : Int) :: (0 : Int) :: (0 : Int) :: (0 : Int) :: (0 : Int) :: (0 : Int) :: (0 : Int) :: (0 : Int) :: (0 : Int) :: (0 : Int) :: (0 : Int) :: (0 : Int) :: (0 : Int) :: (0 : Int) :: (0 : Int) :: (0 : Int) :: (0 : Int) :: (0 : Int) :: (0 : Int) :: (0 : Int) :: (0 : Int) :: (0 : Int) :: (0 : Int) :: (0 : Int) :: (0 : Int) :: (0 : Int) :: (0 : Int) :: (0 : Int) :: (0 : Int) :: (0 : Int) :: (0 : Int) :: (0 : Int) :: (0 : Int) :: (0 : Int) :: (0 : Int) :: (0 : Int) :: (0 : Int) :: (0 : Int) :: (0 : Int) :: (0 : Int) :: (0 : Int) :: (0 : Int) :: (0 : Int) :: (0 : Int) :: (0 : Int) :: (0 : Int) :: (0 : Int) :: (0 : Int) :: (0 : Int) :: (0 : Int) :: (0 : Int) :: (0 : Int) :: (0 : Int) :: (0 : Int) :: (0 : Int) :: (0 : Int) :: (0 : Int) :: (0 : Int) :: (0 : Int) :: (0 : Int) :: (0 : Int) :: (0 : Int) :: (0 : Int) :: ([] : List Int))), ((Option.some ([] : List (Int × Int))), (false, ((0 : Int), ())))) crashes (((List.length crashes) : Nat) : Int) (0 : Int)
      (fun d => some ((Option.some d), ((0 : Int), ()))))
    (none))

noncomputable def t_0 (N : Nat) : Tab DT10 := [([0, 1], h1_0 N), ([0, 1, 0, 1, 1, 1], h3_0 N)]

theorem link_0 (N : Nat) (x : denS [(0, .v (.int .i64)), (0, .v (.sl TT15))]) : evFX (E_0 N) N (t_0 N) L_0 Tryd.f7 (mkS [(0, .v (.int .i64)), (0, .v (.sl TT15))] 0 x) (kRes (.otup [(.nb TT0), (.int .i64)]) 2) = disk_New N x.1 x.2.1 := by kernel_rfl

noncomputable def disk_New_res (N : Nat) : List A → Res := resOf [(0, .v (.int .i64)), (0, .v (.sl TT15))] (fun x => disk_New N x.1 x.2.1) (oRes (.otup [(.nb TT0), (.int .i64)]) 2)

theorem disk_New_ct (N : Nat) : Contract Tryd.prog glob 7 (disk_New_res N) :=
  Contract.of (E := E_0 N) (H := t_0 N) (L := L_0) (N := N) (body := body_0) (K := (kRes (.otup [(.nb TT0), (.int .i64)]) 2)) (Eok_0 N) Tryd.func7 (by kernel_rfl) (by decide) (fun _ hb => (TabOk.cons (ok1_0 hb) (TabOk.cons (ok3_0 hb) TabOk.nil))) (fun x y h => by rw [link_0]; exact h) (kRes_ok (s := (.otup [(.nb TT0), (.int .i64)])) (m := 2))

noncomputable def body_1 : Code := (Tryd.f7.body).getD .skip

noncomputable def L_1 : List (List Nat × List Nat) := [([0], [0, 1]), ([0, 0, 1], [16, 0, 1]), ([1, 0, 1], [0, 1]), ([0, 0, 1, 0, 1], [4, 5]), ([1, 0, 1, 0, 1], [4, 5]), ([0, 1, 1], [1, 6]), ([0, 0, 1, 1, 1], [24, 23, 22, 6]), ([0, 1, 0, 1, 1, 1], [24, 23, 22, 6]), ([0, 0, 0, 1, 0, 1, 1, 1], [25, 22, 24, 6, 23]), ([0, 1, 0, 0, 1, 0, 1, 1, 1], [22, 24, 6, 23]), ([1, 0, 1, 0, 0, 1, 0, 1, 1, 1], [6]), ([0, 0, 0, 1, 1, 0, 0, 1, 0, 1, 1, 1], [6, 8, 24, 23, 22]), ([0, 1, 0, 0, 1, 1, 0, 0, 1, 0, 1, 1, 1], [10, 6, 8, 24, 23, 22]), ([0, 1, 1, 0, 0, 1, 1, 0, 0, 1, 0, 1, 1, 1], [39, 6, 8, 24, 23, 22]), ([1, 1, 1, 0, 0, 1, 1, 0, 0, 1, 0, 1, 1, 1], [24, 23, 22, 6]), ([0, 1, 1, 1, 0, 0, 1, 1, 0, 0, 1, 0, 1, 1, 1], [24, 23, 22, 6]), ([0, 1, 1, 0, 0, 1, 0, 1, 1, 1], [24, 23, 22, 6]), ([1, 1, 1, 0, 0, 1, 0, 1, 1, 1], [24, 23, 22, 6]), ([1, 0, 1, 1, 1], [6]), ([0, 1, 1, 1, 1], [4, 5]), ([1, 1, 1, 1, 1], [4, 5])]

noncomputable def E_1 (N : Nat) : Env := mkEnv tys glob [] [] [] [] false [(4, TT0), (20, TT0), (21, TT0)] [] [(.nb TT0), (.int .i64)]

theorem Eok_1 (N : Nat) : EnvOk Tryd.prog (E_1 N) := mkEnv_ok mixed tys_ok (FnsOk.nil) (ItsOk.nil)

noncomputable def disk_New_none_p2 (N : Nat) (blocks : Int) (k0 : Bool → Option DT10) : Option DT10 :=
  cond (decide (blocks < (1 : Int)))
  (k0 true)
  (k0 (decide ((4096 : Int) < blocks)))

noncomputable def g2_1 (N : Nat) (x : denS [(0, .v (.int .i64)), (0, .nilsl)]) (K : Ex → List A → Option DT10) : Option DT10 :=
  disk_New_none_p2 N x.1 (fun a1 => (K .normal (mkS [(0, .v (.int .i64)), (0, .nilsl), (14, .v .bool)] 35 (x.1, (), a1, ()))))

noncomputable def h2_1 (N : Nat) : Hd DT10 := fun st K => (unS [(0, .v (.int .i64)), (0, .nilsl)] 50 (restr [0, 1] 0 st)).bind fun x => g2_1 N x K

noncomputable def t2_1 (N : Nat) : Tab DT10 := []

theorem ok2_1 {N : Nat} {c : Ctx} (hb : Base Tryd.prog (E_1 N) c) : CodeOk Tryd.prog c (nodeAt body_1 [0, 0, 1]) (h2_1 N) :=
  piece_ok (s := [(0, .v (.int .i64)), (0, .nilsl)]) (m := 50) (g := g2_1 N) [0, 1] (evN_sound hb N (t2_1 N) L_1 body_1 TabOk.nil [0, 0, 1] _ rfl) (fun x K => by kernel_rfl)

noncomputable def disk_New_none_p1 (N : Nat) (blocks : Int) (k0 : Int → Option DT10) (k1 : Option DT10) : Option DT10 :=
  disk_New_none_p2 N blocks
  (fun x16 => cond x16
    (k0 (7 : Int))
    (k1))

noncomputable def g1_1 (N : Nat) (x : denS [(0, .v (.int .i64)), (0, .nilsl)]) (K : Ex → List A → Option DT10) : Option DT10 :=
  disk_New_none_p1 N x.1 (fun a0 => (K .ret (mkS [(4, .nilp), (0, .v (.int .i64))] 46 ((), a0, ())))) (K .normal (mkS [(0, .v (.int .i64)), (0, .nilsl)] 50 (x.1, (), ())))

noncomputable def h1_1 (N : Nat) : Hd DT10 := fun st K => (unS [(0, .v (.int .i64)), (0, .nilsl)] 50 (restr [0, 1] 0 st)).bind fun x => g1_1 N x K

noncomputable def t1_1 (N : Nat) : Tab DT10 := [([0, 0, 1], h2_1 N)]

theorem ok1_1 {N : Nat} {c : Ctx} (hb : Base Tryd.prog (E_1 N) c) : CodeOk Tryd.prog c (nodeAt body_1 [0, 1]) (h1_1 N) :=
  piece_ok (s := [(0, .v (.int .i64)), (0, .nilsl)]) (m := 50) (g := g1_1 N) [0, 1] (evN_sound hb N (t1_1 N) L_1 body_1 (TabOk.cons (ok2_1 hb) TabOk.nil) [0, 1] _ rfl) (fun x K => by kernel_rfl)

noncomputable def disk_New_none_s3 (N : Nat) (d : DT1) (x23 : Int) (x24 : Int) (rec : Option DT10) (k0 : Option DT10) : Option DT10 :=
  cond (decide (x24 < x23))
  (none)
  (k0)

noncomputable def disk_New_none_p3 (N : Nat) (d : DT1) (x23 : Int) (x24 : Int) (k0 : Option DT10) : Option DT10 :=
  iter (fun (v : Unit) r => disk_New_none_s3 N d x23 x24 (r ()) k0) N ()

noncomputable def g3_1 (N : Nat) (i : (DT1 × Int × Int)) (v : Unit) (r : Unit → Option DT10) (K : Ex → List A → Option DT10) : Option DT10 :=
  disk_New_none_s3 N i.1 i.2.1 i.2.2 (r ()) (K (.exit 0) (mkS [(6, .box TT0)] 45 (i.1, ())))

noncomputable def h3_1 (N : Nat) : Hd DT10 := fun st K => (unS [(6, .box TT0), (15, .nilsl), (0, .v (.int .i64)), (0, .v (.int .i64))] 27 (restr [24, 23, 22, 6] 0 st)).bind fun x => iter (fun v r => g3_1 N ((fun x => (x.1, x.2.2.1, x.2.2.2.1)) x) v r K) N ((fun x => ()) x)

noncomputable def t3_1 (N : Nat) : Tab DT10 := []

theorem ok3_1 {N : Nat} {c : Ctx} (hb : Base Tryd.prog (E_1 N) c) : CodeOk Tryd.prog c (nodeAt body_1 [0, 1, 0, 1, 1, 1]) (h3_1 N) :=
  loop_ok (s := [(6, .box TT0), (15, .nilsl), (0, .v (.int .i64)), (0, .v (.int .i64))]) (m := 27) (g3_1 N) [24, 23, 22, 6] N (fun x => (x.1, x.2.2.1, x.2.2.2.1)) (fun x => ()) (fun i v => (i.1, (), i.2.1, i.2.2, ())) (fun _ => rfl) (evN_sound hb N (t3_1 N) L_1 body_1 TabOk.nil [0, 0, 1, 0, 1, 1, 1] _ rfl) (fun i v r K => by kernel_rfl)

noncomputable def disk_New_none (N : Nat) (blocks : Int) : Option DT10 :=
  disk_New_none_p1 N blocks
  (fun x5 => some ((Option.none), (x5, ())))
  (cond (decide (((0 : Int) ≤ blocks) ∧ ((blocks ≤ blocks) ∧ (((blocks * (128 : Int)) ≤ (281474976710656 : Int)) ∧ (blocks ≤ (9223372036854775807 : Int))))))
    (disk_New_none_p3 N ((List.replicate (Int.toNat blocks) ((0 : Int) :: (0 : Int) :: (0 : Int) :: (0 : Int) :: (0 : Int) :: (0 : Int) :: (0 : Int) :: (0 : Int) :: (0 : Int) :: (0 : Int) :: (0 : Int) :: (0 : Int) :: (0 : Int) :: (0 : Int) :: (0 : Int) :: (0 : Int) :: (0 : Int) :: (0 : Int) :: (0 : Int) :: (0 : Int) :: (0 : Int) :: (0 : Int) :: (0 : Int) :: (0 : Int) :: (0 : Int) :: (0 : Int) :: (0 : Int) :: (0 : Int) :: (0 : Int) :: (0 : Int) :: (0 : Int) :: (0 : Int) :: (0 : Int) :: (0 : Int) :: (0 : Int) :: (0 : Int) :: (0 : Int) :: (0 : Int) :: (0 : Int) :: (0 : Int) :: (0 : Int) :: (0 : Int) :: (0 : Int) :: (0 : Int) :: (0 : Int) :: (0 : Int) :: (0 : Int) :: (0 : Int) :: (0 : Int) :: (0 : Int) :: (0 : Int) :: (0 : Int) :: (0 : Int) :: (0 : Int) :: (0 : Int) :: (0 : Int) :: (0 : Int) :: (0 : Int) :: (0 : Int) :: (0 : Int) :: (0 : Int) :: (0 : Int) :: (0 : Int) :: (0 : Int) :: (0 : Int) :: (0 : Int) :: (0 : Int) :: (0 : Int) :: (0 : Int) :: (0 : Int) :: (0 : Int) :: (0 : Int) :: (0 : Int) :: (0 : Int) :: (0 : Int) :: (0 : Int) :: (0 : Int) :: (0 : Int) :: (0 : Int) :: (0 : Int) :: (0 : Int) :: (0 : Int) :: (0 : Int) :: (0 : Int) :: (0 : Int) :: (0 : Int) :: (0 : Int) :: (0 : Int) :: (0 : Int) :: (0 : Int) :: (0 : Int) :: (0 : Int) :: (0 : Int) :: (0 : Int) :: (0 : Int) :: (0 : Int) :: (0 : Int) :: (0 : Int) :: (0 : Int) :: (0 : Int) :: (0 : Int) :: (0 : Int) :: (0 : Int) :: (0 : Int) :: (0 : Int) :: (0 : Int) :: (0 : Int) :: (0 : Int) :: (0 : Int) :: (0 : Int) :: (0 : Int) :: (0 : Int) :: (0 : Int) :: (0 : Int) :: (0 : Int) :: (0 : Int) :: (0 : Int) :: (0 : Int) :: (0 : Int) :: (0 : Int) :: (0 : Int) :: (0 : Int) :: (0 : Int) :: (0 : Int) :: (0 : Int) :: (0 : Int) :: (0 : Int) :: (0 : Int) :: ([] : List Int))), ((Option.some ([] : List (Int × Int))), (false, ((0 : Int), ())))) (0 : Int) (0 : Int)
      (some ((Option.some ((List.replicate (Int.toNat blocks) ((0 : Int) :: (0 : Int) :: (0 : Int) :: (0 : Int) :: (0 : Int) :: (0 : Int) :: (0 : Int) :: (0 : Int) :: (0 : Int) :: (0 : Int) :: (0 : Int) :: (0 : Int) :: (0 : Int) :: (0 : Int) :: (0 : Int) :: (0 : Int) :: (0 : Int) :: (0 : Int) :: (0 : Int) :: (0 : Int) :: (0 : Int) :: (0 : Int) :: (0 : Int) :: (0 : Int) :: (0 : Int) :: (0 : Int) :: (0 : Int) :: (0 : Int) :: (0 : Int) :: (0 : Int) :: (0 : Int) :: (0 : Int) :: (0 : Int) :: (0 : Int) :: (0 : Int) :: (0 : Int) :: (0 : Int) :: (0 : Int) :: (0 : Int) :: (0 : Int) :: (0 : Int) :: (0 : Int) :: (0 : Int) :: (0 : Int) :: (0 : Int) :: (0 : Int) :: (0 : Int) :: (0 : Int) :: (0 : Int) :: (0 : Int) :: (0 : Int) :: (0 : Int) :: (0 : Int) :: (0 : Int) :: (0 : Int) :: (0 : Int) :: (0 : Int) :: (0 : Int) :: (0 : Int) :: (0 : Int) :: (0 : Int) :: (0 : Int) :: (0 : Int) :: (0 : Int) :: (0 : Int) :: (0 : Int) :: (0 : Int) :: (0 : Int) :: (0 : Int) :: (0 : Int) :: (0 : Int) :: (0 : Int) :: (0 : Int) :: (0 : Int) :: (0 : Int) :: (0 : Int) :: (0 : Int) :: (0 : Int) :: (0 : Int) :: (0 : Int) :: (0 : Int) :: (0 : Int) :: (0 : Int) :: (0 : Int) :: (0 : Int) :: (0 : Int) :: (0 : Int) :: (0 : Int) :: (0 : Int) :: (0 : Int) :: (0 : Int) :: (0 : Int) :: (0 : Int) :: (0 : Int) :: (0 : Int) :: (0 : Int) :: (0 : Int) :: (0 : Int) :: (0 : Int) :: (0 : Int) :: (0 : Int) :: (0 : Int) :: (0 : Int) :: (0 : Int) :: (0 : Int) :: (0 : Int) :: (0 : Int) :: (0 : Int) :: (0 : Int) :: (0 : Int) :: (0 : Int) :: (0 : Int) :: (0 : Int) :: (0 : Int) :: (0 : Int) :: (0 : Int) :: (0 : Int) :: (0 : Int) :: (0 : Int) :: (0 : Int) :: (0 : Int) :: (0 : Int) :: (0 : Int) :: (0 : Int) :: (0 : Int) :: (0 : Int) :: (0 : Int) :: (0 : Int) :: ([] : List Int))), ((Option.some ([] : List (Int × Int))), (false, ((0 : Int), ()))))), ((0 : Int), ()))))
    (none))

noncomputable def t_1 (N : Nat) : Tab DT10 := [([0, 1], h1_1 N), ([0, 1, 0, 1, 1, 1], h3_1 N)]

theorem link_1 (N : Nat) (x : denS [(0, .v (.int .i64)), (0, .nilsl)]) : evFX (E_1 N) N (t_1 N) L_1 Tryd.f7 (mkS [(0, .v (.int .i64)), (0, .nilsl)] 0 x) (kRes (.otup [(.nb TT0), (.int .i64)]) 2) = disk_New_none N x.1 := by kernel_rfl

noncomputable def disk_New_none_res (N : Nat) : List A → Res := resOf [(0, .v (.int .i64)), (0, .nilsl)] (fun x => disk_New_none N x.1) (oRes (.otup [(.nb TT0), (.int .i64)]) 2)

theorem disk_New_none_ct (N : Nat) : Contract Tryd.prog glob 7 (disk_New_none_res N) :=
  Contract.of (E := E_1 N) (H := t_1 N) (L := L_1) (N := N) (body := body_1) (K := (kRes (.otup [(.nb TT0), (.int .i64)]) 2)) (Eok_1 N) Tryd.func7 (by kernel_rfl) (by decide) (fun _ hb => (TabOk.cons (ok1_1 hb) (TabOk.cons (ok3_1 hb) TabOk.nil))) (fun x y h => by rw [link_1]; exact h) (kRes_ok (s := (.otup [(.nb TT0), (.int .i64)])) (m := 2))

noncomputable def disk_New_none_all (N : Nat) : List A → Res := resAlt [(0, .v (.int .i64)), (0, .nilsl)] (fun x => disk_New_none N x.1) (oRes (.otup [(.nb TT0), (.int .i64)]) 2) (disk_New_res N)

theorem disk_New_none_allct (N : Nat) : Contract Tryd.prog glob 7 (disk_New_none_all N) := Contract.alt (disk_New_none_ct N) (disk_New_ct N)

noncomputable def body_2 : Code := (Tryd.f25.body).getD .skip

noncomputable def L_2 : List (List Nat × List Nat) := [([0], [0]), ([0, 0, 1], [4, 0]), ([1, 0, 1], [0]), ([0, 0, 1, 0, 1], [2, 0]), ([1, 0, 1, 0, 1], [2, 0]), ([0, 1, 1], [2, 0]), ([1, 1, 1], [2, 0])]

noncomputable def E_2 (N : Nat) : Env := mkEnv tys glob [] [] [] [0] false [] []

theorem Eok_2 (N : Nat) : EnvOk Tryd.prog (E_2 N) := mkEnv_ok mixed tys_ok (FnsOk.nil) (ItsOk.nil)

noncomputable def disk_Disk_Blocks (N : Nat) (d : DT1) : Option (Int × (DT1 × Unit)) :=
  some ((((List.length d.1) : Nat) : Int), (d, ()))

noncomputable def t_2 (N : Nat) : Tab (Int × (DT1 × Unit)) := []

theorem link_2 (N : Nat) (x : denS [(0, .box TT0)]) : evFX (E_2 N) N (t_2 N) L_2 Tryd.f25 (mkS [(0, .box TT0)] 0 x) (kResB (.v (.int .i64)) [(0, .box TT0)] 0) = disk_Disk_Blocks N x.1 := by kernel_rfl

noncomputable def disk_Disk_Blocks_res (N : Nat) : List A → Res := resOf [(0, .box TT0)] (fun x => disk_Disk_Blocks N x.1) (oResB (.v (.int .i64)) [(0, .box TT0)] 0)

theorem disk_Disk_Blocks_ct (N : Nat) : Contract Tryd.prog glob 25 (disk_Disk_Blocks_res N) :=
  Contract.of (E := E_2 N) (H := t_2 N) (L := L_2) (N := N) (body := body_2) (K := (kResB (.v (.int .i64)) [(0, .box TT0)] 0)) (Eok_2 N) Tryd.func25 (by kernel_rfl) (by decide) (fun _ hb => TabOk.nil) (fun x y h => by rw [link_2]; exact h) (kResB_ok (s := (.v (.int .i64))) (os := [(0, .box TT0)]) (m := 0))

noncomputable def body_3 : Code := (Tryd.f25.body).getD .skip

noncomputable def L_3 : List (List Nat × List Nat) := [([0], [0]), ([0, 0, 1], [4, 0]), ([1, 0, 1], [0]), ([0, 0, 1, 0, 1], [2]), ([1, 0, 1, 0, 1], [2]), ([0, 1, 1], [2]), ([1, 1, 1], [2])]

noncomputable def E_3 (N : Nat) : Env := mkEnv tys glob [] [] [] [] false [] []

theorem Eok_3 (N : Nat) : EnvOk Tryd.prog (E_3 N) := mkEnv_ok mixed tys_ok (FnsOk.nil) (ItsOk.nil)

noncomputable def disk_Disk_Blocks_nil (N : Nat) : Option Int :=
  some (0 : Int)

noncomputable def t_3 (N : Nat) : Tab Int := []

theorem link_3 (N : Nat) (x : denS [(0, .nilp)]) : evFX (E_3 N) N (t_3 N) L_3 Tryd.f25 (mkS [(0, .nilp)] 0 x) (kRes (.v (.int .i64)) 1) = disk_Disk_Blocks_nil N := by kernel_rfl

noncomputable def disk_Disk_Blocks_nil_res (N : Nat) : List A → Res := resOf [(0, .nilp)] (fun x => disk_Disk_Blocks_nil N) (oRes (.v (.int .i64)) 1)

theorem disk_Disk_Blocks_nil_ct (N : Nat) : Contract Tryd.prog glob 25 (disk_Disk_Blocks_nil_res N) :=
  Contract.of (E := E_3 N) (H := t_3 N) (L := L_3) (N := N) (body := body_3) (K := (kRes (.v (.int .i64)) 1)) (Eok_3 N) Tryd.func25 (by kernel_rfl) (by decide) (fun _ hb => TabOk.nil) (fun x y h => by rw [link_3]; exact h) (kRes_ok (s := (.v (.int .i64))) (m := 1))

noncomputable def disk_Disk_Blocks_nil_all (N : Nat) : List A → Res := resAlt [(0, .nilp)] (fun x => disk_Disk_Blocks_nil N) (oRes (.v (.int .i64)) 1) (disk_Disk_Blocks_res N)

theorem disk_Disk_Blocks_nil_allct (N : Nat) : Contract Tryd.prog glob 25 (disk_Disk_Blocks_nil_all N) := Contract.alt (disk_Disk_Blocks_nil_ct N) (disk_Disk_Blocks_ct N)

noncomputable def body_4 : Code := (Tryd.f11.body).getD .skip

noncomputable def L_4 : List (List Nat × List Nat) := [([0], [0, 1, 2]), ([0, 0, 1], [21, 0, 1, 2]), ([1, 0, 1], [0, 1, 2]), ([0, 0, 1, 0, 1], [6]), ([1, 0, 1, 0, 1], [6]), ([0, 1, 1], [2, 7]), ([0, 0, 1, 1, 1], [27, 7]), ([1, 0, 1, 1, 1], [7]), ([0, 1, 0, 1, 1, 1], [7]), ([0, 1, 1, 1, 1], [6]), ([1, 1, 1, 1, 1], [6])]

noncomputable def E_4 (N : Nat) : Env := mkEnv tys glob [] [] [] [] false [] []

theorem Eok_4 (N : Nat) : EnvOk Tryd.prog (E_4 N) := mkEnv_ok mixed tys_ok (FnsOk.nil) (ItsOk.nil)

noncomputable def entry_Mark_p2 (N : Nat) (gen : Int) (index : Int) (head : Bool) (k0 : Bool → Option Int) : Option Int :=
  cond (decide (gen < (1 : Int)))
  (k0 true)
  (cond (decide ((1099511627776 : Int) < gen))
    (k0 true)
    (cond (decide (index < (0 : Int)))
      (k0 true)
      (k0 (decide ((4095 : Int) < index)))))

noncomputable def g2_4 (N : Nat) (x : denS [(0, .v (.int .i64)), (0, .v (.int .i64)), (0, .v .bool)]) (K : Ex → List A → Option Int) : Option Int :=
  entry_Mark_p2 N x.1 x.2.1 x.2.2.1 (fun a3 => (K .normal (mkS [(0, .v (.int .i64)), (0, .v (.int .i64)), (0, .v .bool), (18, .v .bool)] 9 (x.1, x.2.1, x.2.2.1, a3, ()))))

noncomputable def h2_4 (N : Nat) : Hd Int := fun st K => (unS [(0, .v (.int .i64)), (0, .v (.int .i64)), (0, .v .bool)] 28 (restr [0, 1, 2] 0 st)).bind fun x => g2_4 N x K

noncomputable def t2_4 (N : Nat) : Tab Int := []

theorem ok2_4 {N : Nat} {c : Ctx} (hb : Base Tryd.prog (E_4 N) c) : CodeOk Tryd.prog c (nodeAt body_4 [0, 0, 1]) (h2_4 N) :=
  piece_ok (s := [(0, .v (.int .i64)), (0, .v (.int .i64)), (0, .v .bool)]) (m := 28) (g := g2_4 N) [0, 1, 2] (evN_sound hb N (t2_4 N) L_4 body_4 TabOk.nil [0, 0, 1] _ rfl) (fun x K => by kernel_rfl)

noncomputable def entry_Mark_p1 (N : Nat) (gen : Int) (index : Int) (head : Bool) (k0 : Int → Option Int) (k1 : Option Int) : Option Int :=
  entry_Mark_p2 N gen index head
  (fun x21 => cond x21
    (k0 (0 : Int))
    (k1))

noncomputable def g1_4 (N : Nat) (x : denS [(0, .v (.int .i64)), (0, .v (.int .i64)), (0, .v .bool)]) (K : Ex → List A → Option Int) : Option Int :=
  entry_Mark_p1 N x.1 x.2.1 x.2.2.1 (fun a0 => (K .ret (mkS [(6, .v (.int .i64))] 24 (a0, ())))) (K .normal (mkS [(0, .v (.int .i64)), (0, .v (.int .i64)), (0, .v .bool)] 28 (x.1, x.2.1, x.2.2.1, ())))

noncomputable def h1_4 (N : Nat) : Hd Int := fun st K => (unS [(0, .v (.int .i64)), (0, .v (.int .i64)), (0, .v .bool)] 28 (restr [0, 1, 2] 0 st)).bind fun x => g1_4 N x K

noncomputable def t1_4 (N : Nat) : Tab Int := [([0, 0, 1], h2_4 N)]

theorem ok1_4 {N : Nat} {c : Ctx} (hb : Base Tryd.prog (E_4 N) c) : CodeOk Tryd.prog c (nodeAt body_4 [0, 1]) (h1_4 N) :=
  piece_ok (s := [(0, .v (.int .i64)), (0, .v (.int .i64)), (0, .v .bool)]) (m := 28) (g := g1_4 N) [0, 1, 2] (evN_sound hb N (t1_4 N) L_4 body_4 (TabOk.cons (ok2_4 hb) TabOk.nil) [0, 1] _ rfl) (fun x K => by kernel_rfl)

noncomputable def entry_Mark (N : Nat) (gen : Int) (index : Int) (head : Bool) : Option Int :=
  entry_Mark_p1 N gen index head
  (fun x6 => some x6)
  (cond head
    (some (IntKind.wrap IntKind.i64 ((IntKind.wrap IntKind.i64 ((IntKind.wrap IntKind.i64 (gen * (2097152 : Int))) + (IntKind.wrap IntKind.i64 ((2 : Int) * index)))) + (1 : Int))))
    (some (IntKind.wrap IntKind.i64 ((IntKind.wrap IntKind.i64 (gen * (2097152 : Int))) + (IntKind.wrap IntKind.i64 ((2 : Int) * index))))))

noncomputable def t_4 (N : Nat) : Tab Int := [([0, 1], h1_4 N)]

theorem link_4 (N : Nat) (x : denS [(0, .v (.int .i64)), (0, .v (.int .i64)), (0, .v .bool)]) : evFX (E_4 N) N (t_4 N) L_4 Tryd.f11 (mkS [(0, .v (.int .i64)), (0, .v (.int .i64)), (0, .v .bool)] 0 x) (kRes (.v (.int .i64)) 3) = entry_Mark N x.1 x.2.1 x.2.2.1 := by kernel_rfl

noncomputable def entry_Mark_res (N : Nat) : List A → Res := resOf [(0, .v (.int .i64)), (0, .v (.int .i64)), (0, .v .bool)] (fun x => entry_Mark N x.1 x.2.1 x.2.2.1) (oRes (.v (.int .i64)) 3)

theorem entry_Mark_ct (N : Nat) : Contract Tryd.prog glob 11 (entry_Mark_res N) :=
  Contract.of (E := E_4 N) (H := t_4 N) (L := L_4) (N := N) (body := body_4) (K := (kRes (.v (.int .i64)) 3)) (Eok_4 N) Tryd.func11 (by kernel_rfl) (by decide) (fun _ hb => (TabOk.cons (ok1_4 hb) TabOk.nil)) (fun x y h => by rw [link_4]; exact h) (kRes_ok (s := (.v (.int .i64))) (m := 3))

noncomputable def body_5 : Code := (Tryd.f12.body).getD .skip

noncomputable def L_5 : List (List Nat × List Nat) := [([0], [0]), ([0, 0, 1], [9, 0]), ([1, 0, 1], [0]), ([0, 0, 1, 0, 1], [2]), ([1, 0, 1, 0, 1], [2]), ([0, 1, 1], [3]), ([0, 1, 1, 1], [2]), ([1, 1, 1, 1], [2])]

noncomputable def E_5 (N : Nat) : Env := mkEnv tys glob [] [] [] [] false [] []

theorem Eok_5 (N : Nat) : EnvOk Tryd.prog (E_5 N) := mkEnv_ok mixed tys_ok (FnsOk.nil) (ItsOk.nil)

noncomputable def entry_Blocks_p2 (N : Nat) (n : Int) (k0 : Bool → Option Int) : Option Int :=
  cond (decide (n < (0 : Int)))
  (k0 true)
  (k0 (decide ((65536 : Int) < n)))

noncomputable def g2_5 (N : Nat) (x : denS [(0, .v (.int .i64))]) (K : Ex → List A → Option Int) : Option Int :=
  entry_Blocks_p2 N x.1 (fun a1 => (K .normal (mkS [(0, .v (.int .i64)), (8, .v .bool)] 8 (x.1, a1, ()))))

noncomputable def h2_5 (N : Nat) : Hd Int := fun st K => (unS [(0, .v (.int .i64))] 17 (restr [0] 0 st)).bind fun x => g2_5 N x K

noncomputable def t2_5 (N : Nat) : Tab Int := []

theorem ok2_5 {N : Nat} {c : Ctx} (hb : Base Tryd.prog (E_5 N) c) : CodeOk Tryd.prog c (nodeAt body_5 [0, 0, 1]) (h2_5 N) :=
  piece_ok (s := [(0, .v (.int .i64))]) (m := 17) (g := g2_5 N) [0] (evN_sound hb N (t2_5 N) L_5 body_5 TabOk.nil [0, 0, 1] _ rfl) (fun x K => by kernel_rfl)

noncomputable def entry_Blocks_p1 (N : Nat) (n : Int) (k0 : Int → Option Int) (k1 : Option Int) : Option Int :=
  entry_Blocks_p2 N n
  (fun x9 => cond x9
    (k0 (0 : Int))
    (k1))

noncomputable def g1_5 (N : Nat) (x : denS [(0, .v (.int .i64))]) (K : Ex → List A → Option Int) : Option Int :=
  entry_Blocks_p1 N x.1 (fun a0 => (K .ret (mkS [(2, .v (.int .i64))] 15 (a0, ())))) (K .normal (mkS [(0, .v (.int .i64))] 17 (x.1, ())))

noncomputable def h1_5 (N : Nat) : Hd Int := fun st K => (unS [(0, .v (.int .i64))] 17 (restr [0] 0 st)).bind fun x => g1_5 N x K

noncomputable def t1_5 (N : Nat) : Tab Int := [([0, 0, 1], h2_5 N)]

theorem ok1_5 {N : Nat} {c : Ctx} (hb : Base Tryd.prog (E_5 N) c) : CodeOk Tryd.prog c (nodeAt body_5 [0, 1]) (h1_5 N) :=
  piece_ok (s := [(0, .v (.int .i64))]) (m := 17) (g := g1_5 N) [0] (evN_sound hb N (t1_5 N) L_5 body_5 (TabOk.cons (ok2_5 hb) TabOk.nil) [0, 1] _ rfl) (fun x K => by kernel_rfl)

noncomputable def entry_Blocks (N : Nat) (n : Int) : Option Int :=
  entry_Blocks_p1 N n
  (fun x2 => some x2)
  (some (IntKind.wrap IntKind.i64 ((1 : Int) + (IntKind.wrap IntKind.i64 (Int.tdiv (IntKind.wrap IntKind.i64 ((IntKind.wrap IntKind.i64 ((if ((0 : Int) > (IntKind.wrap IntKind.i64 (n - (102 : Int)))) then (0 : Int) else (IntKind.wrap IntKind.i64 (n - (102 : Int)))) + (110 : Int))) - (1 : Int))) (110 : Int))))))

noncomputable def t_5 (N : Nat) : Tab Int := [([0, 1], h1_5 N)]

theorem link_5 (N : Nat) (x : denS [(0, .v (.int .i64))]) : evFX (E_5 N) N (t_5 N) L_5 Tryd.f12 (mkS [(0, .v (.int .i64))] 0 x) (kRes (.v (.int .i64)) 1) = entry_Blocks N x.1 := by kernel_rfl

noncomputable def entry_Blocks_res (N : Nat) : List A → Res := resOf [(0, .v (.int .i64))] (fun x => entry_Blocks N x.1) (oRes (.v (.int .i64)) 1)

theorem entry_Blocks_ct (N : Nat) : Contract Tryd.prog glob 12 (entry_Blocks_res N) :=
  Contract.of (E := E_5 N) (H := t_5 N) (L := L_5) (N := N) (body := body_5) (K := (kRes (.v (.int .i64)) 1)) (Eok_5 N) Tryd.func12 (by kernel_rfl) (by decide) (fun _ hb => (TabOk.cons (ok1_5 hb) TabOk.nil)) (fun x y h => by rw [link_5]; exact h) (kRes_ok (s := (.v (.int .i64))) (m := 1))

noncomputable def body_6 : Code := (Tryd.f21.body).getD .skip

noncomputable def L_6 : List (List Nat × List Nat) := [([0], [0, 1, 2, 3, 4, 5]), ([0, 0, 0, 1], [14, 0, 1, 2, 3, 4, 5]), ([1, 0, 0, 1], [3, 5, 1, 0]), ([0, 1, 1, 0, 0, 1], [18, 0, 5, 3, 1]), ([1, 1, 1, 0, 0, 1], [3, 5, 1, 0]), ([0, 1, 1, 1, 1, 0, 0, 1], [35, 0, 3, 5, 1]), ([1, 1, 1, 1, 1, 0, 0, 1], [3, 5, 1, 0]), ([0, 0, 1, 1, 1, 1, 1, 0, 0, 1], [12, 0]), ([1, 0, 1, 1, 1, 1, 1, 0, 0, 1], [12, 0]), ([0, 0, 1, 1, 1, 0, 0, 1], [12, 0]), ([1, 0, 1, 1, 1, 0, 0, 1], [12, 0]), ([0, 0, 1, 0, 0, 1], [12, 0]), ([1, 0, 1, 0, 0, 1], [12, 0]), ([0, 1], [3, 5, 1, 0]), ([0, 1, 1], [13, 1, 0]), ([0, 0, 1, 1, 1], [53, 0]), ([1, 0, 1, 1, 1], [0]), ([0, 0, 1, 0, 1, 1, 1], [12, 0]), ([1, 0, 1, 0, 1, 1, 1], [12, 0]), ([0, 1, 1, 1, 1], [12, 0]), ([1, 1, 1, 1, 1], [12, 0])]

noncomputable def E_6 (N : Nat) : Env := mkEnv tys glob [(12, entry_Blocks_res N), (11, entry_Mark_res N), (25, disk_Disk_Blocks_nil_all N)] [] [] [0] false [] []

theorem Eok_6 (N : Nat) : EnvOk Tryd.prog (E_6 N) := mkEnv_ok mixed tys_ok (FnsOk.cons (entry_Blocks_ct N) (FnsOk.cons (entry_Mark_ct N) (FnsOk.cons (disk_Disk_Blocks_nil_allct N) (FnsOk.nil)))) (ItsOk.nil)

noncomputable def entry_check_p2 (N : Nat) (d : DT1) (from_ : Int) (gen : Int) (index : Int) (kind : Int) (text : (List UInt8)) (k0 : Bool → Option (Int × (DT1 × Unit))) : Option (Int × (DT1 × Unit)) :=
  cond (decide (from_ < (0 : Int)))
  (k0 true)
  ((entry_Mark N gen index true).bind fun y =>
    cond (y == (0 : Int))
    (k0 true)
    (cond (decide (kind < (0 : Int)))
      (k0 true)
      (k0 (decide ((255 : Int) < kind)))))

noncomputable def g2_6 (N : Nat) (x : denS [(0, .box TT0), (0, .v (.int .i64)), (0, .v (.int .i64)), (0, .v (.int .i64)), (0, .v (.int .i64)), (0, .v .str)]) (K : Ex → List A → Option (Int × (DT1 × Unit))) : Option (Int × (DT1 × Unit)) :=
  entry_check_p2 N x.1 x.2.1 x.2.2.1 x.2.2.2.1 x.2.2.2.2.1 x.2.2.2.2.2.1 (fun a4 => (K .normal (mkS [(0, .box TT0), (0, .v (.int .i64)), (1, .v (.int .i64)), (1, .v .str), (12, .v .bool)] 35 (x.1, x.2.1, x.2.2.2.1, x.2.2.2.2.2.1, a4, ()))))

noncomputable def h2_6 (N : Nat) : Hd (Int × (DT1 × Unit)) := fun st K => (unS [(0, .box TT0), (0, .v (.int .i64)), (0, .v (.int .i64)), (0, .v (.int .i64)), (0, .v (.int .i64)), (0, .v .str)] 48 (restr [1, 2, 3, 4, 0, 5] 0 st)).bind fun x => g2_6 N x K

noncomputable def t2_6 (N : Nat) : Tab (Int × (DT1 × Unit)) := []

theorem ok2_6 {N : Nat} {c : Ctx} (hb : Base Tryd.prog (E_6 N) c) : CodeOk Tryd.prog c (nodeAt body_6 [0, 1, 1, 0, 0, 1]) (h2_6 N) :=
  piece_ok (s := [(0, .box TT0), (0, .v (.int .i64)), (0, .v (.int .i64)), (0, .v (.int .i64)), (0, .v (.int .i64)), (0, .v .str)]) (m := 48) (g := g2_6 N) [1, 2, 3, 4, 0, 5] (evN_sound hb N (t2_6 N) L_6 body_6 TabOk.nil [0, 1, 1, 0, 0, 1] _ rfl) (fun x K => by kernel_rfl)

noncomputable def entry_check_p1 (N : Nat) (d : DT1) (from_ : Int) (gen : Int) (index : Int) (kind : Int) (text : (List UInt8)) (k0 : Int → Option (Int × (DT1 × Unit))) (k1 : Option (Int × (DT1 × Unit))) : Option (Int × (DT1 × Unit)) :=
  cond ((((List.length d.1) : Nat) : Int) == (0 : Int))
  (k0 (21 : Int))
  (entry_check_p2 N d from_ gen index kind text
    (fun x18 => cond x18
      (k0 (7 : Int))
      (cond (decide ((65536 : Int) < (((List.length text) : Nat) : Int)))
        (k0 (3 : Int))
        (k1))))

noncomputable def g1_6 (N : Nat) (x : denS [(0, .box TT0), (0, .v (.int .i64)), (0, .v (.int .i64)), (0, .v (.int .i64)), (0, .v (.int .i64)), (0, .v .str)]) (K : Ex → List A → Option (Int × (DT1 × Unit))) : Option (Int × (DT1 × Unit)) :=
  entry_check_p1 N x.1 x.2.1 x.2.2.1 x.2.2.2.1 x.2.2.2.2.1 x.2.2.2.2.2.1 (fun a1 => (K .ret (mkS [(0, .box TT0), (11, .v (.int .i64))] 41 (x.1, a1, ())))) (K .normal (mkS [(0, .box TT0), (0, .v (.int .i64)), (1, .v (.int .i64)), (1, .v .str)] 48 (x.1, x.2.1, x.2.2.2.1, x.2.2.2.2.2.1, ())))

noncomputable def h1_6 (N : Nat) : Hd (Int × (DT1 × Unit)) := fun st K => (unS [(0, .box TT0), (0, .v (.int .i64)), (0, .v (.int .i64)), (0, .v (.int .i64)), (0, .v (.int .i64)), (0, .v .str)] 48 (restr [0, 1, 2, 3, 4, 5] 0 st)).bind fun x => g1_6 N x K

noncomputable def t1_6 (N : Nat) : Tab (Int × (DT1 × Unit)) := [([0, 1, 1, 0, 0, 1], h2_6 N)]

theorem ok1_6 {N : Nat} {c : Ctx} (hb : Base Tryd.prog (E_6 N) c) : CodeOk Tryd.prog c (nodeAt body_6 [0, 1]) (h1_6 N) :=
  piece_ok (s := [(0, .box TT0), (0, .v (.int .i64)), (0, .v (.int .i64)), (0, .v (.int .i64)), (0, .v (.int .i64)), (0, .v .str)]) (m := 48) (g := g1_6 N) [0, 1, 2, 3, 4, 5] (evN_sound hb N (t1_6 N) L_6 body_6 (TabOk.cons (ok2_6 hb) TabOk.nil) [0, 1] _ rfl) (fun x K => by kernel_rfl)

noncomputable def entry_check_p3 (N : Nat) (d : DT1) (from_ : Int) (end_ : Int) (k0 : Bool → Option (Int × (DT1 × Unit))) : Option (Int × (DT1 × Unit)) :=
  cond (decide ((4096 : Int) < end_))
  (k0 true)
  (k0 (decide ((IntKind.wrap IntKind.i64 ((((List.length d.1) : Nat) : Int) - end_)) < from_)))

noncomputable def g3_6 (N : Nat) (x : denS [(0, .box TT0), (0, .v (.int .i64)), (11, .v (.int .i64))]) (K : Ex → List A → Option (Int × (DT1 × Unit))) : Option (Int × (DT1 × Unit)) :=
  entry_check_p3 N x.1 x.2.1 x.2.2.1 (fun a1 => (K .normal (mkS [(0, .box TT0), (52, .v .bool)] 0 (x.1, a1, ()))))

noncomputable def h3_6 (N : Nat) : Hd (Int × (DT1 × Unit)) := fun st K => (unS [(0, .box TT0), (0, .v (.int .i64)), (11, .v (.int .i64))] 40 (restr [13, 1, 0] 0 st)).bind fun x => g3_6 N x K

noncomputable def t3_6 (N : Nat) : Tab (Int × (DT1 × Unit)) := []

theorem ok3_6 {N : Nat} {c : Ctx} (hb : Base Tryd.prog (E_6 N) c) : CodeOk Tryd.prog c (nodeAt body_6 [0, 0, 1, 1, 1]) (h3_6 N) :=
  piece_ok (s := [(0, .box TT0), (0, .v (.int .i64)), (11, .v (.int .i64))]) (m := 40) (g := g3_6 N) [13, 1, 0] (evN_sound hb N (t3_6 N) L_6 body_6 TabOk.nil [0, 0, 1, 1, 1] _ rfl) (fun x K => by kernel_rfl)

noncomputable def entry_check (N : Nat) (d : DT1) (from_ : Int) (gen : Int) (index : Int) (kind : Int) (text : (List UInt8)) : Option (Int × (DT1 × Unit)) :=
  entry_check_p1 N d from_ gen index kind text
  (fun x12 => some (x12, (d, ())))
  ((entry_Blocks N (((List.length text) : Nat) : Int)).bind fun y =>
    entry_check_p3 N d from_ (IntKind.wrap IntKind.i64 (index + y))
    (fun x53 => cond x53
      (some ((19 : Int), (d, ())))
      (some ((0 : Int), (d, ())))))

noncomputable def t_6 (N : Nat) : Tab (Int × (DT1 × Unit)) := [([0, 1], h1_6 N), ([0, 0, 1, 1, 1], h3_6 N)]

theorem link_6 (N : Nat) (x : denS [(0, .box TT0), (0, .v (.int .i64)), (0, .v (.int .i64)), (0, .v (.int .i64)), (0, .v (.int .i64)), (0, .v .str)]) : evFX (E_6 N) N (t_6 N) L_6 Tryd.f21 (mkS [(0, .box TT0), (0, .v (.int .i64)), (0, .v (.int .i64)), (0, .v (.int .i64)), (0, .v (.int .i64)), (0, .v .str)] 0 x) (kResB (.v (.int .i64)) [(0, .box TT0)] 5) = entry_check N x.1 x.2.1 x.2.2.1 x.2.2.2.1 x.2.2.2.2.1 x.2.2.2.2.2.1 := by kernel_rfl

noncomputable def entry_check_res (N : Nat) : List A → Res := resOf [(0, .box TT0), (0, .v (.int .i64)), (0, .v (.int .i64)), (0, .v (.int .i64)), (0, .v (.int .i64)), (0, .v .str)] (fun x => entry_check N x.1 x.2.1 x.2.2.1 x.2.2.2.1 x.2.2.2.2.1 x.2.2.2.2.2.1) (oResB (.v (.int .i64)) [(0, .box TT0)] 5)

theorem entry_check_ct (N : Nat) : Contract Tryd.prog glob 21 (entry_check_res N) :=
  Contract.of (E := E_6 N) (H := t_6 N) (L := L_6) (N := N) (body := body_6) (K := (kResB (.v (.int .i64)) [(0, .box TT0)] 5)) (Eok_6 N) Tryd.func21 (by kernel_rfl) (by decide) (fun _ hb => (TabOk.cons (ok1_6 hb) (TabOk.cons (ok3_6 hb) TabOk.nil))) (fun x y h => by rw [link_6]; exact h) (kResB_ok (s := (.v (.int .i64))) (os := [(0, .box TT0)]) (m := 5))

noncomputable def body_7 : Code := (Tryd.f21.body).getD .skip

noncomputable def L_7 : List (List Nat × List Nat) := [([0], [0, 1, 2, 3, 4, 5]), ([0, 0, 0, 1], [14, 1, 2, 3, 4, 5, 0]), ([1, 0, 0, 1], [3, 5, 1, 0]), ([0, 1, 1, 0, 0, 1], [18, 5, 3, 1, 0]), ([1, 1, 1, 0, 0, 1], [3, 5, 1, 0]), ([0, 1, 1, 1, 1, 0, 0, 1], [35, 3, 5, 1, 0]), ([1, 1, 1, 1, 1, 0, 0, 1], [3, 5, 1, 0]), ([0, 0, 1, 1, 1, 1, 1, 0, 0, 1], [12]), ([1, 0, 1, 1, 1, 1, 1, 0, 0, 1], [12]), ([0, 0, 1, 1, 1, 0, 0, 1], [12]), ([1, 0, 1, 1, 1, 0, 0, 1], [12]), ([0, 0, 1, 0, 0, 1], [12]), ([1, 0, 1, 0, 0, 1], [12]), ([0, 1], [3, 5, 1, 0]), ([0, 1, 1], [13, 1, 0]), ([0, 0, 1, 1, 1], [53]), ([1, 0, 1, 1, 1], []), ([0, 0, 1, 0, 1, 1, 1], [12]), ([1, 0, 1, 0, 1, 1, 1], [12]), ([0, 1, 1, 1, 1], [12]), ([1, 1, 1, 1, 1], [12])]

noncomputable def E_7 (N : Nat) : Env := mkEnv tys glob [(12, entry_Blocks_res N), (11, entry_Mark_res N), (25, disk_Disk_Blocks_nil_all N)] [] [] [] false [] []

theorem Eok_7 (N : Nat) : EnvOk Tryd.prog (E_7 N) := mkEnv_ok mixed tys_ok (FnsOk.cons (entry_Blocks_ct N) (FnsOk.cons (entry_Mark_ct N) (FnsOk.cons (disk_Disk_Blocks_nil_allct N) (FnsOk.nil)))) (ItsOk.nil)

noncomputable def entry_check_nil_p1 (N : Nat) (from_ : Int) (gen : Int) (index : Int) (kind : Int) (text : (List UInt8)) (k0 : Int → Option Int) : Option Int :=
  k0 (21 : Int)

noncomputable def g1_7 (N : Nat) (x : denS [(0, .nilp), (0, .v (.int .i64)), (0, .v (.int .i64)), (0, .v (.int .i64)), (0, .v (.int .i64)), (0, .v .str)]) (K : Ex → List A → Option Int) : Option Int :=
  entry_check_nil_p1 N x.2.1 x.2.2.1 x.2.2.2.1 x.2.2.2.2.1 x.2.2.2.2.2.1 (fun a0 => (K .ret (mkS [(12, .v (.int .i64))] 41 (a0, ()))))

noncomputable def h1_7 (N : Nat) : Hd Int := fun st K => (unS [(0, .nilp), (0, .v (.int .i64)), (0, .v (.int .i64)), (0, .v (.int .i64)), (0, .v (.int .i64)), (0, .v .str)] 48 (restr [0, 1, 2, 3, 4, 5] 0 st)).bind fun x => g1_7 N x K

noncomputable def t1_7 (N : Nat) : Tab Int := []

theorem ok1_7 {N : Nat} {c : Ctx} (hb : Base Tryd.prog (E_7 N) c) : CodeOk Tryd.prog c (nodeAt body_7 [0, 1]) (h1_7 N) :=
  piece_ok (s := [(0, .nilp), (0, .v (.int .i64)), (0, .v (.int .i64)), (0, .v (.int .i64)), (0, .v (.int .i64)), (0, .v .str)]) (m := 48) (g := g1_7 N) [0, 1, 2, 3, 4, 5] (evN_sound hb N (t1_7 N) L_7 body_7 TabOk.nil [0, 1] _ rfl) (fun x K => by kernel_rfl)

noncomputable def entry_check_nil (N : Nat) (from_ : Int) (gen : Int) (index : Int) (kind : Int) (text : (List UInt8)) : Option Int :=
  entry_check_nil_p1 N from_ gen index kind text
  (fun x12 => some x12)

noncomputable def t_7 (N : Nat) : Tab Int := [([0, 1], h1_7 N)]

theorem link_7 (N : Nat) (x : denS [(0, .nilp), (0, .v (.int .i64)), (0, .v (.int .i64)), (0, .v (.int .i64)), (0, .v (.int .i64)), (0, .v .str)]) : evFX (E_7 N) N (t_7 N) L_7 Tryd.f21 (mkS [(0, .nilp), (0, .v (.int .i64)), (0, .v (.int .i64)), (0, .v (.int .i64)), (0, .v (.int .i64)), (0, .v .str)] 0 x) (kRes (.v (.int .i64)) 6) = entry_check_nil N x.2.1 x.2.2.1 x.2.2.2.1 x.2.2.2.2.1 x.2.2.2.2.2.1 := by kernel_rfl

noncomputable def entry_check_nil_res (N : Nat) : List A → Res := resOf [(0, .nilp), (0, .v (.int .i64)), (0, .v (.int .i64)), (0, .v (.int .i64)), (0, .v (.int .i64)), (0, .v .str)] (fun x => entry_check_nil N x.2.1 x.2.2.1 x.2.2.2.1 x.2.2.2.2.1 x.2.2.2.2.2.1) (oRes (.v (.int .i64)) 6)

theorem entry_check_nil_ct (N : Nat) : Contract Tryd.prog glob 21 (entry_check_nil_res N) :=
  Contract.of (E := E_7 N) (H := t_7 N) (L := L_7) (N := N) (body := body_7) (K := (kRes (.v (.int .i64)) 6)) (Eok_7 N) Tryd.func21 (by kernel_rfl) (by decide) (fun _ hb => (TabOk.cons (ok1_7 hb) TabOk.nil)) (fun x y h => by rw [link_7]; exact h) (kRes_ok (s := (.v (.int .i64))) (m := 6))

noncomputable def entry_check_nil_all (N : Nat) : List A → Res := resAlt [(0, .nilp), (0, .v (.int .i64)), (0, .v (.int .i64)), (0, .v (.int .i64)), (0, .v (.int .i64)), (0, .v .str)] (fun x => entry_check_nil N x.2.1 x.2.2.1 x.2.2.2.1 x.2.2.2.2.1 x.2.2.2.2.2.1) (oRes (.v (.int .i64)) 6) (entry_check_res N)

theorem entry_check_nil_allct (N : Nat) : Contract Tryd.prog glob 21 (entry_check_nil_all N) := Contract.alt (entry_check_nil_ct N) (entry_check_ct N)

noncomputable def body_8 : Code := (Tryd.f33.body).getD .skip

noncomputable def L_8 : List (List Nat × List Nat) := [([0], [0]), ([0, 0, 1], [4]), ([1, 0, 1], []), ([0, 0, 1, 0, 1], [2]), ([1, 0, 1, 0, 1], [2]), ([0, 1, 1], [2]), ([1, 1, 1], [2])]

noncomputable def E_8 (N : Nat) : Env := mkEnv tys glob [] [] [] [] false [] []

theorem Eok_8 (N : Nat) : EnvOk Tryd.prog (E_8 N) := mkEnv_ok mixed tys_ok (FnsOk.nil) (ItsOk.nil)

noncomputable def entry_room (N : Nat) (block : Int) : Option Int :=
  cond (block == (0 : Int))
  (some (102 : Int))
  (some (110 : Int))

noncomputable def t_8 (N : Nat) : Tab Int := []

theorem link_8 (N : Nat) (x : denS [(0, .v (.int .i64))]) : evFX (E_8 N) N (t_8 N) L_8 Tryd.f33 (mkS [(0, .v (.int .i64))] 0 x) (kRes (.v (.int .i64)) 1) = entry_room N x.1 := by kernel_rfl

noncomputable def entry_room_res (N : Nat) : List A → Res := resOf [(0, .v (.int .i64))] (fun x => entry_room N x.1) (oRes (.v (.int .i64)) 1)

theorem entry_room_ct (N : Nat) : Contract Tryd.prog glob 33 (entry_room_res N) :=
  Contract.of (E := E_8 N) (H := t_8 N) (L := L_8) (N := N) (body := body_8) (K := (kRes (.v (.int .i64)) 1)) (Eok_8 N) Tryd.func33 (by kernel_rfl) (by decide) (fun _ hb => TabOk.nil) (fun x y h => by rw [link_8]; exact h) (kRes_ok (s := (.v (.int .i64))) (m := 1))

noncomputable def body_9 : Code := (Tryd.f22.body).getD .skip

noncomputable def L_9 : List (List Nat × List Nat) := [([0], [0]), ([0, 1], [3]), ([0, 1, 1], [4, 3]), ([0, 1, 1, 1], [4, 5, 3]), ([0, 0, 1, 1, 1, 1], [16, 15, 5, 3, 4]), ([0, 1, 0, 1, 1, 1, 1], [16, 15, 5, 3, 4]), ([0, 0, 0, 1, 0, 1, 1, 1, 1], [17, 16, 5, 3, 4, 15]), ([0, 1, 0, 0, 1, 0, 1, 1, 1, 1], [16, 5, 3, 4, 15]), ([1, 0, 1, 0, 0, 1, 0, 1, 1, 1, 1], [4]), ([0, 0, 0, 1, 1, 0, 0, 1, 0, 1, 1, 1, 1], [5, 6, 3, 4, 16, 15]), ([0, 1, 0, 0, 1, 1, 0, 0, 1, 0, 1, 1, 1, 1], [4, 6, 3, 5, 7, 16, 15]), ([0, 1, 1, 0, 0, 1, 1, 0, 0, 1, 0, 1, 1, 1, 1], [7, 16, 15, 3, 4]), ([1, 1, 1, 0, 0, 1, 1, 0, 0, 1, 0, 1, 1, 1, 1], [16, 15, 5, 3, 4]), ([0, 1, 1, 0, 0, 1, 0, 1, 1, 1, 1], [16, 15, 5, 3, 4]), ([1, 1, 1, 0, 0, 1, 0, 1, 1, 1, 1], [16, 15, 5, 3, 4]), ([1, 0, 1, 1, 1, 1], [4]), ([0, 1, 1, 1, 1, 1], [2]), ([1, 1, 1, 1, 1, 1], [2])]

noncomputable def E_9 (N : Nat) : Env := mkEnv tys glob [(33, entry_room_res N), (12, entry_Blocks_res N)] [(4, (.sl (.int .u8)))] [] [] false [] []

theorem Eok_9 (N : Nat) : EnvOk Tryd.prog (E_9 N) := mkEnv_ok mixed tys_ok (FnsOk.cons (entry_room_ct N) (FnsOk.cons (entry_Blocks_ct N) (FnsOk.nil))) (ItsOk.nil)

noncomputable def entry_split_s1 (N : Nat) (data : (List Int)) (x15 : Int) (parts : (List (List Int))) (from_ : Int) (x16 : Int) (rec : (List (List Int)) → Int → Int → Option (List (List Int))) (k0 : (List (List Int)) → Option (List (List Int))) : Option (List (List Int)) :=
  cond (decide (x16 < x15))
  ((entry_room N x16).bind fun y =>
    cond (decide (((if ((((List.length data) : Nat) : Int) < (IntKind.wrap IntKind.i64 (from_ + y))) then (((List.length data) : Nat) : Int) else (IntKind.wrap IntKind.i64 (from_ + y))) ≤ (if ((((List.length data) : Nat) : Int) < (IntKind.wrap IntKind.i64 (from_ + y))) then (((List.length data) : Nat) : Int) else (IntKind.wrap IntKind.i64 (from_ + y)))) ∧ ((if ((((List.length data) : Nat) : Int) < (IntKind.wrap IntKind.i64 (from_ + y))) then (((List.length data) : Nat) : Int) else (IntKind.wrap IntKind.i64 (from_ + y))) ≤ (((List.length data) : Nat) : Int))))
    (cond (decide (((0 : Int) ≤ (if ((((List.length data) : Nat) : Int) < (IntKind.wrap IntKind.i64 (from_ + y))) then (((List.length data) : Nat) : Int) else (IntKind.wrap IntKind.i64 (from_ + y)))) ∧ ((if ((((List.length data) : Nat) : Int) < (IntKind.wrap IntKind.i64 (from_ + y))) then (((List.length data) : Nat) : Int) else (IntKind.wrap IntKind.i64 (from_ + y))) ≤ (((List.length data) : Nat) : Int))))
      (cond (decide (((0 : Int) ≤ from_) ∧ (from_ ≤ (if ((((List.length data) : Nat) : Int) < (IntKind.wrap IntKind.i64 (from_ + y))) then (((List.length data) : Nat) : Int) else (IntKind.wrap IntKind.i64 (from_ + y))))))
        (cond (inR x16 (List.length parts))
          (cond (decide ((Int.toNat x16) < (List.length parts)))
            (rec (List.set parts (Int.toNat x16) (cut data (Int.toNat from_) (Int.toNat (if ((((List.length data) : Nat) : Int) < (IntKind.wrap IntKind.i64 (from_ + y))) then (((List.length data) : Nat) : Int) else (IntKind.wrap IntKind.i64 (from_ + y)))))) (if ((((List.length data) : Nat) : Int) < (IntKind.wrap IntKind.i64 (from_ + y))) then (((List.length data) : Nat) : Int) else (IntKind.wrap IntKind.i64 (from_ + y))) (IntKind.wrap IntKind.i64 (x16 + (1 : Int))))
            (none))
          (none))
        (none))
      (none))
    (none))
  (k0 parts)

noncomputable def entry_split_p1 (N : Nat) (data : (List Int)) (parts : (List (List Int))) (from_ : Int) (x15 : Int) (x16 : Int) (k0 : (List (List Int)) → Option (List (List Int))) : Option (List (List Int)) :=
  iter (fun (v : ((List (List Int)) × Int × Int)) r => entry_split_s1 N data x15 v.1 v.2.1 v.2.2 (fun parts from_ x16 => (r (parts, from_, x16))) k0) N (parts, from_, x16)

noncomputable def g1_9 (N : Nat) (i : ((List Int) × Int)) (v : ((List (List Int)) × Int × Int)) (r : ((List (List Int)) × Int × Int) → Option (List (List Int))) (K : Ex → List A → Option (List (List Int))) : Option (List (List Int)) :=
  entry_split_s1 N i.1 i.2 v.1 v.2.1 v.2.2 (fun parts from_ x16 => (r (parts, from_, x16))) (fun a0 => (K (.exit 0) (mkS [(4, .row (.sl (.int .u8)))] 32 (a0, ()))))

noncomputable def h1_9 (N : Nat) : Hd (List (List Int)) := fun st K => (unS [(3, .v (.sl (.int .u8))), (0, .row (.sl (.int .u8))), (0, .v (.int .i64)), (9, .v (.int .i64)), (0, .v (.int .i64))] 20 (restr [16, 15, 5, 3, 4] 0 st)).bind fun x => iter (fun v r => g1_9 N ((fun x => (x.1, x.2.2.2.1)) x) v r K) N ((fun x => (x.2.1, x.2.2.1, x.2.2.2.2.1)) x)

noncomputable def t1_9 (N : Nat) : Tab (List (List Int)) := []

theorem ok1_9 {N : Nat} {c : Ctx} (hb : Base Tryd.prog (E_9 N) c) : CodeOk Tryd.prog c (nodeAt body_9 [0, 1, 0, 1, 1, 1, 1]) (h1_9 N) :=
  loop_ok (s := [(3, .v (.sl (.int .u8))), (0, .row (.sl (.int .u8))), (0, .v (.int .i64)), (9, .v (.int .i64)), (0, .v (.int .i64))]) (m := 20) (g1_9 N) [16, 15, 5, 3, 4] N (fun x => (x.1, x.2.2.2.1)) (fun x => (x.2.1, x.2.2.1, x.2.2.2.2.1)) (fun i v => (i.1, v.1, v.2.1, i.2, v.2.2, ())) (fun _ => rfl) (evN_sound hb N (t1_9 N) L_9 body_9 TabOk.nil [0, 0, 1, 0, 1, 1, 1, 1] _ rfl) (fun i v r K => by kernel_rfl)

noncomputable def entry_split (N : Nat) (text : (List UInt8)) : Option (List (List Int)) :=
  (entry_Blocks N (((List.length (ofStr text)) : Nat) : Int)).bind fun y =>
  cond (decide (((0 : Int) ≤ y) ∧ ((y ≤ y) ∧ (((y * (24 : Int)) ≤ (281474976710656 : Int)) ∧ (y ≤ (9223372036854775807 : Int))))))
  (entry_split_p1 N (ofStr text) (List.replicate (Int.toNat y) ([] : List Int)) (0 : Int) (((List.length (List.replicate (Int.toNat y) ([] : List Int))) : Nat) : Int) (0 : Int)
    (fun parts => some parts))
  (none)

noncomputable def t_9 (N : Nat) : Tab (List (List Int)) := [([0, 1, 0, 1, 1, 1, 1], h1_9 N)]

theorem link_9 (N : Nat) (x : denS [(0, .v .str)]) : evFX (E_9 N) N (t_9 N) L_9 Tryd.f22 (mkS [(0, .v .str)] 0 x) (kRes (.v (.sl (.sl (.int .u8)))) 1) = entry_split N x.1 := by kernel_rfl

noncomputable def entry_split_res (N : Nat) : List A → Res := resOf [(0, .v .str)] (fun x => entry_split N x.1) (oRes (.v (.sl (.sl (.int .u8)))) 1)

theorem entry_split_ct (N : Nat) : Contract Tryd.prog glob 22 (entry_split_res N) :=
  Contract.of (E := E_9 N) (H := t_9 N) (L := L_9) (N := N) (body := body_9) (K := (kRes (.v (.sl (.sl (.int .u8)))) 1)) (Eok_9 N) Tryd.func22 (by kernel_rfl) (by decide) (fun _ hb => (TabOk.cons (ok1_9 hb) TabOk.nil)) (fun x y h => by rw [link_9]; exact h) (kRes_ok (s := (.v (.sl (.sl (.int .u8))))) (m := 1))

noncomputable def body_10 : Code := (Tryd.f46.body).getD .skip

noncomputable def L_10 : List (List Nat × List Nat) := [([0], [0]), ([0, 1], [3, 0]), ([0, 0, 1, 1], [6, 3, 0]), ([0, 1, 0, 1, 1], [6, 3, 0]), ([0, 0, 0, 1, 0, 1, 1], [7, 6, 3, 0]), ([0, 1, 0, 0, 1, 0, 1, 1], [6, 3, 0]), ([1, 0, 1, 0, 0, 1, 0, 1, 1], [3]), ([0, 0, 0, 1, 1, 0, 0, 1, 0, 1, 1], [3, 4, 0, 6]), ([1, 0, 0, 1, 1, 0, 0, 1, 0, 1, 1], [6, 3, 0]), ([0, 1, 1, 0, 0, 1, 0, 1, 1], [6, 3, 0]), ([1, 1, 1, 0, 0, 1, 0, 1, 1], [6, 3, 0]), ([1, 0, 1, 1], [3]), ([0, 1, 1, 1], [2]), ([1, 1, 1, 1], [2])]

noncomputable def E_10 (N : Nat) : Env := mkEnv tys glob [] [(3, (.int .u8))] [] [] false [] []

theorem Eok_10 (N : Nat) : EnvOk Tryd.prog (E_10 N) := mkEnv_ok mixed tys_ok (FnsOk.nil) (ItsOk.nil)

noncomputable def frame_littleEndian_s1 (N : Nat) (n : Int) (out : (List Int)) (x6 : Int) (rec : (List Int) → Int → Option (List UInt8)) (k0 : (List Int) → Option (List UInt8)) : Option (List UInt8) :=
  cond (decide (x6 < (8 : Int)))
  (cond (decide ((0 : Int) ≤ (IntKind.wrap IntKind.i64 ((8 : Int) * x6))))
    (cond (inR x6 (List.length out))
      (cond (decide ((Int.toNat x6) < (List.length out)))
        (rec (List.set out (Int.toNat x6) (IntKind.wrap IntKind.u8 (shrI IntKind.i64 n (IntKind.wrap IntKind.i64 ((8 : Int) * x6))))) (IntKind.wrap IntKind.i64 (x6 + (1 : Int))))
        (none))
      (none))
    (none))
  (k0 out)

noncomputable def frame_littleEndian_p1 (N : Nat) (n : Int) (out : (List Int)) (x6 : Int) (k0 : (List Int) → Option (List UInt8)) : Option (List UInt8) :=
  iter (fun (v : ((List Int) × Int)) r => frame_littleEndian_s1 N n v.1 v.2 (fun out x6 => (r (out, x6))) k0) N (out, x6)

noncomputable def g1_10 (N : Nat) (i : Int) (v : ((List Int) × Int)) (r : ((List Int) × Int) → Option (List UInt8)) (K : Ex → List A → Option (List UInt8)) : Option (List UInt8) :=
  frame_littleEndian_s1 N i v.1 v.2 (fun out x6 => (r (out, x6))) (fun a0 => (K (.exit 0) (mkS [(3, .row (.int .u8))] 16 (a0, ()))))

noncomputable def h1_10 (N : Nat) : Hd (List UInt8) := fun st K => (unS [(0, .v (.int .i64)), (2, .row (.int .u8)), (2, .v (.int .i64))] 13 (restr [6, 3, 0] 0 st)).bind fun x => iter (fun v r => g1_10 N ((fun x => x.1) x) v r K) N ((fun x => (x.2.1, x.2.2.1)) x)

noncomputable def t1_10 (N : Nat) : Tab (List UInt8) := []

theorem ok1_10 {N : Nat} {c : Ctx} (hb : Base Tryd.prog (E_10 N) c) : CodeOk Tryd.prog c (nodeAt body_10 [0, 1, 0, 1, 1]) (h1_10 N) :=
  loop_ok (s := [(0, .v (.int .i64)), (2, .row (.int .u8)), (2, .v (.int .i64))]) (m := 13) (g1_10 N) [6, 3, 0] N (fun x => x.1) (fun x => (x.2.1, x.2.2.1)) (fun i v => (i, v.1, v.2, ())) (fun _ => rfl) (evN_sound hb N (t1_10 N) L_10 body_10 TabOk.nil [0, 0, 1, 0, 1, 1] _ rfl) (fun i v r K => by kernel_rfl)

noncomputable def frame_littleEndian (N : Nat) (n : Int) : Option (List UInt8) :=
  frame_littleEndian_p1 N n ([(0 : Int), (0 : Int), (0 : Int), (0 : Int), (0 : Int), (0 : Int), (0 : Int), (0 : Int)] : List Int) (0 : Int)
  (fun out => some (toStr out))

noncomputable def t_10 (N : Nat) : Tab (List UInt8) := [([0, 1, 0, 1, 1], h1_10 N)]

theorem link_10 (N : Nat) (x : denS [(0, .v (.int .i64))]) : evFX (E_10 N) N (t_10 N) L_10 Tryd.f46 (mkS [(0, .v (.int .i64))] 0 x) (kRes (.v .str) 1) = frame_littleEndian N x.1 := by kernel_rfl

noncomputable def frame_littleEndian_res (N : Nat) : List A → Res := resOf [(0, .v (.int .i64))] (fun x => frame_littleEndian N x.1) (oRes (.v .str) 1)

theorem frame_littleEndian_ct (N : Nat) : Contract Tryd.prog glob 46 (frame_littleEndian_res N) :=
  Contract.of (E := E_10 N) (H := t_10 N) (L := L_10) (N := N) (body := body_10) (K := (kRes (.v .str) 1)) (Eok_10 N) Tryd.func46 (by kernel_rfl) (by decide) (fun _ hb => (TabOk.cons (ok1_10 hb) TabOk.nil)) (fun x y h => by rw [link_10]; exact h) (kRes_ok (s := (.v .str)) (m := 1))

noncomputable def body_11 : Code := (Tryd.f47.body).getD .skip

noncomputable def L_11 : List (List Nat × List Nat) := [([0], [1, 0]), ([0, 1], [1, 0]), ([0, 0, 1, 1], [10, 0, 1]), ([1, 0, 1, 1], [0, 1]), ([0, 0, 1, 0, 1, 1], [4]), ([1, 0, 1, 0, 1, 1], [4]), ([0, 1, 1, 1], [4]), ([1, 1, 1, 1], [4])]

noncomputable def E_11 (N : Nat) : Env := mkEnv tys glob [] [] [] [] false [] []

theorem Eok_11 (N : Nat) : EnvOk Tryd.prog (E_11 N) := mkEnv_ok mixed tys_ok (FnsOk.nil) (ItsOk.nil)

noncomputable def octet_Pad (N : Nat) (s : (List UInt8)) (n : Int) : Option (List UInt8) :=
  cond (decide ((if ((65536 : Int) < n) then (65536 : Int) else n) ≤ (((List.length s) : Nat) : Int)))
  (some s)
  (cond (decide (((0 : Int) ≤ (IntKind.wrap IntKind.i64 ((if ((65536 : Int) < n) then (65536 : Int) else n) - (((List.length s) : Nat) : Int)))) ∧ (((IntKind.wrap IntKind.i64 ((if ((65536 : Int) < n) then (65536 : Int) else n) - (((List.length s) : Nat) : Int))) ≤ (IntKind.wrap IntKind.i64 ((if ((65536 : Int) < n) then (65536 : Int) else n) - (((List.length s) : Nat) : Int)))) ∧ ((((IntKind.wrap IntKind.i64 ((if ((65536 : Int) < n) then (65536 : Int) else n) - (((List.length s) : Nat) : Int))) * (1 : Int)) ≤ (281474976710656 : Int)) ∧ ((IntKind.wrap IntKind.i64 ((if ((65536 : Int) < n) then (65536 : Int) else n) - (((List.length s) : Nat) : Int))) ≤ (9223372036854775807 : Int))))))
    (cond (decide (((List.length s) + (List.length (toStr (List.replicate (Int.toNat (IntKind.wrap IntKind.i64 ((if ((65536 : Int) < n) then (65536 : Int) else n) - (((List.length s) : Nat) : Int)))) (0 : Int))))) ≤ 9223372036854775807))
      (some (s ++ (toStr (List.replicate (Int.toNat (IntKind.wrap IntKind.i64 ((if ((65536 : Int) < n) then (65536 : Int) else n) - (((List.length s) : Nat) : Int)))) (0 : Int)))))
      (none))
    (none))

noncomputable def t_11 (N : Nat) : Tab (List UInt8) := []

theorem link_11 (N : Nat) (x : denS [(0, .v .str), (0, .v (.int .i64))]) : evFX (E_11 N) N (t_11 N) L_11 Tryd.f47 (mkS [(0, .v .str), (0, .v (.int .i64))] 0 x) (kRes (.v .str) 2) = octet_Pad N x.1 x.2.1 := by kernel_rfl

noncomputable def octet_Pad_res (N : Nat) : List A → Res := resOf [(0, .v .str), (0, .v (.int .i64))] (fun x => octet_Pad N x.1 x.2.1) (oRes (.v .str) 2)

theorem octet_Pad_ct (N : Nat) : Contract Tryd.prog glob 47 (octet_Pad_res N) :=
  Contract.of (E := E_11 N) (H := t_11 N) (L := L_11) (N := N) (body := body_11) (K := (kRes (.v .str) 2)) (Eok_11 N) Tryd.func47 (by kernel_rfl) (by decide) (fun _ hb => TabOk.nil) (fun x y h => by rw [link_11]; exact h) (kRes_ok (s := (.v .str)) (m := 2))

noncomputable def body_12 : Code := (Tryd.f34.body).getD .skip

noncomputable def L_12 : List (List Nat × List Nat) := [([0], [1]), ([0, 0, 1], [18, 1]), ([1, 0, 1], [1]), ([0, 0, 1, 0, 1], [2, 3]), ([1, 0, 1, 0, 1], [2, 3]), ([0, 0, 1, 1], [22, 1]), ([1, 0, 1, 1], [1]), ([0, 0, 1, 0, 1, 1], [2, 3]), ([1, 0, 1, 0, 1, 1], [2, 3]), ([0, 1, 1, 1], [1, 4]), ([0, 1, 1, 1, 1], [4, 5, 1]), ([0, 1, 1, 1, 1, 1], [2, 3]), ([1, 1, 1, 1, 1, 1], [2, 3])]

noncomputable def E_12 (N : Nat) : Env := mkEnv tys glob [(47, octet_Pad_res N), (46, frame_littleEndian_res N)] [] [] [] false [] []

theorem Eok_12 (N : Nat) : EnvOk Tryd.prog (E_12 N) := mkEnv_ok mixed tys_ok (FnsOk.cons (octet_Pad_ct N) (FnsOk.cons (frame_littleEndian_ct N) (FnsOk.nil))) (ItsOk.nil)

noncomputable def frame_Put_p2 (N : Nat) (f : DT6) (k0 : Bool → Option DT13) : Option DT13 :=
  cond (decide (f.1 < (1 : Int)))
  (k0 true)
  (cond (decide (f.2.1 < (0 : Int)))
    (k0 true)
    (k0 (decide ((255 : Int) < f.2.1))))

noncomputable def g2_12 (N : Nat) (x : denS [(1, .box TT2)]) (K : Ex → List A → Option DT13) : Option DT13 :=
  frame_Put_p2 N x.1 (fun a1 => (K .normal (mkS [(1, .box TT2), (16, .v .bool)] 25 (x.1, a1, ()))))

noncomputable def h2_12 (N : Nat) : Hd DT13 := fun st K => (unS [(1, .box TT2)] 42 (restr [1] 0 st)).bind fun x => g2_12 N x K

noncomputable def t2_12 (N : Nat) : Tab DT13 := []

theorem ok2_12 {N : Nat} {c : Ctx} (hb : Base Tryd.prog (E_12 N) c) : CodeOk Tryd.prog c (nodeAt body_12 [0, 0, 1]) (h2_12 N) :=
  piece_ok (s := [(1, .box TT2)]) (m := 42) (g := g2_12 N) [1] (evN_sound hb N (t2_12 N) L_12 body_12 TabOk.nil [0, 0, 1] _ rfl) (fun x K => by kernel_rfl)

noncomputable def frame_Put_p1 (N : Nat) (f : DT6) (k0 : (List UInt8) → Int → Option DT13) (k1 : Option DT13) : Option DT13 :=
  frame_Put_p2 N f
  (fun x18 => cond x18
    (k0 ([] : List UInt8) (7 : Int))
    (k1))

noncomputable def g1_12 (N : Nat) (x : denS [(1, .box TT2)]) (K : Ex → List A → Option DT13) : Option DT13 :=
  frame_Put_p1 N x.1 (fun a0 a1 => (K .ret (mkS [(2, .v .str), (0, .v (.int .i64))] 40 (a0, a1, ())))) (K .normal (mkS [(1, .box TT2)] 42 (x.1, ())))

noncomputable def h1_12 (N : Nat) : Hd DT13 := fun st K => (unS [(1, .box TT2)] 42 (restr [1] 0 st)).bind fun x => g1_12 N x K

noncomputable def t1_12 (N : Nat) : Tab DT13 := [([0, 0, 1], h2_12 N)]

theorem ok1_12 {N : Nat} {c : Ctx} (hb : Base Tryd.prog (E_12 N) c) : CodeOk Tryd.prog c (nodeAt body_12 [0, 1]) (h1_12 N) :=
  piece_ok (s := [(1, .box TT2)]) (m := 42) (g := g1_12 N) [1] (evN_sound hb N (t1_12 N) L_12 body_12 (TabOk.cons (ok2_12 hb) TabOk.nil) [0, 1] _ rfl) (fun x K => by kernel_rfl)

noncomputable def frame_Put (N : Nat) (f : DT6) : Option DT13 :=
  frame_Put_p1 N f
  (fun x2 x3 => some (x2, (x3, ())))
  (cond (decide ((110 : Int) < (((List.length f.2.2.1) : Nat) : Int)))
    (some (([] : List UInt8), ((3 : Int), ())))
    ((frame_littleEndian N f.1).bind fun y =>
      cond (decide (((List.length y) + (List.length (toStr ([(IntKind.wrap IntKind.u8 f.2.1), (IntKind.wrap IntKind.u8 (((List.length f.2.2.1) : Nat) : Int))] : List Int)))) ≤ 9223372036854775807))
      ((octet_Pad N f.2.2.1 (110 : Int)).bind fun y1 =>
        cond (decide (((List.length (y ++ (toStr ([(IntKind.wrap IntKind.u8 f.2.1), (IntKind.wrap IntKind.u8 (((List.length f.2.2.1) : Nat) : Int))] : List Int)))) + (List.length y1)) ≤ 9223372036854775807))
        (cond (decide (((List.length ((y ++ (toStr ([(IntKind.wrap IntKind.u8 f.2.1), (IntKind.wrap IntKind.u8 (((List.length f.2.2.1) : Nat) : Int))] : List Int))) ++ y1)) + (List.length y)) ≤ 9223372036854775807))
          (some ((((y ++ (toStr ([(IntKind.wrap IntKind.u8 f.2.1), (IntKind.wrap IntKind.u8 (((List.length f.2.2.1) : Nat) : Int))] : List Int))) ++ y1) ++ y), ((0 : Int), ())))
          (none))
        (none))
      (none)))

noncomputable def t_12 (N : Nat) : Tab DT13 := [([0, 1], h1_12 N)]

theorem link_12 (N : Nat) (x : denS [(0, .v TT2)]) : evFX (E_12 N) N (t_12 N) L_12 Tryd.f34 (mkS [(0, .v TT2)] 0 x) (kRes (.tup [.str, (.int .i64)]) 1) = frame_Put N x.1 := by kernel_rfl

noncomputable def frame_Put_res (N : Nat) : List A → Res := resOf [(0, .v TT2)] (fun x => frame_Put N x.1) (oRes (.tup [.str, (.int .i64)]) 1)

theorem frame_Put_ct (N : Nat) : Contract Tryd.prog glob 34 (frame_Put_res N) :=
  Contract.of (E := E_12 N) (H := t_12 N) (L := L_12) (N := N) (body := body_12) (K := (kRes (.tup [.str, (.int .i64)]) 1)) (Eok_12 N) Tryd.func34 (by kernel_rfl) (by decide) (fun _ hb => (TabOk.cons (ok1_12 hb) TabOk.nil)) (fun x y h => by rw [link_12]; exact h) (kRes_ok (s := (.tup [.str, (.int .i64)])) (m := 1))

noncomputable def body_13 : Code := (Tryd.f30.body).getD .skip

noncomputable def L_13 : List (List Nat × List Nat) := [([0], [0, 1]), ([0, 0, 0, 1], [5, 0, 1]), ([1, 0, 0, 1], [0]), ([0, 1, 1, 0, 0, 1], [9, 0, 1]), ([1, 1, 1, 0, 0, 1], [0]), ([0, 1, 1, 1, 1, 0, 0, 1], [14, 0]), ([1, 1, 1, 1, 1, 0, 0, 1], [0]), ([0, 0, 1, 1, 1, 1, 1, 0, 0, 1], [4, 0]), ([1, 0, 1, 1, 1, 1, 1, 0, 0, 1], [4, 0]), ([0, 0, 1, 1, 1, 0, 0, 1], [4, 0]), ([1, 0, 1, 1, 1, 0, 0, 1], [4, 0]), ([0, 0, 1, 0, 0, 1], [4, 0]), ([1, 0, 1, 0, 0, 1], [4, 0]), ([0, 1], [0]), ([0, 1, 1], [4, 0]), ([1, 1, 1], [4, 0])]

noncomputable def E_13 (N : Nat) : Env := mkEnv tys glob [(25, disk_Disk_Blocks_nil_all N)] [] [] [0] false [] []

theorem Eok_13 (N : Nat) : EnvOk Tryd.prog (E_13 N) := mkEnv_ok mixed tys_ok (FnsOk.cons (disk_Disk_Blocks_nil_allct N) (FnsOk.nil)) (ItsOk.nil)

noncomputable def disk_Disk_check_p1 (N : Nat) (d : DT1) (at_ : Int) (k0 : Bool → Option (Int × (DT1 × Unit))) : Option (Int × (DT1 × Unit)) :=
  cond (decide (at_ < (0 : Int)))
  (k0 true)
  (k0 (decide ((((List.length d.1) : Nat) : Int) ≤ at_)))

noncomputable def g1_13 (N : Nat) (x : denS [(0, .box TT0), (0, .v (.int .i64))]) (K : Ex → List A → Option (Int × (DT1 × Unit))) : Option (Int × (DT1 × Unit)) :=
  disk_Disk_check_p1 N x.1 x.2.1 (fun a1 => (K .normal (mkS [(0, .box TT0), (13, .v .bool)] 11 (x.1, a1, ()))))

noncomputable def h1_13 (N : Nat) : Hd (Int × (DT1 × Unit)) := fun st K => (unS [(0, .box TT0), (0, .v (.int .i64))] 24 (restr [1, 0] 0 st)).bind fun x => g1_13 N x K

noncomputable def t1_13 (N : Nat) : Tab (Int × (DT1 × Unit)) := []

theorem ok1_13 {N : Nat} {c : Ctx} (hb : Base Tryd.prog (E_13 N) c) : CodeOk Tryd.prog c (nodeAt body_13 [0, 1, 1, 1, 1, 0, 0, 1]) (h1_13 N) :=
  piece_ok (s := [(0, .box TT0), (0, .v (.int .i64))]) (m := 24) (g := g1_13 N) [1, 0] (evN_sound hb N (t1_13 N) L_13 body_13 TabOk.nil [0, 1, 1, 1, 1, 0, 0, 1] _ rfl) (fun x K => by kernel_rfl)

noncomputable def disk_Disk_check (N : Nat) (d : DT1) (at_ : Int) : Option (Int × (DT1 × Unit)) :=
  cond ((((List.length d.1) : Nat) : Int) == (0 : Int))
  (some ((21 : Int), (d, ())))
  (cond d.2.2.1
    (some ((20 : Int), (d, ())))
    (disk_Disk_check_p1 N d at_
      (fun x14 => cond x14
        (some ((7 : Int), (d, ())))
        (some ((0 : Int), (d, ()))))))

noncomputable def t_13 (N : Nat) : Tab (Int × (DT1 × Unit)) := [([0, 1, 1, 1, 1, 0, 0, 1], h1_13 N)]

theorem link_13 (N : Nat) (x : denS [(0, .box TT0), (0, .v (.int .i64))]) : evFX (E_13 N) N (t_13 N) L_13 Tryd.f30 (mkS [(0, .box TT0), (0, .v (.int .i64))] 0 x) (kResB (.v (.int .i64)) [(0, .box TT0)] 1) = disk_Disk_check N x.1 x.2.1 := by kernel_rfl

noncomputable def disk_Disk_check_res (N : Nat) : List A → Res := resOf [(0, .box TT0), (0, .v (.int .i64))] (fun x => disk_Disk_check N x.1 x.2.1) (oResB (.v (.int .i64)) [(0, .box TT0)] 1)

theorem disk_Disk_check_ct (N : Nat) : Contract Tryd.prog glob 30 (disk_Disk_check_res N) :=
  Contract.of (E := E_13 N) (H := t_13 N) (L := L_13) (N := N) (body := body_13) (K := (kResB (.v (.int .i64)) [(0, .box TT0)] 1)) (Eok_13 N) Tryd.func30 (by kernel_rfl) (by decide) (fun _ hb => (TabOk.cons (ok1_13 hb) TabOk.nil)) (fun x y h => by rw [link_13]; exact h) (kResB_ok (s := (.v (.int .i64))) (os := [(0, .box TT0)]) (m := 1))

noncomputable def body_14 : Code := (Tryd.f30.body).getD .skip

noncomputable def L_14 : List (List Nat × List Nat) := [([0], [0, 1]), ([0, 0, 0, 1], [5, 0, 1]), ([1, 0, 0, 1], []), ([0, 1, 1, 0, 0, 1], [9, 1, 0]), ([1, 1, 1, 0, 0, 1], []), ([0, 1, 1, 1, 1, 0, 0, 1], [14]), ([1, 1, 1, 1, 1, 0, 0, 1], []), ([0, 0, 1, 1, 1, 1, 1, 0, 0, 1], [4]), ([1, 0, 1, 1, 1, 1, 1, 0, 0, 1], [4]), ([0, 0, 1, 1, 1, 0, 0, 1], [4]), ([1, 0, 1, 1, 1, 0, 0, 1], [4]), ([0, 0, 1, 0, 0, 1], [4]), ([1, 0, 1, 0, 0, 1], [4]), ([0, 1], []), ([0, 1, 1], [4]), ([1, 1, 1], [4])]

noncomputable def E_14 (N : Nat) : Env := mkEnv tys glob [(25, disk_Disk_Blocks_nil_all N)] [] [] [] false [] []

theorem Eok_14 (N : Nat) : EnvOk Tryd.prog (E_14 N) := mkEnv_ok mixed tys_ok (FnsOk.cons (disk_Disk_Blocks_nil_allct N) (FnsOk.nil)) (ItsOk.nil)

noncomputable def disk_Disk_check_nil (N : Nat) (at_ : Int) : Option Int :=
  some (21 : Int)

noncomputable def t_14 (N : Nat) : Tab Int := []

theorem link_14 (N : Nat) (x : denS [(0, .nilp), (0, .v (.int .i64))]) : evFX (E_14 N) N (t_14 N) L_14 Tryd.f30 (mkS [(0, .nilp), (0, .v (.int .i64))] 0 x) (kRes (.v (.int .i64)) 2) = disk_Disk_check_nil N x.2.1 := by kernel_rfl

noncomputable def disk_Disk_check_nil_res (N : Nat) : List A → Res := resOf [(0, .nilp), (0, .v (.int .i64))] (fun x => disk_Disk_check_nil N x.2.1) (oRes (.v (.int .i64)) 2)

theorem disk_Disk_check_nil_ct (N : Nat) : Contract Tryd.prog glob 30 (disk_Disk_check_nil_res N) :=
  Contract.of (E := E_14 N) (H := t_14 N) (L := L_14) (N := N) (body := body_14) (K := (kRes (.v (.int .i64)) 2)) (Eok_14 N) Tryd.func30 (by kernel_rfl) (by decide) (fun _ hb => TabOk.nil) (fun x y h => by rw [link_14]; exact h) (kRes_ok (s := (.v (.int .i64))) (m := 2))

noncomputable def disk_Disk_check_nil_all (N : Nat) : List A → Res := resAlt [(0, .nilp), (0, .v (.int .i64))] (fun x => disk_Disk_check_nil N x.2.1) (oRes (.v (.int .i64)) 2) (disk_Disk_check_res N)

theorem disk_Disk_check_nil_allct (N : Nat) : Contract Tryd.prog glob 30 (disk_Disk_check_nil_all N) := Contract.alt (disk_Disk_check_nil_ct N) (disk_Disk_check_ct N)

noncomputable def body_15 : Code := (Tryd.f15.body).getD .skip

noncomputable def L_15 : List (List Nat × List Nat) := [([0], [0, 1, 2]), ([0, 0, 1], [7, 0, 2, 1]), ([0, 1, 0, 1], [14, 7, 0, 2, 1]), ([1, 1, 0, 1], [2, 0, 1]), ([0, 0, 1, 1, 0, 1], [6, 0]), ([1, 0, 1, 1, 0, 1], [6, 0]), ([0, 0, 1, 1], [18, 0, 1, 2]), ([1, 0, 1, 1], [0, 1, 2]), ([0, 0, 1, 0, 1, 1], [6, 0]), ([1, 0, 1, 0, 1, 1], [6, 0]), ([0, 1, 1, 1], [0, 9, 1, 8, 2]), ([0, 1, 1, 1, 1], [9, 0, 1, 8, 2]), ([0, 0, 1, 1, 1, 1, 1], [38, 0, 1, 8, 2]), ([1, 0, 1, 1, 1, 1, 1], [0, 1, 2]), ([0, 0, 1, 0, 1, 1, 1, 1, 1], [0]), ([0, 1, 0, 1, 0, 1, 1, 1, 1, 1], [0]), ([0, 1, 1, 0, 1, 0, 1, 1, 1, 1, 1], [6, 0]), ([1, 1, 1, 0, 1, 0, 1, 1, 1, 1, 1], [6, 0]), ([0, 1, 1, 1, 1, 1, 1], [0]), ([0, 1, 1, 1, 1, 1, 1, 1], [6, 0]), ([1, 1, 1, 1, 1, 1, 1, 1], [6, 0])]

noncomputable def E_15 (N : Nat) : Env := mkEnv tys glob [(30, disk_Disk_check_nil_all N)] [] [] [0] false [] []

theorem Eok_15 (N : Nat) : EnvOk Tryd.prog (E_15 N) := mkEnv_ok mixed tys_ok (FnsOk.cons (disk_Disk_check_nil_allct N) (FnsOk.nil)) (ItsOk.nil)

noncomputable def disk_Disk_Write (N : Nat) (d : DT1) (at_ : Int) (block : (List UInt8)) : Option (Int × (DT1 × Unit)) :=
  (disk_Disk_check N d at_).bind fun y =>
  cond (y.1 != (0 : Int))
  (some (y.1, (y.2.1, ())))
  (cond ((((List.length block) : Nat) : Int) != (128 : Int))
    (some ((7 : Int), (y.2.1, ())))
    (cond (Option.isSome (lookM (eqD (T.int IntKind.i64)) y.2.1.2.2.2.1 (Option.getD y.2.1.2.1 ([] : List (Int × Int)))))
      (cond (inR at_ (List.length y.2.1.1))
        (cond (decide (((0 : Int) ≤ (Option.getD (lookM (eqD (T.int IntKind.i64)) y.2.1.2.2.2.1 (Option.getD y.2.1.2.1 ([] : List (Int × Int)))) (0 : Int))) ∧ ((Option.getD (lookM (eqD (T.int IntKind.i64)) y.2.1.2.2.2.1 (Option.getD y.2.1.2.1 ([] : List (Int × Int)))) (0 : Int)) ≤ (128 : Int))))
          (cond (decide ((Int.toNat at_) < (List.length y.2.1.1)))
            (some ((20 : Int), (((List.set y.2.1.1 (Int.toNat at_) (over (List.getD y.2.1.1 (Int.toNat at_) ([] : List Int)) 0 (Int.toNat (Option.getD (lookM (eqD (T.int IntKind.i64)) y.2.1.2.2.2.1 (Option.getD y.2.1.2.1 ([] : List (Int × Int)))) (0 : Int))) (ofStr block))), (y.2.1.2.1, (true, ((IntKind.wrap IntKind.i64 (y.2.1.2.2.2.1 + (1 : Int))), y.2.1.2.2.2.2)))), ())))
            (none))
          (none))
        (none))
      (cond (inR at_ (List.length y.2.1.1))
        (cond (decide ((Int.toNat at_) < (List.length y.2.1.1)))
          (some ((0 : Int), (((List.set y.2.1.1 (Int.toNat at_) (over (List.getD y.2.1.1 (Int.toNat at_) ([] : List Int)) 0 128 (ofStr block))), (y.2.1.2.1, (y.2.1.2.2.1, ((IntKind.wrap IntKind.i64 (y.2.1.2.2.2.1 + (1 : Int))), y.2.1.2.2.2.2)))), ())))
          (none))
        (none))))

noncomputable def t_15 (N : Nat) : Tab (Int × (DT1 × Unit)) := []

theorem link_15 (N : Nat) (x : denS [(0, .box TT0), (0, .v (.int .i64)), (0, .v .str)]) : evFX (E_15 N) N (t_15 N) L_15 Tryd.f15 (mkS [(0, .box TT0), (0, .v (.int .i64)), (0, .v .str)] 0 x) (kResB (.v (.int .i64)) [(0, .box TT0)] 2) = disk_Disk_Write N x.1 x.2.1 x.2.2.1 := by kernel_rfl

noncomputable def disk_Disk_Write_res (N : Nat) : List A → Res := resOf [(0, .box TT0), (0, .v (.int .i64)), (0, .v .str)] (fun x => disk_Disk_Write N x.1 x.2.1 x.2.2.1) (oResB (.v (.int .i64)) [(0, .box TT0)] 2)

theorem disk_Disk_Write_ct (N : Nat) : Contract Tryd.prog glob 15 (disk_Disk_Write_res N) :=
  Contract.of (E := E_15 N) (H := t_15 N) (L := L_15) (N := N) (body := body_15) (K := (kResB (.v (.int .i64)) [(0, .box TT0)] 2)) (Eok_15 N) Tryd.func15 (by kernel_rfl) (by decide) (fun _ hb => TabOk.nil) (fun x y h => by rw [link_15]; exact h) (kResB_ok (s := (.v (.int .i64))) (os := [(0, .box TT0)]) (m := 2))

noncomputable def body_16 : Code := (Tryd.f15.body).getD .skip

noncomputable def L_16 : List (List Nat × List Nat) := [([0], [0, 1, 2]), ([0, 0, 1], [7, 2, 0, 1]), ([0, 1, 0, 1], [14, 7, 2, 0, 1]), ([1, 1, 0, 1], [2, 0, 1]), ([0, 0, 1, 1, 0, 1], [6]), ([1, 0, 1, 1, 0, 1], [6]), ([0, 0, 1, 1], [18, 0, 1, 2]), ([1, 0, 1, 1], [0, 1, 2]), ([0, 0, 1, 0, 1, 1], [6]), ([1, 0, 1, 0, 1, 1], [6]), ([0, 1, 1, 1], [0, 9, 1, 8, 2]), ([0, 1, 1, 1, 1], [9, 0, 1, 8, 2]), ([0, 0, 1, 1, 1, 1, 1], [38, 0, 1, 8, 2]), ([1, 0, 1, 1, 1, 1, 1], [0, 1, 2]), ([0, 0, 1, 0, 1, 1, 1, 1, 1], [0]), ([0, 1, 0, 1, 0, 1, 1, 1, 1, 1], []), ([0, 1, 1, 0, 1, 0, 1, 1, 1, 1, 1], [6]), ([1, 1, 1, 0, 1, 0, 1, 1, 1, 1, 1], [6]), ([0, 1, 1, 1, 1, 1, 1], []), ([0, 1, 1, 1, 1, 1, 1, 1], [6]), ([1, 1, 1, 1, 1, 1, 1, 1], [6])]

noncomputable def E_16 (N : Nat) : Env := mkEnv tys glob [(30, disk_Disk_check_nil_all N)] [] [] [] false [] []

theorem Eok_16 (N : Nat) : EnvOk Tryd.prog (E_16 N) := mkEnv_ok mixed tys_ok (FnsOk.cons (disk_Disk_check_nil_allct N) (FnsOk.nil)) (ItsOk.nil)

noncomputable def disk_Disk_Write_nil (N : Nat) (at_ : Int) (block : (List UInt8)) : Option Int :=
  some (21 : Int)

noncomputable def t_16 (N : Nat) : Tab Int := []

theorem link_16 (N : Nat) (x : denS [(0, .nilp), (0, .v (.int .i64)), (0, .v .str)]) : evFX (E_16 N) N (t_16 N) L_16 Tryd.f15 (mkS [(0, .nilp), (0, .v (.int .i64)), (0, .v .str)] 0 x) (kRes (.v (.int .i64)) 3) = disk_Disk_Write_nil N x.2.1 x.2.2.1 := by kernel_rfl

noncomputable def disk_Disk_Write_nil_res (N : Nat) : List A → Res := resOf [(0, .nilp), (0, .v (.int .i64)), (0, .v .str)] (fun x => disk_Disk_Write_nil N x.2.1 x.2.2.1) (oRes (.v (.int .i64)) 3)

theorem disk_Disk_Write_nil_ct (N : Nat) : Contract Tryd.prog glob 15 (disk_Disk_Write_nil_res N) :=
  Contract.of (E := E_16 N) (H := t_16 N) (L := L_16) (N := N) (body := body_16) (K := (kRes (.v (.int .i64)) 3)) (Eok_16 N) Tryd.func15 (by kernel_rfl) (by decide) (fun _ hb => TabOk.nil) (fun x y h => by rw [link_16]; exact h) (kRes_ok (s := (.v (.int .i64))) (m := 3))

noncomputable def disk_Disk_Write_nil_all (N : Nat) : List A → Res := resAlt [(0, .nilp), (0, .v (.int .i64)), (0, .v .str)] (fun x => disk_Disk_Write_nil N x.2.1 x.2.2.1) (oRes (.v (.int .i64)) 3) (disk_Disk_Write_res N)

theorem disk_Disk_Write_nil_allct (N : Nat) : Contract Tryd.prog glob 15 (disk_Disk_Write_nil_all N) := Contract.alt (disk_Disk_Write_nil_ct N) (disk_Disk_Write_ct N)

noncomputable def body_17 : Code := (Tryd.f23.body).getD .skip

noncomputable def L_17 : List (List Nat × List Nat) := [([0], [5, 0, 1]), ([0, 1], [8, 0, 1, 7]), ([0, 0, 1, 1], [15, 8, 0, 1, 7]), ([1, 0, 1, 1], [0, 1, 7]), ([0, 0, 1, 0, 1, 1], [6, 0]), ([1, 0, 1, 0, 1, 1], [6, 0]), ([0, 1, 1, 1], [6, 0]), ([1, 1, 1, 1], [6, 0])]

noncomputable def E_17 (N : Nat) : Env := mkEnv tys glob [(15, disk_Disk_Write_nil_all N), (34, frame_Put_res N)] [] [] [0] false [] []

theorem Eok_17 (N : Nat) : EnvOk Tryd.prog (E_17 N) := mkEnv_ok mixed tys_ok (FnsOk.cons (disk_Disk_Write_nil_allct N) (FnsOk.cons (frame_Put_ct N) (FnsOk.nil))) (ItsOk.nil)

noncomputable def entry_put (N : Nat) (d : DT1) (at_ : Int) (f : DT6) : Option (Int × (DT1 × Unit)) :=
  (frame_Put N f).bind fun y =>
  cond (y.2.1 != (0 : Int))
  (some (y.2.1, (d, ())))
  ((disk_Disk_Write N d at_ y.1).bind fun y1 =>
    some (y1.1, (y1.2.1, ())))

noncomputable def t_17 (N : Nat) : Tab (Int × (DT1 × Unit)) := []

theorem link_17 (N : Nat) (x : denS [(0, .box TT0), (0, .v (.int .i64)), (0, .v TT2)]) : evFX (E_17 N) N (t_17 N) L_17 Tryd.f23 (mkS [(0, .box TT0), (0, .v (.int .i64)), (0, .v TT2)] 0 x) (kResB (.v (.int .i64)) [(0, .box TT0)] 2) = entry_put N x.1 x.2.1 x.2.2.1 := by kernel_rfl

noncomputable def entry_put_res (N : Nat) : List A → Res := resOf [(0, .box TT0), (0, .v (.int .i64)), (0, .v TT2)] (fun x => entry_put N x.1 x.2.1 x.2.2.1) (oResB (.v (.int .i64)) [(0, .box TT0)] 2)

theorem entry_put_ct (N : Nat) : Contract Tryd.prog glob 23 (entry_put_res N) :=
  Contract.of (E := E_17 N) (H := t_17 N) (L := L_17) (N := N) (body := body_17) (K := (kResB (.v (.int .i64)) [(0, .box TT0)] 2)) (Eok_17 N) Tryd.func23 (by kernel_rfl) (by decide) (fun _ hb => TabOk.nil) (fun x y h => by rw [link_17]; exact h) (kResB_ok (s := (.v (.int .i64))) (os := [(0, .box TT0)]) (m := 2))

noncomputable def body_18 : Code := (Tryd.f23.body).getD .skip

noncomputable def L_18 : List (List Nat × List Nat) := [([0], [5, 0, 1]), ([0, 1], [8, 0, 1, 7]), ([0, 0, 1, 1], [15, 8, 0, 1, 7]), ([1, 0, 1, 1], [0, 1, 7]), ([0, 0, 1, 0, 1, 1], [6]), ([1, 0, 1, 0, 1, 1], [6]), ([0, 1, 1, 1], [6]), ([1, 1, 1, 1], [6])]

noncomputable def E_18 (N : Nat) : Env := mkEnv tys glob [(15, disk_Disk_Write_nil_all N), (34, frame_Put_res N)] [] [] [] false [] []

theorem Eok_18 (N : Nat) : EnvOk Tryd.prog (E_18 N) := mkEnv_ok mixed tys_ok (FnsOk.cons (disk_Disk_Write_nil_allct N) (FnsOk.cons (frame_Put_ct N) (FnsOk.nil))) (ItsOk.nil)

noncomputable def entry_put_nil (N : Nat) (at_ : Int) (f : DT6) : Option Int :=
  (frame_Put N f).bind fun y =>
  cond (y.2.1 != (0 : Int))
  (some y.2.1)
  (some (21 : Int))

noncomputable def t_18 (N : Nat) : Tab Int := []

theorem link_18 (N : Nat) (x : denS [(0, .nilp), (0, .v (.int .i64)), (0, .v TT2)]) : evFX (E_18 N) N (t_18 N) L_18 Tryd.f23 (mkS [(0, .nilp), (0, .v (.int .i64)), (0, .v TT2)] 0 x) (kRes (.v (.int .i64)) 3) = entry_put_nil N x.2.1 x.2.2.1 := by kernel_rfl

noncomputable def entry_put_nil_res (N : Nat) : List A → Res := resOf [(0, .nilp), (0, .v (.int .i64)), (0, .v TT2)] (fun x => entry_put_nil N x.2.1 x.2.2.1) (oRes (.v (.int .i64)) 3)

theorem entry_put_nil_ct (N : Nat) : Contract Tryd.prog glob 23 (entry_put_nil_res N) :=
  Contract.of (E := E_18 N) (H := t_18 N) (L := L_18) (N := N) (body := body_18) (K := (kRes (.v (.int .i64)) 3)) (Eok_18 N) Tryd.func23 (by kernel_rfl) (by decide) (fun _ hb => TabOk.nil) (fun x y h => by rw [link_18]; exact h) (kRes_ok (s := (.v (.int .i64))) (m := 3))

noncomputable def entry_put_nil_all (N : Nat) : List A → Res := resAlt [(0, .nilp), (0, .v (.int .i64)), (0, .v TT2)] (fun x => entry_put_nil N x.2.1 x.2.2.1) (oRes (.v (.int .i64)) 3) (entry_put_res N)

theorem entry_put_nil_allct (N : Nat) : Contract Tryd.prog glob 23 (entry_put_nil_all N) := Contract.alt (entry_put_nil_ct N) (entry_put_ct N)

noncomputable def body_19 : Code := (Tryd.f53.body).getD .skip

noncomputable def L_19 : List (List Nat × List Nat) := [([0], [0]), ([0, 1], [0]), ([1, 1], [0])]

noncomputable def E_19 (N : Nat) : Env := mkEnv tys glob [] [] [] [] false [] []

theorem Eok_19 (N : Nat) : EnvOk Tryd.prog (E_19 N) := mkEnv_ok mixed tys_ok (FnsOk.nil) (ItsOk.nil)

noncomputable def sha_First (N : Nat) : Option (List Int) :=
  some ([(1779033703 : Int), (3144134277 : Int), (1013904242 : Int), (2773480762 : Int), (1359893119 : Int), (2600822924 : Int), (528734635 : Int), (1541459225 : Int)] : List Int)

noncomputable def t_19 (N : Nat) : Tab (List Int) := []

theorem link_19 (N : Nat) (x : denS []) : evFX (E_19 N) N (t_19 N) L_19 Tryd.f53 (mkS [] 0 x) (kRes (.v (.arr 8 (.int .u32))) 0) = sha_First N := by kernel_rfl

noncomputable def sha_First_res (N : Nat) : List A → Res := resOf [] (fun x => sha_First N) (oRes (.v (.arr 8 (.int .u32))) 0)

theorem sha_First_ct (N : Nat) : Contract Tryd.prog glob 53 (sha_First_res N) :=
  Contract.of (E := E_19 N) (H := t_19 N) (L := L_19) (N := N) (body := body_19) (K := (kRes (.v (.arr 8 (.int .u32))) 0)) (Eok_19 N) Tryd.func53 (by kernel_rfl) (by decide) (fun _ hb => TabOk.nil) (fun x y h => by rw [link_19]; exact h) (kRes_ok (s := (.v (.arr 8 (.int .u32)))) (m := 0))

noncomputable def body_20 : Code := (Tryd.f48.body).getD .skip

noncomputable def L_20 : List (List Nat × List Nat) := [([0], []), ([0, 1], [0]), ([1, 1], [0])]

noncomputable def E_20 (N : Nat) : Env := mkEnv tys glob [(53, sha_First_res N)] [] [] [] false [] []

theorem Eok_20 (N : Nat) : EnvOk Tryd.prog (E_20 N) := mkEnv_ok mixed tys_ok (FnsOk.cons (sha_First_ct N) (FnsOk.nil)) (ItsOk.nil)

noncomputable def sha_New (N : Nat) : Option DT7 :=
  some (true, (([(1779033703 : Int), (3144134277 : Int), (1013904242 : Int), (2773480762 : Int), (1359893119 : Int), (2600822924 : Int), (528734635 : Int), (1541459225 : Int)] : List Int), (([] : List UInt8), ((0 : Int), ()))))

noncomputable def t_20 (N : Nat) : Tab DT7 := []

theorem link_20 (N : Nat) (x : denS []) : evFX (E_20 N) N (t_20 N) L_20 Tryd.f48 (mkS [] 0 x) (kRes (.box TT8) 0) = sha_New N := by kernel_rfl

noncomputable def sha_New_res (N : Nat) : List A → Res := resOf [] (fun x => sha_New N) (oRes (.box TT8) 0)

theorem sha_New_ct (N : Nat) : Contract Tryd.prog glob 48 (sha_New_res N) :=
  Contract.of (E := E_20 N) (H := t_20 N) (L := L_20) (N := N) (body := body_20) (K := (kRes (.box TT8) 0)) (Eok_20 N) Tryd.func48 (by kernel_rfl) (by decide) (fun _ hb => TabOk.nil) (fun x y h => by rw [link_20]; exact h) (kRes_ok (s := (.box TT8)) (m := 0))

noncomputable def body_21 : Code := (Tryd.f63.body).getD .skip

noncomputable def L_21 : List (List Nat × List Nat) := [([0], [1, 0]), ([0, 1], [0, 5]), ([0, 1, 1], [4]), ([1, 1, 1], [4])]

noncomputable def E_21 (N : Nat) : Env := mkEnv tys glob [] [] [] [] false [] []

theorem Eok_21 (N : Nat) : EnvOk Tryd.prog (E_21 N) := mkEnv_ok mixed tys_ok (FnsOk.nil) (ItsOk.nil)

noncomputable def math_bits_RotateLeft32 (N : Nat) (x0 : Int) (k : Int) : Option Int :=
  cond (decide ((0 : Int) ≤ (IntKind.wrap IntKind.u64 ((32 : Int) - (bitsOp Go.BinOp.and IntKind.u64 (IntKind.wrap IntKind.u64 k) (31 : Int))))))
  (some (bitsOp Go.BinOp.or IntKind.u32 (shlI IntKind.u32 x0 (bitsOp Go.BinOp.and IntKind.u64 (IntKind.wrap IntKind.u64 k) (31 : Int))) (shrI IntKind.u32 x0 (IntKind.wrap IntKind.u64 ((32 : Int) - (bitsOp Go.BinOp.and IntKind.u64 (IntKind.wrap IntKind.u64 k) (31 : Int)))))))
  (none)

noncomputable def t_21 (N : Nat) : Tab Int := []

theorem link_21 (N : Nat) (x : denS [(0, .v (.int .u32)), (0, .v (.int .i64))]) : evFX (E_21 N) N (t_21 N) L_21 Tryd.f63 (mkS [(0, .v (.int .u32)), (0, .v (.int .i64))] 0 x) (kRes (.v (.int .u32)) 2) = math_bits_RotateLeft32 N x.1 x.2.1 := by kernel_rfl

noncomputable def math_bits_RotateLeft32_res (N : Nat) : List A → Res := resOf [(0, .v (.int .u32)), (0, .v (.int .i64))] (fun x => math_bits_RotateLeft32 N x.1 x.2.1) (oRes (.v (.int .u32)) 2)

theorem math_bits_RotateLeft32_ct (N : Nat) : Contract Tryd.prog glob 63 (math_bits_RotateLeft32_res N) :=
  Contract.of (E := E_21 N) (H := t_21 N) (L := L_21) (N := N) (body := body_21) (K := (kRes (.v (.int .u32)) 2)) (Eok_21 N) Tryd.func63 (by kernel_rfl) (by decide) (fun _ hb => TabOk.nil) (fun x y h => by rw [link_21]; exact h) (kRes_ok (s := (.v (.int .u32))) (m := 2))

noncomputable def body_22 : Code := (Tryd.f62.body).getD .skip

noncomputable def L_22 : List (List Nat × List Nat) := [([0], [0, 1]), ([0, 1], [4]), ([1, 1], [4])]

noncomputable def E_22 (N : Nat) : Env := mkEnv tys glob [(63, math_bits_RotateLeft32_res N)] [] [] [] false [] []

theorem Eok_22 (N : Nat) : EnvOk Tryd.prog (E_22 N) := mkEnv_ok mixed tys_ok (FnsOk.cons (math_bits_RotateLeft32_ct N) (FnsOk.nil)) (ItsOk.nil)

noncomputable def sha_ror (N : Nat) (x0 : Int) (n : Int) : Option Int :=
  (math_bits_RotateLeft32 N x0 (IntKind.wrap IntKind.i64 ((0 : Int) - n))).bind fun y =>
  some y

noncomputable def t_22 (N : Nat) : Tab Int := []

theorem link_22 (N : Nat) (x : denS [(0, .v (.int .u32)), (0, .v (.int .i64))]) : evFX (E_22 N) N (t_22 N) L_22 Tryd.f62 (mkS [(0, .v (.int .u32)), (0, .v (.int .i64))] 0 x) (kRes (.v (.int .u32)) 2) = sha_ror N x.1 x.2.1 := by kernel_rfl

noncomputable def sha_ror_res (N : Nat) : List A → Res := resOf [(0, .v (.int .u32)), (0, .v (.int .i64))] (fun x => sha_ror N x.1 x.2.1) (oRes (.v (.int .u32)) 2)

theorem sha_ror_ct (N : Nat) : Contract Tryd.prog glob 62 (sha_ror_res N) :=
  Contract.of (E := E_22 N) (H := t_22 N) (L := L_22) (N := N) (body := body_22) (K := (kRes (.v (.int .u32)) 2)) (Eok_22 N) Tryd.func62 (by kernel_rfl) (by decide) (fun _ hb => TabOk.nil) (fun x y h => by rw [link_22]; exact h) (kRes_ok (s := (.v (.int .u32))) (m := 2))

noncomputable def body_23 : Code := (Tryd.f60.body).getD .skip

noncomputable def L_23 : List (List Nat × List Nat) := [([0], [0, 2]), ([0, 1], [0, 3, 2]), ([0, 0, 1, 1], [11, 0, 3, 2]), ([0, 1, 0, 1, 1], [11, 0, 3, 2]), ([0, 0, 0, 1, 0, 1, 1], [12, 11, 0, 3, 2]), ([0, 1, 0, 0, 1, 0, 1, 1], [11, 0, 3, 2]), ([1, 0, 1, 0, 0, 1, 0, 1, 1], [3, 2]), ([0, 0, 0, 1, 1, 0, 0, 1, 0, 1, 1], [0, 4, 3, 11, 2]), ([0, 1, 0, 0, 1, 1, 0, 0, 1, 0, 1, 1], [4, 5, 3, 11, 0, 2]), ([1, 1, 0, 0, 1, 1, 0, 0, 1, 0, 1, 1], [11, 0, 3, 2]), ([0, 1, 1, 0, 0, 1, 0, 1, 1], [11, 0, 3, 2]), ([1, 1, 1, 0, 0, 1, 0, 1, 1], [11, 0, 3, 2]), ([1, 0, 1, 1], [3, 2]), ([0, 0, 1, 1, 1], [6, 3, 2]), ([0, 1, 0, 1, 1, 1], [6, 3, 2]), ([0, 0, 0, 0, 1, 0, 1, 1, 1], [43, 6, 3, 2]), ([1, 0, 0, 0, 1, 0, 1, 1, 1], [6, 3, 2]), ([1, 1, 0, 0, 0, 1, 0, 1, 1, 1], [3, 2]), ([0, 0, 0, 1, 0, 0, 1, 0, 1, 1, 1], [7, 8, 6, 3, 2]), ([0, 1, 0, 0, 1, 0, 0, 1, 0, 1, 1, 1], [8, 6, 3, 9, 2]), ([0, 1, 1, 0, 0, 1, 0, 0, 1, 0, 1, 1, 1], [6, 10, 3, 9, 2]), ([1, 1, 1, 0, 0, 1, 0, 0, 1, 0, 1, 1, 1], [6, 3, 2]), ([0, 1, 0, 0, 1, 0, 1, 1, 1], [6, 3, 2]), ([1, 1, 0, 0, 1, 0, 1, 1, 1], [6, 3, 2]), ([1, 0, 1, 1, 1], [3, 2]), ([0, 1, 1, 1, 1], [2]), ([1, 1, 1, 1, 1], [2])]

noncomputable def E_23 (N : Nat) : Env := mkEnv tys glob [(62, sha_ror_res N)] [] [] [] false [] []

theorem Eok_23 (N : Nat) : EnvOk Tryd.prog (E_23 N) := mkEnv_ok mixed tys_ok (FnsOk.cons (sha_ror_ct N) (FnsOk.nil)) (ItsOk.nil)

noncomputable def sha_schedule_s1 (N : Nat) (block : (List UInt8)) (x2 : (List Int)) (w : (List Int)) (x11 : Int) (rec : (List Int) → Int → Option (List Int)) (k0 : (List Int) → Option (List Int)) : Option (List Int) :=
  cond (decide (x11 < (16 : Int)))
  (cond (decide (((0 : Int) ≤ (IntKind.wrap IntKind.i64 ((IntKind.wrap IntKind.i64 ((4 : Int) * x11)) + (4 : Int)))) ∧ ((IntKind.wrap IntKind.i64 ((IntKind.wrap IntKind.i64 ((4 : Int) * x11)) + (4 : Int))) ≤ (((List.length block) : Nat) : Int))))
    (cond (decide (((0 : Int) ≤ (IntKind.wrap IntKind.i64 ((4 : Int) * x11))) ∧ ((IntKind.wrap IntKind.i64 ((4 : Int) * x11)) ≤ (IntKind.wrap IntKind.i64 ((IntKind.wrap IntKind.i64 ((4 : Int) * x11)) + (4 : Int))))))
      (cond (inR (0 : Int) (List.length (cut block (Int.toNat (IntKind.wrap IntKind.i64 ((4 : Int) * x11))) (Int.toNat (IntKind.wrap IntKind.i64 ((IntKind.wrap IntKind.i64 ((4 : Int) * x11)) + (4 : Int)))))))
        (cond (inR (1 : Int) (List.length (cut block (Int.toNat (IntKind.wrap IntKind.i64 ((4 : Int) * x11))) (Int.toNat (IntKind.wrap IntKind.i64 ((IntKind.wrap IntKind.i64 ((4 : Int) * x11)) + (4 : Int)))))))
          (cond (inR (2 : Int) (List.length (cut block (Int.toNat (IntKind.wrap IntKind.i64 ((4 : Int) * x11))) (Int.toNat (IntKind.wrap IntKind.i64 ((IntKind.wrap IntKind.i64 ((4 : Int) * x11)) + (4 : Int)))))))
            (cond (inR (3 : Int) (List.length (cut block (Int.toNat (IntKind.wrap IntKind.i64 ((4 : Int) * x11))) (Int.toNat (IntKind.wrap IntKind.i64 ((IntKind.wrap IntKind.i64 ((4 : Int) * x11)) + (4 : Int)))))))
              (cond (inR x11 64)
                (cond (decide ((Int.toNat x11) < (List.length w)))
                  (rec (List.set w (Int.toNat x11) (bitsOp Go.BinOp.or IntKind.u32 (bitsOp Go.BinOp.or IntKind.u32 (bitsOp Go.BinOp.or IntKind.u32 (shlI IntKind.u32 (IntKind.wrap IntKind.u32 (((UInt8.toNat (List.getD (cut block (Int.toNat (IntKind.wrap IntKind.i64 ((4 : Int) * x11))) (Int.toNat (IntKind.wrap IntKind.i64 ((IntKind.wrap IntKind.i64 ((4 : Int) * x11)) + (4 : Int))))) 0 (0 : UInt8))) : Nat) : Int)) (24 : Int)) (shlI IntKind.u32 (IntKind.wrap IntKind.u32 (((UInt8.toNat (List.getD (cut block (Int.toNat (IntKind.wrap IntKind.i64 ((4 : Int) * x11))) (Int.toNat (IntKind.wrap IntKind.i64 ((IntKind.wrap IntKind.i64 ((4 : Int) * x11)) + (4 : Int))))) 1 (0 : UInt8))) : Nat) : Int)) (16 : Int))) (shlI IntKind.u32 (IntKind.wrap IntKind.u32 (((UInt8.toNat (List.getD (cut block (Int.toNat (IntKind.wrap IntKind.i64 ((4 : Int) * x11))) (Int.toNat (IntKind.wrap IntKind.i64 ((IntKind.wrap IntKind.i64 ((4 : Int) * x11)) + (4 : Int))))) 2 (0 : UInt8))) : Nat) : Int)) (8 : Int))) (IntKind.wrap IntKind.u32 (((UInt8.toNat (List.getD (cut block (Int.toNat (IntKind.wrap IntKind.i64 ((4 : Int) * x11))) (Int.toNat (IntKind.wrap IntKind.i64 ((IntKind.wrap IntKind.i64 ((4 : Int) * x11)) + (4 : Int))))) 3 (0 : UInt8))) : Nat) : Int)))) (IntKind.wrap IntKind.i64 (x11 + (1 : Int))))
                  (none))
                (none))
              (none))
            (none))
          (none))
        (none))
      (none))
    (none))
  (k0 w)

noncomputable def sha_schedule_p1 (N : Nat) (block : (List UInt8)) (x2 : (List Int)) (w : (List Int)) (x11 : Int) (k0 : (List Int) → Option (List Int)) : Option (List Int) :=
  iter (fun (v : ((List Int) × Int)) r => sha_schedule_s1 N block x2 v.1 v.2 (fun w x11 => (r (w, x11))) k0) N (w, x11)

noncomputable def g1_23 (N : Nat) (i : ((List UInt8) × (List Int))) (v : ((List Int) × Int)) (r : ((List Int) × Int) → Option (List Int)) (K : Ex → List A → Option (List Int)) : Option (List Int) :=
  sha_schedule_s1 N i.1 i.2 v.1 v.2 (fun w x11 => (r (w, x11))) (fun a1 => (K (.exit 0) (mkS [(2, .box (.arr 64 (.int .u32))), (0, .box (.arr 64 (.int .u32)))] 82 (i.2, a1, ()))))

noncomputable def h1_23 (N : Nat) : Hd (List Int) := fun st K => (unS [(0, .v .str), (1, .box (.arr 64 (.int .u32))), (0, .box (.arr 64 (.int .u32))), (7, .v (.int .i64))] 74 (restr [11, 0, 3, 2] 0 st)).bind fun x => iter (fun v r => g1_23 N ((fun x => (x.1, x.2.1)) x) v r K) N ((fun x => (x.2.2.1, x.2.2.2.1)) x)

noncomputable def t1_23 (N : Nat) : Tab (List Int) := []

theorem ok1_23 {N : Nat} {c : Ctx} (hb : Base Tryd.prog (E_23 N) c) : CodeOk Tryd.prog c (nodeAt body_23 [0, 1, 0, 1, 1]) (h1_23 N) :=
  loop_ok (s := [(0, .v .str), (1, .box (.arr 64 (.int .u32))), (0, .box (.arr 64 (.int .u32))), (7, .v (.int .i64))]) (m := 74) (g1_23 N) [11, 0, 3, 2] N (fun x => (x.1, x.2.1)) (fun x => (x.2.2.1, x.2.2.2.1)) (fun i v => (i.1, i.2, v.1, v.2, ())) (fun _ => rfl) (evN_sound hb N (t1_23 N) L_23 body_23 TabOk.nil [0, 0, 1, 0, 1, 1] _ rfl) (fun i v r K => by kernel_rfl)

noncomputable def sha_schedule_s2 (N : Nat) (x2 : (List Int)) (w : (List Int)) (t : Int) (rec : (List Int) → Int → Option (List Int)) (k0 : (List Int) → Option (List Int)) : Option (List Int) :=
  cond (decide (t < (64 : Int)))
  (cond (inR (IntKind.wrap IntKind.i64 (t - (15 : Int))) 64)
    (cond (decide ((Int.toNat (IntKind.wrap IntKind.i64 (t - (15 : Int)))) < (List.length w)))
      (cond (inR (IntKind.wrap IntKind.i64 (t - (2 : Int))) 64)
        (cond (decide ((Int.toNat (IntKind.wrap IntKind.i64 (t - (2 : Int)))) < (List.length w)))
          (cond (inR (IntKind.wrap IntKind.i64 (t - (7 : Int))) 64)
            (cond (decide ((Int.toNat (IntKind.wrap IntKind.i64 (t - (7 : Int)))) < (List.length w)))
              (cond (inR (IntKind.wrap IntKind.i64 (t - (16 : Int))) 64)
                (cond (decide ((Int.toNat (IntKind.wrap IntKind.i64 (t - (16 : Int)))) < (List.length w)))
                  (cond (inR t 64)
                    (cond (decide ((Int.toNat t) < (List.length w)))
                      (rec (List.set w (Int.toNat t) (IntKind.wrap IntKind.u32 ((IntKind.wrap IntKind.u32 ((IntKind.wrap IntKind.u32 ((bitsOp Go.BinOp.xor IntKind.u32 (bitsOp Go.BinOp.xor IntKind.u32 (bitsOp Go.BinOp.or IntKind.u32 (shlI IntKind.u32 (List.getD w (Int.toNat (IntKind.wrap IntKind.i64 (t - (2 : Int)))) (0 : Int)) (bitsOp Go.BinOp.and IntKind.u64 (IntKind.wrap IntKind.u64 (IntKind.wrap IntKind.i64 ((0 : Int) - (17 : Int)))) (31 : Int))) (shrI IntKind.u32 (List.getD w (Int.toNat (IntKind.wrap IntKind.i64 (t - (2 : Int)))) (0 : Int)) (IntKind.wrap IntKind.u64 ((32 : Int) - (bitsOp Go.BinOp.and IntKind.u64 (IntKind.wrap IntKind.u64 (IntKind.wrap IntKind.i64 ((0 : Int) - (17 : Int)))) (31 : Int)))))) (bitsOp Go.BinOp.or IntKind.u32 (shlI IntKind.u32 (List.getD w (Int.toNat (IntKind.wrap IntKind.i64 (t - (2 : Int)))) (0 : Int)) (bitsOp Go.BinOp.and IntKind.u64 (IntKind.wrap IntKind.u64 (IntKind.wrap IntKind.i64 ((0 : Int) - (19 : Int)))) (31 : Int))) (shrI IntKind.u32 (List.getD w (Int.toNat (IntKind.wrap IntKind.i64 (t - (2 : Int)))) (0 : Int)) (IntKind.wrap IntKind.u64 ((32 : Int) - (bitsOp Go.BinOp.and IntKind.u64 (IntKind.wrap IntKind.u64 (IntKind.wrap IntKind.i64 ((0 : Int) - (19 : Int)))) (31 : Int))))))) (shrI IntKind.u32 (List.getD w (Int.toNat (IntKind.wrap IntKind.i64 (t - (2 : Int)))) (0 : Int)) (10 : Int))) + (List.getD w (Int.toNat (IntKind.wrap IntKind.i64 (t - (7 : Int)))) (0 : Int)))) + (bitsOp Go.BinOp.xor IntKind.u32 (bitsOp Go.BinOp.xor IntKind.u32 (bitsOp Go.BinOp.or IntKind.u32 (shlI IntKind.u32 (List.getD w (Int.toNat (IntKind.wrap IntKind.i64 (t - (15 : Int)))) (0 : Int)) (bitsOp Go.BinOp.and IntKind.u64 (IntKind.wrap IntKind.u64 (IntKind.wrap IntKind.i64 ((0 : Int) - (7 : Int)))) (31 : Int))) (shrI IntKind.u32 (List.getD w (Int.toNat (IntKind.wrap IntKind.i64 (t - (15 : Int)))) (0 : Int)) (IntKind.wrap IntKind.u64 ((32 : Int) - (bitsOp Go.BinOp.and IntKind.u64 (IntKind.wrap IntKind.u64 (IntKind.wrap IntKind.i64 ((0 : Int) - (7 : Int)))) (31 : Int)))))) (bitsOp Go.BinOp.or IntKind.u32 (shlI IntKind.u32 (List.getD w (Int.toNat (IntKind.wrap IntKind.i64 (t - (15 : Int)))) (0 : Int)) (bitsOp Go.BinOp.and IntKind.u64 (IntKind.wrap IntKind.u64 (IntKind.wrap IntKind.i64 ((0 : Int) - (18 : Int)))) (31 : Int))) (shrI IntKind.u32 (List.getD w (Int.toNat (IntKind.wrap IntKind.i64 (t - (15 : Int)))) (0 : Int)) (IntKind.wrap IntKind.u64 ((32 : Int) - (bitsOp Go.BinOp.and IntKind.u64 (IntKind.wrap IntKind.u64 (IntKind.wrap IntKind.i64 ((0 : Int) - (18 : Int)))) (31 : Int))))))) (shrI IntKind.u32 (List.getD w (Int.toNat (IntKind.wrap IntKind.i64 (t - (15 : Int)))) (0 : Int)) (3 : Int))))) + (List.getD w (Int.toNat (IntKind.wrap IntKind.i64 (t - (16 : Int)))) (0 : Int))))) (IntKind.wrap IntKind.i64 (t + (1 : Int))))
                      (none))
                    (none))
                  (none))
                (none))
              (none))
            (none))
          (none))
        (none))
      (none))
    (none))
  (k0 w)

noncomputable def sha_schedule_p2 (N : Nat) (x2 : (List Int)) (w : (List Int)) (t : Int) (k0 : (List Int) → Option (List Int)) : Option (List Int) :=
  iter (fun (v : ((List Int) × Int)) r => sha_schedule_s2 N x2 v.1 v.2 (fun w t => (r (w, t))) k0) N (w, t)

noncomputable def g2_23 (N : Nat) (i : (List Int)) (v : ((List Int) × Int)) (r : ((List Int) × Int) → Option (List Int)) (K : Ex → List A → Option (List Int)) : Option (List Int) :=
  sha_schedule_s2 N i v.1 v.2 (fun w t => (r (w, t))) (fun a1 => (K (.exit 2) (mkS [(2, .box (.arr 64 (.int .u32))), (0, .box (.arr 64 (.int .u32)))] 82 (i, a1, ()))))

noncomputable def h2_23 (N : Nat) : Hd (List Int) := fun st K => (unS [(2, .box (.arr 64 (.int .u32))), (0, .box (.arr 64 (.int .u32))), (2, .v (.int .i64))] 79 (restr [6, 3, 2] 0 st)).bind fun x => iter (fun v r => g2_23 N ((fun x => x.1) x) v r K) N ((fun x => (x.2.1, x.2.2.1)) x)

noncomputable def t2_23 (N : Nat) : Tab (List Int) := []

theorem ok2_23 {N : Nat} {c : Ctx} (hb : Base Tryd.prog (E_23 N) c) : CodeOk Tryd.prog c (nodeAt body_23 [0, 1, 0, 1, 1, 1]) (h2_23 N) :=
  loop_ok (s := [(2, .box (.arr 64 (.int .u32))), (0, .box (.arr 64 (.int .u32))), (2, .v (.int .i64))]) (m := 79) (g2_23 N) [6, 3, 2] N (fun x => x.1) (fun x => (x.2.1, x.2.2.1)) (fun i v => (i, v.1, v.2, ())) (fun _ => rfl) (evN_sound hb N (t2_23 N) L_23 body_23 TabOk.nil [0, 0, 1, 0, 1, 1, 1] _ rfl) (fun i v r K => by kernel_rfl)

noncomputable def sha_schedule (N : Nat) (block : (List UInt8)) : Option (List Int) :=
  sha_schedule_p1 N block ((0 : Int) :: (0 : Int) :: (0 : Int) :: (0 : Int) :: (0 : Int) :: (0 : Int) :: (0 : Int) :: (0 : Int) :: (0 : Int) :: (0 : Int) :: (0 : Int) :: (0 : Int) :: (0 : Int) :: (0 : Int) :: (0 : Int) :: (0 : Int) :: (0 : Int) :: (0 : Int) :: (0 : Int) :: (0 : Int) :: (0 : Int) :: (0 : Int) :: (0 : Int) :: (0 : Int) :: (0 : Int) :: (0 : Int) :: (0 : Int) :: (0 : Int) :: (0 : Int) :: (0 : Int) :: (0 : Int) :: (0 : Int) :: (0 : Int) :: (0 : Int) :: (0 : Int) :: (0 : Int) :: (0 : Int) :: (0 : Int) :: (0 : Int) :: (0 : Int) :: (0 : Int) :: (0 : Int) :: (0 : Int) :: (0 : Int) :: (0 : Int) :: (0 : Int) :: (0 : Int) :: (0 : Int) :: (0 : Int) :: (0 : Int) :: (0 : Int) :: (0 : Int) :: (0 : Int) :: (0 : Int) :: (0 : Int) :: (0 : Int) :: (0 : Int) :: (0 : Int) :: (0 : Int) :: (0 : Int) :: (0 : Int) :: (0 : Int) :: (0 : Int) :: (0 : Int) :: ([] : List Int)) ((0 : Int) :: (0 : Int) :: (0 : Int) :: (0 : Int) :: (0 : Int) :: (0 : Int) :: (0 : Int) :: (0 : Int) :: (0 : Int) :: (0 : Int) :: (0 : Int) :: (0 : Int) :: (0 : Int) :: (0 : Int) :: (0 : Int) :: (0 : Int) :: (0 : Int) :: (0 : Int) :: (0 : Int) :: (0 : Int) :: (0 : Int) :: (0 : Int) :: (0 : Int) :: (0 : Int) :: (0 : Int) :: (0 : Int) :: (0 : Int) :: (0 : Int) :: (0 : Int) :: (0 : Int) :: (0 : Int) :: (0 : Int) :: (0 : Int) :: (0 : Int) :: (0 : Int) :: (0 : Int) :: (0 : Int) :: (0 : Int) :: (0 : Int) :: (0 : Int) :: (0 : Int) :: (0 : Int) :: (0 : Int) :: (0 : Int) :: (0 : Int) :: (0 : Int) :: (0 : Int) :: (0 : Int) :: (0 : Int) :: (0 : Int) :: (0 : Int) :: (0 : Int) :: (0 : Int) :: (0 : Int) :: (0 : Int) :: (0 : Int) :: (0 : Int) :: (0 : Int) :: (0 : Int) :: (0 : Int) :: (0 : Int) :: (0 : Int) :: (0 : Int) :: (0 : Int) :: ([] : List Int)) (0 : Int)
  (fun w => sha_schedule_p2 N ((0 : Int) :: (0 : Int) :: (0 : Int) :: (0 : Int) :: (0 : Int) :: (0 : Int) :: (0 : Int) :: (0 : Int) :: (0 : Int) :: (0 : Int) :: (0 : Int) :: (0 : Int) :: (0 : Int) :: (0 : Int) :: (0 : Int) :: (0 : Int) :: (0 : Int) :: (0 : Int) :: (0 : Int) :: (0 : Int) :: (0 : Int) :: (0 : Int) :: (0 : Int) :: (0 : Int) :: (0 : Int) :: (0 : Int) :: (0 : Int) :: (0 : Int) :: (0 : Int) :: (0 : Int) :: (0 : Int) :: (0 : Int) :: (0 : Int) :: (0 : Int) :: (0 : Int) :: (0 : Int) :: (0 : Int) :: (0 : Int) :: (0 : Int) :: (0 : Int) :: (0 : Int) :: (0 : Int) :: (0 : Int) :: (0 : Int) :: (0 : Int) :: (0 : Int) :: (0 : Int) :: (0 : Int) :: (0 : Int) :: (0 : Int) :: (0 : Int) :: (0 : Int) :: (0 : Int) :: (0 : Int) :: (0 : Int) :: (0 : Int) :: (0 : Int) :: (0 : Int) :: (0 : Int) :: (0 : Int) :: (0 : Int) :: (0 : Int) :: (0 : Int) :: (0 : Int) :: ([] : List Int)) w (16 : Int)
    (fun w1 => some w1))

noncomputable def t_23 (N : Nat) : Tab (List Int) := [([0, 1, 0, 1, 1], h1_23 N), ([0, 1, 0, 1, 1, 1], h2_23 N)]

theorem link_23 (N : Nat) (x : denS [(0, .v .str)]) : evFX (E_23 N) N (t_23 N) L_23 Tryd.f60 (mkS [(0, .v .str)] 0 x) (kRes (.v (.arr 64 (.int .u32))) 1) = sha_schedule N x.1 := by kernel_rfl

noncomputable def sha_schedule_res (N : Nat) : List A → Res := resOf [(0, .v .str)] (fun x => sha_schedule N x.1) (oRes (.v (.arr 64 (.int .u32))) 1)

theorem sha_schedule_ct (N : Nat) : Contract Tryd.prog glob 60 (sha_schedule_res N) :=
  Contract.of (E := E_23 N) (H := t_23 N) (L := L_23) (N := N) (body := body_23) (K := (kRes (.v (.arr 64 (.int .u32))) 1)) (Eok_23 N) Tryd.func60 (by kernel_rfl) (by decide) (fun _ hb => (TabOk.cons (ok1_23 hb) (TabOk.cons (ok2_23 hb) TabOk.nil))) (fun x y h => by rw [link_23]; exact h) (kRes_ok (s := (.v (.arr 64 (.int .u32)))) (m := 1))

noncomputable def body_24 : Code := (Tryd.f61.body).getD .skip

noncomputable def L_24 : List (List Nat × List Nat) := [([0], [2, 1, 4]), ([0, 1], [12, 9, 10, 11, 1, 5, 6, 7, 8, 4]), ([0, 1, 1], [5, 6, 7, 13, 8, 9, 10, 11, 4]), ([0, 1, 1, 1], [13, 14, 5, 6, 7, 8, 9, 10, 11, 4]), ([0, 1, 1, 1, 1], [4]), ([1, 1, 1, 1, 1], [4])]

noncomputable def E_24 (N : Nat) : Env := mkEnv tys glob [(62, sha_ror_res N)] [] [] [] false [] []

theorem Eok_24 (N : Nat) : EnvOk Tryd.prog (E_24 N) := mkEnv_ok mixed tys_ok (FnsOk.cons (sha_ror_ct N) (FnsOk.nil)) (ItsOk.nil)

noncomputable def sha_round (N : Nat) (v_ : (List Int)) (k : Int) : Option (List Int) :=
  cond (decide (0 < (List.length v_)))
  (cond (decide (1 < (List.length v_)))
    (cond (decide (2 < (List.length v_)))
      (cond (decide (3 < (List.length v_)))
        (cond (decide (4 < (List.length v_)))
          (cond (decide (5 < (List.length v_)))
            (cond (decide (6 < (List.length v_)))
              (cond (decide (7 < (List.length v_)))
                (some ([(IntKind.wrap IntKind.u32 ((IntKind.wrap IntKind.u32 ((IntKind.wrap IntKind.u32 ((IntKind.wrap IntKind.u32 ((List.getD v_ 7 (0 : Int)) + (bitsOp Go.BinOp.xor IntKind.u32 (bitsOp Go.BinOp.xor IntKind.u32 (bitsOp Go.BinOp.or IntKind.u32 (shlI IntKind.u32 (List.getD v_ 4 (0 : Int)) (bitsOp Go.BinOp.and IntKind.u64 (IntKind.wrap IntKind.u64 (IntKind.wrap IntKind.i64 ((0 : Int) - (6 : Int)))) (31 : Int))) (shrI IntKind.u32 (List.getD v_ 4 (0 : Int)) (IntKind.wrap IntKind.u64 ((32 : Int) - (bitsOp Go.BinOp.and IntKind.u64 (IntKind.wrap IntKind.u64 (IntKind.wrap IntKind.i64 ((0 : Int) - (6 : Int)))) (31 : Int)))))) (bitsOp Go.BinOp.or IntKind.u32 (shlI IntKind.u32 (List.getD v_ 4 (0 : Int)) (bitsOp Go.BinOp.and IntKind.u64 (IntKind.wrap IntKind.u64 (IntKind.wrap IntKind.i64 ((0 : Int) - (11 : Int)))) (31 : Int))) (shrI IntKind.u32 (List.getD v_ 4 (0 : Int)) (IntKind.wrap IntKind.u64 ((32 : Int) - (bitsOp Go.BinOp.and IntKind.u64 (IntKind.wrap IntKind.u64 (IntKind.wrap IntKind.i64 ((0 : Int) - (11 : Int)))) (31 : Int))))))) (bitsOp Go.BinOp.or IntKind.u32 (shlI IntKind.u32 (List.getD v_ 4 (0 : Int)) (bitsOp Go.BinOp.and IntKind.u64 (IntKind.wrap IntKind.u64 (IntKind.wrap IntKind.i64 ((0 : Int) - (25 : Int)))) (31 : Int))) (shrI IntKind.u32 (List.getD v_ 4 (0 : Int)) (IntKind.wrap IntKind.u64 ((32 : Int) - (bitsOp Go.BinOp.and IntKind.u64 (IntKind.wrap IntKind.u64 (IntKind.wrap IntKind.i64 ((0 : Int) - (25 : Int)))) (31 : Int))))))))) + (bitsOp Go.BinOp.xor IntKind.u32 (bitsOp Go.BinOp.and IntKind.u32 (List.getD v_ 4 (0 : Int)) (List.getD v_ 5 (0 : Int))) (bitsOp Go.BinOp.and IntKind.u32 (bitsOp Go.BinOp.xor IntKind.u32 (if ((IntKind.signed IntKind.u32) = true) then (-(1 : Int)) else (IntKind.max IntKind.u32)) (List.getD v_ 4 (0 : Int))) (List.getD v_ 6 (0 : Int)))))) + k)) + (IntKind.wrap IntKind.u32 ((bitsOp Go.BinOp.xor IntKind.u32 (bitsOp Go.BinOp.xor IntKind.u32 (bitsOp Go.BinOp.or IntKind.u32 (shlI IntKind.u32 (List.getD v_ 0 (0 : Int)) (bitsOp Go.BinOp.and IntKind.u64 (IntKind.wrap IntKind.u64 (IntKind.wrap IntKind.i64 ((0 : Int) - (2 : Int)))) (31 : Int))) (shrI IntKind.u32 (List.getD v_ 0 (0 : Int)) (IntKind.wrap IntKind.u64 ((32 : Int) - (bitsOp Go.BinOp.and IntKind.u64 (IntKind.wrap IntKind.u64 (IntKind.wrap IntKind.i64 ((0 : Int) - (2 : Int)))) (31 : Int)))))) (bitsOp Go.BinOp.or IntKind.u32 (shlI IntKind.u32 (List.getD v_ 0 (0 : Int)) (bitsOp Go.BinOp.and IntKind.u64 (IntKind.wrap IntKind.u64 (IntKind.wrap IntKind.i64 ((0 : Int) - (13 : Int)))) (31 : Int))) (shrI IntKind.u32 (List.getD v_ 0 (0 : Int)) (IntKind.wrap IntKind.u64 ((32 : Int) - (bitsOp Go.BinOp.and IntKind.u64 (IntKind.wrap IntKind.u64 (IntKind.wrap IntKind.i64 ((0 : Int) - (13 : Int)))) (31 : Int))))))) (bitsOp Go.BinOp.or IntKind.u32 (shlI IntKind.u32 (List.getD v_ 0 (0 : Int)) (bitsOp Go.BinOp.and IntKind.u64 (IntKind.wrap IntKind.u64 (IntKind.wrap IntKind.i64 ((0 : Int) - (22 : Int)))) (31 : Int))) (shrI IntKind.u32 (List.getD v_ 0 (0 : Int)) (IntKind.wrap IntKind.u64 ((32 : Int) - (bitsOp Go.BinOp.and IntKind.u64 (IntKind.wrap IntKind.u64 (IntKind.wrap IntKind.i64 ((0 : Int) - (22 : Int)))) (31 : Int))))))) + (bitsOp Go.BinOp.xor IntKind.u32 (bitsOp Go.BinOp.xor IntKind.u32 (bitsOp Go.BinOp.and IntKind.u32 (List.getD v_ 0 (0 : Int)) (List.getD v_ 1 (0 : Int))) (bitsOp Go.BinOp.and IntKind.u32 (List.getD v_ 0 (0 : Int)) (List.getD v_ 2 (0 : Int)))) (bitsOp Go.BinOp.and IntKind.u32 (List.getD v_ 1 (0 : Int)) (List.getD v_ 2 (0 : Int)))))))), (List.getD v_ 0 (0 : Int)), (List.getD v_ 1 (0 : Int)), (List.getD v_ 2 (0 : Int)), (IntKind.wrap IntKind.u32 ((List.getD v_ 3 (0 : Int)) + (IntKind.wrap IntKind.u32 ((IntKind.wrap IntKind.u32 ((IntKind.wrap IntKind.u32 ((List.getD v_ 7 (0 : Int)) + (bitsOp Go.BinOp.xor IntKind.u32 (bitsOp Go.BinOp.xor IntKind.u32 (bitsOp Go.BinOp.or IntKind.u32 (shlI IntKind.u32 (List.getD v_ 4 (0 : Int)) (bitsOp Go.BinOp.and IntKind.u64 (IntKind.wrap IntKind.u64 (IntKind.wrap IntKind.i64 ((0 : Int) - (6 : Int)))) (31 : Int))) (shrI IntKind.u32 (List.getD v_ 4 (0 : Int)) (IntKind.wrap IntKind.u64 ((32 : Int) - (bitsOp Go.BinOp.and IntKind.u64 (IntKind.wrap IntKind.u64 (IntKind.wrap IntKind.i64 ((0 : Int) - (6 : Int)))) (31 : Int)))))) (bitsOp Go.BinOp.or IntKind.u32 (shlI IntKind.u32 (List.getD v_ 4 (0 : Int)) (bitsOp Go.BinOp.and IntKind.u64 (IntKind.wrap IntKind.u64 (IntKind.wrap IntKind.i64 ((0 : Int) - (11 : Int)))) (31 : Int))) (shrI IntKind.u32 (List.getD v_ 4 (0 : Int)) (IntKind.wrap IntKind.u64 ((32 : Int) - (bitsOp Go.BinOp.and IntKind.u64 (IntKind.wrap IntKind.u64 (IntKind.wrap IntKind.i64 ((0 : Int) - (11 : Int)))) (31 : Int))))))) (bitsOp Go.BinOp.or IntKind.u32 (shlI IntKind.u32 (List.getD v_ 4 (0 : Int)) (bitsOp Go.BinOp.and IntKind.u64 (IntKind.wrap IntKind.u64 (IntKind.wrap IntKind.i64 ((0 : Int) - (25 : Int)))) (31 : Int))) (shrI IntKind.u32 (List.getD v_ 4 (0 : Int)) (IntKind.wrap IntKind.u64 ((32 : Int) - (bitsOp Go.BinOp.and IntKind.u64 (IntKind.wrap IntKind.u64 (IntKind.wrap IntKind.i64 ((0 : Int) - (25 : Int)))) (31 : Int))))))))) + (bitsOp Go.BinOp.xor IntKind.u32 (bitsOp Go.BinOp.and IntKind.u32 (List.getD v_ 4 (0 : Int)) (List.getD v_ 5 (0 : Int))) (bitsOp Go.BinOp.and IntKind.u32 (bitsOp Go.BinOp.xor IntKind.u32 (if ((IntKind.signed IntKind.u32) = true) then (-(1 : Int)) else (IntKind.max IntKind.u32)) (List.getD v_ 4 (0 : Int))) (List.getD v_ 6 (0 : Int)))))) + k)))), (List.getD v_ 4 (0 : Int)), (List.getD v_ 5 (0 : Int)), (List.getD v_ 6 (0 : Int))] : List Int))
                (none))
              (none))
            (none))
          (none))
        (none))
      (none))
    (none))
  (none)

noncomputable def t_24 (N : Nat) : Tab (List Int) := []

theorem link_24 (N : Nat) (x : denS [(0, .v (.arr 8 (.int .u32))), (0, .v (.int .u32))]) : evFX (E_24 N) N (t_24 N) L_24 Tryd.f61 (mkS [(0, .v (.arr 8 (.int .u32))), (0, .v (.int .u32))] 0 x) (kRes (.v (.arr 8 (.int .u32))) 2) = sha_round N x.1 x.2.1 := by kernel_rfl

noncomputable def sha_round_res (N : Nat) : List A → Res := resOf [(0, .v (.arr 8 (.int .u32))), (0, .v (.int .u32))] (fun x => sha_round N x.1 x.2.1) (oRes (.v (.arr 8 (.int .u32))) 2)

theorem sha_round_ct (N : Nat) : Contract Tryd.prog glob 61 (sha_round_res N) :=
  Contract.of (E := E_24 N) (H := t_24 N) (L := L_24) (N := N) (body := body_24) (K := (kRes (.v (.arr 8 (.int .u32))) 2)) (Eok_24 N) Tryd.func61 (by kernel_rfl) (by decide) (fun _ hb => TabOk.nil) (fun x y h => by rw [link_24]; exact h) (kRes_ok (s := (.v (.arr 8 (.int .u32)))) (m := 2))

noncomputable def body_25 : Code := (Tryd.f58.body).getD .skip

noncomputable def L_25 : List (List Nat × List Nat) := [([0], [1, 2, 4]), ([0, 0, 1], [11, 2, 4, 1]), ([1, 0, 1], [1, 2, 4]), ([0, 0, 1, 0, 1], [4]), ([1, 0, 1, 0, 1], [4]), ([0, 1, 1], [2, 5, 4]), ([0, 1, 1, 1], [6, 5, 2, 4]), ([0, 0, 1, 1, 1, 1], [16, 6, 5, 2, 4]), ([0, 1, 0, 1, 1, 1, 1], [16, 6, 5, 2, 4]), ([0, 0, 0, 1, 0, 1, 1, 1, 1], [17, 16, 6, 5, 2, 4]), ([0, 1, 0, 0, 1, 0, 1, 1, 1, 1], [16, 6, 5, 2, 4]), ([1, 0, 1, 0, 0, 1, 0, 1, 1, 1, 1], [6, 2, 4]), ([0, 0, 0, 1, 1, 0, 0, 1, 0, 1, 1, 1, 1], [6, 7, 5, 16, 2, 4]), ([1, 0, 0, 1, 1, 0, 0, 1, 0, 1, 1, 1, 1], [16, 6, 5, 2, 4]), ([0, 1, 1, 0, 0, 1, 0, 1, 1, 1, 1], [16, 6, 5, 2, 4]), ([1, 1, 1, 0, 0, 1, 0, 1, 1, 1, 1], [16, 6, 5, 2, 4]), ([1, 0, 1, 1, 1, 1], [6, 2, 4]), ([0, 0, 1, 1, 1, 1, 1], [29, 6, 2, 4]), ([0, 1, 0, 1, 1, 1, 1, 1], [29, 6, 2, 4]), ([0, 0, 0, 1, 0, 1, 1, 1, 1, 1], [30, 29, 6, 2, 4]), ([0, 1, 0, 0, 1, 0, 1, 1, 1, 1, 1], [29, 6, 2, 4]), ([1, 0, 1, 0, 0, 1, 0, 1, 1, 1, 1, 1], [6, 4]), ([0, 0, 0, 1, 1, 0, 0, 1, 0, 1, 1, 1, 1, 1], [8, 6, 2, 29, 4]), ([1, 0, 0, 1, 1, 0, 0, 1, 0, 1, 1, 1, 1, 1], [29, 6, 2, 4]), ([0, 1, 1, 0, 0, 1, 0, 1, 1, 1, 1, 1], [29, 6, 2, 4]), ([1, 1, 1, 0, 0, 1, 0, 1, 1, 1, 1, 1], [29, 6, 2, 4]), ([1, 0, 1, 1, 1, 1, 1], [6, 4]), ([0, 1, 1, 1, 1, 1, 1], [4]), ([1, 1, 1, 1, 1, 1, 1], [4])]

noncomputable def E_25 (N : Nat) : Env := mkEnv tys glob [(61, sha_round_res N), (60, sha_schedule_res N)] [] [] [] false [] []

theorem Eok_25 (N : Nat) : EnvOk Tryd.prog (E_25 N) := mkEnv_ok mixed tys_ok (FnsOk.cons (sha_round_ct N) (FnsOk.cons (sha_schedule_ct N) (FnsOk.nil))) (ItsOk.nil)

noncomputable def sha_Step_s1 (N : Nat) (h : (List Int)) (x4 : (List Int)) (w : (List Int)) (v_ : (List Int)) (x16 : Int) (rec : (List Int) → Int → Option (List Int)) (k0 : (List Int) → Option (List Int)) : Option (List Int) :=
  cond (decide (x16 < (64 : Int)))
  (cond (inR x16 64)
    (cond (inR x16 64)
      (cond (decide ((Int.toNat x16) < (List.length w)))
        ((sha_round N v_ (IntKind.wrap IntKind.u32 ((List.getD glob0 (Int.toNat x16) (0 : Int)) + (List.getD w (Int.toNat x16) (0 : Int))))).bind fun y =>
          rec y (IntKind.wrap IntKind.i64 (x16 + (1 : Int))))
        (none))
      (none))
    (none))
  (k0 v_)

noncomputable def sha_Step_p1 (N : Nat) (h : (List Int)) (x4 : (List Int)) (w : (List Int)) (v_ : (List Int)) (x16 : Int) (k0 : (List Int) → Option (List Int)) : Option (List Int) :=
  iter (fun (v : ((List Int) × Int)) r => sha_Step_s1 N h x4 w v.1 v.2 (fun v_ x16 => (r (v_, x16))) k0) N (v_, x16)

noncomputable def g1_25 (N : Nat) (i : ((List Int) × (List Int) × (List Int))) (v : ((List Int) × Int)) (r : ((List Int) × Int) → Option (List Int)) (K : Ex → List A → Option (List Int)) : Option (List Int) :=
  sha_Step_s1 N i.1 i.2.1 i.2.2 v.1 v.2 (fun v_ x16 => (r (v_, x16))) (fun a2 => (K (.exit 0) (mkS [(2, .box (.arr 8 (.int .u32))), (1, .box (.arr 8 (.int .u32))), (1, .box (.arr 8 (.int .u32)))] 35 (i.1, i.2.1, a2, ()))))

noncomputable def h1_25 (N : Nat) : Hd (List Int) := fun st K => (unS [(2, .box (.arr 8 (.int .u32))), (1, .box (.arr 8 (.int .u32))), (0, .box (.arr 64 (.int .u32))), (0, .box (.arr 8 (.int .u32))), (9, .v (.int .i64))] 25 (restr [16, 6, 5, 2, 4] 0 st)).bind fun x => iter (fun v r => g1_25 N ((fun x => (x.1, x.2.1, x.2.2.1)) x) v r K) N ((fun x => (x.2.2.2.1, x.2.2.2.2.1)) x)

noncomputable def t1_25 (N : Nat) : Tab (List Int) := []

theorem ok1_25 {N : Nat} {c : Ctx} (hb : Base Tryd.prog (E_25 N) c) : CodeOk Tryd.prog c (nodeAt body_25 [0, 1, 0, 1, 1, 1, 1]) (h1_25 N) :=
  loop_ok (s := [(2, .box (.arr 8 (.int .u32))), (1, .box (.arr 8 (.int .u32))), (0, .box (.arr 64 (.int .u32))), (0, .box (.arr 8 (.int .u32))), (9, .v (.int .i64))]) (m := 25) (g1_25 N) [16, 6, 5, 2, 4] N (fun x => (x.1, x.2.1, x.2.2.1)) (fun x => (x.2.2.2.1, x.2.2.2.2.1)) (fun i v => (i.1, i.2.1, i.2.2, v.1, v.2, ())) (fun _ => rfl) (evN_sound hb N (t1_25 N) L_25 body_25 TabOk.nil [0, 0, 1, 0, 1, 1, 1, 1] _ rfl) (fun i v r K => by kernel_rfl)

noncomputable def sha_Step_s2 (N : Nat) (h : (List Int)) (x4 : (List Int)) (v_ : (List Int)) (x29 : Int) (rec : (List Int) → Int → Option (List Int)) (k0 : (List Int) → Option (List Int)) : Option (List Int) :=
  cond (decide (x29 < (8 : Int)))
  (cond (inR x29 8)
    (cond (decide ((Int.toNat x29) < (List.length v_)))
      (cond (inR x29 8)
        (cond (decide ((Int.toNat x29) < (List.length h)))
          (cond (inR x29 8)
            (cond (decide ((Int.toNat x29) < (List.length v_)))
              (rec (List.set v_ (Int.toNat x29) (IntKind.wrap IntKind.u32 ((List.getD v_ (Int.toNat x29) (0 : Int)) + (List.getD h (Int.toNat x29) (0 : Int))))) (IntKind.wrap IntKind.i64 (x29 + (1 : Int))))
              (none))
            (none))
          (none))
        (none))
      (none))
    (none))
  (k0 v_)

noncomputable def sha_Step_p2 (N : Nat) (h : (List Int)) (x4 : (List Int)) (v_ : (List Int)) (x29 : Int) (k0 : (List Int) → Option (List Int)) : Option (List Int) :=
  iter (fun (v : ((List Int) × Int)) r => sha_Step_s2 N h x4 v.1 v.2 (fun v_ x29 => (r (v_, x29))) k0) N (v_, x29)

noncomputable def g2_25 (N : Nat) (i : ((List Int) × (List Int))) (v : ((List Int) × Int)) (r : ((List Int) × Int) → Option (List Int)) (K : Ex → List A → Option (List Int)) : Option (List Int) :=
  sha_Step_s2 N i.1 i.2 v.1 v.2 (fun v_ x29 => (r (v_, x29))) (fun a1 => (K (.exit 2) (mkS [(4, .box (.arr 8 (.int .u32))), (1, .box (.arr 8 (.int .u32)))] 35 (i.2, a1, ()))))

noncomputable def h2_25 (N : Nat) : Hd (List Int) := fun st K => (unS [(2, .box (.arr 8 (.int .u32))), (1, .box (.arr 8 (.int .u32))), (1, .box (.arr 8 (.int .u32))), (22, .v (.int .i64))] 12 (restr [29, 6, 2, 4] 0 st)).bind fun x => iter (fun v r => g2_25 N ((fun x => (x.1, x.2.1)) x) v r K) N ((fun x => (x.2.2.1, x.2.2.2.1)) x)

noncomputable def t2_25 (N : Nat) : Tab (List Int) := []

theorem ok2_25 {N : Nat} {c : Ctx} (hb : Base Tryd.prog (E_25 N) c) : CodeOk Tryd.prog c (nodeAt body_25 [0, 1, 0, 1, 1, 1, 1, 1]) (h2_25 N) :=
  loop_ok (s := [(2, .box (.arr 8 (.int .u32))), (1, .box (.arr 8 (.int .u32))), (1, .box (.arr 8 (.int .u32))), (22, .v (.int .i64))]) (m := 12) (g2_25 N) [29, 6, 2, 4] N (fun x => (x.1, x.2.1)) (fun x => (x.2.2.1, x.2.2.2.1)) (fun i v => (i.1, i.2, v.1, v.2, ())) (fun _ => rfl) (evN_sound hb N (t2_25 N) L_25 body_25 TabOk.nil [0, 0, 1, 0, 1, 1, 1, 1, 1] _ rfl) (fun i v r K => by kernel_rfl)

noncomputable def sha_Step (N : Nat) (h : (List Int)) (block : (List UInt8)) : Option (List Int) :=
  cond ((((List.length block) : Nat) : Int) != (64 : Int))
  (some h)
  ((sha_schedule N block).bind fun y =>
    sha_Step_p1 N h ([(0 : Int), (0 : Int), (0 : Int), (0 : Int), (0 : Int), (0 : Int), (0 : Int), (0 : Int)] : List Int) y h (0 : Int)
    (fun v_ => sha_Step_p2 N h ([(0 : Int), (0 : Int), (0 : Int), (0 : Int), (0 : Int), (0 : Int), (0 : Int), (0 : Int)] : List Int) v_ (0 : Int)
      (fun v_1 => some v_1)))

noncomputable def t_25 (N : Nat) : Tab (List Int) := [([0, 1, 0, 1, 1, 1, 1], h1_25 N), ([0, 1, 0, 1, 1, 1, 1, 1], h2_25 N)]

theorem link_25 (N : Nat) (x : denS [(0, .v (.arr 8 (.int .u32))), (0, .v .str)]) : evFX (E_25 N) N (t_25 N) L_25 Tryd.f58 (mkS [(0, .v (.arr 8 (.int .u32))), (0, .v .str)] 0 x) (kRes (.v (.arr 8 (.int .u32))) 2) = sha_Step N x.1 x.2.1 := by kernel_rfl

noncomputable def sha_Step_res (N : Nat) : List A → Res := resOf [(0, .v (.arr 8 (.int .u32))), (0, .v .str)] (fun x => sha_Step N x.1 x.2.1) (oRes (.v (.arr 8 (.int .u32))) 2)

theorem sha_Step_ct (N : Nat) : Contract Tryd.prog glob 58 (sha_Step_res N) :=
  Contract.of (E := E_25 N) (H := t_25 N) (L := L_25) (N := N) (body := body_25) (K := (kRes (.v (.arr 8 (.int .u32))) 2)) (Eok_25 N) Tryd.func58 (by kernel_rfl) (by decide) (fun _ hb => (TabOk.cons (ok1_25 hb) (TabOk.cons (ok2_25 hb) TabOk.nil))) (fun x y h => by rw [link_25]; exact h) (kRes_ok (s := (.v (.arr 8 (.int .u32)))) (m := 2))

noncomputable def body_26 : Code := (Tryd.f54.body).getD .skip

noncomputable def L_26 : List (List Nat × List Nat) := [([0], [1, 2, 4]), ([0, 0, 1], [5, 1, 2, 4]), ([0, 1, 0, 1], [5, 1, 2, 4]), ([0, 0, 0, 0, 1, 0, 1], [9, 2, 1, 5, 4]), ([1, 0, 0, 0, 1, 0, 1], [2, 1, 5, 4]), ([1, 1, 0, 0, 0, 1, 0, 1], [2, 4]), ([0, 0, 1, 0, 0, 1, 0, 1], [5, 1, 2, 4]), ([0, 1, 0, 0, 1, 0, 1], [5, 1, 2, 4]), ([1, 1, 0, 0, 1, 0, 1], [5, 1, 2, 4]), ([1, 0, 1], [2, 4]), ([0, 1, 1], [4]), ([1, 1, 1], [4])]

noncomputable def E_26 (N : Nat) : Env := mkEnv tys glob [(58, sha_Step_res N)] [] [] [] false [] []

theorem Eok_26 (N : Nat) : EnvOk Tryd.prog (E_26 N) := mkEnv_ok mixed tys_ok (FnsOk.cons (sha_Step_ct N) (FnsOk.nil)) (ItsOk.nil)

noncomputable def sha_steps_s1 (N : Nat) (s : (List UInt8)) (x4 : (List Int)) (h : (List Int)) (i : Int) (rec : (List Int) → Int → Option (List Int)) (k0 : (List Int) → Option (List Int)) : Option (List Int) :=
  cond (decide (i < (((List.length s) : Nat) : Int)))
  (cond (decide (((0 : Int) ≤ (IntKind.wrap IntKind.i64 (i + (64 : Int)))) ∧ ((IntKind.wrap IntKind.i64 (i + (64 : Int))) ≤ (((List.length s) : Nat) : Int))))
    (cond (decide (((0 : Int) ≤ i) ∧ (i ≤ (IntKind.wrap IntKind.i64 (i + (64 : Int))))))
      ((sha_Step N h (cut s (Int.toNat i) (Int.toNat (IntKind.wrap IntKind.i64 (i + (64 : Int)))))).bind fun y =>
        rec y (IntKind.wrap IntKind.i64 (i + (64 : Int))))
      (none))
    (none))
  (k0 h)

noncomputable def sha_steps_p1 (N : Nat) (s : (List UInt8)) (h : (List Int)) (x4 : (List Int)) (i : Int) (k0 : (List Int) → Option (List Int)) : Option (List Int) :=
  iter (fun (v : ((List Int) × Int)) r => sha_steps_s1 N s x4 v.1 v.2 (fun h i => (r (h, i))) k0) N (h, i)

noncomputable def g1_26 (N : Nat) (i : ((List UInt8) × (List Int))) (v : ((List Int) × Int)) (r : ((List Int) × Int) → Option (List Int)) (K : Ex → List A → Option (List Int)) : Option (List Int) :=
  sha_steps_s1 N i.1 i.2 v.1 v.2 (fun h i => (r (h, i))) (fun a0 => (K (.exit 0) (mkS [(2, .box (.arr 8 (.int .u32))), (1, .box (.arr 8 (.int .u32)))] 15 (a0, i.2, ()))))

noncomputable def h1_26 (N : Nat) : Hd (List Int) := fun st K => (unS [(1, .v .str), (0, .box (.arr 8 (.int .u32))), (1, .box (.arr 8 (.int .u32))), (0, .v (.int .i64))] 14 (restr [5, 1, 2, 4] 0 st)).bind fun x => iter (fun v r => g1_26 N ((fun x => (x.1, x.2.2.1)) x) v r K) N ((fun x => (x.2.1, x.2.2.2.1)) x)

noncomputable def t1_26 (N : Nat) : Tab (List Int) := []

theorem ok1_26 {N : Nat} {c : Ctx} (hb : Base Tryd.prog (E_26 N) c) : CodeOk Tryd.prog c (nodeAt body_26 [0, 1, 0, 1]) (h1_26 N) :=
  loop_ok (s := [(1, .v .str), (0, .box (.arr 8 (.int .u32))), (1, .box (.arr 8 (.int .u32))), (0, .v (.int .i64))]) (m := 14) (g1_26 N) [5, 1, 2, 4] N (fun x => (x.1, x.2.2.1)) (fun x => (x.2.1, x.2.2.2.1)) (fun i v => (i.1, v.1, i.2, v.2, ())) (fun _ => rfl) (evN_sound hb N (t1_26 N) L_26 body_26 TabOk.nil [0, 0, 1, 0, 1] _ rfl) (fun i v r K => by kernel_rfl)

noncomputable def sha_steps (N : Nat) (h : (List Int)) (s : (List UInt8)) : Option (List Int) :=
  sha_steps_p1 N s h ([(0 : Int), (0 : Int), (0 : Int), (0 : Int), (0 : Int), (0 : Int), (0 : Int), (0 : Int)] : List Int) (0 : Int)
  (fun h1 => some h1)

noncomputable def t_26 (N : Nat) : Tab (List Int) := [([0, 1, 0, 1], h1_26 N)]

theorem link_26 (N : Nat) (x : denS [(0, .v (.arr 8 (.int .u32))), (0, .v .str)]) : evFX (E_26 N) N (t_26 N) L_26 Tryd.f54 (mkS [(0, .v (.arr 8 (.int .u32))), (0, .v .str)] 0 x) (kRes (.v (.arr 8 (.int .u32))) 2) = sha_steps N x.1 x.2.1 := by kernel_rfl

noncomputable def sha_steps_res (N : Nat) : List A → Res := resOf [(0, .v (.arr 8 (.int .u32))), (0, .v .str)] (fun x => sha_steps N x.1 x.2.1) (oRes (.v (.arr 8 (.int .u32))) 2)

theorem sha_steps_ct (N : Nat) : Contract Tryd.prog glob 54 (sha_steps_res N) :=
  Contract.of (E := E_26 N) (H := t_26 N) (L := L_26) (N := N) (body := body_26) (K := (kRes (.v (.arr 8 (.int .u32))) 2)) (Eok_26 N) Tryd.func54 (by kernel_rfl) (by decide) (fun _ hb => (TabOk.cons (ok1_26 hb) TabOk.nil)) (fun x y h => by rw [link_26]; exact h) (kRes_ok (s := (.v (.arr 8 (.int .u32)))) (m := 2))

noncomputable def body_27 : Code := (Tryd.f49.body).getD .skip

noncomputable def L_27 : List (List Nat × List Nat) := [([0, 0], [14, 0, 1]), ([1, 0], [0, 1]), ([0, 1, 0], [0]), ([0, 1], [0, 1]), ([0, 1, 1], [4, 0]), ([0, 1, 1, 1], [0, 4, 5]), ([0, 1, 1, 1, 1], [0, 4, 5]), ([1, 1, 1, 1, 1], [0])]

noncomputable def E_27 (N : Nat) : Env := mkEnv tys glob [(54, sha_steps_res N)] [] [] [0] false [] []

theorem Eok_27 (N : Nat) : EnvOk Tryd.prog (E_27 N) := mkEnv_ok mixed tys_ok (FnsOk.cons (sha_steps_ct N) (FnsOk.nil)) (ItsOk.nil)

noncomputable def sha_Hash_Add_p1 (N : Nat) (h : DT7) (s : (List UInt8)) (k0 : Option ((Unit) × (DT7 × Unit))) (k1 : Option ((Unit) × (DT7 × Unit))) : Option ((Unit) × (DT7 × Unit)) :=
  cond (!h.1)
  (k0)
  (k1)

noncomputable def g1_27 (N : Nat) (x : denS [(0, .box TT8), (0, .v .str)]) (K : Ex → List A → Option ((Unit) × (DT7 × Unit))) : Option ((Unit) × (DT7 × Unit)) :=
  sha_Hash_Add_p1 N x.1 x.2.1 (K .ret (mkS [(0, .box TT8)] 52 (x.1, ()))) (K .normal (mkS [(0, .box TT8), (0, .v .str)] 51 (x.1, x.2.1, ())))

noncomputable def h1_27 (N : Nat) : Hd ((Unit) × (DT7 × Unit)) := fun st K => (unS [(0, .box TT8), (0, .v .str)] 51 (restr [0, 1] 0 st)).bind fun x => g1_27 N x K

noncomputable def t1_27 (N : Nat) : Tab ((Unit) × (DT7 × Unit)) := []

theorem ok1_27 {N : Nat} {c : Ctx} (hb : Base Tryd.prog (E_27 N) c) : CodeOk Tryd.prog c (nodeAt body_27 [0]) (h1_27 N) :=
  piece_ok (s := [(0, .box TT8), (0, .v .str)]) (m := 51) (g := g1_27 N) [0, 1] (evN_sound hb N (t1_27 N) L_27 body_27 TabOk.nil [0] _ rfl) (fun x K => by kernel_rfl)

noncomputable def sha_Hash_Add (N : Nat) (h : DT7) (s : (List UInt8)) : Option ((Unit) × (DT7 × Unit)) :=
  sha_Hash_Add_p1 N h s
  (some ((), (h, ())))
  (cond (decide (((List.length h.2.2.1) + (List.length s)) ≤ 9223372036854775807))
    (cond (decide (((0 : Int) ≤ (IntKind.wrap IntKind.i64 ((((List.length (h.2.2.1 ++ s)) : Nat) : Int) - (Int.tmod (((List.length (h.2.2.1 ++ s)) : Nat) : Int) (64 : Int))))) ∧ ((IntKind.wrap IntKind.i64 ((((List.length (h.2.2.1 ++ s)) : Nat) : Int) - (Int.tmod (((List.length (h.2.2.1 ++ s)) : Nat) : Int) (64 : Int)))) ≤ (((List.length (h.2.2.1 ++ s)) : Nat) : Int))))
      ((sha_steps N h.2.1 (cut (h.2.2.1 ++ s) 0 (Int.toNat (IntKind.wrap IntKind.i64 ((((List.length (h.2.2.1 ++ s)) : Nat) : Int) - (Int.tmod (((List.length (h.2.2.1 ++ s)) : Nat) : Int) (64 : Int))))))).bind fun y =>
        cond (decide (((0 : Int) ≤ (IntKind.wrap IntKind.i64 ((((List.length (h.2.2.1 ++ s)) : Nat) : Int) - (Int.tmod (((List.length (h.2.2.1 ++ s)) : Nat) : Int) (64 : Int))))) ∧ ((IntKind.wrap IntKind.i64 ((((List.length (h.2.2.1 ++ s)) : Nat) : Int) - (Int.tmod (((List.length (h.2.2.1 ++ s)) : Nat) : Int) (64 : Int)))) ≤ (((List.length (h.2.2.1 ++ s)) : Nat) : Int))))
        (some ((), ((h.1, (y, ((cut (h.2.2.1 ++ s) (Int.toNat (IntKind.wrap IntKind.i64 ((((List.length (h.2.2.1 ++ s)) : Nat) : Int) - (Int.tmod (((List.length (h.2.2.1 ++ s)) : Nat) : Int) (64 : Int))))) (List.length (h.2.2.1 ++ s))), ((IntKind.wrap IntKind.i64 (h.2.2.2.1 + (((List.length s) : Nat) : Int))), h.2.2.2.2)))), ())))
        (none))
      (none))
    (none))

noncomputable def t_27 (N : Nat) : Tab ((Unit) × (DT7 × Unit)) := [([0], h1_27 N)]

theorem link_27 (N : Nat) (x : denS [(0, .box TT8), (0, .v .str)]) : evFX (E_27 N) N (t_27 N) L_27 Tryd.f49 (mkS [(0, .box TT8), (0, .v .str)] 0 x) (kResB (.tup []) [(0, .box TT8)] 1) = sha_Hash_Add N x.1 x.2.1 := by kernel_rfl

noncomputable def sha_Hash_Add_res (N : Nat) : List A → Res := resOf [(0, .box TT8), (0, .v .str)] (fun x => sha_Hash_Add N x.1 x.2.1) (oResB (.tup []) [(0, .box TT8)] 1)

theorem sha_Hash_Add_ct (N : Nat) : Contract Tryd.prog glob 49 (sha_Hash_Add_res N) :=
  Contract.of (E := E_27 N) (H := t_27 N) (L := L_27) (N := N) (body := body_27) (K := (kResB (.tup []) [(0, .box TT8)] 1)) (Eok_27 N) Tryd.func49 (by kernel_rfl) (by decide) (fun _ hb => (TabOk.cons (ok1_27 hb) TabOk.nil)) (fun x y h => by rw [link_27]; exact h) (kResB_ok (s := (.tup [])) (os := [(0, .box TT8)]) (m := 1))

noncomputable def body_28 : Code := (Tryd.f49.body).getD .skip

noncomputable def L_28 : List (List Nat × List Nat) := [([0, 0], [14, 0, 1]), ([1, 0], [0, 1]), ([0, 1, 0], []), ([0, 1], [0, 1]), ([0, 1, 1], [4, 0]), ([0, 1, 1, 1], [0, 4, 5]), ([0, 1, 1, 1, 1], [0, 4, 5]), ([1, 1, 1, 1, 1], [])]

noncomputable def E_28 (N : Nat) : Env := mkEnv tys glob [(54, sha_steps_res N)] [] [] [] false [] []

theorem Eok_28 (N : Nat) : EnvOk Tryd.prog (E_28 N) := mkEnv_ok mixed tys_ok (FnsOk.cons (sha_steps_ct N) (FnsOk.nil)) (ItsOk.nil)

noncomputable def sha_Hash_Add_nil_p1 (N : Nat) (s : (List UInt8)) (k0 : Option (Unit)) : Option (Unit) :=
  k0

noncomputable def g1_28 (N : Nat) (x : denS [(0, .nilp), (0, .v .str)]) (K : Ex → List A → Option (Unit)) : Option (Unit) :=
  sha_Hash_Add_nil_p1 N x.2.1 (K .ret (mkS [] 53 ()))

noncomputable def h1_28 (N : Nat) : Hd (Unit) := fun st K => (unS [(0, .nilp), (0, .v .str)] 51 (restr [0, 1] 0 st)).bind fun x => g1_28 N x K

noncomputable def t1_28 (N : Nat) : Tab (Unit) := []

theorem ok1_28 {N : Nat} {c : Ctx} (hb : Base Tryd.prog (E_28 N) c) : CodeOk Tryd.prog c (nodeAt body_28 [0]) (h1_28 N) :=
  piece_ok (s := [(0, .nilp), (0, .v .str)]) (m := 51) (g := g1_28 N) [0, 1] (evN_sound hb N (t1_28 N) L_28 body_28 TabOk.nil [0] _ rfl) (fun x K => by kernel_rfl)

noncomputable def sha_Hash_Add_nil (N : Nat) (s : (List UInt8)) : Option (Unit) :=
  sha_Hash_Add_nil_p1 N s
  (some ())

noncomputable def t_28 (N : Nat) : Tab (Unit) := [([0], h1_28 N)]

theorem link_28 (N : Nat) (x : denS [(0, .nilp), (0, .v .str)]) : evFX (E_28 N) N (t_28 N) L_28 Tryd.f49 (mkS [(0, .nilp), (0, .v .str)] 0 x) (kRes (.tup []) 2) = sha_Hash_Add_nil N x.2.1 := by kernel_rfl

noncomputable def sha_Hash_Add_nil_res (N : Nat) : List A → Res := resOf [(0, .nilp), (0, .v .str)] (fun x => sha_Hash_Add_nil N x.2.1) (oRes (.tup []) 2)

theorem sha_Hash_Add_nil_ct (N : Nat) : Contract Tryd.prog glob 49 (sha_Hash_Add_nil_res N) :=
  Contract.of (E := E_28 N) (H := t_28 N) (L := L_28) (N := N) (body := body_28) (K := (kRes (.tup []) 2)) (Eok_28 N) Tryd.func49 (by kernel_rfl) (by decide) (fun _ hb => (TabOk.cons (ok1_28 hb) TabOk.nil)) (fun x y h => by rw [link_28]; exact h) (kRes_ok (s := (.tup [])) (m := 2))

noncomputable def sha_Hash_Add_nil_all (N : Nat) : List A → Res := resAlt [(0, .nilp), (0, .v .str)] (fun x => sha_Hash_Add_nil N x.2.1) (oRes (.tup []) 2) (sha_Hash_Add_res N)

theorem sha_Hash_Add_nil_allct (N : Nat) : Contract Tryd.prog glob 49 (sha_Hash_Add_nil_all N) := Contract.alt (sha_Hash_Add_nil_ct N) (sha_Hash_Add_ct N)

noncomputable def body_29 : Code := (Tryd.f59.body).getD .skip

noncomputable def L_29 : List (List Nat × List Nat) := [([0], [1, 0]), ([0, 1], [1, 5, 0]), ([0, 0, 1, 1], [10, 9, 5, 0, 1]), ([0, 1, 0, 1, 1], [10, 9, 5, 0, 1]), ([0, 0, 0, 1, 0, 1, 1], [11, 10, 5, 0, 1, 9]), ([0, 1, 0, 0, 1, 0, 1, 1], [10, 5, 0, 1, 9]), ([1, 0, 1, 0, 0, 1, 0, 1, 1], [5]), ([0, 0, 0, 1, 1, 0, 0, 1, 0, 1, 1], [5, 6, 0, 1, 10, 9]), ([1, 0, 0, 1, 1, 0, 0, 1, 0, 1, 1], [10, 9, 5, 0, 1]), ([0, 1, 1, 0, 0, 1, 0, 1, 1], [10, 9, 5, 0, 1]), ([1, 1, 1, 0, 0, 1, 0, 1, 1], [10, 9, 5, 0, 1]), ([1, 0, 1, 1], [5]), ([0, 1, 1, 1], [4]), ([1, 1, 1, 1], [4])]

noncomputable def E_29 (N : Nat) : Env := mkEnv tys glob [] [(5, (.int .u8))] [] [] false [] []

theorem Eok_29 (N : Nat) : EnvOk Tryd.prog (E_29 N) := mkEnv_ok mixed tys_ok (FnsOk.nil) (ItsOk.nil)

noncomputable def sha_bigEndian_s1 (N : Nat) (n : Int) (size : Int) (x9 : Int) (out : (List Int)) (x10 : Int) (rec : (List Int) → Int → Option (List UInt8)) (k0 : (List Int) → Option (List UInt8)) : Option (List UInt8) :=
  cond (decide (x10 < x9))
  (cond (decide ((0 : Int) ≤ (IntKind.wrap IntKind.i64 ((8 : Int) * (IntKind.wrap IntKind.i64 ((IntKind.wrap IntKind.i64 (size - (1 : Int))) - x10))))))
    (cond (inR x10 (List.length out))
      (cond (decide ((Int.toNat x10) < (List.length out)))
        (rec (List.set out (Int.toNat x10) (IntKind.wrap IntKind.u8 (shrI IntKind.u64 n (IntKind.wrap IntKind.i64 ((8 : Int) * (IntKind.wrap IntKind.i64 ((IntKind.wrap IntKind.i64 (size - (1 : Int))) - x10))))))) (IntKind.wrap IntKind.i64 (x10 + (1 : Int))))
        (none))
      (none))
    (none))
  (k0 out)

noncomputable def sha_bigEndian_p1 (N : Nat) (n : Int) (size : Int) (out : (List Int)) (x9 : Int) (x10 : Int) (k0 : (List Int) → Option (List UInt8)) : Option (List UInt8) :=
  iter (fun (v : ((List Int) × Int)) r => sha_bigEndian_s1 N n size x9 v.1 v.2 (fun out x10 => (r (out, x10))) k0) N (out, x10)

noncomputable def g1_29 (N : Nat) (i : (Int × Int × Int)) (v : ((List Int) × Int)) (r : ((List Int) × Int) → Option (List UInt8)) (K : Ex → List A → Option (List UInt8)) : Option (List UInt8) :=
  sha_bigEndian_s1 N i.1 i.2.1 i.2.2 v.1 v.2 (fun out x10 => (r (out, x10))) (fun a0 => (K (.exit 0) (mkS [(5, .row (.int .u8))] 21 (a0, ()))))

noncomputable def h1_29 (N : Nat) : Hd (List UInt8) := fun st K => (unS [(0, .v (.int .u64)), (0, .v (.int .i64)), (3, .row (.int .u8)), (3, .v (.int .i64)), (0, .v (.int .i64))] 16 (restr [10, 9, 5, 0, 1] 0 st)).bind fun x => iter (fun v r => g1_29 N ((fun x => (x.1, x.2.1, x.2.2.2.1)) x) v r K) N ((fun x => (x.2.2.1, x.2.2.2.2.1)) x)

noncomputable def t1_29 (N : Nat) : Tab (List UInt8) := []

theorem ok1_29 {N : Nat} {c : Ctx} (hb : Base Tryd.prog (E_29 N) c) : CodeOk Tryd.prog c (nodeAt body_29 [0, 1, 0, 1, 1]) (h1_29 N) :=
  loop_ok (s := [(0, .v (.int .u64)), (0, .v (.int .i64)), (3, .row (.int .u8)), (3, .v (.int .i64)), (0, .v (.int .i64))]) (m := 16) (g1_29 N) [10, 9, 5, 0, 1] N (fun x => (x.1, x.2.1, x.2.2.2.1)) (fun x => (x.2.2.1, x.2.2.2.2.1)) (fun i v => (i.1, i.2.1, v.1, i.2.2, v.2, ())) (fun _ => rfl) (evN_sound hb N (t1_29 N) L_29 body_29 TabOk.nil [0, 0, 1, 0, 1, 1] _ rfl) (fun i v r K => by kernel_rfl)

noncomputable def sha_bigEndian (N : Nat) (n : Int) (size : Int) : Option (List UInt8) :=
  cond (decide (((0 : Int) ≤ size) ∧ ((size ≤ size) ∧ (((size * (1 : Int)) ≤ (281474976710656 : Int)) ∧ (size ≤ (9223372036854775807 : Int))))))
  (sha_bigEndian_p1 N n size (List.replicate (Int.toNat size) (0 : Int)) size (0 : Int)
    (fun out => some (toStr out)))
  (none)

noncomputable def t_29 (N : Nat) : Tab (List UInt8) := [([0, 1, 0, 1, 1], h1_29 N)]

theorem link_29 (N : Nat) (x : denS [(0, .v (.int .u64)), (0, .v (.int .i64))]) : evFX (E_29 N) N (t_29 N) L_29 Tryd.f59 (mkS [(0, .v (.int .u64)), (0, .v (.int .i64))] 0 x) (kRes (.v .str) 2) = sha_bigEndian N x.1 x.2.1 := by kernel_rfl

noncomputable def sha_bigEndian_res (N : Nat) : List A → Res := resOf [(0, .v (.int .u64)), (0, .v (.int .i64))] (fun x => sha_bigEndian N x.1 x.2.1) (oRes (.v .str) 2)

theorem sha_bigEndian_ct (N : Nat) : Contract Tryd.prog glob 59 (sha_bigEndian_res N) :=
  Contract.of (E := E_29 N) (H := t_29 N) (L := L_29) (N := N) (body := body_29) (K := (kRes (.v .str) 2)) (Eok_29 N) Tryd.func59 (by kernel_rfl) (by decide) (fun _ hb => (TabOk.cons (ok1_29 hb) TabOk.nil)) (fun x y h => by rw [link_29]; exact h) (kRes_ok (s := (.v .str)) (m := 2))

noncomputable def body_30 : Code := (Tryd.f56.body).getD .skip

noncomputable def L_30 : List (List Nat × List Nat) := [([0], [0]), ([0, 1], [3, 0]), ([0, 1, 1], [2]), ([1, 1, 1], [2])]

noncomputable def E_30 (N : Nat) : Env := mkEnv tys glob [(59, sha_bigEndian_res N), (47, octet_Pad_res N)] [] [] [] false [] []

theorem Eok_30 (N : Nat) : EnvOk Tryd.prog (E_30 N) := mkEnv_ok mixed tys_ok (FnsOk.cons (sha_bigEndian_ct N) (FnsOk.cons (octet_Pad_ct N) (FnsOk.nil))) (ItsOk.nil)

noncomputable def sha_tail (N : Nat) (n : Int) : Option (List UInt8) :=
  (octet_Pad N ([(128 : UInt8)] : List UInt8) (IntKind.wrap IntKind.i64 ((1 : Int) + (Int.tmod (IntKind.wrap IntKind.i64 ((119 : Int) - (Int.tmod n (64 : Int)))) (64 : Int))))).bind fun y =>
  (sha_bigEndian N (IntKind.wrap IntKind.u64 ((8 : Int) * (IntKind.wrap IntKind.u64 n))) (8 : Int)).bind fun y1 =>
  cond (decide (((List.length y) + (List.length y1)) ≤ 9223372036854775807))
  (some (y ++ y1))
  (none)

noncomputable def t_30 (N : Nat) : Tab (List UInt8) := []

theorem link_30 (N : Nat) (x : denS [(0, .v (.int .i64))]) : evFX (E_30 N) N (t_30 N) L_30 Tryd.f56 (mkS [(0, .v (.int .i64))] 0 x) (kRes (.v .str) 1) = sha_tail N x.1 := by kernel_rfl

noncomputable def sha_tail_res (N : Nat) : List A → Res := resOf [(0, .v (.int .i64))] (fun x => sha_tail N x.1) (oRes (.v .str) 1)

theorem sha_tail_ct (N : Nat) : Contract Tryd.prog glob 56 (sha_tail_res N) :=
  Contract.of (E := E_30 N) (H := t_30 N) (L := L_30) (N := N) (body := body_30) (K := (kRes (.v .str) 1)) (Eok_30 N) Tryd.func56 (by kernel_rfl) (by decide) (fun _ hb => TabOk.nil) (fun x y h => by rw [link_30]; exact h) (kRes_ok (s := (.v .str)) (m := 1))

noncomputable def body_31 : Code := (Tryd.f55.body).getD .skip

noncomputable def L_31 : List (List Nat × List Nat) := [([0], [1]), ([0, 1], [1, 3]), ([0, 0, 1, 1], [7, 6, 3]), ([0, 1, 0, 1, 1], [7, 6, 3]), ([0, 0, 0, 1, 0, 1, 1], [8, 6, 7, 3]), ([0, 1, 0, 0, 1, 0, 1, 1], [6, 7, 3]), ([1, 0, 1, 0, 0, 1, 0, 1, 1], [3]), ([0, 0, 0, 1, 1, 0, 0, 1, 0, 1, 1], [3, 5, 7, 6]), ([1, 0, 0, 1, 1, 0, 0, 1, 0, 1, 1], [7, 6, 3]), ([0, 1, 1, 0, 0, 1, 0, 1, 1], [7, 6, 3]), ([1, 1, 1, 0, 0, 1, 0, 1, 1], [7, 6, 3]), ([1, 0, 1, 1], [3]), ([0, 1, 1, 1], [2]), ([1, 1, 1, 1], [2])]

noncomputable def E_31 (N : Nat) : Env := mkEnv tys glob [(59, sha_bigEndian_res N)] [] [] [] false [] []

theorem Eok_31 (N : Nat) : EnvOk Tryd.prog (E_31 N) := mkEnv_ok mixed tys_ok (FnsOk.cons (sha_bigEndian_ct N) (FnsOk.nil)) (ItsOk.nil)

noncomputable def sha_Tell_s1 (N : Nat) (x6 : (List Int)) (out : (List UInt8)) (x7 : Int) (rec : (List UInt8) → Int → Option (List UInt8)) (k0 : (List UInt8) → Option (List UInt8)) : Option (List UInt8) :=
  cond (decide (x7 < (8 : Int)))
  (cond (inR x7 8)
    ((sha_bigEndian N (IntKind.wrap IntKind.u64 (List.getD x6 (Int.toNat x7) (0 : Int))) (4 : Int)).bind fun y =>
      cond (decide (((List.length out) + (List.length y)) ≤ 9223372036854775807))
      (rec (out ++ y) (IntKind.wrap IntKind.i64 (x7 + (1 : Int))))
      (none))
    (none))
  (k0 out)

noncomputable def sha_Tell_p1 (N : Nat) (out : (List UInt8)) (x6 : (List Int)) (x7 : Int) (k0 : (List UInt8) → Option (List UInt8)) : Option (List UInt8) :=
  iter (fun (v : ((List UInt8) × Int)) r => sha_Tell_s1 N x6 v.1 v.2 (fun out x7 => (r (out, x7))) k0) N (out, x7)

noncomputable def g1_31 (N : Nat) (i : (List Int)) (v : ((List UInt8) × Int)) (r : ((List UInt8) × Int) → Option (List UInt8)) (K : Ex → List A → Option (List UInt8)) : Option (List UInt8) :=
  sha_Tell_s1 N i v.1 v.2 (fun out x7 => (r (out, x7))) (fun a0 => (K (.exit 0) (mkS [(3, .v .str)] 13 (a0, ()))))

noncomputable def h1_31 (N : Nat) : Hd (List UInt8) := fun st K => (unS [(3, .v .str), (2, .v (.arr 8 (.int .u32))), (0, .v (.int .i64))] 9 (restr [7, 6, 3] 0 st)).bind fun x => iter (fun v r => g1_31 N ((fun x => x.2.1) x) v r K) N ((fun x => (x.1, x.2.2.1)) x)

noncomputable def t1_31 (N : Nat) : Tab (List UInt8) := []

theorem ok1_31 {N : Nat} {c : Ctx} (hb : Base Tryd.prog (E_31 N) c) : CodeOk Tryd.prog c (nodeAt body_31 [0, 1, 0, 1, 1]) (h1_31 N) :=
  loop_ok (s := [(3, .v .str), (2, .v (.arr 8 (.int .u32))), (0, .v (.int .i64))]) (m := 9) (g1_31 N) [7, 6, 3] N (fun x => x.2.1) (fun x => (x.1, x.2.2.1)) (fun i v => (v.1, i, v.2, ())) (fun _ => rfl) (evN_sound hb N (t1_31 N) L_31 body_31 TabOk.nil [0, 0, 1, 0, 1, 1] _ rfl) (fun i v r K => by kernel_rfl)

noncomputable def sha_Tell (N : Nat) (h : (List Int)) : Option (List UInt8) :=
  sha_Tell_p1 N ([] : List UInt8) h (0 : Int)
  (fun out => some out)

noncomputable def t_31 (N : Nat) : Tab (List UInt8) := [([0, 1, 0, 1, 1], h1_31 N)]

theorem link_31 (N : Nat) (x : denS [(0, .v (.arr 8 (.int .u32)))]) : evFX (E_31 N) N (t_31 N) L_31 Tryd.f55 (mkS [(0, .v (.arr 8 (.int .u32)))] 0 x) (kRes (.v .str) 1) = sha_Tell N x.1 := by kernel_rfl

noncomputable def sha_Tell_res (N : Nat) : List A → Res := resOf [(0, .v (.arr 8 (.int .u32)))] (fun x => sha_Tell N x.1) (oRes (.v .str) 1)

theorem sha_Tell_ct (N : Nat) : Contract Tryd.prog glob 55 (sha_Tell_res N) :=
  Contract.of (E := E_31 N) (H := t_31 N) (L := L_31) (N := N) (body := body_31) (K := (kRes (.v .str) 1)) (Eok_31 N) Tryd.func55 (by kernel_rfl) (by decide) (fun _ hb => (TabOk.cons (ok1_31 hb) TabOk.nil)) (fun x y h => by rw [link_31]; exact h) (kRes_ok (s := (.v .str)) (m := 1))

noncomputable def body_32 : Code := (Tryd.f50.body).getD .skip

noncomputable def L_32 : List (List Nat × List Nat) := [([0], [0]), ([0, 0, 1], [11, 0]), ([1, 0, 1], [0]), ([0, 0, 1, 0, 1], [2, 0]), ([1, 0, 1, 0, 1], [2, 0]), ([0, 1, 1], [2, 0]), ([1, 1, 1], [2, 0])]

noncomputable def E_32 (N : Nat) : Env := mkEnv tys glob [(55, sha_Tell_res N), (56, sha_tail_res N), (54, sha_steps_res N)] [] [] [0] false [] []

theorem Eok_32 (N : Nat) : EnvOk Tryd.prog (E_32 N) := mkEnv_ok mixed tys_ok (FnsOk.cons (sha_Tell_ct N) (FnsOk.cons (sha_tail_ct N) (FnsOk.cons (sha_steps_ct N) (FnsOk.nil)))) (ItsOk.nil)

noncomputable def sha_Hash_Sum1_p2 (N : Nat) (h : DT7) (k0 : Bool → Option DT14) : Option DT14 :=
  k0 (!h.1)

noncomputable def g2_32 (N : Nat) (x : denS [(0, .box TT8)]) (K : Ex → List A → Option DT14) : Option DT14 :=
  sha_Hash_Sum1_p2 N x.1 (fun a1 => (K .normal (mkS [(0, .box TT8), (10, .v .bool)] 17 (x.1, a1, ()))))

noncomputable def h2_32 (N : Nat) : Hd DT14 := fun st K => (unS [(0, .box TT8)] 28 (restr [0] 0 st)).bind fun x => g2_32 N x K

noncomputable def t2_32 (N : Nat) : Tab DT14 := []

theorem ok2_32 {N : Nat} {c : Ctx} (hb : Base Tryd.prog (E_32 N) c) : CodeOk Tryd.prog c (nodeAt body_32 [0, 0, 1]) (h2_32 N) :=
  piece_ok (s := [(0, .box TT8)]) (m := 28) (g := g2_32 N) [0] (evN_sound hb N (t2_32 N) L_32 body_32 TabOk.nil [0, 0, 1] _ rfl) (fun x K => by kernel_rfl)

noncomputable def sha_Hash_Sum1_p1 (N : Nat) (h : DT7) (k0 : Option DT14) : Option DT14 :=
  sha_Hash_Sum1_p2 N h
  (fun x11 => cond x11
    (none)
    (k0))

noncomputable def g1_32 (N : Nat) (x : denS [(0, .box TT8)]) (K : Ex → List A → Option DT14) : Option DT14 :=
  sha_Hash_Sum1_p1 N x.1 (K .normal (mkS [(0, .box TT8)] 28 (x.1, ())))

noncomputable def h1_32 (N : Nat) : Hd DT14 := fun st K => (unS [(0, .box TT8)] 28 (restr [0] 0 st)).bind fun x => g1_32 N x K

noncomputable def t1_32 (N : Nat) : Tab DT14 := [([0, 0, 1], h2_32 N)]

theorem ok1_32 {N : Nat} {c : Ctx} (hb : Base Tryd.prog (E_32 N) c) : CodeOk Tryd.prog c (nodeAt body_32 [0, 1]) (h1_32 N) :=
  piece_ok (s := [(0, .box TT8)]) (m := 28) (g := g1_32 N) [0] (evN_sound hb N (t1_32 N) L_32 body_32 (TabOk.cons (ok2_32 hb) TabOk.nil) [0, 1] _ rfl) (fun x K => by kernel_rfl)

noncomputable def sha_Hash_Sum1 (N : Nat) (h : DT7) : Option DT14 :=
  sha_Hash_Sum1_p1 N h
  ((sha_tail N h.2.2.2.1).bind fun y =>
    cond (decide (((List.length h.2.2.1) + (List.length y)) ≤ 9223372036854775807))
    ((sha_steps N h.2.1 (h.2.2.1 ++ y)).bind fun y1 =>
      (sha_Tell N y1).bind fun y2 =>
      some (y2, (h, ())))
    (none))

noncomputable def t_32 (N : Nat) : Tab DT14 := [([0, 1], h1_32 N)]

theorem link_32 (N : Nat) (x : denS [(0, .box TT8)]) : evFX (E_32 N) N (t_32 N) L_32 Tryd.f50 (mkS [(0, .box TT8)] 0 x) (kResB (.v .str) [(0, .box TT8)] 0) = sha_Hash_Sum1 N x.1 := by kernel_rfl

noncomputable def sha_Hash_Sum1_res (N : Nat) : List A → Res := resOf [(0, .box TT8)] (fun x => sha_Hash_Sum1 N x.1) (oResB (.v .str) [(0, .box TT8)] 0)

theorem sha_Hash_Sum1_ct (N : Nat) : Contract Tryd.prog glob 50 (sha_Hash_Sum1_res N) :=
  Contract.of (E := E_32 N) (H := t_32 N) (L := L_32) (N := N) (body := body_32) (K := (kResB (.v .str) [(0, .box TT8)] 0)) (Eok_32 N) Tryd.func50 (by kernel_rfl) (by decide) (fun _ hb => (TabOk.cons (ok1_32 hb) TabOk.nil)) (fun x y h => by rw [link_32]; exact h) (kResB_ok (s := (.v .str)) (os := [(0, .box TT8)]) (m := 0))

noncomputable def body_33 : Code := (Tryd.f35.body).getD .skip

noncomputable def L_33 : List (List Nat × List Nat) := [([0], [0]), ([0, 1], [3, 0]), ([0, 1, 1], [3]), ([0, 1, 1, 1], [2]), ([1, 1, 1, 1], [2])]

noncomputable def E_33 (N : Nat) : Env := mkEnv tys glob [(50, sha_Hash_Sum1_res N), (49, sha_Hash_Add_nil_all N), (48, sha_New_res N)] [] [] [] false [] []

theorem Eok_33 (N : Nat) : EnvOk Tryd.prog (E_33 N) := mkEnv_ok mixed tys_ok (FnsOk.cons (sha_Hash_Sum1_ct N) (FnsOk.cons (sha_Hash_Add_nil_allct N) (FnsOk.cons (sha_New_ct N) (FnsOk.nil)))) (ItsOk.nil)

noncomputable def sha_Sum (N : Nat) (s : (List UInt8)) : Option (List UInt8) :=
  (sha_Hash_Add N (true, (([(1779033703 : Int), (3144134277 : Int), (1013904242 : Int), (2773480762 : Int), (1359893119 : Int), (2600822924 : Int), (528734635 : Int), (1541459225 : Int)] : List Int), (([] : List UInt8), ((0 : Int), ())))) s).bind fun y =>
  (sha_Hash_Sum1 N y.2.1).bind fun y1 =>
  some y1.1

noncomputable def t_33 (N : Nat) : Tab (List UInt8) := []

theorem link_33 (N : Nat) (x : denS [(0, .v .str)]) : evFX (E_33 N) N (t_33 N) L_33 Tryd.f35 (mkS [(0, .v .str)] 0 x) (kRes (.v .str) 1) = sha_Sum N x.1 := by kernel_rfl

noncomputable def sha_Sum_res (N : Nat) : List A → Res := resOf [(0, .v .str)] (fun x => sha_Sum N x.1) (oRes (.v .str) 1)

theorem sha_Sum_ct (N : Nat) : Contract Tryd.prog glob 35 (sha_Sum_res N) :=
  Contract.of (E := E_33 N) (H := t_33 N) (L := L_33) (N := N) (body := body_33) (K := (kRes (.v .str) 1)) (Eok_33 N) Tryd.func35 (by kernel_rfl) (by decide) (fun _ hb => TabOk.nil) (fun x y h => by rw [link_33]; exact h) (kRes_ok (s := (.v .str)) (m := 1))

noncomputable def body_36 : Code := (Tryd.f24.body).getD .skip

noncomputable def L_36 : List (List Nat × List Nat) := [([0], [0]), ([0, 1], [3, 0]), ([0, 0, 1, 1], [6, 3, 0]), ([0, 1, 0, 1, 1], [6, 3, 0]), ([0, 0, 0, 1, 0, 1, 1], [7, 6, 3, 0]), ([0, 1, 0, 0, 1, 0, 1, 1], [6, 3, 0]), ([1, 0, 1, 0, 0, 1, 0, 1, 1], [3, 0]), ([0, 0, 0, 1, 1, 0, 0, 1, 0, 1, 1], [3, 4, 0, 6]), ([1, 0, 0, 1, 1, 0, 0, 1, 0, 1, 1], [6, 3, 0]), ([0, 1, 1, 0, 0, 1, 0, 1, 1], [6, 3, 0]), ([1, 1, 1, 0, 0, 1, 0, 1, 1], [6, 3, 0]), ([1, 0, 1, 1], [3, 0]), ([0, 1, 1, 1], [2]), ([1, 1, 1, 1], [2])]

noncomputable def E_36 (N : Nat) : Env := mkEnv tys glob [(35, sha_Sum_res N)] [(3, (.int .u8))] [] [] false [] []

theorem Eok_36 (N : Nat) : EnvOk Tryd.prog (E_36 N) := mkEnv_ok mixed tys_ok (FnsOk.cons (sha_Sum_ct N) (FnsOk.nil)) (ItsOk.nil)

noncomputable def entry_preface_s1 (N : Nat) (text : (List UInt8)) (out : (List Int)) (x6 : Int) (rec : (List Int) → Int → Option (List UInt8)) (k0 : (List Int) → Option (List UInt8)) : Option (List UInt8) :=
  cond (decide (x6 < (4 : Int)))
  (cond (decide ((0 : Int) ≤ (IntKind.wrap IntKind.i64 ((8 : Int) * x6))))
    (cond (inR x6 (List.length out))
      (cond (decide ((Int.toNat x6) < (List.length out)))
        (rec (List.set out (Int.toNat x6) (IntKind.wrap IntKind.u8 (shrI IntKind.i64 (((List.length text) : Nat) : Int) (IntKind.wrap IntKind.i64 ((8 : Int) * x6))))) (IntKind.wrap IntKind.i64 (x6 + (1 : Int))))
        (none))
      (none))
    (none))
  (k0 out)

noncomputable def entry_preface_p1 (N : Nat) (text : (List UInt8)) (out : (List Int)) (x6 : Int) (k0 : (List Int) → Option (List UInt8)) : Option (List UInt8) :=
  iter (fun (v : ((List Int) × Int)) r => entry_preface_s1 N text v.1 v.2 (fun out x6 => (r (out, x6))) k0) N (out, x6)

noncomputable def g1_36 (N : Nat) (i : (List UInt8)) (v : ((List Int) × Int)) (r : ((List Int) × Int) → Option (List UInt8)) (K : Ex → List A → Option (List UInt8)) : Option (List UInt8) :=
  entry_preface_s1 N i v.1 v.2 (fun out x6 => (r (out, x6))) (fun a1 => (K (.exit 0) (mkS [(0, .v .str), (2, .row (.int .u8))] 21 (i, a1, ()))))

noncomputable def h1_36 (N : Nat) : Hd (List UInt8) := fun st K => (unS [(0, .v .str), (2, .row (.int .u8)), (2, .v (.int .i64))] 18 (restr [6, 3, 0] 0 st)).bind fun x => iter (fun v r => g1_36 N ((fun x => x.1) x) v r K) N ((fun x => (x.2.1, x.2.2.1)) x)

noncomputable def t1_36 (N : Nat) : Tab (List UInt8) := []

theorem ok1_36 {N : Nat} {c : Ctx} (hb : Base Tryd.prog (E_36 N) c) : CodeOk Tryd.prog c (nodeAt body_36 [0, 1, 0, 1, 1]) (h1_36 N) :=
  loop_ok (s := [(0, .v .str), (2, .row (.int .u8)), (2, .v (.int .i64))]) (m := 18) (g1_36 N) [6, 3, 0] N (fun x => x.1) (fun x => (x.2.1, x.2.2.1)) (fun i v => (i, v.1, v.2, ())) (fun _ => rfl) (evN_sound hb N (t1_36 N) L_36 body_36 TabOk.nil [0, 0, 1, 0, 1, 1] _ rfl) (fun i v r K => by kernel_rfl)

noncomputable def entry_preface (N : Nat) (text : (List UInt8)) : Option (List UInt8) :=
  entry_preface_p1 N text ([(0 : Int), (0 : Int), (0 : Int), (0 : Int)] : List Int) (0 : Int)
  (fun out => (sha_Sum N text).bind fun y =>
    cond (decide (((0 : Int) ≤ (4 : Int)) ∧ ((4 : Int) ≤ (((List.length y) : Nat) : Int))))
    (cond (decide (((List.length (toStr out)) + (List.length (cut y 0 4))) ≤ 9223372036854775807))
      (some ((toStr out) ++ (cut y 0 4)))
      (none))
    (none))

noncomputable def t_36 (N : Nat) : Tab (List UInt8) := [([0, 1, 0, 1, 1], h1_36 N)]

theorem link_36 (N : Nat) (x : denS [(0, .v .str)]) : evFX (E_36 N) N (t_36 N) L_36 Tryd.f24 (mkS [(0, .v .str)] 0 x) (kRes (.v .str) 1) = entry_preface N x.1 := by kernel_rfl

noncomputable def entry_preface_res (N : Nat) : List A → Res := resOf [(0, .v .str)] (fun x => entry_preface N x.1) (oRes (.v .str) 1)

theorem entry_preface_ct (N : Nat) : Contract Tryd.prog glob 24 (entry_preface_res N) :=
  Contract.of (E := E_36 N) (H := t_36 N) (L := L_36) (N := N) (body := body_36) (K := (kRes (.v .str) 1)) (Eok_36 N) Tryd.func24 (by kernel_rfl) (by decide) (fun _ hb => (TabOk.cons (ok1_36 hb) TabOk.nil)) (fun x y h => by rw [link_36]; exact h) (kRes_ok (s := (.v .str)) (m := 1))

noncomputable def body_37 : Code := (Tryd.f8.body).getD .skip

noncomputable def L_37 : List (List Nat × List Nat) := [([0], [0, 1, 2, 3, 4, 5]), ([0, 0, 1], [13, 0, 5, 2, 3, 1, 4]), ([0, 1, 0, 1], [27, 13, 0, 5, 2, 3, 1, 4]), ([1, 1, 0, 1], [5, 2, 3, 0, 1, 4]), ([0, 0, 1, 1, 0, 1], [12, 0]), ([1, 0, 1, 1, 0, 1], [12, 0]), ([0, 1, 1], [14, 2, 3, 0, 1, 4, 5]), ([0, 0, 1, 1, 1], [34, 33, 2, 3, 14, 0, 1, 4, 5]), ([0, 1, 0, 1, 1, 1], [34, 33, 2, 3, 14, 0, 1, 4, 5]), ([0, 0, 0, 1, 0, 1, 1, 1], [35, 34, 2, 3, 14, 0, 1, 33, 4, 5]), ([0, 1, 0, 0, 1, 0, 1, 1, 1], [34, 2, 3, 14, 0, 1, 33, 4, 5]), ([1, 0, 1, 0, 0, 1, 0, 1, 1, 1], [2, 3, 4, 5, 14, 0, 1]), ([0, 0, 0, 1, 1, 0, 0, 1, 0, 1, 1, 1], [2, 3, 15, 14, 0, 1, 34, 33, 4, 5]), ([0, 1, 0, 0, 1, 1, 0, 0, 1, 0, 1, 1, 1], [0, 1, 3, 15, 16, 34, 33, 2, 14, 4, 5]), ([0, 1, 1, 0, 0, 1, 1, 0, 0, 1, 0, 1, 1, 1], [17, 0, 34, 33, 2, 3, 14, 1, 4, 5]), ([0, 1, 1, 1, 0, 0, 1, 1, 0, 0, 1, 0, 1, 1, 1], [60, 17, 0, 34, 33, 2, 3, 14, 1, 4, 5]), ([1, 1, 1, 1, 0, 0, 1, 1, 0, 0, 1, 0, 1, 1, 1], [34, 33, 2, 3, 14, 0, 1, 4, 5]), ([0, 0, 1, 1, 1, 1, 0, 0, 1, 1, 0, 0, 1, 0, 1, 1, 1], [12, 0]), ([1, 0, 1, 1, 1, 1, 0, 0, 1, 1, 0, 0, 1, 0, 1, 1, 1], [12, 0]), ([0, 1, 1, 0, 0, 1, 0, 1, 1, 1], [34, 33, 2, 3, 14, 0, 1, 4, 5]), ([1, 1, 1, 0, 0, 1, 0, 1, 1, 1], [34, 33, 2, 3, 14, 0, 1, 4, 5]), ([1, 0, 1, 1, 1], [2, 3, 4, 5, 14, 0, 1]), ([0, 1, 1, 1, 1], [0, 1, 3, 18]), ([0, 1, 1, 1, 1, 1], [12, 0]), ([1, 1, 1, 1, 1, 1], [12, 0])]

noncomputable def E_37 (N : Nat) : Env := mkEnv tys glob [(24, entry_preface_res N), (23, entry_put_nil_all N), (22, entry_split_res N), (21, entry_check_nil_all N), (11, entry_Mark_res N)] [(14, (.sl (.int .u8)))] [] [0] false [] []

theorem Eok_37 (N : Nat) : EnvOk Tryd.prog (E_37 N) := mkEnv_ok mixed tys_ok (FnsOk.cons (entry_preface_ct N) (FnsOk.cons (entry_put_nil_allct N) (FnsOk.cons (entry_split_ct N) (FnsOk.cons (entry_check_nil_allct N) (FnsOk.cons (entry_Mark_ct N) (FnsOk.nil)))))) (ItsOk.nil)

noncomputable def entry_Write_s1 (N : Nat) (from_ : Int) (gen : Int) (index : Int) (kind : Int) (text : (List UInt8)) (parts : (List (List Int))) (x33 : Int) (d : DT1) (x34 : Int) (rec : DT1 → Int → Option (Int × (DT1 × Unit))) (k0 : DT1 → Int → Option (Int × (DT1 × Unit))) (k1 : DT1 → Option (Int × (DT1 × Unit))) : Option (Int × (DT1 × Unit)) :=
  cond (decide (x34 < x33))
  ((entry_Mark N gen (IntKind.wrap IntKind.i64 ((IntKind.wrap IntKind.i64 (index + (1 : Int))) + x34)) false).bind fun y =>
    cond (inR (IntKind.wrap IntKind.i64 ((1 : Int) + x34)) (List.length parts))
    ((entry_put N d (IntKind.wrap IntKind.i64 ((IntKind.wrap IntKind.i64 ((IntKind.wrap IntKind.i64 (from_ + index)) + (1 : Int))) + x34)) (y, ((0 : Int), ((toStr (List.getD parts (Int.toNat (IntKind.wrap IntKind.i64 ((1 : Int) + x34))) ([] : List Int))), ())))).bind fun y1 =>
      cond (y1.1 != (0 : Int))
      (k0 y1.2.1 y1.1)
      (rec y1.2.1 (IntKind.wrap IntKind.i64 (x34 + (1 : Int)))))
    (none))
  (k1 d)

noncomputable def entry_Write_p1 (N : Nat) (d : DT1) (from_ : Int) (gen : Int) (index : Int) (kind : Int) (text : (List UInt8)) (parts : (List (List Int))) (x33 : Int) (x34 : Int) (k0 : DT1 → Int → Option (Int × (DT1 × Unit))) (k1 : DT1 → Option (Int × (DT1 × Unit))) : Option (Int × (DT1 × Unit)) :=
  iter (fun (v : (DT1 × Int)) r => entry_Write_s1 N from_ gen index kind text parts x33 v.1 v.2 (fun d x34 => (r (d, x34))) k0 k1) N (d, x34)

noncomputable def g1_37 (N : Nat) (i : (Int × Int × Int × Int × (List UInt8) × (List (List Int)) × Int)) (v : (DT1 × Int)) (r : (DT1 × Int) → Option (Int × (DT1 × Unit))) (K : Ex → List A → Option (Int × (DT1 × Unit))) : Option (Int × (DT1 × Unit)) :=
  entry_Write_s1 N i.1 i.2.1 i.2.2.1 i.2.2.2.1 i.2.2.2.2.1 i.2.2.2.2.2.1 i.2.2.2.2.2.2 v.1 v.2 (fun d x34 => (r (d, x34))) (fun a0 a1 => (K .ret (mkS [(0, .box TT0), (11, .v (.int .i64))] 68 (a0, a1, ())))) (fun a0 => (K (.exit 0) (mkS [(0, .box TT0), (0, .v (.int .i64)), (0, .v (.int .i64)), (0, .v (.int .i64)), (0, .v (.int .i64)), (0, .v .str), (8, .v (.sl (.sl (.int .u8))))] 66 (a0, i.1, i.2.1, i.2.2.1, i.2.2.2.1, i.2.2.2.2.1, i.2.2.2.2.2.1, ()))))

noncomputable def h1_37 (N : Nat) : Hd (Int × (DT1 × Unit)) := fun st K => (unS [(0, .box TT0), (0, .v (.int .i64)), (0, .v (.int .i64)), (0, .v (.int .i64)), (0, .v (.int .i64)), (0, .v .str), (8, .v (.sl (.sl (.int .u8)))), (18, .v (.int .i64)), (0, .v (.int .i64))] 46 (restr [34, 33, 2, 3, 14, 0, 1, 4, 5] 0 st)).bind fun x => iter (fun v r => g1_37 N ((fun x => (x.2.1, x.2.2.1, x.2.2.2.1, x.2.2.2.2.1, x.2.2.2.2.2.1, x.2.2.2.2.2.2.1, x.2.2.2.2.2.2.2.1)) x) v r K) N ((fun x => (x.1, x.2.2.2.2.2.2.2.2.1)) x)

noncomputable def t1_37 (N : Nat) : Tab (Int × (DT1 × Unit)) := []

theorem ok1_37 {N : Nat} {c : Ctx} (hb : Base Tryd.prog (E_37 N) c) : CodeOk Tryd.prog c (nodeAt body_37 [0, 1, 0, 1, 1, 1]) (h1_37 N) :=
  loop_ok (s := [(0, .box TT0), (0, .v (.int .i64)), (0, .v (.int .i64)), (0, .v (.int .i64)), (0, .v (.int .i64)), (0, .v .str), (8, .v (.sl (.sl (.int .u8)))), (18, .v (.int .i64)), (0, .v (.int .i64))]) (m := 46) (g1_37 N) [34, 33, 2, 3, 14, 0, 1, 4, 5] N (fun x => (x.2.1, x.2.2.1, x.2.2.2.1, x.2.2.2.2.1, x.2.2.2.2.2.1, x.2.2.2.2.2.2.1, x.2.2.2.2.2.2.2.1)) (fun x => (x.1, x.2.2.2.2.2.2.2.2.1)) (fun i v => (v.1, i.1, i.2.1, i.2.2.1, i.2.2.2.1, i.2.2.2.2.1, i.2.2.2.2.2.1, i.2.2.2.2.2.2, v.2, ())) (fun _ => rfl) (evN_sound hb N (t1_37 N) L_37 body_37 TabOk.nil [0, 0, 1, 0, 1, 1, 1] _ rfl) (fun i v r K => by kernel_rfl)

noncomputable def entry_Write (N : Nat) (d : DT1) (from_ : Int) (gen : Int) (index : Int) (kind : Int) (text : (List UInt8)) : Option (Int × (DT1 × Unit)) :=
  (entry_check N d from_ gen index kind text).bind fun y =>
  cond (y.1 != (0 : Int))
  (some (y.1, (y.2.1, ())))
  ((entry_split N text).bind fun y1 =>
    entry_Write_p1 N y.2.1 from_ gen index kind text y1 (IntKind.wrap IntKind.i64 ((((List.length y1) : Nat) : Int) - (1 : Int))) (0 : Int)
    (fun d1 x12 => some (x12, (d1, ())))
    (fun d2 => (entry_Mark N gen index true).bind fun y2 =>
      (entry_preface N text).bind fun y3 =>
      cond (inR (0 : Int) (List.length y1))
      (cond (decide (((List.length y3) + (List.length (toStr (List.getD y1 0 ([] : List Int))))) ≤ 9223372036854775807))
        ((entry_put N d2 (IntKind.wrap IntKind.i64 (from_ + index)) (y2, (kind, ((y3 ++ (toStr (List.getD y1 0 ([] : List Int)))), ())))).bind fun y4 =>
          some (y4.1, (y4.2.1, ())))
        (none))
      (none)))

noncomputable def t_37 (N : Nat) : Tab (Int × (DT1 × Unit)) := [([0, 1, 0, 1, 1, 1], h1_37 N)]

theorem link_37 (N : Nat) (x : denS [(0, .box TT0), (0, .v (.int .i64)), (0, .v (.int .i64)), (0, .v (.int .i64)), (0, .v (.int .i64)), (0, .v .str)]) : evFX (E_37 N) N (t_37 N) L_37 Tryd.f8 (mkS [(0, .box TT0), (0, .v (.int .i64)), (0, .v (.int .i64)), (0, .v (.int .i64)), (0, .v (.int .i64)), (0, .v .str)] 0 x) (kResB (.v (.int .i64)) [(0, .box TT0)] 5) = entry_Write N x.1 x.2.1 x.2.2.1 x.2.2.2.1 x.2.2.2.2.1 x.2.2.2.2.2.1 := by kernel_rfl

noncomputable def entry_Write_res (N : Nat) : List A → Res := resOf [(0, .box TT0), (0, .v (.int .i64)), (0, .v (.int .i64)), (0, .v (.int .i64)), (0, .v (.int .i64)), (0, .v .str)] (fun x => entry_Write N x.1 x.2.1 x.2.2.1 x.2.2.2.1 x.2.2.2.2.1 x.2.2.2.2.2.1) (oResB (.v (.int .i64)) [(0, .box TT0)] 5)

theorem entry_Write_ct (N : Nat) : Contract Tryd.prog glob 8 (entry_Write_res N) :=
  Contract.of (E := E_37 N) (H := t_37 N) (L := L_37) (N := N) (body := body_37) (K := (kResB (.v (.int .i64)) [(0, .box TT0)] 5)) (Eok_37 N) Tryd.func8 (by kernel_rfl) (by decide) (fun _ hb => (TabOk.cons (ok1_37 hb) TabOk.nil)) (fun x y h => by rw [link_37]; exact h) (kResB_ok (s := (.v (.int .i64))) (os := [(0, .box TT0)]) (m := 5))

noncomputable def body_38 : Code := (Tryd.f8.body).getD .skip

noncomputable def L_38 : List (List Nat × List Nat) := [([0], [0, 1, 2, 3, 4, 5]), ([0, 0, 1], [13, 5, 2, 3, 0, 1, 4]), ([0, 1, 0, 1], [27, 13, 5, 2, 3, 0, 1, 4]), ([1, 1, 0, 1], [5, 2, 3, 0, 1, 4]), ([0, 0, 1, 1, 0, 1], [12]), ([1, 0, 1, 1, 0, 1], [12]), ([0, 1, 1], [14, 2, 3, 0, 1, 4, 5]), ([0, 0, 1, 1, 1], [34, 33, 2, 3, 14, 0, 1, 4, 5]), ([0, 1, 0, 1, 1, 1], [34, 33, 2, 3, 14, 0, 1, 4, 5]), ([0, 0, 0, 1, 0, 1, 1, 1], [35, 34, 2, 3, 14, 0, 1, 33, 4, 5]), ([0, 1, 0, 0, 1, 0, 1, 1, 1], [34, 2, 3, 14, 0, 1, 33, 4, 5]), ([1, 0, 1, 0, 0, 1, 0, 1, 1, 1], [2, 3, 4, 5, 14, 0, 1]), ([0, 0, 0, 1, 1, 0, 0, 1, 0, 1, 1, 1], [2, 3, 15, 14, 0, 1, 34, 33, 4, 5]), ([0, 1, 0, 0, 1, 1, 0, 0, 1, 0, 1, 1, 1], [0, 1, 3, 15, 16, 34, 33, 2, 14, 4, 5]), ([0, 1, 1, 0, 0, 1, 1, 0, 0, 1, 0, 1, 1, 1], [17, 34, 33, 2, 3, 14, 0, 1, 4, 5]), ([0, 1, 1, 1, 0, 0, 1, 1, 0, 0, 1, 0, 1, 1, 1], [60, 17, 34, 33, 2, 3, 14, 0, 1, 4, 5]), ([1, 1, 1, 1, 0, 0, 1, 1, 0, 0, 1, 0, 1, 1, 1], [34, 33, 2, 3, 14, 0, 1, 4, 5]), ([0, 0, 1, 1, 1, 1, 0, 0, 1, 1, 0, 0, 1, 0, 1, 1, 1], [12]), ([1, 0, 1, 1, 1, 1, 0, 0, 1, 1, 0, 0, 1, 0, 1, 1, 1], [12]), ([0, 1, 1, 0, 0, 1, 0, 1, 1, 1], [34, 33, 2, 3, 14, 0, 1, 4, 5]), ([1, 1, 1, 0, 0, 1, 0, 1, 1, 1], [34, 33, 2, 3, 14, 0, 1, 4, 5]), ([1, 0, 1, 1, 1], [2, 3, 4, 5, 14, 0, 1]), ([0, 1, 1, 1, 1], [0, 1, 3, 18]), ([0, 1, 1, 1, 1, 1], [12]), ([1, 1, 1, 1, 1, 1], [12])]

noncomputable def E_38 (N : Nat) : Env := mkEnv tys glob [(24, entry_preface_res N), (23, entry_put_nil_all N), (22, entry_split_res N), (21, entry_check_nil_all N), (11, entry_Mark_res N)] [(14, (.sl (.int .u8)))] [] [] false [] []

theorem Eok_38 (N : Nat) : EnvOk Tryd.prog (E_38 N) := mkEnv_ok mixed tys_ok (FnsOk.cons (entry_preface_ct N) (FnsOk.cons (entry_put_nil_allct N) (FnsOk.cons (entry_split_ct N) (FnsOk.cons (entry_check_nil_allct N) (FnsOk.cons (entry_Mark_ct N) (FnsOk.nil)))))) (ItsOk.nil)

noncomputable def entry_Write_nil (N : Nat) (from_ : Int) (gen : Int) (index : Int) (kind : Int) (text : (List UInt8)) : Option Int :=
  some (21 : Int)

noncomputable def t_38 (N : Nat) : Tab Int := []

theorem link_38 (N : Nat) (x : denS [(0, .nilp), (0, .v (.int .i64)), (0, .v (.int .i64)), (0, .v (.int .i64)), (0, .v (.int .i64)), (0, .v .str)]) : evFX (E_38 N) N (t_38 N) L_38 Tryd.f8 (mkS [(0, .nilp), (0, .v (.int .i64)), (0, .v (.int .i64)), (0, .v (.int .i64)), (0, .v (.int .i64)), (0, .v .str)] 0 x) (kRes (.v (.int .i64)) 6) = entry_Write_nil N x.2.1 x.2.2.1 x.2.2.2.1 x.2.2.2.2.1 x.2.2.2.2.2.1 := by kernel_rfl

noncomputable def entry_Write_nil_res (N : Nat) : List A → Res := resOf [(0, .nilp), (0, .v (.int .i64)), (0, .v (.int .i64)), (0, .v (.int .i64)), (0, .v (.int .i64)), (0, .v .str)] (fun x => entry_Write_nil N x.2.1 x.2.2.1 x.2.2.2.1 x.2.2.2.2.1 x.2.2.2.2.2.1) (oRes (.v (.int .i64)) 6)

theorem entry_Write_nil_ct (N : Nat) : Contract Tryd.prog glob 8 (entry_Write_nil_res N) :=
  Contract.of (E := E_38 N) (H := t_38 N) (L := L_38) (N := N) (body := body_38) (K := (kRes (.v (.int .i64)) 6)) (Eok_38 N) Tryd.func8 (by kernel_rfl) (by decide) (fun _ hb => TabOk.nil) (fun x y h => by rw [link_38]; exact h) (kRes_ok (s := (.v (.int .i64))) (m := 6))

noncomputable def entry_Write_nil_all (N : Nat) : List A → Res := resAlt [(0, .nilp), (0, .v (.int .i64)), (0, .v (.int .i64)), (0, .v (.int .i64)), (0, .v (.int .i64)), (0, .v .str)] (fun x => entry_Write_nil N x.2.1 x.2.2.1 x.2.2.2.1 x.2.2.2.2.1 x.2.2.2.2.2.1) (oRes (.v (.int .i64)) 6) (entry_Write_res N)

theorem entry_Write_nil_allct (N : Nat) : Contract Tryd.prog glob 8 (entry_Write_nil_all N) := Contract.alt (entry_Write_nil_ct N) (entry_Write_ct N)

noncomputable def body_39 : Code := (Tryd.f26.body).getD .skip

noncomputable def L_39 : List (List Nat × List Nat) := [([0], [0, 1]), ([0, 0, 1], [6, 0, 1]), ([0, 1, 0, 1], [11, 6, 0, 1]), ([1, 1, 0, 1], [0, 1]), ([0, 0, 1, 1, 0, 1], [4, 5, 0]), ([1, 0, 1, 1, 0, 1], [4, 5, 0]), ([0, 1, 1], [4, 5, 0]), ([1, 1, 1], [4, 5, 0])]

noncomputable def E_39 (N : Nat) : Env := mkEnv tys glob [(30, disk_Disk_check_nil_all N)] [] [] [0] false [] []

theorem Eok_39 (N : Nat) : EnvOk Tryd.prog (E_39 N) := mkEnv_ok mixed tys_ok (FnsOk.cons (disk_Disk_check_nil_allct N) (FnsOk.nil)) (ItsOk.nil)

noncomputable def disk_Disk_Read (N : Nat) (d : DT1) (at_ : Int) : Option (DT13 × (DT1 × Unit)) :=
  (disk_Disk_check N d at_).bind fun y =>
  cond (y.1 != (0 : Int))
  (some ((([] : List UInt8), (y.1, ())), (y.2.1, ())))
  (cond (inR at_ (List.length y.2.1.1))
    (cond (decide ((Int.toNat at_) < (List.length y.2.1.1)))
      (some (((toStr (cut (List.getD y.2.1.1 (Int.toNat at_) ([] : List Int)) 0 128)), ((0 : Int), ())), (y.2.1, ())))
      (none))
    (none))

noncomputable def t_39 (N : Nat) : Tab (DT13 × (DT1 × Unit)) := []

theorem link_39 (N : Nat) (x : denS [(0, .box TT0), (0, .v (.int .i64))]) : evFX (E_39 N) N (t_39 N) L_39 Tryd.f26 (mkS [(0, .box TT0), (0, .v (.int .i64))] 0 x) (kResB (.tup [.str, (.int .i64)]) [(0, .box TT0)] 1) = disk_Disk_Read N x.1 x.2.1 := by kernel_rfl

noncomputable def disk_Disk_Read_res (N : Nat) : List A → Res := resOf [(0, .box TT0), (0, .v (.int .i64))] (fun x => disk_Disk_Read N x.1 x.2.1) (oResB (.tup [.str, (.int .i64)]) [(0, .box TT0)] 1)

theorem disk_Disk_Read_ct (N : Nat) : Contract Tryd.prog glob 26 (disk_Disk_Read_res N) :=
  Contract.of (E := E_39 N) (H := t_39 N) (L := L_39) (N := N) (body := body_39) (K := (kResB (.tup [.str, (.int .i64)]) [(0, .box TT0)] 1)) (Eok_39 N) Tryd.func26 (by kernel_rfl) (by decide) (fun _ hb => TabOk.nil) (fun x y h => by rw [link_39]; exact h) (kResB_ok (s := (.tup [.str, (.int .i64)])) (os := [(0, .box TT0)]) (m := 1))

noncomputable def body_40 : Code := (Tryd.f26.body).getD .skip

noncomputable def L_40 : List (List Nat × List Nat) := [([0], [0, 1]), ([0, 0, 1], [6, 0, 1]), ([0, 1, 0, 1], [11, 6, 0, 1]), ([1, 1, 0, 1], [0, 1]), ([0, 0, 1, 1, 0, 1], [4, 5]), ([1, 0, 1, 1, 0, 1], [4, 5]), ([0, 1, 1], [4, 5]), ([1, 1, 1], [4, 5])]

noncomputable def E_40 (N : Nat) : Env := mkEnv tys glob [(30, disk_Disk_check_nil_all N)] [] [] [] false [] []

theorem Eok_40 (N : Nat) : EnvOk Tryd.prog (E_40 N) := mkEnv_ok mixed tys_ok (FnsOk.cons (disk_Disk_check_nil_allct N) (FnsOk.nil)) (ItsOk.nil)

noncomputable def disk_Disk_Read_nil (N : Nat) (at_ : Int) : Option DT13 :=
  some (([] : List UInt8), ((21 : Int), ()))

noncomputable def t_40 (N : Nat) : Tab DT13 := []

theorem link_40 (N : Nat) (x : denS [(0, .nilp), (0, .v (.int .i64))]) : evFX (E_40 N) N (t_40 N) L_40 Tryd.f26 (mkS [(0, .nilp), (0, .v (.int .i64))] 0 x) (kRes (.tup [.str, (.int .i64)]) 2) = disk_Disk_Read_nil N x.2.1 := by kernel_rfl

noncomputable def disk_Disk_Read_nil_res (N : Nat) : List A → Res := resOf [(0, .nilp), (0, .v (.int .i64))] (fun x => disk_Disk_Read_nil N x.2.1) (oRes (.tup [.str, (.int .i64)]) 2)

theorem disk_Disk_Read_nil_ct (N : Nat) : Contract Tryd.prog glob 26 (disk_Disk_Read_nil_res N) :=
  Contract.of (E := E_40 N) (H := t_40 N) (L := L_40) (N := N) (body := body_40) (K := (kRes (.tup [.str, (.int .i64)]) 2)) (Eok_40 N) Tryd.func26 (by kernel_rfl) (by decide) (fun _ hb => TabOk.nil) (fun x y h => by rw [link_40]; exact h) (kRes_ok (s := (.tup [.str, (.int .i64)])) (m := 2))

noncomputable def disk_Disk_Read_nil_all (N : Nat) : List A → Res := resAlt [(0, .nilp), (0, .v (.int .i64))] (fun x => disk_Disk_Read_nil N x.2.1) (oRes (.tup [.str, (.int .i64)]) 2) (disk_Disk_Read_res N)

theorem disk_Disk_Read_nil_allct (N : Nat) : Contract Tryd.prog glob 26 (disk_Disk_Read_nil_all N) := Contract.alt (disk_Disk_Read_nil_ct N) (disk_Disk_Read_ct N)

noncomputable def body_41 : Code := (Tryd.f57.body).getD .skip

noncomputable def L_41 : List (List Nat × List Nat) := [([0], [0]), ([0, 1], [3, 0]), ([0, 0, 1, 1], [5, 3, 0]), ([0, 1, 0, 1, 1], [5, 3, 0]), ([0, 0, 0, 1, 0, 1, 1], [6, 5, 3, 0]), ([0, 1, 0, 0, 1, 0, 1, 1], [5, 3, 0]), ([1, 0, 1, 0, 0, 1, 0, 1, 1], [3]), ([0, 0, 0, 1, 1, 0, 0, 1, 0, 1, 1], [3, 0, 4, 5]), ([1, 0, 0, 1, 1, 0, 0, 1, 0, 1, 1], [5, 3, 0]), ([0, 1, 1, 0, 0, 1, 0, 1, 1], [5, 3, 0]), ([1, 1, 1, 0, 0, 1, 0, 1, 1], [5, 3, 0]), ([1, 0, 1, 1], [3]), ([0, 1, 1, 1], [2]), ([1, 1, 1, 1], [2])]

noncomputable def E_41 (N : Nat) : Env := mkEnv tys glob [] [] [] [] false [] []

theorem Eok_41 (N : Nat) : EnvOk Tryd.prog (E_41 N) := mkEnv_ok mixed tys_ok (FnsOk.nil) (ItsOk.nil)

noncomputable def frame_number_s1 (N : Nat) (s : (List UInt8)) (n : Int) (x5 : Int) (rec : Int → Int → Option Int) (k0 : Int → Option Int) : Option Int :=
  cond (decide (x5 < (8 : Int)))
  (cond (inR x5 (List.length s))
    (cond (decide ((0 : Int) ≤ (IntKind.wrap IntKind.i64 ((8 : Int) * x5))))
      (rec (bitsOp Go.BinOp.or IntKind.u64 n (shlI IntKind.u64 (IntKind.wrap IntKind.u64 (((UInt8.toNat (List.getD s (Int.toNat x5) (0 : UInt8))) : Nat) : Int)) (IntKind.wrap IntKind.i64 ((8 : Int) * x5)))) (IntKind.wrap IntKind.i64 (x5 + (1 : Int))))
      (none))
    (none))
  (k0 n)

noncomputable def frame_number_p1 (N : Nat) (s : (List UInt8)) (n : Int) (x5 : Int) (k0 : Int → Option Int) : Option Int :=
  iter (fun (v : (Int × Int)) r => frame_number_s1 N s v.1 v.2 (fun n x5 => (r (n, x5))) k0) N (n, x5)

noncomputable def g1_41 (N : Nat) (i : (List UInt8)) (v : (Int × Int)) (r : (Int × Int) → Option Int) (K : Ex → List A → Option Int) : Option Int :=
  frame_number_s1 N i v.1 v.2 (fun n x5 => (r (n, x5))) (fun a0 => (K (.exit 0) (mkS [(3, .v (.int .u64))] 16 (a0, ()))))

noncomputable def h1_41 (N : Nat) : Hd Int := fun st K => (unS [(0, .v .str), (2, .v (.int .u64)), (1, .v (.int .i64))] 14 (restr [5, 3, 0] 0 st)).bind fun x => iter (fun v r => g1_41 N ((fun x => x.1) x) v r K) N ((fun x => (x.2.1, x.2.2.1)) x)

noncomputable def t1_41 (N : Nat) : Tab Int := []

theorem ok1_41 {N : Nat} {c : Ctx} (hb : Base Tryd.prog (E_41 N) c) : CodeOk Tryd.prog c (nodeAt body_41 [0, 1, 0, 1, 1]) (h1_41 N) :=
  loop_ok (s := [(0, .v .str), (2, .v (.int .u64)), (1, .v (.int .i64))]) (m := 14) (g1_41 N) [5, 3, 0] N (fun x => x.1) (fun x => (x.2.1, x.2.2.1)) (fun i v => (i, v.1, v.2, ())) (fun _ => rfl) (evN_sound hb N (t1_41 N) L_41 body_41 TabOk.nil [0, 0, 1, 0, 1, 1] _ rfl) (fun i v r K => by kernel_rfl)

noncomputable def frame_number (N : Nat) (s : (List UInt8)) : Option Int :=
  frame_number_p1 N s (0 : Int) (0 : Int)
  (fun n => some (IntKind.wrap IntKind.i64 n))

noncomputable def t_41 (N : Nat) : Tab Int := [([0, 1, 0, 1, 1], h1_41 N)]

theorem link_41 (N : Nat) (x : denS [(0, .v .str)]) : evFX (E_41 N) N (t_41 N) L_41 Tryd.f57 (mkS [(0, .v .str)] 0 x) (kRes (.v (.int .i64)) 1) = frame_number N x.1 := by kernel_rfl

noncomputable def frame_number_res (N : Nat) : List A → Res := resOf [(0, .v .str)] (fun x => frame_number N x.1) (oRes (.v (.int .i64)) 1)

theorem frame_number_ct (N : Nat) : Contract Tryd.prog glob 57 (frame_number_res N) :=
  Contract.of (E := E_41 N) (H := t_41 N) (L := L_41) (N := N) (body := body_41) (K := (kRes (.v (.int .i64)) 1)) (Eok_41 N) Tryd.func57 (by kernel_rfl) (by decide) (fun _ hb => (TabOk.cons (ok1_41 hb) TabOk.nil)) (fun x y h => by rw [link_41]; exact h) (kRes_ok (s := (.v (.int .i64))) (m := 1))

noncomputable def body_42 : Code := (Tryd.f52.body).getD .skip

noncomputable def L_42 : List (List Nat × List Nat) := [([0], [0, 2]), ([0, 0, 1], [9, 2, 0]), ([1, 0, 1], [0, 2]), ([0, 0, 1, 0, 1], [2]), ([1, 0, 1, 0, 1], [2]), ([0, 1, 1], [3, 2, 0]), ([0, 0, 1, 1, 1], [15, 2, 0, 3]), ([1, 0, 1, 1, 1], [0, 3, 2]), ([0, 0, 1, 0, 1, 1, 1], [2]), ([1, 0, 1, 0, 1, 1, 1], [2]), ([0, 1, 1, 1, 1], [4, 0, 2]), ([0, 0, 1, 1, 1, 1, 1], [6, 5, 0, 2, 4]), ([0, 1, 0, 1, 1, 1, 1, 1], [39, 2, 4]), ([1, 1, 0, 1, 1, 1, 1, 1], [4, 2]), ([0, 0, 1, 1, 0, 1, 1, 1, 1, 1], [2]), ([1, 0, 1, 1, 0, 1, 1, 1, 1, 1], [2]), ([0, 1, 1, 1, 1, 1, 1], [2]), ([1, 1, 1, 1, 1, 1, 1], [2])]

noncomputable def E_42 (N : Nat) : Env := mkEnv tys glob [(57, frame_number_res N), (34, frame_Put_res N)] [] [] [] false [] []

theorem Eok_42 (N : Nat) : EnvOk Tryd.prog (E_42 N) := mkEnv_ok mixed tys_ok (FnsOk.cons (frame_number_ct N) (FnsOk.cons (frame_Put_ct N) (FnsOk.nil))) (ItsOk.nil)

noncomputable def frame_decode_p1 (N : Nat) (block : (List UInt8)) (x2 : DT6) (f : DT6) (same : (List UInt8)) (e : Int) (k0 : Bool → Option DT6) : Option DT6 :=
  cond (e != (0 : Int))
  (k0 true)
  (k0 (!(same == block)))

noncomputable def g1_42 (N : Nat) (x : denS [(0, .v .str), (1, .box TT2), (1, .box TT2), (0, .v .str), (0, .v (.int .i64))]) (K : Ex → List A → Option DT6) : Option DT6 :=
  frame_decode_p1 N x.1 x.2.1 x.2.2.1 x.2.2.2.1 x.2.2.2.2.1 (fun a2 => (K .normal (mkS [(2, .box TT2), (1, .box TT2), (34, .v .bool)] 2 (x.2.1, x.2.2.1, a2, ()))))

noncomputable def h1_42 (N : Nat) : Hd DT6 := fun st K => (unS [(0, .v .str), (1, .box TT2), (1, .box TT2), (0, .v .str), (0, .v (.int .i64))] 35 (restr [6, 5, 0, 2, 4] 0 st)).bind fun x => g1_42 N x K

noncomputable def t1_42 (N : Nat) : Tab DT6 := []

theorem ok1_42 {N : Nat} {c : Ctx} (hb : Base Tryd.prog (E_42 N) c) : CodeOk Tryd.prog c (nodeAt body_42 [0, 1, 0, 1, 1, 1, 1, 1]) (h1_42 N) :=
  piece_ok (s := [(0, .v .str), (1, .box TT2), (1, .box TT2), (0, .v .str), (0, .v (.int .i64))]) (m := 35) (g := g1_42 N) [6, 5, 0, 2, 4] (evN_sound hb N (t1_42 N) L_42 body_42 TabOk.nil [0, 1, 0, 1, 1, 1, 1, 1] _ rfl) (fun x K => by kernel_rfl)

noncomputable def frame_decode (N : Nat) (block : (List UInt8)) : Option DT6 :=
  cond ((((List.length block) : Nat) : Int) != (128 : Int))
  (some ((0 : Int), ((0 : Int), (([] : List UInt8), ()))))
  (cond (inR (9 : Int) (List.length block))
    (cond (decide ((110 : Int) < (IntKind.wrap IntKind.i64 (((UInt8.toNat (List.getD block 9 (0 : UInt8))) : Nat) : Int))))
      (some ((0 : Int), ((0 : Int), (([] : List UInt8), ()))))
      (cond (decide (((0 : Int) ≤ (8 : Int)) ∧ ((8 : Int) ≤ (((List.length block) : Nat) : Int))))
        ((frame_number N (cut block 0 8)).bind fun y =>
          cond (inR (8 : Int) (List.length block))
          (cond (decide (((0 : Int) ≤ (IntKind.wrap IntKind.i64 ((10 : Int) + (IntKind.wrap IntKind.i64 (((UInt8.toNat (List.getD block 9 (0 : UInt8))) : Nat) : Int))))) ∧ ((IntKind.wrap IntKind.i64 ((10 : Int) + (IntKind.wrap IntKind.i64 (((UInt8.toNat (List.getD block 9 (0 : UInt8))) : Nat) : Int)))) ≤ (((List.length block) : Nat) : Int))))
            (cond (decide (((0 : Int) ≤ (10 : Int)) ∧ ((10 : Int) ≤ (IntKind.wrap IntKind.i64 ((10 : Int) + (IntKind.wrap IntKind.i64 (((UInt8.toNat (List.getD block 9 (0 : UInt8))) : Nat) : Int)))))))
              ((frame_Put N (y, ((IntKind.wrap IntKind.i64 (((UInt8.toNat (List.getD block 8 (0 : UInt8))) : Nat) : Int)), ((cut block 10 (Int.toNat (IntKind.wrap IntKind.i64 ((10 : Int) + (IntKind.wrap IntKind.i64 (((UInt8.toNat (List.getD block 9 (0 : UInt8))) : Nat) : Int)))))), ())))).bind fun y1 =>
                frame_decode_p1 N block ((0 : Int), ((0 : Int), (([] : List UInt8), ()))) (y, ((IntKind.wrap IntKind.i64 (((UInt8.toNat (List.getD block 8 (0 : UInt8))) : Nat) : Int)), ((cut block 10 (Int.toNat (IntKind.wrap IntKind.i64 ((10 : Int) + (IntKind.wrap IntKind.i64 (((UInt8.toNat (List.getD block 9 (0 : UInt8))) : Nat) : Int)))))), ()))) y1.1 y1.2.1
                (fun x39 => cond x39
                  (some ((0 : Int), ((0 : Int), (([] : List UInt8), ()))))
                  (some (y, ((IntKind.wrap IntKind.i64 (((UInt8.toNat (List.getD block 8 (0 : UInt8))) : Nat) : Int)), ((cut block 10 (Int.toNat (IntKind.wrap IntKind.i64 ((10 : Int) + (IntKind.wrap IntKind.i64 (((UInt8.toNat (List.getD block 9 (0 : UInt8))) : Nat) : Int)))))), ()))))))
              (none))
            (none))
          (none))
        (none)))
    (none))

noncomputable def t_42 (N : Nat) : Tab DT6 := [([0, 1, 0, 1, 1, 1, 1, 1], h1_42 N)]

theorem link_42 (N : Nat) (x : denS [(0, .v .str)]) : evFX (E_42 N) N (t_42 N) L_42 Tryd.f52 (mkS [(0, .v .str)] 0 x) (kRes (.v TT2) 1) = frame_decode N x.1 := by kernel_rfl

noncomputable def frame_decode_res (N : Nat) : List A → Res := resOf [(0, .v .str)] (fun x => frame_decode N x.1) (oRes (.v TT2) 1)

theorem frame_decode_ct (N : Nat) : Contract Tryd.prog glob 52 (frame_decode_res N) :=
  Contract.of (E := E_42 N) (H := t_42 N) (L := L_42) (N := N) (body := body_42) (K := (kRes (.v TT2) 1)) (Eok_42 N) Tryd.func52 (by kernel_rfl) (by decide) (fun _ hb => (TabOk.cons (ok1_42 hb) TabOk.nil)) (fun x y h => by rw [link_42]; exact h) (kRes_ok (s := (.v TT2)) (m := 1))

noncomputable def body_43 : Code := (Tryd.f44.body).getD .skip

noncomputable def L_43 : List (List Nat × List Nat) := [([0], [0, 2]), ([0, 1], [4, 2]), ([0, 1, 1], [2, 3]), ([1, 1, 1], [2, 3])]

noncomputable def E_43 (N : Nat) : Env := mkEnv tys glob [(52, frame_decode_res N)] [] [] [] false [] []

theorem Eok_43 (N : Nat) : EnvOk Tryd.prog (E_43 N) := mkEnv_ok mixed tys_ok (FnsOk.cons (frame_decode_ct N) (FnsOk.nil)) (ItsOk.nil)

noncomputable def frame_Get (N : Nat) (block : (List UInt8)) : Option (DT6 × Bool × Unit) :=
  (frame_decode N block).bind fun y =>
  some (y, ((!(eqD (T.pair (T.int IntKind.i64) (T.pair (T.int IntKind.i64) (T.pair T.str T.unit))) y ((0 : Int), ((0 : Int), (([] : List UInt8), ()))))), ()))

noncomputable def t_43 (N : Nat) : Tab (DT6 × Bool × Unit) := []

theorem link_43 (N : Nat) (x : denS [(0, .v .str)]) : evFX (E_43 N) N (t_43 N) L_43 Tryd.f44 (mkS [(0, .v .str)] 0 x) (kRes (.tup [TT2, .bool]) 1) = frame_Get N x.1 := by kernel_rfl

noncomputable def frame_Get_res (N : Nat) : List A → Res := resOf [(0, .v .str)] (fun x => frame_Get N x.1) (oRes (.tup [TT2, .bool]) 1)

theorem frame_Get_ct (N : Nat) : Contract Tryd.prog glob 44 (frame_Get_res N) :=
  Contract.of (E := E_43 N) (H := t_43 N) (L := L_43) (N := N) (body := body_43) (K := (kRes (.tup [TT2, .bool]) 1)) (Eok_43 N) Tryd.func44 (by kernel_rfl) (by decide) (fun _ hb => TabOk.nil) (fun x y h => by rw [link_43]; exact h) (kRes_ok (s := (.tup [TT2, .bool])) (m := 1))

noncomputable def body_44 : Code := (Tryd.f31.body).getD .skip

noncomputable def L_44 : List (List Nat × List Nat) := [([0], [1, 3, 8, 0, 2]), ([0, 0, 1], [19, 8, 0, 1, 2, 3]), ([1, 0, 1], [0, 1, 2, 8, 3]), ([0, 0, 1, 0, 1], [8, 9, 0]), ([1, 0, 1, 0, 1], [8, 9, 0]), ([0, 1, 1], [11, 8, 0, 10, 3]), ([0, 0, 1, 1, 1], [30, 8, 0, 10, 3]), ([1, 0, 1, 1, 1], [10, 3, 8, 0]), ([0, 0, 1, 0, 1, 1, 1], [8, 9, 0]), ([1, 0, 1, 0, 1, 1, 1], [8, 9, 0]), ([0, 1, 1, 1, 1], [12, 13, 3, 8, 0]), ([0, 1, 1, 1, 1, 1], [8, 9, 0]), ([1, 1, 1, 1, 1, 1], [8, 9, 0])]

noncomputable def E_44 (N : Nat) : Env := mkEnv tys glob [(44, frame_Get_res N), (26, disk_Disk_Read_nil_all N)] [] [] [0] false [] []

theorem Eok_44 (N : Nat) : EnvOk Tryd.prog (E_44 N) := mkEnv_ok mixed tys_ok (FnsOk.cons (frame_Get_ct N) (FnsOk.cons (disk_Disk_Read_nil_allct N) (FnsOk.nil))) (ItsOk.nil)

noncomputable def entry_get_p2 (N : Nat) (d : DT1) (from_ : Int) (index : Int) (mark : Int) (x8 : DT6) (k0 : Bool → Option ((DT6 × Bool × Unit) × (DT1 × Unit))) : Option ((DT6 × Bool × Unit) × (DT1 × Unit)) :=
  cond (decide (from_ < (0 : Int)))
  (k0 true)
  (k0 (mark == (0 : Int)))

noncomputable def g2_44 (N : Nat) (x : denS [(0, .box TT0), (0, .v (.int .i64)), (0, .v (.int .i64)), (0, .v (.int .i64)), (4, .box TT2)]) (K : Ex → List A → Option ((DT6 × Bool × Unit) × (DT1 × Unit))) : Option ((DT6 × Bool × Unit) × (DT1 × Unit)) :=
  entry_get_p2 N x.1 x.2.1 x.2.2.1 x.2.2.2.1 x.2.2.2.2.1 (fun a5 => (K .normal (mkS [(0, .box TT0), (0, .v (.int .i64)), (0, .v (.int .i64)), (0, .v (.int .i64)), (4, .box TT2), (10, .v .bool)] 25 (x.1, x.2.1, x.2.2.1, x.2.2.2.1, x.2.2.2.2.1, a5, ()))))

noncomputable def h2_44 (N : Nat) : Hd ((DT6 × Bool × Unit) × (DT1 × Unit)) := fun st K => (unS [(0, .box TT0), (0, .v (.int .i64)), (0, .v (.int .i64)), (0, .v (.int .i64)), (4, .box TT2)] 36 (restr [1, 3, 8, 0, 2] 0 st)).bind fun x => g2_44 N x K

noncomputable def t2_44 (N : Nat) : Tab ((DT6 × Bool × Unit) × (DT1 × Unit)) := []

theorem ok2_44 {N : Nat} {c : Ctx} (hb : Base Tryd.prog (E_44 N) c) : CodeOk Tryd.prog c (nodeAt body_44 [0, 0, 1]) (h2_44 N) :=
  piece_ok (s := [(0, .box TT0), (0, .v (.int .i64)), (0, .v (.int .i64)), (0, .v (.int .i64)), (4, .box TT2)]) (m := 36) (g := g2_44 N) [1, 3, 8, 0, 2] (evN_sound hb N (t2_44 N) L_44 body_44 TabOk.nil [0, 0, 1] _ rfl) (fun x K => by kernel_rfl)

noncomputable def entry_get_p1 (N : Nat) (d : DT1) (from_ : Int) (index : Int) (mark : Int) (x8 : DT6) (k0 : DT6 → Bool → Option ((DT6 × Bool × Unit) × (DT1 × Unit))) (k1 : Option ((DT6 × Bool × Unit) × (DT1 × Unit))) : Option ((DT6 × Bool × Unit) × (DT1 × Unit)) :=
  entry_get_p2 N d from_ index mark x8
  (fun x19 => cond x19
    (k0 ((0 : Int), ((0 : Int), (([] : List UInt8), ()))) false)
    (k1))

noncomputable def g1_44 (N : Nat) (x : denS [(0, .box TT0), (0, .v (.int .i64)), (0, .v (.int .i64)), (0, .v (.int .i64)), (4, .box TT2)]) (K : Ex → List A → Option ((DT6 × Bool × Unit) × (DT1 × Unit))) : Option ((DT6 × Bool × Unit) × (DT1 × Unit)) :=
  entry_get_p1 N x.1 x.2.1 x.2.2.1 x.2.2.2.1 x.2.2.2.2.1 (fun a1 a2 => (K .ret (mkS [(0, .box TT0), (7, .box TT2), (0, .v .bool)] 35 (x.1, a1, a2, ())))) (K .normal (mkS [(0, .box TT0), (0, .v (.int .i64)), (0, .v (.int .i64)), (0, .v (.int .i64)), (4, .box TT2)] 36 (x.1, x.2.1, x.2.2.1, x.2.2.2.1, x.2.2.2.2.1, ())))

noncomputable def h1_44 (N : Nat) : Hd ((DT6 × Bool × Unit) × (DT1 × Unit)) := fun st K => (unS [(0, .box TT0), (0, .v (.int .i64)), (0, .v (.int .i64)), (0, .v (.int .i64)), (4, .box TT2)] 36 (restr [1, 3, 8, 0, 2] 0 st)).bind fun x => g1_44 N x K

noncomputable def t1_44 (N : Nat) : Tab ((DT6 × Bool × Unit) × (DT1 × Unit)) := [([0, 0, 1], h2_44 N)]

theorem ok1_44 {N : Nat} {c : Ctx} (hb : Base Tryd.prog (E_44 N) c) : CodeOk Tryd.prog c (nodeAt body_44 [0, 1]) (h1_44 N) :=
  piece_ok (s := [(0, .box TT0), (0, .v (.int .i64)), (0, .v (.int .i64)), (0, .v (.int .i64)), (4, .box TT2)]) (m := 36) (g := g1_44 N) [1, 3, 8, 0, 2] (evN_sound hb N (t1_44 N) L_44 body_44 (TabOk.cons (ok2_44 hb) TabOk.nil) [0, 1] _ rfl) (fun x K => by kernel_rfl)

noncomputable def entry_get (N : Nat) (d : DT1) (from_ : Int) (index : Int) (mark : Int) : Option ((DT6 × Bool × Unit) × (DT1 × Unit)) :=
  entry_get_p1 N d from_ index mark ((0 : Int), ((0 : Int), (([] : List UInt8), ())))
  (fun x8 x9 => some ((x8, (x9, ())), (d, ())))
  ((disk_Disk_Read N d (IntKind.wrap IntKind.i64 (from_ + index))).bind fun y =>
    cond (y.1.2.1 != (0 : Int))
    (some ((((0 : Int), ((0 : Int), (([] : List UInt8), ()))), (false, ())), (y.2.1, ())))
    ((frame_Get N y.1.1).bind fun y1 =>
      cond y1.2.1
      (some ((y1.1, ((y1.1.1 == mark), ())), (y.2.1, ())))
      (some ((y1.1, (false, ())), (y.2.1, ())))))

noncomputable def t_44 (N : Nat) : Tab ((DT6 × Bool × Unit) × (DT1 × Unit)) := [([0, 1], h1_44 N)]

theorem link_44 (N : Nat) (x : denS [(0, .box TT0), (0, .v (.int .i64)), (0, .v (.int .i64)), (0, .v (.int .i64))]) : evFX (E_44 N) N (t_44 N) L_44 Tryd.f31 (mkS [(0, .box TT0), (0, .v (.int .i64)), (0, .v (.int .i64)), (0, .v (.int .i64))] 0 x) (kResB (.tup [TT2, .bool]) [(0, .box TT0)] 3) = entry_get N x.1 x.2.1 x.2.2.1 x.2.2.2.1 := by kernel_rfl

noncomputable def entry_get_res (N : Nat) : List A → Res := resOf [(0, .box TT0), (0, .v (.int .i64)), (0, .v (.int .i64)), (0, .v (.int .i64))] (fun x => entry_get N x.1 x.2.1 x.2.2.1 x.2.2.2.1) (oResB (.tup [TT2, .bool]) [(0, .box TT0)] 3)

theorem entry_get_ct (N : Nat) : Contract Tryd.prog glob 31 (entry_get_res N) :=
  Contract.of (E := E_44 N) (H := t_44 N) (L := L_44) (N := N) (body := body_44) (K := (kResB (.tup [TT2, .bool]) [(0, .box TT0)] 3)) (Eok_44 N) Tryd.func31 (by kernel_rfl) (by decide) (fun _ hb => (TabOk.cons (ok1_44 hb) TabOk.nil)) (fun x y h => by rw [link_44]; exact h) (kResB_ok (s := (.tup [TT2, .bool])) (os := [(0, .box TT0)]) (m := 3))

noncomputable def body_45 : Code := (Tryd.f31.body).getD .skip

noncomputable def L_45 : List (List Nat × List Nat) := [([0], [1, 3, 8, 0, 2]), ([0, 0, 1], [19, 8, 0, 1, 2, 3]), ([1, 0, 1], [0, 1, 2, 8, 3]), ([0, 0, 1, 0, 1], [8, 9]), ([1, 0, 1, 0, 1], [8, 9]), ([0, 1, 1], [11, 8, 10, 3]), ([0, 0, 1, 1, 1], [30, 8, 10, 3]), ([1, 0, 1, 1, 1], [10, 3, 8]), ([0, 0, 1, 0, 1, 1, 1], [8, 9]), ([1, 0, 1, 0, 1, 1, 1], [8, 9]), ([0, 1, 1, 1, 1], [12, 13, 3, 8]), ([0, 1, 1, 1, 1, 1], [8, 9]), ([1, 1, 1, 1, 1, 1], [8, 9])]

noncomputable def E_45 (N : Nat) : Env := mkEnv tys glob [(44, frame_Get_res N), (26, disk_Disk_Read_nil_all N)] [] [] [] false [] []

theorem Eok_45 (N : Nat) : EnvOk Tryd.prog (E_45 N) := mkEnv_ok mixed tys_ok (FnsOk.cons (frame_Get_ct N) (FnsOk.cons (disk_Disk_Read_nil_allct N) (FnsOk.nil))) (ItsOk.nil)

noncomputable def entry_get_nil_p2 (N : Nat) (from_ : Int) (index : Int) (mark : Int) (x8 : DT6) (k0 : Bool → Option (DT6 × Bool × Unit)) : Option (DT6 × Bool × Unit) :=
  cond (decide (from_ < (0 : Int)))
  (k0 true)
  (k0 (mark == (0 : Int)))

noncomputable def g2_45 (N : Nat) (x : denS [(0, .nilp), (0, .v (.int .i64)), (0, .v (.int .i64)), (0, .v (.int .i64)), (4, .box TT2)]) (K : Ex → List A → Option (DT6 × Bool × Unit)) : Option (DT6 × Bool × Unit) :=
  entry_get_nil_p2 N x.2.1 x.2.2.1 x.2.2.2.1 x.2.2.2.2.1 (fun a4 => (K .normal (mkS [(0, .nilp), (0, .v (.int .i64)), (0, .v (.int .i64)), (0, .v (.int .i64)), (4, .box TT2), (10, .v .bool)] 25 ((), x.2.1, x.2.2.1, x.2.2.2.1, x.2.2.2.2.1, a4, ()))))

noncomputable def h2_45 (N : Nat) : Hd (DT6 × Bool × Unit) := fun st K => (unS [(0, .nilp), (0, .v (.int .i64)), (0, .v (.int .i64)), (0, .v (.int .i64)), (4, .box TT2)] 36 (restr [1, 3, 8, 0, 2] 0 st)).bind fun x => g2_45 N x K

noncomputable def t2_45 (N : Nat) : Tab (DT6 × Bool × Unit) := []

theorem ok2_45 {N : Nat} {c : Ctx} (hb : Base Tryd.prog (E_45 N) c) : CodeOk Tryd.prog c (nodeAt body_45 [0, 0, 1]) (h2_45 N) :=
  piece_ok (s := [(0, .nilp), (0, .v (.int .i64)), (0, .v (.int .i64)), (0, .v (.int .i64)), (4, .box TT2)]) (m := 36) (g := g2_45 N) [1, 3, 8, 0, 2] (evN_sound hb N (t2_45 N) L_45 body_45 TabOk.nil [0, 0, 1] _ rfl) (fun x K => by kernel_rfl)

noncomputable def entry_get_nil_p1 (N : Nat) (from_ : Int) (index : Int) (mark : Int) (x8 : DT6) (k0 : DT6 → Bool → Option (DT6 × Bool × Unit)) (k1 : Option (DT6 × Bool × Unit)) : Option (DT6 × Bool × Unit) :=
  entry_get_nil_p2 N from_ index mark x8
  (fun x19 => cond x19
    (k0 ((0 : Int), ((0 : Int), (([] : List UInt8), ()))) false)
    (k1))

noncomputable def g1_45 (N : Nat) (x : denS [(0, .nilp), (0, .v (.int .i64)), (0, .v (.int .i64)), (0, .v (.int .i64)), (4, .box TT2)]) (K : Ex → List A → Option (DT6 × Bool × Unit)) : Option (DT6 × Bool × Unit) :=
  entry_get_nil_p1 N x.2.1 x.2.2.1 x.2.2.2.1 x.2.2.2.2.1 (fun a0 a1 => (K .ret (mkS [(8, .box TT2), (0, .v .bool)] 35 (a0, a1, ())))) (K .normal (mkS [(0, .nilp), (0, .v (.int .i64)), (0, .v (.int .i64)), (0, .v (.int .i64)), (4, .box TT2)] 36 ((), x.2.1, x.2.2.1, x.2.2.2.1, x.2.2.2.2.1, ())))

noncomputable def h1_45 (N : Nat) : Hd (DT6 × Bool × Unit) := fun st K => (unS [(0, .nilp), (0, .v (.int .i64)), (0, .v (.int .i64)), (0, .v (.int .i64)), (4, .box TT2)] 36 (restr [1, 3, 8, 0, 2] 0 st)).bind fun x => g1_45 N x K

noncomputable def t1_45 (N : Nat) : Tab (DT6 × Bool × Unit) := [([0, 0, 1], h2_45 N)]

theorem ok1_45 {N : Nat} {c : Ctx} (hb : Base Tryd.prog (E_45 N) c) : CodeOk Tryd.prog c (nodeAt body_45 [0, 1]) (h1_45 N) :=
  piece_ok (s := [(0, .nilp), (0, .v (.int .i64)), (0, .v (.int .i64)), (0, .v (.int .i64)), (4, .box TT2)]) (m := 36) (g := g1_45 N) [1, 3, 8, 0, 2] (evN_sound hb N (t1_45 N) L_45 body_45 (TabOk.cons (ok2_45 hb) TabOk.nil) [0, 1] _ rfl) (fun x K => by kernel_rfl)

noncomputable def entry_get_nil (N : Nat) (from_ : Int) (index : Int) (mark : Int) : Option (DT6 × Bool × Unit) :=
  entry_get_nil_p1 N from_ index mark ((0 : Int), ((0 : Int), (([] : List UInt8), ())))
  (fun x8 x9 => some (x8, (x9, ())))
  (some (((0 : Int), ((0 : Int), (([] : List UInt8), ()))), (false, ())))

noncomputable def t_45 (N : Nat) : Tab (DT6 × Bool × Unit) := [([0, 1], h1_45 N)]

theorem link_45 (N : Nat) (x : denS [(0, .nilp), (0, .v (.int .i64)), (0, .v (.int .i64)), (0, .v (.int .i64))]) : evFX (E_45 N) N (t_45 N) L_45 Tryd.f31 (mkS [(0, .nilp), (0, .v (.int .i64)), (0, .v (.int .i64)), (0, .v (.int .i64))] 0 x) (kRes (.tup [TT2, .bool]) 4) = entry_get_nil N x.2.1 x.2.2.1 x.2.2.2.1 := by kernel_rfl

noncomputable def entry_get_nil_res (N : Nat) : List A → Res := resOf [(0, .nilp), (0, .v (.int .i64)), (0, .v (.int .i64)), (0, .v (.int .i64))] (fun x => entry_get_nil N x.2.1 x.2.2.1 x.2.2.2.1) (oRes (.tup [TT2, .bool]) 4)

theorem entry_get_nil_ct (N : Nat) : Contract Tryd.prog glob 31 (entry_get_nil_res N) :=
  Contract.of (E := E_45 N) (H := t_45 N) (L := L_45) (N := N) (body := body_45) (K := (kRes (.tup [TT2, .bool]) 4)) (Eok_45 N) Tryd.func31 (by kernel_rfl) (by decide) (fun _ hb => (TabOk.cons (ok1_45 hb) TabOk.nil)) (fun x y h => by rw [link_45]; exact h) (kRes_ok (s := (.tup [TT2, .bool])) (m := 4))

noncomputable def entry_get_nil_all (N : Nat) : List A → Res := resAlt [(0, .nilp), (0, .v (.int .i64)), (0, .v (.int .i64)), (0, .v (.int .i64))] (fun x => entry_get_nil N x.2.1 x.2.2.1 x.2.2.2.1) (oRes (.tup [TT2, .bool]) 4) (entry_get_res N)

theorem entry_get_nil_allct (N : Nat) : Contract Tryd.prog glob 31 (entry_get_nil_all N) := Contract.alt (entry_get_nil_ct N) (entry_get_ct N)

noncomputable def body_46 : Code := (Tryd.f16.body).getD .skip

noncomputable def L_46 : List (List Nat × List Nat) := [([0], [0, 1, 3, 2, 8]), ([0, 1], [11, 10, 8, 0, 1, 3, 2]), ([0, 0, 1, 1], [36, 8, 0, 10, 1, 3, 2]), ([1, 0, 1, 1], [10, 8, 0, 1, 3, 2]), ([0, 0, 1, 0, 1, 1], [8, 9, 0]), ([1, 0, 1, 0, 1, 1], [8, 9, 0]), ([0, 1, 1, 1], [12, 10, 8, 0, 1, 3, 2]), ([0, 0, 1, 1, 1, 1], [38, 12, 10, 8, 0, 1, 3, 2]), ([0, 1, 0, 1, 1, 1, 1], [38, 12, 10, 8, 0, 1, 3, 2]), ([0, 0, 0, 1, 0, 1, 1, 1, 1], [39, 38, 12, 10, 8, 0, 1, 3, 2]), ([0, 1, 0, 0, 1, 0, 1, 1, 1, 1], [38, 12, 10, 8, 0, 1, 3, 2]), ([1, 0, 1, 0, 0, 1, 0, 1, 1, 1, 1], [12, 10, 8, 0, 1, 3, 2]), ([0, 0, 0, 1, 1, 0, 0, 1, 0, 1, 1, 1, 1], [12, 10, 13, 38, 8, 0, 1, 3, 2]), ([1, 0, 0, 1, 1, 0, 0, 1, 0, 1, 1, 1, 1], [38, 12, 10, 8, 0, 1, 3, 2]), ([0, 1, 1, 0, 0, 1, 0, 1, 1, 1, 1], [38, 12, 10, 8, 0, 1, 3, 2]), ([1, 1, 1, 0, 0, 1, 0, 1, 1, 1, 1], [38, 12, 10, 8, 0, 1, 3, 2]), ([1, 0, 1, 1, 1, 1], [12, 10, 8, 0, 1, 3, 2]), ([0, 1, 1, 1, 1, 1], [10, 14, 12, 8, 0, 1, 3, 2]), ([0, 1, 1, 1, 1, 1, 1], [14, 15, 12, 8, 0, 1, 3, 2, 10]), ([0, 0, 1, 1, 1, 1, 1, 1, 1], [65, 8, 0, 14, 1, 3, 2, 12, 15, 10]), ([1, 0, 1, 1, 1, 1, 1, 1, 1], [14, 0, 1, 3, 2, 12, 15, 8, 10]), ([0, 0, 1, 0, 1, 1, 1, 1, 1, 1, 1], [8, 9, 0]), ([1, 0, 1, 0, 1, 1, 1, 1, 1, 1, 1], [8, 9, 0]), ([0, 0, 1, 1, 1, 1, 1, 1, 1, 1], [69, 68, 0, 1, 3, 2, 12, 15, 8, 10, 14]), ([0, 1, 0, 1, 1, 1, 1, 1, 1, 1, 1], [69, 68, 0, 1, 3, 2, 12, 15, 8, 10, 14]), ([0, 0, 0, 1, 0, 1, 1, 1, 1, 1, 1, 1, 1], [70, 69, 0, 1, 3, 2, 12, 15, 8, 68, 10, 14]), ([0, 1, 0, 0, 1, 0, 1, 1, 1, 1, 1, 1, 1, 1], [69, 0, 1, 3, 2, 12, 15, 8, 68, 10, 14]), ([1, 0, 1, 0, 0, 1, 0, 1, 1, 1, 1, 1, 1, 1, 1], [15, 10, 8, 0, 14]), ([0, 0, 0, 1, 1, 0, 0, 1, 0, 1, 1, 1, 1, 1, 1, 1, 1], [0, 1, 3, 16, 2, 12, 15, 8, 69, 68, 10, 14]), ([0, 1, 0, 0, 1, 1, 0, 0, 1, 0, 1, 1, 1, 1, 1, 1, 1, 1], [18, 17, 12, 15, 8, 0, 69, 68, 1, 3, 2, 10, 14]), ([0, 0, 1, 1, 0, 0, 1, 1, 0, 0, 1, 0, 1, 1, 1, 1, 1, 1, 1, 1], [105, 8, 0, 15, 17, 69, 68, 1, 3, 2, 12, 10, 14]), ([1, 0, 1, 1, 0, 0, 1, 1, 0, 0, 1, 0, 1, 1, 1, 1, 1, 1, 1, 1], [15, 17, 69, 68, 0, 1, 3, 2, 12, 8, 10, 14]), ([0, 0, 1, 0, 1, 1, 0, 0, 1, 1, 0, 0, 1, 0, 1, 1, 1, 1, 1, 1, 1, 1], [8, 9, 0]), ([1, 0, 1, 0, 1, 1, 0, 0, 1, 1, 0, 0, 1, 0, 1, 1, 1, 1, 1, 1, 1, 1], [8, 9, 0]), ([1, 1, 1, 0, 0, 1, 1, 0, 0, 1, 0, 1, 1, 1, 1, 1, 1, 1, 1], [69, 68, 0, 1, 3, 2, 12, 15, 8, 10, 14]), ([0, 1, 1, 0, 0, 1, 0, 1, 1, 1, 1, 1, 1, 1, 1], [69, 68, 0, 1, 3, 2, 12, 15, 8, 10, 14]), ([1, 1, 1, 0, 0, 1, 0, 1, 1, 1, 1, 1, 1, 1, 1], [69, 68, 0, 1, 3, 2, 12, 15, 8, 10, 14]), ([1, 0, 1, 1, 1, 1, 1, 1, 1, 1], [15, 10, 8, 0, 14]), ([0, 0, 1, 1, 1, 1, 1, 1, 1, 1, 1], [117, 8, 0, 10, 15, 14]), ([1, 0, 1, 1, 1, 1, 1, 1, 1, 1, 1], [10, 15, 14, 8, 0]), ([0, 0, 1, 0, 1, 1, 1, 1, 1, 1, 1, 1, 1], [8, 9, 0]), ([1, 0, 1, 0, 1, 1, 1, 1, 1, 1, 1, 1, 1], [8, 9, 0]), ([0, 1, 1, 1, 1, 1, 1, 1, 1, 1, 1], [8, 9, 0]), ([1, 1, 1, 1, 1, 1, 1, 1, 1, 1, 1], [8, 9, 0])]

noncomputable def E_46 (N : Nat) : Env := mkEnv tys glob [(31, entry_get_nil_all N), (24, entry_preface_res N), (12, entry_Blocks_res N), (11, entry_Mark_res N)] [] [] [0] false [] []

theorem Eok_46 (N : Nat) : EnvOk Tryd.prog (E_46 N) := mkEnv_ok mixed tys_ok (FnsOk.cons (entry_get_nil_allct N) (FnsOk.cons (entry_preface_ct N) (FnsOk.cons (entry_Blocks_ct N) (FnsOk.cons (entry_Mark_ct N) (FnsOk.nil))))) (ItsOk.nil)

noncomputable def entry_Read_p2 (N : Nat) (d : DT1) (from_ : Int) (gen : Int) (index : Int) (x8 : DT11) (head : DT6) (ok : Bool) (k0 : Bool → Option (DT3 × (DT1 × Unit))) : Option (DT3 × (DT1 × Unit)) :=
  cond (!ok)
  (k0 true)
  (k0 (decide ((((List.length head.2.2.1) : Nat) : Int) < (8 : Int))))

noncomputable def g2_46 (N : Nat) (x : denS [(0, .box TT0), (0, .v (.int .i64)), (0, .v (.int .i64)), (0, .v (.int .i64)), (4, .box TT9), (1, .box TT2), (0, .v .bool)]) (K : Ex → List A → Option (DT3 × (DT1 × Unit))) : Option (DT3 × (DT1 × Unit)) :=
  entry_Read_p2 N x.1 x.2.1 x.2.2.1 x.2.2.2.1 x.2.2.2.2.1 x.2.2.2.2.2.1 x.2.2.2.2.2.2.1 (fun a6 => (K .normal (mkS [(0, .box TT0), (0, .v (.int .i64)), (0, .v (.int .i64)), (0, .v (.int .i64)), (4, .box TT9), (1, .box TT2), (25, .v .bool)] 87 (x.1, x.2.1, x.2.2.1, x.2.2.2.1, x.2.2.2.2.1, x.2.2.2.2.2.1, a6, ()))))

noncomputable def h2_46 (N : Nat) : Hd (DT3 × (DT1 × Unit)) := fun st K => (unS [(0, .box TT0), (0, .v (.int .i64)), (0, .v (.int .i64)), (0, .v (.int .i64)), (4, .box TT9), (1, .box TT2), (0, .v .bool)] 112 (restr [11, 10, 8, 0, 1, 3, 2] 0 st)).bind fun x => g2_46 N x K

noncomputable def t2_46 (N : Nat) : Tab (DT3 × (DT1 × Unit)) := []

theorem ok2_46 {N : Nat} {c : Ctx} (hb : Base Tryd.prog (E_46 N) c) : CodeOk Tryd.prog c (nodeAt body_46 [0, 0, 1, 1]) (h2_46 N) :=
  piece_ok (s := [(0, .box TT0), (0, .v (.int .i64)), (0, .v (.int .i64)), (0, .v (.int .i64)), (4, .box TT9), (1, .box TT2), (0, .v .bool)]) (m := 112) (g := g2_46 N) [11, 10, 8, 0, 1, 3, 2] (evN_sound hb N (t2_46 N) L_46 body_46 TabOk.nil [0, 0, 1, 1] _ rfl) (fun x K => by kernel_rfl)

noncomputable def entry_Read_p1 (N : Nat) (d : DT1) (from_ : Int) (gen : Int) (index : Int) (x8 : DT11) (head : DT6) (ok : Bool) (k0 : DT11 → Bool → Option (DT3 × (DT1 × Unit))) (k1 : Option (DT3 × (DT1 × Unit))) : Option (DT3 × (DT1 × Unit)) :=
  entry_Read_p2 N d from_ gen index x8 head ok
  (fun x36 => cond x36
    (k0 ((0 : Int), (([] : List UInt8), ((0 : Int), ()))) false)
    (k1))

noncomputable def g1_46 (N : Nat) (x : denS [(0, .box TT0), (0, .v (.int .i64)), (0, .v (.int .i64)), (0, .v (.int .i64)), (4, .box TT9), (1, .box TT2), (0, .v .bool)]) (K : Ex → List A → Option (DT3 × (DT1 × Unit))) : Option (DT3 × (DT1 × Unit)) :=
  entry_Read_p1 N x.1 x.2.1 x.2.2.1 x.2.2.2.1 x.2.2.2.2.1 x.2.2.2.2.2.1 x.2.2.2.2.2.2.1 (fun a1 a2 => (K .ret (mkS [(0, .box TT0), (7, .box TT9), (0, .v .bool)] 114 (x.1, a1, a2, ())))) (K .normal (mkS [(0, .box TT0), (0, .v (.int .i64)), (0, .v (.int .i64)), (0, .v (.int .i64)), (4, .box TT9), (1, .box TT2)] 113 (x.1, x.2.1, x.2.2.1, x.2.2.2.1, x.2.2.2.2.1, x.2.2.2.2.2.1, ())))

noncomputable def h1_46 (N : Nat) : Hd (DT3 × (DT1 × Unit)) := fun st K => (unS [(0, .box TT0), (0, .v (.int .i64)), (0, .v (.int .i64)), (0, .v (.int .i64)), (4, .box TT9), (1, .box TT2), (0, .v .bool)] 112 (restr [11, 10, 8, 0, 1, 3, 2] 0 st)).bind fun x => g1_46 N x K

noncomputable def t1_46 (N : Nat) : Tab (DT3 × (DT1 × Unit)) := [([0, 0, 1, 1], h2_46 N)]

theorem ok1_46 {N : Nat} {c : Ctx} (hb : Base Tryd.prog (E_46 N) c) : CodeOk Tryd.prog c (nodeAt body_46 [0, 1, 1]) (h1_46 N) :=
  piece_ok (s := [(0, .box TT0), (0, .v (.int .i64)), (0, .v (.int .i64)), (0, .v (.int .i64)), (4, .box TT9), (1, .box TT2), (0, .v .bool)]) (m := 112) (g := g1_46 N) [11, 10, 8, 0, 1, 3, 2] (evN_sound hb N (t1_46 N) L_46 body_46 (TabOk.cons (ok2_46 hb) TabOk.nil) [0, 1, 1] _ rfl) (fun x K => by kernel_rfl)

noncomputable def entry_Read_s3 (N : Nat) (d : DT1) (from_ : Int) (gen : Int) (index : Int) (x8 : DT11) (head : DT6) (size : Int) (x38 : Int) (rec : Int → Int → Option (DT3 × (DT1 × Unit))) (k0 : Int → Option (DT3 × (DT1 × Unit))) : Option (DT3 × (DT1 × Unit)) :=
  cond (decide (x38 < (4 : Int)))
  (cond (inR x38 (List.length head.2.2.1))
    (cond (decide ((0 : Int) ≤ (IntKind.wrap IntKind.i64 ((8 : Int) * x38))))
      (rec (bitsOp Go.BinOp.or IntKind.i64 size (shlI IntKind.i64 (IntKind.wrap IntKind.i64 (((UInt8.toNat (List.getD head.2.2.1 (Int.toNat x38) (0 : UInt8))) : Nat) : Int)) (IntKind.wrap IntKind.i64 ((8 : Int) * x38)))) (IntKind.wrap IntKind.i64 (x38 + (1 : Int))))
      (none))
    (none))
  (k0 size)

noncomputable def entry_Read_p3 (N : Nat) (d : DT1) (from_ : Int) (gen : Int) (index : Int) (x8 : DT11) (head : DT6) (size : Int) (x38 : Int) (k0 : Int → Option (DT3 × (DT1 × Unit))) : Option (DT3 × (DT1 × Unit)) :=
  iter (fun (v : (Int × Int)) r => entry_Read_s3 N d from_ gen index x8 head v.1 v.2 (fun size x38 => (r (size, x38))) k0) N (size, x38)

noncomputable def g3_46 (N : Nat) (i : (DT1 × Int × Int × Int × DT11 × DT6)) (v : (Int × Int)) (r : (Int × Int) → Option (DT3 × (DT1 × Unit))) (K : Ex → List A → Option (DT3 × (DT1 × Unit))) : Option (DT3 × (DT1 × Unit)) :=
  entry_Read_s3 N i.1 i.2.1 i.2.2.1 i.2.2.2.1 i.2.2.2.2.1 i.2.2.2.2.2 v.1 v.2 (fun size x38 => (r (size, x38))) (fun a6 => (K (.exit 0) (mkS [(0, .box TT0), (0, .v (.int .i64)), (0, .v (.int .i64)), (0, .v (.int .i64)), (4, .box TT9), (1, .box TT2), (1, .v (.int .i64))] 111 (i.1, i.2.1, i.2.2.1, i.2.2.2.1, i.2.2.2.2.1, i.2.2.2.2.2, a6, ()))))

noncomputable def h3_46 (N : Nat) : Hd (DT3 × (DT1 × Unit)) := fun st K => (unS [(0, .box TT0), (0, .v (.int .i64)), (0, .v (.int .i64)), (0, .v (.int .i64)), (4, .box TT9), (1, .box TT2), (1, .v (.int .i64)), (25, .v (.int .i64))] 85 (restr [38, 12, 10, 8, 0, 1, 3, 2] 0 st)).bind fun x => iter (fun v r => g3_46 N ((fun x => (x.1, x.2.1, x.2.2.1, x.2.2.2.1, x.2.2.2.2.1, x.2.2.2.2.2.1)) x) v r K) N ((fun x => (x.2.2.2.2.2.2.1, x.2.2.2.2.2.2.2.1)) x)

noncomputable def t3_46 (N : Nat) : Tab (DT3 × (DT1 × Unit)) := []

theorem ok3_46 {N : Nat} {c : Ctx} (hb : Base Tryd.prog (E_46 N) c) : CodeOk Tryd.prog c (nodeAt body_46 [0, 1, 0, 1, 1, 1, 1]) (h3_46 N) :=
  loop_ok (s := [(0, .box TT0), (0, .v (.int .i64)), (0, .v (.int .i64)), (0, .v (.int .i64)), (4, .box TT9), (1, .box TT2), (1, .v (.int .i64)), (25, .v (.int .i64))]) (m := 85) (g3_46 N) [38, 12, 10, 8, 0, 1, 3, 2] N (fun x => (x.1, x.2.1, x.2.2.1, x.2.2.2.1, x.2.2.2.2.1, x.2.2.2.2.2.1)) (fun x => (x.2.2.2.2.2.2.1, x.2.2.2.2.2.2.2.1)) (fun i v => (i.1, i.2.1, i.2.2.1, i.2.2.2.1, i.2.2.2.2.1, i.2.2.2.2.2, v.1, v.2, ())) (fun _ => rfl) (evN_sound hb N (t3_46 N) L_46 body_46 TabOk.nil [0, 0, 1, 0, 1, 1, 1, 1] _ rfl) (fun i v r K => by kernel_rfl)

noncomputable def entry_Read_p5 (N : Nat) (d : DT1) (from_ : Int) (gen : Int) (index : Int) (x8 : DT11) (head : DT6) (size : Int) (blocks : Int) (text : (List UInt8)) (k0 : Bool → Option (DT3 × (DT1 × Unit))) : Option (DT3 × (DT1 × Unit)) :=
  cond (blocks == (0 : Int))
  (k0 true)
  (k0 ((((List.length text) : Nat) : Int) != (if ((102 : Int) < size) then (102 : Int) else size)))

noncomputable def g5_46 (N : Nat) (x : denS [(0, .box TT0), (0, .v (.int .i64)), (0, .v (.int .i64)), (0, .v (.int .i64)), (4, .box TT9), (1, .box TT2), (1, .v (.int .i64)), (1, .v (.int .i64)), (0, .v .str)]) (K : Ex → List A → Option (DT3 × (DT1 × Unit))) : Option (DT3 × (DT1 × Unit)) :=
  entry_Read_p5 N x.1 x.2.1 x.2.2.1 x.2.2.2.1 x.2.2.2.2.1 x.2.2.2.2.2.1 x.2.2.2.2.2.2.1 x.2.2.2.2.2.2.2.1 x.2.2.2.2.2.2.2.2.1 (fun a9 => (K .normal (mkS [(0, .box TT0), (0, .v (.int .i64)), (0, .v (.int .i64)), (0, .v (.int .i64)), (4, .box TT9), (1, .box TT2), (1, .v (.int .i64)), (1, .v (.int .i64)), (0, .v .str), (49, .v .bool)] 58 (x.1, x.2.1, x.2.2.1, x.2.2.2.1, x.2.2.2.2.1, x.2.2.2.2.2.1, x.2.2.2.2.2.2.1, x.2.2.2.2.2.2.2.1, x.2.2.2.2.2.2.2.2.1, a9, ()))))

noncomputable def h5_46 (N : Nat) : Hd (DT3 × (DT1 × Unit)) := fun st K => (unS [(0, .box TT0), (0, .v (.int .i64)), (0, .v (.int .i64)), (0, .v (.int .i64)), (4, .box TT9), (1, .box TT2), (1, .v (.int .i64)), (1, .v (.int .i64)), (0, .v .str)] 108 (restr [14, 15, 12, 8, 0, 1, 3, 2, 10] 0 st)).bind fun x => g5_46 N x K

noncomputable def t5_46 (N : Nat) : Tab (DT3 × (DT1 × Unit)) := []

theorem ok5_46 {N : Nat} {c : Ctx} (hb : Base Tryd.prog (E_46 N) c) : CodeOk Tryd.prog c (nodeAt body_46 [0, 0, 1, 1, 1, 1, 1, 1, 1]) (h5_46 N) :=
  piece_ok (s := [(0, .box TT0), (0, .v (.int .i64)), (0, .v (.int .i64)), (0, .v (.int .i64)), (4, .box TT9), (1, .box TT2), (1, .v (.int .i64)), (1, .v (.int .i64)), (0, .v .str)]) (m := 108) (g := g5_46 N) [14, 15, 12, 8, 0, 1, 3, 2, 10] (evN_sound hb N (t5_46 N) L_46 body_46 TabOk.nil [0, 0, 1, 1, 1, 1, 1, 1, 1] _ rfl) (fun x K => by kernel_rfl)

noncomputable def entry_Read_p4 (N : Nat) (d : DT1) (from_ : Int) (gen : Int) (index : Int) (x8 : DT11) (head : DT6) (size : Int) (blocks : Int) (text : (List UInt8)) (k0 : DT11 → Bool → Option (DT3 × (DT1 × Unit))) (k1 : Option (DT3 × (DT1 × Unit))) : Option (DT3 × (DT1 × Unit)) :=
  entry_Read_p5 N d from_ gen index x8 head size blocks text
  (fun x65 => cond x65
    (k0 ((0 : Int), (([] : List UInt8), ((0 : Int), ()))) false)
    (k1))

noncomputable def g4_46 (N : Nat) (x : denS [(0, .box TT0), (0, .v (.int .i64)), (0, .v (.int .i64)), (0, .v (.int .i64)), (4, .box TT9), (1, .box TT2), (1, .v (.int .i64)), (1, .v (.int .i64)), (0, .v .str)]) (K : Ex → List A → Option (DT3 × (DT1 × Unit))) : Option (DT3 × (DT1 × Unit)) :=
  entry_Read_p4 N x.1 x.2.1 x.2.2.1 x.2.2.2.1 x.2.2.2.2.1 x.2.2.2.2.2.1 x.2.2.2.2.2.2.1 x.2.2.2.2.2.2.2.1 x.2.2.2.2.2.2.2.2.1 (fun a1 a2 => (K .ret (mkS [(0, .box TT0), (7, .box TT9), (0, .v .bool)] 114 (x.1, a1, a2, ())))) (K .normal (mkS [(0, .box TT0), (0, .v (.int .i64)), (0, .v (.int .i64)), (0, .v (.int .i64)), (4, .box TT9), (1, .box TT2), (1, .v (.int .i64)), (1, .v (.int .i64)), (0, .v .str)] 108 (x.1, x.2.1, x.2.2.1, x.2.2.2.1, x.2.2.2.2.1, x.2.2.2.2.2.1, x.2.2.2.2.2.2.1, x.2.2.2.2.2.2.2.1, x.2.2.2.2.2.2.2.2.1, ())))

noncomputable def h4_46 (N : Nat) : Hd (DT3 × (DT1 × Unit)) := fun st K => (unS [(0, .box TT0), (0, .v (.int .i64)), (0, .v (.int .i64)), (0, .v (.int .i64)), (4, .box TT9), (1, .box TT2), (1, .v (.int .i64)), (1, .v (.int .i64)), (0, .v .str)] 108 (restr [14, 15, 12, 8, 0, 1, 3, 2, 10] 0 st)).bind fun x => g4_46 N x K

noncomputable def t4_46 (N : Nat) : Tab (DT3 × (DT1 × Unit)) := [([0, 0, 1, 1, 1, 1, 1, 1, 1], h5_46 N)]

theorem ok4_46 {N : Nat} {c : Ctx} (hb : Base Tryd.prog (E_46 N) c) : CodeOk Tryd.prog c (nodeAt body_46 [0, 1, 1, 1, 1, 1, 1, 1]) (h4_46 N) :=
  piece_ok (s := [(0, .box TT0), (0, .v (.int .i64)), (0, .v (.int .i64)), (0, .v (.int .i64)), (4, .box TT9), (1, .box TT2), (1, .v (.int .i64)), (1, .v (.int .i64)), (0, .v .str)]) (m := 108) (g := g4_46 N) [14, 15, 12, 8, 0, 1, 3, 2, 10] (evN_sound hb N (t4_46 N) L_46 body_46 (TabOk.cons (ok5_46 hb) TabOk.nil) [0, 1, 1, 1, 1, 1, 1, 1] _ rfl) (fun x K => by kernel_rfl)

noncomputable def entry_Read_p8 (N : Nat) (d : DT1) (from_ : Int) (gen : Int) (index : Int) (x8 : DT11) (head : DT6) (size : Int) (blocks : Int) (text : (List UInt8)) (f : DT6) (ok : Bool) (x68 : Int) (x69 : Int) (k0 : Bool → Option (DT3 × (DT1 × Unit))) : Option (DT3 × (DT1 × Unit)) :=
  cond (!ok)
  (k0 true)
  (cond (f.2.1 != (0 : Int))
    (k0 true)
    (k0 ((((List.length f.2.2.1) : Nat) : Int) != (if ((110 : Int) < (IntKind.wrap IntKind.i64 (size - (((List.length text) : Nat) : Int)))) then (110 : Int) else (IntKind.wrap IntKind.i64 (size - (((List.length text) : Nat) : Int)))))))

noncomputable def g8_46 (N : Nat) (x : denS [(0, .box TT0), (0, .v (.int .i64)), (0, .v (.int .i64)), (0, .v (.int .i64)), (4, .box TT9), (1, .box TT2), (1, .v (.int .i64)), (1, .v (.int .i64)), (0, .v .str), (1, .box TT2), (0, .v .bool), (49, .v (.int .i64)), (0, .v (.int .i64))]) (K : Ex → List A → Option (DT3 × (DT1 × Unit))) : Option (DT3 × (DT1 × Unit)) :=
  entry_Read_p8 N x.1 x.2.1 x.2.2.1 x.2.2.2.1 x.2.2.2.2.1 x.2.2.2.2.2.1 x.2.2.2.2.2.2.1 x.2.2.2.2.2.2.2.1 x.2.2.2.2.2.2.2.2.1 x.2.2.2.2.2.2.2.2.2.1 x.2.2.2.2.2.2.2.2.2.2.1 x.2.2.2.2.2.2.2.2.2.2.2.1 x.2.2.2.2.2.2.2.2.2.2.2.2.1 (fun a12 => (K .normal (mkS [(0, .box TT0), (0, .v (.int .i64)), (0, .v (.int .i64)), (0, .v (.int .i64)), (4, .box TT9), (1, .box TT2), (1, .v (.int .i64)), (1, .v (.int .i64)), (0, .v .str), (1, .box TT2), (50, .v (.int .i64)), (0, .v (.int .i64)), (35, .v .bool)] 18 (x.1, x.2.1, x.2.2.1, x.2.2.2.1, x.2.2.2.2.1, x.2.2.2.2.2.1, x.2.2.2.2.2.2.1, x.2.2.2.2.2.2.2.1, x.2.2.2.2.2.2.2.2.1, x.2.2.2.2.2.2.2.2.2.1, x.2.2.2.2.2.2.2.2.2.2.2.1, x.2.2.2.2.2.2.2.2.2.2.2.2.1, a12, ()))))

noncomputable def h8_46 (N : Nat) : Hd (DT3 × (DT1 × Unit)) := fun st K => (unS [(0, .box TT0), (0, .v (.int .i64)), (0, .v (.int .i64)), (0, .v (.int .i64)), (4, .box TT9), (1, .box TT2), (1, .v (.int .i64)), (1, .v (.int .i64)), (0, .v .str), (1, .box TT2), (0, .v .bool), (49, .v (.int .i64)), (0, .v (.int .i64))] 54 (restr [18, 17, 12, 15, 8, 0, 69, 68, 1, 3, 2, 10, 14] 0 st)).bind fun x => g8_46 N x K

noncomputable def t8_46 (N : Nat) : Tab (DT3 × (DT1 × Unit)) := []

theorem ok8_46 {N : Nat} {c : Ctx} (hb : Base Tryd.prog (E_46 N) c) : CodeOk Tryd.prog c (nodeAt body_46 [0, 0, 1, 1, 0, 0, 1, 1, 0, 0, 1, 0, 1, 1, 1, 1, 1, 1, 1, 1]) (h8_46 N) :=
  piece_ok (s := [(0, .box TT0), (0, .v (.int .i64)), (0, .v (.int .i64)), (0, .v (.int .i64)), (4, .box TT9), (1, .box TT2), (1, .v (.int .i64)), (1, .v (.int .i64)), (0, .v .str), (1, .box TT2), (0, .v .bool), (49, .v (.int .i64)), (0, .v (.int .i64))]) (m := 54) (g := g8_46 N) [18, 17, 12, 15, 8, 0, 69, 68, 1, 3, 2, 10, 14] (evN_sound hb N (t8_46 N) L_46 body_46 TabOk.nil [0, 0, 1, 1, 0, 0, 1, 1, 0, 0, 1, 0, 1, 1, 1, 1, 1, 1, 1, 1] _ rfl) (fun x K => by kernel_rfl)

noncomputable def entry_Read_p7 (N : Nat) (d : DT1) (from_ : Int) (gen : Int) (index : Int) (x8 : DT11) (head : DT6) (size : Int) (blocks : Int) (text : (List UInt8)) (f : DT6) (ok : Bool) (x68 : Int) (x69 : Int) (k0 : DT11 → Bool → Option (DT3 × (DT1 × Unit))) (k1 : Option (DT3 × (DT1 × Unit))) : Option (DT3 × (DT1 × Unit)) :=
  entry_Read_p8 N d from_ gen index x8 head size blocks text f ok x68 x69
  (fun x105 => cond x105
    (k0 ((0 : Int), (([] : List UInt8), ((0 : Int), ()))) false)
    (k1))

noncomputable def g7_46 (N : Nat) (x : denS [(0, .box TT0), (0, .v (.int .i64)), (0, .v (.int .i64)), (0, .v (.int .i64)), (4, .box TT9), (1, .box TT2), (1, .v (.int .i64)), (1, .v (.int .i64)), (0, .v .str), (1, .box TT2), (0, .v .bool), (49, .v (.int .i64)), (0, .v (.int .i64))]) (K : Ex → List A → Option (DT3 × (DT1 × Unit))) : Option (DT3 × (DT1 × Unit)) :=
  entry_Read_p7 N x.1 x.2.1 x.2.2.1 x.2.2.2.1 x.2.2.2.2.1 x.2.2.2.2.2.1 x.2.2.2.2.2.2.1 x.2.2.2.2.2.2.2.1 x.2.2.2.2.2.2.2.2.1 x.2.2.2.2.2.2.2.2.2.1 x.2.2.2.2.2.2.2.2.2.2.1 x.2.2.2.2.2.2.2.2.2.2.2.1 x.2.2.2.2.2.2.2.2.2.2.2.2.1 (fun a1 a2 => (K .ret (mkS [(0, .box TT0), (7, .box TT9), (0, .v .bool)] 114 (x.1, a1, a2, ())))) (K .normal (mkS [(0, .box TT0), (0, .v (.int .i64)), (0, .v (.int .i64)), (0, .v (.int .i64)), (4, .box TT9), (1, .box TT2), (1, .v (.int .i64)), (1, .v (.int .i64)), (0, .v .str), (1, .box TT2), (50, .v (.int .i64)), (0, .v (.int .i64))] 54 (x.1, x.2.1, x.2.2.1, x.2.2.2.1, x.2.2.2.2.1, x.2.2.2.2.2.1, x.2.2.2.2.2.2.1, x.2.2.2.2.2.2.2.1, x.2.2.2.2.2.2.2.2.1, x.2.2.2.2.2.2.2.2.2.1, x.2.2.2.2.2.2.2.2.2.2.2.1, x.2.2.2.2.2.2.2.2.2.2.2.2.1, ())))

noncomputable def h7_46 (N : Nat) : Hd (DT3 × (DT1 × Unit)) := fun st K => (unS [(0, .box TT0), (0, .v (.int .i64)), (0, .v (.int .i64)), (0, .v (.int .i64)), (4, .box TT9), (1, .box TT2), (1, .v (.int .i64)), (1, .v (.int .i64)), (0, .v .str), (1, .box TT2), (0, .v .bool), (49, .v (.int .i64)), (0, .v (.int .i64))] 54 (restr [18, 17, 12, 15, 8, 0, 69, 68, 1, 3, 2, 10, 14] 0 st)).bind fun x => g7_46 N x K

noncomputable def t7_46 (N : Nat) : Tab (DT3 × (DT1 × Unit)) := [([0, 0, 1, 1, 0, 0, 1, 1, 0, 0, 1, 0, 1, 1, 1, 1, 1, 1, 1, 1], h8_46 N)]

theorem ok7_46 {N : Nat} {c : Ctx} (hb : Base Tryd.prog (E_46 N) c) : CodeOk Tryd.prog c (nodeAt body_46 [0, 1, 1, 0, 0, 1, 1, 0, 0, 1, 0, 1, 1, 1, 1, 1, 1, 1, 1]) (h7_46 N) :=
  piece_ok (s := [(0, .box TT0), (0, .v (.int .i64)), (0, .v (.int .i64)), (0, .v (.int .i64)), (4, .box TT9), (1, .box TT2), (1, .v (.int .i64)), (1, .v (.int .i64)), (0, .v .str), (1, .box TT2), (0, .v .bool), (49, .v (.int .i64)), (0, .v (.int .i64))]) (m := 54) (g := g7_46 N) [18, 17, 12, 15, 8, 0, 69, 68, 1, 3, 2, 10, 14] (evN_sound hb N (t7_46 N) L_46 body_46 (TabOk.cons (ok8_46 hb) TabOk.nil) [0, 1, 1, 0, 0, 1, 1, 0, 0, 1, 0, 1, 1, 1, 1, 1, 1, 1, 1] _ rfl) (fun x K => by kernel_rfl)

noncomputable def entry_Read_s6 (N : Nat) (from_ : Int) (gen : Int) (index : Int) (x8 : DT11) (head : DT6) (size : Int) (blocks : Int) (x68 : Int) (d : DT1) (text : (List UInt8)) (x69 : Int) (rec : DT1 → (List UInt8) → Int → Option (DT3 × (DT1 × Unit))) (k0 : DT1 → DT11 → Bool → Option (DT3 × (DT1 × Unit))) (k1 : DT1 → (List UInt8) → Option (DT3 × (DT1 × Unit))) : Option (DT3 × (DT1 × Unit)) :=
  cond (decide (x69 < x68))
  ((entry_Mark N gen (IntKind.wrap IntKind.i64 ((IntKind.wrap IntKind.i64 (index + (1 : Int))) + x69)) false).bind fun y =>
    (entry_get N d from_ (IntKind.wrap IntKind.i64 ((IntKind.wrap IntKind.i64 (index + (1 : Int))) + x69)) y).bind fun y1 =>
    entry_Read_p7 N y1.2.1 from_ gen index x8 head size blocks text y1.1.1 y1.1.2.1 x68 x69
    (fun x81 x9 => k0 y1.2.1 x81 x9)
    (cond (decide (((List.length text) + (List.length y1.1.1.2.2.1)) ≤ 9223372036854775807))
      (rec y1.2.1 (text ++ y1.1.1.2.2.1) (IntKind.wrap IntKind.i64 (x69 + (1 : Int))))
      (none)))
  (k1 d text)

noncomputable def entry_Read_p6 (N : Nat) (d : DT1) (from_ : Int) (gen : Int) (index : Int) (x8 : DT11) (head : DT6) (size : Int) (blocks : Int) (text : (List UInt8)) (x68 : Int) (x69 : Int) (k0 : DT1 → DT11 → Bool → Option (DT3 × (DT1 × Unit))) (k1 : DT1 → (List UInt8) → Option (DT3 × (DT1 × Unit))) : Option (DT3 × (DT1 × Unit)) :=
  iter (fun (v : (DT1 × (List UInt8) × Int)) r => entry_Read_s6 N from_ gen index x8 head size blocks x68 v.1 v.2.1 v.2.2 (fun d text x69 => (r (d, text, x69))) k0 k1) N (d, text, x69)

noncomputable def g6_46 (N : Nat) (i : (Int × Int × Int × DT11 × DT6 × Int × Int × Int)) (v : (DT1 × (List UInt8) × Int)) (r : (DT1 × (List UInt8) × Int) → Option (DT3 × (DT1 × Unit))) (K : Ex → List A → Option (DT3 × (DT1 × Unit))) : Option (DT3 × (DT1 × Unit)) :=
  entry_Read_s6 N i.1 i.2.1 i.2.2.1 i.2.2.2.1 i.2.2.2.2.1 i.2.2.2.2.2.1 i.2.2.2.2.2.2.1 i.2.2.2.2.2.2.2 v.1 v.2.1 v.2.2 (fun d text x69 => (r (d, text, x69))) (fun a0 a1 a2 => (K .ret (mkS [(0, .box TT0), (7, .box TT9), (0, .v .bool)] 114 (a0, a1, a2, ())))) (fun a0 a4 => (K (.exit 2) (mkS [(0, .box TT0), (7, .box TT9), (1, .box TT2), (3, .v (.int .i64)), (0, .v .str)] 108 (a0, i.2.2.2.1, i.2.2.2.2.1, i.2.2.2.2.2.2.1, a4, ()))))

noncomputable def h6_46 (N : Nat) : Hd (DT3 × (DT1 × Unit)) := fun st K => (unS [(0, .box TT0), (0, .v (.int .i64)), (0, .v (.int .i64)), (0, .v (.int .i64)), (4, .box TT9), (1, .box TT2), (1, .v (.int .i64)), (1, .v (.int .i64)), (0, .v .str), (52, .v (.int .i64)), (0, .v (.int .i64))] 54 (restr [69, 68, 0, 1, 3, 2, 12, 15, 8, 10, 14] 0 st)).bind fun x => iter (fun v r => g6_46 N ((fun x => (x.2.1, x.2.2.1, x.2.2.2.1, x.2.2.2.2.1, x.2.2.2.2.2.1, x.2.2.2.2.2.2.1, x.2.2.2.2.2.2.2.1, x.2.2.2.2.2.2.2.2.2.1)) x) v r K) N ((fun x => (x.1, x.2.2.2.2.2.2.2.2.1, x.2.2.2.2.2.2.2.2.2.2.1)) x)

noncomputable def t6_46 (N : Nat) : Tab (DT3 × (DT1 × Unit)) := [([0, 1, 1, 0, 0, 1, 1, 0, 0, 1, 0, 1, 1, 1, 1, 1, 1, 1, 1], h7_46 N)]

theorem ok6_46 {N : Nat} {c : Ctx} (hb : Base Tryd.prog (E_46 N) c) : CodeOk Tryd.prog c (nodeAt body_46 [0, 1, 0, 1, 1, 1, 1, 1, 1, 1, 1]) (h6_46 N) :=
  loop_ok (s := [(0, .box TT0), (0, .v (.int .i64)), (0, .v (.int .i64)), (0, .v (.int .i64)), (4, .box TT9), (1, .box TT2), (1, .v (.int .i64)), (1, .v (.int .i64)), (0, .v .str), (52, .v (.int .i64)), (0, .v (.int .i64))]) (m := 54) (g6_46 N) [69, 68, 0, 1, 3, 2, 12, 15, 8, 10, 14] N (fun x => (x.2.1, x.2.2.1, x.2.2.2.1, x.2.2.2.2.1, x.2.2.2.2.2.1, x.2.2.2.2.2.2.1, x.2.2.2.2.2.2.2.1, x.2.2.2.2.2.2.2.2.2.1)) (fun x => (x.1, x.2.2.2.2.2.2.2.2.1, x.2.2.2.2.2.2.2.2.2.2.1)) (fun i v => (v.1, i.1, i.2.1, i.2.2.1, i.2.2.2.1, i.2.2.2.2.1, i.2.2.2.2.2.1, i.2.2.2.2.2.2.1, v.2.1, i.2.2.2.2.2.2.2, v.2.2, ())) (fun _ => rfl) (evN_sound hb N (t6_46 N) L_46 body_46 (TabOk.cons (ok7_46 hb) TabOk.nil) [0, 0, 1, 0, 1, 1, 1, 1, 1, 1, 1, 1] _ rfl) (fun i v r K => by kernel_rfl)

noncomputable def entry_Read (N : Nat) (d : DT1) (from_ : Int) (gen : Int) (index : Int) : Option (DT3 × (DT1 × Unit)) :=
  (entry_Mark N gen index true).bind fun y =>
  (entry_get N d from_ index y).bind fun y1 =>
  entry_Read_p1 N y1.2.1 from_ gen index ((0 : Int), (([] : List UInt8), ((0 : Int), ()))) y1.1.1 y1.1.2.1
  (fun x8 x9 => some ((x8, (x9, ())), (y1.2.1, ())))
  (entry_Read_p3 N y1.2.1 from_ gen index ((0 : Int), (([] : List UInt8), ((0 : Int), ()))) y1.1.1 (0 : Int) (0 : Int)
    (fun size => (entry_Blocks N size).bind fun y2 =>
      cond (decide (((0 : Int) ≤ (8 : Int)) ∧ ((8 : Int) ≤ (((List.length y1.1.1.2.2.1) : Nat) : Int))))
      (entry_Read_p4 N y1.2.1 from_ gen index ((0 : Int), (([] : List UInt8), ((0 : Int), ()))) y1.1.1 size y2 (cut y1.1.1.2.2.1 8 (List.length y1.1.1.2.2.1))
        (fun x81 x91 => some ((x81, (x91, ())), (y1.2.1, ())))
        (entry_Read_p6 N y1.2.1 from_ gen index ((0 : Int), (([] : List UInt8), ((0 : Int), ()))) y1.1.1 size y2 (cut y1.1.1.2.2.1 8 (List.length y1.1.1.2.2.1)) (IntKind.wrap IntKind.i64 (y2 - (1 : Int))) (0 : Int)
          (fun d1 x82 x92 => some ((x82, (x92, ())), (d1, ())))
          (fun d2 text => (entry_preface N text).bind fun y3 =>
            cond (decide (((0 : Int) ≤ (8 : Int)) ∧ ((8 : Int) ≤ (((List.length y1.1.1.2.2.1) : Nat) : Int))))
            (cond (!(y3 == (cut y1.1.1.2.2.1 0 8)))
              (some ((((0 : Int), (([] : List UInt8), ((0 : Int), ()))), (false, ())), (d2, ())))
              (some (((y1.1.1.2.1, (text, (y2, ()))), (true, ())), (d2, ()))))
            (none))))
      (none)))

noncomputable def t_46 (N : Nat) : Tab (DT3 × (DT1 × Unit)) := [([0, 1, 1], h1_46 N), ([0, 1, 0, 1, 1, 1, 1], h3_46 N), ([0, 1, 1, 1, 1, 1, 1, 1], h4_46 N), ([0, 1, 0, 1, 1, 1, 1, 1, 1, 1, 1], h6_46 N)]

theorem link_46 (N : Nat) (x : denS [(0, .box TT0), (0, .v (.int .i64)), (0, .v (.int .i64)), (0, .v (.int .i64))]) : evFX (E_46 N) N (t_46 N) L_46 Tryd.f16 (mkS [(0, .box TT0), (0, .v (.int .i64)), (0, .v (.int .i64)), (0, .v (.int .i64))] 0 x) (kResB (.tup [TT9, .bool]) [(0, .box TT0)] 3) = entry_Read N x.1 x.2.1 x.2.2.1 x.2.2.2.1 := by kernel_rfl

noncomputable def entry_Read_res (N : Nat) : List A → Res := resOf [(0, .box TT0), (0, .v (.int .i64)), (0, .v (.int .i64)), (0, .v (.int .i64))] (fun x => entry_Read N x.1 x.2.1 x.2.2.1 x.2.2.2.1) (oResB (.tup [TT9, .bool]) [(0, .box TT0)] 3)

theorem entry_Read_ct (N : Nat) : Contract Tryd.prog glob 16 (entry_Read_res N) :=
  Contract.of (E := E_46 N) (H := t_46 N) (L := L_46) (N := N) (body := body_46) (K := (kResB (.tup [TT9, .bool]) [(0, .box TT0)] 3)) (Eok_46 N) Tryd.func16 (by kernel_rfl) (by decide) (fun _ hb => (TabOk.cons (ok1_46 hb) (TabOk.cons (ok3_46 hb) (TabOk.cons (ok4_46 hb) (TabOk.cons (ok6_46 hb) TabOk.nil))))) (fun x y h => by rw [link_46]; exact h) (kResB_ok (s := (.tup [TT9, .bool])) (os := [(0, .box TT0)]) (m := 3))

noncomputable def body_47 : Code := (Tryd.f16.body).getD .skip

noncomputable def L_47 : List (List Nat × List Nat) := [([0], [0, 1, 3, 2, 8]), ([0, 1], [11, 10, 8, 0, 1, 3, 2]), ([0, 0, 1, 1], [36, 8, 10, 0, 1, 3, 2]), ([1, 0, 1, 1], [10, 8, 0, 1, 3, 2]), ([0, 0, 1, 0, 1, 1], [8, 9]), ([1, 0, 1, 0, 1, 1], [8, 9]), ([0, 1, 1, 1], [12, 10, 8, 0, 1, 3, 2]), ([0, 0, 1, 1, 1, 1], [38, 12, 10, 8, 0, 1, 3, 2]), ([0, 1, 0, 1, 1, 1, 1], [38, 12, 10, 8, 0, 1, 3, 2]), ([0, 0, 0, 1, 0, 1, 1, 1, 1], [39, 38, 12, 10, 8, 0, 1, 3, 2]), ([0, 1, 0, 0, 1, 0, 1, 1, 1, 1], [38, 12, 10, 8, 0, 1, 3, 2]), ([1, 0, 1, 0, 0, 1, 0, 1, 1, 1, 1], [12, 10, 8, 0, 1, 3, 2]), ([0, 0, 0, 1, 1, 0, 0, 1, 0, 1, 1, 1, 1], [12, 10, 13, 38, 8, 0, 1, 3, 2]), ([1, 0, 0, 1, 1, 0, 0, 1, 0, 1, 1, 1, 1], [38, 12, 10, 8, 0, 1, 3, 2]), ([0, 1, 1, 0, 0, 1, 0, 1, 1, 1, 1], [38, 12, 10, 8, 0, 1, 3, 2]), ([1, 1, 1, 0, 0, 1, 0, 1, 1, 1, 1], [38, 12, 10, 8, 0, 1, 3, 2]), ([1, 0, 1, 1, 1, 1], [12, 10, 8, 0, 1, 3, 2]), ([0, 1, 1, 1, 1, 1], [10, 14, 12, 8, 0, 1, 3, 2]), ([0, 1, 1, 1, 1, 1, 1], [14, 15, 12, 8, 0, 1, 3, 2, 10]), ([0, 0, 1, 1, 1, 1, 1, 1, 1], [65, 8, 14, 0, 1, 3, 2, 12, 15, 10]), ([1, 0, 1, 1, 1, 1, 1, 1, 1], [14, 0, 1, 3, 2, 12, 15, 8, 10]), ([0, 0, 1, 0, 1, 1, 1, 1, 1, 1, 1], [8, 9]), ([1, 0, 1, 0, 1, 1, 1, 1, 1, 1, 1], [8, 9]), ([0, 0, 1, 1, 1, 1, 1, 1, 1, 1], [69, 68, 0, 1, 3, 2, 12, 15, 8, 10, 14]), ([0, 1, 0, 1, 1, 1, 1, 1, 1, 1, 1], [69, 68, 0, 1, 3, 2, 12, 15, 8, 10, 14]), ([0, 0, 0, 1, 0, 1, 1, 1, 1, 1, 1, 1, 1], [70, 69, 0, 1, 3, 2, 12, 15, 8, 68, 10, 14]), ([0, 1, 0, 0, 1, 0, 1, 1, 1, 1, 1, 1, 1, 1], [69, 0, 1, 3, 2, 12, 15, 8, 68, 10, 14]), ([1, 0, 1, 0, 0, 1, 0, 1, 1, 1, 1, 1, 1, 1, 1], [15, 10, 8, 14]), ([0, 0, 0, 1, 1, 0, 0, 1, 0, 1, 1, 1, 1, 1, 1, 1, 1], [0, 1, 3, 16, 2, 12, 15, 8, 69, 68, 10, 14]), ([0, 1, 0, 0, 1, 1, 0, 0, 1, 0, 1, 1, 1, 1, 1, 1, 1, 1], [18, 17, 12, 15, 8, 69, 68, 0, 1, 3, 2, 10, 14]), ([0, 0, 1, 1, 0, 0, 1, 1, 0, 0, 1, 0, 1, 1, 1, 1, 1, 1, 1, 1], [105, 8, 15, 17, 69, 68, 0, 1, 3, 2, 12, 10, 14]), ([1, 0, 1, 1, 0, 0, 1, 1, 0, 0, 1, 0, 1, 1, 1, 1, 1, 1, 1, 1], [15, 17, 69, 68, 0, 1, 3, 2, 12, 8, 10, 14]), ([0, 0, 1, 0, 1, 1, 0, 0, 1, 1, 0, 0, 1, 0, 1, 1, 1, 1, 1, 1, 1, 1], [8, 9]), ([1, 0, 1, 0, 1, 1, 0, 0, 1, 1, 0, 0, 1, 0, 1, 1, 1, 1, 1, 1, 1, 1], [8, 9]), ([1, 1, 1, 0, 0, 1, 1, 0, 0, 1, 0, 1, 1, 1, 1, 1, 1, 1, 1], [69, 68, 0, 1, 3, 2, 12, 15, 8, 10, 14]), ([0, 1, 1, 0, 0, 1, 0, 1, 1, 1, 1, 1, 1, 1, 1], [69, 68, 0, 1, 3, 2, 12, 15, 8, 10, 14]), ([1, 1, 1, 0, 0, 1, 0, 1, 1, 1, 1, 1, 1, 1, 1], [69, 68, 0, 1, 3, 2, 12, 15, 8, 10, 14]), ([1, 0, 1, 1, 1, 1, 1, 1, 1, 1], [15, 10, 8, 14]), ([0, 0, 1, 1, 1, 1, 1, 1, 1, 1, 1], [117, 8, 10, 15, 14]), ([1, 0, 1, 1, 1, 1, 1, 1, 1, 1, 1], [10, 15, 14, 8]), ([0, 0, 1, 0, 1, 1, 1, 1, 1, 1, 1, 1, 1], [8, 9]), ([1, 0, 1, 0, 1, 1, 1, 1, 1, 1, 1, 1, 1], [8, 9]), ([0, 1, 1, 1, 1, 1, 1, 1, 1, 1, 1], [8, 9]), ([1, 1, 1, 1, 1, 1, 1, 1, 1, 1, 1], [8, 9])]

noncomputable def E_47 (N : Nat) : Env := mkEnv tys glob [(31, entry_get_nil_all N), (24, entry_preface_res N), (12, entry_Blocks_res N), (11, entry_Mark_res N)] [] [] [] false [] []

theorem Eok_47 (N : Nat) : EnvOk Tryd.prog (E_47 N) := mkEnv_ok mixed tys_ok (FnsOk.cons (entry_get_nil_allct N) (FnsOk.cons (entry_preface_ct N) (FnsOk.cons (entry_Blocks_ct N) (FnsOk.cons (entry_Mark_ct N) (FnsOk.nil))))) (ItsOk.nil)

noncomputable def entry_Read_nil_p2 (N : Nat) (from_ : Int) (gen : Int) (index : Int) (x8 : DT11) (head : DT6) (ok : Bool) (k0 : Bool → Option DT3) : Option DT3 :=
  cond (!ok)
  (k0 true)
  (k0 (decide ((((List.length head.2.2.1) : Nat) : Int) < (8 : Int))))

noncomputable def g2_47 (N : Nat) (x : denS [(0, .nilp), (0, .v (.int .i64)), (0, .v (.int .i64)), (0, .v (.int .i64)), (4, .box TT9), (1, .box TT2), (0, .v .bool)]) (K : Ex → List A → Option DT3) : Option DT3 :=
  entry_Read_nil_p2 N x.2.1 x.2.2.1 x.2.2.2.1 x.2.2.2.2.1 x.2.2.2.2.2.1 x.2.2.2.2.2.2.1 (fun a5 => (K .normal (mkS [(0, .nilp), (0, .v (.int .i64)), (0, .v (.int .i64)), (0, .v (.int .i64)), (4, .box TT9), (1, .box TT2), (25, .v .bool)] 87 ((), x.2.1, x.2.2.1, x.2.2.2.1, x.2.2.2.2.1, x.2.2.2.2.2.1, a5, ()))))

noncomputable def h2_47 (N : Nat) : Hd DT3 := fun st K => (unS [(0, .nilp), (0, .v (.int .i64)), (0, .v (.int .i64)), (0, .v (.int .i64)), (4, .box TT9), (1, .box TT2), (0, .v .bool)] 112 (restr [11, 10, 8, 0, 1, 3, 2] 0 st)).bind fun x => g2_47 N x K

noncomputable def t2_47 (N : Nat) : Tab DT3 := []

theorem ok2_47 {N : Nat} {c : Ctx} (hb : Base Tryd.prog (E_47 N) c) : CodeOk Tryd.prog c (nodeAt body_47 [0, 0, 1, 1]) (h2_47 N) :=
  piece_ok (s := [(0, .nilp), (0, .v (.int .i64)), (0, .v (.int .i64)), (0, .v (.int .i64)), (4, .box TT9), (1, .box TT2), (0, .v .bool)]) (m := 112) (g := g2_47 N) [11, 10, 8, 0, 1, 3, 2] (evN_sound hb N (t2_47 N) L_47 body_47 TabOk.nil [0, 0, 1, 1] _ rfl) (fun x K => by kernel_rfl)

noncomputable def entry_Read_nil_p1 (N : Nat) (from_ : Int) (gen : Int) (index : Int) (x8 : DT11) (head : DT6) (ok : Bool) (k0 : DT11 → Bool → Option DT3) (k1 : Option DT3) : Option DT3 :=
  entry_Read_nil_p2 N from_ gen index x8 head ok
  (fun x36 => cond x36
    (k0 ((0 : Int), (([] : List UInt8), ((0 : Int), ()))) false)
    (k1))

noncomputable def g1_47 (N : Nat) (x : denS [(0, .nilp), (0, .v (.int .i64)), (0, .v (.int .i64)), (0, .v (.int .i64)), (4, .box TT9), (1, .box TT2), (0, .v .bool)]) (K : Ex → List A → Option DT3) : Option DT3 :=
  entry_Read_nil_p1 N x.2.1 x.2.2.1 x.2.2.2.1 x.2.2.2.2.1 x.2.2.2.2.2.1 x.2.2.2.2.2.2.1 (fun a0 a1 => (K .ret (mkS [(8, .box TT9), (0, .v .bool)] 114 (a0, a1, ())))) (K .normal (mkS [(0, .nilp), (0, .v (.int .i64)), (0, .v (.int .i64)), (0, .v (.int .i64)), (4, .box TT9), (1, .box TT2)] 113 ((), x.2.1, x.2.2.1, x.2.2.2.1, x.2.2.2.2.1, x.2.2.2.2.2.1, ())))

noncomputable def h1_47 (N : Nat) : Hd DT3 := fun st K => (unS [(0, .nilp), (0, .v (.int .i64)), (0, .v (.int .i64)), (0, .v (.int .i64)), (4, .box TT9), (1, .box TT2), (0, .v .bool)] 112 (restr [11, 10, 8, 0, 1, 3, 2] 0 st)).bind fun x => g1_47 N x K

noncomputable def t1_47 (N : Nat) : Tab DT3 := [([0, 0, 1, 1], h2_47 N)]

theorem ok1_47 {N : Nat} {c : Ctx} (hb : Base Tryd.prog (E_47 N) c) : CodeOk Tryd.prog c (nodeAt body_47 [0, 1, 1]) (h1_47 N) :=
  piece_ok (s := [(0, .nilp), (0, .v (.int .i64)), (0, .v (.int .i64)), (0, .v (.int .i64)), (4, .box TT9), (1, .box TT2), (0, .v .bool)]) (m := 112) (g := g1_47 N) [11, 10, 8, 0, 1, 3, 2] (evN_sound hb N (t1_47 N) L_47 body_47 (TabOk.cons (ok2_47 hb) TabOk.nil) [0, 1, 1] _ rfl) (fun x K => by kernel_rfl)

noncomputable def entry_Read_nil_s3 (N : Nat) (from_ : Int) (gen : Int) (index : Int) (x8 : DT11) (head : DT6) (size : Int) (x38 : Int) (rec : Int → Int → Option DT3) (k0 : Int → Option DT3) : Option DT3 :=
  cond (decide (x38 < (4 : Int)))
  (cond (inR x38 (List.length head.2.2.1))
    (cond (decide ((0 : Int) ≤ (IntKind.wrap IntKind.i64 ((8 : Int) * x38))))
      (rec (bitsOp Go.BinOp.or IntKind.i64 size (shlI IntKind.i64 (IntKind.wrap IntKind.i64 (((UInt8.toNat (List.getD head.2.2.1 (Int.toNat x38) (0 : UInt8))) : Nat) : Int)) (IntKind.wrap IntKind.i64 ((8 : Int) * x38)))) (IntKind.wrap IntKind.i64 (x38 + (1 : Int))))
      (none))
    (none))
  (k0 size)

noncomputable def entry_Read_nil_p3 (N : Nat) (from_ : Int) (gen : Int) (index : Int) (x8 : DT11) (head : DT6) (size : Int) (x38 : Int) (k0 : Int → Option DT3) : Option DT3 :=
  iter (fun (v : (Int × Int)) r => entry_Read_nil_s3 N from_ gen index x8 head v.1 v.2 (fun size x38 => (r (size, x38))) k0) N (size, x38)

noncomputable def g3_47 (N : Nat) (i : (Int × Int × Int × DT11 × DT6)) (v : (Int × Int)) (r : (Int × Int) → Option DT3) (K : Ex → List A → Option DT3) : Option DT3 :=
  entry_Read_nil_s3 N i.1 i.2.1 i.2.2.1 i.2.2.2.1 i.2.2.2.2 v.1 v.2 (fun size x38 => (r (size, x38))) (fun a5 => (K (.exit 0) (mkS [(0, .nilp), (0, .v (.int .i64)), (0, .v (.int .i64)), (0, .v (.int .i64)), (4, .box TT9), (1, .box TT2), (1, .v (.int .i64))] 111 ((), i.1, i.2.1, i.2.2.1, i.2.2.2.1, i.2.2.2.2, a5, ()))))

noncomputable def h3_47 (N : Nat) : Hd DT3 := fun st K => (unS [(0, .nilp), (0, .v (.int .i64)), (0, .v (.int .i64)), (0, .v (.int .i64)), (4, .box TT9), (1, .box TT2), (1, .v (.int .i64)), (25, .v (.int .i64))] 85 (restr [38, 12, 10, 8, 0, 1, 3, 2] 0 st)).bind fun x => iter (fun v r => g3_47 N ((fun x => (x.2.1, x.2.2.1, x.2.2.2.1, x.2.2.2.2.1, x.2.2.2.2.2.1)) x) v r K) N ((fun x => (x.2.2.2.2.2.2.1, x.2.2.2.2.2.2.2.1)) x)

noncomputable def t3_47 (N : Nat) : Tab DT3 := []

theorem ok3_47 {N : Nat} {c : Ctx} (hb : Base Tryd.prog (E_47 N) c) : CodeOk Tryd.prog c (nodeAt body_47 [0, 1, 0, 1, 1, 1, 1]) (h3_47 N) :=
  loop_ok (s := [(0, .nilp), (0, .v (.int .i64)), (0, .v (.int .i64)), (0, .v (.int .i64)), (4, .box TT9), (1, .box TT2), (1, .v (.int .i64)), (25, .v (.int .i64))]) (m := 85) (g3_47 N) [38, 12, 10, 8, 0, 1, 3, 2] N (fun x => (x.2.1, x.2.2.1, x.2.2.2.1, x.2.2.2.2.1, x.2.2.2.2.2.1)) (fun x => (x.2.2.2.2.2.2.1, x.2.2.2.2.2.2.2.1)) (fun i v => ((), i.1, i.2.1, i.2.2.1, i.2.2.2.1, i.2.2.2.2, v.1, v.2, ())) (fun _ => rfl) (evN_sound hb N (t3_47 N) L_47 body_47 TabOk.nil [0, 0, 1, 0, 1, 1, 1, 1] _ rfl) (fun i v r K => by kernel_rfl)

noncomputable def entry_Read_nil_p5 (N : Nat) (from_ : Int) (gen : Int) (index : Int) (x8 : DT11) (head : DT6) (size : Int) (blocks : Int) (text : (List UInt8)) (k0 : Bool → Option DT3) : Option DT3 :=
  cond (blocks == (0 : Int))
  (k0 true)
  (k0 ((((List.length text) : Nat) : Int) != (if ((102 : Int) < size) then (102 : Int) else size)))

noncomputable def g5_47 (N : Nat) (x : denS [(0, .nilp), (0, .v (.int .i64)), (0, .v (.int .i64)), (0, .v (.int .i64)), (4, .box TT9), (1, .box TT2), (1, .v (.int .i64)), (1, .v (.int .i64)), (0, .v .str)]) (K : Ex → List A → Option DT3) : Option DT3 :=
  entry_Read_nil_p5 N x.2.1 x.2.2.1 x.2.2.2.1 x.2.2.2.2.1 x.2.2.2.2.2.1 x.2.2.2.2.2.2.1 x.2.2.2.2.2.2.2.1 x.2.2.2.2.2.2.2.2.1 (fun a8 => (K .normal (mkS [(0, .nilp), (0, .v (.int .i64)), (0, .v (.int .i64)), (0, .v (.int .i64)), (4, .box TT9), (1, .box TT2), (1, .v (.int .i64)), (1, .v (.int .i64)), (0, .v .str), (49, .v .bool)] 58 ((), x.2.1, x.2.2.1, x.2.2.2.1, x.2.2.2.2.1, x.2.2.2.2.2.1, x.2.2.2.2.2.2.1, x.2.2.2.2.2.2.2.1, x.2.2.2.2.2.2.2.2.1, a8, ()))))

noncomputable def h5_47 (N : Nat) : Hd DT3 := fun st K => (unS [(0, .nilp), (0, .v (.int .i64)), (0, .v (.int .i64)), (0, .v (.int .i64)), (4, .box TT9), (1, .box TT2), (1, .v (.int .i64)), (1, .v (.int .i64)), (0, .v .str)] 108 (restr [14, 15, 12, 8, 0, 1, 3, 2, 10] 0 st)).bind fun x => g5_47 N x K

noncomputable def t5_47 (N : Nat) : Tab DT3 := []

theorem ok5_47 {N : Nat} {c : Ctx} (hb : Base Tryd.prog (E_47 N) c) : CodeOk Tryd.prog c (nodeAt body_47 [0, 0, 1, 1, 1, 1, 1, 1, 1]) (h5_47 N) :=
  piece_ok (s := [(0, .nilp), (0, .v (.int .i64)), (0, .v (.int .i64)), (0, .v (.int .i64)), (4, .box TT9), (1, .box TT2), (1, .v (.int .i64)), (1, .v (.int .i64)), (0, .v .str)]) (m := 108) (g := g5_47 N) [14, 15, 12, 8, 0, 1, 3, 2, 10] (evN_sound hb N (t5_47 N) L_47 body_47 TabOk.nil [0, 0, 1, 1, 1, 1, 1, 1, 1] _ rfl) (fun x K => by kernel_rfl)

noncomputable def entry_Read_nil_p4 (N : Nat) (from_ : Int) (gen : Int) (index : Int) (x8 : DT11) (head : DT6) (size : Int) (blocks : Int) (text : (List UInt8)) (k0 : DT11 → Bool → Option DT3) (k1 : Option DT3) : Option DT3 :=
  entry_Read_nil_p5 N from_ gen index x8 head size blocks text
  (fun x65 => cond x65
    (k0 ((0 : Int), (([] : List UInt8), ((0 : Int), ()))) false)
    (k1))

noncomputable def g4_47 (N : Nat) (x : denS [(0, .nilp), (0, .v (.int .i64)), (0, .v (.int .i64)), (0, .v (.int .i64)), (4, .box TT9), (1, .box TT2), (1, .v (.int .i64)), (1, .v (.int .i64)), (0, .v .str)]) (K : Ex → List A → Option DT3) : Option DT3 :=
  entry_Read_nil_p4 N x.2.1 x.2.2.1 x.2.2.2.1 x.2.2.2.2.1 x.2.2.2.2.2.1 x.2.2.2.2.2.2.1 x.2.2.2.2.2.2.2.1 x.2.2.2.2.2.2.2.2.1 (fun a0 a1 => (K .ret (mkS [(8, .box TT9), (0, .v .bool)] 114 (a0, a1, ())))) (K .normal (mkS [(0, .nilp), (0, .v (.int .i64)), (0, .v (.int .i64)), (0, .v (.int .i64)), (4, .box TT9), (1, .box TT2), (1, .v (.int .i64)), (1, .v (.int .i64)), (0, .v .str)] 108 ((), x.2.1, x.2.2.1, x.2.2.2.1, x.2.2.2.2.1, x.2.2.2.2.2.1, x.2.2.2.2.2.2.1, x.2.2.2.2.2.2.2.1, x.2.2.2.2.2.2.2.2.1, ())))

noncomputable def h4_47 (N : Nat) : Hd DT3 := fun st K => (unS [(0, .nilp), (0, .v (.int .i64)), (0, .v (.int .i64)), (0, .v (.int .i64)), (4, .box TT9), (1, .box TT2), (1, .v (.int .i64)), (1, .v (.int .i64)), (0, .v .str)] 108 (restr [14, 15, 12, 8, 0, 1, 3, 2, 10] 0 st)).bind fun x => g4_47 N x K

noncomputable def t4_47 (N : Nat) : Tab DT3 := [([0, 0, 1, 1, 1, 1, 1, 1, 1], h5_47 N)]

theorem ok4_47 {N : Nat} {c : Ctx} (hb : Base Tryd.prog (E_47 N) c) : CodeOk Tryd.prog c (nodeAt body_47 [0, 1, 1, 1, 1, 1, 1, 1]) (h4_47 N) :=
  piece_ok (s := [(0, .nilp), (0, .v (.int .i64)), (0, .v (.int .i64)), (0, .v (.int .i64)), (4, .box TT9), (1, .box TT2), (1, .v (.int .i64)), (1, .v (.int .i64)), (0, .v .str)]) (m := 108) (g := g4_47 N) [14, 15, 12, 8, 0, 1, 3, 2, 10] (evN_sound hb N (t4_47 N) L_47 body_47 (TabOk.cons (ok5_47 hb) TabOk.nil) [0, 1, 1, 1, 1, 1, 1, 1] _ rfl) (fun x K => by kernel_rfl)

noncomputable def entry_Read_nil_p8 (N : Nat) (from_ : Int) (gen : Int) (index : Int) (x8 : DT11) (head : DT6) (size : Int) (blocks : Int) (text : (List UInt8)) (f : DT6) (ok : Bool) (x68 : Int) (x69 : Int) (k0 : Bool → Option DT3) : Option DT3 :=
  cond (!ok)
  (k0 true)
  (cond (f.2.1 != (0 : Int))
    (k0 true)
    (k0 ((((List.length f.2.2.1) : Nat) : Int) != (if ((110 : Int) < (IntKind.wrap IntKind.i64 (size - (((List.length text) : Nat) : Int)))) then (110 : Int) else (IntKind.wrap IntKind.i64 (size - (((List.length text) : Nat) : Int)))))))

noncomputable def g8_47 (N : Nat) (x : denS [(0, .nilp), (0, .v (.int .i64)), (0, .v (.int .i64)), (0, .v (.int .i64)), (4, .box TT9), (1, .box TT2), (1, .v (.int .i64)), (1, .v (.int .i64)), (0, .v .str), (1, .box TT2), (0, .v .bool), (49, .v (.int .i64)), (0, .v (.int .i64))]) (K : Ex → List A → Option DT3) : Option DT3 :=
  entry_Read_nil_p8 N x.2.1 x.2.2.1 x.2.2.2.1 x.2.2.2.2.1 x.2.2.2.2.2.1 x.2.2.2.2.2.2.1 x.2.2.2.2.2.2.2.1 x.2.2.2.2.2.2.2.2.1 x.2.2.2.2.2.2.2.2.2.1 x.2.2.2.2.2.2.2.2.2.2.1 x.2.2.2.2.2.2.2.2.2.2.2.1 x.2.2.2.2.2.2.2.2.2.2.2.2.1 (fun a11 => (K .normal (mkS [(0, .nilp), (0, .v (.int .i64)), (0, .v (.int .i64)), (0, .v (.int .i64)), (4, .box TT9), (1, .box TT2), (1, .v (.int .i64)), (1, .v (.int .i64)), (0, .v .str), (1, .box TT2), (50, .v (.int .i64)), (0, .v (.int .i64)), (35, .v .bool)] 18 ((), x.2.1, x.2.2.1, x.2.2.2.1, x.2.2.2.2.1, x.2.2.2.2.2.1, x.2.2.2.2.2.2.1, x.2.2.2.2.2.2.2.1, x.2.2.2.2.2.2.2.2.1, x.2.2.2.2.2.2.2.2.2.1, x.2.2.2.2.2.2.2.2.2.2.2.1, x.2.2.2.2.2.2.2.2.2.2.2.2.1, a11, ()))))

noncomputable def h8_47 (N : Nat) : Hd DT3 := fun st K => (unS [(0, .nilp), (0, .v (.int .i64)), (0, .v (.int .i64)), (0, .v (.int .i64)), (4, .box TT9), (1, .box TT2), (1, .v (.int .i64)), (1, .v (.int .i64)), (0, .v .str), (1, .box TT2), (0, .v .bool), (49, .v (.int .i64)), (0, .v (.int .i64))] 54 (restr [18, 17, 12, 15, 8, 69, 68, 0, 1, 3, 2, 10, 14] 0 st)).bind fun x => g8_47 N x K

noncomputable def t8_47 (N : Nat) : Tab DT3 := []

theorem ok8_47 {N : Nat} {c : Ctx} (hb : Base Tryd.prog (E_47 N) c) : CodeOk Tryd.prog c (nodeAt body_47 [0, 0, 1, 1, 0, 0, 1, 1, 0, 0, 1, 0, 1, 1, 1, 1, 1, 1, 1, 1]) (h8_47 N) :=
  piece_ok (s := [(0, .nilp), (0, .v (.int .i64)), (0, .v (.int .i64)), (0, .v (.int .i64)), (4, .box TT9), (1, .box TT2), (1, .v (.int .i64)), (1, .v (.int .i64)), (0, .v .str), (1, .box TT2), (0, .v .bool), (49, .v (.int .i64)), (0, .v (.int .i64))]) (m := 54) (g := g8_47 N) [18, 17, 12, 15, 8, 69, 68, 0, 1, 3, 2, 10, 14] (evN_sound hb N (t8_47 N) L_47 body_47 TabOk.nil [0, 0, 1, 1, 0, 0, 1, 1, 0, 0, 1, 0, 1, 1, 1, 1, 1, 1, 1, 1] _ rfl) (fun x K => by kernel_rfl)

noncomputable def entry_Read_nil_p7 (N : Nat) (from_ : Int) (gen : Int) (index : Int) (x8 : DT11) (head : DT6) (size : Int) (blocks : Int) (text : (List UInt8)) (f : DT6) (ok : Bool) (x68 : Int) (x69 : Int) (k0 : DT11 → Bool → Option DT3) (k1 : Option DT3) : Option DT3 :=
  entry_Read_nil_p8 N from_ gen index x8 head size blocks text f ok x68 x69
  (fun x105 => cond x105
    (k0 ((0 : Int), (([] : List UInt8), ((0 : Int), ()))) false)
    (k1))

noncomputable def g7_47 (N : Nat) (x : denS [(0, .nilp), (0, .v (.int .i64)), (0, .v (.int .i64)), (0, .v (.int .i64)), (4, .box TT9), (1, .box TT2), (1, .v (.int .i64)), (1, .v (.int .i64)), (0, .v .str), (1, .box TT2), (0, .v .bool), (49, .v (.int .i64)), (0, .v (.int .i64))]) (K : Ex → List A → Option DT3) : Option DT3 :=
  entry_Read_nil_p7 N x.2.1 x.2.2.1 x.2.2.2.1 x.2.2.2.2.1 x.2.2.2.2.2.1 x.2.2.2.2.2.2.1 x.2.2.2.2.2.2.2.1 x.2.2.2.2.2.2.2.2.1 x.2.2.2.2.2.2.2.2.2.1 x.2.2.2.2.2.2.2.2.2.2.1 x.2.2.2.2.2.2.2.2.2.2.2.1 x.2.2.2.2.2.2.2.2.2.2.2.2.1 (fun a0 a1 => (K .ret (mkS [(8, .box TT9), (0, .v .bool)] 114 (a0, a1, ())))) (K .normal (mkS [(0, .nilp), (0, .v (.int .i64)), (0, .v (.int .i64)), (0, .v (.int .i64)), (4, .box TT9), (1, .box TT2), (1, .v (.int .i64)), (1, .v (.int .i64)), (0, .v .str), (1, .box TT2), (50, .v (.int .i64)), (0, .v (.int .i64))] 54 ((), x.2.1, x.2.2.1, x.2.2.2.1, x.2.2.2.2.1, x.2.2.2.2.2.1, x.2.2.2.2.2.2.1, x.2.2.2.2.2.2.2.1, x.2.2.2.2.2.2.2.2.1, x.2.2.2.2.2.2.2.2.2.1, x.2.2.2.2.2.2.2.2.2.2.2.1, x.2.2.2.2.2.2.2.2.2.2.2.2.1, ())))

noncomputable def h7_47 (N : Nat) : Hd DT3 := fun st K => (unS [(0, .nilp), (0, .v (.int .i64)), (0, .v (.int .i64)), (0, .v (.int .i64)), (4, .box TT9), (1, .box TT2), (1, .v (.int .i64)), (1, .v (.int .i64)), (0, .v .str), (1, .box TT2), (0, .v .bool), (49, .v (.int .i64)), (0, .v (.int .i64))] 54 (restr [18, 17, 12, 15, 8, 69, 68, 0, 1, 3, 2, 10, 14] 0 st)).bind fun x => g7_47 N x K

noncomputable def t7_47 (N : Nat) : Tab DT3 := [([0, 0, 1, 1, 0, 0, 1, 1, 0, 0, 1, 0, 1, 1, 1, 1, 1, 1, 1, 1], h8_47 N)]

theorem ok7_47 {N : Nat} {c : Ctx} (hb : Base Tryd.prog (E_47 N) c) : CodeOk Tryd.prog c (nodeAt body_47 [0, 1, 1, 0, 0, 1, 1, 0, 0, 1, 0, 1, 1, 1, 1, 1, 1, 1, 1]) (h7_47 N) :=
  piece_ok (s := [(0, .nilp), (0, .v (.int .i64)), (0, .v (.int .i64)), (0, .v (.int .i64)), (4, .box TT9), (1, .box TT2), (1, .v (.int .i64)), (1, .v (.int .i64)), (0, .v .str), (1, .box TT2), (0, .v .bool), (49, .v (.int .i64)), (0, .v (.int .i64))]) (m := 54) (g := g7_47 N) [18, 17, 12, 15, 8, 69, 68, 0, 1, 3, 2, 10, 14] (evN_sound hb N (t7_47 N) L_47 body_47 (TabOk.cons (ok8_47 hb) TabOk.nil) [0, 1, 1, 0, 0, 1, 1, 0, 0, 1, 0, 1, 1, 1, 1, 1, 1, 1, 1] _ rfl) (fun x K => by kernel_rfl)

noncomputable def entry_Read_nil_s6 (N : Nat) (from_ : Int) (gen : Int) (index : Int) (x8 : DT11) (head : DT6) (size : Int) (blocks : Int) (x68 : Int) (text : (List UInt8)) (x69 : Int) (rec : (List UInt8) → Int → Option DT3) (k0 : DT11 → Bool → Option DT3) (k1 : (List UInt8) → Option DT3) : Option DT3 :=
  cond (decide (x69 < x68))
  ((entry_Mark N gen (IntKind.wrap IntKind.i64 ((IntKind.wrap IntKind.i64 (index + (1 : Int))) + x69)) false).bind fun y =>
    (entry_get_nil N from_ (IntKind.wrap IntKind.i64 ((IntKind.wrap IntKind.i64 (index + (1 : Int))) + x69)) y).bind fun y1 =>
    entry_Read_nil_p7 N from_ gen index x8 head size blocks text y1.1 y1.2.1 x68 x69
    (fun x81 x9 => k0 x81 x9)
    (cond (decide (((List.length text) + (List.length y1.1.2.2.1)) ≤ 9223372036854775807))
      (rec (text ++ y1.1.2.2.1) (IntKind.wrap IntKind.i64 (x69 + (1 : Int))))
      (none)))
  (k1 text)

noncomputable def entry_Read_nil_p6 (N : Nat) (from_ : Int) (gen : Int) (index : Int) (x8 : DT11) (head : DT6) (size : Int) (blocks : Int) (text : (List UInt8)) (x68 : Int) (x69 : Int) (k0 : DT11 → Bool → Option DT3) (k1 : (List UInt8) → Option DT3) : Option DT3 :=
  iter (fun (v : ((List UInt8) × Int)) r => entry_Read_nil_s6 N from_ gen index x8 head size blocks x68 v.1 v.2 (fun text x69 => (r (text, x69))) k0 k1) N (text, x69)

end Go.Proofs.YtpmoinpamdbnhaaDoorLg

