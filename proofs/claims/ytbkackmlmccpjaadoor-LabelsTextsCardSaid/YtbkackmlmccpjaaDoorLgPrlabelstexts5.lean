import Derived.Test.YtbkackmlmccpjaaDoorLgW
import Derived.Test.YtbkackmlmccpjaaDoorChecked
import Derived.Lib.Builder
import Derived.Lib.UnsafeStr
import Derived.Lib.Walk
import Derived.WalkKit
import Derived.Laws.Externs
import Derived.KernelRfl
import Derived.Shelf.RegionOpenPlain
import Derived.Lib.AppendStr
import Derived.Lib.Strings
import Derived.Laws.Rows
import Derived.Laws.Tables
import Derived.Test.YtbkackmlmccpjaaDoorLgPrlabelstexts3
import Derived.Test.YtbkackmlmccpjaaDoorLgPrlabelstexts4
import Derived.Tactics
import Derived.Tactics2
import Derived.Defers
import Derived.Lib.Hide
import Derived.Below
import Derived.Recover
import Derived.Orders
import Derived.WalkSmall
import Derived.LoopN
import Derived.Deep.RegionHeld3
import Derived.Laws.IdiomStrings
set_option linter.all false
set_option maxRecDepth 100000
namespace Go.Proofs.YtbkackmlmccpjaaDoorLg
open Go Go.Lift

abbrev DT0 : Type := (List ((List UInt8) × ((List UInt8) × Unit)))

abbrev TT1 : T := (.pair .str (.pair .str .unit))

abbrev TT2 : T := (.pair (.int .i64) (.pair (.int .i64) .unit))

abbrev DT3 : Type := (DT0 × Int × (Int × (Int × Unit)) × Unit)

abbrev DT4 : Type := ((List UInt8) × Int × (Int × (Int × Unit)) × Unit)

abbrev DT5 : Type := ((List UInt8) × ((List UInt8) × Unit))

abbrev DT6 : Type := ((List UInt8) × Int × Unit)

noncomputable def ty3 : TyI := ⟨(Go.TypeDesc.int IntKind.i64), 1, 8, (.int .i64), (0 : Int), false⟩

theorem ty3_ok : TyOk Tryd.prog 3 ty3 := TyOk.of (by kernel_rfl) (by kernel_rfl) (by kernel_rfl) (by kernel_rfl)

noncomputable def ty4 : TyI := ⟨Go.TypeDesc.bool, 1, 1, .bool, false, false⟩

theorem ty4_ok : TyOk Tryd.prog 4 ty4 := TyOk.of (by kernel_rfl) (by kernel_rfl) (by kernel_rfl) (by kernel_rfl)

noncomputable def ty5 : TyI := ⟨(Go.TypeDesc.int IntKind.u8), 1, 1, (.int .u8), (0 : Int), false⟩

theorem ty5_ok : TyOk Tryd.prog 5 ty5 := TyOk.of (by kernel_rfl) (by kernel_rfl) (by kernel_rfl) (by kernel_rfl)

noncomputable def ty9 : TyI := ⟨Go.TypeDesc.string, 1, 16, .str, ([] : List UInt8), false⟩

theorem ty9_ok : TyOk Tryd.prog 9 ty9 := TyOk.of (by kernel_rfl) (by kernel_rfl) (by kernel_rfl) (by kernel_rfl)

noncomputable def ty21 : TyI := ⟨(Go.TypeDesc.int IntKind.i32), 1, 4, (.int .i32), (0 : Int), false⟩

theorem ty21_ok : TyOk Tryd.prog 21 ty21 := TyOk.of (by kernel_rfl) (by kernel_rfl) (by kernel_rfl) (by kernel_rfl)

noncomputable def ty22 : TyI := ⟨(Go.TypeDesc.slice 42), 1, 24, (.sl TT1), ([] : List DT5), false⟩

theorem ty22_ok : TyOk Tryd.prog 22 ty22 := TyOk.of (by kernel_rfl) (by kernel_rfl) (by kernel_rfl) (by kernel_rfl)

noncomputable def ty25 : TyI := ⟨(Go.TypeDesc.int IntKind.i64), 1, 8, (.int .i64), (0 : Int), false⟩

theorem ty25_ok : TyOk Tryd.prog 25 ty25 := TyOk.of (by kernel_rfl) (by kernel_rfl) (by kernel_rfl) (by kernel_rfl)

noncomputable def ty33 : TyI := ⟨(Go.TypeDesc.struct (List.toArray ([(Go.Field.mk "E" 25 0 false "" "" 0), (Go.Field.mk "At" 3 1 false "" "" 8)] : List Go.Field))), 2, 16, TT2, ((0 : Int), (0 : Int), ()), true⟩

theorem ty33_ok : TyOk Tryd.prog 33 ty33 := TyOk.of (by kernel_rfl) (by kernel_rfl) (by kernel_rfl) (by kernel_rfl)

noncomputable def ty42 : TyI := ⟨(Go.TypeDesc.struct (List.toArray ([(Go.Field.mk "Name" 9 0 false "" "" 0), (Go.Field.mk "Value" 9 1 false "" "" 16)] : List Go.Field))), 2, 32, TT1, (([] : List UInt8), ([] : List UInt8), ()), true⟩

theorem ty42_ok : TyOk Tryd.prog 42 ty42 := TyOk.of (by kernel_rfl) (by kernel_rfl) (by kernel_rfl) (by kernel_rfl)

noncomputable def ty43 : TyI := ⟨(Go.TypeDesc.map 9 3), 1, 8, .opq, (Go.Value.map none), false⟩

theorem ty43_ok : TyOk Tryd.prog 43 ty43 := TyOk.of (by kernel_rfl) (by kernel_rfl) (by kernel_rfl) (by kernel_rfl)

noncomputable def ty45 : TyI := ⟨(Go.TypeDesc.slice 9), 1, 24, (.sl .str), ([] : List (List UInt8)), false⟩

theorem ty45_ok : TyOk Tryd.prog 45 ty45 := TyOk.of (by kernel_rfl) (by kernel_rfl) (by kernel_rfl) (by kernel_rfl)

noncomputable def ty48 : TyI := ⟨(Go.TypeDesc.func (List.toArray ([50] : List Nat)) (List.toArray ([] : List Nat)) false), 1, 8, .opq, Go.Value.nilFunc, false⟩

theorem ty48_ok : TyOk Tryd.prog 48 ty48 := TyOk.of (by kernel_rfl) (by kernel_rfl) (by kernel_rfl) (by kernel_rfl)

noncomputable def ty50 : TyI := ⟨(Go.TypeDesc.func (List.toArray ([9] : List Nat)) (List.toArray ([4] : List Nat)) false), 1, 8, .opq, Go.Value.nilFunc, false⟩

theorem ty50_ok : TyOk Tryd.prog 50 ty50 := TyOk.of (by kernel_rfl) (by kernel_rfl) (by kernel_rfl) (by kernel_rfl)

noncomputable def ty65 : TyI := ⟨(Go.TypeDesc.slice 5), 1, 24, (.sl (.int .u8)), ([] : List Int), false⟩

theorem ty65_ok : TyOk Tryd.prog 65 ty65 := TyOk.of (by kernel_rfl) (by kernel_rfl) (by kernel_rfl) (by kernel_rfl)

noncomputable def ty70 : TyI := ⟨(Go.TypeDesc.int IntKind.u64), 1, 8, (.int .u64), (0 : Int), false⟩

theorem ty70_ok : TyOk Tryd.prog 70 ty70 := TyOk.of (by kernel_rfl) (by kernel_rfl) (by kernel_rfl) (by kernel_rfl)

noncomputable def ty71 : TyI := ⟨(Go.TypeDesc.pointer 73), 1, 8, .opq, (Go.Value.pointer none), false⟩

theorem ty71_ok : TyOk Tryd.prog 71 ty71 := TyOk.of (by kernel_rfl) (by kernel_rfl) (by kernel_rfl) (by kernel_rfl)

noncomputable def ty73 : TyI := ⟨(Go.TypeDesc.struct (List.toArray ([(Go.Field.mk "addr" 71 0 false "" "strings" 0), (Go.Field.mk "buf" 65 1 false "" "strings" 8)] : List Go.Field))), 2, 32, (.pair .opq (.pair (.sl (.int .u8)) .unit)), ((Go.Value.pointer none), ([] : List Int), ()), true⟩

theorem ty73_ok : TyOk Tryd.prog 73 ty73 := TyOk.of (by kernel_rfl) (by kernel_rfl) (by kernel_rfl) (by kernel_rfl)

noncomputable def ty76 : TyI := ⟨(Go.TypeDesc.interface (List.toArray ([("Error", 79)] : List (String × Nat)))), 1, 16, .opq, Go.Value.nilIface, false⟩

theorem ty76_ok : TyOk Tryd.prog 76 ty76 := TyOk.of (by kernel_rfl) (by kernel_rfl) (by kernel_rfl) (by kernel_rfl)

noncomputable def ty81 : TyI := ⟨(Go.TypeDesc.func (List.toArray ([21, 4] : List Nat)) (List.toArray ([4] : List Nat)) false), 1, 8, .opq, Go.Value.nilFunc, false⟩

theorem ty81_ok : TyOk Tryd.prog 81 ty81 := TyOk.of (by kernel_rfl) (by kernel_rfl) (by kernel_rfl) (by kernel_rfl)

noncomputable def ty93 : TyI := ⟨(Go.TypeDesc.int IntKind.i64), 1, 8, (.int .i64), (0 : Int), false⟩

theorem ty93_ok : TyOk Tryd.prog 93 ty93 := TyOk.of (by kernel_rfl) (by kernel_rfl) (by kernel_rfl) (by kernel_rfl)

noncomputable def ty102 : TyI := ⟨(Go.TypeDesc.int IntKind.u32), 1, 4, (.int .u32), (0 : Int), false⟩

theorem ty102_ok : TyOk Tryd.prog 102 ty102 := TyOk.of (by kernel_rfl) (by kernel_rfl) (by kernel_rfl) (by kernel_rfl)

noncomputable def ty104 : TyI := ⟨(Go.TypeDesc.int IntKind.u64), 1, 8, (.int .u64), (0 : Int), false⟩

theorem ty104_ok : TyOk Tryd.prog 104 ty104 := TyOk.of (by kernel_rfl) (by kernel_rfl) (by kernel_rfl) (by kernel_rfl)

noncomputable def ty108 : TyI := ⟨(Go.TypeDesc.int IntKind.u64), 1, 8, (.int .u64), (0 : Int), false⟩

theorem ty108_ok : TyOk Tryd.prog 108 ty108 := TyOk.of (by kernel_rfl) (by kernel_rfl) (by kernel_rfl) (by kernel_rfl)

noncomputable def ty112 : TyI := ⟨(Go.TypeDesc.pointer 3), 1, 8, .opq, (Go.Value.pointer none), false⟩

theorem ty112_ok : TyOk Tryd.prog 112 ty112 := TyOk.of (by kernel_rfl) (by kernel_rfl) (by kernel_rfl) (by kernel_rfl)

noncomputable def ty116 : TyI := ⟨(Go.TypeDesc.array 256 5), 256, 256, (.arr 256 (.int .u8)), ((0 : Int) :: (0 : Int) :: (0 : Int) :: (0 : Int) :: (0 : Int) :: (0 : Int) :: (0 : Int) :: (0 : Int) :: (0 : Int) :: (0 : Int) :: (0 : Int) :: (0 : Int) :: (0 : Int) :: (0 : Int) :: (0 : Int) :: (0 : Int) :: (0 : Int) :: (0 : Int) :: (0 : Int) :: (0 : Int) :: (0 : Int) :: (0 : Int) :: (0 : Int) :: (0 : Int) :: (0 : Int) :: (0 : Int) :: (0 : Int) :: (0 : Int) :: (0 : Int) :: (0 : Int) :: (0 : Int) :: (0 : Int) :: (0 : Int) :: (0 : Int) :: (0 : Int) :: (0 : Int) :: (0 : Int) :: (0 : Int) :: (0 : Int) :: (0 : Int) :: (0 : Int) :: (0 : Int) :: (0 : Int) :: (0 : Int) :: (0 : Int) :: (0 : Int) :: (0 : Int) :: (0 : Int) :: (0 : Int) :: (0 : Int) :: (0 : Int) :: (0 : Int) :: (0 : Int) :: (0 : Int) :: (0 : Int) :: (0 : Int) :: (0 : Int) :: (0 : Int) :: (0 : Int) :: (0 : Int) :: (0 : Int) :: (0 : Int) :: (0 : Int) :: (0 : Int) :: (0 : Int) :: (0 : Int) :: (0 : Int) :: (0 : Int) :: (0 : Int) :: (0 : Int) :: (0 : Int) :: (0 : Int) :: (0 : Int) :: (0 : Int) :: (0 : Int) :: (0 : Int) :: (0 : Int) :: (0 : Int) :: (0 : Int) :: (0 : Int) :: (0 : Int) :: (0 : Int) :: (0 : Int) :: (0 : Int) :: (0 : Int) :: (0 : Int) :: (0 : Int) :: (0 : Int) :: (0 : Int) :: (0 : Int) :: (0 : Int) :: (0 : Int) :: (0 : Int) :: (0 : Int) :: (0 : Int) :: (0 : Int) :: (0 : Int) :: (0 : Int) :: (0 : Int) :: (0 : Int) :: (0 : Int) :: (0 : Int) :: (0 : Int) :: (0 : Int) :: (0 : Int) :: (0 : Int) :: (0 : Int) :: (0 : Int) :: (0 : Int) :: (0 : Int) :: (0 : Int) :: (0 : Int) :: (0 : Int) :: (0 : Int) :: (0 : Int) :: (0 : Int) :: (0 : Int) :: (0 : Int) :: (0 : Int) :: (0 : Int) :: (0 : Int) :: (0 : Int) :: (0 : Int) :: (0 : Int) :: (0 : Int) :: (0 : Int) :: (0 : Int) :: (0 : Int) :: (0 : Int) :: (0 : Int) :: (0 : Int) :: (0 : Int) :: (0 : Int) :: (0 : Int) :: (0 : Int) :: (0 : Int) :: (0 : Int) :: (0 : Int) :: (0 : Int) :: (0 : Int) :: (0 : Int) :: (0 : Int) :: (0 : Int) :: (0 : Int) :: (0 : Int) :: (0 : Int) :: (0 : Int) :: (0 : Int) :: (0 : Int) :: (0 : Int) :: (0 : Int) :: (0 : Int) :: (0 : Int) :: (0 : Int) :: (0 : Int) :: (0 : Int) :: (0 : Int) :: (0 : Int) :: (0 : Int) :: (0 : Int) :: (0 : Int) :: (0 : Int) :: (0 : Int) :: (0 : Int) :: (0 : Int) :: (0 : Int) :: (0 : Int) :: (0 : Int) :: (0 : Int) :: (0 : Int) :: (0 : Int) :: (0 : Int) :: (0 : Int) :: (0 : Int) :: (0 : Int) :: (0 : Int) :: (0 : Int) :: (0 : Int) :: (0 : Int) :: (0 : Int) :: (0 : Int) :: (0 : Int) :: (0 : Int) :: (0 : Int) :: (0 : Int) :: (0 : Int) :: (0 : Int) :: (0 : Int) :: (0 : Int) :: (0 : Int) :: (0 : Int) :: (0 : Int) :: (0 : Int) :: (0 : Int) :: (0 : Int) :: (0 : Int) :: (0 : Int) :: (0 : Int) :: (0 : Int) :: (0 : Int) :: (0 : Int) :: (0 : Int) :: (0 : Int) :: (0 : Int) :: (0 : Int) :: (0 : Int) :: (0 : Int) :: (0 : Int) :: (0 : Int) :: (0 : Int) :: (0 : Int) :: (0 : Int) :: (0 : Int) :: (0 : Int) :: (0 : Int) :: (0 : Int) :: (0 : Int) :: (0 : Int) :: (0 : Int) :: (0 : Int) :: (0 : Int) :: (0 : Int) :: (0 : Int) :: (0 : Int) :: (0 : Int) :: (0 : Int) :: (0 : Int) :: (0 : Int) :: (0 : Int) :: (0 : Int) :: (0 : Int) :: (0 : Int) :: (0 : Int) :: (0 : Int) :: (0 : Int) :: (0 : Int) :: (0 : Int) :: (0 : Int) :: (0 : Int) :: (0 : Int) :: (0 : Int) :: (0 : Int) :: (0 : Int) :: (0 : Int) :: (0 : Int) :: (0 : Int) :: (0 : Int) :: (0 : Int) :: (0 : Int) :: (0 : Int) :: (0 : Int) :: (0 : Int) :: (0 : Int) :: (0 : Int) :: (0 : Int) :: (0 : Int) :: ([] : List Int)), true⟩

theorem ty116_ok : TyOk Tryd.prog 116 ty116 := TyOk.of (by kernel_rfl) (by kernel_rfl) (by kernel_rfl) (by kernel_rfl)

noncomputable def ty118 : TyI := ⟨(Go.TypeDesc.struct (List.toArray ([(Go.Field.mk "lo" 5 0 false "" "unicode/utf8" 0), (Go.Field.mk "hi" 5 1 false "" "unicode/utf8" 1)] : List Go.Field))), 2, 2, (.pair (.int .u8) (.pair (.int .u8) .unit)), ((0 : Int), (0 : Int), ()), true⟩

theorem ty118_ok : TyOk Tryd.prog 118 ty118 := TyOk.of (by kernel_rfl) (by kernel_rfl) (by kernel_rfl) (by kernel_rfl)

noncomputable def ty119 : TyI := ⟨(Go.TypeDesc.array 16 118), 32, 32, (.arr 16 (.pair (.int .u8) (.pair (.int .u8) .unit))), ([((0 : Int), (0 : Int), ()), ((0 : Int), (0 : Int), ()), ((0 : Int), (0 : Int), ()), ((0 : Int), (0 : Int), ()), ((0 : Int), (0 : Int), ()), ((0 : Int), (0 : Int), ()), ((0 : Int), (0 : Int), ()), ((0 : Int), (0 : Int), ()), ((0 : Int), (0 : Int), ()), ((0 : Int), (0 : Int), ()), ((0 : Int), (0 : Int), ()), ((0 : Int), (0 : Int), ()), ((0 : Int), (0 : Int), ()), ((0 : Int), (0 : Int), ()), ((0 : Int), (0 : Int), ()), ((0 : Int), (0 : Int), ())] : List (Int × (Int × Unit))), true⟩

theorem ty119_ok : TyOk Tryd.prog 119 ty119 := TyOk.of (by kernel_rfl) (by kernel_rfl) (by kernel_rfl) (by kernel_rfl)

noncomputable def ty120 : TyI := ⟨(Go.TypeDesc.pointer 108), 1, 8, .opq, (Go.Value.pointer none), false⟩

theorem ty120_ok : TyOk Tryd.prog 120 ty120 := TyOk.of (by kernel_rfl) (by kernel_rfl) (by kernel_rfl) (by kernel_rfl)

noncomputable def tys : List (Nat × TyI) := [(3, ty3), (4, ty4), (5, ty5), (9, ty9), (21, ty21), (22, ty22), (25, ty25), (33, ty33), (42, ty42), (43, ty43), (45, ty45), (48, ty48), (50, ty50), (65, ty65), (70, ty70), (71, ty71), (73, ty73), (76, ty76), (81, ty81), (93, ty93), (102, ty102), (104, ty104), (108, ty108), (112, ty112), (116, ty116), (118, ty118), (119, ty119), (120, ty120)]

theorem tys_ok : TysOk Tryd.prog tys := TysOk.cons ty3_ok (TysOk.cons ty4_ok (TysOk.cons ty5_ok (TysOk.cons ty9_ok (TysOk.cons ty21_ok (TysOk.cons ty22_ok (TysOk.cons ty25_ok (TysOk.cons ty33_ok (TysOk.cons ty42_ok (TysOk.cons ty43_ok (TysOk.cons ty45_ok (TysOk.cons ty48_ok (TysOk.cons ty50_ok (TysOk.cons ty65_ok (TysOk.cons ty70_ok (TysOk.cons ty71_ok (TysOk.cons ty73_ok (TysOk.cons ty76_ok (TysOk.cons ty81_ok (TysOk.cons ty93_ok (TysOk.cons ty102_ok (TysOk.cons ty104_ok (TysOk.cons ty108_ok (TysOk.cons ty112_ok (TysOk.cons ty116_ok (TysOk.cons ty118_ok (TysOk.cons ty119_ok (TysOk.cons ty120_ok (TysOk.nil))))))))))))))))))))))))))))

theorem mixed : Tryd.prog.follows .mixedOrders = true := by kernel_rfl

noncomputable def glob0 : List Int := [240, 240, 240, 240, 240, 240, 240, 240, 240, 240, 240, 240, 240, 240, 240, 240, 240, 240, 240, 240, 240, 240, 240, 240, 240, 240, 240, 240, 240, 240, 240, 240, 240, 240, 240, 240, 240, 240, 240, 240, 240, 240, 240, 240, 240, 240, 240, 240, 240, 240, 240, 240, 240, 240, 240, 240, 240, 240, 240, 240, 240, 240, 240, 240, 240, 240, 240, 240, 240, 240, 240, 240, 240, 240, 240, 240, 240, 240, 240, 240, 240, 240, 240, 240, 240, 240, 240, 240, 240, 240, 240, 240, 240, 240, 240, 240, 240, 240, 240, 240, 240, 240, 240, 240, 240, 240, 240, 240, 240, 240, 240, 240, 240, 240, 240, 240, 240, 240, 240, 240, 240, 240, 240, 240, 240, 240, 240, 240, 241, 241, 241, 241, 241, 241, 241, 241, 241, 241, 241, 241, 241, 241, 241, 241, 241, 241, 241, 241, 241, 241, 241, 241, 241, 241, 241, 241, 241, 241, 241, 241, 241, 241, 241, 241, 241, 241, 241, 241, 241, 241, 241, 241, 241, 241, 241, 241, 241, 241, 241, 241, 241, 241, 241, 241, 241, 241, 241, 241, 241, 241, 241, 241, 241, 241, 2, 2, 2, 2, 2, 2, 2, 2, 2, 2, 2, 2, 2, 2, 2, 2, 2, 2, 2, 2, 2, 2, 2, 2, 2, 2, 2, 2, 2, 2, 19, 3, 3, 3, 3, 3, 3, 3, 3, 3, 3, 3, 3, 35, 3, 3, 52, 4, 4, 4, 68, 241, 241, 241, 241, 241, 241, 241, 241, 241, 241, 241]

noncomputable def glob1 : List (Int × (Int × Unit)) := [(128, 191, ()), (160, 191, ()), (128, 159, ()), (144, 191, ()), (128, 143, ()), (0, 0, ()), (0, 0, ()), (0, 0, ()), (0, 0, ()), (0, 0, ()), (0, 0, ()), (0, 0, ()), (0, 0, ()), (0, 0, ()), (0, 0, ()), (0, 0, ())]

noncomputable def glob : Nat → Option Dat := lk [(0, ⟨(.arr 256 (.int .u8)), glob0⟩), (1, ⟨(.arr 16 (.pair (.int .u8) (.pair (.int .u8) .unit))), glob1⟩)]

noncomputable def body_0 : Code := (Tryd.f7.body).getD .skip

noncomputable def L_0 : List (List Nat × List Nat) := [([0], [0]), ([0, 0, 1], [6, 0]), ([1, 0, 1], [0]), ([0, 0, 1, 0, 1], [2]), ([1, 0, 1, 0, 1], [2]), ([0, 0, 1, 1], [3, 0]), ([0, 1, 0, 1, 1], [3, 0]), ([0, 0, 0, 0, 1, 0, 1, 1], [10, 0, 3]), ([1, 0, 0, 0, 1, 0, 1, 1], [0, 3]), ([1, 1, 0, 0, 0, 1, 0, 1, 1], []), ([0, 0, 0, 1, 0, 0, 1, 0, 1, 1], [28, 3, 0]), ([1, 0, 0, 1, 0, 0, 1, 0, 1, 1], [3, 0]), ([0, 0, 1, 0, 0, 1, 0, 0, 1, 0, 1, 1], [2]), ([1, 0, 1, 0, 0, 1, 0, 0, 1, 0, 1, 1], [2]), ([0, 1, 0, 0, 1, 0, 1, 1], [3, 0]), ([1, 1, 0, 0, 1, 0, 1, 1], [3, 0]), ([1, 0, 1, 1], []), ([0, 1, 1, 1], [2]), ([1, 1, 1, 1], [2])]

noncomputable def E_0 (N : Nat) : Env := mkEnv tys glob [] [] [] [] false [] []

theorem Eok_0 (N : Nat) : EnvOk Tryd.prog (E_0 N) := mkEnv_ok mixed tys_ok (FnsOk.nil) (ItsOk.nil)

noncomputable def porterlaw11_great_p3 (N : Nat) (l : DT0) (i : Int) (k0 : Bool → Option Bool) : Option Bool :=
 cond (inR i (List.length l))
 (cond (decide ((1100 : Int) < (((List.length (List.getD l (Int.toNat i) (([] : List UInt8), (([] : List UInt8), ()))).2.1) : Nat) : Int)))
 (k0 true)
 (cond (inR i (List.length l))
 (k0 (decide ((100 : Int) < (((List.length (List.getD l (Int.toNat i) (([] : List UInt8), (([] : List UInt8), ()))).1) : Nat) : Int))))
 (none)))
 (none)

noncomputable def g3_0 (N : Nat) (x : denS [(0, .v (.sl TT1)), (2, .v (.int .i64))]) (K : Ex → List A → Option Bool) : Option Bool :=
 porterlaw11_great_p3 N x.1 x.2.1 (fun a2 => (K .normal (mkS [(0, .v (.sl TT1)), (2, .v (.int .i64)), (24, .v .bool)] 0 (x.1, x.2.1, a2, ()))))

noncomputable def h3_0 (N : Nat) : Hd Bool := fun st K => (unS [(0, .v (.sl TT1)), (2, .v (.int .i64))] 25 (restr [0, 3] 0 st)).bind fun x => g3_0 N x K

noncomputable def t3_0 (N : Nat) : Tab Bool := []

theorem ok3_0 {N : Nat} {c : Ctx} (hb : Base Tryd.prog (E_0 N) c) : CodeOk Tryd.prog c (nodeAt body_0 [0, 0, 0, 1, 0, 0, 1, 0, 1, 1]) (h3_0 N) :=
  piece_ok (s := [(0, .v (.sl TT1)), (2, .v (.int .i64))]) (m := 25) (g := g3_0 N) [0, 3] (evN_sound hb N (t3_0 N) L_0 body_0 TabOk.nil [0, 0, 0, 1, 0, 0, 1, 0, 1, 1] _ rfl) (fun x K => by kernel_rfl)

noncomputable def porterlaw11_great_p2 (N : Nat) (l : DT0) (i : Int) (k0 : Bool → Option Bool) (k1 : Option Bool) : Option Bool :=
 porterlaw11_great_p3 N l i
 (fun x28 => cond x28
 (k0 true)
 (k1))

noncomputable def g2_0 (N : Nat) (x : denS [(0, .v (.sl TT1)), (2, .v (.int .i64))]) (K : Ex → List A → Option Bool) : Option Bool :=
 porterlaw11_great_p2 N x.1 x.2.1 (fun a0 => (K .ret (mkS [(2, .v .bool)] 26 (a0, ())))) (K .normal (mkS [(0, .v (.sl TT1)), (2, .v (.int .i64))] 25 (x.1, x.2.1, ())))

noncomputable def h2_0 (N : Nat) : Hd Bool := fun st K => (unS [(0, .v (.sl TT1)), (2, .v (.int .i64))] 25 (restr [0, 3] 0 st)).bind fun x => g2_0 N x K

noncomputable def t2_0 (N : Nat) : Tab Bool := [([0, 0, 0, 1, 0, 0, 1, 0, 1, 1], h3_0 N)]

theorem ok2_0 {N : Nat} {c : Ctx} (hb : Base Tryd.prog (E_0 N) c) : CodeOk Tryd.prog c (nodeAt body_0 [0, 1, 0, 0, 1, 0, 1, 1]) (h2_0 N) :=
  piece_ok (s := [(0, .v (.sl TT1)), (2, .v (.int .i64))]) (m := 25) (g := g2_0 N) [0, 3] (evN_sound hb N (t2_0 N) L_0 body_0 (TabOk.cons (ok3_0 hb) TabOk.nil) [0, 1, 0, 0, 1, 0, 1, 1] _ rfl) (fun x K => by kernel_rfl)

noncomputable def porterlaw11_great_s1 (N : Nat) (l : DT0) (i : Int) (rec : Int → Option Bool) (k0 : Bool → Option Bool) (k1 : Option Bool) : Option Bool :=
 cond (decide (i < (((List.length l) : Nat) : Int)))
 (porterlaw11_great_p2 N l i
 (fun x2 => k0 x2)
 (rec (IntKind.wrap IntKind.i64 (i + (1 : Int)))))
 (k1)

noncomputable def porterlaw11_great_p1 (N : Nat) (l : DT0) (i : Int) (k0 : Bool → Option Bool) (k1 : Option Bool) : Option Bool :=
 iter (fun (v : Int) r => porterlaw11_great_s1 N l v (fun i => (r i)) k0 k1) N i

noncomputable def g1_0 (N : Nat) (i : DT0) (v : Int) (r : Int → Option Bool) (K : Ex → List A → Option Bool) : Option Bool :=
 porterlaw11_great_s1 N i v (fun i => (r i)) (fun a0 => (K .ret (mkS [(2, .v .bool)] 26 (a0, ())))) (K (.exit 0) (mkS [] 29 ()))

noncomputable def h1_0 (N : Nat) : Hd Bool := fun st K => (unS [(0, .v (.sl TT1)), (2, .v (.int .i64))] 25 (restr [3, 0] 0 st)).bind fun x => iter (fun v r => g1_0 N ((fun x => x.1) x) v r K) N ((fun x => x.2.1) x)

noncomputable def t1_0 (N : Nat) : Tab Bool := [([0, 1, 0, 0, 1, 0, 1, 1], h2_0 N)]

theorem ok1_0 {N : Nat} {c : Ctx} (hb : Base Tryd.prog (E_0 N) c) : CodeOk Tryd.prog c (nodeAt body_0 [0, 1, 0, 1, 1]) (h1_0 N) :=
  loop_ok (s := [(0, .v (.sl TT1)), (2, .v (.int .i64))]) (m := 25) (g1_0 N) [3, 0] N (fun x => x.1) (fun x => x.2.1) (fun i v => (i, v, ())) (fun _ => rfl) (evN_sound hb N (t1_0 N) L_0 body_0 (TabOk.cons (ok2_0 hb) TabOk.nil) [0, 0, 1, 0, 1, 1] _ rfl) (fun i v r K => by kernel_rfl)

noncomputable def porterlaw11_great (N : Nat) (l : DT0) : Option Bool :=
 cond (decide ((40 : Int) < (((List.length l) : Nat) : Int)))
 (some true)
 (porterlaw11_great_p1 N l (0 : Int)
 (fun x2 => some x2)
 (some false))

noncomputable def t_0 (N : Nat) : Tab Bool := [([0, 1, 0, 1, 1], h1_0 N)]

theorem link_0 (N : Nat) (x : denS [(0, .v (.sl TT1))]) : evFX (E_0 N) N (t_0 N) L_0 Tryd.f7 (mkS [(0, .v (.sl TT1))] 0 x) (kRes (.v .bool) 1) = porterlaw11_great N x.1 := by kernel_rfl

noncomputable def porterlaw11_great_res (N : Nat) : List A → Res := resOf [(0, .v (.sl TT1))] (fun x => porterlaw11_great N x.1) (oRes (.v .bool) 1)

theorem porterlaw11_great_ct (N : Nat) : Contract Tryd.prog glob 7 (porterlaw11_great_res N) :=
  Contract.of (E := E_0 N) (H := t_0 N) (L := L_0) (N := N) (body := body_0) (K := (kRes (.v .bool) 1)) (Eok_0 N) Tryd.func7 (by kernel_rfl) (by decide) (fun _ hb => (TabOk.cons (ok1_0 hb) TabOk.nil)) (fun x y h => by rw [link_0]; exact h) (kRes_ok (s := (.v .bool)) (m := 1))

noncomputable def body_1 : Code := (Tryd.f67.body).getD .skip

noncomputable def L_1 : List (List Nat × List Nat) := [([0], [0]), ([0, 1], [2]), ([1, 1], [2])]

noncomputable def E_1 (N : Nat) : Env := mkEnv tys glob [] [] [] [] false [] []

theorem Eok_1 (N : Nat) : EnvOk Tryd.prog (E_1 N) := mkEnv_ok mixed tys_ok (FnsOk.nil) (ItsOk.nil)

noncomputable def name_digit (N : Nat) (c : Int) : Option Bool :=
 cond (decide ((48 : Int) ≤ c))
 (some (decide (c ≤ (57 : Int))))
 (some false)

noncomputable def t_1 (N : Nat) : Tab Bool := []

theorem link_1 (N : Nat) (x : denS [(0, .v (.int .i32))]) : evFX (E_1 N) N (t_1 N) L_1 Tryd.f67 (mkS [(0, .v (.int .i32))] 0 x) (kRes (.v .bool) 1) = name_digit N x.1 := by kernel_rfl

noncomputable def name_digit_res (N : Nat) : List A → Res := resOf [(0, .v (.int .i32))] (fun x => name_digit N x.1) (oRes (.v .bool) 1)

theorem name_digit_ct (N : Nat) : Contract Tryd.prog glob 67 (name_digit_res N) :=
  Contract.of (E := E_1 N) (H := t_1 N) (L := L_1) (N := N) (body := body_1) (K := (kRes (.v .bool) 1)) (Eok_1 N) Tryd.func67 (by kernel_rfl) (by decide) (fun _ hb => TabOk.nil) (fun x y h => by rw [link_1]; exact h) (kRes_ok (s := (.v .bool)) (m := 1))

noncomputable def body_2 : Code := (Tryd.f55.body).getD .skip

noncomputable def L_2 : List (List Nat × List Nat) := [([0], [0, 1]), ([0, 1], [5, 0, 1]), ([0, 1, 1], [4]), ([1, 1, 1], [4])]

noncomputable def E_2 (N : Nat) : Env := mkEnv tys glob [(67, name_digit_res N)] [] [] [] false [] []

theorem Eok_2 (N : Nat) : EnvOk Tryd.prog (E_2 N) := mkEnv_ok mixed tys_ok (FnsOk.cons (name_digit_ct N) (FnsOk.nil)) (ItsOk.nil)

noncomputable def name_labelRune_p1 (N : Nat) (c : Int) (first : Bool) (k0 : Bool → Option Bool) : Option Bool :=
 cond (decide ((97 : Int) ≤ c))
 (cond (decide (c ≤ (122 : Int)))
 (k0 true)
 (cond (decide ((65 : Int) ≤ c))
 (cond (decide (c ≤ (90 : Int)))
 (k0 true)
 (k0 (c == (95 : Int))))
 (k0 (c == (95 : Int)))))
 (cond (decide ((65 : Int) ≤ c))
 (cond (decide (c ≤ (90 : Int)))
 (k0 true)
 (k0 (c == (95 : Int))))
 (k0 (c == (95 : Int))))

noncomputable def g1_2 (N : Nat) (x : denS [(0, .v (.int .i32)), (0, .v .bool)]) (K : Ex → List A → Option Bool) : Option Bool :=
 name_labelRune_p1 N x.1 x.2.1 (fun a2 => (K .normal (mkS [(0, .v (.int .i32)), (0, .v .bool), (3, .v .bool)] 27 (x.1, x.2.1, a2, ()))))

noncomputable def h1_2 (N : Nat) : Hd Bool := fun st K => (unS [(0, .v (.int .i32)), (0, .v .bool)] 31 (restr [0, 1] 0 st)).bind fun x => g1_2 N x K

noncomputable def t1_2 (N : Nat) : Tab Bool := []

theorem ok1_2 {N : Nat} {c : Ctx} (hb : Base Tryd.prog (E_2 N) c) : CodeOk Tryd.prog c (nodeAt body_2 [0, 1]) (h1_2 N) :=
  piece_ok (s := [(0, .v (.int .i32)), (0, .v .bool)]) (m := 31) (g := g1_2 N) [0, 1] (evN_sound hb N (t1_2 N) L_2 body_2 TabOk.nil [0, 1] _ rfl) (fun x K => by kernel_rfl)

noncomputable def name_labelRune (N : Nat) (c : Int) (first : Bool) : Option Bool :=
 name_labelRune_p1 N c first
 (fun letter => cond letter
 (some true)
 ((name_digit N c).bind fun y =>
 cond y
 (some (!first))
 (some false)))

noncomputable def t_2 (N : Nat) : Tab Bool := [([0, 1], h1_2 N)]

theorem link_2 (N : Nat) (x : denS [(0, .v (.int .i32)), (0, .v .bool)]) : evFX (E_2 N) N (t_2 N) L_2 Tryd.f55 (mkS [(0, .v (.int .i32)), (0, .v .bool)] 0 x) (kRes (.v .bool) 2) = name_labelRune N x.1 x.2.1 := by kernel_rfl

noncomputable def name_labelRune_res (N : Nat) : List A → Res := resOf [(0, .v (.int .i32)), (0, .v .bool)] (fun x => name_labelRune N x.1 x.2.1) (oRes (.v .bool) 2)

theorem name_labelRune_ct (N : Nat) : Contract Tryd.prog glob 55 (name_labelRune_res N) :=
  Contract.of (E := E_2 N) (H := t_2 N) (L := L_2) (N := N) (body := body_2) (K := (kRes (.v .bool) 2)) (Eok_2 N) Tryd.func55 (by kernel_rfl) (by decide) (fun _ hb => (TabOk.cons (ok1_2 hb) TabOk.nil)) (fun x y h => by rw [link_2]; exact h) (kRes_ok (s := (.v .bool)) (m := 2))

noncomputable def body_3 : Code := (Tryd.f54.body).getD .skip

noncomputable def L_3 : List (List Nat × List Nat) := [([0], [0, 1]), ([0, 0, 1], [13, 0, 1]), ([1, 0, 1], [0, 1]), ([0, 0, 1, 0, 1], [4]), ([1, 0, 1, 0, 1], [4]), ([0, 0, 1, 1], [15, 1]), ([0, 1, 0, 1, 1], [15, 1]), ([0, 0, 0, 1, 0, 1, 1], [17, 16, 1, 15]), ([0, 1, 0, 0, 1, 0, 1, 1], [16, 1, 15]), ([1, 0, 1, 0, 0, 1, 0, 1, 1], []), ([0, 0, 1, 1, 0, 0, 1, 0, 1, 1], [1, 6, 5, 15]), ([0, 1, 0, 1, 1, 0, 0, 1, 0, 1, 1], [25, 15, 1]), ([1, 1, 0, 1, 1, 0, 0, 1, 0, 1, 1], [15, 1]), ([0, 0, 1, 1, 0, 1, 1, 0, 0, 1, 0, 1, 1], [4]), ([1, 0, 1, 1, 0, 1, 1, 0, 0, 1, 0, 1, 1], [4]), ([1, 1, 0, 0, 1, 0, 1, 1], [15, 1]), ([1, 0, 1, 1], []), ([0, 1, 1, 1], [4]), ([1, 1, 1, 1], [4])]

noncomputable def E_3 (N : Nat) : Env := mkEnv tys glob [(55, name_labelRune_res N)] [] [] [] false [] []

theorem Eok_3 (N : Nat) : EnvOk Tryd.prog (E_3 N) := mkEnv_ok mixed tys_ok (FnsOk.cons (name_labelRune_ct N) (FnsOk.nil)) (ItsOk.nil)

noncomputable def name_all_label_p2 (N : Nat) (s : (List UInt8)) (k0 : Bool → Option Bool) : Option Bool :=
 cond (s == ([] : List UInt8))
 (k0 true)
 (k0 (decide ((32 : Int) < (((List.length s) : Nat) : Int))))

noncomputable def g2_3 (N : Nat) (x : denS [(0, .v .str), (0, .fnc 55)]) (K : Ex → List A → Option Bool) : Option Bool :=
 name_all_label_p2 N x.1 (fun a1 => (K .normal (mkS [(0, .v .str), (0, .fnc 55), (11, .v .bool)] 12 (x.1, (), a1, ()))))

noncomputable def h2_3 (N : Nat) : Hd Bool := fun st K => (unS [(0, .v .str), (0, .fnc 55)] 24 (restr [0, 1] 0 st)).bind fun x => g2_3 N x K

noncomputable def t2_3 (N : Nat) : Tab Bool := []

theorem ok2_3 {N : Nat} {c : Ctx} (hb : Base Tryd.prog (E_3 N) c) : CodeOk Tryd.prog c (nodeAt body_3 [0, 0, 1]) (h2_3 N) :=
  piece_ok (s := [(0, .v .str), (0, .fnc 55)]) (m := 24) (g := g2_3 N) [0, 1] (evN_sound hb N (t2_3 N) L_3 body_3 TabOk.nil [0, 0, 1] _ rfl) (fun x K => by kernel_rfl)

noncomputable def name_all_label_p1 (N : Nat) (s : (List UInt8)) (k0 : Bool → Option Bool) (k1 : Option Bool) : Option Bool :=
 name_all_label_p2 N s
 (fun x13 => cond x13
 (k0 false)
 (k1))

noncomputable def g1_3 (N : Nat) (x : denS [(0, .v .str), (0, .fnc 55)]) (K : Ex → List A → Option Bool) : Option Bool :=
 name_all_label_p1 N x.1 (fun a0 => (K .ret (mkS [(4, .v .bool)] 21 (a0, ())))) (K .normal (mkS [(0, .v .str), (0, .fnc 55)] 24 (x.1, (), ())))

noncomputable def h1_3 (N : Nat) : Hd Bool := fun st K => (unS [(0, .v .str), (0, .fnc 55)] 24 (restr [0, 1] 0 st)).bind fun x => g1_3 N x K

noncomputable def t1_3 (N : Nat) : Tab Bool := [([0, 0, 1], h2_3 N)]

theorem ok1_3 {N : Nat} {c : Ctx} (hb : Base Tryd.prog (E_3 N) c) : CodeOk Tryd.prog c (nodeAt body_3 [0, 1]) (h1_3 N) :=
  piece_ok (s := [(0, .v .str), (0, .fnc 55)]) (m := 24) (g := g1_3 N) [0, 1] (evN_sound hb N (t1_3 N) L_3 body_3 (TabOk.cons (ok2_3 hb) TabOk.nil) [0, 1] _ rfl) (fun x K => by kernel_rfl)

noncomputable def name_all_label_s3 (N : Nat) (x15 : (List UInt8 × Nat)) (rec : (List UInt8 × Nat) → Option Bool) (k0 : Bool → Option Bool) (k1 : Option Bool) : Option Bool :=
 cond (decide (x15.2 < (List.length x15.1)))
 ((name_labelRune N (((runeAt x15.1 x15.2).1 : Nat) : Int) (((x15.2 : Nat) : Int) == (0 : Int))).bind fun y =>
 cond (!y)
 (k0 false)
 (rec (x15.1, (x15.2 + (runeAt x15.1 x15.2).2))))
 (k1)

noncomputable def name_all_label_p3 (N : Nat) (x15 : (List UInt8 × Nat)) (k0 : Bool → Option Bool) (k1 : Option Bool) : Option Bool :=
 iter (fun (v : (List UInt8 × Nat)) r => name_all_label_s3 N v (fun x15 => (r x15)) k0 k1) N x15

noncomputable def g3_3 (N : Nat) (i : Unit) (v : (List UInt8 × Nat)) (r : (List UInt8 × Nat) → Option Bool) (K : Ex → List A → Option Bool) : Option Bool :=
 name_all_label_s3 N v (fun x15 => (r x15)) (fun a0 => (K .ret (mkS [(4, .v .bool)] 21 (a0, ())))) (K (.exit 0) (mkS [] 26 ()))

noncomputable def h3_3 (N : Nat) : Hd Bool := fun st K => (unS [(1, .fnc 55), (13, .iter)] 10 (restr [15, 1] 0 st)).bind fun x => iter (fun v r => g3_3 N ((fun x => ()) x) v r K) N ((fun x => x.2.1) x)

noncomputable def t3_3 (N : Nat) : Tab Bool := []

theorem ok3_3 {N : Nat} {c : Ctx} (hb : Base Tryd.prog (E_3 N) c) : CodeOk Tryd.prog c (nodeAt body_3 [0, 1, 0, 1, 1]) (h3_3 N) :=
  loop_ok (s := [(1, .fnc 55), (13, .iter)]) (m := 10) (g3_3 N) [15, 1] N (fun x => ()) (fun x => x.2.1) (fun i v => ((), v, ())) (fun _ => rfl) (evN_sound hb N (t3_3 N) L_3 body_3 TabOk.nil [0, 0, 1, 0, 1, 1] _ rfl) (fun i v r K => by kernel_rfl)

noncomputable def name_all_label (N : Nat) (s : (List UInt8)) : Option Bool :=
 name_all_label_p1 N s
 (fun x4 => some x4)
 (name_all_label_p3 N (s, 0)
 (fun x41 => some x41)
 (some true))

noncomputable def t_3 (N : Nat) : Tab Bool := [([0, 1], h1_3 N), ([0, 1, 0, 1, 1], h3_3 N)]

theorem link_3 (N : Nat) (x : denS [(0, .v .str), (0, .fnc 55)]) : evFX (E_3 N) N (t_3 N) L_3 Tryd.f54 (mkS [(0, .v .str), (0, .fnc 55)] 0 x) (kRes (.v .bool) 2) = name_all_label N x.1 := by kernel_rfl

noncomputable def name_all_label_res (N : Nat) : List A → Res := resOf [(0, .v .str), (0, .fnc 55)] (fun x => name_all_label N x.1) (oRes (.v .bool) 2)

theorem name_all_label_ct (N : Nat) : Contract Tryd.prog glob 54 (name_all_label_res N) :=
  Contract.of (E := E_3 N) (H := t_3 N) (L := L_3) (N := N) (body := body_3) (K := (kRes (.v .bool) 2)) (Eok_3 N) Tryd.func54 (by kernel_rfl) (by decide) (fun _ hb => (TabOk.cons (ok1_3 hb) (TabOk.cons (ok3_3 hb) TabOk.nil))) (fun x y h => by rw [link_3]; exact h) (kRes_ok (s := (.v .bool)) (m := 2))

noncomputable def body_4 : Code := (Tryd.f38.body).getD .skip

noncomputable def L_4 : List (List Nat × List Nat) := [([0], [0]), ([0, 1], [2]), ([1, 1], [2])]

noncomputable def E_4 (N : Nat) : Env := mkEnv tys glob [(54, name_all_label_res N), (55, name_labelRune_res N)] [] [] [] false [] []

theorem Eok_4 (N : Nat) : EnvOk Tryd.prog (E_4 N) := mkEnv_ok mixed tys_ok (FnsOk.cons (name_all_label_ct N) (FnsOk.cons (name_labelRune_ct N) (FnsOk.nil))) (ItsOk.nil)

noncomputable def name_Label (N : Nat) (s : (List UInt8)) : Option Bool :=
 (name_all_label N s).bind fun y =>
 some y

noncomputable def t_4 (N : Nat) : Tab Bool := []

theorem link_4 (N : Nat) (x : denS [(0, .v .str)]) : evFX (E_4 N) N (t_4 N) L_4 Tryd.f38 (mkS [(0, .v .str)] 0 x) (kRes (.v .bool) 1) = name_Label N x.1 := by kernel_rfl

noncomputable def name_Label_res (N : Nat) : List A → Res := resOf [(0, .v .str)] (fun x => name_Label N x.1) (oRes (.v .bool) 1)

theorem name_Label_ct (N : Nat) : Contract Tryd.prog glob 38 (name_Label_res N) :=
  Contract.of (E := E_4 N) (H := t_4 N) (L := L_4) (N := N) (body := body_4) (K := (kRes (.v .bool) 1)) (Eok_4 N) Tryd.func38 (by kernel_rfl) (by decide) (fun _ hb => TabOk.nil) (fun x y h => by rw [link_4]; exact h) (kRes_ok (s := (.v .bool)) (m := 1))

noncomputable def body_5 : Code := (Tryd.f22.body).getD .skip

noncomputable def L_5 : List (List Nat × List Nat) := [([0], [1]), ([0, 0, 1], [6, 1]), ([1, 0, 1], [1]), ([0, 0, 1, 0, 1], [2]), ([1, 0, 1, 0, 1], [2]), ([0, 0, 1, 1], [10]), ([1, 0, 1, 1], []), ([0, 0, 1, 0, 1, 1], [2]), ([1, 0, 1, 0, 1, 1], [2]), ([0, 1, 1, 1], [2]), ([1, 1, 1, 1], [2])]

noncomputable def E_5 (N : Nat) : Env := mkEnv tys glob [(38, name_Label_res N)] [] [] [] false [] []

theorem Eok_5 (N : Nat) : EnvOk Tryd.prog (E_5 N) := mkEnv_ok mixed tys_ok (FnsOk.cons (name_Label_ct N) (FnsOk.nil)) (ItsOk.nil)

noncomputable def labels_alone (N : Nat) (label : DT5) : Option Int :=
 (name_Label N label.1).bind fun y =>
 cond (!y)
 (some (4 : Int))
 (cond (decide ((1024 : Int) < (((List.length label.2.1) : Nat) : Int)))
 (some (3 : Int))
 (some (0 : Int)))

noncomputable def t_5 (N : Nat) : Tab Int := []

theorem link_5 (N : Nat) (x : denS [(0, .v TT1)]) : evFX (E_5 N) N (t_5 N) L_5 Tryd.f22 (mkS [(0, .v TT1)] 0 x) (kRes (.v (.int .i64)) 1) = labels_alone N x.1 := by kernel_rfl

noncomputable def labels_alone_res (N : Nat) : List A → Res := resOf [(0, .v TT1)] (fun x => labels_alone N x.1) (oRes (.v (.int .i64)) 1)

theorem labels_alone_ct (N : Nat) : Contract Tryd.prog glob 22 (labels_alone_res N) :=
  Contract.of (E := E_5 N) (H := t_5 N) (L := L_5) (N := N) (body := body_5) (K := (kRes (.v (.int .i64)) 1)) (Eok_5 N) Tryd.func22 (by kernel_rfl) (by decide) (fun _ hb => TabOk.nil) (fun x y h => by rw [link_5]; exact h) (kRes_ok (s := (.v (.int .i64))) (m := 1))

abbrev LabD : Type := List UInt8 × (List UInt8 × Unit)

theorem lab_vr (S : Hp) (a b : List UInt8) : VR S TT1 (a, (b, ())) (.agg #[.string ⟨⟨a⟩⟩, .string ⟨⟨b⟩⟩]) :=
  show ∃ cs, _ = Value.agg cs ∧ Rd S TT1 (a, (b, ())) cs.toList from ⟨_, rfl, [.string ⟨⟨a⟩⟩], _, rfl, rfl, [.string ⟨⟨b⟩⟩], [], rfl, rfl, rfl⟩

theorem args_one11 {w : World} {S : Hp} {a : A} {v : Value} (h : ARel (hp w) S (fun _ => undef) a v []) (hr : a.refs = []) : ArgsRel (hp w) S [a] [v] (fun _ => []) := by
  refine ⟨rfl, fun i y hy => ?_, fun _ _ => rfl, (fun i j b hb => by cases hb), fun _ => .nil, (fun i b hb => by cases hb)⟩
  cases i with
  | zero => simp at hy; subst hy; exact ⟨⟨v, rfl, h⟩, hr⟩
  | succ i => simp at hy

theorem alone_call (N : Nat) {w : World} {S : Hp} (hS : Lift.Sub S (hp w)) (hg : GlobOk glob S) {a b : List UInt8} {c : Int} (hy : labels_alone N (a, (b, ())) = some c) :
    Calls Tryd.prog 22 #[.agg #[.string ⟨⟨a⟩⟩, .string ⟨⟨b⟩⟩]] w fun e w' => e = .returned (.int .i64 c) ∧ w.grownBy w' none := by
  refine ((labels_alone_ct N).2 w S _ _ _ (args_one11 (a := .v TT1 (a, (b, ()))) (v := .agg #[.string ⟨⟨a⟩⟩, .string ⟨⟨b⟩⟩]) ⟨lab_vr _ a b, rfl⟩ rfl) hS hg _ hy).mono ?_
  rintro e w' ⟨v, S', q, ob', rfl, hwf, hSS, hSw, hnew, ⟨hr, _⟩, _⟩
  have hv : VR S' (.int .i64) c v := hr.1
  exact ⟨by rw [hv.int_inv], ⟨hwf.os, hwf.tape, hwf.output, hwf.size, fun k hk _ => hwf.same k hk (by rintro ⟨i, hi⟩; cases hi)⟩⟩

noncomputable def ofScan (N : Nat) : List LabD → Option Int
  | [] => some 0
  | x :: xs => (labels_alone N x).bind fun e => if e = 0 then ofScan N xs else some e

noncomputable def plD (l : List LabD) : Nat → DataW Unit
  | 0 => .map []
  | k + 1 => (plD l k).put (.string (l.getD k ([], ([], ()))).1) (.lit (.int .i64 (k : Int)))

def nmL (l : List LabD) (i : Nat) : List UInt8 := (l.getD i ([], ([], ()))).1

theorem keyLit (x : List UInt8) : WideAt.IsKeyLit (.string x) := by simp [WideAt.IsKeyLit]

theorem plD_tidy (l : List LabD) : ∀ k, Maps.Tidy (plD l k)
  | 0 => Maps.tidy_empty
  | k + 1 => (plD_tidy l k).put (keyLit _) _

theorem lit_ne {x y : List UInt8} (h : x ≠ y) : (Lit.string x) ≠ Lit.string y := fun e => h (by cases e; rfl)

theorem has_plD (l : List LabD) (x : List UInt8) : ∀ k, (Maps.has (plD l k) (.string x) = true ↔ ∃ i, i < k ∧ nmL l i = x)
  | 0 => by
    constructor
    · intro h; cases h
    · rintro ⟨i, hi, _⟩; omega
  | k + 1 => by
    by_cases hx : nmL l k = x
    · have : Maps.has (plD l (k + 1)) (.string x) = true := by
        rw [plD, ← hx]; exact Maps.has_put_same (plD_tidy l k).isMap (keyLit _) _
      exact ⟨fun _ => ⟨k, by omega, hx⟩, fun _ => this⟩
    · rw [show plD l (k + 1) = (plD l k).put (.string (nmL l k)) (.lit (.int .i64 (k : Int))) from rfl, Maps.has_put_other (lit_ne (fun e => hx e.symm)), has_plD l x k]
      constructor
      · rintro ⟨i, hi, h⟩; exact ⟨i, by omega, h⟩
      · rintro ⟨i, hi, h⟩
        refine ⟨i, ?_, h⟩
        rcases Nat.lt_or_ge i k with h1 | h1
        · exact h1
        · exact absurd (by rw [show k = i by omega]; exact h) hx

theorem size_plD (l : List LabD) : ∀ k, Maps.size (plD l k) ≤ k ∧ ((∀ i j, i < j → j < k → nmL l i ≠ nmL l j) → Maps.size (plD l k) = k) ∧ ((∃ i j, i < j ∧ j < k ∧ nmL l i = nmL l j) → Maps.size (plD l k) < k)
  | 0 => ⟨Nat.le_refl _, fun _ => rfl, fun ⟨_, _, _, h, _⟩ => by omega⟩
  | k + 1 => by
    obtain ⟨h1, h2, h3⟩ := size_plD l k
    have hp := Maps.size_put (plD_tidy l k) (k := .string (nmL l k)) (.lit (.int .i64 (k : Int)))
    have e : plD l (k + 1) = (plD l k).put (.string (nmL l k)) (.lit (.int .i64 (k : Int))) := rfl
    rw [e, hp]
    by_cases hh : Maps.has (plD l k) (.string (nmL l k)) = true
    · rw [if_pos hh]
      obtain ⟨i, hi, hn⟩ := (has_plD l _ k).1 hh
      exact ⟨by omega, fun hd => absurd hn (hd i k hi (by omega)), fun _ => by omega⟩
    · rw [if_neg hh]
      refine ⟨by omega, fun hd => by rw [h2 fun i j a b => hd i j a (by omega)], ?_⟩
      rintro ⟨i, j, hij, hj, hn⟩
      rcases Nat.lt_or_ge j k with h | h
      · have := h3 ⟨i, j, hij, h, hn⟩; omega
      · have : j = k := by omega
        subst this
        exact absurd ((has_plD l _ j).2 ⟨i, hij, hn⟩) hh

theorem atKey_plD (l : List LabD) (z : DataW Unit) : ∀ k, (∀ i j, i < j → j < k → nmL l i ≠ nmL l j) → ∀ i, i < k → (plD l k).atKey (.string (nmL l i)) z = .lit (.int .i64 (i : Int))
  | 0, _, i, hi => by omega
  | k + 1, hd, i, hi => by
    have e : plD l (k + 1) = (plD l k).put (.string (nmL l k)) (.lit (.int .i64 (k : Int))) := rfl
    rw [e]
    rcases Nat.lt_or_ge i k with h | h
    · rw [Maps.atKey_put_other (lit_ne (hd i k h (by omega)))]
      exact atKey_plD l z k (fun i j a b => hd i j a (by omega)) i h
    · have : i = k := by omega
      subst this
      exact Maps.atKey_put_same (plD_tidy l i).isMap (keyLit _) _ _

theorem keyOf_str11 (x : List UInt8) (hx : x.length ≤ maxLen) : keyOf Tryd.prog 9 (.string ⟨⟨x⟩⟩) = some (.string x) := Go.WideMaps.keyOf_string_mk Tryd.underlying9 (by simpa [ByteArray.size] using hx)

theorem mk_map11 {P : Program} {t k e : TypeId} (hu : P.underlying t = some (.map k e)) (w : World) (n : Int) : (Instr.makeMap t (some (.int .i64 n))).run P w = .ok (.map (some w.heap.size)) (w.alloc (.map #[] 0)) := by
  simp [Instr.makeMap, run_underlying hu, asInt, asIntOf, newObj, Sem.run]
  try rfl

theorem scan_step (N : Nat) {l : List LabD} {k : Nat} (hk : k < l.length) {e0 : Int} (h : ofScan N (l.drop k) = some e0) :
    ∃ na nb c, l.getD k ([], ([], ())) = (na, (nb, ())) ∧ labels_alone N (na, (nb, ())) = some c ∧ (c = 0 → ofScan N (l.drop (k + 1)) = some e0) ∧ (¬ c = 0 → e0 = c) := by
  rw [List.drop_eq_getElem_cons hk, ofScan] at h
  obtain ⟨c, hc, h'⟩ := Option.bind_eq_some_iff.1 h
  refine ⟨l[k].1, l[k].2.1, c, by simp [List.getD, hk], hc, fun h0 => by rw [if_pos h0] at h'; exact h', fun h0 => by rw [if_neg h0] at h'; cases h'; rfl⟩

theorem grown_cell {w w' : World} (h : w.grownBy w' none) {p : Addr} {v : Value} (hc : w.cell? p = some v) : w'.cell? p = some v := by
  have hlt : p.block < w.heap.size := by
    cases hh : w.heap[p.block]? with
    | none => simp [World.cell?, hh] at hc
    | some o => exact (Array.getElem?_eq_some_iff.1 hh).1
  rw [World.cell?_of_block (h.block _ hlt (by simp))]; exact hc

theorem sub_below {w w' : World} {S : Hp} (hS : Lift.Sub S (hp w)) (h : Go.RowKit.Below w.heap.size w w') : Lift.Sub S (hp w') := by
  intro k o hk
  have h3 := hS k o hk
  have := h.block k (hp_lt h3)
  simp only [hp] at h3 ⊢
  rw [this]; exact h3

theorem below_grown {w w1 w2 : World} {row : Option Nat} (h : Go.RowKit.Below w.heap.size w w1) (g : w1.grownBy w2 row) (hr : ∀ k, row = some k → w.heap.size ≤ k) : Go.RowKit.Below w.heap.size w w2 := h.grown g h.size hr

noncomputable def znD (D : DataW Unit) : List (List UInt8) := (strKeys D).mergeSort leB

theorem sorted_call2 (b nn : Nat) (D0 : DataW Unit) (R : Value → Option (DataW Unit × List MemPlace)) (w : World) (hown : w.ownsMap Tryd.prog 9 R b nn D0) (hmax : Maps.size D0 ≤ 32) :
    Calls Tryd.prog 23 #[.func (.func 41) #[] #[.pointer (some ⟨w.heap.size, 0, none⟩)]] (w.alloc (.cells #[.map (some b)] 43)) fun e w' => ∃ sa sc, e = .returned (.slice sa (znD D0).length sc) ∧
      (0 < (znD D0).length → ∃ g, sa = some ⟨g, 0, none⟩ ∧ w.heap.size + 1 ≤ g ∧ g < w'.heap.size ∧ ∀ j, j < (znD D0).length → w'.cell? ⟨g, j, none⟩ = some (.string ⟨⟨(znD D0).getD j []⟩⟩)) ∧ Go.RowKit.Below (w.heap.size + 1) (w.alloc (.cells #[.map (some b)] 43)) w' := by
  refine (sorted_call b nn D0 R w hown (by unfold maxLen; omega) (by omega)).mono ?_
  rintro e w' ⟨v, ss, rfl, hp, hrow, hnil, hb⟩
  have hz : ss.mergeSort (fun x y => decide (x ≤ y)) = znD D0 := mergeSort_of_perm hp
  have hl : ss.length = (znD D0).length := by rw [← hz, List.length_mergeSort]
  rw [hz, hl] at hrow
  have hsz : (w.alloc (.cells #[.map (some b)] 43)).heap.size = w.heap.size + 1 := by simp
  rw [hsz] at hrow hb
  rcases hrow.2 with ⟨rfl, h0⟩ | ⟨g, cap, cur, rfl, g1, g2, g3, g4, g5, g6⟩
  · exact ⟨none, 0, by rw [h0], fun h => by omega, hb⟩
  · refine ⟨_, cap, rfl, fun _ => ⟨g, rfl, g1, (Array.getElem?_eq_some_iff.1 g2).1, fun j hj => ?_⟩, hb⟩
    rw [Nat.mul_one] at g6
    have : cur[j]? = some (.string ⟨⟨(znD D0).getD j []⟩⟩) := by
      have h1 : (cur.toList.take (znD D0).length)[j]? = ((znD D0).map Go.Proofs.encStr)[j]? := by rw [g6]
      rw [List.getElem?_take_of_lt hj, Array.getElem?_toList, List.getElem?_map] at h1
      rw [h1, List.getD_eq_getElem?_getD, List.getElem?_eq_getElem hj]
      rfl
    simp [World.cell?, g2, this]

def lbOf (l : List LabD) (n : List UInt8) : LabD := (l.find? fun x => x.1 == n).getD ([], ([], ()))

noncomputable def distinctL (l : List LabD) : Prop := ∀ i j, i < j → j < l.length → nmL l i ≠ nmL l j

theorem lbOf_at {l : List LabD} (hd : distinctL l) {i : Nat} (hi : i < l.length) : lbOf l (nmL l i) = l.getD i ([], ([], ())) := by
  have h : l.find? (fun x => x.1 == nmL l i) = some l[i] := by
    rw [List.find?_eq_some_iff_getElem]
    refine ⟨by simp [nmL, List.getD, hi], i, hi, rfl, fun j hj => ?_⟩
    have := hd j i hj hi
    have e : nmL l j = l[j].1 := by simp [nmL, List.getD, show j < l.length by omega]
    rw [e] at this
    simpa using this
  rw [lbOf, h]
  simp [List.getD, hi]

noncomputable def ofTo (l : List LabD) (k : Nat) : List LabD := (((znD (plD l l.length)).take k).map (lbOf l)).filter fun x => !x.2.1.isEmpty

noncomputable def ofOut (l : List LabD) : List LabD := ofTo l (znD (plD l l.length)).length

theorem ofTo_succ (l : List LabD) {k : Nat} (hk : k < (znD (plD l l.length)).length) : ofTo l (k + 1) = ofTo l k ++ (if (lbOf l ((znD (plD l l.length)).getD k [])).2.1 = [] then [] else [lbOf l ((znD (plD l l.length)).getD k [])]) := by
  unfold ofTo
  rw [List.take_succ_eq_append_getElem hk, List.map_append, List.filter_append]
  congr 1
  rw [List.getD_eq_getElem?_getD, List.getElem?_eq_getElem hk]
  simp only [Option.getD_some, List.map_cons, List.map_nil]
  by_cases h : (lbOf l (znD (plD l l.length))[k]).2.1 = []
  · rw [if_pos h]; simp [h]
  · rw [if_neg h]; simp [h]

theorem ofTo_len (l : List LabD) (k : Nat) : (ofTo l k).length ≤ k := by
  unfold ofTo
  exact Nat.le_trans (List.length_filter_le _ _) (by simp; omega)

noncomputable def labCells (l : List LabD) : List Value := l.flatMap fun x => [.string ⟨⟨x.1⟩⟩, .string ⟨⟨x.2.1⟩⟩]

theorem plD_str (l : List LabD) : ∀ k, ∃ es, plD l k = .map es ∧ ∀ p ∈ es, ∃ x, p.1 = .string x
  | 0 => ⟨[], rfl, fun p hp => by cases hp⟩
  | k + 1 => by
    obtain ⟨es, he, hs⟩ := plD_str l k
    have e : plD l (k + 1) = (plD l k).put (.string (nmL l k)) (.lit (.int .i64 (k : Int))) := rfl
    rw [he] at e
    refine ⟨_, e, fun p hp => ?_⟩
    rcases ChangeMaps.mem_insert_iff.1 hp with h | h
    · exact ⟨nmL l k, by rw [h]⟩
    · exact hs p (List.mem_filter.1 h).1

theorem zn_mem {l : List LabD} {k : Nat} (hk : k < (znD (plD l l.length)).length) : ∃ i, i < l.length ∧ nmL l i = (znD (plD l l.length)).getD k [] := by
  have hm : (znD (plD l l.length)).getD k [] ∈ strKeys (plD l l.length) := by
    rw [List.getD_eq_getElem?_getD, List.getElem?_eq_getElem hk]
    exact (List.mergeSort_perm _ _).mem_iff.1 (List.getElem_mem hk)
  generalize (znD (plD l l.length)).getD k [] = x at hm
  apply (has_plD l x l.length).1
  obtain ⟨es, he, hs⟩ := plD_str l l.length
  rw [he] at hm ⊢
  rw [Maps.has_eq, List.any_eq_true]
  obtain ⟨p, hp, hx⟩ := List.mem_map.1 hm
  obtain ⟨y, hy⟩ := hs p hp
  rw [hy] at hx
  refine ⟨p, hp, ?_⟩
  rw [hy, ← show y = x from hx]
  exact WideAt.sameKey_self (keyLit y)

noncomputable def ixO (v : Value) : Nat := match v with | .int _ i => i.toNat | _ => 0

theorem cell_alloc0 (w : World) (v u : Value) (E : Nat) : (w.alloc (.cells #[v, u] E)).cell? ⟨w.heap.size, 0, none⟩ = some v := by
  rw [World.cell?_alloc_at _ _ _ _ rfl]; rfl

theorem lab_info : ∃ inf z, Tryd.prog.info? 42 = some inf ∧ inf.zero = some z ∧ inf.size = 2 ∧ inf.bytes = 32 ∧ z.cells.size = 2 := by
  obtain ⟨inf, h1, h2, h3, z, h4, h5⟩ := ty42_ok.info
  refine ⟨inf, z, h1, h4, h2, h3, ?_⟩
  have := h5.cells.length
  rw [Array.length_toList] at this
  rw [this]; rfl

theorem zn_len (l : List LabD) (k : Nat) : (znD (plD l k)).length = Maps.size (plD l k) := by
  obtain ⟨es, he, _⟩ := plD_str l k
  rw [znD, List.length_mergeSort, he]
  show (es.map _).length = es.length
  rw [List.length_map]

theorem own_blk {w : World} {B E sz n : Nat} {v : Value} {xs : List Value} (h : w.ownsRow B E sz v n xs) : ∀ q, v.ownBlock = some q → B ≤ q := by
  intro q hq
  rcases h.2 with ⟨rfl, _⟩ | ⟨g, cap, cur, rfl, g1, _⟩
  · cases hq
  · cases hq; exact g1

theorem own_base {w : World} {B B' E sz n : Nat} {v : Value} {xs : List Value} (h : w.ownsRow B E sz v n xs) (hB : B' ≤ B) : w.ownsRow B' E sz v n xs := by
  refine ⟨h.1, ?_⟩
  rcases h.2 with h | ⟨g, cap, cur, e, g1, g2⟩
  · exact .inl h
  · exact .inr ⟨g, cap, cur, e, Nat.le_trans hB g1, g2⟩

theorem labCells_app (l m : List LabD) : labCells (l ++ m) = labCells l ++ labCells m := by simp [labCells]

set_option maxHeartbeats 4000000 in
theorem of_walk (N : Nat) {w : World} {S : Hp} (hS : Lift.Sub S (hp w)) (hg : GlobOk glob S) {a : Option Addr} {bl off cap : Nat} {l : List LabD} (ha : 0 < l.length → a = some ⟨bl, off, none⟩) (hbl : 0 < l.length → bl < w.heap.size)
    (h1 : ∀ j, j < l.length → w.cell? ⟨bl, off + j * 2, none⟩ = some (.string ⟨⟨(l.getD j ([], ([], ()))).1⟩⟩)) (h2 : ∀ j, j < l.length → w.cell? ⟨bl, off + j * 2 + 1, none⟩ = some (.string ⟨⟨(l.getD j ([], ([], ()))).2.1⟩⟩))
    (hn : l.length ≤ 32) (hlen : ∀ j, j < l.length → (nmL l j).length ≤ maxLen) {e0 : Int} (hscan : ofScan N l = some e0) {R : Ending → World → Prop}
    (HR1 : Go.RowKit.Hid (∀ w', Go.RowKit.Below w.heap.size w w' → ¬ e0 = 0 → R (.returned (.tuple #[.slice none 0 0, .int .i64 e0])) w'))
    (HR2 : Go.RowKit.Hid (∀ w', Go.RowKit.Below w.heap.size w w' → e0 = 0 → ¬ distinctL l → R (.returned (.tuple #[.slice none 0 0, .int .i64 5])) w'))
    (HR3 : Go.RowKit.Hid (∀ v w', Go.RowKit.Below w.heap.size w w' → e0 = 0 → distinctL l → w'.ownsRow w.heap.size 42 2 v (ofOut l).length (labCells (ofOut l)) → R (.returned (.tuple #[v, .int .i64 0])) w')) :
    Calls Tryd.prog 9 #[.slice a l.length cap] w R := by
  have hd32 : ¬ (32 : Int) < (l.length : Int) := by omega
  have hmk : (Instr.makeMap 43 (some (.int .i64 (l.length : Int)))).run Tryd.prog w = .ok (.map (some w.heap.size)) (w.alloc (.map #[] 0)) := by
    exact mk_map11 Tryd.underlying43 w _
  have hm0 := World.ownsMap_made (H := Unit) w Tryd.prog 9 (plainElem Tryd.prog 3)
  go_enter Tryd.func9, Tryd.ntmps9
  go_wp2
  go_loopw [20] (fun i wr => ∃ k : Nat, i = .int .i64 (k : Int) ∧ k ≤ l.length ∧ wr.ownsMap (H := Unit) Tryd.prog 9 (plainElem Tryd.prog 3) w.heap.size k (plD l k) ∧ Go.RowKit.Below w.heap.size w wr ∧ ofScan N (l.drop k) = some e0) (fun i _ => l.length - ixO i)
  case atStart => exact ⟨0, rfl, Nat.zero_le _, hm0, (Go.RowKit.Below.refl _ w).alloc (Nat.le_refl _) _, hscan⟩
  case round =>
    obtain ⟨k, rfl, hk, hown, hB, hsc⟩ := hrel
    rcases Nat.lt_or_ge k l.length with hlt | hge
    · have hd : decide ((k : Int) < (l.length : Int)) = true := decide_eq_true (by omega)
      have hb1 : (0 : Int) ≤ (k : Int) := by omega
      have hb2 : (k : Int) < (l.length : Int) := by omega
      have hA := ha (by omega)
      subst hA
      have hBb := hbl (by omega)
      obtain ⟨na, nb, c, hx, hy, hz0, hz1⟩ := scan_step N hlt hsc
      have e1 := h1 k hlt
      have e2 := h2 k hlt
      have hln := hlen k hlt
      rw [nmL, hx] at hln
      rw [hx] at e1 e2
      have c1 := (hB.cell (p := ⟨bl, off + k * 2, none⟩) hBb).trans e1
      have c2 := (hB.cell (p := ⟨bl, off + k * 2 + 1, none⟩) hBb).trans e2
      clear e1 e2
      have hSw := sub_below hS ((hB.alloc hB.size (.cells #[.string ⟨⟨na⟩⟩, .string ⟨⟨nb⟩⟩] 42)))
      have hkey := keyOf_str11 na hln
      have hval : plainElem (H := Unit) Tryd.prog 3 (.int .i64 (k : Int)) = some (.lit (.int .i64 (k : Int)), []) := plainElem_int Tryd.underlying3 (WalkArith.wf_i64 (by omega))
      have hpl : plD l (k + 1) = (plD l k).put (.string na) (.lit (.int .i64 (k : Int))) := by
        show (plD l k).put (.string (l.getD k ([], ([], ()))).1) _ = _
        rw [hx]
      by_cases hc0 : c = 0
      · subst hc0
        have hsc1 := hz0 rfl
        clear hz0 hz1 hsc
        go_wp2_with (first
          | (go_at_call 22; refine (alone_call N hSw hg hy).mono ?_; rintro e w1 ⟨rfl, hg1⟩; have hc6 := grown_cell hg1 (cell_alloc0 wr (.string ⟨⟨na⟩⟩) (.string ⟨⟨nb⟩⟩) 42); have hown1 := (hown.alloc (.cells #[.string ⟨⟨na⟩⟩, .string ⟨⟨nb⟩⟩] 42)).kept hg1 (by simp))
          | (at_mapUpdate; refine wpList_mapUpdate_own _ rfl _ _ _ 43 rfl 9 3 (Go.Maps.string_keyed Tryd.underlying9) Tryd.underlying43 _ w.heap.size k (plD l k) rfl hown1 (by unfold maxLen; omega) _ _ (.string na) rfl rfl hkey (.lit (.int .i64 (k : Int))) [] hval ?_; intro w2 hown2 hgrow2))
        rw [← hpl] at hown2
        refine ⟨⟨k + 1, by rw [Int.natCast_add]; rfl, by omega, hown2, below_grown (below_grown (hB.alloc hB.size _) hg1 (fun _ h => by cases h)) hgrow2 (fun q hq => by cases hq; exact Nat.le_refl _), hsc1⟩, ?_⟩
        show l.length - ((k : Int) + 1).toNat < l.length - (k : Int).toNat
        omega
      · have := hz1 hc0
        subst this
        clear hz0 hz1
        have hne : (e0 != 0) = true := bne_iff_ne.2 hc0
        go_wp2_with (first
          | (go_at_call 22; refine (alone_call N hSw hg hy).mono ?_; rintro e w1 ⟨rfl, hg1⟩))
        exact HR1.out _ (below_grown (hB.alloc hB.size _) hg1 (fun _ h => by cases h)) hc0
    · have hkl : k = l.length := by omega
      subst hkl
      have hd : decide (((l.length : Nat) : Int) < (l.length : Int)) = false := decide_eq_false (by omega)
      have he0 : e0 = 0 := by
        rw [List.drop_of_length_le (Nat.le_refl _)] at hsc
        cases hsc; rfl
      obtain ⟨s1, s2, s3⟩ := size_plD l l.length
      by_cases hdi : distinctL l
      · have hsz := s2 hdi
        clear s1 s2 s3
        have hd2 : ¬ ((Maps.size (plD l l.length) : Nat) : Int) < (l.length : Int) := by rw [hsz]; omega
        go_wp2_with (first
          | (at_len; refine wpList_len_own _ rfl _ 43 rfl 9 3 Tryd.underlying43 _ w.heap.size l.length (plD l l.length) rfl hown ?_)
          | (go_at_call 24; refine (keys_call _ _).mono ?_; rintro e w' ⟨rfl, rfl⟩)
          | (go_at_call 23; refine (sorted_call2 w.heap.size l.length (plD l l.length) _ wr hown (by omega)).mono ?_; rintro e W ⟨sa, sc, rfl, hsa, hBW⟩))
        have hBW' : Go.RowKit.Below w.heap.size w W := (hB.alloc hB.size (.cells #[.map (some w.heap.size)] 43)).trans ⟨hBW.os, hBW.tape, hBW.output, hBW.size, fun q hq => hBW.block q (by have := hB.size; omega)⟩
        have hownW : W.ownsMap (H := Unit) Tryd.prog 9 (plainElem Tryd.prog 3) w.heap.size l.length (plD l l.length) := (hown.alloc (.cells #[.map (some w.heap.size)] 43)).kept (row := none) ⟨hBW.os, hBW.tape, hBW.output, hBW.size, fun q hq _ => hBW.block q (by simpa using hq)⟩ (by simp)
        clear hown hB hBW
        generalize hZ : znD (plD l l.length) = Z at hsa
        generalize hM : Z.length = M at hsa
        have hw1 : w.heap.size < W.heap.size := hownW.lt
        have hMl : M ≤ 32 := by rw [← hM, ← hZ, zn_len, hsz]; exact hn
        go_loopw [8, 44] (fun v j wr => ∃ k : Nat, j = .int .i64 (k : Int) ∧ k ≤ M ∧ wr.ownsRow W.heap.size 42 2 v (ofTo l k).length (labCells (ofTo l k)) ∧ Go.RowKit.Below W.heap.size W wr) (fun _ j _ => M - ixO j)
        case atStart => exact ⟨0, rfl, Nat.zero_le _, World.ownsRow_nil _ _ _ _, Go.RowKit.Below.refl _ W⟩
        case round =>
          obtain ⟨k, rfl, hk, hrow, hBB⟩ := hrel
          have hownR : wr.ownsMap (H := Unit) Tryd.prog 9 (plainElem Tryd.prog 3) w.heap.size l.length (plD l l.length) := hownW.kept (row := none) ⟨hBB.os, hBB.tape, hBB.output, hBB.size, fun q hq _ => hBB.block q hq⟩ (by simp)
          rcases Nat.lt_or_ge k M with hlt | hge
          · have hd : decide ((k : Int) < (M : Int)) = true := decide_eq_true (by omega)
            have hb1 : (0 : Int) ≤ (k : Int) := by omega
            have hb2 : (k : Int) < (M : Int) := by omega
            obtain ⟨g, rfl, hg1, hg2, hgc⟩ := hsa (by omega)
            have cg := (hBB.cell (p := ⟨g, k, none⟩) hg2).trans (hgc k hlt)
            have hkz : k < (znD (plD l l.length)).length := by rw [hZ, hM]; exact hlt
            obtain ⟨i, hi, hni⟩ := zn_mem hkz
            rw [hZ] at hni
            have hlb := lbOf_at hdi hi
            have hto := ofTo_succ l hkz
            rw [hZ, ← hni, hlb] at hto
            rw [← hni] at cg
            have hln := hlen i hi
            have e1 := h1 i hi
            have e2 := h2 i hi
            have hA := ha (by omega)
            subst hA
            have hBb := hbl (by omega)
            have hat := atKey_plD l (.lit (.int .i64 0)) l.length hdi i hi
            obtain ⟨na, nb, hx⟩ : ∃ na nb, l.getD i ([], ([], ())) = (na, (nb, ())) := ⟨_, _, rfl⟩
            have hnn : nmL l i = na := by rw [nmL, hx]
            rw [hx] at e1 e2 hto
            rw [hnn] at cg hln hat
            have hkey := keyOf_str11 na hln
            obtain ⟨c, hrun, hc, _⟩ := hownR.lookup_int (Go.Maps.string_keyed Tryd.underlying9) Tryd.underlying43 Tryd.underlying3 (Tryd.zeroValue3 wr) hkey
            rw [hat] at hc
            have hci : c = (i : Int) := by injection hc with hc; injection hc with _ hc; exact hc.symm
            subst hci
            have c1 := ((hBB.cell (p := ⟨bl, off + i * 2, none⟩) (by show bl < _; omega)).trans (hBW'.cell (p := ⟨bl, off + i * 2, none⟩) hBb)).trans e1
            have c2 := ((hBB.cell (p := ⟨bl, off + i * 2 + 1, none⟩) (by show bl < _; omega)).trans (hBW'.cell (p := ⟨bl, off + i * 2 + 1, none⟩) hBb)).trans e2
            have hi1 : (0 : Int) ≤ (i : Int) := by omega
            have hi2 : (i : Int) < (l.length : Int) := by omega
            have hto' := Go.Lib.hid hto
            have hnd := Go.Lib.hid hni
            have hlen' := ofTo_len l k
            clear e1 e2 hat hc hx hni hto hlb hnn hgc hsa
            obtain ⟨inf, z, i1, i2, i3, i4, i5⟩ := lab_info
            by_cases hnb : nb = []
            · subst hnb
              go_wp2
              refine ⟨⟨k + 1, by rw [Int.natCast_add]; rfl, by omega, ?_, (hBB.alloc hBB.size _)⟩, ?_⟩
              · have := hto'.out
                rw [if_pos rfl, List.append_nil] at this
                rw [this]
                exact hrow.alloc _
              · show M - ((k : Int) + 1).toNat < M - (k : Int).toNat
                omega
            · have hne : nb.isEmpty = false := by cases nb with | nil => exact absurd rfl hnb | cons a t => rfl
              go_wp2_with (first
                | (at_builtin; refine wpList_append_own _ rfl _ _ 22 rfl W.heap.size 42 inf z 2 32 Tryd.underlying22 i1 i2 i3 i4 i5 (by decide) _ _ _ rfl ((hrow.alloc _).alloc _) ⟨wr.heap.size + 1, 0, none⟩ 1 1 [.string ⟨⟨na⟩⟩, .string ⟨⟨nb⟩⟩] rfl rfl ?c1 ?c2 ?c3 ?c4 ?c5 ?_))
              case c2 => exact ⟨rfl, rfl⟩
              case c3 => unfold maxLen; omega
              case c4 => omega
              case c5 => have := hBB.size; omega
              intro v' w3 hrow3 hgrow3 _
              go_wp2
              refine ⟨⟨k + 1, (by rw [Int.natCast_add]; rfl : Value.int .i64 ((k : Int) + 1) = .int .i64 ((k + 1 : Nat) : Int)), by omega, ?_, ((hBB.alloc hBB.size _).alloc (by have := hBB.size; simp; omega) _).grown hgrow3 (by have := hBB.size; simp; omega) (own_blk hrow)⟩, ?_⟩
              · have := hto'.out
                rw [if_neg hnb] at this
                rw [this, List.length_append, labCells_app]
                exact hrow3
              · show M - ((k : Int) + 1).toNat < M - (k : Int).toNat
                omega
          · have hkM : k = M := by omega
            subst hkM
            have hd : decide ((k : Int) < (k : Int)) = false := decide_eq_false (by omega)
            have hout : ofTo l k = ofOut l := by rw [ofOut, hZ, hM]
            rw [hout] at hrow
            clear hsa
            go_wp2
            exact HR3.out _ _ (hBW'.trans ⟨hBB.os, hBB.tape, hBB.output, hBB.size, fun q hq => hBB.block q (by omega)⟩) he0 hdi (own_base hrow (by omega))
      · have hnd : ∃ i j, i < j ∧ j < l.length ∧ nmL l i = nmL l j := by
          apply Classical.byContradiction
          intro h
          exact hdi fun i j hij hj he => h ⟨i, j, hij, hj, he⟩
        have hsz := s3 hnd
        clear s1 s2 s3
        have hd2 : ((Maps.size (plD l l.length) : Nat) : Int) < (l.length : Int) := by omega
        go_wp2_with (first
          | (at_len; refine wpList_len_own _ rfl _ 43 rfl 9 3 Tryd.underlying43 _ w.heap.size l.length (plD l l.length) rfl hown ?_))
        exact HR2.out _ hB he0 hdi

abbrev LabT : T := .pair .str (.pair .str .unit)

theorem all_labs {S : Hp} : ∀ {xs : List LabD} {cs : List Value}, Lift.All (Rd S LabT) xs cs → cs = labCells xs
  | [], _, h => h
  | x :: xs, _, ⟨c1, c2, e, h1, h2⟩ => by
    obtain ⟨d1, d2, e1, k1, d3, d4, e2, k2, k3⟩ := h1
    have e3 : d1 = [.string ⟨⟨x.1⟩⟩] := k1
    have e4 : d3 = [.string ⟨⟨x.2.1⟩⟩] := k2
    have e5 : d4 = [] := k3
    rw [e, all_labs h2, e1, e2, e3, e4, e5]; rfl

theorem labs_all (S : Hp) : ∀ (xs : List LabD), Lift.All (Rd S LabT) xs (labCells xs)
  | [] => rfl
  | x :: xs => ⟨[.string ⟨⟨x.1⟩⟩, .string ⟨⟨x.2.1⟩⟩], labCells xs, rfl, ⟨[.string ⟨⟨x.1⟩⟩], [.string ⟨⟨x.2.1⟩⟩], rfl, rfl, [.string ⟨⟨x.2.1⟩⟩], [], rfl, rfl, rfl⟩, labs_all S xs⟩

theorem labCells_len (xs : List LabD) : (labCells xs).length = xs.length * 2 := by
  induction xs with
  | nil => rfl
  | cons x xs ih => show (_ :: _ :: labCells xs).length = _; rw [List.length_cons, List.length_cons, ih, List.length_cons]; omega

theorem labCells_at {xs : List LabD} {j : Nat} (h : j < xs.length) : (labCells xs)[j * 2]? = some (.string ⟨⟨(xs.getD j ([], ([], ()))).1⟩⟩) ∧ (labCells xs)[j * 2 + 1]? = some (.string ⟨⟨(xs.getD j ([], ([], ()))).2.1⟩⟩) := by
  induction xs generalizing j with
  | nil => cases h
  | cons x xs ih =>
    have e : labCells (x :: xs) = .string ⟨⟨x.1⟩⟩ :: .string ⟨⟨x.2.1⟩⟩ :: labCells xs := rfl
    cases j with
    | zero => rw [e]; exact ⟨rfl, rfl⟩
    | succ j =>
      have := ih (j := j) (by simpa using h)
      rw [e, show (j + 1) * 2 = (j * 2 + 1) + 1 by omega]
      simp only [List.getElem?_cons_succ]
      rw [show (x :: xs).getD (j + 1) ([], ([], ())) = xs.getD j ([], ([], ())) from rfl]
      exact this

noncomputable instance (l : List LabD) : Decidable (distinctL l) := Classical.propDecidable _

noncomputable def labels_Of (N : Nat) (l : List LabD) : Option (List LabD × Int × Unit) :=
 if 32 < l.length then some ([], 3, ()) else
 if ∀ j, j < l.length → (nmL l j).length ≤ 1000000 then
 (ofScan N l).bind fun e => if e = 0 then (if distinctL l then some (ofOut l, 0, ()) else some ([], 5, ())) else some ([], e, ())
 else none

noncomputable def labels_Of_res (N : Nat) : List A → Res := resOf [(0, .v (.sl LabT))] (fun x => labels_Of N x.1) (oRes (.tup [(.sl LabT), (.int .i64)]) 1)

theorem of_long {w : World} {a : Option Addr} {n cap : Nat} (h : 32 < n) : Calls Tryd.prog 9 #[.slice a n cap] w fun e w' => e = .returned (.tuple #[.slice none 0 0, .int .i64 3]) ∧ w' = w := by
  have hd : (32 : Int) < (n : Int) := by omega
  go_enter Tryd.func9, Tryd.ntmps9
  go_wp2
  exact ⟨rfl, .tuple #[.slice none 0 0, .int .i64 3], by simp [results, Tryd.results9], rfl, rfl⟩

theorem of_ends {w w' : World} {S : Hp} {l : List LabD} {v u : Value} {ob : Nat → List Nat} {xs : List LabD} {e : Int} (hS : Lift.Sub S (hp w)) (hob : ∀ i, ob i = []) (hB : Go.RowKit.Below w.heap.size w w')
    (hr : w'.ownsRow w.heap.size 42 2 v xs.length (labCells xs)) :
    Lift.Ends w S (mkS [(0, .v (.sl LabT))] 0 (l, ())) [u] ob (oRes (.tup [(.sl LabT), (.int .i64)]) 1 (xs, (e, ()))).1 (oRes (.tup [(.sl LabT), (.int .i64)]) 1 (xs, (e, ()))).2 (.returned (.tuple #[v, .int .i64 e])) w' := by
  have hSw := sub_below hS hB
  have hsome : ∀ k, S k ≠ none → k < w.heap.size := fun k hk => by
    cases hs : S k with
    | none => exact absurd hs hk
    | some o => exact hp_lt (hS k o hs)
  refine ⟨_, fun k => if w.heap.size ≤ k then hp w' k else S k, [], ob, rfl, ⟨hB.size, fun k hk _ => hB.block k hk, hB.tape, hB.os, hB.output⟩, fun k o hk => ?_, fun k o hk => ?_, fun k hk => ?_, ⟨⟨rfl, _, rfl, .cons ?_ (.cons VR.int .nil)⟩, rfl⟩, (fun k hk => by cases hk), .nil, ?_, ?_, ?_, ?_, fun i hi => hi⟩
  · dsimp only
    rw [if_neg (by have := hsome k (by rw [hk]; simp); omega)]
    exact hk
  · dsimp only at hk
    split at hk
    · exact hk
    · exact hSw k o hk
  · dsimp only at hk
    split at hk
    · exact .inr (.inr (by assumption))
    · exact .inl hk
  · show VR _ (.sl LabT) xs v
    refine VR.of_one rfl ?_
    rcases hr.2 with ⟨rfl, h0⟩ | ⟨g, cap, cur, rfl, g1, g2, g3, g4, g5, g6⟩
    · rw [List.length_eq_zero_iff] at h0
      rw [h0]
      exact ⟨none, 0, rfl, Nat.le_refl _, .inl rfl⟩
    · refine ⟨_, cap, rfl, g3, .inr ⟨g, 0, labCells xs, rfl, ⟨cur, 42, (0, 0), [], cur.toList.drop (xs.length * 2), ?_, ?_, rfl⟩, labs_all _ xs⟩⟩
      · dsimp only
        rw [if_pos g1]; exact g2
      · rw [← g6, List.nil_append, List.take_append_drop]
  · intro i z hz hbx
    match i with
    | 0 => simp [mkS, deads, AS.mk] at hz; subst hz; cases hbx
    | i + 1 => simp [mkS, deads] at hz
  · intro i k hk
    rw [hob i] at hk; cases hk
  · intro i j k hi
    rw [hob i] at hi; cases hi
  · intro i
    rw [hob i]; exact .nil

theorem labels_Of_ct (N : Nat) : Contract Tryd.prog glob 9 (labels_Of_res N) := by
  refine Contract.hand ⟨_, Tryd.func9, by kernel_rfl, by decide⟩ ?_
  intro w S vals ob x y har hS hg hy
  obtain ⟨l, u⟩ := x
  cases u
  dsimp only at hy
  obtain ⟨⟨v0, hv0, hA0, ho0⟩, _⟩ := har.rel 0 _ rfl
  have hlen := har.len
  obtain ⟨u0, rfl⟩ : ∃ u0, vals = [u0] := by
    have : vals.length = 1 := by simpa [mkS, deads] using hlen.symm
    match vals, this with
    | [a], _ => exact ⟨a, rfl⟩
  simp at hv0
  subst hv0
  have hnone : ∀ i, ob i = [] := by
    intro i
    match i with
    | 0 => exact ho0
    | i + 1 => exact har.out _ (by simp [mkS, deads])
  have hr : ∃ a cap, [u0] = [Value.slice a l.length cap] ∧ l.length ≤ cap ∧ (l = [] ∨ ∃ b off c1, a = some ⟨b, off, none⟩ ∧ Lies S b off c1 ∧ Lift.All (Rd S LabT) l c1) := hA0
  obtain ⟨a, cap, he, hcap, hr⟩ := hr
  cases he
  unfold labels_Of at hy
  by_cases h32 : 32 < l.length
  · rw [if_pos h32] at hy
    cases hy
    refine (of_long h32).mono ?_
    rintro e w' ⟨rfl, rfl⟩
    exact of_ends hS hnone (Go.RowKit.Below.refl _ _) (World.ownsRow_nil _ _ _ _)
  · rw [if_neg h32] at hy
    by_cases hnl : ∀ j, j < l.length → (nmL l j).length ≤ 1000000
    · rw [if_pos hnl] at hy
      obtain ⟨e0, hsc, hy⟩ := Option.bind_eq_some_iff.1 hy
      obtain ⟨bl, off, ha, hbl, h1, h2⟩ : ∃ bl off, (0 < l.length → a = some ⟨bl, off, none⟩) ∧ (0 < l.length → bl < w.heap.size) ∧ (∀ j, j < l.length → w.cell? ⟨bl, off + j * 2, none⟩ = some (.string ⟨⟨(l.getD j ([], ([], ()))).1⟩⟩)) ∧ (∀ j, j < l.length → w.cell? ⟨bl, off + j * 2 + 1, none⟩ = some (.string ⟨⟨(l.getD j ([], ([], ()))).2.1⟩⟩)) := by
        rcases hr with rfl | ⟨b, off, c1, rfl, ⟨all, E, fr, c0, c2, e, e1, e2⟩, hall⟩
        · exact ⟨0, 0, (fun h => by cases h), (fun h => by cases h), (fun j h => by cases h), (fun j h => by cases h)⟩
        · have hc := all_labs hall
          have e3 := hS _ _ e
          refine ⟨b, off, fun _ => rfl, fun _ => hp_lt e3, fun j hj => ?_, fun j hj => ?_⟩
          all_goals
            obtain ⟨q1, q2⟩ := labCells_at hj
            have hb : ∀ i, i < 2 → (labCells l)[j * 2 + i]? = all[off + j * 2 + i]? := fun i hi => by
              rw [← Array.getElem?_toList, e1, List.getElem?_append_right (by omega), e2, show off + j * 2 + i - off = j * 2 + i by omega, hc, List.getElem?_append_left (by rw [labCells_len]; omega)]
            simp only [hp] at e3
          · have := hb 0 (by omega)
            rw [Nat.add_zero, Nat.add_zero, q1] at this
            simp [World.cell?, e3, ← this]
          · have := hb 1 (by omega)
            rw [q2] at this
            simp [World.cell?, e3, ← this]
      refine (of_walk N hS hg (a := a) (bl := bl) (off := off) (cap := cap) (l := l) ha hbl h1 h2 (by omega) (fun j hj => Nat.le_trans (hnl j hj) (by unfold maxLen; omega)) hsc (Go.Lib.hid fun w' hB hne => ?_) (Go.Lib.hid fun w' hB he hnd => ?_) (Go.Lib.hid fun v w' hB he hd hrow => ?_))
      · rw [if_neg hne] at hy
        cases hy
        exact of_ends hS hnone hB (World.ownsRow_nil _ _ _ _)
      · rw [if_pos he, if_neg hnd] at hy
        cases hy
        exact of_ends hS hnone hB (World.ownsRow_nil _ _ _ _)
      · rw [if_pos he, if_pos hd] at hy
        cases hy
        exact of_ends hS hnone hB hrow
    · rw [if_neg hnl] at hy
      cases hy

noncomputable def body_31 : Code := (Tryd.f28.body).getD .skip

noncomputable def L_31 : List (List Nat × List Nat) := [([0], [1, 0, 6, 2]), ([0, 0, 1], [10, 1, 6, 0, 2]), ([1, 0, 1], [0, 1, 2, 6]), ([0, 0, 1, 0, 1], [6]), ([1, 0, 1, 0, 1], [6]), ([0, 0, 1, 1], [17, 1, 6]), ([1, 0, 1, 1], [6]), ([0, 0, 1, 0, 1, 1], [6]), ([1, 0, 1, 0, 1, 1], [6]), ([0, 1, 1, 1], [6]), ([1, 1, 1, 1], [6])]

noncomputable def E_31 (N : Nat) : Env := mkEnv tys glob [] [] [] [] false [] []

theorem Eok_31 (N : Nat) : EnvOk Tryd.prog (E_31 N) := mkEnv_ok mixed tys_ok (FnsOk.nil) (ItsOk.nil)

noncomputable def labels_need (N : Nat) (s : (List UInt8)) (at_ : Int) (want : Int) : Option (Int × (Int × Unit)) :=
 cond (at_ == (((List.length s) : Nat) : Int))
 (some ((1 : Int), (at_, ())))
 (cond (inR at_ (List.length s))
 (cond ((((UInt8.toNat (List.getD s (Int.toNat at_) (0 : UInt8))) : Nat) : Int) != want)
 (some ((2 : Int), (at_, ())))
 (some ((0 : Int), ((0 : Int), ()))))
 (none))

noncomputable def t_31 (N : Nat) : Tab (Int × (Int × Unit)) := []

theorem link_31 (N : Nat) (x : denS [(0, .v .str), (0, .v (.int .i64)), (0, .v (.int .u8))]) : evFX (E_31 N) N (t_31 N) L_31 Tryd.f28 (mkS [(0, .v .str), (0, .v (.int .i64)), (0, .v (.int .u8))] 0 x) (kRes (.v TT2) 3) = labels_need N x.1 x.2.1 x.2.2.1 := by kernel_rfl

noncomputable def labels_need_res (N : Nat) : List A → Res := resOf [(0, .v .str), (0, .v (.int .i64)), (0, .v (.int .u8))] (fun x => labels_need N x.1 x.2.1 x.2.2.1) (oRes (.v TT2) 3)

theorem labels_need_ct (N : Nat) : Contract Tryd.prog glob 28 (labels_need_res N) :=
  Contract.of (E := E_31 N) (H := t_31 N) (L := L_31) (N := N) (body := body_31) (K := (kRes (.v TT2) 3)) (Eok_31 N) Tryd.func28 (by kernel_rfl) (by decide) (fun _ hb => TabOk.nil) (fun x y h => by rw [link_31]; exact h) (kRes_ok (s := (.v TT2)) (m := 3))

noncomputable def body_32 : Code := (Tryd.f29.body).getD .skip

noncomputable def L_32 : List (List Nat × List Nat) := [([0], [0, 1, 2]), ([0, 1], [6]), ([1, 1], [6])]

noncomputable def E_32 (N : Nat) : Env := mkEnv tys glob [(28, labels_need_res N)] [] [] [] false [] []

theorem Eok_32 (N : Nat) : EnvOk Tryd.prog (E_32 N) := mkEnv_ok mixed tys_ok (FnsOk.cons (labels_need_ct N) (FnsOk.nil)) (ItsOk.nil)

noncomputable def labels_has (N : Nat) (s : (List UInt8)) (at_ : Int) (want : Int) : Option Bool :=
 (labels_need N s at_ want).bind fun y =>
 some (y.1 == (0 : Int))

noncomputable def t_32 (N : Nat) : Tab Bool := []

theorem link_32 (N : Nat) (x : denS [(0, .v .str), (0, .v (.int .i64)), (0, .v (.int .u8))]) : evFX (E_32 N) N (t_32 N) L_32 Tryd.f29 (mkS [(0, .v .str), (0, .v (.int .i64)), (0, .v (.int .u8))] 0 x) (kRes (.v .bool) 3) = labels_has N x.1 x.2.1 x.2.2.1 := by kernel_rfl

noncomputable def labels_has_res (N : Nat) : List A → Res := resOf [(0, .v .str), (0, .v (.int .i64)), (0, .v (.int .u8))] (fun x => labels_has N x.1 x.2.1 x.2.2.1) (oRes (.v .bool) 3)

theorem labels_has_ct (N : Nat) : Contract Tryd.prog glob 29 (labels_has_res N) :=
  Contract.of (E := E_32 N) (H := t_32 N) (L := L_32) (N := N) (body := body_32) (K := (kRes (.v .bool) 3)) (Eok_32 N) Tryd.func29 (by kernel_rfl) (by decide) (fun _ hb => TabOk.nil) (fun x y h => by rw [link_32]; exact h) (kRes_ok (s := (.v .bool)) (m := 3))

noncomputable def body_33 : Code := (Tryd.f59.body).getD .skip

noncomputable def L_33 : List (List Nat × List Nat) := [([0], [1, 0]), ([0, 0, 1], [16, 0, 1]), ([1, 0, 1], [0, 1]), ([0, 0, 1, 0, 1], [4, 5]), ([1, 0, 1, 0, 1], [4, 5]), ([0, 1, 1], [0, 1, 6]), ([0, 0, 1, 1, 1], [22, 1, 0, 6]), ([0, 1, 0, 1, 1, 1], [22, 1, 0, 6]), ([0, 0, 0, 1, 0, 1, 1, 1], [24, 23, 1, 0, 22, 6]), ([0, 1, 0, 0, 1, 0, 1, 1, 1], [23, 1, 0, 22, 6]), ([1, 0, 1, 0, 0, 1, 0, 1, 1, 1], [0, 1, 6]), ([0, 0, 1, 1, 0, 0, 1, 0, 1, 1, 1], [8, 7, 1, 0, 22, 6]), ([0, 1, 0, 1, 1, 0, 0, 1, 0, 1, 1, 1], [31, 1, 7, 0, 22, 6]), ([1, 1, 0, 1, 1, 0, 0, 1, 0, 1, 1, 1], [22, 1, 0, 6]), ([0, 0, 1, 1, 0, 1, 1, 0, 0, 1, 0, 1, 1, 1], [0, 1, 6]), ([1, 0, 1, 1, 0, 1, 1, 0, 0, 1, 0, 1, 1, 1], [0, 1, 6]), ([1, 1, 0, 0, 1, 0, 1, 1, 1], [22, 1, 0, 6]), ([1, 0, 1, 1, 1], [0, 1, 6]), ([0, 1, 1, 1, 1], [4, 5]), ([1, 1, 1, 1, 1], [4, 5])]

noncomputable def E_33 (N : Nat) : Env := mkEnv tys glob [(55, name_labelRune_res N)] [] [] [] false [] []

theorem Eok_33 (N : Nat) : EnvOk Tryd.prog (E_33 N) := mkEnv_ok mixed tys_ok (FnsOk.cons (name_labelRune_ct N) (FnsOk.nil)) (ItsOk.nil)

noncomputable def name_Cut_p2 (N : Nat) (s : (List UInt8)) (at_ : Int) (k0 : Bool → Option DT6) : Option DT6 :=
 cond (decide (at_ < (0 : Int)))
 (k0 true)
 (k0 (decide ((((List.length s) : Nat) : Int) < at_)))

noncomputable def g2_33 (N : Nat) (x : denS [(0, .v .str), (0, .v (.int .i64))]) (K : Ex → List A → Option DT6) : Option DT6 :=
 name_Cut_p2 N x.1 x.2.1 (fun a2 => (K .normal (mkS [(0, .v .str), (0, .v (.int .i64)), (14, .v .bool)] 23 (x.1, x.2.1, a2, ()))))

noncomputable def h2_33 (N : Nat) : Hd DT6 := fun st K => (unS [(0, .v .str), (0, .v (.int .i64))] 38 (restr [1, 0] 0 st)).bind fun x => g2_33 N x K

noncomputable def t2_33 (N : Nat) : Tab DT6 := []

theorem ok2_33 {N : Nat} {c : Ctx} (hb : Base Tryd.prog (E_33 N) c) : CodeOk Tryd.prog c (nodeAt body_33 [0, 0, 1]) (h2_33 N) :=
  piece_ok (s := [(0, .v .str), (0, .v (.int .i64))]) (m := 38) (g := g2_33 N) [1, 0] (evN_sound hb N (t2_33 N) L_33 body_33 TabOk.nil [0, 0, 1] _ rfl) (fun x K => by kernel_rfl)

noncomputable def name_Cut_p1 (N : Nat) (s : (List UInt8)) (at_ : Int) (k0 : (List UInt8) → Int → Option DT6) (k1 : Option DT6) : Option DT6 :=
 name_Cut_p2 N s at_
 (fun x16 => cond x16
 (k0 ([] : List UInt8) (0 : Int))
 (k1))

noncomputable def g1_33 (N : Nat) (x : denS [(0, .v .str), (0, .v (.int .i64))]) (K : Ex → List A → Option DT6) : Option DT6 :=
 name_Cut_p1 N x.1 x.2.1 (fun a0 a1 => (K .ret (mkS [(4, .v .str), (0, .v (.int .i64))] 34 (a0, a1, ())))) (K .normal (mkS [(0, .v .str), (0, .v (.int .i64))] 38 (x.1, x.2.1, ())))

noncomputable def h1_33 (N : Nat) : Hd DT6 := fun st K => (unS [(0, .v .str), (0, .v (.int .i64))] 38 (restr [1, 0] 0 st)).bind fun x => g1_33 N x K

noncomputable def t1_33 (N : Nat) : Tab DT6 := [([0, 0, 1], h2_33 N)]

theorem ok1_33 {N : Nat} {c : Ctx} (hb : Base Tryd.prog (E_33 N) c) : CodeOk Tryd.prog c (nodeAt body_33 [0, 1]) (h1_33 N) :=
  piece_ok (s := [(0, .v .str), (0, .v (.int .i64))]) (m := 38) (g := g1_33 N) [1, 0] (evN_sound hb N (t1_33 N) L_33 body_33 (TabOk.cons (ok2_33 hb) TabOk.nil) [0, 1] _ rfl) (fun x K => by kernel_rfl)

noncomputable def name_Cut_s4 (N : Nat) (s : (List UInt8)) (at_ : Int) (end_ : Int) (x22 : (List UInt8 × Nat)) (rec : (List UInt8 × Nat) → Option DT6) (k0 : Int → Option DT6) : Option DT6 :=
 cond (decide (x22.2 < (List.length x22.1)))
 ((name_labelRune N (((runeAt x22.1 x22.2).1 : Nat) : Int) (((x22.2 : Nat) : Int) == (0 : Int))).bind fun y =>
 cond (!y)
 (k0 (IntKind.wrap IntKind.i64 (at_ + ((x22.2 : Nat) : Int))))
 (rec (x22.1, (x22.2 + (runeAt x22.1 x22.2).2))))
 (k0 end_)

noncomputable def name_Cut_p4 (N : Nat) (s : (List UInt8)) (at_ : Int) (end_ : Int) (x22 : (List UInt8 × Nat)) (k0 : Int → Option DT6) : Option DT6 :=
 iter (fun (v : (List UInt8 × Nat)) r => name_Cut_s4 N s at_ end_ v (fun x22 => (r x22)) k0) N x22

noncomputable def g4_33 (N : Nat) (i : ((List UInt8) × Int × Int)) (v : (List UInt8 × Nat)) (r : (List UInt8 × Nat) → Option DT6) (K : Ex → List A → Option DT6) : Option DT6 :=
 name_Cut_s4 N i.1 i.2.1 i.2.2 v (fun x22 => (r x22)) (fun a2 => (K (.exit 0) (mkS [(0, .v .str), (0, .v (.int .i64)), (4, .v (.int .i64))] 33 (i.1, i.2.1, a2, ()))))

noncomputable def h4_33 (N : Nat) : Hd DT6 := fun st K => (unS [(0, .v .str), (0, .v (.int .i64)), (4, .v (.int .i64)), (15, .iter)] 17 (restr [22, 1, 0, 6] 0 st)).bind fun x => iter (fun v r => g4_33 N ((fun x => (x.1, x.2.1, x.2.2.1)) x) v r K) N ((fun x => x.2.2.2.1) x)

noncomputable def t4_33 (N : Nat) : Tab DT6 := []

theorem ok4_33 {N : Nat} {c : Ctx} (hb : Base Tryd.prog (E_33 N) c) : CodeOk Tryd.prog c (nodeAt body_33 [0, 1, 0, 1, 1, 1]) (h4_33 N) :=
  loop_ok (s := [(0, .v .str), (0, .v (.int .i64)), (4, .v (.int .i64)), (15, .iter)]) (m := 17) (g4_33 N) [22, 1, 0, 6] N (fun x => (x.1, x.2.1, x.2.2.1)) (fun x => x.2.2.2.1) (fun i v => (i.1, i.2.1, i.2.2, v, ())) (fun _ => rfl) (evN_sound hb N (t4_33 N) L_33 body_33 TabOk.nil [0, 0, 1, 0, 1, 1, 1] _ rfl) (fun i v r K => by kernel_rfl)

noncomputable def name_Cut_p3 (N : Nat) (s : (List UInt8)) (at_ : Int) (end_ : Int) (k0 : Int → Option DT6) : Option DT6 :=
 cond (decide (((0 : Int) ≤ at_) ∧ (at_ ≤ (((List.length s) : Nat) : Int))))
 (name_Cut_p4 N s at_ end_ ((cut s (Int.toNat at_) (List.length s)), 0)
 (fun end_1 => k0 end_1))
 (none)

noncomputable def g3_33 (N : Nat) (x : denS [(0, .v .str), (0, .v (.int .i64)), (4, .v (.int .i64))]) (K : Ex → List A → Option DT6) : Option DT6 :=
 name_Cut_p3 N x.1 x.2.1 x.2.2.1 (fun a2 => (K .normal (mkS [(0, .v .str), (0, .v (.int .i64)), (4, .v (.int .i64))] 33 (x.1, x.2.1, a2, ()))))

noncomputable def h3_33 (N : Nat) : Hd DT6 := fun st K => (unS [(0, .v .str), (0, .v (.int .i64)), (4, .v (.int .i64))] 33 (restr [0, 1, 6] 0 st)).bind fun x => g3_33 N x K

noncomputable def t3_33 (N : Nat) : Tab DT6 := [([0, 1, 0, 1, 1, 1], h4_33 N)]

theorem ok3_33 {N : Nat} {c : Ctx} (hb : Base Tryd.prog (E_33 N) c) : CodeOk Tryd.prog c (nodeAt body_33 [0, 1, 1, 1]) (h3_33 N) :=
  piece_ok (s := [(0, .v .str), (0, .v (.int .i64)), (4, .v (.int .i64))]) (m := 33) (g := g3_33 N) [0, 1, 6] (evN_sound hb N (t3_33 N) L_33 body_33 (TabOk.cons (ok4_33 hb) TabOk.nil) [0, 1, 1, 1] _ rfl) (fun x K => by kernel_rfl)

noncomputable def name_Cut (N : Nat) (s : (List UInt8)) (at_ : Int) : Option DT6 :=
 name_Cut_p1 N s at_
 (fun x4 x5 => some (x4, (x5, ())))
 (name_Cut_p3 N s at_ (((List.length s) : Nat) : Int)
 (fun end_ => cond (decide (((0 : Int) ≤ end_) ∧ (end_ ≤ (((List.length s) : Nat) : Int))))
 (cond (decide (((0 : Int) ≤ at_) ∧ (at_ ≤ end_)))
 (some ((cut s (Int.toNat at_) (Int.toNat end_)), (end_, ())))
 (none))
 (none)))

noncomputable def t_33 (N : Nat) : Tab DT6 := [([0, 1], h1_33 N), ([0, 1, 1, 1], h3_33 N)]

theorem link_33 (N : Nat) (x : denS [(0, .v .str), (0, .v (.int .i64))]) : evFX (E_33 N) N (t_33 N) L_33 Tryd.f59 (mkS [(0, .v .str), (0, .v (.int .i64))] 0 x) (kRes (.tup [.str, (.int .i64)]) 2) = name_Cut N x.1 x.2.1 := by kernel_rfl

noncomputable def name_Cut_res (N : Nat) : List A → Res := resOf [(0, .v .str), (0, .v (.int .i64))] (fun x => name_Cut N x.1 x.2.1) (oRes (.tup [.str, (.int .i64)]) 2)

theorem name_Cut_ct (N : Nat) : Contract Tryd.prog glob 59 (name_Cut_res N) :=
  Contract.of (E := E_33 N) (H := t_33 N) (L := L_33) (N := N) (body := body_33) (K := (kRes (.tup [.str, (.int .i64)]) 2)) (Eok_33 N) Tryd.func59 (by kernel_rfl) (by decide) (fun _ hb => (TabOk.cons (ok1_33 hb) (TabOk.cons (ok3_33 hb) TabOk.nil))) (fun x y h => by rw [link_33]; exact h) (kRes_ok (s := (.tup [.str, (.int .i64)])) (m := 2))

noncomputable def body_34 : Code := (Tryd.f91.body).getD .skip

noncomputable def L_34 : List (List Nat × List Nat) := [([0], [0]), ([0, 0, 1], [9, 0]), ([1, 0, 1], [0]), ([0, 0, 1, 0, 1], [2, 3]), ([1, 0, 1, 0, 1], [2, 3]), ([0, 0, 1, 1], [17, 0]), ([1, 0, 1, 1], []), ([0, 0, 1, 0, 1, 1], [2, 3]), ([1, 0, 1, 0, 1, 1], [2, 3]), ([0, 1, 1, 1], [2, 3]), ([1, 1, 1, 1], [2, 3])]

noncomputable def E_34 (N : Nat) : Env := mkEnv tys glob [] [] [] [] false [] []

theorem Eok_34 (N : Nat) : EnvOk Tryd.prog (E_34 N) := mkEnv_ok mixed tys_ok (FnsOk.nil) (ItsOk.nil)

noncomputable def quote_digit_p2 (N : Nat) (b : Int) (k0 : Bool → Option (Int × Bool × Unit)) : Option (Int × Bool × Unit) :=
 cond (decide ((48 : Int) ≤ b))
 (k0 (decide (b ≤ (57 : Int))))
 (k0 false)

noncomputable def g2_34 (N : Nat) (x : denS [(0, .v (.int .u8))]) (K : Ex → List A → Option (Int × Bool × Unit)) : Option (Int × Bool × Unit) :=
 quote_digit_p2 N x.1 (fun a1 => (K .normal (mkS [(0, .v (.int .u8)), (8, .v .bool)] 11 (x.1, a1, ()))))

noncomputable def h2_34 (N : Nat) : Hd (Int × Bool × Unit) := fun st K => (unS [(0, .v (.int .u8))] 20 (restr [0] 0 st)).bind fun x => g2_34 N x K

noncomputable def t2_34 (N : Nat) : Tab (Int × Bool × Unit) := []

theorem ok2_34 {N : Nat} {c : Ctx} (hb : Base Tryd.prog (E_34 N) c) : CodeOk Tryd.prog c (nodeAt body_34 [0, 0, 1]) (h2_34 N) :=
  piece_ok (s := [(0, .v (.int .u8))]) (m := 20) (g := g2_34 N) [0] (evN_sound hb N (t2_34 N) L_34 body_34 TabOk.nil [0, 0, 1] _ rfl) (fun x K => by kernel_rfl)

noncomputable def quote_digit_p1 (N : Nat) (b : Int) (k0 : Int → Bool → Option (Int × Bool × Unit)) (k1 : Option (Int × Bool × Unit)) : Option (Int × Bool × Unit) :=
 quote_digit_p2 N b
 (fun x9 => cond x9
 (k0 (IntKind.wrap IntKind.u8 (b - (48 : Int))) true)
 (k1))

noncomputable def g1_34 (N : Nat) (x : denS [(0, .v (.int .u8))]) (K : Ex → List A → Option (Int × Bool × Unit)) : Option (Int × Bool × Unit) :=
 quote_digit_p1 N x.1 (fun a0 a1 => (K .ret (mkS [(2, .v (.int .u8)), (0, .v .bool)] 17 (a0, a1, ())))) (K .normal (mkS [(0, .v (.int .u8))] 20 (x.1, ())))

noncomputable def h1_34 (N : Nat) : Hd (Int × Bool × Unit) := fun st K => (unS [(0, .v (.int .u8))] 20 (restr [0] 0 st)).bind fun x => g1_34 N x K

noncomputable def t1_34 (N : Nat) : Tab (Int × Bool × Unit) := [([0, 0, 1], h2_34 N)]

theorem ok1_34 {N : Nat} {c : Ctx} (hb : Base Tryd.prog (E_34 N) c) : CodeOk Tryd.prog c (nodeAt body_34 [0, 1]) (h1_34 N) :=
  piece_ok (s := [(0, .v (.int .u8))]) (m := 20) (g := g1_34 N) [0] (evN_sound hb N (t1_34 N) L_34 body_34 (TabOk.cons (ok2_34 hb) TabOk.nil) [0, 1] _ rfl) (fun x K => by kernel_rfl)

noncomputable def quote_digit_p3 (N : Nat) (b : Int) (k0 : Bool → Option (Int × Bool × Unit)) : Option (Int × Bool × Unit) :=
 cond (decide ((97 : Int) ≤ b))
 (k0 (decide (b ≤ (102 : Int))))
 (k0 false)

noncomputable def g3_34 (N : Nat) (x : denS [(0, .v (.int .u8))]) (K : Ex → List A → Option (Int × Bool × Unit)) : Option (Int × Bool × Unit) :=
 quote_digit_p3 N x.1 (fun a1 => (K .normal (mkS [(0, .v (.int .u8)), (16, .v .bool)] 3 (x.1, a1, ()))))

noncomputable def h3_34 (N : Nat) : Hd (Int × Bool × Unit) := fun st K => (unS [(0, .v (.int .u8))] 20 (restr [0] 0 st)).bind fun x => g3_34 N x K

noncomputable def t3_34 (N : Nat) : Tab (Int × Bool × Unit) := []

theorem ok3_34 {N : Nat} {c : Ctx} (hb : Base Tryd.prog (E_34 N) c) : CodeOk Tryd.prog c (nodeAt body_34 [0, 0, 1, 1]) (h3_34 N) :=
  piece_ok (s := [(0, .v (.int .u8))]) (m := 20) (g := g3_34 N) [0] (evN_sound hb N (t3_34 N) L_34 body_34 TabOk.nil [0, 0, 1, 1] _ rfl) (fun x K => by kernel_rfl)

noncomputable def quote_digit (N : Nat) (b : Int) : Option (Int × Bool × Unit) :=
 quote_digit_p1 N b
 (fun x2 x3 => some (x2, (x3, ())))
 (quote_digit_p3 N b
 (fun x17 => cond x17
 (some ((IntKind.wrap IntKind.u8 ((IntKind.wrap IntKind.u8 (b - (97 : Int))) + (10 : Int))), (true, ())))
 (some ((0 : Int), (false, ())))))

noncomputable def t_34 (N : Nat) : Tab (Int × Bool × Unit) := [([0, 1], h1_34 N), ([0, 0, 1, 1], h3_34 N)]

theorem link_34 (N : Nat) (x : denS [(0, .v (.int .u8))]) : evFX (E_34 N) N (t_34 N) L_34 Tryd.f91 (mkS [(0, .v (.int .u8))] 0 x) (kRes (.tup [(.int .u8), .bool]) 1) = quote_digit N x.1 := by kernel_rfl

noncomputable def quote_digit_res (N : Nat) : List A → Res := resOf [(0, .v (.int .u8))] (fun x => quote_digit N x.1) (oRes (.tup [(.int .u8), .bool]) 1)

theorem quote_digit_ct (N : Nat) : Contract Tryd.prog glob 91 (quote_digit_res N) :=
  Contract.of (E := E_34 N) (H := t_34 N) (L := L_34) (N := N) (body := body_34) (K := (kRes (.tup [(.int .u8), .bool]) 1)) (Eok_34 N) Tryd.func91 (by kernel_rfl) (by decide) (fun _ hb => (TabOk.cons (ok1_34 hb) (TabOk.cons (ok3_34 hb) TabOk.nil))) (fun x y h => by rw [link_34]; exact h) (kRes_ok (s := (.tup [(.int .u8), .bool])) (m := 1))

noncomputable def body_35 : Code := (Tryd.f89.body).getD .skip

noncomputable def L_35 : List (List Nat × List Nat) := [([0], [0]), ([0, 0, 1], [10, 0]), ([1, 0, 1], [0]), ([0, 0, 1, 0, 1], [2, 3, 4]), ([1, 0, 1, 0, 1], [2, 3, 4]), ([0, 0, 1, 1], [18, 0]), ([1, 0, 1, 1], [0]), ([0, 0, 1, 0, 1, 1], [2, 3, 4]), ([1, 0, 1, 0, 1, 1], [2, 3, 4]), ([0, 0, 1, 1, 1], [23, 0]), ([1, 0, 1, 1, 1], [0]), ([0, 0, 1, 0, 1, 1, 1], [2, 3, 4]), ([1, 0, 1, 0, 1, 1, 1], [2, 3, 4]), ([0, 1, 1, 1, 1], [0, 5]), ([0, 0, 1, 1, 1, 1, 1], [6, 0, 5]), ([0, 1, 0, 1, 1, 1, 1, 1], [6, 0, 5]), ([0, 0, 0, 0, 1, 0, 1, 1, 1, 1, 1], [25, 6, 0, 5]), ([1, 0, 0, 0, 1, 0, 1, 1, 1, 1, 1], [6, 0, 5]), ([1, 1, 0, 0, 0, 1, 0, 1, 1, 1, 1, 1], [5]), ([0, 0, 0, 0, 1, 0, 0, 1, 0, 1, 1, 1, 1, 1], [31, 0, 6, 5]), ([1, 0, 0, 0, 1, 0, 0, 1, 0, 1, 1, 1, 1, 1], [0, 6, 5]), ([0, 0, 1, 0, 0, 0, 1, 0, 0, 1, 0, 1, 1, 1, 1, 1], [2, 3, 4]), ([1, 0, 1, 0, 0, 0, 1, 0, 0, 1, 0, 1, 1, 1, 1, 1], [2, 3, 4]), ([0, 1, 0, 0, 1, 0, 0, 1, 0, 1, 1, 1, 1, 1], [8, 5, 7, 6, 0]), ([0, 0, 1, 1, 0, 0, 1, 0, 0, 1, 0, 1, 1, 1, 1, 1], [40, 5, 7, 6, 0]), ([1, 0, 1, 1, 0, 0, 1, 0, 0, 1, 0, 1, 1, 1, 1, 1], [5, 7, 6, 0]), ([0, 0, 1, 0, 1, 1, 0, 0, 1, 0, 0, 1, 0, 1, 1, 1, 1, 1], [2, 3, 4]), ([1, 0, 1, 0, 1, 1, 0, 0, 1, 0, 0, 1, 0, 1, 1, 1, 1, 1], [2, 3, 4]), ([1, 1, 1, 0, 0, 1, 0, 0, 1, 0, 1, 1, 1, 1, 1], [6, 0, 5]), ([0, 1, 0, 0, 1, 0, 1, 1, 1, 1, 1], [6, 0, 5]), ([1, 1, 0, 0, 1, 0, 1, 1, 1, 1, 1], [6, 0, 5]), ([1, 0, 1, 1, 1, 1, 1], [5]), ([0, 1, 1, 1, 1, 1, 1], [2, 3, 4]), ([1, 1, 1, 1, 1, 1, 1], [2, 3, 4])]

noncomputable def E_35 (N : Nat) : Env := mkEnv tys glob [(91, quote_digit_res N)] [] [] [] false [] []

theorem Eok_35 (N : Nat) : EnvOk Tryd.prog (E_35 N) := mkEnv_ok mixed tys_ok (FnsOk.cons (quote_digit_ct N) (FnsOk.nil)) (ItsOk.nil)

noncomputable def quote_escape_p2 (N : Nat) (s : (List UInt8)) (k0 : Bool → Option (Int × Int × Int × Unit)) : Option (Int × Int × Int × Unit) :=
 cond (inR (0 : Int) (List.length s))
 (cond ((((UInt8.toNat (List.getD s 0 (0 : UInt8))) : Nat) : Int) == (34 : Int))
 (k0 true)
 (cond (inR (0 : Int) (List.length s))
 (k0 ((((UInt8.toNat (List.getD s 0 (0 : UInt8))) : Nat) : Int) == (92 : Int)))
 (none)))
 (none)

noncomputable def g2_35 (N : Nat) (x : denS [(0, .v .str)]) (K : Ex → List A → Option (Int × Int × Int × Unit)) : Option (Int × Int × Int × Unit) :=
 quote_escape_p2 N x.1 (fun a1 => (K .normal (mkS [(0, .v .str), (17, .v .bool)] 27 (x.1, a1, ()))))

noncomputable def h2_35 (N : Nat) : Hd (Int × Int × Int × Unit) := fun st K => (unS [(0, .v .str)] 45 (restr [0] 0 st)).bind fun x => g2_35 N x K

noncomputable def t2_35 (N : Nat) : Tab (Int × Int × Int × Unit) := []

theorem ok2_35 {N : Nat} {c : Ctx} (hb : Base Tryd.prog (E_35 N) c) : CodeOk Tryd.prog c (nodeAt body_35 [0, 0, 1, 1]) (h2_35 N) :=
  piece_ok (s := [(0, .v .str)]) (m := 45) (g := g2_35 N) [0] (evN_sound hb N (t2_35 N) L_35 body_35 TabOk.nil [0, 0, 1, 1] _ rfl) (fun x K => by kernel_rfl)

noncomputable def quote_escape_p1 (N : Nat) (s : (List UInt8)) (k0 : Int → Int → Int → Option (Int × Int × Int × Unit)) (k1 : Option (Int × Int × Int × Unit)) : Option (Int × Int × Int × Unit) :=
 quote_escape_p2 N s
 (fun x18 => cond x18
 (cond (inR (0 : Int) (List.length s))
 (k0 (((UInt8.toNat (List.getD s 0 (0 : UInt8))) : Nat) : Int) (1 : Int) (0 : Int))
 (none))
 (k1))

noncomputable def g1_35 (N : Nat) (x : denS [(0, .v .str)]) (K : Ex → List A → Option (Int × Int × Int × Unit)) : Option (Int × Int × Int × Unit) :=
 quote_escape_p1 N x.1 (fun a0 a1 a2 => (K .ret (mkS [(2, .v (.int .u8)), (0, .v (.int .i64)), (0, .v (.int .i64))] 41 (a0, a1, a2, ())))) (K .normal (mkS [(0, .v .str)] 45 (x.1, ())))

noncomputable def h1_35 (N : Nat) : Hd (Int × Int × Int × Unit) := fun st K => (unS [(0, .v .str)] 45 (restr [0] 0 st)).bind fun x => g1_35 N x K

noncomputable def t1_35 (N : Nat) : Tab (Int × Int × Int × Unit) := [([0, 0, 1, 1], h2_35 N)]

theorem ok1_35 {N : Nat} {c : Ctx} (hb : Base Tryd.prog (E_35 N) c) : CodeOk Tryd.prog c (nodeAt body_35 [0, 1, 1]) (h1_35 N) :=
  piece_ok (s := [(0, .v .str)]) (m := 45) (g := g1_35 N) [0] (evN_sound hb N (t1_35 N) L_35 body_35 (TabOk.cons (ok2_35 hb) TabOk.nil) [0, 1, 1] _ rfl) (fun x K => by kernel_rfl)

noncomputable def quote_escape_s3 (N : Nat) (s : (List UInt8)) (b : Int) (i : Int) (rec : Int → Int → Option (Int × Int × Int × Unit)) (k0 : Int → Int → Int → Option (Int × Int × Int × Unit)) (k1 : Int → Option (Int × Int × Int × Unit)) : Option (Int × Int × Int × Unit) :=
 cond (decide (i ≤ (2 : Int)))
 (cond (i == (((List.length s) : Nat) : Int))
 (k0 (0 : Int) (0 : Int) (1 : Int))
 (cond (inR i (List.length s))
 ((quote_digit N (((UInt8.toNat (List.getD s (Int.toNat i) (0 : UInt8))) : Nat) : Int)).bind fun y =>
 cond (!y.2.1)
 (k0 (0 : Int) (0 : Int) (2 : Int))
 (rec (bitsOp Go.BinOp.or IntKind.u8 (shlI IntKind.u8 b (4 : Int)) y.1) (IntKind.wrap IntKind.i64 (i + (1 : Int)))))
 (none)))
 (k1 b)

noncomputable def quote_escape_p3 (N : Nat) (s : (List UInt8)) (b : Int) (i : Int) (k0 : Int → Int → Int → Option (Int × Int × Int × Unit)) (k1 : Int → Option (Int × Int × Int × Unit)) : Option (Int × Int × Int × Unit) :=
 iter (fun (v : (Int × Int)) r => quote_escape_s3 N s v.1 v.2 (fun b i => (r (b, i))) k0 k1) N (b, i)

noncomputable def g3_35 (N : Nat) (i : (List UInt8)) (v : (Int × Int)) (r : (Int × Int) → Option (Int × Int × Int × Unit)) (K : Ex → List A → Option (Int × Int × Int × Unit)) : Option (Int × Int × Int × Unit) :=
 quote_escape_s3 N i v.1 v.2 (fun b i => (r (b, i))) (fun a0 a1 a2 => (K .ret (mkS [(2, .v (.int .u8)), (0, .v (.int .i64)), (0, .v (.int .i64))] 41 (a0, a1, a2, ())))) (fun a0 => (K (.exit 0) (mkS [(5, .v (.int .u8))] 40 (a0, ()))))

noncomputable def h3_35 (N : Nat) : Hd (Int × Int × Int × Unit) := fun st K => (unS [(0, .v .str), (4, .v (.int .u8)), (0, .v (.int .i64))] 39 (restr [6, 0, 5] 0 st)).bind fun x => iter (fun v r => g3_35 N ((fun x => x.1) x) v r K) N ((fun x => (x.2.1, x.2.2.1)) x)

noncomputable def t3_35 (N : Nat) : Tab (Int × Int × Int × Unit) := []

theorem ok3_35 {N : Nat} {c : Ctx} (hb : Base Tryd.prog (E_35 N) c) : CodeOk Tryd.prog c (nodeAt body_35 [0, 1, 0, 1, 1, 1, 1, 1]) (h3_35 N) :=
  loop_ok (s := [(0, .v .str), (4, .v (.int .u8)), (0, .v (.int .i64))]) (m := 39) (g3_35 N) [6, 0, 5] N (fun x => x.1) (fun x => (x.2.1, x.2.2.1)) (fun i v => (i, v.1, v.2, ())) (fun _ => rfl) (evN_sound hb N (t3_35 N) L_35 body_35 TabOk.nil [0, 0, 1, 0, 1, 1, 1, 1, 1] _ rfl) (fun i v r K => by kernel_rfl)

noncomputable def quote_escape (N : Nat) (s : (List UInt8)) : Option (Int × Int × Int × Unit) :=
 cond (s == ([] : List UInt8))
 (some ((0 : Int), ((0 : Int), ((1 : Int), ()))))
 (quote_escape_p1 N s
 (fun x2 x3 x4 => some (x2, (x3, (x4, ()))))
 (cond (inR (0 : Int) (List.length s))
 (cond ((((UInt8.toNat (List.getD s 0 (0 : UInt8))) : Nat) : Int) != (120 : Int))
 (some ((0 : Int), ((0 : Int), ((2 : Int), ()))))
 (quote_escape_p3 N s (0 : Int) (1 : Int)
 (fun x21 x31 x41 => some (x21, (x31, (x41, ()))))
 (fun b => some (b, ((3 : Int), ((0 : Int), ()))))))
 (none)))

noncomputable def t_35 (N : Nat) : Tab (Int × Int × Int × Unit) := [([0, 1, 1], h1_35 N), ([0, 1, 0, 1, 1, 1, 1, 1], h3_35 N)]

theorem link_35 (N : Nat) (x : denS [(0, .v .str)]) : evFX (E_35 N) N (t_35 N) L_35 Tryd.f89 (mkS [(0, .v .str)] 0 x) (kRes (.tup [(.int .u8), (.int .i64), (.int .i64)]) 1) = quote_escape N x.1 := by kernel_rfl

noncomputable def quote_escape_res (N : Nat) : List A → Res := resOf [(0, .v .str)] (fun x => quote_escape N x.1) (oRes (.tup [(.int .u8), (.int .i64), (.int .i64)]) 1)

theorem quote_escape_ct (N : Nat) : Contract Tryd.prog glob 89 (quote_escape_res N) :=
  Contract.of (E := E_35 N) (H := t_35 N) (L := L_35) (N := N) (body := body_35) (K := (kRes (.tup [(.int .u8), (.int .i64), (.int .i64)]) 1)) (Eok_35 N) Tryd.func89 (by kernel_rfl) (by decide) (fun _ hb => (TabOk.cons (ok1_35 hb) (TabOk.cons (ok3_35 hb) TabOk.nil))) (fun x y h => by rw [link_35]; exact h) (kRes_ok (s := (.tup [(.int .u8), (.int .i64), (.int .i64)])) (m := 1))

noncomputable def body_36 : Code := (Tryd.f80.body).getD .skip

noncomputable def L_36 : List (List Nat × List Nat) := [([0], [0]), ([0, 1], [4, 0]), ([0, 0, 1, 1], [16, 0, 4]), ([1, 0, 1, 1], [0, 4]), ([0, 0, 1, 0, 1, 1], [2, 3]), ([1, 0, 1, 0, 1, 1], [2, 3]), ([0, 1, 1, 1], [5, 0, 4]), ([0, 1, 1, 1, 1], [6, 0, 4, 5]), ([0, 0, 1, 1, 1, 1, 1], [23, 6, 0, 4, 5]), ([1, 0, 1, 1, 1, 1, 1], [6, 4, 0, 5]), ([0, 0, 1, 0, 1, 1, 1, 1, 1], [0, 7]), ([0, 1, 0, 1, 0, 1, 1, 1, 1, 1], [2, 3]), ([1, 1, 0, 1, 0, 1, 1, 1, 1, 1], [2, 3]), ([0, 1, 1, 1, 1, 1, 1], [6, 4, 8, 0, 5]), ([0, 1, 1, 1, 1, 1, 1, 1], [4, 8, 0, 9, 5]), ([0, 0, 1, 1, 1, 1, 1, 1, 1, 1], [45, 0, 9, 8, 5]), ([1, 0, 1, 1, 1, 1, 1, 1, 1, 1], [0, 9, 8, 5]), ([0, 0, 1, 0, 1, 1, 1, 1, 1, 1, 1, 1], [2, 3]), ([1, 0, 1, 0, 1, 1, 1, 1, 1, 1, 1, 1], [2, 3]), ([0, 1, 1, 1, 1, 1, 1, 1, 1, 1], [10, 9, 8, 5, 0]), ([0, 0, 1, 1, 1, 1, 1, 1, 1, 1, 1, 1], [57, 8, 5, 10, 0]), ([1, 0, 1, 1, 1, 1, 1, 1, 1, 1, 1, 1], [8, 5, 10, 0]), ([0, 0, 1, 0, 1, 1, 1, 1, 1, 1, 1, 1, 1, 1], [2, 3]), ([1, 0, 1, 0, 1, 1, 1, 1, 1, 1, 1, 1, 1, 1], [2, 3]), ([0, 0, 1, 1, 1, 1, 1, 1, 1, 1, 1, 1, 1], [59, 5, 10, 0, 8]), ([1, 0, 1, 1, 1, 1, 1, 1, 1, 1, 1, 1, 1], [0, 8, 5, 10]), ([0, 0, 1, 0, 1, 1, 1, 1, 1, 1, 1, 1, 1, 1, 1], [2, 3]), ([1, 0, 1, 0, 1, 1, 1, 1, 1, 1, 1, 1, 1, 1, 1], [2, 3]), ([0, 1, 1, 1, 1, 1, 1, 1, 1, 1, 1, 1, 1], [11, 8, 5, 10, 0]), ([0, 0, 1, 1, 1, 1, 1, 1, 1, 1, 1, 1, 1, 1, 1], [75, 8, 5, 10, 11, 0]), ([1, 0, 1, 1, 1, 1, 1, 1, 1, 1, 1, 1, 1, 1, 1], [8, 5, 10, 11, 0]), ([0, 0, 1, 0, 1, 1, 1, 1, 1, 1, 1, 1, 1, 1, 1, 1, 1], [2, 3]), ([1, 0, 1, 0, 1, 1, 1, 1, 1, 1, 1, 1, 1, 1, 1, 1, 1], [2, 3]), ([0, 0, 1, 1, 1, 1, 1, 1, 1, 1, 1, 1, 1, 1, 1, 1], [77, 5, 10, 11, 0]), ([1, 0, 1, 1, 1, 1, 1, 1, 1, 1, 1, 1, 1, 1, 1, 1], [0, 5, 10, 11]), ([0, 0, 1, 0, 1, 1, 1, 1, 1, 1, 1, 1, 1, 1, 1, 1, 1, 1], [2, 3]), ([1, 0, 1, 0, 1, 1, 1, 1, 1, 1, 1, 1, 1, 1, 1, 1, 1, 1], [2, 3]), ([0, 1, 1, 1, 1, 1, 1, 1, 1, 1, 1, 1, 1, 1, 1, 1], [12, 5, 10, 11]), ([0, 0, 1, 1, 1, 1, 1, 1, 1, 1, 1, 1, 1, 1, 1, 1, 1, 1], [98, 5, 10, 11, 12]), ([1, 0, 1, 1, 1, 1, 1, 1, 1, 1, 1, 1, 1, 1, 1, 1, 1, 1], [5, 10, 11, 12]), ([0, 0, 1, 0, 1, 1, 1, 1, 1, 1, 1, 1, 1, 1, 1, 1, 1, 1, 1, 1], [2, 3]), ([1, 0, 1, 0, 1, 1, 1, 1, 1, 1, 1, 1, 1, 1, 1, 1, 1, 1, 1, 1], [2, 3]), ([0, 1, 1, 1, 1, 1, 1, 1, 1, 1, 1, 1, 1, 1, 1, 1, 1, 1], [2, 3]), ([1, 1, 1, 1, 1, 1, 1, 1, 1, 1, 1, 1, 1, 1, 1, 1, 1, 1], [2, 3])]

noncomputable def E_36 (N : Nat) : Env := mkEnv tys glob [] [] [] [] false [] []

theorem Eok_36 (N : Nat) : EnvOk Tryd.prog (E_36 N) := mkEnv_ok mixed tys_ok (FnsOk.nil) (ItsOk.nil)

noncomputable def unicode_utf8_decodeRuneInStringSlow_p2 (N : Nat) (s : (List UInt8)) (s0 : Int) (sz : Int) (accept : (Int × (Int × Unit))) (s1 : Int) (k0 : Bool → Option (Int × Int × Unit)) : Option (Int × Int × Unit) :=
 cond (decide (s1 < accept.1))
 (k0 true)
 (k0 (decide (accept.2.1 < s1)))

noncomputable def g2_36 (N : Nat) (x : denS [(0, .v .str), (4, .v (.int .u8)), (2, .v (.int .i64)), (0, .box (.pair (.int .u8) (.pair (.int .u8) .unit))), (0, .v (.int .u8))]) (K : Ex → List A → Option (Int × Int × Unit)) : Option (Int × Int × Unit) :=
 unicode_utf8_decodeRuneInStringSlow_p2 N x.1 x.2.1 x.2.2.1 x.2.2.2.1 x.2.2.2.2.1 (fun a4 => (K .normal (mkS [(0, .v .str), (4, .v (.int .u8)), (2, .v (.int .i64)), (1, .v (.int .u8)), (46, .v .bool)] 59 (x.1, x.2.1, x.2.2.1, x.2.2.2.2.1, a4, ()))))

noncomputable def h2_36 (N : Nat) : Hd (Int × Int × Unit) := fun st K => (unS [(0, .v .str), (4, .v (.int .u8)), (2, .v (.int .i64)), (0, .box (.pair (.int .u8) (.pair (.int .u8) .unit))), (0, .v (.int .u8))] 106 (restr [10, 9, 8, 5, 0] 0 st)).bind fun x => g2_36 N x K

noncomputable def t2_36 (N : Nat) : Tab (Int × Int × Unit) := []

theorem ok2_36 {N : Nat} {c : Ctx} (hb : Base Tryd.prog (E_36 N) c) : CodeOk Tryd.prog c (nodeAt body_36 [0, 0, 1, 1, 1, 1, 1, 1, 1, 1, 1, 1]) (h2_36 N) :=
  piece_ok (s := [(0, .v .str), (4, .v (.int .u8)), (2, .v (.int .i64)), (0, .box (.pair (.int .u8) (.pair (.int .u8) .unit))), (0, .v (.int .u8))]) (m := 106) (g := g2_36 N) [10, 9, 8, 5, 0] (evN_sound hb N (t2_36 N) L_36 body_36 TabOk.nil [0, 0, 1, 1, 1, 1, 1, 1, 1, 1, 1, 1] _ rfl) (fun x K => by kernel_rfl)

noncomputable def unicode_utf8_decodeRuneInStringSlow_p1 (N : Nat) (s : (List UInt8)) (s0 : Int) (sz : Int) (accept : (Int × (Int × Unit))) (s1 : Int) (k0 : Int → Int → Option (Int × Int × Unit)) (k1 : Option (Int × Int × Unit)) : Option (Int × Int × Unit) :=
 unicode_utf8_decodeRuneInStringSlow_p2 N s s0 sz accept s1
 (fun x57 => cond x57
 (k0 (65533 : Int) (1 : Int))
 (k1))

noncomputable def g1_36 (N : Nat) (x : denS [(0, .v .str), (4, .v (.int .u8)), (2, .v (.int .i64)), (0, .box (.pair (.int .u8) (.pair (.int .u8) .unit))), (0, .v (.int .u8))]) (K : Ex → List A → Option (Int × Int × Unit)) : Option (Int × Int × Unit) :=
 unicode_utf8_decodeRuneInStringSlow_p1 N x.1 x.2.1 x.2.2.1 x.2.2.2.1 x.2.2.2.2.1 (fun a0 a1 => (K .ret (mkS [(2, .v (.int .i32)), (0, .v (.int .i64))] 113 (a0, a1, ())))) (K .normal (mkS [(0, .v .str), (4, .v (.int .u8)), (2, .v (.int .i64)), (1, .v (.int .u8))] 106 (x.1, x.2.1, x.2.2.1, x.2.2.2.2.1, ())))

noncomputable def h1_36 (N : Nat) : Hd (Int × Int × Unit) := fun st K => (unS [(0, .v .str), (4, .v (.int .u8)), (2, .v (.int .i64)), (0, .box (.pair (.int .u8) (.pair (.int .u8) .unit))), (0, .v (.int .u8))] 106 (restr [10, 9, 8, 5, 0] 0 st)).bind fun x => g1_36 N x K

noncomputable def t1_36 (N : Nat) : Tab (Int × Int × Unit) := [([0, 0, 1, 1, 1, 1, 1, 1, 1, 1, 1, 1], h2_36 N)]

theorem ok1_36 {N : Nat} {c : Ctx} (hb : Base Tryd.prog (E_36 N) c) : CodeOk Tryd.prog c (nodeAt body_36 [0, 1, 1, 1, 1, 1, 1, 1, 1, 1, 1]) (h1_36 N) :=
  piece_ok (s := [(0, .v .str), (4, .v (.int .u8)), (2, .v (.int .i64)), (0, .box (.pair (.int .u8) (.pair (.int .u8) .unit))), (0, .v (.int .u8))]) (m := 106) (g := g1_36 N) [10, 9, 8, 5, 0] (evN_sound hb N (t1_36 N) L_36 body_36 (TabOk.cons (ok2_36 hb) TabOk.nil) [0, 1, 1, 1, 1, 1, 1, 1, 1, 1, 1] _ rfl) (fun x K => by kernel_rfl)

noncomputable def unicode_utf8_decodeRuneInStringSlow_p4 (N : Nat) (s : (List UInt8)) (s0 : Int) (sz : Int) (s1 : Int) (s2 : Int) (k0 : Bool → Option (Int × Int × Unit)) : Option (Int × Int × Unit) :=
 cond (decide (s2 < (128 : Int)))
 (k0 true)
 (k0 (decide ((191 : Int) < s2)))

noncomputable def g4_36 (N : Nat) (x : denS [(0, .v .str), (4, .v (.int .u8)), (2, .v (.int .i64)), (1, .v (.int .u8)), (0, .v (.int .u8))]) (K : Ex → List A → Option (Int × Int × Unit)) : Option (Int × Int × Unit) :=
 unicode_utf8_decodeRuneInStringSlow_p4 N x.1 x.2.1 x.2.2.1 x.2.2.2.1 x.2.2.2.2.1 (fun a5 => (K .normal (mkS [(0, .v .str), (4, .v (.int .u8)), (2, .v (.int .i64)), (1, .v (.int .u8)), (0, .v (.int .u8)), (63, .v .bool)] 41 (x.1, x.2.1, x.2.2.1, x.2.2.2.1, x.2.2.2.2.1, a5, ()))))

noncomputable def h4_36 (N : Nat) : Hd (Int × Int × Unit) := fun st K => (unS [(0, .v .str), (4, .v (.int .u8)), (2, .v (.int .i64)), (1, .v (.int .u8)), (0, .v (.int .u8))] 105 (restr [11, 8, 5, 10, 0] 0 st)).bind fun x => g4_36 N x K

noncomputable def t4_36 (N : Nat) : Tab (Int × Int × Unit) := []

theorem ok4_36 {N : Nat} {c : Ctx} (hb : Base Tryd.prog (E_36 N) c) : CodeOk Tryd.prog c (nodeAt body_36 [0, 0, 1, 1, 1, 1, 1, 1, 1, 1, 1, 1, 1, 1, 1]) (h4_36 N) :=
  piece_ok (s := [(0, .v .str), (4, .v (.int .u8)), (2, .v (.int .i64)), (1, .v (.int .u8)), (0, .v (.int .u8))]) (m := 105) (g := g4_36 N) [11, 8, 5, 10, 0] (evN_sound hb N (t4_36 N) L_36 body_36 TabOk.nil [0, 0, 1, 1, 1, 1, 1, 1, 1, 1, 1, 1, 1, 1, 1] _ rfl) (fun x K => by kernel_rfl)

noncomputable def unicode_utf8_decodeRuneInStringSlow_p3 (N : Nat) (s : (List UInt8)) (s0 : Int) (sz : Int) (s1 : Int) (s2 : Int) (k0 : Int → Int → Option (Int × Int × Unit)) (k1 : Option (Int × Int × Unit)) : Option (Int × Int × Unit) :=
 unicode_utf8_decodeRuneInStringSlow_p4 N s s0 sz s1 s2
 (fun x75 => cond x75
 (k0 (65533 : Int) (1 : Int))
 (k1))

noncomputable def g3_36 (N : Nat) (x : denS [(0, .v .str), (4, .v (.int .u8)), (2, .v (.int .i64)), (1, .v (.int .u8)), (0, .v (.int .u8))]) (K : Ex → List A → Option (Int × Int × Unit)) : Option (Int × Int × Unit) :=
 unicode_utf8_decodeRuneInStringSlow_p3 N x.1 x.2.1 x.2.2.1 x.2.2.2.1 x.2.2.2.2.1 (fun a0 a1 => (K .ret (mkS [(2, .v (.int .i32)), (0, .v (.int .i64))] 113 (a0, a1, ())))) (K .normal (mkS [(0, .v .str), (4, .v (.int .u8)), (2, .v (.int .i64)), (1, .v (.int .u8)), (0, .v (.int .u8))] 105 (x.1, x.2.1, x.2.2.1, x.2.2.2.1, x.2.2.2.2.1, ())))

noncomputable def h3_36 (N : Nat) : Hd (Int × Int × Unit) := fun st K => (unS [(0, .v .str), (4, .v (.int .u8)), (2, .v (.int .i64)), (1, .v (.int .u8)), (0, .v (.int .u8))] 105 (restr [11, 8, 5, 10, 0] 0 st)).bind fun x => g3_36 N x K

noncomputable def t3_36 (N : Nat) : Tab (Int × Int × Unit) := [([0, 0, 1, 1, 1, 1, 1, 1, 1, 1, 1, 1, 1, 1, 1], h4_36 N)]

theorem ok3_36 {N : Nat} {c : Ctx} (hb : Base Tryd.prog (E_36 N) c) : CodeOk Tryd.prog c (nodeAt body_36 [0, 1, 1, 1, 1, 1, 1, 1, 1, 1, 1, 1, 1, 1]) (h3_36 N) :=
  piece_ok (s := [(0, .v .str), (4, .v (.int .u8)), (2, .v (.int .i64)), (1, .v (.int .u8)), (0, .v (.int .u8))]) (m := 105) (g := g3_36 N) [11, 8, 5, 10, 0] (evN_sound hb N (t3_36 N) L_36 body_36 (TabOk.cons (ok4_36 hb) TabOk.nil) [0, 1, 1, 1, 1, 1, 1, 1, 1, 1, 1, 1, 1, 1] _ rfl) (fun x K => by kernel_rfl)

noncomputable def unicode_utf8_decodeRuneInStringSlow_p6 (N : Nat) (s0 : Int) (s1 : Int) (s2 : Int) (s3 : Int) (k0 : Bool → Option (Int × Int × Unit)) : Option (Int × Int × Unit) :=
 cond (decide (s3 < (128 : Int)))
 (k0 true)
 (k0 (decide ((191 : Int) < s3)))

noncomputable def g6_36 (N : Nat) (x : denS [(5, .v (.int .u8)), (4, .v (.int .u8)), (0, .v (.int .u8)), (0, .v (.int .u8))]) (K : Ex → List A → Option (Int × Int × Unit)) : Option (Int × Int × Unit) :=
 unicode_utf8_decodeRuneInStringSlow_p6 N x.1 x.2.1 x.2.2.1 x.2.2.2.1 (fun a4 => (K .normal (mkS [(5, .v (.int .u8)), (4, .v (.int .u8)), (0, .v (.int .u8)), (0, .v (.int .u8)), (85, .v .bool)] 18 (x.1, x.2.1, x.2.2.1, x.2.2.2.1, a4, ()))))

noncomputable def h6_36 (N : Nat) : Hd (Int × Int × Unit) := fun st K => (unS [(5, .v (.int .u8)), (4, .v (.int .u8)), (0, .v (.int .u8)), (0, .v (.int .u8))] 104 (restr [12, 5, 10, 11] 0 st)).bind fun x => g6_36 N x K

noncomputable def t6_36 (N : Nat) : Tab (Int × Int × Unit) := []

theorem ok6_36 {N : Nat} {c : Ctx} (hb : Base Tryd.prog (E_36 N) c) : CodeOk Tryd.prog c (nodeAt body_36 [0, 0, 1, 1, 1, 1, 1, 1, 1, 1, 1, 1, 1, 1, 1, 1, 1, 1]) (h6_36 N) :=
  piece_ok (s := [(5, .v (.int .u8)), (4, .v (.int .u8)), (0, .v (.int .u8)), (0, .v (.int .u8))]) (m := 104) (g := g6_36 N) [12, 5, 10, 11] (evN_sound hb N (t6_36 N) L_36 body_36 TabOk.nil [0, 0, 1, 1, 1, 1, 1, 1, 1, 1, 1, 1, 1, 1, 1, 1, 1, 1] _ rfl) (fun x K => by kernel_rfl)

noncomputable def unicode_utf8_decodeRuneInStringSlow_p5 (N : Nat) (s0 : Int) (s1 : Int) (s2 : Int) (s3 : Int) (k0 : Int → Int → Option (Int × Int × Unit)) (k1 : Option (Int × Int × Unit)) : Option (Int × Int × Unit) :=
 unicode_utf8_decodeRuneInStringSlow_p6 N s0 s1 s2 s3
 (fun x98 => cond x98
 (k0 (65533 : Int) (1 : Int))
 (k1))

noncomputable def g5_36 (N : Nat) (x : denS [(5, .v (.int .u8)), (4, .v (.int .u8)), (0, .v (.int .u8)), (0, .v (.int .u8))]) (K : Ex → List A → Option (Int × Int × Unit)) : Option (Int × Int × Unit) :=
 unicode_utf8_decodeRuneInStringSlow_p5 N x.1 x.2.1 x.2.2.1 x.2.2.2.1 (fun a0 a1 => (K .ret (mkS [(2, .v (.int .i32)), (0, .v (.int .i64))] 113 (a0, a1, ())))) (K .normal (mkS [(5, .v (.int .u8)), (4, .v (.int .u8)), (0, .v (.int .u8)), (0, .v (.int .u8))] 104 (x.1, x.2.1, x.2.2.1, x.2.2.2.1, ())))

noncomputable def h5_36 (N : Nat) : Hd (Int × Int × Unit) := fun st K => (unS [(5, .v (.int .u8)), (4, .v (.int .u8)), (0, .v (.int .u8)), (0, .v (.int .u8))] 104 (restr [12, 5, 10, 11] 0 st)).bind fun x => g5_36 N x K

noncomputable def t5_36 (N : Nat) : Tab (Int × Int × Unit) := [([0, 0, 1, 1, 1, 1, 1, 1, 1, 1, 1, 1, 1, 1, 1, 1, 1, 1], h6_36 N)]

theorem ok5_36 {N : Nat} {c : Ctx} (hb : Base Tryd.prog (E_36 N) c) : CodeOk Tryd.prog c (nodeAt body_36 [0, 1, 1, 1, 1, 1, 1, 1, 1, 1, 1, 1, 1, 1, 1, 1, 1]) (h5_36 N) :=
  piece_ok (s := [(5, .v (.int .u8)), (4, .v (.int .u8)), (0, .v (.int .u8)), (0, .v (.int .u8))]) (m := 104) (g := g5_36 N) [12, 5, 10, 11] (evN_sound hb N (t5_36 N) L_36 body_36 (TabOk.cons (ok6_36 hb) TabOk.nil) [0, 1, 1, 1, 1, 1, 1, 1, 1, 1, 1, 1, 1, 1, 1, 1, 1] _ rfl) (fun x K => by kernel_rfl)

noncomputable def unicode_utf8_decodeRuneInStringSlow (N : Nat) (s : (List UInt8)) : Option (Int × Int × Unit) :=
 cond (decide ((((List.length s) : Nat) : Int) < (1 : Int)))
 (some ((65533 : Int), ((0 : Int), ())))
 (cond (inR (0 : Int) (List.length s))
 (cond (inR (((UInt8.toNat (List.getD s 0 (0 : UInt8))) : Nat) : Int) 256)
 (cond (decide ((240 : Int) ≤ (List.getD glob0 (Int.toNat (((UInt8.toNat (List.getD s 0 (0 : UInt8))) : Nat) : Int)) (0 : Int))))
 (cond (inR (0 : Int) (List.length s))
 (some ((bitsOp Go.BinOp.or IntKind.i32 (bitsOp Go.BinOp.andNot IntKind.i32 (IntKind.wrap IntKind.i32 (((UInt8.toNat (List.getD s 0 (0 : UInt8))) : Nat) : Int)) (shrI IntKind.i32 (shlI IntKind.i32 (IntKind.wrap IntKind.i32 (List.getD glob0 (Int.toNat (((UInt8.toNat (List.getD s 0 (0 : UInt8))) : Nat) : Int)) (0 : Int))) (31 : Int)) (31 : Int))) (bitsOp Go.BinOp.and IntKind.i32 (65533 : Int) (shrI IntKind.i32 (shlI IntKind.i32 (IntKind.wrap IntKind.i32 (List.getD glob0 (Int.toNat (((UInt8.toNat (List.getD s 0 (0 : UInt8))) : Nat) : Int)) (0 : Int))) (31 : Int)) (31 : Int)))), ((1 : Int), ())))
 (none))
 (cond (inR (shrI IntKind.u8 (List.getD glob0 (Int.toNat (((UInt8.toNat (List.getD s 0 (0 : UInt8))) : Nat) : Int)) (0 : Int)) (4 : Int)) 16)
 (cond (decide ((((List.length s) : Nat) : Int) < (IntKind.wrap IntKind.i64 (bitsOp Go.BinOp.and IntKind.u8 (List.getD glob0 (Int.toNat (((UInt8.toNat (List.getD s 0 (0 : UInt8))) : Nat) : Int)) (0 : Int)) (7 : Int)))))
 (some ((65533 : Int), ((1 : Int), ())))
 (cond (inR (1 : Int) (List.length s))
 (unicode_utf8_decodeRuneInStringSlow_p1 N s (((UInt8.toNat (List.getD s 0 (0 : UInt8))) : Nat) : Int) (IntKind.wrap IntKind.i64 (bitsOp Go.BinOp.and IntKind.u8 (List.getD glob0 (Int.toNat (((UInt8.toNat (List.getD s 0 (0 : UInt8))) : Nat) : Int)) (0 : Int)) (7 : Int))) (List.getD glob1 (Int.toNat (shrI IntKind.u8 (List.getD glob0 (Int.toNat (((UInt8.toNat (List.getD s 0 (0 : UInt8))) : Nat) : Int)) (0 : Int)) (4 : Int))) ((0 : Int), ((0 : Int), ()))) (((UInt8.toNat (List.getD s 1 (0 : UInt8))) : Nat) : Int)
 (fun x2 x3 => some (x2, (x3, ())))
 (cond (decide ((IntKind.wrap IntKind.i64 (bitsOp Go.BinOp.and IntKind.u8 (List.getD glob0 (Int.toNat (((UInt8.toNat (List.getD s 0 (0 : UInt8))) : Nat) : Int)) (0 : Int)) (7 : Int))) ≤ (2 : Int)))
 (some ((bitsOp Go.BinOp.or IntKind.i32 (shlI IntKind.i32 (IntKind.wrap IntKind.i32 (bitsOp Go.BinOp.and IntKind.u8 (((UInt8.toNat (List.getD s 0 (0 : UInt8))) : Nat) : Int) (31 : Int))) (6 : Int)) (IntKind.wrap IntKind.i32 (bitsOp Go.BinOp.and IntKind.u8 (((UInt8.toNat (List.getD s 1 (0 : UInt8))) : Nat) : Int) (63 : Int)))), ((2 : Int), ())))
 (cond (inR (2 : Int) (List.length s))
 (unicode_utf8_decodeRuneInStringSlow_p3 N s (((UInt8.toNat (List.getD s 0 (0 : UInt8))) : Nat) : Int) (IntKind.wrap IntKind.i64 (bitsOp Go.BinOp.and IntKind.u8 (List.getD glob0 (Int.toNat (((UInt8.toNat (List.getD s 0 (0 : UInt8))) : Nat) : Int)) (0 : Int)) (7 : Int))) (((UInt8.toNat (List.getD s 1 (0 : UInt8))) : Nat) : Int) (((UInt8.toNat (List.getD s 2 (0 : UInt8))) : Nat) : Int)
 (fun x21 x31 => some (x21, (x31, ())))
 (cond (decide ((IntKind.wrap IntKind.i64 (bitsOp Go.BinOp.and IntKind.u8 (List.getD glob0 (Int.toNat (((UInt8.toNat (List.getD s 0 (0 : UInt8))) : Nat) : Int)) (0 : Int)) (7 : Int))) ≤ (3 : Int)))
 (some ((bitsOp Go.BinOp.or IntKind.i32 (bitsOp Go.BinOp.or IntKind.i32 (shlI IntKind.i32 (IntKind.wrap IntKind.i32 (bitsOp Go.BinOp.and IntKind.u8 (((UInt8.toNat (List.getD s 0 (0 : UInt8))) : Nat) : Int) (15 : Int))) (12 : Int)) (shlI IntKind.i32 (IntKind.wrap IntKind.i32 (bitsOp Go.BinOp.and IntKind.u8 (((UInt8.toNat (List.getD s 1 (0 : UInt8))) : Nat) : Int) (63 : Int))) (6 : Int))) (IntKind.wrap IntKind.i32 (bitsOp Go.BinOp.and IntKind.u8 (((UInt8.toNat (List.getD s 2 (0 : UInt8))) : Nat) : Int) (63 : Int)))), ((3 : Int), ())))
 (cond (inR (3 : Int) (List.length s))
 (unicode_utf8_decodeRuneInStringSlow_p5 N (((UInt8.toNat (List.getD s 0 (0 : UInt8))) : Nat) : Int) (((UInt8.toNat (List.getD s 1 (0 : UInt8))) : Nat) : Int) (((UInt8.toNat (List.getD s 2 (0 : UInt8))) : Nat) : Int) (((UInt8.toNat (List.getD s 3 (0 : UInt8))) : Nat) : Int)
 (fun x22 x32 => some (x22, (x32, ())))
 (some ((bitsOp Go.BinOp.or IntKind.i32 (bitsOp Go.BinOp.or IntKind.i32 (bitsOp Go.BinOp.or IntKind.i32 (shlI IntKind.i32 (IntKind.wrap IntKind.i32 (bitsOp Go.BinOp.and IntKind.u8 (((UInt8.toNat (List.getD s 0 (0 : UInt8))) : Nat) : Int) (7 : Int))) (18 : Int)) (shlI IntKind.i32 (IntKind.wrap IntKind.i32 (bitsOp Go.BinOp.and IntKind.u8 (((UInt8.toNat (List.getD s 1 (0 : UInt8))) : Nat) : Int) (63 : Int))) (12 : Int))) (shlI IntKind.i32 (IntKind.wrap IntKind.i32 (bitsOp Go.BinOp.and IntKind.u8 (((UInt8.toNat (List.getD s 2 (0 : UInt8))) : Nat) : Int) (63 : Int))) (6 : Int))) (IntKind.wrap IntKind.i32 (bitsOp Go.BinOp.and IntKind.u8 (((UInt8.toNat (List.getD s 3 (0 : UInt8))) : Nat) : Int) (63 : Int)))), ((4 : Int), ()))))
 (none))))
 (none))))
 (none)))
 (none)))
 (none))
 (none))

noncomputable def t_36 (N : Nat) : Tab (Int × Int × Unit) := [([0, 1, 1, 1, 1, 1, 1, 1, 1, 1, 1], h1_36 N), ([0, 1, 1, 1, 1, 1, 1, 1, 1, 1, 1, 1, 1, 1], h3_36 N), ([0, 1, 1, 1, 1, 1, 1, 1, 1, 1, 1, 1, 1, 1, 1, 1, 1], h5_36 N)]

theorem link_36 (N : Nat) (x : denS [(0, .v .str)]) : evFX (E_36 N) N (t_36 N) L_36 Tryd.f80 (mkS [(0, .v .str)] 0 x) (kRes (.tup [(.int .i32), (.int .i64)]) 1) = unicode_utf8_decodeRuneInStringSlow N x.1 := by kernel_rfl

noncomputable def unicode_utf8_decodeRuneInStringSlow_res (N : Nat) : List A → Res := resOf [(0, .v .str)] (fun x => unicode_utf8_decodeRuneInStringSlow N x.1) (oRes (.tup [(.int .i32), (.int .i64)]) 1)

theorem unicode_utf8_decodeRuneInStringSlow_ct (N : Nat) : Contract Tryd.prog glob 80 (unicode_utf8_decodeRuneInStringSlow_res N) :=
  Contract.of (E := E_36 N) (H := t_36 N) (L := L_36) (N := N) (body := body_36) (K := (kRes (.tup [(.int .i32), (.int .i64)]) 1)) (Eok_36 N) Tryd.func80 (by kernel_rfl) (by decide) (fun _ hb => (TabOk.cons (ok1_36 hb) (TabOk.cons (ok3_36 hb) (TabOk.cons (ok5_36 hb) TabOk.nil)))) (fun x y h => by rw [link_36]; exact h) (kRes_ok (s := (.tup [(.int .i32), (.int .i64)])) (m := 1))

noncomputable def body_37 : Code := (Tryd.f64.body).getD .skip

noncomputable def L_37 : List (List Nat × List Nat) := [([0], [0]), ([0, 0, 1], [10, 0]), ([1, 0, 1], [2, 3]), ([1, 1, 0, 1], [2, 3]), ([0, 0, 1, 0, 1], [2, 3]), ([1, 0, 1, 0, 1], [2, 3]), ([1, 1], [2, 3])]

noncomputable def E_37 (N : Nat) : Env := mkEnv tys glob [(80, unicode_utf8_decodeRuneInStringSlow_res N)] [] [] [] false [] []

theorem Eok_37 (N : Nat) : EnvOk Tryd.prog (E_37 N) := mkEnv_ok mixed tys_ok (FnsOk.cons (unicode_utf8_decodeRuneInStringSlow_ct N) (FnsOk.nil)) (ItsOk.nil)

noncomputable def unicode_utf8_DecodeRuneInString_p1 (N : Nat) (s : (List UInt8)) (k0 : Bool → Option (Int × Int × Unit)) : Option (Int × Int × Unit) :=
 cond (!(s == ([] : List UInt8)))
 (cond (inR (0 : Int) (List.length s))
 (k0 (decide ((((UInt8.toNat (List.getD s 0 (0 : UInt8))) : Nat) : Int) < (128 : Int))))
 (none))
 (k0 false)

noncomputable def g1_37 (N : Nat) (x : denS [(0, .v .str)]) (K : Ex → List A → Option (Int × Int × Unit)) : Option (Int × Int × Unit) :=
 unicode_utf8_DecodeRuneInString_p1 N x.1 (fun a1 => (K .normal (mkS [(0, .v .str), (9, .v .bool)] 8 (x.1, a1, ()))))

noncomputable def h1_37 (N : Nat) : Hd (Int × Int × Unit) := fun st K => (unS [(0, .v .str)] 18 (restr [0] 0 st)).bind fun x => g1_37 N x K

noncomputable def t1_37 (N : Nat) : Tab (Int × Int × Unit) := []

theorem ok1_37 {N : Nat} {c : Ctx} (hb : Base Tryd.prog (E_37 N) c) : CodeOk Tryd.prog c (nodeAt body_37 [0, 0, 1]) (h1_37 N) :=
  piece_ok (s := [(0, .v .str)]) (m := 18) (g := g1_37 N) [0] (evN_sound hb N (t1_37 N) L_37 body_37 TabOk.nil [0, 0, 1] _ rfl) (fun x K => by kernel_rfl)

noncomputable def unicode_utf8_DecodeRuneInString (N : Nat) (s : (List UInt8)) : Option (Int × Int × Unit) :=
 unicode_utf8_DecodeRuneInString_p1 N s
 (fun x10 => cond x10
 (cond (inR (0 : Int) (List.length s))
 (some ((IntKind.wrap IntKind.i32 (((UInt8.toNat (List.getD s 0 (0 : UInt8))) : Nat) : Int)), ((1 : Int), ())))
 (none))
 ((unicode_utf8_decodeRuneInStringSlow N s).bind fun y =>
 some (y.1, (y.2.1, ()))))

noncomputable def t_37 (N : Nat) : Tab (Int × Int × Unit) := [([0, 0, 1], h1_37 N)]

theorem link_37 (N : Nat) (x : denS [(0, .v .str)]) : evFX (E_37 N) N (t_37 N) L_37 Tryd.f64 (mkS [(0, .v .str)] 0 x) (kRes (.tup [(.int .i32), (.int .i64)]) 1) = unicode_utf8_DecodeRuneInString N x.1 := by kernel_rfl

noncomputable def unicode_utf8_DecodeRuneInString_res (N : Nat) : List A → Res := resOf [(0, .v .str)] (fun x => unicode_utf8_DecodeRuneInString N x.1) (oRes (.tup [(.int .i32), (.int .i64)]) 1)

theorem unicode_utf8_DecodeRuneInString_ct (N : Nat) : Contract Tryd.prog glob 64 (unicode_utf8_DecodeRuneInString_res N) :=
  Contract.of (E := E_37 N) (H := t_37 N) (L := L_37) (N := N) (body := body_37) (K := (kRes (.tup [(.int .i32), (.int .i64)]) 1)) (Eok_37 N) Tryd.func64 (by kernel_rfl) (by decide) (fun _ hb => (TabOk.cons (ok1_37 hb) TabOk.nil)) (fun x y h => by rw [link_37]; exact h) (kRes_ok (s := (.tup [(.int .i32), (.int .i64)])) (m := 1))

noncomputable def body_38 : Code := (Tryd.f48.body).getD .skip

end Go.Proofs.YtbkackmlmccpjaaDoorLg
