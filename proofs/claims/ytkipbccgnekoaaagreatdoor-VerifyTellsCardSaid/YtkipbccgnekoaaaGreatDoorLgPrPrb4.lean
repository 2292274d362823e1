import Derived.Test.YtkipbccgnekoaaaGreatDoorLgPrPrb1
import Derived.Test.YtkipbccgnekoaaaGreatDoorLgPrPrb2
import Derived.Test.YtkipbccgnekoaaaGreatDoorLgPrPrb3
import Derived.WalkKit
import Derived.Tactics
import Derived.Tactics2
import Derived.Defers
import Derived.Lib.Hide
import Derived.Below
import Derived.Recover
import Derived.Orders
import Derived.WalkSmall
import Derived.LoopN
import Derived.Deep.RegionHeld3
import Derived.Laws.IdiomStrings
import Derived.Test.YtkipbccgnekoaaaGreatDoorLgW
import Derived.Test.YtkipbccgnekoaaaGreatDoorChecked
import Derived.KernelRfl
set_option linter.all false
set_option maxRecDepth 100000
namespace Go.Proofs.YtkipbccgnekoaaaGreatDoorLg
noncomputable section
open Go Go.Lift

abbrev TT0 : T := (.pair .str (.pair (.sl (.pair .str (.pair .str .unit))) (.pair .str .unit)))

abbrev DT1 : Type := ((List UInt8) × ((List ((List UInt8) × ((List UInt8) × Unit))) × ((List UInt8) × Unit)))

abbrev DT2 : Type := ((DT1 × ((List DT1) × Unit)) × ((List Bool) × ((List ((List ((List UInt8) × ((List UInt8) × Unit))) × ((List (List UInt8)) × Unit))) × ((List (List UInt8)) × (Int × Unit)))))

abbrev TT3 : T := (.pair (.pair TT0 (.pair (.sl TT0) .unit)) (.pair (.own .bool) (.pair (.own (.pair (.sl (.pair .str (.pair .str .unit))) (.pair (.sl .str) .unit))) (.pair (.own .str) (.pair (.int .i64) .unit)))))

abbrev TT5 : T := (.pair (.sl .bool) (.pair (.sl .str) (.pair (.int .i64) (.pair (.int .i64) (.pair (.sl .str) .unit)))))

abbrev TT6 : T := (.pair .bool (.pair (.arr 8 (.int .u32)) (.pair .str (.pair (.int .i64) .unit))))

abbrev TT7 : T := (.pair TT0 (.pair (.sl TT0) .unit))

abbrev DT8 : Type := ((List UInt8) × ((List UInt8) × Unit))

abbrev DT9 : Type := (Bool × ((List Int) × ((List UInt8) × (Int × Unit))))

abbrev zje : T := (.pair .str (.pair .str .unit))

abbrev z7u : Type := ((List UInt8) × Unit)

abbrev zxa : Type := (DT1 × ((List DT1) × Unit))

abbrev zsv : T := (.pair (.self 114) (.pair (.own (.byt 5)) .unit))

abbrev z18z : T := (.pair (.ptr .str) (.pair (.ptr (.sl zje)) (.pair (.ptr (.fn 41 .unit)) .unit)))

abbrev zky : Type := ((List UInt8) × (DT9 × Unit))

abbrev zkx : Type := (Unit × ((List Int) × Unit))

abbrev zx7 : List Nat := [18, 17, 3, 9, 4, 8]

abbrev z13u : List Nat := [1, 0, 1, 1, 1, 1, 1]

abbrev zx8 : List Nat := [15, 14, 13, 3, 5, 0]

abbrev PQ91 : List Nat := [0, 1, 1, 1, 1, 1, 1]

abbrev z1pm : List Nat := [0, 0, 1, 1, 1, 1, 1]

abbrev z149 : List Nat := [0, 0, 1, 0, 1, 1, 1]

abbrev z14a : List Nat := [0, 0, 0, 1, 0, 1, 1]

abbrev z13t : List Nat := [0, 1, 0, 1, 1, 1, 1]

abbrev zx9 : List Nat := [10, 2, 9, 1, 4, 3, 8]

abbrev z1fk : List Nat := [0, 1, 1, 1, 1, 1, 0, 1]

abbrev z1fl : List Nat := [1, 0, 1, 0, 1, 1, 1, 1]

abbrev z1fm : List Nat := [0, 1, 1, 1, 1, 1, 1, 1]

abbrev z172 : List Nat := [63, 62, 61, 0, 9, 8, 7]

abbrev z1pp : List Nat := [0, 0, 1, 0, 1, 1, 1, 1]

abbrev z173 : List Nat := [0, 1, 0, 1, 1, 1, 1, 1]

abbrev z191 : List Nat := [1, 1, 0, 0, 1, 0, 1, 1]

abbrev z192 : List Nat := [1, 0, 0, 0, 1, 0, 1, 1]

abbrev z193 : List Nat := [0, 0, 0, 0, 1, 0, 1, 1]

abbrev PQ9 : List Nat := [0, 1, 0, 0, 1, 0, 1, 1]

abbrev z13w : List Nat := [0, 0, 1, 0, 1, 1, 1, 1, 1]

abbrev z1f9 : List Nat := [1, 1, 0, 0, 1, 0, 1, 1, 1]

abbrev z1fa : List Nat := [1, 0, 0, 0, 1, 0, 1, 1, 1]

abbrev z1fb : List Nat := [0, 0, 0, 0, 1, 0, 1, 1, 1]

abbrev z190 : List Nat := [27, 26, 25, 3, 14, 13, 12]

abbrev z1fe : List Nat := [1, 1, 1, 0, 0, 1, 0, 1, 1]

abbrev z1ff : List Nat := [0, 1, 1, 0, 0, 1, 0, 1, 1]

abbrev z1fg : List Nat := [1, 0, 1, 0, 0, 1, 0, 1, 1]

abbrev z194 : List Nat := [1, 1, 0, 0, 0, 1, 0, 1, 1]

abbrev z10m : List Nat := [0, 1, 0, 0, 1, 0, 1, 1, 1]

abbrev z1gt : List (Nat × AS) := [(0, .v .str), (0, .v TT7)]

abbrev z16y : List (Nat × AS) := [(0, .v .str), (0, .v TT0)]

abbrev z10g : List (Nat × AS) := [(0, .v .str), (0, .v zje)]

abbrev SQ0 : List (Nat × AS) := [(0, .v .str), (0, .v .str)]

abbrev z13v : List Nat := [7, 8, 9, 10, 11, 5, 6, 0, 1]

abbrev z10h : List (Nat × AS) := [(0, .box TT3), (0, .v .str)]

abbrev z1fc : List Nat := [11, 7, 8, 9, 10, 5, 6, 0, 1]

abbrev z1f4 : List (Nat × AS) := [(0, .box TT6), (0, .v .str)]

abbrev z175 : List Nat := [0, 0, 1, 1, 1, 1, 1, 1, 0, 1]

abbrev PQ99 : List Nat := [0, 1, 0, 1, 1, 1, 1, 1, 0, 1]

abbrev z1pl : List Nat := [1, 0, 0, 1, 0, 0, 1, 0, 1, 1]

abbrev z1go : List (Nat × AS) := [(0, .v (.arr 8 (.int .u32)))]

abbrev z1fd : List Nat := [1, 1, 0, 0, 0, 1, 0, 1, 1, 1]

abbrev z16x : List (Nat × AS) := [(0, .box TT3), (6, .v .bool)]

abbrev z174 : List Nat := [0, 0, 0, 1, 0, 0, 1, 0, 1, 1]

abbrev z1gw : List Nat := [0, 1, 0, 0, 1, 1, 0, 0, 1, 0, 1]

abbrev z1po : List Nat := [1, 0, 0, 1, 1, 0, 0, 1, 0, 1, 1]

abbrev z1fh : List Nat := [0, 0, 0, 1, 0, 0, 1, 0, 1, 1, 1]

abbrev z1fi : List Nat := [0, 0, 0, 1, 1, 0, 0, 1, 0, 1, 1]

abbrev z1gp : List (Nat × AS) := [(0, .v .str), (0, .v (.sl .str))]

abbrev z10f : List (Nat × AS) := [(0, .v .str), (0, .v (.int .i64))]

abbrev z1fn : List Nat := [1, 0, 1, 0, 0, 1, 0, 0, 1, 0, 1, 1]

abbrev z1fo : List Nat := [0, 0, 1, 0, 0, 1, 0, 0, 1, 0, 1, 1]

abbrev z176 : List Nat := [0, 0, 0, 0, 1, 0, 0, 1, 0, 1, 1, 1]

abbrev z1gq : List (Nat × AS) := [(0, .v (.sl .bool)), (0, .v .bool)]

abbrev z16z : List (Nat × AS) := [(1, .box TT7), (1, .v (.int .i64))]

abbrev z1pn : List Nat := [0, 1, 1, 0, 0, 1, 0, 0, 1, 0, 1, 1, 1]

abbrev z1gr : List (Nat × AS) := [(0, .v (.pair zje (.pair TT0 .unit)))]

abbrev z1fj : List Nat := [0, 1, 1, 1, 0, 0, 1, 1, 0, 0, 1, 0, 1, 1]

abbrev z170 : List (Nat × AS) := [(0, .v (.int .u32)), (0, .v (.int .i64))]

abbrev SQ2 : List (Nat × AS) := [(0, .v .str), (0, .v .str), (0, .v .str)]

abbrev z1gs : List (Nat × AS) := [(0, .v (.arr 8 (.int .u32))), (0, .v .str)]

abbrev PQ86 : List Nat := [0, 1, 0, 0, 1, 1, 0, 0, 1, 0, 0, 1, 0, 1, 1, 1]

abbrev PQ85 : List Nat := [0, 1, 0, 0, 1, 0, 1, 0, 0, 1, 0, 0, 1, 0, 1, 1]

abbrev SQ3 : List (Nat × AS) := [(0, .v .str), (0, .v .str), (0, .v (.int .i64))]

abbrev z1fp : List Nat := [0, 1, 1, 0, 0, 1, 0, 0, 1, 0, 1, 1, 1, 1, 1, 0, 1]

abbrev z1f6 : List (Nat × AS) := [(0, .box TT3), (6, .v .bool), (0, .v (.int .i64))]

abbrev z1f7 : List (Nat × AS) := [(0, .v (.arr 8 (.int .u32))), (0, .v (.int .u32))]

abbrev z1fq : List Nat := [0, 0, 0, 1, 0, 0, 1, 0, 1, 0, 0, 1, 0, 0, 1, 0, 1, 1]

abbrev SQ57 : List (Nat × AS) := [(0, .v (.int .i64)), (2, .v .str), (0, .v (.int .i64))]

abbrev z1f8 : List (Nat × AS) := [(3, .v (.int .i64)), (0, .row TT0), (0, .v (.int .i64))]

abbrev SQ5 : List (Nat × AS) := [(1, .box TT0), (1, .v (.int .i64)), (0, .v (.int .i64))]

abbrev z1gu : List (Nat × AS) := [(0, .v .str), (0, .v .str), (3, .v .str), (0, .v (.int .i64))]

abbrev z1f5 : List (Nat × AS) := [(1, .v .str), (2, .box TT0), (1, .box (.pair zje (.pair TT0 .unit)))]

abbrev SQ6 : List (Nat × AS) := [(0, .box (.int .i64)), (0, .box .str), (0, .box .str), (0, .box .str)]

abbrev z1gv : List (Nat × AS) := [(3, .v (.int .i64)), (0, .row TT0), (0, .v (.int .i64)), (0, .v (.int .i64))]

abbrev SQ50 : List (Nat × AS) := [(3, .v (.int .i64)), (8, .v (.sl TT0)), (0, .v (.int .i64)), (0, .v (.int .i64))]

abbrev z1pk : List (Nat × AS) := [(2, .box (.arr 64 (.int .u32))), (0, .box (.arr 64 (.int .u32))), (2, .v (.int .i64))]

abbrev SQ97 : List (Nat × AS) := [(0, .box TT3), (0, .v .str), (9, .v (.sl TT0)), (0, .v (.int .i64)), (0, .v (.int .i64))]

abbrev SQ96 : List (Nat × AS) := [(0, .v .str), (0, .v .str), (3, .v (.int .u8)), (7, .v (.int .i64)), (0, .v (.int .i64))]

abbrev SQ94 : List (Nat × AS) := [(0, .v .str), (0, .v .str), (3, .row (.int .u8)), (8, .v (.int .i64)), (0, .v (.int .i64))]

abbrev SQ36 : List (Nat × AS) := [(0, .v (.arr 8 (.int .u32))), (0, .v .str), (0, .v (.int .i64)), (0, .v (.sl (.int .u32)))]

abbrev SQ92 : List (Nat × AS) := [(3, .v .str), (0, .v (.sl (.int .u32))), (0, .box (.arr 8 (.int .u32))), (0, .v (.int .i64))]

abbrev SQ80 : List (Nat × AS) := [(1, .v .str), (0, .box (.arr 8 (.int .u32))), (1, .box (.arr 8 (.int .u32))), (0, .v (.int .i64))]

abbrev SQ79 : List (Nat × AS) := [(0, .v .str), (1, .box (.arr 64 (.int .u32))), (0, .box (.arr 64 (.int .u32))), (7, .v (.int .i64))]

abbrev SQ67 : List (Nat × AS) := [(0, .v (.int .u64)), (0, .v (.int .i64)), (3, .row (.int .u8)), (3, .v (.int .i64)), (0, .v (.int .i64))]

abbrev SQ56 : List (Nat × AS) := [(3, .v (.sl (.int .u32))), (0, .box (.arr 8 (.int .u32))), (3, .box (.arr 8 (.int .u32))), (0, .row (.int .u32))]

abbrev SQ53 : List (Nat × AS) := [(4, .box (.arr 8 (.int .u32))), (3, .box (.arr 8 (.int .u32))), (8, .box (.arr 8 (.int .u32))), (6, .v (.int .i64))]

abbrev SQ52 : List (Nat × AS) := [(2, .box (.arr 8 (.int .u32))), (1, .box (.arr 8 (.int .u32))), (1, .box (.arr 8 (.int .u32))), (22, .v (.int .i64))]

abbrev SQ19 : List (Nat × AS) := [(0, .box TT3), (0, .v .str), (3, .v (.int .i64)), (0, .box TT0), (4, .v (.sl TT0)), (0, .v (.int .i64)), (0, .v (.int .i64))]

abbrev SQ39 : List (Nat × AS) := [(3, .v (.sl (.int .u32))), (0, .box (.arr 8 (.int .u32))), (3, .box (.arr 8 (.int .u32))), (0, .row (.int .u32)), (2, .v (.int .i64))]

abbrev SQ35 : List (Nat × AS) := [(3, .v (.int .i64)), (8, .v (.sl TT0)), (0, .v (.int .i64)), (0, .v (.int .i64)), (10, .v (.sl zje)), (0, .v (.int .i64)), (0, .v (.int .i64))]

abbrev SQ32 : List (Nat × AS) := [(2, .box (.arr 8 (.int .u32))), (1, .box (.arr 8 (.int .u32))), (0, .box (.arr 64 (.int .u32))), (0, .box (.arr 8 (.int .u32))), (9, .v (.int .i64))]

abbrev SQ25 : List (Nat × AS) := [(3, .v (.sl (.int .u32))), (0, .box (.arr 8 (.int .u32))), (3, .box (.arr 8 (.int .u32))), (0, .row (.int .u32)), (7, .box (.arr 8 (.int .u32))), (0, .v (.int .i64))]

abbrev SQ1 : List (Nat × AS) := [(0, .v .str), (0, .v .str), (3, .v .str), (0, .v (.int .i64)), (0, .v (.int .i64)), (0, .v (.int .i64)), (0, .v (.int .i64)), (0, .v (.int .i64)), (0, .v (.int .i64))]

abbrev SQ24 : List (Nat × AS) := [(0, .box TT3), (6, .v .bool), (0, .v (.int .i64)), (0, .box (.pair (.sl zje) (.pair (.sl .str) .unit))), (51, .v (.sl zje)), (0, .v (.int .i64)), (0, .v (.int .i64))]

abbrev SQ23 : List (Nat × AS) := [(1, .v .str), (0, .v (.int .i64)), (0, .v (.sl (.int .u32))), (0, .box (.arr 8 (.int .u32))), (3, .box (.arr 8 (.int .u32))), (0, .row (.int .u32)), (0, .v (.int .i64))]

def ty3 : TyI := ⟨(Go.TypeDesc.int IntKind.i64), 1, 8, (.int .i64), (0 : Int), false⟩

theorem z1h8 : TyOk Tryz.prog 3 ty3 := TyOk.of (by kernel_rfl) (by kernel_rfl) (by kernel_rfl) (by kernel_rfl)

def ty4 : TyI := ⟨Go.TypeDesc.bool, 1, 1, .bool, false, false⟩

theorem z1h7 : TyOk Tryz.prog 4 ty4 := TyOk.of (by kernel_rfl) (by kernel_rfl) (by kernel_rfl) (by kernel_rfl)

def ty5 : TyI := ⟨(Go.TypeDesc.int IntKind.u8), 1, 1, (.int .u8), (0 : Int), false⟩

theorem z1h6 : TyOk Tryz.prog 5 ty5 := TyOk.of (by kernel_rfl) (by kernel_rfl) (by kernel_rfl) (by kernel_rfl)

def ty9 : TyI := ⟨Go.TypeDesc.string, 1, 16, .str, ([] : List UInt8), false⟩

theorem z1h5 : TyOk Tryz.prog 9 ty9 := TyOk.of (by kernel_rfl) (by kernel_rfl) (by kernel_rfl) (by kernel_rfl)

def ty22 : TyI := ⟨(Go.TypeDesc.slice 67), 1, 24, (.sl zje), ([] : List DT8), false⟩

theorem z19s : TyOk Tryz.prog 22 ty22 := TyOk.of (by kernel_rfl) (by kernel_rfl) (by kernel_rfl) (by kernel_rfl)

def ty24 : TyI := ⟨(Go.TypeDesc.struct (List.toArray ([(Go.Field.mk "ID" 9 0 false "" "" 0), (Go.Field.mk "Links" 22 1 false "" "" 16), (Go.Field.mk "Tag" 9 2 false "" "" 40)] : List Go.Field))), 3, 56, TT0, (([] : List UInt8), ([] : List DT8), ([] : List UInt8), ()), true⟩

theorem z19r : TyOk Tryz.prog 24 ty24 := TyOk.of (by kernel_rfl) (by kernel_rfl) (by kernel_rfl) (by kernel_rfl)

def ty25 : TyI := ⟨(Go.TypeDesc.slice 24), 1, 24, (.sl TT0), ([] : List DT1), false⟩

theorem z19q : TyOk Tryz.prog 25 ty25 := TyOk.of (by kernel_rfl) (by kernel_rfl) (by kernel_rfl) (by kernel_rfl)

def ty27 : TyI := ⟨(Go.TypeDesc.struct (List.toArray ([(Go.Field.mk "Token" 24 0 false "" "" 0), (Go.Field.mk "More" 25 3 false "" "" 56)] : List Go.Field))), 4, 80, TT7, ((([] : List UInt8), ([] : List DT8), ([] : List UInt8), ()), ([] : List DT1), ()), true⟩

theorem z19p : TyOk Tryz.prog 27 ty27 := TyOk.of (by kernel_rfl) (by kernel_rfl) (by kernel_rfl) (by kernel_rfl)

def ty30 : TyI := ⟨(Go.TypeDesc.slice 9), 1, 24, (.sl .str), ([] : List (List UInt8)), false⟩

theorem z19o : TyOk Tryz.prog 30 ty30 := TyOk.of (by kernel_rfl) (by kernel_rfl) (by kernel_rfl) (by kernel_rfl)

def ty31 : TyI := ⟨(Go.TypeDesc.int IntKind.i64), 1, 8, (.int .i64), (0 : Int), false⟩

theorem z19n : TyOk Tryz.prog 31 ty31 := TyOk.of (by kernel_rfl) (by kernel_rfl) (by kernel_rfl) (by kernel_rfl)

def ty34 : TyI := ⟨(Go.TypeDesc.slice 4), 1, 24, (.sl .bool), ([] : List Bool), false⟩

theorem z19m : TyOk Tryz.prog 34 ty34 := TyOk.of (by kernel_rfl) (by kernel_rfl) (by kernel_rfl) (by kernel_rfl)

def ty36 : TyI := ⟨(Go.TypeDesc.struct (List.toArray ([(Go.Field.mk "Used" 34 0 false "" "" 0), (Go.Field.mk "Texts" 30 1 false "" "" 24), (Go.Field.mk "Work" 3 2 false "" "" 48), (Go.Field.mk "E" 31 3 false "" "" 56), (Go.Field.mk "Summed" 30 4 false "" "" 64)] : List Go.Field))), 5, 88, TT5, (([] : List Bool), ([] : List (List UInt8)), (0 : Int), (0 : Int), ([] : List (List UInt8)), ()), true⟩

theorem z19l : TyOk Tryz.prog 36 ty36 := TyOk.of (by kernel_rfl) (by kernel_rfl) (by kernel_rfl) (by kernel_rfl)

def ty42 : TyI := ⟨(Go.TypeDesc.func (List.toArray ([24] : List Nat)) (List.toArray ([4] : List Nat)) false), 1, 8, .opq, Go.Value.nilFunc, false⟩

theorem z19k : TyOk Tryz.prog 42 ty42 := TyOk.of (by kernel_rfl) (by kernel_rfl) (by kernel_rfl) (by kernel_rfl)

def ty58 : TyI := ⟨(Go.TypeDesc.pointer 63), 1, 8, .opq, (Go.Value.pointer none), false⟩

theorem z19j : TyOk Tryz.prog 58 ty58 := TyOk.of (by kernel_rfl) (by kernel_rfl) (by kernel_rfl) (by kernel_rfl)

def ty61 : TyI := ⟨(Go.TypeDesc.slice 97), 1, 24, (.sl (.pair (.sl zje) (.pair (.sl .str) .unit))), ([] : List ((List DT8) × ((List (List UInt8)) × Unit))), false⟩

theorem z19i : TyOk Tryz.prog 61 ty61 := TyOk.of (by kernel_rfl) (by kernel_rfl) (by kernel_rfl) (by kernel_rfl)

def ty63 : TyI := ⟨(Go.TypeDesc.struct (List.toArray ([(Go.Field.mk "b" 27 0 false "" "porter/verify" 0), (Go.Field.mk "used" 34 4 false "" "porter/verify" 80), (Go.Field.mk "list" 61 5 false "" "porter/verify" 104), (Go.Field.mk "texts" 30 6 false "" "porter/verify" 128), (Go.Field.mk "work" 3 7 false "" "porter/verify" 152)] : List Go.Field))), 8, 160, (.pair TT7 (.pair (.sl .bool) (.pair (.sl (.pair (.sl zje) (.pair (.sl .str) .unit))) (.pair (.sl .str) (.pair (.int .i64) .unit))))), (((([] : List UInt8), ([] : List DT8), ([] : List UInt8), ()), ([] : List DT1), ()), ([] : List Bool), ([] : List ((List DT8) × ((List (List UInt8)) × Unit))), ([] : List (List UInt8)), (0 : Int), ()), true⟩

theorem z19h : TyOk Tryz.prog 63 ty63 := TyOk.of (by kernel_rfl) (by kernel_rfl) (by kernel_rfl) (by kernel_rfl)

def ty64 : TyI := ⟨(Go.TypeDesc.slice 30), 1, 24, (.sl (.sl .str)), ([] : List (List (List UInt8))), false⟩

theorem z19g : TyOk Tryz.prog 64 ty64 := TyOk.of (by kernel_rfl) (by kernel_rfl) (by kernel_rfl) (by kernel_rfl)

def ty67 : TyI := ⟨(Go.TypeDesc.struct (List.toArray ([(Go.Field.mk "Text" 9 0 false "" "" 0), (Go.Field.mk "Seal" 9 1 false "" "" 16)] : List Go.Field))), 2, 32, zje, (([] : List UInt8), ([] : List UInt8), ()), true⟩

theorem z10t : TyOk Tryz.prog 67 ty67 := TyOk.of (by kernel_rfl) (by kernel_rfl) (by kernel_rfl) (by kernel_rfl)

def ty76 : TyI := ⟨(Go.TypeDesc.func (List.toArray ([103] : List Nat)) (List.toArray ([] : List Nat)) false), 1, 8, .opq, Go.Value.nilFunc, false⟩

theorem z19f : TyOk Tryz.prog 76 ty76 := TyOk.of (by kernel_rfl) (by kernel_rfl) (by kernel_rfl) (by kernel_rfl)

def ty78 : TyI := ⟨Go.TypeDesc.string, 1, 16, .str, ([] : List UInt8), false⟩

theorem z19e : TyOk Tryz.prog 78 ty78 := TyOk.of (by kernel_rfl) (by kernel_rfl) (by kernel_rfl) (by kernel_rfl)

def ty79 : TyI := ⟨(Go.TypeDesc.func (List.toArray ([78, 67] : List Nat)) (List.toArray ([78] : List Nat)) false), 1, 8, .opq, Go.Value.nilFunc, false⟩

theorem z19d : TyOk Tryz.prog 79 ty79 := TyOk.of (by kernel_rfl) (by kernel_rfl) (by kernel_rfl) (by kernel_rfl)

def ty89 : TyI := ⟨(Go.TypeDesc.struct (List.toArray ([(Go.Field.mk "Link" 67 0 true "" "" 0), (Go.Field.mk "to" 24 2 false "" "porter/holder" 32)] : List Go.Field))), 5, 88, (.pair zje (.pair TT0 .unit)), ((([] : List UInt8), ([] : List UInt8), ()), (([] : List UInt8), ([] : List DT8), ([] : List UInt8), ()), ()), true⟩

theorem z19c : TyOk Tryz.prog 89 ty89 := TyOk.of (by kernel_rfl) (by kernel_rfl) (by kernel_rfl) (by kernel_rfl)

def ty97 : TyI := ⟨(Go.TypeDesc.struct (List.toArray ([(Go.Field.mk "links" 22 0 false "" "porter/verify" 0), (Go.Field.mk "tags" 30 1 false "" "porter/verify" 24)] : List Go.Field))), 2, 48, (.pair (.sl zje) (.pair (.sl .str) .unit)), (([] : List DT8), ([] : List (List UInt8)), ()), true⟩

theorem z19b : TyOk Tryz.prog 97 ty97 := TyOk.of (by kernel_rfl) (by kernel_rfl) (by kernel_rfl) (by kernel_rfl)

def z1hq : TyI := ⟨(Go.TypeDesc.func (List.toArray ([78] : List Nat)) (List.toArray ([4] : List Nat)) false), 1, 8, .opq, Go.Value.nilFunc, false⟩

theorem z14v : TyOk Tryz.prog 103 z1hq := TyOk.of (by kernel_rfl) (by kernel_rfl) (by kernel_rfl) (by kernel_rfl)

def z1hp : TyI := ⟨(Go.TypeDesc.slice 106), 1, 24, (.sl (.int .u32)), ([] : List Int), false⟩

theorem z14u : TyOk Tryz.prog 104 z1hp := TyOk.of (by kernel_rfl) (by kernel_rfl) (by kernel_rfl) (by kernel_rfl)

def z1ho : TyI := ⟨(Go.TypeDesc.int IntKind.u32), 1, 4, (.int .u32), (0 : Int), false⟩

theorem z14t : TyOk Tryz.prog 106 z1ho := TyOk.of (by kernel_rfl) (by kernel_rfl) (by kernel_rfl) (by kernel_rfl)

def z1hn : TyI := ⟨(Go.TypeDesc.array 8 106), 8, 32, (.arr 8 (.int .u32)), ([(0 : Int), (0 : Int), (0 : Int), (0 : Int), (0 : Int), (0 : Int), (0 : Int), (0 : Int)] : List Int), true⟩

theorem z14s : TyOk Tryz.prog 107 z1hn := TyOk.of (by kernel_rfl) (by kernel_rfl) (by kernel_rfl) (by kernel_rfl)

def z1hm : TyI := ⟨(Go.TypeDesc.pointer 114), 1, 8, .opq, (Go.Value.pointer none), false⟩

theorem z14r : TyOk Tryz.prog 111 z1hm := TyOk.of (by kernel_rfl) (by kernel_rfl) (by kernel_rfl) (by kernel_rfl)

def z1hl : TyI := ⟨(Go.TypeDesc.slice 5), 1, 24, (.sl (.int .u8)), ([] : List Int), false⟩

theorem z14q : TyOk Tryz.prog 112 z1hl := TyOk.of (by kernel_rfl) (by kernel_rfl) (by kernel_rfl) (by kernel_rfl)

def z1hk : TyI := ⟨(Go.TypeDesc.struct (List.toArray ([(Go.Field.mk "addr" 111 0 false "" "strings" 0), (Go.Field.mk "buf" 112 1 false "" "strings" 8)] : List Go.Field))), 2, 32, (.pair .opq (.pair (.sl (.int .u8)) .unit)), ((Go.Value.pointer none), ([] : List Int), ()), true⟩

theorem z14p : TyOk Tryz.prog 114 z1hk := TyOk.of (by kernel_rfl) (by kernel_rfl) (by kernel_rfl) (by kernel_rfl)

def z1hj : TyI := ⟨(Go.TypeDesc.func (List.toArray ([134] : List Nat)) (List.toArray ([] : List Nat)) false), 1, 8, .opq, Go.Value.nilFunc, false⟩

theorem z14o : TyOk Tryz.prog 116 z1hj := TyOk.of (by kernel_rfl) (by kernel_rfl) (by kernel_rfl) (by kernel_rfl)

def z1hi : TyI := ⟨(Go.TypeDesc.interface (List.toArray ([("Error", 122)] : List (String × Nat)))), 1, 16, .opq, Go.Value.nilIface, false⟩

theorem z14n : TyOk Tryz.prog 119 z1hi := TyOk.of (by kernel_rfl) (by kernel_rfl) (by kernel_rfl) (by kernel_rfl)

def z1hh : TyI := ⟨(Go.TypeDesc.int IntKind.u64), 1, 8, (.int .u64), (0 : Int), false⟩

theorem z14m : TyOk Tryz.prog 131 z1hh := TyOk.of (by kernel_rfl) (by kernel_rfl) (by kernel_rfl) (by kernel_rfl)

def z1hg : TyI := ⟨(Go.TypeDesc.int IntKind.u64), 1, 8, (.int .u64), (0 : Int), false⟩

theorem z14l : TyOk Tryz.prog 132 z1hg := TyOk.of (by kernel_rfl) (by kernel_rfl) (by kernel_rfl) (by kernel_rfl)

def z1hf : TyI := ⟨(Go.TypeDesc.func (List.toArray ([9] : List Nat)) (List.toArray ([4] : List Nat)) false), 1, 8, .opq, Go.Value.nilFunc, false⟩

theorem z14k : TyOk Tryz.prog 134 z1hf := TyOk.of (by kernel_rfl) (by kernel_rfl) (by kernel_rfl) (by kernel_rfl)

def z1he : TyI := ⟨(Go.TypeDesc.func (List.toArray ([146] : List Nat)) (List.toArray ([] : List Nat)) false), 1, 8, .opq, Go.Value.nilFunc, false⟩

theorem z14j : TyOk Tryz.prog 138 z1he := TyOk.of (by kernel_rfl) (by kernel_rfl) (by kernel_rfl) (by kernel_rfl)

def z1hd : TyI := ⟨(Go.TypeDesc.pointer 152), 1, 8, .opq, (Go.Value.pointer none), false⟩

theorem z14i : TyOk Tryz.prog 140 z1hd := TyOk.of (by kernel_rfl) (by kernel_rfl) (by kernel_rfl) (by kernel_rfl)

def z1hc : TyI := ⟨(Go.TypeDesc.func (List.toArray ([9, 4] : List Nat)) (List.toArray ([4] : List Nat)) false), 1, 8, .opq, Go.Value.nilFunc, false⟩

theorem z14h : TyOk Tryz.prog 146 z1hc := TyOk.of (by kernel_rfl) (by kernel_rfl) (by kernel_rfl) (by kernel_rfl)

def z1hb : TyI := ⟨(Go.TypeDesc.array 8 106), 8, 32, (.arr 8 (.int .u32)), ([(0 : Int), (0 : Int), (0 : Int), (0 : Int), (0 : Int), (0 : Int), (0 : Int), (0 : Int)] : List Int), true⟩

theorem z14g : TyOk Tryz.prog 149 z1hb := TyOk.of (by kernel_rfl) (by kernel_rfl) (by kernel_rfl) (by kernel_rfl)

def z1ha : TyI := ⟨(Go.TypeDesc.struct (List.toArray ([(Go.Field.mk "made" 4 0 false "" "porter/sha" 0), (Go.Field.mk "words" 149 1 false "" "porter/sha" 4), (Go.Field.mk "rest" 9 9 false "" "porter/sha" 40), (Go.Field.mk "long" 3 10 false "" "porter/sha" 56)] : List Go.Field))), 11, 64, TT6, (false, ([(0 : Int), (0 : Int), (0 : Int), (0 : Int), (0 : Int), (0 : Int), (0 : Int), (0 : Int)] : List Int), ([] : List UInt8), (0 : Int), ()), true⟩

theorem z14f : TyOk Tryz.prog 152 z1ha := TyOk.of (by kernel_rfl) (by kernel_rfl) (by kernel_rfl) (by kernel_rfl)

def z1h9 : TyI := ⟨(Go.TypeDesc.array 64 106), 64, 256, (.arr 64 (.int .u32)), ((0 : Int) :: (0 : Int) :: (0 : Int) :: (0 : Int) :: (0 : Int) :: (0 : Int) :: (0 : Int) :: (0 : Int) :: (0 : Int) :: (0 : Int) :: (0 : Int) :: (0 : Int) :: (0 : Int) :: (0 : Int) :: (0 : Int) :: (0 : Int) :: (0 : Int) :: (0 : Int) :: (0 : Int) :: (0 : Int) :: (0 : Int) :: (0 : Int) :: (0 : Int) :: (0 : Int) :: (0 : Int) :: (0 : Int) :: (0 : Int) :: (0 : Int) :: (0 : Int) :: (0 : Int) :: (0 : Int) :: (0 : Int) :: (0 : Int) :: (0 : Int) :: (0 : Int) :: (0 : Int) :: (0 : Int) :: (0 : Int) :: (0 : Int) :: (0 : Int) :: (0 : Int) :: (0 : Int) :: (0 : Int) :: (0 : Int) :: (0 : Int) :: (0 : Int) :: (0 : Int) :: (0 : Int) :: (0 : Int) :: (0 : Int) :: (0 : Int) :: (0 : Int) :: (0 : Int) :: (0 : Int) :: (0 : Int) :: (0 : Int) :: (0 : Int) :: (0 : Int) :: (0 : Int) :: (0 : Int) :: (0 : Int) :: (0 : Int) :: (0 : Int) :: (0 : Int) :: ([] : List Int)), true⟩

theorem z14e : TyOk Tryz.prog 164 z1h9 := TyOk.of (by kernel_rfl) (by kernel_rfl) (by kernel_rfl) (by kernel_rfl)

def tys : List (Nat × TyI) := [(3, ty3), (4, ty4), (5, ty5), (9, ty9), (22, ty22), (24, ty24), (25, ty25), (27, ty27), (30, ty30), (31, ty31), (34, ty34), (36, ty36), (42, ty42), (58, ty58), (61, ty61), (63, ty63), (64, ty64), (67, ty67), (76, ty76), (78, ty78), (79, ty79), (89, ty89), (97, ty97), (103, z1hq), (104, z1hp), (106, z1ho), (107, z1hn), (111, z1hm), (112, z1hl), (114, z1hk), (116, z1hj), (119, z1hi), (131, z1hh), (132, z1hg), (134, z1hf), (138, z1he), (140, z1hd), (146, z1hc), (149, z1hb), (152, z1ha), (164, z1h9)]

theorem zp : TysOk Tryz.prog tys := TysOk.cons z1h8 (TysOk.cons z1h7 (TysOk.cons z1h6 (TysOk.cons z1h5 (TysOk.cons z19s (TysOk.cons z19r (TysOk.cons z19q (TysOk.cons z19p (TysOk.cons z19o (TysOk.cons z19n (TysOk.cons z19m (TysOk.cons z19l (TysOk.cons z19k (TysOk.cons z19j (TysOk.cons z19i (TysOk.cons z19h (TysOk.cons z19g (TysOk.cons z10t (TysOk.cons z19f (TysOk.cons z19e (TysOk.cons z19d (TysOk.cons z19c (TysOk.cons z19b (TysOk.cons z14v (TysOk.cons z14u (TysOk.cons z14t (TysOk.cons z14s (TysOk.cons z14r (TysOk.cons z14q (TysOk.cons z14p (TysOk.cons z14o (TysOk.cons z14n (TysOk.cons z14m (TysOk.cons z14l (TysOk.cons z14k (TysOk.cons z14j (TysOk.cons z14i (TysOk.cons z14h (TysOk.cons z14g (TysOk.cons z14f (TysOk.cons z14e (TysOk.nil)))))))))))))))))))))))))))))))))))))))))

theorem mixed : Tryz.prog.follows .mixedOrders = true := by kernel_rfl

def glob0 : List Int := [1116352408, 1899447441, 3049323471, 3921009573, 961987163, 1508970993, 2453635748, 2870763221, 3624381080, 310598401, 607225278, 1426881987, 1925078388, 2162078206, 2614888103, 3248222580, 3835390401, 4022224774, 264347078, 604807628, 770255983, 1249150122, 1555081692, 1996064986, 2554220882, 2821834349, 2952996808, 3210313671, 3336571891, 3584528711, 113926993, 338241895, 666307205, 773529912, 1294757372, 1396182291, 1695183700, 1986661051, 2177026350, 2456956037, 2730485921, 2820302411, 3259730800, 3345764771, 3516065817, 3600352804, 4094571909, 275423344, 430227734, 506948616, 659060556, 883997877, 958139571, 1322822218, 1537002063, 1747873779, 1955562222, 2024104815, 2227730452, 2361852424, 2428436474, 2756734187, 3204031479, 3329325298]

def glob : Nat -> Option Dat := lk [(0, ⟨(.arr 64 (.int .u32)), glob0⟩)]

def zdx : Code := (Tryz.f14.body).getD .skip

def L_0 : List (List Nat × List Nat) := [([0], [1]), ([0, 0, 1], [20, 1]), ([1, 0, 1], [1]), ([0, 0, 1, 0, 1], [2]), ([1, 0, 1, 0, 1], [2]), ([0, 1, 1], [1, 3]), ([0, 0, 1, 1, 1], [4, 1, 3]), ([0, 1, 0, 1, 1, 1], [4, 1, 3]), (z1fb, [25, 1, 4, 3]), (z1fa, [1, 4, 3]), (z1fd, [3]), (z176, [45, 3, 1, 4]), ([1, 0, 0, 0, 1, 0, 0, 1, 0, 1, 1, 1], [3, 1, 4]), ([0, 0, 1, 0, 0, 0, 1, 0, 0, 1, 0, 1, 1, 1], [2]), ([1, 0, 1, 0, 0, 0, 1, 0, 0, 1, 0, 1, 1, 1], [2]), ([1, 0, 0, 1, 0, 0, 1, 0, 1, 1, 1], [4, 1, 3]), (z10m, [4, 1, 3]), (z1f9, [4, 1, 3]), ([1, 0, 1, 1, 1], [3]), ([0, 1, 1, 1, 1], [2]), ([1, 1, 1, 1, 1], [2])]

def E_0 (N : Nat) : Env := z16 tys glob [] [] [] [] false [] []

theorem Eok_0 (N : Nat) : EnvOk Tryz.prog (E_0 N) := zk mixed zp (FnsOk.nil) (ItsOk.nil)

def z6b (N : Nat) (t : DT1) (k0 : Bool -> Option Bool) : Option Bool :=
 cond (decide ((4200 : Int) < (((List.length t.1) : Nat) : Int)))
 (k0 true)
 (cond (decide ((100 : Int) < (((List.length t.2.2.1) : Nat) : Int)))
 (k0 true)
 (k0 (decide ((70 : Int) < (((List.length t.2.1) : Nat) : Int)))))

def g2_0 (N : Nat) (x : z1j [(1, .box TT0)]) (K : Ex -> List A -> Option Bool) : Option Bool :=
 z6b N x.1 (fun a1 => (K .normal (mkS [(1, .box TT0), (18, .v .bool)] 44 (x.1, a1, ()))))

def h2_0 (N : Nat) : Hd Bool := fun st K => (unS [(1, .box TT0)] 63 (restr [1] 0 st)).bind fun x => g2_0 N x K

def t2_0 (N : Nat) : Tab Bool := []

theorem ok2_0 {N : Nat} {c : Ctx} (hb : Base Tryz.prog (E_0 N) c) : zo Tryz.prog c (zl zdx [0, 0, 1]) (h2_0 N) :=
  z14 (s := [(1, .box TT0)]) (m := 63) (g := g2_0 N) [1] (zi hb N (t2_0 N) L_0 zdx TabOk.nil [0, 0, 1] _ rfl) (fun x K => by kernel_rfl)

def z6c (N : Nat) (t : DT1) (k0 : Bool -> Option Bool) (k1 : Option Bool) : Option Bool :=
 z6b N t
 (fun x20 => cond x20
 (k0 true)
 (k1))

def g1_0 (N : Nat) (x : z1j [(1, .box TT0)]) (K : Ex -> List A -> Option Bool) : Option Bool :=
 z6c N x.1 (fun a0 => (K .ret (mkS [(2, .v .bool)] 62 (a0, ())))) (K .normal (mkS [(1, .box TT0)] 63 (x.1, ())))

def h1_0 (N : Nat) : Hd Bool := fun st K => (unS [(1, .box TT0)] 63 (restr [1] 0 st)).bind fun x => g1_0 N x K

def t1_0 (N : Nat) : Tab Bool := [([0, 0, 1], h2_0 N)]

theorem ok1_0 {N : Nat} {c : Ctx} (hb : Base Tryz.prog (E_0 N) c) : zo Tryz.prog c (zl zdx [0, 1]) (h1_0 N) :=
  z14 (s := [(1, .box TT0)]) (m := 63) (g := g1_0 N) [1] (zi hb N (t1_0 N) L_0 zdx (TabOk.cons (ok2_0 hb) TabOk.nil) [0, 1] _ rfl) (fun x K => by kernel_rfl)

def z68 (N : Nat) (t : DT1) (all : Int) (i : Int) (k0 : Bool -> Option Bool) : Option Bool :=
 cond (inR i (List.length t.2.1))
 (cond (decide ((4200 : Int) < (((List.length (List.getD t.2.1 (Int.toNat i) (([] : List UInt8), (([] : List UInt8), ()))).1) : Nat) : Int)))
 (k0 true)
 (cond (inR i (List.length t.2.1))
 (k0 (decide ((4200 : Int) < (((List.length (List.getD t.2.1 (Int.toNat i) (([] : List UInt8), (([] : List UInt8), ()))).2.1) : Nat) : Int))))
 (none)))
 (none)

def g6_0 (N : Nat) (x : z1j SQ5) (K : Ex -> List A -> Option Bool) : Option Bool :=
 z68 N x.1 x.2.1 x.2.2.1 (fun a3 => (K .normal (mkS [(1, .box TT0), (1, .v (.int .i64)), (0, .v (.int .i64)), (40, .v .bool)] 19 (x.1, x.2.1, x.2.2.1, a3, ()))))

def h6_0 (N : Nat) : Hd Bool := fun st K => (unS SQ5 60 (restr [1, 4, 3] 0 st)).bind fun x => g6_0 N x K

def t6_0 (N : Nat) : Tab Bool := []

theorem ok6_0 {N : Nat} {c : Ctx} (hb : Base Tryz.prog (E_0 N) c) : zo Tryz.prog c (zl zdx z176) (h6_0 N) :=
  z14 (s := SQ5) (m := 60) (g := g6_0 N) [1, 4, 3] (zi hb N (t6_0 N) L_0 zdx TabOk.nil z176 _ rfl) (fun x K => by kernel_rfl)

def z69 (N : Nat) (t : DT1) (all : Int) (i : Int) (k0 : Bool -> Option Bool) (k1 : Option Bool) : Option Bool :=
 z68 N t all i
 (fun x45 => cond x45
 (k0 true)
 (k1))

def g5_0 (N : Nat) (x : z1j SQ5) (K : Ex -> List A -> Option Bool) : Option Bool :=
 z69 N x.1 x.2.1 x.2.2.1 (fun a0 => (K .ret (mkS [(2, .v .bool)] 62 (a0, ())))) (K .normal (mkS SQ5 60 (x.1, x.2.1, x.2.2.1, ())))

def h5_0 (N : Nat) : Hd Bool := fun st K => (unS SQ5 60 (restr [1, 4, 3] 0 st)).bind fun x => g5_0 N x K

def t5_0 (N : Nat) : Tab Bool := [(z176, h6_0 N)]

theorem ok5_0 {N : Nat} {c : Ctx} (hb : Base Tryz.prog (E_0 N) c) : zo Tryz.prog c (zl zdx z1fh) (h5_0 N) :=
  z14 (s := SQ5) (m := 60) (g := g5_0 N) [1, 4, 3] (zi hb N (t5_0 N) L_0 zdx (TabOk.cons (ok6_0 hb) TabOk.nil) z1fh _ rfl) (fun x K => by kernel_rfl)

def z6a (N : Nat) (t : DT1) (all : Int) (i : Int) (k0 : Bool -> Option Bool) (k1 : Int -> Option Bool) : Option Bool :=
 z69 N t all i
 (fun x2 => k0 x2)
 (cond (inR i (List.length t.2.1))
 (cond (inR i (List.length t.2.1))
 (k1 (IntKind.wrap IntKind.i64 ((IntKind.wrap IntKind.i64 (all + (((List.length (List.getD t.2.1 (Int.toNat i) (([] : List UInt8), (([] : List UInt8), ()))).1) : Nat) : Int))) + (((List.length (List.getD t.2.1 (Int.toNat i) (([] : List UInt8), (([] : List UInt8), ()))).2.1) : Nat) : Int))))
 (none))
 (none))

def g4_0 (N : Nat) (x : z1j SQ5) (K : Ex -> List A -> Option Bool) : Option Bool :=
 z6a N x.1 x.2.1 x.2.2.1 (fun a0 => (K .ret (mkS [(2, .v .bool)] 62 (a0, ())))) (fun a1 => (K .normal (mkS SQ5 60 (x.1, a1, x.2.2.1, ()))))

def h4_0 (N : Nat) : Hd Bool := fun st K => (unS SQ5 60 (restr [1, 4, 3] 0 st)).bind fun x => g4_0 N x K

def t4_0 (N : Nat) : Tab Bool := [(z1fh, h5_0 N)]

theorem ok4_0 {N : Nat} {c : Ctx} (hb : Base Tryz.prog (E_0 N) c) : zo Tryz.prog c (zl zdx z10m) (h4_0 N) :=
  z14 (s := SQ5) (m := 60) (g := g4_0 N) [1, 4, 3] (zi hb N (t4_0 N) L_0 zdx (TabOk.cons (ok5_0 hb) TabOk.nil) z10m _ rfl) (fun x K => by kernel_rfl)

def z67 (N : Nat) (t : DT1) (all : Int) (i : Int) (rec : Int -> Int -> Option Bool) (k0 : Bool -> Option Bool) (k1 : Int -> Option Bool) : Option Bool :=
 cond (decide (i < (((List.length t.2.1) : Nat) : Int)))
 (z6a N t all i
 (fun x2 => k0 x2)
 (fun all1 => rec all1 (IntKind.wrap IntKind.i64 (i + (1 : Int)))))
 (k1 all)

def zab (N : Nat) (t : DT1) (all : Int) (i : Int) (k0 : Bool -> Option Bool) (k1 : Int -> Option Bool) : Option Bool :=
 iter (fun (v : (Int × Int)) r => z67 N t v.1 v.2 (fun all i => (r (all, i))) k0 k1) N (all, i)

def g3_0 (N : Nat) (i : DT1) (v : (Int × Int)) (r : (Int × Int) -> Option Bool) (K : Ex -> List A -> Option Bool) : Option Bool :=
 z67 N i v.1 v.2 (fun all i => (r (all, i))) (fun a0 => (K .ret (mkS [(2, .v .bool)] 62 (a0, ())))) (fun a0 => (K (.exit 0) (mkS [(3, .v (.int .i64))] 61 (a0, ()))))

def h3_0 (N : Nat) : Hd Bool := fun st K => (unS SQ5 60 (restr [4, 1, 3] 0 st)).bind fun x => iter (fun v r => g3_0 N ((fun x => x.1) x) v r K) N ((fun x => (x.2.1, x.2.2.1)) x)

def t3_0 (N : Nat) : Tab Bool := [(z10m, h4_0 N)]

theorem ok3_0 {N : Nat} {c : Ctx} (hb : Base Tryz.prog (E_0 N) c) : zo Tryz.prog c (zl zdx [0, 1, 0, 1, 1, 1]) (h3_0 N) :=
  z1i (s := SQ5) (m := 60) (g3_0 N) [4, 1, 3] N (fun x => x.1) (fun x => (x.2.1, x.2.2.1)) (fun i v => (i, v.1, v.2, ())) (fun _ => rfl) (zi hb N (t3_0 N) L_0 zdx (TabOk.cons (ok4_0 hb) TabOk.nil) z149 _ rfl) (fun i v r K => by kernel_rfl)

def z1t (N : Nat) (t : DT1) : Option Bool :=
 z6c N t
 (fun x2 => some x2)
 (zab N t (0 : Int) (0 : Int)
 (fun x21 => some x21)
 (fun all => some (decide ((20000 : Int) < all))))

def t_0 (N : Nat) : Tab Bool := [([0, 1], h1_0 N), ([0, 1, 0, 1, 1, 1], h3_0 N)]

theorem z1l6 (N : Nat) (x : z1j [(0, .v TT0)]) : z2j (E_0 N) N (t_0 N) L_0 Tryz.f14 (mkS [(0, .v TT0)] 0 x) (z1h (.v .bool) 1) = z1t N x.1 := by kernel_rfl

def z9h (N : Nat) : List A -> Res := z12 [(0, .v TT0)] (fun x => z1t N x.1) (z2k (.v .bool) 1)

theorem zhl (N : Nat) : Contract Tryz.prog glob 14 (z9h N) :=
  Contract.of (E := E_0 N) (H := t_0 N) (L := L_0) (N := N) (body := zdx) (K := (z1h (.v .bool) 1)) (Eok_0 N) Tryz.func14 (by kernel_rfl) (by decide) (fun _ hb => (TabOk.cons (ok1_0 hb) (TabOk.cons (ok3_0 hb) TabOk.nil))) (fun x y h => by rw [z1l6]; exact h) (zm (s := (.v .bool)) (m := 1))

def zgv : Code := (Tryz.f6.body).getD .skip

def L_1 : List (List Nat × List Nat) := [([0], [1]), ([0, 0, 1], [26, 1]), ([1, 0, 1], [1]), ([0, 0, 1, 0, 1], [2]), ([1, 0, 1, 0, 1], [2]), ([0, 0, 1, 1], [3, 1]), ([0, 1, 0, 1, 1], [3, 1]), (z193, [31, 1, 3]), (z192, [1, 3]), (z194, []), (z174, [59, 3, 1]), (z1pl, [3, 1]), (z1fo, [2]), (z1fn, [2]), (PQ9, [3, 1]), (z191, [3, 1]), ([1, 0, 1, 1], []), ([0, 1, 1, 1], [2]), ([1, 1, 1, 1], [2])]

def E_1 (N : Nat) : Env := z16 tys glob [(14, z9h N)] [] [] [] false [] []

theorem Eok_1 (N : Nat) : EnvOk Tryz.prog (E_1 N) := zk mixed zp (FnsOk.cons (zhl N) (FnsOk.nil)) (ItsOk.nil)

def z6h (N : Nat) (b : zxa) (k0 : Bool -> Option Bool) : Option Bool :=
 cond (decide ((10 : Int) < (((List.length b.2.1) : Nat) : Int)))
 (k0 true)
 (cond (decide ((10 : Int) < (((List.length b.1.2.1) : Nat) : Int)))
 (cond (decide ((((List.length b.1.2.1) : Nat) : Int) < (64 : Int)))
 (k0 true)
 ((z1t N b.1).bind fun y =>
 k0 y))
 ((z1t N b.1).bind fun y1 =>
 k0 y1))

def g2_1 (N : Nat) (x : z1j [(1, .box TT7)]) (K : Ex -> List A -> Option Bool) : Option Bool :=
 z6h N x.1 (fun a1 => (K .normal (mkS [(1, .box TT7), (24, .v .bool)] 33 (x.1, a1, ()))))

def h2_1 (N : Nat) : Hd Bool := fun st K => (unS [(1, .box TT7)] 58 (restr [1] 0 st)).bind fun x => g2_1 N x K

def t2_1 (N : Nat) : Tab Bool := []

theorem ok2_1 {N : Nat} {c : Ctx} (hb : Base Tryz.prog (E_1 N) c) : zo Tryz.prog c (zl zgv [0, 0, 1]) (h2_1 N) :=
  z14 (s := [(1, .box TT7)]) (m := 58) (g := g2_1 N) [1] (zi hb N (t2_1 N) L_1 zgv TabOk.nil [0, 0, 1] _ rfl) (fun x K => by kernel_rfl)

def z6i (N : Nat) (b : zxa) (k0 : Bool -> Option Bool) (k1 : Option Bool) : Option Bool :=
 z6h N b
 (fun x26 => cond x26
 (k0 true)
 (k1))

def g1_1 (N : Nat) (x : z1j [(1, .box TT7)]) (K : Ex -> List A -> Option Bool) : Option Bool :=
 z6i N x.1 (fun a0 => (K .ret (mkS [(2, .v .bool)] 57 (a0, ())))) (K .normal (mkS [(1, .box TT7)] 58 (x.1, ())))

def h1_1 (N : Nat) : Hd Bool := fun st K => (unS [(1, .box TT7)] 58 (restr [1] 0 st)).bind fun x => g1_1 N x K

def t1_1 (N : Nat) : Tab Bool := [([0, 0, 1], h2_1 N)]

theorem ok1_1 {N : Nat} {c : Ctx} (hb : Base Tryz.prog (E_1 N) c) : zo Tryz.prog c (zl zgv [0, 1]) (h1_1 N) :=
  z14 (s := [(1, .box TT7)]) (m := 58) (g := g1_1 N) [1] (zi hb N (t1_1 N) L_1 zgv (TabOk.cons (ok2_1 hb) TabOk.nil) [0, 1] _ rfl) (fun x K => by kernel_rfl)

def z6e (N : Nat) (b : zxa) (i : Int) (k0 : Bool -> Option Bool) : Option Bool :=
 cond (inR i (List.length b.2.1))
 (cond (decide ((10 : Int) < (((List.length (List.getD b.2.1 (Int.toNat i) (([] : List UInt8), (([] : List DT8), (([] : List UInt8), ())))).2.1) : Nat) : Int)))
 (cond (inR i (List.length b.2.1))
 (cond (decide ((((List.length (List.getD b.2.1 (Int.toNat i) (([] : List UInt8), (([] : List DT8), (([] : List UInt8), ())))).2.1) : Nat) : Int) < (64 : Int)))
 (k0 true)
 (cond (inR i (List.length b.2.1))
 ((z1t N (List.getD b.2.1 (Int.toNat i) (([] : List UInt8), (([] : List DT8), (([] : List UInt8), ()))))).bind fun y =>
 k0 y)
 (none)))
 (none))
 (cond (inR i (List.length b.2.1))
 ((z1t N (List.getD b.2.1 (Int.toNat i) (([] : List UInt8), (([] : List DT8), (([] : List UInt8), ()))))).bind fun y1 =>
 k0 y1)
 (none)))
 (none)

def g5_1 (N : Nat) (x : z1j z16z) (K : Ex -> List A -> Option Bool) : Option Bool :=
 z6e N x.1 x.2.1 (fun a2 => (K .normal (mkS [(1, .box TT7), (1, .v (.int .i64)), (55, .v .bool)] 0 (x.1, x.2.1, a2, ()))))

def h5_1 (N : Nat) : Hd Bool := fun st K => (unS z16z 56 (restr [1, 3] 0 st)).bind fun x => g5_1 N x K

def t5_1 (N : Nat) : Tab Bool := []

theorem ok5_1 {N : Nat} {c : Ctx} (hb : Base Tryz.prog (E_1 N) c) : zo Tryz.prog c (zl zgv z174) (h5_1 N) :=
  z14 (s := z16z) (m := 56) (g := g5_1 N) [1, 3] (zi hb N (t5_1 N) L_1 zgv TabOk.nil z174 _ rfl) (fun x K => by kernel_rfl)

def z6f (N : Nat) (b : zxa) (i : Int) (k0 : Bool -> Option Bool) (k1 : Option Bool) : Option Bool :=
 z6e N b i
 (fun x59 => cond x59
 (k0 true)
 (k1))

def g4_1 (N : Nat) (x : z1j z16z) (K : Ex -> List A -> Option Bool) : Option Bool :=
 z6f N x.1 x.2.1 (fun a0 => (K .ret (mkS [(2, .v .bool)] 57 (a0, ())))) (K .normal (mkS z16z 56 (x.1, x.2.1, ())))

def h4_1 (N : Nat) : Hd Bool := fun st K => (unS z16z 56 (restr [1, 3] 0 st)).bind fun x => g4_1 N x K

def t4_1 (N : Nat) : Tab Bool := [(z174, h5_1 N)]

theorem ok4_1 {N : Nat} {c : Ctx} (hb : Base Tryz.prog (E_1 N) c) : zo Tryz.prog c (zl zgv PQ9) (h4_1 N) :=
  z14 (s := z16z) (m := 56) (g := g4_1 N) [1, 3] (zi hb N (t4_1 N) L_1 zgv (TabOk.cons (ok5_1 hb) TabOk.nil) PQ9 _ rfl) (fun x K => by kernel_rfl)

def z6d (N : Nat) (b : zxa) (i : Int) (rec : Int -> Option Bool) (k0 : Bool -> Option Bool) (k1 : Option Bool) : Option Bool :=
 cond (decide (i < (((List.length b.2.1) : Nat) : Int)))
 (z6f N b i
 (fun x2 => k0 x2)
 (rec (IntKind.wrap IntKind.i64 (i + (1 : Int)))))
 (k1)

def z6g (N : Nat) (b : zxa) (i : Int) (k0 : Bool -> Option Bool) (k1 : Option Bool) : Option Bool :=
 iter (fun (v : Int) r => z6d N b v (fun i => (r i)) k0 k1) N i

def g3_1 (N : Nat) (i : zxa) (v : Int) (r : Int -> Option Bool) (K : Ex -> List A -> Option Bool) : Option Bool :=
 z6d N i v (fun i => (r i)) (fun a0 => (K .ret (mkS [(2, .v .bool)] 57 (a0, ())))) (K (.exit 0) (mkS [] 60 ()))

def h3_1 (N : Nat) : Hd Bool := fun st K => (unS z16z 56 (restr [3, 1] 0 st)).bind fun x => iter (fun v r => g3_1 N ((fun x => x.1) x) v r K) N ((fun x => x.2.1) x)

def t3_1 (N : Nat) : Tab Bool := [(PQ9, h4_1 N)]

theorem ok3_1 {N : Nat} {c : Ctx} (hb : Base Tryz.prog (E_1 N) c) : zo Tryz.prog c (zl zgv [0, 1, 0, 1, 1]) (h3_1 N) :=
  z1i (s := z16z) (m := 56) (g3_1 N) [3, 1] N (fun x => x.1) (fun x => x.2.1) (fun i v => (i, v, ())) (fun _ => rfl) (zi hb N (t3_1 N) L_1 zgv (TabOk.cons (ok4_1 hb) TabOk.nil) [0, 0, 1, 0, 1, 1] _ rfl) (fun i v r K => by kernel_rfl)

def z42 (N : Nat) (b : zxa) : Option Bool :=
 z6i N b
 (fun x2 => some x2)
 (z6g N b (0 : Int)
 (fun x21 => some x21)
 (some false))

def t_1 (N : Nat) : Tab Bool := [([0, 1], h1_1 N), ([0, 1, 0, 1, 1], h3_1 N)]

theorem z1l5 (N : Nat) (x : z1j [(0, .v TT7)]) : z2j (E_1 N) N (t_1 N) L_1 Tryz.f6 (mkS [(0, .v TT7)] 0 x) (z1h (.v .bool) 1) = z42 N x.1 := by kernel_rfl

def z9o (N : Nat) : List A -> Res := z12 [(0, .v TT7)] (fun x => z42 N x.1) (z2k (.v .bool) 1)

theorem zhs (N : Nat) : Contract Tryz.prog glob 6 (z9o N) :=
  Contract.of (E := E_1 N) (H := t_1 N) (L := L_1) (N := N) (body := zgv) (K := (z1h (.v .bool) 1)) (Eok_1 N) Tryz.func6 (by kernel_rfl) (by decide) (fun _ hb => (TabOk.cons (ok1_1 hb) (TabOk.cons (ok3_1 hb) TabOk.nil))) (fun x y h => by rw [z1l5]; exact h) (zm (s := (.v .bool)) (m := 1))

def z13m : Code := (Tryz.f99.body).getD .skip

def L_2 : List (List Nat × List Nat) := [([0], [0]), ([0, 1], [3, 0]), ([0, 0, 1, 1], [6, 3, 0]), ([0, 1, 0, 1, 1], [6, 3, 0]), (z14a, [7, 6, 3, 0]), (PQ9, [6, 3, 0]), (z1fg, [3]), (z1fi, [3, 4, 0, 6]), (z1po, [6, 3, 0]), (z1ff, [6, 3, 0]), (z1fe, [6, 3, 0]), ([1, 0, 1, 1], [3]), ([0, 1, 1, 1], [2]), ([1, 1, 1, 1], [2])]

def E_2 (N : Nat) : Env := z16 tys glob [] [(3, (.int .u8))] [] [] false [] []

theorem Eok_2 (N : Nat) : EnvOk Tryz.prog (E_2 N) := zk mixed zp (FnsOk.nil) (ItsOk.nil)

def zi4 (N : Nat) (s : (List UInt8)) (out : (List Int)) (x6 : Int) (rec : (List Int) -> Int -> Option (List UInt8)) (k0 : (List Int) -> Option (List UInt8)) : Option (List UInt8) :=
 cond (decide (x6 < (8 : Int)))
 (cond (decide ((0 : Int) <= (IntKind.wrap IntKind.i64 ((8 : Int) * (IntKind.wrap IntKind.i64 ((7 : Int) - x6))))))
 (cond (inR x6 (List.length out))
 (cond (decide ((Int.toNat x6) < (List.length out)))
 (rec (List.set out (Int.toNat x6) (IntKind.wrap IntKind.u8 (z39 IntKind.u64 (IntKind.wrap IntKind.u64 (((List.length s) : Nat) : Int)) (IntKind.wrap IntKind.i64 ((8 : Int) * (IntKind.wrap IntKind.i64 ((7 : Int) - x6))))))) (IntKind.wrap IntKind.i64 (x6 + (1 : Int))))
 (none))
 (none))
 (none))
 (k0 out)

def zq4 (N : Nat) (s : (List UInt8)) (out : (List Int)) (x6 : Int) (k0 : (List Int) -> Option (List UInt8)) : Option (List UInt8) :=
 iter (fun (v : ((List Int) × Int)) r => zi4 N s v.1 v.2 (fun out x6 => (r (out, x6))) k0) N (out, x6)

def g1_2 (N : Nat) (i : (List UInt8)) (v : ((List Int) × Int)) (r : ((List Int) × Int) -> Option (List UInt8)) (K : Ex -> List A -> Option (List UInt8)) : Option (List UInt8) :=
 zi4 N i v.1 v.2 (fun out x6 => (r (out, x6))) (fun a0 => (K (.exit 0) (mkS [(3, .row (.int .u8))] 19 (a0, ()))))

def h1_2 (N : Nat) : Hd (List UInt8) := fun st K => (unS [(0, .v .str), (2, .row (.int .u8)), (2, .v (.int .i64))] 16 (restr [6, 3, 0] 0 st)).bind fun x => iter (fun v r => g1_2 N ((fun x => x.1) x) v r K) N ((fun x => (x.2.1, x.2.2.1)) x)

def t1_2 (N : Nat) : Tab (List UInt8) := []

theorem ok1_2 {N : Nat} {c : Ctx} (hb : Base Tryz.prog (E_2 N) c) : zo Tryz.prog c (zl z13m [0, 1, 0, 1, 1]) (h1_2 N) :=
  z1i (s := [(0, .v .str), (2, .row (.int .u8)), (2, .v (.int .i64))]) (m := 16) (g1_2 N) [6, 3, 0] N (fun x => x.1) (fun x => (x.2.1, x.2.2.1)) (fun i v => (i, v.1, v.2, ())) (fun _ => rfl) (zi hb N (t1_2 N) L_2 z13m TabOk.nil [0, 0, 1, 0, 1, 1] _ rfl) (fun i v r K => by kernel_rfl)

def zet (N : Nat) (s : (List UInt8)) : Option (List UInt8) :=
 zq4 N s ([(0 : Int), (0 : Int), (0 : Int), (0 : Int), (0 : Int), (0 : Int), (0 : Int), (0 : Int)] : List Int) (0 : Int)
 (fun out => some (z27 out))

def t_2 (N : Nat) : Tab (List UInt8) := [([0, 1, 0, 1, 1], h1_2 N)]

theorem z1l4 (N : Nat) (x : z1j [(0, .v .str)]) : z2j (E_2 N) N (t_2 N) L_2 Tryz.f99 (mkS [(0, .v .str)] 0 x) (z1h (.v .str) 1) = zet N x.1 := by kernel_rfl

def zgk (N : Nat) : List A -> Res := z12 [(0, .v .str)] (fun x => zet N x.1) (z2k (.v .str) 1)

theorem zq5 (N : Nat) : Contract Tryz.prog glob 99 (zgk N) :=
  Contract.of (E := E_2 N) (H := t_2 N) (L := L_2) (N := N) (body := z13m) (K := (z1h (.v .str) 1)) (Eok_2 N) Tryz.func99 (by kernel_rfl) (by decide) (fun _ hb => (TabOk.cons (ok1_2 hb) TabOk.nil)) (fun x y h => by rw [z1l4]; exact h) (zm (s := (.v .str)) (m := 1))

def z13l : Code := (Tryz.f98.body).getD .skip

def L_3 : List (List Nat × List Nat) := [([0], [7, 6, 5, 0]), ([0, 1], [7, 6, 5, 0]), ([0, 0, 0, 1], [8, 5, 7, 0, 6]), ([0, 1, 0, 0, 1], [5, 7, 0, 6]), ([1, 0, 1, 0, 0, 1], [0]), ([0, 0, 0, 1, 1, 0, 0, 1], [0, 4, 7, 6, 5]), ([0, 1, 0, 0, 1, 1, 0, 0, 1], [21, 0, 7, 6, 5]), ([1, 1, 0, 0, 1, 1, 0, 0, 1], [7, 6, 5, 0]), ([0, 1, 1, 0, 0, 1, 1, 0, 0, 1], [0]), ([0, 1, 1, 0, 0, 1], [7, 6, 5, 0]), ([1, 1, 1, 0, 0, 1], [7, 6, 5, 0]), ([1], [0])]

def E_3 (N : Nat) : Env := z16 tys glob [(99, zgk N)] [] [] [0] false [] []

theorem Eok_3 (N : Nat) : EnvOk Tryz.prog (E_3 N) := zk mixed zp (FnsOk.cons (zq5 N) (FnsOk.nil)) ItsOk.nil

def z8f (N : Nat) (x5 : (List (List UInt8))) (x6 : Int) (x7 : Int) (rec : Int -> Option (List z7u)) (k0 : Option (List z7u)) (k1 : Option (List z7u)) : Option (List z7u) :=
 cond (decide (x7 < x6))
 (cond (inR x7 (List.length x5))
 ((zet N (List.getD x5 (Int.toNat x7) ([] : List UInt8))).bind fun y =>
 zsw (y, ())
 (zsw ((List.getD x5 (Int.toNat x7) ([] : List UInt8)), ())
 (rec (IntKind.wrap IntKind.i64 (x7 + (1 : Int))))
 (k0))
 (k0))
 (none))
 (k1)

def zos (N : Nat) (x5 : (List (List UInt8))) (x6 : Int) (x7 : Int) (k0 : Option (List z7u)) (k1 : Option (List z7u)) : Option (List z7u) :=
 iter (fun (v : Int) r => z8f N x5 x6 v (fun x7 => (r x7)) k0 k1) N x7

def g1_3 (N : Nat) (i : ((List (List UInt8)) × Int)) (v : Int) (r : Int -> Option (List z7u)) (K : Ex -> List A -> Option (List z7u)) : Option (List z7u) :=
 z8f N i.1 i.2 v (fun x7 => (r x7)) (K .ret (mkS [(0, .yld)] 22 ((), ()))) (K (.exit 0) (mkS [(0, .yld)] 22 ((), ())))

def h1_3 (N : Nat) : Hd (List z7u) := fun st K => (unS [(0, .yld), (4, .v (.sl .str)), (0, .v (.int .i64)), (0, .v (.int .i64))] 15 (restr [7, 6, 5, 0] 0 st)).bind fun x => iter (fun v r => g1_3 N ((fun x => (x.2.1, x.2.2.1)) x) v r K) N ((fun x => x.2.2.2.1) x)

def t1_3 (N : Nat) : Tab (List z7u) := []

theorem ok1_3 {N : Nat} {G : GY [.str]} (hG : zgz G) (hev : z1px G Tryz.prog (E_3 N) N L_3 z13l) : YOk G Tryz.prog (zl z13l [0, 1]) (h1_3 N) :=
  zn6 hG (s := [(0, .yld), (4, .v (.sl .str)), (0, .v (.int .i64)), (0, .v (.int .i64))]) (m := 15) (g1_3 N) [7, 6, 5, 0] N (fun x => (x.2.1, x.2.2.1)) (fun x => x.2.2.2.1) (fun i v => ((), i.1, i.2, v, ())) (fun _ => rfl) (hev (t1_3 N) TabOkY.nil [0, 0, 1]) (fun i v r K => by kernel_rfl)

def zck (N : Nat) (x1 : (List (List UInt8))) : Option (List z7u) :=
 zos N x1 (((List.length x1) : Nat) : Int) (0 : Int)
 (some ([] : List z7u))
 (some ([] : List z7u))

def t_3 (N : Nat) : Tab (List z7u) := [([0, 1], h1_3 N)]

theorem z1l3 (N : Nat) (x : T.den (.pair (.ptr (.sl .str)) .unit)) : z1gm (E_3 N) [.str] zsw N (t_3 N) L_3 Tryz.f98 [.v (.ptr (.sl .str)) x.1] = zck N x.1 := by kernel_rfl

def z7 (N : Nat) : Dat -> ItRes := zzr (ts := [.str]) (.pair (.ptr (.sl .str)) .unit) (fun x => zck N x.1)

theorem z8 (N : Nat) : ItOk Tryz.prog glob 98 (z7 N) := ItOk.of (ts := [.str]) (E := E_3 N) (H := t_3 N) (L := L_3) (N := N) (body := z13l) (Eok_3 N) rfl Tryz.func98 (by kernel_rfl) (by decide) (fun G hG hev => (TabOkY.cons (ok1_3 hG hev) TabOkY.nil)) (fun x y h => ⟨_, rfl, by rw [z1l3]; exact h⟩)

def z1pe : Code := (Tryz.f76.body).getD .skip

def L_4 : List (List Nat × List Nat) := [([0], [1]), ([0, 1], [2]), ([1, 1], [2])]

def E_4 (N : Nat) : Env := z16 tys glob [] [] [] [] false [] [(98, z7 N)]

theorem Eok_4 (N : Nat) : EnvOk Tryz.prog (E_4 N) := zk mixed zp (FnsOk.nil) (ItsOk.cons (z8 N) (ItsOk.nil))

def zot (N : Nat) (parts : (List (List UInt8))) : Option ((List (List UInt8)) × Unit) :=
 some (parts, ())

def t_4 (N : Nat) : Tab ((List (List UInt8)) × Unit) := []

theorem z1l2 (N : Nat) (x : z1j [(0, .v (.sl .str))]) : z2j (E_4 N) N (t_4 N) L_4 Tryz.f76 (mkS [(0, .v (.sl .str))] 0 x) (z1h (.v (.fn 98 (.pair (.ptr (.sl .str)) .unit))) 1) = zot N x.1 := by kernel_rfl

def zgl (N : Nat) : List A -> Res := z12 [(0, .v (.sl .str))] (fun x => zot N x.1) (z2k (.v (.fn 98 (.pair (.ptr (.sl .str)) .unit))) 1)

theorem zq6 (N : Nat) : Contract Tryz.prog glob 76 (zgl N) :=
  Contract.of (E := E_4 N) (H := t_4 N) (L := L_4) (N := N) (body := z1pe) (K := (z1h (.v (.fn 98 (.pair (.ptr (.sl .str)) .unit))) 1)) (Eok_4 N) Tryz.func76 (by kernel_rfl) (by decide) (fun _ hb => TabOk.nil) (fun x y h => by rw [z1l2]; exact h) (zm (s := (.v (.fn 98 (.pair (.ptr (.sl .str)) .unit)))) (m := 1))

def z1pd : Code := (Tryz.f77.body).getD .skip

def L_5 : List (List Nat × List Nat) := [([0], [0, 1]), ([0, 1], [0, 1]), ([0, 1, 1], [1, 0]), ([0, 1, 1, 1], [4, 5, 0]), ([1, 1, 1, 1], [4, 5, 0])]

def E_5 (N : Nat) : Env := z16 tys glob [(100, z18u)] [] [] [0] false [] [(98, z7 N)]

theorem Eok_5 (N : Nat) : EnvOk Tryz.prog (E_5 N) := zk mixed zp (FnsOk.cons (cc_ct glob) (FnsOk.nil)) (ItsOk.cons (z8 N) (ItsOk.nil))

def z1f (N : Nat) (b : zkx) (s : (List UInt8)) : Option ((Int × Go.Value × Unit) × (zkx × Unit)) :=
 cond (decide ((((List.length b.2.1) + (List.length (z4q s))) * 1) <= 70368744177664))
 (some (((((List.length s) : Nat) : Int), (Go.Value.nilIface, ())), ((b.1, ((b.2.1 ++ (z4q s)), b.2.2)), ())))
 (none)

def t_5 (N : Nat) : Tab ((Int × Go.Value × Unit) × (zkx × Unit)) := []

theorem z1l1 (N : Nat) (x : z1j [(0, .box zsv), (0, .v .str)]) : z2j (E_5 N) N (t_5 N) L_5 Tryz.f77 (mkS [(0, .box zsv), (0, .v .str)] 0 x) (zdl (.tup [(.int .i64), .opq]) [(0, .box zsv)] 1) = z1f N x.1 x.2.1 := by kernel_rfl

def z2g (N : Nat) : List A -> Res := z12 [(0, .box zsv), (0, .v .str)] (fun x => z1f N x.1 x.2.1) (zli (.tup [(.int .i64), .opq]) [(0, .box zsv)] 1)

theorem z48 (N : Nat) : Contract Tryz.prog glob 77 (z2g N) :=
  Contract.of (E := E_5 N) (H := t_5 N) (L := L_5) (N := N) (body := z1pd) (K := (zdl (.tup [(.int .i64), .opq]) [(0, .box zsv)] 1)) (Eok_5 N) Tryz.func77 (by kernel_rfl) (by decide) (fun _ hb => TabOk.nil) (fun x y h => by rw [z1l1]; exact h) (zao (s := (.tup [(.int .i64), .opq])) (os := [(0, .box zsv)]) (m := 1))

def zyn : Code := (Tryz.f47.body).getD .skip

def L_6 : List (List Nat × List Nat) := [([0], [0]), ([0, 1], [0, 3]), ([0, 0, 1, 1], [6, 3]), ([0, 1, 0, 1, 1], [3]), ([0, 0, 1, 0, 1, 1], [4, 3]), ([0, 1, 0, 1, 0, 1, 1], [3]), ([1, 0, 1, 0, 1, 1], [3]), ([1, 0, 1, 1], [3]), ([0, 1, 1, 1], [2]), ([1, 1, 1, 1], [2])]

def E_6 (N : Nat) : Env := z16 tys glob [(77, z2g N), (76, zgl N), (78, zv2)] [] [] [] false [(3, zsv)] [(98, z7 N)]

theorem Eok_6 (N : Nat) : EnvOk Tryz.prog (E_6 N) := zk mixed zp (FnsOk.cons (z48 N) (FnsOk.cons (zq6 N) (FnsOk.cons (z17h glob) (FnsOk.nil)))) (ItsOk.cons (z8 N) (ItsOk.nil))

def zev (N : Nat) (out_1 : zkx) (y : z7u) (rec : zkx -> Option (List UInt8)) (k0 : zkx -> Option (List UInt8)) : Option (List UInt8) :=
 (z1f N out_1 y.1).bind fun y1 =>
 rec y1.2.1

def z8g (N : Nat) (out : zkx) (x6 : ((List (List UInt8)) × Unit)) : Option (List z7u) := (zck N x6.1)

def zew (N : Nat) (out : zkx) (x6 : ((List (List UInt8)) × Unit)) : Unit := ()

def zkf (N : Nat) (out : zkx) (x6 : ((List (List UInt8)) × Unit)) : zkx := out

def zkg (N : Nat) (out : zkx) (x6 : ((List (List UInt8)) × Unit)) (k0 : zkx -> Option (List UInt8)) : Option (List UInt8) :=
 (z8g N out x6).bind fun ys => zkb (fun (y : z7u) (v : zkx) r => zev N v y (fun out_1 => (r out_1)) k0) (fun (v : zkx) => k0 v) ys out

def g1_6 (N : Nat) (y : z7u) (i : Unit) (v : zkx) (r : zkx -> Option (List UInt8)) (K : Ex -> List A -> Option (List UInt8)) : Option (List UInt8) :=
 zev N v y (fun out_1 => (r out_1)) (fun a0 => (K .normal (mkS [(3, .box zsv)] 7 (a0, ()))))

def h1_6 (N : Nat) : Hd (List UInt8) := fun st K => (unS [(3, .box zsv), (2, .v (.fn 98 (.pair (.ptr (.sl .str)) .unit)))] 4 (restr [6, 3] 0 st)).bind fun x => ((fun x => z8g N x.1 x.2.1) x).bind fun xs => zkb (fun y v r => g1_6 N y ((fun x => zew N x.1 x.2.1) x) v r K) (fun v => K .normal (mkS [(3, .box zsv)] 7 ((fun i v => (v, ())) ((fun x => zew N x.1 x.2.1) x) v))) xs ((fun x => zkf N x.1 x.2.1) x)

theorem ok1_6 {N : Nat} {c : Ctx} (hb : Base Tryz.prog (E_6 N) c) : zo Tryz.prog c (zl zyn [0, 1, 0, 1, 1]) (h1_6 N) :=
  z1a9 (ts := [.str]) (s := [(3, .box zsv), (2, .v (.fn 98 (.pair (.ptr (.sl .str)) .unit)))]) (m := 4) (s2 := [(3, .box zsv)]) (m2 := 7) [6, 3] (fun x => z8g N x.1 x.2.1) (fun x => zew N x.1 x.2.1) (fun x => zkf N x.1 x.2.1) (fun i v => (v, ())) (rfF (E_6 N) N [.str] (zl zyn [0, 1, 0, 1, 1])) (g1_6 N) (zi hb N [] L_6 zyn TabOk.nil [0, 1, 0, 1, 1] _ rfl) (fun x K => by kernel_rfl) (fun y i v r K => by kernel_rfl)

def zaw (N : Nat) (parts : (List (List UInt8))) : Option (List UInt8) :=
 zkg N ((), (([] : List Int), ())) (parts, ())
 (fun out_1 => (zv3 (out_1, ())).bind fun y =>
 some y.1)

def t_6 (N : Nat) : Tab (List UInt8) := [([0, 1, 0, 1, 1], h1_6 N)]

theorem z1l0 (N : Nat) (x : z1j [(0, .v (.sl .str))]) : z2j (E_6 N) N (t_6 N) L_6 Tryz.f47 (mkS [(0, .v (.sl .str))] 0 x) (z1h (.v .str) 1) = zaw N x.1 := by kernel_rfl

def zi6 (N : Nat) : List A -> Res := z12 [(0, .v (.sl .str))] (fun x => zaw N x.1) (z2k (.v .str) 1)

theorem zs5 (N : Nat) : Contract Tryz.prog glob 47 (zi6 N) :=
  Contract.of (E := E_6 N) (H := t_6 N) (L := L_6) (N := N) (body := zyn) (K := (z1h (.v .str) 1)) (Eok_6 N) Tryz.func47 (by kernel_rfl) (by decide) (fun _ hb => (TabOk.cons (ok1_6 hb) TabOk.nil)) (fun x y h => by rw [z1l0]; exact h) (zm (s := (.v .str)) (m := 1))

def z1pc : Code := (Tryz.f115.body).getD .skip

def L_7 : List (List Nat × List Nat) := [([0], [0]), ([0, 1], [0]), ([1, 1], [0])]

def E_7 (N : Nat) : Env := z16 tys glob [] [] [] [] false [] [(98, z7 N)]

theorem Eok_7 (N : Nat) : EnvOk Tryz.prog (E_7 N) := zk mixed zp (FnsOk.nil) (ItsOk.cons (z8 N) (ItsOk.nil))

def zt7 (N : Nat) : Option (List Int) :=
 some ([(1779033703 : Int), (3144134277 : Int), (1013904242 : Int), (2773480762 : Int), (1359893119 : Int), (2600822924 : Int), (528734635 : Int), (1541459225 : Int)] : List Int)

def t_7 (N : Nat) : Tab (List Int) := []

theorem z1kz (N : Nat) (x : z1j []) : z2j (E_7 N) N (t_7 N) L_7 Tryz.f115 (mkS [] 0 x) (z1h (.v (.arr 8 (.int .u32))) 0) = zt7 N := by kernel_rfl

def zjn (N : Nat) : List A -> Res := z12 [] (fun x => zt7 N) (z2k (.v (.arr 8 (.int .u32))) 0)

theorem zt6 (N : Nat) : Contract Tryz.prog glob 115 (zjn N) :=
  Contract.of (E := E_7 N) (H := t_7 N) (L := L_7) (N := N) (body := z1pc) (K := (z1h (.v (.arr 8 (.int .u32))) 0)) (Eok_7 N) Tryz.func115 (by kernel_rfl) (by decide) (fun _ hb => TabOk.nil) (fun x y h => by rw [z1kz]; exact h) (zm (s := (.v (.arr 8 (.int .u32)))) (m := 0))

def z1pb : Code := (Tryz.f106.body).getD .skip

def L_8 : List (List Nat × List Nat) := [([0], []), ([0, 1], [0]), ([1, 1], [0])]

def E_8 (N : Nat) : Env := z16 tys glob [(115, zjn N)] [] [] [] false [] [(98, z7 N)]

theorem Eok_8 (N : Nat) : EnvOk Tryz.prog (E_8 N) := zk mixed zp (FnsOk.cons (zt6 N) (FnsOk.nil)) (ItsOk.cons (z8 N) (ItsOk.nil))

def z115 (N : Nat) : Option DT9 :=
 some (true, (([(1779033703 : Int), (3144134277 : Int), (1013904242 : Int), (2773480762 : Int), (1359893119 : Int), (2600822924 : Int), (528734635 : Int), (1541459225 : Int)] : List Int), (([] : List UInt8), ((0 : Int), ()))))

def t_8 (N : Nat) : Tab DT9 := []

theorem z1ky (N : Nat) (x : z1j []) : z2j (E_8 N) N (t_8 N) L_8 Tryz.f106 (mkS [] 0 x) (z1h (.box TT6) 0) = z115 N := by kernel_rfl

def zil (N : Nat) : List A -> Res := z12 [] (fun x => z115 N) (z2k (.box TT6) 0)

theorem zqk (N : Nat) : Contract Tryz.prog glob 106 (zil N) :=
  Contract.of (E := E_8 N) (H := t_8 N) (L := L_8) (N := N) (body := z1pb) (K := (z1h (.box TT6) 0)) (Eok_8 N) Tryz.func106 (by kernel_rfl) (by decide) (fun _ hb => TabOk.nil) (fun x y h => by rw [z1ky]; exact h) (zm (s := (.box TT6)) (m := 0))

def z1pa : Code := (Tryz.f136.body).getD .skip

def L_9 : List (List Nat × List Nat) := [([0], [1, 0]), ([0, 1], [0, 5]), ([0, 1, 1], [4]), ([1, 1, 1], [4])]

def E_9 (N : Nat) : Env := z16 tys glob [] [] [] [] false [] [(98, z7 N)]

theorem Eok_9 (N : Nat) : EnvOk Tryz.prog (E_9 N) := zk mixed zp (FnsOk.nil) (ItsOk.cons (z8 N) (ItsOk.nil))

def z4x (N : Nat) (x0 : Int) (k : Int) : Option Int :=
 cond (decide ((0 : Int) <= (IntKind.wrap IntKind.u64 ((32 : Int) - (zj Go.BinOp.and IntKind.u64 (IntKind.wrap IntKind.u64 k) (31 : Int))))))
 (some (zj Go.BinOp.or IntKind.u32 (z8m IntKind.u32 x0 (zj Go.BinOp.and IntKind.u64 (IntKind.wrap IntKind.u64 k) (31 : Int))) (z39 IntKind.u32 x0 (IntKind.wrap IntKind.u64 ((32 : Int) - (zj Go.BinOp.and IntKind.u64 (IntKind.wrap IntKind.u64 k) (31 : Int)))))))
 (none)

def t_9 (N : Nat) : Tab Int := []

theorem z1kx (N : Nat) (x : z1j z170) : z2j (E_9 N) N (t_9 N) L_9 Tryz.f136 (mkS z170 0 x) (z1h (.v (.int .u32)) 2) = z4x N x.1 x.2.1 := by kernel_rfl

def z5v (N : Nat) : List A -> Res := z12 z170 (fun x => z4x N x.1 x.2.1) (z2k (.v (.int .u32)) 2)

theorem zcz (N : Nat) : Contract Tryz.prog glob 136 (z5v N) :=
  Contract.of (E := E_9 N) (H := t_9 N) (L := L_9) (N := N) (body := z1pa) (K := (z1h (.v (.int .u32)) 2)) (Eok_9 N) Tryz.func136 (by kernel_rfl) (by decide) (fun _ hb => TabOk.nil) (fun x y h => by rw [z1kx]; exact h) (zm (s := (.v (.int .u32))) (m := 2))

def z1f2 : Code := (Tryz.f135.body).getD .skip

def L_10 : List (List Nat × List Nat) := [([0], [0, 1]), ([0, 1], [4]), ([1, 1], [4])]

def E_10 (N : Nat) : Env := z16 tys glob [(136, z5v N)] [] [] [] false [] [(98, z7 N)]

theorem z1s9 (N : Nat) : EnvOk Tryz.prog (E_10 N) := zk mixed zp (FnsOk.cons (zcz N) (FnsOk.nil)) (ItsOk.cons (z8 N) (ItsOk.nil))

def z114 (N : Nat) (x0 : Int) (n : Int) : Option Int :=
 (z4x N x0 (IntKind.wrap IntKind.i64 ((0 : Int) - n))).bind fun y =>
 some y

def t_10 (N : Nat) : Tab Int := []

theorem z1de (N : Nat) (x : z1j z170) : z2j (E_10 N) N (t_10 N) L_10 Tryz.f135 (mkS z170 0 x) (z1h (.v (.int .u32)) 2) = z114 N x.1 x.2.1 := by kernel_rfl

def zig (N : Nat) : List A -> Res := z12 z170 (fun x => z114 N x.1 x.2.1) (z2k (.v (.int .u32)) 2)

theorem zqj (N : Nat) : Contract Tryz.prog glob 135 (zig N) :=
  Contract.of (E := E_10 N) (H := t_10 N) (L := L_10) (N := N) (body := z1f2) (K := (z1h (.v (.int .u32)) 2)) (z1s9 N) Tryz.func135 (by kernel_rfl) (by decide) (fun _ hb => TabOk.nil) (fun x y h => by rw [z1de]; exact h) (zm (s := (.v (.int .u32))) (m := 2))

def zpj : Code := (Tryz.f132.body).getD .skip

def L_11 : List (List Nat × List Nat) := [([0], [0, 2]), ([0, 1], [0, 3, 2]), ([0, 0, 1, 1], [11, 0, 3, 2]), ([0, 1, 0, 1, 1], [11, 0, 3, 2]), (z14a, [12, 11, 0, 3, 2]), (PQ9, [11, 0, 3, 2]), (z1fg, [3, 2]), (z1fi, [0, 4, 3, 11, 2]), ([0, 1, 0, 0, 1, 1, 0, 0, 1, 0, 1, 1], [4, 5, 3, 11, 0, 2]), ([1, 1, 0, 0, 1, 1, 0, 0, 1, 0, 1, 1], [11, 0, 3, 2]), (z1ff, [11, 0, 3, 2]), (z1fe, [11, 0, 3, 2]), ([1, 0, 1, 1], [3, 2]), ([0, 0, 1, 1, 1], [6, 3, 2]), ([0, 1, 0, 1, 1, 1], [6, 3, 2]), (z1fb, [43, 6, 3, 2]), (z1fa, [6, 3, 2]), (z1fd, [3, 2]), (z1fh, [7, 8, 6, 3, 2]), ([0, 1, 0, 0, 1, 0, 0, 1, 0, 1, 1, 1], [8, 6, 3, 9, 2]), (z1pn, [6, 10, 3, 9, 2]), ([1, 1, 1, 0, 0, 1, 0, 0, 1, 0, 1, 1, 1], [6, 3, 2]), (z10m, [6, 3, 2]), (z1f9, [6, 3, 2]), ([1, 0, 1, 1, 1], [3, 2]), ([0, 1, 1, 1, 1], [2]), ([1, 1, 1, 1, 1], [2])]

def z1sk (N : Nat) : Env := z16 tys glob [(135, zig N)] [] [] [] false [] [(98, z7 N)]

theorem z1s8 (N : Nat) : EnvOk Tryz.prog (z1sk N) := zk mixed zp (FnsOk.cons (zqj N) (FnsOk.nil)) (ItsOk.cons (z8 N) (ItsOk.nil))

def zb4 (N : Nat) (block : (List UInt8)) (x2 : (List Int)) (w : (List Int)) (x11 : Int) (rec : (List Int) -> Int -> Option (List Int)) (k0 : (List Int) -> Option (List Int)) : Option (List Int) :=
 cond (decide (x11 < (16 : Int)))
 (cond (decide (((0 : Int) <= (IntKind.wrap IntKind.i64 ((IntKind.wrap IntKind.i64 ((4 : Int) * x11)) + (4 : Int)))) /\ ((IntKind.wrap IntKind.i64 ((IntKind.wrap IntKind.i64 ((4 : Int) * x11)) + (4 : Int))) <= (((List.length block) : Nat) : Int))))
 (cond (decide (((0 : Int) <= (IntKind.wrap IntKind.i64 ((4 : Int) * x11))) /\ ((IntKind.wrap IntKind.i64 ((4 : Int) * x11)) <= (IntKind.wrap IntKind.i64 ((IntKind.wrap IntKind.i64 ((4 : Int) * x11)) + (4 : Int))))))
 (cond (inR (0 : Int) (List.length (cut block (Int.toNat (IntKind.wrap IntKind.i64 ((4 : Int) * x11))) (Int.toNat (IntKind.wrap IntKind.i64 ((IntKind.wrap IntKind.i64 ((4 : Int) * x11)) + (4 : Int)))))))
 (cond (inR (1 : Int) (List.length (cut block (Int.toNat (IntKind.wrap IntKind.i64 ((4 : Int) * x11))) (Int.toNat (IntKind.wrap IntKind.i64 ((IntKind.wrap IntKind.i64 ((4 : Int) * x11)) + (4 : Int)))))))
 (cond (inR (2 : Int) (List.length (cut block (Int.toNat (IntKind.wrap IntKind.i64 ((4 : Int) * x11))) (Int.toNat (IntKind.wrap IntKind.i64 ((IntKind.wrap IntKind.i64 ((4 : Int) * x11)) + (4 : Int)))))))
 (cond (inR (3 : Int) (List.length (cut block (Int.toNat (IntKind.wrap IntKind.i64 ((4 : Int) * x11))) (Int.toNat (IntKind.wrap IntKind.i64 ((IntKind.wrap IntKind.i64 ((4 : Int) * x11)) + (4 : Int)))))))
 (cond (inR x11 64)
 (cond (decide ((Int.toNat x11) < (List.length w)))
 (rec (List.set w (Int.toNat x11) (zj Go.BinOp.or IntKind.u32 (zj Go.BinOp.or IntKind.u32 (zj Go.BinOp.or IntKind.u32 (z8m IntKind.u32 (IntKind.wrap IntKind.u32 (((UInt8.toNat (List.getD (cut block (Int.toNat (IntKind.wrap IntKind.i64 ((4 : Int) * x11))) (Int.toNat (IntKind.wrap IntKind.i64 ((IntKind.wrap IntKind.i64 ((4 : Int) * x11)) + (4 : Int))))) 0 (0 : UInt8))) : Nat) : Int)) (24 : Int)) (z8m IntKind.u32 (IntKind.wrap IntKind.u32 (((UInt8.toNat (List.getD (cut block (Int.toNat (IntKind.wrap IntKind.i64 ((4 : Int) * x11))) (Int.toNat (IntKind.wrap IntKind.i64 ((IntKind.wrap IntKind.i64 ((4 : Int) * x11)) + (4 : Int))))) 1 (0 : UInt8))) : Nat) : Int)) (16 : Int))) (z8m IntKind.u32 (IntKind.wrap IntKind.u32 (((UInt8.toNat (List.getD (cut block (Int.toNat (IntKind.wrap IntKind.i64 ((4 : Int) * x11))) (Int.toNat (IntKind.wrap IntKind.i64 ((IntKind.wrap IntKind.i64 ((4 : Int) * x11)) + (4 : Int))))) 2 (0 : UInt8))) : Nat) : Int)) (8 : Int))) (IntKind.wrap IntKind.u32 (((UInt8.toNat (List.getD (cut block (Int.toNat (IntKind.wrap IntKind.i64 ((4 : Int) * x11))) (Int.toNat (IntKind.wrap IntKind.i64 ((IntKind.wrap IntKind.i64 ((4 : Int) * x11)) + (4 : Int))))) 3 (0 : UInt8))) : Nat) : Int)))) (IntKind.wrap IntKind.i64 (x11 + (1 : Int))))
 (none))
 (none))
 (none))
 (none))
 (none))
 (none))
 (none))
 (none))
 (k0 w)

def zb6 (N : Nat) (block : (List UInt8)) (x2 : (List Int)) (w : (List Int)) (x11 : Int) (k0 : (List Int) -> Option (List Int)) : Option (List Int) :=
 iter (fun (v : ((List Int) × Int)) r => zb4 N block x2 v.1 v.2 (fun w x11 => (r (w, x11))) k0) N (w, x11)

def z1p2 (N : Nat) (i : ((List UInt8) × (List Int))) (v : ((List Int) × Int)) (r : ((List Int) × Int) -> Option (List Int)) (K : Ex -> List A -> Option (List Int)) : Option (List Int) :=
 zb4 N i.1 i.2 v.1 v.2 (fun w x11 => (r (w, x11))) (fun a1 => (K (.exit 0) (mkS [(2, .box (.arr 64 (.int .u32))), (0, .box (.arr 64 (.int .u32)))] 82 (i.2, a1, ()))))

def z1n5 (N : Nat) : Hd (List Int) := fun st K => (unS SQ79 74 (restr [11, 0, 3, 2] 0 st)).bind fun x => iter (fun v r => z1p2 N ((fun x => (x.1, x.2.1)) x) v r K) N ((fun x => (x.2.2.1, x.2.2.2.1)) x)

def t1_11 (N : Nat) : Tab (List Int) := []

theorem z1ks {N : Nat} {c : Ctx} (hb : Base Tryz.prog (z1sk N) c) : zo Tryz.prog c (zl zpj [0, 1, 0, 1, 1]) (z1n5 N) :=
  z1i (s := SQ79) (m := 74) (z1p2 N) [11, 0, 3, 2] N (fun x => (x.1, x.2.1)) (fun x => (x.2.2.1, x.2.2.2.1)) (fun i v => (i.1, i.2, v.1, v.2, ())) (fun _ => rfl) (zi hb N (t1_11 N) L_11 zpj TabOk.nil [0, 0, 1, 0, 1, 1] _ rfl) (fun i v r K => by kernel_rfl)

def zb3 (N : Nat) (x2 : (List Int)) (w : (List Int)) (t : Int) (rec : (List Int) -> Int -> Option (List Int)) (k0 : (List Int) -> Option (List Int)) : Option (List Int) :=
 cond (decide (t < (64 : Int)))
 (cond (inR (IntKind.wrap IntKind.i64 (t - (15 : Int))) 64)
 (cond (decide ((Int.toNat (IntKind.wrap IntKind.i64 (t - (15 : Int)))) < (List.length w)))
 (cond (inR (IntKind.wrap IntKind.i64 (t - (2 : Int))) 64)
 (cond (decide ((Int.toNat (IntKind.wrap IntKind.i64 (t - (2 : Int)))) < (List.length w)))
 (cond (inR (IntKind.wrap IntKind.i64 (t - (7 : Int))) 64)
 (cond (decide ((Int.toNat (IntKind.wrap IntKind.i64 (t - (7 : Int)))) < (List.length w)))
 (cond (inR (IntKind.wrap IntKind.i64 (t - (16 : Int))) 64)
 (cond (decide ((Int.toNat (IntKind.wrap IntKind.i64 (t - (16 : Int)))) < (List.length w)))
 (cond (inR t 64)
 (cond (decide ((Int.toNat t) < (List.length w)))
 (rec (List.set w (Int.toNat t) (IntKind.wrap IntKind.u32 ((IntKind.wrap IntKind.u32 ((IntKind.wrap IntKind.u32 ((zj Go.BinOp.xor IntKind.u32 (zj Go.BinOp.xor IntKind.u32 (zj Go.BinOp.or IntKind.u32 (z8m IntKind.u32 (List.getD w (Int.toNat (IntKind.wrap IntKind.i64 (t - (2 : Int)))) (0 : Int)) (zj Go.BinOp.and IntKind.u64 (IntKind.wrap IntKind.u64 (IntKind.wrap IntKind.i64 ((0 : Int) - (17 : Int)))) (31 : Int))) (z39 IntKind.u32 (List.getD w (Int.toNat (IntKind.wrap IntKind.i64 (t - (2 : Int)))) (0 : Int)) (IntKind.wrap IntKind.u64 ((32 : Int) - (zj Go.BinOp.and IntKind.u64 (IntKind.wrap IntKind.u64 (IntKind.wrap IntKind.i64 ((0 : Int) - (17 : Int)))) (31 : Int)))))) (zj Go.BinOp.or IntKind.u32 (z8m IntKind.u32 (List.getD w (Int.toNat (IntKind.wrap IntKind.i64 (t - (2 : Int)))) (0 : Int)) (zj Go.BinOp.and IntKind.u64 (IntKind.wrap IntKind.u64 (IntKind.wrap IntKind.i64 ((0 : Int) - (19 : Int)))) (31 : Int))) (z39 IntKind.u32 (List.getD w (Int.toNat (IntKind.wrap IntKind.i64 (t - (2 : Int)))) (0 : Int)) (IntKind.wrap IntKind.u64 ((32 : Int) - (zj Go.BinOp.and IntKind.u64 (IntKind.wrap IntKind.u64 (IntKind.wrap IntKind.i64 ((0 : Int) - (19 : Int)))) (31 : Int))))))) (z39 IntKind.u32 (List.getD w (Int.toNat (IntKind.wrap IntKind.i64 (t - (2 : Int)))) (0 : Int)) (10 : Int))) + (List.getD w (Int.toNat (IntKind.wrap IntKind.i64 (t - (7 : Int)))) (0 : Int)))) + (zj Go.BinOp.xor IntKind.u32 (zj Go.BinOp.xor IntKind.u32 (zj Go.BinOp.or IntKind.u32 (z8m IntKind.u32 (List.getD w (Int.toNat (IntKind.wrap IntKind.i64 (t - (15 : Int)))) (0 : Int)) (zj Go.BinOp.and IntKind.u64 (IntKind.wrap IntKind.u64 (IntKind.wrap IntKind.i64 ((0 : Int) - (7 : Int)))) (31 : Int))) (z39 IntKind.u32 (List.getD w (Int.toNat (IntKind.wrap IntKind.i64 (t - (15 : Int)))) (0 : Int)) (IntKind.wrap IntKind.u64 ((32 : Int) - (zj Go.BinOp.and IntKind.u64 (IntKind.wrap IntKind.u64 (IntKind.wrap IntKind.i64 ((0 : Int) - (7 : Int)))) (31 : Int)))))) (zj Go.BinOp.or IntKind.u32 (z8m IntKind.u32 (List.getD w (Int.toNat (IntKind.wrap IntKind.i64 (t - (15 : Int)))) (0 : Int)) (zj Go.BinOp.and IntKind.u64 (IntKind.wrap IntKind.u64 (IntKind.wrap IntKind.i64 ((0 : Int) - (18 : Int)))) (31 : Int))) (z39 IntKind.u32 (List.getD w (Int.toNat (IntKind.wrap IntKind.i64 (t - (15 : Int)))) (0 : Int)) (IntKind.wrap IntKind.u64 ((32 : Int) - (zj Go.BinOp.and IntKind.u64 (IntKind.wrap IntKind.u64 (IntKind.wrap IntKind.i64 ((0 : Int) - (18 : Int)))) (31 : Int))))))) (z39 IntKind.u32 (List.getD w (Int.toNat (IntKind.wrap IntKind.i64 (t - (15 : Int)))) (0 : Int)) (3 : Int))))) + (List.getD w (Int.toNat (IntKind.wrap IntKind.i64 (t - (16 : Int)))) (0 : Int))))) (IntKind.wrap IntKind.i64 (t + (1 : Int))))
 (none))
 (none))
 (none))
 (none))
 (none))
 (none))
 (none))
 (none))
 (none))
 (none))
 (k0 w)

def zb5 (N : Nat) (x2 : (List Int)) (w : (List Int)) (t : Int) (k0 : (List Int) -> Option (List Int)) : Option (List Int) :=
 iter (fun (v : ((List Int) × Int)) r => zb3 N x2 v.1 v.2 (fun w t => (r (w, t))) k0) N (w, t)

def z1o0 (N : Nat) (i : (List Int)) (v : ((List Int) × Int)) (r : ((List Int) × Int) -> Option (List Int)) (K : Ex -> List A -> Option (List Int)) : Option (List Int) :=
 zb3 N i v.1 v.2 (fun w t => (r (w, t))) (fun a1 => (K (.exit 2) (mkS [(2, .box (.arr 64 (.int .u32))), (0, .box (.arr 64 (.int .u32)))] 82 (i, a1, ()))))

def z1m3 (N : Nat) : Hd (List Int) := fun st K => (unS z1pk 79 (restr [6, 3, 2] 0 st)).bind fun x => iter (fun v r => z1o0 N ((fun x => x.1) x) v r K) N ((fun x => (x.2.1, x.2.2.1)) x)

def t2_11 (N : Nat) : Tab (List Int) := []

theorem z1jq {N : Nat} {c : Ctx} (hb : Base Tryz.prog (z1sk N) c) : zo Tryz.prog c (zl zpj [0, 1, 0, 1, 1, 1]) (z1m3 N) :=
  z1i (s := z1pk) (m := 79) (z1o0 N) [6, 3, 2] N (fun x => x.1) (fun x => (x.2.1, x.2.2.1)) (fun i v => (i, v.1, v.2, ())) (fun _ => rfl) (zi hb N (t2_11 N) L_11 zpj TabOk.nil z149 _ rfl) (fun i v r K => by kernel_rfl)

def zc9 (N : Nat) (block : (List UInt8)) : Option (List Int) :=
 zb6 N block ((0 : Int) :: (0 : Int) :: (0 : Int) :: (0 : Int) :: (0 : Int) :: (0 : Int) :: (0 : Int) :: (0 : Int) :: (0 : Int) :: (0 : Int) :: (0 : Int) :: (0 : Int) :: (0 : Int) :: (0 : Int) :: (0 : Int) :: (0 : Int) :: (0 : Int) :: (0 : Int) :: (0 : Int) :: (0 : Int) :: (0 : Int) :: (0 : Int) :: (0 : Int) :: (0 : Int) :: (0 : Int) :: (0 : Int) :: (0 : Int) :: (0 : Int) :: (0 : Int) :: (0 : Int) :: (0 : Int) :: (0 : Int) :: (0 : Int) :: (0 : Int) :: (0 : Int) :: (0 : Int) :: (0 : Int) :: (0 : Int) :: (0 : Int) :: (0 : Int) :: (0 : Int) :: (0 : Int) :: (0 : Int) :: (0 : Int) :: (0 : Int) :: (0 : Int) :: (0 : Int) :: (0 : Int) :: (0 : Int) :: (0 : Int) :: (0 : Int) :: (0 : Int) :: (0 : Int) :: (0 : Int) :: (0 : Int) :: (0 : Int) :: (0 : Int) :: (0 : Int) :: (0 : Int) :: (0 : Int) :: (0 : Int) :: (0 : Int) :: (0 : Int) :: (0 : Int) :: ([] : List Int)) ((0 : Int) :: (0 : Int) :: (0 : Int) :: (0 : Int) :: (0 : Int) :: (0 : Int) :: (0 : Int) :: (0 : Int) :: (0 : Int) :: (0 : Int) :: (0 : Int) :: (0 : Int) :: (0 : Int) :: (0 : Int) :: (0 : Int) :: (0 : Int) :: (0 : Int) :: (0 : Int) :: (0 : Int) :: (0 : Int) :: (0 : Int) :: (0 : Int) :: (0 : Int) :: (0 : Int) :: (0 : Int) :: (0 : Int) :: (0 : Int) :: (0 : Int) :: (0 : Int) :: (0 : Int) :: (0 : Int) :: (0 : Int) :: (0 : Int) :: (0 : Int) :: (0 : Int) :: (0 : Int) :: (0 : Int) :: (0 : Int) :: (0 : Int) :: (0 : Int) :: (0 : Int) :: (0 : Int) :: (0 : Int) :: (0 : Int) :: (0 : Int) :: (0 : Int) :: (0 : Int) :: (0 : Int) :: (0 : Int) :: (0 : Int) :: (0 : Int) :: (0 : Int) :: (0 : Int) :: (0 : Int) :: (0 : Int) :: (0 : Int) :: (0 : Int) :: (0 : Int) :: (0 : Int) :: (0 : Int) :: (0 : Int) :: (0 : Int) :: (0 : Int) :: (0 : Int) :: ([] : List Int)) (0 : Int)
 (fun w => zb5 N ((0 : Int) :: (0 : Int) :: (0 : Int) :: (0 : Int) :: (0 : Int) :: (0 : Int) :: (0 : Int) :: (0 : Int) :: (0 : Int) :: (0 : Int) :: (0 : Int) :: (0 : Int) :: (0 : Int) :: (0 : Int) :: (0 : Int) :: (0 : Int) :: (0 : Int) :: (0 : Int) :: (0 : Int) :: (0 : Int) :: (0 : Int) :: (0 : Int) :: (0 : Int) :: (0 : Int) :: (0 : Int) :: (0 : Int) :: (0 : Int) :: (0 : Int) :: (0 : Int) :: (0 : Int) :: (0 : Int) :: (0 : Int) :: (0 : Int) :: (0 : Int) :: (0 : Int) :: (0 : Int) :: (0 : Int) :: (0 : Int) :: (0 : Int) :: (0 : Int) :: (0 : Int) :: (0 : Int) :: (0 : Int) :: (0 : Int) :: (0 : Int) :: (0 : Int) :: (0 : Int) :: (0 : Int) :: (0 : Int) :: (0 : Int) :: (0 : Int) :: (0 : Int) :: (0 : Int) :: (0 : Int) :: (0 : Int) :: (0 : Int) :: (0 : Int) :: (0 : Int) :: (0 : Int) :: (0 : Int) :: (0 : Int) :: (0 : Int) :: (0 : Int) :: (0 : Int) :: ([] : List Int)) w (16 : Int)
 (fun w1 => some w1))

def t_11 (N : Nat) : Tab (List Int) := [([0, 1, 0, 1, 1], z1n5 N), ([0, 1, 0, 1, 1, 1], z1m3 N)]

theorem z1dd (N : Nat) (x : z1j [(0, .v .str)]) : z2j (z1sk N) N (t_11 N) L_11 Tryz.f132 (mkS [(0, .v .str)] 0 x) (z1h (.v (.arr 64 (.int .u32))) 1) = zc9 N x.1 := by kernel_rfl

def zfd (N : Nat) : List A -> Res := z12 [(0, .v .str)] (fun x => zc9 N x.1) (z2k (.v (.arr 64 (.int .u32))) 1)

theorem zni (N : Nat) : Contract Tryz.prog glob 132 (zfd N) :=
  Contract.of (E := z1sk N) (H := t_11 N) (L := L_11) (N := N) (body := zpj) (K := (z1h (.v (.arr 64 (.int .u32))) 1)) (z1s8 N) Tryz.func132 (by kernel_rfl) (by decide) (fun _ hb => (TabOk.cons (z1ks hb) (TabOk.cons (z1jq hb) TabOk.nil))) (fun x y h => by rw [z1dd]; exact h) (zm (s := (.v (.arr 64 (.int .u32)))) (m := 1))

def z1f1 : Code := (Tryz.f133.body).getD .skip

def L_12 : List (List Nat × List Nat) := [([0], [2, 1, 4]), ([0, 1], [12, 9, 10, 11, 1, 5, 6, 7, 8, 4]), ([0, 1, 1], [5, 6, 7, 13, 8, 9, 10, 11, 4]), ([0, 1, 1, 1], [13, 14, 5, 6, 7, 8, 9, 10, 11, 4]), ([0, 1, 1, 1, 1], [4]), ([1, 1, 1, 1, 1], [4])]

def E_12 (N : Nat) : Env := z16 tys glob [(135, zig N)] [] [] [] false [] [(98, z7 N)]

theorem z1s7 (N : Nat) : EnvOk Tryz.prog (E_12 N) := zk mixed zp (FnsOk.cons (zqj N) (FnsOk.nil)) (ItsOk.cons (z8 N) (ItsOk.nil))

def zfz (N : Nat) (v_ : (List Int)) (k : Int) : Option (List Int) :=
 cond (decide (0 < (List.length v_)))
 (cond (decide (1 < (List.length v_)))
 (cond (decide (2 < (List.length v_)))
 (cond (decide (3 < (List.length v_)))
 (cond (decide (4 < (List.length v_)))
 (cond (decide (5 < (List.length v_)))
 (cond (decide (6 < (List.length v_)))
 (cond (decide (7 < (List.length v_)))
 (some ([(IntKind.wrap IntKind.u32 ((IntKind.wrap IntKind.u32 ((IntKind.wrap IntKind.u32 ((IntKind.wrap IntKind.u32 ((List.getD v_ 7 (0 : Int)) + (zj Go.BinOp.xor IntKind.u32 (zj Go.BinOp.xor IntKind.u32 (zj Go.BinOp.or IntKind.u32 (z8m IntKind.u32 (List.getD v_ 4 (0 : Int)) (zj Go.BinOp.and IntKind.u64 (IntKind.wrap IntKind.u64 (IntKind.wrap IntKind.i64 ((0 : Int) - (6 : Int)))) (31 : Int))) (z39 IntKind.u32 (List.getD v_ 4 (0 : Int)) (IntKind.wrap IntKind.u64 ((32 : Int) - (zj Go.BinOp.and IntKind.u64 (IntKind.wrap IntKind.u64 (IntKind.wrap IntKind.i64 ((0 : Int) - (6 : Int)))) (31 : Int)))))) (zj Go.BinOp.or IntKind.u32 (z8m IntKind.u32 (List.getD v_ 4 (0 : Int)) (zj Go.BinOp.and IntKind.u64 (IntKind.wrap IntKind.u64 (IntKind.wrap IntKind.i64 ((0 : Int) - (11 : Int)))) (31 : Int))) (z39 IntKind.u32 (List.getD v_ 4 (0 : Int)) (IntKind.wrap IntKind.u64 ((32 : Int) - (zj Go.BinOp.and IntKind.u64 (IntKind.wrap IntKind.u64 (IntKind.wrap IntKind.i64 ((0 : Int) - (11 : Int)))) (31 : Int))))))) (zj Go.BinOp.or IntKind.u32 (z8m IntKind.u32 (List.getD v_ 4 (0 : Int)) (zj Go.BinOp.and IntKind.u64 (IntKind.wrap IntKind.u64 (IntKind.wrap IntKind.i64 ((0 : Int) - (25 : Int)))) (31 : Int))) (z39 IntKind.u32 (List.getD v_ 4 (0 : Int)) (IntKind.wrap IntKind.u64 ((32 : Int) - (zj Go.BinOp.and IntKind.u64 (IntKind.wrap IntKind.u64 (IntKind.wrap IntKind.i64 ((0 : Int) - (25 : Int)))) (31 : Int))))))))) + (zj Go.BinOp.xor IntKind.u32 (zj Go.BinOp.and IntKind.u32 (List.getD v_ 4 (0 : Int)) (List.getD v_ 5 (0 : Int))) (zj Go.BinOp.and IntKind.u32 (zj Go.BinOp.xor IntKind.u32 (if ((IntKind.signed IntKind.u32) = true) then (-(1 : Int)) else (IntKind.max IntKind.u32)) (List.getD v_ 4 (0 : Int))) (List.getD v_ 6 (0 : Int)))))) + k)) + (IntKind.wrap IntKind.u32 ((zj Go.BinOp.xor IntKind.u32 (zj Go.BinOp.xor IntKind.u32 (zj Go.BinOp.or IntKind.u32 (z8m IntKind.u32 (List.getD v_ 0 (0 : Int)) (zj Go.BinOp.and IntKind.u64 (IntKind.wrap IntKind.u64 (IntKind.wrap IntKind.i64 ((0 : Int) - (2 : Int)))) (31 : Int))) (z39 IntKind.u32 (List.getD v_ 0 (0 : Int)) (IntKind.wrap IntKind.u64 ((32 : Int) - (zj Go.BinOp.and IntKind.u64 (IntKind.wrap IntKind.u64 (IntKind.wrap IntKind.i64 ((0 : Int) - (2 : Int)))) (31 : Int)))))) (zj Go.BinOp.or IntKind.u32 (z8m IntKind.u32 (List.getD v_ 0 (0 : Int)) (zj Go.BinOp.and IntKind.u64 (IntKind.wrap IntKind.u64 (IntKind.wrap IntKind.i64 ((0 : Int) - (13 : Int)))) (31 : Int))) (z39 IntKind.u32 (List.getD v_ 0 (0 : Int)) (IntKind.wrap IntKind.u64 ((32 : Int) - (zj Go.BinOp.and IntKind.u64 (IntKind.wrap IntKind.u64 (IntKind.wrap IntKind.i64 ((0 : Int) - (13 : Int)))) (31 : Int))))))) (zj Go.BinOp.or IntKind.u32 (z8m IntKind.u32 (List.getD v_ 0 (0 : Int)) (zj Go.BinOp.and IntKind.u64 (IntKind.wrap IntKind.u64 (IntKind.wrap IntKind.i64 ((0 : Int) - (22 : Int)))) (31 : Int))) (z39 IntKind.u32 (List.getD v_ 0 (0 : Int)) (IntKind.wrap IntKind.u64 ((32 : Int) - (zj Go.BinOp.and IntKind.u64 (IntKind.wrap IntKind.u64 (IntKind.wrap IntKind.i64 ((0 : Int) - (22 : Int)))) (31 : Int))))))) + (zj Go.BinOp.xor IntKind.u32 (zj Go.BinOp.xor IntKind.u32 (zj Go.BinOp.and IntKind.u32 (List.getD v_ 0 (0 : Int)) (List.getD v_ 1 (0 : Int))) (zj Go.BinOp.and IntKind.u32 (List.getD v_ 0 (0 : Int)) (List.getD v_ 2 (0 : Int)))) (zj Go.BinOp.and IntKind.u32 (List.getD v_ 1 (0 : Int)) (List.getD v_ 2 (0 : Int)))))))), (List.getD v_ 0 (0 : Int)), (List.getD v_ 1 (0 : Int)), (List.getD v_ 2 (0 : Int)), (IntKind.wrap IntKind.u32 ((List.getD v_ 3 (0 : Int)) + (IntKind.wrap IntKind.u32 ((IntKind.wrap IntKind.u32 ((IntKind.wrap IntKind.u32 ((List.getD v_ 7 (0 : Int)) + (zj Go.BinOp.xor IntKind.u32 (zj Go.BinOp.xor IntKind.u32 (zj Go.BinOp.or IntKind.u32 (z8m IntKind.u32 (List.getD v_ 4 (0 : Int)) (zj Go.BinOp.and IntKind.u64 (IntKind.wrap IntKind.u64 (IntKind.wrap IntKind.i64 ((0 : Int) - (6 : Int)))) (31 : Int))) (z39 IntKind.u32 (List.getD v_ 4 (0 : Int)) (IntKind.wrap IntKind.u64 ((32 : Int) - (zj Go.BinOp.and IntKind.u64 (IntKind.wrap IntKind.u64 (IntKind.wrap IntKind.i64 ((0 : Int) - (6 : Int)))) (31 : Int)))))) (zj Go.BinOp.or IntKind.u32 (z8m IntKind.u32 (List.getD v_ 4 (0 : Int)) (zj Go.BinOp.and IntKind.u64 (IntKind.wrap IntKind.u64 (IntKind.wrap IntKind.i64 ((0 : Int) - (11 : Int)))) (31 : Int))) (z39 IntKind.u32 (List.getD v_ 4 (0 : Int)) (IntKind.wrap IntKind.u64 ((32 : Int) - (zj Go.BinOp.and IntKind.u64 (IntKind.wrap IntKind.u64 (IntKind.wrap IntKind.i64 ((0 : Int) - (11 : Int)))) (31 : Int))))))) (zj Go.BinOp.or IntKind.u32 (z8m IntKind.u32 (List.getD v_ 4 (0 : Int)) (zj Go.BinOp.and IntKind.u64 (IntKind.wrap IntKind.u64 (IntKind.wrap IntKind.i64 ((0 : Int) - (25 : Int)))) (31 : Int))) (z39 IntKind.u32 (List.getD v_ 4 (0 : Int)) (IntKind.wrap IntKind.u64 ((32 : Int) - (zj Go.BinOp.and IntKind.u64 (IntKind.wrap IntKind.u64 (IntKind.wrap IntKind.i64 ((0 : Int) - (25 : Int)))) (31 : Int))))))))) + (zj Go.BinOp.xor IntKind.u32 (zj Go.BinOp.and IntKind.u32 (List.getD v_ 4 (0 : Int)) (List.getD v_ 5 (0 : Int))) (zj Go.BinOp.and IntKind.u32 (zj Go.BinOp.xor IntKind.u32 (if ((IntKind.signed IntKind.u32) = true) then (-(1 : Int)) else (IntKind.max IntKind.u32)) (List.getD v_ 4 (0 : Int))) (List.getD v_ 6 (0 : Int)))))) + k)))), (List.getD v_ 4 (0 : Int)), (List.getD v_ 5 (0 : Int)), (List.getD v_ 6 (0 : Int))] : List Int))
 (none))
 (none))
 (none))
 (none))
 (none))
 (none))
 (none))
 (none)

def t_12 (N : Nat) : Tab (List Int) := []

theorem z1dc (N : Nat) (x : z1j z1f7) : z2j (E_12 N) N (t_12 N) L_12 Tryz.f133 (mkS z1f7 0 x) (z1h (.v (.arr 8 (.int .u32))) 2) = zfz N x.1 x.2.1 := by kernel_rfl

def zjl (N : Nat) : List A -> Res := z12 z1f7 (fun x => zfz N x.1 x.2.1) (z2k (.v (.arr 8 (.int .u32))) 2)

theorem zt5 (N : Nat) : Contract Tryz.prog glob 133 (zjl N) :=
  Contract.of (E := E_12 N) (H := t_12 N) (L := L_12) (N := N) (body := z1f1) (K := (z1h (.v (.arr 8 (.int .u32))) 2)) (z1s7 N) Tryz.func133 (by kernel_rfl) (by decide) (fun _ hb => TabOk.nil) (fun x y h => by rw [z1dc]; exact h) (zm (s := (.v (.arr 8 (.int .u32)))) (m := 2))

def zpi : Code := (Tryz.f125.body).getD .skip

def L_13 : List (List Nat × List Nat) := [([0], [1, 2, 4]), ([0, 0, 1], [11, 2, 4, 1]), ([1, 0, 1], [1, 2, 4]), ([0, 0, 1, 0, 1], [4]), ([1, 0, 1, 0, 1], [4]), ([0, 1, 1], [2, 5, 4]), ([0, 1, 1, 1], [6, 5, 2, 4]), ([0, 0, 1, 1, 1, 1], [16, 6, 5, 2, 4]), (z13t, [16, 6, 5, 2, 4]), ([0, 0, 0, 1, 0, 1, 1, 1, 1], [17, 16, 6, 5, 2, 4]), ([0, 1, 0, 0, 1, 0, 1, 1, 1, 1], [16, 6, 5, 2, 4]), ([1, 0, 1, 0, 0, 1, 0, 1, 1, 1, 1], [6, 2, 4]), ([0, 0, 0, 1, 1, 0, 0, 1, 0, 1, 1, 1, 1], [6, 7, 5, 16, 2, 4]), ([1, 0, 0, 1, 1, 0, 0, 1, 0, 1, 1, 1, 1], [16, 6, 5, 2, 4]), ([0, 1, 1, 0, 0, 1, 0, 1, 1, 1, 1], [16, 6, 5, 2, 4]), ([1, 1, 1, 0, 0, 1, 0, 1, 1, 1, 1], [16, 6, 5, 2, 4]), ([1, 0, 1, 1, 1, 1], [6, 2, 4]), (z1pm, [29, 6, 2, 4]), (z173, [29, 6, 2, 4]), ([0, 0, 0, 1, 0, 1, 1, 1, 1, 1], [30, 29, 6, 2, 4]), ([0, 1, 0, 0, 1, 0, 1, 1, 1, 1, 1], [29, 6, 2, 4]), ([1, 0, 1, 0, 0, 1, 0, 1, 1, 1, 1, 1], [6, 4]), ([0, 0, 0, 1, 1, 0, 0, 1, 0, 1, 1, 1, 1, 1], [8, 6, 2, 29, 4]), ([1, 0, 0, 1, 1, 0, 0, 1, 0, 1, 1, 1, 1, 1], [29, 6, 2, 4]), ([0, 1, 1, 0, 0, 1, 0, 1, 1, 1, 1, 1], [29, 6, 2, 4]), ([1, 1, 1, 0, 0, 1, 0, 1, 1, 1, 1, 1], [29, 6, 2, 4]), (z13u, [6, 4]), (PQ91, [4]), ([1, 1, 1, 1, 1, 1, 1], [4])]

def z1sj (N : Nat) : Env := z16 tys glob [(133, zjl N), (132, zfd N)] [] [] [] false [] [(98, z7 N)]

theorem z1s6 (N : Nat) : EnvOk Tryz.prog (z1sj N) := zk mixed zp (FnsOk.cons (zt5 N) (FnsOk.cons (zni N) (FnsOk.nil))) (ItsOk.cons (z8 N) (ItsOk.nil))

def zij (N : Nat) (h : (List Int)) (x4 : (List Int)) (w : (List Int)) (v_ : (List Int)) (x16 : Int) (rec : (List Int) -> Int -> Option (List Int)) (k0 : (List Int) -> Option (List Int)) : Option (List Int) :=
 cond (decide (x16 < (64 : Int)))
 (cond (inR x16 64)
 (cond (inR x16 64)
 (cond (decide ((Int.toNat x16) < (List.length w)))
 ((zfz N v_ (IntKind.wrap IntKind.u32 ((List.getD glob0 (Int.toNat x16) (0 : Int)) + (List.getD w (Int.toNat x16) (0 : Int))))).bind fun y =>
 rec y (IntKind.wrap IntKind.i64 (x16 + (1 : Int))))
 (none))
 (none))
 (none))
 (k0 v_)

def zik (N : Nat) (h : (List Int)) (x4 : (List Int)) (w : (List Int)) (v_ : (List Int)) (x16 : Int) (k0 : (List Int) -> Option (List Int)) : Option (List Int) :=
 iter (fun (v : ((List Int) × Int)) r => zij N h x4 w v.1 v.2 (fun v_ x16 => (r (v_, x16))) k0) N (v_, x16)

def z1p1 (N : Nat) (i : ((List Int) × (List Int) × (List Int))) (v : ((List Int) × Int)) (r : ((List Int) × Int) -> Option (List Int)) (K : Ex -> List A -> Option (List Int)) : Option (List Int) :=
 zij N i.1 i.2.1 i.2.2 v.1 v.2 (fun v_ x16 => (r (v_, x16))) (fun a2 => (K (.exit 0) (mkS [(2, .box (.arr 8 (.int .u32))), (1, .box (.arr 8 (.int .u32))), (1, .box (.arr 8 (.int .u32)))] 35 (i.1, i.2.1, a2, ()))))

def z1n4 (N : Nat) : Hd (List Int) := fun st K => (unS SQ32 25 (restr [16, 6, 5, 2, 4] 0 st)).bind fun x => iter (fun v r => z1p1 N ((fun x => (x.1, x.2.1, x.2.2.1)) x) v r K) N ((fun x => (x.2.2.2.1, x.2.2.2.2.1)) x)

def t1_13 (N : Nat) : Tab (List Int) := []

theorem z1kr {N : Nat} {c : Ctx} (hb : Base Tryz.prog (z1sj N) c) : zo Tryz.prog c (zl zpi z13t) (z1n4 N) :=
  z1i (s := SQ32) (m := 25) (z1p1 N) [16, 6, 5, 2, 4] N (fun x => (x.1, x.2.1, x.2.2.1)) (fun x => (x.2.2.2.1, x.2.2.2.2.1)) (fun i v => (i.1, i.2.1, i.2.2, v.1, v.2, ())) (fun _ => rfl) (zi hb N (t1_13 N) L_13 zpi TabOk.nil z1pp _ rfl) (fun i v r K => by kernel_rfl)

def znk (N : Nat) (h : (List Int)) (x4 : (List Int)) (v_ : (List Int)) (x29 : Int) (rec : (List Int) -> Int -> Option (List Int)) (k0 : (List Int) -> Option (List Int)) : Option (List Int) :=
 cond (decide (x29 < (8 : Int)))
 (cond (inR x29 8)
 (cond (decide ((Int.toNat x29) < (List.length v_)))
 (cond (inR x29 8)
 (cond (decide ((Int.toNat x29) < (List.length h)))
 (cond (inR x29 8)
 (cond (decide ((Int.toNat x29) < (List.length v_)))
 (rec (List.set v_ (Int.toNat x29) (IntKind.wrap IntKind.u32 ((List.getD v_ (Int.toNat x29) (0 : Int)) + (List.getD h (Int.toNat x29) (0 : Int))))) (IntKind.wrap IntKind.i64 (x29 + (1 : Int))))
 (none))
 (none))
 (none))
 (none))
 (none))
 (none))
 (k0 v_)

def znl (N : Nat) (h : (List Int)) (x4 : (List Int)) (v_ : (List Int)) (x29 : Int) (k0 : (List Int) -> Option (List Int)) : Option (List Int) :=
 iter (fun (v : ((List Int) × Int)) r => znk N h x4 v.1 v.2 (fun v_ x29 => (r (v_, x29))) k0) N (v_, x29)

def z1nz (N : Nat) (i : ((List Int) × (List Int))) (v : ((List Int) × Int)) (r : ((List Int) × Int) -> Option (List Int)) (K : Ex -> List A -> Option (List Int)) : Option (List Int) :=
 znk N i.1 i.2 v.1 v.2 (fun v_ x29 => (r (v_, x29))) (fun a1 => (K (.exit 2) (mkS [(4, .box (.arr 8 (.int .u32))), (1, .box (.arr 8 (.int .u32)))] 35 (i.2, a1, ()))))

def z1m2 (N : Nat) : Hd (List Int) := fun st K => (unS SQ52 12 (restr [29, 6, 2, 4] 0 st)).bind fun x => iter (fun v r => z1nz N ((fun x => (x.1, x.2.1)) x) v r K) N ((fun x => (x.2.2.1, x.2.2.2.1)) x)

def t2_13 (N : Nat) : Tab (List Int) := []

theorem z1jp {N : Nat} {c : Ctx} (hb : Base Tryz.prog (z1sj N) c) : zo Tryz.prog c (zl zpi z173) (z1m2 N) :=
  z1i (s := SQ52) (m := 12) (z1nz N) [29, 6, 2, 4] N (fun x => (x.1, x.2.1)) (fun x => (x.2.2.1, x.2.2.2.1)) (fun i v => (i.1, i.2, v.1, v.2, ())) (fun _ => rfl) (zi hb N (t2_13 N) L_13 zpi TabOk.nil z13w _ rfl) (fun i v r K => by kernel_rfl)

def zan (N : Nat) (h : (List Int)) (block : (List UInt8)) : Option (List Int) :=
 cond ((((List.length block) : Nat) : Int) != (64 : Int))
 (some h)
 ((zc9 N block).bind fun y =>
 zik N h ([(0 : Int), (0 : Int), (0 : Int), (0 : Int), (0 : Int), (0 : Int), (0 : Int), (0 : Int)] : List Int) y h (0 : Int)
 (fun v_ => znl N h ([(0 : Int), (0 : Int), (0 : Int), (0 : Int), (0 : Int), (0 : Int), (0 : Int), (0 : Int)] : List Int) v_ (0 : Int)
 (fun v_1 => some v_1)))

def t_13 (N : Nat) : Tab (List Int) := [(z13t, z1n4 N), (z173, z1m2 N)]

theorem z1db (N : Nat) (x : z1j z1gs) : z2j (z1sj N) N (t_13 N) L_13 Tryz.f125 (mkS z1gs 0 x) (z1h (.v (.arr 8 (.int .u32))) 2) = zan N x.1 x.2.1 := by kernel_rfl

def zm0 (N : Nat) : List A -> Res := z12 z1gs (fun x => zan N x.1 x.2.1) (z2k (.v (.arr 8 (.int .u32))) 2)

theorem zv6 (N : Nat) : Contract Tryz.prog glob 125 (zm0 N) :=
  Contract.of (E := z1sj N) (H := t_13 N) (L := L_13) (N := N) (body := zpi) (K := (z1h (.v (.arr 8 (.int .u32))) 2)) (z1s6 N) Tryz.func125 (by kernel_rfl) (by decide) (fun _ hb => (TabOk.cons (z1kr hb) (TabOk.cons (z1jp hb) TabOk.nil))) (fun x y h => by rw [z1db]; exact h) (zm (s := (.v (.arr 8 (.int .u32)))) (m := 2))

def zx3 : Code := (Tryz.f116.body).getD .skip

def L_14 : List (List Nat × List Nat) := [([0], [1, 2, 4]), ([0, 0, 1], [5, 1, 2, 4]), ([0, 1, 0, 1], [5, 1, 2, 4]), ([0, 0, 0, 0, 1, 0, 1], [9, 2, 1, 5, 4]), ([1, 0, 0, 0, 1, 0, 1], [2, 1, 5, 4]), ([1, 1, 0, 0, 0, 1, 0, 1], [2, 4]), ([0, 0, 1, 0, 0, 1, 0, 1], [5, 1, 2, 4]), ([0, 1, 0, 0, 1, 0, 1], [5, 1, 2, 4]), ([1, 1, 0, 0, 1, 0, 1], [5, 1, 2, 4]), ([1, 0, 1], [2, 4]), ([0, 1, 1], [4]), ([1, 1, 1], [4])]

def E_14 (N : Nat) : Env := z16 tys glob [(125, zm0 N)] [] [] [] false [] [(98, z7 N)]

theorem z1s5 (N : Nat) : EnvOk Tryz.prog (E_14 N) := zk mixed zp (FnsOk.cons (zv6 N) (FnsOk.nil)) (ItsOk.cons (z8 N) (ItsOk.nil))

def zfy (N : Nat) (s : (List UInt8)) (x4 : (List Int)) (h : (List Int)) (i : Int) (rec : (List Int) -> Int -> Option (List Int)) (k0 : (List Int) -> Option (List Int)) : Option (List Int) :=
 cond (decide (i < (((List.length s) : Nat) : Int)))
 (cond (decide (((0 : Int) <= (IntKind.wrap IntKind.i64 (i + (64 : Int)))) /\ ((IntKind.wrap IntKind.i64 (i + (64 : Int))) <= (((List.length s) : Nat) : Int))))
 (cond (decide (((0 : Int) <= i) /\ (i <= (IntKind.wrap IntKind.i64 (i + (64 : Int))))))
 ((zan N h (cut s (Int.toNat i) (Int.toNat (IntKind.wrap IntKind.i64 (i + (64 : Int)))))).bind fun y =>
 rec y (IntKind.wrap IntKind.i64 (i + (64 : Int))))
 (none))
 (none))
 (k0 h)

def zlz (N : Nat) (s : (List UInt8)) (h : (List Int)) (x4 : (List Int)) (i : Int) (k0 : (List Int) -> Option (List Int)) : Option (List Int) :=
 iter (fun (v : ((List Int) × Int)) r => zfy N s x4 v.1 v.2 (fun h i => (r (h, i))) k0) N (h, i)

def z1p0 (N : Nat) (i : ((List UInt8) × (List Int))) (v : ((List Int) × Int)) (r : ((List Int) × Int) -> Option (List Int)) (K : Ex -> List A -> Option (List Int)) : Option (List Int) :=
 zfy N i.1 i.2 v.1 v.2 (fun h i => (r (h, i))) (fun a0 => (K (.exit 0) (mkS [(2, .box (.arr 8 (.int .u32))), (1, .box (.arr 8 (.int .u32)))] 15 (a0, i.2, ()))))

def z1n3 (N : Nat) : Hd (List Int) := fun st K => (unS SQ80 14 (restr [5, 1, 2, 4] 0 st)).bind fun x => iter (fun v r => z1p0 N ((fun x => (x.1, x.2.2.1)) x) v r K) N ((fun x => (x.2.1, x.2.2.2.1)) x)

def t1_14 (N : Nat) : Tab (List Int) := []

theorem z1kq {N : Nat} {c : Ctx} (hb : Base Tryz.prog (E_14 N) c) : zo Tryz.prog c (zl zx3 [0, 1, 0, 1]) (z1n3 N) :=
  z1i (s := SQ80) (m := 14) (z1p0 N) [5, 1, 2, 4] N (fun x => (x.1, x.2.2.1)) (fun x => (x.2.1, x.2.2.2.1)) (fun i v => (i.1, v.1, i.2, v.2, ())) (fun _ => rfl) (zi hb N (t1_14 N) L_14 zx3 TabOk.nil [0, 0, 1, 0, 1] _ rfl) (fun i v r K => by kernel_rfl)

def z9c (N : Nat) (h : (List Int)) (s : (List UInt8)) : Option (List Int) :=
 zlz N s h ([(0 : Int), (0 : Int), (0 : Int), (0 : Int), (0 : Int), (0 : Int), (0 : Int), (0 : Int)] : List Int) (0 : Int)
 (fun h1 => some h1)

def t_14 (N : Nat) : Tab (List Int) := [([0, 1, 0, 1], z1n3 N)]

theorem z1da (N : Nat) (x : z1j z1gs) : z2j (E_14 N) N (t_14 N) L_14 Tryz.f116 (mkS z1gs 0 x) (z1h (.v (.arr 8 (.int .u32))) 2) = z9c N x.1 x.2.1 := by kernel_rfl

def z5j (N : Nat) : List A -> Res := z12 z1gs (fun x => z9c N x.1 x.2.1) (z2k (.v (.arr 8 (.int .u32))) 2)

theorem z9b (N : Nat) : Contract Tryz.prog glob 116 (z5j N) :=
  Contract.of (E := E_14 N) (H := t_14 N) (L := L_14) (N := N) (body := zx3) (K := (z1h (.v (.arr 8 (.int .u32))) 2)) (z1s5 N) Tryz.func116 (by kernel_rfl) (by decide) (fun _ hb => (TabOk.cons (z1kq hb) TabOk.nil)) (fun x y h => by rw [z1da]; exact h) (zm (s := (.v (.arr 8 (.int .u32)))) (m := 2))

def zx2 : Code := (Tryz.f107.body).getD .skip

def L_15 : List (List Nat × List Nat) := [([0, 0], [14, 0, 1]), ([1, 0], [0, 1]), ([0, 1, 0], [0]), ([0, 1], [0, 1]), ([0, 1, 1], [4, 0]), ([0, 1, 1, 1], [0, 4, 5]), ([0, 1, 1, 1, 1], [0, 4, 5]), ([1, 1, 1, 1, 1], [0])]

def E_15 (N : Nat) : Env := z16 tys glob [(116, z5j N)] [] [] [0] false [] [(98, z7 N)]

theorem z1s4 (N : Nat) : EnvOk Tryz.prog (E_15 N) := zk mixed zp (FnsOk.cons (z9b N) (FnsOk.nil)) (ItsOk.cons (z8 N) (ItsOk.nil))

def zbb (N : Nat) (h : DT9) (s : (List UInt8)) (k0 : Option ((Unit) × (DT9 × Unit))) (k1 : Option ((Unit) × (DT9 × Unit))) : Option ((Unit) × (DT9 × Unit)) :=
 cond (!h.1)
 (k0)
 (k1)

def z1oz (N : Nat) (x : z1j z1f4) (K : Ex -> List A -> Option ((Unit) × (DT9 × Unit))) : Option ((Unit) × (DT9 × Unit)) :=
 zbb N x.1 x.2.1 (K .ret (mkS [(0, .box TT6)] 52 (x.1, ()))) (K .normal (mkS z1f4 51 (x.1, x.2.1, ())))

def z1n2 (N : Nat) : Hd ((Unit) × (DT9 × Unit)) := fun st K => (unS z1f4 51 (restr [0, 1] 0 st)).bind fun x => z1oz N x K

def t1_15 (N : Nat) : Tab ((Unit) × (DT9 × Unit)) := []

theorem z1kp {N : Nat} {c : Ctx} (hb : Base Tryz.prog (E_15 N) c) : zo Tryz.prog c (zl zx2 [0]) (z1n2 N) :=
  z14 (s := z1f4) (m := 51) (g := z1oz N) [0, 1] (zi hb N (t1_15 N) L_15 zx2 TabOk.nil [0] _ rfl) (fun x K => by kernel_rfl)

def z56 (N : Nat) (h : DT9) (s : (List UInt8)) : Option ((Unit) × (DT9 × Unit)) :=
 zbb N h s
 (some ((), (h, ())))
 (cond (decide (((List.length h.2.2.1) + (List.length s)) <= 9223372036854775807))
 (cond (decide (((0 : Int) <= (IntKind.wrap IntKind.i64 ((((List.length (h.2.2.1 ++ s)) : Nat) : Int) - (Int.tmod (((List.length (h.2.2.1 ++ s)) : Nat) : Int) (64 : Int))))) /\ ((IntKind.wrap IntKind.i64 ((((List.length (h.2.2.1 ++ s)) : Nat) : Int) - (Int.tmod (((List.length (h.2.2.1 ++ s)) : Nat) : Int) (64 : Int)))) <= (((List.length (h.2.2.1 ++ s)) : Nat) : Int))))
 ((z9c N h.2.1 (cut (h.2.2.1 ++ s) 0 (Int.toNat (IntKind.wrap IntKind.i64 ((((List.length (h.2.2.1 ++ s)) : Nat) : Int) - (Int.tmod (((List.length (h.2.2.1 ++ s)) : Nat) : Int) (64 : Int))))))).bind fun y =>
 cond (decide (((0 : Int) <= (IntKind.wrap IntKind.i64 ((((List.length (h.2.2.1 ++ s)) : Nat) : Int) - (Int.tmod (((List.length (h.2.2.1 ++ s)) : Nat) : Int) (64 : Int))))) /\ ((IntKind.wrap IntKind.i64 ((((List.length (h.2.2.1 ++ s)) : Nat) : Int) - (Int.tmod (((List.length (h.2.2.1 ++ s)) : Nat) : Int) (64 : Int)))) <= (((List.length (h.2.2.1 ++ s)) : Nat) : Int))))
 (some ((), ((h.1, (y, ((cut (h.2.2.1 ++ s) (Int.toNat (IntKind.wrap IntKind.i64 ((((List.length (h.2.2.1 ++ s)) : Nat) : Int) - (Int.tmod (((List.length (h.2.2.1 ++ s)) : Nat) : Int) (64 : Int))))) (List.length (h.2.2.1 ++ s))), ((IntKind.wrap IntKind.i64 (h.2.2.2.1 + (((List.length s) : Nat) : Int))), h.2.2.2.2)))), ())))
 (none))
 (none))
 (none))

def t_15 (N : Nat) : Tab ((Unit) × (DT9 × Unit)) := [([0], z1n2 N)]

theorem z1d9 (N : Nat) (x : z1j z1f4) : z2j (E_15 N) N (t_15 N) L_15 Tryz.f107 (mkS z1f4 0 x) (zdl (.tup []) [(0, .box TT6)] 1) = z56 N x.1 x.2.1 := by kernel_rfl

def zfi (N : Nat) : List A -> Res := z12 z1f4 (fun x => z56 N x.1 x.2.1) (zli (.tup []) [(0, .box TT6)] 1)

theorem znn (N : Nat) : Contract Tryz.prog glob 107 (zfi N) :=
  Contract.of (E := E_15 N) (H := t_15 N) (L := L_15) (N := N) (body := zx2) (K := (zdl (.tup []) [(0, .box TT6)] 1)) (z1s4 N) Tryz.func107 (by kernel_rfl) (by decide) (fun _ hb => (TabOk.cons (z1kp hb) TabOk.nil)) (fun x y h => by rw [z1d9]; exact h) (zao (s := (.tup [])) (os := [(0, .box TT6)]) (m := 1))

def zx1 : Code := (Tryz.f107.body).getD .skip

def L_16 : List (List Nat × List Nat) := [([0, 0], [14, 0, 1]), ([1, 0], [0, 1]), ([0, 1, 0], []), ([0, 1], [0, 1]), ([0, 1, 1], [4, 0]), ([0, 1, 1, 1], [0, 4, 5]), ([0, 1, 1, 1, 1], [0, 4, 5]), ([1, 1, 1, 1, 1], [])]

def E_16 (N : Nat) : Env := z16 tys glob [(116, z5j N)] [] [] [] false [] [(98, z7 N)]

theorem z1s3 (N : Nat) : EnvOk Tryz.prog (E_16 N) := zk mixed zp (FnsOk.cons (z9b N) (FnsOk.nil)) (ItsOk.cons (z8 N) (ItsOk.nil))

def zbc (N : Nat) (s : (List UInt8)) (k0 : Option (Unit)) : Option (Unit) :=
 k0

def z1oy (N : Nat) (x : z1j [(0, .nilp), (0, .v .str)]) (K : Ex -> List A -> Option (Unit)) : Option (Unit) :=
 zbc N x.2.1 (K .ret (mkS [] 53 ()))

def z1n1 (N : Nat) : Hd (Unit) := fun st K => (unS [(0, .nilp), (0, .v .str)] 51 (restr [0, 1] 0 st)).bind fun x => z1oy N x K

def t1_16 (N : Nat) : Tab (Unit) := []

theorem z1ko {N : Nat} {c : Ctx} (hb : Base Tryz.prog (E_16 N) c) : zo Tryz.prog c (zl zx1 [0]) (z1n1 N) :=
  z14 (s := [(0, .nilp), (0, .v .str)]) (m := 51) (g := z1oy N) [0, 1] (zi hb N (t1_16 N) L_16 zx1 TabOk.nil [0] _ rfl) (fun x K => by kernel_rfl)

def z9z (N : Nat) (s : (List UInt8)) : Option (Unit) :=
 zbc N s
 (some ())

def t_16 (N : Nat) : Tab (Unit) := [([0], z1n1 N)]

theorem z1d8 (N : Nat) (x : z1j [(0, .nilp), (0, .v .str)]) : z2j (E_16 N) N (t_16 N) L_16 Tryz.f107 (mkS [(0, .nilp), (0, .v .str)] 0 x) (z1h (.tup []) 2) = z9z N x.2.1 := by kernel_rfl

def zhj (N : Nat) : List A -> Res := z12 [(0, .nilp), (0, .v .str)] (fun x => z9z N x.2.1) (z2k (.tup []) 2)

theorem zin (N : Nat) : Contract Tryz.prog glob 107 (zhj N) :=
  Contract.of (E := E_16 N) (H := t_16 N) (L := L_16) (N := N) (body := zx1) (K := (z1h (.tup []) 2)) (z1s3 N) Tryz.func107 (by kernel_rfl) (by decide) (fun _ hb => (TabOk.cons (z1ko hb) TabOk.nil)) (fun x y h => by rw [z1d8]; exact h) (zm (s := (.tup [])) (m := 2))

def z63 (N : Nat) : List A -> Res := ztk [(0, .nilp), (0, .v .str)] (fun x => z9z N x.2.1) (z2k (.tup []) 2) (zfi N)

theorem z8o (N : Nat) : Contract Tryz.prog glob 107 (z63 N) := Contract.alt (zin N) (znn N)

def z1f0 : Code := (Tryz.f94.body).getD .skip

def L_17 : List (List Nat × List Nat) := [([0], [1, 0]), ([0, 1], [1, 0]), ([0, 0, 1, 1], [10, 0, 1]), ([1, 0, 1, 1], [0, 1]), ([0, 0, 1, 0, 1, 1], [4]), ([1, 0, 1, 0, 1, 1], [4]), ([0, 1, 1, 1], [4]), ([1, 1, 1, 1], [4])]

def E_17 (N : Nat) : Env := z16 tys glob [] [] [] [] false [] [(98, z7 N)]

theorem z1s2 (N : Nat) : EnvOk Tryz.prog (E_17 N) := zk mixed zp (FnsOk.nil) (ItsOk.cons (z8 N) (ItsOk.nil))

def zdj (N : Nat) (s : (List UInt8)) (n : Int) : Option (List UInt8) :=
 cond (decide ((if ((65536 : Int) < n) then (65536 : Int) else n) <= (((List.length s) : Nat) : Int)))
 (some s)
 (cond (decide (((0 : Int) <= (IntKind.wrap IntKind.i64 ((if ((65536 : Int) < n) then (65536 : Int) else n) - (((List.length s) : Nat) : Int)))) /\ (((IntKind.wrap IntKind.i64 ((if ((65536 : Int) < n) then (65536 : Int) else n) - (((List.length s) : Nat) : Int))) <= (IntKind.wrap IntKind.i64 ((if ((65536 : Int) < n) then (65536 : Int) else n) - (((List.length s) : Nat) : Int)))) /\ ((((IntKind.wrap IntKind.i64 ((if ((65536 : Int) < n) then (65536 : Int) else n) - (((List.length s) : Nat) : Int))) * (1 : Int)) <= (281474976710656 : Int)) /\ ((IntKind.wrap IntKind.i64 ((if ((65536 : Int) < n) then (65536 : Int) else n) - (((List.length s) : Nat) : Int))) <= (9223372036854775807 : Int))))))
 (cond (decide (((List.length s) + (List.length (z27 (List.replicate (Int.toNat (IntKind.wrap IntKind.i64 ((if ((65536 : Int) < n) then (65536 : Int) else n) - (((List.length s) : Nat) : Int)))) (0 : Int))))) <= 9223372036854775807))
 (some (s ++ (z27 (List.replicate (Int.toNat (IntKind.wrap IntKind.i64 ((if ((65536 : Int) < n) then (65536 : Int) else n) - (((List.length s) : Nat) : Int)))) (0 : Int)))))
 (none))
 (none))

def t_17 (N : Nat) : Tab (List UInt8) := []

theorem z1d7 (N : Nat) (x : z1j z10f) : z2j (E_17 N) N (t_17 N) L_17 Tryz.f94 (mkS z10f 0 x) (z1h (.v .str) 2) = zdj N x.1 x.2.1 := by kernel_rfl

def zef (N : Nat) : List A -> Res := z12 z10f (fun x => zdj N x.1 x.2.1) (z2k (.v .str) 2)

theorem zm9 (N : Nat) : Contract Tryz.prog glob 94 (zef N) :=
  Contract.of (E := E_17 N) (H := t_17 N) (L := L_17) (N := N) (body := z1f0) (K := (z1h (.v .str) 2)) (z1s2 N) Tryz.func94 (by kernel_rfl) (by decide) (fun _ hb => TabOk.nil) (fun x y h => by rw [z1d7]; exact h) (zm (s := (.v .str)) (m := 2))

def zx0 : Code := (Tryz.f126.body).getD .skip

def L_18 : List (List Nat × List Nat) := [([0], [1, 0]), ([0, 1], [1, 5, 0]), ([0, 0, 1, 1], [10, 9, 5, 0, 1]), ([0, 1, 0, 1, 1], [10, 9, 5, 0, 1]), (z14a, [11, 10, 5, 0, 1, 9]), (PQ9, [10, 5, 0, 1, 9]), (z1fg, [5]), (z1fi, [5, 6, 0, 1, 10, 9]), (z1po, [10, 9, 5, 0, 1]), (z1ff, [10, 9, 5, 0, 1]), (z1fe, [10, 9, 5, 0, 1]), ([1, 0, 1, 1], [5]), ([0, 1, 1, 1], [4]), ([1, 1, 1, 1], [4])]

def E_18 (N : Nat) : Env := z16 tys glob [] [(5, (.int .u8))] [] [] false [] [(98, z7 N)]

theorem z1s1 (N : Nat) : EnvOk Tryz.prog (E_18 N) := zk mixed zp (FnsOk.nil) (ItsOk.cons (z8 N) (ItsOk.nil))

def zfe (N : Nat) (n : Int) (size : Int) (x9 : Int) (out : (List Int)) (x10 : Int) (rec : (List Int) -> Int -> Option (List UInt8)) (k0 : (List Int) -> Option (List UInt8)) : Option (List UInt8) :=
 cond (decide (x10 < x9))
 (cond (decide ((0 : Int) <= (IntKind.wrap IntKind.i64 ((8 : Int) * (IntKind.wrap IntKind.i64 ((IntKind.wrap IntKind.i64 (size - (1 : Int))) - x10))))))
 (cond (inR x10 (List.length out))
 (cond (decide ((Int.toNat x10) < (List.length out)))
 (rec (List.set out (Int.toNat x10) (IntKind.wrap IntKind.u8 (z39 IntKind.u64 n (IntKind.wrap IntKind.i64 ((8 : Int) * (IntKind.wrap IntKind.i64 ((IntKind.wrap IntKind.i64 (size - (1 : Int))) - x10))))))) (IntKind.wrap IntKind.i64 (x10 + (1 : Int))))
 (none))
 (none))
 (none))
 (k0 out)

def zms (N : Nat) (n : Int) (size : Int) (out : (List Int)) (x9 : Int) (x10 : Int) (k0 : (List Int) -> Option (List UInt8)) : Option (List UInt8) :=
 iter (fun (v : ((List Int) × Int)) r => zfe N n size x9 v.1 v.2 (fun out x10 => (r (out, x10))) k0) N (out, x10)

def z1ox (N : Nat) (i : (Int × Int × Int)) (v : ((List Int) × Int)) (r : ((List Int) × Int) -> Option (List UInt8)) (K : Ex -> List A -> Option (List UInt8)) : Option (List UInt8) :=
 zfe N i.1 i.2.1 i.2.2 v.1 v.2 (fun out x10 => (r (out, x10))) (fun a0 => (K (.exit 0) (mkS [(5, .row (.int .u8))] 21 (a0, ()))))

def z1n0 (N : Nat) : Hd (List UInt8) := fun st K => (unS SQ67 16 (restr [10, 9, 5, 0, 1] 0 st)).bind fun x => iter (fun v r => z1ox N ((fun x => (x.1, x.2.1, x.2.2.2.1)) x) v r K) N ((fun x => (x.2.2.1, x.2.2.2.2.1)) x)

def t1_18 (N : Nat) : Tab (List UInt8) := []

theorem z1kn {N : Nat} {c : Ctx} (hb : Base Tryz.prog (E_18 N) c) : zo Tryz.prog c (zl zx0 [0, 1, 0, 1, 1]) (z1n0 N) :=
  z1i (s := SQ67) (m := 16) (z1ox N) [10, 9, 5, 0, 1] N (fun x => (x.1, x.2.1, x.2.2.2.1)) (fun x => (x.2.2.1, x.2.2.2.2.1)) (fun i v => (i.1, i.2.1, v.1, i.2.2, v.2, ())) (fun _ => rfl) (zi hb N (t1_18 N) L_18 zx0 TabOk.nil [0, 0, 1, 0, 1, 1] _ rfl) (fun i v r K => by kernel_rfl)

def z4e (N : Nat) (n : Int) (size : Int) : Option (List UInt8) :=
 cond (decide (((0 : Int) <= size) /\ ((size <= size) /\ (((size * (1 : Int)) <= (281474976710656 : Int)) /\ (size <= (9223372036854775807 : Int))))))
 (zms N n size (List.replicate (Int.toNat size) (0 : Int)) size (0 : Int)
 (fun out => some (z27 out)))
 (none)

def t_18 (N : Nat) : Tab (List UInt8) := [([0, 1, 0, 1, 1], z1n0 N)]

theorem z1d6 (N : Nat) (x : z1j [(0, .v (.int .u64)), (0, .v (.int .i64))]) : z2j (E_18 N) N (t_18 N) L_18 Tryz.f126 (mkS [(0, .v (.int .u64)), (0, .v (.int .i64))] 0 x) (z1h (.v .str) 2) = z4e N x.1 x.2.1 := by kernel_rfl

def z8u (N : Nat) : List A -> Res := z12 [(0, .v (.int .u64)), (0, .v (.int .i64))] (fun x => z4e N x.1 x.2.1) (z2k (.v .str) 2)

theorem zff (N : Nat) : Contract Tryz.prog glob 126 (z8u N) :=
  Contract.of (E := E_18 N) (H := t_18 N) (L := L_18) (N := N) (body := zx0) (K := (z1h (.v .str) 2)) (z1s1 N) Tryz.func126 (by kernel_rfl) (by decide) (fun _ hb => (TabOk.cons (z1kn hb) TabOk.nil)) (fun x y h => by rw [z1d6]; exact h) (zm (s := (.v .str)) (m := 2))

def z1ez : Code := (Tryz.f118.body).getD .skip

def L_19 : List (List Nat × List Nat) := [([0], [0]), ([0, 1], [3, 0]), ([0, 1, 1], [2]), ([1, 1, 1], [2])]

def E_19 (N : Nat) : Env := z16 tys glob [(126, z8u N), (94, zef N)] [] [] [] false [] [(98, z7 N)]

theorem z1s0 (N : Nat) : EnvOk Tryz.prog (E_19 N) := zk mixed zp (FnsOk.cons (zff N) (FnsOk.cons (zm9 N) (FnsOk.nil))) (ItsOk.cons (z8 N) (ItsOk.nil))

def ze5 (N : Nat) (n : Int) : Option (List UInt8) :=
 (zdj N ([(128 : UInt8)] : List UInt8) (IntKind.wrap IntKind.i64 ((1 : Int) + (Int.tmod (IntKind.wrap IntKind.i64 ((119 : Int) - (Int.tmod n (64 : Int)))) (64 : Int))))).bind fun y =>
 (z4e N (IntKind.wrap IntKind.u64 ((8 : Int) * (IntKind.wrap IntKind.u64 n))) (8 : Int)).bind fun y1 =>
 cond (decide (((List.length y) + (List.length y1)) <= 9223372036854775807))
 (some (y ++ y1))
 (none)

def t_19 (N : Nat) : Tab (List UInt8) := []

theorem z1d5 (N : Nat) (x : z1j [(0, .v (.int .i64))]) : z2j (E_19 N) N (t_19 N) L_19 Tryz.f118 (mkS [(0, .v (.int .i64))] 0 x) (z1h (.v .str) 1) = ze5 N x.1 := by kernel_rfl

def zc8 (N : Nat) : List A -> Res := z12 [(0, .v (.int .i64))] (fun x => ze5 N x.1) (z2k (.v .str) 1)

theorem zif (N : Nat) : Contract Tryz.prog glob 118 (zc8 N) :=
  Contract.of (E := E_19 N) (H := t_19 N) (L := L_19) (N := N) (body := z1ez) (K := (z1h (.v .str) 1)) (z1s0 N) Tryz.func118 (by kernel_rfl) (by decide) (fun _ hb => TabOk.nil) (fun x y h => by rw [z1d5]; exact h) (zm (s := (.v .str)) (m := 1))

def zwz : Code := (Tryz.f117.body).getD .skip

def L_20 : List (List Nat × List Nat) := [([0], [1]), ([0, 1], [1, 3]), ([0, 0, 1, 1], [7, 6, 3]), ([0, 1, 0, 1, 1], [7, 6, 3]), (z14a, [8, 6, 7, 3]), (PQ9, [6, 7, 3]), (z1fg, [3]), (z1fi, [3, 5, 7, 6]), (z1po, [7, 6, 3]), (z1ff, [7, 6, 3]), (z1fe, [7, 6, 3]), ([1, 0, 1, 1], [3]), ([0, 1, 1, 1], [2]), ([1, 1, 1, 1], [2])]

def E_20 (N : Nat) : Env := z16 tys glob [(126, z8u N)] [] [] [] false [] [(98, z7 N)]

theorem z1rz (N : Nat) : EnvOk Tryz.prog (E_20 N) := zk mixed zp (FnsOk.cons (zff N) (FnsOk.nil)) (ItsOk.cons (z8 N) (ItsOk.nil))

def znj (N : Nat) (x6 : (List Int)) (out : (List UInt8)) (x7 : Int) (rec : (List UInt8) -> Int -> Option (List UInt8)) (k0 : (List UInt8) -> Option (List UInt8)) : Option (List UInt8) :=
 cond (decide (x7 < (8 : Int)))
 (cond (inR x7 8)
 ((z4e N (IntKind.wrap IntKind.u64 (List.getD x6 (Int.toNat x7) (0 : Int))) (4 : Int)).bind fun y =>
 cond (decide (((List.length out) + (List.length y)) <= 9223372036854775807))
 (rec (out ++ y) (IntKind.wrap IntKind.i64 (x7 + (1 : Int))))
 (none))
 (none))
 (k0 out)

def zv5 (N : Nat) (out : (List UInt8)) (x6 : (List Int)) (x7 : Int) (k0 : (List UInt8) -> Option (List UInt8)) : Option (List UInt8) :=
 iter (fun (v : ((List UInt8) × Int)) r => znj N x6 v.1 v.2 (fun out x7 => (r (out, x7))) k0) N (out, x7)

def z1ow (N : Nat) (i : (List Int)) (v : ((List UInt8) × Int)) (r : ((List UInt8) × Int) -> Option (List UInt8)) (K : Ex -> List A -> Option (List UInt8)) : Option (List UInt8) :=
 znj N i v.1 v.2 (fun out x7 => (r (out, x7))) (fun a0 => (K (.exit 0) (mkS [(3, .v .str)] 13 (a0, ()))))

def z1mz (N : Nat) : Hd (List UInt8) := fun st K => (unS [(3, .v .str), (2, .v (.arr 8 (.int .u32))), (0, .v (.int .i64))] 9 (restr [7, 6, 3] 0 st)).bind fun x => iter (fun v r => z1ow N ((fun x => x.2.1) x) v r K) N ((fun x => (x.1, x.2.2.1)) x)

def t1_20 (N : Nat) : Tab (List UInt8) := []

theorem z1km {N : Nat} {c : Ctx} (hb : Base Tryz.prog (E_20 N) c) : zo Tryz.prog c (zl zwz [0, 1, 0, 1, 1]) (z1mz N) :=
  z1i (s := [(3, .v .str), (2, .v (.arr 8 (.int .u32))), (0, .v (.int .i64))]) (m := 9) (z1ow N) [7, 6, 3] N (fun x => x.2.1) (fun x => (x.1, x.2.2.1)) (fun i v => (v.1, i, v.2, ())) (fun _ => rfl) (zi hb N (t1_20 N) L_20 zwz TabOk.nil [0, 0, 1, 0, 1, 1] _ rfl) (fun i v r K => by kernel_rfl)

def z92 (N : Nat) (h : (List Int)) : Option (List UInt8) :=
 zv5 N ([] : List UInt8) h (0 : Int)
 (fun out => some out)

def t_20 (N : Nat) : Tab (List UInt8) := [([0, 1, 0, 1, 1], z1mz N)]

theorem z1d4 (N : Nat) (x : z1j z1go) : z2j (E_20 N) N (t_20 N) L_20 Tryz.f117 (mkS z1go 0 x) (z1h (.v .str) 1) = z92 N x.1 := by kernel_rfl

def zca (N : Nat) : List A -> Res := z12 z1go (fun x => z92 N x.1) (z2k (.v .str) 1)

theorem zih (N : Nat) : Contract Tryz.prog glob 117 (zca N) :=
  Contract.of (E := E_20 N) (H := t_20 N) (L := L_20) (N := N) (body := zwz) (K := (z1h (.v .str) 1)) (z1rz N) Tryz.func117 (by kernel_rfl) (by decide) (fun _ hb => (TabOk.cons (z1km hb) TabOk.nil)) (fun x y h => by rw [z1d4]; exact h) (zm (s := (.v .str)) (m := 1))

def zph : Code := (Tryz.f108.body).getD .skip

def L_21 : List (List Nat × List Nat) := [([0], [0]), ([0, 0, 1], [11, 0]), ([1, 0, 1], [0]), ([0, 0, 1, 0, 1], [2, 0]), ([1, 0, 1, 0, 1], [2, 0]), ([0, 1, 1], [2, 0]), ([1, 1, 1], [2, 0])]

def z1si (N : Nat) : Env := z16 tys glob [(117, zca N), (118, zc8 N), (116, z5j N)] [] [] [0] false [] [(98, z7 N)]

theorem z1ry (N : Nat) : EnvOk Tryz.prog (z1si N) := zk mixed zp (FnsOk.cons (zih N) (FnsOk.cons (zif N) (FnsOk.cons (z9b N) (FnsOk.nil)))) (ItsOk.cons (z8 N) (ItsOk.nil))

def z9x (N : Nat) (h : DT9) (k0 : Bool -> Option zky) : Option zky :=
 k0 (!h.1)

def z1ny (N : Nat) (x : z1j [(0, .box TT6)]) (K : Ex -> List A -> Option zky) : Option zky :=
 z9x N x.1 (fun a1 => (K .normal (mkS [(0, .box TT6), (10, .v .bool)] 17 (x.1, a1, ()))))

def z1m1 (N : Nat) : Hd zky := fun st K => (unS [(0, .box TT6)] 28 (restr [0] 0 st)).bind fun x => z1ny N x K

def t2_21 (N : Nat) : Tab zky := []

theorem z1jo {N : Nat} {c : Ctx} (hb : Base Tryz.prog (z1si N) c) : zo Tryz.prog c (zl zph [0, 0, 1]) (z1m1 N) :=
  z14 (s := [(0, .box TT6)]) (m := 28) (g := z1ny N) [0] (zi hb N (t2_21 N) L_21 zph TabOk.nil [0, 0, 1] _ rfl) (fun x K => by kernel_rfl)

def z9y (N : Nat) (h : DT9) (k0 : Option zky) : Option zky :=
 z9x N h
 (fun x11 => cond x11
 (none)
 (k0))

def z1ov (N : Nat) (x : z1j [(0, .box TT6)]) (K : Ex -> List A -> Option zky) : Option zky :=
 z9y N x.1 (K .normal (mkS [(0, .box TT6)] 28 (x.1, ())))

def z1my (N : Nat) : Hd zky := fun st K => (unS [(0, .box TT6)] 28 (restr [0] 0 st)).bind fun x => z1ov N x K

def t1_21 (N : Nat) : Tab zky := [([0, 0, 1], z1m1 N)]

theorem z1kl {N : Nat} {c : Ctx} (hb : Base Tryz.prog (z1si N) c) : zo Tryz.prog c (zl zph [0, 1]) (z1my N) :=
  z14 (s := [(0, .box TT6)]) (m := 28) (g := z1ov N) [0] (zi hb N (t1_21 N) L_21 zph (TabOk.cons (z1jo hb) TabOk.nil) [0, 1] _ rfl) (fun x K => by kernel_rfl)

def z7y (N : Nat) (h : DT9) : Option zky :=
 z9y N h
 ((ze5 N h.2.2.2.1).bind fun y =>
 cond (decide (((List.length h.2.2.1) + (List.length y)) <= 9223372036854775807))
 ((z9c N h.2.1 (h.2.2.1 ++ y)).bind fun y1 =>
 (z92 N y1).bind fun y2 =>
 some (y2, (h, ())))
 (none))

def t_21 (N : Nat) : Tab zky := [([0, 1], z1my N)]

theorem z1d3 (N : Nat) (x : z1j [(0, .box TT6)]) : z2j (z1si N) N (t_21 N) L_21 Tryz.f108 (mkS [(0, .box TT6)] 0 x) (zdl (.v .str) [(0, .box TT6)] 0) = z7y N x.1 := by kernel_rfl

def z8v (N : Nat) : List A -> Res := z12 [(0, .box TT6)] (fun x => z7y N x.1) (zli (.v .str) [(0, .box TT6)] 0)

theorem zfh (N : Nat) : Contract Tryz.prog glob 108 (z8v N) :=
  Contract.of (E := z1si N) (H := t_21 N) (L := L_21) (N := N) (body := zph) (K := (zdl (.v .str) [(0, .box TT6)] 0)) (z1ry N) Tryz.func108 (by kernel_rfl) (by decide) (fun _ hb => (TabOk.cons (z1kl hb) TabOk.nil)) (fun x y h => by rw [z1d3]; exact h) (zao (s := (.v .str)) (os := [(0, .box TT6)]) (m := 0))

def z1ey : Code := (Tryz.f93.body).getD .skip

def L_22 : List (List Nat × List Nat) := [([0], [0]), ([0, 1], [3, 0]), ([0, 1, 1], [3]), ([0, 1, 1, 1], [2]), ([1, 1, 1, 1], [2])]

def E_22 (N : Nat) : Env := z16 tys glob [(108, z8v N), (107, z63 N), (106, zil N)] [] [] [] false [] [(98, z7 N)]

theorem z1rx (N : Nat) : EnvOk Tryz.prog (E_22 N) := zk mixed zp (FnsOk.cons (zfh N) (FnsOk.cons (z8o N) (FnsOk.cons (zqk N) (FnsOk.nil)))) (ItsOk.cons (z8 N) (ItsOk.nil))

def zii (N : Nat) (s : (List UInt8)) : Option (List UInt8) :=
 (z56 N (true, (([(1779033703 : Int), (3144134277 : Int), (1013904242 : Int), (2773480762 : Int), (1359893119 : Int), (2600822924 : Int), (528734635 : Int), (1541459225 : Int)] : List Int), (([] : List UInt8), ((0 : Int), ())))) s).bind fun y =>
 (z7y N y.2.1).bind fun y1 =>
 some y1.1

def t_22 (N : Nat) : Tab (List UInt8) := []

theorem z1d2 (N : Nat) (x : z1j [(0, .v .str)]) : z2j (E_22 N) N (t_22 N) L_22 Tryz.f93 (mkS [(0, .v .str)] 0 x) (z1h (.v .str) 1) = zii N x.1 := by kernel_rfl

def ze6 (N : Nat) : List A -> Res := z12 [(0, .v .str)] (fun x => zii N x.1) (z2k (.v .str) 1)

theorem zl5 (N : Nat) : Contract Tryz.prog glob 93 (ze6 N) :=
  Contract.of (E := E_22 N) (H := t_22 N) (L := L_22) (N := N) (body := z1ey) (K := (z1h (.v .str) 1)) (z1rx N) Tryz.func93 (by kernel_rfl) (by decide) (fun _ hb => TabOk.nil) (fun x y h => by rw [z1d2]; exact h) (zm (s := (.v .str)) (m := 1))

def zpg : Code := (Tryz.f108.body).getD .skip

def L_23 : List (List Nat × List Nat) := [([0], [0]), ([0, 0, 1], [11, 0]), ([1, 0, 1], [0]), ([0, 0, 1, 0, 1], [2, 0]), ([1, 0, 1, 0, 1], [2, 0]), ([0, 1, 1], [2, 0]), ([1, 1, 1], [2, 0])]

def z1sh (N : Nat) : Env := z16 tys glob [(93, ze6 N), (117, zca N), (118, zc8 N), (116, z5j N)] [] [] [0] false [] [(98, z7 N)]

theorem z1rw (N : Nat) : EnvOk Tryz.prog (z1sh N) := zk mixed zp (FnsOk.cons (zl5 N) (FnsOk.cons (zih N) (FnsOk.cons (zif N) (FnsOk.cons (z9b N) (FnsOk.nil))))) (ItsOk.cons (z8 N) (ItsOk.nil))

def zb7 (N : Nat) (h : DT9) (k0 : Bool -> Option zky) : Option zky :=
 k0 (!h.1)

def z1nx (N : Nat) (x : z1j [(0, .box TT6)]) (K : Ex -> List A -> Option zky) : Option zky :=
 zb7 N x.1 (fun a1 => (K .normal (mkS [(0, .box TT6), (10, .v .bool)] 17 (x.1, a1, ()))))

def z1m0 (N : Nat) : Hd zky := fun st K => (unS [(0, .box TT6)] 28 (restr [0] 0 st)).bind fun x => z1nx N x K

def t2_23 (N : Nat) : Tab zky := []

theorem z1jn {N : Nat} {c : Ctx} (hb : Base Tryz.prog (z1sh N) c) : zo Tryz.prog c (zl zpg [0, 0, 1]) (z1m0 N) :=
  z14 (s := [(0, .box TT6)]) (m := 28) (g := z1nx N) [0] (zi hb N (t2_23 N) L_23 zpg TabOk.nil [0, 0, 1] _ rfl) (fun x K => by kernel_rfl)

def zb8 (N : Nat) (h : DT9) (k0 : (List UInt8) -> Option zky) (k1 : Option zky) : Option zky :=
 zb7 N h
 (fun x11 => cond x11
 ((zii N ([] : List UInt8)).bind fun y =>
 k0 y)
 (k1))

def z1ou (N : Nat) (x : z1j [(0, .box TT6)]) (K : Ex -> List A -> Option zky) : Option zky :=
 zb8 N x.1 (fun a1 => (K .ret (mkS [(0, .box TT6), (1, .v .str)] 26 (x.1, a1, ())))) (K .normal (mkS [(0, .box TT6)] 28 (x.1, ())))

def z1mx (N : Nat) : Hd zky := fun st K => (unS [(0, .box TT6)] 28 (restr [0] 0 st)).bind fun x => z1ou N x K

def t1_23 (N : Nat) : Tab zky := [([0, 0, 1], z1m0 N)]

theorem z1kk {N : Nat} {c : Ctx} (hb : Base Tryz.prog (z1sh N) c) : zo Tryz.prog c (zl zpg [0, 1]) (z1mx N) :=
  z14 (s := [(0, .box TT6)]) (m := 28) (g := z1ou N) [0] (zi hb N (t1_23 N) L_23 zpg (TabOk.cons (z1jn hb) TabOk.nil) [0, 1] _ rfl) (fun x K => by kernel_rfl)

def z7n (N : Nat) (h : DT9) : Option zky :=
 zb8 N h
 (fun x2 => some (x2, (h, ())))
 ((ze5 N h.2.2.2.1).bind fun y =>
 cond (decide (((List.length h.2.2.1) + (List.length y)) <= 9223372036854775807))
 ((z9c N h.2.1 (h.2.2.1 ++ y)).bind fun y1 =>
 (z92 N y1).bind fun y2 =>
 some (y2, (h, ())))
 (none))

def t_23 (N : Nat) : Tab zky := [([0, 1], z1mx N)]

theorem z1d1 (N : Nat) (x : z1j [(0, .box TT6)]) : z2j (z1sh N) N (t_23 N) L_23 Tryz.f108 (mkS [(0, .box TT6)] 0 x) (zdl (.v .str) [(0, .box TT6)] 0) = z7n N x.1 := by kernel_rfl

def zmt (N : Nat) : List A -> Res := z12 [(0, .box TT6)] (fun x => z7n N x.1) (zli (.v .str) [(0, .box TT6)] 0)

theorem znm (N : Nat) : Contract Tryz.prog glob 108 (zmt N) :=
  Contract.of (E := z1sh N) (H := t_23 N) (L := L_23) (N := N) (body := zpg) (K := (zdl (.v .str) [(0, .box TT6)] 0)) (z1rw N) Tryz.func108 (by kernel_rfl) (by decide) (fun _ hb => (TabOk.cons (z1kk hb) TabOk.nil)) (fun x y h => by rw [z1d1]; exact h) (zao (s := (.v .str)) (os := [(0, .box TT6)]) (m := 0))

def zfg (N : Nat) : List A -> Res := ztk [(0, .box TT6)] (fun x => z7n N x.1) (zli (.v .str) [(0, .box TT6)] 0) (z8v N)

theorem zjm (N : Nat) : Contract Tryz.prog glob 108 (zfg N) := Contract.alt (znm N) (zfh N)

def zpf : Code := (Tryz.f108.body).getD .skip

def L_24 : List (List Nat × List Nat) := [([0], [0]), ([0, 0, 1], [11, 0]), ([1, 0, 1], [0]), ([0, 0, 1, 0, 1], [2]), ([1, 0, 1, 0, 1], [2]), ([0, 1, 1], [2]), ([1, 1, 1], [2])]

def z1sg (N : Nat) : Env := z16 tys glob [(93, ze6 N), (117, zca N), (118, zc8 N), (116, z5j N)] [] [] [] false [] [(98, z7 N)]

theorem z1rv (N : Nat) : EnvOk Tryz.prog (z1sg N) := zk mixed zp (FnsOk.cons (zl5 N) (FnsOk.cons (zih N) (FnsOk.cons (zif N) (FnsOk.cons (z9b N) (FnsOk.nil))))) (ItsOk.cons (z8 N) (ItsOk.nil))

def zb9 (N : Nat) (k0 : Bool -> Option (List UInt8)) : Option (List UInt8) :=
 k0 true

def z1nw (N : Nat) (x : z1j [(0, .nilp)]) (K : Ex -> List A -> Option (List UInt8)) : Option (List UInt8) :=
 zb9 N (fun a0 => (K .normal (mkS [(0, .nilp), (10, .v .bool)] 17 ((), a0, ()))))

def z1lz (N : Nat) : Hd (List UInt8) := fun st K => (unS [(0, .nilp)] 28 (restr [0] 0 st)).bind fun x => z1nw N x K

def t2_24 (N : Nat) : Tab (List UInt8) := []

theorem z1jm {N : Nat} {c : Ctx} (hb : Base Tryz.prog (z1sg N) c) : zo Tryz.prog c (zl zpf [0, 0, 1]) (z1lz N) :=
  z14 (s := [(0, .nilp)]) (m := 28) (g := z1nw N) [0] (zi hb N (t2_24 N) L_24 zpf TabOk.nil [0, 0, 1] _ rfl) (fun x K => by kernel_rfl)

def zba (N : Nat) (k0 : (List UInt8) -> Option (List UInt8)) (k1 : Option (List UInt8)) : Option (List UInt8) :=
 zb9 N
 (fun x11 => cond x11
 ((zii N ([] : List UInt8)).bind fun y =>
 k0 y)
 (k1))

def z1ot (N : Nat) (x : z1j [(0, .nilp)]) (K : Ex -> List A -> Option (List UInt8)) : Option (List UInt8) :=
 zba N (fun a0 => (K .ret (mkS [(2, .v .str)] 26 (a0, ())))) (K .normal (mkS [(0, .nilp)] 28 ((), ())))

def z1mw (N : Nat) : Hd (List UInt8) := fun st K => (unS [(0, .nilp)] 28 (restr [0] 0 st)).bind fun x => z1ot N x K

def t1_24 (N : Nat) : Tab (List UInt8) := [([0, 0, 1], z1lz N)]

theorem z1kj {N : Nat} {c : Ctx} (hb : Base Tryz.prog (z1sg N) c) : zo Tryz.prog c (zl zpf [0, 1]) (z1mw N) :=
  z14 (s := [(0, .nilp)]) (m := 28) (g := z1ot N) [0] (zi hb N (t1_24 N) L_24 zpf (TabOk.cons (z1jm hb) TabOk.nil) [0, 1] _ rfl) (fun x K => by kernel_rfl)

def z9w (N : Nat) : Option (List UInt8) :=
 zba N
 (fun x2 => some x2)
 (none)

def t_24 (N : Nat) : Tab (List UInt8) := [([0, 1], z1mw N)]

theorem z1d0 (N : Nat) (x : z1j [(0, .nilp)]) : z2j (z1sg N) N (t_24 N) L_24 Tryz.f108 (mkS [(0, .nilp)] 0 x) (z1h (.v .str) 1) = z9w N := by kernel_rfl

def zhi (N : Nat) : List A -> Res := z12 [(0, .nilp)] (fun x => z9w N) (z2k (.v .str) 1)

theorem zim (N : Nat) : Contract Tryz.prog glob 108 (zhi N) :=
  Contract.of (E := z1sg N) (H := t_24 N) (L := L_24) (N := N) (body := zpf) (K := (z1h (.v .str) 1)) (z1rv N) Tryz.func108 (by kernel_rfl) (by decide) (fun _ hb => (TabOk.cons (z1kj hb) TabOk.nil)) (fun x y h => by rw [z1d0]; exact h) (zm (s := (.v .str)) (m := 1))

def za6 (N : Nat) : List A -> Res := ztk [(0, .nilp)] (fun x => z9w N) (z2k (.v .str) 1) (zfg N)

theorem zfn (N : Nat) : Contract Tryz.prog glob 108 (za6 N) := Contract.alt (zim N) (zjm N)

def zwy : Code := (Tryz.f96.body).getD .skip

def L_33 : List (List Nat × List Nat) := [([0], [0, 1]), ([0, 1], [5, 0, 1]), ([0, 0, 1, 1], [15, 14, 5, 0, 1]), ([0, 1, 0, 1, 1], [15, 14, 5, 0, 1]), (z14a, [16, 15, 5, 0, 1, 14]), (PQ9, [15, 5, 0, 1, 14]), (z1fg, [5]), (z1fi, [5, 6, 0, 1, 15, 14]), (z1po, [15, 14, 5, 0, 1]), (z1ff, [15, 14, 5, 0, 1]), (z1fe, [15, 14, 5, 0, 1]), ([1, 0, 1, 1], [5]), ([0, 1, 1, 1], [4]), ([1, 1, 1, 1], [4])]

def E_33 (N : Nat) : Env := z16 tys glob [] [(5, (.int .u8))] [] [] false [] [(98, z7 N)]

theorem z1ru (N : Nat) : EnvOk Tryz.prog (E_33 N) := zk mixed zp (FnsOk.nil) (ItsOk.cons (z8 N) (ItsOk.nil))

def zgb (N : Nat) (a : (List UInt8)) (b : (List UInt8)) (x14 : Int) (out : (List Int)) (x15 : Int) (rec : (List Int) -> Int -> Option (List UInt8)) (k0 : (List Int) -> Option (List UInt8)) : Option (List UInt8) :=
 cond (decide (x15 < x14))
 (cond (inR x15 (List.length a))
 (cond (inR x15 (List.length b))
 (cond (inR x15 (List.length out))
 (cond (decide ((Int.toNat x15) < (List.length out)))
 (rec (List.set out (Int.toNat x15) (zj Go.BinOp.xor IntKind.u8 (((UInt8.toNat (List.getD a (Int.toNat x15) (0 : UInt8))) : Nat) : Int) (((UInt8.toNat (List.getD b (Int.toNat x15) (0 : UInt8))) : Nat) : Int))) (IntKind.wrap IntKind.i64 (x15 + (1 : Int))))
 (none))
 (none))
 (none))
 (none))
 (k0 out)

def zm7 (N : Nat) (a : (List UInt8)) (b : (List UInt8)) (out : (List Int)) (x14 : Int) (x15 : Int) (k0 : (List Int) -> Option (List UInt8)) : Option (List UInt8) :=
 iter (fun (v : ((List Int) × Int)) r => zgb N a b x14 v.1 v.2 (fun out x15 => (r (out, x15))) k0) N (out, x15)

def z1os (N : Nat) (i : ((List UInt8) × (List UInt8) × Int)) (v : ((List Int) × Int)) (r : ((List Int) × Int) -> Option (List UInt8)) (K : Ex -> List A -> Option (List UInt8)) : Option (List UInt8) :=
 zgb N i.1 i.2.1 i.2.2 v.1 v.2 (fun out x15 => (r (out, x15))) (fun a0 => (K (.exit 0) (mkS [(5, .row (.int .u8))] 25 (a0, ()))))

def z1mv (N : Nat) : Hd (List UInt8) := fun st K => (unS SQ94 15 (restr [15, 14, 5, 0, 1] 0 st)).bind fun x => iter (fun v r => z1os N ((fun x => (x.1, x.2.1, x.2.2.2.1)) x) v r K) N ((fun x => (x.2.2.1, x.2.2.2.2.1)) x)

def t1_33 (N : Nat) : Tab (List UInt8) := []

theorem z1ki {N : Nat} {c : Ctx} (hb : Base Tryz.prog (E_33 N) c) : zo Tryz.prog c (zl zwy [0, 1, 0, 1, 1]) (z1mv N) :=
  z1i (s := SQ94) (m := 15) (z1os N) [15, 14, 5, 0, 1] N (fun x => (x.1, x.2.1, x.2.2.2.1)) (fun x => (x.2.2.1, x.2.2.2.2.1)) (fun i v => (i.1, i.2.1, v.1, i.2.2, v.2, ())) (fun _ => rfl) (zi hb N (t1_33 N) L_33 zwy TabOk.nil [0, 0, 1, 0, 1, 1] _ rfl) (fun i v r K => by kernel_rfl)

def zdi (N : Nat) (a : (List UInt8)) (b : (List UInt8)) : Option (List UInt8) :=
 cond (decide (((0 : Int) <= (if ((((List.length b) : Nat) : Int) < (((List.length a) : Nat) : Int)) then (((List.length b) : Nat) : Int) else (((List.length a) : Nat) : Int))) /\ (((if ((((List.length b) : Nat) : Int) < (((List.length a) : Nat) : Int)) then (((List.length b) : Nat) : Int) else (((List.length a) : Nat) : Int)) <= (if ((((List.length b) : Nat) : Int) < (((List.length a) : Nat) : Int)) then (((List.length b) : Nat) : Int) else (((List.length a) : Nat) : Int))) /\ ((((if ((((List.length b) : Nat) : Int) < (((List.length a) : Nat) : Int)) then (((List.length b) : Nat) : Int) else (((List.length a) : Nat) : Int)) * (1 : Int)) <= (281474976710656 : Int)) /\ ((if ((((List.length b) : Nat) : Int) < (((List.length a) : Nat) : Int)) then (((List.length b) : Nat) : Int) else (((List.length a) : Nat) : Int)) <= (9223372036854775807 : Int))))))
 (zm7 N a b (List.replicate (Int.toNat (if ((((List.length b) : Nat) : Int) < (((List.length a) : Nat) : Int)) then (((List.length b) : Nat) : Int) else (((List.length a) : Nat) : Int))) (0 : Int)) (((List.length (List.replicate (Int.toNat (if ((((List.length b) : Nat) : Int) < (((List.length a) : Nat) : Int)) then (((List.length b) : Nat) : Int) else (((List.length a) : Nat) : Int))) (0 : Int))) : Nat) : Int) (0 : Int)
 (fun out => some (z27 out)))
 (none)

def t_33 (N : Nat) : Tab (List UInt8) := [([0, 1, 0, 1, 1], z1mv N)]

theorem z1cz (N : Nat) (x : z1j SQ0) : z2j (E_33 N) N (t_33 N) L_33 Tryz.f96 (mkS SQ0 0 x) (z1h (.v .str) 2) = zdi N x.1 x.2.1 := by kernel_rfl

def zee (N : Nat) : List A -> Res := z12 SQ0 (fun x => zdi N x.1 x.2.1) (z2k (.v .str) 2)

theorem zm8 (N : Nat) : Contract Tryz.prog glob 96 (zee N) :=
  Contract.of (E := E_33 N) (H := t_33 N) (L := L_33) (N := N) (body := zwy) (K := (z1h (.v .str) 2)) (z1ru N) Tryz.func96 (by kernel_rfl) (by decide) (fun _ hb => (TabOk.cons (z1ki hb) TabOk.nil)) (fun x y h => by rw [z1cz]; exact h) (zm (s := (.v .str)) (m := 2))

def z1ex : Code := (Tryz.f95.body).getD .skip

def L_34 : List (List Nat × List Nat) := [([0], [0, 1, 2]), ([0, 1], [7, 0, 1, 2]), ([0, 1, 1], [7, 2]), ([0, 1, 1, 1], [7]), ([0, 1, 1, 1, 1], [6]), ([1, 1, 1, 1, 1], [6])]

def E_34 (N : Nat) : Env := z16 tys glob [(96, zee N), (108, za6 N), (107, z63 N), (106, zil N), (109, zqp)] [] [] [] false [] [(98, z7 N)]

theorem z1rt (N : Nat) : EnvOk Tryz.prog (E_34 N) := zk mixed zp (FnsOk.cons (zm8 N) (FnsOk.cons (zfn N) (FnsOk.cons (z8o N) (FnsOk.cons (zqk N) (FnsOk.cons (z11j glob) (FnsOk.nil)))))) (ItsOk.cons (z8 N) (ItsOk.nil))

def zav (N : Nat) (key : (List UInt8)) (mask : (List UInt8)) (text : (List UInt8)) : Option (List UInt8) :=
 (zn3 (mask, ((64 : Int), ()))).bind fun y =>
 (zdi N key y).bind fun y1 =>
 (z56 N (true, (([(1779033703 : Int), (3144134277 : Int), (1013904242 : Int), (2773480762 : Int), (1359893119 : Int), (2600822924 : Int), (528734635 : Int), (1541459225 : Int)] : List Int), (([] : List UInt8), ((0 : Int), ())))) y1).bind fun y2 =>
 (z56 N y2.2.1 text).bind fun y3 =>
 (z7n N y3.2.1).bind fun y4 =>
 some y4.1

def t_34 (N : Nat) : Tab (List UInt8) := []

theorem z1cy (N : Nat) (x : z1j SQ2) : z2j (E_34 N) N (t_34 N) L_34 Tryz.f95 (mkS SQ2 0 x) (z1h (.v .str) 3) = zav N x.1 x.2.1 x.2.2.1 := by kernel_rfl

def zi5 (N : Nat) : List A -> Res := z12 SQ2 (fun x => zav N x.1 x.2.1 x.2.2.1) (z2k (.v .str) 3)

theorem zs3 (N : Nat) : Contract Tryz.prog glob 95 (zi5 N) :=
  Contract.of (E := E_34 N) (H := t_34 N) (L := L_34) (N := N) (body := z1ex) (K := (z1h (.v .str) 3)) (z1rt N) Tryz.func95 (by kernel_rfl) (by decide) (fun _ hb => TabOk.nil) (fun x y h => by rw [z1cy]; exact h) (zm (s := (.v .str)) (m := 3))

def zwx : Code := (Tryz.f72.body).getD .skip

def L_35 : List (List Nat × List Nat) := [([0], [0, 1]), ([0, 0, 1], [8, 0, 1]), ([1, 0, 1], [0, 1]), ([0, 1, 0, 1], [0, 1]), ([0, 1, 1], [0, 1]), ([0, 1, 1, 1], [0, 5]), ([0, 1, 1, 1, 1], [4]), ([1, 1, 1, 1, 1], [4])]

def E_35 (N : Nat) : Env := z16 tys glob [(95, zi5 N), (93, ze6 N), (94, zef N)] [] [] [] false [] [(98, z7 N)]

theorem z1rs (N : Nat) : EnvOk Tryz.prog (E_35 N) := zk mixed zp (FnsOk.cons (zs3 N) (FnsOk.cons (zl5 N) (FnsOk.cons (zm9 N) (FnsOk.nil)))) (ItsOk.cons (z8 N) (ItsOk.nil))

def zeu (N : Nat) (key : (List UInt8)) (text : (List UInt8)) (k0 : (List UInt8) -> Option (List UInt8)) : Option (List UInt8) :=
 cond (decide ((64 : Int) < (((List.length key) : Nat) : Int)))
 ((zii N key).bind fun y =>
 k0 y)
 (k0 key)

def z1or (N : Nat) (x : z1j SQ0) (K : Ex -> List A -> Option (List UInt8)) : Option (List UInt8) :=
 zeu N x.1 x.2.1 (fun a0 => (K .normal (mkS SQ0 17 (a0, x.2.1, ()))))

def z1mu (N : Nat) : Hd (List UInt8) := fun st K => (unS SQ0 17 (restr [0, 1] 0 st)).bind fun x => z1or N x K

def t1_35 (N : Nat) : Tab (List UInt8) := []

theorem z1kh {N : Nat} {c : Ctx} (hb : Base Tryz.prog (E_35 N) c) : zo Tryz.prog c (zl zwx [0, 1]) (z1mu N) :=
  z14 (s := SQ0) (m := 17) (g := z1or N) [0, 1] (zi hb N (t1_35 N) L_35 zwx TabOk.nil [0, 1] _ rfl) (fun x K => by kernel_rfl)

def zhc (N : Nat) (key : (List UInt8)) (text : (List UInt8)) : Option (List UInt8) :=
 zeu N key text
 (fun z144 => (zdj N z144 (64 : Int)).bind fun y =>
 (zav N y ([(54 : UInt8)] : List UInt8) text).bind fun y1 =>
 (zav N y ([(92 : UInt8)] : List UInt8) y1).bind fun y2 =>
 some y2)

def t_35 (N : Nat) : Tab (List UInt8) := [([0, 1], z1mu N)]

theorem z1cx (N : Nat) (x : z1j SQ0) : z2j (E_35 N) N (t_35 N) L_35 Tryz.f72 (mkS SQ0 0 x) (z1h (.v .str) 2) = zhc N x.1 x.2.1 := by kernel_rfl

def zgm (N : Nat) : List A -> Res := z12 SQ0 (fun x => zhc N x.1 x.2.1) (z2k (.v .str) 2)

theorem zov (N : Nat) : Contract Tryz.prog glob 72 (zgm N) :=
  Contract.of (E := E_35 N) (H := t_35 N) (L := L_35) (N := N) (body := zwx) (K := (z1h (.v .str) 2)) (z1rs N) Tryz.func72 (by kernel_rfl) (by decide) (fun _ hb => (TabOk.cons (z1kh hb) TabOk.nil)) (fun x y h => by rw [z1cx]; exact h) (zm (s := (.v .str)) (m := 2))

def z1ew : Code := (Tryz.f45.body).getD .skip

def L_36 : List (List Nat × List Nat) := [([0], [0, 1]), ([0, 1], [4]), ([1, 1], [4])]

def E_36 (N : Nat) : Env := z16 tys glob [(72, zgm N), (47, zi6 N)] [] [] [] false [] [(98, z7 N)]

theorem z1rr (N : Nat) : EnvOk Tryz.prog (E_36 N) := zk mixed zp (FnsOk.cons (zov N) (FnsOk.cons (zs5 N) (FnsOk.nil))) (ItsOk.cons (z8 N) (ItsOk.nil))

def z2c (N : Nat) (key : (List UInt8)) (parts : (List (List UInt8))) : Option (List UInt8) :=
 (zaw N parts).bind fun y =>
 (zhc N key y).bind fun y1 =>
 some y1

def t_36 (N : Nat) : Tab (List UInt8) := []

theorem z1cw (N : Nat) (x : z1j z1gp) : z2j (E_36 N) N (t_36 N) L_36 Tryz.f45 (mkS z1gp 0 x) (z1h (.v .str) 2) = z2c N x.1 x.2.1 := by kernel_rfl

def z32 (N : Nat) : List A -> Res := z12 z1gp (fun x => z2c N x.1 x.2.1) (z2k (.v .str) 2)

theorem z4j (N : Nat) : Contract Tryz.prog glob 45 (z32 N) :=
  Contract.of (E := E_36 N) (H := t_36 N) (L := L_36) (N := N) (body := z1ew) (K := (z1h (.v .str) 2)) (z1rr N) Tryz.func45 (by kernel_rfl) (by decide) (fun _ hb => TabOk.nil) (fun x y h => by rw [z1cw]; exact h) (zm (s := (.v .str)) (m := 2))

def z1ev : Code := (Tryz.f19.body).getD .skip

def L_37 : List (List Nat × List Nat) := [([0], [0, 1]), ([0, 1], [4]), ([1, 1], [4])]

def E_37 (N : Nat) : Env := z16 tys glob [(45, z32 N)] [] [] [] false [] [(98, z7 N)]

theorem z1rq (N : Nat) : EnvOk Tryz.prog (E_37 N) := zk mixed zp (FnsOk.cons (z4j N) (FnsOk.nil)) (ItsOk.cons (z8 N) (ItsOk.nil))

def zay (N : Nat) (key : (List UInt8)) (id_ : (List UInt8)) : Option (List UInt8) :=
 (z2c N key ([([(114 : UInt8), (111 : UInt8), (111 : UInt8), (116 : UInt8)] : List UInt8), id_] : List (List UInt8))).bind fun y =>
 some y

def t_37 (N : Nat) : Tab (List UInt8) := []

theorem z1cv (N : Nat) (x : z1j SQ0) : z2j (E_37 N) N (t_37 N) L_37 Tryz.f19 (mkS SQ0 0 x) (z1h (.v .str) 2) = zay N x.1 x.2.1 := by kernel_rfl

def zd0 (N : Nat) : List A -> Res := z12 SQ0 (fun x => zay N x.1 x.2.1) (z2k (.v .str) 2)

theorem zkn (N : Nat) : Contract Tryz.prog glob 19 (zd0 N) :=
  Contract.of (E := E_37 N) (H := t_37 N) (L := L_37) (N := N) (body := z1ev) (K := (z1h (.v .str) 2)) (z1rq N) Tryz.func19 (by kernel_rfl) (by decide) (fun _ hb => TabOk.nil) (fun x y h => by rw [z1cv]; exact h) (zm (s := (.v .str)) (m := 2))

def z1eu : Code := (Tryz.f49.body).getD .skip

def L_38 : List (List Nat × List Nat) := [([0], [1]), ([0, 1], [2]), ([1, 1], [2])]

def E_38 (N : Nat) : Env := z16 tys glob [] [] [] [] false [] [(98, z7 N)]

theorem z1rp (N : Nat) : EnvOk Tryz.prog (E_38 N) := zk mixed zp (FnsOk.nil) (ItsOk.cons (z8 N) (ItsOk.nil))

def zak (N : Nat) (a : (DT8 × (DT1 × Unit))) : Option Bool :=
 some (decide ((64 : Int) <= (((List.length a.2.1.2.1) : Nat) : Int)))

def t_38 (N : Nat) : Tab Bool := []

theorem z1cu (N : Nat) (x : z1j z1gr) : z2j (E_38 N) N (t_38 N) L_38 Tryz.f49 (mkS z1gr 0 x) (z1h (.v .bool) 1) = zak N x.1 := by kernel_rfl

def z7t (N : Nat) : List A -> Res := z12 z1gr (fun x => zak N x.1) (z2k (.v .bool) 1)

theorem zes (N : Nat) : Contract Tryz.prog glob 49 (z7t N) :=
  Contract.of (E := E_38 N) (H := t_38 N) (L := L_38) (N := N) (body := z1eu) (K := (z1h (.v .bool) 1)) (z1rp N) Tryz.func49 (by kernel_rfl) (by decide) (fun _ hb => TabOk.nil) (fun x y h => by rw [z1cu]; exact h) (zm (s := (.v .bool)) (m := 1))

def Calm (w : World) (S : Hp) (w' : World) : Prop := ∃ S', WF w (fun _ => False) w' /\ Lift.Sub S S' /\ Lift.Sub S' (hp w') /\ ∀ k, S' k ≠ none -> S k ≠ none \/ w.heap.size <= k

theorem Calm.refl {w : World} {S : Hp} (h : Lift.Sub S (hp w)) : Calm w S w := ⟨S, WF.refl _ _, Lift.Sub.refl S, h, fun _ h => .inl h⟩

theorem z108 {w : World} {S : Hp} (l : List (A × Value)) (hl : ∀ p ∈ l, ARel (hp w) S (fun _ => undef) p.1 p.2 [] /\ p.1.refs = []) :
    ArgsRel (hp w) S (l.map (·.1)) (l.map (·.2)) (fun _ => []) := by
  refine ⟨by simp, fun i y hy => ?_, fun _ _ => rfl, (fun i j b hb => by cases hb), fun _ => .nil, (fun i b hb => by cases hb)⟩
  simp only [List.getElem?_map] at hy ⊢
  cases hp : l[i]? with
  | none => rw [hp] at hy; cases hy
  | some p =>
    rw [hp] at hy
    cases hy
    have := hl p (List.mem_of_getElem? hp)
    exact ⟨⟨p.2, rfl, this.1⟩, this.2⟩

abbrev LinkT : T := .pair .str (.pair .str .unit)

def z1p7 : Go.Shelf.Ren := ⟨fun | 41 => 82 | n => n, fun | 4 => 4 | 22 => 22 | 23 => 67 | n => n, fun n => n⟩

theorem z1dr : Go.Proofs.SlLaysE0.n41 Tryz.prog z1p7 where
  mixed := by kernel_rfl
  f41 := ⟨"slices.Clone[[]porter/api.Link,porter/api.Link]", by decide, Tryz.func82.trans (congrArg some (by kernel_rfl))⟩
  t4 := Tryz.underlying4
  a4 := Tryz.isAgg4
  z4 := Tryz.sizeOf4
  v4 := Tryz.zeroValue4
  t22 := Tryz.underlying22
  a22 := Tryz.isAgg22
  z22 := Tryz.sizeOf22
  v22 := Tryz.zeroValue22

def zds (N : Nat) (l : List LinkT.den) : Option (List LinkT.den) := cond (decide (l.length * 32 <= 140737488355328)) (some l) none

def zqc (N : Nat) : List A -> Res := z12 [(0, .v (.sl LinkT))] (fun x => zds N x.1) (z2k (.row LinkT) 1)

theorem zsc (N : Nat) : Contract Tryz.prog glob 82 (zqc N) :=
  z16c z1dr (ee := ty67) z10t (by decide) (by decide) glob

abbrev TokT : T := .pair .str (.pair (.sl LinkT) (.pair .str .unit))

abbrev TokO : T := .pair .str (.pair (.own LinkT) (.pair .str .unit))

def zgj (N : Nat) (t : TokT.den) : Option TokO.den := (zds N t.2.1).bind fun l => some (t.1, (l, (t.2.2.1, ())))

def zfl (N : Nat) : List A -> Res := z12 [(0, .v TokT)] (fun x => zgj N x.1) (z2k (.ov TokO) 1)

theorem z19t {S : Hp} {i t : List UInt8} {l : List LinkT.den} {v : Value} (h : VR S TokT (i, (l, (t, ()))) v) : ∃ sv, v = .agg #[.string ⟨⟨i⟩⟩, sv, .string ⟨⟨t⟩⟩] /\ VR S (.sl LinkT) l sv := by
  have h' : ∃ cs, v = .agg cs /\ Rd S TokT (i, (l, (t, ()))) cs.toList := h
  obtain ⟨cs, rfl, c1, c2, hc, k1, c3, c4, hc', k2, c5, c6, hc'', k3, k4⟩ := h'
  have e1 : c1 = [.string ⟨⟨i⟩⟩] := k1
  have e3 : c5 = [.string ⟨⟨t⟩⟩] := k3
  have e5 : c6 = [] := k4
  obtain ⟨a, cap, e2, hcap, hk⟩ := k2
  refine ⟨.slice a l.length cap, ?_, VR.of_one rfl ⟨a, cap, rfl, hcap, hk⟩⟩
  congr 1
  apply Array.toList_inj.1
  rw [hc, hc', hc'', e1, e2, e3, e5]
  rfl

theorem z102 (N : Nat) {w : World} {S : Hp} (hS : Lift.Sub S (hp w)) (hg : GlobOk glob S) {l l' : List LinkT.den} {sv : Value} (hv : VR S (.sl LinkT) l sv) (hy : zds N l = some l') :
    Calls Tryz.prog 82 #[sv] w fun r w' => ∃ v o S', r = .returned v /\ RowRel (hp w') S' LinkT l' v o /\ (∀ b ∈ o, S' b = none /\ w.heap.size <= b) /\ o.Nodup ∧
      WF w (fun _ => False) w' /\ Lift.Sub S S' /\ Lift.Sub S' (hp w') /\ ∀ k, S' k ≠ none -> S k ≠ none \/ w.heap.size <= k := by
  refine ((zsc N).2 w S _ _ _ (z108 [(.v (.sl LinkT) l, sv)] (fun p hp => by rw [List.mem_singleton.1 hp]; exact ⟨⟨hv, rfl⟩, rfl⟩)) hS hg _ hy).mono ?_
  rintro e w' ⟨v, S', o, ob', rfl, hwf, k1, k2, k3, ⟨hr, _⟩, ho, hnd, _⟩
  refine ⟨v, o, S', rfl, hr, fun b hb => ?_, hnd, ⟨hwf.size, fun k hk _ => hwf.same k hk (by rintro ⟨i, hi⟩; cases hi), hwf.tape, hwf.os, hwf.output⟩, k1, k2, fun k hk => ?_⟩
  . obtain ⟨o1, o2⟩ := ho b hb
    refine ⟨o1, ?_⟩
    rcases o2 with ⟨i, hi⟩ | h
    . cases hi
    . exact h
  . rcases k3 k hk with h | ⟨i, hi⟩ | h
    . exact .inl h
    . cases hi
    . exact .inr h

theorem z16w {S : Hp} {t : T} {l : List t.den} {v : Value} (h : VR S (.sl t) l v) : ∃ a n c, v = .slice a n c := by
  have h' : Rd S (.sl t) l [v] := h
  obtain ⟨a, c, e, _⟩ := h'
  exact ⟨a, _, c, by cases e; rfl⟩

theorem z1ir {h S : Hp} {t : T} {l : List t.den} {v : Value} {o : List Nat} (hr : RowRel h S t l v o) : ∃ a n c, v = .slice a n c := by
  rcases hr with ⟨_, ⟨ad, e, _⟩, _⟩ | ⟨b, cap, cs, E, fr, _, e, _⟩
  . exact ⟨ad, 0, 0, e⟩
  . exact ⟨_, _, _, e⟩

theorem z1l8 {w w3 : World} (h : WF w (fun _ => False) w3) {b : Nat} {o : Obj} (hb : w.heap[b]? = some o) : w3.heap[b]? = some o := by
  rw [h.same b (Array.getElem?_eq_some_iff.1 hb).1 (fun h => h)]; exact hb

theorem z104 {w : World} {b i E : Nat} {cs : Array Value} {v : Value} (hb : w.heap[b]? = some (.cells cs E (0, 0))) (hi : cs[i]? = some v) : w.cell? ⟨b, i, none⟩ = some v := by
  simp [World.cell?, hb, hi]

theorem zzx {w : World} {b i E : Nat} {cs : Array Value} (hb : w.heap[b]? = some (.cells cs E (0, 0))) : w.frozen? ⟨b, i, none⟩ = false := by
  simp [World.frozen?, hb]

theorem z116 {w : World} {b i k : Nat} {v : Value} (hk : k ≠ b) : (w.setCell ⟨b, i, none⟩ v).heap[k]? = w.heap[k]? := by
  have : b ≠ k := fun h => hk h.symm
  simp [World.setCell, Array.getElem?_modify, this]

theorem zn1 {w : World} {b i : Nat} {v : Value} : (w.setCell ⟨b, i, none⟩ v).heap.size = w.heap.size /\ (w.setCell ⟨b, i, none⟩ v).tape = w.tape /\ (w.setCell ⟨b, i, none⟩ v).os = w.os /\ (w.setCell ⟨b, i, none⟩ v).output = w.output := by
  simp [World.setCell]

structure But (B : Nat -> Prop) (w w' : World) : Prop where
  same : ∀ k, ¬ B k -> w'.heap[k]? = w.heap[k]?
  size : w'.heap.size = w.heap.size
  tape : w'.tape = w.tape
  os : w'.os = w.os
  output : w'.output = w.output

theorem But.refl (B : Nat -> Prop) (w : World) : But B w w := ⟨fun _ _ => rfl, rfl, rfl, rfl, rfl⟩

theorem But.set {B : Nat -> Prop} {w w' : World} (h : But B w w') {b i : Nat} {v : Value} (hb : B b) : But B w (w'.setCell ⟨b, i, none⟩ v) :=
  ⟨fun k hk => by rw [z116 (fun e => hk (by rw [e]; exact hb)), h.same k hk], zn1.1.trans h.size, zn1.2.1.trans h.tape, zn1.2.2.1.trans h.os, zn1.2.2.2.trans h.output⟩

theorem zuu {w : World} {c1 c2 : Array Value} {E1 E2 : Nat} : ((w.alloc (.cells c1 E1)).alloc (.cells c2 E2)).heap[w.heap.size]? = some (.cells c1 E1 (0, 0)) /\ ((w.alloc (.cells c1 E1)).alloc (.cells c2 E2)).heap[w.heap.size + 1]? = some (.cells c2 E2 (0, 0)) ∧
    ((w.alloc (.cells c1 E1)).alloc (.cells c2 E2)).heap.size = w.heap.size + 2 /\ ∀ k, k < w.heap.size -> ((w.alloc (.cells c1 E1)).alloc (.cells c2 E2)).heap[k]? = w.heap[k]? := by
  have hh : ((w.alloc (.cells c1 E1)).alloc (.cells c2 E2)).heap = (w.heap.push (.cells c1 E1 (0, 0))).push (.cells c2 E2 (0, 0)) := rfl
  refine ⟨?_, ?_, ?_, fun k hk => ?_⟩
  . rw [hh, Array.getElem?_push, Array.size_push, if_neg (by omega), Array.getElem?_push, if_pos rfl]
  . rw [hh, Array.getElem?_push, Array.size_push, if_pos rfl]
  . rw [hh, Array.size_push, Array.size_push]
  . rw [hh, Array.getElem?_push, Array.size_push, if_neg (by omega), Array.getElem?_push, if_neg (by omega)]

theorem zrj {w : World} {S : Hp} (hS : Lift.Sub S (hp w)) (c1 c2 : Array Value) (E1 E2 : Nat) : Lift.Sub S (hp ((w.alloc (.cells c1 E1)).alloc (.cells c2 E2))) := fun b o ho => by
  have := hS b o ho
  simp only [hp] at this ⊢
  rw [zuu.2.2.2 b (Array.getElem?_eq_some_iff.1 this).1]
  exact this

theorem z101 (N : Nat) {w : World} {S : Hp} (hS : Lift.Sub S (hp w)) (hg : GlobOk glob S) {i t : List UInt8} {l l' : List LinkT.den} {sv : Value} (hv : VR S (.sl LinkT) l sv) (hy : zds N l = some l') :
    Calls Tryz.prog 52 #[.agg #[.string ⟨⟨i⟩⟩, sv, .string ⟨⟨t⟩⟩]] w fun r w' => ∃ v o S', r = .returned (.agg #[.string ⟨⟨i⟩⟩, v, .string ⟨⟨t⟩⟩]) /\ RowRel (hp w') S' LinkT l' v o /\ (∀ b ∈ o, S' b = none /\ w.heap.size <= b) /\ o.Nodup ∧
      WF w (fun _ => False) w' /\ Lift.Sub S S' /\ Lift.Sub S' (hp w') /\ ∀ k, S' k ≠ none -> S k ≠ none \/ w.heap.size <= k := by
  obtain ⟨a, n, c, rfl⟩ := z16w hv
  have HC := z102 N (zrj hS #[.string ⟨⟨i⟩⟩, .slice a n c, .string ⟨⟨t⟩⟩] #[.string ⟨#[]⟩, .slice none 0 0, .string ⟨#[]⟩] 24 24) hg hv hy
  obtain ⟨q0, q1, q2, q3⟩ := zuu (w := w) (c1 := #[.string ⟨⟨i⟩⟩, .slice a n c, .string ⟨⟨t⟩⟩]) (c2 := #[.string ⟨#[]⟩, .slice none 0 0, .string ⟨#[]⟩]) (E1 := 24) (E2 := 24)
  have hSw := Go.Lib.hid hS
  have Q3 := Go.Lib.hid (And.intro q2 q3)
  clear q2 q3 hS
  go_enter Tryz.func52, Tryz.ntmps52
  go_wp2_with (go_at_call 82; refine HC.mono ?_; rintro r w3 ⟨v, o, S', rfl, hrow, ho, hnd, hwf, k1, k2, k3⟩; obtain ⟨a', n', c', rfl⟩ := z1ir hrow; have p0 := z1l8 hwf q0; have p1 := z1l8 hwf q1; have c00 := z104 (i := 0) p0 rfl; have c01 := z104 (i := 1) p0 rfl; have c02 := z104 (i := 2) p0 rfl; have c10 := z104 (i := 0) p1 rfl; have c11 := z104 (i := 1) p1 rfl; have c12 := z104 (i := 2) p1 rfl; have f00 := zzx (i := 0) p0; have f01 := zzx (i := 1) p0; have f02 := zzx (i := 2) p0; have f10 := zzx (i := 0) p1; have f11 := zzx (i := 1) p1; have f12 := zzx (i := 2) p1; have HM := Go.Lib.hid (And.intro hrow (And.intro ho (And.intro hnd (And.intro hwf (And.intro k1 (And.intro k2 (And.intro k3 (And.intro q0 q1)))))))); clear HC hrow ho hnd hwf k1 k2 k3 p0 p1 q0 q1)
  obtain ⟨hrow, ho, hnd, hwf, k1, k2, k3, q0, q1⟩ := HM.out
  obtain ⟨q2, q3⟩ := Q3.out
  have hB : But (fun k => k = w.heap.size \/ k = w.heap.size + 1) w3 ((((w3.setCell ⟨w.heap.size, 1, none⟩ (Value.slice a' n' c')).setCell ⟨w.heap.size + 1, 0, none⟩ (.string ⟨⟨i⟩⟩)).setCell ⟨w.heap.size + 1, 1, none⟩ (Value.slice a' n' c')).setCell ⟨w.heap.size + 1, 2, none⟩ (.string ⟨⟨t⟩⟩)) :=
    ((((But.refl _ w3).set (.inl rfl)).set (.inr rfl)).set (.inr rfl)).set (.inr rfl)
  have hno : ∀ k, S' k ≠ none -> ¬ (k = w.heap.size \/ k = w.heap.size + 1) := fun k hk hk' => by
    rcases k3 k hk with h | h
    . cases hs : S k with
      | none => exact h hs
      | some x =>
        have := hSw.out k x hs
        simp only [hp] at this
        have := (Array.getElem?_eq_some_iff.1 this).1
        omega
    . omega
  refine ⟨rfl, _, ?_, .slice a' n' c', o, S', rfl, RowRel.mono (Lift.Sub.refl S') (fun b hb => ?_) hrow, fun b hb => ⟨(ho b hb).1, by have := (ho b hb).2; omega⟩, hnd,
    ⟨by rw [hB.size]; have := hwf.size; omega, fun k hk _ => ?_, hB.tape.trans hwf.tape, hB.os.trans hwf.os, hB.output.trans hwf.output⟩, k1, fun k x hx => ?_, fun k hk => ?_⟩
  . simp [results, Tryz.results52, go_sem, c10, c11, c12, f10, f11, f12]
  . have := (ho b hb).2
    exact hB.same b (by omega)
  . rw [hB.same k (by omega), hwf.same k (by omega) (fun h => h), q3 k hk]
  . have := k2 k x hx
    simp only [hp] at this ⊢
    rw [hB.same k (hno k (by rw [hx]; simp))]
    exact this
  . rcases k3 k hk with h | h
    . exact .inl h
    . exact .inr (by omega)

theorem zoq (N : Nat) : Contract Tryz.prog glob 52 (zfl N) := by
  refine Contract.hand ⟨_, Tryz.func52, by kernel_rfl, by decide⟩ ?_
  intro w S vals ob x y har hS hg hy
  obtain ⟨⟨i, l, t, u⟩, u'⟩ := x
  cases u
  cases u'
  obtain ⟨⟨v0, hv0, hA0, ho0⟩, _⟩ := har.rel 0 _ rfl
  have hvals : vals = [v0] := by
    match vals, har.len with
    | [a], _ => cases hv0; rfl
  obtain ⟨sv, e0, hsv⟩ := z19t hA0
  subst e0
  subst hvals
  unfold zgj at hy
  dsimp only at hy
  cases hc : zds N l with
  | none => rw [hc] at hy; cases hy
  | some l' =>
  rw [hc] at hy
  cases hy
  refine (z101 N hS hg hsv hc).mono ?_
  rintro r w' ⟨v, o, S', rfl, hrow, ho, hnd, hwf, k1, k2, k3⟩
  have hob : ∀ i, ob i = [] := fun i => by
    match i with
    | 0 => exact ho0
    | i + 1 => exact har.out _ (by simp [mkS, z3d])
  refine ⟨_, S', o, ob, rfl, ⟨hwf.size, fun k hk _ => hwf.same k hk (fun h => h), hwf.tape, hwf.os, hwf.output⟩, k1, k2, fun k hk => ?_, ⟨⟨rfl, ?_⟩, rfl⟩, fun b hb => ⟨(ho b hb).1, .inr (ho b hb).2⟩, hnd, ?_, ?_, ?_, ?_, fun _ h => h⟩
  . rcases k3 k hk with h | h
    . exact .inl h
    . exact .inr (.inr h)
  . exact ⟨_, rfl, [.string ⟨⟨i⟩⟩], [v, .string ⟨⟨t⟩⟩], [], o, rfl, rfl, ⟨rfl, rfl⟩, [v], [.string ⟨⟨t⟩⟩], o, [], rfl, by simp, ⟨v, rfl, hrow⟩, [.string ⟨⟨t⟩⟩], [], [], [], rfl, rfl, ⟨rfl, rfl⟩, rfl, rfl⟩
  . intro i y hy hbx
    have : zaj y = false := by
      match i with
      | 0 => cases hy; rfl
      | i + 1 => simp [mkS, z3d] at hy
    rw [hbx] at this
    cases this
  . intro i k hk
    rw [hob i] at hk
    cases hk
  . intro i j k hi
    rw [hob i] at hi
    cases hi
  . intro i
    rw [hob i]
    exact .nil

def z1et : Code := (Tryz.f41.body).getD .skip

def L_39 : List (List Nat × List Nat) := [([0], [3, 0]), ([0, 0, 1], [7, 0, 3]), ([1, 0, 1], [0, 3]), ([0, 0, 1, 0, 1], [4]), ([1, 0, 1, 0, 1], [4]), ([0, 1, 1], [4]), ([1, 1, 1], [4])]

def E_39 (N : Nat) : Env := z16 tys glob [(45, z32 N)] [] [] [] false [] [(98, z7 N)]

theorem z1ro (N : Nat) : EnvOk Tryz.prog (E_39 N) := zk mixed zp (FnsOk.cons (z4j N) (FnsOk.nil)) (ItsOk.cons (z8 N) (ItsOk.nil))

def z4v (N : Nat) (t : (List UInt8)) (l : DT8) : Option (List UInt8) :=
 cond (l.2.1 == ([] : List UInt8))
 ((z2c N t ([([(102 : UInt8), (105 : UInt8), (114 : UInt8), (115 : UInt8), (116 : UInt8)] : List UInt8), l.1] : List (List UInt8))).bind fun y =>
 some y)
 ((z2c N t ([([(116 : UInt8), (104 : UInt8), (105 : UInt8), (114 : UInt8), (100 : UInt8)] : List UInt8), l.2.1, l.1] : List (List UInt8))).bind fun y1 =>
 some y1)

def t_39 (N : Nat) : Tab (List UInt8) := []

theorem z1ct (N : Nat) (x : z1j z10g) : z2j (E_39 N) N (t_39 N) L_39 Tryz.f41 (mkS z10g 0 x) (z1h (.v .str) 2) = z4v N x.1 x.2.1 := by kernel_rfl

def z3k (N : Nat) : List A -> Res := z12 z10g (fun x => z4v N x.1 x.2.1) (z2k (.v .str) 2)

theorem z5t (N : Nat) : Contract Tryz.prog glob 41 (z3k N) :=
  Contract.of (E := E_39 N) (H := t_39 N) (L := L_39) (N := N) (body := z1et) (K := (z1h (.v .str) 2)) (z1ro N) Tryz.func41 (by kernel_rfl) (by decide) (fun _ hb => TabOk.nil) (fun x y h => by rw [z1ct]; exact h) (zm (s := (.v .str)) (m := 2))

def z1es : Code := (Tryz.f81.body).getD .skip

def L_40 : List (List Nat × List Nat) := [([0], [0, 3]), ([0, 1], [4]), ([1, 1], [4])]

def E_40 (N : Nat) : Env := z16 tys glob [(41, z3k N)] [] [] [] false [] [(98, z7 N)]

theorem z1rn (N : Nat) : EnvOk Tryz.prog (E_40 N) := zk mixed zp (FnsOk.cons (z5t N) (FnsOk.nil)) (ItsOk.cons (z8 N) (ItsOk.nil))

def zlw (N : Nat) (before : (List UInt8)) (l : DT8) : Option (List UInt8) :=
 (z4v N before l).bind fun y =>
 some y

def t_40 (N : Nat) : Tab (List UInt8) := []

theorem z1cs (N : Nat) (x : z1j z10g) : z2j (E_40 N) N (t_40 N) L_40 Tryz.f81 (mkS z10g 0 x) (z1h (.v .str) 2) = zlw N x.1 x.2.1 := by kernel_rfl

def zia (N : Nat) : List A -> Res := z12 z10g (fun x => zlw N x.1 x.2.1) (z2k (.v .str) 2)

theorem zsg (N : Nat) : Contract Tryz.prog glob 81 (zia N) :=
  Contract.of (E := E_40 N) (H := t_40 N) (L := L_40) (N := N) (body := z1es) (K := (z1h (.v .str) 2)) (z1rn N) Tryz.func81 (by kernel_rfl) (by decide) (fun _ hb => TabOk.nil) (fun x y h => by rw [z1cs]; exact h) (zm (s := (.v .str)) (m := 2))

def z1er : Code := (Tryz.f51.body).getD .skip

def L_41 : List (List Nat × List Nat) := [([0], [1, 2]), ([0, 1], [3, 1, 2]), ([0, 1, 1], [3, 1, 2]), ([0, 1, 1, 1], [3, 2]), ([0, 1, 1, 1, 1], [2]), ([1, 1, 1, 1, 1], [2])]

def E_41 (N : Nat) : Env := z16 tys glob [(81, zia N), (52, zfl N)] [] [] [] false [(3, (.pair .str (.pair (.own zje) (.pair .str .unit))))] [(98, z7 N)]

theorem z1rm (N : Nat) : EnvOk Tryz.prog (E_41 N) := zk mixed zp (FnsOk.cons (zsg N) (FnsOk.cons (zoq N) (FnsOk.nil))) (ItsOk.cons (z8 N) (ItsOk.nil))

def z5c (N : Nat) (a : (DT8 × (DT1 × Unit))) : Option DT1 :=
 (zgj N a.2.1).bind fun y =>
 cond (decide ((((List.length y.2.1) + 1) * 32) <= 70368744177664))
 ((zlw N y.2.2.1 a.1).bind fun y1 =>
 some (y.1, ((y.2.1 ++ ([a.1] : List DT8)), (y1, y.2.2.2))))
 (none)

def t_41 (N : Nat) : Tab DT1 := []

theorem z1cr (N : Nat) (x : z1j z1gr) : z2j (E_41 N) N (t_41 N) L_41 Tryz.f51 (mkS z1gr 0 x) (z1h (.v TT0) 1) = z5c N x.1 := by kernel_rfl

def z6r (N : Nat) : List A -> Res := z12 z1gr (fun x => z5c N x.1) (z2k (.v TT0) 1)

theorem zdn (N : Nat) : Contract Tryz.prog glob 51 (z6r N) :=
  Contract.of (E := E_41 N) (H := t_41 N) (L := L_41) (N := N) (body := z1er) (K := (z1h (.v TT0) 1)) (z1rm N) Tryz.func51 (by kernel_rfl) (by decide) (fun _ hb => TabOk.nil) (fun x y h => by rw [z1cr]; exact h) (zm (s := (.v TT0)) (m := 1))

def zpe : Code := (Tryz.f23.body).getD .skip

def L_42 : List (List Nat × List Nat) := [([0], [2, 1, 4]), ([0, 1], [6, 1, 4]), ([0, 0, 1, 1], [15, 4, 1, 6]), ([1, 0, 1, 1], [1, 6, 4]), ([0, 0, 1, 0, 1, 1], [4, 5]), ([1, 0, 1, 0, 1, 1], [4, 5]), ([0, 1, 1, 1], [6, 4]), ([0, 1, 1, 1, 1], [4, 5]), ([1, 1, 1, 1, 1], [4, 5])]

def z1sf (N : Nat) : Env := z16 tys glob [(51, z6r N), (49, z7t N)] [] [] [] false [] [(98, z7 N)]

theorem z1rl (N : Nat) : EnvOk Tryz.prog (z1sf N) := zk mixed zp (FnsOk.cons (zdn N) (FnsOk.cons (zes N) (FnsOk.nil))) (ItsOk.cons (z8 N) (ItsOk.nil))

def zkd (N : Nat) (text : (List UInt8)) (x4 : DT1) (a : (DT8 × (DT1 × Unit))) (k0 : Bool -> Option (DT1 × Int × Unit)) : Option (DT1 × Int × Unit) :=
 cond (decide ((64 : Int) <= (((List.length a.2.1.2.1) : Nat) : Int)))
 (k0 true)
 (k0 (decide ((2048 : Int) < (((List.length text) : Nat) : Int))))

def z1nv (N : Nat) (x : z1j z1f5) (K : Ex -> List A -> Option (DT1 × Int × Unit)) : Option (DT1 × Int × Unit) :=
 zkd N x.1 x.2.1 x.2.2.1 (fun a3 => (K .normal (mkS [(1, .v .str), (2, .box TT0), (1, .box (.pair zje (.pair TT0 .unit))), (8, .v .bool)] 6 (x.1, x.2.1, x.2.2.1, a3, ()))))

def z1ly (N : Nat) : Hd (DT1 × Int × Unit) := fun st K => (unS z1f5 15 (restr [6, 1, 4] 0 st)).bind fun x => z1nv N x K

def t2_42 (N : Nat) : Tab (DT1 × Int × Unit) := []

theorem z1jl {N : Nat} {c : Ctx} (hb : Base Tryz.prog (z1sf N) c) : zo Tryz.prog c (zl zpe [0, 0, 1, 1]) (z1ly N) :=
  z14 (s := z1f5) (m := 15) (g := z1nv N) [6, 1, 4] (zi hb N (t2_42 N) L_42 zpe TabOk.nil [0, 0, 1, 1] _ rfl) (fun x K => by kernel_rfl)

def zke (N : Nat) (text : (List UInt8)) (x4 : DT1) (a : (DT8 × (DT1 × Unit))) (k0 : DT1 -> Int -> Option (DT1 × Int × Unit)) (k1 : Option (DT1 × Int × Unit)) : Option (DT1 × Int × Unit) :=
 zkd N text x4 a
 (fun x15 => cond x15
 (k0 (([] : List UInt8), (([] : List DT8), (([] : List UInt8), ()))) (3 : Int))
 (k1))

def z1oq (N : Nat) (x : z1j z1f5) (K : Ex -> List A -> Option (DT1 × Int × Unit)) : Option (DT1 × Int × Unit) :=
 zke N x.1 x.2.1 x.2.2.1 (fun a0 a1 => (K .ret (mkS [(4, .box TT0), (0, .v (.int .i64))] 16 (a0, a1, ())))) (K .normal (mkS z1f5 15 (x.1, x.2.1, x.2.2.1, ())))

def z1mt (N : Nat) : Hd (DT1 × Int × Unit) := fun st K => (unS z1f5 15 (restr [6, 1, 4] 0 st)).bind fun x => z1oq N x K

def t1_42 (N : Nat) : Tab (DT1 × Int × Unit) := [([0, 0, 1, 1], z1ly N)]

theorem z1kg {N : Nat} {c : Ctx} (hb : Base Tryz.prog (z1sf N) c) : zo Tryz.prog c (zl zpe [0, 1, 1]) (z1mt N) :=
  z14 (s := z1f5) (m := 15) (g := z1oq N) [6, 1, 4] (zi hb N (t1_42 N) L_42 zpe (TabOk.cons (z1jl hb) TabOk.nil) [0, 1, 1] _ rfl) (fun x K => by kernel_rfl)

def zlp (N : Nat) (t : DT1) (text : (List UInt8)) : Option (DT1 × Int × Unit) :=
 zke N text (([] : List UInt8), (([] : List DT8), (([] : List UInt8), ()))) ((([] : List UInt8), (([] : List UInt8), ())), (t, ()))
 (fun x4 x5 => some (x4, (x5, ())))
 ((z5c N ((text, (([] : List UInt8), ())), (t, ()))).bind fun y =>
 some (y, ((0 : Int), ())))

def t_42 (N : Nat) : Tab (DT1 × Int × Unit) := [([0, 1, 1], z1mt N)]

theorem z1cq (N : Nat) (x : z1j [(0, .v TT0), (0, .v .str)]) : z2j (z1sf N) N (t_42 N) L_42 Tryz.f23 (mkS [(0, .v TT0), (0, .v .str)] 0 x) (z1h (.tup [TT0, (.int .i64)]) 2) = zlp N x.1 x.2.1 := by kernel_rfl

def zi1 (N : Nat) : List A -> Res := z12 [(0, .v TT0), (0, .v .str)] (fun x => zlp N x.1 x.2.1) (z2k (.tup [TT0, (.int .i64)]) 2)

theorem zs2 (N : Nat) : Contract Tryz.prog glob 23 (zi1 N) :=
  Contract.of (E := z1sf N) (H := t_42 N) (L := L_42) (N := N) (body := zpe) (K := (z1h (.tup [TT0, (.int .i64)]) 2)) (z1rl N) Tryz.func23 (by kernel_rfl) (by decide) (fun _ hb => (TabOk.cons (z1kg hb) TabOk.nil)) (fun x y h => by rw [z1cq]; exact h) (zm (s := (.tup [TT0, (.int .i64)])) (m := 2))

def z1eq : Code := (Tryz.f38.body).getD .skip

def L_43 : List (List Nat × List Nat) := [([0], [1]), ([0, 1], [2]), ([1, 1], [2])]

def E_43 (N : Nat) : Env := z16 tys glob [] [(2, TT0)] [] [] false [] [(98, z7 N)]

theorem z1rk (N : Nat) : EnvOk Tryz.prog (E_43 N) := zk mixed zp (FnsOk.nil) (ItsOk.cons (z8 N) (ItsOk.nil))

def z5g (N : Nat) (b : zxa) : Option (List DT1) :=
 cond (decide (((1 + (List.length b.2.1)) * 56) <= 70368744177664))
 (some (([b.1] : List DT1) ++ b.2.1))
 (none)

def t_43 (N : Nat) : Tab (List DT1) := []

theorem z1cp (N : Nat) (x : z1j [(0, .v TT7)]) : z2j (E_43 N) N (t_43 N) L_43 Tryz.f38 (mkS [(0, .v TT7)] 0 x) (z1h (.v (.sl TT0)) 1) = z5g N x.1 := by kernel_rfl

def z8r (N : Nat) : List A -> Res := z12 [(0, .v TT7)] (fun x => z5g N x.1) (z2k (.v (.sl TT0)) 1)

theorem zf8 (N : Nat) : Contract Tryz.prog glob 38 (z8r N) :=
  Contract.of (E := E_43 N) (H := t_43 N) (L := L_43) (N := N) (body := z1eq) (K := (z1h (.v (.sl TT0)) 1)) (z1rk N) Tryz.func38 (by kernel_rfl) (by decide) (fun _ hb => TabOk.nil) (fun x y h => by rw [z1cp]; exact h) (zm (s := (.v (.sl TT0))) (m := 1))

def z1ep : Code := (Tryz.f55.body).getD .skip

def L_44 : List (List Nat × List Nat) := [([0], [1]), ([0, 1], [2]), ([1, 1], [2])]

def E_44 (N : Nat) : Env := z16 tys glob [] [] [] [] false [] [(98, z7 N)]

theorem z1rj (N : Nat) : EnvOk Tryz.prog (E_44 N) := zk mixed zp (FnsOk.nil) (ItsOk.cons (z8 N) (ItsOk.nil))

def zfp (N : Nat) (t : DT1) : Option Bool :=
 some (decide ((64 : Int) < (((List.length t.2.1) : Nat) : Int)))

def t_44 (N : Nat) : Tab Bool := []

theorem z1co (N : Nat) (x : z1j [(0, .v TT0)]) : z2j (E_44 N) N (t_44 N) L_44 Tryz.f55 (mkS [(0, .v TT0)] 0 x) (z1h (.v .bool) 1) = zfp N x.1 := by kernel_rfl

def z4b (N : Nat) : List A -> Res := z12 [(0, .v TT0)] (fun x => zfp N x.1) (z2k (.v .bool) 1)

theorem z7v (N : Nat) : Contract Tryz.prog glob 55 (z4b N) :=
  Contract.of (E := E_44 N) (H := t_44 N) (L := L_44) (N := N) (body := z1ep) (K := (z1h (.v .bool) 1)) (z1rj N) Tryz.func55 (by kernel_rfl) (by decide) (fun _ hb => TabOk.nil) (fun x y h => by rw [z1co]; exact h) (zm (s := (.v .bool)) (m := 1))

def zww : Code := (Tryz.f83.body).getD .skip

def L_45 : List (List Nat × List Nat) := [([0], [0, 1]), ([0, 0, 1], [8, 7, 1, 0]), ([0, 1, 0, 1], [8, 7, 1, 0]), ([0, 0, 0, 1, 0, 1], [9, 8, 1, 0, 7]), ([0, 1, 0, 0, 1, 0, 1], [8, 1, 0, 7]), ([1, 0, 1, 0, 0, 1, 0, 1], []), ([0, 0, 0, 1, 1, 0, 0, 1, 0, 1], [1, 0, 5, 8, 7]), (z1gw, [16, 5, 8, 7, 1, 0]), ([1, 1, 0, 0, 1, 1, 0, 0, 1, 0, 1], [8, 7, 1, 0]), ([0, 0, 1, 1, 0, 0, 1, 1, 0, 0, 1, 0, 1], [4]), ([1, 0, 1, 1, 0, 0, 1, 1, 0, 0, 1, 0, 1], [4]), ([0, 1, 1, 0, 0, 1, 0, 1], [8, 7, 1, 0]), ([1, 1, 1, 0, 0, 1, 0, 1], [8, 7, 1, 0]), ([1, 0, 1], []), ([0, 1, 1], [4]), ([1, 1, 1], [4])]

def E_45 (N : Nat) : Env := z16 tys glob [(55, z4b N)] [] [] [] false [] [(98, z7 N)]

theorem z1ri (N : Nat) : EnvOk Tryz.prog (E_45 N) := zk mixed zp (FnsOk.cons (z7v N) (FnsOk.nil)) (ItsOk.cons (z8 N) (ItsOk.nil))

def zj9 (N : Nat) (s : (List DT1)) (x7 : Int) (x8 : Int) (rec : Int -> Option Int) (k0 : Int -> Option Int) (k1 : Option Int) : Option Int :=
 cond (decide (x8 < x7))
 (cond (inR x8 (List.length s))
 (cond (decide ((64 : Int) < (((List.length (List.getD s (Int.toNat x8) (([] : List UInt8), (([] : List DT8), (([] : List UInt8), ())))).2.1) : Nat) : Int)))
 (k0 x8)
 (rec (IntKind.wrap IntKind.i64 (x8 + (1 : Int)))))
 (none))
 (k1)

def zop (N : Nat) (s : (List DT1)) (x7 : Int) (x8 : Int) (k0 : Int -> Option Int) (k1 : Option Int) : Option Int :=
 iter (fun (v : Int) r => zj9 N s x7 v (fun x8 => (r x8)) k0 k1) N x8

def z1op (N : Nat) (i : ((List DT1) × Int)) (v : Int) (r : Int -> Option Int) (K : Ex -> List A -> Option Int) : Option Int :=
 zj9 N i.1 i.2 v (fun x8 => (r x8)) (fun a0 => (K .ret (mkS [(4, .v (.int .i64))] 14 (a0, ())))) (K (.exit 0) (mkS [] 19 ()))

def z1ms (N : Nat) : Hd Int := fun st K => (unS [(0, .v (.sl TT0)), (0, .fnc 55), (5, .v (.int .i64)), (0, .v (.int .i64))] 10 (restr [8, 7, 1, 0] 0 st)).bind fun x => iter (fun v r => z1op N ((fun x => (x.1, x.2.2.1)) x) v r K) N ((fun x => x.2.2.2.1) x)

def t1_45 (N : Nat) : Tab Int := []

theorem z1kf {N : Nat} {c : Ctx} (hb : Base Tryz.prog (E_45 N) c) : zo Tryz.prog c (zl zww [0, 1, 0, 1]) (z1ms N) :=
  z1i (s := [(0, .v (.sl TT0)), (0, .fnc 55), (5, .v (.int .i64)), (0, .v (.int .i64))]) (m := 10) (z1op N) [8, 7, 1, 0] N (fun x => (x.1, x.2.2.1)) (fun x => x.2.2.2.1) (fun i v => (i.1, (), i.2, v, ())) (fun _ => rfl) (zi hb N (t1_45 N) L_45 zww TabOk.nil [0, 0, 1, 0, 1] _ rfl) (fun i v r K => by kernel_rfl)

def zkc (N : Nat) (s : (List DT1)) : Option Int :=
 zop N s (((List.length s) : Nat) : Int) (0 : Int)
 (fun x4 => some x4)
 (some (-(1 : Int)))

def t_45 (N : Nat) : Tab Int := [([0, 1, 0, 1], z1ms N)]

theorem z1cn (N : Nat) (x : z1j [(0, .v (.sl TT0)), (0, .fnc 55)]) : z2j (E_45 N) N (t_45 N) L_45 Tryz.f83 (mkS [(0, .v (.sl TT0)), (0, .fnc 55)] 0 x) (z1h (.v (.int .i64)) 2) = zkc N x.1 := by kernel_rfl

def zmf (N : Nat) : List A -> Res := z12 [(0, .v (.sl TT0)), (0, .fnc 55)] (fun x => zkc N x.1) (z2k (.v (.int .i64)) 2)

theorem zvy (N : Nat) : Contract Tryz.prog glob 83 (zmf N) :=
  Contract.of (E := E_45 N) (H := t_45 N) (L := L_45) (N := N) (body := zww) (K := (z1h (.v (.int .i64)) 2)) (z1ri N) Tryz.func83 (by kernel_rfl) (by decide) (fun _ hb => (TabOk.cons (z1kf hb) TabOk.nil)) (fun x y h => by rw [z1cn]; exact h) (zm (s := (.v (.int .i64))) (m := 2))

def z1eo : Code := (Tryz.f54.body).getD .skip

def L_46 : List (List Nat × List Nat) := [([0], [0, 1]), ([0, 1], [4]), ([1, 1], [4])]

def E_46 (N : Nat) : Env := z16 tys glob [(83, zmf N), (55, z4b N)] [] [] [] false [] [(98, z7 N)]

theorem z1rh (N : Nat) : EnvOk Tryz.prog (E_46 N) := zk mixed zp (FnsOk.cons (zvy N) (FnsOk.cons (z7v N) (FnsOk.nil))) (ItsOk.cons (z8 N) (ItsOk.nil))

def zc1 (N : Nat) (s : (List DT1)) : Option Bool :=
 (zkc N s).bind fun y =>
 some (decide ((0 : Int) <= y))

def t_46 (N : Nat) : Tab Bool := []

theorem z1cm (N : Nat) (x : z1j [(0, .v (.sl TT0)), (0, .fnc 55)]) : z2j (E_46 N) N (t_46 N) L_46 Tryz.f54 (mkS [(0, .v (.sl TT0)), (0, .fnc 55)] 0 x) (z1h (.v .bool) 2) = zc1 N x.1 := by kernel_rfl

def zgp (N : Nat) : List A -> Res := z12 [(0, .v (.sl TT0)), (0, .fnc 55)] (fun x => zc1 N x.1) (z2k (.v .bool) 2)

theorem zqa (N : Nat) : Contract Tryz.prog glob 54 (zgp N) :=
  Contract.of (E := E_46 N) (H := t_46 N) (L := L_46) (N := N) (body := z1eo) (K := (z1h (.v .bool) 2)) (z1rh N) Tryz.func54 (by kernel_rfl) (by decide) (fun _ hb => TabOk.nil) (fun x y h => by rw [z1cm]; exact h) (zm (s := (.v .bool)) (m := 2))

def z1en : Code := (Tryz.f26.body).getD .skip

def L_47 : List (List Nat × List Nat) := [([0], [1]), ([0, 0, 1], [6, 1]), ([1, 0, 1], [1]), ([0, 0, 1, 0, 1], [2]), ([1, 0, 1, 0, 1], [2]), ([0, 1, 1], [2]), ([1, 1, 1], [2])]

def E_47 (N : Nat) : Env := z16 tys glob [(54, zgp N), (55, z4b N), (38, z8r N)] [] [] [] false [] [(98, z7 N)]

theorem z1rg (N : Nat) : EnvOk Tryz.prog (E_47 N) := zk mixed zp (FnsOk.cons (zqa N) (FnsOk.cons (z7v N) (FnsOk.cons (zf8 N) (FnsOk.nil)))) (ItsOk.cons (z8 N) (ItsOk.nil))

def z5f (N : Nat) (b : zxa) : Option Bool :=
 cond (decide ((8 : Int) < (((List.length b.2.1) : Nat) : Int)))
 (some false)
 ((z5g N b).bind fun y =>
 (zc1 N y).bind fun y1 =>
 some (!y1))

def t_47 (N : Nat) : Tab Bool := []

theorem z1cl (N : Nat) (x : z1j [(0, .v TT7)]) : z2j (E_47 N) N (t_47 N) L_47 Tryz.f26 (mkS [(0, .v TT7)] 0 x) (z1h (.v .bool) 1) = z5f N x.1 := by kernel_rfl

def z8q (N : Nat) : List A -> Res := z12 [(0, .v TT7)] (fun x => z5f N x.1) (z2k (.v .bool) 1)

theorem zf7 (N : Nat) : Contract Tryz.prog glob 26 (z8q N) :=
  Contract.of (E := E_47 N) (H := t_47 N) (L := L_47) (N := N) (body := z1en) (K := (z1h (.v .bool) 1)) (z1rg N) Tryz.func26 (by kernel_rfl) (by decide) (fun _ hb => TabOk.nil) (fun x y h => by rw [z1cl]; exact h) (zm (s := (.v .bool)) (m := 1))

def z1em : Code := (Tryz.f27.body).getD .skip

def L_48 : List (List Nat × List Nat) := [([0], [1]), ([0, 1], [2]), ([1, 1], [2])]

def E_48 (N : Nat) : Env := z16 tys glob [] [] [] [] false [(8, TT3), (9, TT3)] [(98, z7 N)]

theorem z1rf (N : Nat) : EnvOk Tryz.prog (E_48 N) := zk mixed zp (FnsOk.nil) (ItsOk.cons (z8 N) (ItsOk.nil))

def z4c (N : Nat) (b : zxa) : Option DT2 :=
 cond (decide (((0 : Int) <= (((List.length b.2.1) : Nat) : Int)) /\ (((((List.length b.2.1) : Nat) : Int) <= (((List.length b.2.1) : Nat) : Int)) /\ ((((((List.length b.2.1) : Nat) : Int) * (1 : Int)) <= (281474976710656 : Int)) /\ ((((List.length b.2.1) : Nat) : Int) <= (9223372036854775807 : Int))))))
 (some (b, ((List.replicate (Int.toNat (((List.length b.2.1) : Nat) : Int)) false), (([] : List ((List DT8) × ((List (List UInt8)) × Unit))), (([] : List (List UInt8)), ((0 : Int), ()))))))
 (none)

def t_48 (N : Nat) : Tab DT2 := []

theorem z1ck (N : Nat) (x : z1j [(0, .v TT7)]) : z2j (E_48 N) N (t_48 N) L_48 Tryz.f27 (mkS [(0, .v TT7)] 0 x) (z1h (.box TT3) 1) = z4c N x.1 := by kernel_rfl

def z8s (N : Nat) : List A -> Res := z12 [(0, .v TT7)] (fun x => z4c N x.1) (z2k (.box TT3) 1)

theorem zf9 (N : Nat) : Contract Tryz.prog glob 27 (z8s N) :=
  Contract.of (E := E_48 N) (H := t_48 N) (L := L_48) (N := N) (body := z1em) (K := (z1h (.box TT3) 1)) (z1rf N) Tryz.func27 (by kernel_rfl) (by decide) (fun _ hb => TabOk.nil) (fun x y h => by rw [z1ck]; exact h) (zm (s := (.box TT3)) (m := 1))

def zwv : Code := (Tryz.f66.body).getD .skip

def L_49 : List (List Nat × List Nat) := [([0], [0, 5, 2, 3]), ([0, 0, 1], [12, 0, 2, 3, 5]), ([1, 0, 1], [2, 3, 5, 0]), ([0, 1, 0, 1], [0]), ([0, 1, 1], zx8), ([0, 1, 1, 1], zx8), ([0, 0, 0, 1, 1, 1], [16, 13, 15, 3, 5, 0, 14]), ([0, 1, 0, 0, 1, 1, 1], [13, 15, 3, 5, 0, 14]), ([1, 0, 1, 0, 0, 1, 1, 1], [0]), ([0, 0, 0, 1, 1, 0, 0, 1, 1, 1], [3, 5, 7, 0, 15, 14, 13]), ([0, 1, 0, 0, 1, 1, 0, 0, 1, 1, 1], [0, 5, 15, 14, 13, 3]), ([0, 1, 1, 0, 0, 1, 1, 0, 0, 1, 1, 1], [26, 0, 15, 14, 13, 3, 5]), ([1, 1, 1, 0, 0, 1, 1, 0, 0, 1, 1, 1], zx8), ([0, 1, 1, 1, 0, 0, 1, 1, 0, 0, 1, 1, 1], [0]), ([0, 1, 1, 0, 0, 1, 1, 1], zx8), ([1, 1, 1, 0, 0, 1, 1, 1], zx8), ([1, 1, 1], [0])]

def E_49 (N : Nat) : Env := z16 tys glob [(41, z3k N)] [] [] [0] false [] []

theorem z1re (N : Nat) : EnvOk Tryz.prog (E_49 N) := zk mixed zp (FnsOk.cons (z5t N) (FnsOk.nil)) ItsOk.nil

def z5d (N : Nat) (x3 : Unit) (x13 : (List DT8)) (x14 : Int) (t : (List UInt8)) (x15 : Int) (rec : (List UInt8) -> Int -> Option (List z7u)) (k0 : Option (List z7u)) (k1 : Option (List z7u)) : Option (List z7u) :=
 cond (decide (x15 < x14))
 (cond (inR x15 (List.length x13))
 ((z4v N t (List.getD x13 (Int.toNat x15) (([] : List UInt8), (([] : List UInt8), ())))).bind fun y =>
 zsw (y, ())
 (rec y (IntKind.wrap IntKind.i64 (x15 + (1 : Int))))
 (k0))
 (none))
 (k1)

def zgs (N : Nat) (x3 : Unit) (t : (List UInt8)) (x13 : (List DT8)) (x14 : Int) (x15 : Int) (k0 : Option (List z7u)) (k1 : Option (List z7u)) : Option (List z7u) :=
 iter (fun (v : ((List UInt8) × Int)) r => z5d N x3 x13 x14 v.1 v.2 (fun t x15 => (r (t, x15))) k0 k1) N (t, x15)

def z1oo (N : Nat) (i : (Unit × (List DT8) × Int)) (v : ((List UInt8) × Int)) (r : ((List UInt8) × Int) -> Option (List z7u)) (K : Ex -> List A -> Option (List z7u)) : Option (List z7u) :=
 z5d N i.1 i.2.1 i.2.2 v.1 v.2 (fun t x15 => (r (t, x15))) (K .ret (mkS [(0, .yld)] 27 ((), ()))) (K (.exit 0) (mkS [(0, .yld)] 27 ((), ())))

def z1mr (N : Nat) : Hd (List z7u) := fun st K => (unS [(0, .yld), (2, .v (.ptr (.fn 41 .unit))), (1, .v .str), (7, .v (.sl zje)), (0, .v (.int .i64)), (0, .v (.int .i64))] 12 (restr zx8 0 st)).bind fun x => iter (fun v r => z1oo N ((fun x => (x.2.1, x.2.2.2.1, x.2.2.2.2.1)) x) v r K) N ((fun x => (x.2.2.1, x.2.2.2.2.2.1)) x)

def t1_49 (N : Nat) : Tab (List z7u) := []

theorem z1ke {N : Nat} {G : GY [.str]} (hG : zgz G) (hev : z1px G Tryz.prog (E_49 N) N L_49 zwv) : YOk G Tryz.prog (zl zwv [0, 1, 1, 1]) (z1mr N) :=
  zn6 hG (s := [(0, .yld), (2, .v (.ptr (.fn 41 .unit))), (1, .v .str), (7, .v (.sl zje)), (0, .v (.int .i64)), (0, .v (.int .i64))]) (m := 12) (z1oo N) zx8 N (fun x => (x.2.1, x.2.2.2.1, x.2.2.2.2.1)) (fun x => (x.2.2.1, x.2.2.2.2.2.1)) (fun i v => ((), i.1, v.1, i.2.1, i.2.2, v.2, ())) (fun _ => rfl) (hev (t1_49 N) TabOkY.nil [0, 0, 1, 1, 1]) (fun i v r K => by kernel_rfl)

def z9u (N : Nat) (x1 : (List UInt8)) (x2 : (List DT8)) (x3 : Unit) : Option (List z7u) :=
 zsw (x1, ())
 (zgs N x3 x1 x2 (((List.length x2) : Nat) : Int) (0 : Int)
 (some ([] : List z7u))
 (some ([] : List z7u)))
 (some ([] : List z7u))

def t_49 (N : Nat) : Tab (List z7u) := [([0, 1, 1, 1], z1mr N)]

theorem z1cj (N : Nat) (x : T.den z18z) : z1gm (E_49 N) [.str] zsw N (t_49 N) L_49 Tryz.f66 [.v (.ptr .str) x.1, .v (.ptr (.sl zje)) x.2.1, .v (.ptr (.fn 41 .unit)) x.2.2.1] = z9u N x.1 x.2.1 x.2.2.1 := by kernel_rfl

def zb (N : Nat) : Dat -> ItRes := zzr (ts := [.str]) z18z (fun x => z9u N x.1 x.2.1 x.2.2.1)

theorem ze (N : Nat) : ItOk Tryz.prog glob 66 (zb N) := ItOk.of (ts := [.str]) (E := E_49 N) (H := t_49 N) (L := L_49) (N := N) (body := zwv) (z1re N) rfl Tryz.func66 (by kernel_rfl) (by decide) (fun G hG hev => (TabOkY.cons (z1ke hG hev) TabOkY.nil)) (fun x y h => ⟨_, rfl, by rw [z1cj]; exact h⟩)

def z1el : Code := (Tryz.f40.body).getD .skip

def L_50 : List (List Nat × List Nat) := [([0], [3, 4, 5]), ([0, 1], [6]), ([1, 1], [6])]

def E_50 (N : Nat) : Env := z16 tys glob [(41, z3k N)] [] [] [] false [(5, (.fn 41 .unit))] [(66, zb N), (98, z7 N)]

theorem z1rd (N : Nat) : EnvOk Tryz.prog (E_50 N) := zk mixed zp (FnsOk.cons (z5t N) (FnsOk.nil)) (ItsOk.cons (ze N) (ItsOk.cons (z8 N) (ItsOk.nil)))

def zp6 (N : Nat) (first : (List UInt8)) (links : (List DT8)) : Option ((List UInt8) × ((List DT8) × (Unit × Unit))) :=
 some (first, (links, ((), ())))

def t_50 (N : Nat) : Tab ((List UInt8) × ((List DT8) × (Unit × Unit))) := []

theorem z1ci (N : Nat) (x : z1j [(0, .v .str), (0, .v (.sl zje)), (0, .fnc 41)]) : z2j (E_50 N) N (t_50 N) L_50 Tryz.f40 (mkS [(0, .v .str), (0, .v (.sl zje)), (0, .fnc 41)] 0 x) (z1h (.v (.fn 66 z18z)) 3) = zp6 N x.1 x.2.1 := by kernel_rfl

def zgr (N : Nat) : List A -> Res := z12 [(0, .v .str), (0, .v (.sl zje)), (0, .fnc 41)] (fun x => zp6 N x.1 x.2.1) (z2k (.v (.fn 66 z18z)) 3)

theorem zqd (N : Nat) : Contract Tryz.prog glob 40 (zgr N) :=
  Contract.of (E := E_50 N) (H := t_50 N) (L := L_50) (N := N) (body := z1el) (K := (z1h (.v (.fn 66 z18z)) 3)) (z1rd N) Tryz.func40 (by kernel_rfl) (by decide) (fun _ hb => TabOk.nil) (fun x y h => by rw [z1ci]; exact h) (zm (s := (.v (.fn 66 z18z))) (m := 3))

def zso : Code := (Tryz.f84.body).getD .skip

def L_51 : List (List Nat × List Nat) := [([0], [3, 0]), ([0, 1], [0, 3, 5]), ([0, 0, 1, 1], [18, 5]), ([0, 1, 0, 1, 1], [5]), ([0, 0, 1, 0, 1, 1], [5, 6]), ([0, 1, 0, 1, 0, 1, 1], [5]), ([1, 0, 1, 0, 1, 1], [5]), ([1, 0, 1, 1], [5]), ([0, 1, 1, 1], [4]), ([1, 1, 1, 1], [4])]

def z1se (N : Nat) : Env := z16 tys glob [(40, zgr N), (41, z3k N), (19, zd0 N)] [(4, .str)] [] [] false [(5, (.own .str))] [(66, zb N), (98, z7 N)]

theorem z1rc (N : Nat) : EnvOk Tryz.prog (z1se N) := zk mixed zp (FnsOk.cons (zqd N) (FnsOk.cons (z5t N) (FnsOk.cons (zkn N) (FnsOk.nil)))) (ItsOk.cons (ze N) (ItsOk.cons (z8 N) (ItsOk.nil)))

def zf0 (N : Nat) (tags_1 : (List (List UInt8))) (y : z7u) (rec : (List (List UInt8)) -> Option (List (List UInt8))) (k0 : (List (List UInt8)) -> Option (List (List UInt8))) : Option (List (List UInt8)) :=
 cond (decide ((((List.length tags_1) + 1) * 16) <= 70368744177664))
 (rec (tags_1 ++ ([y.1] : List (List UInt8))))
 (none)

def z8j (N : Nat) (tags : (List (List UInt8))) (x18 : ((List UInt8) × ((List DT8) × (Unit × Unit)))) : Option (List z7u) := (z9u N x18.1 x18.2.1 x18.2.2.1)

def zf1 (N : Nat) (tags : (List (List UInt8))) (x18 : ((List UInt8) × ((List DT8) × (Unit × Unit)))) : Unit := ()

def zkl (N : Nat) (tags : (List (List UInt8))) (x18 : ((List UInt8) × ((List DT8) × (Unit × Unit)))) : (List (List UInt8)) := tags

def zkm (N : Nat) (tags : (List (List UInt8))) (x18 : ((List UInt8) × ((List DT8) × (Unit × Unit)))) (k0 : (List (List UInt8)) -> Option (List (List UInt8))) : Option (List (List UInt8)) :=
 (z8j N tags x18).bind fun ys => zkb (fun (y : z7u) (v : (List (List UInt8))) r => zf0 N v y (fun tags_1 => (r tags_1)) k0) (fun (v : (List (List UInt8))) => k0 v) ys tags

def z1on (N : Nat) (y : z7u) (i : Unit) (v : (List (List UInt8))) (r : (List (List UInt8)) -> Option (List (List UInt8))) (K : Ex -> List A -> Option (List (List UInt8))) : Option (List (List UInt8)) :=
 zf0 N v y (fun tags_1 => (r tags_1)) (fun a0 => (K .normal (mkS [(5, .box (.own .str))] 19 (a0, ()))))

def z1mq (N : Nat) : Hd (List (List UInt8)) := fun st K => (unS [(5, .box (.own .str)), (12, .v (.fn 66 z18z))] 6 (restr [18, 5] 0 st)).bind fun x => ((fun x => z8j N x.1 x.2.1) x).bind fun xs => zkb (fun y v r => z1on N y ((fun x => zf1 N x.1 x.2.1) x) v r K) (fun v => K .normal (mkS [(5, .box (.own .str))] 19 ((fun i v => (v, ())) ((fun x => zf1 N x.1 x.2.1) x) v))) xs ((fun x => zkl N x.1 x.2.1) x)

theorem z1kd {N : Nat} {c : Ctx} (hb : Base Tryz.prog (z1se N) c) : zo Tryz.prog c (zl zso [0, 1, 0, 1, 1]) (z1mq N) :=
  z1a9 (ts := [.str]) (s := [(5, .box (.own .str)), (12, .v (.fn 66 z18z))]) (m := 6) (s2 := [(5, .box (.own .str))]) (m2 := 19) [18, 5] (fun x => z8j N x.1 x.2.1) (fun x => zf1 N x.1 x.2.1) (fun x => zkl N x.1 x.2.1) (fun i v => (v, ())) (rfF (z1se N) N [.str] (zl zso [0, 1, 0, 1, 1])) (z1on N) (zi hb N [] L_51 zso TabOk.nil [0, 1, 0, 1, 1] _ rfl) (fun x K => by kernel_rfl) (fun y i v r K => by kernel_rfl)

def zdt (N : Nat) (key : (List UInt8)) (t : DT1) : Option (List (List UInt8)) :=
 cond (decide (((0 : Int) <= (0 : Int)) /\ (((0 : Int) <= (IntKind.wrap IntKind.i64 ((1 : Int) + (((List.length t.2.1) : Nat) : Int)))) /\ ((((IntKind.wrap IntKind.i64 ((1 : Int) + (((List.length t.2.1) : Nat) : Int))) * (16 : Int)) <= (281474976710656 : Int)) /\ ((IntKind.wrap IntKind.i64 ((1 : Int) + (((List.length t.2.1) : Nat) : Int))) <= (9223372036854775807 : Int))))))
 ((zay N key t.1).bind fun y =>
 zkm N ([] : List (List UInt8)) (y, (t.2.1, ((), ())))
 (fun tags_1 => some tags_1))
 (none)

def t_51 (N : Nat) : Tab (List (List UInt8)) := [([0, 1, 0, 1, 1], z1mq N)]

theorem z1ch (N : Nat) (x : z1j z16y) : z2j (z1se N) N (t_51 N) L_51 Tryz.f84 (mkS z16y 0 x) (z1h (.v (.sl .str)) 2) = zdt N x.1 x.2.1 := by kernel_rfl

def zi8 (N : Nat) : List A -> Res := z12 z16y (fun x => zdt N x.1 x.2.1) (z2k (.v (.sl .str)) 2)

theorem zse (N : Nat) : Contract Tryz.prog glob 84 (zi8 N) :=
  Contract.of (E := z1se N) (H := t_51 N) (L := L_51) (N := N) (body := zso) (K := (z1h (.v (.sl .str)) 2)) (z1rc N) Tryz.func84 (by kernel_rfl) (by decide) (fun _ hb => (TabOk.cons (z1kd hb) TabOk.nil)) (fun x y h => by rw [z1ch]; exact h) (zm (s := (.v (.sl .str))) (m := 2))

def z1ek : Code := (Tryz.f56.body).getD .skip

def L_52 : List (List Nat × List Nat) := [([0], [1, 5, 0]), ([0, 1], [0, 8]), ([0, 1, 1], [8, 0]), ([0, 1, 1, 1], [6, 7, 0]), ([1, 1, 1, 1], [6, 7, 0])]

def E_52 (N : Nat) : Env := z16 tys glob [(84, zi8 N)] [(8, .str), (6, .str)] [] [0] false [] [(66, zb N), (98, z7 N)]

theorem z1rb (N : Nat) : EnvOk Tryz.prog (E_52 N) := zk mixed zp (FnsOk.cons (zse N) (FnsOk.nil)) (ItsOk.cons (ze N) (ItsOk.cons (z8 N) (ItsOk.nil)))

def z3x (N : Nat) (r_ : DT2) (key : (List UInt8)) (t : DT1) : Option (((List (List UInt8)) × (List UInt8) × Unit) × (DT2 × Unit)) :=
 (zdt N key t).bind fun y =>
 cond (inR (IntKind.wrap IntKind.i64 ((((List.length y) : Nat) : Int) - (1 : Int))) (List.length y))
 (some ((y, ((List.getD y (Int.toNat (IntKind.wrap IntKind.i64 ((((List.length y) : Nat) : Int) - (1 : Int)))) ([] : List UInt8)), ())), ((r_.1, (r_.2.1, (r_.2.2.1, (r_.2.2.2.1, ((IntKind.wrap IntKind.i64 (r_.2.2.2.2.1 + (((List.length y) : Nat) : Int))), r_.2.2.2.2.2))))), ())))
 (none)

def t_52 (N : Nat) : Tab (((List (List UInt8)) × (List UInt8) × Unit) × (DT2 × Unit)) := []

theorem z1cg (N : Nat) (x : z1j [(0, .box TT3), (0, .v .str), (0, .v TT0)]) : z2j (E_52 N) N (t_52 N) L_52 Tryz.f56 (mkS [(0, .box TT3), (0, .v .str), (0, .v TT0)] 0 x) (zdl (.tup [(.sl .str), .str]) [(0, .box TT3)] 2) = z3x N x.1 x.2.1 x.2.2.1 := by kernel_rfl

def z6x (N : Nat) : List A -> Res := z12 [(0, .box TT3), (0, .v .str), (0, .v TT0)] (fun x => z3x N x.1 x.2.1 x.2.2.1) (zli (.tup [(.sl .str), .str]) [(0, .box TT3)] 2)

theorem zc6 (N : Nat) : Contract Tryz.prog glob 56 (z6x N) :=
  Contract.of (E := E_52 N) (H := t_52 N) (L := L_52) (N := N) (body := z1ek) (K := (zdl (.tup [(.sl .str), .str]) [(0, .box TT3)] 2)) (z1rb N) Tryz.func56 (by kernel_rfl) (by decide) (fun _ hb => TabOk.nil) (fun x y h => by rw [z1cg]; exact h) (zao (s := (.tup [(.sl .str), .str])) (os := [(0, .box TT3)]) (m := 2))

def zwu : Code := (Tryz.f85.body).getD .skip

def L_53 : List (List Nat × List Nat) := [([0], [0, 1]), ([0, 0, 1], [11, 0, 1]), ([1, 0, 1], [0, 1]), ([0, 0, 1, 0, 1], [4]), ([1, 0, 1, 0, 1], [4]), ([0, 1, 1], [0, 5, 1]), ([0, 0, 1, 1, 1], [14, 13, 5, 0, 1]), ([0, 1, 0, 1, 1, 1], [14, 13, 5, 0, 1]), ([0, 0, 0, 1, 0, 1, 1, 1], [15, 14, 5, 0, 1, 13]), (z10m, [14, 5, 0, 1, 13]), ([1, 0, 1, 0, 0, 1, 0, 1, 1, 1], [5]), ([0, 0, 0, 1, 1, 0, 0, 1, 0, 1, 1, 1], [5, 0, 6, 1, 14, 13]), ([1, 0, 0, 1, 1, 0, 0, 1, 0, 1, 1, 1], [14, 13, 5, 0, 1]), ([0, 1, 1, 0, 0, 1, 0, 1, 1, 1], [14, 13, 5, 0, 1]), ([1, 1, 1, 0, 0, 1, 0, 1, 1, 1], [14, 13, 5, 0, 1]), ([1, 0, 1, 1, 1], [5]), ([0, 1, 1, 1, 1], [4]), ([1, 1, 1, 1, 1], [4])]

def E_53 (N : Nat) : Env := z16 tys glob [] [] [] [] false [] [(66, zb N), (98, z7 N)]

theorem z1ra (N : Nat) : EnvOk Tryz.prog (E_53 N) := zk mixed zp (FnsOk.nil) (ItsOk.cons (ze N) (ItsOk.cons (z8 N) (ItsOk.nil)))

def zcy (N : Nat) (a : (List UInt8)) (b : (List UInt8)) (x13 : Int) (differ : Int) (x14 : Int) (rec : Int -> Int -> Option Bool) (k0 : Int -> Option Bool) : Option Bool :=
 cond (decide (x14 < x13))
 (cond (inR x14 (List.length a))
 (cond (inR x14 (List.length b))
 (rec (zj Go.BinOp.or IntKind.u8 differ (zj Go.BinOp.xor IntKind.u8 (((UInt8.toNat (List.getD a (Int.toNat x14) (0 : UInt8))) : Nat) : Int) (((UInt8.toNat (List.getD b (Int.toNat x14) (0 : UInt8))) : Nat) : Int))) (IntKind.wrap IntKind.i64 (x14 + (1 : Int))))
 (none))
 (none))
 (k0 differ)

def zi0 (N : Nat) (a : (List UInt8)) (b : (List UInt8)) (differ : Int) (x13 : Int) (x14 : Int) (k0 : Int -> Option Bool) : Option Bool :=
 iter (fun (v : (Int × Int)) r => zcy N a b x13 v.1 v.2 (fun differ x14 => (r (differ, x14))) k0) N (differ, x14)

def z1om (N : Nat) (i : ((List UInt8) × (List UInt8) × Int)) (v : (Int × Int)) (r : (Int × Int) -> Option Bool) (K : Ex -> List A -> Option Bool) : Option Bool :=
 zcy N i.1 i.2.1 i.2.2 v.1 v.2 (fun differ x14 => (r (differ, x14))) (fun a0 => (K (.exit 0) (mkS [(5, .v (.int .u8))] 23 (a0, ()))))

def z1mp (N : Nat) : Hd Bool := fun st K => (unS SQ96 14 (restr [14, 13, 5, 0, 1] 0 st)).bind fun x => iter (fun v r => z1om N ((fun x => (x.1, x.2.1, x.2.2.2.1)) x) v r K) N ((fun x => (x.2.2.1, x.2.2.2.2.1)) x)

def t1_53 (N : Nat) : Tab Bool := []

theorem z1kc {N : Nat} {c : Ctx} (hb : Base Tryz.prog (E_53 N) c) : zo Tryz.prog c (zl zwu [0, 1, 0, 1, 1, 1]) (z1mp N) :=
  z1i (s := SQ96) (m := 14) (z1om N) [14, 13, 5, 0, 1] N (fun x => (x.1, x.2.1, x.2.2.2.1)) (fun x => (x.2.2.1, x.2.2.2.2.1)) (fun i v => (i.1, i.2.1, v.1, i.2.2, v.2, ())) (fun _ => rfl) (zi hb N (t1_53 N) L_53 zwu TabOk.nil z149 _ rfl) (fun i v r K => by kernel_rfl)

def zbs (N : Nat) (a : (List UInt8)) (b : (List UInt8)) : Option Bool :=
 cond ((((List.length a) : Nat) : Int) != (((List.length b) : Nat) : Int))
 (some false)
 (zi0 N a b (0 : Int) (((List.length a) : Nat) : Int) (0 : Int)
 (fun differ => some (differ == (0 : Int))))

def t_53 (N : Nat) : Tab Bool := [([0, 1, 0, 1, 1, 1], z1mp N)]

theorem z1cf (N : Nat) (x : z1j SQ0) : z2j (E_53 N) N (t_53 N) L_53 Tryz.f85 (mkS SQ0 0 x) (z1h (.v .bool) 2) = zbs N x.1 x.2.1 := by kernel_rfl

def zgc (N : Nat) : List A -> Res := z12 SQ0 (fun x => zbs N x.1 x.2.1) (z2k (.v .bool) 2)

theorem zpx (N : Nat) : Contract Tryz.prog glob 85 (zgc N) :=
  Contract.of (E := E_53 N) (H := t_53 N) (L := L_53) (N := N) (body := zwu) (K := (z1h (.v .bool) 2)) (z1ra N) Tryz.func85 (by kernel_rfl) (by decide) (fun _ hb => (TabOk.cons (z1kc hb) TabOk.nil)) (fun x y h => by rw [z1cf]; exact h) (zm (s := (.v .bool)) (m := 2))

def z1ej : Code := (Tryz.f57.body).getD .skip

def L_54 : List (List Nat × List Nat) := [([0], [0, 1]), ([0, 1], [4]), ([1, 1], [4])]

def E_54 (N : Nat) : Env := z16 tys glob [(85, zgc N)] [] [] [] false [] [(66, zb N), (98, z7 N)]

theorem z1r9 (N : Nat) : EnvOk Tryz.prog (E_54 N) := zk mixed zp (FnsOk.cons (zpx N) (FnsOk.nil)) (ItsOk.cons (ze N) (ItsOk.cons (z8 N) (ItsOk.nil)))

def zbx (N : Nat) (a : (List UInt8)) (b : (List UInt8)) : Option Bool :=
 cond ((((List.length a) : Nat) : Int) == (32 : Int))
 (cond ((((List.length b) : Nat) : Int) == (32 : Int))
 ((zbs N a b).bind fun y =>
 some y)
 (some false))
 (some false)

def t_54 (N : Nat) : Tab Bool := []

theorem z1ce (N : Nat) (x : z1j SQ0) : z2j (E_54 N) N (t_54 N) L_54 Tryz.f57 (mkS SQ0 0 x) (z1h (.v .bool) 2) = zbx N x.1 x.2.1 := by kernel_rfl

def zap (N : Nat) : List A -> Res := z12 SQ0 (fun x => zbx N x.1 x.2.1) (z2k (.v .bool) 2)

theorem zgn (N : Nat) : Contract Tryz.prog glob 57 (zap N) :=
  Contract.of (E := E_54 N) (H := t_54 N) (L := L_54) (N := N) (body := z1ej) (K := (z1h (.v .bool) 2)) (z1r9 N) Tryz.func57 (by kernel_rfl) (by decide) (fun _ hb => TabOk.nil) (fun x y h => by rw [z1ce]; exact h) (zm (s := (.v .bool)) (m := 2))

def z1ei : Code := (Tryz.f39.body).getD .skip

def L_55 : List (List Nat × List Nat) := [([0], [1]), ([0, 1], [2]), ([1, 1], [2])]

def E_55 (N : Nat) : Env := z16 tys glob [] [] [] [] false [] [(66, zb N), (98, z7 N)]

theorem z1r8 (N : Nat) : EnvOk Tryz.prog (E_55 N) := zk mixed zp (FnsOk.nil) (ItsOk.cons (ze N) (ItsOk.cons (z8 N) (ItsOk.nil)))

def zqg (N : Nat) (l : DT8) : Option Bool :=
 some (eqD (T.pair T.str (T.pair T.str T.unit)) l (l.1, (([] : List UInt8), ())))

def t_55 (N : Nat) : Tab Bool := []

theorem z1cd (N : Nat) (x : z1j [(0, .v zje)]) : z2j (E_55 N) N (t_55 N) L_55 Tryz.f39 (mkS [(0, .v zje)] 0 x) (z1h (.v .bool) 1) = zqg N x.1 := by kernel_rfl

def zco (N : Nat) : List A -> Res := z12 [(0, .v zje)] (fun x => zqg N x.1) (z2k (.v .bool) 1)

theorem zjf (N : Nat) : Contract Tryz.prog glob 39 (zco N) :=
  Contract.of (E := E_55 N) (H := t_55 N) (L := L_55) (N := N) (body := z1ei) (K := (z1h (.v .bool) 1)) (z1r8 N) Tryz.func39 (by kernel_rfl) (by decide) (fun _ hb => TabOk.nil) (fun x y h => by rw [z1cd]; exact h) (zm (s := (.v .bool)) (m := 1))

def z1eh : Code := (Tryz.f50.body).getD .skip

def L_56 : List (List Nat × List Nat) := [([0], [0]), ([0, 1], [2]), ([1, 1], [2])]

def E_56 (N : Nat) : Env := z16 tys glob [(45, z32 N)] [] [] [] false [] [(66, zb N), (98, z7 N)]

theorem z1r7 (N : Nat) : EnvOk Tryz.prog (E_56 N) := zk mixed zp (FnsOk.cons (z4j N) (FnsOk.nil)) (ItsOk.cons (ze N) (ItsOk.cons (z8 N) (ItsOk.nil)))

def zdu (N : Nat) (of : (List UInt8)) : Option (List UInt8) :=
 (z2c N of ([([(115 : UInt8), (101 : UInt8), (97 : UInt8), (108 : UInt8)] : List UInt8)] : List (List UInt8))).bind fun y =>
 some y

def t_56 (N : Nat) : Tab (List UInt8) := []

theorem z1cc (N : Nat) (x : z1j [(0, .v .str)]) : z2j (E_56 N) N (t_56 N) L_56 Tryz.f50 (mkS [(0, .v .str)] 0 x) (z1h (.v .str) 1) = zdu N x.1 := by kernel_rfl

def zi9 (N : Nat) : List A -> Res := z12 [(0, .v .str)] (fun x => zdu N x.1) (z2k (.v .str) 1)

theorem zsf (N : Nat) : Contract Tryz.prog glob 50 (zi9 N) :=
  Contract.of (E := E_56 N) (H := t_56 N) (L := L_56) (N := N) (body := z1eh) (K := (z1h (.v .str) 1)) (z1r7 N) Tryz.func50 (by kernel_rfl) (by decide) (fun _ hb => TabOk.nil) (fun x y h => by rw [z1cc]; exact h) (zm (s := (.v .str)) (m := 1))

def z1eg : Code := (Tryz.f74.body).getD .skip

def L_57 : List (List Nat × List Nat) := [([0], [0]), ([0, 1], [2]), ([1, 1], [2])]

def E_57 (N : Nat) : Env := z16 tys glob [(45, z32 N)] [] [] [] false [] [(66, zb N), (98, z7 N)]

theorem z1r6 (N : Nat) : EnvOk Tryz.prog (E_57 N) := zk mixed zp (FnsOk.cons (z4j N) (FnsOk.nil)) (ItsOk.cons (ze N) (ItsOk.cons (z8 N) (ItsOk.nil)))

def zc2 (N : Nat) (key : (List UInt8)) : Option (List UInt8) :=
 (z2c N key ([([(104 : UInt8), (105 : UInt8), (100 : UInt8), (101 : UInt8)] : List UInt8)] : List (List UInt8))).bind fun y =>
 some y

def t_57 (N : Nat) : Tab (List UInt8) := []

theorem z1cb (N : Nat) (x : z1j [(0, .v .str)]) : z2j (E_57 N) N (t_57 N) L_57 Tryz.f74 (mkS [(0, .v .str)] 0 x) (z1h (.v .str) 1) = zc2 N x.1 := by kernel_rfl

def zgt (N : Nat) : List A -> Res := z12 [(0, .v .str)] (fun x => zc2 N x.1) (z2k (.v .str) 1)

theorem zqe (N : Nat) : Contract Tryz.prog glob 74 (zgt N) :=
  Contract.of (E := E_57 N) (H := t_57 N) (L := L_57) (N := N) (body := z1eg) (K := (z1h (.v .str) 1)) (z1r6 N) Tryz.func74 (by kernel_rfl) (by decide) (fun _ hb => TabOk.nil) (fun x y h => by rw [z1cb]; exact h) (zm (s := (.v .str)) (m := 1))

def z1ef : Code := (Tryz.f102.body).getD .skip

def L_58 : List (List Nat × List Nat) := [([0], [0]), ([0, 0, 1], [5, 0]), ([1, 0, 1], [0]), ([0, 0, 1, 0, 1], [2]), ([1, 0, 1, 0, 1], [2]), ([0, 1, 1], [2]), ([1, 1, 1], [2])]

def E_58 (N : Nat) : Env := z16 tys glob [] [] [] [] false [] [(66, zb N), (98, z7 N)]

theorem z1r5 (N : Nat) : EnvOk Tryz.prog (E_58 N) := zk mixed zp (FnsOk.nil) (ItsOk.cons (ze N) (ItsOk.cons (z8 N) (ItsOk.nil)))

def zgu (N : Nat) (s : (List UInt8)) : Option (List UInt8) :=
 cond (decide ((((List.length s) : Nat) : Int) < (16 : Int)))
 (some ([] : List UInt8))
 (cond (decide (((0 : Int) <= (16 : Int)) /\ ((16 : Int) <= (((List.length s) : Nat) : Int))))
 (some (cut s 0 16))
 (none))

def t_58 (N : Nat) : Tab (List UInt8) := []

theorem z1ca (N : Nat) (x : z1j [(0, .v .str)]) : z2j (E_58 N) N (t_58 N) L_58 Tryz.f102 (mkS [(0, .v .str)] 0 x) (z1h (.v .str) 1) = zgu N x.1 := by kernel_rfl

def zkq (N : Nat) : List A -> Res := z12 [(0, .v .str)] (fun x => zgu N x.1) (z2k (.v .str) 1)

theorem zun (N : Nat) : Contract Tryz.prog glob 102 (zkq N) :=
  Contract.of (E := E_58 N) (H := t_58 N) (L := L_58) (N := N) (body := z1ef) (K := (z1h (.v .str) 1)) (z1r5 N) Tryz.func102 (by kernel_rfl) (by decide) (fun _ hb => TabOk.nil) (fun x y h => by rw [z1ca]; exact h) (zm (s := (.v .str)) (m := 1))

def zwt : Code := (Tryz.f131.body).getD .skip

def L_59 : List (List Nat × List Nat) := [([0], [0]), ([0, 1], [3, 0]), ([0, 0, 1, 1], [6, 3, 0]), ([0, 1, 0, 1, 1], [6, 3, 0]), (z14a, [7, 6, 3, 0]), (PQ9, [6, 3, 0]), (z1fg, [3]), (z1fi, [3, 4, 0, 6]), (z1po, [6, 3, 0]), (z1ff, [6, 3, 0]), (z1fe, [6, 3, 0]), ([1, 0, 1, 1], [3]), ([0, 1, 1, 1], [2]), ([1, 1, 1, 1], [2])]

def E_59 (N : Nat) : Env := z16 tys glob [] [(3, (.int .u8))] [] [] false [] [(66, zb N), (98, z7 N)]

theorem z1r4 (N : Nat) : EnvOk Tryz.prog (E_59 N) := zk mixed zp (FnsOk.nil) (ItsOk.cons (ze N) (ItsOk.cons (z8 N) (ItsOk.nil)))

def zfb (N : Nat) (n : Int) (out : (List Int)) (x6 : Int) (rec : (List Int) -> Int -> Option (List UInt8)) (k0 : (List Int) -> Option (List UInt8)) : Option (List UInt8) :=
 cond (decide (x6 < (8 : Int)))
 (cond (decide ((0 : Int) <= (IntKind.wrap IntKind.i64 ((8 : Int) * (IntKind.wrap IntKind.i64 ((7 : Int) - x6))))))
 (cond (inR x6 (List.length out))
 (cond (decide ((Int.toNat x6) < (List.length out)))
 (rec (List.set out (Int.toNat x6) (IntKind.wrap IntKind.u8 (z39 IntKind.i64 n (IntKind.wrap IntKind.i64 ((8 : Int) * (IntKind.wrap IntKind.i64 ((7 : Int) - x6))))))) (IntKind.wrap IntKind.i64 (x6 + (1 : Int))))
 (none))
 (none))
 (none))
 (k0 out)

def zmp (N : Nat) (n : Int) (out : (List Int)) (x6 : Int) (k0 : (List Int) -> Option (List UInt8)) : Option (List UInt8) :=
 iter (fun (v : ((List Int) × Int)) r => zfb N n v.1 v.2 (fun out x6 => (r (out, x6))) k0) N (out, x6)

def z1ol (N : Nat) (i : Int) (v : ((List Int) × Int)) (r : ((List Int) × Int) -> Option (List UInt8)) (K : Ex -> List A -> Option (List UInt8)) : Option (List UInt8) :=
 zfb N i v.1 v.2 (fun out x6 => (r (out, x6))) (fun a0 => (K (.exit 0) (mkS [(3, .row (.int .u8))] 17 (a0, ()))))

def z1mo (N : Nat) : Hd (List UInt8) := fun st K => (unS [(0, .v (.int .i64)), (2, .row (.int .u8)), (2, .v (.int .i64))] 14 (restr [6, 3, 0] 0 st)).bind fun x => iter (fun v r => z1ol N ((fun x => x.1) x) v r K) N ((fun x => (x.2.1, x.2.2.1)) x)

def t1_59 (N : Nat) : Tab (List UInt8) := []

theorem z1kb {N : Nat} {c : Ctx} (hb : Base Tryz.prog (E_59 N) c) : zo Tryz.prog c (zl zwt [0, 1, 0, 1, 1]) (z1mo N) :=
  z1i (s := [(0, .v (.int .i64)), (2, .row (.int .u8)), (2, .v (.int .i64))]) (m := 14) (z1ol N) [6, 3, 0] N (fun x => x.1) (fun x => (x.2.1, x.2.2.1)) (fun i v => (i, v.1, v.2, ())) (fun _ => rfl) (zi hb N (t1_59 N) L_59 zwt TabOk.nil [0, 0, 1, 0, 1, 1] _ rfl) (fun i v r K => by kernel_rfl)

def z5h (N : Nat) (n : Int) : Option (List UInt8) :=
 zmp N n ([(0 : Int), (0 : Int), (0 : Int), (0 : Int), (0 : Int), (0 : Int), (0 : Int), (0 : Int)] : List Int) (0 : Int)
 (fun out => some (z27 out))

def t_59 (N : Nat) : Tab (List UInt8) := [([0, 1, 0, 1, 1], z1mo N)]

theorem z1c9 (N : Nat) (x : z1j [(0, .v (.int .i64))]) : z2j (E_59 N) N (t_59 N) L_59 Tryz.f131 (mkS [(0, .v (.int .i64))] 0 x) (z1h (.v .str) 1) = z5h N x.1 := by kernel_rfl

def zd3 (N : Nat) : List A -> Res := z12 [(0, .v (.int .i64))] (fun x => z5h N x.1) (z2k (.v .str) 1)

theorem zmq (N : Nat) : Contract Tryz.prog glob 131 (zd3 N) :=
  Contract.of (E := E_59 N) (H := t_59 N) (L := L_59) (N := N) (body := zwt) (K := (z1h (.v .str) 1)) (z1r4 N) Tryz.func131 (by kernel_rfl) (by decide) (fun _ hb => (TabOk.cons (z1kb hb) TabOk.nil)) (fun x y h => by rw [z1c9]; exact h) (zm (s := (.v .str)) (m := 1))

def z1ee : Code := (Tryz.f124.body).getD .skip

def L_60 : List (List Nat × List Nat) := [([0], [2, 0, 1]), ([0, 0, 1], [8, 0, 1, 2]), ([1, 0, 1], [0, 1, 2]), ([0, 0, 1, 0, 1], [6]), ([1, 0, 1, 0, 1], [6]), ([0, 1, 1], [6]), ([1, 1, 1], [6])]

def E_60 (N : Nat) : Env := z16 tys glob [(131, zd3 N), (45, z32 N)] [] [] [] false [] [(66, zb N), (98, z7 N)]

theorem z1r3 (N : Nat) : EnvOk Tryz.prog (E_60 N) := zk mixed zp (FnsOk.cons (zmq N) (FnsOk.cons (z4j N) (FnsOk.nil))) (ItsOk.cons (ze N) (ItsOk.cons (z8 N) (ItsOk.nil)))

def z9a (N : Nat) (key : (List UInt8)) (nonce : (List UInt8)) (i : Int) : Option (List UInt8) :=
 cond (decide (i < (0 : Int)))
 (some ([] : List UInt8))
 ((z5h N i).bind fun y =>
 (z2c N key ([([(115 : UInt8), (116 : UInt8), (114 : UInt8), (101 : UInt8), (97 : UInt8), (109 : UInt8)] : List UInt8), nonce, y] : List (List UInt8))).bind fun y1 =>
 some y1)

def t_60 (N : Nat) : Tab (List UInt8) := []

theorem z1c8 (N : Nat) (x : z1j SQ3) : z2j (E_60 N) N (t_60 N) L_60 Tryz.f124 (mkS SQ3 0 x) (z1h (.v .str) 3) = z9a N x.1 x.2.1 x.2.2.1 := by kernel_rfl

def zfc (N : Nat) : List A -> Res := z12 SQ3 (fun x => z9a N x.1 x.2.1 x.2.2.1) (z2k (.v .str) 3)

theorem zng (N : Nat) : Contract Tryz.prog glob 124 (zfc N) :=
  Contract.of (E := E_60 N) (H := t_60 N) (L := L_60) (N := N) (body := z1ee) (K := (z1h (.v .str) 3)) (z1r3 N) Tryz.func124 (by kernel_rfl) (by decide) (fun _ hb => TabOk.nil) (fun x y h => by rw [z1c8]; exact h) (zm (s := (.v .str)) (m := 3))

def zws : Code := (Tryz.f123.body).getD .skip

def L_61 : List (List Nat × List Nat) := [([0], [10, 9, 0, 2, 3]), ([0, 1], [10, 9, 0, 2, 3]), ([0, 0, 0, 1], [11, 10, 0, 2, 3, 9]), ([0, 1, 0, 0, 1], [10, 0, 2, 3, 9]), ([1, 0, 1, 0, 0, 1], [0]), ([0, 0, 0, 1, 1, 0, 0, 1], [0, 2, 3, 5, 10, 9]), ([0, 1, 0, 0, 1, 1, 0, 0, 1], [19, 0, 10, 9, 2, 3]), ([1, 1, 0, 0, 1, 1, 0, 0, 1], [10, 9, 0, 2, 3]), ([0, 1, 1, 0, 0, 1, 1, 0, 0, 1], [0]), ([0, 1, 1, 0, 0, 1], [10, 9, 0, 2, 3]), ([1, 1, 1, 0, 0, 1], [10, 9, 0, 2, 3]), ([1], [0])]

def E_61 (N : Nat) : Env := z16 tys glob [(124, zfc N)] [] [] [0] false [] []

theorem z1r2 (N : Nat) : EnvOk Tryz.prog (E_61 N) := zk mixed zp (FnsOk.cons (zng N) (FnsOk.nil)) ItsOk.nil

def z5i (N : Nat) (x2 : (List UInt8)) (x3 : (List UInt8)) (x9 : Int) (x10 : Int) (rec : Int -> Option (List z7u)) (k0 : Option (List z7u)) (k1 : Option (List z7u)) : Option (List z7u) :=
 cond (decide (x10 < x9))
 ((z9a N x2 x3 x10).bind fun y =>
 zsw (y, ())
 (rec (IntKind.wrap IntKind.i64 (x10 + (1 : Int))))
 (k0))
 (k1)

def zd5 (N : Nat) (x2 : (List UInt8)) (x3 : (List UInt8)) (x9 : Int) (x10 : Int) (k0 : Option (List z7u)) (k1 : Option (List z7u)) : Option (List z7u) :=
 iter (fun (v : Int) r => z5i N x2 x3 x9 v (fun x10 => (r x10)) k0 k1) N x10

def z1ok (N : Nat) (i : ((List UInt8) × (List UInt8) × Int)) (v : Int) (r : Int -> Option (List z7u)) (K : Ex -> List A -> Option (List z7u)) : Option (List z7u) :=
 z5i N i.1 i.2.1 i.2.2 v (fun x10 => (r x10)) (K .ret (mkS [(0, .yld)] 20 ((), ()))) (K (.exit 0) (mkS [(0, .yld)] 20 ((), ())))

def z1mn (N : Nat) : Hd (List z7u) := fun st K => (unS [(0, .yld), (1, .v (.ptr .str)), (0, .v (.ptr .str)), (5, .v (.int .i64)), (0, .v (.int .i64))] 10 (restr [10, 9, 0, 2, 3] 0 st)).bind fun x => iter (fun v r => z1ok N ((fun x => (x.2.1, x.2.2.1, x.2.2.2.1)) x) v r K) N ((fun x => x.2.2.2.2.1) x)

def t1_61 (N : Nat) : Tab (List z7u) := []

theorem z1ka {N : Nat} {G : GY [.str]} (hG : zgz G) (hev : z1px G Tryz.prog (E_61 N) N L_61 zws) : YOk G Tryz.prog (zl zws [0, 1]) (z1mn N) :=
  zn6 hG (s := [(0, .yld), (1, .v (.ptr .str)), (0, .v (.ptr .str)), (5, .v (.int .i64)), (0, .v (.int .i64))]) (m := 10) (z1ok N) [10, 9, 0, 2, 3] N (fun x => (x.2.1, x.2.2.1, x.2.2.2.1)) (fun x => x.2.2.2.2.1) (fun i v => ((), i.1, i.2.1, i.2.2, v, ())) (fun _ => rfl) (hev (t1_61 N) TabOkY.nil [0, 0, 1]) (fun i v r K => by kernel_rfl)

def z6m (N : Nat) (x1 : Int) (x2 : (List UInt8)) (x3 : (List UInt8)) : Option (List z7u) :=
 zd5 N x2 x3 (IntKind.wrap IntKind.i64 (Int.tdiv (IntKind.wrap IntKind.i64 ((IntKind.wrap IntKind.i64 (x1 + (32 : Int))) - (1 : Int))) (32 : Int))) (0 : Int)
 (some ([] : List z7u))
 (some ([] : List z7u))

def t_61 (N : Nat) : Tab (List z7u) := [([0, 1], z1mn N)]

theorem z1c7 (N : Nat) (x : T.den (.pair (.ptr (.int .i64)) (.pair (.ptr .str) (.pair (.ptr .str) .unit)))) : z1gm (E_61 N) [.str] zsw N (t_61 N) L_61 Tryz.f123 [.v (.ptr (.int .i64)) x.1, .v (.ptr .str) x.2.1, .v (.ptr .str) x.2.2.1] = z6m N x.1 x.2.1 x.2.2.1 := by kernel_rfl

def zd (N : Nat) : Dat -> ItRes := zzr (ts := [.str]) (.pair (.ptr (.int .i64)) (.pair (.ptr .str) (.pair (.ptr .str) .unit))) (fun x => z6m N x.1 x.2.1 x.2.2.1)

theorem zf (N : Nat) : ItOk Tryz.prog glob 123 (zd N) := ItOk.of (ts := [.str]) (E := E_61 N) (H := t_61 N) (L := L_61) (N := N) (body := zws) (z1r2 N) rfl Tryz.func123 (by kernel_rfl) (by decide) (fun G hG hev => (TabOkY.cons (z1ka hG hev) TabOkY.nil)) (fun x y h => ⟨_, rfl, by rw [z1c7]; exact h⟩)

def z1ed : Code := (Tryz.f110.body).getD .skip

def L_62 : List (List Nat × List Nat) := [([0], [5, 3, 4]), ([0, 1], [6]), ([1, 1], [6])]

def E_62 (N : Nat) : Env := z16 tys glob [] [] [] [] false [] [(123, zd N), (66, zb N), (98, z7 N)]

theorem z1r1 (N : Nat) : EnvOk Tryz.prog (E_62 N) := zk mixed zp (FnsOk.nil) (ItsOk.cons (zf N) (ItsOk.cons (ze N) (ItsOk.cons (z8 N) (ItsOk.nil))))

def zjj (N : Nat) (key : (List UInt8)) (nonce : (List UInt8)) (n : Int) : Option (Int × DT8) :=
 some (n, (key, (nonce, ())))

def t_62 (N : Nat) : Tab (Int × DT8) := []

theorem z1c6 (N : Nat) (x : z1j SQ3) : z2j (E_62 N) N (t_62 N) L_62 Tryz.f110 (mkS SQ3 0 x) (z1h (.v (.fn 123 (.pair (.ptr (.int .i64)) (.pair (.ptr .str) (.pair (.ptr .str) .unit))))) 3) = zjj N x.1 x.2.1 x.2.2.1 := by kernel_rfl

def zd4 (N : Nat) : List A -> Res := z12 SQ3 (fun x => zjj N x.1 x.2.1 x.2.2.1) (z2k (.v (.fn 123 (.pair (.ptr (.int .i64)) (.pair (.ptr .str) (.pair (.ptr .str) .unit))))) 3)

theorem zmr (N : Nat) : Contract Tryz.prog glob 110 (zd4 N) :=
  Contract.of (E := E_62 N) (H := t_62 N) (L := L_62) (N := N) (body := z1ed) (K := (z1h (.v (.fn 123 (.pair (.ptr (.int .i64)) (.pair (.ptr .str) (.pair (.ptr .str) .unit))))) 3)) (z1r1 N) Tryz.func110 (by kernel_rfl) (by decide) (fun _ hb => TabOk.nil) (fun x y h => by rw [z1c6]; exact h) (zm (s := (.v (.fn 123 (.pair (.ptr (.int .i64)) (.pair (.ptr .str) (.pair (.ptr .str) .unit)))))) (m := 3))

def zsn : Code := (Tryz.f97.body).getD .skip

def L_63 : List (List Nat × List Nat) := [([0], [2, 0, 1]), ([0, 0, 1], [10, 2, 0, 1]), ([1, 0, 1], [2, 0, 1]), ([0, 0, 1, 0, 1], [6]), ([1, 0, 1, 0, 1], [6]), ([0, 1, 1], [0, 1, 2]), ([0, 1, 1, 1], [0, 1, 2, 7]), ([0, 0, 1, 1, 1, 1], [16, 7, 2]), (z13t, [7, 2]), (z1pp, [8, 7, 2]), ([0, 1, 0, 1, 0, 1, 1, 1, 1], [7, 2]), (z1fl, [7, 2]), ([1, 0, 1, 1, 1, 1], [7, 2]), ([0, 1, 1, 1, 1, 1], [6]), ([1, 1, 1, 1, 1, 1], [6])]

def z1sd (N : Nat) : Env := z16 tys glob [(110, zd4 N), (77, z2g N), (78, zv2)] [] [] [] false [(7, zsv)] [(123, zd N), (66, zb N), (98, z7 N)]

theorem z1r0 (N : Nat) : EnvOk Tryz.prog (z1sd N) := zk mixed zp (FnsOk.cons (zmr N) (FnsOk.cons (z48 N) (FnsOk.cons (z17h glob) (FnsOk.nil)))) (ItsOk.cons (zf N) (ItsOk.cons (ze N) (ItsOk.cons (z8 N) (ItsOk.nil))))

def zct (N : Nat) (n_1 : Int) (out_1 : zkx) (y : z7u) (rec : zkx -> Option (List UInt8)) (k0 : zkx -> Option (List UInt8)) : Option (List UInt8) :=
 (z1f N out_1 y.1).bind fun y1 =>
 rec y1.2.1

def z6t (N : Nat) (n : Int) (out : zkx) (x16 : (Int × DT8)) : Option (List z7u) := (z6m N x16.1 x16.2.1 x16.2.2.1)

def zcu (N : Nat) (n : Int) (out : zkx) (x16 : (Int × DT8)) : Int := n

def zhu (N : Nat) (n : Int) (out : zkx) (x16 : (Int × DT8)) : zkx := out

def zhv (N : Nat) (n : Int) (out : zkx) (x16 : (Int × DT8)) (k0 : zkx -> Option (List UInt8)) : Option (List UInt8) :=
 (z6t N n out x16).bind fun ys => zkb (fun (y : z7u) (v : zkx) r => zct N n v y (fun out_1 => (r out_1)) k0) (fun (v : zkx) => k0 v) ys out

def z1oj (N : Nat) (y : z7u) (i : Int) (v : zkx) (r : zkx -> Option (List UInt8)) (K : Ex -> List A -> Option (List UInt8)) : Option (List UInt8) :=
 zct N i v y (fun out_1 => (r out_1)) (fun a1 => (K .normal (mkS [(2, .v (.int .i64)), (4, .box zsv)] 15 (i, a1, ()))))

def z1mm (N : Nat) : Hd (List UInt8) := fun st K => (unS [(2, .v (.int .i64)), (4, .box zsv), (8, .v (.fn 123 (.pair (.ptr (.int .i64)) (.pair (.ptr .str) (.pair (.ptr .str) .unit)))))] 6 (restr [16, 7, 2] 0 st)).bind fun x => ((fun x => z6t N x.1 x.2.1 x.2.2.1) x).bind fun xs => zkb (fun y v r => z1oj N y ((fun x => zcu N x.1 x.2.1 x.2.2.1) x) v r K) (fun v => K .normal (mkS [(2, .v (.int .i64)), (4, .box zsv)] 15 ((fun i v => (i, v, ())) ((fun x => zcu N x.1 x.2.1 x.2.2.1) x) v))) xs ((fun x => zhu N x.1 x.2.1 x.2.2.1) x)

theorem z1k9 {N : Nat} {c : Ctx} (hb : Base Tryz.prog (z1sd N) c) : zo Tryz.prog c (zl zsn z13t) (z1mm N) :=
  z1a9 (ts := [.str]) (s := [(2, .v (.int .i64)), (4, .box zsv), (8, .v (.fn 123 (.pair (.ptr (.int .i64)) (.pair (.ptr .str) (.pair (.ptr .str) .unit)))))]) (m := 6) (s2 := [(2, .v (.int .i64)), (4, .box zsv)]) (m2 := 15) [16, 7, 2] (fun x => z6t N x.1 x.2.1 x.2.2.1) (fun x => zcu N x.1 x.2.1 x.2.2.1) (fun x => zhu N x.1 x.2.1 x.2.2.1) (fun i v => (i, v, ())) (rfF (z1sd N) N [.str] (zl zsn z13t)) (z1oj N) (zi hb N [] L_63 zsn TabOk.nil z13t _ rfl) (fun x K => by kernel_rfl) (fun y i v r K => by kernel_rfl)

def zb2 (N : Nat) (key : (List UInt8)) (nonce : (List UInt8)) (n : Int) : Option (List UInt8) :=
 cond (decide (n < (1 : Int)))
 (some ([] : List UInt8))
 (zhv N (if ((65536 : Int) < n) then (65536 : Int) else n) ((), (([] : List Int), ())) ((if ((65536 : Int) < n) then (65536 : Int) else n), (key, (nonce, ())))
 (fun out_1 => (zv3 (out_1, ())).bind fun y =>
 cond (decide (((0 : Int) <= (if ((65536 : Int) < n) then (65536 : Int) else n)) /\ ((if ((65536 : Int) < n) then (65536 : Int) else n) <= (((List.length y.1) : Nat) : Int))))
 (some (cut y.1 0 (Int.toNat (if ((65536 : Int) < n) then (65536 : Int) else n))))
 (none)))

def t_63 (N : Nat) : Tab (List UInt8) := [(z13t, z1mm N)]

theorem z1c5 (N : Nat) (x : z1j SQ3) : z2j (z1sd N) N (t_63 N) L_63 Tryz.f97 (mkS SQ3 0 x) (z1h (.v .str) 3) = zb2 N x.1 x.2.1 x.2.2.1 := by kernel_rfl

def zfx (N : Nat) : List A -> Res := z12 SQ3 (fun x => zb2 N x.1 x.2.1 x.2.2.1) (z2k (.v .str) 3)

theorem zpt (N : Nat) : Contract Tryz.prog glob 97 (zfx N) :=
  Contract.of (E := z1sd N) (H := t_63 N) (L := L_63) (N := N) (body := zsn) (K := (z1h (.v .str) 3)) (z1r0 N) Tryz.func97 (by kernel_rfl) (by decide) (fun _ hb => (TabOk.cons (z1k9 hb) TabOk.nil)) (fun x y h => by rw [z1c5]; exact h) (zm (s := (.v .str)) (m := 3))

def z1ec : Code := (Tryz.f73.body).getD .skip

def L_64 : List (List Nat × List Nat) := [([0], [2, 0, 1]), ([0, 0, 1], [9, 2, 0, 1]), ([1, 0, 1], [2, 0, 1]), ([0, 0, 1, 0, 1], [6]), ([1, 0, 1, 0, 1], [6]), ([0, 1, 1], [6]), ([1, 1, 1], [6])]

def E_64 (N : Nat) : Env := z16 tys glob [(97, zfx N), (96, zee N)] [] [] [] false [] [(123, zd N), (66, zb N), (98, z7 N)]

theorem z1qz (N : Nat) : EnvOk Tryz.prog (E_64 N) := zk mixed zp (FnsOk.cons (zpt N) (FnsOk.cons (zm8 N) (FnsOk.nil))) (ItsOk.cons (zf N) (ItsOk.cons (ze N) (ItsOk.cons (z8 N) (ItsOk.nil))))

def zd6 (N : Nat) (key : (List UInt8)) (nonce : (List UInt8)) (text : (List UInt8)) : Option (List UInt8) :=
 cond (decide ((65536 : Int) < (((List.length text) : Nat) : Int)))
 (some ([] : List UInt8))
 ((zb2 N key nonce (((List.length text) : Nat) : Int)).bind fun y =>
 (zdi N text y).bind fun y1 =>
 some y1)

def t_64 (N : Nat) : Tab (List UInt8) := []

theorem z1c4 (N : Nat) (x : z1j SQ2) : z2j (E_64 N) N (t_64 N) L_64 Tryz.f73 (mkS SQ2 0 x) (z1h (.v .str) 3) = zd6 N x.1 x.2.1 x.2.2.1 := by kernel_rfl

def zhw (N : Nat) : List A -> Res := z12 SQ2 (fun x => zd6 N x.1 x.2.1 x.2.2.1) (z2k (.v .str) 3)

theorem zrk (N : Nat) : Contract Tryz.prog glob 73 (zhw N) :=
  Contract.of (E := E_64 N) (H := t_64 N) (L := L_64) (N := N) (body := z1ec) (K := (z1h (.v .str) 3)) (z1qz N) Tryz.func73 (by kernel_rfl) (by decide) (fun _ hb => TabOk.nil) (fun x y h => by rw [z1c4]; exact h) (zm (s := (.v .str)) (m := 3))

def z1eb : Code := (Tryz.f101.body).getD .skip

def L_65 : List (List Nat × List Nat) := [([0], [5, 1, 2, 3, 0]), ([1], [0, 1, 2, 3]), ([0, 1], [0, 1, 2, 3])]

def E_65 (N : Nat) : Env := z16 tys glob [(73, zhw N), (102, zkq N), (74, zgt N)] [] [] [0, 1, 2, 3] false [] [(123, zd N), (66, zb N), (98, z7 N)]

theorem z1qy (N : Nat) : EnvOk Tryz.prog (E_65 N) := zk mixed zp (FnsOk.cons (zrk N) (FnsOk.cons (zun N) (FnsOk.cons (zqe N) (FnsOk.nil)))) (ItsOk.cons (zf N) (ItsOk.cons (ze N) (ItsOk.cons (z8 N) (ItsOk.nil))))

def zdw (N : Nat) (x0 : Int) (x1 : (List UInt8)) (x2 : (List UInt8)) (x3 : (List UInt8)) : Option ((Unit) × (Int × (List UInt8) × (List UInt8) × (List UInt8) × Unit)) :=
 cond (x0 == (0 : Int))
 ((zc2 N x1).bind fun y =>
 (zgu N x2).bind fun y1 =>
 cond (decide (((0 : Int) <= (IntKind.wrap IntKind.i64 ((((List.length x2) : Nat) : Int) - (32 : Int)))) /\ ((IntKind.wrap IntKind.i64 ((((List.length x2) : Nat) : Int) - (32 : Int))) <= (((List.length x2) : Nat) : Int))))
 (cond (decide (((0 : Int) <= (16 : Int)) /\ ((16 : Int) <= (IntKind.wrap IntKind.i64 ((((List.length x2) : Nat) : Int) - (32 : Int))))))
 ((zd6 N y y1 (cut x2 16 (Int.toNat (IntKind.wrap IntKind.i64 ((((List.length x2) : Nat) : Int) - (32 : Int)))))).bind fun y2 =>
 some ((), (x0, (x1, (x2, (y2, ()))))))
 (none))
 (none))
 (some ((), (x0, (x1, (x2, (x3, ()))))))

def t_65 (N : Nat) : Tab ((Unit) × (Int × (List UInt8) × (List UInt8) × (List UInt8) × Unit)) := []

theorem z1c3 (N : Nat) (x : z1j SQ6) : z2j (E_65 N) N (t_65 N) L_65 Tryz.f101 (mkS SQ6 0 x) (zdl (.tup []) SQ6 0) = zdw N x.1 x.2.1 x.2.2.1 x.2.2.2.1 := by kernel_rfl

def zsk (N : Nat) : List A -> Res := z12 SQ6 (fun x => zdw N x.1 x.2.1 x.2.2.1 x.2.2.2.1) (zli (.tup []) SQ6 0)

theorem zsl (N : Nat) : ContractD Tryz.prog glob 101 (zsk N) :=
  ContractD.of (E := E_65 N) (H := t_65 N) (L := L_65) (N := N) (body := z1eb) (K := (zdl (.tup []) SQ6 0)) (z1qy N) Tryz.func101 (by kernel_rfl) (by decide) (fun _ hb => TabOk.nil) (fun x y h => by rw [z1c3]; exact h) (zao (s := (.tup [])) (os := SQ6) (m := 0))

def z1ea : Code := (Tryz.f75.body).getD .skip

def L_66 : List (List Nat × List Nat) := [([0], [0, 1]), ([0, 1], [4]), ([1, 1], [4])]

def E_66 (N : Nat) : Env := z16 tys glob [(45, z32 N), (72, zgm N)] [] [] [] false [] [(123, zd N), (66, zb N), (98, z7 N)]

theorem z1qx (N : Nat) : EnvOk Tryz.prog (E_66 N) := zk mixed zp (FnsOk.cons (z4j N) (FnsOk.cons (zov N) (FnsOk.nil))) (ItsOk.cons (zf N) (ItsOk.cons (ze N) (ItsOk.cons (z8 N) (ItsOk.nil))))

def zp9 (N : Nat) (key : (List UInt8)) (body : (List UInt8)) : Option (List UInt8) :=
 (z2c N key ([([(116 : UInt8), (97 : UInt8), (103 : UInt8)] : List UInt8)] : List (List UInt8))).bind fun y =>
 (zhc N y body).bind fun y1 =>
 some y1

def t_66 (N : Nat) : Tab (List UInt8) := []

theorem z1c2 (N : Nat) (x : z1j SQ0) : z2j (E_66 N) N (t_66 N) L_66 Tryz.f75 (mkS SQ0 0 x) (z1h (.v .str) 2) = zp9 N x.1 x.2.1 := by kernel_rfl

def zp8 (N : Nat) : List A -> Res := z12 SQ0 (fun x => zp9 N x.1 x.2.1) (z2k (.v .str) 2)

theorem z107 (N : Nat) : Contract Tryz.prog glob 75 (zp8 N) :=
  Contract.of (E := E_66 N) (H := t_66 N) (L := L_66) (N := N) (body := z1ea) (K := (z1h (.v .str) 2)) (z1qx N) Tryz.func75 (by kernel_rfl) (by decide) (fun _ hb => TabOk.nil) (fun x y h => by rw [z1c2]; exact h) (zm (s := (.v .str)) (m := 2))

def z1e9 : Code := (Tryz.f103.body).getD .skip

def L_67 : List (List Nat × List Nat) := [([0], [1, 0]), ([0, 0, 1], [8, 1, 0]), ([1, 0, 1], [1, 0]), ([0, 0, 1, 0, 1], [4]), ([1, 0, 1, 0, 1], [4]), ([0, 0, 1, 1], [11, 1, 0]), ([1, 0, 1, 1], [1, 0]), ([0, 0, 1, 0, 1, 1], [4]), ([1, 0, 1, 0, 1, 1], [4]), ([0, 1, 1, 1], [1, 5, 0]), ([0, 0, 1, 1, 1, 1], [24]), ([1, 0, 1, 1, 1, 1], []), (z1pp, [4]), (z1fl, [4]), ([0, 1, 1, 1, 1, 1], [4]), ([1, 1, 1, 1, 1, 1], [4])]

def E_67 (N : Nat) : Env := z16 tys glob [(75, zp8 N), (57, zap N)] [] [] [] false [] [(123, zd N), (66, zb N), (98, z7 N)]

theorem z1qw (N : Nat) : EnvOk Tryz.prog (E_67 N) := zk mixed zp (FnsOk.cons (z107 N) (FnsOk.cons (zgn N) (FnsOk.nil))) (ItsOk.cons (zf N) (ItsOk.cons (ze N) (ItsOk.cons (z8 N) (ItsOk.nil))))

def z6s (N : Nat) (key : (List UInt8)) (s : (List UInt8)) : Option Int :=
 cond (decide ((((List.length s) : Nat) : Int) < (48 : Int)))
 (some (1 : Int))
 (cond (decide ((4144 : Int) < (((List.length s) : Nat) : Int)))
 (some (3 : Int))
 (cond (decide (((0 : Int) <= (IntKind.wrap IntKind.i64 ((((List.length s) : Nat) : Int) - (32 : Int)))) /\ ((IntKind.wrap IntKind.i64 ((((List.length s) : Nat) : Int) - (32 : Int))) <= (((List.length s) : Nat) : Int))))
 (cond (decide (((0 : Int) <= (IntKind.wrap IntKind.i64 ((((List.length s) : Nat) : Int) - (32 : Int)))) /\ ((IntKind.wrap IntKind.i64 ((((List.length s) : Nat) : Int) - (32 : Int))) <= (((List.length s) : Nat) : Int))))
 ((zp9 N key (cut s 0 (Int.toNat (IntKind.wrap IntKind.i64 ((((List.length s) : Nat) : Int) - (32 : Int)))))).bind fun y =>
 (zbx N (cut s (Int.toNat (IntKind.wrap IntKind.i64 ((((List.length s) : Nat) : Int) - (32 : Int)))) (List.length s)) y).bind fun y1 =>
 cond (!y1)
 (some (8 : Int))
 (some (0 : Int)))
 (none))
 (none)))

def t_67 (N : Nat) : Tab Int := []

theorem z1c1 (N : Nat) (x : z1j SQ0) : z2j (E_67 N) N (t_67 N) L_67 Tryz.f103 (mkS SQ0 0 x) (z1h (.v (.int .i64)) 2) = z6s N x.1 x.2.1 := by kernel_rfl

def zsj (N : Nat) : List A -> Res := z12 SQ0 (fun x => z6s N x.1 x.2.1) (z2k (.v (.int .i64)) 2)

theorem zum (N : Nat) : Contract Tryz.prog glob 103 (zsj N) :=
  Contract.of (E := E_67 N) (H := t_67 N) (L := L_67) (N := N) (body := z1e9) (K := (z1h (.v (.int .i64)) 2)) (z1qw N) Tryz.func103 (by kernel_rfl) (by decide) (fun _ hb => TabOk.nil) (fun x y h => by rw [z1c1]; exact h) (zm (s := (.v (.int .i64))) (m := 2))

def z8k (N : Nat) (key s : List UInt8) : Option (List UInt8 × Int × Unit) :=
 (z6s N key s).bind fun e => (zdw N e key s []).bind fun y => some (y.2.2.2.2.1, y.2.1, ())

def zml (N : Nat) : List A -> Res := z12 SQ0 (fun x => z8k N x.1 x.2.1) (z2k (.tup [.str, (.int .i64)]) 2)

end
end Go.Proofs.YtkipbccgnekoaaaGreatDoorLg
