import Derived.Test.YtkipbccgnekoaaaGreatDoorLgPrPra1
import Derived.Test.YtkipbccgnekoaaaGreatDoorLgPrPra2
import Derived.Test.YtkipbccgnekoaaaGreatDoorLgPrPra3
import Derived.WalkKit
import Derived.Tactics
import Derived.Tactics2
import Derived.Defers
import Derived.Lib.Hide
import Derived.Below
import Derived.Recover
import Derived.Orders
import Derived.WalkSmall
import Derived.LoopN
import Derived.Deep.RegionHeld3
import Derived.Laws.IdiomStrings
import Derived.Test.YtkipbccgnekoaaaGreatDoorLgW
import Derived.Test.YtkipbccgnekoaaaGreatDoorChecked
import Derived.KernelRfl
set_option linter.all false
set_option maxRecDepth 100000
namespace Go.Proofs.YtkipbccgnekoaaaGreatDoorLg
open Go Go.Lift

abbrev TT0 : T := (.pair .str (.pair (.sl (.pair .str (.pair .str .unit))) (.pair .str .unit)))

abbrev DT1 : Type := ((List UInt8) × ((List ((List UInt8) × ((List UInt8) × Unit))) × ((List UInt8) × Unit)))

abbrev DT2 : Type := ((DT1 × ((List DT1) × Unit)) × ((List Bool) × ((List ((List ((List UInt8) × ((List UInt8) × Unit))) × ((List (List UInt8)) × Unit))) × ((List (List UInt8)) × (Int × Unit)))))

abbrev TT3 : T := (.pair (.pair TT0 (.pair (.sl TT0) .unit)) (.pair (.own .bool) (.pair (.own (.pair (.sl (.pair .str (.pair .str .unit))) (.pair (.sl .str) .unit))) (.pair (.own .str) (.pair (.int .i64) .unit)))))

abbrev TT5 : T := (.pair (.sl .bool) (.pair (.sl .str) (.pair (.int .i64) (.pair (.int .i64) (.pair (.sl .str) .unit)))))

abbrev TT6 : T := (.pair .bool (.pair (.arr 8 (.int .u32)) (.pair .str (.pair (.int .i64) .unit))))

abbrev TT7 : T := (.pair TT0 (.pair (.sl TT0) .unit))

abbrev DT8 : Type := ((List UInt8) × ((List UInt8) × Unit))

abbrev DT9 : Type := (Bool × ((List Int) × ((List UInt8) × (Int × Unit))))

abbrev TT10 : T := (.pair .str (.pair .str .unit))

abbrev DT11 : Type := ((List UInt8) × Unit)

abbrev DT13 : Type := (DT1 × ((List DT1) × Unit))

abbrev TT14 : T := (.pair (.self 114) (.pair (.own (.byt 5)) .unit))

abbrev TT15 : T := (.pair (.ptr .str) (.pair (.ptr (.sl TT10)) (.pair (.ptr (.fn 41 .unit)) .unit)))

abbrev DT16 : Type := ((List UInt8) × (DT9 × Unit))

abbrev DT17 : Type := (Unit × ((List Int) × Unit))

abbrev PQ128 : List Nat := [18, 17, 3, 9, 4, 8]

abbrev PQ129 : List Nat := [1, 0, 1, 1, 1, 1, 1]

abbrev PQ117 : List Nat := [15, 14, 13, 3, 5, 0]

abbrev PQ91 : List Nat := [0, 1, 1, 1, 1, 1, 1]

abbrev PQ90 : List Nat := [0, 0, 1, 1, 1, 1, 1]

abbrev PQ72 : List Nat := [0, 0, 1, 0, 1, 1, 1]

abbrev PQ47 : List Nat := [0, 0, 0, 1, 0, 1, 1]

abbrev PQ34 : List Nat := [0, 1, 0, 1, 1, 1, 1]

abbrev PQ112 : List Nat := [10, 2, 9, 1, 4, 3, 8]

abbrev PQ126 : List Nat := [0, 1, 1, 1, 1, 1, 0, 1]

abbrev PQ125 : List Nat := [1, 0, 1, 0, 1, 1, 1, 1]

abbrev PQ124 : List Nat := [0, 1, 1, 1, 1, 1, 1, 1]

abbrev PQ65 : List Nat := [63, 62, 61, 0, 9, 8, 7]

abbrev PQ64 : List Nat := [0, 0, 1, 0, 1, 1, 1, 1]

abbrev PQ63 : List Nat := [0, 1, 0, 1, 1, 1, 1, 1]

abbrev PQ43 : List Nat := [1, 1, 0, 0, 1, 0, 1, 1]

abbrev PQ42 : List Nat := [1, 0, 0, 0, 1, 0, 1, 1]

abbrev PQ41 : List Nat := [0, 0, 0, 0, 1, 0, 1, 1]

abbrev PQ9 : List Nat := [0, 1, 0, 0, 1, 0, 1, 1]

abbrev SQ111 : List (Nat × AS) := [(0, .v TT0), (0, .v TT0)]

abbrev PQ109 : List Nat := [0, 0, 1, 0, 1, 1, 1, 1, 1]

abbrev PQ89 : List Nat := [1, 1, 0, 0, 1, 0, 1, 1, 1]

abbrev PQ88 : List Nat := [1, 0, 0, 0, 1, 0, 1, 1, 1]

abbrev PQ87 : List Nat := [0, 0, 0, 0, 1, 0, 1, 1, 1]

abbrev PQ62 : List Nat := [1, 1, 1, 0, 0, 1, 0, 1, 1]

abbrev PQ61 : List Nat := [0, 1, 1, 0, 0, 1, 0, 1, 1]

abbrev PQ60 : List Nat := [1, 0, 1, 0, 0, 1, 0, 1, 1]

abbrev PQ33 : List Nat := [1, 1, 0, 0, 0, 1, 0, 1, 1]

abbrev PQ29 : List Nat := [0, 1, 0, 0, 1, 0, 1, 1, 1]

abbrev SQ28 : List (Nat × AS) := [(0, .v .str), (0, .v TT7)]

abbrev SQ27 : List (Nat × AS) := [(0, .v .str), (0, .v TT0)]

abbrev SQ106 : List (Nat × AS) := [(0, .v .str), (0, .v TT10)]

abbrev SQ0 : List (Nat × AS) := [(0, .v .str), (0, .v .str)]

abbrev PQ119 : List Nat := [7, 8, 9, 10, 11, 5, 6, 0, 1]

abbrev SQ102 : List (Nat × AS) := [(0, .box TT3), (0, .v .str)]

abbrev PQ78 : List Nat := [11, 7, 8, 9, 10, 5, 6, 0, 1]

abbrev SQ76 : List (Nat × AS) := [(0, .box TT6), (0, .v .str)]

abbrev PQ132 : List Nat := [0, 0, 1, 1, 1, 1, 1, 1, 0, 1]

abbrev PQ99 : List Nat := [0, 1, 0, 1, 1, 1, 1, 1, 0, 1]

abbrev PQ98 : List Nat := [1, 0, 0, 1, 0, 0, 1, 0, 1, 1]

abbrev SQ95 : List (Nat × AS) := [(0, .v (.arr 8 (.int .u32)))]

abbrev PQ71 : List Nat := [1, 1, 0, 0, 0, 1, 0, 1, 1, 1]

abbrev SQ70 : List (Nat × AS) := [(2, .box TT0), (0, .box TT0)]

abbrev SQ38 : List (Nat × AS) := [(0, .box TT3), (6, .v .bool)]

abbrev PQ21 : List Nat := [0, 0, 0, 1, 0, 0, 1, 0, 1, 1]

abbrev PQ82 : List Nat := [0, 1, 0, 0, 1, 1, 0, 0, 1, 0, 1]

abbrev PQ81 : List Nat := [1, 0, 0, 1, 1, 0, 0, 1, 0, 1, 1]

abbrev PQ54 : List Nat := [0, 0, 0, 1, 0, 0, 1, 0, 1, 1, 1]

abbrev PQ44 : List Nat := [0, 0, 0, 1, 1, 0, 0, 1, 0, 1, 1]

abbrev SQ73 : List (Nat × AS) := [(0, .v .str), (0, .v (.sl .str))]

abbrev SQ15 : List (Nat × AS) := [(0, .v .str), (0, .v (.int .i64))]

abbrev PQ127 : List Nat := [0, 1, 1, 0, 0, 1, 0, 0, 1, 0, 1, 1]

abbrev PQ123 : List Nat := [1, 0, 1, 0, 0, 1, 0, 0, 1, 0, 1, 1]

abbrev PQ122 : List Nat := [0, 0, 1, 0, 0, 1, 0, 0, 1, 0, 1, 1]

abbrev PQ121 : List Nat := [0, 0, 0, 0, 1, 0, 0, 1, 0, 1, 1, 1]

abbrev SQ59 : List (Nat × AS) := [(0, .v (.sl .bool)), (0, .v .bool)]

abbrev PQ84 : List Nat := [0, 1, 1, 0, 0, 1, 0, 0, 1, 0, 1, 1, 1]

abbrev SQ51 : List (Nat × AS) := [(0, .v (.pair TT10 (.pair TT0 .unit)))]

abbrev SQ18 : List (Nat × AS) := [(0, .v (.int .u32)), (0, .v (.int .i64))]

abbrev SQ2 : List (Nat × AS) := [(0, .v .str), (0, .v .str), (0, .v .str)]

abbrev SQ40 : List (Nat × AS) := [(0, .v (.arr 8 (.int .u32))), (0, .v .str)]

abbrev SQ22 : List (Nat × AS) := [(0, .v .str), (3, .box TT0), (0, .box TT0)]

abbrev PQ100 : List Nat := [0, 1, 0, 0, 1, 1, 0, 0, 1, 0, 0, 1, 0, 1, 1]

abbrev PQ85 : List Nat := [0, 1, 0, 0, 1, 0, 1, 0, 0, 1, 0, 0, 1, 0, 1, 1]

abbrev SQ3 : List (Nat × AS) := [(0, .v .str), (0, .v .str), (0, .v (.int .i64))]

abbrev PQ115 : List Nat := [0, 1, 1, 0, 0, 1, 0, 0, 1, 0, 1, 1, 1, 1, 1, 0, 1]

abbrev SQ114 : List (Nat × AS) := [(0, .box TT3), (6, .v .bool), (0, .v (.int .i64))]

abbrev SQ113 : List (Nat × AS) := [(0, .v (.arr 8 (.int .u32))), (0, .v (.int .u32))]

abbrev PQ75 : List Nat := [0, 0, 0, 1, 0, 0, 1, 1, 0, 0, 1, 0, 0, 1, 0, 1, 1]

abbrev PQ110 : List Nat := [0, 0, 0, 1, 0, 0, 1, 0, 1, 0, 0, 1, 0, 0, 1, 0, 1, 1]

abbrev SQ57 : List (Nat × AS) := [(0, .v (.int .i64)), (2, .v .str), (0, .v (.int .i64))]

abbrev SQ104 : List (Nat × AS) := [(0, .v (.sl .str)), (2, .row .str), (0, .v (.int .i64))]

abbrev SQ5 : List (Nat × AS) := [(1, .box TT0), (1, .v (.int .i64)), (0, .v (.int .i64))]

abbrev SQ20 : List (Nat × AS) := [(0, .v .str), (0, .v .str), (3, .v .str), (0, .v (.int .i64))]

abbrev SQ17 : List (Nat × AS) := [(0, .v .str), (3, .box TT0), (0, .box TT0), (2, .v (.int .i64))]

abbrev SQ12 : List (Nat × AS) := [(1, .v .str), (2, .box TT0), (1, .box (.pair TT10 (.pair TT0 .unit)))]

abbrev SQ6 : List (Nat × AS) := [(0, .box (.int .i64)), (0, .box .str), (0, .box .str), (0, .box .str)]

abbrev SQ7 : List (Nat × AS) := [(0, .v (.sl .str)), (2, .row .str), (0, .v (.int .i64)), (0, .v (.int .i64))]

abbrev SQ101 : List (Nat × AS) := [(2, .box (.arr 64 (.int .u32))), (0, .box (.arr 64 (.int .u32))), (2, .v (.int .i64))]

abbrev SQ97 : List (Nat × AS) := [(0, .box TT3), (0, .v .str), (9, .v (.sl TT0)), (0, .v (.int .i64)), (0, .v (.int .i64))]

abbrev SQ96 : List (Nat × AS) := [(0, .v .str), (0, .v .str), (3, .v (.int .u8)), (7, .v (.int .i64)), (0, .v (.int .i64))]

abbrev SQ94 : List (Nat × AS) := [(0, .v .str), (0, .v .str), (3, .row (.int .u8)), (8, .v (.int .i64)), (0, .v (.int .i64))]

abbrev SQ36 : List (Nat × AS) := [(0, .v (.arr 8 (.int .u32))), (0, .v .str), (0, .v (.int .i64)), (0, .v (.sl (.int .u32)))]

abbrev SQ92 : List (Nat × AS) := [(3, .v .str), (0, .v (.sl (.int .u32))), (0, .box (.arr 8 (.int .u32))), (0, .v (.int .i64))]

abbrev SQ80 : List (Nat × AS) := [(1, .v .str), (0, .box (.arr 8 (.int .u32))), (1, .box (.arr 8 (.int .u32))), (0, .v (.int .i64))]

abbrev SQ79 : List (Nat × AS) := [(0, .v .str), (1, .box (.arr 64 (.int .u32))), (0, .box (.arr 64 (.int .u32))), (7, .v (.int .i64))]

abbrev SQ67 : List (Nat × AS) := [(0, .v (.int .u64)), (0, .v (.int .i64)), (3, .row (.int .u8)), (3, .v (.int .i64)), (0, .v (.int .i64))]

abbrev SQ56 : List (Nat × AS) := [(3, .v (.sl (.int .u32))), (0, .box (.arr 8 (.int .u32))), (3, .box (.arr 8 (.int .u32))), (0, .row (.int .u32))]

abbrev SQ53 : List (Nat × AS) := [(4, .box (.arr 8 (.int .u32))), (3, .box (.arr 8 (.int .u32))), (8, .box (.arr 8 (.int .u32))), (6, .v (.int .i64))]

abbrev SQ52 : List (Nat × AS) := [(2, .box (.arr 8 (.int .u32))), (1, .box (.arr 8 (.int .u32))), (1, .box (.arr 8 (.int .u32))), (22, .v (.int .i64))]

abbrev SQ19 : List (Nat × AS) := [(0, .box TT3), (0, .v .str), (3, .v (.int .i64)), (0, .box TT0), (4, .v (.sl TT0)), (0, .v (.int .i64)), (0, .v (.int .i64))]

abbrev SQ39 : List (Nat × AS) := [(3, .v (.sl (.int .u32))), (0, .box (.arr 8 (.int .u32))), (3, .box (.arr 8 (.int .u32))), (0, .row (.int .u32)), (2, .v (.int .i64))]

abbrev SQ32 : List (Nat × AS) := [(2, .box (.arr 8 (.int .u32))), (1, .box (.arr 8 (.int .u32))), (0, .box (.arr 64 (.int .u32))), (0, .box (.arr 8 (.int .u32))), (9, .v (.int .i64))]

abbrev SQ25 : List (Nat × AS) := [(3, .v (.sl (.int .u32))), (0, .box (.arr 8 (.int .u32))), (3, .box (.arr 8 (.int .u32))), (0, .row (.int .u32)), (7, .box (.arr 8 (.int .u32))), (0, .v (.int .i64))]

abbrev SQ1 : List (Nat × AS) := [(0, .v .str), (0, .v .str), (3, .v .str), (0, .v (.int .i64)), (0, .v (.int .i64)), (0, .v (.int .i64)), (0, .v (.int .i64)), (0, .v (.int .i64)), (0, .v (.int .i64))]

abbrev SQ24 : List (Nat × AS) := [(0, .box TT3), (6, .v .bool), (0, .v (.int .i64)), (0, .box (.pair (.sl TT10) (.pair (.sl .str) .unit))), (51, .v (.sl TT10)), (0, .v (.int .i64)), (0, .v (.int .i64))]

abbrev SQ23 : List (Nat × AS) := [(1, .v .str), (0, .v (.int .i64)), (0, .v (.sl (.int .u32))), (0, .box (.arr 8 (.int .u32))), (3, .box (.arr 8 (.int .u32))), (0, .row (.int .u32)), (0, .v (.int .i64))]

noncomputable def ty3 : TyI := ⟨(Go.TypeDesc.int IntKind.i64), 1, 8, (.int .i64), (0 : Int), false⟩

theorem ty3_ok : TyOk Tryz.prog 3 ty3 := TyOk.of (by kernel_rfl) (by kernel_rfl) (by kernel_rfl) (by kernel_rfl)

noncomputable def ty4 : TyI := ⟨Go.TypeDesc.bool, 1, 1, .bool, false, false⟩

theorem ty4_ok : TyOk Tryz.prog 4 ty4 := TyOk.of (by kernel_rfl) (by kernel_rfl) (by kernel_rfl) (by kernel_rfl)

noncomputable def ty5 : TyI := ⟨(Go.TypeDesc.int IntKind.u8), 1, 1, (.int .u8), (0 : Int), false⟩

theorem ty5_ok : TyOk Tryz.prog 5 ty5 := TyOk.of (by kernel_rfl) (by kernel_rfl) (by kernel_rfl) (by kernel_rfl)

noncomputable def ty9 : TyI := ⟨Go.TypeDesc.string, 1, 16, .str, ([] : List UInt8), false⟩

theorem ty9_ok : TyOk Tryz.prog 9 ty9 := TyOk.of (by kernel_rfl) (by kernel_rfl) (by kernel_rfl) (by kernel_rfl)

noncomputable def ty22 : TyI := ⟨(Go.TypeDesc.slice 67), 1, 24, (.sl TT10), ([] : List DT8), false⟩

theorem ty22_ok : TyOk Tryz.prog 22 ty22 := TyOk.of (by kernel_rfl) (by kernel_rfl) (by kernel_rfl) (by kernel_rfl)

noncomputable def ty24 : TyI := ⟨(Go.TypeDesc.struct (List.toArray ([(Go.Field.mk "ID" 9 0 false "" "" 0), (Go.Field.mk "Links" 22 1 false "" "" 16), (Go.Field.mk "Tag" 9 2 false "" "" 40)] : List Go.Field))), 3, 56, TT0, (([] : List UInt8), ([] : List DT8), ([] : List UInt8), ()), true⟩

theorem ty24_ok : TyOk Tryz.prog 24 ty24 := TyOk.of (by kernel_rfl) (by kernel_rfl) (by kernel_rfl) (by kernel_rfl)

noncomputable def ty25 : TyI := ⟨(Go.TypeDesc.slice 24), 1, 24, (.sl TT0), ([] : List DT1), false⟩

theorem ty25_ok : TyOk Tryz.prog 25 ty25 := TyOk.of (by kernel_rfl) (by kernel_rfl) (by kernel_rfl) (by kernel_rfl)

noncomputable def ty27 : TyI := ⟨(Go.TypeDesc.struct (List.toArray ([(Go.Field.mk "Token" 24 0 false "" "" 0), (Go.Field.mk "More" 25 3 false "" "" 56)] : List Go.Field))), 4, 80, TT7, ((([] : List UInt8), ([] : List DT8), ([] : List UInt8), ()), ([] : List DT1), ()), true⟩

theorem ty27_ok : TyOk Tryz.prog 27 ty27 := TyOk.of (by kernel_rfl) (by kernel_rfl) (by kernel_rfl) (by kernel_rfl)

noncomputable def ty30 : TyI := ⟨(Go.TypeDesc.slice 9), 1, 24, (.sl .str), ([] : List (List UInt8)), false⟩

theorem ty30_ok : TyOk Tryz.prog 30 ty30 := TyOk.of (by kernel_rfl) (by kernel_rfl) (by kernel_rfl) (by kernel_rfl)

noncomputable def ty31 : TyI := ⟨(Go.TypeDesc.int IntKind.i64), 1, 8, (.int .i64), (0 : Int), false⟩

theorem ty31_ok : TyOk Tryz.prog 31 ty31 := TyOk.of (by kernel_rfl) (by kernel_rfl) (by kernel_rfl) (by kernel_rfl)

noncomputable def ty34 : TyI := ⟨(Go.TypeDesc.slice 4), 1, 24, (.sl .bool), ([] : List Bool), false⟩

theorem ty34_ok : TyOk Tryz.prog 34 ty34 := TyOk.of (by kernel_rfl) (by kernel_rfl) (by kernel_rfl) (by kernel_rfl)

noncomputable def ty36 : TyI := ⟨(Go.TypeDesc.struct (List.toArray ([(Go.Field.mk "Used" 34 0 false "" "" 0), (Go.Field.mk "Texts" 30 1 false "" "" 24), (Go.Field.mk "Work" 3 2 false "" "" 48), (Go.Field.mk "E" 31 3 false "" "" 56), (Go.Field.mk "Summed" 30 4 false "" "" 64)] : List Go.Field))), 5, 88, TT5, (([] : List Bool), ([] : List (List UInt8)), (0 : Int), (0 : Int), ([] : List (List UInt8)), ()), true⟩

theorem ty36_ok : TyOk Tryz.prog 36 ty36 := TyOk.of (by kernel_rfl) (by kernel_rfl) (by kernel_rfl) (by kernel_rfl)

noncomputable def ty42 : TyI := ⟨(Go.TypeDesc.func (List.toArray ([24] : List Nat)) (List.toArray ([4] : List Nat)) false), 1, 8, .opq, Go.Value.nilFunc, false⟩

theorem ty42_ok : TyOk Tryz.prog 42 ty42 := TyOk.of (by kernel_rfl) (by kernel_rfl) (by kernel_rfl) (by kernel_rfl)

noncomputable def ty58 : TyI := ⟨(Go.TypeDesc.pointer 63), 1, 8, .opq, (Go.Value.pointer none), false⟩

theorem ty58_ok : TyOk Tryz.prog 58 ty58 := TyOk.of (by kernel_rfl) (by kernel_rfl) (by kernel_rfl) (by kernel_rfl)

noncomputable def ty61 : TyI := ⟨(Go.TypeDesc.slice 97), 1, 24, (.sl (.pair (.sl TT10) (.pair (.sl .str) .unit))), ([] : List ((List DT8) × ((List (List UInt8)) × Unit))), false⟩

theorem ty61_ok : TyOk Tryz.prog 61 ty61 := TyOk.of (by kernel_rfl) (by kernel_rfl) (by kernel_rfl) (by kernel_rfl)

noncomputable def ty63 : TyI := ⟨(Go.TypeDesc.struct (List.toArray ([(Go.Field.mk "b" 27 0 false "" "porter/verify" 0), (Go.Field.mk "used" 34 4 false "" "porter/verify" 80), (Go.Field.mk "list" 61 5 false "" "porter/verify" 104), (Go.Field.mk "texts" 30 6 false "" "porter/verify" 128), (Go.Field.mk "work" 3 7 false "" "porter/verify" 152)] : List Go.Field))), 8, 160, (.pair TT7 (.pair (.sl .bool) (.pair (.sl (.pair (.sl TT10) (.pair (.sl .str) .unit))) (.pair (.sl .str) (.pair (.int .i64) .unit))))), (((([] : List UInt8), ([] : List DT8), ([] : List UInt8), ()), ([] : List DT1), ()), ([] : List Bool), ([] : List ((List DT8) × ((List (List UInt8)) × Unit))), ([] : List (List UInt8)), (0 : Int), ()), true⟩

theorem ty63_ok : TyOk Tryz.prog 63 ty63 := TyOk.of (by kernel_rfl) (by kernel_rfl) (by kernel_rfl) (by kernel_rfl)

noncomputable def ty64 : TyI := ⟨(Go.TypeDesc.slice 30), 1, 24, (.sl (.sl .str)), ([] : List (List (List UInt8))), false⟩

theorem ty64_ok : TyOk Tryz.prog 64 ty64 := TyOk.of (by kernel_rfl) (by kernel_rfl) (by kernel_rfl) (by kernel_rfl)

noncomputable def ty67 : TyI := ⟨(Go.TypeDesc.struct (List.toArray ([(Go.Field.mk "Text" 9 0 false "" "" 0), (Go.Field.mk "Seal" 9 1 false "" "" 16)] : List Go.Field))), 2, 32, TT10, (([] : List UInt8), ([] : List UInt8), ()), true⟩

theorem ty67_ok : TyOk Tryz.prog 67 ty67 := TyOk.of (by kernel_rfl) (by kernel_rfl) (by kernel_rfl) (by kernel_rfl)

noncomputable def ty76 : TyI := ⟨(Go.TypeDesc.func (List.toArray ([103] : List Nat)) (List.toArray ([] : List Nat)) false), 1, 8, .opq, Go.Value.nilFunc, false⟩

theorem ty76_ok : TyOk Tryz.prog 76 ty76 := TyOk.of (by kernel_rfl) (by kernel_rfl) (by kernel_rfl) (by kernel_rfl)

noncomputable def ty78 : TyI := ⟨Go.TypeDesc.string, 1, 16, .str, ([] : List UInt8), false⟩

theorem ty78_ok : TyOk Tryz.prog 78 ty78 := TyOk.of (by kernel_rfl) (by kernel_rfl) (by kernel_rfl) (by kernel_rfl)

noncomputable def ty79 : TyI := ⟨(Go.TypeDesc.func (List.toArray ([78, 67] : List Nat)) (List.toArray ([78] : List Nat)) false), 1, 8, .opq, Go.Value.nilFunc, false⟩

theorem ty79_ok : TyOk Tryz.prog 79 ty79 := TyOk.of (by kernel_rfl) (by kernel_rfl) (by kernel_rfl) (by kernel_rfl)

noncomputable def ty89 : TyI := ⟨(Go.TypeDesc.struct (List.toArray ([(Go.Field.mk "Link" 67 0 true "" "" 0), (Go.Field.mk "to" 24 2 false "" "porter/holder" 32)] : List Go.Field))), 5, 88, (.pair TT10 (.pair TT0 .unit)), ((([] : List UInt8), ([] : List UInt8), ()), (([] : List UInt8), ([] : List DT8), ([] : List UInt8), ()), ()), true⟩

theorem ty89_ok : TyOk Tryz.prog 89 ty89 := TyOk.of (by kernel_rfl) (by kernel_rfl) (by kernel_rfl) (by kernel_rfl)

noncomputable def ty97 : TyI := ⟨(Go.TypeDesc.struct (List.toArray ([(Go.Field.mk "links" 22 0 false "" "porter/verify" 0), (Go.Field.mk "tags" 30 1 false "" "porter/verify" 24)] : List Go.Field))), 2, 48, (.pair (.sl TT10) (.pair (.sl .str) .unit)), (([] : List DT8), ([] : List (List UInt8)), ()), true⟩

theorem ty97_ok : TyOk Tryz.prog 97 ty97 := TyOk.of (by kernel_rfl) (by kernel_rfl) (by kernel_rfl) (by kernel_rfl)

noncomputable def ty103 : TyI := ⟨(Go.TypeDesc.func (List.toArray ([78] : List Nat)) (List.toArray ([4] : List Nat)) false), 1, 8, .opq, Go.Value.nilFunc, false⟩

theorem ty103_ok : TyOk Tryz.prog 103 ty103 := TyOk.of (by kernel_rfl) (by kernel_rfl) (by kernel_rfl) (by kernel_rfl)

noncomputable def ty104 : TyI := ⟨(Go.TypeDesc.slice 106), 1, 24, (.sl (.int .u32)), ([] : List Int), false⟩

theorem ty104_ok : TyOk Tryz.prog 104 ty104 := TyOk.of (by kernel_rfl) (by kernel_rfl) (by kernel_rfl) (by kernel_rfl)

noncomputable def ty106 : TyI := ⟨(Go.TypeDesc.int IntKind.u32), 1, 4, (.int .u32), (0 : Int), false⟩

theorem ty106_ok : TyOk Tryz.prog 106 ty106 := TyOk.of (by kernel_rfl) (by kernel_rfl) (by kernel_rfl) (by kernel_rfl)

noncomputable def ty107 : TyI := ⟨(Go.TypeDesc.array 8 106), 8, 32, (.arr 8 (.int .u32)), ([(0 : Int), (0 : Int), (0 : Int), (0 : Int), (0 : Int), (0 : Int), (0 : Int), (0 : Int)] : List Int), true⟩

theorem ty107_ok : TyOk Tryz.prog 107 ty107 := TyOk.of (by kernel_rfl) (by kernel_rfl) (by kernel_rfl) (by kernel_rfl)

noncomputable def ty111 : TyI := ⟨(Go.TypeDesc.pointer 114), 1, 8, .opq, (Go.Value.pointer none), false⟩

theorem ty111_ok : TyOk Tryz.prog 111 ty111 := TyOk.of (by kernel_rfl) (by kernel_rfl) (by kernel_rfl) (by kernel_rfl)

noncomputable def ty112 : TyI := ⟨(Go.TypeDesc.slice 5), 1, 24, (.sl (.int .u8)), ([] : List Int), false⟩

theorem ty112_ok : TyOk Tryz.prog 112 ty112 := TyOk.of (by kernel_rfl) (by kernel_rfl) (by kernel_rfl) (by kernel_rfl)

noncomputable def ty114 : TyI := ⟨(Go.TypeDesc.struct (List.toArray ([(Go.Field.mk "addr" 111 0 false "" "strings" 0), (Go.Field.mk "buf" 112 1 false "" "strings" 8)] : List Go.Field))), 2, 32, (.pair .opq (.pair (.sl (.int .u8)) .unit)), ((Go.Value.pointer none), ([] : List Int), ()), true⟩

theorem ty114_ok : TyOk Tryz.prog 114 ty114 := TyOk.of (by kernel_rfl) (by kernel_rfl) (by kernel_rfl) (by kernel_rfl)

noncomputable def ty116 : TyI := ⟨(Go.TypeDesc.func (List.toArray ([134] : List Nat)) (List.toArray ([] : List Nat)) false), 1, 8, .opq, Go.Value.nilFunc, false⟩

theorem ty116_ok : TyOk Tryz.prog 116 ty116 := TyOk.of (by kernel_rfl) (by kernel_rfl) (by kernel_rfl) (by kernel_rfl)

noncomputable def ty119 : TyI := ⟨(Go.TypeDesc.interface (List.toArray ([("Error", 122)] : List (String × Nat)))), 1, 16, .opq, Go.Value.nilIface, false⟩

theorem ty119_ok : TyOk Tryz.prog 119 ty119 := TyOk.of (by kernel_rfl) (by kernel_rfl) (by kernel_rfl) (by kernel_rfl)

noncomputable def ty131 : TyI := ⟨(Go.TypeDesc.int IntKind.u64), 1, 8, (.int .u64), (0 : Int), false⟩

theorem ty131_ok : TyOk Tryz.prog 131 ty131 := TyOk.of (by kernel_rfl) (by kernel_rfl) (by kernel_rfl) (by kernel_rfl)

noncomputable def ty132 : TyI := ⟨(Go.TypeDesc.int IntKind.u64), 1, 8, (.int .u64), (0 : Int), false⟩

theorem ty132_ok : TyOk Tryz.prog 132 ty132 := TyOk.of (by kernel_rfl) (by kernel_rfl) (by kernel_rfl) (by kernel_rfl)

noncomputable def ty134 : TyI := ⟨(Go.TypeDesc.func (List.toArray ([9] : List Nat)) (List.toArray ([4] : List Nat)) false), 1, 8, .opq, Go.Value.nilFunc, false⟩

theorem ty134_ok : TyOk Tryz.prog 134 ty134 := TyOk.of (by kernel_rfl) (by kernel_rfl) (by kernel_rfl) (by kernel_rfl)

noncomputable def ty138 : TyI := ⟨(Go.TypeDesc.func (List.toArray ([146] : List Nat)) (List.toArray ([] : List Nat)) false), 1, 8, .opq, Go.Value.nilFunc, false⟩

theorem ty138_ok : TyOk Tryz.prog 138 ty138 := TyOk.of (by kernel_rfl) (by kernel_rfl) (by kernel_rfl) (by kernel_rfl)

noncomputable def ty140 : TyI := ⟨(Go.TypeDesc.pointer 152), 1, 8, .opq, (Go.Value.pointer none), false⟩

theorem ty140_ok : TyOk Tryz.prog 140 ty140 := TyOk.of (by kernel_rfl) (by kernel_rfl) (by kernel_rfl) (by kernel_rfl)

noncomputable def ty146 : TyI := ⟨(Go.TypeDesc.func (List.toArray ([9, 4] : List Nat)) (List.toArray ([4] : List Nat)) false), 1, 8, .opq, Go.Value.nilFunc, false⟩

theorem ty146_ok : TyOk Tryz.prog 146 ty146 := TyOk.of (by kernel_rfl) (by kernel_rfl) (by kernel_rfl) (by kernel_rfl)

noncomputable def ty149 : TyI := ⟨(Go.TypeDesc.array 8 106), 8, 32, (.arr 8 (.int .u32)), ([(0 : Int), (0 : Int), (0 : Int), (0 : Int), (0 : Int), (0 : Int), (0 : Int), (0 : Int)] : List Int), true⟩

theorem ty149_ok : TyOk Tryz.prog 149 ty149 := TyOk.of (by kernel_rfl) (by kernel_rfl) (by kernel_rfl) (by kernel_rfl)

noncomputable def ty152 : TyI := ⟨(Go.TypeDesc.struct (List.toArray ([(Go.Field.mk "made" 4 0 false "" "porter/sha" 0), (Go.Field.mk "words" 149 1 false "" "porter/sha" 4), (Go.Field.mk "rest" 9 9 false "" "porter/sha" 40), (Go.Field.mk "long" 3 10 false "" "porter/sha" 56)] : List Go.Field))), 11, 64, TT6, (false, ([(0 : Int), (0 : Int), (0 : Int), (0 : Int), (0 : Int), (0 : Int), (0 : Int), (0 : Int)] : List Int), ([] : List UInt8), (0 : Int), ()), true⟩

theorem ty152_ok : TyOk Tryz.prog 152 ty152 := TyOk.of (by kernel_rfl) (by kernel_rfl) (by kernel_rfl) (by kernel_rfl)

noncomputable def ty164 : TyI := ⟨(Go.TypeDesc.array 64 106), 64, 256, (.arr 64 (.int .u32)), ((0 : Int) :: (0 : Int) :: (0 : Int) :: (0 : Int) :: (0 : Int) :: (0 : Int) :: (0 : Int) :: (0 : Int) :: (0 : Int) :: (0 : Int) :: (0 : Int) :: (0 : Int) :: (0 : Int) :: (0 : Int) :: (0 : Int) :: (0 : Int) :: (0 : Int) :: (0 : Int) :: (0 : Int) :: (0 : Int) :: (0 : Int) :: (0 : Int) :: (0 : Int) :: (0 : Int) :: (0 : Int) :: (0 : Int) :: (0 : Int) :: (0 : Int) :: (0 : Int) :: (0 : Int) :: (0 : Int) :: (0 : Int) :: (0 : Int) :: (0 : Int) :: (0 : Int) :: (0 : Int) :: (0 : Int) :: (0 : Int) :: (0 : Int) :: (0 : Int) :: (0 : Int) :: (0 : Int) :: (0 : Int) :: (0 : Int) :: (0 : Int) :: (0 : Int) :: (0 : Int) :: (0 : Int) :: (0 : Int) :: (0 : Int) :: (0 : Int) :: (0 : Int) :: (0 : Int) :: (0 : Int) :: (0 : Int) :: (0 : Int) :: (0 : Int) :: (0 : Int) :: (0 : Int) :: (0 : Int) :: (0 : Int) :: (0 : Int) :: (0 : Int) :: (0 : Int) :: ([] : List Int)), true⟩

theorem ty164_ok : TyOk Tryz.prog 164 ty164 := TyOk.of (by kernel_rfl) (by kernel_rfl) (by kernel_rfl) (by kernel_rfl)

noncomputable def tys : List (Nat × TyI) := [(3, ty3), (4, ty4), (5, ty5), (9, ty9), (22, ty22), (24, ty24), (25, ty25), (27, ty27), (30, ty30), (31, ty31), (34, ty34), (36, ty36), (42, ty42), (58, ty58), (61, ty61), (63, ty63), (64, ty64), (67, ty67), (76, ty76), (78, ty78), (79, ty79), (89, ty89), (97, ty97), (103, ty103), (104, ty104), (106, ty106), (107, ty107), (111, ty111), (112, ty112), (114, ty114), (116, ty116), (119, ty119), (131, ty131), (132, ty132), (134, ty134), (138, ty138), (140, ty140), (146, ty146), (149, ty149), (152, ty152), (164, ty164)]

theorem tys_ok : TysOk Tryz.prog tys := TysOk.cons ty3_ok (TysOk.cons ty4_ok (TysOk.cons ty5_ok (TysOk.cons ty9_ok (TysOk.cons ty22_ok (TysOk.cons ty24_ok (TysOk.cons ty25_ok (TysOk.cons ty27_ok (TysOk.cons ty30_ok (TysOk.cons ty31_ok (TysOk.cons ty34_ok (TysOk.cons ty36_ok (TysOk.cons ty42_ok (TysOk.cons ty58_ok (TysOk.cons ty61_ok (TysOk.cons ty63_ok (TysOk.cons ty64_ok (TysOk.cons ty67_ok (TysOk.cons ty76_ok (TysOk.cons ty78_ok (TysOk.cons ty79_ok (TysOk.cons ty89_ok (TysOk.cons ty97_ok (TysOk.cons ty103_ok (TysOk.cons ty104_ok (TysOk.cons ty106_ok (TysOk.cons ty107_ok (TysOk.cons ty111_ok (TysOk.cons ty112_ok (TysOk.cons ty114_ok (TysOk.cons ty116_ok (TysOk.cons ty119_ok (TysOk.cons ty131_ok (TysOk.cons ty132_ok (TysOk.cons ty134_ok (TysOk.cons ty138_ok (TysOk.cons ty140_ok (TysOk.cons ty146_ok (TysOk.cons ty149_ok (TysOk.cons ty152_ok (TysOk.cons ty164_ok (TysOk.nil)))))))))))))))))))))))))))))))))))))))))

theorem mixed : Tryz.prog.follows .mixedOrders = true := by kernel_rfl

noncomputable def glob0 : List Int := [1116352408, 1899447441, 3049323471, 3921009573, 961987163, 1508970993, 2453635748, 2870763221, 3624381080, 310598401, 607225278, 1426881987, 1925078388, 2162078206, 2614888103, 3248222580, 3835390401, 4022224774, 264347078, 604807628, 770255983, 1249150122, 1555081692, 1996064986, 2554220882, 2821834349, 2952996808, 3210313671, 3336571891, 3584528711, 113926993, 338241895, 666307205, 773529912, 1294757372, 1396182291, 1695183700, 1986661051, 2177026350, 2456956037, 2730485921, 2820302411, 3259730800, 3345764771, 3516065817, 3600352804, 4094571909, 275423344, 430227734, 506948616, 659060556, 883997877, 958139571, 1322822218, 1537002063, 1747873779, 1955562222, 2024104815, 2227730452, 2361852424, 2428436474, 2756734187, 3204031479, 3329325298]

noncomputable def glob : Nat → Option Dat := lk [(0, ⟨(.arr 64 (.int .u32)), glob0⟩)]

noncomputable def body_0 : Code := (Tryz.f14.body).getD .skip

noncomputable def L_0 : List (List Nat × List Nat) := [([0], [1]), ([0, 0, 1], [20, 1]), ([1, 0, 1], [1]), ([0, 0, 1, 0, 1], [2]), ([1, 0, 1, 0, 1], [2]), ([0, 1, 1], [1, 3]), ([0, 0, 1, 1, 1], [4, 1, 3]), ([0, 1, 0, 1, 1, 1], [4, 1, 3]), (PQ87, [25, 1, 4, 3]), (PQ88, [1, 4, 3]), (PQ71, [3]), (PQ121, [45, 3, 1, 4]), ([1, 0, 0, 0, 1, 0, 0, 1, 0, 1, 1, 1], [3, 1, 4]), ([0, 0, 1, 0, 0, 0, 1, 0, 0, 1, 0, 1, 1, 1], [2]), ([1, 0, 1, 0, 0, 0, 1, 0, 0, 1, 0, 1, 1, 1], [2]), ([1, 0, 0, 1, 0, 0, 1, 0, 1, 1, 1], [4, 1, 3]), (PQ29, [4, 1, 3]), (PQ89, [4, 1, 3]), ([1, 0, 1, 1, 1], [3]), ([0, 1, 1, 1, 1], [2]), ([1, 1, 1, 1, 1], [2])]

noncomputable def E_0 (N : Nat) : Env := mkEnv tys glob [] [] [] [] false [] []

theorem Eok_0 (N : Nat) : EnvOk Tryz.prog (E_0 N) := mkEnv_ok mixed tys_ok (FnsOk.nil) (ItsOk.nil)

noncomputable def porterref30_Great_p2 (N : Nat) (t : DT1) (k0 : Bool → Option Bool) : Option Bool :=
 cond (decide ((4200 : Int) < (((List.length t.1) : Nat) : Int)))
 (k0 true)
 (cond (decide ((100 : Int) < (((List.length t.2.2.1) : Nat) : Int)))
 (k0 true)
 (k0 (decide ((70 : Int) < (((List.length t.2.1) : Nat) : Int)))))

noncomputable def g2_0 (N : Nat) (x : denS [(1, .box TT0)]) (K : Ex → List A → Option Bool) : Option Bool :=
 porterref30_Great_p2 N x.1 (fun a1 => (K .normal (mkS [(1, .box TT0), (18, .v .bool)] 44 (x.1, a1, ()))))

noncomputable def h2_0 (N : Nat) : Hd Bool := fun st K => (unS [(1, .box TT0)] 63 (restr [1] 0 st)).bind fun x => g2_0 N x K

noncomputable def t2_0 (N : Nat) : Tab Bool := []

theorem ok2_0 {N : Nat} {c : Ctx} (hb : Base Tryz.prog (E_0 N) c) : CodeOk Tryz.prog c (nodeAt body_0 [0, 0, 1]) (h2_0 N) :=
  piece_ok (s := [(1, .box TT0)]) (m := 63) (g := g2_0 N) [1] (evN_sound hb N (t2_0 N) L_0 body_0 TabOk.nil [0, 0, 1] _ rfl) (fun x K => by kernel_rfl)

noncomputable def porterref30_Great_p1 (N : Nat) (t : DT1) (k0 : Bool → Option Bool) (k1 : Option Bool) : Option Bool :=
 porterref30_Great_p2 N t
 (fun x20 => cond x20
 (k0 true)
 (k1))

noncomputable def g1_0 (N : Nat) (x : denS [(1, .box TT0)]) (K : Ex → List A → Option Bool) : Option Bool :=
 porterref30_Great_p1 N x.1 (fun a0 => (K .ret (mkS [(2, .v .bool)] 62 (a0, ())))) (K .normal (mkS [(1, .box TT0)] 63 (x.1, ())))

noncomputable def h1_0 (N : Nat) : Hd Bool := fun st K => (unS [(1, .box TT0)] 63 (restr [1] 0 st)).bind fun x => g1_0 N x K

noncomputable def t1_0 (N : Nat) : Tab Bool := [([0, 0, 1], h2_0 N)]

theorem ok1_0 {N : Nat} {c : Ctx} (hb : Base Tryz.prog (E_0 N) c) : CodeOk Tryz.prog c (nodeAt body_0 [0, 1]) (h1_0 N) :=
  piece_ok (s := [(1, .box TT0)]) (m := 63) (g := g1_0 N) [1] (evN_sound hb N (t1_0 N) L_0 body_0 (TabOk.cons (ok2_0 hb) TabOk.nil) [0, 1] _ rfl) (fun x K => by kernel_rfl)

noncomputable def porterref30_Great_p6 (N : Nat) (t : DT1) (all : Int) (i : Int) (k0 : Bool → Option Bool) : Option Bool :=
 cond (inR i (List.length t.2.1))
 (cond (decide ((4200 : Int) < (((List.length (List.getD t.2.1 (Int.toNat i) (([] : List UInt8), (([] : List UInt8), ()))).1) : Nat) : Int)))
 (k0 true)
 (cond (inR i (List.length t.2.1))
 (k0 (decide ((4200 : Int) < (((List.length (List.getD t.2.1 (Int.toNat i) (([] : List UInt8), (([] : List UInt8), ()))).2.1) : Nat) : Int))))
 (none)))
 (none)

noncomputable def g6_0 (N : Nat) (x : denS SQ5) (K : Ex → List A → Option Bool) : Option Bool :=
 porterref30_Great_p6 N x.1 x.2.1 x.2.2.1 (fun a3 => (K .normal (mkS [(1, .box TT0), (1, .v (.int .i64)), (0, .v (.int .i64)), (40, .v .bool)] 19 (x.1, x.2.1, x.2.2.1, a3, ()))))

noncomputable def h6_0 (N : Nat) : Hd Bool := fun st K => (unS SQ5 60 (restr [1, 4, 3] 0 st)).bind fun x => g6_0 N x K

noncomputable def t6_0 (N : Nat) : Tab Bool := []

theorem ok6_0 {N : Nat} {c : Ctx} (hb : Base Tryz.prog (E_0 N) c) : CodeOk Tryz.prog c (nodeAt body_0 PQ121) (h6_0 N) :=
  piece_ok (s := SQ5) (m := 60) (g := g6_0 N) [1, 4, 3] (evN_sound hb N (t6_0 N) L_0 body_0 TabOk.nil PQ121 _ rfl) (fun x K => by kernel_rfl)

noncomputable def porterref30_Great_p5 (N : Nat) (t : DT1) (all : Int) (i : Int) (k0 : Bool → Option Bool) (k1 : Option Bool) : Option Bool :=
 porterref30_Great_p6 N t all i
 (fun x45 => cond x45
 (k0 true)
 (k1))

noncomputable def g5_0 (N : Nat) (x : denS SQ5) (K : Ex → List A → Option Bool) : Option Bool :=
 porterref30_Great_p5 N x.1 x.2.1 x.2.2.1 (fun a0 => (K .ret (mkS [(2, .v .bool)] 62 (a0, ())))) (K .normal (mkS SQ5 60 (x.1, x.2.1, x.2.2.1, ())))

noncomputable def h5_0 (N : Nat) : Hd Bool := fun st K => (unS SQ5 60 (restr [1, 4, 3] 0 st)).bind fun x => g5_0 N x K

noncomputable def t5_0 (N : Nat) : Tab Bool := [(PQ121, h6_0 N)]

theorem ok5_0 {N : Nat} {c : Ctx} (hb : Base Tryz.prog (E_0 N) c) : CodeOk Tryz.prog c (nodeAt body_0 PQ54) (h5_0 N) :=
  piece_ok (s := SQ5) (m := 60) (g := g5_0 N) [1, 4, 3] (evN_sound hb N (t5_0 N) L_0 body_0 (TabOk.cons (ok6_0 hb) TabOk.nil) PQ54 _ rfl) (fun x K => by kernel_rfl)

noncomputable def porterref30_Great_p4 (N : Nat) (t : DT1) (all : Int) (i : Int) (k0 : Bool → Option Bool) (k1 : Int → Option Bool) : Option Bool :=
 porterref30_Great_p5 N t all i
 (fun x2 => k0 x2)
 (cond (inR i (List.length t.2.1))
 (cond (inR i (List.length t.2.1))
 (k1 (IntKind.wrap IntKind.i64 ((IntKind.wrap IntKind.i64 (all + (((List.length (List.getD t.2.1 (Int.toNat i) (([] : List UInt8), (([] : List UInt8), ()))).1) : Nat) : Int))) + (((List.length (List.getD t.2.1 (Int.toNat i) (([] : List UInt8), (([] : List UInt8), ()))).2.1) : Nat) : Int))))
 (none))
 (none))

noncomputable def g4_0 (N : Nat) (x : denS SQ5) (K : Ex → List A → Option Bool) : Option Bool :=
 porterref30_Great_p4 N x.1 x.2.1 x.2.2.1 (fun a0 => (K .ret (mkS [(2, .v .bool)] 62 (a0, ())))) (fun a1 => (K .normal (mkS SQ5 60 (x.1, a1, x.2.2.1, ()))))

noncomputable def h4_0 (N : Nat) : Hd Bool := fun st K => (unS SQ5 60 (restr [1, 4, 3] 0 st)).bind fun x => g4_0 N x K

noncomputable def t4_0 (N : Nat) : Tab Bool := [(PQ54, h5_0 N)]

theorem ok4_0 {N : Nat} {c : Ctx} (hb : Base Tryz.prog (E_0 N) c) : CodeOk Tryz.prog c (nodeAt body_0 PQ29) (h4_0 N) :=
  piece_ok (s := SQ5) (m := 60) (g := g4_0 N) [1, 4, 3] (evN_sound hb N (t4_0 N) L_0 body_0 (TabOk.cons (ok5_0 hb) TabOk.nil) PQ29 _ rfl) (fun x K => by kernel_rfl)

noncomputable def porterref30_Great_s3 (N : Nat) (t : DT1) (all : Int) (i : Int) (rec : Int → Int → Option Bool) (k0 : Bool → Option Bool) (k1 : Int → Option Bool) : Option Bool :=
 cond (decide (i < (((List.length t.2.1) : Nat) : Int)))
 (porterref30_Great_p4 N t all i
 (fun x2 => k0 x2)
 (fun all1 => rec all1 (IntKind.wrap IntKind.i64 (i + (1 : Int)))))
 (k1 all)

noncomputable def porterref30_Great_p3 (N : Nat) (t : DT1) (all : Int) (i : Int) (k0 : Bool → Option Bool) (k1 : Int → Option Bool) : Option Bool :=
 iter (fun (v : (Int × Int)) r => porterref30_Great_s3 N t v.1 v.2 (fun all i => (r (all, i))) k0 k1) N (all, i)

noncomputable def g3_0 (N : Nat) (i : DT1) (v : (Int × Int)) (r : (Int × Int) → Option Bool) (K : Ex → List A → Option Bool) : Option Bool :=
 porterref30_Great_s3 N i v.1 v.2 (fun all i => (r (all, i))) (fun a0 => (K .ret (mkS [(2, .v .bool)] 62 (a0, ())))) (fun a0 => (K (.exit 0) (mkS [(3, .v (.int .i64))] 61 (a0, ()))))

noncomputable def h3_0 (N : Nat) : Hd Bool := fun st K => (unS SQ5 60 (restr [4, 1, 3] 0 st)).bind fun x => iter (fun v r => g3_0 N ((fun x => x.1) x) v r K) N ((fun x => (x.2.1, x.2.2.1)) x)

noncomputable def t3_0 (N : Nat) : Tab Bool := [(PQ29, h4_0 N)]

theorem ok3_0 {N : Nat} {c : Ctx} (hb : Base Tryz.prog (E_0 N) c) : CodeOk Tryz.prog c (nodeAt body_0 [0, 1, 0, 1, 1, 1]) (h3_0 N) :=
  loop_ok (s := SQ5) (m := 60) (g3_0 N) [4, 1, 3] N (fun x => x.1) (fun x => (x.2.1, x.2.2.1)) (fun i v => (i, v.1, v.2, ())) (fun _ => rfl) (evN_sound hb N (t3_0 N) L_0 body_0 (TabOk.cons (ok4_0 hb) TabOk.nil) PQ72 _ rfl) (fun i v r K => by kernel_rfl)

noncomputable def porterref30_Great (N : Nat) (t : DT1) : Option Bool :=
 porterref30_Great_p1 N t
 (fun x2 => some x2)
 (porterref30_Great_p3 N t (0 : Int) (0 : Int)
 (fun x21 => some x21)
 (fun all => some (decide ((20000 : Int) < all))))

noncomputable def t_0 (N : Nat) : Tab Bool := [([0, 1], h1_0 N), ([0, 1, 0, 1, 1, 1], h3_0 N)]

theorem link_0 (N : Nat) (x : denS [(0, .v TT0)]) : evFX (E_0 N) N (t_0 N) L_0 Tryz.f14 (mkS [(0, .v TT0)] 0 x) (kRes (.v .bool) 1) = porterref30_Great N x.1 := by kernel_rfl

noncomputable def porterref30_Great_res (N : Nat) : List A → Res := resOf [(0, .v TT0)] (fun x => porterref30_Great N x.1) (oRes (.v .bool) 1)

theorem porterref30_Great_ct (N : Nat) : Contract Tryz.prog glob 14 (porterref30_Great_res N) :=
  Contract.of (E := E_0 N) (H := t_0 N) (L := L_0) (N := N) (body := body_0) (K := (kRes (.v .bool) 1)) (Eok_0 N) Tryz.func14 (by kernel_rfl) (by decide) (fun _ hb => (TabOk.cons (ok1_0 hb) (TabOk.cons (ok3_0 hb) TabOk.nil))) (fun x y h => by rw [link_0]; exact h) (kRes_ok (s := (.v .bool)) (m := 1))

noncomputable def body_2 : Code := (Tryz.f99.body).getD .skip

noncomputable def L_2 : List (List Nat × List Nat) := [([0], [0]), ([0, 1], [3, 0]), ([0, 0, 1, 1], [6, 3, 0]), ([0, 1, 0, 1, 1], [6, 3, 0]), (PQ47, [7, 6, 3, 0]), (PQ9, [6, 3, 0]), (PQ60, [3]), (PQ44, [3, 4, 0, 6]), (PQ81, [6, 3, 0]), (PQ61, [6, 3, 0]), (PQ62, [6, 3, 0]), ([1, 0, 1, 1], [3]), ([0, 1, 1, 1], [2]), ([1, 1, 1, 1], [2])]

noncomputable def E_2 (N : Nat) : Env := mkEnv tys glob [] [(3, (.int .u8))] [] [] false [] []

theorem Eok_2 (N : Nat) : EnvOk Tryz.prog (E_2 N) := mkEnv_ok mixed tys_ok (FnsOk.nil) (ItsOk.nil)

noncomputable def hmac_length_s1 (N : Nat) (s : (List UInt8)) (out : (List Int)) (x6 : Int) (rec : (List Int) → Int → Option (List UInt8)) (k0 : (List Int) → Option (List UInt8)) : Option (List UInt8) :=
 cond (decide (x6 < (8 : Int)))
 (cond (decide ((0 : Int) ≤ (IntKind.wrap IntKind.i64 ((8 : Int) * (IntKind.wrap IntKind.i64 ((7 : Int) - x6))))))
 (cond (inR x6 (List.length out))
 (cond (decide ((Int.toNat x6) < (List.length out)))
 (rec (List.set out (Int.toNat x6) (IntKind.wrap IntKind.u8 (shrI IntKind.u64 (IntKind.wrap IntKind.u64 (((List.length s) : Nat) : Int)) (IntKind.wrap IntKind.i64 ((8 : Int) * (IntKind.wrap IntKind.i64 ((7 : Int) - x6))))))) (IntKind.wrap IntKind.i64 (x6 + (1 : Int))))
 (none))
 (none))
 (none))
 (k0 out)

noncomputable def hmac_length_p1 (N : Nat) (s : (List UInt8)) (out : (List Int)) (x6 : Int) (k0 : (List Int) → Option (List UInt8)) : Option (List UInt8) :=
 iter (fun (v : ((List Int) × Int)) r => hmac_length_s1 N s v.1 v.2 (fun out x6 => (r (out, x6))) k0) N (out, x6)

noncomputable def g1_2 (N : Nat) (i : (List UInt8)) (v : ((List Int) × Int)) (r : ((List Int) × Int) → Option (List UInt8)) (K : Ex → List A → Option (List UInt8)) : Option (List UInt8) :=
 hmac_length_s1 N i v.1 v.2 (fun out x6 => (r (out, x6))) (fun a0 => (K (.exit 0) (mkS [(3, .row (.int .u8))] 19 (a0, ()))))

noncomputable def h1_2 (N : Nat) : Hd (List UInt8) := fun st K => (unS [(0, .v .str), (2, .row (.int .u8)), (2, .v (.int .i64))] 16 (restr [6, 3, 0] 0 st)).bind fun x => iter (fun v r => g1_2 N ((fun x => x.1) x) v r K) N ((fun x => (x.2.1, x.2.2.1)) x)

noncomputable def t1_2 (N : Nat) : Tab (List UInt8) := []

theorem ok1_2 {N : Nat} {c : Ctx} (hb : Base Tryz.prog (E_2 N) c) : CodeOk Tryz.prog c (nodeAt body_2 [0, 1, 0, 1, 1]) (h1_2 N) :=
  loop_ok (s := [(0, .v .str), (2, .row (.int .u8)), (2, .v (.int .i64))]) (m := 16) (g1_2 N) [6, 3, 0] N (fun x => x.1) (fun x => (x.2.1, x.2.2.1)) (fun i v => (i, v.1, v.2, ())) (fun _ => rfl) (evN_sound hb N (t1_2 N) L_2 body_2 TabOk.nil [0, 0, 1, 0, 1, 1] _ rfl) (fun i v r K => by kernel_rfl)

noncomputable def hmac_length (N : Nat) (s : (List UInt8)) : Option (List UInt8) :=
 hmac_length_p1 N s ([(0 : Int), (0 : Int), (0 : Int), (0 : Int), (0 : Int), (0 : Int), (0 : Int), (0 : Int)] : List Int) (0 : Int)
 (fun out => some (toStr out))

noncomputable def t_2 (N : Nat) : Tab (List UInt8) := [([0, 1, 0, 1, 1], h1_2 N)]

theorem link_2 (N : Nat) (x : denS [(0, .v .str)]) : evFX (E_2 N) N (t_2 N) L_2 Tryz.f99 (mkS [(0, .v .str)] 0 x) (kRes (.v .str) 1) = hmac_length N x.1 := by kernel_rfl

noncomputable def hmac_length_res (N : Nat) : List A → Res := resOf [(0, .v .str)] (fun x => hmac_length N x.1) (oRes (.v .str) 1)

theorem hmac_length_ct (N : Nat) : Contract Tryz.prog glob 99 (hmac_length_res N) :=
  Contract.of (E := E_2 N) (H := t_2 N) (L := L_2) (N := N) (body := body_2) (K := (kRes (.v .str) 1)) (Eok_2 N) Tryz.func99 (by kernel_rfl) (by decide) (fun _ hb => (TabOk.cons (ok1_2 hb) TabOk.nil)) (fun x y h => by rw [link_2]; exact h) (kRes_ok (s := (.v .str)) (m := 1))

noncomputable def body_3 : Code := (Tryz.f98.body).getD .skip

noncomputable def L_3 : List (List Nat × List Nat) := [([0], [7, 6, 5, 0]), ([0, 1], [7, 6, 5, 0]), ([0, 0, 0, 1], [8, 5, 7, 0, 6]), ([0, 1, 0, 0, 1], [5, 7, 0, 6]), ([1, 0, 1, 0, 0, 1], [0]), ([0, 0, 0, 1, 1, 0, 0, 1], [0, 4, 7, 6, 5]), ([0, 1, 0, 0, 1, 1, 0, 0, 1], [21, 0, 7, 6, 5]), ([1, 1, 0, 0, 1, 1, 0, 0, 1], [7, 6, 5, 0]), ([0, 1, 1, 0, 0, 1, 1, 0, 0, 1], [0]), ([0, 1, 1, 0, 0, 1], [7, 6, 5, 0]), ([1, 1, 1, 0, 0, 1], [7, 6, 5, 0]), ([1], [0])]

noncomputable def E_3 (N : Nat) : Env := mkEnv tys glob [(99, hmac_length_res N)] [] [] [0] false [] []

theorem Eok_3 (N : Nat) : EnvOk Tryz.prog (E_3 N) := mkEnv_ok mixed tys_ok (FnsOk.cons (hmac_length_ct N) (FnsOk.nil)) ItsOk.nil

noncomputable def hmac_framed1_s1 (N : Nat) (x5 : (List (List UInt8))) (x6 : Int) (x7 : Int) (rec : Int → Option (List DT11)) (k0 : Option (List DT11)) (k1 : Option (List DT11)) : Option (List DT11) :=
 cond (decide (x7 < x6))
 (cond (inR x7 (List.length x5))
 ((hmac_length N (List.getD x5 (Int.toNat x7) ([] : List UInt8))).bind fun y =>
 comb (y, ())
 (comb ((List.getD x5 (Int.toNat x7) ([] : List UInt8)), ())
 (rec (IntKind.wrap IntKind.i64 (x7 + (1 : Int))))
 (k0))
 (k0))
 (none))
 (k1)

noncomputable def hmac_framed1_p1 (N : Nat) (x5 : (List (List UInt8))) (x6 : Int) (x7 : Int) (k0 : Option (List DT11)) (k1 : Option (List DT11)) : Option (List DT11) :=
 iter (fun (v : Int) r => hmac_framed1_s1 N x5 x6 v (fun x7 => (r x7)) k0 k1) N x7

noncomputable def g1_3 (N : Nat) (i : ((List (List UInt8)) × Int)) (v : Int) (r : Int → Option (List DT11)) (K : Ex → List A → Option (List DT11)) : Option (List DT11) :=
 hmac_framed1_s1 N i.1 i.2 v (fun x7 => (r x7)) (K .ret (mkS [(0, .yld)] 22 ((), ()))) (K (.exit 0) (mkS [(0, .yld)] 22 ((), ())))

noncomputable def h1_3 (N : Nat) : Hd (List DT11) := fun st K => (unS [(0, .yld), (4, .v (.sl .str)), (0, .v (.int .i64)), (0, .v (.int .i64))] 15 (restr [7, 6, 5, 0] 0 st)).bind fun x => iter (fun v r => g1_3 N ((fun x => (x.2.1, x.2.2.1)) x) v r K) N ((fun x => x.2.2.2.1) x)

noncomputable def t1_3 (N : Nat) : Tab (List DT11) := []

theorem ok1_3 {N : Nat} {G : GY [.str]} (hG : RestrOk G) (hev : EvOk G Tryz.prog (E_3 N) N L_3 body_3) : YOk G Tryz.prog (nodeAt body_3 [0, 1]) (h1_3 N) :=
  loopY_ok hG (s := [(0, .yld), (4, .v (.sl .str)), (0, .v (.int .i64)), (0, .v (.int .i64))]) (m := 15) (g1_3 N) [7, 6, 5, 0] N (fun x => (x.2.1, x.2.2.1)) (fun x => x.2.2.2.1) (fun i v => ((), i.1, i.2, v, ())) (fun _ => rfl) (hev (t1_3 N) TabOkY.nil [0, 0, 1]) (fun i v r K => by kernel_rfl)

noncomputable def hmac_framed1 (N : Nat) (x1 : (List (List UInt8))) : Option (List DT11) :=
 hmac_framed1_p1 N x1 (((List.length x1) : Nat) : Int) (0 : Int)
 (some ([] : List DT11))
 (some ([] : List DT11))

noncomputable def t_3 (N : Nat) : Tab (List DT11) := [([0, 1], h1_3 N)]

theorem link_3 (N : Nat) (x : T.den (.pair (.ptr (.sl .str)) .unit)) : evYX (E_3 N) [.str] comb N (t_3 N) L_3 Tryz.f98 [.v (.ptr (.sl .str)) x.1] = hmac_framed1 N x.1 := by kernel_rfl

noncomputable def hmac_framed1_itr (N : Nat) : Dat → ItRes := itRes (ts := [.str]) (.pair (.ptr (.sl .str)) .unit) (fun x => hmac_framed1 N x.1)

theorem hmac_framed1_it (N : Nat) : ItOk Tryz.prog glob 98 (hmac_framed1_itr N) := ItOk.of (ts := [.str]) (E := E_3 N) (H := t_3 N) (L := L_3) (N := N) (body := body_3) (Eok_3 N) rfl Tryz.func98 (by kernel_rfl) (by decide) (fun G hG hev => (TabOkY.cons (ok1_3 hG hev) TabOkY.nil)) (fun x y h => ⟨_, rfl, by rw [link_3]; exact h⟩)

noncomputable def body_4 : Code := (Tryz.f76.body).getD .skip

noncomputable def L_4 : List (List Nat × List Nat) := [([0], [1]), ([0, 1], [2]), ([1, 1], [2])]

noncomputable def E_4 (N : Nat) : Env := mkEnv tys glob [] [] [] [] false [] [(98, hmac_framed1_itr N)]

theorem Eok_4 (N : Nat) : EnvOk Tryz.prog (E_4 N) := mkEnv_ok mixed tys_ok (FnsOk.nil) (ItsOk.cons (hmac_framed1_it N) (ItsOk.nil))

noncomputable def hmac_framed (N : Nat) (parts : (List (List UInt8))) : Option ((List (List UInt8)) × Unit) :=
 some (parts, ())

noncomputable def t_4 (N : Nat) : Tab ((List (List UInt8)) × Unit) := []

theorem link_4 (N : Nat) (x : denS [(0, .v (.sl .str))]) : evFX (E_4 N) N (t_4 N) L_4 Tryz.f76 (mkS [(0, .v (.sl .str))] 0 x) (kRes (.v (.fn 98 (.pair (.ptr (.sl .str)) .unit))) 1) = hmac_framed N x.1 := by kernel_rfl

noncomputable def hmac_framed_res (N : Nat) : List A → Res := resOf [(0, .v (.sl .str))] (fun x => hmac_framed N x.1) (oRes (.v (.fn 98 (.pair (.ptr (.sl .str)) .unit))) 1)

theorem hmac_framed_ct (N : Nat) : Contract Tryz.prog glob 76 (hmac_framed_res N) :=
  Contract.of (E := E_4 N) (H := t_4 N) (L := L_4) (N := N) (body := body_4) (K := (kRes (.v (.fn 98 (.pair (.ptr (.sl .str)) .unit))) 1)) (Eok_4 N) Tryz.func76 (by kernel_rfl) (by decide) (fun _ hb => TabOk.nil) (fun x y h => by rw [link_4]; exact h) (kRes_ok (s := (.v (.fn 98 (.pair (.ptr (.sl .str)) .unit)))) (m := 1))

noncomputable def body_5 : Code := (Tryz.f77.body).getD .skip

noncomputable def L_5 : List (List Nat × List Nat) := [([0], [0, 1]), ([0, 1], [0, 1]), ([0, 1, 1], [1, 0]), ([0, 1, 1, 1], [4, 5, 0]), ([1, 1, 1, 1], [4, 5, 0])]

noncomputable def E_5 (N : Nat) : Env := mkEnv tys glob [(100, cc_res)] [] [] [0] false [] [(98, hmac_framed1_itr N)]

theorem Eok_5 (N : Nat) : EnvOk Tryz.prog (E_5 N) := mkEnv_ok mixed tys_ok (FnsOk.cons (cc_ct glob) (FnsOk.nil)) (ItsOk.cons (hmac_framed1_it N) (ItsOk.nil))

noncomputable def strings_Builder_WriteString (N : Nat) (b : DT17) (s : (List UInt8)) : Option ((Int × Go.Value × Unit) × (DT17 × Unit)) :=
 cond (decide ((((List.length b.2.1) + (List.length (ofStr s))) * 1) ≤ 70368744177664))
 (some (((((List.length s) : Nat) : Int), (Go.Value.nilIface, ())), ((b.1, ((b.2.1 ++ (ofStr s)), b.2.2)), ())))
 (none)

noncomputable def t_5 (N : Nat) : Tab ((Int × Go.Value × Unit) × (DT17 × Unit)) := []

theorem link_5 (N : Nat) (x : denS [(0, .box TT14), (0, .v .str)]) : evFX (E_5 N) N (t_5 N) L_5 Tryz.f77 (mkS [(0, .box TT14), (0, .v .str)] 0 x) (kResB (.tup [(.int .i64), .opq]) [(0, .box TT14)] 1) = strings_Builder_WriteString N x.1 x.2.1 := by kernel_rfl

noncomputable def strings_Builder_WriteString_res (N : Nat) : List A → Res := resOf [(0, .box TT14), (0, .v .str)] (fun x => strings_Builder_WriteString N x.1 x.2.1) (oResB (.tup [(.int .i64), .opq]) [(0, .box TT14)] 1)

theorem strings_Builder_WriteString_ct (N : Nat) : Contract Tryz.prog glob 77 (strings_Builder_WriteString_res N) :=
  Contract.of (E := E_5 N) (H := t_5 N) (L := L_5) (N := N) (body := body_5) (K := (kResB (.tup [(.int .i64), .opq]) [(0, .box TT14)] 1)) (Eok_5 N) Tryz.func77 (by kernel_rfl) (by decide) (fun _ hb => TabOk.nil) (fun x y h => by rw [link_5]; exact h) (kResB_ok (s := (.tup [(.int .i64), .opq])) (os := [(0, .box TT14)]) (m := 1))

noncomputable def body_6 : Code := (Tryz.f47.body).getD .skip

noncomputable def L_6 : List (List Nat × List Nat) := [([0], [0]), ([0, 1], [0, 3]), ([0, 0, 1, 1], [6, 3]), ([0, 1, 0, 1, 1], [3]), ([0, 0, 1, 0, 1, 1], [4, 3]), ([0, 1, 0, 1, 0, 1, 1], [3]), ([1, 0, 1, 0, 1, 1], [3]), ([1, 0, 1, 1], [3]), ([0, 1, 1, 1], [2]), ([1, 1, 1, 1], [2])]

noncomputable def E_6 (N : Nat) : Env := mkEnv tys glob [(77, strings_Builder_WriteString_res N), (76, hmac_framed_res N), (78, str_res)] [] [] [] false [(3, TT14)] [(98, hmac_framed1_itr N)]

theorem Eok_6 (N : Nat) : EnvOk Tryz.prog (E_6 N) := mkEnv_ok mixed tys_ok (FnsOk.cons (strings_Builder_WriteString_ct N) (FnsOk.cons (hmac_framed_ct N) (FnsOk.cons (str_ct glob) (FnsOk.nil)))) (ItsOk.cons (hmac_framed1_it N) (ItsOk.nil))

noncomputable def hmac_Frame_s1 (N : Nat) (out_1 : DT17) (y : DT11) (rec : DT17 → Option (List UInt8)) (k0 : DT17 → Option (List UInt8)) : Option (List UInt8) :=
 (strings_Builder_WriteString N out_1 y.1).bind fun y1 =>
 rec y1.2.1

noncomputable def hmac_Frame_fit1 (N : Nat) (out : DT17) (x6 : ((List (List UInt8)) × Unit)) : Option (List DT11) := (hmac_framed1 N x6.1)

noncomputable def hmac_Frame_i1 (N : Nat) (out : DT17) (x6 : ((List (List UInt8)) × Unit)) : Unit := ()

noncomputable def hmac_Frame_v1 (N : Nat) (out : DT17) (x6 : ((List (List UInt8)) × Unit)) : DT17 := out

noncomputable def hmac_Frame_p1 (N : Nat) (out : DT17) (x6 : ((List (List UInt8)) × Unit)) (k0 : DT17 → Option (List UInt8)) : Option (List UInt8) :=
 (hmac_Frame_fit1 N out x6).bind fun ys => iterL (fun (y : DT11) (v : DT17) r => hmac_Frame_s1 N v y (fun out_1 => (r out_1)) k0) (fun (v : DT17) => k0 v) ys out

noncomputable def g1_6 (N : Nat) (y : DT11) (i : Unit) (v : DT17) (r : DT17 → Option (List UInt8)) (K : Ex → List A → Option (List UInt8)) : Option (List UInt8) :=
 hmac_Frame_s1 N v y (fun out_1 => (r out_1)) (fun a0 => (K .normal (mkS [(3, .box TT14)] 7 (a0, ()))))

noncomputable def h1_6 (N : Nat) : Hd (List UInt8) := fun st K => (unS [(3, .box TT14), (2, .v (.fn 98 (.pair (.ptr (.sl .str)) .unit)))] 4 (restr [6, 3] 0 st)).bind fun x => ((fun x => hmac_Frame_fit1 N x.1 x.2.1) x).bind fun xs => iterL (fun y v r => g1_6 N y ((fun x => hmac_Frame_i1 N x.1 x.2.1) x) v r K) (fun v => K .normal (mkS [(3, .box TT14)] 7 ((fun i v => (v, ())) ((fun x => hmac_Frame_i1 N x.1 x.2.1) x) v))) xs ((fun x => hmac_Frame_v1 N x.1 x.2.1) x)

theorem ok1_6 {N : Nat} {c : Ctx} (hb : Base Tryz.prog (E_6 N) c) : CodeOk Tryz.prog c (nodeAt body_6 [0, 1, 0, 1, 1]) (h1_6 N) :=
  rf_ok (ts := [.str]) (s := [(3, .box TT14), (2, .v (.fn 98 (.pair (.ptr (.sl .str)) .unit)))]) (m := 4) (s2 := [(3, .box TT14)]) (m2 := 7) [6, 3] (fun x => hmac_Frame_fit1 N x.1 x.2.1) (fun x => hmac_Frame_i1 N x.1 x.2.1) (fun x => hmac_Frame_v1 N x.1 x.2.1) (fun i v => (v, ())) (rfF (E_6 N) N [.str] (nodeAt body_6 [0, 1, 0, 1, 1])) (g1_6 N) (evN_sound hb N [] L_6 body_6 TabOk.nil [0, 1, 0, 1, 1] _ rfl) (fun x K => by kernel_rfl) (fun y i v r K => by kernel_rfl)

noncomputable def hmac_Frame (N : Nat) (parts : (List (List UInt8))) : Option (List UInt8) :=
 hmac_Frame_p1 N ((), (([] : List Int), ())) (parts, ())
 (fun out_1 => (str_F (out_1, ())).bind fun y =>
 some y.1)

noncomputable def t_6 (N : Nat) : Tab (List UInt8) := [([0, 1, 0, 1, 1], h1_6 N)]

theorem link_6 (N : Nat) (x : denS [(0, .v (.sl .str))]) : evFX (E_6 N) N (t_6 N) L_6 Tryz.f47 (mkS [(0, .v (.sl .str))] 0 x) (kRes (.v .str) 1) = hmac_Frame N x.1 := by kernel_rfl

noncomputable def hmac_Frame_res (N : Nat) : List A → Res := resOf [(0, .v (.sl .str))] (fun x => hmac_Frame N x.1) (oRes (.v .str) 1)

theorem hmac_Frame_ct (N : Nat) : Contract Tryz.prog glob 47 (hmac_Frame_res N) :=
  Contract.of (E := E_6 N) (H := t_6 N) (L := L_6) (N := N) (body := body_6) (K := (kRes (.v .str) 1)) (Eok_6 N) Tryz.func47 (by kernel_rfl) (by decide) (fun _ hb => (TabOk.cons (ok1_6 hb) TabOk.nil)) (fun x y h => by rw [link_6]; exact h) (kRes_ok (s := (.v .str)) (m := 1))

noncomputable def body_7 : Code := (Tryz.f115.body).getD .skip

noncomputable def L_7 : List (List Nat × List Nat) := [([0], [0]), ([0, 1], [0]), ([1, 1], [0])]

noncomputable def E_7 (N : Nat) : Env := mkEnv tys glob [] [] [] [] false [] [(98, hmac_framed1_itr N)]

theorem Eok_7 (N : Nat) : EnvOk Tryz.prog (E_7 N) := mkEnv_ok mixed tys_ok (FnsOk.nil) (ItsOk.cons (hmac_framed1_it N) (ItsOk.nil))

noncomputable def sha_First (N : Nat) : Option (List Int) :=
 some ([(1779033703 : Int), (3144134277 : Int), (1013904242 : Int), (2773480762 : Int), (1359893119 : Int), (2600822924 : Int), (528734635 : Int), (1541459225 : Int)] : List Int)

noncomputable def t_7 (N : Nat) : Tab (List Int) := []

theorem link_7 (N : Nat) (x : denS []) : evFX (E_7 N) N (t_7 N) L_7 Tryz.f115 (mkS [] 0 x) (kRes (.v (.arr 8 (.int .u32))) 0) = sha_First N := by kernel_rfl

noncomputable def sha_First_res (N : Nat) : List A → Res := resOf [] (fun x => sha_First N) (oRes (.v (.arr 8 (.int .u32))) 0)

theorem sha_First_ct (N : Nat) : Contract Tryz.prog glob 115 (sha_First_res N) :=
  Contract.of (E := E_7 N) (H := t_7 N) (L := L_7) (N := N) (body := body_7) (K := (kRes (.v (.arr 8 (.int .u32))) 0)) (Eok_7 N) Tryz.func115 (by kernel_rfl) (by decide) (fun _ hb => TabOk.nil) (fun x y h => by rw [link_7]; exact h) (kRes_ok (s := (.v (.arr 8 (.int .u32)))) (m := 0))

noncomputable def body_8 : Code := (Tryz.f106.body).getD .skip

noncomputable def L_8 : List (List Nat × List Nat) := [([0], []), ([0, 1], [0]), ([1, 1], [0])]

noncomputable def E_8 (N : Nat) : Env := mkEnv tys glob [(115, sha_First_res N)] [] [] [] false [] [(98, hmac_framed1_itr N)]

theorem Eok_8 (N : Nat) : EnvOk Tryz.prog (E_8 N) := mkEnv_ok mixed tys_ok (FnsOk.cons (sha_First_ct N) (FnsOk.nil)) (ItsOk.cons (hmac_framed1_it N) (ItsOk.nil))

noncomputable def sha_New (N : Nat) : Option DT9 :=
 some (true, (([(1779033703 : Int), (3144134277 : Int), (1013904242 : Int), (2773480762 : Int), (1359893119 : Int), (2600822924 : Int), (528734635 : Int), (1541459225 : Int)] : List Int), (([] : List UInt8), ((0 : Int), ()))))

noncomputable def t_8 (N : Nat) : Tab DT9 := []

theorem link_8 (N : Nat) (x : denS []) : evFX (E_8 N) N (t_8 N) L_8 Tryz.f106 (mkS [] 0 x) (kRes (.box TT6) 0) = sha_New N := by kernel_rfl

noncomputable def sha_New_res (N : Nat) : List A → Res := resOf [] (fun x => sha_New N) (oRes (.box TT6) 0)

theorem sha_New_ct (N : Nat) : Contract Tryz.prog glob 106 (sha_New_res N) :=
  Contract.of (E := E_8 N) (H := t_8 N) (L := L_8) (N := N) (body := body_8) (K := (kRes (.box TT6) 0)) (Eok_8 N) Tryz.func106 (by kernel_rfl) (by decide) (fun _ hb => TabOk.nil) (fun x y h => by rw [link_8]; exact h) (kRes_ok (s := (.box TT6)) (m := 0))

noncomputable def body_9 : Code := (Tryz.f136.body).getD .skip

noncomputable def L_9 : List (List Nat × List Nat) := [([0], [1, 0]), ([0, 1], [0, 5]), ([0, 1, 1], [4]), ([1, 1, 1], [4])]

noncomputable def E_9 (N : Nat) : Env := mkEnv tys glob [] [] [] [] false [] [(98, hmac_framed1_itr N)]

theorem Eok_9 (N : Nat) : EnvOk Tryz.prog (E_9 N) := mkEnv_ok mixed tys_ok (FnsOk.nil) (ItsOk.cons (hmac_framed1_it N) (ItsOk.nil))

noncomputable def math_bits_RotateLeft32 (N : Nat) (x0 : Int) (k : Int) : Option Int :=
 cond (decide ((0 : Int) ≤ (IntKind.wrap IntKind.u64 ((32 : Int) - (bitsOp Go.BinOp.and IntKind.u64 (IntKind.wrap IntKind.u64 k) (31 : Int))))))
 (some (bitsOp Go.BinOp.or IntKind.u32 (shlI IntKind.u32 x0 (bitsOp Go.BinOp.and IntKind.u64 (IntKind.wrap IntKind.u64 k) (31 : Int))) (shrI IntKind.u32 x0 (IntKind.wrap IntKind.u64 ((32 : Int) - (bitsOp Go.BinOp.and IntKind.u64 (IntKind.wrap IntKind.u64 k) (31 : Int)))))))
 (none)

noncomputable def t_9 (N : Nat) : Tab Int := []

theorem link_9 (N : Nat) (x : denS SQ18) : evFX (E_9 N) N (t_9 N) L_9 Tryz.f136 (mkS SQ18 0 x) (kRes (.v (.int .u32)) 2) = math_bits_RotateLeft32 N x.1 x.2.1 := by kernel_rfl

noncomputable def math_bits_RotateLeft32_res (N : Nat) : List A → Res := resOf SQ18 (fun x => math_bits_RotateLeft32 N x.1 x.2.1) (oRes (.v (.int .u32)) 2)

theorem math_bits_RotateLeft32_ct (N : Nat) : Contract Tryz.prog glob 136 (math_bits_RotateLeft32_res N) :=
  Contract.of (E := E_9 N) (H := t_9 N) (L := L_9) (N := N) (body := body_9) (K := (kRes (.v (.int .u32)) 2)) (Eok_9 N) Tryz.func136 (by kernel_rfl) (by decide) (fun _ hb => TabOk.nil) (fun x y h => by rw [link_9]; exact h) (kRes_ok (s := (.v (.int .u32))) (m := 2))

noncomputable def body_10 : Code := (Tryz.f135.body).getD .skip

noncomputable def L_10 : List (List Nat × List Nat) := [([0], [0, 1]), ([0, 1], [4]), ([1, 1], [4])]

noncomputable def E_10 (N : Nat) : Env := mkEnv tys glob [(136, math_bits_RotateLeft32_res N)] [] [] [] false [] [(98, hmac_framed1_itr N)]

theorem Eok_10 (N : Nat) : EnvOk Tryz.prog (E_10 N) := mkEnv_ok mixed tys_ok (FnsOk.cons (math_bits_RotateLeft32_ct N) (FnsOk.nil)) (ItsOk.cons (hmac_framed1_it N) (ItsOk.nil))

noncomputable def sha_ror (N : Nat) (x0 : Int) (n : Int) : Option Int :=
 (math_bits_RotateLeft32 N x0 (IntKind.wrap IntKind.i64 ((0 : Int) - n))).bind fun y =>
 some y

noncomputable def t_10 (N : Nat) : Tab Int := []

theorem link_10 (N : Nat) (x : denS SQ18) : evFX (E_10 N) N (t_10 N) L_10 Tryz.f135 (mkS SQ18 0 x) (kRes (.v (.int .u32)) 2) = sha_ror N x.1 x.2.1 := by kernel_rfl

noncomputable def sha_ror_res (N : Nat) : List A → Res := resOf SQ18 (fun x => sha_ror N x.1 x.2.1) (oRes (.v (.int .u32)) 2)

theorem sha_ror_ct (N : Nat) : Contract Tryz.prog glob 135 (sha_ror_res N) :=
  Contract.of (E := E_10 N) (H := t_10 N) (L := L_10) (N := N) (body := body_10) (K := (kRes (.v (.int .u32)) 2)) (Eok_10 N) Tryz.func135 (by kernel_rfl) (by decide) (fun _ hb => TabOk.nil) (fun x y h => by rw [link_10]; exact h) (kRes_ok (s := (.v (.int .u32))) (m := 2))

noncomputable def body_11 : Code := (Tryz.f132.body).getD .skip

noncomputable def L_11 : List (List Nat × List Nat) := [([0], [0, 2]), ([0, 1], [0, 3, 2]), ([0, 0, 1, 1], [11, 0, 3, 2]), ([0, 1, 0, 1, 1], [11, 0, 3, 2]), (PQ47, [12, 11, 0, 3, 2]), (PQ9, [11, 0, 3, 2]), (PQ60, [3, 2]), (PQ44, [0, 4, 3, 11, 2]), ([0, 1, 0, 0, 1, 1, 0, 0, 1, 0, 1, 1], [4, 5, 3, 11, 0, 2]), ([1, 1, 0, 0, 1, 1, 0, 0, 1, 0, 1, 1], [11, 0, 3, 2]), (PQ61, [11, 0, 3, 2]), (PQ62, [11, 0, 3, 2]), ([1, 0, 1, 1], [3, 2]), ([0, 0, 1, 1, 1], [6, 3, 2]), ([0, 1, 0, 1, 1, 1], [6, 3, 2]), (PQ87, [43, 6, 3, 2]), (PQ88, [6, 3, 2]), (PQ71, [3, 2]), (PQ54, [7, 8, 6, 3, 2]), ([0, 1, 0, 0, 1, 0, 0, 1, 0, 1, 1, 1], [8, 6, 3, 9, 2]), (PQ84, [6, 10, 3, 9, 2]), ([1, 1, 1, 0, 0, 1, 0, 0, 1, 0, 1, 1, 1], [6, 3, 2]), (PQ29, [6, 3, 2]), (PQ89, [6, 3, 2]), ([1, 0, 1, 1, 1], [3, 2]), ([0, 1, 1, 1, 1], [2]), ([1, 1, 1, 1, 1], [2])]

noncomputable def E_11 (N : Nat) : Env := mkEnv tys glob [(135, sha_ror_res N)] [] [] [] false [] [(98, hmac_framed1_itr N)]

theorem Eok_11 (N : Nat) : EnvOk Tryz.prog (E_11 N) := mkEnv_ok mixed tys_ok (FnsOk.cons (sha_ror_ct N) (FnsOk.nil)) (ItsOk.cons (hmac_framed1_it N) (ItsOk.nil))

noncomputable def sha_schedule_s1 (N : Nat) (block : (List UInt8)) (x2 : (List Int)) (w : (List Int)) (x11 : Int) (rec : (List Int) → Int → Option (List Int)) (k0 : (List Int) → Option (List Int)) : Option (List Int) :=
 cond (decide (x11 < (16 : Int)))
 (cond (decide (((0 : Int) ≤ (IntKind.wrap IntKind.i64 ((IntKind.wrap IntKind.i64 ((4 : Int) * x11)) + (4 : Int)))) ∧ ((IntKind.wrap IntKind.i64 ((IntKind.wrap IntKind.i64 ((4 : Int) * x11)) + (4 : Int))) ≤ (((List.length block) : Nat) : Int))))
 (cond (decide (((0 : Int) ≤ (IntKind.wrap IntKind.i64 ((4 : Int) * x11))) ∧ ((IntKind.wrap IntKind.i64 ((4 : Int) * x11)) ≤ (IntKind.wrap IntKind.i64 ((IntKind.wrap IntKind.i64 ((4 : Int) * x11)) + (4 : Int))))))
 (cond (inR (0 : Int) (List.length (cut block (Int.toNat (IntKind.wrap IntKind.i64 ((4 : Int) * x11))) (Int.toNat (IntKind.wrap IntKind.i64 ((IntKind.wrap IntKind.i64 ((4 : Int) * x11)) + (4 : Int)))))))
 (cond (inR (1 : Int) (List.length (cut block (Int.toNat (IntKind.wrap IntKind.i64 ((4 : Int) * x11))) (Int.toNat (IntKind.wrap IntKind.i64 ((IntKind.wrap IntKind.i64 ((4 : Int) * x11)) + (4 : Int)))))))
 (cond (inR (2 : Int) (List.length (cut block (Int.toNat (IntKind.wrap IntKind.i64 ((4 : Int) * x11))) (Int.toNat (IntKind.wrap IntKind.i64 ((IntKind.wrap IntKind.i64 ((4 : Int) * x11)) + (4 : Int)))))))
 (cond (inR (3 : Int) (List.length (cut block (Int.toNat (IntKind.wrap IntKind.i64 ((4 : Int) * x11))) (Int.toNat (IntKind.wrap IntKind.i64 ((IntKind.wrap IntKind.i64 ((4 : Int) * x11)) + (4 : Int)))))))
 (cond (inR x11 64)
 (cond (decide ((Int.toNat x11) < (List.length w)))
 (rec (List.set w (Int.toNat x11) (bitsOp Go.BinOp.or IntKind.u32 (bitsOp Go.BinOp.or IntKind.u32 (bitsOp Go.BinOp.or IntKind.u32 (shlI IntKind.u32 (IntKind.wrap IntKind.u32 (((UInt8.toNat (List.getD (cut block (Int.toNat (IntKind.wrap IntKind.i64 ((4 : Int) * x11))) (Int.toNat (IntKind.wrap IntKind.i64 ((IntKind.wrap IntKind.i64 ((4 : Int) * x11)) + (4 : Int))))) 0 (0 : UInt8))) : Nat) : Int)) (24 : Int)) (shlI IntKind.u32 (IntKind.wrap IntKind.u32 (((UInt8.toNat (List.getD (cut block (Int.toNat (IntKind.wrap IntKind.i64 ((4 : Int) * x11))) (Int.toNat (IntKind.wrap IntKind.i64 ((IntKind.wrap IntKind.i64 ((4 : Int) * x11)) + (4 : Int))))) 1 (0 : UInt8))) : Nat) : Int)) (16 : Int))) (shlI IntKind.u32 (IntKind.wrap IntKind.u32 (((UInt8.toNat (List.getD (cut block (Int.toNat (IntKind.wrap IntKind.i64 ((4 : Int) * x11))) (Int.toNat (IntKind.wrap IntKind.i64 ((IntKind.wrap IntKind.i64 ((4 : Int) * x11)) + (4 : Int))))) 2 (0 : UInt8))) : Nat) : Int)) (8 : Int))) (IntKind.wrap IntKind.u32 (((UInt8.toNat (List.getD (cut block (Int.toNat (IntKind.wrap IntKind.i64 ((4 : Int) * x11))) (Int.toNat (IntKind.wrap IntKind.i64 ((IntKind.wrap IntKind.i64 ((4 : Int) * x11)) + (4 : Int))))) 3 (0 : UInt8))) : Nat) : Int)))) (IntKind.wrap IntKind.i64 (x11 + (1 : Int))))
 (none))
 (none))
 (none))
 (none))
 (none))
 (none))
 (none))
 (none))
 (k0 w)

noncomputable def sha_schedule_p1 (N : Nat) (block : (List UInt8)) (x2 : (List Int)) (w : (List Int)) (x11 : Int) (k0 : (List Int) → Option (List Int)) : Option (List Int) :=
 iter (fun (v : ((List Int) × Int)) r => sha_schedule_s1 N block x2 v.1 v.2 (fun w x11 => (r (w, x11))) k0) N (w, x11)

noncomputable def g1_11 (N : Nat) (i : ((List UInt8) × (List Int))) (v : ((List Int) × Int)) (r : ((List Int) × Int) → Option (List Int)) (K : Ex → List A → Option (List Int)) : Option (List Int) :=
 sha_schedule_s1 N i.1 i.2 v.1 v.2 (fun w x11 => (r (w, x11))) (fun a1 => (K (.exit 0) (mkS [(2, .box (.arr 64 (.int .u32))), (0, .box (.arr 64 (.int .u32)))] 82 (i.2, a1, ()))))

noncomputable def h1_11 (N : Nat) : Hd (List Int) := fun st K => (unS SQ79 74 (restr [11, 0, 3, 2] 0 st)).bind fun x => iter (fun v r => g1_11 N ((fun x => (x.1, x.2.1)) x) v r K) N ((fun x => (x.2.2.1, x.2.2.2.1)) x)

noncomputable def t1_11 (N : Nat) : Tab (List Int) := []

theorem ok1_11 {N : Nat} {c : Ctx} (hb : Base Tryz.prog (E_11 N) c) : CodeOk Tryz.prog c (nodeAt body_11 [0, 1, 0, 1, 1]) (h1_11 N) :=
  loop_ok (s := SQ79) (m := 74) (g1_11 N) [11, 0, 3, 2] N (fun x => (x.1, x.2.1)) (fun x => (x.2.2.1, x.2.2.2.1)) (fun i v => (i.1, i.2, v.1, v.2, ())) (fun _ => rfl) (evN_sound hb N (t1_11 N) L_11 body_11 TabOk.nil [0, 0, 1, 0, 1, 1] _ rfl) (fun i v r K => by kernel_rfl)

noncomputable def sha_schedule_s2 (N : Nat) (x2 : (List Int)) (w : (List Int)) (t : Int) (rec : (List Int) → Int → Option (List Int)) (k0 : (List Int) → Option (List Int)) : Option (List Int) :=
 cond (decide (t < (64 : Int)))
 (cond (inR (IntKind.wrap IntKind.i64 (t - (15 : Int))) 64)
 (cond (decide ((Int.toNat (IntKind.wrap IntKind.i64 (t - (15 : Int)))) < (List.length w)))
 (cond (inR (IntKind.wrap IntKind.i64 (t - (2 : Int))) 64)
 (cond (decide ((Int.toNat (IntKind.wrap IntKind.i64 (t - (2 : Int)))) < (List.length w)))
 (cond (inR (IntKind.wrap IntKind.i64 (t - (7 : Int))) 64)
 (cond (decide ((Int.toNat (IntKind.wrap IntKind.i64 (t - (7 : Int)))) < (List.length w)))
 (cond (inR (IntKind.wrap IntKind.i64 (t - (16 : Int))) 64)
 (cond (decide ((Int.toNat (IntKind.wrap IntKind.i64 (t - (16 : Int)))) < (List.length w)))
 (cond (inR t 64)
 (cond (decide ((Int.toNat t) < (List.length w)))
 (rec (List.set w (Int.toNat t) (IntKind.wrap IntKind.u32 ((IntKind.wrap IntKind.u32 ((IntKind.wrap IntKind.u32 ((bitsOp Go.BinOp.xor IntKind.u32 (bitsOp Go.BinOp.xor IntKind.u32 (bitsOp Go.BinOp.or IntKind.u32 (shlI IntKind.u32 (List.getD w (Int.toNat (IntKind.wrap IntKind.i64 (t - (2 : Int)))) (0 : Int)) (bitsOp Go.BinOp.and IntKind.u64 (IntKind.wrap IntKind.u64 (IntKind.wrap IntKind.i64 ((0 : Int) - (17 : Int)))) (31 : Int))) (shrI IntKind.u32 (List.getD w (Int.toNat (IntKind.wrap IntKind.i64 (t - (2 : Int)))) (0 : Int)) (IntKind.wrap IntKind.u64 ((32 : Int) - (bitsOp Go.BinOp.and IntKind.u64 (IntKind.wrap IntKind.u64 (IntKind.wrap IntKind.i64 ((0 : Int) - (17 : Int)))) (31 : Int)))))) (bitsOp Go.BinOp.or IntKind.u32 (shlI IntKind.u32 (List.getD w (Int.toNat (IntKind.wrap IntKind.i64 (t - (2 : Int)))) (0 : Int)) (bitsOp Go.BinOp.and IntKind.u64 (IntKind.wrap IntKind.u64 (IntKind.wrap IntKind.i64 ((0 : Int) - (19 : Int)))) (31 : Int))) (shrI IntKind.u32 (List.getD w (Int.toNat (IntKind.wrap IntKind.i64 (t - (2 : Int)))) (0 : Int)) (IntKind.wrap IntKind.u64 ((32 : Int) - (bitsOp Go.BinOp.and IntKind.u64 (IntKind.wrap IntKind.u64 (IntKind.wrap IntKind.i64 ((0 : Int) - (19 : Int)))) (31 : Int))))))) (shrI IntKind.u32 (List.getD w (Int.toNat (IntKind.wrap IntKind.i64 (t - (2 : Int)))) (0 : Int)) (10 : Int))) + (List.getD w (Int.toNat (IntKind.wrap IntKind.i64 (t - (7 : Int)))) (0 : Int)))) + (bitsOp Go.BinOp.xor IntKind.u32 (bitsOp Go.BinOp.xor IntKind.u32 (bitsOp Go.BinOp.or IntKind.u32 (shlI IntKind.u32 (List.getD w (Int.toNat (IntKind.wrap IntKind.i64 (t - (15 : Int)))) (0 : Int)) (bitsOp Go.BinOp.and IntKind.u64 (IntKind.wrap IntKind.u64 (IntKind.wrap IntKind.i64 ((0 : Int) - (7 : Int)))) (31 : Int))) (shrI IntKind.u32 (List.getD w (Int.toNat (IntKind.wrap IntKind.i64 (t - (15 : Int)))) (0 : Int)) (IntKind.wrap IntKind.u64 ((32 : Int) - (bitsOp Go.BinOp.and IntKind.u64 (IntKind.wrap IntKind.u64 (IntKind.wrap IntKind.i64 ((0 : Int) - (7 : Int)))) (31 : Int)))))) (bitsOp Go.BinOp.or IntKind.u32 (shlI IntKind.u32 (List.getD w (Int.toNat (IntKind.wrap IntKind.i64 (t - (15 : Int)))) (0 : Int)) (bitsOp Go.BinOp.and IntKind.u64 (IntKind.wrap IntKind.u64 (IntKind.wrap IntKind.i64 ((0 : Int) - (18 : Int)))) (31 : Int))) (shrI IntKind.u32 (List.getD w (Int.toNat (IntKind.wrap IntKind.i64 (t - (15 : Int)))) (0 : Int)) (IntKind.wrap IntKind.u64 ((32 : Int) - (bitsOp Go.BinOp.and IntKind.u64 (IntKind.wrap IntKind.u64 (IntKind.wrap IntKind.i64 ((0 : Int) - (18 : Int)))) (31 : Int))))))) (shrI IntKind.u32 (List.getD w (Int.toNat (IntKind.wrap IntKind.i64 (t - (15 : Int)))) (0 : Int)) (3 : Int))))) + (List.getD w (Int.toNat (IntKind.wrap IntKind.i64 (t - (16 : Int)))) (0 : Int))))) (IntKind.wrap IntKind.i64 (t + (1 : Int))))
 (none))
 (none))
 (none))
 (none))
 (none))
 (none))
 (none))
 (none))
 (none))
 (none))
 (k0 w)

noncomputable def sha_schedule_p2 (N : Nat) (x2 : (List Int)) (w : (List Int)) (t : Int) (k0 : (List Int) → Option (List Int)) : Option (List Int) :=
 iter (fun (v : ((List Int) × Int)) r => sha_schedule_s2 N x2 v.1 v.2 (fun w t => (r (w, t))) k0) N (w, t)

noncomputable def g2_11 (N : Nat) (i : (List Int)) (v : ((List Int) × Int)) (r : ((List Int) × Int) → Option (List Int)) (K : Ex → List A → Option (List Int)) : Option (List Int) :=
 sha_schedule_s2 N i v.1 v.2 (fun w t => (r (w, t))) (fun a1 => (K (.exit 2) (mkS [(2, .box (.arr 64 (.int .u32))), (0, .box (.arr 64 (.int .u32)))] 82 (i, a1, ()))))

noncomputable def h2_11 (N : Nat) : Hd (List Int) := fun st K => (unS SQ101 79 (restr [6, 3, 2] 0 st)).bind fun x => iter (fun v r => g2_11 N ((fun x => x.1) x) v r K) N ((fun x => (x.2.1, x.2.2.1)) x)

noncomputable def t2_11 (N : Nat) : Tab (List Int) := []

theorem ok2_11 {N : Nat} {c : Ctx} (hb : Base Tryz.prog (E_11 N) c) : CodeOk Tryz.prog c (nodeAt body_11 [0, 1, 0, 1, 1, 1]) (h2_11 N) :=
  loop_ok (s := SQ101) (m := 79) (g2_11 N) [6, 3, 2] N (fun x => x.1) (fun x => (x.2.1, x.2.2.1)) (fun i v => (i, v.1, v.2, ())) (fun _ => rfl) (evN_sound hb N (t2_11 N) L_11 body_11 TabOk.nil PQ72 _ rfl) (fun i v r K => by kernel_rfl)

noncomputable def sha_schedule (N : Nat) (block : (List UInt8)) : Option (List Int) :=
 sha_schedule_p1 N block ((0 : Int) :: (0 : Int) :: (0 : Int) :: (0 : Int) :: (0 : Int) :: (0 : Int) :: (0 : Int) :: (0 : Int) :: (0 : Int) :: (0 : Int) :: (0 : Int) :: (0 : Int) :: (0 : Int) :: (0 : Int) :: (0 : Int) :: (0 : Int) :: (0 : Int) :: (0 : Int) :: (0 : Int) :: (0 : Int) :: (0 : Int) :: (0 : Int) :: (0 : Int) :: (0 : Int) :: (0 : Int) :: (0 : Int) :: (0 : Int) :: (0 : Int) :: (0 : Int) :: (0 : Int) :: (0 : Int) :: (0 : Int) :: (0 : Int) :: (0 : Int) :: (0 : Int) :: (0 : Int) :: (0 : Int) :: (0 : Int) :: (0 : Int) :: (0 : Int) :: (0 : Int) :: (0 : Int) :: (0 : Int) :: (0 : Int) :: (0 : Int) :: (0 : Int) :: (0 : Int) :: (0 : Int) :: (0 : Int) :: (0 : Int) :: (0 : Int) :: (0 : Int) :: (0 : Int) :: (0 : Int) :: (0 : Int) :: (0 : Int) :: (0 : Int) :: (0 : Int) :: (0 : Int) :: (0 : Int) :: (0 : Int) :: (0 : Int) :: (0 : Int) :: (0 : Int) :: ([] : List Int)) ((0 : Int) :: (0 : Int) :: (0 : Int) :: (0 : Int) :: (0 : Int) :: (0 : Int) :: (0 : Int) :: (0 : Int) :: (0 : Int) :: (0 : Int) :: (0 : Int) :: (0 : Int) :: (0 : Int) :: (0 : Int) :: (0 : Int) :: (0 : Int) :: (0 : Int) :: (0 : Int) :: (0 : Int) :: (0 : Int) :: (0 : Int) :: (0 : Int) :: (0 : Int) :: (0 : Int) :: (0 : Int) :: (0 : Int) :: (0 : Int) :: (0 : Int) :: (0 : Int) :: (0 : Int) :: (0 : Int) :: (0 : Int) :: (0 : Int) :: (0 : Int) :: (0 : Int) :: (0 : Int) :: (0 : Int) :: (0 : Int) :: (0 : Int) :: (0 : Int) :: (0 : Int) :: (0 : Int) :: (0 : Int) :: (0 : Int) :: (0 : Int) :: (0 : Int) :: (0 : Int) :: (0 : Int) :: (0 : Int) :: (0 : Int) :: (0 : Int) :: (0 : Int) :: (0 : Int) :: (0 : Int) :: (0 : Int) :: (0 : Int) :: (0 : Int) :: (0 : Int) :: (0 : Int) :: (0 : Int) :: (0 : Int) :: (0 : Int) :: (0 : Int) :: (0 : Int) :: ([] : List Int)) (0 : Int)
 (fun w => sha_schedule_p2 N ((0 : Int) :: (0 : Int) :: (0 : Int) :: (0 : Int) :: (0 : Int) :: (0 : Int) :: (0 : Int) :: (0 : Int) :: (0 : Int) :: (0 : Int) :: (0 : Int) :: (0 : Int) :: (0 : Int) :: (0 : Int) :: (0 : Int) :: (0 : Int) :: (0 : Int) :: (0 : Int) :: (0 : Int) :: (0 : Int) :: (0 : Int) :: (0 : Int) :: (0 : Int) :: (0 : Int) :: (0 : Int) :: (0 : Int) :: (0 : Int) :: (0 : Int) :: (0 : Int) :: (0 : Int) :: (0 : Int) :: (0 : Int) :: (0 : Int) :: (0 : Int) :: (0 : Int) :: (0 : Int) :: (0 : Int) :: (0 : Int) :: (0 : Int) :: (0 : Int) :: (0 : Int) :: (0 : Int) :: (0 : Int) :: (0 : Int) :: (0 : Int) :: (0 : Int) :: (0 : Int) :: (0 : Int) :: (0 : Int) :: (0 : Int) :: (0 : Int) :: (0 : Int) :: (0 : Int) :: (0 : Int) :: (0 : Int) :: (0 : Int) :: (0 : Int) :: (0 : Int) :: (0 : Int) :: (0 : Int) :: (0 : Int) :: (0 : Int) :: (0 : Int) :: (0 : Int) :: ([] : List Int)) w (16 : Int)
 (fun w1 => some w1))

noncomputable def t_11 (N : Nat) : Tab (List Int) := [([0, 1, 0, 1, 1], h1_11 N), ([0, 1, 0, 1, 1, 1], h2_11 N)]

theorem link_11 (N : Nat) (x : denS [(0, .v .str)]) : evFX (E_11 N) N (t_11 N) L_11 Tryz.f132 (mkS [(0, .v .str)] 0 x) (kRes (.v (.arr 64 (.int .u32))) 1) = sha_schedule N x.1 := by kernel_rfl

noncomputable def sha_schedule_res (N : Nat) : List A → Res := resOf [(0, .v .str)] (fun x => sha_schedule N x.1) (oRes (.v (.arr 64 (.int .u32))) 1)

theorem sha_schedule_ct (N : Nat) : Contract Tryz.prog glob 132 (sha_schedule_res N) :=
  Contract.of (E := E_11 N) (H := t_11 N) (L := L_11) (N := N) (body := body_11) (K := (kRes (.v (.arr 64 (.int .u32))) 1)) (Eok_11 N) Tryz.func132 (by kernel_rfl) (by decide) (fun _ hb => (TabOk.cons (ok1_11 hb) (TabOk.cons (ok2_11 hb) TabOk.nil))) (fun x y h => by rw [link_11]; exact h) (kRes_ok (s := (.v (.arr 64 (.int .u32)))) (m := 1))

noncomputable def body_12 : Code := (Tryz.f133.body).getD .skip

noncomputable def L_12 : List (List Nat × List Nat) := [([0], [2, 1, 4]), ([0, 1], [12, 9, 10, 11, 1, 5, 6, 7, 8, 4]), ([0, 1, 1], [5, 6, 7, 13, 8, 9, 10, 11, 4]), ([0, 1, 1, 1], [13, 14, 5, 6, 7, 8, 9, 10, 11, 4]), ([0, 1, 1, 1, 1], [4]), ([1, 1, 1, 1, 1], [4])]

noncomputable def E_12 (N : Nat) : Env := mkEnv tys glob [(135, sha_ror_res N)] [] [] [] false [] [(98, hmac_framed1_itr N)]

theorem Eok_12 (N : Nat) : EnvOk Tryz.prog (E_12 N) := mkEnv_ok mixed tys_ok (FnsOk.cons (sha_ror_ct N) (FnsOk.nil)) (ItsOk.cons (hmac_framed1_it N) (ItsOk.nil))

noncomputable def sha_round (N : Nat) (v_ : (List Int)) (k : Int) : Option (List Int) :=
 cond (decide (0 < (List.length v_)))
 (cond (decide (1 < (List.length v_)))
 (cond (decide (2 < (List.length v_)))
 (cond (decide (3 < (List.length v_)))
 (cond (decide (4 < (List.length v_)))
 (cond (decide (5 < (List.length v_)))
 (cond (decide (6 < (List.length v_)))
 (cond (decide (7 < (List.length v_)))
 (some ([(IntKind.wrap IntKind.u32 ((IntKind.wrap IntKind.u32 ((IntKind.wrap IntKind.u32 ((IntKind.wrap IntKind.u32 ((List.getD v_ 7 (0 : Int)) + (bitsOp Go.BinOp.xor IntKind.u32 (bitsOp Go.BinOp.xor IntKind.u32 (bitsOp Go.BinOp.or IntKind.u32 (shlI IntKind.u32 (List.getD v_ 4 (0 : Int)) (bitsOp Go.BinOp.and IntKind.u64 (IntKind.wrap IntKind.u64 (IntKind.wrap IntKind.i64 ((0 : Int) - (6 : Int)))) (31 : Int))) (shrI IntKind.u32 (List.getD v_ 4 (0 : Int)) (IntKind.wrap IntKind.u64 ((32 : Int) - (bitsOp Go.BinOp.and IntKind.u64 (IntKind.wrap IntKind.u64 (IntKind.wrap IntKind.i64 ((0 : Int) - (6 : Int)))) (31 : Int)))))) (bitsOp Go.BinOp.or IntKind.u32 (shlI IntKind.u32 (List.getD v_ 4 (0 : Int)) (bitsOp Go.BinOp.and IntKind.u64 (IntKind.wrap IntKind.u64 (IntKind.wrap IntKind.i64 ((0 : Int) - (11 : Int)))) (31 : Int))) (shrI IntKind.u32 (List.getD v_ 4 (0 : Int)) (IntKind.wrap IntKind.u64 ((32 : Int) - (bitsOp Go.BinOp.and IntKind.u64 (IntKind.wrap IntKind.u64 (IntKind.wrap IntKind.i64 ((0 : Int) - (11 : Int)))) (31 : Int))))))) (bitsOp Go.BinOp.or IntKind.u32 (shlI IntKind.u32 (List.getD v_ 4 (0 : Int)) (bitsOp Go.BinOp.and IntKind.u64 (IntKind.wrap IntKind.u64 (IntKind.wrap IntKind.i64 ((0 : Int) - (25 : Int)))) (31 : Int))) (shrI IntKind.u32 (List.getD v_ 4 (0 : Int)) (IntKind.wrap IntKind.u64 ((32 : Int) - (bitsOp Go.BinOp.and IntKind.u64 (IntKind.wrap IntKind.u64 (IntKind.wrap IntKind.i64 ((0 : Int) - (25 : Int)))) (31 : Int))))))))) + (bitsOp Go.BinOp.xor IntKind.u32 (bitsOp Go.BinOp.and IntKind.u32 (List.getD v_ 4 (0 : Int)) (List.getD v_ 5 (0 : Int))) (bitsOp Go.BinOp.and IntKind.u32 (bitsOp Go.BinOp.xor IntKind.u32 (if ((IntKind.signed IntKind.u32) = true) then (-(1 : Int)) else (IntKind.max IntKind.u32)) (List.getD v_ 4 (0 : Int))) (List.getD v_ 6 (0 : Int)))))) + k)) + (IntKind.wrap IntKind.u32 ((bitsOp Go.BinOp.xor IntKind.u32 (bitsOp Go.BinOp.xor IntKind.u32 (bitsOp Go.BinOp.or IntKind.u32 (shlI IntKind.u32 (List.getD v_ 0 (0 : Int)) (bitsOp Go.BinOp.and IntKind.u64 (IntKind.wrap IntKind.u64 (IntKind.wrap IntKind.i64 ((0 : Int) - (2 : Int)))) (31 : Int))) (shrI IntKind.u32 (List.getD v_ 0 (0 : Int)) (IntKind.wrap IntKind.u64 ((32 : Int) - (bitsOp Go.BinOp.and IntKind.u64 (IntKind.wrap IntKind.u64 (IntKind.wrap IntKind.i64 ((0 : Int) - (2 : Int)))) (31 : Int)))))) (bitsOp Go.BinOp.or IntKind.u32 (shlI IntKind.u32 (List.getD v_ 0 (0 : Int)) (bitsOp Go.BinOp.and IntKind.u64 (IntKind.wrap IntKind.u64 (IntKind.wrap IntKind.i64 ((0 : Int) - (13 : Int)))) (31 : Int))) (shrI IntKind.u32 (List.getD v_ 0 (0 : Int)) (IntKind.wrap IntKind.u64 ((32 : Int) - (bitsOp Go.BinOp.and IntKind.u64 (IntKind.wrap IntKind.u64 (IntKind.wrap IntKind.i64 ((0 : Int) - (13 : Int)))) (31 : Int))))))) (bitsOp Go.BinOp.or IntKind.u32 (shlI IntKind.u32 (List.getD v_ 0 (0 : Int)) (bitsOp Go.BinOp.and IntKind.u64 (IntKind.wrap IntKind.u64 (IntKind.wrap IntKind.i64 ((0 : Int) - (22 : Int)))) (31 : Int))) (shrI IntKind.u32 (List.getD v_ 0 (0 : Int)) (IntKind.wrap IntKind.u64 ((32 : Int) - (bitsOp Go.BinOp.and IntKind.u64 (IntKind.wrap IntKind.u64 (IntKind.wrap IntKind.i64 ((0 : Int) - (22 : Int)))) (31 : Int))))))) + (bitsOp Go.BinOp.xor IntKind.u32 (bitsOp Go.BinOp.xor IntKind.u32 (bitsOp Go.BinOp.and IntKind.u32 (List.getD v_ 0 (0 : Int)) (List.getD v_ 1 (0 : Int))) (bitsOp Go.BinOp.and IntKind.u32 (List.getD v_ 0 (0 : Int)) (List.getD v_ 2 (0 : Int)))) (bitsOp Go.BinOp.and IntKind.u32 (List.getD v_ 1 (0 : Int)) (List.getD v_ 2 (0 : Int)))))))), (List.getD v_ 0 (0 : Int)), (List.getD v_ 1 (0 : Int)), (List.getD v_ 2 (0 : Int)), (IntKind.wrap IntKind.u32 ((List.getD v_ 3 (0 : Int)) + (IntKind.wrap IntKind.u32 ((IntKind.wrap IntKind.u32 ((IntKind.wrap IntKind.u32 ((List.getD v_ 7 (0 : Int)) + (bitsOp Go.BinOp.xor IntKind.u32 (bitsOp Go.BinOp.xor IntKind.u32 (bitsOp Go.BinOp.or IntKind.u32 (shlI IntKind.u32 (List.getD v_ 4 (0 : Int)) (bitsOp Go.BinOp.and IntKind.u64 (IntKind.wrap IntKind.u64 (IntKind.wrap IntKind.i64 ((0 : Int) - (6 : Int)))) (31 : Int))) (shrI IntKind.u32 (List.getD v_ 4 (0 : Int)) (IntKind.wrap IntKind.u64 ((32 : Int) - (bitsOp Go.BinOp.and IntKind.u64 (IntKind.wrap IntKind.u64 (IntKind.wrap IntKind.i64 ((0 : Int) - (6 : Int)))) (31 : Int)))))) (bitsOp Go.BinOp.or IntKind.u32 (shlI IntKind.u32 (List.getD v_ 4 (0 : Int)) (bitsOp Go.BinOp.and IntKind.u64 (IntKind.wrap IntKind.u64 (IntKind.wrap IntKind.i64 ((0 : Int) - (11 : Int)))) (31 : Int))) (shrI IntKind.u32 (List.getD v_ 4 (0 : Int)) (IntKind.wrap IntKind.u64 ((32 : Int) - (bitsOp Go.BinOp.and IntKind.u64 (IntKind.wrap IntKind.u64 (IntKind.wrap IntKind.i64 ((0 : Int) - (11 : Int)))) (31 : Int))))))) (bitsOp Go.BinOp.or IntKind.u32 (shlI IntKind.u32 (List.getD v_ 4 (0 : Int)) (bitsOp Go.BinOp.and IntKind.u64 (IntKind.wrap IntKind.u64 (IntKind.wrap IntKind.i64 ((0 : Int) - (25 : Int)))) (31 : Int))) (shrI IntKind.u32 (List.getD v_ 4 (0 : Int)) (IntKind.wrap IntKind.u64 ((32 : Int) - (bitsOp Go.BinOp.and IntKind.u64 (IntKind.wrap IntKind.u64 (IntKind.wrap IntKind.i64 ((0 : Int) - (25 : Int)))) (31 : Int))))))))) + (bitsOp Go.BinOp.xor IntKind.u32 (bitsOp Go.BinOp.and IntKind.u32 (List.getD v_ 4 (0 : Int)) (List.getD v_ 5 (0 : Int))) (bitsOp Go.BinOp.and IntKind.u32 (bitsOp Go.BinOp.xor IntKind.u32 (if ((IntKind.signed IntKind.u32) = true) then (-(1 : Int)) else (IntKind.max IntKind.u32)) (List.getD v_ 4 (0 : Int))) (List.getD v_ 6 (0 : Int)))))) + k)))), (List.getD v_ 4 (0 : Int)), (List.getD v_ 5 (0 : Int)), (List.getD v_ 6 (0 : Int))] : List Int))
 (none))
 (none))
 (none))
 (none))
 (none))
 (none))
 (none))
 (none)

noncomputable def t_12 (N : Nat) : Tab (List Int) := []

theorem link_12 (N : Nat) (x : denS SQ113) : evFX (E_12 N) N (t_12 N) L_12 Tryz.f133 (mkS SQ113 0 x) (kRes (.v (.arr 8 (.int .u32))) 2) = sha_round N x.1 x.2.1 := by kernel_rfl

noncomputable def sha_round_res (N : Nat) : List A → Res := resOf SQ113 (fun x => sha_round N x.1 x.2.1) (oRes (.v (.arr 8 (.int .u32))) 2)

theorem sha_round_ct (N : Nat) : Contract Tryz.prog glob 133 (sha_round_res N) :=
  Contract.of (E := E_12 N) (H := t_12 N) (L := L_12) (N := N) (body := body_12) (K := (kRes (.v (.arr 8 (.int .u32))) 2)) (Eok_12 N) Tryz.func133 (by kernel_rfl) (by decide) (fun _ hb => TabOk.nil) (fun x y h => by rw [link_12]; exact h) (kRes_ok (s := (.v (.arr 8 (.int .u32)))) (m := 2))

noncomputable def body_13 : Code := (Tryz.f125.body).getD .skip

noncomputable def L_13 : List (List Nat × List Nat) := [([0], [1, 2, 4]), ([0, 0, 1], [11, 2, 4, 1]), ([1, 0, 1], [1, 2, 4]), ([0, 0, 1, 0, 1], [4]), ([1, 0, 1, 0, 1], [4]), ([0, 1, 1], [2, 5, 4]), ([0, 1, 1, 1], [6, 5, 2, 4]), ([0, 0, 1, 1, 1, 1], [16, 6, 5, 2, 4]), (PQ34, [16, 6, 5, 2, 4]), ([0, 0, 0, 1, 0, 1, 1, 1, 1], [17, 16, 6, 5, 2, 4]), ([0, 1, 0, 0, 1, 0, 1, 1, 1, 1], [16, 6, 5, 2, 4]), ([1, 0, 1, 0, 0, 1, 0, 1, 1, 1, 1], [6, 2, 4]), ([0, 0, 0, 1, 1, 0, 0, 1, 0, 1, 1, 1, 1], [6, 7, 5, 16, 2, 4]), ([1, 0, 0, 1, 1, 0, 0, 1, 0, 1, 1, 1, 1], [16, 6, 5, 2, 4]), ([0, 1, 1, 0, 0, 1, 0, 1, 1, 1, 1], [16, 6, 5, 2, 4]), ([1, 1, 1, 0, 0, 1, 0, 1, 1, 1, 1], [16, 6, 5, 2, 4]), ([1, 0, 1, 1, 1, 1], [6, 2, 4]), (PQ90, [29, 6, 2, 4]), (PQ63, [29, 6, 2, 4]), ([0, 0, 0, 1, 0, 1, 1, 1, 1, 1], [30, 29, 6, 2, 4]), ([0, 1, 0, 0, 1, 0, 1, 1, 1, 1, 1], [29, 6, 2, 4]), ([1, 0, 1, 0, 0, 1, 0, 1, 1, 1, 1, 1], [6, 4]), ([0, 0, 0, 1, 1, 0, 0, 1, 0, 1, 1, 1, 1, 1], [8, 6, 2, 29, 4]), ([1, 0, 0, 1, 1, 0, 0, 1, 0, 1, 1, 1, 1, 1], [29, 6, 2, 4]), ([0, 1, 1, 0, 0, 1, 0, 1, 1, 1, 1, 1], [29, 6, 2, 4]), ([1, 1, 1, 0, 0, 1, 0, 1, 1, 1, 1, 1], [29, 6, 2, 4]), (PQ129, [6, 4]), (PQ91, [4]), ([1, 1, 1, 1, 1, 1, 1], [4])]

noncomputable def E_13 (N : Nat) : Env := mkEnv tys glob [(133, sha_round_res N), (132, sha_schedule_res N)] [] [] [] false [] [(98, hmac_framed1_itr N)]

theorem Eok_13 (N : Nat) : EnvOk Tryz.prog (E_13 N) := mkEnv_ok mixed tys_ok (FnsOk.cons (sha_round_ct N) (FnsOk.cons (sha_schedule_ct N) (FnsOk.nil))) (ItsOk.cons (hmac_framed1_it N) (ItsOk.nil))

noncomputable def sha_Step_s1 (N : Nat) (h : (List Int)) (x4 : (List Int)) (w : (List Int)) (v_ : (List Int)) (x16 : Int) (rec : (List Int) → Int → Option (List Int)) (k0 : (List Int) → Option (List Int)) : Option (List Int) :=
 cond (decide (x16 < (64 : Int)))
 (cond (inR x16 64)
 (cond (inR x16 64)
 (cond (decide ((Int.toNat x16) < (List.length w)))
 ((sha_round N v_ (IntKind.wrap IntKind.u32 ((List.getD glob0 (Int.toNat x16) (0 : Int)) + (List.getD w (Int.toNat x16) (0 : Int))))).bind fun y =>
 rec y (IntKind.wrap IntKind.i64 (x16 + (1 : Int))))
 (none))
 (none))
 (none))
 (k0 v_)

noncomputable def sha_Step_p1 (N : Nat) (h : (List Int)) (x4 : (List Int)) (w : (List Int)) (v_ : (List Int)) (x16 : Int) (k0 : (List Int) → Option (List Int)) : Option (List Int) :=
 iter (fun (v : ((List Int) × Int)) r => sha_Step_s1 N h x4 w v.1 v.2 (fun v_ x16 => (r (v_, x16))) k0) N (v_, x16)

noncomputable def g1_13 (N : Nat) (i : ((List Int) × (List Int) × (List Int))) (v : ((List Int) × Int)) (r : ((List Int) × Int) → Option (List Int)) (K : Ex → List A → Option (List Int)) : Option (List Int) :=
 sha_Step_s1 N i.1 i.2.1 i.2.2 v.1 v.2 (fun v_ x16 => (r (v_, x16))) (fun a2 => (K (.exit 0) (mkS [(2, .box (.arr 8 (.int .u32))), (1, .box (.arr 8 (.int .u32))), (1, .box (.arr 8 (.int .u32)))] 35 (i.1, i.2.1, a2, ()))))

noncomputable def h1_13 (N : Nat) : Hd (List Int) := fun st K => (unS SQ32 25 (restr [16, 6, 5, 2, 4] 0 st)).bind fun x => iter (fun v r => g1_13 N ((fun x => (x.1, x.2.1, x.2.2.1)) x) v r K) N ((fun x => (x.2.2.2.1, x.2.2.2.2.1)) x)

noncomputable def t1_13 (N : Nat) : Tab (List Int) := []

theorem ok1_13 {N : Nat} {c : Ctx} (hb : Base Tryz.prog (E_13 N) c) : CodeOk Tryz.prog c (nodeAt body_13 PQ34) (h1_13 N) :=
  loop_ok (s := SQ32) (m := 25) (g1_13 N) [16, 6, 5, 2, 4] N (fun x => (x.1, x.2.1, x.2.2.1)) (fun x => (x.2.2.2.1, x.2.2.2.2.1)) (fun i v => (i.1, i.2.1, i.2.2, v.1, v.2, ())) (fun _ => rfl) (evN_sound hb N (t1_13 N) L_13 body_13 TabOk.nil PQ64 _ rfl) (fun i v r K => by kernel_rfl)

noncomputable def sha_Step_s2 (N : Nat) (h : (List Int)) (x4 : (List Int)) (v_ : (List Int)) (x29 : Int) (rec : (List Int) → Int → Option (List Int)) (k0 : (List Int) → Option (List Int)) : Option (List Int) :=
 cond (decide (x29 < (8 : Int)))
 (cond (inR x29 8)
 (cond (decide ((Int.toNat x29) < (List.length v_)))
 (cond (inR x29 8)
 (cond (decide ((Int.toNat x29) < (List.length h)))
 (cond (inR x29 8)
 (cond (decide ((Int.toNat x29) < (List.length v_)))
 (rec (List.set v_ (Int.toNat x29) (IntKind.wrap IntKind.u32 ((List.getD v_ (Int.toNat x29) (0 : Int)) + (List.getD h (Int.toNat x29) (0 : Int))))) (IntKind.wrap IntKind.i64 (x29 + (1 : Int))))
 (none))
 (none))
 (none))
 (none))
 (none))
 (none))
 (k0 v_)

noncomputable def sha_Step_p2 (N : Nat) (h : (List Int)) (x4 : (List Int)) (v_ : (List Int)) (x29 : Int) (k0 : (List Int) → Option (List Int)) : Option (List Int) :=
 iter (fun (v : ((List Int) × Int)) r => sha_Step_s2 N h x4 v.1 v.2 (fun v_ x29 => (r (v_, x29))) k0) N (v_, x29)

noncomputable def g2_13 (N : Nat) (i : ((List Int) × (List Int))) (v : ((List Int) × Int)) (r : ((List Int) × Int) → Option (List Int)) (K : Ex → List A → Option (List Int)) : Option (List Int) :=
 sha_Step_s2 N i.1 i.2 v.1 v.2 (fun v_ x29 => (r (v_, x29))) (fun a1 => (K (.exit 2) (mkS [(4, .box (.arr 8 (.int .u32))), (1, .box (.arr 8 (.int .u32)))] 35 (i.2, a1, ()))))

noncomputable def h2_13 (N : Nat) : Hd (List Int) := fun st K => (unS SQ52 12 (restr [29, 6, 2, 4] 0 st)).bind fun x => iter (fun v r => g2_13 N ((fun x => (x.1, x.2.1)) x) v r K) N ((fun x => (x.2.2.1, x.2.2.2.1)) x)

noncomputable def t2_13 (N : Nat) : Tab (List Int) := []

theorem ok2_13 {N : Nat} {c : Ctx} (hb : Base Tryz.prog (E_13 N) c) : CodeOk Tryz.prog c (nodeAt body_13 PQ63) (h2_13 N) :=
  loop_ok (s := SQ52) (m := 12) (g2_13 N) [29, 6, 2, 4] N (fun x => (x.1, x.2.1)) (fun x => (x.2.2.1, x.2.2.2.1)) (fun i v => (i.1, i.2, v.1, v.2, ())) (fun _ => rfl) (evN_sound hb N (t2_13 N) L_13 body_13 TabOk.nil PQ109 _ rfl) (fun i v r K => by kernel_rfl)

noncomputable def sha_Step (N : Nat) (h : (List Int)) (block : (List UInt8)) : Option (List Int) :=
 cond ((((List.length block) : Nat) : Int) != (64 : Int))
 (some h)
 ((sha_schedule N block).bind fun y =>
 sha_Step_p1 N h ([(0 : Int), (0 : Int), (0 : Int), (0 : Int), (0 : Int), (0 : Int), (0 : Int), (0 : Int)] : List Int) y h (0 : Int)
 (fun v_ => sha_Step_p2 N h ([(0 : Int), (0 : Int), (0 : Int), (0 : Int), (0 : Int), (0 : Int), (0 : Int), (0 : Int)] : List Int) v_ (0 : Int)
 (fun v_1 => some v_1)))

noncomputable def t_13 (N : Nat) : Tab (List Int) := [(PQ34, h1_13 N), (PQ63, h2_13 N)]

theorem link_13 (N : Nat) (x : denS SQ40) : evFX (E_13 N) N (t_13 N) L_13 Tryz.f125 (mkS SQ40 0 x) (kRes (.v (.arr 8 (.int .u32))) 2) = sha_Step N x.1 x.2.1 := by kernel_rfl

noncomputable def sha_Step_res (N : Nat) : List A → Res := resOf SQ40 (fun x => sha_Step N x.1 x.2.1) (oRes (.v (.arr 8 (.int .u32))) 2)

theorem sha_Step_ct (N : Nat) : Contract Tryz.prog glob 125 (sha_Step_res N) :=
  Contract.of (E := E_13 N) (H := t_13 N) (L := L_13) (N := N) (body := body_13) (K := (kRes (.v (.arr 8 (.int .u32))) 2)) (Eok_13 N) Tryz.func125 (by kernel_rfl) (by decide) (fun _ hb => (TabOk.cons (ok1_13 hb) (TabOk.cons (ok2_13 hb) TabOk.nil))) (fun x y h => by rw [link_13]; exact h) (kRes_ok (s := (.v (.arr 8 (.int .u32)))) (m := 2))

noncomputable def body_14 : Code := (Tryz.f116.body).getD .skip

noncomputable def L_14 : List (List Nat × List Nat) := [([0], [1, 2, 4]), ([0, 0, 1], [5, 1, 2, 4]), ([0, 1, 0, 1], [5, 1, 2, 4]), ([0, 0, 0, 0, 1, 0, 1], [9, 2, 1, 5, 4]), ([1, 0, 0, 0, 1, 0, 1], [2, 1, 5, 4]), ([1, 1, 0, 0, 0, 1, 0, 1], [2, 4]), ([0, 0, 1, 0, 0, 1, 0, 1], [5, 1, 2, 4]), ([0, 1, 0, 0, 1, 0, 1], [5, 1, 2, 4]), ([1, 1, 0, 0, 1, 0, 1], [5, 1, 2, 4]), ([1, 0, 1], [2, 4]), ([0, 1, 1], [4]), ([1, 1, 1], [4])]

noncomputable def E_14 (N : Nat) : Env := mkEnv tys glob [(125, sha_Step_res N)] [] [] [] false [] [(98, hmac_framed1_itr N)]

theorem Eok_14 (N : Nat) : EnvOk Tryz.prog (E_14 N) := mkEnv_ok mixed tys_ok (FnsOk.cons (sha_Step_ct N) (FnsOk.nil)) (ItsOk.cons (hmac_framed1_it N) (ItsOk.nil))

noncomputable def sha_steps_s1 (N : Nat) (s : (List UInt8)) (x4 : (List Int)) (h : (List Int)) (i : Int) (rec : (List Int) → Int → Option (List Int)) (k0 : (List Int) → Option (List Int)) : Option (List Int) :=
 cond (decide (i < (((List.length s) : Nat) : Int)))
 (cond (decide (((0 : Int) ≤ (IntKind.wrap IntKind.i64 (i + (64 : Int)))) ∧ ((IntKind.wrap IntKind.i64 (i + (64 : Int))) ≤ (((List.length s) : Nat) : Int))))
 (cond (decide (((0 : Int) ≤ i) ∧ (i ≤ (IntKind.wrap IntKind.i64 (i + (64 : Int))))))
 ((sha_Step N h (cut s (Int.toNat i) (Int.toNat (IntKind.wrap IntKind.i64 (i + (64 : Int)))))).bind fun y =>
 rec y (IntKind.wrap IntKind.i64 (i + (64 : Int))))
 (none))
 (none))
 (k0 h)

noncomputable def sha_steps_p1 (N : Nat) (s : (List UInt8)) (h : (List Int)) (x4 : (List Int)) (i : Int) (k0 : (List Int) → Option (List Int)) : Option (List Int) :=
 iter (fun (v : ((List Int) × Int)) r => sha_steps_s1 N s x4 v.1 v.2 (fun h i => (r (h, i))) k0) N (h, i)

noncomputable def g1_14 (N : Nat) (i : ((List UInt8) × (List Int))) (v : ((List Int) × Int)) (r : ((List Int) × Int) → Option (List Int)) (K : Ex → List A → Option (List Int)) : Option (List Int) :=
 sha_steps_s1 N i.1 i.2 v.1 v.2 (fun h i => (r (h, i))) (fun a0 => (K (.exit 0) (mkS [(2, .box (.arr 8 (.int .u32))), (1, .box (.arr 8 (.int .u32)))] 15 (a0, i.2, ()))))

noncomputable def h1_14 (N : Nat) : Hd (List Int) := fun st K => (unS SQ80 14 (restr [5, 1, 2, 4] 0 st)).bind fun x => iter (fun v r => g1_14 N ((fun x => (x.1, x.2.2.1)) x) v r K) N ((fun x => (x.2.1, x.2.2.2.1)) x)

noncomputable def t1_14 (N : Nat) : Tab (List Int) := []

theorem ok1_14 {N : Nat} {c : Ctx} (hb : Base Tryz.prog (E_14 N) c) : CodeOk Tryz.prog c (nodeAt body_14 [0, 1, 0, 1]) (h1_14 N) :=
  loop_ok (s := SQ80) (m := 14) (g1_14 N) [5, 1, 2, 4] N (fun x => (x.1, x.2.2.1)) (fun x => (x.2.1, x.2.2.2.1)) (fun i v => (i.1, v.1, i.2, v.2, ())) (fun _ => rfl) (evN_sound hb N (t1_14 N) L_14 body_14 TabOk.nil [0, 0, 1, 0, 1] _ rfl) (fun i v r K => by kernel_rfl)

noncomputable def sha_steps (N : Nat) (h : (List Int)) (s : (List UInt8)) : Option (List Int) :=
 sha_steps_p1 N s h ([(0 : Int), (0 : Int), (0 : Int), (0 : Int), (0 : Int), (0 : Int), (0 : Int), (0 : Int)] : List Int) (0 : Int)
 (fun h1 => some h1)

noncomputable def t_14 (N : Nat) : Tab (List Int) := [([0, 1, 0, 1], h1_14 N)]

theorem link_14 (N : Nat) (x : denS SQ40) : evFX (E_14 N) N (t_14 N) L_14 Tryz.f116 (mkS SQ40 0 x) (kRes (.v (.arr 8 (.int .u32))) 2) = sha_steps N x.1 x.2.1 := by kernel_rfl

noncomputable def sha_steps_res (N : Nat) : List A → Res := resOf SQ40 (fun x => sha_steps N x.1 x.2.1) (oRes (.v (.arr 8 (.int .u32))) 2)

theorem sha_steps_ct (N : Nat) : Contract Tryz.prog glob 116 (sha_steps_res N) :=
  Contract.of (E := E_14 N) (H := t_14 N) (L := L_14) (N := N) (body := body_14) (K := (kRes (.v (.arr 8 (.int .u32))) 2)) (Eok_14 N) Tryz.func116 (by kernel_rfl) (by decide) (fun _ hb => (TabOk.cons (ok1_14 hb) TabOk.nil)) (fun x y h => by rw [link_14]; exact h) (kRes_ok (s := (.v (.arr 8 (.int .u32)))) (m := 2))

noncomputable def body_15 : Code := (Tryz.f107.body).getD .skip

noncomputable def L_15 : List (List Nat × List Nat) := [([0, 0], [14, 0, 1]), ([1, 0], [0, 1]), ([0, 1, 0], [0]), ([0, 1], [0, 1]), ([0, 1, 1], [4, 0]), ([0, 1, 1, 1], [0, 4, 5]), ([0, 1, 1, 1, 1], [0, 4, 5]), ([1, 1, 1, 1, 1], [0])]

noncomputable def E_15 (N : Nat) : Env := mkEnv tys glob [(116, sha_steps_res N)] [] [] [0] false [] [(98, hmac_framed1_itr N)]

theorem Eok_15 (N : Nat) : EnvOk Tryz.prog (E_15 N) := mkEnv_ok mixed tys_ok (FnsOk.cons (sha_steps_ct N) (FnsOk.nil)) (ItsOk.cons (hmac_framed1_it N) (ItsOk.nil))

noncomputable def sha_Hash_Add_p1 (N : Nat) (h : DT9) (s : (List UInt8)) (k0 : Option ((Unit) × (DT9 × Unit))) (k1 : Option ((Unit) × (DT9 × Unit))) : Option ((Unit) × (DT9 × Unit)) :=
 cond (!h.1)
 (k0)
 (k1)

noncomputable def g1_15 (N : Nat) (x : denS SQ76) (K : Ex → List A → Option ((Unit) × (DT9 × Unit))) : Option ((Unit) × (DT9 × Unit)) :=
 sha_Hash_Add_p1 N x.1 x.2.1 (K .ret (mkS [(0, .box TT6)] 52 (x.1, ()))) (K .normal (mkS SQ76 51 (x.1, x.2.1, ())))

noncomputable def h1_15 (N : Nat) : Hd ((Unit) × (DT9 × Unit)) := fun st K => (unS SQ76 51 (restr [0, 1] 0 st)).bind fun x => g1_15 N x K

noncomputable def t1_15 (N : Nat) : Tab ((Unit) × (DT9 × Unit)) := []

theorem ok1_15 {N : Nat} {c : Ctx} (hb : Base Tryz.prog (E_15 N) c) : CodeOk Tryz.prog c (nodeAt body_15 [0]) (h1_15 N) :=
  piece_ok (s := SQ76) (m := 51) (g := g1_15 N) [0, 1] (evN_sound hb N (t1_15 N) L_15 body_15 TabOk.nil [0] _ rfl) (fun x K => by kernel_rfl)

noncomputable def sha_Hash_Add (N : Nat) (h : DT9) (s : (List UInt8)) : Option ((Unit) × (DT9 × Unit)) :=
 sha_Hash_Add_p1 N h s
 (some ((), (h, ())))
 (cond (decide (((List.length h.2.2.1) + (List.length s)) ≤ 9223372036854775807))
 (cond (decide (((0 : Int) ≤ (IntKind.wrap IntKind.i64 ((((List.length (h.2.2.1 ++ s)) : Nat) : Int) - (Int.tmod (((List.length (h.2.2.1 ++ s)) : Nat) : Int) (64 : Int))))) ∧ ((IntKind.wrap IntKind.i64 ((((List.length (h.2.2.1 ++ s)) : Nat) : Int) - (Int.tmod (((List.length (h.2.2.1 ++ s)) : Nat) : Int) (64 : Int)))) ≤ (((List.length (h.2.2.1 ++ s)) : Nat) : Int))))
 ((sha_steps N h.2.1 (cut (h.2.2.1 ++ s) 0 (Int.toNat (IntKind.wrap IntKind.i64 ((((List.length (h.2.2.1 ++ s)) : Nat) : Int) - (Int.tmod (((List.length (h.2.2.1 ++ s)) : Nat) : Int) (64 : Int))))))).bind fun y =>
 cond (decide (((0 : Int) ≤ (IntKind.wrap IntKind.i64 ((((List.length (h.2.2.1 ++ s)) : Nat) : Int) - (Int.tmod (((List.length (h.2.2.1 ++ s)) : Nat) : Int) (64 : Int))))) ∧ ((IntKind.wrap IntKind.i64 ((((List.length (h.2.2.1 ++ s)) : Nat) : Int) - (Int.tmod (((List.length (h.2.2.1 ++ s)) : Nat) : Int) (64 : Int)))) ≤ (((List.length (h.2.2.1 ++ s)) : Nat) : Int))))
 (some ((), ((h.1, (y, ((cut (h.2.2.1 ++ s) (Int.toNat (IntKind.wrap IntKind.i64 ((((List.length (h.2.2.1 ++ s)) : Nat) : Int) - (Int.tmod (((List.length (h.2.2.1 ++ s)) : Nat) : Int) (64 : Int))))) (List.length (h.2.2.1 ++ s))), ((IntKind.wrap IntKind.i64 (h.2.2.2.1 + (((List.length s) : Nat) : Int))), h.2.2.2.2)))), ())))
 (none))
 (none))
 (none))

noncomputable def t_15 (N : Nat) : Tab ((Unit) × (DT9 × Unit)) := [([0], h1_15 N)]

theorem link_15 (N : Nat) (x : denS SQ76) : evFX (E_15 N) N (t_15 N) L_15 Tryz.f107 (mkS SQ76 0 x) (kResB (.tup []) [(0, .box TT6)] 1) = sha_Hash_Add N x.1 x.2.1 := by kernel_rfl

noncomputable def sha_Hash_Add_res (N : Nat) : List A → Res := resOf SQ76 (fun x => sha_Hash_Add N x.1 x.2.1) (oResB (.tup []) [(0, .box TT6)] 1)

theorem sha_Hash_Add_ct (N : Nat) : Contract Tryz.prog glob 107 (sha_Hash_Add_res N) :=
  Contract.of (E := E_15 N) (H := t_15 N) (L := L_15) (N := N) (body := body_15) (K := (kResB (.tup []) [(0, .box TT6)] 1)) (Eok_15 N) Tryz.func107 (by kernel_rfl) (by decide) (fun _ hb => (TabOk.cons (ok1_15 hb) TabOk.nil)) (fun x y h => by rw [link_15]; exact h) (kResB_ok (s := (.tup [])) (os := [(0, .box TT6)]) (m := 1))

noncomputable def body_16 : Code := (Tryz.f107.body).getD .skip

noncomputable def L_16 : List (List Nat × List Nat) := [([0, 0], [14, 0, 1]), ([1, 0], [0, 1]), ([0, 1, 0], []), ([0, 1], [0, 1]), ([0, 1, 1], [4, 0]), ([0, 1, 1, 1], [0, 4, 5]), ([0, 1, 1, 1, 1], [0, 4, 5]), ([1, 1, 1, 1, 1], [])]

noncomputable def E_16 (N : Nat) : Env := mkEnv tys glob [(116, sha_steps_res N)] [] [] [] false [] [(98, hmac_framed1_itr N)]

theorem Eok_16 (N : Nat) : EnvOk Tryz.prog (E_16 N) := mkEnv_ok mixed tys_ok (FnsOk.cons (sha_steps_ct N) (FnsOk.nil)) (ItsOk.cons (hmac_framed1_it N) (ItsOk.nil))

noncomputable def sha_Hash_Add_nil_p1 (N : Nat) (s : (List UInt8)) (k0 : Option (Unit)) : Option (Unit) :=
 k0

noncomputable def g1_16 (N : Nat) (x : denS [(0, .nilp), (0, .v .str)]) (K : Ex → List A → Option (Unit)) : Option (Unit) :=
 sha_Hash_Add_nil_p1 N x.2.1 (K .ret (mkS [] 53 ()))

noncomputable def h1_16 (N : Nat) : Hd (Unit) := fun st K => (unS [(0, .nilp), (0, .v .str)] 51 (restr [0, 1] 0 st)).bind fun x => g1_16 N x K

noncomputable def t1_16 (N : Nat) : Tab (Unit) := []

theorem ok1_16 {N : Nat} {c : Ctx} (hb : Base Tryz.prog (E_16 N) c) : CodeOk Tryz.prog c (nodeAt body_16 [0]) (h1_16 N) :=
  piece_ok (s := [(0, .nilp), (0, .v .str)]) (m := 51) (g := g1_16 N) [0, 1] (evN_sound hb N (t1_16 N) L_16 body_16 TabOk.nil [0] _ rfl) (fun x K => by kernel_rfl)

noncomputable def sha_Hash_Add_nil (N : Nat) (s : (List UInt8)) : Option (Unit) :=
 sha_Hash_Add_nil_p1 N s
 (some ())

noncomputable def t_16 (N : Nat) : Tab (Unit) := [([0], h1_16 N)]

theorem link_16 (N : Nat) (x : denS [(0, .nilp), (0, .v .str)]) : evFX (E_16 N) N (t_16 N) L_16 Tryz.f107 (mkS [(0, .nilp), (0, .v .str)] 0 x) (kRes (.tup []) 2) = sha_Hash_Add_nil N x.2.1 := by kernel_rfl

noncomputable def sha_Hash_Add_nil_res (N : Nat) : List A → Res := resOf [(0, .nilp), (0, .v .str)] (fun x => sha_Hash_Add_nil N x.2.1) (oRes (.tup []) 2)

theorem sha_Hash_Add_nil_ct (N : Nat) : Contract Tryz.prog glob 107 (sha_Hash_Add_nil_res N) :=
  Contract.of (E := E_16 N) (H := t_16 N) (L := L_16) (N := N) (body := body_16) (K := (kRes (.tup []) 2)) (Eok_16 N) Tryz.func107 (by kernel_rfl) (by decide) (fun _ hb => (TabOk.cons (ok1_16 hb) TabOk.nil)) (fun x y h => by rw [link_16]; exact h) (kRes_ok (s := (.tup [])) (m := 2))

noncomputable def sha_Hash_Add_nil_all (N : Nat) : List A → Res := resAlt [(0, .nilp), (0, .v .str)] (fun x => sha_Hash_Add_nil N x.2.1) (oRes (.tup []) 2) (sha_Hash_Add_res N)

theorem sha_Hash_Add_nil_allct (N : Nat) : Contract Tryz.prog glob 107 (sha_Hash_Add_nil_all N) := Contract.alt (sha_Hash_Add_nil_ct N) (sha_Hash_Add_ct N)

noncomputable def body_17 : Code := (Tryz.f94.body).getD .skip

noncomputable def L_17 : List (List Nat × List Nat) := [([0], [1, 0]), ([0, 1], [1, 0]), ([0, 0, 1, 1], [10, 0, 1]), ([1, 0, 1, 1], [0, 1]), ([0, 0, 1, 0, 1, 1], [4]), ([1, 0, 1, 0, 1, 1], [4]), ([0, 1, 1, 1], [4]), ([1, 1, 1, 1], [4])]

noncomputable def E_17 (N : Nat) : Env := mkEnv tys glob [] [] [] [] false [] [(98, hmac_framed1_itr N)]

theorem Eok_17 (N : Nat) : EnvOk Tryz.prog (E_17 N) := mkEnv_ok mixed tys_ok (FnsOk.nil) (ItsOk.cons (hmac_framed1_it N) (ItsOk.nil))

noncomputable def octet_Pad (N : Nat) (s : (List UInt8)) (n : Int) : Option (List UInt8) :=
 cond (decide ((if ((65536 : Int) < n) then (65536 : Int) else n) ≤ (((List.length s) : Nat) : Int)))
 (some s)
 (cond (decide (((0 : Int) ≤ (IntKind.wrap IntKind.i64 ((if ((65536 : Int) < n) then (65536 : Int) else n) - (((List.length s) : Nat) : Int)))) ∧ (((IntKind.wrap IntKind.i64 ((if ((65536 : Int) < n) then (65536 : Int) else n) - (((List.length s) : Nat) : Int))) ≤ (IntKind.wrap IntKind.i64 ((if ((65536 : Int) < n) then (65536 : Int) else n) - (((List.length s) : Nat) : Int)))) ∧ ((((IntKind.wrap IntKind.i64 ((if ((65536 : Int) < n) then (65536 : Int) else n) - (((List.length s) : Nat) : Int))) * (1 : Int)) ≤ (281474976710656 : Int)) ∧ ((IntKind.wrap IntKind.i64 ((if ((65536 : Int) < n) then (65536 : Int) else n) - (((List.length s) : Nat) : Int))) ≤ (9223372036854775807 : Int))))))
 (cond (decide (((List.length s) + (List.length (toStr (List.replicate (Int.toNat (IntKind.wrap IntKind.i64 ((if ((65536 : Int) < n) then (65536 : Int) else n) - (((List.length s) : Nat) : Int)))) (0 : Int))))) ≤ 9223372036854775807))
 (some (s ++ (toStr (List.replicate (Int.toNat (IntKind.wrap IntKind.i64 ((if ((65536 : Int) < n) then (65536 : Int) else n) - (((List.length s) : Nat) : Int)))) (0 : Int)))))
 (none))
 (none))

noncomputable def t_17 (N : Nat) : Tab (List UInt8) := []

theorem link_17 (N : Nat) (x : denS SQ15) : evFX (E_17 N) N (t_17 N) L_17 Tryz.f94 (mkS SQ15 0 x) (kRes (.v .str) 2) = octet_Pad N x.1 x.2.1 := by kernel_rfl

noncomputable def octet_Pad_res (N : Nat) : List A → Res := resOf SQ15 (fun x => octet_Pad N x.1 x.2.1) (oRes (.v .str) 2)

theorem octet_Pad_ct (N : Nat) : Contract Tryz.prog glob 94 (octet_Pad_res N) :=
  Contract.of (E := E_17 N) (H := t_17 N) (L := L_17) (N := N) (body := body_17) (K := (kRes (.v .str) 2)) (Eok_17 N) Tryz.func94 (by kernel_rfl) (by decide) (fun _ hb => TabOk.nil) (fun x y h => by rw [link_17]; exact h) (kRes_ok (s := (.v .str)) (m := 2))

noncomputable def body_18 : Code := (Tryz.f126.body).getD .skip

noncomputable def L_18 : List (List Nat × List Nat) := [([0], [1, 0]), ([0, 1], [1, 5, 0]), ([0, 0, 1, 1], [10, 9, 5, 0, 1]), ([0, 1, 0, 1, 1], [10, 9, 5, 0, 1]), (PQ47, [11, 10, 5, 0, 1, 9]), (PQ9, [10, 5, 0, 1, 9]), (PQ60, [5]), (PQ44, [5, 6, 0, 1, 10, 9]), (PQ81, [10, 9, 5, 0, 1]), (PQ61, [10, 9, 5, 0, 1]), (PQ62, [10, 9, 5, 0, 1]), ([1, 0, 1, 1], [5]), ([0, 1, 1, 1], [4]), ([1, 1, 1, 1], [4])]

noncomputable def E_18 (N : Nat) : Env := mkEnv tys glob [] [(5, (.int .u8))] [] [] false [] [(98, hmac_framed1_itr N)]

theorem Eok_18 (N : Nat) : EnvOk Tryz.prog (E_18 N) := mkEnv_ok mixed tys_ok (FnsOk.nil) (ItsOk.cons (hmac_framed1_it N) (ItsOk.nil))

noncomputable def sha_bigEndian_s1 (N : Nat) (n : Int) (size : Int) (x9 : Int) (out : (List Int)) (x10 : Int) (rec : (List Int) → Int → Option (List UInt8)) (k0 : (List Int) → Option (List UInt8)) : Option (List UInt8) :=
 cond (decide (x10 < x9))
 (cond (decide ((0 : Int) ≤ (IntKind.wrap IntKind.i64 ((8 : Int) * (IntKind.wrap IntKind.i64 ((IntKind.wrap IntKind.i64 (size - (1 : Int))) - x10))))))
 (cond (inR x10 (List.length out))
 (cond (decide ((Int.toNat x10) < (List.length out)))
 (rec (List.set out (Int.toNat x10) (IntKind.wrap IntKind.u8 (shrI IntKind.u64 n (IntKind.wrap IntKind.i64 ((8 : Int) * (IntKind.wrap IntKind.i64 ((IntKind.wrap IntKind.i64 (size - (1 : Int))) - x10))))))) (IntKind.wrap IntKind.i64 (x10 + (1 : Int))))
 (none))
 (none))
 (none))
 (k0 out)

noncomputable def sha_bigEndian_p1 (N : Nat) (n : Int) (size : Int) (out : (List Int)) (x9 : Int) (x10 : Int) (k0 : (List Int) → Option (List UInt8)) : Option (List UInt8) :=
 iter (fun (v : ((List Int) × Int)) r => sha_bigEndian_s1 N n size x9 v.1 v.2 (fun out x10 => (r (out, x10))) k0) N (out, x10)

noncomputable def g1_18 (N : Nat) (i : (Int × Int × Int)) (v : ((List Int) × Int)) (r : ((List Int) × Int) → Option (List UInt8)) (K : Ex → List A → Option (List UInt8)) : Option (List UInt8) :=
 sha_bigEndian_s1 N i.1 i.2.1 i.2.2 v.1 v.2 (fun out x10 => (r (out, x10))) (fun a0 => (K (.exit 0) (mkS [(5, .row (.int .u8))] 21 (a0, ()))))

noncomputable def h1_18 (N : Nat) : Hd (List UInt8) := fun st K => (unS SQ67 16 (restr [10, 9, 5, 0, 1] 0 st)).bind fun x => iter (fun v r => g1_18 N ((fun x => (x.1, x.2.1, x.2.2.2.1)) x) v r K) N ((fun x => (x.2.2.1, x.2.2.2.2.1)) x)

noncomputable def t1_18 (N : Nat) : Tab (List UInt8) := []

theorem ok1_18 {N : Nat} {c : Ctx} (hb : Base Tryz.prog (E_18 N) c) : CodeOk Tryz.prog c (nodeAt body_18 [0, 1, 0, 1, 1]) (h1_18 N) :=
  loop_ok (s := SQ67) (m := 16) (g1_18 N) [10, 9, 5, 0, 1] N (fun x => (x.1, x.2.1, x.2.2.2.1)) (fun x => (x.2.2.1, x.2.2.2.2.1)) (fun i v => (i.1, i.2.1, v.1, i.2.2, v.2, ())) (fun _ => rfl) (evN_sound hb N (t1_18 N) L_18 body_18 TabOk.nil [0, 0, 1, 0, 1, 1] _ rfl) (fun i v r K => by kernel_rfl)

noncomputable def sha_bigEndian (N : Nat) (n : Int) (size : Int) : Option (List UInt8) :=
 cond (decide (((0 : Int) ≤ size) ∧ ((size ≤ size) ∧ (((size * (1 : Int)) ≤ (281474976710656 : Int)) ∧ (size ≤ (9223372036854775807 : Int))))))
 (sha_bigEndian_p1 N n size (List.replicate (Int.toNat size) (0 : Int)) size (0 : Int)
 (fun out => some (toStr out)))
 (none)

noncomputable def t_18 (N : Nat) : Tab (List UInt8) := [([0, 1, 0, 1, 1], h1_18 N)]

theorem link_18 (N : Nat) (x : denS [(0, .v (.int .u64)), (0, .v (.int .i64))]) : evFX (E_18 N) N (t_18 N) L_18 Tryz.f126 (mkS [(0, .v (.int .u64)), (0, .v (.int .i64))] 0 x) (kRes (.v .str) 2) = sha_bigEndian N x.1 x.2.1 := by kernel_rfl

noncomputable def sha_bigEndian_res (N : Nat) : List A → Res := resOf [(0, .v (.int .u64)), (0, .v (.int .i64))] (fun x => sha_bigEndian N x.1 x.2.1) (oRes (.v .str) 2)

theorem sha_bigEndian_ct (N : Nat) : Contract Tryz.prog glob 126 (sha_bigEndian_res N) :=
  Contract.of (E := E_18 N) (H := t_18 N) (L := L_18) (N := N) (body := body_18) (K := (kRes (.v .str) 2)) (Eok_18 N) Tryz.func126 (by kernel_rfl) (by decide) (fun _ hb => (TabOk.cons (ok1_18 hb) TabOk.nil)) (fun x y h => by rw [link_18]; exact h) (kRes_ok (s := (.v .str)) (m := 2))

noncomputable def body_19 : Code := (Tryz.f118.body).getD .skip

noncomputable def L_19 : List (List Nat × List Nat) := [([0], [0]), ([0, 1], [3, 0]), ([0, 1, 1], [2]), ([1, 1, 1], [2])]

noncomputable def E_19 (N : Nat) : Env := mkEnv tys glob [(126, sha_bigEndian_res N), (94, octet_Pad_res N)] [] [] [] false [] [(98, hmac_framed1_itr N)]

theorem Eok_19 (N : Nat) : EnvOk Tryz.prog (E_19 N) := mkEnv_ok mixed tys_ok (FnsOk.cons (sha_bigEndian_ct N) (FnsOk.cons (octet_Pad_ct N) (FnsOk.nil))) (ItsOk.cons (hmac_framed1_it N) (ItsOk.nil))

noncomputable def sha_tail (N : Nat) (n : Int) : Option (List UInt8) :=
 (octet_Pad N ([(128 : UInt8)] : List UInt8) (IntKind.wrap IntKind.i64 ((1 : Int) + (Int.tmod (IntKind.wrap IntKind.i64 ((119 : Int) - (Int.tmod n (64 : Int)))) (64 : Int))))).bind fun y =>
 (sha_bigEndian N (IntKind.wrap IntKind.u64 ((8 : Int) * (IntKind.wrap IntKind.u64 n))) (8 : Int)).bind fun y1 =>
 cond (decide (((List.length y) + (List.length y1)) ≤ 9223372036854775807))
 (some (y ++ y1))
 (none)

noncomputable def t_19 (N : Nat) : Tab (List UInt8) := []

theorem link_19 (N : Nat) (x : denS [(0, .v (.int .i64))]) : evFX (E_19 N) N (t_19 N) L_19 Tryz.f118 (mkS [(0, .v (.int .i64))] 0 x) (kRes (.v .str) 1) = sha_tail N x.1 := by kernel_rfl

noncomputable def sha_tail_res (N : Nat) : List A → Res := resOf [(0, .v (.int .i64))] (fun x => sha_tail N x.1) (oRes (.v .str) 1)

theorem sha_tail_ct (N : Nat) : Contract Tryz.prog glob 118 (sha_tail_res N) :=
  Contract.of (E := E_19 N) (H := t_19 N) (L := L_19) (N := N) (body := body_19) (K := (kRes (.v .str) 1)) (Eok_19 N) Tryz.func118 (by kernel_rfl) (by decide) (fun _ hb => TabOk.nil) (fun x y h => by rw [link_19]; exact h) (kRes_ok (s := (.v .str)) (m := 1))

noncomputable def body_20 : Code := (Tryz.f117.body).getD .skip

noncomputable def L_20 : List (List Nat × List Nat) := [([0], [1]), ([0, 1], [1, 3]), ([0, 0, 1, 1], [7, 6, 3]), ([0, 1, 0, 1, 1], [7, 6, 3]), (PQ47, [8, 6, 7, 3]), (PQ9, [6, 7, 3]), (PQ60, [3]), (PQ44, [3, 5, 7, 6]), (PQ81, [7, 6, 3]), (PQ61, [7, 6, 3]), (PQ62, [7, 6, 3]), ([1, 0, 1, 1], [3]), ([0, 1, 1, 1], [2]), ([1, 1, 1, 1], [2])]

noncomputable def E_20 (N : Nat) : Env := mkEnv tys glob [(126, sha_bigEndian_res N)] [] [] [] false [] [(98, hmac_framed1_itr N)]

theorem Eok_20 (N : Nat) : EnvOk Tryz.prog (E_20 N) := mkEnv_ok mixed tys_ok (FnsOk.cons (sha_bigEndian_ct N) (FnsOk.nil)) (ItsOk.cons (hmac_framed1_it N) (ItsOk.nil))

noncomputable def sha_Tell_s1 (N : Nat) (x6 : (List Int)) (out : (List UInt8)) (x7 : Int) (rec : (List UInt8) → Int → Option (List UInt8)) (k0 : (List UInt8) → Option (List UInt8)) : Option (List UInt8) :=
 cond (decide (x7 < (8 : Int)))
 (cond (inR x7 8)
 ((sha_bigEndian N (IntKind.wrap IntKind.u64 (List.getD x6 (Int.toNat x7) (0 : Int))) (4 : Int)).bind fun y =>
 cond (decide (((List.length out) + (List.length y)) ≤ 9223372036854775807))
 (rec (out ++ y) (IntKind.wrap IntKind.i64 (x7 + (1 : Int))))
 (none))
 (none))
 (k0 out)

noncomputable def sha_Tell_p1 (N : Nat) (out : (List UInt8)) (x6 : (List Int)) (x7 : Int) (k0 : (List UInt8) → Option (List UInt8)) : Option (List UInt8) :=
 iter (fun (v : ((List UInt8) × Int)) r => sha_Tell_s1 N x6 v.1 v.2 (fun out x7 => (r (out, x7))) k0) N (out, x7)

noncomputable def g1_20 (N : Nat) (i : (List Int)) (v : ((List UInt8) × Int)) (r : ((List UInt8) × Int) → Option (List UInt8)) (K : Ex → List A → Option (List UInt8)) : Option (List UInt8) :=
 sha_Tell_s1 N i v.1 v.2 (fun out x7 => (r (out, x7))) (fun a0 => (K (.exit 0) (mkS [(3, .v .str)] 13 (a0, ()))))

noncomputable def h1_20 (N : Nat) : Hd (List UInt8) := fun st K => (unS [(3, .v .str), (2, .v (.arr 8 (.int .u32))), (0, .v (.int .i64))] 9 (restr [7, 6, 3] 0 st)).bind fun x => iter (fun v r => g1_20 N ((fun x => x.2.1) x) v r K) N ((fun x => (x.1, x.2.2.1)) x)

noncomputable def t1_20 (N : Nat) : Tab (List UInt8) := []

theorem ok1_20 {N : Nat} {c : Ctx} (hb : Base Tryz.prog (E_20 N) c) : CodeOk Tryz.prog c (nodeAt body_20 [0, 1, 0, 1, 1]) (h1_20 N) :=
  loop_ok (s := [(3, .v .str), (2, .v (.arr 8 (.int .u32))), (0, .v (.int .i64))]) (m := 9) (g1_20 N) [7, 6, 3] N (fun x => x.2.1) (fun x => (x.1, x.2.2.1)) (fun i v => (v.1, i, v.2, ())) (fun _ => rfl) (evN_sound hb N (t1_20 N) L_20 body_20 TabOk.nil [0, 0, 1, 0, 1, 1] _ rfl) (fun i v r K => by kernel_rfl)

noncomputable def sha_Tell (N : Nat) (h : (List Int)) : Option (List UInt8) :=
 sha_Tell_p1 N ([] : List UInt8) h (0 : Int)
 (fun out => some out)

noncomputable def t_20 (N : Nat) : Tab (List UInt8) := [([0, 1, 0, 1, 1], h1_20 N)]

theorem link_20 (N : Nat) (x : denS SQ95) : evFX (E_20 N) N (t_20 N) L_20 Tryz.f117 (mkS SQ95 0 x) (kRes (.v .str) 1) = sha_Tell N x.1 := by kernel_rfl

noncomputable def sha_Tell_res (N : Nat) : List A → Res := resOf SQ95 (fun x => sha_Tell N x.1) (oRes (.v .str) 1)

theorem sha_Tell_ct (N : Nat) : Contract Tryz.prog glob 117 (sha_Tell_res N) :=
  Contract.of (E := E_20 N) (H := t_20 N) (L := L_20) (N := N) (body := body_20) (K := (kRes (.v .str) 1)) (Eok_20 N) Tryz.func117 (by kernel_rfl) (by decide) (fun _ hb => (TabOk.cons (ok1_20 hb) TabOk.nil)) (fun x y h => by rw [link_20]; exact h) (kRes_ok (s := (.v .str)) (m := 1))

noncomputable def body_21 : Code := (Tryz.f108.body).getD .skip

noncomputable def L_21 : List (List Nat × List Nat) := [([0], [0]), ([0, 0, 1], [11, 0]), ([1, 0, 1], [0]), ([0, 0, 1, 0, 1], [2, 0]), ([1, 0, 1, 0, 1], [2, 0]), ([0, 1, 1], [2, 0]), ([1, 1, 1], [2, 0])]

noncomputable def E_21 (N : Nat) : Env := mkEnv tys glob [(117, sha_Tell_res N), (118, sha_tail_res N), (116, sha_steps_res N)] [] [] [0] false [] [(98, hmac_framed1_itr N)]

theorem Eok_21 (N : Nat) : EnvOk Tryz.prog (E_21 N) := mkEnv_ok mixed tys_ok (FnsOk.cons (sha_Tell_ct N) (FnsOk.cons (sha_tail_ct N) (FnsOk.cons (sha_steps_ct N) (FnsOk.nil)))) (ItsOk.cons (hmac_framed1_it N) (ItsOk.nil))

noncomputable def sha_Hash_Sum1_p2 (N : Nat) (h : DT9) (k0 : Bool → Option DT16) : Option DT16 :=
 k0 (!h.1)

noncomputable def g2_21 (N : Nat) (x : denS [(0, .box TT6)]) (K : Ex → List A → Option DT16) : Option DT16 :=
 sha_Hash_Sum1_p2 N x.1 (fun a1 => (K .normal (mkS [(0, .box TT6), (10, .v .bool)] 17 (x.1, a1, ()))))

noncomputable def h2_21 (N : Nat) : Hd DT16 := fun st K => (unS [(0, .box TT6)] 28 (restr [0] 0 st)).bind fun x => g2_21 N x K

noncomputable def t2_21 (N : Nat) : Tab DT16 := []

theorem ok2_21 {N : Nat} {c : Ctx} (hb : Base Tryz.prog (E_21 N) c) : CodeOk Tryz.prog c (nodeAt body_21 [0, 0, 1]) (h2_21 N) :=
  piece_ok (s := [(0, .box TT6)]) (m := 28) (g := g2_21 N) [0] (evN_sound hb N (t2_21 N) L_21 body_21 TabOk.nil [0, 0, 1] _ rfl) (fun x K => by kernel_rfl)

noncomputable def sha_Hash_Sum1_p1 (N : Nat) (h : DT9) (k0 : Option DT16) : Option DT16 :=
 sha_Hash_Sum1_p2 N h
 (fun x11 => cond x11
 (none)
 (k0))

noncomputable def g1_21 (N : Nat) (x : denS [(0, .box TT6)]) (K : Ex → List A → Option DT16) : Option DT16 :=
 sha_Hash_Sum1_p1 N x.1 (K .normal (mkS [(0, .box TT6)] 28 (x.1, ())))

noncomputable def h1_21 (N : Nat) : Hd DT16 := fun st K => (unS [(0, .box TT6)] 28 (restr [0] 0 st)).bind fun x => g1_21 N x K

noncomputable def t1_21 (N : Nat) : Tab DT16 := [([0, 0, 1], h2_21 N)]

theorem ok1_21 {N : Nat} {c : Ctx} (hb : Base Tryz.prog (E_21 N) c) : CodeOk Tryz.prog c (nodeAt body_21 [0, 1]) (h1_21 N) :=
  piece_ok (s := [(0, .box TT6)]) (m := 28) (g := g1_21 N) [0] (evN_sound hb N (t1_21 N) L_21 body_21 (TabOk.cons (ok2_21 hb) TabOk.nil) [0, 1] _ rfl) (fun x K => by kernel_rfl)

noncomputable def sha_Hash_Sum1 (N : Nat) (h : DT9) : Option DT16 :=
 sha_Hash_Sum1_p1 N h
 ((sha_tail N h.2.2.2.1).bind fun y =>
 cond (decide (((List.length h.2.2.1) + (List.length y)) ≤ 9223372036854775807))
 ((sha_steps N h.2.1 (h.2.2.1 ++ y)).bind fun y1 =>
 (sha_Tell N y1).bind fun y2 =>
 some (y2, (h, ())))
 (none))

noncomputable def t_21 (N : Nat) : Tab DT16 := [([0, 1], h1_21 N)]

theorem link_21 (N : Nat) (x : denS [(0, .box TT6)]) : evFX (E_21 N) N (t_21 N) L_21 Tryz.f108 (mkS [(0, .box TT6)] 0 x) (kResB (.v .str) [(0, .box TT6)] 0) = sha_Hash_Sum1 N x.1 := by kernel_rfl

noncomputable def sha_Hash_Sum1_res (N : Nat) : List A → Res := resOf [(0, .box TT6)] (fun x => sha_Hash_Sum1 N x.1) (oResB (.v .str) [(0, .box TT6)] 0)

theorem sha_Hash_Sum1_ct (N : Nat) : Contract Tryz.prog glob 108 (sha_Hash_Sum1_res N) :=
  Contract.of (E := E_21 N) (H := t_21 N) (L := L_21) (N := N) (body := body_21) (K := (kResB (.v .str) [(0, .box TT6)] 0)) (Eok_21 N) Tryz.func108 (by kernel_rfl) (by decide) (fun _ hb => (TabOk.cons (ok1_21 hb) TabOk.nil)) (fun x y h => by rw [link_21]; exact h) (kResB_ok (s := (.v .str)) (os := [(0, .box TT6)]) (m := 0))

noncomputable def body_22 : Code := (Tryz.f93.body).getD .skip

noncomputable def L_22 : List (List Nat × List Nat) := [([0], [0]), ([0, 1], [3, 0]), ([0, 1, 1], [3]), ([0, 1, 1, 1], [2]), ([1, 1, 1, 1], [2])]

noncomputable def E_22 (N : Nat) : Env := mkEnv tys glob [(108, sha_Hash_Sum1_res N), (107, sha_Hash_Add_nil_all N), (106, sha_New_res N)] [] [] [] false [] [(98, hmac_framed1_itr N)]

theorem Eok_22 (N : Nat) : EnvOk Tryz.prog (E_22 N) := mkEnv_ok mixed tys_ok (FnsOk.cons (sha_Hash_Sum1_ct N) (FnsOk.cons (sha_Hash_Add_nil_allct N) (FnsOk.cons (sha_New_ct N) (FnsOk.nil)))) (ItsOk.cons (hmac_framed1_it N) (ItsOk.nil))

noncomputable def sha_Sum (N : Nat) (s : (List UInt8)) : Option (List UInt8) :=
 (sha_Hash_Add N (true, (([(1779033703 : Int), (3144134277 : Int), (1013904242 : Int), (2773480762 : Int), (1359893119 : Int), (2600822924 : Int), (528734635 : Int), (1541459225 : Int)] : List Int), (([] : List UInt8), ((0 : Int), ())))) s).bind fun y =>
 (sha_Hash_Sum1 N y.2.1).bind fun y1 =>
 some y1.1

noncomputable def t_22 (N : Nat) : Tab (List UInt8) := []

theorem link_22 (N : Nat) (x : denS [(0, .v .str)]) : evFX (E_22 N) N (t_22 N) L_22 Tryz.f93 (mkS [(0, .v .str)] 0 x) (kRes (.v .str) 1) = sha_Sum N x.1 := by kernel_rfl

noncomputable def sha_Sum_res (N : Nat) : List A → Res := resOf [(0, .v .str)] (fun x => sha_Sum N x.1) (oRes (.v .str) 1)

theorem sha_Sum_ct (N : Nat) : Contract Tryz.prog glob 93 (sha_Sum_res N) :=
  Contract.of (E := E_22 N) (H := t_22 N) (L := L_22) (N := N) (body := body_22) (K := (kRes (.v .str) 1)) (Eok_22 N) Tryz.func93 (by kernel_rfl) (by decide) (fun _ hb => TabOk.nil) (fun x y h => by rw [link_22]; exact h) (kRes_ok (s := (.v .str)) (m := 1))

noncomputable def body_23 : Code := (Tryz.f108.body).getD .skip

noncomputable def L_23 : List (List Nat × List Nat) := [([0], [0]), ([0, 0, 1], [11, 0]), ([1, 0, 1], [0]), ([0, 0, 1, 0, 1], [2, 0]), ([1, 0, 1, 0, 1], [2, 0]), ([0, 1, 1], [2, 0]), ([1, 1, 1], [2, 0])]

noncomputable def E_23 (N : Nat) : Env := mkEnv tys glob [(93, sha_Sum_res N), (117, sha_Tell_res N), (118, sha_tail_res N), (116, sha_steps_res N)] [] [] [0] false [] [(98, hmac_framed1_itr N)]

theorem Eok_23 (N : Nat) : EnvOk Tryz.prog (E_23 N) := mkEnv_ok mixed tys_ok (FnsOk.cons (sha_Sum_ct N) (FnsOk.cons (sha_Tell_ct N) (FnsOk.cons (sha_tail_ct N) (FnsOk.cons (sha_steps_ct N) (FnsOk.nil))))) (ItsOk.cons (hmac_framed1_it N) (ItsOk.nil))

noncomputable def sha_Hash_Sum_p2 (N : Nat) (h : DT9) (k0 : Bool → Option DT16) : Option DT16 :=
 k0 (!h.1)

noncomputable def g2_23 (N : Nat) (x : denS [(0, .box TT6)]) (K : Ex → List A → Option DT16) : Option DT16 :=
 sha_Hash_Sum_p2 N x.1 (fun a1 => (K .normal (mkS [(0, .box TT6), (10, .v .bool)] 17 (x.1, a1, ()))))

noncomputable def h2_23 (N : Nat) : Hd DT16 := fun st K => (unS [(0, .box TT6)] 28 (restr [0] 0 st)).bind fun x => g2_23 N x K

noncomputable def t2_23 (N : Nat) : Tab DT16 := []

theorem ok2_23 {N : Nat} {c : Ctx} (hb : Base Tryz.prog (E_23 N) c) : CodeOk Tryz.prog c (nodeAt body_23 [0, 0, 1]) (h2_23 N) :=
  piece_ok (s := [(0, .box TT6)]) (m := 28) (g := g2_23 N) [0] (evN_sound hb N (t2_23 N) L_23 body_23 TabOk.nil [0, 0, 1] _ rfl) (fun x K => by kernel_rfl)

noncomputable def sha_Hash_Sum_p1 (N : Nat) (h : DT9) (k0 : (List UInt8) → Option DT16) (k1 : Option DT16) : Option DT16 :=
 sha_Hash_Sum_p2 N h
 (fun x11 => cond x11
 ((sha_Sum N ([] : List UInt8)).bind fun y =>
 k0 y)
 (k1))

noncomputable def g1_23 (N : Nat) (x : denS [(0, .box TT6)]) (K : Ex → List A → Option DT16) : Option DT16 :=
 sha_Hash_Sum_p1 N x.1 (fun a1 => (K .ret (mkS [(0, .box TT6), (1, .v .str)] 26 (x.1, a1, ())))) (K .normal (mkS [(0, .box TT6)] 28 (x.1, ())))

noncomputable def h1_23 (N : Nat) : Hd DT16 := fun st K => (unS [(0, .box TT6)] 28 (restr [0] 0 st)).bind fun x => g1_23 N x K

noncomputable def t1_23 (N : Nat) : Tab DT16 := [([0, 0, 1], h2_23 N)]

theorem ok1_23 {N : Nat} {c : Ctx} (hb : Base Tryz.prog (E_23 N) c) : CodeOk Tryz.prog c (nodeAt body_23 [0, 1]) (h1_23 N) :=
  piece_ok (s := [(0, .box TT6)]) (m := 28) (g := g1_23 N) [0] (evN_sound hb N (t1_23 N) L_23 body_23 (TabOk.cons (ok2_23 hb) TabOk.nil) [0, 1] _ rfl) (fun x K => by kernel_rfl)

noncomputable def sha_Hash_Sum (N : Nat) (h : DT9) : Option DT16 :=
 sha_Hash_Sum_p1 N h
 (fun x2 => some (x2, (h, ())))
 ((sha_tail N h.2.2.2.1).bind fun y =>
 cond (decide (((List.length h.2.2.1) + (List.length y)) ≤ 9223372036854775807))
 ((sha_steps N h.2.1 (h.2.2.1 ++ y)).bind fun y1 =>
 (sha_Tell N y1).bind fun y2 =>
 some (y2, (h, ())))
 (none))

noncomputable def t_23 (N : Nat) : Tab DT16 := [([0, 1], h1_23 N)]

theorem link_23 (N : Nat) (x : denS [(0, .box TT6)]) : evFX (E_23 N) N (t_23 N) L_23 Tryz.f108 (mkS [(0, .box TT6)] 0 x) (kResB (.v .str) [(0, .box TT6)] 0) = sha_Hash_Sum N x.1 := by kernel_rfl

noncomputable def sha_Hash_Sum_res (N : Nat) : List A → Res := resOf [(0, .box TT6)] (fun x => sha_Hash_Sum N x.1) (oResB (.v .str) [(0, .box TT6)] 0)

theorem sha_Hash_Sum_ct (N : Nat) : Contract Tryz.prog glob 108 (sha_Hash_Sum_res N) :=
  Contract.of (E := E_23 N) (H := t_23 N) (L := L_23) (N := N) (body := body_23) (K := (kResB (.v .str) [(0, .box TT6)] 0)) (Eok_23 N) Tryz.func108 (by kernel_rfl) (by decide) (fun _ hb => (TabOk.cons (ok1_23 hb) TabOk.nil)) (fun x y h => by rw [link_23]; exact h) (kResB_ok (s := (.v .str)) (os := [(0, .box TT6)]) (m := 0))

noncomputable def sha_Hash_Sum_all (N : Nat) : List A → Res := resAlt [(0, .box TT6)] (fun x => sha_Hash_Sum N x.1) (oResB (.v .str) [(0, .box TT6)] 0) (sha_Hash_Sum1_res N)

theorem sha_Hash_Sum_allct (N : Nat) : Contract Tryz.prog glob 108 (sha_Hash_Sum_all N) := Contract.alt (sha_Hash_Sum_ct N) (sha_Hash_Sum1_ct N)

noncomputable def body_24 : Code := (Tryz.f108.body).getD .skip

noncomputable def L_24 : List (List Nat × List Nat) := [([0], [0]), ([0, 0, 1], [11, 0]), ([1, 0, 1], [0]), ([0, 0, 1, 0, 1], [2]), ([1, 0, 1, 0, 1], [2]), ([0, 1, 1], [2]), ([1, 1, 1], [2])]

noncomputable def E_24 (N : Nat) : Env := mkEnv tys glob [(93, sha_Sum_res N), (117, sha_Tell_res N), (118, sha_tail_res N), (116, sha_steps_res N)] [] [] [] false [] [(98, hmac_framed1_itr N)]

theorem Eok_24 (N : Nat) : EnvOk Tryz.prog (E_24 N) := mkEnv_ok mixed tys_ok (FnsOk.cons (sha_Sum_ct N) (FnsOk.cons (sha_Tell_ct N) (FnsOk.cons (sha_tail_ct N) (FnsOk.cons (sha_steps_ct N) (FnsOk.nil))))) (ItsOk.cons (hmac_framed1_it N) (ItsOk.nil))

noncomputable def sha_Hash_Sum_nil_p2 (N : Nat) (k0 : Bool → Option (List UInt8)) : Option (List UInt8) :=
 k0 true

noncomputable def g2_24 (N : Nat) (x : denS [(0, .nilp)]) (K : Ex → List A → Option (List UInt8)) : Option (List UInt8) :=
 sha_Hash_Sum_nil_p2 N (fun a0 => (K .normal (mkS [(0, .nilp), (10, .v .bool)] 17 ((), a0, ()))))

noncomputable def h2_24 (N : Nat) : Hd (List UInt8) := fun st K => (unS [(0, .nilp)] 28 (restr [0] 0 st)).bind fun x => g2_24 N x K

noncomputable def t2_24 (N : Nat) : Tab (List UInt8) := []

theorem ok2_24 {N : Nat} {c : Ctx} (hb : Base Tryz.prog (E_24 N) c) : CodeOk Tryz.prog c (nodeAt body_24 [0, 0, 1]) (h2_24 N) :=
  piece_ok (s := [(0, .nilp)]) (m := 28) (g := g2_24 N) [0] (evN_sound hb N (t2_24 N) L_24 body_24 TabOk.nil [0, 0, 1] _ rfl) (fun x K => by kernel_rfl)

noncomputable def sha_Hash_Sum_nil_p1 (N : Nat) (k0 : (List UInt8) → Option (List UInt8)) (k1 : Option (List UInt8)) : Option (List UInt8) :=
 sha_Hash_Sum_nil_p2 N
 (fun x11 => cond x11
 ((sha_Sum N ([] : List UInt8)).bind fun y =>
 k0 y)
 (k1))

noncomputable def g1_24 (N : Nat) (x : denS [(0, .nilp)]) (K : Ex → List A → Option (List UInt8)) : Option (List UInt8) :=
 sha_Hash_Sum_nil_p1 N (fun a0 => (K .ret (mkS [(2, .v .str)] 26 (a0, ())))) (K .normal (mkS [(0, .nilp)] 28 ((), ())))

noncomputable def h1_24 (N : Nat) : Hd (List UInt8) := fun st K => (unS [(0, .nilp)] 28 (restr [0] 0 st)).bind fun x => g1_24 N x K

noncomputable def t1_24 (N : Nat) : Tab (List UInt8) := [([0, 0, 1], h2_24 N)]

theorem ok1_24 {N : Nat} {c : Ctx} (hb : Base Tryz.prog (E_24 N) c) : CodeOk Tryz.prog c (nodeAt body_24 [0, 1]) (h1_24 N) :=
  piece_ok (s := [(0, .nilp)]) (m := 28) (g := g1_24 N) [0] (evN_sound hb N (t1_24 N) L_24 body_24 (TabOk.cons (ok2_24 hb) TabOk.nil) [0, 1] _ rfl) (fun x K => by kernel_rfl)

noncomputable def sha_Hash_Sum_nil (N : Nat) : Option (List UInt8) :=
 sha_Hash_Sum_nil_p1 N
 (fun x2 => some x2)
 (none)

noncomputable def t_24 (N : Nat) : Tab (List UInt8) := [([0, 1], h1_24 N)]

theorem link_24 (N : Nat) (x : denS [(0, .nilp)]) : evFX (E_24 N) N (t_24 N) L_24 Tryz.f108 (mkS [(0, .nilp)] 0 x) (kRes (.v .str) 1) = sha_Hash_Sum_nil N := by kernel_rfl

noncomputable def sha_Hash_Sum_nil_res (N : Nat) : List A → Res := resOf [(0, .nilp)] (fun x => sha_Hash_Sum_nil N) (oRes (.v .str) 1)

theorem sha_Hash_Sum_nil_ct (N : Nat) : Contract Tryz.prog glob 108 (sha_Hash_Sum_nil_res N) :=
  Contract.of (E := E_24 N) (H := t_24 N) (L := L_24) (N := N) (body := body_24) (K := (kRes (.v .str) 1)) (Eok_24 N) Tryz.func108 (by kernel_rfl) (by decide) (fun _ hb => (TabOk.cons (ok1_24 hb) TabOk.nil)) (fun x y h => by rw [link_24]; exact h) (kRes_ok (s := (.v .str)) (m := 1))

noncomputable def sha_Hash_Sum_nil_all (N : Nat) : List A → Res := resAlt [(0, .nilp)] (fun x => sha_Hash_Sum_nil N) (oRes (.v .str) 1) (sha_Hash_Sum_all N)

theorem sha_Hash_Sum_nil_allct (N : Nat) : Contract Tryz.prog glob 108 (sha_Hash_Sum_nil_all N) := Contract.alt (sha_Hash_Sum_nil_ct N) (sha_Hash_Sum_allct N)

noncomputable def body_33 : Code := (Tryz.f96.body).getD .skip

noncomputable def L_33 : List (List Nat × List Nat) := [([0], [0, 1]), ([0, 1], [5, 0, 1]), ([0, 0, 1, 1], [15, 14, 5, 0, 1]), ([0, 1, 0, 1, 1], [15, 14, 5, 0, 1]), (PQ47, [16, 15, 5, 0, 1, 14]), (PQ9, [15, 5, 0, 1, 14]), (PQ60, [5]), (PQ44, [5, 6, 0, 1, 15, 14]), (PQ81, [15, 14, 5, 0, 1]), (PQ61, [15, 14, 5, 0, 1]), (PQ62, [15, 14, 5, 0, 1]), ([1, 0, 1, 1], [5]), ([0, 1, 1, 1], [4]), ([1, 1, 1, 1], [4])]

noncomputable def E_33 (N : Nat) : Env := mkEnv tys glob [] [(5, (.int .u8))] [] [] false [] [(98, hmac_framed1_itr N)]

theorem Eok_33 (N : Nat) : EnvOk Tryz.prog (E_33 N) := mkEnv_ok mixed tys_ok (FnsOk.nil) (ItsOk.cons (hmac_framed1_it N) (ItsOk.nil))

noncomputable def octet_Xor_s1 (N : Nat) (a : (List UInt8)) (b : (List UInt8)) (x14 : Int) (out : (List Int)) (x15 : Int) (rec : (List Int) → Int → Option (List UInt8)) (k0 : (List Int) → Option (List UInt8)) : Option (List UInt8) :=
 cond (decide (x15 < x14))
 (cond (inR x15 (List.length a))
 (cond (inR x15 (List.length b))
 (cond (inR x15 (List.length out))
 (cond (decide ((Int.toNat x15) < (List.length out)))
 (rec (List.set out (Int.toNat x15) (bitsOp Go.BinOp.xor IntKind.u8 (((UInt8.toNat (List.getD a (Int.toNat x15) (0 : UInt8))) : Nat) : Int) (((UInt8.toNat (List.getD b (Int.toNat x15) (0 : UInt8))) : Nat) : Int))) (IntKind.wrap IntKind.i64 (x15 + (1 : Int))))
 (none))
 (none))
 (none))
 (none))
 (k0 out)

noncomputable def octet_Xor_p1 (N : Nat) (a : (List UInt8)) (b : (List UInt8)) (out : (List Int)) (x14 : Int) (x15 : Int) (k0 : (List Int) → Option (List UInt8)) : Option (List UInt8) :=
 iter (fun (v : ((List Int) × Int)) r => octet_Xor_s1 N a b x14 v.1 v.2 (fun out x15 => (r (out, x15))) k0) N (out, x15)

noncomputable def g1_33 (N : Nat) (i : ((List UInt8) × (List UInt8) × Int)) (v : ((List Int) × Int)) (r : ((List Int) × Int) → Option (List UInt8)) (K : Ex → List A → Option (List UInt8)) : Option (List UInt8) :=
 octet_Xor_s1 N i.1 i.2.1 i.2.2 v.1 v.2 (fun out x15 => (r (out, x15))) (fun a0 => (K (.exit 0) (mkS [(5, .row (.int .u8))] 25 (a0, ()))))

noncomputable def h1_33 (N : Nat) : Hd (List UInt8) := fun st K => (unS SQ94 15 (restr [15, 14, 5, 0, 1] 0 st)).bind fun x => iter (fun v r => g1_33 N ((fun x => (x.1, x.2.1, x.2.2.2.1)) x) v r K) N ((fun x => (x.2.2.1, x.2.2.2.2.1)) x)

noncomputable def t1_33 (N : Nat) : Tab (List UInt8) := []

theorem ok1_33 {N : Nat} {c : Ctx} (hb : Base Tryz.prog (E_33 N) c) : CodeOk Tryz.prog c (nodeAt body_33 [0, 1, 0, 1, 1]) (h1_33 N) :=
  loop_ok (s := SQ94) (m := 15) (g1_33 N) [15, 14, 5, 0, 1] N (fun x => (x.1, x.2.1, x.2.2.2.1)) (fun x => (x.2.2.1, x.2.2.2.2.1)) (fun i v => (i.1, i.2.1, v.1, i.2.2, v.2, ())) (fun _ => rfl) (evN_sound hb N (t1_33 N) L_33 body_33 TabOk.nil [0, 0, 1, 0, 1, 1] _ rfl) (fun i v r K => by kernel_rfl)

noncomputable def octet_Xor (N : Nat) (a : (List UInt8)) (b : (List UInt8)) : Option (List UInt8) :=
 cond (decide (((0 : Int) ≤ (if ((((List.length b) : Nat) : Int) < (((List.length a) : Nat) : Int)) then (((List.length b) : Nat) : Int) else (((List.length a) : Nat) : Int))) ∧ (((if ((((List.length b) : Nat) : Int) < (((List.length a) : Nat) : Int)) then (((List.length b) : Nat) : Int) else (((List.length a) : Nat) : Int)) ≤ (if ((((List.length b) : Nat) : Int) < (((List.length a) : Nat) : Int)) then (((List.length b) : Nat) : Int) else (((List.length a) : Nat) : Int))) ∧ ((((if ((((List.length b) : Nat) : Int) < (((List.length a) : Nat) : Int)) then (((List.length b) : Nat) : Int) else (((List.length a) : Nat) : Int)) * (1 : Int)) ≤ (281474976710656 : Int)) ∧ ((if ((((List.length b) : Nat) : Int) < (((List.length a) : Nat) : Int)) then (((List.length b) : Nat) : Int) else (((List.length a) : Nat) : Int)) ≤ (9223372036854775807 : Int))))))
 (octet_Xor_p1 N a b (List.replicate (Int.toNat (if ((((List.length b) : Nat) : Int) < (((List.length a) : Nat) : Int)) then (((List.length b) : Nat) : Int) else (((List.length a) : Nat) : Int))) (0 : Int)) (((List.length (List.replicate (Int.toNat (if ((((List.length b) : Nat) : Int) < (((List.length a) : Nat) : Int)) then (((List.length b) : Nat) : Int) else (((List.length a) : Nat) : Int))) (0 : Int))) : Nat) : Int) (0 : Int)
 (fun out => some (toStr out)))
 (none)

noncomputable def t_33 (N : Nat) : Tab (List UInt8) := [([0, 1, 0, 1, 1], h1_33 N)]

theorem link_33 (N : Nat) (x : denS SQ0) : evFX (E_33 N) N (t_33 N) L_33 Tryz.f96 (mkS SQ0 0 x) (kRes (.v .str) 2) = octet_Xor N x.1 x.2.1 := by kernel_rfl

noncomputable def octet_Xor_res (N : Nat) : List A → Res := resOf SQ0 (fun x => octet_Xor N x.1 x.2.1) (oRes (.v .str) 2)

theorem octet_Xor_ct (N : Nat) : Contract Tryz.prog glob 96 (octet_Xor_res N) :=
  Contract.of (E := E_33 N) (H := t_33 N) (L := L_33) (N := N) (body := body_33) (K := (kRes (.v .str) 2)) (Eok_33 N) Tryz.func96 (by kernel_rfl) (by decide) (fun _ hb => (TabOk.cons (ok1_33 hb) TabOk.nil)) (fun x y h => by rw [link_33]; exact h) (kRes_ok (s := (.v .str)) (m := 2))

noncomputable def body_34 : Code := (Tryz.f95.body).getD .skip

noncomputable def L_34 : List (List Nat × List Nat) := [([0], [0, 1, 2]), ([0, 1], [7, 0, 1, 2]), ([0, 1, 1], [7, 2]), ([0, 1, 1, 1], [7]), ([0, 1, 1, 1, 1], [6]), ([1, 1, 1, 1, 1], [6])]

noncomputable def E_34 (N : Nat) : Env := mkEnv tys glob [(96, octet_Xor_res N), (108, sha_Hash_Sum_nil_all N), (107, sha_Hash_Add_nil_all N), (106, sha_New_res N), (109, repeat_res)] [] [] [] false [] [(98, hmac_framed1_itr N)]

theorem Eok_34 (N : Nat) : EnvOk Tryz.prog (E_34 N) := mkEnv_ok mixed tys_ok (FnsOk.cons (octet_Xor_ct N) (FnsOk.cons (sha_Hash_Sum_nil_allct N) (FnsOk.cons (sha_Hash_Add_nil_allct N) (FnsOk.cons (sha_New_ct N) (FnsOk.cons (repeat_ct glob) (FnsOk.nil)))))) (ItsOk.cons (hmac_framed1_it N) (ItsOk.nil))

noncomputable def hmac_keyed (N : Nat) (key : (List UInt8)) (mask : (List UInt8)) (text : (List UInt8)) : Option (List UInt8) :=
 (repeat_F (mask, ((64 : Int), ()))).bind fun y =>
 (octet_Xor N key y).bind fun y1 =>
 (sha_Hash_Add N (true, (([(1779033703 : Int), (3144134277 : Int), (1013904242 : Int), (2773480762 : Int), (1359893119 : Int), (2600822924 : Int), (528734635 : Int), (1541459225 : Int)] : List Int), (([] : List UInt8), ((0 : Int), ())))) y1).bind fun y2 =>
 (sha_Hash_Add N y2.2.1 text).bind fun y3 =>
 (sha_Hash_Sum N y3.2.1).bind fun y4 =>
 some y4.1

noncomputable def t_34 (N : Nat) : Tab (List UInt8) := []

theorem link_34 (N : Nat) (x : denS SQ2) : evFX (E_34 N) N (t_34 N) L_34 Tryz.f95 (mkS SQ2 0 x) (kRes (.v .str) 3) = hmac_keyed N x.1 x.2.1 x.2.2.1 := by kernel_rfl

noncomputable def hmac_keyed_res (N : Nat) : List A → Res := resOf SQ2 (fun x => hmac_keyed N x.1 x.2.1 x.2.2.1) (oRes (.v .str) 3)

theorem hmac_keyed_ct (N : Nat) : Contract Tryz.prog glob 95 (hmac_keyed_res N) :=
  Contract.of (E := E_34 N) (H := t_34 N) (L := L_34) (N := N) (body := body_34) (K := (kRes (.v .str) 3)) (Eok_34 N) Tryz.func95 (by kernel_rfl) (by decide) (fun _ hb => TabOk.nil) (fun x y h => by rw [link_34]; exact h) (kRes_ok (s := (.v .str)) (m := 3))

noncomputable def body_35 : Code := (Tryz.f72.body).getD .skip

noncomputable def L_35 : List (List Nat × List Nat) := [([0], [0, 1]), ([0, 0, 1], [8, 0, 1]), ([1, 0, 1], [0, 1]), ([0, 1, 0, 1], [0, 1]), ([0, 1, 1], [0, 1]), ([0, 1, 1, 1], [0, 5]), ([0, 1, 1, 1, 1], [4]), ([1, 1, 1, 1, 1], [4])]

noncomputable def E_35 (N : Nat) : Env := mkEnv tys glob [(95, hmac_keyed_res N), (93, sha_Sum_res N), (94, octet_Pad_res N)] [] [] [] false [] [(98, hmac_framed1_itr N)]

theorem Eok_35 (N : Nat) : EnvOk Tryz.prog (E_35 N) := mkEnv_ok mixed tys_ok (FnsOk.cons (hmac_keyed_ct N) (FnsOk.cons (sha_Sum_ct N) (FnsOk.cons (octet_Pad_ct N) (FnsOk.nil)))) (ItsOk.cons (hmac_framed1_it N) (ItsOk.nil))

noncomputable def hmac_Sum_p1 (N : Nat) (key : (List UInt8)) (text : (List UInt8)) (k0 : (List UInt8) → Option (List UInt8)) : Option (List UInt8) :=
 cond (decide ((64 : Int) < (((List.length key) : Nat) : Int)))
 ((sha_Sum N key).bind fun y =>
 k0 y)
 (k0 key)

noncomputable def g1_35 (N : Nat) (x : denS SQ0) (K : Ex → List A → Option (List UInt8)) : Option (List UInt8) :=
 hmac_Sum_p1 N x.1 x.2.1 (fun a0 => (K .normal (mkS SQ0 17 (a0, x.2.1, ()))))

noncomputable def h1_35 (N : Nat) : Hd (List UInt8) := fun st K => (unS SQ0 17 (restr [0, 1] 0 st)).bind fun x => g1_35 N x K

noncomputable def t1_35 (N : Nat) : Tab (List UInt8) := []

theorem ok1_35 {N : Nat} {c : Ctx} (hb : Base Tryz.prog (E_35 N) c) : CodeOk Tryz.prog c (nodeAt body_35 [0, 1]) (h1_35 N) :=
  piece_ok (s := SQ0) (m := 17) (g := g1_35 N) [0, 1] (evN_sound hb N (t1_35 N) L_35 body_35 TabOk.nil [0, 1] _ rfl) (fun x K => by kernel_rfl)

noncomputable def hmac_Sum (N : Nat) (key : (List UInt8)) (text : (List UInt8)) : Option (List UInt8) :=
 hmac_Sum_p1 N key text
 (fun key1 => (octet_Pad N key1 (64 : Int)).bind fun y =>
 (hmac_keyed N y ([(54 : UInt8)] : List UInt8) text).bind fun y1 =>
 (hmac_keyed N y ([(92 : UInt8)] : List UInt8) y1).bind fun y2 =>
 some y2)

noncomputable def t_35 (N : Nat) : Tab (List UInt8) := [([0, 1], h1_35 N)]

theorem link_35 (N : Nat) (x : denS SQ0) : evFX (E_35 N) N (t_35 N) L_35 Tryz.f72 (mkS SQ0 0 x) (kRes (.v .str) 2) = hmac_Sum N x.1 x.2.1 := by kernel_rfl

noncomputable def hmac_Sum_res (N : Nat) : List A → Res := resOf SQ0 (fun x => hmac_Sum N x.1 x.2.1) (oRes (.v .str) 2)

theorem hmac_Sum_ct (N : Nat) : Contract Tryz.prog glob 72 (hmac_Sum_res N) :=
  Contract.of (E := E_35 N) (H := t_35 N) (L := L_35) (N := N) (body := body_35) (K := (kRes (.v .str) 2)) (Eok_35 N) Tryz.func72 (by kernel_rfl) (by decide) (fun _ hb => (TabOk.cons (ok1_35 hb) TabOk.nil)) (fun x y h => by rw [link_35]; exact h) (kRes_ok (s := (.v .str)) (m := 2))

noncomputable def body_36 : Code := (Tryz.f45.body).getD .skip

noncomputable def L_36 : List (List Nat × List Nat) := [([0], [0, 1]), ([0, 1], [4]), ([1, 1], [4])]

noncomputable def E_36 (N : Nat) : Env := mkEnv tys glob [(72, hmac_Sum_res N), (47, hmac_Frame_res N)] [] [] [] false [] [(98, hmac_framed1_itr N)]

theorem Eok_36 (N : Nat) : EnvOk Tryz.prog (E_36 N) := mkEnv_ok mixed tys_ok (FnsOk.cons (hmac_Sum_ct N) (FnsOk.cons (hmac_Frame_ct N) (FnsOk.nil))) (ItsOk.cons (hmac_framed1_it N) (ItsOk.nil))

noncomputable def hmac_Parts (N : Nat) (key : (List UInt8)) (parts : (List (List UInt8))) : Option (List UInt8) :=
 (hmac_Frame N parts).bind fun y =>
 (hmac_Sum N key y).bind fun y1 =>
 some y1

noncomputable def t_36 (N : Nat) : Tab (List UInt8) := []

theorem link_36 (N : Nat) (x : denS SQ73) : evFX (E_36 N) N (t_36 N) L_36 Tryz.f45 (mkS SQ73 0 x) (kRes (.v .str) 2) = hmac_Parts N x.1 x.2.1 := by kernel_rfl

noncomputable def hmac_Parts_res (N : Nat) : List A → Res := resOf SQ73 (fun x => hmac_Parts N x.1 x.2.1) (oRes (.v .str) 2)

theorem hmac_Parts_ct (N : Nat) : Contract Tryz.prog glob 45 (hmac_Parts_res N) :=
  Contract.of (E := E_36 N) (H := t_36 N) (L := L_36) (N := N) (body := body_36) (K := (kRes (.v .str) 2)) (Eok_36 N) Tryz.func45 (by kernel_rfl) (by decide) (fun _ hb => TabOk.nil) (fun x y h => by rw [link_36]; exact h) (kRes_ok (s := (.v .str)) (m := 2))

noncomputable def body_37 : Code := (Tryz.f19.body).getD .skip

noncomputable def L_37 : List (List Nat × List Nat) := [([0], [0, 1]), ([0, 1], [4]), ([1, 1], [4])]

noncomputable def E_37 (N : Nat) : Env := mkEnv tys glob [(45, hmac_Parts_res N)] [] [] [] false [] [(98, hmac_framed1_itr N)]

theorem Eok_37 (N : Nat) : EnvOk Tryz.prog (E_37 N) := mkEnv_ok mixed tys_ok (FnsOk.cons (hmac_Parts_ct N) (FnsOk.nil)) (ItsOk.cons (hmac_framed1_it N) (ItsOk.nil))

noncomputable def chain_Root (N : Nat) (key : (List UInt8)) (id_ : (List UInt8)) : Option (List UInt8) :=
 (hmac_Parts N key ([([(114 : UInt8), (111 : UInt8), (111 : UInt8), (116 : UInt8)] : List UInt8), id_] : List (List UInt8))).bind fun y =>
 some y

noncomputable def t_37 (N : Nat) : Tab (List UInt8) := []

theorem link_37 (N : Nat) (x : denS SQ0) : evFX (E_37 N) N (t_37 N) L_37 Tryz.f19 (mkS SQ0 0 x) (kRes (.v .str) 2) = chain_Root N x.1 x.2.1 := by kernel_rfl

noncomputable def chain_Root_res (N : Nat) : List A → Res := resOf SQ0 (fun x => chain_Root N x.1 x.2.1) (oRes (.v .str) 2)

theorem chain_Root_ct (N : Nat) : Contract Tryz.prog glob 19 (chain_Root_res N) :=
  Contract.of (E := E_37 N) (H := t_37 N) (L := L_37) (N := N) (body := body_37) (K := (kRes (.v .str) 2)) (Eok_37 N) Tryz.func19 (by kernel_rfl) (by decide) (fun _ hb => TabOk.nil) (fun x y h => by rw [link_37]; exact h) (kRes_ok (s := (.v .str)) (m := 2))

noncomputable def body_38 : Code := (Tryz.f49.body).getD .skip

noncomputable def L_38 : List (List Nat × List Nat) := [([0], [1]), ([0, 1], [2]), ([1, 1], [2])]

noncomputable def E_38 (N : Nat) : Env := mkEnv tys glob [] [] [] [] false [] [(98, hmac_framed1_itr N)]

theorem Eok_38 (N : Nat) : EnvOk Tryz.prog (E_38 N) := mkEnv_ok mixed tys_ok (FnsOk.nil) (ItsOk.cons (hmac_framed1_it N) (ItsOk.nil))

noncomputable def holder_addition_full (N : Nat) (a : (DT8 × (DT1 × Unit))) : Option Bool :=
 some (decide ((64 : Int) ≤ (((List.length a.2.1.2.1) : Nat) : Int)))

noncomputable def t_38 (N : Nat) : Tab Bool := []

theorem link_38 (N : Nat) (x : denS SQ51) : evFX (E_38 N) N (t_38 N) L_38 Tryz.f49 (mkS SQ51 0 x) (kRes (.v .bool) 1) = holder_addition_full N x.1 := by kernel_rfl

noncomputable def holder_addition_full_res (N : Nat) : List A → Res := resOf SQ51 (fun x => holder_addition_full N x.1) (oRes (.v .bool) 1)

theorem holder_addition_full_ct (N : Nat) : Contract Tryz.prog glob 49 (holder_addition_full_res N) :=
  Contract.of (E := E_38 N) (H := t_38 N) (L := L_38) (N := N) (body := body_38) (K := (kRes (.v .bool) 1)) (Eok_38 N) Tryz.func49 (by kernel_rfl) (by decide) (fun _ hb => TabOk.nil) (fun x y h => by rw [link_38]; exact h) (kRes_ok (s := (.v .bool)) (m := 1))

def Calm (w : World) (S : Hp) (w' : World) : Prop := ∃ S', WF w (fun _ => False) w' ∧ Lift.Sub S S' ∧ Lift.Sub S' (hp w') ∧ ∀ k, S' k ≠ none → S k ≠ none ∨ w.heap.size ≤ k

theorem Calm.refl {w : World} {S : Hp} (h : Lift.Sub S (hp w)) : Calm w S w := ⟨S, WF.refl _ _, Lift.Sub.refl S, h, fun _ h => .inl h⟩

theorem args_plain {w : World} {S : Hp} (l : List (A × Value)) (hl : ∀ p ∈ l, ARel (hp w) S (fun _ => undef) p.1 p.2 [] ∧ p.1.refs = []) :
    ArgsRel (hp w) S (l.map (·.1)) (l.map (·.2)) (fun _ => []) := by
  refine ⟨by simp, fun i y hy => ?_, fun _ _ => rfl, (fun i j b hb => by cases hb), fun _ => .nil, (fun i b hb => by cases hb)⟩
  simp only [List.getElem?_map] at hy ⊢
  cases hp : l[i]? with
  | none => rw [hp] at hy; cases hy
  | some p =>
    rw [hp] at hy
    cases hy
    have := hl p (List.mem_of_getElem? hp)
    exact ⟨⟨p.2, rfl, this.1⟩, this.2⟩

abbrev LinkT : T := .pair .str (.pair .str .unit)

noncomputable def cl_ren : Go.Shelf.Ren := ⟨fun | 41 => 82 | n => n, fun | 4 => 4 | 22 => 22 | 23 => 67 | n => n, fun n => n⟩

theorem cl_lays : Go.Proofs.SlLaysE0.n41 Tryz.prog cl_ren where
  mixed := by kernel_rfl
  f41 := ⟨"slices.Clone[[]porter/api.Link,porter/api.Link]", by decide, Tryz.func82.trans (congrArg some (by kernel_rfl))⟩
  t4 := Tryz.underlying4
  a4 := Tryz.isAgg4
  z4 := Tryz.sizeOf4
  v4 := Tryz.zeroValue4
  t22 := Tryz.underlying22
  a22 := Tryz.isAgg22
  z22 := Tryz.sizeOf22
  v22 := Tryz.zeroValue22

noncomputable def clone_link (N : Nat) (l : List LinkT.den) : Option (List LinkT.den) := cond (decide (l.length * 32 ≤ 140737488355328)) (some l) none

noncomputable def clone_link_res (N : Nat) : List A → Res := resOf [(0, .v (.sl LinkT))] (fun x => clone_link N x.1) (oRes (.row LinkT) 1)

theorem clone_link_ct (N : Nat) : Contract Tryz.prog glob 82 (clone_link_res N) :=
  clone_ct cl_lays (ee := ty67) ty67_ok (by decide) (by decide) glob

abbrev TokT : T := .pair .str (.pair (.sl LinkT) (.pair .str .unit))

abbrev TokO : T := .pair .str (.pair (.own LinkT) (.pair .str .unit))

noncomputable def holder_clone (N : Nat) (t : TokT.den) : Option TokO.den := (clone_link N t.2.1).bind fun l => some (t.1, (l, (t.2.2.1, ())))

noncomputable def holder_clone_res (N : Nat) : List A → Res := resOf [(0, .v TokT)] (fun x => holder_clone N x.1) (oRes (.ov TokO) 1)

theorem tok_inv {S : Hp} {i t : List UInt8} {l : List LinkT.den} {v : Value} (h : VR S TokT (i, (l, (t, ()))) v) : ∃ sv, v = .agg #[.string ⟨⟨i⟩⟩, sv, .string ⟨⟨t⟩⟩] ∧ VR S (.sl LinkT) l sv := by
  have h' : ∃ cs, v = .agg cs ∧ Rd S TokT (i, (l, (t, ()))) cs.toList := h
  obtain ⟨cs, rfl, c1, c2, hc, k1, c3, c4, hc', k2, c5, c6, hc'', k3, k4⟩ := h'
  have e1 : c1 = [.string ⟨⟨i⟩⟩] := k1
  have e3 : c5 = [.string ⟨⟨t⟩⟩] := k3
  have e5 : c6 = [] := k4
  obtain ⟨a, cap, e2, hcap, hk⟩ := k2
  refine ⟨.slice a l.length cap, ?_, VR.of_one rfl ⟨a, cap, rfl, hcap, hk⟩⟩
  congr 1
  apply Array.toList_inj.1
  rw [hc, hc', hc'', e1, e2, e3, e5]
  rfl

theorem clone_call (N : Nat) {w : World} {S : Hp} (hS : Lift.Sub S (hp w)) (hg : GlobOk glob S) {l l' : List LinkT.den} {sv : Value} (hv : VR S (.sl LinkT) l sv) (hy : clone_link N l = some l') :
    Calls Tryz.prog 82 #[sv] w fun r w' => ∃ v o S', r = .returned v ∧ RowRel (hp w') S' LinkT l' v o ∧ (∀ b ∈ o, S' b = none ∧ w.heap.size ≤ b) ∧ o.Nodup ∧
      WF w (fun _ => False) w' ∧ Lift.Sub S S' ∧ Lift.Sub S' (hp w') ∧ ∀ k, S' k ≠ none → S k ≠ none ∨ w.heap.size ≤ k := by
  refine ((clone_link_ct N).2 w S _ _ _ (args_plain [(.v (.sl LinkT) l, sv)] (fun p hp => by rw [List.mem_singleton.1 hp]; exact ⟨⟨hv, rfl⟩, rfl⟩)) hS hg _ hy).mono ?_
  rintro e w' ⟨v, S', o, ob', rfl, hwf, k1, k2, k3, ⟨hr, _⟩, ho, hnd, _⟩
  refine ⟨v, o, S', rfl, hr, fun b hb => ?_, hnd, ⟨hwf.size, fun k hk _ => hwf.same k hk (by rintro ⟨i, hi⟩; cases hi), hwf.tape, hwf.os, hwf.output⟩, k1, k2, fun k hk => ?_⟩
  · obtain ⟨o1, o2⟩ := ho b hb
    refine ⟨o1, ?_⟩
    rcases o2 with ⟨i, hi⟩ | h
    · cases hi
    · exact h
  · rcases k3 k hk with h | ⟨i, hi⟩ | h
    · exact .inl h
    · cases hi
    · exact .inr h

theorem VRsl_one {S : Hp} {t : T} {l : List t.den} {v : Value} (h : VR S (.sl t) l v) : ∃ a n c, v = .slice a n c := by
  have h' : Rd S (.sl t) l [v] := h
  obtain ⟨a, c, e, _⟩ := h'
  exact ⟨a, _, c, by cases e; rfl⟩

theorem row_sl {h S : Hp} {t : T} {l : List t.den} {v : Value} {o : List Nat} (hr : RowRel h S t l v o) : ∃ a n c, v = .slice a n c := by
  rcases hr with ⟨_, ⟨ad, e, _⟩, _⟩ | ⟨b, cap, cs, E, fr, _, e, _⟩
  · exact ⟨ad, 0, 0, e⟩
  · exact ⟨_, _, _, e⟩

theorem keepB {w w3 : World} (h : WF w (fun _ => False) w3) {b : Nat} {o : Obj} (hb : w.heap[b]? = some o) : w3.heap[b]? = some o := by
  rw [h.same b (Array.getElem?_eq_some_iff.1 hb).1 (fun h => h)]; exact hb

theorem cellB {w : World} {b i E : Nat} {cs : Array Value} {v : Value} (hb : w.heap[b]? = some (.cells cs E (0, 0))) (hi : cs[i]? = some v) : w.cell? ⟨b, i, none⟩ = some v := by
  simp [World.cell?, hb, hi]

theorem freeB {w : World} {b i E : Nat} {cs : Array Value} (hb : w.heap[b]? = some (.cells cs E (0, 0))) : w.frozen? ⟨b, i, none⟩ = false := by
  simp [World.frozen?, hb]

theorem set_other {w : World} {b i k : Nat} {v : Value} (hk : k ≠ b) : (w.setCell ⟨b, i, none⟩ v).heap[k]? = w.heap[k]? := by
  have : b ≠ k := fun h => hk h.symm
  simp [World.setCell, Array.getElem?_modify, this]

theorem set_size {w : World} {b i : Nat} {v : Value} : (w.setCell ⟨b, i, none⟩ v).heap.size = w.heap.size ∧ (w.setCell ⟨b, i, none⟩ v).tape = w.tape ∧ (w.setCell ⟨b, i, none⟩ v).os = w.os ∧ (w.setCell ⟨b, i, none⟩ v).output = w.output := by
  simp [World.setCell]

structure But (B : Nat → Prop) (w w' : World) : Prop where
  same : ∀ k, ¬ B k → w'.heap[k]? = w.heap[k]?
  size : w'.heap.size = w.heap.size
  tape : w'.tape = w.tape
  os : w'.os = w.os
  output : w'.output = w.output

theorem But.refl (B : Nat → Prop) (w : World) : But B w w := ⟨fun _ _ => rfl, rfl, rfl, rfl, rfl⟩

theorem But.set {B : Nat → Prop} {w w' : World} (h : But B w w') {b i : Nat} {v : Value} (hb : B b) : But B w (w'.setCell ⟨b, i, none⟩ v) :=
  ⟨fun k hk => by rw [set_other (fun e => hk (by rw [e]; exact hb)), h.same k hk], set_size.1.trans h.size, set_size.2.1.trans h.tape, set_size.2.2.1.trans h.os, set_size.2.2.2.trans h.output⟩

theorem alloc_two {w : World} {c1 c2 : Array Value} {E1 E2 : Nat} : ((w.alloc (.cells c1 E1)).alloc (.cells c2 E2)).heap[w.heap.size]? = some (.cells c1 E1 (0, 0)) ∧ ((w.alloc (.cells c1 E1)).alloc (.cells c2 E2)).heap[w.heap.size + 1]? = some (.cells c2 E2 (0, 0)) ∧
    ((w.alloc (.cells c1 E1)).alloc (.cells c2 E2)).heap.size = w.heap.size + 2 ∧ ∀ k, k < w.heap.size → ((w.alloc (.cells c1 E1)).alloc (.cells c2 E2)).heap[k]? = w.heap[k]? := by
  have hh : ((w.alloc (.cells c1 E1)).alloc (.cells c2 E2)).heap = (w.heap.push (.cells c1 E1 (0, 0))).push (.cells c2 E2 (0, 0)) := rfl
  refine ⟨?_, ?_, ?_, fun k hk => ?_⟩
  · rw [hh, Array.getElem?_push, Array.size_push, if_neg (by omega), Array.getElem?_push, if_pos rfl]
  · rw [hh, Array.getElem?_push, Array.size_push, if_pos rfl]
  · rw [hh, Array.size_push, Array.size_push]
  · rw [hh, Array.getElem?_push, Array.size_push, if_neg (by omega), Array.getElem?_push, if_neg (by omega)]

theorem sub_alloc_two {w : World} {S : Hp} (hS : Lift.Sub S (hp w)) (c1 c2 : Array Value) (E1 E2 : Nat) : Lift.Sub S (hp ((w.alloc (.cells c1 E1)).alloc (.cells c2 E2))) := fun b o ho => by
  have := hS b o ho
  simp only [hp] at this ⊢
  rw [alloc_two.2.2.2 b (Array.getElem?_eq_some_iff.1 this).1]
  exact this

theorem clone_walk (N : Nat) {w : World} {S : Hp} (hS : Lift.Sub S (hp w)) (hg : GlobOk glob S) {i t : List UInt8} {l l' : List LinkT.den} {sv : Value} (hv : VR S (.sl LinkT) l sv) (hy : clone_link N l = some l') :
    Calls Tryz.prog 52 #[.agg #[.string ⟨⟨i⟩⟩, sv, .string ⟨⟨t⟩⟩]] w fun r w' => ∃ v o S', r = .returned (.agg #[.string ⟨⟨i⟩⟩, v, .string ⟨⟨t⟩⟩]) ∧ RowRel (hp w') S' LinkT l' v o ∧ (∀ b ∈ o, S' b = none ∧ w.heap.size ≤ b) ∧ o.Nodup ∧
      WF w (fun _ => False) w' ∧ Lift.Sub S S' ∧ Lift.Sub S' (hp w') ∧ ∀ k, S' k ≠ none → S k ≠ none ∨ w.heap.size ≤ k := by
  obtain ⟨a, n, c, rfl⟩ := VRsl_one hv
  have HC := clone_call N (sub_alloc_two hS #[.string ⟨⟨i⟩⟩, .slice a n c, .string ⟨⟨t⟩⟩] #[.string ⟨#[]⟩, .slice none 0 0, .string ⟨#[]⟩] 24 24) hg hv hy
  obtain ⟨q0, q1, q2, q3⟩ := alloc_two (w := w) (c1 := #[.string ⟨⟨i⟩⟩, .slice a n c, .string ⟨⟨t⟩⟩]) (c2 := #[.string ⟨#[]⟩, .slice none 0 0, .string ⟨#[]⟩]) (E1 := 24) (E2 := 24)
  have hSw := Go.Lib.hid hS
  have Q3 := Go.Lib.hid (And.intro q2 q3)
  clear q2 q3 hS
  go_enter Tryz.func52, Tryz.ntmps52
  go_wp2_with (go_at_call 82; refine HC.mono ?_; rintro r w3 ⟨v, o, S', rfl, hrow, ho, hnd, hwf, k1, k2, k3⟩; obtain ⟨a', n', c', rfl⟩ := row_sl hrow; have p0 := keepB hwf q0; have p1 := keepB hwf q1; have c00 := cellB (i := 0) p0 rfl; have c01 := cellB (i := 1) p0 rfl; have c02 := cellB (i := 2) p0 rfl; have c10 := cellB (i := 0) p1 rfl; have c11 := cellB (i := 1) p1 rfl; have c12 := cellB (i := 2) p1 rfl; have f00 := freeB (i := 0) p0; have f01 := freeB (i := 1) p0; have f02 := freeB (i := 2) p0; have f10 := freeB (i := 0) p1; have f11 := freeB (i := 1) p1; have f12 := freeB (i := 2) p1; have HM := Go.Lib.hid (And.intro hrow (And.intro ho (And.intro hnd (And.intro hwf (And.intro k1 (And.intro k2 (And.intro k3 (And.intro q0 q1)))))))); clear HC hrow ho hnd hwf k1 k2 k3 p0 p1 q0 q1)
  obtain ⟨hrow, ho, hnd, hwf, k1, k2, k3, q0, q1⟩ := HM.out
  obtain ⟨q2, q3⟩ := Q3.out
  have hB : But (fun k => k = w.heap.size ∨ k = w.heap.size + 1) w3 ((((w3.setCell ⟨w.heap.size, 1, none⟩ (Value.slice a' n' c')).setCell ⟨w.heap.size + 1, 0, none⟩ (.string ⟨⟨i⟩⟩)).setCell ⟨w.heap.size + 1, 1, none⟩ (Value.slice a' n' c')).setCell ⟨w.heap.size + 1, 2, none⟩ (.string ⟨⟨t⟩⟩)) :=
    ((((But.refl _ w3).set (.inl rfl)).set (.inr rfl)).set (.inr rfl)).set (.inr rfl)
  have hno : ∀ k, S' k ≠ none → ¬ (k = w.heap.size ∨ k = w.heap.size + 1) := fun k hk hk' => by
    rcases k3 k hk with h | h
    · cases hs : S k with
      | none => exact h hs
      | some x =>
        have := hSw.out k x hs
        simp only [hp] at this
        have := (Array.getElem?_eq_some_iff.1 this).1
        omega
    · omega
  refine ⟨rfl, _, ?_, .slice a' n' c', o, S', rfl, RowRel.mono (Lift.Sub.refl S') (fun b hb => ?_) hrow, fun b hb => ⟨(ho b hb).1, by have := (ho b hb).2; omega⟩, hnd,
    ⟨by rw [hB.size]; have := hwf.size; omega, fun k hk _ => ?_, hB.tape.trans hwf.tape, hB.os.trans hwf.os, hB.output.trans hwf.output⟩, k1, fun k x hx => ?_, fun k hk => ?_⟩
  · simp [results, Tryz.results52, go_sem, c10, c11, c12, f10, f11, f12]
  · have := (ho b hb).2
    exact hB.same b (by omega)
  · rw [hB.same k (by omega), hwf.same k (by omega) (fun h => h), q3 k hk]
  · have := k2 k x hx
    simp only [hp] at this ⊢
    rw [hB.same k (hno k (by rw [hx]; simp))]
    exact this
  · rcases k3 k hk with h | h
    · exact .inl h
    · exact .inr (by omega)

theorem holder_clone_ct (N : Nat) : Contract Tryz.prog glob 52 (holder_clone_res N) := by
  refine Contract.hand ⟨_, Tryz.func52, by kernel_rfl, by decide⟩ ?_
  intro w S vals ob x y har hS hg hy
  obtain ⟨⟨i, l, t, u⟩, u'⟩ := x
  cases u
  cases u'
  obtain ⟨⟨v0, hv0, hA0, ho0⟩, _⟩ := har.rel 0 _ rfl
  have hvals : vals = [v0] := by
    match vals, har.len with
    | [a], _ => cases hv0; rfl
  obtain ⟨sv, e0, hsv⟩ := tok_inv hA0
  subst e0
  subst hvals
  unfold holder_clone at hy
  dsimp only at hy
  cases hc : clone_link N l with
  | none => rw [hc] at hy; cases hy
  | some l' =>
  rw [hc] at hy
  cases hy
  refine (clone_walk N hS hg hsv hc).mono ?_
  rintro r w' ⟨v, o, S', rfl, hrow, ho, hnd, hwf, k1, k2, k3⟩
  have hob : ∀ i, ob i = [] := fun i => by
    match i with
    | 0 => exact ho0
    | i + 1 => exact har.out _ (by simp [mkS, deads])
  refine ⟨_, S', o, ob, rfl, ⟨hwf.size, fun k hk _ => hwf.same k hk (fun h => h), hwf.tape, hwf.os, hwf.output⟩, k1, k2, fun k hk => ?_, ⟨⟨rfl, ?_⟩, rfl⟩, fun b hb => ⟨(ho b hb).1, .inr (ho b hb).2⟩, hnd, ?_, ?_, ?_, ?_, fun _ h => h⟩
  · rcases k3 k hk with h | h
    · exact .inl h
    · exact .inr (.inr h)
  · exact ⟨_, rfl, [.string ⟨⟨i⟩⟩], [v, .string ⟨⟨t⟩⟩], [], o, rfl, rfl, ⟨rfl, rfl⟩, [v], [.string ⟨⟨t⟩⟩], o, [], rfl, by simp, ⟨v, rfl, hrow⟩, [.string ⟨⟨t⟩⟩], [], [], [], rfl, rfl, ⟨rfl, rfl⟩, rfl, rfl⟩
  · intro i y hy hbx
    have : isBoxA y = false := by
      match i with
      | 0 => cases hy; rfl
      | i + 1 => simp [mkS, deads] at hy
    rw [hbx] at this
    cases this
  · intro i k hk
    rw [hob i] at hk
    cases hk
  · intro i j k hi
    rw [hob i] at hi
    cases hi
  · intro i
    rw [hob i]
    exact .nil

noncomputable def body_39 : Code := (Tryz.f41.body).getD .skip

noncomputable def L_39 : List (List Nat × List Nat) := [([0], [3, 0]), ([0, 0, 1], [7, 0, 3]), ([1, 0, 1], [0, 3]), ([0, 0, 1, 0, 1], [4]), ([1, 0, 1, 0, 1], [4]), ([0, 1, 1], [4]), ([1, 1, 1], [4])]

noncomputable def E_39 (N : Nat) : Env := mkEnv tys glob [(45, hmac_Parts_res N)] [] [] [] false [] [(98, hmac_framed1_itr N)]

theorem Eok_39 (N : Nat) : EnvOk Tryz.prog (E_39 N) := mkEnv_ok mixed tys_ok (FnsOk.cons (hmac_Parts_ct N) (FnsOk.nil)) (ItsOk.cons (hmac_framed1_it N) (ItsOk.nil))

noncomputable def chain_tag_next (N : Nat) (t : (List UInt8)) (l : DT8) : Option (List UInt8) :=
 cond (l.2.1 == ([] : List UInt8))
 ((hmac_Parts N t ([([(102 : UInt8), (105 : UInt8), (114 : UInt8), (115 : UInt8), (116 : UInt8)] : List UInt8), l.1] : List (List UInt8))).bind fun y =>
 some y)
 ((hmac_Parts N t ([([(116 : UInt8), (104 : UInt8), (105 : UInt8), (114 : UInt8), (100 : UInt8)] : List UInt8), l.2.1, l.1] : List (List UInt8))).bind fun y1 =>
 some y1)

noncomputable def t_39 (N : Nat) : Tab (List UInt8) := []

theorem link_39 (N : Nat) (x : denS SQ106) : evFX (E_39 N) N (t_39 N) L_39 Tryz.f41 (mkS SQ106 0 x) (kRes (.v .str) 2) = chain_tag_next N x.1 x.2.1 := by kernel_rfl

noncomputable def chain_tag_next_res (N : Nat) : List A → Res := resOf SQ106 (fun x => chain_tag_next N x.1 x.2.1) (oRes (.v .str) 2)

theorem chain_tag_next_ct (N : Nat) : Contract Tryz.prog glob 41 (chain_tag_next_res N) :=
  Contract.of (E := E_39 N) (H := t_39 N) (L := L_39) (N := N) (body := body_39) (K := (kRes (.v .str) 2)) (Eok_39 N) Tryz.func41 (by kernel_rfl) (by decide) (fun _ hb => TabOk.nil) (fun x y h => by rw [link_39]; exact h) (kRes_ok (s := (.v .str)) (m := 2))

noncomputable def body_40 : Code := (Tryz.f81.body).getD .skip

noncomputable def L_40 : List (List Nat × List Nat) := [([0], [0, 3]), ([0, 1], [4]), ([1, 1], [4])]

noncomputable def E_40 (N : Nat) : Env := mkEnv tys glob [(41, chain_tag_next_res N)] [] [] [] false [] [(98, hmac_framed1_itr N)]

theorem Eok_40 (N : Nat) : EnvOk Tryz.prog (E_40 N) := mkEnv_ok mixed tys_ok (FnsOk.cons (chain_tag_next_ct N) (FnsOk.nil)) (ItsOk.cons (hmac_framed1_it N) (ItsOk.nil))

noncomputable def chain_Next (N : Nat) (before : (List UInt8)) (l : DT8) : Option (List UInt8) :=
 (chain_tag_next N before l).bind fun y =>
 some y

noncomputable def t_40 (N : Nat) : Tab (List UInt8) := []

theorem link_40 (N : Nat) (x : denS SQ106) : evFX (E_40 N) N (t_40 N) L_40 Tryz.f81 (mkS SQ106 0 x) (kRes (.v .str) 2) = chain_Next N x.1 x.2.1 := by kernel_rfl

noncomputable def chain_Next_res (N : Nat) : List A → Res := resOf SQ106 (fun x => chain_Next N x.1 x.2.1) (oRes (.v .str) 2)

theorem chain_Next_ct (N : Nat) : Contract Tryz.prog glob 81 (chain_Next_res N) :=
  Contract.of (E := E_40 N) (H := t_40 N) (L := L_40) (N := N) (body := body_40) (K := (kRes (.v .str) 2)) (Eok_40 N) Tryz.func81 (by kernel_rfl) (by decide) (fun _ hb => TabOk.nil) (fun x y h => by rw [link_40]; exact h) (kRes_ok (s := (.v .str)) (m := 2))

noncomputable def body_41 : Code := (Tryz.f51.body).getD .skip

noncomputable def L_41 : List (List Nat × List Nat) := [([0], [1, 2]), ([0, 1], [3, 1, 2]), ([0, 1, 1], [3, 1, 2]), ([0, 1, 1, 1], [3, 2]), ([0, 1, 1, 1, 1], [2]), ([1, 1, 1, 1, 1], [2])]

noncomputable def E_41 (N : Nat) : Env := mkEnv tys glob [(81, chain_Next_res N), (52, holder_clone_res N)] [] [] [] false [(3, (.pair .str (.pair (.own TT10) (.pair .str .unit))))] [(98, hmac_framed1_itr N)]

theorem Eok_41 (N : Nat) : EnvOk Tryz.prog (E_41 N) := mkEnv_ok mixed tys_ok (FnsOk.cons (chain_Next_ct N) (FnsOk.cons (holder_clone_ct N) (FnsOk.nil))) (ItsOk.cons (hmac_framed1_it N) (ItsOk.nil))

noncomputable def holder_addition_token (N : Nat) (a : (DT8 × (DT1 × Unit))) : Option DT1 :=
 (holder_clone N a.2.1).bind fun y =>
 cond (decide ((((List.length y.2.1) + 1) * 32) ≤ 70368744177664))
 ((chain_Next N y.2.2.1 a.1).bind fun y1 =>
 some (y.1, ((y.2.1 ++ ([a.1] : List DT8)), (y1, y.2.2.2))))
 (none)

noncomputable def t_41 (N : Nat) : Tab DT1 := []

theorem link_41 (N : Nat) (x : denS SQ51) : evFX (E_41 N) N (t_41 N) L_41 Tryz.f51 (mkS SQ51 0 x) (kRes (.v TT0) 1) = holder_addition_token N x.1 := by kernel_rfl

noncomputable def holder_addition_token_res (N : Nat) : List A → Res := resOf SQ51 (fun x => holder_addition_token N x.1) (oRes (.v TT0) 1)

theorem holder_addition_token_ct (N : Nat) : Contract Tryz.prog glob 51 (holder_addition_token_res N) :=
  Contract.of (E := E_41 N) (H := t_41 N) (L := L_41) (N := N) (body := body_41) (K := (kRes (.v TT0) 1)) (Eok_41 N) Tryz.func51 (by kernel_rfl) (by decide) (fun _ hb => TabOk.nil) (fun x y h => by rw [link_41]; exact h) (kRes_ok (s := (.v TT0)) (m := 1))

noncomputable def body_42 : Code := (Tryz.f23.body).getD .skip

noncomputable def L_42 : List (List Nat × List Nat) := [([0], [2, 1, 4]), ([0, 1], [6, 1, 4]), ([0, 0, 1, 1], [15, 4, 1, 6]), ([1, 0, 1, 1], [1, 6, 4]), ([0, 0, 1, 0, 1, 1], [4, 5]), ([1, 0, 1, 0, 1, 1], [4, 5]), ([0, 1, 1, 1], [6, 4]), ([0, 1, 1, 1, 1], [4, 5]), ([1, 1, 1, 1, 1], [4, 5])]

noncomputable def E_42 (N : Nat) : Env := mkEnv tys glob [(51, holder_addition_token_res N), (49, holder_addition_full_res N)] [] [] [] false [] [(98, hmac_framed1_itr N)]

theorem Eok_42 (N : Nat) : EnvOk Tryz.prog (E_42 N) := mkEnv_ok mixed tys_ok (FnsOk.cons (holder_addition_token_ct N) (FnsOk.cons (holder_addition_full_ct N) (FnsOk.nil))) (ItsOk.cons (hmac_framed1_it N) (ItsOk.nil))

noncomputable def holder_Add_p2 (N : Nat) (text : (List UInt8)) (x4 : DT1) (a : (DT8 × (DT1 × Unit))) (k0 : Bool → Option (DT1 × Int × Unit)) : Option (DT1 × Int × Unit) :=
 cond (decide ((64 : Int) ≤ (((List.length a.2.1.2.1) : Nat) : Int)))
 (k0 true)
 (k0 (decide ((2048 : Int) < (((List.length text) : Nat) : Int))))

noncomputable def g2_42 (N : Nat) (x : denS SQ12) (K : Ex → List A → Option (DT1 × Int × Unit)) : Option (DT1 × Int × Unit) :=
 holder_Add_p2 N x.1 x.2.1 x.2.2.1 (fun a3 => (K .normal (mkS [(1, .v .str), (2, .box TT0), (1, .box (.pair TT10 (.pair TT0 .unit))), (8, .v .bool)] 6 (x.1, x.2.1, x.2.2.1, a3, ()))))

noncomputable def h2_42 (N : Nat) : Hd (DT1 × Int × Unit) := fun st K => (unS SQ12 15 (restr [6, 1, 4] 0 st)).bind fun x => g2_42 N x K

noncomputable def t2_42 (N : Nat) : Tab (DT1 × Int × Unit) := []

theorem ok2_42 {N : Nat} {c : Ctx} (hb : Base Tryz.prog (E_42 N) c) : CodeOk Tryz.prog c (nodeAt body_42 [0, 0, 1, 1]) (h2_42 N) :=
  piece_ok (s := SQ12) (m := 15) (g := g2_42 N) [6, 1, 4] (evN_sound hb N (t2_42 N) L_42 body_42 TabOk.nil [0, 0, 1, 1] _ rfl) (fun x K => by kernel_rfl)

noncomputable def holder_Add_p1 (N : Nat) (text : (List UInt8)) (x4 : DT1) (a : (DT8 × (DT1 × Unit))) (k0 : DT1 → Int → Option (DT1 × Int × Unit)) (k1 : Option (DT1 × Int × Unit)) : Option (DT1 × Int × Unit) :=
 holder_Add_p2 N text x4 a
 (fun x15 => cond x15
 (k0 (([] : List UInt8), (([] : List DT8), (([] : List UInt8), ()))) (3 : Int))
 (k1))

noncomputable def g1_42 (N : Nat) (x : denS SQ12) (K : Ex → List A → Option (DT1 × Int × Unit)) : Option (DT1 × Int × Unit) :=
 holder_Add_p1 N x.1 x.2.1 x.2.2.1 (fun a0 a1 => (K .ret (mkS [(4, .box TT0), (0, .v (.int .i64))] 16 (a0, a1, ())))) (K .normal (mkS SQ12 15 (x.1, x.2.1, x.2.2.1, ())))

noncomputable def h1_42 (N : Nat) : Hd (DT1 × Int × Unit) := fun st K => (unS SQ12 15 (restr [6, 1, 4] 0 st)).bind fun x => g1_42 N x K

noncomputable def t1_42 (N : Nat) : Tab (DT1 × Int × Unit) := [([0, 0, 1, 1], h2_42 N)]

theorem ok1_42 {N : Nat} {c : Ctx} (hb : Base Tryz.prog (E_42 N) c) : CodeOk Tryz.prog c (nodeAt body_42 [0, 1, 1]) (h1_42 N) :=
  piece_ok (s := SQ12) (m := 15) (g := g1_42 N) [6, 1, 4] (evN_sound hb N (t1_42 N) L_42 body_42 (TabOk.cons (ok2_42 hb) TabOk.nil) [0, 1, 1] _ rfl) (fun x K => by kernel_rfl)

noncomputable def holder_Add (N : Nat) (t : DT1) (text : (List UInt8)) : Option (DT1 × Int × Unit) :=
 holder_Add_p1 N text (([] : List UInt8), (([] : List DT8), (([] : List UInt8), ()))) ((([] : List UInt8), (([] : List UInt8), ())), (t, ()))
 (fun x4 x5 => some (x4, (x5, ())))
 ((holder_addition_token N ((text, (([] : List UInt8), ())), (t, ()))).bind fun y =>
 some (y, ((0 : Int), ())))

noncomputable def t_42 (N : Nat) : Tab (DT1 × Int × Unit) := [([0, 1, 1], h1_42 N)]

theorem link_42 (N : Nat) (x : denS [(0, .v TT0), (0, .v .str)]) : evFX (E_42 N) N (t_42 N) L_42 Tryz.f23 (mkS [(0, .v TT0), (0, .v .str)] 0 x) (kRes (.tup [TT0, (.int .i64)]) 2) = holder_Add N x.1 x.2.1 := by kernel_rfl

noncomputable def holder_Add_res (N : Nat) : List A → Res := resOf [(0, .v TT0), (0, .v .str)] (fun x => holder_Add N x.1 x.2.1) (oRes (.tup [TT0, (.int .i64)]) 2)

theorem holder_Add_ct (N : Nat) : Contract Tryz.prog glob 23 (holder_Add_res N) :=
  Contract.of (E := E_42 N) (H := t_42 N) (L := L_42) (N := N) (body := body_42) (K := (kRes (.tup [TT0, (.int .i64)]) 2)) (Eok_42 N) Tryz.func23 (by kernel_rfl) (by decide) (fun _ hb => (TabOk.cons (ok1_42 hb) TabOk.nil)) (fun x y h => by rw [link_42]; exact h) (kRes_ok (s := (.tup [TT0, (.int .i64)])) (m := 2))

noncomputable def body_43 : Code := (Tryz.f38.body).getD .skip

noncomputable def L_43 : List (List Nat × List Nat) := [([0], [1]), ([0, 1], [2]), ([1, 1], [2])]

noncomputable def E_43 (N : Nat) : Env := mkEnv tys glob [] [(2, TT0)] [] [] false [] [(98, hmac_framed1_itr N)]

theorem Eok_43 (N : Nat) : EnvOk Tryz.prog (E_43 N) := mkEnv_ok mixed tys_ok (FnsOk.nil) (ItsOk.cons (hmac_framed1_it N) (ItsOk.nil))

noncomputable def verify_tokens (N : Nat) (b : DT13) : Option (List DT1) :=
 cond (decide (((1 + (List.length b.2.1)) * 56) ≤ 70368744177664))
 (some (([b.1] : List DT1) ++ b.2.1))
 (none)

noncomputable def t_43 (N : Nat) : Tab (List DT1) := []

theorem link_43 (N : Nat) (x : denS [(0, .v TT7)]) : evFX (E_43 N) N (t_43 N) L_43 Tryz.f38 (mkS [(0, .v TT7)] 0 x) (kRes (.v (.sl TT0)) 1) = verify_tokens N x.1 := by kernel_rfl

noncomputable def verify_tokens_res (N : Nat) : List A → Res := resOf [(0, .v TT7)] (fun x => verify_tokens N x.1) (oRes (.v (.sl TT0)) 1)

theorem verify_tokens_ct (N : Nat) : Contract Tryz.prog glob 38 (verify_tokens_res N) :=
  Contract.of (E := E_43 N) (H := t_43 N) (L := L_43) (N := N) (body := body_43) (K := (kRes (.v (.sl TT0)) 1)) (Eok_43 N) Tryz.func38 (by kernel_rfl) (by decide) (fun _ hb => TabOk.nil) (fun x y h => by rw [link_43]; exact h) (kRes_ok (s := (.v (.sl TT0))) (m := 1))

noncomputable def body_44 : Code := (Tryz.f55.body).getD .skip

noncomputable def L_44 : List (List Nat × List Nat) := [([0], [1]), ([0, 1], [2]), ([1, 1], [2])]

noncomputable def E_44 (N : Nat) : Env := mkEnv tys glob [] [] [] [] false [] [(98, hmac_framed1_itr N)]

theorem Eok_44 (N : Nat) : EnvOk Tryz.prog (E_44 N) := mkEnv_ok mixed tys_ok (FnsOk.nil) (ItsOk.cons (hmac_framed1_it N) (ItsOk.nil))

noncomputable def verify_within_1 (N : Nat) (t : DT1) : Option Bool :=
 some (decide ((64 : Int) < (((List.length t.2.1) : Nat) : Int)))

noncomputable def t_44 (N : Nat) : Tab Bool := []

theorem link_44 (N : Nat) (x : denS [(0, .v TT0)]) : evFX (E_44 N) N (t_44 N) L_44 Tryz.f55 (mkS [(0, .v TT0)] 0 x) (kRes (.v .bool) 1) = verify_within_1 N x.1 := by kernel_rfl

noncomputable def verify_within_1_res (N : Nat) : List A → Res := resOf [(0, .v TT0)] (fun x => verify_within_1 N x.1) (oRes (.v .bool) 1)

theorem verify_within_1_ct (N : Nat) : Contract Tryz.prog glob 55 (verify_within_1_res N) :=
  Contract.of (E := E_44 N) (H := t_44 N) (L := L_44) (N := N) (body := body_44) (K := (kRes (.v .bool) 1)) (Eok_44 N) Tryz.func55 (by kernel_rfl) (by decide) (fun _ hb => TabOk.nil) (fun x y h => by rw [link_44]; exact h) (kRes_ok (s := (.v .bool)) (m := 1))

noncomputable def body_45 : Code := (Tryz.f83.body).getD .skip

noncomputable def L_45 : List (List Nat × List Nat) := [([0], [0, 1]), ([0, 0, 1], [8, 7, 1, 0]), ([0, 1, 0, 1], [8, 7, 1, 0]), ([0, 0, 0, 1, 0, 1], [9, 8, 1, 0, 7]), ([0, 1, 0, 0, 1, 0, 1], [8, 1, 0, 7]), ([1, 0, 1, 0, 0, 1, 0, 1], []), ([0, 0, 0, 1, 1, 0, 0, 1, 0, 1], [1, 0, 5, 8, 7]), (PQ82, [16, 5, 8, 7, 1, 0]), ([1, 1, 0, 0, 1, 1, 0, 0, 1, 0, 1], [8, 7, 1, 0]), ([0, 0, 1, 1, 0, 0, 1, 1, 0, 0, 1, 0, 1], [4]), ([1, 0, 1, 1, 0, 0, 1, 1, 0, 0, 1, 0, 1], [4]), ([0, 1, 1, 0, 0, 1, 0, 1], [8, 7, 1, 0]), ([1, 1, 1, 0, 0, 1, 0, 1], [8, 7, 1, 0]), ([1, 0, 1], []), ([0, 1, 1], [4]), ([1, 1, 1], [4])]

noncomputable def E_45 (N : Nat) : Env := mkEnv tys glob [(55, verify_within_1_res N)] [] [] [] false [] [(98, hmac_framed1_itr N)]

theorem Eok_45 (N : Nat) : EnvOk Tryz.prog (E_45 N) := mkEnv_ok mixed tys_ok (FnsOk.cons (verify_within_1_ct N) (FnsOk.nil)) (ItsOk.cons (hmac_framed1_it N) (ItsOk.nil))

noncomputable def indexTok_s1 (N : Nat) (s : (List DT1)) (x7 : Int) (x8 : Int) (rec : Int → Option Int) (k0 : Int → Option Int) (k1 : Option Int) : Option Int :=
 cond (decide (x8 < x7))
 (cond (inR x8 (List.length s))
 (cond (decide ((64 : Int) < (((List.length (List.getD s (Int.toNat x8) (([] : List UInt8), (([] : List DT8), (([] : List UInt8), ())))).2.1) : Nat) : Int)))
 (k0 x8)
 (rec (IntKind.wrap IntKind.i64 (x8 + (1 : Int)))))
 (none))
 (k1)

noncomputable def indexTok_p1 (N : Nat) (s : (List DT1)) (x7 : Int) (x8 : Int) (k0 : Int → Option Int) (k1 : Option Int) : Option Int :=
 iter (fun (v : Int) r => indexTok_s1 N s x7 v (fun x8 => (r x8)) k0 k1) N x8

noncomputable def g1_45 (N : Nat) (i : ((List DT1) × Int)) (v : Int) (r : Int → Option Int) (K : Ex → List A → Option Int) : Option Int :=
 indexTok_s1 N i.1 i.2 v (fun x8 => (r x8)) (fun a0 => (K .ret (mkS [(4, .v (.int .i64))] 14 (a0, ())))) (K (.exit 0) (mkS [] 19 ()))

noncomputable def h1_45 (N : Nat) : Hd Int := fun st K => (unS [(0, .v (.sl TT0)), (0, .fnc 55), (5, .v (.int .i64)), (0, .v (.int .i64))] 10 (restr [8, 7, 1, 0] 0 st)).bind fun x => iter (fun v r => g1_45 N ((fun x => (x.1, x.2.2.1)) x) v r K) N ((fun x => x.2.2.2.1) x)

noncomputable def t1_45 (N : Nat) : Tab Int := []

theorem ok1_45 {N : Nat} {c : Ctx} (hb : Base Tryz.prog (E_45 N) c) : CodeOk Tryz.prog c (nodeAt body_45 [0, 1, 0, 1]) (h1_45 N) :=
  loop_ok (s := [(0, .v (.sl TT0)), (0, .fnc 55), (5, .v (.int .i64)), (0, .v (.int .i64))]) (m := 10) (g1_45 N) [8, 7, 1, 0] N (fun x => (x.1, x.2.2.1)) (fun x => x.2.2.2.1) (fun i v => (i.1, (), i.2, v, ())) (fun _ => rfl) (evN_sound hb N (t1_45 N) L_45 body_45 TabOk.nil [0, 0, 1, 0, 1] _ rfl) (fun i v r K => by kernel_rfl)

noncomputable def indexTok (N : Nat) (s : (List DT1)) : Option Int :=
 indexTok_p1 N s (((List.length s) : Nat) : Int) (0 : Int)
 (fun x4 => some x4)
 (some (-(1 : Int)))

noncomputable def t_45 (N : Nat) : Tab Int := [([0, 1, 0, 1], h1_45 N)]

theorem link_45 (N : Nat) (x : denS [(0, .v (.sl TT0)), (0, .fnc 55)]) : evFX (E_45 N) N (t_45 N) L_45 Tryz.f83 (mkS [(0, .v (.sl TT0)), (0, .fnc 55)] 0 x) (kRes (.v (.int .i64)) 2) = indexTok N x.1 := by kernel_rfl

noncomputable def indexTok_res (N : Nat) : List A → Res := resOf [(0, .v (.sl TT0)), (0, .fnc 55)] (fun x => indexTok N x.1) (oRes (.v (.int .i64)) 2)

theorem indexTok_ct (N : Nat) : Contract Tryz.prog glob 83 (indexTok_res N) :=
  Contract.of (E := E_45 N) (H := t_45 N) (L := L_45) (N := N) (body := body_45) (K := (kRes (.v (.int .i64)) 2)) (Eok_45 N) Tryz.func83 (by kernel_rfl) (by decide) (fun _ hb => (TabOk.cons (ok1_45 hb) TabOk.nil)) (fun x y h => by rw [link_45]; exact h) (kRes_ok (s := (.v (.int .i64))) (m := 2))

noncomputable def body_46 : Code := (Tryz.f54.body).getD .skip

noncomputable def L_46 : List (List Nat × List Nat) := [([0], [0, 1]), ([0, 1], [4]), ([1, 1], [4])]

noncomputable def E_46 (N : Nat) : Env := mkEnv tys glob [(83, indexTok_res N), (55, verify_within_1_res N)] [] [] [] false [] [(98, hmac_framed1_itr N)]

theorem Eok_46 (N : Nat) : EnvOk Tryz.prog (E_46 N) := mkEnv_ok mixed tys_ok (FnsOk.cons (indexTok_ct N) (FnsOk.cons (verify_within_1_ct N) (FnsOk.nil))) (ItsOk.cons (hmac_framed1_it N) (ItsOk.nil))

noncomputable def containsTok (N : Nat) (s : (List DT1)) : Option Bool :=
 (indexTok N s).bind fun y =>
 some (decide ((0 : Int) ≤ y))

noncomputable def t_46 (N : Nat) : Tab Bool := []

theorem link_46 (N : Nat) (x : denS [(0, .v (.sl TT0)), (0, .fnc 55)]) : evFX (E_46 N) N (t_46 N) L_46 Tryz.f54 (mkS [(0, .v (.sl TT0)), (0, .fnc 55)] 0 x) (kRes (.v .bool) 2) = containsTok N x.1 := by kernel_rfl

noncomputable def containsTok_res (N : Nat) : List A → Res := resOf [(0, .v (.sl TT0)), (0, .fnc 55)] (fun x => containsTok N x.1) (oRes (.v .bool) 2)

theorem containsTok_ct (N : Nat) : Contract Tryz.prog glob 54 (containsTok_res N) :=
  Contract.of (E := E_46 N) (H := t_46 N) (L := L_46) (N := N) (body := body_46) (K := (kRes (.v .bool) 2)) (Eok_46 N) Tryz.func54 (by kernel_rfl) (by decide) (fun _ hb => TabOk.nil) (fun x y h => by rw [link_46]; exact h) (kRes_ok (s := (.v .bool)) (m := 2))

noncomputable def body_47 : Code := (Tryz.f26.body).getD .skip

noncomputable def L_47 : List (List Nat × List Nat) := [([0], [1]), ([0, 0, 1], [6, 1]), ([1, 0, 1], [1]), ([0, 0, 1, 0, 1], [2]), ([1, 0, 1, 0, 1], [2]), ([0, 1, 1], [2]), ([1, 1, 1], [2])]

noncomputable def E_47 (N : Nat) : Env := mkEnv tys glob [(54, containsTok_res N), (55, verify_within_1_res N), (38, verify_tokens_res N)] [] [] [] false [] [(98, hmac_framed1_itr N)]

theorem Eok_47 (N : Nat) : EnvOk Tryz.prog (E_47 N) := mkEnv_ok mixed tys_ok (FnsOk.cons (containsTok_ct N) (FnsOk.cons (verify_within_1_ct N) (FnsOk.cons (verify_tokens_ct N) (FnsOk.nil)))) (ItsOk.cons (hmac_framed1_it N) (ItsOk.nil))

noncomputable def verify_within (N : Nat) (b : DT13) : Option Bool :=
 cond (decide ((8 : Int) < (((List.length b.2.1) : Nat) : Int)))
 (some false)
 ((verify_tokens N b).bind fun y =>
 (containsTok N y).bind fun y1 =>
 some (!y1))

noncomputable def t_47 (N : Nat) : Tab Bool := []

theorem link_47 (N : Nat) (x : denS [(0, .v TT7)]) : evFX (E_47 N) N (t_47 N) L_47 Tryz.f26 (mkS [(0, .v TT7)] 0 x) (kRes (.v .bool) 1) = verify_within N x.1 := by kernel_rfl

noncomputable def verify_within_res (N : Nat) : List A → Res := resOf [(0, .v TT7)] (fun x => verify_within N x.1) (oRes (.v .bool) 1)

theorem verify_within_ct (N : Nat) : Contract Tryz.prog glob 26 (verify_within_res N) :=
  Contract.of (E := E_47 N) (H := t_47 N) (L := L_47) (N := N) (body := body_47) (K := (kRes (.v .bool) 1)) (Eok_47 N) Tryz.func26 (by kernel_rfl) (by decide) (fun _ hb => TabOk.nil) (fun x y h => by rw [link_47]; exact h) (kRes_ok (s := (.v .bool)) (m := 1))

noncomputable def body_48 : Code := (Tryz.f27.body).getD .skip

noncomputable def L_48 : List (List Nat × List Nat) := [([0], [1]), ([0, 1], [2]), ([1, 1], [2])]

noncomputable def E_48 (N : Nat) : Env := mkEnv tys glob [] [] [] [] false [(8, TT3), (9, TT3)] [(98, hmac_framed1_itr N)]

theorem Eok_48 (N : Nat) : EnvOk Tryz.prog (E_48 N) := mkEnv_ok mixed tys_ok (FnsOk.nil) (ItsOk.cons (hmac_framed1_it N) (ItsOk.nil))

noncomputable def verify_newRun (N : Nat) (b : DT13) : Option DT2 :=
 cond (decide (((0 : Int) ≤ (((List.length b.2.1) : Nat) : Int)) ∧ (((((List.length b.2.1) : Nat) : Int) ≤ (((List.length b.2.1) : Nat) : Int)) ∧ ((((((List.length b.2.1) : Nat) : Int) * (1 : Int)) ≤ (281474976710656 : Int)) ∧ ((((List.length b.2.1) : Nat) : Int) ≤ (9223372036854775807 : Int))))))
 (some (b, ((List.replicate (Int.toNat (((List.length b.2.1) : Nat) : Int)) false), (([] : List ((List DT8) × ((List (List UInt8)) × Unit))), (([] : List (List UInt8)), ((0 : Int), ()))))))
 (none)

noncomputable def t_48 (N : Nat) : Tab DT2 := []

theorem link_48 (N : Nat) (x : denS [(0, .v TT7)]) : evFX (E_48 N) N (t_48 N) L_48 Tryz.f27 (mkS [(0, .v TT7)] 0 x) (kRes (.box TT3) 1) = verify_newRun N x.1 := by kernel_rfl

noncomputable def verify_newRun_res (N : Nat) : List A → Res := resOf [(0, .v TT7)] (fun x => verify_newRun N x.1) (oRes (.box TT3) 1)

theorem verify_newRun_ct (N : Nat) : Contract Tryz.prog glob 27 (verify_newRun_res N) :=
  Contract.of (E := E_48 N) (H := t_48 N) (L := L_48) (N := N) (body := body_48) (K := (kRes (.box TT3) 1)) (Eok_48 N) Tryz.func27 (by kernel_rfl) (by decide) (fun _ hb => TabOk.nil) (fun x y h => by rw [link_48]; exact h) (kRes_ok (s := (.box TT3)) (m := 1))

noncomputable def body_49 : Code := (Tryz.f66.body).getD .skip

noncomputable def L_49 : List (List Nat × List Nat) := [([0], [0, 5, 2, 3]), ([0, 0, 1], [12, 0, 2, 3, 5]), ([1, 0, 1], [2, 3, 5, 0]), ([0, 1, 0, 1], [0]), ([0, 1, 1], PQ117), ([0, 1, 1, 1], PQ117), ([0, 0, 0, 1, 1, 1], [16, 13, 15, 3, 5, 0, 14]), ([0, 1, 0, 0, 1, 1, 1], [13, 15, 3, 5, 0, 14]), ([1, 0, 1, 0, 0, 1, 1, 1], [0]), ([0, 0, 0, 1, 1, 0, 0, 1, 1, 1], [3, 5, 7, 0, 15, 14, 13]), ([0, 1, 0, 0, 1, 1, 0, 0, 1, 1, 1], [0, 5, 15, 14, 13, 3]), ([0, 1, 1, 0, 0, 1, 1, 0, 0, 1, 1, 1], [26, 0, 15, 14, 13, 3, 5]), ([1, 1, 1, 0, 0, 1, 1, 0, 0, 1, 1, 1], PQ117), ([0, 1, 1, 1, 0, 0, 1, 1, 0, 0, 1, 1, 1], [0]), ([0, 1, 1, 0, 0, 1, 1, 1], PQ117), ([1, 1, 1, 0, 0, 1, 1, 1], PQ117), ([1, 1, 1], [0])]

noncomputable def E_49 (N : Nat) : Env := mkEnv tys glob [(41, chain_tag_next_res N)] [] [] [0] false [] []

theorem Eok_49 (N : Nat) : EnvOk Tryz.prog (E_49 N) := mkEnv_ok mixed tys_ok (FnsOk.cons (chain_tag_next_ct N) (FnsOk.nil)) ItsOk.nil

noncomputable def chain_along1_s1 (N : Nat) (x3 : Unit) (x13 : (List DT8)) (x14 : Int) (t : (List UInt8)) (x15 : Int) (rec : (List UInt8) → Int → Option (List DT11)) (k0 : Option (List DT11)) (k1 : Option (List DT11)) : Option (List DT11) :=
 cond (decide (x15 < x14))
 (cond (inR x15 (List.length x13))
 ((chain_tag_next N t (List.getD x13 (Int.toNat x15) (([] : List UInt8), (([] : List UInt8), ())))).bind fun y =>
 comb (y, ())
 (rec y (IntKind.wrap IntKind.i64 (x15 + (1 : Int))))
 (k0))
 (none))
 (k1)

noncomputable def chain_along1_p1 (N : Nat) (x3 : Unit) (t : (List UInt8)) (x13 : (List DT8)) (x14 : Int) (x15 : Int) (k0 : Option (List DT11)) (k1 : Option (List DT11)) : Option (List DT11) :=
 iter (fun (v : ((List UInt8) × Int)) r => chain_along1_s1 N x3 x13 x14 v.1 v.2 (fun t x15 => (r (t, x15))) k0 k1) N (t, x15)

noncomputable def g1_49 (N : Nat) (i : (Unit × (List DT8) × Int)) (v : ((List UInt8) × Int)) (r : ((List UInt8) × Int) → Option (List DT11)) (K : Ex → List A → Option (List DT11)) : Option (List DT11) :=
 chain_along1_s1 N i.1 i.2.1 i.2.2 v.1 v.2 (fun t x15 => (r (t, x15))) (K .ret (mkS [(0, .yld)] 27 ((), ()))) (K (.exit 0) (mkS [(0, .yld)] 27 ((), ())))

noncomputable def h1_49 (N : Nat) : Hd (List DT11) := fun st K => (unS [(0, .yld), (2, .v (.ptr (.fn 41 .unit))), (1, .v .str), (7, .v (.sl TT10)), (0, .v (.int .i64)), (0, .v (.int .i64))] 12 (restr PQ117 0 st)).bind fun x => iter (fun v r => g1_49 N ((fun x => (x.2.1, x.2.2.2.1, x.2.2.2.2.1)) x) v r K) N ((fun x => (x.2.2.1, x.2.2.2.2.2.1)) x)

noncomputable def t1_49 (N : Nat) : Tab (List DT11) := []

theorem ok1_49 {N : Nat} {G : GY [.str]} (hG : RestrOk G) (hev : EvOk G Tryz.prog (E_49 N) N L_49 body_49) : YOk G Tryz.prog (nodeAt body_49 [0, 1, 1, 1]) (h1_49 N) :=
  loopY_ok hG (s := [(0, .yld), (2, .v (.ptr (.fn 41 .unit))), (1, .v .str), (7, .v (.sl TT10)), (0, .v (.int .i64)), (0, .v (.int .i64))]) (m := 12) (g1_49 N) PQ117 N (fun x => (x.2.1, x.2.2.2.1, x.2.2.2.2.1)) (fun x => (x.2.2.1, x.2.2.2.2.2.1)) (fun i v => ((), i.1, v.1, i.2.1, i.2.2, v.2, ())) (fun _ => rfl) (hev (t1_49 N) TabOkY.nil [0, 0, 1, 1, 1]) (fun i v r K => by kernel_rfl)

noncomputable def chain_along1 (N : Nat) (x1 : (List UInt8)) (x2 : (List DT8)) (x3 : Unit) : Option (List DT11) :=
 comb (x1, ())
 (chain_along1_p1 N x3 x1 x2 (((List.length x2) : Nat) : Int) (0 : Int)
 (some ([] : List DT11))
 (some ([] : List DT11)))
 (some ([] : List DT11))

noncomputable def t_49 (N : Nat) : Tab (List DT11) := [([0, 1, 1, 1], h1_49 N)]

theorem link_49 (N : Nat) (x : T.den TT15) : evYX (E_49 N) [.str] comb N (t_49 N) L_49 Tryz.f66 [.v (.ptr .str) x.1, .v (.ptr (.sl TT10)) x.2.1, .v (.ptr (.fn 41 .unit)) x.2.2.1] = chain_along1 N x.1 x.2.1 x.2.2.1 := by kernel_rfl

noncomputable def chain_along1_itr (N : Nat) : Dat → ItRes := itRes (ts := [.str]) TT15 (fun x => chain_along1 N x.1 x.2.1 x.2.2.1)

theorem chain_along1_it (N : Nat) : ItOk Tryz.prog glob 66 (chain_along1_itr N) := ItOk.of (ts := [.str]) (E := E_49 N) (H := t_49 N) (L := L_49) (N := N) (body := body_49) (Eok_49 N) rfl Tryz.func66 (by kernel_rfl) (by decide) (fun G hG hev => (TabOkY.cons (ok1_49 hG hev) TabOkY.nil)) (fun x y h => ⟨_, rfl, by rw [link_49]; exact h⟩)

noncomputable def body_50 : Code := (Tryz.f40.body).getD .skip

noncomputable def L_50 : List (List Nat × List Nat) := [([0], [3, 4, 5]), ([0, 1], [6]), ([1, 1], [6])]

noncomputable def E_50 (N : Nat) : Env := mkEnv tys glob [(41, chain_tag_next_res N)] [] [] [] false [(5, (.fn 41 .unit))] [(66, chain_along1_itr N), (98, hmac_framed1_itr N)]

theorem Eok_50 (N : Nat) : EnvOk Tryz.prog (E_50 N) := mkEnv_ok mixed tys_ok (FnsOk.cons (chain_tag_next_ct N) (FnsOk.nil)) (ItsOk.cons (chain_along1_it N) (ItsOk.cons (hmac_framed1_it N) (ItsOk.nil)))

noncomputable def chain_along (N : Nat) (first : (List UInt8)) (links : (List DT8)) : Option ((List UInt8) × ((List DT8) × (Unit × Unit))) :=
 some (first, (links, ((), ())))

noncomputable def t_50 (N : Nat) : Tab ((List UInt8) × ((List DT8) × (Unit × Unit))) := []

theorem link_50 (N : Nat) (x : denS [(0, .v .str), (0, .v (.sl TT10)), (0, .fnc 41)]) : evFX (E_50 N) N (t_50 N) L_50 Tryz.f40 (mkS [(0, .v .str), (0, .v (.sl TT10)), (0, .fnc 41)] 0 x) (kRes (.v (.fn 66 TT15)) 3) = chain_along N x.1 x.2.1 := by kernel_rfl

noncomputable def chain_along_res (N : Nat) : List A → Res := resOf [(0, .v .str), (0, .v (.sl TT10)), (0, .fnc 41)] (fun x => chain_along N x.1 x.2.1) (oRes (.v (.fn 66 TT15)) 3)

theorem chain_along_ct (N : Nat) : Contract Tryz.prog glob 40 (chain_along_res N) :=
  Contract.of (E := E_50 N) (H := t_50 N) (L := L_50) (N := N) (body := body_50) (K := (kRes (.v (.fn 66 TT15)) 3)) (Eok_50 N) Tryz.func40 (by kernel_rfl) (by decide) (fun _ hb => TabOk.nil) (fun x y h => by rw [link_50]; exact h) (kRes_ok (s := (.v (.fn 66 TT15))) (m := 3))

noncomputable def body_51 : Code := (Tryz.f84.body).getD .skip

noncomputable def L_51 : List (List Nat × List Nat) := [([0], [3, 0]), ([0, 1], [0, 3, 5]), ([0, 0, 1, 1], [18, 5]), ([0, 1, 0, 1, 1], [5]), ([0, 0, 1, 0, 1, 1], [5, 6]), ([0, 1, 0, 1, 0, 1, 1], [5]), ([1, 0, 1, 0, 1, 1], [5]), ([1, 0, 1, 1], [5]), ([0, 1, 1, 1], [4]), ([1, 1, 1, 1], [4])]

noncomputable def E_51 (N : Nat) : Env := mkEnv tys glob [(40, chain_along_res N), (41, chain_tag_next_res N), (19, chain_Root_res N)] [(4, .str)] [] [] false [(5, (.own .str))] [(66, chain_along1_itr N), (98, hmac_framed1_itr N)]

theorem Eok_51 (N : Nat) : EnvOk Tryz.prog (E_51 N) := mkEnv_ok mixed tys_ok (FnsOk.cons (chain_along_ct N) (FnsOk.cons (chain_tag_next_ct N) (FnsOk.cons (chain_Root_ct N) (FnsOk.nil)))) (ItsOk.cons (chain_along1_it N) (ItsOk.cons (hmac_framed1_it N) (ItsOk.nil)))

noncomputable def chain_Tags_s1 (N : Nat) (tags_1 : (List (List UInt8))) (y : DT11) (rec : (List (List UInt8)) → Option (List (List UInt8))) (k0 : (List (List UInt8)) → Option (List (List UInt8))) : Option (List (List UInt8)) :=
 cond (decide ((((List.length tags_1) + 1) * 16) ≤ 70368744177664))
 (rec (tags_1 ++ ([y.1] : List (List UInt8))))
 (none)

noncomputable def chain_Tags_fit1 (N : Nat) (tags : (List (List UInt8))) (x18 : ((List UInt8) × ((List DT8) × (Unit × Unit)))) : Option (List DT11) := (chain_along1 N x18.1 x18.2.1 x18.2.2.1)

noncomputable def chain_Tags_i1 (N : Nat) (tags : (List (List UInt8))) (x18 : ((List UInt8) × ((List DT8) × (Unit × Unit)))) : Unit := ()

noncomputable def chain_Tags_v1 (N : Nat) (tags : (List (List UInt8))) (x18 : ((List UInt8) × ((List DT8) × (Unit × Unit)))) : (List (List UInt8)) := tags

noncomputable def chain_Tags_p1 (N : Nat) (tags : (List (List UInt8))) (x18 : ((List UInt8) × ((List DT8) × (Unit × Unit)))) (k0 : (List (List UInt8)) → Option (List (List UInt8))) : Option (List (List UInt8)) :=
 (chain_Tags_fit1 N tags x18).bind fun ys => iterL (fun (y : DT11) (v : (List (List UInt8))) r => chain_Tags_s1 N v y (fun tags_1 => (r tags_1)) k0) (fun (v : (List (List UInt8))) => k0 v) ys tags

noncomputable def g1_51 (N : Nat) (y : DT11) (i : Unit) (v : (List (List UInt8))) (r : (List (List UInt8)) → Option (List (List UInt8))) (K : Ex → List A → Option (List (List UInt8))) : Option (List (List UInt8)) :=
 chain_Tags_s1 N v y (fun tags_1 => (r tags_1)) (fun a0 => (K .normal (mkS [(5, .box (.own .str))] 19 (a0, ()))))

noncomputable def h1_51 (N : Nat) : Hd (List (List UInt8)) := fun st K => (unS [(5, .box (.own .str)), (12, .v (.fn 66 TT15))] 6 (restr [18, 5] 0 st)).bind fun x => ((fun x => chain_Tags_fit1 N x.1 x.2.1) x).bind fun xs => iterL (fun y v r => g1_51 N y ((fun x => chain_Tags_i1 N x.1 x.2.1) x) v r K) (fun v => K .normal (mkS [(5, .box (.own .str))] 19 ((fun i v => (v, ())) ((fun x => chain_Tags_i1 N x.1 x.2.1) x) v))) xs ((fun x => chain_Tags_v1 N x.1 x.2.1) x)

theorem ok1_51 {N : Nat} {c : Ctx} (hb : Base Tryz.prog (E_51 N) c) : CodeOk Tryz.prog c (nodeAt body_51 [0, 1, 0, 1, 1]) (h1_51 N) :=
  rf_ok (ts := [.str]) (s := [(5, .box (.own .str)), (12, .v (.fn 66 TT15))]) (m := 6) (s2 := [(5, .box (.own .str))]) (m2 := 19) [18, 5] (fun x => chain_Tags_fit1 N x.1 x.2.1) (fun x => chain_Tags_i1 N x.1 x.2.1) (fun x => chain_Tags_v1 N x.1 x.2.1) (fun i v => (v, ())) (rfF (E_51 N) N [.str] (nodeAt body_51 [0, 1, 0, 1, 1])) (g1_51 N) (evN_sound hb N [] L_51 body_51 TabOk.nil [0, 1, 0, 1, 1] _ rfl) (fun x K => by kernel_rfl) (fun y i v r K => by kernel_rfl)

noncomputable def chain_Tags (N : Nat) (key : (List UInt8)) (t : DT1) : Option (List (List UInt8)) :=
 cond (decide (((0 : Int) ≤ (0 : Int)) ∧ (((0 : Int) ≤ (IntKind.wrap IntKind.i64 ((1 : Int) + (((List.length t.2.1) : Nat) : Int)))) ∧ ((((IntKind.wrap IntKind.i64 ((1 : Int) + (((List.length t.2.1) : Nat) : Int))) * (16 : Int)) ≤ (281474976710656 : Int)) ∧ ((IntKind.wrap IntKind.i64 ((1 : Int) + (((List.length t.2.1) : Nat) : Int))) ≤ (9223372036854775807 : Int))))))
 ((chain_Root N key t.1).bind fun y =>
 chain_Tags_p1 N ([] : List (List UInt8)) (y, (t.2.1, ((), ())))
 (fun tags_1 => some tags_1))
 (none)

noncomputable def t_51 (N : Nat) : Tab (List (List UInt8)) := [([0, 1, 0, 1, 1], h1_51 N)]

theorem link_51 (N : Nat) (x : denS SQ27) : evFX (E_51 N) N (t_51 N) L_51 Tryz.f84 (mkS SQ27 0 x) (kRes (.v (.sl .str)) 2) = chain_Tags N x.1 x.2.1 := by kernel_rfl

noncomputable def chain_Tags_res (N : Nat) : List A → Res := resOf SQ27 (fun x => chain_Tags N x.1 x.2.1) (oRes (.v (.sl .str)) 2)

theorem chain_Tags_ct (N : Nat) : Contract Tryz.prog glob 84 (chain_Tags_res N) :=
  Contract.of (E := E_51 N) (H := t_51 N) (L := L_51) (N := N) (body := body_51) (K := (kRes (.v (.sl .str)) 2)) (Eok_51 N) Tryz.func84 (by kernel_rfl) (by decide) (fun _ hb => (TabOk.cons (ok1_51 hb) TabOk.nil)) (fun x y h => by rw [link_51]; exact h) (kRes_ok (s := (.v (.sl .str))) (m := 2))

noncomputable def body_52 : Code := (Tryz.f56.body).getD .skip

noncomputable def L_52 : List (List Nat × List Nat) := [([0], [1, 5, 0]), ([0, 1], [0, 8]), ([0, 1, 1], [8, 0]), ([0, 1, 1, 1], [6, 7, 0]), ([1, 1, 1, 1], [6, 7, 0])]

noncomputable def E_52 (N : Nat) : Env := mkEnv tys glob [(84, chain_Tags_res N)] [(8, .str), (6, .str)] [] [0] false [] [(66, chain_along1_itr N), (98, hmac_framed1_itr N)]

theorem Eok_52 (N : Nat) : EnvOk Tryz.prog (E_52 N) := mkEnv_ok mixed tys_ok (FnsOk.cons (chain_Tags_ct N) (FnsOk.nil)) (ItsOk.cons (chain_along1_it N) (ItsOk.cons (hmac_framed1_it N) (ItsOk.nil)))

noncomputable def verify_run_tags (N : Nat) (r_ : DT2) (key : (List UInt8)) (t : DT1) : Option (((List (List UInt8)) × (List UInt8) × Unit) × (DT2 × Unit)) :=
 (chain_Tags N key t).bind fun y =>
 cond (inR (IntKind.wrap IntKind.i64 ((((List.length y) : Nat) : Int) - (1 : Int))) (List.length y))
 (some ((y, ((List.getD y (Int.toNat (IntKind.wrap IntKind.i64 ((((List.length y) : Nat) : Int) - (1 : Int)))) ([] : List UInt8)), ())), ((r_.1, (r_.2.1, (r_.2.2.1, (r_.2.2.2.1, ((IntKind.wrap IntKind.i64 (r_.2.2.2.2.1 + (((List.length y) : Nat) : Int))), r_.2.2.2.2.2))))), ())))
 (none)

noncomputable def t_52 (N : Nat) : Tab (((List (List UInt8)) × (List UInt8) × Unit) × (DT2 × Unit)) := []

theorem link_52 (N : Nat) (x : denS [(0, .box TT3), (0, .v .str), (0, .v TT0)]) : evFX (E_52 N) N (t_52 N) L_52 Tryz.f56 (mkS [(0, .box TT3), (0, .v .str), (0, .v TT0)] 0 x) (kResB (.tup [(.sl .str), .str]) [(0, .box TT3)] 2) = verify_run_tags N x.1 x.2.1 x.2.2.1 := by kernel_rfl

noncomputable def verify_run_tags_res (N : Nat) : List A → Res := resOf [(0, .box TT3), (0, .v .str), (0, .v TT0)] (fun x => verify_run_tags N x.1 x.2.1 x.2.2.1) (oResB (.tup [(.sl .str), .str]) [(0, .box TT3)] 2)

theorem verify_run_tags_ct (N : Nat) : Contract Tryz.prog glob 56 (verify_run_tags_res N) :=
  Contract.of (E := E_52 N) (H := t_52 N) (L := L_52) (N := N) (body := body_52) (K := (kResB (.tup [(.sl .str), .str]) [(0, .box TT3)] 2)) (Eok_52 N) Tryz.func56 (by kernel_rfl) (by decide) (fun _ hb => TabOk.nil) (fun x y h => by rw [link_52]; exact h) (kResB_ok (s := (.tup [(.sl .str), .str])) (os := [(0, .box TT3)]) (m := 2))

noncomputable def body_53 : Code := (Tryz.f85.body).getD .skip

noncomputable def L_53 : List (List Nat × List Nat) := [([0], [0, 1]), ([0, 0, 1], [11, 0, 1]), ([1, 0, 1], [0, 1]), ([0, 0, 1, 0, 1], [4]), ([1, 0, 1, 0, 1], [4]), ([0, 1, 1], [0, 5, 1]), ([0, 0, 1, 1, 1], [14, 13, 5, 0, 1]), ([0, 1, 0, 1, 1, 1], [14, 13, 5, 0, 1]), ([0, 0, 0, 1, 0, 1, 1, 1], [15, 14, 5, 0, 1, 13]), (PQ29, [14, 5, 0, 1, 13]), ([1, 0, 1, 0, 0, 1, 0, 1, 1, 1], [5]), ([0, 0, 0, 1, 1, 0, 0, 1, 0, 1, 1, 1], [5, 0, 6, 1, 14, 13]), ([1, 0, 0, 1, 1, 0, 0, 1, 0, 1, 1, 1], [14, 13, 5, 0, 1]), ([0, 1, 1, 0, 0, 1, 0, 1, 1, 1], [14, 13, 5, 0, 1]), ([1, 1, 1, 0, 0, 1, 0, 1, 1, 1], [14, 13, 5, 0, 1]), ([1, 0, 1, 1, 1], [5]), ([0, 1, 1, 1, 1], [4]), ([1, 1, 1, 1, 1], [4])]

noncomputable def E_53 (N : Nat) : Env := mkEnv tys glob [] [] [] [] false [] [(66, chain_along1_itr N), (98, hmac_framed1_itr N)]

theorem Eok_53 (N : Nat) : EnvOk Tryz.prog (E_53 N) := mkEnv_ok mixed tys_ok (FnsOk.nil) (ItsOk.cons (chain_along1_it N) (ItsOk.cons (hmac_framed1_it N) (ItsOk.nil)))

noncomputable def octet_Equal_s1 (N : Nat) (a : (List UInt8)) (b : (List UInt8)) (x13 : Int) (differ : Int) (x14 : Int) (rec : Int → Int → Option Bool) (k0 : Int → Option Bool) : Option Bool :=
 cond (decide (x14 < x13))
 (cond (inR x14 (List.length a))
 (cond (inR x14 (List.length b))
 (rec (bitsOp Go.BinOp.or IntKind.u8 differ (bitsOp Go.BinOp.xor IntKind.u8 (((UInt8.toNat (List.getD a (Int.toNat x14) (0 : UInt8))) : Nat) : Int) (((UInt8.toNat (List.getD b (Int.toNat x14) (0 : UInt8))) : Nat) : Int))) (IntKind.wrap IntKind.i64 (x14 + (1 : Int))))
 (none))
 (none))
 (k0 differ)

noncomputable def octet_Equal_p1 (N : Nat) (a : (List UInt8)) (b : (List UInt8)) (differ : Int) (x13 : Int) (x14 : Int) (k0 : Int → Option Bool) : Option Bool :=
 iter (fun (v : (Int × Int)) r => octet_Equal_s1 N a b x13 v.1 v.2 (fun differ x14 => (r (differ, x14))) k0) N (differ, x14)

noncomputable def g1_53 (N : Nat) (i : ((List UInt8) × (List UInt8) × Int)) (v : (Int × Int)) (r : (Int × Int) → Option Bool) (K : Ex → List A → Option Bool) : Option Bool :=
 octet_Equal_s1 N i.1 i.2.1 i.2.2 v.1 v.2 (fun differ x14 => (r (differ, x14))) (fun a0 => (K (.exit 0) (mkS [(5, .v (.int .u8))] 23 (a0, ()))))

noncomputable def h1_53 (N : Nat) : Hd Bool := fun st K => (unS SQ96 14 (restr [14, 13, 5, 0, 1] 0 st)).bind fun x => iter (fun v r => g1_53 N ((fun x => (x.1, x.2.1, x.2.2.2.1)) x) v r K) N ((fun x => (x.2.2.1, x.2.2.2.2.1)) x)

noncomputable def t1_53 (N : Nat) : Tab Bool := []

theorem ok1_53 {N : Nat} {c : Ctx} (hb : Base Tryz.prog (E_53 N) c) : CodeOk Tryz.prog c (nodeAt body_53 [0, 1, 0, 1, 1, 1]) (h1_53 N) :=
  loop_ok (s := SQ96) (m := 14) (g1_53 N) [14, 13, 5, 0, 1] N (fun x => (x.1, x.2.1, x.2.2.2.1)) (fun x => (x.2.2.1, x.2.2.2.2.1)) (fun i v => (i.1, i.2.1, v.1, i.2.2, v.2, ())) (fun _ => rfl) (evN_sound hb N (t1_53 N) L_53 body_53 TabOk.nil PQ72 _ rfl) (fun i v r K => by kernel_rfl)

noncomputable def octet_Equal (N : Nat) (a : (List UInt8)) (b : (List UInt8)) : Option Bool :=
 cond ((((List.length a) : Nat) : Int) != (((List.length b) : Nat) : Int))
 (some false)
 (octet_Equal_p1 N a b (0 : Int) (((List.length a) : Nat) : Int) (0 : Int)
 (fun differ => some (differ == (0 : Int))))

noncomputable def t_53 (N : Nat) : Tab Bool := [([0, 1, 0, 1, 1, 1], h1_53 N)]

theorem link_53 (N : Nat) (x : denS SQ0) : evFX (E_53 N) N (t_53 N) L_53 Tryz.f85 (mkS SQ0 0 x) (kRes (.v .bool) 2) = octet_Equal N x.1 x.2.1 := by kernel_rfl

noncomputable def octet_Equal_res (N : Nat) : List A → Res := resOf SQ0 (fun x => octet_Equal N x.1 x.2.1) (oRes (.v .bool) 2)

theorem octet_Equal_ct (N : Nat) : Contract Tryz.prog glob 85 (octet_Equal_res N) :=
  Contract.of (E := E_53 N) (H := t_53 N) (L := L_53) (N := N) (body := body_53) (K := (kRes (.v .bool) 2)) (Eok_53 N) Tryz.func85 (by kernel_rfl) (by decide) (fun _ hb => (TabOk.cons (ok1_53 hb) TabOk.nil)) (fun x y h => by rw [link_53]; exact h) (kRes_ok (s := (.v .bool)) (m := 2))

noncomputable def body_54 : Code := (Tryz.f57.body).getD .skip

noncomputable def L_54 : List (List Nat × List Nat) := [([0], [0, 1]), ([0, 1], [4]), ([1, 1], [4])]

noncomputable def E_54 (N : Nat) : Env := mkEnv tys glob [(85, octet_Equal_res N)] [] [] [] false [] [(66, chain_along1_itr N), (98, hmac_framed1_itr N)]

theorem Eok_54 (N : Nat) : EnvOk Tryz.prog (E_54 N) := mkEnv_ok mixed tys_ok (FnsOk.cons (octet_Equal_ct N) (FnsOk.nil)) (ItsOk.cons (chain_along1_it N) (ItsOk.cons (hmac_framed1_it N) (ItsOk.nil)))

noncomputable def hmac_Same (N : Nat) (a : (List UInt8)) (b : (List UInt8)) : Option Bool :=
 cond ((((List.length a) : Nat) : Int) == (32 : Int))
 (cond ((((List.length b) : Nat) : Int) == (32 : Int))
 ((octet_Equal N a b).bind fun y =>
 some y)
 (some false))
 (some false)

noncomputable def t_54 (N : Nat) : Tab Bool := []

theorem link_54 (N : Nat) (x : denS SQ0) : evFX (E_54 N) N (t_54 N) L_54 Tryz.f57 (mkS SQ0 0 x) (kRes (.v .bool) 2) = hmac_Same N x.1 x.2.1 := by kernel_rfl

noncomputable def hmac_Same_res (N : Nat) : List A → Res := resOf SQ0 (fun x => hmac_Same N x.1 x.2.1) (oRes (.v .bool) 2)

theorem hmac_Same_ct (N : Nat) : Contract Tryz.prog glob 57 (hmac_Same_res N) :=
  Contract.of (E := E_54 N) (H := t_54 N) (L := L_54) (N := N) (body := body_54) (K := (kRes (.v .bool) 2)) (Eok_54 N) Tryz.func57 (by kernel_rfl) (by decide) (fun _ hb => TabOk.nil) (fun x y h => by rw [link_54]; exact h) (kRes_ok (s := (.v .bool)) (m := 2))

noncomputable def body_55 : Code := (Tryz.f39.body).getD .skip

noncomputable def L_55 : List (List Nat × List Nat) := [([0], [1]), ([0, 1], [2]), ([1, 1], [2])]

noncomputable def E_55 (N : Nat) : Env := mkEnv tys glob [] [] [] [] false [] [(66, chain_along1_itr N), (98, hmac_framed1_itr N)]

theorem Eok_55 (N : Nat) : EnvOk Tryz.prog (E_55 N) := mkEnv_ok mixed tys_ok (FnsOk.nil) (ItsOk.cons (chain_along1_it N) (ItsOk.cons (hmac_framed1_it N) (ItsOk.nil)))

noncomputable def verify_own (N : Nat) (l : DT8) : Option Bool :=
 some (eqD (T.pair T.str (T.pair T.str T.unit)) l (l.1, (([] : List UInt8), ())))

noncomputable def t_55 (N : Nat) : Tab Bool := []

theorem link_55 (N : Nat) (x : denS [(0, .v TT10)]) : evFX (E_55 N) N (t_55 N) L_55 Tryz.f39 (mkS [(0, .v TT10)] 0 x) (kRes (.v .bool) 1) = verify_own N x.1 := by kernel_rfl

noncomputable def verify_own_res (N : Nat) : List A → Res := resOf [(0, .v TT10)] (fun x => verify_own N x.1) (oRes (.v .bool) 1)

theorem verify_own_ct (N : Nat) : Contract Tryz.prog glob 39 (verify_own_res N) :=
  Contract.of (E := E_55 N) (H := t_55 N) (L := L_55) (N := N) (body := body_55) (K := (kRes (.v .bool) 1)) (Eok_55 N) Tryz.func39 (by kernel_rfl) (by decide) (fun _ hb => TabOk.nil) (fun x y h => by rw [link_55]; exact h) (kRes_ok (s := (.v .bool)) (m := 1))

noncomputable def body_56 : Code := (Tryz.f50.body).getD .skip

noncomputable def L_56 : List (List Nat × List Nat) := [([0], [0]), ([0, 1], [2]), ([1, 1], [2])]

noncomputable def E_56 (N : Nat) : Env := mkEnv tys glob [(45, hmac_Parts_res N)] [] [] [] false [] [(66, chain_along1_itr N), (98, hmac_framed1_itr N)]

theorem Eok_56 (N : Nat) : EnvOk Tryz.prog (E_56 N) := mkEnv_ok mixed tys_ok (FnsOk.cons (hmac_Parts_ct N) (FnsOk.nil)) (ItsOk.cons (chain_along1_it N) (ItsOk.cons (hmac_framed1_it N) (ItsOk.nil)))

noncomputable def chain_Seal (N : Nat) (of : (List UInt8)) : Option (List UInt8) :=
 (hmac_Parts N of ([([(115 : UInt8), (101 : UInt8), (97 : UInt8), (108 : UInt8)] : List UInt8)] : List (List UInt8))).bind fun y =>
 some y

noncomputable def t_56 (N : Nat) : Tab (List UInt8) := []

theorem link_56 (N : Nat) (x : denS [(0, .v .str)]) : evFX (E_56 N) N (t_56 N) L_56 Tryz.f50 (mkS [(0, .v .str)] 0 x) (kRes (.v .str) 1) = chain_Seal N x.1 := by kernel_rfl

noncomputable def chain_Seal_res (N : Nat) : List A → Res := resOf [(0, .v .str)] (fun x => chain_Seal N x.1) (oRes (.v .str) 1)

theorem chain_Seal_ct (N : Nat) : Contract Tryz.prog glob 50 (chain_Seal_res N) :=
  Contract.of (E := E_56 N) (H := t_56 N) (L := L_56) (N := N) (body := body_56) (K := (kRes (.v .str) 1)) (Eok_56 N) Tryz.func50 (by kernel_rfl) (by decide) (fun _ hb => TabOk.nil) (fun x y h => by rw [link_56]; exact h) (kRes_ok (s := (.v .str)) (m := 1))

noncomputable def body_57 : Code := (Tryz.f74.body).getD .skip

noncomputable def L_57 : List (List Nat × List Nat) := [([0], [0]), ([0, 1], [2]), ([1, 1], [2])]

noncomputable def E_57 (N : Nat) : Env := mkEnv tys glob [(45, hmac_Parts_res N)] [] [] [] false [] [(66, chain_along1_itr N), (98, hmac_framed1_itr N)]

theorem Eok_57 (N : Nat) : EnvOk Tryz.prog (E_57 N) := mkEnv_ok mixed tys_ok (FnsOk.cons (hmac_Parts_ct N) (FnsOk.nil)) (ItsOk.cons (chain_along1_it N) (ItsOk.cons (hmac_framed1_it N) (ItsOk.nil)))

noncomputable def box_hideKey (N : Nat) (key : (List UInt8)) : Option (List UInt8) :=
 (hmac_Parts N key ([([(104 : UInt8), (105 : UInt8), (100 : UInt8), (101 : UInt8)] : List UInt8)] : List (List UInt8))).bind fun y =>
 some y

noncomputable def t_57 (N : Nat) : Tab (List UInt8) := []

theorem link_57 (N : Nat) (x : denS [(0, .v .str)]) : evFX (E_57 N) N (t_57 N) L_57 Tryz.f74 (mkS [(0, .v .str)] 0 x) (kRes (.v .str) 1) = box_hideKey N x.1 := by kernel_rfl

noncomputable def box_hideKey_res (N : Nat) : List A → Res := resOf [(0, .v .str)] (fun x => box_hideKey N x.1) (oRes (.v .str) 1)

theorem box_hideKey_ct (N : Nat) : Contract Tryz.prog glob 74 (box_hideKey_res N) :=
  Contract.of (E := E_57 N) (H := t_57 N) (L := L_57) (N := N) (body := body_57) (K := (kRes (.v .str) 1)) (Eok_57 N) Tryz.func74 (by kernel_rfl) (by decide) (fun _ hb => TabOk.nil) (fun x y h => by rw [link_57]; exact h) (kRes_ok (s := (.v .str)) (m := 1))

noncomputable def body_58 : Code := (Tryz.f102.body).getD .skip

noncomputable def L_58 : List (List Nat × List Nat) := [([0], [0]), ([0, 0, 1], [5, 0]), ([1, 0, 1], [0]), ([0, 0, 1, 0, 1], [2]), ([1, 0, 1, 0, 1], [2]), ([0, 1, 1], [2]), ([1, 1, 1], [2])]

noncomputable def E_58 (N : Nat) : Env := mkEnv tys glob [] [] [] [] false [] [(66, chain_along1_itr N), (98, hmac_framed1_itr N)]

theorem Eok_58 (N : Nat) : EnvOk Tryz.prog (E_58 N) := mkEnv_ok mixed tys_ok (FnsOk.nil) (ItsOk.cons (chain_along1_it N) (ItsOk.cons (hmac_framed1_it N) (ItsOk.nil)))

noncomputable def box_Nonce (N : Nat) (s : (List UInt8)) : Option (List UInt8) :=
 cond (decide ((((List.length s) : Nat) : Int) < (16 : Int)))
 (some ([] : List UInt8))
 (cond (decide (((0 : Int) ≤ (16 : Int)) ∧ ((16 : Int) ≤ (((List.length s) : Nat) : Int))))
 (some (cut s 0 16))
 (none))

noncomputable def t_58 (N : Nat) : Tab (List UInt8) := []

theorem link_58 (N : Nat) (x : denS [(0, .v .str)]) : evFX (E_58 N) N (t_58 N) L_58 Tryz.f102 (mkS [(0, .v .str)] 0 x) (kRes (.v .str) 1) = box_Nonce N x.1 := by kernel_rfl

noncomputable def box_Nonce_res (N : Nat) : List A → Res := resOf [(0, .v .str)] (fun x => box_Nonce N x.1) (oRes (.v .str) 1)

theorem box_Nonce_ct (N : Nat) : Contract Tryz.prog glob 102 (box_Nonce_res N) :=
  Contract.of (E := E_58 N) (H := t_58 N) (L := L_58) (N := N) (body := body_58) (K := (kRes (.v .str) 1)) (Eok_58 N) Tryz.func102 (by kernel_rfl) (by decide) (fun _ hb => TabOk.nil) (fun x y h => by rw [link_58]; exact h) (kRes_ok (s := (.v .str)) (m := 1))

noncomputable def body_59 : Code := (Tryz.f131.body).getD .skip

noncomputable def L_59 : List (List Nat × List Nat) := [([0], [0]), ([0, 1], [3, 0]), ([0, 0, 1, 1], [6, 3, 0]), ([0, 1, 0, 1, 1], [6, 3, 0]), (PQ47, [7, 6, 3, 0]), (PQ9, [6, 3, 0]), (PQ60, [3]), (PQ44, [3, 4, 0, 6]), (PQ81, [6, 3, 0]), (PQ61, [6, 3, 0]), (PQ62, [6, 3, 0]), ([1, 0, 1, 1], [3]), ([0, 1, 1, 1], [2]), ([1, 1, 1, 1], [2])]

noncomputable def E_59 (N : Nat) : Env := mkEnv tys glob [] [(3, (.int .u8))] [] [] false [] [(66, chain_along1_itr N), (98, hmac_framed1_itr N)]

theorem Eok_59 (N : Nat) : EnvOk Tryz.prog (E_59 N) := mkEnv_ok mixed tys_ok (FnsOk.nil) (ItsOk.cons (chain_along1_it N) (ItsOk.cons (hmac_framed1_it N) (ItsOk.nil)))

noncomputable def stream_number_s1 (N : Nat) (n : Int) (out : (List Int)) (x6 : Int) (rec : (List Int) → Int → Option (List UInt8)) (k0 : (List Int) → Option (List UInt8)) : Option (List UInt8) :=
 cond (decide (x6 < (8 : Int)))
 (cond (decide ((0 : Int) ≤ (IntKind.wrap IntKind.i64 ((8 : Int) * (IntKind.wrap IntKind.i64 ((7 : Int) - x6))))))
 (cond (inR x6 (List.length out))
 (cond (decide ((Int.toNat x6) < (List.length out)))
 (rec (List.set out (Int.toNat x6) (IntKind.wrap IntKind.u8 (shrI IntKind.i64 n (IntKind.wrap IntKind.i64 ((8 : Int) * (IntKind.wrap IntKind.i64 ((7 : Int) - x6))))))) (IntKind.wrap IntKind.i64 (x6 + (1 : Int))))
 (none))
 (none))
 (none))
 (k0 out)

noncomputable def stream_number_p1 (N : Nat) (n : Int) (out : (List Int)) (x6 : Int) (k0 : (List Int) → Option (List UInt8)) : Option (List UInt8) :=
 iter (fun (v : ((List Int) × Int)) r => stream_number_s1 N n v.1 v.2 (fun out x6 => (r (out, x6))) k0) N (out, x6)

noncomputable def g1_59 (N : Nat) (i : Int) (v : ((List Int) × Int)) (r : ((List Int) × Int) → Option (List UInt8)) (K : Ex → List A → Option (List UInt8)) : Option (List UInt8) :=
 stream_number_s1 N i v.1 v.2 (fun out x6 => (r (out, x6))) (fun a0 => (K (.exit 0) (mkS [(3, .row (.int .u8))] 17 (a0, ()))))

noncomputable def h1_59 (N : Nat) : Hd (List UInt8) := fun st K => (unS [(0, .v (.int .i64)), (2, .row (.int .u8)), (2, .v (.int .i64))] 14 (restr [6, 3, 0] 0 st)).bind fun x => iter (fun v r => g1_59 N ((fun x => x.1) x) v r K) N ((fun x => (x.2.1, x.2.2.1)) x)

noncomputable def t1_59 (N : Nat) : Tab (List UInt8) := []

theorem ok1_59 {N : Nat} {c : Ctx} (hb : Base Tryz.prog (E_59 N) c) : CodeOk Tryz.prog c (nodeAt body_59 [0, 1, 0, 1, 1]) (h1_59 N) :=
  loop_ok (s := [(0, .v (.int .i64)), (2, .row (.int .u8)), (2, .v (.int .i64))]) (m := 14) (g1_59 N) [6, 3, 0] N (fun x => x.1) (fun x => (x.2.1, x.2.2.1)) (fun i v => (i, v.1, v.2, ())) (fun _ => rfl) (evN_sound hb N (t1_59 N) L_59 body_59 TabOk.nil [0, 0, 1, 0, 1, 1] _ rfl) (fun i v r K => by kernel_rfl)

noncomputable def stream_number (N : Nat) (n : Int) : Option (List UInt8) :=
 stream_number_p1 N n ([(0 : Int), (0 : Int), (0 : Int), (0 : Int), (0 : Int), (0 : Int), (0 : Int), (0 : Int)] : List Int) (0 : Int)
 (fun out => some (toStr out))

noncomputable def t_59 (N : Nat) : Tab (List UInt8) := [([0, 1, 0, 1, 1], h1_59 N)]

theorem link_59 (N : Nat) (x : denS [(0, .v (.int .i64))]) : evFX (E_59 N) N (t_59 N) L_59 Tryz.f131 (mkS [(0, .v (.int .i64))] 0 x) (kRes (.v .str) 1) = stream_number N x.1 := by kernel_rfl

noncomputable def stream_number_res (N : Nat) : List A → Res := resOf [(0, .v (.int .i64))] (fun x => stream_number N x.1) (oRes (.v .str) 1)

theorem stream_number_ct (N : Nat) : Contract Tryz.prog glob 131 (stream_number_res N) :=
  Contract.of (E := E_59 N) (H := t_59 N) (L := L_59) (N := N) (body := body_59) (K := (kRes (.v .str) 1)) (Eok_59 N) Tryz.func131 (by kernel_rfl) (by decide) (fun _ hb => (TabOk.cons (ok1_59 hb) TabOk.nil)) (fun x y h => by rw [link_59]; exact h) (kRes_ok (s := (.v .str)) (m := 1))

noncomputable def body_60 : Code := (Tryz.f124.body).getD .skip

noncomputable def L_60 : List (List Nat × List Nat) := [([0], [2, 0, 1]), ([0, 0, 1], [8, 0, 1, 2]), ([1, 0, 1], [0, 1, 2]), ([0, 0, 1, 0, 1], [6]), ([1, 0, 1, 0, 1], [6]), ([0, 1, 1], [6]), ([1, 1, 1], [6])]

noncomputable def E_60 (N : Nat) : Env := mkEnv tys glob [(131, stream_number_res N), (45, hmac_Parts_res N)] [] [] [] false [] [(66, chain_along1_itr N), (98, hmac_framed1_itr N)]

theorem Eok_60 (N : Nat) : EnvOk Tryz.prog (E_60 N) := mkEnv_ok mixed tys_ok (FnsOk.cons (stream_number_ct N) (FnsOk.cons (hmac_Parts_ct N) (FnsOk.nil))) (ItsOk.cons (chain_along1_it N) (ItsOk.cons (hmac_framed1_it N) (ItsOk.nil)))

noncomputable def stream_Block (N : Nat) (key : (List UInt8)) (nonce : (List UInt8)) (i : Int) : Option (List UInt8) :=
 cond (decide (i < (0 : Int)))
 (some ([] : List UInt8))
 ((stream_number N i).bind fun y =>
 (hmac_Parts N key ([([(115 : UInt8), (116 : UInt8), (114 : UInt8), (101 : UInt8), (97 : UInt8), (109 : UInt8)] : List UInt8), nonce, y] : List (List UInt8))).bind fun y1 =>
 some y1)

noncomputable def t_60 (N : Nat) : Tab (List UInt8) := []

theorem link_60 (N : Nat) (x : denS SQ3) : evFX (E_60 N) N (t_60 N) L_60 Tryz.f124 (mkS SQ3 0 x) (kRes (.v .str) 3) = stream_Block N x.1 x.2.1 x.2.2.1 := by kernel_rfl

noncomputable def stream_Block_res (N : Nat) : List A → Res := resOf SQ3 (fun x => stream_Block N x.1 x.2.1 x.2.2.1) (oRes (.v .str) 3)

theorem stream_Block_ct (N : Nat) : Contract Tryz.prog glob 124 (stream_Block_res N) :=
  Contract.of (E := E_60 N) (H := t_60 N) (L := L_60) (N := N) (body := body_60) (K := (kRes (.v .str) 3)) (Eok_60 N) Tryz.func124 (by kernel_rfl) (by decide) (fun _ hb => TabOk.nil) (fun x y h => by rw [link_60]; exact h) (kRes_ok (s := (.v .str)) (m := 3))

noncomputable def body_61 : Code := (Tryz.f123.body).getD .skip

noncomputable def L_61 : List (List Nat × List Nat) := [([0], [10, 9, 0, 2, 3]), ([0, 1], [10, 9, 0, 2, 3]), ([0, 0, 0, 1], [11, 10, 0, 2, 3, 9]), ([0, 1, 0, 0, 1], [10, 0, 2, 3, 9]), ([1, 0, 1, 0, 0, 1], [0]), ([0, 0, 0, 1, 1, 0, 0, 1], [0, 2, 3, 5, 10, 9]), ([0, 1, 0, 0, 1, 1, 0, 0, 1], [19, 0, 10, 9, 2, 3]), ([1, 1, 0, 0, 1, 1, 0, 0, 1], [10, 9, 0, 2, 3]), ([0, 1, 1, 0, 0, 1, 1, 0, 0, 1], [0]), ([0, 1, 1, 0, 0, 1], [10, 9, 0, 2, 3]), ([1, 1, 1, 0, 0, 1], [10, 9, 0, 2, 3]), ([1], [0])]

noncomputable def E_61 (N : Nat) : Env := mkEnv tys glob [(124, stream_Block_res N)] [] [] [0] false [] []

theorem Eok_61 (N : Nat) : EnvOk Tryz.prog (E_61 N) := mkEnv_ok mixed tys_ok (FnsOk.cons (stream_Block_ct N) (FnsOk.nil)) ItsOk.nil

noncomputable def stream_blocks1_s1 (N : Nat) (x2 : (List UInt8)) (x3 : (List UInt8)) (x9 : Int) (x10 : Int) (rec : Int → Option (List DT11)) (k0 : Option (List DT11)) (k1 : Option (List DT11)) : Option (List DT11) :=
 cond (decide (x10 < x9))
 ((stream_Block N x2 x3 x10).bind fun y =>
 comb (y, ())
 (rec (IntKind.wrap IntKind.i64 (x10 + (1 : Int))))
 (k0))
 (k1)

noncomputable def stream_blocks1_p1 (N : Nat) (x2 : (List UInt8)) (x3 : (List UInt8)) (x9 : Int) (x10 : Int) (k0 : Option (List DT11)) (k1 : Option (List DT11)) : Option (List DT11) :=
 iter (fun (v : Int) r => stream_blocks1_s1 N x2 x3 x9 v (fun x10 => (r x10)) k0 k1) N x10

noncomputable def g1_61 (N : Nat) (i : ((List UInt8) × (List UInt8) × Int)) (v : Int) (r : Int → Option (List DT11)) (K : Ex → List A → Option (List DT11)) : Option (List DT11) :=
 stream_blocks1_s1 N i.1 i.2.1 i.2.2 v (fun x10 => (r x10)) (K .ret (mkS [(0, .yld)] 20 ((), ()))) (K (.exit 0) (mkS [(0, .yld)] 20 ((), ())))

noncomputable def h1_61 (N : Nat) : Hd (List DT11) := fun st K => (unS [(0, .yld), (1, .v (.ptr .str)), (0, .v (.ptr .str)), (5, .v (.int .i64)), (0, .v (.int .i64))] 10 (restr [10, 9, 0, 2, 3] 0 st)).bind fun x => iter (fun v r => g1_61 N ((fun x => (x.2.1, x.2.2.1, x.2.2.2.1)) x) v r K) N ((fun x => x.2.2.2.2.1) x)

noncomputable def t1_61 (N : Nat) : Tab (List DT11) := []

theorem ok1_61 {N : Nat} {G : GY [.str]} (hG : RestrOk G) (hev : EvOk G Tryz.prog (E_61 N) N L_61 body_61) : YOk G Tryz.prog (nodeAt body_61 [0, 1]) (h1_61 N) :=
  loopY_ok hG (s := [(0, .yld), (1, .v (.ptr .str)), (0, .v (.ptr .str)), (5, .v (.int .i64)), (0, .v (.int .i64))]) (m := 10) (g1_61 N) [10, 9, 0, 2, 3] N (fun x => (x.2.1, x.2.2.1, x.2.2.2.1)) (fun x => x.2.2.2.2.1) (fun i v => ((), i.1, i.2.1, i.2.2, v, ())) (fun _ => rfl) (hev (t1_61 N) TabOkY.nil [0, 0, 1]) (fun i v r K => by kernel_rfl)

noncomputable def stream_blocks1 (N : Nat) (x1 : Int) (x2 : (List UInt8)) (x3 : (List UInt8)) : Option (List DT11) :=
 stream_blocks1_p1 N x2 x3 (IntKind.wrap IntKind.i64 (Int.tdiv (IntKind.wrap IntKind.i64 ((IntKind.wrap IntKind.i64 (x1 + (32 : Int))) - (1 : Int))) (32 : Int))) (0 : Int)
 (some ([] : List DT11))
 (some ([] : List DT11))

noncomputable def t_61 (N : Nat) : Tab (List DT11) := [([0, 1], h1_61 N)]

theorem link_61 (N : Nat) (x : T.den (.pair (.ptr (.int .i64)) (.pair (.ptr .str) (.pair (.ptr .str) .unit)))) : evYX (E_61 N) [.str] comb N (t_61 N) L_61 Tryz.f123 [.v (.ptr (.int .i64)) x.1, .v (.ptr .str) x.2.1, .v (.ptr .str) x.2.2.1] = stream_blocks1 N x.1 x.2.1 x.2.2.1 := by kernel_rfl

noncomputable def stream_blocks1_itr (N : Nat) : Dat → ItRes := itRes (ts := [.str]) (.pair (.ptr (.int .i64)) (.pair (.ptr .str) (.pair (.ptr .str) .unit))) (fun x => stream_blocks1 N x.1 x.2.1 x.2.2.1)

theorem stream_blocks1_it (N : Nat) : ItOk Tryz.prog glob 123 (stream_blocks1_itr N) := ItOk.of (ts := [.str]) (E := E_61 N) (H := t_61 N) (L := L_61) (N := N) (body := body_61) (Eok_61 N) rfl Tryz.func123 (by kernel_rfl) (by decide) (fun G hG hev => (TabOkY.cons (ok1_61 hG hev) TabOkY.nil)) (fun x y h => ⟨_, rfl, by rw [link_61]; exact h⟩)

noncomputable def body_62 : Code := (Tryz.f110.body).getD .skip

noncomputable def L_62 : List (List Nat × List Nat) := [([0], [5, 3, 4]), ([0, 1], [6]), ([1, 1], [6])]

noncomputable def E_62 (N : Nat) : Env := mkEnv tys glob [] [] [] [] false [] [(123, stream_blocks1_itr N), (66, chain_along1_itr N), (98, hmac_framed1_itr N)]

theorem Eok_62 (N : Nat) : EnvOk Tryz.prog (E_62 N) := mkEnv_ok mixed tys_ok (FnsOk.nil) (ItsOk.cons (stream_blocks1_it N) (ItsOk.cons (chain_along1_it N) (ItsOk.cons (hmac_framed1_it N) (ItsOk.nil))))

noncomputable def stream_blocks (N : Nat) (key : (List UInt8)) (nonce : (List UInt8)) (n : Int) : Option (Int × DT8) :=
 some (n, (key, (nonce, ())))

noncomputable def t_62 (N : Nat) : Tab (Int × DT8) := []

theorem link_62 (N : Nat) (x : denS SQ3) : evFX (E_62 N) N (t_62 N) L_62 Tryz.f110 (mkS SQ3 0 x) (kRes (.v (.fn 123 (.pair (.ptr (.int .i64)) (.pair (.ptr .str) (.pair (.ptr .str) .unit))))) 3) = stream_blocks N x.1 x.2.1 x.2.2.1 := by kernel_rfl

noncomputable def stream_blocks_res (N : Nat) : List A → Res := resOf SQ3 (fun x => stream_blocks N x.1 x.2.1 x.2.2.1) (oRes (.v (.fn 123 (.pair (.ptr (.int .i64)) (.pair (.ptr .str) (.pair (.ptr .str) .unit))))) 3)

theorem stream_blocks_ct (N : Nat) : Contract Tryz.prog glob 110 (stream_blocks_res N) :=
  Contract.of (E := E_62 N) (H := t_62 N) (L := L_62) (N := N) (body := body_62) (K := (kRes (.v (.fn 123 (.pair (.ptr (.int .i64)) (.pair (.ptr .str) (.pair (.ptr .str) .unit))))) 3)) (Eok_62 N) Tryz.func110 (by kernel_rfl) (by decide) (fun _ hb => TabOk.nil) (fun x y h => by rw [link_62]; exact h) (kRes_ok (s := (.v (.fn 123 (.pair (.ptr (.int .i64)) (.pair (.ptr .str) (.pair (.ptr .str) .unit)))))) (m := 3))

noncomputable def body_63 : Code := (Tryz.f97.body).getD .skip

noncomputable def L_63 : List (List Nat × List Nat) := [([0], [2, 0, 1]), ([0, 0, 1], [10, 2, 0, 1]), ([1, 0, 1], [2, 0, 1]), ([0, 0, 1, 0, 1], [6]), ([1, 0, 1, 0, 1], [6]), ([0, 1, 1], [0, 1, 2]), ([0, 1, 1, 1], [0, 1, 2, 7]), ([0, 0, 1, 1, 1, 1], [16, 7, 2]), (PQ34, [7, 2]), (PQ64, [8, 7, 2]), ([0, 1, 0, 1, 0, 1, 1, 1, 1], [7, 2]), (PQ125, [7, 2]), ([1, 0, 1, 1, 1, 1], [7, 2]), ([0, 1, 1, 1, 1, 1], [6]), ([1, 1, 1, 1, 1, 1], [6])]

noncomputable def E_63 (N : Nat) : Env := mkEnv tys glob [(110, stream_blocks_res N), (77, strings_Builder_WriteString_res N), (78, str_res)] [] [] [] false [(7, TT14)] [(123, stream_blocks1_itr N), (66, chain_along1_itr N), (98, hmac_framed1_itr N)]

theorem Eok_63 (N : Nat) : EnvOk Tryz.prog (E_63 N) := mkEnv_ok mixed tys_ok (FnsOk.cons (stream_blocks_ct N) (FnsOk.cons (strings_Builder_WriteString_ct N) (FnsOk.cons (str_ct glob) (FnsOk.nil)))) (ItsOk.cons (stream_blocks1_it N) (ItsOk.cons (chain_along1_it N) (ItsOk.cons (hmac_framed1_it N) (ItsOk.nil))))

noncomputable def stream_Take_s1 (N : Nat) (n_1 : Int) (out_1 : DT17) (y : DT11) (rec : DT17 → Option (List UInt8)) (k0 : DT17 → Option (List UInt8)) : Option (List UInt8) :=
 (strings_Builder_WriteString N out_1 y.1).bind fun y1 =>
 rec y1.2.1

noncomputable def stream_Take_fit1 (N : Nat) (n : Int) (out : DT17) (x16 : (Int × DT8)) : Option (List DT11) := (stream_blocks1 N x16.1 x16.2.1 x16.2.2.1)

noncomputable def stream_Take_i1 (N : Nat) (n : Int) (out : DT17) (x16 : (Int × DT8)) : Int := n

noncomputable def stream_Take_v1 (N : Nat) (n : Int) (out : DT17) (x16 : (Int × DT8)) : DT17 := out

noncomputable def stream_Take_p1 (N : Nat) (n : Int) (out : DT17) (x16 : (Int × DT8)) (k0 : DT17 → Option (List UInt8)) : Option (List UInt8) :=
 (stream_Take_fit1 N n out x16).bind fun ys => iterL (fun (y : DT11) (v : DT17) r => stream_Take_s1 N n v y (fun out_1 => (r out_1)) k0) (fun (v : DT17) => k0 v) ys out

noncomputable def g1_63 (N : Nat) (y : DT11) (i : Int) (v : DT17) (r : DT17 → Option (List UInt8)) (K : Ex → List A → Option (List UInt8)) : Option (List UInt8) :=
 stream_Take_s1 N i v y (fun out_1 => (r out_1)) (fun a1 => (K .normal (mkS [(2, .v (.int .i64)), (4, .box TT14)] 15 (i, a1, ()))))

noncomputable def h1_63 (N : Nat) : Hd (List UInt8) := fun st K => (unS [(2, .v (.int .i64)), (4, .box TT14), (8, .v (.fn 123 (.pair (.ptr (.int .i64)) (.pair (.ptr .str) (.pair (.ptr .str) .unit)))))] 6 (restr [16, 7, 2] 0 st)).bind fun x => ((fun x => stream_Take_fit1 N x.1 x.2.1 x.2.2.1) x).bind fun xs => iterL (fun y v r => g1_63 N y ((fun x => stream_Take_i1 N x.1 x.2.1 x.2.2.1) x) v r K) (fun v => K .normal (mkS [(2, .v (.int .i64)), (4, .box TT14)] 15 ((fun i v => (i, v, ())) ((fun x => stream_Take_i1 N x.1 x.2.1 x.2.2.1) x) v))) xs ((fun x => stream_Take_v1 N x.1 x.2.1 x.2.2.1) x)

theorem ok1_63 {N : Nat} {c : Ctx} (hb : Base Tryz.prog (E_63 N) c) : CodeOk Tryz.prog c (nodeAt body_63 PQ34) (h1_63 N) :=
  rf_ok (ts := [.str]) (s := [(2, .v (.int .i64)), (4, .box TT14), (8, .v (.fn 123 (.pair (.ptr (.int .i64)) (.pair (.ptr .str) (.pair (.ptr .str) .unit)))))]) (m := 6) (s2 := [(2, .v (.int .i64)), (4, .box TT14)]) (m2 := 15) [16, 7, 2] (fun x => stream_Take_fit1 N x.1 x.2.1 x.2.2.1) (fun x => stream_Take_i1 N x.1 x.2.1 x.2.2.1) (fun x => stream_Take_v1 N x.1 x.2.1 x.2.2.1) (fun i v => (i, v, ())) (rfF (E_63 N) N [.str] (nodeAt body_63 PQ34)) (g1_63 N) (evN_sound hb N [] L_63 body_63 TabOk.nil PQ34 _ rfl) (fun x K => by kernel_rfl) (fun y i v r K => by kernel_rfl)

noncomputable def stream_Take (N : Nat) (key : (List UInt8)) (nonce : (List UInt8)) (n : Int) : Option (List UInt8) :=
 cond (decide (n < (1 : Int)))
 (some ([] : List UInt8))
 (stream_Take_p1 N (if ((65536 : Int) < n) then (65536 : Int) else n) ((), (([] : List Int), ())) ((if ((65536 : Int) < n) then (65536 : Int) else n), (key, (nonce, ())))
 (fun out_1 => (str_F (out_1, ())).bind fun y =>
 cond (decide (((0 : Int) ≤ (if ((65536 : Int) < n) then (65536 : Int) else n)) ∧ ((if ((65536 : Int) < n) then (65536 : Int) else n) ≤ (((List.length y.1) : Nat) : Int))))
 (some (cut y.1 0 (Int.toNat (if ((65536 : Int) < n) then (65536 : Int) else n))))
 (none)))

noncomputable def t_63 (N : Nat) : Tab (List UInt8) := [(PQ34, h1_63 N)]

theorem link_63 (N : Nat) (x : denS SQ3) : evFX (E_63 N) N (t_63 N) L_63 Tryz.f97 (mkS SQ3 0 x) (kRes (.v .str) 3) = stream_Take N x.1 x.2.1 x.2.2.1 := by kernel_rfl

noncomputable def stream_Take_res (N : Nat) : List A → Res := resOf SQ3 (fun x => stream_Take N x.1 x.2.1 x.2.2.1) (oRes (.v .str) 3)

theorem stream_Take_ct (N : Nat) : Contract Tryz.prog glob 97 (stream_Take_res N) :=
  Contract.of (E := E_63 N) (H := t_63 N) (L := L_63) (N := N) (body := body_63) (K := (kRes (.v .str) 3)) (Eok_63 N) Tryz.func97 (by kernel_rfl) (by decide) (fun _ hb => (TabOk.cons (ok1_63 hb) TabOk.nil)) (fun x y h => by rw [link_63]; exact h) (kRes_ok (s := (.v .str)) (m := 3))

noncomputable def body_64 : Code := (Tryz.f73.body).getD .skip

noncomputable def L_64 : List (List Nat × List Nat) := [([0], [2, 0, 1]), ([0, 0, 1], [9, 2, 0, 1]), ([1, 0, 1], [2, 0, 1]), ([0, 0, 1, 0, 1], [6]), ([1, 0, 1, 0, 1], [6]), ([0, 1, 1], [6]), ([1, 1, 1], [6])]

noncomputable def E_64 (N : Nat) : Env := mkEnv tys glob [(97, stream_Take_res N), (96, octet_Xor_res N)] [] [] [] false [] [(123, stream_blocks1_itr N), (66, chain_along1_itr N), (98, hmac_framed1_itr N)]

theorem Eok_64 (N : Nat) : EnvOk Tryz.prog (E_64 N) := mkEnv_ok mixed tys_ok (FnsOk.cons (stream_Take_ct N) (FnsOk.cons (octet_Xor_ct N) (FnsOk.nil))) (ItsOk.cons (stream_blocks1_it N) (ItsOk.cons (chain_along1_it N) (ItsOk.cons (hmac_framed1_it N) (ItsOk.nil))))

noncomputable def stream_Mix (N : Nat) (key : (List UInt8)) (nonce : (List UInt8)) (text : (List UInt8)) : Option (List UInt8) :=
 cond (decide ((65536 : Int) < (((List.length text) : Nat) : Int)))
 (some ([] : List UInt8))
 ((stream_Take N key nonce (((List.length text) : Nat) : Int)).bind fun y =>
 (octet_Xor N text y).bind fun y1 =>
 some y1)

noncomputable def t_64 (N : Nat) : Tab (List UInt8) := []

theorem link_64 (N : Nat) (x : denS SQ2) : evFX (E_64 N) N (t_64 N) L_64 Tryz.f73 (mkS SQ2 0 x) (kRes (.v .str) 3) = stream_Mix N x.1 x.2.1 x.2.2.1 := by kernel_rfl

noncomputable def stream_Mix_res (N : Nat) : List A → Res := resOf SQ2 (fun x => stream_Mix N x.1 x.2.1 x.2.2.1) (oRes (.v .str) 3)

theorem stream_Mix_ct (N : Nat) : Contract Tryz.prog glob 73 (stream_Mix_res N) :=
  Contract.of (E := E_64 N) (H := t_64 N) (L := L_64) (N := N) (body := body_64) (K := (kRes (.v .str) 3)) (Eok_64 N) Tryz.func73 (by kernel_rfl) (by decide) (fun _ hb => TabOk.nil) (fun x y h => by rw [link_64]; exact h) (kRes_ok (s := (.v .str)) (m := 3))

noncomputable def body_65 : Code := (Tryz.f101.body).getD .skip

noncomputable def L_65 : List (List Nat × List Nat) := [([0], [5, 1, 2, 3, 0]), ([1], [0, 1, 2, 3]), ([0, 1], [0, 1, 2, 3])]

noncomputable def E_65 (N : Nat) : Env := mkEnv tys glob [(73, stream_Mix_res N), (102, box_Nonce_res N), (74, box_hideKey_res N)] [] [] [0, 1, 2, 3] false [] [(123, stream_blocks1_itr N), (66, chain_along1_itr N), (98, hmac_framed1_itr N)]

theorem Eok_65 (N : Nat) : EnvOk Tryz.prog (E_65 N) := mkEnv_ok mixed tys_ok (FnsOk.cons (stream_Mix_ct N) (FnsOk.cons (box_Nonce_ct N) (FnsOk.cons (box_hideKey_ct N) (FnsOk.nil)))) (ItsOk.cons (stream_blocks1_it N) (ItsOk.cons (chain_along1_it N) (ItsOk.cons (hmac_framed1_it N) (ItsOk.nil))))

noncomputable def box_Open1 (N : Nat) (x0 : Int) (x1 : (List UInt8)) (x2 : (List UInt8)) (x3 : (List UInt8)) : Option ((Unit) × (Int × (List UInt8) × (List UInt8) × (List UInt8) × Unit)) :=
 cond (x0 == (0 : Int))
 ((box_hideKey N x1).bind fun y =>
 (box_Nonce N x2).bind fun y1 =>
 cond (decide (((0 : Int) ≤ (IntKind.wrap IntKind.i64 ((((List.length x2) : Nat) : Int) - (32 : Int)))) ∧ ((IntKind.wrap IntKind.i64 ((((List.length x2) : Nat) : Int) - (32 : Int))) ≤ (((List.length x2) : Nat) : Int))))
 (cond (decide (((0 : Int) ≤ (16 : Int)) ∧ ((16 : Int) ≤ (IntKind.wrap IntKind.i64 ((((List.length x2) : Nat) : Int) - (32 : Int))))))
 ((stream_Mix N y y1 (cut x2 16 (Int.toNat (IntKind.wrap IntKind.i64 ((((List.length x2) : Nat) : Int) - (32 : Int)))))).bind fun y2 =>
 some ((), (x0, (x1, (x2, (y2, ()))))))
 (none))
 (none))
 (some ((), (x0, (x1, (x2, (x3, ()))))))

noncomputable def t_65 (N : Nat) : Tab ((Unit) × (Int × (List UInt8) × (List UInt8) × (List UInt8) × Unit)) := []

theorem link_65 (N : Nat) (x : denS SQ6) : evFX (E_65 N) N (t_65 N) L_65 Tryz.f101 (mkS SQ6 0 x) (kResB (.tup []) SQ6 0) = box_Open1 N x.1 x.2.1 x.2.2.1 x.2.2.2.1 := by kernel_rfl

noncomputable def box_Open1_res (N : Nat) : List A → Res := resOf SQ6 (fun x => box_Open1 N x.1 x.2.1 x.2.2.1 x.2.2.2.1) (oResB (.tup []) SQ6 0)

theorem box_Open1_ctd (N : Nat) : ContractD Tryz.prog glob 101 (box_Open1_res N) :=
  ContractD.of (E := E_65 N) (H := t_65 N) (L := L_65) (N := N) (body := body_65) (K := (kResB (.tup []) SQ6 0)) (Eok_65 N) Tryz.func101 (by kernel_rfl) (by decide) (fun _ hb => TabOk.nil) (fun x y h => by rw [link_65]; exact h) (kResB_ok (s := (.tup [])) (os := SQ6) (m := 0))

noncomputable def body_66 : Code := (Tryz.f75.body).getD .skip

noncomputable def L_66 : List (List Nat × List Nat) := [([0], [0, 1]), ([0, 1], [4]), ([1, 1], [4])]

noncomputable def E_66 (N : Nat) : Env := mkEnv tys glob [(45, hmac_Parts_res N), (72, hmac_Sum_res N)] [] [] [] false [] [(123, stream_blocks1_itr N), (66, chain_along1_itr N), (98, hmac_framed1_itr N)]

theorem Eok_66 (N : Nat) : EnvOk Tryz.prog (E_66 N) := mkEnv_ok mixed tys_ok (FnsOk.cons (hmac_Parts_ct N) (FnsOk.cons (hmac_Sum_ct N) (FnsOk.nil))) (ItsOk.cons (stream_blocks1_it N) (ItsOk.cons (chain_along1_it N) (ItsOk.cons (hmac_framed1_it N) (ItsOk.nil))))

noncomputable def box_tag (N : Nat) (key : (List UInt8)) (body : (List UInt8)) : Option (List UInt8) :=
 (hmac_Parts N key ([([(116 : UInt8), (97 : UInt8), (103 : UInt8)] : List UInt8)] : List (List UInt8))).bind fun y =>
 (hmac_Sum N y body).bind fun y1 =>
 some y1

noncomputable def t_66 (N : Nat) : Tab (List UInt8) := []

theorem link_66 (N : Nat) (x : denS SQ0) : evFX (E_66 N) N (t_66 N) L_66 Tryz.f75 (mkS SQ0 0 x) (kRes (.v .str) 2) = box_tag N x.1 x.2.1 := by kernel_rfl

noncomputable def box_tag_res (N : Nat) : List A → Res := resOf SQ0 (fun x => box_tag N x.1 x.2.1) (oRes (.v .str) 2)

theorem box_tag_ct (N : Nat) : Contract Tryz.prog glob 75 (box_tag_res N) :=
  Contract.of (E := E_66 N) (H := t_66 N) (L := L_66) (N := N) (body := body_66) (K := (kRes (.v .str) 2)) (Eok_66 N) Tryz.func75 (by kernel_rfl) (by decide) (fun _ hb => TabOk.nil) (fun x y h => by rw [link_66]; exact h) (kRes_ok (s := (.v .str)) (m := 2))

noncomputable def body_67 : Code := (Tryz.f103.body).getD .skip

noncomputable def L_67 : List (List Nat × List Nat) := [([0], [1, 0]), ([0, 0, 1], [8, 1, 0]), ([1, 0, 1], [1, 0]), ([0, 0, 1, 0, 1], [4]), ([1, 0, 1, 0, 1], [4]), ([0, 0, 1, 1], [11, 1, 0]), ([1, 0, 1, 1], [1, 0]), ([0, 0, 1, 0, 1, 1], [4]), ([1, 0, 1, 0, 1, 1], [4]), ([0, 1, 1, 1], [1, 5, 0]), ([0, 0, 1, 1, 1, 1], [24]), ([1, 0, 1, 1, 1, 1], []), (PQ64, [4]), (PQ125, [4]), ([0, 1, 1, 1, 1, 1], [4]), ([1, 1, 1, 1, 1, 1], [4])]

noncomputable def E_67 (N : Nat) : Env := mkEnv tys glob [(75, box_tag_res N), (57, hmac_Same_res N)] [] [] [] false [] [(123, stream_blocks1_itr N), (66, chain_along1_itr N), (98, hmac_framed1_itr N)]

theorem Eok_67 (N : Nat) : EnvOk Tryz.prog (E_67 N) := mkEnv_ok mixed tys_ok (FnsOk.cons (box_tag_ct N) (FnsOk.cons (hmac_Same_ct N) (FnsOk.nil))) (ItsOk.cons (stream_blocks1_it N) (ItsOk.cons (chain_along1_it N) (ItsOk.cons (hmac_framed1_it N) (ItsOk.nil))))

noncomputable def box_check (N : Nat) (key : (List UInt8)) (s : (List UInt8)) : Option Int :=
 cond (decide ((((List.length s) : Nat) : Int) < (48 : Int)))
 (some (1 : Int))
 (cond (decide ((4144 : Int) < (((List.length s) : Nat) : Int)))
 (some (3 : Int))
 (cond (decide (((0 : Int) ≤ (IntKind.wrap IntKind.i64 ((((List.length s) : Nat) : Int) - (32 : Int)))) ∧ ((IntKind.wrap IntKind.i64 ((((List.length s) : Nat) : Int) - (32 : Int))) ≤ (((List.length s) : Nat) : Int))))
 (cond (decide (((0 : Int) ≤ (IntKind.wrap IntKind.i64 ((((List.length s) : Nat) : Int) - (32 : Int)))) ∧ ((IntKind.wrap IntKind.i64 ((((List.length s) : Nat) : Int) - (32 : Int))) ≤ (((List.length s) : Nat) : Int))))
 ((box_tag N key (cut s 0 (Int.toNat (IntKind.wrap IntKind.i64 ((((List.length s) : Nat) : Int) - (32 : Int)))))).bind fun y =>
 (hmac_Same N (cut s (Int.toNat (IntKind.wrap IntKind.i64 ((((List.length s) : Nat) : Int) - (32 : Int)))) (List.length s)) y).bind fun y1 =>
 cond (!y1)
 (some (8 : Int))
 (some (0 : Int)))
 (none))
 (none)))

noncomputable def t_67 (N : Nat) : Tab Int := []

theorem link_67 (N : Nat) (x : denS SQ0) : evFX (E_67 N) N (t_67 N) L_67 Tryz.f103 (mkS SQ0 0 x) (kRes (.v (.int .i64)) 2) = box_check N x.1 x.2.1 := by kernel_rfl

noncomputable def box_check_res (N : Nat) : List A → Res := resOf SQ0 (fun x => box_check N x.1 x.2.1) (oRes (.v (.int .i64)) 2)

theorem box_check_ct (N : Nat) : Contract Tryz.prog glob 103 (box_check_res N) :=
  Contract.of (E := E_67 N) (H := t_67 N) (L := L_67) (N := N) (body := body_67) (K := (kRes (.v (.int .i64)) 2)) (Eok_67 N) Tryz.func103 (by kernel_rfl) (by decide) (fun _ hb => TabOk.nil) (fun x y h => by rw [link_67]; exact h) (kRes_ok (s := (.v (.int .i64))) (m := 2))

noncomputable def box_Open (N : Nat) (key s : List UInt8) : Option (List UInt8 × Int × Unit) :=
 (box_check N key s).bind fun e => (box_Open1 N e key s []).bind fun y => some (y.2.2.2.2.1, y.2.1, ())

noncomputable def box_Open_res (N : Nat) : List A → Res := resOf SQ0 (fun x => box_Open N x.1 x.2.1) (oRes (.tup [.str, (.int .i64)]) 2)

end Go.Proofs.YtkipbccgnekoaaaGreatDoorLg
