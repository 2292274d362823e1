import Derived.Test.YtkipbccgnekoaaaGreatDoorLgPrPre1
import Derived.Test.YtkipbccgnekoaaaGreatDoorLgPrPre2
import Derived.Test.YtkipbccgnekoaaaGreatDoorLgPrPre3
import Derived.WalkKit
import Derived.Tactics
import Derived.Tactics2
import Derived.Defers
import Derived.Lib.Hide
import Derived.Below
import Derived.Recover
import Derived.Orders
import Derived.WalkSmall
import Derived.LoopN
import Derived.Deep.RegionHeld3
import Derived.Laws.IdiomStrings
import Derived.Test.YtkipbccgnekoaaaGreatDoorLgW
import Derived.Test.YtkipbccgnekoaaaGreatDoorChecked
import Derived.KernelRfl
set_option linter.all false
set_option maxRecDepth 100000
namespace Go.Proofs.YtkipbccgnekoaaaGreatDoorLg
noncomputable section
open Go Go.Lift
abbrev TT0 : T := (.pair .str (.pair (.sl (.pair .str (.pair .str .unit))) (.pair .str .unit)))
abbrev DT1 : Type := ((List UInt8) × ((List ((List UInt8) × ((List UInt8) × Unit))) × ((List UInt8) × Unit)))
abbrev DT2 : Type := ((DT1 × ((List DT1) × Unit)) × ((List Bool) × ((List ((List ((List UInt8) × ((List UInt8) × Unit))) × ((List (List UInt8)) × Unit))) × ((List (List UInt8)) × (Int × Unit)))))
abbrev TT3 : T := (.pair (.pair TT0 (.pair (.sl TT0) .unit)) (.pair (.own .bool) (.pair (.own (.pair (.sl (.pair .str (.pair .str .unit))) (.pair (.sl .str) .unit))) (.pair (.own .str) (.pair (.int .i64) .unit)))))
abbrev TT5 : T := (.pair (.sl .bool) (.pair (.sl .str) (.pair (.int .i64) (.pair (.int .i64) (.pair (.sl .str) .unit)))))
abbrev TT6 : T := (.pair .bool (.pair (.arr 8 (.int .u32)) (.pair .str (.pair (.int .i64) .unit))))
abbrev TT7 : T := (.pair TT0 (.pair (.sl TT0) .unit))
abbrev DT8 : Type := ((List UInt8) × ((List UInt8) × Unit))
abbrev DT9 : Type := (Bool × ((List Int) × ((List UInt8) × (Int × Unit))))
abbrev zk3 : T := (.pair .str (.pair .str .unit))
abbrev z6w : Type := ((List UInt8) × Unit)
abbrev zk4 : Type := ((List UInt8) × (List UInt8) × Int × Unit)
abbrev z1wu : Type := (DT1 × ((List DT1) × Unit))
abbrev zuh : T := (.pair (.self 114) (.pair (.own (.byt 5)) .unit))
abbrev z1bt : T := (.pair (.ptr .str) (.pair (.ptr (.sl zk3)) (.pair (.ptr (.fn 41 .unit)) .unit)))
abbrev zlu : Type := ((List UInt8) × (DT9 × Unit))
abbrev zlt : Type := (Unit × ((List Int) × Unit))
abbrev zz5 : List Nat := [18,17,3,9,4,8]
abbrev z166 : List Nat := [1,0,1,1,1,1,1]
abbrev zz6 : List Nat := [15,14,13,3,5,0]
abbrev z1tl : List Nat := [0,1,1,1,1,1,1]
abbrev z1tm : List Nat := [0,0,1,1,1,1,1]
abbrev z1bu : List Nat := [0,0,1,0,1,1,1]
abbrev z163 : List Nat := [35,34,33,4,5,6]
abbrev z16h : List Nat := [0,0,0,1,0,1,1]
abbrev z165 : List Nat := [0,1,0,1,1,1,1]
abbrev zz7 : List Nat := [10,2,9,1,4,3,8]
abbrev z12k : List Nat := [0,1,1,1,1,1,0,1]
abbrev z19m : List Nat := [1,0,1,0,1,1,1,1]
abbrev z1il : List Nat := [0,1,1,1,1,1,1,1]
abbrev z19j : List Nat := [63,62,61,0,9,8,7]
abbrev z1k0 : List Nat := [0,0,1,0,1,1,1,1]
abbrev z19k : List Nat := [0,1,0,1,1,1,1,1]
abbrev z1if : List Nat := [1,1,0,0,1,0,1,1]
abbrev z1ig : List Nat := [1,0,0,0,1,0,1,1]
abbrev z1ih : List Nat := [0,0,0,0,1,0,1,1]
abbrev PQ9 : List Nat := [0,1,0,0,1,0,1,1]
abbrev z1ia : List (Nat × AS) := [(0,.v TT0),(0,.v TT0)]
abbrev z168 : List Nat := [0,0,1,0,1,1,1,1,1]
abbrev z1tn : List Nat := [1,1,0,0,1,0,1,1,1]
abbrev z1to : List Nat := [1,0,0,0,1,0,1,1,1]
abbrev z1tp : List Nat := [0,0,0,0,1,0,1,1,1]
abbrev z1k1 : List Nat := [1,1,1,0,0,1,0,1,1]
abbrev z1k2 : List Nat := [0,1,1,0,0,1,0,1,1]
abbrev z1k3 : List Nat := [1,0,1,0,0,1,0,1,1]
abbrev z1ii : List Nat := [1,1,0,0,0,1,0,1,1]
abbrev z1ij : List Nat := [0,1,0,0,1,0,1,1,1]
abbrev SQ28 : List (Nat × AS) := [(0,.v .str),(0,.v TT7)]
abbrev z19g : List (Nat × AS) := [(0,.v .str),(0,.v TT0)]
abbrev z12i : List (Nat × AS) := [(0,.v .str),(0,.v zk3)]
abbrev SQ0 : List (Nat × AS) := [(0,.v .str),(0,.v .str)]
abbrev z167 : List Nat := [7,8,9,10,11,5,6,0,1]
abbrev z12j : List (Nat × AS) := [(0,.box TT3),(0,.v .str)]
abbrev z1ie : List Nat := [11,7,8,9,10,5,6,0,1]
abbrev z1i5 : List (Nat × AS) := [(0,.box TT6),(0,.v .str)]
abbrev z19l : List Nat := [0,0,1,1,1,1,1,1,0,1]
abbrev z1jy : List Nat := [0,1,0,1,1,1,1,1,0,1]
abbrev PQ98 : List Nat := [1,0,0,1,0,0,1,0,1,1]
abbrev z1jr : List (Nat × AS) := [(0,.v (.arr 8 (.int .u32)))]
abbrev z1tr : List Nat := [1,1,0,0,0,1,0,1,1,1]
abbrev z19f : List (Nat × AS) := [(0,.box TT3),(6,.v .bool)]
abbrev z1ts : List Nat := [0,0,0,1,0,0,1,0,1,1]
abbrev z1jz : List Nat := [0,1,0,0,1,1,0,0,1,0,1]
abbrev z1tq : List Nat := [1,0,0,1,1,0,0,1,0,1,1]
abbrev PQ54 : List Nat := [0,0,0,1,0,0,1,0,1,1,1]
abbrev z1k4 : List Nat := [0,0,0,1,1,0,0,1,0,1,1]
abbrev z1js : List (Nat × AS) := [(0,.v .str),(0,.v (.sl .str))]
abbrev z12h : List (Nat × AS) := [(0,.v .str),(0,.v (.int .i64))]
abbrev z1ik : List Nat := [0,1,1,0,0,1,0,0,1,0,1,1]
abbrev PQ123 : List Nat := [1,0,1,0,0,1,0,0,1,0,1,1]
abbrev PQ122 : List Nat := [0,0,1,0,0,1,0,0,1,0,1,1]
abbrev z1jt : List (Nat × AS) := [(0,.v (.sl .bool)),(0,.v .bool)]
abbrev PQ84 : List Nat := [0,1,1,0,0,1,0,0,1,0,1,1,1]
abbrev z1ju : List (Nat × AS) := [(0,.v (.pair zk3 (.pair TT0 .unit)))]
abbrev z19h : List (Nat × AS) := [(0,.v (.int .u32)),(0,.v (.int .i64))]
abbrev SQ2 : List (Nat × AS) := [(0,.v .str),(0,.v .str),(0,.v .str)]
abbrev z1jv : List (Nat × AS) := [(0,.v (.arr 8 (.int .u32))),(0,.v .str)]
abbrev z19n : List Nat := [0,1,0,0,1,1,0,0,1,0,0,1,0,1,1]
abbrev PQ85 : List Nat := [0,1,0,0,1,0,1,0,0,1,0,0,1,0,1,1]
abbrev z1i7 : List (Nat × AS) := [(4,.v .str),(0,.v .str),(0,.v (.int .i64))]
abbrev SQ3 : List (Nat × AS) := [(0,.v .str),(0,.v .str),(0,.v (.int .i64))]
abbrev z1im : List Nat := [0,1,1,0,0,1,0,0,1,0,1,1,1,1,1,0,1]
abbrev z1i8 : List (Nat × AS) := [(0,.box TT3),(6,.v .bool),(0,.v (.int .i64))]
abbrev z1i9 : List (Nat × AS) := [(0,.v (.arr 8 (.int .u32))),(0,.v (.int .u32))]
abbrev PQ75 : List Nat := [0,0,0,1,0,0,1,1,0,0,1,0,0,1,0,1,1]
abbrev z1in : List Nat := [0,0,0,1,0,0,1,0,1,0,0,1,0,0,1,0,1,1]
abbrev z1ib : List (Nat × AS) := [(0,.v TT0),(0,.v .str),(0,.v .str),(0,.v .str)]
abbrev z1ic : List (Nat × AS) := [(0,.v .str),(0,.v .str),(0,.v .str),(0,.v .str)]
abbrev SQ57 : List (Nat × AS) := [(0,.v (.int .i64)),(2,.v .str),(0,.v (.int .i64))]
abbrev z1id : List (Nat × AS) := [(0,.v (.sl .str)),(2,.row .str),(0,.v (.int .i64))]
abbrev SQ49 : List (Nat × AS) := [(2,.box (.sl .str)),(0,.box .bool),(0,.box (.own .str))]
abbrev z1jw : List (Nat × AS) := [(0,.v .str),(0,.v .str),(3,.v .str),(0,.v (.int .i64))]
abbrev SQ37 : List (Nat × AS) := [(4,.v .str),(0,.v .str),(0,.v (.int .i64)),(1,.v (.sl .str))]
abbrev z1i6 : List (Nat × AS) := [(1,.v .str),(2,.box TT0),(1,.box (.pair zk3 (.pair TT0 .unit)))]
abbrev SQ6 : List (Nat × AS) := [(0,.box (.int .i64)),(0,.box .str),(0,.box .str),(0,.box .str)]
abbrev SQ7 : List (Nat × AS) := [(0,.v (.sl .str)),(2,.row .str),(0,.v (.int .i64)),(0,.v (.int .i64))]
abbrev z1jx : List (Nat × AS) := [(4,.v .str),(0,.v .str),(0,.v (.int .i64)),(1,.v (.sl .str)),(0,.v .bool)]
abbrev z1tk : List (Nat × AS) := [(2,.box (.arr 64 (.int .u32))),(0,.box (.arr 64 (.int .u32))),(2,.v (.int .i64))]
abbrev SQ97 : List (Nat × AS) := [(0,.box TT3),(0,.v .str),(9,.v (.sl TT0)),(0,.v (.int .i64)),(0,.v (.int .i64))]
abbrev SQ96 : List (Nat × AS) := [(0,.v .str),(0,.v .str),(3,.v (.int .u8)),(7,.v (.int .i64)),(0,.v (.int .i64))]
abbrev SQ94 : List (Nat × AS) := [(0,.v .str),(0,.v .str),(3,.row (.int .u8)),(8,.v (.int .i64)),(0,.v (.int .i64))]
abbrev SQ36 : List (Nat × AS) := [(0,.v (.arr 8 (.int .u32))),(0,.v .str),(0,.v (.int .i64)),(0,.v (.sl (.int .u32)))]
abbrev SQ92 : List (Nat × AS) := [(3,.v .str),(0,.v (.sl (.int .u32))),(0,.box (.arr 8 (.int .u32))),(0,.v (.int .i64))]
abbrev SQ80 : List (Nat × AS) := [(1,.v .str),(0,.box (.arr 8 (.int .u32))),(1,.box (.arr 8 (.int .u32))),(0,.v (.int .i64))]
abbrev SQ79 : List (Nat × AS) := [(0,.v .str),(1,.box (.arr 64 (.int .u32))),(0,.box (.arr 64 (.int .u32))),(7,.v (.int .i64))]
abbrev SQ67 : List (Nat × AS) := [(0,.v (.int .u64)),(0,.v (.int .i64)),(3,.row (.int .u8)),(3,.v (.int .i64)),(0,.v (.int .i64))]
abbrev SQ58 : List (Nat × AS) := [(4,.v .str),(0,.v .str),(0,.v (.int .i64)),(26,.v (.sl .str)),(0,.v (.int .i64)),(0,.v (.int .i64))]
abbrev SQ56 : List (Nat × AS) := [(3,.v (.sl (.int .u32))),(0,.box (.arr 8 (.int .u32))),(3,.box (.arr 8 (.int .u32))),(0,.row (.int .u32))]
abbrev SQ4 : List (Nat × AS) := [(1,.v .str),(0,.v .str),(0,.v .str),(0,.box TT0),(3,.box TT0),(1,.box (.pair zk3 (.pair TT0 .unit)))]
abbrev SQ53 : List (Nat × AS) := [(4,.box (.arr 8 (.int .u32))),(3,.box (.arr 8 (.int .u32))),(8,.box (.arr 8 (.int .u32))),(6,.v (.int .i64))]
abbrev SQ52 : List (Nat × AS) := [(2,.box (.arr 8 (.int .u32))),(1,.box (.arr 8 (.int .u32))),(1,.box (.arr 8 (.int .u32))),(22,.v (.int .i64))]
abbrev SQ19 : List (Nat × AS) := [(0,.box TT3),(0,.v .str),(3,.v (.int .i64)),(0,.box TT0),(4,.v (.sl TT0)),(0,.v (.int .i64)),(0,.v (.int .i64))]
abbrev SQ39 : List (Nat × AS) := [(3,.v (.sl (.int .u32))),(0,.box (.arr 8 (.int .u32))),(3,.box (.arr 8 (.int .u32))),(0,.row (.int .u32)),(2,.v (.int .i64))]
abbrev SQ32 : List (Nat × AS) := [(2,.box (.arr 8 (.int .u32))),(1,.box (.arr 8 (.int .u32))),(0,.box (.arr 64 (.int .u32))),(0,.box (.arr 8 (.int .u32))),(9,.v (.int .i64))]
abbrev SQ25 : List (Nat × AS) := [(3,.v (.sl (.int .u32))),(0,.box (.arr 8 (.int .u32))),(3,.box (.arr 8 (.int .u32))),(0,.row (.int .u32)),(7,.box (.arr 8 (.int .u32))),(0,.v (.int .i64))]
abbrev SQ1 : List (Nat × AS) := [(0,.v .str),(0,.v .str),(3,.v .str),(0,.v (.int .i64)),(0,.v (.int .i64)),(0,.v (.int .i64)),(0,.v (.int .i64)),(0,.v (.int .i64)),(0,.v (.int .i64))]
abbrev SQ24 : List (Nat × AS) := [(0,.box TT3),(6,.v .bool),(0,.v (.int .i64)),(0,.box (.pair (.sl zk3) (.pair (.sl .str) .unit))),(51,.v (.sl zk3)),(0,.v (.int .i64)),(0,.v (.int .i64))]
abbrev SQ23 : List (Nat × AS) := [(1,.v .str),(0,.v (.int .i64)),(0,.v (.sl (.int .u32))),(0,.box (.arr 8 (.int .u32))),(3,.box (.arr 8 (.int .u32))),(0,.row (.int .u32)),(0,.v (.int .i64))]
def ty3 : TyI := ⟨(Go.TypeDesc.int IntKind.i64),1,8,(.int .i64),(0 : Int),false⟩
theorem z1ke : TyOk Tryz.prog 3 ty3 := TyOk.of (by kernel_rfl) (by kernel_rfl) (by kernel_rfl) (by kernel_rfl)
def ty4 : TyI := ⟨Go.TypeDesc.bool,1,1,.bool,false,false⟩
theorem z1kd : TyOk Tryz.prog 4 ty4 := TyOk.of (by kernel_rfl) (by kernel_rfl) (by kernel_rfl) (by kernel_rfl)
def ty5 : TyI := ⟨(Go.TypeDesc.int IntKind.u8),1,1,(.int .u8),(0 : Int),false⟩
theorem z1kc : TyOk Tryz.prog 5 ty5 := TyOk.of (by kernel_rfl) (by kernel_rfl) (by kernel_rfl) (by kernel_rfl)
def ty9 : TyI := ⟨Go.TypeDesc.string,1,16,.str,([] : List UInt8),false⟩
theorem z1kb : TyOk Tryz.prog 9 ty9 := TyOk.of (by kernel_rfl) (by kernel_rfl) (by kernel_rfl) (by kernel_rfl)
def ty22 : TyI := ⟨(Go.TypeDesc.slice 67),1,24,(.sl zk3),([] : List DT8),false⟩
theorem z1cj : TyOk Tryz.prog 22 ty22 := TyOk.of (by kernel_rfl) (by kernel_rfl) (by kernel_rfl) (by kernel_rfl)
def ty24 : TyI := ⟨(Go.TypeDesc.struct (List.toArray ([(Go.Field.mk "ID" 9 0 false "" "" 0), (Go.Field.mk "Links" 22 1 false "" "" 16), (Go.Field.mk "Tag" 9 2 false "" "" 40)] : List Go.Field))), 3, 56, TT0, (([] : List UInt8), ([] : List DT8), ([] : List UInt8), ()), true⟩
theorem z1ci : TyOk Tryz.prog 24 ty24 := TyOk.of (by kernel_rfl) (by kernel_rfl) (by kernel_rfl) (by kernel_rfl)
def ty25 : TyI := ⟨(Go.TypeDesc.slice 24),1,24,(.sl TT0),([] : List DT1),false⟩
theorem z1ch : TyOk Tryz.prog 25 ty25 := TyOk.of (by kernel_rfl) (by kernel_rfl) (by kernel_rfl) (by kernel_rfl)
def ty27 : TyI := ⟨(Go.TypeDesc.struct (List.toArray ([(Go.Field.mk "Token" 24 0 false "" "" 0), (Go.Field.mk "More" 25 3 false "" "" 56)] : List Go.Field))), 4, 80, TT7, ((([] : List UInt8), ([] : List DT8), ([] : List UInt8), ()), ([] : List DT1), ()), true⟩
theorem z1cg : TyOk Tryz.prog 27 ty27 := TyOk.of (by kernel_rfl) (by kernel_rfl) (by kernel_rfl) (by kernel_rfl)
def ty30 : TyI := ⟨(Go.TypeDesc.slice 9),1,24,(.sl .str),([] : List (List UInt8)),false⟩
theorem z1cf : TyOk Tryz.prog 30 ty30 := TyOk.of (by kernel_rfl) (by kernel_rfl) (by kernel_rfl) (by kernel_rfl)
def ty31 : TyI := ⟨(Go.TypeDesc.int IntKind.i64),1,8,(.int .i64),(0 : Int),false⟩
theorem z1ce : TyOk Tryz.prog 31 ty31 := TyOk.of (by kernel_rfl) (by kernel_rfl) (by kernel_rfl) (by kernel_rfl)
def ty34 : TyI := ⟨(Go.TypeDesc.slice 4),1,24,(.sl .bool),([] : List Bool),false⟩
theorem z1cd : TyOk Tryz.prog 34 ty34 := TyOk.of (by kernel_rfl) (by kernel_rfl) (by kernel_rfl) (by kernel_rfl)
def ty36 : TyI := ⟨(Go.TypeDesc.struct (List.toArray ([(Go.Field.mk "Used" 34 0 false "" "" 0), (Go.Field.mk "Texts" 30 1 false "" "" 24), (Go.Field.mk "Work" 3 2 false "" "" 48), (Go.Field.mk "E" 31 3 false "" "" 56), (Go.Field.mk "Summed" 30 4 false "" "" 64)] : List Go.Field))), 5, 88, TT5, (([] : List Bool), ([] : List (List UInt8)), (0 : Int), (0 : Int), ([] : List (List UInt8)), ()), true⟩
theorem z1cc : TyOk Tryz.prog 36 ty36 := TyOk.of (by kernel_rfl) (by kernel_rfl) (by kernel_rfl) (by kernel_rfl)
def ty42 : TyI := ⟨(Go.TypeDesc.func (List.toArray ([24] : List Nat)) (List.toArray ([4] : List Nat)) false),1,8,.opq,Go.Value.nilFunc,false⟩
theorem z1cb : TyOk Tryz.prog 42 ty42 := TyOk.of (by kernel_rfl) (by kernel_rfl) (by kernel_rfl) (by kernel_rfl)
def ty58 : TyI := ⟨(Go.TypeDesc.pointer 63),1,8,.opq,(Go.Value.pointer none),false⟩
theorem z1ca : TyOk Tryz.prog 58 ty58 := TyOk.of (by kernel_rfl) (by kernel_rfl) (by kernel_rfl) (by kernel_rfl)
def ty61 : TyI := ⟨(Go.TypeDesc.slice 97),1,24,(.sl (.pair (.sl zk3) (.pair (.sl .str) .unit))),([] : List ((List DT8) × ((List (List UInt8)) × Unit))),false⟩
theorem z1c9 : TyOk Tryz.prog 61 ty61 := TyOk.of (by kernel_rfl) (by kernel_rfl) (by kernel_rfl) (by kernel_rfl)
def ty63 : TyI := ⟨(Go.TypeDesc.struct (List.toArray ([(Go.Field.mk "b" 27 0 false "" "porter/verify" 0), (Go.Field.mk "used" 34 4 false "" "porter/verify" 80), (Go.Field.mk "list" 61 5 false "" "porter/verify" 104), (Go.Field.mk "texts" 30 6 false "" "porter/verify" 128), (Go.Field.mk "work" 3 7 false "" "porter/verify" 152)] : List Go.Field))), 8, 160, (.pair TT7 (.pair (.sl .bool) (.pair (.sl (.pair (.sl zk3) (.pair (.sl .str) .unit))) (.pair (.sl .str) (.pair (.int .i64) .unit))))), (((([] : List UInt8), ([] : List DT8), ([] : List UInt8), ()), ([] : List DT1), ()), ([] : List Bool), ([] : List ((List DT8) × ((List (List UInt8)) × Unit))), ([] : List (List UInt8)), (0 : Int), ()), true⟩
theorem z1c8 : TyOk Tryz.prog 63 ty63 := TyOk.of (by kernel_rfl) (by kernel_rfl) (by kernel_rfl) (by kernel_rfl)
def ty64 : TyI := ⟨(Go.TypeDesc.slice 30),1,24,(.sl (.sl .str)),([] : List (List (List UInt8))),false⟩
theorem z1c7 : TyOk Tryz.prog 64 ty64 := TyOk.of (by kernel_rfl) (by kernel_rfl) (by kernel_rfl) (by kernel_rfl)
def ty67 : TyI := ⟨(Go.TypeDesc.struct (List.toArray ([(Go.Field.mk "Text" 9 0 false "" "" 0), (Go.Field.mk "Seal" 9 1 false "" "" 16)] : List Go.Field))), 2, 32, zk3, (([] : List UInt8), ([] : List UInt8), ()), true⟩
theorem z12t : TyOk Tryz.prog 67 ty67 := TyOk.of (by kernel_rfl) (by kernel_rfl) (by kernel_rfl) (by kernel_rfl)
def ty76 : TyI := ⟨(Go.TypeDesc.func (List.toArray ([103] : List Nat)) (List.toArray ([] : List Nat)) false),1,8,.opq,Go.Value.nilFunc,false⟩
theorem z1c6 : TyOk Tryz.prog 76 ty76 := TyOk.of (by kernel_rfl) (by kernel_rfl) (by kernel_rfl) (by kernel_rfl)
def ty78 : TyI := ⟨Go.TypeDesc.string,1,16,.str,([] : List UInt8),false⟩
theorem z1c5 : TyOk Tryz.prog 78 ty78 := TyOk.of (by kernel_rfl) (by kernel_rfl) (by kernel_rfl) (by kernel_rfl)
def ty79 : TyI := ⟨(Go.TypeDesc.func (List.toArray ([78,67] : List Nat)) (List.toArray ([78] : List Nat)) false),1,8,.opq,Go.Value.nilFunc,false⟩
theorem z1c4 : TyOk Tryz.prog 79 ty79 := TyOk.of (by kernel_rfl) (by kernel_rfl) (by kernel_rfl) (by kernel_rfl)
def ty89 : TyI := ⟨(Go.TypeDesc.struct (List.toArray ([(Go.Field.mk "Link" 67 0 true "" "" 0), (Go.Field.mk "to" 24 2 false "" "porter/holder" 32)] : List Go.Field))), 5, 88, (.pair zk3 (.pair TT0 .unit)), ((([] : List UInt8), ([] : List UInt8), ()), (([] : List UInt8), ([] : List DT8), ([] : List UInt8), ()), ()), true⟩
theorem z1c3 : TyOk Tryz.prog 89 ty89 := TyOk.of (by kernel_rfl) (by kernel_rfl) (by kernel_rfl) (by kernel_rfl)
def ty97 : TyI := ⟨(Go.TypeDesc.struct (List.toArray ([(Go.Field.mk "links" 22 0 false "" "porter/verify" 0), (Go.Field.mk "tags" 30 1 false "" "porter/verify" 24)] : List Go.Field))), 2, 48, (.pair (.sl zk3) (.pair (.sl .str) .unit)), (([] : List DT8), ([] : List (List UInt8)), ()), true⟩
theorem z1c2 : TyOk Tryz.prog 97 ty97 := TyOk.of (by kernel_rfl) (by kernel_rfl) (by kernel_rfl) (by kernel_rfl)
def z1kw : TyI := ⟨(Go.TypeDesc.func (List.toArray ([78] : List Nat)) (List.toArray ([4] : List Nat)) false),1,8,.opq,Go.Value.nilFunc,false⟩
theorem z173 : TyOk Tryz.prog 103 z1kw := TyOk.of (by kernel_rfl) (by kernel_rfl) (by kernel_rfl) (by kernel_rfl)
def z1kv : TyI := ⟨(Go.TypeDesc.slice 106),1,24,(.sl (.int .u32)),([] : List Int),false⟩
theorem z172 : TyOk Tryz.prog 104 z1kv := TyOk.of (by kernel_rfl) (by kernel_rfl) (by kernel_rfl) (by kernel_rfl)
def z1ku : TyI := ⟨(Go.TypeDesc.int IntKind.u32),1,4,(.int .u32),(0 : Int),false⟩
theorem z171 : TyOk Tryz.prog 106 z1ku := TyOk.of (by kernel_rfl) (by kernel_rfl) (by kernel_rfl) (by kernel_rfl)
def z1kt : TyI := ⟨(Go.TypeDesc.array 8 106),8,32,(.arr 8 (.int .u32)),([(0 : Int),(0 : Int),(0 : Int),(0 : Int),(0 : Int),(0 : Int),(0 : Int),(0 : Int)] : List Int),true⟩
theorem z170 : TyOk Tryz.prog 107 z1kt := TyOk.of (by kernel_rfl) (by kernel_rfl) (by kernel_rfl) (by kernel_rfl)
def z1ks : TyI := ⟨(Go.TypeDesc.pointer 114),1,8,.opq,(Go.Value.pointer none),false⟩
theorem z16z : TyOk Tryz.prog 111 z1ks := TyOk.of (by kernel_rfl) (by kernel_rfl) (by kernel_rfl) (by kernel_rfl)
def z1kr : TyI := ⟨(Go.TypeDesc.slice 5),1,24,(.sl (.int .u8)),([] : List Int),false⟩
theorem z16y : TyOk Tryz.prog 112 z1kr := TyOk.of (by kernel_rfl) (by kernel_rfl) (by kernel_rfl) (by kernel_rfl)
def z1kq : TyI := ⟨(Go.TypeDesc.struct (List.toArray ([(Go.Field.mk "addr" 111 0 false "" "strings" 0), (Go.Field.mk "buf" 112 1 false "" "strings" 8)] : List Go.Field))), 2, 32, (.pair .opq (.pair (.sl (.int .u8)) .unit)), ((Go.Value.pointer none), ([] : List Int), ()), true⟩
theorem z16x : TyOk Tryz.prog 114 z1kq := TyOk.of (by kernel_rfl) (by kernel_rfl) (by kernel_rfl) (by kernel_rfl)
def z1kp : TyI := ⟨(Go.TypeDesc.func (List.toArray ([134] : List Nat)) (List.toArray ([] : List Nat)) false),1,8,.opq,Go.Value.nilFunc,false⟩
theorem z16w : TyOk Tryz.prog 116 z1kp := TyOk.of (by kernel_rfl) (by kernel_rfl) (by kernel_rfl) (by kernel_rfl)
def z1ko : TyI := ⟨(Go.TypeDesc.interface (List.toArray ([("Error", 122)] : List (String × Nat)))), 1, 16, .opq, Go.Value.nilIface, false⟩
theorem z16v : TyOk Tryz.prog 119 z1ko := TyOk.of (by kernel_rfl) (by kernel_rfl) (by kernel_rfl) (by kernel_rfl)
def z1kn : TyI := ⟨(Go.TypeDesc.int IntKind.u64),1,8,(.int .u64),(0 : Int),false⟩
theorem z16u : TyOk Tryz.prog 131 z1kn := TyOk.of (by kernel_rfl) (by kernel_rfl) (by kernel_rfl) (by kernel_rfl)
def z1km : TyI := ⟨(Go.TypeDesc.int IntKind.u64),1,8,(.int .u64),(0 : Int),false⟩
theorem z16t : TyOk Tryz.prog 132 z1km := TyOk.of (by kernel_rfl) (by kernel_rfl) (by kernel_rfl) (by kernel_rfl)
def z1kl : TyI := ⟨(Go.TypeDesc.func (List.toArray ([9] : List Nat)) (List.toArray ([4] : List Nat)) false),1,8,.opq,Go.Value.nilFunc,false⟩
theorem z16s : TyOk Tryz.prog 134 z1kl := TyOk.of (by kernel_rfl) (by kernel_rfl) (by kernel_rfl) (by kernel_rfl)
def z1kk : TyI := ⟨(Go.TypeDesc.func (List.toArray ([146] : List Nat)) (List.toArray ([] : List Nat)) false),1,8,.opq,Go.Value.nilFunc,false⟩
theorem z16r : TyOk Tryz.prog 138 z1kk := TyOk.of (by kernel_rfl) (by kernel_rfl) (by kernel_rfl) (by kernel_rfl)
def z1kj : TyI := ⟨(Go.TypeDesc.pointer 152),1,8,.opq,(Go.Value.pointer none),false⟩
theorem z16q : TyOk Tryz.prog 140 z1kj := TyOk.of (by kernel_rfl) (by kernel_rfl) (by kernel_rfl) (by kernel_rfl)
def z1ki : TyI := ⟨(Go.TypeDesc.func (List.toArray ([9,4] : List Nat)) (List.toArray ([4] : List Nat)) false),1,8,.opq,Go.Value.nilFunc,false⟩
theorem z16p : TyOk Tryz.prog 146 z1ki := TyOk.of (by kernel_rfl) (by kernel_rfl) (by kernel_rfl) (by kernel_rfl)
def z1kh : TyI := ⟨(Go.TypeDesc.array 8 106),8,32,(.arr 8 (.int .u32)),([(0 : Int),(0 : Int),(0 : Int),(0 : Int),(0 : Int),(0 : Int),(0 : Int),(0 : Int)] : List Int),true⟩
theorem z16o : TyOk Tryz.prog 149 z1kh := TyOk.of (by kernel_rfl) (by kernel_rfl) (by kernel_rfl) (by kernel_rfl)
def z1kg : TyI := ⟨(Go.TypeDesc.struct (List.toArray ([(Go.Field.mk "made" 4 0 false "" "porter/sha" 0), (Go.Field.mk "words" 149 1 false "" "porter/sha" 4), (Go.Field.mk "rest" 9 9 false "" "porter/sha" 40), (Go.Field.mk "long" 3 10 false "" "porter/sha" 56)] : List Go.Field))), 11, 64, TT6, (false, ([(0 : Int), (0 : Int), (0 : Int), (0 : Int), (0 : Int), (0 : Int), (0 : Int), (0 : Int)] : List Int), ([] : List UInt8), (0 : Int), ()), true⟩
theorem z16n : TyOk Tryz.prog 152 z1kg := TyOk.of (by kernel_rfl) (by kernel_rfl) (by kernel_rfl) (by kernel_rfl)
def z1kf : TyI := ⟨(Go.TypeDesc.array 64 106),64,256,(.arr 64 (.int .u32)),((0 : Int) :: (0 : Int) :: (0 : Int) :: (0 : Int) :: (0 : Int) :: (0 : Int) :: (0 : Int) :: (0 : Int) :: (0 : Int) :: (0 : Int) :: (0 : Int) :: (0 : Int) :: (0 : Int) :: (0 : Int) :: (0 : Int) :: (0 : Int) :: (0 : Int) :: (0 : Int) :: (0 : Int) :: (0 : Int) :: (0 : Int) :: (0 : Int) :: (0 : Int) :: (0 : Int) :: (0 : Int) :: (0 : Int) :: (0 : Int) :: (0 : Int) :: (0 : Int) :: (0 : Int) :: (0 : Int) :: (0 : Int) :: (0 : Int) :: (0 : Int) :: (0 : Int) :: (0 : Int) :: (0 : Int) :: (0 : Int) :: (0 : Int) :: (0 : Int) :: (0 : Int) :: (0 : Int) :: (0 : Int) :: (0 : Int) :: (0 : Int) :: (0 : Int) :: (0 : Int) :: (0 : Int) :: (0 : Int) :: (0 : Int) :: (0 : Int) :: (0 : Int) :: (0 : Int) :: (0 : Int) :: (0 : Int) :: (0 : Int) :: (0 : Int) :: (0 : Int) :: (0 : Int) :: (0 : Int) :: (0 : Int) :: (0 : Int) :: (0 : Int) :: (0 : Int) :: ([] : List Int)),true⟩
theorem z16m : TyOk Tryz.prog 164 z1kf := TyOk.of (by kernel_rfl) (by kernel_rfl) (by kernel_rfl) (by kernel_rfl)
def tys : List (Nat × TyI) := [(3,ty3),(4,ty4),(5,ty5),(9,ty9),(22,ty22),(24,ty24),(25,ty25),(27,ty27),(30,ty30),(31,ty31),(34,ty34),(36,ty36),(42,ty42),(58,ty58),(61,ty61),(63,ty63),(64,ty64),(67,ty67),(76,ty76),(78,ty78),(79,ty79),(89,ty89),(97,ty97),(103,z1kw),(104,z1kv),(106,z1ku),(107,z1kt),(111,z1ks),(112,z1kr),(114,z1kq),(116,z1kp),(119,z1ko),(131,z1kn),(132,z1km),(134,z1kl),(138,z1kk),(140,z1kj),(146,z1ki),(149,z1kh),(152,z1kg),(164,z1kf)]
theorem zo : TysOk Tryz.prog tys := TysOk.cons z1ke (TysOk.cons z1kd (TysOk.cons z1kc (TysOk.cons z1kb (TysOk.cons z1cj (TysOk.cons z1ci (TysOk.cons z1ch (TysOk.cons z1cg (TysOk.cons z1cf (TysOk.cons z1ce (TysOk.cons z1cd (TysOk.cons z1cc (TysOk.cons z1cb (TysOk.cons z1ca (TysOk.cons z1c9 (TysOk.cons z1c8 (TysOk.cons z1c7 (TysOk.cons z12t (TysOk.cons z1c6 (TysOk.cons z1c5 (TysOk.cons z1c4 (TysOk.cons z1c3 (TysOk.cons z1c2 (TysOk.cons z173 (TysOk.cons z172 (TysOk.cons z171 (TysOk.cons z170 (TysOk.cons z16z (TysOk.cons z16y (TysOk.cons z16x (TysOk.cons z16w (TysOk.cons z16v (TysOk.cons z16u (TysOk.cons z16t (TysOk.cons z16s (TysOk.cons z16r (TysOk.cons z16q (TysOk.cons z16p (TysOk.cons z16o (TysOk.cons z16n (TysOk.cons z16m (TysOk.nil)))))))))))))))))))))))))))))))))))))))))
theorem mixed : Tryz.prog.follows .mixedOrders = true := by kernel_rfl
def glob0 : List Int := [1116352408,1899447441,3049323471,3921009573,961987163,1508970993,2453635748,2870763221,3624381080,310598401,607225278,1426881987,1925078388,2162078206,2614888103,3248222580,3835390401,4022224774,264347078,604807628,770255983,1249150122,1555081692,1996064986,2554220882,2821834349,2952996808,3210313671,3336571891,3584528711,113926993,338241895,666307205,773529912,1294757372,1396182291,1695183700,1986661051,2177026350,2456956037,2730485921,2820302411,3259730800,3345764771,3516065817,3600352804,4094571909,275423344,430227734,506948616,659060556,883997877,958139571,1322822218,1537002063,1747873779,1955562222,2024104815,2227730452,2361852424,2428436474,2756734187,3204031479,3329325298]
def glob : Nat -> Option Dat := lk [(0,⟨(.arr 64 (.int .u32)),glob0⟩)]
def z15w : Code := (Tryz.f99.body).getD .skip
def L_2 : List (List Nat × List Nat) := [([0],[0]),([0,1],[3,0]),([0,0,1,1],[6,3,0]),([0,1,0,1,1],[6,3,0]),(z16h,[7,6,3,0]),(PQ9,[6,3,0]),(z1k3,[3]),(z1k4,[3,4,0,6]),(z1tq,[6,3,0]),(z1k2,[6,3,0]),(z1k1,[6,3,0]),([1,0,1,1],[3]),([0,1,1,1],[2]),([1,1,1,1],[2])]
def E_2 (N:Nat) : Env := z16 tys glob [] [(3,(.int .u8))] [] [] false [] []
theorem Eok_2 (N:Nat) : EnvOk Tryz.prog (E_2 N) := zk mixed zo (FnsOk.nil) (ItsOk.nil)
def ziw (N:Nat) (s:(List UInt8)) (out:(List Int)) (x6:Int) (rec:(List Int) -> Int -> Option (List UInt8)) (k0:(List Int) -> Option (List UInt8)) : Option (List UInt8) :=
 cond (decide (x6 < (8 : Int)))
 (cond (decide ((0 : Int) <= (IntKind.wrap IntKind.i64 ((8 : Int) * (IntKind.wrap IntKind.i64 ((7 : Int) - x6))))))
 (cond (inR x6 (List.length out))
 (cond (decide ((Int.toNat x6) < (List.length out)))
 (rec (List.set out (Int.toNat x6) (IntKind.wrap IntKind.u8 (z3i IntKind.u64 (IntKind.wrap IntKind.u64 (((List.length s) : Nat) : Int)) (IntKind.wrap IntKind.i64 ((8 : Int) * (IntKind.wrap IntKind.i64 ((7 : Int) - x6))))))) (IntKind.wrap IntKind.i64 (x6 + (1 : Int))))
 (none))
 (none))
 (none))
 (k0 out)
def zrh (N:Nat) (s:(List UInt8)) (out:(List Int)) (x6:Int) (k0:(List Int) -> Option (List UInt8)) : Option (List UInt8) :=
 iter (fun (v:((List Int) × Int)) r=>ziw N s v.1 v.2 (fun out x6=>(r (out,x6))) k0) N (out,x6)
def g1_2 (N:Nat) (i:(List UInt8)) (v:((List Int) × Int)) (r:((List Int) × Int) -> Option (List UInt8)) (K:Ex -> List A -> Option (List UInt8)) : Option (List UInt8) :=
 ziw N i v.1 v.2 (fun out x6=>(r (out,x6))) (fun a0=>(K (.exit 0) (mkS [(3,.row (.int .u8))] 19 (a0,()))))
def h1_2 (N:Nat) : Hd (List UInt8) := fun st K=>(unS [(0,.v .str),(2,.row (.int .u8)),(2,.v (.int .i64))] 16 (restr [6,3,0] 0 st)).bind fun x=>iter (fun v r=>g1_2 N ((fun x=>x.1) x) v r K) N ((fun x=>(x.2.1,x.2.2.1)) x)
def t1_2 (N:Nat) : Tab (List UInt8) := []
theorem ok1_2 {N:Nat} {c:Ctx} (hb:Base Tryz.prog (E_2 N) c) : zq Tryz.prog c (zm z15w [0,1,0,1,1]) (h1_2 N) :=
  z1k (s := [(0,.v .str),(2,.row (.int .u8)),(2,.v (.int .i64))]) (m := 16) (g1_2 N) [6,3,0] N (fun x=>x.1) (fun x=>(x.2.1,x.2.2.1)) (fun i v=>(i,v.1,v.2,())) (fun _=>rfl) (zi hb N (t1_2 N) L_2 z15w TabOk.nil [0,0,1,0,1,1] _ rfl) (fun i v r K=>by kernel_rfl)
def zfo (N:Nat) (s:(List UInt8)) : Option (List UInt8) :=
 zrh N s ([(0 : Int),(0 : Int),(0 : Int),(0 : Int),(0 : Int),(0 : Int),(0 : Int),(0 : Int)] : List Int) (0 : Int)
 (fun out=>some (z2f out))
def t_2 (N:Nat) : Tab (List UInt8) := [([0,1,0,1,1],h1_2 N)]
theorem z1oo (N:Nat) (x:z1h [(0,.v .str)]) : z2q (E_2 N) N (t_2 N) L_2 Tryz.f99 (mkS [(0,.v .str)] 0 x) (z1d (.v .str) 1) = zfo N x.1 := by kernel_rfl
def zhe (N:Nat) : List A -> Res := z10 [(0,.v .str)] (fun x=>zfo N x.1) (z2p (.v .str) 1)
theorem zri (N:Nat) : Contract Tryz.prog glob 99 (zhe N) :=
  Contract.of (E := E_2 N) (H := t_2 N) (L := L_2) (N := N) (body := z15w) (K := (z1d (.v .str) 1)) (Eok_2 N) Tryz.func99 (by kernel_rfl) (by decide) (fun _ hb=>(TabOk.cons (ok1_2 hb) TabOk.nil)) (fun x y h=>by rw [z1oo]; exact h) (zn (s := (.v .str)) (m := 1))
def z15v : Code := (Tryz.f98.body).getD .skip
def L_3 : List (List Nat × List Nat) := [([0],[7,6,5,0]),([0,1],[7,6,5,0]),([0,0,0,1],[8,5,7,0,6]),([0,1,0,0,1],[5,7,0,6]),([1,0,1,0,0,1],[0]),([0,0,0,1,1,0,0,1],[0,4,7,6,5]),([0,1,0,0,1,1,0,0,1],[21,0,7,6,5]),([1,1,0,0,1,1,0,0,1],[7,6,5,0]),([0,1,1,0,0,1,1,0,0,1],[0]),([0,1,1,0,0,1],[7,6,5,0]),([1,1,1,0,0,1],[7,6,5,0]),([1],[0])]
def E_3 (N:Nat) : Env := z16 tys glob [(99,zhe N)] [] [] [0] false [] []
theorem Eok_3 (N:Nat) : EnvOk Tryz.prog (E_3 N) := zk mixed zo (FnsOk.cons (zri N) (FnsOk.nil)) ItsOk.nil
def z8u (N:Nat) (x5:(List (List UInt8))) (x6:Int) (x7:Int) (rec:Int -> Option (List z6w)) (k0:Option (List z6w)) (k1:Option (List z6w)) : Option (List z6w) :=
 cond (decide (x7 < x6))
 (cond (inR x7 (List.length x5))
 ((zfo N (List.getD x5 (Int.toNat x7) ([] : List UInt8))).bind fun y =>
 zu0 (y,())
 (zu0 ((List.getD x5 (Int.toNat x7) ([] : List UInt8)),())
 (rec (IntKind.wrap IntKind.i64 (x7 + (1 : Int))))
 (k0))
 (k0))
 (none))
 (k1)
def zq8 (N:Nat) (x5:(List (List UInt8))) (x6:Int) (x7:Int) (k0:Option (List z6w)) (k1:Option (List z6w)) : Option (List z6w) :=
 iter (fun (v:Int) r=>z8u N x5 x6 v (fun x7=>(r x7)) k0 k1) N x7
def g1_3 (N:Nat) (i:((List (List UInt8)) × Int)) (v:Int) (r:Int -> Option (List z6w)) (K:Ex -> List A -> Option (List z6w)) : Option (List z6w) :=
 z8u N i.1 i.2 v (fun x7=>(r x7)) (K .ret (mkS [(0,.yld)] 22 ((),()))) (K (.exit 0) (mkS [(0,.yld)] 22 ((),())))
def h1_3 (N:Nat) : Hd (List z6w) := fun st K=>(unS [(0,.yld),(4,.v (.sl .str)),(0,.v (.int .i64)),(0,.v (.int .i64))] 15 (restr [7,6,5,0] 0 st)).bind fun x=>iter (fun v r=>g1_3 N ((fun x=>(x.2.1,x.2.2.1)) x) v r K) N ((fun x=>x.2.2.2.1) x)
def t1_3 (N:Nat) : Tab (List z6w) := []
theorem ok1_3 {N:Nat} {G:GY [.str]} (hG:zht G) (hev:z1u3 G Tryz.prog (E_3 N) N L_3 z15v) : YOk G Tryz.prog (zm z15v [0,1]) (h1_3 N) :=
  zob hG (s := [(0,.yld),(4,.v (.sl .str)),(0,.v (.int .i64)),(0,.v (.int .i64))]) (m := 15) (g1_3 N) [7,6,5,0] N (fun x=>(x.2.1,x.2.2.1)) (fun x=>x.2.2.2.1) (fun i v=>((),i.1,i.2,v,())) (fun _=>rfl) (hev (t1_3 N) TabOkY.nil [0,0,1]) (fun i v r K=>by kernel_rfl)
def zdc (N:Nat) (x1:(List (List UInt8))) : Option (List z6w) :=
 zq8 N x1 (((List.length x1) : Nat) : Int) (0 : Int)
 (some ([] : List z6w))
 (some ([] : List z6w))
def t_3 (N:Nat) : Tab (List z6w) := [([0,1],h1_3 N)]
theorem z1on (N:Nat) (x:T.den (.pair (.ptr (.sl .str)) .unit)) : z1jp (E_3 N) [.str] zu0 N (t_3 N) L_3 Tryz.f98 [.v (.ptr (.sl .str)) x.1] = zdc N x.1 := by kernel_rfl
def z7 (N:Nat) : Dat -> ItRes := z11t (ts := [.str]) (.pair (.ptr (.sl .str)) .unit) (fun x=>zdc N x.1)
theorem z8 (N:Nat) : ItOk Tryz.prog glob 98 (z7 N) := ItOk.of (ts := [.str]) (E := E_3 N) (H := t_3 N) (L := L_3) (N := N) (body := z15v) (Eok_3 N) rfl Tryz.func98 (by kernel_rfl) (by decide) (fun G hG hev=>(TabOkY.cons (ok1_3 hG hev) TabOkY.nil)) (fun x y h=>⟨_,rfl,by rw [z1on]; exact h⟩)
def z1td : Code := (Tryz.f76.body).getD .skip
def L_4 : List (List Nat × List Nat) := [([0],[1]),([0,1],[2]),([1,1],[2])]
def E_4 (N:Nat) : Env := z16 tys glob [] [] [] [] false [] [(98,z7 N)]
theorem Eok_4 (N:Nat) : EnvOk Tryz.prog (E_4 N) := zk mixed zo (FnsOk.nil) (ItsOk.cons (z8 N) (ItsOk.nil))
def zq9 (N:Nat) (parts:(List (List UInt8))) : Option ((List (List UInt8)) × Unit) :=
 some (parts,())
def t_4 (N:Nat) : Tab ((List (List UInt8)) × Unit) := []
theorem z1om (N:Nat) (x:z1h [(0,.v (.sl .str))]) : z2q (E_4 N) N (t_4 N) L_4 Tryz.f76 (mkS [(0,.v (.sl .str))] 0 x) (z1d (.v (.fn 98 (.pair (.ptr (.sl .str)) .unit))) 1) = zq9 N x.1 := by kernel_rfl
def zhf (N:Nat) : List A -> Res := z10 [(0,.v (.sl .str))] (fun x=>zq9 N x.1) (z2p (.v (.fn 98 (.pair (.ptr (.sl .str)) .unit))) 1)
theorem zrj (N:Nat) : Contract Tryz.prog glob 76 (zhf N) :=
  Contract.of (E := E_4 N) (H := t_4 N) (L := L_4) (N := N) (body := z1td) (K := (z1d (.v (.fn 98 (.pair (.ptr (.sl .str)) .unit))) 1)) (Eok_4 N) Tryz.func76 (by kernel_rfl) (by decide) (fun _ hb=>TabOk.nil) (fun x y h=>by rw [z1om]; exact h) (zn (s := (.v (.fn 98 (.pair (.ptr (.sl .str)) .unit)))) (m := 1))
def z1tc : Code := (Tryz.f77.body).getD .skip
def L_5 : List (List Nat × List Nat) := [([0],[0,1]),([0,1],[0,1]),([0,1,1],[1,0]),([0,1,1,1],[4,5,0]),([1,1,1,1],[4,5,0])]
def E_5 (N:Nat) : Env := z16 tys glob [(100,z1bn)] [] [] [0] false [] [(98,z7 N)]
theorem Eok_5 (N:Nat) : EnvOk Tryz.prog (E_5 N) := zk mixed zo (FnsOk.cons (cc_ct glob) (FnsOk.nil)) (ItsOk.cons (z8 N) (ItsOk.nil))
def z1g (N:Nat) (b:zlt) (s:(List UInt8)) : Option ((Int × Go.Value × Unit) × (zlt × Unit)) :=
 cond (decide ((((List.length b.2.1) + (List.length (z57 s))) * 1) <= 70368744177664))
 (some (((((List.length s) : Nat) : Int),(Go.Value.nilIface,())),((b.1,((b.2.1 ++ (z57 s)),b.2.2)),())))
 (none)
def t_5 (N:Nat) : Tab ((Int × Go.Value × Unit) × (zlt × Unit)) := []
theorem z1ol (N:Nat) (x:z1h [(0,.box zuh),(0,.v .str)]) : z2q (E_5 N) N (t_5 N) L_5 Tryz.f77 (mkS [(0,.box zuh),(0,.v .str)] 0 x) (zel (.tup [(.int .i64),.opq]) [(0,.box zuh)] 1) = z1g N x.1 x.2.1 := by kernel_rfl
def z2u (N:Nat) : List A -> Res := z10 [(0,.box zuh),(0,.v .str)] (fun x=>z1g N x.1 x.2.1) (zmg (.tup [(.int .i64),.opq]) [(0,.box zuh)] 1)
theorem z4m (N:Nat) : Contract Tryz.prog glob 77 (z2u N) :=
  Contract.of (E := E_5 N) (H := t_5 N) (L := L_5) (N := N) (body := z1tc) (K := (zel (.tup [(.int .i64),.opq]) [(0,.box zuh)] 1)) (Eok_5 N) Tryz.func77 (by kernel_rfl) (by decide) (fun _ hb=>TabOk.nil) (fun x y h=>by rw [z1ol]; exact h) (zb6 (s := (.tup [(.int .i64),.opq])) (os := [(0,.box zuh)]) (m := 1))
def z10r : Code := (Tryz.f47.body).getD .skip
def L_6 : List (List Nat × List Nat) := [([0],[0]),([0,1],[0,3]),([0,0,1,1],[6,3]),([0,1,0,1,1],[3]),([0,0,1,0,1,1],[4,3]),([0,1,0,1,0,1,1],[3]),([1,0,1,0,1,1],[3]),([1,0,1,1],[3]),([0,1,1,1],[2]),([1,1,1,1],[2])]
def E_6 (N:Nat) : Env := z16 tys glob [(77,z2u N),(76,zhf N),(78,zwx)] [] [] [] false [(3,zuh)] [(98,z7 N)]
theorem Eok_6 (N:Nat) : EnvOk Tryz.prog (E_6 N) := zk mixed zo (FnsOk.cons (z4m N) (FnsOk.cons (zrj N) (FnsOk.cons (z19y glob) (FnsOk.nil)))) (ItsOk.cons (z8 N) (ItsOk.nil))
def zfr (N:Nat) (out_1:zlt) (y:z6w) (rec:zlt -> Option (List UInt8)) (k0:zlt -> Option (List UInt8)) : Option (List UInt8) :=
 (z1g N out_1 y.1).bind fun y1 =>
 rec y1.2.1
def z8x (N:Nat) (out:zlt) (x6:((List (List UInt8)) × Unit)) : Option (List z6w) := (zdc N x6.1)
def zfs (N:Nat) (out:zlt) (x6:((List (List UInt8)) × Unit)) : Unit := ()
def zl9 (N:Nat) (out:zlt) (x6:((List (List UInt8)) × Unit)) : zlt := out
def zla (N:Nat) (out:zlt) (x6:((List (List UInt8)) × Unit)) (k0:zlt -> Option (List UInt8)) : Option (List UInt8) :=
 (z8x N out x6).bind fun ys=>zem (fun (y:z6w) (v:zlt) r=>zfr N v y (fun out_1=>(r out_1)) k0) (fun (v:zlt)=>k0 v) ys out
def g1_6 (N:Nat) (y:z6w) (i:Unit) (v:zlt) (r:zlt -> Option (List UInt8)) (K:Ex -> List A -> Option (List UInt8)) : Option (List UInt8) :=
 zfr N v y (fun out_1=>(r out_1)) (fun a0=>(K .normal (mkS [(3,.box zuh)] 7 (a0,()))))
def h1_6 (N:Nat) : Hd (List UInt8) := fun st K=>(unS [(3,.box zuh),(2,.v (.fn 98 (.pair (.ptr (.sl .str)) .unit)))] 4 (restr [6,3] 0 st)).bind fun x=>((fun x=>z8x N x.1 x.2.1) x).bind fun xs=>zem (fun y v r=>g1_6 N y ((fun x=>zfs N x.1 x.2.1) x) v r K) (fun v=>K .normal (mkS [(3,.box zuh)] 7 ((fun i v=>(v,())) ((fun x=>zfs N x.1 x.2.1) x) v))) xs ((fun x=>zl9 N x.1 x.2.1) x)
theorem ok1_6 {N:Nat} {c:Ctx} (hb:Base Tryz.prog (E_6 N) c) : zq Tryz.prog c (zm z10r [0,1,0,1,1]) (h1_6 N) :=
  z17h (ts := [.str]) (s := [(3,.box zuh),(2,.v (.fn 98 (.pair (.ptr (.sl .str)) .unit)))]) (m := 4) (s2 := [(3,.box zuh)]) (m2 := 7) [6,3] (fun x=>z8x N x.1 x.2.1) (fun x=>zfs N x.1 x.2.1) (fun x=>zl9 N x.1 x.2.1) (fun i v=>(v,())) (rfF (E_6 N) N [.str] (zm z10r [0,1,0,1,1])) (g1_6 N) (zi hb N [] L_6 z10r TabOk.nil [0,1,0,1,1] _ rfl) (fun x K=>by kernel_rfl) (fun y i v r K=>by kernel_rfl)
def z87 (N:Nat) (parts:(List (List UInt8))) : Option (List UInt8) :=
 zla N ((),(([] : List Int),())) (parts,())
 (fun out_1=>(zwy (out_1,())).bind fun y =>
 some y.1)
def t_6 (N:Nat) : Tab (List UInt8) := [([0,1,0,1,1],h1_6 N)]
theorem z1ok (N:Nat) (x:z1h [(0,.v (.sl .str))]) : z2q (E_6 N) N (t_6 N) L_6 Tryz.f47 (mkS [(0,.v (.sl .str))] 0 x) (z1d (.v .str) 1) = z87 N x.1 := by kernel_rfl
def zdt (N:Nat) : List A -> Res := z10 [(0,.v (.sl .str))] (fun x=>z87 N x.1) (z2p (.v .str) 1)
theorem zlb (N:Nat) : Contract Tryz.prog glob 47 (zdt N) :=
  Contract.of (E := E_6 N) (H := t_6 N) (L := L_6) (N := N) (body := z10r) (K := (z1d (.v .str) 1)) (Eok_6 N) Tryz.func47 (by kernel_rfl) (by decide) (fun _ hb=>(TabOk.cons (ok1_6 hb) TabOk.nil)) (fun x y h=>by rw [z1ok]; exact h) (zn (s := (.v .str)) (m := 1))
def z1tb : Code := (Tryz.f115.body).getD .skip
def L_7 : List (List Nat × List Nat) := [([0],[0]),([0,1],[0]),([1,1],[0])]
def E_7 (N:Nat) : Env := z16 tys glob [] [] [] [] false [] [(98,z7 N)]
theorem Eok_7 (N:Nat) : EnvOk Tryz.prog (E_7 N) := zk mixed zo (FnsOk.nil) (ItsOk.cons (z8 N) (ItsOk.nil))
def zut (N:Nat) : Option (List Int) :=
 some ([(1779033703 : Int),(3144134277 : Int),(1013904242 : Int),(2773480762 : Int),(1359893119 : Int),(2600822924 : Int),(528734635 : Int),(1541459225 : Int)] : List Int)
def t_7 (N:Nat) : Tab (List Int) := []
theorem z1oj (N:Nat) (x:z1h []) : z2q (E_7 N) N (t_7 N) L_7 Tryz.f115 (mkS [] 0 x) (z1d (.v (.arr 8 (.int .u32))) 0) = zut N := by kernel_rfl
def zkg (N:Nat) : List A -> Res := z10 [] (fun x=>zut N) (z2p (.v (.arr 8 (.int .u32))) 0)
theorem zus (N:Nat) : Contract Tryz.prog glob 115 (zkg N) :=
  Contract.of (E := E_7 N) (H := t_7 N) (L := L_7) (N := N) (body := z1tb) (K := (z1d (.v (.arr 8 (.int .u32))) 0)) (Eok_7 N) Tryz.func115 (by kernel_rfl) (by decide) (fun _ hb=>TabOk.nil) (fun x y h=>by rw [z1oj]; exact h) (zn (s := (.v (.arr 8 (.int .u32)))) (m := 0))
def z1ta : Code := (Tryz.f106.body).getD .skip
def L_8 : List (List Nat × List Nat) := [([0],[]),([0,1],[0]),([1,1],[0])]
def E_8 (N:Nat) : Env := z16 tys glob [(115,zkg N)] [] [] [] false [] [(98,z7 N)]
theorem Eok_8 (N:Nat) : EnvOk Tryz.prog (E_8 N) := zk mixed zo (FnsOk.cons (zus N) (FnsOk.nil)) (ItsOk.cons (z8 N) (ItsOk.nil))
def z139 (N:Nat) : Option DT9 :=
 some (true,(([(1779033703 : Int),(3144134277 : Int),(1013904242 : Int),(2773480762 : Int),(1359893119 : Int),(2600822924 : Int),(528734635 : Int),(1541459225 : Int)] : List Int),(([] : List UInt8),((0 : Int),()))))
def t_8 (N:Nat) : Tab DT9 := []
theorem z1oi (N:Nat) (x:z1h []) : z2q (E_8 N) N (t_8 N) L_8 Tryz.f106 (mkS [] 0 x) (z1d (.box TT6) 0) = z139 N := by kernel_rfl
def zjc (N:Nat) : List A -> Res := z10 [] (fun x=>z139 N) (z2p (.box TT6) 0)
theorem zry (N:Nat) : Contract Tryz.prog glob 106 (zjc N) :=
  Contract.of (E := E_8 N) (H := t_8 N) (L := L_8) (N := N) (body := z1ta) (K := (z1d (.box TT6) 0)) (Eok_8 N) Tryz.func106 (by kernel_rfl) (by decide) (fun _ hb=>TabOk.nil) (fun x y h=>by rw [z1oi]; exact h) (zn (s := (.box TT6)) (m := 0))
def z1t9 : Code := (Tryz.f136.body).getD .skip
def L_9 : List (List Nat × List Nat) := [([0],[1,0]),([0,1],[0,5]),([0,1,1],[4]),([1,1,1],[4])]
def E_9 (N:Nat) : Env := z16 tys glob [] [] [] [] false [] [(98,z7 N)]
theorem Eok_9 (N:Nat) : EnvOk Tryz.prog (E_9 N) := zk mixed zo (FnsOk.nil) (ItsOk.cons (z8 N) (ItsOk.nil))
def z5i (N:Nat) (x0:Int) (k:Int) : Option Int :=
 cond (decide ((0 : Int) <= (IntKind.wrap IntKind.u64 ((32 : Int) - (zj Go.BinOp.and IntKind.u64 (IntKind.wrap IntKind.u64 k) (31 : Int))))))
 (some (zj Go.BinOp.or IntKind.u32 (z8a IntKind.u32 x0 (zj Go.BinOp.and IntKind.u64 (IntKind.wrap IntKind.u64 k) (31 : Int))) (z3i IntKind.u32 x0 (IntKind.wrap IntKind.u64 ((32 : Int) - (zj Go.BinOp.and IntKind.u64 (IntKind.wrap IntKind.u64 k) (31 : Int)))))))
 (none)
def t_9 (N:Nat) : Tab Int := []
theorem z1oh (N:Nat) (x:z1h z19h) : z2q (E_9 N) N (t_9 N) L_9 Tryz.f136 (mkS z19h 0 x) (z1d (.v (.int .u32)) 2) = z5i N x.1 x.2.1 := by kernel_rfl
def z6h (N:Nat) : List A -> Res := z10 z19h (fun x=>z5i N x.1 x.2.1) (z2p (.v (.int .u32)) 2)
theorem zdr (N:Nat) : Contract Tryz.prog glob 136 (z6h N) :=
  Contract.of (E := E_9 N) (H := t_9 N) (L := L_9) (N := N) (body := z1t9) (K := (z1d (.v (.int .u32)) 2)) (Eok_9 N) Tryz.func136 (by kernel_rfl) (by decide) (fun _ hb=>TabOk.nil) (fun x y h=>by rw [z1oh]; exact h) (zn (s := (.v (.int .u32))) (m := 2))
def z1i3 : Code := (Tryz.f135.body).getD .skip
def L_10 : List (List Nat × List Nat) := [([0],[0,1]),([0,1],[4]),([1,1],[4])]
def E_10 (N:Nat) : Env := z16 tys glob [(136,z6h N)] [] [] [] false [] [(98,z7 N)]
theorem z1wi (N:Nat) : EnvOk Tryz.prog (E_10 N) := zk mixed zo (FnsOk.cons (zdr N) (FnsOk.nil)) (ItsOk.cons (z8 N) (ItsOk.nil))
def z138 (N:Nat) (x0:Int) (n:Int) : Option Int :=
 (z5i N x0 (IntKind.wrap IntKind.i64 ((0 : Int) - n))).bind fun y =>
 some y
def t_10 (N:Nat) : Tab Int := []
theorem z1gc (N:Nat) (x:z1h z19h) : z2q (E_10 N) N (t_10 N) L_10 Tryz.f135 (mkS z19h 0 x) (z1d (.v (.int .u32)) 2) = z138 N x.1 x.2.1 := by kernel_rfl
def zj7 (N:Nat) : List A -> Res := z10 z19h (fun x=>z138 N x.1 x.2.1) (z2p (.v (.int .u32)) 2)
theorem zrx (N:Nat) : Contract Tryz.prog glob 135 (zj7 N) :=
  Contract.of (E := E_10 N) (H := t_10 N) (L := L_10) (N := N) (body := z1i3) (K := (z1d (.v (.int .u32)) 2)) (z1wi N) Tryz.func135 (by kernel_rfl) (by decide) (fun _ hb=>TabOk.nil) (fun x y h=>by rw [z1gc]; exact h) (zn (s := (.v (.int .u32))) (m := 2))
def zr0 : Code := (Tryz.f132.body).getD .skip
def L_11 : List (List Nat × List Nat) := [([0],[0,2]),([0,1],[0,3,2]),([0,0,1,1],[11,0,3,2]),([0,1,0,1,1],[11,0,3,2]),(z16h,[12,11,0,3,2]),(PQ9,[11,0,3,2]),(z1k3,[3,2]),(z1k4,[0,4,3,11,2]),([0,1,0,0,1,1,0,0,1,0,1,1],[4,5,3,11,0,2]),([1,1,0,0,1,1,0,0,1,0,1,1],[11,0,3,2]),(z1k2,[11,0,3,2]),(z1k1,[11,0,3,2]),([1,0,1,1],[3,2]),([0,0,1,1,1],[6,3,2]),([0,1,0,1,1,1],[6,3,2]),(z1tp,[43,6,3,2]),(z1to,[6,3,2]),(z1tr,[3,2]),(PQ54,[7,8,6,3,2]),([0,1,0,0,1,0,0,1,0,1,1,1],[8,6,3,9,2]),(PQ84,[6,10,3,9,2]),([1,1,1,0,0,1,0,0,1,0,1,1,1],[6,3,2]),(z1ij,[6,3,2]),(z1tn,[6,3,2]),([1,0,1,1,1],[3,2]),([0,1,1,1,1],[2]),([1,1,1,1,1],[2])]
def z1wt (N:Nat) : Env := z16 tys glob [(135,zj7 N)] [] [] [] false [] [(98,z7 N)]
theorem z1wh (N:Nat) : EnvOk Tryz.prog (z1wt N) := zk mixed zo (FnsOk.cons (zrx N) (FnsOk.nil)) (ItsOk.cons (z8 N) (ItsOk.nil))
def zbq (N:Nat) (block:(List UInt8)) (x2:(List Int)) (w:(List Int)) (x11:Int) (rec:(List Int) -> Int -> Option (List Int)) (k0:(List Int) -> Option (List Int)) : Option (List Int) :=
 cond (decide (x11 < (16 : Int)))
 (cond (decide (((0 : Int) <= (IntKind.wrap IntKind.i64 ((IntKind.wrap IntKind.i64 ((4 : Int) * x11)) + (4 : Int)))) /\ ((IntKind.wrap IntKind.i64 ((IntKind.wrap IntKind.i64 ((4 : Int) * x11)) + (4 : Int))) <= (((List.length block) : Nat) : Int))))
 (cond (decide (((0 : Int) <= (IntKind.wrap IntKind.i64 ((4 : Int) * x11))) /\ ((IntKind.wrap IntKind.i64 ((4 : Int) * x11)) <= (IntKind.wrap IntKind.i64 ((IntKind.wrap IntKind.i64 ((4 : Int) * x11)) + (4 : Int))))))
 (cond (inR (0 : Int) (List.length (cut block (Int.toNat (IntKind.wrap IntKind.i64 ((4 : Int) * x11))) (Int.toNat (IntKind.wrap IntKind.i64 ((IntKind.wrap IntKind.i64 ((4 : Int) * x11)) + (4 : Int)))))))
 (cond (inR (1 : Int) (List.length (cut block (Int.toNat (IntKind.wrap IntKind.i64 ((4 : Int) * x11))) (Int.toNat (IntKind.wrap IntKind.i64 ((IntKind.wrap IntKind.i64 ((4 : Int) * x11)) + (4 : Int)))))))
 (cond (inR (2 : Int) (List.length (cut block (Int.toNat (IntKind.wrap IntKind.i64 ((4 : Int) * x11))) (Int.toNat (IntKind.wrap IntKind.i64 ((IntKind.wrap IntKind.i64 ((4 : Int) * x11)) + (4 : Int)))))))
 (cond (inR (3 : Int) (List.length (cut block (Int.toNat (IntKind.wrap IntKind.i64 ((4 : Int) * x11))) (Int.toNat (IntKind.wrap IntKind.i64 ((IntKind.wrap IntKind.i64 ((4 : Int) * x11)) + (4 : Int)))))))
 (cond (inR x11 64)
 (cond (decide ((Int.toNat x11) < (List.length w)))
 (rec (List.set w (Int.toNat x11) (zj Go.BinOp.or IntKind.u32 (zj Go.BinOp.or IntKind.u32 (zj Go.BinOp.or IntKind.u32 (z8a IntKind.u32 (IntKind.wrap IntKind.u32 (((UInt8.toNat (List.getD (cut block (Int.toNat (IntKind.wrap IntKind.i64 ((4 : Int) * x11))) (Int.toNat (IntKind.wrap IntKind.i64 ((IntKind.wrap IntKind.i64 ((4 : Int) * x11)) + (4 : Int))))) 0 (0 : UInt8))) : Nat) : Int)) (24 : Int)) (z8a IntKind.u32 (IntKind.wrap IntKind.u32 (((UInt8.toNat (List.getD (cut block (Int.toNat (IntKind.wrap IntKind.i64 ((4 : Int) * x11))) (Int.toNat (IntKind.wrap IntKind.i64 ((IntKind.wrap IntKind.i64 ((4 : Int) * x11)) + (4 : Int))))) 1 (0 : UInt8))) : Nat) : Int)) (16 : Int))) (z8a IntKind.u32 (IntKind.wrap IntKind.u32 (((UInt8.toNat (List.getD (cut block (Int.toNat (IntKind.wrap IntKind.i64 ((4 : Int) * x11))) (Int.toNat (IntKind.wrap IntKind.i64 ((IntKind.wrap IntKind.i64 ((4 : Int) * x11)) + (4 : Int))))) 2 (0 : UInt8))) : Nat) : Int)) (8 : Int))) (IntKind.wrap IntKind.u32 (((UInt8.toNat (List.getD (cut block (Int.toNat (IntKind.wrap IntKind.i64 ((4 : Int) * x11))) (Int.toNat (IntKind.wrap IntKind.i64 ((IntKind.wrap IntKind.i64 ((4 : Int) * x11)) + (4 : Int))))) 3 (0 : UInt8))) : Nat) : Int)))) (IntKind.wrap IntKind.i64 (x11 + (1 : Int))))
 (none))
 (none))
 (none))
 (none))
 (none))
 (none))
 (none))
 (none))
 (k0 w)
def zbs (N:Nat) (block:(List UInt8)) (x2:(List Int)) (w:(List Int)) (x11:Int) (k0:(List Int) -> Option (List Int)) : Option (List Int) :=
 iter (fun (v:((List Int) × Int)) r=>zbq N block x2 v.1 v.2 (fun w x11=>(r (w,x11))) k0) N (w,x11)
def z1sw (N:Nat) (i:((List UInt8) × (List Int))) (v:((List Int) × Int)) (r:((List Int) × Int) -> Option (List Int)) (K:Ex -> List A -> Option (List Int)) : Option (List Int) :=
 zbq N i.1 i.2 v.1 v.2 (fun w x11=>(r (w,x11))) (fun a1=>(K (.exit 0) (mkS [(2,.box (.arr 64 (.int .u32))),(0,.box (.arr 64 (.int .u32)))] 82 (i.2,a1,()))))
def z1qt (N:Nat) : Hd (List Int) := fun st K=>(unS SQ79 74 (restr [11,0,3,2] 0 st)).bind fun x=>iter (fun v r=>z1sw N ((fun x=>(x.1,x.2.1)) x) v r K) N ((fun x=>(x.2.2.1,x.2.2.2.1)) x)
def t1_11 (N:Nat) : Tab (List Int) := []
theorem z1od {N:Nat} {c:Ctx} (hb:Base Tryz.prog (z1wt N) c) : zq Tryz.prog c (zm zr0 [0,1,0,1,1]) (z1qt N) :=
  z1k (s := SQ79) (m := 74) (z1sw N) [11,0,3,2] N (fun x=>(x.1,x.2.1)) (fun x=>(x.2.2.1,x.2.2.2.1)) (fun i v=>(i.1,i.2,v.1,v.2,())) (fun _=>rfl) (zi hb N (t1_11 N) L_11 zr0 TabOk.nil [0,0,1,0,1,1] _ rfl) (fun i v r K=>by kernel_rfl)
def zbp (N:Nat) (x2:(List Int)) (w:(List Int)) (t:Int) (rec:(List Int) -> Int -> Option (List Int)) (k0:(List Int) -> Option (List Int)) : Option (List Int) :=
 cond (decide (t < (64 : Int)))
 (cond (inR (IntKind.wrap IntKind.i64 (t - (15 : Int))) 64)
 (cond (decide ((Int.toNat (IntKind.wrap IntKind.i64 (t - (15 : Int)))) < (List.length w)))
 (cond (inR (IntKind.wrap IntKind.i64 (t - (2 : Int))) 64)
 (cond (decide ((Int.toNat (IntKind.wrap IntKind.i64 (t - (2 : Int)))) < (List.length w)))
 (cond (inR (IntKind.wrap IntKind.i64 (t - (7 : Int))) 64)
 (cond (decide ((Int.toNat (IntKind.wrap IntKind.i64 (t - (7 : Int)))) < (List.length w)))
 (cond (inR (IntKind.wrap IntKind.i64 (t - (16 : Int))) 64)
 (cond (decide ((Int.toNat (IntKind.wrap IntKind.i64 (t - (16 : Int)))) < (List.length w)))
 (cond (inR t 64)
 (cond (decide ((Int.toNat t) < (List.length w)))
 (rec (List.set w (Int.toNat t) (IntKind.wrap IntKind.u32 ((IntKind.wrap IntKind.u32 ((IntKind.wrap IntKind.u32 ((zj Go.BinOp.xor IntKind.u32 (zj Go.BinOp.xor IntKind.u32 (zj Go.BinOp.or IntKind.u32 (z8a IntKind.u32 (List.getD w (Int.toNat (IntKind.wrap IntKind.i64 (t - (2 : Int)))) (0 : Int)) (zj Go.BinOp.and IntKind.u64 (IntKind.wrap IntKind.u64 (IntKind.wrap IntKind.i64 ((0 : Int) - (17 : Int)))) (31 : Int))) (z3i IntKind.u32 (List.getD w (Int.toNat (IntKind.wrap IntKind.i64 (t - (2 : Int)))) (0 : Int)) (IntKind.wrap IntKind.u64 ((32 : Int) - (zj Go.BinOp.and IntKind.u64 (IntKind.wrap IntKind.u64 (IntKind.wrap IntKind.i64 ((0 : Int) - (17 : Int)))) (31 : Int)))))) (zj Go.BinOp.or IntKind.u32 (z8a IntKind.u32 (List.getD w (Int.toNat (IntKind.wrap IntKind.i64 (t - (2 : Int)))) (0 : Int)) (zj Go.BinOp.and IntKind.u64 (IntKind.wrap IntKind.u64 (IntKind.wrap IntKind.i64 ((0 : Int) - (19 : Int)))) (31 : Int))) (z3i IntKind.u32 (List.getD w (Int.toNat (IntKind.wrap IntKind.i64 (t - (2 : Int)))) (0 : Int)) (IntKind.wrap IntKind.u64 ((32 : Int) - (zj Go.BinOp.and IntKind.u64 (IntKind.wrap IntKind.u64 (IntKind.wrap IntKind.i64 ((0 : Int) - (19 : Int)))) (31 : Int))))))) (z3i IntKind.u32 (List.getD w (Int.toNat (IntKind.wrap IntKind.i64 (t - (2 : Int)))) (0 : Int)) (10 : Int))) + (List.getD w (Int.toNat (IntKind.wrap IntKind.i64 (t - (7 : Int)))) (0 : Int)))) + (zj Go.BinOp.xor IntKind.u32 (zj Go.BinOp.xor IntKind.u32 (zj Go.BinOp.or IntKind.u32 (z8a IntKind.u32 (List.getD w (Int.toNat (IntKind.wrap IntKind.i64 (t - (15 : Int)))) (0 : Int)) (zj Go.BinOp.and IntKind.u64 (IntKind.wrap IntKind.u64 (IntKind.wrap IntKind.i64 ((0 : Int) - (7 : Int)))) (31 : Int))) (z3i IntKind.u32 (List.getD w (Int.toNat (IntKind.wrap IntKind.i64 (t - (15 : Int)))) (0 : Int)) (IntKind.wrap IntKind.u64 ((32 : Int) - (zj Go.BinOp.and IntKind.u64 (IntKind.wrap IntKind.u64 (IntKind.wrap IntKind.i64 ((0 : Int) - (7 : Int)))) (31 : Int)))))) (zj Go.BinOp.or IntKind.u32 (z8a IntKind.u32 (List.getD w (Int.toNat (IntKind.wrap IntKind.i64 (t - (15 : Int)))) (0 : Int)) (zj Go.BinOp.and IntKind.u64 (IntKind.wrap IntKind.u64 (IntKind.wrap IntKind.i64 ((0 : Int) - (18 : Int)))) (31 : Int))) (z3i IntKind.u32 (List.getD w (Int.toNat (IntKind.wrap IntKind.i64 (t - (15 : Int)))) (0 : Int)) (IntKind.wrap IntKind.u64 ((32 : Int) - (zj Go.BinOp.and IntKind.u64 (IntKind.wrap IntKind.u64 (IntKind.wrap IntKind.i64 ((0 : Int) - (18 : Int)))) (31 : Int))))))) (z3i IntKind.u32 (List.getD w (Int.toNat (IntKind.wrap IntKind.i64 (t - (15 : Int)))) (0 : Int)) (3 : Int))))) + (List.getD w (Int.toNat (IntKind.wrap IntKind.i64 (t - (16 : Int)))) (0 : Int))))) (IntKind.wrap IntKind.i64 (t + (1 : Int))))
 (none))
 (none))
 (none))
 (none))
 (none))
 (none))
 (none))
 (none))
 (none))
 (none))
 (k0 w)
def zbr (N:Nat) (x2:(List Int)) (w:(List Int)) (t:Int) (k0:(List Int) -> Option (List Int)) : Option (List Int) :=
 iter (fun (v:((List Int) × Int)) r=>zbp N x2 v.1 v.2 (fun w t=>(r (w,t))) k0) N (w,t)
def z1rr (N:Nat) (i:(List Int)) (v:((List Int) × Int)) (r:((List Int) × Int) -> Option (List Int)) (K:Ex -> List A -> Option (List Int)) : Option (List Int) :=
 zbp N i v.1 v.2 (fun w t=>(r (w,t))) (fun a1=>(K (.exit 2) (mkS [(2,.box (.arr 64 (.int .u32))),(0,.box (.arr 64 (.int .u32)))] 82 (i,a1,()))))
def z1po (N:Nat) : Hd (List Int) := fun st K=>(unS z1tk 79 (restr [6,3,2] 0 st)).bind fun x=>iter (fun v r=>z1rr N ((fun x=>x.1) x) v r K) N ((fun x=>(x.2.1,x.2.2.1)) x)
def t2_11 (N:Nat) : Tab (List Int) := []
theorem z1n8 {N:Nat} {c:Ctx} (hb:Base Tryz.prog (z1wt N) c) : zq Tryz.prog c (zm zr0 [0,1,0,1,1,1]) (z1po N) :=
  z1k (s := z1tk) (m := 79) (z1rr N) [6,3,2] N (fun x=>x.1) (fun x=>(x.2.1,x.2.2.1)) (fun i v=>(i,v.1,v.2,())) (fun _=>rfl) (zi hb N (t2_11 N) L_11 zr0 TabOk.nil z1bu _ rfl) (fun i v r K=>by kernel_rfl)
def zd2 (N:Nat) (block:(List UInt8)) : Option (List Int) :=
 zbs N block ((0 : Int) :: (0 : Int) :: (0 : Int) :: (0 : Int) :: (0 : Int) :: (0 : Int) :: (0 : Int) :: (0 : Int) :: (0 : Int) :: (0 : Int) :: (0 : Int) :: (0 : Int) :: (0 : Int) :: (0 : Int) :: (0 : Int) :: (0 : Int) :: (0 : Int) :: (0 : Int) :: (0 : Int) :: (0 : Int) :: (0 : Int) :: (0 : Int) :: (0 : Int) :: (0 : Int) :: (0 : Int) :: (0 : Int) :: (0 : Int) :: (0 : Int) :: (0 : Int) :: (0 : Int) :: (0 : Int) :: (0 : Int) :: (0 : Int) :: (0 : Int) :: (0 : Int) :: (0 : Int) :: (0 : Int) :: (0 : Int) :: (0 : Int) :: (0 : Int) :: (0 : Int) :: (0 : Int) :: (0 : Int) :: (0 : Int) :: (0 : Int) :: (0 : Int) :: (0 : Int) :: (0 : Int) :: (0 : Int) :: (0 : Int) :: (0 : Int) :: (0 : Int) :: (0 : Int) :: (0 : Int) :: (0 : Int) :: (0 : Int) :: (0 : Int) :: (0 : Int) :: (0 : Int) :: (0 : Int) :: (0 : Int) :: (0 : Int) :: (0 : Int) :: (0 : Int) :: ([] : List Int)) ((0 : Int) :: (0 : Int) :: (0 : Int) :: (0 : Int) :: (0 : Int) :: (0 : Int) :: (0 : Int) :: (0 : Int) :: (0 : Int) :: (0 : Int) :: (0 : Int) :: (0 : Int) :: (0 : Int) :: (0 : Int) :: (0 : Int) :: (0 : Int) :: (0 : Int) :: (0 : Int) :: (0 : Int) :: (0 : Int) :: (0 : Int) :: (0 : Int) :: (0 : Int) :: (0 : Int) :: (0 : Int) :: (0 : Int) :: (0 : Int) :: (0 : Int) :: (0 : Int) :: (0 : Int) :: (0 : Int) :: (0 : Int) :: (0 : Int) :: (0 : Int) :: (0 : Int) :: (0 : Int) :: (0 : Int) :: (0 : Int) :: (0 : Int) :: (0 : Int) :: (0 : Int) :: (0 : Int) :: (0 : Int) :: (0 : Int) :: (0 : Int) :: (0 : Int) :: (0 : Int) :: (0 : Int) :: (0 : Int) :: (0 : Int) :: (0 : Int) :: (0 : Int) :: (0 : Int) :: (0 : Int) :: (0 : Int) :: (0 : Int) :: (0 : Int) :: (0 : Int) :: (0 : Int) :: (0 : Int) :: (0 : Int) :: (0 : Int) :: (0 : Int) :: (0 : Int) :: ([] : List Int)) (0 : Int)
 (fun w=>zbr N ((0 : Int) :: (0 : Int) :: (0 : Int) :: (0 : Int) :: (0 : Int) :: (0 : Int) :: (0 : Int) :: (0 : Int) :: (0 : Int) :: (0 : Int) :: (0 : Int) :: (0 : Int) :: (0 : Int) :: (0 : Int) :: (0 : Int) :: (0 : Int) :: (0 : Int) :: (0 : Int) :: (0 : Int) :: (0 : Int) :: (0 : Int) :: (0 : Int) :: (0 : Int) :: (0 : Int) :: (0 : Int) :: (0 : Int) :: (0 : Int) :: (0 : Int) :: (0 : Int) :: (0 : Int) :: (0 : Int) :: (0 : Int) :: (0 : Int) :: (0 : Int) :: (0 : Int) :: (0 : Int) :: (0 : Int) :: (0 : Int) :: (0 : Int) :: (0 : Int) :: (0 : Int) :: (0 : Int) :: (0 : Int) :: (0 : Int) :: (0 : Int) :: (0 : Int) :: (0 : Int) :: (0 : Int) :: (0 : Int) :: (0 : Int) :: (0 : Int) :: (0 : Int) :: (0 : Int) :: (0 : Int) :: (0 : Int) :: (0 : Int) :: (0 : Int) :: (0 : Int) :: (0 : Int) :: (0 : Int) :: (0 : Int) :: (0 : Int) :: (0 : Int) :: (0 : Int) :: ([] : List Int)) w (16 : Int)
 (fun w1=>some w1))
def t_11 (N:Nat) : Tab (List Int) := [([0,1,0,1,1],z1qt N),([0,1,0,1,1,1],z1po N)]
theorem z1gb (N:Nat) (x:z1h [(0,.v .str)]) : z2q (z1wt N) N (t_11 N) L_11 Tryz.f132 (mkS [(0,.v .str)] 0 x) (z1d (.v (.arr 64 (.int .u32))) 1) = zd2 N x.1 := by kernel_rfl
def zg7 (N:Nat) : List A -> Res := z10 [(0,.v .str)] (fun x=>zd2 N x.1) (z2p (.v (.arr 64 (.int .u32))) 1)
theorem zox (N:Nat) : Contract Tryz.prog glob 132 (zg7 N) :=
  Contract.of (E := z1wt N) (H := t_11 N) (L := L_11) (N := N) (body := zr0) (K := (z1d (.v (.arr 64 (.int .u32))) 1)) (z1wh N) Tryz.func132 (by kernel_rfl) (by decide) (fun _ hb=>(TabOk.cons (z1od hb) (TabOk.cons (z1n8 hb) TabOk.nil))) (fun x y h=>by rw [z1gb]; exact h) (zn (s := (.v (.arr 64 (.int .u32)))) (m := 1))
def z1i2 : Code := (Tryz.f133.body).getD .skip
def L_12 : List (List Nat × List Nat) := [([0],[2,1,4]),([0,1],[12,9,10,11,1,5,6,7,8,4]),([0,1,1],[5,6,7,13,8,9,10,11,4]),([0,1,1,1],[13,14,5,6,7,8,9,10,11,4]),([0,1,1,1,1],[4]),([1,1,1,1,1],[4])]
def E_12 (N:Nat) : Env := z16 tys glob [(135,zj7 N)] [] [] [] false [] [(98,z7 N)]
theorem z1wg (N:Nat) : EnvOk Tryz.prog (E_12 N) := zk mixed zo (FnsOk.cons (zrx N) (FnsOk.nil)) (ItsOk.cons (z8 N) (ItsOk.nil))
def zgv (N:Nat) (v_:(List Int)) (k:Int) : Option (List Int) :=
 cond (decide (0 < (List.length v_)))
 (cond (decide (1 < (List.length v_)))
 (cond (decide (2 < (List.length v_)))
 (cond (decide (3 < (List.length v_)))
 (cond (decide (4 < (List.length v_)))
 (cond (decide (5 < (List.length v_)))
 (cond (decide (6 < (List.length v_)))
 (cond (decide (7 < (List.length v_)))
 (some ([(IntKind.wrap IntKind.u32 ((IntKind.wrap IntKind.u32 ((IntKind.wrap IntKind.u32 ((IntKind.wrap IntKind.u32 ((List.getD v_ 7 (0 : Int)) + (zj Go.BinOp.xor IntKind.u32 (zj Go.BinOp.xor IntKind.u32 (zj Go.BinOp.or IntKind.u32 (z8a IntKind.u32 (List.getD v_ 4 (0 : Int)) (zj Go.BinOp.and IntKind.u64 (IntKind.wrap IntKind.u64 (IntKind.wrap IntKind.i64 ((0 : Int) - (6 : Int)))) (31 : Int))) (z3i IntKind.u32 (List.getD v_ 4 (0 : Int)) (IntKind.wrap IntKind.u64 ((32 : Int) - (zj Go.BinOp.and IntKind.u64 (IntKind.wrap IntKind.u64 (IntKind.wrap IntKind.i64 ((0 : Int) - (6 : Int)))) (31 : Int)))))) (zj Go.BinOp.or IntKind.u32 (z8a IntKind.u32 (List.getD v_ 4 (0 : Int)) (zj Go.BinOp.and IntKind.u64 (IntKind.wrap IntKind.u64 (IntKind.wrap IntKind.i64 ((0 : Int) - (11 : Int)))) (31 : Int))) (z3i IntKind.u32 (List.getD v_ 4 (0 : Int)) (IntKind.wrap IntKind.u64 ((32 : Int) - (zj Go.BinOp.and IntKind.u64 (IntKind.wrap IntKind.u64 (IntKind.wrap IntKind.i64 ((0 : Int) - (11 : Int)))) (31 : Int))))))) (zj Go.BinOp.or IntKind.u32 (z8a IntKind.u32 (List.getD v_ 4 (0 : Int)) (zj Go.BinOp.and IntKind.u64 (IntKind.wrap IntKind.u64 (IntKind.wrap IntKind.i64 ((0 : Int) - (25 : Int)))) (31 : Int))) (z3i IntKind.u32 (List.getD v_ 4 (0 : Int)) (IntKind.wrap IntKind.u64 ((32 : Int) - (zj Go.BinOp.and IntKind.u64 (IntKind.wrap IntKind.u64 (IntKind.wrap IntKind.i64 ((0 : Int) - (25 : Int)))) (31 : Int))))))))) + (zj Go.BinOp.xor IntKind.u32 (zj Go.BinOp.and IntKind.u32 (List.getD v_ 4 (0 : Int)) (List.getD v_ 5 (0 : Int))) (zj Go.BinOp.and IntKind.u32 (zj Go.BinOp.xor IntKind.u32 (if ((IntKind.signed IntKind.u32) = true) then (-(1 : Int)) else (IntKind.max IntKind.u32)) (List.getD v_ 4 (0 : Int))) (List.getD v_ 6 (0 : Int)))))) + k)) + (IntKind.wrap IntKind.u32 ((zj Go.BinOp.xor IntKind.u32 (zj Go.BinOp.xor IntKind.u32 (zj Go.BinOp.or IntKind.u32 (z8a IntKind.u32 (List.getD v_ 0 (0 : Int)) (zj Go.BinOp.and IntKind.u64 (IntKind.wrap IntKind.u64 (IntKind.wrap IntKind.i64 ((0 : Int) - (2 : Int)))) (31 : Int))) (z3i IntKind.u32 (List.getD v_ 0 (0 : Int)) (IntKind.wrap IntKind.u64 ((32 : Int) - (zj Go.BinOp.and IntKind.u64 (IntKind.wrap IntKind.u64 (IntKind.wrap IntKind.i64 ((0 : Int) - (2 : Int)))) (31 : Int)))))) (zj Go.BinOp.or IntKind.u32 (z8a IntKind.u32 (List.getD v_ 0 (0 : Int)) (zj Go.BinOp.and IntKind.u64 (IntKind.wrap IntKind.u64 (IntKind.wrap IntKind.i64 ((0 : Int) - (13 : Int)))) (31 : Int))) (z3i IntKind.u32 (List.getD v_ 0 (0 : Int)) (IntKind.wrap IntKind.u64 ((32 : Int) - (zj Go.BinOp.and IntKind.u64 (IntKind.wrap IntKind.u64 (IntKind.wrap IntKind.i64 ((0 : Int) - (13 : Int)))) (31 : Int))))))) (zj Go.BinOp.or IntKind.u32 (z8a IntKind.u32 (List.getD v_ 0 (0 : Int)) (zj Go.BinOp.and IntKind.u64 (IntKind.wrap IntKind.u64 (IntKind.wrap IntKind.i64 ((0 : Int) - (22 : Int)))) (31 : Int))) (z3i IntKind.u32 (List.getD v_ 0 (0 : Int)) (IntKind.wrap IntKind.u64 ((32 : Int) - (zj Go.BinOp.and IntKind.u64 (IntKind.wrap IntKind.u64 (IntKind.wrap IntKind.i64 ((0 : Int) - (22 : Int)))) (31 : Int))))))) + (zj Go.BinOp.xor IntKind.u32 (zj Go.BinOp.xor IntKind.u32 (zj Go.BinOp.and IntKind.u32 (List.getD v_ 0 (0 : Int)) (List.getD v_ 1 (0 : Int))) (zj Go.BinOp.and IntKind.u32 (List.getD v_ 0 (0 : Int)) (List.getD v_ 2 (0 : Int)))) (zj Go.BinOp.and IntKind.u32 (List.getD v_ 1 (0 : Int)) (List.getD v_ 2 (0 : Int)))))))),(List.getD v_ 0 (0 : Int)),(List.getD v_ 1 (0 : Int)),(List.getD v_ 2 (0 : Int)),(IntKind.wrap IntKind.u32 ((List.getD v_ 3 (0 : Int)) + (IntKind.wrap IntKind.u32 ((IntKind.wrap IntKind.u32 ((IntKind.wrap IntKind.u32 ((List.getD v_ 7 (0 : Int)) + (zj Go.BinOp.xor IntKind.u32 (zj Go.BinOp.xor IntKind.u32 (zj Go.BinOp.or IntKind.u32 (z8a IntKind.u32 (List.getD v_ 4 (0 : Int)) (zj Go.BinOp.and IntKind.u64 (IntKind.wrap IntKind.u64 (IntKind.wrap IntKind.i64 ((0 : Int) - (6 : Int)))) (31 : Int))) (z3i IntKind.u32 (List.getD v_ 4 (0 : Int)) (IntKind.wrap IntKind.u64 ((32 : Int) - (zj Go.BinOp.and IntKind.u64 (IntKind.wrap IntKind.u64 (IntKind.wrap IntKind.i64 ((0 : Int) - (6 : Int)))) (31 : Int)))))) (zj Go.BinOp.or IntKind.u32 (z8a IntKind.u32 (List.getD v_ 4 (0 : Int)) (zj Go.BinOp.and IntKind.u64 (IntKind.wrap IntKind.u64 (IntKind.wrap IntKind.i64 ((0 : Int) - (11 : Int)))) (31 : Int))) (z3i IntKind.u32 (List.getD v_ 4 (0 : Int)) (IntKind.wrap IntKind.u64 ((32 : Int) - (zj Go.BinOp.and IntKind.u64 (IntKind.wrap IntKind.u64 (IntKind.wrap IntKind.i64 ((0 : Int) - (11 : Int)))) (31 : Int))))))) (zj Go.BinOp.or IntKind.u32 (z8a IntKind.u32 (List.getD v_ 4 (0 : Int)) (zj Go.BinOp.and IntKind.u64 (IntKind.wrap IntKind.u64 (IntKind.wrap IntKind.i64 ((0 : Int) - (25 : Int)))) (31 : Int))) (z3i IntKind.u32 (List.getD v_ 4 (0 : Int)) (IntKind.wrap IntKind.u64 ((32 : Int) - (zj Go.BinOp.and IntKind.u64 (IntKind.wrap IntKind.u64 (IntKind.wrap IntKind.i64 ((0 : Int) - (25 : Int)))) (31 : Int))))))))) + (zj Go.BinOp.xor IntKind.u32 (zj Go.BinOp.and IntKind.u32 (List.getD v_ 4 (0 : Int)) (List.getD v_ 5 (0 : Int))) (zj Go.BinOp.and IntKind.u32 (zj Go.BinOp.xor IntKind.u32 (if ((IntKind.signed IntKind.u32) = true) then (-(1 : Int)) else (IntKind.max IntKind.u32)) (List.getD v_ 4 (0 : Int))) (List.getD v_ 6 (0 : Int)))))) + k)))),(List.getD v_ 4 (0 : Int)),(List.getD v_ 5 (0 : Int)),(List.getD v_ 6 (0 : Int))] : List Int))
 (none))
 (none))
 (none))
 (none))
 (none))
 (none))
 (none))
 (none)
def t_12 (N:Nat) : Tab (List Int) := []
theorem z1ga (N:Nat) (x:z1h z1i9) : z2q (E_12 N) N (t_12 N) L_12 Tryz.f133 (mkS z1i9 0 x) (z1d (.v (.arr 8 (.int .u32))) 2) = zgv N x.1 x.2.1 := by kernel_rfl
def zke (N:Nat) : List A -> Res := z10 z1i9 (fun x=>zgv N x.1 x.2.1) (z2p (.v (.arr 8 (.int .u32))) 2)
theorem zur (N:Nat) : Contract Tryz.prog glob 133 (zke N) :=
  Contract.of (E := E_12 N) (H := t_12 N) (L := L_12) (N := N) (body := z1i2) (K := (z1d (.v (.arr 8 (.int .u32))) 2)) (z1wg N) Tryz.func133 (by kernel_rfl) (by decide) (fun _ hb=>TabOk.nil) (fun x y h=>by rw [z1ga]; exact h) (zn (s := (.v (.arr 8 (.int .u32)))) (m := 2))
def zqz : Code := (Tryz.f125.body).getD .skip
def L_13 : List (List Nat × List Nat) := [([0],[1,2,4]),([0,0,1],[11,2,4,1]),([1,0,1],[1,2,4]),([0,0,1,0,1],[4]),([1,0,1,0,1],[4]),([0,1,1],[2,5,4]),([0,1,1,1],[6,5,2,4]),([0,0,1,1,1,1],[16,6,5,2,4]),(z165,[16,6,5,2,4]),([0,0,0,1,0,1,1,1,1],[17,16,6,5,2,4]),([0,1,0,0,1,0,1,1,1,1],[16,6,5,2,4]),([1,0,1,0,0,1,0,1,1,1,1],[6,2,4]),([0,0,0,1,1,0,0,1,0,1,1,1,1],[6,7,5,16,2,4]),([1,0,0,1,1,0,0,1,0,1,1,1,1],[16,6,5,2,4]),([0,1,1,0,0,1,0,1,1,1,1],[16,6,5,2,4]),([1,1,1,0,0,1,0,1,1,1,1],[16,6,5,2,4]),([1,0,1,1,1,1],[6,2,4]),(z1tm,[29,6,2,4]),(z19k,[29,6,2,4]),([0,0,0,1,0,1,1,1,1,1],[30,29,6,2,4]),([0,1,0,0,1,0,1,1,1,1,1],[29,6,2,4]),([1,0,1,0,0,1,0,1,1,1,1,1],[6,4]),([0,0,0,1,1,0,0,1,0,1,1,1,1,1],[8,6,2,29,4]),([1,0,0,1,1,0,0,1,0,1,1,1,1,1],[29,6,2,4]),([0,1,1,0,0,1,0,1,1,1,1,1],[29,6,2,4]),([1,1,1,0,0,1,0,1,1,1,1,1],[29,6,2,4]),(z166,[6,4]),(z1tl,[4]),([1,1,1,1,1,1,1],[4])]
def z1ws (N:Nat) : Env := z16 tys glob [(133,zke N),(132,zg7 N)] [] [] [] false [] [(98,z7 N)]
theorem z1wf (N:Nat) : EnvOk Tryz.prog (z1ws N) := zk mixed zo (FnsOk.cons (zur N) (FnsOk.cons (zox N) (FnsOk.nil))) (ItsOk.cons (z8 N) (ItsOk.nil))
def zja (N:Nat) (h:(List Int)) (x4:(List Int)) (w:(List Int)) (v_:(List Int)) (x16:Int) (rec:(List Int) -> Int -> Option (List Int)) (k0:(List Int) -> Option (List Int)) : Option (List Int) :=
 cond (decide (x16 < (64 : Int)))
 (cond (inR x16 64)
 (cond (inR x16 64)
 (cond (decide ((Int.toNat x16) < (List.length w)))
 ((zgv N v_ (IntKind.wrap IntKind.u32 ((List.getD glob0 (Int.toNat x16) (0 : Int)) + (List.getD w (Int.toNat x16) (0 : Int))))).bind fun y =>
 rec y (IntKind.wrap IntKind.i64 (x16 + (1 : Int))))
 (none))
 (none))
 (none))
 (k0 v_)
def zjb (N:Nat) (h:(List Int)) (x4:(List Int)) (w:(List Int)) (v_:(List Int)) (x16:Int) (k0:(List Int) -> Option (List Int)) : Option (List Int) :=
 iter (fun (v:((List Int) × Int)) r=>zja N h x4 w v.1 v.2 (fun v_ x16=>(r (v_,x16))) k0) N (v_,x16)
def z1sv (N:Nat) (i:((List Int) × (List Int) × (List Int))) (v:((List Int) × Int)) (r:((List Int) × Int) -> Option (List Int)) (K:Ex -> List A -> Option (List Int)) : Option (List Int) :=
 zja N i.1 i.2.1 i.2.2 v.1 v.2 (fun v_ x16=>(r (v_,x16))) (fun a2=>(K (.exit 0) (mkS [(2,.box (.arr 8 (.int .u32))),(1,.box (.arr 8 (.int .u32))),(1,.box (.arr 8 (.int .u32)))] 35 (i.1,i.2.1,a2,()))))
def z1qs (N:Nat) : Hd (List Int) := fun st K=>(unS SQ32 25 (restr [16,6,5,2,4] 0 st)).bind fun x=>iter (fun v r=>z1sv N ((fun x=>(x.1,x.2.1,x.2.2.1)) x) v r K) N ((fun x=>(x.2.2.2.1,x.2.2.2.2.1)) x)
def t1_13 (N:Nat) : Tab (List Int) := []
theorem z1oc {N:Nat} {c:Ctx} (hb:Base Tryz.prog (z1ws N) c) : zq Tryz.prog c (zm zqz z165) (z1qs N) :=
  z1k (s := SQ32) (m := 25) (z1sv N) [16,6,5,2,4] N (fun x=>(x.1,x.2.1,x.2.2.1)) (fun x=>(x.2.2.2.1,x.2.2.2.2.1)) (fun i v=>(i.1,i.2.1,i.2.2,v.1,v.2,())) (fun _=>rfl) (zi hb N (t1_13 N) L_13 zqz TabOk.nil z1k0 _ rfl) (fun i v r K=>by kernel_rfl)
def zoz (N:Nat) (h:(List Int)) (x4:(List Int)) (v_:(List Int)) (x29:Int) (rec:(List Int) -> Int -> Option (List Int)) (k0:(List Int) -> Option (List Int)) : Option (List Int) :=
 cond (decide (x29 < (8 : Int)))
 (cond (inR x29 8)
 (cond (decide ((Int.toNat x29) < (List.length v_)))
 (cond (inR x29 8)
 (cond (decide ((Int.toNat x29) < (List.length h)))
 (cond (inR x29 8)
 (cond (decide ((Int.toNat x29) < (List.length v_)))
 (rec (List.set v_ (Int.toNat x29) (IntKind.wrap IntKind.u32 ((List.getD v_ (Int.toNat x29) (0 : Int)) + (List.getD h (Int.toNat x29) (0 : Int))))) (IntKind.wrap IntKind.i64 (x29 + (1 : Int))))
 (none))
 (none))
 (none))
 (none))
 (none))
 (none))
 (k0 v_)
def zp0 (N:Nat) (h:(List Int)) (x4:(List Int)) (v_:(List Int)) (x29:Int) (k0:(List Int) -> Option (List Int)) : Option (List Int) :=
 iter (fun (v:((List Int) × Int)) r=>zoz N h x4 v.1 v.2 (fun v_ x29=>(r (v_,x29))) k0) N (v_,x29)
def z1rq (N:Nat) (i:((List Int) × (List Int))) (v:((List Int) × Int)) (r:((List Int) × Int) -> Option (List Int)) (K:Ex -> List A -> Option (List Int)) : Option (List Int) :=
 zoz N i.1 i.2 v.1 v.2 (fun v_ x29=>(r (v_,x29))) (fun a1=>(K (.exit 2) (mkS [(4,.box (.arr 8 (.int .u32))),(1,.box (.arr 8 (.int .u32)))] 35 (i.2,a1,()))))
def z1pn (N:Nat) : Hd (List Int) := fun st K=>(unS SQ52 12 (restr [29,6,2,4] 0 st)).bind fun x=>iter (fun v r=>z1rq N ((fun x=>(x.1,x.2.1)) x) v r K) N ((fun x=>(x.2.2.1,x.2.2.2.1)) x)
def t2_13 (N:Nat) : Tab (List Int) := []
theorem z1n7 {N:Nat} {c:Ctx} (hb:Base Tryz.prog (z1ws N) c) : zq Tryz.prog c (zm zqz z19k) (z1pn N) :=
  z1k (s := SQ52) (m := 12) (z1rq N) [29,6,2,4] N (fun x=>(x.1,x.2.1)) (fun x=>(x.2.2.1,x.2.2.2.1)) (fun i v=>(i.1,i.2,v.1,v.2,())) (fun _=>rfl) (zi hb N (t2_13 N) L_13 zqz TabOk.nil z168 _ rfl) (fun i v r K=>by kernel_rfl)
def zb5 (N:Nat) (h:(List Int)) (block:(List UInt8)) : Option (List Int) :=
 cond ((((List.length block) : Nat) : Int) != (64 : Int))
 (some h)
 ((zd2 N block).bind fun y =>
 zjb N h ([(0 : Int),(0 : Int),(0 : Int),(0 : Int),(0 : Int),(0 : Int),(0 : Int),(0 : Int)] : List Int) y h (0 : Int)
 (fun v_=>zp0 N h ([(0 : Int),(0 : Int),(0 : Int),(0 : Int),(0 : Int),(0 : Int),(0 : Int),(0 : Int)] : List Int) v_ (0 : Int)
 (fun v_1=>some v_1)))
def t_13 (N:Nat) : Tab (List Int) := [(z165,z1qs N),(z19k,z1pn N)]
theorem z1g9 (N:Nat) (x:z1h z1jv) : z2q (z1ws N) N (t_13 N) L_13 Tryz.f125 (mkS z1jv 0 x) (z1d (.v (.arr 8 (.int .u32))) 2) = zb5 N x.1 x.2.1 := by kernel_rfl
def zmz (N:Nat) : List A -> Res := z10 z1jv (fun x=>zb5 N x.1 x.2.1) (z2p (.v (.arr 8 (.int .u32))) 2)
theorem zx2 (N:Nat) : Contract Tryz.prog glob 125 (zmz N) :=
  Contract.of (E := z1ws N) (H := t_13 N) (L := L_13) (N := N) (body := zqz) (K := (z1d (.v (.arr 8 (.int .u32))) 2)) (z1wf N) Tryz.func125 (by kernel_rfl) (by decide) (fun _ hb=>(TabOk.cons (z1oc hb) (TabOk.cons (z1n7 hb) TabOk.nil))) (fun x y h=>by rw [z1g9]; exact h) (zn (s := (.v (.arr 8 (.int .u32)))) (m := 2))
def zz1 : Code := (Tryz.f116.body).getD .skip
def L_14 : List (List Nat × List Nat) := [([0],[1,2,4]),([0,0,1],[5,1,2,4]),([0,1,0,1],[5,1,2,4]),([0,0,0,0,1,0,1],[9,2,1,5,4]),([1,0,0,0,1,0,1],[2,1,5,4]),([1,1,0,0,0,1,0,1],[2,4]),([0,0,1,0,0,1,0,1],[5,1,2,4]),([0,1,0,0,1,0,1],[5,1,2,4]),([1,1,0,0,1,0,1],[5,1,2,4]),([1,0,1],[2,4]),([0,1,1],[4]),([1,1,1],[4])]
def E_14 (N:Nat) : Env := z16 tys glob [(125,zmz N)] [] [] [] false [] [(98,z7 N)]
theorem z1we (N:Nat) : EnvOk Tryz.prog (E_14 N) := zk mixed zo (FnsOk.cons (zx2 N) (FnsOk.nil)) (ItsOk.cons (z8 N) (ItsOk.nil))
def zgu (N:Nat) (s:(List UInt8)) (x4:(List Int)) (h:(List Int)) (i:Int) (rec:(List Int) -> Int -> Option (List Int)) (k0:(List Int) -> Option (List Int)) : Option (List Int) :=
 cond (decide (i < (((List.length s) : Nat) : Int)))
 (cond (decide (((0 : Int) <= (IntKind.wrap IntKind.i64 (i + (64 : Int)))) /\ ((IntKind.wrap IntKind.i64 (i + (64 : Int))) <= (((List.length s) : Nat) : Int))))
 (cond (decide (((0 : Int) <= i) /\ (i <= (IntKind.wrap IntKind.i64 (i + (64 : Int))))))
 ((zb5 N h (cut s (Int.toNat i) (Int.toNat (IntKind.wrap IntKind.i64 (i + (64 : Int)))))).bind fun y =>
 rec y (IntKind.wrap IntKind.i64 (i + (64 : Int))))
 (none))
 (none))
 (k0 h)
def zmy (N:Nat) (s:(List UInt8)) (h:(List Int)) (x4:(List Int)) (i:Int) (k0:(List Int) -> Option (List Int)) : Option (List Int) :=
 iter (fun (v:((List Int) × Int)) r=>zgu N s x4 v.1 v.2 (fun h i=>(r (h,i))) k0) N (h,i)
def z1su (N:Nat) (i:((List UInt8) × (List Int))) (v:((List Int) × Int)) (r:((List Int) × Int) -> Option (List Int)) (K:Ex -> List A -> Option (List Int)) : Option (List Int) :=
 zgu N i.1 i.2 v.1 v.2 (fun h i=>(r (h,i))) (fun a0=>(K (.exit 0) (mkS [(2,.box (.arr 8 (.int .u32))),(1,.box (.arr 8 (.int .u32)))] 15 (a0,i.2,()))))
def z1qr (N:Nat) : Hd (List Int) := fun st K=>(unS SQ80 14 (restr [5,1,2,4] 0 st)).bind fun x=>iter (fun v r=>z1su N ((fun x=>(x.1,x.2.2.1)) x) v r K) N ((fun x=>(x.2.1,x.2.2.2.1)) x)
def t1_14 (N:Nat) : Tab (List Int) := []
theorem z1ob {N:Nat} {c:Ctx} (hb:Base Tryz.prog (E_14 N) c) : zq Tryz.prog c (zm zz1 [0,1,0,1]) (z1qr N) :=
  z1k (s := SQ80) (m := 14) (z1su N) [5,1,2,4] N (fun x=>(x.1,x.2.2.1)) (fun x=>(x.2.1,x.2.2.2.1)) (fun i v=>(i.1,v.1,i.2,v.2,())) (fun _=>rfl) (zi hb N (t1_14 N) L_14 zz1 TabOk.nil [0,0,1,0,1] _ rfl) (fun i v r K=>by kernel_rfl)
def z9x (N:Nat) (h:(List Int)) (s:(List UInt8)) : Option (List Int) :=
 zmy N s h ([(0 : Int),(0 : Int),(0 : Int),(0 : Int),(0 : Int),(0 : Int),(0 : Int),(0 : Int)] : List Int) (0 : Int)
 (fun h1=>some h1)
def t_14 (N:Nat) : Tab (List Int) := [([0,1,0,1],z1qr N)]
theorem z1g8 (N:Nat) (x:z1h z1jv) : z2q (E_14 N) N (t_14 N) L_14 Tryz.f116 (mkS z1jv 0 x) (z1d (.v (.arr 8 (.int .u32))) 2) = z9x N x.1 x.2.1 := by kernel_rfl
def z66 (N:Nat) : List A -> Res := z10 z1jv (fun x=>z9x N x.1 x.2.1) (z2p (.v (.arr 8 (.int .u32))) 2)
theorem z9w (N:Nat) : Contract Tryz.prog glob 116 (z66 N) :=
  Contract.of (E := E_14 N) (H := t_14 N) (L := L_14) (N := N) (body := zz1) (K := (z1d (.v (.arr 8 (.int .u32))) 2)) (z1we N) Tryz.func116 (by kernel_rfl) (by decide) (fun _ hb=>(TabOk.cons (z1ob hb) TabOk.nil)) (fun x y h=>by rw [z1g8]; exact h) (zn (s := (.v (.arr 8 (.int .u32)))) (m := 2))
def zz0 : Code := (Tryz.f107.body).getD .skip
def L_15 : List (List Nat × List Nat) := [([0,0],[14,0,1]),([1,0],[0,1]),([0,1,0],[0]),([0,1],[0,1]),([0,1,1],[4,0]),([0,1,1,1],[0,4,5]),([0,1,1,1,1],[0,4,5]),([1,1,1,1,1],[0])]
def E_15 (N:Nat) : Env := z16 tys glob [(116,z66 N)] [] [] [0] false [] [(98,z7 N)]
theorem z1wd (N:Nat) : EnvOk Tryz.prog (E_15 N) := zk mixed zo (FnsOk.cons (z9w N) (FnsOk.nil)) (ItsOk.cons (z8 N) (ItsOk.nil))
def zbx (N:Nat) (h:DT9) (s:(List UInt8)) (k0:Option ((Unit) × (DT9 × Unit))) (k1:Option ((Unit) × (DT9 × Unit))) : Option ((Unit) × (DT9 × Unit)) :=
 cond (!h.1)
 (k0)
 (k1)
def z1st (N:Nat) (x:z1h z1i5) (K:Ex -> List A -> Option ((Unit) × (DT9 × Unit))) : Option ((Unit) × (DT9 × Unit)) :=
 zbx N x.1 x.2.1 (K .ret (mkS [(0,.box TT6)] 52 (x.1,()))) (K .normal (mkS z1i5 51 (x.1,x.2.1,())))
def z1qq (N:Nat) : Hd ((Unit) × (DT9 × Unit)) := fun st K=>(unS z1i5 51 (restr [0,1] 0 st)).bind fun x=>z1st N x K
def t1_15 (N:Nat) : Tab ((Unit) × (DT9 × Unit)) := []
theorem z1oa {N:Nat} {c:Ctx} (hb:Base Tryz.prog (E_15 N) c) : zq Tryz.prog c (zm zz0 [0]) (z1qq N) :=
  z17 (s := z1i5) (m := 51) (g := z1st N) [0,1] (zi hb N (t1_15 N) L_15 zz0 TabOk.nil [0] _ rfl) (fun x K=>by kernel_rfl)
def z5r (N:Nat) (h:DT9) (s:(List UInt8)) : Option ((Unit) × (DT9 × Unit)) :=
 zbx N h s
 (some ((),(h,())))
 (cond (decide (((List.length h.2.2.1) + (List.length s)) <= 9223372036854775807))
 (cond (decide (((0 : Int) <= (IntKind.wrap IntKind.i64 ((((List.length (h.2.2.1 ++ s)) : Nat) : Int) - (Int.tmod (((List.length (h.2.2.1 ++ s)) : Nat) : Int) (64 : Int))))) /\ ((IntKind.wrap IntKind.i64 ((((List.length (h.2.2.1 ++ s)) : Nat) : Int) - (Int.tmod (((List.length (h.2.2.1 ++ s)) : Nat) : Int) (64 : Int)))) <= (((List.length (h.2.2.1 ++ s)) : Nat) : Int))))
 ((z9x N h.2.1 (cut (h.2.2.1 ++ s) 0 (Int.toNat (IntKind.wrap IntKind.i64 ((((List.length (h.2.2.1 ++ s)) : Nat) : Int) - (Int.tmod (((List.length (h.2.2.1 ++ s)) : Nat) : Int) (64 : Int))))))).bind fun y =>
 cond (decide (((0 : Int) <= (IntKind.wrap IntKind.i64 ((((List.length (h.2.2.1 ++ s)) : Nat) : Int) - (Int.tmod (((List.length (h.2.2.1 ++ s)) : Nat) : Int) (64 : Int))))) /\ ((IntKind.wrap IntKind.i64 ((((List.length (h.2.2.1 ++ s)) : Nat) : Int) - (Int.tmod (((List.length (h.2.2.1 ++ s)) : Nat) : Int) (64 : Int)))) <= (((List.length (h.2.2.1 ++ s)) : Nat) : Int))))
 (some ((),((h.1,(y,((cut (h.2.2.1 ++ s) (Int.toNat (IntKind.wrap IntKind.i64 ((((List.length (h.2.2.1 ++ s)) : Nat) : Int) - (Int.tmod (((List.length (h.2.2.1 ++ s)) : Nat) : Int) (64 : Int))))) (List.length (h.2.2.1 ++ s))),((IntKind.wrap IntKind.i64 (h.2.2.2.1 + (((List.length s) : Nat) : Int))),h.2.2.2.2)))),())))
 (none))
 (none))
 (none))
def t_15 (N:Nat) : Tab ((Unit) × (DT9 × Unit)) := [([0],z1qq N)]
theorem z1g7 (N:Nat) (x:z1h z1i5) : z2q (E_15 N) N (t_15 N) L_15 Tryz.f107 (mkS z1i5 0 x) (zel (.tup []) [(0,.box TT6)] 1) = z5r N x.1 x.2.1 := by kernel_rfl
def zgc (N:Nat) : List A -> Res := z10 z1i5 (fun x=>z5r N x.1 x.2.1) (zmg (.tup []) [(0,.box TT6)] 1)
theorem zp2 (N:Nat) : Contract Tryz.prog glob 107 (zgc N) :=
  Contract.of (E := E_15 N) (H := t_15 N) (L := L_15) (N := N) (body := zz0) (K := (zel (.tup []) [(0,.box TT6)] 1)) (z1wd N) Tryz.func107 (by kernel_rfl) (by decide) (fun _ hb=>(TabOk.cons (z1oa hb) TabOk.nil)) (fun x y h=>by rw [z1g7]; exact h) (zb6 (s := (.tup [])) (os := [(0,.box TT6)]) (m := 1))
def zyz : Code := (Tryz.f107.body).getD .skip
def L_16 : List (List Nat × List Nat) := [([0,0],[14,0,1]),([1,0],[0,1]),([0,1,0],[]),([0,1],[0,1]),([0,1,1],[4,0]),([0,1,1,1],[0,4,5]),([0,1,1,1,1],[0,4,5]),([1,1,1,1,1],[])]
def E_16 (N:Nat) : Env := z16 tys glob [(116,z66 N)] [] [] [] false [] [(98,z7 N)]
theorem z1wc (N:Nat) : EnvOk Tryz.prog (E_16 N) := zk mixed zo (FnsOk.cons (z9w N) (FnsOk.nil)) (ItsOk.cons (z8 N) (ItsOk.nil))
def zby (N:Nat) (s:(List UInt8)) (k0:Option (Unit)) : Option (Unit) :=
 k0
def z1ss (N:Nat) (x:z1h [(0,.nilp),(0,.v .str)]) (K:Ex -> List A -> Option (Unit)) : Option (Unit) :=
 zby N x.2.1 (K .ret (mkS [] 53 ()))
def z1qp (N:Nat) : Hd (Unit) := fun st K=>(unS [(0,.nilp),(0,.v .str)] 51 (restr [0,1] 0 st)).bind fun x=>z1ss N x K
def t1_16 (N:Nat) : Tab (Unit) := []
theorem z1o9 {N:Nat} {c:Ctx} (hb:Base Tryz.prog (E_16 N) c) : zq Tryz.prog c (zm zyz [0]) (z1qp N) :=
  z17 (s := [(0,.nilp),(0,.v .str)]) (m := 51) (g := z1ss N) [0,1] (zi hb N (t1_16 N) L_16 zyz TabOk.nil [0] _ rfl) (fun x K=>by kernel_rfl)
def zak (N:Nat) (s:(List UInt8)) : Option (Unit) :=
 zby N s
 (some ())
def t_16 (N:Nat) : Tab (Unit) := [([0],z1qp N)]
theorem z1g6 (N:Nat) (x:z1h [(0,.nilp),(0,.v .str)]) : z2q (E_16 N) N (t_16 N) L_16 Tryz.f107 (mkS [(0,.nilp),(0,.v .str)] 0 x) (z1d (.tup []) 2) = zak N x.2.1 := by kernel_rfl
def zib (N:Nat) : List A -> Res := z10 [(0,.nilp),(0,.v .str)] (fun x=>zak N x.2.1) (z2p (.tup []) 2)
theorem zje (N:Nat) : Contract Tryz.prog glob 107 (zib N) :=
  Contract.of (E := E_16 N) (H := t_16 N) (L := L_16) (N := N) (body := zyz) (K := (z1d (.tup []) 2)) (z1wc N) Tryz.func107 (by kernel_rfl) (by decide) (fun _ hb=>(TabOk.cons (z1o9 hb) TabOk.nil)) (fun x y h=>by rw [z1g6]; exact h) (zn (s := (.tup [])) (m := 2))
def z6p (N:Nat) : List A -> Res := zs3 [(0,.nilp),(0,.v .str)] (fun x=>zak N x.2.1) (z2p (.tup []) 2) (zgc N)
theorem z96 (N:Nat) : Contract Tryz.prog glob 107 (z6p N) := Contract.alt (zje N) (zp2 N)
def z1i1 : Code := (Tryz.f94.body).getD .skip
def L_17 : List (List Nat × List Nat) := [([0],[1,0]),([0,1],[1,0]),([0,0,1,1],[10,0,1]),([1,0,1,1],[0,1]),([0,0,1,0,1,1],[4]),([1,0,1,0,1,1],[4]),([0,1,1,1],[4]),([1,1,1,1],[4])]
def E_17 (N:Nat) : Env := z16 tys glob [] [] [] [] false [] [(98,z7 N)]
theorem z1wb (N:Nat) : EnvOk Tryz.prog (E_17 N) := zk mixed zo (FnsOk.nil) (ItsOk.cons (z8 N) (ItsOk.nil))
def zei (N:Nat) (s:(List UInt8)) (n:Int) : Option (List UInt8) :=
 cond (decide ((if ((65536 : Int) < n) then (65536 : Int) else n) <= (((List.length s) : Nat) : Int)))
 (some s)
 (cond (decide (((0 : Int) <= (IntKind.wrap IntKind.i64 ((if ((65536 : Int) < n) then (65536 : Int) else n) - (((List.length s) : Nat) : Int)))) /\ (((IntKind.wrap IntKind.i64 ((if ((65536 : Int) < n) then (65536 : Int) else n) - (((List.length s) : Nat) : Int))) <= (IntKind.wrap IntKind.i64 ((if ((65536 : Int) < n) then (65536 : Int) else n) - (((List.length s) : Nat) : Int)))) /\ ((((IntKind.wrap IntKind.i64 ((if ((65536 : Int) < n) then (65536 : Int) else n) - (((List.length s) : Nat) : Int))) * (1 : Int)) <= (281474976710656 : Int)) /\ ((IntKind.wrap IntKind.i64 ((if ((65536 : Int) < n) then (65536 : Int) else n) - (((List.length s) : Nat) : Int))) <= (9223372036854775807 : Int))))))
 (cond (decide (((List.length s) + (List.length (z2f (List.replicate (Int.toNat (IntKind.wrap IntKind.i64 ((if ((65536 : Int) < n) then (65536 : Int) else n) - (((List.length s) : Nat) : Int)))) (0 : Int))))) <= 9223372036854775807))
 (some (s ++ (z2f (List.replicate (Int.toNat (IntKind.wrap IntKind.i64 ((if ((65536 : Int) < n) then (65536 : Int) else n) - (((List.length s) : Nat) : Int)))) (0 : Int)))))
 (none))
 (none))
def t_17 (N:Nat) : Tab (List UInt8) := []
theorem z1g5 (N:Nat) (x:z1h z12h) : z2q (E_17 N) N (t_17 N) L_17 Tryz.f94 (mkS z12h 0 x) (z1d (.v .str) 2) = zei N x.1 x.2.1 := by kernel_rfl
def zfe (N:Nat) : List A -> Res := z10 z12h (fun x=>zei N x.1 x.2.1) (z2p (.v .str) 2)
theorem zna (N:Nat) : Contract Tryz.prog glob 94 (zfe N) :=
  Contract.of (E := E_17 N) (H := t_17 N) (L := L_17) (N := N) (body := z1i1) (K := (z1d (.v .str) 2)) (z1wb N) Tryz.func94 (by kernel_rfl) (by decide) (fun _ hb=>TabOk.nil) (fun x y h=>by rw [z1g5]; exact h) (zn (s := (.v .str)) (m := 2))
def zyy : Code := (Tryz.f126.body).getD .skip
def L_18 : List (List Nat × List Nat) := [([0],[1,0]),([0,1],[1,5,0]),([0,0,1,1],[10,9,5,0,1]),([0,1,0,1,1],[10,9,5,0,1]),(z16h,[11,10,5,0,1,9]),(PQ9,[10,5,0,1,9]),(z1k3,[5]),(z1k4,[5,6,0,1,10,9]),(z1tq,[10,9,5,0,1]),(z1k2,[10,9,5,0,1]),(z1k1,[10,9,5,0,1]),([1,0,1,1],[5]),([0,1,1,1],[4]),([1,1,1,1],[4])]
def E_18 (N:Nat) : Env := z16 tys glob [] [(5,(.int .u8))] [] [] false [] [(98,z7 N)]
theorem z1wa (N:Nat) : EnvOk Tryz.prog (E_18 N) := zk mixed zo (FnsOk.nil) (ItsOk.cons (z8 N) (ItsOk.nil))
def zg8 (N:Nat) (n:Int) (size:Int) (x9:Int) (out:(List Int)) (x10:Int) (rec:(List Int) -> Int -> Option (List UInt8)) (k0:(List Int) -> Option (List UInt8)) : Option (List UInt8) :=
 cond (decide (x10 < x9))
 (cond (decide ((0 : Int) <= (IntKind.wrap IntKind.i64 ((8 : Int) * (IntKind.wrap IntKind.i64 ((IntKind.wrap IntKind.i64 (size - (1 : Int))) - x10))))))
 (cond (inR x10 (List.length out))
 (cond (decide ((Int.toNat x10) < (List.length out)))
 (rec (List.set out (Int.toNat x10) (IntKind.wrap IntKind.u8 (z3i IntKind.u64 n (IntKind.wrap IntKind.i64 ((8 : Int) * (IntKind.wrap IntKind.i64 ((IntKind.wrap IntKind.i64 (size - (1 : Int))) - x10))))))) (IntKind.wrap IntKind.i64 (x10 + (1 : Int))))
 (none))
 (none))
 (none))
 (k0 out)
def znz (N:Nat) (n:Int) (size:Int) (out:(List Int)) (x9:Int) (x10:Int) (k0:(List Int) -> Option (List UInt8)) : Option (List UInt8) :=
 iter (fun (v:((List Int) × Int)) r=>zg8 N n size x9 v.1 v.2 (fun out x10=>(r (out,x10))) k0) N (out,x10)
def z1sr (N:Nat) (i:(Int × Int × Int)) (v:((List Int) × Int)) (r:((List Int) × Int) -> Option (List UInt8)) (K:Ex -> List A -> Option (List UInt8)) : Option (List UInt8) :=
 zg8 N i.1 i.2.1 i.2.2 v.1 v.2 (fun out x10=>(r (out,x10))) (fun a0=>(K (.exit 0) (mkS [(5,.row (.int .u8))] 21 (a0,()))))
def z1qo (N:Nat) : Hd (List UInt8) := fun st K=>(unS SQ67 16 (restr [10,9,5,0,1] 0 st)).bind fun x=>iter (fun v r=>z1sr N ((fun x=>(x.1,x.2.1,x.2.2.2.1)) x) v r K) N ((fun x=>(x.2.2.1,x.2.2.2.2.1)) x)
def t1_18 (N:Nat) : Tab (List UInt8) := []
theorem z1o8 {N:Nat} {c:Ctx} (hb:Base Tryz.prog (E_18 N) c) : zq Tryz.prog c (zm zyy [0,1,0,1,1]) (z1qo N) :=
  z1k (s := SQ67) (m := 16) (z1sr N) [10,9,5,0,1] N (fun x=>(x.1,x.2.1,x.2.2.2.1)) (fun x=>(x.2.2.1,x.2.2.2.2.1)) (fun i v=>(i.1,i.2.1,v.1,i.2.2,v.2,())) (fun _=>rfl) (zi hb N (t1_18 N) L_18 zyy TabOk.nil [0,0,1,0,1,1] _ rfl) (fun i v r K=>by kernel_rfl)
def z4s (N:Nat) (n:Int) (size:Int) : Option (List UInt8) :=
 cond (decide (((0 : Int) <= size) /\ ((size <= size) /\ (((size * (1 : Int)) <= (281474976710656 : Int)) /\ (size <= (9223372036854775807 : Int))))))
 (znz N n size (List.replicate (Int.toNat size) (0 : Int)) size (0 : Int)
 (fun out=>some (z2f out)))
 (none)
def t_18 (N:Nat) : Tab (List UInt8) := [([0,1,0,1,1],z1qo N)]
theorem z1g4 (N:Nat) (x:z1h [(0,.v (.int .u64)),(0,.v (.int .i64))]) : z2q (E_18 N) N (t_18 N) L_18 Tryz.f126 (mkS [(0,.v (.int .u64)),(0,.v (.int .i64))] 0 x) (z1d (.v .str) 2) = z4s N x.1 x.2.1 := by kernel_rfl
def z99 (N:Nat) : List A -> Res := z10 [(0,.v (.int .u64)),(0,.v (.int .i64))] (fun x=>z4s N x.1 x.2.1) (z2p (.v .str) 2)
theorem zg9 (N:Nat) : Contract Tryz.prog glob 126 (z99 N) :=
  Contract.of (E := E_18 N) (H := t_18 N) (L := L_18) (N := N) (body := zyy) (K := (z1d (.v .str) 2)) (z1wa N) Tryz.func126 (by kernel_rfl) (by decide) (fun _ hb=>(TabOk.cons (z1o8 hb) TabOk.nil)) (fun x y h=>by rw [z1g4]; exact h) (zn (s := (.v .str)) (m := 2))
def z1i0 : Code := (Tryz.f118.body).getD .skip
def L_19 : List (List Nat × List Nat) := [([0],[0]),([0,1],[3,0]),([0,1,1],[2]),([1,1,1],[2])]
def E_19 (N:Nat) : Env := z16 tys glob [(126,z99 N),(94,zfe N)] [] [] [] false [] [(98,z7 N)]
theorem z1w9 (N:Nat) : EnvOk Tryz.prog (E_19 N) := zk mixed zo (FnsOk.cons (zg9 N) (FnsOk.cons (zna N) (FnsOk.nil))) (ItsOk.cons (z8 N) (ItsOk.nil))
def zf4 (N:Nat) (n:Int) : Option (List UInt8) :=
 (zei N ([(128 : UInt8)] : List UInt8) (IntKind.wrap IntKind.i64 ((1 : Int) + (Int.tmod (IntKind.wrap IntKind.i64 ((119 : Int) - (Int.tmod n (64 : Int)))) (64 : Int))))).bind fun y =>
 (z4s N (IntKind.wrap IntKind.u64 ((8 : Int) * (IntKind.wrap IntKind.u64 n))) (8 : Int)).bind fun y1 =>
 cond (decide (((List.length y) + (List.length y1)) <= 9223372036854775807))
 (some (y ++ y1))
 (none)
def t_19 (N:Nat) : Tab (List UInt8) := []
theorem z1g3 (N:Nat) (x:z1h [(0,.v (.int .i64))]) : z2q (E_19 N) N (t_19 N) L_19 Tryz.f118 (mkS [(0,.v (.int .i64))] 0 x) (z1d (.v .str) 1) = zf4 N x.1 := by kernel_rfl
def zd1 (N:Nat) : List A -> Res := z10 [(0,.v (.int .i64))] (fun x=>zf4 N x.1) (z2p (.v .str) 1)
theorem zj6 (N:Nat) : Contract Tryz.prog glob 118 (zd1 N) :=
  Contract.of (E := E_19 N) (H := t_19 N) (L := L_19) (N := N) (body := z1i0) (K := (z1d (.v .str) 1)) (z1w9 N) Tryz.func118 (by kernel_rfl) (by decide) (fun _ hb=>TabOk.nil) (fun x y h=>by rw [z1g3]; exact h) (zn (s := (.v .str)) (m := 1))
def zyx : Code := (Tryz.f117.body).getD .skip
def L_20 : List (List Nat × List Nat) := [([0],[1]),([0,1],[1,3]),([0,0,1,1],[7,6,3]),([0,1,0,1,1],[7,6,3]),(z16h,[8,6,7,3]),(PQ9,[6,7,3]),(z1k3,[3]),(z1k4,[3,5,7,6]),(z1tq,[7,6,3]),(z1k2,[7,6,3]),(z1k1,[7,6,3]),([1,0,1,1],[3]),([0,1,1,1],[2]),([1,1,1,1],[2])]
def E_20 (N:Nat) : Env := z16 tys glob [(126,z99 N)] [] [] [] false [] [(98,z7 N)]
theorem z1w8 (N:Nat) : EnvOk Tryz.prog (E_20 N) := zk mixed zo (FnsOk.cons (zg9 N) (FnsOk.nil)) (ItsOk.cons (z8 N) (ItsOk.nil))
def zoy (N:Nat) (x6:(List Int)) (out:(List UInt8)) (x7:Int) (rec:(List UInt8) -> Int -> Option (List UInt8)) (k0:(List UInt8) -> Option (List UInt8)) : Option (List UInt8) :=
 cond (decide (x7 < (8 : Int)))
 (cond (inR x7 8)
 ((z4s N (IntKind.wrap IntKind.u64 (List.getD x6 (Int.toNat x7) (0 : Int))) (4 : Int)).bind fun y =>
 cond (decide (((List.length out) + (List.length y)) <= 9223372036854775807))
 (rec (out ++ y) (IntKind.wrap IntKind.i64 (x7 + (1 : Int))))
 (none))
 (none))
 (k0 out)
def zx1 (N:Nat) (out:(List UInt8)) (x6:(List Int)) (x7:Int) (k0:(List UInt8) -> Option (List UInt8)) : Option (List UInt8) :=
 iter (fun (v:((List UInt8) × Int)) r=>zoy N x6 v.1 v.2 (fun out x7=>(r (out,x7))) k0) N (out,x7)
def z1sq (N:Nat) (i:(List Int)) (v:((List UInt8) × Int)) (r:((List UInt8) × Int) -> Option (List UInt8)) (K:Ex -> List A -> Option (List UInt8)) : Option (List UInt8) :=
 zoy N i v.1 v.2 (fun out x7=>(r (out,x7))) (fun a0=>(K (.exit 0) (mkS [(3,.v .str)] 13 (a0,()))))
def z1qn (N:Nat) : Hd (List UInt8) := fun st K=>(unS [(3,.v .str),(2,.v (.arr 8 (.int .u32))),(0,.v (.int .i64))] 9 (restr [7,6,3] 0 st)).bind fun x=>iter (fun v r=>z1sq N ((fun x=>x.2.1) x) v r K) N ((fun x=>(x.1,x.2.2.1)) x)
def t1_20 (N:Nat) : Tab (List UInt8) := []
theorem z1o7 {N:Nat} {c:Ctx} (hb:Base Tryz.prog (E_20 N) c) : zq Tryz.prog c (zm zyx [0,1,0,1,1]) (z1qn N) :=
  z1k (s := [(3,.v .str),(2,.v (.arr 8 (.int .u32))),(0,.v (.int .i64))]) (m := 9) (z1sq N) [7,6,3] N (fun x=>x.2.1) (fun x=>(x.1,x.2.2.1)) (fun i v=>(v.1,i,v.2,())) (fun _=>rfl) (zi hb N (t1_20 N) L_20 zyx TabOk.nil [0,0,1,0,1,1] _ rfl) (fun i v r K=>by kernel_rfl)
def z9k (N:Nat) (h:(List Int)) : Option (List UInt8) :=
 zx1 N ([] : List UInt8) h (0 : Int)
 (fun out=>some out)
def t_20 (N:Nat) : Tab (List UInt8) := [([0,1,0,1,1],z1qn N)]
theorem z1g2 (N:Nat) (x:z1h z1jr) : z2q (E_20 N) N (t_20 N) L_20 Tryz.f117 (mkS z1jr 0 x) (z1d (.v .str) 1) = z9k N x.1 := by kernel_rfl
def zd3 (N:Nat) : List A -> Res := z10 z1jr (fun x=>z9k N x.1) (z2p (.v .str) 1)
theorem zj8 (N:Nat) : Contract Tryz.prog glob 117 (zd3 N) :=
  Contract.of (E := E_20 N) (H := t_20 N) (L := L_20) (N := N) (body := zyx) (K := (z1d (.v .str) 1)) (z1w8 N) Tryz.func117 (by kernel_rfl) (by decide) (fun _ hb=>(TabOk.cons (z1o7 hb) TabOk.nil)) (fun x y h=>by rw [z1g2]; exact h) (zn (s := (.v .str)) (m := 1))
def zqy : Code := (Tryz.f108.body).getD .skip
def L_21 : List (List Nat × List Nat) := [([0],[0]),([0,0,1],[11,0]),([1,0,1],[0]),([0,0,1,0,1],[2,0]),([1,0,1,0,1],[2,0]),([0,1,1],[2,0]),([1,1,1],[2,0])]
def z1wr (N:Nat) : Env := z16 tys glob [(117,zd3 N),(118,zd1 N),(116,z66 N)] [] [] [0] false [] [(98,z7 N)]
theorem z1w7 (N:Nat) : EnvOk Tryz.prog (z1wr N) := zk mixed zo (FnsOk.cons (zj8 N) (FnsOk.cons (zj6 N) (FnsOk.cons (z9w N) (FnsOk.nil)))) (ItsOk.cons (z8 N) (ItsOk.nil))
def zai (N:Nat) (h:DT9) (k0:Bool -> Option zlu) : Option zlu :=
 k0 (!h.1)
def z1rp (N:Nat) (x:z1h [(0,.box TT6)]) (K:Ex -> List A -> Option zlu) : Option zlu :=
 zai N x.1 (fun a1=>(K .normal (mkS [(0,.box TT6),(10,.v .bool)] 17 (x.1,a1,()))))
def z1pm (N:Nat) : Hd zlu := fun st K=>(unS [(0,.box TT6)] 28 (restr [0] 0 st)).bind fun x=>z1rp N x K
def t2_21 (N:Nat) : Tab zlu := []
theorem z1n6 {N:Nat} {c:Ctx} (hb:Base Tryz.prog (z1wr N) c) : zq Tryz.prog c (zm zqy [0,0,1]) (z1pm N) :=
  z17 (s := [(0,.box TT6)]) (m := 28) (g := z1rp N) [0] (zi hb N (t2_21 N) L_21 zqy TabOk.nil [0,0,1] _ rfl) (fun x K=>by kernel_rfl)
def zaj (N:Nat) (h:DT9) (k0:Option zlu) : Option zlu :=
 zai N h
 (fun x11=>cond x11
 (none)
 (k0))
def z1sp (N:Nat) (x:z1h [(0,.box TT6)]) (K:Ex -> List A -> Option zlu) : Option zlu :=
 zaj N x.1 (K .normal (mkS [(0,.box TT6)] 28 (x.1,())))
def z1qm (N:Nat) : Hd zlu := fun st K=>(unS [(0,.box TT6)] 28 (restr [0] 0 st)).bind fun x=>z1sp N x K
def t1_21 (N:Nat) : Tab zlu := [([0,0,1],z1pm N)]
theorem z1o6 {N:Nat} {c:Ctx} (hb:Base Tryz.prog (z1wr N) c) : zq Tryz.prog c (zm zqy [0,1]) (z1qm N) :=
  z17 (s := [(0,.box TT6)]) (m := 28) (g := z1sp N) [0] (zi hb N (t1_21 N) L_21 zqy (TabOk.cons (z1n6 hb) TabOk.nil) [0,1] _ rfl) (fun x K=>by kernel_rfl)
def z8g (N:Nat) (h:DT9) : Option zlu :=
 zaj N h
 ((zf4 N h.2.2.2.1).bind fun y =>
 cond (decide (((List.length h.2.2.1) + (List.length y)) <= 9223372036854775807))
 ((z9x N h.2.1 (h.2.2.1 ++ y)).bind fun y1 =>
 (z9k N y1).bind fun y2 =>
 some (y2,(h,())))
 (none))
def t_21 (N:Nat) : Tab zlu := [([0,1],z1qm N)]
theorem z1g1 (N:Nat) (x:z1h [(0,.box TT6)]) : z2q (z1wr N) N (t_21 N) L_21 Tryz.f108 (mkS [(0,.box TT6)] 0 x) (zel (.v .str) [(0,.box TT6)] 0) = z8g N x.1 := by kernel_rfl
def z9a (N:Nat) : List A -> Res := z10 [(0,.box TT6)] (fun x=>z8g N x.1) (zmg (.v .str) [(0,.box TT6)] 0)
theorem zgb (N:Nat) : Contract Tryz.prog glob 108 (z9a N) :=
  Contract.of (E := z1wr N) (H := t_21 N) (L := L_21) (N := N) (body := zqy) (K := (zel (.v .str) [(0,.box TT6)] 0)) (z1w7 N) Tryz.func108 (by kernel_rfl) (by decide) (fun _ hb=>(TabOk.cons (z1o6 hb) TabOk.nil)) (fun x y h=>by rw [z1g1]; exact h) (zb6 (s := (.v .str)) (os := [(0,.box TT6)]) (m := 0))
def z1hz : Code := (Tryz.f93.body).getD .skip
def L_22 : List (List Nat × List Nat) := [([0],[0]),([0,1],[3,0]),([0,1,1],[3]),([0,1,1,1],[2]),([1,1,1,1],[2])]
def E_22 (N:Nat) : Env := z16 tys glob [(108,z9a N),(107,z6p N),(106,zjc N)] [] [] [] false [] [(98,z7 N)]
theorem z1w6 (N:Nat) : EnvOk Tryz.prog (E_22 N) := zk mixed zo (FnsOk.cons (zgb N) (FnsOk.cons (z96 N) (FnsOk.cons (zry N) (FnsOk.nil)))) (ItsOk.cons (z8 N) (ItsOk.nil))
def zj9 (N:Nat) (s:(List UInt8)) : Option (List UInt8) :=
 (z5r N (true,(([(1779033703 : Int),(3144134277 : Int),(1013904242 : Int),(2773480762 : Int),(1359893119 : Int),(2600822924 : Int),(528734635 : Int),(1541459225 : Int)] : List Int),(([] : List UInt8),((0 : Int),())))) s).bind fun y =>
 (z8g N y.2.1).bind fun y1 =>
 some y1.1
def t_22 (N:Nat) : Tab (List UInt8) := []
theorem z1g0 (N:Nat) (x:z1h [(0,.v .str)]) : z2q (E_22 N) N (t_22 N) L_22 Tryz.f93 (mkS [(0,.v .str)] 0 x) (z1d (.v .str) 1) = zj9 N x.1 := by kernel_rfl
def zf5 (N:Nat) : List A -> Res := z10 [(0,.v .str)] (fun x=>zj9 N x.1) (z2p (.v .str) 1)
theorem zm2 (N:Nat) : Contract Tryz.prog glob 93 (zf5 N) :=
  Contract.of (E := E_22 N) (H := t_22 N) (L := L_22) (N := N) (body := z1hz) (K := (z1d (.v .str) 1)) (z1w6 N) Tryz.func93 (by kernel_rfl) (by decide) (fun _ hb=>TabOk.nil) (fun x y h=>by rw [z1g0]; exact h) (zn (s := (.v .str)) (m := 1))
def zqx : Code := (Tryz.f108.body).getD .skip
def L_23 : List (List Nat × List Nat) := [([0],[0]),([0,0,1],[11,0]),([1,0,1],[0]),([0,0,1,0,1],[2,0]),([1,0,1,0,1],[2,0]),([0,1,1],[2,0]),([1,1,1],[2,0])]
def z1wq (N:Nat) : Env := z16 tys glob [(93,zf5 N),(117,zd3 N),(118,zd1 N),(116,z66 N)] [] [] [0] false [] [(98,z7 N)]
theorem z1w5 (N:Nat) : EnvOk Tryz.prog (z1wq N) := zk mixed zo (FnsOk.cons (zm2 N) (FnsOk.cons (zj8 N) (FnsOk.cons (zj6 N) (FnsOk.cons (z9w N) (FnsOk.nil))))) (ItsOk.cons (z8 N) (ItsOk.nil))
def zbt (N:Nat) (h:DT9) (k0:Bool -> Option zlu) : Option zlu :=
 k0 (!h.1)
def z1ro (N:Nat) (x:z1h [(0,.box TT6)]) (K:Ex -> List A -> Option zlu) : Option zlu :=
 zbt N x.1 (fun a1=>(K .normal (mkS [(0,.box TT6),(10,.v .bool)] 17 (x.1,a1,()))))
def z1pl (N:Nat) : Hd zlu := fun st K=>(unS [(0,.box TT6)] 28 (restr [0] 0 st)).bind fun x=>z1ro N x K
def t2_23 (N:Nat) : Tab zlu := []
theorem z1n5 {N:Nat} {c:Ctx} (hb:Base Tryz.prog (z1wq N) c) : zq Tryz.prog c (zm zqx [0,0,1]) (z1pl N) :=
  z17 (s := [(0,.box TT6)]) (m := 28) (g := z1ro N) [0] (zi hb N (t2_23 N) L_23 zqx TabOk.nil [0,0,1] _ rfl) (fun x K=>by kernel_rfl)
def zbu (N:Nat) (h:DT9) (k0:(List UInt8) -> Option zlu) (k1:Option zlu) : Option zlu :=
 zbt N h
 (fun x11=>cond x11
 ((zj9 N ([] : List UInt8)).bind fun y =>
 k0 y)
 (k1))
def z1so (N:Nat) (x:z1h [(0,.box TT6)]) (K:Ex -> List A -> Option zlu) : Option zlu :=
 zbu N x.1 (fun a1=>(K .ret (mkS [(0,.box TT6),(1,.v .str)] 26 (x.1,a1,())))) (K .normal (mkS [(0,.box TT6)] 28 (x.1,())))
def z1ql (N:Nat) : Hd zlu := fun st K=>(unS [(0,.box TT6)] 28 (restr [0] 0 st)).bind fun x=>z1so N x K
def t1_23 (N:Nat) : Tab zlu := [([0,0,1],z1pl N)]
theorem z1o5 {N:Nat} {c:Ctx} (hb:Base Tryz.prog (z1wq N) c) : zq Tryz.prog c (zm zqx [0,1]) (z1ql N) :=
  z17 (s := [(0,.box TT6)]) (m := 28) (g := z1so N) [0] (zi hb N (t1_23 N) L_23 zqx (TabOk.cons (z1n5 hb) TabOk.nil) [0,1] _ rfl) (fun x K=>by kernel_rfl)
def z7y (N:Nat) (h:DT9) : Option zlu :=
 zbu N h
 (fun x2=>some (x2,(h,())))
 ((zf4 N h.2.2.2.1).bind fun y =>
 cond (decide (((List.length h.2.2.1) + (List.length y)) <= 9223372036854775807))
 ((z9x N h.2.1 (h.2.2.1 ++ y)).bind fun y1 =>
 (z9k N y1).bind fun y2 =>
 some (y2,(h,())))
 (none))
def t_23 (N:Nat) : Tab zlu := [([0,1],z1ql N)]
theorem z1fz (N:Nat) (x:z1h [(0,.box TT6)]) : z2q (z1wq N) N (t_23 N) L_23 Tryz.f108 (mkS [(0,.box TT6)] 0 x) (zel (.v .str) [(0,.box TT6)] 0) = z7y N x.1 := by kernel_rfl
def zo0 (N:Nat) : List A -> Res := z10 [(0,.box TT6)] (fun x=>z7y N x.1) (zmg (.v .str) [(0,.box TT6)] 0)
theorem zp1 (N:Nat) : Contract Tryz.prog glob 108 (zo0 N) :=
  Contract.of (E := z1wq N) (H := t_23 N) (L := L_23) (N := N) (body := zqx) (K := (zel (.v .str) [(0,.box TT6)] 0)) (z1w5 N) Tryz.func108 (by kernel_rfl) (by decide) (fun _ hb=>(TabOk.cons (z1o5 hb) TabOk.nil)) (fun x y h=>by rw [z1fz]; exact h) (zb6 (s := (.v .str)) (os := [(0,.box TT6)]) (m := 0))
def zga (N:Nat) : List A -> Res := zs3 [(0,.box TT6)] (fun x=>z7y N x.1) (zmg (.v .str) [(0,.box TT6)] 0) (z9a N)
theorem zkf (N:Nat) : Contract Tryz.prog glob 108 (zga N) := Contract.alt (zp1 N) (zgb N)
def zqw : Code := (Tryz.f108.body).getD .skip
def L_24 : List (List Nat × List Nat) := [([0],[0]),([0,0,1],[11,0]),([1,0,1],[0]),([0,0,1,0,1],[2]),([1,0,1,0,1],[2]),([0,1,1],[2]),([1,1,1],[2])]
def z1wp (N:Nat) : Env := z16 tys glob [(93,zf5 N),(117,zd3 N),(118,zd1 N),(116,z66 N)] [] [] [] false [] [(98,z7 N)]
theorem z1w4 (N:Nat) : EnvOk Tryz.prog (z1wp N) := zk mixed zo (FnsOk.cons (zm2 N) (FnsOk.cons (zj8 N) (FnsOk.cons (zj6 N) (FnsOk.cons (z9w N) (FnsOk.nil))))) (ItsOk.cons (z8 N) (ItsOk.nil))
def zbv (N:Nat) (k0:Bool -> Option (List UInt8)) : Option (List UInt8) :=
 k0 true
def z1rn (N:Nat) (x:z1h [(0,.nilp)]) (K:Ex -> List A -> Option (List UInt8)) : Option (List UInt8) :=
 zbv N (fun a0=>(K .normal (mkS [(0,.nilp),(10,.v .bool)] 17 ((),a0,()))))
def z1pk (N:Nat) : Hd (List UInt8) := fun st K=>(unS [(0,.nilp)] 28 (restr [0] 0 st)).bind fun x=>z1rn N x K
def t2_24 (N:Nat) : Tab (List UInt8) := []
theorem z1n4 {N:Nat} {c:Ctx} (hb:Base Tryz.prog (z1wp N) c) : zq Tryz.prog c (zm zqw [0,0,1]) (z1pk N) :=
  z17 (s := [(0,.nilp)]) (m := 28) (g := z1rn N) [0] (zi hb N (t2_24 N) L_24 zqw TabOk.nil [0,0,1] _ rfl) (fun x K=>by kernel_rfl)
def zbw (N:Nat) (k0:(List UInt8) -> Option (List UInt8)) (k1:Option (List UInt8)) : Option (List UInt8) :=
 zbv N
 (fun x11=>cond x11
 ((zj9 N ([] : List UInt8)).bind fun y =>
 k0 y)
 (k1))
def z1sn (N:Nat) (x:z1h [(0,.nilp)]) (K:Ex -> List A -> Option (List UInt8)) : Option (List UInt8) :=
 zbw N (fun a0=>(K .ret (mkS [(2,.v .str)] 26 (a0,())))) (K .normal (mkS [(0,.nilp)] 28 ((),())))
def z1qk (N:Nat) : Hd (List UInt8) := fun st K=>(unS [(0,.nilp)] 28 (restr [0] 0 st)).bind fun x=>z1sn N x K
def t1_24 (N:Nat) : Tab (List UInt8) := [([0,0,1],z1pk N)]
theorem z1o4 {N:Nat} {c:Ctx} (hb:Base Tryz.prog (z1wp N) c) : zq Tryz.prog c (zm zqw [0,1]) (z1qk N) :=
  z17 (s := [(0,.nilp)]) (m := 28) (g := z1sn N) [0] (zi hb N (t1_24 N) L_24 zqw (TabOk.cons (z1n4 hb) TabOk.nil) [0,1] _ rfl) (fun x K=>by kernel_rfl)
def zah (N:Nat) : Option (List UInt8) :=
 zbw N
 (fun x2=>some x2)
 (none)
def t_24 (N:Nat) : Tab (List UInt8) := [([0,1],z1qk N)]
theorem z1fy (N:Nat) (x:z1h [(0,.nilp)]) : z2q (z1wp N) N (t_24 N) L_24 Tryz.f108 (mkS [(0,.nilp)] 0 x) (z1d (.v .str) 1) = zah N := by kernel_rfl
def zia (N:Nat) : List A -> Res := z10 [(0,.nilp)] (fun x=>zah N) (z2p (.v .str) 1)
theorem zjd (N:Nat) : Contract Tryz.prog glob 108 (zia N) :=
  Contract.of (E := z1wp N) (H := t_24 N) (L := L_24) (N := N) (body := zqw) (K := (z1d (.v .str) 1)) (z1w4 N) Tryz.func108 (by kernel_rfl) (by decide) (fun _ hb=>(TabOk.cons (z1o4 hb) TabOk.nil)) (fun x y h=>by rw [z1fy]; exact h) (zn (s := (.v .str)) (m := 1))
def zap (N:Nat) : List A -> Res := zs3 [(0,.nilp)] (fun x=>zah N) (z2p (.v .str) 1) (zga N)
theorem zgj (N:Nat) : Contract Tryz.prog glob 108 (zap N) := Contract.alt (zjd N) (zkf N)
def zyw : Code := (Tryz.f96.body).getD .skip
def L_33 : List (List Nat × List Nat) := [([0],[0,1]),([0,1],[5,0,1]),([0,0,1,1],[15,14,5,0,1]),([0,1,0,1,1],[15,14,5,0,1]),(z16h,[16,15,5,0,1,14]),(PQ9,[15,5,0,1,14]),(z1k3,[5]),(z1k4,[5,6,0,1,15,14]),(z1tq,[15,14,5,0,1]),(z1k2,[15,14,5,0,1]),(z1k1,[15,14,5,0,1]),([1,0,1,1],[5]),([0,1,1,1],[4]),([1,1,1,1],[4])]
def E_33 (N:Nat) : Env := z16 tys glob [] [(5,(.int .u8))] [] [] false [] [(98,z7 N)]
theorem z1w3 (N:Nat) : EnvOk Tryz.prog (E_33 N) := zk mixed zo (FnsOk.nil) (ItsOk.cons (z8 N) (ItsOk.nil))
def zh6 (N:Nat) (a:(List UInt8)) (b:(List UInt8)) (x14:Int) (out:(List Int)) (x15:Int) (rec:(List Int) -> Int -> Option (List UInt8)) (k0:(List Int) -> Option (List UInt8)) : Option (List UInt8) :=
 cond (decide (x15 < x14))
 (cond (inR x15 (List.length a))
 (cond (inR x15 (List.length b))
 (cond (inR x15 (List.length out))
 (cond (decide ((Int.toNat x15) < (List.length out)))
 (rec (List.set out (Int.toNat x15) (zj Go.BinOp.xor IntKind.u8 (((UInt8.toNat (List.getD a (Int.toNat x15) (0 : UInt8))) : Nat) : Int) (((UInt8.toNat (List.getD b (Int.toNat x15) (0 : UInt8))) : Nat) : Int))) (IntKind.wrap IntKind.i64 (x15 + (1 : Int))))
 (none))
 (none))
 (none))
 (none))
 (k0 out)
def zn8 (N:Nat) (a:(List UInt8)) (b:(List UInt8)) (out:(List Int)) (x14:Int) (x15:Int) (k0:(List Int) -> Option (List UInt8)) : Option (List UInt8) :=
 iter (fun (v:((List Int) × Int)) r=>zh6 N a b x14 v.1 v.2 (fun out x15=>(r (out,x15))) k0) N (out,x15)
def z1sm (N:Nat) (i:((List UInt8) × (List UInt8) × Int)) (v:((List Int) × Int)) (r:((List Int) × Int) -> Option (List UInt8)) (K:Ex -> List A -> Option (List UInt8)) : Option (List UInt8) :=
 zh6 N i.1 i.2.1 i.2.2 v.1 v.2 (fun out x15=>(r (out,x15))) (fun a0=>(K (.exit 0) (mkS [(5,.row (.int .u8))] 25 (a0,()))))
def z1qj (N:Nat) : Hd (List UInt8) := fun st K=>(unS SQ94 15 (restr [15,14,5,0,1] 0 st)).bind fun x=>iter (fun v r=>z1sm N ((fun x=>(x.1,x.2.1,x.2.2.2.1)) x) v r K) N ((fun x=>(x.2.2.1,x.2.2.2.2.1)) x)
def t1_33 (N:Nat) : Tab (List UInt8) := []
theorem z1o3 {N:Nat} {c:Ctx} (hb:Base Tryz.prog (E_33 N) c) : zq Tryz.prog c (zm zyw [0,1,0,1,1]) (z1qj N) :=
  z1k (s := SQ94) (m := 15) (z1sm N) [15,14,5,0,1] N (fun x=>(x.1,x.2.1,x.2.2.2.1)) (fun x=>(x.2.2.1,x.2.2.2.2.1)) (fun i v=>(i.1,i.2.1,v.1,i.2.2,v.2,())) (fun _=>rfl) (zi hb N (t1_33 N) L_33 zyw TabOk.nil [0,0,1,0,1,1] _ rfl) (fun i v r K=>by kernel_rfl)
def zeh (N:Nat) (a:(List UInt8)) (b:(List UInt8)) : Option (List UInt8) :=
 cond (decide (((0 : Int) <= (if ((((List.length b) : Nat) : Int) < (((List.length a) : Nat) : Int)) then (((List.length b) : Nat) : Int) else (((List.length a) : Nat) : Int))) /\ (((if ((((List.length b) : Nat) : Int) < (((List.length a) : Nat) : Int)) then (((List.length b) : Nat) : Int) else (((List.length a) : Nat) : Int)) <= (if ((((List.length b) : Nat) : Int) < (((List.length a) : Nat) : Int)) then (((List.length b) : Nat) : Int) else (((List.length a) : Nat) : Int))) /\ ((((if ((((List.length b) : Nat) : Int) < (((List.length a) : Nat) : Int)) then (((List.length b) : Nat) : Int) else (((List.length a) : Nat) : Int)) * (1 : Int)) <= (281474976710656 : Int)) /\ ((if ((((List.length b) : Nat) : Int) < (((List.length a) : Nat) : Int)) then (((List.length b) : Nat) : Int) else (((List.length a) : Nat) : Int)) <= (9223372036854775807 : Int))))))
 (zn8 N a b (List.replicate (Int.toNat (if ((((List.length b) : Nat) : Int) < (((List.length a) : Nat) : Int)) then (((List.length b) : Nat) : Int) else (((List.length a) : Nat) : Int))) (0 : Int)) (((List.length (List.replicate (Int.toNat (if ((((List.length b) : Nat) : Int) < (((List.length a) : Nat) : Int)) then (((List.length b) : Nat) : Int) else (((List.length a) : Nat) : Int))) (0 : Int))) : Nat) : Int) (0 : Int)
 (fun out=>some (z2f out)))
 (none)
def t_33 (N:Nat) : Tab (List UInt8) := [([0,1,0,1,1],z1qj N)]
theorem z1fx (N:Nat) (x:z1h SQ0) : z2q (E_33 N) N (t_33 N) L_33 Tryz.f96 (mkS SQ0 0 x) (z1d (.v .str) 2) = zeh N x.1 x.2.1 := by kernel_rfl
def zfd (N:Nat) : List A -> Res := z10 SQ0 (fun x=>zeh N x.1 x.2.1) (z2p (.v .str) 2)
theorem zn9 (N:Nat) : Contract Tryz.prog glob 96 (zfd N) :=
  Contract.of (E := E_33 N) (H := t_33 N) (L := L_33) (N := N) (body := zyw) (K := (z1d (.v .str) 2)) (z1w3 N) Tryz.func96 (by kernel_rfl) (by decide) (fun _ hb=>(TabOk.cons (z1o3 hb) TabOk.nil)) (fun x y h=>by rw [z1fx]; exact h) (zn (s := (.v .str)) (m := 2))
def z1hy : Code := (Tryz.f95.body).getD .skip
def L_34 : List (List Nat × List Nat) := [([0],[0,1,2]),([0,1],[7,0,1,2]),([0,1,1],[7,2]),([0,1,1,1],[7]),([0,1,1,1,1],[6]),([1,1,1,1,1],[6])]
def E_34 (N:Nat) : Env := z16 tys glob [(96,zfd N),(108,zap N),(107,z6p N),(106,zjc N),(109,zs4)] [] [] [] false [] [(98,z7 N)]
theorem z1w2 (N:Nat) : EnvOk Tryz.prog (E_34 N) := zk mixed zo (FnsOk.cons (zn9 N) (FnsOk.cons (zgj N) (FnsOk.cons (z96 N) (FnsOk.cons (zry N) (FnsOk.cons (z13m glob) (FnsOk.nil)))))) (ItsOk.cons (z8 N) (ItsOk.nil))
def zbg (N:Nat) (key:(List UInt8)) (mask:(List UInt8)) (text:(List UInt8)) : Option (List UInt8) :=
 (zo8 (mask,((64 : Int),()))).bind fun y =>
 (zeh N key y).bind fun y1 =>
 (z5r N (true,(([(1779033703 : Int),(3144134277 : Int),(1013904242 : Int),(2773480762 : Int),(1359893119 : Int),(2600822924 : Int),(528734635 : Int),(1541459225 : Int)] : List Int),(([] : List UInt8),((0 : Int),())))) y1).bind fun y2 =>
 (z5r N y2.2.1 text).bind fun y3 =>
 (z7y N y3.2.1).bind fun y4 =>
 some y4.1
def t_34 (N:Nat) : Tab (List UInt8) := []
theorem z1fw (N:Nat) (x:z1h SQ2) : z2q (E_34 N) N (t_34 N) L_34 Tryz.f95 (mkS SQ2 0 x) (z1d (.v .str) 3) = zbg N x.1 x.2.1 x.2.2.1 := by kernel_rfl
def zix (N:Nat) : List A -> Res := z10 SQ2 (fun x=>zbg N x.1 x.2.1 x.2.2.1) (z2p (.v .str) 3)
theorem ztq (N:Nat) : Contract Tryz.prog glob 95 (zix N) :=
  Contract.of (E := E_34 N) (H := t_34 N) (L := L_34) (N := N) (body := z1hy) (K := (z1d (.v .str) 3)) (z1w2 N) Tryz.func95 (by kernel_rfl) (by decide) (fun _ hb=>TabOk.nil) (fun x y h=>by rw [z1fw]; exact h) (zn (s := (.v .str)) (m := 3))
def zyv : Code := (Tryz.f72.body).getD .skip
def L_35 : List (List Nat × List Nat) := [([0],[0,1]),([0,0,1],[8,0,1]),([1,0,1],[0,1]),([0,1,0,1],[0,1]),([0,1,1],[0,1]),([0,1,1,1],[0,5]),([0,1,1,1,1],[4]),([1,1,1,1,1],[4])]
def E_35 (N:Nat) : Env := z16 tys glob [(95,zix N),(93,zf5 N),(94,zfe N)] [] [] [] false [] [(98,z7 N)]
theorem z1w1 (N:Nat) : EnvOk Tryz.prog (E_35 N) := zk mixed zo (FnsOk.cons (ztq N) (FnsOk.cons (zm2 N) (FnsOk.cons (zna N) (FnsOk.nil)))) (ItsOk.cons (z8 N) (ItsOk.nil))
def zfp (N:Nat) (key:(List UInt8)) (text:(List UInt8)) (k0:(List UInt8) -> Option (List UInt8)) : Option (List UInt8) :=
 cond (decide ((64 : Int) < (((List.length key) : Nat) : Int)))
 ((zj9 N key).bind fun y =>
 k0 y)
 (k0 key)
def z1sl (N:Nat) (x:z1h SQ0) (K:Ex -> List A -> Option (List UInt8)) : Option (List UInt8) :=
 zfp N x.1 x.2.1 (fun a0=>(K .normal (mkS SQ0 17 (a0,x.2.1,()))))
def z1qi (N:Nat) : Hd (List UInt8) := fun st K=>(unS SQ0 17 (restr [0,1] 0 st)).bind fun x=>z1sl N x K
def t1_35 (N:Nat) : Tab (List UInt8) := []
theorem z1o2 {N:Nat} {c:Ctx} (hb:Base Tryz.prog (E_35 N) c) : zq Tryz.prog c (zm zyv [0,1]) (z1qi N) :=
  z17 (s := SQ0) (m := 17) (g := z1sl N) [0,1] (zi hb N (t1_35 N) L_35 zyv TabOk.nil [0,1] _ rfl) (fun x K=>by kernel_rfl)
def zi4 (N:Nat) (key:(List UInt8)) (text:(List UInt8)) : Option (List UInt8) :=
 zfp N key text
 (fun zxs=>(zei N zxs (64 : Int)).bind fun y =>
 (zbg N y ([(54 : UInt8)] : List UInt8) text).bind fun y1 =>
 (zbg N y ([(92 : UInt8)] : List UInt8) y1).bind fun y2 =>
 some y2)
def t_35 (N:Nat) : Tab (List UInt8) := [([0,1],z1qi N)]
theorem z1fv (N:Nat) (x:z1h SQ0) : z2q (E_35 N) N (t_35 N) L_35 Tryz.f72 (mkS SQ0 0 x) (z1d (.v .str) 2) = zi4 N x.1 x.2.1 := by kernel_rfl
def zhg (N:Nat) : List A -> Res := z10 SQ0 (fun x=>zi4 N x.1 x.2.1) (z2p (.v .str) 2)
theorem zqa (N:Nat) : Contract Tryz.prog glob 72 (zhg N) :=
  Contract.of (E := E_35 N) (H := t_35 N) (L := L_35) (N := N) (body := zyv) (K := (z1d (.v .str) 2)) (z1w1 N) Tryz.func72 (by kernel_rfl) (by decide) (fun _ hb=>(TabOk.cons (z1o2 hb) TabOk.nil)) (fun x y h=>by rw [z1fv]; exact h) (zn (s := (.v .str)) (m := 2))
def z1hx : Code := (Tryz.f45.body).getD .skip
def L_36 : List (List Nat × List Nat) := [([0],[0,1]),([0,1],[4]),([1,1],[4])]
def E_36 (N:Nat) : Env := z16 tys glob [(72,zhg N),(47,zdt N)] [] [] [] false [] [(98,z7 N)]
theorem z1w0 (N:Nat) : EnvOk Tryz.prog (E_36 N) := zk mixed zo (FnsOk.cons (zqa N) (FnsOk.cons (zlb N) (FnsOk.nil))) (ItsOk.cons (z8 N) (ItsOk.nil))
def z2n (N:Nat) (key:(List UInt8)) (parts:(List (List UInt8))) : Option (List UInt8) :=
 (z87 N parts).bind fun y =>
 (zi4 N key y).bind fun y1 =>
 some y1
def t_36 (N:Nat) : Tab (List UInt8) := []
theorem z1fu (N:Nat) (x:z1h z1js) : z2q (E_36 N) N (t_36 N) L_36 Tryz.f45 (mkS z1js 0 x) (z1d (.v .str) 2) = z2n N x.1 x.2.1 := by kernel_rfl
def z3d (N:Nat) : List A -> Res := z10 z1js (fun x=>z2n N x.1 x.2.1) (z2p (.v .str) 2)
theorem z4y (N:Nat) : Contract Tryz.prog glob 45 (z3d N) :=
  Contract.of (E := E_36 N) (H := t_36 N) (L := L_36) (N := N) (body := z1hx) (K := (z1d (.v .str) 2)) (z1w0 N) Tryz.func45 (by kernel_rfl) (by decide) (fun _ hb=>TabOk.nil) (fun x y h=>by rw [z1fu]; exact h) (zn (s := (.v .str)) (m := 2))
def z1hw : Code := (Tryz.f19.body).getD .skip
def L_37 : List (List Nat × List Nat) := [([0],[0,1]),([0,1],[4]),([1,1],[4])]
def E_37 (N:Nat) : Env := z16 tys glob [(45,z3d N)] [] [] [] false [] [(98,z7 N)]
theorem z1vz (N:Nat) : EnvOk Tryz.prog (E_37 N) := zk mixed zo (FnsOk.cons (z4y N) (FnsOk.nil)) (ItsOk.cons (z8 N) (ItsOk.nil))
def z5e (N:Nat) (key:(List UInt8)) (id_:(List UInt8)) : Option (List UInt8) :=
 (z2n N key ([([(114 : UInt8),(111 : UInt8),(111 : UInt8),(116 : UInt8)] : List UInt8),id_] : List (List UInt8))).bind fun y =>
 some y
def t_37 (N:Nat) : Tab (List UInt8) := []
theorem z1ft (N:Nat) (x:z1h SQ0) : z2q (E_37 N) N (t_37 N) L_37 Tryz.f19 (mkS SQ0 0 x) (z1d (.v .str) 2) = z5e N x.1 x.2.1 := by kernel_rfl
def z5d (N:Nat) : List A -> Res := z10 SQ0 (fun x=>z5e N x.1 x.2.1) (z2p (.v .str) 2)
theorem z92 (N:Nat) : Contract Tryz.prog glob 19 (z5d N) :=
  Contract.of (E := E_37 N) (H := t_37 N) (L := L_37) (N := N) (body := z1hw) (K := (z1d (.v .str) 2)) (z1vz N) Tryz.func19 (by kernel_rfl) (by decide) (fun _ hb=>TabOk.nil) (fun x y h=>by rw [z1ft]; exact h) (zn (s := (.v .str)) (m := 2))
def z1hv : Code := (Tryz.f49.body).getD .skip
def L_38 : List (List Nat × List Nat) := [([0],[1]),([0,1],[2]),([1,1],[2])]
def E_38 (N:Nat) : Env := z16 tys glob [] [] [] [] false [] [(98,z7 N)]
theorem z1vy (N:Nat) : EnvOk Tryz.prog (E_38 N) := zk mixed zo (FnsOk.nil) (ItsOk.cons (z8 N) (ItsOk.nil))
def zb1 (N:Nat) (a:(DT8 × (DT1 × Unit))) : Option Bool :=
 some (decide ((64 : Int) <= (((List.length a.2.1.2.1) : Nat) : Int)))
def t_38 (N:Nat) : Tab Bool := []
theorem z1fs (N:Nat) (x:z1h z1ju) : z2q (E_38 N) N (t_38 N) L_38 Tryz.f49 (mkS z1ju 0 x) (z1d (.v .bool) 1) = zb1 N x.1 := by kernel_rfl
def z4h (N:Nat) : List A -> Res := z10 z1ju (fun x=>zb1 N x.1) (z2p (.v .bool) 1)
theorem z8t (N:Nat) : Contract Tryz.prog glob 49 (z4h N) :=
  Contract.of (E := E_38 N) (H := t_38 N) (L := L_38) (N := N) (body := z1hv) (K := (z1d (.v .bool) 1)) (z1vy N) Tryz.func49 (by kernel_rfl) (by decide) (fun _ hb=>TabOk.nil) (fun x y h=>by rw [z1fs]; exact h) (zn (s := (.v .bool)) (m := 1))
def Calm (w:World) (S:Hp) (w':World) : Prop := ∃ S',WF w (fun _=>False) w' /\ Lift.Sub S S' /\ Lift.Sub S' (hp w') /\ ∀ k,S' k ≠ none -> S k ≠ none \/ w.heap.size <= k
theorem Calm.refl {w:World} {S:Hp} (h:Lift.Sub S (hp w)) : Calm w S w := ⟨S,WF.refl _ _,Lift.Sub.refl S,h,fun _ h => .inl h⟩
theorem z12b {w:World} {S:Hp} (l:List (A × Value)) (hl : ∀ p ∈ l,ARel (hp w) S (fun _=>undef) p.1 p.2 [] /\ p.1.refs = []) :
    ArgsRel (hp w) S (l.map (·.1)) (l.map (·.2)) (fun _ => []) := by
  refine ⟨by simp,fun i y hy => ?_,fun _ _=>rfl,(fun i j b hb=>by cases hb),fun _ => .nil,(fun i b hb=>by cases hb)⟩
  simp only [List.getElem?_map] at hy ⊢
  cases hp : l[i]? with
  | none=>rw [hp] at hy; cases hy
  | some p =>
    rw [hp] at hy
    cases hy
    have := hl p (List.mem_of_getElem? hp)
    exact ⟨⟨p.2,rfl,this.1⟩,this.2⟩
abbrev LinkT : T := .pair .str (.pair .str .unit)
def z1t5 : Go.Shelf.Ren := ⟨fun | 41=>82 | n=>n,fun | 4=>4 | 22=>22 | 23=>67 | n=>n,fun n=>n⟩
theorem z1gr : Go.Proofs.SlLaysE0.n41 Tryz.prog z1t5 where
  mixed := by kernel_rfl
  f41 := ⟨"slices.Clone[[]porter/api.Link,porter/api.Link]", by decide, Tryz.func82.trans (congrArg some (by kernel_rfl))⟩
  t4 := Tryz.underlying4
  a4 := Tryz.isAgg4
  z4 := Tryz.sizeOf4
  v4 := Tryz.zeroValue4
  t22 := Tryz.underlying22
  a22 := Tryz.isAgg22
  z22 := Tryz.sizeOf22
  v22 := Tryz.zeroValue22
def zbi (N:Nat) (l:List LinkT.den) : Option (List LinkT.den) := cond (decide (l.length * 32 <= 140737488355328)) (some l) none
def zrp (N:Nat) : List A -> Res := z10 [(0,.v (.sl LinkT))] (fun x=>zbi N x.1) (z2p (.row LinkT) 1)
theorem zu1 (N:Nat) : Contract Tryz.prog glob 82 (zrp N) :=
  z18q z1gr (ee := ty67) z12t (by decide) (by decide) glob
abbrev TokT : T := .pair .str (.pair (.sl LinkT) (.pair .str .unit))
abbrev TokO : T := .pair .str (.pair (.own LinkT) (.pair .str .unit))
def z5x (N:Nat) (t:TokT.den) : Option TokO.den := (zbi N t.2.1).bind fun l=>some (t.1,(l,(t.2.2.1,())))
def z7d (N:Nat) : List A -> Res := z10 [(0,.v TokT)] (fun x=>z5x N x.1) (z2p (.ov TokO) 1)
theorem z1cl {S:Hp} {i t:List UInt8} {l:List LinkT.den} {v:Value} (h:VR S TokT (i,(l,(t,()))) v) : ∃ sv,v = .agg #[.string ⟨⟨i⟩⟩,sv,.string ⟨⟨t⟩⟩] /\ VR S (.sl LinkT) l sv := by
  have h' : ∃ cs,v = .agg cs /\ Rd S TokT (i,(l,(t,()))) cs.toList := h
  obtain ⟨cs,rfl,c1,c2,hc,k1,c3,c4,hc',k2,c5,c6,hc'',k3,k4⟩ := h'
  have e1 : c1 = [.string ⟨⟨i⟩⟩] := k1
  have e3 : c5 = [.string ⟨⟨t⟩⟩] := k3
  have e5 : c6 = [] := k4
  obtain ⟨a,cap,e2,hcap,hk⟩ := k2
  refine ⟨.slice a l.length cap, ?_,VR.of_one rfl ⟨a,cap,rfl,hcap,hk⟩⟩
  congr 1
  apply Array.toList_inj.1
  rw [hc,hc',hc'',e1,e2,e3,e5]
  rfl
theorem z124 (N:Nat) {w:World} {S:Hp} (hS:Lift.Sub S (hp w)) (hg:GlobOk glob S) {l l':List LinkT.den} {sv:Value} (hv:VR S (.sl LinkT) l sv) (hy:zbi N l = some l') :
    Calls Tryz.prog 82 #[sv] w fun r w' => ∃ v o S',r = .returned v /\ RowRel (hp w') S' LinkT l' v o /\ (∀ b ∈ o,S' b = none /\ w.heap.size <= b) /\ o.Nodup ∧
      WF w (fun _=>False) w' /\ Lift.Sub S S' /\ Lift.Sub S' (hp w') /\ ∀ k,S' k ≠ none -> S k ≠ none \/ w.heap.size <= k := by
  refine ((zu1 N).2 w S _ _ _ (z12b [(.v (.sl LinkT) l,sv)] (fun p hp=>by rw [List.mem_singleton.1 hp]; exact ⟨⟨hv,rfl⟩,rfl⟩)) hS hg _ hy).mono ?_
  rintro e w' ⟨v,S',o,ob',rfl,hwf,k1,k2,k3,⟨hr,_⟩,ho,hnd,_⟩
  refine ⟨v,o,S',rfl,hr,fun b hb => ?_,hnd,⟨hwf.size,fun k hk _=>hwf.same k hk (by rintro ⟨i,hi⟩; cases hi),hwf.tape,hwf.os,hwf.output⟩,k1,k2,fun k hk => ?_⟩
  . obtain ⟨o1,o2⟩ := ho b hb
    refine ⟨o1, ?_⟩
    rcases o2 with ⟨i,hi⟩ | h
    . cases hi
    . exact h
  . rcases k3 k hk with h | ⟨i,hi⟩ | h
    . exact .inl h
    . cases hi
    . exact .inr h
theorem z19e {S:Hp} {t:T} {l:List t.den} {v:Value} (h:VR S (.sl t) l v) : ∃ a n c,v = .slice a n c := by
  have h' : Rd S (.sl t) l [v] := h
  obtain ⟨a,c,e,_⟩ := h'
  exact ⟨a,_,c,by cases e; rfl⟩
theorem z1m7 {h S:Hp} {t:T} {l:List t.den} {v:Value} {o:List Nat} (hr:RowRel h S t l v o) : ∃ a n c,v = .slice a n c := by
  rcases hr with ⟨_,⟨ad,e,_⟩,_⟩ | ⟨b,cap,cs,E,fr,_,e,_⟩
  . exact ⟨ad,0,0,e⟩
  . exact ⟨_,_,_,e⟩
theorem z1oq {w w3:World} (h:WF w (fun _=>False) w3) {b:Nat} {o:Obj} (hb:w.heap[b]? = some o) : w3.heap[b]? = some o := by
  rw [h.same b (Array.getElem?_eq_some_iff.1 hb).1 (fun h=>h)]; exact hb
theorem z126 {w:World} {b i E:Nat} {cs:Array Value} {v:Value} (hb:w.heap[b]? = some (.cells cs E (0,0))) (hi:cs[i]? = some v) : w.cell? ⟨b,i,none⟩ = some v := by
  simp [World.cell?,hb,hi]
theorem z11y {w:World} {b i E:Nat} {cs:Array Value} (hb:w.heap[b]? = some (.cells cs E (0,0))) : w.frozen? ⟨b,i,none⟩ = false := by
  simp [World.frozen?,hb]
theorem z13a {w:World} {b i k:Nat} {v:Value} (hk:k ≠ b) : (w.setCell ⟨b,i,none⟩ v).heap[k]? = w.heap[k]? := by
  have : b ≠ k := fun h=>hk h.symm
  simp [World.setCell,Array.getElem?_modify,this]
theorem zo6 {w:World} {b i:Nat} {v:Value} : (w.setCell ⟨b,i,none⟩ v).heap.size = w.heap.size /\ (w.setCell ⟨b,i,none⟩ v).tape = w.tape /\ (w.setCell ⟨b,i,none⟩ v).os = w.os /\ (w.setCell ⟨b,i,none⟩ v).output = w.output := by
  simp [World.setCell]
structure But (B:Nat -> Prop) (w w':World) : Prop where
  same : ∀ k, ¬ B k -> w'.heap[k]? = w.heap[k]?
  size : w'.heap.size = w.heap.size
  tape : w'.tape = w.tape
  os : w'.os = w.os
  output : w'.output = w.output
theorem But.refl (B:Nat -> Prop) (w:World) : But B w w := ⟨fun _ _=>rfl,rfl,rfl,rfl,rfl⟩
theorem But.set {B:Nat -> Prop} {w w':World} (h:But B w w') {b i:Nat} {v:Value} (hb:B b) : But B w (w'.setCell ⟨b,i,none⟩ v) :=
  ⟨fun k hk=>by rw [z13a (fun e=>hk (by rw [e]; exact hb)),h.same k hk],zo6.1.trans h.size,zo6.2.1.trans h.tape,zo6.2.2.1.trans h.os,zo6.2.2.2.trans h.output⟩
theorem zwl {w:World} {c1 c2:Array Value} {E1 E2:Nat} : ((w.alloc (.cells c1 E1)).alloc (.cells c2 E2)).heap[w.heap.size]? = some (.cells c1 E1 (0,0)) /\ ((w.alloc (.cells c1 E1)).alloc (.cells c2 E2)).heap[w.heap.size + 1]? = some (.cells c2 E2 (0,0)) ∧
    ((w.alloc (.cells c1 E1)).alloc (.cells c2 E2)).heap.size = w.heap.size + 2 /\ ∀ k,k < w.heap.size -> ((w.alloc (.cells c1 E1)).alloc (.cells c2 E2)).heap[k]? = w.heap[k]? := by
  have hh : ((w.alloc (.cells c1 E1)).alloc (.cells c2 E2)).heap = (w.heap.push (.cells c1 E1 (0,0))).push (.cells c2 E2 (0,0)) := rfl
  refine ⟨?_, ?_, ?_,fun k hk => ?_⟩
  . rw [hh,Array.getElem?_push,Array.size_push,if_neg (by omega),Array.getElem?_push,if_pos rfl]
  . rw [hh,Array.getElem?_push,Array.size_push,if_pos rfl]
  . rw [hh,Array.size_push,Array.size_push]
  . rw [hh,Array.getElem?_push,Array.size_push,if_neg (by omega),Array.getElem?_push,if_neg (by omega)]
theorem zt4 {w:World} {S:Hp} (hS:Lift.Sub S (hp w)) (c1 c2:Array Value) (E1 E2:Nat) : Lift.Sub S (hp ((w.alloc (.cells c1 E1)).alloc (.cells c2 E2))) := fun b o ho=>by
  have := hS b o ho
  simp only [hp] at this ⊢
  rw [zwl.2.2.2 b (Array.getElem?_eq_some_iff.1 this).1]
  exact this
theorem z123 (N:Nat) {w:World} {S:Hp} (hS:Lift.Sub S (hp w)) (hg:GlobOk glob S) {i t:List UInt8} {l l':List LinkT.den} {sv:Value} (hv:VR S (.sl LinkT) l sv) (hy:zbi N l = some l') :
    Calls Tryz.prog 52 #[.agg #[.string ⟨⟨i⟩⟩,sv,.string ⟨⟨t⟩⟩]] w fun r w' => ∃ v o S',r = .returned (.agg #[.string ⟨⟨i⟩⟩,v,.string ⟨⟨t⟩⟩]) /\ RowRel (hp w') S' LinkT l' v o /\ (∀ b ∈ o,S' b = none /\ w.heap.size <= b) /\ o.Nodup ∧
      WF w (fun _=>False) w' /\ Lift.Sub S S' /\ Lift.Sub S' (hp w') /\ ∀ k,S' k ≠ none -> S k ≠ none \/ w.heap.size <= k := by
  obtain ⟨a,n,c,rfl⟩ := z19e hv
  have HC := z124 N (zt4 hS #[.string ⟨⟨i⟩⟩,.slice a n c,.string ⟨⟨t⟩⟩] #[.string ⟨#[]⟩,.slice none 0 0,.string ⟨#[]⟩] 24 24) hg hv hy
  obtain ⟨q0,q1,q2,q3⟩ := zwl (w := w) (c1 := #[.string ⟨⟨i⟩⟩,.slice a n c,.string ⟨⟨t⟩⟩]) (c2 := #[.string ⟨#[]⟩,.slice none 0 0,.string ⟨#[]⟩]) (E1 := 24) (E2 := 24)
  have hSw := Go.Lib.hid hS
  have Q3 := Go.Lib.hid (And.intro q2 q3)
  clear q2 q3 hS
  go_enter Tryz.func52,Tryz.ntmps52
  go_wp2_with (go_at_call 82; refine HC.mono ?_; rintro r w3 ⟨v,o,S',rfl,hrow,ho,hnd,hwf,k1,k2,k3⟩; obtain ⟨a',n',c',rfl⟩ := z1m7 hrow; have p0 := z1oq hwf q0; have p1 := z1oq hwf q1; have c00 := z126 (i := 0) p0 rfl; have c01 := z126 (i := 1) p0 rfl; have c02 := z126 (i := 2) p0 rfl; have c10 := z126 (i := 0) p1 rfl; have c11 := z126 (i := 1) p1 rfl; have c12 := z126 (i := 2) p1 rfl; have f00 := z11y (i := 0) p0; have f01 := z11y (i := 1) p0; have f02 := z11y (i := 2) p0; have f10 := z11y (i := 0) p1; have f11 := z11y (i := 1) p1; have f12 := z11y (i := 2) p1; have HM := Go.Lib.hid (And.intro hrow (And.intro ho (And.intro hnd (And.intro hwf (And.intro k1 (And.intro k2 (And.intro k3 (And.intro q0 q1)))))))); clear HC hrow ho hnd hwf k1 k2 k3 p0 p1 q0 q1)
  obtain ⟨hrow,ho,hnd,hwf,k1,k2,k3,q0,q1⟩ := HM.out
  obtain ⟨q2,q3⟩ := Q3.out
  have hB : But (fun k=>k = w.heap.size \/ k = w.heap.size + 1) w3 ((((w3.setCell ⟨w.heap.size,1,none⟩ (Value.slice a' n' c')).setCell ⟨w.heap.size + 1,0,none⟩ (.string ⟨⟨i⟩⟩)).setCell ⟨w.heap.size + 1,1,none⟩ (Value.slice a' n' c')).setCell ⟨w.heap.size + 1,2,none⟩ (.string ⟨⟨t⟩⟩)) :=
    ((((But.refl _ w3).set (.inl rfl)).set (.inr rfl)).set (.inr rfl)).set (.inr rfl)
  have hno : ∀ k,S' k ≠ none -> ¬ (k = w.heap.size \/ k = w.heap.size + 1) := fun k hk hk'=>by
    rcases k3 k hk with h | h
    . cases hs : S k with
      | none=>exact h hs
      | some x =>
        have := hSw.out k x hs
        simp only [hp] at this
        have := (Array.getElem?_eq_some_iff.1 this).1
        omega
    . omega
  refine ⟨rfl,_, ?_,.slice a' n' c',o,S',rfl,RowRel.mono (Lift.Sub.refl S') (fun b hb => ?_) hrow,fun b hb=>⟨(ho b hb).1,by have := (ho b hb).2; omega⟩,hnd,
    ⟨by rw [hB.size]; have := hwf.size; omega,fun k hk _ => ?_,hB.tape.trans hwf.tape,hB.os.trans hwf.os,hB.output.trans hwf.output⟩,k1,fun k x hx => ?_,fun k hk => ?_⟩
  . simp [results,Tryz.results52,go_sem,c10,c11,c12,f10,f11,f12]
  . have := (ho b hb).2
    exact hB.same b (by omega)
  . rw [hB.same k (by omega),hwf.same k (by omega) (fun h=>h),q3 k hk]
  . have := k2 k x hx
    simp only [hp] at this ⊢
    rw [hB.same k (hno k (by rw [hx]; simp))]
    exact this
  . rcases k3 k hk with h | h
    . exact .inl h
    . exact .inr (by omega)
theorem zci (N:Nat) : Contract Tryz.prog glob 52 (z7d N) := by
  refine Contract.hand ⟨_,Tryz.func52,by kernel_rfl,by decide⟩ ?_
  intro w S vals ob x y har hS hg hy
  obtain ⟨⟨i,l,t,u⟩,u'⟩ := x
  cases u
  cases u'
  obtain ⟨⟨v0,hv0,hA0,ho0⟩,_⟩ := har.rel 0 _ rfl
  have hvals : vals = [v0] := by
    match vals,har.len with
    | [a],_=>cases hv0; rfl
  obtain ⟨sv,e0,hsv⟩ := z1cl hA0
  subst e0
  subst hvals
  unfold z5x at hy
  dsimp only at hy
  cases hc : zbi N l with
  | none=>rw [hc] at hy; cases hy
  | some l' =>
  rw [hc] at hy
  cases hy
  refine (z123 N hS hg hsv hc).mono ?_
  rintro r w' ⟨v,o,S',rfl,hrow,ho,hnd,hwf,k1,k2,k3⟩
  have hob : ∀ i,ob i = [] := fun i=>by
    match i with
    | 0=>exact ho0
    | i + 1=>exact har.out _ (by simp [mkS,z3o])
  refine ⟨_,S',o,ob,rfl,⟨hwf.size,fun k hk _=>hwf.same k hk (fun h=>h),hwf.tape,hwf.os,hwf.output⟩,k1,k2,fun k hk => ?_,⟨⟨rfl, ?_⟩,rfl⟩,fun b hb=>⟨(ho b hb).1,.inr (ho b hb).2⟩,hnd, ?_, ?_, ?_, ?_,fun _ h=>h⟩
  . rcases k3 k hk with h | h
    . exact .inl h
    . exact .inr (.inr h)
  . exact ⟨_,rfl,[.string ⟨⟨i⟩⟩],[v,.string ⟨⟨t⟩⟩],[],o,rfl,rfl,⟨rfl,rfl⟩,[v],[.string ⟨⟨t⟩⟩],o,[],rfl,by simp,⟨v,rfl,hrow⟩,[.string ⟨⟨t⟩⟩],[],[],[],rfl,rfl,⟨rfl,rfl⟩,rfl,rfl⟩
  . intro i y hy hbx
    have : zb0 y = false := by
      match i with
      | 0=>cases hy; rfl
      | i + 1=>simp [mkS,z3o] at hy
    rw [hbx] at this
    cases this
  . intro i k hk
    rw [hob i] at hk
    cases hk
  . intro i j k hi
    rw [hob i] at hi
    cases hi
  . intro i
    rw [hob i]
    exact .nil
def z1hu : Code := (Tryz.f41.body).getD .skip
def L_39 : List (List Nat × List Nat) := [([0],[3,0]),([0,0,1],[7,0,3]),([1,0,1],[0,3]),([0,0,1,0,1],[4]),([1,0,1,0,1],[4]),([0,1,1],[4]),([1,1,1],[4])]
def E_39 (N:Nat) : Env := z16 tys glob [(45,z3d N)] [] [] [] false [] [(98,z7 N)]
theorem z1vx (N:Nat) : EnvOk Tryz.prog (E_39 N) := zk mixed zo (FnsOk.cons (z4y N) (FnsOk.nil)) (ItsOk.cons (z8 N) (ItsOk.nil))
def z5c (N:Nat) (t:(List UInt8)) (l:DT8) : Option (List UInt8) :=
 cond (l.2.1 == ([] : List UInt8))
 ((z2n N t ([([(102 : UInt8),(105 : UInt8),(114 : UInt8),(115 : UInt8),(116 : UInt8)] : List UInt8),l.1] : List (List UInt8))).bind fun y =>
 some y)
 ((z2n N t ([([(116 : UInt8),(104 : UInt8),(105 : UInt8),(114 : UInt8),(100 : UInt8)] : List UInt8),l.2.1,l.1] : List (List UInt8))).bind fun y1 =>
 some y1)
def t_39 (N:Nat) : Tab (List UInt8) := []
theorem z1fr (N:Nat) (x:z1h z12i) : z2q (E_39 N) N (t_39 N) L_39 Tryz.f41 (mkS z12i 0 x) (z1d (.v .str) 2) = z5c N x.1 x.2.1 := by kernel_rfl
def z3x (N:Nat) : List A -> Res := z10 z12i (fun x=>z5c N x.1 x.2.1) (z2p (.v .str) 2)
theorem z6f (N:Nat) : Contract Tryz.prog glob 41 (z3x N) :=
  Contract.of (E := E_39 N) (H := t_39 N) (L := L_39) (N := N) (body := z1hu) (K := (z1d (.v .str) 2)) (z1vx N) Tryz.func41 (by kernel_rfl) (by decide) (fun _ hb=>TabOk.nil) (fun x y h=>by rw [z1fr]; exact h) (zn (s := (.v .str)) (m := 2))
def z1ht : Code := (Tryz.f81.body).getD .skip
def L_40 : List (List Nat × List Nat) := [([0],[0,3]),([0,1],[4]),([1,1],[4])]
def E_40 (N:Nat) : Env := z16 tys glob [(41,z3x N)] [] [] [] false [] [(98,z7 N)]
theorem z1vw (N:Nat) : EnvOk Tryz.prog (E_40 N) := zk mixed zo (FnsOk.cons (z6f N) (FnsOk.nil)) (ItsOk.cons (z8 N) (ItsOk.nil))
def zew (N:Nat) (before:(List UInt8)) (l:DT8) : Option (List UInt8) :=
 (z5c N before l).bind fun y =>
 some y
def t_40 (N:Nat) : Tab (List UInt8) := []
theorem z1fq (N:Nat) (x:z1h z12i) : z2q (E_40 N) N (t_40 N) L_40 Tryz.f81 (mkS z12i 0 x) (z1d (.v .str) 2) = zew N x.1 x.2.1 := by kernel_rfl
def zj0 (N:Nat) : List A -> Res := z10 z12i (fun x=>zew N x.1 x.2.1) (z2p (.v .str) 2)
theorem zu5 (N:Nat) : Contract Tryz.prog glob 81 (zj0 N) :=
  Contract.of (E := E_40 N) (H := t_40 N) (L := L_40) (N := N) (body := z1ht) (K := (z1d (.v .str) 2)) (z1vw N) Tryz.func81 (by kernel_rfl) (by decide) (fun _ hb=>TabOk.nil) (fun x y h=>by rw [z1fq]; exact h) (zn (s := (.v .str)) (m := 2))
def z1hs : Code := (Tryz.f51.body).getD .skip
def L_41 : List (List Nat × List Nat) := [([0],[1,2]),([0,1],[3,1,2]),([0,1,1],[3,1,2]),([0,1,1,1],[3,2]),([0,1,1,1,1],[2]),([1,1,1,1,1],[2])]
def E_41 (N:Nat) : Env := z16 tys glob [(81,zj0 N),(52,z7d N)] [] [] [] false [(3,(.pair .str (.pair (.own zk3) (.pair .str .unit))))] [(98,z7 N)]
theorem z1vv (N:Nat) : EnvOk Tryz.prog (E_41 N) := zk mixed zo (FnsOk.cons (zu5 N) (FnsOk.cons (zci N) (FnsOk.nil))) (ItsOk.cons (z8 N) (ItsOk.nil))
def z1u (N:Nat) (a:(DT8 × (DT1 × Unit))) : Option DT1 :=
 (z5x N a.2.1).bind fun y =>
 cond (decide ((((List.length y.2.1) + 1) * 32) <= 70368744177664))
 ((zew N y.2.2.1 a.1).bind fun y1 =>
 some (y.1,((y.2.1 ++ ([a.1] : List DT8)),(y1,y.2.2.2))))
 (none)
def t_41 (N:Nat) : Tab DT1 := []
theorem z1fp (N:Nat) (x:z1h z1ju) : z2q (E_41 N) N (t_41 N) L_41 Tryz.f51 (mkS z1ju 0 x) (z1d (.v TT0) 1) = z1u N x.1 := by kernel_rfl
def z42 (N:Nat) : List A -> Res := z10 z1ju (fun x=>z1u N x.1) (z2p (.v TT0) 1)
theorem z86 (N:Nat) : Contract Tryz.prog glob 51 (z42 N) :=
  Contract.of (E := E_41 N) (H := t_41 N) (L := L_41) (N := N) (body := z1hs) (K := (z1d (.v TT0) 1)) (z1vv N) Tryz.func51 (by kernel_rfl) (by decide) (fun _ hb=>TabOk.nil) (fun x y h=>by rw [z1fp]; exact h) (zn (s := (.v TT0)) (m := 1))
def zqv : Code := (Tryz.f23.body).getD .skip
def L_42 : List (List Nat × List Nat) := [([0],[2,1,4]),([0,1],[6,1,4]),([0,0,1,1],[15,4,1,6]),([1,0,1,1],[1,6,4]),([0,0,1,0,1,1],[4,5]),([1,0,1,0,1,1],[4,5]),([0,1,1,1],[6,4]),([0,1,1,1,1],[4,5]),([1,1,1,1,1],[4,5])]
def z1wo (N:Nat) : Env := z16 tys glob [(51,z42 N),(49,z4h N)] [] [] [] false [] [(98,z7 N)]
theorem z1vu (N:Nat) : EnvOk Tryz.prog (z1wo N) := zk mixed zo (FnsOk.cons (z86 N) (FnsOk.cons (z8t N) (FnsOk.nil))) (ItsOk.cons (z8 N) (ItsOk.nil))
def zfm (N:Nat) (text:(List UInt8)) (x4:DT1) (a:(DT8 × (DT1 × Unit))) (k0:Bool -> Option (DT1 × Int × Unit)) : Option (DT1 × Int × Unit) :=
 cond (decide ((64 : Int) <= (((List.length a.2.1.2.1) : Nat) : Int)))
 (k0 true)
 (k0 (decide ((2048 : Int) < (((List.length text) : Nat) : Int))))
def z1rm (N:Nat) (x:z1h z1i6) (K:Ex -> List A -> Option (DT1 × Int × Unit)) : Option (DT1 × Int × Unit) :=
 zfm N x.1 x.2.1 x.2.2.1 (fun a3=>(K .normal (mkS [(1,.v .str),(2,.box TT0),(1,.box (.pair zk3 (.pair TT0 .unit))),(8,.v .bool)] 6 (x.1,x.2.1,x.2.2.1,a3,()))))
def z1pj (N:Nat) : Hd (DT1 × Int × Unit) := fun st K=>(unS z1i6 15 (restr [6,1,4] 0 st)).bind fun x=>z1rm N x K
def t2_42 (N:Nat) : Tab (DT1 × Int × Unit) := []
theorem z1n3 {N:Nat} {c:Ctx} (hb:Base Tryz.prog (z1wo N) c) : zq Tryz.prog c (zm zqv [0,0,1,1]) (z1pj N) :=
  z17 (s := z1i6) (m := 15) (g := z1rm N) [6,1,4] (zi hb N (t2_42 N) L_42 zqv TabOk.nil [0,0,1,1] _ rfl) (fun x K=>by kernel_rfl)
def zfn (N:Nat) (text:(List UInt8)) (x4:DT1) (a:(DT8 × (DT1 × Unit))) (k0:DT1 -> Int -> Option (DT1 × Int × Unit)) (k1:Option (DT1 × Int × Unit)) : Option (DT1 × Int × Unit) :=
 zfm N text x4 a
 (fun x15=>cond x15
 (k0 (([] : List UInt8),(([] : List DT8),(([] : List UInt8),()))) (3 : Int))
 (k1))
def z1sk (N:Nat) (x:z1h z1i6) (K:Ex -> List A -> Option (DT1 × Int × Unit)) : Option (DT1 × Int × Unit) :=
 zfn N x.1 x.2.1 x.2.2.1 (fun a0 a1=>(K .ret (mkS [(4,.box TT0),(0,.v (.int .i64))] 16 (a0,a1,())))) (K .normal (mkS z1i6 15 (x.1,x.2.1,x.2.2.1,())))
def z1qh (N:Nat) : Hd (DT1 × Int × Unit) := fun st K=>(unS z1i6 15 (restr [6,1,4] 0 st)).bind fun x=>z1sk N x K
def t1_42 (N:Nat) : Tab (DT1 × Int × Unit) := [([0,0,1,1],z1pj N)]
theorem z1o1 {N:Nat} {c:Ctx} (hb:Base Tryz.prog (z1wo N) c) : zq Tryz.prog c (zm zqv [0,1,1]) (z1qh N) :=
  z17 (s := z1i6) (m := 15) (g := z1sk N) [6,1,4] (zi hb N (t1_42 N) L_42 zqv (TabOk.cons (z1n3 hb) TabOk.nil) [0,1,1] _ rfl) (fun x K=>by kernel_rfl)
def z3u (N:Nat) (t:DT1) (text:(List UInt8)) : Option (DT1 × Int × Unit) :=
 zfn N text (([] : List UInt8),(([] : List DT8),(([] : List UInt8),()))) ((([] : List UInt8),(([] : List UInt8),())),(t,()))
 (fun x4 x5=>some (x4,(x5,())))
 ((z1u N ((text,(([] : List UInt8),())),(t,()))).bind fun y =>
 some (y,((0 : Int),())))
def t_42 (N:Nat) : Tab (DT1 × Int × Unit) := [([0,1,1],z1qh N)]
theorem z1fo (N:Nat) (x:z1h [(0,.v TT0),(0,.v .str)]) : z2q (z1wo N) N (t_42 N) L_42 Tryz.f23 (mkS [(0,.v TT0),(0,.v .str)] 0 x) (z1d (.tup [TT0,(.int .i64)]) 2) = z3u N x.1 x.2.1 := by kernel_rfl
def z7a (N:Nat) : List A -> Res := z10 [(0,.v TT0),(0,.v .str)] (fun x=>z3u N x.1 x.2.1) (z2p (.tup [TT0,(.int .i64)]) 2)
theorem zb8 (N:Nat) : Contract Tryz.prog glob 23 (z7a N) :=
  Contract.of (E := z1wo N) (H := t_42 N) (L := L_42) (N := N) (body := zqv) (K := (z1d (.tup [TT0,(.int .i64)]) 2)) (z1vu N) Tryz.func23 (by kernel_rfl) (by decide) (fun _ hb=>(TabOk.cons (z1o1 hb) TabOk.nil)) (fun x y h=>by rw [z1fo]; exact h) (zn (s := (.tup [TT0,(.int .i64)])) (m := 2))
def z1hr : Code := (Tryz.f38.body).getD .skip
def L_43 : List (List Nat × List Nat) := [([0],[1]),([0,1],[2]),([1,1],[2])]
def E_43 (N:Nat) : Env := z16 tys glob [] [(2,TT0)] [] [] false [] [(98,z7 N)]
theorem z1vt (N:Nat) : EnvOk Tryz.prog (E_43 N) := zk mixed zo (FnsOk.nil) (ItsOk.cons (z8 N) (ItsOk.nil))
def z8c (N:Nat) (b:z1wu) : Option (List DT1) :=
 cond (decide (((1 + (List.length b.2.1)) * 56) <= 70368744177664))
 (some (([b.1] : List DT1) ++ b.2.1))
 (none)
def t_43 (N:Nat) : Tab (List DT1) := []
theorem z1fn (N:Nat) (x:z1h [(0,.v TT7)]) : z2q (E_43 N) N (t_43 N) L_43 Tryz.f38 (mkS [(0,.v TT7)] 0 x) (z1d (.v (.sl TT0)) 1) = z8c N x.1 := by kernel_rfl
def ze0 (N:Nat) : List A -> Res := z10 [(0,.v TT7)] (fun x=>z8c N x.1) (z2p (.v (.sl TT0)) 1)
theorem znu (N:Nat) : Contract Tryz.prog glob 38 (ze0 N) :=
  Contract.of (E := E_43 N) (H := t_43 N) (L := L_43) (N := N) (body := z1hr) (K := (z1d (.v (.sl TT0)) 1)) (z1vt N) Tryz.func38 (by kernel_rfl) (by decide) (fun _ hb=>TabOk.nil) (fun x y h=>by rw [z1fn]; exact h) (zn (s := (.v (.sl TT0))) (m := 1))
def z1hq : Code := (Tryz.f55.body).getD .skip
def L_44 : List (List Nat × List Nat) := [([0],[1]),([0,1],[2]),([1,1],[2])]
def E_44 (N:Nat) : Env := z16 tys glob [] [] [] [] false [] [(98,z7 N)]
theorem z1vs (N:Nat) : EnvOk Tryz.prog (E_44 N) := zk mixed zo (FnsOk.nil) (ItsOk.cons (z8 N) (ItsOk.nil))
def zgl (N:Nat) (t:DT1) : Option Bool :=
 some (decide ((64 : Int) < (((List.length t.2.1) : Nat) : Int)))
def t_44 (N:Nat) : Tab Bool := []
theorem z1fm (N:Nat) (x:z1h [(0,.v TT0)]) : z2q (E_44 N) N (t_44 N) L_44 Tryz.f55 (mkS [(0,.v TT0)] 0 x) (z1d (.v .bool) 1) = zgl N x.1 := by kernel_rfl
def z4q (N:Nat) : List A -> Res := z10 [(0,.v TT0)] (fun x=>zgl N x.1) (z2p (.v .bool) 1)
theorem z8b (N:Nat) : Contract Tryz.prog glob 55 (z4q N) :=
  Contract.of (E := E_44 N) (H := t_44 N) (L := L_44) (N := N) (body := z1hq) (K := (z1d (.v .bool) 1)) (z1vs N) Tryz.func55 (by kernel_rfl) (by decide) (fun _ hb=>TabOk.nil) (fun x y h=>by rw [z1fm]; exact h) (zn (s := (.v .bool)) (m := 1))
def zyu : Code := (Tryz.f83.body).getD .skip
def L_45 : List (List Nat × List Nat) := [([0],[0,1]),([0,0,1],[8,7,1,0]),([0,1,0,1],[8,7,1,0]),([0,0,0,1,0,1],[9,8,1,0,7]),([0,1,0,0,1,0,1],[8,1,0,7]),([1,0,1,0,0,1,0,1],[]),([0,0,0,1,1,0,0,1,0,1],[1,0,5,8,7]),(z1jz,[16,5,8,7,1,0]),([1,1,0,0,1,1,0,0,1,0,1],[8,7,1,0]),([0,0,1,1,0,0,1,1,0,0,1,0,1],[4]),([1,0,1,1,0,0,1,1,0,0,1,0,1],[4]),([0,1,1,0,0,1,0,1],[8,7,1,0]),([1,1,1,0,0,1,0,1],[8,7,1,0]),([1,0,1],[]),([0,1,1],[4]),([1,1,1],[4])]
def E_45 (N:Nat) : Env := z16 tys glob [(55,z4q N)] [] [] [] false [] [(98,z7 N)]
theorem z1vr (N:Nat) : EnvOk Tryz.prog (E_45 N) := zk mixed zo (FnsOk.cons (z8b N) (FnsOk.nil)) (ItsOk.cons (z8 N) (ItsOk.nil))
def zjw (N:Nat) (s:(List DT1)) (x7:Int) (x8:Int) (rec:Int -> Option Int) (k0:Int -> Option Int) (k1:Option Int) : Option Int :=
 cond (decide (x8 < x7))
 (cond (inR x8 (List.length s))
 (cond (decide ((64 : Int) < (((List.length (List.getD s (Int.toNat x8) (([] : List UInt8),(([] : List DT8),(([] : List UInt8),())))).2.1) : Nat) : Int)))
 (k0 x8)
 (rec (IntKind.wrap IntKind.i64 (x8 + (1 : Int)))))
 (none))
 (k1)
def zq6 (N:Nat) (s:(List DT1)) (x7:Int) (x8:Int) (k0:Int -> Option Int) (k1:Option Int) : Option Int :=
 iter (fun (v:Int) r=>zjw N s x7 v (fun x8=>(r x8)) k0 k1) N x8
def z1sj (N:Nat) (i:((List DT1) × Int)) (v:Int) (r:Int -> Option Int) (K:Ex -> List A -> Option Int) : Option Int :=
 zjw N i.1 i.2 v (fun x8=>(r x8)) (fun a0=>(K .ret (mkS [(4,.v (.int .i64))] 14 (a0,())))) (K (.exit 0) (mkS [] 19 ()))
def z1qg (N:Nat) : Hd Int := fun st K=>(unS [(0,.v (.sl TT0)),(0,.fnc 55),(5,.v (.int .i64)),(0,.v (.int .i64))] 10 (restr [8,7,1,0] 0 st)).bind fun x=>iter (fun v r=>z1sj N ((fun x=>(x.1,x.2.2.1)) x) v r K) N ((fun x=>x.2.2.2.1) x)
def t1_45 (N:Nat) : Tab Int := []
theorem z1o0 {N:Nat} {c:Ctx} (hb:Base Tryz.prog (E_45 N) c) : zq Tryz.prog c (zm zyu [0,1,0,1]) (z1qg N) :=
  z1k (s := [(0,.v (.sl TT0)),(0,.fnc 55),(5,.v (.int .i64)),(0,.v (.int .i64))]) (m := 10) (z1sj N) [8,7,1,0] N (fun x=>(x.1,x.2.2.1)) (fun x=>x.2.2.2.1) (fun i v=>(i.1,(),i.2,v,())) (fun _=>rfl) (zi hb N (t1_45 N) L_45 zyu TabOk.nil [0,0,1,0,1] _ rfl) (fun i v r K=>by kernel_rfl)
def zl5 (N:Nat) (s:(List DT1)) : Option Int :=
 zq6 N s (((List.length s) : Nat) : Int) (0 : Int)
 (fun x4=>some x4)
 (some (-(1 : Int)))
def t_45 (N:Nat) : Tab Int := [([0,1,0,1],z1qg N)]
theorem z1fl (N:Nat) (x:z1h [(0,.v (.sl TT0)),(0,.fnc 55)]) : z2q (E_45 N) N (t_45 N) L_45 Tryz.f83 (mkS [(0,.v (.sl TT0)),(0,.fnc 55)] 0 x) (z1d (.v (.int .i64)) 2) = zl5 N x.1 := by kernel_rfl
def zng (N:Nat) : List A -> Res := z10 [(0,.v (.sl TT0)),(0,.fnc 55)] (fun x=>zl5 N x.1) (z2p (.v (.int .i64)) 2)
theorem zxw (N:Nat) : Contract Tryz.prog glob 83 (zng N) :=
  Contract.of (E := E_45 N) (H := t_45 N) (L := L_45) (N := N) (body := zyu) (K := (z1d (.v (.int .i64)) 2)) (z1vr N) Tryz.func83 (by kernel_rfl) (by decide) (fun _ hb=>(TabOk.cons (z1o0 hb) TabOk.nil)) (fun x y h=>by rw [z1fl]; exact h) (zn (s := (.v (.int .i64))) (m := 2))
def z1hp : Code := (Tryz.f54.body).getD .skip
def L_46 : List (List Nat × List Nat) := [([0],[0,1]),([0,1],[4]),([1,1],[4])]
def E_46 (N:Nat) : Env := z16 tys glob [(83,zng N),(55,z4q N)] [] [] [] false [] [(98,z7 N)]
theorem z1vq (N:Nat) : EnvOk Tryz.prog (E_46 N) := zk mixed zo (FnsOk.cons (zxw N) (FnsOk.cons (z8b N) (FnsOk.nil))) (ItsOk.cons (z8 N) (ItsOk.nil))
def zcs (N:Nat) (s:(List DT1)) : Option Bool :=
 (zl5 N s).bind fun y =>
 some (decide ((0 : Int) <= y))
def t_46 (N:Nat) : Tab Bool := []
theorem z1fk (N:Nat) (x:z1h [(0,.v (.sl TT0)),(0,.fnc 55)]) : z2q (E_46 N) N (t_46 N) L_46 Tryz.f54 (mkS [(0,.v (.sl TT0)),(0,.fnc 55)] 0 x) (z1d (.v .bool) 2) = zcs N x.1 := by kernel_rfl
def zhk (N:Nat) : List A -> Res := z10 [(0,.v (.sl TT0)),(0,.fnc 55)] (fun x=>zcs N x.1) (z2p (.v .bool) 2)
theorem zrn (N:Nat) : Contract Tryz.prog glob 54 (zhk N) :=
  Contract.of (E := E_46 N) (H := t_46 N) (L := L_46) (N := N) (body := z1hp) (K := (z1d (.v .bool) 2)) (z1vq N) Tryz.func54 (by kernel_rfl) (by decide) (fun _ hb=>TabOk.nil) (fun x y h=>by rw [z1fk]; exact h) (zn (s := (.v .bool)) (m := 2))
def z1ho : Code := (Tryz.f26.body).getD .skip
def L_47 : List (List Nat × List Nat) := [([0],[1]),([0,0,1],[6,1]),([1,0,1],[1]),([0,0,1,0,1],[2]),([1,0,1,0,1],[2]),([0,1,1],[2]),([1,1,1],[2])]
def E_47 (N:Nat) : Env := z16 tys glob [(54,zhk N),(55,z4q N),(38,ze0 N)] [] [] [] false [] [(98,z7 N)]
theorem z1vp (N:Nat) : EnvOk Tryz.prog (E_47 N) := zk mixed zo (FnsOk.cons (zrn N) (FnsOk.cons (z8b N) (FnsOk.cons (znu N) (FnsOk.nil)))) (ItsOk.cons (z8 N) (ItsOk.nil))
def z63 (N:Nat) (b:z1wu) : Option Bool :=
 cond (decide ((8 : Int) < (((List.length b.2.1) : Nat) : Int)))
 (some false)
 ((z8c N b).bind fun y =>
 (zcs N y).bind fun y1 =>
 some (!y1))
def t_47 (N:Nat) : Tab Bool := []
theorem z1fj (N:Nat) (x:z1h [(0,.v TT7)]) : z2q (E_47 N) N (t_47 N) L_47 Tryz.f26 (mkS [(0,.v TT7)] 0 x) (z1d (.v .bool) 1) = z63 N x.1 := by kernel_rfl
def zdz (N:Nat) : List A -> Res := z10 [(0,.v TT7)] (fun x=>z63 N x.1) (z2p (.v .bool) 1)
theorem znt (N:Nat) : Contract Tryz.prog glob 26 (zdz N) :=
  Contract.of (E := E_47 N) (H := t_47 N) (L := L_47) (N := N) (body := z1ho) (K := (z1d (.v .bool) 1)) (z1vp N) Tryz.func26 (by kernel_rfl) (by decide) (fun _ hb=>TabOk.nil) (fun x y h=>by rw [z1fj]; exact h) (zn (s := (.v .bool)) (m := 1))
def z1hn : Code := (Tryz.f27.body).getD .skip
def L_48 : List (List Nat × List Nat) := [([0],[1]),([0,1],[2]),([1,1],[2])]
def E_48 (N:Nat) : Env := z16 tys glob [] [] [] [] false [(8,TT3),(9,TT3)] [(98,z7 N)]
theorem z1vo (N:Nat) : EnvOk Tryz.prog (E_48 N) := zk mixed zo (FnsOk.nil) (ItsOk.cons (z8 N) (ItsOk.nil))
def z4r (N:Nat) (b:z1wu) : Option DT2 :=
 cond (decide (((0 : Int) <= (((List.length b.2.1) : Nat) : Int)) /\ (((((List.length b.2.1) : Nat) : Int) <= (((List.length b.2.1) : Nat) : Int)) /\ ((((((List.length b.2.1) : Nat) : Int) * (1 : Int)) <= (281474976710656 : Int)) /\ ((((List.length b.2.1) : Nat) : Int) <= (9223372036854775807 : Int))))))
 (some (b,((List.replicate (Int.toNat (((List.length b.2.1) : Nat) : Int)) false),(([] : List ((List DT8) × ((List (List UInt8)) × Unit))),(([] : List (List UInt8)),((0 : Int),()))))))
 (none)
def t_48 (N:Nat) : Tab DT2 := []
theorem z1fi (N:Nat) (x:z1h [(0,.v TT7)]) : z2q (E_48 N) N (t_48 N) L_48 Tryz.f27 (mkS [(0,.v TT7)] 0 x) (z1d (.box TT3) 1) = z4r N x.1 := by kernel_rfl
def ze1 (N:Nat) : List A -> Res := z10 [(0,.v TT7)] (fun x=>z4r N x.1) (z2p (.box TT3) 1)
theorem znv (N:Nat) : Contract Tryz.prog glob 27 (ze1 N) :=
  Contract.of (E := E_48 N) (H := t_48 N) (L := L_48) (N := N) (body := z1hn) (K := (z1d (.box TT3) 1)) (z1vo N) Tryz.func27 (by kernel_rfl) (by decide) (fun _ hb=>TabOk.nil) (fun x y h=>by rw [z1fi]; exact h) (zn (s := (.box TT3)) (m := 1))
def zyt : Code := (Tryz.f66.body).getD .skip
def L_49 : List (List Nat × List Nat) := [([0],[0,5,2,3]),([0,0,1],[12,0,2,3,5]),([1,0,1],[2,3,5,0]),([0,1,0,1],[0]),([0,1,1],zz6),([0,1,1,1],zz6),([0,0,0,1,1,1],[16,13,15,3,5,0,14]),([0,1,0,0,1,1,1],[13,15,3,5,0,14]),([1,0,1,0,0,1,1,1],[0]),([0,0,0,1,1,0,0,1,1,1],[3,5,7,0,15,14,13]),([0,1,0,0,1,1,0,0,1,1,1],[0,5,15,14,13,3]),([0,1,1,0,0,1,1,0,0,1,1,1],[26,0,15,14,13,3,5]),([1,1,1,0,0,1,1,0,0,1,1,1],zz6),([0,1,1,1,0,0,1,1,0,0,1,1,1],[0]),([0,1,1,0,0,1,1,1],zz6),([1,1,1,0,0,1,1,1],zz6),([1,1,1],[0])]
def E_49 (N:Nat) : Env := z16 tys glob [(41,z3x N)] [] [] [0] false [] []
theorem z1vn (N:Nat) : EnvOk Tryz.prog (E_49 N) := zk mixed zo (FnsOk.cons (z6f N) (FnsOk.nil)) ItsOk.nil
def z61 (N:Nat) (x3:Unit) (x13:(List DT8)) (x14:Int) (t:(List UInt8)) (x15:Int) (rec:(List UInt8) -> Int -> Option (List z6w)) (k0:Option (List z6w)) (k1:Option (List z6w)) : Option (List z6w) :=
 cond (decide (x15 < x14))
 (cond (inR x15 (List.length x13))
 ((z5c N t (List.getD x13 (Int.toNat x15) (([] : List UInt8),(([] : List UInt8),())))).bind fun y =>
 zu0 (y,())
 (rec y (IntKind.wrap IntKind.i64 (x15 + (1 : Int))))
 (k0))
 (none))
 (k1)
def zhm (N:Nat) (x3:Unit) (t:(List UInt8)) (x13:(List DT8)) (x14:Int) (x15:Int) (k0:Option (List z6w)) (k1:Option (List z6w)) : Option (List z6w) :=
 iter (fun (v:((List UInt8) × Int)) r=>z61 N x3 x13 x14 v.1 v.2 (fun t x15=>(r (t,x15))) k0 k1) N (t,x15)
def z1si (N:Nat) (i:(Unit × (List DT8) × Int)) (v:((List UInt8) × Int)) (r:((List UInt8) × Int) -> Option (List z6w)) (K:Ex -> List A -> Option (List z6w)) : Option (List z6w) :=
 z61 N i.1 i.2.1 i.2.2 v.1 v.2 (fun t x15=>(r (t,x15))) (K .ret (mkS [(0,.yld)] 27 ((),()))) (K (.exit 0) (mkS [(0,.yld)] 27 ((),())))
def z1qf (N:Nat) : Hd (List z6w) := fun st K=>(unS [(0,.yld),(2,.v (.ptr (.fn 41 .unit))),(1,.v .str),(7,.v (.sl zk3)),(0,.v (.int .i64)),(0,.v (.int .i64))] 12 (restr zz6 0 st)).bind fun x=>iter (fun v r=>z1si N ((fun x=>(x.2.1,x.2.2.2.1,x.2.2.2.2.1)) x) v r K) N ((fun x=>(x.2.2.1,x.2.2.2.2.2.1)) x)
def t1_49 (N:Nat) : Tab (List z6w) := []
theorem z1nz {N:Nat} {G:GY [.str]} (hG:zht G) (hev:z1u3 G Tryz.prog (E_49 N) N L_49 zyt) : YOk G Tryz.prog (zm zyt [0,1,1,1]) (z1qf N) :=
  zob hG (s := [(0,.yld),(2,.v (.ptr (.fn 41 .unit))),(1,.v .str),(7,.v (.sl zk3)),(0,.v (.int .i64)),(0,.v (.int .i64))]) (m := 12) (z1si N) zz6 N (fun x=>(x.2.1,x.2.2.2.1,x.2.2.2.2.1)) (fun x=>(x.2.2.1,x.2.2.2.2.2.1)) (fun i v=>((),i.1,v.1,i.2.1,i.2.2,v.2,())) (fun _=>rfl) (hev (t1_49 N) TabOkY.nil [0,0,1,1,1]) (fun i v r K=>by kernel_rfl)
def zaf (N:Nat) (x1:(List UInt8)) (x2:(List DT8)) (x3:Unit) : Option (List z6w) :=
 zu0 (x1,())
 (zhm N x3 x1 x2 (((List.length x2) : Nat) : Int) (0 : Int)
 (some ([] : List z6w))
 (some ([] : List z6w)))
 (some ([] : List z6w))
def t_49 (N:Nat) : Tab (List z6w) := [([0,1,1,1],z1qf N)]
theorem z1fh (N:Nat) (x:T.den z1bt) : z1jp (E_49 N) [.str] zu0 N (t_49 N) L_49 Tryz.f66 [.v (.ptr .str) x.1,.v (.ptr (.sl zk3)) x.2.1,.v (.ptr (.fn 41 .unit)) x.2.2.1] = zaf N x.1 x.2.1 x.2.2.1 := by kernel_rfl
def zb (N:Nat) : Dat -> ItRes := z11t (ts := [.str]) z1bt (fun x=>zaf N x.1 x.2.1 x.2.2.1)
theorem ze (N:Nat) : ItOk Tryz.prog glob 66 (zb N) := ItOk.of (ts := [.str]) (E := E_49 N) (H := t_49 N) (L := L_49) (N := N) (body := zyt) (z1vn N) rfl Tryz.func66 (by kernel_rfl) (by decide) (fun G hG hev=>(TabOkY.cons (z1nz hG hev) TabOkY.nil)) (fun x y h=>⟨_,rfl,by rw [z1fh]; exact h⟩)
def z1hm : Code := (Tryz.f40.body).getD .skip
def L_50 : List (List Nat × List Nat) := [([0],[3,4,5]),([0,1],[6]),([1,1],[6])]
def E_50 (N:Nat) : Env := z16 tys glob [(41,z3x N)] [] [] [] false [(5,(.fn 41 .unit))] [(66,zb N),(98,z7 N)]
theorem z1vm (N:Nat) : EnvOk Tryz.prog (E_50 N) := zk mixed zo (FnsOk.cons (z6f N) (FnsOk.nil)) (ItsOk.cons (ze N) (ItsOk.cons (z8 N) (ItsOk.nil)))
def zqn (N:Nat) (first:(List UInt8)) (links:(List DT8)) : Option ((List UInt8) × ((List DT8) × (Unit × Unit))) :=
 some (first,(links,((),())))
def t_50 (N:Nat) : Tab ((List UInt8) × ((List DT8) × (Unit × Unit))) := []
theorem z1fg (N:Nat) (x:z1h [(0,.v .str),(0,.v (.sl zk3)),(0,.fnc 41)]) : z2q (E_50 N) N (t_50 N) L_50 Tryz.f40 (mkS [(0,.v .str),(0,.v (.sl zk3)),(0,.fnc 41)] 0 x) (z1d (.v (.fn 66 z1bt)) 3) = zqn N x.1 x.2.1 := by kernel_rfl
def zhl (N:Nat) : List A -> Res := z10 [(0,.v .str),(0,.v (.sl zk3)),(0,.fnc 41)] (fun x=>zqn N x.1 x.2.1) (z2p (.v (.fn 66 z1bt)) 3)
theorem zrq (N:Nat) : Contract Tryz.prog glob 40 (zhl N) :=
  Contract.of (E := E_50 N) (H := t_50 N) (L := L_50) (N := N) (body := z1hm) (K := (z1d (.v (.fn 66 z1bt)) 3)) (z1vm N) Tryz.func40 (by kernel_rfl) (by decide) (fun _ hb=>TabOk.nil) (fun x y h=>by rw [z1fg]; exact h) (zn (s := (.v (.fn 66 z1bt))) (m := 3))
def zub : Code := (Tryz.f84.body).getD .skip
def L_51 : List (List Nat × List Nat) := [([0],[3,0]),([0,1],[0,3,5]),([0,0,1,1],[18,5]),([0,1,0,1,1],[5]),([0,0,1,0,1,1],[5,6]),([0,1,0,1,0,1,1],[5]),([1,0,1,0,1,1],[5]),([1,0,1,1],[5]),([0,1,1,1],[4]),([1,1,1,1],[4])]
def z1wn (N:Nat) : Env := z16 tys glob [(40,zhl N),(41,z3x N),(19,z5d N)] [(4,.str)] [] [] false [(5,(.own .str))] [(66,zb N),(98,z7 N)]
theorem z1vl (N:Nat) : EnvOk Tryz.prog (z1wn N) := zk mixed zo (FnsOk.cons (zrq N) (FnsOk.cons (z6f N) (FnsOk.cons (z92 N) (FnsOk.nil)))) (ItsOk.cons (ze N) (ItsOk.cons (z8 N) (ItsOk.nil)))
def zfv (N:Nat) (tags_1:(List (List UInt8))) (y:z6w) (rec:(List (List UInt8)) -> Option (List (List UInt8))) (k0:(List (List UInt8)) -> Option (List (List UInt8))) : Option (List (List UInt8)) :=
 cond (decide ((((List.length tags_1) + 1) * 16) <= 70368744177664))
 (rec (tags_1 ++ ([y.1] : List (List UInt8))))
 (none)
def z91 (N:Nat) (tags:(List (List UInt8))) (x18:((List UInt8) × ((List DT8) × (Unit × Unit)))) : Option (List z6w) := (zaf N x18.1 x18.2.1 x18.2.2.1)
def zfw (N:Nat) (tags:(List (List UInt8))) (x18:((List UInt8) × ((List DT8) × (Unit × Unit)))) : Unit := ()
def zlg (N:Nat) (tags:(List (List UInt8))) (x18:((List UInt8) × ((List DT8) × (Unit × Unit)))) : (List (List UInt8)) := tags
def zlh (N:Nat) (tags:(List (List UInt8))) (x18:((List UInt8) × ((List DT8) × (Unit × Unit)))) (k0:(List (List UInt8)) -> Option (List (List UInt8))) : Option (List (List UInt8)) :=
 (z91 N tags x18).bind fun ys=>zem (fun (y:z6w) (v:(List (List UInt8))) r=>zfv N v y (fun tags_1=>(r tags_1)) k0) (fun (v:(List (List UInt8)))=>k0 v) ys tags
def z1sh (N:Nat) (y:z6w) (i:Unit) (v:(List (List UInt8))) (r:(List (List UInt8)) -> Option (List (List UInt8))) (K:Ex -> List A -> Option (List (List UInt8))) : Option (List (List UInt8)) :=
 zfv N v y (fun tags_1=>(r tags_1)) (fun a0=>(K .normal (mkS [(5,.box (.own .str))] 19 (a0,()))))
def z1qe (N:Nat) : Hd (List (List UInt8)) := fun st K=>(unS [(5,.box (.own .str)),(12,.v (.fn 66 z1bt))] 6 (restr [18,5] 0 st)).bind fun x=>((fun x=>z91 N x.1 x.2.1) x).bind fun xs=>zem (fun y v r=>z1sh N y ((fun x=>zfw N x.1 x.2.1) x) v r K) (fun v=>K .normal (mkS [(5,.box (.own .str))] 19 ((fun i v=>(v,())) ((fun x=>zfw N x.1 x.2.1) x) v))) xs ((fun x=>zlg N x.1 x.2.1) x)
theorem z1ny {N:Nat} {c:Ctx} (hb:Base Tryz.prog (z1wn N) c) : zq Tryz.prog c (zm zub [0,1,0,1,1]) (z1qe N) :=
  z17h (ts := [.str]) (s := [(5,.box (.own .str)),(12,.v (.fn 66 z1bt))]) (m := 6) (s2 := [(5,.box (.own .str))]) (m2 := 19) [18,5] (fun x=>z91 N x.1 x.2.1) (fun x=>zfw N x.1 x.2.1) (fun x=>zlg N x.1 x.2.1) (fun i v=>(v,())) (rfF (z1wn N) N [.str] (zm zub [0,1,0,1,1])) (z1sh N) (zi hb N [] L_51 zub TabOk.nil [0,1,0,1,1] _ rfl) (fun x K=>by kernel_rfl) (fun y i v r K=>by kernel_rfl)
def zev (N:Nat) (key:(List UInt8)) (t:DT1) : Option (List (List UInt8)) :=
 cond (decide (((0 : Int) <= (0 : Int)) /\ (((0 : Int) <= (IntKind.wrap IntKind.i64 ((1 : Int) + (((List.length t.2.1) : Nat) : Int)))) /\ ((((IntKind.wrap IntKind.i64 ((1 : Int) + (((List.length t.2.1) : Nat) : Int))) * (16 : Int)) <= (281474976710656 : Int)) /\ ((IntKind.wrap IntKind.i64 ((1 : Int) + (((List.length t.2.1) : Nat) : Int))) <= (9223372036854775807 : Int))))))
 ((z5e N key t.1).bind fun y =>
 zlh N ([] : List (List UInt8)) (y,(t.2.1,((),())))
 (fun tags_1=>some tags_1))
 (none)
def t_51 (N:Nat) : Tab (List (List UInt8)) := [([0,1,0,1,1],z1qe N)]
theorem z1ff (N:Nat) (x:z1h z19g) : z2q (z1wn N) N (t_51 N) L_51 Tryz.f84 (mkS z19g 0 x) (z1d (.v (.sl .str)) 2) = zev N x.1 x.2.1 := by kernel_rfl
def ziz (N:Nat) : List A -> Res := z10 z19g (fun x=>zev N x.1 x.2.1) (z2p (.v (.sl .str)) 2)
theorem zu4 (N:Nat) : Contract Tryz.prog glob 84 (ziz N) :=
  Contract.of (E := z1wn N) (H := t_51 N) (L := L_51) (N := N) (body := zub) (K := (z1d (.v (.sl .str)) 2)) (z1vl N) Tryz.func84 (by kernel_rfl) (by decide) (fun _ hb=>(TabOk.cons (z1ny hb) TabOk.nil)) (fun x y h=>by rw [z1ff]; exact h) (zn (s := (.v (.sl .str))) (m := 2))
def z1hl : Code := (Tryz.f56.body).getD .skip
def L_52 : List (List Nat × List Nat) := [([0],[1,5,0]),([0,1],[0,8]),([0,1,1],[8,0]),([0,1,1,1],[6,7,0]),([1,1,1,1],[6,7,0])]
def E_52 (N:Nat) : Env := z16 tys glob [(84,ziz N)] [(8,.str),(6,.str)] [] [0] false [] [(66,zb N),(98,z7 N)]
theorem z1vk (N:Nat) : EnvOk Tryz.prog (E_52 N) := zk mixed zo (FnsOk.cons (zu4 N) (FnsOk.nil)) (ItsOk.cons (ze N) (ItsOk.cons (z8 N) (ItsOk.nil)))
def z4c (N:Nat) (r_:DT2) (key:(List UInt8)) (t:DT1) : Option (((List (List UInt8)) × (List UInt8) × Unit) × (DT2 × Unit)) :=
 (zev N key t).bind fun y =>
 cond (inR (IntKind.wrap IntKind.i64 ((((List.length y) : Nat) : Int) - (1 : Int))) (List.length y))
 (some ((y,((List.getD y (Int.toNat (IntKind.wrap IntKind.i64 ((((List.length y) : Nat) : Int) - (1 : Int)))) ([] : List UInt8)),())),((r_.1,(r_.2.1,(r_.2.2.1,(r_.2.2.2.1,((IntKind.wrap IntKind.i64 (r_.2.2.2.2.1 + (((List.length y) : Nat) : Int))),r_.2.2.2.2.2))))),())))
 (none)
def t_52 (N:Nat) : Tab (((List (List UInt8)) × (List UInt8) × Unit) × (DT2 × Unit)) := []
theorem z1fe (N:Nat) (x:z1h [(0,.box TT3),(0,.v .str),(0,.v TT0)]) : z2q (E_52 N) N (t_52 N) L_52 Tryz.f56 (mkS [(0,.box TT3),(0,.v .str),(0,.v TT0)] 0 x) (zel (.tup [(.sl .str),.str]) [(0,.box TT3)] 2) = z4c N x.1 x.2.1 x.2.2.1 := by kernel_rfl
def z7g (N:Nat) : List A -> Res := z10 [(0,.box TT3),(0,.v .str),(0,.v TT0)] (fun x=>z4c N x.1 x.2.1 x.2.2.1) (zmg (.tup [(.sl .str),.str]) [(0,.box TT3)] 2)
theorem zcz (N:Nat) : Contract Tryz.prog glob 56 (z7g N) :=
  Contract.of (E := E_52 N) (H := t_52 N) (L := L_52) (N := N) (body := z1hl) (K := (zel (.tup [(.sl .str),.str]) [(0,.box TT3)] 2)) (z1vk N) Tryz.func56 (by kernel_rfl) (by decide) (fun _ hb=>TabOk.nil) (fun x y h=>by rw [z1fe]; exact h) (zb6 (s := (.tup [(.sl .str),.str])) (os := [(0,.box TT3)]) (m := 2))
def zys : Code := (Tryz.f85.body).getD .skip
def L_53 : List (List Nat × List Nat) := [([0],[0,1]),([0,0,1],[11,0,1]),([1,0,1],[0,1]),([0,0,1,0,1],[4]),([1,0,1,0,1],[4]),([0,1,1],[0,5,1]),([0,0,1,1,1],[14,13,5,0,1]),([0,1,0,1,1,1],[14,13,5,0,1]),([0,0,0,1,0,1,1,1],[15,14,5,0,1,13]),(z1ij,[14,5,0,1,13]),([1,0,1,0,0,1,0,1,1,1],[5]),([0,0,0,1,1,0,0,1,0,1,1,1],[5,0,6,1,14,13]),([1,0,0,1,1,0,0,1,0,1,1,1],[14,13,5,0,1]),([0,1,1,0,0,1,0,1,1,1],[14,13,5,0,1]),([1,1,1,0,0,1,0,1,1,1],[14,13,5,0,1]),([1,0,1,1,1],[5]),([0,1,1,1,1],[4]),([1,1,1,1,1],[4])]
def E_53 (N:Nat) : Env := z16 tys glob [] [] [] [] false [] [(66,zb N),(98,z7 N)]
theorem z1vj (N:Nat) : EnvOk Tryz.prog (E_53 N) := zk mixed zo (FnsOk.nil) (ItsOk.cons (ze N) (ItsOk.cons (z8 N) (ItsOk.nil)))
def zdm (N:Nat) (a:(List UInt8)) (b:(List UInt8)) (x13:Int) (differ:Int) (x14:Int) (rec:Int -> Int -> Option Bool) (k0:Int -> Option Bool) : Option Bool :=
 cond (decide (x14 < x13))
 (cond (inR x14 (List.length a))
 (cond (inR x14 (List.length b))
 (rec (zj Go.BinOp.or IntKind.u8 differ (zj Go.BinOp.xor IntKind.u8 (((UInt8.toNat (List.getD a (Int.toNat x14) (0 : UInt8))) : Nat) : Int) (((UInt8.toNat (List.getD b (Int.toNat x14) (0 : UInt8))) : Nat) : Int))) (IntKind.wrap IntKind.i64 (x14 + (1 : Int))))
 (none))
 (none))
 (k0 differ)
def zir (N:Nat) (a:(List UInt8)) (b:(List UInt8)) (differ:Int) (x13:Int) (x14:Int) (k0:Int -> Option Bool) : Option Bool :=
 iter (fun (v:(Int × Int)) r=>zdm N a b x13 v.1 v.2 (fun differ x14=>(r (differ,x14))) k0) N (differ,x14)
def z1sg (N:Nat) (i:((List UInt8) × (List UInt8) × Int)) (v:(Int × Int)) (r:(Int × Int) -> Option Bool) (K:Ex -> List A -> Option Bool) : Option Bool :=
 zdm N i.1 i.2.1 i.2.2 v.1 v.2 (fun differ x14=>(r (differ,x14))) (fun a0=>(K (.exit 0) (mkS [(5,.v (.int .u8))] 23 (a0,()))))
def z1qd (N:Nat) : Hd Bool := fun st K=>(unS SQ96 14 (restr [14,13,5,0,1] 0 st)).bind fun x=>iter (fun v r=>z1sg N ((fun x=>(x.1,x.2.1,x.2.2.2.1)) x) v r K) N ((fun x=>(x.2.2.1,x.2.2.2.2.1)) x)
def t1_53 (N:Nat) : Tab Bool := []
theorem z1nx {N:Nat} {c:Ctx} (hb:Base Tryz.prog (E_53 N) c) : zq Tryz.prog c (zm zys [0,1,0,1,1,1]) (z1qd N) :=
  z1k (s := SQ96) (m := 14) (z1sg N) [14,13,5,0,1] N (fun x=>(x.1,x.2.1,x.2.2.2.1)) (fun x=>(x.2.2.1,x.2.2.2.2.1)) (fun i v=>(i.1,i.2.1,v.1,i.2.2,v.2,())) (fun _=>rfl) (zi hb N (t1_53 N) L_53 zys TabOk.nil z1bu _ rfl) (fun i v r K=>by kernel_rfl)
def zce (N:Nat) (a:(List UInt8)) (b:(List UInt8)) : Option Bool :=
 cond ((((List.length a) : Nat) : Int) != (((List.length b) : Nat) : Int))
 (some false)
 (zir N a b (0 : Int) (((List.length a) : Nat) : Int) (0 : Int)
 (fun differ=>some (differ == (0 : Int))))
def t_53 (N:Nat) : Tab Bool := [([0,1,0,1,1,1],z1qd N)]
theorem z1fd (N:Nat) (x:z1h SQ0) : z2q (E_53 N) N (t_53 N) L_53 Tryz.f85 (mkS SQ0 0 x) (z1d (.v .bool) 2) = zce N x.1 x.2.1 := by kernel_rfl
def zh7 (N:Nat) : List A -> Res := z10 SQ0 (fun x=>zce N x.1 x.2.1) (z2p (.v .bool) 2)
theorem zra (N:Nat) : Contract Tryz.prog glob 85 (zh7 N) :=
  Contract.of (E := E_53 N) (H := t_53 N) (L := L_53) (N := N) (body := zys) (K := (z1d (.v .bool) 2)) (z1vj N) Tryz.func85 (by kernel_rfl) (by decide) (fun _ hb=>(TabOk.cons (z1nx hb) TabOk.nil)) (fun x y h=>by rw [z1fd]; exact h) (zn (s := (.v .bool)) (m := 2))
def z1hk : Code := (Tryz.f57.body).getD .skip
def L_54 : List (List Nat × List Nat) := [([0],[0,1]),([0,1],[4]),([1,1],[4])]
def E_54 (N:Nat) : Env := z16 tys glob [(85,zh7 N)] [] [] [] false [] [(66,zb N),(98,z7 N)]
theorem z1vi (N:Nat) : EnvOk Tryz.prog (E_54 N) := zk mixed zo (FnsOk.cons (zra N) (FnsOk.nil)) (ItsOk.cons (ze N) (ItsOk.cons (z8 N) (ItsOk.nil)))
def zcn (N:Nat) (a:(List UInt8)) (b:(List UInt8)) : Option Bool :=
 cond ((((List.length a) : Nat) : Int) == (32 : Int))
 (cond ((((List.length b) : Nat) : Int) == (32 : Int))
 ((zce N a b).bind fun y =>
 some y)
 (some false))
 (some false)
def t_54 (N:Nat) : Tab Bool := []
theorem z1fc (N:Nat) (x:z1h SQ0) : z2q (E_54 N) N (t_54 N) L_54 Tryz.f57 (mkS SQ0 0 x) (z1d (.v .bool) 2) = zcn N x.1 x.2.1 := by kernel_rfl
def zb9 (N:Nat) : List A -> Res := z10 SQ0 (fun x=>zcn N x.1 x.2.1) (z2p (.v .bool) 2)
theorem zhh (N:Nat) : Contract Tryz.prog glob 57 (zb9 N) :=
  Contract.of (E := E_54 N) (H := t_54 N) (L := L_54) (N := N) (body := z1hk) (K := (z1d (.v .bool) 2)) (z1vi N) Tryz.func57 (by kernel_rfl) (by decide) (fun _ hb=>TabOk.nil) (fun x y h=>by rw [z1fc]; exact h) (zn (s := (.v .bool)) (m := 2))
def z1hj : Code := (Tryz.f39.body).getD .skip
def L_55 : List (List Nat × List Nat) := [([0],[1]),([0,1],[2]),([1,1],[2])]
def E_55 (N:Nat) : Env := z16 tys glob [] [] [] [] false [] [(66,zb N),(98,z7 N)]
theorem z1vh (N:Nat) : EnvOk Tryz.prog (E_55 N) := zk mixed zo (FnsOk.nil) (ItsOk.cons (ze N) (ItsOk.cons (z8 N) (ItsOk.nil)))
def zrt (N:Nat) (l:DT8) : Option Bool :=
 some (eqD (T.pair T.str (T.pair T.str T.unit)) l (l.1,(([] : List UInt8),())))
def t_55 (N:Nat) : Tab Bool := []
theorem z1fb (N:Nat) (x:z1h [(0,.v zk3)]) : z2q (E_55 N) N (t_55 N) L_55 Tryz.f39 (mkS [(0,.v zk3)] 0 x) (z1d (.v .bool) 1) = zrt N x.1 := by kernel_rfl
def zik (N:Nat) : List A -> Res := z10 [(0,.v zk3)] (fun x=>zrt N x.1) (z2p (.v .bool) 1)
theorem zt0 (N:Nat) : Contract Tryz.prog glob 39 (zik N) :=
  Contract.of (E := E_55 N) (H := t_55 N) (L := L_55) (N := N) (body := z1hj) (K := (z1d (.v .bool) 1)) (z1vh N) Tryz.func39 (by kernel_rfl) (by decide) (fun _ hb=>TabOk.nil) (fun x y h=>by rw [z1fb]; exact h) (zn (s := (.v .bool)) (m := 1))
def z1hi : Code := (Tryz.f50.body).getD .skip
def L_56 : List (List Nat × List Nat) := [([0],[0]),([0,1],[2]),([1,1],[2])]
def E_56 (N:Nat) : Env := z16 tys glob [(45,z3d N)] [] [] [] false [] [(66,zb N),(98,z7 N)]
theorem z1vg (N:Nat) : EnvOk Tryz.prog (E_56 N) := zk mixed zo (FnsOk.cons (z4y N) (FnsOk.nil)) (ItsOk.cons (ze N) (ItsOk.cons (z8 N) (ItsOk.nil)))
def zbj (N:Nat) (of:(List UInt8)) : Option (List UInt8) :=
 (z2n N of ([([(115 : UInt8),(101 : UInt8),(97 : UInt8),(108 : UInt8)] : List UInt8)] : List (List UInt8))).bind fun y =>
 some y
def t_56 (N:Nat) : Tab (List UInt8) := []
theorem z1fa (N:Nat) (x:z1h [(0,.v .str)]) : z2q (E_56 N) N (t_56 N) L_56 Tryz.f50 (mkS [(0,.v .str)] 0 x) (z1d (.v .str) 1) = zbj N x.1 := by kernel_rfl
def zdu (N:Nat) : List A -> Res := z10 [(0,.v .str)] (fun x=>zbj N x.1) (z2p (.v .str) 1)
theorem zli (N:Nat) : Contract Tryz.prog glob 50 (zdu N) :=
  Contract.of (E := E_56 N) (H := t_56 N) (L := L_56) (N := N) (body := z1hi) (K := (z1d (.v .str) 1)) (z1vg N) Tryz.func50 (by kernel_rfl) (by decide) (fun _ hb=>TabOk.nil) (fun x y h=>by rw [z1fa]; exact h) (zn (s := (.v .str)) (m := 1))
def z1hh : Code := (Tryz.f74.body).getD .skip
def L_57 : List (List Nat × List Nat) := [([0],[0]),([0,1],[2]),([1,1],[2])]
def E_57 (N:Nat) : Env := z16 tys glob [(45,z3d N)] [] [] [] false [] [(66,zb N),(98,z7 N)]
theorem z1vf (N:Nat) : EnvOk Tryz.prog (E_57 N) := zk mixed zo (FnsOk.cons (z4y N) (FnsOk.nil)) (ItsOk.cons (ze N) (ItsOk.cons (z8 N) (ItsOk.nil)))
def z9i (N:Nat) (key:(List UInt8)) : Option (List UInt8) :=
 (z2n N key ([([(104 : UInt8),(105 : UInt8),(100 : UInt8),(101 : UInt8)] : List UInt8)] : List (List UInt8))).bind fun y =>
 some y
def t_57 (N:Nat) : Tab (List UInt8) := []
theorem z1f9 (N:Nat) (x:z1h [(0,.v .str)]) : z2q (E_57 N) N (t_57 N) L_57 Tryz.f74 (mkS [(0,.v .str)] 0 x) (z1d (.v .str) 1) = z9i N x.1 := by kernel_rfl
def zct (N:Nat) : List A -> Res := z10 [(0,.v .str)] (fun x=>z9i N x.1) (z2p (.v .str) 1)
theorem zj1 (N:Nat) : Contract Tryz.prog glob 74 (zct N) :=
  Contract.of (E := E_57 N) (H := t_57 N) (L := L_57) (N := N) (body := z1hh) (K := (z1d (.v .str) 1)) (z1vf N) Tryz.func74 (by kernel_rfl) (by decide) (fun _ hb=>TabOk.nil) (fun x y h=>by rw [z1f9]; exact h) (zn (s := (.v .str)) (m := 1))
def z1hg : Code := (Tryz.f102.body).getD .skip
def L_58 : List (List Nat × List Nat) := [([0],[0]),([0,0,1],[5,0]),([1,0,1],[0]),([0,0,1,0,1],[2]),([1,0,1,0,1],[2]),([0,1,1],[2]),([1,1,1],[2])]
def E_58 (N:Nat) : Env := z16 tys glob [] [] [] [] false [] [(66,zb N),(98,z7 N)]
theorem z1ve (N:Nat) : EnvOk Tryz.prog (E_58 N) := zk mixed zo (FnsOk.nil) (ItsOk.cons (ze N) (ItsOk.cons (z8 N) (ItsOk.nil)))
def zhp (N:Nat) (s:(List UInt8)) : Option (List UInt8) :=
 cond (decide ((((List.length s) : Nat) : Int) < (16 : Int)))
 (some ([] : List UInt8))
 (cond (decide (((0 : Int) <= (16 : Int)) /\ ((16 : Int) <= (((List.length s) : Nat) : Int))))
 (some (cut s 0 16))
 (none))
def t_58 (N:Nat) : Tab (List UInt8) := []
theorem z1f8 (N:Nat) (x:z1h [(0,.v .str)]) : z2q (E_58 N) N (t_58 N) L_58 Tryz.f102 (mkS [(0,.v .str)] 0 x) (z1d (.v .str) 1) = zhp N x.1 := by kernel_rfl
def zlm (N:Nat) : List A -> Res := z10 [(0,.v .str)] (fun x=>zhp N x.1) (z2p (.v .str) 1)
theorem zwf (N:Nat) : Contract Tryz.prog glob 102 (zlm N) :=
  Contract.of (E := E_58 N) (H := t_58 N) (L := L_58) (N := N) (body := z1hg) (K := (z1d (.v .str) 1)) (z1ve N) Tryz.func102 (by kernel_rfl) (by decide) (fun _ hb=>TabOk.nil) (fun x y h=>by rw [z1f8]; exact h) (zn (s := (.v .str)) (m := 1))
def zyr : Code := (Tryz.f131.body).getD .skip
def L_59 : List (List Nat × List Nat) := [([0],[0]),([0,1],[3,0]),([0,0,1,1],[6,3,0]),([0,1,0,1,1],[6,3,0]),(z16h,[7,6,3,0]),(PQ9,[6,3,0]),(z1k3,[3]),(z1k4,[3,4,0,6]),(z1tq,[6,3,0]),(z1k2,[6,3,0]),(z1k1,[6,3,0]),([1,0,1,1],[3]),([0,1,1,1],[2]),([1,1,1,1],[2])]
def E_59 (N:Nat) : Env := z16 tys glob [] [(3,(.int .u8))] [] [] false [] [(66,zb N),(98,z7 N)]
theorem z1vd (N:Nat) : EnvOk Tryz.prog (E_59 N) := zk mixed zo (FnsOk.nil) (ItsOk.cons (ze N) (ItsOk.cons (z8 N) (ItsOk.nil)))
def zg4 (N:Nat) (n:Int) (out:(List Int)) (x6:Int) (rec:(List Int) -> Int -> Option (List UInt8)) (k0:(List Int) -> Option (List UInt8)) : Option (List UInt8) :=
 cond (decide (x6 < (8 : Int)))
 (cond (decide ((0 : Int) <= (IntKind.wrap IntKind.i64 ((8 : Int) * (IntKind.wrap IntKind.i64 ((7 : Int) - x6))))))
 (cond (inR x6 (List.length out))
 (cond (decide ((Int.toNat x6) < (List.length out)))
 (rec (List.set out (Int.toNat x6) (IntKind.wrap IntKind.u8 (z3i IntKind.i64 n (IntKind.wrap IntKind.i64 ((8 : Int) * (IntKind.wrap IntKind.i64 ((7 : Int) - x6))))))) (IntKind.wrap IntKind.i64 (x6 + (1 : Int))))
 (none))
 (none))
 (none))
 (k0 out)
def znw (N:Nat) (n:Int) (out:(List Int)) (x6:Int) (k0:(List Int) -> Option (List UInt8)) : Option (List UInt8) :=
 iter (fun (v:((List Int) × Int)) r=>zg4 N n v.1 v.2 (fun out x6=>(r (out,x6))) k0) N (out,x6)
def z1sf (N:Nat) (i:Int) (v:((List Int) × Int)) (r:((List Int) × Int) -> Option (List UInt8)) (K:Ex -> List A -> Option (List UInt8)) : Option (List UInt8) :=
 zg4 N i v.1 v.2 (fun out x6=>(r (out,x6))) (fun a0=>(K (.exit 0) (mkS [(3,.row (.int .u8))] 17 (a0,()))))
def z1qc (N:Nat) : Hd (List UInt8) := fun st K=>(unS [(0,.v (.int .i64)),(2,.row (.int .u8)),(2,.v (.int .i64))] 14 (restr [6,3,0] 0 st)).bind fun x=>iter (fun v r=>z1sf N ((fun x=>x.1) x) v r K) N ((fun x=>(x.2.1,x.2.2.1)) x)
def t1_59 (N:Nat) : Tab (List UInt8) := []
theorem z1nw {N:Nat} {c:Ctx} (hb:Base Tryz.prog (E_59 N) c) : zq Tryz.prog c (zm zyr [0,1,0,1,1]) (z1qc N) :=
  z1k (s := [(0,.v (.int .i64)),(2,.row (.int .u8)),(2,.v (.int .i64))]) (m := 14) (z1sf N) [6,3,0] N (fun x=>x.1) (fun x=>(x.2.1,x.2.2.1)) (fun i v=>(i,v.1,v.2,())) (fun _=>rfl) (zi hb N (t1_59 N) L_59 zyr TabOk.nil [0,0,1,0,1,1] _ rfl) (fun i v r K=>by kernel_rfl)
def z64 (N:Nat) (n:Int) : Option (List UInt8) :=
 znw N n ([(0 : Int),(0 : Int),(0 : Int),(0 : Int),(0 : Int),(0 : Int),(0 : Int),(0 : Int)] : List Int) (0 : Int)
 (fun out=>some (z2f out))
def t_59 (N:Nat) : Tab (List UInt8) := [([0,1,0,1,1],z1qc N)]
theorem z1f7 (N:Nat) (x:z1h [(0,.v (.int .i64))]) : z2q (E_59 N) N (t_59 N) L_59 Tryz.f131 (mkS [(0,.v (.int .i64))] 0 x) (z1d (.v .str) 1) = z64 N x.1 := by kernel_rfl
def ze2 (N:Nat) : List A -> Res := z10 [(0,.v (.int .i64))] (fun x=>z64 N x.1) (z2p (.v .str) 1)
theorem znx (N:Nat) : Contract Tryz.prog glob 131 (ze2 N) :=
  Contract.of (E := E_59 N) (H := t_59 N) (L := L_59) (N := N) (body := zyr) (K := (z1d (.v .str) 1)) (z1vd N) Tryz.func131 (by kernel_rfl) (by decide) (fun _ hb=>(TabOk.cons (z1nw hb) TabOk.nil)) (fun x y h=>by rw [z1f7]; exact h) (zn (s := (.v .str)) (m := 1))
def z1hf : Code := (Tryz.f124.body).getD .skip
def L_60 : List (List Nat × List Nat) := [([0],[2,0,1]),([0,0,1],[8,0,1,2]),([1,0,1],[0,1,2]),([0,0,1,0,1],[6]),([1,0,1,0,1],[6]),([0,1,1],[6]),([1,1,1],[6])]
def E_60 (N:Nat) : Env := z16 tys glob [(131,ze2 N),(45,z3d N)] [] [] [] false [] [(66,zb N),(98,z7 N)]
theorem z1vc (N:Nat) : EnvOk Tryz.prog (E_60 N) := zk mixed zo (FnsOk.cons (znx N) (FnsOk.cons (z4y N) (FnsOk.nil))) (ItsOk.cons (ze N) (ItsOk.cons (z8 N) (ItsOk.nil)))
def z9v (N:Nat) (key:(List UInt8)) (nonce:(List UInt8)) (i:Int) : Option (List UInt8) :=
 cond (decide (i < (0 : Int)))
 (some ([] : List UInt8))
 ((z64 N i).bind fun y =>
 (z2n N key ([([(115 : UInt8),(116 : UInt8),(114 : UInt8),(101 : UInt8),(97 : UInt8),(109 : UInt8)] : List UInt8),nonce,y] : List (List UInt8))).bind fun y1 =>
 some y1)
def t_60 (N:Nat) : Tab (List UInt8) := []
theorem z1f6 (N:Nat) (x:z1h SQ3) : z2q (E_60 N) N (t_60 N) L_60 Tryz.f124 (mkS SQ3 0 x) (z1d (.v .str) 3) = z9v N x.1 x.2.1 x.2.2.1 := by kernel_rfl
def zg5 (N:Nat) : List A -> Res := z10 SQ3 (fun x=>z9v N x.1 x.2.1 x.2.2.1) (z2p (.v .str) 3)
theorem zou (N:Nat) : Contract Tryz.prog glob 124 (zg5 N) :=
  Contract.of (E := E_60 N) (H := t_60 N) (L := L_60) (N := N) (body := z1hf) (K := (z1d (.v .str) 3)) (z1vc N) Tryz.func124 (by kernel_rfl) (by decide) (fun _ hb=>TabOk.nil) (fun x y h=>by rw [z1f6]; exact h) (zn (s := (.v .str)) (m := 3))
def zyq : Code := (Tryz.f123.body).getD .skip
def L_61 : List (List Nat × List Nat) := [([0],[10,9,0,2,3]),([0,1],[10,9,0,2,3]),([0,0,0,1],[11,10,0,2,3,9]),([0,1,0,0,1],[10,0,2,3,9]),([1,0,1,0,0,1],[0]),([0,0,0,1,1,0,0,1],[0,2,3,5,10,9]),([0,1,0,0,1,1,0,0,1],[19,0,10,9,2,3]),([1,1,0,0,1,1,0,0,1],[10,9,0,2,3]),([0,1,1,0,0,1,1,0,0,1],[0]),([0,1,1,0,0,1],[10,9,0,2,3]),([1,1,1,0,0,1],[10,9,0,2,3]),([1],[0])]
def E_61 (N:Nat) : Env := z16 tys glob [(124,zg5 N)] [] [] [0] false [] []
theorem z1vb (N:Nat) : EnvOk Tryz.prog (E_61 N) := zk mixed zo (FnsOk.cons (zou N) (FnsOk.nil)) ItsOk.nil
def z65 (N:Nat) (x2:(List UInt8)) (x3:(List UInt8)) (x9:Int) (x10:Int) (rec:Int -> Option (List z6w)) (k0:Option (List z6w)) (k1:Option (List z6w)) : Option (List z6w) :=
 cond (decide (x10 < x9))
 ((z9v N x2 x3 x10).bind fun y =>
 zu0 (y,())
 (rec (IntKind.wrap IntKind.i64 (x10 + (1 : Int))))
 (k0))
 (k1)
def ze4 (N:Nat) (x2:(List UInt8)) (x3:(List UInt8)) (x9:Int) (x10:Int) (k0:Option (List z6w)) (k1:Option (List z6w)) : Option (List z6w) :=
 iter (fun (v:Int) r=>z65 N x2 x3 x9 v (fun x10=>(r x10)) k0 k1) N x10
def z1se (N:Nat) (i:((List UInt8) × (List UInt8) × Int)) (v:Int) (r:Int -> Option (List z6w)) (K:Ex -> List A -> Option (List z6w)) : Option (List z6w) :=
 z65 N i.1 i.2.1 i.2.2 v (fun x10=>(r x10)) (K .ret (mkS [(0,.yld)] 20 ((),()))) (K (.exit 0) (mkS [(0,.yld)] 20 ((),())))
def z1qb (N:Nat) : Hd (List z6w) := fun st K=>(unS [(0,.yld),(1,.v (.ptr .str)),(0,.v (.ptr .str)),(5,.v (.int .i64)),(0,.v (.int .i64))] 10 (restr [10,9,0,2,3] 0 st)).bind fun x=>iter (fun v r=>z1se N ((fun x=>(x.2.1,x.2.2.1,x.2.2.2.1)) x) v r K) N ((fun x=>x.2.2.2.2.1) x)
def t1_61 (N:Nat) : Tab (List z6w) := []
theorem z1nv {N:Nat} {G:GY [.str]} (hG:zht G) (hev:z1u3 G Tryz.prog (E_61 N) N L_61 zyq) : YOk G Tryz.prog (zm zyq [0,1]) (z1qb N) :=
  zob hG (s := [(0,.yld),(1,.v (.ptr .str)),(0,.v (.ptr .str)),(5,.v (.int .i64)),(0,.v (.int .i64))]) (m := 10) (z1se N) [10,9,0,2,3] N (fun x=>(x.2.1,x.2.2.1,x.2.2.2.1)) (fun x=>x.2.2.2.2.1) (fun i v=>((),i.1,i.2.1,i.2.2,v,())) (fun _=>rfl) (hev (t1_61 N) TabOkY.nil [0,0,1]) (fun i v r K=>by kernel_rfl)
def z6y (N:Nat) (x1:Int) (x2:(List UInt8)) (x3:(List UInt8)) : Option (List z6w) :=
 ze4 N x2 x3 (IntKind.wrap IntKind.i64 (Int.tdiv (IntKind.wrap IntKind.i64 ((IntKind.wrap IntKind.i64 (x1 + (32 : Int))) - (1 : Int))) (32 : Int))) (0 : Int)
 (some ([] : List z6w))
 (some ([] : List z6w))
def t_61 (N:Nat) : Tab (List z6w) := [([0,1],z1qb N)]
theorem z1f5 (N:Nat) (x:T.den (.pair (.ptr (.int .i64)) (.pair (.ptr .str) (.pair (.ptr .str) .unit)))) : z1jp (E_61 N) [.str] zu0 N (t_61 N) L_61 Tryz.f123 [.v (.ptr (.int .i64)) x.1,.v (.ptr .str) x.2.1,.v (.ptr .str) x.2.2.1] = z6y N x.1 x.2.1 x.2.2.1 := by kernel_rfl
def zd (N:Nat) : Dat -> ItRes := z11t (ts := [.str]) (.pair (.ptr (.int .i64)) (.pair (.ptr .str) (.pair (.ptr .str) .unit))) (fun x=>z6y N x.1 x.2.1 x.2.2.1)
theorem zf (N:Nat) : ItOk Tryz.prog glob 123 (zd N) := ItOk.of (ts := [.str]) (E := E_61 N) (H := t_61 N) (L := L_61) (N := N) (body := zyq) (z1vb N) rfl Tryz.func123 (by kernel_rfl) (by decide) (fun G hG hev=>(TabOkY.cons (z1nv hG hev) TabOkY.nil)) (fun x y h=>⟨_,rfl,by rw [z1f5]; exact h⟩)
def z1he : Code := (Tryz.f110.body).getD .skip
def L_62 : List (List Nat × List Nat) := [([0],[5,3,4]),([0,1],[6]),([1,1],[6])]
def E_62 (N:Nat) : Env := z16 tys glob [] [] [] [] false [] [(123,zd N),(66,zb N),(98,z7 N)]
theorem z1va (N:Nat) : EnvOk Tryz.prog (E_62 N) := zk mixed zo (FnsOk.nil) (ItsOk.cons (zf N) (ItsOk.cons (ze N) (ItsOk.cons (z8 N) (ItsOk.nil))))
def zka (N:Nat) (key:(List UInt8)) (nonce:(List UInt8)) (n:Int) : Option (Int × DT8) :=
 some (n,(key,(nonce,())))
def t_62 (N:Nat) : Tab (Int × DT8) := []
theorem z1f4 (N:Nat) (x:z1h SQ3) : z2q (E_62 N) N (t_62 N) L_62 Tryz.f110 (mkS SQ3 0 x) (z1d (.v (.fn 123 (.pair (.ptr (.int .i64)) (.pair (.ptr .str) (.pair (.ptr .str) .unit))))) 3) = zka N x.1 x.2.1 x.2.2.1 := by kernel_rfl
def ze3 (N:Nat) : List A -> Res := z10 SQ3 (fun x=>zka N x.1 x.2.1 x.2.2.1) (z2p (.v (.fn 123 (.pair (.ptr (.int .i64)) (.pair (.ptr .str) (.pair (.ptr .str) .unit))))) 3)
theorem zny (N:Nat) : Contract Tryz.prog glob 110 (ze3 N) :=
  Contract.of (E := E_62 N) (H := t_62 N) (L := L_62) (N := N) (body := z1he) (K := (z1d (.v (.fn 123 (.pair (.ptr (.int .i64)) (.pair (.ptr .str) (.pair (.ptr .str) .unit))))) 3)) (z1va N) Tryz.func110 (by kernel_rfl) (by decide) (fun _ hb=>TabOk.nil) (fun x y h=>by rw [z1f4]; exact h) (zn (s := (.v (.fn 123 (.pair (.ptr (.int .i64)) (.pair (.ptr .str) (.pair (.ptr .str) .unit)))))) (m := 3))
def zua : Code := (Tryz.f97.body).getD .skip
def L_63 : List (List Nat × List Nat) := [([0],[2,0,1]),([0,0,1],[10,2,0,1]),([1,0,1],[2,0,1]),([0,0,1,0,1],[6]),([1,0,1,0,1],[6]),([0,1,1],[0,1,2]),([0,1,1,1],[0,1,2,7]),([0,0,1,1,1,1],[16,7,2]),(z165,[7,2]),(z1k0,[8,7,2]),([0,1,0,1,0,1,1,1,1],[7,2]),(z19m,[7,2]),([1,0,1,1,1,1],[7,2]),([0,1,1,1,1,1],[6]),([1,1,1,1,1,1],[6])]
def z1wm (N:Nat) : Env := z16 tys glob [(110,ze3 N),(77,z2u N),(78,zwx)] [] [] [] false [(7,zuh)] [(123,zd N),(66,zb N),(98,z7 N)]
theorem z1v9 (N:Nat) : EnvOk Tryz.prog (z1wm N) := zk mixed zo (FnsOk.cons (zny N) (FnsOk.cons (z4m N) (FnsOk.cons (z19y glob) (FnsOk.nil)))) (ItsOk.cons (zf N) (ItsOk.cons (ze N) (ItsOk.cons (z8 N) (ItsOk.nil))))
def zdh (N:Nat) (n_1:Int) (out_1:zlt) (y:z6w) (rec:zlt -> Option (List UInt8)) (k0:zlt -> Option (List UInt8)) : Option (List UInt8) :=
 (z1g N out_1 y.1).bind fun y1 =>
 rec y1.2.1
def z7c (N:Nat) (n:Int) (out:zlt) (x16:(Int × DT8)) : Option (List z6w) := (z6y N x16.1 x16.2.1 x16.2.2.1)
def zdi (N:Nat) (n:Int) (out:zlt) (x16:(Int × DT8)) : Int := n
def zil (N:Nat) (n:Int) (out:zlt) (x16:(Int × DT8)) : zlt := out
def zim (N:Nat) (n:Int) (out:zlt) (x16:(Int × DT8)) (k0:zlt -> Option (List UInt8)) : Option (List UInt8) :=
 (z7c N n out x16).bind fun ys=>zem (fun (y:z6w) (v:zlt) r=>zdh N n v y (fun out_1=>(r out_1)) k0) (fun (v:zlt)=>k0 v) ys out
def z1sd (N:Nat) (y:z6w) (i:Int) (v:zlt) (r:zlt -> Option (List UInt8)) (K:Ex -> List A -> Option (List UInt8)) : Option (List UInt8) :=
 zdh N i v y (fun out_1=>(r out_1)) (fun a1=>(K .normal (mkS [(2,.v (.int .i64)),(4,.box zuh)] 15 (i,a1,()))))
def z1qa (N:Nat) : Hd (List UInt8) := fun st K=>(unS [(2,.v (.int .i64)),(4,.box zuh),(8,.v (.fn 123 (.pair (.ptr (.int .i64)) (.pair (.ptr .str) (.pair (.ptr .str) .unit)))))] 6 (restr [16,7,2] 0 st)).bind fun x=>((fun x=>z7c N x.1 x.2.1 x.2.2.1) x).bind fun xs=>zem (fun y v r=>z1sd N y ((fun x=>zdi N x.1 x.2.1 x.2.2.1) x) v r K) (fun v=>K .normal (mkS [(2,.v (.int .i64)),(4,.box zuh)] 15 ((fun i v=>(i,v,())) ((fun x=>zdi N x.1 x.2.1 x.2.2.1) x) v))) xs ((fun x=>zil N x.1 x.2.1 x.2.2.1) x)
theorem z1nu {N:Nat} {c:Ctx} (hb:Base Tryz.prog (z1wm N) c) : zq Tryz.prog c (zm zua z165) (z1qa N) :=
  z17h (ts := [.str]) (s := [(2,.v (.int .i64)),(4,.box zuh),(8,.v (.fn 123 (.pair (.ptr (.int .i64)) (.pair (.ptr .str) (.pair (.ptr .str) .unit)))))]) (m := 6) (s2 := [(2,.v (.int .i64)),(4,.box zuh)]) (m2 := 15) [16,7,2] (fun x=>z7c N x.1 x.2.1 x.2.2.1) (fun x=>zdi N x.1 x.2.1 x.2.2.1) (fun x=>zil N x.1 x.2.1 x.2.2.1) (fun i v=>(i,v,())) (rfF (z1wm N) N [.str] (zm zua z165)) (z1sd N) (zi hb N [] L_63 zua TabOk.nil z165 _ rfl) (fun x K=>by kernel_rfl) (fun y i v r K=>by kernel_rfl)
def zbo (N:Nat) (key:(List UInt8)) (nonce:(List UInt8)) (n:Int) : Option (List UInt8) :=
 cond (decide (n < (1 : Int)))
 (some ([] : List UInt8))
 (zim N (if ((65536 : Int) < n) then (65536 : Int) else n) ((),(([] : List Int),())) ((if ((65536 : Int) < n) then (65536 : Int) else n),(key,(nonce,())))
 (fun out_1=>(zwy (out_1,())).bind fun y =>
 cond (decide (((0 : Int) <= (if ((65536 : Int) < n) then (65536 : Int) else n)) /\ ((if ((65536 : Int) < n) then (65536 : Int) else n) <= (((List.length y.1) : Nat) : Int))))
 (some (cut y.1 0 (Int.toNat (if ((65536 : Int) < n) then (65536 : Int) else n))))
 (none)))
def t_63 (N:Nat) : Tab (List UInt8) := [(z165,z1qa N)]
theorem z1f3 (N:Nat) (x:z1h SQ3) : z2q (z1wm N) N (t_63 N) L_63 Tryz.f97 (mkS SQ3 0 x) (z1d (.v .str) 3) = zbo N x.1 x.2.1 x.2.2.1 := by kernel_rfl
def zgt (N:Nat) : List A -> Res := z10 SQ3 (fun x=>zbo N x.1 x.2.1 x.2.2.1) (z2p (.v .str) 3)
theorem zr7 (N:Nat) : Contract Tryz.prog glob 97 (zgt N) :=
  Contract.of (E := z1wm N) (H := t_63 N) (L := L_63) (N := N) (body := zua) (K := (z1d (.v .str) 3)) (z1v9 N) Tryz.func97 (by kernel_rfl) (by decide) (fun _ hb=>(TabOk.cons (z1nu hb) TabOk.nil)) (fun x y h=>by rw [z1f3]; exact h) (zn (s := (.v .str)) (m := 3))
def z1hd : Code := (Tryz.f73.body).getD .skip
def L_64 : List (List Nat × List Nat) := [([0],[2,0,1]),([0,0,1],[9,2,0,1]),([1,0,1],[2,0,1]),([0,0,1,0,1],[6]),([1,0,1,0,1],[6]),([0,1,1],[6]),([1,1,1],[6])]
def E_64 (N:Nat) : Env := z16 tys glob [(97,zgt N),(96,zfd N)] [] [] [] false [] [(123,zd N),(66,zb N),(98,z7 N)]
theorem z1v8 (N:Nat) : EnvOk Tryz.prog (E_64 N) := zk mixed zo (FnsOk.cons (zr7 N) (FnsOk.cons (zn9 N) (FnsOk.nil))) (ItsOk.cons (zf N) (ItsOk.cons (ze N) (ItsOk.cons (z8 N) (ItsOk.nil))))
def zbf (N:Nat) (key:(List UInt8)) (nonce:(List UInt8)) (text:(List UInt8)) : Option (List UInt8) :=
 cond (decide ((65536 : Int) < (((List.length text) : Nat) : Int)))
 (some ([] : List UInt8))
 ((zbo N key nonce (((List.length text) : Nat) : Int)).bind fun y =>
 (zeh N text y).bind fun y1 =>
 some y1)
def t_64 (N:Nat) : Tab (List UInt8) := []
theorem z1f2 (N:Nat) (x:z1h SQ2) : z2q (E_64 N) N (t_64 N) L_64 Tryz.f73 (mkS SQ2 0 x) (z1d (.v .str) 3) = zbf N x.1 x.2.1 x.2.2.1 := by kernel_rfl
def zdj (N:Nat) : List A -> Res := z10 SQ2 (fun x=>zbf N x.1 x.2.1 x.2.2.1) (z2p (.v .str) 3)
theorem zkb (N:Nat) : Contract Tryz.prog glob 73 (zdj N) :=
  Contract.of (E := E_64 N) (H := t_64 N) (L := L_64) (N := N) (body := z1hd) (K := (z1d (.v .str) 3)) (z1v8 N) Tryz.func73 (by kernel_rfl) (by decide) (fun _ hb=>TabOk.nil) (fun x y h=>by rw [z1f2]; exact h) (zn (s := (.v .str)) (m := 3))
def z1hc : Code := (Tryz.f101.body).getD .skip
def L_65 : List (List Nat × List Nat) := [([0],[5,1,2,3,0]),([1],[0,1,2,3]),([0,1],[0,1,2,3])]
def E_65 (N:Nat) : Env := z16 tys glob [(73,zdj N),(102,zlm N),(74,zct N)] [] [] [0,1,2,3] false [] [(123,zd N),(66,zb N),(98,z7 N)]
theorem z1v7 (N:Nat) : EnvOk Tryz.prog (E_65 N) := zk mixed zo (FnsOk.cons (zkb N) (FnsOk.cons (zwf N) (FnsOk.cons (zj1 N) (FnsOk.nil)))) (ItsOk.cons (zf N) (ItsOk.cons (ze N) (ItsOk.cons (z8 N) (ItsOk.nil))))
def zex (N:Nat) (x0:Int) (x1:(List UInt8)) (x2:(List UInt8)) (x3:(List UInt8)) : Option ((Unit) × (Int × (List UInt8) × (List UInt8) × (List UInt8) × Unit)) :=
 cond (x0 == (0 : Int))
 ((z9i N x1).bind fun y =>
 (zhp N x2).bind fun y1 =>
 cond (decide (((0 : Int) <= (IntKind.wrap IntKind.i64 ((((List.length x2) : Nat) : Int) - (32 : Int)))) /\ ((IntKind.wrap IntKind.i64 ((((List.length x2) : Nat) : Int) - (32 : Int))) <= (((List.length x2) : Nat) : Int))))
 (cond (decide (((0 : Int) <= (16 : Int)) /\ ((16 : Int) <= (IntKind.wrap IntKind.i64 ((((List.length x2) : Nat) : Int) - (32 : Int))))))
 ((zbf N y y1 (cut x2 16 (Int.toNat (IntKind.wrap IntKind.i64 ((((List.length x2) : Nat) : Int) - (32 : Int)))))).bind fun y2 =>
 some ((),(x0,(x1,(x2,(y2,()))))))
 (none))
 (none))
 (some ((),(x0,(x1,(x2,(x3,()))))))
def t_65 (N:Nat) : Tab ((Unit) × (Int × (List UInt8) × (List UInt8) × (List UInt8) × Unit)) := []
theorem z1f1 (N:Nat) (x:z1h SQ6) : z2q (E_65 N) N (t_65 N) L_65 Tryz.f101 (mkS SQ6 0 x) (zel (.tup []) SQ6 0) = zex N x.1 x.2.1 x.2.2.1 x.2.2.2.1 := by kernel_rfl
def zu8 (N:Nat) : List A -> Res := z10 SQ6 (fun x=>zex N x.1 x.2.1 x.2.2.1 x.2.2.2.1) (zmg (.tup []) SQ6 0)
theorem zu9 (N:Nat) : ContractD Tryz.prog glob 101 (zu8 N) :=
  ContractD.of (E := E_65 N) (H := t_65 N) (L := L_65) (N := N) (body := z1hc) (K := (zel (.tup []) SQ6 0)) (z1v7 N) Tryz.func101 (by kernel_rfl) (by decide) (fun _ hb=>TabOk.nil) (fun x y h=>by rw [z1f1]; exact h) (zb6 (s := (.tup [])) (os := SQ6) (m := 0))
def z1hb : Code := (Tryz.f75.body).getD .skip
def L_66 : List (List Nat × List Nat) := [([0],[0,1]),([0,1],[4]),([1,1],[4])]
def E_66 (N:Nat) : Env := z16 tys glob [(45,z3d N),(72,zhg N)] [] [] [] false [] [(123,zd N),(66,zb N),(98,z7 N)]
theorem z1v6 (N:Nat) : EnvOk Tryz.prog (E_66 N) := zk mixed zo (FnsOk.cons (z4y N) (FnsOk.cons (zqa N) (FnsOk.nil))) (ItsOk.cons (zf N) (ItsOk.cons (ze N) (ItsOk.cons (z8 N) (ItsOk.nil))))
def zk2 (N:Nat) (key:(List UInt8)) (body:(List UInt8)) : Option (List UInt8) :=
 (z2n N key ([([(116 : UInt8),(97 : UInt8),(103 : UInt8)] : List UInt8)] : List (List UInt8))).bind fun y =>
 (zi4 N y body).bind fun y1 =>
 some y1
def t_66 (N:Nat) : Tab (List UInt8) := []
theorem z1f0 (N:Nat) (x:z1h SQ0) : z2q (E_66 N) N (t_66 N) L_66 Tryz.f75 (mkS SQ0 0 x) (z1d (.v .str) 2) = zk2 N x.1 x.2.1 := by kernel_rfl
def zk1 (N:Nat) : List A -> Res := z10 SQ0 (fun x=>zk2 N x.1 x.2.1) (z2p (.v .str) 2)
theorem zsx (N:Nat) : Contract Tryz.prog glob 75 (zk1 N) :=
  Contract.of (E := E_66 N) (H := t_66 N) (L := L_66) (N := N) (body := z1hb) (K := (z1d (.v .str) 2)) (z1v6 N) Tryz.func75 (by kernel_rfl) (by decide) (fun _ hb=>TabOk.nil) (fun x y h=>by rw [z1f0]; exact h) (zn (s := (.v .str)) (m := 2))
def z1ha : Code := (Tryz.f103.body).getD .skip
def L_67 : List (List Nat × List Nat) := [([0],[1,0]),([0,0,1],[8,1,0]),([1,0,1],[1,0]),([0,0,1,0,1],[4]),([1,0,1,0,1],[4]),([0,0,1,1],[11,1,0]),([1,0,1,1],[1,0]),([0,0,1,0,1,1],[4]),([1,0,1,0,1,1],[4]),([0,1,1,1],[1,5,0]),([0,0,1,1,1,1],[24]),([1,0,1,1,1,1],[]),(z1k0,[4]),(z19m,[4]),([0,1,1,1,1,1],[4]),([1,1,1,1,1,1],[4])]
def E_67 (N:Nat) : Env := z16 tys glob [(75,zk1 N),(57,zb9 N)] [] [] [] false [] [(123,zd N),(66,zb N),(98,z7 N)]
theorem z1v5 (N:Nat) : EnvOk Tryz.prog (E_67 N) := zk mixed zo (FnsOk.cons (zsx N) (FnsOk.cons (zhh N) (FnsOk.nil))) (ItsOk.cons (zf N) (ItsOk.cons (ze N) (ItsOk.cons (z8 N) (ItsOk.nil))))
def z7b (N:Nat) (key:(List UInt8)) (s:(List UInt8)) : Option Int :=
 cond (decide ((((List.length s) : Nat) : Int) < (48 : Int)))
 (some (1 : Int))
 (cond (decide ((4144 : Int) < (((List.length s) : Nat) : Int)))
 (some (3 : Int))
 (cond (decide (((0 : Int) <= (IntKind.wrap IntKind.i64 ((((List.length s) : Nat) : Int) - (32 : Int)))) /\ ((IntKind.wrap IntKind.i64 ((((List.length s) : Nat) : Int) - (32 : Int))) <= (((List.length s) : Nat) : Int))))
 (cond (decide (((0 : Int) <= (IntKind.wrap IntKind.i64 ((((List.length s) : Nat) : Int) - (32 : Int)))) /\ ((IntKind.wrap IntKind.i64 ((((List.length s) : Nat) : Int) - (32 : Int))) <= (((List.length s) : Nat) : Int))))
 ((zk2 N key (cut s 0 (Int.toNat (IntKind.wrap IntKind.i64 ((((List.length s) : Nat) : Int) - (32 : Int)))))).bind fun y =>
 (zcn N (cut s (Int.toNat (IntKind.wrap IntKind.i64 ((((List.length s) : Nat) : Int) - (32 : Int)))) (List.length s)) y).bind fun y1 =>
 cond (!y1)
 (some (8 : Int))
 (some (0 : Int)))
 (none))
 (none)))
def t_67 (N:Nat) : Tab Int := []
theorem z1ez (N:Nat) (x:z1h SQ0) : z2q (E_67 N) N (t_67 N) L_67 Tryz.f103 (mkS SQ0 0 x) (z1d (.v (.int .i64)) 2) = z7b N x.1 x.2.1 := by kernel_rfl
def zu7 (N:Nat) : List A -> Res := z10 SQ0 (fun x=>z7b N x.1 x.2.1) (z2p (.v (.int .i64)) 2)
theorem zwe (N:Nat) : Contract Tryz.prog glob 103 (zu7 N) :=
  Contract.of (E := E_67 N) (H := t_67 N) (L := L_67) (N := N) (body := z1ha) (K := (z1d (.v (.int .i64)) 2)) (z1v5 N) Tryz.func103 (by kernel_rfl) (by decide) (fun _ hb=>TabOk.nil) (fun x y h=>by rw [z1ez]; exact h) (zn (s := (.v (.int .i64))) (m := 2))
def z5o (N:Nat) (key s:List UInt8) : Option (List UInt8 × Int × Unit) :=
 (z7b N key s).bind fun e=>(zex N e key s []).bind fun y=>some (y.2.2.2.2.1,y.2.1,())
def zho (N:Nat) : List A -> Res := z10 SQ0 (fun x=>z5o N x.1 x.2.1) (z2p (.tup [.str,(.int .i64)]) 2)
end
end Go.Proofs.YtkipbccgnekoaaaGreatDoorLg
