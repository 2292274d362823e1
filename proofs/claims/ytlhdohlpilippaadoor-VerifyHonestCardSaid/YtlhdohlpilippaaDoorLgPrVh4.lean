import Derived.Test.YtlhdohlpilippaaDoorLgPrVh1
import Derived.Test.YtlhdohlpilippaaDoorLgPrVh2
import Derived.Test.YtlhdohlpilippaaDoorLgPrVh3
import Derived.WalkKit
import Derived.Tactics
import Derived.Tactics2
import Derived.Defers
import Derived.Lib.Hide
import Derived.Below
import Derived.Recover
import Derived.Orders
import Derived.WalkSmall
import Derived.LoopN
import Derived.Deep.RegionHeld3
import Derived.Laws.IdiomStrings
import Derived.Test.YtlhdohlpilippaaDoorLgW
import Derived.Test.YtlhdohlpilippaaDoorChecked
import Derived.KernelRfl
set_option linter.all false
set_option maxRecDepth 100000
namespace Go.Proofs.YtlhdohlpilippaaDoorLg
noncomputable section
open Go Go.Lift
abbrev DT0:Type:=((List UInt8)×((List ((List UInt8)×((List UInt8)×Unit)))×((List UInt8)×Unit)))
abbrev TT1:T:=(.pair .str (.pair (.sl (.pair .str (.pair .str .unit))) (.pair .str .unit)))
abbrev DT2:Type:=((DT0×((List DT0)×Unit))×((List Bool)×((List ((List ((List UInt8)×((List UInt8)×Unit)))×((List (List UInt8))×Unit)))×((List (List UInt8))×(Int×Unit)))))
abbrev TT3:T:=(.pair (.pair TT1 (.pair (.sl TT1) .unit)) (.pair (.own .bool) (.pair (.own (.pair (.sl (.pair .str (.pair .str .unit))) (.pair (.sl .str) .unit))) (.pair (.own .str) (.pair (.int .i64) .unit)))))
abbrev TT4:T:=(.pair .bool (.pair (.arr 8 (.int .u32)) (.pair .str (.pair (.int .i64) .unit))))
abbrev DT5:Type:=(Bool×((List Int)×((List UInt8)×(Int×Unit))))
abbrev DT6:Type:=((List UInt8)×((List UInt8)×Unit))
abbrev TT7:T:=(.pair .bool (.pair .str (.pair (.sl .str) .unit)))
abbrev TT8:T:=(.pair .str (.pair .str .unit))
abbrev DT9:Type:=((List UInt8)×(List UInt8)×Int×Unit)
abbrev z5q:Type:=((List UInt8)×Unit)
abbrev zpu:T:=(.pair (.self 73) (.pair (.own (.byt 5)) .unit))
abbrev zhq:Type:=((List UInt8)×(DT5×Unit))
abbrev zhp:Type:=(Unit×((List Int)×Unit))
abbrev zxt:Type:=(List (Bool×((List UInt8)×((List (List UInt8))×Unit))))
abbrev zoh:T:=(.pair TT1 (.pair (.sl TT1) .unit))
abbrev zio:Type:=(DT0×((List DT0)×Unit))
abbrev z14l:T:=(.pair (.ptr .str) (.pair (.ptr (.sl TT8)) (.pair (.ptr (.fn 49 .unit)) .unit)))
abbrev z19u:List Nat:=[9,1,5,7,6,8,0]
abbrev z19v:List Nat:=[13,12,11,5,2,4]
abbrev z19w:List Nat:=[15,14,13,3,5,0]
abbrev z14m:List Nat:=[0,0,0,1,0,1,1]
abbrev z13k:List Nat:=[0,1,1,1,1,1,1]
abbrev z10z:List Nat:=[1,9,5,7,6,8,0]
abbrev z110:List Nat:=[35,34,33,4,5,6]
abbrev zw1:List Nat:=[0,1,0,1,1,1,1]
abbrev z1ah:List Nat:=[0,1,1,1,1,1,0,1]
abbrev z1h7:List Nat:=[0,1,1,1,1,1,1,1]
abbrev z1ai:List Nat:=[0,0,1,0,1,1,1,1]
abbrev z1aj:List Nat:=[0,1,0,1,1,1,1,1]
abbrev z14n:List Nat:=[0,1,0,0,1,0,1,1]
abbrev z13l:List Nat:=[63,62,61,0,9,8,7]
abbrev z1ab:List (Nat×AS):=[(0,.v .str),(0,.v TT8)]
abbrev z19x:List Nat:=[1,1,1,0,0,1,0,1,1]
abbrev z19y:List Nat:=[0,1,1,0,0,1,0,1,1]
abbrev z19z:List Nat:=[1,0,1,0,0,1,0,1,1]
abbrev SQ2:List (Nat×AS):=[(0,.v .str),(0,.v .str)]
abbrev z1ac:List (Nat×AS):=[(0,.box TT3),(0,.v .str)]
abbrev z19t:List (Nat×AS):=[(0,.box TT4),(0,.v .str)]
abbrev PQ77:List Nat:=[0,0,1,1,1,1,1,1,0,1]
abbrev z1ak:List Nat:=[0,1,0,1,1,1,1,1,0,1]
abbrev z1an:List Nat:=[0,1,1,1,1,1,1,1,1,1]
abbrev z13h:List (Nat×AS):=[(0,.box TT3),(6,.v .bool)]
abbrev z1h8:List Nat:=[0,1,0,0,1,0,1,1,1,1,1]
abbrev z1al:List Nat:=[1,0,0,1,1,0,0,1,0,1,1]
abbrev z1am:List Nat:=[0,1,0,0,1,1,0,0,1,0,1]
abbrev z1a0:List Nat:=[0,0,0,1,1,0,0,1,0,1,1]
abbrev z114:List (Nat×AS):=[(0,.v .str),(0,.v (.sl TT7))]
abbrev z1ad:List (Nat×AS):=[(0,.v (.sl .bool)),(0,.v .bool)]
abbrev z1ae:List (Nat×AS):=[(0,.v (.pair TT8 (.pair TT1 .unit)))]
abbrev SQ62:List (Nat×AS):=[(0,.v .str),(0,.v .str),(0,.nilsl)]
abbrev z1h9:List Nat:=[13,15,5,12,11,6,14,8,1,9,7,0]
abbrev PQ59:List Nat:=[0,0,0,0,1,0,0,1,0,1,1,1,1,1]
abbrev z1af:List (Nat×AS):=[(0,.v (.int .u32)),(0,.v (.int .i64))]
abbrev z13i:List (Nat×AS):=[(0,.v .str),(0,.v .str),(0,.v .str)]
abbrev z1ag:List (Nat×AS):=[(0,.v (.arr 8 (.int .u32))),(0,.v .str)]
abbrev SQ9:List (Nat×AS):=[(0,.v .str),(4,.box TT1),(0,.row TT1)]
abbrev PQ76:List Nat:=[0,1,1,0,0,1,0,0,1,0,1,1,1,1,1]
abbrev SQ71:List (Nat×AS):=[(0,.v .str),(0,.v .str),(0,.v (.sl .str))]
abbrev SQ67:List (Nat×AS):=[(4,.v .str),(0,.v .str),(0,.v (.int .i64))]
abbrev SQ8:List (Nat×AS):=[(0,.v .str),(0,.v .str),(0,.v (.int .i64))]
abbrev PQ66:List Nat:=[0,1,1,0,0,1,0,0,1,0,1,1,1,1,1,0,1]
abbrev SQ65:List (Nat×AS):=[(0,.box TT3),(6,.v .bool),(0,.v (.int .i64))]
abbrev SQ64:List (Nat×AS):=[(0,.v (.arr 8 (.int .u32))),(0,.v (.int .u32))]
abbrev SQ60:List (Nat×AS):=[(0,.v TT1),(0,.v .str),(0,.v .str),(0,.v .str)]
abbrev SQ57:List (Nat×AS):=[(0,.v .str),(0,.v .str),(0,.v .str),(0,.v .str)]
abbrev SQ49:List (Nat×AS):=[(0,.v (.sl .str)),(0,.v (.int .i64)),(0,.v (.int .i64))]
abbrev SQ23:List (Nat×AS):=[(2,.box (.sl .str)),(0,.box .bool),(0,.box (.own .str))]
abbrev PQ47:List Nat:=[0,1,1,1,1,1,0,1,1,0,0,1,0,0,1,0,1,1,1,1,1]
abbrev SQ40:List (Nat×AS):=[(0,.v .str),(4,.box TT1),(0,.row TT1),(12,.v (.int .i64))]
abbrev PQ20:List Nat:=[0,0,1,1,1,1,1,0,1,1,0,0,1,0,0,1,0,1,1,1,1,1]
abbrev SQ17:List (Nat×AS):=[(4,.v .str),(0,.v .str),(0,.v (.int .i64)),(1,.v (.sl .str))]
abbrev SQ7:List (Nat×AS):=[(1,.v .str),(2,.box TT1),(1,.box (.pair TT8 (.pair TT1 .unit)))]
abbrev SQ4:List (Nat×AS):=[(0,.box (.int .i64)),(0,.box .str),(0,.box .str),(0,.box .str)]
abbrev SQ5:List (Nat×AS):=[(0,.v .str),(4,.box TT1),(0,.row TT1),(0,.row .str),(0,.row .str)]
abbrev SQ6:List (Nat×AS):=[(4,.v .str),(0,.v .str),(0,.v (.int .i64)),(1,.v (.sl .str)),(0,.v .bool)]
abbrev SQ56:List (Nat×AS):=[(6,.box TT1),(4,.box TT1),(18,.nilsl),(0,.v (.int .i64)),(0,.v (.int .i64))]
abbrev SQ54:List (Nat×AS):=[(2,.box (.arr 64 (.int .u32))),(0,.box (.arr 64 (.int .u32))),(2,.v (.int .i64))]
abbrev SQ52:List (Nat×AS):=[(0,.box TT3),(0,.v .str),(9,.v (.sl TT1)),(0,.v (.int .i64)),(0,.v (.int .i64))]
abbrev SQ51:List (Nat×AS):=[(0,.v .str),(0,.v .str),(3,.v (.int .u8)),(7,.v (.int .i64)),(0,.v (.int .i64))]
abbrev SQ50:List (Nat×AS):=[(0,.v .str),(0,.v .str),(3,.row (.int .u8)),(8,.v (.int .i64)),(0,.v (.int .i64))]
abbrev SQ48:List (Nat×AS):=[(6,.box TT1),(4,.box TT1),(18,.v (.sl .str)),(0,.v (.int .i64)),(0,.v (.int .i64))]
abbrev SQ39:List (Nat×AS):=[(1,.v .str),(0,.box (.arr 8 (.int .u32))),(1,.box (.arr 8 (.int .u32))),(0,.v (.int .i64))]
abbrev SQ38:List (Nat×AS):=[(0,.v .str),(1,.box (.arr 64 (.int .u32))),(0,.box (.arr 64 (.int .u32))),(7,.v (.int .i64))]
abbrev SQ32:List (Nat×AS):=[(0,.v (.int .u64)),(0,.v (.int .i64)),(3,.row (.int .u8)),(3,.v (.int .i64)),(0,.v (.int .i64))]
abbrev SQ29:List (Nat×AS):=[(4,.v .str),(0,.v .str),(0,.v (.int .i64)),(26,.v (.sl .str)),(0,.v (.int .i64)),(0,.v (.int .i64))]
abbrev SQ3:List (Nat×AS):=[(1,.v .str),(0,.v .str),(0,.v .str),(0,.box TT1),(3,.box TT1),(1,.box (.pair TT8 (.pair TT1 .unit)))]
abbrev SQ0:List (Nat×AS):=[(0,.v .str),(0,.v (.sl TT7)),(3,.box TT1),(0,.row TT1),(0,.row .str),(0,.row .str),(0,.v (.int .i64))]
abbrev SQ24:List (Nat×AS):=[(2,.box (.arr 8 (.int .u32))),(1,.box (.arr 8 (.int .u32))),(1,.box (.arr 8 (.int .u32))),(22,.v (.int .i64))]
abbrev SQ11:List (Nat×AS):=[(0,.box TT3),(0,.v .str),(3,.v (.int .i64)),(0,.box TT1),(4,.v (.sl TT1)),(0,.v (.int .i64)),(0,.v (.int .i64))]
abbrev SQ15:List (Nat×AS):=[(2,.box (.arr 8 (.int .u32))),(1,.box (.arr 8 (.int .u32))),(0,.box (.arr 64 (.int .u32))),(0,.box (.arr 8 (.int .u32))),(9,.v (.int .i64))]
abbrev SQ13:List (Nat×AS):=[(0,.box TT3),(6,.v .bool),(0,.v (.int .i64)),(0,.box (.pair (.sl TT8) (.pair (.sl .str) .unit))),(51,.v (.sl TT8)),(0,.v (.int .i64)),(0,.v (.int .i64))]
abbrev SQ12:List (Nat×AS):=[(2,.box TT1),(1,.box zoh),(0,.box (.pair (.pair .str (.pair (.own TT8) (.pair .str .unit))) (.pair (.own TT1) .unit))),(5,.v (.sl TT1)),(0,.v (.int .i64)),(0,.v (.int .i64))]
abbrev SQ1:List (Nat×AS):=[(0,.v .str),(0,.v (.sl TT7)),(3,.box TT1),(0,.row TT1),(0,.row .str),(0,.row .str),(0,.v (.int .i64)),(1,.v .str),(0,.v .str),(0,.v (.int .i64)),(0,.box TT1),(0,.v (.int .i64))]
def ty3:TyI:=⟨(Go.TypeDesc.int IntKind.i64),1,8,(.int .i64),0,false⟩
theorem z1av:TyOk Tryd.prog 3 ty3:=TyOk.of (by kernel_rfl) (by kernel_rfl) (by kernel_rfl) (by kernel_rfl)
def ty4:TyI:=⟨Go.TypeDesc.bool,1,1,.bool,false,false⟩
theorem z1au:TyOk Tryd.prog 4 ty4:=TyOk.of (by kernel_rfl) (by kernel_rfl) (by kernel_rfl) (by kernel_rfl)
def ty5:TyI:=⟨(Go.TypeDesc.int IntKind.u8),1,1,(.int .u8),0,false⟩
theorem z1at:TyOk Tryd.prog 5 ty5:=TyOk.of (by kernel_rfl) (by kernel_rfl) (by kernel_rfl) (by kernel_rfl)
def ty9:TyI:=⟨Go.TypeDesc.string,1,16,.str,[],false⟩
theorem z1as:TyOk Tryd.prog 9 ty9:=TyOk.of (by kernel_rfl) (by kernel_rfl) (by kernel_rfl) (by kernel_rfl)
def ty22:TyI:=⟨(Go.TypeDesc.slice 31),1,24,(.sl TT7),([]:List (Bool×((List UInt8)×((List (List UInt8))×Unit)))),false⟩
theorem z15d:TyOk Tryd.prog 22 ty22:=TyOk.of (by kernel_rfl) (by kernel_rfl) (by kernel_rfl) (by kernel_rfl)
def ty25:TyI:=⟨(Go.TypeDesc.slice 49),1,24,(.sl TT8),[],false⟩
theorem z15c:TyOk Tryd.prog 25 ty25:=TyOk.of (by kernel_rfl) (by kernel_rfl) (by kernel_rfl) (by kernel_rfl)
def ty27 : TyI := ⟨(Go.TypeDesc.struct (List.toArray ([(Go.Field.mk "ID" 9 0 false "" "" 0), (Go.Field.mk "Links" 25 1 false "" "" 16), (Go.Field.mk "Tag" 9 2 false "" "" 40)] : List Go.Field))), 3, 56, TT1, (([] : List UInt8), ([] : List DT6), ([] : List UInt8), ()), true⟩
theorem z15b:TyOk Tryd.prog 27 ty27:=TyOk.of (by kernel_rfl) (by kernel_rfl) (by kernel_rfl) (by kernel_rfl)
def ty28:TyI:=⟨(Go.TypeDesc.slice 27),1,24,(.sl TT1),[],false⟩
theorem z15a:TyOk Tryd.prog 28 ty28:=TyOk.of (by kernel_rfl) (by kernel_rfl) (by kernel_rfl) (by kernel_rfl)
def ty29:TyI:=⟨(Go.TypeDesc.slice 9),1,24,(.sl .str),[],false⟩
theorem z159:TyOk Tryd.prog 29 ty29:=TyOk.of (by kernel_rfl) (by kernel_rfl) (by kernel_rfl) (by kernel_rfl)
def ty31 : TyI := ⟨(Go.TypeDesc.struct (List.toArray ([(Go.Field.mk "Third" 4 0 false "" "" 0), (Go.Field.mk "Text" 9 1 false "" "" 8), (Go.Field.mk "Caveats" 29 2 false "" "" 24)] : List Go.Field))), 3, 48, TT7, (false, ([] : List UInt8), ([] : List (List UInt8)), ()), true⟩
theorem z158:TyOk Tryd.prog 31 ty31:=TyOk.of (by kernel_rfl) (by kernel_rfl) (by kernel_rfl) (by kernel_rfl)
def ty33:TyI:=⟨(Go.TypeDesc.int IntKind.i64),1,8,(.int .i64),0,false⟩
theorem z157:TyOk Tryd.prog 33 ty33:=TyOk.of (by kernel_rfl) (by kernel_rfl) (by kernel_rfl) (by kernel_rfl)
def ty43 : TyI := ⟨(Go.TypeDesc.struct (List.toArray ([(Go.Field.mk "Token" 27 0 false "" "" 0), (Go.Field.mk "More" 28 3 false "" "" 56)] : List Go.Field))), 4, 80, zoh, ((([] : List UInt8), ([] : List DT6), ([] : List UInt8), ()), ([] : List DT0), ()), true⟩
theorem z156:TyOk Tryd.prog 43 ty43:=TyOk.of (by kernel_rfl) (by kernel_rfl) (by kernel_rfl) (by kernel_rfl)
def ty49 : TyI := ⟨(Go.TypeDesc.struct (List.toArray ([(Go.Field.mk "Text" 9 0 false "" "" 0), (Go.Field.mk "Seal" 9 1 false "" "" 16)] : List Go.Field))), 2, 32, TT8, (([] : List UInt8), ([] : List UInt8), ()), true⟩
theorem zxz:TyOk Tryd.prog 49 ty49:=TyOk.of (by kernel_rfl) (by kernel_rfl) (by kernel_rfl) (by kernel_rfl)
def ty51 : TyI := ⟨(Go.TypeDesc.struct (List.toArray ([(Go.Field.mk "Link" 49 0 true "" "" 0), (Go.Field.mk "to" 27 2 false "" "porter/holder" 32)] : List Go.Field))), 5, 88, (.pair TT8 (.pair TT1 .unit)), ((([] : List UInt8), ([] : List UInt8), ()), (([] : List UInt8), ([] : List DT6), ([] : List UInt8), ()), ()), true⟩
theorem z155:TyOk Tryd.prog 51 ty51:=TyOk.of (by kernel_rfl) (by kernel_rfl) (by kernel_rfl) (by kernel_rfl)
def ty59:TyI:=⟨(Go.TypeDesc.pointer 65),1,8,.opq,(Go.Value.pointer none),false⟩
theorem z154:TyOk Tryd.prog 59 ty59:=TyOk.of (by kernel_rfl) (by kernel_rfl) (by kernel_rfl) (by kernel_rfl)
def ty62:TyI:=⟨(Go.TypeDesc.slice 4),1,24,(.sl .bool),[],false⟩
theorem z153:TyOk Tryd.prog 62 ty62:=TyOk.of (by kernel_rfl) (by kernel_rfl) (by kernel_rfl) (by kernel_rfl)
def ty63:TyI:=⟨(Go.TypeDesc.slice 92),1,24,(.sl (.pair (.sl TT8) (.pair (.sl .str) .unit))),([]:List ((List DT6)×((List (List UInt8))×Unit))),false⟩
theorem z152:TyOk Tryd.prog 63 ty63:=TyOk.of (by kernel_rfl) (by kernel_rfl) (by kernel_rfl) (by kernel_rfl)
def ty65 : TyI := ⟨(Go.TypeDesc.struct (List.toArray ([(Go.Field.mk "b" 43 0 false "" "porter/verify" 0), (Go.Field.mk "used" 62 4 false "" "porter/verify" 80), (Go.Field.mk "list" 63 5 false "" "porter/verify" 104), (Go.Field.mk "texts" 29 6 false "" "porter/verify" 128), (Go.Field.mk "work" 3 7 false "" "porter/verify" 152)] : List Go.Field))), 8, 160, (.pair zoh (.pair (.sl .bool) (.pair (.sl (.pair (.sl TT8) (.pair (.sl .str) .unit))) (.pair (.sl .str) (.pair (.int .i64) .unit))))), (((([] : List UInt8), ([] : List DT6), ([] : List UInt8), ()), ([] : List DT0), ()), ([] : List Bool), ([] : List ((List DT6) × ((List (List UInt8)) × Unit))), ([] : List (List UInt8)), (0 : Int), ()), true⟩
theorem z151:TyOk Tryd.prog 65 ty65:=TyOk.of (by kernel_rfl) (by kernel_rfl) (by kernel_rfl) (by kernel_rfl)
def ty70:TyI:=⟨(Go.TypeDesc.pointer 73),1,8,.opq,(Go.Value.pointer none),false⟩
theorem z150:TyOk Tryd.prog 70 ty70:=TyOk.of (by kernel_rfl) (by kernel_rfl) (by kernel_rfl) (by kernel_rfl)
def ty71:TyI:=⟨(Go.TypeDesc.slice 5),1,24,(.sl (.int .u8)),[],false⟩
theorem z14z:TyOk Tryd.prog 71 ty71:=TyOk.of (by kernel_rfl) (by kernel_rfl) (by kernel_rfl) (by kernel_rfl)
def ty73 : TyI := ⟨(Go.TypeDesc.struct (List.toArray ([(Go.Field.mk "addr" 70 0 false "" "strings" 0), (Go.Field.mk "buf" 71 1 false "" "strings" 8)] : List Go.Field))), 2, 32, (.pair .opq (.pair (.sl (.int .u8)) .unit)), ((Go.Value.pointer none), ([] : List Int), ()), true⟩
theorem z14y:TyOk Tryd.prog 73 ty73:=TyOk.of (by kernel_rfl) (by kernel_rfl) (by kernel_rfl) (by kernel_rfl)
def ty75:TyI:=⟨(Go.TypeDesc.func (List.toArray ([101]:List Nat)) (List.toArray []) false),1,8,.opq,Go.Value.nilFunc,false⟩
theorem z14x:TyOk Tryd.prog 75 ty75:=TyOk.of (by kernel_rfl) (by kernel_rfl) (by kernel_rfl) (by kernel_rfl)
def ty78 : TyI := ⟨(Go.TypeDesc.interface (List.toArray ([("Error", 81)] : List (String × Nat)))), 1, 16, .opq, Go.Value.nilIface, false⟩
theorem z14w:TyOk Tryd.prog 78 ty78:=TyOk.of (by kernel_rfl) (by kernel_rfl) (by kernel_rfl) (by kernel_rfl)
def ty87:TyI:=⟨(Go.TypeDesc.func (List.toArray ([27]:List Nat)) (List.toArray ([4]:List Nat)) false),1,8,.opq,Go.Value.nilFunc,false⟩
theorem z14v:TyOk Tryd.prog 87 ty87:=TyOk.of (by kernel_rfl) (by kernel_rfl) (by kernel_rfl) (by kernel_rfl)
def ty92 : TyI := ⟨(Go.TypeDesc.struct (List.toArray ([(Go.Field.mk "links" 25 0 false "" "porter/verify" 0), (Go.Field.mk "tags" 29 1 false "" "porter/verify" 24)] : List Go.Field))), 2, 48, (.pair (.sl TT8) (.pair (.sl .str) .unit)), (([] : List DT6), ([] : List (List UInt8)), ()), true⟩
theorem z14u:TyOk Tryd.prog 92 ty92:=TyOk.of (by kernel_rfl) (by kernel_rfl) (by kernel_rfl) (by kernel_rfl)
def ty98:TyI:=⟨Go.TypeDesc.string,1,16,.str,[],false⟩
theorem z14t:TyOk Tryd.prog 98 ty98:=TyOk.of (by kernel_rfl) (by kernel_rfl) (by kernel_rfl) (by kernel_rfl)
def z1b8:TyI:=⟨(Go.TypeDesc.func (List.toArray ([9]:List Nat)) (List.toArray ([4]:List Nat)) false),1,8,.opq,Go.Value.nilFunc,false⟩
theorem z11k:TyOk Tryd.prog 101 z1b8:=TyOk.of (by kernel_rfl) (by kernel_rfl) (by kernel_rfl) (by kernel_rfl)
def z1b7:TyI:=⟨(Go.TypeDesc.func (List.toArray ([118]:List Nat)) (List.toArray []) false),1,8,.opq,Go.Value.nilFunc,false⟩
theorem z11j:TyOk Tryd.prog 105 z1b7:=TyOk.of (by kernel_rfl) (by kernel_rfl) (by kernel_rfl) (by kernel_rfl)
def z1b6:TyI:=⟨(Go.TypeDesc.pointer 130),1,8,.opq,(Go.Value.pointer none),false⟩
theorem z11i:TyOk Tryd.prog 111 z1b6:=TyOk.of (by kernel_rfl) (by kernel_rfl) (by kernel_rfl) (by kernel_rfl)
def z1b5:TyI:=⟨(Go.TypeDesc.int IntKind.u64),1,8,(.int .u64),0,false⟩
theorem z11h:TyOk Tryd.prog 115 z1b5:=TyOk.of (by kernel_rfl) (by kernel_rfl) (by kernel_rfl) (by kernel_rfl)
def z1b4:TyI:=⟨(Go.TypeDesc.func (List.toArray ([9,4]:List Nat)) (List.toArray ([4]:List Nat)) false),1,8,.opq,Go.Value.nilFunc,false⟩
theorem z11g:TyOk Tryd.prog 118 z1b4:=TyOk.of (by kernel_rfl) (by kernel_rfl) (by kernel_rfl) (by kernel_rfl)
def z1b3:TyI:=⟨(Go.TypeDesc.func (List.toArray ([139]:List Nat)) (List.toArray []) false),1,8,.opq,Go.Value.nilFunc,false⟩
theorem z11f:TyOk Tryd.prog 122 z1b3:=TyOk.of (by kernel_rfl) (by kernel_rfl) (by kernel_rfl) (by kernel_rfl)
def z1b2:TyI:=⟨(Go.TypeDesc.func (List.toArray ([98,49]:List Nat)) (List.toArray ([98]:List Nat)) false),1,8,.opq,Go.Value.nilFunc,false⟩
theorem z11e:TyOk Tryd.prog 124 z1b2:=TyOk.of (by kernel_rfl) (by kernel_rfl) (by kernel_rfl) (by kernel_rfl)
def z1b1:TyI:=⟨(Go.TypeDesc.int IntKind.u32),1,4,(.int .u32),0,false⟩
theorem z11d:TyOk Tryd.prog 125 z1b1:=TyOk.of (by kernel_rfl) (by kernel_rfl) (by kernel_rfl) (by kernel_rfl)
def z1b0:TyI:=⟨(Go.TypeDesc.array 8 125),8,32,(.arr 8 (.int .u32)),([0,0,0,0,0,0,0,0]:List Int),true⟩
theorem z11c:TyOk Tryd.prog 127 z1b0:=TyOk.of (by kernel_rfl) (by kernel_rfl) (by kernel_rfl) (by kernel_rfl)
def z1az : TyI := ⟨(Go.TypeDesc.struct (List.toArray ([(Go.Field.mk "made" 4 0 false "" "porter/sha" 0), (Go.Field.mk "words" 127 1 false "" "porter/sha" 4), (Go.Field.mk "rest" 9 9 false "" "porter/sha" 40), (Go.Field.mk "long" 3 10 false "" "porter/sha" 56)] : List Go.Field))), 11, 64, TT4, (false, ([(0 : Int), (0 : Int), (0 : Int), (0 : Int), (0 : Int), (0 : Int), (0 : Int), (0 : Int)] : List Int), ([] : List UInt8), (0 : Int), ()), true⟩
theorem z11b:TyOk Tryd.prog 130 z1az:=TyOk.of (by kernel_rfl) (by kernel_rfl) (by kernel_rfl) (by kernel_rfl)
def z1ay:TyI:=⟨(Go.TypeDesc.int IntKind.u64),1,8,(.int .u64),0,false⟩
theorem z11a:TyOk Tryd.prog 134 z1ay:=TyOk.of (by kernel_rfl) (by kernel_rfl) (by kernel_rfl) (by kernel_rfl)
def z1ax:TyI:=⟨(Go.TypeDesc.func (List.toArray ([98]:List Nat)) (List.toArray ([4]:List Nat)) false),1,8,.opq,Go.Value.nilFunc,false⟩
theorem z119:TyOk Tryd.prog 139 z1ax:=TyOk.of (by kernel_rfl) (by kernel_rfl) (by kernel_rfl) (by kernel_rfl)
def z1aw:TyI:=⟨(Go.TypeDesc.array 64 125),64,256,(.arr 64 (.int .u32)),(0::0::0::0::0::0::0::0::0::0::0::0::0::0::0::0::0::0::0::0::0::0::0::0::0::0::0::0::0::0::0::0::0::0::0::0::0::0::0::0::0::0::0::0::0::0::0::0::0::0::0::0::0::0::0::0::0::0::0::0::0::0::0::0::[]),true⟩
theorem z118:TyOk Tryd.prog 145 z1aw:=TyOk.of (by kernel_rfl) (by kernel_rfl) (by kernel_rfl) (by kernel_rfl)
def tys:List (Nat×TyI):=[(3,ty3),(4,ty4),(5,ty5),(9,ty9),(22,ty22),(25,ty25),(27,ty27),(28,ty28),(29,ty29),(31,ty31),(33,ty33),(43,ty43),(49,ty49),(51,ty51),(59,ty59),(62,ty62),(63,ty63),(65,ty65),(70,ty70),(71,ty71),(73,ty73),(75,ty75),(78,ty78),(87,ty87),(92,ty92),(98,ty98),(101,z1b8),(105,z1b7),(111,z1b6),(115,z1b5),(118,z1b4),(122,z1b3),(124,z1b2),(125,z1b1),(127,z1b0),(130,z1az),(134,z1ay),(139,z1ax),(145,z1aw)]
theorem zz:TysOk Tryd.prog tys:=TysOk.cons z1av (TysOk.cons z1au (TysOk.cons z1at (TysOk.cons z1as (TysOk.cons z15d (TysOk.cons z15c (TysOk.cons z15b (TysOk.cons z15a (TysOk.cons z159 (TysOk.cons z158 (TysOk.cons z157 (TysOk.cons z156 (TysOk.cons zxz (TysOk.cons z155 (TysOk.cons z154 (TysOk.cons z153 (TysOk.cons z152 (TysOk.cons z151 (TysOk.cons z150 (TysOk.cons z14z (TysOk.cons z14y (TysOk.cons z14x (TysOk.cons z14w (TysOk.cons z14v (TysOk.cons z14u (TysOk.cons z14t (TysOk.cons z11k (TysOk.cons z11j (TysOk.cons z11i (TysOk.cons z11h (TysOk.cons z11g (TysOk.cons z11f (TysOk.cons z11e (TysOk.cons z11d (TysOk.cons z11c (TysOk.cons z11b (TysOk.cons z11a (TysOk.cons z119 (TysOk.cons z118 (TysOk.nil)))))))))))))))))))))))))))))))))))))))
theorem mixed:Tryd.prog.follows .mixedOrders=true:=by kernel_rfl
def glob0:List Int:=[1116352408,1899447441,3049323471,3921009573,961987163,1508970993,2453635748,2870763221,3624381080,310598401,607225278,1426881987,1925078388,2162078206,2614888103,3248222580,3835390401,4022224774,264347078,604807628,770255983,1249150122,1555081692,1996064986,2554220882,2821834349,2952996808,3210313671,3336571891,3584528711,113926993,338241895,666307205,773529912,1294757372,1396182291,1695183700,1986661051,2177026350,2456956037,2730485921,2820302411,3259730800,3345764771,3516065817,3600352804,4094571909,275423344,430227734,506948616,659060556,883997877,958139571,1322822218,1537002063,1747873779,1955562222,2024104815,2227730452,2361852424,2428436474,2756734187,3204031479,3329325298]
def glob:Nat->Option Dat:=lk [(0,⟨(.arr 64 (.int .u32)),glob0⟩)]
def z1h2:Code:=(Tryd.f37.body).getD .skip
def L_0:List (List Nat×List Nat):=[([0],[1]),([0,1],[2]),([1,1],[2])]
def E_0 (N:Nat):Env:=z1c tys glob [] [(2,TT1)] [] [] false [] []
theorem Eok_0 (N:Nat):EnvOk Tryd.prog (E_0 N):=zh mixed zz (FnsOk.nil) (ItsOk.nil)
def z6l (N:Nat)(b:zio):Option (List DT0):=cond (decide (((1+(List.length b.2.1))*56)<=70368744177664)) (some (([b.1]:List DT0)++b.2.1)) none
def t_0 (N:Nat):Tab (List DT0):=[]
theorem z1di (N:Nat)(x:z1k [(0,.v zoh)]):z3v (E_0 N) N (t_0 N) L_0 Tryd.f37 (mkS [(0,.v zoh)] 0 x) (z1r (.v (.sl TT1)) 1)=z6l N x.1:=by kernel_rfl
def zay (N:Nat):List A->Res:=z14 [(0,.v zoh)] (fun x=>z6l N x.1) (z3r (.v (.sl TT1)) 1)
theorem zjp (N:Nat):Contract Tryd.prog glob 37 (zay N) :=
 Contract.of (E:=E_0 N) (H:=t_0 N) (L:=L_0) (N:=N) (body:=z1h2) (K:=(z1r (.v (.sl TT1)) 1)) (Eok_0 N) Tryd.func37 (by kernel_rfl) (by decide) (fun _ hb=>TabOk.nil) (fun x y h=>by rw[z1di];exact h) (zq (s:=(.v (.sl TT1))) (m:=1))
def z1h1:Code:=(Tryd.f38.body).getD .skip
def L_1:List (List Nat×List Nat):=[([0],[1]),([0,1],[2]),([1,1],[2])]
def E_1 (N:Nat):Env:=z1c tys glob [] [] [] [] false [] []
theorem Eok_1 (N:Nat):EnvOk Tryd.prog (E_1 N):=zh mixed zz (FnsOk.nil) (ItsOk.nil)
def zd8 (N:Nat)(t:DT0):Option Bool:=some (decide (64<(List.length t.2.1:Int)))
def t_1 (N:Nat):Tab Bool:=[]
theorem z1dh (N:Nat)(x:z1k [(0,.v TT1)]):z3v (E_1 N) N (t_1 N) L_1 Tryd.f38 (mkS [(0,.v TT1)] 0 x) (z1r (.v .bool) 1)=zd8 N x.1:=by kernel_rfl
def z42 (N:Nat):List A->Res:=z14 [(0,.v TT1)] (fun x=>zd8 N x.1) (z3r (.v .bool) 1)
theorem z6j (N:Nat):Contract Tryd.prog glob 38 (z42 N) :=
 Contract.of (E:=E_1 N) (H:=t_1 N) (L:=L_1) (N:=N) (body:=z1h1) (K:=(z1r (.v .bool) 1)) (Eok_1 N) Tryd.func38 (by kernel_rfl) (by decide) (fun _ hb=>TabOk.nil) (fun x y h=>by rw[z1dh];exact h) (zq (s:=(.v .bool)) (m:=1))
def z10t:Code:=(Tryd.f59.body).getD .skip
def L_2:List (List Nat×List Nat):=[([0],[0,1]),([0,0,1],[8,7,1,0]),([0,1,0,1],[8,7,1,0]),([0,0,0,1,0,1],[9,8,1,0,7]),([0,1,0,0,1,0,1],[8,1,0,7]),([1,0,1,0,0,1,0,1],[]),([0,0,0,1,1,0,0,1,0,1],[1,0,5,8,7]),(z1am,[16,5,8,7,1,0]),([1,1,0,0,1,1,0,0,1,0,1],[8,7,1,0]),([0,0,1,1,0,0,1,1,0,0,1,0,1],[4]),([1,0,1,1,0,0,1,1,0,0,1,0,1],[4]),([0,1,1,0,0,1,0,1],[8,7,1,0]),([1,1,1,0,0,1,0,1],[8,7,1,0]),([1,0,1],[]),([0,1,1],[4]),([1,1,1],[4])]
def E_2 (N:Nat):Env:=z1c tys glob [(38,z42 N)] [] [] [] false [] []
theorem Eok_2 (N:Nat):EnvOk Tryd.prog (E_2 N):=zh mixed zz (FnsOk.cons (z6j N) (FnsOk.nil)) (ItsOk.nil)
def zg5 (N:Nat)(s:(List DT0))(x7:Int)(x8:Int)(rec:Int->Option Int)(k0:Int->Option Int)(k1:Option Int):Option Int:=cond (decide (x8<x7)) (cond (inR x8 (List.length s)) (cond (decide (64<(((List.length (List.getD s (Int.toNat x8) ([],([],([],())))).2.1):Nat):Int))) (k0 x8) (rec (IntKind.wrap IntKind.i64 (x8+1)))) none) k1
def zlw (N:Nat)(s:(List DT0))(x7:Int)(x8:Int)(k0:Int->Option Int)(k1:Option Int):Option Int:=iter (fun (v:Int) r=>zg5 N s x7 v (fun x8=>(r x8)) k0 k1) N x8
def g1_2 (N:Nat)(i:((List DT0)×Int))(v:Int)(r:Int->Option Int)(K:Ex->List A->Option Int):Option Int:=zg5 N i.1 i.2 v (fun x8=>(r x8)) (fun a0=>(K .ret (mkS [(4,.v (.int .i64))] 14 (a0,())))) (K (.exit 0) (mkS [] 19 ()))
def h1_2 (N:Nat):Hd Int:=fun st K=>(unS [(0,.v (.sl TT1)),(0,.fnc 38),(5,.v (.int .i64)),(0,.v (.int .i64))] 10 (restr [8,7,1,0] 0 st)).bind fun x=>iter (fun v r=>g1_2 N ((fun x=>(x.1,x.2.2.1)) x) v r K) N ((fun x=>x.2.2.2.1) x)
def t1_2 (N:Nat):Tab Int:=[]
theorem ok1_2 {N:Nat}{c:Ctx}(hb:Base Tryd.prog (E_2 N) c):z10 Tryd.prog c (zl z10t [0,1,0,1]) (h1_2 N) :=
 z2t (s:=[(0,.v (.sl TT1)),(0,.fnc 38),(5,.v (.int .i64)),(0,.v (.int .i64))]) (m:=10) (g1_2 N) [8,7,1,0] N (fun x=>(x.1,x.2.2.1)) (fun x=>x.2.2.2.1) (fun i v=>(i.1,(),i.2,v,())) (fun _=>rfl) (zi hb N (t1_2 N) L_2 z10t TabOk.nil [0,0,1,0,1] _ rfl) (fun i v r K=>by kernel_rfl)
def zh5 (N:Nat)(s:(List DT0)):Option Int:=zlw N s (List.length s:Int) 0 (fun x4=>some x4) (some (-1))
def t_2 (N:Nat):Tab Int:=[([0,1,0,1],h1_2 N)]
theorem z1dg (N:Nat)(x:z1k [(0,.v (.sl TT1)),(0,.fnc 38)]):z3v (E_2 N) N (t_2 N) L_2 Tryd.f59 (mkS [(0,.v (.sl TT1)),(0,.fnc 38)] 0 x) (z1r (.v (.int .i64)) 2)=zh5 N x.1:=by kernel_rfl
def zjb (N:Nat):List A->Res:=z14 [(0,.v (.sl TT1)),(0,.fnc 38)] (fun x=>zh5 N x.1) (z3r (.v (.int .i64)) 2)
theorem zta (N:Nat):Contract Tryd.prog glob 59 (zjb N) :=
 Contract.of (E:=E_2 N) (H:=t_2 N) (L:=L_2) (N:=N) (body:=z10t) (K:=(z1r (.v (.int .i64)) 2)) (Eok_2 N) Tryd.func59 (by kernel_rfl) (by decide) (fun _ hb=>(TabOk.cons (ok1_2 hb) TabOk.nil)) (fun x y h=>by rw[z1dg];exact h) (zq (s:=(.v (.int .i64))) (m:=2))
def z1h0:Code:=(Tryd.f36.body).getD .skip
def L_3:List (List Nat×List Nat):=[([0],[0,1]),([0,1],[4]),([1,1],[4])]
def E_3 (N:Nat):Env:=z1c tys glob [(59,zjb N),(38,z42 N)] [] [] [] false [] []
theorem Eok_3 (N:Nat):EnvOk Tryd.prog (E_3 N):=zh mixed zz (FnsOk.cons (zta N) (FnsOk.cons (z6j N) (FnsOk.nil))) (ItsOk.nil)
def z9p (N:Nat)(s:(List DT0)):Option Bool:=(zh5 N s).bind fun y=>some (decide (0<=y))
def t_3 (N:Nat):Tab Bool:=[]
theorem z1df (N:Nat)(x:z1k [(0,.v (.sl TT1)),(0,.fnc 38)]):z3v (E_3 N) N (t_3 N) L_3 Tryd.f36 (mkS [(0,.v (.sl TT1)),(0,.fnc 38)] 0 x) (z1r (.v .bool) 2)=z9p N x.1:=by kernel_rfl
def ze6 (N:Nat):List A->Res:=z14 [(0,.v (.sl TT1)),(0,.fnc 38)] (fun x=>z9p N x.1) (z3r (.v .bool) 2)
theorem zn6 (N:Nat):Contract Tryd.prog glob 36 (ze6 N) :=
 Contract.of (E:=E_3 N) (H:=t_3 N) (L:=L_3) (N:=N) (body:=z1h0) (K:=(z1r (.v .bool) 2)) (Eok_3 N) Tryd.func36 (by kernel_rfl) (by decide) (fun _ hb=>TabOk.nil) (fun x y h=>by rw[z1df];exact h) (zq (s:=(.v .bool)) (m:=2))
def z1gz:Code:=(Tryd.f21.body).getD .skip
def L_4:List (List Nat×List Nat):=[([0],[1]),([0,0,1],[6,1]),([1,0,1],[1]),([0,0,1,0,1],[2]),([1,0,1,0,1],[2]),([0,1,1],[2]),([1,1,1],[2])]
def E_4 (N:Nat):Env:=z1c tys glob [(36,ze6 N),(38,z42 N),(37,zay N)] [] [] [] false [] []
theorem Eok_4 (N:Nat):EnvOk Tryd.prog (E_4 N):=zh mixed zz (FnsOk.cons (zn6 N) (FnsOk.cons (z6j N) (FnsOk.cons (zjp N) (FnsOk.nil)))) (ItsOk.nil)
def z6k (N:Nat)(b:zio):Option Bool:=cond (decide (8<(List.length b.2.1:Int))) (some false) ((z6l N b).bind fun y=>(z9p N y).bind fun y1=>some (!y1))
def t_4 (N:Nat):Tab Bool:=[]
theorem z1de (N:Nat)(x:z1k [(0,.v zoh)]):z3v (E_4 N) N (t_4 N) L_4 Tryd.f21 (mkS [(0,.v zoh)] 0 x) (z1r (.v .bool) 1)=z6k N x.1:=by kernel_rfl
def zax (N:Nat):List A->Res:=z14 [(0,.v zoh)] (fun x=>z6k N x.1) (z3r (.v .bool) 1)
theorem zjo (N:Nat):Contract Tryd.prog glob 21 (zax N) :=
 Contract.of (E:=E_4 N) (H:=t_4 N) (L:=L_4) (N:=N) (body:=z1gz) (K:=(z1r (.v .bool) 1)) (Eok_4 N) Tryd.func21 (by kernel_rfl) (by decide) (fun _ hb=>TabOk.nil) (fun x y h=>by rw[z1de];exact h) (zq (s:=(.v .bool)) (m:=1))
def z1gy:Code:=(Tryd.f22.body).getD .skip
def L_5:List (List Nat×List Nat):=[([0],[1]),([0,1],[2]),([1,1],[2])]
def E_5 (N:Nat):Env:=z1c tys glob [] [] [] [] false [(8,TT3),(9,TT3)] []
theorem Eok_5 (N:Nat):EnvOk Tryd.prog (E_5 N):=zh mixed zz (FnsOk.nil) (ItsOk.nil)
def z52 (N:Nat)(b:zio):Option DT2:=cond (decide (((0:Int)<=(List.length b.2.1:Int))/\(((List.length b.2.1:Int)<=(List.length b.2.1:Int))/\((((List.length b.2.1:Int)*(1:Int))<=(281474976710656:Int))/\((List.length b.2.1:Int)<=(9223372036854775807:Int)))))) (some (b,((List.replicate (Int.toNat (List.length b.2.1:Int)) false),(([]:List ((List DT6)×((List (List UInt8))×Unit))),([],((0:Int),())))))) none
def t_5 (N:Nat):Tab DT2:=[]
theorem z1dd (N:Nat)(x:z1k [(0,.v zoh)]):z3v (E_5 N) N (t_5 N) L_5 Tryd.f22 (mkS [(0,.v zoh)] 0 x) (z1r (.box TT3) 1)=z52 N x.1:=by kernel_rfl
def zaz (N:Nat):List A->Res:=z14 [(0,.v zoh)] (fun x=>z52 N x.1) (z3r (.box TT3) 1)
theorem zjq (N:Nat):Contract Tryd.prog glob 22 (zaz N) :=
 Contract.of (E:=E_5 N) (H:=t_5 N) (L:=L_5) (N:=N) (body:=z1gy) (K:=(z1r (.box TT3) 1)) (Eok_5 N) Tryd.func22 (by kernel_rfl) (by decide) (fun _ hb=>TabOk.nil) (fun x y h=>by rw[z1dd];exact h) (zq (s:=(.box TT3)) (m:=1))
def z10s:Code:=(Tryd.f53.body).getD .skip
def L_6:List (List Nat×List Nat):=[([0],[0]),([0,1],[3,0]),([0,0,1,1],[6,3,0]),([0,1,0,1,1],[6,3,0]),(z14m,[7,6,3,0]),(z14n,[6,3,0]),(z19z,[3]),(z1a0,[3,4,0,6]),(z1al,[6,3,0]),(z19y,[6,3,0]),(z19x,[6,3,0]),([1,0,1,1],[3]),([0,1,1,1],[2]),([1,1,1,1],[2])]
def E_6 (N:Nat):Env:=z1c tys glob [] [(3,(.int .u8))] [] [] false [] []
theorem Eok_6 (N:Nat):EnvOk Tryd.prog (E_6 N):=zh mixed zz (FnsOk.nil) (ItsOk.nil)
def zfe (N:Nat)(s:(List UInt8))(out:(List Int))(x6:Int)(rec:(List Int)->Int->Option (List UInt8))(k0:(List Int)->Option (List UInt8)):Option (List UInt8):=cond (decide (x6<8)) (cond (decide (0<=(IntKind.wrap IntKind.i64 (8*(IntKind.wrap IntKind.i64 (7 - x6)))))) (cond (inR x6 (List.length out)) (cond (decide ((Int.toNat x6)<(List.length out))) (rec (List.set out (Int.toNat x6) (IntKind.wrap IntKind.u8 (zaw IntKind.u64 (IntKind.wrap IntKind.u64 (List.length s:Int)) (IntKind.wrap IntKind.i64 (8*(IntKind.wrap IntKind.i64 (7 - x6))))))) (IntKind.wrap IntKind.i64 (x6+1))) none) none) none) (k0 out)
def zn0 (N:Nat)(s:(List UInt8))(out:(List Int))(x6:Int)(k0:(List Int)->Option (List UInt8)):Option (List UInt8):=iter (fun (v:((List Int)×Int)) r=>zfe N s v.1 v.2 (fun out x6=>(r (out,x6))) k0) N (out,x6)
def g1_6 (N:Nat)(i:(List UInt8))(v:((List Int)×Int))(r:((List Int)×Int)->Option (List UInt8))(K:Ex->List A->Option (List UInt8)):Option (List UInt8):=zfe N i v.1 v.2 (fun out x6=>(r (out,x6))) (fun a0=>(K (.exit 0) (mkS [(3,.row (.int .u8))] 19 (a0,()))))
def h1_6 (N:Nat):Hd (List UInt8):=fun st K=>(unS [(0,.v .str),(2,.row (.int .u8)),(2,.v (.int .i64))] 16 (restr [6,3,0] 0 st)).bind fun x=>iter (fun v r=>g1_6 N ((fun x=>x.1) x) v r K) N ((fun x=>(x.2.1,x.2.2.1)) x)
def t1_6 (N:Nat):Tab (List UInt8):=[]
theorem ok1_6 {N:Nat}{c:Ctx}(hb:Base Tryd.prog (E_6 N) c):z10 Tryd.prog c (zl z10s [0,1,0,1,1]) (h1_6 N) :=
 z2t (s:=[(0,.v .str),(2,.row (.int .u8)),(2,.v (.int .i64))]) (m:=16) (g1_6 N) [6,3,0] N (fun x=>x.1) (fun x=>(x.2.1,x.2.2.1)) (fun i v=>(i,v.1,v.2,())) (fun _=>rfl) (zi hb N (t1_6 N) L_6 z10s TabOk.nil [0,0,1,0,1,1] _ rfl) (fun i v r K=>by kernel_rfl)
def zcc (N:Nat)(s:(List UInt8)):Option (List UInt8):=zn0 N s ([0,0,0,0,0,0,0,0]:List Int) 0 (fun out=>some (z43 out))
def t_6 (N:Nat):Tab (List UInt8):=[([0,1,0,1,1],h1_6 N)]
theorem z1dc (N:Nat)(x:z1k [(0,.v .str)]):z3v (E_6 N) N (t_6 N) L_6 Tryd.f53 (mkS [(0,.v .str)] 0 x) (z1r (.v .str) 1)=zcc N x.1:=by kernel_rfl
def zdy (N:Nat):List A->Res:=z14 [(0,.v .str)] (fun x=>zcc N x.1) (z3r (.v .str) 1)
theorem zn1 (N:Nat):Contract Tryd.prog glob 53 (zdy N) :=
 Contract.of (E:=E_6 N) (H:=t_6 N) (L:=L_6) (N:=N) (body:=z10s) (K:=(z1r (.v .str) 1)) (Eok_6 N) Tryd.func53 (by kernel_rfl) (by decide) (fun _ hb=>(TabOk.cons (ok1_6 hb) TabOk.nil)) (fun x y h=>by rw[z1dc];exact h) (zq (s:=(.v .str)) (m:=1))
def z10r:Code:=(Tryd.f52.body).getD .skip
def L_7:List (List Nat×List Nat):=[([0],[7,6,5,0]),([0,1],[7,6,5,0]),([0,0,0,1],[8,5,7,0,6]),([0,1,0,0,1],[5,7,0,6]),([1,0,1,0,0,1],[0]),([0,0,0,1,1,0,0,1],[0,4,7,6,5]),([0,1,0,0,1,1,0,0,1],[21,0,7,6,5]),([1,1,0,0,1,1,0,0,1],[7,6,5,0]),([0,1,1,0,0,1,1,0,0,1],[0]),([0,1,1,0,0,1],[7,6,5,0]),([1,1,1,0,0,1],[7,6,5,0]),([1],[0])]
def E_7 (N:Nat):Env:=z1c tys glob [(53,zdy N)] [] [] [0] false [] []
theorem Eok_7 (N:Nat):EnvOk Tryd.prog (E_7 N):=zh mixed zz (FnsOk.cons (zn1 N) (FnsOk.nil)) ItsOk.nil
def z6s (N:Nat)(x5:(List (List UInt8)))(x6:Int)(x7:Int)(rec:Int->Option (List z5q))(k0:Option (List z5q))(k1:Option (List z5q)):Option (List z5q):=cond (decide (x7<x6)) (cond (inR x7 (List.length x5)) ((zcc N (List.getD x5 (Int.toNat x7) [])).bind fun y=>zpd (y,()) (zpd ((List.getD x5 (Int.toNat x7) []),()) (rec (IntKind.wrap IntKind.i64 (x7+1))) k0) k0) none) k1
def zly (N:Nat)(x5:(List (List UInt8)))(x6:Int)(x7:Int)(k0:Option (List z5q))(k1:Option (List z5q)):Option (List z5q):=iter (fun (v:Int) r=>z6s N x5 x6 v (fun x7=>(r x7)) k0 k1) N x7
def g1_7 (N:Nat)(i:((List (List UInt8))×Int))(v:Int)(r:Int->Option (List z5q))(K:Ex->List A->Option (List z5q)):Option (List z5q):=z6s N i.1 i.2 v (fun x7=>(r x7)) (K .ret (mkS [(0,.yld)] 22 ((),()))) (K (.exit 0) (mkS [(0,.yld)] 22 ((),())))
def h1_7 (N:Nat):Hd (List z5q):=fun st K=>(unS [(0,.yld),(4,.v (.sl .str)),(0,.v (.int .i64)),(0,.v (.int .i64))] 15 (restr [7,6,5,0] 0 st)).bind fun x=>iter (fun v r=>g1_7 N ((fun x=>(x.2.1,x.2.2.1)) x) v r K) N ((fun x=>x.2.2.2.1) x)
def t1_7 (N:Nat):Tab (List z5q):=[]
theorem ok1_7 {N:Nat}{G:GY [.str]}(hG:zee G)(hev:z1hb G Tryd.prog (E_7 N) N L_7 z10r):YOk G Tryd.prog (zl z10r [0,1]) (h1_7 N) :=
 zk9 hG (s:=[(0,.yld),(4,.v (.sl .str)),(0,.v (.int .i64)),(0,.v (.int .i64))]) (m:=15) (g1_7 N) [7,6,5,0] N (fun x=>(x.2.1,x.2.2.1)) (fun x=>x.2.2.2.1) (fun i v=>((),i.1,i.2,v,())) (fun _=>rfl) (hev (t1_7 N) TabOkY.nil [0,0,1]) (fun i v r K=>by kernel_rfl)
def za4 (N:Nat)(x1:(List (List UInt8))):Option (List z5q):=zly N x1 (List.length x1:Int) 0 (some []) (some [])
def t_7 (N:Nat):Tab (List z5q):=[([0,1],h1_7 N)]
theorem z1db (N:Nat)(x:T.den (.pair (.ptr (.sl .str)) .unit)):z1a8 (E_7 N) [.str] zpd N (t_7 N) L_7 Tryd.f52 [.v (.ptr (.sl .str)) x.1]=za4 N x.1:=by kernel_rfl
def z8 (N:Nat):Dat->ItRes:=zwx (ts:=[.str]) (.pair (.ptr (.sl .str)) .unit) (fun x=>za4 N x.1)
theorem za (N:Nat):ItOk Tryd.prog glob 52 (z8 N):=ItOk.of (ts:=[.str]) (E:=E_7 N) (H:=t_7 N) (L:=L_7) (N:=N) (body:=z10r) (Eok_7 N) rfl Tryd.func52 (by kernel_rfl) (by decide) (fun G hG hev=>(TabOkY.cons (ok1_7 hG hev) TabOkY.nil)) (fun x y h=>⟨_,rfl,by rw[z1db];exact h⟩)
def z1gx:Code:=(Tryd.f31.body).getD .skip
def L_8:List (List Nat×List Nat):=[([0],[1]),([0,1],[2]),([1,1],[2])]
def E_8 (N:Nat):Env:=z1c tys glob [] [] [] [] false [] [(52,z8 N)]
theorem Eok_8 (N:Nat):EnvOk Tryd.prog (E_8 N):=zh mixed zz (FnsOk.nil) (ItsOk.cons (za N) (ItsOk.nil))
def zlz (N:Nat)(parts:(List (List UInt8))):Option ((List (List UInt8))×Unit):=some (parts,())
def t_8 (N:Nat):Tab ((List (List UInt8))×Unit):=[]
theorem z1da (N:Nat)(x:z1k [(0,.v (.sl .str))]):z3v (E_8 N) N (t_8 N) L_8 Tryd.f31 (mkS [(0,.v (.sl .str))] 0 x) (z1r (.v (.fn 52 (.pair (.ptr (.sl .str)) .unit))) 1)=zlz N x.1:=by kernel_rfl
def zdz (N:Nat):List A->Res:=z14 [(0,.v (.sl .str))] (fun x=>zlz N x.1) (z3r (.v (.fn 52 (.pair (.ptr (.sl .str)) .unit))) 1)
theorem zn2 (N:Nat):Contract Tryd.prog glob 31 (zdz N) :=
 Contract.of (E:=E_8 N) (H:=t_8 N) (L:=L_8) (N:=N) (body:=z1gx) (K:=(z1r (.v (.fn 52 (.pair (.ptr (.sl .str)) .unit))) 1)) (Eok_8 N) Tryd.func31 (by kernel_rfl) (by decide) (fun _ hb=>TabOk.nil) (fun x y h=>by rw[z1da];exact h) (zq (s:=(.v (.fn 52 (.pair (.ptr (.sl .str)) .unit)))) (m:=1))
def z1gw:Code:=(Tryd.f32.body).getD .skip
def L_9:List (List Nat×List Nat):=[([0],[0,1]),([0,1],[0,1]),([0,1,1],[1,0]),([0,1,1,1],[4,5,0]),([1,1,1,1],[4,5,0])]
def E_9 (N:Nat):Env:=z1c tys glob [(54,z14f)] [] [] [0] false [] [(52,z8 N)]
theorem Eok_9 (N:Nat):EnvOk Tryd.prog (E_9 N):=zh mixed zz (FnsOk.cons (cc_ct glob) (FnsOk.nil)) (ItsOk.cons (za N) (ItsOk.nil))
def z17 (N:Nat)(b:zhp)(s:(List UInt8)):Option ((Int×Go.Value×Unit)×(zhp×Unit)):=cond (decide ((((List.length b.2.1)+(List.length (z4p s)))*1)<=70368744177664)) (some (((List.length s:Int),(Go.Value.nilIface,())),((b.1,((b.2.1++(z4p s)),b.2.2)),()))) none
def t_9 (N:Nat):Tab ((Int×Go.Value×Unit)×(zhp×Unit)):=[]
theorem z1d9 (N:Nat)(x:z1k [(0,.box zpu),(0,.v .str)]):z3v (E_9 N) N (t_9 N) L_9 Tryd.f32 (mkS [(0,.box zpu),(0,.v .str)] 0 x) (zbd (.tup [(.int .i64),.opq]) [(0,.box zpu)] 1)=z17 N x.1 x.2.1:=by kernel_rfl
def z2a (N:Nat):List A->Res:=z14 [(0,.box zpu),(0,.v .str)] (fun x=>z17 N x.1 x.2.1) (zi4 (.tup [(.int .i64),.opq]) [(0,.box zpu)] 1)
theorem z3z (N:Nat):Contract Tryd.prog glob 32 (z2a N) :=
 Contract.of (E:=E_9 N) (H:=t_9 N) (L:=L_9) (N:=N) (body:=z1gw) (K:=(zbd (.tup [(.int .i64),.opq]) [(0,.box zpu)] 1)) (Eok_9 N) Tryd.func32 (by kernel_rfl) (by decide) (fun _ hb=>TabOk.nil) (fun x y h=>by rw[z1d9];exact h) (z8m (s:=(.tup [(.int .i64),.opq])) (os:=[(0,.box zpu)]) (m:=1))
def zpq:Code:=(Tryd.f18.body).getD .skip
def L_10:List (List Nat×List Nat):=[([0],[0]),([0,1],[0,3]),([0,0,1,1],[6,3]),([0,1,0,1,1],[3]),([0,0,1,0,1,1],[4,3]),([0,1,0,1,0,1,1],[3]),([1,0,1,0,1,1],[3]),([1,0,1,1],[3]),([0,1,1,1],[2]),([1,1,1,1],[2])]
def z1jl (N:Nat):Env:=z1c tys glob [(32,z2a N),(31,zdz N),(33,zsf)] [] [] [] false [(3,zpu)] [(52,z8 N)]
theorem z1j9 (N:Nat):EnvOk Tryd.prog (z1jl N):=zh mixed zz (FnsOk.cons (z3z N) (FnsOk.cons (zn2 N) (FnsOk.cons (z13p glob) (FnsOk.nil)))) (ItsOk.cons (za N) (ItsOk.nil))
def zcf (N:Nat)(out_1:zhp)(y:z5q)(rec:zhp->Option (List UInt8))(k0:zhp->Option (List UInt8)):Option (List UInt8):=(z17 N out_1 y.1).bind fun y1=>rec y1.2.1
def z6v (N:Nat)(out:zhp)(x6:((List (List UInt8))×Unit)):Option (List z5q):=(za4 N x6.1)
def zcg (N:Nat)(out:zhp)(x6:((List (List UInt8))×Unit)):Unit:=()
def zh9 (N:Nat)(out:zhp)(x6:((List (List UInt8))×Unit)):zhp:=out
def zha (N:Nat)(out:zhp)(x6:((List (List UInt8))×Unit))(k0:zhp->Option (List UInt8)):Option (List UInt8):=(z6v N out x6).bind fun ys=>zbe (fun (y:z5q) (v:zhp) r=>zcf N v y (fun out_1=>(r out_1)) k0) (fun (v:zhp)=>k0 v) ys out
def z1gp (N:Nat)(y:z5q)(i:Unit)(v:zhp)(r:zhp->Option (List UInt8))(K:Ex->List A->Option (List UInt8)):Option (List UInt8):=zcf N v y (fun out_1=>(r out_1)) (fun a0=>(K .normal (mkS [(3,.box zpu)] 7 (a0,()))))
def z1f4 (N:Nat):Hd (List UInt8):=fun st K=>(unS [(3,.box zpu),(2,.v (.fn 52 (.pair (.ptr (.sl .str)) .unit)))] 4 (restr [6,3] 0 st)).bind fun x=>((fun x=>z6v N x.1 x.2.1) x).bind fun xs=>zbe (fun y v r=>z1gp N y ((fun x=>zcg N x.1 x.2.1) x) v r K) (fun v=>K .normal (mkS [(3,.box zpu)] 7 ((fun i v=>(v,())) ((fun x=>zcg N x.1 x.2.1) x) v))) xs ((fun x=>zh9 N x.1 x.2.1) x)
theorem z1d5 {N:Nat}{c:Ctx}(hb:Base Tryd.prog (z1jl N) c):z10 Tryd.prog c (zl zpq [0,1,0,1,1]) (z1f4 N) :=
 z120 (ts:=[.str]) (s:=[(3,.box zpu),(2,.v (.fn 52 (.pair (.ptr (.sl .str)) .unit)))]) (m:=4) (s2:=[(3,.box zpu)]) (m2:=7) [6,3] (fun x=>z6v N x.1 x.2.1) (fun x=>zcg N x.1 x.2.1) (fun x=>zh9 N x.1 x.2.1) (fun i v=>(v,())) (rfF (z1jl N) N [.str] (zl zpq [0,1,0,1,1])) (z1gp N) (zi hb N [] L_10 zpq TabOk.nil [0,1,0,1,1] _ rfl) (fun x K=>by kernel_rfl) (fun y i v r K=>by kernel_rfl)
def z6g (N:Nat)(parts:(List (List UInt8))):Option (List UInt8):=zha N ((),([],())) (parts,()) (fun out_1=>(zsg (out_1,())).bind fun y=>some y.1)
def t_10 (N:Nat):Tab (List UInt8):=[([0,1,0,1,1],z1f4 N)]
theorem z187 (N:Nat)(x:z1k [(0,.v (.sl .str))]):z3v (z1jl N) N (t_10 N) L_10 Tryd.f18 (mkS [(0,.v (.sl .str))] 0 x) (z1r (.v .str) 1)=z6g N x.1:=by kernel_rfl
def zap (N:Nat):List A->Res:=z14 [(0,.v (.sl .str))] (fun x=>z6g N x.1) (z3r (.v .str) 1)
theorem zhb (N:Nat):Contract Tryd.prog glob 18 (zap N) :=
 Contract.of (E:=z1jl N) (H:=t_10 N) (L:=L_10) (N:=N) (body:=zpq) (K:=(z1r (.v .str) 1)) (z1j9 N) Tryd.func18 (by kernel_rfl) (by decide) (fun _ hb=>(TabOk.cons (z1d5 hb) TabOk.nil)) (fun x y h=>by rw[z187];exact h) (zq (s:=(.v .str)) (m:=1))
def z19q:Code:=(Tryd.f73.body).getD .skip
def L_11:List (List Nat×List Nat):=[([0],[0]),([0,1],[0]),([1,1],[0])]
def E_11 (N:Nat):Env:=z1c tys glob [] [] [] [] false [] [(52,z8 N)]
theorem z1j8 (N:Nat):EnvOk Tryd.prog (E_11 N):=zh mixed zz (FnsOk.nil) (ItsOk.cons (za N) (ItsOk.nil))
def zqa (N:Nat):Option (List Int):=some ([1779033703,3144134277,1013904242,2773480762,1359893119,2600822924,528734635,1541459225]:List Int)
def t_11 (N:Nat):Tab (List Int):=[]
theorem z186 (N:Nat)(x:z1k []):z3v (E_11 N) N (t_11 N) L_11 Tryd.f73 (mkS [] 0 x) (z1r (.v (.arr 8 (.int .u32))) 0)=zqa N:=by kernel_rfl
def zgn (N:Nat):List A->Res:=z14 [] (fun x=>zqa N) (z3r (.v (.arr 8 (.int .u32))) 0)
theorem zq9 (N:Nat):Contract Tryd.prog glob 73 (zgn N) :=
 Contract.of (E:=E_11 N) (H:=t_11 N) (L:=L_11) (N:=N) (body:=z19q) (K:=(z1r (.v (.arr 8 (.int .u32))) 0)) (z1j8 N) Tryd.func73 (by kernel_rfl) (by decide) (fun _ hb=>TabOk.nil) (fun x y h=>by rw[z186];exact h) (zq (s:=(.v (.arr 8 (.int .u32)))) (m:=0))
def z19p:Code:=(Tryd.f64.body).getD .skip
def L_12:List (List Nat×List Nat):=[([0],[]),([0,1],[0]),([1,1],[0])]
def E_12 (N:Nat):Env:=z1c tys glob [(73,zgn N)] [] [] [] false [] [(52,z8 N)]
theorem z1j7 (N:Nat):EnvOk Tryd.prog (E_12 N):=zh mixed zz (FnsOk.cons (zq9 N) (FnsOk.nil)) (ItsOk.cons (za N) (ItsOk.nil))
def zyd (N:Nat):Option DT5:=some (true,(([1779033703,3144134277,1013904242,2773480762,1359893119,2600822924,528734635,1541459225]:List Int),([],(0,()))))
def t_12 (N:Nat):Tab DT5:=[]
theorem z185 (N:Nat)(x:z1k []):z3v (E_12 N) N (t_12 N) L_12 Tryd.f64 (mkS [] 0 x) (z1r (.box TT4) 0)=zyd N:=by kernel_rfl
def zfs (N:Nat):List A->Res:=z14 [] (fun x=>zyd N) (z3r (.box TT4) 0)
theorem zng (N:Nat):Contract Tryd.prog glob 64 (zfs N) :=
 Contract.of (E:=E_12 N) (H:=t_12 N) (L:=L_12) (N:=N) (body:=z19p) (K:=(z1r (.box TT4) 0)) (z1j7 N) Tryd.func64 (by kernel_rfl) (by decide) (fun _ hb=>TabOk.nil) (fun x y h=>by rw[z185];exact h) (zq (s:=(.box TT4)) (m:=0))
def z19o:Code:=(Tryd.f95.body).getD .skip
def L_13:List (List Nat×List Nat):=[([0],[1,0]),([0,1],[0,5]),([0,1,1],[4]),([1,1,1],[4])]
def E_13 (N:Nat):Env:=z1c tys glob [] [] [] [] false [] [(52,z8 N)]
theorem z1j6 (N:Nat):EnvOk Tryd.prog (E_13 N):=zh mixed zz (FnsOk.nil) (ItsOk.cons (za N) (ItsOk.nil))
def z4m (N:Nat)(x0:Int)(k:Int):Option Int:=cond (decide (0<=(IntKind.wrap IntKind.u64 (32 - (zu Go.BinOp.and IntKind.u64 (IntKind.wrap IntKind.u64 k) 31))))) (some (zu Go.BinOp.or IntKind.u32 (zkq IntKind.u32 x0 (zu Go.BinOp.and IntKind.u64 (IntKind.wrap IntKind.u64 k) 31)) (zaw IntKind.u32 x0 (IntKind.wrap IntKind.u64 (32 - (zu Go.BinOp.and IntKind.u64 (IntKind.wrap IntKind.u64 k) 31)))))) none
def t_13 (N:Nat):Tab Int:=[]
theorem z184 (N:Nat)(x:z1k z1af):z3v (E_13 N) N (t_13 N) L_13 Tryd.f95 (mkS z1af 0 x) (z1r (.v (.int .u32)) 2)=z4m N x.1 x.2.1:=by kernel_rfl
def z5g (N:Nat):List A->Res:=z14 z1af (fun x=>z4m N x.1 x.2.1) (z3r (.v (.int .u32)) 2)
theorem zal (N:Nat):Contract Tryd.prog glob 95 (z5g N) :=
 Contract.of (E:=E_13 N) (H:=t_13 N) (L:=L_13) (N:=N) (body:=z19o) (K:=(z1r (.v (.int .u32)) 2)) (z1j6 N) Tryd.func95 (by kernel_rfl) (by decide) (fun _ hb=>TabOk.nil) (fun x y h=>by rw[z184];exact h) (zq (s:=(.v (.int .u32))) (m:=2))
def z19n:Code:=(Tryd.f94.body).getD .skip
def L_14:List (List Nat×List Nat):=[([0],[0,1]),([0,1],[4]),([1,1],[4])]
def E_14 (N:Nat):Env:=z1c tys glob [(95,z5g N)] [] [] [] false [] [(52,z8 N)]
theorem z1j5 (N:Nat):EnvOk Tryd.prog (E_14 N):=zh mixed zz (FnsOk.cons (zal N) (FnsOk.nil)) (ItsOk.cons (za N) (ItsOk.nil))
def zyc (N:Nat)(x0:Int)(n:Int):Option Int:=(z4m N x0 (IntKind.wrap IntKind.i64 (0 - n))).bind fun y=>some y
def t_14 (N:Nat):Tab Int:=[]
theorem z183 (N:Nat)(x:z1k z1af):z3v (E_14 N) N (t_14 N) L_14 Tryd.f94 (mkS z1af 0 x) (z1r (.v (.int .u32)) 2)=zyc N x.1 x.2.1:=by kernel_rfl
def zfp (N:Nat):List A->Res:=z14 z1af (fun x=>zyc N x.1 x.2.1) (z3r (.v (.int .u32)) 2)
theorem znf (N:Nat):Contract Tryd.prog glob 94 (zfp N) :=
 Contract.of (E:=E_14 N) (H:=t_14 N) (L:=L_14) (N:=N) (body:=z19n) (K:=(z1r (.v (.int .u32)) 2)) (z1j5 N) Tryd.func94 (by kernel_rfl) (by decide) (fun _ hb=>TabOk.nil) (fun x y h=>by rw[z183];exact h) (zq (s:=(.v (.int .u32))) (m:=2))
def zmk:Code:=(Tryd.f91.body).getD .skip
def L_15:List (List Nat×List Nat):=[([0],[0,2]),([0,1],[0,3,2]),([0,0,1,1],[11,0,3,2]),([0,1,0,1,1],[11,0,3,2]),(z14m,[12,11,0,3,2]),(z14n,[11,0,3,2]),(z19z,[3,2]),(z1a0,[0,4,3,11,2]),([0,1,0,0,1,1,0,0,1,0,1,1],[4,5,3,11,0,2]),([1,1,0,0,1,1,0,0,1,0,1,1],[11,0,3,2]),(z19y,[11,0,3,2]),(z19x,[11,0,3,2]),([1,0,1,1],[3,2]),([0,0,1,1,1],[6,3,2]),([0,1,0,1,1,1],[6,3,2]),([0,0,0,0,1,0,1,1,1],[43,6,3,2]),([1,0,0,0,1,0,1,1,1],[6,3,2]),([1,1,0,0,0,1,0,1,1,1],[3,2]),([0,0,0,1,0,0,1,0,1,1,1],[7,8,6,3,2]),([0,1,0,0,1,0,0,1,0,1,1,1],[8,6,3,9,2]),([0,1,1,0,0,1,0,0,1,0,1,1,1],[6,10,3,9,2]),([1,1,1,0,0,1,0,0,1,0,1,1,1],[6,3,2]),([0,1,0,0,1,0,1,1,1],[6,3,2]),([1,1,0,0,1,0,1,1,1],[6,3,2]),([1,0,1,1,1],[3,2]),([0,1,1,1,1],[2]),([1,1,1,1,1],[2])]
def z1jk (N:Nat):Env:=z1c tys glob [(94,zfp N)] [] [] [] false [] [(52,z8 N)]
theorem z1j4 (N:Nat):EnvOk Tryd.prog (z1jk N):=zh mixed zz (FnsOk.cons (znf N) (FnsOk.nil)) (ItsOk.cons (za N) (ItsOk.nil))
def zdh (N:Nat)(block:(List UInt8))(x2:(List Int))(w:(List Int))(x11:Int)(rec:(List Int)->Int->Option (List Int))(k0:(List Int)->Option (List Int)):Option (List Int):=cond (decide (x11<16)) (cond (decide ((0<=(IntKind.wrap IntKind.i64 ((IntKind.wrap IntKind.i64 (4*x11))+4)))/\((IntKind.wrap IntKind.i64 ((IntKind.wrap IntKind.i64 (4*x11))+4))<=(List.length block:Int)))) (cond (decide ((0<=(IntKind.wrap IntKind.i64 (4*x11)))/\((IntKind.wrap IntKind.i64 (4*x11))<=(IntKind.wrap IntKind.i64 ((IntKind.wrap IntKind.i64 (4*x11))+4))))) (cond (inR 0 (List.length (cut block (Int.toNat (IntKind.wrap IntKind.i64 (4*x11))) (Int.toNat (IntKind.wrap IntKind.i64 ((IntKind.wrap IntKind.i64 (4*x11))+4)))))) (cond (inR 1 (List.length (cut block (Int.toNat (IntKind.wrap IntKind.i64 (4*x11))) (Int.toNat (IntKind.wrap IntKind.i64 ((IntKind.wrap IntKind.i64 (4*x11))+4)))))) (cond (inR 2 (List.length (cut block (Int.toNat (IntKind.wrap IntKind.i64 (4*x11))) (Int.toNat (IntKind.wrap IntKind.i64 ((IntKind.wrap IntKind.i64 (4*x11))+4)))))) (cond (inR 3 (List.length (cut block (Int.toNat (IntKind.wrap IntKind.i64 (4*x11))) (Int.toNat (IntKind.wrap IntKind.i64 ((IntKind.wrap IntKind.i64 (4*x11))+4)))))) (cond (inR x11 64) (cond (decide ((Int.toNat x11)<(List.length w))) (rec (List.set w (Int.toNat x11) (zu Go.BinOp.or IntKind.u32 (zu Go.BinOp.or IntKind.u32 (zu Go.BinOp.or IntKind.u32 (zkq IntKind.u32 (IntKind.wrap IntKind.u32 (((UInt8.toNat (List.getD (cut block (Int.toNat (IntKind.wrap IntKind.i64 (4*x11))) (Int.toNat (IntKind.wrap IntKind.i64 ((IntKind.wrap IntKind.i64 (4*x11))+4)))) 0 (0:UInt8))):Nat):Int)) 24) (zkq IntKind.u32 (IntKind.wrap IntKind.u32 (((UInt8.toNat (List.getD (cut block (Int.toNat (IntKind.wrap IntKind.i64 (4*x11))) (Int.toNat (IntKind.wrap IntKind.i64 ((IntKind.wrap IntKind.i64 (4*x11))+4)))) 1 (0:UInt8))):Nat):Int)) 16)) (zkq IntKind.u32 (IntKind.wrap IntKind.u32 (((UInt8.toNat (List.getD (cut block (Int.toNat (IntKind.wrap IntKind.i64 (4*x11))) (Int.toNat (IntKind.wrap IntKind.i64 ((IntKind.wrap IntKind.i64 (4*x11))+4)))) 2 (0:UInt8))):Nat):Int)) 8)) (IntKind.wrap IntKind.u32 (((UInt8.toNat (List.getD (cut block (Int.toNat (IntKind.wrap IntKind.i64 (4*x11))) (Int.toNat (IntKind.wrap IntKind.i64 ((IntKind.wrap IntKind.i64 (4*x11))+4)))) 3 (0:UInt8))):Nat):Int)))) (IntKind.wrap IntKind.i64 (x11+1))) none) none) none) none) none) none) none) none) (k0 w)
def zks (N:Nat)(block:(List UInt8))(x2:(List Int))(w:(List Int))(x11:Int)(k0:(List Int)->Option (List Int)):Option (List Int):=iter (fun (v:((List Int)×Int)) r=>zdh N block x2 v.1 v.2 (fun w x11=>(r (w,x11))) k0) N (w,x11)
def z1go (N:Nat)(i:((List UInt8)×(List Int)))(v:((List Int)×Int))(r:((List Int)×Int)->Option (List Int))(K:Ex->List A->Option (List Int)):Option (List Int):=zdh N i.1 i.2 v.1 v.2 (fun w x11=>(r (w,x11))) (fun a1=>(K (.exit 0) (mkS [(2,.box (.arr 64 (.int .u32))),(0,.box (.arr 64 (.int .u32)))] 82 (i.2,a1,()))))
def z1f3 (N:Nat):Hd (List Int):=fun st K=>(unS SQ38 74 (restr [11,0,3,2] 0 st)).bind fun x=>iter (fun v r=>z1go N ((fun x=>(x.1,x.2.1)) x) v r K) N ((fun x=>(x.2.2.1,x.2.2.2.1)) x)
def t1_15 (N:Nat):Tab (List Int):=[]
theorem z1d4 {N:Nat}{c:Ctx}(hb:Base Tryd.prog (z1jk N) c):z10 Tryd.prog c (zl zmk [0,1,0,1,1]) (z1f3 N) :=
 z2t (s:=SQ38) (m:=74) (z1go N) [11,0,3,2] N (fun x=>(x.1,x.2.1)) (fun x=>(x.2.2.1,x.2.2.2.1)) (fun i v=>(i.1,i.2,v.1,v.2,())) (fun _=>rfl) (zi hb N (t1_15 N) L_15 zmk TabOk.nil [0,0,1,0,1,1] _ rfl) (fun i v r K=>by kernel_rfl)
def zdg (N:Nat)(x2:(List Int))(w:(List Int))(t:Int)(rec:(List Int)->Int->Option (List Int))(k0:(List Int)->Option (List Int)):Option (List Int):=cond (decide (t<64)) (cond (inR (IntKind.wrap IntKind.i64 (t - 15)) 64) (cond (decide ((Int.toNat (IntKind.wrap IntKind.i64 (t - 15)))<(List.length w))) (cond (inR (IntKind.wrap IntKind.i64 (t - 2)) 64) (cond (decide ((Int.toNat (IntKind.wrap IntKind.i64 (t - 2)))<(List.length w))) (cond (inR (IntKind.wrap IntKind.i64 (t - 7)) 64) (cond (decide ((Int.toNat (IntKind.wrap IntKind.i64 (t - 7)))<(List.length w))) (cond (inR (IntKind.wrap IntKind.i64 (t - 16)) 64) (cond (decide ((Int.toNat (IntKind.wrap IntKind.i64 (t - 16)))<(List.length w))) (cond (inR t 64) (cond (decide ((Int.toNat t)<(List.length w))) (rec (List.set w (Int.toNat t) (IntKind.wrap IntKind.u32 ((IntKind.wrap IntKind.u32 ((IntKind.wrap IntKind.u32 ((zu Go.BinOp.xor IntKind.u32 (zu Go.BinOp.xor IntKind.u32 (zu Go.BinOp.or IntKind.u32 (zkq IntKind.u32 (List.getD w (Int.toNat (IntKind.wrap IntKind.i64 (t - 2))) 0) (zu Go.BinOp.and IntKind.u64 (IntKind.wrap IntKind.u64 (IntKind.wrap IntKind.i64 (0 - 17))) 31)) (zaw IntKind.u32 (List.getD w (Int.toNat (IntKind.wrap IntKind.i64 (t - 2))) 0) (IntKind.wrap IntKind.u64 (32 - (zu Go.BinOp.and IntKind.u64 (IntKind.wrap IntKind.u64 (IntKind.wrap IntKind.i64 (0 - 17))) 31))))) (zu Go.BinOp.or IntKind.u32 (zkq IntKind.u32 (List.getD w (Int.toNat (IntKind.wrap IntKind.i64 (t - 2))) 0) (zu Go.BinOp.and IntKind.u64 (IntKind.wrap IntKind.u64 (IntKind.wrap IntKind.i64 (0 - 19))) 31)) (zaw IntKind.u32 (List.getD w (Int.toNat (IntKind.wrap IntKind.i64 (t - 2))) 0) (IntKind.wrap IntKind.u64 (32 - (zu Go.BinOp.and IntKind.u64 (IntKind.wrap IntKind.u64 (IntKind.wrap IntKind.i64 (0 - 19))) 31)))))) (zaw IntKind.u32 (List.getD w (Int.toNat (IntKind.wrap IntKind.i64 (t - 2))) 0) 10))+(List.getD w (Int.toNat (IntKind.wrap IntKind.i64 (t - 7))) 0)))+(zu Go.BinOp.xor IntKind.u32 (zu Go.BinOp.xor IntKind.u32 (zu Go.BinOp.or IntKind.u32 (zkq IntKind.u32 (List.getD w (Int.toNat (IntKind.wrap IntKind.i64 (t - 15))) 0) (zu Go.BinOp.and IntKind.u64 (IntKind.wrap IntKind.u64 (IntKind.wrap IntKind.i64 (0 - 7))) 31)) (zaw IntKind.u32 (List.getD w (Int.toNat (IntKind.wrap IntKind.i64 (t - 15))) 0) (IntKind.wrap IntKind.u64 (32 - (zu Go.BinOp.and IntKind.u64 (IntKind.wrap IntKind.u64 (IntKind.wrap IntKind.i64 (0 - 7))) 31))))) (zu Go.BinOp.or IntKind.u32 (zkq IntKind.u32 (List.getD w (Int.toNat (IntKind.wrap IntKind.i64 (t - 15))) 0) (zu Go.BinOp.and IntKind.u64 (IntKind.wrap IntKind.u64 (IntKind.wrap IntKind.i64 (0 - 18))) 31)) (zaw IntKind.u32 (List.getD w (Int.toNat (IntKind.wrap IntKind.i64 (t - 15))) 0) (IntKind.wrap IntKind.u64 (32 - (zu Go.BinOp.and IntKind.u64 (IntKind.wrap IntKind.u64 (IntKind.wrap IntKind.i64 (0 - 18))) 31)))))) (zaw IntKind.u32 (List.getD w (Int.toNat (IntKind.wrap IntKind.i64 (t - 15))) 0) 3))))+(List.getD w (Int.toNat (IntKind.wrap IntKind.i64 (t - 16))) 0)))) (IntKind.wrap IntKind.i64 (t+1))) none) none) none) none) none) none) none) none) none) none) (k0 w)
def zkr (N:Nat)(x2:(List Int))(w:(List Int))(t:Int)(k0:(List Int)->Option (List Int)):Option (List Int):=iter (fun (v:((List Int)×Int)) r=>zdg N x2 v.1 v.2 (fun w t=>(r (w,t))) k0) N (w,t)
def z1fr (N:Nat)(i:(List Int))(v:((List Int)×Int))(r:((List Int)×Int)->Option (List Int))(K:Ex->List A->Option (List Int)):Option (List Int):=zdg N i v.1 v.2 (fun w t=>(r (w,t))) (fun a1=>(K (.exit 2) (mkS [(2,.box (.arr 64 (.int .u32))),(0,.box (.arr 64 (.int .u32)))] 82 (i,a1,()))))
def z1e6 (N:Nat):Hd (List Int):=fun st K=>(unS SQ54 79 (restr [6,3,2] 0 st)).bind fun x=>iter (fun v r=>z1fr N ((fun x=>x.1) x) v r K) N ((fun x=>(x.2.1,x.2.2.1)) x)
def t2_15 (N:Nat):Tab (List Int):=[]
theorem z1c7 {N:Nat}{c:Ctx}(hb:Base Tryd.prog (z1jk N) c):z10 Tryd.prog c (zl zmk [0,1,0,1,1,1]) (z1e6 N) :=
 z2t (s:=SQ54) (m:=79) (z1fr N) [6,3,2] N (fun x=>x.1) (fun x=>(x.2.1,x.2.2.1)) (fun i v=>(i,v.1,v.2,())) (fun _=>rfl) (zi hb N (t2_15 N) L_15 zmk TabOk.nil [0,0,1,0,1,1,1] _ rfl) (fun i v r K=>by kernel_rfl)
def zdi (N:Nat)(block:(List UInt8)):Option (List Int):=zks N block (0::0::0::0::0::0::0::0::0::0::0::0::0::0::0::0::0::0::0::0::0::0::0::0::0::0::0::0::0::0::0::0::0::0::0::0::0::0::0::0::0::0::0::0::0::0::0::0::0::0::0::0::0::0::0::0::0::0::0::0::0::0::0::0::[]) (0::0::0::0::0::0::0::0::0::0::0::0::0::0::0::0::0::0::0::0::0::0::0::0::0::0::0::0::0::0::0::0::0::0::0::0::0::0::0::0::0::0::0::0::0::0::0::0::0::0::0::0::0::0::0::0::0::0::0::0::0::0::0::0::[]) 0 (fun w=>zkr N (0::0::0::0::0::0::0::0::0::0::0::0::0::0::0::0::0::0::0::0::0::0::0::0::0::0::0::0::0::0::0::0::0::0::0::0::0::0::0::0::0::0::0::0::0::0::0::0::0::0::0::0::0::0::0::0::0::0::0::0::0::0::0::0::[]) w 16 (fun w1=>some w1))
def t_15 (N:Nat):Tab (List Int):=[([0,1,0,1,1],z1f3 N),([0,1,0,1,1,1],z1e6 N)]
theorem z182 (N:Nat)(x:z1k [(0,.v .str)]):z3v (z1jk N) N (t_15 N) L_15 Tryd.f91 (mkS [(0,.v .str)] 0 x) (z1r (.v (.arr 64 (.int .u32))) 1)=zdi N x.1:=by kernel_rfl
def zcv (N:Nat):List A->Res:=z14 [(0,.v .str)] (fun x=>zdi N x.1) (z3r (.v (.arr 64 (.int .u32))) 1)
theorem zkt (N:Nat):Contract Tryd.prog glob 91 (zcv N) :=
 Contract.of (E:=z1jk N) (H:=t_15 N) (L:=L_15) (N:=N) (body:=zmk) (K:=(z1r (.v (.arr 64 (.int .u32))) 1)) (z1j4 N) Tryd.func91 (by kernel_rfl) (by decide) (fun _ hb=>(TabOk.cons (z1d4 hb) (TabOk.cons (z1c7 hb) TabOk.nil))) (fun x y h=>by rw[z182];exact h) (zq (s:=(.v (.arr 64 (.int .u32)))) (m:=1))
def z19m:Code:=(Tryd.f92.body).getD .skip
def L_16:List (List Nat×List Nat):=[([0],[2,1,4]),([0,1],[12,9,10,11,1,5,6,7,8,4]),([0,1,1],[5,6,7,13,8,9,10,11,4]),([0,1,1,1],[13,14,5,6,7,8,9,10,11,4]),([0,1,1,1,1],[4]),([1,1,1,1,1],[4])]
def E_16 (N:Nat):Env:=z1c tys glob [(94,zfp N)] [] [] [] false [] [(52,z8 N)]
theorem z1j3 (N:Nat):EnvOk Tryd.prog (E_16 N):=zh mixed zz (FnsOk.cons (znf N) (FnsOk.nil)) (ItsOk.cons (za N) (ItsOk.nil))
def zku (N:Nat)(v_:(List Int))(k:Int):Option (List Int):=cond (decide (0<(List.length v_))) (cond (decide (1<(List.length v_))) (cond (decide (2<(List.length v_))) (cond (decide (3<(List.length v_))) (cond (decide (4<(List.length v_))) (cond (decide (5<(List.length v_))) (cond (decide (6<(List.length v_))) (cond (decide (7<(List.length v_))) (some ([(IntKind.wrap IntKind.u32 ((IntKind.wrap IntKind.u32 ((IntKind.wrap IntKind.u32 ((IntKind.wrap IntKind.u32 ((List.getD v_ 7 0)+(zu Go.BinOp.xor IntKind.u32 (zu Go.BinOp.xor IntKind.u32 (zu Go.BinOp.or IntKind.u32 (zkq IntKind.u32 (List.getD v_ 4 0) (zu Go.BinOp.and IntKind.u64 (IntKind.wrap IntKind.u64 (IntKind.wrap IntKind.i64 (0 - 6))) 31)) (zaw IntKind.u32 (List.getD v_ 4 0) (IntKind.wrap IntKind.u64 (32 - (zu Go.BinOp.and IntKind.u64 (IntKind.wrap IntKind.u64 (IntKind.wrap IntKind.i64 (0 - 6))) 31))))) (zu Go.BinOp.or IntKind.u32 (zkq IntKind.u32 (List.getD v_ 4 0) (zu Go.BinOp.and IntKind.u64 (IntKind.wrap IntKind.u64 (IntKind.wrap IntKind.i64 (0 - 11))) 31)) (zaw IntKind.u32 (List.getD v_ 4 0) (IntKind.wrap IntKind.u64 (32 - (zu Go.BinOp.and IntKind.u64 (IntKind.wrap IntKind.u64 (IntKind.wrap IntKind.i64 (0 - 11))) 31)))))) (zu Go.BinOp.or IntKind.u32 (zkq IntKind.u32 (List.getD v_ 4 0) (zu Go.BinOp.and IntKind.u64 (IntKind.wrap IntKind.u64 (IntKind.wrap IntKind.i64 (0 - 25))) 31)) (zaw IntKind.u32 (List.getD v_ 4 0) (IntKind.wrap IntKind.u64 (32 - (zu Go.BinOp.and IntKind.u64 (IntKind.wrap IntKind.u64 (IntKind.wrap IntKind.i64 (0 - 25))) 31))))))))+(zu Go.BinOp.xor IntKind.u32 (zu Go.BinOp.and IntKind.u32 (List.getD v_ 4 0) (List.getD v_ 5 0)) (zu Go.BinOp.and IntKind.u32 (zu Go.BinOp.xor IntKind.u32 (if ((IntKind.signed IntKind.u32)=true) then (-1) else (IntKind.max IntKind.u32)) (List.getD v_ 4 0)) (List.getD v_ 6 0)))))+k))+(IntKind.wrap IntKind.u32 ((zu Go.BinOp.xor IntKind.u32 (zu Go.BinOp.xor IntKind.u32 (zu Go.BinOp.or IntKind.u32 (zkq IntKind.u32 (List.getD v_ 0 0) (zu Go.BinOp.and IntKind.u64 (IntKind.wrap IntKind.u64 (IntKind.wrap IntKind.i64 (0 - 2))) 31)) (zaw IntKind.u32 (List.getD v_ 0 0) (IntKind.wrap IntKind.u64 (32 - (zu Go.BinOp.and IntKind.u64 (IntKind.wrap IntKind.u64 (IntKind.wrap IntKind.i64 (0 - 2))) 31))))) (zu Go.BinOp.or IntKind.u32 (zkq IntKind.u32 (List.getD v_ 0 0) (zu Go.BinOp.and IntKind.u64 (IntKind.wrap IntKind.u64 (IntKind.wrap IntKind.i64 (0 - 13))) 31)) (zaw IntKind.u32 (List.getD v_ 0 0) (IntKind.wrap IntKind.u64 (32 - (zu Go.BinOp.and IntKind.u64 (IntKind.wrap IntKind.u64 (IntKind.wrap IntKind.i64 (0 - 13))) 31)))))) (zu Go.BinOp.or IntKind.u32 (zkq IntKind.u32 (List.getD v_ 0 0) (zu Go.BinOp.and IntKind.u64 (IntKind.wrap IntKind.u64 (IntKind.wrap IntKind.i64 (0 - 22))) 31)) (zaw IntKind.u32 (List.getD v_ 0 0) (IntKind.wrap IntKind.u64 (32 - (zu Go.BinOp.and IntKind.u64 (IntKind.wrap IntKind.u64 (IntKind.wrap IntKind.i64 (0 - 22))) 31))))))+(zu Go.BinOp.xor IntKind.u32 (zu Go.BinOp.xor IntKind.u32 (zu Go.BinOp.and IntKind.u32 (List.getD v_ 0 0) (List.getD v_ 1 0)) (zu Go.BinOp.and IntKind.u32 (List.getD v_ 0 0) (List.getD v_ 2 0))) (zu Go.BinOp.and IntKind.u32 (List.getD v_ 1 0) (List.getD v_ 2 0))))))),(List.getD v_ 0 0),(List.getD v_ 1 0),(List.getD v_ 2 0),(IntKind.wrap IntKind.u32 ((List.getD v_ 3 0)+(IntKind.wrap IntKind.u32 ((IntKind.wrap IntKind.u32 ((IntKind.wrap IntKind.u32 ((List.getD v_ 7 0)+(zu Go.BinOp.xor IntKind.u32 (zu Go.BinOp.xor IntKind.u32 (zu Go.BinOp.or IntKind.u32 (zkq IntKind.u32 (List.getD v_ 4 0) (zu Go.BinOp.and IntKind.u64 (IntKind.wrap IntKind.u64 (IntKind.wrap IntKind.i64 (0 - 6))) 31)) (zaw IntKind.u32 (List.getD v_ 4 0) (IntKind.wrap IntKind.u64 (32 - (zu Go.BinOp.and IntKind.u64 (IntKind.wrap IntKind.u64 (IntKind.wrap IntKind.i64 (0 - 6))) 31))))) (zu Go.BinOp.or IntKind.u32 (zkq IntKind.u32 (List.getD v_ 4 0) (zu Go.BinOp.and IntKind.u64 (IntKind.wrap IntKind.u64 (IntKind.wrap IntKind.i64 (0 - 11))) 31)) (zaw IntKind.u32 (List.getD v_ 4 0) (IntKind.wrap IntKind.u64 (32 - (zu Go.BinOp.and IntKind.u64 (IntKind.wrap IntKind.u64 (IntKind.wrap IntKind.i64 (0 - 11))) 31)))))) (zu Go.BinOp.or IntKind.u32 (zkq IntKind.u32 (List.getD v_ 4 0) (zu Go.BinOp.and IntKind.u64 (IntKind.wrap IntKind.u64 (IntKind.wrap IntKind.i64 (0 - 25))) 31)) (zaw IntKind.u32 (List.getD v_ 4 0) (IntKind.wrap IntKind.u64 (32 - (zu Go.BinOp.and IntKind.u64 (IntKind.wrap IntKind.u64 (IntKind.wrap IntKind.i64 (0 - 25))) 31))))))))+(zu Go.BinOp.xor IntKind.u32 (zu Go.BinOp.and IntKind.u32 (List.getD v_ 4 0) (List.getD v_ 5 0)) (zu Go.BinOp.and IntKind.u32 (zu Go.BinOp.xor IntKind.u32 (if ((IntKind.signed IntKind.u32)=true) then (-1) else (IntKind.max IntKind.u32)) (List.getD v_ 4 0)) (List.getD v_ 6 0)))))+k)))),(List.getD v_ 4 0),(List.getD v_ 5 0),(List.getD v_ 6 0)]:List Int)) none) none) none) none) none) none) none) none
def t_16 (N:Nat):Tab (List Int):=[]
theorem z181 (N:Nat)(x:z1k SQ64):z3v (E_16 N) N (t_16 N) L_16 Tryd.f92 (mkS SQ64 0 x) (z1r (.v (.arr 8 (.int .u32))) 2)=zku N x.1 x.2.1:=by kernel_rfl
def zgl (N:Nat):List A->Res:=z14 SQ64 (fun x=>zku N x.1 x.2.1) (z3r (.v (.arr 8 (.int .u32))) 2)
theorem zq8 (N:Nat):Contract Tryd.prog glob 92 (zgl N) :=
 Contract.of (E:=E_16 N) (H:=t_16 N) (L:=L_16) (N:=N) (body:=z19m) (K:=(z1r (.v (.arr 8 (.int .u32))) 2)) (z1j3 N) Tryd.func92 (by kernel_rfl) (by decide) (fun _ hb=>TabOk.nil) (fun x y h=>by rw[z181];exact h) (zq (s:=(.v (.arr 8 (.int .u32)))) (m:=2))
def zmj:Code:=(Tryd.f84.body).getD .skip
def L_17:List (List Nat×List Nat):=[([0],[1,2,4]),([0,0,1],[11,2,4,1]),([1,0,1],[1,2,4]),([0,0,1,0,1],[4]),([1,0,1,0,1],[4]),([0,1,1],[2,5,4]),([0,1,1,1],[6,5,2,4]),([0,0,1,1,1,1],[16,6,5,2,4]),(zw1,[16,6,5,2,4]),([0,0,0,1,0,1,1,1,1],[17,16,6,5,2,4]),([0,1,0,0,1,0,1,1,1,1],[16,6,5,2,4]),([1,0,1,0,0,1,0,1,1,1,1],[6,2,4]),([0,0,0,1,1,0,0,1,0,1,1,1,1],[6,7,5,16,2,4]),([1,0,0,1,1,0,0,1,0,1,1,1,1],[16,6,5,2,4]),([0,1,1,0,0,1,0,1,1,1,1],[16,6,5,2,4]),([1,1,1,0,0,1,0,1,1,1,1],[16,6,5,2,4]),([1,0,1,1,1,1],[6,2,4]),([0,0,1,1,1,1,1],[29,6,2,4]),(z1aj,[29,6,2,4]),([0,0,0,1,0,1,1,1,1,1],[30,29,6,2,4]),(z1h8,[29,6,2,4]),([1,0,1,0,0,1,0,1,1,1,1,1],[6,4]),([0,0,0,1,1,0,0,1,0,1,1,1,1,1],[8,6,2,29,4]),([1,0,0,1,1,0,0,1,0,1,1,1,1,1],[29,6,2,4]),([0,1,1,0,0,1,0,1,1,1,1,1],[29,6,2,4]),([1,1,1,0,0,1,0,1,1,1,1,1],[29,6,2,4]),([1,0,1,1,1,1,1],[6,4]),(z13k,[4]),([1,1,1,1,1,1,1],[4])]
def z1jj (N:Nat):Env:=z1c tys glob [(92,zgl N),(91,zcv N)] [] [] [] false [] [(52,z8 N)]
theorem z1j2 (N:Nat):EnvOk Tryd.prog (z1jj N):=zh mixed zz (FnsOk.cons (zq8 N) (FnsOk.cons (zkt N) (FnsOk.nil))) (ItsOk.cons (za N) (ItsOk.nil))
def zkx (N:Nat)(h:(List Int))(x4:(List Int))(w:(List Int))(v_:(List Int))(x16:Int)(rec:(List Int)->Int->Option (List Int))(k0:(List Int)->Option (List Int)):Option (List Int):=cond (decide (x16<64)) (cond (inR x16 64) (cond (inR x16 64) (cond (decide ((Int.toNat x16)<(List.length w))) ((zku N v_ (IntKind.wrap IntKind.u32 ((List.getD glob0 (Int.toNat x16) 0)+(List.getD w (Int.toNat x16) 0)))).bind fun y=>rec y (IntKind.wrap IntKind.i64 (x16+1))) none) none) none) (k0 v_)
def zsk (N:Nat)(h:(List Int))(x4:(List Int))(w:(List Int))(v_:(List Int))(x16:Int)(k0:(List Int)->Option (List Int)):Option (List Int):=iter (fun (v:((List Int)×Int)) r=>zkx N h x4 w v.1 v.2 (fun v_ x16=>(r (v_,x16))) k0) N (v_,x16)
def z1gn (N:Nat)(i:((List Int)×(List Int)×(List Int)))(v:((List Int)×Int))(r:((List Int)×Int)->Option (List Int))(K:Ex->List A->Option (List Int)):Option (List Int):=zkx N i.1 i.2.1 i.2.2 v.1 v.2 (fun v_ x16=>(r (v_,x16))) (fun a2=>(K (.exit 0) (mkS [(2,.box (.arr 8 (.int .u32))),(1,.box (.arr 8 (.int .u32))),(1,.box (.arr 8 (.int .u32)))] 35 (i.1,i.2.1,a2,()))))
def z1f2 (N:Nat):Hd (List Int):=fun st K=>(unS SQ15 25 (restr [16,6,5,2,4] 0 st)).bind fun x=>iter (fun v r=>z1gn N ((fun x=>(x.1,x.2.1,x.2.2.1)) x) v r K) N ((fun x=>(x.2.2.2.1,x.2.2.2.2.1)) x)
def t1_17 (N:Nat):Tab (List Int):=[]
theorem z1d3 {N:Nat}{c:Ctx}(hb:Base Tryd.prog (z1jj N) c):z10 Tryd.prog c (zl zmj zw1) (z1f2 N) :=
 z2t (s:=SQ15) (m:=25) (z1gn N) [16,6,5,2,4] N (fun x=>(x.1,x.2.1,x.2.2.1)) (fun x=>(x.2.2.2.1,x.2.2.2.2.1)) (fun i v=>(i.1,i.2.1,i.2.2,v.1,v.2,())) (fun _=>rfl) (zi hb N (t1_17 N) L_17 zmj TabOk.nil z1ai _ rfl) (fun i v r K=>by kernel_rfl)
def zkw (N:Nat)(h:(List Int))(x4:(List Int))(v_:(List Int))(x29:Int)(rec:(List Int)->Int->Option (List Int))(k0:(List Int)->Option (List Int)):Option (List Int):=cond (decide (x29<8)) (cond (inR x29 8) (cond (decide ((Int.toNat x29)<(List.length v_))) (cond (inR x29 8) (cond (decide ((Int.toNat x29)<(List.length h))) (cond (inR x29 8) (cond (decide ((Int.toNat x29)<(List.length v_))) (rec (List.set v_ (Int.toNat x29) (IntKind.wrap IntKind.u32 ((List.getD v_ (Int.toNat x29) 0)+(List.getD h (Int.toNat x29) 0)))) (IntKind.wrap IntKind.i64 (x29+1))) none) none) none) none) none) none) (k0 v_)
def zsj (N:Nat)(h:(List Int))(x4:(List Int))(v_:(List Int))(x29:Int)(k0:(List Int)->Option (List Int)):Option (List Int):=iter (fun (v:((List Int)×Int)) r=>zkw N h x4 v.1 v.2 (fun v_ x29=>(r (v_,x29))) k0) N (v_,x29)
def z1fq (N:Nat)(i:((List Int)×(List Int)))(v:((List Int)×Int))(r:((List Int)×Int)->Option (List Int))(K:Ex->List A->Option (List Int)):Option (List Int):=zkw N i.1 i.2 v.1 v.2 (fun v_ x29=>(r (v_,x29))) (fun a1=>(K (.exit 2) (mkS [(4,.box (.arr 8 (.int .u32))),(1,.box (.arr 8 (.int .u32)))] 35 (i.2,a1,()))))
def z1e5 (N:Nat):Hd (List Int):=fun st K=>(unS SQ24 12 (restr [29,6,2,4] 0 st)).bind fun x=>iter (fun v r=>z1fq N ((fun x=>(x.1,x.2.1)) x) v r K) N ((fun x=>(x.2.2.1,x.2.2.2.1)) x)
def t2_17 (N:Nat):Tab (List Int):=[]
theorem z1c6 {N:Nat}{c:Ctx}(hb:Base Tryd.prog (z1jj N) c):z10 Tryd.prog c (zl zmj z1aj) (z1e5 N) :=
 z2t (s:=SQ24) (m:=12) (z1fq N) [29,6,2,4] N (fun x=>(x.1,x.2.1)) (fun x=>(x.2.2.1,x.2.2.2.1)) (fun i v=>(i.1,i.2,v.1,v.2,())) (fun _=>rfl) (zi hb N (t2_17 N) L_17 zmj TabOk.nil [0,0,1,0,1,1,1,1,1] _ rfl) (fun i v r K=>by kernel_rfl)
def zbt (N:Nat)(h:(List Int))(block:(List UInt8)):Option (List Int):=cond ((List.length block:Int) != 64) (some h) ((zdi N block).bind fun y=>zsk N h ([0,0,0,0,0,0,0,0]:List Int) y h 0 (fun v_=>zsj N h ([0,0,0,0,0,0,0,0]:List Int) v_ 0 (fun v_1=>some v_1)))
def t_17 (N:Nat):Tab (List Int):=[(zw1,z1f2 N),(z1aj,z1e5 N)]
theorem z180 (N:Nat)(x:z1k z1ag):z3v (z1jj N) N (t_17 N) L_17 Tryd.f84 (mkS z1ag 0 x) (z1r (.v (.arr 8 (.int .u32))) 2)=zbt N x.1 x.2.1:=by kernel_rfl
def ziu (N:Nat):List A->Res:=z14 z1ag (fun x=>zbt N x.1 x.2.1) (z3r (.v (.arr 8 (.int .u32))) 2)
theorem zsl (N:Nat):Contract Tryd.prog glob 84 (ziu N) :=
 Contract.of (E:=z1jj N) (H:=t_17 N) (L:=L_17) (N:=N) (body:=zmj) (K:=(z1r (.v (.arr 8 (.int .u32))) 2)) (z1j2 N) Tryd.func84 (by kernel_rfl) (by decide) (fun _ hb=>(TabOk.cons (z1d3 hb) (TabOk.cons (z1c6 hb) TabOk.nil))) (fun x y h=>by rw[z180];exact h) (zq (s:=(.v (.arr 8 (.int .u32)))) (m:=2))
def zua:Code:=(Tryd.f74.body).getD .skip
def L_18:List (List Nat×List Nat):=[([0],[1,2,4]),([0,0,1],[5,1,2,4]),([0,1,0,1],[5,1,2,4]),([0,0,0,0,1,0,1],[9,2,1,5,4]),([1,0,0,0,1,0,1],[2,1,5,4]),([1,1,0,0,0,1,0,1],[2,4]),([0,0,1,0,0,1,0,1],[5,1,2,4]),([0,1,0,0,1,0,1],[5,1,2,4]),([1,1,0,0,1,0,1],[5,1,2,4]),([1,0,1],[2,4]),([0,1,1],[4]),([1,1,1],[4])]
def E_18 (N:Nat):Env:=z1c tys glob [(84,ziu N)] [] [] [] false [] [(52,z8 N)]
theorem z1j1 (N:Nat):EnvOk Tryd.prog (E_18 N):=zh mixed zz (FnsOk.cons (zsl N) (FnsOk.nil)) (ItsOk.cons (za N) (ItsOk.nil))
def zdf (N:Nat)(s:(List UInt8))(x4:(List Int))(h:(List Int))(i:Int)(rec:(List Int)->Int->Option (List Int))(k0:(List Int)->Option (List Int)):Option (List Int):=cond (decide (i<(List.length s:Int))) (cond (decide ((0<=(IntKind.wrap IntKind.i64 (i+64)))/\((IntKind.wrap IntKind.i64 (i+64))<=(List.length s:Int)))) (cond (decide ((0<=i)/\(i<=(IntKind.wrap IntKind.i64 (i+64))))) ((zbt N h (cut s (Int.toNat i) (Int.toNat (IntKind.wrap IntKind.i64 (i+64))))).bind fun y=>rec y (IntKind.wrap IntKind.i64 (i+64))) none) none) (k0 h)
def zit (N:Nat)(s:(List UInt8))(h:(List Int))(x4:(List Int))(i:Int)(k0:(List Int)->Option (List Int)):Option (List Int):=iter (fun (v:((List Int)×Int)) r=>zdf N s x4 v.1 v.2 (fun h i=>(r (h,i))) k0) N (h,i)
def z1gm (N:Nat)(i:((List UInt8)×(List Int)))(v:((List Int)×Int))(r:((List Int)×Int)->Option (List Int))(K:Ex->List A->Option (List Int)):Option (List Int):=zdf N i.1 i.2 v.1 v.2 (fun h i=>(r (h,i))) (fun a0=>(K (.exit 0) (mkS [(2,.box (.arr 8 (.int .u32))),(1,.box (.arr 8 (.int .u32)))] 15 (a0,i.2,()))))
def z1f1 (N:Nat):Hd (List Int):=fun st K=>(unS SQ39 14 (restr [5,1,2,4] 0 st)).bind fun x=>iter (fun v r=>z1gm N ((fun x=>(x.1,x.2.2.1)) x) v r K) N ((fun x=>(x.2.1,x.2.2.2.1)) x)
def t1_18 (N:Nat):Tab (List Int):=[]
theorem z1d2 {N:Nat}{c:Ctx}(hb:Base Tryd.prog (E_18 N) c):z10 Tryd.prog c (zl zua [0,1,0,1]) (z1f1 N) :=
 z2t (s:=SQ39) (m:=14) (z1gm N) [5,1,2,4] N (fun x=>(x.1,x.2.2.1)) (fun x=>(x.2.1,x.2.2.2.1)) (fun i v=>(i.1,v.1,i.2,v.2,())) (fun _=>rfl) (zi hb N (t1_18 N) L_18 zua TabOk.nil [0,0,1,0,1] _ rfl) (fun i v r K=>by kernel_rfl)
def z7v (N:Nat)(h:(List Int))(s:(List UInt8)):Option (List Int):=zit N s h ([0,0,0,0,0,0,0,0]:List Int) 0 (fun h1=>some h1)
def t_18 (N:Nat):Tab (List Int):=[([0,1,0,1],z1f1 N)]
theorem z17z (N:Nat)(x:z1k z1ag):z3v (E_18 N) N (t_18 N) L_18 Tryd.f74 (mkS z1ag 0 x) (z1r (.v (.arr 8 (.int .u32))) 2)=z7v N x.1 x.2.1:=by kernel_rfl
def z56 (N:Nat):List A->Res:=z14 z1ag (fun x=>z7v N x.1 x.2.1) (z3r (.v (.arr 8 (.int .u32))) 2)
theorem z7u (N:Nat):Contract Tryd.prog glob 74 (z56 N) :=
 Contract.of (E:=E_18 N) (H:=t_18 N) (L:=L_18) (N:=N) (body:=zua) (K:=(z1r (.v (.arr 8 (.int .u32))) 2)) (z1j1 N) Tryd.func74 (by kernel_rfl) (by decide) (fun _ hb=>(TabOk.cons (z1d2 hb) TabOk.nil)) (fun x y h=>by rw[z17z];exact h) (zq (s:=(.v (.arr 8 (.int .u32)))) (m:=2))
def zu9:Code:=(Tryd.f65.body).getD .skip
def L_19:List (List Nat×List Nat):=[([0,0],[14,0,1]),([1,0],[0,1]),([0,1,0],[0]),([0,1],[0,1]),([0,1,1],[4,0]),([0,1,1,1],[0,4,5]),([0,1,1,1,1],[0,4,5]),([1,1,1,1,1],[0])]
def E_19 (N:Nat):Env:=z1c tys glob [(74,z56 N)] [] [] [0] false [] [(52,z8 N)]
theorem z1j0 (N:Nat):EnvOk Tryd.prog (E_19 N):=zh mixed zz (FnsOk.cons (z7u N) (FnsOk.nil)) (ItsOk.cons (za N) (ItsOk.nil))
def z95 (N:Nat)(h:DT5)(s:(List UInt8))(k0:Option ((Unit)×(DT5×Unit)))(k1:Option ((Unit)×(DT5×Unit))):Option ((Unit)×(DT5×Unit)):=cond (!h.1) k0 k1
def z1gl (N:Nat)(x:z1k z19t)(K:Ex->List A->Option ((Unit)×(DT5×Unit))):Option ((Unit)×(DT5×Unit)):=z95 N x.1 x.2.1 (K .ret (mkS [(0,.box TT4)] 52 (x.1,()))) (K .normal (mkS z19t 51 (x.1,x.2.1,())))
def z1f0 (N:Nat):Hd ((Unit)×(DT5×Unit)):=fun st K=>(unS z19t 51 (restr [0,1] 0 st)).bind fun x=>z1gl N x K
def t1_19 (N:Nat):Tab ((Unit)×(DT5×Unit)):=[]
theorem z1d1 {N:Nat}{c:Ctx}(hb:Base Tryd.prog (E_19 N) c):z10 Tryd.prog c (zl zu9 [0]) (z1f0 N) :=
 z1h (s:=z19t) (m:=51) (g:=z1gl N) [0,1] (zi hb N (t1_19 N) L_19 zu9 TabOk.nil [0] _ rfl) (fun x K=>by kernel_rfl)
def z4q (N:Nat)(h:DT5)(s:(List UInt8)):Option ((Unit)×(DT5×Unit)):=z95 N h s (some ((),(h,()))) (cond (decide (((List.length h.2.2.1)+(List.length s))<=9223372036854775807)) (cond (decide ((0<=(IntKind.wrap IntKind.i64 ((List.length (h.2.2.1++s):Int) - (Int.tmod (List.length (h.2.2.1++s):Int) 64))))/\((IntKind.wrap IntKind.i64 ((List.length (h.2.2.1++s):Int) - (Int.tmod (List.length (h.2.2.1++s):Int) 64)))<=(List.length (h.2.2.1++s):Int)))) ((z7v N h.2.1 (cut (h.2.2.1++s) 0 (Int.toNat (IntKind.wrap IntKind.i64 ((List.length (h.2.2.1++s):Int) - (Int.tmod (List.length (h.2.2.1++s):Int) 64)))))).bind fun y=>cond (decide ((0<=(IntKind.wrap IntKind.i64 ((List.length (h.2.2.1++s):Int) - (Int.tmod (List.length (h.2.2.1++s):Int) 64))))/\((IntKind.wrap IntKind.i64 ((List.length (h.2.2.1++s):Int) - (Int.tmod (List.length (h.2.2.1++s):Int) 64)))<=(List.length (h.2.2.1++s):Int)))) (some ((),((h.1,(y,((cut (h.2.2.1++s) (Int.toNat (IntKind.wrap IntKind.i64 ((List.length (h.2.2.1++s):Int) - (Int.tmod (List.length (h.2.2.1++s):Int) 64)))) (List.length (h.2.2.1++s))),((IntKind.wrap IntKind.i64 (h.2.2.2.1+(List.length s:Int))),h.2.2.2.2)))),()))) none) none) none)
def t_19 (N:Nat):Tab ((Unit)×(DT5×Unit)):=[([0],z1f0 N)]
theorem z17y (N:Nat)(x:z1k z19t):z3v (E_19 N) N (t_19 N) L_19 Tryd.f65 (mkS z19t 0 x) (zbd (.tup []) [(0,.box TT4)] 1)=z4q N x.1 x.2.1:=by kernel_rfl
def zd0 (N:Nat):List A->Res:=z14 z19t (fun x=>z4q N x.1 x.2.1) (zi4 (.tup []) [(0,.box TT4)] 1)
theorem zkz (N:Nat):Contract Tryd.prog glob 65 (zd0 N) :=
 Contract.of (E:=E_19 N) (H:=t_19 N) (L:=L_19) (N:=N) (body:=zu9) (K:=(zbd (.tup []) [(0,.box TT4)] 1)) (z1j0 N) Tryd.func65 (by kernel_rfl) (by decide) (fun _ hb=>(TabOk.cons (z1d1 hb) TabOk.nil)) (fun x y h=>by rw[z17y];exact h) (z8m (s:=(.tup [])) (os:=[(0,.box TT4)]) (m:=1))
def zu8:Code:=(Tryd.f65.body).getD .skip
def L_20:List (List Nat×List Nat):=[([0,0],[14,0,1]),([1,0],[0,1]),([0,1,0],[]),([0,1],[0,1]),([0,1,1],[4,0]),([0,1,1,1],[0,4,5]),([0,1,1,1,1],[0,4,5]),([1,1,1,1,1],[])]
def E_20 (N:Nat):Env:=z1c tys glob [(74,z56 N)] [] [] [] false [] [(52,z8 N)]
theorem z1iz (N:Nat):EnvOk Tryd.prog (E_20 N):=zh mixed zz (FnsOk.cons (z7u N) (FnsOk.nil)) (ItsOk.cons (za N) (ItsOk.nil))
def z96 (N:Nat)(s:(List UInt8))(k0:Option Unit):Option Unit:=k0
def z1gk (N:Nat)(x:z1k [(0,.nilp),(0,.v .str)])(K:Ex->List A->Option Unit):Option Unit:=z96 N x.2.1 (K .ret (mkS [] 53 ()))
def z1ez (N:Nat):Hd (Unit):=fun st K=>(unS [(0,.nilp),(0,.v .str)] 51 (restr [0,1] 0 st)).bind fun x=>z1gk N x K
def t1_20 (N:Nat):Tab (Unit):=[]
theorem z1d0 {N:Nat}{c:Ctx}(hb:Base Tryd.prog (E_20 N) c):z10 Tryd.prog c (zl zu8 [0]) (z1ez N) :=
 z1h (s:=[(0,.nilp),(0,.v .str)]) (m:=51) (g:=z1gk N) [0,1] (zi hb N (t1_20 N) L_20 zu8 TabOk.nil [0] _ rfl) (fun x K=>by kernel_rfl)
def z86 (N:Nat)(s:(List UInt8)):Option Unit:=z96 N s (some ())
def t_20 (N:Nat):Tab (Unit):=[([0],z1ez N)]
theorem z17x (N:Nat)(x:z1k [(0,.nilp),(0,.v .str)]):z3v (E_20 N) N (t_20 N) L_20 Tryd.f65 (mkS [(0,.nilp),(0,.v .str)] 0 x) (z1r (.tup []) 2)=z86 N x.2.1:=by kernel_rfl
def zez (N:Nat):List A->Res:=z14 [(0,.nilp),(0,.v .str)] (fun x=>z86 N x.2.1) (z3r (.tup []) 2)
theorem zfu (N:Nat):Contract Tryd.prog glob 65 (zez N) :=
 Contract.of (E:=E_20 N) (H:=t_20 N) (L:=L_20) (N:=N) (body:=zu8) (K:=(z1r (.tup []) 2)) (z1iz N) Tryd.func65 (by kernel_rfl) (by decide) (fun _ hb=>(TabOk.cons (z1d0 hb) TabOk.nil)) (fun x y h=>by rw[z17x];exact h) (zq (s:=(.tup [])) (m:=2))
def z5o (N:Nat):List A->Res:=znl [(0,.nilp),(0,.v .str)] (fun x=>z86 N x.2.1) (z3r (.tup []) 2) (zd0 N)
theorem z77 (N:Nat):Contract Tryd.prog glob 65 (z5o N):=Contract.alt (zfu N) (zkz N)
def z19l:Code:=(Tryd.f47.body).getD .skip
def L_21:List (List Nat×List Nat):=[([0],[1,0]),([0,1],[1,0]),([0,0,1,1],[10,0,1]),([1,0,1,1],[0,1]),([0,0,1,0,1,1],[4]),([1,0,1,0,1,1],[4]),([0,1,1,1],[4]),([1,1,1,1],[4])]
def E_21 (N:Nat):Env:=z1c tys glob [] [] [] [] false [] [(52,z8 N)]
theorem z1iy (N:Nat):EnvOk Tryd.prog (E_21 N):=zh mixed zz (FnsOk.nil) (ItsOk.cons (za N) (ItsOk.nil))
def zba (N:Nat)(s:(List UInt8))(n:Int):Option (List UInt8):=cond (decide ((if ((65536:Int)<n) then (65536:Int) else n)<=(List.length s:Int))) (some s) (cond (decide (((0:Int)<=(IntKind.wrap IntKind.i64 ((if ((65536:Int)<n) then (65536:Int) else n) - (List.length s:Int))))/\(((IntKind.wrap IntKind.i64 ((if ((65536:Int)<n) then (65536:Int) else n) - (List.length s:Int)))<=(IntKind.wrap IntKind.i64 ((if ((65536:Int)<n) then (65536:Int) else n) - (List.length s:Int))))/\((((IntKind.wrap IntKind.i64 ((if ((65536:Int)<n) then (65536:Int) else n) - (List.length s:Int)))*(1:Int))<=(281474976710656:Int))/\((IntKind.wrap IntKind.i64 ((if ((65536:Int)<n) then (65536:Int) else n) - (List.length s:Int)))<=(9223372036854775807:Int)))))) (cond (decide (((List.length s)+(List.length (z43 (List.replicate (Int.toNat (IntKind.wrap IntKind.i64 ((if ((65536:Int)<n) then (65536:Int) else n) - (List.length s:Int)))) (0:Int)))))<=9223372036854775807)) (some (s++(z43 (List.replicate (Int.toNat (IntKind.wrap IntKind.i64 ((if ((65536:Int)<n) then (65536:Int) else n) - (List.length s:Int)))) (0:Int))))) none) none)
def t_21 (N:Nat):Tab (List UInt8):=[]
theorem z17w (N:Nat)(x:z1k [(0,.v .str),(0,.v (.int .i64))]):z3v (E_21 N) N (t_21 N) L_21 Tryd.f47 (mkS [(0,.v .str),(0,.v (.int .i64))] 0 x) (z1r (.v .str) 2)=zba N x.1 x.2.1:=by kernel_rfl
def zc2 (N:Nat):List A->Res:=z14 [(0,.v .str),(0,.v (.int .i64))] (fun x=>zba N x.1 x.2.1) (z3r (.v .str) 2)
theorem zj4 (N:Nat):Contract Tryd.prog glob 47 (zc2 N) :=
 Contract.of (E:=E_21 N) (H:=t_21 N) (L:=L_21) (N:=N) (body:=z19l) (K:=(z1r (.v .str) 2)) (z1iy N) Tryd.func47 (by kernel_rfl) (by decide) (fun _ hb=>TabOk.nil) (fun x y h=>by rw[z17w];exact h) (zq (s:=(.v .str)) (m:=2))
def zu7:Code:=(Tryd.f85.body).getD .skip
def L_22:List (List Nat×List Nat):=[([0],[1,0]),([0,1],[1,5,0]),([0,0,1,1],[10,9,5,0,1]),([0,1,0,1,1],[10,9,5,0,1]),(z14m,[11,10,5,0,1,9]),(z14n,[10,5,0,1,9]),(z19z,[5]),(z1a0,[5,6,0,1,10,9]),(z1al,[10,9,5,0,1]),(z19y,[10,9,5,0,1]),(z19x,[10,9,5,0,1]),([1,0,1,1],[5]),([0,1,1,1],[4]),([1,1,1,1],[4])]
def E_22 (N:Nat):Env:=z1c tys glob [] [(5,(.int .u8))] [] [] false [] [(52,z8 N)]
theorem z1ix (N:Nat):EnvOk Tryd.prog (E_22 N):=zh mixed zz (FnsOk.nil) (ItsOk.cons (za N) (ItsOk.nil))
def zcw (N:Nat)(n:Int)(size:Int)(x9:Int)(out:(List Int))(x10:Int)(rec:(List Int)->Int->Option (List UInt8))(k0:(List Int)->Option (List UInt8)):Option (List UInt8):=cond (decide (x10<x9)) (cond (decide (0<=(IntKind.wrap IntKind.i64 (8*(IntKind.wrap IntKind.i64 ((IntKind.wrap IntKind.i64 (size - 1)) - x10)))))) (cond (inR x10 (List.length out)) (cond (decide ((Int.toNat x10)<(List.length out))) (rec (List.set out (Int.toNat x10) (IntKind.wrap IntKind.u8 (zaw IntKind.u64 n (IntKind.wrap IntKind.i64 (8*(IntKind.wrap IntKind.i64 ((IntKind.wrap IntKind.i64 (size - 1)) - x10))))))) (IntKind.wrap IntKind.i64 (x10+1))) none) none) none) (k0 out)
def zjv (N:Nat)(n:Int)(size:Int)(out:(List Int))(x9:Int)(x10:Int)(k0:(List Int)->Option (List UInt8)):Option (List UInt8):=iter (fun (v:((List Int)×Int)) r=>zcw N n size x9 v.1 v.2 (fun out x10=>(r (out,x10))) k0) N (out,x10)
def z1gj (N:Nat)(i:(Int×Int×Int))(v:((List Int)×Int))(r:((List Int)×Int)->Option (List UInt8))(K:Ex->List A->Option (List UInt8)):Option (List UInt8):=zcw N i.1 i.2.1 i.2.2 v.1 v.2 (fun out x10=>(r (out,x10))) (fun a0=>(K (.exit 0) (mkS [(5,.row (.int .u8))] 21 (a0,()))))
def z1ey (N:Nat):Hd (List UInt8):=fun st K=>(unS SQ32 16 (restr [10,9,5,0,1] 0 st)).bind fun x=>iter (fun v r=>z1gj N ((fun x=>(x.1,x.2.1,x.2.2.2.1)) x) v r K) N ((fun x=>(x.2.2.1,x.2.2.2.2.1)) x)
def t1_22 (N:Nat):Tab (List UInt8):=[]
theorem z1cz {N:Nat}{c:Ctx}(hb:Base Tryd.prog (E_22 N) c):z10 Tryd.prog c (zl zu7 [0,1,0,1,1]) (z1ey N) :=
 z2t (s:=SQ32) (m:=16) (z1gj N) [10,9,5,0,1] N (fun x=>(x.1,x.2.1,x.2.2.2.1)) (fun x=>(x.2.2.1,x.2.2.2.2.1)) (fun i v=>(i.1,i.2.1,v.1,i.2.2,v.2,())) (fun _=>rfl) (zi hb N (t1_22 N) L_22 zu7 TabOk.nil [0,0,1,0,1,1] _ rfl) (fun i v r K=>by kernel_rfl)
def z57 (N:Nat)(n:Int)(size:Int):Option (List UInt8):=cond (decide (((0:Int)<=size)/\((size<=size)/\(((size*(1:Int))<=(281474976710656:Int))/\(size<=(9223372036854775807:Int)))))) (zjv N n size (List.replicate (Int.toNat size) (0:Int)) size (0:Int) (fun out=>some (z43 out))) none
def t_22 (N:Nat):Tab (List UInt8):=[([0,1,0,1,1],z1ey N)]
theorem z17v (N:Nat)(x:z1k [(0,.v (.int .u64)),(0,.v (.int .i64))]):z3v (E_22 N) N (t_22 N) L_22 Tryd.f85 (mkS [(0,.v (.int .u64)),(0,.v (.int .i64))] 0 x) (z1r (.v .str) 2)=z57 N x.1 x.2.1:=by kernel_rfl
def z7a (N:Nat):List A->Res:=z14 [(0,.v (.int .u64)),(0,.v (.int .i64))] (fun x=>z57 N x.1 x.2.1) (z3r (.v .str) 2)
theorem zcx (N:Nat):Contract Tryd.prog glob 85 (z7a N) :=
 Contract.of (E:=E_22 N) (H:=t_22 N) (L:=L_22) (N:=N) (body:=zu7) (K:=(z1r (.v .str) 2)) (z1ix N) Tryd.func85 (by kernel_rfl) (by decide) (fun _ hb=>(TabOk.cons (z1cz hb) TabOk.nil)) (fun x y h=>by rw[z17v];exact h) (zq (s:=(.v .str)) (m:=2))
def z19k:Code:=(Tryd.f76.body).getD .skip
def L_23:List (List Nat×List Nat):=[([0],[0]),([0,1],[3,0]),([0,1,1],[2]),([1,1,1],[2])]
def E_23 (N:Nat):Env:=z1c tys glob [(85,z7a N),(47,zc2 N)] [] [] [] false [] [(52,z8 N)]
theorem z1iw (N:Nat):EnvOk Tryd.prog (E_23 N):=zh mixed zz (FnsOk.cons (zcx N) (FnsOk.cons (zj4 N) (FnsOk.nil))) (ItsOk.cons (za N) (ItsOk.nil))
def zbr (N:Nat)(n:Int):Option (List UInt8):=(zba N ([(128:UInt8)]:List UInt8) (IntKind.wrap IntKind.i64 (1+(Int.tmod (IntKind.wrap IntKind.i64 (119 - (Int.tmod n 64))) 64)))).bind fun y=>(z57 N (IntKind.wrap IntKind.u64 (8*(IntKind.wrap IntKind.u64 n))) 8).bind fun y1=>cond (decide (((List.length y)+(List.length y1))<=9223372036854775807)) (some (y++y1)) none
def t_23 (N:Nat):Tab (List UInt8):=[]
theorem z17u (N:Nat)(x:z1k [(0,.v (.int .i64))]):z3v (E_23 N) N (t_23 N) L_23 Tryd.f76 (mkS [(0,.v (.int .i64))] 0 x) (z1r (.v .str) 1)=zbr N x.1:=by kernel_rfl
def z9x (N:Nat):List A->Res:=z14 [(0,.v (.int .i64))] (fun x=>zbr N x.1) (z3r (.v .str) 1)
theorem zfo (N:Nat):Contract Tryd.prog glob 76 (z9x N) :=
 Contract.of (E:=E_23 N) (H:=t_23 N) (L:=L_23) (N:=N) (body:=z19k) (K:=(z1r (.v .str) 1)) (z1iw N) Tryd.func76 (by kernel_rfl) (by decide) (fun _ hb=>TabOk.nil) (fun x y h=>by rw[z17u];exact h) (zq (s:=(.v .str)) (m:=1))
def zu6:Code:=(Tryd.f75.body).getD .skip
def L_24:List (List Nat×List Nat):=[([0],[1]),([0,1],[1,3]),([0,0,1,1],[7,6,3]),([0,1,0,1,1],[7,6,3]),(z14m,[8,6,7,3]),(z14n,[6,7,3]),(z19z,[3]),(z1a0,[3,5,7,6]),(z1al,[7,6,3]),(z19y,[7,6,3]),(z19x,[7,6,3]),([1,0,1,1],[3]),([0,1,1,1],[2]),([1,1,1,1],[2])]
def E_24 (N:Nat):Env:=z1c tys glob [(85,z7a N)] [] [] [] false [] [(52,z8 N)]
theorem z1iv (N:Nat):EnvOk Tryd.prog (E_24 N):=zh mixed zz (FnsOk.cons (zcx N) (FnsOk.nil)) (ItsOk.cons (za N) (ItsOk.nil))
def zkv (N:Nat)(x6:(List Int))(out:(List UInt8))(x7:Int)(rec:(List UInt8)->Int->Option (List UInt8))(k0:(List UInt8)->Option (List UInt8)):Option (List UInt8):=cond (decide (x7<8)) (cond (inR x7 8) ((z57 N (IntKind.wrap IntKind.u64 (List.getD x6 (Int.toNat x7) 0)) 4).bind fun y=>cond (decide (((List.length out)+(List.length y))<=9223372036854775807)) (rec (out++y) (IntKind.wrap IntKind.i64 (x7+1))) none) none) (k0 out)
def zsi (N:Nat)(out:(List UInt8))(x6:(List Int))(x7:Int)(k0:(List UInt8)->Option (List UInt8)):Option (List UInt8):=iter (fun (v:((List UInt8)×Int)) r=>zkv N x6 v.1 v.2 (fun out x7=>(r (out,x7))) k0) N (out,x7)
def z1gi (N:Nat)(i:(List Int))(v:((List UInt8)×Int))(r:((List UInt8)×Int)->Option (List UInt8))(K:Ex->List A->Option (List UInt8)):Option (List UInt8):=zkv N i v.1 v.2 (fun out x7=>(r (out,x7))) (fun a0=>(K (.exit 0) (mkS [(3,.v .str)] 13 (a0,()))))
def z1ex (N:Nat):Hd (List UInt8):=fun st K=>(unS [(3,.v .str),(2,.v (.arr 8 (.int .u32))),(0,.v (.int .i64))] 9 (restr [7,6,3] 0 st)).bind fun x=>iter (fun v r=>z1gi N ((fun x=>x.2.1) x) v r K) N ((fun x=>(x.1,x.2.2.1)) x)
def t1_24 (N:Nat):Tab (List UInt8):=[]
theorem z1cy {N:Nat}{c:Ctx}(hb:Base Tryd.prog (E_24 N) c):z10 Tryd.prog c (zl zu6 [0,1,0,1,1]) (z1ex N) :=
 z2t (s:=[(3,.v .str),(2,.v (.arr 8 (.int .u32))),(0,.v (.int .i64))]) (m:=9) (z1gi N) [7,6,3] N (fun x=>x.2.1) (fun x=>(x.1,x.2.2.1)) (fun i v=>(v.1,i,v.2,())) (fun _=>rfl) (zi hb N (t1_24 N) L_24 zu6 TabOk.nil [0,0,1,0,1,1] _ rfl) (fun i v r K=>by kernel_rfl)
def z8j (N:Nat)(h:(List Int)):Option (List UInt8):=zsi N [] h 0 (fun out=>some out)
def t_24 (N:Nat):Tab (List UInt8):=[([0,1,0,1,1],z1ex N)]
theorem z17t (N:Nat)(x:z1k [(0,.v (.arr 8 (.int .u32)))]):z3v (E_24 N) N (t_24 N) L_24 Tryd.f75 (mkS [(0,.v (.arr 8 (.int .u32)))] 0 x) (z1r (.v .str) 1)=z8j N x.1:=by kernel_rfl
def z9y (N:Nat):List A->Res:=z14 [(0,.v (.arr 8 (.int .u32)))] (fun x=>z8j N x.1) (z3r (.v .str) 1)
theorem zfq (N:Nat):Contract Tryd.prog glob 75 (z9y N) :=
 Contract.of (E:=E_24 N) (H:=t_24 N) (L:=L_24) (N:=N) (body:=zu6) (K:=(z1r (.v .str) 1)) (z1iv N) Tryd.func75 (by kernel_rfl) (by decide) (fun _ hb=>(TabOk.cons (z1cy hb) TabOk.nil)) (fun x y h=>by rw[z17t];exact h) (zq (s:=(.v .str)) (m:=1))
def zmi:Code:=(Tryd.f66.body).getD .skip
def L_25:List (List Nat×List Nat):=[([0],[0]),([0,0,1],[11,0]),([1,0,1],[0]),([0,0,1,0,1],[2,0]),([1,0,1,0,1],[2,0]),([0,1,1],[2,0]),([1,1,1],[2,0])]
def z1ji (N:Nat):Env:=z1c tys glob [(75,z9y N),(76,z9x N),(74,z56 N)] [] [] [0] false [] [(52,z8 N)]
theorem z1iu (N:Nat):EnvOk Tryd.prog (z1ji N):=zh mixed zz (FnsOk.cons (zfq N) (FnsOk.cons (zfo N) (FnsOk.cons (z7u N) (FnsOk.nil)))) (ItsOk.cons (za N) (ItsOk.nil))
def z84 (N:Nat)(h:DT5)(k0:Bool->Option zhq):Option zhq:=k0 (!h.1)
def z1fp (N:Nat)(x:z1k [(0,.box TT4)])(K:Ex->List A->Option zhq):Option zhq:=z84 N x.1 (fun a1=>(K .normal (mkS [(0,.box TT4),(10,.v .bool)] 17 (x.1,a1,()))))
def z1e4 (N:Nat):Hd zhq:=fun st K=>(unS [(0,.box TT4)] 28 (restr [0] 0 st)).bind fun x=>z1fp N x K
def t2_25 (N:Nat):Tab zhq:=[]
theorem z1c5 {N:Nat}{c:Ctx}(hb:Base Tryd.prog (z1ji N) c):z10 Tryd.prog c (zl zmi [0,0,1]) (z1e4 N) :=
 z1h (s:=[(0,.box TT4)]) (m:=28) (g:=z1fp N) [0] (zi hb N (t2_25 N) L_25 zmi TabOk.nil [0,0,1] _ rfl) (fun x K=>by kernel_rfl)
def z85 (N:Nat)(h:DT5)(k0:Option zhq):Option zhq:=z84 N h (fun x11=>cond x11 none k0)
def z1gh (N:Nat)(x:z1k [(0,.box TT4)])(K:Ex->List A->Option zhq):Option zhq:=z85 N x.1 (K .normal (mkS [(0,.box TT4)] 28 (x.1,())))
def z1ew (N:Nat):Hd zhq:=fun st K=>(unS [(0,.box TT4)] 28 (restr [0] 0 st)).bind fun x=>z1gh N x K
def t1_25 (N:Nat):Tab zhq:=[([0,0,1],z1e4 N)]
theorem z1cx {N:Nat}{c:Ctx}(hb:Base Tryd.prog (z1ji N) c):z10 Tryd.prog c (zl zmi [0,1]) (z1ew N) :=
 z1h (s:=[(0,.box TT4)]) (m:=28) (g:=z1gh N) [0] (zi hb N (t1_25 N) L_25 zmi (TabOk.cons (z1c5 hb) TabOk.nil) [0,1] _ rfl) (fun x K=>by kernel_rfl)
def z6n (N:Nat)(h:DT5):Option zhq:=z85 N h ((zbr N h.2.2.2.1).bind fun y=>cond (decide (((List.length h.2.2.1)+(List.length y))<=9223372036854775807)) ((z7v N h.2.1 (h.2.2.1++y)).bind fun y1=>(z8j N y1).bind fun y2=>some (y2,(h,()))) none)
def t_25 (N:Nat):Tab zhq:=[([0,1],z1ew N)]
theorem z17s (N:Nat)(x:z1k [(0,.box TT4)]):z3v (z1ji N) N (t_25 N) L_25 Tryd.f66 (mkS [(0,.box TT4)] 0 x) (zbd (.v .str) [(0,.box TT4)] 0)=z6n N x.1:=by kernel_rfl
def z7b (N:Nat):List A->Res:=z14 [(0,.box TT4)] (fun x=>z6n N x.1) (zi4 (.v .str) [(0,.box TT4)] 0)
theorem zcz (N:Nat):Contract Tryd.prog glob 66 (z7b N) :=
 Contract.of (E:=z1ji N) (H:=t_25 N) (L:=L_25) (N:=N) (body:=zmi) (K:=(zbd (.v .str) [(0,.box TT4)] 0)) (z1iu N) Tryd.func66 (by kernel_rfl) (by decide) (fun _ hb=>(TabOk.cons (z1cx hb) TabOk.nil)) (fun x y h=>by rw[z17s];exact h) (z8m (s:=(.v .str)) (os:=[(0,.box TT4)]) (m:=0))
def z19j:Code:=(Tryd.f46.body).getD .skip
def L_26:List (List Nat×List Nat):=[([0],[0]),([0,1],[3,0]),([0,1,1],[3]),([0,1,1,1],[2]),([1,1,1,1],[2])]
def E_26 (N:Nat):Env:=z1c tys glob [(66,z7b N),(65,z5o N),(64,zfs N)] [] [] [] false [] [(52,z8 N)]
theorem z1it (N:Nat):EnvOk Tryd.prog (E_26 N):=zh mixed zz (FnsOk.cons (zcz N) (FnsOk.cons (z77 N) (FnsOk.cons (zng N) (FnsOk.nil)))) (ItsOk.cons (za N) (ItsOk.nil))
def zfr (N:Nat)(s:(List UInt8)):Option (List UInt8):=(z4q N (true,(([1779033703,3144134277,1013904242,2773480762,1359893119,2600822924,528734635,1541459225]:List Int),([],(0,())))) s).bind fun y=>(z6n N y.2.1).bind fun y1=>some y1.1
def t_26 (N:Nat):Tab (List UInt8):=[]
theorem z17r (N:Nat)(x:z1k [(0,.v .str)]):z3v (E_26 N) N (t_26 N) L_26 Tryd.f46 (mkS [(0,.v .str)] 0 x) (z1r (.v .str) 1)=zfr N x.1:=by kernel_rfl
def zbs (N:Nat):List A->Res:=z14 [(0,.v .str)] (fun x=>zfr N x.1) (z3r (.v .str) 1)
theorem zhx (N:Nat):Contract Tryd.prog glob 46 (zbs N) :=
 Contract.of (E:=E_26 N) (H:=t_26 N) (L:=L_26) (N:=N) (body:=z19j) (K:=(z1r (.v .str) 1)) (z1it N) Tryd.func46 (by kernel_rfl) (by decide) (fun _ hb=>TabOk.nil) (fun x y h=>by rw[z17r];exact h) (zq (s:=(.v .str)) (m:=1))
def zmh:Code:=(Tryd.f66.body).getD .skip
def L_27:List (List Nat×List Nat):=[([0],[0]),([0,0,1],[11,0]),([1,0,1],[0]),([0,0,1,0,1],[2,0]),([1,0,1,0,1],[2,0]),([0,1,1],[2,0]),([1,1,1],[2,0])]
def z1jh (N:Nat):Env:=z1c tys glob [(46,zbs N),(75,z9y N),(76,z9x N),(74,z56 N)] [] [] [0] false [] [(52,z8 N)]
theorem z1is (N:Nat):EnvOk Tryd.prog (z1jh N):=zh mixed zz (FnsOk.cons (zhx N) (FnsOk.cons (zfq N) (FnsOk.cons (zfo N) (FnsOk.cons (z7u N) (FnsOk.nil))))) (ItsOk.cons (za N) (ItsOk.nil))
def z91 (N:Nat)(h:DT5)(k0:Bool->Option zhq):Option zhq:=k0 (!h.1)
def z1fo (N:Nat)(x:z1k [(0,.box TT4)])(K:Ex->List A->Option zhq):Option zhq:=z91 N x.1 (fun a1=>(K .normal (mkS [(0,.box TT4),(10,.v .bool)] 17 (x.1,a1,()))))
def z1e3 (N:Nat):Hd zhq:=fun st K=>(unS [(0,.box TT4)] 28 (restr [0] 0 st)).bind fun x=>z1fo N x K
def t2_27 (N:Nat):Tab zhq:=[]
theorem z1c4 {N:Nat}{c:Ctx}(hb:Base Tryd.prog (z1jh N) c):z10 Tryd.prog c (zl zmh [0,0,1]) (z1e3 N) :=
 z1h (s:=[(0,.box TT4)]) (m:=28) (g:=z1fo N) [0] (zi hb N (t2_27 N) L_27 zmh TabOk.nil [0,0,1] _ rfl) (fun x K=>by kernel_rfl)
def z92 (N:Nat)(h:DT5)(k0:(List UInt8)->Option zhq)(k1:Option zhq):Option zhq:=z91 N h (fun x11=>cond x11 ((zfr N []).bind fun y=>k0 y) k1)
def z1gg (N:Nat)(x:z1k [(0,.box TT4)])(K:Ex->List A->Option zhq):Option zhq:=z92 N x.1 (fun a1=>(K .ret (mkS [(0,.box TT4),(1,.v .str)] 26 (x.1,a1,())))) (K .normal (mkS [(0,.box TT4)] 28 (x.1,())))
def z1ev (N:Nat):Hd zhq:=fun st K=>(unS [(0,.box TT4)] 28 (restr [0] 0 st)).bind fun x=>z1gg N x K
def t1_27 (N:Nat):Tab zhq:=[([0,0,1],z1e3 N)]
theorem z1cw {N:Nat}{c:Ctx}(hb:Base Tryd.prog (z1jh N) c):z10 Tryd.prog c (zl zmh [0,1]) (z1ev N) :=
 z1h (s:=[(0,.box TT4)]) (m:=28) (g:=z1gg N) [0] (zi hb N (t1_27 N) L_27 zmh (TabOk.cons (z1c4 hb) TabOk.nil) [0,1] _ rfl) (fun x K=>by kernel_rfl)
def z6b (N:Nat)(h:DT5):Option zhq:=z92 N h (fun x2=>some (x2,(h,()))) ((zbr N h.2.2.2.1).bind fun y=>cond (decide (((List.length h.2.2.1)+(List.length y))<=9223372036854775807)) ((z7v N h.2.1 (h.2.2.1++y)).bind fun y1=>(z8j N y1).bind fun y2=>some (y2,(h,()))) none)
def t_27 (N:Nat):Tab zhq:=[([0,1],z1ev N)]
theorem z17q (N:Nat)(x:z1k [(0,.box TT4)]):z3v (z1jh N) N (t_27 N) L_27 Tryd.f66 (mkS [(0,.box TT4)] 0 x) (zbd (.v .str) [(0,.box TT4)] 0)=z6b N x.1:=by kernel_rfl
def zjw (N:Nat):List A->Res:=z14 [(0,.box TT4)] (fun x=>z6b N x.1) (zi4 (.v .str) [(0,.box TT4)] 0)
theorem zky (N:Nat):Contract Tryd.prog glob 66 (zjw N) :=
 Contract.of (E:=z1jh N) (H:=t_27 N) (L:=L_27) (N:=N) (body:=zmh) (K:=(zbd (.v .str) [(0,.box TT4)] 0)) (z1is N) Tryd.func66 (by kernel_rfl) (by decide) (fun _ hb=>(TabOk.cons (z1cw hb) TabOk.nil)) (fun x y h=>by rw[z17q];exact h) (z8m (s:=(.v .str)) (os:=[(0,.box TT4)]) (m:=0))
def zcy (N:Nat):List A->Res:=znl [(0,.box TT4)] (fun x=>z6b N x.1) (zi4 (.v .str) [(0,.box TT4)] 0) (z7b N)
theorem zgm (N:Nat):Contract Tryd.prog glob 66 (zcy N):=Contract.alt (zky N) (zcz N)
def zmg:Code:=(Tryd.f66.body).getD .skip
def L_28:List (List Nat×List Nat):=[([0],[0]),([0,0,1],[11,0]),([1,0,1],[0]),([0,0,1,0,1],[2]),([1,0,1,0,1],[2]),([0,1,1],[2]),([1,1,1],[2])]
def z1jg (N:Nat):Env:=z1c tys glob [(46,zbs N),(75,z9y N),(76,z9x N),(74,z56 N)] [] [] [] false [] [(52,z8 N)]
theorem z1ir (N:Nat):EnvOk Tryd.prog (z1jg N):=zh mixed zz (FnsOk.cons (zhx N) (FnsOk.cons (zfq N) (FnsOk.cons (zfo N) (FnsOk.cons (z7u N) (FnsOk.nil))))) (ItsOk.cons (za N) (ItsOk.nil))
def z93 (N:Nat)(k0:Bool->Option (List UInt8)):Option (List UInt8):=k0 true
def z1fn (N:Nat)(x:z1k [(0,.nilp)])(K:Ex->List A->Option (List UInt8)):Option (List UInt8):=z93 N (fun a0=>(K .normal (mkS [(0,.nilp),(10,.v .bool)] 17 ((),a0,()))))
def z1e2 (N:Nat):Hd (List UInt8):=fun st K=>(unS [(0,.nilp)] 28 (restr [0] 0 st)).bind fun x=>z1fn N x K
def t2_28 (N:Nat):Tab (List UInt8):=[]
theorem z1c3 {N:Nat}{c:Ctx}(hb:Base Tryd.prog (z1jg N) c):z10 Tryd.prog c (zl zmg [0,0,1]) (z1e2 N) :=
 z1h (s:=[(0,.nilp)]) (m:=28) (g:=z1fn N) [0] (zi hb N (t2_28 N) L_28 zmg TabOk.nil [0,0,1] _ rfl) (fun x K=>by kernel_rfl)
def z94 (N:Nat)(k0:(List UInt8)->Option (List UInt8))(k1:Option (List UInt8)):Option (List UInt8):=z93 N (fun x11=>cond x11 ((zfr N []).bind fun y=>k0 y) k1)
def z1gf (N:Nat)(x:z1k [(0,.nilp)])(K:Ex->List A->Option (List UInt8)):Option (List UInt8):=z94 N (fun a0=>(K .ret (mkS [(2,.v .str)] 26 (a0,())))) (K .normal (mkS [(0,.nilp)] 28 ((),())))
def z1eu (N:Nat):Hd (List UInt8):=fun st K=>(unS [(0,.nilp)] 28 (restr [0] 0 st)).bind fun x=>z1gf N x K
def t1_28 (N:Nat):Tab (List UInt8):=[([0,0,1],z1e2 N)]
theorem z1cv {N:Nat}{c:Ctx}(hb:Base Tryd.prog (z1jg N) c):z10 Tryd.prog c (zl zmg [0,1]) (z1eu N) :=
 z1h (s:=[(0,.nilp)]) (m:=28) (g:=z1gf N) [0] (zi hb N (t1_28 N) L_28 zmg (TabOk.cons (z1c3 hb) TabOk.nil) [0,1] _ rfl) (fun x K=>by kernel_rfl)
def z83 (N:Nat):Option (List UInt8):=z94 N (fun x2=>some x2) none
def t_28 (N:Nat):Tab (List UInt8):=[([0,1],z1eu N)]
theorem z17p (N:Nat)(x:z1k [(0,.nilp)]):z3v (z1jg N) N (t_28 N) L_28 Tryd.f66 (mkS [(0,.nilp)] 0 x) (z1r (.v .str) 1)=z83 N:=by kernel_rfl
def zey (N:Nat):List A->Res:=z14 [(0,.nilp)] (fun x=>z83 N) (z3r (.v .str) 1)
theorem zft (N:Nat):Contract Tryd.prog glob 66 (zey N) :=
 Contract.of (E:=z1jg N) (H:=t_28 N) (L:=L_28) (N:=N) (body:=zmg) (K:=(z1r (.v .str) 1)) (z1ir N) Tryd.func66 (by kernel_rfl) (by decide) (fun _ hb=>(TabOk.cons (z1cv hb) TabOk.nil)) (fun x y h=>by rw[z17p];exact h) (zq (s:=(.v .str)) (m:=1))
def z8d (N:Nat):List A->Res:=znl [(0,.nilp)] (fun x=>z83 N) (z3r (.v .str) 1) (zcy N)
theorem zd5 (N:Nat):Contract Tryd.prog glob 66 (z8d N):=Contract.alt (zft N) (zgm N)
def zu5:Code:=(Tryd.f50.body).getD .skip
def L_37:List (List Nat×List Nat):=[([0],[0,1]),([0,1],[5,0,1]),([0,0,1,1],[15,14,5,0,1]),([0,1,0,1,1],[15,14,5,0,1]),(z14m,[16,15,5,0,1,14]),(z14n,[15,5,0,1,14]),(z19z,[5]),(z1a0,[5,6,0,1,15,14]),(z1al,[15,14,5,0,1]),(z19y,[15,14,5,0,1]),(z19x,[15,14,5,0,1]),([1,0,1,1],[5]),([0,1,1,1],[4]),([1,1,1,1],[4])]
def E_37 (N:Nat):Env:=z1c tys glob [] [(5,(.int .u8))] [] [] false [] [(52,z8 N)]
theorem z1iq (N:Nat):EnvOk Tryd.prog (E_37 N):=zh mixed zz (FnsOk.nil) (ItsOk.cons (za N) (ItsOk.nil))
def zdn (N:Nat)(a:(List UInt8))(b:(List UInt8))(x14:Int)(out:(List Int))(x15:Int)(rec:(List Int)->Int->Option (List UInt8))(k0:(List Int)->Option (List UInt8)):Option (List UInt8):=cond (decide (x15<x14)) (cond (inR x15 (List.length a)) (cond (inR x15 (List.length b)) (cond (inR x15 (List.length out)) (cond (decide ((Int.toNat x15)<(List.length out))) (rec (List.set out (Int.toNat x15) (zu Go.BinOp.xor IntKind.u8 (UInt8.toNat (List.getD a (Int.toNat x15) (0:UInt8)):Int) (UInt8.toNat (List.getD b (Int.toNat x15) (0:UInt8)):Int))) (IntKind.wrap IntKind.i64 (x15+1))) none) none) none) none) (k0 out)
def zj2 (N:Nat)(a:(List UInt8))(b:(List UInt8))(out:(List Int))(x14:Int)(x15:Int)(k0:(List Int)->Option (List UInt8)):Option (List UInt8):=iter (fun (v:((List Int)×Int)) r=>zdn N a b x14 v.1 v.2 (fun out x15=>(r (out,x15))) k0) N (out,x15)
def z1ge (N:Nat)(i:((List UInt8)×(List UInt8)×Int))(v:((List Int)×Int))(r:((List Int)×Int)->Option (List UInt8))(K:Ex->List A->Option (List UInt8)):Option (List UInt8):=zdn N i.1 i.2.1 i.2.2 v.1 v.2 (fun out x15=>(r (out,x15))) (fun a0=>(K (.exit 0) (mkS [(5,.row (.int .u8))] 25 (a0,()))))
def z1et (N:Nat):Hd (List UInt8):=fun st K=>(unS SQ50 15 (restr [15,14,5,0,1] 0 st)).bind fun x=>iter (fun v r=>z1ge N ((fun x=>(x.1,x.2.1,x.2.2.2.1)) x) v r K) N ((fun x=>(x.2.2.1,x.2.2.2.2.1)) x)
def t1_37 (N:Nat):Tab (List UInt8):=[]
theorem z1cu {N:Nat}{c:Ctx}(hb:Base Tryd.prog (E_37 N) c):z10 Tryd.prog c (zl zu5 [0,1,0,1,1]) (z1et N) :=
 z2t (s:=SQ50) (m:=15) (z1ge N) [15,14,5,0,1] N (fun x=>(x.1,x.2.1,x.2.2.2.1)) (fun x=>(x.2.2.1,x.2.2.2.2.1)) (fun i v=>(i.1,i.2.1,v.1,i.2.2,v.2,())) (fun _=>rfl) (zi hb N (t1_37 N) L_37 zu5 TabOk.nil [0,0,1,0,1,1] _ rfl) (fun i v r K=>by kernel_rfl)
def zb9 (N:Nat)(a:(List UInt8))(b:(List UInt8)):Option (List UInt8):=cond (decide (((0:Int)<=(if ((List.length b:Int)<(List.length a:Int)) then (List.length b:Int) else (List.length a:Int)))/\(((if ((List.length b:Int)<(List.length a:Int)) then (List.length b:Int) else (List.length a:Int))<=(if ((List.length b:Int)<(List.length a:Int)) then (List.length b:Int) else (List.length a:Int)))/\((((if ((List.length b:Int)<(List.length a:Int)) then (List.length b:Int) else (List.length a:Int))*(1:Int))<=(281474976710656:Int))/\((if ((List.length b:Int)<(List.length a:Int)) then (List.length b:Int) else (List.length a:Int))<=(9223372036854775807:Int)))))) (zj2 N a b (List.replicate (Int.toNat (if ((List.length b:Int)<(List.length a:Int)) then (List.length b:Int) else (List.length a:Int))) (0:Int)) (((List.length (List.replicate (Int.toNat (if ((List.length b:Int)<(List.length a:Int)) then (List.length b:Int) else (List.length a:Int))) (0:Int))):Nat):Int) (0:Int) (fun out=>some (z43 out))) none
def t_37 (N:Nat):Tab (List UInt8):=[([0,1,0,1,1],z1et N)]
theorem z17o (N:Nat)(x:z1k SQ2):z3v (E_37 N) N (t_37 N) L_37 Tryd.f50 (mkS SQ2 0 x) (z1r (.v .str) 2)=zb9 N x.1 x.2.1:=by kernel_rfl
def zc1 (N:Nat):List A->Res:=z14 SQ2 (fun x=>zb9 N x.1 x.2.1) (z3r (.v .str) 2)
theorem zj3 (N:Nat):Contract Tryd.prog glob 50 (zc1 N) :=
 Contract.of (E:=E_37 N) (H:=t_37 N) (L:=L_37) (N:=N) (body:=zu5) (K:=(z1r (.v .str) 2)) (z1iq N) Tryd.func50 (by kernel_rfl) (by decide) (fun _ hb=>(TabOk.cons (z1cu hb) TabOk.nil)) (fun x y h=>by rw[z17o];exact h) (zq (s:=(.v .str)) (m:=2))
def z19i:Code:=(Tryd.f48.body).getD .skip
def L_38:List (List Nat×List Nat):=[([0],[0,1,2]),([0,1],[7,0,1,2]),([0,1,1],[7,2]),([0,1,1,1],[7]),([0,1,1,1,1],[6]),([1,1,1,1,1],[6])]
def E_38 (N:Nat):Env:=z1c tys glob [(50,zc1 N),(66,z8d N),(65,z5o N),(64,zfs N),(67,znm)] [] [] [] false [] [(52,z8 N)]
theorem z1ip (N:Nat):EnvOk Tryd.prog (E_38 N):=zh mixed zz (FnsOk.cons (zj3 N) (FnsOk.cons (zd5 N) (FnsOk.cons (z77 N) (FnsOk.cons (zng N) (FnsOk.cons (zyn glob) (FnsOk.nil)))))) (ItsOk.cons (za N) (ItsOk.nil))
def z8v (N:Nat)(key:(List UInt8))(mask:(List UInt8))(text:(List UInt8)):Option (List UInt8):=(zk6 (mask,(64,()))).bind fun y=>(zb9 N key y).bind fun y1=>(z4q N (true,(([1779033703,3144134277,1013904242,2773480762,1359893119,2600822924,528734635,1541459225]:List Int),([],(0,())))) y1).bind fun y2=>(z4q N y2.2.1 text).bind fun y3=>(z6b N y3.2.1).bind fun y4=>some y4.1
def t_38 (N:Nat):Tab (List UInt8):=[]
theorem z17n (N:Nat)(x:z1k z13i):z3v (E_38 N) N (t_38 N) L_38 Tryd.f48 (mkS z13i 0 x) (z1r (.v .str) 3)=z8v N x.1 x.2.1 x.2.2.1:=by kernel_rfl
def zff (N:Nat):List A->Res:=z14 z13i (fun x=>z8v N x.1 x.2.1 x.2.2.1) (z3r (.v .str) 3)
theorem zp5 (N:Nat):Contract Tryd.prog glob 48 (zff N) :=
 Contract.of (E:=E_38 N) (H:=t_38 N) (L:=L_38) (N:=N) (body:=z19i) (K:=(z1r (.v .str) 3)) (z1ip N) Tryd.func48 (by kernel_rfl) (by decide) (fun _ hb=>TabOk.nil) (fun x y h=>by rw[z17n];exact h) (zq (s:=(.v .str)) (m:=3))
def zu4:Code:=(Tryd.f26.body).getD .skip
def L_39:List (List Nat×List Nat):=[([0],[0,1]),([0,0,1],[8,0,1]),([1,0,1],[0,1]),([0,1,0,1],[0,1]),([0,1,1],[0,1]),([0,1,1,1],[0,5]),([0,1,1,1,1],[4]),([1,1,1,1,1],[4])]
def E_39 (N:Nat):Env:=z1c tys glob [(48,zff N),(46,zbs N),(47,zc2 N)] [] [] [] false [] [(52,z8 N)]
theorem z1io (N:Nat):EnvOk Tryd.prog (E_39 N):=zh mixed zz (FnsOk.cons (zp5 N) (FnsOk.cons (zhx N) (FnsOk.cons (zj4 N) (FnsOk.nil)))) (ItsOk.cons (za N) (ItsOk.nil))
def zcd (N:Nat)(key:(List UInt8))(text:(List UInt8))(k0:(List UInt8)->Option (List UInt8)):Option (List UInt8):=cond (decide (64<(List.length key:Int))) ((zfr N key).bind fun y=>k0 y) (k0 key)
def z1gd (N:Nat)(x:z1k SQ2)(K:Ex->List A->Option (List UInt8)):Option (List UInt8):=zcd N x.1 x.2.1 (fun a0=>(K .normal (mkS SQ2 17 (a0,x.2.1,()))))
def z1es (N:Nat):Hd (List UInt8):=fun st K=>(unS SQ2 17 (restr [0,1] 0 st)).bind fun x=>z1gd N x K
def t1_39 (N:Nat):Tab (List UInt8):=[]
theorem z1ct {N:Nat}{c:Ctx}(hb:Base Tryd.prog (E_39 N) c):z10 Tryd.prog c (zl zu4 [0,1]) (z1es N) :=
 z1h (s:=SQ2) (m:=17) (g:=z1gd N) [0,1] (zi hb N (t1_39 N) L_39 zu4 TabOk.nil [0,1] _ rfl) (fun x K=>by kernel_rfl)
def zep (N:Nat)(key:(List UInt8))(text:(List UInt8)):Option (List UInt8):=zcd N key text (fun zxp=>(zba N zxp 64).bind fun y=>(z8v N y ([(54:UInt8)]:List UInt8) text).bind fun y1=>(z8v N y ([(92:UInt8)]:List UInt8) y1).bind fun y2=>some y2)
def t_39 (N:Nat):Tab (List UInt8):=[([0,1],z1es N)]
theorem z17m (N:Nat)(x:z1k SQ2):z3v (E_39 N) N (t_39 N) L_39 Tryd.f26 (mkS SQ2 0 x) (z1r (.v .str) 2)=zep N x.1 x.2.1:=by kernel_rfl
def ze0 (N:Nat):List A->Res:=z14 SQ2 (fun x=>zep N x.1 x.2.1) (z3r (.v .str) 2)
theorem zm0 (N:Nat):Contract Tryd.prog glob 26 (ze0 N) :=
 Contract.of (E:=E_39 N) (H:=t_39 N) (L:=L_39) (N:=N) (body:=zu4) (K:=(z1r (.v .str) 2)) (z1io N) Tryd.func26 (by kernel_rfl) (by decide) (fun _ hb=>(TabOk.cons (z1ct hb) TabOk.nil)) (fun x y h=>by rw[z17m];exact h) (zq (s:=(.v .str)) (m:=2))
def z19h:Code:=(Tryd.f14.body).getD .skip
def L_40:List (List Nat×List Nat):=[([0],[0,1]),([0,1],[4]),([1,1],[4])]
def E_40 (N:Nat):Env:=z1c tys glob [(26,ze0 N),(18,zap N)] [] [] [] false [] [(52,z8 N)]
theorem z1in (N:Nat):EnvOk Tryd.prog (E_40 N):=zh mixed zz (FnsOk.cons (zm0 N) (FnsOk.cons (zhb N) (FnsOk.nil))) (ItsOk.cons (za N) (ItsOk.nil))
def z27 (N:Nat)(key:(List UInt8))(parts:(List (List UInt8))):Option (List UInt8):=(z6g N parts).bind fun y=>(zep N key y).bind fun y1=>some y1
def t_40 (N:Nat):Tab (List UInt8):=[]
theorem z17l (N:Nat)(x:z1k [(0,.v .str),(0,.v (.sl .str))]):z3v (E_40 N) N (t_40 N) L_40 Tryd.f14 (mkS [(0,.v .str),(0,.v (.sl .str))] 0 x) (z1r (.v .str) 2)=z27 N x.1 x.2.1:=by kernel_rfl
def z2u (N:Nat):List A->Res:=z14 [(0,.v .str),(0,.v (.sl .str))] (fun x=>z27 N x.1 x.2.1) (z3r (.v .str) 2)
theorem z47 (N:Nat):Contract Tryd.prog glob 14 (z2u N) :=
 Contract.of (E:=E_40 N) (H:=t_40 N) (L:=L_40) (N:=N) (body:=z19h) (K:=(z1r (.v .str) 2)) (z1in N) Tryd.func14 (by kernel_rfl) (by decide) (fun _ hb=>TabOk.nil) (fun x y h=>by rw[z17l];exact h) (zq (s:=(.v .str)) (m:=2))
def z19g:Code:=(Tryd.f5.body).getD .skip
def L_41:List (List Nat×List Nat):=[([0],[0,1]),([0,1],[4]),([1,1],[4])]
def E_41 (N:Nat):Env:=z1c tys glob [(14,z2u N)] [] [] [] false [] [(52,z8 N)]
theorem z1im (N:Nat):EnvOk Tryd.prog (E_41 N):=zh mixed zz (FnsOk.cons (z47 N) (FnsOk.nil)) (ItsOk.cons (za N) (ItsOk.nil))
def z4j (N:Nat)(key:(List UInt8))(id_:(List UInt8)):Option (List UInt8):=(z27 N key ([([(114:UInt8),(111:UInt8),(111:UInt8),(116:UInt8)]:List UInt8),id_]:List (List UInt8))).bind fun y=>some y
def t_41 (N:Nat):Tab (List UInt8):=[]
theorem z17k (N:Nat)(x:z1k SQ2):z3v (E_41 N) N (t_41 N) L_41 Tryd.f5 (mkS SQ2 0 x) (z1r (.v .str) 2)=z4j N x.1 x.2.1:=by kernel_rfl
def z4i (N:Nat):List A->Res:=z14 SQ2 (fun x=>z4j N x.1 x.2.1) (z3r (.v .str) 2)
theorem z73 (N:Nat):Contract Tryd.prog glob 5 (z4i N) :=
 Contract.of (E:=E_41 N) (H:=t_41 N) (L:=L_41) (N:=N) (body:=z19g) (K:=(z1r (.v .str) 2)) (z1im N) Tryd.func5 (by kernel_rfl) (by decide) (fun _ hb=>TabOk.nil) (fun x y h=>by rw[z17k];exact h) (zq (s:=(.v .str)) (m:=2))
def z19f:Code:=(Tryd.f49.body).getD .skip
def L_42:List (List Nat×List Nat):=[([0],[3,0]),([0,0,1],[7,0,3]),([1,0,1],[0,3]),([0,0,1,0,1],[4]),([1,0,1,0,1],[4]),([0,1,1],[4]),([1,1,1],[4])]
def E_42 (N:Nat):Env:=z1c tys glob [(14,z2u N)] [] [] [] false [] [(52,z8 N)]
theorem z1il (N:Nat):EnvOk Tryd.prog (E_42 N):=zh mixed zz (FnsOk.cons (z47 N) (FnsOk.nil)) (ItsOk.cons (za N) (ItsOk.nil))
def z4h (N:Nat)(t:(List UInt8))(l:DT6):Option (List UInt8):=cond (l.2.1 == []) ((z27 N t ([([(102:UInt8),(105:UInt8),(114:UInt8),(115:UInt8),(116:UInt8)]:List UInt8),l.1]:List (List UInt8))).bind fun y=>some y) ((z27 N t ([([(116:UInt8),(104:UInt8),(105:UInt8),(114:UInt8),(100:UInt8)]:List UInt8),l.2.1,l.1]:List (List UInt8))).bind fun y1=>some y1)
def t_42 (N:Nat):Tab (List UInt8):=[]
theorem z17j (N:Nat)(x:z1k z1ab):z3v (E_42 N) N (t_42 N) L_42 Tryd.f49 (mkS z1ab 0 x) (z1r (.v .str) 2)=z4h N x.1 x.2.1:=by kernel_rfl
def z3g (N:Nat):List A->Res:=z14 z1ab (fun x=>z4h N x.1 x.2.1) (z3r (.v .str) 2)
theorem z5d (N:Nat):Contract Tryd.prog glob 49 (z3g N) :=
 Contract.of (E:=E_42 N) (H:=t_42 N) (L:=L_42) (N:=N) (body:=z19f) (K:=(z1r (.v .str) 2)) (z1il N) Tryd.func49 (by kernel_rfl) (by decide) (fun _ hb=>TabOk.nil) (fun x y h=>by rw[z17j];exact h) (zq (s:=(.v .str)) (m:=2))
def zu3:Code:=(Tryd.f83.body).getD .skip
def L_43:List (List Nat×List Nat):=[([0],[0,5,2,3]),([0,0,1],[12,0,2,3,5]),([1,0,1],[2,3,5,0]),([0,1,0,1],[0]),([0,1,1],z19w),([0,1,1,1],z19w),([0,0,0,1,1,1],[16,13,15,3,5,0,14]),([0,1,0,0,1,1,1],[13,15,3,5,0,14]),([1,0,1,0,0,1,1,1],[0]),([0,0,0,1,1,0,0,1,1,1],[3,5,7,0,15,14,13]),([0,1,0,0,1,1,0,0,1,1,1],[0,5,15,14,13,3]),([0,1,1,0,0,1,1,0,0,1,1,1],[26,0,15,14,13,3,5]),([1,1,1,0,0,1,1,0,0,1,1,1],z19w),([0,1,1,1,0,0,1,1,0,0,1,1,1],[0]),([0,1,1,0,0,1,1,1],z19w),([1,1,1,0,0,1,1,1],z19w),([1,1,1],[0])]
def E_43 (N:Nat):Env:=z1c tys glob [(49,z3g N)] [] [] [0] false [] []
theorem z1ik (N:Nat):EnvOk Tryd.prog (E_43 N):=zh mixed zz (FnsOk.cons (z5d N) (FnsOk.nil)) ItsOk.nil
def z4z (N:Nat)(x3:Unit)(x13:(List DT6))(x14:Int)(t:(List UInt8))(x15:Int)(rec:(List UInt8)->Int->Option (List z5q))(k0:Option (List z5q))(k1:Option (List z5q)):Option (List z5q):=cond (decide (x15<x14)) (cond (inR x15 (List.length x13)) ((z4h N t (List.getD x13 (Int.toNat x15) ([],([],())))).bind fun y=>zpd (y,()) (rec y (IntKind.wrap IntKind.i64 (x15+1))) k0) none) k1
def ze8 (N:Nat)(x3:Unit)(t:(List UInt8))(x13:(List DT6))(x14:Int)(x15:Int)(k0:Option (List z5q))(k1:Option (List z5q)):Option (List z5q):=iter (fun (v:((List UInt8)×Int)) r=>z4z N x3 x13 x14 v.1 v.2 (fun t x15=>(r (t,x15))) k0 k1) N (t,x15)
def z1gc (N:Nat)(i:(Unit×(List DT6)×Int))(v:((List UInt8)×Int))(r:((List UInt8)×Int)->Option (List z5q))(K:Ex->List A->Option (List z5q)):Option (List z5q):=z4z N i.1 i.2.1 i.2.2 v.1 v.2 (fun t x15=>(r (t,x15))) (K .ret (mkS [(0,.yld)] 27 ((),()))) (K (.exit 0) (mkS [(0,.yld)] 27 ((),())))
def z1er (N:Nat):Hd (List z5q):=fun st K=>(unS [(0,.yld),(2,.v (.ptr (.fn 49 .unit))),(1,.v .str),(7,.v (.sl TT8)),(0,.v (.int .i64)),(0,.v (.int .i64))] 12 (restr z19w 0 st)).bind fun x=>iter (fun v r=>z1gc N ((fun x=>(x.2.1,x.2.2.2.1,x.2.2.2.2.1)) x) v r K) N ((fun x=>(x.2.2.1,x.2.2.2.2.2.1)) x)
def t1_43 (N:Nat):Tab (List z5q):=[]
theorem z1cs {N:Nat}{G:GY [.str]}(hG:zee G)(hev:z1hb G Tryd.prog (E_43 N) N L_43 zu3):YOk G Tryd.prog (zl zu3 [0,1,1,1]) (z1er N) :=
 zk9 hG (s:=[(0,.yld),(2,.v (.ptr (.fn 49 .unit))),(1,.v .str),(7,.v (.sl TT8)),(0,.v (.int .i64)),(0,.v (.int .i64))]) (m:=12) (z1gc N) z19w N (fun x=>(x.2.1,x.2.2.2.1,x.2.2.2.2.1)) (fun x=>(x.2.2.1,x.2.2.2.2.2.1)) (fun i v=>((),i.1,v.1,i.2.1,i.2.2,v.2,())) (fun _=>rfl) (hev (t1_43 N) TabOkY.nil [0,0,1,1,1]) (fun i v r K=>by kernel_rfl)
def z82 (N:Nat)(x1:(List UInt8))(x2:(List DT6))(x3:Unit):Option (List z5q):=zpd (x1,()) (ze8 N x3 x1 x2 (List.length x2:Int) 0 (some []) (some [])) (some [])
def t_43 (N:Nat):Tab (List z5q):=[([0,1,1,1],z1er N)]
theorem z17i (N:Nat)(x:T.den z14l):z1a8 (E_43 N) [.str] zpd N (t_43 N) L_43 Tryd.f83 [.v (.ptr .str) x.1,.v (.ptr (.sl TT8)) x.2.1,.v (.ptr (.fn 49 .unit)) x.2.2.1]=z82 N x.1 x.2.1 x.2.2.1:=by kernel_rfl
def zd (N:Nat):Dat->ItRes:=zwx (ts:=[.str]) z14l (fun x=>z82 N x.1 x.2.1 x.2.2.1)
theorem ze (N:Nat):ItOk Tryd.prog glob 83 (zd N):=ItOk.of (ts:=[.str]) (E:=E_43 N) (H:=t_43 N) (L:=L_43) (N:=N) (body:=zu3) (z1ik N) rfl Tryd.func83 (by kernel_rfl) (by decide) (fun G hG hev=>(TabOkY.cons (z1cs hG hev) TabOkY.nil)) (fun x y h=>⟨_,rfl,by rw[z17i];exact h⟩)
def z19e:Code:=(Tryd.f72.body).getD .skip
def L_44:List (List Nat×List Nat):=[([0],[3,4,5]),([0,1],[6]),([1,1],[6])]
def E_44 (N:Nat):Env:=z1c tys glob [(49,z3g N)] [] [] [] false [(5,(.fn 49 .unit))] [(83,zd N),(52,z8 N)]
theorem z1ij (N:Nat):EnvOk Tryd.prog (E_44 N):=zh mixed zz (FnsOk.cons (z5d N) (FnsOk.nil)) (ItsOk.cons (ze N) (ItsOk.cons (za N) (ItsOk.nil)))
def zm8 (N:Nat)(first:(List UInt8))(links:(List DT6)):Option ((List UInt8)×((List DT6)×(Unit×Unit))):=some (first,(links,((),())))
def t_44 (N:Nat):Tab ((List UInt8)×((List DT6)×(Unit×Unit))):=[]
theorem z17h (N:Nat)(x:z1k [(0,.v .str),(0,.v (.sl TT8)),(0,.fnc 49)]):z3v (E_44 N) N (t_44 N) L_44 Tryd.f72 (mkS [(0,.v .str),(0,.v (.sl TT8)),(0,.fnc 49)] 0 x) (z1r (.v (.fn 83 z14l)) 3)=zm8 N x.1 x.2.1:=by kernel_rfl
def ze7 (N:Nat):List A->Res:=z14 [(0,.v .str),(0,.v (.sl TT8)),(0,.fnc 49)] (fun x=>zm8 N x.1 x.2.1) (z3r (.v (.fn 83 z14l)) 3)
theorem zn9 (N:Nat):Contract Tryd.prog glob 72 (ze7 N) :=
 Contract.of (E:=E_44 N) (H:=t_44 N) (L:=L_44) (N:=N) (body:=z19e) (K:=(z1r (.v (.fn 83 z14l)) 3)) (z1ij N) Tryd.func72 (by kernel_rfl) (by decide) (fun _ hb=>TabOk.nil) (fun x y h=>by rw[z17h];exact h) (zq (s:=(.v (.fn 83 z14l))) (m:=3))
def zpp:Code:=(Tryd.f60.body).getD .skip
def L_45:List (List Nat×List Nat):=[([0],[3,0]),([0,1],[0,3,5]),([0,0,1,1],[18,5]),([0,1,0,1,1],[5]),([0,0,1,0,1,1],[5,6]),([0,1,0,1,0,1,1],[5]),([1,0,1,0,1,1],[5]),([1,0,1,1],[5]),([0,1,1,1],[4]),([1,1,1,1],[4])]
def z1jf (N:Nat):Env:=z1c tys glob [(72,ze7 N),(49,z3g N),(5,z4i N)] [(4,.str)] [] [] false [(5,(.own .str))] [(83,zd N),(52,z8 N)]
theorem z1ii (N:Nat):EnvOk Tryd.prog (z1jf N):=zh mixed zz (FnsOk.cons (zn9 N) (FnsOk.cons (z5d N) (FnsOk.cons (z73 N) (FnsOk.nil)))) (ItsOk.cons (ze N) (ItsOk.cons (za N) (ItsOk.nil)))
def zcl (N:Nat)(tags_1:(List (List UInt8)))(y:z5q)(rec:(List (List UInt8))->Option (List (List UInt8)))(k0:(List (List UInt8))->Option (List (List UInt8))):Option (List (List UInt8)):=cond (decide ((((List.length tags_1)+1)*16)<=70368744177664)) (rec (tags_1++([y.1]:List (List UInt8)))) none
def z71 (N:Nat)(tags:(List (List UInt8)))(x18:((List UInt8)×((List DT6)×(Unit×Unit)))):Option (List z5q):=(z82 N x18.1 x18.2.1 x18.2.2.1)
def zcm (N:Nat)(tags:(List (List UInt8)))(x18:((List UInt8)×((List DT6)×(Unit×Unit)))):Unit:=()
def zhe (N:Nat)(tags:(List (List UInt8)))(x18:((List UInt8)×((List DT6)×(Unit×Unit)))):(List (List UInt8)):=tags
def zhf (N:Nat)(tags:(List (List UInt8)))(x18:((List UInt8)×((List DT6)×(Unit×Unit))))(k0:(List (List UInt8))->Option (List (List UInt8))):Option (List (List UInt8)):=(z71 N tags x18).bind fun ys=>zbe (fun (y:z5q) (v:(List (List UInt8))) r=>zcl N v y (fun tags_1=>(r tags_1)) k0) (fun (v:(List (List UInt8)))=>k0 v) ys tags
def z1gb (N:Nat)(y:z5q)(i:Unit)(v:(List (List UInt8)))(r:(List (List UInt8))->Option (List (List UInt8)))(K:Ex->List A->Option (List (List UInt8))):Option (List (List UInt8)):=zcl N v y (fun tags_1=>(r tags_1)) (fun a0=>(K .normal (mkS [(5,.box (.own .str))] 19 (a0,()))))
def z1eq (N:Nat):Hd (List (List UInt8)):=fun st K=>(unS [(5,.box (.own .str)),(12,.v (.fn 83 z14l))] 6 (restr [18,5] 0 st)).bind fun x=>((fun x=>z71 N x.1 x.2.1) x).bind fun xs=>zbe (fun y v r=>z1gb N y ((fun x=>zcm N x.1 x.2.1) x) v r K) (fun v=>K .normal (mkS [(5,.box (.own .str))] 19 ((fun i v=>(v,())) ((fun x=>zcm N x.1 x.2.1) x) v))) xs ((fun x=>zhe N x.1 x.2.1) x)
theorem z1cr {N:Nat}{c:Ctx}(hb:Base Tryd.prog (z1jf N) c):z10 Tryd.prog c (zl zpp [0,1,0,1,1]) (z1eq N) :=
 z120 (ts:=[.str]) (s:=[(5,.box (.own .str)),(12,.v (.fn 83 z14l))]) (m:=6) (s2:=[(5,.box (.own .str))]) (m2:=19) [18,5] (fun x=>z71 N x.1 x.2.1) (fun x=>zcm N x.1 x.2.1) (fun x=>zhe N x.1 x.2.1) (fun i v=>(v,())) (rfF (z1jf N) N [.str] (zl zpp [0,1,0,1,1])) (z1gb N) (zi hb N [] L_45 zpp TabOk.nil [0,1,0,1,1] _ rfl) (fun x K=>by kernel_rfl) (fun y i v r K=>by kernel_rfl)
def zbi (N:Nat)(key:(List UInt8))(t:DT0):Option (List (List UInt8)):=cond (decide (((0:Int)<=0)/\((0<=(IntKind.wrap IntKind.i64 (1+(List.length t.2.1:Int))))/\((((IntKind.wrap IntKind.i64 (1+(List.length t.2.1:Int)))*16)<=281474976710656)/\((IntKind.wrap IntKind.i64 (1+(List.length t.2.1:Int)))<=9223372036854775807))))) ((z4j N key t.1).bind fun y=>zhf N [] (y,(t.2.1,((),()))) (fun tags_1=>some tags_1)) none
def t_45 (N:Nat):Tab (List (List UInt8)):=[([0,1,0,1,1],z1eq N)]
theorem z17g (N:Nat)(x:z1k [(0,.v .str),(0,.v TT1)]):z3v (z1jf N) N (t_45 N) L_45 Tryd.f60 (mkS [(0,.v .str),(0,.v TT1)] 0 x) (z1r (.v (.sl .str)) 2)=zbi N x.1 x.2.1:=by kernel_rfl
def zfh (N:Nat):List A->Res:=z14 [(0,.v .str),(0,.v TT1)] (fun x=>zbi N x.1 x.2.1) (z3r (.v (.sl .str)) 2)
theorem zph (N:Nat):Contract Tryd.prog glob 60 (zfh N) :=
 Contract.of (E:=z1jf N) (H:=t_45 N) (L:=L_45) (N:=N) (body:=zpp) (K:=(z1r (.v (.sl .str)) 2)) (z1ii N) Tryd.func60 (by kernel_rfl) (by decide) (fun _ hb=>(TabOk.cons (z1cr hb) TabOk.nil)) (fun x y h=>by rw[z17g];exact h) (zq (s:=(.v (.sl .str))) (m:=2))
def z19d:Code:=(Tryd.f39.body).getD .skip
def L_46:List (List Nat×List Nat):=[([0],[1,5,0]),([0,1],[0,8]),([0,1,1],[8,0]),([0,1,1,1],[6,7,0]),([1,1,1,1],[6,7,0])]
def E_46 (N:Nat):Env:=z1c tys glob [(60,zfh N)] [(8,.str),(6,.str)] [] [0] false [] [(83,zd N),(52,z8 N)]
theorem z1ih (N:Nat):EnvOk Tryd.prog (E_46 N):=zh mixed zz (FnsOk.cons (zph N) (FnsOk.nil)) (ItsOk.cons (ze N) (ItsOk.cons (za N) (ItsOk.nil)))
def z3q (N:Nat)(r_:DT2)(key:(List UInt8))(t:DT0):Option (((List (List UInt8))×(List UInt8)×Unit)×(DT2×Unit)):=(zbi N key t).bind fun y=>cond (inR (IntKind.wrap IntKind.i64 ((List.length y:Int) - 1)) (List.length y)) (some ((y,((List.getD y (Int.toNat (IntKind.wrap IntKind.i64 ((List.length y:Int) - 1))) []),())),((r_.1,(r_.2.1,(r_.2.2.1,(r_.2.2.2.1,((IntKind.wrap IntKind.i64 (r_.2.2.2.2.1+(List.length y:Int))),r_.2.2.2.2.2))))),()))) none
def t_46 (N:Nat):Tab (((List (List UInt8))×(List UInt8)×Unit)×(DT2×Unit)):=[]
theorem z17f (N:Nat)(x:z1k [(0,.box TT3),(0,.v .str),(0,.v TT1)]):z3v (E_46 N) N (t_46 N) L_46 Tryd.f39 (mkS [(0,.box TT3),(0,.v .str),(0,.v TT1)] 0 x) (zbd (.tup [(.sl .str),.str]) [(0,.box TT3)] 2)=z3q N x.1 x.2.1 x.2.2.1:=by kernel_rfl
def z66 (N:Nat):List A->Res:=z14 [(0,.box TT3),(0,.v .str),(0,.v TT1)] (fun x=>z3q N x.1 x.2.1 x.2.2.1) (zi4 (.tup [(.sl .str),.str]) [(0,.box TT3)] 2)
theorem z9s (N:Nat):Contract Tryd.prog glob 39 (z66 N) :=
 Contract.of (E:=E_46 N) (H:=t_46 N) (L:=L_46) (N:=N) (body:=z19d) (K:=(zbd (.tup [(.sl .str),.str]) [(0,.box TT3)] 2)) (z1ih N) Tryd.func39 (by kernel_rfl) (by decide) (fun _ hb=>TabOk.nil) (fun x y h=>by rw[z17f];exact h) (z8m (s:=(.tup [(.sl .str),.str])) (os:=[(0,.box TT3)]) (m:=2))
def zu2:Code:=(Tryd.f61.body).getD .skip
def L_47:List (List Nat×List Nat):=[([0],[0,1]),([0,0,1],[11,0,1]),([1,0,1],[0,1]),([0,0,1,0,1],[4]),([1,0,1,0,1],[4]),([0,1,1],[0,5,1]),([0,0,1,1,1],[14,13,5,0,1]),([0,1,0,1,1,1],[14,13,5,0,1]),([0,0,0,1,0,1,1,1],[15,14,5,0,1,13]),([0,1,0,0,1,0,1,1,1],[14,5,0,1,13]),([1,0,1,0,0,1,0,1,1,1],[5]),([0,0,0,1,1,0,0,1,0,1,1,1],[5,0,6,1,14,13]),([1,0,0,1,1,0,0,1,0,1,1,1],[14,13,5,0,1]),([0,1,1,0,0,1,0,1,1,1],[14,13,5,0,1]),([1,1,1,0,0,1,0,1,1,1],[14,13,5,0,1]),([1,0,1,1,1],[5]),([0,1,1,1,1],[4]),([1,1,1,1,1],[4])]
def E_47 (N:Nat):Env:=z1c tys glob [] [] [] [] false [] [(83,zd N),(52,z8 N)]
theorem z1ig (N:Nat):EnvOk Tryd.prog (E_47 N):=zh mixed zz (FnsOk.nil) (ItsOk.cons (ze N) (ItsOk.cons (za N) (ItsOk.nil)))
def zag (N:Nat)(a:(List UInt8))(b:(List UInt8))(x13:Int)(differ:Int)(x14:Int)(rec:Int->Int->Option Bool)(k0:Int->Option Bool):Option Bool:=cond (decide (x14<x13)) (cond (inR x14 (List.length a)) (cond (inR x14 (List.length b)) (rec (zu Go.BinOp.or IntKind.u8 differ (zu Go.BinOp.xor IntKind.u8 (UInt8.toNat (List.getD a (Int.toNat x14) (0:UInt8)):Int) (UInt8.toNat (List.getD b (Int.toNat x14) (0:UInt8)):Int))) (IntKind.wrap IntKind.i64 (x14+1))) none) none) (k0 differ)
def zf9 (N:Nat)(a:(List UInt8))(b:(List UInt8))(differ:Int)(x13:Int)(x14:Int)(k0:Int->Option Bool):Option Bool:=iter (fun (v:(Int×Int)) r=>zag N a b x13 v.1 v.2 (fun differ x14=>(r (differ,x14))) k0) N (differ,x14)
def z1ga (N:Nat)(i:((List UInt8)×(List UInt8)×Int))(v:(Int×Int))(r:(Int×Int)->Option Bool)(K:Ex->List A->Option Bool):Option Bool:=zag N i.1 i.2.1 i.2.2 v.1 v.2 (fun differ x14=>(r (differ,x14))) (fun a0=>(K (.exit 0) (mkS [(5,.v (.int .u8))] 23 (a0,()))))
def z1ep (N:Nat):Hd Bool:=fun st K=>(unS SQ51 14 (restr [14,13,5,0,1] 0 st)).bind fun x=>iter (fun v r=>z1ga N ((fun x=>(x.1,x.2.1,x.2.2.2.1)) x) v r K) N ((fun x=>(x.2.2.1,x.2.2.2.2.1)) x)
def t1_47 (N:Nat):Tab Bool:=[]
theorem z1cq {N:Nat}{c:Ctx}(hb:Base Tryd.prog (E_47 N) c):z10 Tryd.prog c (zl zu2 [0,1,0,1,1,1]) (z1ep N) :=
 z2t (s:=SQ51) (m:=14) (z1ga N) [14,13,5,0,1] N (fun x=>(x.1,x.2.1,x.2.2.2.1)) (fun x=>(x.2.2.1,x.2.2.2.2.1)) (fun i v=>(i.1,i.2.1,v.1,i.2.2,v.2,())) (fun _=>rfl) (zi hb N (t1_47 N) L_47 zu2 TabOk.nil [0,0,1,0,1,1,1] _ rfl) (fun i v r K=>by kernel_rfl)
def z9c (N:Nat)(a:(List UInt8))(b:(List UInt8)):Option Bool:=cond ((List.length a:Int) != (List.length b:Int)) (some false) (zf9 N a b 0 (List.length a:Int) 0 (fun differ=>some (differ == 0)))
def t_47 (N:Nat):Tab Bool:=[([0,1,0,1,1,1],z1ep N)]
theorem z17e (N:Nat)(x:z1k SQ2):z3v (E_47 N) N (t_47 N) L_47 Tryd.f61 (mkS SQ2 0 x) (z1r (.v .bool) 2)=z9c N x.1 x.2.1:=by kernel_rfl
def zdo (N:Nat):List A->Res:=z14 SQ2 (fun x=>z9c N x.1 x.2.1) (z3r (.v .bool) 2)
theorem zmt (N:Nat):Contract Tryd.prog glob 61 (zdo N) :=
 Contract.of (E:=E_47 N) (H:=t_47 N) (L:=L_47) (N:=N) (body:=zu2) (K:=(z1r (.v .bool) 2)) (z1ig N) Tryd.func61 (by kernel_rfl) (by decide) (fun _ hb=>(TabOk.cons (z1cq hb) TabOk.nil)) (fun x y h=>by rw[z17e];exact h) (zq (s:=(.v .bool)) (m:=2))
def z19c:Code:=(Tryd.f40.body).getD .skip
def L_48:List (List Nat×List Nat):=[([0],[0,1]),([0,1],[4]),([1,1],[4])]
def E_48 (N:Nat):Env:=z1c tys glob [(61,zdo N)] [] [] [] false [] [(83,zd N),(52,z8 N)]
theorem z1if (N:Nat):EnvOk Tryd.prog (E_48 N):=zh mixed zz (FnsOk.cons (zmt N) (FnsOk.nil)) (ItsOk.cons (ze N) (ItsOk.cons (za N) (ItsOk.nil)))
def z9l (N:Nat)(a:(List UInt8))(b:(List UInt8)):Option Bool:=cond ((List.length a:Int) == 32) (cond ((List.length b:Int) == 32) ((z9c N a b).bind fun y=>some y) (some false)) (some false)
def t_48 (N:Nat):Tab Bool:=[]
theorem z17d (N:Nat)(x:z1k SQ2):z3v (E_48 N) N (t_48 N) L_48 Tryd.f40 (mkS SQ2 0 x) (z1r (.v .bool) 2)=z9l N x.1 x.2.1:=by kernel_rfl
def z8o (N:Nat):List A->Res:=z14 SQ2 (fun x=>z9l N x.1 x.2.1) (z3r (.v .bool) 2)
theorem ze1 (N:Nat):Contract Tryd.prog glob 40 (z8o N) :=
 Contract.of (E:=E_48 N) (H:=t_48 N) (L:=L_48) (N:=N) (body:=z19c) (K:=(z1r (.v .bool) 2)) (z1if N) Tryd.func40 (by kernel_rfl) (by decide) (fun _ hb=>TabOk.nil) (fun x y h=>by rw[z17d];exact h) (zq (s:=(.v .bool)) (m:=2))
def z19b:Code:=(Tryd.f41.body).getD .skip
def L_49:List (List Nat×List Nat):=[([0],[1]),([0,1],[2]),([1,1],[2])]
def E_49 (N:Nat):Env:=z1c tys glob [] [] [] [] false [] [(83,zd N),(52,z8 N)]
theorem z1ie (N:Nat):EnvOk Tryd.prog (E_49 N):=zh mixed zz (FnsOk.nil) (ItsOk.cons (ze N) (ItsOk.cons (za N) (ItsOk.nil)))
def znc (N:Nat)(l:DT6):Option Bool:=some (eqD (T.pair T.str (T.pair T.str T.unit)) l (l.1,([],())))
def t_49 (N:Nat):Tab Bool:=[]
theorem z17c (N:Nat)(x:z1k [(0,.v TT8)]):z3v (E_49 N) N (t_49 N) L_49 Tryd.f41 (mkS [(0,.v TT8)] 0 x) (z1r (.v .bool) 1)=znc N x.1:=by kernel_rfl
def zf2 (N:Nat):List A->Res:=z14 [(0,.v TT8)] (fun x=>znc N x.1) (z3r (.v .bool) 1)
theorem zoi (N:Nat):Contract Tryd.prog glob 41 (zf2 N) :=
 Contract.of (E:=E_49 N) (H:=t_49 N) (L:=L_49) (N:=N) (body:=z19b) (K:=(z1r (.v .bool) 1)) (z1ie N) Tryd.func41 (by kernel_rfl) (by decide) (fun _ hb=>TabOk.nil) (fun x y h=>by rw[z17c];exact h) (zq (s:=(.v .bool)) (m:=1))
def z19a:Code:=(Tryd.f20.body).getD .skip
def L_50:List (List Nat×List Nat):=[([0],[0]),([0,1],[2]),([1,1],[2])]
def E_50 (N:Nat):Env:=z1c tys glob [(14,z2u N)] [] [] [] false [] [(83,zd N),(52,z8 N)]
theorem z1id (N:Nat):EnvOk Tryd.prog (E_50 N):=zh mixed zz (FnsOk.cons (z47 N) (FnsOk.nil)) (ItsOk.cons (ze N) (ItsOk.cons (za N) (ItsOk.nil)))
def z8x (N:Nat)(of:(List UInt8)):Option (List UInt8):=(z27 N of ([([(115:UInt8),(101:UInt8),(97:UInt8),(108:UInt8)]:List UInt8)]:List (List UInt8))).bind fun y=>some y
def t_50 (N:Nat):Tab (List UInt8):=[]
theorem z17b (N:Nat)(x:z1k [(0,.v .str)]):z3v (E_50 N) N (t_50 N) L_50 Tryd.f20 (mkS [(0,.v .str)] 0 x) (z1r (.v .str) 1)=z8x N x.1:=by kernel_rfl
def zar (N:Nat):List A->Res:=z14 [(0,.v .str)] (fun x=>z8x N x.1) (z3r (.v .str) 1)
theorem zhg (N:Nat):Contract Tryd.prog glob 20 (zar N) :=
 Contract.of (E:=E_50 N) (H:=t_50 N) (L:=L_50) (N:=N) (body:=z19a) (K:=(z1r (.v .str) 1)) (z1id N) Tryd.func20 (by kernel_rfl) (by decide) (fun _ hb=>TabOk.nil) (fun x y h=>by rw[z17b];exact h) (zq (s:=(.v .str)) (m:=1))
def z199:Code:=(Tryd.f29.body).getD .skip
def L_51:List (List Nat×List Nat):=[([0],[0]),([0,1],[2]),([1,1],[2])]
def E_51 (N:Nat):Env:=z1c tys glob [(14,z2u N)] [] [] [] false [] [(83,zd N),(52,z8 N)]
theorem z1ic (N:Nat):EnvOk Tryd.prog (E_51 N):=zh mixed zz (FnsOk.cons (z47 N) (FnsOk.nil)) (ItsOk.cons (ze N) (ItsOk.cons (za N) (ItsOk.nil)))
def z7n (N:Nat)(key:(List UInt8)):Option (List UInt8):=(z27 N key ([([(104:UInt8),(105:UInt8),(100:UInt8),(101:UInt8)]:List UInt8)]:List (List UInt8))).bind fun y=>some y
def t_51 (N:Nat):Tab (List UInt8):=[]
theorem z17a (N:Nat)(x:z1k [(0,.v .str)]):z3v (E_51 N) N (t_51 N) L_51 Tryd.f29 (mkS [(0,.v .str)] 0 x) (z1r (.v .str) 1)=z7n N x.1:=by kernel_rfl
def z9q (N:Nat):List A->Res:=z14 [(0,.v .str)] (fun x=>z7n N x.1) (z3r (.v .str) 1)
theorem zfk (N:Nat):Contract Tryd.prog glob 29 (z9q N) :=
 Contract.of (E:=E_51 N) (H:=t_51 N) (L:=L_51) (N:=N) (body:=z199) (K:=(z1r (.v .str) 1)) (z1ic N) Tryd.func29 (by kernel_rfl) (by decide) (fun _ hb=>TabOk.nil) (fun x y h=>by rw[z17a];exact h) (zq (s:=(.v .str)) (m:=1))
def z198:Code:=(Tryd.f56.body).getD .skip
def L_52:List (List Nat×List Nat):=[([0],[0]),([0,0,1],[5,0]),([1,0,1],[0]),([0,0,1,0,1],[2]),([1,0,1,0,1],[2]),([0,1,1],[2]),([1,1,1],[2])]
def E_52 (N:Nat):Env:=z1c tys glob [] [] [] [] false [] [(83,zd N),(52,z8 N)]
theorem z1ib (N:Nat):EnvOk Tryd.prog (E_52 N):=zh mixed zz (FnsOk.nil) (ItsOk.cons (ze N) (ItsOk.cons (za N) (ItsOk.nil)))
def zeb (N:Nat)(s:(List UInt8)):Option (List UInt8):=cond (decide ((List.length s:Int)<16)) (some []) (cond (decide (((0:Int)<=16)/\(16<=(List.length s:Int)))) (some (cut s 0 16)) none)
def t_52 (N:Nat):Tab (List UInt8):=[]
theorem z179 (N:Nat)(x:z1k [(0,.v .str)]):z3v (E_52 N) N (t_52 N) L_52 Tryd.f56 (mkS [(0,.v .str)] 0 x) (z1r (.v .str) 1)=zeb N x.1:=by kernel_rfl
def zhk (N:Nat):List A->Res:=z14 [(0,.v .str)] (fun x=>zeb N x.1) (z3r (.v .str) 1)
theorem zrv (N:Nat):Contract Tryd.prog glob 56 (zhk N) :=
 Contract.of (E:=E_52 N) (H:=t_52 N) (L:=L_52) (N:=N) (body:=z198) (K:=(z1r (.v .str) 1)) (z1ib N) Tryd.func56 (by kernel_rfl) (by decide) (fun _ hb=>TabOk.nil) (fun x y h=>by rw[z179];exact h) (zq (s:=(.v .str)) (m:=1))
def zu1:Code:=(Tryd.f90.body).getD .skip
def L_53:List (List Nat×List Nat):=[([0],[0]),([0,1],[3,0]),([0,0,1,1],[6,3,0]),([0,1,0,1,1],[6,3,0]),(z14m,[7,6,3,0]),(z14n,[6,3,0]),(z19z,[3]),(z1a0,[3,4,0,6]),(z1al,[6,3,0]),(z19y,[6,3,0]),(z19x,[6,3,0]),([1,0,1,1],[3]),([0,1,1,1],[2]),([1,1,1,1],[2])]
def E_53 (N:Nat):Env:=z1c tys glob [] [(3,(.int .u8))] [] [] false [] [(83,zd N),(52,z8 N)]
theorem z1ia (N:Nat):EnvOk Tryd.prog (E_53 N):=zh mixed zz (FnsOk.nil) (ItsOk.cons (ze N) (ItsOk.cons (za N) (ItsOk.nil)))
def zcs (N:Nat)(n:Int)(out:(List Int))(x6:Int)(rec:(List Int)->Int->Option (List UInt8))(k0:(List Int)->Option (List UInt8)):Option (List UInt8):=cond (decide (x6<8)) (cond (decide (0<=(IntKind.wrap IntKind.i64 (8*(IntKind.wrap IntKind.i64 (7 - x6)))))) (cond (inR x6 (List.length out)) (cond (decide ((Int.toNat x6)<(List.length out))) (rec (List.set out (Int.toNat x6) (IntKind.wrap IntKind.u8 (zaw IntKind.i64 n (IntKind.wrap IntKind.i64 (8*(IntKind.wrap IntKind.i64 (7 - x6))))))) (IntKind.wrap IntKind.i64 (x6+1))) none) none) none) (k0 out)
def zjs (N:Nat)(n:Int)(out:(List Int))(x6:Int)(k0:(List Int)->Option (List UInt8)):Option (List UInt8):=iter (fun (v:((List Int)×Int)) r=>zcs N n v.1 v.2 (fun out x6=>(r (out,x6))) k0) N (out,x6)
def z1g9 (N:Nat)(i:Int)(v:((List Int)×Int))(r:((List Int)×Int)->Option (List UInt8))(K:Ex->List A->Option (List UInt8)):Option (List UInt8):=zcs N i v.1 v.2 (fun out x6=>(r (out,x6))) (fun a0=>(K (.exit 0) (mkS [(3,.row (.int .u8))] 17 (a0,()))))
def z1eo (N:Nat):Hd (List UInt8):=fun st K=>(unS [(0,.v (.int .i64)),(2,.row (.int .u8)),(2,.v (.int .i64))] 14 (restr [6,3,0] 0 st)).bind fun x=>iter (fun v r=>z1g9 N ((fun x=>x.1) x) v r K) N ((fun x=>(x.2.1,x.2.2.1)) x)
def t1_53 (N:Nat):Tab (List UInt8):=[]
theorem z1cp {N:Nat}{c:Ctx}(hb:Base Tryd.prog (E_53 N) c):z10 Tryd.prog c (zl zu1 [0,1,0,1,1]) (z1eo N) :=
 z2t (s:=[(0,.v (.int .i64)),(2,.row (.int .u8)),(2,.v (.int .i64))]) (m:=14) (z1g9 N) [6,3,0] N (fun x=>x.1) (fun x=>(x.2.1,x.2.2.1)) (fun i v=>(i,v.1,v.2,())) (fun _=>rfl) (zi hb N (t1_53 N) L_53 zu1 TabOk.nil [0,0,1,0,1,1] _ rfl) (fun i v r K=>by kernel_rfl)
def z54 (N:Nat)(n:Int):Option (List UInt8):=zjs N n ([0,0,0,0,0,0,0,0]:List Int) 0 (fun out=>some (z43 out))
def t_53 (N:Nat):Tab (List UInt8):=[([0,1,0,1,1],z1eo N)]
theorem z178 (N:Nat)(x:z1k [(0,.v (.int .i64))]):z3v (E_53 N) N (t_53 N) L_53 Tryd.f90 (mkS [(0,.v (.int .i64))] 0 x) (z1r (.v .str) 1)=z54 N x.1:=by kernel_rfl
def zb1 (N:Nat):List A->Res:=z14 [(0,.v (.int .i64))] (fun x=>z54 N x.1) (z3r (.v .str) 1)
theorem zjt (N:Nat):Contract Tryd.prog glob 90 (zb1 N) :=
 Contract.of (E:=E_53 N) (H:=t_53 N) (L:=L_53) (N:=N) (body:=zu1) (K:=(z1r (.v .str) 1)) (z1ia N) Tryd.func90 (by kernel_rfl) (by decide) (fun _ hb=>(TabOk.cons (z1cp hb) TabOk.nil)) (fun x y h=>by rw[z178];exact h) (zq (s:=(.v .str)) (m:=1))
def z197:Code:=(Tryd.f82.body).getD .skip
def L_54:List (List Nat×List Nat):=[([0],[2,0,1]),([0,0,1],[8,0,1,2]),([1,0,1],[0,1,2]),([0,0,1,0,1],[6]),([1,0,1,0,1],[6]),([0,1,1],[6]),([1,1,1],[6])]
def E_54 (N:Nat):Env:=z1c tys glob [(90,zb1 N),(14,z2u N)] [] [] [] false [] [(83,zd N),(52,z8 N)]
theorem z1i9 (N:Nat):EnvOk Tryd.prog (E_54 N):=zh mixed zz (FnsOk.cons (zjt N) (FnsOk.cons (z47 N) (FnsOk.nil))) (ItsOk.cons (ze N) (ItsOk.cons (za N) (ItsOk.nil)))
def z7s (N:Nat)(key:(List UInt8))(nonce:(List UInt8))(i:Int):Option (List UInt8):=cond (decide (i<0)) (some []) ((z54 N i).bind fun y=>(z27 N key ([([(115:UInt8),(116:UInt8),(114:UInt8),(101:UInt8),(97:UInt8),(109:UInt8)]:List UInt8),nonce,y]:List (List UInt8))).bind fun y1=>some y1)
def t_54 (N:Nat):Tab (List UInt8):=[]
theorem z177 (N:Nat)(x:z1k SQ8):z3v (E_54 N) N (t_54 N) L_54 Tryd.f82 (mkS SQ8 0 x) (z1r (.v .str) 3)=z7s N x.1 x.2.1 x.2.2.1:=by kernel_rfl
def zct (N:Nat):List A->Res:=z14 SQ8 (fun x=>z7s N x.1 x.2.1 x.2.2.1) (z3r (.v .str) 3)
theorem zkm (N:Nat):Contract Tryd.prog glob 82 (zct N) :=
 Contract.of (E:=E_54 N) (H:=t_54 N) (L:=L_54) (N:=N) (body:=z197) (K:=(z1r (.v .str) 3)) (z1i9 N) Tryd.func82 (by kernel_rfl) (by decide) (fun _ hb=>TabOk.nil) (fun x y h=>by rw[z177];exact h) (zq (s:=(.v .str)) (m:=3))
def zu0:Code:=(Tryd.f81.body).getD .skip
def L_55:List (List Nat×List Nat):=[([0],[10,9,0,2,3]),([0,1],[10,9,0,2,3]),([0,0,0,1],[11,10,0,2,3,9]),([0,1,0,0,1],[10,0,2,3,9]),([1,0,1,0,0,1],[0]),([0,0,0,1,1,0,0,1],[0,2,3,5,10,9]),([0,1,0,0,1,1,0,0,1],[19,0,10,9,2,3]),([1,1,0,0,1,1,0,0,1],[10,9,0,2,3]),([0,1,1,0,0,1,1,0,0,1],[0]),([0,1,1,0,0,1],[10,9,0,2,3]),([1,1,1,0,0,1],[10,9,0,2,3]),([1],[0])]
def E_55 (N:Nat):Env:=z1c tys glob [(82,zct N)] [] [] [0] false [] []
theorem z1i8 (N:Nat):EnvOk Tryd.prog (E_55 N):=zh mixed zz (FnsOk.cons (zkm N) (FnsOk.nil)) ItsOk.nil
def z55 (N:Nat)(x2:(List UInt8))(x3:(List UInt8))(x9:Int)(x10:Int)(rec:Int->Option (List z5q))(k0:Option (List z5q))(k1:Option (List z5q)):Option (List z5q):=cond (decide (x10<x9)) ((z7s N x2 x3 x10).bind fun y=>zpd (y,()) (rec (IntKind.wrap IntKind.i64 (x10+1))) k0) k1
def zb3 (N:Nat)(x2:(List UInt8))(x3:(List UInt8))(x9:Int)(x10:Int)(k0:Option (List z5q))(k1:Option (List z5q)):Option (List z5q):=iter (fun (v:Int) r=>z55 N x2 x3 x9 v (fun x10=>(r x10)) k0 k1) N x10
def z1g8 (N:Nat)(i:((List UInt8)×(List UInt8)×Int))(v:Int)(r:Int->Option (List z5q))(K:Ex->List A->Option (List z5q)):Option (List z5q):=z55 N i.1 i.2.1 i.2.2 v (fun x10=>(r x10)) (K .ret (mkS [(0,.yld)] 20 ((),()))) (K (.exit 0) (mkS [(0,.yld)] 20 ((),())))
def z1en (N:Nat):Hd (List z5q):=fun st K=>(unS [(0,.yld),(1,.v (.ptr .str)),(0,.v (.ptr .str)),(5,.v (.int .i64)),(0,.v (.int .i64))] 10 (restr [10,9,0,2,3] 0 st)).bind fun x=>iter (fun v r=>z1g8 N ((fun x=>(x.2.1,x.2.2.1,x.2.2.2.1)) x) v r K) N ((fun x=>x.2.2.2.2.1) x)
def t1_55 (N:Nat):Tab (List z5q):=[]
theorem z1co {N:Nat}{G:GY [.str]}(hG:zee G)(hev:z1hb G Tryd.prog (E_55 N) N L_55 zu0):YOk G Tryd.prog (zl zu0 [0,1]) (z1en N) :=
 zk9 hG (s:=[(0,.yld),(1,.v (.ptr .str)),(0,.v (.ptr .str)),(5,.v (.int .i64)),(0,.v (.int .i64))]) (m:=10) (z1g8 N) [10,9,0,2,3] N (fun x=>(x.2.1,x.2.2.1,x.2.2.2.1)) (fun x=>x.2.2.2.2.1) (fun i v=>((),i.1,i.2.1,i.2.2,v,())) (fun _=>rfl) (hev (t1_55 N) TabOkY.nil [0,0,1]) (fun i v r K=>by kernel_rfl)
def z5r (N:Nat)(x1:Int)(x2:(List UInt8))(x3:(List UInt8)):Option (List z5q):=zb3 N x2 x3 (IntKind.wrap IntKind.i64 (Int.tdiv (IntKind.wrap IntKind.i64 ((IntKind.wrap IntKind.i64 (x1+32)) - 1)) 32)) 0 (some []) (some [])
def t_55 (N:Nat):Tab (List z5q):=[([0,1],z1en N)]
theorem z176 (N:Nat)(x:T.den (.pair (.ptr (.int .i64)) (.pair (.ptr .str) (.pair (.ptr .str) .unit)))):z1a8 (E_55 N) [.str] zpd N (t_55 N) L_55 Tryd.f81 [.v (.ptr (.int .i64)) x.1,.v (.ptr .str) x.2.1,.v (.ptr .str) x.2.2.1]=z5r N x.1 x.2.1 x.2.2.1:=by kernel_rfl
def zf (N:Nat):Dat->ItRes:=zwx (ts:=[.str]) (.pair (.ptr (.int .i64)) (.pair (.ptr .str) (.pair (.ptr .str) .unit))) (fun x=>z5r N x.1 x.2.1 x.2.2.1)
theorem zg (N:Nat):ItOk Tryd.prog glob 81 (zf N):=ItOk.of (ts:=[.str]) (E:=E_55 N) (H:=t_55 N) (L:=L_55) (N:=N) (body:=zu0) (z1i8 N) rfl Tryd.func81 (by kernel_rfl) (by decide) (fun G hG hev=>(TabOkY.cons (z1co hG hev) TabOkY.nil)) (fun x y h=>⟨_,rfl,by rw[z176];exact h⟩)
def z196:Code:=(Tryd.f68.body).getD .skip
def L_56:List (List Nat×List Nat):=[([0],[5,3,4]),([0,1],[6]),([1,1],[6])]
def E_56 (N:Nat):Env:=z1c tys glob [] [] [] [] false [] [(81,zf N),(83,zd N),(52,z8 N)]
theorem z1i7 (N:Nat):EnvOk Tryd.prog (E_56 N):=zh mixed zz (FnsOk.nil) (ItsOk.cons (zg N) (ItsOk.cons (ze N) (ItsOk.cons (za N) (ItsOk.nil))))
def zgg (N:Nat)(key:(List UInt8))(nonce:(List UInt8))(n:Int):Option (Int×DT6):=some (n,(key,(nonce,())))
def t_56 (N:Nat):Tab (Int×DT6):=[]
theorem z175 (N:Nat)(x:z1k SQ8):z3v (E_56 N) N (t_56 N) L_56 Tryd.f68 (mkS SQ8 0 x) (z1r (.v (.fn 81 (.pair (.ptr (.int .i64)) (.pair (.ptr .str) (.pair (.ptr .str) .unit))))) 3)=zgg N x.1 x.2.1 x.2.2.1:=by kernel_rfl
def zb2 (N:Nat):List A->Res:=z14 SQ8 (fun x=>zgg N x.1 x.2.1 x.2.2.1) (z3r (.v (.fn 81 (.pair (.ptr (.int .i64)) (.pair (.ptr .str) (.pair (.ptr .str) .unit))))) 3)
theorem zju (N:Nat):Contract Tryd.prog glob 68 (zb2 N) :=
 Contract.of (E:=E_56 N) (H:=t_56 N) (L:=L_56) (N:=N) (body:=z196) (K:=(z1r (.v (.fn 81 (.pair (.ptr (.int .i64)) (.pair (.ptr .str) (.pair (.ptr .str) .unit))))) 3)) (z1i7 N) Tryd.func68 (by kernel_rfl) (by decide) (fun _ hb=>TabOk.nil) (fun x y h=>by rw[z175];exact h) (zq (s:=(.v (.fn 81 (.pair (.ptr (.int .i64)) (.pair (.ptr .str) (.pair (.ptr .str) .unit)))))) (m:=3))
def zpo:Code:=(Tryd.f51.body).getD .skip
def L_57:List (List Nat×List Nat):=[([0],[2,0,1]),([0,0,1],[10,2,0,1]),([1,0,1],[2,0,1]),([0,0,1,0,1],[6]),([1,0,1,0,1],[6]),([0,1,1],[0,1,2]),([0,1,1,1],[0,1,2,7]),([0,0,1,1,1,1],[16,7,2]),(zw1,[7,2]),(z1ai,[8,7,2]),([0,1,0,1,0,1,1,1,1],[7,2]),([1,0,1,0,1,1,1,1],[7,2]),([1,0,1,1,1,1],[7,2]),([0,1,1,1,1,1],[6]),([1,1,1,1,1,1],[6])]
def z1je (N:Nat):Env:=z1c tys glob [(68,zb2 N),(32,z2a N),(33,zsf)] [] [] [] false [(7,zpu)] [(81,zf N),(83,zd N),(52,z8 N)]
theorem z1i6 (N:Nat):EnvOk Tryd.prog (z1je N):=zh mixed zz (FnsOk.cons (zju N) (FnsOk.cons (z3z N) (FnsOk.cons (z13p glob) (FnsOk.nil)))) (ItsOk.cons (zg N) (ItsOk.cons (ze N) (ItsOk.cons (za N) (ItsOk.nil))))
def zab (N:Nat)(n_1:Int)(out_1:zhp)(y:z5q)(rec:zhp->Option (List UInt8))(k0:zhp->Option (List UInt8)):Option (List UInt8):=(z17 N out_1 y.1).bind fun y1=>rec y1.2.1
def z61 (N:Nat)(n:Int)(out:zhp)(x16:(Int×DT6)):Option (List z5q):=(z5r N x16.1 x16.2.1 x16.2.2.1)
def zac (N:Nat)(n:Int)(out:zhp)(x16:(Int×DT6)):Int:=n
def zf3 (N:Nat)(n:Int)(out:zhp)(x16:(Int×DT6)):zhp:=out
def zf4 (N:Nat)(n:Int)(out:zhp)(x16:(Int×DT6))(k0:zhp->Option (List UInt8)):Option (List UInt8):=(z61 N n out x16).bind fun ys=>zbe (fun (y:z5q) (v:zhp) r=>zab N n v y (fun out_1=>(r out_1)) k0) (fun (v:zhp)=>k0 v) ys out
def z1g7 (N:Nat)(y:z5q)(i:Int)(v:zhp)(r:zhp->Option (List UInt8))(K:Ex->List A->Option (List UInt8)):Option (List UInt8):=zab N i v y (fun out_1=>(r out_1)) (fun a1=>(K .normal (mkS [(2,.v (.int .i64)),(4,.box zpu)] 15 (i,a1,()))))
def z1em (N:Nat):Hd (List UInt8):=fun st K=>(unS [(2,.v (.int .i64)),(4,.box zpu),(8,.v (.fn 81 (.pair (.ptr (.int .i64)) (.pair (.ptr .str) (.pair (.ptr .str) .unit)))))] 6 (restr [16,7,2] 0 st)).bind fun x=>((fun x=>z61 N x.1 x.2.1 x.2.2.1) x).bind fun xs=>zbe (fun y v r=>z1g7 N y ((fun x=>zac N x.1 x.2.1 x.2.2.1) x) v r K) (fun v=>K .normal (mkS [(2,.v (.int .i64)),(4,.box zpu)] 15 ((fun i v=>(i,v,())) ((fun x=>zac N x.1 x.2.1 x.2.2.1) x) v))) xs ((fun x=>zf3 N x.1 x.2.1 x.2.2.1) x)
theorem z1cn {N:Nat}{c:Ctx}(hb:Base Tryd.prog (z1je N) c):z10 Tryd.prog c (zl zpo zw1) (z1em N) :=
 z120 (ts:=[.str]) (s:=[(2,.v (.int .i64)),(4,.box zpu),(8,.v (.fn 81 (.pair (.ptr (.int .i64)) (.pair (.ptr .str) (.pair (.ptr .str) .unit)))))]) (m:=6) (s2:=[(2,.v (.int .i64)),(4,.box zpu)]) (m2:=15) [16,7,2] (fun x=>z61 N x.1 x.2.1 x.2.2.1) (fun x=>zac N x.1 x.2.1 x.2.2.1) (fun x=>zf3 N x.1 x.2.1 x.2.2.1) (fun i v=>(i,v,())) (rfF (z1je N) N [.str] (zl zpo zw1)) (z1g7 N) (zi hb N [] L_57 zpo TabOk.nil zw1 _ rfl) (fun x K=>by kernel_rfl) (fun y i v r K=>by kernel_rfl)
def z90 (N:Nat)(key:(List UInt8))(nonce:(List UInt8))(n:Int):Option (List UInt8):=cond (decide (n<1)) (some []) (zf4 N (if (65536<n) then 65536 else n) ((),([],())) ((if (65536<n) then 65536 else n),(key,(nonce,()))) (fun out_1=>(zsg (out_1,())).bind fun y=>cond (decide ((0<=(if (65536<n) then 65536 else n))/\((if (65536<n) then 65536 else n)<=(List.length y.1:Int)))) (some (cut y.1 0 (Int.toNat (if (65536<n) then 65536 else n)))) none))
def t_57 (N:Nat):Tab (List UInt8):=[(zw1,z1em N)]
theorem z174 (N:Nat)(x:z1k SQ8):z3v (z1je N) N (t_57 N) L_57 Tryd.f51 (mkS SQ8 0 x) (z1r (.v .str) 3)=z90 N x.1 x.2.1 x.2.2.1:=by kernel_rfl
def zde (N:Nat):List A->Res:=z14 SQ8 (fun x=>z90 N x.1 x.2.1 x.2.2.1) (z3r (.v .str) 3)
theorem zmr (N:Nat):Contract Tryd.prog glob 51 (zde N) :=
 Contract.of (E:=z1je N) (H:=t_57 N) (L:=L_57) (N:=N) (body:=zpo) (K:=(z1r (.v .str) 3)) (z1i6 N) Tryd.func51 (by kernel_rfl) (by decide) (fun _ hb=>(TabOk.cons (z1cn hb) TabOk.nil)) (fun x y h=>by rw[z174];exact h) (zq (s:=(.v .str)) (m:=3))
def z195:Code:=(Tryd.f28.body).getD .skip
def L_58:List (List Nat×List Nat):=[([0],[2,0,1]),([0,0,1],[9,2,0,1]),([1,0,1],[2,0,1]),([0,0,1,0,1],[6]),([1,0,1,0,1],[6]),([0,1,1],[6]),([1,1,1],[6])]
def E_58 (N:Nat):Env:=z1c tys glob [(51,zde N),(50,zc1 N)] [] [] [] false [] [(81,zf N),(83,zd N),(52,z8 N)]
theorem z1i5 (N:Nat):EnvOk Tryd.prog (E_58 N):=zh mixed zz (FnsOk.cons (zmr N) (FnsOk.cons (zj3 N) (FnsOk.nil))) (ItsOk.cons (zg N) (ItsOk.cons (ze N) (ItsOk.cons (za N) (ItsOk.nil))))
def z8t (N:Nat)(key:(List UInt8))(nonce:(List UInt8))(text:(List UInt8)):Option (List UInt8):=cond (decide (65536<(List.length text:Int))) (some []) ((z90 N key nonce (List.length text:Int)).bind fun y=>(zb9 N text y).bind fun y1=>some y1)
def t_58 (N:Nat):Tab (List UInt8):=[]
theorem z173 (N:Nat)(x:z1k z13i):z3v (E_58 N) N (t_58 N) L_58 Tryd.f28 (mkS z13i 0 x) (z1r (.v .str) 3)=z8t N x.1 x.2.1 x.2.2.1:=by kernel_rfl
def zad (N:Nat):List A->Res:=z14 z13i (fun x=>z8t N x.1 x.2.1 x.2.2.1) (z3r (.v .str) 3)
theorem zgh (N:Nat):Contract Tryd.prog glob 28 (zad N) :=
 Contract.of (E:=E_58 N) (H:=t_58 N) (L:=L_58) (N:=N) (body:=z195) (K:=(z1r (.v .str) 3)) (z1i5 N) Tryd.func28 (by kernel_rfl) (by decide) (fun _ hb=>TabOk.nil) (fun x y h=>by rw[z173];exact h) (zq (s:=(.v .str)) (m:=3))
def z194:Code:=(Tryd.f55.body).getD .skip
def L_59:List (List Nat×List Nat):=[([0],[5,1,2,3,0]),([1],[0,1,2,3]),([0,1],[0,1,2,3])]
def E_59 (N:Nat):Env:=z1c tys glob [(28,zad N),(56,zhk N),(29,z9q N)] [] [] [0,1,2,3] false [] [(81,zf N),(83,zd N),(52,z8 N)]
theorem z1i4 (N:Nat):EnvOk Tryd.prog (E_59 N):=zh mixed zz (FnsOk.cons (zgh N) (FnsOk.cons (zrv N) (FnsOk.cons (zfk N) (FnsOk.nil)))) (ItsOk.cons (zg N) (ItsOk.cons (ze N) (ItsOk.cons (za N) (ItsOk.nil))))
def zbk (N:Nat)(x0:Int)(x1:(List UInt8))(x2:(List UInt8))(x3:(List UInt8)):Option ((Unit)×(Int×(List UInt8)×(List UInt8)×(List UInt8)×Unit)):=cond (x0 == 0) ((z7n N x1).bind fun y=>(zeb N x2).bind fun y1=>cond (decide ((0<=(IntKind.wrap IntKind.i64 ((List.length x2:Int) - 32)))/\((IntKind.wrap IntKind.i64 ((List.length x2:Int) - 32))<=(List.length x2:Int)))) (cond (decide (((0:Int)<=16)/\(16<=(IntKind.wrap IntKind.i64 ((List.length x2:Int) - 32))))) ((z8t N y y1 (cut x2 16 (Int.toNat (IntKind.wrap IntKind.i64 ((List.length x2:Int) - 32))))).bind fun y2=>some ((),(x0,(x1,(x2,(y2,())))))) none) none) (some ((),(x0,(x1,(x2,(x3,()))))))
def t_59 (N:Nat):Tab ((Unit)×(Int×(List UInt8)×(List UInt8)×(List UInt8)×Unit)):=[]
theorem z172 (N:Nat)(x:z1k SQ4):z3v (E_59 N) N (t_59 N) L_59 Tryd.f55 (mkS SQ4 0 x) (zbd (.tup []) SQ4 0)=zbk N x.1 x.2.1 x.2.2.1 x.2.2.2.1:=by kernel_rfl
def zpl (N:Nat):List A->Res:=z14 SQ4 (fun x=>zbk N x.1 x.2.1 x.2.2.1 x.2.2.2.1) (zi4 (.tup []) SQ4 0)
theorem zpm (N:Nat):ContractD Tryd.prog glob 55 (zpl N) :=
 ContractD.of (E:=E_59 N) (H:=t_59 N) (L:=L_59) (N:=N) (body:=z194) (K:=(zbd (.tup []) SQ4 0)) (z1i4 N) Tryd.func55 (by kernel_rfl) (by decide) (fun _ hb=>TabOk.nil) (fun x y h=>by rw[z172];exact h) (z8m (s:=(.tup [])) (os:=SQ4) (m:=0))
def z193:Code:=(Tryd.f30.body).getD .skip
def L_60:List (List Nat×List Nat):=[([0],[0,1]),([0,1],[4]),([1,1],[4])]
def E_60 (N:Nat):Env:=z1c tys glob [(14,z2u N),(26,ze0 N)] [] [] [] false [] [(81,zf N),(83,zd N),(52,z8 N)]
theorem z1i3 (N:Nat):EnvOk Tryd.prog (E_60 N):=zh mixed zz (FnsOk.cons (z47 N) (FnsOk.cons (zm0 N) (FnsOk.nil))) (ItsOk.cons (zg N) (ItsOk.cons (ze N) (ItsOk.cons (za N) (ItsOk.nil))))
def zgb (N:Nat)(key:(List UInt8))(body:(List UInt8)):Option (List UInt8):=(z27 N key ([([(116:UInt8),(97:UInt8),(103:UInt8)]:List UInt8)]:List (List UInt8))).bind fun y=>(zep N y body).bind fun y1=>some y1
def t_60 (N:Nat):Tab (List UInt8):=[]
theorem z171 (N:Nat)(x:z1k SQ2):z3v (E_60 N) N (t_60 N) L_60 Tryd.f30 (mkS SQ2 0 x) (z1r (.v .str) 2)=zgb N x.1 x.2.1:=by kernel_rfl
def zga (N:Nat):List A->Res:=z14 SQ2 (fun x=>zgb N x.1 x.2.1) (z3r (.v .str) 2)
theorem zof (N:Nat):Contract Tryd.prog glob 30 (zga N) :=
 Contract.of (E:=E_60 N) (H:=t_60 N) (L:=L_60) (N:=N) (body:=z193) (K:=(z1r (.v .str) 2)) (z1i3 N) Tryd.func30 (by kernel_rfl) (by decide) (fun _ hb=>TabOk.nil) (fun x y h=>by rw[z171];exact h) (zq (s:=(.v .str)) (m:=2))
def z192:Code:=(Tryd.f57.body).getD .skip
def L_61:List (List Nat×List Nat):=[([0],[1,0]),([0,0,1],[8,1,0]),([1,0,1],[1,0]),([0,0,1,0,1],[4]),([1,0,1,0,1],[4]),([0,0,1,1],[11,1,0]),([1,0,1,1],[1,0]),([0,0,1,0,1,1],[4]),([1,0,1,0,1,1],[4]),([0,1,1,1],[1,5,0]),([0,0,1,1,1,1],[24]),([1,0,1,1,1,1],[]),(z1ai,[4]),([1,0,1,0,1,1,1,1],[4]),([0,1,1,1,1,1],[4]),([1,1,1,1,1,1],[4])]
def E_61 (N:Nat):Env:=z1c tys glob [(30,zga N),(40,z8o N)] [] [] [] false [] [(81,zf N),(83,zd N),(52,z8 N)]
theorem z1i2 (N:Nat):EnvOk Tryd.prog (E_61 N):=zh mixed zz (FnsOk.cons (zof N) (FnsOk.cons (ze1 N) (FnsOk.nil))) (ItsOk.cons (zg N) (ItsOk.cons (ze N) (ItsOk.cons (za N) (ItsOk.nil))))
def z60 (N:Nat)(key:(List UInt8))(s:(List UInt8)):Option Int:=cond (decide ((List.length s:Int)<48)) (some 1) (cond (decide (4144<(List.length s:Int))) (some 3) (cond (decide ((0<=(IntKind.wrap IntKind.i64 ((List.length s:Int) - 32)))/\((IntKind.wrap IntKind.i64 ((List.length s:Int) - 32))<=(List.length s:Int)))) (cond (decide ((0<=(IntKind.wrap IntKind.i64 ((List.length s:Int) - 32)))/\((IntKind.wrap IntKind.i64 ((List.length s:Int) - 32))<=(List.length s:Int)))) ((zgb N key (cut s 0 (Int.toNat (IntKind.wrap IntKind.i64 ((List.length s:Int) - 32))))).bind fun y=>(z9l N (cut s (Int.toNat (IntKind.wrap IntKind.i64 ((List.length s:Int) - 32))) (List.length s)) y).bind fun y1=>cond (!y1) (some 8) (some 0)) none) none))
def t_61 (N:Nat):Tab Int:=[]
theorem z170 (N:Nat)(x:z1k SQ2):z3v (E_61 N) N (t_61 N) L_61 Tryd.f57 (mkS SQ2 0 x) (z1r (.v (.int .i64)) 2)=z60 N x.1 x.2.1:=by kernel_rfl
def zpk (N:Nat):List A->Res:=z14 SQ2 (fun x=>z60 N x.1 x.2.1) (z3r (.v (.int .i64)) 2)
theorem zru (N:Nat):Contract Tryd.prog glob 57 (zpk N) :=
 Contract.of (E:=E_61 N) (H:=t_61 N) (L:=L_61) (N:=N) (body:=z192) (K:=(z1r (.v (.int .i64)) 2)) (z1i2 N) Tryd.func57 (by kernel_rfl) (by decide) (fun _ hb=>TabOk.nil) (fun x y h=>by rw[z170];exact h) (zq (s:=(.v (.int .i64))) (m:=2))
def z64 (N:Nat)(key s:List UInt8):Option (List UInt8×Int×Unit):=(z60 N key s).bind fun e=>(zbk N e key s []).bind fun y=>some (y.2.2.2.2.1,y.2.1,())
def zea (N:Nat):List A->Res:=z14 SQ2 (fun x=>z64 N x.1 x.2.1) (z3r (.tup [.str,(.int .i64)]) 2)
theorem zna {N:Nat}{key s:List UInt8}{e:Int}{w:World}{S:Hp}(hS:Sub S (hp w))(hg:GlobOk glob S)(he:z60 N key s=some e) :
 Calls Tryd.prog 57 #[.string ⟨⟨key⟩⟩,.string ⟨⟨s⟩⟩] w fun r w'=>r=.returned (.int .i64 e)/\Go.RowKit.Below w.heap.size w w'/\∃ S',Sub S S'/\Sub S' (hp w')/\∀ b,S' b≠none->S b≠none\/w.heap.size<=b:=by
 have h:=(zru N).2 w S (mkS SQ2 0 (key,s,())) [.string ⟨⟨key⟩⟩,.string ⟨⟨s⟩⟩] (fun _=>[]) ⟨rfl,fun i x hx=>?_,fun _ _=>rfl,(fun i j b hb=>by cases hb),fun _=>.nil,(fun i b hb=>by cases hb)⟩ hS hg
 . have h2:=h e (by show z60 N key s=some e;exact he);refine h2.mono ?_;rintro r w' ⟨v,S',o,ob',rfl,hwf,h3,h4,h5,⟨⟨hv,_⟩,_⟩,_⟩;have hv':=VR.int_inv hv;subst hv';refine⟨rfl,⟨hwf.os,hwf.tape,hwf.output,hwf.size,fun k hk=>hwf.same k hk (by rintro⟨i,hi⟩;cases hi)⟩,S',h3,h4,fun b hb=>?_⟩;rcases h5 b hb with h|⟨i,hi⟩|h
   . exact .inl h
   . cases hi
   . exact .inr h
 . match i with
   | 0=>simp[mkS,z39,AS.mk] at hx;subst hx;exact⟨⟨_,rfl,VR.str,rfl⟩,rfl⟩
   | 1=>simp[mkS,z39,AS.mk] at hx;subst hx;exact⟨⟨_,rfl,VR.str,rfl⟩,rfl⟩
   | i+2=>simp[mkS,z39] at hx
theorem za7 {h S:Hp}{tv:Nat->Value}{b E:Nat}{t:T}{x:t.den}{v:Value}(ht:t.isAgg=false)(hb:h b=some (.cells #[v] E (0,0)))(hv:Rd S t x [v]):ARel h S tv (.box t x) (.pointer (some ⟨b,0,none⟩)) [b] :=
 ⟨b,#[v],E,(0,0),[],rfl,rfl,hb,⟨Nat.le_refl _,fun i _ hq=>absurd hq.2 (Nat.not_lt_zero i)⟩,RdO.of_rd t x _ hv⟩
theorem zhj {h S:Hp}{tv:Nat->Value}{t:T}{x:t.den}{b:Nat}{o:List Nat}(ht:noOwn t=true)(hs:t.size=1)(hx:ARel h S tv (.box t x) (.pointer (some ⟨b,0,none⟩)) o):∃ v E fr,h b=some (.cells #[v] E fr)/\Rd S t x [v]:=by
 obtain⟨b',cs,E,fr,bs,_,e,hb,_,hr⟩:=hx;cases e;obtain⟨_,hr⟩:=RdO.rd t x _ _ ht hr;have hl:=hr.length;rw[hs] at hl;obtain⟨v,hv⟩:=List.length_eq_one_iff.1 hl;have:cs=#[v]:=by apply Array.toList_inj.1;rw[hv]
 subst this;exact⟨v,E,fr,hb,hr⟩
theorem zmc (N:Nat):Contract Tryd.prog glob 34 (zea N):=by
 refine Contract.hand ⟨_,Tryd.func34,by kernel_rfl,by decide⟩ ?_;intro w S vals ob x y har hS hg hy;obtain⟨key,s,u⟩:=x;cases u;unfold z64 at hy;dsimp only at hy;cases he:z60 N key s with
 | none=>rw[he] at hy;cases hy
 | some e =>
 rw[he,Option.bind_some] at hy;cases ho:zbk N e key s [] with
 | none=>rw[ho] at hy;cases hy
 | some z =>
 rw[ho,Option.bind_some] at hy;cases hy;obtain⟨⟨v0,hv0,hA0,ho0⟩,_⟩:=har.rel 0 _ rfl;obtain⟨⟨v1,hv1,hA1,ho1⟩,_⟩:=har.rel 1 _ rfl;have hlen:=har.len;obtain⟨u0,u1,rfl⟩:∃ u0 u1,vals=[u0,u1]:=by
  have:vals.length=2:=by simpa[mkS,z39] using hlen.symm
  match vals,this with
  | [a,b],_=>exact⟨a,b,rfl⟩
 simp at hv0 hv1;subst hv0;subst hv1;have e0:=hA0.str_inv;have e1:=hA1.str_inv;subst e0;subst e1;have hnone:∀ i,ob i=[]:=by
  intro i
  match i with
  | 0=>exact ho0
  | 1=>exact ho1
  | i+2=>exact har.out _ (by simp[mkS,z39])
 have hmf:∀ (fn:Fn) (first cap:Array Value) (w:World),(Instr.makeFunc fn first cap).run Tryd.prog w=.ok (.func fn first cap) w:=fun _ _ _ _=>rfl
 obtain⟨n,hn⟩:∃ n,n=w.heap.size:=⟨_,rfl⟩
 have hltS:∀ b,S b≠none->b<n:=fun b hb=>by
  cases hs:S b with
  | none=>exact absurd hs hb
  | some o=>rw[hn];exact z5w (hS b o hs)
 obtain⟨W4,hW4⟩:∃ W4,W4=(((w.alloc (.cells #[.string ⟨⟨key⟩⟩] 9)).alloc (.cells #[.string ⟨⟨s⟩⟩] 9)).alloc (.cells #[.string ⟨#[]⟩] 9)).alloc (.cells #[.int .i64 0] 33):=⟨_,rfl⟩
 have hh:W4.heap=(((w.heap.push (.cells #[.string ⟨⟨key⟩⟩] 9 (0,0))).push (.cells #[.string ⟨⟨s⟩⟩] 9 (0,0))).push (.cells #[.string ⟨#[]⟩] 9 (0,0))).push (.cells #[.int .i64 0] 33 (0,0)):=by rw[hW4];rfl
 have z4:W4.heap.size=n+4:=by rw[hh,hn];simp only[Array.size_push]
 have k0:W4.heap[n]?=some (.cells #[.string ⟨⟨key⟩⟩] 9 (0,0)):=by rw[hh,hn];simp only[Array.getElem?_push,Array.size_push];rw[if_neg (by omega),if_neg (by omega),if_neg (by omega),if_pos trivial]
 have k1:W4.heap[n+1]?=some (.cells #[.string ⟨⟨s⟩⟩] 9 (0,0)):=by rw[hh,hn];simp only[Array.getElem?_push,Array.size_push];rw[if_neg (by omega),if_neg (by omega),if_pos trivial]
 have k2:W4.heap[n+2]?=some (.cells #[.string ⟨#[]⟩] 9 (0,0)):=by rw[hh,hn];simp only[Array.getElem?_push,Array.size_push];rw[if_neg (by omega),if_pos (by first|omega|trivial)]
 have k3:W4.heap[n+3]?=some (.cells #[.int .i64 0] 33 (0,0)):=by rw[hh,hn];simp only[Array.getElem?_push,Array.size_push];rw[if_pos (by first|omega|trivial)]
 have kl:∀ b,b<n->W4.heap[b]?=w.heap[b]?:=fun b hb=>by
  rw[hh];simp only[Array.getElem?_push,Array.size_push];rw[if_neg (by omega),if_neg (by omega),if_neg (by omega),if_neg (by omega)]
 have hS4:Sub S (hp W4):=fun b o hb=>by
  have h1:=hS b o hb;simp only[hp] at h1 ⊢;rw[kl b (hltS b (by rw[hb];simp))];exact h1
 have t4:W4.tape=w.tape/\W4.os=w.os/\W4.output=w.output:=by rw[hW4];exact⟨rfl,rfl,rfl⟩
 have hck:=zna (N:=N) hS4 hg he;have main:∀ w5,Go.RowKit.Below W4.heap.size W4 w5->(∃ S',Sub S S'/\Sub S' (hp w5)/\∀ b,S' b≠none->S b≠none\/W4.heap.size<=b) →
  CallsD Tryd.prog 55 #[.pointer (some ⟨n+3,0,none⟩),.pointer (some ⟨n,0,none⟩),.pointer (some ⟨n+1,0,none⟩),.pointer (some ⟨n+2,0,none⟩)] .returning
   ((w5.setCell ⟨n+2,0,none⟩ (.string ⟨#[]⟩)).setCell ⟨n+3,0,none⟩ (.int .i64 e)) fun r u w7=>(∃ v,r=.returned v)/\u=.returning/\w7.cell? ⟨n+2,0,none⟩=some (.string ⟨⟨z.2.2.2.2.1⟩⟩)/\w7.cell? ⟨n+3,0,none⟩=some (.int .i64 z.2.1) ∧
     Lift.Ends w S (mkS SQ2 0 (key,s,())) [.string ⟨⟨key⟩⟩,.string ⟨⟨s⟩⟩] ob (z3r (.tup [.str,.int .i64]) 2 (z.2.2.2.2.1,z.2.1,())).1 (z3r (.tup [.str,.int .i64]) 2 (z.2.2.2.2.1,z.2.1,())).2 (.returned (.tuple #[.string ⟨⟨z.2.2.2.2.1⟩⟩,.int .i64 z.2.1])) w7:=by
  rintro w5 hbel ⟨S5,hS5,hS5w,hnew⟩;have b0:=hbel.block n (by omega);have b1:=hbel.block (n+1) (by omega);have b2:=hbel.block (n+2) (by omega);have b3:=hbel.block (n+3) (by omega);rw[k0] at b0;rw[k1] at b1;rw[k2] at b2;rw[k3] at b3;have hz5:=hbel.size;obtain⟨w6,hw6⟩:∃ w6,w6=(w5.setCell ⟨n+2,0,none⟩ (.string ⟨#[]⟩)).setCell ⟨n+3,0,none⟩ (.int .i64 e):=⟨_,rfl⟩
  rw[<- hw6];have e5:=zhy (w:=w5) (b:=n+2) (off:=0) (.string ⟨#[]⟩) b2;have e6:=zhy (w:=w5.setCell ⟨n+2,0,none⟩ (.string ⟨#[]⟩)) (b:=n+3) (off:=0) (.int .i64 e) (by rw[e5,zo (by omega)];exact b3);rw[e6,e5] at hw6;have m2:hp w6 (n+2)=some (.cells #[.string ⟨#[]⟩] 9 (0,0)):=by rw[hw6,zo (by omega)];exact z1y b2
  have m3:hp w6 (n+3)=some (.cells #[.int .i64 e] 33 (0,0)):=by rw[hw6];exact z1y (o':=.cells #[.int .i64 0] 33 (0,0)) (by rw[zo (by omega)];exact b3)
  have mo:∀ b,b≠n+2->b≠n+3->hp w6 b=hp w5 b:=fun b h1 h2=>by rw[hw6,zo h2,zo h1]
  have m0:hp w6 n=some (.cells #[.string ⟨⟨key⟩⟩] 9 (0,0)):=by rw[mo n (by omega) (by omega)];exact b0
  have m1:hp w6 (n+1)=some (.cells #[.string ⟨⟨s⟩⟩] 9 (0,0)):=by rw[mo (n+1) (by omega) (by omega)];exact b1
  have mz:w6.heap.size=w5.heap.size:=by rw[hw6];simp[z19]
  have mt:w6.tape=w5.tape/\w6.os=w5.os/\w6.output=w5.output:=by rw[hw6];exact⟨rfl,rfl,rfl⟩
  have hS5none:∀ b,n<=b->b<n+4->S5 b=none:=fun b h1 h2=>by
   cases hs:S5 b with
   | none=>rfl
   | some o =>
     rcases hnew b (by rw[hs];simp) with h|h
     . have:=hltS b h;omega
     . omega
  have hS6:Sub S5 (hp w6):=fun b o hb=>by
   rw[mo b (fun h=>by subst h;rw[hS5none (n+2) (by omega) (by omega)] at hb;cases hb) (fun h=>by subst h;rw[hS5none (n+3) (by omega) (by omega)] at hb;cases hb)];exact hS5w b o hb
  have hc:=zpm N w6 S5 (mkS SQ4 0 (e,key,s,[],())) [.pointer (some ⟨n+3,0,none⟩),.pointer (some ⟨n,0,none⟩),.pointer (some ⟨n+1,0,none⟩),.pointer (some ⟨n+2,0,none⟩)]
   (fun i=>match i with|0=>[n+3]|1=>[n]|2=>[n+1]|3=>[n+2]|_=>[]) ⟨rfl,fun i x hx=>?_,fun i hi=>?_,fun i j b hi hj=>?_,fun i=>?_,fun i b hb=>?_⟩ hS6 (hg.mono hS5) z (by show zbk N e key s []=some z;exact ho)
  . refine CallsD.mono hc ?_;rintro r u w7 ⟨rfl,v,S7,o,ob7,rfl,hwf,hS57,hS7,hnew7,_,_,_,houts,_⟩;obtain⟨x3,v3,hx3,hv3,_,hA3⟩:=houts 3 _ rfl rfl;obtain⟨x0,v0,hx0,hv0',_,hA0'⟩:=houts 0 _ rfl rfl;have hx3':x3=.box .str z.2.2.2.2.1:=(Option.some.inj hx3).symm;have hx0':x0=.box (.int .i64) z.2.1:=(Option.some.inj hx0).symm;have hv3':v3=.pointer (some ⟨n+2,0,none⟩):=(Option.some.inj hv3).symm;have hv0'':v0=.pointer (some ⟨n+3,0,none⟩):=(Option.some.inj hv0').symm;subst hx3';subst hx0';subst hv3';subst hv0'';obtain⟨q3,E3,f3,g3,h3⟩:=zhj rfl rfl hA3;obtain⟨q0,E0,f0,g0,h0⟩:=zhj rfl rfl hA0';have h3':q3=.string ⟨⟨z.2.2.2.2.1⟩⟩:=by simpa[Rd] using h3
    have h0':q0=.int .i64 z.2.1:=by simpa[Rd] using h0
    subst h3';subst h0';refine⟨⟨v,rfl⟩,rfl,by simp only[hp] at g3;simp[World.cell?,g3],by simp only[hp] at g0;simp[World.cell?,g0],_,S7,[],ob,rfl,⟨?_,fun b hb _=>?_,?_,?_,?_⟩,hS5.trans hS57,hS7,fun b hb=>?_,⟨⟨rfl,_,rfl,.cons VR.str (.cons VR.int .nil)⟩,rfl⟩,(fun k hk=>by cases hk),.nil,?_,?_,har.inj,har.nd,fun i hi=>hi⟩
    . have:=hwf.size;omega
    . have h1:=hwf.same b (by omega) (by
       rintro⟨i,hi⟩
       match i with
       | 0=>simp at hi;omega
       | 1=>simp at hi;omega
       | 2=>simp at hi;omega
       | 3=>simp at hi;omega
       | i+4=>simp at hi)
      have h2:=mo b (by omega) (by omega);simp only[hp] at h2;rw[h1,h2,hbel.block b (by omega),kl b (by omega)]
    . rw[hwf.tape,mt.1,hbel.tape,t4.1]
    . rw[hwf.os,mt.2.1,hbel.os,t4.2.1]
    . rw[hwf.output,mt.2.2,hbel.output,t4.2.2]
    . rcases hnew7 b hb with h|⟨i,hi⟩|h
      . rcases hnew b h with h|h
        . exact .inl h
        . exact .inr (.inr (by omega))
      . refine .inr (.inr ?_)
        match i with
        | 0=>simp at hi;omega
        | 1=>simp at hi;omega
        | 2=>simp at hi;omega
        | 3=>simp at hi;omega
        | i+4=>simp at hi
      . exact .inr (.inr (by omega))
    . intro i x hx hbx
      match i with
      | 0=>simp[mkS,z39,AS.mk] at hx;subst hx;cases hbx
      | 1=>simp[mkS,z39,AS.mk] at hx;subst hx;cases hbx
      | i+2=>simp[mkS,z39] at hx
    . intro i k hk;rw[hnone i] at hk;cases hk
  . match i with
    | 0=>simp[mkS,z39,AS.mk] at hx;subst hx;exact⟨⟨_,rfl,za7 rfl m3 rfl⟩,rfl⟩
    | 1=>simp[mkS,z39,AS.mk] at hx;subst hx;exact⟨⟨_,rfl,za7 rfl m0 rfl⟩,rfl⟩
    | 2=>simp[mkS,z39,AS.mk] at hx;subst hx;exact⟨⟨_,rfl,za7 rfl m1 rfl⟩,rfl⟩
    | 3=>simp[mkS,z39,AS.mk] at hx;subst hx;exact⟨⟨_,rfl,za7 rfl m2 rfl⟩,rfl⟩
    | i+4=>simp[mkS,z39] at hx
  . match i with
    | 0=>simp[mkS,z39] at hi
    | 1=>simp[mkS,z39] at hi
    | 2=>simp[mkS,z39] at hi
    | 3=>simp[mkS,z39] at hi
    | i+4=>rfl
  . match i,j with
    | 0,0=>rfl
    | 1,1=>rfl
    | 2,2=>rfl
    | 3,3=>rfl
    | i+4,_=>cases hi
    | 0,1=>simp at hi hj;omega
    | 0,2=>simp at hi hj;omega
    | 0,3=>simp at hi hj;omega
    | 1,0=>simp at hi hj;omega
    | 1,2=>simp at hi hj;omega
    | 1,3=>simp at hi hj;omega
    | 2,0=>simp at hi hj;omega
    | 2,1=>simp at hi hj;omega
    | 2,3=>simp at hi hj;omega
    | 3,0=>simp at hi hj;omega
    | 3,1=>simp at hi hj;omega
    | 3,2=>simp at hi hj;omega
    | 0,j+4=>cases hj
    | 1,j+4=>cases hj
    | 2,j+4=>cases hj
    | 3,j+4=>cases hj
  . match i with
    | 0=>simp
    | 1=>simp
    | 2=>simp
    | 3=>simp
    | i+4=>exact .nil
  . match i with
    | 0=>simp at hb;subst hb;exact hS5none _ (by omega) (by omega)
    | 1=>simp at hb;subst hb;exact hS5none _ (by omega) (by omega)
    | 2=>simp at hb;subst hb;exact hS5none _ (by omega) (by omega)
    | 3=>simp at hb;subst hb;exact hS5none _ (by omega) (by omega)
    | i+4=>cases hb
 have cells:∀ w5,Go.RowKit.Below W4.heap.size W4 w5->w5.cell? ⟨n+2,0,none⟩=some (.string ⟨#[]⟩)/\w5.frozen? ⟨n+2,0,none⟩=false/\w5.cell? ⟨n+3,0,none⟩=some (.int .i64 0)/\w5.frozen? ⟨n+3,0,none⟩=false:=by
  intro w5 hbel;have b2:=hbel.block (n+2) (by omega);have b3:=hbel.block (n+3) (by omega);rw[k2] at b2;rw[k3] at b3;exact⟨by simp[World.cell?,b2],by simp[World.frozen?,b2],by simp[World.cell?,b3],by simp[World.frozen?,b3]⟩
 clear k0 k1 k2 k3 kl z4 t4 hS4 hlen har hnone ho he hA0 hA1;subst hW4;subst hn
 go_enter_defers Tryd.func34,Tryd.ntmps34
 go_wp2_with (go_at_call 57;refine hck.mono ?_;rintro r w5 ⟨rfl,hbel,hS5⟩;obtain⟨d2,d2',d3,d3'⟩:=cells w5 hbel;have HM:=Go.Lib.hid (main w5 hbel hS5);clear hck cells main hbel hS5)
 refine leaves_cons (f:=55) (args:=#[.pointer (some ⟨w.heap.size+1+1+1,0,none⟩),.pointer (some ⟨w.heap.size,0,none⟩),.pointer (some ⟨w.heap.size+1,0,none⟩),.pointer (some ⟨w.heap.size+1+1,0,none⟩)]) (by simp) (by simp[go_sem]) ?_;refine (HM.out).mono ?_;rintro r u w7 ⟨⟨v,rfl⟩,rfl,c2,c3,hend⟩;refine⟨_,?_,hend⟩;simp[results,Tryd.results34,go_sem,c2,c3]
def zmf:Code:=(Tryd.f62.body).getD .skip
def L_62:List (List Nat×List Nat):=[([0],[0,1]),([0,0,1],[13,12,11,1,0]),([0,1,0,1],[13,12,11,1,0]),([0,0,0,1,0,1],[14,13,11,1,0,12]),([0,1,0,0,1,0,1],[13,11,1,0,12]),([1,0,1,0,0,1,0,1],[0]),([0,0,0,1,1,0,0,1,0,1],[6,1,0,5,13,12,11]),(z1am,[31,5,0,13,12,11,1]),([1,1,0,0,1,1,0,0,1,0,1],[13,12,11,1,0]),([0,0,1,1,0,0,1,1,0,0,1,0,1],[4,0]),([1,0,1,1,0,0,1,1,0,0,1,0,1],[4,0]),([0,1,1,0,0,1,0,1],[13,12,11,1,0]),([1,1,1,0,0,1,0,1],[13,12,11,1,0]),([1,0,1],[0]),([0,1,1],[4,0]),([1,1,1],[4,0])]
def z1jd (N:Nat):Env:=z1c tys glob [] [] [] [0] false [] [(81,zf N),(83,zd N),(52,z8 N)]
theorem z1i1 (N:Nat):EnvOk Tryd.prog (z1jd N):=zh mixed zz (FnsOk.nil) (ItsOk.cons (zg N) (ItsOk.cons (ze N) (ItsOk.cons (za N) (ItsOk.nil))))
def z5n (N:Nat)(r_:DT2)(id_:(List UInt8))(i:Int)(t:DT0)(x11:(List DT0))(x12:Int)(x13:Int)(k0:Bool->Option (Int×(DT2×Unit))):Option (Int×(DT2×Unit)):=cond (t.1 == id_) (cond (inR i (List.length r_.2.1)) (cond (decide ((Int.toNat i)<(List.length r_.2.1))) (k0 (!(List.getD r_.2.1 (Int.toNat i) false))) none) none) (k0 false)
def z1fm (N:Nat)(x:z1k SQ11)(K:Ex->List A->Option (Int×(DT2×Unit))):Option (Int×(DT2×Unit)):=z5n N x.1 x.2.1 x.2.2.1 x.2.2.2.1 x.2.2.2.2.1 x.2.2.2.2.2.1 x.2.2.2.2.2.2.1 (fun a6=>(K .normal (mkS [(0,.box TT3),(0,.v .str),(3,.v (.int .i64)),(5,.v (.sl TT1)),(0,.v (.int .i64)),(0,.v (.int .i64)),(17,.v .bool)] 2 (x.1,x.2.1,x.2.2.1,x.2.2.2.2.1,x.2.2.2.2.2.1,x.2.2.2.2.2.2.1,a6,()))))
def z1e1 (N:Nat):Hd (Int×(DT2×Unit)):=fun st K=>(unS SQ11 20 (restr [6,1,0,5,13,12,11] 0 st)).bind fun x=>z1fm N x K
def t2_62 (N:Nat):Tab (Int×(DT2×Unit)):=[]
theorem z1c2 {N:Nat}{c:Ctx}(hb:Base Tryd.prog (z1jd N) c):z10 Tryd.prog c (zl zmf z1am) (z1e1 N) :=
 z1h (s:=SQ11) (m:=20) (g:=z1fm N) [6,1,0,5,13,12,11] (zi hb N (t2_62 N) L_62 zmf TabOk.nil z1am _ rfl) (fun x K=>by kernel_rfl)
def z5m (N:Nat)(r_:DT2)(id_:(List UInt8))(x11:(List DT0))(x12:Int)(x13:Int)(rec:Int->Option (Int×(DT2×Unit)))(k0:Int->Option (Int×(DT2×Unit)))(k1:Option (Int×(DT2×Unit))):Option (Int×(DT2×Unit)):=cond (decide (x13<x12)) (cond (inR x13 (List.length x11)) (z5n N r_ id_ x13 (List.getD x11 (Int.toNat x13) ([],([],([],())))) x11 x12 x13 (fun x31=>cond x31 (k0 x13) (rec (IntKind.wrap IntKind.i64 (x13+1))))) none) k1
def z8b (N:Nat)(r_:DT2)(id_:(List UInt8))(x11:(List DT0))(x12:Int)(x13:Int)(k0:Int->Option (Int×(DT2×Unit)))(k1:Option (Int×(DT2×Unit))):Option (Int×(DT2×Unit)):=iter (fun (v:Int) r=>z5m N r_ id_ x11 x12 v (fun x13=>(r x13)) k0 k1) N x13
def z1g6 (N:Nat)(i:(DT2×(List UInt8)×(List DT0)×Int))(v:Int)(r:Int->Option (Int×(DT2×Unit)))(K:Ex->List A->Option (Int×(DT2×Unit))):Option (Int×(DT2×Unit)):=z5m N i.1 i.2.1 i.2.2.1 i.2.2.2 v (fun x13=>(r x13)) (fun a1=>(K .ret (mkS [(0,.box TT3),(3,.v (.int .i64))] 29 (i.1,a1,())))) (K (.exit 0) (mkS [(0,.box TT3)] 33 (i.1,())))
def z1el (N:Nat):Hd (Int×(DT2×Unit)):=fun st K=>(unS SQ52 20 (restr [13,12,11,1,0] 0 st)).bind fun x=>iter (fun v r=>z1g6 N ((fun x=>(x.1,x.2.1,x.2.2.1,x.2.2.2.1)) x) v r K) N ((fun x=>x.2.2.2.2.1) x)
def t1_62 (N:Nat):Tab (Int×(DT2×Unit)):=[(z1am,z1e1 N)]
theorem z1cm {N:Nat}{c:Ctx}(hb:Base Tryd.prog (z1jd N) c):z10 Tryd.prog c (zl zmf [0,1,0,1]) (z1el N) :=
 z2t (s:=SQ52) (m:=20) (z1g6 N) [13,12,11,1,0] N (fun x=>(x.1,x.2.1,x.2.2.1,x.2.2.2.1)) (fun x=>x.2.2.2.2.1) (fun i v=>(i.1,i.2.1,i.2.2.1,i.2.2.2,v,())) (fun _=>rfl) (zi hb N (t1_62 N) L_62 zmf (TabOk.cons (z1c2 hb) TabOk.nil) [0,0,1,0,1] _ rfl) (fun i v r K=>by kernel_rfl)
def z3p (N:Nat)(r_:DT2)(id_:(List UInt8)):Option (Int×(DT2×Unit)):=z8b N r_ id_ r_.1.2.1 (List.length r_.1.2.1:Int) 0 (fun x4=>some (x4,(r_,()))) (some ((-1),(r_,())))
def t_62 (N:Nat):Tab (Int×(DT2×Unit)):=[([0,1,0,1],z1el N)]
theorem z16z (N:Nat)(x:z1k z1ac):z3v (z1jd N) N (t_62 N) L_62 Tryd.f62 (mkS z1ac 0 x) (zbd (.v (.int .i64)) [(0,.box TT3)] 1)=z3p N x.1 x.2.1:=by kernel_rfl
def z7q (N:Nat):List A->Res:=z14 z1ac (fun x=>z3p N x.1 x.2.1) (zi4 (.v (.int .i64)) [(0,.box TT3)] 1)
theorem zew (N:Nat):Contract Tryd.prog glob 62 (z7q N) :=
 Contract.of (E:=z1jd N) (H:=t_62 N) (L:=L_62) (N:=N) (body:=zmf) (K:=(zbd (.v (.int .i64)) [(0,.box TT3)] 1)) (z1i1 N) Tryd.func62 (by kernel_rfl) (by decide) (fun _ hb=>(TabOk.cons (z1cm hb) TabOk.nil)) (fun x y h=>by rw[z16z];exact h) (z8m (s:=(.v (.int .i64))) (os:=[(0,.box TT3)]) (m:=1))
def z191:Code:=(Tryd.f45.body).getD .skip
def L_63:List (List Nat×List Nat):=[([0],[0,1]),([0,1],[4]),([1,1],[4])]
def E_63 (N:Nat):Env:=z1c tys glob [(14,z2u N)] [] [] [] false [] [(81,zf N),(83,zd N),(52,z8 N)]
theorem z1i0 (N:Nat):EnvOk Tryd.prog (E_63 N):=zh mixed zz (FnsOk.cons (z47 N) (FnsOk.nil)) (ItsOk.cons (zg N) (ItsOk.cons (ze N) (ItsOk.cons (za N) (ItsOk.nil))))
def z8y (N:Nat)(of:(List UInt8))(other:(List UInt8)):Option (List UInt8):=(z27 N of ([([(98:UInt8),(105:UInt8),(110:UInt8),(100:UInt8)]:List UInt8),other]:List (List UInt8))).bind fun y=>some y
def t_63 (N:Nat):Tab (List UInt8):=[]
theorem z16y (N:Nat)(x:z1k SQ2):z3v (E_63 N) N (t_63 N) L_63 Tryd.f45 (mkS SQ2 0 x) (z1r (.v .str) 2)=z8y N x.1 x.2.1:=by kernel_rfl
def zas (N:Nat):List A->Res:=z14 SQ2 (fun x=>z8y N x.1 x.2.1) (z3r (.v .str) 2)
theorem zhh (N:Nat):Contract Tryd.prog glob 45 (zas N) :=
 Contract.of (E:=E_63 N) (H:=t_63 N) (L:=L_63) (N:=N) (body:=z191) (K:=(z1r (.v .str) 2)) (z1i0 N) Tryd.func45 (by kernel_rfl) (by decide) (fun _ hb=>TabOk.nil) (fun x y h=>by rw[z16y];exact h) (zq (s:=(.v .str)) (m:=2))
def z190:Code:=(Tryd.f42.body).getD .skip
def L_64:List (List Nat×List Nat):=[([0],[0,1,5]),([0,1],[1,5,0]),([0,1,1],[8,0,5,7]),([0,0,1,1,1],[29,0,5,7]),([1,0,1,1,1],[0,5,7]),([0,0,1,0,1,1,1],[6,0]),([1,0,1,0,1,1,1],[6,0]),([0,1,1,1,1],[9,0,7]),([0,0,1,1,1,1,1],[35,0,9,7]),([1,0,1,1,1,1,1],[0,9,7]),([0,0,1,0,1,1,1,1,1],[6,0]),([1,0,1,0,1,1,1,1,1],[6,0]),(z13k,[0,9,7,10]),(z1h7,[0,7,10]),([0,1,1,1,1,1,1,1,1],[0,10,12,11]),(z1an,[10,0,12,11]),([0,0,1,1,1,1,1,1,1,1,1,1],[75,0,10,11]),([1,0,1,1,1,1,1,1,1,1,1,1],[0,10,11]),([0,0,1,0,1,1,1,1,1,1,1,1,1,1],[6,0]),([1,0,1,0,1,1,1,1,1,1,1,1,1,1],[6,0]),([0,1,1,1,1,1,1,1,1,1,1,1],[0]),([0,1,1,1,1,1,1,1,1,1,1,1,1],[6,0]),([1,1,1,1,1,1,1,1,1,1,1,1,1],[6,0])]
def E_64 (N:Nat):Env:=z1c tys glob [(45,zas N),(62,z7q N),(34,zea N),(20,zar N),(40,z8o N),(39,z66 N)] [(11,.str)] [] [0] false [] [(81,zf N),(83,zd N),(52,z8 N)]
theorem z1hz (N:Nat):EnvOk Tryd.prog (E_64 N):=zh mixed zz (FnsOk.cons (zhh N) (FnsOk.cons (zew N) (FnsOk.cons (zmc N) (FnsOk.cons (zhg N) (FnsOk.cons (ze1 N) (FnsOk.cons (z9s N) (FnsOk.nil))))))) (ItsOk.cons (zg N) (ItsOk.cons (ze N) (ItsOk.cons (za N) (ItsOk.nil))))
def z4b (N:Nat)(r_:DT2)(before:(List UInt8))(l:DT6):Option (Bool×(DT2×Unit)):=(z8x N before).bind fun y=>(z64 N y l.2.1).bind fun y1=>cond (y1.2.1 != 0) (some (false,((r_.1,(r_.2.1,(r_.2.2.1,(r_.2.2.2.1,((IntKind.wrap IntKind.i64 (r_.2.2.2.2.1+1)),r_.2.2.2.2.2))))),()))) ((z3p N (r_.1,(r_.2.1,(r_.2.2.1,(r_.2.2.2.1,((IntKind.wrap IntKind.i64 (r_.2.2.2.2.1+1)),r_.2.2.2.2.2))))) l.1).bind fun y2=>cond (decide (y2.1<0)) (some (false,(y2.2.1,()))) (cond (inR y2.1 (List.length y2.2.1.1.2.1)) (cond (inR y2.1 (List.length y2.2.1.2.1)) (cond (decide ((Int.toNat y2.1)<(List.length y2.2.1.2.1))) ((z3q N (y2.2.1.1,((List.set y2.2.1.2.1 (Int.toNat y2.1) true),y2.2.1.2.2)) y1.1 (List.getD y2.2.1.1.2.1 (Int.toNat y2.1) ([],([],([],()))))).bind fun y3=>(z8y N y3.2.1.1.1.2.2.1 y3.1.2.1).bind fun y4=>(z9l N (List.getD y2.2.1.1.2.1 (Int.toNat y2.1) ([],([],([],())))).2.2.1 y4).bind fun y5=>cond (!y5) (some (false,((y3.2.1.1,(y3.2.1.2.1,(y3.2.1.2.2.1,(y3.2.1.2.2.2.1,((IntKind.wrap IntKind.i64 (y3.2.1.2.2.2.2.1+1)),y3.2.1.2.2.2.2.2))))),()))) (cond (decide ((((List.length y3.2.1.2.2.1)+1)*48)<=70368744177664)) (some (true,((y3.2.1.1,(y3.2.1.2.1,((y3.2.1.2.2.1++([((List.getD y2.2.1.1.2.1 (Int.toNat y2.1) ([],([],([],())))).2.1,(y3.1.1,()))]:List ((List DT6)×((List (List UInt8))×Unit)))),(y3.2.1.2.2.2.1,((IntKind.wrap IntKind.i64 (y3.2.1.2.2.2.2.1+1)),y3.2.1.2.2.2.2.2))))),()))) none)) none) none) none))
def t_64 (N:Nat):Tab (Bool×(DT2×Unit)):=[]
theorem z16x (N:Nat)(x:z1k [(0,.box TT3),(0,.v .str),(0,.v TT8)]):z3v (E_64 N) N (t_64 N) L_64 Tryd.f42 (mkS [(0,.box TT3),(0,.v .str),(0,.v TT8)] 0 x) (zbd (.v .bool) [(0,.box TT3)] 2)=z4b N x.1 x.2.1 x.2.2.1:=by kernel_rfl
def z8c (N:Nat):List A->Res:=z14 [(0,.box TT3),(0,.v .str),(0,.v TT8)] (fun x=>z4b N x.1 x.2.1 x.2.2.1) (zi4 (.v .bool) [(0,.box TT3)] 2)
theorem zfm (N:Nat):Contract Tryd.prog glob 42 (z8c N) :=
 Contract.of (E:=E_64 N) (H:=t_64 N) (L:=L_64) (N:=N) (body:=z190) (K:=(zbd (.v .bool) [(0,.box TT3)] 2)) (z1hz N) Tryd.func42 (by kernel_rfl) (by decide) (fun _ hb=>TabOk.nil) (fun x y h=>by rw[z16x];exact h) (z8m (s:=(.v .bool)) (os:=[(0,.box TT3)]) (m:=2))
def ztz:Code:=(Tryd.f63.body).getD .skip
def L_65:List (List Nat×List Nat):=[([0],[0,1]),([0,0,1],[8,7,1,0]),([0,1,0,1],[8,7,1,0]),([0,0,0,1,0,1],[9,8,1,0,7]),([0,1,0,0,1,0,1],[8,1,0,7]),([1,0,1,0,0,1,0,1],[]),([0,0,0,1,1,0,0,1,0,1],[1,0,5,8,7]),(z1am,[16,5,8,7,1,0]),([1,1,0,0,1,1,0,0,1,0,1],[8,7,1,0]),([0,0,1,1,0,0,1,1,0,0,1,0,1],[4]),([1,0,1,1,0,0,1,1,0,0,1,0,1],[4]),([0,1,1,0,0,1,0,1],[8,7,1,0]),([1,1,1,0,0,1,0,1],[8,7,1,0]),([1,0,1],[]),([0,1,1],[4]),([1,1,1],[4])]
def E_65 (N:Nat):Env:=z1c tys glob [] [] [] [] false [] [(81,zf N),(83,zd N),(52,z8 N)]
theorem z1hy (N:Nat):EnvOk Tryd.prog (E_65 N):=zh mixed zz (FnsOk.nil) (ItsOk.cons (zg N) (ItsOk.cons (ze N) (ItsOk.cons (za N) (ItsOk.nil))))
def z3i (N:Nat)(s:(List Bool))(v_:Bool)(x7:Int)(x8:Int)(rec:Int->Option Int)(k0:Int->Option Int)(k1:Option Int):Option Int:=cond (decide (x8<x7)) (cond (inR x8 (List.length s)) (cond (v_ == (List.getD s (Int.toNat x8) false)) (k0 x8) (rec (IntKind.wrap IntKind.i64 (x8+1)))) none) k1
def z5s (N:Nat)(s:(List Bool))(v_:Bool)(x7:Int)(x8:Int)(k0:Int->Option Int)(k1:Option Int):Option Int:=iter (fun (v:Int) r=>z3i N s v_ x7 v (fun x8=>(r x8)) k0 k1) N x8
def z1g5 (N:Nat)(i:((List Bool)×Bool×Int))(v:Int)(r:Int->Option Int)(K:Ex->List A->Option Int):Option Int:=z3i N i.1 i.2.1 i.2.2 v (fun x8=>(r x8)) (fun a0=>(K .ret (mkS [(4,.v (.int .i64))] 14 (a0,())))) (K (.exit 0) (mkS [] 19 ()))
def z1ek (N:Nat):Hd Int:=fun st K=>(unS [(0,.v (.sl .bool)),(0,.v .bool),(5,.v (.int .i64)),(0,.v (.int .i64))] 10 (restr [8,7,1,0] 0 st)).bind fun x=>iter (fun v r=>z1g5 N ((fun x=>(x.1,x.2.1,x.2.2.1)) x) v r K) N ((fun x=>x.2.2.2.1) x)
def t1_65 (N:Nat):Tab Int:=[]
theorem z1cl {N:Nat}{c:Ctx}(hb:Base Tryd.prog (E_65 N) c):z10 Tryd.prog c (zl ztz [0,1,0,1]) (z1ek N) :=
 z2t (s:=[(0,.v (.sl .bool)),(0,.v .bool),(5,.v (.int .i64)),(0,.v (.int .i64))]) (m:=10) (z1g5 N) [8,7,1,0] N (fun x=>(x.1,x.2.1,x.2.2.1)) (fun x=>x.2.2.2.1) (fun i v=>(i.1,i.2.1,i.2.2,v,())) (fun _=>rfl) (zi hb N (t1_65 N) L_65 ztz TabOk.nil [0,0,1,0,1] _ rfl) (fun i v r K=>by kernel_rfl)
def z29 (N:Nat)(s:(List Bool))(v_:Bool):Option Int:=z5s N s v_ (List.length s:Int) 0 (fun x4=>some x4) (some (-1))
def t_65 (N:Nat):Tab Int:=[([0,1,0,1],z1ek N)]
theorem z16w (N:Nat)(x:z1k z1ad):z3v (E_65 N) N (t_65 N) L_65 Tryd.f63 (mkS z1ad 0 x) (z1r (.v (.int .i64)) 2)=z29 N x.1 x.2.1:=by kernel_rfl
def z5e (N:Nat):List A->Res:=z14 z1ad (fun x=>z29 N x.1 x.2.1) (z3r (.v (.int .i64)) 2)
theorem zae (N:Nat):Contract Tryd.prog glob 63 (z5e N) :=
 Contract.of (E:=E_65 N) (H:=t_65 N) (L:=L_65) (N:=N) (body:=ztz) (K:=(z1r (.v (.int .i64)) 2)) (z1hy N) Tryd.func63 (by kernel_rfl) (by decide) (fun _ hb=>(TabOk.cons (z1cl hb) TabOk.nil)) (fun x y h=>by rw[z16w];exact h) (zq (s:=(.v (.int .i64))) (m:=2))
def z18z:Code:=(Tryd.f43.body).getD .skip
def L_66:List (List Nat×List Nat):=[([0],[0,1]),([0,1],[4]),([1,1],[4])]
def E_66 (N:Nat):Env:=z1c tys glob [(63,z5e N)] [] [] [] false [] [(81,zf N),(83,zd N),(52,z8 N)]
theorem z1hx (N:Nat):EnvOk Tryd.prog (E_66 N):=zh mixed zz (FnsOk.cons (zae N) (FnsOk.nil)) (ItsOk.cons (zg N) (ItsOk.cons (ze N) (ItsOk.cons (za N) (ItsOk.nil))))
def z1w (N:Nat)(s:(List Bool))(v_:Bool):Option Bool:=(z29 N s v_).bind fun y=>some (decide (0<=y))
def t_66 (N:Nat):Tab Bool:=[]
theorem z16v (N:Nat)(x:z1k z1ad):z3v (E_66 N) N (t_66 N) L_66 Tryd.f43 (mkS z1ad 0 x) (z1r (.v .bool) 2)=z1w N x.1 x.2.1:=by kernel_rfl
def z4c (N:Nat):List A->Res:=z14 z1ad (fun x=>z1w N x.1 x.2.1) (z3r (.v .bool) 2)
theorem z8i (N:Nat):Contract Tryd.prog glob 43 (z4c N) :=
 Contract.of (E:=E_66 N) (H:=t_66 N) (L:=L_66) (N:=N) (body:=z18z) (K:=(z1r (.v .bool) 2)) (z1hx N) Tryd.func43 (by kernel_rfl) (by decide) (fun _ hb=>TabOk.nil) (fun x y h=>by rw[z16v];exact h) (zq (s:=(.v .bool)) (m:=2))
def zcq:Code:=(Tryd.f23.body).getD .skip
def z1ap:List (List Nat×List Nat):=[([0],[0,1]),([0,0,1],[0,6,5]),([0,0,1,0,1],[31,0,5]),([1,0,1,0,1],[0,5]),([0,0,1,0,1,0,1],[4,0]),([1,0,1,0,1,0,1],[4,0]),([0,1,1,0,1],[0]),([0,1,1,1,0,1],[0,7]),([0,0,1,1,1,1,1,0,1],[8,0,7]),(z1ak,[8,0,7]),([0,0,0,0,1,0,1,1,1,1,1,0,1],[50,0,8,7]),([1,0,0,0,1,0,1,1,1,1,1,0,1],[0,8,7]),([1,1,0,0,0,1,0,1,1,1,1,1,0,1],[7,0]),([0,0,0,1,0,0,1,0,1,1,1,1,1,0,1],[9,0,8,7]),([0,1,0,0,1,0,0,1,0,1,1,1,1,1,0,1],z13l),(PQ66,z13l),([0,0,0,1,1,0,0,1,0,0,1,0,1,1,1,1,1,0,1],[64,63,61,0,62,9,8,7]),([0,1,0,0,1,1,0,0,1,0,0,1,0,1,1,1,1,1,0,1],[63,61,0,62,9,8,7]),([1,0,1,0,0,1,1,0,0,1,0,0,1,0,1,1,1,1,1,0,1],[8,0,7]),([0,0,0,1,1,0,0,1,1,0,0,1,0,0,1,0,1,1,1,1,1,0,1],[11,0,63,62,61,9,8,7,10]),([0,0,1,0,0,1,1,0,0,1,1,0,0,1,0,0,1,0,1,1,1,1,1,0,1],[69,0,11,63,62,61,9,8,7,10]),([1,0,1,0,0,1,1,0,0,1,1,0,0,1,0,0,1,0,1,1,1,1,1,0,1],[0,9,10,11,63,62,61,8,7]),([0,0,1,0,1,0,0,1,1,0,0,1,1,0,0,1,0,0,1,0,1,1,1,1,1,0,1],z13l),([1,0,1,0,1,0,0,1,1,0,0,1,1,0,0,1,0,0,1,0,1,1,1,1,1,0,1],z13l),([0,1,1,0,0,1,1,0,0,1,1,0,0,1,0,0,1,0,1,1,1,1,1,0,1],[89,0,63,62,61,9,8,7]),([1,1,1,0,0,1,1,0,0,1,1,0,0,1,0,0,1,0,1,1,1,1,1,0,1],z13l),([0,0,1,1,1,0,0,1,1,0,0,1,1,0,0,1,0,0,1,0,1,1,1,1,1,0,1],[7,0]),([1,0,1,1,1,0,0,1,1,0,0,1,1,0,0,1,0,0,1,0,1,1,1,1,1,0,1],[7,0]),([0,1,1,0,0,1,1,0,0,1,0,0,1,0,1,1,1,1,1,0,1],z13l),([1,1,1,0,0,1,1,0,0,1,0,0,1,0,1,1,1,1,1,0,1],z13l),([1,1,0,0,1,0,0,1,0,1,1,1,1,1,0,1],[8,0,7]),([0,1,0,0,1,0,1,1,1,1,1,0,1],[8,0,7]),([1,1,0,0,1,0,1,1,1,1,1,0,1],[8,0,7]),([1,0,1,1,1,1,1,0,1],[7,0]),(PQ77,[99,0]),([1,0,1,1,1,1,1,1,0,1],[0]),([0,0,1,0,1,1,1,1,1,1,0,1],[4,0]),([1,0,1,0,1,1,1,1,1,1,0,1],[4,0]),([0,1,1,1,1,1,1,1,0,1],[4,0]),([1,1,1,1,1,1,1,1,0,1],[4,0]),([1],[4,0])]
def z1a4 (N:Nat):Env:=z1c tys glob [(43,z4c N),(42,z8c N),(41,zf2 N),(40,z8o N),(39,z66 N)] [(5,.str)] [] [0] false [(98,.unit)] [(81,zf N),(83,zd N),(52,z8 N)]
theorem z1hw (N:Nat):EnvOk Tryd.prog (z1a4 N):=zh mixed zz (FnsOk.cons (z8i N) (FnsOk.cons (zfm N) (FnsOk.cons (zoi N) (FnsOk.cons (ze1 N) (FnsOk.cons (z9s N) (FnsOk.nil)))))) (ItsOk.cons (zg N) (ItsOk.cons (ze N) (ItsOk.cons (za N) (ItsOk.nil))))
def z5h (N:Nat)(complete:Bool)(i:Int)(t:((List DT6)×((List (List UInt8))×Unit)))(x61:(List DT6))(x62:Int)(r_:DT2)(x63:Int)(rec:DT2->Int->Option (Int×(DT2×Unit)))(k0:DT2->Bool->Option (Int×(DT2×Unit)))(k1:DT2->Option (Int×(DT2×Unit))):Option (Int×(DT2×Unit)):=cond (decide (x63<x62)) (cond (inR x63 (List.length x61)) (cond (eqD (T.pair T.str (T.pair T.str T.unit)) (List.getD x61 (Int.toNat x63) ([],([],()))) ((List.getD x61 (Int.toNat x63) ([],([],()))).1,([],()))) (cond (decide ((((List.length r_.2.2.2.1)+1)*16)<=70368744177664)) (rec (r_.1,(r_.2.1,(r_.2.2.1,((r_.2.2.2.1++([(List.getD x61 (Int.toNat x63) ([],([],()))).1]:List (List UInt8))),r_.2.2.2.2)))) (IntKind.wrap IntKind.i64 (x63+1))) none) (cond (inR x63 (List.length t.2.1)) ((z4b N r_ (List.getD t.2.1 (Int.toNat x63) []) (List.getD x61 (Int.toNat x63) ([],([],())))).bind fun y=>cond (!y.1) (k0 y.2.1 false) (rec y.2.1 (IntKind.wrap IntKind.i64 (x63+1)))) none)) none) (k1 r_)
def z3n (N:Nat)(r_:DT2)(complete:Bool)(i:Int)(t:((List DT6)×((List (List UInt8))×Unit)))(x61:(List DT6))(x62:Int)(x63:Int)(k0:DT2->Bool->Option (Int×(DT2×Unit)))(k1:DT2->Option (Int×(DT2×Unit))):Option (Int×(DT2×Unit)):=iter (fun (v:(DT2×Int)) r=>z5h N complete i t x61 x62 v.1 v.2 (fun r_ x63=>(r (r_,x63))) k0 k1) N (r_,x63)
def z1fg (N:Nat)(i:(Bool×Int×((List DT6)×((List (List UInt8))×Unit))×(List DT6)×Int))(v:(DT2×Int))(r:(DT2×Int)->Option (Int×(DT2×Unit)))(K:Ex->List A->Option (Int×(DT2×Unit))):Option (Int×(DT2×Unit)):=z5h N i.1 i.2.1 i.2.2.1 i.2.2.2.1 i.2.2.2.2 v.1 v.2 (fun r_ x63=>(r (r_,x63))) (fun a0 a1=>(K (.exit 0) (mkS z13h 92 (a0,a1,())))) (fun a0=>(K (.exit 2) (mkS SQ65 91 (a0,i.1,i.2.1,()))))
def z1dv (N:Nat):Hd (Int×(DT2×Unit)):=fun st K=>(unS SQ13 36 (restr z13l 0 st)).bind fun x=>iter (fun v r=>z1fg N ((fun x=>(x.2.1,x.2.2.1,x.2.2.2.1,x.2.2.2.2.1,x.2.2.2.2.2.1)) x) v r K) N ((fun x=>(x.1,x.2.2.2.2.2.2.1)) x)
def t3_67 (N:Nat):Tab (Int×(DT2×Unit)):=[]
theorem z1bw {N:Nat}{c:Ctx}(hb:Base Tryd.prog (z1a4 N) c):z10 Tryd.prog c (zl zcq PQ66) (z1dv N) :=
 z2t (s:=SQ13) (m:=36) (z1fg N) z13l N (fun x=>(x.2.1,x.2.2.1,x.2.2.2.1,x.2.2.2.2.1,x.2.2.2.2.2.1)) (fun x=>(x.1,x.2.2.2.2.2.2.1)) (fun i v=>(v.1,i.1,i.2.1,i.2.2.1,i.2.2.2.1,i.2.2.2.2,v.2,())) (fun _=>rfl) (zi hb N (t3_67 N) z1ap zcq TabOk.nil [0,0,1,1,0,0,1,0,0,1,0,1,1,1,1,1,0,1] _ rfl) (fun i v r K=>by kernel_rfl)
def z5i (N:Nat)(complete:Bool)(r_:DT2)(i:Int)(rec:DT2->Int->Option (Int×(DT2×Unit)))(k0:DT2->Bool->Option (Int×(DT2×Unit))):Option (Int×(DT2×Unit)):=cond (decide (i<(List.length r_.2.2.1:Int))) (cond (inR i (List.length r_.2.2.1)) (cond (decide ((Int.toNat i)<(List.length r_.2.2.1))) (z3n N r_ complete i (List.getD r_.2.2.1 (Int.toNat i) ([],([],()))) (List.getD r_.2.2.1 (Int.toNat i) ([],([],()))).1 (((List.length (List.getD r_.2.2.1 (Int.toNat i) ([],([],()))).1):Nat):Int) 0 (fun r_1 complete1=>k0 r_1 complete1) (fun r_2=>rec r_2 (IntKind.wrap IntKind.i64 (i+1)))) none) none) (k0 r_ complete)
def z5k (N:Nat)(r_:DT2)(complete:Bool)(i:Int)(k0:DT2->Bool->Option (Int×(DT2×Unit))):Option (Int×(DT2×Unit)):=iter (fun (v:(DT2×Int)) r=>z5i N complete v.1 v.2 (fun r_ i=>(r (r_,i))) k0) N (r_,i)
def z1fl (N:Nat)(i:Bool)(v:(DT2×Int))(r:(DT2×Int)->Option (Int×(DT2×Unit)))(K:Ex->List A->Option (Int×(DT2×Unit))):Option (Int×(DT2×Unit)):=z5i N i v.1 v.2 (fun r_ i=>(r (r_,i))) (fun a0 a1=>(K (.exit 0) (mkS z13h 92 (a0,a1,()))))
def z1e0 (N:Nat):Hd (Int×(DT2×Unit)):=fun st K=>(unS SQ65 91 (restr [8,0,7] 0 st)).bind fun x=>iter (fun v r=>z1fl N ((fun x=>x.2.1) x) v r K) N ((fun x=>(x.1,x.2.2.1)) x)
def t2_67 (N:Nat):Tab (Int×(DT2×Unit)):=[(PQ66,z1dv N)]
theorem z1c1 {N:Nat}{c:Ctx}(hb:Base Tryd.prog (z1a4 N) c):z10 Tryd.prog c (zl zcq z1ak) (z1e0 N) :=
 z2t (s:=SQ65) (m:=91) (z1fl N) [8,0,7] N (fun x=>x.2.1) (fun x=>(x.1,x.2.2.1)) (fun i v=>(v.1,i,v.2,())) (fun _=>rfl) (zi hb N (t2_67 N) z1ap zcq (TabOk.cons (z1bw hb) TabOk.nil) [0,0,1,0,1,1,1,1,1,0,1] _ rfl) (fun i v r K=>by kernel_rfl)
def z5l (N:Nat)(r_:DT2)(complete:Bool)(k0:DT2->Bool->Option (Int×(DT2×Unit))):Option (Int×(DT2×Unit)):=z5k N r_ complete 0 (fun r_1 complete1=>k0 r_1 complete1)
def z1g4 (N:Nat)(x:z1k z13h)(K:Ex->List A->Option (Int×(DT2×Unit))):Option (Int×(DT2×Unit)):=z5l N x.1 x.2.1 (fun a0 a1=>(K .normal (mkS z13h 92 (a0,a1,()))))
def z1ej (N:Nat):Hd (Int×(DT2×Unit)):=fun st K=>(unS z13h 92 (restr [0,7] 0 st)).bind fun x=>z1g4 N x K
def t1_67 (N:Nat):Tab (Int×(DT2×Unit)):=[(z1ak,z1e0 N)]
theorem z1ck {N:Nat}{c:Ctx}(hb:Base Tryd.prog (z1a4 N) c):z10 Tryd.prog c (zl zcq z1ah) (z1ej N) :=
 z1h (s:=z13h) (m:=92) (g:=z1g4 N) [0,7] (zi hb N (t1_67 N) z1ap zcq (TabOk.cons (z1c1 hb) TabOk.nil) z1ah _ rfl) (fun x K=>by kernel_rfl)
def z5j (N:Nat)(r_:DT2)(complete:Bool)(k0:Bool->Option (Int×(DT2×Unit))):Option (Int×(DT2×Unit)):=cond (!complete) (k0 true) ((z1w N r_.2.1 false).bind fun y=>k0 y)
def z1fd (N:Nat)(x:z1k z13h)(K:Ex->List A->Option (Int×(DT2×Unit))):Option (Int×(DT2×Unit)):=z5j N x.1 x.2.1 (fun a1=>(K .normal (mkS [(0,.box TT3),(98,.v .bool)] 0 (x.1,a1,()))))
def z1ds (N:Nat):Hd (Int×(DT2×Unit)):=fun st K=>(unS z13h 92 (restr [7,0] 0 st)).bind fun x=>z1fd N x K
def t4_67 (N:Nat):Tab (Int×(DT2×Unit)):=[]
theorem z1bt {N:Nat}{c:Ctx}(hb:Base Tryd.prog (z1a4 N) c):z10 Tryd.prog c (zl zcq PQ77) (z1ds N) :=
 z1h (s:=z13h) (m:=92) (g:=z1fd N) [7,0] (zi hb N (t4_67 N) z1ap zcq TabOk.nil PQ77 _ rfl) (fun x K=>by kernel_rfl)
def z3o (N:Nat)(r_:DT2)(key:(List UInt8)):Option (Int×(DT2×Unit)):=(z3q N r_ key r_.1.1).bind fun y=>(z9l N y.2.1.1.1.2.2.1 y.1.2.1).bind fun y1=>cond (!y1) (some (8,(y.2.1,()))) (z5l N (y.2.1.1,(y.2.1.2.1,(([(y.2.1.1.1.2.1,(y.1.1,()))]:List ((List DT6)×((List (List UInt8))×Unit))),y.2.1.2.2.2))) true (fun r_1 complete=>z5j N r_1 complete (fun x99=>cond x99 (some (11,(r_1,()))) (some (0,(r_1,()))))))
def t_67 (N:Nat):Tab (Int×(DT2×Unit)):=[(z1ah,z1ej N),(PQ77,z1ds N)]
theorem z16u (N:Nat)(x:z1k z1ac):z3v (z1a4 N) N (t_67 N) z1ap Tryd.f23 (mkS z1ac 0 x) (zbd (.v (.int .i64)) [(0,.box TT3)] 1)=z3o N x.1 x.2.1:=by kernel_rfl
def z7p (N:Nat):List A->Res:=z14 z1ac (fun x=>z3o N x.1 x.2.1) (zi4 (.v (.int .i64)) [(0,.box TT3)] 1)
theorem zev (N:Nat):Contract Tryd.prog glob 23 (z7p N) :=
 Contract.of (E:=z1a4 N) (H:=t_67 N) (L:=z1ap) (N:=N) (body:=zcq) (K:=(zbd (.v (.int .i64)) [(0,.box TT3)] 1)) (z1hw N) Tryd.func23 (by kernel_rfl) (by decide) (fun _ hb=>(TabOk.cons (z1ck hb) (TabOk.cons (z1bt hb) TabOk.nil))) (fun x y h=>by rw[z16u];exact h) (z8m (s:=(.v (.int .i64))) (os:=[(0,.box TT3)]) (m:=1))
def z18y:Code:=(Tryd.f11.body).getD .skip
def L_68:List (List Nat×List Nat):=[([0],[3,0]),([0,0,1],[10,3,0]),([1,0,1],[3,0]),([0,0,1,0,1],[4,5]),([1,0,1,0,1],[4,5]),([0,1,1],[6,0]),([0,0,1,1,1],[7,6]),([0,1,0,1,1,1],[17,7,6]),([1,1,0,1,1,1],[6]),([0,0,1,1,0,1,1,1],[4,5]),([1,0,1,1,0,1,1,1],[4,5]),([0,1,1,1,1],[4,5]),([1,1,1,1,1],[4,5])]
def E_68 (N:Nat):Env:=z1c tys glob [(23,z7p N),(22,zaz N),(21,zax N)] [] [] [] false [] [(81,zf N),(83,zd N),(52,z8 N)]
theorem z1hv (N:Nat):EnvOk Tryd.prog (E_68 N):=zh mixed zz (FnsOk.cons (zev N) (FnsOk.cons (zjq N) (FnsOk.cons (zjo N) (FnsOk.nil)))) (ItsOk.cons (zg N) (ItsOk.cons (ze N) (ItsOk.cons (za N) (ItsOk.nil))))
def z21 (N:Nat)(key:(List UInt8))(b:zio):Option ((List (List UInt8))×Int×Unit):=(z6k N b).bind fun y=>cond (!y) (some ([],(3,()))) ((z52 N b).bind fun y1=>(z3o N y1 key).bind fun y2=>cond (y2.1 != 0) (some ([],(y2.1,()))) (some (y2.2.1.2.2.2.1,(0,()))))
def t_68 (N:Nat):Tab ((List (List UInt8))×Int×Unit):=[]
theorem z16t (N:Nat)(x:z1k [(0,.v .str),(0,.v zoh)]):z3v (E_68 N) N (t_68 N) L_68 Tryd.f11 (mkS [(0,.v .str),(0,.v zoh)] 0 x) (z1r (.tup [(.sl .str),(.int .i64)]) 2)=z21 N x.1 x.2.1:=by kernel_rfl
def z79 (N:Nat):List A->Res:=z14 [(0,.v .str),(0,.v zoh)] (fun x=>z21 N x.1 x.2.1) (z3r (.tup [(.sl .str),(.int .i64)]) 2)
theorem zcr (N:Nat):Contract Tryd.prog glob 11 (z79 N) :=
 Contract.of (E:=E_68 N) (H:=t_68 N) (L:=L_68) (N:=N) (body:=z18y) (K:=(z1r (.tup [(.sl .str),(.int .i64)]) 2)) (z1hv N) Tryd.func11 (by kernel_rfl) (by decide) (fun _ hb=>TabOk.nil) (fun x y h=>by rw[z16t];exact h) (zq (s:=(.tup [(.sl .str),(.int .i64)])) (m:=2))
def Calm (w:World)(S:Hp)(w':World):Prop:=∃ S',WF w (fun _=>False) w'/\Lift.Sub S S'/\Lift.Sub S' (hp w')/\∀ k,S' k≠none->S k≠none\/w.heap.size<=k
theorem Calm.refl {w:World}{S:Hp}(h:Lift.Sub S (hp w)):Calm w S w:=⟨S,WF.refl _ _,Lift.Sub.refl S,h,fun _ h=>.inl h⟩
theorem Calm.cell {w w':World}{S:Hp}{p:Addr}{v:Value}(h:Calm w S w')(hc:w.cell? p=some v):w'.cell? p=some v:=by
 obtain⟨S',h1,_⟩:=h;have hlt:p.block<w.heap.size:=by
  cases hh:w.heap[p.block]? with
  | none=>simp[World.cell?,hh] at hc
  | some o=>exact (Array.getElem?_eq_some_iff.1 hh).1
 have:=h1.same p.block hlt (fun h=>h);simp only[World.cell?] at hc ⊢;rw[this];exact hc
end
end Go.Proofs.YtlhdohlpilippaaDoorLg
