import Derived.Test.YthdblfmolchhpaaGreatDoorLgPrBt1
import Derived.Test.YthdblfmolchhpaaGreatDoorLgPrBt2
import Derived.LaidEql
import Derived.Stop.Asserts
import Derived.RowKitTokens
import Derived.WalkKit
import Derived.Tactics
import Derived.Tactics2
import Derived.Defers
import Derived.Lib.Hide
import Derived.Below
import Derived.Recover
import Derived.Orders
import Derived.WalkSmall
import Derived.LoopN
import Derived.Deep.RegionHeld3
import Derived.Laws.IdiomStrings
import Derived.Test.YthdblfmolchhpaaGreatDoorLgW
import Derived.Test.YthdblfmolchhpaaGreatDoorChecked
import Derived.KernelRfl
set_option linter.all false
set_option maxRecDepth 100000
namespace Go.Proofs.YthdblfmolchhpaaGreatDoorLg
noncomputable section
open Go Go.Lift
abbrev DT0:Type:=((((List UInt8)×((List ((List UInt8)×((List UInt8)×Unit)))×((List UInt8)×Unit)))×((List ((List UInt8)×((List ((List UInt8)×((List UInt8)×Unit)))×((List UInt8)×Unit))))×Unit))×((List Bool)×((List ((List ((List UInt8)×((List UInt8)×Unit)))×((List (List UInt8))×Unit)))×((List (List UInt8))×(Int×Unit)))))
abbrev TT1:T:=(.pair .str (.pair (.sl (.pair .str (.pair .str .unit))) (.pair .str .unit)))
abbrev TT2:T:=(.pair (.pair TT1 (.pair (.sl TT1) .unit)) (.pair (.own .bool) (.pair (.own (.pair (.sl (.pair .str (.pair .str .unit))) (.pair (.sl .str) .unit))) (.pair (.own .str) (.pair (.int .i64) .unit)))))
abbrev TT3:T:=(.pair .str (.pair (.int .i64) (.pair (.int .i64) (.pair (.sl (.pair (.int .i64) (.pair .str .unit))) .unit))))
abbrev DT4:Type:=((List UInt8)×Unit)
abbrev TT5:T:=(.pair .bool (.pair (.arr 8 (.int .u32)) (.pair .str (.pair (.int .i64) .unit))))
abbrev DT6:Type:=((List UInt8)×((List ((List UInt8)×DT4))×DT4))
abbrev TT7:T:=(.pair (.int .i64) (.pair .str (.pair (.int .i64) (.pair (.int .i64) (.pair .str .unit)))))
abbrev DT8:Type:=((List UInt8)×(Int×(Int×((List (Int×DT4))×Unit))))
abbrev DT9:Type:=(Bool×((List Int)×((List UInt8)×(Int×Unit))))
abbrev z6c:Type:=(Int×((List UInt8)×(Int×(Int×DT4))))
abbrev zen:T:=(.pair (.self 72) (.pair (.own (.byt 5)) .unit))
abbrev zfq:T:=(.pair TT1 (.pair (.sl TT1) .unit))
abbrev z7w:Type:=(Unit×((List Int)×Unit))
abbrev zkq:T:=(.pair (.sl TT3) (.pair (.int .i64) .unit))
abbrev zgo:T:=(.pair .str (.pair .str .unit))
abbrev zid:Type:=((List UInt8)×(DT9×Unit))
abbrev zgq:Type:=(List ((List UInt8)×DT4))
abbrev z188:T:=(.pair (.ptr .str) (.pair (.ptr (.sl zgo)) (.pair (.ptr (.fn 67 .unit)) .unit)))
abbrev z1e9:List Nat:=[33,32,31,4,3,1]
abbrev z1ea:List Nat:=[0,0,1,0,1,1,1]
abbrev z13i:List Nat:=[0,0,0,1,0,1,1]
abbrev z1ed:List Nat:=[15,14,13,3,5,0]
abbrev PQ8:List Nat:=[0,1,0,1,1,1,1]
abbrev z1eb:List Nat:=[0,0,1,0,1,1,1,1]
abbrev z16p:List Nat:=[63,62,61,0,9,8,7]
abbrev zzg:List Nat:=[0,1,0,0,1,0,1,1]
abbrev z18a:List Nat:=[27,26,25,3,14,13,12]
abbrev z18b:List Nat:=[0,1,0,0,1,0,1,1,1]
abbrev z16q:List Nat:=[1,1,1,0,0,1,0,1,1]
abbrev z16r:List Nat:=[0,1,1,0,0,1,0,1,1]
abbrev z13j:List Nat:=[1,0,1,0,0,1,0,1,1]
abbrev z1f9:List (Nat×AS):=[(0,.v .str),(0,.v zfq)]
abbrev SQ1:List (Nat×AS):=[(0,.v .str),(0,.v .str)]
abbrev z1fa:List (Nat×AS):=[(0,.box TT2),(0,.v .str)]
abbrev z1e8:List (Nat×AS):=[(0,.box TT5),(0,.v .str)]
abbrev PQ74:List Nat:=[0,0,1,1,1,1,1,1,0,1]
abbrev PQ73:List Nat:=[0,1,0,0,1,0,1,1,1,1]
abbrev z189:List (Nat×AS):=[(0,.v .str),(2,.box zfq)]
abbrev z16n:List (Nat×AS):=[(0,.box TT2),(6,.v .bool)]
abbrev PQ70:List Nat:=[0,0,0,1,0,0,1,0,1,1,1]
abbrev PQ69:List Nat:=[1,1,1,0,0,1,0,1,1,1,1]
abbrev PQ68:List Nat:=[0,1,1,0,0,1,0,1,1,1,1]
abbrev PQ67:List Nat:=[1,0,1,0,0,1,0,1,1,1,1]
abbrev z1fh:List Nat:=[0,1,0,0,1,1,0,0,1,0,1]
abbrev z1nj:List Nat:=[1,0,0,1,1,0,0,1,0,1,1]
abbrev z1ec:List Nat:=[31,30,29,3,5,14,13,12,1]
abbrev z16s:List Nat:=[0,0,0,1,1,0,0,1,0,1,1]
abbrev z1fb:List (Nat×AS):=[(0,.v .str),(0,.v (.int .i64))]
abbrev PQ65:List Nat:=[0,0,0,0,1,0,0,1,0,1,1,1]
abbrev z1fc:List (Nat×AS):=[(0,.v (.sl .bool)),(0,.v .bool)]
abbrev z1fd:List (Nat×AS):=[(0,.v (.int .i32)),(0,.v .bool)]
abbrev z1ee:List Nat:=[0,1,0,0,1,1,0,0,1,0,1,1]
abbrev SQ61:List (Nat×AS):=[(1,.box (.int .i64)),(0,.box TT3)]
abbrev PQ57:List Nat:=[0,0,0,1,1,0,0,1,0,1,1,1,1]
abbrev PQ71:List Nat:=[0,1,1,1,0,0,1,1,0,0,1,0,1,1]
abbrev z1nk:List Nat:=[0,1,0,0,1,1,0,0,1,0,1,1,1,1]
abbrev z1fe:List (Nat×AS):=[(0,.v .str),(0,.v .str),(0,.v .str)]
abbrev z1ff:List (Nat×AS):=[(0,.v (.int .u32)),(0,.v (.int .i64))]
abbrev SQ0:List (Nat×AS):=[(0,.v (.int .i64)),(0,.v (.int .i64))]
abbrev z1fg:List (Nat×AS):=[(0,.v (.arr 8 (.int .u32))),(0,.v .str)]
abbrev PQ66:List Nat:=[0,1,1,1,0,0,1,1,0,0,1,0,1,1,1]
abbrev SQ62:List (Nat×AS):=[(0,.v .str),(0,.v (.int .i64)),(0,.v .str)]
abbrev SQ5:List (Nat×AS):=[(0,.v .str),(0,.v .str),(0,.v (.int .i64))]
abbrev PQ60:List Nat:=[0,1,1,0,0,1,0,0,1,0,1,1,1,1,1,0,1]
abbrev SQ59:List (Nat×AS):=[(0,.box TT2),(6,.v .bool),(0,.v (.int .i64))]
abbrev SQ58:List (Nat×AS):=[(0,.v (.arr 8 (.int .u32))),(0,.v (.int .u32))]
abbrev SQ54:List (Nat×AS):=[(0,.v .str),(0,.v (.int .i64)),(0,.v (.int .i64))]
abbrev SQ2:List (Nat×AS):=[(1,.box TT1),(1,.v (.int .i64)),(0,.v (.int .i64))]
abbrev SQ51:List (Nat×AS):=[(0,.v (.int .i64)),(0,.box (.int .i64)),(0,.box TT3)]
abbrev SQ3:List (Nat×AS):=[(0,.box (.int .i64)),(0,.box .str),(0,.box .str),(0,.box .str)]
abbrev SQ27:List (Nat×AS):=[(3,.v (.int .i64)),(8,.v (.sl TT1)),(0,.v (.int .i64)),(0,.v (.int .i64))]
abbrev SQ52:List (Nat×AS):=[(2,.box (.arr 64 (.int .u32))),(0,.box (.arr 64 (.int .u32))),(2,.v (.int .i64))]
abbrev SQ20:List (Nat×AS):=[(0,.v (.pair .str (.pair (.int .i64) (.pair (.int .i64) .unit)))),(0,.v (.int .i64))]
abbrev SQ50:List (Nat×AS):=[(0,.box TT2),(0,.v .str),(9,.v (.sl TT1)),(0,.v (.int .i64)),(0,.v (.int .i64))]
abbrev SQ49:List (Nat×AS):=[(0,.v .str),(0,.v .str),(3,.v (.int .u8)),(7,.v (.int .i64)),(0,.v (.int .i64))]
abbrev SQ48:List (Nat×AS):=[(0,.v .str),(0,.v .str),(3,.row (.int .u8)),(8,.v (.int .i64)),(0,.v (.int .i64))]
abbrev SQ16:List (Nat×AS):=[(1,.box zkq),(1,.row TT7),(8,.v (.sl TT3)),(0,.v (.int .i64)),(0,.v (.int .i64))]
abbrev SQ44:List (Nat×AS):=[(1,.v .str),(0,.box (.arr 8 (.int .u32))),(1,.box (.arr 8 (.int .u32))),(0,.v (.int .i64))]
abbrev SQ43:List (Nat×AS):=[(0,.v .str),(1,.box (.arr 64 (.int .u32))),(0,.box (.arr 64 (.int .u32))),(7,.v (.int .i64))]
abbrev SQ38:List (Nat×AS):=[(0,.v (.int .u64)),(0,.v (.int .i64)),(3,.row (.int .u8)),(3,.v (.int .i64)),(0,.v (.int .i64))]
abbrev SQ37:List (Nat×AS):=[(0,.v (.int .u64)),(2,.v (.int .i64)),(0,.row (.int .u8)),(5,.v (.int .i64)),(0,.v (.int .i64))]
abbrev SQ9:List (Nat×AS):=[(1,.box zkq),(1,.v (.int .i64)),(0,.box TT3),(11,.v (.sl TT3)),(0,.v (.int .i64)),(0,.v (.int .i64))]
abbrev SQ29:List (Nat×AS):=[(2,.box (.arr 8 (.int .u32))),(1,.box (.arr 8 (.int .u32))),(1,.box (.arr 8 (.int .u32))),(22,.v (.int .i64))]
abbrev SQ7:List (Nat×AS):=[(0,.box TT2),(0,.v .str),(3,.v (.int .i64)),(0,.box TT1),(4,.v (.sl TT1)),(0,.v (.int .i64)),(0,.v (.int .i64))]
abbrev SQ15:List (Nat×AS):=[(3,.v (.int .i64)),(8,.v (.sl TT1)),(0,.v (.int .i64)),(0,.v (.int .i64)),(10,.v (.sl zgo)),(0,.v (.int .i64)),(0,.v (.int .i64))]
abbrev SQ13:List (Nat×AS):=[(2,.box (.arr 8 (.int .u32))),(1,.box (.arr 8 (.int .u32))),(0,.box (.arr 64 (.int .u32))),(0,.box (.arr 8 (.int .u32))),(9,.v (.int .i64))]
abbrev SQ10:List (Nat×AS):=[(0,.box TT2),(6,.v .bool),(0,.v (.int .i64)),(0,.box (.pair (.sl zgo) (.pair (.sl .str) .unit))),(51,.v (.sl zgo)),(0,.v (.int .i64)),(0,.v (.int .i64))]
abbrev SQ6:List (Nat×AS):=[(1,.box zkq),(1,.row TT7),(1,.box TT3),(6,.v (.sl TT3)),(0,.v (.int .i64)),(0,.v (.int .i64)),(14,.v (.sl (.pair (.int .i64) (.pair .str .unit)))),(0,.v (.int .i64)),(0,.v (.int .i64))]
def ty3:TyI:=⟨(Go.TypeDesc.int IntKind.i64),1,8,(.int .i64),0,false⟩
theorem z1fs:TyOk Tryz.prog 3 ty3:=TyOk.of (by kernel_rfl) (by kernel_rfl) (by kernel_rfl) (by kernel_rfl)
def ty4:TyI:=⟨Go.TypeDesc.bool,1,1,.bool,false,false⟩
theorem z1fr:TyOk Tryz.prog 4 ty4:=TyOk.of (by kernel_rfl) (by kernel_rfl) (by kernel_rfl) (by kernel_rfl)
def ty5:TyI:=⟨(Go.TypeDesc.int IntKind.u8),1,1,(.int .u8),0,false⟩
theorem z1fq:TyOk Tryz.prog 5 ty5:=TyOk.of (by kernel_rfl) (by kernel_rfl) (by kernel_rfl) (by kernel_rfl)
def ty9:TyI:=⟨Go.TypeDesc.string,1,16,.str,[],false⟩
theorem z1fp:TyOk Tryz.prog 9 ty9:=TyOk.of (by kernel_rfl) (by kernel_rfl) (by kernel_rfl) (by kernel_rfl)
def ty17:TyI:=⟨(Go.TypeDesc.pointer 214),1,8,.opq,(Go.Value.pointer none),false⟩
theorem z19b:TyOk Tryz.prog 17 ty17:=TyOk.of (by kernel_rfl) (by kernel_rfl) (by kernel_rfl) (by kernel_rfl)
def ty20:TyI:=⟨(Go.TypeDesc.interface (List.toArray ([]:List (String×Nat)))),1,16,.opq,Go.Value.nilIface,false⟩
theorem z19a:TyOk Tryz.prog 20 ty20:=TyOk.of (by kernel_rfl) (by kernel_rfl) (by kernel_rfl) (by kernel_rfl)
def ty21:TyI:=⟨(Go.TypeDesc.int IntKind.i32),1,4,(.int .i32),0,false⟩
theorem z199:TyOk Tryz.prog 21 ty21:=TyOk.of (by kernel_rfl) (by kernel_rfl) (by kernel_rfl) (by kernel_rfl)
def ty22:TyI:=⟨(Go.TypeDesc.slice 59),1,24,(.sl zgo),([]:List ((List UInt8)×DT4)),false⟩
theorem z198:TyOk Tryz.prog 22 ty22:=TyOk.of (by kernel_rfl) (by kernel_rfl) (by kernel_rfl) (by kernel_rfl)
def ty24 : TyI := ⟨(Go.TypeDesc.struct (List.toArray ([(Go.Field.mk "ID" 9 0 false "" "" 0), (Go.Field.mk "Links" 22 1 false "" "" 16), (Go.Field.mk "Tag" 9 2 false "" "" 40)] : List Go.Field))), 3, 56, TT1, (([] : List UInt8), ([] : List ((List UInt8) × DT4)), ([] : List UInt8), ()), true⟩
theorem z197:TyOk Tryz.prog 24 ty24:=TyOk.of (by kernel_rfl) (by kernel_rfl) (by kernel_rfl) (by kernel_rfl)
def ty25:TyI:=⟨(Go.TypeDesc.slice 24),1,24,(.sl TT1),[],false⟩
theorem z196:TyOk Tryz.prog 25 ty25:=TyOk.of (by kernel_rfl) (by kernel_rfl) (by kernel_rfl) (by kernel_rfl)
def ty27 : TyI := ⟨(Go.TypeDesc.struct (List.toArray ([(Go.Field.mk "Token" 24 0 false "" "" 0), (Go.Field.mk "More" 25 3 false "" "" 56)] : List Go.Field))), 4, 80, zfq, ((([] : List UInt8), ([] : List ((List UInt8) × DT4)), ([] : List UInt8), ()), ([] : List DT6), ()), true⟩
theorem z195:TyOk Tryz.prog 27 ty27:=TyOk.of (by kernel_rfl) (by kernel_rfl) (by kernel_rfl) (by kernel_rfl)
def ty30:TyI:=⟨(Go.TypeDesc.int IntKind.i64),1,8,(.int .i64),0,false⟩
theorem z194:TyOk Tryz.prog 30 ty30:=TyOk.of (by kernel_rfl) (by kernel_rfl) (by kernel_rfl) (by kernel_rfl)
def ty37:TyI:=⟨(Go.TypeDesc.func (List.toArray ([24]:List Nat)) (List.toArray ([4]:List Nat)) false),1,8,.opq,Go.Value.nilFunc,false⟩
theorem z193:TyOk Tryz.prog 37 ty37:=TyOk.of (by kernel_rfl) (by kernel_rfl) (by kernel_rfl) (by kernel_rfl)
def ty40 : TyI := ⟨(Go.TypeDesc.struct (List.toArray ([(Go.Field.mk "Name" 9 0 false "" "" 0), (Go.Field.mk "Cap" 3 1 false "" "" 16), (Go.Field.mk "Fill" 3 2 false "" "" 24)] : List Go.Field))), 3, 32, (.pair .str (.pair (.int .i64) (.pair (.int .i64) .unit))), (([] : List UInt8), (0 : Int), (0 : Int), ()), true⟩
theorem z192:TyOk Tryz.prog 40 ty40:=TyOk.of (by kernel_rfl) (by kernel_rfl) (by kernel_rfl) (by kernel_rfl)
def ty42:TyI:=⟨(Go.TypeDesc.slice 91),1,24,(.sl TT3),[],false⟩
theorem z191:TyOk Tryz.prog 42 ty42:=TyOk.of (by kernel_rfl) (by kernel_rfl) (by kernel_rfl) (by kernel_rfl)
def ty44 : TyI := ⟨(Go.TypeDesc.struct (List.toArray ([(Go.Field.mk "Tenants" 42 0 false "" "" 0), (Go.Field.mk "Serial" 3 1 false "" "" 24)] : List Go.Field))), 2, 32, zkq, (([] : List DT8), (0 : Int), ()), true⟩
theorem z190:TyOk Tryz.prog 44 ty44:=TyOk.of (by kernel_rfl) (by kernel_rfl) (by kernel_rfl) (by kernel_rfl)
def ty48:TyI:=⟨(Go.TypeDesc.pointer 55),1,8,.opq,(Go.Value.pointer none),false⟩
theorem z18z:TyOk Tryz.prog 48 ty48:=TyOk.of (by kernel_rfl) (by kernel_rfl) (by kernel_rfl) (by kernel_rfl)
def ty51:TyI:=⟨(Go.TypeDesc.slice 4),1,24,(.sl .bool),[],false⟩
theorem z18y:TyOk Tryz.prog 51 ty51:=TyOk.of (by kernel_rfl) (by kernel_rfl) (by kernel_rfl) (by kernel_rfl)
def ty52:TyI:=⟨(Go.TypeDesc.slice 83),1,24,(.sl (.pair (.sl zgo) (.pair (.sl .str) .unit))),([]:List (zgq×((List (List UInt8))×Unit))),false⟩
theorem z18x:TyOk Tryz.prog 52 ty52:=TyOk.of (by kernel_rfl) (by kernel_rfl) (by kernel_rfl) (by kernel_rfl)
def ty53:TyI:=⟨(Go.TypeDesc.slice 9),1,24,(.sl .str),[],false⟩
theorem z18w:TyOk Tryz.prog 53 ty53:=TyOk.of (by kernel_rfl) (by kernel_rfl) (by kernel_rfl) (by kernel_rfl)
def ty55 : TyI := ⟨(Go.TypeDesc.struct (List.toArray ([(Go.Field.mk "b" 27 0 false "" "porter/verify" 0), (Go.Field.mk "used" 51 4 false "" "porter/verify" 80), (Go.Field.mk "list" 52 5 false "" "porter/verify" 104), (Go.Field.mk "texts" 53 6 false "" "porter/verify" 128), (Go.Field.mk "work" 3 7 false "" "porter/verify" 152)] : List Go.Field))), 8, 160, (.pair zfq (.pair (.sl .bool) (.pair (.sl (.pair (.sl zgo) (.pair (.sl .str) .unit))) (.pair (.sl .str) (.pair (.int .i64) .unit))))), (((([] : List UInt8), ([] : List ((List UInt8) × DT4)), ([] : List UInt8), ()), ([] : List DT6), ()), ([] : List Bool), ([] : List (zgq × ((List (List UInt8)) × Unit))), ([] : List (List UInt8)), (0 : Int), ()), true⟩
theorem z18v:TyOk Tryz.prog 55 ty55:=TyOk.of (by kernel_rfl) (by kernel_rfl) (by kernel_rfl) (by kernel_rfl)
def ty59 : TyI := ⟨(Go.TypeDesc.struct (List.toArray ([(Go.Field.mk "Text" 9 0 false "" "" 0), (Go.Field.mk "Seal" 9 1 false "" "" 16)] : List Go.Field))), 2, 32, zgo, (([] : List UInt8), ([] : List UInt8), ()), true⟩
theorem z18u:TyOk Tryz.prog 59 ty59:=TyOk.of (by kernel_rfl) (by kernel_rfl) (by kernel_rfl) (by kernel_rfl)
def ty61:TyI:=⟨(Go.TypeDesc.slice 93),1,24,(.sl TT7),[],false⟩
theorem z18t:TyOk Tryz.prog 61 ty61:=TyOk.of (by kernel_rfl) (by kernel_rfl) (by kernel_rfl) (by kernel_rfl)
def ty67:TyI:=⟨(Go.TypeDesc.int IntKind.u64),1,8,(.int .u64),0,false⟩
theorem z18s:TyOk Tryz.prog 67 ty67:=TyOk.of (by kernel_rfl) (by kernel_rfl) (by kernel_rfl) (by kernel_rfl)
def ty69:TyI:=⟨(Go.TypeDesc.pointer 72),1,8,.opq,(Go.Value.pointer none),false⟩
theorem z18r:TyOk Tryz.prog 69 ty69:=TyOk.of (by kernel_rfl) (by kernel_rfl) (by kernel_rfl) (by kernel_rfl)
def ty70:TyI:=⟨(Go.TypeDesc.slice 5),1,24,(.sl (.int .u8)),[],false⟩
theorem z18q:TyOk Tryz.prog 70 ty70:=TyOk.of (by kernel_rfl) (by kernel_rfl) (by kernel_rfl) (by kernel_rfl)
def ty72 : TyI := ⟨(Go.TypeDesc.struct (List.toArray ([(Go.Field.mk "addr" 69 0 false "" "strings" 0), (Go.Field.mk "buf" 70 1 false "" "strings" 8)] : List Go.Field))), 2, 32, (.pair .opq (.pair (.sl (.int .u8)) .unit)), ((Go.Value.pointer none), ([] : List Int), ()), true⟩
theorem z18p:TyOk Tryz.prog 72 ty72:=TyOk.of (by kernel_rfl) (by kernel_rfl) (by kernel_rfl) (by kernel_rfl)
def ty74 : TyI := ⟨(Go.TypeDesc.interface (List.toArray ([("Error", 77)] : List (String × Nat)))), 1, 16, .opq, Go.Value.nilIface, false⟩
theorem z18o:TyOk Tryz.prog 74 ty74:=TyOk.of (by kernel_rfl) (by kernel_rfl) (by kernel_rfl) (by kernel_rfl)
def ty83 : TyI := ⟨(Go.TypeDesc.struct (List.toArray ([(Go.Field.mk "links" 22 0 false "" "porter/verify" 0), (Go.Field.mk "tags" 53 1 false "" "porter/verify" 24)] : List Go.Field))), 2, 48, (.pair (.sl zgo) (.pair (.sl .str) .unit)), (([] : List ((List UInt8) × DT4)), ([] : List (List UInt8)), ()), true⟩
theorem z18n:TyOk Tryz.prog 83 ty83:=TyOk.of (by kernel_rfl) (by kernel_rfl) (by kernel_rfl) (by kernel_rfl)
def ty89:TyI:=⟨(Go.TypeDesc.slice 96),1,24,(.sl (.pair (.int .i64) (.pair .str .unit))),([]:List (Int×DT4)),false⟩
theorem z18m:TyOk Tryz.prog 89 ty89:=TyOk.of (by kernel_rfl) (by kernel_rfl) (by kernel_rfl) (by kernel_rfl)
def ty91 : TyI := ⟨(Go.TypeDesc.struct (List.toArray ([(Go.Field.mk "Name" 9 0 false "" "" 0), (Go.Field.mk "Epoch" 3 1 false "" "" 16), (Go.Field.mk "Next" 3 2 false "" "" 24), (Go.Field.mk "Keys" 89 3 false "" "" 32)] : List Go.Field))), 4, 56, TT3, (([] : List UInt8), (0 : Int), (0 : Int), ([] : List (Int × DT4)), ()), true⟩
theorem z18l:TyOk Tryz.prog 91 ty91:=TyOk.of (by kernel_rfl) (by kernel_rfl) (by kernel_rfl) (by kernel_rfl)
def ty93 : TyI := ⟨(Go.TypeDesc.struct (List.toArray ([(Go.Field.mk "Kind" 3 0 false "" "" 0), (Go.Field.mk "Tenant" 9 1 false "" "" 8), (Go.Field.mk "Num" 3 2 false "" "" 24), (Go.Field.mk "Epoch" 3 3 false "" "" 32), (Go.Field.mk "Text" 9 4 false "" "" 40)] : List Go.Field))), 5, 56, TT7, ((0 : Int), ([] : List UInt8), (0 : Int), (0 : Int), ([] : List UInt8), ()), true⟩
theorem z18k:TyOk Tryz.prog 93 ty93:=TyOk.of (by kernel_rfl) (by kernel_rfl) (by kernel_rfl) (by kernel_rfl)
def ty96 : TyI := ⟨(Go.TypeDesc.struct (List.toArray ([(Go.Field.mk "Num" 3 0 false "" "" 0), (Go.Field.mk "Text" 9 1 false "" "" 8)] : List Go.Field))), 2, 24, (.pair (.int .i64) (.pair .str .unit)), ((0 : Int), ([] : List UInt8), ()), true⟩
theorem z18j:TyOk Tryz.prog 96 ty96:=TyOk.of (by kernel_rfl) (by kernel_rfl) (by kernel_rfl) (by kernel_rfl)
def z1gi:TyI:=⟨(Go.TypeDesc.pointer 3),1,8,.opq,(Go.Value.pointer none),false⟩
theorem z14e:TyOk Tryz.prog 110 z1gi:=TyOk.of (by kernel_rfl) (by kernel_rfl) (by kernel_rfl) (by kernel_rfl)
def z1gh:TyI:=⟨(Go.TypeDesc.array 2 110),2,16,(.arr 2 .opq),([(Go.Value.pointer none),(Go.Value.pointer none)]:List Go.Value),true⟩
theorem z14d:TyOk Tryz.prog 111 z1gh:=TyOk.of (by kernel_rfl) (by kernel_rfl) (by kernel_rfl) (by kernel_rfl)
def z1gg:TyI:=⟨(Go.TypeDesc.pointer 93),1,8,.opq,(Go.Value.pointer none),false⟩
theorem z14c:TyOk Tryz.prog 113 z1gg:=TyOk.of (by kernel_rfl) (by kernel_rfl) (by kernel_rfl) (by kernel_rfl)
def z1gf:TyI:=⟨(Go.TypeDesc.slice 110),1,24,(.sl .opq),([]:List Go.Value),false⟩
theorem z14b:TyOk Tryz.prog 115 z1gf:=TyOk.of (by kernel_rfl) (by kernel_rfl) (by kernel_rfl) (by kernel_rfl)
def z1ge:TyI:=⟨(Go.TypeDesc.int IntKind.u64),1,8,(.int .u64),0,false⟩
theorem z14a:TyOk Tryz.prog 120 z1ge:=TyOk.of (by kernel_rfl) (by kernel_rfl) (by kernel_rfl) (by kernel_rfl)
def z1gd:TyI:=⟨(Go.TypeDesc.func (List.toArray ([139]:List Nat)) (List.toArray []) false),1,8,.opq,Go.Value.nilFunc,false⟩
theorem z149:TyOk Tryz.prog 124 z1gd:=TyOk.of (by kernel_rfl) (by kernel_rfl) (by kernel_rfl) (by kernel_rfl)
def z1gc:TyI:=⟨Go.TypeDesc.string,1,16,.str,[],false⟩
theorem z147:TyOk Tryz.prog 126 z1gc:=TyOk.of (by kernel_rfl) (by kernel_rfl) (by kernel_rfl) (by kernel_rfl)
def z1gb:TyI:=⟨(Go.TypeDesc.func (List.toArray ([126,59]:List Nat)) (List.toArray ([126]:List Nat)) false),1,8,.opq,Go.Value.nilFunc,false⟩
theorem z145:TyOk Tryz.prog 127 z1gb:=TyOk.of (by kernel_rfl) (by kernel_rfl) (by kernel_rfl) (by kernel_rfl)
def z1ga:TyI:=⟨(Go.TypeDesc.func (List.toArray ([9]:List Nat)) (List.toArray ([4]:List Nat)) false),1,8,.opq,Go.Value.nilFunc,false⟩
theorem z144:TyOk Tryz.prog 132 z1ga:=TyOk.of (by kernel_rfl) (by kernel_rfl) (by kernel_rfl) (by kernel_rfl)
def z1g9 : TyI := ⟨(Go.TypeDesc.struct (List.toArray ([(Go.Field.mk "code" 30 0 false "" "porter/token" 0)] : List Go.Field))), 1, 8, (.pair (.int .i64) .unit), ((0 : Int), ()), true⟩
theorem z143:TyOk Tryz.prog 135 z1g9:=TyOk.of (by kernel_rfl) (by kernel_rfl) (by kernel_rfl) (by kernel_rfl)
def z1g8:TyI:=⟨(Go.TypeDesc.pointer 135),1,8,.opq,(Go.Value.pointer none),false⟩
theorem z142:TyOk Tryz.prog 137 z1g8:=TyOk.of (by kernel_rfl) (by kernel_rfl) (by kernel_rfl) (by kernel_rfl)
def z1g7:TyI:=⟨(Go.TypeDesc.func (List.toArray ([126]:List Nat)) (List.toArray ([4]:List Nat)) false),1,8,.opq,Go.Value.nilFunc,false⟩
theorem z141:TyOk Tryz.prog 139 z1g7:=TyOk.of (by kernel_rfl) (by kernel_rfl) (by kernel_rfl) (by kernel_rfl)
def z1g6:TyI:=⟨(Go.TypeDesc.func (List.toArray ([21,4]:List Nat)) (List.toArray ([4]:List Nat)) false),1,8,.opq,Go.Value.nilFunc,false⟩
theorem z140:TyOk Tryz.prog 143 z1g6:=TyOk.of (by kernel_rfl) (by kernel_rfl) (by kernel_rfl) (by kernel_rfl)
def z1g5:TyI:=⟨(Go.TypeDesc.int IntKind.u64),1,8,(.int .u64),0,false⟩
theorem z13z:TyOk Tryz.prog 144 z1g5:=TyOk.of (by kernel_rfl) (by kernel_rfl) (by kernel_rfl) (by kernel_rfl)
def z1g4 : TyI := ⟨(Go.TypeDesc.interface (List.toArray ([("AssignableTo", 153), ("Comparable", 29), ("Elem", 150), ("Implements", 153), ("Kind", 152), ("Name", 77), ("PkgPath", 77), ("Size", 215), ("String", 77), ("internal/reflectlite.common", 208), ("internal/reflectlite.uncommon", 216)] : List (String × Nat)))), 1, 16, .opq, Go.Value.nilIface, false⟩
theorem z13y:TyOk Tryz.prog 149 z1g4:=TyOk.of (by kernel_rfl) (by kernel_rfl) (by kernel_rfl) (by kernel_rfl)
def z1g3:TyI:=⟨(Go.TypeDesc.int IntKind.u8),1,1,(.int .u8),0,false⟩
theorem z13x:TyOk Tryz.prog 151 z1g3:=TyOk.of (by kernel_rfl) (by kernel_rfl) (by kernel_rfl) (by kernel_rfl)
def z1g2:TyI:=⟨(Go.TypeDesc.func (List.toArray ([132]:List Nat)) (List.toArray []) false),1,8,.opq,Go.Value.nilFunc,false⟩
theorem z13w:TyOk Tryz.prog 158 z1g2:=TyOk.of (by kernel_rfl) (by kernel_rfl) (by kernel_rfl) (by kernel_rfl)
def z1g1 : TyI := ⟨(Go.TypeDesc.interface (List.toArray ([("As", 171)] : List (String × Nat)))), 1, 16, .opq, Go.Value.nilIface, false⟩
theorem z13v:TyOk Tryz.prog 169 z1g1:=TyOk.of (by kernel_rfl) (by kernel_rfl) (by kernel_rfl) (by kernel_rfl)
def z1g0 : TyI := ⟨(Go.TypeDesc.interface (List.toArray ([("Unwrap", 173)] : List (String × Nat)))), 1, 16, .opq, Go.Value.nilIface, false⟩
theorem z13u:TyOk Tryz.prog 172 z1g0:=TyOk.of (by kernel_rfl) (by kernel_rfl) (by kernel_rfl) (by kernel_rfl)
def z1fz : TyI := ⟨(Go.TypeDesc.interface (List.toArray ([("Unwrap", 176)] : List (String × Nat)))), 1, 16, .opq, Go.Value.nilIface, false⟩
theorem z13t:TyOk Tryz.prog 174 z1fz:=TyOk.of (by kernel_rfl) (by kernel_rfl) (by kernel_rfl) (by kernel_rfl)
def z1fy:TyI:=⟨(Go.TypeDesc.slice 74),1,24,(.sl .opq),([]:List Go.Value),false⟩
theorem z13s:TyOk Tryz.prog 175 z1fy:=TyOk.of (by kernel_rfl) (by kernel_rfl) (by kernel_rfl) (by kernel_rfl)
def z1fx:TyI:=⟨(Go.TypeDesc.pointer 186),1,8,.opq,(Go.Value.pointer none),false⟩
theorem z13r:TyOk Tryz.prog 177 z1fx:=TyOk.of (by kernel_rfl) (by kernel_rfl) (by kernel_rfl) (by kernel_rfl)
def z1fw:TyI:=⟨(Go.TypeDesc.int IntKind.u32),1,4,(.int .u32),0,false⟩
theorem z13q:TyOk Tryz.prog 181 z1fw:=TyOk.of (by kernel_rfl) (by kernel_rfl) (by kernel_rfl) (by kernel_rfl)
def z1fv:TyI:=⟨(Go.TypeDesc.array 8 181),8,32,(.arr 8 (.int .u32)),([0,0,0,0,0,0,0,0]:List Int),true⟩
theorem z13p:TyOk Tryz.prog 183 z1fv:=TyOk.of (by kernel_rfl) (by kernel_rfl) (by kernel_rfl) (by kernel_rfl)
def z1fu : TyI := ⟨(Go.TypeDesc.struct (List.toArray ([(Go.Field.mk "made" 4 0 false "" "porter/sha" 0), (Go.Field.mk "words" 183 1 false "" "porter/sha" 4), (Go.Field.mk "rest" 9 9 false "" "porter/sha" 40), (Go.Field.mk "long" 3 10 false "" "porter/sha" 56)] : List Go.Field))), 11, 64, TT5, (false, ([(0 : Int), (0 : Int), (0 : Int), (0 : Int), (0 : Int), (0 : Int), (0 : Int), (0 : Int)] : List Int), ([] : List UInt8), (0 : Int), ()), true⟩
theorem z13o:TyOk Tryz.prog 186 z1fu:=TyOk.of (by kernel_rfl) (by kernel_rfl) (by kernel_rfl) (by kernel_rfl)
def z1ft:TyI:=⟨(Go.TypeDesc.array 64 181),64,256,(.arr 64 (.int .u32)),(0::0::0::0::0::0::0::0::0::0::0::0::0::0::0::0::0::0::0::0::0::0::0::0::0::0::0::0::0::0::0::0::0::0::0::0::0::0::0::0::0::0::0::0::0::0::0::0::0::0::0::0::0::0::0::0::0::0::0::0::0::0::0::0::[]),true⟩
theorem z13n:TyOk Tryz.prog 198 z1ft:=TyOk.of (by kernel_rfl) (by kernel_rfl) (by kernel_rfl) (by kernel_rfl)
def tys:List (Nat×TyI):=[(3,ty3),(4,ty4),(5,ty5),(9,ty9),(17,ty17),(20,ty20),(21,ty21),(22,ty22),(24,ty24),(25,ty25),(27,ty27),(30,ty30),(37,ty37),(40,ty40),(42,ty42),(44,ty44),(48,ty48),(51,ty51),(52,ty52),(53,ty53),(55,ty55),(59,ty59),(61,ty61),(67,ty67),(69,ty69),(70,ty70),(72,ty72),(74,ty74),(83,ty83),(89,ty89),(91,ty91),(93,ty93),(96,ty96),(110,z1gi),(111,z1gh),(113,z1gg),(115,z1gf),(120,z1ge),(124,z1gd),(126,z1gc),(127,z1gb),(132,z1ga),(135,z1g9),(137,z1g8),(139,z1g7),(143,z1g6),(144,z1g5),(149,z1g4),(151,z1g3),(158,z1g2),(169,z1g1),(172,z1g0),(174,z1fz),(175,z1fy),(177,z1fx),(181,z1fw),(183,z1fv),(186,z1fu),(198,z1ft)]
theorem zq:TysOk Tryz.prog tys:=TysOk.cons z1fs (TysOk.cons z1fr (TysOk.cons z1fq (TysOk.cons z1fp (TysOk.cons z19b (TysOk.cons z19a (TysOk.cons z199 (TysOk.cons z198 (TysOk.cons z197 (TysOk.cons z196 (TysOk.cons z195 (TysOk.cons z194 (TysOk.cons z193 (TysOk.cons z192 (TysOk.cons z191 (TysOk.cons z190 (TysOk.cons z18z (TysOk.cons z18y (TysOk.cons z18x (TysOk.cons z18w (TysOk.cons z18v (TysOk.cons z18u (TysOk.cons z18t (TysOk.cons z18s (TysOk.cons z18r (TysOk.cons z18q (TysOk.cons z18p (TysOk.cons z18o (TysOk.cons z18n (TysOk.cons z18m (TysOk.cons z18l (TysOk.cons z18k (TysOk.cons z18j (TysOk.cons z14e (TysOk.cons z14d (TysOk.cons z14c (TysOk.cons z14b (TysOk.cons z14a (TysOk.cons z149 (TysOk.cons z147 (TysOk.cons z145 (TysOk.cons z144 (TysOk.cons z143 (TysOk.cons z142 (TysOk.cons z141 (TysOk.cons z140 (TysOk.cons z13z (TysOk.cons z13y (TysOk.cons z13x (TysOk.cons z13w (TysOk.cons z13v (TysOk.cons z13u (TysOk.cons z13t (TysOk.cons z13s (TysOk.cons z13r (TysOk.cons z13q (TysOk.cons z13p (TysOk.cons z13o (TysOk.cons z13n (TysOk.nil)))))))))))))))))))))))))))))))))))))))))))))))))))))))))))
theorem mixed:Tryz.prog.follows .mixedOrders=true:=by kernel_rfl
def z12x:Code:=(Tryz.f63.body).getD .skip
def L_0:List (List Nat×List Nat):=[([0],[0]),([0,1],[0,3]),([0,0,1,1],[0,3]),([0,1,0,1,1],[0,3]),([0,0,0,0,1,0,1,1],[7,3,0]),([1,0,0,0,1,0,1,1],[3,0]),([1,1,0,0,0,1,0,1,1],[3]),([0,0,1,0,0,1,0,1,1],[0,3]),(zzg,[0,3]),([1,1,0,0,1,0,1,1],[0,3]),([1,0,1,1],[3]),([0,1,1,1],[2]),([1,1,1,1],[2])]
def E_0 (N:Nat):Env:=z14 tys z17 [] [] [] [] false [] []
theorem Eok_0 (N:Nat):EnvOk Tryz.prog (E_0 N):=ze mixed zq (FnsOk.nil) (ItsOk.nil)
def z9e (N:Nat)(n:Int)(size:Int)(rec:Int->Int->Option Int)(k0:Int->Option Int):Option Int:=cond (n != 0) (rec (z8w IntKind.u64 n 7) (IntKind.wrap IntKind.i64 (size+1))) (k0 size)
def zey (N:Nat)(n:Int)(size:Int)(k0:Int->Option Int):Option Int:=iter (fun (v:(Int×Int)) r=>z9e N v.1 v.2 (fun n size=>(r (n,size))) k0) N (n,size)
def g1_0 (N:Nat)(i:Unit)(v:(Int×Int))(r:(Int×Int)->Option Int)(K:Ex->List A->Option Int):Option Int:=z9e N v.1 v.2 (fun n size=>(r (n,size))) (fun a0=>(K (.exit 0) (mkS [(3,.v (.int .i64))] 9 (a0,()))))
def h1_0 (N:Nat):Hd Int:=fun st K=>(unS [(0,.v (.int .u64)),(2,.v (.int .i64))] 9 (restr [0,3] 0 st)).bind fun x=>iter (fun v r=>g1_0 N ((fun x=>()) x) v r K) N ((fun x=>(x.1,x.2.1)) x)
def t1_0 (N:Nat):Tab Int:=[]
theorem ok1_0 {N:Nat}{c:Ctx}(hb:Base Tryz.prog (E_0 N) c):zw Tryz.prog c (zk z12x [0,1,0,1,1]) (h1_0 N) :=
 z1v (s:=[(0,.v (.int .u64)),(2,.v (.int .i64))]) (m:=9) (g1_0 N) [0,3] N (fun x=>()) (fun x=>(x.1,x.2.1)) (fun i v=>(v.1,v.2,())) (fun _=>rfl) (zf hb N (t1_0 N) L_0 z12x TabOk.nil [0,0,1,0,1,1] _ rfl) (fun i v r K=>by kernel_rfl)
def z7z (N:Nat)(n:Int):Option Int:=zey N (z8w IntKind.u64 n 7) 1 (fun size=>some size)
def t_0 (N:Nat):Tab Int:=[([0,1,0,1,1],h1_0 N)]
theorem z1je (N:Nat)(x:z1b [(0,.v (.int .u64))]):z2b (E_0 N) N (t_0 N) L_0 Tryz.f63 (mkS [(0,.v (.int .u64))] 0 x) (z1c (.v (.int .i64)) 1)=z7z N x.1:=by kernel_rfl
def zcr (N:Nat):List A->Res:=z11 [(0,.v (.int .u64))] (fun x=>z7z N x.1) (z2i (.v (.int .i64)) 1)
theorem znk (N:Nat):Contract Tryz.prog z17 63 (zcr N) :=
 Contract.of (E:=E_0 N) (H:=t_0 N) (L:=L_0) (N:=N) (body:=z12x) (K:=(z1c (.v (.int .i64)) 1)) (Eok_0 N) Tryz.func63 (by kernel_rfl) (by decide) (fun _ hb=>(TabOk.cons (ok1_0 hb) TabOk.nil)) (fun x y h=>by rw[z1je];exact h) (zm (s:=(.v (.int .i64))) (m:=1))
def z12w:Code:=(Tryz.f45.body).getD .skip
def L_1:List (List Nat×List Nat):=[([0],[0]),([0,1],[3,0]),([0,1,1],[3,4,0]),([0,0,1,1,1],[11,10,4,0,3]),([0,1,0,1,1,1],[11,10,4,0,3]),([0,0,0,1,0,1,1,1],[12,11,4,0,10,3]),(z18b,[11,4,0,10,3]),([1,0,1,0,0,1,0,1,1,1],[4,3]),([0,0,0,1,1,0,0,1,0,1,1,1],[4,5,0,11,10,3]),([0,1,0,0,1,1,0,0,1,0,1,1,1],[0,11,10,4,3]),([1,1,0,0,1,1,0,0,1,0,1,1,1],[11,10,4,0,3]),([0,1,1,0,0,1,0,1,1,1],[11,10,4,0,3]),([1,1,1,0,0,1,0,1,1,1],[11,10,4,0,3]),([1,0,1,1,1],[4,3]),([0,1,1,1,1],[4]),([0,1,1,1,1,1],[2]),([1,1,1,1,1,1],[2])]
def E_1 (N:Nat):Env:=z14 tys z17 [(63,zcr N)] [(4,(.int .u8))] [] [] false [] []
theorem Eok_1 (N:Nat):EnvOk Tryz.prog (E_1 N):=ze mixed zq (FnsOk.cons (znk N) (FnsOk.nil)) (ItsOk.nil)
def zap (N:Nat)(size:Int)(x10:Int)(n:Int)(out:(List Int))(x11:Int)(rec:Int->(List Int)->Int->Option (List UInt8))(k0:(List Int)->Option (List UInt8)):Option (List UInt8):=cond (decide (x11<x10)) (cond (inR x11 (List.length out)) (cond (decide ((Int.toNat x11)<(List.length out))) (rec (z8w IntKind.u64 n 7) (List.set out (Int.toNat x11) (zr Go.BinOp.or IntKind.u8 (IntKind.wrap IntKind.u8 n) 128)) (IntKind.wrap IntKind.i64 (x11+1))) none) none) (k0 out)
def zgu (N:Nat)(n:Int)(size:Int)(out:(List Int))(x10:Int)(x11:Int)(k0:(List Int)->Option (List UInt8)):Option (List UInt8):=iter (fun (v:(Int×(List Int)×Int)) r=>zap N size x10 v.1 v.2.1 v.2.2 (fun n out x11=>(r (n,out,x11))) k0) N (n,out,x11)
def g1_1 (N:Nat)(i:(Int×Int))(v:(Int×(List Int)×Int))(r:(Int×(List Int)×Int)->Option (List UInt8))(K:Ex->List A->Option (List UInt8)):Option (List UInt8):=zap N i.1 i.2 v.1 v.2.1 v.2.2 (fun n out x11=>(r (n,out,x11))) (fun a1=>(K (.exit 0) (mkS [(3,.v (.int .i64)),(0,.row (.int .u8))] 27 (i.1,a1,()))))
def h1_1 (N:Nat):Hd (List UInt8):=fun st K=>(unS SQ37 20 (restr [11,10,4,0,3] 0 st)).bind fun x=>iter (fun v r=>g1_1 N ((fun x=>(x.2.1,x.2.2.2.1)) x) v r K) N ((fun x=>(x.1,x.2.2.1,x.2.2.2.2.1)) x)
def t1_1 (N:Nat):Tab (List UInt8):=[]
theorem ok1_1 {N:Nat}{c:Ctx}(hb:Base Tryz.prog (E_1 N) c):zw Tryz.prog c (zk z12w [0,1,0,1,1,1]) (h1_1 N) :=
 z1v (s:=SQ37) (m:=20) (g1_1 N) [11,10,4,0,3] N (fun x=>(x.2.1,x.2.2.2.1)) (fun x=>(x.1,x.2.2.1,x.2.2.2.2.1)) (fun i v=>(v.1,i.1,v.2.1,i.2,v.2.2,())) (fun _=>rfl) (zf hb N (t1_1 N) L_1 z12w TabOk.nil z1ea _ rfl) (fun i v r K=>by kernel_rfl)
def z7r (N:Nat)(n:Int):Option (List UInt8):=(z7z N n).bind fun y=>cond (decide (((0:Int)<=y)/\((y<=y)/\(((y*(1:Int))<=(281474976710656:Int))/\(y<=(9223372036854775807:Int)))))) (zgu N n y (List.replicate (Int.toNat y) (0:Int)) y (0:Int) (fun out=>cond (inR (IntKind.wrap IntKind.i64 (y - (1:Int))) (List.length out)) (cond (decide ((Int.toNat (IntKind.wrap IntKind.i64 (y - (1:Int))))<(List.length out))) (cond (inR (IntKind.wrap IntKind.i64 (y - (1:Int))) (List.length out)) (cond (decide ((Int.toNat (IntKind.wrap IntKind.i64 (y - (1:Int))))<(List.length out))) (some (z2e (List.set out (Int.toNat (IntKind.wrap IntKind.i64 (y - (1:Int)))) (zr Go.BinOp.andNot IntKind.u8 (List.getD out (Int.toNat (IntKind.wrap IntKind.i64 (y - (1:Int)))) (0:Int)) (128:Int))))) none) none) none) none)) none
def t_1 (N:Nat):Tab (List UInt8):=[([0,1,0,1,1,1],h1_1 N)]
theorem z1jd (N:Nat)(x:z1b [(0,.v (.int .u64))]):z2b (E_1 N) N (t_1 N) L_1 Tryz.f45 (mkS [(0,.v (.int .u64))] 0 x) (z1c (.v .str) 1)=z7r N x.1:=by kernel_rfl
def z9f (N:Nat):List A->Res:=z11 [(0,.v (.int .u64))] (fun x=>z7r N x.1) (z2i (.v .str) 1)
theorem zgv (N:Nat):Contract Tryz.prog z17 45 (z9f N) :=
 Contract.of (E:=E_1 N) (H:=t_1 N) (L:=L_1) (N:=N) (body:=z12w) (K:=(z1c (.v .str) 1)) (Eok_1 N) Tryz.func45 (by kernel_rfl) (by decide) (fun _ hb=>(TabOk.cons (ok1_1 hb) TabOk.nil)) (fun x y h=>by rw[z1jd];exact h) (zm (s:=(.v .str)) (m:=1))
def z1nd:Code:=(Tryz.f28.body).getD .skip
def L_2:List (List Nat×List Nat):=[([0],[0]),([0,1],[2]),([1,1],[2])]
def E_2 (N:Nat):Env:=z14 tys z17 [(45,z9f N)] [] [] [] false [] []
theorem Eok_2 (N:Nat):EnvOk Tryz.prog (E_2 N):=ze mixed zq (FnsOk.cons (zgv N) (FnsOk.nil)) (ItsOk.nil)
def z1z (N:Nat)(n:Int):Option (List UInt8):=(z7r N n).bind fun y=>some y
def t_2 (N:Nat):Tab (List UInt8):=[]
theorem z1jc (N:Nat)(x:z1b [(0,.v (.int .u64))]):z2b (E_2 N) N (t_2 N) L_2 Tryz.f28 (mkS [(0,.v (.int .u64))] 0 x) (z1c (.v .str) 1)=z1z N x.1:=by kernel_rfl
def zbs (N:Nat):List A->Res:=z11 [(0,.v (.int .u64))] (fun x=>z1z N x.1) (z2i (.v .str) 1)
theorem z95 (N:Nat):Contract Tryz.prog z17 28 (zbs N) :=
 Contract.of (E:=E_2 N) (H:=t_2 N) (L:=L_2) (N:=N) (body:=z1nd) (K:=(z1c (.v .str) 1)) (Eok_2 N) Tryz.func28 (by kernel_rfl) (by decide) (fun _ hb=>TabOk.nil) (fun x y h=>by rw[z1jc];exact h) (zm (s:=(.v .str)) (m:=1))
def z1nc:Code:=(Tryz.f43.body).getD .skip
def L_3:List (List Nat×List Nat):=[([0],[0]),([0,1],[2]),([1,1],[2])]
def E_3 (N:Nat):Env:=z14 tys z17 [(45,z9f N)] [] [] [] false [] []
theorem Eok_3 (N:Nat):EnvOk Tryz.prog (E_3 N):=ze mixed zq (FnsOk.cons (zgv N) (FnsOk.nil)) (ItsOk.nil)
def z1k (N:Nat)(s:(List UInt8)):Option (List UInt8):=(z7r N (IntKind.wrap IntKind.u64 (List.length s:Int))).bind fun y=>cond (decide (((List.length y)+(List.length s))<=9223372036854775807)) (some (y++s)) none
def t_3 (N:Nat):Tab (List UInt8):=[]
theorem z1jb (N:Nat)(x:z1b [(0,.v .str)]):z2b (E_3 N) N (t_3 N) L_3 Tryz.f43 (mkS [(0,.v .str)] 0 x) (z1c (.v .str) 1)=z1k N x.1:=by kernel_rfl
def z9p (N:Nat):List A->Res:=z11 [(0,.v .str)] (fun x=>z1k N x.1) (z2i (.v .str) 1)
theorem z7n (N:Nat):Contract Tryz.prog z17 43 (z9p N) :=
 Contract.of (E:=E_3 N) (H:=t_3 N) (L:=L_3) (N:=N) (body:=z1nc) (K:=(z1c (.v .str) 1)) (Eok_3 N) Tryz.func43 (by kernel_rfl) (by decide) (fun _ hb=>TabOk.nil) (fun x y h=>by rw[z1jb];exact h) (zm (s:=(.v .str)) (m:=1))
def z1nb:Code:=(Tryz.f55.body).getD .skip
def L_4:List (List Nat×List Nat):=[([0],[0,1]),([0,1],[4]),([1,1],[4])]
def E_4 (N:Nat):Env:=z14 tys z17 [] [] [] [] false [] []
theorem Eok_4 (N:Nat):EnvOk Tryz.prog (E_4 N):=ze mixed zq (FnsOk.nil) (ItsOk.nil)
def z3p (N:Nat)(n:Int)(low:Int):Option Bool:=cond (decide (low<=n)) (some (decide (n<=1099511627776))) (some false)
def t_4 (N:Nat):Tab Bool:=[]
theorem z1ja (N:Nat)(x:z1b SQ0):z2b (E_4 N) N (t_4 N) L_4 Tryz.f55 (mkS SQ0 0 x) (z1c (.v .bool) 2)=z3p N x.1 x.2.1:=by kernel_rfl
def z5j (N:Nat):List A->Res:=z11 SQ0 (fun x=>z3p N x.1 x.2.1) (z2i (.v .bool) 2)
theorem z9k (N:Nat):Contract Tryz.prog z17 55 (z5j N) :=
 Contract.of (E:=E_4 N) (H:=t_4 N) (L:=L_4) (N:=N) (body:=z1nb) (K:=(z1c (.v .bool) 2)) (Eok_4 N) Tryz.func55 (by kernel_rfl) (by decide) (fun _ hb=>TabOk.nil) (fun x y h=>by rw[z1ja];exact h) (zm (s:=(.v .bool)) (m:=2))
def z1na:Code:=(Tryz.f98.body).getD .skip
def L_5:List (List Nat×List Nat):=[([0],[0]),([0,1],[2]),([1,1],[2])]
def E_5 (N:Nat):Env:=z14 tys z17 [] [] [] [] false [] []
theorem Eok_5 (N:Nat):EnvOk Tryz.prog (E_5 N):=ze mixed zq (FnsOk.nil) (ItsOk.nil)
def zix (N:Nat)(c:Int):Option Bool:=cond (decide (48<=c)) (some (decide (c<=57))) (some false)
def t_5 (N:Nat):Tab Bool:=[]
theorem z1j9 (N:Nat)(x:z1b [(0,.v (.int .i32))]):z2b (E_5 N) N (t_5 N) L_5 Tryz.f98 (mkS [(0,.v (.int .i32))] 0 x) (z1c (.v .bool) 1)=zix N x.1:=by kernel_rfl
def zfe (N:Nat):List A->Res:=z11 [(0,.v (.int .i32))] (fun x=>zix N x.1) (z2i (.v .bool) 1)
theorem zq5 (N:Nat):Contract Tryz.prog z17 98 (zfe N) :=
 Contract.of (E:=E_5 N) (H:=t_5 N) (L:=L_5) (N:=N) (body:=z1na) (K:=(z1c (.v .bool) 1)) (Eok_5 N) Tryz.func98 (by kernel_rfl) (by decide) (fun _ hb=>TabOk.nil) (fun x y h=>by rw[z1j9];exact h) (zm (s:=(.v .bool)) (m:=1))
def z12v:Code:=(Tryz.f86.body).getD .skip
def L_6:List (List Nat×List Nat):=[([0],[0,1]),([0,1],[5,0,1]),([0,1,1],[4]),([1,1,1],[4])]
def E_6 (N:Nat):Env:=z14 tys z17 [(98,zfe N)] [] [] [] false [] []
theorem Eok_6 (N:Nat):EnvOk Tryz.prog (E_6 N):=ze mixed zq (FnsOk.cons (zq5 N) (FnsOk.nil)) (ItsOk.nil)
def zcg (N:Nat)(c:Int)(first:Bool)(k0:Bool->Option Bool):Option Bool:=cond (decide (97<=c)) (k0 (decide (c<=122))) (k0 false)
def g1_6 (N:Nat)(x:z1b z1fd)(K:Ex->List A->Option Bool):Option Bool:=zcg N x.1 x.2.1 (fun a2=>(K .normal (mkS [(0,.v (.int .i32)),(0,.v .bool),(3,.v .bool)] 19 (x.1,x.2.1,a2,()))))
def h1_6 (N:Nat):Hd Bool:=fun st K=>(unS z1fd 23 (restr [0,1] 0 st)).bind fun x=>g1_6 N x K
def t1_6 (N:Nat):Tab Bool:=[]
theorem ok1_6 {N:Nat}{c:Ctx}(hb:Base Tryz.prog (E_6 N) c):zw Tryz.prog c (zk z12v [0,1]) (h1_6 N) :=
 z13 (s:=z1fd) (m:=23) (g:=g1_6 N) [0,1] (zf hb N (t1_6 N) L_6 z12v TabOk.nil [0,1] _ rfl) (fun x K=>by kernel_rfl)
def zbd (N:Nat)(c:Int)(first:Bool):Option Bool:=zcg N c first (fun letter=>cond letter (some true) ((zix N c).bind fun y=>cond y (some (!first)) (cond (c == 45) (some (!first)) (some false))))
def t_6 (N:Nat):Tab Bool:=[([0,1],h1_6 N)]
theorem z1j8 (N:Nat)(x:z1b z1fd):z2b (E_6 N) N (t_6 N) L_6 Tryz.f86 (mkS z1fd 0 x) (z1c (.v .bool) 2)=zbd N x.1 x.2.1:=by kernel_rfl
def z63 (N:Nat):List A->Res:=z11 z1fd (fun x=>zbd N x.1 x.2.1) (z2i (.v .bool) 2)
theorem zch (N:Nat):Contract Tryz.prog z17 86 (z63 N) :=
 Contract.of (E:=E_6 N) (H:=t_6 N) (L:=L_6) (N:=N) (body:=z12v) (K:=(z1c (.v .bool) 2)) (Eok_6 N) Tryz.func86 (by kernel_rfl) (by decide) (fun _ hb=>(TabOk.cons (ok1_6 hb) TabOk.nil)) (fun x y h=>by rw[z1j8];exact h) (zm (s:=(.v .bool)) (m:=2))
def zn2:Code:=(Tryz.f85.body).getD .skip
def L_7:List (List Nat×List Nat):=[([0],[0,1]),([0,0,1],[13,0,1]),([1,0,1],[0,1]),([0,0,1,0,1],[4]),([1,0,1,0,1],[4]),([0,0,1,1],[15,1]),([0,1,0,1,1],[15,1]),(z13i,[17,16,1,15]),(zzg,[16,1,15]),(z13j,[]),([0,0,1,1,0,0,1,0,1,1],[1,6,5,15]),([0,1,0,1,1,0,0,1,0,1,1],[25,15,1]),([1,1,0,1,1,0,0,1,0,1,1],[15,1]),([0,0,1,1,0,1,1,0,0,1,0,1,1],[4]),([1,0,1,1,0,1,1,0,0,1,0,1,1],[4]),([1,1,0,0,1,0,1,1],[15,1]),([1,0,1,1],[]),([0,1,1,1],[4]),([1,1,1,1],[4])]
def E_7 (N:Nat):Env:=z14 tys z17 [(86,z63 N)] [] [] [] false [] []
theorem Eok_7 (N:Nat):EnvOk Tryz.prog (E_7 N):=ze mixed zq (FnsOk.cons (zch N) (FnsOk.nil)) (ItsOk.nil)
def zcj (N:Nat)(s:(List UInt8))(k0:Bool->Option Bool):Option Bool:=cond (s == []) (k0 true) (k0 (decide (32<(List.length s:Int))))
def g2_7 (N:Nat)(x:z1b [(0,.v .str),(0,.fnc 86)])(K:Ex->List A->Option Bool):Option Bool:=zcj N x.1 (fun a1=>(K .normal (mkS [(0,.v .str),(0,.fnc 86),(11,.v .bool)] 12 (x.1,(),a1,()))))
def h2_7 (N:Nat):Hd Bool:=fun st K=>(unS [(0,.v .str),(0,.fnc 86)] 24 (restr [0,1] 0 st)).bind fun x=>g2_7 N x K
def t2_7 (N:Nat):Tab Bool:=[]
theorem ok2_7 {N:Nat}{c:Ctx}(hb:Base Tryz.prog (E_7 N) c):zw Tryz.prog c (zk zn2 [0,0,1]) (h2_7 N) :=
 z13 (s:=[(0,.v .str),(0,.fnc 86)]) (m:=24) (g:=g2_7 N) [0,1] (zf hb N (t2_7 N) L_7 zn2 TabOk.nil [0,0,1] _ rfl) (fun x K=>by kernel_rfl)
def zck (N:Nat)(s:(List UInt8))(k0:Bool->Option Bool)(k1:Option Bool):Option Bool:=zcj N s (fun x13=>cond x13 (k0 false) k1)
def g1_7 (N:Nat)(x:z1b [(0,.v .str),(0,.fnc 86)])(K:Ex->List A->Option Bool):Option Bool:=zck N x.1 (fun a0=>(K .ret (mkS [(4,.v .bool)] 21 (a0,())))) (K .normal (mkS [(0,.v .str),(0,.fnc 86)] 24 (x.1,(),())))
def h1_7 (N:Nat):Hd Bool:=fun st K=>(unS [(0,.v .str),(0,.fnc 86)] 24 (restr [0,1] 0 st)).bind fun x=>g1_7 N x K
def t1_7 (N:Nat):Tab Bool:=[([0,0,1],h2_7 N)]
theorem ok1_7 {N:Nat}{c:Ctx}(hb:Base Tryz.prog (E_7 N) c):zw Tryz.prog c (zk zn2 [0,1]) (h1_7 N) :=
 z13 (s:=[(0,.v .str),(0,.fnc 86)]) (m:=24) (g:=g1_7 N) [0,1] (zf hb N (t1_7 N) L_7 zn2 (TabOk.cons (ok2_7 hb) TabOk.nil) [0,1] _ rfl) (fun x K=>by kernel_rfl)
def zci (N:Nat)(x15:(List UInt8×Nat))(rec:(List UInt8×Nat)->Option Bool)(k0:Bool->Option Bool)(k1:Option Bool):Option Bool:=cond (decide (x15.2<(List.length x15.1))) ((zbd N (((zjj x15.1 x15.2).1:Nat):Int) (((x15.2:Nat):Int) == 0)).bind fun y=>cond (!y) (k0 false) (rec (x15.1,(x15.2+(zjj x15.1 x15.2).2)))) k1
def zkm (N:Nat)(x15:(List UInt8×Nat))(k0:Bool->Option Bool)(k1:Option Bool):Option Bool:=iter (fun (v:(List UInt8×Nat)) r=>zci N v (fun x15=>(r x15)) k0 k1) N x15
def g3_7 (N:Nat)(i:Unit)(v:(List UInt8×Nat))(r:(List UInt8×Nat)->Option Bool)(K:Ex->List A->Option Bool):Option Bool:=zci N v (fun x15=>(r x15)) (fun a0=>(K .ret (mkS [(4,.v .bool)] 21 (a0,())))) (K (.exit 0) (mkS [] 26 ()))
def h3_7 (N:Nat):Hd Bool:=fun st K=>(unS [(1,.fnc 86),(13,.iter)] 10 (restr [15,1] 0 st)).bind fun x=>iter (fun v r=>g3_7 N ((fun x=>()) x) v r K) N ((fun x=>x.2.1) x)
def t3_7 (N:Nat):Tab Bool:=[]
theorem ok3_7 {N:Nat}{c:Ctx}(hb:Base Tryz.prog (E_7 N) c):zw Tryz.prog c (zk zn2 [0,1,0,1,1]) (h3_7 N) :=
 z1v (s:=[(1,.fnc 86),(13,.iter)]) (m:=10) (g3_7 N) [15,1] N (fun x=>()) (fun x=>x.2.1) (fun i v=>((),v,())) (fun _=>rfl) (zf hb N (t3_7 N) L_7 zn2 TabOk.nil [0,0,1,0,1,1] _ rfl) (fun i v r K=>by kernel_rfl)
def zbe (N:Nat)(s:(List UInt8)):Option Bool:=zck N s (fun x4=>some x4) (zkm N (s,0) (fun x41=>some x41) (some true))
def t_7 (N:Nat):Tab Bool:=[([0,1],h1_7 N),([0,1,0,1,1],h3_7 N)]
theorem z1j7 (N:Nat)(x:z1b [(0,.v .str),(0,.fnc 86)]):z2b (E_7 N) N (t_7 N) L_7 Tryz.f85 (mkS [(0,.v .str),(0,.fnc 86)] 0 x) (z1c (.v .bool) 2)=zbe N x.1:=by kernel_rfl
def zac (N:Nat):List A->Res:=z11 [(0,.v .str),(0,.fnc 86)] (fun x=>zbe N x.1) (z2i (.v .bool) 2)
theorem zkn (N:Nat):Contract Tryz.prog z17 85 (zac N) :=
 Contract.of (E:=E_7 N) (H:=t_7 N) (L:=L_7) (N:=N) (body:=zn2) (K:=(z1c (.v .bool) 2)) (Eok_7 N) Tryz.func85 (by kernel_rfl) (by decide) (fun _ hb=>(TabOk.cons (ok1_7 hb) (TabOk.cons (ok3_7 hb) TabOk.nil))) (fun x y h=>by rw[z1j7];exact h) (zm (s:=(.v .bool)) (m:=2))
def z1n9:Code:=(Tryz.f74.body).getD .skip
def L_8:List (List Nat×List Nat):=[([0],[0]),([0,1],[2]),([1,1],[2])]
def E_8 (N:Nat):Env:=z14 tys z17 [(85,zac N),(86,z63 N)] [] [] [] false [] []
theorem Eok_8 (N:Nat):EnvOk Tryz.prog (E_8 N):=ze mixed zq (FnsOk.cons (zkn N) (FnsOk.cons (zch N) (FnsOk.nil))) (ItsOk.nil)
def zhp (N:Nat)(s:(List UInt8)):Option Bool:=(zbe N s).bind fun y=>some y
def t_8 (N:Nat):Tab Bool:=[]
theorem z1j6 (N:Nat)(x:z1b [(0,.v .str)]):z2b (E_8 N) N (t_8 N) L_8 Tryz.f74 (mkS [(0,.v .str)] 0 x) (z1c (.v .bool) 1)=zhp N x.1:=by kernel_rfl
def zbf (N:Nat):List A->Res:=z11 [(0,.v .str)] (fun x=>zhp N x.1) (z2i (.v .bool) 1)
theorem zju (N:Nat):Contract Tryz.prog z17 74 (zbf N) :=
 Contract.of (E:=E_8 N) (H:=t_8 N) (L:=L_8) (N:=N) (body:=z1n9) (K:=(z1c (.v .bool) 1)) (Eok_8 N) Tryz.func74 (by kernel_rfl) (by decide) (fun _ hb=>TabOk.nil) (fun x y h=>by rw[z1j6];exact h) (zm (s:=(.v .bool)) (m:=1))
def z1n8:Code:=(Tryz.f75.body).getD .skip
def L_9:List (List Nat×List Nat):=[([0],[0,1,2]),([0,1],[0,1,5,2]),([0,1,1],[5,0,2,1]),([0,1,1,1],[4,1,2]),([1,1,1,1],[4,1,2])]
def E_9 (N:Nat):Env:=z14 tys z17 [] [] [] [1,2] false [] []
theorem Eok_9 (N:Nat):EnvOk Tryz.prog (E_9 N):=ze mixed zq (FnsOk.nil) (ItsOk.nil)
def zim (N:Nat)(n:Int)(x1:Int)(x2:DT8):Option (Bool×(Int×DT8×Unit)):=cond (decide (x1<n)) (some ((decide (n<x2.2.2.1)),(n,(x2,())))) (some (false,(n,(x2,()))))
def t_9 (N:Nat):Tab (Bool×(Int×DT8×Unit)):=[]
theorem z1j5 (N:Nat)(x:z1b SQ51):z2b (E_9 N) N (t_9 N) L_9 Tryz.f75 (mkS SQ51 0 x) (z7l (.v .bool) SQ61 0)=zim N x.1 x.2.1 x.2.2.1:=by kernel_rfl
def zf8 (N:Nat):List A->Res:=z11 SQ51 (fun x=>zim N x.1 x.2.1 x.2.2.1) (zgd (.v .bool) SQ61 0)
theorem zpq (N:Nat):Contract Tryz.prog z17 75 (zf8 N) :=
 Contract.of (E:=E_9 N) (H:=t_9 N) (L:=L_9) (N:=N) (body:=z1n8) (K:=(z7l (.v .bool) SQ61 0)) (Eok_9 N) Tryz.func75 (by kernel_rfl) (by decide) (fun _ hb=>TabOk.nil) (fun x y h=>by rw[z1j5];exact h) (z5l (s:=(.v .bool)) (os:=SQ61) (m:=0))
def zc1:Code:=(Tryz.f56.body).getD .skip
def z1fl:List (List Nat×List Nat):=[([0],[1]),([0,0,1],[28,1]),([1,0,1],[1]),([0,0,1,0,1],[2]),([1,0,1,0,1],[2]),([0,1,1],[3,1]),([0,1,1,1],[1,4,3]),([0,0,1,1,1,1],z1e9),(PQ8,z1e9),([0,0,0,1,0,1,1,1,1],[34,31,33,4,32,3,1]),(PQ73,[31,33,4,32,3,1]),(PQ67,[]),(PQ57,[4,6,33,32,31,3,1]),(z1nk,[47,33,32,31,4,3,1]),([1,1,0,0,1,1,0,0,1,0,1,1,1,1],z1e9),([0,0,1,1,0,0,1,1,0,0,1,0,1,1,1,1],[2]),([1,0,1,1,0,0,1,1,0,0,1,0,1,1,1,1],[2]),(PQ68,z1e9),(PQ69,z1e9),([1,0,1,1,1,1],[]),([0,1,1,1,1,1],[2]),([1,1,1,1,1,1],[2])]
def z1f2 (N:Nat):Env:=z14 tys z17 [(75,zf8 N),(74,zbf N),(55,z5j N)] [(4,.unit)] [] [] false [] []
theorem z1pz (N:Nat):EnvOk Tryz.prog (z1f2 N):=ze mixed zq (FnsOk.cons (zpq N) (FnsOk.cons (zju N) (FnsOk.cons (z9k N) (FnsOk.nil)))) (ItsOk.nil)
def z8f (N:Nat)(t:DT8)(k0:Bool->Option Bool):Option Bool:=(zhp N t.1).bind fun y=>cond (!y) (k0 true) ((z3p N t.2.1 0).bind fun y1=>cond (!y1) (k0 true) ((z3p N t.2.2.1 1).bind fun y2=>cond (!y2) (k0 true) (k0 (decide (8<(List.length t.2.2.2.1:Int))))))
def z1m1 (N:Nat)(x:z1b [(1,.box TT3)])(K:Ex->List A->Option Bool):Option Bool:=z8f N x.1 (fun a1=>(K .normal (mkS [(1,.box TT3),(26,.v .bool)] 20 (x.1,a1,()))))
def z1k8 (N:Nat):Hd Bool:=fun st K=>(unS [(1,.box TT3)] 47 (restr [1] 0 st)).bind fun x=>z1m1 N x K
def t2_10 (N:Nat):Tab Bool:=[]
theorem z1i1 {N:Nat}{c:Ctx}(hb:Base Tryz.prog (z1f2 N) c):zw Tryz.prog c (zk zc1 [0,0,1]) (z1k8 N) :=
 z13 (s:=[(1,.box TT3)]) (m:=47) (g:=z1m1 N) [1] (zf hb N (t2_10 N) z1fl zc1 TabOk.nil [0,0,1] _ rfl) (fun x K=>by kernel_rfl)
def z8g (N:Nat)(t:DT8)(k0:Bool->Option Bool)(k1:Option Bool):Option Bool:=z8f N t (fun x28=>cond x28 (k0 false) k1)
def z1n1 (N:Nat)(x:z1b [(1,.box TT3)])(K:Ex->List A->Option Bool):Option Bool:=z8g N x.1 (fun a0=>(K .ret (mkS [(2,.v .bool)] 46 (a0,())))) (K .normal (mkS [(1,.box TT3)] 47 (x.1,())))
def z1l8 (N:Nat):Hd Bool:=fun st K=>(unS [(1,.box TT3)] 47 (restr [1] 0 st)).bind fun x=>z1n1 N x K
def t1_10 (N:Nat):Tab Bool:=[([0,0,1],z1k8 N)]
theorem z1j1 {N:Nat}{c:Ctx}(hb:Base Tryz.prog (z1f2 N) c):zw Tryz.prog c (zk zc1 [0,1]) (z1l8 N) :=
 z13 (s:=[(1,.box TT3)]) (m:=47) (g:=z1n1 N) [1] (zf hb N (t1_10 N) z1fl zc1 (TabOk.cons (z1i1 hb) TabOk.nil) [0,1] _ rfl) (fun x K=>by kernel_rfl)
def z8e (N:Nat)(t:DT8)(last:Int)(k:(Int×DT4))(x31:(List (Int×DT4)))(x32:Int)(x33:Int)(k0:DT8->Int->Bool->Option Bool):Option Bool:=(zim N k.1 last t).bind fun y=>cond (!y.1) (k0 y.2.2.1 y.2.1 true) (k0 y.2.2.1 y.2.1 ((List.length k.2.1:Int) != 32))
def z1lg (N:Nat)(x:z1b [(1,.box TT3),(1,.box (.int .i64)),(0,.clo 75 [3,1]),(1,.box (.pair (.int .i64) (.pair .str .unit))),(24,.v (.sl (.pair (.int .i64) (.pair .str .unit)))),(0,.v (.int .i64)),(0,.v (.int .i64))])(K:Ex->List A->Option Bool):Option Bool:=z8e N x.1 x.2.1 x.2.2.2.1 x.2.2.2.2.1 x.2.2.2.2.2.1 x.2.2.2.2.2.2.1 (fun a0 a1 a5=>(K .normal (mkS [(1,.box TT3),(1,.box (.int .i64)),(0,.clo 75 [3,1]),(26,.v (.sl (.pair (.int .i64) (.pair .str .unit)))),(0,.v (.int .i64)),(0,.v (.int .i64)),(13,.v .bool)] 1 (a0,a1,(),x.2.2.2.2.1,x.2.2.2.2.2.1,x.2.2.2.2.2.2.1,a5,()))))
def z1jn (N:Nat):Hd Bool:=fun st K=>(unS [(1,.box TT3),(1,.box (.int .i64)),(0,.clo 75 [3,1]),(1,.box (.pair (.int .i64) (.pair .str .unit))),(24,.v (.sl (.pair (.int .i64) (.pair .str .unit)))),(0,.v (.int .i64)),(0,.v (.int .i64))] 15 (restr [4,6,33,32,31,3,1] 0 st)).bind fun x=>z1lg N x K
def t4_10 (N:Nat):Tab Bool:=[]
theorem z1hg {N:Nat}{c:Ctx}(hb:Base Tryz.prog (z1f2 N) c):zw Tryz.prog c (zk zc1 z1nk) (z1jn N) :=
 z13 (s:=[(1,.box TT3),(1,.box (.int .i64)),(0,.clo 75 [3,1]),(1,.box (.pair (.int .i64) (.pair .str .unit))),(24,.v (.sl (.pair (.int .i64) (.pair .str .unit)))),(0,.v (.int .i64)),(0,.v (.int .i64))]) (m:=15) (g:=z1lg N) [4,6,33,32,31,3,1] (zf hb N (t4_10 N) z1fl zc1 TabOk.nil z1nk _ rfl) (fun x K=>by kernel_rfl)
def z8d (N:Nat)(x31:(List (Int×DT4)))(x32:Int)(t:DT8)(last:Int)(x33:Int)(rec:DT8->Int->Int->Option Bool)(k0:Bool->Option Bool)(k1:Option Bool):Option Bool:=cond (decide (x33<x32)) (cond (inR x33 (List.length x31)) (z8e N t last (List.getD x31 (Int.toNat x33) (0,([],()))) x31 x32 x33 (fun t1 last1 x47=>cond x47 (k0 false) (rec t1 last1 (IntKind.wrap IntKind.i64 (x33+1))))) none) k1
def zg8 (N:Nat)(t:DT8)(last:Int)(x31:(List (Int×DT4)))(x32:Int)(x33:Int)(k0:Bool->Option Bool)(k1:Option Bool):Option Bool:=iter (fun (v:(DT8×Int×Int)) r=>z8d N x31 x32 v.1 v.2.1 v.2.2 (fun t last x33=>(r (t,last,x33))) k0 k1) N (t,last,x33)
def z1ll (N:Nat)(i:((List (Int×DT4))×Int))(v:(DT8×Int×Int))(r:(DT8×Int×Int)->Option Bool)(K:Ex->List A->Option Bool):Option Bool:=z8d N i.1 i.2 v.1 v.2.1 v.2.2 (fun t last x33=>(r (t,last,x33))) (fun a0=>(K .ret (mkS [(2,.v .bool)] 46 (a0,())))) (K (.exit 0) (mkS [] 49 ()))
def z1js (N:Nat):Hd Bool:=fun st K=>(unS [(1,.box TT3),(1,.box (.int .i64)),(0,.clo 75 [3,1]),(26,.v (.sl (.pair (.int .i64) (.pair .str .unit)))),(0,.v (.int .i64)),(0,.v (.int .i64))] 15 (restr z1e9 0 st)).bind fun x=>iter (fun v r=>z1ll N ((fun x=>(x.2.2.2.1,x.2.2.2.2.1)) x) v r K) N ((fun x=>(x.1,x.2.1,x.2.2.2.2.2.1)) x)
def t3_10 (N:Nat):Tab Bool:=[(z1nk,z1jn N)]
theorem z1hl {N:Nat}{c:Ctx}(hb:Base Tryz.prog (z1f2 N) c):zw Tryz.prog c (zk zc1 PQ8) (z1js N) :=
 z1v (s:=[(1,.box TT3),(1,.box (.int .i64)),(0,.clo 75 [3,1]),(26,.v (.sl (.pair (.int .i64) (.pair .str .unit)))),(0,.v (.int .i64)),(0,.v (.int .i64))]) (m:=15) (z1ll N) z1e9 N (fun x=>(x.2.2.2.1,x.2.2.2.2.1)) (fun x=>(x.1,x.2.1,x.2.2.2.2.2.1)) (fun i v=>(v.1,v.2.1,(),i.1,i.2,v.2.2,())) (fun _=>rfl) (zf hb N (t3_10 N) z1fl zc1 (TabOk.cons (z1hg hb) TabOk.nil) z1eb _ rfl) (fun i v r K=>by kernel_rfl)
def z4y (N:Nat)(t:DT8):Option Bool:=z8g N t (fun x2=>some x2) (zg8 N t 0 t.2.2.2.1 (List.length t.2.2.2.1:Int) 0 (fun x21=>some x21) (some true))
def t_10 (N:Nat):Tab Bool:=[([0,1],z1l8 N),(PQ8,z1js N)]
theorem z1cg (N:Nat)(x:z1b [(0,.v TT3)]):z2b (z1f2 N) N (t_10 N) z1fl Tryz.f56 (mkS [(0,.v TT3)] 0 x) (z1c (.v .bool) 1)=z4y N x.1:=by kernel_rfl
def z7a (N:Nat):List A->Res:=z11 [(0,.v TT3)] (fun x=>z4y N x.1) (z2i (.v .bool) 1)
theorem zg9 (N:Nat):Contract Tryz.prog z17 56 (z7a N) :=
 Contract.of (E:=z1f2 N) (H:=t_10 N) (L:=z1fl) (N:=N) (body:=zc1) (K:=(z1c (.v .bool) 1)) (z1pz N) Tryz.func56 (by kernel_rfl) (by decide) (fun _ hb=>(TabOk.cons (z1j1 hb) (TabOk.cons (z1hl hb) TabOk.nil))) (fun x y h=>by rw[z1cg];exact h) (zm (s:=(.v .bool)) (m:=1))
def zbz:Code:=(Tryz.f39.body).getD .skip
def z1fk:List (List Nat×List Nat):=[([0],[1]),([0,0,1],[14,1]),([1,0,1],[1]),([0,0,1,0,1],[2]),([1,0,1,0,1],[2]),([0,0,1,1],[18,17,16,1]),([0,1,0,1,1],[18,17,16,1]),(z13i,[19,18,16,1,17]),(zzg,[18,16,1,17]),(z13j,[]),(z16s,[3,4,1,18,17,16]),(z1ee,[41,18,17,16,1]),([1,1,0,0,1,1,0,0,1,0,1,1],[18,17,16,1]),([0,0,1,1,0,0,1,1,0,0,1,0,1,1],[2]),([1,0,1,1,0,0,1,1,0,0,1,0,1,1],[2]),(z16r,[18,17,16,1]),(z16q,[18,17,16,1]),([1,0,1,1],[]),([0,1,1,1],[2]),([1,1,1,1],[2])]
def z1ew (N:Nat):Env:=z14 tys z17 [(56,z7a N),(55,z5j N)] [] [] [] false [] []
theorem z1py (N:Nat):EnvOk Tryz.prog (z1ew N):=ze mixed zq (FnsOk.cons (zg9 N) (FnsOk.cons (z9k N) (FnsOk.nil))) (ItsOk.nil)
def zhe (N:Nat)(s:((List DT8)×(Int×Unit)))(k0:Bool->Option Bool):Option Bool:=cond (decide (16<(List.length s.1:Int))) (k0 true) ((z3p N s.2.1 0).bind fun y=>k0 (!y))
def z1m0 (N:Nat)(x:z1b [(1,.box zkq)])(K:Ex->List A->Option Bool):Option Bool:=zhe N x.1 (fun a1=>(K .normal (mkS [(1,.box zkq),(12,.v .bool)] 28 (x.1,a1,()))))
def z1k7 (N:Nat):Hd Bool:=fun st K=>(unS [(1,.box zkq)] 41 (restr [1] 0 st)).bind fun x=>z1m0 N x K
def t2_11 (N:Nat):Tab Bool:=[]
theorem z1i0 {N:Nat}{c:Ctx}(hb:Base Tryz.prog (z1ew N) c):zw Tryz.prog c (zk zbz [0,0,1]) (z1k7 N) :=
 z13 (s:=[(1,.box zkq)]) (m:=41) (g:=z1m0 N) [1] (zf hb N (t2_11 N) z1fk zbz TabOk.nil [0,0,1] _ rfl) (fun x K=>by kernel_rfl)
def zhf (N:Nat)(s:((List DT8)×(Int×Unit)))(k0:Bool->Option Bool)(k1:Option Bool):Option Bool:=zhe N s (fun x14=>cond x14 (k0 false) k1)
def z1n0 (N:Nat)(x:z1b [(1,.box zkq)])(K:Ex->List A->Option Bool):Option Bool:=zhf N x.1 (fun a0=>(K .ret (mkS [(2,.v .bool)] 40 (a0,())))) (K .normal (mkS [(1,.box zkq)] 41 (x.1,())))
def z1l7 (N:Nat):Hd Bool:=fun st K=>(unS [(1,.box zkq)] 41 (restr [1] 0 st)).bind fun x=>z1n0 N x K
def t1_11 (N:Nat):Tab Bool:=[([0,0,1],z1k7 N)]
theorem z1j0 {N:Nat}{c:Ctx}(hb:Base Tryz.prog (z1ew N) c):zw Tryz.prog c (zk zbz [0,1]) (z1l7 N) :=
 z13 (s:=[(1,.box zkq)]) (m:=41) (g:=z1n0 N) [1] (zf hb N (t1_11 N) z1fk zbz (TabOk.cons (z1i0 hb) TabOk.nil) [0,1] _ rfl) (fun x K=>by kernel_rfl)
def zhd (N:Nat) (s:((List DT8)×(Int×Unit))) (i:Int) (t:DT8) (x16:(List DT8)) (x17:Int) (x18:Int) (k0:Bool->Option Bool):Option Bool :=
 cond (decide ((0:Int)<i))
 (cond (inR (IntKind.wrap IntKind.i64 (i - (1:Int))) (List.length s.1))
  (cond ((Go.Op.bytesLess t.1 (List.getD s.1 (Int.toNat (IntKind.wrap IntKind.i64 (i - (1:Int)))) (([]:List UInt8),((0:Int),((0:Int),(([]:List (Int×DT4)),()))))).1) || (t.1 == (List.getD s.1 (Int.toNat (IntKind.wrap IntKind.i64 (i - (1:Int)))) (([]:List UInt8),((0:Int),((0:Int),(([]:List (Int×DT4)),()))))).1))
   (k0 true)
   ((z4y N t).bind fun y =>
     k0 (!y)))
  (none))
 ((z4y N t).bind fun y1 =>
   k0 (!y1))
def z1lf (N:Nat)(x:z1b SQ9)(K:Ex->List A->Option Bool):Option Bool:=zhd N x.1 x.2.1 x.2.2.1 x.2.2.2.1 x.2.2.2.2.1 x.2.2.2.2.2.1 (fun a4=>(K .normal (mkS [(1,.box zkq),(14,.v (.sl TT3)),(0,.v (.int .i64)),(0,.v (.int .i64)),(22,.v .bool)] 1 (x.1,x.2.2.2.1,x.2.2.2.2.1,x.2.2.2.2.2.1,a4,()))))
def z1jm (N:Nat):Hd Bool:=fun st K=>(unS SQ9 24 (restr [3,4,1,18,17,16] 0 st)).bind fun x=>z1lf N x K
def t4_11 (N:Nat):Tab Bool:=[]
theorem z1hf {N:Nat}{c:Ctx}(hb:Base Tryz.prog (z1ew N) c):zw Tryz.prog c (zk zbz z1ee) (z1jm N) :=
 z13 (s:=SQ9) (m:=24) (g:=z1lf N) [3,4,1,18,17,16] (zf hb N (t4_11 N) z1fk zbz TabOk.nil z1ee _ rfl) (fun x K=>by kernel_rfl)
def zhc (N:Nat)(s:((List DT8)×(Int×Unit)))(x16:(List DT8))(x17:Int)(x18:Int)(rec:Int->Option Bool)(k0:Bool->Option Bool)(k1:Option Bool):Option Bool:=cond (decide (x18<x17)) (cond (inR x18 (List.length x16)) (zhd N s x18 (List.getD x16 (Int.toNat x18) ([],(0,(0,(([]:List (Int×DT4)),()))))) x16 x17 x18 (fun x41=>cond x41 (k0 false) (rec (IntKind.wrap IntKind.i64 (x18+1))))) none) k1
def zpr (N:Nat)(s:((List DT8)×(Int×Unit)))(x16:(List DT8))(x17:Int)(x18:Int)(k0:Bool->Option Bool)(k1:Option Bool):Option Bool:=iter (fun (v:Int) r=>zhc N s x16 x17 v (fun x18=>(r x18)) k0 k1) N x18
def z1lk (N:Nat)(i:(((List DT8)×(Int×Unit))×(List DT8)×Int))(v:Int)(r:Int->Option Bool)(K:Ex->List A->Option Bool):Option Bool:=zhc N i.1 i.2.1 i.2.2 v (fun x18=>(r x18)) (fun a0=>(K .ret (mkS [(2,.v .bool)] 40 (a0,())))) (K (.exit 0) (mkS [] 43 ()))
def z1jr (N:Nat):Hd Bool:=fun st K=>(unS [(1,.box zkq),(14,.v (.sl TT3)),(0,.v (.int .i64)),(0,.v (.int .i64))] 24 (restr [18,17,16,1] 0 st)).bind fun x=>iter (fun v r=>z1lk N ((fun x=>(x.1,x.2.1,x.2.2.1)) x) v r K) N ((fun x=>x.2.2.2.1) x)
def t3_11 (N:Nat):Tab Bool:=[(z1ee,z1jm N)]
theorem z1hk {N:Nat}{c:Ctx}(hb:Base Tryz.prog (z1ew N) c):zw Tryz.prog c (zk zbz [0,1,0,1,1]) (z1jr N) :=
 z1v (s:=[(1,.box zkq),(14,.v (.sl TT3)),(0,.v (.int .i64)),(0,.v (.int .i64))]) (m:=24) (z1lk N) [18,17,16,1] N (fun x=>(x.1,x.2.1,x.2.2.1)) (fun x=>x.2.2.2.1) (fun i v=>(i.1,i.2.1,i.2.2,v,())) (fun _=>rfl) (zf hb N (t3_11 N) z1fk zbz (TabOk.cons (z1hf hb) TabOk.nil) [0,0,1,0,1,1] _ rfl) (fun i v r K=>by kernel_rfl)
def zin (N:Nat)(s:((List DT8)×(Int×Unit))):Option Bool:=zhf N s (fun x2=>some x2) (zpr N s s.1 (List.length s.1:Int) 0 (fun x21=>some x21) (some true))
def t_11 (N:Nat):Tab Bool:=[([0,1],z1l7 N),([0,1,0,1,1],z1jr N)]
theorem z1cf (N:Nat)(x:z1b [(0,.v zkq)]):z2b (z1ew N) N (t_11 N) z1fk Tryz.f39 (mkS [(0,.v zkq)] 0 x) (z1c (.v .bool) 1)=zin N x.1:=by kernel_rfl
def zf9 (N:Nat):List A->Res:=z11 [(0,.v zkq)] (fun x=>zin N x.1) (z2i (.v .bool) 1)
theorem zps (N:Nat):Contract Tryz.prog z17 39 (zf9 N) :=
 Contract.of (E:=z1ew N) (H:=t_11 N) (L:=z1fk) (N:=N) (body:=zbz) (K:=(z1c (.v .bool) 1)) (z1py N) Tryz.func39 (by kernel_rfl) (by decide) (fun _ hb=>(TabOk.cons (z1j0 hb) (TabOk.cons (z1hk hb) TabOk.nil))) (fun x y h=>by rw[z1cf];exact h) (zm (s:=(.v .bool)) (m:=1))
def z1e4:Code:=(Tryz.f40.body).getD .skip
def L_12:List (List Nat×List Nat):=[([0],[0,1,2,6]),([0,1],[6]),([1,1],[6])]
def E_12 (N:Nat):Env:=z14 tys z17 [] [] [] [] false [] []
theorem z1px (N:Nat):EnvOk Tryz.prog (E_12 N):=ze mixed zq (FnsOk.nil) (ItsOk.nil)
def zcf (N:Nat)(tenant:(List UInt8))(epoch:Int)(next:Int):Option z6c:=some (1,(tenant,(next,(epoch,([],())))))
def t_12 (N:Nat):Tab z6c:=[]
theorem z1ce (N:Nat)(x:z1b SQ54):z2b (E_12 N) N (t_12 N) L_12 Tryz.f40 (mkS SQ54 0 x) (z1c (.v TT7) 3)=zcf N x.1 x.2.1 x.2.2.1:=by kernel_rfl
def z7d (N:Nat):List A->Res:=z11 SQ54 (fun x=>zcf N x.1 x.2.1 x.2.2.1) (z2i (.v TT7) 3)
theorem zgb (N:Nat):Contract Tryz.prog z17 40 (z7d N) :=
 Contract.of (E:=E_12 N) (H:=t_12 N) (L:=L_12) (N:=N) (body:=z1e4) (K:=(z1c (.v TT7) 3)) (z1px N) Tryz.func40 (by kernel_rfl) (by decide) (fun _ hb=>TabOk.nil) (fun x y h=>by rw[z1ce];exact h) (zm (s:=(.v TT7)) (m:=3))
def z1e3:Code:=(Tryz.f41.body).getD .skip
def L_13:List (List Nat×List Nat):=[([0],[0,1,2,6]),([0,1],[6]),([1,1],[6])]
def E_13 (N:Nat):Env:=z14 tys z17 [] [] [] [] false [] []
theorem z1pw (N:Nat):EnvOk Tryz.prog (E_13 N):=ze mixed zq (FnsOk.nil) (ItsOk.nil)
def zhi (N:Nat)(tenant:(List UInt8))(num:Int)(key:(List UInt8)):Option z6c:=some (2,(tenant,(num,(0,(key,())))))
def t_13 (N:Nat):Tab z6c:=[]
theorem z1cd (N:Nat)(x:z1b SQ62):z2b (E_13 N) N (t_13 N) L_13 Tryz.f41 (mkS SQ62 0 x) (z1c (.v TT7) 3)=zhi N x.1 x.2.1 x.2.2.1:=by kernel_rfl
def za9 (N:Nat):List A->Res:=z11 SQ62 (fun x=>zhi N x.1 x.2.1 x.2.2.1) (z2i (.v TT7) 3)
theorem zkl (N:Nat):Contract Tryz.prog z17 41 (za9 N) :=
 Contract.of (E:=E_13 N) (H:=t_13 N) (L:=L_13) (N:=N) (body:=z1e3) (K:=(z1c (.v TT7) 3)) (z1pw N) Tryz.func41 (by kernel_rfl) (by decide) (fun _ hb=>TabOk.nil) (fun x y h=>by rw[z1cd];exact h) (zm (s:=(.v TT7)) (m:=3))
def znb:Code:=(Tryz.f24.body).getD .skip
def L_14:List (List Nat×List Nat):=[([0],[1]),([0,0,1],[10,1]),([1,0,1],[1]),([0,0,1,0,1],[2]),([1,0,1,0,1],[2]),([0,1,1],[1,3]),([0,0,1,1,1],[14,13,12,3,1]),([0,1,0,1,1,1],[14,13,12,3,1]),([0,0,0,1,0,1,1,1],[15,12,14,3,13,1]),(z18b,[12,14,3,13,1]),([1,0,1,0,0,1,0,1,1,1],[3,1]),([0,0,0,1,1,0,0,1,0,1,1,1],[3,5,14,13,12,1]),([0,1,0,0,1,1,0,0,1,0,1,1,1],[5,3,14,13,12,1]),([0,1,1,0,0,1,1,0,0,1,0,1,1,1],z1ec),(PQ66,z1ec),([0,0,0,1,1,1,0,0,1,1,0,0,1,0,1,1,1],[32,29,31,3,5,30,14,13,12,1]),([0,1,0,0,1,1,1,0,0,1,1,0,0,1,0,1,1,1],[29,31,3,5,30,14,13,12,1]),([1,0,1,0,0,1,1,1,0,0,1,1,0,0,1,0,1,1,1],[14,13,12,3,1]),([0,0,0,1,1,0,0,1,1,1,0,0,1,1,0,0,1,0,1,1,1],[3,5,7,31,30,29,14,13,12,1]),([1,0,0,1,1,0,0,1,1,1,0,0,1,1,0,0,1,0,1,1,1],z1ec),([0,1,1,0,0,1,1,1,0,0,1,1,0,0,1,0,1,1,1],z1ec),([1,1,1,0,0,1,1,1,0,0,1,1,0,0,1,0,1,1,1],z1ec),([1,1,1,0,0,1,1,0,0,1,0,1,1,1],[14,13,12,3,1]),([0,1,1,0,0,1,0,1,1,1],[14,13,12,3,1]),([1,1,1,0,0,1,0,1,1,1],[14,13,12,3,1]),([1,0,1,1,1],[3,1]),([0,1,1,1,1],[2]),([1,1,1,1,1],[2])]
def z1qd (N:Nat):Env:=z14 tys z17 [(41,za9 N),(40,z7d N),(39,zf9 N)] [(3,TT7),(2,TT7)] [] [] false [] []
theorem z1pv (N:Nat):EnvOk Tryz.prog (z1qd N):=ze mixed zq (FnsOk.cons (zkl N) (FnsOk.cons (zgb N) (FnsOk.cons (zps N) (FnsOk.nil)))) (ItsOk.nil)
def zhj (N:Nat)(s:((List DT8)×(Int×Unit)))(t:DT8)(x12:(List DT8))(x13:Int)(x14:Int)(x29:(List (Int×DT4)))(x30:Int)(l:(List z6c))(x31:Int)(rec:(List z6c)->Int->Option (List z6c))(k0:(List z6c)->Option (List z6c)):Option (List z6c):=cond (decide (x31<x30)) (cond (inR x31 (List.length x29)) (cond (decide ((((List.length l)+1)*56)<=70368744177664)) (rec (l++([(2,(t.1,((List.getD x29 (Int.toNat x31) (0,([],()))).1,(0,((List.getD x29 (Int.toNat x31) (0,([],()))).2.1,())))))]:List z6c)) (IntKind.wrap IntKind.i64 (x31+1))) none) none) (k0 l)
def zpx (N:Nat)(s:((List DT8)×(Int×Unit)))(l:(List z6c))(t:DT8)(x12:(List DT8))(x13:Int)(x14:Int)(x29:(List (Int×DT4)))(x30:Int)(x31:Int)(k0:(List z6c)->Option (List z6c)):Option (List z6c):=iter (fun (v:((List z6c)×Int)) r=>zhj N s t x12 x13 x14 x29 x30 v.1 v.2 (fun l x31=>(r (l,x31))) k0) N (l,x31)
def z1lz (N:Nat)(i:(((List DT8)×(Int×Unit))×DT8×(List DT8)×Int×Int×(List (Int×DT4))×Int))(v:((List z6c)×Int))(r:((List z6c)×Int)->Option (List z6c))(K:Ex->List A->Option (List z6c)):Option (List z6c):=zhj N i.1 i.2.1 i.2.2.1 i.2.2.2.1 i.2.2.2.2.1 i.2.2.2.2.2.1 i.2.2.2.2.2.2 v.1 v.2 (fun l x31=>(r (l,x31))) (fun a1=>(K (.exit 2) (mkS SQ16 38 (i.1,a1,i.2.2.1,i.2.2.2.1,i.2.2.2.2.1,()))))
def z1k6 (N:Nat):Hd (List z6c):=fun st K=>(unS SQ6 21 (restr z1ec 0 st)).bind fun x=>iter (fun v r=>z1lz N ((fun x=>(x.1,x.2.2.1,x.2.2.2.1,x.2.2.2.2.1,x.2.2.2.2.2.1,x.2.2.2.2.2.2.1,x.2.2.2.2.2.2.2.1)) x) v r K) N ((fun x=>(x.2.1,x.2.2.2.2.2.2.2.2.1)) x)
def t2_14 (N:Nat):Tab (List z6c):=[]
theorem z1hz {N:Nat}{c:Ctx}(hb:Base Tryz.prog (z1qd N) c):zw Tryz.prog c (zk znb PQ66) (z1k6 N) :=
 z1v (s:=SQ6) (m:=21) (z1lz N) z1ec N (fun x=>(x.1,x.2.2.1,x.2.2.2.1,x.2.2.2.2.1,x.2.2.2.2.2.1,x.2.2.2.2.2.2.1,x.2.2.2.2.2.2.2.1)) (fun x=>(x.2.1,x.2.2.2.2.2.2.2.2.1)) (fun i v=>(i.1,v.1,i.2.1,i.2.2.1,i.2.2.2.1,i.2.2.2.2.1,i.2.2.2.2.2.1,i.2.2.2.2.2.2,v.2,())) (fun _=>rfl) (zf hb N (t2_14 N) L_14 znb TabOk.nil [0,0,1,1,1,0,0,1,1,0,0,1,0,1,1,1] _ rfl) (fun i v r K=>by kernel_rfl)
def zhk (N:Nat)(s:((List DT8)×(Int×Unit)))(x12:(List DT8))(x13:Int)(l:(List z6c))(x14:Int)(rec:(List z6c)->Int->Option (List z6c))(k0:(List z6c)->Option (List z6c)):Option (List z6c):=cond (decide (x14<x13)) (cond (inR x14 (List.length x12)) (cond (decide ((((List.length l)+1)*56)<=70368744177664)) (zpx N s (l++([(1,((List.getD x12 (Int.toNat x14) ([],(0,(0,(([]:List (Int×DT4)),()))))).1,((List.getD x12 (Int.toNat x14) ([],(0,(0,(([]:List (Int×DT4)),()))))).2.2.1,((List.getD x12 (Int.toNat x14) ([],(0,(0,(([]:List (Int×DT4)),()))))).2.1,([],())))))]:List z6c)) (List.getD x12 (Int.toNat x14) ([],(0,(0,(([]:List (Int×DT4)),()))))) x12 x13 x14 (List.getD x12 (Int.toNat x14) ([],(0,(0,(([]:List (Int×DT4)),()))))).2.2.2.1 (((List.length (List.getD x12 (Int.toNat x14) ([],(0,(0,(([]:List (Int×DT4)),()))))).2.2.2.1):Nat):Int) 0 (fun l1=>rec l1 (IntKind.wrap IntKind.i64 (x14+1)))) none) none) (k0 l)
def zpy (N:Nat)(s:((List DT8)×(Int×Unit)))(l:(List z6c))(x12:(List DT8))(x13:Int)(x14:Int)(k0:(List z6c)->Option (List z6c)):Option (List z6c):=iter (fun (v:((List z6c)×Int)) r=>zhk N s x12 x13 v.1 v.2 (fun l x14=>(r (l,x14))) k0) N (l,x14)
def z1mz (N:Nat)(i:(((List DT8)×(Int×Unit))×(List DT8)×Int))(v:((List z6c)×Int))(r:((List z6c)×Int)->Option (List z6c))(K:Ex->List A->Option (List z6c)):Option (List z6c):=zhk N i.1 i.2.1 i.2.2 v.1 v.2 (fun l x14=>(r (l,x14))) (fun a1=>(K (.exit 0) (mkS [(1,.box zkq),(1,.row TT7)] 49 (i.1,a1,()))))
def z1l6 (N:Nat):Hd (List z6c):=fun st K=>(unS SQ16 38 (restr [14,13,12,3,1] 0 st)).bind fun x=>iter (fun v r=>z1mz N ((fun x=>(x.1,x.2.2.1,x.2.2.2.1)) x) v r K) N ((fun x=>(x.2.1,x.2.2.2.2.1)) x)
def t1_14 (N:Nat):Tab (List z6c):=[(PQ66,z1k6 N)]
theorem z1iz {N:Nat}{c:Ctx}(hb:Base Tryz.prog (z1qd N) c):zw Tryz.prog c (zk znb [0,1,0,1,1,1]) (z1l6 N) :=
 z1v (s:=SQ16) (m:=38) (z1mz N) [14,13,12,3,1] N (fun x=>(x.1,x.2.2.1,x.2.2.2.1)) (fun x=>(x.2.1,x.2.2.2.2.1)) (fun i v=>(i.1,v.1,i.2.1,i.2.2,v.2,())) (fun _=>rfl) (zf hb N (t1_14 N) L_14 znb (TabOk.cons (z1hz hb) TabOk.nil) z1ea _ rfl) (fun i v r K=>by kernel_rfl)
def zir (N:Nat)(s:((List DT8)×(Int×Unit))):Option (List z6c):=(zin N s).bind fun y=>cond (!y) (some []) (zpy N s [] s.1 (List.length s.1:Int) 0 (fun l=>cond (decide ((((List.length l)+1)*56)<=70368744177664)) (some (l++([(4,([],(s.2.1,(0,([],())))))]:List z6c))) none))
def t_14 (N:Nat):Tab (List z6c):=[([0,1,0,1,1,1],z1l6 N)]
theorem z1cc (N:Nat)(x:z1b [(0,.v zkq)]):z2b (z1qd N) N (t_14 N) L_14 Tryz.f24 (mkS [(0,.v zkq)] 0 x) (z1c (.v (.sl TT7)) 1)=zir N x.1:=by kernel_rfl
def zfc (N:Nat):List A->Res:=z11 [(0,.v zkq)] (fun x=>zir N x.1) (z2i (.v (.sl TT7)) 1)
theorem zpz (N:Nat):Contract Tryz.prog z17 24 (zfc N) :=
 Contract.of (E:=z1qd N) (H:=t_14 N) (L:=L_14) (N:=N) (body:=znb) (K:=(z1c (.v (.sl TT7)) 1)) (z1pv N) Tryz.func24 (by kernel_rfl) (by decide) (fun _ hb=>(TabOk.cons (z1iz hb) TabOk.nil)) (fun x y h=>by rw[z1cc];exact h) (zm (s:=(.v (.sl TT7))) (m:=1))
def z1e2:Code:=(Tryz.f29.body).getD .skip
def L_15:List (List Nat×List Nat):=[([0],[0,1]),([0,1],[0,1]),([0,1,1],[1,0]),([0,1,1,1],[4,5,0]),([1,1,1,1],[4,5,0])]
def E_15 (N:Nat):Env:=z14 tys z17 [(46,z12l)] [] [] [0] false [] []
theorem z1pu (N:Nat):EnvOk Tryz.prog (E_15 N):=ze mixed zq (FnsOk.cons (z1n7 z17) (FnsOk.nil)) (ItsOk.nil)
def zh (N:Nat)(b:z7w)(s:(List UInt8)):Option ((Int×Go.Value×Unit)×(z7w×Unit)):=cond (decide ((((List.length b.2.1)+(List.length (z1u s)))*1)<=70368744177664)) (some (((List.length s:Int),(Go.Value.nilIface,())),((b.1,((b.2.1++(z1u s)),b.2.2)),()))) none
def t_15 (N:Nat):Tab ((Int×Go.Value×Unit)×(z7w×Unit)):=[]
theorem z1cb (N:Nat)(x:z1b [(0,.box zen),(0,.v .str)]):z2b (E_15 N) N (t_15 N) L_15 Tryz.f29 (mkS [(0,.box zen),(0,.v .str)] 0 x) (z7l (.tup [(.int .i64),.opq]) [(0,.box zen)] 1)=zh N x.1 x.2.1:=by kernel_rfl
def z1d (N:Nat):List A->Res:=z11 [(0,.box zen),(0,.v .str)] (fun x=>zh N x.1 x.2.1) (zgd (.tup [(.int .i64),.opq]) [(0,.box zen)] 1)
theorem z1g (N:Nat):Contract Tryz.prog z17 29 (z1d N) :=
 Contract.of (E:=E_15 N) (H:=t_15 N) (L:=L_15) (N:=N) (body:=z1e2) (K:=(z7l (.tup [(.int .i64),.opq]) [(0,.box zen)] 1)) (z1pu N) Tryz.func29 (by kernel_rfl) (by decide) (fun _ hb=>TabOk.nil) (fun x y h=>by rw[z1cb];exact h) (z5l (s:=(.tup [(.int .i64),.opq])) (os:=[(0,.box zen)]) (m:=1))
def zvv:Code:=(Tryz.f57.body).getD .skip
def L_16:List (List Nat×List Nat):=[([0],[1]),([0,1],[1,3]),([0,0,1,1],[13,3,1]),([0,0,1,0,1,1],[14,3,1,13]),([1,0,1,0,1,1],[]),([0,1,1,0,1,0,1,1],[27,3,1,13]),([1,1,1,0,1,0,1,1],[]),([0,1,1,1,1,0,1,0,1,1],[41,3,1,13]),([1,1,1,1,1,0,1,0,1,1],[]),([0,1,1,1,1,1,1,0,1,0,1,1],[54,1]),([1,1,1,1,1,1,1,0,1,0,1,1],[]),([0,0,1,1,1,1,1,1,1,0,1,0,1,1],[2]),([1,0,1,1,1,1,1,1,1,0,1,0,1,1],[2]),([0,0,1,1,1,1,1,0,1,0,1,1],[2]),([1,0,1,1,1,1,1,0,1,0,1,1],[2]),([0,0,1,1,1,0,1,0,1,1],[2]),([1,0,1,1,1,0,1,0,1,1],[2]),([0,0,1,0,1,0,1,1],[2]),([1,0,1,0,1,0,1,1],[2]),([1,0,1,1],[]),([0,1,1,1],[2]),([1,1,1,1],[2])]
def E_16 (N:Nat):Env:=z14 tys z17 [(74,zbf N),(55,z5j N)] [] [] [] false [] []
theorem z1pt (N:Nat):EnvOk Tryz.prog (E_16 N):=ze mixed zq (FnsOk.cons (zju N) (FnsOk.cons (z9k N) (FnsOk.nil))) (ItsOk.nil)
def zjl (N:Nat)(e:z6c)(k0:Bool->Option Bool):Option Bool:=(zhp N e.2.1).bind fun y=>cond y ((z3p N e.2.2.1 1).bind fun y1=>k0 y1) (k0 false)
def z1my (N:Nat)(x:z1b [(1,.box TT7)])(K:Ex->List A->Option Bool):Option Bool:=zjl N x.1 (fun a1=>(K .normal (mkS [(1,.box TT7),(1,.v .bool)] 70 (x.1,a1,()))))
def z1l5 (N:Nat):Hd Bool:=fun st K=>(unS [(1,.box TT7)] 72 (restr [1] 0 st)).bind fun x=>z1my N x K
def t1_16 (N:Nat):Tab Bool:=[]
theorem z1iy {N:Nat}{c:Ctx}(hb:Base Tryz.prog (E_16 N) c):zw Tryz.prog c (zk zvv [0,1]) (z1l5 N) :=
 z13 (s:=[(1,.box TT7)]) (m:=72) (g:=z1my N) [1] (zf hb N (t1_16 N) L_16 zvv TabOk.nil [0,1] _ rfl) (fun x K=>by kernel_rfl)
def z8h (N:Nat)(e:z6c):Option Bool:=zjl N e (fun ofTenant=>cond (e.1 == 1) (cond ofTenant ((z3p N e.2.2.2.1 0).bind fun y=>cond y (some (e.2.2.2.2.1 == [])) (some false)) (some false)) (cond (e.1 == 2) (cond ofTenant (cond (e.2.2.2.1 == 0) (some ((List.length e.2.2.2.2.1:Int) == 32)) (some false)) (some false)) (cond (e.1 == 3) (cond ofTenant (cond (e.2.2.2.1 == 0) (some (e.2.2.2.2.1 == [])) (some false)) (some false)) (cond (e.1 == 4) ((z3p N e.2.2.1 0).bind fun y1=>cond y1 (cond (e.2.1 == []) (cond (e.2.2.2.1 == 0) (some (e.2.2.2.2.1 == [])) (some false)) (some false)) (some false)) (some false)))))
def t_16 (N:Nat):Tab Bool:=[([0,1],z1l5 N)]
theorem z1ca (N:Nat)(x:z1b [(0,.v TT7)]):z2b (E_16 N) N (t_16 N) L_16 Tryz.f57 (mkS [(0,.v TT7)] 0 x) (z1c (.v .bool) 1)=z8h N x.1:=by kernel_rfl
def zpt (N:Nat):List A->Res:=z11 [(0,.v TT7)] (fun x=>z8h N x.1) (z2i (.v .bool) 1)
theorem zs0 (N:Nat):Contract Tryz.prog z17 57 (zpt N) :=
 Contract.of (E:=E_16 N) (H:=t_16 N) (L:=L_16) (N:=N) (body:=zvv) (K:=(z1c (.v .bool) 1)) (z1pt N) Tryz.func57 (by kernel_rfl) (by decide) (fun _ hb=>(TabOk.cons (z1iy hb) TabOk.nil)) (fun x y h=>by rw[z1ca];exact h) (zm (s:=(.v .bool)) (m:=1))
theorem z8o (S:Hp):GlobOk z17 S:=fun g d h=>by cases h
def Calm (w:World)(S:Hp)(w':World):Prop:=∃ S',WF w (fun _=>False) w'/\Lift.Sub S S'/\Lift.Sub S' (hp w')/\∀ k,S' k≠none->S k≠none\/w.heap.size<=k
theorem Calm.refl {w:World}{S:Hp}(h:Lift.Sub S (hp w)):Calm w S w:=⟨S,WF.refl _ _,Lift.Sub.refl S,h,fun _ h=>.inl h⟩
theorem Calm.cell {w w':World}{S:Hp}{p:Addr}{v:Value}(h:Calm w S w')(hc:w.cell? p=some v):w'.cell? p=some v:=by
 obtain⟨S',h1,_⟩:=h;have hlt:p.block<w.heap.size:=by
  cases hh:w.heap[p.block]? with
  | none=>simp[World.cell?,hh] at hc
  | some o=>exact (Array.getElem?_eq_some_iff.1 hh).1
 have:=h1.same p.block hlt (fun h=>h);simp only[World.cell?] at hc ⊢;rw[this];exact hc
theorem Calm.next {w w1 w2:World}{S:Hp}(h:Calm w S w1)(hk:∀ S1,Lift.Sub S1 (hp w1)->Calm w1 S1 w2):Calm w S w2:=by
 obtain⟨S1,h1,h2,h3,h4⟩:=h;obtain⟨S2,k1,k2,k3,k4⟩:=hk S1 h3;refine⟨S2,h1.trans k1 (fun k hk=>.inl hk),h2.trans k2,k3,fun k hk=>?_⟩;rcases k4 k hk with h|h
 . exact h4 k h
 . exact .inr (Nat.le_trans h1.size h)
theorem zvb {w w':World}{S:Hp}{args:List A}{vals:List Value}{r:A}{outs:List A}{e:Ending}
 (h:Lift.Ends w S args vals (fun _=>[]) r outs e w'):∃ v o S',e=.returned v/\ARel (hp w') S' (fun _=>undef) r v o/\Calm w S w':=by
 obtain⟨v,S',o,ob',rfl,hwf,hSS,hSw,hnew,⟨hr,_⟩,_⟩:=h;refine⟨v,o,S',rfl,hr,S',⟨hwf.size,fun k hk _=>hwf.same k hk (by rintro⟨i,hi⟩;cases hi),hwf.tape,hwf.os,hwf.output⟩,hSS,hSw,fun k hk=>?_⟩;rcases hnew k hk with h|⟨i,hi⟩|h
 . exact .inl h
 . cases hi
 . exact .inr h
theorem zjf {w:World}{S:Hp}(l:List (A×Value))(hl:∀ p∈l,ARel (hp w) S (fun _=>undef) p.1 p.2 []/\p.1.refs=[]) :
 ArgsRel (hp w) S (l.map (·.1)) (l.map (·.2)) (fun _=>[]):=by
 refine⟨by simp,fun i y hy=>?_,fun _ _=>rfl,(fun i j b hb=>by cases hb),fun _=>.nil,(fun i b hb=>by cases hb)⟩;simp only[List.getElem?_map] at hy ⊢;cases hp:l[i]? with
 | none=>rw[hp] at hy;cases hy
 | some p =>
   rw[hp] at hy;cases hy;have:=hl p (List.mem_of_getElem? hp);exact⟨⟨p.2,rfl,this.1⟩,this.2⟩
theorem zsc (N:Nat){w:World}{S:Hp}(hS:Lift.Sub S (hp w)){n:Int}{s:List UInt8}(hy:z1z N n=some s) :
 Calls Tryz.prog 28 #[.int .u64 n] w fun r w'=>r=.returned (.string ⟨⟨s⟩⟩)/\Calm w S w':=by
 refine ((z95 N).2 w S _ _ _ (zjf [(.v (.int .u64) n,.int .u64 n)] (fun p hp=>by rw[List.mem_singleton.1 hp];exact⟨⟨VR.int,rfl⟩,rfl⟩)) hS (z8o S) _ hy).mono ?_;intro e w' he;obtain⟨v,o,S',rfl,hr,hc⟩:=zvb he;exact⟨by rw[VR.str_inv hr.1],hc⟩
theorem zxv (N:Nat){w:World}{S:Hp}(hS:Lift.Sub S (hp w)){t s:List UInt8}(hy:z1k N t=some s) :
 Calls Tryz.prog 43 #[.string ⟨⟨t⟩⟩] w fun r w'=>r=.returned (.string ⟨⟨s⟩⟩)/\Calm w S w':=by
 refine ((z7n N).2 w S _ _ _ (zjf [(.v .str t,.string ⟨⟨t⟩⟩)] (fun p hp=>by rw[List.mem_singleton.1 hp];exact⟨⟨VR.str,rfl⟩,rfl⟩)) hS (z8o S) _ hy).mono ?_;intro e w' he;obtain⟨v,o,S',rfl,hr,hc⟩:=zvb he;exact⟨by rw[VR.str_inv hr.1],hc⟩
theorem ztf (a b:List UInt8):(⟨⟨a⟩⟩:ByteArray)++⟨⟨b⟩⟩=⟨⟨a++b⟩⟩:=by
 apply ByteArray.ext;rw[ByteArray.data_append];apply Array.toList_inj.1;simp
theorem z69 {w:World}{S:Hp}(hS:Lift.Sub S (hp w))(cs:Array Value)(E:Nat):Calm w S (w.alloc (.cells cs E)):=by
 have hh:(w.alloc (.cells cs E)).heap=w.heap.push (.cells cs E (0,0)):=rfl;have hk:∀ k,k<w.heap.size->(w.alloc (.cells cs E)).heap[k]?=w.heap[k]?:=fun k hk=>by
  rw[hh,Array.getElem?_push,if_neg (by omega)]
 refine⟨S,⟨?_,fun k h1 _=>hk k h1,rfl,rfl,rfl⟩,Lift.Sub.refl S,fun k o ho=>?_,fun _ h=>.inl h⟩
 . rw[hh,Array.size_push];omega
 . have:=hS k o ho;simp only[hp] at this ⊢;rw[hk k (Array.getElem?_eq_some_iff.1 this).1];exact this
theorem z3b {w:World}{cs:Array Value}{E i:Nat}{v:Value}(h:cs[i]?=some v):(w.alloc (.cells cs E)).cell? ⟨w.heap.size,i,none⟩=some v:=by
 have hh:(w.alloc (.cells cs E)).heap=w.heap.push (.cells cs E (0,0)):=rfl;simp[World.cell?,hh,h]
set_option maxHeartbeats 4000000 in
theorem zsz {w w':World}{S:Hp}{args:List A}{vals:List Value}{ob:Nat->List Nat}{rA:A}{rV:Value}{outs:List A}
 (hb:∀ y∈args,z6r y=false) (hob:∀ i,ob i=[]) (hC:Calm w S w') (hr:∀ S',ARel (hp w') S' (fun _=>undef) rA rV []) (hrr:rA.refs=[]):Lift.Ends w S args vals ob rA outs (.returned rV) w':=by
 obtain⟨S',h1,h2,h3,h4⟩:=hC;refine⟨rV,S',[],ob,rfl,⟨h1.size,fun k hk _=>h1.same k hk (fun h=>h),h1.tape,h1.os,h1.output⟩,h2,h3,fun k hk=>?_,⟨hr S',hrr⟩,(fun k hk=>by cases hk),.nil,?_,?_,?_,?_,fun _ h=>h⟩
 . rcases h4 k hk with h|h
   . exact .inl h
   . exact .inr (.inr h)
 . intro i y hy hbx;have:=hb y (List.mem_of_getElem? hy);rw[hbx] at this;cases this
 . intro i k hk;rw[hob i] at hk;cases hk
 . intro i j k hi;rw[hob i] at hi;cases hi
 . intro i;rw[hob i];exact .nil
theorem zsr (N:Nat){w:World}{S:Hp}(hS:Lift.Sub S (hp w)){k n e:Int}{t x:List UInt8}{v:Bool}(hy:z8h N (k,t,n,e,x,())=some v) :
 Calls Tryz.prog 57 #[.agg #[.int .i64 k,.string ⟨⟨t⟩⟩,.int .i64 n,.int .i64 e,.string ⟨⟨x⟩⟩]] w fun r w'=>r=.returned (.bool v)/\Calm w S w':=by
 refine ((zs0 N).2 w S _ _ _ (zjf [(.v TT7 (k,t,n,e,x,()),.agg #[.int .i64 k,.string ⟨⟨t⟩⟩,.int .i64 n,.int .i64 e,.string ⟨⟨x⟩⟩])] (fun p hp=>by
  rw[List.mem_singleton.1 hp];exact⟨⟨⟨_,rfl,[.int .i64 k],_,rfl,rfl,[.string ⟨⟨t⟩⟩],_,rfl,rfl,[.int .i64 n],_,rfl,rfl,[.int .i64 e],_,rfl,rfl,[.string ⟨⟨x⟩⟩],[],rfl,rfl,rfl⟩,rfl⟩,rfl⟩)) hS (z8o S) _ hy).mono ?_
 intro e' w' he;obtain⟨u,o,S',rfl,hr,hc⟩:=zvb he;exact⟨by rw[VR.bool_inv hr.1],hc⟩
theorem Calm.drew {w w':World}{S:Hp}(h:Calm w S w'):Calm w S w'.drew:=by
 obtain⟨S',h1,h2,h3,h4⟩:=h;exact⟨S',⟨h1.size,h1.same,h1.tape,h1.os,h1.output⟩,h2,h3,h4⟩
theorem znp {w:World}{b:Nat} :
 Calls Tryz.prog 58 #[.pointer (some ⟨b,0,none⟩)] w fun r w'=>r=.returned (.agg #[.pointer (some ⟨b,3,none⟩),.pointer (some ⟨b,2,none⟩)])/\∀ S,Lift.Sub S (hp w)->Calm w S w':=by
 go_enter Tryz.func58,Tryz.ntmps58
 go_wp2
 go_region_held3 (fun _=>True) (trivial) (fail)
 all_goals go_wp2
 refine⟨rfl,_,?_,rfl,fun S hS=>(z69 hS _ _).drew⟩;have c0:(w.alloc (.cells #[.pointer (some ⟨b,3,none⟩),.pointer (some ⟨b,2,none⟩)] 111)).cell? ⟨w.heap.size,0,none⟩=some (.pointer (some ⟨b,3,none⟩)):=z3b rfl;have c1:(w.alloc (.cells #[.pointer (some ⟨b,3,none⟩),.pointer (some ⟨b,2,none⟩)] 111)).cell? ⟨w.heap.size,1,none⟩=some (.pointer (some ⟨b,2,none⟩)):=z3b rfl;simp[results,Tryz.results58,go_sem,c0,c1]
theorem zud (N:Nat){w:World}{S:Hp}{b c:Nat}{e n:Int}{a1 a2:List UInt8}(hS:Lift.Sub S (hp w))
 (c0:w.cell? ⟨c,0,none⟩=some (.pointer (some ⟨b,3,none⟩))) (c1:w.cell? ⟨c,1,none⟩=some (.pointer (some ⟨b,2,none⟩)))
 (b2:w.cell? ⟨b,2,none⟩=some (.int .i64 n)) (b3:w.cell? ⟨b,3,none⟩=some (.int .i64 e))
 (he:0<=e) (he':e<=1099511627776) (h1:z1z N e=some a1) (hn:0<=n) (hn':n<=1099511627776) (h2:z1z N n=some a2)
 (l1:a1.length<=9223372036854775807) (l2:a1.length+a2.length<=9223372036854775807) :
 Calls Tryz.prog 59 #[.slice (some ⟨c,0,none⟩) 2 2] w fun r w'=>r=.returned (.string ⟨⟨a1++a2⟩⟩)/\Calm w S w':=by
 have H1:=zsc N hS h1;have H2:∀ w1,Calm w S w1->Calls Tryz.prog 28 #[.int .u64 n] w1 fun r w'=>r=.returned (.string ⟨⟨a2⟩⟩)/\Calm w S w':=fun w1 ⟨S1,k1,k2,k3,k4⟩ =>
  (zsc N k3 h2).mono (by rintro r w' ⟨rfl,S2,l1,l2,l3,l4⟩;exact⟨rfl,S2,k1.trans l1 (fun _ h=>.inl h),k2.trans l2,l3,fun k hk=>(l4 k hk).elim (k4 k) (fun h=>.inr (Nat.le_trans k1.size h))⟩)
 go_enter Tryz.func59,Tryz.ntmps59
 go_wp2
 refine wp_loop_rounds 3 ?_;rw[rounds_succ]
 go_wp2_with (go_at_call 28;refine H1.mono ?_;rintro r w1 ⟨rfl,hq⟩;have q1:=hq.cell c1;have q2:=hq.cell b2;have G2:=H2 w1 hq;clear H1 H2 hq)
 rw[rounds_succ]
 go_wp2_with (go_at_call 28;refine G2.mono ?_;rintro r w2 ⟨rfl,hq⟩;have HM:=Go.Lib.hid hq;clear G2 hq)
 rw[rounds_succ]
 go_wp2
 first|go_ret|go_ret2
 refine⟨?_,HM.out⟩;have z:(⟨#[]⟩:ByteArray)=⟨⟨[]⟩⟩:=rfl;simp[z,ztf]
theorem ze0 {w w1:World}{S:Hp}(h:Calm w S w1):∃ S1,Lift.Sub S1 (hp w1)/\∀ w2,Calm w1 S1 w2->Calm w S w2:=by
 obtain⟨S1,k1,k2,k3,k4⟩:=h;exact⟨S1,k3,fun w2 ⟨S2,l1,l2,l3,l4⟩=>⟨S2,k1.trans l1 (fun _ h=>.inl h),k2.trans l2,l3,fun k hk=>(l4 k hk).elim (k4 k) (fun h=>.inr (Nat.le_trans k1.size h))⟩⟩
theorem zri (N:Nat){w w1:World}{S:Hp}{t s:List UInt8}(h:Calm w S w1)(hy:z1k N t=some s) :
 Calls Tryz.prog 43 #[.string ⟨⟨t⟩⟩] w1 fun r w'=>r=.returned (.string ⟨⟨s⟩⟩)/\Calm w S w':=by
 obtain⟨S1,hS,hk⟩:=ze0 h;exact (zxv N hS hy).mono (by rintro r w' ⟨rfl,hq⟩;exact⟨rfl,hk _ hq⟩)
theorem zue (N:Nat){w w1:World}{S:Hp}{b c:Nat}{e n:Int}{a1 a2:List UInt8}(h:Calm w S w1)
 (c0:w.cell? ⟨c,0,none⟩=some (.pointer (some ⟨b,3,none⟩))) (c1:w.cell? ⟨c,1,none⟩=some (.pointer (some ⟨b,2,none⟩)))
 (b2:w.cell? ⟨b,2,none⟩=some (.int .i64 n)) (b3:w.cell? ⟨b,3,none⟩=some (.int .i64 e))
 (he:0<=e) (he':e<=1099511627776) (h1:z1z N e=some a1) (hn:0<=n) (hn':n<=1099511627776) (h2:z1z N n=some a2)
 (l1:a1.length<=9223372036854775807) (l2:a1.length+a2.length<=9223372036854775807) :
 Calls Tryz.prog 59 #[.slice (some ⟨c,0,none⟩) 2 2] w1 fun r w'=>r=.returned (.string ⟨⟨a1++a2⟩⟩)/\Calm w S w':=by
 obtain⟨S1,hS,hk⟩:=ze0 h;exact (zud N hS (h.cell c0) (h.cell c1) (h.cell b2) (h.cell b3) he he' h1 hn hn' h2 l1 l2).mono (by rintro r w' ⟨rfl,hq⟩;exact⟨rfl,hk _ hq⟩)
theorem z14m {W w2 w3:World}{S:Hp}{b E F:Nat}{k n e:Int}{t x:List UInt8}{p q:Value}(hk:0<=k)(hk':k<=255)
 (b1:W.cell? ⟨b,1,none⟩=some (.string ⟨⟨t⟩⟩)) (b2:W.cell? ⟨b,2,none⟩=some (.int .i64 n)) (b3:W.cell? ⟨b,3,none⟩=some (.int .i64 e)) (b4:W.cell? ⟨b,4,none⟩=some (.string ⟨⟨x⟩⟩))
 (h1:Calm W S w2) (h2:∀ S,Lift.Sub S (hp w2)->Calm w2 S w3) :
 ∃ S4,Calm ((w3.alloc (.cells #[p,q] E)).alloc (.cells #[.int .u8 k] F)) S4 ((w3.alloc (.cells #[p,q] E)).alloc (.cells #[.int .u8 k] F))/\(∀ w',Calm ((w3.alloc (.cells #[p,q] E)).alloc (.cells #[.int .u8 k] F)) S4 w'->Calm W S w') ∧
   ((w3.alloc (.cells #[p,q] E)).alloc (.cells #[.int .u8 k] F)).cell? ⟨b,1,none⟩=some (.string ⟨⟨t⟩⟩) ∧
   ((w3.alloc (.cells #[p,q] E)).alloc (.cells #[.int .u8 k] F)).cell? ⟨b,2,none⟩=some (.int .i64 n) ∧
   ((w3.alloc (.cells #[p,q] E)).alloc (.cells #[.int .u8 k] F)).cell? ⟨b,3,none⟩=some (.int .i64 e) ∧
   ((w3.alloc (.cells #[p,q] E)).alloc (.cells #[.int .u8 k] F)).cell? ⟨b,4,none⟩=some (.string ⟨⟨x⟩⟩) ∧
   ((w3.alloc (.cells #[p,q] E)).alloc (.cells #[.int .u8 k] F)).cell? ⟨w3.heap.size,0,none⟩=some p ∧
   ((w3.alloc (.cells #[p,q] E)).alloc (.cells #[.int .u8 k] F)).cell? ⟨w3.heap.size,1,none⟩=some q ∧
   (convert 70 9 (.slice (some ⟨w3.heap.size+1,0,none⟩) 1 1)).run Tryz.prog ((w3.alloc (.cells #[p,q] E)).alloc (.cells #[.int .u8 k] F))=.ok (.string ⟨⟨[UInt8.ofNat k.toNat]⟩⟩) ((w3.alloc (.cells #[p,q] E)).alloc (.cells #[.int .u8 k] F)):=by
 have hA:Calm W S w3:=h1.next h2;have hB:Calm W S (w3.alloc (.cells #[p,q] E)):=hA.next fun S1 h=>z69 h _ _
 have hC:Calm W S ((w3.alloc (.cells #[p,q] E)).alloc (.cells #[.int .u8 k] F)):=hB.next fun S1 h=>z69 h _ _
 have hD:=z69 (w:=w3.alloc (.cells #[p,q] E)) (S:=fun _=>none) (fun _ _ h=>by cases h) #[.int .u8 k] F;have z:(w3.alloc (.cells #[p,q] E)).heap.size=w3.heap.size+1:=Array.size_push ..;obtain⟨S4,i1,i2⟩:=ze0 hC;refine⟨S4,Calm.refl i1,i2,hC.cell b1,hC.cell b2,hC.cell b3,hC.cell b4,hD.cell (z3b rfl),hD.cell (z3b rfl),?_⟩;have:=run_convert_bytes_back (P:=Tryz.prog) ((w3.alloc (.cells #[p,q] E)).alloc (.cells #[.int .u8 k] F)) 70 9 5 ⟨w3.heap.size+1,0,none⟩ 1 [UInt8.ofNat k.toNat] Tryz.underlying70 Tryz.underlying5 Tryz.underlying9 (fun j hj=>by
  have:j=0:=by simp at hj;exact hj
  subst this;have hr:(([UInt8.ofNat k.toNat][0]).toNat:Int)=k:=by
   have hb:(UInt8.ofNat k.toNat).toNat=k.toNat % 256:=UInt8.toNat_ofNat ..;show ((UInt8.ofNat k.toNat).toNat:Int)=k;rw[hb];omega
  have:=z3b (w:=w3.alloc (.cells #[p,q] E)) (cs:=#[.int .u8 k]) (E:=F) (i:=0) rfl;rw[z] at this;rw[hr];exact this)
 exact this
attribute [local irreducible] Calm in
set_option maxHeartbeats 3200000 in
theorem z10i (N:Nat){w:World}{S:Hp}{k n e:Int}{t x s1 s2 s3 s4:List UInt8}(hS:Lift.Sub S (hp w))(hf:z8h N (k,t,n,e,x,())=some true)(hk:0<=k)(hk':k<=255)
 (h1:z1k N t=some s1) (h4:z1k N x=some s4)
 (he:0<=e) (he':e<=1099511627776) (h2:z1z N e=some s2) (hn:0<=n) (hn':n<=1099511627776) (h3:z1z N n=some s3)
 (l1:1+s1.length<=9223372036854775807) (l2:1+s1.length+(s2.length+s3.length)<=9223372036854775807) (l3:1+s1.length+(s2.length+s3.length)+s4.length<=9223372036854775807) :
 Calls Tryz.prog 42 #[.agg #[.int .i64 k,.string ⟨⟨t⟩⟩,.int .i64 n,.int .i64 e,.string ⟨⟨x⟩⟩]] w (fun r w'=>r=.returned (.tuple #[.string ⟨⟨[UInt8.ofNat k.toNat]++s1++(s2++s3)++s4⟩⟩,.int .i64 0])/\Calm w S w'):=by
 suffices HX:∀ R:Ending->World->Prop,Go.RowKit.Hid (∀ w',Calm w S w'->R (.returned (.tuple #[.string ⟨⟨[UInt8.ofNat k.toNat]++s1++(s2++s3)++s4⟩⟩,.int .i64 0])) w')->Calls Tryz.prog 42 #[.agg #[.int .i64 k,.string ⟨⟨t⟩⟩,.int .i64 n,.int .i64 e,.string ⟨⟨x⟩⟩]] w R from HX _ (Go.Lib.hid (fun w' h=>⟨rfl,h⟩))
 intro R HR;obtain⟨W,hW⟩:∃ W,W=w.alloc (.cells #[.int .i64 k,.string ⟨⟨t⟩⟩,.int .i64 n,.int .i64 e,.string ⟨⟨x⟩⟩] 93):=⟨_,rfl⟩
 have hc:=z69 hS #[.int .i64 k,.string ⟨⟨t⟩⟩,.int .i64 n,.int .i64 e,.string ⟨⟨x⟩⟩] 93;have b0:W.cell? ⟨w.heap.size,0,none⟩=some (.int .i64 k):=by rw[hW];exact z3b rfl
 have b1:W.cell? ⟨w.heap.size,1,none⟩=some (.string ⟨⟨t⟩⟩):=by rw[hW];exact z3b rfl
 have b2:W.cell? ⟨w.heap.size,2,none⟩=some (.int .i64 n):=by rw[hW];exact z3b rfl
 have b3:W.cell? ⟨w.heap.size,3,none⟩=some (.int .i64 e):=by rw[hW];exact z3b rfl
 have b4:W.cell? ⟨w.heap.size,4,none⟩=some (.string ⟨⟨x⟩⟩):=by rw[hW];exact z3b rfl
 rw[<- hW] at hc;obtain⟨S1,g3,hcc0⟩:=ze0 hc;have hcc:=Go.Lib.hid hcc0;clear hcc0 hc;have HF:=zsr N g3 hf;have HZ:=Go.Lib.hid (fun w2 w3:World=>z14m (W:=W) (w2:=w2) (w3:=w3) (S:=S1) (E:=111) (F:=5) (p:=.pointer (some ⟨w.heap.size,3,none⟩)) (q:=.pointer (some ⟨w.heap.size,2,none⟩)) hk hk' b1 b2 b3 b4);have HL:=Go.Lib.hid (And.intro h1 (And.intro h2 (And.intro h3 (And.intro h4 (And.intro l1 (And.intro l2 l3))))));have HE:=Go.Lib.hid (And.intro he (And.intro he' (And.intro hn hn')));clear h1 h2 h3 h4 l1 l2 l3 he he' hn hn' b1 b2 b3 b4;subst hW;have HNo:=fun w2:World=>znp (w:=w2) (b:=w.heap.size)
 go_enter Tryz.func42,Tryz.ntmps42
 go_wp2_with (first
  | (go_at_call 57;refine HF.mono ?_;rintro r w2 ⟨rfl,hq⟩;have hn2:=HNo w2;have k0:=hq.cell b0;have HM2:=Go.Lib.hid hq;clear HF hq HNo)
  | (go_at_call 58;refine hn2.mono ?_;rintro r w3 ⟨rfl,hq3⟩;have j0:=(hq3 _ (show Lift.Sub (fun _=>none) (hp w2) from fun _ _ h=>by cases h)).cell k0;have j1:=(z69 (w:=w3) (S:=fun _=>none) (fun _ _ h=>by cases h) #[.pointer (some ⟨w.heap.size,3,none⟩),.pointer (some ⟨w.heap.size,2,none⟩)] 111).cell j0;obtain⟨S4,y0,y1,y2,y3,y4,y5,y6,y7,y8⟩:=HZ.out w2 w3 HM2.out hq3;clear hn2 hq3 k0))
 obtain⟨W4,hW4⟩:∃ W4,W4=((w3.alloc (.cells #[.pointer (some ⟨w.heap.size,3,none⟩),.pointer (some ⟨w.heap.size,2,none⟩)] 111)).alloc (.cells #[.int .u8 k] 5)):=⟨_,rfl⟩
 rw[<- hW4] at y0 y1 y2 y3 y4 y5 y6 y7 ⊢;clear y8 hW4 j1 j0 HZ;have HT1:∀ w1,Calm W4 S4 w1->_:=fun w1 h=>zri N h HL.out.1
 have HT4:∀ w1,Calm W4 S4 w1->_:=fun w1 h=>zri N h HL.out.2.2.2.1
 have HP:∀ w1,Calm W4 S4 w1->_:=fun w1 h=>zue N h y6 y7 y3 y4 HE.out.1 HE.out.2.1 HL.out.2.1 HE.out.2.2.1 HE.out.2.2.2 HL.out.2.2.1 (by have:=HL.out;omega) (by have:=HL.out;omega)
 have z1:∀ w1,Calm W4 S4 w1->w1.cell? ⟨w.heap.size,1,none⟩=some (.string ⟨⟨t⟩⟩):=fun w1 h=>h.cell y2
 have z4:∀ w1,Calm W4 S4 w1->w1.cell? ⟨w.heap.size,4,none⟩=some (.string ⟨⟨x⟩⟩):=fun w1 h=>h.cell y5
 have Y1:=Go.Lib.hid y1;clear y1 y2 y3 y4 y5 y6 y7;have q1:¬ 9223372036854775807<1+s1.length:=by have:=HL.out;omega
 have q2:¬ 9223372036854775807<1+s1.length+(s2.length+s3.length):=by have:=HL.out.2.2.2.2.2.1;omega
 have q3:¬ 9223372036854775807<1+s1.length+(s2.length+s3.length)+s4.length:=by have:=HL.out.2.2.2.2.2.2;omega
 have q4:(9223372036854775807<1+s1.length)=False:=eq_false (by omega);have q5:(9223372036854775807<1+s1.length+(s2.length+s3.length))=False:=eq_false (by omega);have q6:(9223372036854775807<1+s1.length+(s2.length+s3.length)+s4.length)=False:=eq_false (by omega)
 go_region_held3 (fun w'=>Calm W4 S4 w'/\w'.cell? ⟨w.heap.size,1,none⟩=some (.string ⟨⟨t⟩⟩)/\w'.cell? ⟨w.heap.size,4,none⟩=some (.string ⟨⟨x⟩⟩))
  (first|exact⟨y0,z1 _ y0,z4 _ y0⟩|exact⟨y0.drew,z1 _ y0.drew,z4 _ y0.drew⟩|(rename_i hs;exact⟨hs.1.drew,z1 _ hs.1.drew,z4 _ hs.1.drew⟩)|(exact⟨by assumption,z1 _ (by assumption),z4 _ (by assumption)⟩))
  (first
   | (go_at_call_of 43 (Value.string ⟨⟨t⟩⟩);refine (HT1 _ (by first|exact y0.drew|assumption)).mono ?_;rintro r w' ⟨rfl,hq⟩)
   | (go_at_call_of 43 (Value.string ⟨⟨x⟩⟩);refine (HT4 _ (by first|exact y0.drew|assumption)).mono ?_;rintro r w' ⟨rfl,hq⟩)
   | (go_at_call 59;refine (HP _ (by first|exact y0.drew|assumption)).mono ?_;rintro r w' ⟨rfl,hq⟩))
 all_goals go_wp2
 all_goals (simp only[ztf];exact HR.out _ (hcc.out _ (Y1.out _ (by assumption))))
theorem z14n (N:Nat){w:World}{S:Hp}{k n e:Int}{t x:List UInt8}(hS:Lift.Sub S (hp w))(hf:z8h N (k,t,n,e,x,())=some false) :
 Calls Tryz.prog 42 #[.agg #[.int .i64 k,.string ⟨⟨t⟩⟩,.int .i64 n,.int .i64 e,.string ⟨⟨x⟩⟩]] w (fun r w'=>r=.returned (.tuple #[.string ⟨⟨[]⟩⟩,.int .i64 2])/\Calm w S w'):=by
 suffices HX:∀ R:Ending->World->Prop,Go.RowKit.Hid (∀ w',Calm w S w'->R (.returned (.tuple #[.string ⟨⟨[]⟩⟩,.int .i64 2])) w')->Calls Tryz.prog 42 #[.agg #[.int .i64 k,.string ⟨⟨t⟩⟩,.int .i64 n,.int .i64 e,.string ⟨⟨x⟩⟩]] w R from HX _ (Go.Lib.hid (fun w' h=>⟨rfl,h⟩))
 intro R HR;obtain⟨W,hW⟩:∃ W,W=w.alloc (.cells #[.int .i64 k,.string ⟨⟨t⟩⟩,.int .i64 n,.int .i64 e,.string ⟨⟨x⟩⟩] 93):=⟨_,rfl⟩
 have hc:=z69 hS #[.int .i64 k,.string ⟨⟨t⟩⟩,.int .i64 n,.int .i64 e,.string ⟨⟨x⟩⟩] 93;have b0:W.cell? ⟨w.heap.size,0,none⟩=some (.int .i64 k):=by rw[hW];exact z3b rfl
 have b1:W.cell? ⟨w.heap.size,1,none⟩=some (.string ⟨⟨t⟩⟩):=by rw[hW];exact z3b rfl
 have b2:W.cell? ⟨w.heap.size,2,none⟩=some (.int .i64 n):=by rw[hW];exact z3b rfl
 have b3:W.cell? ⟨w.heap.size,3,none⟩=some (.int .i64 e):=by rw[hW];exact z3b rfl
 have b4:W.cell? ⟨w.heap.size,4,none⟩=some (.string ⟨⟨x⟩⟩):=by rw[hW];exact z3b rfl
 rw[<- hW] at hc;obtain⟨S1,g3,hcc0⟩:=ze0 hc;have hcc:=Go.Lib.hid hcc0;clear hcc0 hc;have HF:=zsr N g3 hf;subst hW
 go_enter Tryz.func42,Tryz.ntmps42
 go_wp2_with (go_at_call 57;refine HF.mono ?_;rintro r w2 ⟨rfl,hq⟩;have HM2:=Go.Lib.hid hq;clear HF hq)
 exact HR.out _ (hcc.out _ HM2.out)
abbrev EvT:T:=.pair (.int .i64) (.pair .str (.pair (.int .i64) (.pair (.int .i64) (.pair .str .unit))))
theorem z1n5 {S:Hp}{t x:List UInt8}{k e n:Int}{v:Value}(h:VR S EvT (k,t,n,e,x,()) v):v=.agg #[.int .i64 k,.string ⟨⟨t⟩⟩,.int .i64 n,.int .i64 e,.string ⟨⟨x⟩⟩]:=by
 have h':∃ cs,v=.agg cs/\Rd S EvT (k,t,n,e,x,()) cs.toList:=h;obtain⟨cs,rfl,c1,c2,hc,k1,c3,c4,hc',k2,c5,c6,hc'',k3,c7,c8,hc3,k4,c9,c10,hc4,k5,k6⟩:=h';have e1:c1=[.int .i64 k]:=k1;have e2:c3=[.string ⟨⟨t⟩⟩]:=k2;have e3:c5=[.int .i64 n]:=k3;have e4:c7=[.int .i64 e]:=k4;have e5:c9=[.string ⟨⟨x⟩⟩]:=k5;have e6:c10=[]:=k6;congr 1;apply Array.toList_inj.1;rw[hc,hc',hc'',hc3,hc4,e1,e2,e3,e4,e5,e6];rfl
def zeg (N:Nat)(v:EvT.den):Option (List UInt8×Int×Unit):=(z8h N v).bind fun ok=>cond (!ok) (some ([],(2,()))) ((z1k N v.2.1).bind fun s1=>(z1z N v.2.2.2.1).bind fun s2=>(z1z N v.2.2.1).bind fun s3=>(z1k N v.2.2.2.2.1).bind fun s4=>cond (decide ((0<=v.1/\v.1<=255)/\(0<=v.2.2.2.1/\v.2.2.2.1<=1099511627776)/\(0<=v.2.2.1/\v.2.2.1<=1099511627776) ∧ 1+s1.length+(s2.length+s3.length)+s4.length<=9223372036854775807)) (some ([UInt8.ofNat v.1.toNat]++s1++(s2++s3)++s4,(0,()))) none)
theorem z10j (N:Nat){w:World}{S:Hp}{t x y:List UInt8}{k e n f:Int}(hS:Lift.Sub S (hp w))(hy:zeg N (k,t,n,e,x,())=some (y,(f,()))) :
 Calls Tryz.prog 42 #[.agg #[.int .i64 k,.string ⟨⟨t⟩⟩,.int .i64 n,.int .i64 e,.string ⟨⟨x⟩⟩]] w fun r w'=>r=.returned (.tuple #[.string ⟨⟨y⟩⟩,.int .i64 f])/\Calm w S w':=by
 unfold zeg at hy;dsimp only at hy;cases hw:z8h N (k,t,n,e,x,()) with
 | none=>rw[hw] at hy;cases hy
 | some ok =>
 rw[hw,Option.bind_some] at hy;cases ok with
 | false =>
   cases hy;exact z14n N hS hw
 | true =>
   rw[Bool.not_true,cond_false] at hy;cases h1:z1k N t with
   | none=>rw[h1] at hy;cases hy
   | some s1 =>
   rw[h1,Option.bind_some] at hy;cases h2:z1z N e with
   | none=>rw[h2] at hy;cases hy
   | some s2 =>
   rw[h2,Option.bind_some] at hy;cases h3:z1z N n with
   | none=>rw[h3] at hy;cases hy
   | some s3 =>
   rw[h3,Option.bind_some] at hy;cases h4:z1k N x with
   | none=>rw[h4] at hy;cases hy
   | some s4 =>
   rw[h4,Option.bind_some] at hy;by_cases hl:(0<=k/\k<=255)/\(0<=e/\e<=1099511627776)/\(0<=n/\n<=1099511627776)/\1+s1.length+(s2.length+s3.length)+s4.length<=9223372036854775807
   . rw[decide_eq_true hl] at hy;cases hy;obtain⟨⟨a1,a2⟩,⟨a3,a4⟩,⟨a5,a6⟩,a7⟩:=hl;exact z10i N hS hw a1 a2 h1 h4 a3 a4 h2 a5 a6 h3 (by omega) (by omega) a7
   . rw[decide_eq_false hl] at hy;cases hy
def zfa (N:Nat):List A->Res:=z11 [(0,.v TT7)] (fun x=>zeg N x.1) (z2i (.tup [.str,(.int .i64)]) 1)
theorem zpv (N:Nat):Contract Tryz.prog z17 42 (zfa N):=by
 refine Contract.hand ⟨_,Tryz.func42,by kernel_rfl,by decide⟩ ?_;intro w S vals ob x y har hS hg hy;obtain⟨⟨k,t,n,e,x,u⟩,u'⟩:=x;cases u;cases u';obtain⟨s,f,u⟩:=y;cases u;obtain⟨⟨v0,hv0,hA0,ho0⟩,_⟩:=har.rel 0 _ rfl;have hvals:vals=[v0]:=by
  match vals,har.len with
  | [a],_=>cases hv0;rfl
 have e0:=z1n5 hA0;subst e0;subst hvals;refine (z10j N hS hy).mono ?_;rintro r w' ⟨rfl,hC⟩;exact zsz (fun y hy=>by rw[List.mem_singleton.1 hy];rfl) (fun i=>by
  match i with
  | 0=>exact ho0
  | i+1=>exact har.out _ (by simp[mkS,z2p])) hC (fun S'=>⟨rfl,_,rfl,.cons VR.str (.cons VR.int .nil)⟩) rfl
def zvu:Code:=(Tryz.f25.body).getD .skip
def L_19:List (List Nat×List Nat):=[([0],[0]),([0,0,1],[11,0]),([1,0,1],[0]),([0,0,1,0,1],[2,3]),([1,0,1,0,1],[2,3]),([0,1,1],[0,4]),([0,1,1,1],[0,4]),([0,0,1,1,1,1],[19,18,17,4]),(PQ8,[19,18,17,4]),([0,0,0,1,0,1,1,1,1],[20,17,19,4,18]),(PQ73,[17,19,4,18]),(PQ67,[4]),(PQ57,[6,4,19,18,17]),(z1nk,[8,7,4,19,18,17]),([0,0,1,1,0,0,1,1,0,0,1,0,1,1,1,1],[29,8,7,4,19,18,17]),([1,0,1,1,0,0,1,1,0,0,1,0,1,1,1,1],[7,4,19,18,17]),([0,0,1,0,1,1,0,0,1,1,0,0,1,0,1,1,1,1],[2,3]),([1,0,1,0,1,1,0,0,1,1,0,0,1,0,1,1,1,1],[2,3]),([1,1,1,0,0,1,1,0,0,1,0,1,1,1,1],[19,18,17,4]),(PQ68,[19,18,17,4]),(PQ69,[19,18,17,4]),([1,0,1,1,1,1],[4]),([0,1,1,1,1,1],[2,3]),([1,1,1,1,1,1],[2,3])]
def E_19 (N:Nat):Env:=z14 tys z17 [(42,zfa N),(29,z1d N),(43,z9p N),(28,zbs N),(30,zla)] [] [] [] false [(4,zen)] []
theorem z1ps (N:Nat):EnvOk Tryz.prog (E_19 N):=ze mixed zq (FnsOk.cons (zpv N) (FnsOk.cons (z1g N) (FnsOk.cons (z7n N) (FnsOk.cons (z95 N) (FnsOk.cons (zrl z17) (FnsOk.nil)))))) (ItsOk.nil)
def zda (N:Nat)(x17:(List z6c))(x18:Int)(out:z7w)(x19:Int)(rec:z7w->Int->Option ((List UInt8)×Int×Unit))(k0:(List UInt8)->Int->Option ((List UInt8)×Int×Unit))(k1:z7w->Option ((List UInt8)×Int×Unit)):Option ((List UInt8)×Int×Unit):=cond (decide (x19<x18)) (cond (inR x19 (List.length x17)) ((zeg N (List.getD x17 (Int.toNat x19) (0,([],(0,(0,([],()))))))).bind fun y=>cond (y.2.1 != 0) (k0 [] y.2.1) ((z1k N y.1).bind fun y1=>(zh N out y1).bind fun y2=>rec y2.2.1 (IntKind.wrap IntKind.i64 (x19+1)))) none) (k1 out)
def zlw (N:Nat)(out:z7w)(x17:(List z6c))(x18:Int)(x19:Int)(k0:(List UInt8)->Int->Option ((List UInt8)×Int×Unit))(k1:z7w->Option ((List UInt8)×Int×Unit)):Option ((List UInt8)×Int×Unit):=iter (fun (v:(z7w×Int)) r=>zda N x17 x18 v.1 v.2 (fun out x19=>(r (out,x19))) k0 k1) N (out,x19)
def z1mx (N:Nat)(i:((List z6c)×Int))(v:(z7w×Int))(r:(z7w×Int)->Option ((List UInt8)×Int×Unit))(K:Ex->List A->Option ((List UInt8)×Int×Unit)):Option ((List UInt8)×Int×Unit):=zda N i.1 i.2 v.1 v.2 (fun out x19=>(r (out,x19))) (fun a0 a1=>(K .ret (mkS [(2,.v .str),(0,.v (.int .i64))] 32 (a0,a1,())))) (fun a0=>(K (.exit 0) (mkS [(4,.box zen)] 31 (a0,()))))
def z1l4 (N:Nat):Hd ((List UInt8)×Int×Unit):=fun st K=>(unS [(4,.box zen),(12,.v (.sl TT7)),(0,.v (.int .i64)),(0,.v (.int .i64))] 16 (restr [19,18,17,4] 0 st)).bind fun x=>iter (fun v r=>z1mx N ((fun x=>(x.2.1,x.2.2.1)) x) v r K) N ((fun x=>(x.1,x.2.2.2.1)) x)
def t1_19 (N:Nat):Tab ((List UInt8)×Int×Unit):=[]
theorem z1ix {N:Nat}{c:Ctx}(hb:Base Tryz.prog (E_19 N) c):zw Tryz.prog c (zk zvu PQ8) (z1l4 N) :=
 z1v (s:=[(4,.box zen),(12,.v (.sl TT7)),(0,.v (.int .i64)),(0,.v (.int .i64))]) (m:=16) (z1mx N) [19,18,17,4] N (fun x=>(x.2.1,x.2.2.1)) (fun x=>(x.1,x.2.2.2.1)) (fun i v=>(v.1,i.1,i.2,v.2,())) (fun _=>rfl) (zf hb N (t1_19 N) L_19 zvu TabOk.nil z1eb _ rfl) (fun i v r K=>by kernel_rfl)
def zdb (N:Nat)(l:(List z6c)):Option ((List UInt8)×Int×Unit):=cond (decide (256<(List.length l:Int))) (some ([],(3,()))) ((z1z N (IntKind.wrap IntKind.u64 (List.length l:Int))).bind fun y=>(zh N ((),([],())) y).bind fun y1=>zlw N y1.2.1 l (List.length l:Int) 0 (fun x2 x3=>some (x2,(x3,()))) (fun out=>(zii (out,())).bind fun y2=>some (y2.1,(0,()))))
def t_19 (N:Nat):Tab ((List UInt8)×Int×Unit):=[(PQ8,z1l4 N)]
theorem z1c9 (N:Nat)(x:z1b [(0,.v (.sl TT7))]):z2b (E_19 N) N (t_19 N) L_19 Tryz.f25 (mkS [(0,.v (.sl TT7))] 0 x) (z1c (.tup [.str,(.int .i64)]) 1)=zdb N x.1:=by kernel_rfl
def zce (N:Nat):List A->Res:=z11 [(0,.v (.sl TT7))] (fun x=>zdb N x.1) (z2i (.tup [.str,(.int .i64)]) 1)
theorem zlx (N:Nat):Contract Tryz.prog z17 25 (zce N) :=
 Contract.of (E:=E_19 N) (H:=t_19 N) (L:=L_19) (N:=N) (body:=zvu) (K:=(z1c (.tup [.str,(.int .i64)]) 1)) (z1ps N) Tryz.func25 (by kernel_rfl) (by decide) (fun _ hb=>(TabOk.cons (z1ix hb) TabOk.nil)) (fun x y h=>by rw[z1c9];exact h) (zm (s:=(.tup [.str,(.int .i64)])) (m:=1))
def zna:Code:=(Tryz.f26.body).getD .skip
def L_20:List (List Nat×List Nat):=[([0],[0]),([0,0,1],[9,0]),([1,0,1],[0]),([0,0,1,0,1],[2]),([1,0,1,0,1],[2]),([0,1,1],[3]),([0,1,1,1],[2]),([1,1,1,1],[2])]
def z1qc (N:Nat):Env:=z14 tys z17 [] [] [] [] false [] []
theorem z1pr (N:Nat):EnvOk Tryz.prog (z1qc N):=ze mixed zq (FnsOk.nil) (ItsOk.nil)
def zdt (N:Nat)(n:Int)(k0:Bool->Option Int):Option Int:=cond (decide (n<0)) (k0 true) (k0 (decide (65536<n)))
def z1ly (N:Nat)(x:z1b [(0,.v (.int .i64))])(K:Ex->List A->Option Int):Option Int:=zdt N x.1 (fun a1=>(K .normal (mkS [(0,.v (.int .i64)),(8,.v .bool)] 8 (x.1,a1,()))))
def z1k5 (N:Nat):Hd Int:=fun st K=>(unS [(0,.v (.int .i64))] 17 (restr [0] 0 st)).bind fun x=>z1ly N x K
def t2_20 (N:Nat):Tab Int:=[]
theorem z1hy {N:Nat}{c:Ctx}(hb:Base Tryz.prog (z1qc N) c):zw Tryz.prog c (zk zna [0,0,1]) (z1k5 N) :=
 z13 (s:=[(0,.v (.int .i64))]) (m:=17) (g:=z1ly N) [0] (zf hb N (t2_20 N) L_20 zna TabOk.nil [0,0,1] _ rfl) (fun x K=>by kernel_rfl)
def zdu (N:Nat)(n:Int)(k0:Int->Option Int)(k1:Option Int):Option Int:=zdt N n (fun x9=>cond x9 (k0 0) k1)
def z1mw (N:Nat)(x:z1b [(0,.v (.int .i64))])(K:Ex->List A->Option Int):Option Int:=zdu N x.1 (fun a0=>(K .ret (mkS [(2,.v (.int .i64))] 15 (a0,())))) (K .normal (mkS [(0,.v (.int .i64))] 17 (x.1,())))
def z1l3 (N:Nat):Hd Int:=fun st K=>(unS [(0,.v (.int .i64))] 17 (restr [0] 0 st)).bind fun x=>z1mw N x K
def t1_20 (N:Nat):Tab Int:=[([0,0,1],z1k5 N)]
theorem z1iw {N:Nat}{c:Ctx}(hb:Base Tryz.prog (z1qc N) c):zw Tryz.prog c (zk zna [0,1]) (z1l3 N) :=
 z13 (s:=[(0,.v (.int .i64))]) (m:=17) (g:=z1mw N) [0] (zf hb N (t1_20 N) L_20 zna (TabOk.cons (z1hy hb) TabOk.nil) [0,1] _ rfl) (fun x K=>by kernel_rfl)
def zdv (N:Nat)(n:Int):Option Int:=zdu N n (fun x2=>some x2) (some (IntKind.wrap IntKind.i64 (1+(IntKind.wrap IntKind.i64 (Int.tdiv (IntKind.wrap IntKind.i64 ((IntKind.wrap IntKind.i64 ((if (0 > (IntKind.wrap IntKind.i64 (n - 102))) then 0 else (IntKind.wrap IntKind.i64 (n - 102)))+110)) - 1)) 110)))))
def t_20 (N:Nat):Tab Int:=[([0,1],z1l3 N)]
theorem z1c8 (N:Nat)(x:z1b [(0,.v (.int .i64))]):z2b (z1qc N) N (t_20 N) L_20 Tryz.f26 (mkS [(0,.v (.int .i64))] 0 x) (z1c (.v (.int .i64)) 1)=zdv N x.1:=by kernel_rfl
def zcl (N:Nat):List A->Res:=z11 [(0,.v (.int .i64))] (fun x=>zdv N x.1) (z2i (.v (.int .i64)) 1)
theorem zmp (N:Nat):Contract Tryz.prog z17 26 (zcl N) :=
 Contract.of (E:=z1qc N) (H:=t_20 N) (L:=L_20) (N:=N) (body:=zna) (K:=(z1c (.v (.int .i64)) 1)) (z1pr N) Tryz.func26 (by kernel_rfl) (by decide) (fun _ hb=>(TabOk.cons (z1iw hb) TabOk.nil)) (fun x y h=>by rw[z1c8];exact h) (zm (s:=(.v (.int .i64))) (m:=1))
def z1e1:Code:=(Tryz.f13.body).getD .skip
def L_21:List (List Nat×List Nat):=[([0],[1]),([0,1],[3]),([0,0,1,1],[10,3]),([1,0,1,1],[3]),([0,0,1,0,1,1],[2]),([1,0,1,0,1,1],[2]),([0,1,1,1],[5,4]),([0,0,1,1,1,1],[17,4]),([1,0,1,1,1,1],[4]),(z1eb,[2]),([1,0,1,0,1,1,1,1],[2]),([0,1,1,1,1,1],[2]),([1,1,1,1,1,1],[2])]
def E_21 (N:Nat):Env:=z14 tys z17 [(26,zcl N),(25,zce N),(24,zfc N)] [] [] [] false [] []
theorem z1pq (N:Nat):EnvOk Tryz.prog (E_21 N):=ze mixed zq (FnsOk.cons (zmp N) (FnsOk.cons (zlx N) (FnsOk.cons (zpz N) (FnsOk.nil)))) (ItsOk.nil)
def zgm (N:Nat)(s:((List DT8)×(Int×Unit))):Option Int:=(zir N s).bind fun y=>cond ((List.length y:Int) == 0) (some 0) ((zdb N y).bind fun y1=>cond (y1.2.1 != 0) (some 0) ((zdv N (List.length y1.1:Int)).bind fun y2=>some y2))
def t_21 (N:Nat):Tab Int:=[]
theorem z1c7 (N:Nat)(x:z1b [(0,.v zkq)]):z2b (E_21 N) N (t_21 N) L_21 Tryz.f13 (mkS [(0,.v zkq)] 0 x) (z1c (.v (.int .i64)) 1)=zgm N x.1:=by kernel_rfl
def ze3 (N:Nat):List A->Res:=z11 [(0,.v zkq)] (fun x=>zgm N x.1) (z2i (.v (.int .i64)) 1)
theorem zo6 (N:Nat):Contract Tryz.prog z17 13 (ze3 N) :=
 Contract.of (E:=E_21 N) (H:=t_21 N) (L:=L_21) (N:=N) (body:=z1e1) (K:=(z1c (.v (.int .i64)) 1)) (z1pq N) Tryz.func13 (by kernel_rfl) (by decide) (fun _ hb=>TabOk.nil) (fun x y h=>by rw[z1c7];exact h) (zm (s:=(.v (.int .i64))) (m:=1))
def zn9:Code:=(Tryz.f37.body).getD .skip
def L_22:List (List Nat×List Nat):=[([0],[0,1]),([0,0,1],[18,0,1]),([1,0,1],[0,1]),([0,0,1,0,1],[4]),([1,0,1,0,1],[4]),([0,1,1],[4]),([1,1,1],[4])]
def z1qb (N:Nat):Env:=z14 tys z17 [] [] [] [] false [] []
theorem z1pp (N:Nat):EnvOk Tryz.prog (z1qb N):=ze mixed zq (FnsOk.nil) (ItsOk.nil)
def zcc (N:Nat)(a:Int)(b:Int)(k0:Bool->Option Bool):Option Bool:=cond (a == (-9223372036854775808)) (cond (b == (-1)) (k0 true) (cond (b == (-9223372036854775808)) (k0 (a == (-1))) (k0 false))) (cond (b == (-9223372036854775808)) (k0 (a == (-1))) (k0 false))
def z1lx (N:Nat)(x:z1b SQ0)(K:Ex->List A->Option Bool):Option Bool:=zcc N x.1 x.2.1 (fun a2=>(K .normal (mkS [(0,.v (.int .i64)),(0,.v (.int .i64)),(16,.v .bool)] 7 (x.1,x.2.1,a2,()))))
def z1k4 (N:Nat):Hd Bool:=fun st K=>(unS SQ0 24 (restr [0,1] 0 st)).bind fun x=>z1lx N x K
def t2_22 (N:Nat):Tab Bool:=[]
theorem z1hx {N:Nat}{c:Ctx}(hb:Base Tryz.prog (z1qb N) c):zw Tryz.prog c (zk zn9 [0,0,1]) (z1k4 N) :=
 z13 (s:=SQ0) (m:=24) (g:=z1lx N) [0,1] (zf hb N (t2_22 N) L_22 zn9 TabOk.nil [0,0,1] _ rfl) (fun x K=>by kernel_rfl)
def zcd (N:Nat)(a:Int)(b:Int)(k0:Bool->Option Bool)(k1:Option Bool):Option Bool:=zcc N a b (fun x18=>cond x18 (k0 true) k1)
def z1mv (N:Nat)(x:z1b SQ0)(K:Ex->List A->Option Bool):Option Bool:=zcd N x.1 x.2.1 (fun a0=>(K .ret (mkS [(4,.v .bool)] 21 (a0,())))) (K .normal (mkS SQ0 24 (x.1,x.2.1,())))
def z1l2 (N:Nat):Hd Bool:=fun st K=>(unS SQ0 24 (restr [0,1] 0 st)).bind fun x=>z1mv N x K
def t1_22 (N:Nat):Tab Bool:=[([0,0,1],z1k4 N)]
theorem z1iv {N:Nat}{c:Ctx}(hb:Base Tryz.prog (z1qb N) c):zw Tryz.prog c (zk zn9 [0,1]) (z1l2 N) :=
 z13 (s:=SQ0) (m:=24) (g:=z1mv N) [0,1] (zf hb N (t1_22 N) L_22 zn9 (TabOk.cons (z1hx hb) TabOk.nil) [0,1] _ rfl) (fun x K=>by kernel_rfl)
def zb1 (N:Nat)(a:Int)(b:Int):Option Bool:=zcd N a b (fun x4=>some x4) (cond (b == 0) none (some ((IntKind.wrap IntKind.i64 (Int.tdiv (IntKind.wrap IntKind.i64 (a*b)) b)) != a)))
def t_22 (N:Nat):Tab Bool:=[([0,1],z1l2 N)]
theorem z1c6 (N:Nat)(x:z1b SQ0):z2b (z1qb N) N (t_22 N) L_22 Tryz.f37 (mkS SQ0 0 x) (z1c (.v .bool) 2)=zb1 N x.1 x.2.1:=by kernel_rfl
def za4 (N:Nat):List A->Res:=z11 SQ0 (fun x=>zb1 N x.1 x.2.1) (z2i (.v .bool) 2)
theorem zkj (N:Nat):Contract Tryz.prog z17 37 (za4 N) :=
 Contract.of (E:=z1qb N) (H:=t_22 N) (L:=L_22) (N:=N) (body:=zn9) (K:=(z1c (.v .bool) 2)) (z1pp N) Tryz.func37 (by kernel_rfl) (by decide) (fun _ hb=>(TabOk.cons (z1iv hb) TabOk.nil)) (fun x y h=>by rw[z1c6];exact h) (zm (s:=(.v .bool)) (m:=2))
def z1e0:Code:=(Tryz.f38.body).getD .skip
def L_23:List (List Nat×List Nat):=[([0],[0]),([0,0,1],[3]),([1,0,1],[]),([0,0,1,0,1],[2]),([1,0,1,0,1],[2]),([0,1,1],[2]),([1,1,1],[2])]
def E_23 (N:Nat):Env:=z14 tys z17 [] [] [] [] false [] []
theorem z1po (N:Nat):EnvOk Tryz.prog (E_23 N):=ze mixed zq (FnsOk.nil) (ItsOk.nil)
def zu6 (N:Nat)(negative:Bool):Option Int:=cond negative (some (-9223372036854775808)) (some 9223372036854775807)
def t_23 (N:Nat):Tab Int:=[]
theorem z1c5 (N:Nat)(x:z1b [(0,.v .bool)]):z2b (E_23 N) N (t_23 N) L_23 Tryz.f38 (mkS [(0,.v .bool)] 0 x) (z1c (.v (.int .i64)) 1)=zu6 N x.1:=by kernel_rfl
def zlo (N:Nat):List A->Res:=z11 [(0,.v .bool)] (fun x=>zu6 N x.1) (z2i (.v (.int .i64)) 1)
theorem zy3 (N:Nat):Contract Tryz.prog z17 38 (zlo N) :=
 Contract.of (E:=E_23 N) (H:=t_23 N) (L:=L_23) (N:=N) (body:=z1e0) (K:=(z1c (.v (.int .i64)) 1)) (z1po N) Tryz.func38 (by kernel_rfl) (by decide) (fun _ hb=>TabOk.nil) (fun x y h=>by rw[z1c5];exact h) (zm (s:=(.v (.int .i64))) (m:=1))
def zn8:Code:=(Tryz.f22.body).getD .skip
def L_24:List (List Nat×List Nat):=[([0],[0,1]),([0,0,1],[10,0,1]),([1,0,1],[0,1]),([0,0,1,0,1],[4]),([1,0,1,0,1],[4]),([0,0,1,1],[13,0,1]),([1,0,1,1],[0,1]),([0,0,1,0,1,1],[4]),([1,0,1,0,1,1],[4]),([0,1,1,1],[4]),([1,1,1,1],[4])]
def z1qa (N:Nat):Env:=z14 tys z17 [(38,zlo N),(37,za4 N)] [] [] [] false [] []
theorem z1pn (N:Nat):EnvOk Tryz.prog (z1qa N):=ze mixed zq (FnsOk.cons (zy3 N) (FnsOk.cons (zkj N) (FnsOk.nil))) (ItsOk.nil)
def zof (N:Nat)(a:Int)(b:Int)(k0:Bool->Option Int):Option Int:=cond (a == 0) (k0 true) (k0 (b == 0))
def z1lw (N:Nat)(x:z1b SQ0)(K:Ex->List A->Option Int):Option Int:=zof N x.1 x.2.1 (fun a2=>(K .normal (mkS [(0,.v (.int .i64)),(0,.v (.int .i64)),(8,.v .bool)] 12 (x.1,x.2.1,a2,()))))
def z1k3 (N:Nat):Hd Int:=fun st K=>(unS SQ0 21 (restr [0,1] 0 st)).bind fun x=>z1lw N x K
def t2_24 (N:Nat):Tab Int:=[]
theorem z1hw {N:Nat}{c:Ctx}(hb:Base Tryz.prog (z1qa N) c):zw Tryz.prog c (zk zn8 [0,0,1]) (z1k3 N) :=
 z13 (s:=SQ0) (m:=21) (g:=z1lw N) [0,1] (zf hb N (t2_24 N) L_24 zn8 TabOk.nil [0,0,1] _ rfl) (fun x K=>by kernel_rfl)
def zog (N:Nat)(a:Int)(b:Int)(k0:Int->Option Int)(k1:Option Int):Option Int:=zof N a b (fun x10=>cond x10 (k0 0) k1)
def z1mu (N:Nat)(x:z1b SQ0)(K:Ex->List A->Option Int):Option Int:=zog N x.1 x.2.1 (fun a0=>(K .ret (mkS [(4,.v (.int .i64))] 18 (a0,())))) (K .normal (mkS SQ0 21 (x.1,x.2.1,())))
def z1l1 (N:Nat):Hd Int:=fun st K=>(unS SQ0 21 (restr [0,1] 0 st)).bind fun x=>z1mu N x K
def t1_24 (N:Nat):Tab Int:=[([0,0,1],z1k3 N)]
theorem z1iu {N:Nat}{c:Ctx}(hb:Base Tryz.prog (z1qa N) c):zw Tryz.prog c (zk zn8 [0,1]) (z1l1 N) :=
 z13 (s:=SQ0) (m:=21) (g:=z1mu N) [0,1] (zf hb N (t1_24 N) L_24 zn8 (TabOk.cons (z1hw hb) TabOk.nil) [0,1] _ rfl) (fun x K=>by kernel_rfl)
def zpn (N:Nat)(a:Int)(b:Int):Option Int:=zog N a b (fun x4=>some x4) ((zb1 N a b).bind fun y=>cond y ((zu6 N (!((decide (a<0)) == (decide (b<0))))).bind fun y1=>some y1) (some (IntKind.wrap IntKind.i64 (a*b))))
def t_24 (N:Nat):Tab Int:=[([0,1],z1l1 N)]
theorem z1c4 (N:Nat)(x:z1b SQ0):z2b (z1qa N) N (t_24 N) L_24 Tryz.f22 (mkS SQ0 0 x) (z1c (.v (.int .i64)) 2)=zpn N x.1 x.2.1:=by kernel_rfl
def zg3 (N:Nat):List A->Res:=z11 SQ0 (fun x=>zpn N x.1 x.2.1) (z2i (.v (.int .i64)) 2)
theorem zoh (N:Nat):Contract Tryz.prog z17 22 (zg3 N) :=
 Contract.of (E:=z1qa N) (H:=t_24 N) (L:=L_24) (N:=N) (body:=zn8) (K:=(z1c (.v (.int .i64)) 2)) (z1pn N) Tryz.func22 (by kernel_rfl) (by decide) (fun _ hb=>(TabOk.cons (z1iu hb) TabOk.nil)) (fun x y h=>by rw[z1c4];exact h) (zm (s:=(.v (.int .i64))) (m:=2))
def zbx:Code:=(Tryz.f23.body).getD .skip
def z1fj:List (List Nat×List Nat):=[([0],[1,0]),([0,0,1],[12,1,0]),([1,0,1],[1,0]),([0,0,1,0,1],[4]),([1,0,1,0,1],[4]),([0,0,1,1],[20,0,1]),([1,0,1,1],[0,1]),([0,0,1,0,1,1],[4]),([1,0,1,0,1,1],[4]),([0,1,1,1],[4]),([1,1,1,1],[4])]
def z1eu (N:Nat):Env:=z14 tys z17 [] [] [] [] false [] []
theorem z1pm (N:Nat):EnvOk Tryz.prog (z1eu N):=ze mixed zq (FnsOk.nil) (ItsOk.nil)
def zol (N:Nat)(a:Int)(b:Int)(k0:Bool->Option Int):Option Int:=cond (decide (0<b)) (k0 (decide ((IntKind.wrap IntKind.i64 (9223372036854775807 - b))<a))) (k0 false)
def z1lv (N:Nat)(x:z1b SQ0)(K:Ex->List A->Option Int):Option Int:=zol N x.1 x.2.1 (fun a2=>(K .normal (mkS [(0,.v (.int .i64)),(0,.v (.int .i64)),(10,.v .bool)] 11 (x.1,x.2.1,a2,()))))
def z1k2 (N:Nat):Hd Int:=fun st K=>(unS SQ0 22 (restr [1,0] 0 st)).bind fun x=>z1lv N x K
def t2_25 (N:Nat):Tab Int:=[]
theorem z1hv {N:Nat}{c:Ctx}(hb:Base Tryz.prog (z1eu N) c):zw Tryz.prog c (zk zbx [0,0,1]) (z1k2 N) :=
 z13 (s:=SQ0) (m:=22) (g:=z1lv N) [1,0] (zf hb N (t2_25 N) z1fj zbx TabOk.nil [0,0,1] _ rfl) (fun x K=>by kernel_rfl)
def zom (N:Nat)(a:Int)(b:Int)(k0:Int->Option Int)(k1:Option Int):Option Int:=zol N a b (fun x12=>cond x12 (k0 9223372036854775807) k1)
def z1mt (N:Nat)(x:z1b SQ0)(K:Ex->List A->Option Int):Option Int:=zom N x.1 x.2.1 (fun a0=>(K .ret (mkS [(4,.v (.int .i64))] 19 (a0,())))) (K .normal (mkS SQ0 22 (x.1,x.2.1,())))
def z1l0 (N:Nat):Hd Int:=fun st K=>(unS SQ0 22 (restr [1,0] 0 st)).bind fun x=>z1mt N x K
def t1_25 (N:Nat):Tab Int:=[([0,0,1],z1k2 N)]
theorem z1it {N:Nat}{c:Ctx}(hb:Base Tryz.prog (z1eu N) c):zw Tryz.prog c (zk zbx [0,1]) (z1l0 N) :=
 z13 (s:=SQ0) (m:=22) (g:=z1mt N) [1,0] (zf hb N (t1_25 N) z1fj zbx (TabOk.cons (z1hv hb) TabOk.nil) [0,1] _ rfl) (fun x K=>by kernel_rfl)
def zoi (N:Nat)(a:Int)(b:Int)(k0:Bool->Option Int):Option Int:=cond (decide (b<0)) (k0 (decide (a<(IntKind.wrap IntKind.i64 ((-9223372036854775808) - b))))) (k0 false)
def z1le (N:Nat)(x:z1b SQ0)(K:Ex->List A->Option Int):Option Int:=zoi N x.1 x.2.1 (fun a2=>(K .normal (mkS [(0,.v (.int .i64)),(0,.v (.int .i64)),(18,.v .bool)] 3 (x.1,x.2.1,a2,()))))
def z1jl (N:Nat):Hd Int:=fun st K=>(unS SQ0 22 (restr [1,0] 0 st)).bind fun x=>z1le N x K
def t4_25 (N:Nat):Tab Int:=[]
theorem z1he {N:Nat}{c:Ctx}(hb:Base Tryz.prog (z1eu N) c):zw Tryz.prog c (zk zbx [0,0,1,1]) (z1jl N) :=
 z13 (s:=SQ0) (m:=22) (g:=z1le N) [1,0] (zf hb N (t4_25 N) z1fj zbx TabOk.nil [0,0,1,1] _ rfl) (fun x K=>by kernel_rfl)
def zoj (N:Nat)(a:Int)(b:Int)(k0:Int->Option Int)(k1:Option Int):Option Int:=zoi N a b (fun x20=>cond x20 (k0 (-9223372036854775808)) k1)
def z1lj (N:Nat)(x:z1b SQ0)(K:Ex->List A->Option Int):Option Int:=zoj N x.1 x.2.1 (fun a0=>(K .ret (mkS [(4,.v (.int .i64))] 19 (a0,())))) (K .normal (mkS SQ0 22 (x.1,x.2.1,())))
def z1jq (N:Nat):Hd Int:=fun st K=>(unS SQ0 22 (restr [1,0] 0 st)).bind fun x=>z1lj N x K
def t3_25 (N:Nat):Tab Int:=[([0,0,1,1],z1jl N)]
theorem z1hj {N:Nat}{c:Ctx}(hb:Base Tryz.prog (z1eu N) c):zw Tryz.prog c (zk zbx [0,1,1]) (z1jq N) :=
 z13 (s:=SQ0) (m:=22) (g:=z1lj N) [1,0] (zf hb N (t3_25 N) z1fj zbx (TabOk.cons (z1he hb) TabOk.nil) [0,1,1] _ rfl) (fun x K=>by kernel_rfl)
def zpo (N:Nat)(a:Int)(b:Int):Option Int:=zom N a b (fun x4=>some x4) (zoj N a b (fun x41=>some x41) (some (IntKind.wrap IntKind.i64 (a+b))))
def t_25 (N:Nat):Tab Int:=[([0,1],z1l0 N),([0,1,1],z1jq N)]
theorem z1c3 (N:Nat)(x:z1b SQ0):z2b (z1eu N) N (t_25 N) z1fj Tryz.f23 (mkS SQ0 0 x) (z1c (.v (.int .i64)) 2)=zpo N x.1 x.2.1:=by kernel_rfl
def zg4 (N:Nat):List A->Res:=z11 SQ0 (fun x=>zpo N x.1 x.2.1) (z2i (.v (.int .i64)) 2)
theorem zon (N:Nat):Contract Tryz.prog z17 23 (zg4 N) :=
 Contract.of (E:=z1eu N) (H:=t_25 N) (L:=z1fj) (N:=N) (body:=zbx) (K:=(z1c (.v (.int .i64)) 2)) (z1pm N) Tryz.func23 (by kernel_rfl) (by decide) (fun _ hb=>(TabOk.cons (z1it hb) (TabOk.cons (z1hj hb) TabOk.nil))) (fun x y h=>by rw[z1c3];exact h) (zm (s:=(.v (.int .i64))) (m:=2))
def z1dz:Code:=(Tryz.f12.body).getD .skip
def L_26:List (List Nat×List Nat):=[([0],[2,1]),([0,1],[4]),([1,1],[4])]
def E_26 (N:Nat):Env:=z14 tys z17 [(23,zg4 N),(22,zg3 N)] [] [] [] false [] []
theorem z1pl (N:Nat):EnvOk Tryz.prog (E_26 N):=ze mixed zq (FnsOk.cons (zon N) (FnsOk.cons (zoh N) (FnsOk.nil))) (ItsOk.nil)
def zk9 (N:Nat)(c:((List UInt8)×(Int×(Int×Unit))))(ticks:Int):Option Int:=(zpn N (if (0 > c.2.2.1) then 0 else c.2.2.1) (if (0 > ticks) then 0 else ticks)).bind fun y=>(zpo N (if (0 > c.2.1) then 0 else c.2.1) y).bind fun y1=>some y1
def t_26 (N:Nat):Tab Int:=[]
theorem z1c2 (N:Nat)(x:z1b SQ20):z2b (E_26 N) N (t_26 N) L_26 Tryz.f12 (mkS SQ20 0 x) (z1c (.v (.int .i64)) 2)=zk9 N x.1 x.2.1:=by kernel_rfl
def zcm (N:Nat):List A->Res:=z11 SQ20 (fun x=>zk9 N x.1 x.2.1) (z2i (.v (.int .i64)) 2)
theorem zmz (N:Nat):Contract Tryz.prog z17 12 (zcm N) :=
 Contract.of (E:=E_26 N) (H:=t_26 N) (L:=L_26) (N:=N) (body:=z1dz) (K:=(z1c (.v (.int .i64)) 2)) (z1pl N) Tryz.func12 (by kernel_rfl) (by decide) (fun _ hb=>TabOk.nil) (fun x y h=>by rw[z1c2];exact h) (zm (s:=(.v (.int .i64))) (m:=2))
def z1dy:Code:=(Tryz.f11.body).getD .skip
def L_27:List (List Nat×List Nat):=[([0],[0]),([0,1],[3]),([0,1,1],[2]),([1,1,1],[2])]
def E_27 (N:Nat):Env:=z14 tys z17 [(23,zg4 N),(22,zg3 N)] [] [] [] false [] []
theorem z1pk (N:Nat):EnvOk Tryz.prog (E_27 N):=ze mixed zq (FnsOk.cons (zon N) (FnsOk.cons (zoh N) (FnsOk.nil))) (ItsOk.nil)
def zfp (N:Nat)(matchers:Int):Option Int:=(zpo N (if (0 > matchers) then 0 else matchers) 2).bind fun y=>(zpn N (if (0 > matchers) then 0 else matchers) y).bind fun y1=>some y1
def t_27 (N:Nat):Tab Int:=[]
theorem z1c1 (N:Nat)(x:z1b [(0,.v (.int .i64))]):z2b (E_27 N) N (t_27 N) L_27 Tryz.f11 (mkS [(0,.v (.int .i64))] 0 x) (z1c (.v (.int .i64)) 1)=zfp N x.1:=by kernel_rfl
def z97 (N:Nat):List A->Res:=z11 [(0,.v (.int .i64))] (fun x=>zfp N x.1) (z2i (.v (.int .i64)) 1)
theorem zje (N:Nat):Contract Tryz.prog z17 11 (z97 N) :=
 Contract.of (E:=E_27 N) (H:=t_27 N) (L:=L_27) (N:=N) (body:=z1dy) (K:=(z1c (.v (.int .i64)) 1)) (z1pk N) Tryz.func11 (by kernel_rfl) (by decide) (fun _ hb=>TabOk.nil) (fun x y h=>by rw[z1c1];exact h) (zm (s:=(.v (.int .i64))) (m:=1))
def glob1:List Int:=[1116352408,1899447441,3049323471,3921009573,961987163,1508970993,2453635748,2870763221,3624381080,310598401,607225278,1426881987,1925078388,2162078206,2614888103,3248222580,3835390401,4022224774,264347078,604807628,770255983,1249150122,1555081692,1996064986,2554220882,2821834349,2952996808,3210313671,3336571891,3584528711,113926993,338241895,666307205,773529912,1294757372,1396182291,1695183700,1986661051,2177026350,2456956037,2730485921,2820302411,3259730800,3345764771,3516065817,3600352804,4094571909,275423344,430227734,506948616,659060556,883997877,958139571,1322822218,1537002063,1747873779,1955562222,2024104815,2227730452,2361852424,2428436474,2756734187,3204031479,3329325298]
def glob:Nat->Option Dat:=lk [(1,⟨(.arr 64 (.int .u32)),glob1⟩),(0,⟨.opq,Value.iface 164 (.agg #[.pointer (some ⟨3,74,none⟩)])⟩)]
def z1dx:Code:=(Tryz.f20.body).getD .skip
def L_28:List (List Nat×List Nat):=[([0],[1]),([0,1],[2]),([1,1],[2])]
def E_28 (N:Nat):Env:=z14 tys glob [] [(2,TT1)] [] [] false [] []
theorem z1pj (N:Nat):EnvOk Tryz.prog (E_28 N):=ze mixed zq (FnsOk.nil) (ItsOk.nil)
def z3u (N:Nat)(b:(DT6×((List DT6)×Unit))):Option (List DT6):=cond (decide (((1+(List.length b.2.1))*56)<=70368744177664)) (some (([b.1]:List DT6)++b.2.1)) none
def t_28 (N:Nat):Tab (List DT6):=[]
theorem z1c0 (N:Nat)(x:z1b [(0,.v zfq)]):z2b (E_28 N) N (t_28 N) L_28 Tryz.f20 (mkS [(0,.v zfq)] 0 x) (z1c (.v (.sl TT1)) 1)=z3u N x.1:=by kernel_rfl
def z5w (N:Nat):List A->Res:=z11 [(0,.v zfq)] (fun x=>z3u N x.1) (z2i (.v (.sl TT1)) 1)
theorem zc2 (N:Nat):Contract Tryz.prog glob 20 (z5w N) :=
 Contract.of (E:=E_28 N) (H:=t_28 N) (L:=L_28) (N:=N) (body:=z1dx) (K:=(z1c (.v (.sl TT1)) 1)) (z1pj N) Tryz.func20 (by kernel_rfl) (by decide) (fun _ hb=>TabOk.nil) (fun x y h=>by rw[z1c0];exact h) (zm (s:=(.v (.sl TT1))) (m:=1))
def z1dw:Code:=(Tryz.f32.body).getD .skip
def L_29:List (List Nat×List Nat):=[([0],[1]),([0,1],[2]),([1,1],[2])]
def E_29 (N:Nat):Env:=z14 tys glob [] [] [] [] false [] []
theorem z1pi (N:Nat):EnvOk Tryz.prog (E_29 N):=ze mixed zq (FnsOk.nil) (ItsOk.nil)
def zco (N:Nat)(t:DT6):Option Bool:=some (decide (64<(List.length t.2.1:Int)))
def t_29 (N:Nat):Tab Bool:=[]
theorem z1bz (N:Nat)(x:z1b [(0,.v TT1)]):z2b (E_29 N) N (t_29 N) L_29 Tryz.f32 (mkS [(0,.v TT1)] 0 x) (z1c (.v .bool) 1)=zco N x.1:=by kernel_rfl
def z36 (N:Nat):List A->Res:=z11 [(0,.v TT1)] (fun x=>zco N x.1) (z2i (.v .bool) 1)
theorem z5d (N:Nat):Contract Tryz.prog glob 32 (z36 N) :=
 Contract.of (E:=E_29 N) (H:=t_29 N) (L:=L_29) (N:=N) (body:=z1dw) (K:=(z1c (.v .bool) 1)) (z1pi N) Tryz.func32 (by kernel_rfl) (by decide) (fun _ hb=>TabOk.nil) (fun x y h=>by rw[z1bz];exact h) (zm (s:=(.v .bool)) (m:=1))
def zvt:Code:=(Tryz.f47.body).getD .skip
def L_30:List (List Nat×List Nat):=[([0],[0,1]),([0,0,1],[8,7,1,0]),([0,1,0,1],[8,7,1,0]),([0,0,0,1,0,1],[9,8,1,0,7]),([0,1,0,0,1,0,1],[8,1,0,7]),([1,0,1,0,0,1,0,1],[]),([0,0,0,1,1,0,0,1,0,1],[1,0,5,8,7]),(z1fh,[16,5,8,7,1,0]),([1,1,0,0,1,1,0,0,1,0,1],[8,7,1,0]),([0,0,1,1,0,0,1,1,0,0,1,0,1],[4]),([1,0,1,1,0,0,1,1,0,0,1,0,1],[4]),([0,1,1,0,0,1,0,1],[8,7,1,0]),([1,1,1,0,0,1,0,1],[8,7,1,0]),([1,0,1],[]),([0,1,1],[4]),([1,1,1],[4])]
def E_30 (N:Nat):Env:=z14 tys glob [(32,z36 N)] [] [] [] false [] []
theorem z1ph (N:Nat):EnvOk Tryz.prog (E_30 N):=ze mixed zq (FnsOk.cons (z5d N) (FnsOk.nil)) (ItsOk.nil)
def zgh (N:Nat)(s:(List DT6))(x7:Int)(x8:Int)(rec:Int->Option Int)(k0:Int->Option Int)(k1:Option Int):Option Int:=cond (decide (x8<x7)) (cond (inR x8 (List.length s)) (cond (decide (64<(((List.length (List.getD s (Int.toNat x8) ([],(([]:List ((List UInt8)×DT4)),([],())))).2.1):Nat):Int))) (k0 x8) (rec (IntKind.wrap IntKind.i64 (x8+1)))) none) k1
def zmi (N:Nat)(s:(List DT6))(x7:Int)(x8:Int)(k0:Int->Option Int)(k1:Option Int):Option Int:=iter (fun (v:Int) r=>zgh N s x7 v (fun x8=>(r x8)) k0 k1) N x8
def z1ms (N:Nat)(i:((List DT6)×Int))(v:Int)(r:Int->Option Int)(K:Ex->List A->Option Int):Option Int:=zgh N i.1 i.2 v (fun x8=>(r x8)) (fun a0=>(K .ret (mkS [(4,.v (.int .i64))] 14 (a0,())))) (K (.exit 0) (mkS [] 19 ()))
def z1kz (N:Nat):Hd Int:=fun st K=>(unS [(0,.v (.sl TT1)),(0,.fnc 32),(5,.v (.int .i64)),(0,.v (.int .i64))] 10 (restr [8,7,1,0] 0 st)).bind fun x=>iter (fun v r=>z1ms N ((fun x=>(x.1,x.2.2.1)) x) v r K) N ((fun x=>x.2.2.2.1) x)
def t1_30 (N:Nat):Tab Int:=[]
theorem z1is {N:Nat}{c:Ctx}(hb:Base Tryz.prog (E_30 N) c):zw Tryz.prog c (zk zvt [0,1,0,1]) (z1kz N) :=
 z1v (s:=[(0,.v (.sl TT1)),(0,.fnc 32),(5,.v (.int .i64)),(0,.v (.int .i64))]) (m:=10) (z1ms N) [8,7,1,0] N (fun x=>(x.1,x.2.2.1)) (fun x=>x.2.2.2.1) (fun i v=>(i.1,(),i.2,v,())) (fun _=>rfl) (zf hb N (t1_30 N) L_30 zvt TabOk.nil [0,0,1,0,1] _ rfl) (fun i v r K=>by kernel_rfl)
def zhy (N:Nat)(s:(List DT6)):Option Int:=zmi N s (List.length s:Int) 0 (fun x4=>some x4) (some (-1))
def t_30 (N:Nat):Tab Int:=[([0,1,0,1],z1kz N)]
theorem z1by (N:Nat)(x:z1b [(0,.v (.sl TT1)),(0,.fnc 32)]):z2b (E_30 N) N (t_30 N) L_30 Tryz.f47 (mkS [(0,.v (.sl TT1)),(0,.fnc 32)] 0 x) (z1c (.v (.int .i64)) 2)=zhy N x.1:=by kernel_rfl
def zk1 (N:Nat):List A->Res:=z11 [(0,.v (.sl TT1)),(0,.fnc 32)] (fun x=>zhy N x.1) (z2i (.v (.int .i64)) 2)
theorem zuw (N:Nat):Contract Tryz.prog glob 47 (zk1 N) :=
 Contract.of (E:=E_30 N) (H:=t_30 N) (L:=L_30) (N:=N) (body:=zvt) (K:=(z1c (.v (.int .i64)) 2)) (z1ph N) Tryz.func47 (by kernel_rfl) (by decide) (fun _ hb=>(TabOk.cons (z1is hb) TabOk.nil)) (fun x y h=>by rw[z1by];exact h) (zm (s:=(.v (.int .i64))) (m:=2))
def z1dv:Code:=(Tryz.f31.body).getD .skip
def L_31:List (List Nat×List Nat):=[([0],[0,1]),([0,1],[4]),([1,1],[4])]
def E_31 (N:Nat):Env:=z14 tys glob [(47,zk1 N),(32,z36 N)] [] [] [] false [] []
theorem z1pg (N:Nat):EnvOk Tryz.prog (E_31 N):=ze mixed zq (FnsOk.cons (zuw N) (FnsOk.cons (z5d N) (FnsOk.nil))) (ItsOk.nil)
def z8r (N:Nat)(s:(List DT6)):Option Bool:=(zhy N s).bind fun y=>some (decide (0<=y))
def t_31 (N:Nat):Tab Bool:=[]
theorem z1bx (N:Nat)(x:z1b [(0,.v (.sl TT1)),(0,.fnc 32)]):z2b (E_31 N) N (t_31 N) L_31 Tryz.f31 (mkS [(0,.v (.sl TT1)),(0,.fnc 32)] 0 x) (z1c (.v .bool) 2)=z8r N x.1:=by kernel_rfl
def zdw (N:Nat):List A->Res:=z11 [(0,.v (.sl TT1)),(0,.fnc 32)] (fun x=>z8r N x.1) (z2i (.v .bool) 2)
theorem zo1 (N:Nat):Contract Tryz.prog glob 31 (zdw N) :=
 Contract.of (E:=E_31 N) (H:=t_31 N) (L:=L_31) (N:=N) (body:=z1dv) (K:=(z1c (.v .bool) 2)) (z1pg N) Tryz.func31 (by kernel_rfl) (by decide) (fun _ hb=>TabOk.nil) (fun x y h=>by rw[z1bx];exact h) (zm (s:=(.v .bool)) (m:=2))
def z1du:Code:=(Tryz.f16.body).getD .skip
def L_32:List (List Nat×List Nat):=[([0],[1]),([0,0,1],[6,1]),([1,0,1],[1]),([0,0,1,0,1],[2]),([1,0,1,0,1],[2]),([0,1,1],[2]),([1,1,1],[2])]
def E_32 (N:Nat):Env:=z14 tys glob [(31,zdw N),(32,z36 N),(20,z5w N)] [] [] [] false [] []
theorem z1pf (N:Nat):EnvOk Tryz.prog (E_32 N):=ze mixed zq (FnsOk.cons (zo1 N) (FnsOk.cons (z5d N) (FnsOk.cons (zc2 N) (FnsOk.nil)))) (ItsOk.nil)
def z5e (N:Nat)(b:(DT6×((List DT6)×Unit))):Option Bool:=cond (decide (8<(List.length b.2.1:Int))) (some false) ((z3u N b).bind fun y=>(z8r N y).bind fun y1=>some (!y1))
def t_32 (N:Nat):Tab Bool:=[]
theorem z1bw (N:Nat)(x:z1b [(0,.v zfq)]):z2b (E_32 N) N (t_32 N) L_32 Tryz.f16 (mkS [(0,.v zfq)] 0 x) (z1c (.v .bool) 1)=z5e N x.1:=by kernel_rfl
def z9u (N:Nat):List A->Res:=z11 [(0,.v zfq)] (fun x=>z5e N x.1) (z2i (.v .bool) 1)
theorem zkc (N:Nat):Contract Tryz.prog glob 16 (z9u N) :=
 Contract.of (E:=E_32 N) (H:=t_32 N) (L:=L_32) (N:=N) (body:=z1du) (K:=(z1c (.v .bool) 1)) (z1pf N) Tryz.func16 (by kernel_rfl) (by decide) (fun _ hb=>TabOk.nil) (fun x y h=>by rw[z1bw];exact h) (zm (s:=(.v .bool)) (m:=1))
def z1dt:Code:=(Tryz.f17.body).getD .skip
def L_33:List (List Nat×List Nat):=[([0],[1]),([0,1],[2]),([1,1],[2])]
def E_33 (N:Nat):Env:=z14 tys glob [] [] [] [] false [(8,TT2),(9,TT2)] []
theorem z1pe (N:Nat):EnvOk Tryz.prog (E_33 N):=ze mixed zq (FnsOk.nil) (ItsOk.nil)
def z3v (N:Nat)(b:(DT6×((List DT6)×Unit))):Option DT0:=cond (decide (((0:Int)<=(List.length b.2.1:Int))/\(((List.length b.2.1:Int)<=(List.length b.2.1:Int))/\((((List.length b.2.1:Int)*(1:Int))<=(281474976710656:Int))/\((List.length b.2.1:Int)<=(9223372036854775807:Int)))))) (some (b,((List.replicate (Int.toNat (List.length b.2.1:Int)) false),(([]:List (zgq×((List (List UInt8))×Unit))),([],((0:Int),())))))) none
def t_33 (N:Nat):Tab DT0:=[]
theorem z1bv (N:Nat)(x:z1b [(0,.v zfq)]):z2b (E_33 N) N (t_33 N) L_33 Tryz.f17 (mkS [(0,.v zfq)] 0 x) (z1c (.box TT2) 1)=z3v N x.1:=by kernel_rfl
def z9v (N:Nat):List A->Res:=z11 [(0,.v zfq)] (fun x=>z3v N x.1) (z2i (.box TT2) 1)
theorem zkd (N:Nat):Contract Tryz.prog glob 17 (z9v N) :=
 Contract.of (E:=E_33 N) (H:=t_33 N) (L:=L_33) (N:=N) (body:=z1dt) (K:=(z1c (.box TT2) 1)) (z1pe N) Tryz.func17 (by kernel_rfl) (by decide) (fun _ hb=>TabOk.nil) (fun x y h=>by rw[z1bv];exact h) (zm (s:=(.box TT2)) (m:=1))
def zvs:Code:=(Tryz.f109.body).getD .skip
def L_34:List (List Nat×List Nat):=[([0],[0]),([0,1],[3,0]),([0,0,1,1],[6,3,0]),([0,1,0,1,1],[6,3,0]),(z13i,[7,6,3,0]),(zzg,[6,3,0]),(z13j,[3]),(z16s,[3,4,0,6]),(z1nj,[6,3,0]),(z16r,[6,3,0]),(z16q,[6,3,0]),([1,0,1,1],[3]),([0,1,1,1],[2]),([1,1,1,1],[2])]
def E_34 (N:Nat):Env:=z14 tys glob [] [(3,(.int .u8))] [] [] false [] []
theorem z1pd (N:Nat):EnvOk Tryz.prog (E_34 N):=ze mixed zq (FnsOk.nil) (ItsOk.nil)
def zfg (N:Nat)(s:(List UInt8))(out:(List Int))(x6:Int)(rec:(List Int)->Int->Option (List UInt8))(k0:(List Int)->Option (List UInt8)):Option (List UInt8):=cond (decide (x6<8)) (cond (decide (0<=(IntKind.wrap IntKind.i64 (8*(IntKind.wrap IntKind.i64 (7 - x6)))))) (cond (inR x6 (List.length out)) (cond (decide ((Int.toNat x6)<(List.length out))) (rec (List.set out (Int.toNat x6) (IntKind.wrap IntKind.u8 (z8w IntKind.u64 (IntKind.wrap IntKind.u64 (List.length s:Int)) (IntKind.wrap IntKind.i64 (8*(IntKind.wrap IntKind.i64 (7 - x6))))))) (IntKind.wrap IntKind.i64 (x6+1))) none) none) none) (k0 out)
def znu (N:Nat)(s:(List UInt8))(out:(List Int))(x6:Int)(k0:(List Int)->Option (List UInt8)):Option (List UInt8):=iter (fun (v:((List Int)×Int)) r=>zfg N s v.1 v.2 (fun out x6=>(r (out,x6))) k0) N (out,x6)
def z1mr (N:Nat)(i:(List UInt8))(v:((List Int)×Int))(r:((List Int)×Int)->Option (List UInt8))(K:Ex->List A->Option (List UInt8)):Option (List UInt8):=zfg N i v.1 v.2 (fun out x6=>(r (out,x6))) (fun a0=>(K (.exit 0) (mkS [(3,.row (.int .u8))] 19 (a0,()))))
def z1ky (N:Nat):Hd (List UInt8):=fun st K=>(unS [(0,.v .str),(2,.row (.int .u8)),(2,.v (.int .i64))] 16 (restr [6,3,0] 0 st)).bind fun x=>iter (fun v r=>z1mr N ((fun x=>x.1) x) v r K) N ((fun x=>(x.2.1,x.2.2.1)) x)
def t1_34 (N:Nat):Tab (List UInt8):=[]
theorem z1ir {N:Nat}{c:Ctx}(hb:Base Tryz.prog (E_34 N) c):zw Tryz.prog c (zk zvs [0,1,0,1,1]) (z1ky N) :=
 z1v (s:=[(0,.v .str),(2,.row (.int .u8)),(2,.v (.int .i64))]) (m:=16) (z1mr N) [6,3,0] N (fun x=>x.1) (fun x=>(x.2.1,x.2.2.1)) (fun i v=>(i,v.1,v.2,())) (fun _=>rfl) (zf hb N (t1_34 N) L_34 zvs TabOk.nil [0,0,1,0,1,1] _ rfl) (fun i v r K=>by kernel_rfl)
def zbl (N:Nat)(s:(List UInt8)):Option (List UInt8):=znu N s ([0,0,0,0,0,0,0,0]:List Int) 0 (fun out=>some (z2e out))
def t_34 (N:Nat):Tab (List UInt8):=[([0,1,0,1,1],z1ky N)]
theorem z1bu (N:Nat)(x:z1b [(0,.v .str)]):z2b (E_34 N) N (t_34 N) L_34 Tryz.f109 (mkS [(0,.v .str)] 0 x) (z1c (.v .str) 1)=zbl N x.1:=by kernel_rfl
def zdo (N:Nat):List A->Res:=z11 [(0,.v .str)] (fun x=>zbl N x.1) (z2i (.v .str) 1)
theorem znv (N:Nat):Contract Tryz.prog glob 109 (zdo N) :=
 Contract.of (E:=E_34 N) (H:=t_34 N) (L:=L_34) (N:=N) (body:=zvs) (K:=(z1c (.v .str) 1)) (z1pd N) Tryz.func109 (by kernel_rfl) (by decide) (fun _ hb=>(TabOk.cons (z1ir hb) TabOk.nil)) (fun x y h=>by rw[z1bu];exact h) (zm (s:=(.v .str)) (m:=1))
def zvr:Code:=(Tryz.f108.body).getD .skip
def L_35:List (List Nat×List Nat):=[([0],[7,6,5,0]),([0,1],[7,6,5,0]),([0,0,0,1],[8,5,7,0,6]),([0,1,0,0,1],[5,7,0,6]),([1,0,1,0,0,1],[0]),([0,0,0,1,1,0,0,1],[0,4,7,6,5]),([0,1,0,0,1,1,0,0,1],[21,0,7,6,5]),([1,1,0,0,1,1,0,0,1],[7,6,5,0]),([0,1,1,0,0,1,1,0,0,1],[0]),([0,1,1,0,0,1],[7,6,5,0]),([1,1,1,0,0,1],[7,6,5,0]),([1],[0])]
def E_35 (N:Nat):Env:=z14 tys glob [(109,zdo N)] [] [] [0] false [] []
theorem z1pc (N:Nat):EnvOk Tryz.prog (E_35 N):=ze mixed zq (FnsOk.cons (znv N) (FnsOk.nil)) ItsOk.nil
def z5m (N:Nat)(x5:(List (List UInt8)))(x6:Int)(x7:Int)(rec:Int->Option (List DT4))(k0:Option (List DT4))(k1:Option (List DT4)):Option (List DT4):=cond (decide (x7<x6)) (cond (inR x7 (List.length x5)) ((zbl N (List.getD x5 (Int.toNat x7) [])).bind fun y=>ztt (y,()) (ztt ((List.getD x5 (Int.toNat x7) []),()) (rec (IntKind.wrap IntKind.i64 (x7+1))) k0) k0) none) k1
def zmj (N:Nat)(x5:(List (List UInt8)))(x6:Int)(x7:Int)(k0:Option (List DT4))(k1:Option (List DT4)):Option (List DT4):=iter (fun (v:Int) r=>z5m N x5 x6 v (fun x7=>(r x7)) k0 k1) N x7
def z1mq (N:Nat)(i:((List (List UInt8))×Int))(v:Int)(r:Int->Option (List DT4))(K:Ex->List A->Option (List DT4)):Option (List DT4):=z5m N i.1 i.2 v (fun x7=>(r x7)) (K .ret (mkS [(0,.yld)] 22 ((),()))) (K (.exit 0) (mkS [(0,.yld)] 22 ((),())))
def z1kx (N:Nat):Hd (List DT4):=fun st K=>(unS [(0,.yld),(4,.v (.sl .str)),(0,.v (.int .i64)),(0,.v (.int .i64))] 15 (restr [7,6,5,0] 0 st)).bind fun x=>iter (fun v r=>z1mq N ((fun x=>(x.2.1,x.2.2.1)) x) v r K) N ((fun x=>x.2.2.2.1) x)
def t1_35 (N:Nat):Tab (List DT4):=[]
theorem z1iq {N:Nat}{G:GY [.str]}(hG:zgp G)(hev:EvOk G Tryz.prog (E_35 N) N L_35 zvr):YOk G Tryz.prog (zk zvr [0,1]) (z1kx N) :=
 zq8 hG (s:=[(0,.yld),(4,.v (.sl .str)),(0,.v (.int .i64)),(0,.v (.int .i64))]) (m:=15) (z1mq N) [7,6,5,0] N (fun x=>(x.2.1,x.2.2.1)) (fun x=>x.2.2.2.1) (fun i v=>((),i.1,i.2,v,())) (fun _=>rfl) (hev (t1_35 N) TabOkY.nil [0,0,1]) (fun i v r K=>by kernel_rfl)
def z94 (N:Nat)(x1:(List (List UInt8))):Option (List DT4):=zmj N x1 (List.length x1:Int) 0 (some []) (some [])
def t_35 (N:Nat):Tab (List DT4):=[([0,1],z1kx N)]
theorem z1bt (N:Nat)(x:T.den (.pair (.ptr (.sl .str)) .unit)):z1n6 (E_35 N) [.str] ztt N (t_35 N) L_35 Tryz.f108 [.v (.ptr (.sl .str)) x.1]=z94 N x.1:=by kernel_rfl
def z8 (N:Nat):Dat->ItRes:=z11x (ts:=[.str]) (.pair (.ptr (.sl .str)) .unit) (fun x=>z94 N x.1)
theorem zb (N:Nat):ItOk Tryz.prog glob 108 (z8 N):=ItOk.of (ts:=[.str]) (E:=E_35 N) (H:=t_35 N) (L:=L_35) (N:=N) (body:=zvr) (z1pc N) rfl Tryz.func108 (by kernel_rfl) (by decide) (fun G hG hev=>(TabOkY.cons (z1iq hG hev) TabOkY.nil)) (fun x y h=>⟨_,rfl,by rw[z1bt];exact h⟩)
def z1ds:Code:=(Tryz.f97.body).getD .skip
def L_36:List (List Nat×List Nat):=[([0],[1]),([0,1],[2]),([1,1],[2])]
def E_36 (N:Nat):Env:=z14 tys glob [] [] [] [] false [] [(108,z8 N)]
theorem z1pb (N:Nat):EnvOk Tryz.prog (E_36 N):=ze mixed zq (FnsOk.nil) (ItsOk.cons (zb N) (ItsOk.nil))
def zmk (N:Nat)(parts:(List (List UInt8))):Option ((List (List UInt8))×Unit):=some (parts,())
def t_36 (N:Nat):Tab ((List (List UInt8))×Unit):=[]
theorem z1bs (N:Nat)(x:z1b [(0,.v (.sl .str))]):z2b (E_36 N) N (t_36 N) L_36 Tryz.f97 (mkS [(0,.v (.sl .str))] 0 x) (z1c (.v (.fn 108 (.pair (.ptr (.sl .str)) .unit))) 1)=zmk N x.1:=by kernel_rfl
def zdp (N:Nat):List A->Res:=z11 [(0,.v (.sl .str))] (fun x=>zmk N x.1) (z2i (.v (.fn 108 (.pair (.ptr (.sl .str)) .unit))) 1)
theorem znw (N:Nat):Contract Tryz.prog glob 97 (zdp N) :=
 Contract.of (E:=E_36 N) (H:=t_36 N) (L:=L_36) (N:=N) (body:=z1ds) (K:=(z1c (.v (.fn 108 (.pair (.ptr (.sl .str)) .unit))) 1)) (z1pb N) Tryz.func97 (by kernel_rfl) (by decide) (fun _ hb=>TabOk.nil) (fun x y h=>by rw[z1bs];exact h) (zm (s:=(.v (.fn 108 (.pair (.ptr (.sl .str)) .unit)))) (m:=1))
def zqy:Code:=(Tryz.f84.body).getD .skip
def L_37:List (List Nat×List Nat):=[([0],[0]),([0,1],[0,3]),([0,0,1,1],[6,3]),([0,1,0,1,1],[3]),([0,0,1,0,1,1],[4,3]),([0,1,0,1,0,1,1],[3]),([1,0,1,0,1,1],[3]),([1,0,1,1],[3]),([0,1,1,1],[2]),([1,1,1,1],[2])]
def z1q9 (N:Nat):Env:=z14 tys glob [(97,zdp N),(29,z1d N),(30,zla)] [] [] [] false [(3,zen)] [(108,z8 N)]
theorem z1pa (N:Nat):EnvOk Tryz.prog (z1q9 N):=ze mixed zq (FnsOk.cons (znw N) (FnsOk.cons ((Contract.up (z1g N) glob)) (FnsOk.cons ((Contract.up (zrl z17) glob)) (FnsOk.nil)))) (ItsOk.cons (zb N) (ItsOk.nil))
def zbn (N:Nat)(out_1:z7w)(y:DT4)(rec:z7w->Option (List UInt8))(k0:z7w->Option (List UInt8)):Option (List UInt8):=(zh N out_1 y.1).bind fun y1=>rec y1.2.1
def z5n (N:Nat)(out:z7w)(x6:((List (List UInt8))×Unit)):Option (List DT4):=(z94 N x6.1)
def zbo (N:Nat)(out:z7w)(x6:((List (List UInt8))×Unit)):Unit:=()
def zhz (N:Nat)(out:z7w)(x6:((List (List UInt8))×Unit)):z7w:=out
def zi0 (N:Nat)(out:z7w)(x6:((List (List UInt8))×Unit))(k0:z7w->Option (List UInt8)):Option (List UInt8):=(z5n N out x6).bind fun ys=>zht (fun (y:DT4) (v:z7w) r=>zbn N v y (fun out_1=>(r out_1)) k0) (fun (v:z7w)=>k0 v) ys out
def z1mp (N:Nat)(y:DT4)(i:Unit)(v:z7w)(r:z7w->Option (List UInt8))(K:Ex->List A->Option (List UInt8)):Option (List UInt8):=zbn N v y (fun out_1=>(r out_1)) (fun a0=>(K .normal (mkS [(3,.box zen)] 7 (a0,()))))
def z1kw (N:Nat):Hd (List UInt8):=fun st K=>(unS [(3,.box zen),(2,.v (.fn 108 (.pair (.ptr (.sl .str)) .unit)))] 4 (restr [6,3] 0 st)).bind fun x=>((fun x=>z5n N x.1 x.2.1) x).bind fun xs=>zht (fun y v r=>z1mp N y ((fun x=>zbo N x.1 x.2.1) x) v r K) (fun v=>K .normal (mkS [(3,.box zen)] 7 ((fun i v=>(v,())) ((fun x=>zbo N x.1 x.2.1) x) v))) xs ((fun x=>zhz N x.1 x.2.1) x)
theorem z1ip {N:Nat}{c:Ctx}(hb:Base Tryz.prog (z1q9 N) c):zw Tryz.prog c (zk zqy [0,1,0,1,1]) (z1kw N) :=
 z19q (ts:=[.str]) (s:=[(3,.box zen),(2,.v (.fn 108 (.pair (.ptr (.sl .str)) .unit)))]) (m:=4) (s2:=[(3,.box zen)]) (m2:=7) [6,3] (fun x=>z5n N x.1 x.2.1) (fun x=>zbo N x.1 x.2.1) (fun x=>zhz N x.1 x.2.1) (fun i v=>(v,())) (rfF (z1q9 N) N [.str] (zk zqy [0,1,0,1,1])) (z1mp N) (zf hb N [] L_37 zqy TabOk.nil [0,1,0,1,1] _ rfl) (fun x K=>by kernel_rfl) (fun y i v r K=>by kernel_rfl)
def z7u (N:Nat)(parts:(List (List UInt8))):Option (List UInt8):=zi0 N ((),([],())) (parts,()) (fun out_1=>(zii (out_1,())).bind fun y=>some y.1)
def t_37 (N:Nat):Tab (List UInt8):=[([0,1,0,1,1],z1kw N)]
theorem z1br (N:Nat)(x:z1b [(0,.v (.sl .str))]):z2b (z1q9 N) N (t_37 N) L_37 Tryz.f84 (mkS [(0,.v (.sl .str))] 0 x) (z1c (.v .str) 1)=z7u N x.1:=by kernel_rfl
def zfi (N:Nat):List A->Res:=z11 [(0,.v (.sl .str))] (fun x=>z7u N x.1) (z2i (.v .str) 1)
theorem zqd (N:Nat):Contract Tryz.prog glob 84 (zfi N) :=
 Contract.of (E:=z1q9 N) (H:=t_37 N) (L:=L_37) (N:=N) (body:=zqy) (K:=(z1c (.v .str) 1)) (z1pa N) Tryz.func84 (by kernel_rfl) (by decide) (fun _ hb=>(TabOk.cons (z1ip hb) TabOk.nil)) (fun x y h=>by rw[z1br];exact h) (zm (s:=(.v .str)) (m:=1))
def z1dr:Code:=(Tryz.f111.body).getD .skip
def L_38:List (List Nat×List Nat):=[([0],[0]),([0,1],[0]),([1,1],[0])]
def E_38 (N:Nat):Env:=z14 tys glob [] [] [] [] false [] [(108,z8 N)]
theorem z1p9 (N:Nat):EnvOk Tryz.prog (E_38 N):=ze mixed zq (FnsOk.nil) (ItsOk.cons (zb N) (ItsOk.nil))
def zrq (N:Nat):Option (List Int):=some ([1779033703,3144134277,1013904242,2773480762,1359893119,2600822924,528734635,1541459225]:List Int)
def t_38 (N:Nat):Tab (List Int):=[]
theorem z1bq (N:Nat)(x:z1b []):z2b (E_38 N) N (t_38 N) L_38 Tryz.f111 (mkS [] 0 x) (z1c (.v (.arr 8 (.int .u32))) 0)=zrq N:=by kernel_rfl
def zh5 (N:Nat):List A->Res:=z11 [] (fun x=>zrq N) (z2i (.v (.arr 8 (.int .u32))) 0)
theorem zrp (N:Nat):Contract Tryz.prog glob 111 (zh5 N) :=
 Contract.of (E:=E_38 N) (H:=t_38 N) (L:=L_38) (N:=N) (body:=z1dr) (K:=(z1c (.v (.arr 8 (.int .u32))) 0)) (z1p9 N) Tryz.func111 (by kernel_rfl) (by decide) (fun _ hb=>TabOk.nil) (fun x y h=>by rw[z1bq];exact h) (zm (s:=(.v (.arr 8 (.int .u32)))) (m:=0))
def z1dq:Code:=(Tryz.f104.body).getD .skip
def L_39:List (List Nat×List Nat):=[([0],[]),([0,1],[0]),([1,1],[0])]
def E_39 (N:Nat):Env:=z14 tys glob [(111,zh5 N)] [] [] [] false [] [(108,z8 N)]
theorem z1p8 (N:Nat):EnvOk Tryz.prog (E_39 N):=ze mixed zq (FnsOk.cons (zrp N) (FnsOk.nil)) (ItsOk.cons (zb N) (ItsOk.nil))
def z10e (N:Nat):Option DT9:=some (true,(([1779033703,3144134277,1013904242,2773480762,1359893119,2600822924,528734635,1541459225]:List Int),([],(0,()))))
def t_39 (N:Nat):Tab DT9:=[]
theorem z1bp (N:Nat)(x:z1b []):z2b (E_39 N) N (t_39 N) L_39 Tryz.f104 (mkS [] 0 x) (z1c (.box TT5) 0)=z10e N:=by kernel_rfl
def zg0 (N:Nat):List A->Res:=z11 [] (fun x=>z10e N) (z2i (.box TT5) 0)
theorem zob (N:Nat):Contract Tryz.prog glob 104 (zg0 N) :=
 Contract.of (E:=E_39 N) (H:=t_39 N) (L:=L_39) (N:=N) (body:=z1dq) (K:=(z1c (.box TT5) 0)) (z1p8 N) Tryz.func104 (by kernel_rfl) (by decide) (fun _ hb=>TabOk.nil) (fun x y h=>by rw[z1bp];exact h) (zm (s:=(.box TT5)) (m:=0))
def z1dp:Code:=(Tryz.f129.body).getD .skip
def L_40:List (List Nat×List Nat):=[([0],[1,0]),([0,1],[0,5]),([0,1,1],[4]),([1,1,1],[4])]
def E_40 (N:Nat):Env:=z14 tys glob [] [] [] [] false [] [(108,z8 N)]
theorem z1p7 (N:Nat):EnvOk Tryz.prog (E_40 N):=ze mixed zq (FnsOk.nil) (ItsOk.cons (zb N) (ItsOk.nil))
def z3i (N:Nat)(x0:Int)(k:Int):Option Int:=cond (decide (0<=(IntKind.wrap IntKind.u64 (32 - (zr Go.BinOp.and IntKind.u64 (IntKind.wrap IntKind.u64 k) 31))))) (some (zr Go.BinOp.or IntKind.u32 (zpk IntKind.u32 x0 (zr Go.BinOp.and IntKind.u64 (IntKind.wrap IntKind.u64 k) 31)) (z8w IntKind.u32 x0 (IntKind.wrap IntKind.u64 (32 - (zr Go.BinOp.and IntKind.u64 (IntKind.wrap IntKind.u64 k) 31)))))) none
def t_40 (N:Nat):Tab Int:=[]
theorem z1bo (N:Nat)(x:z1b z1ff):z2b (E_40 N) N (t_40 N) L_40 Tryz.f129 (mkS z1ff 0 x) (z1c (.v (.int .u32)) 2)=z3i N x.1 x.2.1:=by kernel_rfl
def z48 (N:Nat):List A->Res:=z11 z1ff (fun x=>z3i N x.1 x.2.1) (z2i (.v (.int .u32)) 2)
theorem z9o (N:Nat):Contract Tryz.prog glob 129 (z48 N) :=
 Contract.of (E:=E_40 N) (H:=t_40 N) (L:=L_40) (N:=N) (body:=z1dp) (K:=(z1c (.v (.int .u32)) 2)) (z1p7 N) Tryz.func129 (by kernel_rfl) (by decide) (fun _ hb=>TabOk.nil) (fun x y h=>by rw[z1bo];exact h) (zm (s:=(.v (.int .u32))) (m:=2))
def z1do:Code:=(Tryz.f128.body).getD .skip
def L_41:List (List Nat×List Nat):=[([0],[0,1]),([0,1],[4]),([1,1],[4])]
def E_41 (N:Nat):Env:=z14 tys glob [(129,z48 N)] [] [] [] false [] [(108,z8 N)]
theorem z1p6 (N:Nat):EnvOk Tryz.prog (E_41 N):=ze mixed zq (FnsOk.cons (z9o N) (FnsOk.nil)) (ItsOk.cons (zb N) (ItsOk.nil))
def z10d (N:Nat)(x0:Int)(n:Int):Option Int:=(z3i N x0 (IntKind.wrap IntKind.i64 (0 - n))).bind fun y=>some y
def t_41 (N:Nat):Tab Int:=[]
theorem z1bn (N:Nat)(x:z1b z1ff):z2b (E_41 N) N (t_41 N) L_41 Tryz.f128 (mkS z1ff 0 x) (z1c (.v (.int .u32)) 2)=z10d N x.1 x.2.1:=by kernel_rfl
def zfx (N:Nat):List A->Res:=z11 z1ff (fun x=>z10d N x.1 x.2.1) (z2i (.v (.int .u32)) 2)
theorem zoa (N:Nat):Contract Tryz.prog glob 128 (zfx N) :=
 Contract.of (E:=E_41 N) (H:=t_41 N) (L:=L_41) (N:=N) (body:=z1do) (K:=(z1c (.v (.int .u32)) 2)) (z1p6 N) Tryz.func128 (by kernel_rfl) (by decide) (fun _ hb=>TabOk.nil) (fun x y h=>by rw[z1bn];exact h) (zm (s:=(.v (.int .u32))) (m:=2))
def zn7:Code:=(Tryz.f125.body).getD .skip
def L_42:List (List Nat×List Nat):=[([0],[0,2]),([0,1],[0,3,2]),([0,0,1,1],[11,0,3,2]),([0,1,0,1,1],[11,0,3,2]),(z13i,[12,11,0,3,2]),(zzg,[11,0,3,2]),(z13j,[3,2]),(z16s,[0,4,3,11,2]),(z1ee,[4,5,3,11,0,2]),([1,1,0,0,1,1,0,0,1,0,1,1],[11,0,3,2]),(z16r,[11,0,3,2]),(z16q,[11,0,3,2]),([1,0,1,1],[3,2]),([0,0,1,1,1],[6,3,2]),([0,1,0,1,1,1],[6,3,2]),([0,0,0,0,1,0,1,1,1],[43,6,3,2]),([1,0,0,0,1,0,1,1,1],[6,3,2]),([1,1,0,0,0,1,0,1,1,1],[3,2]),(PQ70,[7,8,6,3,2]),([0,1,0,0,1,0,0,1,0,1,1,1],[8,6,3,9,2]),([0,1,1,0,0,1,0,0,1,0,1,1,1],[6,10,3,9,2]),([1,1,1,0,0,1,0,0,1,0,1,1,1],[6,3,2]),(z18b,[6,3,2]),([1,1,0,0,1,0,1,1,1],[6,3,2]),([1,0,1,1,1],[3,2]),([0,1,1,1,1],[2]),([1,1,1,1,1],[2])]
def z1q8 (N:Nat):Env:=z14 tys glob [(128,zfx N)] [] [] [] false [] [(108,z8 N)]
theorem z1p5 (N:Nat):EnvOk Tryz.prog (z1q8 N):=ze mixed zq (FnsOk.cons (zoa N) (FnsOk.nil)) (ItsOk.cons (zb N) (ItsOk.nil))
def zd3 (N:Nat)(block:(List UInt8))(x2:(List Int))(w:(List Int))(x11:Int)(rec:(List Int)->Int->Option (List Int))(k0:(List Int)->Option (List Int)):Option (List Int):=cond (decide (x11<16)) (cond (decide ((0<=(IntKind.wrap IntKind.i64 ((IntKind.wrap IntKind.i64 (4*x11))+4)))/\((IntKind.wrap IntKind.i64 ((IntKind.wrap IntKind.i64 (4*x11))+4))<=(List.length block:Int)))) (cond (decide ((0<=(IntKind.wrap IntKind.i64 (4*x11)))/\((IntKind.wrap IntKind.i64 (4*x11))<=(IntKind.wrap IntKind.i64 ((IntKind.wrap IntKind.i64 (4*x11))+4))))) (cond (inR 0 (List.length (cut block (Int.toNat (IntKind.wrap IntKind.i64 (4*x11))) (Int.toNat (IntKind.wrap IntKind.i64 ((IntKind.wrap IntKind.i64 (4*x11))+4)))))) (cond (inR 1 (List.length (cut block (Int.toNat (IntKind.wrap IntKind.i64 (4*x11))) (Int.toNat (IntKind.wrap IntKind.i64 ((IntKind.wrap IntKind.i64 (4*x11))+4)))))) (cond (inR 2 (List.length (cut block (Int.toNat (IntKind.wrap IntKind.i64 (4*x11))) (Int.toNat (IntKind.wrap IntKind.i64 ((IntKind.wrap IntKind.i64 (4*x11))+4)))))) (cond (inR 3 (List.length (cut block (Int.toNat (IntKind.wrap IntKind.i64 (4*x11))) (Int.toNat (IntKind.wrap IntKind.i64 ((IntKind.wrap IntKind.i64 (4*x11))+4)))))) (cond (inR x11 64) (cond (decide ((Int.toNat x11)<(List.length w))) (rec (List.set w (Int.toNat x11) (zr Go.BinOp.or IntKind.u32 (zr Go.BinOp.or IntKind.u32 (zr Go.BinOp.or IntKind.u32 (zpk IntKind.u32 (IntKind.wrap IntKind.u32 (((UInt8.toNat (List.getD (cut block (Int.toNat (IntKind.wrap IntKind.i64 (4*x11))) (Int.toNat (IntKind.wrap IntKind.i64 ((IntKind.wrap IntKind.i64 (4*x11))+4)))) 0 (0:UInt8))):Nat):Int)) 24) (zpk IntKind.u32 (IntKind.wrap IntKind.u32 (((UInt8.toNat (List.getD (cut block (Int.toNat (IntKind.wrap IntKind.i64 (4*x11))) (Int.toNat (IntKind.wrap IntKind.i64 ((IntKind.wrap IntKind.i64 (4*x11))+4)))) 1 (0:UInt8))):Nat):Int)) 16)) (zpk IntKind.u32 (IntKind.wrap IntKind.u32 (((UInt8.toNat (List.getD (cut block (Int.toNat (IntKind.wrap IntKind.i64 (4*x11))) (Int.toNat (IntKind.wrap IntKind.i64 ((IntKind.wrap IntKind.i64 (4*x11))+4)))) 2 (0:UInt8))):Nat):Int)) 8)) (IntKind.wrap IntKind.u32 (((UInt8.toNat (List.getD (cut block (Int.toNat (IntKind.wrap IntKind.i64 (4*x11))) (Int.toNat (IntKind.wrap IntKind.i64 ((IntKind.wrap IntKind.i64 (4*x11))+4)))) 3 (0:UInt8))):Nat):Int)))) (IntKind.wrap IntKind.i64 (x11+1))) none) none) none) none) none) none) none) none) (k0 w)
def zld (N:Nat)(block:(List UInt8))(x2:(List Int))(w:(List Int))(x11:Int)(k0:(List Int)->Option (List Int)):Option (List Int):=iter (fun (v:((List Int)×Int)) r=>zd3 N block x2 v.1 v.2 (fun w x11=>(r (w,x11))) k0) N (w,x11)
def z1mo (N:Nat)(i:((List UInt8)×(List Int)))(v:((List Int)×Int))(r:((List Int)×Int)->Option (List Int))(K:Ex->List A->Option (List Int)):Option (List Int):=zd3 N i.1 i.2 v.1 v.2 (fun w x11=>(r (w,x11))) (fun a1=>(K (.exit 0) (mkS [(2,.box (.arr 64 (.int .u32))),(0,.box (.arr 64 (.int .u32)))] 82 (i.2,a1,()))))
def z1kv (N:Nat):Hd (List Int):=fun st K=>(unS SQ43 74 (restr [11,0,3,2] 0 st)).bind fun x=>iter (fun v r=>z1mo N ((fun x=>(x.1,x.2.1)) x) v r K) N ((fun x=>(x.2.2.1,x.2.2.2.1)) x)
def t1_42 (N:Nat):Tab (List Int):=[]
theorem z1io {N:Nat}{c:Ctx}(hb:Base Tryz.prog (z1q8 N) c):zw Tryz.prog c (zk zn7 [0,1,0,1,1]) (z1kv N) :=
 z1v (s:=SQ43) (m:=74) (z1mo N) [11,0,3,2] N (fun x=>(x.1,x.2.1)) (fun x=>(x.2.2.1,x.2.2.2.1)) (fun i v=>(i.1,i.2,v.1,v.2,())) (fun _=>rfl) (zf hb N (t1_42 N) L_42 zn7 TabOk.nil [0,0,1,0,1,1] _ rfl) (fun i v r K=>by kernel_rfl)
def zd2 (N:Nat)(x2:(List Int))(w:(List Int))(t:Int)(rec:(List Int)->Int->Option (List Int))(k0:(List Int)->Option (List Int)):Option (List Int):=cond (decide (t<64)) (cond (inR (IntKind.wrap IntKind.i64 (t - 15)) 64) (cond (decide ((Int.toNat (IntKind.wrap IntKind.i64 (t - 15)))<(List.length w))) (cond (inR (IntKind.wrap IntKind.i64 (t - 2)) 64) (cond (decide ((Int.toNat (IntKind.wrap IntKind.i64 (t - 2)))<(List.length w))) (cond (inR (IntKind.wrap IntKind.i64 (t - 7)) 64) (cond (decide ((Int.toNat (IntKind.wrap IntKind.i64 (t - 7)))<(List.length w))) (cond (inR (IntKind.wrap IntKind.i64 (t - 16)) 64) (cond (decide ((Int.toNat (IntKind.wrap IntKind.i64 (t - 16)))<(List.length w))) (cond (inR t 64) (cond (decide ((Int.toNat t)<(List.length w))) (rec (List.set w (Int.toNat t) (IntKind.wrap IntKind.u32 ((IntKind.wrap IntKind.u32 ((IntKind.wrap IntKind.u32 ((zr Go.BinOp.xor IntKind.u32 (zr Go.BinOp.xor IntKind.u32 (zr Go.BinOp.or IntKind.u32 (zpk IntKind.u32 (List.getD w (Int.toNat (IntKind.wrap IntKind.i64 (t - 2))) 0) (zr Go.BinOp.and IntKind.u64 (IntKind.wrap IntKind.u64 (IntKind.wrap IntKind.i64 (0 - 17))) 31)) (z8w IntKind.u32 (List.getD w (Int.toNat (IntKind.wrap IntKind.i64 (t - 2))) 0) (IntKind.wrap IntKind.u64 (32 - (zr Go.BinOp.and IntKind.u64 (IntKind.wrap IntKind.u64 (IntKind.wrap IntKind.i64 (0 - 17))) 31))))) (zr Go.BinOp.or IntKind.u32 (zpk IntKind.u32 (List.getD w (Int.toNat (IntKind.wrap IntKind.i64 (t - 2))) 0) (zr Go.BinOp.and IntKind.u64 (IntKind.wrap IntKind.u64 (IntKind.wrap IntKind.i64 (0 - 19))) 31)) (z8w IntKind.u32 (List.getD w (Int.toNat (IntKind.wrap IntKind.i64 (t - 2))) 0) (IntKind.wrap IntKind.u64 (32 - (zr Go.BinOp.and IntKind.u64 (IntKind.wrap IntKind.u64 (IntKind.wrap IntKind.i64 (0 - 19))) 31)))))) (z8w IntKind.u32 (List.getD w (Int.toNat (IntKind.wrap IntKind.i64 (t - 2))) 0) 10))+(List.getD w (Int.toNat (IntKind.wrap IntKind.i64 (t - 7))) 0)))+(zr Go.BinOp.xor IntKind.u32 (zr Go.BinOp.xor IntKind.u32 (zr Go.BinOp.or IntKind.u32 (zpk IntKind.u32 (List.getD w (Int.toNat (IntKind.wrap IntKind.i64 (t - 15))) 0) (zr Go.BinOp.and IntKind.u64 (IntKind.wrap IntKind.u64 (IntKind.wrap IntKind.i64 (0 - 7))) 31)) (z8w IntKind.u32 (List.getD w (Int.toNat (IntKind.wrap IntKind.i64 (t - 15))) 0) (IntKind.wrap IntKind.u64 (32 - (zr Go.BinOp.and IntKind.u64 (IntKind.wrap IntKind.u64 (IntKind.wrap IntKind.i64 (0 - 7))) 31))))) (zr Go.BinOp.or IntKind.u32 (zpk IntKind.u32 (List.getD w (Int.toNat (IntKind.wrap IntKind.i64 (t - 15))) 0) (zr Go.BinOp.and IntKind.u64 (IntKind.wrap IntKind.u64 (IntKind.wrap IntKind.i64 (0 - 18))) 31)) (z8w IntKind.u32 (List.getD w (Int.toNat (IntKind.wrap IntKind.i64 (t - 15))) 0) (IntKind.wrap IntKind.u64 (32 - (zr Go.BinOp.and IntKind.u64 (IntKind.wrap IntKind.u64 (IntKind.wrap IntKind.i64 (0 - 18))) 31)))))) (z8w IntKind.u32 (List.getD w (Int.toNat (IntKind.wrap IntKind.i64 (t - 15))) 0) 3))))+(List.getD w (Int.toNat (IntKind.wrap IntKind.i64 (t - 16))) 0)))) (IntKind.wrap IntKind.i64 (t+1))) none) none) none) none) none) none) none) none) none) none) (k0 w)
def zlc (N:Nat)(x2:(List Int))(w:(List Int))(t:Int)(k0:(List Int)->Option (List Int)):Option (List Int):=iter (fun (v:((List Int)×Int)) r=>zd2 N x2 v.1 v.2 (fun w t=>(r (w,t))) k0) N (w,t)
def z1lu (N:Nat)(i:(List Int))(v:((List Int)×Int))(r:((List Int)×Int)->Option (List Int))(K:Ex->List A->Option (List Int)):Option (List Int):=zd2 N i v.1 v.2 (fun w t=>(r (w,t))) (fun a1=>(K (.exit 2) (mkS [(2,.box (.arr 64 (.int .u32))),(0,.box (.arr 64 (.int .u32)))] 82 (i,a1,()))))
def z1k1 (N:Nat):Hd (List Int):=fun st K=>(unS SQ52 79 (restr [6,3,2] 0 st)).bind fun x=>iter (fun v r=>z1lu N ((fun x=>x.1) x) v r K) N ((fun x=>(x.2.1,x.2.2.1)) x)
def t2_42 (N:Nat):Tab (List Int):=[]
theorem z1hu {N:Nat}{c:Ctx}(hb:Base Tryz.prog (z1q8 N) c):zw Tryz.prog c (zk zn7 [0,1,0,1,1,1]) (z1k1 N) :=
 z1v (s:=SQ52) (m:=79) (z1lu N) [6,3,2] N (fun x=>x.1) (fun x=>(x.2.1,x.2.2.1)) (fun i v=>(i,v.1,v.2,())) (fun _=>rfl) (zf hb N (t2_42 N) L_42 zn7 TabOk.nil z1ea _ rfl) (fun i v r K=>by kernel_rfl)
def zd4 (N:Nat)(block:(List UInt8)):Option (List Int):=zld N block (0::0::0::0::0::0::0::0::0::0::0::0::0::0::0::0::0::0::0::0::0::0::0::0::0::0::0::0::0::0::0::0::0::0::0::0::0::0::0::0::0::0::0::0::0::0::0::0::0::0::0::0::0::0::0::0::0::0::0::0::0::0::0::0::[]) (0::0::0::0::0::0::0::0::0::0::0::0::0::0::0::0::0::0::0::0::0::0::0::0::0::0::0::0::0::0::0::0::0::0::0::0::0::0::0::0::0::0::0::0::0::0::0::0::0::0::0::0::0::0::0::0::0::0::0::0::0::0::0::0::[]) 0 (fun w=>zlc N (0::0::0::0::0::0::0::0::0::0::0::0::0::0::0::0::0::0::0::0::0::0::0::0::0::0::0::0::0::0::0::0::0::0::0::0::0::0::0::0::0::0::0::0::0::0::0::0::0::0::0::0::0::0::0::0::0::0::0::0::0::0::0::0::[]) w 16 (fun w1=>some w1))
def t_42 (N:Nat):Tab (List Int):=[([0,1,0,1,1],z1kv N),([0,1,0,1,1,1],z1k1 N)]
theorem z1bm (N:Nat)(x:z1b [(0,.v .str)]):z2b (z1q8 N) N (t_42 N) L_42 Tryz.f125 (mkS [(0,.v .str)] 0 x) (z1c (.v (.arr 64 (.int .u32))) 1)=zd4 N x.1:=by kernel_rfl
def zc6 (N:Nat):List A->Res:=z11 [(0,.v .str)] (fun x=>zd4 N x.1) (z2i (.v (.arr 64 (.int .u32))) 1)
theorem zle (N:Nat):Contract Tryz.prog glob 125 (zc6 N) :=
 Contract.of (E:=z1q8 N) (H:=t_42 N) (L:=L_42) (N:=N) (body:=zn7) (K:=(z1c (.v (.arr 64 (.int .u32))) 1)) (z1p5 N) Tryz.func125 (by kernel_rfl) (by decide) (fun _ hb=>(TabOk.cons (z1io hb) (TabOk.cons (z1hu hb) TabOk.nil))) (fun x y h=>by rw[z1bm];exact h) (zm (s:=(.v (.arr 64 (.int .u32)))) (m:=1))
def z1dn:Code:=(Tryz.f126.body).getD .skip
def L_43:List (List Nat×List Nat):=[([0],[2,1,4]),([0,1],[12,9,10,11,1,5,6,7,8,4]),([0,1,1],[5,6,7,13,8,9,10,11,4]),([0,1,1,1],[13,14,5,6,7,8,9,10,11,4]),([0,1,1,1,1],[4]),([1,1,1,1,1],[4])]
def E_43 (N:Nat):Env:=z14 tys glob [(128,zfx N)] [] [] [] false [] [(108,z8 N)]
theorem z1p4 (N:Nat):EnvOk Tryz.prog (E_43 N):=ze mixed zq (FnsOk.cons (zoa N) (FnsOk.nil)) (ItsOk.cons (zb N) (ItsOk.nil))
def zlf (N:Nat)(v_:(List Int))(k:Int):Option (List Int):=cond (decide (0<(List.length v_))) (cond (decide (1<(List.length v_))) (cond (decide (2<(List.length v_))) (cond (decide (3<(List.length v_))) (cond (decide (4<(List.length v_))) (cond (decide (5<(List.length v_))) (cond (decide (6<(List.length v_))) (cond (decide (7<(List.length v_))) (some ([(IntKind.wrap IntKind.u32 ((IntKind.wrap IntKind.u32 ((IntKind.wrap IntKind.u32 ((IntKind.wrap IntKind.u32 ((List.getD v_ 7 0)+(zr Go.BinOp.xor IntKind.u32 (zr Go.BinOp.xor IntKind.u32 (zr Go.BinOp.or IntKind.u32 (zpk IntKind.u32 (List.getD v_ 4 0) (zr Go.BinOp.and IntKind.u64 (IntKind.wrap IntKind.u64 (IntKind.wrap IntKind.i64 (0 - 6))) 31)) (z8w IntKind.u32 (List.getD v_ 4 0) (IntKind.wrap IntKind.u64 (32 - (zr Go.BinOp.and IntKind.u64 (IntKind.wrap IntKind.u64 (IntKind.wrap IntKind.i64 (0 - 6))) 31))))) (zr Go.BinOp.or IntKind.u32 (zpk IntKind.u32 (List.getD v_ 4 0) (zr Go.BinOp.and IntKind.u64 (IntKind.wrap IntKind.u64 (IntKind.wrap IntKind.i64 (0 - 11))) 31)) (z8w IntKind.u32 (List.getD v_ 4 0) (IntKind.wrap IntKind.u64 (32 - (zr Go.BinOp.and IntKind.u64 (IntKind.wrap IntKind.u64 (IntKind.wrap IntKind.i64 (0 - 11))) 31)))))) (zr Go.BinOp.or IntKind.u32 (zpk IntKind.u32 (List.getD v_ 4 0) (zr Go.BinOp.and IntKind.u64 (IntKind.wrap IntKind.u64 (IntKind.wrap IntKind.i64 (0 - 25))) 31)) (z8w IntKind.u32 (List.getD v_ 4 0) (IntKind.wrap IntKind.u64 (32 - (zr Go.BinOp.and IntKind.u64 (IntKind.wrap IntKind.u64 (IntKind.wrap IntKind.i64 (0 - 25))) 31))))))))+(zr Go.BinOp.xor IntKind.u32 (zr Go.BinOp.and IntKind.u32 (List.getD v_ 4 0) (List.getD v_ 5 0)) (zr Go.BinOp.and IntKind.u32 (zr Go.BinOp.xor IntKind.u32 (if ((IntKind.signed IntKind.u32)=true) then (-1) else (IntKind.max IntKind.u32)) (List.getD v_ 4 0)) (List.getD v_ 6 0)))))+k))+(IntKind.wrap IntKind.u32 ((zr Go.BinOp.xor IntKind.u32 (zr Go.BinOp.xor IntKind.u32 (zr Go.BinOp.or IntKind.u32 (zpk IntKind.u32 (List.getD v_ 0 0) (zr Go.BinOp.and IntKind.u64 (IntKind.wrap IntKind.u64 (IntKind.wrap IntKind.i64 (0 - 2))) 31)) (z8w IntKind.u32 (List.getD v_ 0 0) (IntKind.wrap IntKind.u64 (32 - (zr Go.BinOp.and IntKind.u64 (IntKind.wrap IntKind.u64 (IntKind.wrap IntKind.i64 (0 - 2))) 31))))) (zr Go.BinOp.or IntKind.u32 (zpk IntKind.u32 (List.getD v_ 0 0) (zr Go.BinOp.and IntKind.u64 (IntKind.wrap IntKind.u64 (IntKind.wrap IntKind.i64 (0 - 13))) 31)) (z8w IntKind.u32 (List.getD v_ 0 0) (IntKind.wrap IntKind.u64 (32 - (zr Go.BinOp.and IntKind.u64 (IntKind.wrap IntKind.u64 (IntKind.wrap IntKind.i64 (0 - 13))) 31)))))) (zr Go.BinOp.or IntKind.u32 (zpk IntKind.u32 (List.getD v_ 0 0) (zr Go.BinOp.and IntKind.u64 (IntKind.wrap IntKind.u64 (IntKind.wrap IntKind.i64 (0 - 22))) 31)) (z8w IntKind.u32 (List.getD v_ 0 0) (IntKind.wrap IntKind.u64 (32 - (zr Go.BinOp.and IntKind.u64 (IntKind.wrap IntKind.u64 (IntKind.wrap IntKind.i64 (0 - 22))) 31))))))+(zr Go.BinOp.xor IntKind.u32 (zr Go.BinOp.xor IntKind.u32 (zr Go.BinOp.and IntKind.u32 (List.getD v_ 0 0) (List.getD v_ 1 0)) (zr Go.BinOp.and IntKind.u32 (List.getD v_ 0 0) (List.getD v_ 2 0))) (zr Go.BinOp.and IntKind.u32 (List.getD v_ 1 0) (List.getD v_ 2 0))))))),(List.getD v_ 0 0),(List.getD v_ 1 0),(List.getD v_ 2 0),(IntKind.wrap IntKind.u32 ((List.getD v_ 3 0)+(IntKind.wrap IntKind.u32 ((IntKind.wrap IntKind.u32 ((IntKind.wrap IntKind.u32 ((List.getD v_ 7 0)+(zr Go.BinOp.xor IntKind.u32 (zr Go.BinOp.xor IntKind.u32 (zr Go.BinOp.or IntKind.u32 (zpk IntKind.u32 (List.getD v_ 4 0) (zr Go.BinOp.and IntKind.u64 (IntKind.wrap IntKind.u64 (IntKind.wrap IntKind.i64 (0 - 6))) 31)) (z8w IntKind.u32 (List.getD v_ 4 0) (IntKind.wrap IntKind.u64 (32 - (zr Go.BinOp.and IntKind.u64 (IntKind.wrap IntKind.u64 (IntKind.wrap IntKind.i64 (0 - 6))) 31))))) (zr Go.BinOp.or IntKind.u32 (zpk IntKind.u32 (List.getD v_ 4 0) (zr Go.BinOp.and IntKind.u64 (IntKind.wrap IntKind.u64 (IntKind.wrap IntKind.i64 (0 - 11))) 31)) (z8w IntKind.u32 (List.getD v_ 4 0) (IntKind.wrap IntKind.u64 (32 - (zr Go.BinOp.and IntKind.u64 (IntKind.wrap IntKind.u64 (IntKind.wrap IntKind.i64 (0 - 11))) 31)))))) (zr Go.BinOp.or IntKind.u32 (zpk IntKind.u32 (List.getD v_ 4 0) (zr Go.BinOp.and IntKind.u64 (IntKind.wrap IntKind.u64 (IntKind.wrap IntKind.i64 (0 - 25))) 31)) (z8w IntKind.u32 (List.getD v_ 4 0) (IntKind.wrap IntKind.u64 (32 - (zr Go.BinOp.and IntKind.u64 (IntKind.wrap IntKind.u64 (IntKind.wrap IntKind.i64 (0 - 25))) 31))))))))+(zr Go.BinOp.xor IntKind.u32 (zr Go.BinOp.and IntKind.u32 (List.getD v_ 4 0) (List.getD v_ 5 0)) (zr Go.BinOp.and IntKind.u32 (zr Go.BinOp.xor IntKind.u32 (if ((IntKind.signed IntKind.u32)=true) then (-1) else (IntKind.max IntKind.u32)) (List.getD v_ 4 0)) (List.getD v_ 6 0)))))+k)))),(List.getD v_ 4 0),(List.getD v_ 5 0),(List.getD v_ 6 0)]:List Int)) none) none) none) none) none) none) none) none
def t_43 (N:Nat):Tab (List Int):=[]
theorem z1bl (N:Nat)(x:z1b SQ58):z2b (E_43 N) N (t_43 N) L_43 Tryz.f126 (mkS SQ58 0 x) (z1c (.v (.arr 8 (.int .u32))) 2)=zlf N x.1 x.2.1:=by kernel_rfl
def zh3 (N:Nat):List A->Res:=z11 SQ58 (fun x=>zlf N x.1 x.2.1) (z2i (.v (.arr 8 (.int .u32))) 2)
theorem zro (N:Nat):Contract Tryz.prog glob 126 (zh3 N) :=
 Contract.of (E:=E_43 N) (H:=t_43 N) (L:=L_43) (N:=N) (body:=z1dn) (K:=(z1c (.v (.arr 8 (.int .u32))) 2)) (z1p4 N) Tryz.func126 (by kernel_rfl) (by decide) (fun _ hb=>TabOk.nil) (fun x y h=>by rw[z1bl];exact h) (zm (s:=(.v (.arr 8 (.int .u32)))) (m:=2))
def zn6:Code:=(Tryz.f119.body).getD .skip
def L_44:List (List Nat×List Nat):=[([0],[1,2,4]),([0,0,1],[11,2,4,1]),([1,0,1],[1,2,4]),([0,0,1,0,1],[4]),([1,0,1,0,1],[4]),([0,1,1],[2,5,4]),([0,1,1,1],[6,5,2,4]),([0,0,1,1,1,1],[16,6,5,2,4]),(PQ8,[16,6,5,2,4]),([0,0,0,1,0,1,1,1,1],[17,16,6,5,2,4]),(PQ73,[16,6,5,2,4]),(PQ67,[6,2,4]),(PQ57,[6,7,5,16,2,4]),([1,0,0,1,1,0,0,1,0,1,1,1,1],[16,6,5,2,4]),(PQ68,[16,6,5,2,4]),(PQ69,[16,6,5,2,4]),([1,0,1,1,1,1],[6,2,4]),([0,0,1,1,1,1,1],[29,6,2,4]),([0,1,0,1,1,1,1,1],[29,6,2,4]),([0,0,0,1,0,1,1,1,1,1],[30,29,6,2,4]),([0,1,0,0,1,0,1,1,1,1,1],[29,6,2,4]),([1,0,1,0,0,1,0,1,1,1,1,1],[6,4]),([0,0,0,1,1,0,0,1,0,1,1,1,1,1],[8,6,2,29,4]),([1,0,0,1,1,0,0,1,0,1,1,1,1,1],[29,6,2,4]),([0,1,1,0,0,1,0,1,1,1,1,1],[29,6,2,4]),([1,1,1,0,0,1,0,1,1,1,1,1],[29,6,2,4]),([1,0,1,1,1,1,1],[6,4]),([0,1,1,1,1,1,1],[4]),([1,1,1,1,1,1,1],[4])]
def z1q7 (N:Nat):Env:=z14 tys glob [(126,zh3 N),(125,zc6 N)] [] [] [] false [] [(108,z8 N)]
theorem z1p3 (N:Nat):EnvOk Tryz.prog (z1q7 N):=ze mixed zq (FnsOk.cons (zro N) (FnsOk.cons (zle N) (FnsOk.nil))) (ItsOk.cons (zb N) (ItsOk.nil))
def zli (N:Nat)(h:(List Int))(x4:(List Int))(w:(List Int))(v_:(List Int))(x16:Int)(rec:(List Int)->Int->Option (List Int))(k0:(List Int)->Option (List Int)):Option (List Int):=cond (decide (x16<64)) (cond (inR x16 64) (cond (inR x16 64) (cond (decide ((Int.toNat x16)<(List.length w))) ((zlf N v_ (IntKind.wrap IntKind.u32 ((List.getD glob1 (Int.toNat x16) 0)+(List.getD w (Int.toNat x16) 0)))).bind fun y=>rec y (IntKind.wrap IntKind.i64 (x16+1))) none) none) none) (k0 v_)
def zu3 (N:Nat)(h:(List Int))(x4:(List Int))(w:(List Int))(v_:(List Int))(x16:Int)(k0:(List Int)->Option (List Int)):Option (List Int):=iter (fun (v:((List Int)×Int)) r=>zli N h x4 w v.1 v.2 (fun v_ x16=>(r (v_,x16))) k0) N (v_,x16)
def z1mn (N:Nat)(i:((List Int)×(List Int)×(List Int)))(v:((List Int)×Int))(r:((List Int)×Int)->Option (List Int))(K:Ex->List A->Option (List Int)):Option (List Int):=zli N i.1 i.2.1 i.2.2 v.1 v.2 (fun v_ x16=>(r (v_,x16))) (fun a2=>(K (.exit 0) (mkS [(2,.box (.arr 8 (.int .u32))),(1,.box (.arr 8 (.int .u32))),(1,.box (.arr 8 (.int .u32)))] 35 (i.1,i.2.1,a2,()))))
def z1ku (N:Nat):Hd (List Int):=fun st K=>(unS SQ13 25 (restr [16,6,5,2,4] 0 st)).bind fun x=>iter (fun v r=>z1mn N ((fun x=>(x.1,x.2.1,x.2.2.1)) x) v r K) N ((fun x=>(x.2.2.2.1,x.2.2.2.2.1)) x)
def t1_44 (N:Nat):Tab (List Int):=[]
theorem z1in {N:Nat}{c:Ctx}(hb:Base Tryz.prog (z1q7 N) c):zw Tryz.prog c (zk zn6 PQ8) (z1ku N) :=
 z1v (s:=SQ13) (m:=25) (z1mn N) [16,6,5,2,4] N (fun x=>(x.1,x.2.1,x.2.2.1)) (fun x=>(x.2.2.2.1,x.2.2.2.2.1)) (fun i v=>(i.1,i.2.1,i.2.2,v.1,v.2,())) (fun _=>rfl) (zf hb N (t1_44 N) L_44 zn6 TabOk.nil z1eb _ rfl) (fun i v r K=>by kernel_rfl)
def zlh (N:Nat)(h:(List Int))(x4:(List Int))(v_:(List Int))(x29:Int)(rec:(List Int)->Int->Option (List Int))(k0:(List Int)->Option (List Int)):Option (List Int):=cond (decide (x29<8)) (cond (inR x29 8) (cond (decide ((Int.toNat x29)<(List.length v_))) (cond (inR x29 8) (cond (decide ((Int.toNat x29)<(List.length h))) (cond (inR x29 8) (cond (decide ((Int.toNat x29)<(List.length v_))) (rec (List.set v_ (Int.toNat x29) (IntKind.wrap IntKind.u32 ((List.getD v_ (Int.toNat x29) 0)+(List.getD h (Int.toNat x29) 0)))) (IntKind.wrap IntKind.i64 (x29+1))) none) none) none) none) none) none) (k0 v_)
def zu2 (N:Nat)(h:(List Int))(x4:(List Int))(v_:(List Int))(x29:Int)(k0:(List Int)->Option (List Int)):Option (List Int):=iter (fun (v:((List Int)×Int)) r=>zlh N h x4 v.1 v.2 (fun v_ x29=>(r (v_,x29))) k0) N (v_,x29)
def z1lt (N:Nat)(i:((List Int)×(List Int)))(v:((List Int)×Int))(r:((List Int)×Int)->Option (List Int))(K:Ex->List A->Option (List Int)):Option (List Int):=zlh N i.1 i.2 v.1 v.2 (fun v_ x29=>(r (v_,x29))) (fun a1=>(K (.exit 2) (mkS [(4,.box (.arr 8 (.int .u32))),(1,.box (.arr 8 (.int .u32)))] 35 (i.2,a1,()))))
def z1k0 (N:Nat):Hd (List Int):=fun st K=>(unS SQ29 12 (restr [29,6,2,4] 0 st)).bind fun x=>iter (fun v r=>z1lt N ((fun x=>(x.1,x.2.1)) x) v r K) N ((fun x=>(x.2.2.1,x.2.2.2.1)) x)
def t2_44 (N:Nat):Tab (List Int):=[]
theorem z1ht {N:Nat}{c:Ctx}(hb:Base Tryz.prog (z1q7 N) c):zw Tryz.prog c (zk zn6 [0,1,0,1,1,1,1,1]) (z1k0 N) :=
 z1v (s:=SQ29) (m:=12) (z1lt N) [29,6,2,4] N (fun x=>(x.1,x.2.1)) (fun x=>(x.2.2.1,x.2.2.2.1)) (fun i v=>(i.1,i.2,v.1,v.2,())) (fun _=>rfl) (zf hb N (t2_44 N) L_44 zn6 TabOk.nil [0,0,1,0,1,1,1,1,1] _ rfl) (fun i v r K=>by kernel_rfl)
def zaz (N:Nat)(h:(List Int))(block:(List UInt8)):Option (List Int):=cond ((List.length block:Int) != 64) (some h) ((zd4 N block).bind fun y=>zu3 N h ([0,0,0,0,0,0,0,0]:List Int) y h 0 (fun v_=>zu2 N h ([0,0,0,0,0,0,0,0]:List Int) v_ 0 (fun v_1=>some v_1)))
def t_44 (N:Nat):Tab (List Int):=[(PQ8,z1ku N),([0,1,0,1,1,1,1,1],z1k0 N)]
theorem z1bk (N:Nat)(x:z1b z1fg):z2b (z1q7 N) N (t_44 N) L_44 Tryz.f119 (mkS z1fg 0 x) (z1c (.v (.arr 8 (.int .u32))) 2)=zaz N x.1 x.2.1:=by kernel_rfl
def zji (N:Nat):List A->Res:=z11 z1fg (fun x=>zaz N x.1 x.2.1) (z2i (.v (.arr 8 (.int .u32))) 2)
theorem zu4 (N:Nat):Contract Tryz.prog glob 119 (zji N) :=
 Contract.of (E:=z1q7 N) (H:=t_44 N) (L:=L_44) (N:=N) (body:=zn6) (K:=(z1c (.v (.arr 8 (.int .u32))) 2)) (z1p3 N) Tryz.func119 (by kernel_rfl) (by decide) (fun _ hb=>(TabOk.cons (z1in hb) (TabOk.cons (z1ht hb) TabOk.nil))) (fun x y h=>by rw[z1bk];exact h) (zm (s:=(.v (.arr 8 (.int .u32)))) (m:=2))
def zvq:Code:=(Tryz.f112.body).getD .skip
def L_45:List (List Nat×List Nat):=[([0],[1,2,4]),([0,0,1],[5,1,2,4]),([0,1,0,1],[5,1,2,4]),([0,0,0,0,1,0,1],[9,2,1,5,4]),([1,0,0,0,1,0,1],[2,1,5,4]),([1,1,0,0,0,1,0,1],[2,4]),([0,0,1,0,0,1,0,1],[5,1,2,4]),([0,1,0,0,1,0,1],[5,1,2,4]),([1,1,0,0,1,0,1],[5,1,2,4]),([1,0,1],[2,4]),([0,1,1],[4]),([1,1,1],[4])]
def E_45 (N:Nat):Env:=z14 tys glob [(119,zji N)] [] [] [] false [] [(108,z8 N)]
theorem z1p2 (N:Nat):EnvOk Tryz.prog (E_45 N):=ze mixed zq (FnsOk.cons (zu4 N) (FnsOk.nil)) (ItsOk.cons (zb N) (ItsOk.nil))
def zd1 (N:Nat)(s:(List UInt8))(x4:(List Int))(h:(List Int))(i:Int)(rec:(List Int)->Int->Option (List Int))(k0:(List Int)->Option (List Int)):Option (List Int):=cond (decide (i<(List.length s:Int))) (cond (decide ((0<=(IntKind.wrap IntKind.i64 (i+64)))/\((IntKind.wrap IntKind.i64 (i+64))<=(List.length s:Int)))) (cond (decide ((0<=i)/\(i<=(IntKind.wrap IntKind.i64 (i+64))))) ((zaz N h (cut s (Int.toNat i) (Int.toNat (IntKind.wrap IntKind.i64 (i+64))))).bind fun y=>rec y (IntKind.wrap IntKind.i64 (i+64))) none) none) (k0 h)
def zjh (N:Nat)(s:(List UInt8))(h:(List Int))(x4:(List Int))(i:Int)(k0:(List Int)->Option (List Int)):Option (List Int):=iter (fun (v:((List Int)×Int)) r=>zd1 N s x4 v.1 v.2 (fun h i=>(r (h,i))) k0) N (h,i)
def z1mm (N:Nat)(i:((List UInt8)×(List Int)))(v:((List Int)×Int))(r:((List Int)×Int)->Option (List Int))(K:Ex->List A->Option (List Int)):Option (List Int):=zd1 N i.1 i.2 v.1 v.2 (fun h i=>(r (h,i))) (fun a0=>(K (.exit 0) (mkS [(2,.box (.arr 8 (.int .u32))),(1,.box (.arr 8 (.int .u32)))] 15 (a0,i.2,()))))
def z1kt (N:Nat):Hd (List Int):=fun st K=>(unS SQ44 14 (restr [5,1,2,4] 0 st)).bind fun x=>iter (fun v r=>z1mm N ((fun x=>(x.1,x.2.2.1)) x) v r K) N ((fun x=>(x.2.1,x.2.2.2.1)) x)
def t1_45 (N:Nat):Tab (List Int):=[]
theorem z1im {N:Nat}{c:Ctx}(hb:Base Tryz.prog (E_45 N) c):zw Tryz.prog c (zk zvq [0,1,0,1]) (z1kt N) :=
 z1v (s:=SQ44) (m:=14) (z1mm N) [5,1,2,4] N (fun x=>(x.1,x.2.2.1)) (fun x=>(x.2.1,x.2.2.2.1)) (fun i v=>(i.1,v.1,i.2,v.2,())) (fun _=>rfl) (zf hb N (t1_45 N) L_45 zvq TabOk.nil [0,0,1,0,1] _ rfl) (fun i v r K=>by kernel_rfl)
def z6l (N:Nat)(h:(List Int))(s:(List UInt8)):Option (List Int):=zjh N s h ([0,0,0,0,0,0,0,0]:List Int) 0 (fun h1=>some h1)
def t_45 (N:Nat):Tab (List Int):=[([0,1,0,1],z1kt N)]
theorem z1bj (N:Nat)(x:z1b z1fg):z2b (E_45 N) N (t_45 N) L_45 Tryz.f112 (mkS z1fg 0 x) (z1c (.v (.arr 8 (.int .u32))) 2)=z6l N x.1 x.2.1:=by kernel_rfl
def z3y (N:Nat):List A->Res:=z11 z1fg (fun x=>z6l N x.1 x.2.1) (z2i (.v (.arr 8 (.int .u32))) 2)
theorem z6k (N:Nat):Contract Tryz.prog glob 112 (z3y N) :=
 Contract.of (E:=E_45 N) (H:=t_45 N) (L:=L_45) (N:=N) (body:=zvq) (K:=(z1c (.v (.arr 8 (.int .u32))) 2)) (z1p2 N) Tryz.func112 (by kernel_rfl) (by decide) (fun _ hb=>(TabOk.cons (z1im hb) TabOk.nil)) (fun x y h=>by rw[z1bj];exact h) (zm (s:=(.v (.arr 8 (.int .u32)))) (m:=2))
def zvp:Code:=(Tryz.f105.body).getD .skip
def L_46:List (List Nat×List Nat):=[([0,0],[14,0,1]),([1,0],[0,1]),([0,1,0],[0]),([0,1],[0,1]),([0,1,1],[4,0]),([0,1,1,1],[0,4,5]),([0,1,1,1,1],[0,4,5]),([1,1,1,1,1],[0])]
def E_46 (N:Nat):Env:=z14 tys glob [(112,z3y N)] [] [] [0] false [] [(108,z8 N)]
theorem z1p1 (N:Nat):EnvOk Tryz.prog (E_46 N):=ze mixed zq (FnsOk.cons (z6k N) (FnsOk.nil)) (ItsOk.cons (zb N) (ItsOk.nil))
def z8a (N:Nat)(h:DT9)(s:(List UInt8))(k0:Option ((Unit)×(DT9×Unit)))(k1:Option ((Unit)×(DT9×Unit))):Option ((Unit)×(DT9×Unit)):=cond (!h.1) k0 k1
def z1ml (N:Nat)(x:z1b z1e8)(K:Ex->List A->Option ((Unit)×(DT9×Unit))):Option ((Unit)×(DT9×Unit)):=z8a N x.1 x.2.1 (K .ret (mkS [(0,.box TT5)] 52 (x.1,()))) (K .normal (mkS z1e8 51 (x.1,x.2.1,())))
def z1ks (N:Nat):Hd ((Unit)×(DT9×Unit)):=fun st K=>(unS z1e8 51 (restr [0,1] 0 st)).bind fun x=>z1ml N x K
def t1_46 (N:Nat):Tab ((Unit)×(DT9×Unit)):=[]
theorem z1il {N:Nat}{c:Ctx}(hb:Base Tryz.prog (E_46 N) c):zw Tryz.prog c (zk zvp [0]) (z1ks N) :=
 z13 (s:=z1e8) (m:=51) (g:=z1ml N) [0,1] (zf hb N (t1_46 N) L_46 zvp TabOk.nil [0] _ rfl) (fun x K=>by kernel_rfl)
def z3o (N:Nat)(h:DT9)(s:(List UInt8)):Option ((Unit)×(DT9×Unit)):=z8a N h s (some ((),(h,()))) (cond (decide (((List.length h.2.2.1)+(List.length s))<=9223372036854775807)) (cond (decide ((0<=(IntKind.wrap IntKind.i64 ((List.length (h.2.2.1++s):Int) - (Int.tmod (List.length (h.2.2.1++s):Int) 64))))/\((IntKind.wrap IntKind.i64 ((List.length (h.2.2.1++s):Int) - (Int.tmod (List.length (h.2.2.1++s):Int) 64)))<=(List.length (h.2.2.1++s):Int)))) ((z6l N h.2.1 (cut (h.2.2.1++s) 0 (Int.toNat (IntKind.wrap IntKind.i64 ((List.length (h.2.2.1++s):Int) - (Int.tmod (List.length (h.2.2.1++s):Int) 64)))))).bind fun y=>cond (decide ((0<=(IntKind.wrap IntKind.i64 ((List.length (h.2.2.1++s):Int) - (Int.tmod (List.length (h.2.2.1++s):Int) 64))))/\((IntKind.wrap IntKind.i64 ((List.length (h.2.2.1++s):Int) - (Int.tmod (List.length (h.2.2.1++s):Int) 64)))<=(List.length (h.2.2.1++s):Int)))) (some ((),((h.1,(y,((cut (h.2.2.1++s) (Int.toNat (IntKind.wrap IntKind.i64 ((List.length (h.2.2.1++s):Int) - (Int.tmod (List.length (h.2.2.1++s):Int) 64)))) (List.length (h.2.2.1++s))),((IntKind.wrap IntKind.i64 (h.2.2.2.1+(List.length s:Int))),h.2.2.2.2)))),()))) none) none) none)
def t_46 (N:Nat):Tab ((Unit)×(DT9×Unit)):=[([0],z1ks N)]
theorem z1bi (N:Nat)(x:z1b z1e8):z2b (E_46 N) N (t_46 N) L_46 Tryz.f105 (mkS z1e8 0 x) (z7l (.tup []) [(0,.box TT5)] 1)=z3o N x.1 x.2.1:=by kernel_rfl
def zcb (N:Nat):List A->Res:=z11 z1e8 (fun x=>z3o N x.1 x.2.1) (zgd (.tup []) [(0,.box TT5)] 1)
theorem zlk (N:Nat):Contract Tryz.prog glob 105 (zcb N) :=
 Contract.of (E:=E_46 N) (H:=t_46 N) (L:=L_46) (N:=N) (body:=zvp) (K:=(z7l (.tup []) [(0,.box TT5)] 1)) (z1p1 N) Tryz.func105 (by kernel_rfl) (by decide) (fun _ hb=>(TabOk.cons (z1il hb) TabOk.nil)) (fun x y h=>by rw[z1bi];exact h) (z5l (s:=(.tup [])) (os:=[(0,.box TT5)]) (m:=1))
def zvo:Code:=(Tryz.f105.body).getD .skip
def L_47:List (List Nat×List Nat):=[([0,0],[14,0,1]),([1,0],[0,1]),([0,1,0],[]),([0,1],[0,1]),([0,1,1],[4,0]),([0,1,1,1],[0,4,5]),([0,1,1,1,1],[0,4,5]),([1,1,1,1,1],[])]
def E_47 (N:Nat):Env:=z14 tys glob [(112,z3y N)] [] [] [] false [] [(108,z8 N)]
theorem z1p0 (N:Nat):EnvOk Tryz.prog (E_47 N):=ze mixed zq (FnsOk.cons (z6k N) (FnsOk.nil)) (ItsOk.cons (zb N) (ItsOk.nil))
def z8b (N:Nat)(s:(List UInt8))(k0:Option Unit):Option Unit:=k0
def z1mk (N:Nat)(x:z1b [(0,.nilp),(0,.v .str)])(K:Ex->List A->Option Unit):Option Unit:=z8b N x.2.1 (K .ret (mkS [] 53 ()))
def z1kr (N:Nat):Hd (Unit):=fun st K=>(unS [(0,.nilp),(0,.v .str)] 51 (restr [0,1] 0 st)).bind fun x=>z1mk N x K
def t1_47 (N:Nat):Tab (Unit):=[]
theorem z1ik {N:Nat}{c:Ctx}(hb:Base Tryz.prog (E_47 N) c):zw Tryz.prog c (zk zvo [0]) (z1kr N) :=
 z13 (s:=[(0,.nilp),(0,.v .str)]) (m:=51) (g:=z1mk N) [0,1] (zf hb N (t1_47 N) L_47 zvo TabOk.nil [0] _ rfl) (fun x K=>by kernel_rfl)
def z6z (N:Nat)(s:(List UInt8)):Option Unit:=z8b N s (some ())
def t_47 (N:Nat):Tab (Unit):=[([0],z1kr N)]
theorem z1bh (N:Nat)(x:z1b [(0,.nilp),(0,.v .str)]):z2b (E_47 N) N (t_47 N) L_47 Tryz.f105 (mkS [(0,.nilp),(0,.v .str)] 0 x) (z1c (.tup []) 2)=z6z N x.2.1:=by kernel_rfl
def zeu (N:Nat):List A->Res:=z11 [(0,.nilp),(0,.v .str)] (fun x=>z6z N x.2.1) (z2i (.tup []) 2)
theorem zg2 (N:Nat):Contract Tryz.prog glob 105 (zeu N) :=
 Contract.of (E:=E_47 N) (H:=t_47 N) (L:=L_47) (N:=N) (body:=zvo) (K:=(z1c (.tup []) 2)) (z1p0 N) Tryz.func105 (by kernel_rfl) (by decide) (fun _ hb=>(TabOk.cons (z1ik hb) TabOk.nil)) (fun x y h=>by rw[z1bh];exact h) (zm (s:=(.tup [])) (m:=2))
def z4g (N:Nat):List A->Res:=zs4 [(0,.nilp),(0,.v .str)] (fun x=>z6z N x.2.1) (z2i (.tup []) 2) (zcb N)
theorem z5t (N:Nat):Contract Tryz.prog glob 105 (z4g N):=Contract.alt (zg2 N) (zlk N)
def z1dm:Code:=(Tryz.f95.body).getD .skip
def L_48:List (List Nat×List Nat):=[([0],[1,0]),([0,1],[1,0]),([0,0,1,1],[10,0,1]),([1,0,1,1],[0,1]),([0,0,1,0,1,1],[4]),([1,0,1,0,1,1],[4]),([0,1,1,1],[4]),([1,1,1,1],[4])]
def E_48 (N:Nat):Env:=z14 tys glob [] [] [] [] false [] [(108,z8 N)]
theorem z1oz (N:Nat):EnvOk Tryz.prog (E_48 N):=ze mixed zq (FnsOk.nil) (ItsOk.cons (zb N) (ItsOk.nil))
def zab (N:Nat)(s:(List UInt8))(n:Int):Option (List UInt8):=cond (decide ((if ((65536:Int)<n) then (65536:Int) else n)<=(List.length s:Int))) (some s) (cond (decide (((0:Int)<=(IntKind.wrap IntKind.i64 ((if ((65536:Int)<n) then (65536:Int) else n) - (List.length s:Int))))/\(((IntKind.wrap IntKind.i64 ((if ((65536:Int)<n) then (65536:Int) else n) - (List.length s:Int)))<=(IntKind.wrap IntKind.i64 ((if ((65536:Int)<n) then (65536:Int) else n) - (List.length s:Int))))/\((((IntKind.wrap IntKind.i64 ((if ((65536:Int)<n) then (65536:Int) else n) - (List.length s:Int)))*(1:Int))<=(281474976710656:Int))/\((IntKind.wrap IntKind.i64 ((if ((65536:Int)<n) then (65536:Int) else n) - (List.length s:Int)))<=(9223372036854775807:Int)))))) (cond (decide (((List.length s)+(List.length (z2e (List.replicate (Int.toNat (IntKind.wrap IntKind.i64 ((if ((65536:Int)<n) then (65536:Int) else n) - (List.length s:Int)))) (0:Int)))))<=9223372036854775807)) (some (s++(z2e (List.replicate (Int.toNat (IntKind.wrap IntKind.i64 ((if ((65536:Int)<n) then (65536:Int) else n) - (List.length s:Int)))) (0:Int))))) none) none)
def t_48 (N:Nat):Tab (List UInt8):=[]
theorem z1bg (N:Nat)(x:z1b z1fb):z2b (E_48 N) N (t_48 N) L_48 Tryz.f95 (mkS z1fb 0 x) (z1c (.v .str) 2)=zab N x.1 x.2.1:=by kernel_rfl
def zba (N:Nat):List A->Res:=z11 z1fb (fun x=>zab N x.1 x.2.1) (z2i (.v .str) 2)
theorem zjt (N:Nat):Contract Tryz.prog glob 95 (zba N) :=
 Contract.of (E:=E_48 N) (H:=t_48 N) (L:=L_48) (N:=N) (body:=z1dm) (K:=(z1c (.v .str) 2)) (z1oz N) Tryz.func95 (by kernel_rfl) (by decide) (fun _ hb=>TabOk.nil) (fun x y h=>by rw[z1bg];exact h) (zm (s:=(.v .str)) (m:=2))
def zvn:Code:=(Tryz.f120.body).getD .skip
def L_49:List (List Nat×List Nat):=[([0],[1,0]),([0,1],[1,5,0]),([0,0,1,1],[10,9,5,0,1]),([0,1,0,1,1],[10,9,5,0,1]),(z13i,[11,10,5,0,1,9]),(zzg,[10,5,0,1,9]),(z13j,[5]),(z16s,[5,6,0,1,10,9]),(z1nj,[10,9,5,0,1]),(z16r,[10,9,5,0,1]),(z16q,[10,9,5,0,1]),([1,0,1,1],[5]),([0,1,1,1],[4]),([1,1,1,1],[4])]
def E_49 (N:Nat):Env:=z14 tys glob [] [(5,(.int .u8))] [] [] false [] [(108,z8 N)]
theorem z1oy (N:Nat):EnvOk Tryz.prog (E_49 N):=ze mixed zq (FnsOk.nil) (ItsOk.cons (zb N) (ItsOk.nil))
def zc7 (N:Nat)(n:Int)(size:Int)(x9:Int)(out:(List Int))(x10:Int)(rec:(List Int)->Int->Option (List UInt8))(k0:(List Int)->Option (List UInt8)):Option (List UInt8):=cond (decide (x10<x9)) (cond (decide (0<=(IntKind.wrap IntKind.i64 (8*(IntKind.wrap IntKind.i64 ((IntKind.wrap IntKind.i64 (size - 1)) - x10)))))) (cond (inR x10 (List.length out)) (cond (decide ((Int.toNat x10)<(List.length out))) (rec (List.set out (Int.toNat x10) (IntKind.wrap IntKind.u8 (z8w IntKind.u64 n (IntKind.wrap IntKind.i64 (8*(IntKind.wrap IntKind.i64 ((IntKind.wrap IntKind.i64 (size - 1)) - x10))))))) (IntKind.wrap IntKind.i64 (x10+1))) none) none) none) (k0 out)
def zkh (N:Nat)(n:Int)(size:Int)(out:(List Int))(x9:Int)(x10:Int)(k0:(List Int)->Option (List UInt8)):Option (List UInt8):=iter (fun (v:((List Int)×Int)) r=>zc7 N n size x9 v.1 v.2 (fun out x10=>(r (out,x10))) k0) N (out,x10)
def z1mj (N:Nat)(i:(Int×Int×Int))(v:((List Int)×Int))(r:((List Int)×Int)->Option (List UInt8))(K:Ex->List A->Option (List UInt8)):Option (List UInt8):=zc7 N i.1 i.2.1 i.2.2 v.1 v.2 (fun out x10=>(r (out,x10))) (fun a0=>(K (.exit 0) (mkS [(5,.row (.int .u8))] 21 (a0,()))))
def z1kq (N:Nat):Hd (List UInt8):=fun st K=>(unS SQ38 16 (restr [10,9,5,0,1] 0 st)).bind fun x=>iter (fun v r=>z1mj N ((fun x=>(x.1,x.2.1,x.2.2.2.1)) x) v r K) N ((fun x=>(x.2.2.1,x.2.2.2.2.1)) x)
def t1_49 (N:Nat):Tab (List UInt8):=[]
theorem z1ij {N:Nat}{c:Ctx}(hb:Base Tryz.prog (E_49 N) c):zw Tryz.prog c (zk zvn [0,1,0,1,1]) (z1kq N) :=
 z1v (s:=SQ38) (m:=16) (z1mj N) [10,9,5,0,1] N (fun x=>(x.1,x.2.1,x.2.2.2.1)) (fun x=>(x.2.2.1,x.2.2.2.2.1)) (fun i v=>(i.1,i.2.1,v.1,i.2.2,v.2,())) (fun _=>rfl) (zf hb N (t1_49 N) L_49 zvn TabOk.nil [0,0,1,0,1,1] _ rfl) (fun i v r K=>by kernel_rfl)
def z3z (N:Nat)(n:Int)(size:Int):Option (List UInt8):=cond (decide (((0:Int)<=size)/\((size<=size)/\(((size*(1:Int))<=(281474976710656:Int))/\(size<=(9223372036854775807:Int)))))) (zkh N n size (List.replicate (Int.toNat size) (0:Int)) size (0:Int) (fun out=>some (z2e out))) none
def t_49 (N:Nat):Tab (List UInt8):=[([0,1,0,1,1],z1kq N)]
theorem z1bf (N:Nat)(x:z1b [(0,.v (.int .u64)),(0,.v (.int .i64))]):z2b (E_49 N) N (t_49 N) L_49 Tryz.f120 (mkS [(0,.v (.int .u64)),(0,.v (.int .i64))] 0 x) (z1c (.v .str) 2)=z3z N x.1 x.2.1:=by kernel_rfl
def z5x (N:Nat):List A->Res:=z11 [(0,.v (.int .u64)),(0,.v (.int .i64))] (fun x=>z3z N x.1 x.2.1) (z2i (.v .str) 2)
theorem zc8 (N:Nat):Contract Tryz.prog glob 120 (z5x N) :=
 Contract.of (E:=E_49 N) (H:=t_49 N) (L:=L_49) (N:=N) (body:=zvn) (K:=(z1c (.v .str) 2)) (z1oy N) Tryz.func120 (by kernel_rfl) (by decide) (fun _ hb=>(TabOk.cons (z1ij hb) TabOk.nil)) (fun x y h=>by rw[z1bf];exact h) (zm (s:=(.v .str)) (m:=2))
def z1dl:Code:=(Tryz.f114.body).getD .skip
def L_50:List (List Nat×List Nat):=[([0],[0]),([0,1],[3,0]),([0,1,1],[2]),([1,1,1],[2])]
def E_50 (N:Nat):Env:=z14 tys glob [(120,z5x N),(95,zba N)] [] [] [] false [] [(108,z8 N)]
theorem z1ox (N:Nat):EnvOk Tryz.prog (E_50 N):=ze mixed zq (FnsOk.cons (zc8 N) (FnsOk.cons (zjt N) (FnsOk.nil))) (ItsOk.cons (zb N) (ItsOk.nil))
def zax (N:Nat)(n:Int):Option (List UInt8):=(zab N ([(128:UInt8)]:List UInt8) (IntKind.wrap IntKind.i64 (1+(Int.tmod (IntKind.wrap IntKind.i64 (119 - (Int.tmod n 64))) 64)))).bind fun y=>(z3z N (IntKind.wrap IntKind.u64 (8*(IntKind.wrap IntKind.u64 n))) 8).bind fun y1=>cond (decide (((List.length y)+(List.length y1))<=9223372036854775807)) (some (y++y1)) none
def t_50 (N:Nat):Tab (List UInt8):=[]
theorem z1be (N:Nat)(x:z1b [(0,.v (.int .i64))]):z2b (E_50 N) N (t_50 N) L_50 Tryz.f114 (mkS [(0,.v (.int .i64))] 0 x) (z1c (.v .str) 1)=zax N x.1:=by kernel_rfl
def z8x (N:Nat):List A->Res:=z11 [(0,.v (.int .i64))] (fun x=>zax N x.1) (z2i (.v .str) 1)
theorem zfw (N:Nat):Contract Tryz.prog glob 114 (z8x N) :=
 Contract.of (E:=E_50 N) (H:=t_50 N) (L:=L_50) (N:=N) (body:=z1dl) (K:=(z1c (.v .str) 1)) (z1ox N) Tryz.func114 (by kernel_rfl) (by decide) (fun _ hb=>TabOk.nil) (fun x y h=>by rw[z1be];exact h) (zm (s:=(.v .str)) (m:=1))
def zvm:Code:=(Tryz.f113.body).getD .skip
def L_51:List (List Nat×List Nat):=[([0],[1]),([0,1],[1,3]),([0,0,1,1],[7,6,3]),([0,1,0,1,1],[7,6,3]),(z13i,[8,6,7,3]),(zzg,[6,7,3]),(z13j,[3]),(z16s,[3,5,7,6]),(z1nj,[7,6,3]),(z16r,[7,6,3]),(z16q,[7,6,3]),([1,0,1,1],[3]),([0,1,1,1],[2]),([1,1,1,1],[2])]
def E_51 (N:Nat):Env:=z14 tys glob [(120,z5x N)] [] [] [] false [] [(108,z8 N)]
theorem z1ow (N:Nat):EnvOk Tryz.prog (E_51 N):=ze mixed zq (FnsOk.cons (zc8 N) (FnsOk.nil)) (ItsOk.cons (zb N) (ItsOk.nil))
def zlg (N:Nat)(x6:(List Int))(out:(List UInt8))(x7:Int)(rec:(List UInt8)->Int->Option (List UInt8))(k0:(List UInt8)->Option (List UInt8)):Option (List UInt8):=cond (decide (x7<8)) (cond (inR x7 8) ((z3z N (IntKind.wrap IntKind.u64 (List.getD x6 (Int.toNat x7) 0)) 4).bind fun y=>cond (decide (((List.length out)+(List.length y))<=9223372036854775807)) (rec (out++y) (IntKind.wrap IntKind.i64 (x7+1))) none) none) (k0 out)
def zu1 (N:Nat)(out:(List UInt8))(x6:(List Int))(x7:Int)(k0:(List UInt8)->Option (List UInt8)):Option (List UInt8):=iter (fun (v:((List UInt8)×Int)) r=>zlg N x6 v.1 v.2 (fun out x7=>(r (out,x7))) k0) N (out,x7)
def z1mi (N:Nat)(i:(List Int))(v:((List UInt8)×Int))(r:((List UInt8)×Int)->Option (List UInt8))(K:Ex->List A->Option (List UInt8)):Option (List UInt8):=zlg N i v.1 v.2 (fun out x7=>(r (out,x7))) (fun a0=>(K (.exit 0) (mkS [(3,.v .str)] 13 (a0,()))))
def z1kp (N:Nat):Hd (List UInt8):=fun st K=>(unS [(3,.v .str),(2,.v (.arr 8 (.int .u32))),(0,.v (.int .i64))] 9 (restr [7,6,3] 0 st)).bind fun x=>iter (fun v r=>z1mi N ((fun x=>x.2.1) x) v r K) N ((fun x=>(x.1,x.2.2.1)) x)
def t1_51 (N:Nat):Tab (List UInt8):=[]
theorem z1ii {N:Nat}{c:Ctx}(hb:Base Tryz.prog (E_51 N) c):zw Tryz.prog c (zk zvm [0,1,0,1,1]) (z1kp N) :=
 z1v (s:=[(3,.v .str),(2,.v (.arr 8 (.int .u32))),(0,.v (.int .i64))]) (m:=9) (z1mi N) [7,6,3] N (fun x=>x.2.1) (fun x=>(x.1,x.2.2.1)) (fun i v=>(v.1,i,v.2,())) (fun _=>rfl) (zf hb N (t1_51 N) L_51 zvm TabOk.nil [0,0,1,0,1,1] _ rfl) (fun i v r K=>by kernel_rfl)
def z7j (N:Nat)(h:(List Int)):Option (List UInt8):=zu1 N [] h 0 (fun out=>some out)
def t_51 (N:Nat):Tab (List UInt8):=[([0,1,0,1,1],z1kp N)]
theorem z1bd (N:Nat)(x:z1b [(0,.v (.arr 8 (.int .u32)))]):z2b (E_51 N) N (t_51 N) L_51 Tryz.f113 (mkS [(0,.v (.arr 8 (.int .u32)))] 0 x) (z1c (.v .str) 1)=z7j N x.1:=by kernel_rfl
def z8y (N:Nat):List A->Res:=z11 [(0,.v (.arr 8 (.int .u32)))] (fun x=>z7j N x.1) (z2i (.v .str) 1)
theorem zfy (N:Nat):Contract Tryz.prog glob 113 (z8y N) :=
 Contract.of (E:=E_51 N) (H:=t_51 N) (L:=L_51) (N:=N) (body:=zvm) (K:=(z1c (.v .str) 1)) (z1ow N) Tryz.func113 (by kernel_rfl) (by decide) (fun _ hb=>(TabOk.cons (z1ii hb) TabOk.nil)) (fun x y h=>by rw[z1bd];exact h) (zm (s:=(.v .str)) (m:=1))
def zn5:Code:=(Tryz.f106.body).getD .skip
def L_52:List (List Nat×List Nat):=[([0],[0]),([0,0,1],[11,0]),([1,0,1],[0]),([0,0,1,0,1],[2,0]),([1,0,1,0,1],[2,0]),([0,1,1],[2,0]),([1,1,1],[2,0])]
def z1q6 (N:Nat):Env:=z14 tys glob [(113,z8y N),(114,z8x N),(112,z3y N)] [] [] [0] false [] [(108,z8 N)]
theorem z1ov (N:Nat):EnvOk Tryz.prog (z1q6 N):=ze mixed zq (FnsOk.cons (zfy N) (FnsOk.cons (zfw N) (FnsOk.cons (z6k N) (FnsOk.nil)))) (ItsOk.cons (zb N) (ItsOk.nil))
def z6x (N:Nat)(h:DT9)(k0:Bool->Option zid):Option zid:=k0 (!h.1)
def z1ls (N:Nat)(x:z1b [(0,.box TT5)])(K:Ex->List A->Option zid):Option zid:=z6x N x.1 (fun a1=>(K .normal (mkS [(0,.box TT5),(10,.v .bool)] 17 (x.1,a1,()))))
def z1jz (N:Nat):Hd zid:=fun st K=>(unS [(0,.box TT5)] 28 (restr [0] 0 st)).bind fun x=>z1ls N x K
def t2_52 (N:Nat):Tab zid:=[]
theorem z1hs {N:Nat}{c:Ctx}(hb:Base Tryz.prog (z1q6 N) c):zw Tryz.prog c (zk zn5 [0,0,1]) (z1jz N) :=
 z13 (s:=[(0,.box TT5)]) (m:=28) (g:=z1ls N) [0] (zf hb N (t2_52 N) L_52 zn5 TabOk.nil [0,0,1] _ rfl) (fun x K=>by kernel_rfl)
def z6y (N:Nat)(h:DT9)(k0:Option zid):Option zid:=z6x N h (fun x11=>cond x11 none k0)
def z1mh (N:Nat)(x:z1b [(0,.box TT5)])(K:Ex->List A->Option zid):Option zid:=z6y N x.1 (K .normal (mkS [(0,.box TT5)] 28 (x.1,())))
def z1ko (N:Nat):Hd zid:=fun st K=>(unS [(0,.box TT5)] 28 (restr [0] 0 st)).bind fun x=>z1mh N x K
def t1_52 (N:Nat):Tab zid:=[([0,0,1],z1jz N)]
theorem z1ih {N:Nat}{c:Ctx}(hb:Base Tryz.prog (z1q6 N) c):zw Tryz.prog c (zk zn5 [0,1]) (z1ko N) :=
 z13 (s:=[(0,.box TT5)]) (m:=28) (g:=z1mh N) [0] (zf hb N (t1_52 N) L_52 zn5 (TabOk.cons (z1hs hb) TabOk.nil) [0,1] _ rfl) (fun x K=>by kernel_rfl)
def z5i (N:Nat)(h:DT9):Option zid:=z6y N h ((zax N h.2.2.2.1).bind fun y=>cond (decide (((List.length h.2.2.1)+(List.length y))<=9223372036854775807)) ((z6l N h.2.1 (h.2.2.1++y)).bind fun y1=>(z7j N y1).bind fun y2=>some (y2,(h,()))) none)
def t_52 (N:Nat):Tab zid:=[([0,1],z1ko N)]
theorem z1bc (N:Nat)(x:z1b [(0,.box TT5)]):z2b (z1q6 N) N (t_52 N) L_52 Tryz.f106 (mkS [(0,.box TT5)] 0 x) (z7l (.v .str) [(0,.box TT5)] 0)=z5i N x.1:=by kernel_rfl
def z5y (N:Nat):List A->Res:=z11 [(0,.box TT5)] (fun x=>z5i N x.1) (zgd (.v .str) [(0,.box TT5)] 0)
theorem zca (N:Nat):Contract Tryz.prog glob 106 (z5y N) :=
 Contract.of (E:=z1q6 N) (H:=t_52 N) (L:=L_52) (N:=N) (body:=zn5) (K:=(z7l (.v .str) [(0,.box TT5)] 0)) (z1ov N) Tryz.func106 (by kernel_rfl) (by decide) (fun _ hb=>(TabOk.cons (z1ih hb) TabOk.nil)) (fun x y h=>by rw[z1bc];exact h) (z5l (s:=(.v .str)) (os:=[(0,.box TT5)]) (m:=0))
def z1dk:Code:=(Tryz.f94.body).getD .skip
def L_53:List (List Nat×List Nat):=[([0],[0]),([0,1],[3,0]),([0,1,1],[3]),([0,1,1,1],[2]),([1,1,1,1],[2])]
def E_53 (N:Nat):Env:=z14 tys glob [(106,z5y N),(105,z4g N),(104,zg0 N)] [] [] [] false [] [(108,z8 N)]
theorem z1ou (N:Nat):EnvOk Tryz.prog (E_53 N):=ze mixed zq (FnsOk.cons (zca N) (FnsOk.cons (z5t N) (FnsOk.cons (zob N) (FnsOk.nil)))) (ItsOk.cons (zb N) (ItsOk.nil))
def zfz (N:Nat)(s:(List UInt8)):Option (List UInt8):=(z3o N (true,(([1779033703,3144134277,1013904242,2773480762,1359893119,2600822924,528734635,1541459225]:List Int),([],(0,())))) s).bind fun y=>(z5i N y.2.1).bind fun y1=>some y1.1
def t_53 (N:Nat):Tab (List UInt8):=[]
theorem z1bb (N:Nat)(x:z1b [(0,.v .str)]):z2b (E_53 N) N (t_53 N) L_53 Tryz.f94 (mkS [(0,.v .str)] 0 x) (z1c (.v .str) 1)=zfz N x.1:=by kernel_rfl
def zay (N:Nat):List A->Res:=z11 [(0,.v .str)] (fun x=>zfz N x.1) (z2i (.v .str) 1)
theorem zil (N:Nat):Contract Tryz.prog glob 94 (zay N) :=
 Contract.of (E:=E_53 N) (H:=t_53 N) (L:=L_53) (N:=N) (body:=z1dk) (K:=(z1c (.v .str) 1)) (z1ou N) Tryz.func94 (by kernel_rfl) (by decide) (fun _ hb=>TabOk.nil) (fun x y h=>by rw[z1bb];exact h) (zm (s:=(.v .str)) (m:=1))
def zn4:Code:=(Tryz.f106.body).getD .skip
def L_54:List (List Nat×List Nat):=[([0],[0]),([0,0,1],[11,0]),([1,0,1],[0]),([0,0,1,0,1],[2,0]),([1,0,1,0,1],[2,0]),([0,1,1],[2,0]),([1,1,1],[2,0])]
def z1q5 (N:Nat):Env:=z14 tys glob [(94,zay N),(113,z8y N),(114,z8x N),(112,z3y N)] [] [] [0] false [] [(108,z8 N)]
theorem z1ot (N:Nat):EnvOk Tryz.prog (z1q5 N):=ze mixed zq (FnsOk.cons (zil N) (FnsOk.cons (zfy N) (FnsOk.cons (zfw N) (FnsOk.cons (z6k N) (FnsOk.nil))))) (ItsOk.cons (zb N) (ItsOk.nil))
def z86 (N:Nat)(h:DT9)(k0:Bool->Option zid):Option zid:=k0 (!h.1)
def z1lr (N:Nat)(x:z1b [(0,.box TT5)])(K:Ex->List A->Option zid):Option zid:=z86 N x.1 (fun a1=>(K .normal (mkS [(0,.box TT5),(10,.v .bool)] 17 (x.1,a1,()))))
def z1jy (N:Nat):Hd zid:=fun st K=>(unS [(0,.box TT5)] 28 (restr [0] 0 st)).bind fun x=>z1lr N x K
def t2_54 (N:Nat):Tab zid:=[]
theorem z1hr {N:Nat}{c:Ctx}(hb:Base Tryz.prog (z1q5 N) c):zw Tryz.prog c (zk zn4 [0,0,1]) (z1jy N) :=
 z13 (s:=[(0,.box TT5)]) (m:=28) (g:=z1lr N) [0] (zf hb N (t2_54 N) L_54 zn4 TabOk.nil [0,0,1] _ rfl) (fun x K=>by kernel_rfl)
def z87 (N:Nat)(h:DT9)(k0:(List UInt8)->Option zid)(k1:Option zid):Option zid:=z86 N h (fun x11=>cond x11 ((zfz N []).bind fun y=>k0 y) k1)
def z1mg (N:Nat)(x:z1b [(0,.box TT5)])(K:Ex->List A->Option zid):Option zid:=z87 N x.1 (fun a1=>(K .ret (mkS [(0,.box TT5),(1,.v .str)] 26 (x.1,a1,())))) (K .normal (mkS [(0,.box TT5)] 28 (x.1,())))
def z1kn (N:Nat):Hd zid:=fun st K=>(unS [(0,.box TT5)] 28 (restr [0] 0 st)).bind fun x=>z1mg N x K
def t1_54 (N:Nat):Tab zid:=[([0,0,1],z1jy N)]
theorem z1ig {N:Nat}{c:Ctx}(hb:Base Tryz.prog (z1q5 N) c):zw Tryz.prog c (zk zn4 [0,1]) (z1kn N) :=
 z13 (s:=[(0,.box TT5)]) (m:=28) (g:=z1mg N) [0] (zf hb N (t1_54 N) L_54 zn4 (TabOk.cons (z1hr hb) TabOk.nil) [0,1] _ rfl) (fun x K=>by kernel_rfl)
def z57 (N:Nat)(h:DT9):Option zid:=z87 N h (fun x2=>some (x2,(h,()))) ((zax N h.2.2.2.1).bind fun y=>cond (decide (((List.length h.2.2.1)+(List.length y))<=9223372036854775807)) ((z6l N h.2.1 (h.2.2.1++y)).bind fun y1=>(z7j N y1).bind fun y2=>some (y2,(h,()))) none)
def t_54 (N:Nat):Tab zid:=[([0,1],z1kn N)]
theorem z1ba (N:Nat)(x:z1b [(0,.box TT5)]):z2b (z1q5 N) N (t_54 N) L_54 Tryz.f106 (mkS [(0,.box TT5)] 0 x) (z7l (.v .str) [(0,.box TT5)] 0)=z57 N x.1:=by kernel_rfl
def zki (N:Nat):List A->Res:=z11 [(0,.box TT5)] (fun x=>z57 N x.1) (zgd (.v .str) [(0,.box TT5)] 0)
theorem zlj (N:Nat):Contract Tryz.prog glob 106 (zki N) :=
 Contract.of (E:=z1q5 N) (H:=t_54 N) (L:=L_54) (N:=N) (body:=zn4) (K:=(z7l (.v .str) [(0,.box TT5)] 0)) (z1ot N) Tryz.func106 (by kernel_rfl) (by decide) (fun _ hb=>(TabOk.cons (z1ig hb) TabOk.nil)) (fun x y h=>by rw[z1ba];exact h) (z5l (s:=(.v .str)) (os:=[(0,.box TT5)]) (m:=0))
def zc9 (N:Nat):List A->Res:=zs4 [(0,.box TT5)] (fun x=>z57 N x.1) (zgd (.v .str) [(0,.box TT5)] 0) (z5y N)
theorem zh4 (N:Nat):Contract Tryz.prog glob 106 (zc9 N):=Contract.alt (zlj N) (zca N)
def zn3:Code:=(Tryz.f106.body).getD .skip
def L_55:List (List Nat×List Nat):=[([0],[0]),([0,0,1],[11,0]),([1,0,1],[0]),([0,0,1,0,1],[2]),([1,0,1,0,1],[2]),([0,1,1],[2]),([1,1,1],[2])]
def z1q4 (N:Nat):Env:=z14 tys glob [(94,zay N),(113,z8y N),(114,z8x N),(112,z3y N)] [] [] [] false [] [(108,z8 N)]
theorem z1os (N:Nat):EnvOk Tryz.prog (z1q4 N):=ze mixed zq (FnsOk.cons (zil N) (FnsOk.cons (zfy N) (FnsOk.cons (zfw N) (FnsOk.cons (z6k N) (FnsOk.nil))))) (ItsOk.cons (zb N) (ItsOk.nil))
def z88 (N:Nat)(k0:Bool->Option (List UInt8)):Option (List UInt8):=k0 true
def z1lq (N:Nat)(x:z1b [(0,.nilp)])(K:Ex->List A->Option (List UInt8)):Option (List UInt8):=z88 N (fun a0=>(K .normal (mkS [(0,.nilp),(10,.v .bool)] 17 ((),a0,()))))
def z1jx (N:Nat):Hd (List UInt8):=fun st K=>(unS [(0,.nilp)] 28 (restr [0] 0 st)).bind fun x=>z1lq N x K
def t2_55 (N:Nat):Tab (List UInt8):=[]
theorem z1hq {N:Nat}{c:Ctx}(hb:Base Tryz.prog (z1q4 N) c):zw Tryz.prog c (zk zn3 [0,0,1]) (z1jx N) :=
 z13 (s:=[(0,.nilp)]) (m:=28) (g:=z1lq N) [0] (zf hb N (t2_55 N) L_55 zn3 TabOk.nil [0,0,1] _ rfl) (fun x K=>by kernel_rfl)
def z89 (N:Nat)(k0:(List UInt8)->Option (List UInt8))(k1:Option (List UInt8)):Option (List UInt8):=z88 N (fun x11=>cond x11 ((zfz N []).bind fun y=>k0 y) k1)
def z1mf (N:Nat)(x:z1b [(0,.nilp)])(K:Ex->List A->Option (List UInt8)):Option (List UInt8):=z89 N (fun a0=>(K .ret (mkS [(2,.v .str)] 26 (a0,())))) (K .normal (mkS [(0,.nilp)] 28 ((),())))
def z1km (N:Nat):Hd (List UInt8):=fun st K=>(unS [(0,.nilp)] 28 (restr [0] 0 st)).bind fun x=>z1mf N x K
def t1_55 (N:Nat):Tab (List UInt8):=[([0,0,1],z1jx N)]
theorem z1if {N:Nat}{c:Ctx}(hb:Base Tryz.prog (z1q4 N) c):zw Tryz.prog c (zk zn3 [0,1]) (z1km N) :=
 z13 (s:=[(0,.nilp)]) (m:=28) (g:=z1mf N) [0] (zf hb N (t1_55 N) L_55 zn3 (TabOk.cons (z1hq hb) TabOk.nil) [0,1] _ rfl) (fun x K=>by kernel_rfl)
def z6w (N:Nat):Option (List UInt8):=z89 N (fun x2=>some x2) none
def t_55 (N:Nat):Tab (List UInt8):=[([0,1],z1km N)]
theorem z1b9 (N:Nat)(x:z1b [(0,.nilp)]):z2b (z1q4 N) N (t_55 N) L_55 Tryz.f106 (mkS [(0,.nilp)] 0 x) (z1c (.v .str) 1)=z6w N:=by kernel_rfl
def zet (N:Nat):List A->Res:=z11 [(0,.nilp)] (fun x=>z6w N) (z2i (.v .str) 1)
theorem zg1 (N:Nat):Contract Tryz.prog glob 106 (zet N) :=
 Contract.of (E:=z1q4 N) (H:=t_55 N) (L:=L_55) (N:=N) (body:=zn3) (K:=(z1c (.v .str) 1)) (z1os N) Tryz.func106 (by kernel_rfl) (by decide) (fun _ hb=>(TabOk.cons (z1if hb) TabOk.nil)) (fun x y h=>by rw[z1b9];exact h) (zm (s:=(.v .str)) (m:=1))
def z79 (N:Nat):List A->Res:=zs4 [(0,.nilp)] (fun x=>z6w N) (z2i (.v .str) 1) (zc9 N)
theorem zcn (N:Nat):Contract Tryz.prog glob 106 (z79 N):=Contract.alt (zg1 N) (zh4 N)
end
end Go.Proofs.YthdblfmolchhpaaGreatDoorLg
