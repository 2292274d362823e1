import Derived.Test.YtnnjnkjfkaaikaaDoorLgPrRt1
import Derived.Test.YtnnjnkjfkaaikaaDoorLgPrRt2
import Derived.WalkKit
import Derived.Tactics
import Derived.Tactics2
import Derived.Defers
import Derived.Lib.Hide
import Derived.Below
import Derived.Recover
import Derived.Orders
import Derived.WalkSmall
import Derived.LoopN
import Derived.Deep.RegionHeld3
import Derived.Laws.IdiomStrings
import Derived.Test.YtnnjnkjfkaaikaaDoorLgW
import Derived.Test.YtnnjnkjfkaaikaaDoorChecked
import Derived.KernelRfl
set_option linter.all false
set_option maxRecDepth 100000
namespace Go.Proofs.YtnnjnkjfkaaikaaDoorLg
noncomputable section
open Go Go.Lift
abbrev TT0:T:=(.pair (.int .i64) (.pair (.int .i64) .unit))
abbrev TT1:T:=(.pair (.int .i64) (.pair (.arr 4 (.int .u64)) (.pair (.sl .nod) TT0)))
abbrev DT2:Type:=(Int×((List Int)×((List Tree)×(Int×(Int×Unit)))))
abbrev DT3:Type:=((List UInt8)×(Int×(Int×Unit)))
abbrev DT4:Type:=((List UInt8)×Int×Unit)
abbrev TT5:T:=(.pair (.self 46) (.pair (.own (.byt 5)) .unit))
abbrev DT7:Type:=(((List Int)×Bool×Unit)×(DT3×Unit))
abbrev DT8:Type:=((List Int)×(DT3×Unit))
abbrev DT9:Type:=(Int×((List Int)×((List Tree)×(Int×(Int×Unit)))))
abbrev z17t:T:=(.pair (.int .i64) (.pair (.int .i64) (.pair .str .unit)))
abbrev zo2:Type:=(Unit×((List Int)×Unit))
abbrev z14q:List Nat:=[0,1,0,1,1,1,1]
abbrev z17z:List Nat:=[1,1,1,1,1,1,1]
abbrev z14m:List Nat:=[1,0,1,0,1,1,1]
abbrev z14n:List Nat:=[0,1,0,0,1,0,1]
abbrev z11k:List Nat:=[1,0,1,1,1,1,1]
abbrev z115:List Nat:=[0,0,1,0,1,1,1]
abbrev z116:List Nat:=[0,1,1,1,1,1,1]
abbrev zms:List Nat:=[0,0,1,1,1,1,1]
abbrev z16t:List Nat:=[1,0,1,1,1,1,1,1]
abbrev z16u:List Nat:=[0,0,1,1,1,1,1,1]
abbrev z14o:List Nat:=[1,1,1,0,0,1,0,1]
abbrev z14p:List Nat:=[0,1,1,0,0,1,0,1]
abbrev z117:List Nat:=[0,0,0,0,1,1,1,1]
abbrev z14t:List Nat:=[0,0,1,0,1,1,1,1]
abbrev z118:List Nat:=[1,0,1,0,0,1,0,1]
abbrev z119:List Nat:=[1,1,0,0,1,0,1,1]
abbrev z11a:List Nat:=[1,0,0,0,1,0,1,1]
abbrev z11b:List Nat:=[0,0,0,0,1,0,1,1]
abbrev z1da:List Nat:=[0,1,0,1,1,1,1,1]
abbrev z180:List Nat:=[0,1,1,0,1,0,1,1]
abbrev z181:List Nat:=[1,1,1,1,1,1,1,1]
abbrev z182:List Nat:=[0,1,1,1,1,1,1,1]
abbrev ztb:List Nat:=[0,1,0,0,1,0,1,1]
abbrev z14r:List Nat:=[0,1,0,1,1,1,1,1,1]
abbrev z14s:List Nat:=[1,0,1,0,1,1,1,1,1]
abbrev z1r4:List Nat:=[0,0,1,0,1,1,1,1,1]
abbrev z1e8:List Nat:=[1,1,0,0,0,1,0,1,1]
abbrev SQ0:List (Nat×AS):=[(0,.box (.pair .str TT0))]
abbrev z16r:List Nat:=[1,1,0,0,0,0,1,1,1,1]
abbrev z16s:List Nat:=[0,1,0,0,1,0,1,1,1,1]
abbrev z1r3:List Nat:=[0,0,0,1,1,0,0,1,0,1]
abbrev zo0:List (Nat×AS):=[(0,.v (.arr 4 (.int .u64)))]
abbrev z16v:List Nat:=[0,0,0,1,1,0,0,1,0,1,1]
abbrev z1r5:List Nat:=[0,1,0,0,1,1,0,0,1,0,1]
abbrev z1e9:List Nat:=[0,1,0,0,1,0,0,1,0,1,1]
abbrev z1d5:List (Nat×AS):=[(4,.v .str),(0,.v (.int .i64))]
abbrev z16w:List Nat:=[0,1,0,0,1,0,1,1,1,1,1,1]
abbrev z1d6:List (Nat×AS):=[(1,.box TT1),(2,.v (.int .i64))]
abbrev z1ea:List Nat:=[0,1,1,1,1,1,1,1,1,0,1,1,1]
abbrev z1ds:List (Nat×AS):=[(0,.v (.int .u8)),(0,.v (.int .u8))]
abbrev z1db:List Nat:=[0,1,1,0,0,1,0,0,1,0,1,1,1,1]
abbrev z1dc:List Nat:=[0,0,0,0,1,0,0,1,0,0,1,0,1,1]
abbrev PQ90:List Nat:=[0,0,0,1,0,0,1,0,1,1,1,1,1,1]
abbrev z183:List Nat:=[0,0,0,0,0,0,0,0,1,0,1,1,1,1]
abbrev z11h:List (Nat×AS):=[(0,.v (.int .u64)),(1,.v (.int .i64))]
abbrev SQ2:List (Nat×AS):=[(0,.v (.int .i64)),(0,.v (.int .i64))]
abbrev z17u:List (Nat×AS):=[(0,.box (.pair .str TT0)),(1,.box TT1)]
abbrev z1dd:List Nat:=[0,1,1,1,0,0,1,0,0,1,0,1,1,1,1]
abbrev PQ86:List Nat:=[0,0,1,1,0,0,1,0,0,1,0,1,1,1,1]
abbrev z1dt:List (Nat×AS):=[(1,.box TT1),(1,.box (.arr 4 (.int .u64)))]
abbrev PQ80:List Nat:=[0,0,1,1,1,0,0,1,0,0,1,0,1,1,1,1]
abbrev zqn:List (Nat×AS):=[(0,.box (.pair .str TT0)),(0,.v (.int .u8))]
abbrev z1du:List (Nat×AS):=[(0,.box (.pair .str TT0)),(0,.v (.int .i64))]
abbrev z17v:List (Nat×AS):=[(0,.box (.pair .str TT0)),(2,.v (.int .i64))]
abbrev SQ74:List (Nat×AS):=[(1,.box TT1),(2,.v .str),(0,.v (.int .i64))]
abbrev z1dv:List (Nat×AS):=[(0,.v (.arr 4 (.int .u64))),(0,.v (.int .u8))]
abbrev PQ73:List Nat:=[0,1,0,1,0,0,0,1,1,1,1,1,1,1,1,1,1]
abbrev z1dw:List (Nat×AS):=[(0,.v (.arr 4 (.int .u64))),(0,.v (.int .i64))]
abbrev z1dx:List (Nat×AS):=[(1,.box (.arr 4 (.int .u64))),(1,.v (.int .i64))]
abbrev PQ98:List Nat:=[0,1,1,0,1,0,0,0,1,1,1,1,1,1,1,1,1,1]
abbrev PQ97:List Nat:=[0,0,1,0,1,0,0,0,1,1,1,1,1,1,1,1,1,1]
abbrev PQ89:List Nat:=[0,1,1,1,0,1,0,0,0,1,1,1,1,1,1,1,1,1,1]
abbrev z16o:List (Nat×AS):=[(1,.box TT1),(2,.v (.int .i64)),(0,.v (.int .i64))]
abbrev z1dy:List (Nat×AS):=[(0,.box (.pair .str TT0)),(1,.box TT1),(1,.box TT1)]
abbrev SQ5:List (Nat×AS):=[(0,.box (.pair .str TT0)),(1,.box TT1),(0,.row TT1)]
abbrev PQ85:List Nat:=[0,1,1,1,1,0,1,0,0,0,1,1,1,1,1,1,1,1,1,1]
abbrev PQ84:List Nat:=[0,0,0,0,1,0,1,0,0,0,1,1,1,1,1,1,1,1,1,1]
abbrev z11i:List (Nat×AS):=[(0,.v (.arr 4 (.int .u64))),(0,.v (.arr 4 (.int .u64)))]
abbrev SQ82:List (Nat×AS):=[(0,.v TT1),(0,.v (.arr 4 (.int .u64))),(0,.v (.int .u8))]
abbrev z17w:List (Nat×AS):=[(0,.box (.pair .str TT0)),(1,.box TT1),(0,.v (.int .u8))]
abbrev SQ76:List (Nat×AS):=[(2,.box (.arr 4 (.int .u64))),(1,.box (.arr 4 (.int .u64)))]
abbrev z1r1:List (Nat×AS):=[(1,.box (.arr 4 (.int .u64))),(1,.box TT5),(0,.v (.int .i64))]
abbrev z11j:List (Nat×AS):=[(0,.box (.pair .str TT0)),(0,.v (.int .i64)),(3,.v (.int .u8))]
abbrev SQ55:List (Nat×AS):=[(0,.box (.pair .str TT0)),(1,.v (.int .i64)),(0,.v (.int .i64))]
abbrev SQ1:List (Nat×AS):=[(0,.box (.pair .str TT0)),(2,.v (.int .i64)),(0,.v (.int .i64))]
abbrev z1dz:List (Nat×AS):=[(1,.box TT1),(2,.v .str),(0,.v (.int .i64)),(0,.v (.int .i64))]
abbrev SQ50:List (Nat×AS):=[(0,.v (.int .i64)),(4,.box (.arr 24 (.int .u8))),(0,.v (.int .u64))]
abbrev z1e0:List (Nat×AS):=[(1,.box (.arr 4 (.int .u64))),(1,.v (.int .i64)),(0,.v (.int .i64))]
abbrev SQ49:List (Nat×AS):=[(0,.box (.pair .str TT0)),(1,.box (.arr 4 (.int .u64))),(0,.v .bool)]
abbrev z1e1:List (Nat×AS):=[(1,.box TT1),(2,.v (.int .i64)),(0,.v (.int .i64)),(0,.v (.int .i64))]
abbrev z17x:List (Nat×AS):=[(0,.box (.pair .str TT0)),(1,.box (.arr 4 (.int .u64))),(1,.v (.int .u8))]
abbrev z1d7:List (Nat×AS):=[(1,.v (.int .i64)),(0,.box (.arr 4 (.int .u64))),(1,.box (.arr 4 (.int .u64)))]
abbrev SQ88:List (Nat×AS):=[(0,.box (.pair .str TT0)),(2,.v (.int .i64)),(0,.v (.int .i64)),(70,.v .bool)]
abbrev SQ87:List (Nat×AS):=[(0,.v (.int .i64)),(0,.v (.int .i64)),(6,.v (.arr 3 z17t)),(0,.v (.int .i64))]
abbrev SQ3:List (Nat×AS):=[(1,.box (.arr 4 (.int .u64))),(3,.v .str),(0,.v (.int .i64)),(0,.v (.int .i64))]
abbrev SQ9:List (Nat×AS):=[(1,.box (.arr 4 (.int .u64))),(1,.box TT5),(0,.v (.int .i64)),(0,.v (.int .i64))]
abbrev SQ8:List (Nat×AS):=[(0,.box (.pair .str TT0)),(1,.v (.int .i64)),(0,.v (.int .i64)),(0,.v (.int .i64))]
abbrev SQ83:List (Nat×AS):=[(0,.box (.pair .str TT0)),(1,.box (.arr 4 (.int .u64))),(0,.box (.arr 4 (.int .u64)))]
abbrev z1e2:List (Nat×AS):=[(0,.box (.pair .str TT0)),(1,.box TT1),(0,.box TT1),(0,.box TT1),(24,.v (.int .u8))]
abbrev SQ81:List (Nat×AS):=[(0,.box (.pair .str TT0)),(1,.box (.arr 4 (.int .u64))),(1,.v (.int .u8)),(9,.v .bool)]
abbrev z1e3:List (Nat×AS):=[(0,.box (.pair .str TT0)),(1,.box (.arr 4 (.int .u64))),(1,.v (.int .u8)),(2,.v (.int .u8))]
abbrev z1e4:List (Nat×AS):=[(0,.box (.pair .str TT0)),(1,.box (.arr 4 (.int .u64))),(1,.v (.int .i64)),(0,.v (.int .u8))]
abbrev SQ46:List (Nat×AS):=[(0,.v (.int .i64)),(0,.v (.int .i64)),(4,.box z17t),(1,.v (.arr 3 z17t)),(0,.v (.int .i64))]
abbrev SQ71:List (Nat×AS):=[(1,.v (.int .u8)),(2,.box (.arr 4 (.int .u64))),(0,.box (.arr 4 (.int .u64))),(0,.v (.int .i64))]
abbrev SQ70:List (Nat×AS):=[(1,.v (.int .i64)),(2,.box (.arr 4 (.int .u64))),(0,.box (.arr 4 (.int .u64))),(0,.v (.int .i64))]
abbrev z17y:List (Nat×AS):=[(1,.box TT1),(2,.v .str),(0,.v (.int .i64)),(0,.v (.int .i64)),(1,.v .str),(0,.v (.int .i64))]
abbrev z1e5:List (Nat×AS):=[(0,.box (.pair .str TT0)),(1,.box (.arr 4 (.int .u64))),(0,.v .bool),(0,.box (.arr 4 (.int .u64)))]
abbrev SQ7:List (Nat×AS):=[(0,.box (.pair .str TT0)),(1,.box (.arr 4 (.int .u64))),(0,.box (.arr 4 (.int .u64))),(0,.v .bool)]
abbrev SQ69:List (Nat×AS):=[(0,.box (.pair .str TT0)),(1,.box (.arr 4 (.int .u64))),(0,.box (.arr 4 (.int .u64))),(13,.v .bool)]
abbrev SQ67:List (Nat×AS):=[(0,.v (.int .i64)),(3,.box TT1),(0,.row TT1),(2,.v (.sl .nod)),(0,.v (.int .i64)),(0,.v (.int .i64))]
abbrev SQ30:List (Nat×AS):=[(2,.box (.arr 4 (.int .u64))),(0,.box (.arr 4 (.int .u64))),(0,.box (.arr 4 (.int .u64))),(1,.v (.int .i64))]
abbrev z1e6:List (Nat×AS):=[(2,.box (.arr 4 (.int .u64))),(0,.box (.arr 4 (.int .u64))),(0,.box (.arr 4 (.int .u64))),(0,.v (.int .i64))]
abbrev SQ62:List (Nat×AS):=[(0,.v .str),(1,.box (.arr 4 (.int .u64))),(0,.box (.arr 4 (.int .u64))),(2,.v (.int .i64)),(0,.v (.int .i64))]
abbrev z1e7:List (Nat×AS):=[(1,.box TT1),(2,.v .str),(0,.v (.int .i64)),(0,.v (.int .i64)),(0,.box TT1),(0,.v .str),(0,.v (.int .i64))]
abbrev SQ59:List (Nat×AS):=[(0,.box (.pair .str TT0)),(1,.box (.arr 4 (.int .u64))),(0,.box (.arr 4 (.int .u64))),(2,.box (.arr 4 (.int .u64)))]
abbrev SQ57:List (Nat×AS):=[(1,.v (.int .i64)),(0,.box (.arr 4 (.int .u64))),(1,.box (.arr 4 (.int .u64))),(0,.v (.int .u64)),(0,.v (.int .i64))]
abbrev SQ4:List (Nat×AS):=[(0,.box (.pair .str TT0)),(1,.box (.arr 4 (.int .u64))),(0,.box (.arr 4 (.int .u64))),(0,.v .bool),(0,.v (.int .i64)),(0,.box (.arr 4 (.int .u64)))]
abbrev SQ44:List (Nat×AS):=[(0,.box (.pair .str TT0)),(1,.box (.arr 4 (.int .u64))),(0,.box (.arr 4 (.int .u64))),(1,.v (.int .i64)),(0,.box (.arr 4 (.int .u64))),(28,.v .bool)]
def ty2:TyI:=⟨(Go.TypeDesc.int IntKind.i64),1,8,(.int .i64),0,false⟩
theorem z1eq:TyOk Tryd.prog 2 ty2:=TyOk.of (by kernel_rfl) (by kernel_rfl) (by kernel_rfl) (by kernel_rfl)
def ty3:TyI:=⟨(Go.TypeDesc.int IntKind.i64),1,8,(.int .i64),0,false⟩
theorem z1ep:TyOk Tryd.prog 3 ty3:=TyOk.of (by kernel_rfl) (by kernel_rfl) (by kernel_rfl) (by kernel_rfl)
def ty4:TyI:=⟨Go.TypeDesc.bool,1,1,.bool,false,false⟩
theorem z1eo:TyOk Tryd.prog 4 ty4:=TyOk.of (by kernel_rfl) (by kernel_rfl) (by kernel_rfl) (by kernel_rfl)
def ty5:TyI:=⟨(Go.TypeDesc.int IntKind.u8),1,1,(.int .u8),0,false⟩
theorem z1en:TyOk Tryd.prog 5 ty5:=TyOk.of (by kernel_rfl) (by kernel_rfl) (by kernel_rfl) (by kernel_rfl)
def ty9:TyI:=⟨Go.TypeDesc.string,1,16,.str,[],false⟩
theorem z1em:TyOk Tryd.prog 9 ty9:=TyOk.of (by kernel_rfl) (by kernel_rfl) (by kernel_rfl) (by kernel_rfl)
def ty22:TyI:=⟨(Go.TypeDesc.int IntKind.u64),1,8,(.int .u64),0,false⟩
theorem z191:TyOk Tryd.prog 22 ty22:=TyOk.of (by kernel_rfl) (by kernel_rfl) (by kernel_rfl) (by kernel_rfl)
def ty24:TyI:=⟨(Go.TypeDesc.array 4 22),4,32,(.arr 4 (.int .u64)),([0,0,0,0]:List Int),true⟩
theorem z190:TyOk Tryd.prog 24 ty24:=TyOk.of (by kernel_rfl) (by kernel_rfl) (by kernel_rfl) (by kernel_rfl)
def ty25:TyI:=⟨(Go.TypeDesc.slice 27),1,24,(.sl .nod),[],false⟩
theorem z18z:TyOk Tryd.prog 25 ty25:=TyOk.of (by kernel_rfl) (by kernel_rfl) (by kernel_rfl) (by kernel_rfl)
def ty27 : TyI := ⟨(Go.TypeDesc.struct (List.toArray ([(Go.Field.mk "Kind" 3 0 false "" "" 0), (Go.Field.mk "Set" 24 1 false "" "" 8), (Go.Field.mk "Kids" 25 5 false "" "" 40), (Go.Field.mk "Min" 3 6 false "" "" 64), (Go.Field.mk "Max" 3 7 false "" "" 72)] : List Go.Field))), 8, 80, TT1, ((0 : Int), ([(0 : Int), (0 : Int), (0 : Int), (0 : Int)] : List Int), ([] : List Tree), (0 : Int), (0 : Int), ()), true⟩
theorem z18y:TyOk Tryd.prog 27 ty27:=TyOk.of (by kernel_rfl) (by kernel_rfl) (by kernel_rfl) (by kernel_rfl)
def ty38:TyI:=⟨(Go.TypeDesc.int IntKind.i64),1,8,(.int .i64),0,false⟩
theorem z18x:TyOk Tryd.prog 38 ty38:=TyOk.of (by kernel_rfl) (by kernel_rfl) (by kernel_rfl) (by kernel_rfl)
def ty40 : TyI := ⟨(Go.TypeDesc.struct (List.toArray ([(Go.Field.mk "E" 38 0 false "" "" 0), (Go.Field.mk "At" 3 1 false "" "" 8)] : List Go.Field))), 2, 16, TT0, ((0 : Int), (0 : Int), ()), true⟩
theorem z18w:TyOk Tryd.prog 40 ty40:=TyOk.of (by kernel_rfl) (by kernel_rfl) (by kernel_rfl) (by kernel_rfl)
def ty43:TyI:=⟨(Go.TypeDesc.pointer 46),1,8,.opq,(Go.Value.pointer none),false⟩
theorem z18v:TyOk Tryd.prog 43 ty43:=TyOk.of (by kernel_rfl) (by kernel_rfl) (by kernel_rfl) (by kernel_rfl)
def ty44:TyI:=⟨(Go.TypeDesc.slice 5),1,24,(.sl (.int .u8)),[],false⟩
theorem z18u:TyOk Tryd.prog 44 ty44:=TyOk.of (by kernel_rfl) (by kernel_rfl) (by kernel_rfl) (by kernel_rfl)
def ty46 : TyI := ⟨(Go.TypeDesc.struct (List.toArray ([(Go.Field.mk "addr" 43 0 false "" "strings" 0), (Go.Field.mk "buf" 44 1 false "" "strings" 8)] : List Go.Field))), 2, 32, (.pair .opq (.pair (.sl (.int .u8)) .unit)), ((Go.Value.pointer none), ([] : List Int), ()), true⟩
theorem z18t:TyOk Tryd.prog 46 ty46:=TyOk.of (by kernel_rfl) (by kernel_rfl) (by kernel_rfl) (by kernel_rfl)
def ty49 : TyI := ⟨(Go.TypeDesc.interface (List.toArray ([("Error", 56)] : List (String × Nat)))), 1, 16, .opq, Go.Value.nilIface, false⟩
theorem z18s:TyOk Tryd.prog 49 ty49:=TyOk.of (by kernel_rfl) (by kernel_rfl) (by kernel_rfl) (by kernel_rfl)
def ty67:TyI:=⟨(Go.TypeDesc.pointer 69),1,8,.opq,(Go.Value.pointer none),false⟩
theorem z18r:TyOk Tryd.prog 67 ty67:=TyOk.of (by kernel_rfl) (by kernel_rfl) (by kernel_rfl) (by kernel_rfl)
def ty69 : TyI := ⟨(Go.TypeDesc.struct (List.toArray ([(Go.Field.mk "s" 9 0 false "" "porter/regex" 0), (Go.Field.mk "at" 3 1 false "" "porter/regex" 16), (Go.Field.mk "open" 3 2 false "" "porter/regex" 24)] : List Go.Field))), 3, 32, (.pair .str TT0), (([] : List UInt8), (0 : Int), (0 : Int), ()), true⟩
theorem z18q:TyOk Tryd.prog 69 ty69:=TyOk.of (by kernel_rfl) (by kernel_rfl) (by kernel_rfl) (by kernel_rfl)
def ty84:TyI:=⟨(Go.TypeDesc.int IntKind.u64),1,8,(.int .u64),0,false⟩
theorem z18p:TyOk Tryd.prog 84 ty84:=TyOk.of (by kernel_rfl) (by kernel_rfl) (by kernel_rfl) (by kernel_rfl)
def ty90 : TyI := ⟨(Go.TypeDesc.struct (List.toArray ([(Go.Field.mk "low" 3 0 false "" "porter/regtext" 0), (Go.Field.mk "high" 3 1 false "" "porter/regtext" 8), (Go.Field.mk "sign" 9 2 false "" "porter/regtext" 16)] : List Go.Field))), 3, 32, z17t, ((0 : Int), (0 : Int), ([] : List UInt8), ()), true⟩
theorem z18o:TyOk Tryd.prog 90 ty90:=TyOk.of (by kernel_rfl) (by kernel_rfl) (by kernel_rfl) (by kernel_rfl)
def ty91:TyI:=⟨(Go.TypeDesc.array 3 90),9,96,(.arr 3 z17t),([(0,0,[],()),(0,0,[],()),(0,0,[],())]:List (Int×(Int×((List UInt8)×Unit)))),true⟩
theorem z18n:TyOk Tryd.prog 91 ty91:=TyOk.of (by kernel_rfl) (by kernel_rfl) (by kernel_rfl) (by kernel_rfl)
def ty92:TyI:=⟨(Go.TypeDesc.array 64 5),64,64,(.arr 64 (.int .u8)),(0::0::0::0::0::0::0::0::0::0::0::0::0::0::0::0::0::0::0::0::0::0::0::0::0::0::0::0::0::0::0::0::0::0::0::0::0::0::0::0::0::0::0::0::0::0::0::0::0::0::0::0::0::0::0::0::0::0::0::0::0::0::0::0::[]),true⟩
theorem z18m:TyOk Tryd.prog 92 ty92:=TyOk.of (by kernel_rfl) (by kernel_rfl) (by kernel_rfl) (by kernel_rfl)
def z1ev:TyI:=⟨(Go.TypeDesc.array 24 5),24,24,(.arr 24 (.int .u8)),([0,0,0,0,0,0,0,0,0,0,0,0,0,0,0,0,0,0,0,0,0,0,0,0]:List Int),true⟩
theorem z156:TyOk Tryd.prog 100 z1ev:=TyOk.of (by kernel_rfl) (by kernel_rfl) (by kernel_rfl) (by kernel_rfl)
def z1eu:TyI:=⟨(Go.TypeDesc.array 20 22),20,160,(.arr 20 (.int .u64)),([0,0,0,0,0,0,0,0,0,0,0,0,0,0,0,0,0,0,0,0]:List Int),true⟩
theorem z155:TyOk Tryd.prog 108 z1eu:=TyOk.of (by kernel_rfl) (by kernel_rfl) (by kernel_rfl) (by kernel_rfl)
def z1et:TyI:=⟨(Go.TypeDesc.int IntKind.u32),1,4,(.int .u32),0,false⟩
theorem z154:TyOk Tryd.prog 109 z1et:=TyOk.of (by kernel_rfl) (by kernel_rfl) (by kernel_rfl) (by kernel_rfl)
def z1es:TyI:=⟨(Go.TypeDesc.array 65 5),65,65,(.arr 65 (.int .u8)),(0::0::0::0::0::0::0::0::0::0::0::0::0::0::0::0::0::0::0::0::0::0::0::0::0::0::0::0::0::0::0::0::0::0::0::0::0::0::0::0::0::0::0::0::0::0::0::0::0::0::0::0::0::0::0::0::0::0::0::0::0::0::0::0::0::[]),true⟩
theorem z153:TyOk Tryd.prog 110 z1es:=TyOk.of (by kernel_rfl) (by kernel_rfl) (by kernel_rfl) (by kernel_rfl)
def z1er:TyI:=⟨(Go.TypeDesc.array 32 5),32,32,(.arr 32 (.int .u8)),([0,0,0,0,0,0,0,0,0,0,0,0,0,0,0,0,0,0,0,0,0,0,0,0,0,0,0,0,0,0,0,0]:List Int),true⟩
theorem z152:TyOk Tryd.prog 114 z1er:=TyOk.of (by kernel_rfl) (by kernel_rfl) (by kernel_rfl) (by kernel_rfl)
def tys:List (Nat×TyI):=[(2,ty2),(3,ty3),(4,ty4),(5,ty5),(9,ty9),(22,ty22),(24,ty24),(25,ty25),(27,ty27),(38,ty38),(40,ty40),(43,ty43),(44,ty44),(46,ty46),(49,ty49),(67,ty67),(69,ty69),(84,ty84),(90,ty90),(91,ty91),(92,ty92),(100,z1ev),(108,z1eu),(109,z1et),(110,z1es),(114,z1er)]
theorem zn:TysOk Tryd.prog tys:=TysOk.cons z1eq (TysOk.cons z1ep (TysOk.cons z1eo (TysOk.cons z1en (TysOk.cons z1em (TysOk.cons z191 (TysOk.cons z190 (TysOk.cons z18z (TysOk.cons z18y (TysOk.cons z18x (TysOk.cons z18w (TysOk.cons z18v (TysOk.cons z18u (TysOk.cons z18t (TysOk.cons z18s (TysOk.cons z18r (TysOk.cons z18q (TysOk.cons z18p (TysOk.cons z18o (TysOk.cons z18n (TysOk.cons z18m (TysOk.cons z156 (TysOk.cons z155 (TysOk.cons z154 (TysOk.cons z153 (TysOk.cons z152 (TysOk.nil))))))))))))))))))))))))))
theorem mixed:Tryd.prog.follows .mixedOrders=true:=by kernel_rfl
def z1qy:Code:=(Tryd.f16.body).getD .skip
def L_0:List (List Nat×List Nat):=[([0],[0,1]),([0,1],[0,1]),([0,1,1],[0]),([0,1,1,1],[4,0]),([1,1,1,1],[4,0])]
def E_0 (N:Nat):Env:=z1d tys zey [(39,z149)] [] [] [0] false [] []
theorem Eok_0 (N:Nat):EnvOk Tryd.prog (E_0 N):=zg mixed zn (FnsOk.cons (z1qq zey) (FnsOk.nil)) (ItsOk.nil)
def z31 (N:Nat)(b:zo2)(c:Int):Option (Go.Value×(zo2×Unit)):=cond (decide ((((List.length b.2.1)+1)*1)<=70368744177664)) (some (Go.Value.nilIface,((b.1,((b.2.1++([c]:List Int)),b.2.2)),()))) none
def t_0 (N:Nat):Tab (Go.Value×(zo2×Unit)):=[]
theorem z1j6 (N:Nat)(x:zw [(0,.box TT5),(0,.v (.int .u8))]):z4x (E_0 N) N (t_0 N) L_0 Tryd.f16 (mkS [(0,.box TT5),(0,.v (.int .u8))] 0 x) (z5r (.v .opq) [(0,.box TT5)] 1)=z31 N x.1 x.2.1:=by kernel_rfl
def zbm (N:Nat):List A->Res:=zy [(0,.box TT5),(0,.v (.int .u8))] (fun x=>z31 N x.1 x.2.1) (z6u (.v .opq) [(0,.box TT5)] 1)
theorem zcq (N:Nat):Contract Tryd.prog zey 16 (zbm N) :=
 Contract.of (E:=E_0 N) (H:=t_0 N) (L:=L_0) (N:=N) (body:=z1qy) (K:=(z5r (.v .opq) [(0,.box TT5)] 1)) (Eok_0 N) Tryd.func16 (by kernel_rfl) (by decide) (fun _ hb=>TabOk.nil) (fun x y h=>by rw[z1j6];exact h) (z3x (s:=(.v .opq)) (os:=[(0,.box TT5)]) (m:=1))
def z1qx:Code:=(Tryd.f19.body).getD .skip
def L_1:List (List Nat×List Nat):=[([0],[0,1]),([0,1],[0,1]),([0,1,1],[1,0]),([0,1,1,1],[4,5,0]),([1,1,1,1],[4,5,0])]
def E_1 (N:Nat):Env:=z1d tys zey [(39,z149)] [] [] [0] false [] []
theorem Eok_1 (N:Nat):EnvOk Tryd.prog (E_1 N):=zg mixed zn (FnsOk.cons (z1qq zey) (FnsOk.nil)) (ItsOk.nil)
def z1a (N:Nat)(b:zo2)(s:(List UInt8)):Option ((Int×Go.Value×Unit)×(zo2×Unit)):=cond (decide ((((List.length b.2.1)+(List.length (z30 s)))*1)<=70368744177664)) (some (((List.length s:Int),(Go.Value.nilIface,())),((b.1,((b.2.1++(z30 s)),b.2.2)),()))) none
def t_1 (N:Nat):Tab ((Int×Go.Value×Unit)×(zo2×Unit)):=[]
theorem z1j5 (N:Nat)(x:zw [(0,.box TT5),(0,.v .str)]):z4x (E_1 N) N (t_1 N) L_1 Tryd.f19 (mkS [(0,.box TT5),(0,.v .str)] 0 x) (z5r (.tup [(.int .i64),.opq]) [(0,.box TT5)] 1)=z1a N x.1 x.2.1:=by kernel_rfl
def z4k (N:Nat):List A->Res:=zy [(0,.box TT5),(0,.v .str)] (fun x=>z1a N x.1 x.2.1) (z6u (.tup [(.int .i64),.opq]) [(0,.box TT5)] 1)
theorem z4y (N:Nat):Contract Tryd.prog zey 19 (z4k N) :=
 Contract.of (E:=E_1 N) (H:=t_1 N) (L:=L_1) (N:=N) (body:=z1qx) (K:=(z5r (.tup [(.int .i64),.opq]) [(0,.box TT5)] 1)) (Eok_1 N) Tryd.func19 (by kernel_rfl) (by decide) (fun _ hb=>TabOk.nil) (fun x y h=>by rw[z1j5];exact h) (z3x (s:=(.tup [(.int .i64),.opq])) (os:=[(0,.box TT5)]) (m:=1))
def z1qw:Code:=(Tryd.f17.body).getD .skip
def L_2:List (List Nat×List Nat):=[([0],[0]),([0,1],[2,0]),([1,1],[2,0])]
def E_2 (N:Nat):Env:=z1d tys zey [] [] [] [0] false [] []
theorem Eok_2 (N:Nat):EnvOk Tryd.prog (E_2 N):=zg mixed zn (FnsOk.nil) (ItsOk.nil)
def z57 (N:Nat)(b:zo2):Option (Int×(zo2×Unit)):=some ((List.length b.2.1:Int),(b,()))
def t_2 (N:Nat):Tab (Int×(zo2×Unit)):=[]
theorem z1j4 (N:Nat)(x:zw [(0,.box TT5)]):z4x (E_2 N) N (t_2 N) L_2 Tryd.f17 (mkS [(0,.box TT5)] 0 x) (z5r (.v (.int .i64)) [(0,.box TT5)] 0)=z57 N x.1:=by kernel_rfl
def zga (N:Nat):List A->Res:=zy [(0,.box TT5)] (fun x=>z57 N x.1) (z6u (.v (.int .i64)) [(0,.box TT5)] 0)
theorem zhi (N:Nat):Contract Tryd.prog zey 17 (zga N) :=
 Contract.of (E:=E_2 N) (H:=t_2 N) (L:=L_2) (N:=N) (body:=z1qw) (K:=(z5r (.v (.int .i64)) [(0,.box TT5)] 0)) (Eok_2 N) Tryd.func17 (by kernel_rfl) (by decide) (fun _ hb=>TabOk.nil) (fun x y h=>by rw[z1j4];exact h) (z3x (s:=(.v (.int .i64))) (os:=[(0,.box TT5)]) (m:=0))
def glob0:List (Int×(Int×(List UInt8×Unit))):=[(0,-1,[42],()),(1,-1,[43],()),(0,1,[63],())]
def glob1:List Int:=[0,1,56,2,57,49,28,3,61,58,42,50,38,29,17,4,62,47,59,36,45,43,51,22,53,39,33,30,24,18,12,5,63,55,48,27,60,41,37,16,46,35,44,21,52,32,23,11,54,26,40,15,34,20,31,10,25,14,19,9,13,8,7,6]
def glob:Nat->Option Dat:=lk [(0,⟨(.arr 3 z17t),glob0⟩),(1,⟨(.arr 64 (.int .u8)),glob1⟩)]
def z1qv:Code:=(Tryd.f43.body).getD .skip
def L_3:List (List Nat×List Nat):=[([0],[0]),([0,1],[0]),([0,1,1],[0]),([0,1,1,1],[0]),([0,1,1,1,1],[0]),([0,1,1,1,1,1],[0]),(z116,[0]),(z182,[2]),(z181,[2])]
def E_3 (N:Nat):Env:=z1d tys glob [] [] [] [] false [] []
theorem Eok_3 (N:Nat):EnvOk Tryd.prog (E_3 N):=zg mixed zn (FnsOk.nil) (ItsOk.nil)
def zbi (N:Nat)(x0:Int):Option Int:=(fun (w4:Int)=>(fun (w3:Int)=>(fun (w2:Int)=>(fun (w1:Int)=>(fun (w0:Int)=>some (zb Go.BinOp.and IntKind.i64 (IntKind.wrap IntKind.i64 (IntKind.wrap IntKind.u64 (w0+(z21 IntKind.u64 w0 32)))) 127)) (IntKind.wrap IntKind.u64 (w1+(z21 IntKind.u64 w1 16)))) (IntKind.wrap IntKind.u64 ((zb Go.BinOp.and IntKind.u64 w2 1085102592571150095)+(z21 IntKind.u64 (zb Go.BinOp.and IntKind.u64 w2 1085102592571150095) 8)))) (IntKind.wrap IntKind.u64 ((z21 IntKind.u64 w3 4)+w3))) (IntKind.wrap IntKind.u64 ((zb Go.BinOp.and IntKind.u64 (z21 IntKind.u64 w4 2) 3689348814741910323)+(zb Go.BinOp.and IntKind.u64 w4 3689348814741910323)))) (IntKind.wrap IntKind.u64 ((zb Go.BinOp.and IntKind.u64 (z21 IntKind.u64 x0 1) 6148914691236517205)+(zb Go.BinOp.and IntKind.u64 x0 6148914691236517205)))
def t_3 (N:Nat):Tab Int:=[]
theorem z1j3 (N:Nat)(x:zw [(0,.v (.int .u64))]):z4x (E_3 N) N (t_3 N) L_3 Tryd.f43 (mkS [(0,.v (.int .u64))] 0 x) (z2u (.v (.int .i64)) 1)=zbi N x.1:=by kernel_rfl
def z8d (N:Nat):List A->Res:=zy [(0,.v (.int .u64))] (fun x=>zbi N x.1) (z6e (.v (.int .i64)) 1)
theorem zg0 (N:Nat):Contract Tryd.prog glob 43 (z8d N) :=
 Contract.of (E:=E_3 N) (H:=t_3 N) (L:=L_3) (N:=N) (body:=z1qv) (K:=(z2u (.v (.int .i64)) 1)) (Eok_3 N) Tryd.func43 (by kernel_rfl) (by decide) (fun _ hb=>TabOk.nil) (fun x y h=>by rw[z1j3];exact h) (zz (s:=(.v (.int .i64))) (m:=1))
def z14j:Code:=(Tryd.f24.body).getD .skip
def L_4:List (List Nat×List Nat):=[([0],[1]),([0,1],[1,3]),([0,0,1,1],[7,6,3]),([0,1,0,1,1],[7,6,3]),([0,0,0,1,0,1,1],[8,6,7,3]),(ztb,[6,7,3]),([1,0,1,0,0,1,0,1,1],[3]),(z16v,[3,5,7,6]),([1,0,0,1,1,0,0,1,0,1,1],[7,6,3]),([0,1,1,0,0,1,0,1,1],[7,6,3]),([1,1,1,0,0,1,0,1,1],[7,6,3]),([1,0,1,1],[3]),([0,1,1,1],[2]),([1,1,1,1],[2])]
def E_4 (N:Nat):Env:=z1d tys glob [(43,z8d N)] [] [] [] false [] []
theorem Eok_4 (N:Nat):EnvOk Tryd.prog (E_4 N):=zg mixed zn (FnsOk.cons (zg0 N) (FnsOk.nil)) (ItsOk.nil)
def zhh (N:Nat)(x6:(List Int))(n:Int)(x7:Int)(rec:Int->Int->Option Int)(k0:Int->Option Int):Option Int:=(fun (w4:Int)=>(fun (w3:Int)=>(fun (w2:Int)=>(fun (w1:Int)=>(fun (w0:Int)=>cond (decide (x7<4)) (cond (inR x7 4) (rec (IntKind.wrap IntKind.i64 (n+(zb Go.BinOp.and IntKind.i64 (IntKind.wrap IntKind.i64 (IntKind.wrap IntKind.u64 (w0+(z21 IntKind.u64 w0 32)))) 127))) (IntKind.wrap IntKind.i64 (x7+1))) none) (k0 n)) (IntKind.wrap IntKind.u64 (w1+(z21 IntKind.u64 w1 16)))) (IntKind.wrap IntKind.u64 ((zb Go.BinOp.and IntKind.u64 w2 1085102592571150095)+(z21 IntKind.u64 (zb Go.BinOp.and IntKind.u64 w2 1085102592571150095) 8)))) (IntKind.wrap IntKind.u64 ((z21 IntKind.u64 w3 4)+w3))) (IntKind.wrap IntKind.u64 ((zb Go.BinOp.and IntKind.u64 (z21 IntKind.u64 w4 2) 3689348814741910323)+(zb Go.BinOp.and IntKind.u64 w4 3689348814741910323)))) (IntKind.wrap IntKind.u64 ((zb Go.BinOp.and IntKind.u64 (z21 IntKind.u64 (List.getD x6 (Int.toNat x7) 0) 1) 6148914691236517205)+(zb Go.BinOp.and IntKind.u64 (List.getD x6 (Int.toNat x7) 0) 6148914691236517205)))
def zni (N:Nat)(n:Int)(x6:(List Int))(x7:Int)(k0:Int->Option Int):Option Int:=iter (fun (v:(Int×Int)) r=>zhh N x6 v.1 v.2 (fun n x7=>(r (n,x7))) k0) N (n,x7)
def g1_4 (N:Nat)(i:(List Int))(v:(Int×Int))(r:(Int×Int)->Option Int)(K:Ex->List A->Option Int):Option Int:=zhh N i v.1 v.2 (fun n x7=>(r (n,x7))) (fun a0=>(K (.exit 0) (mkS [(3,.v (.int .i64))] 12 (a0,()))))
def h1_4 (N:Nat):Hd Int:=fun st K=>(unS [(3,.v (.int .i64)),(2,.v (.arr 4 (.int .u64))),(0,.v (.int .i64))] 8 (restr [7,6,3] 0 st)).bind fun x=>iter (fun v r=>g1_4 N ((fun x=>x.2.1) x) v r K) N ((fun x=>(x.1,x.2.2.1)) x)
def t1_4 (N:Nat):Tab Int:=[]
theorem ok1_4 {N:Nat}{c:Ctx}(hb:Base Tryd.prog (E_4 N) c):zi Tryd.prog c (zf z14j [0,1,0,1,1]) (h1_4 N) :=
 z2p (s:=[(3,.v (.int .i64)),(2,.v (.arr 4 (.int .u64))),(0,.v (.int .i64))]) (m:=8) (g1_4 N) [7,6,3] N (fun x=>x.2.1) (fun x=>(x.1,x.2.2.1)) (fun i v=>(v.1,i,v.2,())) (fun _=>rfl) (ze hb N (t1_4 N) L_4 z14j TabOk.nil [0,0,1,0,1,1] _ rfl) (fun i v r K=>by kernel_rfl)
def zad (N:Nat)(s:(List Int)):Option Int:=zni N 0 s 0 (fun n=>some n)
def t_4 (N:Nat):Tab Int:=[([0,1,0,1,1],h1_4 N)]
theorem z1j2 (N:Nat)(x:zw zo0):z4x (E_4 N) N (t_4 N) L_4 Tryd.f24 (mkS zo0 0 x) (z2u (.v (.int .i64)) 1)=zad N x.1:=by kernel_rfl
def zg7 (N:Nat):List A->Res:=zy zo0 (fun x=>zad N x.1) (z6e (.v (.int .i64)) 1)
theorem znj (N:Nat):Contract Tryd.prog glob 24 (zg7 N) :=
 Contract.of (E:=E_4 N) (H:=t_4 N) (L:=L_4) (N:=N) (body:=z14j) (K:=(z2u (.v (.int .i64)) 1)) (Eok_4 N) Tryd.func24 (by kernel_rfl) (by decide) (fun _ hb=>(TabOk.cons (ok1_4 hb) TabOk.nil)) (fun x y h=>by rw[z1j2];exact h) (zz (s:=(.v (.int .i64))) (m:=1))
def z1qu:Code:=(Tryd.f44.body).getD .skip
def L_5:List (List Nat×List Nat):=[([0],[0]),([0,0,1],[4,0]),([1,0,1],[0]),([0,0,1,0,1],[2]),([1,0,1,0,1],[2]),([0,1,1],[2]),([1,1,1],[2])]
def E_5 (N:Nat):Env:=z1d tys glob [] [] [] [] false [] []
theorem Eok_5 (N:Nat):EnvOk Tryd.prog (E_5 N):=zg mixed zn (FnsOk.nil) (ItsOk.nil)
def z1x (N:Nat)(x0:Int):Option Int:=cond (x0 == 0) (some 64) (cond (inR (z21 IntKind.u64 (IntKind.wrap IntKind.u64 (285870213051353865*(zb Go.BinOp.and IntKind.u64 x0 (IntKind.wrap IntKind.u64 (0 - x0))))) 58) 64) (some (IntKind.wrap IntKind.i64 (List.getD glob1 (Int.toNat (z21 IntKind.u64 (IntKind.wrap IntKind.u64 (285870213051353865*(zb Go.BinOp.and IntKind.u64 x0 (IntKind.wrap IntKind.u64 (0 - x0))))) 58)) 0))) none)
def t_5 (N:Nat):Tab Int:=[]
theorem z1j1 (N:Nat)(x:zw [(0,.v (.int .u64))]):z4x (E_5 N) N (t_5 N) L_5 Tryd.f44 (mkS [(0,.v (.int .u64))] 0 x) (z2u (.v (.int .i64)) 1)=z1x N x.1:=by kernel_rfl
def z5q (N:Nat):List A->Res:=zy [(0,.v (.int .u64))] (fun x=>z1x N x.1) (z6e (.v (.int .i64)) 1)
theorem zcy (N:Nat):Contract Tryd.prog glob 44 (z5q N) :=
 Contract.of (E:=E_5 N) (H:=t_5 N) (L:=L_5) (N:=N) (body:=z1qu) (K:=(z2u (.v (.int .i64)) 1)) (Eok_5 N) Tryd.func44 (by kernel_rfl) (by decide) (fun _ hb=>TabOk.nil) (fun x y h=>by rw[z1j1];exact h) (zz (s:=(.v (.int .i64))) (m:=1))
def z14i:Code:=(Tryd.f25.body).getD .skip
def L_6:List (List Nat×List Nat):=[([0],[1]),([0,0,1],[6,1]),([1,0,1],[1]),([0,0,1,0,1],[2]),([1,0,1,0,1],[2]),([0,1,1],[3,1]),([0,0,1,1,1],[3,1]),([0,0,0,0,0,1,1,1],[10,3,1]),([1,0,0,0,0,1,1,1],[3,1]),([1,1,0,0,0,0,1,1,1],[3,1]),([0,1,0,0,0,1,1,1],[3,1]),([1,0,0,0,1,1,1],[3,1]),([0,1,1,1],[3,1]),([0,1,1,1,1],[2]),([1,1,1,1,1],[2])]
def E_6 (N:Nat):Env:=z1d tys glob [(44,z5q N)] [] [] [] false [] []
theorem Eok_6 (N:Nat):EnvOk Tryd.prog (E_6 N):=zg mixed zn (FnsOk.cons (zcy N) (FnsOk.nil)) (ItsOk.nil)
def zhf (N:Nat)(s:(List Int))(i:Int)(rec:Int->Option Int)(k0:Int->Option Int):Option Int:=cond (inR i 4) (cond (decide ((Int.toNat i)<(List.length s))) (cond ((List.getD s (Int.toNat i) 0) == 0) (rec (IntKind.wrap IntKind.i64 (i+1))) (k0 i)) none) none
def zhg (N:Nat)(s:(List Int))(i:Int)(k0:Int->Option Int):Option Int:=iter (fun (v:Int) r=>zhf N s v (fun i=>(r i)) k0) N i
def g1_6 (N:Nat)(i:(List Int))(v:Int)(r:Int->Option Int)(K:Ex->List A->Option Int):Option Int:=zhf N i v (fun i=>(r i)) (fun a1=>(K (.exit 0) (mkS z1dx 16 (i,a1,()))))
def h1_6 (N:Nat):Hd Int:=fun st K=>(unS z1dx 16 (restr [3,1] 0 st)).bind fun x=>iter (fun v r=>g1_6 N ((fun x=>x.1) x) v r K) N ((fun x=>x.2.1) x)
def t1_6 (N:Nat):Tab Int:=[]
theorem ok1_6 {N:Nat}{c:Ctx}(hb:Base Tryd.prog (E_6 N) c):zi Tryd.prog c (zf z14i [0,0,1,1,1]) (h1_6 N) :=
 z2p (s:=z1dx) (m:=16) (g1_6 N) [3,1] N (fun x=>x.1) (fun x=>x.2.1) (fun i v=>(i,v,())) (fun _=>rfl) (ze hb N (t1_6 N) L_6 z14i TabOk.nil [0,0,0,1,1,1] _ rfl) (fun i v r K=>by kernel_rfl)
def z1l (N:Nat)(s:(List Int)):Option Int:=cond (eqD (T.arr 4 (T.int IntKind.u64)) s ([0,0,0,0]:List Int)) (some (-1)) (zhg N s 0 (fun i=>cond (inR i 4) (cond (decide ((Int.toNat i)<(List.length s))) ((z1x N (List.getD s (Int.toNat i) 0)).bind fun y=>some (IntKind.wrap IntKind.i64 ((IntKind.wrap IntKind.i64 (i*64))+y))) none) none))
def t_6 (N:Nat):Tab Int:=[([0,0,1,1,1],h1_6 N)]
theorem z1j0 (N:Nat)(x:zw zo0):z4x (E_6 N) N (t_6 N) L_6 Tryd.f25 (mkS zo0 0 x) (z2u (.v (.int .i64)) 1)=z1l N x.1:=by kernel_rfl
def z4t (N:Nat):List A->Res:=zy zo0 (fun x=>z1l N x.1) (z6e (.v (.int .i64)) 1)
theorem z8h (N:Nat):Contract Tryd.prog glob 25 (z4t N) :=
 Contract.of (E:=E_6 N) (H:=t_6 N) (L:=L_6) (N:=N) (body:=z14i) (K:=(z2u (.v (.int .i64)) 1)) (Eok_6 N) Tryd.func25 (by kernel_rfl) (by decide) (fun _ hb=>(TabOk.cons (ok1_6 hb) TabOk.nil)) (fun x y h=>by rw[z1j0];exact h) (zz (s:=(.v (.int .i64))) (m:=1))
def z1qt:Code:=(Tryd.f54.body).getD .skip
def L_7:List (List Nat×List Nat):=[([0],[0,1]),([0,1],[4]),([1,1],[4])]
def E_7 (N:Nat):Env:=z1d tys glob [(65,z13l)] [] [] [] false [] []
theorem Eok_7 (N:Nat):EnvOk Tryd.prog (E_7 N):=zg mixed zn (FnsOk.cons ((Contract.up (z1j9 zey) glob)) (FnsOk.nil)) (ItsOk.nil)
def zfh (N:Nat)(s:(List UInt8))(c:Int):Option Int:=some (Go.Lib.indexByte s (Nat.toUInt8 (Int.toNat c)))
def t_7 (N:Nat):Tab Int:=[]
theorem z1iz (N:Nat)(x:zw [(0,.v .str),(0,.v (.int .u8))]):z4x (E_7 N) N (t_7 N) L_7 Tryd.f54 (mkS [(0,.v .str),(0,.v (.int .u8))] 0 x) (z2u (.v (.int .i64)) 2)=zfh N x.1 x.2.1:=by kernel_rfl
def z2m (N:Nat):List A->Res:=zy [(0,.v .str),(0,.v (.int .u8))] (fun x=>zfh N x.1 x.2.1) (z6e (.v (.int .i64)) 2)
theorem z3c (N:Nat):Contract Tryd.prog glob 54 (z2m N) :=
 Contract.of (E:=E_7 N) (H:=t_7 N) (L:=L_7) (N:=N) (body:=z1qt) (K:=(z2u (.v (.int .i64)) 2)) (Eok_7 N) Tryd.func54 (by kernel_rfl) (by decide) (fun _ hb=>TabOk.nil) (fun x y h=>by rw[z1iz];exact h) (zz (s:=(.v (.int .i64))) (m:=2))
def zv8:Code:=(Tryd.f34.body).getD .skip
def L_8:List (List Nat×List Nat):=[([0],[1,0]),([0,0,1],[8,0]),([1,0,1],[0]),([0,0,1,0,1],[4]),([1,0,1,0,1],[4]),([0,0,1,1],[17,0]),([1,0,1,1],[0]),([0,0,1,0,1,1],[4]),([1,0,1,0,1,1],[4]),([0,1,1,1],[4]),([1,1,1,1],[4])]
def E_8 (N:Nat):Env:=z1d tys glob [(54,z2m N)] [] [] [] false [] []
theorem Eok_8 (N:Nat):EnvOk Tryd.prog (E_8 N):=zg mixed zn (FnsOk.cons (z3c N) (FnsOk.nil)) (ItsOk.nil)
def zfn (N:Nat)(b:Int)(k0:Bool->Option (List UInt8)):Option (List UInt8):=cond (decide (b<32)) (k0 true) (k0 (decide (126<b)))
def g2_8 (N:Nat)(x:zw [(0,.v (.int .u8))])(K:Ex->List A->Option (List UInt8)):Option (List UInt8):=zfn N x.1 (fun a1=>(K .normal (mkS [(0,.v (.int .u8)),(16,.v .bool)] 11 (x.1,a1,()))))
def h2_8 (N:Nat):Hd (List UInt8):=fun st K=>(unS [(0,.v (.int .u8))] 28 (restr [0] 0 st)).bind fun x=>g2_8 N x K
def t2_8 (N:Nat):Tab (List UInt8):=[]
theorem ok2_8 {N:Nat}{c:Ctx}(hb:Base Tryd.prog (E_8 N) c):zi Tryd.prog c (zf zv8 [0,0,1,1]) (h2_8 N) :=
 zh (s:=[(0,.v (.int .u8))]) (m:=28) (g:=g2_8 N) [0] (ze hb N (t2_8 N) L_8 zv8 TabOk.nil [0,0,1,1] _ rfl) (fun x K=>by kernel_rfl)
def zfo (N:Nat)(b:Int)(k0:(List UInt8)->Option (List UInt8))(k1:Option (List UInt8)):Option (List UInt8):=zfn N b (fun x17=>cond x17 (cond (inR (z21 IntKind.u8 b 4) 16) (cond (inR (zb Go.BinOp.and IntKind.u8 b 15) 16) (k0 (zd7 ([92,120,(UInt8.toNat (List.getD ([(48:UInt8),(49:UInt8),(50:UInt8),(51:UInt8),(52:UInt8),(53:UInt8),(54:UInt8),(55:UInt8),(56:UInt8),(57:UInt8),(97:UInt8),(98:UInt8),(99:UInt8),(100:UInt8),(101:UInt8),(102:UInt8)]:List UInt8) (Int.toNat (z21 IntKind.u8 b 4)) (0:UInt8)):Int),(UInt8.toNat (List.getD ([(48:UInt8),(49:UInt8),(50:UInt8),(51:UInt8),(52:UInt8),(53:UInt8),(54:UInt8),(55:UInt8),(56:UInt8),(57:UInt8),(97:UInt8),(98:UInt8),(99:UInt8),(100:UInt8),(101:UInt8),(102:UInt8)]:List UInt8) (Int.toNat (zb Go.BinOp.and IntKind.u8 b 15)) (0:UInt8)):Int)]:List Int))) none) none) k1)
def g1_8 (N:Nat)(x:zw [(0,.v (.int .u8))])(K:Ex->List A->Option (List UInt8)):Option (List UInt8):=zfo N x.1 (fun a0=>(K .ret (mkS [(4,.v .str)] 24 (a0,())))) (K .normal (mkS [(0,.v (.int .u8))] 28 (x.1,())))
def h1_8 (N:Nat):Hd (List UInt8):=fun st K=>(unS [(0,.v (.int .u8))] 28 (restr [0] 0 st)).bind fun x=>g1_8 N x K
def t1_8 (N:Nat):Tab (List UInt8):=[([0,0,1,1],h2_8 N)]
theorem ok1_8 {N:Nat}{c:Ctx}(hb:Base Tryd.prog (E_8 N) c):zi Tryd.prog c (zf zv8 [0,1,1]) (h1_8 N) :=
 zh (s:=[(0,.v (.int .u8))]) (m:=28) (g:=g1_8 N) [0] (ze hb N (t1_8 N) L_8 zv8 (TabOk.cons (ok2_8 hb) TabOk.nil) [0,1,1] _ rfl) (fun x K=>by kernel_rfl)
def z4a (N:Nat)(b:Int)(slashed:(List UInt8)):Option (List UInt8):=cond (decide (0<=(Go.Lib.indexByte slashed (Nat.toUInt8 (Int.toNat b))))) (some (zd7 ([92,b]:List Int))) (zfo N b (fun x4=>some x4) (some (zd7 ([b]:List Int))))
def t_8 (N:Nat):Tab (List UInt8):=[([0,1,1],h1_8 N)]
theorem z1iy (N:Nat)(x:zw [(0,.v (.int .u8)),(0,.v .str)]):z4x (E_8 N) N (t_8 N) L_8 Tryd.f34 (mkS [(0,.v (.int .u8)),(0,.v .str)] 0 x) (z2u (.v .str) 2)=z4a N x.1 x.2.1:=by kernel_rfl
def z9m (N:Nat):List A->Res:=zy [(0,.v (.int .u8)),(0,.v .str)] (fun x=>z4a N x.1 x.2.1) (z6e (.v .str) 2)
theorem zfp (N:Nat):Contract Tryd.prog glob 34 (z9m N) :=
 Contract.of (E:=E_8 N) (H:=t_8 N) (L:=L_8) (N:=N) (body:=zv8) (K:=(z2u (.v .str) 2)) (Eok_8 N) Tryd.func34 (by kernel_rfl) (by decide) (fun _ hb=>(TabOk.cons (ok1_8 hb) TabOk.nil)) (fun x y h=>by rw[z1iy];exact h) (zz (s:=(.v .str)) (m:=2))
def z1qs:Code:=(Tryd.f10.body).getD .skip
def L_9:List (List Nat×List Nat):=[([0],[0]),([0,1],[2]),([1,1],[2])]
def E_9 (N:Nat):Env:=z1d tys glob [(34,z9m N)] [] [] [] false [] []
theorem Eok_9 (N:Nat):EnvOk Tryd.prog (E_9 N):=zg mixed zn (FnsOk.cons (zfp N) (FnsOk.nil)) (ItsOk.nil)
def z8x (N:Nat)(b:Int):Option (List UInt8):=(z4a N b ([(92:UInt8),(46:UInt8),(91:UInt8),(93:UInt8),(40:UInt8),(41:UInt8),(124:UInt8),(123:UInt8),(125:UInt8),(42:UInt8),(43:UInt8),(63:UInt8)]:List UInt8)).bind fun y=>some y
def t_9 (N:Nat):Tab (List UInt8):=[]
theorem z1ix (N:Nat)(x:zw [(0,.v (.int .u8))]):z4x (E_9 N) N (t_9 N) L_9 Tryd.f10 (mkS [(0,.v (.int .u8))] 0 x) (z2u (.v .str) 1)=z8x N x.1:=by kernel_rfl
def z8g (N:Nat):List A->Res:=zy [(0,.v (.int .u8))] (fun x=>z8x N x.1) (z6e (.v .str) 1)
theorem zde (N:Nat):Contract Tryd.prog glob 10 (z8g N) :=
 Contract.of (E:=E_9 N) (H:=t_9 N) (L:=L_9) (N:=N) (body:=z1qs) (K:=(z2u (.v .str) 1)) (Eok_9 N) Tryd.func10 (by kernel_rfl) (by decide) (fun _ hb=>TabOk.nil) (fun x y h=>by rw[z1ix];exact h) (zz (s:=(.v .str)) (m:=1))
def z1cx:Code:=(Tryd.f45.body).getD .skip
def L_10:List (List Nat×List Nat):=[([0],[1,2,4]),([0,1],[2,4]),([0,1,1],[4]),([1,1,1],[4])]
def E_10 (N:Nat):Env:=z1d tys glob [] [] [] [] false [] []
theorem z1tl (N:Nat):EnvOk Tryd.prog (E_10 N):=zg mixed zn (FnsOk.nil) (ItsOk.nil)
def z9g (N:Nat)(s:(List Int))(b:Int):Option (List Int):=cond (inR (IntKind.wrap IntKind.u8 (Int.tdiv b 64)) 4) (cond (decide ((Int.toNat (IntKind.wrap IntKind.u8 (Int.tdiv b 64)))<(List.length s))) (cond (decide (0<=(Int.tmod b 64))) (cond (inR (IntKind.wrap IntKind.u8 (Int.tdiv b 64)) 4) (cond (decide ((Int.toNat (IntKind.wrap IntKind.u8 (Int.tdiv b 64)))<(List.length s))) (some (List.set s (Int.toNat (IntKind.wrap IntKind.u8 (Int.tdiv b 64))) (zb Go.BinOp.or IntKind.u64 (List.getD s (Int.toNat (IntKind.wrap IntKind.u8 (Int.tdiv b 64))) 0) (z11d IntKind.u64 1 (Int.tmod b 64))))) none) none) none) none) none
def t_10 (N:Nat):Tab (List Int):=[]
theorem z1bt (N:Nat)(x:zw z1dv):z4x (E_10 N) N (t_10 N) L_10 Tryd.f45 (mkS z1dv 0 x) (z2u (.v (.arr 4 (.int .u64))) 2)=z9g N x.1 x.2.1:=by kernel_rfl
def zbu (N:Nat):List A->Res:=zy z1dv (fun x=>z9g N x.1 x.2.1) (z6e (.v (.arr 4 (.int .u64))) 2)
theorem zih (N:Nat):Contract Tryd.prog glob 45 (zbu N) :=
 Contract.of (E:=E_10 N) (H:=t_10 N) (L:=L_10) (N:=N) (body:=z1cx) (K:=(z2u (.v (.arr 4 (.int .u64))) 2)) (z1tl N) Tryd.func45 (by kernel_rfl) (by decide) (fun _ hb=>TabOk.nil) (fun x y h=>by rw[z1bt];exact h) (zz (s:=(.v (.arr 4 (.int .u64)))) (m:=2))
def zxs:Code:=(Tryd.f26.body).getD .skip
def L_11:List (List Nat×List Nat):=[([0],[0,1,4]),([0,1],[0,1,5,4]),([0,0,1,1],[6,1,5,4]),([0,1,0,1,1],[6,1,5,4]),(z11b,[12,5,6,1,4]),(z11a,[5,6,1,4]),(z1e8,[5,4]),([0,0,1,0,0,1,0,1,1],[6,1,5,4]),(ztb,[6,1,5,4]),(z119,[6,1,5,4]),([1,0,1,1],[5,4]),([0,1,1,1],[4]),([1,1,1,1],[4])]
def E_11 (N:Nat):Env:=z1d tys glob [(45,zbu N)] [] [] [] false [] []
theorem z1tk (N:Nat):EnvOk Tryd.prog (E_11 N):=zg mixed zn (FnsOk.cons (zih N) (FnsOk.nil)) (ItsOk.nil)
def zcz (N:Nat)(hi:Int)(x4:(List Int))(s:(List Int))(b:Int)(rec:(List Int)->Int->Option (List Int))(k0:(List Int)->Option (List Int)):Option (List Int):=cond (decide (b<=(IntKind.wrap IntKind.i64 hi))) ((z9g N s (IntKind.wrap IntKind.u8 b)).bind fun y=>rec y (IntKind.wrap IntKind.i64 (b+1))) (k0 s)
def zlm (N:Nat)(hi:Int)(x4:(List Int))(s:(List Int))(b:Int)(k0:(List Int)->Option (List Int)):Option (List Int):=iter (fun (v:((List Int)×Int)) r=>zcz N hi x4 v.1 v.2 (fun s b=>(r (s,b))) k0) N (s,b)
def z1qi (N:Nat)(i:(Int×(List Int)))(v:((List Int)×Int))(r:((List Int)×Int)->Option (List Int))(K:Ex->List A->Option (List Int)):Option (List Int):=zcz N i.1 i.2 v.1 v.2 (fun s b=>(r (s,b))) (fun a1=>(K (.exit 0) (mkS [(4,.box (.arr 4 (.int .u64))),(0,.box (.arr 4 (.int .u64)))] 14 (i.2,a1,()))))
def z1mw (N:Nat):Hd (List Int):=fun st K=>(unS SQ71 13 (restr [6,1,5,4] 0 st)).bind fun x=>iter (fun v r=>z1qi N ((fun x=>(x.1,x.2.1)) x) v r K) N ((fun x=>(x.2.2.1,x.2.2.2.1)) x)
def t1_11 (N:Nat):Tab (List Int):=[]
theorem z1is {N:Nat}{c:Ctx}(hb:Base Tryd.prog (E_11 N) c):zi Tryd.prog c (zf zxs [0,1,0,1,1]) (z1mw N) :=
 z2p (s:=SQ71) (m:=13) (z1qi N) [6,1,5,4] N (fun x=>(x.1,x.2.1)) (fun x=>(x.2.2.1,x.2.2.2.1)) (fun i v=>(i.1,i.2,v.1,v.2,())) (fun _=>rfl) (ze hb N (t1_11 N) L_11 zxs TabOk.nil [0,0,1,0,1,1] _ rfl) (fun i v r K=>by kernel_rfl)
def z29 (N:Nat)(lo:Int)(hi:Int):Option (List Int):=zlm N hi ([0,0,0,0]:List Int) ([0,0,0,0]:List Int) (IntKind.wrap IntKind.i64 lo) (fun s=>some s)
def t_11 (N:Nat):Tab (List Int):=[([0,1,0,1,1],z1mw N)]
theorem z1bs (N:Nat)(x:zw z1ds):z4x (E_11 N) N (t_11 N) L_11 Tryd.f26 (mkS z1ds 0 x) (z2u (.v (.arr 4 (.int .u64))) 2)=z29 N x.1 x.2.1:=by kernel_rfl
def z2j (N:Nat):List A->Res:=zy z1ds (fun x=>z29 N x.1 x.2.1) (z6e (.v (.arr 4 (.int .u64))) 2)
theorem z34 (N:Nat):Contract Tryd.prog glob 26 (z2j N) :=
 Contract.of (E:=E_11 N) (H:=t_11 N) (L:=L_11) (N:=N) (body:=zxs) (K:=(z2u (.v (.arr 4 (.int .u64))) 2)) (z1tk N) Tryd.func26 (by kernel_rfl) (by decide) (fun _ hb=>(TabOk.cons (z1is hb) TabOk.nil)) (fun x y h=>by rw[z1bs];exact h) (zz (s:=(.v (.arr 4 (.int .u64)))) (m:=2))
def zxr:Code:=(Tryd.f27.body).getD .skip
def L_12:List (List Nat×List Nat):=[([0],[0,2]),([0,1],[0,3,2]),([0,0,1,1],[7,6,3,0,2]),([0,1,0,1,1],[7,6,3,0,2]),([0,0,0,1,0,1,1],[8,7,3,0,6,2]),(ztb,[7,3,0,6,2]),([1,0,1,0,0,1,0,1,1],[3,2]),(z16v,[3,0,4,7,6,2]),([1,0,0,1,1,0,0,1,0,1,1],[7,6,3,0,2]),([0,1,1,0,0,1,0,1,1],[7,6,3,0,2]),([1,1,1,0,0,1,0,1,1],[7,6,3,0,2]),([1,0,1,1],[3,2]),([0,1,1,1],[2]),([1,1,1,1],[2])]
def E_12 (N:Nat):Env:=z1d tys glob [(45,zbu N)] [] [] [] false [] []
theorem z1tj (N:Nat):EnvOk Tryd.prog (E_12 N):=zg mixed zn (FnsOk.cons (zih N) (FnsOk.nil)) (ItsOk.nil)
def zhd (N:Nat)(s:(List UInt8))(x2:(List Int))(x6:Int)(set_:(List Int))(x7:Int)(rec:(List Int)->Int->Option (List Int))(k0:(List Int)->Option (List Int)):Option (List Int):=cond (decide (x7<x6)) (cond (inR x7 (List.length s)) ((z9g N set_ (UInt8.toNat (List.getD s (Int.toNat x7) (0:UInt8)):Int)).bind fun y=>rec y (IntKind.wrap IntKind.i64 (x7+1))) none) (k0 set_)
def znh (N:Nat)(s:(List UInt8))(x2:(List Int))(set_:(List Int))(x6:Int)(x7:Int)(k0:(List Int)->Option (List Int)):Option (List Int):=iter (fun (v:((List Int)×Int)) r=>zhd N s x2 x6 v.1 v.2 (fun set_ x7=>(r (set_,x7))) k0) N (set_,x7)
def z1qh (N:Nat)(i:((List UInt8)×(List Int)×Int))(v:((List Int)×Int))(r:((List Int)×Int)->Option (List Int))(K:Ex->List A->Option (List Int)):Option (List Int):=zhd N i.1 i.2.1 i.2.2 v.1 v.2 (fun set_ x7=>(r (set_,x7))) (fun a1=>(K (.exit 0) (mkS [(2,.box (.arr 4 (.int .u64))),(0,.box (.arr 4 (.int .u64)))] 13 (i.2.1,a1,()))))
def z1mv (N:Nat):Hd (List Int):=fun st K=>(unS SQ62 9 (restr [7,6,3,0,2] 0 st)).bind fun x=>iter (fun v r=>z1qh N ((fun x=>(x.1,x.2.1,x.2.2.2.1)) x) v r K) N ((fun x=>(x.2.2.1,x.2.2.2.2.1)) x)
def t1_12 (N:Nat):Tab (List Int):=[]
theorem z1ir {N:Nat}{c:Ctx}(hb:Base Tryd.prog (E_12 N) c):zi Tryd.prog c (zf zxr [0,1,0,1,1]) (z1mv N) :=
 z2p (s:=SQ62) (m:=9) (z1qh N) [7,6,3,0,2] N (fun x=>(x.1,x.2.1,x.2.2.2.1)) (fun x=>(x.2.2.1,x.2.2.2.2.1)) (fun i v=>(i.1,i.2.1,v.1,i.2.2,v.2,())) (fun _=>rfl) (ze hb N (t1_12 N) L_12 zxr TabOk.nil [0,0,1,0,1,1] _ rfl) (fun i v r K=>by kernel_rfl)
def z48 (N:Nat)(s:(List UInt8)):Option (List Int):=znh N s ([0,0,0,0]:List Int) ([0,0,0,0]:List Int) (List.length s:Int) 0 (fun set_=>some set_)
def t_12 (N:Nat):Tab (List Int):=[([0,1,0,1,1],z1mv N)]
theorem z1br (N:Nat)(x:zw [(0,.v .str)]):z4x (E_12 N) N (t_12 N) L_12 Tryd.f27 (mkS [(0,.v .str)] 0 x) (z2u (.v (.arr 4 (.int .u64))) 1)=z48 N x.1:=by kernel_rfl
def z76 (N:Nat):List A->Res:=zy [(0,.v .str)] (fun x=>z48 N x.1) (z6e (.v (.arr 4 (.int .u64))) 1)
theorem zbv (N:Nat):Contract Tryd.prog glob 27 (z76 N) :=
 Contract.of (E:=E_12 N) (H:=t_12 N) (L:=L_12) (N:=N) (body:=zxr) (K:=(z2u (.v (.arr 4 (.int .u64))) 1)) (z1tj N) Tryd.func27 (by kernel_rfl) (by decide) (fun _ hb=>(TabOk.cons (z1ir hb) TabOk.nil)) (fun x y h=>by rw[z1br];exact h) (zz (s:=(.v (.arr 4 (.int .u64)))) (m:=1))
def z1cw:Code:=(Tryd.f46.body).getD .skip
def L_13:List (List Nat×List Nat):=[([0],[1,2]),([0,1],[4]),([1,1],[4])]
def E_13 (N:Nat):Env:=z1d tys glob [] [] [] [] false [] []
theorem z1ti (N:Nat):EnvOk Tryd.prog (E_13 N):=zg mixed zn (FnsOk.nil) (ItsOk.nil)
def zel (N:Nat)(s:(List Int))(b:Int):Option Bool:=cond (inR (IntKind.wrap IntKind.u8 (Int.tdiv b 64)) 4) (cond (decide ((Int.toNat (IntKind.wrap IntKind.u8 (Int.tdiv b 64)))<(List.length s))) (cond (decide (0<=(Int.tmod b 64))) (some ((zb Go.BinOp.and IntKind.u64 (z21 IntKind.u64 (List.getD s (Int.toNat (IntKind.wrap IntKind.u8 (Int.tdiv b 64))) 0) (Int.tmod b 64)) 1) == 1)) none) none) none
def t_13 (N:Nat):Tab Bool:=[]
theorem z1bq (N:Nat)(x:zw z1dv):z4x (E_13 N) N (t_13 N) L_13 Tryd.f46 (mkS z1dv 0 x) (z2u (.v .bool) 2)=zel N x.1 x.2.1:=by kernel_rfl
def zii (N:Nat):List A->Res:=zy z1dv (fun x=>zel N x.1 x.2.1) (z6e (.v .bool) 2)
theorem zqk (N:Nat):Contract Tryd.prog glob 46 (zii N) :=
 Contract.of (E:=E_13 N) (H:=t_13 N) (L:=L_13) (N:=N) (body:=z1cw) (K:=(z2u (.v .bool) 2)) (z1ti N) Tryd.func46 (by kernel_rfl) (by decide) (fun _ hb=>TabOk.nil) (fun x y h=>by rw[z1bq];exact h) (zz (s:=(.v .bool)) (m:=2))
def z1cv:Code:=(Tryd.f47.body).getD .skip
def L_14:List (List Nat×List Nat):=[([0],[0,1]),([0,1],[1,0,5,6]),([0,0,1,1],[13,5,6]),([0,0,1,0,1,1],[14,5,13,6]),([1,0,1,0,1,1],[5,6]),(z180,[17,5,6]),([1,1,1,0,1,0,1,1],[5,6]),([0,0,1,1,1,0,1,0,1,1],[4]),([1,0,1,1,1,0,1,0,1,1],[4]),([0,0,1,0,1,0,1,1],[4]),([1,0,1,0,1,0,1,1],[4]),([1,0,1,1],[5,6]),([0,1,1,1],[4]),([1,1,1,1],[4])]
def E_14 (N:Nat):Env:=z1d tys glob [(34,z9m N)] [] [] [] false [] []
theorem z1th (N:Nat):EnvOk Tryd.prog (E_14 N):=zg mixed zn (FnsOk.cons (zfp N) (FnsOk.nil)) (ItsOk.nil)
def zdc (N:Nat)(lo:Int)(hi:Int):Option (List UInt8):=(z4a N lo ([(92:UInt8),(91:UInt8),(93:UInt8),(45:UInt8),(94:UInt8)]:List UInt8)).bind fun y=>(z4a N hi ([(92:UInt8),(91:UInt8),(93:UInt8),(45:UInt8),(94:UInt8)]:List UInt8)).bind fun y1=>cond ((IntKind.wrap IntKind.u8 (hi - lo)) == 0) (some y) (cond ((IntKind.wrap IntKind.u8 (hi - lo)) == 1) (cond (decide (((List.length y)+(List.length y1))<=9223372036854775807)) (some (y++y1)) none) (cond (decide (((List.length y)+1)<=9223372036854775807)) (cond (decide (((List.length (y++([(45:UInt8)]:List UInt8)))+(List.length y1))<=9223372036854775807)) (some ((y++([(45:UInt8)]:List UInt8))++y1)) none) none))
def t_14 (N:Nat):Tab (List UInt8):=[]
theorem z1bp (N:Nat)(x:zw z1ds):z4x (E_14 N) N (t_14 N) L_14 Tryd.f47 (mkS z1ds 0 x) (z2u (.v .str) 2)=zdc N x.1 x.2.1:=by kernel_rfl
def zhw (N:Nat):List A->Res:=zy z1ds (fun x=>zdc N x.1 x.2.1) (z6e (.v .str) 2)
theorem zq5 (N:Nat):Contract Tryd.prog glob 47 (zhw N) :=
 Contract.of (E:=E_14 N) (H:=t_14 N) (L:=L_14) (N:=N) (body:=z1cv) (K:=(z2u (.v .str) 2)) (z1th N) Tryd.func47 (by kernel_rfl) (by decide) (fun _ hb=>TabOk.nil) (fun x y h=>by rw[z1bp];exact h) (zz (s:=(.v .str)) (m:=2))
def zxq:Code:=(Tryd.f64.body).getD .skip
def L_15:List (List Nat×List Nat):=[([0],[1,2]),([0,0,1],[4,1,2]),([0,1,0,1],[4,1,2]),([0,0,0,1,0,1],[5,4,1,2]),(z14n,[4,1,2]),(z118,[1,2]),(z1r3,[3,1,4,2]),([1,0,0,1,1,0,0,1,0,1],[4,1,2]),(z14p,[4,1,2]),(z14o,[4,1,2]),([1,0,1],[1,2]),([0,1,1],[2]),([1,1,1],[2])]
def E_15 (N:Nat):Env:=z1d tys glob [] [] [] [] false [] []
theorem z1tg (N:Nat):EnvOk Tryd.prog (E_15 N):=zg mixed zn (FnsOk.nil) (ItsOk.nil)
def zjq (N:Nat)(x2:(List Int))(s:(List Int))(x4:Int)(rec:(List Int)->Int->Option (List Int))(k0:(List Int)->Option (List Int)):Option (List Int):=cond (decide (x4<4)) (cond (inR x4 4) (cond (decide ((Int.toNat x4)<(List.length s))) (cond (inR x4 4) (cond (decide ((Int.toNat x4)<(List.length s))) (rec (List.set s (Int.toNat x4) (zb Go.BinOp.xor IntKind.u64 (if ((IntKind.signed IntKind.u64)=true) then (-1) else (IntKind.max IntKind.u64)) (List.getD s (Int.toNat x4) 0))) (IntKind.wrap IntKind.i64 (x4+1))) none) none) none) none) (k0 s)
def zqj (N:Nat)(s:(List Int))(x2:(List Int))(x4:Int)(k0:(List Int)->Option (List Int)):Option (List Int):=iter (fun (v:((List Int)×Int)) r=>zjq N x2 v.1 v.2 (fun s x4=>(r (s,x4))) k0) N (s,x4)
def z1qg (N:Nat)(i:(List Int))(v:((List Int)×Int))(r:((List Int)×Int)->Option (List Int))(K:Ex->List A->Option (List Int)):Option (List Int):=zjq N i v.1 v.2 (fun s x4=>(r (s,x4))) (fun a0=>(K (.exit 0) (mkS [(1,.box (.arr 4 (.int .u64))),(0,.box (.arr 4 (.int .u64)))] 12 (a0,i,()))))
def z1mu (N:Nat):Hd (List Int):=fun st K=>(unS [(1,.box (.arr 4 (.int .u64))),(0,.box (.arr 4 (.int .u64))),(1,.v (.int .i64))] 10 (restr [4,1,2] 0 st)).bind fun x=>iter (fun v r=>z1qg N ((fun x=>x.2.1) x) v r K) N ((fun x=>(x.1,x.2.2.1)) x)
def t1_15 (N:Nat):Tab (List Int):=[]
theorem z1iq {N:Nat}{c:Ctx}(hb:Base Tryd.prog (E_15 N) c):zi Tryd.prog c (zf zxq [0,1,0,1]) (z1mu N) :=
 z2p (s:=[(1,.box (.arr 4 (.int .u64))),(0,.box (.arr 4 (.int .u64))),(1,.v (.int .i64))]) (m:=10) (z1qg N) [4,1,2] N (fun x=>x.2.1) (fun x=>(x.1,x.2.2.1)) (fun i v=>(v.1,i,v.2,())) (fun _=>rfl) (ze hb N (t1_15 N) L_15 zxq TabOk.nil [0,0,1,0,1] _ rfl) (fun i v r K=>by kernel_rfl)
def zek (N:Nat)(s:(List Int)):Option (List Int):=zqj N s ([0,0,0,0]:List Int) 0 (fun s1=>some s1)
def t_15 (N:Nat):Tab (List Int):=[([0,1,0,1],z1mu N)]
theorem z1bo (N:Nat)(x:zw zo0):z4x (E_15 N) N (t_15 N) L_15 Tryd.f64 (mkS zo0 0 x) (z2u (.v (.arr 4 (.int .u64))) 1)=zek N x.1:=by kernel_rfl
def zac (N:Nat):List A->Res:=zy zo0 (fun x=>zek N x.1) (z6e (.v (.arr 4 (.int .u64))) 1)
theorem zfe (N:Nat):Contract Tryd.prog glob 64 (zac N) :=
 Contract.of (E:=E_15 N) (H:=t_15 N) (L:=L_15) (N:=N) (body:=zxq) (K:=(z2u (.v (.arr 4 (.int .u64))) 1)) (z1tg N) Tryd.func64 (by kernel_rfl) (by decide) (fun _ hb=>(TabOk.cons (z1iq hb) TabOk.nil)) (fun x y h=>by rw[z1bo];exact h) (zz (s:=(.v (.arr 4 (.int .u64)))) (m:=1))
def zxp:Code:=(Tryd.f63.body).getD .skip
def L_16:List (List Nat×List Nat):=[([0],[2,3,4]),([0,0,1],[6,2,3,4]),([0,1,0,1],[6,2,3,4]),([0,0,0,1,0,1],[7,6,2,3,4]),(z14n,[6,2,3,4]),(z118,[2,4]),(z1r3,[5,2,3,6,4]),([1,0,0,1,1,0,0,1,0,1],[6,2,3,4]),(z14p,[6,2,3,4]),(z14o,[6,2,3,4]),([1,0,1],[2,4]),([0,1,1],[4]),([1,1,1],[4])]
def E_16 (N:Nat):Env:=z1d tys glob [] [] [] [] false [] []
theorem z1tf (N:Nat):EnvOk Tryd.prog (E_16 N):=zg mixed zn (FnsOk.nil) (ItsOk.nil)
def zjr (N:Nat)(t:(List Int))(x4:(List Int))(s:(List Int))(x6:Int)(rec:(List Int)->Int->Option (List Int))(k0:(List Int)->Option (List Int)):Option (List Int):=cond (decide (x6<4)) (cond (inR x6 4) (cond (decide ((Int.toNat x6)<(List.length s))) (cond (inR x6 4) (cond (decide ((Int.toNat x6)<(List.length t))) (cond (inR x6 4) (cond (decide ((Int.toNat x6)<(List.length s))) (rec (List.set s (Int.toNat x6) (zb Go.BinOp.and IntKind.u64 (List.getD s (Int.toNat x6) 0) (List.getD t (Int.toNat x6) 0))) (IntKind.wrap IntKind.i64 (x6+1))) none) none) none) none) none) none) (k0 s)
def zql (N:Nat)(s:(List Int))(t:(List Int))(x4:(List Int))(x6:Int)(k0:(List Int)->Option (List Int)):Option (List Int):=iter (fun (v:((List Int)×Int)) r=>zjr N t x4 v.1 v.2 (fun s x6=>(r (s,x6))) k0) N (s,x6)
def z1qf (N:Nat)(i:((List Int)×(List Int)))(v:((List Int)×Int))(r:((List Int)×Int)->Option (List Int))(K:Ex->List A->Option (List Int)):Option (List Int):=zjr N i.1 i.2 v.1 v.2 (fun s x6=>(r (s,x6))) (fun a0=>(K (.exit 0) (mkS SQ76 14 (a0,i.2,()))))
def z1mt (N:Nat):Hd (List Int):=fun st K=>(unS SQ30 12 (restr [6,2,3,4] 0 st)).bind fun x=>iter (fun v r=>z1qf N ((fun x=>(x.2.1,x.2.2.1)) x) v r K) N ((fun x=>(x.1,x.2.2.2.1)) x)
def t1_16 (N:Nat):Tab (List Int):=[]
theorem z1ip {N:Nat}{c:Ctx}(hb:Base Tryd.prog (E_16 N) c):zi Tryd.prog c (zf zxp [0,1,0,1]) (z1mt N) :=
 z2p (s:=SQ30) (m:=12) (z1qf N) [6,2,3,4] N (fun x=>(x.2.1,x.2.2.1)) (fun x=>(x.1,x.2.2.2.1)) (fun i v=>(v.1,i.1,i.2,v.2,())) (fun _=>rfl) (ze hb N (t1_16 N) L_16 zxp TabOk.nil [0,0,1,0,1] _ rfl) (fun i v r K=>by kernel_rfl)
def zkn (N:Nat)(s:(List Int))(t:(List Int)):Option (List Int):=zql N s t ([0,0,0,0]:List Int) 0 (fun s1=>some s1)
def t_16 (N:Nat):Tab (List Int):=[([0,1,0,1],z1mt N)]
theorem z1bn (N:Nat)(x:zw z11i):z4x (E_16 N) N (t_16 N) L_16 Tryd.f63 (mkS z11i 0 x) (z2u (.v (.arr 4 (.int .u64))) 2)=zkn N x.1 x.2.1:=by kernel_rfl
def zij (N:Nat):List A->Res:=zy z11i (fun x=>zkn N x.1 x.2.1) (z6e (.v (.arr 4 (.int .u64))) 2)
theorem zqm (N:Nat):Contract Tryd.prog glob 63 (zij N) :=
 Contract.of (E:=E_16 N) (H:=t_16 N) (L:=L_16) (N:=N) (body:=zxp) (K:=(z2u (.v (.arr 4 (.int .u64))) 2)) (z1tf N) Tryd.func63 (by kernel_rfl) (by decide) (fun _ hb=>(TabOk.cons (z1ip hb) TabOk.nil)) (fun x y h=>by rw[z1bn];exact h) (zz (s:=(.v (.arr 4 (.int .u64)))) (m:=2))
def z1cu:Code:=(Tryd.f48.body).getD .skip
def L_17:List (List Nat×List Nat):=[([0],[2,3,4]),([0,1],[4]),([1,1],[4])]
def E_17 (N:Nat):Env:=z1d tys glob [(63,zij N),(64,zac N)] [] [] [] false [] []
theorem z1te (N:Nat):EnvOk Tryd.prog (E_17 N):=zg mixed zn (FnsOk.cons (zqm N) (FnsOk.cons (zfe N) (FnsOk.nil))) (ItsOk.nil)
def zbl (N:Nat)(s:(List Int))(t:(List Int)):Option (List Int):=(zek N t).bind fun y=>(zkn N s y).bind fun y1=>some y1
def t_17 (N:Nat):Tab (List Int):=[]
theorem z1bm (N:Nat)(x:zw z11i):z4x (E_17 N) N (t_17 N) L_17 Tryd.f48 (mkS z11i 0 x) (z2u (.v (.arr 4 (.int .u64))) 2)=zbl N x.1 x.2.1:=by kernel_rfl
def zhe (N:Nat):List A->Res:=zy z11i (fun x=>zbl N x.1 x.2.1) (z6e (.v (.arr 4 (.int .u64))) 2)
theorem zpj (N:Nat):Contract Tryd.prog glob 48 (zhe N) :=
 Contract.of (E:=E_17 N) (H:=t_17 N) (L:=L_17) (N:=N) (body:=z1cu) (K:=(z2u (.v (.arr 4 (.int .u64))) 2)) (z1te N) Tryd.func48 (by kernel_rfl) (by decide) (fun _ hb=>TabOk.nil) (fun x y h=>by rw[z1bm];exact h) (zz (s:=(.v (.arr 4 (.int .u64)))) (m:=2))
def zem:Code:=(Tryd.f28.body).getD .skip
def z1df:List (List Nat×List Nat):=[([0],[1]),([0,1],[1,3]),([0,0,1,1],[4,1,3]),([0,1,0,1,1],[4,1,3]),(z11b,[9,4,1,3]),(z11a,[4,1,3]),(z1e8,[3]),([0,0,0,1,0,0,1,0,1,1],[5,1,4,3]),([0,0,1,0,0,1,0,0,1,0,1,1],[5,1,4,3]),([0,0,0,0,0,1,0,0,1,0,0,1,0,1,1],[21,5,1,4,3]),([1,0,0,0,0,1,0,0,1,0,0,1,0,1,1],[5,1,4,3]),([1,1,0,0,0,0,1,0,0,1,0,0,1,0,1,1],[4,5,3,1]),([0,1,0,0,0,1,0,0,1,0,0,1,0,1,1],[5,1,4,3]),([1,0,0,0,1,0,0,1,0,0,1,0,1,1],[5,1,4,3]),(z1e9,[4,5,3,1]),([0,1,1,0,0,1,0,0,1,0,1,1],[1,4,5,3]),([1,1,1,0,0,1,0,0,1,0,1,1],[1,3]),(ztb,[1,3]),(z119,[4,1,3]),([1,0,1,1],[3]),([0,1,1,1],[2]),([1,1,1,1],[2])]
def z188 (N:Nat):Env:=z1d tys glob [(48,zhe N),(47,zhw N),(46,zii N),(26,z2j N),(25,z4t N),(19,z4k N),(21,z120)] [] [] [] false [(3,TT5)] []
theorem z1td (N:Nat):EnvOk Tryd.prog (z188 N):=zg mixed zn (FnsOk.cons (zpj N) (FnsOk.cons (zq5 N) (FnsOk.cons (zqk N) (FnsOk.cons (z34 N) (FnsOk.cons (z8h N) (FnsOk.cons ((Contract.up (z4y N) glob)) (FnsOk.cons ((Contract.up (z172 zey) glob)) (FnsOk.nil)))))))) (ItsOk.nil)
def zdb (N:Nat)(s:(List Int))(out:zo2)(lo:Int)(hi:Int)(k0:Option (List UInt8))(k1:Option (List UInt8)):Option (List UInt8):=cond (decide (hi<255)) ((zel N s (IntKind.wrap IntKind.u8 (IntKind.wrap IntKind.i64 (hi+1)))).bind fun y=>cond y k0 k1) k1
def z1nh (N:Nat)(x:zw SQ9)(K:Ex->List A->Option (List UInt8)):Option (List UInt8):=zdb N x.1 x.2.1 x.2.2.1 x.2.2.2.1 (K .normal (mkS SQ9 32 (x.1,x.2.1,x.2.2.1,x.2.2.2.1,()))) (K (.exit 2) (mkS SQ9 32 (x.1,x.2.1,x.2.2.1,x.2.2.2.1,())))
def z1jv (N:Nat):Hd (List UInt8):=fun st K=>(unS SQ9 32 (restr [5,1,4,3] 0 st)).bind fun x=>z1nh N x K
def t5_18 (N:Nat):Tab (List UInt8):=[]
theorem z1fr {N:Nat}{c:Ctx}(hb:Base Tryd.prog (z188 N) c):zi Tryd.prog c (zf zem z1dc) (z1jv N) :=
 zh (s:=SQ9) (m:=32) (g:=z1nh N) [5,1,4,3] (ze hb N (t5_18 N) z1df zem TabOk.nil z1dc _ rfl) (fun x K=>by kernel_rfl)
def zd9 (N:Nat)(s:(List Int))(out:zo2)(lo:Int)(hi:Int)(rec:Int->Option (List UInt8))(k0:Int->Option (List UInt8)):Option (List UInt8):=zdb N s out lo hi (rec (IntKind.wrap IntKind.i64 (hi+1))) (k0 hi)
def zhu (N:Nat)(s:(List Int))(out:zo2)(lo:Int)(hi:Int)(k0:Int->Option (List UInt8)):Option (List UInt8):=iter (fun (v:Int) r=>zd9 N s out lo v (fun hi=>(r hi)) k0) N hi
def z1nq (N:Nat)(i:((List Int)×zo2×Int))(v:Int)(r:Int->Option (List UInt8))(K:Ex->List A->Option (List UInt8)):Option (List UInt8):=zd9 N i.1 i.2.1 i.2.2 v (fun hi=>(r hi)) (fun a3=>(K (.exit 2) (mkS SQ9 32 (i.1,i.2.1,i.2.2,a3,()))))
def z1k4 (N:Nat):Hd (List UInt8):=fun st K=>(unS SQ9 32 (restr [5,1,4,3] 0 st)).bind fun x=>iter (fun v r=>z1nq N ((fun x=>(x.1,x.2.1,x.2.2.1)) x) v r K) N ((fun x=>x.2.2.2.1) x)
def t4_18 (N:Nat):Tab (List UInt8):=[(z1dc,z1jv N)]
theorem z1g0 {N:Nat}{c:Ctx}(hb:Base Tryd.prog (z188 N) c):zi Tryd.prog c (zf zem [0,0,1,0,0,1,0,0,1,0,1,1]) (z1k4 N) :=
 z2p (s:=SQ9) (m:=32) (z1nq N) [5,1,4,3] N (fun x=>(x.1,x.2.1,x.2.2.1)) (fun x=>x.2.2.2.1) (fun i v=>(i.1,i.2.1,i.2.2,v,())) (fun _=>rfl) (ze hb N (t4_18 N) z1df zem (TabOk.cons (z1fr hb) TabOk.nil) [0,0,0,1,0,0,1,0,0,1,0,1,1] _ rfl) (fun i v r K=>by kernel_rfl)
def z9k (N:Nat)(s:(List Int))(out:zo2)(lo:Int)(hi:Int)(k0:Int->Option (List UInt8)):Option (List UInt8):=zhu N s out lo hi (fun hi1=>k0 hi1)
def z1o5 (N:Nat)(x:zw SQ9)(K:Ex->List A->Option (List UInt8)):Option (List UInt8):=z9k N x.1 x.2.1 x.2.2.1 x.2.2.2.1 (fun a3=>(K .normal (mkS SQ9 32 (x.1,x.2.1,x.2.2.1,a3,()))))
def z1kj (N:Nat):Hd (List UInt8):=fun st K=>(unS SQ9 32 (restr [5,1,4,3] 0 st)).bind fun x=>z1o5 N x K
def t3_18 (N:Nat):Tab (List UInt8):=[([0,0,1,0,0,1,0,0,1,0,1,1],z1k4 N)]
theorem z1gf {N:Nat}{c:Ctx}(hb:Base Tryd.prog (z188 N) c):zi Tryd.prog c (zf zem z1e9) (z1kj N) :=
 zh (s:=SQ9) (m:=32) (g:=z1o5 N) [5,1,4,3] (ze hb N (t3_18 N) z1df zem (TabOk.cons (z1g0 hb) TabOk.nil) z1e9 _ rfl) (fun x K=>by kernel_rfl)
def z9l (N:Nat)(s:(List Int))(out:zo2)(lo:Int)(k0:(List Int)->zo2->Option (List UInt8)):Option (List UInt8):=z9k N s out lo lo (fun hi=>(zdc N (IntKind.wrap IntKind.u8 lo) (IntKind.wrap IntKind.u8 hi)).bind fun y=>(z1a N out y).bind fun y1=>(z29 N (IntKind.wrap IntKind.u8 lo) (IntKind.wrap IntKind.u8 hi)).bind fun y2=>(zbl N s y2).bind fun y3=>k0 y3 y1.2.1)
def z1ox (N:Nat)(x:zw z1r1)(K:Ex->List A->Option (List UInt8)):Option (List UInt8):=z9l N x.1 x.2.1 x.2.2.1 (fun a0 a1=>(K .normal (mkS [(1,.box (.arr 4 (.int .u64))),(1,.box TT5)] 34 (a0,a1,()))))
def z1lb (N:Nat):Hd (List UInt8):=fun st K=>(unS z1r1 33 (restr [4,1,3] 0 st)).bind fun x=>z1ox N x K
def t2_18 (N:Nat):Tab (List UInt8):=[(z1e9,z1kj N)]
theorem z1h7 {N:Nat}{c:Ctx}(hb:Base Tryd.prog (z188 N) c):zi Tryd.prog c (zf zem ztb) (z1lb N) :=
 zh (s:=z1r1) (m:=33) (g:=z1ox N) [4,1,3] (ze hb N (t2_18 N) z1df zem (TabOk.cons (z1gf hb) TabOk.nil) ztb _ rfl) (fun x K=>by kernel_rfl)
def zda (N:Nat)(s:(List Int))(out:zo2)(lo:Int)(rec:(List Int)->zo2->Int->Option (List UInt8))(k0:zo2->Option (List UInt8)):Option (List UInt8):=cond (decide (0<=lo)) (z9l N s out lo (fun s1 out1=>(z1l N s1).bind fun y=>rec s1 out1 y)) (k0 out)
def zhv (N:Nat)(s:(List Int))(out:zo2)(lo:Int)(k0:zo2->Option (List UInt8)):Option (List UInt8):=iter (fun (v:((List Int)×zo2×Int)) r=>zda N v.1 v.2.1 v.2.2 (fun s out lo=>(r (s,out,lo))) k0) N (s,out,lo)
def z1qe (N:Nat)(i:Unit)(v:((List Int)×zo2×Int))(r:((List Int)×zo2×Int)->Option (List UInt8))(K:Ex->List A->Option (List UInt8)):Option (List UInt8):=zda N v.1 v.2.1 v.2.2 (fun s out lo=>(r (s,out,lo))) (fun a0=>(K (.exit 0) (mkS [(3,.box TT5)] 34 (a0,()))))
def z1ms (N:Nat):Hd (List UInt8):=fun st K=>(unS z1r1 33 (restr [4,1,3] 0 st)).bind fun x=>iter (fun v r=>z1qe N ((fun x=>()) x) v r K) N ((fun x=>(x.1,x.2.1,x.2.2.1)) x)
def t1_18 (N:Nat):Tab (List UInt8):=[(ztb,z1lb N)]
theorem z1io {N:Nat}{c:Ctx}(hb:Base Tryd.prog (z188 N) c):zi Tryd.prog c (zf zem [0,1,0,1,1]) (z1ms N) :=
 z2p (s:=z1r1) (m:=33) (z1qe N) [4,1,3] N (fun x=>()) (fun x=>(x.1,x.2.1,x.2.2.1)) (fun i v=>(v.1,v.2.1,v.2.2,())) (fun _=>rfl) (ze hb N (t1_18 N) z1df zem (TabOk.cons (z1h7 hb) TabOk.nil) [0,0,1,0,1,1] _ rfl) (fun i v r K=>by kernel_rfl)
def zb4 (N:Nat)(s:(List Int)):Option (List UInt8):=(z1l N s).bind fun y=>zhv N s ((),([],())) y (fun out=>(zti (out,())).bind fun y1=>some y1.1)
def t_18 (N:Nat):Tab (List UInt8):=[([0,1,0,1,1],z1ms N)]
theorem z1bl (N:Nat)(x:zw zo0):z4x (z188 N) N (t_18 N) z1df Tryd.f28 (mkS zo0 0 x) (z2u (.v .str) 1)=zb4 N x.1:=by kernel_rfl
def zh8 (N:Nat):List A->Res:=zy zo0 (fun x=>zb4 N x.1) (z6e (.v .str) 1)
theorem zoi (N:Nat):Contract Tryd.prog glob 28 (zh8 N) :=
 Contract.of (E:=z188 N) (H:=t_18 N) (L:=z1df) (N:=N) (body:=zem) (K:=(z2u (.v .str) 1)) (z1td N) Tryd.func28 (by kernel_rfl) (by decide) (fun _ hb=>(TabOk.cons (z1io hb) TabOk.nil)) (fun x y h=>by rw[z1bl];exact h) (zz (s:=(.v .str)) (m:=1))
def z1ct:Code:=(Tryd.f8.body).getD .skip
def L_19:List (List Nat×List Nat):=[([0],[1]),([0,0,0,1],[3,1]),([1,0,0,1],[1]),([0,1,1,0,0,1],[11,1]),([1,1,1,0,0,1],[1]),([0,1,1,1,1,0,0,1],[15,1]),([1,1,1,1,1,0,0,1],[1]),([0,1,1,1,1,1,1,0,0,1],[19,1]),([1,1,1,1,1,1,1,0,0,1],[1]),([0,1,1,1,1,1,1,1,1,0,0,1],[23,1]),([1,1,1,1,1,1,1,1,1,0,0,1],[1]),([0,0,1,1,1,1,1,1,1,1,1,0,0,1],[2]),([1,0,1,1,1,1,1,1,1,1,1,0,0,1],[2]),([0,0,1,1,1,1,1,1,1,0,0,1],[2]),([1,0,1,1,1,1,1,1,1,0,0,1],[2]),([0,0,1,1,1,1,1,0,0,1],[2]),([1,0,1,1,1,1,1,0,0,1],[2]),([0,0,1,1,1,0,0,1],[2]),([1,0,1,1,1,0,0,1],[2]),([0,0,1,0,0,1],[2]),([1,0,1,0,0,1],[2]),([0,1],[1]),([0,1,1],[2]),([1,1,1],[2])]
def E_19 (N:Nat):Env:=z1d tys glob [(28,zh8 N),(27,z76 N),(26,z2j N),(10,z8g N),(25,z4t N),(24,zg7 N)] [] [] [] false [] []
theorem z1tc (N:Nat):EnvOk Tryd.prog (E_19 N):=zg mixed zn (FnsOk.cons (zoi N) (FnsOk.cons (zbv N) (FnsOk.cons (z34 N) (FnsOk.cons (zde N) (FnsOk.cons (z8h N) (FnsOk.cons (znj N) (FnsOk.nil))))))) (ItsOk.nil)
def zau (N:Nat)(s:(List Int)):Option (List UInt8):=(zad N s).bind fun y=>cond (y == 1) ((z1l N s).bind fun y1=>(z8x N (IntKind.wrap IntKind.u8 y1)).bind fun y2=>some y2) ((z29 N 0 255).bind fun y3=>cond (eqD (T.arr 4 (T.int IntKind.u64)) s y3) (some ([(46:UInt8)]:List UInt8)) ((z48 N ([(48:UInt8),(49:UInt8),(50:UInt8),(51:UInt8),(52:UInt8),(53:UInt8),(54:UInt8),(55:UInt8),(56:UInt8),(57:UInt8)]:List UInt8)).bind fun y4=>cond (eqD (T.arr 4 (T.int IntKind.u64)) s y4) (some ([(92:UInt8),(100:UInt8)]:List UInt8)) ((z48 N ((48:UInt8)::(49:UInt8)::(50:UInt8)::(51:UInt8)::(52:UInt8)::(53:UInt8)::(54:UInt8)::(55:UInt8)::(56:UInt8)::(57:UInt8)::(65:UInt8)::(66:UInt8)::(67:UInt8)::(68:UInt8)::(69:UInt8)::(70:UInt8)::(71:UInt8)::(72:UInt8)::(73:UInt8)::(74:UInt8)::(75:UInt8)::(76:UInt8)::(77:UInt8)::(78:UInt8)::(79:UInt8)::(80:UInt8)::(81:UInt8)::(82:UInt8)::(83:UInt8)::(84:UInt8)::(85:UInt8)::(86:UInt8)::(87:UInt8)::(88:UInt8)::(89:UInt8)::(90:UInt8)::(95:UInt8)::(97:UInt8)::(98:UInt8)::(99:UInt8)::(100:UInt8)::(101:UInt8)::(102:UInt8)::(103:UInt8)::(104:UInt8)::(105:UInt8)::(106:UInt8)::(107:UInt8)::(108:UInt8)::(109:UInt8)::(110:UInt8)::(111:UInt8)::(112:UInt8)::(113:UInt8)::(114:UInt8)::(115:UInt8)::(116:UInt8)::(117:UInt8)::(118:UInt8)::(119:UInt8)::(120:UInt8)::(121:UInt8)::(122:UInt8)::[])).bind fun y5=>cond (eqD (T.arr 4 (T.int IntKind.u64)) s y5) (some ([(92:UInt8),(119:UInt8)]:List UInt8)) (cond (eqD (T.arr 4 (T.int IntKind.u64)) s ([0,0,0,0]:List Int)) (some ([(91:UInt8),(94:UInt8),(92:UInt8),(120:UInt8),(48:UInt8),(48:UInt8),(45:UInt8),(92:UInt8),(120:UInt8),(102:UInt8),(102:UInt8),(93:UInt8)]:List UInt8)) ((zb4 N s).bind fun y6=>cond (decide ((1+(List.length y6))<=9223372036854775807)) (cond (decide (((List.length (([(91:UInt8)]:List UInt8)++y6))+1)<=9223372036854775807)) (some ((([(91:UInt8)]:List UInt8)++y6)++([(93:UInt8)]:List UInt8))) none) none)))))
def t_19 (N:Nat):Tab (List UInt8):=[]
theorem z1bk (N:Nat)(x:zw zo0):z4x (E_19 N) N (t_19 N) L_19 Tryd.f8 (mkS zo0 0 x) (z2u (.v .str) 1)=zau N x.1:=by kernel_rfl
def zdd (N:Nat):List A->Res:=zy zo0 (fun x=>zau N x.1) (z6e (.v .str) 1)
theorem zjk (N:Nat):Contract Tryd.prog glob 8 (zdd N) :=
 Contract.of (E:=E_19 N) (H:=t_19 N) (L:=L_19) (N:=N) (body:=z1ct) (K:=(z2u (.v .str) 1)) (z1tc N) Tryd.func8 (by kernel_rfl) (by decide) (fun _ hb=>TabOk.nil) (fun x y h=>by rw[z1bk];exact h) (zz (s:=(.v .str)) (m:=1))
def z1cs:Code:=(Tryd.f18.body).getD .skip
def L_20:List (List Nat×List Nat):=[([0],[2,3]),([0,1],[4]),([1,1],[4])]
def E_20 (N:Nat):Env:=z1d tys glob [] [] [] [] false [] []
theorem z1tb (N:Nat):EnvOk Tryd.prog (E_20 N):=zg mixed zn (FnsOk.nil) (ItsOk.nil)
def z1u (N:Nat)(n:DT2)(kid:DT2):Option Bool:=cond (n.1 == 2) (cond (kid.1 == 3) (some true) (cond (n.1 == 4) (some (kid.1 != 1)) (some false))) (cond (n.1 == 4) (some (kid.1 != 1)) (some false))
def t_20 (N:Nat):Tab Bool:=[]
theorem z1bj (N:Nat)(x:zw [(0,.v TT1),(0,.v TT1)]):z4x (E_20 N) N (t_20 N) L_20 Tryd.f18 (mkS [(0,.v TT1),(0,.v TT1)] 0 x) (z2u (.v .bool) 2)=z1u N x.1 x.2.1:=by kernel_rfl
def zja (N:Nat):List A->Res:=zy [(0,.v TT1),(0,.v TT1)] (fun x=>z1u N x.1 x.2.1) (z6e (.v .bool) 2)
theorem zk1 (N:Nat):Contract Tryd.prog glob 18 (zja N) :=
 Contract.of (E:=E_20 N) (H:=t_20 N) (L:=L_20) (N:=N) (body:=z1cs) (K:=(z2u (.v .bool) 2)) (z1tb N) Tryd.func18 (by kernel_rfl) (by decide) (fun _ hb=>TabOk.nil) (fun x y h=>by rw[z1bj];exact h) (zz (s:=(.v .bool)) (m:=2))
def z1cr:Code:=(Tryd.f78.body).getD .skip
def L_21:List (List Nat×List Nat):=[([0],[0]),([0,0,1],[4,0]),([1,0,1],[0]),([0,0,1,0,1],[2]),([1,0,1,0,1],[2]),([0,1,1],[2]),([1,1,1],[2])]
def E_21 (N:Nat):Env:=z1d tys glob [] [] [] [] false [] []
theorem z1ta (N:Nat):EnvOk Tryd.prog (E_21 N):=zg mixed zn (FnsOk.nil) (ItsOk.nil)
def z63 (N:Nat)(i:Int):Option (List UInt8):=cond (decide (i<10)) (cond (decide ((0<=(IntKind.wrap IntKind.i64 (i+1)))/\((IntKind.wrap IntKind.i64 (i+1))<=36))) (cond (decide ((0<=i)/\(i<=(IntKind.wrap IntKind.i64 (i+1))))) (some (cut ([(48:UInt8),(49:UInt8),(50:UInt8),(51:UInt8),(52:UInt8),(53:UInt8),(54:UInt8),(55:UInt8),(56:UInt8),(57:UInt8),(97:UInt8),(98:UInt8),(99:UInt8),(100:UInt8),(101:UInt8),(102:UInt8),(103:UInt8),(104:UInt8),(105:UInt8),(106:UInt8),(107:UInt8),(108:UInt8),(109:UInt8),(110:UInt8),(111:UInt8),(112:UInt8),(113:UInt8),(114:UInt8),(115:UInt8),(116:UInt8),(117:UInt8),(118:UInt8),(119:UInt8),(120:UInt8),(121:UInt8),(122:UInt8)]:List UInt8) (Int.toNat i) (Int.toNat (IntKind.wrap IntKind.i64 (i+1))))) none) none) (cond (decide ((0<=(IntKind.wrap IntKind.i64 ((IntKind.wrap IntKind.i64 (i*2))+2)))/\((IntKind.wrap IntKind.i64 ((IntKind.wrap IntKind.i64 (i*2))+2))<=(List.length (List.append (List.append ([(48:UInt8),(48:UInt8),(48:UInt8),(49:UInt8),(48:UInt8),(50:UInt8),(48:UInt8),(51:UInt8),(48:UInt8),(52:UInt8),(48:UInt8),(53:UInt8),(48:UInt8),(54:UInt8),(48:UInt8),(55:UInt8),(48:UInt8),(56:UInt8),(48:UInt8),(57:UInt8),(49:UInt8),(48:UInt8),(49:UInt8),(49:UInt8),(49:UInt8),(50:UInt8),(49:UInt8),(51:UInt8),(49:UInt8),(52:UInt8),(49:UInt8),(53:UInt8),(49:UInt8),(54:UInt8),(49:UInt8),(55:UInt8),(49:UInt8),(56:UInt8),(49:UInt8),(57:UInt8),(50:UInt8),(48:UInt8),(50:UInt8),(49:UInt8),(50:UInt8),(50:UInt8),(50:UInt8),(51:UInt8),(50:UInt8),(52:UInt8)]:List UInt8) ([(50:UInt8),(53:UInt8),(50:UInt8),(54:UInt8),(50:UInt8),(55:UInt8),(50:UInt8),(56:UInt8),(50:UInt8),(57:UInt8),(51:UInt8),(48:UInt8),(51:UInt8),(49:UInt8),(51:UInt8),(50:UInt8),(51:UInt8),(51:UInt8),(51:UInt8),(52:UInt8),(51:UInt8),(53:UInt8),(51:UInt8),(54:UInt8),(51:UInt8),(55:UInt8),(51:UInt8),(56:UInt8),(51:UInt8),(57:UInt8),(52:UInt8),(48:UInt8),(52:UInt8),(49:UInt8),(52:UInt8),(50:UInt8),(52:UInt8),(51:UInt8),(52:UInt8),(52:UInt8),(52:UInt8),(53:UInt8),(52:UInt8),(54:UInt8),(52:UInt8),(55:UInt8),(52:UInt8),(56:UInt8),(52:UInt8),(57:UInt8)]:List UInt8)) (List.append ([(53:UInt8),(48:UInt8),(53:UInt8),(49:UInt8),(53:UInt8),(50:UInt8),(53:UInt8),(51:UInt8),(53:UInt8),(52:UInt8),(53:UInt8),(53:UInt8),(53:UInt8),(54:UInt8),(53:UInt8),(55:UInt8),(53:UInt8),(56:UInt8),(53:UInt8),(57:UInt8),(54:UInt8),(48:UInt8),(54:UInt8),(49:UInt8),(54:UInt8),(50:UInt8),(54:UInt8),(51:UInt8),(54:UInt8),(52:UInt8),(54:UInt8),(53:UInt8),(54:UInt8),(54:UInt8),(54:UInt8),(55:UInt8),(54:UInt8),(56:UInt8),(54:UInt8),(57:UInt8),(55:UInt8),(48:UInt8),(55:UInt8),(49:UInt8),(55:UInt8),(50:UInt8),(55:UInt8),(51:UInt8),(55:UInt8),(52:UInt8)]:List UInt8) ([(55:UInt8),(53:UInt8),(55:UInt8),(54:UInt8),(55:UInt8),(55:UInt8),(55:UInt8),(56:UInt8),(55:UInt8),(57:UInt8),(56:UInt8),(48:UInt8),(56:UInt8),(49:UInt8),(56:UInt8),(50:UInt8),(56:UInt8),(51:UInt8),(56:UInt8),(52:UInt8),(56:UInt8),(53:UInt8),(56:UInt8),(54:UInt8),(56:UInt8),(55:UInt8),(56:UInt8),(56:UInt8),(56:UInt8),(57:UInt8),(57:UInt8),(48:UInt8),(57:UInt8),(49:UInt8),(57:UInt8),(50:UInt8),(57:UInt8),(51:UInt8),(57:UInt8),(52:UInt8),(57:UInt8),(53:UInt8),(57:UInt8),(54:UInt8),(57:UInt8),(55:UInt8),(57:UInt8),(56:UInt8),(57:UInt8),(57:UInt8)]:List UInt8))):Int)))) (cond (decide ((0<=(IntKind.wrap IntKind.i64 (i*2)))/\((IntKind.wrap IntKind.i64 (i*2))<=(IntKind.wrap IntKind.i64 ((IntKind.wrap IntKind.i64 (i*2))+2))))) (some (cut (List.append (List.append ([(48:UInt8),(48:UInt8),(48:UInt8),(49:UInt8),(48:UInt8),(50:UInt8),(48:UInt8),(51:UInt8),(48:UInt8),(52:UInt8),(48:UInt8),(53:UInt8),(48:UInt8),(54:UInt8),(48:UInt8),(55:UInt8),(48:UInt8),(56:UInt8),(48:UInt8),(57:UInt8),(49:UInt8),(48:UInt8),(49:UInt8),(49:UInt8),(49:UInt8),(50:UInt8),(49:UInt8),(51:UInt8),(49:UInt8),(52:UInt8),(49:UInt8),(53:UInt8),(49:UInt8),(54:UInt8),(49:UInt8),(55:UInt8),(49:UInt8),(56:UInt8),(49:UInt8),(57:UInt8),(50:UInt8),(48:UInt8),(50:UInt8),(49:UInt8),(50:UInt8),(50:UInt8),(50:UInt8),(51:UInt8),(50:UInt8),(52:UInt8)]:List UInt8) ([(50:UInt8),(53:UInt8),(50:UInt8),(54:UInt8),(50:UInt8),(55:UInt8),(50:UInt8),(56:UInt8),(50:UInt8),(57:UInt8),(51:UInt8),(48:UInt8),(51:UInt8),(49:UInt8),(51:UInt8),(50:UInt8),(51:UInt8),(51:UInt8),(51:UInt8),(52:UInt8),(51:UInt8),(53:UInt8),(51:UInt8),(54:UInt8),(51:UInt8),(55:UInt8),(51:UInt8),(56:UInt8),(51:UInt8),(57:UInt8),(52:UInt8),(48:UInt8),(52:UInt8),(49:UInt8),(52:UInt8),(50:UInt8),(52:UInt8),(51:UInt8),(52:UInt8),(52:UInt8),(52:UInt8),(53:UInt8),(52:UInt8),(54:UInt8),(52:UInt8),(55:UInt8),(52:UInt8),(56:UInt8),(52:UInt8),(57:UInt8)]:List UInt8)) (List.append ([(53:UInt8),(48:UInt8),(53:UInt8),(49:UInt8),(53:UInt8),(50:UInt8),(53:UInt8),(51:UInt8),(53:UInt8),(52:UInt8),(53:UInt8),(53:UInt8),(53:UInt8),(54:UInt8),(53:UInt8),(55:UInt8),(53:UInt8),(56:UInt8),(53:UInt8),(57:UInt8),(54:UInt8),(48:UInt8),(54:UInt8),(49:UInt8),(54:UInt8),(50:UInt8),(54:UInt8),(51:UInt8),(54:UInt8),(52:UInt8),(54:UInt8),(53:UInt8),(54:UInt8),(54:UInt8),(54:UInt8),(55:UInt8),(54:UInt8),(56:UInt8),(54:UInt8),(57:UInt8),(55:UInt8),(48:UInt8),(55:UInt8),(49:UInt8),(55:UInt8),(50:UInt8),(55:UInt8),(51:UInt8),(55:UInt8),(52:UInt8)]:List UInt8) ([(55:UInt8),(53:UInt8),(55:UInt8),(54:UInt8),(55:UInt8),(55:UInt8),(55:UInt8),(56:UInt8),(55:UInt8),(57:UInt8),(56:UInt8),(48:UInt8),(56:UInt8),(49:UInt8),(56:UInt8),(50:UInt8),(56:UInt8),(51:UInt8),(56:UInt8),(52:UInt8),(56:UInt8),(53:UInt8),(56:UInt8),(54:UInt8),(56:UInt8),(55:UInt8),(56:UInt8),(56:UInt8),(56:UInt8),(57:UInt8),(57:UInt8),(48:UInt8),(57:UInt8),(49:UInt8),(57:UInt8),(50:UInt8),(57:UInt8),(51:UInt8),(57:UInt8),(52:UInt8),(57:UInt8),(53:UInt8),(57:UInt8),(54:UInt8),(57:UInt8),(55:UInt8),(57:UInt8),(56:UInt8),(57:UInt8),(57:UInt8)]:List UInt8))) (Int.toNat (IntKind.wrap IntKind.i64 (i*2))) (Int.toNat (IntKind.wrap IntKind.i64 ((IntKind.wrap IntKind.i64 (i*2))+2))))) none) none)
def t_21 (N:Nat):Tab (List UInt8):=[]
theorem z1bi (N:Nat)(x:zw [(0,.v (.int .i64))]):z4x (E_21 N) N (t_21 N) L_21 Tryd.f78 (mkS [(0,.v (.int .i64))] 0 x) (z2u (.v .str) 1)=z63 N x.1:=by kernel_rfl
def z7f (N:Nat):List A->Res:=zy [(0,.v (.int .i64))] (fun x=>z63 N x.1) (z6e (.v .str) 1)
theorem zfc (N:Nat):Contract Tryd.prog glob 78 (z7f N) :=
 Contract.of (E:=E_21 N) (H:=t_21 N) (L:=L_21) (N:=N) (body:=z1cr) (K:=(z2u (.v .str) 1)) (z1ta N) Tryd.func78 (by kernel_rfl) (by decide) (fun _ hb=>TabOk.nil) (fun x y h=>by rw[z1bi];exact h) (zz (s:=(.v .str)) (m:=1))
def zkt:Code:=(Tryd.f88.body).getD .skip
def z1rb:List (List Nat×List Nat):=[([0],[0,2]),([0,0,1],[4,0,2]),([1,0,1],[0,2]),([0,0,1,0,1],[0]),([1,0,1,0,1],[0,2]),([0,0,1,1],[8,0,2]),([1,0,1,1],[0,2]),([0,0,1,0,1,1],[2,0]),([1,0,1,0,1,1],[0,2]),([0,0,1,1,1],[14,0,2]),([1,0,1,1,1],[2,0]),(z115,[2,0]),(z14m,[2,0]),([0,1,1,1,1],[2]),([1,1,1,1,1],[2])]
def z1ei (N:Nat):Env:=z1d tys glob [] [] [] [] false [] []
theorem z1t9 (N:Nat):EnvOk Tryd.prog (z1ei N):=zg mixed zn (FnsOk.nil) (ItsOk.nil)
def zf2 (N:Nat)(x0:Int)(n:Int)(k0:Int->Int->Option Int):Option Int:=cond (decide (4294967296<=x0)) (k0 (z21 IntKind.u64 x0 32) 32) (k0 x0 n)
def z1qd (N:Nat)(x:zw z11h)(K:Ex->List A->Option Int):Option Int:=zf2 N x.1 x.2.1 (fun a0 a1=>(K .normal (mkS z11h 22 (a0,a1,()))))
def z1mr (N:Nat):Hd Int:=fun st K=>(unS z11h 22 (restr [0,2] 0 st)).bind fun x=>z1qd N x K
def t1_22 (N:Nat):Tab Int:=[]
theorem z1in {N:Nat}{c:Ctx}(hb:Base Tryd.prog (z1ei N) c):zi Tryd.prog c (zf zkt [0,1]) (z1mr N) :=
 zh (s:=z11h) (m:=22) (g:=z1qd N) [0,2] (ze hb N (t1_22 N) z1rb zkt TabOk.nil [0,1] _ rfl) (fun x K=>by kernel_rfl)
def zf1 (N:Nat)(x0:Int)(n:Int)(k0:Int->Int->Option Int):Option Int:=cond (decide (65536<=x0)) (k0 (z21 IntKind.u64 x0 16) (IntKind.wrap IntKind.i64 (n+16))) (k0 x0 n)
def z1ow (N:Nat)(x:zw z11h)(K:Ex->List A->Option Int):Option Int:=zf1 N x.1 x.2.1 (fun a0 a1=>(K .normal (mkS z11h 22 (a0,a1,()))))
def z1la (N:Nat):Hd Int:=fun st K=>(unS z11h 22 (restr [0,2] 0 st)).bind fun x=>z1ow N x K
def t2_22 (N:Nat):Tab Int:=[]
theorem z1h6 {N:Nat}{c:Ctx}(hb:Base Tryd.prog (z1ei N) c):zi Tryd.prog c (zf zkt [0,1,1]) (z1la N) :=
 zh (s:=z11h) (m:=22) (g:=z1ow N) [0,2] (ze hb N (t2_22 N) z1rb zkt TabOk.nil [0,1,1] _ rfl) (fun x K=>by kernel_rfl)
def zf0 (N:Nat)(x0:Int)(n:Int)(k0:Int->Int->Option Int):Option Int:=cond (decide (256<=x0)) (k0 (z21 IntKind.u64 x0 8) (IntKind.wrap IntKind.i64 (n+8))) (k0 x0 n)
def z1o4 (N:Nat)(x:zw z11h)(K:Ex->List A->Option Int):Option Int:=zf0 N x.1 x.2.1 (fun a0 a1=>(K .normal (mkS z11h 22 (a0,a1,()))))
def z1ki (N:Nat):Hd Int:=fun st K=>(unS z11h 22 (restr [0,2] 0 st)).bind fun x=>z1o4 N x K
def t3_22 (N:Nat):Tab Int:=[]
theorem z1ge {N:Nat}{c:Ctx}(hb:Base Tryd.prog (z1ei N) c):zi Tryd.prog c (zf zkt [0,1,1,1]) (z1ki N) :=
 zh (s:=z11h) (m:=22) (g:=z1o4 N) [0,2] (ze hb N (t3_22 N) z1rb zkt TabOk.nil [0,1,1,1] _ rfl) (fun x K=>by kernel_rfl)
def zee (N:Nat)(x0:Int):Option Int:=zf2 N x0 0 (fun x01 n=>zf1 N x01 n (fun x02 n1=>zf0 N x02 n1 (fun x03 n2=>cond (inR (IntKind.wrap IntKind.u8 x03) (List.length (List.append (List.append ((0:UInt8)::(1:UInt8)::(2:UInt8)::(2:UInt8)::(3:UInt8)::(3:UInt8)::(3:UInt8)::(3:UInt8)::(4:UInt8)::(4:UInt8)::(4:UInt8)::(4:UInt8)::(4:UInt8)::(4:UInt8)::(4:UInt8)::(4:UInt8)::(5:UInt8)::(5:UInt8)::(5:UInt8)::(5:UInt8)::(5:UInt8)::(5:UInt8)::(5:UInt8)::(5:UInt8)::(5:UInt8)::(5:UInt8)::(5:UInt8)::(5:UInt8)::(5:UInt8)::(5:UInt8)::(5:UInt8)::(5:UInt8)::(6:UInt8)::(6:UInt8)::(6:UInt8)::(6:UInt8)::(6:UInt8)::(6:UInt8)::(6:UInt8)::(6:UInt8)::(6:UInt8)::(6:UInt8)::(6:UInt8)::(6:UInt8)::(6:UInt8)::(6:UInt8)::(6:UInt8)::(6:UInt8)::(6:UInt8)::(6:UInt8)::(6:UInt8)::(6:UInt8)::(6:UInt8)::(6:UInt8)::(6:UInt8)::(6:UInt8)::(6:UInt8)::(6:UInt8)::(6:UInt8)::(6:UInt8)::(6:UInt8)::(6:UInt8)::(6:UInt8)::(6:UInt8)::[]) ((7:UInt8)::(7:UInt8)::(7:UInt8)::(7:UInt8)::(7:UInt8)::(7:UInt8)::(7:UInt8)::(7:UInt8)::(7:UInt8)::(7:UInt8)::(7:UInt8)::(7:UInt8)::(7:UInt8)::(7:UInt8)::(7:UInt8)::(7:UInt8)::(7:UInt8)::(7:UInt8)::(7:UInt8)::(7:UInt8)::(7:UInt8)::(7:UInt8)::(7:UInt8)::(7:UInt8)::(7:UInt8)::(7:UInt8)::(7:UInt8)::(7:UInt8)::(7:UInt8)::(7:UInt8)::(7:UInt8)::(7:UInt8)::(7:UInt8)::(7:UInt8)::(7:UInt8)::(7:UInt8)::(7:UInt8)::(7:UInt8)::(7:UInt8)::(7:UInt8)::(7:UInt8)::(7:UInt8)::(7:UInt8)::(7:UInt8)::(7:UInt8)::(7:UInt8)::(7:UInt8)::(7:UInt8)::(7:UInt8)::(7:UInt8)::(7:UInt8)::(7:UInt8)::(7:UInt8)::(7:UInt8)::(7:UInt8)::(7:UInt8)::(7:UInt8)::(7:UInt8)::(7:UInt8)::(7:UInt8)::(7:UInt8)::(7:UInt8)::(7:UInt8)::(7:UInt8)::[])) (List.append ((8:UInt8)::(8:UInt8)::(8:UInt8)::(8:UInt8)::(8:UInt8)::(8:UInt8)::(8:UInt8)::(8:UInt8)::(8:UInt8)::(8:UInt8)::(8:UInt8)::(8:UInt8)::(8:UInt8)::(8:UInt8)::(8:UInt8)::(8:UInt8)::(8:UInt8)::(8:UInt8)::(8:UInt8)::(8:UInt8)::(8:UInt8)::(8:UInt8)::(8:UInt8)::(8:UInt8)::(8:UInt8)::(8:UInt8)::(8:UInt8)::(8:UInt8)::(8:UInt8)::(8:UInt8)::(8:UInt8)::(8:UInt8)::(8:UInt8)::(8:UInt8)::(8:UInt8)::(8:UInt8)::(8:UInt8)::(8:UInt8)::(8:UInt8)::(8:UInt8)::(8:UInt8)::(8:UInt8)::(8:UInt8)::(8:UInt8)::(8:UInt8)::(8:UInt8)::(8:UInt8)::(8:UInt8)::(8:UInt8)::(8:UInt8)::(8:UInt8)::(8:UInt8)::(8:UInt8)::(8:UInt8)::(8:UInt8)::(8:UInt8)::(8:UInt8)::(8:UInt8)::(8:UInt8)::(8:UInt8)::(8:UInt8)::(8:UInt8)::(8:UInt8)::(8:UInt8)::[]) ((8:UInt8)::(8:UInt8)::(8:UInt8)::(8:UInt8)::(8:UInt8)::(8:UInt8)::(8:UInt8)::(8:UInt8)::(8:UInt8)::(8:UInt8)::(8:UInt8)::(8:UInt8)::(8:UInt8)::(8:UInt8)::(8:UInt8)::(8:UInt8)::(8:UInt8)::(8:UInt8)::(8:UInt8)::(8:UInt8)::(8:UInt8)::(8:UInt8)::(8:UInt8)::(8:UInt8)::(8:UInt8)::(8:UInt8)::(8:UInt8)::(8:UInt8)::(8:UInt8)::(8:UInt8)::(8:UInt8)::(8:UInt8)::(8:UInt8)::(8:UInt8)::(8:UInt8)::(8:UInt8)::(8:UInt8)::(8:UInt8)::(8:UInt8)::(8:UInt8)::(8:UInt8)::(8:UInt8)::(8:UInt8)::(8:UInt8)::(8:UInt8)::(8:UInt8)::(8:UInt8)::(8:UInt8)::(8:UInt8)::(8:UInt8)::(8:UInt8)::(8:UInt8)::(8:UInt8)::(8:UInt8)::(8:UInt8)::(8:UInt8)::(8:UInt8)::(8:UInt8)::(8:UInt8)::(8:UInt8)::(8:UInt8)::(8:UInt8)::(8:UInt8)::(8:UInt8)::[]))))) (some (IntKind.wrap IntKind.i64 (n2+(IntKind.wrap IntKind.i64 (((UInt8.toNat (List.getD (List.append (List.append ((0:UInt8)::(1:UInt8)::(2:UInt8)::(2:UInt8)::(3:UInt8)::(3:UInt8)::(3:UInt8)::(3:UInt8)::(4:UInt8)::(4:UInt8)::(4:UInt8)::(4:UInt8)::(4:UInt8)::(4:UInt8)::(4:UInt8)::(4:UInt8)::(5:UInt8)::(5:UInt8)::(5:UInt8)::(5:UInt8)::(5:UInt8)::(5:UInt8)::(5:UInt8)::(5:UInt8)::(5:UInt8)::(5:UInt8)::(5:UInt8)::(5:UInt8)::(5:UInt8)::(5:UInt8)::(5:UInt8)::(5:UInt8)::(6:UInt8)::(6:UInt8)::(6:UInt8)::(6:UInt8)::(6:UInt8)::(6:UInt8)::(6:UInt8)::(6:UInt8)::(6:UInt8)::(6:UInt8)::(6:UInt8)::(6:UInt8)::(6:UInt8)::(6:UInt8)::(6:UInt8)::(6:UInt8)::(6:UInt8)::(6:UInt8)::(6:UInt8)::(6:UInt8)::(6:UInt8)::(6:UInt8)::(6:UInt8)::(6:UInt8)::(6:UInt8)::(6:UInt8)::(6:UInt8)::(6:UInt8)::(6:UInt8)::(6:UInt8)::(6:UInt8)::(6:UInt8)::[]) ((7:UInt8)::(7:UInt8)::(7:UInt8)::(7:UInt8)::(7:UInt8)::(7:UInt8)::(7:UInt8)::(7:UInt8)::(7:UInt8)::(7:UInt8)::(7:UInt8)::(7:UInt8)::(7:UInt8)::(7:UInt8)::(7:UInt8)::(7:UInt8)::(7:UInt8)::(7:UInt8)::(7:UInt8)::(7:UInt8)::(7:UInt8)::(7:UInt8)::(7:UInt8)::(7:UInt8)::(7:UInt8)::(7:UInt8)::(7:UInt8)::(7:UInt8)::(7:UInt8)::(7:UInt8)::(7:UInt8)::(7:UInt8)::(7:UInt8)::(7:UInt8)::(7:UInt8)::(7:UInt8)::(7:UInt8)::(7:UInt8)::(7:UInt8)::(7:UInt8)::(7:UInt8)::(7:UInt8)::(7:UInt8)::(7:UInt8)::(7:UInt8)::(7:UInt8)::(7:UInt8)::(7:UInt8)::(7:UInt8)::(7:UInt8)::(7:UInt8)::(7:UInt8)::(7:UInt8)::(7:UInt8)::(7:UInt8)::(7:UInt8)::(7:UInt8)::(7:UInt8)::(7:UInt8)::(7:UInt8)::(7:UInt8)::(7:UInt8)::(7:UInt8)::(7:UInt8)::[])) (List.append ((8:UInt8)::(8:UInt8)::(8:UInt8)::(8:UInt8)::(8:UInt8)::(8:UInt8)::(8:UInt8)::(8:UInt8)::(8:UInt8)::(8:UInt8)::(8:UInt8)::(8:UInt8)::(8:UInt8)::(8:UInt8)::(8:UInt8)::(8:UInt8)::(8:UInt8)::(8:UInt8)::(8:UInt8)::(8:UInt8)::(8:UInt8)::(8:UInt8)::(8:UInt8)::(8:UInt8)::(8:UInt8)::(8:UInt8)::(8:UInt8)::(8:UInt8)::(8:UInt8)::(8:UInt8)::(8:UInt8)::(8:UInt8)::(8:UInt8)::(8:UInt8)::(8:UInt8)::(8:UInt8)::(8:UInt8)::(8:UInt8)::(8:UInt8)::(8:UInt8)::(8:UInt8)::(8:UInt8)::(8:UInt8)::(8:UInt8)::(8:UInt8)::(8:UInt8)::(8:UInt8)::(8:UInt8)::(8:UInt8)::(8:UInt8)::(8:UInt8)::(8:UInt8)::(8:UInt8)::(8:UInt8)::(8:UInt8)::(8:UInt8)::(8:UInt8)::(8:UInt8)::(8:UInt8)::(8:UInt8)::(8:UInt8)::(8:UInt8)::(8:UInt8)::(8:UInt8)::[]) ((8:UInt8)::(8:UInt8)::(8:UInt8)::(8:UInt8)::(8:UInt8)::(8:UInt8)::(8:UInt8)::(8:UInt8)::(8:UInt8)::(8:UInt8)::(8:UInt8)::(8:UInt8)::(8:UInt8)::(8:UInt8)::(8:UInt8)::(8:UInt8)::(8:UInt8)::(8:UInt8)::(8:UInt8)::(8:UInt8)::(8:UInt8)::(8:UInt8)::(8:UInt8)::(8:UInt8)::(8:UInt8)::(8:UInt8)::(8:UInt8)::(8:UInt8)::(8:UInt8)::(8:UInt8)::(8:UInt8)::(8:UInt8)::(8:UInt8)::(8:UInt8)::(8:UInt8)::(8:UInt8)::(8:UInt8)::(8:UInt8)::(8:UInt8)::(8:UInt8)::(8:UInt8)::(8:UInt8)::(8:UInt8)::(8:UInt8)::(8:UInt8)::(8:UInt8)::(8:UInt8)::(8:UInt8)::(8:UInt8)::(8:UInt8)::(8:UInt8)::(8:UInt8)::(8:UInt8)::(8:UInt8)::(8:UInt8)::(8:UInt8)::(8:UInt8)::(8:UInt8)::(8:UInt8)::(8:UInt8)::(8:UInt8)::(8:UInt8)::(8:UInt8)::(8:UInt8)::[]))) (Int.toNat (IntKind.wrap IntKind.u8 x03)) (0:UInt8))):Nat):Int))))) none)))
def t_22 (N:Nat):Tab Int:=[([0,1],z1mr N),([0,1,1],z1la N),([0,1,1,1],z1ki N)]
theorem z1bh (N:Nat)(x:zw [(0,.v (.int .u64))]):z4x (z1ei N) N (t_22 N) z1rb Tryd.f88 (mkS [(0,.v (.int .u64))] 0 x) (z2u (.v (.int .i64)) 1)=zee N x.1:=by kernel_rfl
def zed (N:Nat):List A->Res:=zy [(0,.v (.int .u64))] (fun x=>zee N x.1) (z6e (.v (.int .i64)) 1)
theorem zlf (N:Nat):Contract Tryd.prog glob 88 (zed N) :=
 Contract.of (E:=z1ei N) (H:=t_22 N) (L:=z1rb) (N:=N) (body:=zkt) (K:=(z2u (.v (.int .i64)) 1)) (z1t9 N) Tryd.func88 (by kernel_rfl) (by decide) (fun _ hb=>(TabOk.cons (z1in hb) (TabOk.cons (z1h6 hb) (TabOk.cons (z1ge hb) TabOk.nil)))) (fun x y h=>by rw[z1bh];exact h) (zz (s:=(.v (.int .i64))) (m:=1))
def z1cq:Code:=(Tryd.f87.body).getD .skip
def L_23:List (List Nat×List Nat):=[([0],[0]),([0,1],[2]),([1,1],[2])]
def E_23 (N:Nat):Env:=z1d tys glob [] [] [] [] false [] []
theorem z1t8 (N:Nat):EnvOk Tryd.prog (E_23 N):=zg mixed zn (FnsOk.nil) (ItsOk.nil)
def z7g (N:Nat)(x0:Int):Option Int:=some (z21 IntKind.i64 (IntKind.wrap IntKind.i64 (x0*78913)) 18)
def t_23 (N:Nat):Tab Int:=[]
theorem z1bg (N:Nat)(x:zw [(0,.v (.int .i64))]):z4x (E_23 N) N (t_23 N) L_23 Tryd.f87 (mkS [(0,.v (.int .i64))] 0 x) (z2u (.v (.int .i64)) 1)=z7g N x.1:=by kernel_rfl
def z51 (N:Nat):List A->Res:=zy [(0,.v (.int .i64))] (fun x=>z7g N x.1) (z6e (.v (.int .i64)) 1)
theorem zbq (N:Nat):Contract Tryd.prog glob 87 (z51 N) :=
 Contract.of (E:=E_23 N) (H:=t_23 N) (L:=L_23) (N:=N) (body:=z1cq) (K:=(z2u (.v (.int .i64)) 1)) (z1t8 N) Tryd.func87 (by kernel_rfl) (by decide) (fun _ hb=>TabOk.nil) (fun x y h=>by rw[z1bg];exact h) (zz (s:=(.v (.int .i64))) (m:=1))
def z1cp:Code:=(Tryd.f89.body).getD .skip
def L_24:List (List Nat×List Nat):=[([0],[0]),([0,0,1],[3]),([1,0,1],[]),([0,0,1,0,1],[2]),([1,0,1,0,1],[2]),([0,1,1],[2]),([1,1,1],[2])]
def E_24 (N:Nat):Env:=z1d tys glob [] [] [] [] false [] []
theorem z1t7 (N:Nat):EnvOk Tryd.prog (E_24 N):=zg mixed zn (FnsOk.nil) (ItsOk.nil)
def z7h (N:Nat)(b:Bool):Option Int:=cond b (some 1) (some 0)
def t_24 (N:Nat):Tab Int:=[]
theorem z1bf (N:Nat)(x:zw [(0,.v .bool)]):z4x (E_24 N) N (t_24 N) L_24 Tryd.f89 (mkS [(0,.v .bool)] 0 x) (z2u (.v (.int .i64)) 1)=z7h N x.1:=by kernel_rfl
def z52 (N:Nat):List A->Res:=zy [(0,.v .bool)] (fun x=>z7h N x.1) (z6e (.v (.int .i64)) 1)
theorem zbr (N:Nat):Contract Tryd.prog glob 89 (z52 N) :=
 Contract.of (E:=E_24 N) (H:=t_24 N) (L:=L_24) (N:=N) (body:=z1cp) (K:=(z2u (.v (.int .i64)) 1)) (z1t7 N) Tryd.func89 (by kernel_rfl) (by decide) (fun _ hb=>TabOk.nil) (fun x y h=>by rw[z1bf];exact h) (zz (s:=(.v (.int .i64))) (m:=1))
def z1co:Code:=(Tryd.f79.body).getD .skip
def L_25:List (List Nat×List Nat):=[([0],[0]),([0,1],[3,0]),([0,1,1],[2]),([1,1,1],[2])]
def E_25 (N:Nat):Env:=z1d tys glob [(89,z52 N),(87,z51 N),(88,zed N)] [] [] [] false [] []
theorem z1t6 (N:Nat):EnvOk Tryd.prog (E_25 N):=zg mixed zn (FnsOk.cons (zbr N) (FnsOk.cons (zbq N) (FnsOk.cons (zlf N) (FnsOk.nil)))) (ItsOk.nil)
def z3y (N:Nat)(d:Int):Option Int:=(zee N d).bind fun y=>none
def t_25 (N:Nat):Tab Int:=[]
theorem z1be (N:Nat)(x:zw [(0,.v (.int .u64))]):z4x (E_25 N) N (t_25 N) L_25 Tryd.f79 (mkS [(0,.v (.int .u64))] 0 x) (z2u (.v (.int .i64)) 1)=z3y N x.1:=by kernel_rfl
def z50 (N:Nat):List A->Res:=zy [(0,.v (.int .u64))] (fun x=>z3y N x.1) (z6e (.v (.int .i64)) 1)
theorem zbp (N:Nat):Contract Tryd.prog glob 79 (z50 N) :=
 Contract.of (E:=E_25 N) (H:=t_25 N) (L:=L_25) (N:=N) (body:=z1co) (K:=(z2u (.v (.int .i64)) 1)) (z1t6 N) Tryd.func79 (by kernel_rfl) (by decide) (fun _ hb=>TabOk.nil) (fun x y h=>by rw[z1be];exact h) (zz (s:=(.v (.int .i64))) (m:=1))
def zks:Code:=(Tryd.f71.body).getD .skip
def z1ra:List (List Nat×List Nat):=[([0],[1,0]),([0,0,1],[11,0,1]),([1,0,1],[0,1]),([0,0,0,1,0,1],[17,0]),([1,0,0,1,0,1],[0]),([0,0,1,0,0,1,0,1],[4]),(z118,[4]),([0,1,0,1,0,1],[0,5]),([0,1,1,0,1,0,1],[0,6,5]),([0,0,1,1,1,0,1,0,1],[23,6,5,0]),([1,0,1,1,1,0,1,0,1],[6,5,0]),([0,1,0,1,1,1,0,1,0,1],[6,5,0]),([0,1,1,1,1,0,1,0,1],[7,5,6,0]),([0,1,1,1,1,1,0,1,0,1],[0,5,7]),([0,0,1,1,1,1,1,1,0,1,0,1],[34,5,7]),([1,0,1,1,1,1,1,1,0,1,0,1],[7,5]),([0,0,1,0,1,1,1,1,1,1,0,1,0,1],[7,5]),([0,1,0,1,0,1,1,1,1,1,1,0,1,0,1],[4]),([1,1,0,1,0,1,1,1,1,1,1,0,1,0,1],[4]),([0,1,1,1,1,1,1,1,0,1,0,1],[4]),([1,1,1,1,1,1,1,1,0,1,0,1],[4]),([0,1,1],[9]),([0,1,1,1],[4]),([1,1,1,1],[4])]
def z1eh (N:Nat):Env:=z1d tys glob [(79,z50 N),(78,z7f N)] [(8,(.int .u8))] [] [] false [] []
theorem z1t5 (N:Nat):EnvOk Tryd.prog (z1eh N):=zg mixed zn (FnsOk.cons (zbp N) (FnsOk.cons (zfc N) (FnsOk.nil))) (ItsOk.nil)
def z5t (N:Nat)(i:Int)(k0:Bool->Option (List UInt8)):Option (List UInt8):=cond (decide (0<=i)) (k0 (decide (i<100))) (k0 false)
def z1ov (N:Nat)(x:zw [(0,.v (.int .i64))])(K:Ex->List A->Option (List UInt8)):Option (List UInt8):=z5t N x.1 (fun a1=>(K .normal (mkS [(0,.v (.int .i64)),(16,.v .bool)] 36 (x.1,a1,()))))
def z1l9 (N:Nat):Hd (List UInt8):=fun st K=>(unS [(0,.v (.int .i64))] 53 (restr [0] 0 st)).bind fun x=>z1ov N x K
def t2_29 (N:Nat):Tab (List UInt8):=[]
theorem z1h5 {N:Nat}{c:Ctx}(hb:Base Tryd.prog (z1eh N) c):zi Tryd.prog c (zf zks [0,0,0,1,0,1]) (z1l9 N) :=
 zh (s:=[(0,.v (.int .i64))]) (m:=53) (g:=z1ov N) [0] (ze hb N (t2_29 N) z1ra zks TabOk.nil [0,0,0,1,0,1] _ rfl) (fun x K=>by kernel_rfl)
def z5u (N:Nat)(i:Int)(k0:(List UInt8)->Option (List UInt8))(k1:Option (List UInt8)):Option (List UInt8):=z5t N i (fun x17=>cond x17 ((z63 N i).bind fun y=>k0 y) k1)
def z1qc (N:Nat)(x:zw [(0,.v (.int .i64))])(K:Ex->List A->Option (List UInt8)):Option (List UInt8):=z5u N x.1 (fun a0=>(K .ret (mkS [(4,.v .str)] 49 (a0,())))) (K .normal (mkS [(0,.v (.int .i64))] 53 (x.1,())))
def z1mq (N:Nat):Hd (List UInt8):=fun st K=>(unS [(0,.v (.int .i64))] 53 (restr [0] 0 st)).bind fun x=>z1qc N x K
def t1_29 (N:Nat):Tab (List UInt8):=[([0,0,0,1,0,1],z1l9 N)]
theorem z1im {N:Nat}{c:Ctx}(hb:Base Tryd.prog (z1eh N) c):zi Tryd.prog c (zf zks [0,0,1,0,1]) (z1mq N) :=
 zh (s:=[(0,.v (.int .i64))]) (m:=53) (g:=z1qc N) [0] (ze hb N (t1_29 N) z1ra zks (TabOk.cons (z1h5 hb) TabOk.nil) [0,0,1,0,1] _ rfl) (fun x K=>by kernel_rfl)
def z5s (N:Nat)(i:Int)(a:(List Int))(u:Int)(k0:Int->Option (List UInt8)):Option (List UInt8):=cond (decide (i<0)) (k0 (IntKind.wrap IntKind.u64 (0 - u))) (k0 u)
def z1o3 (N:Nat)(x:zw SQ50)(K:Ex->List A->Option (List UInt8)):Option (List UInt8):=z5s N x.1 x.2.1 x.2.2.1 (fun a2=>(K .normal (mkS SQ50 47 (x.1,x.2.1,a2,()))))
def z1kh (N:Nat):Hd (List UInt8):=fun st K=>(unS SQ50 47 (restr [0,6,5] 0 st)).bind fun x=>z1o3 N x K
def t3_29 (N:Nat):Tab (List UInt8):=[]
theorem z1gd {N:Nat}{c:Ctx}(hb:Base Tryd.prog (z1eh N) c):zi Tryd.prog c (zf zks [0,1,1,1,0,1,0,1]) (z1kh N) :=
 zh (s:=SQ50) (m:=47) (g:=z1o3 N) [0,6,5] (ze hb N (t3_29 N) z1ra zks TabOk.nil [0,1,1,1,0,1,0,1] _ rfl) (fun x K=>by kernel_rfl)
def z3z (N:Nat)(i:Int)(base:Int):Option (List UInt8):=cond (base == 10) (z5u N i (fun x4=>some x4) (z5s N i ([0,0,0,0,0,0,0,0,0,0,0,0,0,0,0,0,0,0,0,0,0,0,0,0]:List Int) (IntKind.wrap IntKind.u64 i) (fun u=>(z3y N u).bind fun y=>none))) none
def t_29 (N:Nat):Tab (List UInt8):=[([0,0,1,0,1],z1mq N),([0,1,1,1,0,1,0,1],z1kh N)]
theorem z1bd (N:Nat)(x:zw SQ2):z4x (z1eh N) N (t_29 N) z1ra Tryd.f71 (mkS SQ2 0 x) (z2u (.v .str) 2)=z3z N x.1 x.2.1:=by kernel_rfl
def z53 (N:Nat):List A->Res:=zy SQ2 (fun x=>z3z N x.1 x.2.1) (z6e (.v .str) 2)
theorem zbs (N:Nat):Contract Tryd.prog glob 71 (z53 N) :=
 Contract.of (E:=z1eh N) (H:=t_29 N) (L:=z1ra) (N:=N) (body:=zks) (K:=(z2u (.v .str) 2)) (z1t5 N) Tryd.func71 (by kernel_rfl) (by decide) (fun _ hb=>(TabOk.cons (z1im hb) (TabOk.cons (z1gd hb) TabOk.nil))) (fun x y h=>by rw[z1bd];exact h) (zz (s:=(.v .str)) (m:=2))
def z1cn:Code:=(Tryd.f67.body).getD .skip
def L_30:List (List Nat×List Nat):=[([0],[0]),([0,1],[2]),([1,1],[2])]
def E_30 (N:Nat):Env:=z1d tys glob [(71,z53 N)] [] [] [] false [] []
theorem z1t4 (N:Nat):EnvOk Tryd.prog (E_30 N):=zg mixed zn (FnsOk.cons (zbs N) (FnsOk.nil)) (ItsOk.nil)
def z6v (N:Nat)(i:Int):Option (List UInt8):=(z3z N i 10).bind fun y=>some y
def t_30 (N:Nat):Tab (List UInt8):=[]
theorem z1bc (N:Nat)(x:zw [(0,.v (.int .i64))]):z4x (E_30 N) N (t_30 N) L_30 Tryd.f67 (mkS [(0,.v (.int .i64))] 0 x) (z2u (.v .str) 1)=z6v N x.1:=by kernel_rfl
def z8e (N:Nat):List A->Res:=zy [(0,.v (.int .i64))] (fun x=>z6v N x.1) (z6e (.v .str) 1)
theorem zg2 (N:Nat):Contract Tryd.prog glob 67 (z8e N) :=
 Contract.of (E:=E_30 N) (H:=t_30 N) (L:=L_30) (N:=N) (body:=z1cn) (K:=(z2u (.v .str) 1)) (z1t4 N) Tryd.func67 (by kernel_rfl) (by decide) (fun _ hb=>TabOk.nil) (fun x y h=>by rw[z1bc];exact h) (zz (s:=(.v .str)) (m:=1))
def z1cm:Code:=(Tryd.f61.body).getD .skip
def L_31:List (List Nat×List Nat):=[([0],[0]),([0,1],[2]),([1,1],[2])]
def E_31 (N:Nat):Env:=z1d tys glob [(67,z8e N)] [] [] [] false [] []
theorem z1t3 (N:Nat):EnvOk Tryd.prog (E_31 N):=zg mixed zn (FnsOk.cons (zg2 N) (FnsOk.nil)) (ItsOk.nil)
def zer (N:Nat)(i:Int):Option (List UInt8):=(z6v N i).bind fun y=>some y
def t_31 (N:Nat):Tab (List UInt8):=[]
theorem z1bb (N:Nat)(x:zw [(0,.v (.int .i64))]):z4x (E_31 N) N (t_31 N) L_31 Tryd.f61 (mkS [(0,.v (.int .i64))] 0 x) (z2u (.v .str) 1)=zer N x.1:=by kernel_rfl
def zh4 (N:Nat):List A->Res:=zy [(0,.v (.int .i64))] (fun x=>zer N x.1) (z6e (.v .str) 1)
theorem zo5 (N:Nat):Contract Tryd.prog glob 61 (zh4 N) :=
 Contract.of (E:=E_31 N) (H:=t_31 N) (L:=L_31) (N:=N) (body:=z1cm) (K:=(z2u (.v .str) 1)) (z1t3 N) Tryd.func61 (by kernel_rfl) (by decide) (fun _ hb=>TabOk.nil) (fun x y h=>by rw[z1bb];exact h) (zz (s:=(.v .str)) (m:=1))
def zpy:Code:=(Tryd.f40.body).getD .skip
def L_32:List (List Nat×List Nat):=[([0],[0,1]),([0,0,1],[9,8,0,1]),([0,1,0,1],[9,8,0,1]),([0,0,0,1,0,1],[10,8,9,0,1]),(z14n,[8,9,0,1]),(z118,[0,1]),(z1r3,[6,0,1,9,8]),(z1r5,[21,6,9,8,0,1]),([1,1,0,0,1,1,0,0,1,0,1],[9,8,0,1]),([0,0,1,1,0,0,1,1,0,0,1,0,1],[4]),([1,0,1,1,0,0,1,1,0,0,1,0,1],[4]),(z14p,[9,8,0,1]),(z14o,[9,8,0,1]),([1,0,1],[0,1]),([0,1,1],[1,0,7]),([0,0,1,1,1],[0,28,7,1]),(z115,[29,7,28,1]),(z14m,[7,1]),([0,1,1,0,1,0,1,1,1],[34,7,1]),([1,1,1,0,1,0,1,1,1],[7,1]),([0,0,1,1,1,0,1,0,1,1,1],[4]),([1,0,1,1,1,0,1,0,1,1,1],[4]),([0,0,1,0,1,0,1,1,1],[4]),([1,0,1,0,1,0,1,1,1],[4]),([1,0,1,1,1],[7,1]),([0,1,1,1,1],[4]),([1,1,1,1,1],[4])]
def z1ty (N:Nat):Env:=z1d tys glob [(61,zh4 N)] [] [] [] false [] []
theorem z1t2 (N:Nat):EnvOk Tryd.prog (z1ty N):=zg mixed zn (FnsOk.cons (zo5 N) (FnsOk.nil)) (ItsOk.nil)
def zh7 (N:Nat)(low:Int)(high:Int)(row:(Int×(Int×((List UInt8)×Unit))))(x8:(List (Int×(Int×((List UInt8)×Unit)))))(x9:Int)(k0:Bool->Option (List UInt8)):Option (List UInt8):=cond (row.1 == low) (k0 (row.2.1 == high)) (k0 false)
def z1ou (N:Nat)(x:zw SQ46)(K:Ex->List A->Option (List UInt8)):Option (List UInt8):=zh7 N x.1 x.2.1 x.2.2.1 x.2.2.2.1 x.2.2.2.2.1 (fun a5=>(K .normal (mkS [(0,.v (.int .i64)),(0,.v (.int .i64)),(4,.box z17t),(1,.v (.arr 3 z17t)),(0,.v (.int .i64)),(11,.v .bool)] 22 (x.1,x.2.1,x.2.2.1,x.2.2.2.1,x.2.2.2.2.1,a5,()))))
def z1l8 (N:Nat):Hd (List UInt8):=fun st K=>(unS SQ46 34 (restr [6,0,1,9,8] 0 st)).bind fun x=>z1ou N x K
def t2_32 (N:Nat):Tab (List UInt8):=[]
theorem z1h4 {N:Nat}{c:Ctx}(hb:Base Tryd.prog (z1ty N) c):zi Tryd.prog c (zf zpy z1r5) (z1l8 N) :=
 zh (s:=SQ46) (m:=34) (g:=z1ou N) [6,0,1,9,8] (ze hb N (t2_32 N) L_32 zpy TabOk.nil z1r5 _ rfl) (fun x K=>by kernel_rfl)
def zh6 (N:Nat)(low:Int)(high:Int)(x8:(List (Int×(Int×((List UInt8)×Unit)))))(x9:Int)(rec:Int->Option (List UInt8))(k0:(List UInt8)->Option (List UInt8))(k1:Option (List UInt8)):Option (List UInt8):=cond (decide (x9<3)) (cond (inR x9 3) (zh7 N low high (List.getD x8 (Int.toNat x9) (0,(0,([],())))) x8 x9 (fun x21=>cond x21 (k0 (List.getD x8 (Int.toNat x9) (0,(0,([],())))).2.2.1) (rec (IntKind.wrap IntKind.i64 (x9+1))))) none) k1
def znf (N:Nat)(low:Int)(high:Int)(x8:(List (Int×(Int×((List UInt8)×Unit)))))(x9:Int)(k0:(List UInt8)->Option (List UInt8))(k1:Option (List UInt8)):Option (List UInt8):=iter (fun (v:Int) r=>zh6 N low high x8 v (fun x9=>(r x9)) k0 k1) N x9
def z1qb (N:Nat)(i:(Int×Int×(List (Int×(Int×((List UInt8)×Unit))))))(v:Int)(r:Int->Option (List UInt8))(K:Ex->List A->Option (List UInt8)):Option (List UInt8):=zh6 N i.1 i.2.1 i.2.2 v (fun x9=>(r x9)) (fun a0=>(K .ret (mkS [(4,.v .str)] 39 (a0,())))) (K (.exit 0) (mkS SQ2 42 (i.1,i.2.1,())))
def z1mp (N:Nat):Hd (List UInt8):=fun st K=>(unS SQ87 34 (restr [9,8,0,1] 0 st)).bind fun x=>iter (fun v r=>z1qb N ((fun x=>(x.1,x.2.1,x.2.2.1)) x) v r K) N ((fun x=>x.2.2.2.1) x)
def t1_32 (N:Nat):Tab (List UInt8):=[(z1r5,z1l8 N)]
theorem z1il {N:Nat}{c:Ctx}(hb:Base Tryd.prog (z1ty N) c):zi Tryd.prog c (zf zpy [0,1,0,1]) (z1mp N) :=
 z2p (s:=SQ87) (m:=34) (z1qb N) [9,8,0,1] N (fun x=>(x.1,x.2.1,x.2.2.1)) (fun x=>x.2.2.2.1) (fun i v=>(i.1,i.2.1,i.2.2,v,())) (fun _=>rfl) (ze hb N (t1_32 N) L_32 zpy (TabOk.cons (z1h4 hb) TabOk.nil) [0,0,1,0,1] _ rfl) (fun i v r K=>by kernel_rfl)
def z9j (N:Nat)(low:Int)(high:Int):Option (List UInt8):=znf N low high glob0 0 (fun x4=>some x4) ((zer N low).bind fun y=>cond (decide ((1+(List.length y))<=9223372036854775807)) (cond (high == low) (cond (decide (((List.length (([(123:UInt8)]:List UInt8)++y))+1)<=9223372036854775807)) (some ((([(123:UInt8)]:List UInt8)++y)++([(125:UInt8)]:List UInt8))) none) (cond (high == (-1)) (cond (decide (((List.length (([(123:UInt8)]:List UInt8)++y))+2)<=9223372036854775807)) (some ((([(123:UInt8)]:List UInt8)++y)++([(44:UInt8),(125:UInt8)]:List UInt8))) none) (cond (decide (((List.length (([(123:UInt8)]:List UInt8)++y))+1)<=9223372036854775807)) ((zer N high).bind fun y1=>cond (decide (((List.length ((([(123:UInt8)]:List UInt8)++y)++([(44:UInt8)]:List UInt8)))+(List.length y1))<=9223372036854775807)) (cond (decide (((List.length (((([(123:UInt8)]:List UInt8)++y)++([(44:UInt8)]:List UInt8))++y1))+1)<=9223372036854775807)) (some ((((([(123:UInt8)]:List UInt8)++y)++([(44:UInt8)]:List UInt8))++y1)++([(125:UInt8)]:List UInt8))) none) none) none))) none)
def t_32 (N:Nat):Tab (List UInt8):=[([0,1,0,1],z1mp N)]
theorem z1ba (N:Nat)(x:zw SQ2):z4x (z1ty N) N (t_32 N) L_32 Tryd.f40 (mkS SQ2 0 x) (z2u (.v .str) 2)=z9j N x.1 x.2.1:=by kernel_rfl
def zfm (N:Nat):List A->Res:=zy SQ2 (fun x=>z9j N x.1 x.2.1) (z6e (.v .str) 2)
theorem zng (N:Nat):Contract Tryd.prog glob 40 (zfm N) :=
 Contract.of (E:=z1ty N) (H:=t_32 N) (L:=L_32) (N:=N) (body:=zpy) (K:=(z2u (.v .str) 2)) (z1t2 N) Tryd.func40 (by kernel_rfl) (by decide) (fun _ hb=>(TabOk.cons (z1il hb) TabOk.nil)) (fun x y h=>by rw[z1ba];exact h) (zz (s:=(.v .str)) (m:=2))
def z1cl:Code:=(Tryd.f20.body).getD .skip
def L_33:List (List Nat×List Nat):=[([0],[1]),([0,0,1],[4,1]),([0,0,1,0,1],[5,1,4]),([1,0,1,0,1],[]),([0,1,1,0,1,0,1],[10,1]),([1,1,1,0,1,0,1],[]),([0,0,1,1,1,0,1,0,1],[2]),([1,0,1,1,1,0,1,0,1],[2]),([0,0,1,0,1,0,1],[2]),([1,0,1,0,1,0,1],[2]),([1,0,1],[]),([0,1,1],[2]),([1,1,1],[2])]
def E_33 (N:Nat):Env:=z1d tys glob [(40,zfm N),(8,zdd N)] [] [] [] false [] []
theorem z1t1 (N:Nat):EnvOk Tryd.prog (E_33 N):=zg mixed zn (FnsOk.cons (zng N) (FnsOk.cons (zjk N) (FnsOk.nil))) (ItsOk.nil)
def z6k (N:Nat)(n:DT2):Option (List UInt8):=cond (n.1 == 1) ((zau N n.2.1).bind fun y=>some y) (cond (n.1 == 4) ((z9j N n.2.2.2.1 n.2.2.2.2.1).bind fun y1=>some y1) (some []))
def t_33 (N:Nat):Tab (List UInt8):=[]
theorem z1b9 (N:Nat)(x:zw [(0,.v TT1)]):z4x (E_33 N) N (t_33 N) L_33 Tryd.f20 (mkS [(0,.v TT1)] 0 x) (z2u (.v .str) 1)=z6k N x.1:=by kernel_rfl
def zoj (N:Nat):List A->Res:=zy [(0,.v TT1)] (fun x=>z6k N x.1) (z6e (.v .str) 1)
theorem zq6 (N:Nat):Contract Tryd.prog glob 20 (zoj N) :=
 Contract.of (E:=E_33 N) (H:=t_33 N) (L:=L_33) (N:=N) (body:=z1cl) (K:=(z2u (.v .str) 1)) (z1t1 N) Tryd.func20 (by kernel_rfl) (by decide) (fun _ hb=>TabOk.nil) (fun x y h=>by rw[z1b9];exact h) (zz (s:=(.v .str)) (m:=1))
def zpx:Code:=(Tryd.f41.body).getD .skip
def L_34:List (List Nat×List Nat):=[([0],[0,1]),([0,0,1],[22,1,0]),([1,0,1],[1,0]),([0,0,1,0,1],[4]),([1,0,1,0,1],[4]),([0,1,1],[4]),([1,1,1],[4])]
def z1tx (N:Nat):Env:=z1d tys glob [] [] [] [] false [] []
theorem z1t0 (N:Nat):EnvOk Tryd.prog (z1tx N):=zg mixed zn (FnsOk.nil) (ItsOk.nil)
def z7n (N:Nat)(low:Int)(high:Int)(k0:Bool->Option Bool):Option Bool:=cond (decide (low<0)) (k0 true) (cond (decide (16<low)) (k0 true) (cond (decide (16<high)) (k0 true) (cond (decide (high<(-1))) (k0 true) (k0 (high == 0)))))
def z1ot (N:Nat)(x:zw SQ2)(K:Ex->List A->Option Bool):Option Bool:=z7n N x.1 x.2.1 (fun a2=>(K .normal (mkS [(0,.v (.int .i64)),(0,.v (.int .i64)),(20,.v .bool)] 7 (x.1,x.2.1,a2,()))))
def z1l7 (N:Nat):Hd Bool:=fun st K=>(unS SQ2 28 (restr [0,1] 0 st)).bind fun x=>z1ot N x K
def t2_34 (N:Nat):Tab Bool:=[]
theorem z1h3 {N:Nat}{c:Ctx}(hb:Base Tryd.prog (z1tx N) c):zi Tryd.prog c (zf zpx [0,0,1]) (z1l7 N) :=
 zh (s:=SQ2) (m:=28) (g:=z1ot N) [0,1] (ze hb N (t2_34 N) L_34 zpx TabOk.nil [0,0,1] _ rfl) (fun x K=>by kernel_rfl)
def z7o (N:Nat)(low:Int)(high:Int)(k0:Bool->Option Bool)(k1:Option Bool):Option Bool:=z7n N low high (fun x22=>cond x22 (k0 false) k1)
def z1qa (N:Nat)(x:zw SQ2)(K:Ex->List A->Option Bool):Option Bool:=z7o N x.1 x.2.1 (fun a0=>(K .ret (mkS [(4,.v .bool)] 25 (a0,())))) (K .normal (mkS SQ2 28 (x.1,x.2.1,())))
def z1mo (N:Nat):Hd Bool:=fun st K=>(unS SQ2 28 (restr [0,1] 0 st)).bind fun x=>z1qa N x K
def t1_34 (N:Nat):Tab Bool:=[([0,0,1],z1l7 N)]
theorem z1ik {N:Nat}{c:Ctx}(hb:Base Tryd.prog (z1tx N) c):zi Tryd.prog c (zf zpx [0,1]) (z1mo N) :=
 zh (s:=SQ2) (m:=28) (g:=z1qa N) [0,1] (ze hb N (t1_34 N) L_34 zpx (TabOk.cons (z1h3 hb) TabOk.nil) [0,1] _ rfl) (fun x K=>by kernel_rfl)
def z1g (N:Nat)(low:Int)(high:Int):Option Bool:=z7o N low high (fun x4=>some x4) (cond (high == (-1)) (some true) (some (decide (low<=high))))
def t_34 (N:Nat):Tab Bool:=[([0,1],z1mo N)]
theorem z1b8 (N:Nat)(x:zw SQ2):z4x (z1tx N) N (t_34 N) L_34 Tryd.f41 (mkS SQ2 0 x) (z2u (.v .bool) 2)=z1g N x.1 x.2.1:=by kernel_rfl
def zbb (N:Nat):List A->Res:=zy SQ2 (fun x=>z1g N x.1 x.2.1) (z6e (.v .bool) 2)
theorem zjc (N:Nat):Contract Tryd.prog glob 41 (zbb N) :=
 Contract.of (E:=z1tx N) (H:=t_34 N) (L:=L_34) (N:=N) (body:=zpx) (K:=(z2u (.v .bool) 2)) (z1t0 N) Tryd.func41 (by kernel_rfl) (by decide) (fun _ hb=>(TabOk.cons (z1ik hb) TabOk.nil)) (fun x y h=>by rw[z1b8];exact h) (zz (s:=(.v .bool)) (m:=2))
def z4v:Code:=(Tryd.f22.body).getD .skip
def z14v:List (List Nat×List Nat):=[([0],[1]),([0,0,1],[13,1]),([1,0,1],[1]),([0,0,1,0,1],[2]),([1,0,1,0,1],[2]),([0,1,1],[1,3]),([0,0,1,1,1],[37,1]),([1,0,1,1,1],[1]),(z115,[2]),(z14m,[2]),([0,1,1,1,1],[1,4]),(zms,[82,4,1]),(z11k,[4,1]),(z1r4,[2]),(z14s,[2]),(z16u,[5,4,1]),(z14r,[5,4,1]),([0,0,0,0,1,0,1,1,1,1,1,1],[85,1,5,4]),([1,0,0,0,1,0,1,1,1,1,1,1],[1,5,4]),([1,1,0,0,0,1,0,1,1,1,1,1,1],[]),(PQ90,[110,5,4,1]),([1,0,0,1,0,0,1,0,1,1,1,1,1,1],[5,4,1]),([0,0,1,0,0,1,0,0,1,0,1,1,1,1,1,1],[2]),([1,0,1,0,0,1,0,0,1,0,1,1,1,1,1,1],[2]),(z16w,[5,4,1]),([1,1,0,0,1,0,1,1,1,1,1,1],[5,4,1]),(z16t,[]),(z182,[2]),(z181,[2])]
def z11m (N:Nat)(self:DT2->Option Bool):Env:=z1d tys glob [(41,zbb N),(22,zy [(0,.v TT1)] (fun x=>self x.1) (z6e (.v .bool) 1))] [] [] [] false [] []
theorem z1sz (N:Nat)(self:DT2->Option Bool)(hself:Contract Tryd.prog glob 22 (zy [(0,.v TT1)] (fun x=>self x.1) (z6e (.v .bool) 1))):EnvOk Tryd.prog (z11m N self):=zg mixed zn (FnsOk.cons (zjc N) (FnsOk.cons (hself) (FnsOk.nil))) (ItsOk.nil)
def z7x (N:Nat)(self:DT2->Option Bool)(n:DT2)(k0:Bool->Option Bool):Option Bool:=cond (decide (n.1<1)) (k0 true) (k0 (decide (4<n.1)))
def z1os (N:Nat)(self:DT2->Option Bool)(x:zw [(1,.box TT1)])(K:Ex->List A->Option Bool):Option Bool:=z7x N self x.1 (fun a1=>(K .normal (mkS [(1,.box TT1),(11,.v .bool)] 97 (x.1,a1,()))))
def z1l6 (N:Nat)(self:DT2->Option Bool):Hd Bool:=fun st K=>(unS [(1,.box TT1)] 109 (restr [1] 0 st)).bind fun x=>z1os N self x K
def t2_35 (N:Nat)(self:DT2->Option Bool):Tab Bool:=[]
theorem z1h2 {N:Nat}{self:DT2->Option Bool}{c:Ctx}(hb:Base Tryd.prog (z11m N self) c):zi Tryd.prog c (zf z4v [0,0,1]) (z1l6 N self) :=
 zh (s:=[(1,.box TT1)]) (m:=109) (g:=z1os N self) [1] (ze hb N (t2_35 N self) z14v z4v TabOk.nil [0,0,1] _ rfl) (fun x K=>by kernel_rfl)
def z7y (N:Nat)(self:DT2->Option Bool)(n:DT2)(k0:Bool->Option Bool)(k1:Option Bool):Option Bool:=z7x N self n (fun x13=>cond x13 (k0 false) k1)
def z1q9 (N:Nat)(self:DT2->Option Bool)(x:zw [(1,.box TT1)])(K:Ex->List A->Option Bool):Option Bool:=z7y N self x.1 (fun a0=>(K .ret (mkS [(2,.v .bool)] 108 (a0,())))) (K .normal (mkS [(1,.box TT1)] 109 (x.1,())))
def z1mn (N:Nat)(self:DT2->Option Bool):Hd Bool:=fun st K=>(unS [(1,.box TT1)] 109 (restr [1] 0 st)).bind fun x=>z1q9 N self x K
def t1_35 (N:Nat)(self:DT2->Option Bool):Tab Bool:=[([0,0,1],z1l6 N self)]
theorem z1ij {N:Nat}{self:DT2->Option Bool}{c:Ctx}(hb:Base Tryd.prog (z11m N self) c):zi Tryd.prog c (zf z4v [0,1]) (z1mn N self) :=
 zh (s:=[(1,.box TT1)]) (m:=109) (g:=z1q9 N self) [1] (ze hb N (t1_35 N self) z14v z4v (TabOk.cons (z1h2 hb) TabOk.nil) [0,1] _ rfl) (fun x K=>by kernel_rfl)
def z7v (N:Nat)(self:DT2->Option Bool)(n:DT2)(none_:(List Int))(k0:Bool->Option Bool):Option Bool:=cond (n.1 != 1) (cond (!(eqD (T.arr 4 (T.int IntKind.u64)) n.2.1 none_)) (k0 true) (cond (n.1 != 4) (cond (n.2.2.2.1 != 0) (k0 true) (k0 (n.2.2.2.2.1 != 0))) (k0 false))) (cond (n.1 != 4) (cond (n.2.2.2.1 != 0) (k0 true) (k0 (n.2.2.2.2.1 != 0))) (k0 false))
def z1np (N:Nat)(self:DT2->Option Bool)(x:zw z1dt)(K:Ex->List A->Option Bool):Option Bool:=z7v N self x.1 x.2.1 (fun a1=>(K .normal (mkS [(1,.box TT1),(35,.v .bool)] 73 (x.1,a1,()))))
def z1k3 (N:Nat)(self:DT2->Option Bool):Hd Bool:=fun st K=>(unS z1dt 107 (restr [1,3] 0 st)).bind fun x=>z1np N self x K
def t4_35 (N:Nat)(self:DT2->Option Bool):Tab Bool:=[]
theorem z1fz {N:Nat}{self:DT2->Option Bool}{c:Ctx}(hb:Base Tryd.prog (z11m N self) c):zi Tryd.prog c (zf z4v [0,0,1,1,1]) (z1k3 N self) :=
 zh (s:=z1dt) (m:=107) (g:=z1np N self) [1,3] (ze hb N (t4_35 N self) z14v z4v TabOk.nil [0,0,1,1,1] _ rfl) (fun x K=>by kernel_rfl)
def z7w (N:Nat)(self:DT2->Option Bool)(n:DT2)(none_:(List Int))(k0:Bool->Option Bool)(k1:Option Bool):Option Bool:=z7v N self n none_ (fun x37=>cond x37 (k0 false) k1)
def z1o2 (N:Nat)(self:DT2->Option Bool)(x:zw z1dt)(K:Ex->List A->Option Bool):Option Bool:=z7w N self x.1 x.2.1 (fun a0=>(K .ret (mkS [(2,.v .bool)] 108 (a0,())))) (K .normal (mkS [(1,.box TT1)] 109 (x.1,())))
def z1kg (N:Nat)(self:DT2->Option Bool):Hd Bool:=fun st K=>(unS z1dt 107 (restr [1,3] 0 st)).bind fun x=>z1o2 N self x K
def t3_35 (N:Nat)(self:DT2->Option Bool):Tab Bool:=[([0,0,1,1,1],z1k3 N self)]
theorem z1gc {N:Nat}{self:DT2->Option Bool}{c:Ctx}(hb:Base Tryd.prog (z11m N self) c):zi Tryd.prog c (zf z4v [0,1,1,1]) (z1kg N self) :=
 zh (s:=z1dt) (m:=107) (g:=z1o2 N self) [1,3] (ze hb N (t3_35 N self) z14v z4v (TabOk.cons (z1fz hb) TabOk.nil) [0,1,1,1] _ rfl) (fun x K=>by kernel_rfl)
def z7t (N:Nat)(self:DT2->Option Bool)(n:DT2)(k:Int)(k0:Bool->Option Bool):Option Bool:=cond (n.1 == 1) (cond (k != 0) (k0 true) (cond (n.1 == 2) (cond (k == 1) (k0 true) (cond (n.1 == 3) (cond (decide (k<2)) (k0 true) (cond (n.1 == 4) (cond (k != 1) (k0 true) ((z1g N n.2.2.2.1 n.2.2.2.2.1).bind fun y=>k0 (!y))) (k0 false))) (cond (n.1 == 4) (cond (k != 1) (k0 true) ((z1g N n.2.2.2.1 n.2.2.2.2.1).bind fun y1=>k0 (!y1))) (k0 false)))) (cond (n.1 == 3) (cond (decide (k<2)) (k0 true) (cond (n.1 == 4) (cond (k != 1) (k0 true) ((z1g N n.2.2.2.1 n.2.2.2.2.1).bind fun y2=>k0 (!y2))) (k0 false))) (cond (n.1 == 4) (cond (k != 1) (k0 true) ((z1g N n.2.2.2.1 n.2.2.2.2.1).bind fun y3=>k0 (!y3))) (k0 false))))) (cond (n.1 == 2) (cond (k == 1) (k0 true) (cond (n.1 == 3) (cond (decide (k<2)) (k0 true) (cond (n.1 == 4) (cond (k != 1) (k0 true) ((z1g N n.2.2.2.1 n.2.2.2.2.1).bind fun y4=>k0 (!y4))) (k0 false))) (cond (n.1 == 4) (cond (k != 1) (k0 true) ((z1g N n.2.2.2.1 n.2.2.2.2.1).bind fun y5=>k0 (!y5))) (k0 false)))) (cond (n.1 == 3) (cond (decide (k<2)) (k0 true) (cond (n.1 == 4) (cond (k != 1) (k0 true) ((z1g N n.2.2.2.1 n.2.2.2.2.1).bind fun y6=>k0 (!y6))) (k0 false))) (cond (n.1 == 4) (cond (k != 1) (k0 true) ((z1g N n.2.2.2.1 n.2.2.2.2.1).bind fun y7=>k0 (!y7))) (k0 false))))
def z1na (N:Nat)(self:DT2->Option Bool)(x:zw z1d6)(K:Ex->List A->Option Bool):Option Bool:=z7t N self x.1 x.2.1 (fun a2=>(K .normal (mkS [(1,.box TT1),(2,.v (.int .i64)),(77,.v .bool)] 28 (x.1,x.2.1,a2,()))))
def z1jo (N:Nat)(self:DT2->Option Bool):Hd Bool:=fun st K=>(unS z1d6 106 (restr [1,4] 0 st)).bind fun x=>z1na N self x K
def t6_35 (N:Nat)(self:DT2->Option Bool):Tab Bool:=[]
theorem z1fk {N:Nat}{self:DT2->Option Bool}{c:Ctx}(hb:Base Tryd.prog (z11m N self) c):zi Tryd.prog c (zf z4v zms) (z1jo N self) :=
 zh (s:=z1d6) (m:=106) (g:=z1na N self) [1,4] (ze hb N (t6_35 N self) z14v z4v TabOk.nil zms _ rfl) (fun x K=>by kernel_rfl)
def z7u (N:Nat)(self:DT2->Option Bool)(n:DT2)(k:Int)(k0:Bool->Option Bool)(k1:Option Bool):Option Bool:=z7t N self n k (fun x82=>cond x82 (k0 false) k1)
def z1ng (N:Nat)(self:DT2->Option Bool)(x:zw z1d6)(K:Ex->List A->Option Bool):Option Bool:=z7u N self x.1 x.2.1 (fun a0=>(K .ret (mkS [(2,.v .bool)] 108 (a0,())))) (K .normal (mkS z1d6 106 (x.1,x.2.1,())))
def z1ju (N:Nat)(self:DT2->Option Bool):Hd Bool:=fun st K=>(unS z1d6 106 (restr [1,4] 0 st)).bind fun x=>z1ng N self x K
def t5_35 (N:Nat)(self:DT2->Option Bool):Tab Bool:=[(zms,z1jo N self)]
theorem z1fq {N:Nat}{self:DT2->Option Bool}{c:Ctx}(hb:Base Tryd.prog (z11m N self) c):zi Tryd.prog c (zf z4v [0,1,1,1,1,1]) (z1ju N self) :=
 zh (s:=z1d6) (m:=106) (g:=z1ng N self) [1,4] (ze hb N (t5_35 N self) z14v z4v (TabOk.cons (z1fk hb) TabOk.nil) [0,1,1,1,1,1] _ rfl) (fun x K=>by kernel_rfl)
def z7q (N:Nat)(self:DT2->Option Bool)(n:DT2)(k:Int)(i:Int)(k0:Bool->Option Bool):Option Bool:=cond (inR i (List.length n.2.2.1)) ((self (unN (List.getD n.2.2.1 (Int.toNat i) (Tree.mk 0 [] [] 0 0)))).bind fun y=>cond (!y) (k0 true) (cond (inR i (List.length n.2.2.1)) (cond ((unN (List.getD n.2.2.1 (Int.toNat i) (Tree.mk 0 [] [] 0 0))).1 == n.1) (k0 (decide (n.1<4))) (k0 false)) none)) none
def z1mz (N:Nat)(self:DT2->Option Bool)(x:zw z16o)(K:Ex->List A->Option Bool):Option Bool:=z7q N self x.1 x.2.1 x.2.2.1 (fun a3=>(K .normal (mkS [(1,.box TT1),(2,.v (.int .i64)),(0,.v (.int .i64)),(104,.v .bool)] 0 (x.1,x.2.1,x.2.2.1,a3,()))))
def z1jd (N:Nat)(self:DT2->Option Bool):Hd Bool:=fun st K=>(unS z16o 105 (restr [1,5,4] 0 st)).bind fun x=>z1mz N self x K
def t9_35 (N:Nat)(self:DT2->Option Bool):Tab Bool:=[]
theorem z1f9 {N:Nat}{self:DT2->Option Bool}{c:Ctx}(hb:Base Tryd.prog (z11m N self) c):zi Tryd.prog c (zf z4v PQ90) (z1jd N self) :=
 zh (s:=z16o) (m:=105) (g:=z1mz N self) [1,5,4] (ze hb N (t9_35 N self) z14v z4v TabOk.nil PQ90 _ rfl) (fun x K=>by kernel_rfl)
def z7r (N:Nat)(self:DT2->Option Bool)(n:DT2)(k:Int)(i:Int)(k0:Bool->Option Bool)(k1:Option Bool):Option Bool:=z7q N self n k i (fun x110=>cond x110 (k0 false) k1)
def z1n1 (N:Nat)(self:DT2->Option Bool)(x:zw z16o)(K:Ex->List A->Option Bool):Option Bool:=z7r N self x.1 x.2.1 x.2.2.1 (fun a0=>(K .ret (mkS [(2,.v .bool)] 108 (a0,())))) (K .normal (mkS z16o 105 (x.1,x.2.1,x.2.2.1,())))
def z1jf (N:Nat)(self:DT2->Option Bool):Hd Bool:=fun st K=>(unS z16o 105 (restr [1,5,4] 0 st)).bind fun x=>z1n1 N self x K
def t8_35 (N:Nat)(self:DT2->Option Bool):Tab Bool:=[(PQ90,z1jd N self)]
theorem z1fb {N:Nat}{self:DT2->Option Bool}{c:Ctx}(hb:Base Tryd.prog (z11m N self) c):zi Tryd.prog c (zf z4v z16w) (z1jf N self) :=
 zh (s:=z16o) (m:=105) (g:=z1n1 N self) [1,5,4] (ze hb N (t8_35 N self) z14v z4v (TabOk.cons (z1f9 hb) TabOk.nil) z16w _ rfl) (fun x K=>by kernel_rfl)
def z7p (N:Nat)(self:DT2->Option Bool)(n:DT2)(k:Int)(i:Int)(rec:Int->Option Bool)(k0:Bool->Option Bool)(k1:Option Bool):Option Bool:=cond (decide (i<k)) (z7r N self n k i (fun x2=>k0 x2) (rec (IntKind.wrap IntKind.i64 (i+1)))) k1
def z7s (N:Nat)(self:DT2->Option Bool)(n:DT2)(k:Int)(i:Int)(k0:Bool->Option Bool)(k1:Option Bool):Option Bool:=iter (fun (v:Int) r=>z7p N self n k v (fun i=>(r i)) k0 k1) N i
def z1n4 (N:Nat)(self:DT2->Option Bool)(i:(DT2×Int))(v:Int)(r:Int->Option Bool)(K:Ex->List A->Option Bool):Option Bool:=z7p N self i.1 i.2 v (fun i=>(r i)) (fun a0=>(K .ret (mkS [(2,.v .bool)] 108 (a0,())))) (K (.exit 0) (mkS [] 111 ()))
def z1ji (N:Nat)(self:DT2->Option Bool):Hd Bool:=fun st K=>(unS z16o 105 (restr [5,4,1] 0 st)).bind fun x=>iter (fun v r=>z1n4 N self ((fun x=>(x.1,x.2.1)) x) v r K) N ((fun x=>x.2.2.1) x)
def t7_35 (N:Nat)(self:DT2->Option Bool):Tab Bool:=[(z16w,z1jf N self)]
theorem z1fe {N:Nat}{self:DT2->Option Bool}{c:Ctx}(hb:Base Tryd.prog (z11m N self) c):zi Tryd.prog c (zf z4v z14r) (z1ji N self) :=
 z2p (s:=z16o) (m:=105) (z1n4 N self) [5,4,1] N (fun x=>(x.1,x.2.1)) (fun x=>x.2.2.1) (fun i v=>(i.1,i.2,v,())) (fun _=>rfl) (ze hb N (t7_35 N self) z14v z4v (TabOk.cons (z1fb hb) TabOk.nil) [0,0,1,0,1,1,1,1,1,1] _ rfl) (fun i v r K=>by kernel_rfl)
def z5e (N:Nat)(self:DT2->Option Bool)(n:DT2):Option Bool:=z7y N self n (fun x2=>some x2) (z7w N self n ([0,0,0,0]:List Int) (fun x21=>some x21) (z7u N self n (List.length n.2.2.1:Int) (fun x22=>some x22) (z7s N self n (List.length n.2.2.1:Int) 0 (fun x23=>some x23) (some true))))
def t_35 (N:Nat)(self:DT2->Option Bool):Tab Bool:=[([0,1],z1mn N self),([0,1,1,1],z1kg N self),([0,1,1,1,1,1],z1ju N self),(z14r,z1ji N self)]
theorem z1b7 (N:Nat)(self:DT2->Option Bool)(x:zw [(0,.v TT1)]):z4x (z11m N self) N (t_35 N self) z14v Tryd.f22 (mkS [(0,.v TT1)] 0 x) (z2u (.v .bool) 1)=z5e N self x.1:=by kernel_rfl
def z28:Nat->DT2->Option Bool
 | 0=>fun _=>none
 | N+1=>z5e (N+1) (z28 N)
def zbd (N:Nat):List A->Res:=zy [(0,.v TT1)] (fun x=>z28 N x.1) (z6e (.v .bool) 1)
theorem zcl:∀ N:Nat,Contract Tryd.prog glob 22 (zbd N)
 | 0=>Contract.zero Tryd.func22 (body:=z4v) (by kernel_rfl) (by decide) (fun _=>rfl)
 | N+1=>Contract.of (E:=z11m (N+1) (z28 N)) (H:=t_35 (N+1) (z28 N)) (L:=z14v) (N:=(N+1)) (body:=z4v) (K:=(z2u (.v .bool) 1)) (z1sz (N+1) (z28 N) (zcl N)) Tryd.func22 (by kernel_rfl) (by decide) (fun _ hb=>(TabOk.cons (z1ij hb) (TabOk.cons (z1gc hb) (TabOk.cons (z1fq hb) (TabOk.cons (z1fe hb) TabOk.nil))))) (fun x y h=>by rw[z1b7];exact h) (zz (s:=(.v .bool)) (m:=1))
def zxo:Code:=(Tryd.f29.body).getD .skip
def L_36:List (List Nat×List Nat):=[([0],[1,2]),([0,1],[1,5]),([0,0,1,1],[6,1,5]),([0,1,0,1,1],[6,1,5]),(z11b,[14,5,6,1]),(z11a,[5,6,1]),(z1e8,[5]),([0,0,1,0,0,1,0,1,1],[6,1,5]),(ztb,[6,1,5]),(z119,[6,1,5]),([1,0,1,1],[5]),([0,1,1,1],[4]),([1,1,1,1],[4])]
def E_36 (N:Nat):Env:=z1d tys glob [] [] [] [] false [] []
theorem z1sy (N:Nat):EnvOk Tryd.prog (E_36 N):=zg mixed zn (FnsOk.nil) (ItsOk.nil)
def z6c (N:Nat)(b:Int)(w:Int)(i:Int)(rec:Int->Int->Option Bool)(k0:Int->Option Bool):Option Bool:=cond (decide (i<(Int.tmod b 64))) (rec (IntKind.wrap IntKind.u64 (Int.tdiv w 2)) (IntKind.wrap IntKind.i64 (i+1))) (k0 w)
def za7 (N:Nat)(b:Int)(w:Int)(i:Int)(k0:Int->Option Bool):Option Bool:=iter (fun (v:(Int×Int)) r=>z6c N b v.1 v.2 (fun w i=>(r (w,i))) k0) N (w,i)
def z1q8 (N:Nat)(i:Int)(v:(Int×Int))(r:(Int×Int)->Option Bool)(K:Ex->List A->Option Bool):Option Bool:=z6c N i v.1 v.2 (fun w i=>(r (w,i))) (fun a0=>(K (.exit 0) (mkS [(5,.v (.int .u64))] 16 (a0,()))))
def z1mm (N:Nat):Hd Bool:=fun st K=>(unS [(1,.v (.int .i64)),(3,.v (.int .u64)),(0,.v (.int .i64))] 15 (restr [6,1,5] 0 st)).bind fun x=>iter (fun v r=>z1q8 N ((fun x=>x.1) x) v r K) N ((fun x=>(x.2.1,x.2.2.1)) x)
def t1_36 (N:Nat):Tab Bool:=[]
theorem z1ii {N:Nat}{c:Ctx}(hb:Base Tryd.prog (E_36 N) c):zi Tryd.prog c (zf zxo [0,1,0,1,1]) (z1mm N) :=
 z2p (s:=[(1,.v (.int .i64)),(3,.v (.int .u64)),(0,.v (.int .i64))]) (m:=15) (z1q8 N) [6,1,5] N (fun x=>x.1) (fun x=>(x.2.1,x.2.2.1)) (fun i v=>(i,v.1,v.2,())) (fun _=>rfl) (ze hb N (t1_36 N) L_36 zxo TabOk.nil [0,0,1,0,1,1] _ rfl) (fun i v r K=>by kernel_rfl)
def z2t (N:Nat)(s:(List Int))(b:Int):Option Bool:=cond (inR (IntKind.wrap IntKind.i64 (Int.tdiv b 64)) 4) (cond (decide ((Int.toNat (IntKind.wrap IntKind.i64 (Int.tdiv b 64)))<(List.length s))) (za7 N b (List.getD s (Int.toNat (IntKind.wrap IntKind.i64 (Int.tdiv b 64))) 0) 0 (fun w=>some ((Int.tmod w 2) == 1))) none) none
def t_36 (N:Nat):Tab Bool:=[([0,1,0,1,1],z1mm N)]
theorem z1b6 (N:Nat)(x:zw z1dw):z4x (E_36 N) N (t_36 N) L_36 Tryd.f29 (mkS z1dw 0 x) (z2u (.v .bool) 2)=z2t N x.1 x.2.1:=by kernel_rfl
def z3t (N:Nat):List A->Res:=zy z1dw (fun x=>z2t N x.1 x.2.1) (z6e (.v .bool) 2)
theorem z6d (N:Nat):Contract Tryd.prog glob 29 (z3t N) :=
 Contract.of (E:=E_36 N) (H:=t_36 N) (L:=L_36) (N:=N) (body:=zxo) (K:=(z2u (.v .bool) 2)) (z1sy N) Tryd.func29 (by kernel_rfl) (by decide) (fun _ hb=>(TabOk.cons (z1ii hb) TabOk.nil)) (fun x y h=>by rw[z1b6];exact h) (zz (s:=(.v .bool)) (m:=2))
def zxn:Code:=(Tryd.f30.body).getD .skip
def L_37:List (List Nat×List Nat):=[([0],[1]),([0,0,1],[3,1]),([0,1,0,1],[3,1]),([0,0,0,0,1,0,1],[5,1,3]),([1,0,0,0,1,0,1],[1,3]),([1,1,0,0,0,1,0,1],[]),([0,0,0,1,0,0,1,0,1],[10,3,1]),([1,0,0,1,0,0,1,0,1],[3,1]),([0,0,1,0,0,1,0,0,1,0,1],[2]),([1,0,1,0,0,1,0,0,1,0,1],[2]),(z14n,[3,1]),([1,1,0,0,1,0,1],[3,1]),([1,0,1],[]),([0,1,1],[2]),([1,1,1],[2])]
def E_37 (N:Nat):Env:=z1d tys glob [(29,z3t N)] [] [] [] false [] []
theorem z1sx (N:Nat):EnvOk Tryd.prog (E_37 N):=zg mixed zn (FnsOk.cons (z6d N) (FnsOk.nil)) (ItsOk.nil)
def z7z (N:Nat)(s:(List Int))(b:Int)(rec:Int->Option Int)(k0:Int->Option Int)(k1:Option Int):Option Int:=cond (decide (b<256)) ((z2t N s b).bind fun y=>cond y (k0 b) (rec (IntKind.wrap IntKind.i64 (b+1)))) k1
def zcm (N:Nat)(s:(List Int))(b:Int)(k0:Int->Option Int)(k1:Option Int):Option Int:=iter (fun (v:Int) r=>z7z N s v (fun b=>(r b)) k0 k1) N b
def z1q7 (N:Nat)(i:(List Int))(v:Int)(r:Int->Option Int)(K:Ex->List A->Option Int):Option Int:=z7z N i v (fun b=>(r b)) (fun a0=>(K .ret (mkS [(2,.v (.int .i64))] 9 (a0,())))) (K (.exit 0) (mkS [] 12 ()))
def z1ml (N:Nat):Hd Int:=fun st K=>(unS z1dx 8 (restr [3,1] 0 st)).bind fun x=>iter (fun v r=>z1q7 N ((fun x=>x.1) x) v r K) N ((fun x=>x.2.1) x)
def t1_37 (N:Nat):Tab Int:=[]
theorem z1ih {N:Nat}{c:Ctx}(hb:Base Tryd.prog (E_37 N) c):zi Tryd.prog c (zf zxn [0,1,0,1]) (z1ml N) :=
 z2p (s:=z1dx) (m:=8) (z1q7 N) [3,1] N (fun x=>x.1) (fun x=>x.2.1) (fun i v=>(i,v,())) (fun _=>rfl) (ze hb N (t1_37 N) L_37 zxn TabOk.nil [0,0,1,0,1] _ rfl) (fun i v r K=>by kernel_rfl)
def z4n (N:Nat)(s:(List Int)):Option Int:=zcm N s 0 (fun x2=>some x2) (some (-1))
def t_37 (N:Nat):Tab Int:=[([0,1,0,1],z1ml N)]
theorem z1b5 (N:Nat)(x:zw zo0):z4x (E_37 N) N (t_37 N) L_37 Tryd.f30 (mkS zo0 0 x) (z2u (.v (.int .i64)) 1)=z4n N x.1:=by kernel_rfl
def zbe (N:Nat):List A->Res:=zy zo0 (fun x=>z4n N x.1) (z6e (.v (.int .i64)) 1)
theorem zje (N:Nat):Contract Tryd.prog glob 30 (zbe N) :=
 Contract.of (E:=E_37 N) (H:=t_37 N) (L:=L_37) (N:=N) (body:=zxn) (K:=(z2u (.v (.int .i64)) 1)) (z1sx N) Tryd.func30 (by kernel_rfl) (by decide) (fun _ hb=>(TabOk.cons (z1ih hb) TabOk.nil)) (fun x y h=>by rw[z1b5];exact h) (zz (s:=(.v (.int .i64))) (m:=1))
def z1ck:Code:=(Tryd.f52.body).getD .skip
def L_38:List (List Nat×List Nat):=[([0],[0]),([0,1],[3]),([0,1,1],[2]),([1,1,1],[2])]
def E_38 (N:Nat):Env:=z1d tys glob [] [] [] [] false [] []
theorem z1sw (N:Nat):EnvOk Tryd.prog (E_38 N):=zg mixed zn (FnsOk.nil) (ItsOk.nil)
def zhb (N:Nat)(n:Int):Option (List UInt8):=some (zd7 ([(IntKind.wrap IntKind.u8 n)]:List Int))
def t_38 (N:Nat):Tab (List UInt8):=[]
theorem z1b4 (N:Nat)(x:zw [(0,.v (.int .i64))]):z4x (E_38 N) N (t_38 N) L_38 Tryd.f52 (mkS [(0,.v (.int .i64))] 0 x) (z2u (.v .str) 1)=zhb N x.1:=by kernel_rfl
def zcn (N:Nat):List A->Res:=zy [(0,.v (.int .i64))] (fun x=>zhb N x.1) (z6e (.v .str) 1)
theorem zk9 (N:Nat):Contract Tryd.prog glob 52 (zcn N) :=
 Contract.of (E:=E_38 N) (H:=t_38 N) (L:=L_38) (N:=N) (body:=z1ck) (K:=(z2u (.v .str) 1)) (z1sw N) Tryd.func52 (by kernel_rfl) (by decide) (fun _ hb=>TabOk.nil) (fun x y h=>by rw[z1b4];exact h) (zz (s:=(.v .str)) (m:=1))
def zxm:Code:=(Tryd.f53.body).getD .skip
def L_39:List (List Nat×List Nat):=[([0],[0]),([0,1],[0,3]),([0,1,1],[0,4,3]),([0,0,1,1,1],[5,0,4,3]),([0,1,0,1,1,1],[5,0,4,3]),([0,0,0,0,1,0,1,1,1],[11,0,5,4,3]),([1,0,0,0,1,0,1,1,1],[0,5,4,3]),([1,1,0,0,0,1,0,1,1,1],[4]),([0,0,0,1,0,0,1,0,1,1,1],[4,3,6,7,5,0]),([1,0,0,1,0,0,1,0,1,1,1],[5,0,4,3]),([0,1,0,0,1,0,1,1,1],[5,0,4,3]),([1,1,0,0,1,0,1,1,1],[5,0,4,3]),([1,0,1,1,1],[4]),([0,1,1,1,1],[2]),([1,1,1,1,1],[2])]
def E_39 (N:Nat):Env:=z1d tys glob [] [] [] [] false [] []
theorem z1sv (N:Nat):EnvOk Tryd.prog (E_39 N):=zg mixed zn (FnsOk.nil) (ItsOk.nil)
def zex (N:Nat)(s:(List UInt8))(d:(List UInt8))(out:(List UInt8))(i:Int)(rec:(List UInt8)->Int->Option (List UInt8))(k0:(List UInt8)->Option (List UInt8)):Option (List UInt8):=cond (decide (i<(List.length s:Int))) (cond (inR i (List.length s)) (cond (inR i (List.length s)) (cond (decide ((0<=(IntKind.wrap IntKind.i64 ((IntKind.wrap IntKind.i64 (Int.tdiv (IntKind.wrap IntKind.i64 (UInt8.toNat (List.getD s (Int.toNat i) (0:UInt8)):Int)) 16))+1)))/\((IntKind.wrap IntKind.i64 ((IntKind.wrap IntKind.i64 (Int.tdiv (IntKind.wrap IntKind.i64 (UInt8.toNat (List.getD s (Int.toNat i) (0:UInt8)):Int)) 16))+1))<=(List.length d:Int)))) (cond (decide ((0<=(IntKind.wrap IntKind.i64 (Int.tdiv (IntKind.wrap IntKind.i64 (UInt8.toNat (List.getD s (Int.toNat i) (0:UInt8)):Int)) 16)))/\((IntKind.wrap IntKind.i64 (Int.tdiv (IntKind.wrap IntKind.i64 (UInt8.toNat (List.getD s (Int.toNat i) (0:UInt8)):Int)) 16))<=(IntKind.wrap IntKind.i64 ((IntKind.wrap IntKind.i64 (Int.tdiv (IntKind.wrap IntKind.i64 (UInt8.toNat (List.getD s (Int.toNat i) (0:UInt8)):Int)) 16))+1))))) (cond (decide (((List.length out)+(List.length (cut d (Int.toNat (IntKind.wrap IntKind.i64 (Int.tdiv (IntKind.wrap IntKind.i64 (UInt8.toNat (List.getD s (Int.toNat i) (0:UInt8)):Int)) 16))) (Int.toNat (IntKind.wrap IntKind.i64 ((IntKind.wrap IntKind.i64 (Int.tdiv (IntKind.wrap IntKind.i64 (UInt8.toNat (List.getD s (Int.toNat i) (0:UInt8)):Int)) 16))+1))))))<=9223372036854775807)) (cond (decide ((0<=(IntKind.wrap IntKind.i64 ((Int.tmod (IntKind.wrap IntKind.i64 (UInt8.toNat (List.getD s (Int.toNat i) (0:UInt8)):Int)) 16)+1)))/\((IntKind.wrap IntKind.i64 ((Int.tmod (IntKind.wrap IntKind.i64 (UInt8.toNat (List.getD s (Int.toNat i) (0:UInt8)):Int)) 16)+1))<=(List.length d:Int)))) (cond (decide ((0<=(Int.tmod (IntKind.wrap IntKind.i64 (UInt8.toNat (List.getD s (Int.toNat i) (0:UInt8)):Int)) 16))/\((Int.tmod (IntKind.wrap IntKind.i64 (UInt8.toNat (List.getD s (Int.toNat i) (0:UInt8)):Int)) 16)<=(IntKind.wrap IntKind.i64 ((Int.tmod (IntKind.wrap IntKind.i64 (UInt8.toNat (List.getD s (Int.toNat i) (0:UInt8)):Int)) 16)+1))))) (cond (decide (((List.length (out++(cut d (Int.toNat (IntKind.wrap IntKind.i64 (Int.tdiv (IntKind.wrap IntKind.i64 (UInt8.toNat (List.getD s (Int.toNat i) (0:UInt8)):Int)) 16))) (Int.toNat (IntKind.wrap IntKind.i64 ((IntKind.wrap IntKind.i64 (Int.tdiv (IntKind.wrap IntKind.i64 (UInt8.toNat (List.getD s (Int.toNat i) (0:UInt8)):Int)) 16))+1))))))+(List.length (cut d (Int.toNat (Int.tmod (IntKind.wrap IntKind.i64 (UInt8.toNat (List.getD s (Int.toNat i) (0:UInt8)):Int)) 16)) (Int.toNat (IntKind.wrap IntKind.i64 ((Int.tmod (IntKind.wrap IntKind.i64 (UInt8.toNat (List.getD s (Int.toNat i) (0:UInt8)):Int)) 16)+1))))))<=9223372036854775807)) (rec ((out++(cut d (Int.toNat (IntKind.wrap IntKind.i64 (Int.tdiv (IntKind.wrap IntKind.i64 (UInt8.toNat (List.getD s (Int.toNat i) (0:UInt8)):Int)) 16))) (Int.toNat (IntKind.wrap IntKind.i64 ((IntKind.wrap IntKind.i64 (Int.tdiv (IntKind.wrap IntKind.i64 (UInt8.toNat (List.getD s (Int.toNat i) (0:UInt8)):Int)) 16))+1)))))++(cut d (Int.toNat (Int.tmod (IntKind.wrap IntKind.i64 (UInt8.toNat (List.getD s (Int.toNat i) (0:UInt8)):Int)) 16)) (Int.toNat (IntKind.wrap IntKind.i64 ((Int.tmod (IntKind.wrap IntKind.i64 (UInt8.toNat (List.getD s (Int.toNat i) (0:UInt8)):Int)) 16)+1))))) (IntKind.wrap IntKind.i64 (i+1))) none) none) none) none) none) none) none) none) (k0 out)
def zl7 (N:Nat)(s:(List UInt8))(d:(List UInt8))(out:(List UInt8))(i:Int)(k0:(List UInt8)->Option (List UInt8)):Option (List UInt8):=iter (fun (v:((List UInt8)×Int)) r=>zex N s d v.1 v.2 (fun out i=>(r (out,i))) k0) N (out,i)
def z1q6 (N:Nat)(i:((List UInt8)×(List UInt8)))(v:((List UInt8)×Int))(r:((List UInt8)×Int)->Option (List UInt8))(K:Ex->List A->Option (List UInt8)):Option (List UInt8):=zex N i.1 i.2 v.1 v.2 (fun out i=>(r (out,i))) (fun a0=>(K (.exit 0) (mkS [(4,.v .str)] 33 (a0,()))))
def z1mk (N:Nat):Hd (List UInt8):=fun st K=>(unS [(0,.v .str),(2,.v .str),(0,.v .str),(0,.v (.int .i64))] 32 (restr [5,0,4,3] 0 st)).bind fun x=>iter (fun v r=>z1q6 N ((fun x=>(x.1,x.2.1)) x) v r K) N ((fun x=>(x.2.2.1,x.2.2.2.1)) x)
def t1_39 (N:Nat):Tab (List UInt8):=[]
theorem z1ig {N:Nat}{c:Ctx}(hb:Base Tryd.prog (E_39 N) c):zi Tryd.prog c (zf zxm [0,1,0,1,1,1]) (z1mk N) :=
 z2p (s:=[(0,.v .str),(2,.v .str),(0,.v .str),(0,.v (.int .i64))]) (m:=32) (z1q6 N) [5,0,4,3] N (fun x=>(x.1,x.2.1)) (fun x=>(x.2.2.1,x.2.2.2.1)) (fun i v=>(i.1,i.2,v.1,v.2,())) (fun _=>rfl) (ze hb N (t1_39 N) L_39 zxm TabOk.nil z115 _ rfl) (fun i v r K=>by kernel_rfl)
def zea (N:Nat)(s:(List UInt8)):Option (List UInt8):=zl7 N s ([(48:UInt8),(49:UInt8),(50:UInt8),(51:UInt8),(52:UInt8),(53:UInt8),(54:UInt8),(55:UInt8),(56:UInt8),(57:UInt8),(97:UInt8),(98:UInt8),(99:UInt8),(100:UInt8),(101:UInt8),(102:UInt8)]:List UInt8) [] 0 (fun out=>some out)
def t_39 (N:Nat):Tab (List UInt8):=[([0,1,0,1,1,1],z1mk N)]
theorem z1b3 (N:Nat)(x:zw [(0,.v .str)]):z4x (E_39 N) N (t_39 N) L_39 Tryd.f53 (mkS [(0,.v .str)] 0 x) (z2u (.v .str) 1)=zea N x.1:=by kernel_rfl
def ze9 (N:Nat):List A->Res:=zy [(0,.v .str)] (fun x=>zea N x.1) (z6e (.v .str) 1)
theorem zl8 (N:Nat):Contract Tryd.prog glob 53 (ze9 N) :=
 Contract.of (E:=E_39 N) (H:=t_39 N) (L:=L_39) (N:=N) (body:=zxm) (K:=(z2u (.v .str) 1)) (z1sv N) Tryd.func53 (by kernel_rfl) (by decide) (fun _ hb=>(TabOk.cons (z1ig hb) TabOk.nil)) (fun x y h=>by rw[z1b3];exact h) (zz (s:=(.v .str)) (m:=1))
def zkr:Code:=(Tryd.f33.body).getD .skip
def z1r9:List (List Nat×List Nat):=[([0],[1,0]),([0,0,1],[5,1,0]),([0,1,0,1],[5,1,0]),([0,0,0,0,1,0,1],[9,1,5,0]),([1,0,0,0,1,0,1],[1,5,0]),([1,1,0,0,0,1,0,1],[0]),([0,0,0,1,0,0,1,0,1],[17,1,5,0]),([1,0,0,1,0,0,1,0,1],[5,1,0]),([0,0,1,0,0,1,0,0,1,0,1],[4]),([1,0,1,0,0,1,0,0,1,0,1],[4]),(z14n,[5,1,0]),([1,1,0,0,1,0,1],[5,1,0]),([1,0,1],[0]),([0,0,1,1],[29,0]),([1,0,1,1],[0]),([0,0,1,0,1,1],[4]),([1,0,1,0,1,1],[4]),([0,1,1,1],[4]),([1,1,1,1],[4])]
def z1eg (N:Nat):Env:=z1d tys glob [(53,ze9 N),(52,zcn N)] [] [] [] false [] []
theorem z1su (N:Nat):EnvOk Tryd.prog (z1eg N):=zg mixed zn (FnsOk.cons (zl8 N) (FnsOk.cons (zk9 N) (FnsOk.nil))) (ItsOk.nil)
def zdz (N:Nat)(b:Int)(some_:(List UInt8))(i:Int)(rec:Int->Option (List UInt8))(k0:(List UInt8)->Option (List UInt8))(k1:Option (List UInt8)):Option (List UInt8):=cond (decide (i<(List.length some_:Int))) (cond (inR i (List.length some_)) (cond ((IntKind.wrap IntKind.i64 (UInt8.toNat (List.getD some_ (Int.toNat i) (0:UInt8)):Int)) == b) (cond (decide ((0<=(IntKind.wrap IntKind.i64 (i+1)))/\((IntKind.wrap IntKind.i64 (i+1))<=(List.length some_:Int)))) (cond (decide ((0<=i)/\(i<=(IntKind.wrap IntKind.i64 (i+1))))) (cond (decide ((1+(List.length (cut some_ (Int.toNat i) (Int.toNat (IntKind.wrap IntKind.i64 (i+1))))))<=9223372036854775807)) (k0 (([(92:UInt8)]:List UInt8)++(cut some_ (Int.toNat i) (Int.toNat (IntKind.wrap IntKind.i64 (i+1)))))) none) none) none) (rec (IntKind.wrap IntKind.i64 (i+1)))) none) k1
def zk6 (N:Nat)(b:Int)(some_:(List UInt8))(i:Int)(k0:(List UInt8)->Option (List UInt8))(k1:Option (List UInt8)):Option (List UInt8):=iter (fun (v:Int) r=>zdz N b some_ v (fun i=>(r i)) k0 k1) N i
def z1q5 (N:Nat)(i:(Int×(List UInt8)))(v:Int)(r:Int->Option (List UInt8))(K:Ex->List A->Option (List UInt8)):Option (List UInt8):=zdz N i.1 i.2 v (fun i=>(r i)) (fun a0=>(K .ret (mkS [(4,.v .str)] 31 (a0,())))) (K (.exit 0) (mkS [(0,.v (.int .i64))] 35 (i.1,())))
def z1mj (N:Nat):Hd (List UInt8):=fun st K=>(unS [(0,.v (.int .i64)),(0,.v .str),(3,.v (.int .i64))] 30 (restr [5,1,0] 0 st)).bind fun x=>iter (fun v r=>z1q5 N ((fun x=>(x.1,x.2.1)) x) v r K) N ((fun x=>x.2.2.1) x)
def t1_40 (N:Nat):Tab (List UInt8):=[]
theorem z1if {N:Nat}{c:Ctx}(hb:Base Tryd.prog (z1eg N) c):zi Tryd.prog c (zf zkr [0,1,0,1]) (z1mj N) :=
 z2p (s:=[(0,.v (.int .i64)),(0,.v .str),(3,.v (.int .i64))]) (m:=30) (z1q5 N) [5,1,0] N (fun x=>(x.1,x.2.1)) (fun x=>x.2.2.1) (fun i v=>(i.1,i.2,v,())) (fun _=>rfl) (ze hb N (t1_40 N) z1r9 zkr TabOk.nil [0,0,1,0,1] _ rfl) (fun i v r K=>by kernel_rfl)
def ze0 (N:Nat)(b:Int)(k0:Bool->Option (List UInt8)):Option (List UInt8):=cond (decide (32<=b)) (k0 (decide (b<=126))) (k0 false)
def z1o1 (N:Nat)(x:zw [(0,.v (.int .i64))])(K:Ex->List A->Option (List UInt8)):Option (List UInt8):=ze0 N x.1 (fun a1=>(K .normal (mkS [(0,.v (.int .i64)),(28,.v .bool)] 6 (x.1,a1,()))))
def z1kf (N:Nat):Hd (List UInt8):=fun st K=>(unS [(0,.v (.int .i64))] 35 (restr [0] 0 st)).bind fun x=>z1o1 N x K
def t3_40 (N:Nat):Tab (List UInt8):=[]
theorem z1gb {N:Nat}{c:Ctx}(hb:Base Tryd.prog (z1eg N) c):zi Tryd.prog c (zf zkr [0,0,1,1]) (z1kf N) :=
 zh (s:=[(0,.v (.int .i64))]) (m:=35) (g:=z1o1 N) [0] (ze hb N (t3_40 N) z1r9 zkr TabOk.nil [0,0,1,1] _ rfl) (fun x K=>by kernel_rfl)
def ze1 (N:Nat)(b:Int)(k0:(List UInt8)->Option (List UInt8))(k1:Option (List UInt8)):Option (List UInt8):=ze0 N b (fun x29=>cond x29 (k0 (zd7 ([(IntKind.wrap IntKind.u8 b)]:List Int))) k1)
def z1or (N:Nat)(x:zw [(0,.v (.int .i64))])(K:Ex->List A->Option (List UInt8)):Option (List UInt8):=ze1 N x.1 (fun a0=>(K .ret (mkS [(4,.v .str)] 31 (a0,())))) (K .normal (mkS [(0,.v (.int .i64))] 35 (x.1,())))
def z1l5 (N:Nat):Hd (List UInt8):=fun st K=>(unS [(0,.v (.int .i64))] 35 (restr [0] 0 st)).bind fun x=>z1or N x K
def t2_40 (N:Nat):Tab (List UInt8):=[([0,0,1,1],z1kf N)]
theorem z1h1 {N:Nat}{c:Ctx}(hb:Base Tryd.prog (z1eg N) c):zi Tryd.prog c (zf zkr [0,1,1]) (z1l5 N) :=
 zh (s:=[(0,.v (.int .i64))]) (m:=35) (g:=z1or N) [0] (ze hb N (t2_40 N) z1r9 zkr (TabOk.cons (z1gb hb) TabOk.nil) [0,1,1] _ rfl) (fun x K=>by kernel_rfl)
def z3b (N:Nat)(b:Int)(some_:(List UInt8)):Option (List UInt8):=zk6 N b some_ 0 (fun x4=>some x4) (ze1 N b (fun x41=>some x41) ((zea N (zd7 ([(IntKind.wrap IntKind.u8 b)]:List Int))).bind fun y=>cond (decide ((2+(List.length y))<=9223372036854775807)) (some (([(92:UInt8),(120:UInt8)]:List UInt8)++y)) none))
def t_40 (N:Nat):Tab (List UInt8):=[([0,1,0,1],z1mj N),([0,1,1],z1l5 N)]
theorem z1b2 (N:Nat)(x:zw [(0,.v (.int .i64)),(0,.v .str)]):z4x (z1eg N) N (t_40 N) z1r9 Tryd.f33 (mkS [(0,.v (.int .i64)),(0,.v .str)] 0 x) (z2u (.v .str) 2)=z3b N x.1 x.2.1:=by kernel_rfl
def z7l (N:Nat):List A->Res:=zy [(0,.v (.int .i64)),(0,.v .str)] (fun x=>z3b N x.1 x.2.1) (z6e (.v .str) 2)
theorem ze2 (N:Nat):Contract Tryd.prog glob 33 (z7l N) :=
 Contract.of (E:=z1eg N) (H:=t_40 N) (L:=z1r9) (N:=N) (body:=zkr) (K:=(z2u (.v .str) 2)) (z1su N) Tryd.func33 (by kernel_rfl) (by decide) (fun _ hb=>(TabOk.cons (z1if hb) (TabOk.cons (z1h1 hb) TabOk.nil))) (fun x y h=>by rw[z1b2];exact h) (zz (s:=(.v .str)) (m:=2))
def z1cj:Code:=(Tryd.f11.body).getD .skip
def L_41:List (List Nat×List Nat):=[([0],[0]),([0,1],[2]),([1,1],[2])]
def E_41 (N:Nat):Env:=z1d tys glob [(33,z7l N)] [] [] [] false [] []
theorem z1st (N:Nat):EnvOk Tryd.prog (E_41 N):=zg mixed zn (FnsOk.cons (ze2 N) (FnsOk.nil)) (ItsOk.nil)
def z43 (N:Nat)(b:Int):Option (List UInt8):=(z3b N b ([(92:UInt8),(46:UInt8),(91:UInt8),(93:UInt8),(40:UInt8),(41:UInt8),(123:UInt8),(125:UInt8),(124:UInt8),(42:UInt8),(43:UInt8),(63:UInt8)]:List UInt8)).bind fun y=>some y
def t_41 (N:Nat):Tab (List UInt8):=[]
theorem z1b1 (N:Nat)(x:zw [(0,.v (.int .i64))]):z4x (E_41 N) N (t_41 N) L_41 Tryd.f11 (mkS [(0,.v (.int .i64))] 0 x) (z2u (.v .str) 1)=z43 N x.1:=by kernel_rfl
def z7m (N:Nat):List A->Res:=zy [(0,.v (.int .i64))] (fun x=>z43 N x.1) (z6e (.v .str) 1)
theorem ze3 (N:Nat):Contract Tryd.prog glob 11 (z7m N) :=
 Contract.of (E:=E_41 N) (H:=t_41 N) (L:=L_41) (N:=N) (body:=z1cj) (K:=(z2u (.v .str) 1)) (z1st N) Tryd.func11 (by kernel_rfl) (by decide) (fun _ hb=>TabOk.nil) (fun x y h=>by rw[z1b1];exact h) (zz (s:=(.v .str)) (m:=1))
def zkq:Code:=(Tryd.f50.body).getD .skip
def z1r8:List (List Nat×List Nat):=[([0],[1,2,4]),([0,0,1],[17,2,4,1]),([1,0,1],[1,2,4]),([0,0,1,0,1],[4]),([1,0,1,0,1],[4]),([0,1,1],[1,5,2,4]),([0,0,1,1,1],[6,1,5,2,4]),([0,1,0,1,1,1],[6,1,5,2,4]),([0,0,0,0,1,0,1,1,1],[22,5,6,1,2,4]),([1,0,0,0,1,0,1,1,1],[5,6,1,2,4]),([1,1,0,0,0,1,0,1,1,1],[1,2,5,4]),([0,0,1,0,0,1,0,1,1,1],[6,1,5,2,4]),([0,1,0,0,1,0,1,1,1],[6,1,5,2,4]),([1,1,0,0,1,0,1,1,1],[6,1,5,2,4]),([1,0,1,1,1],[1,2,5,4]),([0,1,1,1,1],[2,4]),([0,1,1,1,1,1],[4]),([1,1,1,1,1,1],[4])]
def z1ef (N:Nat):Env:=z1d tys glob [(29,z3t N)] [] [] [] false [] []
theorem z1ss (N:Nat):EnvOk Tryd.prog (z1ef N):=zg mixed zn (FnsOk.cons (z6d N) (FnsOk.nil)) (ItsOk.nil)
def ze7 (N:Nat)(b:Int)(s:(List Int))(x4:(List Int))(k0:Bool->Option (List Int)):Option (List Int):=cond (decide (b<0)) (k0 true) (cond (decide (255<b)) (k0 true) ((z2t N s b).bind fun y=>k0 y))
def z1oq (N:Nat)(x:zw z1d7)(K:Ex->List A->Option (List Int)):Option (List Int):=ze7 N x.1 x.2.1 x.2.2.1 (fun a3=>(K .normal (mkS [(1,.v (.int .i64)),(0,.box (.arr 4 (.int .u64))),(1,.box (.arr 4 (.int .u64))),(12,.v .bool)] 19 (x.1,x.2.1,x.2.2.1,a3,()))))
def z1l4 (N:Nat):Hd (List Int):=fun st K=>(unS z1d7 32 (restr [1,2,4] 0 st)).bind fun x=>z1oq N x K
def t2_42 (N:Nat):Tab (List Int):=[]
theorem z1h0 {N:Nat}{c:Ctx}(hb:Base Tryd.prog (z1ef N) c):zi Tryd.prog c (zf zkq [0,0,1]) (z1l4 N) :=
 zh (s:=z1d7) (m:=32) (g:=z1oq N) [1,2,4] (ze hb N (t2_42 N) z1r8 zkq TabOk.nil [0,0,1] _ rfl) (fun x K=>by kernel_rfl)
def ze8 (N:Nat)(b:Int)(s:(List Int))(x4:(List Int))(k0:Option (List Int))(k1:Option (List Int)):Option (List Int):=ze7 N b s x4 (fun x17=>cond x17 k0 k1)
def z1q4 (N:Nat)(x:zw z1d7)(K:Ex->List A->Option (List Int)):Option (List Int):=ze8 N x.1 x.2.1 x.2.2.1 (K .ret (mkS [(4,.box (.arr 4 (.int .u64)))] 32 (x.2.1,()))) (K .normal (mkS z1d7 32 (x.1,x.2.1,x.2.2.1,())))
def z1mi (N:Nat):Hd (List Int):=fun st K=>(unS z1d7 32 (restr [1,2,4] 0 st)).bind fun x=>z1q4 N x K
def t1_42 (N:Nat):Tab (List Int):=[([0,0,1],z1l4 N)]
theorem z1ie {N:Nat}{c:Ctx}(hb:Base Tryd.prog (z1ef N) c):zi Tryd.prog c (zf zkq [0,1]) (z1mi N) :=
 zh (s:=z1d7) (m:=32) (g:=z1q4 N) [1,2,4] (ze hb N (t1_42 N) z1r8 zkq (TabOk.cons (z1h0 hb) TabOk.nil) [0,1] _ rfl) (fun x K=>by kernel_rfl)
def ze6 (N:Nat)(b:Int)(s:(List Int))(x4:(List Int))(bit:Int)(i:Int)(rec:Int->Int->Option (List Int))(k0:Int->Option (List Int)):Option (List Int):=cond (decide (i<(Int.tmod b 64))) (rec (IntKind.wrap IntKind.u64 (2*bit)) (IntKind.wrap IntKind.i64 (i+1))) (k0 bit)
def zk8 (N:Nat)(b:Int)(s:(List Int))(x4:(List Int))(bit:Int)(i:Int)(k0:Int->Option (List Int)):Option (List Int):=iter (fun (v:(Int×Int)) r=>ze6 N b s x4 v.1 v.2 (fun bit i=>(r (bit,i))) k0) N (bit,i)
def z1o0 (N:Nat)(i:(Int×(List Int)×(List Int)))(v:(Int×Int))(r:(Int×Int)->Option (List Int))(K:Ex->List A->Option (List Int)):Option (List Int):=ze6 N i.1 i.2.1 i.2.2 v.1 v.2 (fun bit i=>(r (bit,i))) (fun a3=>(K (.exit 0) (mkS [(1,.v (.int .i64)),(0,.box (.arr 4 (.int .u64))),(1,.box (.arr 4 (.int .u64))),(0,.v (.int .u64))] 31 (i.1,i.2.1,i.2.2,a3,()))))
def z1ke (N:Nat):Hd (List Int):=fun st K=>(unS SQ57 30 (restr [6,1,5,2,4] 0 st)).bind fun x=>iter (fun v r=>z1o0 N ((fun x=>(x.1,x.2.1,x.2.2.1)) x) v r K) N ((fun x=>(x.2.2.2.1,x.2.2.2.2.1)) x)
def t3_42 (N:Nat):Tab (List Int):=[]
theorem z1ga {N:Nat}{c:Ctx}(hb:Base Tryd.prog (z1ef N) c):zi Tryd.prog c (zf zkq [0,1,0,1,1,1]) (z1ke N) :=
 z2p (s:=SQ57) (m:=30) (z1o0 N) [6,1,5,2,4] N (fun x=>(x.1,x.2.1,x.2.2.1)) (fun x=>(x.2.2.2.1,x.2.2.2.2.1)) (fun i v=>(i.1,i.2.1,i.2.2,v.1,v.2,())) (fun _=>rfl) (ze hb N (t3_42 N) z1r8 zkq TabOk.nil z115 _ rfl) (fun i v r K=>by kernel_rfl)
def z5p (N:Nat)(s:(List Int))(b:Int):Option (List Int):=ze8 N b s ([0,0,0,0]:List Int) (some s) (zk8 N b s ([0,0,0,0]:List Int) 1 0 (fun bit=>cond (inR (IntKind.wrap IntKind.i64 (Int.tdiv b 64)) 4) (cond (decide ((Int.toNat (IntKind.wrap IntKind.i64 (Int.tdiv b 64)))<(List.length s))) (cond (inR (IntKind.wrap IntKind.i64 (Int.tdiv b 64)) 4) (cond (decide ((Int.toNat (IntKind.wrap IntKind.i64 (Int.tdiv b 64)))<(List.length s))) (some (List.set s (Int.toNat (IntKind.wrap IntKind.i64 (Int.tdiv b 64))) (IntKind.wrap IntKind.u64 ((List.getD s (Int.toNat (IntKind.wrap IntKind.i64 (Int.tdiv b 64))) 0)+bit)))) none) none) none) none))
def t_42 (N:Nat):Tab (List Int):=[([0,1],z1mi N),([0,1,0,1,1,1],z1ke N)]
theorem z1b0 (N:Nat)(x:zw z1dw):z4x (z1ef N) N (t_42 N) z1r8 Tryd.f50 (mkS z1dw 0 x) (z2u (.v (.arr 4 (.int .u64))) 2)=z5p N x.1 x.2.1:=by kernel_rfl
def z4j (N:Nat):List A->Res:=zy z1dw (fun x=>z5p N x.1 x.2.1) (z6e (.v (.arr 4 (.int .u64))) 2)
theorem z8u (N:Nat):Contract Tryd.prog glob 50 (z4j N) :=
 Contract.of (E:=z1ef N) (H:=t_42 N) (L:=z1r8) (N:=N) (body:=zkq) (K:=(z2u (.v (.arr 4 (.int .u64))) 2)) (z1ss N) Tryd.func50 (by kernel_rfl) (by decide) (fun _ hb=>(TabOk.cons (z1ie hb) (TabOk.cons (z1ga hb) TabOk.nil))) (fun x y h=>by rw[z1b0];exact h) (zz (s:=(.v (.arr 4 (.int .u64)))) (m:=2))
def zxl:Code:=(Tryd.f49.body).getD .skip
def L_43:List (List Nat×List Nat):=[([0],[0,1,4]),([0,1],[0,1,5,4]),([0,0,1,1],[6,1,5,4]),([0,1,0,1,1],[6,1,5,4]),(z11b,[10,5,6,1,4]),(z11a,[5,6,1,4]),(z1e8,[5,4]),([0,0,1,0,0,1,0,1,1],[6,1,5,4]),(ztb,[6,1,5,4]),(z119,[6,1,5,4]),([1,0,1,1],[5,4]),([0,1,1,1],[4]),([1,1,1,1],[4])]
def E_43 (N:Nat):Env:=z1d tys glob [(50,z4j N)] [] [] [] false [] []
theorem z1sr (N:Nat):EnvOk Tryd.prog (E_43 N):=zg mixed zn (FnsOk.cons (z8u N) (FnsOk.nil)) (ItsOk.nil)
def zan (N:Nat)(hi:Int)(x4:(List Int))(s:(List Int))(b:Int)(rec:(List Int)->Int->Option (List Int))(k0:(List Int)->Option (List Int)):Option (List Int):=cond (decide (b<=hi)) ((z5p N s b).bind fun y=>rec y (IntKind.wrap IntKind.i64 (b+1))) (k0 s)
def zhk (N:Nat)(hi:Int)(x4:(List Int))(s:(List Int))(b:Int)(k0:(List Int)->Option (List Int)):Option (List Int):=iter (fun (v:((List Int)×Int)) r=>zan N hi x4 v.1 v.2 (fun s b=>(r (s,b))) k0) N (s,b)
def z1q3 (N:Nat)(i:(Int×(List Int)))(v:((List Int)×Int))(r:((List Int)×Int)->Option (List Int))(K:Ex->List A->Option (List Int)):Option (List Int):=zan N i.1 i.2 v.1 v.2 (fun s b=>(r (s,b))) (fun a1=>(K (.exit 0) (mkS [(4,.box (.arr 4 (.int .u64))),(0,.box (.arr 4 (.int .u64)))] 11 (i.2,a1,()))))
def z1mh (N:Nat):Hd (List Int):=fun st K=>(unS SQ70 10 (restr [6,1,5,4] 0 st)).bind fun x=>iter (fun v r=>z1q3 N ((fun x=>(x.1,x.2.1)) x) v r K) N ((fun x=>(x.2.2.1,x.2.2.2.1)) x)
def t1_43 (N:Nat):Tab (List Int):=[]
theorem z1id {N:Nat}{c:Ctx}(hb:Base Tryd.prog (E_43 N) c):zi Tryd.prog c (zf zxl [0,1,0,1,1]) (z1mh N) :=
 z2p (s:=SQ70) (m:=10) (z1q3 N) [6,1,5,4] N (fun x=>(x.1,x.2.1)) (fun x=>(x.2.2.1,x.2.2.2.1)) (fun i v=>(i.1,i.2,v.1,v.2,())) (fun _=>rfl) (ze hb N (t1_43 N) L_43 zxl TabOk.nil [0,0,1,0,1,1] _ rfl) (fun i v r K=>by kernel_rfl)
def z2z (N:Nat)(lo:Int)(hi:Int):Option (List Int):=zhk N hi ([0,0,0,0]:List Int) ([0,0,0,0]:List Int) lo (fun s=>some s)
def t_43 (N:Nat):Tab (List Int):=[([0,1,0,1,1],z1mh N)]
theorem z1az (N:Nat)(x:zw SQ2):z4x (E_43 N) N (t_43 N) L_43 Tryd.f49 (mkS SQ2 0 x) (z2u (.v (.arr 4 (.int .u64))) 2)=z2z N x.1 x.2.1:=by kernel_rfl
def z5f (N:Nat):List A->Res:=zy SQ2 (fun x=>z2z N x.1 x.2.1) (z6e (.v (.arr 4 (.int .u64))) 2)
theorem zao (N:Nat):Contract Tryd.prog glob 49 (z5f N) :=
 Contract.of (E:=E_43 N) (H:=t_43 N) (L:=L_43) (N:=N) (body:=zxl) (K:=(z2u (.v (.arr 4 (.int .u64))) 2)) (z1sr N) Tryd.func49 (by kernel_rfl) (by decide) (fun _ hb=>(TabOk.cons (z1id hb) TabOk.nil)) (fun x y h=>by rw[z1az];exact h) (zz (s:=(.v (.arr 4 (.int .u64)))) (m:=2))
def z1ci:Code:=(Tryd.f31.body).getD .skip
def L_44:List (List Nat×List Nat):=[([0],[0]),([0,1],[0]),([1,1],[0])]
def E_44 (N:Nat):Env:=z1d tys glob [(49,z5f N)] [] [] [] false [] []
theorem z1sq (N:Nat):EnvOk Tryd.prog (E_44 N):=zg mixed zn (FnsOk.cons (zao N) (FnsOk.nil)) (ItsOk.nil)
def z6b (N:Nat):Option (List Int):=(z2z N 48 57).bind fun y=>some y
def t_44 (N:Nat):Tab (List Int):=[]
theorem z1ay (N:Nat)(x:zw []):z4x (E_44 N) N (t_44 N) L_44 Tryd.f31 (mkS [] 0 x) (z2u (.v (.arr 4 (.int .u64))) 0)=z6b N:=by kernel_rfl
def zam (N:Nat):List A->Res:=zy [] (fun x=>z6b N) (z6e (.v (.arr 4 (.int .u64))) 0)
theorem zi5 (N:Nat):Contract Tryd.prog glob 31 (zam N) :=
 Contract.of (E:=E_44 N) (H:=t_44 N) (L:=L_44) (N:=N) (body:=z1ci) (K:=(z2u (.v (.arr 4 (.int .u64))) 0)) (z1sq N) Tryd.func31 (by kernel_rfl) (by decide) (fun _ hb=>TabOk.nil) (fun x y h=>by rw[z1ay];exact h) (zz (s:=(.v (.arr 4 (.int .u64)))) (m:=0))
def zpw:Code:=(Tryd.f51.body).getD .skip
def L_45:List (List Nat×List Nat):=[([0],[3,2,4]),([0,0,1],[5,3,2,4]),([0,1,0,1],[5,3,2,4]),([0,0,0,0,1,0,1],[7,3,5,2,4]),([1,0,0,0,1,0,1],[3,5,2,4]),([1,1,0,0,0,1,0,1],[2,4]),([0,0,0,1,0,0,1,0,1],[12,2,5,3,4]),([1,0,0,1,0,0,1,0,1],[5,3,2,4]),([0,1,0,0,1,0,0,1,0,1],[5,3,2,4]),(z14n,[5,3,2,4]),([1,1,0,0,1,0,1],[5,3,2,4]),([1,0,1],[2,4]),([0,1,1],[4]),([1,1,1],[4])]
def z1tw (N:Nat):Env:=z1d tys glob [(50,z4j N),(29,z3t N)] [] [] [] false [] []
theorem z1sp (N:Nat):EnvOk Tryd.prog (z1tw N):=zg mixed zn (FnsOk.cons (z8u N) (FnsOk.cons (z6d N) (FnsOk.nil))) (ItsOk.nil)
def zfx (N:Nat)(s:(List Int))(t:(List Int))(x4:(List Int))(b:Int)(k0:(List Int)->Option (List Int)):Option (List Int):=(z2t N t b).bind fun y=>cond y ((z5p N s b).bind fun y1=>k0 y1) (k0 s)
def z1op (N:Nat)(x:zw z1e6)(K:Ex->List A->Option (List Int)):Option (List Int):=zfx N x.1 x.2.1 x.2.2.1 x.2.2.2.1 (fun a0=>(K .normal (mkS z1e6 11 (a0,x.2.1,x.2.2.1,x.2.2.2.1,()))))
def z1l3 (N:Nat):Hd (List Int):=fun st K=>(unS z1e6 11 (restr [3,5,2,4] 0 st)).bind fun x=>z1op N x K
def t2_45 (N:Nat):Tab (List Int):=[]
theorem z1gz {N:Nat}{c:Ctx}(hb:Base Tryd.prog (z1tw N) c):zi Tryd.prog c (zf zpw z14n) (z1l3 N) :=
 zh (s:=z1e6) (m:=11) (g:=z1op N) [3,5,2,4] (ze hb N (t2_45 N) L_45 zpw TabOk.nil z14n _ rfl) (fun x K=>by kernel_rfl)
def zfw (N:Nat)(t:(List Int))(x4:(List Int))(s:(List Int))(b:Int)(rec:(List Int)->Int->Option (List Int))(k0:(List Int)->Option (List Int)):Option (List Int):=cond (decide (b<256)) (zfx N s t x4 b (fun s1=>rec s1 (IntKind.wrap IntKind.i64 (b+1)))) (k0 s)
def zm3 (N:Nat)(s:(List Int))(t:(List Int))(x4:(List Int))(b:Int)(k0:(List Int)->Option (List Int)):Option (List Int):=iter (fun (v:((List Int)×Int)) r=>zfw N t x4 v.1 v.2 (fun s b=>(r (s,b))) k0) N (s,b)
def z1q2 (N:Nat)(i:((List Int)×(List Int)))(v:((List Int)×Int))(r:((List Int)×Int)->Option (List Int))(K:Ex->List A->Option (List Int)):Option (List Int):=zfw N i.1 i.2 v.1 v.2 (fun s b=>(r (s,b))) (fun a0=>(K (.exit 0) (mkS SQ76 12 (a0,i.2,()))))
def z1mg (N:Nat):Hd (List Int):=fun st K=>(unS z1e6 11 (restr [5,3,2,4] 0 st)).bind fun x=>iter (fun v r=>z1q2 N ((fun x=>(x.2.1,x.2.2.1)) x) v r K) N ((fun x=>(x.1,x.2.2.2.1)) x)
def t1_45 (N:Nat):Tab (List Int):=[(z14n,z1l3 N)]
theorem z1ic {N:Nat}{c:Ctx}(hb:Base Tryd.prog (z1tw N) c):zi Tryd.prog c (zf zpw [0,1,0,1]) (z1mg N) :=
 z2p (s:=z1e6) (m:=11) (z1q2 N) [5,3,2,4] N (fun x=>(x.2.1,x.2.2.1)) (fun x=>(x.1,x.2.2.2.1)) (fun i v=>(v.1,i.1,i.2,v.2,())) (fun _=>rfl) (ze hb N (t1_45 N) L_45 zpw (TabOk.cons (z1gz hb) TabOk.nil) [0,0,1,0,1] _ rfl) (fun i v r K=>by kernel_rfl)
def zb1 (N:Nat)(s:(List Int))(t:(List Int)):Option (List Int):=zm3 N s t ([0,0,0,0]:List Int) 0 (fun s1=>some s1)
def t_45 (N:Nat):Tab (List Int):=[([0,1,0,1],z1mg N)]
theorem z1ax (N:Nat)(x:zw z11i):z4x (z1tw N) N (t_45 N) L_45 Tryd.f51 (mkS z11i 0 x) (z2u (.v (.arr 4 (.int .u64))) 2)=zb1 N x.1 x.2.1:=by kernel_rfl
def zew (N:Nat):List A->Res:=zy z11i (fun x=>zb1 N x.1 x.2.1) (z6e (.v (.arr 4 (.int .u64))) 2)
theorem zm4 (N:Nat):Contract Tryd.prog glob 51 (zew N) :=
 Contract.of (E:=z1tw N) (H:=t_45 N) (L:=L_45) (N:=N) (body:=zpw) (K:=(z2u (.v (.arr 4 (.int .u64))) 2)) (z1sp N) Tryd.func51 (by kernel_rfl) (by decide) (fun _ hb=>(TabOk.cons (z1ic hb) TabOk.nil)) (fun x y h=>by rw[z1ax];exact h) (zz (s:=(.v (.arr 4 (.int .u64)))) (m:=2))
def z1ch:Code:=(Tryd.f32.body).getD .skip
def L_46:List (List Nat×List Nat):=[([0],[0]),([0,1],[0]),([1,1],[0])]
def E_46 (N:Nat):Env:=z1d tys glob [(51,zew N),(49,z5f N),(50,z4j N)] [] [] [] false [] []
theorem z1so (N:Nat):EnvOk Tryd.prog (E_46 N):=zg mixed zn (FnsOk.cons (zm4 N) (FnsOk.cons (zao N) (FnsOk.cons (z8u N) (FnsOk.nil)))) (ItsOk.nil)
def z71 (N:Nat):Option (List Int):=(z2z N 48 57).bind fun y=>(z2z N 65 90).bind fun y1=>(zb1 N y y1).bind fun y2=>(z2z N 97 122).bind fun y3=>(zb1 N y2 y3).bind fun y4=>(z5p N y4 95).bind fun y5=>some y5
def t_46 (N:Nat):Tab (List Int):=[]
theorem z1aw (N:Nat)(x:zw []):z4x (E_46 N) N (t_46 N) L_46 Tryd.f32 (mkS [] 0 x) (z2u (.v (.arr 4 (.int .u64))) 0)=z71 N:=by kernel_rfl
def zbc (N:Nat):List A->Res:=zy [] (fun x=>z71 N) (z6e (.v (.arr 4 (.int .u64))) 0)
theorem zjd (N:Nat):Contract Tryd.prog glob 32 (zbc N) :=
 Contract.of (E:=E_46 N) (H:=t_46 N) (L:=L_46) (N:=N) (body:=z1ch) (K:=(z2u (.v (.arr 4 (.int .u64))) 0)) (z1so N) Tryd.func32 (by kernel_rfl) (by decide) (fun _ hb=>TabOk.nil) (fun x y h=>by rw[z1aw];exact h) (zz (s:=(.v (.arr 4 (.int .u64)))) (m:=0))
def z5k:Code:=(Tryd.f9.body).getD .skip
def z14u:List (List Nat×List Nat):=[([0],[1]),([0,1],[1,3]),([0,0,1,1],[4,1,3]),([0,1,0,1,1],[4,1,3]),(z11b,[9,1,4,3]),(z11a,[1,4,3]),(z1e8,[3,1]),([0,0,0,1,0,0,1,0,1,1],[14,3,4,1]),([1,0,0,1,0,0,1,0,1,1],[4,1,3]),(z1e9,[4,1,3]),(ztb,[4,1,3]),(z119,[4,1,3]),([1,0,1,1],[3,1]),([0,0,1,1,1],[18,3,1]),([1,0,1,1,1],[3,1]),(z115,[2]),(z14m,[2]),([0,0,1,1,1,1],[20,3,1]),([1,0,1,1,1,1],[3,1]),(z14t,[2]),([1,0,1,0,1,1,1,1],[2]),(zms,[22,1]),(z11k,[1]),(z1r4,[2]),(z14s,[2]),(z16u,[28,1]),(z16t,[1]),([0,0,1,0,1,1,1,1,1,1],[2]),([1,0,1,0,1,1,1,1,1,1],[2]),([0,0,1,1,1,1,1,1,1],[31,1]),([1,0,1,1,1,1,1,1,1],[1]),([0,0,1,0,1,1,1,1,1,1,1],[2]),([1,0,1,0,1,1,1,1,1,1,1],[2]),([0,1,1,1,1,1,1,1,1],[1,5]),([0,1,1,1,1,1,1,1,1,1],[6,1,5]),([0,0,1,1,1,1,1,1,1,1,1,1],[6,1,5]),([0,0,0,0,0,1,1,1,1,1,1,1,1,1,1],[33,6,1,5]),([1,0,0,0,0,1,1,1,1,1,1,1,1,1,1],[6,1,5]),([1,1,0,0,0,0,1,1,1,1,1,1,1,1,1,1],[5]),([0,0,1,0,0,0,1,1,1,1,1,1,1,1,1,1],[7,1,6,5]),(PQ97,[7,1,6,5]),([0,0,0,0,0,1,0,1,0,0,0,1,1,1,1,1,1,1,1,1,1],[41,7,1,6,5]),([1,0,0,0,0,1,0,1,0,0,0,1,1,1,1,1,1,1,1,1,1],[7,1,6,5]),([1,1,0,0,0,0,1,0,1,0,0,0,1,1,1,1,1,1,1,1,1,1],[7,6,5,1]),([0,1,0,0,0,1,0,1,0,0,0,1,1,1,1,1,1,1,1,1,1],[7,1,6,5]),([1,0,0,0,1,0,1,0,0,0,1,1,1,1,1,1,1,1,1,1],[7,1,6,5]),(PQ73,[7,6,5,1]),([0,0,1,1,0,1,0,0,0,1,1,1,1,1,1,1,1,1,1],[46,5,6,7,1]),([1,0,1,1,0,1,0,0,0,1,1,1,1,1,1,1,1,1,1],[7,6,5,1]),([0,1,0,1,1,0,1,0,0,0,1,1,1,1,1,1,1,1,1,1],[7,6,5,1]),([0,0,1,1,1,0,1,0,0,0,1,1,1,1,1,1,1,1,1,1],[54,5,7,6,1]),([1,0,1,1,1,0,1,0,0,0,1,1,1,1,1,1,1,1,1,1],[7,6,5,1]),([0,1,0,1,1,1,0,1,0,0,0,1,1,1,1,1,1,1,1,1,1],[7,6,5,1]),([0,0,1,1,1,1,0,1,0,0,0,1,1,1,1,1,1,1,1,1,1],[60,5,7,1]),([1,0,1,1,1,1,0,1,0,0,0,1,1,1,1,1,1,1,1,1,1],[7,1,5]),([0,1,0,1,1,1,1,0,1,0,0,0,1,1,1,1,1,1,1,1,1,1],[7,1,5]),([1,1,1,1,1,0,1,0,0,0,1,1,1,1,1,1,1,1,1,1],[6,1,5]),([1,0,0,0,1,1,1,1,1,1,1,1,1,1],[6,1,5]),([0,1,1,1,1,1,1,1,1,1,1],[5]),([0,1,1,1,1,1,1,1,1,1,1,1],[2]),([1,1,1,1,1,1,1,1,1,1,1,1],[2])]
def z11l (N:Nat):Env:=z1d tys glob [(32,zbc N),(31,zam N),(11,z7m N),(33,z7l N),(30,zbe N),(29,z3t N)] [] [] [] false [] []
theorem z1sn (N:Nat):EnvOk Tryd.prog (z11l N):=zg mixed zn (FnsOk.cons (zjd N) (FnsOk.cons (zi5 N) (FnsOk.cons (ze3 N) (FnsOk.cons (ze2 N) (FnsOk.cons (zje N) (FnsOk.cons (z6d N) (FnsOk.nil))))))) (ItsOk.nil)
def za5 (N:Nat)(s:(List Int))(n:Int)(b:Int)(k0:Int->Option (List UInt8)):Option (List UInt8):=(z2t N s b).bind fun y=>cond y (k0 (IntKind.wrap IntKind.i64 (n+1))) (k0 n)
def z1oo (N:Nat)(x:zw z1e0)(K:Ex->List A->Option (List UInt8)):Option (List UInt8):=za5 N x.1 x.2.1 x.2.2.1 (fun a1=>(K .normal (mkS z1e0 65 (x.1,a1,x.2.2.1,()))))
def z1l2 (N:Nat):Hd (List UInt8):=fun st K=>(unS z1e0 65 (restr [1,4,3] 0 st)).bind fun x=>z1oo N x K
def t2_47 (N:Nat):Tab (List UInt8):=[]
theorem z1gy {N:Nat}{c:Ctx}(hb:Base Tryd.prog (z11l N) c):zi Tryd.prog c (zf z5k ztb) (z1l2 N) :=
 zh (s:=z1e0) (m:=65) (g:=z1oo N) [1,4,3] (ze hb N (t2_47 N) z14u z5k TabOk.nil ztb _ rfl) (fun x K=>by kernel_rfl)
def za1 (N:Nat)(s:(List Int))(n:Int)(b:Int)(rec:Int->Int->Option (List UInt8))(k0:Int->Option (List UInt8)):Option (List UInt8):=cond (decide (b<256)) (za5 N s n b (fun n1=>rec n1 (IntKind.wrap IntKind.i64 (b+1)))) (k0 n)
def za6 (N:Nat)(s:(List Int))(n:Int)(b:Int)(k0:Int->Option (List UInt8)):Option (List UInt8):=iter (fun (v:(Int×Int)) r=>za1 N s v.1 v.2 (fun n b=>(r (n,b))) k0) N (n,b)
def z1q1 (N:Nat)(i:(List Int))(v:(Int×Int))(r:(Int×Int)->Option (List UInt8))(K:Ex->List A->Option (List UInt8)):Option (List UInt8):=za1 N i v.1 v.2 (fun n b=>(r (n,b))) (fun a1=>(K (.exit 0) (mkS z1dx 66 (i,a1,()))))
def z1mf (N:Nat):Hd (List UInt8):=fun st K=>(unS z1e0 65 (restr [4,1,3] 0 st)).bind fun x=>iter (fun v r=>z1q1 N ((fun x=>x.1) x) v r K) N ((fun x=>(x.2.1,x.2.2.1)) x)
def t1_47 (N:Nat):Tab (List UInt8):=[(ztb,z1l2 N)]
theorem z1ib {N:Nat}{c:Ctx}(hb:Base Tryd.prog (z11l N) c):zi Tryd.prog c (zf z5k [0,1,0,1,1]) (z1mf N) :=
 z2p (s:=z1e0) (m:=65) (z1q1 N) [4,1,3] N (fun x=>x.1) (fun x=>(x.2.1,x.2.2.1)) (fun i v=>(i,v.1,v.2,())) (fun _=>rfl) (ze hb N (t1_47 N) z14u z5k (TabOk.cons (z1gy hb) TabOk.nil) [0,0,1,0,1,1] _ rfl) (fun i v r K=>by kernel_rfl)
def za3 (N:Nat)(s:(List Int))(out:(List UInt8))(lo:Int)(hi:Int)(k0:Option (List UInt8))(k1:Option (List UInt8)):Option (List UInt8):=cond (decide (hi<256)) ((z2t N s hi).bind fun y=>cond y k0 k1) k1
def z1n9 (N:Nat)(x:zw SQ3)(K:Ex->List A->Option (List UInt8)):Option (List UInt8):=za3 N x.1 x.2.1 x.2.2.1 x.2.2.2.1 (K .normal (mkS SQ3 62 (x.1,x.2.1,x.2.2.1,x.2.2.2.1,()))) (K (.exit 4) (mkS SQ3 62 (x.1,x.2.1,x.2.2.1,x.2.2.2.1,())))
def z1jn (N:Nat):Hd (List UInt8):=fun st K=>(unS SQ3 62 (restr [7,1,6,5] 0 st)).bind fun x=>z1n9 N x K
def t6_47 (N:Nat):Tab (List UInt8):=[]
theorem z1fj {N:Nat}{c:Ctx}(hb:Base Tryd.prog (z11l N) c):zi Tryd.prog c (zf z5k PQ84) (z1jn N) :=
 zh (s:=SQ3) (m:=62) (g:=z1n9 N) [7,1,6,5] (ze hb N (t6_47 N) z14u z5k TabOk.nil PQ84 _ rfl) (fun x K=>by kernel_rfl)
def z9z (N:Nat)(s:(List Int))(out:(List UInt8))(lo:Int)(hi:Int)(rec:Int->Option (List UInt8))(k0:Int->Option (List UInt8)):Option (List UInt8):=za3 N s out lo hi (rec (IntKind.wrap IntKind.i64 (hi+1))) (k0 hi)
def zeu (N:Nat)(s:(List Int))(out:(List UInt8))(lo:Int)(hi:Int)(k0:Int->Option (List UInt8)):Option (List UInt8):=iter (fun (v:Int) r=>z9z N s out lo v (fun hi=>(r hi)) k0) N hi
def z1nf (N:Nat)(i:((List Int)×(List UInt8)×Int))(v:Int)(r:Int->Option (List UInt8))(K:Ex->List A->Option (List UInt8)):Option (List UInt8):=z9z N i.1 i.2.1 i.2.2 v (fun hi=>(r hi)) (fun a3=>(K (.exit 4) (mkS SQ3 62 (i.1,i.2.1,i.2.2,a3,()))))
def z1jt (N:Nat):Hd (List UInt8):=fun st K=>(unS SQ3 62 (restr [7,1,6,5] 0 st)).bind fun x=>iter (fun v r=>z1nf N ((fun x=>(x.1,x.2.1,x.2.2.1)) x) v r K) N ((fun x=>x.2.2.2.1) x)
def t5_47 (N:Nat):Tab (List UInt8):=[(PQ84,z1jn N)]
theorem z1fp {N:Nat}{c:Ctx}(hb:Base Tryd.prog (z11l N) c):zi Tryd.prog c (zf z5k PQ97) (z1jt N) :=
 z2p (s:=SQ3) (m:=62) (z1nf N) [7,1,6,5] N (fun x=>(x.1,x.2.1,x.2.2.1)) (fun x=>x.2.2.2.1) (fun i v=>(i.1,i.2.1,i.2.2,v,())) (fun _=>rfl) (ze hb N (t5_47 N) z14u z5k (TabOk.cons (z1fj hb) TabOk.nil) [0,0,0,1,0,1,0,0,0,1,1,1,1,1,1,1,1,1,1] _ rfl) (fun i v r K=>by kernel_rfl)
def z69 (N:Nat)(s:(List Int))(out:(List UInt8))(lo:Int)(hi:Int)(k0:Int->Option (List UInt8)):Option (List UInt8):=zeu N s out lo hi (fun hi1=>k0 hi1)
def z1no (N:Nat)(x:zw SQ3)(K:Ex->List A->Option (List UInt8)):Option (List UInt8):=z69 N x.1 x.2.1 x.2.2.1 x.2.2.2.1 (fun a3=>(K .normal (mkS SQ3 62 (x.1,x.2.1,x.2.2.1,a3,()))))
def z1k2 (N:Nat):Hd (List UInt8):=fun st K=>(unS SQ3 62 (restr [7,1,6,5] 0 st)).bind fun x=>z1no N x K
def t4_47 (N:Nat):Tab (List UInt8):=[(PQ97,z1jt N)]
theorem z1fy {N:Nat}{c:Ctx}(hb:Base Tryd.prog (z11l N) c):zi Tryd.prog c (zf z5k PQ73) (z1k2 N) :=
 zh (s:=SQ3) (m:=62) (g:=z1no N) [7,1,6,5] (ze hb N (t4_47 N) z14u z5k (TabOk.cons (z1fp hb) TabOk.nil) PQ73 _ rfl) (fun x K=>by kernel_rfl)
def za2 (N:Nat)(s:(List Int))(out:(List UInt8))(lo:Int)(hi:Int)(k0:(List UInt8)->Option (List UInt8)):Option (List UInt8):=cond (decide (lo<hi)) ((z3b N lo ([(92:UInt8),(91:UInt8),(93:UInt8),(45:UInt8),(94:UInt8)]:List UInt8)).bind fun y=>cond (decide (((List.length out)+(List.length y))<=9223372036854775807)) (k0 (out++y)) none) (k0 out)
def z1n3 (N:Nat)(x:zw SQ3)(K:Ex->List A->Option (List UInt8)):Option (List UInt8):=za2 N x.1 x.2.1 x.2.2.1 x.2.2.2.1 (fun a1=>(K .normal (mkS SQ3 62 (x.1,a1,x.2.2.1,x.2.2.2.1,()))))
def z1jh (N:Nat):Hd (List UInt8):=fun st K=>(unS SQ3 62 (restr [7,6,5,1] 0 st)).bind fun x=>z1n3 N x K
def t7_47 (N:Nat):Tab (List UInt8):=[]
theorem z1fd {N:Nat}{c:Ctx}(hb:Base Tryd.prog (z11l N) c):zi Tryd.prog c (zf z5k PQ98) (z1jh N) :=
 zh (s:=SQ3) (m:=62) (g:=z1n3 N) [7,6,5,1] (ze hb N (t7_47 N) z14u z5k TabOk.nil PQ98 _ rfl) (fun x K=>by kernel_rfl)
def z68 (N:Nat)(s:(List Int))(out:(List UInt8))(lo:Int)(hi:Int)(k0:(List UInt8)->Option (List UInt8)):Option (List UInt8):=cond (decide ((IntKind.wrap IntKind.i64 (lo+2))<hi)) (cond (decide (((List.length out)+1)<=9223372036854775807)) (k0 (out++([(45:UInt8)]:List UInt8))) none) (k0 out)
def z1n0 (N:Nat)(x:zw SQ3)(K:Ex->List A->Option (List UInt8)):Option (List UInt8):=z68 N x.1 x.2.1 x.2.2.1 x.2.2.2.1 (fun a1=>(K .normal (mkS SQ3 62 (x.1,a1,x.2.2.1,x.2.2.2.1,()))))
def z1je (N:Nat):Hd (List UInt8):=fun st K=>(unS SQ3 62 (restr [7,6,5,1] 0 st)).bind fun x=>z1n0 N x K
def t8_47 (N:Nat):Tab (List UInt8):=[]
theorem z1fa {N:Nat}{c:Ctx}(hb:Base Tryd.prog (z11l N) c):zi Tryd.prog c (zf z5k PQ89) (z1je N) :=
 zh (s:=SQ3) (m:=62) (g:=z1n0 N) [7,6,5,1] (ze hb N (t8_47 N) z14u z5k TabOk.nil PQ89 _ rfl) (fun x K=>by kernel_rfl)
def z47 (N:Nat)(s:(List Int))(out:(List UInt8))(lo:Int)(hi:Int)(k0:(List UInt8)->Option (List UInt8)):Option (List UInt8):=cond (decide ((IntKind.wrap IntKind.i64 (lo+1))<hi)) ((z3b N (IntKind.wrap IntKind.i64 (hi - 1)) ([(92:UInt8),(91:UInt8),(93:UInt8),(45:UInt8),(94:UInt8)]:List UInt8)).bind fun y=>cond (decide (((List.length out)+(List.length y))<=9223372036854775807)) (k0 (out++y)) none) (k0 out)
def z1my (N:Nat)(x:zw SQ3)(K:Ex->List A->Option (List UInt8)):Option (List UInt8):=z47 N x.1 x.2.1 x.2.2.1 x.2.2.2.1 (fun a1=>(K .normal (mkS [(1,.box (.arr 4 (.int .u64))),(3,.v .str),(1,.v (.int .i64))] 62 (x.1,a1,x.2.2.2.1,()))))
def z1jc (N:Nat):Hd (List UInt8):=fun st K=>(unS SQ3 62 (restr [7,6,5,1] 0 st)).bind fun x=>z1my N x K
def t9_47 (N:Nat):Tab (List UInt8):=[]
theorem z1f8 {N:Nat}{c:Ctx}(hb:Base Tryd.prog (z11l N) c):zi Tryd.prog c (zf z5k PQ85) (z1jc N) :=
 zh (s:=SQ3) (m:=62) (g:=z1my N) [7,6,5,1] (ze hb N (t9_47 N) z14u z5k TabOk.nil PQ85 _ rfl) (fun x K=>by kernel_rfl)
def za0 (N:Nat)(s:(List Int))(out:(List UInt8))(lo:Int)(rec:(List UInt8)->Int->Option (List UInt8))(k0:(List UInt8)->Option (List UInt8)):Option (List UInt8):=cond (decide (lo<256)) (z69 N s out lo lo (fun hi=>za2 N s out lo hi (fun out1=>z68 N s out1 lo hi (fun out2=>z47 N s out2 lo hi (fun out3=>rec out3 (IntKind.wrap IntKind.i64 (hi+1))))))) (k0 out)
def za4 (N:Nat)(s:(List Int))(out:(List UInt8))(lo:Int)(k0:(List UInt8)->Option (List UInt8)):Option (List UInt8):=iter (fun (v:((List UInt8)×Int)) r=>za0 N s v.1 v.2 (fun out lo=>(r (out,lo))) k0) N (out,lo)
def z1nz (N:Nat)(i:(List Int))(v:((List UInt8)×Int))(r:((List UInt8)×Int)->Option (List UInt8))(K:Ex->List A->Option (List UInt8)):Option (List UInt8):=za0 N i v.1 v.2 (fun out lo=>(r (out,lo))) (fun a0=>(K (.exit 2) (mkS [(5,.v .str)] 64 (a0,()))))
def z1kd (N:Nat):Hd (List UInt8):=fun st K=>(unS [(1,.box (.arr 4 (.int .u64))),(3,.v .str),(0,.v (.int .i64))] 63 (restr [6,1,5] 0 st)).bind fun x=>iter (fun v r=>z1nz N ((fun x=>x.1) x) v r K) N ((fun x=>(x.2.1,x.2.2.1)) x)
def t3_47 (N:Nat):Tab (List UInt8):=[(PQ73,z1k2 N),(PQ98,z1jh N),(PQ89,z1je N),(PQ85,z1jc N)]
theorem z1g9 {N:Nat}{c:Ctx}(hb:Base Tryd.prog (z11l N) c):zi Tryd.prog c (zf z5k [0,0,1,1,1,1,1,1,1,1,1,1]) (z1kd N) :=
 z2p (s:=[(1,.box (.arr 4 (.int .u64))),(3,.v .str),(0,.v (.int .i64))]) (m:=63) (z1nz N) [6,1,5] N (fun x=>x.1) (fun x=>(x.2.1,x.2.2.1)) (fun i v=>(i,v.1,v.2,())) (fun _=>rfl) (ze hb N (t3_47 N) z14u z5k (TabOk.cons (z1fy hb) (TabOk.cons (z1fd hb) (TabOk.cons (z1fa hb) (TabOk.cons (z1f8 hb) TabOk.nil)))) [0,0,0,1,1,1,1,1,1,1,1,1,1] _ rfl) (fun i v r K=>by kernel_rfl)
def z4m (N:Nat)(s:(List Int)):Option (List UInt8):=za6 N s 0 0 (fun n=>cond (n == 0) (some ([(91:UInt8),(94:UInt8),(92:UInt8),(120:UInt8),(48:UInt8),(48:UInt8),(45:UInt8),(92:UInt8),(120:UInt8),(102:UInt8),(102:UInt8),(93:UInt8)]:List UInt8)) (cond (n == 256) (some ([(46:UInt8)]:List UInt8)) (cond (n == 1) ((z4n N s).bind fun y=>(z43 N y).bind fun y1=>some y1) ((z6b N).bind fun y2=>cond (eqD (T.arr 4 (T.int IntKind.u64)) s y2) (some ([(92:UInt8),(100:UInt8)]:List UInt8)) ((z71 N).bind fun y3=>cond (eqD (T.arr 4 (T.int IntKind.u64)) s y3) (some ([(92:UInt8),(119:UInt8)]:List UInt8)) (za4 N s ([(91:UInt8)]:List UInt8) 0 (fun out=>cond (decide (((List.length out)+1)<=9223372036854775807)) (some (out++([(93:UInt8)]:List UInt8))) none)))))))
def t_47 (N:Nat):Tab (List UInt8):=[([0,1,0,1,1],z1mf N),([0,0,1,1,1,1,1,1,1,1,1,1],z1kd N)]
theorem z1av (N:Nat)(x:zw zo0):z4x (z11l N) N (t_47 N) z14u Tryd.f9 (mkS zo0 0 x) (z2u (.v .str) 1)=z4m N x.1:=by kernel_rfl
def z8s (N:Nat):List A->Res:=zy zo0 (fun x=>z4m N x.1) (z6e (.v .str) 1)
theorem zev (N:Nat):Contract Tryd.prog glob 9 (z8s N) :=
 Contract.of (E:=z11l N) (H:=t_47 N) (L:=z14u) (N:=N) (body:=z5k) (K:=(z2u (.v .str) 1)) (z1sn N) Tryd.func9 (by kernel_rfl) (by decide) (fun _ hb=>(TabOk.cons (z1ib hb) (TabOk.cons (z1g9 hb) TabOk.nil))) (fun x y h=>by rw[z1av];exact h) (zz (s:=(.v .str)) (m:=1))
def z1cg:Code:=(Tryd.f62.body).getD .skip
def L_48:List (List Nat×List Nat):=[([0],[0]),([0,1],[0,3]),([0,0,1,1],[5,3,0]),([1,0,1,1],[3,0]),([0,0,1,0,1,1],[2]),([1,0,1,0,1,1],[2]),([0,1,1,1],[2]),([1,1,1,1],[2])]
def E_48 (N:Nat):Env:=z1d tys glob [] [] [] [] false [] []
theorem z1sm (N:Nat):EnvOk Tryd.prog (E_48 N):=zg mixed zn (FnsOk.nil) (ItsOk.nil)
def z3a (N:Nat)(n:Int):Option (List UInt8):=cond (decide (n<10)) (cond (decide ((0<=(IntKind.wrap IntKind.i64 (n+1)))/\((IntKind.wrap IntKind.i64 (n+1))<=10))) (cond (decide ((0<=n)/\(n<=(IntKind.wrap IntKind.i64 (n+1))))) (some (cut ([(48:UInt8),(49:UInt8),(50:UInt8),(51:UInt8),(52:UInt8),(53:UInt8),(54:UInt8),(55:UInt8),(56:UInt8),(57:UInt8)]:List UInt8) (Int.toNat n) (Int.toNat (IntKind.wrap IntKind.i64 (n+1))))) none) none) (cond (decide ((0<=(IntKind.wrap IntKind.i64 ((IntKind.wrap IntKind.i64 (Int.tdiv n 10))+1)))/\((IntKind.wrap IntKind.i64 ((IntKind.wrap IntKind.i64 (Int.tdiv n 10))+1))<=10))) (cond (decide ((0<=(IntKind.wrap IntKind.i64 (Int.tdiv n 10)))/\((IntKind.wrap IntKind.i64 (Int.tdiv n 10))<=(IntKind.wrap IntKind.i64 ((IntKind.wrap IntKind.i64 (Int.tdiv n 10))+1))))) (cond (decide ((0<=(IntKind.wrap IntKind.i64 ((Int.tmod n 10)+1)))/\((IntKind.wrap IntKind.i64 ((Int.tmod n 10)+1))<=10))) (cond (decide ((0<=(Int.tmod n 10))/\((Int.tmod n 10)<=(IntKind.wrap IntKind.i64 ((Int.tmod n 10)+1))))) (cond (decide (((List.length (cut ([(48:UInt8),(49:UInt8),(50:UInt8),(51:UInt8),(52:UInt8),(53:UInt8),(54:UInt8),(55:UInt8),(56:UInt8),(57:UInt8)]:List UInt8) (Int.toNat (IntKind.wrap IntKind.i64 (Int.tdiv n 10))) (Int.toNat (IntKind.wrap IntKind.i64 ((IntKind.wrap IntKind.i64 (Int.tdiv n 10))+1)))))+(List.length (cut ([(48:UInt8),(49:UInt8),(50:UInt8),(51:UInt8),(52:UInt8),(53:UInt8),(54:UInt8),(55:UInt8),(56:UInt8),(57:UInt8)]:List UInt8) (Int.toNat (Int.tmod n 10)) (Int.toNat (IntKind.wrap IntKind.i64 ((Int.tmod n 10)+1))))))<=9223372036854775807)) (some ((cut ([(48:UInt8),(49:UInt8),(50:UInt8),(51:UInt8),(52:UInt8),(53:UInt8),(54:UInt8),(55:UInt8),(56:UInt8),(57:UInt8)]:List UInt8) (Int.toNat (IntKind.wrap IntKind.i64 (Int.tdiv n 10))) (Int.toNat (IntKind.wrap IntKind.i64 ((IntKind.wrap IntKind.i64 (Int.tdiv n 10))+1))))++(cut ([(48:UInt8),(49:UInt8),(50:UInt8),(51:UInt8),(52:UInt8),(53:UInt8),(54:UInt8),(55:UInt8),(56:UInt8),(57:UInt8)]:List UInt8) (Int.toNat (Int.tmod n 10)) (Int.toNat (IntKind.wrap IntKind.i64 ((Int.tmod n 10)+1)))))) none) none) none) none) none)
def t_48 (N:Nat):Tab (List UInt8):=[]
theorem z1au (N:Nat)(x:zw [(0,.v (.int .i64))]):z4x (E_48 N) N (t_48 N) L_48 Tryd.f62 (mkS [(0,.v (.int .i64))] 0 x) (z2u (.v .str) 1)=z3a N x.1:=by kernel_rfl
def zal (N:Nat):List A->Res:=zy [(0,.v (.int .i64))] (fun x=>z3a N x.1) (z6e (.v .str) 1)
theorem zi4 (N:Nat):Contract Tryd.prog glob 62 (zal N) :=
 Contract.of (E:=E_48 N) (H:=t_48 N) (L:=L_48) (N:=N) (body:=z1cg) (K:=(z2u (.v .str) 1)) (z1sm N) Tryd.func62 (by kernel_rfl) (by decide) (fun _ hb=>TabOk.nil) (fun x y h=>by rw[z1au];exact h) (zz (s:=(.v .str)) (m:=1))
def zaz:Code:=(Tryd.f42.body).getD .skip
def z186:List (List Nat×List Nat):=[([0],[0,1]),([0,0,1],[10,0,1]),([1,0,1],[0,1]),([0,0,1,0,1],[4]),([1,0,1,0,1],[4]),([0,0,1,1],[16,0,1]),([1,0,1,1],[0,1]),([0,0,1,0,1,1],[4]),([1,0,1,0,1,1],[4]),([0,0,1,1,1],[22,1,0]),([1,0,1,1,1],[1,0]),(z115,[4]),(z14m,[4]),([0,0,1,1,1,1],[25,0,1]),([1,0,1,1,1,1],[1,0]),(z14t,[4]),([1,0,1,0,1,1,1,1],[4]),(zms,[31,0,1]),(z11k,[0,1]),(z1r4,[4]),(z14s,[4]),(z116,[4]),(z17z,[4])]
def z170 (N:Nat):Env:=z1d tys glob [(62,zal N)] [] [] [] false [] []
theorem z1sl (N:Nat):EnvOk Tryd.prog (z170 N):=zg mixed zn (FnsOk.cons (zi4 N) (FnsOk.nil)) (ItsOk.nil)
def zch (N:Nat)(low:Int)(high:Int)(k0:Bool->Option (List UInt8)):Option (List UInt8):=cond (low == 0) (k0 (high == (-1))) (k0 false)
def z1on (N:Nat)(x:zw SQ2)(K:Ex->List A->Option (List UInt8)):Option (List UInt8):=zch N x.1 x.2.1 (fun a2=>(K .normal (mkS [(0,.v (.int .i64)),(0,.v (.int .i64)),(8,.v .bool)] 33 (x.1,x.2.1,a2,()))))
def z1l1 (N:Nat):Hd (List UInt8):=fun st K=>(unS SQ2 42 (restr [0,1] 0 st)).bind fun x=>z1on N x K
def t2_49 (N:Nat):Tab (List UInt8):=[]
theorem z1gx {N:Nat}{c:Ctx}(hb:Base Tryd.prog (z170 N) c):zi Tryd.prog c (zf zaz [0,0,1]) (z1l1 N) :=
 zh (s:=SQ2) (m:=42) (g:=z1on N) [0,1] (ze hb N (t2_49 N) z186 zaz TabOk.nil [0,0,1] _ rfl) (fun x K=>by kernel_rfl)
def zci (N:Nat)(low:Int)(high:Int)(k0:(List UInt8)->Option (List UInt8))(k1:Option (List UInt8)):Option (List UInt8):=zch N low high (fun x10=>cond x10 (k0 ([(42:UInt8)]:List UInt8)) k1)
def z1q0 (N:Nat)(x:zw SQ2)(K:Ex->List A->Option (List UInt8)):Option (List UInt8):=zci N x.1 x.2.1 (fun a0=>(K .ret (mkS [(4,.v .str)] 39 (a0,())))) (K .normal (mkS SQ2 42 (x.1,x.2.1,())))
def z1me (N:Nat):Hd (List UInt8):=fun st K=>(unS SQ2 42 (restr [0,1] 0 st)).bind fun x=>z1q0 N x K
def t1_49 (N:Nat):Tab (List UInt8):=[([0,0,1],z1l1 N)]
theorem z1ia {N:Nat}{c:Ctx}(hb:Base Tryd.prog (z170 N) c):zi Tryd.prog c (zf zaz [0,1]) (z1me N) :=
 zh (s:=SQ2) (m:=42) (g:=z1q0 N) [0,1] (ze hb N (t1_49 N) z186 zaz (TabOk.cons (z1gx hb) TabOk.nil) [0,1] _ rfl) (fun x K=>by kernel_rfl)
def zcf (N:Nat)(low:Int)(high:Int)(k0:Bool->Option (List UInt8)):Option (List UInt8):=cond (low == 1) (k0 (high == (-1))) (k0 false)
def z1nn (N:Nat)(x:zw SQ2)(K:Ex->List A->Option (List UInt8)):Option (List UInt8):=zcf N x.1 x.2.1 (fun a2=>(K .normal (mkS [(0,.v (.int .i64)),(0,.v (.int .i64)),(14,.v .bool)] 27 (x.1,x.2.1,a2,()))))
def z1k1 (N:Nat):Hd (List UInt8):=fun st K=>(unS SQ2 42 (restr [0,1] 0 st)).bind fun x=>z1nn N x K
def t4_49 (N:Nat):Tab (List UInt8):=[]
theorem z1fx {N:Nat}{c:Ctx}(hb:Base Tryd.prog (z170 N) c):zi Tryd.prog c (zf zaz [0,0,1,1]) (z1k1 N) :=
 zh (s:=SQ2) (m:=42) (g:=z1nn N) [0,1] (ze hb N (t4_49 N) z186 zaz TabOk.nil [0,0,1,1] _ rfl) (fun x K=>by kernel_rfl)
def zcg (N:Nat)(low:Int)(high:Int)(k0:(List UInt8)->Option (List UInt8))(k1:Option (List UInt8)):Option (List UInt8):=zcf N low high (fun x16=>cond x16 (k0 ([(43:UInt8)]:List UInt8)) k1)
def z1ny (N:Nat)(x:zw SQ2)(K:Ex->List A->Option (List UInt8)):Option (List UInt8):=zcg N x.1 x.2.1 (fun a0=>(K .ret (mkS [(4,.v .str)] 39 (a0,())))) (K .normal (mkS SQ2 42 (x.1,x.2.1,())))
def z1kc (N:Nat):Hd (List UInt8):=fun st K=>(unS SQ2 42 (restr [0,1] 0 st)).bind fun x=>z1ny N x K
def t3_49 (N:Nat):Tab (List UInt8):=[([0,0,1,1],z1k1 N)]
theorem z1g8 {N:Nat}{c:Ctx}(hb:Base Tryd.prog (z170 N) c):zi Tryd.prog c (zf zaz [0,1,1]) (z1kc N) :=
 zh (s:=SQ2) (m:=42) (g:=z1ny N) [0,1] (ze hb N (t3_49 N) z186 zaz (TabOk.cons (z1fx hb) TabOk.nil) [0,1,1] _ rfl) (fun x K=>by kernel_rfl)
def zcd (N:Nat)(low:Int)(high:Int)(k0:Bool->Option (List UInt8)):Option (List UInt8):=cond (low == 0) (k0 (high == 1)) (k0 false)
def z1n8 (N:Nat)(x:zw SQ2)(K:Ex->List A->Option (List UInt8)):Option (List UInt8):=zcd N x.1 x.2.1 (fun a2=>(K .normal (mkS [(0,.v (.int .i64)),(0,.v (.int .i64)),(20,.v .bool)] 21 (x.1,x.2.1,a2,()))))
def z1jm (N:Nat):Hd (List UInt8):=fun st K=>(unS SQ2 42 (restr [0,1] 0 st)).bind fun x=>z1n8 N x K
def t6_49 (N:Nat):Tab (List UInt8):=[]
theorem z1fi {N:Nat}{c:Ctx}(hb:Base Tryd.prog (z170 N) c):zi Tryd.prog c (zf zaz [0,0,1,1,1]) (z1jm N) :=
 zh (s:=SQ2) (m:=42) (g:=z1n8 N) [0,1] (ze hb N (t6_49 N) z186 zaz TabOk.nil [0,0,1,1,1] _ rfl) (fun x K=>by kernel_rfl)
def zce (N:Nat)(low:Int)(high:Int)(k0:(List UInt8)->Option (List UInt8))(k1:Option (List UInt8)):Option (List UInt8):=zcd N low high (fun x22=>cond x22 (k0 ([(63:UInt8)]:List UInt8)) k1)
def z1ne (N:Nat)(x:zw SQ2)(K:Ex->List A->Option (List UInt8)):Option (List UInt8):=zce N x.1 x.2.1 (fun a0=>(K .ret (mkS [(4,.v .str)] 39 (a0,())))) (K .normal (mkS SQ2 42 (x.1,x.2.1,())))
def z1js (N:Nat):Hd (List UInt8):=fun st K=>(unS SQ2 42 (restr [0,1] 0 st)).bind fun x=>z1ne N x K
def t5_49 (N:Nat):Tab (List UInt8):=[([0,0,1,1,1],z1jm N)]
theorem z1fo {N:Nat}{c:Ctx}(hb:Base Tryd.prog (z170 N) c):zi Tryd.prog c (zf zaz [0,1,1,1]) (z1js N) :=
 zh (s:=SQ2) (m:=42) (g:=z1ne N) [0,1] (ze hb N (t5_49 N) z186 zaz (TabOk.cons (z1fi hb) TabOk.nil) [0,1,1,1] _ rfl) (fun x K=>by kernel_rfl)
def z4l (N:Nat)(low:Int)(high:Int):Option (List UInt8):=zci N low high (fun x4=>some x4) (zcg N low high (fun x41=>some x41) (zce N low high (fun x42=>some x42) (cond (high == low) ((z3a N low).bind fun y=>cond (decide ((1+(List.length y))<=9223372036854775807)) (cond (decide (((List.length (([(123:UInt8)]:List UInt8)++y))+1)<=9223372036854775807)) (some ((([(123:UInt8)]:List UInt8)++y)++([(125:UInt8)]:List UInt8))) none) none) (cond (high == (-1)) ((z3a N low).bind fun y1=>cond (decide ((1+(List.length y1))<=9223372036854775807)) (cond (decide (((List.length (([(123:UInt8)]:List UInt8)++y1))+2)<=9223372036854775807)) (some ((([(123:UInt8)]:List UInt8)++y1)++([(44:UInt8),(125:UInt8)]:List UInt8))) none) none) ((z3a N low).bind fun y2=>cond (decide ((1+(List.length y2))<=9223372036854775807)) (cond (decide (((List.length (([(123:UInt8)]:List UInt8)++y2))+1)<=9223372036854775807)) ((z3a N high).bind fun y3=>cond (decide (((List.length ((([(123:UInt8)]:List UInt8)++y2)++([(44:UInt8)]:List UInt8)))+(List.length y3))<=9223372036854775807)) (cond (decide (((List.length (((([(123:UInt8)]:List UInt8)++y2)++([(44:UInt8)]:List UInt8))++y3))+1)<=9223372036854775807)) (some ((((([(123:UInt8)]:List UInt8)++y2)++([(44:UInt8)]:List UInt8))++y3)++([(125:UInt8)]:List UInt8))) none) none) none) none)))))
def t_49 (N:Nat):Tab (List UInt8):=[([0,1],z1me N),([0,1,1],z1kc N),([0,1,1,1],z1js N)]
theorem z1at (N:Nat)(x:zw SQ2):z4x (z170 N) N (t_49 N) z186 Tryd.f42 (mkS SQ2 0 x) (z2u (.v .str) 2)=z4l N x.1 x.2.1:=by kernel_rfl
def zba (N:Nat):List A->Res:=zy SQ2 (fun x=>z4l N x.1 x.2.1) (z6e (.v .str) 2)
theorem zjb (N:Nat):Contract Tryd.prog glob 42 (zba N) :=
 Contract.of (E:=z170 N) (H:=t_49 N) (L:=z186) (N:=N) (body:=zaz) (K:=(z2u (.v .str) 2)) (z1sl N) Tryd.func42 (by kernel_rfl) (by decide) (fun _ hb=>(TabOk.cons (z1ia hb) (TabOk.cons (z1g8 hb) (TabOk.cons (z1fo hb) TabOk.nil)))) (fun x y h=>by rw[z1at];exact h) (zz (s:=(.v .str)) (m:=2))
def z80:Code:=(Tryd.f23.body).getD .skip
def z16x:List (List Nat×List Nat):=[([0],[1]),([0,0,1],[12,1]),([1,0,1],[1]),([0,0,1,0,1],[2,3]),([1,0,1,0,1],[2,3]),([0,1,1],[1,4]),([0,1,1,1],[1,4,5]),([0,0,1,1,1,1],[6,1,4,5]),(z14q,[6,1,4,5]),([0,0,0,0,1,0,1,1,1,1],[20,1,6,4,5]),([1,0,0,0,1,0,1,1,1,1],[1,6,4,5]),([1,1,0,0,0,1,0,1,1,1,1],[1,4,5]),([0,0,0,1,0,0,1,0,1,1,1,1],[7,1,6,4,5]),([0,1,0,0,1,0,0,1,0,1,1,1,1],[1,7,8,9,6,4,5]),(PQ86,[50,8,9,6,1,4,5]),([1,0,1,1,0,0,1,0,0,1,0,1,1,1,1],[6,1,4,8,9,5]),([0,0,1,0,1,1,0,0,1,0,0,1,0,1,1,1,1],[9,6,1,4,8,5]),([1,0,1,0,1,1,0,0,1,0,0,1,0,1,1,1,1],[6,1,4,8,9,5]),(PQ80,[62,4,8,9,5,6,1]),([1,0,1,1,1,0,0,1,0,0,1,0,1,1,1,1],[4,8,9,5,6,1]),([0,1,0,1,1,1,0,0,1,0,0,1,0,1,1,1,1],[4,8,9,5,6,1]),([0,1,1,1,1,0,0,1,0,0,1,0,1,1,1,1],[9,5,6,1,4]),([0,1,1,1,1,1,0,0,1,0,0,1,0,1,1,1,1],[70,9,6,1,4,5]),([1,1,1,1,1,1,0,0,1,0,0,1,0,1,1,1,1],[6,1,4,5]),([0,1,1,1,1,1,1,0,0,1,0,0,1,0,1,1,1,1],[6,1,4,5]),(z16s,[6,1,4,5]),([1,1,0,0,1,0,1,1,1,1],[6,1,4,5]),([1,0,1,1,1,1],[1,4,5]),(zms,[74,4,1,5]),(z11k,[4,5]),(z1da,[4,5]),(z116,[2,3]),(z17z,[2,3])]
end
end Go.Proofs.YtnnjnkjfkaaikaaDoorLg
