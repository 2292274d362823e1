import Derived.Test.YthgcpalmjcomlaaDoorLgPrRb2
import Derived.Test.YthgcpalmjcomlaaDoorLgPrRb3
import Derived.WalkKit
import Derived.Tactics
import Derived.Tactics2
import Derived.Defers
import Derived.Lib.Hide
import Derived.Below
import Derived.Recover
import Derived.Orders
import Derived.WalkSmall
import Derived.LoopN
import Derived.Deep.RegionHeld3
import Derived.Laws.IdiomStrings
import Derived.Test.YthgcpalmjcomlaaDoorLgW
import Derived.Test.YthgcpalmjcomlaaDoorChecked
import Derived.KernelRfl
set_option linter.all false
set_option maxRecDepth 100000
namespace Go.Proofs.YthgcpalmjcomlaaDoorLg
noncomputable section
open Go Go.Lift
abbrev TT0:T:=(.pair (.int .i64) (.pair (.int .i64) .unit))
abbrev TT1:T:=(.pair (.int .i64) (.pair (.arr 4 (.int .u64)) (.pair (.sl .nod) TT0)))
abbrev DT2:Type:=(Int×((List Int)×((List Tree)×(Int×(Int×Unit)))))
abbrev DT3:Type:=((List UInt8)×(Int×(Int×Unit)))
abbrev TT4:T:=(.pair (.self 45) (.pair (.own (.byt 5)) .unit))
abbrev DT6:Type:=(((List Int)×Bool×Unit)×(DT3×Unit))
abbrev DT7:Type:=((List Int)×(DT3×Unit))
abbrev DT8:Type:=(Int×((List Int)×((List Tree)×(Int×(Int×Unit)))))
abbrev TT9:T:=(.pair (.int .i64) (.pair (.int .i64) (.pair .str .unit)))
abbrev zmu:Type:=(Unit×((List Int)×Unit))
abbrev z1dq:List Nat:=[1,1,1,1,1,1,1]
abbrev z1d0:List Nat:=[1,0,1,0,1,1,1]
abbrev z1d1:List Nat:=[0,0,1,0,1,1,1]
abbrev z18d:List Nat:=[1,0,1,1,1,1,1]
abbrev zyz:List Nat:=[0,1,1,1,1,1,1]
abbrev zqt:List Nat:=[0,0,1,1,1,1,1]
abbrev PQ86:List Nat:=[0,0,1,0,1,1,1,1]
abbrev z1no:List Nat:=[1,1,1,0,0,1,0,1]
abbrev z1np:List Nat:=[0,1,1,0,0,1,0,1]
abbrev z1dr:List Nat:=[0,0,0,0,1,1,1,1]
abbrev z1ds:List Nat:=[0,1,0,1,1,1,1,1]
abbrev z1dt:List Nat:=[1,0,1,0,0,1,0,1]
abbrev z1du:List Nat:=[0,0,1,1,1,1,1,1]
abbrev z18e:List Nat:=[0,1,1,0,1,0,1,1]
abbrev z18f:List Nat:=[1,1,1,1,1,1,1,1]
abbrev z18g:List Nat:=[0,1,1,1,1,1,1,1]
abbrev zyy:List Nat:=[0,1,0,0,1,0,1,1]
abbrev z14n:List (Nat×AS):=[(0,.v TT1),(0,.v TT1)]
abbrev SQ0:List (Nat×AS):=[(0,.box (.pair .str TT0))]
abbrev PQ85:List Nat:=[1,1,0,0,0,0,1,1,1,1]
abbrev z1nq:List Nat:=[0,0,0,1,1,0,0,1,0,1]
abbrev zyw:List (Nat×AS):=[(2,.box TT1),(0,.box TT1)]
abbrev zsb:List (Nat×AS):=[(0,.v (.arr 4 (.int .u64)))]
abbrev PQ78:List Nat:=[0,0,0,1,1,0,0,1,0,1,1]
abbrev z1nr:List Nat:=[0,1,0,0,1,1,0,0,1,0,1]
abbrev z1ns:List Nat:=[0,1,0,0,1,0,0,1,0,1,1]
abbrev PQ74:List Nat:=[0,0,1,0,0,1,0,0,1,0,1,1]
abbrev z1dv:List Nat:=[0,1,1,1,1,1,1,1,1,0,1,1,1]
abbrev z1dg:List (Nat×AS):=[(0,.v (.int .u8)),(0,.v (.int .u8))]
abbrev PQ79:List Nat:=[0,0,0,0,1,0,0,1,0,0,1,0,1,1]
abbrev z18h:List Nat:=[0,0,0,0,0,0,0,0,1,0,1,1,1,1]
abbrev z10o:List (Nat×AS):=[(0,.v (.int .u64)),(1,.v (.int .i64))]
abbrev zuh:List (Nat×AS):=[(0,.v (.int .i64)),(0,.v (.int .i64))]
abbrev z189:List (Nat×AS):=[(0,.box (.pair .str TT0)),(1,.box TT1)]
abbrev SQ8:List (Nat×AS):=[(0,.box (.pair .str TT0)),(0,.v (.int .u8))]
abbrev z1dh:List (Nat×AS):=[(0,.box (.pair .str TT0)),(0,.v (.int .i64))]
abbrev z18a:List (Nat×AS):=[(0,.box (.pair .str TT0)),(2,.v (.int .i64))]
abbrev z1di:List (Nat×AS):=[(0,.v (.arr 4 (.int .u64))),(0,.v (.int .u8))]
abbrev SQ70:List (Nat×AS):=[(1,.box (.arr 4 (.int .u64))),(1,.v (.int .i64))]
abbrev z1dj:List (Nat×AS):=[(0,.box (.pair .str TT0)),(1,.box TT1),(1,.box TT1)]
abbrev SQ3:List (Nat×AS):=[(0,.box (.pair .str TT0)),(1,.box TT1),(0,.row TT1)]
abbrev z171:List (Nat×AS):=[(0,.v (.arr 4 (.int .u64))),(0,.v (.arr 4 (.int .u64)))]
abbrev z18b:List (Nat×AS):=[(0,.box (.pair .str TT0)),(1,.box TT1),(0,.v (.int .u8))]
abbrev z1nm:List (Nat×AS):=[(1,.box (.arr 4 (.int .u64))),(1,.box TT4),(0,.v (.int .i64))]
abbrev z10p:List (Nat×AS):=[(0,.box (.pair .str TT0)),(0,.v (.int .i64)),(3,.v (.int .u8))]
abbrev SQ47:List (Nat×AS):=[(0,.box (.pair .str TT0)),(1,.v (.int .i64)),(0,.v (.int .i64))]
abbrev SQ1:List (Nat×AS):=[(0,.box (.pair .str TT0)),(2,.v (.int .i64)),(0,.v (.int .i64))]
abbrev SQ43:List (Nat×AS):=[(0,.v (.int .i64)),(4,.box (.arr 24 (.int .u8))),(0,.v (.int .u64))]
abbrev SQ42:List (Nat×AS):=[(0,.box (.pair .str TT0)),(1,.box (.arr 4 (.int .u64))),(0,.v .bool)]
abbrev z1dk:List (Nat×AS):=[(1,.box TT1),(2,.v (.int .i64)),(0,.v (.int .i64)),(0,.v (.int .i64))]
abbrev z18c:List (Nat×AS):=[(0,.box (.pair .str TT0)),(1,.box (.arr 4 (.int .u64))),(1,.v (.int .u8))]
abbrev SQ64:List (Nat×AS):=[(0,.box (.pair .str TT0)),(2,.v (.int .i64)),(0,.v (.int .i64)),(70,.v .bool)]
abbrev SQ7:List (Nat×AS):=[(1,.box (.arr 4 (.int .u64))),(1,.box TT4),(0,.v (.int .i64)),(0,.v (.int .i64))]
abbrev SQ6:List (Nat×AS):=[(0,.box (.pair .str TT0)),(1,.v (.int .i64)),(0,.v (.int .i64)),(0,.v (.int .i64))]
abbrev SQ63:List (Nat×AS):=[(0,.box (.pair .str TT0)),(1,.box (.arr 4 (.int .u64))),(0,.box (.arr 4 (.int .u64)))]
abbrev z1dl:List (Nat×AS):=[(0,.box (.pair .str TT0)),(1,.box TT1),(0,.box TT1),(0,.box TT1),(24,.v (.int .u8))]
abbrev SQ61:List (Nat×AS):=[(0,.box (.pair .str TT0)),(1,.box (.arr 4 (.int .u64))),(1,.v (.int .u8)),(9,.v .bool)]
abbrev SQ41:List (Nat×AS):=[(0,.v (.int .i64)),(0,.v (.int .i64)),(4,.box TT9),(1,.v (.arr 3 TT9)),(0,.v (.int .i64))]
abbrev z1dm:List (Nat×AS):=[(0,.box (.pair .str TT0)),(1,.box (.arr 4 (.int .u64))),(1,.v (.int .u8)),(2,.v (.int .u8))]
abbrev z1dn:List (Nat×AS):=[(0,.box (.pair .str TT0)),(1,.box (.arr 4 (.int .u64))),(1,.v (.int .i64)),(0,.v (.int .u8))]
abbrev z1do:List (Nat×AS):=[(2,.box TT1),(0,.box TT1),(1,.v .str),(1,.v .str),(0,.v .bool),(0,.box TT1),(0,.box TT0)]
abbrev SQ58:List (Nat×AS):=[(1,.v (.int .u8)),(2,.box (.arr 4 (.int .u64))),(0,.box (.arr 4 (.int .u64))),(0,.v (.int .i64))]
abbrev z1dp:List (Nat×AS):=[(0,.box (.pair .str TT0)),(1,.box (.arr 4 (.int .u64))),(0,.v .bool),(0,.box (.arr 4 (.int .u64)))]
abbrev SQ5:List (Nat×AS):=[(0,.box (.pair .str TT0)),(1,.box (.arr 4 (.int .u64))),(0,.box (.arr 4 (.int .u64))),(0,.v .bool)]
abbrev SQ55:List (Nat×AS):=[(0,.box (.pair .str TT0)),(1,.box (.arr 4 (.int .u64))),(0,.box (.arr 4 (.int .u64))),(13,.v .bool)]
abbrev SQ53:List (Nat×AS):=[(0,.v (.int .i64)),(3,.box TT1),(0,.row TT1),(2,.v (.sl .nod)),(0,.v (.int .i64)),(0,.v (.int .i64))]
abbrev SQ24:List (Nat×AS):=[(2,.box (.arr 4 (.int .u64))),(0,.box (.arr 4 (.int .u64))),(0,.box (.arr 4 (.int .u64))),(1,.v (.int .i64))]
abbrev SQ50:List (Nat×AS):=[(0,.v .str),(1,.box (.arr 4 (.int .u64))),(0,.box (.arr 4 (.int .u64))),(2,.v (.int .i64)),(0,.v (.int .i64))]
abbrev SQ48:List (Nat×AS):=[(0,.box (.pair .str TT0)),(1,.box (.arr 4 (.int .u64))),(0,.box (.arr 4 (.int .u64))),(2,.box (.arr 4 (.int .u64)))]
abbrev SQ2:List (Nat×AS):=[(0,.box (.pair .str TT0)),(1,.box (.arr 4 (.int .u64))),(0,.box (.arr 4 (.int .u64))),(0,.v .bool),(0,.v (.int .i64)),(0,.box (.arr 4 (.int .u64)))]
abbrev SQ39:List (Nat×AS):=[(0,.box (.pair .str TT0)),(1,.box (.arr 4 (.int .u64))),(0,.box (.arr 4 (.int .u64))),(1,.v (.int .i64)),(0,.box (.arr 4 (.int .u64))),(28,.v .bool)]
def ty2:TyI:=⟨(Go.TypeDesc.int IntKind.i64),1,8,(.int .i64),0,false⟩
theorem z1ed:TyOk Tryd.prog 2 ty2:=TyOk.of (by kernel_rfl) (by kernel_rfl) (by kernel_rfl) (by kernel_rfl)
def ty3:TyI:=⟨(Go.TypeDesc.int IntKind.i64),1,8,(.int .i64),0,false⟩
theorem z1ec:TyOk Tryd.prog 3 ty3:=TyOk.of (by kernel_rfl) (by kernel_rfl) (by kernel_rfl) (by kernel_rfl)
def ty4:TyI:=⟨Go.TypeDesc.bool,1,1,.bool,false,false⟩
theorem z1eb:TyOk Tryd.prog 4 ty4:=TyOk.of (by kernel_rfl) (by kernel_rfl) (by kernel_rfl) (by kernel_rfl)
def ty5:TyI:=⟨(Go.TypeDesc.int IntKind.u8),1,1,(.int .u8),0,false⟩
theorem z1ea:TyOk Tryd.prog 5 ty5:=TyOk.of (by kernel_rfl) (by kernel_rfl) (by kernel_rfl) (by kernel_rfl)
def ty9:TyI:=⟨Go.TypeDesc.string,1,16,.str,[],false⟩
theorem z1e9:TyOk Tryd.prog 9 ty9:=TyOk.of (by kernel_rfl) (by kernel_rfl) (by kernel_rfl) (by kernel_rfl)
def ty22:TyI:=⟨(Go.TypeDesc.int IntKind.u64),1,8,(.int .u64),0,false⟩
theorem z19c:TyOk Tryd.prog 22 ty22:=TyOk.of (by kernel_rfl) (by kernel_rfl) (by kernel_rfl) (by kernel_rfl)
def ty24:TyI:=⟨(Go.TypeDesc.array 4 22),4,32,(.arr 4 (.int .u64)),([0,0,0,0]:List Int),true⟩
theorem z19b:TyOk Tryd.prog 24 ty24:=TyOk.of (by kernel_rfl) (by kernel_rfl) (by kernel_rfl) (by kernel_rfl)
def ty25:TyI:=⟨(Go.TypeDesc.slice 27),1,24,(.sl .nod),[],false⟩
theorem z19a:TyOk Tryd.prog 25 ty25:=TyOk.of (by kernel_rfl) (by kernel_rfl) (by kernel_rfl) (by kernel_rfl)
def ty27 : TyI := ⟨(Go.TypeDesc.struct (List.toArray ([(Go.Field.mk "Kind" 3 0 false "" "" 0), (Go.Field.mk "Set" 24 1 false "" "" 8), (Go.Field.mk "Kids" 25 5 false "" "" 40), (Go.Field.mk "Min" 3 6 false "" "" 64), (Go.Field.mk "Max" 3 7 false "" "" 72)] : List Go.Field))), 8, 80, TT1, ((0 : Int), ([(0 : Int), (0 : Int), (0 : Int), (0 : Int)] : List Int), ([] : List Tree), (0 : Int), (0 : Int), ()), true⟩
theorem z199:TyOk Tryd.prog 27 ty27:=TyOk.of (by kernel_rfl) (by kernel_rfl) (by kernel_rfl) (by kernel_rfl)
def ty32:TyI:=⟨(Go.TypeDesc.int IntKind.i64),1,8,(.int .i64),0,false⟩
theorem z198:TyOk Tryd.prog 32 ty32:=TyOk.of (by kernel_rfl) (by kernel_rfl) (by kernel_rfl) (by kernel_rfl)
def ty34 : TyI := ⟨(Go.TypeDesc.struct (List.toArray ([(Go.Field.mk "E" 32 0 false "" "" 0), (Go.Field.mk "At" 3 1 false "" "" 8)] : List Go.Field))), 2, 16, TT0, ((0 : Int), (0 : Int), ()), true⟩
theorem z197:TyOk Tryd.prog 34 ty34:=TyOk.of (by kernel_rfl) (by kernel_rfl) (by kernel_rfl) (by kernel_rfl)
def ty42:TyI:=⟨(Go.TypeDesc.pointer 45),1,8,.opq,(Go.Value.pointer none),false⟩
theorem z196:TyOk Tryd.prog 42 ty42:=TyOk.of (by kernel_rfl) (by kernel_rfl) (by kernel_rfl) (by kernel_rfl)
def ty43:TyI:=⟨(Go.TypeDesc.slice 5),1,24,(.sl (.int .u8)),[],false⟩
theorem z195:TyOk Tryd.prog 43 ty43:=TyOk.of (by kernel_rfl) (by kernel_rfl) (by kernel_rfl) (by kernel_rfl)
def ty45 : TyI := ⟨(Go.TypeDesc.struct (List.toArray ([(Go.Field.mk "addr" 42 0 false "" "strings" 0), (Go.Field.mk "buf" 43 1 false "" "strings" 8)] : List Go.Field))), 2, 32, (.pair .opq (.pair (.sl (.int .u8)) .unit)), ((Go.Value.pointer none), ([] : List Int), ()), true⟩
theorem z194:TyOk Tryd.prog 45 ty45:=TyOk.of (by kernel_rfl) (by kernel_rfl) (by kernel_rfl) (by kernel_rfl)
def ty48 : TyI := ⟨(Go.TypeDesc.interface (List.toArray ([("Error", 54)] : List (String × Nat)))), 1, 16, .opq, Go.Value.nilIface, false⟩
theorem z193:TyOk Tryd.prog 48 ty48:=TyOk.of (by kernel_rfl) (by kernel_rfl) (by kernel_rfl) (by kernel_rfl)
def ty56:TyI:=⟨(Go.TypeDesc.pointer 58),1,8,.opq,(Go.Value.pointer none),false⟩
theorem z192:TyOk Tryd.prog 56 ty56:=TyOk.of (by kernel_rfl) (by kernel_rfl) (by kernel_rfl) (by kernel_rfl)
def ty58 : TyI := ⟨(Go.TypeDesc.struct (List.toArray ([(Go.Field.mk "s" 9 0 false "" "porter/regex" 0), (Go.Field.mk "at" 3 1 false "" "porter/regex" 16), (Go.Field.mk "open" 3 2 false "" "porter/regex" 24)] : List Go.Field))), 3, 32, (.pair .str TT0), (([] : List UInt8), (0 : Int), (0 : Int), ()), true⟩
theorem z191:TyOk Tryd.prog 58 ty58:=TyOk.of (by kernel_rfl) (by kernel_rfl) (by kernel_rfl) (by kernel_rfl)
def ty68:TyI:=⟨(Go.TypeDesc.int IntKind.u64),1,8,(.int .u64),0,false⟩
theorem z190:TyOk Tryd.prog 68 ty68:=TyOk.of (by kernel_rfl) (by kernel_rfl) (by kernel_rfl) (by kernel_rfl)
def ty76 : TyI := ⟨(Go.TypeDesc.struct (List.toArray ([(Go.Field.mk "low" 3 0 false "" "porter/regtext" 0), (Go.Field.mk "high" 3 1 false "" "porter/regtext" 8), (Go.Field.mk "sign" 9 2 false "" "porter/regtext" 16)] : List Go.Field))), 3, 32, TT9, ((0 : Int), (0 : Int), ([] : List UInt8), ()), true⟩
theorem z18z:TyOk Tryd.prog 76 ty76:=TyOk.of (by kernel_rfl) (by kernel_rfl) (by kernel_rfl) (by kernel_rfl)
def ty77:TyI:=⟨(Go.TypeDesc.array 3 76),9,96,(.arr 3 TT9),([(0,0,[],()),(0,0,[],()),(0,0,[],())]:List (Int×(Int×((List UInt8)×Unit)))),true⟩
theorem z18y:TyOk Tryd.prog 77 ty77:=TyOk.of (by kernel_rfl) (by kernel_rfl) (by kernel_rfl) (by kernel_rfl)
def ty85:TyI:=⟨(Go.TypeDesc.array 64 5),64,64,(.arr 64 (.int .u8)),(0::0::0::0::0::0::0::0::0::0::0::0::0::0::0::0::0::0::0::0::0::0::0::0::0::0::0::0::0::0::0::0::0::0::0::0::0::0::0::0::0::0::0::0::0::0::0::0::0::0::0::0::0::0::0::0::0::0::0::0::0::0::0::0::[]),true⟩
theorem z18x:TyOk Tryd.prog 85 ty85:=TyOk.of (by kernel_rfl) (by kernel_rfl) (by kernel_rfl) (by kernel_rfl)
def ty93:TyI:=⟨(Go.TypeDesc.array 24 5),24,24,(.arr 24 (.int .u8)),([0,0,0,0,0,0,0,0,0,0,0,0,0,0,0,0,0,0,0,0,0,0,0,0]:List Int),true⟩
theorem z18w:TyOk Tryd.prog 93 ty93:=TyOk.of (by kernel_rfl) (by kernel_rfl) (by kernel_rfl) (by kernel_rfl)
def z1eh:TyI:=⟨(Go.TypeDesc.array 20 22),20,160,(.arr 20 (.int .u64)),([0,0,0,0,0,0,0,0,0,0,0,0,0,0,0,0,0,0,0,0]:List Int),true⟩
theorem z153:TyOk Tryd.prog 101 z1eh:=TyOk.of (by kernel_rfl) (by kernel_rfl) (by kernel_rfl) (by kernel_rfl)
def z1eg:TyI:=⟨(Go.TypeDesc.int IntKind.u32),1,4,(.int .u32),0,false⟩
theorem z152:TyOk Tryd.prog 102 z1eg:=TyOk.of (by kernel_rfl) (by kernel_rfl) (by kernel_rfl) (by kernel_rfl)
def z1ef:TyI:=⟨(Go.TypeDesc.array 65 5),65,65,(.arr 65 (.int .u8)),(0::0::0::0::0::0::0::0::0::0::0::0::0::0::0::0::0::0::0::0::0::0::0::0::0::0::0::0::0::0::0::0::0::0::0::0::0::0::0::0::0::0::0::0::0::0::0::0::0::0::0::0::0::0::0::0::0::0::0::0::0::0::0::0::0::[]),true⟩
theorem z151:TyOk Tryd.prog 103 z1ef:=TyOk.of (by kernel_rfl) (by kernel_rfl) (by kernel_rfl) (by kernel_rfl)
def z1ee:TyI:=⟨(Go.TypeDesc.array 32 5),32,32,(.arr 32 (.int .u8)),([0,0,0,0,0,0,0,0,0,0,0,0,0,0,0,0,0,0,0,0,0,0,0,0,0,0,0,0,0,0,0,0]:List Int),true⟩
theorem z150:TyOk Tryd.prog 107 z1ee:=TyOk.of (by kernel_rfl) (by kernel_rfl) (by kernel_rfl) (by kernel_rfl)
def tys:List (Nat×TyI):=[(2,ty2),(3,ty3),(4,ty4),(5,ty5),(9,ty9),(22,ty22),(24,ty24),(25,ty25),(27,ty27),(32,ty32),(34,ty34),(42,ty42),(43,ty43),(45,ty45),(48,ty48),(56,ty56),(58,ty58),(68,ty68),(76,ty76),(77,ty77),(85,ty85),(93,ty93),(101,z1eh),(102,z1eg),(103,z1ef),(107,z1ee)]
theorem zz:TysOk Tryd.prog tys:=TysOk.cons z1ed (TysOk.cons z1ec (TysOk.cons z1eb (TysOk.cons z1ea (TysOk.cons z1e9 (TysOk.cons z19c (TysOk.cons z19b (TysOk.cons z19a (TysOk.cons z199 (TysOk.cons z198 (TysOk.cons z197 (TysOk.cons z196 (TysOk.cons z195 (TysOk.cons z194 (TysOk.cons z193 (TysOk.cons z192 (TysOk.cons z191 (TysOk.cons z190 (TysOk.cons z18z (TysOk.cons z18y (TysOk.cons z18x (TysOk.cons z18w (TysOk.cons z153 (TysOk.cons z152 (TysOk.cons z151 (TysOk.cons z150 (TysOk.nil))))))))))))))))))))))))))
theorem mixed:Tryd.prog.follows .mixedOrders=true:=by kernel_rfl
def z1nh:Code:=(Tryd.f14.body).getD .skip
def L_0:List (List Nat×List Nat):=[([0],[0,1]),([0,1],[0,1]),([0,1,1],[0]),([0,1,1,1],[4,0]),([1,1,1,1],[4,0])]
def E_0 (N:Nat):Env:=z25 tys zde [(25,z142)] [] [] [0] false [] []
theorem Eok_0 (N:Nat):EnvOk Tryd.prog (E_0 N):=zg mixed zz (FnsOk.cons (z1n8 zde) (FnsOk.nil)) (ItsOk.nil)
def z3n (N:Nat)(b:zmu)(c:Int):Option (Go.Value×(zmu×Unit)):=cond (decide ((((List.length b.2.1)+1)*1)<=70368744177664)) (some (Go.Value.nilIface,((b.1,((b.2.1++([c]:List Int)),b.2.2)),()))) none
def t_0 (N:Nat):Tab (Go.Value×(zmu×Unit)):=[]
theorem z1hr (N:Nat)(x:z1d [(0,.box TT4),(0,.v (.int .u8))]):z8t (E_0 N) N (t_0 N) L_0 Tryd.f14 (mkS [(0,.box TT4),(0,.v (.int .u8))] 0 x) (z6j (.v .opq) [(0,.box TT4)] 1)=z3n N x.1 x.2.1:=by kernel_rfl
def zb0 (N:Nat):List A->Res:=z17 [(0,.box TT4),(0,.v (.int .u8))] (fun x=>z3n N x.1 x.2.1) (z7f (.v .opq) [(0,.box TT4)] 1)
theorem zbp (N:Nat):Contract Tryd.prog zde 14 (zb0 N) :=
 Contract.of (E:=E_0 N) (H:=t_0 N) (L:=L_0) (N:=N) (body:=z1nh) (K:=(z6j (.v .opq) [(0,.box TT4)] 1)) (Eok_0 N) Tryd.func14 (by kernel_rfl) (by decide) (fun _ hb=>TabOk.nil) (fun x y h=>by rw[z1hr];exact h) (z4l (s:=(.v .opq)) (os:=[(0,.box TT4)]) (m:=1))
def z1ng:Code:=(Tryd.f17.body).getD .skip
def L_1:List (List Nat×List Nat):=[([0],[0,1]),([0,1],[0,1]),([0,1,1],[1,0]),([0,1,1,1],[4,5,0]),([1,1,1,1],[4,5,0])]
def E_1 (N:Nat):Env:=z25 tys zde [(25,z142)] [] [] [0] false [] []
theorem Eok_1 (N:Nat):EnvOk Tryd.prog (E_1 N):=zg mixed zz (FnsOk.cons (z1n8 zde) (FnsOk.nil)) (ItsOk.nil)
def z1b (N:Nat)(b:zmu)(s:(List UInt8)):Option ((Int×Go.Value×Unit)×(zmu×Unit)):=cond (decide ((((List.length b.2.1)+(List.length (z3m s)))*1)<=70368744177664)) (some (((List.length s:Int),(Go.Value.nilIface,())),((b.1,((b.2.1++(z3m s)),b.2.2)),()))) none
def t_1 (N:Nat):Tab ((Int×Go.Value×Unit)×(zmu×Unit)):=[]
theorem z1hq (N:Nat)(x:z1d [(0,.box TT4),(0,.v .str)]):z8t (E_1 N) N (t_1 N) L_1 Tryd.f17 (mkS [(0,.box TT4),(0,.v .str)] 0 x) (z6j (.tup [(.int .i64),.opq]) [(0,.box TT4)] 1)=z1b N x.1 x.2.1:=by kernel_rfl
def z54 (N:Nat):List A->Res:=z17 [(0,.box TT4),(0,.v .str)] (fun x=>z1b N x.1 x.2.1) (z7f (.tup [(.int .i64),.opq]) [(0,.box TT4)] 1)
theorem z5l (N:Nat):Contract Tryd.prog zde 17 (z54 N) :=
 Contract.of (E:=E_1 N) (H:=t_1 N) (L:=L_1) (N:=N) (body:=z1ng) (K:=(z6j (.tup [(.int .i64),.opq]) [(0,.box TT4)] 1)) (Eok_1 N) Tryd.func17 (by kernel_rfl) (by decide) (fun _ hb=>TabOk.nil) (fun x y h=>by rw[z1hq];exact h) (z4l (s:=(.tup [(.int .i64),.opq])) (os:=[(0,.box TT4)]) (m:=1))
def z1nf:Code:=(Tryd.f15.body).getD .skip
def L_2:List (List Nat×List Nat):=[([0],[0]),([0,1],[2,0]),([1,1],[2,0])]
def E_2 (N:Nat):Env:=z25 tys zde [] [] [] [0] false [] []
theorem Eok_2 (N:Nat):EnvOk Tryd.prog (E_2 N):=zg mixed zz (FnsOk.nil) (ItsOk.nil)
def z5v (N:Nat)(b:zmu):Option (Int×(zmu×Unit)):=some ((List.length b.2.1:Int),(b,()))
def t_2 (N:Nat):Tab (Int×(zmu×Unit)):=[]
theorem z1hp (N:Nat)(x:z1d [(0,.box TT4)]):z8t (E_2 N) N (t_2 N) L_2 Tryd.f15 (mkS [(0,.box TT4)] 0 x) (z6j (.v (.int .i64)) [(0,.box TT4)] 0)=z5v N x.1:=by kernel_rfl
def zev (N:Nat):List A->Res:=z17 [(0,.box TT4)] (fun x=>z5v N x.1) (z7f (.v (.int .i64)) [(0,.box TT4)] 0)
theorem zg5 (N:Nat):Contract Tryd.prog zde 15 (zev N) :=
 Contract.of (E:=E_2 N) (H:=t_2 N) (L:=L_2) (N:=N) (body:=z1nf) (K:=(z6j (.v (.int .i64)) [(0,.box TT4)] 0)) (Eok_2 N) Tryd.func15 (by kernel_rfl) (by decide) (fun _ hb=>TabOk.nil) (fun x y h=>by rw[z1hp];exact h) (z4l (s:=(.v (.int .i64))) (os:=[(0,.box TT4)]) (m:=0))
def glob0:List (Int×(Int×(List UInt8×Unit))):=[(0,-1,[42],()),(1,-1,[43],()),(0,1,[63],())]
def glob1:List Int:=[0,1,56,2,57,49,28,3,61,58,42,50,38,29,17,4,62,47,59,36,45,43,51,22,53,39,33,30,24,18,12,5,63,55,48,27,60,41,37,16,46,35,44,21,52,32,23,11,54,26,40,15,34,20,31,10,25,14,19,9,13,8,7,6]
def glob:Nat->Option Dat:=lk [(0,⟨(.arr 3 TT9),glob0⟩),(1,⟨(.arr 64 (.int .u8)),glob1⟩)]
def z1ne:Code:=(Tryd.f16.body).getD .skip
def L_3:List (List Nat×List Nat):=[([0],[2,3]),([0,1],[4]),([1,1],[4])]
def E_3 (N:Nat):Env:=z25 tys glob [] [] [] [] false [] []
theorem Eok_3 (N:Nat):EnvOk Tryd.prog (E_3 N):=zg mixed zz (FnsOk.nil) (ItsOk.nil)
def z28 (N:Nat)(n:DT2)(kid:DT2):Option Bool:=cond (n.1 == 2) (cond (kid.1 == 3) (some true) (cond (n.1 == 4) (some (kid.1 != 1)) (some false))) (cond (n.1 == 4) (some (kid.1 != 1)) (some false))
def t_3 (N:Nat):Tab Bool:=[]
theorem z1ho (N:Nat)(x:z1d z14n):z8t (E_3 N) N (t_3 N) L_3 Tryd.f16 (mkS z14n 0 x) (z53 (.v .bool) 2)=z28 N x.1 x.2.1:=by kernel_rfl
def zhy (N:Nat):List A->Res:=z17 z14n (fun x=>z28 N x.1 x.2.1) (zag (.v .bool) 2)
theorem zin (N:Nat):Contract Tryd.prog glob 16 (zhy N) :=
 Contract.of (E:=E_3 N) (H:=t_3 N) (L:=L_3) (N:=N) (body:=z1ne) (K:=(z53 (.v .bool) 2)) (Eok_3 N) Tryd.func16 (by kernel_rfl) (by decide) (fun _ hb=>TabOk.nil) (fun x y h=>by rw[z1ho];exact h) (z1p (s:=(.v .bool)) (m:=2))
def z1nd:Code:=(Tryd.f43.body).getD .skip
def L_4:List (List Nat×List Nat):=[([0],[0]),([0,1],[0]),([0,1,1],[0]),([0,1,1,1],[0]),([0,1,1,1,1],[0]),([0,1,1,1,1,1],[0]),(zyz,[0]),(z18g,[2]),(z18f,[2])]
def E_4 (N:Nat):Env:=z25 tys glob [] [] [] [] false [] []
theorem Eok_4 (N:Nat):EnvOk Tryd.prog (E_4 N):=zg mixed zz (FnsOk.nil) (ItsOk.nil)
def zas (N:Nat)(x0:Int):Option Int:=(fun (w4:Int)=>(fun (w3:Int)=>(fun (w2:Int)=>(fun (w1:Int)=>(fun (w0:Int)=>some (bitsOp Go.BinOp.and IntKind.i64 (IntKind.wrap IntKind.i64 (IntKind.wrap IntKind.u64 (w0+(z23 IntKind.u64 w0 32)))) 127)) (IntKind.wrap IntKind.u64 (w1+(z23 IntKind.u64 w1 16)))) (IntKind.wrap IntKind.u64 ((bitsOp Go.BinOp.and IntKind.u64 w2 1085102592571150095)+(z23 IntKind.u64 (bitsOp Go.BinOp.and IntKind.u64 w2 1085102592571150095) 8)))) (IntKind.wrap IntKind.u64 ((z23 IntKind.u64 w3 4)+w3))) (IntKind.wrap IntKind.u64 ((bitsOp Go.BinOp.and IntKind.u64 (z23 IntKind.u64 w4 2) 3689348814741910323)+(bitsOp Go.BinOp.and IntKind.u64 w4 3689348814741910323)))) (IntKind.wrap IntKind.u64 ((bitsOp Go.BinOp.and IntKind.u64 (z23 IntKind.u64 x0 1) 6148914691236517205)+(bitsOp Go.BinOp.and IntKind.u64 x0 6148914691236517205)))
def t_4 (N:Nat):Tab Int:=[]
theorem z1hn (N:Nat)(x:z1d [(0,.v (.int .u64))]):z8t (E_4 N) N (t_4 N) L_4 Tryd.f43 (mkS [(0,.v (.int .u64))] 0 x) (z53 (.v (.int .i64)) 1)=zas N x.1:=by kernel_rfl
def z8p (N:Nat):List A->Res:=z17 [(0,.v (.int .u64))] (fun x=>zas N x.1) (zag (.v (.int .i64)) 1)
theorem zeg (N:Nat):Contract Tryd.prog glob 43 (z8p N) :=
 Contract.of (E:=E_4 N) (H:=t_4 N) (L:=L_4) (N:=N) (body:=z1nd) (K:=(z53 (.v (.int .i64)) 1)) (Eok_4 N) Tryd.func43 (by kernel_rfl) (by decide) (fun _ hb=>TabOk.nil) (fun x y h=>by rw[z1hn];exact h) (z1p (s:=(.v (.int .i64))) (m:=1))
def z14g:Code:=(Tryd.f35.body).getD .skip
def L_5:List (List Nat×List Nat):=[([0],[1]),([0,1],[1,3]),([0,0,1,1],[7,6,3]),([0,1,0,1,1],[7,6,3]),([0,0,0,1,0,1,1],[8,6,7,3]),(zyy,[6,7,3]),([1,0,1,0,0,1,0,1,1],[3]),(PQ78,[3,5,7,6]),([1,0,0,1,1,0,0,1,0,1,1],[7,6,3]),([0,1,1,0,0,1,0,1,1],[7,6,3]),([1,1,1,0,0,1,0,1,1],[7,6,3]),([1,0,1,1],[3]),([0,1,1,1],[2]),([1,1,1,1],[2])]
def E_5 (N:Nat):Env:=z25 tys glob [(43,z8p N)] [] [] [] false [] []
theorem Eok_5 (N:Nat):EnvOk Tryd.prog (E_5 N):=zg mixed zz (FnsOk.cons (zeg N) (FnsOk.nil)) (ItsOk.nil)
def zg3 (N:Nat)(x6:(List Int))(n:Int)(x7:Int)(rec:Int->Int->Option Int)(k0:Int->Option Int):Option Int:=(fun (w4:Int)=>(fun (w3:Int)=>(fun (w2:Int)=>(fun (w1:Int)=>(fun (w0:Int)=>cond (decide (x7<4)) (cond (inR x7 4) (rec (IntKind.wrap IntKind.i64 (n+(bitsOp Go.BinOp.and IntKind.i64 (IntKind.wrap IntKind.i64 (IntKind.wrap IntKind.u64 (w0+(z23 IntKind.u64 w0 32)))) 127))) (IntKind.wrap IntKind.i64 (x7+1))) none) (k0 n)) (IntKind.wrap IntKind.u64 (w1+(z23 IntKind.u64 w1 16)))) (IntKind.wrap IntKind.u64 ((bitsOp Go.BinOp.and IntKind.u64 w2 1085102592571150095)+(z23 IntKind.u64 (bitsOp Go.BinOp.and IntKind.u64 w2 1085102592571150095) 8)))) (IntKind.wrap IntKind.u64 ((z23 IntKind.u64 w3 4)+w3))) (IntKind.wrap IntKind.u64 ((bitsOp Go.BinOp.and IntKind.u64 (z23 IntKind.u64 w4 2) 3689348814741910323)+(bitsOp Go.BinOp.and IntKind.u64 w4 3689348814741910323)))) (IntKind.wrap IntKind.u64 ((bitsOp Go.BinOp.and IntKind.u64 (z23 IntKind.u64 (List.getD x6 (Int.toNat x7) 0) 1) 6148914691236517205)+(bitsOp Go.BinOp.and IntKind.u64 (List.getD x6 (Int.toNat x7) 0) 6148914691236517205)))
def zma (N:Nat)(n:Int)(x6:(List Int))(x7:Int)(k0:Int->Option Int):Option Int:=iter (fun (v:(Int×Int)) r=>zg3 N x6 v.1 v.2 (fun n x7=>(r (n,x7))) k0) N (n,x7)
def g1_5 (N:Nat)(i:(List Int))(v:(Int×Int))(r:(Int×Int)->Option Int)(K:Ex->List A->Option Int):Option Int:=zg3 N i v.1 v.2 (fun n x7=>(r (n,x7))) (fun a0=>(K (.exit 0) (mkS [(3,.v (.int .i64))] 12 (a0,()))))
def h1_5 (N:Nat):Hd Int:=fun st K=>(unS [(3,.v (.int .i64)),(2,.v (.arr 4 (.int .u64))),(0,.v (.int .i64))] 8 (restr [7,6,3] 0 st)).bind fun x=>iter (fun v r=>g1_5 N ((fun x=>x.2.1) x) v r K) N ((fun x=>(x.1,x.2.2.1)) x)
def t1_5 (N:Nat):Tab Int:=[]
theorem ok1_5 {N:Nat}{c:Ctx}(hb:Base Tryd.prog (E_5 N) c):zq Tryd.prog c (zd z14g [0,1,0,1,1]) (h1_5 N) :=
 z6c (s:=[(3,.v (.int .i64)),(2,.v (.arr 4 (.int .u64))),(0,.v (.int .i64))]) (m:=8) (g1_5 N) [7,6,3] N (fun x=>x.2.1) (fun x=>(x.1,x.2.2.1)) (fun i v=>(v.1,i,v.2,())) (fun _=>rfl) (ze hb N (t1_5 N) L_5 z14g TabOk.nil [0,0,1,0,1,1] _ rfl) (fun i v r K=>by kernel_rfl)
def za0 (N:Nat)(s:(List Int)):Option Int:=zma N 0 s 0 (fun n=>some n)
def t_5 (N:Nat):Tab Int:=[([0,1,0,1,1],h1_5 N)]
theorem z1hm (N:Nat)(x:z1d zsb):z8t (E_5 N) N (t_5 N) L_5 Tryd.f35 (mkS zsb 0 x) (z53 (.v (.int .i64)) 1)=za0 N x.1:=by kernel_rfl
def zes (N:Nat):List A->Res:=z17 zsb (fun x=>za0 N x.1) (zag (.v (.int .i64)) 1)
theorem zmb (N:Nat):Contract Tryd.prog glob 35 (zes N) :=
 Contract.of (E:=E_5 N) (H:=t_5 N) (L:=L_5) (N:=N) (body:=z14g) (K:=(z53 (.v (.int .i64)) 1)) (Eok_5 N) Tryd.func35 (by kernel_rfl) (by decide) (fun _ hb=>(TabOk.cons (ok1_5 hb) TabOk.nil)) (fun x y h=>by rw[z1hm];exact h) (z1p (s:=(.v (.int .i64))) (m:=1))
def z1nc:Code:=(Tryd.f44.body).getD .skip
def L_6:List (List Nat×List Nat):=[([0],[0]),([0,0,1],[4,0]),([1,0,1],[0]),([0,0,1,0,1],[2]),([1,0,1,0,1],[2]),([0,1,1],[2]),([1,1,1],[2])]
def E_6 (N:Nat):Env:=z25 tys glob [] [] [] [] false [] []
theorem Eok_6 (N:Nat):EnvOk Tryd.prog (E_6 N):=zg mixed zz (FnsOk.nil) (ItsOk.nil)
def z1y (N:Nat)(x0:Int):Option Int:=cond (x0 == 0) (some 64) (cond (inR (z23 IntKind.u64 (IntKind.wrap IntKind.u64 (285870213051353865*(bitsOp Go.BinOp.and IntKind.u64 x0 (IntKind.wrap IntKind.u64 (0 - x0))))) 58) 64) (some (IntKind.wrap IntKind.i64 (List.getD glob1 (Int.toNat (z23 IntKind.u64 (IntKind.wrap IntKind.u64 (285870213051353865*(bitsOp Go.BinOp.and IntKind.u64 x0 (IntKind.wrap IntKind.u64 (0 - x0))))) 58)) 0))) none)
def t_6 (N:Nat):Tab Int:=[]
theorem z1hl (N:Nat)(x:z1d [(0,.v (.int .u64))]):z8t (E_6 N) N (t_6 N) L_6 Tryd.f44 (mkS [(0,.v (.int .u64))] 0 x) (z53 (.v (.int .i64)) 1)=z1y N x.1:=by kernel_rfl
def z6i (N:Nat):List A->Res:=z17 [(0,.v (.int .u64))] (fun x=>z1y N x.1) (zag (.v (.int .i64)) 1)
theorem zbw (N:Nat):Contract Tryd.prog glob 44 (z6i N) :=
 Contract.of (E:=E_6 N) (H:=t_6 N) (L:=L_6) (N:=N) (body:=z1nc) (K:=(z53 (.v (.int .i64)) 1)) (Eok_6 N) Tryd.func44 (by kernel_rfl) (by decide) (fun _ hb=>TabOk.nil) (fun x y h=>by rw[z1hl];exact h) (z1p (s:=(.v (.int .i64))) (m:=1))
def z14f:Code:=(Tryd.f36.body).getD .skip
def L_7:List (List Nat×List Nat):=[([0],[1]),([0,0,1],[6,1]),([1,0,1],[1]),([0,0,1,0,1],[2]),([1,0,1,0,1],[2]),([0,1,1],[3,1]),([0,0,1,1,1],[3,1]),([0,0,0,0,0,1,1,1],[10,3,1]),([1,0,0,0,0,1,1,1],[3,1]),([1,1,0,0,0,0,1,1,1],[3,1]),([0,1,0,0,0,1,1,1],[3,1]),([1,0,0,0,1,1,1],[3,1]),([0,1,1,1],[3,1]),([0,1,1,1,1],[2]),([1,1,1,1,1],[2])]
def E_7 (N:Nat):Env:=z25 tys glob [(44,z6i N)] [] [] [] false [] []
theorem Eok_7 (N:Nat):EnvOk Tryd.prog (E_7 N):=zg mixed zz (FnsOk.cons (zbw N) (FnsOk.nil)) (ItsOk.nil)
def zg1 (N:Nat)(s:(List Int))(i:Int)(rec:Int->Option Int)(k0:Int->Option Int):Option Int:=cond (inR i 4) (cond (decide ((Int.toNat i)<(List.length s))) (cond ((List.getD s (Int.toNat i) 0) == 0) (rec (IntKind.wrap IntKind.i64 (i+1))) (k0 i)) none) none
def zg2 (N:Nat)(s:(List Int))(i:Int)(k0:Int->Option Int):Option Int:=iter (fun (v:Int) r=>zg1 N s v (fun i=>(r i)) k0) N i
def g1_7 (N:Nat)(i:(List Int))(v:Int)(r:Int->Option Int)(K:Ex->List A->Option Int):Option Int:=zg1 N i v (fun i=>(r i)) (fun a1=>(K (.exit 0) (mkS SQ70 16 (i,a1,()))))
def h1_7 (N:Nat):Hd Int:=fun st K=>(unS SQ70 16 (restr [3,1] 0 st)).bind fun x=>iter (fun v r=>g1_7 N ((fun x=>x.1) x) v r K) N ((fun x=>x.2.1) x)
def t1_7 (N:Nat):Tab Int:=[]
theorem ok1_7 {N:Nat}{c:Ctx}(hb:Base Tryd.prog (E_7 N) c):zq Tryd.prog c (zd z14f [0,0,1,1,1]) (h1_7 N) :=
 z6c (s:=SQ70) (m:=16) (g1_7 N) [3,1] N (fun x=>x.1) (fun x=>x.2.1) (fun i v=>(i,v,())) (fun _=>rfl) (ze hb N (t1_7 N) L_7 z14f TabOk.nil [0,0,0,1,1,1] _ rfl) (fun i v r K=>by kernel_rfl)
def z1e (N:Nat)(s:(List Int)):Option Int:=cond (eqD (T.arr 4 (T.int IntKind.u64)) s ([0,0,0,0]:List Int)) (some (-1)) (zg2 N s 0 (fun i=>cond (inR i 4) (cond (decide ((Int.toNat i)<(List.length s))) ((z1y N (List.getD s (Int.toNat i) 0)).bind fun y=>some (IntKind.wrap IntKind.i64 ((IntKind.wrap IntKind.i64 (i*64))+y))) none) none))
def t_7 (N:Nat):Tab Int:=[([0,0,1,1,1],h1_7 N)]
theorem z1hk (N:Nat)(x:z1d zsb):z8t (E_7 N) N (t_7 N) L_7 Tryd.f36 (mkS zsb 0 x) (z53 (.v (.int .i64)) 1)=z1e N x.1:=by kernel_rfl
def z5i (N:Nat):List A->Res:=z17 zsb (fun x=>z1e N x.1) (zag (.v (.int .i64)) 1)
theorem z8v (N:Nat):Contract Tryd.prog glob 36 (z5i N) :=
 Contract.of (E:=E_7 N) (H:=t_7 N) (L:=L_7) (N:=N) (body:=z14f) (K:=(z53 (.v (.int .i64)) 1)) (Eok_7 N) Tryd.func36 (by kernel_rfl) (by decide) (fun _ hb=>(TabOk.cons (ok1_7 hb) TabOk.nil)) (fun x y h=>by rw[z1hk];exact h) (z1p (s:=(.v (.int .i64))) (m:=1))
def z1nb:Code:=(Tryd.f31.body).getD .skip
def L_8:List (List Nat×List Nat):=[([0],[0,1]),([0,1],[4]),([1,1],[4])]
def E_8 (N:Nat):Env:=z25 tys glob [(42,z134)] [] [] [] false [] []
theorem Eok_8 (N:Nat):EnvOk Tryd.prog (E_8 N):=zg mixed zz (FnsOk.cons ((Contract.up (z1hv zde) glob)) (FnsOk.nil)) (ItsOk.nil)
def ze2 (N:Nat)(s:(List UInt8))(c:Int):Option Int:=some (Go.Lib.indexByte s (Nat.toUInt8 (Int.toNat c)))
def t_8 (N:Nat):Tab Int:=[]
theorem z1hj (N:Nat)(x:z1d [(0,.v .str),(0,.v (.int .u8))]):z8t (E_8 N) N (t_8 N) L_8 Tryd.f31 (mkS [(0,.v .str),(0,.v (.int .u8))] 0 x) (z53 (.v (.int .i64)) 2)=ze2 N x.1 x.2.1:=by kernel_rfl
def z2t (N:Nat):List A->Res:=z17 [(0,.v .str),(0,.v (.int .u8))] (fun x=>ze2 N x.1 x.2.1) (zag (.v (.int .i64)) 2)
theorem z40 (N:Nat):Contract Tryd.prog glob 31 (z2t N) :=
 Contract.of (E:=E_8 N) (H:=t_8 N) (L:=L_8) (N:=N) (body:=z1nb) (K:=(z53 (.v (.int .i64)) 2)) (Eok_8 N) Tryd.func31 (by kernel_rfl) (by decide) (fun _ hb=>TabOk.nil) (fun x y h=>by rw[z1hj];exact h) (z1p (s:=(.v (.int .i64))) (m:=2))
def zu8:Code:=(Tryd.f23.body).getD .skip
def L_9:List (List Nat×List Nat):=[([0],[1,0]),([0,0,1],[8,0]),([1,0,1],[0]),([0,0,1,0,1],[4]),([1,0,1,0,1],[4]),([0,0,1,1],[17,0]),([1,0,1,1],[0]),([0,0,1,0,1,1],[4]),([1,0,1,0,1,1],[4]),([0,1,1,1],[4]),([1,1,1,1],[4])]
def E_9 (N:Nat):Env:=z25 tys glob [(31,z2t N)] [] [] [] false [] []
theorem Eok_9 (N:Nat):EnvOk Tryd.prog (E_9 N):=zg mixed zz (FnsOk.cons (z40 N) (FnsOk.nil)) (ItsOk.nil)
def ze6 (N:Nat)(b:Int)(k0:Bool->Option (List UInt8)):Option (List UInt8):=cond (decide (b<32)) (k0 true) (k0 (decide (126<b)))
def g2_9 (N:Nat)(x:z1d [(0,.v (.int .u8))])(K:Ex->List A->Option (List UInt8)):Option (List UInt8):=ze6 N x.1 (fun a1=>(K .normal (mkS [(0,.v (.int .u8)),(16,.v .bool)] 11 (x.1,a1,()))))
def h2_9 (N:Nat):Hd (List UInt8):=fun st K=>(unS [(0,.v (.int .u8))] 28 (restr [0] 0 st)).bind fun x=>g2_9 N x K
def t2_9 (N:Nat):Tab (List UInt8):=[]
theorem ok2_9 {N:Nat}{c:Ctx}(hb:Base Tryd.prog (E_9 N) c):zq Tryd.prog c (zd zu8 [0,0,1,1]) (h2_9 N) :=
 zr (s:=[(0,.v (.int .u8))]) (m:=28) (g:=g2_9 N) [0] (ze hb N (t2_9 N) L_9 zu8 TabOk.nil [0,0,1,1] _ rfl) (fun x K=>by kernel_rfl)
def ze7 (N:Nat)(b:Int)(k0:(List UInt8)->Option (List UInt8))(k1:Option (List UInt8)):Option (List UInt8):=ze6 N b (fun x17=>cond x17 (cond (inR (z23 IntKind.u8 b 4) 16) (cond (inR (bitsOp Go.BinOp.and IntKind.u8 b 15) 16) (k0 (ze0 ([92,120,(UInt8.toNat (List.getD ([(48:UInt8),(49:UInt8),(50:UInt8),(51:UInt8),(52:UInt8),(53:UInt8),(54:UInt8),(55:UInt8),(56:UInt8),(57:UInt8),(97:UInt8),(98:UInt8),(99:UInt8),(100:UInt8),(101:UInt8),(102:UInt8)]:List UInt8) (Int.toNat (z23 IntKind.u8 b 4)) (0:UInt8)):Int),(UInt8.toNat (List.getD ([(48:UInt8),(49:UInt8),(50:UInt8),(51:UInt8),(52:UInt8),(53:UInt8),(54:UInt8),(55:UInt8),(56:UInt8),(57:UInt8),(97:UInt8),(98:UInt8),(99:UInt8),(100:UInt8),(101:UInt8),(102:UInt8)]:List UInt8) (Int.toNat (bitsOp Go.BinOp.and IntKind.u8 b 15)) (0:UInt8)):Int)]:List Int))) none) none) k1)
def g1_9 (N:Nat)(x:z1d [(0,.v (.int .u8))])(K:Ex->List A->Option (List UInt8)):Option (List UInt8):=ze7 N x.1 (fun a0=>(K .ret (mkS [(4,.v .str)] 24 (a0,())))) (K .normal (mkS [(0,.v (.int .u8))] 28 (x.1,())))
def h1_9 (N:Nat):Hd (List UInt8):=fun st K=>(unS [(0,.v (.int .u8))] 28 (restr [0] 0 st)).bind fun x=>g1_9 N x K
def t1_9 (N:Nat):Tab (List UInt8):=[([0,0,1,1],h2_9 N)]
theorem ok1_9 {N:Nat}{c:Ctx}(hb:Base Tryd.prog (E_9 N) c):zq Tryd.prog c (zd zu8 [0,1,1]) (h1_9 N) :=
 zr (s:=[(0,.v (.int .u8))]) (m:=28) (g:=g1_9 N) [0] (ze hb N (t1_9 N) L_9 zu8 (TabOk.cons (ok2_9 hb) TabOk.nil) [0,1,1] _ rfl) (fun x K=>by kernel_rfl)
def z4v (N:Nat)(b:Int)(slashed:(List UInt8)):Option (List UInt8):=cond (decide (0<=(Go.Lib.indexByte slashed (Nat.toUInt8 (Int.toNat b))))) (some (ze0 ([92,b]:List Int))) (ze7 N b (fun x4=>some x4) (some (ze0 ([b]:List Int))))
def t_9 (N:Nat):Tab (List UInt8):=[([0,1,1],h1_9 N)]
theorem z1hi (N:Nat)(x:z1d [(0,.v (.int .u8)),(0,.v .str)]):z8t (E_9 N) N (t_9 N) L_9 Tryd.f23 (mkS [(0,.v (.int .u8)),(0,.v .str)] 0 x) (z53 (.v .str) 2)=z4v N x.1 x.2.1:=by kernel_rfl
def z9p (N:Nat):List A->Res:=z17 [(0,.v (.int .u8)),(0,.v .str)] (fun x=>z4v N x.1 x.2.1) (zag (.v .str) 2)
theorem ze8 (N:Nat):Contract Tryd.prog glob 23 (z9p N) :=
 Contract.of (E:=E_9 N) (H:=t_9 N) (L:=L_9) (N:=N) (body:=zu8) (K:=(z53 (.v .str) 2)) (Eok_9 N) Tryd.func23 (by kernel_rfl) (by decide) (fun _ hb=>(TabOk.cons (ok1_9 hb) TabOk.nil)) (fun x y h=>by rw[z1hi];exact h) (z1p (s:=(.v .str)) (m:=2))
def z1cn:Code:=(Tryd.f11.body).getD .skip
def L_10:List (List Nat×List Nat):=[([0],[0]),([0,1],[2]),([1,1],[2])]
def E_10 (N:Nat):Env:=z25 tys glob [(23,z9p N)] [] [] [] false [] []
theorem z1pp (N:Nat):EnvOk Tryd.prog (E_10 N):=zg mixed zz (FnsOk.cons (ze8 N) (FnsOk.nil)) (ItsOk.nil)
def zal (N:Nat)(b:Int):Option (List UInt8):=(z4v N b ([(92:UInt8),(46:UInt8),(91:UInt8),(93:UInt8),(40:UInt8),(41:UInt8),(124:UInt8),(123:UInt8),(125:UInt8),(42:UInt8),(43:UInt8),(63:UInt8)]:List UInt8)).bind fun y=>some y
def t_10 (N:Nat):Tab (List UInt8):=[]
theorem z1bn (N:Nat)(x:z1d [(0,.v (.int .u8))]):z8t (E_10 N) N (t_10 N) L_10 Tryd.f11 (mkS [(0,.v (.int .u8))] 0 x) (z53 (.v .str) 1)=zal N x.1:=by kernel_rfl
def zb2 (N:Nat):List A->Res:=z17 [(0,.v (.int .u8))] (fun x=>zal N x.1) (zag (.v .str) 1)
theorem zgl (N:Nat):Contract Tryd.prog glob 11 (zb2 N) :=
 Contract.of (E:=E_10 N) (H:=t_10 N) (L:=L_10) (N:=N) (body:=z1cn) (K:=(z53 (.v .str) 1)) (z1pp N) Tryd.func11 (by kernel_rfl) (by decide) (fun _ hb=>TabOk.nil) (fun x y h=>by rw[z1bn];exact h) (z1p (s:=(.v .str)) (m:=1))
def z1cm:Code:=(Tryd.f45.body).getD .skip
def L_11:List (List Nat×List Nat):=[([0],[1,2,4]),([0,1],[2,4]),([0,1,1],[4]),([1,1,1],[4])]
def E_11 (N:Nat):Env:=z25 tys glob [] [] [] [] false [] []
theorem z1po (N:Nat):EnvOk Tryd.prog (E_11 N):=zg mixed zz (FnsOk.nil) (ItsOk.nil)
def z9k (N:Nat)(s:(List Int))(b:Int):Option (List Int):=cond (inR (IntKind.wrap IntKind.u8 (Int.tdiv b 64)) 4) (cond (decide ((Int.toNat (IntKind.wrap IntKind.u8 (Int.tdiv b 64)))<(List.length s))) (cond (decide (0<=(Int.tmod b 64))) (cond (inR (IntKind.wrap IntKind.u8 (Int.tdiv b 64)) 4) (cond (decide ((Int.toNat (IntKind.wrap IntKind.u8 (Int.tdiv b 64)))<(List.length s))) (some (List.set s (Int.toNat (IntKind.wrap IntKind.u8 (Int.tdiv b 64))) (bitsOp Go.BinOp.or IntKind.u64 (List.getD s (Int.toNat (IntKind.wrap IntKind.u8 (Int.tdiv b 64))) 0) (shlI IntKind.u64 1 (Int.tmod b 64))))) none) none) none) none) none
def t_11 (N:Nat):Tab (List Int):=[]
theorem z1bm (N:Nat)(x:z1d z1di):z8t (E_11 N) N (t_11 N) L_11 Tryd.f45 (mkS z1di 0 x) (z53 (.v (.arr 4 (.int .u64))) 2)=z9k N x.1 x.2.1:=by kernel_rfl
def zba (N:Nat):List A->Res:=z17 z1di (fun x=>z9k N x.1 x.2.1) (zag (.v (.arr 4 (.int .u64))) 2)
theorem zh5 (N:Nat):Contract Tryd.prog glob 45 (zba N) :=
 Contract.of (E:=E_11 N) (H:=t_11 N) (L:=L_11) (N:=N) (body:=z1cm) (K:=(z53 (.v (.arr 4 (.int .u64))) 2)) (z1po N) Tryd.func45 (by kernel_rfl) (by decide) (fun _ hb=>TabOk.nil) (fun x y h=>by rw[z1bm];exact h) (z1p (s:=(.v (.arr 4 (.int .u64)))) (m:=2))
def zwq:Code:=(Tryd.f37.body).getD .skip
def L_12:List (List Nat×List Nat):=[([0],[0,1,4]),([0,1],[0,1,5,4]),([0,0,1,1],[6,1,5,4]),([0,1,0,1,1],[6,1,5,4]),([0,0,0,0,1,0,1,1],[12,5,6,1,4]),([1,0,0,0,1,0,1,1],[5,6,1,4]),([1,1,0,0,0,1,0,1,1],[5,4]),([0,0,1,0,0,1,0,1,1],[6,1,5,4]),(zyy,[6,1,5,4]),([1,1,0,0,1,0,1,1],[6,1,5,4]),([1,0,1,1],[5,4]),([0,1,1,1],[4]),([1,1,1,1],[4])]
def E_12 (N:Nat):Env:=z25 tys glob [(45,zba N)] [] [] [] false [] []
theorem z1pn (N:Nat):EnvOk Tryd.prog (E_12 N):=zg mixed zz (FnsOk.cons (zh5 N) (FnsOk.nil)) (ItsOk.nil)
def zby (N:Nat)(hi:Int)(x4:(List Int))(s:(List Int))(b:Int)(rec:(List Int)->Int->Option (List Int))(k0:(List Int)->Option (List Int)):Option (List Int):=cond (decide (b<=(IntKind.wrap IntKind.i64 hi))) ((z9k N s (IntKind.wrap IntKind.u8 b)).bind fun y=>rec y (IntKind.wrap IntKind.i64 (b+1))) (k0 s)
def zk7 (N:Nat)(hi:Int)(x4:(List Int))(s:(List Int))(b:Int)(k0:(List Int)->Option (List Int)):Option (List Int):=iter (fun (v:((List Int)×Int)) r=>zby N hi x4 v.1 v.2 (fun s b=>(r (s,b))) k0) N (s,b)
def z1mx (N:Nat)(i:(Int×(List Int)))(v:((List Int)×Int))(r:((List Int)×Int)->Option (List Int))(K:Ex->List A->Option (List Int)):Option (List Int):=zby N i.1 i.2 v.1 v.2 (fun s b=>(r (s,b))) (fun a1=>(K (.exit 0) (mkS [(4,.box (.arr 4 (.int .u64))),(0,.box (.arr 4 (.int .u64)))] 14 (i.2,a1,()))))
def z1kf (N:Nat):Hd (List Int):=fun st K=>(unS SQ58 13 (restr [6,1,5,4] 0 st)).bind fun x=>iter (fun v r=>z1mx N ((fun x=>(x.1,x.2.1)) x) v r K) N ((fun x=>(x.2.2.1,x.2.2.2.1)) x)
def t1_12 (N:Nat):Tab (List Int):=[]
theorem z1hb {N:Nat}{c:Ctx}(hb:Base Tryd.prog (E_12 N) c):zq Tryd.prog c (zd zwq [0,1,0,1,1]) (z1kf N) :=
 z6c (s:=SQ58) (m:=13) (z1mx N) [6,1,5,4] N (fun x=>(x.1,x.2.1)) (fun x=>(x.2.2.1,x.2.2.2.1)) (fun i v=>(i.1,i.2,v.1,v.2,())) (fun _=>rfl) (ze hb N (t1_12 N) L_12 zwq TabOk.nil [0,0,1,0,1,1] _ rfl) (fun i v r K=>by kernel_rfl)
def z1z (N:Nat)(lo:Int)(hi:Int):Option (List Int):=zk7 N hi ([0,0,0,0]:List Int) ([0,0,0,0]:List Int) (IntKind.wrap IntKind.i64 lo) (fun s=>some s)
def t_12 (N:Nat):Tab (List Int):=[([0,1,0,1,1],z1kf N)]
theorem z1bl (N:Nat)(x:z1d z1dg):z8t (E_12 N) N (t_12 N) L_12 Tryd.f37 (mkS z1dg 0 x) (z53 (.v (.arr 4 (.int .u64))) 2)=z1z N x.1 x.2.1:=by kernel_rfl
def z2o (N:Nat):List A->Res:=z17 z1dg (fun x=>z1z N x.1 x.2.1) (zag (.v (.arr 4 (.int .u64))) 2)
theorem z3r (N:Nat):Contract Tryd.prog glob 37 (z2o N) :=
 Contract.of (E:=E_12 N) (H:=t_12 N) (L:=L_12) (N:=N) (body:=zwq) (K:=(z53 (.v (.arr 4 (.int .u64))) 2)) (z1pn N) Tryd.func37 (by kernel_rfl) (by decide) (fun _ hb=>(TabOk.cons (z1hb hb) TabOk.nil)) (fun x y h=>by rw[z1bl];exact h) (z1p (s:=(.v (.arr 4 (.int .u64)))) (m:=2))
def zwp:Code:=(Tryd.f38.body).getD .skip
def L_13:List (List Nat×List Nat):=[([0],[0,2]),([0,1],[0,3,2]),([0,0,1,1],[7,6,3,0,2]),([0,1,0,1,1],[7,6,3,0,2]),([0,0,0,1,0,1,1],[8,7,3,0,6,2]),(zyy,[7,3,0,6,2]),([1,0,1,0,0,1,0,1,1],[3,2]),(PQ78,[3,0,4,7,6,2]),([1,0,0,1,1,0,0,1,0,1,1],[7,6,3,0,2]),([0,1,1,0,0,1,0,1,1],[7,6,3,0,2]),([1,1,1,0,0,1,0,1,1],[7,6,3,0,2]),([1,0,1,1],[3,2]),([0,1,1,1],[2]),([1,1,1,1],[2])]
def E_13 (N:Nat):Env:=z25 tys glob [(45,zba N)] [] [] [] false [] []
theorem z1pm (N:Nat):EnvOk Tryd.prog (E_13 N):=zg mixed zz (FnsOk.cons (zh5 N) (FnsOk.nil)) (ItsOk.nil)
def z8u (N:Nat)(s:(List UInt8))(x2:(List Int))(x6:Int)(set_:(List Int))(x7:Int)(rec:(List Int)->Int->Option (List Int))(k0:(List Int)->Option (List Int)):Option (List Int):=cond (decide (x7<x6)) (cond (inR x7 (List.length s)) ((z9k N set_ (UInt8.toNat (List.getD s (Int.toNat x7) (0:UInt8)):Int)).bind fun y=>rec y (IntKind.wrap IntKind.i64 (x7+1))) none) (k0 set_)
def zfz (N:Nat)(s:(List UInt8))(x2:(List Int))(set_:(List Int))(x6:Int)(x7:Int)(k0:(List Int)->Option (List Int)):Option (List Int):=iter (fun (v:((List Int)×Int)) r=>z8u N s x2 x6 v.1 v.2 (fun set_ x7=>(r (set_,x7))) k0) N (set_,x7)
def z1mw (N:Nat)(i:((List UInt8)×(List Int)×Int))(v:((List Int)×Int))(r:((List Int)×Int)->Option (List Int))(K:Ex->List A->Option (List Int)):Option (List Int):=z8u N i.1 i.2.1 i.2.2 v.1 v.2 (fun set_ x7=>(r (set_,x7))) (fun a1=>(K (.exit 0) (mkS [(2,.box (.arr 4 (.int .u64))),(0,.box (.arr 4 (.int .u64)))] 13 (i.2.1,a1,()))))
def z1ke (N:Nat):Hd (List Int):=fun st K=>(unS SQ50 9 (restr [7,6,3,0,2] 0 st)).bind fun x=>iter (fun v r=>z1mw N ((fun x=>(x.1,x.2.1,x.2.2.2.1)) x) v r K) N ((fun x=>(x.2.2.1,x.2.2.2.2.1)) x)
def t1_13 (N:Nat):Tab (List Int):=[]
theorem z1ha {N:Nat}{c:Ctx}(hb:Base Tryd.prog (E_13 N) c):zq Tryd.prog c (zd zwp [0,1,0,1,1]) (z1ke N) :=
 z6c (s:=SQ50) (m:=9) (z1mw N) [7,6,3,0,2] N (fun x=>(x.1,x.2.1,x.2.2.2.1)) (fun x=>(x.2.2.1,x.2.2.2.2.1)) (fun i v=>(i.1,i.2.1,v.1,i.2.2,v.2,())) (fun _=>rfl) (ze hb N (t1_13 N) L_13 zwp TabOk.nil [0,0,1,0,1,1] _ rfl) (fun i v r K=>by kernel_rfl)
def z3q (N:Nat)(s:(List UInt8)):Option (List Int):=zfz N s ([0,0,0,0]:List Int) ([0,0,0,0]:List Int) (List.length s:Int) 0 (fun set_=>some set_)
def t_13 (N:Nat):Tab (List Int):=[([0,1,0,1,1],z1ke N)]
theorem z1bk (N:Nat)(x:z1d [(0,.v .str)]):z8t (E_13 N) N (t_13 N) L_13 Tryd.f38 (mkS [(0,.v .str)] 0 x) (z53 (.v (.arr 4 (.int .u64))) 1)=z3q N x.1:=by kernel_rfl
def z7s (N:Nat):List A->Res:=z17 [(0,.v .str)] (fun x=>z3q N x.1) (zag (.v (.arr 4 (.int .u64))) 1)
theorem zbb (N:Nat):Contract Tryd.prog glob 38 (z7s N) :=
 Contract.of (E:=E_13 N) (H:=t_13 N) (L:=L_13) (N:=N) (body:=zwp) (K:=(z53 (.v (.arr 4 (.int .u64))) 1)) (z1pm N) Tryd.func38 (by kernel_rfl) (by decide) (fun _ hb=>(TabOk.cons (z1ha hb) TabOk.nil)) (fun x y h=>by rw[z1bk];exact h) (z1p (s:=(.v (.arr 4 (.int .u64)))) (m:=1))
def z1cl:Code:=(Tryd.f46.body).getD .skip
def L_14:List (List Nat×List Nat):=[([0],[1,2]),([0,1],[4]),([1,1],[4])]
def E_14 (N:Nat):Env:=z25 tys glob [] [] [] [] false [] []
theorem z1pl (N:Nat):EnvOk Tryd.prog (E_14 N):=zg mixed zz (FnsOk.nil) (ItsOk.nil)
def zd5 (N:Nat)(s:(List Int))(b:Int):Option Bool:=cond (inR (IntKind.wrap IntKind.u8 (Int.tdiv b 64)) 4) (cond (decide ((Int.toNat (IntKind.wrap IntKind.u8 (Int.tdiv b 64)))<(List.length s))) (cond (decide (0<=(Int.tmod b 64))) (some ((bitsOp Go.BinOp.and IntKind.u64 (z23 IntKind.u64 (List.getD s (Int.toNat (IntKind.wrap IntKind.u8 (Int.tdiv b 64))) 0) (Int.tmod b 64)) 1) == 1)) none) none) none
def t_14 (N:Nat):Tab Bool:=[]
theorem z1bj (N:Nat)(x:z1d z1di):z8t (E_14 N) N (t_14 N) L_14 Tryd.f46 (mkS z1di 0 x) (z53 (.v .bool) 2)=zd5 N x.1 x.2.1:=by kernel_rfl
def zh6 (N:Nat):List A->Res:=z17 z1di (fun x=>zd5 N x.1 x.2.1) (zag (.v .bool) 2)
theorem zpb (N:Nat):Contract Tryd.prog glob 46 (zh6 N) :=
 Contract.of (E:=E_14 N) (H:=t_14 N) (L:=L_14) (N:=N) (body:=z1cl) (K:=(z53 (.v .bool) 2)) (z1pl N) Tryd.func46 (by kernel_rfl) (by decide) (fun _ hb=>TabOk.nil) (fun x y h=>by rw[z1bj];exact h) (z1p (s:=(.v .bool)) (m:=2))
def z1ck:Code:=(Tryd.f47.body).getD .skip
def L_15:List (List Nat×List Nat):=[([0],[0,1]),([0,1],[1,0,5,6]),([0,0,1,1],[13,5,6]),([0,0,1,0,1,1],[14,5,13,6]),([1,0,1,0,1,1],[5,6]),(z18e,[17,5,6]),([1,1,1,0,1,0,1,1],[5,6]),([0,0,1,1,1,0,1,0,1,1],[4]),([1,0,1,1,1,0,1,0,1,1],[4]),([0,0,1,0,1,0,1,1],[4]),([1,0,1,0,1,0,1,1],[4]),([1,0,1,1],[5,6]),([0,1,1,1],[4]),([1,1,1,1],[4])]
def E_15 (N:Nat):Env:=z25 tys glob [(23,z9p N)] [] [] [] false [] []
theorem z1pk (N:Nat):EnvOk Tryd.prog (E_15 N):=zg mixed zz (FnsOk.cons (ze8 N) (FnsOk.nil)) (ItsOk.nil)
def zcd (N:Nat)(lo:Int)(hi:Int):Option (List UInt8):=(z4v N lo ([(92:UInt8),(91:UInt8),(93:UInt8),(45:UInt8),(94:UInt8)]:List UInt8)).bind fun y=>(z4v N hi ([(92:UInt8),(91:UInt8),(93:UInt8),(45:UInt8),(94:UInt8)]:List UInt8)).bind fun y1=>cond ((IntKind.wrap IntKind.u8 (hi - lo)) == 0) (some y) (cond ((IntKind.wrap IntKind.u8 (hi - lo)) == 1) (cond (decide (((List.length y)+(List.length y1))<=9223372036854775807)) (some (y++y1)) none) (cond (decide (((List.length y)+1)<=9223372036854775807)) (cond (decide (((List.length (y++([(45:UInt8)]:List UInt8)))+(List.length y1))<=9223372036854775807)) (some ((y++([(45:UInt8)]:List UInt8))++y1)) none) none))
def t_15 (N:Nat):Tab (List UInt8):=[]
theorem z1bi (N:Nat)(x:z1d z1dg):z8t (E_15 N) N (t_15 N) L_15 Tryd.f47 (mkS z1dg 0 x) (z53 (.v .str) 2)=zcd N x.1 x.2.1:=by kernel_rfl
def zgi (N:Nat):List A->Res:=z17 z1dg (fun x=>zcd N x.1 x.2.1) (zag (.v .str) 2)
theorem zox (N:Nat):Contract Tryd.prog glob 47 (zgi N) :=
 Contract.of (E:=E_15 N) (H:=t_15 N) (L:=L_15) (N:=N) (body:=z1ck) (K:=(z53 (.v .str) 2)) (z1pk N) Tryd.func47 (by kernel_rfl) (by decide) (fun _ hb=>TabOk.nil) (fun x y h=>by rw[z1bi];exact h) (z1p (s:=(.v .str)) (m:=2))
def zwo:Code:=(Tryd.f54.body).getD .skip
def L_16:List (List Nat×List Nat):=[([0],[1,2]),([0,0,1],[4,1,2]),([0,1,0,1],[4,1,2]),([0,0,0,1,0,1],[5,4,1,2]),([0,1,0,0,1,0,1],[4,1,2]),(z1dt,[1,2]),(z1nq,[3,1,4,2]),([1,0,0,1,1,0,0,1,0,1],[4,1,2]),(z1np,[4,1,2]),(z1no,[4,1,2]),([1,0,1],[1,2]),([0,1,1],[2]),([1,1,1],[2])]
def E_16 (N:Nat):Env:=z25 tys glob [] [] [] [] false [] []
theorem z1pj (N:Nat):EnvOk Tryd.prog (E_16 N):=zg mixed zz (FnsOk.nil) (ItsOk.nil)
def zic (N:Nat)(x2:(List Int))(s:(List Int))(x4:Int)(rec:(List Int)->Int->Option (List Int))(k0:(List Int)->Option (List Int)):Option (List Int):=cond (decide (x4<4)) (cond (inR x4 4) (cond (decide ((Int.toNat x4)<(List.length s))) (cond (inR x4 4) (cond (decide ((Int.toNat x4)<(List.length s))) (rec (List.set s (Int.toNat x4) (bitsOp Go.BinOp.xor IntKind.u64 (if ((IntKind.signed IntKind.u64)=true) then (-1) else (IntKind.max IntKind.u64)) (List.getD s (Int.toNat x4) 0))) (IntKind.wrap IntKind.i64 (x4+1))) none) none) none) none) (k0 s)
def zpa (N:Nat)(s:(List Int))(x2:(List Int))(x4:Int)(k0:(List Int)->Option (List Int)):Option (List Int):=iter (fun (v:((List Int)×Int)) r=>zic N x2 v.1 v.2 (fun s x4=>(r (s,x4))) k0) N (s,x4)
def z1mv (N:Nat)(i:(List Int))(v:((List Int)×Int))(r:((List Int)×Int)->Option (List Int))(K:Ex->List A->Option (List Int)):Option (List Int):=zic N i v.1 v.2 (fun s x4=>(r (s,x4))) (fun a0=>(K (.exit 0) (mkS [(1,.box (.arr 4 (.int .u64))),(0,.box (.arr 4 (.int .u64)))] 12 (a0,i,()))))
def z1kd (N:Nat):Hd (List Int):=fun st K=>(unS [(1,.box (.arr 4 (.int .u64))),(0,.box (.arr 4 (.int .u64))),(1,.v (.int .i64))] 10 (restr [4,1,2] 0 st)).bind fun x=>iter (fun v r=>z1mv N ((fun x=>x.2.1) x) v r K) N ((fun x=>(x.1,x.2.2.1)) x)
def t1_16 (N:Nat):Tab (List Int):=[]
theorem z1h9 {N:Nat}{c:Ctx}(hb:Base Tryd.prog (E_16 N) c):zq Tryd.prog c (zd zwo [0,1,0,1]) (z1kd N) :=
 z6c (s:=[(1,.box (.arr 4 (.int .u64))),(0,.box (.arr 4 (.int .u64))),(1,.v (.int .i64))]) (m:=10) (z1mv N) [4,1,2] N (fun x=>x.2.1) (fun x=>(x.1,x.2.2.1)) (fun i v=>(v.1,i,v.2,())) (fun _=>rfl) (ze hb N (t1_16 N) L_16 zwo TabOk.nil [0,0,1,0,1] _ rfl) (fun i v r K=>by kernel_rfl)
def z7j (N:Nat)(s:(List Int)):Option (List Int):=zpa N s ([0,0,0,0]:List Int) 0 (fun s1=>some s1)
def t_16 (N:Nat):Tab (List Int):=[([0,1,0,1],z1kd N)]
theorem z1bh (N:Nat)(x:z1d zsb):z8t (E_16 N) N (t_16 N) L_16 Tryd.f54 (mkS zsb 0 x) (z53 (.v (.arr 4 (.int .u64))) 1)=z7j N x.1:=by kernel_rfl
def z9z (N:Nat):List A->Res:=z17 zsb (fun x=>z7j N x.1) (zag (.v (.arr 4 (.int .u64))) 1)
theorem zdx (N:Nat):Contract Tryd.prog glob 54 (z9z N) :=
 Contract.of (E:=E_16 N) (H:=t_16 N) (L:=L_16) (N:=N) (body:=zwo) (K:=(z53 (.v (.arr 4 (.int .u64))) 1)) (z1pj N) Tryd.func54 (by kernel_rfl) (by decide) (fun _ hb=>(TabOk.cons (z1h9 hb) TabOk.nil)) (fun x y h=>by rw[z1bh];exact h) (z1p (s:=(.v (.arr 4 (.int .u64)))) (m:=1))
def zwn:Code:=(Tryd.f53.body).getD .skip
def L_17:List (List Nat×List Nat):=[([0],[2,3,4]),([0,0,1],[6,2,3,4]),([0,1,0,1],[6,2,3,4]),([0,0,0,1,0,1],[7,6,2,3,4]),([0,1,0,0,1,0,1],[6,2,3,4]),(z1dt,[2,4]),(z1nq,[5,2,3,6,4]),([1,0,0,1,1,0,0,1,0,1],[6,2,3,4]),(z1np,[6,2,3,4]),(z1no,[6,2,3,4]),([1,0,1],[2,4]),([0,1,1],[4]),([1,1,1],[4])]
def E_17 (N:Nat):Env:=z25 tys glob [] [] [] [] false [] []
theorem z1pi (N:Nat):EnvOk Tryd.prog (E_17 N):=zg mixed zz (FnsOk.nil) (ItsOk.nil)
def zid (N:Nat)(t:(List Int))(x4:(List Int))(s:(List Int))(x6:Int)(rec:(List Int)->Int->Option (List Int))(k0:(List Int)->Option (List Int)):Option (List Int):=cond (decide (x6<4)) (cond (inR x6 4) (cond (decide ((Int.toNat x6)<(List.length s))) (cond (inR x6 4) (cond (decide ((Int.toNat x6)<(List.length t))) (cond (inR x6 4) (cond (decide ((Int.toNat x6)<(List.length s))) (rec (List.set s (Int.toNat x6) (bitsOp Go.BinOp.and IntKind.u64 (List.getD s (Int.toNat x6) 0) (List.getD t (Int.toNat x6) 0))) (IntKind.wrap IntKind.i64 (x6+1))) none) none) none) none) none) none) (k0 s)
def zpc (N:Nat)(s:(List Int))(t:(List Int))(x4:(List Int))(x6:Int)(k0:(List Int)->Option (List Int)):Option (List Int):=iter (fun (v:((List Int)×Int)) r=>zid N t x4 v.1 v.2 (fun s x6=>(r (s,x6))) k0) N (s,x6)
def z1mu (N:Nat)(i:((List Int)×(List Int)))(v:((List Int)×Int))(r:((List Int)×Int)->Option (List Int))(K:Ex->List A->Option (List Int)):Option (List Int):=zid N i.1 i.2 v.1 v.2 (fun s x6=>(r (s,x6))) (fun a0=>(K (.exit 0) (mkS [(2,.box (.arr 4 (.int .u64))),(1,.box (.arr 4 (.int .u64)))] 14 (a0,i.2,()))))
def z1kc (N:Nat):Hd (List Int):=fun st K=>(unS SQ24 12 (restr [6,2,3,4] 0 st)).bind fun x=>iter (fun v r=>z1mu N ((fun x=>(x.2.1,x.2.2.1)) x) v r K) N ((fun x=>(x.1,x.2.2.2.1)) x)
def t1_17 (N:Nat):Tab (List Int):=[]
theorem z1h8 {N:Nat}{c:Ctx}(hb:Base Tryd.prog (E_17 N) c):zq Tryd.prog c (zd zwn [0,1,0,1]) (z1kc N) :=
 z6c (s:=SQ24) (m:=12) (z1mu N) [6,2,3,4] N (fun x=>(x.2.1,x.2.2.1)) (fun x=>(x.1,x.2.2.2.1)) (fun i v=>(v.1,i.1,i.2,v.2,())) (fun _=>rfl) (ze hb N (t1_17 N) L_17 zwn TabOk.nil [0,0,1,0,1] _ rfl) (fun i v r K=>by kernel_rfl)
def zj3 (N:Nat)(s:(List Int))(t:(List Int)):Option (List Int):=zpc N s t ([0,0,0,0]:List Int) 0 (fun s1=>some s1)
def t_17 (N:Nat):Tab (List Int):=[([0,1,0,1],z1kc N)]
theorem z1bg (N:Nat)(x:z1d z171):z8t (E_17 N) N (t_17 N) L_17 Tryd.f53 (mkS z171 0 x) (z53 (.v (.arr 4 (.int .u64))) 2)=zj3 N x.1 x.2.1:=by kernel_rfl
def zh7 (N:Nat):List A->Res:=z17 z171 (fun x=>zj3 N x.1 x.2.1) (zag (.v (.arr 4 (.int .u64))) 2)
theorem zpd (N:Nat):Contract Tryd.prog glob 53 (zh7 N) :=
 Contract.of (E:=E_17 N) (H:=t_17 N) (L:=L_17) (N:=N) (body:=zwn) (K:=(z53 (.v (.arr 4 (.int .u64))) 2)) (z1pi N) Tryd.func53 (by kernel_rfl) (by decide) (fun _ hb=>(TabOk.cons (z1h8 hb) TabOk.nil)) (fun x y h=>by rw[z1bg];exact h) (z1p (s:=(.v (.arr 4 (.int .u64)))) (m:=2))
def z1cj:Code:=(Tryd.f48.body).getD .skip
def L_18:List (List Nat×List Nat):=[([0],[2,3,4]),([0,1],[4]),([1,1],[4])]
def E_18 (N:Nat):Env:=z25 tys glob [(53,zh7 N),(54,z9z N)] [] [] [] false [] []
theorem z1ph (N:Nat):EnvOk Tryd.prog (E_18 N):=zg mixed zz (FnsOk.cons (zpd N) (FnsOk.cons (zdx N) (FnsOk.nil))) (ItsOk.nil)
def zay (N:Nat)(s:(List Int))(t:(List Int)):Option (List Int):=(z7j N t).bind fun y=>(zj3 N s y).bind fun y1=>some y1
def t_18 (N:Nat):Tab (List Int):=[]
theorem z1bf (N:Nat)(x:z1d z171):z8t (E_18 N) N (t_18 N) L_18 Tryd.f48 (mkS z171 0 x) (z53 (.v (.arr 4 (.int .u64))) 2)=zay N x.1 x.2.1:=by kernel_rfl
def zg0 (N:Nat):List A->Res:=z17 z171 (fun x=>zay N x.1 x.2.1) (zag (.v (.arr 4 (.int .u64))) 2)
theorem zoe (N:Nat):Contract Tryd.prog glob 48 (zg0 N) :=
 Contract.of (E:=E_18 N) (H:=t_18 N) (L:=L_18) (N:=N) (body:=z1cj) (K:=(z53 (.v (.arr 4 (.int .u64))) 2)) (z1ph N) Tryd.func48 (by kernel_rfl) (by decide) (fun _ hb=>TabOk.nil) (fun x y h=>by rw[z1bf];exact h) (z1p (s:=(.v (.arr 4 (.int .u64)))) (m:=2))
def zd6:Code:=(Tryd.f39.body).getD .skip
def z1d3:List (List Nat×List Nat):=[([0],[1]),([0,1],[1,3]),([0,0,1,1],[4,1,3]),([0,1,0,1,1],[4,1,3]),([0,0,0,0,1,0,1,1],[9,4,1,3]),([1,0,0,0,1,0,1,1],[4,1,3]),([1,1,0,0,0,1,0,1,1],[3]),([0,0,0,1,0,0,1,0,1,1],[5,1,4,3]),(PQ74,[5,1,4,3]),([0,0,0,0,0,1,0,0,1,0,0,1,0,1,1],[21,5,1,4,3]),([1,0,0,0,0,1,0,0,1,0,0,1,0,1,1],[5,1,4,3]),([1,1,0,0,0,0,1,0,0,1,0,0,1,0,1,1],[4,5,3,1]),([0,1,0,0,0,1,0,0,1,0,0,1,0,1,1],[5,1,4,3]),([1,0,0,0,1,0,0,1,0,0,1,0,1,1],[5,1,4,3]),(z1ns,[4,5,3,1]),([0,1,1,0,0,1,0,0,1,0,1,1],[1,4,5,3]),([1,1,1,0,0,1,0,0,1,0,1,1],[1,3]),(zyy,[1,3]),([1,1,0,0,1,0,1,1],[4,1,3]),([1,0,1,1],[3]),([0,1,1,1],[2]),([1,1,1,1],[2])]
def z18k (N:Nat):Env:=z25 tys glob [(48,zg0 N),(47,zgi N),(46,zh6 N),(37,z2o N),(36,z5i N),(17,z54 N),(19,z112)] [] [] [] false [(3,TT4)] []
theorem z1pg (N:Nat):EnvOk Tryd.prog (z18k N):=zg mixed zz (FnsOk.cons (zoe N) (FnsOk.cons (zox N) (FnsOk.cons (zpb N) (FnsOk.cons (z3r N) (FnsOk.cons (z8v N) (FnsOk.cons ((Contract.up (z5l N) glob)) (FnsOk.cons ((Contract.up (z179 zde) glob)) (FnsOk.nil)))))))) (ItsOk.nil)
def zcc (N:Nat)(s:(List Int))(out:zmu)(lo:Int)(hi:Int)(k0:Option (List UInt8))(k1:Option (List UInt8)):Option (List UInt8):=cond (decide (hi<255)) ((zd5 N s (IntKind.wrap IntKind.u8 (IntKind.wrap IntKind.i64 (hi+1)))).bind fun y=>cond y k0 k1) k1
def z1kl (N:Nat)(x:z1d SQ7)(K:Ex->List A->Option (List UInt8)):Option (List UInt8):=zcc N x.1 x.2.1 x.2.2.1 x.2.2.2.1 (K .normal (mkS SQ7 32 (x.1,x.2.1,x.2.2.1,x.2.2.2.1,()))) (K (.exit 2) (mkS SQ7 32 (x.1,x.2.1,x.2.2.1,x.2.2.2.1,())))
def z1i3 (N:Nat):Hd (List UInt8):=fun st K=>(unS SQ7 32 (restr [5,1,4,3] 0 st)).bind fun x=>z1kl N x K
def t5_19 (N:Nat):Tab (List UInt8):=[]
theorem z1ez {N:Nat}{c:Ctx}(hb:Base Tryd.prog (z18k N) c):zq Tryd.prog c (zd zd6 PQ79) (z1i3 N) :=
 zr (s:=SQ7) (m:=32) (g:=z1kl N) [5,1,4,3] (ze hb N (t5_19 N) z1d3 zd6 TabOk.nil PQ79 _ rfl) (fun x K=>by kernel_rfl)
def zca (N:Nat)(s:(List Int))(out:zmu)(lo:Int)(hi:Int)(rec:Int->Option (List UInt8))(k0:Int->Option (List UInt8)):Option (List UInt8):=zcc N s out lo hi (rec (IntKind.wrap IntKind.i64 (hi+1))) (k0 hi)
def zgg (N:Nat)(s:(List Int))(out:zmu)(lo:Int)(hi:Int)(k0:Int->Option (List UInt8)):Option (List UInt8):=iter (fun (v:Int) r=>zca N s out lo v (fun hi=>(r hi)) k0) N hi
def z1kr (N:Nat)(i:((List Int)×zmu×Int))(v:Int)(r:Int->Option (List UInt8))(K:Ex->List A->Option (List UInt8)):Option (List UInt8):=zca N i.1 i.2.1 i.2.2 v (fun hi=>(r hi)) (fun a3=>(K (.exit 2) (mkS SQ7 32 (i.1,i.2.1,i.2.2,a3,()))))
def z1i9 (N:Nat):Hd (List UInt8):=fun st K=>(unS SQ7 32 (restr [5,1,4,3] 0 st)).bind fun x=>iter (fun v r=>z1kr N ((fun x=>(x.1,x.2.1,x.2.2.1)) x) v r K) N ((fun x=>x.2.2.2.1) x)
def t4_19 (N:Nat):Tab (List UInt8):=[(PQ79,z1i3 N)]
theorem z1f5 {N:Nat}{c:Ctx}(hb:Base Tryd.prog (z18k N) c):zq Tryd.prog c (zd zd6 PQ74) (z1i9 N) :=
 z6c (s:=SQ7) (m:=32) (z1kr N) [5,1,4,3] N (fun x=>(x.1,x.2.1,x.2.2.1)) (fun x=>x.2.2.2.1) (fun i v=>(i.1,i.2.1,i.2.2,v,())) (fun _=>rfl) (ze hb N (t4_19 N) z1d3 zd6 (TabOk.cons (z1ez hb) TabOk.nil) [0,0,0,1,0,0,1,0,0,1,0,1,1] _ rfl) (fun i v r K=>by kernel_rfl)
def z9n (N:Nat)(s:(List Int))(out:zmu)(lo:Int)(hi:Int)(k0:Int->Option (List UInt8)):Option (List UInt8):=zgg N s out lo hi (fun hi1=>k0 hi1)
def z1l2 (N:Nat)(x:z1d SQ7)(K:Ex->List A->Option (List UInt8)):Option (List UInt8):=z9n N x.1 x.2.1 x.2.2.1 x.2.2.2.1 (fun a3=>(K .normal (mkS SQ7 32 (x.1,x.2.1,x.2.2.1,a3,()))))
def z1ik (N:Nat):Hd (List UInt8):=fun st K=>(unS SQ7 32 (restr [5,1,4,3] 0 st)).bind fun x=>z1l2 N x K
def t3_19 (N:Nat):Tab (List UInt8):=[(PQ74,z1i9 N)]
theorem z1fg {N:Nat}{c:Ctx}(hb:Base Tryd.prog (z18k N) c):zq Tryd.prog c (zd zd6 z1ns) (z1ik N) :=
 zr (s:=SQ7) (m:=32) (g:=z1l2 N) [5,1,4,3] (ze hb N (t3_19 N) z1d3 zd6 (TabOk.cons (z1f5 hb) TabOk.nil) z1ns _ rfl) (fun x K=>by kernel_rfl)
def z9o (N:Nat)(s:(List Int))(out:zmu)(lo:Int)(k0:(List Int)->zmu->Option (List UInt8)):Option (List UInt8):=z9n N s out lo lo (fun hi=>(zcd N (IntKind.wrap IntKind.u8 lo) (IntKind.wrap IntKind.u8 hi)).bind fun y=>(z1b N out y).bind fun y1=>(z1z N (IntKind.wrap IntKind.u8 lo) (IntKind.wrap IntKind.u8 hi)).bind fun y2=>(zay N s y2).bind fun y3=>k0 y3 y1.2.1)
def z1ln (N:Nat)(x:z1d z1nm)(K:Ex->List A->Option (List UInt8)):Option (List UInt8):=z9o N x.1 x.2.1 x.2.2.1 (fun a0 a1=>(K .normal (mkS [(1,.box (.arr 4 (.int .u64))),(1,.box TT4)] 34 (a0,a1,()))))
def z1j5 (N:Nat):Hd (List UInt8):=fun st K=>(unS z1nm 33 (restr [4,1,3] 0 st)).bind fun x=>z1ln N x K
def t2_19 (N:Nat):Tab (List UInt8):=[(z1ns,z1ik N)]
theorem z1g1 {N:Nat}{c:Ctx}(hb:Base Tryd.prog (z18k N) c):zq Tryd.prog c (zd zd6 zyy) (z1j5 N) :=
 zr (s:=z1nm) (m:=33) (g:=z1ln N) [4,1,3] (ze hb N (t2_19 N) z1d3 zd6 (TabOk.cons (z1fg hb) TabOk.nil) zyy _ rfl) (fun x K=>by kernel_rfl)
def zcb (N:Nat)(s:(List Int))(out:zmu)(lo:Int)(rec:(List Int)->zmu->Int->Option (List UInt8))(k0:zmu->Option (List UInt8)):Option (List UInt8):=cond (decide (0<=lo)) (z9o N s out lo (fun s1 out1=>(z1e N s1).bind fun y=>rec s1 out1 y)) (k0 out)
def zgh (N:Nat)(s:(List Int))(out:zmu)(lo:Int)(k0:zmu->Option (List UInt8)):Option (List UInt8):=iter (fun (v:((List Int)×zmu×Int)) r=>zcb N v.1 v.2.1 v.2.2 (fun s out lo=>(r (s,out,lo))) k0) N (s,out,lo)
def z1mt (N:Nat)(i:Unit)(v:((List Int)×zmu×Int))(r:((List Int)×zmu×Int)->Option (List UInt8))(K:Ex->List A->Option (List UInt8)):Option (List UInt8):=zcb N v.1 v.2.1 v.2.2 (fun s out lo=>(r (s,out,lo))) (fun a0=>(K (.exit 0) (mkS [(3,.box TT4)] 34 (a0,()))))
def z1kb (N:Nat):Hd (List UInt8):=fun st K=>(unS z1nm 33 (restr [4,1,3] 0 st)).bind fun x=>iter (fun v r=>z1mt N ((fun x=>()) x) v r K) N ((fun x=>(x.1,x.2.1,x.2.2.1)) x)
def t1_19 (N:Nat):Tab (List UInt8):=[(zyy,z1j5 N)]
theorem z1h7 {N:Nat}{c:Ctx}(hb:Base Tryd.prog (z18k N) c):zq Tryd.prog c (zd zd6 [0,1,0,1,1]) (z1kb N) :=
 z6c (s:=z1nm) (m:=33) (z1mt N) [4,1,3] N (fun x=>()) (fun x=>(x.1,x.2.1,x.2.2.1)) (fun i v=>(v.1,v.2.1,v.2.2,())) (fun _=>rfl) (ze hb N (t1_19 N) z1d3 zd6 (TabOk.cons (z1g1 hb) TabOk.nil) [0,0,1,0,1,1] _ rfl) (fun i v r K=>by kernel_rfl)
def zak (N:Nat)(s:(List Int)):Option (List UInt8):=(z1e N s).bind fun y=>zgh N s ((),([],())) y (fun out=>(zsh (out,())).bind fun y1=>some y1.1)
def t_19 (N:Nat):Tab (List UInt8):=[([0,1,0,1,1],z1kb N)]
theorem z1be (N:Nat)(x:z1d zsb):z8t (z18k N) N (t_19 N) z1d3 Tryd.f39 (mkS zsb 0 x) (z53 (.v .str) 1)=zak N x.1:=by kernel_rfl
def zfu (N:Nat):List A->Res:=z17 zsb (fun x=>zak N x.1) (zag (.v .str) 1)
theorem zna (N:Nat):Contract Tryd.prog glob 39 (zfu N) :=
 Contract.of (E:=z18k N) (H:=t_19 N) (L:=z1d3) (N:=N) (body:=zd6) (K:=(z53 (.v .str) 1)) (z1pg N) Tryd.func39 (by kernel_rfl) (by decide) (fun _ hb=>(TabOk.cons (z1h7 hb) TabOk.nil)) (fun x y h=>by rw[z1be];exact h) (z1p (s:=(.v .str)) (m:=1))
def z1ci:Code:=(Tryd.f26.body).getD .skip
def L_20:List (List Nat×List Nat):=[([0],[1]),([0,0,0,1],[3,1]),([1,0,0,1],[1]),([0,1,1,0,0,1],[11,1]),([1,1,1,0,0,1],[1]),([0,1,1,1,1,0,0,1],[15,1]),([1,1,1,1,1,0,0,1],[1]),([0,1,1,1,1,1,1,0,0,1],[19,1]),([1,1,1,1,1,1,1,0,0,1],[1]),([0,1,1,1,1,1,1,1,1,0,0,1],[23,1]),([1,1,1,1,1,1,1,1,1,0,0,1],[1]),([0,0,1,1,1,1,1,1,1,1,1,0,0,1],[2]),([1,0,1,1,1,1,1,1,1,1,1,0,0,1],[2]),([0,0,1,1,1,1,1,1,1,0,0,1],[2]),([1,0,1,1,1,1,1,1,1,0,0,1],[2]),([0,0,1,1,1,1,1,0,0,1],[2]),([1,0,1,1,1,1,1,0,0,1],[2]),([0,0,1,1,1,0,0,1],[2]),([1,0,1,1,1,0,0,1],[2]),([0,0,1,0,0,1],[2]),([1,0,1,0,0,1],[2]),([0,1],[1]),([0,1,1],[2]),([1,1,1],[2])]
def E_20 (N:Nat):Env:=z25 tys glob [(39,zfu N),(38,z7s N),(37,z2o N),(11,zb2 N),(36,z5i N),(35,zes N)] [] [] [] false [] []
theorem z1pf (N:Nat):EnvOk Tryd.prog (E_20 N):=zg mixed zz (FnsOk.cons (zna N) (FnsOk.cons (zbb N) (FnsOk.cons (z3r N) (FnsOk.cons (zgl N) (FnsOk.cons (z8v N) (FnsOk.cons (zmb N) (FnsOk.nil))))))) (ItsOk.nil)
def zce (N:Nat)(s:(List Int)):Option (List UInt8):=(za0 N s).bind fun y=>cond (y == 1) ((z1e N s).bind fun y1=>(zal N (IntKind.wrap IntKind.u8 y1)).bind fun y2=>some y2) ((z1z N 0 255).bind fun y3=>cond (eqD (T.arr 4 (T.int IntKind.u64)) s y3) (some ([(46:UInt8)]:List UInt8)) ((z3q N ([(48:UInt8),(49:UInt8),(50:UInt8),(51:UInt8),(52:UInt8),(53:UInt8),(54:UInt8),(55:UInt8),(56:UInt8),(57:UInt8)]:List UInt8)).bind fun y4=>cond (eqD (T.arr 4 (T.int IntKind.u64)) s y4) (some ([(92:UInt8),(100:UInt8)]:List UInt8)) ((z3q N ((48:UInt8)::(49:UInt8)::(50:UInt8)::(51:UInt8)::(52:UInt8)::(53:UInt8)::(54:UInt8)::(55:UInt8)::(56:UInt8)::(57:UInt8)::(65:UInt8)::(66:UInt8)::(67:UInt8)::(68:UInt8)::(69:UInt8)::(70:UInt8)::(71:UInt8)::(72:UInt8)::(73:UInt8)::(74:UInt8)::(75:UInt8)::(76:UInt8)::(77:UInt8)::(78:UInt8)::(79:UInt8)::(80:UInt8)::(81:UInt8)::(82:UInt8)::(83:UInt8)::(84:UInt8)::(85:UInt8)::(86:UInt8)::(87:UInt8)::(88:UInt8)::(89:UInt8)::(90:UInt8)::(95:UInt8)::(97:UInt8)::(98:UInt8)::(99:UInt8)::(100:UInt8)::(101:UInt8)::(102:UInt8)::(103:UInt8)::(104:UInt8)::(105:UInt8)::(106:UInt8)::(107:UInt8)::(108:UInt8)::(109:UInt8)::(110:UInt8)::(111:UInt8)::(112:UInt8)::(113:UInt8)::(114:UInt8)::(115:UInt8)::(116:UInt8)::(117:UInt8)::(118:UInt8)::(119:UInt8)::(120:UInt8)::(121:UInt8)::(122:UInt8)::[])).bind fun y5=>cond (eqD (T.arr 4 (T.int IntKind.u64)) s y5) (some ([(92:UInt8),(119:UInt8)]:List UInt8)) (cond (eqD (T.arr 4 (T.int IntKind.u64)) s ([0,0,0,0]:List Int)) (some ([(91:UInt8),(94:UInt8),(92:UInt8),(120:UInt8),(48:UInt8),(48:UInt8),(45:UInt8),(92:UInt8),(120:UInt8),(102:UInt8),(102:UInt8),(93:UInt8)]:List UInt8)) ((zak N s).bind fun y6=>cond (decide ((1+(List.length y6))<=9223372036854775807)) (cond (decide (((List.length (([(91:UInt8)]:List UInt8)++y6))+1)<=9223372036854775807)) (some ((([(91:UInt8)]:List UInt8)++y6)++([(93:UInt8)]:List UInt8))) none) none)))))
def t_20 (N:Nat):Tab (List UInt8):=[]
theorem z1bd (N:Nat)(x:z1d zsb):z8t (E_20 N) N (t_20 N) L_20 Tryd.f26 (mkS zsb 0 x) (z53 (.v .str) 1)=zce N x.1:=by kernel_rfl
def zgk (N:Nat):List A->Res:=z17 zsb (fun x=>zce N x.1) (zag (.v .str) 1)
theorem zoz (N:Nat):Contract Tryd.prog glob 26 (zgk N) :=
 Contract.of (E:=E_20 N) (H:=t_20 N) (L:=L_20) (N:=N) (body:=z1ci) (K:=(z53 (.v .str) 1)) (z1pf N) Tryd.func26 (by kernel_rfl) (by decide) (fun _ hb=>TabOk.nil) (fun x y h=>by rw[z1bd];exact h) (z1p (s:=(.v .str)) (m:=1))
def z1ch:Code:=(Tryd.f62.body).getD .skip
def L_21:List (List Nat×List Nat):=[([0],[0]),([0,0,1],[4,0]),([1,0,1],[0]),([0,0,1,0,1],[2]),([1,0,1,0,1],[2]),([0,1,1],[2]),([1,1,1],[2])]
def E_21 (N:Nat):Env:=z25 tys glob [] [] [] [] false [] []
theorem z1pe (N:Nat):EnvOk Tryd.prog (E_21 N):=zg mixed zz (FnsOk.nil) (ItsOk.nil)
def z6w (N:Nat)(i:Int):Option (List UInt8):=cond (decide (i<10)) (cond (decide ((0<=(IntKind.wrap IntKind.i64 (i+1)))/\((IntKind.wrap IntKind.i64 (i+1))<=36))) (cond (decide ((0<=i)/\(i<=(IntKind.wrap IntKind.i64 (i+1))))) (some (cut ([(48:UInt8),(49:UInt8),(50:UInt8),(51:UInt8),(52:UInt8),(53:UInt8),(54:UInt8),(55:UInt8),(56:UInt8),(57:UInt8),(97:UInt8),(98:UInt8),(99:UInt8),(100:UInt8),(101:UInt8),(102:UInt8),(103:UInt8),(104:UInt8),(105:UInt8),(106:UInt8),(107:UInt8),(108:UInt8),(109:UInt8),(110:UInt8),(111:UInt8),(112:UInt8),(113:UInt8),(114:UInt8),(115:UInt8),(116:UInt8),(117:UInt8),(118:UInt8),(119:UInt8),(120:UInt8),(121:UInt8),(122:UInt8)]:List UInt8) (Int.toNat i) (Int.toNat (IntKind.wrap IntKind.i64 (i+1))))) none) none) (cond (decide ((0<=(IntKind.wrap IntKind.i64 ((IntKind.wrap IntKind.i64 (i*2))+2)))/\((IntKind.wrap IntKind.i64 ((IntKind.wrap IntKind.i64 (i*2))+2))<=(List.length (List.append (List.append ([(48:UInt8),(48:UInt8),(48:UInt8),(49:UInt8),(48:UInt8),(50:UInt8),(48:UInt8),(51:UInt8),(48:UInt8),(52:UInt8),(48:UInt8),(53:UInt8),(48:UInt8),(54:UInt8),(48:UInt8),(55:UInt8),(48:UInt8),(56:UInt8),(48:UInt8),(57:UInt8),(49:UInt8),(48:UInt8),(49:UInt8),(49:UInt8),(49:UInt8),(50:UInt8),(49:UInt8),(51:UInt8),(49:UInt8),(52:UInt8),(49:UInt8),(53:UInt8),(49:UInt8),(54:UInt8),(49:UInt8),(55:UInt8),(49:UInt8),(56:UInt8),(49:UInt8),(57:UInt8),(50:UInt8),(48:UInt8),(50:UInt8),(49:UInt8),(50:UInt8),(50:UInt8),(50:UInt8),(51:UInt8),(50:UInt8),(52:UInt8)]:List UInt8) ([(50:UInt8),(53:UInt8),(50:UInt8),(54:UInt8),(50:UInt8),(55:UInt8),(50:UInt8),(56:UInt8),(50:UInt8),(57:UInt8),(51:UInt8),(48:UInt8),(51:UInt8),(49:UInt8),(51:UInt8),(50:UInt8),(51:UInt8),(51:UInt8),(51:UInt8),(52:UInt8),(51:UInt8),(53:UInt8),(51:UInt8),(54:UInt8),(51:UInt8),(55:UInt8),(51:UInt8),(56:UInt8),(51:UInt8),(57:UInt8),(52:UInt8),(48:UInt8),(52:UInt8),(49:UInt8),(52:UInt8),(50:UInt8),(52:UInt8),(51:UInt8),(52:UInt8),(52:UInt8),(52:UInt8),(53:UInt8),(52:UInt8),(54:UInt8),(52:UInt8),(55:UInt8),(52:UInt8),(56:UInt8),(52:UInt8),(57:UInt8)]:List UInt8)) (List.append ([(53:UInt8),(48:UInt8),(53:UInt8),(49:UInt8),(53:UInt8),(50:UInt8),(53:UInt8),(51:UInt8),(53:UInt8),(52:UInt8),(53:UInt8),(53:UInt8),(53:UInt8),(54:UInt8),(53:UInt8),(55:UInt8),(53:UInt8),(56:UInt8),(53:UInt8),(57:UInt8),(54:UInt8),(48:UInt8),(54:UInt8),(49:UInt8),(54:UInt8),(50:UInt8),(54:UInt8),(51:UInt8),(54:UInt8),(52:UInt8),(54:UInt8),(53:UInt8),(54:UInt8),(54:UInt8),(54:UInt8),(55:UInt8),(54:UInt8),(56:UInt8),(54:UInt8),(57:UInt8),(55:UInt8),(48:UInt8),(55:UInt8),(49:UInt8),(55:UInt8),(50:UInt8),(55:UInt8),(51:UInt8),(55:UInt8),(52:UInt8)]:List UInt8) ([(55:UInt8),(53:UInt8),(55:UInt8),(54:UInt8),(55:UInt8),(55:UInt8),(55:UInt8),(56:UInt8),(55:UInt8),(57:UInt8),(56:UInt8),(48:UInt8),(56:UInt8),(49:UInt8),(56:UInt8),(50:UInt8),(56:UInt8),(51:UInt8),(56:UInt8),(52:UInt8),(56:UInt8),(53:UInt8),(56:UInt8),(54:UInt8),(56:UInt8),(55:UInt8),(56:UInt8),(56:UInt8),(56:UInt8),(57:UInt8),(57:UInt8),(48:UInt8),(57:UInt8),(49:UInt8),(57:UInt8),(50:UInt8),(57:UInt8),(51:UInt8),(57:UInt8),(52:UInt8),(57:UInt8),(53:UInt8),(57:UInt8),(54:UInt8),(57:UInt8),(55:UInt8),(57:UInt8),(56:UInt8),(57:UInt8),(57:UInt8)]:List UInt8))):Int)))) (cond (decide ((0<=(IntKind.wrap IntKind.i64 (i*2)))/\((IntKind.wrap IntKind.i64 (i*2))<=(IntKind.wrap IntKind.i64 ((IntKind.wrap IntKind.i64 (i*2))+2))))) (some (cut (List.append (List.append ([(48:UInt8),(48:UInt8),(48:UInt8),(49:UInt8),(48:UInt8),(50:UInt8),(48:UInt8),(51:UInt8),(48:UInt8),(52:UInt8),(48:UInt8),(53:UInt8),(48:UInt8),(54:UInt8),(48:UInt8),(55:UInt8),(48:UInt8),(56:UInt8),(48:UInt8),(57:UInt8),(49:UInt8),(48:UInt8),(49:UInt8),(49:UInt8),(49:UInt8),(50:UInt8),(49:UInt8),(51:UInt8),(49:UInt8),(52:UInt8),(49:UInt8),(53:UInt8),(49:UInt8),(54:UInt8),(49:UInt8),(55:UInt8),(49:UInt8),(56:UInt8),(49:UInt8),(57:UInt8),(50:UInt8),(48:UInt8),(50:UInt8),(49:UInt8),(50:UInt8),(50:UInt8),(50:UInt8),(51:UInt8),(50:UInt8),(52:UInt8)]:List UInt8) ([(50:UInt8),(53:UInt8),(50:UInt8),(54:UInt8),(50:UInt8),(55:UInt8),(50:UInt8),(56:UInt8),(50:UInt8),(57:UInt8),(51:UInt8),(48:UInt8),(51:UInt8),(49:UInt8),(51:UInt8),(50:UInt8),(51:UInt8),(51:UInt8),(51:UInt8),(52:UInt8),(51:UInt8),(53:UInt8),(51:UInt8),(54:UInt8),(51:UInt8),(55:UInt8),(51:UInt8),(56:UInt8),(51:UInt8),(57:UInt8),(52:UInt8),(48:UInt8),(52:UInt8),(49:UInt8),(52:UInt8),(50:UInt8),(52:UInt8),(51:UInt8),(52:UInt8),(52:UInt8),(52:UInt8),(53:UInt8),(52:UInt8),(54:UInt8),(52:UInt8),(55:UInt8),(52:UInt8),(56:UInt8),(52:UInt8),(57:UInt8)]:List UInt8)) (List.append ([(53:UInt8),(48:UInt8),(53:UInt8),(49:UInt8),(53:UInt8),(50:UInt8),(53:UInt8),(51:UInt8),(53:UInt8),(52:UInt8),(53:UInt8),(53:UInt8),(53:UInt8),(54:UInt8),(53:UInt8),(55:UInt8),(53:UInt8),(56:UInt8),(53:UInt8),(57:UInt8),(54:UInt8),(48:UInt8),(54:UInt8),(49:UInt8),(54:UInt8),(50:UInt8),(54:UInt8),(51:UInt8),(54:UInt8),(52:UInt8),(54:UInt8),(53:UInt8),(54:UInt8),(54:UInt8),(54:UInt8),(55:UInt8),(54:UInt8),(56:UInt8),(54:UInt8),(57:UInt8),(55:UInt8),(48:UInt8),(55:UInt8),(49:UInt8),(55:UInt8),(50:UInt8),(55:UInt8),(51:UInt8),(55:UInt8),(52:UInt8)]:List UInt8) ([(55:UInt8),(53:UInt8),(55:UInt8),(54:UInt8),(55:UInt8),(55:UInt8),(55:UInt8),(56:UInt8),(55:UInt8),(57:UInt8),(56:UInt8),(48:UInt8),(56:UInt8),(49:UInt8),(56:UInt8),(50:UInt8),(56:UInt8),(51:UInt8),(56:UInt8),(52:UInt8),(56:UInt8),(53:UInt8),(56:UInt8),(54:UInt8),(56:UInt8),(55:UInt8),(56:UInt8),(56:UInt8),(56:UInt8),(57:UInt8),(57:UInt8),(48:UInt8),(57:UInt8),(49:UInt8),(57:UInt8),(50:UInt8),(57:UInt8),(51:UInt8),(57:UInt8),(52:UInt8),(57:UInt8),(53:UInt8),(57:UInt8),(54:UInt8),(57:UInt8),(55:UInt8),(57:UInt8),(56:UInt8),(57:UInt8),(57:UInt8)]:List UInt8))) (Int.toNat (IntKind.wrap IntKind.i64 (i*2))) (Int.toNat (IntKind.wrap IntKind.i64 ((IntKind.wrap IntKind.i64 (i*2))+2))))) none) none)
def t_21 (N:Nat):Tab (List UInt8):=[]
theorem z1bc (N:Nat)(x:z1d [(0,.v (.int .i64))]):z8t (E_21 N) N (t_21 N) L_21 Tryd.f62 (mkS [(0,.v (.int .i64))] 0 x) (z53 (.v .str) 1)=z6w N x.1:=by kernel_rfl
def z7y (N:Nat):List A->Res:=z17 [(0,.v (.int .i64))] (fun x=>z6w N x.1) (zag (.v .str) 1)
theorem zdv (N:Nat):Contract Tryd.prog glob 62 (z7y N) :=
 Contract.of (E:=E_21 N) (H:=t_21 N) (L:=L_21) (N:=N) (body:=z1ch) (K:=(z53 (.v .str) 1)) (z1pe N) Tryd.func62 (by kernel_rfl) (by decide) (fun _ hb=>TabOk.nil) (fun x y h=>by rw[z1bc];exact h) (z1p (s:=(.v .str)) (m:=1))
def zj7:Code:=(Tryd.f72.body).getD .skip
def z1nx:List (List Nat×List Nat):=[([0],[0,2]),([0,0,1],[4,0,2]),([1,0,1],[0,2]),([0,0,1,0,1],[0]),([1,0,1,0,1],[0,2]),([0,0,1,1],[8,0,2]),([1,0,1,1],[0,2]),([0,0,1,0,1,1],[2,0]),([1,0,1,0,1,1],[0,2]),([0,0,1,1,1],[14,0,2]),([1,0,1,1,1],[2,0]),(z1d1,[2,0]),(z1d0,[2,0]),([0,1,1,1,1],[2]),([1,1,1,1,1],[2])]
def z1e3 (N:Nat):Env:=z25 tys glob [] [] [] [] false [] []
theorem z1pd (N:Nat):EnvOk Tryd.prog (z1e3 N):=zg mixed zz (FnsOk.nil) (ItsOk.nil)
def zdi (N:Nat)(x0:Int)(n:Int)(k0:Int->Int->Option Int):Option Int:=cond (decide (4294967296<=x0)) (k0 (z23 IntKind.u64 x0 32) 32) (k0 x0 n)
def z1ms (N:Nat)(x:z1d z10o)(K:Ex->List A->Option Int):Option Int:=zdi N x.1 x.2.1 (fun a0 a1=>(K .normal (mkS z10o 22 (a0,a1,()))))
def z1ka (N:Nat):Hd Int:=fun st K=>(unS z10o 22 (restr [0,2] 0 st)).bind fun x=>z1ms N x K
def t1_22 (N:Nat):Tab Int:=[]
theorem z1h6 {N:Nat}{c:Ctx}(hb:Base Tryd.prog (z1e3 N) c):zq Tryd.prog c (zd zj7 [0,1]) (z1ka N) :=
 zr (s:=z10o) (m:=22) (g:=z1ms N) [0,2] (ze hb N (t1_22 N) z1nx zj7 TabOk.nil [0,1] _ rfl) (fun x K=>by kernel_rfl)
def zdh (N:Nat)(x0:Int)(n:Int)(k0:Int->Int->Option Int):Option Int:=cond (decide (65536<=x0)) (k0 (z23 IntKind.u64 x0 16) (IntKind.wrap IntKind.i64 (n+16))) (k0 x0 n)
def z1lm (N:Nat)(x:z1d z10o)(K:Ex->List A->Option Int):Option Int:=zdh N x.1 x.2.1 (fun a0 a1=>(K .normal (mkS z10o 22 (a0,a1,()))))
def z1j4 (N:Nat):Hd Int:=fun st K=>(unS z10o 22 (restr [0,2] 0 st)).bind fun x=>z1lm N x K
def t2_22 (N:Nat):Tab Int:=[]
theorem z1g0 {N:Nat}{c:Ctx}(hb:Base Tryd.prog (z1e3 N) c):zq Tryd.prog c (zd zj7 [0,1,1]) (z1j4 N) :=
 zr (s:=z10o) (m:=22) (g:=z1lm N) [0,2] (ze hb N (t2_22 N) z1nx zj7 TabOk.nil [0,1,1] _ rfl) (fun x K=>by kernel_rfl)
def zdg (N:Nat)(x0:Int)(n:Int)(k0:Int->Int->Option Int):Option Int:=cond (decide (256<=x0)) (k0 (z23 IntKind.u64 x0 8) (IntKind.wrap IntKind.i64 (n+8))) (k0 x0 n)
def z1l1 (N:Nat)(x:z1d z10o)(K:Ex->List A->Option Int):Option Int:=zdg N x.1 x.2.1 (fun a0 a1=>(K .normal (mkS z10o 22 (a0,a1,()))))
def z1ij (N:Nat):Hd Int:=fun st K=>(unS z10o 22 (restr [0,2] 0 st)).bind fun x=>z1l1 N x K
def t3_22 (N:Nat):Tab Int:=[]
theorem z1ff {N:Nat}{c:Ctx}(hb:Base Tryd.prog (z1e3 N) c):zq Tryd.prog c (zd zj7 [0,1,1,1]) (z1ij N) :=
 zr (s:=z10o) (m:=22) (g:=z1l1 N) [0,2] (ze hb N (t3_22 N) z1nx zj7 TabOk.nil [0,1,1,1] _ rfl) (fun x K=>by kernel_rfl)
def zcy (N:Nat)(x0:Int):Option Int:=zdi N x0 0 (fun x01 n=>zdh N x01 n (fun x02 n1=>zdg N x02 n1 (fun x03 n2=>cond (inR (IntKind.wrap IntKind.u8 x03) (List.length (List.append (List.append ((0:UInt8)::(1:UInt8)::(2:UInt8)::(2:UInt8)::(3:UInt8)::(3:UInt8)::(3:UInt8)::(3:UInt8)::(4:UInt8)::(4:UInt8)::(4:UInt8)::(4:UInt8)::(4:UInt8)::(4:UInt8)::(4:UInt8)::(4:UInt8)::(5:UInt8)::(5:UInt8)::(5:UInt8)::(5:UInt8)::(5:UInt8)::(5:UInt8)::(5:UInt8)::(5:UInt8)::(5:UInt8)::(5:UInt8)::(5:UInt8)::(5:UInt8)::(5:UInt8)::(5:UInt8)::(5:UInt8)::(5:UInt8)::(6:UInt8)::(6:UInt8)::(6:UInt8)::(6:UInt8)::(6:UInt8)::(6:UInt8)::(6:UInt8)::(6:UInt8)::(6:UInt8)::(6:UInt8)::(6:UInt8)::(6:UInt8)::(6:UInt8)::(6:UInt8)::(6:UInt8)::(6:UInt8)::(6:UInt8)::(6:UInt8)::(6:UInt8)::(6:UInt8)::(6:UInt8)::(6:UInt8)::(6:UInt8)::(6:UInt8)::(6:UInt8)::(6:UInt8)::(6:UInt8)::(6:UInt8)::(6:UInt8)::(6:UInt8)::(6:UInt8)::(6:UInt8)::[]) ((7:UInt8)::(7:UInt8)::(7:UInt8)::(7:UInt8)::(7:UInt8)::(7:UInt8)::(7:UInt8)::(7:UInt8)::(7:UInt8)::(7:UInt8)::(7:UInt8)::(7:UInt8)::(7:UInt8)::(7:UInt8)::(7:UInt8)::(7:UInt8)::(7:UInt8)::(7:UInt8)::(7:UInt8)::(7:UInt8)::(7:UInt8)::(7:UInt8)::(7:UInt8)::(7:UInt8)::(7:UInt8)::(7:UInt8)::(7:UInt8)::(7:UInt8)::(7:UInt8)::(7:UInt8)::(7:UInt8)::(7:UInt8)::(7:UInt8)::(7:UInt8)::(7:UInt8)::(7:UInt8)::(7:UInt8)::(7:UInt8)::(7:UInt8)::(7:UInt8)::(7:UInt8)::(7:UInt8)::(7:UInt8)::(7:UInt8)::(7:UInt8)::(7:UInt8)::(7:UInt8)::(7:UInt8)::(7:UInt8)::(7:UInt8)::(7:UInt8)::(7:UInt8)::(7:UInt8)::(7:UInt8)::(7:UInt8)::(7:UInt8)::(7:UInt8)::(7:UInt8)::(7:UInt8)::(7:UInt8)::(7:UInt8)::(7:UInt8)::(7:UInt8)::(7:UInt8)::[])) (List.append ((8:UInt8)::(8:UInt8)::(8:UInt8)::(8:UInt8)::(8:UInt8)::(8:UInt8)::(8:UInt8)::(8:UInt8)::(8:UInt8)::(8:UInt8)::(8:UInt8)::(8:UInt8)::(8:UInt8)::(8:UInt8)::(8:UInt8)::(8:UInt8)::(8:UInt8)::(8:UInt8)::(8:UInt8)::(8:UInt8)::(8:UInt8)::(8:UInt8)::(8:UInt8)::(8:UInt8)::(8:UInt8)::(8:UInt8)::(8:UInt8)::(8:UInt8)::(8:UInt8)::(8:UInt8)::(8:UInt8)::(8:UInt8)::(8:UInt8)::(8:UInt8)::(8:UInt8)::(8:UInt8)::(8:UInt8)::(8:UInt8)::(8:UInt8)::(8:UInt8)::(8:UInt8)::(8:UInt8)::(8:UInt8)::(8:UInt8)::(8:UInt8)::(8:UInt8)::(8:UInt8)::(8:UInt8)::(8:UInt8)::(8:UInt8)::(8:UInt8)::(8:UInt8)::(8:UInt8)::(8:UInt8)::(8:UInt8)::(8:UInt8)::(8:UInt8)::(8:UInt8)::(8:UInt8)::(8:UInt8)::(8:UInt8)::(8:UInt8)::(8:UInt8)::(8:UInt8)::[]) ((8:UInt8)::(8:UInt8)::(8:UInt8)::(8:UInt8)::(8:UInt8)::(8:UInt8)::(8:UInt8)::(8:UInt8)::(8:UInt8)::(8:UInt8)::(8:UInt8)::(8:UInt8)::(8:UInt8)::(8:UInt8)::(8:UInt8)::(8:UInt8)::(8:UInt8)::(8:UInt8)::(8:UInt8)::(8:UInt8)::(8:UInt8)::(8:UInt8)::(8:UInt8)::(8:UInt8)::(8:UInt8)::(8:UInt8)::(8:UInt8)::(8:UInt8)::(8:UInt8)::(8:UInt8)::(8:UInt8)::(8:UInt8)::(8:UInt8)::(8:UInt8)::(8:UInt8)::(8:UInt8)::(8:UInt8)::(8:UInt8)::(8:UInt8)::(8:UInt8)::(8:UInt8)::(8:UInt8)::(8:UInt8)::(8:UInt8)::(8:UInt8)::(8:UInt8)::(8:UInt8)::(8:UInt8)::(8:UInt8)::(8:UInt8)::(8:UInt8)::(8:UInt8)::(8:UInt8)::(8:UInt8)::(8:UInt8)::(8:UInt8)::(8:UInt8)::(8:UInt8)::(8:UInt8)::(8:UInt8)::(8:UInt8)::(8:UInt8)::(8:UInt8)::(8:UInt8)::[]))))) (some (IntKind.wrap IntKind.i64 (n2+(IntKind.wrap IntKind.i64 (((UInt8.toNat (List.getD (List.append (List.append ((0:UInt8)::(1:UInt8)::(2:UInt8)::(2:UInt8)::(3:UInt8)::(3:UInt8)::(3:UInt8)::(3:UInt8)::(4:UInt8)::(4:UInt8)::(4:UInt8)::(4:UInt8)::(4:UInt8)::(4:UInt8)::(4:UInt8)::(4:UInt8)::(5:UInt8)::(5:UInt8)::(5:UInt8)::(5:UInt8)::(5:UInt8)::(5:UInt8)::(5:UInt8)::(5:UInt8)::(5:UInt8)::(5:UInt8)::(5:UInt8)::(5:UInt8)::(5:UInt8)::(5:UInt8)::(5:UInt8)::(5:UInt8)::(6:UInt8)::(6:UInt8)::(6:UInt8)::(6:UInt8)::(6:UInt8)::(6:UInt8)::(6:UInt8)::(6:UInt8)::(6:UInt8)::(6:UInt8)::(6:UInt8)::(6:UInt8)::(6:UInt8)::(6:UInt8)::(6:UInt8)::(6:UInt8)::(6:UInt8)::(6:UInt8)::(6:UInt8)::(6:UInt8)::(6:UInt8)::(6:UInt8)::(6:UInt8)::(6:UInt8)::(6:UInt8)::(6:UInt8)::(6:UInt8)::(6:UInt8)::(6:UInt8)::(6:UInt8)::(6:UInt8)::(6:UInt8)::[]) ((7:UInt8)::(7:UInt8)::(7:UInt8)::(7:UInt8)::(7:UInt8)::(7:UInt8)::(7:UInt8)::(7:UInt8)::(7:UInt8)::(7:UInt8)::(7:UInt8)::(7:UInt8)::(7:UInt8)::(7:UInt8)::(7:UInt8)::(7:UInt8)::(7:UInt8)::(7:UInt8)::(7:UInt8)::(7:UInt8)::(7:UInt8)::(7:UInt8)::(7:UInt8)::(7:UInt8)::(7:UInt8)::(7:UInt8)::(7:UInt8)::(7:UInt8)::(7:UInt8)::(7:UInt8)::(7:UInt8)::(7:UInt8)::(7:UInt8)::(7:UInt8)::(7:UInt8)::(7:UInt8)::(7:UInt8)::(7:UInt8)::(7:UInt8)::(7:UInt8)::(7:UInt8)::(7:UInt8)::(7:UInt8)::(7:UInt8)::(7:UInt8)::(7:UInt8)::(7:UInt8)::(7:UInt8)::(7:UInt8)::(7:UInt8)::(7:UInt8)::(7:UInt8)::(7:UInt8)::(7:UInt8)::(7:UInt8)::(7:UInt8)::(7:UInt8)::(7:UInt8)::(7:UInt8)::(7:UInt8)::(7:UInt8)::(7:UInt8)::(7:UInt8)::(7:UInt8)::[])) (List.append ((8:UInt8)::(8:UInt8)::(8:UInt8)::(8:UInt8)::(8:UInt8)::(8:UInt8)::(8:UInt8)::(8:UInt8)::(8:UInt8)::(8:UInt8)::(8:UInt8)::(8:UInt8)::(8:UInt8)::(8:UInt8)::(8:UInt8)::(8:UInt8)::(8:UInt8)::(8:UInt8)::(8:UInt8)::(8:UInt8)::(8:UInt8)::(8:UInt8)::(8:UInt8)::(8:UInt8)::(8:UInt8)::(8:UInt8)::(8:UInt8)::(8:UInt8)::(8:UInt8)::(8:UInt8)::(8:UInt8)::(8:UInt8)::(8:UInt8)::(8:UInt8)::(8:UInt8)::(8:UInt8)::(8:UInt8)::(8:UInt8)::(8:UInt8)::(8:UInt8)::(8:UInt8)::(8:UInt8)::(8:UInt8)::(8:UInt8)::(8:UInt8)::(8:UInt8)::(8:UInt8)::(8:UInt8)::(8:UInt8)::(8:UInt8)::(8:UInt8)::(8:UInt8)::(8:UInt8)::(8:UInt8)::(8:UInt8)::(8:UInt8)::(8:UInt8)::(8:UInt8)::(8:UInt8)::(8:UInt8)::(8:UInt8)::(8:UInt8)::(8:UInt8)::(8:UInt8)::[]) ((8:UInt8)::(8:UInt8)::(8:UInt8)::(8:UInt8)::(8:UInt8)::(8:UInt8)::(8:UInt8)::(8:UInt8)::(8:UInt8)::(8:UInt8)::(8:UInt8)::(8:UInt8)::(8:UInt8)::(8:UInt8)::(8:UInt8)::(8:UInt8)::(8:UInt8)::(8:UInt8)::(8:UInt8)::(8:UInt8)::(8:UInt8)::(8:UInt8)::(8:UInt8)::(8:UInt8)::(8:UInt8)::(8:UInt8)::(8:UInt8)::(8:UInt8)::(8:UInt8)::(8:UInt8)::(8:UInt8)::(8:UInt8)::(8:UInt8)::(8:UInt8)::(8:UInt8)::(8:UInt8)::(8:UInt8)::(8:UInt8)::(8:UInt8)::(8:UInt8)::(8:UInt8)::(8:UInt8)::(8:UInt8)::(8:UInt8)::(8:UInt8)::(8:UInt8)::(8:UInt8)::(8:UInt8)::(8:UInt8)::(8:UInt8)::(8:UInt8)::(8:UInt8)::(8:UInt8)::(8:UInt8)::(8:UInt8)::(8:UInt8)::(8:UInt8)::(8:UInt8)::(8:UInt8)::(8:UInt8)::(8:UInt8)::(8:UInt8)::(8:UInt8)::(8:UInt8)::[]))) (Int.toNat (IntKind.wrap IntKind.u8 x03)) (0:UInt8))):Nat):Int))))) none)))
def t_22 (N:Nat):Tab Int:=[([0,1],z1ka N),([0,1,1],z1j4 N),([0,1,1,1],z1ij N)]
theorem z1bb (N:Nat)(x:z1d [(0,.v (.int .u64))]):z8t (z1e3 N) N (t_22 N) z1nx Tryd.f72 (mkS [(0,.v (.int .u64))] 0 x) (z53 (.v (.int .i64)) 1)=zcy N x.1:=by kernel_rfl
def zcx (N:Nat):List A->Res:=z17 [(0,.v (.int .u64))] (fun x=>zcy N x.1) (zag (.v (.int .i64)) 1)
theorem zjv (N:Nat):Contract Tryd.prog glob 72 (zcx N) :=
 Contract.of (E:=z1e3 N) (H:=t_22 N) (L:=z1nx) (N:=N) (body:=zj7) (K:=(z53 (.v (.int .i64)) 1)) (z1pd N) Tryd.func72 (by kernel_rfl) (by decide) (fun _ hb=>(TabOk.cons (z1h6 hb) (TabOk.cons (z1g0 hb) (TabOk.cons (z1ff hb) TabOk.nil)))) (fun x y h=>by rw[z1bb];exact h) (z1p (s:=(.v (.int .i64))) (m:=1))
def z1cg:Code:=(Tryd.f71.body).getD .skip
def L_23:List (List Nat×List Nat):=[([0],[0]),([0,1],[2]),([1,1],[2])]
def E_23 (N:Nat):Env:=z25 tys glob [] [] [] [] false [] []
theorem z1pc (N:Nat):EnvOk Tryd.prog (E_23 N):=zg mixed zz (FnsOk.nil) (ItsOk.nil)
def z7z (N:Nat)(x0:Int):Option Int:=some (z23 IntKind.i64 (IntKind.wrap IntKind.i64 (x0*78913)) 18)
def t_23 (N:Nat):Tab Int:=[]
theorem z1ba (N:Nat)(x:z1d [(0,.v (.int .i64))]):z8t (E_23 N) N (t_23 N) L_23 Tryd.f71 (mkS [(0,.v (.int .i64))] 0 x) (z53 (.v (.int .i64)) 1)=z7z N x.1:=by kernel_rfl
def z5p (N:Nat):List A->Res:=z17 [(0,.v (.int .i64))] (fun x=>z7z N x.1) (zag (.v (.int .i64)) 1)
theorem zb5 (N:Nat):Contract Tryd.prog glob 71 (z5p N) :=
 Contract.of (E:=E_23 N) (H:=t_23 N) (L:=L_23) (N:=N) (body:=z1cg) (K:=(z53 (.v (.int .i64)) 1)) (z1pc N) Tryd.func71 (by kernel_rfl) (by decide) (fun _ hb=>TabOk.nil) (fun x y h=>by rw[z1ba];exact h) (z1p (s:=(.v (.int .i64))) (m:=1))
def z1cf:Code:=(Tryd.f73.body).getD .skip
def L_24:List (List Nat×List Nat):=[([0],[0]),([0,0,1],[3]),([1,0,1],[]),([0,0,1,0,1],[2]),([1,0,1,0,1],[2]),([0,1,1],[2]),([1,1,1],[2])]
def E_24 (N:Nat):Env:=z25 tys glob [] [] [] [] false [] []
theorem z1pb (N:Nat):EnvOk Tryd.prog (E_24 N):=zg mixed zz (FnsOk.nil) (ItsOk.nil)
def z80 (N:Nat)(b:Bool):Option Int:=cond b (some 1) (some 0)
def t_24 (N:Nat):Tab Int:=[]
theorem z1b9 (N:Nat)(x:z1d [(0,.v .bool)]):z8t (E_24 N) N (t_24 N) L_24 Tryd.f73 (mkS [(0,.v .bool)] 0 x) (z53 (.v (.int .i64)) 1)=z80 N x.1:=by kernel_rfl
def z5q (N:Nat):List A->Res:=z17 [(0,.v .bool)] (fun x=>z80 N x.1) (zag (.v (.int .i64)) 1)
theorem zb6 (N:Nat):Contract Tryd.prog glob 73 (z5q N) :=
 Contract.of (E:=E_24 N) (H:=t_24 N) (L:=L_24) (N:=N) (body:=z1cf) (K:=(z53 (.v (.int .i64)) 1)) (z1pb N) Tryd.func73 (by kernel_rfl) (by decide) (fun _ hb=>TabOk.nil) (fun x y h=>by rw[z1b9];exact h) (z1p (s:=(.v (.int .i64))) (m:=1))
def z1ce:Code:=(Tryd.f63.body).getD .skip
def L_25:List (List Nat×List Nat):=[([0],[0]),([0,1],[3,0]),([0,1,1],[2]),([1,1,1],[2])]
def E_25 (N:Nat):Env:=z25 tys glob [(73,z5q N),(71,z5p N),(72,zcx N)] [] [] [] false [] []
theorem z1pa (N:Nat):EnvOk Tryd.prog (E_25 N):=zg mixed zz (FnsOk.cons (zb6 N) (FnsOk.cons (zb5 N) (FnsOk.cons (zjv N) (FnsOk.nil)))) (ItsOk.nil)
def z4r (N:Nat)(d:Int):Option Int:=(zcy N d).bind fun y=>none
def t_25 (N:Nat):Tab Int:=[]
theorem z1b8 (N:Nat)(x:z1d [(0,.v (.int .u64))]):z8t (E_25 N) N (t_25 N) L_25 Tryd.f63 (mkS [(0,.v (.int .u64))] 0 x) (z53 (.v (.int .i64)) 1)=z4r N x.1:=by kernel_rfl
def z5o (N:Nat):List A->Res:=z17 [(0,.v (.int .u64))] (fun x=>z4r N x.1) (zag (.v (.int .i64)) 1)
theorem zb4 (N:Nat):Contract Tryd.prog glob 63 (z5o N) :=
 Contract.of (E:=E_25 N) (H:=t_25 N) (L:=L_25) (N:=N) (body:=z1ce) (K:=(z53 (.v (.int .i64)) 1)) (z1pa N) Tryd.func63 (by kernel_rfl) (by decide) (fun _ hb=>TabOk.nil) (fun x y h=>by rw[z1b8];exact h) (z1p (s:=(.v (.int .i64))) (m:=1))
def zj6:Code:=(Tryd.f55.body).getD .skip
def z1nw:List (List Nat×List Nat):=[([0],[1,0]),([0,0,1],[11,0,1]),([1,0,1],[0,1]),([0,0,0,1,0,1],[17,0]),([1,0,0,1,0,1],[0]),([0,0,1,0,0,1,0,1],[4]),(z1dt,[4]),([0,1,0,1,0,1],[0,5]),([0,1,1,0,1,0,1],[0,6,5]),([0,0,1,1,1,0,1,0,1],[23,6,5,0]),([1,0,1,1,1,0,1,0,1],[6,5,0]),([0,1,0,1,1,1,0,1,0,1],[6,5,0]),([0,1,1,1,1,0,1,0,1],[7,5,6,0]),([0,1,1,1,1,1,0,1,0,1],[0,5,7]),([0,0,1,1,1,1,1,1,0,1,0,1],[34,5,7]),([1,0,1,1,1,1,1,1,0,1,0,1],[7,5]),([0,0,1,0,1,1,1,1,1,1,0,1,0,1],[7,5]),([0,1,0,1,0,1,1,1,1,1,1,0,1,0,1],[4]),([1,1,0,1,0,1,1,1,1,1,1,0,1,0,1],[4]),([0,1,1,1,1,1,1,1,0,1,0,1],[4]),([1,1,1,1,1,1,1,1,0,1,0,1],[4]),([0,1,1],[9]),([0,1,1,1],[4]),([1,1,1,1],[4])]
def z1e2 (N:Nat):Env:=z25 tys glob [(63,z5o N),(62,z7y N)] [(8,(.int .u8))] [] [] false [] []
theorem z1p9 (N:Nat):EnvOk Tryd.prog (z1e2 N):=zg mixed zz (FnsOk.cons (zb4 N) (FnsOk.cons (zdv N) (FnsOk.nil))) (ItsOk.nil)
def z6l (N:Nat)(i:Int)(k0:Bool->Option (List UInt8)):Option (List UInt8):=cond (decide (0<=i)) (k0 (decide (i<100))) (k0 false)
def z1ll (N:Nat)(x:z1d [(0,.v (.int .i64))])(K:Ex->List A->Option (List UInt8)):Option (List UInt8):=z6l N x.1 (fun a1=>(K .normal (mkS [(0,.v (.int .i64)),(16,.v .bool)] 36 (x.1,a1,()))))
def z1j3 (N:Nat):Hd (List UInt8):=fun st K=>(unS [(0,.v (.int .i64))] 53 (restr [0] 0 st)).bind fun x=>z1ll N x K
def t2_29 (N:Nat):Tab (List UInt8):=[]
theorem z1fz {N:Nat}{c:Ctx}(hb:Base Tryd.prog (z1e2 N) c):zq Tryd.prog c (zd zj6 [0,0,0,1,0,1]) (z1j3 N) :=
 zr (s:=[(0,.v (.int .i64))]) (m:=53) (g:=z1ll N) [0] (ze hb N (t2_29 N) z1nw zj6 TabOk.nil [0,0,0,1,0,1] _ rfl) (fun x K=>by kernel_rfl)
def z6m (N:Nat)(i:Int)(k0:(List UInt8)->Option (List UInt8))(k1:Option (List UInt8)):Option (List UInt8):=z6l N i (fun x17=>cond x17 ((z6w N i).bind fun y=>k0 y) k1)
def z1mr (N:Nat)(x:z1d [(0,.v (.int .i64))])(K:Ex->List A->Option (List UInt8)):Option (List UInt8):=z6m N x.1 (fun a0=>(K .ret (mkS [(4,.v .str)] 49 (a0,())))) (K .normal (mkS [(0,.v (.int .i64))] 53 (x.1,())))
def z1k9 (N:Nat):Hd (List UInt8):=fun st K=>(unS [(0,.v (.int .i64))] 53 (restr [0] 0 st)).bind fun x=>z1mr N x K
def t1_29 (N:Nat):Tab (List UInt8):=[([0,0,0,1,0,1],z1j3 N)]
theorem z1h5 {N:Nat}{c:Ctx}(hb:Base Tryd.prog (z1e2 N) c):zq Tryd.prog c (zd zj6 [0,0,1,0,1]) (z1k9 N) :=
 zr (s:=[(0,.v (.int .i64))]) (m:=53) (g:=z1mr N) [0] (ze hb N (t1_29 N) z1nw zj6 (TabOk.cons (z1fz hb) TabOk.nil) [0,0,1,0,1] _ rfl) (fun x K=>by kernel_rfl)
def z6k (N:Nat)(i:Int)(a:(List Int))(u:Int)(k0:Int->Option (List UInt8)):Option (List UInt8):=cond (decide (i<0)) (k0 (IntKind.wrap IntKind.u64 (0 - u))) (k0 u)
def z1l0 (N:Nat)(x:z1d SQ43)(K:Ex->List A->Option (List UInt8)):Option (List UInt8):=z6k N x.1 x.2.1 x.2.2.1 (fun a2=>(K .normal (mkS SQ43 47 (x.1,x.2.1,a2,()))))
def z1ii (N:Nat):Hd (List UInt8):=fun st K=>(unS SQ43 47 (restr [0,6,5] 0 st)).bind fun x=>z1l0 N x K
def t3_29 (N:Nat):Tab (List UInt8):=[]
theorem z1fe {N:Nat}{c:Ctx}(hb:Base Tryd.prog (z1e2 N) c):zq Tryd.prog c (zd zj6 [0,1,1,1,0,1,0,1]) (z1ii N) :=
 zr (s:=SQ43) (m:=47) (g:=z1l0 N) [0,6,5] (ze hb N (t3_29 N) z1nw zj6 TabOk.nil [0,1,1,1,0,1,0,1] _ rfl) (fun x K=>by kernel_rfl)
def z4s (N:Nat)(i:Int)(base:Int):Option (List UInt8):=cond (base == 10) (z6m N i (fun x4=>some x4) (z6k N i ([0,0,0,0,0,0,0,0,0,0,0,0,0,0,0,0,0,0,0,0,0,0,0,0]:List Int) (IntKind.wrap IntKind.u64 i) (fun u=>(z4r N u).bind fun y=>none))) none
def t_29 (N:Nat):Tab (List UInt8):=[([0,0,1,0,1],z1k9 N),([0,1,1,1,0,1,0,1],z1ii N)]
theorem z1b7 (N:Nat)(x:z1d zuh):z8t (z1e2 N) N (t_29 N) z1nw Tryd.f55 (mkS zuh 0 x) (z53 (.v .str) 2)=z4s N x.1 x.2.1:=by kernel_rfl
def z5r (N:Nat):List A->Res:=z17 zuh (fun x=>z4s N x.1 x.2.1) (zag (.v .str) 2)
theorem zb7 (N:Nat):Contract Tryd.prog glob 55 (z5r N) :=
 Contract.of (E:=z1e2 N) (H:=t_29 N) (L:=z1nw) (N:=N) (body:=zj6) (K:=(z53 (.v .str) 2)) (z1p9 N) Tryd.func55 (by kernel_rfl) (by decide) (fun _ hb=>(TabOk.cons (z1h5 hb) (TabOk.cons (z1fe hb) TabOk.nil))) (fun x y h=>by rw[z1b7];exact h) (z1p (s:=(.v .str)) (m:=2))
def z1cd:Code:=(Tryd.f49.body).getD .skip
def L_30:List (List Nat×List Nat):=[([0],[0]),([0,1],[2]),([1,1],[2])]
def E_30 (N:Nat):Env:=z25 tys glob [(55,z5r N)] [] [] [] false [] []
theorem z1p8 (N:Nat):EnvOk Tryd.prog (E_30 N):=zg mixed zz (FnsOk.cons (zb7 N) (FnsOk.nil)) (ItsOk.nil)
def z7h (N:Nat)(i:Int):Option (List UInt8):=(z4s N i 10).bind fun y=>some y
def t_30 (N:Nat):Tab (List UInt8):=[]
theorem z1b6 (N:Nat)(x:z1d [(0,.v (.int .i64))]):z8t (E_30 N) N (t_30 N) L_30 Tryd.f49 (mkS [(0,.v (.int .i64))] 0 x) (z53 (.v .str) 1)=z7h N x.1:=by kernel_rfl
def z8r (N:Nat):List A->Res:=z17 [(0,.v (.int .i64))] (fun x=>z7h N x.1) (zag (.v .str) 1)
theorem zek (N:Nat):Contract Tryd.prog glob 49 (z8r N) :=
 Contract.of (E:=E_30 N) (H:=t_30 N) (L:=L_30) (N:=N) (body:=z1cd) (K:=(z53 (.v .str) 1)) (z1p8 N) Tryd.func49 (by kernel_rfl) (by decide) (fun _ hb=>TabOk.nil) (fun x y h=>by rw[z1b6];exact h) (z1p (s:=(.v .str)) (m:=1))
def z1cc:Code:=(Tryd.f40.body).getD .skip
def L_31:List (List Nat×List Nat):=[([0],[0]),([0,1],[2]),([1,1],[2])]
def E_31 (N:Nat):Env:=z25 tys glob [(49,z8r N)] [] [] [] false [] []
theorem z1p7 (N:Nat):EnvOk Tryd.prog (E_31 N):=zg mixed zz (FnsOk.cons (zek N) (FnsOk.nil)) (ItsOk.nil)
def zdb (N:Nat)(i:Int):Option (List UInt8):=(z7h N i).bind fun y=>some y
def t_31 (N:Nat):Tab (List UInt8):=[]
theorem z1b5 (N:Nat)(x:z1d [(0,.v (.int .i64))]):z8t (E_31 N) N (t_31 N) L_31 Tryd.f40 (mkS [(0,.v (.int .i64))] 0 x) (z53 (.v .str) 1)=zdb N x.1:=by kernel_rfl
def zfq (N:Nat):List A->Res:=z17 [(0,.v (.int .i64))] (fun x=>zdb N x.1) (zag (.v .str) 1)
theorem zmx (N:Nat):Contract Tryd.prog glob 40 (zfq N) :=
 Contract.of (E:=E_31 N) (H:=t_31 N) (L:=L_31) (N:=N) (body:=z1cc) (K:=(z53 (.v .str) 1)) (z1p7 N) Tryd.func40 (by kernel_rfl) (by decide) (fun _ hb=>TabOk.nil) (fun x y h=>by rw[z1b5];exact h) (z1p (s:=(.v .str)) (m:=1))
def zop:Code:=(Tryd.f27.body).getD .skip
def L_32:List (List Nat×List Nat):=[([0],[0,1]),([0,0,1],[9,8,0,1]),([0,1,0,1],[9,8,0,1]),([0,0,0,1,0,1],[10,8,9,0,1]),([0,1,0,0,1,0,1],[8,9,0,1]),(z1dt,[0,1]),(z1nq,[6,0,1,9,8]),(z1nr,[21,6,9,8,0,1]),([1,1,0,0,1,1,0,0,1,0,1],[9,8,0,1]),([0,0,1,1,0,0,1,1,0,0,1,0,1],[4]),([1,0,1,1,0,0,1,1,0,0,1,0,1],[4]),(z1np,[9,8,0,1]),(z1no,[9,8,0,1]),([1,0,1],[0,1]),([0,1,1],[1,0,7]),([0,0,1,1,1],[0,28,7,1]),(z1d1,[29,7,28,1]),(z1d0,[7,1]),([0,1,1,0,1,0,1,1,1],[34,7,1]),([1,1,1,0,1,0,1,1,1],[7,1]),([0,0,1,1,1,0,1,0,1,1,1],[4]),([1,0,1,1,1,0,1,0,1,1,1],[4]),([0,0,1,0,1,0,1,1,1],[4]),([1,0,1,0,1,0,1,1,1],[4]),([1,0,1,1,1],[7,1]),([0,1,1,1,1],[4]),([1,1,1,1,1],[4])]
def z1pz (N:Nat):Env:=z25 tys glob [(40,zfq N)] [] [] [] false [] []
theorem z1p6 (N:Nat):EnvOk Tryd.prog (z1pz N):=zg mixed zz (FnsOk.cons (zmx N) (FnsOk.nil)) (ItsOk.nil)
def zft (N:Nat)(low:Int)(high:Int)(row:(Int×(Int×((List UInt8)×Unit))))(x8:(List (Int×(Int×((List UInt8)×Unit)))))(x9:Int)(k0:Bool->Option (List UInt8)):Option (List UInt8):=cond (row.1 == low) (k0 (row.2.1 == high)) (k0 false)
def z1lk (N:Nat)(x:z1d SQ41)(K:Ex->List A->Option (List UInt8)):Option (List UInt8):=zft N x.1 x.2.1 x.2.2.1 x.2.2.2.1 x.2.2.2.2.1 (fun a5=>(K .normal (mkS [(0,.v (.int .i64)),(0,.v (.int .i64)),(4,.box TT9),(1,.v (.arr 3 TT9)),(0,.v (.int .i64)),(11,.v .bool)] 22 (x.1,x.2.1,x.2.2.1,x.2.2.2.1,x.2.2.2.2.1,a5,()))))
def z1j2 (N:Nat):Hd (List UInt8):=fun st K=>(unS SQ41 34 (restr [6,0,1,9,8] 0 st)).bind fun x=>z1lk N x K
def t2_32 (N:Nat):Tab (List UInt8):=[]
theorem z1fy {N:Nat}{c:Ctx}(hb:Base Tryd.prog (z1pz N) c):zq Tryd.prog c (zd zop z1nr) (z1j2 N) :=
 zr (s:=SQ41) (m:=34) (g:=z1lk N) [6,0,1,9,8] (ze hb N (t2_32 N) L_32 zop TabOk.nil z1nr _ rfl) (fun x K=>by kernel_rfl)
def zfs (N:Nat)(low:Int)(high:Int)(x8:(List (Int×(Int×((List UInt8)×Unit)))))(x9:Int)(rec:Int->Option (List UInt8))(k0:(List UInt8)->Option (List UInt8))(k1:Option (List UInt8)):Option (List UInt8):=cond (decide (x9<3)) (cond (inR x9 3) (zft N low high (List.getD x8 (Int.toNat x9) (0,(0,([],())))) x8 x9 (fun x21=>cond x21 (k0 (List.getD x8 (Int.toNat x9) (0,(0,([],())))).2.2.1) (rec (IntKind.wrap IntKind.i64 (x9+1))))) none) k1
def zm8 (N:Nat)(low:Int)(high:Int)(x8:(List (Int×(Int×((List UInt8)×Unit)))))(x9:Int)(k0:(List UInt8)->Option (List UInt8))(k1:Option (List UInt8)):Option (List UInt8):=iter (fun (v:Int) r=>zfs N low high x8 v (fun x9=>(r x9)) k0 k1) N x9
def z1mq (N:Nat)(i:(Int×Int×(List (Int×(Int×((List UInt8)×Unit))))))(v:Int)(r:Int->Option (List UInt8))(K:Ex->List A->Option (List UInt8)):Option (List UInt8):=zfs N i.1 i.2.1 i.2.2 v (fun x9=>(r x9)) (fun a0=>(K .ret (mkS [(4,.v .str)] 39 (a0,())))) (K (.exit 0) (mkS zuh 42 (i.1,i.2.1,())))
def z1k8 (N:Nat):Hd (List UInt8):=fun st K=>(unS [(0,.v (.int .i64)),(0,.v (.int .i64)),(6,.v (.arr 3 TT9)),(0,.v (.int .i64))] 34 (restr [9,8,0,1] 0 st)).bind fun x=>iter (fun v r=>z1mq N ((fun x=>(x.1,x.2.1,x.2.2.1)) x) v r K) N ((fun x=>x.2.2.2.1) x)
def t1_32 (N:Nat):Tab (List UInt8):=[(z1nr,z1j2 N)]
theorem z1h4 {N:Nat}{c:Ctx}(hb:Base Tryd.prog (z1pz N) c):zq Tryd.prog c (zd zop [0,1,0,1]) (z1k8 N) :=
 z6c (s:=[(0,.v (.int .i64)),(0,.v (.int .i64)),(6,.v (.arr 3 TT9)),(0,.v (.int .i64))]) (m:=34) (z1mq N) [9,8,0,1] N (fun x=>(x.1,x.2.1,x.2.2.1)) (fun x=>x.2.2.2.1) (fun i v=>(i.1,i.2.1,i.2.2,v,())) (fun _=>rfl) (ze hb N (t1_32 N) L_32 zop (TabOk.cons (z1fy hb) TabOk.nil) [0,0,1,0,1] _ rfl) (fun i v r K=>by kernel_rfl)
def z9m (N:Nat)(low:Int)(high:Int):Option (List UInt8):=zm8 N low high glob0 0 (fun x4=>some x4) ((zdb N low).bind fun y=>cond (decide ((1+(List.length y))<=9223372036854775807)) (cond (high == low) (cond (decide (((List.length (([(123:UInt8)]:List UInt8)++y))+1)<=9223372036854775807)) (some ((([(123:UInt8)]:List UInt8)++y)++([(125:UInt8)]:List UInt8))) none) (cond (high == (-1)) (cond (decide (((List.length (([(123:UInt8)]:List UInt8)++y))+2)<=9223372036854775807)) (some ((([(123:UInt8)]:List UInt8)++y)++([(44:UInt8),(125:UInt8)]:List UInt8))) none) (cond (decide (((List.length (([(123:UInt8)]:List UInt8)++y))+1)<=9223372036854775807)) ((zdb N high).bind fun y1=>cond (decide (((List.length ((([(123:UInt8)]:List UInt8)++y)++([(44:UInt8)]:List UInt8)))+(List.length y1))<=9223372036854775807)) (cond (decide (((List.length (((([(123:UInt8)]:List UInt8)++y)++([(44:UInt8)]:List UInt8))++y1))+1)<=9223372036854775807)) (some ((((([(123:UInt8)]:List UInt8)++y)++([(44:UInt8)]:List UInt8))++y1)++([(125:UInt8)]:List UInt8))) none) none) none))) none)
def t_32 (N:Nat):Tab (List UInt8):=[([0,1,0,1],z1k8 N)]
theorem z1b4 (N:Nat)(x:z1d zuh):z8t (z1pz N) N (t_32 N) L_32 Tryd.f27 (mkS zuh 0 x) (z53 (.v .str) 2)=z9m N x.1 x.2.1:=by kernel_rfl
def ze5 (N:Nat):List A->Res:=z17 zuh (fun x=>z9m N x.1 x.2.1) (zag (.v .str) 2)
theorem zm9 (N:Nat):Contract Tryd.prog glob 27 (ze5 N) :=
 Contract.of (E:=z1pz N) (H:=t_32 N) (L:=L_32) (N:=N) (body:=zop) (K:=(z53 (.v .str) 2)) (z1p6 N) Tryd.func27 (by kernel_rfl) (by decide) (fun _ hb=>(TabOk.cons (z1h4 hb) TabOk.nil)) (fun x y h=>by rw[z1b4];exact h) (z1p (s:=(.v .str)) (m:=2))
def z1cb:Code:=(Tryd.f18.body).getD .skip
def L_33:List (List Nat×List Nat):=[([0],[1]),([0,0,1],[4,1]),([0,0,1,0,1],[5,1,4]),([1,0,1,0,1],[]),([0,1,1,0,1,0,1],[10,1]),([1,1,1,0,1,0,1],[]),([0,0,1,1,1,0,1,0,1],[2]),([1,0,1,1,1,0,1,0,1],[2]),([0,0,1,0,1,0,1],[2]),([1,0,1,0,1,0,1],[2]),([1,0,1],[]),([0,1,1],[2]),([1,1,1],[2])]
def E_33 (N:Nat):Env:=z25 tys glob [(27,ze5 N),(26,zgk N)] [] [] [] false [] []
theorem z1p5 (N:Nat):EnvOk Tryd.prog (E_33 N):=zg mixed zz (FnsOk.cons (zm9 N) (FnsOk.cons (zoz N) (FnsOk.nil))) (ItsOk.nil)
def z76 (N:Nat)(n:DT2):Option (List UInt8):=cond (n.1 == 1) ((zce N n.2.1).bind fun y=>some y) (cond (n.1 == 4) ((z9m N n.2.2.2.1 n.2.2.2.2.1).bind fun y1=>some y1) (some []))
def t_33 (N:Nat):Tab (List UInt8):=[]
theorem z1b3 (N:Nat)(x:z1d [(0,.v TT1)]):z8t (E_33 N) N (t_33 N) L_33 Tryd.f18 (mkS [(0,.v TT1)] 0 x) (z53 (.v .str) 1)=z76 N x.1:=by kernel_rfl
def znb (N:Nat):List A->Res:=z17 [(0,.v TT1)] (fun x=>z76 N x.1) (zag (.v .str) 1)
theorem zoy (N:Nat):Contract Tryd.prog glob 18 (znb N) :=
 Contract.of (E:=E_33 N) (H:=t_33 N) (L:=L_33) (N:=N) (body:=z1cb) (K:=(z53 (.v .str) 1)) (z1p5 N) Tryd.func18 (by kernel_rfl) (by decide) (fun _ hb=>TabOk.nil) (fun x y h=>by rw[z1b3];exact h) (z1p (s:=(.v .str)) (m:=1))
def zwm:Code:=(Tryd.f32.body).getD .skip
def L_34:List (List Nat×List Nat):=[([0],[2,1]),([0,0,1],[10,9,8,1]),([0,1,0,1],[10,9,8,1]),([0,0,0,1,0,1],[11,8,10,1,9]),([0,1,0,0,1,0,1],[8,10,1,9]),(z1dt,[]),(z1nq,[6,1,10,9,8]),(z1nr,[17,10,9,8,1]),([1,1,0,0,1,1,0,0,1,0,1],[10,9,8,1]),([0,0,1,1,0,0,1,1,0,0,1,0,1],[4]),([1,0,1,1,0,0,1,1,0,0,1,0,1],[4]),(z1np,[10,9,8,1]),(z1no,[10,9,8,1]),([1,0,1],[]),([0,1,1],[4]),([1,1,1],[4])]
def E_34 (N:Nat):Env:=z25 tys glob [] [] [] [] false [] []
theorem z1p4 (N:Nat):EnvOk Tryd.prog (E_34 N):=zg mixed zz (FnsOk.nil) (ItsOk.nil)
def zcf (N:Nat)(kind:Int)(x8:(List Tree))(x9:Int)(x10:Int)(rec:Int->Option Bool)(k0:Bool->Option Bool)(k1:Option Bool):Option Bool:=cond (decide (x10<x9)) (cond (inR x10 (List.length x8)) (cond ((unN (List.getD x8 (Int.toNat x10) (Tree.mk 0 [] [] 0 0))).1 == kind) (k0 true) (rec (IntKind.wrap IntKind.i64 (x10+1)))) none) k1
def zgm (N:Nat)(kind:Int)(x8:(List Tree))(x9:Int)(x10:Int)(k0:Bool->Option Bool)(k1:Option Bool):Option Bool:=iter (fun (v:Int) r=>zcf N kind x8 x9 v (fun x10=>(r x10)) k0 k1) N x10
def z1mp (N:Nat)(i:(Int×(List Tree)×Int))(v:Int)(r:Int->Option Bool)(K:Ex->List A->Option Bool):Option Bool:=zcf N i.1 i.2.1 i.2.2 v (fun x10=>(r x10)) (fun a0=>(K .ret (mkS [(4,.v .bool)] 14 (a0,())))) (K (.exit 0) (mkS [] 19 ()))
def z1k7 (N:Nat):Hd Bool:=fun st K=>(unS [(1,.v (.int .i64)),(6,.v (.sl .nod)),(0,.v (.int .i64)),(0,.v (.int .i64))] 8 (restr [10,9,8,1] 0 st)).bind fun x=>iter (fun v r=>z1mp N ((fun x=>(x.1,x.2.1,x.2.2.1)) x) v r K) N ((fun x=>x.2.2.2.1) x)
def t1_34 (N:Nat):Tab Bool:=[]
theorem z1h3 {N:Nat}{c:Ctx}(hb:Base Tryd.prog (E_34 N) c):zq Tryd.prog c (zd zwm [0,1,0,1]) (z1k7 N) :=
 z6c (s:=[(1,.v (.int .i64)),(6,.v (.sl .nod)),(0,.v (.int .i64)),(0,.v (.int .i64))]) (m:=8) (z1mp N) [10,9,8,1] N (fun x=>(x.1,x.2.1,x.2.2.1)) (fun x=>x.2.2.2.1) (fun i v=>(i.1,i.2.1,i.2.2,v,())) (fun _=>rfl) (ze hb N (t1_34 N) L_34 zwm TabOk.nil [0,0,1,0,1] _ rfl) (fun i v r K=>by kernel_rfl)
def z9b (N:Nat)(n:DT2)(kind:Int):Option Bool:=zgm N kind n.2.2.1 (List.length n.2.2.1:Int) 0 (fun x4=>some x4) (some false)
def t_34 (N:Nat):Tab Bool:=[([0,1,0,1],z1k7 N)]
theorem z1b2 (N:Nat)(x:z1d [(0,.v TT1),(0,.v (.int .i64))]):z8t (E_34 N) N (t_34 N) L_34 Tryd.f32 (mkS [(0,.v TT1),(0,.v (.int .i64))] 0 x) (z53 (.v .bool) 2)=z9b N x.1 x.2.1:=by kernel_rfl
def zfv (N:Nat):List A->Res:=z17 [(0,.v TT1),(0,.v (.int .i64))] (fun x=>z9b N x.1 x.2.1) (zag (.v .bool) 2)
theorem znc (N:Nat):Contract Tryd.prog glob 32 (zfv N) :=
 Contract.of (E:=E_34 N) (H:=t_34 N) (L:=L_34) (N:=N) (body:=zwm) (K:=(z53 (.v .bool) 2)) (z1p4 N) Tryd.func32 (by kernel_rfl) (by decide) (fun _ hb=>(TabOk.cons (z1h3 hb) TabOk.nil)) (fun x y h=>by rw[z1b2];exact h) (z1p (s:=(.v .bool)) (m:=2))
def zoo:Code:=(Tryd.f33.body).getD .skip
def L_35:List (List Nat×List Nat):=[([0],[0,1]),([0,0,1],[10,1,0]),([1,0,1],[1,0]),([0,0,1,0,1],[4]),([1,0,1,0,1],[4]),([0,1,1],[4]),([1,1,1],[4])]
def z1py (N:Nat):Env:=z25 tys glob [] [] [] [] false [] []
theorem z1p3 (N:Nat):EnvOk Tryd.prog (z1py N):=zg mixed zz (FnsOk.nil) (ItsOk.nil)
def zdo (N:Nat)(low:Int)(high:Int)(k0:Bool->Option Bool):Option Bool:=cond (decide (low<0)) (k0 true) (k0 (decide (16<low)))
def z1lj (N:Nat)(x:z1d zuh)(K:Ex->List A->Option Bool):Option Bool:=zdo N x.1 x.2.1 (fun a2=>(K .normal (mkS [(0,.v (.int .i64)),(0,.v (.int .i64)),(8,.v .bool)] 12 (x.1,x.2.1,a2,()))))
def z1j1 (N:Nat):Hd Bool:=fun st K=>(unS zuh 21 (restr [0,1] 0 st)).bind fun x=>z1lj N x K
def t2_35 (N:Nat):Tab Bool:=[]
theorem z1fx {N:Nat}{c:Ctx}(hb:Base Tryd.prog (z1py N) c):zq Tryd.prog c (zd zoo [0,0,1]) (z1j1 N) :=
 zr (s:=zuh) (m:=21) (g:=z1lj N) [0,1] (ze hb N (t2_35 N) L_35 zoo TabOk.nil [0,0,1] _ rfl) (fun x K=>by kernel_rfl)
def zdp (N:Nat)(low:Int)(high:Int)(k0:Bool->Option Bool)(k1:Option Bool):Option Bool:=zdo N low high (fun x10=>cond x10 (k0 false) k1)
def z1mo (N:Nat)(x:z1d zuh)(K:Ex->List A->Option Bool):Option Bool:=zdp N x.1 x.2.1 (fun a0=>(K .ret (mkS [(4,.v .bool)] 18 (a0,())))) (K .normal (mkS zuh 21 (x.1,x.2.1,())))
def z1k6 (N:Nat):Hd Bool:=fun st K=>(unS zuh 21 (restr [0,1] 0 st)).bind fun x=>z1mo N x K
def t1_35 (N:Nat):Tab Bool:=[([0,0,1],z1j1 N)]
theorem z1h2 {N:Nat}{c:Ctx}(hb:Base Tryd.prog (z1py N) c):zq Tryd.prog c (zd zoo [0,1]) (z1k6 N) :=
 zr (s:=zuh) (m:=21) (g:=z1mo N) [0,1] (ze hb N (t1_35 N) L_35 zoo (TabOk.cons (z1fx hb) TabOk.nil) [0,1] _ rfl) (fun x K=>by kernel_rfl)
def zcg (N:Nat)(low:Int)(high:Int):Option Bool:=zdp N low high (fun x4=>some x4) (cond (high == (-1)) (some true) (cond (decide ((if (1 > low) then 1 else low)<=high)) (some (decide (high<=16))) (some false)))
def t_35 (N:Nat):Tab Bool:=[([0,1],z1k6 N)]
theorem z1b1 (N:Nat)(x:z1d zuh):z8t (z1py N) N (t_35 N) L_35 Tryd.f33 (mkS zuh 0 x) (z53 (.v .bool) 2)=zcg N x.1 x.2.1:=by kernel_rfl
def zgn (N:Nat):List A->Res:=z17 zuh (fun x=>zcg N x.1 x.2.1) (zag (.v .bool) 2)
theorem zp0 (N:Nat):Contract Tryd.prog glob 33 (zgn N) :=
 Contract.of (E:=z1py N) (H:=t_35 N) (L:=L_35) (N:=N) (body:=zoo) (K:=(z53 (.v .bool) 2)) (z1p3 N) Tryd.func33 (by kernel_rfl) (by decide) (fun _ hb=>(TabOk.cons (z1h2 hb) TabOk.nil)) (fun x y h=>by rw[z1b1];exact h) (z1p (s:=(.v .bool)) (m:=2))
def zwl:Code:=(Tryd.f24.body).getD .skip
def L_36:List (List Nat×List Nat):=[([0],[1]),([0,1],[1,4,3]),([0,0,1,1],[18,1,4,3]),([0,0,1,0,1,1],[19,1,4,18,3]),([1,0,1,0,1,1],[]),(z18e,[28,3,4,1,18]),([1,1,1,0,1,0,1,1],[]),([0,1,1,1,1,0,1,0,1,1],[45,3,4,1,18]),([1,1,1,1,1,0,1,0,1,1],[]),([0,1,1,1,1,1,1,0,1,0,1,1],[62,3,1]),([1,1,1,1,1,1,1,0,1,0,1,1],[]),([0,0,1,1,1,1,1,1,1,0,1,0,1,1],[2]),([1,0,1,1,1,1,1,1,1,0,1,0,1,1],[2]),([0,0,1,1,1,1,1,0,1,0,1,1],[2]),([1,0,1,1,1,1,1,0,1,0,1,1],[2]),([0,0,1,1,1,0,1,0,1,1],[2]),([1,0,1,1,1,0,1,0,1,1],[2]),([0,0,1,0,1,0,1,1],[2]),([1,0,1,0,1,0,1,1],[2]),([1,0,1,1],[]),([0,1,1,1],[2]),([1,1,1,1],[2])]
def E_36 (N:Nat):Env:=z25 tys glob [(33,zgn N),(32,zfv N)] [] [] [] false [] []
theorem z1p2 (N:Nat):EnvOk Tryd.prog (E_36 N):=zg mixed zz (FnsOk.cons (zp0 N) (FnsOk.cons (znc N) (FnsOk.nil))) (ItsOk.nil)
def zch (N:Nat)(n:DT2)(k0:Bool->Bool->Option Bool):Option Bool:=cond (n.2.2.2.1 == 0) (k0 (eqD (T.arr 4 (T.int IntKind.u64)) n.2.1 ([0,0,0,0]:List Int)) (n.2.2.2.2.1 == 0)) (k0 (eqD (T.arr 4 (T.int IntKind.u64)) n.2.1 ([0,0,0,0]:List Int)) false)
def z1mn (N:Nat)(x:z1d [(1,.box TT1)])(K:Ex->List A->Option Bool):Option Bool:=zch N x.1 (fun a1 a2=>(K .normal (mkS [(1,.box TT1),(1,.v .bool),(0,.v .bool)] 73 (x.1,a1,a2,()))))
def z1k5 (N:Nat):Hd Bool:=fun st K=>(unS [(1,.box TT1)] 76 (restr [1] 0 st)).bind fun x=>z1mn N x K
def t1_36 (N:Nat):Tab Bool:=[]
theorem z1h1 {N:Nat}{c:Ctx}(hb:Base Tryd.prog (E_36 N) c):zq Tryd.prog c (zd zwl [0,1]) (z1k5 N) :=
 zr (s:=[(1,.box TT1)]) (m:=76) (g:=z1mn N) [1] (ze hb N (t1_36 N) L_36 zwl TabOk.nil [0,1] _ rfl) (fun x K=>by kernel_rfl)
def zam (N:Nat)(n:DT2):Option Bool:=zch N n (fun empty once=>cond (n.1 == 1) (cond ((List.length n.2.2.1:Int) == 0) (some once) (some false)) (cond (n.1 == 2) (cond empty (cond once (cond ((List.length n.2.2.1:Int) != 1) ((z9b N n 2).bind fun y=>some (!y)) (some false)) (some false)) (some false)) (cond (n.1 == 3) (cond empty (cond once (cond (decide (2<=(List.length n.2.2.1:Int))) ((z9b N n 3).bind fun y1=>some (!y1)) (some false)) (some false)) (some false)) (cond (n.1 == 4) (cond empty (cond ((List.length n.2.2.1:Int) == 1) ((zcg N n.2.2.2.1 n.2.2.2.2.1).bind fun y2=>some y2) (some false)) (some false)) (some false)))))
def t_36 (N:Nat):Tab Bool:=[([0,1],z1k5 N)]
theorem z1b0 (N:Nat)(x:z1d [(0,.v TT1)]):z8t (E_36 N) N (t_36 N) L_36 Tryd.f24 (mkS [(0,.v TT1)] 0 x) (z53 (.v .bool) 1)=zam N x.1:=by kernel_rfl
def zfw (N:Nat):List A->Res:=z17 [(0,.v TT1)] (fun x=>zam N x.1) (zag (.v .bool) 1)
theorem znd (N:Nat):Contract Tryd.prog glob 24 (zfw N) :=
 Contract.of (E:=E_36 N) (H:=t_36 N) (L:=L_36) (N:=N) (body:=zwl) (K:=(z53 (.v .bool) 1)) (z1p2 N) Tryd.func24 (by kernel_rfl) (by decide) (fun _ hb=>(TabOk.cons (z1h1 hb) TabOk.nil)) (fun x y h=>by rw[z1b0];exact h) (z1p (s:=(.v .bool)) (m:=1))
def zs3:Code:=(Tryd.f12.body).getD .skip
def L_37:List (List Nat×List Nat):=[([0],[1]),([0,0,1],[7,1]),([1,0,1],[1]),([0,0,1,0,1],[2]),([1,0,1,0,1],[2]),([0,0,1,1],[11,10,9]),([0,1,0,1,1],[11,10,9]),([0,0,0,1,0,1,1],[12,9,11,10]),(zyy,[9,11,10]),([1,0,1,0,0,1,0,1,1],[]),(PQ78,[4,11,10,9]),([0,1,0,0,1,1,0,0,1,0,1,1],[17,11,10,9]),([1,1,0,0,1,1,0,0,1,0,1,1],[11,10,9]),([0,0,1,1,0,0,1,1,0,0,1,0,1,1],[2]),([1,0,1,1,0,0,1,1,0,0,1,0,1,1],[2]),([0,1,1,0,0,1,0,1,1],[11,10,9]),([1,1,1,0,0,1,0,1,1],[11,10,9]),([1,0,1,1],[]),([0,1,1,1],[2]),([1,1,1,1],[2])]
def E_37 (N:Nat)(self:DT2->Option Bool):Env:=z25 tys glob [(24,zfw N),(12,z17 [(0,.v TT1)] (fun x=>self x.1) (zag (.v .bool) 1))] [] [] [] false [] []
theorem z1p1 (N:Nat)(self:DT2->Option Bool)(hself:Contract Tryd.prog glob 12 (z17 [(0,.v TT1)] (fun x=>self x.1) (zag (.v .bool) 1))):EnvOk Tryd.prog (E_37 N self):=zg mixed zz (FnsOk.cons (znd N) (FnsOk.cons (hself) (FnsOk.nil))) (ItsOk.nil)
def zds (N:Nat)(self:DT2->Option Bool)(x9:(List Tree))(x10:Int)(x11:Int)(rec:Int->Option Bool)(k0:Bool->Option Bool)(k1:Option Bool):Option Bool:=cond (decide (x11<x10)) (cond (inR x11 (List.length x9)) ((self (unN (List.getD x9 (Int.toNat x11) (Tree.mk 0 [] [] 0 0)))).bind fun y=>cond (!y) (k0 false) (rec (IntKind.wrap IntKind.i64 (x11+1)))) none) k1
def zi4 (N:Nat)(self:DT2->Option Bool)(x9:(List Tree))(x10:Int)(x11:Int)(k0:Bool->Option Bool)(k1:Option Bool):Option Bool:=iter (fun (v:Int) r=>zds N self x9 x10 v (fun x11=>(r x11)) k0 k1) N x11
def z1mm (N:Nat)(self:DT2->Option Bool)(i:((List Tree)×Int))(v:Int)(r:Int->Option Bool)(K:Ex->List A->Option Bool):Option Bool:=zds N self i.1 i.2 v (fun x11=>(r x11)) (fun a0=>(K .ret (mkS [(2,.v .bool)] 16 (a0,())))) (K (.exit 0) (mkS [] 19 ()))
def z1k4 (N:Nat)(self:DT2->Option Bool):Hd Bool:=fun st K=>(unS [(9,.v (.sl .nod)),(0,.v (.int .i64)),(0,.v (.int .i64))] 7 (restr [11,10,9] 0 st)).bind fun x=>iter (fun v r=>z1mm N self ((fun x=>(x.1,x.2.1)) x) v r K) N ((fun x=>x.2.2.1) x)
def t1_37 (N:Nat)(self:DT2->Option Bool):Tab Bool:=[]
theorem z1h0 {N:Nat}{self:DT2->Option Bool}{c:Ctx}(hb:Base Tryd.prog (E_37 N self) c):zq Tryd.prog c (zd zs3 [0,1,0,1,1]) (z1k4 N self) :=
 z6c (s:=[(9,.v (.sl .nod)),(0,.v (.int .i64)),(0,.v (.int .i64))]) (m:=7) (z1mm N self) [11,10,9] N (fun x=>(x.1,x.2.1)) (fun x=>x.2.2.1) (fun i v=>(i.1,i.2,v,())) (fun _=>rfl) (ze hb N (t1_37 N self) L_37 zs3 TabOk.nil [0,0,1,0,1,1] _ rfl) (fun i v r K=>by kernel_rfl)
def zbt (N:Nat)(self:DT2->Option Bool)(n:DT2):Option Bool:=(zam N n).bind fun y=>cond (!y) (some false) (zi4 N self n.2.2.1 (List.length n.2.2.1:Int) 0 (fun x2=>some x2) (some true))
def t_37 (N:Nat)(self:DT2->Option Bool):Tab Bool:=[([0,1,0,1,1],z1k4 N self)]
theorem z1az (N:Nat)(self:DT2->Option Bool)(x:z1d [(0,.v TT1)]):z8t (E_37 N self) N (t_37 N self) L_37 Tryd.f12 (mkS [(0,.v TT1)] 0 x) (z53 (.v .bool) 1)=zbt N self x.1:=by kernel_rfl
def z68:Nat->DT2->Option Bool
 | 0=>fun _=>none
 | N+1=>zbt (N+1) (z68 N)
def zne (N:Nat):List A->Res:=z17 [(0,.v TT1)] (fun x=>z68 N x.1) (zag (.v .bool) 1)
theorem zi5:∀ N:Nat,Contract Tryd.prog glob 12 (zne N)
 | 0=>Contract.zero Tryd.func12 (body:=zs3) (by kernel_rfl) (by decide) (fun _=>rfl)
 | N+1=>Contract.of (E:=E_37 (N+1) (z68 N)) (H:=t_37 (N+1) (z68 N)) (L:=L_37) (N:=(N+1)) (body:=zs3) (K:=(z53 (.v .bool) 1)) (z1p1 (N+1) (z68 N) (zi5 N)) Tryd.func12 (by kernel_rfl) (by decide) (fun _ hb=>(TabOk.cons (z1h0 hb) TabOk.nil)) (fun x y h=>by rw[z1az];exact h) (z1p (s:=(.v .bool)) (m:=1))
def zwk:Code:=(Tryd.f68.body).getD .skip
def L_38:List (List Nat×List Nat):=[([0],[0]),([0,0,1],[12,0]),([1,0,1],[0]),([0,1,0,1],[0]),([0,1,1],[2,0]),([1,1,1],[2,0])]
def E_38 (N:Nat):Env:=z25 tys glob [] [] [] [0] false [] []
theorem z1p0 (N:Nat):EnvOk Tryd.prog (E_38 N):=zg mixed zz (FnsOk.nil) (ItsOk.nil)
def z86 (N:Nat)(p:DT3)(k0:Option (Int×(DT3×Unit))):Option (Int×(DT3×Unit)):=cond (p.2.1 == (List.length p.1:Int)) none k0
def z1ml (N:Nat)(x:z1d SQ0)(K:Ex->List A->Option (Int×(DT3×Unit))):Option (Int×(DT3×Unit)):=z86 N x.1 (K .normal (mkS SQ0 27 (x.1,())))
def z1k3 (N:Nat):Hd (Int×(DT3×Unit)):=fun st K=>(unS SQ0 27 (restr [0] 0 st)).bind fun x=>z1ml N x K
def t1_38 (N:Nat):Tab (Int×(DT3×Unit)):=[]
theorem z1gz {N:Nat}{c:Ctx}(hb:Base Tryd.prog (E_38 N) c):zq Tryd.prog c (zd zwk [0,1]) (z1k3 N) :=
 zr (s:=SQ0) (m:=27) (g:=z1ml N) [0] (ze hb N (t1_38 N) L_38 zwk TabOk.nil [0,1] _ rfl) (fun x K=>by kernel_rfl)
def z14 (N:Nat)(p:DT3):Option (Int×(DT3×Unit)):=z86 N p (cond (inR p.2.1 (List.length p.1)) (some ((UInt8.toNat (List.getD p.1 (Int.toNat p.2.1) (0:UInt8)):Int),(p,()))) none)
def t_38 (N:Nat):Tab (Int×(DT3×Unit)):=[([0,1],z1k3 N)]
theorem z1ay (N:Nat)(x:z1d SQ0):z8t (E_38 N) N (t_38 N) L_38 Tryd.f68 (mkS SQ0 0 x) (z6j (.v (.int .u8)) SQ0 0)=z14 N x.1:=by kernel_rfl
def z13 (N:Nat):List A->Res:=z17 SQ0 (fun x=>z14 N x.1) (z7f (.v (.int .u8)) SQ0 0)
theorem z1f (N:Nat):Contract Tryd.prog glob 68 (z13 N) :=
 Contract.of (E:=E_38 N) (H:=t_38 N) (L:=L_38) (N:=N) (body:=zwk) (K:=(z6j (.v (.int .u8)) SQ0 0)) (z1p0 N) Tryd.func68 (by kernel_rfl) (by decide) (fun _ hb=>(TabOk.cons (z1gz hb) TabOk.nil)) (fun x y h=>by rw[z1ay];exact h) (z4l (s:=(.v (.int .u8))) (os:=SQ0) (m:=0))
def zwj:Code:=(Tryd.f61.body).getD .skip
def L_39:List (List Nat×List Nat):=[([0,0],[7,0]),([1,0],[0]),([0,1,0],[0]),([1],[0])]
def E_39 (N:Nat):Env:=z25 tys glob [(68,z13 N)] [] [] [0] false [] []
theorem z1oz (N:Nat):EnvOk Tryd.prog (E_39 N):=zg mixed zz (FnsOk.cons (z1f N) (FnsOk.nil)) (ItsOk.nil)
def z87 (N:Nat)(p:DT3)(b:Int)(k0:DT3->Option ((Unit)×(DT3×Unit))):Option ((Unit)×(DT3×Unit)):=(z14 N p).bind fun y=>cond (y.1 != b) none (k0 y.2.1)
def z1mk (N:Nat)(x:z1d SQ8)(K:Ex->List A->Option ((Unit)×(DT3×Unit))):Option ((Unit)×(DT3×Unit)):=z87 N x.1 x.2.1 (fun a0=>(K .normal (mkS SQ0 20 (a0,()))))
def z1k2 (N:Nat):Hd ((Unit)×(DT3×Unit)):=fun st K=>(unS SQ8 19 (restr [0,1] 0 st)).bind fun x=>z1mk N x K
def t1_39 (N:Nat):Tab ((Unit)×(DT3×Unit)):=[]
theorem z1gy {N:Nat}{c:Ctx}(hb:Base Tryd.prog (E_39 N) c):zq Tryd.prog c (zd zwj [0]) (z1k2 N) :=
 zr (s:=SQ8) (m:=19) (g:=z1mk N) [0,1] (ze hb N (t1_39 N) L_39 zwj TabOk.nil [0] _ rfl) (fun x K=>by kernel_rfl)
def zw (N:Nat)(p:DT3)(b:Int):Option ((Unit)×(DT3×Unit)):=z87 N p b (fun p1=>some ((),((p1.1,((IntKind.wrap IntKind.i64 (p1.2.1+1)),p1.2.2)),())))
def t_39 (N:Nat):Tab ((Unit)×(DT3×Unit)):=[([0],z1k2 N)]
theorem z1ax (N:Nat)(x:z1d SQ8):z8t (E_39 N) N (t_39 N) L_39 Tryd.f61 (mkS SQ8 0 x) (z6j (.tup []) SQ0 1)=zw N x.1 x.2.1:=by kernel_rfl
def z1k (N:Nat):List A->Res:=z17 SQ8 (fun x=>zw N x.1 x.2.1) (z7f (.tup []) SQ0 1)
theorem z21 (N:Nat):Contract Tryd.prog glob 61 (z1k N) :=
 Contract.of (E:=E_39 N) (H:=t_39 N) (L:=L_39) (N:=N) (body:=zwj) (K:=(z6j (.tup []) SQ0 1)) (z1oz N) Tryd.func61 (by kernel_rfl) (by decide) (fun _ hb=>(TabOk.cons (z1gy hb) TabOk.nil)) (fun x y h=>by rw[z1ax];exact h) (z4l (s:=(.tup [])) (os:=SQ0) (m:=1))
abbrev z8:Type:=DT3->Option (DT2×(DT3×Unit))
def zwi:Code:=(Tryd.f56.body).getD .skip
def L_40:List (List Nat×List Nat):=[([0],[0,2]),([0,0,1],[8,0,2]),([1,0,1],[0,2]),([0,1,0,1],[0,2]),([0,1,1],[0,2]),([0,1,1,1],[0,2]),([0,1,1,1,1],[0,3,2]),([0,1,1,1,1,1],[0,3,2]),(zyz,[3,2,0]),(z18g,[2,0]),(z18f,[2,0])]
def E_40 (N:Nat)(self:z8):Env:=z25 tys glob [(61,z1k N),(21,z17 SQ0 (fun x=>self x.1) (z7f (.v TT1) SQ0 0))] [] [] [0] false [] []
theorem z1oy (N:Nat)(self:z8)(hself:Contract Tryd.prog glob 21 (z17 SQ0 (fun x=>self x.1) (z7f (.v TT1) SQ0 0))):EnvOk Tryd.prog (E_40 N self):=zg mixed zz (FnsOk.cons (z21 N) (FnsOk.cons (hself) (FnsOk.nil))) (ItsOk.nil)
def z7a (N:Nat)(self:z8)(p:DT3)(x2:DT2)(k0:Option (DT2×(DT3×Unit))):Option (DT2×(DT3×Unit)):=cond (p.2.2.1 == 16) none k0
def z1mj (N:Nat)(self:z8)(x:z1d z189)(K:Ex->List A->Option (DT2×(DT3×Unit))):Option (DT2×(DT3×Unit)):=z7a N self x.1 x.2.1 (K .normal (mkS z189 33 (x.1,x.2.1,())))
def z1k1 (N:Nat)(self:z8):Hd (DT2×(DT3×Unit)):=fun st K=>(unS z189 33 (restr [0,2] 0 st)).bind fun x=>z1mj N self x K
def t1_40 (N:Nat)(self:z8):Tab (DT2×(DT3×Unit)):=[]
theorem z1gx {N:Nat}{self:z8}{c:Ctx}(hb:Base Tryd.prog (E_40 N self) c):zq Tryd.prog c (zd zwi [0,1]) (z1k1 N self) :=
 zr (s:=z189) (m:=33) (g:=z1mj N self) [0,2] (ze hb N (t1_40 N self) L_40 zwi TabOk.nil [0,1] _ rfl) (fun x K=>by kernel_rfl)
def z3y (N:Nat)(self:z8)(p:DT3):Option (DT2×(DT3×Unit)):=z7a N self p (0,(([0,0,0,0]:List Int),([],(0,(0,()))))) ((zw N (p.1,(p.2.1,((IntKind.wrap IntKind.i64 (p.2.2.1+1)),p.2.2.2))) 40).bind fun y=>(self y.2.1).bind fun y1=>(zw N y1.2.1 41).bind fun y2=>some (y1.1,((y2.2.1.1,(y2.2.1.2.1,((IntKind.wrap IntKind.i64 (y2.2.1.2.2.1 - 1)),y2.2.1.2.2.2))),())))
def t_40 (N:Nat)(self:z8):Tab (DT2×(DT3×Unit)):=[([0,1],z1k1 N self)]
theorem z1aw (N:Nat)(self:z8)(x:z1d SQ0):z8t (E_40 N self) N (t_40 N self) L_40 Tryd.f56 (mkS SQ0 0 x) (z6j (.v TT1) SQ0 0)=z3y N self x.1:=by kernel_rfl
def z6s (N:Nat)(self:z8):List A->Res:=z17 SQ0 (fun x=>z3y N self x.1) (z7f (.v TT1) SQ0 0)
theorem zao (N:Nat)(self:z8)(hself:Contract Tryd.prog glob 21 (z17 SQ0 (fun x=>self x.1) (z7f (.v TT1) SQ0 0))):Contract Tryd.prog glob 56 (z6s N self) :=
 Contract.of (E:=E_40 N self) (H:=t_40 N self) (L:=L_40) (N:=N) (body:=zwi) (K:=(z6j (.v TT1) SQ0 0)) (z1oy N self hself) Tryd.func56 (by kernel_rfl) (by decide) (fun _ hb=>(TabOk.cons (z1gx hb) TabOk.nil)) (fun x y h=>by rw[z1aw];exact h) (z4l (s:=(.v TT1)) (os:=SQ0) (m:=0))
def z1ca:Code:=(Tryd.f57.body).getD .skip
def L_41:List (List Nat×List Nat):=[([0],[1,2]),([0,1],[2]),([1,1],[2])]
def E_41 (N:Nat):Env:=z25 tys glob [] [] [] [] false [] []
theorem z1ox (N:Nat):EnvOk Tryd.prog (E_41 N):=zg mixed zz (FnsOk.nil) (ItsOk.nil)
def zsx (N:Nat)(s:(List Int)):Option DT2:=some (1,(s,([],(0,(0,())))))
def t_41 (N:Nat):Tab DT2:=[]
theorem z1av (N:Nat)(x:z1d zsb):z8t (E_41 N) N (t_41 N) L_41 Tryd.f57 (mkS zsb 0 x) (z53 (.v TT1) 1)=zsx N x.1:=by kernel_rfl
def zf6 (N:Nat):List A->Res:=z17 zsb (fun x=>zsx N x.1) (zag (.v TT1) 1)
theorem zlo (N:Nat):Contract Tryd.prog glob 57 (zf6 N) :=
 Contract.of (E:=E_41 N) (H:=t_41 N) (L:=L_41) (N:=N) (body:=z1ca) (K:=(z53 (.v TT1) 1)) (z1ox N) Tryd.func57 (by kernel_rfl) (by decide) (fun _ hb=>TabOk.nil) (fun x y h=>by rw[z1av];exact h) (z1p (s:=(.v TT1)) (m:=1))
def zon:Code:=(Tryd.f29.body).getD .skip
def L_42:List (List Nat×List Nat):=[([0],[0,1]),([0,0,1],[27,0]),([1,0,1],[0]),([0,0,1,0,1],[4,0]),([1,0,1,0,1],[4,0]),([0,1,1],[0]),([0,1,1,1],[4,0]),([1,1,1,1],[4,0])]
def z1px (N:Nat):Env:=z25 tys glob [] [] [] [0] false [] []
theorem z1ow (N:Nat):EnvOk Tryd.prog (z1px N):=zg mixed zz (FnsOk.nil) (ItsOk.nil)
def z81 (N:Nat)(p:DT3)(b:Int)(k0:Bool->Option (Bool×(DT3×Unit))):Option (Bool×(DT3×Unit)):=cond (p.2.1 == (List.length p.1:Int)) (k0 true) (cond (inR p.2.1 (List.length p.1)) (k0 ((UInt8.toNat (List.getD p.1 (Int.toNat p.2.1) (0:UInt8)):Int) != b)) none)
def z1li (N:Nat)(x:z1d SQ8)(K:Ex->List A->Option (Bool×(DT3×Unit))):Option (Bool×(DT3×Unit)):=z81 N x.1 x.2.1 (fun a1=>(K .normal (mkS [(0,.box (.pair .str TT0)),(26,.v .bool)] 7 (x.1,a1,()))))
def z1j0 (N:Nat):Hd (Bool×(DT3×Unit)):=fun st K=>(unS SQ8 33 (restr [0,1] 0 st)).bind fun x=>z1li N x K
def t2_42 (N:Nat):Tab (Bool×(DT3×Unit)):=[]
theorem z1fw {N:Nat}{c:Ctx}(hb:Base Tryd.prog (z1px N) c):zq Tryd.prog c (zd zon [0,0,1]) (z1j0 N) :=
 zr (s:=SQ8) (m:=33) (g:=z1li N) [0,1] (ze hb N (t2_42 N) L_42 zon TabOk.nil [0,0,1] _ rfl) (fun x K=>by kernel_rfl)
def z82 (N:Nat)(p:DT3)(b:Int)(k0:Bool->Option (Bool×(DT3×Unit)))(k1:Option (Bool×(DT3×Unit))):Option (Bool×(DT3×Unit)):=z81 N p b (fun x27=>cond x27 (k0 false) k1)
def z1mi (N:Nat)(x:z1d SQ8)(K:Ex->List A->Option (Bool×(DT3×Unit))):Option (Bool×(DT3×Unit)):=z82 N x.1 x.2.1 (fun a1=>(K .ret (mkS [(0,.box (.pair .str TT0)),(3,.v .bool)] 30 (x.1,a1,())))) (K .normal (mkS SQ0 34 (x.1,())))
def z1k0 (N:Nat):Hd (Bool×(DT3×Unit)):=fun st K=>(unS SQ8 33 (restr [0,1] 0 st)).bind fun x=>z1mi N x K
def t1_42 (N:Nat):Tab (Bool×(DT3×Unit)):=[([0,0,1],z1j0 N)]
theorem z1gw {N:Nat}{c:Ctx}(hb:Base Tryd.prog (z1px N) c):zq Tryd.prog c (zd zon [0,1]) (z1k0 N) :=
 zr (s:=SQ8) (m:=33) (g:=z1mi N) [0,1] (ze hb N (t1_42 N) L_42 zon (TabOk.cons (z1fw hb) TabOk.nil) [0,1] _ rfl) (fun x K=>by kernel_rfl)
def zu (N:Nat)(p:DT3)(b:Int):Option (Bool×(DT3×Unit)):=z82 N p b (fun x4=>some (x4,(p,()))) (some (true,((p.1,((IntKind.wrap IntKind.i64 (p.2.1+1)),p.2.2)),())))
def t_42 (N:Nat):Tab (Bool×(DT3×Unit)):=[([0,1],z1k0 N)]
theorem z1au (N:Nat)(x:z1d SQ8):z8t (z1px N) N (t_42 N) L_42 Tryd.f29 (mkS SQ8 0 x) (z6j (.v .bool) SQ0 1)=zu N x.1 x.2.1:=by kernel_rfl
def z1i (N:Nat):List A->Res:=z17 SQ8 (fun x=>zu N x.1 x.2.1) (z7f (.v .bool) SQ0 1)
theorem z20 (N:Nat):Contract Tryd.prog glob 29 (z1i N) :=
 Contract.of (E:=z1px N) (H:=t_42 N) (L:=L_42) (N:=N) (body:=zon) (K:=(z6j (.v .bool) SQ0 1)) (z1ow N) Tryd.func29 (by kernel_rfl) (by decide) (fun _ hb=>(TabOk.cons (z1gw hb) TabOk.nil)) (fun x y h=>by rw[z1au];exact h) (z4l (s:=(.v .bool)) (os:=SQ0) (m:=1))
def z1c9:Code:=(Tryd.f70.body).getD .skip
def L_43:List (List Nat×List Nat):=[([0],[0]),([0,1],[2]),([1,1],[2])]
def E_43 (N:Nat):Env:=z25 tys glob [] [] [] [] false [] []
theorem z1ov (N:Nat):EnvOk Tryd.prog (E_43 N):=zg mixed zz (FnsOk.nil) (ItsOk.nil)
def z50 (N:Nat)(b:Int):Option Bool:=cond (decide (48<=b)) (some (decide (b<=57))) (some false)
def t_43 (N:Nat):Tab Bool:=[]
theorem z1at (N:Nat)(x:z1d [(0,.v (.int .u8))]):z8t (E_43 N) N (t_43 N) L_43 Tryd.f70 (mkS [(0,.v (.int .u8))] 0 x) (z53 (.v .bool) 1)=z50 N x.1:=by kernel_rfl
def z7e (N:Nat):List A->Res:=z17 [(0,.v (.int .u8))] (fun x=>z50 N x.1) (zag (.v .bool) 1)
theorem zaf (N:Nat):Contract Tryd.prog glob 70 (z7e N) :=
 Contract.of (E:=E_43 N) (H:=t_43 N) (L:=L_43) (N:=N) (body:=z1c9) (K:=(z53 (.v .bool) 1)) (z1ov N) Tryd.func70 (by kernel_rfl) (by decide) (fun _ hb=>TabOk.nil) (fun x y h=>by rw[z1at];exact h) (z1p (s:=(.v .bool)) (m:=1))
def zom:Code:=(Tryd.f69.body).getD .skip
def L_44:List (List Nat×List Nat):=[([0],[0,1]),([0,1],[0,5,1]),([0,1,1],[5,0,1]),([0,0,1,1,1],[16,5,0,1]),([1,0,1,1,1],[5,0,1]),(z1d1,[4,0]),(z1d0,[4,0]),([0,0,1,1,1,1],[24,0,1,5]),([1,0,1,1,1,1],[5,0]),([0,1,0,1,1,1,1],[5,0]),([0,1,1,1,1,1],[4,0]),([1,1,1,1,1,1],[4,0])]
def z1pw (N:Nat):Env:=z25 tys glob [(70,z7e N),(68,z13 N)] [] [] [0] false [] []
theorem z1ou (N:Nat):EnvOk Tryd.prog (z1pw N):=zg mixed zz (FnsOk.cons (zaf N) (FnsOk.cons (z1f N) (FnsOk.nil))) (ItsOk.nil)
def z92 (N:Nat)(p:DT3)(from_:Int)(b:Int)(k0:Bool->Option (Int×(DT3×Unit))):Option (Int×(DT3×Unit)):=cond (decide (b<97)) (k0 true) (k0 (decide (102<b)))
def z1lh (N:Nat)(x:z1d z10p)(K:Ex->List A->Option (Int×(DT3×Unit))):Option (Int×(DT3×Unit)):=z92 N x.1 x.2.1 x.2.2.1 (fun a3=>(K .normal (mkS [(0,.box (.pair .str TT0)),(0,.v (.int .i64)),(3,.v (.int .u8)),(18,.v .bool)] 6 (x.1,x.2.1,x.2.2.1,a3,()))))
def z1iz (N:Nat):Hd (Int×(DT3×Unit)):=fun st K=>(unS z10p 25 (restr [5,0,1] 0 st)).bind fun x=>z1lh N x K
def t2_44 (N:Nat):Tab (Int×(DT3×Unit)):=[]
theorem z1fv {N:Nat}{c:Ctx}(hb:Base Tryd.prog (z1pw N) c):zq Tryd.prog c (zd zom [0,0,1,1,1,1]) (z1iz N) :=
 zr (s:=z10p) (m:=25) (g:=z1lh N) [5,0,1] (ze hb N (t2_44 N) L_44 zom TabOk.nil [0,0,1,1,1,1] _ rfl) (fun x K=>by kernel_rfl)
def z93 (N:Nat)(p:DT3)(from_:Int)(b:Int)(k0:Option (Int×(DT3×Unit))):Option (Int×(DT3×Unit)):=z92 N p from_ b (fun x24=>cond x24 none k0)
def z1mh (N:Nat)(x:z1d z10p)(K:Ex->List A->Option (Int×(DT3×Unit))):Option (Int×(DT3×Unit)):=z93 N x.1 x.2.1 x.2.2.1 (K .normal (mkS [(0,.box (.pair .str TT0)),(4,.v (.int .u8))] 25 (x.1,x.2.2.1,())))
def z1jz (N:Nat):Hd (Int×(DT3×Unit)):=fun st K=>(unS z10p 25 (restr [5,0,1] 0 st)).bind fun x=>z1mh N x K
def t1_44 (N:Nat):Tab (Int×(DT3×Unit)):=[([0,0,1,1,1,1],z1iz N)]
theorem z1gv {N:Nat}{c:Ctx}(hb:Base Tryd.prog (z1pw N) c):zq Tryd.prog c (zd zom [0,1,1,1,1]) (z1jz N) :=
 zr (s:=z10p) (m:=25) (g:=z1mh N) [5,0,1] (ze hb N (t1_44 N) L_44 zom (TabOk.cons (z1fv hb) TabOk.nil) [0,1,1,1,1] _ rfl) (fun x K=>by kernel_rfl)
def z3d (N:Nat)(p:DT3)(from_:Int):Option (Int×(DT3×Unit)):=(z14 N p).bind fun y=>(z50 N y.1).bind fun y1=>cond y1 (some ((IntKind.wrap IntKind.u8 (y.1 - 48)),((y.2.1.1,((IntKind.wrap IntKind.i64 (y.2.1.2.1+1)),y.2.1.2.2)),()))) (z93 N (y.2.1.1,((IntKind.wrap IntKind.i64 (y.2.1.2.1+1)),y.2.1.2.2)) from_ y.1 (some ((IntKind.wrap IntKind.u8 ((IntKind.wrap IntKind.u8 (y.1 - 97))+10)),((y.2.1.1,((IntKind.wrap IntKind.i64 (y.2.1.2.1+1)),y.2.1.2.2)),()))))
def t_44 (N:Nat):Tab (Int×(DT3×Unit)):=[([0,1,1,1,1],z1jz N)]
theorem z1as (N:Nat)(x:z1d z1dh):z8t (z1pw N) N (t_44 N) L_44 Tryd.f69 (mkS z1dh 0 x) (z6j (.v (.int .u8)) SQ0 1)=z3d N x.1 x.2.1:=by kernel_rfl
def z8c (N:Nat):List A->Res:=z17 z1dh (fun x=>z3d N x.1 x.2.1) (z7f (.v (.int .u8)) SQ0 1)
theorem zck (N:Nat):Contract Tryd.prog glob 69 (z8c N) :=
 Contract.of (E:=z1pw N) (H:=t_44 N) (L:=L_44) (N:=N) (body:=zom) (K:=(z6j (.v (.int .u8)) SQ0 1)) (z1ou N) Tryd.func69 (by kernel_rfl) (by decide) (fun _ hb=>(TabOk.cons (z1gv hb) TabOk.nil)) (fun x y h=>by rw[z1as];exact h) (z4l (s:=(.v (.int .u8))) (os:=SQ0) (m:=1))
def zwh:Code:=(Tryd.f59.body).getD .skip
def L_45:List (List Nat×List Nat):=[([0],[0,2]),([0,1],[0,2,4]),([0,1,1],[0,2,4]),([0,1,1,1],[0,5,2,4]),([0,1,1,1,1],[5,2,0,4]),([0,0,0,1,1,1,1,1],[22,2,0,5,4]),([1,0,0,1,1,1,1,1],[5,2,0]),([0,1,1,0,0,1,1,1,1,1],[26,2,0,5,4]),([1,1,1,0,0,1,1,1,1,1],[5,2,0]),([0,1,1,1,1,0,0,1,1,1,1,1],[30,0,4,2,5]),([1,1,1,1,1,0,0,1,1,1,1,1],[5,2,0]),([0,1,1,1,1,1,1,0,0,1,1,1,1,1],[42,0,4,5,2]),([1,1,1,1,1,1,1,0,0,1,1,1,1,1],[5,2,0]),([0,1,1,1,1,1,1,1,0,0,1,1,1,1,1],[5,2,0]),([0,0,1,1,1,1,1,0,0,1,1,1,1,1],[6,0,4,2]),([1,0,1,1,1,1,1,0,0,1,1,1,1,1],[5,2,0]),([0,0,1,1,1,0,0,1,1,1,1,1],[2,3,0]),([1,0,1,1,1,0,0,1,1,1,1,1],[2,3,0]),([0,0,1,0,0,1,1,1,1,1],[2,3,0]),([1,0,1,0,0,1,1,1,1,1],[2,3,0]),([0,1,1,1,1,1],[5,2,0]),(zyz,[2,3,0]),(z1dq,[2,3,0])]
def E_45 (N:Nat):Env:=z25 tys glob [(69,z8c N),(61,z1k N),(68,z13 N),(38,z7s N),(37,z2o N),(31,z2t N)] [] [] [0] false [] []
theorem z1ot (N:Nat):EnvOk Tryd.prog (E_45 N):=zg mixed zz (FnsOk.cons (zck N) (FnsOk.cons (z21 N) (FnsOk.cons (z1f N) (FnsOk.cons (zbb N) (FnsOk.cons (z3r N) (FnsOk.cons (z40 N) (FnsOk.nil))))))) (ItsOk.nil)
def z6t (N:Nat)(p:DT3)(set_:(List Int))(from_:Int)(b:Int)(k0:(List Int)->Bool->Option DT6)(k1:DT3->Int->Option DT6):Option DT6:=cond (b == 100) ((z1z N 48 57).bind fun y=>k0 y true) (cond (b == 119) ((z3q N ((48:UInt8)::(49:UInt8)::(50:UInt8)::(51:UInt8)::(52:UInt8)::(53:UInt8)::(54:UInt8)::(55:UInt8)::(56:UInt8)::(57:UInt8)::(65:UInt8)::(66:UInt8)::(67:UInt8)::(68:UInt8)::(69:UInt8)::(70:UInt8)::(71:UInt8)::(72:UInt8)::(73:UInt8)::(74:UInt8)::(75:UInt8)::(76:UInt8)::(77:UInt8)::(78:UInt8)::(79:UInt8)::(80:UInt8)::(81:UInt8)::(82:UInt8)::(83:UInt8)::(84:UInt8)::(85:UInt8)::(86:UInt8)::(87:UInt8)::(88:UInt8)::(89:UInt8)::(90:UInt8)::(95:UInt8)::(97:UInt8)::(98:UInt8)::(99:UInt8)::(100:UInt8)::(101:UInt8)::(102:UInt8)::(103:UInt8)::(104:UInt8)::(105:UInt8)::(106:UInt8)::(107:UInt8)::(108:UInt8)::(109:UInt8)::(110:UInt8)::(111:UInt8)::(112:UInt8)::(113:UInt8)::(114:UInt8)::(115:UInt8)::(116:UInt8)::(117:UInt8)::(118:UInt8)::(119:UInt8)::(120:UInt8)::(121:UInt8)::(122:UInt8)::[])).bind fun y1=>k0 y1 true) (cond (b == 120) ((z3d N p from_).bind fun y2=>(z3d N y2.2.1 from_).bind fun y3=>k1 y3.2.1 (bitsOp Go.BinOp.or IntKind.u8 (shlI IntKind.u8 y2.1 4) y3.1)) (cond (decide ((Go.Lib.indexByte ([(92:UInt8),(46:UInt8),(91:UInt8),(93:UInt8),(40:UInt8),(41:UInt8),(123:UInt8),(125:UInt8),(124:UInt8),(42:UInt8),(43:UInt8),(63:UInt8),(45:UInt8),(94:UInt8)]:List UInt8) (Nat.toUInt8 (Int.toNat b)))<0)) none (k1 p b))))
def z1mg (N:Nat)(x:z1d z1dn)(K:Ex->List A->Option DT6):Option DT6:=z6t N x.1 x.2.1 x.2.2.1 x.2.2.2.1 (fun a1 a2=>(K .ret (mkS SQ42 48 (x.1,a1,a2,())))) (fun a0 a2=>(K .normal (mkS [(0,.box (.pair .str TT0)),(1,.box (.arr 4 (.int .u64))),(2,.v (.int .u8))] 46 (a0,x.2.1,a2,()))))
def z1jy (N:Nat):Hd DT6:=fun st K=>(unS z1dn 46 (restr [5,2,0,4] 0 st)).bind fun x=>z1mg N x K
def t1_45 (N:Nat):Tab DT6:=[]
theorem z1gu {N:Nat}{c:Ctx}(hb:Base Tryd.prog (E_45 N) c):zq Tryd.prog c (zd zwh [0,1,1,1,1,1]) (z1jy N) :=
 zr (s:=z1dn) (m:=46) (g:=z1mg N) [5,2,0,4] (ze hb N (t1_45 N) L_45 zwh TabOk.nil [0,1,1,1,1,1] _ rfl) (fun x K=>by kernel_rfl)
def z26 (N:Nat)(p:DT3):Option DT6:=(zw N p 92).bind fun y=>(z14 N y.2.1).bind fun y1=>z6t N (y1.2.1.1,((IntKind.wrap IntKind.i64 (y1.2.1.2.1+1)),y1.2.1.2.2)) ([0,0,0,0]:List Int) p.2.1 y1.1 (fun set_ class_=>some ((set_,(class_,())),((y1.2.1.1,((IntKind.wrap IntKind.i64 (y1.2.1.2.1+1)),y1.2.1.2.2)),()))) (fun p1 b=>(z1z N b b).bind fun y2=>some ((y2,(false,())),(p1,())))
def t_45 (N:Nat):Tab DT6:=[([0,1,1,1,1,1],z1jy N)]
theorem z1ar (N:Nat)(x:z1d SQ0):z8t (E_45 N) N (t_45 N) L_45 Tryd.f59 (mkS SQ0 0 x) (z6j (.tup [(.arr 4 (.int .u64)),.bool]) SQ0 0)=z26 N x.1:=by kernel_rfl
def z34 (N:Nat):List A->Res:=z17 SQ0 (fun x=>z26 N x.1) (z7f (.tup [(.arr 4 (.int .u64)),.bool]) SQ0 0)
theorem z4h (N:Nat):Contract Tryd.prog glob 59 (z34 N) :=
 Contract.of (E:=E_45 N) (H:=t_45 N) (L:=L_45) (N:=N) (body:=zwh) (K:=(z6j (.tup [(.arr 4 (.int .u64)),.bool]) SQ0 0)) (z1ot N) Tryd.func59 (by kernel_rfl) (by decide) (fun _ hb=>(TabOk.cons (z1gu hb) TabOk.nil)) (fun x y h=>by rw[z1ar];exact h) (z4l (s:=(.tup [(.arr 4 (.int .u64)),.bool])) (os:=SQ0) (m:=0))
def zol:Code:=(Tryd.f76.body).getD .skip
def L_46:List (List Nat×List Nat):=[([0],[0,2]),([0,1],[4,0,2]),([0,0,1,1],[7,0,2,4]),([0,0,1,0,1,1],[8,0,2,7,4]),([1,0,1,0,1,1],[0,4,2]),([0,0,1,1,0,1,0,1,1],[14,0,4,2,7]),([1,0,1,1,0,1,0,1,1],[14,0,4,2]),([0,1,1,0,1,1,0,1,0,1,1],[14,0,4,2,7]),([1,1,1,0,1,1,0,1,0,1,1],[14,0,4,2]),([0,1,1,1,1,0,1,1,0,1,0,1,1],[14,0,4,2,7]),([1,1,1,1,1,0,1,1,0,1,0,1,1],[14,0,4,2]),([1,1,1,1,1,1,0,1,1,0,1,0,1,1],[14,0,4,2]),([1,1,1,0,1,0,1,1],[0,4,2]),([0,1,1,1,0,1,0,1,1],[0,4,2]),([0,0,1,0,1,0,1,1],[2,3,0]),([1,0,1,0,1,0,1,1],[2,3,0]),([1,0,1,1],[0,4,2]),([0,1,1,1],[4,2,0]),([0,1,1,1,1],[2,3,0]),([1,1,1,1,1],[2,3,0])]
def z1pv (N:Nat):Env:=z25 tys glob [(59,z34 N),(68,z13 N),(37,z2o N)] [] [] [0] false [] []
theorem z1os (N:Nat):EnvOk Tryd.prog (z1pv N):=zg mixed zz (FnsOk.cons (z4h N) (FnsOk.cons (z1f N) (FnsOk.cons (z3r N) (FnsOk.nil)))) (ItsOk.nil)
def z83 (N:Nat)(p:DT3)(set_:(List Int))(b:Int)(x7:Int)(k0:Bool->Option DT6):Option DT6:=cond (x7 == 91) (k0 (x7 == 91)) (cond (x7 == 93) (k0 (x7 == 93)) (cond (x7 == 45) (k0 (x7 == 45)) (k0 (x7 == 94))))
def z1lg (N:Nat)(x:z1d z1dm)(K:Ex->List A->Option DT6):Option DT6:=z83 N x.1 x.2.1 x.2.2.1 x.2.2.2.1 (fun a3=>(K .normal (mkS SQ61 20 (x.1,x.2.1,x.2.2.1,a3,()))))
def z1iy (N:Nat):Hd DT6:=fun st K=>(unS z1dm 27 (restr [7,0,4,2] 0 st)).bind fun x=>z1lg N x K
def t2_46 (N:Nat):Tab DT6:=[]
theorem z1fu {N:Nat}{c:Ctx}(hb:Base Tryd.prog (z1pv N) c):zq Tryd.prog c (zd zol z18e) (z1iy N) :=
 zr (s:=z1dm) (m:=27) (g:=z1lg N) [7,0,4,2] (ze hb N (t2_46 N) L_46 zol TabOk.nil z18e _ rfl) (fun x K=>by kernel_rfl)
def z84 (N:Nat)(p:DT3)(set_:(List Int))(b:Int)(k0:DT3->(List Int)->Bool->Option DT6)(k1:Option DT6):Option DT6:=cond (b == 92) ((z26 N p).bind fun y=>k0 y.2.1 y.1.1 y.1.2.1) (z83 N p set_ b b (fun x14=>cond x14 none k1))
def z1mf (N:Nat)(x:z1d z18c)(K:Ex->List A->Option DT6):Option DT6:=z84 N x.1 x.2.1 x.2.2.1 (fun a0 a1 a2=>(K .ret (mkS SQ42 31 (a0,a1,a2,())))) (K .normal (mkS z18c 30 (x.1,x.2.1,x.2.2.1,())))
def z1jx (N:Nat):Hd DT6:=fun st K=>(unS z18c 30 (restr [4,0,2] 0 st)).bind fun x=>z1mf N x K
def t1_46 (N:Nat):Tab DT6:=[(z18e,z1iy N)]
theorem z1gt {N:Nat}{c:Ctx}(hb:Base Tryd.prog (z1pv N) c):zq Tryd.prog c (zd zol [0,1,1]) (z1jx N) :=
 zr (s:=z18c) (m:=30) (g:=z1mf N) [4,0,2] (ze hb N (t1_46 N) L_46 zol (TabOk.cons (z1fu hb) TabOk.nil) [0,1,1] _ rfl) (fun x K=>by kernel_rfl)
def z2v (N:Nat)(p:DT3):Option DT6:=(z14 N p).bind fun y=>z84 N y.2.1 ([0,0,0,0]:List Int) y.1 (fun p1 set_ class_=>some ((set_,(class_,())),(p1,()))) ((z1z N y.1 y.1).bind fun y1=>some ((y1,(false,())),((y.2.1.1,((IntKind.wrap IntKind.i64 (y.2.1.2.1+1)),y.2.1.2.2)),())))
def t_46 (N:Nat):Tab DT6:=[([0,1,1],z1jx N)]
theorem z1aq (N:Nat)(x:z1d SQ0):z8t (z1pv N) N (t_46 N) L_46 Tryd.f76 (mkS SQ0 0 x) (z6j (.tup [(.arr 4 (.int .u64)),.bool]) SQ0 0)=z2v N x.1:=by kernel_rfl
def z77 (N:Nat):List A->Res:=z17 SQ0 (fun x=>z2v N x.1) (z7f (.tup [(.arr 4 (.int .u64)),.bool]) SQ0 0)
theorem zbe (N:Nat):Contract Tryd.prog glob 76 (z77 N) :=
 Contract.of (E:=z1pv N) (H:=t_46 N) (L:=L_46) (N:=N) (body:=zol) (K:=(z6j (.tup [(.arr 4 (.int .u64)),.bool]) SQ0 0)) (z1os N) Tryd.func76 (by kernel_rfl) (by decide) (fun _ hb=>(TabOk.cons (z1gt hb) TabOk.nil)) (fun x y h=>by rw[z1aq];exact h) (z4l (s:=(.tup [(.arr 4 (.int .u64)),.bool])) (os:=SQ0) (m:=0))
def zfo:Code:=(Tryd.f66.body).getD .skip
def z1dy:List (List Nat×List Nat):=[([0],[0,2]),([0,1],[4,0,3,2]),([0,0,1,1],[17,3,2,0]),([1,0,1,1],[0,3,2]),([0,0,1,0,1,1],[2,0]),([1,0,1,0,1,1],[2,0]),([0,1,1,1],[0,3,5,2]),([0,1,1,1,1],[4,6,3,0,5,2]),(zqt,[35,0,5,3,6,2]),(z18d,[3,6,2,0]),(z1ds,[3,6,2,0]),(zyz,[2,0]),(z1dq,[2,0])]
def z1d6 (N:Nat):Env:=z25 tys glob [(76,z77 N),(29,z1i N),(37,z2o N),(36,z5i N)] [] [] [0] false [] []
theorem z1or (N:Nat):EnvOk Tryd.prog (z1d6 N):=zg mixed zz (FnsOk.cons (zbe N) (FnsOk.cons (z20 N) (FnsOk.cons (z3r N) (FnsOk.cons (z8v N) (FnsOk.nil))))) (ItsOk.nil)
def z8a (N:Nat)(p:DT3)(x2:(List Int))(first:(List Int))(class_:Bool)(k0:DT3->Bool->Option DT7):Option DT7:=cond class_ (k0 p true) ((zu N p 45).bind fun y=>k0 y.2.1 (!y.1))
def z1lf (N:Nat)(x:z1d SQ5)(K:Ex->List A->Option DT7):Option DT7:=z8a N x.1 x.2.1 x.2.2.1 x.2.2.2.1 (fun a0 a3=>(K .normal (mkS SQ55 28 (a0,x.2.1,x.2.2.1,a3,()))))
def z1ix (N:Nat):Hd DT7:=fun st K=>(unS SQ5 41 (restr [4,0,3,2] 0 st)).bind fun x=>z1lf N x K
def t2_47 (N:Nat):Tab DT7:=[]
theorem z1ft {N:Nat}{c:Ctx}(hb:Base Tryd.prog (z1d6 N) c):zq Tryd.prog c (zd zfo [0,0,1,1]) (z1ix N) :=
 zr (s:=SQ5) (m:=41) (g:=z1lf N) [4,0,3,2] (ze hb N (t2_47 N) z1dy zfo TabOk.nil [0,0,1,1] _ rfl) (fun x K=>by kernel_rfl)
def z8b (N:Nat)(p:DT3)(x2:(List Int))(first:(List Int))(class_:Bool)(k0:DT3->Option DT7)(k1:DT3->Option DT7):Option DT7:=z8a N p x2 first class_ (fun p1 x17=>cond x17 (k0 p1) (k1 p1))
def z1me (N:Nat)(x:z1d SQ5)(K:Ex->List A->Option DT7):Option DT7:=z8b N x.1 x.2.1 x.2.2.1 x.2.2.2.1 (fun a0=>(K .ret (mkS [(0,.box (.pair .str TT0)),(1,.box (.arr 4 (.int .u64)))] 43 (a0,x.2.2.1,())))) (fun a0=>(K .normal (mkS SQ63 42 (a0,x.2.1,x.2.2.1,()))))
def z1jw (N:Nat):Hd DT7:=fun st K=>(unS SQ5 41 (restr [4,0,3,2] 0 st)).bind fun x=>z1me N x K
def t1_47 (N:Nat):Tab DT7:=[([0,0,1,1],z1ix N)]
theorem z1gs {N:Nat}{c:Ctx}(hb:Base Tryd.prog (z1d6 N) c):zq Tryd.prog c (zd zfo [0,1,1]) (z1jw N) :=
 zr (s:=SQ5) (m:=41) (g:=z1me N) [4,0,3,2] (ze hb N (t1_47 N) z1dy zfo (TabOk.cons (z1ft hb) TabOk.nil) [0,1,1] _ rfl) (fun x K=>by kernel_rfl)
def z88 (N:Nat)(p:DT3)(x2:(List Int))(first:(List Int))(class_:Bool)(from_:Int)(last:(List Int))(k0:Bool->Option DT7):Option DT7:=cond class_ (k0 true) ((z1e N last).bind fun y=>(z1e N first).bind fun y1=>k0 (decide (y<y1)))
def z1kq (N:Nat)(x:z1d SQ2)(K:Ex->List A->Option DT7):Option DT7:=z88 N x.1 x.2.1 x.2.2.1 x.2.2.2.1 x.2.2.2.2.1 x.2.2.2.2.2.1 (fun a5=>(K .normal (mkS SQ39 10 (x.1,x.2.1,x.2.2.1,x.2.2.2.2.1,x.2.2.2.2.2.1,a5,()))))
def z1i8 (N:Nat):Hd DT7:=fun st K=>(unS SQ2 39 (restr [4,6,3,0,5,2] 0 st)).bind fun x=>z1kq N x K
def t4_47 (N:Nat):Tab DT7:=[]
theorem z1f4 {N:Nat}{c:Ctx}(hb:Base Tryd.prog (z1d6 N) c):zq Tryd.prog c (zd zfo zqt) (z1i8 N) :=
 zr (s:=SQ2) (m:=39) (g:=z1kq N) [4,6,3,0,5,2] (ze hb N (t4_47 N) z1dy zfo TabOk.nil zqt _ rfl) (fun x K=>by kernel_rfl)
def z89 (N:Nat)(p:DT3)(x2:(List Int))(first:(List Int))(class_:Bool)(from_:Int)(last:(List Int))(k0:Option DT7):Option DT7:=z88 N p x2 first class_ from_ last (fun x35=>cond x35 none k0)
def z1kz (N:Nat)(x:z1d SQ2)(K:Ex->List A->Option DT7):Option DT7:=z89 N x.1 x.2.1 x.2.2.1 x.2.2.2.1 x.2.2.2.2.1 x.2.2.2.2.2.1 (K .normal (mkS SQ48 39 (x.1,x.2.1,x.2.2.1,x.2.2.2.2.2.1,())))
def z1ih (N:Nat):Hd DT7:=fun st K=>(unS SQ2 39 (restr [4,6,3,0,5,2] 0 st)).bind fun x=>z1kz N x K
def t3_47 (N:Nat):Tab DT7:=[(zqt,z1i8 N)]
theorem z1fd {N:Nat}{c:Ctx}(hb:Base Tryd.prog (z1d6 N) c):zq Tryd.prog c (zd zfo [0,1,1,1,1,1]) (z1ih N) :=
 zr (s:=SQ2) (m:=39) (g:=z1kz N) [4,6,3,0,5,2] (ze hb N (t3_47 N) z1dy zfo (TabOk.cons (z1f4 hb) TabOk.nil) [0,1,1,1,1,1] _ rfl) (fun x K=>by kernel_rfl)
def z2y (N:Nat)(p:DT3):Option DT7:=(z2v N p).bind fun y=>z8b N y.2.1 ([0,0,0,0]:List Int) y.1.1 y.1.2.1 (fun p1=>some (y.1.1,(p1,()))) (fun p2=>(z2v N p2).bind fun y1=>z89 N y1.2.1 ([0,0,0,0]:List Int) y.1.1 y1.1.2.1 p2.2.1 y1.1.1 ((z1e N y.1.1).bind fun y2=>(z1e N y1.1.1).bind fun y3=>(z1z N (IntKind.wrap IntKind.u8 y2) (IntKind.wrap IntKind.u8 y3)).bind fun y4=>some (y4,(y1.2.1,()))))
def t_47 (N:Nat):Tab DT7:=[([0,1,1],z1jw N),([0,1,1,1,1,1],z1ih N)]
theorem z1ap (N:Nat)(x:z1d SQ0):z8t (z1d6 N) N (t_47 N) z1dy Tryd.f66 (mkS SQ0 0 x) (z6j (.v (.arr 4 (.int .u64))) SQ0 0)=z2y N x.1:=by kernel_rfl
def z79 (N:Nat):List A->Res:=z17 SQ0 (fun x=>z2y N x.1) (z7f (.v (.arr 4 (.int .u64))) SQ0 0)
theorem zbf (N:Nat):Contract Tryd.prog glob 66 (z79 N) :=
 Contract.of (E:=z1d6 N) (H:=t_47 N) (L:=z1dy) (N:=N) (body:=zfo) (K:=(z6j (.v (.arr 4 (.int .u64))) SQ0 0)) (z1or N) Tryd.func66 (by kernel_rfl) (by decide) (fun _ hb=>(TabOk.cons (z1gs hb) (TabOk.cons (z1fd hb) TabOk.nil))) (fun x y h=>by rw[z1ap];exact h) (z4l (s:=(.v (.arr 4 (.int .u64)))) (os:=SQ0) (m:=0))
def zwg:Code:=(Tryd.f67.body).getD .skip
def L_48:List (List Nat×List Nat):=[([0],[2,3,4]),([0,0,1],[6,2,3,4]),([0,1,0,1],[6,2,3,4]),([0,0,0,1,0,1],[7,6,2,3,4]),([0,1,0,0,1,0,1],[6,2,3,4]),(z1dt,[2,4]),(z1nq,[5,2,3,6,4]),([1,0,0,1,1,0,0,1,0,1],[6,2,3,4]),(z1np,[6,2,3,4]),(z1no,[6,2,3,4]),([1,0,1],[2,4]),([0,1,1],[4]),([1,1,1],[4])]
def E_48 (N:Nat):Env:=z25 tys glob [] [] [] [] false [] []
theorem z1oq (N:Nat):EnvOk Tryd.prog (E_48 N):=zg mixed zz (FnsOk.nil) (ItsOk.nil)
def zk5 (N:Nat)(t:(List Int))(x4:(List Int))(s:(List Int))(x6:Int)(rec:(List Int)->Int->Option (List Int))(k0:(List Int)->Option (List Int)):Option (List Int):=cond (decide (x6<4)) (cond (inR x6 4) (cond (decide ((Int.toNat x6)<(List.length s))) (cond (inR x6 4) (cond (decide ((Int.toNat x6)<(List.length t))) (cond (inR x6 4) (cond (decide ((Int.toNat x6)<(List.length s))) (rec (List.set s (Int.toNat x6) (bitsOp Go.BinOp.or IntKind.u64 (List.getD s (Int.toNat x6) 0) (List.getD t (Int.toNat x6) 0))) (IntKind.wrap IntKind.i64 (x6+1))) none) none) none) none) none) none) (k0 s)
def zry (N:Nat)(s:(List Int))(t:(List Int))(x4:(List Int))(x6:Int)(k0:(List Int)->Option (List Int)):Option (List Int):=iter (fun (v:((List Int)×Int)) r=>zk5 N t x4 v.1 v.2 (fun s x6=>(r (s,x6))) k0) N (s,x6)
def z1md (N:Nat)(i:((List Int)×(List Int)))(v:((List Int)×Int))(r:((List Int)×Int)->Option (List Int))(K:Ex->List A->Option (List Int)):Option (List Int):=zk5 N i.1 i.2 v.1 v.2 (fun s x6=>(r (s,x6))) (fun a0=>(K (.exit 0) (mkS [(2,.box (.arr 4 (.int .u64))),(1,.box (.arr 4 (.int .u64)))] 14 (a0,i.2,()))))
def z1jv (N:Nat):Hd (List Int):=fun st K=>(unS SQ24 12 (restr [6,2,3,4] 0 st)).bind fun x=>iter (fun v r=>z1md N ((fun x=>(x.2.1,x.2.2.1)) x) v r K) N ((fun x=>(x.1,x.2.2.2.1)) x)
def t1_48 (N:Nat):Tab (List Int):=[]
theorem z1gr {N:Nat}{c:Ctx}(hb:Base Tryd.prog (E_48 N) c):zq Tryd.prog c (zd zwg [0,1,0,1]) (z1jv N) :=
 z6c (s:=SQ24) (m:=12) (z1md N) [6,2,3,4] N (fun x=>(x.2.1,x.2.2.1)) (fun x=>(x.1,x.2.2.2.1)) (fun i v=>(v.1,i.1,i.2,v.2,())) (fun _=>rfl) (ze hb N (t1_48 N) L_48 zwg TabOk.nil [0,0,1,0,1] _ rfl) (fun i v r K=>by kernel_rfl)
def zac (N:Nat)(s:(List Int))(t:(List Int)):Option (List Int):=zry N s t ([0,0,0,0]:List Int) 0 (fun s1=>some s1)
def t_48 (N:Nat):Tab (List Int):=[([0,1,0,1],z1jv N)]
theorem z1ao (N:Nat)(x:z1d z171):z8t (E_48 N) N (t_48 N) L_48 Tryd.f67 (mkS z171 0 x) (z53 (.v (.arr 4 (.int .u64))) 2)=zac N x.1 x.2.1:=by kernel_rfl
def zdw (N:Nat):List A->Res:=z17 z171 (fun x=>zac N x.1 x.2.1) (zag (.v (.arr 4 (.int .u64))) 2)
theorem zk6 (N:Nat):Contract Tryd.prog glob 67 (zdw N) :=
 Contract.of (E:=E_48 N) (H:=t_48 N) (L:=L_48) (N:=N) (body:=zwg) (K:=(z53 (.v (.arr 4 (.int .u64))) 2)) (z1oq N) Tryd.func67 (by kernel_rfl) (by decide) (fun _ hb=>(TabOk.cons (z1gr hb) TabOk.nil)) (fun x y h=>by rw[z1ao];exact h) (z1p (s:=(.v (.arr 4 (.int .u64)))) (m:=2))
def zwf:Code:=(Tryd.f58.body).getD .skip
def L_49:List (List Nat×List Nat):=[([0],[0,2]),([0,1],[0,2]),([0,1,1],[0,3,2]),([0,1,1,1],[0,4,3,2]),([0,0,1,1,1,1],[0,4,3,2]),([0,0,0,0,0,1,1,1,1],[13,4,0,3,2]),([1,0,0,0,0,1,1,1,1],[4,0,3,2]),(PQ85,[3,4,2,0]),([0,1,0,0,0,1,1,1,1],[0,4,3,2]),([1,0,0,0,1,1,1,1],[0,4,3,2]),([0,1,1,1,1],[3,4,2,0]),(zqt,[18,4,2,0]),(z18d,[4,2,0]),([0,0,1,0,1,1,1,1,1],[2,0]),([1,0,1,0,1,1,1,1,1],[2,0]),(zyz,[2,0]),(z1dq,[2,0])]
def E_49 (N:Nat):Env:=z25 tys glob [(67,zdw N),(66,z79 N),(29,z1i N),(61,z1k N),(54,z9z N)] [] [] [0] false [] []
theorem z1op (N:Nat):EnvOk Tryd.prog (E_49 N):=zg mixed zz (FnsOk.cons (zk6 N) (FnsOk.cons (zbf N) (FnsOk.cons (z20 N) (FnsOk.cons (z21 N) (FnsOk.cons (zdx N) (FnsOk.nil)))))) (ItsOk.nil)
def z3z (N:Nat)(x2:(List Int))(not_:Bool)(p:DT3)(set_:(List Int))(rec:DT3->(List Int)->Option DT7)(k0:DT3->(List Int)->Option DT7):Option DT7:=(zu N p 93).bind fun y=>cond (!y.1) ((z2y N y.2.1).bind fun y1=>(zac N set_ y1.1).bind fun y2=>rec y1.2.1 y2) (k0 y.2.1 set_)
def z9h (N:Nat)(p:DT3)(x2:(List Int))(not_:Bool)(set_:(List Int))(k0:DT3->(List Int)->Option DT7):Option DT7:=iter (fun (v:(DT3×(List Int))) r=>z3z N x2 not_ v.1 v.2 (fun p set_=>(r (p,set_))) k0) N (p,set_)
def z1mc (N:Nat)(i:((List Int)×Bool))(v:(DT3×(List Int)))(r:(DT3×(List Int))->Option DT7)(K:Ex->List A->Option DT7):Option DT7:=z3z N i.1 i.2 v.1 v.2 (fun p set_=>(r (p,set_))) (fun a0 a3=>(K (.exit 0) (mkS z1dp 17 (a0,i.1,i.2,a3,()))))
def z1ju (N:Nat):Hd DT7:=fun st K=>(unS z1dp 17 (restr [0,4,3,2] 0 st)).bind fun x=>iter (fun v r=>z1mc N ((fun x=>(x.2.1,x.2.2.1)) x) v r K) N ((fun x=>(x.1,x.2.2.2.1)) x)
def t1_49 (N:Nat):Tab DT7:=[]
theorem z1gq {N:Nat}{c:Ctx}(hb:Base Tryd.prog (E_49 N) c):zq Tryd.prog c (zd zwf [0,0,1,1,1,1]) (z1ju N) :=
 z6c (s:=z1dp) (m:=17) (z1mc N) [0,4,3,2] N (fun x=>(x.2.1,x.2.2.1)) (fun x=>(x.1,x.2.2.2.1)) (fun i v=>(v.1,i.1,i.2,v.2,())) (fun _=>rfl) (ze hb N (t1_49 N) L_49 zwf TabOk.nil [0,0,0,1,1,1,1] _ rfl) (fun i v r K=>by kernel_rfl)
def z2z (N:Nat)(p:DT3):Option DT7:=(zw N p 91).bind fun y=>(zu N y.2.1 94).bind fun y1=>(z2y N y1.2.1).bind fun y2=>z9h N y2.2.1 ([0,0,0,0]:List Int) y1.1 y2.1 (fun p1 set_=>cond y1.1 ((z7j N set_).bind fun y3=>some (y3,(p1,()))) (some (set_,(p1,()))))
def t_49 (N:Nat):Tab DT7:=[([0,0,1,1,1,1],z1ju N)]
theorem z1an (N:Nat)(x:z1d SQ0):z8t (E_49 N) N (t_49 N) L_49 Tryd.f58 (mkS SQ0 0 x) (z6j (.v (.arr 4 (.int .u64))) SQ0 0)=z2z N x.1:=by kernel_rfl
def z4z (N:Nat):List A->Res:=z17 SQ0 (fun x=>z2z N x.1) (z7f (.v (.arr 4 (.int .u64))) SQ0 0)
theorem z9i (N:Nat):Contract Tryd.prog glob 58 (z4z N) :=
 Contract.of (E:=E_49 N) (H:=t_49 N) (L:=L_49) (N:=N) (body:=zwf) (K:=(z6j (.v (.arr 4 (.int .u64))) SQ0 0)) (z1op N) Tryd.func58 (by kernel_rfl) (by decide) (fun _ hb=>(TabOk.cons (z1gq hb) TabOk.nil)) (fun x y h=>by rw[z1an];exact h) (z4l (s:=(.v (.arr 4 (.int .u64)))) (os:=SQ0) (m:=0))
def zwe:Code:=(Tryd.f50.body).getD .skip
def L_50:List (List Nat×List Nat):=[([0],[0,2]),([0,1],[3,0,2]),([0,1,1],[15,0,2,3]),([0,0,1,1,1],[36,0,2,15,3]),([1,0,1,1,1],[2,0]),([0,1,1,0,1,1,1],[40,0,2,15,3]),([1,1,1,0,1,1,1],[2,0]),([0,1,1,1,1,0,1,1,1],[51,0,2,15,3]),([1,1,1,1,1,0,1,1,1],[2,0]),([0,1,1,1,1,1,1,0,1,1,1],[56,0,2,3]),([1,1,1,1,1,1,1,0,1,1,1],[2,0]),([0,0,1,1,1,1,1,1,1,1,0,1,1,1],[18,0,3,2]),([1,0,1,1,1,1,1,1,1,1,0,1,1,1],[0,3,2]),([0,1,0,1,1,1,1,1,1,1,1,0,1,1,1],[0,3,2]),([0,1,1,1,1,1,1,1,1,1,0,1,1,1],[3,2,0]),([0,1,1,1,1,1,1,1,1,1,1,0,1,1,1],[2,0]),([1,1,1,1,1,1,1,1,1,1,1,0,1,1,1],[2,0]),([0,0,1,1,1,1,1,1,1,0,1,1,1],[4,2,0]),([0,1,0,1,1,1,1,1,1,1,0,1,1,1],[2,0]),([1,1,0,1,1,1,1,1,1,1,0,1,1,1],[2,0]),([0,0,1,1,1,1,1,0,1,1,1],[2,0]),([1,0,1,1,1,1,1,0,1,1,1],[2,0]),([0,0,1,1,1,0,1,1,1],[2,0]),([0,1,0,1,1,1,0,1,1,1],[2,0]),([1,1,0,1,1,1,0,1,1,1],[2,0]),(z1d1,[2,0]),(z1d0,[2,0]),([1,1,1],[2,0])]
def E_50 (N:Nat)(self:z8):Env:=z25 tys glob [(58,z4z N),(59,z34 N),(57,zf6 N),(56,z6s N self),(37,z2o N),(31,z2t N),(21,z17 SQ0 (fun x=>self x.1) (z7f (.v TT1) SQ0 0))] [] [] [0] false [] []
theorem z1oo (N:Nat)(self:z8)(hself:Contract Tryd.prog glob 21 (z17 SQ0 (fun x=>self x.1) (z7f (.v TT1) SQ0 0))):EnvOk Tryd.prog (E_50 N self):=zg mixed zz (FnsOk.cons (z9i N) (FnsOk.cons (z4h N) (FnsOk.cons (zlo N) (FnsOk.cons (zao N self hself) (FnsOk.cons (z3r N) (FnsOk.cons (z40 N) (FnsOk.cons (hself) (FnsOk.nil)))))))) (ItsOk.nil)
def z8e (N:Nat)(self:z8)(p:DT3)(x2:DT2)(b:Int)(k0:Option (DT2×(DT3×Unit))):Option (DT2×(DT3×Unit)):=cond (decide (0<=(Go.Lib.indexByte ([(92:UInt8),(46:UInt8),(91:UInt8),(93:UInt8),(40:UInt8),(41:UInt8),(123:UInt8),(125:UInt8),(124:UInt8),(42:UInt8),(43:UInt8),(63:UInt8)]:List UInt8) (Nat.toUInt8 (Int.toNat b))))) none k0
def z1mb (N:Nat)(self:z8)(x:z1d z18b)(K:Ex->List A->Option (DT2×(DT3×Unit))):Option (DT2×(DT3×Unit)):=z8e N self x.1 x.2.1 x.2.2.1 (K .normal (mkS z18b 61 (x.1,x.2.1,x.2.2.1,())))
def z1jt (N:Nat)(self:z8):Hd (DT2×(DT3×Unit)):=fun st K=>(unS z18b 61 (restr [3,0,2] 0 st)).bind fun x=>z1mb N self x K
def t1_50 (N:Nat)(self:z8):Tab (DT2×(DT3×Unit)):=[]
theorem z1gp {N:Nat}{self:z8}{c:Ctx}(hb:Base Tryd.prog (E_50 N self) c):zq Tryd.prog c (zd zwe z1dv) (z1jt N self) :=
 zr (s:=z18b) (m:=61) (g:=z1mb N self) [3,0,2] (ze hb N (t1_50 N self) L_50 zwe TabOk.nil z1dv _ rfl) (fun x K=>by kernel_rfl)
def z48 (N:Nat)(self:z8)(p:DT3):Option (DT2×(DT3×Unit)):=cond (inR p.2.1 (List.length p.1)) (cond ((UInt8.toNat (List.getD p.1 (Int.toNat p.2.1) (0:UInt8)):Int) == 40) ((z3y N self p).bind fun y=>some (y.1,(y.2.1,()))) (cond ((UInt8.toNat (List.getD p.1 (Int.toNat p.2.1) (0:UInt8)):Int) == 46) ((z1z N 0 255).bind fun y1=>some ((1,(y1,([],(0,(0,()))))),((p.1,((IntKind.wrap IntKind.i64 (p.2.1+1)),p.2.2)),()))) (cond ((UInt8.toNat (List.getD p.1 (Int.toNat p.2.1) (0:UInt8)):Int) == 91) ((z2z N p).bind fun y2=>some ((1,(y2.1,([],(0,(0,()))))),(y2.2.1,()))) (cond ((UInt8.toNat (List.getD p.1 (Int.toNat p.2.1) (0:UInt8)):Int) == 92) ((z26 N p).bind fun y3=>some ((1,(y3.1.1,([],(0,(0,()))))),(y3.2.1,()))) (z8e N self p (0,(([0,0,0,0]:List Int),([],(0,(0,()))))) (UInt8.toNat (List.getD p.1 (Int.toNat p.2.1) (0:UInt8)):Int) ((z1z N (UInt8.toNat (List.getD p.1 (Int.toNat p.2.1) (0:UInt8)):Int) (UInt8.toNat (List.getD p.1 (Int.toNat p.2.1) (0:UInt8)):Int)).bind fun y4=>some ((1,(y4,([],(0,(0,()))))),((p.1,((IntKind.wrap IntKind.i64 (p.2.1+1)),p.2.2)),())))))))) none
def t_50 (N:Nat)(self:z8):Tab (DT2×(DT3×Unit)):=[(z1dv,z1jt N self)]
theorem z1am (N:Nat)(self:z8)(x:z1d SQ0):z8t (E_50 N self) N (t_50 N self) L_50 Tryd.f50 (mkS SQ0 0 x) (z6j (.v TT1) SQ0 0)=z48 N self x.1:=by kernel_rfl
def z7d (N:Nat)(self:z8):List A->Res:=z17 SQ0 (fun x=>z48 N self x.1) (z7f (.v TT1) SQ0 0)
theorem zbg (N:Nat)(self:z8)(hself:Contract Tryd.prog glob 21 (z17 SQ0 (fun x=>self x.1) (z7f (.v TT1) SQ0 0))):Contract Tryd.prog glob 50 (z7d N self) :=
 Contract.of (E:=E_50 N self) (H:=t_50 N self) (L:=L_50) (N:=N) (body:=zwe) (K:=(z6j (.v TT1) SQ0 0)) (z1oo N self hself) Tryd.func50 (by kernel_rfl) (by decide) (fun _ hb=>(TabOk.cons (z1gp hb) TabOk.nil)) (fun x y h=>by rw[z1am];exact h) (z4l (s:=(.v TT1)) (os:=SQ0) (m:=0))
def zae:Code:=(Tryd.f60.body).getD .skip
def z18j:List (List Nat×List Nat):=[([0],[0]),([0,1],[0,3]),([0,0,1,1],[12,0,3]),([1,0,1,1],[0,3]),([0,1,0,1,1],[0,3]),([0,1,1,1],[0,4,3]),([0,0,1,1,1,1],[0,4,3]),([0,0,0,0,0,1,1,1,1],[37,4,0,3]),([1,0,0,0,0,1,1,1,1],[4,0,3]),(PQ85,[0,3,4]),([0,0,1,0,0,0,1,1,1,1],[0,4,3]),([1,0,1,0,0,0,1,1,1,1],[0,4,3]),([1,0,0,0,1,1,1,1],[0,4,3]),([0,1,1,1,1],[0,3,4]),(zqt,[75,0,3,4]),(z18d,[4,0,3]),(z1ds,[4,0,3]),(z1du,[80,0,3,4]),([1,0,1,1,1,1,1,1],[4,0]),([0,1,0,1,1,1,1,1,1],[4,0]),(z18g,[2,0]),(z18f,[2,0])]
def z175 (N:Nat):Env:=z25 tys glob [(70,z7e N),(68,z13 N)] [] [] [0] false [] []
theorem z1on (N:Nat):EnvOk Tryd.prog (z175 N):=zg mixed zz (FnsOk.cons (zaf N) (FnsOk.cons (z1f N) (FnsOk.nil))) (ItsOk.nil)
def z91 (N:Nat)(p:DT3)(from_:Int)(k0:DT3->Option (Int×(DT3×Unit))):Option (Int×(DT3×Unit)):=(z14 N p).bind fun y=>(z50 N y.1).bind fun y1=>cond (!y1) none (k0 y.2.1)
def z1ma (N:Nat)(x:z1d z18a)(K:Ex->List A->Option (Int×(DT3×Unit))):Option (Int×(DT3×Unit)):=z91 N x.1 x.2.1 (fun a0=>(K .normal (mkS z18a 81 (a0,x.2.1,()))))
def z1js (N:Nat):Hd (Int×(DT3×Unit)):=fun st K=>(unS z18a 81 (restr [0,3] 0 st)).bind fun x=>z1ma N x K
def t1_51 (N:Nat):Tab (Int×(DT3×Unit)):=[]
theorem z1go {N:Nat}{c:Ctx}(hb:Base Tryd.prog (z175 N) c):zq Tryd.prog c (zd zae [0,1,1]) (z1js N) :=
 zr (s:=z18a) (m:=81) (g:=z1ma N) [0,3] (ze hb N (t1_51 N) z18j zae TabOk.nil [0,1,1] _ rfl) (fun x K=>by kernel_rfl)
def z5w (N:Nat)(p:DT3)(from_:Int)(n:Int)(k0:Option (Int×(DT3×Unit)))(k1:Option (Int×(DT3×Unit))):Option (Int×(DT3×Unit)):=cond (decide (p.2.1<(List.length p.1:Int))) (cond (inR p.2.1 (List.length p.1)) ((z50 N (UInt8.toNat (List.getD p.1 (Int.toNat p.2.1) (0:UInt8)):Int)).bind fun y=>cond y k0 k1) none) k1
def z1kp (N:Nat)(x:z1d SQ1)(K:Ex->List A->Option (Int×(DT3×Unit))):Option (Int×(DT3×Unit)):=z5w N x.1 x.2.1 x.2.2.1 (K .normal (mkS SQ1 80 (x.1,x.2.1,x.2.2.1,()))) (K (.exit 0) (mkS SQ1 80 (x.1,x.2.1,x.2.2.1,())))
def z1i7 (N:Nat):Hd (Int×(DT3×Unit)):=fun st K=>(unS SQ1 80 (restr [0,4,3] 0 st)).bind fun x=>z1kp N x K
def t4_51 (N:Nat):Tab (Int×(DT3×Unit)):=[]
theorem z1f3 {N:Nat}{c:Ctx}(hb:Base Tryd.prog (z175 N) c):zq Tryd.prog c (zd zae z1dr) (z1i7 N) :=
 zr (s:=SQ1) (m:=80) (g:=z1kp N) [0,4,3] (ze hb N (t4_51 N) z18j zae TabOk.nil z1dr _ rfl) (fun x K=>by kernel_rfl)
def z2r (N:Nat)(from_:Int)(p:DT3)(n:Int)(rec:DT3->Int->Option (Int×(DT3×Unit)))(k0:DT3->Int->Option (Int×(DT3×Unit))):Option (Int×(DT3×Unit)):=z5w N p from_ n (cond (inR p.2.1 (List.length p.1)) (rec (p.1,((IntKind.wrap IntKind.i64 (p.2.1+1)),p.2.2)) (if (17<(IntKind.wrap IntKind.i64 ((IntKind.wrap IntKind.i64 (10*n))+(IntKind.wrap IntKind.i64 (IntKind.wrap IntKind.u8 ((UInt8.toNat (List.getD p.1 (Int.toNat p.2.1) (0:UInt8)):Int) - 48)))))) then 17 else (IntKind.wrap IntKind.i64 ((IntKind.wrap IntKind.i64 (10*n))+(IntKind.wrap IntKind.i64 (IntKind.wrap IntKind.u8 ((UInt8.toNat (List.getD p.1 (Int.toNat p.2.1) (0:UInt8)):Int) - 48))))))) none) (k0 p n)
def zci (N:Nat)(p:DT3)(from_:Int)(n:Int)(k0:DT3->Int->Option (Int×(DT3×Unit))):Option (Int×(DT3×Unit)):=iter (fun (v:(DT3×Int)) r=>z2r N from_ v.1 v.2 (fun p n=>(r (p,n))) k0) N (p,n)
def z1ky (N:Nat)(i:Int)(v:(DT3×Int))(r:(DT3×Int)->Option (Int×(DT3×Unit)))(K:Ex->List A->Option (Int×(DT3×Unit))):Option (Int×(DT3×Unit)):=z2r N i v.1 v.2 (fun p n=>(r (p,n))) (fun a0 a2=>(K (.exit 0) (mkS SQ1 80 (a0,i,a2,()))))
def z1ig (N:Nat):Hd (Int×(DT3×Unit)):=fun st K=>(unS SQ1 80 (restr [0,4,3] 0 st)).bind fun x=>iter (fun v r=>z1ky N ((fun x=>x.2.1) x) v r K) N ((fun x=>(x.1,x.2.2.1)) x)
def t3_51 (N:Nat):Tab (Int×(DT3×Unit)):=[(z1dr,z1i7 N)]
theorem z1fc {N:Nat}{c:Ctx}(hb:Base Tryd.prog (z175 N) c):zq Tryd.prog c (zd zae [0,0,1,1,1,1]) (z1ig N) :=
 z6c (s:=SQ1) (m:=80) (z1ky N) [0,4,3] N (fun x=>x.2.1) (fun x=>(x.1,x.2.2.1)) (fun i v=>(v.1,i,v.2,())) (fun _=>rfl) (ze hb N (t3_51 N) z18j zae (TabOk.cons (z1f3 hb) TabOk.nil) [0,0,0,1,1,1,1] _ rfl) (fun i v r K=>by kernel_rfl)
def z90 (N:Nat)(p:DT3)(from_:Int)(n:Int)(k0:DT3->Int->Option (Int×(DT3×Unit))):Option (Int×(DT3×Unit)):=zci N p from_ n (fun p1 n1=>k0 p1 n1)
def z1le (N:Nat)(x:z1d SQ1)(K:Ex->List A->Option (Int×(DT3×Unit))):Option (Int×(DT3×Unit)):=z90 N x.1 x.2.1 x.2.2.1 (fun a0 a2=>(K .normal (mkS SQ1 80 (a0,x.2.1,a2,()))))
def z1iw (N:Nat):Hd (Int×(DT3×Unit)):=fun st K=>(unS SQ1 80 (restr [0,4,3] 0 st)).bind fun x=>z1le N x K
def t2_51 (N:Nat):Tab (Int×(DT3×Unit)):=[([0,0,1,1,1,1],z1ig N)]
theorem z1fs {N:Nat}{c:Ctx}(hb:Base Tryd.prog (z175 N) c):zq Tryd.prog c (zd zae [0,1,1,1,1]) (z1iw N) :=
 zr (s:=SQ1) (m:=80) (g:=z1le N) [0,4,3] (ze hb N (t2_51 N) z18j zae (TabOk.cons (z1fc hb) TabOk.nil) [0,1,1,1,1] _ rfl) (fun x K=>by kernel_rfl)
def z8y (N:Nat)(p:DT3)(from_:Int)(n:Int)(k0:Bool->Option (Int×(DT3×Unit))):Option (Int×(DT3×Unit)):=cond (inR from_ (List.length p.1)) (cond ((UInt8.toNat (List.getD p.1 (Int.toNat from_) (0:UInt8)):Int) == 48) (k0 (decide ((IntKind.wrap IntKind.i64 (from_+1))<p.2.1))) (k0 false)) none
def z1ki (N:Nat)(x:z1d SQ1)(K:Ex->List A->Option (Int×(DT3×Unit))):Option (Int×(DT3×Unit)):=z8y N x.1 x.2.1 x.2.2.1 (fun a3=>(K .normal (mkS SQ64 9 (x.1,x.2.1,x.2.2.1,a3,()))))
def z1i0 (N:Nat):Hd (Int×(DT3×Unit)):=fun st K=>(unS SQ1 80 (restr [0,3,4] 0 st)).bind fun x=>z1ki N x K
def t6_51 (N:Nat):Tab (Int×(DT3×Unit)):=[]
theorem z1ew {N:Nat}{c:Ctx}(hb:Base Tryd.prog (z175 N) c):zq Tryd.prog c (zd zae zqt) (z1i0 N) :=
 zr (s:=SQ1) (m:=80) (g:=z1ki N) [0,3,4] (ze hb N (t6_51 N) z18j zae TabOk.nil zqt _ rfl) (fun x K=>by kernel_rfl)
def z8z (N:Nat)(p:DT3)(from_:Int)(n:Int)(k0:Option (Int×(DT3×Unit))):Option (Int×(DT3×Unit)):=z8y N p from_ n (fun x75=>cond x75 none k0)
def z1kk (N:Nat)(x:z1d SQ1)(K:Ex->List A->Option (Int×(DT3×Unit))):Option (Int×(DT3×Unit)):=z8z N x.1 x.2.1 x.2.2.1 (K .normal (mkS SQ1 80 (x.1,x.2.1,x.2.2.1,())))
def z1i2 (N:Nat):Hd (Int×(DT3×Unit)):=fun st K=>(unS SQ1 80 (restr [0,3,4] 0 st)).bind fun x=>z1kk N x K
def t5_51 (N:Nat):Tab (Int×(DT3×Unit)):=[(zqt,z1i0 N)]
theorem z1ey {N:Nat}{c:Ctx}(hb:Base Tryd.prog (z175 N) c):zq Tryd.prog c (zd zae [0,1,1,1,1,1]) (z1i2 N) :=
 zr (s:=SQ1) (m:=80) (g:=z1kk N) [0,3,4] (ze hb N (t5_51 N) z18j zae (TabOk.cons (z1ew hb) TabOk.nil) [0,1,1,1,1,1] _ rfl) (fun x K=>by kernel_rfl)
def z3c (N:Nat)(p:DT3):Option (Int×(DT3×Unit)):=z91 N p p.2.1 (fun p1=>z90 N p1 p.2.1 0 (fun p2 n=>z8z N p2 p.2.1 n (cond (decide (16<n)) none (some (n,(p2,()))))))
def t_51 (N:Nat):Tab (Int×(DT3×Unit)):=[([0,1,1],z1js N),([0,1,1,1,1],z1iw N),([0,1,1,1,1,1],z1i2 N)]
theorem z1al (N:Nat)(x:z1d SQ0):z8t (z175 N) N (t_51 N) z18j Tryd.f60 (mkS SQ0 0 x) (z6j (.v (.int .i64)) SQ0 0)=z3c N x.1:=by kernel_rfl
def z85 (N:Nat):List A->Res:=z17 SQ0 (fun x=>z3c N x.1) (z7f (.v (.int .i64)) SQ0 0)
theorem zcj (N:Nat):Contract Tryd.prog glob 60 (z85 N) :=
 Contract.of (E:=z175 N) (H:=t_51 N) (L:=z18j) (N:=N) (body:=zae) (K:=(z6j (.v (.int .i64)) SQ0 0)) (z1on N) Tryd.func60 (by kernel_rfl) (by decide) (fun _ hb=>(TabOk.cons (z1go hb) (TabOk.cons (z1fs hb) (TabOk.cons (z1ey hb) TabOk.nil)))) (fun x y h=>by rw[z1al];exact h) (z4l (s:=(.v (.int .i64))) (os:=SQ0) (m:=0))
def zoj:Code:=(Tryd.f51.body).getD .skip
def L_52:List (List Nat×List Nat):=[([0],[0]),([0,1],[0,4]),([0,1,1],[2,0,4]),([0,1,1,1],[0,2,3,4]),([0,0,1,1,1,1],[13,0,2,3,4]),([1,0,1,1,1,1],[3,2,0,4]),([0,0,0,1,0,1,1,1,1],[15,2,0]),([1,0,0,1,0,1,1,1,1],[0,2]),([0,0,1,0,0,1,0,1,1,1,1],[2,3,0]),([1,0,1,0,0,1,0,1,1,1,1],[2,3,0]),([0,1,0,1,0,1,1,1,1],[0,2,4]),([1,1,0,1,0,1,1,1,1],[3,2,0,4]),(zqt,[26,0,4,2,3]),(z18d,[0,2,3]),(z1ds,[0,2,3]),(zyz,[2,3,0]),(z18g,[2,3,0]),(z18f,[2,3,0])]
def z1pu (N:Nat):Env:=z25 tys glob [(60,z85 N),(29,z1i N),(61,z1k N)] [] [] [0] false [] []
theorem z1om (N:Nat):EnvOk Tryd.prog (z1pu N):=zg mixed zz (FnsOk.cons (zcj N) (FnsOk.cons (z20 N) (FnsOk.cons (z21 N) (FnsOk.nil)))) (ItsOk.nil)
def z6u (N:Nat)(p:DT3)(low:Int)(high:Int)(from_:Int)(k0:DT3->Int->Option ((Int×Int×Unit)×(DT3×Unit)))(k1:DT3->Int->Int->Option ((Int×Int×Unit)×(DT3×Unit))):Option ((Int×Int×Unit)×(DT3×Unit)):=(zu N p 44).bind fun y=>cond y.1 ((zu N y.2.1 125).bind fun y1=>cond y1.1 (k0 y1.2.1 (-1)) ((z3c N y1.2.1).bind fun y2=>k1 y2.2.1 y2.1 y1.2.1.2.1)) (k1 y.2.1 high from_)
def z1m9 (N:Nat)(x:z1d SQ6)(K:Ex->List A->Option ((Int×Int×Unit)×(DT3×Unit))):Option ((Int×Int×Unit)×(DT3×Unit)):=z6u N x.1 x.2.1 x.2.2.1 x.2.2.2.1 (fun a0 a2=>(K .ret (mkS SQ47 30 (a0,x.2.1,a2,())))) (fun a0 a2 a3=>(K .normal (mkS SQ6 29 (a0,x.2.1,a2,a3,()))))
def z1jr (N:Nat):Hd ((Int×Int×Unit)×(DT3×Unit)):=fun st K=>(unS SQ6 29 (restr [0,2,3,4] 0 st)).bind fun x=>z1m9 N x K
def t1_52 (N:Nat):Tab ((Int×Int×Unit)×(DT3×Unit)):=[]
theorem z1gn {N:Nat}{c:Ctx}(hb:Base Tryd.prog (z1pu N) c):zq Tryd.prog c (zd zoj [0,1,1,1,1]) (z1jr N) :=
 zr (s:=SQ6) (m:=29) (g:=z1m9 N) [0,2,3,4] (ze hb N (t1_52 N) L_52 zoj TabOk.nil [0,1,1,1,1] _ rfl) (fun x K=>by kernel_rfl)
def z4i (N:Nat)(p:DT3)(low:Int)(high:Int)(from_:Int)(k0:Option ((Int×Int×Unit)×(DT3×Unit))):Option ((Int×Int×Unit)×(DT3×Unit)):=cond (decide (high<(if (1 > low) then 1 else low))) none k0
def z1ld (N:Nat)(x:z1d SQ6)(K:Ex->List A->Option ((Int×Int×Unit)×(DT3×Unit))):Option ((Int×Int×Unit)×(DT3×Unit)):=z4i N x.1 x.2.1 x.2.2.1 x.2.2.2.1 (K .normal (mkS SQ47 30 (x.1,x.2.1,x.2.2.1,())))
def z1iv (N:Nat):Hd ((Int×Int×Unit)×(DT3×Unit)):=fun st K=>(unS SQ6 29 (restr [3,2,0,4] 0 st)).bind fun x=>z1ld N x K
def t2_52 (N:Nat):Tab ((Int×Int×Unit)×(DT3×Unit)):=[]
theorem z1fr {N:Nat}{c:Ctx}(hb:Base Tryd.prog (z1pu N) c):zq Tryd.prog c (zd zoj [0,1,1,1,1,1]) (z1iv N) :=
 zr (s:=SQ6) (m:=29) (g:=z1ld N) [3,2,0,4] (ze hb N (t2_52 N) L_52 zoj TabOk.nil [0,1,1,1,1,1] _ rfl) (fun x K=>by kernel_rfl)
def z3k (N:Nat)(p:DT3):Option ((Int×Int×Unit)×(DT3×Unit)):=(z3c N p).bind fun y=>z6u N y.2.1 y.1 y.1 p.2.1 (fun p1 high=>some ((y.1,(high,())),(p1,()))) (fun p2 high1 from_=>z4i N p2 y.1 high1 from_ ((zw N p2 125).bind fun y1=>some ((y.1,(high1,())),(y1.2.1,()))))
def t_52 (N:Nat):Tab ((Int×Int×Unit)×(DT3×Unit)):=[([0,1,1,1,1],z1jr N),([0,1,1,1,1,1],z1iv N)]
theorem z1ak (N:Nat)(x:z1d SQ0):z8t (z1pu N) N (t_52 N) L_52 Tryd.f51 (mkS SQ0 0 x) (z6j (.tup [(.int .i64),(.int .i64)]) SQ0 0)=z3k N x.1:=by kernel_rfl
def z65 (N:Nat):List A->Res:=z17 SQ0 (fun x=>z3k N x.1) (z7f (.tup [(.int .i64),(.int .i64)]) SQ0 0)
theorem za2 (N:Nat):Contract Tryd.prog glob 51 (z65 N) :=
 Contract.of (E:=z1pu N) (H:=t_52 N) (L:=L_52) (N:=N) (body:=zoj) (K:=(z6j (.tup [(.int .i64),(.int .i64)]) SQ0 0)) (z1om N) Tryd.func51 (by kernel_rfl) (by decide) (fun _ hb=>(TabOk.cons (z1gn hb) (TabOk.cons (z1fr hb) TabOk.nil))) (fun x y h=>by rw[z1ak];exact h) (z4l (s:=(.tup [(.int .i64),(.int .i64)])) (os:=SQ0) (m:=0))
def zwd:Code:=(Tryd.f41.body).getD .skip
def L_53:List (List Nat×List Nat):=[([0],[0,2]),([0,1],[0,3,2]),([0,0,1,1],[16,3,2,0]),([1,0,1,1],[3,0,2]),([0,0,1,0,1,1],[2,0]),([1,0,1,0,1,1],[2,0]),([0,1,1,1],[0,4,2,3]),([0,0,1,1,1,1],[29,4,0,2,3]),([0,0,0,0,0,0,0,0,0,0,0,0,0,0,1,0,1,1,1,1],[30,4,0,2,29,3]),([1,0,0,0,0,0,0,0,0,0,0,0,0,0,1,0,1,1,1,1],[29,0,4,2,3]),([0,1,0,0,0,0,0,0,0,0,0,0,0,0,0,1,0,1,1,1,1],[4,0,2]),([0,0,1,0,0,0,0,0,0,0,0,0,0,0,0,1,0,1,1,1,1],[32,0,4,2,29,3]),([1,0,1,0,0,0,0,0,0,0,0,0,0,0,0,1,0,1,1,1,1],[29,0,4,2,3]),([0,1,0,1,0,0,0,0,0,0,0,0,0,0,0,0,1,0,1,1,1,1],[0,4,2]),([0,0,1,1,0,0,0,0,0,0,0,0,0,0,0,0,1,0,1,1,1,1],[34,0,4,2,29,3]),([1,0,1,1,0,0,0,0,0,0,0,0,0,0,0,0,1,0,1,1,1,1],[29,0,4,2,3]),([0,1,0,1,1,0,0,0,0,0,0,0,0,0,0,0,0,1,0,1,1,1,1],[0,4,2]),([0,1,1,1,0,0,0,0,0,0,0,0,0,0,0,0,1,0,1,1,1,1],[36,0,4,2,3]),([1,1,1,1,0,0,0,0,0,0,0,0,0,0,0,0,1,0,1,1,1,1],[3,2,0]),([0,1,1,1,1,0,0,0,0,0,0,0,0,0,0,0,0,1,0,1,1,1,1],[0,4,2]),([1,0,0,0,0,0,0,0,0,0,0,0,1,0,1,1,1,1],[3,2,0]),([0,0,0,0,0,0,0,0,0,0,1,0,1,1,1,1],[4,0,2]),([1,0,0,0,0,0,0,0,0,0,1,0,1,1,1,1],[0,4,2]),(z18h,[0,4,2]),([0,1,0,0,0,0,0,0,0,1,0,1,1,1,1],[4,2,0]),([1,1,0,0,0,0,0,0,0,1,0,1,1,1,1],[4,2,0]),([0,0,0,0,0,0,1,0,1,1,1,1],[0,4,2]),([0,0,1,0,0,0,0,0,1,0,1,1,1,1],[4,2,0]),([1,0,1,0,0,0,0,0,1,0,1,1,1,1],[4,2,0]),([1,1,0,0,0,0,0,1,0,1,1,1,1],[4,2,0]),([0,0,0,0,1,0,1,1,1,1],[0,4,2]),([0,0,1,0,0,0,1,0,1,1,1,1],[0,4,2]),([1,0,1,0,0,0,1,0,1,1,1,1],[4,2,0]),([1,1,0,0,0,1,0,1,1,1,1],[4,2,0]),(PQ86,[3,2,0]),([0,0,1,0,1,0,1,1,1,1],[2,0]),([1,0,1,0,1,0,1,1,1,1],[2,0]),([1,1,0,1,0,1,1,1,1],[4,2,0]),([1,0,1,1,1,1],[4,2,0]),([0,1,1,1,1,1],[2,0]),([1,1,1,1,1,1],[2,0])]
def E_53 (N:Nat)(self:z8):Env:=z25 tys glob [(51,z65 N),(50,z7d N self),(21,z17 SQ0 (fun x=>self x.1) (z7f (.v TT1) SQ0 0))] [] [] [0] false [] []
theorem z1ol (N:Nat)(self:z8)(hself:Contract Tryd.prog glob 21 (z17 SQ0 (fun x=>self x.1) (z7f (.v TT1) SQ0 0))):EnvOk Tryd.prog (E_53 N self):=zg mixed zz (FnsOk.cons (za2 N) (FnsOk.cons (zbg N self hself) (FnsOk.cons (hself) (FnsOk.nil)))) (ItsOk.nil)
def z78 (N:Nat)(self:z8)(p:DT3)(x2:DT2)(kid:DT2)(rep:DT2)(x29:Int)(k0:DT2->Option (DT2×(DT3×Unit)))(k1:Option (DT2×(DT3×Unit)))(k2:Option (DT2×(DT3×Unit)))(k3:Option (DT2×(DT3×Unit))):Option (DT2×(DT3×Unit)):=cond (x29 == 43) (k0 (rep.1,(rep.2.1,(rep.2.2.1,(1,rep.2.2.2.2))))) (cond (x29 == 42) (k0 rep) (cond (x29 == 63) k1 (cond (x29 == 123) k2 k3)))
def z1m8 (N:Nat)(self:z8)(x:z1d z1dl)(K:Ex->List A->Option (DT2×(DT3×Unit))):Option (DT2×(DT3×Unit)):=z78 N self x.1 x.2.1 x.2.2.1 x.2.2.2.1 x.2.2.2.2.1 (fun a2=>(K .normal (mkS z1dj 65 (x.1,x.2.1,a2,())))) (K (.exit 3) (mkS z1dj 65 (x.1,x.2.1,x.2.2.2.1,()))) (K (.exit 4) (mkS z1dj 65 (x.1,x.2.1,x.2.2.2.1,()))) (K (.exit 5) (mkS [(0,.box (.pair .str TT0)),(1,.box TT1),(0,.box TT1)] 66 (x.1,x.2.1,x.2.2.1,())))
def z1jq (N:Nat)(self:z8):Hd (DT2×(DT3×Unit)):=fun st K=>(unS z1dl 40 (restr [29,4,0,2,3] 0 st)).bind fun x=>z1m8 N self x K
def t1_53 (N:Nat)(self:z8):Tab (DT2×(DT3×Unit)):=[]
theorem z1gm {N:Nat}{self:z8}{c:Ctx}(hb:Base Tryd.prog (E_53 N self) c):zq Tryd.prog c (zd zwd z18h) (z1jq N self) :=
 zr (s:=z1dl) (m:=40) (g:=z1m8 N self) [29,4,0,2,3] (ze hb N (t1_53 N self) L_53 zwd TabOk.nil z18h _ rfl) (fun x K=>by kernel_rfl)
def z2d (N:Nat)(self:z8)(p:DT3):Option (DT2×(DT3×Unit)):=(z48 N self p).bind fun y=>cond (y.2.1.2.1 == (List.length y.2.1.1:Int)) (some (y.1,(y.2.1,()))) (cond (inR y.2.1.2.1 (List.length y.2.1.1)) (z78 N self y.2.1 (0,(([0,0,0,0]:List Int),([],(0,(0,()))))) y.1 (4,(([0,0,0,0]:List Int),((List.map foN ([y.1]:List DT8)),(0,((-1),()))))) (UInt8.toNat (List.getD y.2.1.1 (Int.toNat y.2.1.2.1) (0:UInt8)):Int) (fun rep=>some (rep,((y.2.1.1,((IntKind.wrap IntKind.i64 (y.2.1.2.1+1)),y.2.1.2.2)),()))) (some ((4,(([0,0,0,0]:List Int),((List.map foN ([y.1]:List DT8)),(0,(1,()))))),((y.2.1.1,((IntKind.wrap IntKind.i64 (y.2.1.2.1+1)),y.2.1.2.2)),()))) ((z3k N (y.2.1.1,((IntKind.wrap IntKind.i64 (y.2.1.2.1+1)),y.2.1.2.2))).bind fun y1=>some ((4,(([0,0,0,0]:List Int),((List.map foN ([y.1]:List DT8)),(y1.1.1,(y1.1.2.1,()))))),(y1.2.1,()))) (some (y.1,(y.2.1,())))) none)
def t_53 (N:Nat)(self:z8):Tab (DT2×(DT3×Unit)):=[(z18h,z1jq N self)]
theorem z1aj (N:Nat)(self:z8)(x:z1d SQ0):z8t (E_53 N self) N (t_53 N self) L_53 Tryd.f41 (mkS SQ0 0 x) (z6j (.v TT1) SQ0 0)=z2d N self x.1:=by kernel_rfl
def z6r (N:Nat)(self:z8):List A->Res:=z17 SQ0 (fun x=>z2d N self x.1) (z7f (.v TT1) SQ0 0)
theorem zan (N:Nat)(self:z8)(hself:Contract Tryd.prog glob 21 (z17 SQ0 (fun x=>self x.1) (z7f (.v TT1) SQ0 0))):Contract Tryd.prog glob 41 (z6r N self) :=
 Contract.of (E:=E_53 N self) (H:=t_53 N self) (L:=L_53) (N:=N) (body:=zwd) (K:=(z6j (.v TT1) SQ0 0)) (z1ol N self hself) Tryd.func41 (by kernel_rfl) (by decide) (fun _ hb=>(TabOk.cons (z1gm hb) TabOk.nil)) (fun x y h=>by rw[z1aj];exact h) (z4l (s:=(.v TT1)) (os:=SQ0) (m:=0))
def zwc:Code:=(Tryd.f30.body).getD .skip
def L_54:List (List Nat×List Nat):=[([0],[1,0,4]),([0,1],[1,0,5,4]),([0,0,1,1],[10,9,8,0,5,4]),([0,1,0,1,1],[10,9,8,0,5,4]),([0,0,0,1,0,1,1],[11,8,10,0,5,9,4]),(zyy,[8,10,0,5,9,4]),([1,0,1,0,0,1,0,1,1],[5,4,0]),(PQ78,[7,0,5,10,9,8,4]),([0,1,0,0,1,1,0,0,1,0,1,1],[17,5,7,10,9,8,0,4]),([1,1,0,0,1,1,0,0,1,0,1,1],[10,9,8,0,5,4]),([1,1,1,0,0,1,1,0,0,1,0,1,1],[10,9,8,0,5,4]),([0,1,1,0,0,1,1,0,0,1,0,1,1],[10,9,8,0,5,4]),([0,1,1,0,0,1,0,1,1],[10,9,8,0,5,4]),([1,1,1,0,0,1,0,1,1],[10,9,8,0,5,4]),([1,0,1,1],[5,4,0]),([0,0,1,1,1],[29,5,4,0]),([1,0,1,1,1],[0,5,4]),(z1d1,[4]),(z1d0,[4]),([0,1,1,1,1],[4]),([1,1,1,1,1],[4])]
def E_54 (N:Nat):Env:=z25 tys glob [] [(5,TT1)] [] [] false [] []
theorem z1ok (N:Nat):EnvOk Tryd.prog (E_54 N):=zg mixed zz (FnsOk.nil) (ItsOk.nil)
def z9t (N:Nat)(kind:Int)(x4:DT2)(x8:(List Tree))(x9:Int)(kids:(List DT2))(x10:Int)(rec:(List DT2)->Int->Option DT2)(k0:(List DT2)->Option DT2):Option DT2:=cond (decide (x10<x9)) (cond (inR x10 (List.length x8)) (cond ((unN (List.getD x8 (Int.toNat x10) (Tree.mk 0 [] [] 0 0))).1 == kind) (cond (decide ((((List.length kids)+(List.length (List.map unN (unN (List.getD x8 (Int.toNat x10) (Tree.mk 0 [] [] 0 0))).2.2.1)))*80)<=70368744177664)) (rec (kids++(List.map unN (unN (List.getD x8 (Int.toNat x10) (Tree.mk 0 [] [] 0 0))).2.2.1)) (IntKind.wrap IntKind.i64 (x10+1))) none) (cond (decide ((((List.length kids)+1)*80)<=70368744177664)) (rec (kids++([(unN (List.getD x8 (Int.toNat x10) (Tree.mk 0 [] [] 0 0)))]:List DT8)) (IntKind.wrap IntKind.i64 (x10+1))) none)) none) (k0 kids)
def zjm (N:Nat)(kind:Int)(x4:DT2)(kids:(List DT2))(x8:(List Tree))(x9:Int)(x10:Int)(k0:(List DT2)->Option DT2):Option DT2:=iter (fun (v:((List DT2)×Int)) r=>z9t N kind x4 x8 x9 v.1 v.2 (fun kids x10=>(r (kids,x10))) k0) N (kids,x10)
def z1m7 (N:Nat)(i:(Int×DT2×(List Tree)×Int))(v:((List DT2)×Int))(r:((List DT2)×Int)->Option DT2)(K:Ex->List A->Option DT2):Option DT2:=z9t N i.1 i.2.1 i.2.2.1 i.2.2.2 v.1 v.2 (fun kids x10=>(r (kids,x10))) (fun a2=>(K (.exit 0) (mkS [(0,.v (.int .i64)),(3,.box TT1),(0,.row TT1)] 30 (i.1,i.2.1,a2,()))))
def z1jp (N:Nat):Hd DT2:=fun st K=>(unS SQ53 25 (restr [10,9,8,0,5,4] 0 st)).bind fun x=>iter (fun v r=>z1m7 N ((fun x=>(x.1,x.2.1,x.2.2.2.1,x.2.2.2.2.1)) x) v r K) N ((fun x=>(x.2.2.1,x.2.2.2.2.2.1)) x)
def t1_54 (N:Nat):Tab DT2:=[]
theorem z1gl {N:Nat}{c:Ctx}(hb:Base Tryd.prog (E_54 N) c):zq Tryd.prog c (zd zwc [0,1,0,1,1]) (z1jp N) :=
 z6c (s:=SQ53) (m:=25) (z1m7 N) [10,9,8,0,5,4] N (fun x=>(x.1,x.2.1,x.2.2.2.1,x.2.2.2.2.1)) (fun x=>(x.2.2.1,x.2.2.2.2.2.1)) (fun i v=>(i.1,i.2.1,v.1,i.2.2.1,i.2.2.2,v.2,())) (fun _=>rfl) (ze hb N (t1_54 N) L_54 zwc TabOk.nil [0,0,1,0,1,1] _ rfl) (fun i v r K=>by kernel_rfl)
def z7m (N:Nat)(kind:Int)(parts:(List Tree)):Option DT2:=zjm N kind (0,(([0,0,0,0]:List Int),([],(0,(0,()))))) [] parts (List.length parts:Int) 0 (fun kids=>cond ((List.length kids:Int) == 1) (cond (inR 0 (List.length kids)) (cond (decide (0<(List.length kids))) (some (List.getD kids 0 (0,([],([],(0,(0,()))))))) none) none) (some (kind,(([0,0,0,0]:List Int),((List.map foN kids),(0,(0,())))))))
def t_54 (N:Nat):Tab DT2:=[([0,1,0,1,1],z1jp N)]
theorem z1ai (N:Nat)(x:z1d [(0,.v (.int .i64)),(0,.v (.sl .nod))]):z8t (E_54 N) N (t_54 N) L_54 Tryd.f30 (mkS [(0,.v (.int .i64)),(0,.v (.sl .nod))] 0 x) (z53 (.v TT1) 2)=z7m N x.1 x.2.1:=by kernel_rfl
def z8o (N:Nat):List A->Res:=z17 [(0,.v (.int .i64)),(0,.v (.sl .nod))] (fun x=>z7m N x.1 x.2.1) (zag (.v TT1) 2)
theorem zbs (N:Nat):Contract Tryd.prog glob 30 (z8o N) :=
 Contract.of (E:=E_54 N) (H:=t_54 N) (L:=L_54) (N:=N) (body:=zwc) (K:=(z53 (.v TT1) 2)) (z1ok N) Tryd.func30 (by kernel_rfl) (by decide) (fun _ hb=>(TabOk.cons (z1gl hb) TabOk.nil)) (fun x y h=>by rw[z1ai];exact h) (z1p (s:=(.v TT1)) (m:=2))
def zj5:Code:=(Tryd.f28.body).getD .skip
def z1nv:List (List Nat×List Nat):=[([0],[0,2]),([0,1],[0,3,2]),([0,0,1,1],[0,3,2]),([0,0,0,0,0,1,1],[37,3,0,2]),([1,0,0,0,0,1,1],[3,0,2]),([1,1,0,0,0,0,1,1],[3,2,0]),([0,1,0,0,0,1,1],[0,3,2]),([1,0,0,0,1,1],[0,3,2]),([0,1,1],[3,2,0]),([0,1,1,1],[2,0]),([1,1,1,1],[2,0])]
def z1e1 (N:Nat)(self:z8):Env:=z25 tys glob [(30,z8o N),(41,z6r N self),(21,z17 SQ0 (fun x=>self x.1) (z7f (.v TT1) SQ0 0))] [(3,TT1)] [] [0] false [] []
theorem z1oj (N:Nat)(self:z8)(hself:Contract Tryd.prog glob 21 (z17 SQ0 (fun x=>self x.1) (z7f (.v TT1) SQ0 0))):EnvOk Tryd.prog (z1e1 N self):=zg mixed zz (FnsOk.cons (zbs N) (FnsOk.cons (zan N self hself) (FnsOk.cons (hself) (FnsOk.nil)))) (ItsOk.nil)
def z94 (N:Nat)(self:z8)(p:DT3)(x2:DT2)(parts:(List DT2))(k0:Option (DT2×(DT3×Unit)))(k1:Option (DT2×(DT3×Unit))):Option (DT2×(DT3×Unit)):=cond (decide (p.2.1<(List.length p.1:Int))) (cond (inR p.2.1 (List.length p.1)) (cond ((UInt8.toNat (List.getD p.1 (Int.toNat p.2.1) (0:UInt8)):Int) != 124) (cond (inR p.2.1 (List.length p.1)) (cond ((UInt8.toNat (List.getD p.1 (Int.toNat p.2.1) (0:UInt8)):Int) != 41) k0 k1) none) k1) none) k1
def z1kx (N:Nat)(self:z8)(x:z1d SQ3)(K:Ex->List A->Option (DT2×(DT3×Unit))):Option (DT2×(DT3×Unit)):=z94 N self x.1 x.2.1 x.2.2.1 (K .normal (mkS SQ3 41 (x.1,x.2.1,x.2.2.1,()))) (K (.exit 0) (mkS SQ3 41 (x.1,x.2.1,x.2.2.1,())))
def z1if (N:Nat)(self:z8):Hd (DT2×(DT3×Unit)):=fun st K=>(unS SQ3 41 (restr [0,3,2] 0 st)).bind fun x=>z1kx N self x K
def t3_55 (N:Nat)(self:z8):Tab (DT2×(DT3×Unit)):=[]
theorem z1fb {N:Nat}{self:z8}{c:Ctx}(hb:Base Tryd.prog (z1e1 N self) c):zq Tryd.prog c (zd zj5 [0,0,0,0,1,1]) (z1if N self) :=
 zr (s:=SQ3) (m:=41) (g:=z1kx N self) [0,3,2] (ze hb N (t3_55 N self) z1nv zj5 TabOk.nil [0,0,0,0,1,1] _ rfl) (fun x K=>by kernel_rfl)
def z4e (N:Nat)(self:z8)(x2:DT2)(p:DT3)(parts:(List DT2))(rec:DT3->(List DT2)->Option (DT2×(DT3×Unit)))(k0:DT3->(List DT2)->Option (DT2×(DT3×Unit))):Option (DT2×(DT3×Unit)):=z94 N self p x2 parts ((z2d N self p).bind fun y=>cond (decide ((((List.length parts)+1)*80)<=70368744177664)) (rec y.2.1 (parts++([y.1]:List DT8))) none) (k0 p parts)
def zcl (N:Nat)(self:z8)(p:DT3)(x2:DT2)(parts:(List DT2))(k0:DT3->(List DT2)->Option (DT2×(DT3×Unit))):Option (DT2×(DT3×Unit)):=iter (fun (v:(DT3×(List DT2))) r=>z4e N self x2 v.1 v.2 (fun p parts=>(r (p,parts))) k0) N (p,parts)
end
end Go.Proofs.YthgcpalmjcomlaaDoorLg
set_option linter.all false
set_option maxRecDepth 100000
namespace Go.Proofs.YthgcpalmjcomlaaDoorLg
noncomputable section
open Go Go.Lift
def z1lc (N:Nat)(self:z8)(i:DT2)(v:(DT3×(List DT2)))(r:(DT3×(List DT2))->Option (DT2×(DT3×Unit)))(K:Ex->List A->Option (DT2×(DT3×Unit))):Option (DT2×(DT3×Unit)):=z4e N self i v.1 v.2 (fun p parts=>(r (p,parts))) (fun a0 a2=>(K (.exit 0) (mkS SQ3 41 (a0,i,a2,()))))
def z1iu (N:Nat)(self:z8):Hd (DT2×(DT3×Unit)):=fun st K=>(unS SQ3 41 (restr [0,3,2] 0 st)).bind fun x=>iter (fun v r=>z1lc N self ((fun x=>x.2.1) x) v r K) N ((fun x=>(x.1,x.2.2.1)) x)
def t2_55 (N:Nat)(self:z8):Tab (DT2×(DT3×Unit)):=[([0,0,0,0,1,1],z1if N self)]
theorem z1fq {N:Nat}{self:z8}{c:Ctx}(hb:Base Tryd.prog (z1e1 N self) c):zq Tryd.prog c (zd zj5 [0,0,1,1]) (z1iu N self) :=
 z6c (s:=SQ3) (m:=41) (z1lc N self) [0,3,2] N (fun x=>x.2.1) (fun x=>(x.1,x.2.2.1)) (fun i v=>(v.1,i,v.2,())) (fun _=>rfl) (ze hb N (t2_55 N self) z1nv zj5 (TabOk.cons (z1fb hb) TabOk.nil) [0,0,0,1,1] _ rfl) (fun i v r K=>by kernel_rfl)
def z95 (N:Nat)(self:z8)(p:DT3)(x2:DT2)(parts:(List DT2))(k0:DT3->(List DT2)->Option (DT2×(DT3×Unit))):Option (DT2×(DT3×Unit)):=zcl N self p x2 parts (fun p1 zjn=>k0 p1 zjn)
def z1m6 (N:Nat)(self:z8)(x:z1d SQ3)(K:Ex->List A->Option (DT2×(DT3×Unit))):Option (DT2×(DT3×Unit)):=z95 N self x.1 x.2.1 x.2.2.1 (fun a0 a2=>(K .normal (mkS SQ3 41 (a0,x.2.1,a2,()))))
def z1jo (N:Nat)(self:z8):Hd (DT2×(DT3×Unit)):=fun st K=>(unS SQ3 41 (restr [0,3,2] 0 st)).bind fun x=>z1m6 N self x K
def t1_55 (N:Nat)(self:z8):Tab (DT2×(DT3×Unit)):=[([0,0,1,1],z1iu N self)]
theorem z1gk {N:Nat}{self:z8}{c:Ctx}(hb:Base Tryd.prog (z1e1 N self) c):zq Tryd.prog c (zd zj5 [0,1,1]) (z1jo N self) :=
 zr (s:=SQ3) (m:=41) (g:=z1m6 N self) [0,3,2] (ze hb N (t1_55 N self) z1nv zj5 (TabOk.cons (z1fq hb) TabOk.nil) [0,1,1] _ rfl) (fun x K=>by kernel_rfl)
def z3e (N:Nat)(self:z8)(p:DT3):Option (DT2×(DT3×Unit)):=z95 N self p (0,(([0,0,0,0]:List Int),([],(0,(0,()))))) [] (fun p1 parts=>(z7m N 2 (List.map foN parts)).bind fun y=>some (y,(p1,())))
def t_55 (N:Nat)(self:z8):Tab (DT2×(DT3×Unit)):=[([0,1,1],z1jo N self)]
theorem z1ah (N:Nat)(self:z8)(x:z1d SQ0):z8t (z1e1 N self) N (t_55 N self) z1nv Tryd.f28 (mkS SQ0 0 x) (z6j (.v TT1) SQ0 0)=z3e N self x.1:=by kernel_rfl
def z8d (N:Nat)(self:z8):List A->Res:=z17 SQ0 (fun x=>z3e N self x.1) (z7f (.v TT1) SQ0 0)
theorem zcm (N:Nat)(self:z8)(hself:Contract Tryd.prog glob 21 (z17 SQ0 (fun x=>self x.1) (z7f (.v TT1) SQ0 0))):Contract Tryd.prog glob 28 (z8d N self) :=
 Contract.of (E:=z1e1 N self) (H:=t_55 N self) (L:=z1nv) (N:=N) (body:=zj5) (K:=(z6j (.v TT1) SQ0 0)) (z1oj N self hself) Tryd.func28 (by kernel_rfl) (by decide) (fun _ hb=>(TabOk.cons (z1gk hb) TabOk.nil)) (fun x y h=>by rw[z1ah];exact h) (z4l (s:=(.v TT1)) (os:=SQ0) (m:=0))
def zs2:Code:=(Tryd.f21.body).getD .skip
def L_56:List (List Nat×List Nat):=[([0],[0,2]),([0,1],[0,3,2]),([0,0,1,1],[0,3,2]),([0,0,0,0,0,1,1],[8,3,0,2]),([1,0,0,0,0,1,1],[3,0,2]),([1,1,0,0,0,0,1,1],[3,2,0]),([0,1,0,0,0,1,1],[0,3,2]),([1,0,0,0,1,1],[0,3,2]),([0,1,1],[3,2,0]),([0,1,1,1],[2,0]),([1,1,1,1],[2,0])]
def E_56 (N:Nat)(self:DT3->Option (DT2×(DT3×Unit))):Env:=z25 tys glob [(28,z8d N self),(30,z8o N),(29,z1i N),(21,z17 SQ0 (fun x=>self x.1) (z7f (.v TT1) SQ0 0))] [(3,TT1)] [] [0] false [] []
theorem z1oi (N:Nat)(self:DT3->Option (DT2×(DT3×Unit)))(hself:Contract Tryd.prog glob 21 (z17 SQ0 (fun x=>self x.1) (z7f (.v TT1) SQ0 0))):EnvOk Tryd.prog (E_56 N self):=zg mixed zz (FnsOk.cons (zcm N self hself) (FnsOk.cons (zbs N) (FnsOk.cons (z20 N) (FnsOk.cons (hself) (FnsOk.nil))))) (ItsOk.nil)
def z66 (N:Nat)(self:DT3->Option (DT2×(DT3×Unit)))(x2:DT2)(p:DT3)(parts:(List DT2))(rec:DT3->(List DT2)->Option (DT2×(DT3×Unit)))(k0:DT3->(List DT2)->Option (DT2×(DT3×Unit))):Option (DT2×(DT3×Unit)):=(zu N p 124).bind fun y=>cond y.1 ((z3e N self y.2.1).bind fun y1=>cond (decide ((((List.length parts)+1)*80)<=70368744177664)) (rec y1.2.1 (parts++([y1.1]:List DT8))) none) (k0 y.2.1 parts)
def zcn (N:Nat)(self:DT3->Option (DT2×(DT3×Unit)))(p:DT3)(x2:DT2)(parts:(List DT2))(k0:DT3->(List DT2)->Option (DT2×(DT3×Unit))):Option (DT2×(DT3×Unit)):=iter (fun (v:(DT3×(List DT2))) r=>z66 N self x2 v.1 v.2 (fun p parts=>(r (p,parts))) k0) N (p,parts)
def z1m5 (N:Nat)(self:DT3->Option (DT2×(DT3×Unit)))(i:DT2)(v:(DT3×(List DT2)))(r:(DT3×(List DT2))->Option (DT2×(DT3×Unit)))(K:Ex->List A->Option (DT2×(DT3×Unit))):Option (DT2×(DT3×Unit)):=z66 N self i v.1 v.2 (fun p parts=>(r (p,parts))) (fun a0 a2=>(K (.exit 0) (mkS SQ3 12 (a0,i,a2,()))))
def z1jn (N:Nat)(self:DT3->Option (DT2×(DT3×Unit))):Hd (DT2×(DT3×Unit)):=fun st K=>(unS SQ3 12 (restr [0,3,2] 0 st)).bind fun x=>iter (fun v r=>z1m5 N self ((fun x=>x.2.1) x) v r K) N ((fun x=>(x.1,x.2.2.1)) x)
def t1_56 (N:Nat)(self:DT3->Option (DT2×(DT3×Unit))):Tab (DT2×(DT3×Unit)):=[]
theorem z1gj {N:Nat}{self:DT3->Option (DT2×(DT3×Unit))}{c:Ctx}(hb:Base Tryd.prog (E_56 N self) c):zq Tryd.prog c (zd zs2 [0,0,1,1]) (z1jn N self) :=
 z6c (s:=SQ3) (m:=12) (z1m5 N self) [0,3,2] N (fun x=>x.2.1) (fun x=>(x.1,x.2.2.1)) (fun i v=>(v.1,i,v.2,())) (fun _=>rfl) (ze hb N (t1_56 N self) L_56 zs2 TabOk.nil [0,0,0,1,1] _ rfl) (fun i v r K=>by kernel_rfl)
def z6y (N:Nat)(self:DT3->Option (DT2×(DT3×Unit)))(p:DT3):Option (DT2×(DT3×Unit)):=(z3e N self p).bind fun y=>zcn N self y.2.1 (0,(([0,0,0,0]:List Int),([],(0,(0,()))))) ([y.1]:List DT8) (fun p1 parts=>(z7m N 3 (List.map foN parts)).bind fun y1=>some (y1,(p1,())))
def t_56 (N:Nat)(self:DT3->Option (DT2×(DT3×Unit))):Tab (DT2×(DT3×Unit)):=[([0,0,1,1],z1jn N self)]
theorem z1ag (N:Nat)(self:DT3->Option (DT2×(DT3×Unit)))(x:z1d SQ0):z8t (E_56 N self) N (t_56 N self) L_56 Tryd.f21 (mkS SQ0 0 x) (z6j (.v TT1) SQ0 0)=z6y N self x.1:=by kernel_rfl
def zf:Nat->DT3->Option (DT2×(DT3×Unit))
 | 0=>fun _=>none
 | N+1=>z6y (N+1) (zf N)
def zbh (N:Nat):List A->Res:=z17 SQ0 (fun x=>zf N x.1) (z7f (.v TT1) SQ0 0)
theorem z2s:∀ N:Nat,Contract Tryd.prog glob 21 (zbh N)
 | 0=>Contract.zero Tryd.func21 (body:=zs2) (by kernel_rfl) (by decide) (fun _=>rfl)
 | N+1=>Contract.of (E:=E_56 (N+1) (zf N)) (H:=t_56 (N+1) (zf N)) (L:=L_56) (N:=(N+1)) (body:=zs2) (K:=(z6j (.v TT1) SQ0 0)) (z1oi (N+1) (zf N) (z2s N)) Tryd.func21 (by kernel_rfl) (by decide) (fun _ hb=>(TabOk.cons (z1gj hb) TabOk.nil)) (fun x y h=>by rw[z1ag];exact h) (z4l (s:=(.v TT1)) (os:=SQ0) (m:=0))
def zh8:Code:=(Tryd.f9.body).getD .skip
def z1nu:List (List Nat×List Nat):=[([0],[2,3]),([0,0,1],[40,2,3]),([1,0,1],[2,3]),([0,0,1,0,1],[4]),([1,0,1,0,1],[4]),([0,0,1,1],[5,2,3]),([0,1,0,1,1],[5,2,3]),([0,0,0,0,1,0,1,1],[45,2,5,3]),([1,0,0,0,1,0,1,1],[2,5,3]),([1,1,0,0,0,1,0,1,1],[]),([0,0,0,1,0,0,1,0,1,1],[59,5,2,3]),([1,0,0,1,0,0,1,0,1,1],[5,2,3]),(PQ74,[4]),([1,0,1,0,0,1,0,0,1,0,1,1],[4]),(zyy,[5,2,3]),([1,1,0,0,1,0,1,1],[5,2,3]),([1,0,1,1],[]),([0,1,1,1],[4]),([1,1,1,1],[4])]
def z1e0 (N:Nat)(self:DT2->DT2->Option Bool):Env:=z25 tys glob [(9,z17 z14n (fun x=>self x.1 x.2.1) (zag (.v .bool) 2))] [] [] [] false [] []
theorem z1oh (N:Nat)(self:DT2->DT2->Option Bool)(hself:Contract Tryd.prog glob 9 (z17 z14n (fun x=>self x.1 x.2.1) (zag (.v .bool) 2))):EnvOk Tryd.prog (z1e0 N self):=zg mixed zz (FnsOk.cons (hself) (FnsOk.nil)) (ItsOk.nil)
def z97 (N:Nat)(self:DT2->DT2->Option Bool)(a:DT2)(b:DT2)(k0:Bool->Option Bool):Option Bool:=cond (a.1 != b.1) (k0 true) (cond (!(eqD (T.arr 4 (T.int IntKind.u64)) a.2.1 b.2.1)) (k0 true) (cond (a.2.2.2.1 != b.2.2.2.1) (k0 true) (cond (a.2.2.2.2.1 != b.2.2.2.2.1) (k0 true) (k0 ((List.length a.2.2.1:Int) != (List.length b.2.2.1:Int))))))
def z1lb (N:Nat)(self:DT2->DT2->Option Bool)(x:z1d zyw)(K:Ex->List A->Option Bool):Option Bool:=z97 N self x.1 x.2.1 (fun a2=>(K .normal (mkS [(2,.box TT1),(0,.box TT1),(36,.v .bool)] 19 (x.1,x.2.1,a2,()))))
def z1it (N:Nat)(self:DT2->DT2->Option Bool):Hd Bool:=fun st K=>(unS zyw 56 (restr [2,3] 0 st)).bind fun x=>z1lb N self x K
def t2_57 (N:Nat)(self:DT2->DT2->Option Bool):Tab Bool:=[]
theorem z1fp {N:Nat}{self:DT2->DT2->Option Bool}{c:Ctx}(hb:Base Tryd.prog (z1e0 N self) c):zq Tryd.prog c (zd zh8 [0,0,1]) (z1it N self) :=
 zr (s:=zyw) (m:=56) (g:=z1lb N self) [2,3] (ze hb N (t2_57 N self) z1nu zh8 TabOk.nil [0,0,1] _ rfl) (fun x K=>by kernel_rfl)
def z98 (N:Nat)(self:DT2->DT2->Option Bool)(a:DT2)(b:DT2)(k0:Bool->Option Bool)(k1:Option Bool):Option Bool:=z97 N self a b (fun x40=>cond x40 (k0 false) k1)
def z1m4 (N:Nat)(self:DT2->DT2->Option Bool)(x:z1d zyw)(K:Ex->List A->Option Bool):Option Bool:=z98 N self x.1 x.2.1 (fun a0=>(K .ret (mkS [(4,.v .bool)] 55 (a0,())))) (K .normal (mkS zyw 56 (x.1,x.2.1,())))
def z1jm (N:Nat)(self:DT2->DT2->Option Bool):Hd Bool:=fun st K=>(unS zyw 56 (restr [2,3] 0 st)).bind fun x=>z1m4 N self x K
def t1_57 (N:Nat)(self:DT2->DT2->Option Bool):Tab Bool:=[([0,0,1],z1it N self)]
theorem z1gi {N:Nat}{self:DT2->DT2->Option Bool}{c:Ctx}(hb:Base Tryd.prog (z1e0 N self) c):zq Tryd.prog c (zd zh8 [0,1]) (z1jm N self) :=
 zr (s:=zyw) (m:=56) (g:=z1m4 N self) [2,3] (ze hb N (t1_57 N self) z1nu zh8 (TabOk.cons (z1fp hb) TabOk.nil) [0,1] _ rfl) (fun x K=>by kernel_rfl)
def zcr (N:Nat)(self:DT2->DT2->Option Bool)(a:DT2)(b:DT2)(i:Int)(rec:Int->Option Bool)(k0:Bool->Option Bool)(k1:Option Bool):Option Bool:=cond (decide (i<(List.length a.2.2.1:Int))) (cond (inR i (List.length a.2.2.1)) (cond (inR i (List.length b.2.2.1)) ((self (unN (List.getD a.2.2.1 (Int.toNat i) (Tree.mk 0 [] [] 0 0))) (unN (List.getD b.2.2.1 (Int.toNat i) (Tree.mk 0 [] [] 0 0)))).bind fun y=>cond (!y) (k0 false) (rec (IntKind.wrap IntKind.i64 (i+1)))) none) none) k1
def zcs (N:Nat)(self:DT2->DT2->Option Bool)(a:DT2)(b:DT2)(i:Int)(k0:Bool->Option Bool)(k1:Option Bool):Option Bool:=iter (fun (v:Int) r=>zcr N self a b v (fun i=>(r i)) k0 k1) N i
def z1kw (N:Nat)(self:DT2->DT2->Option Bool)(i:(DT2×DT2))(v:Int)(r:Int->Option Bool)(K:Ex->List A->Option Bool):Option Bool:=zcr N self i.1 i.2 v (fun i=>(r i)) (fun a0=>(K .ret (mkS [(4,.v .bool)] 55 (a0,())))) (K (.exit 0) (mkS [] 60 ()))
def z1ie (N:Nat)(self:DT2->DT2->Option Bool):Hd Bool:=fun st K=>(unS [(2,.box TT1),(0,.box TT1),(1,.v (.int .i64))] 54 (restr [5,2,3] 0 st)).bind fun x=>iter (fun v r=>z1kw N self ((fun x=>(x.1,x.2.1)) x) v r K) N ((fun x=>x.2.2.1) x)
def t3_57 (N:Nat)(self:DT2->DT2->Option Bool):Tab Bool:=[]
theorem z1fa {N:Nat}{self:DT2->DT2->Option Bool}{c:Ctx}(hb:Base Tryd.prog (z1e0 N self) c):zq Tryd.prog c (zd zh8 [0,1,0,1,1]) (z1ie N self) :=
 z6c (s:=[(2,.box TT1),(0,.box TT1),(1,.v (.int .i64))]) (m:=54) (z1kw N self) [5,2,3] N (fun x=>(x.1,x.2.1)) (fun x=>x.2.2.1) (fun i v=>(i.1,i.2,v,())) (fun _=>rfl) (ze hb N (t3_57 N self) z1nu zh8 TabOk.nil [0,0,1,0,1,1] _ rfl) (fun i v r K=>by kernel_rfl)
def z70 (N:Nat)(self:DT2->DT2->Option Bool)(a:DT2)(b:DT2):Option Bool:=z98 N self a b (fun x4=>some x4) (zcs N self a b 0 (fun x41=>some x41) (some true))
def t_57 (N:Nat)(self:DT2->DT2->Option Bool):Tab Bool:=[([0,1],z1jm N self),([0,1,0,1,1],z1ie N self)]
theorem z1af (N:Nat)(self:DT2->DT2->Option Bool)(x:z1d z14n):z8t (z1e0 N self) N (t_57 N self) z1nu Tryd.f9 (mkS z14n 0 x) (z53 (.v .bool) 2)=z70 N self x.1 x.2.1:=by kernel_rfl
def z1w:Nat->DT2->DT2->Option Bool
 | 0=>fun _ _=>none
 | N+1=>z70 (N+1) (z1w N)
def zbj (N:Nat):List A->Res:=z17 z14n (fun x=>z1w N x.1 x.2.1) (zag (.v .bool) 2)
theorem zct:∀ N:Nat,Contract Tryd.prog glob 9 (zbj N)
 | 0=>Contract.zero Tryd.func9 (body:=zh8) (by kernel_rfl) (by decide) (fun _=>rfl)
 | N+1=>Contract.of (E:=z1e0 (N+1) (z1w N)) (H:=t_57 (N+1) (z1w N)) (L:=z1nu) (N:=(N+1)) (body:=zh8) (K:=(z53 (.v .bool) 2)) (z1oh (N+1) (z1w N) (zct N)) Tryd.func9 (by kernel_rfl) (by decide) (fun _ hb=>(TabOk.cons (z1gi hb) (TabOk.cons (z1fa hb) TabOk.nil))) (fun x y h=>by rw[z1af];exact h) (z1p (s:=(.v .bool)) (m:=2))
def zlg:Code:=(Tryd.f10.body).getD .skip
def L_58:List (List Nat×List Nat):=[([0],[1]),([0,1],[1,4,5]),([0,0,1,1],[6,1,4,5]),([0,1,0,1,1],[6,1,4,5]),([0,0,0,0,1,0,1,1],[13,1,6,4,5]),([1,0,0,0,1,0,1,1],[1,6,4,5]),([1,1,0,0,0,1,0,1,1],[4,5]),([0,0,0,1,0,0,1,0,1,1],[4,7,8,5,6,1]),(z1ns,[8,5,6,1,4]),([0,1,1,0,0,1,0,0,1,0,1,1],[30,8,6,1,4,5]),([1,1,1,0,0,1,0,0,1,0,1,1],[6,1,4,5]),([0,1,1,1,0,0,1,0,0,1,0,1,1],[6,1,4,5]),(zyy,[6,1,4,5]),([1,1,0,0,1,0,1,1],[6,1,4,5]),([1,0,1,1],[4,5]),([0,1,1,1],[2,3]),([1,1,1,1],[2,3])]
def z1pt (N:Nat)(self:DT2->Option (Int×Int×Unit)):Env:=z25 tys glob [(10,z17 [(0,.v TT1)] (fun x=>self x.1) (zag (.tup [(.int .i64),(.int .i64)]) 1))] [] [] [] false [] []
theorem z1og (N:Nat)(self:DT2->Option (Int×Int×Unit))(hself:Contract Tryd.prog glob 10 (z17 [(0,.v TT1)] (fun x=>self x.1) (zag (.tup [(.int .i64),(.int .i64)]) 1))):EnvOk Tryd.prog (z1pt N self):=zg mixed zz (FnsOk.cons (hself) (FnsOk.nil)) (ItsOk.nil)
def z96 (N:Nat)(self:DT2->Option (Int×Int×Unit))(n:DT2)(all:Int)(deep:Int)(i:Int)(k0:Int->Int->Option (Int×Int×Unit)):Option (Int×Int×Unit):=cond (inR i (List.length n.2.2.1)) ((self (unN (List.getD n.2.2.1 (Int.toNat i) (Tree.mk 0 [] [] 0 0)))).bind fun y=>cond (decide (deep<y.2.1)) (k0 (IntKind.wrap IntKind.i64 (all+y.1)) y.2.1) (k0 (IntKind.wrap IntKind.i64 (all+y.1)) deep)) none
def z1la (N:Nat)(self:DT2->Option (Int×Int×Unit))(x:z1d z1dk)(K:Ex->List A->Option (Int×Int×Unit)):Option (Int×Int×Unit):=z96 N self x.1 x.2.1 x.2.2.1 x.2.2.2.1 (fun a1 a2=>(K .normal (mkS z1dk 28 (x.1,a1,a2,x.2.2.2.1,()))))
def z1is (N:Nat)(self:DT2->Option (Int×Int×Unit)):Hd (Int×Int×Unit):=fun st K=>(unS z1dk 28 (restr [1,6,4,5] 0 st)).bind fun x=>z1la N self x K
def t2_58 (N:Nat)(self:DT2->Option (Int×Int×Unit)):Tab (Int×Int×Unit):=[]
theorem z1fo {N:Nat}{self:DT2->Option (Int×Int×Unit)}{c:Ctx}(hb:Base Tryd.prog (z1pt N self) c):zq Tryd.prog c (zd zlg zyy) (z1is N self) :=
 zr (s:=z1dk) (m:=28) (g:=z1la N self) [1,6,4,5] (ze hb N (t2_58 N self) L_58 zlg TabOk.nil zyy _ rfl) (fun x K=>by kernel_rfl)
def z6a (N:Nat)(self:DT2->Option (Int×Int×Unit))(n:DT2)(all:Int)(deep:Int)(i:Int)(rec:Int->Int->Int->Option (Int×Int×Unit))(k0:Int->Int->Option (Int×Int×Unit)):Option (Int×Int×Unit):=cond (decide (i<(List.length n.2.2.1:Int))) (z96 N self n all deep i (fun all1 deep1=>rec all1 deep1 (IntKind.wrap IntKind.i64 (i+1)))) (k0 all deep)
def zcp (N:Nat)(self:DT2->Option (Int×Int×Unit))(n:DT2)(all:Int)(deep:Int)(i:Int)(k0:Int->Int->Option (Int×Int×Unit)):Option (Int×Int×Unit):=iter (fun (v:(Int×Int×Int)) r=>z6a N self n v.1 v.2.1 v.2.2 (fun all deep i=>(r (all,deep,i))) k0) N (all,deep,i)
def z1m3 (N:Nat)(self:DT2->Option (Int×Int×Unit))(i:DT2)(v:(Int×Int×Int))(r:(Int×Int×Int)->Option (Int×Int×Unit))(K:Ex->List A->Option (Int×Int×Unit)):Option (Int×Int×Unit):=z6a N self i v.1 v.2.1 v.2.2 (fun all deep i=>(r (all,deep,i))) (fun a0 a1=>(K (.exit 0) (mkS [(4,.v (.int .i64)),(0,.v (.int .i64))] 29 (a0,a1,()))))
def z1jl (N:Nat)(self:DT2->Option (Int×Int×Unit)):Hd (Int×Int×Unit):=fun st K=>(unS z1dk 28 (restr [6,1,4,5] 0 st)).bind fun x=>iter (fun v r=>z1m3 N self ((fun x=>x.1) x) v r K) N ((fun x=>(x.2.1,x.2.2.1,x.2.2.2.1)) x)
def t1_58 (N:Nat)(self:DT2->Option (Int×Int×Unit)):Tab (Int×Int×Unit):=[(zyy,z1is N self)]
theorem z1gh {N:Nat}{self:DT2->Option (Int×Int×Unit)}{c:Ctx}(hb:Base Tryd.prog (z1pt N self) c):zq Tryd.prog c (zd zlg [0,1,0,1,1]) (z1jl N self) :=
 z6c (s:=z1dk) (m:=28) (z1m3 N self) [6,1,4,5] N (fun x=>x.1) (fun x=>(x.2.1,x.2.2.1,x.2.2.2.1)) (fun i v=>(i,v.1,v.2.1,v.2.2,())) (fun _=>rfl) (ze hb N (t1_58 N self) L_58 zlg (TabOk.cons (z1fo hb) TabOk.nil) [0,0,1,0,1,1] _ rfl) (fun i v r K=>by kernel_rfl)
def z6z (N:Nat)(self:DT2->Option (Int×Int×Unit))(n:DT2):Option (Int×Int×Unit):=zcp N self n 1 0 0 (fun all deep=>some (all,((IntKind.wrap IntKind.i64 (deep+1)),())))
def t_58 (N:Nat)(self:DT2->Option (Int×Int×Unit)):Tab (Int×Int×Unit):=[([0,1,0,1,1],z1jl N self)]
theorem z1ae (N:Nat)(self:DT2->Option (Int×Int×Unit))(x:z1d [(0,.v TT1)]):z8t (z1pt N self) N (t_58 N self) L_58 Tryd.f10 (mkS [(0,.v TT1)] 0 x) (z53 (.tup [(.int .i64),(.int .i64)]) 1)=z6z N self x.1:=by kernel_rfl
def z29:Nat->DT2->Option (Int×Int×Unit)
 | 0=>fun _=>none
 | N+1=>z6z (N+1) (z29 N)
def zbi (N:Nat):List A->Res:=z17 [(0,.v TT1)] (fun x=>z29 N x.1) (zag (.tup [(.int .i64),(.int .i64)]) 1)
theorem zcq:∀ N:Nat,Contract Tryd.prog glob 10 (zbi N)
 | 0=>Contract.zero Tryd.func10 (body:=zlg) (by kernel_rfl) (by decide) (fun _=>rfl)
 | N+1=>Contract.of (E:=z1pt (N+1) (z29 N)) (H:=t_58 (N+1) (z29 N)) (L:=L_58) (N:=(N+1)) (body:=zlg) (K:=(z53 (.tup [(.int .i64),(.int .i64)]) 1)) (z1og (N+1) (z29 N) (zcq N)) Tryd.func10 (by kernel_rfl) (by decide) (fun _ hb=>(TabOk.cons (z1gh hb) TabOk.nil)) (fun x y h=>by rw[z1ae];exact h) (z1p (s:=(.tup [(.int .i64),(.int .i64)])) (m:=1))
end
end Go.Proofs.YthgcpalmjcomlaaDoorLg
set_option linter.all false
set_option maxRecDepth 100000
namespace Go.Lift
noncomputable section
def BSt (t:T)(w0:World)(S0:Hp)(ob0:List Nat)(bf:Nat)(w:World)(x:t.den)(L:List (Nat×Array Value×Nat)):Prop:=∃ S o,WF w0 (fun k=>k∈ob0) w/\Sub S0 S/\Sub S (hp w)/\(∀ k,S k≠none->S0 k≠none\/k∈ob0\/w0.heap.size<=k)/\ARel (hp w) S (fun _=>undef) (.box t x) (.pointer (some ⟨bf,0,none⟩)) o/\o.Nodup ∧ (∀ k∈o,S k=none/\(k∈ob0\/w0.heap.size<=k))/\∀ p∈L,S p.1=none/\p.1∉o/\w0.heap.size<=p.1/\w.heap[p.1]?=some (.cells p.2.1 p.2.2 (0,0))
variable {P:Program} {glob:Nat->Option Dat} {t:T} {w0 w:World} {S0:Hp} {ob0:List Nat} {bf:Nat} {x:t.den} {L:List (Nat×Array Value×Nat)}
theorem BSt.lt (h:BSt t w0 S0 ob0 bf w x L):∀ p∈L,p.1<w.heap.size:=by
 obtain⟨S,o,_,_,_,_,_,_,_,hL⟩:=h;exact fun p hp=>(Array.getElem?_eq_some_iff.1 (hL p hp).2.2.2).1
theorem BSt.drew (h:BSt t w0 S0 ob0 bf w x L):BSt t w0 S0 ob0 bf w.drew x L:=by
 obtain⟨S,o,k1,k2⟩:=h;exact⟨S,o,⟨k1.size,k1.same,k1.tape,k1.os,k1.output⟩,k2⟩
theorem BSt.swap {L':List (Nat×Array Value×Nat)}(h:BSt t w0 S0 ob0 bf w x L)(hm:∀ p∈L',p∈L):BSt t w0 S0 ob0 bf w x L':=by
 obtain⟨S,o,h1,h2,h3,h4,h5,h6,h7,hL⟩:=h;exact⟨S,o,h1,h2,h3,h4,h5,h6,h7,fun p hp=>hL p (hm p hp)⟩
theorem BSt.cell (h:BSt t w0 S0 ob0 bf w x L){p:Nat}{cs:Array Value}{E i:Nat}{v:Value}(hm:(p,cs,E)∈L)(hi:cs[i]?=some v):w.cell? ⟨p,i,none⟩=some v:=by
 obtain⟨S,o,_,_,_,_,_,_,_,hL⟩:=h;have:=(hL _ hm).2.2.2;simp only at this;simp[World.cell?,this,hi]
theorem BSt.free (h:BSt t w0 S0 ob0 bf w x L){p:Nat}{cs:Array Value}{E i:Nat}(hm:(p,cs,E)∈L):w.frozen? ⟨p,i,none⟩=false:=by
 obtain⟨S,o,_,_,_,_,_,_,_,hL⟩:=h;have:=(hL _ hm).2.2.2;simp only at this;simp[World.frozen?,this]
theorem z1na {w':World} {x':t.den} {S S':Hp} {o o':List Nat} (h1:WF w0 (fun k=>k∈ob0) w) (h2:Sub S0 S) (h4:∀ k,S k≠none->S0 k≠none\/k∈ob0\/w0.heap.size<=k)
 (h7:∀ k∈o,S k=none/\(k∈ob0\/w0.heap.size<=k)) (hL:∀ p∈L,S p.1=none/\p.1∉o/\w0.heap.size<=p.1/\w.heap[p.1]?=some (.cells p.2.1 p.2.2 (0,0)))
 (k1:WF w (fun k=>k∈o) w') (k2:Sub S S') (k3:Sub S' (hp w')) (k4:∀ k,S' k≠none->S k≠none\/k∈o\/w.heap.size<=k) (k5:ARel (hp w') S' (fun _=>undef) (.box t x') (.pointer (some ⟨bf,0,none⟩)) o')
 (k6:o'.Nodup) (k7:∀ k∈o',S' k=none/\(k∈o\/w.heap.size<=k)):BSt t w0 S0 ob0 bf w' x' L:=by
 refine⟨S',o',h1.trans k1 (fun k hk=>(h7 k hk).2),h2.trans k2,k3,fun k hk=>?_,k5,k6,fun k hk=>⟨(k7 k hk).1,?_⟩,fun p hp=>?_⟩
 . rcases k4 k hk with h|h|h
   . exact h4 k h
   . exact .inr (h7 k h).2
   . exact .inr (.inr (Nat.le_trans h1.size h))
 . rcases (k7 k hk).2 with h|h
   . exact (h7 k h).2
   . exact .inr (Nat.le_trans h1.size h)
 . obtain⟨p1,p2,p3,p4⟩:=hL p hp;have hl:=(Array.getElem?_eq_some_iff.1 p4).1;refine⟨?_,fun hk=>?_,p3,?_⟩
   . cases hs:S' p.1 with
     | none=>rfl
     | some q =>
       rcases k4 p.1 (by rw[hs];simp) with h|h|h
       . exact absurd p1 h
       . exact absurd h p2
       . omega
   . rcases (k7 _ hk).2 with h|h
     . exact p2 h
     . omega
   . rw[k1.same p.1 hl p2];exact p4
theorem BSt.plain {f:FuncId}{g:List A->Res}(ct:Contract P glob f g)(hg:∀ S,GlobOk glob S)(h:BSt t w0 S0 ob0 bf w x L){args:List A}{vals:List Value}
 (hrel:∀ S,Sub S (hp w)->ArgsRel (hp w) S args vals (fun _=>[])) {y:(g args).X} (hy:(g args).val=some y) :
 Calls P f vals.toArray w fun e w'=>∃ v S' o',e=.returned v/\ARel (hp w') S' (fun _=>undef) ((g args).out y).1 v o'/\BSt t w0 S0 ob0 bf w' x L:=by
 have h':=h;obtain⟨S,o,h1,h2,h3,h4,h5,h6,h7,hL⟩:=h';refine ((ct.2 w S args vals _ (hrel S h3) h3 (hg S) y hy)).mono ?_;rintro e w' ⟨v,S',q,ob',rfl,hwf,hSS,hSw,hnew,⟨hr,_⟩,_⟩;refine⟨v,S',q,rfl,hr,?_⟩;have hwf':WF w (fun _=>False) w':=⟨hwf.size,fun k hk _=>hwf.same k hk (by rintro⟨i,hi⟩;cases hi),hwf.tape,hwf.os,hwf.output⟩
 have hlt:∀ k∈o,k<w.heap.size:=fun k hk=>by
  obtain⟨ob,hob⟩:=h5.obj k hk;exact (Array.getElem?_eq_some_iff.1 hob.1).1
 have hnw:∀ k,k<w.heap.size->S' k≠none->S k≠none:=fun k hk hs=>by
  rcases hnew k hs with h|⟨i,hi⟩|h
  . exact h
  . cases hi
  . omega
 refine⟨S',o,h1.trans hwf' (fun _ h=>h.elim),h2.trans hSS,hSw,fun k hk=>?_,?_,h6,fun k hk=>⟨?_,(h7 k hk).2⟩,fun p hp=>?_⟩
 . rcases hnew k hk with h|⟨i,hi⟩|h
   . exact h4 k h
   . cases hi
   . exact .inr (.inr (Nat.le_trans h1.size h))
 . obtain⟨b,cs,E,fr,bs,rfl,e1,e2,e3,e4⟩:=h5;refine⟨b,cs,E,fr,bs,rfl,e1,?_,e3,e4.mono hSS _ _ _ _ (fun k hk=>hwf'.same k (hlt k (by simp[hk])) (fun h=>h))⟩;have:=hwf'.same b (hlt b (by simp)) (fun h=>h);simp only[hp] at e2 ⊢;rw[this];exact e2
 . cases hs:S' k with
   | none=>rfl
   | some q=>exact absurd (h7 k hk).1 (hnw k (hlt k hk) (by rw[hs];simp))
 . obtain⟨p1,p2,p3,p4⟩:=hL p hp;have hl:=(Array.getElem?_eq_some_iff.1 p4).1;refine⟨?_,p2,p3,?_⟩
   . cases hs:S' p.1 with
     | none=>rfl
     | some q=>exact absurd p1 (hnw _ hl (by rw[hs];simp))
   . rw[hwf'.same p.1 hl (fun h=>h)];exact p4
theorem zs4 {S:Hp}{v:Value}{o:List Nat}{args:List A}{vals:List Value}(h5:ARel (hp w) S (fun _=>undef) (.box t x) v o)(h6:o.Nodup)(h7:∀ k∈o,S k=none)(hr0:ArgsRel (hp w) S args vals (fun _=>[])) :
 ArgsRel (hp w) S (.box t x::args) (v::vals) (fun i=>if i=0 then o else []):=by
 refine⟨by simp[hr0.len],fun i q hq=>?_,fun i hi=>?_,fun i j b hi hj=>?_,fun i=>?_,fun i b hb=>?_⟩
 . cases i with
   | zero =>
     simp at hq;subst hq;exact⟨⟨_,rfl,by simpa using h5⟩,rfl⟩
   | succ i =>
     obtain⟨⟨v,hv,ha⟩,hrf⟩:=hr0.rel i q (by simpa using hq);exact⟨⟨v,by simpa using hv,by simpa using ha⟩,hrf⟩
 . rw[if_neg (by intro e;subst e;simp at hi)]
 . by_cases hi0:i=0<;>by_cases hj0:j=0<;>simp_all
 . by_cases hi0:i=0<;>simp[hi0,h6]
 . by_cases hi0:i=0
   . rw[if_pos hi0] at hb;exact h7 b hb
   . rw[if_neg hi0] at hb;cases hb
theorem BSt.boxed {f:FuncId}{g:List A->Res}(ct:Contract P glob f g)(hg:∀ S,GlobOk glob S)(h:BSt t w0 S0 ob0 bf w x L){args:List A}{vals:List Value}
 (hrel:∀ S,Sub S (hp w)->ArgsRel (hp w) S args vals (fun _=>[])) {y:(g (.box t x::args)).X} (hy:(g (.box t x::args)).val=some y) {x':t.den} (ho:((g (.box t x::args)).out y).2[0]?=some (.box t x')) :
 Calls P f (.pointer (some ⟨bf,0,none⟩)::vals).toArray w fun e w'=>∃ v S' o',e=.returned v/\ARel (hp w') S' (fun _=>undef) ((g (.box t x::args)).out y).1 v o'/\BSt t w0 S0 ob0 bf w' x' L:=by
 have h':=h;obtain⟨S,o,h1,h2,h3,h4,h5,h6,h7,hL⟩:=h';have har:=zs4 h5 h6 (fun k hk=>(h7 k hk).1) (hrel S h3);refine ((ct.2 w S _ _ _ har h3 (hg S) y hy)).mono ?_;rintro e w' ⟨v,S',q,ob',rfl,hwf,hSS,hSw,hnew,⟨hr,_⟩,hq,_,hbox,hob1,hob2,hob3,_⟩;have hin:∀ k,(∃ i,k∈(fun i=>if i=0 then o else []) i)->k∈o:=by
  rintro k ⟨i,hi⟩;by_cases hi0:i=0
  . simpa[hi0] using hi
  . simp[hi0] at hi
 refine⟨v,S',q,rfl,hr,?_⟩;obtain⟨x2,v2,g1,g2,_,g4⟩:=hbox 0 _ rfl rfl;rw[ho] at g1;cases g1;simp at g2;subst g2;refine z1na h1 h2 h4 h7 hL ⟨hwf.size,fun k hk hn=>hwf.same k hk (fun hh=>hn (hin k hh)),hwf.tape,hwf.os,hwf.output⟩ hSS hSw (fun k hk=>?_) g4 (hob3 0) (fun k hk=>⟨(hob1 0 k hk).2.1,?_⟩)
 . rcases hnew k hk with h|h|h
   . exact .inl h
   . exact .inr (.inl (hin k h))
   . exact .inr (.inr h)
 . rcases (hob1 0 k hk).1 with h|h
   . exact .inl (hin k h)
   . exact .inr h
theorem BSt.alloc (h:BSt t w0 S0 ob0 bf w x L) (cs:Array Value) (E:Nat):BSt t w0 S0 ob0 bf (w.alloc (.cells cs E)) x ((w.heap.size,cs,E)::L):=by
 have hlt:=h.lt;obtain⟨S,o,h1,h2,h3,h4,h5,h6,h7,hL⟩:=h;have hh:(w.alloc (.cells cs E)).heap=w.heap.push (.cells cs E (0,0)):=rfl;have hk:∀ k,k<w.heap.size->(w.alloc (.cells cs E)).heap[k]?=w.heap[k]?:=fun k hk=>by
  rw[hh,Array.getElem?_push,if_neg (by omega)]
 have hol:∀ k∈o,k<w.heap.size:=fun k hk=>by
  obtain⟨ob,hob⟩:=h5.obj k hk;exact (Array.getElem?_eq_some_iff.1 hob.1).1
 refine⟨S,o,⟨by rw[hh,Array.size_push];have:=h1.size;omega,fun k h1' h2'=>by rw[hk k (by have:=h1.size;omega)];exact h1.same k h1' h2',h1.tape,h1.os,h1.output⟩,h2,fun k q ho=>?_,h4,?_,h6,h7,fun p hpm=>?_⟩
 . have:=h3 k q ho;simp only[hp] at this ⊢;rw[hk k (Array.getElem?_eq_some_iff.1 this).1];exact this
 . obtain⟨b,c1,E',fr,bs,rfl,e1,e2,e3,e4⟩:=h5;refine⟨b,c1,E',fr,bs,rfl,e1,?_,e3,e4.mono (Sub.refl _) _ _ _ _ (fun k hkm=>hk k (hol k (by simp[hkm])))⟩;simp only[hp] at e2 ⊢;rw[hk b (hol b (by simp))];exact e2
 . rcases List.mem_cons.1 hpm with rfl|hpm
   . refine⟨?_,fun hm=>absurd (hol _ hm) (by simp),h1.size,?_⟩
     . cases hs:S w.heap.size with
       | none=>rfl
       | some q =>
         have:=h3 _ _ hs;simp only[hp] at this;have:=(Array.getElem?_eq_some_iff.1 this).1;omega
     . simp only;rw[hh,Array.getElem?_push,if_pos rfl]
   . obtain⟨p1,p2,p3,p4⟩:=hL p hpm;exact⟨p1,p2,p3,by rw[hk p.1 (hlt p hpm)];exact p4⟩
theorem BSt.put {p:Nat}{cs:Array Value}{E:Nat}(h:BSt t w0 S0 ob0 bf w x ((p,cs,E)::L))(hd:∀ q∈L,q.1≠p){w':World}{cs':Array Value}(hw:w'=z1h w p (.cells cs' E (0,0))):BSt t w0 S0 ob0 bf w' x ((p,cs',E)::L):=by
 obtain⟨S,o,h1,h2,h3,h4,h5,h6,h7,hL⟩:=h;obtain⟨q1,q2,q3,q4⟩:=hL (p,cs,E) (List.mem_cons_self ..);simp only at q1 q2 q3 q4;have hne:∀ k,k≠p->w'.heap[k]?=w.heap[k]?:=fun k hk=>by
  have:=zj (w:=w) (o:=.cells cs' E (0,0)) hk;rw[hw];exact this
 have hsz:w'.heap.size=w.heap.size:=by rw[hw];simp[z1h]
 refine⟨S,o,⟨by rw[hsz];exact h1.size,fun k h1' h2'=>by rw[hne k (by omega)];exact h1.same k h1' h2',by rw[hw];exact h1.tape,by rw[hw];exact h1.os,by rw[hw];exact h1.output⟩,h2,fun k q ho=>?_,h4,?_,h6,h7,fun u hu=>?_⟩
 . have hk:k≠p:=fun e=>by rw[e,q1] at ho;cases ho
   have:=h3 k q ho;simp only[hp] at this ⊢;rw[hne k hk];exact this
 . obtain⟨b,c1,E',fr,bs,rfl,e1,e2,e3,e4⟩:=h5;refine⟨b,c1,E',fr,bs,rfl,e1,?_,e3,e4.mono (Sub.refl _) _ _ _ _ (fun k hkm=>hne k (fun e=>q2 (by simp[<- e,hkm])))⟩;simp only[hp] at e2 ⊢;rw[hne b (fun e=>q2 (by simp[<- e]))];exact e2
 . rcases List.mem_cons.1 hu with rfl|hu
   . refine⟨q1,q2,q3,?_⟩;rw[hw];exact z2m q4
   . obtain⟨p1,p2,p3,p4⟩:=hL u (List.mem_cons_of_mem _ hu);exact⟨p1,p2,p3,by rw[hne u.1 (hd u hu)];exact p4⟩
theorem BSt.setCell {p:Nat}{cs:Array Value}{E:Nat}(h:BSt t w0 S0 ob0 bf w x ((p,cs,E)::L))(hd:∀ q∈L,q.1≠p)(i:Nat)(v:Value) :
 BSt t w0 S0 ob0 bf (w.setCell ⟨p,i,none⟩ v) x ((p,cs.setIfInBounds i v,E)::L):=by
 have hb:hp w p=some (.cells cs E (0,0)):=by
  obtain⟨S,o,_,_,_,_,_,_,_,hL⟩:=h;exact (hL _ (List.mem_cons_self ..)).2.2.2
 exact h.put hd (zkl v hb)
theorem BSt.start {args:List A}{vals:List Value}{ob:Nat->List Nat}(har:ArgsRel (hp w) S0 (.box t x::args) vals ob)(hS:Sub S0 (hp w)) :
 ∃ bf vs,vals=.pointer (some ⟨bf,0,none⟩)::vs/\ob 0≠[]/\BSt t w S0 (ob 0) bf w x []:=by
 obtain⟨⟨v,hv,hr⟩,_⟩:=har.rel 0 _ rfl;have hr':=hr;obtain⟨b,cs,E,fr,bs,hob,rfl,_⟩:=hr';cases vals with
 | nil=>cases hv
 | cons v vs =>
   cases hv;exact⟨b,vs,rfl,by rw[hob];simp,S0,ob 0,WF.refl _ _,Sub.refl _,hS,fun _ h=>.inl h,hr,har.nd 0,fun k hk=>⟨har.hid 0 k hk,.inl hk⟩,fun p hp=>by cases hp⟩
theorem BSt.ends {args outs:List A}{vs:List Value}{ob:Nat->List Nat}{x0:t.den}{r:A}{v:Value}(h:BSt t w0 S0 (ob 0) bf w x L)(hob:∀ i,ob (i+1)=[])(hne:ob 0≠[])(hargs:∀ y∈args,zbm y=false)
 (hr:∀ S',ARel (hp w) S' (fun _=>undef) r v []) (hrr:r.refs=[]):Ends w0 S0 (.box t x0::args) (.pointer (some ⟨bf,0,none⟩)::vs) ob r (.box t x::outs) (.returned v) w:=by
 obtain⟨S,o,h1,h2,h3,h4,h5,h6,h7,hL⟩:=h;have hz:∀ k,(∃ i,k∈ob i)->k∈ob 0:=by
  rintro k ⟨i,hi⟩;cases i with
  | zero=>exact hi
  | succ i=>rw[hob i] at hi;cases hi
 refine⟨v,S,[],fun i=>if i=0 then o else [],rfl,⟨h1.size,fun k hk hn=>h1.same k hk (fun hh=>hn ⟨0,hh⟩),h1.tape,h1.os,h1.output⟩,h2,h3,fun k hk=>?_,⟨hr S,hrr⟩,(fun k hk=>by cases hk),.nil,?_,?_,?_,?_,?_⟩
 . rcases h4 k hk with h|h|h
   . exact .inl h
   . exact .inr (.inl ⟨0,h⟩)
   . exact .inr (.inr h)
 . intro i y hy hbx;cases i with
   | zero=>exact⟨_,_,rfl,rfl,rfl,by simpa using h5⟩
   | succ i =>
     have:=hargs y (List.mem_of_getElem? (by simpa using hy));rw[hbx] at this;cases this
 . intro i k hk;dsimp only at hk;by_cases hi0:i=0
   . rw[if_pos hi0] at hk;obtain⟨g1,g2⟩:=h7 k hk;refine⟨?_,g1,by simp⟩;rcases g2 with h|h
     . exact .inl ⟨0,h⟩
     . exact .inr h
   . rw[if_neg hi0] at hk;cases hk
 . intro i j k hi hj;by_cases hi0:i=0<;>by_cases hj0:j=0<;>simp_all
 . intro i;by_cases hi0:i=0<;>simp[hi0,h6]
 . intro i hi;by_cases hi0:i=0
   . subst hi0;exact absurd hi hne
   . dsimp only;rw[if_neg hi0]
end
end Go.Lift
