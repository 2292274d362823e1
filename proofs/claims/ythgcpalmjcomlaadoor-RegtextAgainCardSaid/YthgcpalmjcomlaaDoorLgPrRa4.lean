import Derived.Test.YthgcpalmjcomlaaDoorLgPrRa2
import Derived.Test.YthgcpalmjcomlaaDoorLgPrRa3
import Derived.WalkKit
import Derived.Tactics
import Derived.Tactics2
import Derived.Defers
import Derived.Lib.Hide
import Derived.Below
import Derived.Recover
import Derived.Orders
import Derived.WalkSmall
import Derived.LoopN
import Derived.Deep.RegionHeld3
import Derived.Laws.IdiomStrings
import Derived.Test.YthgcpalmjcomlaaDoorLgW
import Derived.Test.YthgcpalmjcomlaaDoorChecked
import Derived.KernelRfl
set_option linter.all false
set_option maxRecDepth 100000
namespace Go.Proofs.YthgcpalmjcomlaaDoorLg
noncomputable section
open Go Go.Lift
abbrev TT0:T:=(.pair (.int .i64) (.pair (.int .i64) .unit))
abbrev TT1:T:=(.pair (.int .i64) (.pair (.arr 4 (.int .u64)) (.pair (.sl .nod) TT0)))
abbrev DT2:Type:=(Int×((List Int)×((List Tree)×(Int×(Int×Unit)))))
abbrev DT3:Type:=((List UInt8)×(Int×(Int×Unit)))
abbrev TT4:T:=(.pair (.self 45) (.pair (.own (.byt 5)) .unit))
abbrev DT6:Type:=(((List Int)×Bool×Unit)×(DT3×Unit))
abbrev DT7:Type:=((List Int)×(DT3×Unit))
abbrev DT8:Type:=(Int×((List Int)×((List Tree)×(Int×(Int×Unit)))))
abbrev TT9:T:=(.pair (.int .i64) (.pair (.int .i64) (.pair .str .unit)))
abbrev zmb:Type:=(Unit×((List Int)×Unit))
abbrev z1d1:List Nat:=[1,1,1,1,1,1,1]
abbrev z1cd:List Nat:=[1,0,1,0,1,1,1]
abbrev z1ce:List Nat:=[0,0,1,0,1,1,1]
abbrev z17t:List Nat:=[1,0,1,1,1,1,1]
abbrev z107:List Nat:=[0,1,1,1,1,1,1]
abbrev zqd:List Nat:=[0,0,1,1,1,1,1]
abbrev PQ86:List Nat:=[0,0,1,0,1,1,1,1]
abbrev z1mk:List Nat:=[1,1,1,0,0,1,0,1]
abbrev z1ml:List Nat:=[0,1,1,0,0,1,0,1]
abbrev z1d2:List Nat:=[0,0,0,0,1,1,1,1]
abbrev z1d3:List Nat:=[0,1,0,1,1,1,1,1]
abbrev z1d4:List Nat:=[1,0,1,0,0,1,0,1]
abbrev PQ66:List Nat:=[0,0,1,1,1,1,1,1]
abbrev z17u:List Nat:=[0,1,1,0,1,0,1,1]
abbrev z17v:List Nat:=[1,1,1,1,1,1,1,1]
abbrev z17w:List Nat:=[0,1,1,1,1,1,1,1]
abbrev z14b:List Nat:=[0,1,0,0,1,0,1,1]
abbrev z17o:List (Nat×AS):=[(0,.v TT1),(0,.v TT1)]
abbrev SQ0:List (Nat×AS):=[(0,.box (.pair .str TT0))]
abbrev PQ85:List Nat:=[1,1,0,0,0,0,1,1,1,1]
abbrev z1mm:List Nat:=[0,0,0,1,1,0,0,1,0,1]
abbrev z1cb:List (Nat×AS):=[(2,.box TT1),(0,.box TT1)]
abbrev zrv:List (Nat×AS):=[(0,.v (.arr 4 (.int .u64)))]
abbrev PQ78:List Nat:=[0,0,0,1,1,0,0,1,0,1,1]
abbrev z1mn:List Nat:=[0,1,0,0,1,1,0,0,1,0,1]
abbrev PQ68:List Nat:=[0,1,0,0,1,0,0,1,0,1,1]
abbrev PQ74:List Nat:=[0,0,1,0,0,1,0,0,1,0,1,1]
abbrev z1d5:List Nat:=[0,1,1,1,1,1,1,1,1,0,1,1,1]
abbrev z1cs:List (Nat×AS):=[(0,.v (.int .u8)),(0,.v (.int .u8))]
abbrev PQ79:List Nat:=[0,0,0,0,1,0,0,1,0,0,1,0,1,1]
abbrev z17x:List Nat:=[0,0,0,0,0,0,0,0,1,0,1,1,1,1]
abbrev z105:List (Nat×AS):=[(0,.v (.int .u64)),(1,.v (.int .i64))]
abbrev zu1:List (Nat×AS):=[(0,.v (.int .i64)),(0,.v (.int .i64))]
abbrev z17p:List (Nat×AS):=[(0,.box (.pair .str TT0)),(1,.box TT1)]
abbrev SQ8:List (Nat×AS):=[(0,.box (.pair .str TT0)),(0,.v (.int .u8))]
abbrev z1ct:List (Nat×AS):=[(0,.box (.pair .str TT0)),(0,.v (.int .i64))]
abbrev z17q:List (Nat×AS):=[(0,.box (.pair .str TT0)),(2,.v (.int .i64))]
abbrev z1cu:List (Nat×AS):=[(0,.v (.arr 4 (.int .u64))),(0,.v (.int .u8))]
abbrev SQ70:List (Nat×AS):=[(1,.box (.arr 4 (.int .u64))),(1,.v (.int .i64))]
abbrev z1cv:List (Nat×AS):=[(0,.box (.pair .str TT0)),(1,.box TT1),(1,.box TT1)]
abbrev SQ3:List (Nat×AS):=[(0,.box (.pair .str TT0)),(1,.box TT1),(0,.row TT1)]
abbrev z1cw:List (Nat×AS):=[(3,.box TT1),(0,.box TT0),(0,.v .str),(0,.v .bool)]
abbrev z16h:List (Nat×AS):=[(0,.v (.arr 4 (.int .u64))),(0,.v (.arr 4 (.int .u64)))]
abbrev z17r:List (Nat×AS):=[(0,.box (.pair .str TT0)),(1,.box TT1),(0,.v (.int .u8))]
abbrev z1mi:List (Nat×AS):=[(1,.box (.arr 4 (.int .u64))),(1,.box TT4),(0,.v (.int .i64))]
abbrev z106:List (Nat×AS):=[(0,.box (.pair .str TT0)),(0,.v (.int .i64)),(3,.v (.int .u8))]
abbrev SQ47:List (Nat×AS):=[(0,.box (.pair .str TT0)),(1,.v (.int .i64)),(0,.v (.int .i64))]
abbrev SQ1:List (Nat×AS):=[(0,.box (.pair .str TT0)),(2,.v (.int .i64)),(0,.v (.int .i64))]
abbrev SQ43:List (Nat×AS):=[(0,.v (.int .i64)),(4,.box (.arr 24 (.int .u8))),(0,.v (.int .u64))]
abbrev SQ42:List (Nat×AS):=[(0,.box (.pair .str TT0)),(1,.box (.arr 4 (.int .u64))),(0,.v .bool)]
abbrev z17s:List (Nat×AS):=[(0,.box (.pair .str TT0)),(1,.box (.arr 4 (.int .u64))),(1,.v (.int .u8))]
abbrev SQ64:List (Nat×AS):=[(0,.box (.pair .str TT0)),(2,.v (.int .i64)),(0,.v (.int .i64)),(70,.v .bool)]
abbrev SQ7:List (Nat×AS):=[(1,.box (.arr 4 (.int .u64))),(1,.box TT4),(0,.v (.int .i64)),(0,.v (.int .i64))]
abbrev SQ6:List (Nat×AS):=[(0,.box (.pair .str TT0)),(1,.v (.int .i64)),(0,.v (.int .i64)),(0,.v (.int .i64))]
abbrev SQ63:List (Nat×AS):=[(0,.box (.pair .str TT0)),(1,.box (.arr 4 (.int .u64))),(0,.box (.arr 4 (.int .u64)))]
abbrev z1cx:List (Nat×AS):=[(0,.box (.pair .str TT0)),(1,.box TT1),(0,.box TT1),(0,.box TT1),(24,.v (.int .u8))]
abbrev SQ61:List (Nat×AS):=[(0,.box (.pair .str TT0)),(1,.box (.arr 4 (.int .u64))),(1,.v (.int .u8)),(9,.v .bool)]
abbrev SQ41:List (Nat×AS):=[(0,.v (.int .i64)),(0,.v (.int .i64)),(4,.box TT9),(1,.v (.arr 3 TT9)),(0,.v (.int .i64))]
abbrev z1cy:List (Nat×AS):=[(0,.box (.pair .str TT0)),(1,.box (.arr 4 (.int .u64))),(1,.v (.int .u8)),(2,.v (.int .u8))]
abbrev z1cz:List (Nat×AS):=[(0,.box (.pair .str TT0)),(1,.box (.arr 4 (.int .u64))),(1,.v (.int .i64)),(0,.v (.int .u8))]
abbrev SQ58:List (Nat×AS):=[(1,.v (.int .u8)),(2,.box (.arr 4 (.int .u64))),(0,.box (.arr 4 (.int .u64))),(0,.v (.int .i64))]
abbrev z1d0:List (Nat×AS):=[(0,.box (.pair .str TT0)),(1,.box (.arr 4 (.int .u64))),(0,.v .bool),(0,.box (.arr 4 (.int .u64)))]
abbrev SQ5:List (Nat×AS):=[(0,.box (.pair .str TT0)),(1,.box (.arr 4 (.int .u64))),(0,.box (.arr 4 (.int .u64))),(0,.v .bool)]
abbrev SQ55:List (Nat×AS):=[(0,.box (.pair .str TT0)),(1,.box (.arr 4 (.int .u64))),(0,.box (.arr 4 (.int .u64))),(13,.v .bool)]
abbrev SQ53:List (Nat×AS):=[(0,.v (.int .i64)),(3,.box TT1),(0,.row TT1),(2,.v (.sl .nod)),(0,.v (.int .i64)),(0,.v (.int .i64))]
abbrev SQ24:List (Nat×AS):=[(2,.box (.arr 4 (.int .u64))),(0,.box (.arr 4 (.int .u64))),(0,.box (.arr 4 (.int .u64))),(1,.v (.int .i64))]
abbrev SQ50:List (Nat×AS):=[(0,.v .str),(1,.box (.arr 4 (.int .u64))),(0,.box (.arr 4 (.int .u64))),(2,.v (.int .i64)),(0,.v (.int .i64))]
abbrev SQ48:List (Nat×AS):=[(0,.box (.pair .str TT0)),(1,.box (.arr 4 (.int .u64))),(0,.box (.arr 4 (.int .u64))),(2,.box (.arr 4 (.int .u64)))]
abbrev SQ2:List (Nat×AS):=[(0,.box (.pair .str TT0)),(1,.box (.arr 4 (.int .u64))),(0,.box (.arr 4 (.int .u64))),(0,.v .bool),(0,.v (.int .i64)),(0,.box (.arr 4 (.int .u64)))]
abbrev SQ39:List (Nat×AS):=[(0,.box (.pair .str TT0)),(1,.box (.arr 4 (.int .u64))),(0,.box (.arr 4 (.int .u64))),(1,.v (.int .i64)),(0,.box (.arr 4 (.int .u64))),(28,.v .bool)]
def ty2:TyI:=⟨(Go.TypeDesc.int IntKind.i64),1,8,(.int .i64),0,false⟩
theorem z1dl:TyOk Tryd.prog 2 ty2:=TyOk.of (by kernel_rfl) (by kernel_rfl) (by kernel_rfl) (by kernel_rfl)
def ty3:TyI:=⟨(Go.TypeDesc.int IntKind.i64),1,8,(.int .i64),0,false⟩
theorem z1dk:TyOk Tryd.prog 3 ty3:=TyOk.of (by kernel_rfl) (by kernel_rfl) (by kernel_rfl) (by kernel_rfl)
def ty4:TyI:=⟨Go.TypeDesc.bool,1,1,.bool,false,false⟩
theorem z1dj:TyOk Tryd.prog 4 ty4:=TyOk.of (by kernel_rfl) (by kernel_rfl) (by kernel_rfl) (by kernel_rfl)
def ty5:TyI:=⟨(Go.TypeDesc.int IntKind.u8),1,1,(.int .u8),0,false⟩
theorem z1di:TyOk Tryd.prog 5 ty5:=TyOk.of (by kernel_rfl) (by kernel_rfl) (by kernel_rfl) (by kernel_rfl)
def ty9:TyI:=⟨Go.TypeDesc.string,1,16,.str,[],false⟩
theorem z1dh:TyOk Tryd.prog 9 ty9:=TyOk.of (by kernel_rfl) (by kernel_rfl) (by kernel_rfl) (by kernel_rfl)
def ty22:TyI:=⟨(Go.TypeDesc.int IntKind.u64),1,8,(.int .u64),0,false⟩
theorem z18t:TyOk Tryd.prog 22 ty22:=TyOk.of (by kernel_rfl) (by kernel_rfl) (by kernel_rfl) (by kernel_rfl)
def ty24:TyI:=⟨(Go.TypeDesc.array 4 22),4,32,(.arr 4 (.int .u64)),([0,0,0,0]:List Int),true⟩
theorem z18s:TyOk Tryd.prog 24 ty24:=TyOk.of (by kernel_rfl) (by kernel_rfl) (by kernel_rfl) (by kernel_rfl)
def ty25:TyI:=⟨(Go.TypeDesc.slice 27),1,24,(.sl .nod),[],false⟩
theorem z18r:TyOk Tryd.prog 25 ty25:=TyOk.of (by kernel_rfl) (by kernel_rfl) (by kernel_rfl) (by kernel_rfl)
def ty27 : TyI := ⟨(Go.TypeDesc.struct (List.toArray ([(Go.Field.mk "Kind" 3 0 false "" "" 0), (Go.Field.mk "Set" 24 1 false "" "" 8), (Go.Field.mk "Kids" 25 5 false "" "" 40), (Go.Field.mk "Min" 3 6 false "" "" 64), (Go.Field.mk "Max" 3 7 false "" "" 72)] : List Go.Field))), 8, 80, TT1, ((0 : Int), ([(0 : Int), (0 : Int), (0 : Int), (0 : Int)] : List Int), ([] : List Tree), (0 : Int), (0 : Int), ()), true⟩
theorem z18q:TyOk Tryd.prog 27 ty27:=TyOk.of (by kernel_rfl) (by kernel_rfl) (by kernel_rfl) (by kernel_rfl)
def ty32:TyI:=⟨(Go.TypeDesc.int IntKind.i64),1,8,(.int .i64),0,false⟩
theorem z18p:TyOk Tryd.prog 32 ty32:=TyOk.of (by kernel_rfl) (by kernel_rfl) (by kernel_rfl) (by kernel_rfl)
def ty34 : TyI := ⟨(Go.TypeDesc.struct (List.toArray ([(Go.Field.mk "E" 32 0 false "" "" 0), (Go.Field.mk "At" 3 1 false "" "" 8)] : List Go.Field))), 2, 16, TT0, ((0 : Int), (0 : Int), ()), true⟩
theorem z18o:TyOk Tryd.prog 34 ty34:=TyOk.of (by kernel_rfl) (by kernel_rfl) (by kernel_rfl) (by kernel_rfl)
def ty42:TyI:=⟨(Go.TypeDesc.pointer 45),1,8,.opq,(Go.Value.pointer none),false⟩
theorem z18n:TyOk Tryd.prog 42 ty42:=TyOk.of (by kernel_rfl) (by kernel_rfl) (by kernel_rfl) (by kernel_rfl)
def ty43:TyI:=⟨(Go.TypeDesc.slice 5),1,24,(.sl (.int .u8)),[],false⟩
theorem z18m:TyOk Tryd.prog 43 ty43:=TyOk.of (by kernel_rfl) (by kernel_rfl) (by kernel_rfl) (by kernel_rfl)
def ty45 : TyI := ⟨(Go.TypeDesc.struct (List.toArray ([(Go.Field.mk "addr" 42 0 false "" "strings" 0), (Go.Field.mk "buf" 43 1 false "" "strings" 8)] : List Go.Field))), 2, 32, (.pair .opq (.pair (.sl (.int .u8)) .unit)), ((Go.Value.pointer none), ([] : List Int), ()), true⟩
theorem z18l:TyOk Tryd.prog 45 ty45:=TyOk.of (by kernel_rfl) (by kernel_rfl) (by kernel_rfl) (by kernel_rfl)
def ty48 : TyI := ⟨(Go.TypeDesc.interface (List.toArray ([("Error", 54)] : List (String × Nat)))), 1, 16, .opq, Go.Value.nilIface, false⟩
theorem z18k:TyOk Tryd.prog 48 ty48:=TyOk.of (by kernel_rfl) (by kernel_rfl) (by kernel_rfl) (by kernel_rfl)
def ty56:TyI:=⟨(Go.TypeDesc.pointer 58),1,8,.opq,(Go.Value.pointer none),false⟩
theorem z18j:TyOk Tryd.prog 56 ty56:=TyOk.of (by kernel_rfl) (by kernel_rfl) (by kernel_rfl) (by kernel_rfl)
def ty58 : TyI := ⟨(Go.TypeDesc.struct (List.toArray ([(Go.Field.mk "s" 9 0 false "" "porter/regex" 0), (Go.Field.mk "at" 3 1 false "" "porter/regex" 16), (Go.Field.mk "open" 3 2 false "" "porter/regex" 24)] : List Go.Field))), 3, 32, (.pair .str TT0), (([] : List UInt8), (0 : Int), (0 : Int), ()), true⟩
theorem z18i:TyOk Tryd.prog 58 ty58:=TyOk.of (by kernel_rfl) (by kernel_rfl) (by kernel_rfl) (by kernel_rfl)
def ty68:TyI:=⟨(Go.TypeDesc.int IntKind.u64),1,8,(.int .u64),0,false⟩
theorem z18h:TyOk Tryd.prog 68 ty68:=TyOk.of (by kernel_rfl) (by kernel_rfl) (by kernel_rfl) (by kernel_rfl)
def ty76 : TyI := ⟨(Go.TypeDesc.struct (List.toArray ([(Go.Field.mk "low" 3 0 false "" "porter/regtext" 0), (Go.Field.mk "high" 3 1 false "" "porter/regtext" 8), (Go.Field.mk "sign" 9 2 false "" "porter/regtext" 16)] : List Go.Field))), 3, 32, TT9, ((0 : Int), (0 : Int), ([] : List UInt8), ()), true⟩
theorem z18g:TyOk Tryd.prog 76 ty76:=TyOk.of (by kernel_rfl) (by kernel_rfl) (by kernel_rfl) (by kernel_rfl)
def ty77:TyI:=⟨(Go.TypeDesc.array 3 76),9,96,(.arr 3 TT9),([(0,0,[],()),(0,0,[],()),(0,0,[],())]:List (Int×(Int×((List UInt8)×Unit)))),true⟩
theorem z18f:TyOk Tryd.prog 77 ty77:=TyOk.of (by kernel_rfl) (by kernel_rfl) (by kernel_rfl) (by kernel_rfl)
def ty85:TyI:=⟨(Go.TypeDesc.array 64 5),64,64,(.arr 64 (.int .u8)),(0::0::0::0::0::0::0::0::0::0::0::0::0::0::0::0::0::0::0::0::0::0::0::0::0::0::0::0::0::0::0::0::0::0::0::0::0::0::0::0::0::0::0::0::0::0::0::0::0::0::0::0::0::0::0::0::0::0::0::0::0::0::0::0::[]),true⟩
theorem z18e:TyOk Tryd.prog 85 ty85:=TyOk.of (by kernel_rfl) (by kernel_rfl) (by kernel_rfl) (by kernel_rfl)
def ty93:TyI:=⟨(Go.TypeDesc.array 24 5),24,24,(.arr 24 (.int .u8)),([0,0,0,0,0,0,0,0,0,0,0,0,0,0,0,0,0,0,0,0,0,0,0,0]:List Int),true⟩
theorem z18d:TyOk Tryd.prog 93 ty93:=TyOk.of (by kernel_rfl) (by kernel_rfl) (by kernel_rfl) (by kernel_rfl)
def z1dp:TyI:=⟨(Go.TypeDesc.array 20 22),20,160,(.arr 20 (.int .u64)),([0,0,0,0,0,0,0,0,0,0,0,0,0,0,0,0,0,0,0,0]:List Int),true⟩
theorem z14j:TyOk Tryd.prog 101 z1dp:=TyOk.of (by kernel_rfl) (by kernel_rfl) (by kernel_rfl) (by kernel_rfl)
def z1do:TyI:=⟨(Go.TypeDesc.int IntKind.u32),1,4,(.int .u32),0,false⟩
theorem z14i:TyOk Tryd.prog 102 z1do:=TyOk.of (by kernel_rfl) (by kernel_rfl) (by kernel_rfl) (by kernel_rfl)
def z1dn:TyI:=⟨(Go.TypeDesc.array 65 5),65,65,(.arr 65 (.int .u8)),(0::0::0::0::0::0::0::0::0::0::0::0::0::0::0::0::0::0::0::0::0::0::0::0::0::0::0::0::0::0::0::0::0::0::0::0::0::0::0::0::0::0::0::0::0::0::0::0::0::0::0::0::0::0::0::0::0::0::0::0::0::0::0::0::0::[]),true⟩
theorem z14h:TyOk Tryd.prog 103 z1dn:=TyOk.of (by kernel_rfl) (by kernel_rfl) (by kernel_rfl) (by kernel_rfl)
def z1dm:TyI:=⟨(Go.TypeDesc.array 32 5),32,32,(.arr 32 (.int .u8)),([0,0,0,0,0,0,0,0,0,0,0,0,0,0,0,0,0,0,0,0,0,0,0,0,0,0,0,0,0,0,0,0]:List Int),true⟩
theorem z14g:TyOk Tryd.prog 107 z1dm:=TyOk.of (by kernel_rfl) (by kernel_rfl) (by kernel_rfl) (by kernel_rfl)
def tys:List (Nat×TyI):=[(2,ty2),(3,ty3),(4,ty4),(5,ty5),(9,ty9),(22,ty22),(24,ty24),(25,ty25),(27,ty27),(32,ty32),(34,ty34),(42,ty42),(43,ty43),(45,ty45),(48,ty48),(56,ty56),(58,ty58),(68,ty68),(76,ty76),(77,ty77),(85,ty85),(93,ty93),(101,z1dp),(102,z1do),(103,z1dn),(107,z1dm)]
theorem z12:TysOk Tryd.prog tys:=TysOk.cons z1dl (TysOk.cons z1dk (TysOk.cons z1dj (TysOk.cons z1di (TysOk.cons z1dh (TysOk.cons z18t (TysOk.cons z18s (TysOk.cons z18r (TysOk.cons z18q (TysOk.cons z18p (TysOk.cons z18o (TysOk.cons z18n (TysOk.cons z18m (TysOk.cons z18l (TysOk.cons z18k (TysOk.cons z18j (TysOk.cons z18i (TysOk.cons z18h (TysOk.cons z18g (TysOk.cons z18f (TysOk.cons z18e (TysOk.cons z18d (TysOk.cons z14j (TysOk.cons z14i (TysOk.cons z14h (TysOk.cons z14g (TysOk.nil))))))))))))))))))))))))))
theorem mixed:Tryd.prog.follows .mixedOrders=true:=by kernel_rfl
def z1me:Code:=(Tryd.f14.body).getD .skip
def L_0:List (List Nat×List Nat):=[([0],[0,1]),([0,1],[0,1]),([0,1,1],[0]),([0,1,1,1],[4,0]),([1,1,1,1],[4,0])]
def E_0 (N:Nat):Env:=z24 tys zd4 [(25,z13i)] [] [] [0] false [] []
theorem Eok_0 (N:Nat):EnvOk Tryd.prog (E_0 N):=zg mixed z12 (FnsOk.cons (z1m5 zd4) (FnsOk.nil)) (ItsOk.nil)
def z3k (N:Nat)(b:zmb)(c:Int):Option (Go.Value×(zmb×Unit)):=cond (decide ((((List.length b.2.1)+1)*1)<=70368744177664)) (some (Go.Value.nilIface,((b.1,((b.2.1++([c]:List Int)),b.2.2)),()))) none
def t_0 (N:Nat):Tab (Go.Value×(zmb×Unit)):=[]
theorem z1gw (N:Nat)(x:z1e [(0,.box TT4),(0,.v (.int .u8))]):z91 (E_0 N) N (t_0 N) L_0 Tryd.f14 (mkS [(0,.box TT4),(0,.v (.int .u8))] 0 x) (z6c (.v .opq) [(0,.box TT4)] 1)=z3k N x.1 x.2.1:=by kernel_rfl
def zaq (N:Nat):List A->Res:=z1a [(0,.box TT4),(0,.v (.int .u8))] (fun x=>z3k N x.1 x.2.1) (z79 (.v .opq) [(0,.box TT4)] 1)
theorem zbg (N:Nat):Contract Tryd.prog zd4 14 (zaq N) :=
 Contract.of (E:=E_0 N) (H:=t_0 N) (L:=L_0) (N:=N) (body:=z1me) (K:=(z6c (.v .opq) [(0,.box TT4)] 1)) (Eok_0 N) Tryd.func14 (by kernel_rfl) (by decide) (fun _ hb=>TabOk.nil) (fun x y h=>by rw[z1gw];exact h) (z4k (s:=(.v .opq)) (os:=[(0,.box TT4)]) (m:=1))
def z1md:Code:=(Tryd.f17.body).getD .skip
def L_1:List (List Nat×List Nat):=[([0],[0,1]),([0,1],[0,1]),([0,1,1],[1,0]),([0,1,1,1],[4,5,0]),([1,1,1,1],[4,5,0])]
def E_1 (N:Nat):Env:=z24 tys zd4 [(25,z13i)] [] [] [0] false [] []
theorem Eok_1 (N:Nat):EnvOk Tryd.prog (E_1 N):=zg mixed z12 (FnsOk.cons (z1m5 zd4) (FnsOk.nil)) (ItsOk.nil)
def z19 (N:Nat)(b:zmb)(s:(List UInt8)):Option ((Int×Go.Value×Unit)×(zmb×Unit)):=cond (decide ((((List.length b.2.1)+(List.length (z3j s)))*1)<=70368744177664)) (some (((List.length s:Int),(Go.Value.nilIface,())),((b.1,((b.2.1++(z3j s)),b.2.2)),()))) none
def t_1 (N:Nat):Tab ((Int×Go.Value×Unit)×(zmb×Unit)):=[]
theorem z1gv (N:Nat)(x:z1e [(0,.box TT4),(0,.v .str)]):z91 (E_1 N) N (t_1 N) L_1 Tryd.f17 (mkS [(0,.box TT4),(0,.v .str)] 0 x) (z6c (.tup [(.int .i64),.opq]) [(0,.box TT4)] 1)=z19 N x.1 x.2.1:=by kernel_rfl
def z4z (N:Nat):List A->Res:=z1a [(0,.box TT4),(0,.v .str)] (fun x=>z19 N x.1 x.2.1) (z79 (.tup [(.int .i64),.opq]) [(0,.box TT4)] 1)
theorem z5g (N:Nat):Contract Tryd.prog zd4 17 (z4z N) :=
 Contract.of (E:=E_1 N) (H:=t_1 N) (L:=L_1) (N:=N) (body:=z1md) (K:=(z6c (.tup [(.int .i64),.opq]) [(0,.box TT4)] 1)) (Eok_1 N) Tryd.func17 (by kernel_rfl) (by decide) (fun _ hb=>TabOk.nil) (fun x y h=>by rw[z1gv];exact h) (z4k (s:=(.tup [(.int .i64),.opq])) (os:=[(0,.box TT4)]) (m:=1))
def z1mc:Code:=(Tryd.f15.body).getD .skip
def L_2:List (List Nat×List Nat):=[([0],[0]),([0,1],[2,0]),([1,1],[2,0])]
def E_2 (N:Nat):Env:=z24 tys zd4 [] [] [] [0] false [] []
theorem Eok_2 (N:Nat):EnvOk Tryd.prog (E_2 N):=zg mixed z12 (FnsOk.nil) (ItsOk.nil)
def z5r (N:Nat)(b:zmb):Option (Int×(zmb×Unit)):=some ((List.length b.2.1:Int),(b,()))
def t_2 (N:Nat):Tab (Int×(zmb×Unit)):=[]
theorem z1gu (N:Nat)(x:z1e [(0,.box TT4)]):z91 (E_2 N) N (t_2 N) L_2 Tryd.f15 (mkS [(0,.box TT4)] 0 x) (z6c (.v (.int .i64)) [(0,.box TT4)] 0)=z5r N x.1:=by kernel_rfl
def zek (N:Nat):List A->Res:=z1a [(0,.box TT4)] (fun x=>z5r N x.1) (z79 (.v (.int .i64)) [(0,.box TT4)] 0)
theorem zft (N:Nat):Contract Tryd.prog zd4 15 (zek N) :=
 Contract.of (E:=E_2 N) (H:=t_2 N) (L:=L_2) (N:=N) (body:=z1mc) (K:=(z6c (.v (.int .i64)) [(0,.box TT4)] 0)) (Eok_2 N) Tryd.func15 (by kernel_rfl) (by decide) (fun _ hb=>TabOk.nil) (fun x y h=>by rw[z1gu];exact h) (z4k (s:=(.v (.int .i64))) (os:=[(0,.box TT4)]) (m:=0))
def glob0:List (Int×(Int×(List UInt8×Unit))):=[(0,-1,[42],()),(1,-1,[43],()),(0,1,[63],())]
def glob1:List Int:=[0,1,56,2,57,49,28,3,61,58,42,50,38,29,17,4,62,47,59,36,45,43,51,22,53,39,33,30,24,18,12,5,63,55,48,27,60,41,37,16,46,35,44,21,52,32,23,11,54,26,40,15,34,20,31,10,25,14,19,9,13,8,7,6]
def glob:Nat->Option Dat:=lk [(0,⟨(.arr 3 TT9),glob0⟩),(1,⟨(.arr 64 (.int .u8)),glob1⟩)]
def z1mb:Code:=(Tryd.f16.body).getD .skip
def L_3:List (List Nat×List Nat):=[([0],[2,3]),([0,1],[4]),([1,1],[4])]
def E_3 (N:Nat):Env:=z24 tys glob [] [] [] [] false [] []
theorem Eok_3 (N:Nat):EnvOk Tryd.prog (E_3 N):=zg mixed z12 (FnsOk.nil) (ItsOk.nil)
def z27 (N:Nat)(n:DT2)(kid:DT2):Option Bool:=cond (n.1 == 2) (cond (kid.1 == 3) (some true) (cond (n.1 == 4) (some (kid.1 != 1)) (some false))) (cond (n.1 == 4) (some (kid.1 != 1)) (some false))
def t_3 (N:Nat):Tab Bool:=[]
theorem z1gt (N:Nat)(x:z1e z17o):z91 (E_3 N) N (t_3 N) L_3 Tryd.f16 (mkS z17o 0 x) (z5j (.v .bool) 2)=z27 N x.1 x.2.1:=by kernel_rfl
def zho (N:Nat):List A->Res:=z1a z17o (fun x=>z27 N x.1 x.2.1) (zb8 (.v .bool) 2)
theorem zic (N:Nat):Contract Tryd.prog glob 16 (zho N) :=
 Contract.of (E:=E_3 N) (H:=t_3 N) (L:=L_3) (N:=N) (body:=z1mb) (K:=(z5j (.v .bool) 2)) (Eok_3 N) Tryd.func16 (by kernel_rfl) (by decide) (fun _ hb=>TabOk.nil) (fun x y h=>by rw[z1gt];exact h) (z1t (s:=(.v .bool)) (m:=2))
def z1ma:Code:=(Tryd.f43.body).getD .skip
def L_4:List (List Nat×List Nat):=[([0],[0]),([0,1],[0]),([0,1,1],[0]),([0,1,1,1],[0]),([0,1,1,1,1],[0]),([0,1,1,1,1,1],[0]),(z107,[0]),(z17w,[2]),(z17v,[2])]
def E_4 (N:Nat):Env:=z24 tys glob [] [] [] [] false [] []
theorem Eok_4 (N:Nat):EnvOk Tryd.prog (E_4 N):=zg mixed z12 (FnsOk.nil) (ItsOk.nil)
def zaj (N:Nat)(x0:Int):Option Int:=(fun (w4:Int)=>(fun (w3:Int)=>(fun (w2:Int)=>(fun (w1:Int)=>(fun (w0:Int)=>some (bitsOp Go.BinOp.and IntKind.i64 (IntKind.wrap IntKind.i64 (IntKind.wrap IntKind.u64 (w0+(z21 IntKind.u64 w0 32)))) 127)) (IntKind.wrap IntKind.u64 (w1+(z21 IntKind.u64 w1 16)))) (IntKind.wrap IntKind.u64 ((bitsOp Go.BinOp.and IntKind.u64 w2 1085102592571150095)+(z21 IntKind.u64 (bitsOp Go.BinOp.and IntKind.u64 w2 1085102592571150095) 8)))) (IntKind.wrap IntKind.u64 ((z21 IntKind.u64 w3 4)+w3))) (IntKind.wrap IntKind.u64 ((bitsOp Go.BinOp.and IntKind.u64 (z21 IntKind.u64 w4 2) 3689348814741910323)+(bitsOp Go.BinOp.and IntKind.u64 w4 3689348814741910323)))) (IntKind.wrap IntKind.u64 ((bitsOp Go.BinOp.and IntKind.u64 (z21 IntKind.u64 x0 1) 6148914691236517205)+(bitsOp Go.BinOp.and IntKind.u64 x0 6148914691236517205)))
def t_4 (N:Nat):Tab Int:=[]
theorem z1gs (N:Nat)(x:z1e [(0,.v (.int .u64))]):z91 (E_4 N) N (t_4 N) L_4 Tryd.f43 (mkS [(0,.v (.int .u64))] 0 x) (z5j (.v (.int .i64)) 1)=zaj N x.1:=by kernel_rfl
def z8j (N:Nat):List A->Res:=z1a [(0,.v (.int .u64))] (fun x=>zaj N x.1) (zb8 (.v (.int .i64)) 1)
theorem ze5 (N:Nat):Contract Tryd.prog glob 43 (z8j N) :=
 Contract.of (E:=E_4 N) (H:=t_4 N) (L:=L_4) (N:=N) (body:=z1ma) (K:=(z5j (.v (.int .i64)) 1)) (Eok_4 N) Tryd.func43 (by kernel_rfl) (by decide) (fun _ hb=>TabOk.nil) (fun x y h=>by rw[z1gs];exact h) (z1t (s:=(.v (.int .i64))) (m:=1))
def z13w:Code:=(Tryd.f35.body).getD .skip
def L_5:List (List Nat×List Nat):=[([0],[1]),([0,1],[1,3]),([0,0,1,1],[7,6,3]),([0,1,0,1,1],[7,6,3]),([0,0,0,1,0,1,1],[8,6,7,3]),(z14b,[6,7,3]),([1,0,1,0,0,1,0,1,1],[3]),(PQ78,[3,5,7,6]),([1,0,0,1,1,0,0,1,0,1,1],[7,6,3]),([0,1,1,0,0,1,0,1,1],[7,6,3]),([1,1,1,0,0,1,0,1,1],[7,6,3]),([1,0,1,1],[3]),([0,1,1,1],[2]),([1,1,1,1],[2])]
def E_5 (N:Nat):Env:=z24 tys glob [(43,z8j N)] [] [] [] false [] []
theorem Eok_5 (N:Nat):EnvOk Tryd.prog (E_5 N):=zg mixed z12 (FnsOk.cons (ze5 N) (FnsOk.nil)) (ItsOk.nil)
def zfr (N:Nat)(x6:(List Int))(n:Int)(x7:Int)(rec:Int->Int->Option Int)(k0:Int->Option Int):Option Int:=(fun (w4:Int)=>(fun (w3:Int)=>(fun (w2:Int)=>(fun (w1:Int)=>(fun (w0:Int)=>cond (decide (x7<4)) (cond (inR x7 4) (rec (IntKind.wrap IntKind.i64 (n+(bitsOp Go.BinOp.and IntKind.i64 (IntKind.wrap IntKind.i64 (IntKind.wrap IntKind.u64 (w0+(z21 IntKind.u64 w0 32)))) 127))) (IntKind.wrap IntKind.i64 (x7+1))) none) (k0 n)) (IntKind.wrap IntKind.u64 (w1+(z21 IntKind.u64 w1 16)))) (IntKind.wrap IntKind.u64 ((bitsOp Go.BinOp.and IntKind.u64 w2 1085102592571150095)+(z21 IntKind.u64 (bitsOp Go.BinOp.and IntKind.u64 w2 1085102592571150095) 8)))) (IntKind.wrap IntKind.u64 ((z21 IntKind.u64 w3 4)+w3))) (IntKind.wrap IntKind.u64 ((bitsOp Go.BinOp.and IntKind.u64 (z21 IntKind.u64 w4 2) 3689348814741910323)+(bitsOp Go.BinOp.and IntKind.u64 w4 3689348814741910323)))) (IntKind.wrap IntKind.u64 ((bitsOp Go.BinOp.and IntKind.u64 (z21 IntKind.u64 (List.getD x6 (Int.toNat x7) 0) 1) 6148914691236517205)+(bitsOp Go.BinOp.and IntKind.u64 (List.getD x6 (Int.toNat x7) 0) 6148914691236517205)))
def zls (N:Nat)(n:Int)(x6:(List Int))(x7:Int)(k0:Int->Option Int):Option Int:=iter (fun (v:(Int×Int)) r=>zfr N x6 v.1 v.2 (fun n x7=>(r (n,x7))) k0) N (n,x7)
def g1_5 (N:Nat)(i:(List Int))(v:(Int×Int))(r:(Int×Int)->Option Int)(K:Ex->List A->Option Int):Option Int:=zfr N i v.1 v.2 (fun n x7=>(r (n,x7))) (fun a0=>(K (.exit 0) (mkS [(3,.v (.int .i64))] 12 (a0,()))))
def h1_5 (N:Nat):Hd Int:=fun st K=>(unS [(3,.v (.int .i64)),(2,.v (.arr 4 (.int .u64))),(0,.v (.int .i64))] 8 (restr [7,6,3] 0 st)).bind fun x=>iter (fun v r=>g1_5 N ((fun x=>x.2.1) x) v r K) N ((fun x=>(x.1,x.2.2.1)) x)
def t1_5 (N:Nat):Tab Int:=[]
theorem ok1_5 {N:Nat}{c:Ctx}(hb:Base Tryd.prog (E_5 N) c):zw Tryd.prog c (zd z13w [0,1,0,1,1]) (h1_5 N) :=
 z6p (s:=[(3,.v (.int .i64)),(2,.v (.arr 4 (.int .u64))),(0,.v (.int .i64))]) (m:=8) (g1_5 N) [7,6,3] N (fun x=>x.2.1) (fun x=>(x.1,x.2.2.1)) (fun i v=>(v.1,i,v.2,())) (fun _=>rfl) (zf hb N (t1_5 N) L_5 z13w TabOk.nil [0,0,1,0,1,1] _ rfl) (fun i v r K=>by kernel_rfl)
def z9t (N:Nat)(s:(List Int)):Option Int:=zls N 0 s 0 (fun n=>some n)
def t_5 (N:Nat):Tab Int:=[([0,1,0,1,1],h1_5 N)]
theorem z1gr (N:Nat)(x:z1e zrv):z91 (E_5 N) N (t_5 N) L_5 Tryd.f35 (mkS zrv 0 x) (z5j (.v (.int .i64)) 1)=z9t N x.1:=by kernel_rfl
def zeg (N:Nat):List A->Res:=z1a zrv (fun x=>z9t N x.1) (zb8 (.v (.int .i64)) 1)
theorem zlt (N:Nat):Contract Tryd.prog glob 35 (zeg N) :=
 Contract.of (E:=E_5 N) (H:=t_5 N) (L:=L_5) (N:=N) (body:=z13w) (K:=(z5j (.v (.int .i64)) 1)) (Eok_5 N) Tryd.func35 (by kernel_rfl) (by decide) (fun _ hb=>(TabOk.cons (ok1_5 hb) TabOk.nil)) (fun x y h=>by rw[z1gr];exact h) (z1t (s:=(.v (.int .i64))) (m:=1))
def z1m9:Code:=(Tryd.f44.body).getD .skip
def L_6:List (List Nat×List Nat):=[([0],[0]),([0,0,1],[4,0]),([1,0,1],[0]),([0,0,1,0,1],[2]),([1,0,1,0,1],[2]),([0,1,1],[2]),([1,1,1],[2])]
def E_6 (N:Nat):Env:=z24 tys glob [] [] [] [] false [] []
theorem Eok_6 (N:Nat):EnvOk Tryd.prog (E_6 N):=zg mixed z12 (FnsOk.nil) (ItsOk.nil)
def z1v (N:Nat)(x0:Int):Option Int:=cond (x0 == 0) (some 64) (cond (inR (z21 IntKind.u64 (IntKind.wrap IntKind.u64 (285870213051353865*(bitsOp Go.BinOp.and IntKind.u64 x0 (IntKind.wrap IntKind.u64 (0 - x0))))) 58) 64) (some (IntKind.wrap IntKind.i64 (List.getD glob1 (Int.toNat (z21 IntKind.u64 (IntKind.wrap IntKind.u64 (285870213051353865*(bitsOp Go.BinOp.and IntKind.u64 x0 (IntKind.wrap IntKind.u64 (0 - x0))))) 58)) 0))) none)
def t_6 (N:Nat):Tab Int:=[]
theorem z1gq (N:Nat)(x:z1e [(0,.v (.int .u64))]):z91 (E_6 N) N (t_6 N) L_6 Tryd.f44 (mkS [(0,.v (.int .u64))] 0 x) (z5j (.v (.int .i64)) 1)=z1v N x.1:=by kernel_rfl
def z6b (N:Nat):List A->Res:=z1a [(0,.v (.int .u64))] (fun x=>z1v N x.1) (zb8 (.v (.int .i64)) 1)
theorem zbo (N:Nat):Contract Tryd.prog glob 44 (z6b N) :=
 Contract.of (E:=E_6 N) (H:=t_6 N) (L:=L_6) (N:=N) (body:=z1m9) (K:=(z5j (.v (.int .i64)) 1)) (Eok_6 N) Tryd.func44 (by kernel_rfl) (by decide) (fun _ hb=>TabOk.nil) (fun x y h=>by rw[z1gq];exact h) (z1t (s:=(.v (.int .i64))) (m:=1))
def z13v:Code:=(Tryd.f36.body).getD .skip
def L_7:List (List Nat×List Nat):=[([0],[1]),([0,0,1],[6,1]),([1,0,1],[1]),([0,0,1,0,1],[2]),([1,0,1,0,1],[2]),([0,1,1],[3,1]),([0,0,1,1,1],[3,1]),([0,0,0,0,0,1,1,1],[10,3,1]),([1,0,0,0,0,1,1,1],[3,1]),([1,1,0,0,0,0,1,1,1],[3,1]),([0,1,0,0,0,1,1,1],[3,1]),([1,0,0,0,1,1,1],[3,1]),([0,1,1,1],[3,1]),([0,1,1,1,1],[2]),([1,1,1,1,1],[2])]
def E_7 (N:Nat):Env:=z24 tys glob [(44,z6b N)] [] [] [] false [] []
theorem Eok_7 (N:Nat):EnvOk Tryd.prog (E_7 N):=zg mixed z12 (FnsOk.cons (zbo N) (FnsOk.nil)) (ItsOk.nil)
def zfp (N:Nat)(s:(List Int))(i:Int)(rec:Int->Option Int)(k0:Int->Option Int):Option Int:=cond (inR i 4) (cond (decide ((Int.toNat i)<(List.length s))) (cond ((List.getD s (Int.toNat i) 0) == 0) (rec (IntKind.wrap IntKind.i64 (i+1))) (k0 i)) none) none
def zfq (N:Nat)(s:(List Int))(i:Int)(k0:Int->Option Int):Option Int:=iter (fun (v:Int) r=>zfp N s v (fun i=>(r i)) k0) N i
def g1_7 (N:Nat)(i:(List Int))(v:Int)(r:Int->Option Int)(K:Ex->List A->Option Int):Option Int:=zfp N i v (fun i=>(r i)) (fun a1=>(K (.exit 0) (mkS SQ70 16 (i,a1,()))))
def h1_7 (N:Nat):Hd Int:=fun st K=>(unS SQ70 16 (restr [3,1] 0 st)).bind fun x=>iter (fun v r=>g1_7 N ((fun x=>x.1) x) v r K) N ((fun x=>x.2.1) x)
def t1_7 (N:Nat):Tab Int:=[]
theorem ok1_7 {N:Nat}{c:Ctx}(hb:Base Tryd.prog (E_7 N) c):zw Tryd.prog c (zd z13v [0,0,1,1,1]) (h1_7 N) :=
 z6p (s:=SQ70) (m:=16) (g1_7 N) [3,1] N (fun x=>x.1) (fun x=>x.2.1) (fun i v=>(i,v,())) (fun _=>rfl) (zf hb N (t1_7 N) L_7 z13v TabOk.nil [0,0,0,1,1,1] _ rfl) (fun i v r K=>by kernel_rfl)
def z1c (N:Nat)(s:(List Int)):Option Int:=cond (eqD (T.arr 4 (T.int IntKind.u64)) s ([0,0,0,0]:List Int)) (some (-1)) (zfq N s 0 (fun i=>cond (inR i 4) (cond (decide ((Int.toNat i)<(List.length s))) ((z1v N (List.getD s (Int.toNat i) 0)).bind fun y=>some (IntKind.wrap IntKind.i64 ((IntKind.wrap IntKind.i64 (i*64))+y))) none) none))
def t_7 (N:Nat):Tab Int:=[([0,0,1,1,1],h1_7 N)]
theorem z1gp (N:Nat)(x:z1e zrv):z91 (E_7 N) N (t_7 N) L_7 Tryd.f36 (mkS zrv 0 x) (z5j (.v (.int .i64)) 1)=z1c N x.1:=by kernel_rfl
def z5d (N:Nat):List A->Res:=z1a zrv (fun x=>z1c N x.1) (zb8 (.v (.int .i64)) 1)
theorem z8o (N:Nat):Contract Tryd.prog glob 36 (z5d N) :=
 Contract.of (E:=E_7 N) (H:=t_7 N) (L:=L_7) (N:=N) (body:=z13v) (K:=(z5j (.v (.int .i64)) 1)) (Eok_7 N) Tryd.func36 (by kernel_rfl) (by decide) (fun _ hb=>(TabOk.cons (ok1_7 hb) TabOk.nil)) (fun x y h=>by rw[z1gp];exact h) (z1t (s:=(.v (.int .i64))) (m:=1))
def z1m8:Code:=(Tryd.f31.body).getD .skip
def L_8:List (List Nat×List Nat):=[([0],[0,1]),([0,1],[4]),([1,1],[4])]
def E_8 (N:Nat):Env:=z24 tys glob [(42,z12l)] [] [] [] false [] []
theorem Eok_8 (N:Nat):EnvOk Tryd.prog (E_8 N):=zg mixed z12 (FnsOk.cons ((Contract.up (z1h0 zd4) glob)) (FnsOk.nil)) (ItsOk.nil)
def zds (N:Nat)(s:(List UInt8))(c:Int):Option Int:=some (Go.Lib.indexByte s (Nat.toUInt8 (Int.toNat c)))
def t_8 (N:Nat):Tab Int:=[]
theorem z1go (N:Nat)(x:z1e [(0,.v .str),(0,.v (.int .u8))]):z91 (E_8 N) N (t_8 N) L_8 Tryd.f31 (mkS [(0,.v .str),(0,.v (.int .u8))] 0 x) (z5j (.v (.int .i64)) 2)=zds N x.1 x.2.1:=by kernel_rfl
def z2s (N:Nat):List A->Res:=z1a [(0,.v .str),(0,.v (.int .u8))] (fun x=>zds N x.1 x.2.1) (zb8 (.v (.int .i64)) 2)
theorem z3x (N:Nat):Contract Tryd.prog glob 31 (z2s N) :=
 Contract.of (E:=E_8 N) (H:=t_8 N) (L:=L_8) (N:=N) (body:=z1m8) (K:=(z5j (.v (.int .i64)) 2)) (Eok_8 N) Tryd.func31 (by kernel_rfl) (by decide) (fun _ hb=>TabOk.nil) (fun x y h=>by rw[z1go];exact h) (z1t (s:=(.v (.int .i64))) (m:=2))
def zts:Code:=(Tryd.f23.body).getD .skip
def L_9:List (List Nat×List Nat):=[([0],[1,0]),([0,0,1],[8,0]),([1,0,1],[0]),([0,0,1,0,1],[4]),([1,0,1,0,1],[4]),([0,0,1,1],[17,0]),([1,0,1,1],[0]),([0,0,1,0,1,1],[4]),([1,0,1,0,1,1],[4]),([0,1,1,1],[4]),([1,1,1,1],[4])]
def E_9 (N:Nat):Env:=z24 tys glob [(31,z2s N)] [] [] [] false [] []
theorem Eok_9 (N:Nat):EnvOk Tryd.prog (E_9 N):=zg mixed z12 (FnsOk.cons (z3x N) (FnsOk.nil)) (ItsOk.nil)
def zdw (N:Nat)(b:Int)(k0:Bool->Option (List UInt8)):Option (List UInt8):=cond (decide (b<32)) (k0 true) (k0 (decide (126<b)))
def g2_9 (N:Nat)(x:z1e [(0,.v (.int .u8))])(K:Ex->List A->Option (List UInt8)):Option (List UInt8):=zdw N x.1 (fun a1=>(K .normal (mkS [(0,.v (.int .u8)),(16,.v .bool)] 11 (x.1,a1,()))))
def h2_9 (N:Nat):Hd (List UInt8):=fun st K=>(unS [(0,.v (.int .u8))] 28 (restr [0] 0 st)).bind fun x=>g2_9 N x K
def t2_9 (N:Nat):Tab (List UInt8):=[]
theorem ok2_9 {N:Nat}{c:Ctx}(hb:Base Tryd.prog (E_9 N) c):zw Tryd.prog c (zd zts [0,0,1,1]) (h2_9 N) :=
 zy (s:=[(0,.v (.int .u8))]) (m:=28) (g:=g2_9 N) [0] (zf hb N (t2_9 N) L_9 zts TabOk.nil [0,0,1,1] _ rfl) (fun x K=>by kernel_rfl)
def zdx (N:Nat)(b:Int)(k0:(List UInt8)->Option (List UInt8))(k1:Option (List UInt8)):Option (List UInt8):=zdw N b (fun x17=>cond x17 (cond (inR (z21 IntKind.u8 b 4) 16) (cond (inR (bitsOp Go.BinOp.and IntKind.u8 b 15) 16) (k0 (zdq ([92,120,(UInt8.toNat (List.getD ([(48:UInt8),(49:UInt8),(50:UInt8),(51:UInt8),(52:UInt8),(53:UInt8),(54:UInt8),(55:UInt8),(56:UInt8),(57:UInt8),(97:UInt8),(98:UInt8),(99:UInt8),(100:UInt8),(101:UInt8),(102:UInt8)]:List UInt8) (Int.toNat (z21 IntKind.u8 b 4)) (0:UInt8)):Int),(UInt8.toNat (List.getD ([(48:UInt8),(49:UInt8),(50:UInt8),(51:UInt8),(52:UInt8),(53:UInt8),(54:UInt8),(55:UInt8),(56:UInt8),(57:UInt8),(97:UInt8),(98:UInt8),(99:UInt8),(100:UInt8),(101:UInt8),(102:UInt8)]:List UInt8) (Int.toNat (bitsOp Go.BinOp.and IntKind.u8 b 15)) (0:UInt8)):Int)]:List Int))) none) none) k1)
def g1_9 (N:Nat)(x:z1e [(0,.v (.int .u8))])(K:Ex->List A->Option (List UInt8)):Option (List UInt8):=zdx N x.1 (fun a0=>(K .ret (mkS [(4,.v .str)] 24 (a0,())))) (K .normal (mkS [(0,.v (.int .u8))] 28 (x.1,())))
def h1_9 (N:Nat):Hd (List UInt8):=fun st K=>(unS [(0,.v (.int .u8))] 28 (restr [0] 0 st)).bind fun x=>g1_9 N x K
def t1_9 (N:Nat):Tab (List UInt8):=[([0,0,1,1],h2_9 N)]
theorem ok1_9 {N:Nat}{c:Ctx}(hb:Base Tryd.prog (E_9 N) c):zw Tryd.prog c (zd zts [0,1,1]) (h1_9 N) :=
 zy (s:=[(0,.v (.int .u8))]) (m:=28) (g:=g1_9 N) [0] (zf hb N (t1_9 N) L_9 zts (TabOk.cons (ok2_9 hb) TabOk.nil) [0,1,1] _ rfl) (fun x K=>by kernel_rfl)
def z4r (N:Nat)(b:Int)(slashed:(List UInt8)):Option (List UInt8):=cond (decide (0<=(Go.Lib.indexByte slashed (Nat.toUInt8 (Int.toNat b))))) (some (zdq ([92,b]:List Int))) (zdx N b (fun x4=>some x4) (some (zdq ([b]:List Int))))
def t_9 (N:Nat):Tab (List UInt8):=[([0,1,1],h1_9 N)]
theorem z1gn (N:Nat)(x:z1e [(0,.v (.int .u8)),(0,.v .str)]):z91 (E_9 N) N (t_9 N) L_9 Tryd.f23 (mkS [(0,.v (.int .u8)),(0,.v .str)] 0 x) (z5j (.v .str) 2)=z4r N x.1 x.2.1:=by kernel_rfl
def z9i (N:Nat):List A->Res:=z1a [(0,.v (.int .u8)),(0,.v .str)] (fun x=>z4r N x.1 x.2.1) (zb8 (.v .str) 2)
theorem zdy (N:Nat):Contract Tryd.prog glob 23 (z9i N) :=
 Contract.of (E:=E_9 N) (H:=t_9 N) (L:=L_9) (N:=N) (body:=zts) (K:=(z5j (.v .str) 2)) (Eok_9 N) Tryd.func23 (by kernel_rfl) (by decide) (fun _ hb=>(TabOk.cons (ok1_9 hb) TabOk.nil)) (fun x y h=>by rw[z1gn];exact h) (z1t (s:=(.v .str)) (m:=2))
def z1bz:Code:=(Tryd.f11.body).getD .skip
def L_10:List (List Nat×List Nat):=[([0],[0]),([0,1],[2]),([1,1],[2])]
def E_10 (N:Nat):Env:=z24 tys glob [(23,z9i N)] [] [] [] false [] []
theorem z1oi (N:Nat):EnvOk Tryd.prog (E_10 N):=zg mixed z12 (FnsOk.cons (zdy N) (FnsOk.nil)) (ItsOk.nil)
def zad (N:Nat)(b:Int):Option (List UInt8):=(z4r N b ([(92:UInt8),(46:UInt8),(91:UInt8),(93:UInt8),(40:UInt8),(41:UInt8),(124:UInt8),(123:UInt8),(125:UInt8),(42:UInt8),(43:UInt8),(63:UInt8)]:List UInt8)).bind fun y=>some y
def t_10 (N:Nat):Tab (List UInt8):=[]
theorem z1b1 (N:Nat)(x:z1e [(0,.v (.int .u8))]):z91 (E_10 N) N (t_10 N) L_10 Tryd.f11 (mkS [(0,.v (.int .u8))] 0 x) (z5j (.v .str) 1)=zad N x.1:=by kernel_rfl
def zas (N:Nat):List A->Res:=z1a [(0,.v (.int .u8))] (fun x=>zad N x.1) (zb8 (.v .str) 1)
theorem zga (N:Nat):Contract Tryd.prog glob 11 (zas N) :=
 Contract.of (E:=E_10 N) (H:=t_10 N) (L:=L_10) (N:=N) (body:=z1bz) (K:=(z5j (.v .str) 1)) (z1oi N) Tryd.func11 (by kernel_rfl) (by decide) (fun _ hb=>TabOk.nil) (fun x y h=>by rw[z1b1];exact h) (z1t (s:=(.v .str)) (m:=1))
def z1by:Code:=(Tryd.f45.body).getD .skip
def L_11:List (List Nat×List Nat):=[([0],[1,2,4]),([0,1],[2,4]),([0,1,1],[4]),([1,1,1],[4])]
def E_11 (N:Nat):Env:=z24 tys glob [] [] [] [] false [] []
theorem z1oh (N:Nat):EnvOk Tryd.prog (E_11 N):=zg mixed z12 (FnsOk.nil) (ItsOk.nil)
def z9d (N:Nat)(s:(List Int))(b:Int):Option (List Int):=cond (inR (IntKind.wrap IntKind.u8 (Int.tdiv b 64)) 4) (cond (decide ((Int.toNat (IntKind.wrap IntKind.u8 (Int.tdiv b 64)))<(List.length s))) (cond (decide (0<=(Int.tmod b 64))) (cond (inR (IntKind.wrap IntKind.u8 (Int.tdiv b 64)) 4) (cond (decide ((Int.toNat (IntKind.wrap IntKind.u8 (Int.tdiv b 64)))<(List.length s))) (some (List.set s (Int.toNat (IntKind.wrap IntKind.u8 (Int.tdiv b 64))) (bitsOp Go.BinOp.or IntKind.u64 (List.getD s (Int.toNat (IntKind.wrap IntKind.u8 (Int.tdiv b 64))) 0) (shlI IntKind.u64 1 (Int.tmod b 64))))) none) none) none) none) none
def t_11 (N:Nat):Tab (List Int):=[]
theorem z1b0 (N:Nat)(x:z1e z1cu):z91 (E_11 N) N (t_11 N) L_11 Tryd.f45 (mkS z1cu 0 x) (z5j (.v (.arr 4 (.int .u64))) 2)=z9d N x.1 x.2.1:=by kernel_rfl
def zaz (N:Nat):List A->Res:=z1a z1cu (fun x=>z9d N x.1 x.2.1) (zb8 (.v (.arr 4 (.int .u64))) 2)
theorem zgu (N:Nat):Contract Tryd.prog glob 45 (zaz N) :=
 Contract.of (E:=E_11 N) (H:=t_11 N) (L:=L_11) (N:=N) (body:=z1by) (K:=(z5j (.v (.arr 4 (.int .u64))) 2)) (z1oh N) Tryd.func45 (by kernel_rfl) (by decide) (fun _ hb=>TabOk.nil) (fun x y h=>by rw[z1b0];exact h) (z1t (s:=(.v (.arr 4 (.int .u64)))) (m:=2))
def zw9:Code:=(Tryd.f37.body).getD .skip
def L_12:List (List Nat×List Nat):=[([0],[0,1,4]),([0,1],[0,1,5,4]),([0,0,1,1],[6,1,5,4]),([0,1,0,1,1],[6,1,5,4]),([0,0,0,0,1,0,1,1],[12,5,6,1,4]),([1,0,0,0,1,0,1,1],[5,6,1,4]),([1,1,0,0,0,1,0,1,1],[5,4]),([0,0,1,0,0,1,0,1,1],[6,1,5,4]),(z14b,[6,1,5,4]),([1,1,0,0,1,0,1,1],[6,1,5,4]),([1,0,1,1],[5,4]),([0,1,1,1],[4]),([1,1,1,1],[4])]
def E_12 (N:Nat):Env:=z24 tys glob [(45,zaz N)] [] [] [] false [] []
theorem z1og (N:Nat):EnvOk Tryd.prog (E_12 N):=zg mixed z12 (FnsOk.cons (zgu N) (FnsOk.nil)) (ItsOk.nil)
def zbq (N:Nat)(hi:Int)(x4:(List Int))(s:(List Int))(b:Int)(rec:(List Int)->Int->Option (List Int))(k0:(List Int)->Option (List Int)):Option (List Int):=cond (decide (b<=(IntKind.wrap IntKind.i64 hi))) ((z9d N s (IntKind.wrap IntKind.u8 b)).bind fun y=>rec y (IntKind.wrap IntKind.i64 (b+1))) (k0 s)
def zju (N:Nat)(hi:Int)(x4:(List Int))(s:(List Int))(b:Int)(k0:(List Int)->Option (List Int)):Option (List Int):=iter (fun (v:((List Int)×Int)) r=>zbq N hi x4 v.1 v.2 (fun s b=>(r (s,b))) k0) N (s,b)
def z1lu (N:Nat)(i:(Int×(List Int)))(v:((List Int)×Int))(r:((List Int)×Int)->Option (List Int))(K:Ex->List A->Option (List Int)):Option (List Int):=zbq N i.1 i.2 v.1 v.2 (fun s b=>(r (s,b))) (fun a1=>(K (.exit 0) (mkS [(4,.box (.arr 4 (.int .u64))),(0,.box (.arr 4 (.int .u64)))] 14 (i.2,a1,()))))
def z1jg (N:Nat):Hd (List Int):=fun st K=>(unS SQ58 13 (restr [6,1,5,4] 0 st)).bind fun x=>iter (fun v r=>z1lu N ((fun x=>(x.1,x.2.1)) x) v r K) N ((fun x=>(x.2.2.1,x.2.2.2.1)) x)
def t1_12 (N:Nat):Tab (List Int):=[]
theorem z1gg {N:Nat}{c:Ctx}(hb:Base Tryd.prog (E_12 N) c):zw Tryd.prog c (zd zw9 [0,1,0,1,1]) (z1jg N) :=
 z6p (s:=SQ58) (m:=13) (z1lu N) [6,1,5,4] N (fun x=>(x.1,x.2.1)) (fun x=>(x.2.2.1,x.2.2.2.1)) (fun i v=>(i.1,i.2,v.1,v.2,())) (fun _=>rfl) (zf hb N (t1_12 N) L_12 zw9 TabOk.nil [0,0,1,0,1,1] _ rfl) (fun i v r K=>by kernel_rfl)
def z1w (N:Nat)(lo:Int)(hi:Int):Option (List Int):=zju N hi ([0,0,0,0]:List Int) ([0,0,0,0]:List Int) (IntKind.wrap IntKind.i64 lo) (fun s=>some s)
def t_12 (N:Nat):Tab (List Int):=[([0,1,0,1,1],z1jg N)]
theorem z1az (N:Nat)(x:z1e z1cs):z91 (E_12 N) N (t_12 N) L_12 Tryd.f37 (mkS z1cs 0 x) (z5j (.v (.arr 4 (.int .u64))) 2)=z1w N x.1 x.2.1:=by kernel_rfl
def z2n (N:Nat):List A->Res:=z1a z1cs (fun x=>z1w N x.1 x.2.1) (zb8 (.v (.arr 4 (.int .u64))) 2)
theorem z3o (N:Nat):Contract Tryd.prog glob 37 (z2n N) :=
 Contract.of (E:=E_12 N) (H:=t_12 N) (L:=L_12) (N:=N) (body:=zw9) (K:=(z5j (.v (.arr 4 (.int .u64))) 2)) (z1og N) Tryd.func37 (by kernel_rfl) (by decide) (fun _ hb=>(TabOk.cons (z1gg hb) TabOk.nil)) (fun x y h=>by rw[z1az];exact h) (z1t (s:=(.v (.arr 4 (.int .u64)))) (m:=2))
def zw8:Code:=(Tryd.f38.body).getD .skip
def L_13:List (List Nat×List Nat):=[([0],[0,2]),([0,1],[0,3,2]),([0,0,1,1],[7,6,3,0,2]),([0,1,0,1,1],[7,6,3,0,2]),([0,0,0,1,0,1,1],[8,7,3,0,6,2]),(z14b,[7,3,0,6,2]),([1,0,1,0,0,1,0,1,1],[3,2]),(PQ78,[3,0,4,7,6,2]),([1,0,0,1,1,0,0,1,0,1,1],[7,6,3,0,2]),([0,1,1,0,0,1,0,1,1],[7,6,3,0,2]),([1,1,1,0,0,1,0,1,1],[7,6,3,0,2]),([1,0,1,1],[3,2]),([0,1,1,1],[2]),([1,1,1,1],[2])]
def E_13 (N:Nat):Env:=z24 tys glob [(45,zaz N)] [] [] [] false [] []
theorem z1of (N:Nat):EnvOk Tryd.prog (E_13 N):=zg mixed z12 (FnsOk.cons (zgu N) (FnsOk.nil)) (ItsOk.nil)
def z8n (N:Nat)(s:(List UInt8))(x2:(List Int))(x6:Int)(set_:(List Int))(x7:Int)(rec:(List Int)->Int->Option (List Int))(k0:(List Int)->Option (List Int)):Option (List Int):=cond (decide (x7<x6)) (cond (inR x7 (List.length s)) ((z9d N set_ (UInt8.toNat (List.getD s (Int.toNat x7) (0:UInt8)):Int)).bind fun y=>rec y (IntKind.wrap IntKind.i64 (x7+1))) none) (k0 set_)
def zfn (N:Nat)(s:(List UInt8))(x2:(List Int))(set_:(List Int))(x6:Int)(x7:Int)(k0:(List Int)->Option (List Int)):Option (List Int):=iter (fun (v:((List Int)×Int)) r=>z8n N s x2 x6 v.1 v.2 (fun set_ x7=>(r (set_,x7))) k0) N (set_,x7)
def z1lt (N:Nat)(i:((List UInt8)×(List Int)×Int))(v:((List Int)×Int))(r:((List Int)×Int)->Option (List Int))(K:Ex->List A->Option (List Int)):Option (List Int):=z8n N i.1 i.2.1 i.2.2 v.1 v.2 (fun set_ x7=>(r (set_,x7))) (fun a1=>(K (.exit 0) (mkS [(2,.box (.arr 4 (.int .u64))),(0,.box (.arr 4 (.int .u64)))] 13 (i.2.1,a1,()))))
def z1jf (N:Nat):Hd (List Int):=fun st K=>(unS SQ50 9 (restr [7,6,3,0,2] 0 st)).bind fun x=>iter (fun v r=>z1lt N ((fun x=>(x.1,x.2.1,x.2.2.2.1)) x) v r K) N ((fun x=>(x.2.2.1,x.2.2.2.2.1)) x)
def t1_13 (N:Nat):Tab (List Int):=[]
theorem z1gf {N:Nat}{c:Ctx}(hb:Base Tryd.prog (E_13 N) c):zw Tryd.prog c (zd zw8 [0,1,0,1,1]) (z1jf N) :=
 z6p (s:=SQ50) (m:=9) (z1lt N) [7,6,3,0,2] N (fun x=>(x.1,x.2.1,x.2.2.2.1)) (fun x=>(x.2.2.1,x.2.2.2.2.1)) (fun i v=>(i.1,i.2.1,v.1,i.2.2,v.2,())) (fun _=>rfl) (zf hb N (t1_13 N) L_13 zw8 TabOk.nil [0,0,1,0,1,1] _ rfl) (fun i v r K=>by kernel_rfl)
def z3n (N:Nat)(s:(List UInt8)):Option (List Int):=zfn N s ([0,0,0,0]:List Int) ([0,0,0,0]:List Int) (List.length s:Int) 0 (fun set_=>some set_)
def t_13 (N:Nat):Tab (List Int):=[([0,1,0,1,1],z1jf N)]
theorem z1ay (N:Nat)(x:z1e [(0,.v .str)]):z91 (E_13 N) N (t_13 N) L_13 Tryd.f38 (mkS [(0,.v .str)] 0 x) (z5j (.v (.arr 4 (.int .u64))) 1)=z3n N x.1:=by kernel_rfl
def z7m (N:Nat):List A->Res:=z1a [(0,.v .str)] (fun x=>z3n N x.1) (zb8 (.v (.arr 4 (.int .u64))) 1)
theorem zb0 (N:Nat):Contract Tryd.prog glob 38 (z7m N) :=
 Contract.of (E:=E_13 N) (H:=t_13 N) (L:=L_13) (N:=N) (body:=zw8) (K:=(z5j (.v (.arr 4 (.int .u64))) 1)) (z1of N) Tryd.func38 (by kernel_rfl) (by decide) (fun _ hb=>(TabOk.cons (z1gf hb) TabOk.nil)) (fun x y h=>by rw[z1ay];exact h) (z1t (s:=(.v (.arr 4 (.int .u64)))) (m:=1))
def z1bx:Code:=(Tryd.f46.body).getD .skip
def L_14:List (List Nat×List Nat):=[([0],[1,2]),([0,1],[4]),([1,1],[4])]
def E_14 (N:Nat):Env:=z24 tys glob [] [] [] [] false [] []
theorem z1oe (N:Nat):EnvOk Tryd.prog (E_14 N):=zg mixed z12 (FnsOk.nil) (ItsOk.nil)
def zcw (N:Nat)(s:(List Int))(b:Int):Option Bool:=cond (inR (IntKind.wrap IntKind.u8 (Int.tdiv b 64)) 4) (cond (decide ((Int.toNat (IntKind.wrap IntKind.u8 (Int.tdiv b 64)))<(List.length s))) (cond (decide (0<=(Int.tmod b 64))) (some ((bitsOp Go.BinOp.and IntKind.u64 (z21 IntKind.u64 (List.getD s (Int.toNat (IntKind.wrap IntKind.u8 (Int.tdiv b 64))) 0) (Int.tmod b 64)) 1) == 1)) none) none) none
def t_14 (N:Nat):Tab Bool:=[]
theorem z1ax (N:Nat)(x:z1e z1cu):z91 (E_14 N) N (t_14 N) L_14 Tryd.f46 (mkS z1cu 0 x) (z5j (.v .bool) 2)=zcw N x.1 x.2.1:=by kernel_rfl
def zgv (N:Nat):List A->Res:=z1a z1cu (fun x=>zcw N x.1 x.2.1) (zb8 (.v .bool) 2)
theorem zow (N:Nat):Contract Tryd.prog glob 46 (zgv N) :=
 Contract.of (E:=E_14 N) (H:=t_14 N) (L:=L_14) (N:=N) (body:=z1bx) (K:=(z5j (.v .bool) 2)) (z1oe N) Tryd.func46 (by kernel_rfl) (by decide) (fun _ hb=>TabOk.nil) (fun x y h=>by rw[z1ax];exact h) (z1t (s:=(.v .bool)) (m:=2))
def z1bw:Code:=(Tryd.f47.body).getD .skip
def L_15:List (List Nat×List Nat):=[([0],[0,1]),([0,1],[1,0,5,6]),([0,0,1,1],[13,5,6]),([0,0,1,0,1,1],[14,5,13,6]),([1,0,1,0,1,1],[5,6]),(z17u,[17,5,6]),([1,1,1,0,1,0,1,1],[5,6]),([0,0,1,1,1,0,1,0,1,1],[4]),([1,0,1,1,1,0,1,0,1,1],[4]),([0,0,1,0,1,0,1,1],[4]),([1,0,1,0,1,0,1,1],[4]),([1,0,1,1],[5,6]),([0,1,1,1],[4]),([1,1,1,1],[4])]
def E_15 (N:Nat):Env:=z24 tys glob [(23,z9i N)] [] [] [] false [] []
theorem z1od (N:Nat):EnvOk Tryd.prog (E_15 N):=zg mixed z12 (FnsOk.cons (zdy N) (FnsOk.nil)) (ItsOk.nil)
def zc5 (N:Nat)(lo:Int)(hi:Int):Option (List UInt8):=(z4r N lo ([(92:UInt8),(91:UInt8),(93:UInt8),(45:UInt8),(94:UInt8)]:List UInt8)).bind fun y=>(z4r N hi ([(92:UInt8),(91:UInt8),(93:UInt8),(45:UInt8),(94:UInt8)]:List UInt8)).bind fun y1=>cond ((IntKind.wrap IntKind.u8 (hi - lo)) == 0) (some y) (cond ((IntKind.wrap IntKind.u8 (hi - lo)) == 1) (cond (decide (((List.length y)+(List.length y1))<=9223372036854775807)) (some (y++y1)) none) (cond (decide (((List.length y)+1)<=9223372036854775807)) (cond (decide (((List.length (y++([(45:UInt8)]:List UInt8)))+(List.length y1))<=9223372036854775807)) (some ((y++([(45:UInt8)]:List UInt8))++y1)) none) none))
def t_15 (N:Nat):Tab (List UInt8):=[]
theorem z1aw (N:Nat)(x:z1e z1cs):z91 (E_15 N) N (t_15 N) L_15 Tryd.f47 (mkS z1cs 0 x) (z5j (.v .str) 2)=zc5 N x.1 x.2.1:=by kernel_rfl
def zg7 (N:Nat):List A->Res:=z1a z1cs (fun x=>zc5 N x.1 x.2.1) (zb8 (.v .str) 2)
theorem zoh (N:Nat):Contract Tryd.prog glob 47 (zg7 N) :=
 Contract.of (E:=E_15 N) (H:=t_15 N) (L:=L_15) (N:=N) (body:=z1bw) (K:=(z5j (.v .str) 2)) (z1od N) Tryd.func47 (by kernel_rfl) (by decide) (fun _ hb=>TabOk.nil) (fun x y h=>by rw[z1aw];exact h) (z1t (s:=(.v .str)) (m:=2))
def zw7:Code:=(Tryd.f54.body).getD .skip
def L_16:List (List Nat×List Nat):=[([0],[1,2]),([0,0,1],[4,1,2]),([0,1,0,1],[4,1,2]),([0,0,0,1,0,1],[5,4,1,2]),([0,1,0,0,1,0,1],[4,1,2]),(z1d4,[1,2]),(z1mm,[3,1,4,2]),([1,0,0,1,1,0,0,1,0,1],[4,1,2]),(z1ml,[4,1,2]),(z1mk,[4,1,2]),([1,0,1],[1,2]),([0,1,1],[2]),([1,1,1],[2])]
def E_16 (N:Nat):Env:=z24 tys glob [] [] [] [] false [] []
theorem z1oc (N:Nat):EnvOk Tryd.prog (E_16 N):=zg mixed z12 (FnsOk.nil) (ItsOk.nil)
def zi1 (N:Nat)(x2:(List Int))(s:(List Int))(x4:Int)(rec:(List Int)->Int->Option (List Int))(k0:(List Int)->Option (List Int)):Option (List Int):=cond (decide (x4<4)) (cond (inR x4 4) (cond (decide ((Int.toNat x4)<(List.length s))) (cond (inR x4 4) (cond (decide ((Int.toNat x4)<(List.length s))) (rec (List.set s (Int.toNat x4) (bitsOp Go.BinOp.xor IntKind.u64 (if ((IntKind.signed IntKind.u64)=true) then (-1) else (IntKind.max IntKind.u64)) (List.getD s (Int.toNat x4) 0))) (IntKind.wrap IntKind.i64 (x4+1))) none) none) none) none) (k0 s)
def zov (N:Nat)(s:(List Int))(x2:(List Int))(x4:Int)(k0:(List Int)->Option (List Int)):Option (List Int):=iter (fun (v:((List Int)×Int)) r=>zi1 N x2 v.1 v.2 (fun s x4=>(r (s,x4))) k0) N (s,x4)
def z1ls (N:Nat)(i:(List Int))(v:((List Int)×Int))(r:((List Int)×Int)->Option (List Int))(K:Ex->List A->Option (List Int)):Option (List Int):=zi1 N i v.1 v.2 (fun s x4=>(r (s,x4))) (fun a0=>(K (.exit 0) (mkS [(1,.box (.arr 4 (.int .u64))),(0,.box (.arr 4 (.int .u64)))] 12 (a0,i,()))))
def z1je (N:Nat):Hd (List Int):=fun st K=>(unS [(1,.box (.arr 4 (.int .u64))),(0,.box (.arr 4 (.int .u64))),(1,.v (.int .i64))] 10 (restr [4,1,2] 0 st)).bind fun x=>iter (fun v r=>z1ls N ((fun x=>x.2.1) x) v r K) N ((fun x=>(x.1,x.2.2.1)) x)
def t1_16 (N:Nat):Tab (List Int):=[]
theorem z1ge {N:Nat}{c:Ctx}(hb:Base Tryd.prog (E_16 N) c):zw Tryd.prog c (zd zw7 [0,1,0,1]) (z1je N) :=
 z6p (s:=[(1,.box (.arr 4 (.int .u64))),(0,.box (.arr 4 (.int .u64))),(1,.v (.int .i64))]) (m:=10) (z1ls N) [4,1,2] N (fun x=>x.2.1) (fun x=>(x.1,x.2.2.1)) (fun i v=>(v.1,i,v.2,())) (fun _=>rfl) (zf hb N (t1_16 N) L_16 zw7 TabOk.nil [0,0,1,0,1] _ rfl) (fun i v r K=>by kernel_rfl)
def z7d (N:Nat)(s:(List Int)):Option (List Int):=zov N s ([0,0,0,0]:List Int) 0 (fun s1=>some s1)
def t_16 (N:Nat):Tab (List Int):=[([0,1,0,1],z1je N)]
theorem z1av (N:Nat)(x:z1e zrv):z91 (E_16 N) N (t_16 N) L_16 Tryd.f54 (mkS zrv 0 x) (z5j (.v (.arr 4 (.int .u64))) 1)=z7d N x.1:=by kernel_rfl
def z9s (N:Nat):List A->Res:=z1a zrv (fun x=>z7d N x.1) (zb8 (.v (.arr 4 (.int .u64))) 1)
theorem zdn (N:Nat):Contract Tryd.prog glob 54 (z9s N) :=
 Contract.of (E:=E_16 N) (H:=t_16 N) (L:=L_16) (N:=N) (body:=zw7) (K:=(z5j (.v (.arr 4 (.int .u64))) 1)) (z1oc N) Tryd.func54 (by kernel_rfl) (by decide) (fun _ hb=>(TabOk.cons (z1ge hb) TabOk.nil)) (fun x y h=>by rw[z1av];exact h) (z1t (s:=(.v (.arr 4 (.int .u64)))) (m:=1))
def zw6:Code:=(Tryd.f53.body).getD .skip
def L_17:List (List Nat×List Nat):=[([0],[2,3,4]),([0,0,1],[6,2,3,4]),([0,1,0,1],[6,2,3,4]),([0,0,0,1,0,1],[7,6,2,3,4]),([0,1,0,0,1,0,1],[6,2,3,4]),(z1d4,[2,4]),(z1mm,[5,2,3,6,4]),([1,0,0,1,1,0,0,1,0,1],[6,2,3,4]),(z1ml,[6,2,3,4]),(z1mk,[6,2,3,4]),([1,0,1],[2,4]),([0,1,1],[4]),([1,1,1],[4])]
def E_17 (N:Nat):Env:=z24 tys glob [] [] [] [] false [] []
theorem z1ob (N:Nat):EnvOk Tryd.prog (E_17 N):=zg mixed z12 (FnsOk.nil) (ItsOk.nil)
def zi2 (N:Nat)(t:(List Int))(x4:(List Int))(s:(List Int))(x6:Int)(rec:(List Int)->Int->Option (List Int))(k0:(List Int)->Option (List Int)):Option (List Int):=cond (decide (x6<4)) (cond (inR x6 4) (cond (decide ((Int.toNat x6)<(List.length s))) (cond (inR x6 4) (cond (decide ((Int.toNat x6)<(List.length t))) (cond (inR x6 4) (cond (decide ((Int.toNat x6)<(List.length s))) (rec (List.set s (Int.toNat x6) (bitsOp Go.BinOp.and IntKind.u64 (List.getD s (Int.toNat x6) 0) (List.getD t (Int.toNat x6) 0))) (IntKind.wrap IntKind.i64 (x6+1))) none) none) none) none) none) none) (k0 s)
def zox (N:Nat)(s:(List Int))(t:(List Int))(x4:(List Int))(x6:Int)(k0:(List Int)->Option (List Int)):Option (List Int):=iter (fun (v:((List Int)×Int)) r=>zi2 N t x4 v.1 v.2 (fun s x6=>(r (s,x6))) k0) N (s,x6)
def z1lr (N:Nat)(i:((List Int)×(List Int)))(v:((List Int)×Int))(r:((List Int)×Int)->Option (List Int))(K:Ex->List A->Option (List Int)):Option (List Int):=zi2 N i.1 i.2 v.1 v.2 (fun s x6=>(r (s,x6))) (fun a0=>(K (.exit 0) (mkS [(2,.box (.arr 4 (.int .u64))),(1,.box (.arr 4 (.int .u64)))] 14 (a0,i.2,()))))
def z1jd (N:Nat):Hd (List Int):=fun st K=>(unS SQ24 12 (restr [6,2,3,4] 0 st)).bind fun x=>iter (fun v r=>z1lr N ((fun x=>(x.2.1,x.2.2.1)) x) v r K) N ((fun x=>(x.1,x.2.2.2.1)) x)
def t1_17 (N:Nat):Tab (List Int):=[]
theorem z1gd {N:Nat}{c:Ctx}(hb:Base Tryd.prog (E_17 N) c):zw Tryd.prog c (zd zw6 [0,1,0,1]) (z1jd N) :=
 z6p (s:=SQ24) (m:=12) (z1lr N) [6,2,3,4] N (fun x=>(x.2.1,x.2.2.1)) (fun x=>(x.1,x.2.2.2.1)) (fun i v=>(v.1,i.1,i.2,v.2,())) (fun _=>rfl) (zf hb N (t1_17 N) L_17 zw6 TabOk.nil [0,0,1,0,1] _ rfl) (fun i v r K=>by kernel_rfl)
def zis (N:Nat)(s:(List Int))(t:(List Int)):Option (List Int):=zox N s t ([0,0,0,0]:List Int) 0 (fun s1=>some s1)
def t_17 (N:Nat):Tab (List Int):=[([0,1,0,1],z1jd N)]
theorem z1au (N:Nat)(x:z1e z16h):z91 (E_17 N) N (t_17 N) L_17 Tryd.f53 (mkS z16h 0 x) (z5j (.v (.arr 4 (.int .u64))) 2)=zis N x.1 x.2.1:=by kernel_rfl
def zgw (N:Nat):List A->Res:=z1a z16h (fun x=>zis N x.1 x.2.1) (zb8 (.v (.arr 4 (.int .u64))) 2)
theorem zoy (N:Nat):Contract Tryd.prog glob 53 (zgw N) :=
 Contract.of (E:=E_17 N) (H:=t_17 N) (L:=L_17) (N:=N) (body:=zw6) (K:=(z5j (.v (.arr 4 (.int .u64))) 2)) (z1ob N) Tryd.func53 (by kernel_rfl) (by decide) (fun _ hb=>(TabOk.cons (z1gd hb) TabOk.nil)) (fun x y h=>by rw[z1au];exact h) (z1t (s:=(.v (.arr 4 (.int .u64)))) (m:=2))
def z1bv:Code:=(Tryd.f48.body).getD .skip
def L_18:List (List Nat×List Nat):=[([0],[2,3,4]),([0,1],[4]),([1,1],[4])]
def E_18 (N:Nat):Env:=z24 tys glob [(53,zgw N),(54,z9s N)] [] [] [] false [] []
theorem z1oa (N:Nat):EnvOk Tryd.prog (E_18 N):=zg mixed z12 (FnsOk.cons (zoy N) (FnsOk.cons (zdn N) (FnsOk.nil))) (ItsOk.nil)
def zap (N:Nat)(s:(List Int))(t:(List Int)):Option (List Int):=(z7d N t).bind fun y=>(zis N s y).bind fun y1=>some y1
def t_18 (N:Nat):Tab (List Int):=[]
theorem z1at (N:Nat)(x:z1e z16h):z91 (E_18 N) N (t_18 N) L_18 Tryd.f48 (mkS z16h 0 x) (z5j (.v (.arr 4 (.int .u64))) 2)=zap N x.1 x.2.1:=by kernel_rfl
def zfo (N:Nat):List A->Res:=z1a z16h (fun x=>zap N x.1 x.2.1) (zb8 (.v (.arr 4 (.int .u64))) 2)
theorem znw (N:Nat):Contract Tryd.prog glob 48 (zfo N) :=
 Contract.of (E:=E_18 N) (H:=t_18 N) (L:=L_18) (N:=N) (body:=z1bv) (K:=(z5j (.v (.arr 4 (.int .u64))) 2)) (z1oa N) Tryd.func48 (by kernel_rfl) (by decide) (fun _ hb=>TabOk.nil) (fun x y h=>by rw[z1at];exact h) (z1t (s:=(.v (.arr 4 (.int .u64)))) (m:=2))
def zcx:Code:=(Tryd.f39.body).getD .skip
def z1cg:List (List Nat×List Nat):=[([0],[1]),([0,1],[1,3]),([0,0,1,1],[4,1,3]),([0,1,0,1,1],[4,1,3]),([0,0,0,0,1,0,1,1],[9,4,1,3]),([1,0,0,0,1,0,1,1],[4,1,3]),([1,1,0,0,0,1,0,1,1],[3]),([0,0,0,1,0,0,1,0,1,1],[5,1,4,3]),(PQ74,[5,1,4,3]),([0,0,0,0,0,1,0,0,1,0,0,1,0,1,1],[21,5,1,4,3]),([1,0,0,0,0,1,0,0,1,0,0,1,0,1,1],[5,1,4,3]),([1,1,0,0,0,0,1,0,0,1,0,0,1,0,1,1],[4,5,3,1]),([0,1,0,0,0,1,0,0,1,0,0,1,0,1,1],[5,1,4,3]),([1,0,0,0,1,0,0,1,0,0,1,0,1,1],[5,1,4,3]),(PQ68,[4,5,3,1]),([0,1,1,0,0,1,0,0,1,0,1,1],[1,4,5,3]),([1,1,1,0,0,1,0,0,1,0,1,1],[1,3]),(z14b,[1,3]),([1,1,0,0,1,0,1,1],[4,1,3]),([1,0,1,1],[3]),([0,1,1,1],[2]),([1,1,1,1],[2])]
def z180 (N:Nat):Env:=z24 tys glob [(48,zfo N),(47,zg7 N),(46,zgv N),(37,z2n N),(36,z5d N),(17,z4z N),(19,z10j)] [] [] [] false [(3,TT4)] []
theorem z1o9 (N:Nat):EnvOk Tryd.prog (z180 N):=zg mixed z12 (FnsOk.cons (znw N) (FnsOk.cons (zoh N) (FnsOk.cons (zow N) (FnsOk.cons (z3o N) (FnsOk.cons (z8o N) (FnsOk.cons ((Contract.up (z5g N) glob)) (FnsOk.cons ((Contract.up (z16o zd4) glob)) (FnsOk.nil)))))))) (ItsOk.nil)
def zc4 (N:Nat)(s:(List Int))(out:zmb)(lo:Int)(hi:Int)(k0:Option (List UInt8))(k1:Option (List UInt8)):Option (List UInt8):=cond (decide (hi<255)) ((zcw N s (IntKind.wrap IntKind.u8 (IntKind.wrap IntKind.i64 (hi+1)))).bind fun y=>cond y k0 k1) k1
def z1jm (N:Nat)(x:z1e SQ7)(K:Ex->List A->Option (List UInt8)):Option (List UInt8):=zc4 N x.1 x.2.1 x.2.2.1 x.2.2.2.1 (K .normal (mkS SQ7 32 (x.1,x.2.1,x.2.2.1,x.2.2.2.1,()))) (K (.exit 2) (mkS SQ7 32 (x.1,x.2.1,x.2.2.1,x.2.2.2.1,())))
def z1h8 (N:Nat):Hd (List UInt8):=fun st K=>(unS SQ7 32 (restr [5,1,4,3] 0 st)).bind fun x=>z1jm N x K
def t5_19 (N:Nat):Tab (List UInt8):=[]
theorem z1e8 {N:Nat}{c:Ctx}(hb:Base Tryd.prog (z180 N) c):zw Tryd.prog c (zd zcx PQ79) (z1h8 N) :=
 zy (s:=SQ7) (m:=32) (g:=z1jm N) [5,1,4,3] (zf hb N (t5_19 N) z1cg zcx TabOk.nil PQ79 _ rfl) (fun x K=>by kernel_rfl)
def zc2 (N:Nat)(s:(List Int))(out:zmb)(lo:Int)(hi:Int)(rec:Int->Option (List UInt8))(k0:Int->Option (List UInt8)):Option (List UInt8):=zc4 N s out lo hi (rec (IntKind.wrap IntKind.i64 (hi+1))) (k0 hi)
def zg5 (N:Nat)(s:(List Int))(out:zmb)(lo:Int)(hi:Int)(k0:Int->Option (List UInt8)):Option (List UInt8):=iter (fun (v:Int) r=>zc2 N s out lo v (fun hi=>(r hi)) k0) N hi
def z1jr (N:Nat)(i:((List Int)×zmb×Int))(v:Int)(r:Int->Option (List UInt8))(K:Ex->List A->Option (List UInt8)):Option (List UInt8):=zc2 N i.1 i.2.1 i.2.2 v (fun hi=>(r hi)) (fun a3=>(K (.exit 2) (mkS SQ7 32 (i.1,i.2.1,i.2.2,a3,()))))
def z1hd (N:Nat):Hd (List UInt8):=fun st K=>(unS SQ7 32 (restr [5,1,4,3] 0 st)).bind fun x=>iter (fun v r=>z1jr N ((fun x=>(x.1,x.2.1,x.2.2.1)) x) v r K) N ((fun x=>x.2.2.2.1) x)
def t4_19 (N:Nat):Tab (List UInt8):=[(PQ79,z1h8 N)]
theorem z1ed {N:Nat}{c:Ctx}(hb:Base Tryd.prog (z180 N) c):zw Tryd.prog c (zd zcx PQ74) (z1hd N) :=
 z6p (s:=SQ7) (m:=32) (z1jr N) [5,1,4,3] N (fun x=>(x.1,x.2.1,x.2.2.1)) (fun x=>x.2.2.2.1) (fun i v=>(i.1,i.2.1,i.2.2,v,())) (fun _=>rfl) (zf hb N (t4_19 N) z1cg zcx (TabOk.cons (z1e8 hb) TabOk.nil) [0,0,0,1,0,0,1,0,0,1,0,1,1] _ rfl) (fun i v r K=>by kernel_rfl)
def z9g (N:Nat)(s:(List Int))(out:zmb)(lo:Int)(hi:Int)(k0:Int->Option (List UInt8)):Option (List UInt8):=zg5 N s out lo hi (fun hi1=>k0 hi1)
def z1k1 (N:Nat)(x:z1e SQ7)(K:Ex->List A->Option (List UInt8)):Option (List UInt8):=z9g N x.1 x.2.1 x.2.2.1 x.2.2.2.1 (fun a3=>(K .normal (mkS SQ7 32 (x.1,x.2.1,x.2.2.1,a3,()))))
def z1hn (N:Nat):Hd (List UInt8):=fun st K=>(unS SQ7 32 (restr [5,1,4,3] 0 st)).bind fun x=>z1k1 N x K
def t3_19 (N:Nat):Tab (List UInt8):=[(PQ74,z1hd N)]
theorem z1en {N:Nat}{c:Ctx}(hb:Base Tryd.prog (z180 N) c):zw Tryd.prog c (zd zcx PQ68) (z1hn N) :=
 zy (s:=SQ7) (m:=32) (g:=z1k1 N) [5,1,4,3] (zf hb N (t3_19 N) z1cg zcx (TabOk.cons (z1ed hb) TabOk.nil) PQ68 _ rfl) (fun x K=>by kernel_rfl)
def z9h (N:Nat)(s:(List Int))(out:zmb)(lo:Int)(k0:(List Int)->zmb->Option (List UInt8)):Option (List UInt8):=z9g N s out lo lo (fun hi=>(zc5 N (IntKind.wrap IntKind.u8 lo) (IntKind.wrap IntKind.u8 hi)).bind fun y=>(z19 N out y).bind fun y1=>(z1w N (IntKind.wrap IntKind.u8 lo) (IntKind.wrap IntKind.u8 hi)).bind fun y2=>(zap N s y2).bind fun y3=>k0 y3 y1.2.1)
def z1kl (N:Nat)(x:z1e z1mi)(K:Ex->List A->Option (List UInt8)):Option (List UInt8):=z9h N x.1 x.2.1 x.2.2.1 (fun a0 a1=>(K .normal (mkS [(1,.box (.arr 4 (.int .u64))),(1,.box TT4)] 34 (a0,a1,()))))
def z1i7 (N:Nat):Hd (List UInt8):=fun st K=>(unS z1mi 33 (restr [4,1,3] 0 st)).bind fun x=>z1kl N x K
def t2_19 (N:Nat):Tab (List UInt8):=[(PQ68,z1hn N)]
theorem z1f7 {N:Nat}{c:Ctx}(hb:Base Tryd.prog (z180 N) c):zw Tryd.prog c (zd zcx z14b) (z1i7 N) :=
 zy (s:=z1mi) (m:=33) (g:=z1kl N) [4,1,3] (zf hb N (t2_19 N) z1cg zcx (TabOk.cons (z1en hb) TabOk.nil) z14b _ rfl) (fun x K=>by kernel_rfl)
def zc3 (N:Nat)(s:(List Int))(out:zmb)(lo:Int)(rec:(List Int)->zmb->Int->Option (List UInt8))(k0:zmb->Option (List UInt8)):Option (List UInt8):=cond (decide (0<=lo)) (z9h N s out lo (fun s1 out1=>(z1c N s1).bind fun y=>rec s1 out1 y)) (k0 out)
def zg6 (N:Nat)(s:(List Int))(out:zmb)(lo:Int)(k0:zmb->Option (List UInt8)):Option (List UInt8):=iter (fun (v:((List Int)×zmb×Int)) r=>zc3 N v.1 v.2.1 v.2.2 (fun s out lo=>(r (s,out,lo))) k0) N (s,out,lo)
def z1lq (N:Nat)(i:Unit)(v:((List Int)×zmb×Int))(r:((List Int)×zmb×Int)->Option (List UInt8))(K:Ex->List A->Option (List UInt8)):Option (List UInt8):=zc3 N v.1 v.2.1 v.2.2 (fun s out lo=>(r (s,out,lo))) (fun a0=>(K (.exit 0) (mkS [(3,.box TT4)] 34 (a0,()))))
def z1jc (N:Nat):Hd (List UInt8):=fun st K=>(unS z1mi 33 (restr [4,1,3] 0 st)).bind fun x=>iter (fun v r=>z1lq N ((fun x=>()) x) v r K) N ((fun x=>(x.1,x.2.1,x.2.2.1)) x)
def t1_19 (N:Nat):Tab (List UInt8):=[(z14b,z1i7 N)]
theorem z1gc {N:Nat}{c:Ctx}(hb:Base Tryd.prog (z180 N) c):zw Tryd.prog c (zd zcx [0,1,0,1,1]) (z1jc N) :=
 z6p (s:=z1mi) (m:=33) (z1lq N) [4,1,3] N (fun x=>()) (fun x=>(x.1,x.2.1,x.2.2.1)) (fun i v=>(v.1,v.2.1,v.2.2,())) (fun _=>rfl) (zf hb N (t1_19 N) z1cg zcx (TabOk.cons (z1f7 hb) TabOk.nil) [0,0,1,0,1,1] _ rfl) (fun i v r K=>by kernel_rfl)
def zac (N:Nat)(s:(List Int)):Option (List UInt8):=(z1c N s).bind fun y=>zg6 N s ((),([],())) y (fun out=>(zs1 (out,())).bind fun y1=>some y1.1)
def t_19 (N:Nat):Tab (List UInt8):=[([0,1,0,1,1],z1jc N)]
theorem z1as (N:Nat)(x:z1e zrv):z91 (z180 N) N (t_19 N) z1cg Tryd.f39 (mkS zrv 0 x) (z5j (.v .str) 1)=zac N x.1:=by kernel_rfl
def zfi (N:Nat):List A->Res:=z1a zrv (fun x=>zac N x.1) (zb8 (.v .str) 1)
theorem zms (N:Nat):Contract Tryd.prog glob 39 (zfi N) :=
 Contract.of (E:=z180 N) (H:=t_19 N) (L:=z1cg) (N:=N) (body:=zcx) (K:=(z5j (.v .str) 1)) (z1o9 N) Tryd.func39 (by kernel_rfl) (by decide) (fun _ hb=>(TabOk.cons (z1gc hb) TabOk.nil)) (fun x y h=>by rw[z1as];exact h) (z1t (s:=(.v .str)) (m:=1))
def z1bu:Code:=(Tryd.f26.body).getD .skip
def L_20:List (List Nat×List Nat):=[([0],[1]),([0,0,0,1],[3,1]),([1,0,0,1],[1]),([0,1,1,0,0,1],[11,1]),([1,1,1,0,0,1],[1]),([0,1,1,1,1,0,0,1],[15,1]),([1,1,1,1,1,0,0,1],[1]),([0,1,1,1,1,1,1,0,0,1],[19,1]),([1,1,1,1,1,1,1,0,0,1],[1]),([0,1,1,1,1,1,1,1,1,0,0,1],[23,1]),([1,1,1,1,1,1,1,1,1,0,0,1],[1]),([0,0,1,1,1,1,1,1,1,1,1,0,0,1],[2]),([1,0,1,1,1,1,1,1,1,1,1,0,0,1],[2]),([0,0,1,1,1,1,1,1,1,0,0,1],[2]),([1,0,1,1,1,1,1,1,1,0,0,1],[2]),([0,0,1,1,1,1,1,0,0,1],[2]),([1,0,1,1,1,1,1,0,0,1],[2]),([0,0,1,1,1,0,0,1],[2]),([1,0,1,1,1,0,0,1],[2]),([0,0,1,0,0,1],[2]),([1,0,1,0,0,1],[2]),([0,1],[1]),([0,1,1],[2]),([1,1,1],[2])]
def E_20 (N:Nat):Env:=z24 tys glob [(39,zfi N),(38,z7m N),(37,z2n N),(11,zas N),(36,z5d N),(35,zeg N)] [] [] [] false [] []
theorem z1o8 (N:Nat):EnvOk Tryd.prog (E_20 N):=zg mixed z12 (FnsOk.cons (zms N) (FnsOk.cons (zb0 N) (FnsOk.cons (z3o N) (FnsOk.cons (zga N) (FnsOk.cons (z8o N) (FnsOk.cons (zlt N) (FnsOk.nil))))))) (ItsOk.nil)
def zc6 (N:Nat)(s:(List Int)):Option (List UInt8):=(z9t N s).bind fun y=>cond (y == 1) ((z1c N s).bind fun y1=>(zad N (IntKind.wrap IntKind.u8 y1)).bind fun y2=>some y2) ((z1w N 0 255).bind fun y3=>cond (eqD (T.arr 4 (T.int IntKind.u64)) s y3) (some ([(46:UInt8)]:List UInt8)) ((z3n N ([(48:UInt8),(49:UInt8),(50:UInt8),(51:UInt8),(52:UInt8),(53:UInt8),(54:UInt8),(55:UInt8),(56:UInt8),(57:UInt8)]:List UInt8)).bind fun y4=>cond (eqD (T.arr 4 (T.int IntKind.u64)) s y4) (some ([(92:UInt8),(100:UInt8)]:List UInt8)) ((z3n N ((48:UInt8)::(49:UInt8)::(50:UInt8)::(51:UInt8)::(52:UInt8)::(53:UInt8)::(54:UInt8)::(55:UInt8)::(56:UInt8)::(57:UInt8)::(65:UInt8)::(66:UInt8)::(67:UInt8)::(68:UInt8)::(69:UInt8)::(70:UInt8)::(71:UInt8)::(72:UInt8)::(73:UInt8)::(74:UInt8)::(75:UInt8)::(76:UInt8)::(77:UInt8)::(78:UInt8)::(79:UInt8)::(80:UInt8)::(81:UInt8)::(82:UInt8)::(83:UInt8)::(84:UInt8)::(85:UInt8)::(86:UInt8)::(87:UInt8)::(88:UInt8)::(89:UInt8)::(90:UInt8)::(95:UInt8)::(97:UInt8)::(98:UInt8)::(99:UInt8)::(100:UInt8)::(101:UInt8)::(102:UInt8)::(103:UInt8)::(104:UInt8)::(105:UInt8)::(106:UInt8)::(107:UInt8)::(108:UInt8)::(109:UInt8)::(110:UInt8)::(111:UInt8)::(112:UInt8)::(113:UInt8)::(114:UInt8)::(115:UInt8)::(116:UInt8)::(117:UInt8)::(118:UInt8)::(119:UInt8)::(120:UInt8)::(121:UInt8)::(122:UInt8)::[])).bind fun y5=>cond (eqD (T.arr 4 (T.int IntKind.u64)) s y5) (some ([(92:UInt8),(119:UInt8)]:List UInt8)) (cond (eqD (T.arr 4 (T.int IntKind.u64)) s ([0,0,0,0]:List Int)) (some ([(91:UInt8),(94:UInt8),(92:UInt8),(120:UInt8),(48:UInt8),(48:UInt8),(45:UInt8),(92:UInt8),(120:UInt8),(102:UInt8),(102:UInt8),(93:UInt8)]:List UInt8)) ((zac N s).bind fun y6=>cond (decide ((1+(List.length y6))<=9223372036854775807)) (cond (decide (((List.length (([(91:UInt8)]:List UInt8)++y6))+1)<=9223372036854775807)) (some ((([(91:UInt8)]:List UInt8)++y6)++([(93:UInt8)]:List UInt8))) none) none)))))
def t_20 (N:Nat):Tab (List UInt8):=[]
theorem z1ar (N:Nat)(x:z1e zrv):z91 (E_20 N) N (t_20 N) L_20 Tryd.f26 (mkS zrv 0 x) (z5j (.v .str) 1)=zc6 N x.1:=by kernel_rfl
def zg9 (N:Nat):List A->Res:=z1a zrv (fun x=>zc6 N x.1) (zb8 (.v .str) 1)
theorem zoj (N:Nat):Contract Tryd.prog glob 26 (zg9 N) :=
 Contract.of (E:=E_20 N) (H:=t_20 N) (L:=L_20) (N:=N) (body:=z1bu) (K:=(z5j (.v .str) 1)) (z1o8 N) Tryd.func26 (by kernel_rfl) (by decide) (fun _ hb=>TabOk.nil) (fun x y h=>by rw[z1ar];exact h) (z1t (s:=(.v .str)) (m:=1))
def z1bt:Code:=(Tryd.f62.body).getD .skip
def L_21:List (List Nat×List Nat):=[([0],[0]),([0,0,1],[4,0]),([1,0,1],[0]),([0,0,1,0,1],[2]),([1,0,1,0,1],[2]),([0,1,1],[2]),([1,1,1],[2])]
def E_21 (N:Nat):Env:=z24 tys glob [] [] [] [] false [] []
theorem z1o7 (N:Nat):EnvOk Tryd.prog (E_21 N):=zg mixed z12 (FnsOk.nil) (ItsOk.nil)
def z6q (N:Nat)(i:Int):Option (List UInt8):=cond (decide (i<10)) (cond (decide ((0<=(IntKind.wrap IntKind.i64 (i+1)))/\((IntKind.wrap IntKind.i64 (i+1))<=36))) (cond (decide ((0<=i)/\(i<=(IntKind.wrap IntKind.i64 (i+1))))) (some (cut ([(48:UInt8),(49:UInt8),(50:UInt8),(51:UInt8),(52:UInt8),(53:UInt8),(54:UInt8),(55:UInt8),(56:UInt8),(57:UInt8),(97:UInt8),(98:UInt8),(99:UInt8),(100:UInt8),(101:UInt8),(102:UInt8),(103:UInt8),(104:UInt8),(105:UInt8),(106:UInt8),(107:UInt8),(108:UInt8),(109:UInt8),(110:UInt8),(111:UInt8),(112:UInt8),(113:UInt8),(114:UInt8),(115:UInt8),(116:UInt8),(117:UInt8),(118:UInt8),(119:UInt8),(120:UInt8),(121:UInt8),(122:UInt8)]:List UInt8) (Int.toNat i) (Int.toNat (IntKind.wrap IntKind.i64 (i+1))))) none) none) (cond (decide ((0<=(IntKind.wrap IntKind.i64 ((IntKind.wrap IntKind.i64 (i*2))+2)))/\((IntKind.wrap IntKind.i64 ((IntKind.wrap IntKind.i64 (i*2))+2))<=(List.length (List.append (List.append ([(48:UInt8),(48:UInt8),(48:UInt8),(49:UInt8),(48:UInt8),(50:UInt8),(48:UInt8),(51:UInt8),(48:UInt8),(52:UInt8),(48:UInt8),(53:UInt8),(48:UInt8),(54:UInt8),(48:UInt8),(55:UInt8),(48:UInt8),(56:UInt8),(48:UInt8),(57:UInt8),(49:UInt8),(48:UInt8),(49:UInt8),(49:UInt8),(49:UInt8),(50:UInt8),(49:UInt8),(51:UInt8),(49:UInt8),(52:UInt8),(49:UInt8),(53:UInt8),(49:UInt8),(54:UInt8),(49:UInt8),(55:UInt8),(49:UInt8),(56:UInt8),(49:UInt8),(57:UInt8),(50:UInt8),(48:UInt8),(50:UInt8),(49:UInt8),(50:UInt8),(50:UInt8),(50:UInt8),(51:UInt8),(50:UInt8),(52:UInt8)]:List UInt8) ([(50:UInt8),(53:UInt8),(50:UInt8),(54:UInt8),(50:UInt8),(55:UInt8),(50:UInt8),(56:UInt8),(50:UInt8),(57:UInt8),(51:UInt8),(48:UInt8),(51:UInt8),(49:UInt8),(51:UInt8),(50:UInt8),(51:UInt8),(51:UInt8),(51:UInt8),(52:UInt8),(51:UInt8),(53:UInt8),(51:UInt8),(54:UInt8),(51:UInt8),(55:UInt8),(51:UInt8),(56:UInt8),(51:UInt8),(57:UInt8),(52:UInt8),(48:UInt8),(52:UInt8),(49:UInt8),(52:UInt8),(50:UInt8),(52:UInt8),(51:UInt8),(52:UInt8),(52:UInt8),(52:UInt8),(53:UInt8),(52:UInt8),(54:UInt8),(52:UInt8),(55:UInt8),(52:UInt8),(56:UInt8),(52:UInt8),(57:UInt8)]:List UInt8)) (List.append ([(53:UInt8),(48:UInt8),(53:UInt8),(49:UInt8),(53:UInt8),(50:UInt8),(53:UInt8),(51:UInt8),(53:UInt8),(52:UInt8),(53:UInt8),(53:UInt8),(53:UInt8),(54:UInt8),(53:UInt8),(55:UInt8),(53:UInt8),(56:UInt8),(53:UInt8),(57:UInt8),(54:UInt8),(48:UInt8),(54:UInt8),(49:UInt8),(54:UInt8),(50:UInt8),(54:UInt8),(51:UInt8),(54:UInt8),(52:UInt8),(54:UInt8),(53:UInt8),(54:UInt8),(54:UInt8),(54:UInt8),(55:UInt8),(54:UInt8),(56:UInt8),(54:UInt8),(57:UInt8),(55:UInt8),(48:UInt8),(55:UInt8),(49:UInt8),(55:UInt8),(50:UInt8),(55:UInt8),(51:UInt8),(55:UInt8),(52:UInt8)]:List UInt8) ([(55:UInt8),(53:UInt8),(55:UInt8),(54:UInt8),(55:UInt8),(55:UInt8),(55:UInt8),(56:UInt8),(55:UInt8),(57:UInt8),(56:UInt8),(48:UInt8),(56:UInt8),(49:UInt8),(56:UInt8),(50:UInt8),(56:UInt8),(51:UInt8),(56:UInt8),(52:UInt8),(56:UInt8),(53:UInt8),(56:UInt8),(54:UInt8),(56:UInt8),(55:UInt8),(56:UInt8),(56:UInt8),(56:UInt8),(57:UInt8),(57:UInt8),(48:UInt8),(57:UInt8),(49:UInt8),(57:UInt8),(50:UInt8),(57:UInt8),(51:UInt8),(57:UInt8),(52:UInt8),(57:UInt8),(53:UInt8),(57:UInt8),(54:UInt8),(57:UInt8),(55:UInt8),(57:UInt8),(56:UInt8),(57:UInt8),(57:UInt8)]:List UInt8))):Int)))) (cond (decide ((0<=(IntKind.wrap IntKind.i64 (i*2)))/\((IntKind.wrap IntKind.i64 (i*2))<=(IntKind.wrap IntKind.i64 ((IntKind.wrap IntKind.i64 (i*2))+2))))) (some (cut (List.append (List.append ([(48:UInt8),(48:UInt8),(48:UInt8),(49:UInt8),(48:UInt8),(50:UInt8),(48:UInt8),(51:UInt8),(48:UInt8),(52:UInt8),(48:UInt8),(53:UInt8),(48:UInt8),(54:UInt8),(48:UInt8),(55:UInt8),(48:UInt8),(56:UInt8),(48:UInt8),(57:UInt8),(49:UInt8),(48:UInt8),(49:UInt8),(49:UInt8),(49:UInt8),(50:UInt8),(49:UInt8),(51:UInt8),(49:UInt8),(52:UInt8),(49:UInt8),(53:UInt8),(49:UInt8),(54:UInt8),(49:UInt8),(55:UInt8),(49:UInt8),(56:UInt8),(49:UInt8),(57:UInt8),(50:UInt8),(48:UInt8),(50:UInt8),(49:UInt8),(50:UInt8),(50:UInt8),(50:UInt8),(51:UInt8),(50:UInt8),(52:UInt8)]:List UInt8) ([(50:UInt8),(53:UInt8),(50:UInt8),(54:UInt8),(50:UInt8),(55:UInt8),(50:UInt8),(56:UInt8),(50:UInt8),(57:UInt8),(51:UInt8),(48:UInt8),(51:UInt8),(49:UInt8),(51:UInt8),(50:UInt8),(51:UInt8),(51:UInt8),(51:UInt8),(52:UInt8),(51:UInt8),(53:UInt8),(51:UInt8),(54:UInt8),(51:UInt8),(55:UInt8),(51:UInt8),(56:UInt8),(51:UInt8),(57:UInt8),(52:UInt8),(48:UInt8),(52:UInt8),(49:UInt8),(52:UInt8),(50:UInt8),(52:UInt8),(51:UInt8),(52:UInt8),(52:UInt8),(52:UInt8),(53:UInt8),(52:UInt8),(54:UInt8),(52:UInt8),(55:UInt8),(52:UInt8),(56:UInt8),(52:UInt8),(57:UInt8)]:List UInt8)) (List.append ([(53:UInt8),(48:UInt8),(53:UInt8),(49:UInt8),(53:UInt8),(50:UInt8),(53:UInt8),(51:UInt8),(53:UInt8),(52:UInt8),(53:UInt8),(53:UInt8),(53:UInt8),(54:UInt8),(53:UInt8),(55:UInt8),(53:UInt8),(56:UInt8),(53:UInt8),(57:UInt8),(54:UInt8),(48:UInt8),(54:UInt8),(49:UInt8),(54:UInt8),(50:UInt8),(54:UInt8),(51:UInt8),(54:UInt8),(52:UInt8),(54:UInt8),(53:UInt8),(54:UInt8),(54:UInt8),(54:UInt8),(55:UInt8),(54:UInt8),(56:UInt8),(54:UInt8),(57:UInt8),(55:UInt8),(48:UInt8),(55:UInt8),(49:UInt8),(55:UInt8),(50:UInt8),(55:UInt8),(51:UInt8),(55:UInt8),(52:UInt8)]:List UInt8) ([(55:UInt8),(53:UInt8),(55:UInt8),(54:UInt8),(55:UInt8),(55:UInt8),(55:UInt8),(56:UInt8),(55:UInt8),(57:UInt8),(56:UInt8),(48:UInt8),(56:UInt8),(49:UInt8),(56:UInt8),(50:UInt8),(56:UInt8),(51:UInt8),(56:UInt8),(52:UInt8),(56:UInt8),(53:UInt8),(56:UInt8),(54:UInt8),(56:UInt8),(55:UInt8),(56:UInt8),(56:UInt8),(56:UInt8),(57:UInt8),(57:UInt8),(48:UInt8),(57:UInt8),(49:UInt8),(57:UInt8),(50:UInt8),(57:UInt8),(51:UInt8),(57:UInt8),(52:UInt8),(57:UInt8),(53:UInt8),(57:UInt8),(54:UInt8),(57:UInt8),(55:UInt8),(57:UInt8),(56:UInt8),(57:UInt8),(57:UInt8)]:List UInt8))) (Int.toNat (IntKind.wrap IntKind.i64 (i*2))) (Int.toNat (IntKind.wrap IntKind.i64 ((IntKind.wrap IntKind.i64 (i*2))+2))))) none) none)
def t_21 (N:Nat):Tab (List UInt8):=[]
theorem z1aq (N:Nat)(x:z1e [(0,.v (.int .i64))]):z91 (E_21 N) N (t_21 N) L_21 Tryd.f62 (mkS [(0,.v (.int .i64))] 0 x) (z5j (.v .str) 1)=z6q N x.1:=by kernel_rfl
def z7s (N:Nat):List A->Res:=z1a [(0,.v (.int .i64))] (fun x=>z6q N x.1) (zb8 (.v .str) 1)
theorem zdl (N:Nat):Contract Tryd.prog glob 62 (z7s N) :=
 Contract.of (E:=E_21 N) (H:=t_21 N) (L:=L_21) (N:=N) (body:=z1bt) (K:=(z5j (.v .str) 1)) (z1o7 N) Tryd.func62 (by kernel_rfl) (by decide) (fun _ hb=>TabOk.nil) (fun x y h=>by rw[z1aq];exact h) (z1t (s:=(.v .str)) (m:=1))
def ziw:Code:=(Tryd.f72.body).getD .skip
def z1ms:List (List Nat×List Nat):=[([0],[0,2]),([0,0,1],[4,0,2]),([1,0,1],[0,2]),([0,0,1,0,1],[0]),([1,0,1,0,1],[0,2]),([0,0,1,1],[8,0,2]),([1,0,1,1],[0,2]),([0,0,1,0,1,1],[2,0]),([1,0,1,0,1,1],[0,2]),([0,0,1,1,1],[14,0,2]),([1,0,1,1,1],[2,0]),(z1ce,[2,0]),(z1cd,[2,0]),([0,1,1,1,1],[2]),([1,1,1,1,1],[2])]
def z1dc (N:Nat):Env:=z24 tys glob [] [] [] [] false [] []
theorem z1o6 (N:Nat):EnvOk Tryd.prog (z1dc N):=zg mixed z12 (FnsOk.nil) (ItsOk.nil)
def zd8 (N:Nat)(x0:Int)(n:Int)(k0:Int->Int->Option Int):Option Int:=cond (decide (4294967296<=x0)) (k0 (z21 IntKind.u64 x0 32) 32) (k0 x0 n)
def z1lp (N:Nat)(x:z1e z105)(K:Ex->List A->Option Int):Option Int:=zd8 N x.1 x.2.1 (fun a0 a1=>(K .normal (mkS z105 22 (a0,a1,()))))
def z1jb (N:Nat):Hd Int:=fun st K=>(unS z105 22 (restr [0,2] 0 st)).bind fun x=>z1lp N x K
def t1_22 (N:Nat):Tab Int:=[]
theorem z1gb {N:Nat}{c:Ctx}(hb:Base Tryd.prog (z1dc N) c):zw Tryd.prog c (zd ziw [0,1]) (z1jb N) :=
 zy (s:=z105) (m:=22) (g:=z1lp N) [0,2] (zf hb N (t1_22 N) z1ms ziw TabOk.nil [0,1] _ rfl) (fun x K=>by kernel_rfl)
def zd7 (N:Nat)(x0:Int)(n:Int)(k0:Int->Int->Option Int):Option Int:=cond (decide (65536<=x0)) (k0 (z21 IntKind.u64 x0 16) (IntKind.wrap IntKind.i64 (n+16))) (k0 x0 n)
def z1kk (N:Nat)(x:z1e z105)(K:Ex->List A->Option Int):Option Int:=zd7 N x.1 x.2.1 (fun a0 a1=>(K .normal (mkS z105 22 (a0,a1,()))))
def z1i6 (N:Nat):Hd Int:=fun st K=>(unS z105 22 (restr [0,2] 0 st)).bind fun x=>z1kk N x K
def t2_22 (N:Nat):Tab Int:=[]
theorem z1f6 {N:Nat}{c:Ctx}(hb:Base Tryd.prog (z1dc N) c):zw Tryd.prog c (zd ziw [0,1,1]) (z1i6 N) :=
 zy (s:=z105) (m:=22) (g:=z1kk N) [0,2] (zf hb N (t2_22 N) z1ms ziw TabOk.nil [0,1,1] _ rfl) (fun x K=>by kernel_rfl)
def zd6 (N:Nat)(x0:Int)(n:Int)(k0:Int->Int->Option Int):Option Int:=cond (decide (256<=x0)) (k0 (z21 IntKind.u64 x0 8) (IntKind.wrap IntKind.i64 (n+8))) (k0 x0 n)
def z1k0 (N:Nat)(x:z1e z105)(K:Ex->List A->Option Int):Option Int:=zd6 N x.1 x.2.1 (fun a0 a1=>(K .normal (mkS z105 22 (a0,a1,()))))
def z1hm (N:Nat):Hd Int:=fun st K=>(unS z105 22 (restr [0,2] 0 st)).bind fun x=>z1k0 N x K
def t3_22 (N:Nat):Tab Int:=[]
theorem z1em {N:Nat}{c:Ctx}(hb:Base Tryd.prog (z1dc N) c):zw Tryd.prog c (zd ziw [0,1,1,1]) (z1hm N) :=
 zy (s:=z105) (m:=22) (g:=z1k0 N) [0,2] (zf hb N (t3_22 N) z1ms ziw TabOk.nil [0,1,1,1] _ rfl) (fun x K=>by kernel_rfl)
def zco (N:Nat)(x0:Int):Option Int:=zd8 N x0 0 (fun x01 n=>zd7 N x01 n (fun x02 n1=>zd6 N x02 n1 (fun x03 n2=>cond (inR (IntKind.wrap IntKind.u8 x03) (List.length (List.append (List.append ((0:UInt8)::(1:UInt8)::(2:UInt8)::(2:UInt8)::(3:UInt8)::(3:UInt8)::(3:UInt8)::(3:UInt8)::(4:UInt8)::(4:UInt8)::(4:UInt8)::(4:UInt8)::(4:UInt8)::(4:UInt8)::(4:UInt8)::(4:UInt8)::(5:UInt8)::(5:UInt8)::(5:UInt8)::(5:UInt8)::(5:UInt8)::(5:UInt8)::(5:UInt8)::(5:UInt8)::(5:UInt8)::(5:UInt8)::(5:UInt8)::(5:UInt8)::(5:UInt8)::(5:UInt8)::(5:UInt8)::(5:UInt8)::(6:UInt8)::(6:UInt8)::(6:UInt8)::(6:UInt8)::(6:UInt8)::(6:UInt8)::(6:UInt8)::(6:UInt8)::(6:UInt8)::(6:UInt8)::(6:UInt8)::(6:UInt8)::(6:UInt8)::(6:UInt8)::(6:UInt8)::(6:UInt8)::(6:UInt8)::(6:UInt8)::(6:UInt8)::(6:UInt8)::(6:UInt8)::(6:UInt8)::(6:UInt8)::(6:UInt8)::(6:UInt8)::(6:UInt8)::(6:UInt8)::(6:UInt8)::(6:UInt8)::(6:UInt8)::(6:UInt8)::(6:UInt8)::[]) ((7:UInt8)::(7:UInt8)::(7:UInt8)::(7:UInt8)::(7:UInt8)::(7:UInt8)::(7:UInt8)::(7:UInt8)::(7:UInt8)::(7:UInt8)::(7:UInt8)::(7:UInt8)::(7:UInt8)::(7:UInt8)::(7:UInt8)::(7:UInt8)::(7:UInt8)::(7:UInt8)::(7:UInt8)::(7:UInt8)::(7:UInt8)::(7:UInt8)::(7:UInt8)::(7:UInt8)::(7:UInt8)::(7:UInt8)::(7:UInt8)::(7:UInt8)::(7:UInt8)::(7:UInt8)::(7:UInt8)::(7:UInt8)::(7:UInt8)::(7:UInt8)::(7:UInt8)::(7:UInt8)::(7:UInt8)::(7:UInt8)::(7:UInt8)::(7:UInt8)::(7:UInt8)::(7:UInt8)::(7:UInt8)::(7:UInt8)::(7:UInt8)::(7:UInt8)::(7:UInt8)::(7:UInt8)::(7:UInt8)::(7:UInt8)::(7:UInt8)::(7:UInt8)::(7:UInt8)::(7:UInt8)::(7:UInt8)::(7:UInt8)::(7:UInt8)::(7:UInt8)::(7:UInt8)::(7:UInt8)::(7:UInt8)::(7:UInt8)::(7:UInt8)::(7:UInt8)::[])) (List.append ((8:UInt8)::(8:UInt8)::(8:UInt8)::(8:UInt8)::(8:UInt8)::(8:UInt8)::(8:UInt8)::(8:UInt8)::(8:UInt8)::(8:UInt8)::(8:UInt8)::(8:UInt8)::(8:UInt8)::(8:UInt8)::(8:UInt8)::(8:UInt8)::(8:UInt8)::(8:UInt8)::(8:UInt8)::(8:UInt8)::(8:UInt8)::(8:UInt8)::(8:UInt8)::(8:UInt8)::(8:UInt8)::(8:UInt8)::(8:UInt8)::(8:UInt8)::(8:UInt8)::(8:UInt8)::(8:UInt8)::(8:UInt8)::(8:UInt8)::(8:UInt8)::(8:UInt8)::(8:UInt8)::(8:UInt8)::(8:UInt8)::(8:UInt8)::(8:UInt8)::(8:UInt8)::(8:UInt8)::(8:UInt8)::(8:UInt8)::(8:UInt8)::(8:UInt8)::(8:UInt8)::(8:UInt8)::(8:UInt8)::(8:UInt8)::(8:UInt8)::(8:UInt8)::(8:UInt8)::(8:UInt8)::(8:UInt8)::(8:UInt8)::(8:UInt8)::(8:UInt8)::(8:UInt8)::(8:UInt8)::(8:UInt8)::(8:UInt8)::(8:UInt8)::(8:UInt8)::[]) ((8:UInt8)::(8:UInt8)::(8:UInt8)::(8:UInt8)::(8:UInt8)::(8:UInt8)::(8:UInt8)::(8:UInt8)::(8:UInt8)::(8:UInt8)::(8:UInt8)::(8:UInt8)::(8:UInt8)::(8:UInt8)::(8:UInt8)::(8:UInt8)::(8:UInt8)::(8:UInt8)::(8:UInt8)::(8:UInt8)::(8:UInt8)::(8:UInt8)::(8:UInt8)::(8:UInt8)::(8:UInt8)::(8:UInt8)::(8:UInt8)::(8:UInt8)::(8:UInt8)::(8:UInt8)::(8:UInt8)::(8:UInt8)::(8:UInt8)::(8:UInt8)::(8:UInt8)::(8:UInt8)::(8:UInt8)::(8:UInt8)::(8:UInt8)::(8:UInt8)::(8:UInt8)::(8:UInt8)::(8:UInt8)::(8:UInt8)::(8:UInt8)::(8:UInt8)::(8:UInt8)::(8:UInt8)::(8:UInt8)::(8:UInt8)::(8:UInt8)::(8:UInt8)::(8:UInt8)::(8:UInt8)::(8:UInt8)::(8:UInt8)::(8:UInt8)::(8:UInt8)::(8:UInt8)::(8:UInt8)::(8:UInt8)::(8:UInt8)::(8:UInt8)::(8:UInt8)::[]))))) (some (IntKind.wrap IntKind.i64 (n2+(IntKind.wrap IntKind.i64 (((UInt8.toNat (List.getD (List.append (List.append ((0:UInt8)::(1:UInt8)::(2:UInt8)::(2:UInt8)::(3:UInt8)::(3:UInt8)::(3:UInt8)::(3:UInt8)::(4:UInt8)::(4:UInt8)::(4:UInt8)::(4:UInt8)::(4:UInt8)::(4:UInt8)::(4:UInt8)::(4:UInt8)::(5:UInt8)::(5:UInt8)::(5:UInt8)::(5:UInt8)::(5:UInt8)::(5:UInt8)::(5:UInt8)::(5:UInt8)::(5:UInt8)::(5:UInt8)::(5:UInt8)::(5:UInt8)::(5:UInt8)::(5:UInt8)::(5:UInt8)::(5:UInt8)::(6:UInt8)::(6:UInt8)::(6:UInt8)::(6:UInt8)::(6:UInt8)::(6:UInt8)::(6:UInt8)::(6:UInt8)::(6:UInt8)::(6:UInt8)::(6:UInt8)::(6:UInt8)::(6:UInt8)::(6:UInt8)::(6:UInt8)::(6:UInt8)::(6:UInt8)::(6:UInt8)::(6:UInt8)::(6:UInt8)::(6:UInt8)::(6:UInt8)::(6:UInt8)::(6:UInt8)::(6:UInt8)::(6:UInt8)::(6:UInt8)::(6:UInt8)::(6:UInt8)::(6:UInt8)::(6:UInt8)::(6:UInt8)::[]) ((7:UInt8)::(7:UInt8)::(7:UInt8)::(7:UInt8)::(7:UInt8)::(7:UInt8)::(7:UInt8)::(7:UInt8)::(7:UInt8)::(7:UInt8)::(7:UInt8)::(7:UInt8)::(7:UInt8)::(7:UInt8)::(7:UInt8)::(7:UInt8)::(7:UInt8)::(7:UInt8)::(7:UInt8)::(7:UInt8)::(7:UInt8)::(7:UInt8)::(7:UInt8)::(7:UInt8)::(7:UInt8)::(7:UInt8)::(7:UInt8)::(7:UInt8)::(7:UInt8)::(7:UInt8)::(7:UInt8)::(7:UInt8)::(7:UInt8)::(7:UInt8)::(7:UInt8)::(7:UInt8)::(7:UInt8)::(7:UInt8)::(7:UInt8)::(7:UInt8)::(7:UInt8)::(7:UInt8)::(7:UInt8)::(7:UInt8)::(7:UInt8)::(7:UInt8)::(7:UInt8)::(7:UInt8)::(7:UInt8)::(7:UInt8)::(7:UInt8)::(7:UInt8)::(7:UInt8)::(7:UInt8)::(7:UInt8)::(7:UInt8)::(7:UInt8)::(7:UInt8)::(7:UInt8)::(7:UInt8)::(7:UInt8)::(7:UInt8)::(7:UInt8)::(7:UInt8)::[])) (List.append ((8:UInt8)::(8:UInt8)::(8:UInt8)::(8:UInt8)::(8:UInt8)::(8:UInt8)::(8:UInt8)::(8:UInt8)::(8:UInt8)::(8:UInt8)::(8:UInt8)::(8:UInt8)::(8:UInt8)::(8:UInt8)::(8:UInt8)::(8:UInt8)::(8:UInt8)::(8:UInt8)::(8:UInt8)::(8:UInt8)::(8:UInt8)::(8:UInt8)::(8:UInt8)::(8:UInt8)::(8:UInt8)::(8:UInt8)::(8:UInt8)::(8:UInt8)::(8:UInt8)::(8:UInt8)::(8:UInt8)::(8:UInt8)::(8:UInt8)::(8:UInt8)::(8:UInt8)::(8:UInt8)::(8:UInt8)::(8:UInt8)::(8:UInt8)::(8:UInt8)::(8:UInt8)::(8:UInt8)::(8:UInt8)::(8:UInt8)::(8:UInt8)::(8:UInt8)::(8:UInt8)::(8:UInt8)::(8:UInt8)::(8:UInt8)::(8:UInt8)::(8:UInt8)::(8:UInt8)::(8:UInt8)::(8:UInt8)::(8:UInt8)::(8:UInt8)::(8:UInt8)::(8:UInt8)::(8:UInt8)::(8:UInt8)::(8:UInt8)::(8:UInt8)::(8:UInt8)::[]) ((8:UInt8)::(8:UInt8)::(8:UInt8)::(8:UInt8)::(8:UInt8)::(8:UInt8)::(8:UInt8)::(8:UInt8)::(8:UInt8)::(8:UInt8)::(8:UInt8)::(8:UInt8)::(8:UInt8)::(8:UInt8)::(8:UInt8)::(8:UInt8)::(8:UInt8)::(8:UInt8)::(8:UInt8)::(8:UInt8)::(8:UInt8)::(8:UInt8)::(8:UInt8)::(8:UInt8)::(8:UInt8)::(8:UInt8)::(8:UInt8)::(8:UInt8)::(8:UInt8)::(8:UInt8)::(8:UInt8)::(8:UInt8)::(8:UInt8)::(8:UInt8)::(8:UInt8)::(8:UInt8)::(8:UInt8)::(8:UInt8)::(8:UInt8)::(8:UInt8)::(8:UInt8)::(8:UInt8)::(8:UInt8)::(8:UInt8)::(8:UInt8)::(8:UInt8)::(8:UInt8)::(8:UInt8)::(8:UInt8)::(8:UInt8)::(8:UInt8)::(8:UInt8)::(8:UInt8)::(8:UInt8)::(8:UInt8)::(8:UInt8)::(8:UInt8)::(8:UInt8)::(8:UInt8)::(8:UInt8)::(8:UInt8)::(8:UInt8)::(8:UInt8)::(8:UInt8)::[]))) (Int.toNat (IntKind.wrap IntKind.u8 x03)) (0:UInt8))):Nat):Int))))) none)))
def t_22 (N:Nat):Tab Int:=[([0,1],z1jb N),([0,1,1],z1i6 N),([0,1,1,1],z1hm N)]
theorem z1ap (N:Nat)(x:z1e [(0,.v (.int .u64))]):z91 (z1dc N) N (t_22 N) z1ms Tryd.f72 (mkS [(0,.v (.int .u64))] 0 x) (z5j (.v (.int .i64)) 1)=zco N x.1:=by kernel_rfl
def zcn (N:Nat):List A->Res:=z1a [(0,.v (.int .u64))] (fun x=>zco N x.1) (zb8 (.v (.int .i64)) 1)
theorem zji (N:Nat):Contract Tryd.prog glob 72 (zcn N) :=
 Contract.of (E:=z1dc N) (H:=t_22 N) (L:=z1ms) (N:=N) (body:=ziw) (K:=(z5j (.v (.int .i64)) 1)) (z1o6 N) Tryd.func72 (by kernel_rfl) (by decide) (fun _ hb=>(TabOk.cons (z1gb hb) (TabOk.cons (z1f6 hb) (TabOk.cons (z1em hb) TabOk.nil)))) (fun x y h=>by rw[z1ap];exact h) (z1t (s:=(.v (.int .i64))) (m:=1))
def z1bs:Code:=(Tryd.f71.body).getD .skip
def L_23:List (List Nat×List Nat):=[([0],[0]),([0,1],[2]),([1,1],[2])]
def E_23 (N:Nat):Env:=z24 tys glob [] [] [] [] false [] []
theorem z1o5 (N:Nat):EnvOk Tryd.prog (E_23 N):=zg mixed z12 (FnsOk.nil) (ItsOk.nil)
def z7t (N:Nat)(x0:Int):Option Int:=some (z21 IntKind.i64 (IntKind.wrap IntKind.i64 (x0*78913)) 18)
def t_23 (N:Nat):Tab Int:=[]
theorem z1ao (N:Nat)(x:z1e [(0,.v (.int .i64))]):z91 (E_23 N) N (t_23 N) L_23 Tryd.f71 (mkS [(0,.v (.int .i64))] 0 x) (z5j (.v (.int .i64)) 1)=z7t N x.1:=by kernel_rfl
def z5l (N:Nat):List A->Res:=z1a [(0,.v (.int .i64))] (fun x=>z7t N x.1) (zb8 (.v (.int .i64)) 1)
theorem zav (N:Nat):Contract Tryd.prog glob 71 (z5l N) :=
 Contract.of (E:=E_23 N) (H:=t_23 N) (L:=L_23) (N:=N) (body:=z1bs) (K:=(z5j (.v (.int .i64)) 1)) (z1o5 N) Tryd.func71 (by kernel_rfl) (by decide) (fun _ hb=>TabOk.nil) (fun x y h=>by rw[z1ao];exact h) (z1t (s:=(.v (.int .i64))) (m:=1))
def z1br:Code:=(Tryd.f73.body).getD .skip
def L_24:List (List Nat×List Nat):=[([0],[0]),([0,0,1],[3]),([1,0,1],[]),([0,0,1,0,1],[2]),([1,0,1,0,1],[2]),([0,1,1],[2]),([1,1,1],[2])]
def E_24 (N:Nat):Env:=z24 tys glob [] [] [] [] false [] []
theorem z1o4 (N:Nat):EnvOk Tryd.prog (E_24 N):=zg mixed z12 (FnsOk.nil) (ItsOk.nil)
def z7u (N:Nat)(b:Bool):Option Int:=cond b (some 1) (some 0)
def t_24 (N:Nat):Tab Int:=[]
theorem z1an (N:Nat)(x:z1e [(0,.v .bool)]):z91 (E_24 N) N (t_24 N) L_24 Tryd.f73 (mkS [(0,.v .bool)] 0 x) (z5j (.v (.int .i64)) 1)=z7u N x.1:=by kernel_rfl
def z5m (N:Nat):List A->Res:=z1a [(0,.v .bool)] (fun x=>z7u N x.1) (zb8 (.v (.int .i64)) 1)
theorem zaw (N:Nat):Contract Tryd.prog glob 73 (z5m N) :=
 Contract.of (E:=E_24 N) (H:=t_24 N) (L:=L_24) (N:=N) (body:=z1br) (K:=(z5j (.v (.int .i64)) 1)) (z1o4 N) Tryd.func73 (by kernel_rfl) (by decide) (fun _ hb=>TabOk.nil) (fun x y h=>by rw[z1an];exact h) (z1t (s:=(.v (.int .i64))) (m:=1))
def z1bq:Code:=(Tryd.f63.body).getD .skip
def L_25:List (List Nat×List Nat):=[([0],[0]),([0,1],[3,0]),([0,1,1],[2]),([1,1,1],[2])]
def E_25 (N:Nat):Env:=z24 tys glob [(73,z5m N),(71,z5l N),(72,zcn N)] [] [] [] false [] []
theorem z1o3 (N:Nat):EnvOk Tryd.prog (E_25 N):=zg mixed z12 (FnsOk.cons (zaw N) (FnsOk.cons (zav N) (FnsOk.cons (zji N) (FnsOk.nil)))) (ItsOk.nil)
def z4n (N:Nat)(d:Int):Option Int:=(zco N d).bind fun y=>none
def t_25 (N:Nat):Tab Int:=[]
theorem z1am (N:Nat)(x:z1e [(0,.v (.int .u64))]):z91 (E_25 N) N (t_25 N) L_25 Tryd.f63 (mkS [(0,.v (.int .u64))] 0 x) (z5j (.v (.int .i64)) 1)=z4n N x.1:=by kernel_rfl
def z5k (N:Nat):List A->Res:=z1a [(0,.v (.int .u64))] (fun x=>z4n N x.1) (zb8 (.v (.int .i64)) 1)
theorem zau (N:Nat):Contract Tryd.prog glob 63 (z5k N) :=
 Contract.of (E:=E_25 N) (H:=t_25 N) (L:=L_25) (N:=N) (body:=z1bq) (K:=(z5j (.v (.int .i64)) 1)) (z1o3 N) Tryd.func63 (by kernel_rfl) (by decide) (fun _ hb=>TabOk.nil) (fun x y h=>by rw[z1am];exact h) (z1t (s:=(.v (.int .i64))) (m:=1))
def ziv:Code:=(Tryd.f55.body).getD .skip
def z1mr:List (List Nat×List Nat):=[([0],[1,0]),([0,0,1],[11,0,1]),([1,0,1],[0,1]),([0,0,0,1,0,1],[17,0]),([1,0,0,1,0,1],[0]),([0,0,1,0,0,1,0,1],[4]),(z1d4,[4]),([0,1,0,1,0,1],[0,5]),([0,1,1,0,1,0,1],[0,6,5]),([0,0,1,1,1,0,1,0,1],[23,6,5,0]),([1,0,1,1,1,0,1,0,1],[6,5,0]),([0,1,0,1,1,1,0,1,0,1],[6,5,0]),([0,1,1,1,1,0,1,0,1],[7,5,6,0]),([0,1,1,1,1,1,0,1,0,1],[0,5,7]),([0,0,1,1,1,1,1,1,0,1,0,1],[34,5,7]),([1,0,1,1,1,1,1,1,0,1,0,1],[7,5]),([0,0,1,0,1,1,1,1,1,1,0,1,0,1],[7,5]),([0,1,0,1,0,1,1,1,1,1,1,0,1,0,1],[4]),([1,1,0,1,0,1,1,1,1,1,1,0,1,0,1],[4]),([0,1,1,1,1,1,1,1,0,1,0,1],[4]),([1,1,1,1,1,1,1,1,0,1,0,1],[4]),([0,1,1],[9]),([0,1,1,1],[4]),([1,1,1,1],[4])]
def z1db (N:Nat):Env:=z24 tys glob [(63,z5k N),(62,z7s N)] [(8,(.int .u8))] [] [] false [] []
theorem z1o2 (N:Nat):EnvOk Tryd.prog (z1db N):=zg mixed z12 (FnsOk.cons (zau N) (FnsOk.cons (zdl N) (FnsOk.nil))) (ItsOk.nil)
def z6e (N:Nat)(i:Int)(k0:Bool->Option (List UInt8)):Option (List UInt8):=cond (decide (0<=i)) (k0 (decide (i<100))) (k0 false)
def z1kj (N:Nat)(x:z1e [(0,.v (.int .i64))])(K:Ex->List A->Option (List UInt8)):Option (List UInt8):=z6e N x.1 (fun a1=>(K .normal (mkS [(0,.v (.int .i64)),(16,.v .bool)] 36 (x.1,a1,()))))
def z1i5 (N:Nat):Hd (List UInt8):=fun st K=>(unS [(0,.v (.int .i64))] 53 (restr [0] 0 st)).bind fun x=>z1kj N x K
def t2_29 (N:Nat):Tab (List UInt8):=[]
theorem z1f5 {N:Nat}{c:Ctx}(hb:Base Tryd.prog (z1db N) c):zw Tryd.prog c (zd ziv [0,0,0,1,0,1]) (z1i5 N) :=
 zy (s:=[(0,.v (.int .i64))]) (m:=53) (g:=z1kj N) [0] (zf hb N (t2_29 N) z1mr ziv TabOk.nil [0,0,0,1,0,1] _ rfl) (fun x K=>by kernel_rfl)
def z6f (N:Nat)(i:Int)(k0:(List UInt8)->Option (List UInt8))(k1:Option (List UInt8)):Option (List UInt8):=z6e N i (fun x17=>cond x17 ((z6q N i).bind fun y=>k0 y) k1)
def z1lo (N:Nat)(x:z1e [(0,.v (.int .i64))])(K:Ex->List A->Option (List UInt8)):Option (List UInt8):=z6f N x.1 (fun a0=>(K .ret (mkS [(4,.v .str)] 49 (a0,())))) (K .normal (mkS [(0,.v (.int .i64))] 53 (x.1,())))
def z1ja (N:Nat):Hd (List UInt8):=fun st K=>(unS [(0,.v (.int .i64))] 53 (restr [0] 0 st)).bind fun x=>z1lo N x K
def t1_29 (N:Nat):Tab (List UInt8):=[([0,0,0,1,0,1],z1i5 N)]
theorem z1ga {N:Nat}{c:Ctx}(hb:Base Tryd.prog (z1db N) c):zw Tryd.prog c (zd ziv [0,0,1,0,1]) (z1ja N) :=
 zy (s:=[(0,.v (.int .i64))]) (m:=53) (g:=z1lo N) [0] (zf hb N (t1_29 N) z1mr ziv (TabOk.cons (z1f5 hb) TabOk.nil) [0,0,1,0,1] _ rfl) (fun x K=>by kernel_rfl)
def z6d (N:Nat)(i:Int)(a:(List Int))(u:Int)(k0:Int->Option (List UInt8)):Option (List UInt8):=cond (decide (i<0)) (k0 (IntKind.wrap IntKind.u64 (0 - u))) (k0 u)
def z1jz (N:Nat)(x:z1e SQ43)(K:Ex->List A->Option (List UInt8)):Option (List UInt8):=z6d N x.1 x.2.1 x.2.2.1 (fun a2=>(K .normal (mkS SQ43 47 (x.1,x.2.1,a2,()))))
def z1hl (N:Nat):Hd (List UInt8):=fun st K=>(unS SQ43 47 (restr [0,6,5] 0 st)).bind fun x=>z1jz N x K
def t3_29 (N:Nat):Tab (List UInt8):=[]
theorem z1el {N:Nat}{c:Ctx}(hb:Base Tryd.prog (z1db N) c):zw Tryd.prog c (zd ziv [0,1,1,1,0,1,0,1]) (z1hl N) :=
 zy (s:=SQ43) (m:=47) (g:=z1jz N) [0,6,5] (zf hb N (t3_29 N) z1mr ziv TabOk.nil [0,1,1,1,0,1,0,1] _ rfl) (fun x K=>by kernel_rfl)
def z4o (N:Nat)(i:Int)(base:Int):Option (List UInt8):=cond (base == 10) (z6f N i (fun x4=>some x4) (z6d N i ([0,0,0,0,0,0,0,0,0,0,0,0,0,0,0,0,0,0,0,0,0,0,0,0]:List Int) (IntKind.wrap IntKind.u64 i) (fun u=>(z4n N u).bind fun y=>none))) none
def t_29 (N:Nat):Tab (List UInt8):=[([0,0,1,0,1],z1ja N),([0,1,1,1,0,1,0,1],z1hl N)]
theorem z1al (N:Nat)(x:z1e zu1):z91 (z1db N) N (t_29 N) z1mr Tryd.f55 (mkS zu1 0 x) (z5j (.v .str) 2)=z4o N x.1 x.2.1:=by kernel_rfl
def z5n (N:Nat):List A->Res:=z1a zu1 (fun x=>z4o N x.1 x.2.1) (zb8 (.v .str) 2)
theorem zax (N:Nat):Contract Tryd.prog glob 55 (z5n N) :=
 Contract.of (E:=z1db N) (H:=t_29 N) (L:=z1mr) (N:=N) (body:=ziv) (K:=(z5j (.v .str) 2)) (z1o2 N) Tryd.func55 (by kernel_rfl) (by decide) (fun _ hb=>(TabOk.cons (z1ga hb) (TabOk.cons (z1el hb) TabOk.nil))) (fun x y h=>by rw[z1al];exact h) (z1t (s:=(.v .str)) (m:=2))
def z1bp:Code:=(Tryd.f49.body).getD .skip
def L_30:List (List Nat×List Nat):=[([0],[0]),([0,1],[2]),([1,1],[2])]
def E_30 (N:Nat):Env:=z24 tys glob [(55,z5n N)] [] [] [] false [] []
theorem z1o1 (N:Nat):EnvOk Tryd.prog (E_30 N):=zg mixed z12 (FnsOk.cons (zax N) (FnsOk.nil)) (ItsOk.nil)
def z7b (N:Nat)(i:Int):Option (List UInt8):=(z4o N i 10).bind fun y=>some y
def t_30 (N:Nat):Tab (List UInt8):=[]
theorem z1ak (N:Nat)(x:z1e [(0,.v (.int .i64))]):z91 (E_30 N) N (t_30 N) L_30 Tryd.f49 (mkS [(0,.v (.int .i64))] 0 x) (z5j (.v .str) 1)=z7b N x.1:=by kernel_rfl
def z8l (N:Nat):List A->Res:=z1a [(0,.v (.int .i64))] (fun x=>z7b N x.1) (zb8 (.v .str) 1)
theorem ze9 (N:Nat):Contract Tryd.prog glob 49 (z8l N) :=
 Contract.of (E:=E_30 N) (H:=t_30 N) (L:=L_30) (N:=N) (body:=z1bp) (K:=(z5j (.v .str) 1)) (z1o1 N) Tryd.func49 (by kernel_rfl) (by decide) (fun _ hb=>TabOk.nil) (fun x y h=>by rw[z1ak];exact h) (z1t (s:=(.v .str)) (m:=1))
def z1bo:Code:=(Tryd.f40.body).getD .skip
def L_31:List (List Nat×List Nat):=[([0],[0]),([0,1],[2]),([1,1],[2])]
def E_31 (N:Nat):Env:=z24 tys glob [(49,z8l N)] [] [] [] false [] []
theorem z1o0 (N:Nat):EnvOk Tryd.prog (E_31 N):=zg mixed z12 (FnsOk.cons (ze9 N) (FnsOk.nil)) (ItsOk.nil)
def zd1 (N:Nat)(i:Int):Option (List UInt8):=(z7b N i).bind fun y=>some y
def t_31 (N:Nat):Tab (List UInt8):=[]
theorem z1aj (N:Nat)(x:z1e [(0,.v (.int .i64))]):z91 (E_31 N) N (t_31 N) L_31 Tryd.f40 (mkS [(0,.v (.int .i64))] 0 x) (z5j (.v .str) 1)=zd1 N x.1:=by kernel_rfl
def zfe (N:Nat):List A->Res:=z1a [(0,.v (.int .i64))] (fun x=>zd1 N x.1) (zb8 (.v .str) 1)
theorem zmf (N:Nat):Contract Tryd.prog glob 40 (zfe N) :=
 Contract.of (E:=E_31 N) (H:=t_31 N) (L:=L_31) (N:=N) (body:=z1bo) (K:=(z5j (.v .str) 1)) (z1o0 N) Tryd.func40 (by kernel_rfl) (by decide) (fun _ hb=>TabOk.nil) (fun x y h=>by rw[z1aj];exact h) (z1t (s:=(.v .str)) (m:=1))
def zo7:Code:=(Tryd.f27.body).getD .skip
def L_32:List (List Nat×List Nat):=[([0],[0,1]),([0,0,1],[9,8,0,1]),([0,1,0,1],[9,8,0,1]),([0,0,0,1,0,1],[10,8,9,0,1]),([0,1,0,0,1,0,1],[8,9,0,1]),(z1d4,[0,1]),(z1mm,[6,0,1,9,8]),(z1mn,[21,6,9,8,0,1]),([1,1,0,0,1,1,0,0,1,0,1],[9,8,0,1]),([0,0,1,1,0,0,1,1,0,0,1,0,1],[4]),([1,0,1,1,0,0,1,1,0,0,1,0,1],[4]),(z1ml,[9,8,0,1]),(z1mk,[9,8,0,1]),([1,0,1],[0,1]),([0,1,1],[1,0,7]),([0,0,1,1,1],[0,28,7,1]),(z1ce,[29,7,28,1]),(z1cd,[7,1]),([0,1,1,0,1,0,1,1,1],[34,7,1]),([1,1,1,0,1,0,1,1,1],[7,1]),([0,0,1,1,1,0,1,0,1,1,1],[4]),([1,0,1,1,1,0,1,0,1,1,1],[4]),([0,0,1,0,1,0,1,1,1],[4]),([1,0,1,0,1,0,1,1,1],[4]),([1,0,1,1,1],[7,1]),([0,1,1,1,1],[4]),([1,1,1,1,1],[4])]
def z1os (N:Nat):Env:=z24 tys glob [(40,zfe N)] [] [] [] false [] []
theorem z1nz (N:Nat):EnvOk Tryd.prog (z1os N):=zg mixed z12 (FnsOk.cons (zmf N) (FnsOk.nil)) (ItsOk.nil)
def zfh (N:Nat)(low:Int)(high:Int)(row:(Int×(Int×((List UInt8)×Unit))))(x8:(List (Int×(Int×((List UInt8)×Unit)))))(x9:Int)(k0:Bool->Option (List UInt8)):Option (List UInt8):=cond (row.1 == low) (k0 (row.2.1 == high)) (k0 false)
def z1ki (N:Nat)(x:z1e SQ41)(K:Ex->List A->Option (List UInt8)):Option (List UInt8):=zfh N x.1 x.2.1 x.2.2.1 x.2.2.2.1 x.2.2.2.2.1 (fun a5=>(K .normal (mkS [(0,.v (.int .i64)),(0,.v (.int .i64)),(4,.box TT9),(1,.v (.arr 3 TT9)),(0,.v (.int .i64)),(11,.v .bool)] 22 (x.1,x.2.1,x.2.2.1,x.2.2.2.1,x.2.2.2.2.1,a5,()))))
def z1i4 (N:Nat):Hd (List UInt8):=fun st K=>(unS SQ41 34 (restr [6,0,1,9,8] 0 st)).bind fun x=>z1ki N x K
def t2_32 (N:Nat):Tab (List UInt8):=[]
theorem z1f4 {N:Nat}{c:Ctx}(hb:Base Tryd.prog (z1os N) c):zw Tryd.prog c (zd zo7 z1mn) (z1i4 N) :=
 zy (s:=SQ41) (m:=34) (g:=z1ki N) [6,0,1,9,8] (zf hb N (t2_32 N) L_32 zo7 TabOk.nil z1mn _ rfl) (fun x K=>by kernel_rfl)
def zfg (N:Nat)(low:Int)(high:Int)(x8:(List (Int×(Int×((List UInt8)×Unit)))))(x9:Int)(rec:Int->Option (List UInt8))(k0:(List UInt8)->Option (List UInt8))(k1:Option (List UInt8)):Option (List UInt8):=cond (decide (x9<3)) (cond (inR x9 3) (zfh N low high (List.getD x8 (Int.toNat x9) (0,(0,([],())))) x8 x9 (fun x21=>cond x21 (k0 (List.getD x8 (Int.toNat x9) (0,(0,([],())))).2.2.1) (rec (IntKind.wrap IntKind.i64 (x9+1))))) none) k1
def zlq (N:Nat)(low:Int)(high:Int)(x8:(List (Int×(Int×((List UInt8)×Unit)))))(x9:Int)(k0:(List UInt8)->Option (List UInt8))(k1:Option (List UInt8)):Option (List UInt8):=iter (fun (v:Int) r=>zfg N low high x8 v (fun x9=>(r x9)) k0 k1) N x9
def z1ln (N:Nat)(i:(Int×Int×(List (Int×(Int×((List UInt8)×Unit))))))(v:Int)(r:Int->Option (List UInt8))(K:Ex->List A->Option (List UInt8)):Option (List UInt8):=zfg N i.1 i.2.1 i.2.2 v (fun x9=>(r x9)) (fun a0=>(K .ret (mkS [(4,.v .str)] 39 (a0,())))) (K (.exit 0) (mkS zu1 42 (i.1,i.2.1,())))
def z1j9 (N:Nat):Hd (List UInt8):=fun st K=>(unS [(0,.v (.int .i64)),(0,.v (.int .i64)),(6,.v (.arr 3 TT9)),(0,.v (.int .i64))] 34 (restr [9,8,0,1] 0 st)).bind fun x=>iter (fun v r=>z1ln N ((fun x=>(x.1,x.2.1,x.2.2.1)) x) v r K) N ((fun x=>x.2.2.2.1) x)
def t1_32 (N:Nat):Tab (List UInt8):=[(z1mn,z1i4 N)]
theorem z1g9 {N:Nat}{c:Ctx}(hb:Base Tryd.prog (z1os N) c):zw Tryd.prog c (zd zo7 [0,1,0,1]) (z1j9 N) :=
 z6p (s:=[(0,.v (.int .i64)),(0,.v (.int .i64)),(6,.v (.arr 3 TT9)),(0,.v (.int .i64))]) (m:=34) (z1ln N) [9,8,0,1] N (fun x=>(x.1,x.2.1,x.2.2.1)) (fun x=>x.2.2.2.1) (fun i v=>(i.1,i.2.1,i.2.2,v,())) (fun _=>rfl) (zf hb N (t1_32 N) L_32 zo7 (TabOk.cons (z1f4 hb) TabOk.nil) [0,0,1,0,1] _ rfl) (fun i v r K=>by kernel_rfl)
def z9f (N:Nat)(low:Int)(high:Int):Option (List UInt8):=zlq N low high glob0 0 (fun x4=>some x4) ((zd1 N low).bind fun y=>cond (decide ((1+(List.length y))<=9223372036854775807)) (cond (high == low) (cond (decide (((List.length (([(123:UInt8)]:List UInt8)++y))+1)<=9223372036854775807)) (some ((([(123:UInt8)]:List UInt8)++y)++([(125:UInt8)]:List UInt8))) none) (cond (high == (-1)) (cond (decide (((List.length (([(123:UInt8)]:List UInt8)++y))+2)<=9223372036854775807)) (some ((([(123:UInt8)]:List UInt8)++y)++([(44:UInt8),(125:UInt8)]:List UInt8))) none) (cond (decide (((List.length (([(123:UInt8)]:List UInt8)++y))+1)<=9223372036854775807)) ((zd1 N high).bind fun y1=>cond (decide (((List.length ((([(123:UInt8)]:List UInt8)++y)++([(44:UInt8)]:List UInt8)))+(List.length y1))<=9223372036854775807)) (cond (decide (((List.length (((([(123:UInt8)]:List UInt8)++y)++([(44:UInt8)]:List UInt8))++y1))+1)<=9223372036854775807)) (some ((((([(123:UInt8)]:List UInt8)++y)++([(44:UInt8)]:List UInt8))++y1)++([(125:UInt8)]:List UInt8))) none) none) none))) none)
def t_32 (N:Nat):Tab (List UInt8):=[([0,1,0,1],z1j9 N)]
theorem z1ai (N:Nat)(x:z1e zu1):z91 (z1os N) N (t_32 N) L_32 Tryd.f27 (mkS zu1 0 x) (z5j (.v .str) 2)=z9f N x.1 x.2.1:=by kernel_rfl
def zdv (N:Nat):List A->Res:=z1a zu1 (fun x=>z9f N x.1 x.2.1) (zb8 (.v .str) 2)
theorem zlr (N:Nat):Contract Tryd.prog glob 27 (zdv N) :=
 Contract.of (E:=z1os N) (H:=t_32 N) (L:=L_32) (N:=N) (body:=zo7) (K:=(z5j (.v .str) 2)) (z1nz N) Tryd.func27 (by kernel_rfl) (by decide) (fun _ hb=>(TabOk.cons (z1g9 hb) TabOk.nil)) (fun x y h=>by rw[z1ai];exact h) (z1t (s:=(.v .str)) (m:=2))
def z1bn:Code:=(Tryd.f18.body).getD .skip
def L_33:List (List Nat×List Nat):=[([0],[1]),([0,0,1],[4,1]),([0,0,1,0,1],[5,1,4]),([1,0,1,0,1],[]),([0,1,1,0,1,0,1],[10,1]),([1,1,1,0,1,0,1],[]),([0,0,1,1,1,0,1,0,1],[2]),([1,0,1,1,1,0,1,0,1],[2]),([0,0,1,0,1,0,1],[2]),([1,0,1,0,1,0,1],[2]),([1,0,1],[]),([0,1,1],[2]),([1,1,1],[2])]
def E_33 (N:Nat):Env:=z24 tys glob [(27,zdv N),(26,zg9 N)] [] [] [] false [] []
theorem z1ny (N:Nat):EnvOk Tryd.prog (E_33 N):=zg mixed z12 (FnsOk.cons (zlr N) (FnsOk.cons (zoj N) (FnsOk.nil))) (ItsOk.nil)
def z70 (N:Nat)(n:DT2):Option (List UInt8):=cond (n.1 == 1) ((zc6 N n.2.1).bind fun y=>some y) (cond (n.1 == 4) ((z9f N n.2.2.2.1 n.2.2.2.2.1).bind fun y1=>some y1) (some []))
def t_33 (N:Nat):Tab (List UInt8):=[]
theorem z1ah (N:Nat)(x:z1e [(0,.v TT1)]):z91 (E_33 N) N (t_33 N) L_33 Tryd.f18 (mkS [(0,.v TT1)] 0 x) (z5j (.v .str) 1)=z70 N x.1:=by kernel_rfl
def zmt (N:Nat):List A->Res:=z1a [(0,.v TT1)] (fun x=>z70 N x.1) (zb8 (.v .str) 1)
theorem zoi (N:Nat):Contract Tryd.prog glob 18 (zmt N) :=
 Contract.of (E:=E_33 N) (H:=t_33 N) (L:=L_33) (N:=N) (body:=z1bn) (K:=(z5j (.v .str) 1)) (z1ny N) Tryd.func18 (by kernel_rfl) (by decide) (fun _ hb=>TabOk.nil) (fun x y h=>by rw[z1ah];exact h) (z1t (s:=(.v .str)) (m:=1))
def zw5:Code:=(Tryd.f32.body).getD .skip
def L_34:List (List Nat×List Nat):=[([0],[2,1]),([0,0,1],[10,9,8,1]),([0,1,0,1],[10,9,8,1]),([0,0,0,1,0,1],[11,8,10,1,9]),([0,1,0,0,1,0,1],[8,10,1,9]),(z1d4,[]),(z1mm,[6,1,10,9,8]),(z1mn,[17,10,9,8,1]),([1,1,0,0,1,1,0,0,1,0,1],[10,9,8,1]),([0,0,1,1,0,0,1,1,0,0,1,0,1],[4]),([1,0,1,1,0,0,1,1,0,0,1,0,1],[4]),(z1ml,[10,9,8,1]),(z1mk,[10,9,8,1]),([1,0,1],[]),([0,1,1],[4]),([1,1,1],[4])]
def E_34 (N:Nat):Env:=z24 tys glob [] [] [] [] false [] []
theorem z1nx (N:Nat):EnvOk Tryd.prog (E_34 N):=zg mixed z12 (FnsOk.nil) (ItsOk.nil)
def zc7 (N:Nat)(kind:Int)(x8:(List Tree))(x9:Int)(x10:Int)(rec:Int->Option Bool)(k0:Bool->Option Bool)(k1:Option Bool):Option Bool:=cond (decide (x10<x9)) (cond (inR x10 (List.length x8)) (cond ((unN (List.getD x8 (Int.toNat x10) (Tree.mk 0 [] [] 0 0))).1 == kind) (k0 true) (rec (IntKind.wrap IntKind.i64 (x10+1)))) none) k1
def zgb (N:Nat)(kind:Int)(x8:(List Tree))(x9:Int)(x10:Int)(k0:Bool->Option Bool)(k1:Option Bool):Option Bool:=iter (fun (v:Int) r=>zc7 N kind x8 x9 v (fun x10=>(r x10)) k0 k1) N x10
def z1lm (N:Nat)(i:(Int×(List Tree)×Int))(v:Int)(r:Int->Option Bool)(K:Ex->List A->Option Bool):Option Bool:=zc7 N i.1 i.2.1 i.2.2 v (fun x10=>(r x10)) (fun a0=>(K .ret (mkS [(4,.v .bool)] 14 (a0,())))) (K (.exit 0) (mkS [] 19 ()))
def z1j8 (N:Nat):Hd Bool:=fun st K=>(unS [(1,.v (.int .i64)),(6,.v (.sl .nod)),(0,.v (.int .i64)),(0,.v (.int .i64))] 8 (restr [10,9,8,1] 0 st)).bind fun x=>iter (fun v r=>z1lm N ((fun x=>(x.1,x.2.1,x.2.2.1)) x) v r K) N ((fun x=>x.2.2.2.1) x)
def t1_34 (N:Nat):Tab Bool:=[]
theorem z1g8 {N:Nat}{c:Ctx}(hb:Base Tryd.prog (E_34 N) c):zw Tryd.prog c (zd zw5 [0,1,0,1]) (z1j8 N) :=
 z6p (s:=[(1,.v (.int .i64)),(6,.v (.sl .nod)),(0,.v (.int .i64)),(0,.v (.int .i64))]) (m:=8) (z1lm N) [10,9,8,1] N (fun x=>(x.1,x.2.1,x.2.2.1)) (fun x=>x.2.2.2.1) (fun i v=>(i.1,i.2.1,i.2.2,v,())) (fun _=>rfl) (zf hb N (t1_34 N) L_34 zw5 TabOk.nil [0,0,1,0,1] _ rfl) (fun i v r K=>by kernel_rfl)
def z94 (N:Nat)(n:DT2)(kind:Int):Option Bool:=zgb N kind n.2.2.1 (List.length n.2.2.1:Int) 0 (fun x4=>some x4) (some false)
def t_34 (N:Nat):Tab Bool:=[([0,1,0,1],z1j8 N)]
theorem z1ag (N:Nat)(x:z1e [(0,.v TT1),(0,.v (.int .i64))]):z91 (E_34 N) N (t_34 N) L_34 Tryd.f32 (mkS [(0,.v TT1),(0,.v (.int .i64))] 0 x) (z5j (.v .bool) 2)=z94 N x.1 x.2.1:=by kernel_rfl
def zfj (N:Nat):List A->Res:=z1a [(0,.v TT1),(0,.v (.int .i64))] (fun x=>z94 N x.1 x.2.1) (zb8 (.v .bool) 2)
theorem zmu (N:Nat):Contract Tryd.prog glob 32 (zfj N) :=
 Contract.of (E:=E_34 N) (H:=t_34 N) (L:=L_34) (N:=N) (body:=zw5) (K:=(z5j (.v .bool) 2)) (z1nx N) Tryd.func32 (by kernel_rfl) (by decide) (fun _ hb=>(TabOk.cons (z1g8 hb) TabOk.nil)) (fun x y h=>by rw[z1ag];exact h) (z1t (s:=(.v .bool)) (m:=2))
def zo6:Code:=(Tryd.f33.body).getD .skip
def L_35:List (List Nat×List Nat):=[([0],[0,1]),([0,0,1],[10,1,0]),([1,0,1],[1,0]),([0,0,1,0,1],[4]),([1,0,1,0,1],[4]),([0,1,1],[4]),([1,1,1],[4])]
def z1or (N:Nat):Env:=z24 tys glob [] [] [] [] false [] []
theorem z1nw (N:Nat):EnvOk Tryd.prog (z1or N):=zg mixed z12 (FnsOk.nil) (ItsOk.nil)
def zde (N:Nat)(low:Int)(high:Int)(k0:Bool->Option Bool):Option Bool:=cond (decide (low<0)) (k0 true) (k0 (decide (16<low)))
def z1kh (N:Nat)(x:z1e zu1)(K:Ex->List A->Option Bool):Option Bool:=zde N x.1 x.2.1 (fun a2=>(K .normal (mkS [(0,.v (.int .i64)),(0,.v (.int .i64)),(8,.v .bool)] 12 (x.1,x.2.1,a2,()))))
def z1i3 (N:Nat):Hd Bool:=fun st K=>(unS zu1 21 (restr [0,1] 0 st)).bind fun x=>z1kh N x K
def t2_35 (N:Nat):Tab Bool:=[]
theorem z1f3 {N:Nat}{c:Ctx}(hb:Base Tryd.prog (z1or N) c):zw Tryd.prog c (zd zo6 [0,0,1]) (z1i3 N) :=
 zy (s:=zu1) (m:=21) (g:=z1kh N) [0,1] (zf hb N (t2_35 N) L_35 zo6 TabOk.nil [0,0,1] _ rfl) (fun x K=>by kernel_rfl)
def zdf (N:Nat)(low:Int)(high:Int)(k0:Bool->Option Bool)(k1:Option Bool):Option Bool:=zde N low high (fun x10=>cond x10 (k0 false) k1)
def z1ll (N:Nat)(x:z1e zu1)(K:Ex->List A->Option Bool):Option Bool:=zdf N x.1 x.2.1 (fun a0=>(K .ret (mkS [(4,.v .bool)] 18 (a0,())))) (K .normal (mkS zu1 21 (x.1,x.2.1,())))
def z1j7 (N:Nat):Hd Bool:=fun st K=>(unS zu1 21 (restr [0,1] 0 st)).bind fun x=>z1ll N x K
def t1_35 (N:Nat):Tab Bool:=[([0,0,1],z1i3 N)]
theorem z1g7 {N:Nat}{c:Ctx}(hb:Base Tryd.prog (z1or N) c):zw Tryd.prog c (zd zo6 [0,1]) (z1j7 N) :=
 zy (s:=zu1) (m:=21) (g:=z1ll N) [0,1] (zf hb N (t1_35 N) L_35 zo6 (TabOk.cons (z1f3 hb) TabOk.nil) [0,1] _ rfl) (fun x K=>by kernel_rfl)
def zc8 (N:Nat)(low:Int)(high:Int):Option Bool:=zdf N low high (fun x4=>some x4) (cond (high == (-1)) (some true) (cond (decide ((if (1 > low) then 1 else low)<=high)) (some (decide (high<=16))) (some false)))
def t_35 (N:Nat):Tab Bool:=[([0,1],z1j7 N)]
theorem z1af (N:Nat)(x:z1e zu1):z91 (z1or N) N (t_35 N) L_35 Tryd.f33 (mkS zu1 0 x) (z5j (.v .bool) 2)=zc8 N x.1 x.2.1:=by kernel_rfl
def zgc (N:Nat):List A->Res:=z1a zu1 (fun x=>zc8 N x.1 x.2.1) (zb8 (.v .bool) 2)
theorem zol (N:Nat):Contract Tryd.prog glob 33 (zgc N) :=
 Contract.of (E:=z1or N) (H:=t_35 N) (L:=L_35) (N:=N) (body:=zo6) (K:=(z5j (.v .bool) 2)) (z1nw N) Tryd.func33 (by kernel_rfl) (by decide) (fun _ hb=>(TabOk.cons (z1g7 hb) TabOk.nil)) (fun x y h=>by rw[z1af];exact h) (z1t (s:=(.v .bool)) (m:=2))
def zw4:Code:=(Tryd.f24.body).getD .skip
def L_36:List (List Nat×List Nat):=[([0],[1]),([0,1],[1,4,3]),([0,0,1,1],[18,1,4,3]),([0,0,1,0,1,1],[19,1,4,18,3]),([1,0,1,0,1,1],[]),(z17u,[28,3,4,1,18]),([1,1,1,0,1,0,1,1],[]),([0,1,1,1,1,0,1,0,1,1],[45,3,4,1,18]),([1,1,1,1,1,0,1,0,1,1],[]),([0,1,1,1,1,1,1,0,1,0,1,1],[62,3,1]),([1,1,1,1,1,1,1,0,1,0,1,1],[]),([0,0,1,1,1,1,1,1,1,0,1,0,1,1],[2]),([1,0,1,1,1,1,1,1,1,0,1,0,1,1],[2]),([0,0,1,1,1,1,1,0,1,0,1,1],[2]),([1,0,1,1,1,1,1,0,1,0,1,1],[2]),([0,0,1,1,1,0,1,0,1,1],[2]),([1,0,1,1,1,0,1,0,1,1],[2]),([0,0,1,0,1,0,1,1],[2]),([1,0,1,0,1,0,1,1],[2]),([1,0,1,1],[]),([0,1,1,1],[2]),([1,1,1,1],[2])]
def E_36 (N:Nat):Env:=z24 tys glob [(33,zgc N),(32,zfj N)] [] [] [] false [] []
theorem z1nv (N:Nat):EnvOk Tryd.prog (E_36 N):=zg mixed z12 (FnsOk.cons (zol N) (FnsOk.cons (zmu N) (FnsOk.nil))) (ItsOk.nil)
def zc9 (N:Nat)(n:DT2)(k0:Bool->Bool->Option Bool):Option Bool:=cond (n.2.2.2.1 == 0) (k0 (eqD (T.arr 4 (T.int IntKind.u64)) n.2.1 ([0,0,0,0]:List Int)) (n.2.2.2.2.1 == 0)) (k0 (eqD (T.arr 4 (T.int IntKind.u64)) n.2.1 ([0,0,0,0]:List Int)) false)
def z1lk (N:Nat)(x:z1e [(1,.box TT1)])(K:Ex->List A->Option Bool):Option Bool:=zc9 N x.1 (fun a1 a2=>(K .normal (mkS [(1,.box TT1),(1,.v .bool),(0,.v .bool)] 73 (x.1,a1,a2,()))))
def z1j6 (N:Nat):Hd Bool:=fun st K=>(unS [(1,.box TT1)] 76 (restr [1] 0 st)).bind fun x=>z1lk N x K
def t1_36 (N:Nat):Tab Bool:=[]
theorem z1g6 {N:Nat}{c:Ctx}(hb:Base Tryd.prog (E_36 N) c):zw Tryd.prog c (zd zw4 [0,1]) (z1j6 N) :=
 zy (s:=[(1,.box TT1)]) (m:=76) (g:=z1lk N) [1] (zf hb N (t1_36 N) L_36 zw4 TabOk.nil [0,1] _ rfl) (fun x K=>by kernel_rfl)
def zae (N:Nat)(n:DT2):Option Bool:=zc9 N n (fun empty once=>cond (n.1 == 1) (cond ((List.length n.2.2.1:Int) == 0) (some once) (some false)) (cond (n.1 == 2) (cond empty (cond once (cond ((List.length n.2.2.1:Int) != 1) ((z94 N n 2).bind fun y=>some (!y)) (some false)) (some false)) (some false)) (cond (n.1 == 3) (cond empty (cond once (cond (decide (2<=(List.length n.2.2.1:Int))) ((z94 N n 3).bind fun y1=>some (!y1)) (some false)) (some false)) (some false)) (cond (n.1 == 4) (cond empty (cond ((List.length n.2.2.1:Int) == 1) ((zc8 N n.2.2.2.1 n.2.2.2.2.1).bind fun y2=>some y2) (some false)) (some false)) (some false)))))
def t_36 (N:Nat):Tab Bool:=[([0,1],z1j6 N)]
theorem z1ae (N:Nat)(x:z1e [(0,.v TT1)]):z91 (E_36 N) N (t_36 N) L_36 Tryd.f24 (mkS [(0,.v TT1)] 0 x) (z5j (.v .bool) 1)=zae N x.1:=by kernel_rfl
def zfk (N:Nat):List A->Res:=z1a [(0,.v TT1)] (fun x=>zae N x.1) (zb8 (.v .bool) 1)
theorem zmv (N:Nat):Contract Tryd.prog glob 24 (zfk N) :=
 Contract.of (E:=E_36 N) (H:=t_36 N) (L:=L_36) (N:=N) (body:=zw4) (K:=(z5j (.v .bool) 1)) (z1nv N) Tryd.func24 (by kernel_rfl) (by decide) (fun _ hb=>(TabOk.cons (z1g6 hb) TabOk.nil)) (fun x y h=>by rw[z1ae];exact h) (z1t (s:=(.v .bool)) (m:=1))
def zro:Code:=(Tryd.f12.body).getD .skip
def L_37:List (List Nat×List Nat):=[([0],[1]),([0,0,1],[7,1]),([1,0,1],[1]),([0,0,1,0,1],[2]),([1,0,1,0,1],[2]),([0,0,1,1],[11,10,9]),([0,1,0,1,1],[11,10,9]),([0,0,0,1,0,1,1],[12,9,11,10]),(z14b,[9,11,10]),([1,0,1,0,0,1,0,1,1],[]),(PQ78,[4,11,10,9]),([0,1,0,0,1,1,0,0,1,0,1,1],[17,11,10,9]),([1,1,0,0,1,1,0,0,1,0,1,1],[11,10,9]),([0,0,1,1,0,0,1,1,0,0,1,0,1,1],[2]),([1,0,1,1,0,0,1,1,0,0,1,0,1,1],[2]),([0,1,1,0,0,1,0,1,1],[11,10,9]),([1,1,1,0,0,1,0,1,1],[11,10,9]),([1,0,1,1],[]),([0,1,1,1],[2]),([1,1,1,1],[2])]
def E_37 (N:Nat)(self:DT2->Option Bool):Env:=z24 tys glob [(24,zfk N),(12,z1a [(0,.v TT1)] (fun x=>self x.1) (zb8 (.v .bool) 1))] [] [] [] false [] []
theorem z1nu (N:Nat)(self:DT2->Option Bool)(hself:Contract Tryd.prog glob 12 (z1a [(0,.v TT1)] (fun x=>self x.1) (zb8 (.v .bool) 1))):EnvOk Tryd.prog (E_37 N self):=zg mixed z12 (FnsOk.cons (zmv N) (FnsOk.cons (hself) (FnsOk.nil))) (ItsOk.nil)
def zdi (N:Nat)(self:DT2->Option Bool)(x9:(List Tree))(x10:Int)(x11:Int)(rec:Int->Option Bool)(k0:Bool->Option Bool)(k1:Option Bool):Option Bool:=cond (decide (x11<x10)) (cond (inR x11 (List.length x9)) ((self (unN (List.getD x9 (Int.toNat x11) (Tree.mk 0 [] [] 0 0)))).bind fun y=>cond (!y) (k0 false) (rec (IntKind.wrap IntKind.i64 (x11+1)))) none) k1
def zht (N:Nat)(self:DT2->Option Bool)(x9:(List Tree))(x10:Int)(x11:Int)(k0:Bool->Option Bool)(k1:Option Bool):Option Bool:=iter (fun (v:Int) r=>zdi N self x9 x10 v (fun x11=>(r x11)) k0 k1) N x11
def z1lj (N:Nat)(self:DT2->Option Bool)(i:((List Tree)×Int))(v:Int)(r:Int->Option Bool)(K:Ex->List A->Option Bool):Option Bool:=zdi N self i.1 i.2 v (fun x11=>(r x11)) (fun a0=>(K .ret (mkS [(2,.v .bool)] 16 (a0,())))) (K (.exit 0) (mkS [] 19 ()))
def z1j5 (N:Nat)(self:DT2->Option Bool):Hd Bool:=fun st K=>(unS [(9,.v (.sl .nod)),(0,.v (.int .i64)),(0,.v (.int .i64))] 7 (restr [11,10,9] 0 st)).bind fun x=>iter (fun v r=>z1lj N self ((fun x=>(x.1,x.2.1)) x) v r K) N ((fun x=>x.2.2.1) x)
def t1_37 (N:Nat)(self:DT2->Option Bool):Tab Bool:=[]
theorem z1g5 {N:Nat}{self:DT2->Option Bool}{c:Ctx}(hb:Base Tryd.prog (E_37 N self) c):zw Tryd.prog c (zd zro [0,1,0,1,1]) (z1j5 N self) :=
 z6p (s:=[(9,.v (.sl .nod)),(0,.v (.int .i64)),(0,.v (.int .i64))]) (m:=7) (z1lj N self) [11,10,9] N (fun x=>(x.1,x.2.1)) (fun x=>x.2.2.1) (fun i v=>(i.1,i.2,v,())) (fun _=>rfl) (zf hb N (t1_37 N self) L_37 zro TabOk.nil [0,0,1,0,1,1] _ rfl) (fun i v r K=>by kernel_rfl)
def zbk (N:Nat)(self:DT2->Option Bool)(n:DT2):Option Bool:=(zae N n).bind fun y=>cond (!y) (some false) (zht N self n.2.2.1 (List.length n.2.2.1:Int) 0 (fun x2=>some x2) (some true))
def t_37 (N:Nat)(self:DT2->Option Bool):Tab Bool:=[([0,1,0,1,1],z1j5 N self)]
theorem z1ad (N:Nat)(self:DT2->Option Bool)(x:z1e [(0,.v TT1)]):z91 (E_37 N self) N (t_37 N self) L_37 Tryd.f12 (mkS [(0,.v TT1)] 0 x) (z5j (.v .bool) 1)=zbk N self x.1:=by kernel_rfl
def z64:Nat->DT2->Option Bool
 | 0=>fun _=>none
 | N+1=>zbk (N+1) (z64 N)
def zmw (N:Nat):List A->Res:=z1a [(0,.v TT1)] (fun x=>z64 N x.1) (zb8 (.v .bool) 1)
theorem zhu:∀ N:Nat,Contract Tryd.prog glob 12 (zmw N)
 | 0=>Contract.zero Tryd.func12 (body:=zro) (by kernel_rfl) (by decide) (fun _=>rfl)
 | N+1=>Contract.of (E:=E_37 (N+1) (z64 N)) (H:=t_37 (N+1) (z64 N)) (L:=L_37) (N:=(N+1)) (body:=zro) (K:=(z5j (.v .bool) 1)) (z1nu (N+1) (z64 N) (zhu N)) Tryd.func12 (by kernel_rfl) (by decide) (fun _ hb=>(TabOk.cons (z1g5 hb) TabOk.nil)) (fun x y h=>by rw[z1ad];exact h) (z1t (s:=(.v .bool)) (m:=1))
def zw3:Code:=(Tryd.f68.body).getD .skip
def L_38:List (List Nat×List Nat):=[([0],[0]),([0,0,1],[12,0]),([1,0,1],[0]),([0,1,0,1],[0]),([0,1,1],[2,0]),([1,1,1],[2,0])]
def E_38 (N:Nat):Env:=z24 tys glob [] [] [] [0] false [] []
theorem z1nt (N:Nat):EnvOk Tryd.prog (E_38 N):=zg mixed z12 (FnsOk.nil) (ItsOk.nil)
def z80 (N:Nat)(p:DT3)(k0:Option (Int×(DT3×Unit))):Option (Int×(DT3×Unit)):=cond (p.2.1 == (List.length p.1:Int)) none k0
def z1li (N:Nat)(x:z1e SQ0)(K:Ex->List A->Option (Int×(DT3×Unit))):Option (Int×(DT3×Unit)):=z80 N x.1 (K .normal (mkS SQ0 27 (x.1,())))
def z1j4 (N:Nat):Hd (Int×(DT3×Unit)):=fun st K=>(unS SQ0 27 (restr [0] 0 st)).bind fun x=>z1li N x K
def t1_38 (N:Nat):Tab (Int×(DT3×Unit)):=[]
theorem z1g4 {N:Nat}{c:Ctx}(hb:Base Tryd.prog (E_38 N) c):zw Tryd.prog c (zd zw3 [0,1]) (z1j4 N) :=
 zy (s:=SQ0) (m:=27) (g:=z1li N) [0] (zf hb N (t1_38 N) L_38 zw3 TabOk.nil [0,1] _ rfl) (fun x K=>by kernel_rfl)
def z14 (N:Nat)(p:DT3):Option (Int×(DT3×Unit)):=z80 N p (cond (inR p.2.1 (List.length p.1)) (some ((UInt8.toNat (List.getD p.1 (Int.toNat p.2.1) (0:UInt8)):Int),(p,()))) none)
def t_38 (N:Nat):Tab (Int×(DT3×Unit)):=[([0,1],z1j4 N)]
theorem z1ac (N:Nat)(x:z1e SQ0):z91 (E_38 N) N (t_38 N) L_38 Tryd.f68 (mkS SQ0 0 x) (z6c (.v (.int .u8)) SQ0 0)=z14 N x.1:=by kernel_rfl
def z13 (N:Nat):List A->Res:=z1a SQ0 (fun x=>z14 N x.1) (z79 (.v (.int .u8)) SQ0 0)
theorem z1d (N:Nat):Contract Tryd.prog glob 68 (z13 N) :=
 Contract.of (E:=E_38 N) (H:=t_38 N) (L:=L_38) (N:=N) (body:=zw3) (K:=(z6c (.v (.int .u8)) SQ0 0)) (z1nt N) Tryd.func68 (by kernel_rfl) (by decide) (fun _ hb=>(TabOk.cons (z1g4 hb) TabOk.nil)) (fun x y h=>by rw[z1ac];exact h) (z4k (s:=(.v (.int .u8))) (os:=SQ0) (m:=0))
def zw2:Code:=(Tryd.f61.body).getD .skip
def L_39:List (List Nat×List Nat):=[([0,0],[7,0]),([1,0],[0]),([0,1,0],[0]),([1],[0])]
def E_39 (N:Nat):Env:=z24 tys glob [(68,z13 N)] [] [] [0] false [] []
theorem z1ns (N:Nat):EnvOk Tryd.prog (E_39 N):=zg mixed z12 (FnsOk.cons (z1d N) (FnsOk.nil)) (ItsOk.nil)
def z81 (N:Nat)(p:DT3)(b:Int)(k0:DT3->Option ((Unit)×(DT3×Unit))):Option ((Unit)×(DT3×Unit)):=(z14 N p).bind fun y=>cond (y.1 != b) none (k0 y.2.1)
def z1lh (N:Nat)(x:z1e SQ8)(K:Ex->List A->Option ((Unit)×(DT3×Unit))):Option ((Unit)×(DT3×Unit)):=z81 N x.1 x.2.1 (fun a0=>(K .normal (mkS SQ0 20 (a0,()))))
def z1j3 (N:Nat):Hd ((Unit)×(DT3×Unit)):=fun st K=>(unS SQ8 19 (restr [0,1] 0 st)).bind fun x=>z1lh N x K
def t1_39 (N:Nat):Tab ((Unit)×(DT3×Unit)):=[]
theorem z1g3 {N:Nat}{c:Ctx}(hb:Base Tryd.prog (E_39 N) c):zw Tryd.prog c (zd zw2 [0]) (z1j3 N) :=
 zy (s:=SQ8) (m:=19) (g:=z1lh N) [0,1] (zf hb N (t1_39 N) L_39 zw2 TabOk.nil [0] _ rfl) (fun x K=>by kernel_rfl)
def zr (N:Nat)(p:DT3)(b:Int):Option ((Unit)×(DT3×Unit)):=z81 N p b (fun p1=>some ((),((p1.1,((IntKind.wrap IntKind.i64 (p1.2.1+1)),p1.2.2)),())))
def t_39 (N:Nat):Tab ((Unit)×(DT3×Unit)):=[([0],z1j3 N)]
theorem z1ab (N:Nat)(x:z1e SQ8):z91 (E_39 N) N (t_39 N) L_39 Tryd.f61 (mkS SQ8 0 x) (z6c (.tup []) SQ0 1)=zr N x.1 x.2.1:=by kernel_rfl
def z1j (N:Nat):List A->Res:=z1a SQ8 (fun x=>zr N x.1 x.2.1) (z79 (.tup []) SQ0 1)
theorem z1y (N:Nat):Contract Tryd.prog glob 61 (z1j N) :=
 Contract.of (E:=E_39 N) (H:=t_39 N) (L:=L_39) (N:=N) (body:=zw2) (K:=(z6c (.tup []) SQ0 1)) (z1ns N) Tryd.func61 (by kernel_rfl) (by decide) (fun _ hb=>(TabOk.cons (z1g3 hb) TabOk.nil)) (fun x y h=>by rw[z1ab];exact h) (z4k (s:=(.tup [])) (os:=SQ0) (m:=1))
abbrev z8:Type:=DT3->Option (DT2×(DT3×Unit))
def zw1:Code:=(Tryd.f56.body).getD .skip
def L_40:List (List Nat×List Nat):=[([0],[0,2]),([0,0,1],[8,0,2]),([1,0,1],[0,2]),([0,1,0,1],[0,2]),([0,1,1],[0,2]),([0,1,1,1],[0,2]),([0,1,1,1,1],[0,3,2]),([0,1,1,1,1,1],[0,3,2]),(z107,[3,2,0]),(z17w,[2,0]),(z17v,[2,0])]
def E_40 (N:Nat)(self:z8):Env:=z24 tys glob [(61,z1j N),(21,z1a SQ0 (fun x=>self x.1) (z79 (.v TT1) SQ0 0))] [] [] [0] false [] []
theorem z1nr (N:Nat)(self:z8)(hself:Contract Tryd.prog glob 21 (z1a SQ0 (fun x=>self x.1) (z79 (.v TT1) SQ0 0))):EnvOk Tryd.prog (E_40 N self):=zg mixed z12 (FnsOk.cons (z1y N) (FnsOk.cons (hself) (FnsOk.nil))) (ItsOk.nil)
def z74 (N:Nat)(self:z8)(p:DT3)(x2:DT2)(k0:Option (DT2×(DT3×Unit))):Option (DT2×(DT3×Unit)):=cond (p.2.2.1 == 16) none k0
def z1lg (N:Nat)(self:z8)(x:z1e z17p)(K:Ex->List A->Option (DT2×(DT3×Unit))):Option (DT2×(DT3×Unit)):=z74 N self x.1 x.2.1 (K .normal (mkS z17p 33 (x.1,x.2.1,())))
def z1j2 (N:Nat)(self:z8):Hd (DT2×(DT3×Unit)):=fun st K=>(unS z17p 33 (restr [0,2] 0 st)).bind fun x=>z1lg N self x K
def t1_40 (N:Nat)(self:z8):Tab (DT2×(DT3×Unit)):=[]
theorem z1g2 {N:Nat}{self:z8}{c:Ctx}(hb:Base Tryd.prog (E_40 N self) c):zw Tryd.prog c (zd zw1 [0,1]) (z1j2 N self) :=
 zy (s:=z17p) (m:=33) (g:=z1lg N self) [0,2] (zf hb N (t1_40 N self) L_40 zw1 TabOk.nil [0,1] _ rfl) (fun x K=>by kernel_rfl)
def z3v (N:Nat)(self:z8)(p:DT3):Option (DT2×(DT3×Unit)):=z74 N self p (0,(([0,0,0,0]:List Int),([],(0,(0,()))))) ((zr N (p.1,(p.2.1,((IntKind.wrap IntKind.i64 (p.2.2.1+1)),p.2.2.2))) 40).bind fun y=>(self y.2.1).bind fun y1=>(zr N y1.2.1 41).bind fun y2=>some (y1.1,((y2.2.1.1,(y2.2.1.2.1,((IntKind.wrap IntKind.i64 (y2.2.1.2.2.1 - 1)),y2.2.1.2.2.2))),())))
def t_40 (N:Nat)(self:z8):Tab (DT2×(DT3×Unit)):=[([0,1],z1j2 N self)]
theorem z1aa (N:Nat)(self:z8)(x:z1e SQ0):z91 (E_40 N self) N (t_40 N self) L_40 Tryd.f56 (mkS SQ0 0 x) (z6c (.v TT1) SQ0 0)=z3v N self x.1:=by kernel_rfl
def z6l (N:Nat)(self:z8):List A->Res:=z1a SQ0 (fun x=>z3v N self x.1) (z79 (.v TT1) SQ0 0)
theorem zag (N:Nat)(self:z8)(hself:Contract Tryd.prog glob 21 (z1a SQ0 (fun x=>self x.1) (z79 (.v TT1) SQ0 0))):Contract Tryd.prog glob 56 (z6l N self) :=
 Contract.of (E:=E_40 N self) (H:=t_40 N self) (L:=L_40) (N:=N) (body:=zw1) (K:=(z6c (.v TT1) SQ0 0)) (z1nr N self hself) Tryd.func56 (by kernel_rfl) (by decide) (fun _ hb=>(TabOk.cons (z1g2 hb) TabOk.nil)) (fun x y h=>by rw[z1aa];exact h) (z4k (s:=(.v TT1)) (os:=SQ0) (m:=0))
def z1bm:Code:=(Tryd.f57.body).getD .skip
def L_41:List (List Nat×List Nat):=[([0],[1,2]),([0,1],[2]),([1,1],[2])]
def E_41 (N:Nat):Env:=z24 tys glob [] [] [] [] false [] []
theorem z1nq (N:Nat):EnvOk Tryd.prog (E_41 N):=zg mixed z12 (FnsOk.nil) (ItsOk.nil)
def zsh (N:Nat)(s:(List Int)):Option DT2:=some (1,(s,([],(0,(0,())))))
def t_41 (N:Nat):Tab DT2:=[]
theorem z1a9 (N:Nat)(x:z1e zrv):z91 (E_41 N) N (t_41 N) L_41 Tryd.f57 (mkS zrv 0 x) (z5j (.v TT1) 1)=zsh N x.1:=by kernel_rfl
def zew (N:Nat):List A->Res:=z1a zrv (fun x=>zsh N x.1) (zb8 (.v TT1) 1)
theorem zl7 (N:Nat):Contract Tryd.prog glob 57 (zew N) :=
 Contract.of (E:=E_41 N) (H:=t_41 N) (L:=L_41) (N:=N) (body:=z1bm) (K:=(z5j (.v TT1) 1)) (z1nq N) Tryd.func57 (by kernel_rfl) (by decide) (fun _ hb=>TabOk.nil) (fun x y h=>by rw[z1a9];exact h) (z1t (s:=(.v TT1)) (m:=1))
def zo5:Code:=(Tryd.f29.body).getD .skip
def L_42:List (List Nat×List Nat):=[([0],[0,1]),([0,0,1],[27,0]),([1,0,1],[0]),([0,0,1,0,1],[4,0]),([1,0,1,0,1],[4,0]),([0,1,1],[0]),([0,1,1,1],[4,0]),([1,1,1,1],[4,0])]
def z1oq (N:Nat):Env:=z24 tys glob [] [] [] [0] false [] []
theorem z1np (N:Nat):EnvOk Tryd.prog (z1oq N):=zg mixed z12 (FnsOk.nil) (ItsOk.nil)
def z7v (N:Nat)(p:DT3)(b:Int)(k0:Bool->Option (Bool×(DT3×Unit))):Option (Bool×(DT3×Unit)):=cond (p.2.1 == (List.length p.1:Int)) (k0 true) (cond (inR p.2.1 (List.length p.1)) (k0 ((UInt8.toNat (List.getD p.1 (Int.toNat p.2.1) (0:UInt8)):Int) != b)) none)
def z1kg (N:Nat)(x:z1e SQ8)(K:Ex->List A->Option (Bool×(DT3×Unit))):Option (Bool×(DT3×Unit)):=z7v N x.1 x.2.1 (fun a1=>(K .normal (mkS [(0,.box (.pair .str TT0)),(26,.v .bool)] 7 (x.1,a1,()))))
def z1i2 (N:Nat):Hd (Bool×(DT3×Unit)):=fun st K=>(unS SQ8 33 (restr [0,1] 0 st)).bind fun x=>z1kg N x K
def t2_42 (N:Nat):Tab (Bool×(DT3×Unit)):=[]
theorem z1f2 {N:Nat}{c:Ctx}(hb:Base Tryd.prog (z1oq N) c):zw Tryd.prog c (zd zo5 [0,0,1]) (z1i2 N) :=
 zy (s:=SQ8) (m:=33) (g:=z1kg N) [0,1] (zf hb N (t2_42 N) L_42 zo5 TabOk.nil [0,0,1] _ rfl) (fun x K=>by kernel_rfl)
def z7w (N:Nat)(p:DT3)(b:Int)(k0:Bool->Option (Bool×(DT3×Unit)))(k1:Option (Bool×(DT3×Unit))):Option (Bool×(DT3×Unit)):=z7v N p b (fun x27=>cond x27 (k0 false) k1)
def z1lf (N:Nat)(x:z1e SQ8)(K:Ex->List A->Option (Bool×(DT3×Unit))):Option (Bool×(DT3×Unit)):=z7w N x.1 x.2.1 (fun a1=>(K .ret (mkS [(0,.box (.pair .str TT0)),(3,.v .bool)] 30 (x.1,a1,())))) (K .normal (mkS SQ0 34 (x.1,())))
def z1j1 (N:Nat):Hd (Bool×(DT3×Unit)):=fun st K=>(unS SQ8 33 (restr [0,1] 0 st)).bind fun x=>z1lf N x K
def t1_42 (N:Nat):Tab (Bool×(DT3×Unit)):=[([0,0,1],z1i2 N)]
theorem z1g1 {N:Nat}{c:Ctx}(hb:Base Tryd.prog (z1oq N) c):zw Tryd.prog c (zd zo5 [0,1]) (z1j1 N) :=
 zy (s:=SQ8) (m:=33) (g:=z1lf N) [0,1] (zf hb N (t1_42 N) L_42 zo5 (TabOk.cons (z1f2 hb) TabOk.nil) [0,1] _ rfl) (fun x K=>by kernel_rfl)
def zq (N:Nat)(p:DT3)(b:Int):Option (Bool×(DT3×Unit)):=z7w N p b (fun x4=>some (x4,(p,()))) (some (true,((p.1,((IntKind.wrap IntKind.i64 (p.2.1+1)),p.2.2)),())))
def t_42 (N:Nat):Tab (Bool×(DT3×Unit)):=[([0,1],z1j1 N)]
theorem z1a8 (N:Nat)(x:z1e SQ8):z91 (z1oq N) N (t_42 N) L_42 Tryd.f29 (mkS SQ8 0 x) (z6c (.v .bool) SQ0 1)=zq N x.1 x.2.1:=by kernel_rfl
def z1h (N:Nat):List A->Res:=z1a SQ8 (fun x=>zq N x.1 x.2.1) (z79 (.v .bool) SQ0 1)
theorem z1x (N:Nat):Contract Tryd.prog glob 29 (z1h N) :=
 Contract.of (E:=z1oq N) (H:=t_42 N) (L:=L_42) (N:=N) (body:=zo5) (K:=(z6c (.v .bool) SQ0 1)) (z1np N) Tryd.func29 (by kernel_rfl) (by decide) (fun _ hb=>(TabOk.cons (z1g1 hb) TabOk.nil)) (fun x y h=>by rw[z1a8];exact h) (z4k (s:=(.v .bool)) (os:=SQ0) (m:=1))
def z1bl:Code:=(Tryd.f70.body).getD .skip
def L_43:List (List Nat×List Nat):=[([0],[0]),([0,1],[2]),([1,1],[2])]
def E_43 (N:Nat):Env:=z24 tys glob [] [] [] [] false [] []
theorem z1no (N:Nat):EnvOk Tryd.prog (E_43 N):=zg mixed z12 (FnsOk.nil) (ItsOk.nil)
def z4w (N:Nat)(b:Int):Option Bool:=cond (decide (48<=b)) (some (decide (b<=57))) (some false)
def t_43 (N:Nat):Tab Bool:=[]
theorem z1a7 (N:Nat)(x:z1e [(0,.v (.int .u8))]):z91 (E_43 N) N (t_43 N) L_43 Tryd.f70 (mkS [(0,.v (.int .u8))] 0 x) (z5j (.v .bool) 1)=z4w N x.1:=by kernel_rfl
def z78 (N:Nat):List A->Res:=z1a [(0,.v (.int .u8))] (fun x=>z4w N x.1) (zb8 (.v .bool) 1)
theorem za8 (N:Nat):Contract Tryd.prog glob 70 (z78 N) :=
 Contract.of (E:=E_43 N) (H:=t_43 N) (L:=L_43) (N:=N) (body:=z1bl) (K:=(z5j (.v .bool) 1)) (z1no N) Tryd.func70 (by kernel_rfl) (by decide) (fun _ hb=>TabOk.nil) (fun x y h=>by rw[z1a7];exact h) (z1t (s:=(.v .bool)) (m:=1))
def zo4:Code:=(Tryd.f69.body).getD .skip
def L_44:List (List Nat×List Nat):=[([0],[0,1]),([0,1],[0,5,1]),([0,1,1],[5,0,1]),([0,0,1,1,1],[16,5,0,1]),([1,0,1,1,1],[5,0,1]),(z1ce,[4,0]),(z1cd,[4,0]),([0,0,1,1,1,1],[24,0,1,5]),([1,0,1,1,1,1],[5,0]),([0,1,0,1,1,1,1],[5,0]),([0,1,1,1,1,1],[4,0]),([1,1,1,1,1,1],[4,0])]
def z1op (N:Nat):Env:=z24 tys glob [(70,z78 N),(68,z13 N)] [] [] [0] false [] []
theorem z1nn (N:Nat):EnvOk Tryd.prog (z1op N):=zg mixed z12 (FnsOk.cons (za8 N) (FnsOk.cons (z1d N) (FnsOk.nil))) (ItsOk.nil)
def z8v (N:Nat)(p:DT3)(from_:Int)(b:Int)(k0:Bool->Option (Int×(DT3×Unit))):Option (Int×(DT3×Unit)):=cond (decide (b<97)) (k0 true) (k0 (decide (102<b)))
def z1kf (N:Nat)(x:z1e z106)(K:Ex->List A->Option (Int×(DT3×Unit))):Option (Int×(DT3×Unit)):=z8v N x.1 x.2.1 x.2.2.1 (fun a3=>(K .normal (mkS [(0,.box (.pair .str TT0)),(0,.v (.int .i64)),(3,.v (.int .u8)),(18,.v .bool)] 6 (x.1,x.2.1,x.2.2.1,a3,()))))
def z1i1 (N:Nat):Hd (Int×(DT3×Unit)):=fun st K=>(unS z106 25 (restr [5,0,1] 0 st)).bind fun x=>z1kf N x K
def t2_44 (N:Nat):Tab (Int×(DT3×Unit)):=[]
theorem z1f1 {N:Nat}{c:Ctx}(hb:Base Tryd.prog (z1op N) c):zw Tryd.prog c (zd zo4 [0,0,1,1,1,1]) (z1i1 N) :=
 zy (s:=z106) (m:=25) (g:=z1kf N) [5,0,1] (zf hb N (t2_44 N) L_44 zo4 TabOk.nil [0,0,1,1,1,1] _ rfl) (fun x K=>by kernel_rfl)
def z8w (N:Nat)(p:DT3)(from_:Int)(b:Int)(k0:Option (Int×(DT3×Unit))):Option (Int×(DT3×Unit)):=z8v N p from_ b (fun x24=>cond x24 none k0)
def z1le (N:Nat)(x:z1e z106)(K:Ex->List A->Option (Int×(DT3×Unit))):Option (Int×(DT3×Unit)):=z8w N x.1 x.2.1 x.2.2.1 (K .normal (mkS [(0,.box (.pair .str TT0)),(4,.v (.int .u8))] 25 (x.1,x.2.2.1,())))
def z1j0 (N:Nat):Hd (Int×(DT3×Unit)):=fun st K=>(unS z106 25 (restr [5,0,1] 0 st)).bind fun x=>z1le N x K
def t1_44 (N:Nat):Tab (Int×(DT3×Unit)):=[([0,0,1,1,1,1],z1i1 N)]
theorem z1g0 {N:Nat}{c:Ctx}(hb:Base Tryd.prog (z1op N) c):zw Tryd.prog c (zd zo4 [0,1,1,1,1]) (z1j0 N) :=
 zy (s:=z106) (m:=25) (g:=z1le N) [5,0,1] (zf hb N (t1_44 N) L_44 zo4 (TabOk.cons (z1f1 hb) TabOk.nil) [0,1,1,1,1] _ rfl) (fun x K=>by kernel_rfl)
def z3c (N:Nat)(p:DT3)(from_:Int):Option (Int×(DT3×Unit)):=(z14 N p).bind fun y=>(z4w N y.1).bind fun y1=>cond y1 (some ((IntKind.wrap IntKind.u8 (y.1 - 48)),((y.2.1.1,((IntKind.wrap IntKind.i64 (y.2.1.2.1+1)),y.2.1.2.2)),()))) (z8w N (y.2.1.1,((IntKind.wrap IntKind.i64 (y.2.1.2.1+1)),y.2.1.2.2)) from_ y.1 (some ((IntKind.wrap IntKind.u8 ((IntKind.wrap IntKind.u8 (y.1 - 97))+10)),((y.2.1.1,((IntKind.wrap IntKind.i64 (y.2.1.2.1+1)),y.2.1.2.2)),()))))
def t_44 (N:Nat):Tab (Int×(DT3×Unit)):=[([0,1,1,1,1],z1j0 N)]
theorem z1a6 (N:Nat)(x:z1e z1ct):z91 (z1op N) N (t_44 N) L_44 Tryd.f69 (mkS z1ct 0 x) (z6c (.v (.int .u8)) SQ0 1)=z3c N x.1 x.2.1:=by kernel_rfl
def z86 (N:Nat):List A->Res:=z1a z1ct (fun x=>z3c N x.1 x.2.1) (z79 (.v (.int .u8)) SQ0 1)
theorem zcc (N:Nat):Contract Tryd.prog glob 69 (z86 N) :=
 Contract.of (E:=z1op N) (H:=t_44 N) (L:=L_44) (N:=N) (body:=zo4) (K:=(z6c (.v (.int .u8)) SQ0 1)) (z1nn N) Tryd.func69 (by kernel_rfl) (by decide) (fun _ hb=>(TabOk.cons (z1g0 hb) TabOk.nil)) (fun x y h=>by rw[z1a6];exact h) (z4k (s:=(.v (.int .u8))) (os:=SQ0) (m:=1))
def zw0:Code:=(Tryd.f59.body).getD .skip
def L_45:List (List Nat×List Nat):=[([0],[0,2]),([0,1],[0,2,4]),([0,1,1],[0,2,4]),([0,1,1,1],[0,5,2,4]),([0,1,1,1,1],[5,2,0,4]),([0,0,0,1,1,1,1,1],[22,2,0,5,4]),([1,0,0,1,1,1,1,1],[5,2,0]),([0,1,1,0,0,1,1,1,1,1],[26,2,0,5,4]),([1,1,1,0,0,1,1,1,1,1],[5,2,0]),([0,1,1,1,1,0,0,1,1,1,1,1],[30,0,4,2,5]),([1,1,1,1,1,0,0,1,1,1,1,1],[5,2,0]),([0,1,1,1,1,1,1,0,0,1,1,1,1,1],[42,0,4,5,2]),([1,1,1,1,1,1,1,0,0,1,1,1,1,1],[5,2,0]),([0,1,1,1,1,1,1,1,0,0,1,1,1,1,1],[5,2,0]),([0,0,1,1,1,1,1,0,0,1,1,1,1,1],[6,0,4,2]),([1,0,1,1,1,1,1,0,0,1,1,1,1,1],[5,2,0]),([0,0,1,1,1,0,0,1,1,1,1,1],[2,3,0]),([1,0,1,1,1,0,0,1,1,1,1,1],[2,3,0]),([0,0,1,0,0,1,1,1,1,1],[2,3,0]),([1,0,1,0,0,1,1,1,1,1],[2,3,0]),([0,1,1,1,1,1],[5,2,0]),(z107,[2,3,0]),(z1d1,[2,3,0])]
def E_45 (N:Nat):Env:=z24 tys glob [(69,z86 N),(61,z1j N),(68,z13 N),(38,z7m N),(37,z2n N),(31,z2s N)] [] [] [0] false [] []
theorem z1nm (N:Nat):EnvOk Tryd.prog (E_45 N):=zg mixed z12 (FnsOk.cons (zcc N) (FnsOk.cons (z1y N) (FnsOk.cons (z1d N) (FnsOk.cons (zb0 N) (FnsOk.cons (z3o N) (FnsOk.cons (z3x N) (FnsOk.nil))))))) (ItsOk.nil)
def z6m (N:Nat)(p:DT3)(set_:(List Int))(from_:Int)(b:Int)(k0:(List Int)->Bool->Option DT6)(k1:DT3->Int->Option DT6):Option DT6:=cond (b == 100) ((z1w N 48 57).bind fun y=>k0 y true) (cond (b == 119) ((z3n N ((48:UInt8)::(49:UInt8)::(50:UInt8)::(51:UInt8)::(52:UInt8)::(53:UInt8)::(54:UInt8)::(55:UInt8)::(56:UInt8)::(57:UInt8)::(65:UInt8)::(66:UInt8)::(67:UInt8)::(68:UInt8)::(69:UInt8)::(70:UInt8)::(71:UInt8)::(72:UInt8)::(73:UInt8)::(74:UInt8)::(75:UInt8)::(76:UInt8)::(77:UInt8)::(78:UInt8)::(79:UInt8)::(80:UInt8)::(81:UInt8)::(82:UInt8)::(83:UInt8)::(84:UInt8)::(85:UInt8)::(86:UInt8)::(87:UInt8)::(88:UInt8)::(89:UInt8)::(90:UInt8)::(95:UInt8)::(97:UInt8)::(98:UInt8)::(99:UInt8)::(100:UInt8)::(101:UInt8)::(102:UInt8)::(103:UInt8)::(104:UInt8)::(105:UInt8)::(106:UInt8)::(107:UInt8)::(108:UInt8)::(109:UInt8)::(110:UInt8)::(111:UInt8)::(112:UInt8)::(113:UInt8)::(114:UInt8)::(115:UInt8)::(116:UInt8)::(117:UInt8)::(118:UInt8)::(119:UInt8)::(120:UInt8)::(121:UInt8)::(122:UInt8)::[])).bind fun y1=>k0 y1 true) (cond (b == 120) ((z3c N p from_).bind fun y2=>(z3c N y2.2.1 from_).bind fun y3=>k1 y3.2.1 (bitsOp Go.BinOp.or IntKind.u8 (shlI IntKind.u8 y2.1 4) y3.1)) (cond (decide ((Go.Lib.indexByte ([(92:UInt8),(46:UInt8),(91:UInt8),(93:UInt8),(40:UInt8),(41:UInt8),(123:UInt8),(125:UInt8),(124:UInt8),(42:UInt8),(43:UInt8),(63:UInt8),(45:UInt8),(94:UInt8)]:List UInt8) (Nat.toUInt8 (Int.toNat b)))<0)) none (k1 p b))))
def z1ld (N:Nat)(x:z1e z1cz)(K:Ex->List A->Option DT6):Option DT6:=z6m N x.1 x.2.1 x.2.2.1 x.2.2.2.1 (fun a1 a2=>(K .ret (mkS SQ42 48 (x.1,a1,a2,())))) (fun a0 a2=>(K .normal (mkS [(0,.box (.pair .str TT0)),(1,.box (.arr 4 (.int .u64))),(2,.v (.int .u8))] 46 (a0,x.2.1,a2,()))))
def z1iz (N:Nat):Hd DT6:=fun st K=>(unS z1cz 46 (restr [5,2,0,4] 0 st)).bind fun x=>z1ld N x K
def t1_45 (N:Nat):Tab DT6:=[]
theorem z1fz {N:Nat}{c:Ctx}(hb:Base Tryd.prog (E_45 N) c):zw Tryd.prog c (zd zw0 [0,1,1,1,1,1]) (z1iz N) :=
 zy (s:=z1cz) (m:=46) (g:=z1ld N) [5,2,0,4] (zf hb N (t1_45 N) L_45 zw0 TabOk.nil [0,1,1,1,1,1] _ rfl) (fun x K=>by kernel_rfl)
def z25 (N:Nat)(p:DT3):Option DT6:=(zr N p 92).bind fun y=>(z14 N y.2.1).bind fun y1=>z6m N (y1.2.1.1,((IntKind.wrap IntKind.i64 (y1.2.1.2.1+1)),y1.2.1.2.2)) ([0,0,0,0]:List Int) p.2.1 y1.1 (fun set_ class_=>some ((set_,(class_,())),((y1.2.1.1,((IntKind.wrap IntKind.i64 (y1.2.1.2.1+1)),y1.2.1.2.2)),()))) (fun p1 b=>(z1w N b b).bind fun y2=>some ((y2,(false,())),(p1,())))
def t_45 (N:Nat):Tab DT6:=[([0,1,1,1,1,1],z1iz N)]
theorem z1a5 (N:Nat)(x:z1e SQ0):z91 (E_45 N) N (t_45 N) L_45 Tryd.f59 (mkS SQ0 0 x) (z6c (.tup [(.arr 4 (.int .u64)),.bool]) SQ0 0)=z25 N x.1:=by kernel_rfl
def z33 (N:Nat):List A->Res:=z1a SQ0 (fun x=>z25 N x.1) (z79 (.tup [(.arr 4 (.int .u64)),.bool]) SQ0 0)
theorem z4g (N:Nat):Contract Tryd.prog glob 59 (z33 N) :=
 Contract.of (E:=E_45 N) (H:=t_45 N) (L:=L_45) (N:=N) (body:=zw0) (K:=(z6c (.tup [(.arr 4 (.int .u64)),.bool]) SQ0 0)) (z1nm N) Tryd.func59 (by kernel_rfl) (by decide) (fun _ hb=>(TabOk.cons (z1fz hb) TabOk.nil)) (fun x y h=>by rw[z1a5];exact h) (z4k (s:=(.tup [(.arr 4 (.int .u64)),.bool])) (os:=SQ0) (m:=0))
def zo3:Code:=(Tryd.f76.body).getD .skip
def L_46:List (List Nat×List Nat):=[([0],[0,2]),([0,1],[4,0,2]),([0,0,1,1],[7,0,2,4]),([0,0,1,0,1,1],[8,0,2,7,4]),([1,0,1,0,1,1],[0,4,2]),([0,0,1,1,0,1,0,1,1],[14,0,4,2,7]),([1,0,1,1,0,1,0,1,1],[14,0,4,2]),([0,1,1,0,1,1,0,1,0,1,1],[14,0,4,2,7]),([1,1,1,0,1,1,0,1,0,1,1],[14,0,4,2]),([0,1,1,1,1,0,1,1,0,1,0,1,1],[14,0,4,2,7]),([1,1,1,1,1,0,1,1,0,1,0,1,1],[14,0,4,2]),([1,1,1,1,1,1,0,1,1,0,1,0,1,1],[14,0,4,2]),([1,1,1,0,1,0,1,1],[0,4,2]),([0,1,1,1,0,1,0,1,1],[0,4,2]),([0,0,1,0,1,0,1,1],[2,3,0]),([1,0,1,0,1,0,1,1],[2,3,0]),([1,0,1,1],[0,4,2]),([0,1,1,1],[4,2,0]),([0,1,1,1,1],[2,3,0]),([1,1,1,1,1],[2,3,0])]
def z1oo (N:Nat):Env:=z24 tys glob [(59,z33 N),(68,z13 N),(37,z2n N)] [] [] [0] false [] []
theorem z1nl (N:Nat):EnvOk Tryd.prog (z1oo N):=zg mixed z12 (FnsOk.cons (z4g N) (FnsOk.cons (z1d N) (FnsOk.cons (z3o N) (FnsOk.nil)))) (ItsOk.nil)
def z7x (N:Nat)(p:DT3)(set_:(List Int))(b:Int)(x7:Int)(k0:Bool->Option DT6):Option DT6:=cond (x7 == 91) (k0 (x7 == 91)) (cond (x7 == 93) (k0 (x7 == 93)) (cond (x7 == 45) (k0 (x7 == 45)) (k0 (x7 == 94))))
def z1ke (N:Nat)(x:z1e z1cy)(K:Ex->List A->Option DT6):Option DT6:=z7x N x.1 x.2.1 x.2.2.1 x.2.2.2.1 (fun a3=>(K .normal (mkS SQ61 20 (x.1,x.2.1,x.2.2.1,a3,()))))
def z1i0 (N:Nat):Hd DT6:=fun st K=>(unS z1cy 27 (restr [7,0,4,2] 0 st)).bind fun x=>z1ke N x K
def t2_46 (N:Nat):Tab DT6:=[]
theorem z1f0 {N:Nat}{c:Ctx}(hb:Base Tryd.prog (z1oo N) c):zw Tryd.prog c (zd zo3 z17u) (z1i0 N) :=
 zy (s:=z1cy) (m:=27) (g:=z1ke N) [7,0,4,2] (zf hb N (t2_46 N) L_46 zo3 TabOk.nil z17u _ rfl) (fun x K=>by kernel_rfl)
def z7y (N:Nat)(p:DT3)(set_:(List Int))(b:Int)(k0:DT3->(List Int)->Bool->Option DT6)(k1:Option DT6):Option DT6:=cond (b == 92) ((z25 N p).bind fun y=>k0 y.2.1 y.1.1 y.1.2.1) (z7x N p set_ b b (fun x14=>cond x14 none k1))
def z1lc (N:Nat)(x:z1e z17s)(K:Ex->List A->Option DT6):Option DT6:=z7y N x.1 x.2.1 x.2.2.1 (fun a0 a1 a2=>(K .ret (mkS SQ42 31 (a0,a1,a2,())))) (K .normal (mkS z17s 30 (x.1,x.2.1,x.2.2.1,())))
def z1iy (N:Nat):Hd DT6:=fun st K=>(unS z17s 30 (restr [4,0,2] 0 st)).bind fun x=>z1lc N x K
def t1_46 (N:Nat):Tab DT6:=[(z17u,z1i0 N)]
theorem z1fy {N:Nat}{c:Ctx}(hb:Base Tryd.prog (z1oo N) c):zw Tryd.prog c (zd zo3 [0,1,1]) (z1iy N) :=
 zy (s:=z17s) (m:=30) (g:=z1lc N) [4,0,2] (zf hb N (t1_46 N) L_46 zo3 (TabOk.cons (z1f0 hb) TabOk.nil) [0,1,1] _ rfl) (fun x K=>by kernel_rfl)
def z2u (N:Nat)(p:DT3):Option DT6:=(z14 N p).bind fun y=>z7y N y.2.1 ([0,0,0,0]:List Int) y.1 (fun p1 set_ class_=>some ((set_,(class_,())),(p1,()))) ((z1w N y.1 y.1).bind fun y1=>some ((y1,(false,())),((y.2.1.1,((IntKind.wrap IntKind.i64 (y.2.1.2.1+1)),y.2.1.2.2)),())))
def t_46 (N:Nat):Tab DT6:=[([0,1,1],z1iy N)]
theorem z1a4 (N:Nat)(x:z1e SQ0):z91 (z1oo N) N (t_46 N) L_46 Tryd.f76 (mkS SQ0 0 x) (z6c (.tup [(.arr 4 (.int .u64)),.bool]) SQ0 0)=z2u N x.1:=by kernel_rfl
def z71 (N:Nat):List A->Res:=z1a SQ0 (fun x=>z2u N x.1) (z79 (.tup [(.arr 4 (.int .u64)),.bool]) SQ0 0)
theorem zb3 (N:Nat):Contract Tryd.prog glob 76 (z71 N) :=
 Contract.of (E:=z1oo N) (H:=t_46 N) (L:=L_46) (N:=N) (body:=zo3) (K:=(z6c (.tup [(.arr 4 (.int .u64)),.bool]) SQ0 0)) (z1nl N) Tryd.func76 (by kernel_rfl) (by decide) (fun _ hb=>(TabOk.cons (z1fy hb) TabOk.nil)) (fun x y h=>by rw[z1a4];exact h) (z4k (s:=(.tup [(.arr 4 (.int .u64)),.bool])) (os:=SQ0) (m:=0))
def zfc:Code:=(Tryd.f66.body).getD .skip
def z1d7:List (List Nat×List Nat):=[([0],[0,2]),([0,1],[4,0,3,2]),([0,0,1,1],[17,3,2,0]),([1,0,1,1],[0,3,2]),([0,0,1,0,1,1],[2,0]),([1,0,1,0,1,1],[2,0]),([0,1,1,1],[0,3,5,2]),([0,1,1,1,1],[4,6,3,0,5,2]),(zqd,[35,0,5,3,6,2]),(z17t,[3,6,2,0]),(z1d3,[3,6,2,0]),(z107,[2,0]),(z1d1,[2,0])]
def z1ci (N:Nat):Env:=z24 tys glob [(76,z71 N),(29,z1h N),(37,z2n N),(36,z5d N)] [] [] [0] false [] []
theorem z1nk (N:Nat):EnvOk Tryd.prog (z1ci N):=zg mixed z12 (FnsOk.cons (zb3 N) (FnsOk.cons (z1x N) (FnsOk.cons (z3o N) (FnsOk.cons (z8o N) (FnsOk.nil))))) (ItsOk.nil)
def z84 (N:Nat)(p:DT3)(x2:(List Int))(first:(List Int))(class_:Bool)(k0:DT3->Bool->Option DT7):Option DT7:=cond class_ (k0 p true) ((zq N p 45).bind fun y=>k0 y.2.1 (!y.1))
def z1kd (N:Nat)(x:z1e SQ5)(K:Ex->List A->Option DT7):Option DT7:=z84 N x.1 x.2.1 x.2.2.1 x.2.2.2.1 (fun a0 a3=>(K .normal (mkS SQ55 28 (a0,x.2.1,x.2.2.1,a3,()))))
def z1hz (N:Nat):Hd DT7:=fun st K=>(unS SQ5 41 (restr [4,0,3,2] 0 st)).bind fun x=>z1kd N x K
def t2_47 (N:Nat):Tab DT7:=[]
theorem z1ez {N:Nat}{c:Ctx}(hb:Base Tryd.prog (z1ci N) c):zw Tryd.prog c (zd zfc [0,0,1,1]) (z1hz N) :=
 zy (s:=SQ5) (m:=41) (g:=z1kd N) [4,0,3,2] (zf hb N (t2_47 N) z1d7 zfc TabOk.nil [0,0,1,1] _ rfl) (fun x K=>by kernel_rfl)
def z85 (N:Nat)(p:DT3)(x2:(List Int))(first:(List Int))(class_:Bool)(k0:DT3->Option DT7)(k1:DT3->Option DT7):Option DT7:=z84 N p x2 first class_ (fun p1 x17=>cond x17 (k0 p1) (k1 p1))
def z1lb (N:Nat)(x:z1e SQ5)(K:Ex->List A->Option DT7):Option DT7:=z85 N x.1 x.2.1 x.2.2.1 x.2.2.2.1 (fun a0=>(K .ret (mkS [(0,.box (.pair .str TT0)),(1,.box (.arr 4 (.int .u64)))] 43 (a0,x.2.2.1,())))) (fun a0=>(K .normal (mkS SQ63 42 (a0,x.2.1,x.2.2.1,()))))
def z1ix (N:Nat):Hd DT7:=fun st K=>(unS SQ5 41 (restr [4,0,3,2] 0 st)).bind fun x=>z1lb N x K
def t1_47 (N:Nat):Tab DT7:=[([0,0,1,1],z1hz N)]
theorem z1fx {N:Nat}{c:Ctx}(hb:Base Tryd.prog (z1ci N) c):zw Tryd.prog c (zd zfc [0,1,1]) (z1ix N) :=
 zy (s:=SQ5) (m:=41) (g:=z1lb N) [4,0,3,2] (zf hb N (t1_47 N) z1d7 zfc (TabOk.cons (z1ez hb) TabOk.nil) [0,1,1] _ rfl) (fun x K=>by kernel_rfl)
def z82 (N:Nat)(p:DT3)(x2:(List Int))(first:(List Int))(class_:Bool)(from_:Int)(last:(List Int))(k0:Bool->Option DT7):Option DT7:=cond class_ (k0 true) ((z1c N last).bind fun y=>(z1c N first).bind fun y1=>k0 (decide (y<y1)))
def z1jq (N:Nat)(x:z1e SQ2)(K:Ex->List A->Option DT7):Option DT7:=z82 N x.1 x.2.1 x.2.2.1 x.2.2.2.1 x.2.2.2.2.1 x.2.2.2.2.2.1 (fun a5=>(K .normal (mkS SQ39 10 (x.1,x.2.1,x.2.2.1,x.2.2.2.2.1,x.2.2.2.2.2.1,a5,()))))
def z1hc (N:Nat):Hd DT7:=fun st K=>(unS SQ2 39 (restr [4,6,3,0,5,2] 0 st)).bind fun x=>z1jq N x K
def t4_47 (N:Nat):Tab DT7:=[]
theorem z1ec {N:Nat}{c:Ctx}(hb:Base Tryd.prog (z1ci N) c):zw Tryd.prog c (zd zfc zqd) (z1hc N) :=
 zy (s:=SQ2) (m:=39) (g:=z1jq N) [4,6,3,0,5,2] (zf hb N (t4_47 N) z1d7 zfc TabOk.nil zqd _ rfl) (fun x K=>by kernel_rfl)
def z83 (N:Nat)(p:DT3)(x2:(List Int))(first:(List Int))(class_:Bool)(from_:Int)(last:(List Int))(k0:Option DT7):Option DT7:=z82 N p x2 first class_ from_ last (fun x35=>cond x35 none k0)
def z1jy (N:Nat)(x:z1e SQ2)(K:Ex->List A->Option DT7):Option DT7:=z83 N x.1 x.2.1 x.2.2.1 x.2.2.2.1 x.2.2.2.2.1 x.2.2.2.2.2.1 (K .normal (mkS SQ48 39 (x.1,x.2.1,x.2.2.1,x.2.2.2.2.2.1,())))
def z1hk (N:Nat):Hd DT7:=fun st K=>(unS SQ2 39 (restr [4,6,3,0,5,2] 0 st)).bind fun x=>z1jy N x K
def t3_47 (N:Nat):Tab DT7:=[(zqd,z1hc N)]
theorem z1ek {N:Nat}{c:Ctx}(hb:Base Tryd.prog (z1ci N) c):zw Tryd.prog c (zd zfc [0,1,1,1,1,1]) (z1hk N) :=
 zy (s:=SQ2) (m:=39) (g:=z1jy N) [4,6,3,0,5,2] (zf hb N (t3_47 N) z1d7 zfc (TabOk.cons (z1ec hb) TabOk.nil) [0,1,1,1,1,1] _ rfl) (fun x K=>by kernel_rfl)
def z2x (N:Nat)(p:DT3):Option DT7:=(z2u N p).bind fun y=>z85 N y.2.1 ([0,0,0,0]:List Int) y.1.1 y.1.2.1 (fun p1=>some (y.1.1,(p1,()))) (fun p2=>(z2u N p2).bind fun y1=>z83 N y1.2.1 ([0,0,0,0]:List Int) y.1.1 y1.1.2.1 p2.2.1 y1.1.1 ((z1c N y.1.1).bind fun y2=>(z1c N y1.1.1).bind fun y3=>(z1w N (IntKind.wrap IntKind.u8 y2) (IntKind.wrap IntKind.u8 y3)).bind fun y4=>some (y4,(y1.2.1,()))))
def t_47 (N:Nat):Tab DT7:=[([0,1,1],z1ix N),([0,1,1,1,1,1],z1hk N)]
theorem z1a3 (N:Nat)(x:z1e SQ0):z91 (z1ci N) N (t_47 N) z1d7 Tryd.f66 (mkS SQ0 0 x) (z6c (.v (.arr 4 (.int .u64))) SQ0 0)=z2x N x.1:=by kernel_rfl
def z73 (N:Nat):List A->Res:=z1a SQ0 (fun x=>z2x N x.1) (z79 (.v (.arr 4 (.int .u64))) SQ0 0)
theorem zb4 (N:Nat):Contract Tryd.prog glob 66 (z73 N) :=
 Contract.of (E:=z1ci N) (H:=t_47 N) (L:=z1d7) (N:=N) (body:=zfc) (K:=(z6c (.v (.arr 4 (.int .u64))) SQ0 0)) (z1nk N) Tryd.func66 (by kernel_rfl) (by decide) (fun _ hb=>(TabOk.cons (z1fx hb) (TabOk.cons (z1ek hb) TabOk.nil))) (fun x y h=>by rw[z1a3];exact h) (z4k (s:=(.v (.arr 4 (.int .u64)))) (os:=SQ0) (m:=0))
def zvz:Code:=(Tryd.f67.body).getD .skip
def L_48:List (List Nat×List Nat):=[([0],[2,3,4]),([0,0,1],[6,2,3,4]),([0,1,0,1],[6,2,3,4]),([0,0,0,1,0,1],[7,6,2,3,4]),([0,1,0,0,1,0,1],[6,2,3,4]),(z1d4,[2,4]),(z1mm,[5,2,3,6,4]),([1,0,0,1,1,0,0,1,0,1],[6,2,3,4]),(z1ml,[6,2,3,4]),(z1mk,[6,2,3,4]),([1,0,1],[2,4]),([0,1,1],[4]),([1,1,1],[4])]
def E_48 (N:Nat):Env:=z24 tys glob [] [] [] [] false [] []
theorem z1nj (N:Nat):EnvOk Tryd.prog (E_48 N):=zg mixed z12 (FnsOk.nil) (ItsOk.nil)
def zjs (N:Nat)(t:(List Int))(x4:(List Int))(s:(List Int))(x6:Int)(rec:(List Int)->Int->Option (List Int))(k0:(List Int)->Option (List Int)):Option (List Int):=cond (decide (x6<4)) (cond (inR x6 4) (cond (decide ((Int.toNat x6)<(List.length s))) (cond (inR x6 4) (cond (decide ((Int.toNat x6)<(List.length t))) (cond (inR x6 4) (cond (decide ((Int.toNat x6)<(List.length s))) (rec (List.set s (Int.toNat x6) (bitsOp Go.BinOp.or IntKind.u64 (List.getD s (Int.toNat x6) 0) (List.getD t (Int.toNat x6) 0))) (IntKind.wrap IntKind.i64 (x6+1))) none) none) none) none) none) none) (k0 s)
def zrj (N:Nat)(s:(List Int))(t:(List Int))(x4:(List Int))(x6:Int)(k0:(List Int)->Option (List Int)):Option (List Int):=iter (fun (v:((List Int)×Int)) r=>zjs N t x4 v.1 v.2 (fun s x6=>(r (s,x6))) k0) N (s,x6)
def z1la (N:Nat)(i:((List Int)×(List Int)))(v:((List Int)×Int))(r:((List Int)×Int)->Option (List Int))(K:Ex->List A->Option (List Int)):Option (List Int):=zjs N i.1 i.2 v.1 v.2 (fun s x6=>(r (s,x6))) (fun a0=>(K (.exit 0) (mkS [(2,.box (.arr 4 (.int .u64))),(1,.box (.arr 4 (.int .u64)))] 14 (a0,i.2,()))))
def z1iw (N:Nat):Hd (List Int):=fun st K=>(unS SQ24 12 (restr [6,2,3,4] 0 st)).bind fun x=>iter (fun v r=>z1la N ((fun x=>(x.2.1,x.2.2.1)) x) v r K) N ((fun x=>(x.1,x.2.2.2.1)) x)
def t1_48 (N:Nat):Tab (List Int):=[]
theorem z1fw {N:Nat}{c:Ctx}(hb:Base Tryd.prog (E_48 N) c):zw Tryd.prog c (zd zvz [0,1,0,1]) (z1iw N) :=
 z6p (s:=SQ24) (m:=12) (z1la N) [6,2,3,4] N (fun x=>(x.2.1,x.2.2.1)) (fun x=>(x.1,x.2.2.2.1)) (fun i v=>(v.1,i.1,i.2,v.2,())) (fun _=>rfl) (zf hb N (t1_48 N) L_48 zvz TabOk.nil [0,0,1,0,1] _ rfl) (fun i v r K=>by kernel_rfl)
def za5 (N:Nat)(s:(List Int))(t:(List Int)):Option (List Int):=zrj N s t ([0,0,0,0]:List Int) 0 (fun s1=>some s1)
def t_48 (N:Nat):Tab (List Int):=[([0,1,0,1],z1iw N)]
theorem z1a2 (N:Nat)(x:z1e z16h):z91 (E_48 N) N (t_48 N) L_48 Tryd.f67 (mkS z16h 0 x) (z5j (.v (.arr 4 (.int .u64))) 2)=za5 N x.1 x.2.1:=by kernel_rfl
def zdm (N:Nat):List A->Res:=z1a z16h (fun x=>za5 N x.1 x.2.1) (zb8 (.v (.arr 4 (.int .u64))) 2)
theorem zjt (N:Nat):Contract Tryd.prog glob 67 (zdm N) :=
 Contract.of (E:=E_48 N) (H:=t_48 N) (L:=L_48) (N:=N) (body:=zvz) (K:=(z5j (.v (.arr 4 (.int .u64))) 2)) (z1nj N) Tryd.func67 (by kernel_rfl) (by decide) (fun _ hb=>(TabOk.cons (z1fw hb) TabOk.nil)) (fun x y h=>by rw[z1a2];exact h) (z1t (s:=(.v (.arr 4 (.int .u64)))) (m:=2))
def zvy:Code:=(Tryd.f58.body).getD .skip
def L_49:List (List Nat×List Nat):=[([0],[0,2]),([0,1],[0,2]),([0,1,1],[0,3,2]),([0,1,1,1],[0,4,3,2]),([0,0,1,1,1,1],[0,4,3,2]),([0,0,0,0,0,1,1,1,1],[13,4,0,3,2]),([1,0,0,0,0,1,1,1,1],[4,0,3,2]),(PQ85,[3,4,2,0]),([0,1,0,0,0,1,1,1,1],[0,4,3,2]),([1,0,0,0,1,1,1,1],[0,4,3,2]),([0,1,1,1,1],[3,4,2,0]),(zqd,[18,4,2,0]),(z17t,[4,2,0]),([0,0,1,0,1,1,1,1,1],[2,0]),([1,0,1,0,1,1,1,1,1],[2,0]),(z107,[2,0]),(z1d1,[2,0])]
def E_49 (N:Nat):Env:=z24 tys glob [(67,zdm N),(66,z73 N),(29,z1h N),(61,z1j N),(54,z9s N)] [] [] [0] false [] []
theorem z1ni (N:Nat):EnvOk Tryd.prog (E_49 N):=zg mixed z12 (FnsOk.cons (zjt N) (FnsOk.cons (zb4 N) (FnsOk.cons (z1x N) (FnsOk.cons (z1y N) (FnsOk.cons (zdn N) (FnsOk.nil)))))) (ItsOk.nil)
def z3w (N:Nat)(x2:(List Int))(not_:Bool)(p:DT3)(set_:(List Int))(rec:DT3->(List Int)->Option DT7)(k0:DT3->(List Int)->Option DT7):Option DT7:=(zq N p 93).bind fun y=>cond (!y.1) ((z2x N y.2.1).bind fun y1=>(za5 N set_ y1.1).bind fun y2=>rec y1.2.1 y2) (k0 y.2.1 set_)
def z9a (N:Nat)(p:DT3)(x2:(List Int))(not_:Bool)(set_:(List Int))(k0:DT3->(List Int)->Option DT7):Option DT7:=iter (fun (v:(DT3×(List Int))) r=>z3w N x2 not_ v.1 v.2 (fun p set_=>(r (p,set_))) k0) N (p,set_)
def z1l9 (N:Nat)(i:((List Int)×Bool))(v:(DT3×(List Int)))(r:(DT3×(List Int))->Option DT7)(K:Ex->List A->Option DT7):Option DT7:=z3w N i.1 i.2 v.1 v.2 (fun p set_=>(r (p,set_))) (fun a0 a3=>(K (.exit 0) (mkS z1d0 17 (a0,i.1,i.2,a3,()))))
def z1iv (N:Nat):Hd DT7:=fun st K=>(unS z1d0 17 (restr [0,4,3,2] 0 st)).bind fun x=>iter (fun v r=>z1l9 N ((fun x=>(x.2.1,x.2.2.1)) x) v r K) N ((fun x=>(x.1,x.2.2.2.1)) x)
def t1_49 (N:Nat):Tab DT7:=[]
theorem z1fv {N:Nat}{c:Ctx}(hb:Base Tryd.prog (E_49 N) c):zw Tryd.prog c (zd zvy [0,0,1,1,1,1]) (z1iv N) :=
 z6p (s:=z1d0) (m:=17) (z1l9 N) [0,4,3,2] N (fun x=>(x.2.1,x.2.2.1)) (fun x=>(x.1,x.2.2.2.1)) (fun i v=>(v.1,i.1,i.2,v.2,())) (fun _=>rfl) (zf hb N (t1_49 N) L_49 zvy TabOk.nil [0,0,0,1,1,1,1] _ rfl) (fun i v r K=>by kernel_rfl)
def z2y (N:Nat)(p:DT3):Option DT7:=(zr N p 91).bind fun y=>(zq N y.2.1 94).bind fun y1=>(z2x N y1.2.1).bind fun y2=>z9a N y2.2.1 ([0,0,0,0]:List Int) y1.1 y2.1 (fun p1 set_=>cond y1.1 ((z7d N set_).bind fun y3=>some (y3,(p1,()))) (some (set_,(p1,()))))
def t_49 (N:Nat):Tab DT7:=[([0,0,1,1,1,1],z1iv N)]
theorem z1a1 (N:Nat)(x:z1e SQ0):z91 (E_49 N) N (t_49 N) L_49 Tryd.f58 (mkS SQ0 0 x) (z6c (.v (.arr 4 (.int .u64))) SQ0 0)=z2y N x.1:=by kernel_rfl
def z4v (N:Nat):List A->Res:=z1a SQ0 (fun x=>z2y N x.1) (z79 (.v (.arr 4 (.int .u64))) SQ0 0)
theorem z9b (N:Nat):Contract Tryd.prog glob 58 (z4v N) :=
 Contract.of (E:=E_49 N) (H:=t_49 N) (L:=L_49) (N:=N) (body:=zvy) (K:=(z6c (.v (.arr 4 (.int .u64))) SQ0 0)) (z1ni N) Tryd.func58 (by kernel_rfl) (by decide) (fun _ hb=>(TabOk.cons (z1fv hb) TabOk.nil)) (fun x y h=>by rw[z1a1];exact h) (z4k (s:=(.v (.arr 4 (.int .u64)))) (os:=SQ0) (m:=0))
def zvx:Code:=(Tryd.f50.body).getD .skip
def L_50:List (List Nat×List Nat):=[([0],[0,2]),([0,1],[3,0,2]),([0,1,1],[15,0,2,3]),([0,0,1,1,1],[36,0,2,15,3]),([1,0,1,1,1],[2,0]),([0,1,1,0,1,1,1],[40,0,2,15,3]),([1,1,1,0,1,1,1],[2,0]),([0,1,1,1,1,0,1,1,1],[51,0,2,15,3]),([1,1,1,1,1,0,1,1,1],[2,0]),([0,1,1,1,1,1,1,0,1,1,1],[56,0,2,3]),([1,1,1,1,1,1,1,0,1,1,1],[2,0]),([0,0,1,1,1,1,1,1,1,1,0,1,1,1],[18,0,3,2]),([1,0,1,1,1,1,1,1,1,1,0,1,1,1],[0,3,2]),([0,1,0,1,1,1,1,1,1,1,1,0,1,1,1],[0,3,2]),([0,1,1,1,1,1,1,1,1,1,0,1,1,1],[3,2,0]),([0,1,1,1,1,1,1,1,1,1,1,0,1,1,1],[2,0]),([1,1,1,1,1,1,1,1,1,1,1,0,1,1,1],[2,0]),([0,0,1,1,1,1,1,1,1,0,1,1,1],[4,2,0]),([0,1,0,1,1,1,1,1,1,1,0,1,1,1],[2,0]),([1,1,0,1,1,1,1,1,1,1,0,1,1,1],[2,0]),([0,0,1,1,1,1,1,0,1,1,1],[2,0]),([1,0,1,1,1,1,1,0,1,1,1],[2,0]),([0,0,1,1,1,0,1,1,1],[2,0]),([0,1,0,1,1,1,0,1,1,1],[2,0]),([1,1,0,1,1,1,0,1,1,1],[2,0]),(z1ce,[2,0]),(z1cd,[2,0]),([1,1,1],[2,0])]
def E_50 (N:Nat)(self:z8):Env:=z24 tys glob [(58,z4v N),(59,z33 N),(57,zew N),(56,z6l N self),(37,z2n N),(31,z2s N),(21,z1a SQ0 (fun x=>self x.1) (z79 (.v TT1) SQ0 0))] [] [] [0] false [] []
theorem z1nh (N:Nat)(self:z8)(hself:Contract Tryd.prog glob 21 (z1a SQ0 (fun x=>self x.1) (z79 (.v TT1) SQ0 0))):EnvOk Tryd.prog (E_50 N self):=zg mixed z12 (FnsOk.cons (z9b N) (FnsOk.cons (z4g N) (FnsOk.cons (zl7 N) (FnsOk.cons (zag N self hself) (FnsOk.cons (z3o N) (FnsOk.cons (z3x N) (FnsOk.cons (hself) (FnsOk.nil)))))))) (ItsOk.nil)
def z88 (N:Nat)(self:z8)(p:DT3)(x2:DT2)(b:Int)(k0:Option (DT2×(DT3×Unit))):Option (DT2×(DT3×Unit)):=cond (decide (0<=(Go.Lib.indexByte ([(92:UInt8),(46:UInt8),(91:UInt8),(93:UInt8),(40:UInt8),(41:UInt8),(123:UInt8),(125:UInt8),(124:UInt8),(42:UInt8),(43:UInt8),(63:UInt8)]:List UInt8) (Nat.toUInt8 (Int.toNat b))))) none k0
def z1l8 (N:Nat)(self:z8)(x:z1e z17r)(K:Ex->List A->Option (DT2×(DT3×Unit))):Option (DT2×(DT3×Unit)):=z88 N self x.1 x.2.1 x.2.2.1 (K .normal (mkS z17r 61 (x.1,x.2.1,x.2.2.1,())))
def z1iu (N:Nat)(self:z8):Hd (DT2×(DT3×Unit)):=fun st K=>(unS z17r 61 (restr [3,0,2] 0 st)).bind fun x=>z1l8 N self x K
def t1_50 (N:Nat)(self:z8):Tab (DT2×(DT3×Unit)):=[]
theorem z1fu {N:Nat}{self:z8}{c:Ctx}(hb:Base Tryd.prog (E_50 N self) c):zw Tryd.prog c (zd zvx z1d5) (z1iu N self) :=
 zy (s:=z17r) (m:=61) (g:=z1l8 N self) [3,0,2] (zf hb N (t1_50 N self) L_50 zvx TabOk.nil z1d5 _ rfl) (fun x K=>by kernel_rfl)
def z45 (N:Nat)(self:z8)(p:DT3):Option (DT2×(DT3×Unit)):=cond (inR p.2.1 (List.length p.1)) (cond ((UInt8.toNat (List.getD p.1 (Int.toNat p.2.1) (0:UInt8)):Int) == 40) ((z3v N self p).bind fun y=>some (y.1,(y.2.1,()))) (cond ((UInt8.toNat (List.getD p.1 (Int.toNat p.2.1) (0:UInt8)):Int) == 46) ((z1w N 0 255).bind fun y1=>some ((1,(y1,([],(0,(0,()))))),((p.1,((IntKind.wrap IntKind.i64 (p.2.1+1)),p.2.2)),()))) (cond ((UInt8.toNat (List.getD p.1 (Int.toNat p.2.1) (0:UInt8)):Int) == 91) ((z2y N p).bind fun y2=>some ((1,(y2.1,([],(0,(0,()))))),(y2.2.1,()))) (cond ((UInt8.toNat (List.getD p.1 (Int.toNat p.2.1) (0:UInt8)):Int) == 92) ((z25 N p).bind fun y3=>some ((1,(y3.1.1,([],(0,(0,()))))),(y3.2.1,()))) (z88 N self p (0,(([0,0,0,0]:List Int),([],(0,(0,()))))) (UInt8.toNat (List.getD p.1 (Int.toNat p.2.1) (0:UInt8)):Int) ((z1w N (UInt8.toNat (List.getD p.1 (Int.toNat p.2.1) (0:UInt8)):Int) (UInt8.toNat (List.getD p.1 (Int.toNat p.2.1) (0:UInt8)):Int)).bind fun y4=>some ((1,(y4,([],(0,(0,()))))),((p.1,((IntKind.wrap IntKind.i64 (p.2.1+1)),p.2.2)),())))))))) none
def t_50 (N:Nat)(self:z8):Tab (DT2×(DT3×Unit)):=[(z1d5,z1iu N self)]
theorem z1a0 (N:Nat)(self:z8)(x:z1e SQ0):z91 (E_50 N self) N (t_50 N self) L_50 Tryd.f50 (mkS SQ0 0 x) (z6c (.v TT1) SQ0 0)=z45 N self x.1:=by kernel_rfl
def z77 (N:Nat)(self:z8):List A->Res:=z1a SQ0 (fun x=>z45 N self x.1) (z79 (.v TT1) SQ0 0)
theorem zb5 (N:Nat)(self:z8)(hself:Contract Tryd.prog glob 21 (z1a SQ0 (fun x=>self x.1) (z79 (.v TT1) SQ0 0))):Contract Tryd.prog glob 50 (z77 N self) :=
 Contract.of (E:=E_50 N self) (H:=t_50 N self) (L:=L_50) (N:=N) (body:=zvx) (K:=(z6c (.v TT1) SQ0 0)) (z1nh N self hself) Tryd.func50 (by kernel_rfl) (by decide) (fun _ hb=>(TabOk.cons (z1fu hb) TabOk.nil)) (fun x y h=>by rw[z1a0];exact h) (z4k (s:=(.v TT1)) (os:=SQ0) (m:=0))
def za7:Code:=(Tryd.f60.body).getD .skip
def z17z:List (List Nat×List Nat):=[([0],[0]),([0,1],[0,3]),([0,0,1,1],[12,0,3]),([1,0,1,1],[0,3]),([0,1,0,1,1],[0,3]),([0,1,1,1],[0,4,3]),([0,0,1,1,1,1],[0,4,3]),([0,0,0,0,0,1,1,1,1],[37,4,0,3]),([1,0,0,0,0,1,1,1,1],[4,0,3]),(PQ85,[0,3,4]),([0,0,1,0,0,0,1,1,1,1],[0,4,3]),([1,0,1,0,0,0,1,1,1,1],[0,4,3]),([1,0,0,0,1,1,1,1],[0,4,3]),([0,1,1,1,1],[0,3,4]),(zqd,[75,0,3,4]),(z17t,[4,0,3]),(z1d3,[4,0,3]),(PQ66,[80,0,3,4]),([1,0,1,1,1,1,1,1],[4,0]),([0,1,0,1,1,1,1,1,1],[4,0]),(z17w,[2,0]),(z17v,[2,0])]
def z16l (N:Nat):Env:=z24 tys glob [(70,z78 N),(68,z13 N)] [] [] [0] false [] []
theorem z1ng (N:Nat):EnvOk Tryd.prog (z16l N):=zg mixed z12 (FnsOk.cons (za8 N) (FnsOk.cons (z1d N) (FnsOk.nil))) (ItsOk.nil)
def z8u (N:Nat)(p:DT3)(from_:Int)(k0:DT3->Option (Int×(DT3×Unit))):Option (Int×(DT3×Unit)):=(z14 N p).bind fun y=>(z4w N y.1).bind fun y1=>cond (!y1) none (k0 y.2.1)
def z1l7 (N:Nat)(x:z1e z17q)(K:Ex->List A->Option (Int×(DT3×Unit))):Option (Int×(DT3×Unit)):=z8u N x.1 x.2.1 (fun a0=>(K .normal (mkS z17q 81 (a0,x.2.1,()))))
def z1it (N:Nat):Hd (Int×(DT3×Unit)):=fun st K=>(unS z17q 81 (restr [0,3] 0 st)).bind fun x=>z1l7 N x K
def t1_51 (N:Nat):Tab (Int×(DT3×Unit)):=[]
theorem z1ft {N:Nat}{c:Ctx}(hb:Base Tryd.prog (z16l N) c):zw Tryd.prog c (zd za7 [0,1,1]) (z1it N) :=
 zy (s:=z17q) (m:=81) (g:=z1l7 N) [0,3] (zf hb N (t1_51 N) z17z za7 TabOk.nil [0,1,1] _ rfl) (fun x K=>by kernel_rfl)
def z5s (N:Nat)(p:DT3)(from_:Int)(n:Int)(k0:Option (Int×(DT3×Unit)))(k1:Option (Int×(DT3×Unit))):Option (Int×(DT3×Unit)):=cond (decide (p.2.1<(List.length p.1:Int))) (cond (inR p.2.1 (List.length p.1)) ((z4w N (UInt8.toNat (List.getD p.1 (Int.toNat p.2.1) (0:UInt8)):Int)).bind fun y=>cond y k0 k1) none) k1
def z1jp (N:Nat)(x:z1e SQ1)(K:Ex->List A->Option (Int×(DT3×Unit))):Option (Int×(DT3×Unit)):=z5s N x.1 x.2.1 x.2.2.1 (K .normal (mkS SQ1 80 (x.1,x.2.1,x.2.2.1,()))) (K (.exit 0) (mkS SQ1 80 (x.1,x.2.1,x.2.2.1,())))
def z1hb (N:Nat):Hd (Int×(DT3×Unit)):=fun st K=>(unS SQ1 80 (restr [0,4,3] 0 st)).bind fun x=>z1jp N x K
def t4_51 (N:Nat):Tab (Int×(DT3×Unit)):=[]
theorem z1eb {N:Nat}{c:Ctx}(hb:Base Tryd.prog (z16l N) c):zw Tryd.prog c (zd za7 z1d2) (z1hb N) :=
 zy (s:=SQ1) (m:=80) (g:=z1jp N) [0,4,3] (zf hb N (t4_51 N) z17z za7 TabOk.nil z1d2 _ rfl) (fun x K=>by kernel_rfl)
def z2q (N:Nat)(from_:Int)(p:DT3)(n:Int)(rec:DT3->Int->Option (Int×(DT3×Unit)))(k0:DT3->Int->Option (Int×(DT3×Unit))):Option (Int×(DT3×Unit)):=z5s N p from_ n (cond (inR p.2.1 (List.length p.1)) (rec (p.1,((IntKind.wrap IntKind.i64 (p.2.1+1)),p.2.2)) (if (17<(IntKind.wrap IntKind.i64 ((IntKind.wrap IntKind.i64 (10*n))+(IntKind.wrap IntKind.i64 (IntKind.wrap IntKind.u8 ((UInt8.toNat (List.getD p.1 (Int.toNat p.2.1) (0:UInt8)):Int) - 48)))))) then 17 else (IntKind.wrap IntKind.i64 ((IntKind.wrap IntKind.i64 (10*n))+(IntKind.wrap IntKind.i64 (IntKind.wrap IntKind.u8 ((UInt8.toNat (List.getD p.1 (Int.toNat p.2.1) (0:UInt8)):Int) - 48))))))) none) (k0 p n)
def zca (N:Nat)(p:DT3)(from_:Int)(n:Int)(k0:DT3->Int->Option (Int×(DT3×Unit))):Option (Int×(DT3×Unit)):=iter (fun (v:(DT3×Int)) r=>z2q N from_ v.1 v.2 (fun p n=>(r (p,n))) k0) N (p,n)
def z1jx (N:Nat)(i:Int)(v:(DT3×Int))(r:(DT3×Int)->Option (Int×(DT3×Unit)))(K:Ex->List A->Option (Int×(DT3×Unit))):Option (Int×(DT3×Unit)):=z2q N i v.1 v.2 (fun p n=>(r (p,n))) (fun a0 a2=>(K (.exit 0) (mkS SQ1 80 (a0,i,a2,()))))
def z1hj (N:Nat):Hd (Int×(DT3×Unit)):=fun st K=>(unS SQ1 80 (restr [0,4,3] 0 st)).bind fun x=>iter (fun v r=>z1jx N ((fun x=>x.2.1) x) v r K) N ((fun x=>(x.1,x.2.2.1)) x)
def t3_51 (N:Nat):Tab (Int×(DT3×Unit)):=[(z1d2,z1hb N)]
theorem z1ej {N:Nat}{c:Ctx}(hb:Base Tryd.prog (z16l N) c):zw Tryd.prog c (zd za7 [0,0,1,1,1,1]) (z1hj N) :=
 z6p (s:=SQ1) (m:=80) (z1jx N) [0,4,3] N (fun x=>x.2.1) (fun x=>(x.1,x.2.2.1)) (fun i v=>(v.1,i,v.2,())) (fun _=>rfl) (zf hb N (t3_51 N) z17z za7 (TabOk.cons (z1eb hb) TabOk.nil) [0,0,0,1,1,1,1] _ rfl) (fun i v r K=>by kernel_rfl)
def z8t (N:Nat)(p:DT3)(from_:Int)(n:Int)(k0:DT3->Int->Option (Int×(DT3×Unit))):Option (Int×(DT3×Unit)):=zca N p from_ n (fun p1 n1=>k0 p1 n1)
def z1kc (N:Nat)(x:z1e SQ1)(K:Ex->List A->Option (Int×(DT3×Unit))):Option (Int×(DT3×Unit)):=z8t N x.1 x.2.1 x.2.2.1 (fun a0 a2=>(K .normal (mkS SQ1 80 (a0,x.2.1,a2,()))))
def z1hy (N:Nat):Hd (Int×(DT3×Unit)):=fun st K=>(unS SQ1 80 (restr [0,4,3] 0 st)).bind fun x=>z1kc N x K
def t2_51 (N:Nat):Tab (Int×(DT3×Unit)):=[([0,0,1,1,1,1],z1hj N)]
theorem z1ey {N:Nat}{c:Ctx}(hb:Base Tryd.prog (z16l N) c):zw Tryd.prog c (zd za7 [0,1,1,1,1]) (z1hy N) :=
 zy (s:=SQ1) (m:=80) (g:=z1kc N) [0,4,3] (zf hb N (t2_51 N) z17z za7 (TabOk.cons (z1ej hb) TabOk.nil) [0,1,1,1,1] _ rfl) (fun x K=>by kernel_rfl)
def z8r (N:Nat)(p:DT3)(from_:Int)(n:Int)(k0:Bool->Option (Int×(DT3×Unit))):Option (Int×(DT3×Unit)):=cond (inR from_ (List.length p.1)) (cond ((UInt8.toNat (List.getD p.1 (Int.toNat from_) (0:UInt8)):Int) == 48) (k0 (decide ((IntKind.wrap IntKind.i64 (from_+1))<p.2.1))) (k0 false)) none
def z1jj (N:Nat)(x:z1e SQ1)(K:Ex->List A->Option (Int×(DT3×Unit))):Option (Int×(DT3×Unit)):=z8r N x.1 x.2.1 x.2.2.1 (fun a3=>(K .normal (mkS SQ64 9 (x.1,x.2.1,x.2.2.1,a3,()))))
def z1h5 (N:Nat):Hd (Int×(DT3×Unit)):=fun st K=>(unS SQ1 80 (restr [0,3,4] 0 st)).bind fun x=>z1jj N x K
def t6_51 (N:Nat):Tab (Int×(DT3×Unit)):=[]
theorem z1e5 {N:Nat}{c:Ctx}(hb:Base Tryd.prog (z16l N) c):zw Tryd.prog c (zd za7 zqd) (z1h5 N) :=
 zy (s:=SQ1) (m:=80) (g:=z1jj N) [0,3,4] (zf hb N (t6_51 N) z17z za7 TabOk.nil zqd _ rfl) (fun x K=>by kernel_rfl)
def z8s (N:Nat)(p:DT3)(from_:Int)(n:Int)(k0:Option (Int×(DT3×Unit))):Option (Int×(DT3×Unit)):=z8r N p from_ n (fun x75=>cond x75 none k0)
def z1jl (N:Nat)(x:z1e SQ1)(K:Ex->List A->Option (Int×(DT3×Unit))):Option (Int×(DT3×Unit)):=z8s N x.1 x.2.1 x.2.2.1 (K .normal (mkS SQ1 80 (x.1,x.2.1,x.2.2.1,())))
def z1h7 (N:Nat):Hd (Int×(DT3×Unit)):=fun st K=>(unS SQ1 80 (restr [0,3,4] 0 st)).bind fun x=>z1jl N x K
def t5_51 (N:Nat):Tab (Int×(DT3×Unit)):=[(zqd,z1h5 N)]
theorem z1e7 {N:Nat}{c:Ctx}(hb:Base Tryd.prog (z16l N) c):zw Tryd.prog c (zd za7 [0,1,1,1,1,1]) (z1h7 N) :=
 zy (s:=SQ1) (m:=80) (g:=z1jl N) [0,3,4] (zf hb N (t5_51 N) z17z za7 (TabOk.cons (z1e5 hb) TabOk.nil) [0,1,1,1,1,1] _ rfl) (fun x K=>by kernel_rfl)
def z3b (N:Nat)(p:DT3):Option (Int×(DT3×Unit)):=z8u N p p.2.1 (fun p1=>z8t N p1 p.2.1 0 (fun p2 n=>z8s N p2 p.2.1 n (cond (decide (16<n)) none (some (n,(p2,()))))))
def t_51 (N:Nat):Tab (Int×(DT3×Unit)):=[([0,1,1],z1it N),([0,1,1,1,1],z1hy N),([0,1,1,1,1,1],z1h7 N)]
theorem z19z (N:Nat)(x:z1e SQ0):z91 (z16l N) N (t_51 N) z17z Tryd.f60 (mkS SQ0 0 x) (z6c (.v (.int .i64)) SQ0 0)=z3b N x.1:=by kernel_rfl
def z7z (N:Nat):List A->Res:=z1a SQ0 (fun x=>z3b N x.1) (z79 (.v (.int .i64)) SQ0 0)
theorem zcb (N:Nat):Contract Tryd.prog glob 60 (z7z N) :=
 Contract.of (E:=z16l N) (H:=t_51 N) (L:=z17z) (N:=N) (body:=za7) (K:=(z6c (.v (.int .i64)) SQ0 0)) (z1ng N) Tryd.func60 (by kernel_rfl) (by decide) (fun _ hb=>(TabOk.cons (z1ft hb) (TabOk.cons (z1ey hb) (TabOk.cons (z1e7 hb) TabOk.nil)))) (fun x y h=>by rw[z19z];exact h) (z4k (s:=(.v (.int .i64))) (os:=SQ0) (m:=0))
def zo2:Code:=(Tryd.f51.body).getD .skip
def L_52:List (List Nat×List Nat):=[([0],[0]),([0,1],[0,4]),([0,1,1],[2,0,4]),([0,1,1,1],[0,2,3,4]),([0,0,1,1,1,1],[13,0,2,3,4]),([1,0,1,1,1,1],[3,2,0,4]),([0,0,0,1,0,1,1,1,1],[15,2,0]),([1,0,0,1,0,1,1,1,1],[0,2]),([0,0,1,0,0,1,0,1,1,1,1],[2,3,0]),([1,0,1,0,0,1,0,1,1,1,1],[2,3,0]),([0,1,0,1,0,1,1,1,1],[0,2,4]),([1,1,0,1,0,1,1,1,1],[3,2,0,4]),(zqd,[26,0,4,2,3]),(z17t,[0,2,3]),(z1d3,[0,2,3]),(z107,[2,3,0]),(z17w,[2,3,0]),(z17v,[2,3,0])]
def z1on (N:Nat):Env:=z24 tys glob [(60,z7z N),(29,z1h N),(61,z1j N)] [] [] [0] false [] []
theorem z1nf (N:Nat):EnvOk Tryd.prog (z1on N):=zg mixed z12 (FnsOk.cons (zcb N) (FnsOk.cons (z1x N) (FnsOk.cons (z1y N) (FnsOk.nil)))) (ItsOk.nil)
def z6n (N:Nat)(p:DT3)(low:Int)(high:Int)(from_:Int)(k0:DT3->Int->Option ((Int×Int×Unit)×(DT3×Unit)))(k1:DT3->Int->Int->Option ((Int×Int×Unit)×(DT3×Unit))):Option ((Int×Int×Unit)×(DT3×Unit)):=(zq N p 44).bind fun y=>cond y.1 ((zq N y.2.1 125).bind fun y1=>cond y1.1 (k0 y1.2.1 (-1)) ((z3b N y1.2.1).bind fun y2=>k1 y2.2.1 y2.1 y1.2.1.2.1)) (k1 y.2.1 high from_)
def z1l6 (N:Nat)(x:z1e SQ6)(K:Ex->List A->Option ((Int×Int×Unit)×(DT3×Unit))):Option ((Int×Int×Unit)×(DT3×Unit)):=z6n N x.1 x.2.1 x.2.2.1 x.2.2.2.1 (fun a0 a2=>(K .ret (mkS SQ47 30 (a0,x.2.1,a2,())))) (fun a0 a2 a3=>(K .normal (mkS SQ6 29 (a0,x.2.1,a2,a3,()))))
def z1is (N:Nat):Hd ((Int×Int×Unit)×(DT3×Unit)):=fun st K=>(unS SQ6 29 (restr [0,2,3,4] 0 st)).bind fun x=>z1l6 N x K
def t1_52 (N:Nat):Tab ((Int×Int×Unit)×(DT3×Unit)):=[]
theorem z1fs {N:Nat}{c:Ctx}(hb:Base Tryd.prog (z1on N) c):zw Tryd.prog c (zd zo2 [0,1,1,1,1]) (z1is N) :=
 zy (s:=SQ6) (m:=29) (g:=z1l6 N) [0,2,3,4] (zf hb N (t1_52 N) L_52 zo2 TabOk.nil [0,1,1,1,1] _ rfl) (fun x K=>by kernel_rfl)
def z4h (N:Nat)(p:DT3)(low:Int)(high:Int)(from_:Int)(k0:Option ((Int×Int×Unit)×(DT3×Unit))):Option ((Int×Int×Unit)×(DT3×Unit)):=cond (decide (high<(if (1 > low) then 1 else low))) none k0
def z1kb (N:Nat)(x:z1e SQ6)(K:Ex->List A->Option ((Int×Int×Unit)×(DT3×Unit))):Option ((Int×Int×Unit)×(DT3×Unit)):=z4h N x.1 x.2.1 x.2.2.1 x.2.2.2.1 (K .normal (mkS SQ47 30 (x.1,x.2.1,x.2.2.1,())))
def z1hx (N:Nat):Hd ((Int×Int×Unit)×(DT3×Unit)):=fun st K=>(unS SQ6 29 (restr [3,2,0,4] 0 st)).bind fun x=>z1kb N x K
def t2_52 (N:Nat):Tab ((Int×Int×Unit)×(DT3×Unit)):=[]
theorem z1ex {N:Nat}{c:Ctx}(hb:Base Tryd.prog (z1on N) c):zw Tryd.prog c (zd zo2 [0,1,1,1,1,1]) (z1hx N) :=
 zy (s:=SQ6) (m:=29) (g:=z1kb N) [3,2,0,4] (zf hb N (t2_52 N) L_52 zo2 TabOk.nil [0,1,1,1,1,1] _ rfl) (fun x K=>by kernel_rfl)
def z3i (N:Nat)(p:DT3):Option ((Int×Int×Unit)×(DT3×Unit)):=(z3b N p).bind fun y=>z6n N y.2.1 y.1 y.1 p.2.1 (fun p1 high=>some ((y.1,(high,())),(p1,()))) (fun p2 high1 from_=>z4h N p2 y.1 high1 from_ ((zr N p2 125).bind fun y1=>some ((y.1,(high1,())),(y1.2.1,()))))
def t_52 (N:Nat):Tab ((Int×Int×Unit)×(DT3×Unit)):=[([0,1,1,1,1],z1is N),([0,1,1,1,1,1],z1hx N)]
theorem z19y (N:Nat)(x:z1e SQ0):z91 (z1on N) N (t_52 N) L_52 Tryd.f51 (mkS SQ0 0 x) (z6c (.tup [(.int .i64),(.int .i64)]) SQ0 0)=z3i N x.1:=by kernel_rfl
def z61 (N:Nat):List A->Res:=z1a SQ0 (fun x=>z3i N x.1) (z79 (.tup [(.int .i64),(.int .i64)]) SQ0 0)
theorem z9v (N:Nat):Contract Tryd.prog glob 51 (z61 N) :=
 Contract.of (E:=z1on N) (H:=t_52 N) (L:=L_52) (N:=N) (body:=zo2) (K:=(z6c (.tup [(.int .i64),(.int .i64)]) SQ0 0)) (z1nf N) Tryd.func51 (by kernel_rfl) (by decide) (fun _ hb=>(TabOk.cons (z1fs hb) (TabOk.cons (z1ex hb) TabOk.nil))) (fun x y h=>by rw[z19y];exact h) (z4k (s:=(.tup [(.int .i64),(.int .i64)])) (os:=SQ0) (m:=0))
def zvw:Code:=(Tryd.f41.body).getD .skip
def L_53:List (List Nat×List Nat):=[([0],[0,2]),([0,1],[0,3,2]),([0,0,1,1],[16,3,2,0]),([1,0,1,1],[3,0,2]),([0,0,1,0,1,1],[2,0]),([1,0,1,0,1,1],[2,0]),([0,1,1,1],[0,4,2,3]),([0,0,1,1,1,1],[29,4,0,2,3]),([0,0,0,0,0,0,0,0,0,0,0,0,0,0,1,0,1,1,1,1],[30,4,0,2,29,3]),([1,0,0,0,0,0,0,0,0,0,0,0,0,0,1,0,1,1,1,1],[29,0,4,2,3]),([0,1,0,0,0,0,0,0,0,0,0,0,0,0,0,1,0,1,1,1,1],[4,0,2]),([0,0,1,0,0,0,0,0,0,0,0,0,0,0,0,1,0,1,1,1,1],[32,0,4,2,29,3]),([1,0,1,0,0,0,0,0,0,0,0,0,0,0,0,1,0,1,1,1,1],[29,0,4,2,3]),([0,1,0,1,0,0,0,0,0,0,0,0,0,0,0,0,1,0,1,1,1,1],[0,4,2]),([0,0,1,1,0,0,0,0,0,0,0,0,0,0,0,0,1,0,1,1,1,1],[34,0,4,2,29,3]),([1,0,1,1,0,0,0,0,0,0,0,0,0,0,0,0,1,0,1,1,1,1],[29,0,4,2,3]),([0,1,0,1,1,0,0,0,0,0,0,0,0,0,0,0,0,1,0,1,1,1,1],[0,4,2]),([0,1,1,1,0,0,0,0,0,0,0,0,0,0,0,0,1,0,1,1,1,1],[36,0,4,2,3]),([1,1,1,1,0,0,0,0,0,0,0,0,0,0,0,0,1,0,1,1,1,1],[3,2,0]),([0,1,1,1,1,0,0,0,0,0,0,0,0,0,0,0,0,1,0,1,1,1,1],[0,4,2]),([1,0,0,0,0,0,0,0,0,0,0,0,1,0,1,1,1,1],[3,2,0]),([0,0,0,0,0,0,0,0,0,0,1,0,1,1,1,1],[4,0,2]),([1,0,0,0,0,0,0,0,0,0,1,0,1,1,1,1],[0,4,2]),(z17x,[0,4,2]),([0,1,0,0,0,0,0,0,0,1,0,1,1,1,1],[4,2,0]),([1,1,0,0,0,0,0,0,0,1,0,1,1,1,1],[4,2,0]),([0,0,0,0,0,0,1,0,1,1,1,1],[0,4,2]),([0,0,1,0,0,0,0,0,1,0,1,1,1,1],[4,2,0]),([1,0,1,0,0,0,0,0,1,0,1,1,1,1],[4,2,0]),([1,1,0,0,0,0,0,1,0,1,1,1,1],[4,2,0]),([0,0,0,0,1,0,1,1,1,1],[0,4,2]),([0,0,1,0,0,0,1,0,1,1,1,1],[0,4,2]),([1,0,1,0,0,0,1,0,1,1,1,1],[4,2,0]),([1,1,0,0,0,1,0,1,1,1,1],[4,2,0]),(PQ86,[3,2,0]),([0,0,1,0,1,0,1,1,1,1],[2,0]),([1,0,1,0,1,0,1,1,1,1],[2,0]),([1,1,0,1,0,1,1,1,1],[4,2,0]),([1,0,1,1,1,1],[4,2,0]),([0,1,1,1,1,1],[2,0]),([1,1,1,1,1,1],[2,0])]
def E_53 (N:Nat)(self:z8):Env:=z24 tys glob [(51,z61 N),(50,z77 N self),(21,z1a SQ0 (fun x=>self x.1) (z79 (.v TT1) SQ0 0))] [] [] [0] false [] []
theorem z1ne (N:Nat)(self:z8)(hself:Contract Tryd.prog glob 21 (z1a SQ0 (fun x=>self x.1) (z79 (.v TT1) SQ0 0))):EnvOk Tryd.prog (E_53 N self):=zg mixed z12 (FnsOk.cons (z9v N) (FnsOk.cons (zb5 N self hself) (FnsOk.cons (hself) (FnsOk.nil)))) (ItsOk.nil)
def z72 (N:Nat)(self:z8)(p:DT3)(x2:DT2)(kid:DT2)(rep:DT2)(x29:Int)(k0:DT2->Option (DT2×(DT3×Unit)))(k1:Option (DT2×(DT3×Unit)))(k2:Option (DT2×(DT3×Unit)))(k3:Option (DT2×(DT3×Unit))):Option (DT2×(DT3×Unit)):=cond (x29 == 43) (k0 (rep.1,(rep.2.1,(rep.2.2.1,(1,rep.2.2.2.2))))) (cond (x29 == 42) (k0 rep) (cond (x29 == 63) k1 (cond (x29 == 123) k2 k3)))
def z1l5 (N:Nat)(self:z8)(x:z1e z1cx)(K:Ex->List A->Option (DT2×(DT3×Unit))):Option (DT2×(DT3×Unit)):=z72 N self x.1 x.2.1 x.2.2.1 x.2.2.2.1 x.2.2.2.2.1 (fun a2=>(K .normal (mkS z1cv 65 (x.1,x.2.1,a2,())))) (K (.exit 3) (mkS z1cv 65 (x.1,x.2.1,x.2.2.2.1,()))) (K (.exit 4) (mkS z1cv 65 (x.1,x.2.1,x.2.2.2.1,()))) (K (.exit 5) (mkS [(0,.box (.pair .str TT0)),(1,.box TT1),(0,.box TT1)] 66 (x.1,x.2.1,x.2.2.1,())))
def z1ir (N:Nat)(self:z8):Hd (DT2×(DT3×Unit)):=fun st K=>(unS z1cx 40 (restr [29,4,0,2,3] 0 st)).bind fun x=>z1l5 N self x K
def t1_53 (N:Nat)(self:z8):Tab (DT2×(DT3×Unit)):=[]
theorem z1fr {N:Nat}{self:z8}{c:Ctx}(hb:Base Tryd.prog (E_53 N self) c):zw Tryd.prog c (zd zvw z17x) (z1ir N self) :=
 zy (s:=z1cx) (m:=40) (g:=z1l5 N self) [29,4,0,2,3] (zf hb N (t1_53 N self) L_53 zvw TabOk.nil z17x _ rfl) (fun x K=>by kernel_rfl)
def z2b (N:Nat)(self:z8)(p:DT3):Option (DT2×(DT3×Unit)):=(z45 N self p).bind fun y=>cond (y.2.1.2.1 == (List.length y.2.1.1:Int)) (some (y.1,(y.2.1,()))) (cond (inR y.2.1.2.1 (List.length y.2.1.1)) (z72 N self y.2.1 (0,(([0,0,0,0]:List Int),([],(0,(0,()))))) y.1 (4,(([0,0,0,0]:List Int),((List.map foN ([y.1]:List DT8)),(0,((-1),()))))) (UInt8.toNat (List.getD y.2.1.1 (Int.toNat y.2.1.2.1) (0:UInt8)):Int) (fun rep=>some (rep,((y.2.1.1,((IntKind.wrap IntKind.i64 (y.2.1.2.1+1)),y.2.1.2.2)),()))) (some ((4,(([0,0,0,0]:List Int),((List.map foN ([y.1]:List DT8)),(0,(1,()))))),((y.2.1.1,((IntKind.wrap IntKind.i64 (y.2.1.2.1+1)),y.2.1.2.2)),()))) ((z3i N (y.2.1.1,((IntKind.wrap IntKind.i64 (y.2.1.2.1+1)),y.2.1.2.2))).bind fun y1=>some ((4,(([0,0,0,0]:List Int),((List.map foN ([y.1]:List DT8)),(y1.1.1,(y1.1.2.1,()))))),(y1.2.1,()))) (some (y.1,(y.2.1,())))) none)
def t_53 (N:Nat)(self:z8):Tab (DT2×(DT3×Unit)):=[(z17x,z1ir N self)]
theorem z19x (N:Nat)(self:z8)(x:z1e SQ0):z91 (E_53 N self) N (t_53 N self) L_53 Tryd.f41 (mkS SQ0 0 x) (z6c (.v TT1) SQ0 0)=z2b N self x.1:=by kernel_rfl
def z6k (N:Nat)(self:z8):List A->Res:=z1a SQ0 (fun x=>z2b N self x.1) (z79 (.v TT1) SQ0 0)
theorem zaf (N:Nat)(self:z8)(hself:Contract Tryd.prog glob 21 (z1a SQ0 (fun x=>self x.1) (z79 (.v TT1) SQ0 0))):Contract Tryd.prog glob 41 (z6k N self) :=
 Contract.of (E:=E_53 N self) (H:=t_53 N self) (L:=L_53) (N:=N) (body:=zvw) (K:=(z6c (.v TT1) SQ0 0)) (z1ne N self hself) Tryd.func41 (by kernel_rfl) (by decide) (fun _ hb=>(TabOk.cons (z1fr hb) TabOk.nil)) (fun x y h=>by rw[z19x];exact h) (z4k (s:=(.v TT1)) (os:=SQ0) (m:=0))
def zvv:Code:=(Tryd.f30.body).getD .skip
def L_54:List (List Nat×List Nat):=[([0],[1,0,4]),([0,1],[1,0,5,4]),([0,0,1,1],[10,9,8,0,5,4]),([0,1,0,1,1],[10,9,8,0,5,4]),([0,0,0,1,0,1,1],[11,8,10,0,5,9,4]),(z14b,[8,10,0,5,9,4]),([1,0,1,0,0,1,0,1,1],[5,4,0]),(PQ78,[7,0,5,10,9,8,4]),([0,1,0,0,1,1,0,0,1,0,1,1],[17,5,7,10,9,8,0,4]),([1,1,0,0,1,1,0,0,1,0,1,1],[10,9,8,0,5,4]),([1,1,1,0,0,1,1,0,0,1,0,1,1],[10,9,8,0,5,4]),([0,1,1,0,0,1,1,0,0,1,0,1,1],[10,9,8,0,5,4]),([0,1,1,0,0,1,0,1,1],[10,9,8,0,5,4]),([1,1,1,0,0,1,0,1,1],[10,9,8,0,5,4]),([1,0,1,1],[5,4,0]),([0,0,1,1,1],[29,5,4,0]),([1,0,1,1,1],[0,5,4]),(z1ce,[4]),(z1cd,[4]),([0,1,1,1,1],[4]),([1,1,1,1,1],[4])]
def E_54 (N:Nat):Env:=z24 tys glob [] [(5,TT1)] [] [] false [] []
theorem z1nd (N:Nat):EnvOk Tryd.prog (E_54 N):=zg mixed z12 (FnsOk.nil) (ItsOk.nil)
def z9m (N:Nat)(kind:Int)(x4:DT2)(x8:(List Tree))(x9:Int)(kids:(List DT2))(x10:Int)(rec:(List DT2)->Int->Option DT2)(k0:(List DT2)->Option DT2):Option DT2:=cond (decide (x10<x9)) (cond (inR x10 (List.length x8)) (cond ((unN (List.getD x8 (Int.toNat x10) (Tree.mk 0 [] [] 0 0))).1 == kind) (cond (decide ((((List.length kids)+(List.length (List.map unN (unN (List.getD x8 (Int.toNat x10) (Tree.mk 0 [] [] 0 0))).2.2.1)))*80)<=70368744177664)) (rec (kids++(List.map unN (unN (List.getD x8 (Int.toNat x10) (Tree.mk 0 [] [] 0 0))).2.2.1)) (IntKind.wrap IntKind.i64 (x10+1))) none) (cond (decide ((((List.length kids)+1)*80)<=70368744177664)) (rec (kids++([(unN (List.getD x8 (Int.toNat x10) (Tree.mk 0 [] [] 0 0)))]:List DT8)) (IntKind.wrap IntKind.i64 (x10+1))) none)) none) (k0 kids)
def zj9 (N:Nat)(kind:Int)(x4:DT2)(kids:(List DT2))(x8:(List Tree))(x9:Int)(x10:Int)(k0:(List DT2)->Option DT2):Option DT2:=iter (fun (v:((List DT2)×Int)) r=>z9m N kind x4 x8 x9 v.1 v.2 (fun kids x10=>(r (kids,x10))) k0) N (kids,x10)
def z1l4 (N:Nat)(i:(Int×DT2×(List Tree)×Int))(v:((List DT2)×Int))(r:((List DT2)×Int)->Option DT2)(K:Ex->List A->Option DT2):Option DT2:=z9m N i.1 i.2.1 i.2.2.1 i.2.2.2 v.1 v.2 (fun kids x10=>(r (kids,x10))) (fun a2=>(K (.exit 0) (mkS [(0,.v (.int .i64)),(3,.box TT1),(0,.row TT1)] 30 (i.1,i.2.1,a2,()))))
def z1iq (N:Nat):Hd DT2:=fun st K=>(unS SQ53 25 (restr [10,9,8,0,5,4] 0 st)).bind fun x=>iter (fun v r=>z1l4 N ((fun x=>(x.1,x.2.1,x.2.2.2.1,x.2.2.2.2.1)) x) v r K) N ((fun x=>(x.2.2.1,x.2.2.2.2.2.1)) x)
def t1_54 (N:Nat):Tab DT2:=[]
theorem z1fq {N:Nat}{c:Ctx}(hb:Base Tryd.prog (E_54 N) c):zw Tryd.prog c (zd zvv [0,1,0,1,1]) (z1iq N) :=
 z6p (s:=SQ53) (m:=25) (z1l4 N) [10,9,8,0,5,4] N (fun x=>(x.1,x.2.1,x.2.2.2.1,x.2.2.2.2.1)) (fun x=>(x.2.2.1,x.2.2.2.2.2.1)) (fun i v=>(i.1,i.2.1,v.1,i.2.2.1,i.2.2.2,v.2,())) (fun _=>rfl) (zf hb N (t1_54 N) L_54 zvv TabOk.nil [0,0,1,0,1,1] _ rfl) (fun i v r K=>by kernel_rfl)
def z7g (N:Nat)(kind:Int)(parts:(List Tree)):Option DT2:=zj9 N kind (0,(([0,0,0,0]:List Int),([],(0,(0,()))))) [] parts (List.length parts:Int) 0 (fun kids=>cond ((List.length kids:Int) == 1) (cond (inR 0 (List.length kids)) (cond (decide (0<(List.length kids))) (some (List.getD kids 0 (0,([],([],(0,(0,()))))))) none) none) (some (kind,(([0,0,0,0]:List Int),((List.map foN kids),(0,(0,())))))))
def t_54 (N:Nat):Tab DT2:=[([0,1,0,1,1],z1iq N)]
theorem z19w (N:Nat)(x:z1e [(0,.v (.int .i64)),(0,.v (.sl .nod))]):z91 (E_54 N) N (t_54 N) L_54 Tryd.f30 (mkS [(0,.v (.int .i64)),(0,.v (.sl .nod))] 0 x) (z5j (.v TT1) 2)=z7g N x.1 x.2.1:=by kernel_rfl
def z8i (N:Nat):List A->Res:=z1a [(0,.v (.int .i64)),(0,.v (.sl .nod))] (fun x=>z7g N x.1 x.2.1) (zb8 (.v TT1) 2)
theorem zbj (N:Nat):Contract Tryd.prog glob 30 (z8i N) :=
 Contract.of (E:=E_54 N) (H:=t_54 N) (L:=L_54) (N:=N) (body:=zvv) (K:=(z5j (.v TT1) 2)) (z1nd N) Tryd.func30 (by kernel_rfl) (by decide) (fun _ hb=>(TabOk.cons (z1fq hb) TabOk.nil)) (fun x y h=>by rw[z19w];exact h) (z1t (s:=(.v TT1)) (m:=2))
def ziu:Code:=(Tryd.f28.body).getD .skip
def z1mq:List (List Nat×List Nat):=[([0],[0,2]),([0,1],[0,3,2]),([0,0,1,1],[0,3,2]),([0,0,0,0,0,1,1],[37,3,0,2]),([1,0,0,0,0,1,1],[3,0,2]),([1,1,0,0,0,0,1,1],[3,2,0]),([0,1,0,0,0,1,1],[0,3,2]),([1,0,0,0,1,1],[0,3,2]),([0,1,1],[3,2,0]),([0,1,1,1],[2,0]),([1,1,1,1],[2,0])]
def z1da (N:Nat)(self:z8):Env:=z24 tys glob [(30,z8i N),(41,z6k N self),(21,z1a SQ0 (fun x=>self x.1) (z79 (.v TT1) SQ0 0))] [(3,TT1)] [] [0] false [] []
theorem z1nc (N:Nat)(self:z8)(hself:Contract Tryd.prog glob 21 (z1a SQ0 (fun x=>self x.1) (z79 (.v TT1) SQ0 0))):EnvOk Tryd.prog (z1da N self):=zg mixed z12 (FnsOk.cons (zbj N) (FnsOk.cons (zaf N self hself) (FnsOk.cons (hself) (FnsOk.nil)))) (ItsOk.nil)
def z8x (N:Nat)(self:z8)(p:DT3)(x2:DT2)(parts:(List DT2))(k0:Option (DT2×(DT3×Unit)))(k1:Option (DT2×(DT3×Unit))):Option (DT2×(DT3×Unit)):=cond (decide (p.2.1<(List.length p.1:Int))) (cond (inR p.2.1 (List.length p.1)) (cond ((UInt8.toNat (List.getD p.1 (Int.toNat p.2.1) (0:UInt8)):Int) != 124) (cond (inR p.2.1 (List.length p.1)) (cond ((UInt8.toNat (List.getD p.1 (Int.toNat p.2.1) (0:UInt8)):Int) != 41) k0 k1) none) k1) none) k1
def z1jw (N:Nat)(self:z8)(x:z1e SQ3)(K:Ex->List A->Option (DT2×(DT3×Unit))):Option (DT2×(DT3×Unit)):=z8x N self x.1 x.2.1 x.2.2.1 (K .normal (mkS SQ3 41 (x.1,x.2.1,x.2.2.1,()))) (K (.exit 0) (mkS SQ3 41 (x.1,x.2.1,x.2.2.1,())))
def z1hi (N:Nat)(self:z8):Hd (DT2×(DT3×Unit)):=fun st K=>(unS SQ3 41 (restr [0,3,2] 0 st)).bind fun x=>z1jw N self x K
def t3_55 (N:Nat)(self:z8):Tab (DT2×(DT3×Unit)):=[]
theorem z1ei {N:Nat}{self:z8}{c:Ctx}(hb:Base Tryd.prog (z1da N self) c):zw Tryd.prog c (zd ziu [0,0,0,0,1,1]) (z1hi N self) :=
 zy (s:=SQ3) (m:=41) (g:=z1jw N self) [0,3,2] (zf hb N (t3_55 N self) z1mq ziu TabOk.nil [0,0,0,0,1,1] _ rfl) (fun x K=>by kernel_rfl)
def z4b (N:Nat)(self:z8)(x2:DT2)(p:DT3)(parts:(List DT2))(rec:DT3->(List DT2)->Option (DT2×(DT3×Unit)))(k0:DT3->(List DT2)->Option (DT2×(DT3×Unit))):Option (DT2×(DT3×Unit)):=z8x N self p x2 parts ((z2b N self p).bind fun y=>cond (decide ((((List.length parts)+1)*80)<=70368744177664)) (rec y.2.1 (parts++([y.1]:List DT8))) none) (k0 p parts)
def zcd (N:Nat)(self:z8)(p:DT3)(x2:DT2)(parts:(List DT2))(k0:DT3->(List DT2)->Option (DT2×(DT3×Unit))):Option (DT2×(DT3×Unit)):=iter (fun (v:(DT3×(List DT2))) r=>z4b N self x2 v.1 v.2 (fun p parts=>(r (p,parts))) k0) N (p,parts)
end
end Go.Proofs.YthgcpalmjcomlaaDoorLg
set_option linter.all false
set_option maxRecDepth 100000
namespace Go.Proofs.YthgcpalmjcomlaaDoorLg
noncomputable section
open Go Go.Lift
def z1ka (N:Nat)(self:z8)(i:DT2)(v:(DT3×(List DT2)))(r:(DT3×(List DT2))->Option (DT2×(DT3×Unit)))(K:Ex->List A->Option (DT2×(DT3×Unit))):Option (DT2×(DT3×Unit)):=z4b N self i v.1 v.2 (fun p parts=>(r (p,parts))) (fun a0 a2=>(K (.exit 0) (mkS SQ3 41 (a0,i,a2,()))))
def z1hw (N:Nat)(self:z8):Hd (DT2×(DT3×Unit)):=fun st K=>(unS SQ3 41 (restr [0,3,2] 0 st)).bind fun x=>iter (fun v r=>z1ka N self ((fun x=>x.2.1) x) v r K) N ((fun x=>(x.1,x.2.2.1)) x)
def t2_55 (N:Nat)(self:z8):Tab (DT2×(DT3×Unit)):=[([0,0,0,0,1,1],z1hi N self)]
theorem z1ew {N:Nat}{self:z8}{c:Ctx}(hb:Base Tryd.prog (z1da N self) c):zw Tryd.prog c (zd ziu [0,0,1,1]) (z1hw N self) :=
 z6p (s:=SQ3) (m:=41) (z1ka N self) [0,3,2] N (fun x=>x.2.1) (fun x=>(x.1,x.2.2.1)) (fun i v=>(v.1,i,v.2,())) (fun _=>rfl) (zf hb N (t2_55 N self) z1mq ziu (TabOk.cons (z1ei hb) TabOk.nil) [0,0,0,1,1] _ rfl) (fun i v r K=>by kernel_rfl)
def z8y (N:Nat)(self:z8)(p:DT3)(x2:DT2)(parts:(List DT2))(k0:DT3->(List DT2)->Option (DT2×(DT3×Unit))):Option (DT2×(DT3×Unit)):=zcd N self p x2 parts (fun p1 zja=>k0 p1 zja)
def z1l3 (N:Nat)(self:z8)(x:z1e SQ3)(K:Ex->List A->Option (DT2×(DT3×Unit))):Option (DT2×(DT3×Unit)):=z8y N self x.1 x.2.1 x.2.2.1 (fun a0 a2=>(K .normal (mkS SQ3 41 (a0,x.2.1,a2,()))))
def z1ip (N:Nat)(self:z8):Hd (DT2×(DT3×Unit)):=fun st K=>(unS SQ3 41 (restr [0,3,2] 0 st)).bind fun x=>z1l3 N self x K
def t1_55 (N:Nat)(self:z8):Tab (DT2×(DT3×Unit)):=[([0,0,1,1],z1hw N self)]
theorem z1fp {N:Nat}{self:z8}{c:Ctx}(hb:Base Tryd.prog (z1da N self) c):zw Tryd.prog c (zd ziu [0,1,1]) (z1ip N self) :=
 zy (s:=SQ3) (m:=41) (g:=z1l3 N self) [0,3,2] (zf hb N (t1_55 N self) z1mq ziu (TabOk.cons (z1ew hb) TabOk.nil) [0,1,1] _ rfl) (fun x K=>by kernel_rfl)
def z3d (N:Nat)(self:z8)(p:DT3):Option (DT2×(DT3×Unit)):=z8y N self p (0,(([0,0,0,0]:List Int),([],(0,(0,()))))) [] (fun p1 parts=>(z7g N 2 (List.map foN parts)).bind fun y=>some (y,(p1,())))
def t_55 (N:Nat)(self:z8):Tab (DT2×(DT3×Unit)):=[([0,1,1],z1ip N self)]
theorem z19v (N:Nat)(self:z8)(x:z1e SQ0):z91 (z1da N self) N (t_55 N self) z1mq Tryd.f28 (mkS SQ0 0 x) (z6c (.v TT1) SQ0 0)=z3d N self x.1:=by kernel_rfl
def z87 (N:Nat)(self:z8):List A->Res:=z1a SQ0 (fun x=>z3d N self x.1) (z79 (.v TT1) SQ0 0)
theorem zce (N:Nat)(self:z8)(hself:Contract Tryd.prog glob 21 (z1a SQ0 (fun x=>self x.1) (z79 (.v TT1) SQ0 0))):Contract Tryd.prog glob 28 (z87 N self) :=
 Contract.of (E:=z1da N self) (H:=t_55 N self) (L:=z1mq) (N:=N) (body:=ziu) (K:=(z6c (.v TT1) SQ0 0)) (z1nc N self hself) Tryd.func28 (by kernel_rfl) (by decide) (fun _ hb=>(TabOk.cons (z1fp hb) TabOk.nil)) (fun x y h=>by rw[z19v];exact h) (z4k (s:=(.v TT1)) (os:=SQ0) (m:=0))
def zrn:Code:=(Tryd.f21.body).getD .skip
def L_56:List (List Nat×List Nat):=[([0],[0,2]),([0,1],[0,3,2]),([0,0,1,1],[0,3,2]),([0,0,0,0,0,1,1],[8,3,0,2]),([1,0,0,0,0,1,1],[3,0,2]),([1,1,0,0,0,0,1,1],[3,2,0]),([0,1,0,0,0,1,1],[0,3,2]),([1,0,0,0,1,1],[0,3,2]),([0,1,1],[3,2,0]),([0,1,1,1],[2,0]),([1,1,1,1],[2,0])]
def E_56 (N:Nat)(self:DT3->Option (DT2×(DT3×Unit))):Env:=z24 tys glob [(28,z87 N self),(30,z8i N),(29,z1h N),(21,z1a SQ0 (fun x=>self x.1) (z79 (.v TT1) SQ0 0))] [(3,TT1)] [] [0] false [] []
theorem z1nb (N:Nat)(self:DT3->Option (DT2×(DT3×Unit)))(hself:Contract Tryd.prog glob 21 (z1a SQ0 (fun x=>self x.1) (z79 (.v TT1) SQ0 0))):EnvOk Tryd.prog (E_56 N self):=zg mixed z12 (FnsOk.cons (zce N self hself) (FnsOk.cons (zbj N) (FnsOk.cons (z1x N) (FnsOk.cons (hself) (FnsOk.nil))))) (ItsOk.nil)
def z62 (N:Nat)(self:DT3->Option (DT2×(DT3×Unit)))(x2:DT2)(p:DT3)(parts:(List DT2))(rec:DT3->(List DT2)->Option (DT2×(DT3×Unit)))(k0:DT3->(List DT2)->Option (DT2×(DT3×Unit))):Option (DT2×(DT3×Unit)):=(zq N p 124).bind fun y=>cond y.1 ((z3d N self y.2.1).bind fun y1=>cond (decide ((((List.length parts)+1)*80)<=70368744177664)) (rec y1.2.1 (parts++([y1.1]:List DT8))) none) (k0 y.2.1 parts)
def zcf (N:Nat)(self:DT3->Option (DT2×(DT3×Unit)))(p:DT3)(x2:DT2)(parts:(List DT2))(k0:DT3->(List DT2)->Option (DT2×(DT3×Unit))):Option (DT2×(DT3×Unit)):=iter (fun (v:(DT3×(List DT2))) r=>z62 N self x2 v.1 v.2 (fun p parts=>(r (p,parts))) k0) N (p,parts)
def z1l2 (N:Nat)(self:DT3->Option (DT2×(DT3×Unit)))(i:DT2)(v:(DT3×(List DT2)))(r:(DT3×(List DT2))->Option (DT2×(DT3×Unit)))(K:Ex->List A->Option (DT2×(DT3×Unit))):Option (DT2×(DT3×Unit)):=z62 N self i v.1 v.2 (fun p parts=>(r (p,parts))) (fun a0 a2=>(K (.exit 0) (mkS SQ3 12 (a0,i,a2,()))))
def z1io (N:Nat)(self:DT3->Option (DT2×(DT3×Unit))):Hd (DT2×(DT3×Unit)):=fun st K=>(unS SQ3 12 (restr [0,3,2] 0 st)).bind fun x=>iter (fun v r=>z1l2 N self ((fun x=>x.2.1) x) v r K) N ((fun x=>(x.1,x.2.2.1)) x)
def t1_56 (N:Nat)(self:DT3->Option (DT2×(DT3×Unit))):Tab (DT2×(DT3×Unit)):=[]
theorem z1fo {N:Nat}{self:DT3->Option (DT2×(DT3×Unit))}{c:Ctx}(hb:Base Tryd.prog (E_56 N self) c):zw Tryd.prog c (zd zrn [0,0,1,1]) (z1io N self) :=
 z6p (s:=SQ3) (m:=12) (z1l2 N self) [0,3,2] N (fun x=>x.2.1) (fun x=>(x.1,x.2.2.1)) (fun i v=>(v.1,i,v.2,())) (fun _=>rfl) (zf hb N (t1_56 N self) L_56 zrn TabOk.nil [0,0,0,1,1] _ rfl) (fun i v r K=>by kernel_rfl)
def z6s (N:Nat)(self:DT3->Option (DT2×(DT3×Unit)))(p:DT3):Option (DT2×(DT3×Unit)):=(z3d N self p).bind fun y=>zcf N self y.2.1 (0,(([0,0,0,0]:List Int),([],(0,(0,()))))) ([y.1]:List DT8) (fun p1 parts=>(z7g N 3 (List.map foN parts)).bind fun y1=>some (y1,(p1,())))
def t_56 (N:Nat)(self:DT3->Option (DT2×(DT3×Unit))):Tab (DT2×(DT3×Unit)):=[([0,0,1,1],z1io N self)]
theorem z19u (N:Nat)(self:DT3->Option (DT2×(DT3×Unit)))(x:z1e SQ0):z91 (E_56 N self) N (t_56 N self) L_56 Tryd.f21 (mkS SQ0 0 x) (z6c (.v TT1) SQ0 0)=z6s N self x.1:=by kernel_rfl
def ze:Nat->DT3->Option (DT2×(DT3×Unit))
 | 0=>fun _=>none
 | N+1=>z6s (N+1) (ze N)
def zb6 (N:Nat):List A->Res:=z1a SQ0 (fun x=>ze N x.1) (z79 (.v TT1) SQ0 0)
theorem z2r:∀ N:Nat,Contract Tryd.prog glob 21 (zb6 N)
 | 0=>Contract.zero Tryd.func21 (body:=zrn) (by kernel_rfl) (by decide) (fun _=>rfl)
 | N+1=>Contract.of (E:=E_56 (N+1) (ze N)) (H:=t_56 (N+1) (ze N)) (L:=L_56) (N:=(N+1)) (body:=zrn) (K:=(z6c (.v TT1) SQ0 0)) (z1nb (N+1) (ze N) (z2r N)) Tryd.func21 (by kernel_rfl) (by decide) (fun _ hb=>(TabOk.cons (z1fo hb) TabOk.nil)) (fun x y h=>by rw[z19u];exact h) (z4k (s:=(.v TT1)) (os:=SQ0) (m:=0))
def zgx:Code:=(Tryd.f9.body).getD .skip
def z1mp:List (List Nat×List Nat):=[([0],[2,3]),([0,0,1],[40,2,3]),([1,0,1],[2,3]),([0,0,1,0,1],[4]),([1,0,1,0,1],[4]),([0,0,1,1],[5,2,3]),([0,1,0,1,1],[5,2,3]),([0,0,0,0,1,0,1,1],[45,2,5,3]),([1,0,0,0,1,0,1,1],[2,5,3]),([1,1,0,0,0,1,0,1,1],[]),([0,0,0,1,0,0,1,0,1,1],[59,5,2,3]),([1,0,0,1,0,0,1,0,1,1],[5,2,3]),(PQ74,[4]),([1,0,1,0,0,1,0,0,1,0,1,1],[4]),(z14b,[5,2,3]),([1,1,0,0,1,0,1,1],[5,2,3]),([1,0,1,1],[]),([0,1,1,1],[4]),([1,1,1,1],[4])]
def z1d9 (N:Nat)(self:DT2->DT2->Option Bool):Env:=z24 tys glob [(9,z1a z17o (fun x=>self x.1 x.2.1) (zb8 (.v .bool) 2))] [] [] [] false [] []
theorem z1na (N:Nat)(self:DT2->DT2->Option Bool)(hself:Contract Tryd.prog glob 9 (z1a z17o (fun x=>self x.1 x.2.1) (zb8 (.v .bool) 2))):EnvOk Tryd.prog (z1d9 N self):=zg mixed z12 (FnsOk.cons (hself) (FnsOk.nil)) (ItsOk.nil)
def z8z (N:Nat)(self:DT2->DT2->Option Bool)(a:DT2)(b:DT2)(k0:Bool->Option Bool):Option Bool:=cond (a.1 != b.1) (k0 true) (cond (!(eqD (T.arr 4 (T.int IntKind.u64)) a.2.1 b.2.1)) (k0 true) (cond (a.2.2.2.1 != b.2.2.2.1) (k0 true) (cond (a.2.2.2.2.1 != b.2.2.2.2.1) (k0 true) (k0 ((List.length a.2.2.1:Int) != (List.length b.2.2.1:Int))))))
def z1k9 (N:Nat)(self:DT2->DT2->Option Bool)(x:z1e z1cb)(K:Ex->List A->Option Bool):Option Bool:=z8z N self x.1 x.2.1 (fun a2=>(K .normal (mkS [(2,.box TT1),(0,.box TT1),(36,.v .bool)] 19 (x.1,x.2.1,a2,()))))
def z1hv (N:Nat)(self:DT2->DT2->Option Bool):Hd Bool:=fun st K=>(unS z1cb 56 (restr [2,3] 0 st)).bind fun x=>z1k9 N self x K
def t2_57 (N:Nat)(self:DT2->DT2->Option Bool):Tab Bool:=[]
theorem z1ev {N:Nat}{self:DT2->DT2->Option Bool}{c:Ctx}(hb:Base Tryd.prog (z1d9 N self) c):zw Tryd.prog c (zd zgx [0,0,1]) (z1hv N self) :=
 zy (s:=z1cb) (m:=56) (g:=z1k9 N self) [2,3] (zf hb N (t2_57 N self) z1mp zgx TabOk.nil [0,0,1] _ rfl) (fun x K=>by kernel_rfl)
def z90 (N:Nat)(self:DT2->DT2->Option Bool)(a:DT2)(b:DT2)(k0:Bool->Option Bool)(k1:Option Bool):Option Bool:=z8z N self a b (fun x40=>cond x40 (k0 false) k1)
def z1l1 (N:Nat)(self:DT2->DT2->Option Bool)(x:z1e z1cb)(K:Ex->List A->Option Bool):Option Bool:=z90 N self x.1 x.2.1 (fun a0=>(K .ret (mkS [(4,.v .bool)] 55 (a0,())))) (K .normal (mkS z1cb 56 (x.1,x.2.1,())))
def z1in (N:Nat)(self:DT2->DT2->Option Bool):Hd Bool:=fun st K=>(unS z1cb 56 (restr [2,3] 0 st)).bind fun x=>z1l1 N self x K
def t1_57 (N:Nat)(self:DT2->DT2->Option Bool):Tab Bool:=[([0,0,1],z1hv N self)]
theorem z1fn {N:Nat}{self:DT2->DT2->Option Bool}{c:Ctx}(hb:Base Tryd.prog (z1d9 N self) c):zw Tryd.prog c (zd zgx [0,1]) (z1in N self) :=
 zy (s:=z1cb) (m:=56) (g:=z1l1 N self) [2,3] (zf hb N (t1_57 N self) z1mp zgx (TabOk.cons (z1ev hb) TabOk.nil) [0,1] _ rfl) (fun x K=>by kernel_rfl)
def zch (N:Nat)(self:DT2->DT2->Option Bool)(a:DT2)(b:DT2)(i:Int)(rec:Int->Option Bool)(k0:Bool->Option Bool)(k1:Option Bool):Option Bool:=cond (decide (i<(List.length a.2.2.1:Int))) (cond (inR i (List.length a.2.2.1)) (cond (inR i (List.length b.2.2.1)) ((self (unN (List.getD a.2.2.1 (Int.toNat i) (Tree.mk 0 [] [] 0 0))) (unN (List.getD b.2.2.1 (Int.toNat i) (Tree.mk 0 [] [] 0 0)))).bind fun y=>cond (!y) (k0 false) (rec (IntKind.wrap IntKind.i64 (i+1)))) none) none) k1
def zci (N:Nat)(self:DT2->DT2->Option Bool)(a:DT2)(b:DT2)(i:Int)(k0:Bool->Option Bool)(k1:Option Bool):Option Bool:=iter (fun (v:Int) r=>zch N self a b v (fun i=>(r i)) k0 k1) N i
def z1jv (N:Nat)(self:DT2->DT2->Option Bool)(i:(DT2×DT2))(v:Int)(r:Int->Option Bool)(K:Ex->List A->Option Bool):Option Bool:=zch N self i.1 i.2 v (fun i=>(r i)) (fun a0=>(K .ret (mkS [(4,.v .bool)] 55 (a0,())))) (K (.exit 0) (mkS [] 60 ()))
def z1hh (N:Nat)(self:DT2->DT2->Option Bool):Hd Bool:=fun st K=>(unS [(2,.box TT1),(0,.box TT1),(1,.v (.int .i64))] 54 (restr [5,2,3] 0 st)).bind fun x=>iter (fun v r=>z1jv N self ((fun x=>(x.1,x.2.1)) x) v r K) N ((fun x=>x.2.2.1) x)
def t3_57 (N:Nat)(self:DT2->DT2->Option Bool):Tab Bool:=[]
theorem z1eh {N:Nat}{self:DT2->DT2->Option Bool}{c:Ctx}(hb:Base Tryd.prog (z1d9 N self) c):zw Tryd.prog c (zd zgx [0,1,0,1,1]) (z1hh N self) :=
 z6p (s:=[(2,.box TT1),(0,.box TT1),(1,.v (.int .i64))]) (m:=54) (z1jv N self) [5,2,3] N (fun x=>(x.1,x.2.1)) (fun x=>x.2.2.1) (fun i v=>(i.1,i.2,v,())) (fun _=>rfl) (zf hb N (t3_57 N self) z1mp zgx TabOk.nil [0,0,1,0,1,1] _ rfl) (fun i v r K=>by kernel_rfl)
def z6t (N:Nat)(self:DT2->DT2->Option Bool)(a:DT2)(b:DT2):Option Bool:=z90 N self a b (fun x4=>some x4) (zci N self a b 0 (fun x41=>some x41) (some true))
def t_57 (N:Nat)(self:DT2->DT2->Option Bool):Tab Bool:=[([0,1],z1in N self),([0,1,0,1,1],z1hh N self)]
theorem z19t (N:Nat)(self:DT2->DT2->Option Bool)(x:z1e z17o):z91 (z1d9 N self) N (t_57 N self) z1mp Tryd.f9 (mkS z17o 0 x) (z5j (.v .bool) 2)=z6t N self x.1 x.2.1:=by kernel_rfl
def z2o:Nat->DT2->DT2->Option Bool
 | 0=>fun _ _=>none
 | N+1=>z6t (N+1) (z2o N)
def zb7 (N:Nat):List A->Res:=z1a z17o (fun x=>z2o N x.1 x.2.1) (zb8 (.v .bool) 2)
theorem zcj:∀ N:Nat,Contract Tryd.prog glob 9 (zb7 N)
 | 0=>Contract.zero Tryd.func9 (body:=zgx) (by kernel_rfl) (by decide) (fun _=>rfl)
 | N+1=>Contract.of (E:=z1d9 (N+1) (z2o N)) (H:=t_57 (N+1) (z2o N)) (L:=z1mp) (N:=(N+1)) (body:=zgx) (K:=(z5j (.v .bool) 2)) (z1na (N+1) (z2o N) (zcj N)) Tryd.func9 (by kernel_rfl) (by decide) (fun _ hb=>(TabOk.cons (z1fn hb) (TabOk.cons (z1eh hb) TabOk.nil))) (fun x y h=>by rw[z19t];exact h) (z1t (s:=(.v .bool)) (m:=2))
end
end Go.Proofs.YthgcpalmjcomlaaDoorLg
set_option linter.all false
set_option maxRecDepth 100000
namespace Go.Lift
noncomputable section
def BSt (t:T)(w0:World)(S0:Hp)(ob0:List Nat)(bf:Nat)(w:World)(x:t.den)(L:List (Nat×Array Value×Nat)):Prop:=∃ S o,WF w0 (fun k=>k∈ob0) w/\Sub S0 S/\Sub S (hp w)/\(∀ k,S k≠none->S0 k≠none\/k∈ob0\/w0.heap.size<=k)/\ARel (hp w) S (fun _=>undef) (.box t x) (.pointer (some ⟨bf,0,none⟩)) o/\o.Nodup ∧ (∀ k∈o,S k=none/\(k∈ob0\/w0.heap.size<=k))/\∀ p∈L,S p.1=none/\p.1∉o/\w0.heap.size<=p.1/\w.heap[p.1]?=some (.cells p.2.1 p.2.2 (0,0))
variable {P:Program} {glob:Nat->Option Dat} {t:T} {w0 w:World} {S0:Hp} {ob0:List Nat} {bf:Nat} {x:t.den} {L:List (Nat×Array Value×Nat)}
theorem BSt.lt (h:BSt t w0 S0 ob0 bf w x L):∀ p∈L,p.1<w.heap.size:=by
 obtain⟨S,o,_,_,_,_,_,_,_,hL⟩:=h;exact fun p hp=>(Array.getElem?_eq_some_iff.1 (hL p hp).2.2.2).1
theorem BSt.drew (h:BSt t w0 S0 ob0 bf w x L):BSt t w0 S0 ob0 bf w.drew x L:=by
 obtain⟨S,o,k1,k2⟩:=h;exact⟨S,o,⟨k1.size,k1.same,k1.tape,k1.os,k1.output⟩,k2⟩
theorem BSt.swap {L':List (Nat×Array Value×Nat)}(h:BSt t w0 S0 ob0 bf w x L)(hm:∀ p∈L',p∈L):BSt t w0 S0 ob0 bf w x L':=by
 obtain⟨S,o,h1,h2,h3,h4,h5,h6,h7,hL⟩:=h;exact⟨S,o,h1,h2,h3,h4,h5,h6,h7,fun p hp=>hL p (hm p hp)⟩
theorem BSt.cell (h:BSt t w0 S0 ob0 bf w x L){p:Nat}{cs:Array Value}{E i:Nat}{v:Value}(hm:(p,cs,E)∈L)(hi:cs[i]?=some v):w.cell? ⟨p,i,none⟩=some v:=by
 obtain⟨S,o,_,_,_,_,_,_,_,hL⟩:=h;have:=(hL _ hm).2.2.2;simp only at this;simp[World.cell?,this,hi]
theorem BSt.free (h:BSt t w0 S0 ob0 bf w x L){p:Nat}{cs:Array Value}{E i:Nat}(hm:(p,cs,E)∈L):w.frozen? ⟨p,i,none⟩=false:=by
 obtain⟨S,o,_,_,_,_,_,_,_,hL⟩:=h;have:=(hL _ hm).2.2.2;simp only at this;simp[World.frozen?,this]
theorem z1m7 {w':World} {x':t.den} {S S':Hp} {o o':List Nat} (h1:WF w0 (fun k=>k∈ob0) w) (h2:Sub S0 S) (h4:∀ k,S k≠none->S0 k≠none\/k∈ob0\/w0.heap.size<=k)
 (h7:∀ k∈o,S k=none/\(k∈ob0\/w0.heap.size<=k)) (hL:∀ p∈L,S p.1=none/\p.1∉o/\w0.heap.size<=p.1/\w.heap[p.1]?=some (.cells p.2.1 p.2.2 (0,0)))
 (k1:WF w (fun k=>k∈o) w') (k2:Sub S S') (k3:Sub S' (hp w')) (k4:∀ k,S' k≠none->S k≠none\/k∈o\/w.heap.size<=k) (k5:ARel (hp w') S' (fun _=>undef) (.box t x') (.pointer (some ⟨bf,0,none⟩)) o')
 (k6:o'.Nodup) (k7:∀ k∈o',S' k=none/\(k∈o\/w.heap.size<=k)):BSt t w0 S0 ob0 bf w' x' L:=by
 refine⟨S',o',h1.trans k1 (fun k hk=>(h7 k hk).2),h2.trans k2,k3,fun k hk=>?_,k5,k6,fun k hk=>⟨(k7 k hk).1,?_⟩,fun p hp=>?_⟩
 . rcases k4 k hk with h|h|h
   . exact h4 k h
   . exact .inr (h7 k h).2
   . exact .inr (.inr (Nat.le_trans h1.size h))
 . rcases (k7 k hk).2 with h|h
   . exact (h7 k h).2
   . exact .inr (Nat.le_trans h1.size h)
 . obtain⟨p1,p2,p3,p4⟩:=hL p hp;have hl:=(Array.getElem?_eq_some_iff.1 p4).1;refine⟨?_,fun hk=>?_,p3,?_⟩
   . cases hs:S' p.1 with
     | none=>rfl
     | some q =>
       rcases k4 p.1 (by rw[hs];simp) with h|h|h
       . exact absurd p1 h
       . exact absurd h p2
       . omega
   . rcases (k7 _ hk).2 with h|h
     . exact p2 h
     . omega
   . rw[k1.same p.1 hl p2];exact p4
theorem BSt.plain {f:FuncId}{g:List A->Res}(ct:Contract P glob f g)(hg:∀ S,GlobOk glob S)(h:BSt t w0 S0 ob0 bf w x L){args:List A}{vals:List Value}
 (hrel:∀ S,Sub S (hp w)->ArgsRel (hp w) S args vals (fun _=>[])) {y:(g args).X} (hy:(g args).val=some y) :
 Calls P f vals.toArray w fun e w'=>∃ v S' o',e=.returned v/\ARel (hp w') S' (fun _=>undef) ((g args).out y).1 v o'/\BSt t w0 S0 ob0 bf w' x L:=by
 have h':=h;obtain⟨S,o,h1,h2,h3,h4,h5,h6,h7,hL⟩:=h';refine ((ct.2 w S args vals _ (hrel S h3) h3 (hg S) y hy)).mono ?_;rintro e w' ⟨v,S',q,ob',rfl,hwf,hSS,hSw,hnew,⟨hr,_⟩,_⟩;refine⟨v,S',q,rfl,hr,?_⟩;have hwf':WF w (fun _=>False) w':=⟨hwf.size,fun k hk _=>hwf.same k hk (by rintro⟨i,hi⟩;cases hi),hwf.tape,hwf.os,hwf.output⟩
 have hlt:∀ k∈o,k<w.heap.size:=fun k hk=>by
  obtain⟨ob,hob⟩:=h5.obj k hk;exact (Array.getElem?_eq_some_iff.1 hob.1).1
 have hnw:∀ k,k<w.heap.size->S' k≠none->S k≠none:=fun k hk hs=>by
  rcases hnew k hs with h|⟨i,hi⟩|h
  . exact h
  . cases hi
  . omega
 refine⟨S',o,h1.trans hwf' (fun _ h=>h.elim),h2.trans hSS,hSw,fun k hk=>?_,?_,h6,fun k hk=>⟨?_,(h7 k hk).2⟩,fun p hp=>?_⟩
 . rcases hnew k hk with h|⟨i,hi⟩|h
   . exact h4 k h
   . cases hi
   . exact .inr (.inr (Nat.le_trans h1.size h))
 . obtain⟨b,cs,E,fr,bs,rfl,e1,e2,e3,e4⟩:=h5;refine⟨b,cs,E,fr,bs,rfl,e1,?_,e3,e4.mono hSS _ _ _ _ (fun k hk=>hwf'.same k (hlt k (by simp[hk])) (fun h=>h))⟩;have:=hwf'.same b (hlt b (by simp)) (fun h=>h);simp only[hp] at e2 ⊢;rw[this];exact e2
 . cases hs:S' k with
   | none=>rfl
   | some q=>exact absurd (h7 k hk).1 (hnw k (hlt k hk) (by rw[hs];simp))
 . obtain⟨p1,p2,p3,p4⟩:=hL p hp;have hl:=(Array.getElem?_eq_some_iff.1 p4).1;refine⟨?_,p2,p3,?_⟩
   . cases hs:S' p.1 with
     | none=>rfl
     | some q=>exact absurd p1 (hnw _ hl (by rw[hs];simp))
   . rw[hwf'.same p.1 hl (fun h=>h)];exact p4
theorem zrp {S:Hp}{v:Value}{o:List Nat}{args:List A}{vals:List Value}(h5:ARel (hp w) S (fun _=>undef) (.box t x) v o)(h6:o.Nodup)(h7:∀ k∈o,S k=none)(hr0:ArgsRel (hp w) S args vals (fun _=>[])) :
 ArgsRel (hp w) S (.box t x::args) (v::vals) (fun i=>if i=0 then o else []):=by
 refine⟨by simp[hr0.len],fun i q hq=>?_,fun i hi=>?_,fun i j b hi hj=>?_,fun i=>?_,fun i b hb=>?_⟩
 . cases i with
   | zero =>
     simp at hq;subst hq;exact⟨⟨_,rfl,by simpa using h5⟩,rfl⟩
   | succ i =>
     obtain⟨⟨v,hv,ha⟩,hrf⟩:=hr0.rel i q (by simpa using hq);exact⟨⟨v,by simpa using hv,by simpa using ha⟩,hrf⟩
 . rw[if_neg (by intro e;subst e;simp at hi)]
 . by_cases hi0:i=0<;>by_cases hj0:j=0<;>simp_all
 . by_cases hi0:i=0<;>simp[hi0,h6]
 . by_cases hi0:i=0
   . rw[if_pos hi0] at hb;exact h7 b hb
   . rw[if_neg hi0] at hb;cases hb
theorem BSt.boxed {f:FuncId}{g:List A->Res}(ct:Contract P glob f g)(hg:∀ S,GlobOk glob S)(h:BSt t w0 S0 ob0 bf w x L){args:List A}{vals:List Value}
 (hrel:∀ S,Sub S (hp w)->ArgsRel (hp w) S args vals (fun _=>[])) {y:(g (.box t x::args)).X} (hy:(g (.box t x::args)).val=some y) {x':t.den} (ho:((g (.box t x::args)).out y).2[0]?=some (.box t x')) :
 Calls P f (.pointer (some ⟨bf,0,none⟩)::vals).toArray w fun e w'=>∃ v S' o',e=.returned v/\ARel (hp w') S' (fun _=>undef) ((g (.box t x::args)).out y).1 v o'/\BSt t w0 S0 ob0 bf w' x' L:=by
 have h':=h;obtain⟨S,o,h1,h2,h3,h4,h5,h6,h7,hL⟩:=h';have har:=zrp h5 h6 (fun k hk=>(h7 k hk).1) (hrel S h3);refine ((ct.2 w S _ _ _ har h3 (hg S) y hy)).mono ?_;rintro e w' ⟨v,S',q,ob',rfl,hwf,hSS,hSw,hnew,⟨hr,_⟩,hq,_,hbox,hob1,hob2,hob3,_⟩;have hin:∀ k,(∃ i,k∈(fun i=>if i=0 then o else []) i)->k∈o:=by
  rintro k ⟨i,hi⟩;by_cases hi0:i=0
  . simpa[hi0] using hi
  . simp[hi0] at hi
 refine⟨v,S',q,rfl,hr,?_⟩;obtain⟨x2,v2,g1,g2,_,g4⟩:=hbox 0 _ rfl rfl;rw[ho] at g1;cases g1;simp at g2;subst g2;refine z1m7 h1 h2 h4 h7 hL ⟨hwf.size,fun k hk hn=>hwf.same k hk (fun hh=>hn (hin k hh)),hwf.tape,hwf.os,hwf.output⟩ hSS hSw (fun k hk=>?_) g4 (hob3 0) (fun k hk=>⟨(hob1 0 k hk).2.1,?_⟩)
 . rcases hnew k hk with h|h|h
   . exact .inl h
   . exact .inr (.inl (hin k h))
   . exact .inr (.inr h)
 . rcases (hob1 0 k hk).1 with h|h
   . exact .inl (hin k h)
   . exact .inr h
theorem BSt.alloc (h:BSt t w0 S0 ob0 bf w x L) (cs:Array Value) (E:Nat):BSt t w0 S0 ob0 bf (w.alloc (.cells cs E)) x ((w.heap.size,cs,E)::L):=by
 have hlt:=h.lt;obtain⟨S,o,h1,h2,h3,h4,h5,h6,h7,hL⟩:=h;have hh:(w.alloc (.cells cs E)).heap=w.heap.push (.cells cs E (0,0)):=rfl;have hk:∀ k,k<w.heap.size->(w.alloc (.cells cs E)).heap[k]?=w.heap[k]?:=fun k hk=>by
  rw[hh,Array.getElem?_push,if_neg (by omega)]
 have hol:∀ k∈o,k<w.heap.size:=fun k hk=>by
  obtain⟨ob,hob⟩:=h5.obj k hk;exact (Array.getElem?_eq_some_iff.1 hob.1).1
 refine⟨S,o,⟨by rw[hh,Array.size_push];have:=h1.size;omega,fun k h1' h2'=>by rw[hk k (by have:=h1.size;omega)];exact h1.same k h1' h2',h1.tape,h1.os,h1.output⟩,h2,fun k q ho=>?_,h4,?_,h6,h7,fun p hpm=>?_⟩
 . have:=h3 k q ho;simp only[hp] at this ⊢;rw[hk k (Array.getElem?_eq_some_iff.1 this).1];exact this
 . obtain⟨b,c1,E',fr,bs,rfl,e1,e2,e3,e4⟩:=h5;refine⟨b,c1,E',fr,bs,rfl,e1,?_,e3,e4.mono (Sub.refl _) _ _ _ _ (fun k hkm=>hk k (hol k (by simp[hkm])))⟩;simp only[hp] at e2 ⊢;rw[hk b (hol b (by simp))];exact e2
 . rcases List.mem_cons.1 hpm with rfl|hpm
   . refine⟨?_,fun hm=>absurd (hol _ hm) (by simp),h1.size,?_⟩
     . cases hs:S w.heap.size with
       | none=>rfl
       | some q =>
         have:=h3 _ _ hs;simp only[hp] at this;have:=(Array.getElem?_eq_some_iff.1 this).1;omega
     . simp only;rw[hh,Array.getElem?_push,if_pos rfl]
   . obtain⟨p1,p2,p3,p4⟩:=hL p hpm;exact⟨p1,p2,p3,by rw[hk p.1 (hlt p hpm)];exact p4⟩
theorem BSt.put {p:Nat}{cs:Array Value}{E:Nat}(h:BSt t w0 S0 ob0 bf w x ((p,cs,E)::L))(hd:∀ q∈L,q.1≠p){w':World}{cs':Array Value}(hw:w'=z1g w p (.cells cs' E (0,0))):BSt t w0 S0 ob0 bf w' x ((p,cs',E)::L):=by
 obtain⟨S,o,h1,h2,h3,h4,h5,h6,h7,hL⟩:=h;obtain⟨q1,q2,q3,q4⟩:=hL (p,cs,E) (List.mem_cons_self ..);simp only at q1 q2 q3 q4;have hne:∀ k,k≠p->w'.heap[k]?=w.heap[k]?:=fun k hk=>by
  have:=zj (w:=w) (o:=.cells cs' E (0,0)) hk;rw[hw];exact this
 have hsz:w'.heap.size=w.heap.size:=by rw[hw];simp[z1g]
 refine⟨S,o,⟨by rw[hsz];exact h1.size,fun k h1' h2'=>by rw[hne k (by omega)];exact h1.same k h1' h2',by rw[hw];exact h1.tape,by rw[hw];exact h1.os,by rw[hw];exact h1.output⟩,h2,fun k q ho=>?_,h4,?_,h6,h7,fun u hu=>?_⟩
 . have hk:k≠p:=fun e=>by rw[e,q1] at ho;cases ho
   have:=h3 k q ho;simp only[hp] at this ⊢;rw[hne k hk];exact this
 . obtain⟨b,c1,E',fr,bs,rfl,e1,e2,e3,e4⟩:=h5;refine⟨b,c1,E',fr,bs,rfl,e1,?_,e3,e4.mono (Sub.refl _) _ _ _ _ (fun k hkm=>hne k (fun e=>q2 (by simp[<- e,hkm])))⟩;simp only[hp] at e2 ⊢;rw[hne b (fun e=>q2 (by simp[<- e]))];exact e2
 . rcases List.mem_cons.1 hu with rfl|hu
   . refine⟨q1,q2,q3,?_⟩;rw[hw];exact z2l q4
   . obtain⟨p1,p2,p3,p4⟩:=hL u (List.mem_cons_of_mem _ hu);exact⟨p1,p2,p3,by rw[hne u.1 (hd u hu)];exact p4⟩
theorem BSt.setCell {p:Nat}{cs:Array Value}{E:Nat}(h:BSt t w0 S0 ob0 bf w x ((p,cs,E)::L))(hd:∀ q∈L,q.1≠p)(i:Nat)(v:Value) :
 BSt t w0 S0 ob0 bf (w.setCell ⟨p,i,none⟩ v) x ((p,cs.setIfInBounds i v,E)::L):=by
 have hb:hp w p=some (.cells cs E (0,0)):=by
  obtain⟨S,o,_,_,_,_,_,_,_,hL⟩:=h;exact (hL _ (List.mem_cons_self ..)).2.2.2
 exact h.put hd (zk8 v hb)
theorem BSt.start {args:List A}{vals:List Value}{ob:Nat->List Nat}(har:ArgsRel (hp w) S0 (.box t x::args) vals ob)(hS:Sub S0 (hp w)) :
 ∃ bf vs,vals=.pointer (some ⟨bf,0,none⟩)::vs/\ob 0≠[]/\BSt t w S0 (ob 0) bf w x []:=by
 obtain⟨⟨v,hv,hr⟩,_⟩:=har.rel 0 _ rfl;have hr':=hr;obtain⟨b,cs,E,fr,bs,hob,rfl,_⟩:=hr';cases vals with
 | nil=>cases hv
 | cons v vs =>
   cases hv;exact⟨b,vs,rfl,by rw[hob];simp,S0,ob 0,WF.refl _ _,Sub.refl _,hS,fun _ h=>.inl h,hr,har.nd 0,fun k hk=>⟨har.hid 0 k hk,.inl hk⟩,fun p hp=>by cases hp⟩
theorem BSt.ends {args outs:List A}{vs:List Value}{ob:Nat->List Nat}{x0:t.den}{r:A}{v:Value}(h:BSt t w0 S0 (ob 0) bf w x L)(hob:∀ i,ob (i+1)=[])(hne:ob 0≠[])(hargs:∀ y∈args,zbc y=false)
 (hr:∀ S',ARel (hp w) S' (fun _=>undef) r v []) (hrr:r.refs=[]):Ends w0 S0 (.box t x0::args) (.pointer (some ⟨bf,0,none⟩)::vs) ob r (.box t x::outs) (.returned v) w:=by
 obtain⟨S,o,h1,h2,h3,h4,h5,h6,h7,hL⟩:=h;have hz:∀ k,(∃ i,k∈ob i)->k∈ob 0:=by
  rintro k ⟨i,hi⟩;cases i with
  | zero=>exact hi
  | succ i=>rw[hob i] at hi;cases hi
 refine⟨v,S,[],fun i=>if i=0 then o else [],rfl,⟨h1.size,fun k hk hn=>h1.same k hk (fun hh=>hn ⟨0,hh⟩),h1.tape,h1.os,h1.output⟩,h2,h3,fun k hk=>?_,⟨hr S,hrr⟩,(fun k hk=>by cases hk),.nil,?_,?_,?_,?_,?_⟩
 . rcases h4 k hk with h|h|h
   . exact .inl h
   . exact .inr (.inl ⟨0,h⟩)
   . exact .inr (.inr h)
 . intro i y hy hbx;cases i with
   | zero=>exact⟨_,_,rfl,rfl,rfl,by simpa using h5⟩
   | succ i =>
     have:=hargs y (List.mem_of_getElem? (by simpa using hy));rw[hbx] at this;cases this
 . intro i k hk;dsimp only at hk;by_cases hi0:i=0
   . rw[if_pos hi0] at hk;obtain⟨g1,g2⟩:=h7 k hk;refine⟨?_,g1,by simp⟩;rcases g2 with h|h
     . exact .inl ⟨0,h⟩
     . exact .inr h
   . rw[if_neg hi0] at hk;cases hk
 . intro i j k hi hj;by_cases hi0:i=0<;>by_cases hj0:j=0<;>simp_all
 . intro i;by_cases hi0:i=0<;>simp[hi0,h6]
 . intro i hi;by_cases hi0:i=0
   . subst hi0;exact absurd hi hne
   . dsimp only;rw[if_neg hi0]
end
end Go.Lift
set_option linter.all false
set_option maxRecDepth 100000
namespace Go.Lift
noncomputable section
structure NSt (w0:World) (S0:Hp) (w:World) (S:Hp) (L:List (Nat×Array Value×Nat)):Prop where
 wf:WF w0 (fun _=>False) w
 sub:Sub S0 S
 inw:Sub S (hp w)
 new:∀ k,S k≠none->S0 k≠none\/w0.heap.size<=k
 own:∀ p∈L,S p.1=none/\w0.heap.size<=p.1/\w.heap[p.1]?=some (.cells p.2.1 p.2.2 (0,0))
variable {P:Program} {glob:Nat->Option Dat} {w0 w:World} {S0 S:Hp} {L:List (Nat×Array Value×Nat)}
theorem NSt.start (hS:Sub S0 (hp w)):NSt w S0 w S0 []:=⟨WF.refl _ _,Sub.refl _,hS,fun _ h=>.inl h,fun p hp=>by cases hp⟩
theorem NSt.lt (h:NSt w0 S0 w S L):∀ p∈L,p.1<w.heap.size:=fun p hp=>(Array.getElem?_eq_some_iff.1 (h.own p hp).2.2).1
theorem NSt.drew (h:NSt w0 S0 w S L):NSt w0 S0 w.drew S L:=⟨⟨h.wf.size,h.wf.same,h.wf.tape,h.wf.os,h.wf.output⟩,h.sub,h.inw,h.new,h.own⟩
theorem NSt.swap {L':List (Nat×Array Value×Nat)}(h:NSt w0 S0 w S L)(hm:∀ p∈L',p∈L):NSt w0 S0 w S L':=⟨h.wf,h.sub,h.inw,h.new,fun p hp=>h.own p (hm p hp)⟩
theorem NSt.cell (h:NSt w0 S0 w S L){p:Nat}{cs:Array Value}{E i:Nat}{v:Value}(hm:(p,cs,E)∈L)(hi:cs[i]?=some v):w.cell? ⟨p,i,none⟩=some v:=by
 have:=(h.own _ hm).2.2;simp only at this;simp[World.cell?,this,hi]
theorem NSt.free (h:NSt w0 S0 w S L){p:Nat}{cs:Array Value}{E i:Nat}(hm:(p,cs,E)∈L):w.frozen? ⟨p,i,none⟩=false:=by
 have:=(h.own _ hm).2.2;simp only at this;simp[World.frozen?,this]
theorem NSt.alloc (h:NSt w0 S0 w S L) (cs:Array Value) (E:Nat):NSt w0 S0 (w.alloc (.cells cs E)) S ((w.heap.size,cs,E)::L):=by
 have hlt:=h.lt;have hh:(w.alloc (.cells cs E)).heap=w.heap.push (.cells cs E (0,0)):=rfl;have hk:∀ k,k<w.heap.size->(w.alloc (.cells cs E)).heap[k]?=w.heap[k]?:=fun k hk=>by
  rw[hh,Array.getElem?_push,if_neg (by omega)]
 refine⟨⟨by rw[hh,Array.size_push];have:=h.wf.size;omega,fun k h1' h2'=>by rw[hk k (by have:=h.wf.size;omega)];exact h.wf.same k h1' h2',h.wf.tape,h.wf.os,h.wf.output⟩,h.sub,fun k q ho=>?_,h.new,fun p hpm=>?_⟩
 . have:=h.inw k q ho;simp only[hp] at this ⊢;rw[hk k (Array.getElem?_eq_some_iff.1 this).1];exact this
 . rcases List.mem_cons.1 hpm with rfl|hpm
   . refine⟨?_,h.wf.size,?_⟩
     . cases hs:S w.heap.size with
       | none=>rfl
       | some q =>
         have:=h.inw _ _ hs;simp only[hp] at this;have:=(Array.getElem?_eq_some_iff.1 this).1;omega
     . simp only;rw[hh,Array.getElem?_push,if_pos rfl]
   . obtain⟨p1,p3,p4⟩:=h.own p hpm;exact⟨p1,p3,by rw[hk p.1 (hlt p hpm)];exact p4⟩
theorem NSt.set {p:Nat}{cs:Array Value}{E:Nat}(h:NSt w0 S0 w S ((p,cs,E)::L))(hd:∀ q∈L,q.1≠p)(i:Nat)(v:Value) :
 NSt w0 S0 (w.setCell ⟨p,i,none⟩ v) S ((p,cs.setIfInBounds i v,E)::L):=by
 obtain⟨q1,q3,q4⟩:=h.own (p,cs,E) (List.mem_cons_self ..);simp only at q1 q3 q4;have hw:=zk8 (off:=i) v (show hp w p=some (.cells cs E (0,0)) from q4);obtain⟨w',hw'⟩:∃ w',w'=w.setCell ⟨p,i,none⟩ v:=⟨_,rfl⟩
 rw[<- hw'] at hw ⊢;have hne:∀ k,k≠p->w'.heap[k]?=w.heap[k]?:=fun k hk=>by
  have:=zj (w:=w) (o:=.cells (cs.setIfInBounds i v) E (0,0)) hk;rw[hw];exact this
 have hsz:w'.heap.size=w.heap.size:=by rw[hw];simp[z1g]
 refine⟨⟨by rw[hsz];exact h.wf.size,fun k h1' h2'=>by rw[hne k (by omega)];exact h.wf.same k h1' h2',by rw[hw];exact h.wf.tape,by rw[hw];exact h.wf.os,by rw[hw];exact h.wf.output⟩,h.sub,fun k q ho=>?_,h.new,fun u hu=>?_⟩
 . have hk:k≠p:=fun e=>by rw[e,q1] at ho;cases ho
   have:=h.inw k q ho;simp only[hp] at this ⊢;rw[hne k hk];exact this
 . rcases List.mem_cons.1 hu with rfl|hu
   . refine⟨q1,q3,?_⟩;rw[hw];exact z2l q4
   . obtain⟨p1,p3,p4⟩:=h.own u (List.mem_cons_of_mem _ hu);exact⟨p1,p3,by rw[hne u.1 (hd u hu)];exact p4⟩
theorem NSt.plain {f:FuncId}{g:List A->Res}(ct:Contract P glob f g)(hg:GlobOk glob S)(h:NSt w0 S0 w S L){args:List A}{vals:List Value}
 (hrel:ArgsRel (hp w) S args vals (fun _=>[])) {y:(g args).X} (hy:(g args).val=some y) :
 Calls P f vals.toArray w fun e w'=>∃ v S' o',e=.returned v/\ARel (hp w') S' (fun _=>undef) ((g args).out y).1 v o'/\Sub S S'/\NSt w0 S0 w' S' L:=by
 refine ((ct.2 w S args vals _ hrel h.inw hg y hy)).mono ?_;rintro e w' ⟨v,S',q,ob',rfl,hwf,hSS,hSw,hnew,⟨hr,_⟩,_⟩;refine⟨v,S',q,rfl,hr,hSS,?_⟩;have hwf':WF w (fun _=>False) w':=⟨hwf.size,fun k hk _=>hwf.same k hk (by rintro⟨i,hi⟩;cases hi),hwf.tape,hwf.os,hwf.output⟩
 have hnw:∀ k,k<w.heap.size->S' k≠none->S k≠none:=fun k hk hs=>by
  rcases hnew k hs with h|⟨i,hi⟩|h
  . exact h
  . cases hi
  . omega
 refine⟨h.wf.trans hwf' (fun _ h=>h.elim),h.sub.trans hSS,hSw,fun k hk=>?_,fun p hp=>?_⟩
 . rcases hnew k hk with h'|⟨i,hi⟩|h'
   . exact h.new k h'
   . cases hi
   . exact .inr (Nat.le_trans h.wf.size h')
 . obtain⟨p1,p3,p4⟩:=h.own p hp;have hl:=(Array.getElem?_eq_some_iff.1 p4).1;refine⟨?_,p3,?_⟩
   . cases hs:S' p.1 with
     | none=>rfl
     | some q=>exact absurd p1 (hnw _ hl (by rw[hs];simp))
   . rw[hwf'.same p.1 hl (fun h=>h)];exact p4
theorem NSt.ends {args outs:List A}{vals:List Value}{ob:Nat->List Nat}{r:A}{v:Value}(h:NSt w0 S0 w S L)(hob:∀ i,ob i=[])(hargs:∀ y∈args,zbc y=false)
 (hr:ARel (hp w) S (fun _=>undef) r v []) (hrr:r.refs=[]):Ends w0 S0 args vals ob r outs (.returned v) w:=by
 refine⟨v,S,[],fun _=>[],rfl,⟨h.wf.size,fun k hk _=>h.wf.same k hk (fun h=>h),h.wf.tape,h.wf.os,h.wf.output⟩,h.sub,h.inw,fun k hk=>?_,⟨hr,hrr⟩,(fun k hk=>by cases hk),.nil,fun i y hy hbx=>?_,(fun i k hk=>by cases hk),(fun i j k hi=>by cases hi),fun i=>.nil,fun i hi=>rfl⟩
 . rcases h.new k hk with h|h
   . exact .inl h
   . exact .inr (.inr h)
 . have:=hargs y (List.mem_of_getElem? hy);rw[hbx] at this;cases this
end
end Go.Lift
