import Derived.Test.YtjbcpimnlgogiaaDoorLgW
import Derived.Test.YtjbcpimnlgogiaaDoorChecked
import Derived.Shelf.Strings.Search1
import Derived.KernelRfl
import Derived.Test.YtjbcpimnlgogiaaDoorLgOr
set_option linter.all false
namespace Go.Proofs.YtjbcpimnlgogiaaDoorLg
noncomputable section
open Go Go.Lift Go.Proofs Go.Shelf
def zva:Go.Shelf.Ren:=⟨fun|217=>76|266=>80|n=>n,fun|9=>9|5=>5|3=>3|n=>n,fun|n=>n⟩
theorem z1ae:Lays.n217 Tryd.prog zva where
 mixed:=by kernel_rfl
 f217:=Tryd.func76.trans (congrArg some (by kernel_rfl))
 f266:=Tryd.func80.trans (congrArg some (by kernel_rfl))
 t3:=Tryd.underlying3
 a3:=Tryd.isAgg3
 z3:=Tryd.sizeOf3
 v3:=Tryd.zeroValue3
 t5:=Tryd.underlying5
 a5:=Tryd.isAgg5
 z5:=Tryd.sizeOf5
 v5:=Tryd.zeroValue5
 t9:=Tryd.underlying9
 a9:=Tryd.isAgg9
 z9:=Tryd.sizeOf9
 v9:=Tryd.zeroValue9
def z1ha (x:z16 [(0,.v .str),(0,.v (.int .u8))]):Option Int:=some (Lib.indexByte x.1 x.2.1.toNat.toUInt8)
def z128:List A->Res:=z12 [(0,.v .str),(0,.v (.int .u8))] z1ha (z7r (.v (.int .i64)) 2)
theorem z1h9 (glob:Nat->Option Dat):Contract Tryd.prog glob 76 z128:=by
 refine Contract.hand ⟨_,Tryd.func76,by kernel_rfl,by decide⟩ ?_;intro w S vals ob x y har hS hg hy;obtain⟨s,c,u⟩:=x;cases u;unfold z1ha at hy;dsimp only at hy s c;cases hy;obtain⟨⟨v0,hv0,hA0,ho0⟩,_⟩:=har.rel 0 _ rfl;obtain⟨⟨v1,hv1,hA1,ho1⟩,_⟩:=har.rel 1 _ rfl;have hlen:=har.len;obtain⟨u0,u1,rfl⟩:∃ u0 u1,vals=[u0,u1]:=by
  have:vals.length=2:=by simpa[mkS,zcm] using hlen.symm
  match vals,this with
  | [a,b],_=>exact⟨a,b,rfl⟩
 simp at hv0 hv1;subst hv0;subst hv1;have e0:=hA0.str_inv;subst e0;have e1:=hA1.int_inv;subst e1;have hnone:∀ i,ob i=[]:=by
  intro i
  match i with
  | 0=>exact ho0
  | 1=>exact ho1
  | i+2=>exact har.out _ (by simp[mkS,zcm])
 refine (Any.stringslite_IndexByte z1ae ⟨⟨s⟩⟩ c w).mono ?_;rintro e w' ⟨rfl,rfl⟩;refine⟨_,S,[],ob,rfl,WF.refl _ _,Lift.Sub.refl _,hS,fun k hk=>.inl hk,⟨⟨VR.int,rfl⟩,rfl⟩,(fun k hk=>by cases hk),.nil,?_,?_,har.inj,har.nd,fun i hi=>hi⟩
 . intro i z hz hbx
   match i with
   | 0=>simp[mkS,zcm,AS.mk] at hz;subst hz;cases hbx
   | 1=>simp[mkS,zcm,AS.mk] at hz;subst hz;cases hbx
   | i+2=>simp[mkS,zcm] at hz
 . intro i k hk;rw[hnone i] at hk;cases hk
end
end Go.Proofs.YtjbcpimnlgogiaaDoorLg
set_option linter.all false
set_option maxRecDepth 100000
namespace Go.Proofs.YtjbcpimnlgogiaaDoorLg
noncomputable section
open Go Go.Lift
abbrev DT0:Type:=((List Int)×((List Int)×((List (List Int))×((List (List Int))×((Option (List ((List Int)×Int)))×((List (List Int))×((Int×((List Bool)×((List Int)×((List (List Int))×Unit))))×Unit)))))))
abbrev TT1:T:=(.pair (.int .i64) (.pair (.int .i64) .unit))
abbrev TT2:T:=(.pair (.arr 8 (.int .u64)) (.pair (.arr 8 (.int .u64)) (.pair (.sl (.arr 8 (.int .u64))) (.pair (.sl (.arr 8 (.int .u64))) (.pair (.mp (.arr 8 (.int .u64)) (.int .i64)) (.pair (.own (.arr 8 (.int .u64))) (.pair (.pair (.int .i64) (.pair (.own .bool) (.pair (.sl (.int .i64)) (.pair (.own (.sl (.int .i64))) .unit)))) .unit)))))))
abbrev TT3:T:=(.pair (.int .i64) (.pair (.arr 4 (.int .u64)) (.pair (.sl .nod) TT1)))
abbrev DT4:Type:=((List UInt8)×(Int×(Int×Unit)))
abbrev DT5:Type:=(Int×((List Int)×((List Tree)×(Int×(Int×Unit)))))
abbrev DT6:Type:=((Bool×((List Int)×((List Int)×Unit)))×(((List (List Int))×((List (List Int))×Unit))×Unit))
abbrev TT7:T:=(.pair .bool (.pair (.sl (.int .i64)) (.pair (.sl (.int .i64)) .unit)))
abbrev TT8:T:=(.pair (.sl (.arr 4 (.int .u64))) (.pair .bool (.pair (.sl (.int .i64)) (.pair (.sl (.int .i64)) (.pair (.sl (.sl (.int .i64))) .unit)))))
abbrev TT9:T:=(.pair (.arr 8 (.int .u64)) (.pair (.arr 8 (.int .u64)) (.pair (.own (.arr 8 (.int .u64))) (.pair (.own (.arr 8 (.int .u64))) (.pair (.mp (.arr 8 (.int .u64)) (.int .i64)) (.pair (.own (.arr 8 (.int .u64))) (.pair (.pair (.int .i64) (.pair (.own .bool) (.pair (.sl (.int .i64)) (.pair (.own (.sl (.int .i64))) .unit)))) .unit)))))))
abbrev z8q:Type:=((List (List Int))×(Bool×((List Int)×((List Int)×((List (List Int))×Unit)))))
abbrev zea:T:=(.pair (.own (.arr 4 (.int .u64))) (.pair (.own (.sl (.int .i64))) .unit))
abbrev z4a:Type:=((List (List Int))×((List (List Int))×Unit))
abbrev zud:T:=(.pair (.int .i64) (.pair (.sl .bool) (.pair (.sl (.int .i64)) (.pair (.sl (.sl (.int .i64))) .unit))))
abbrev z49:Type:=(Bool×((List Int)×((List Int)×Unit)))
abbrev zug:Type:=(Int×((List Bool)×((List Int)×((List (List Int))×Unit))))
abbrev znk:Type:=(((List Int)×Bool×Unit)×(DT4×Unit))
abbrev zfe:Type:=((List Int)×(DT4×Unit))
abbrev zyp:Type:=(Int×((List Int)×((List Tree)×(Int×(Int×Unit)))))
abbrev zeb:Type:=(Bool×(DT0×Unit))
abbrev z101:List Nat:=[1,0,0,0,0,1,1]
abbrev z102:List Nat:=[0,0,0,0,0,1,1]
abbrev z103:List Nat:=[0,1,0,0,1,0,1]
abbrev zww:List Nat:=[52,51,50,0,6,4]
abbrev zwx:List Nat:=[70,69,68,9,0,4]
abbrev zwy:List Nat:=[1,1,1,1,1,1,1]
abbrev zwz:List Nat:=[7,5,0,6,9,8,4]
abbrev zx0:List Nat:=[21,20,19,0,3,5]
abbrev zue:List Nat:=[1,0,1,0,1,1,1]
abbrev zuf:List Nat:=[37,36,35,4,3,1]
abbrev z159:List Nat:=[1,0,1,1,1,1,1]
abbrev z13p:List Nat:=[0,1,0,1,1,1,1]
abbrev z13d:List Nat:=[0,0,0,1,0,1,1]
abbrev z100:List Nat:=[0,1,1,1,1,1,1]
abbrev zwv:List Nat:=[0,0,1,0,1,1,1]
abbrev zq4:List Nat:=[0,0,1,1,1,1,1]
abbrev z13i:List Nat:=[1,0,0,0,1,1,1,1]
abbrev z104:List Nat:=[0,0,0,0,1,1,1,1]
abbrev z105:List Nat:=[0,1,0,1,1,1,1,1]
abbrev z106:List Nat:=[1,1,0,0,0,0,1,1]
abbrev z107:List Nat:=[0,0,1,0,1,1,1,1]
abbrev z108:List Nat:=[1,1,1,0,0,1,0,1]
abbrev z109:List Nat:=[0,1,1,0,0,1,0,1]
abbrev z10a:List Nat:=[1,0,1,0,0,1,0,1]
abbrev zx1:List Nat:=[79,78,77,0,9,7,4]
abbrev zx2:List Nat:=[0,1,1,0,1,0,1,1]
abbrev zx3:List Nat:=[0,0,0,1,0,1,1,1]
abbrev z16d:List Nat:=[1,1,1,1,1,1,1,1]
abbrev z10h:List Nat:=[0,1,0,0,1,0,1,1]
abbrev z10i:List Nat:=[0,1,1,1,1,1,1,1]
abbrev z13j:List Nat:=[0,1,0,1,1,1,1,1,1]
abbrev z13k:List Nat:=[1,0,0,0,0,1,1,1,1]
abbrev z13l:List Nat:=[0,0,0,0,0,1,1,1,1]
abbrev z1bg:List Nat:=[0,1,0,0,1,0,1,1,1]
abbrev z13e:List Nat:=[1,1,1,0,0,1,0,1,1]
abbrev z13f:List Nat:=[0,1,1,0,0,1,0,1,1]
abbrev z13g:List Nat:=[1,0,1,0,0,1,0,1,1]
abbrev zpn:List (Nat×AS):=[(0,.v (.sl (.int .i64)))]
abbrev zzz:List (Nat×AS):=[(0,.v zud),(0,.v .str)]
abbrev z13o:List (Nat×AS):=[(0,.v .str),(0,.v .str)]
abbrev SQ0:List (Nat×AS):=[(0,.box (.pair .str TT1))]
abbrev z13c:List (Nat×AS):=[(0,.box zea),(0,.v TT3)]
abbrev z15a:List Nat:=[1,0,0,1,1,0,0,1,0,1]
abbrev z13m:List Nat:=[1,1,0,0,0,0,1,1,1,1]
abbrev z10b:List Nat:=[1,1,1,0,0,1,0,1,1,1]
abbrev z10c:List Nat:=[0,1,1,0,0,1,0,1,1,1]
abbrev z10d:List Nat:=[0,0,0,1,1,0,0,1,0,1]
abbrev z1bh:List Nat:=[38,37,36,5,8,29,28,27]
abbrev z1bi:List Nat:=[1,0,1,0,0,1,0,1,1,1]
abbrev zwu:List (Nat×AS):=[(0,.v (.arr 4 (.int .u64)))]
abbrev z15b:List Nat:=[1,0,1,0,0,1,0,1,1,1,1]
abbrev z1cc:List Nat:=[1,0,0,1,1,0,0,1,0,1,1]
abbrev z1bj:List Nat:=[47,46,45,3,37,36,35,4,1]
abbrev z13h:List Nat:=[0,0,0,1,1,0,0,1,0,1,1]
abbrev z16e:List Nat:=[50,49,48,6,7,8,3,44,43,1]
abbrev z15c:List Nat:=[1,1,0,0,1,1,0,0,1,0,1,1]
abbrev z1cd:List Nat:=[0,0,0,1,1,0,0,1,0,1,1,1]
abbrev z167:List (Nat×AS):=[(1,.box TT3),(1,.v (.int .i64))]
abbrev z13q:List Nat:=[0,1,0,0,1,1,0,0,1,0,1,1]
abbrev z168:List (Nat×AS):=[(1,.box zud),(1,.v (.int .i64))]
abbrev z1o9:List Nat:=[0,0,1,0,0,1,1,0,0,1,0,1,1]
abbrev z1ce:List Nat:=[0,1,1,1,1,1,1,1,1,0,1,1,1]
abbrev z1cf:List Nat:=[0,1,0,0,1,1,0,0,1,0,1,1,1]
abbrev z1bk:List Nat:=[0,1,0,1,0,1,1,1,1,1,0,1,0,1]
abbrev z15d:List Nat:=[0,0,1,0,0,1,1,0,0,1,0,1,1,1]
abbrev z1cg:List Nat:=[0,1,1,0,0,1,1,0,0,1,0,1,1,1]
abbrev z16f:List Nat:=[0,0,0,0,0,0,0,0,1,0,1,1,1,1]
abbrev zzy:List (Nat×AS):=[(0,.v (.int .i64)),(0,.v (.int .i64))]
abbrev z169:List (Nat×AS):=[(0,.box (.pair .str TT1)),(1,.box TT3)]
abbrev z1bl:List Nat:=[0,0,1,1,0,0,1,1,0,0,1,0,1,1,1]
abbrev z157:List (Nat×AS):=[(0,.box TT2),(0,.v (.arr 8 (.int .u64)))]
abbrev z1bm:List Nat:=[0,1,1,1,0,0,1,1,0,0,1,0,1,1,1,1]
abbrev z1c2:List (Nat×AS):=[(0,.v (.sl (.int .i64))),(0,.v (.int .i64))]
abbrev SQ6:List (Nat×AS):=[(0,.box (.pair .str TT1)),(0,.v (.int .u8))]
abbrev z1c3:List (Nat×AS):=[(0,.box (.pair .str TT1)),(0,.v (.int .i64))]
abbrev z16a:List (Nat×AS):=[(0,.box (.pair .str TT1)),(2,.v (.int .i64))]
abbrev z1c4:List (Nat×AS):=[(0,.v (.arr 4 (.int .u64))),(0,.v (.int .u8))]
abbrev z1bn:List Nat:=[0,1,0,1,1,0,0,1,1,0,0,1,0,1,1,1,1]
abbrev z1bc:List (Nat×AS):=[(1,.box (.arr 4 (.int .u64))),(1,.v (.int .i64))]
abbrev z1bd:List (Nat×AS):=[(0,.v (.sl (.int .i64))),(0,.v (.sl (.int .i64)))]
abbrev z1be:List (Nat×AS):=[(0,.v (.sl (.arr 4 (.int .u64)))),(0,.v (.int .i64))]
abbrev z1c5:List (Nat×AS):=[(0,.box (.pair .str TT1)),(1,.box TT3),(1,.box TT3)]
abbrev SQ3:List (Nat×AS):=[(0,.box (.pair .str TT1)),(1,.box TT3),(0,.row TT3)]
abbrev z1bf:List (Nat×AS):=[(0,.v (.arr 4 (.int .u64))),(0,.v (.arr 4 (.int .u64)))]
abbrev z1c6:List (Nat×AS):=[(0,.v (.arr 8 (.int .u64))),(0,.v (.arr 8 (.int .u64)))]
abbrev SQ97:List (Nat×AS):=[(0,.box zea),(2,.box TT3),(0,.box TT7),(1,.row TT7)]
abbrev SQ96:List (Nat×AS):=[(0,.box zea),(3,.box TT7),(0,.box TT7),(0,.box TT7)]
abbrev SQ90:List (Nat×AS):=[(0,.v (.sl (.int .i64))),(0,.v (.sl (.arr 4 (.int .u64))))]
abbrev z16b:List (Nat×AS):=[(0,.box (.pair .str TT1)),(1,.box TT3),(0,.v (.int .u8))]
abbrev PQ57:List Nat:=[0,1,0,0,1,1,0,0,1,1,1,0,0,1,1,0,0,1,0,1,1,1,1]
abbrev SQ8:List (Nat×AS):=[(0,.box (.pair .str TT1)),(0,.v (.int .i64)),(3,.v (.int .u8))]
abbrev SQ77:List (Nat×AS):=[(0,.box zea),(0,.v (.sl (.int .i64))),(0,.v (.sl (.int .i64)))]
abbrev SQ54:List (Nat×AS):=[(0,.box (.pair .str TT1)),(1,.v (.int .i64)),(0,.v (.int .i64))]
abbrev SQ1:List (Nat×AS):=[(0,.box (.pair .str TT1)),(2,.v (.int .i64)),(0,.v (.int .i64))]
abbrev SQ43:List (Nat×AS):=[(0,.box (.pair .str TT1)),(1,.box (.arr 4 (.int .u64))),(0,.v .bool)]
abbrev z1o5:List (Nat×AS):=[(0,.box zea),(2,.box TT3),(0,.box TT7),(1,.row TT7),(0,.box TT7)]
abbrev z1o6:List (Nat×AS):=[(0,.box zea),(3,.box TT7),(0,.box TT7),(0,.box TT7),(0,.box TT7)]
abbrev SQ7:List (Nat×AS):=[(0,.v (.sl (.int .i64))),(0,.v (.sl (.int .i64))),(3,.row (.int .i64))]
abbrev z16c:List (Nat×AS):=[(0,.box (.pair .str TT1)),(1,.box (.arr 4 (.int .u64))),(1,.v (.int .u8))]
abbrev z1o7:List (Nat×AS):=[(0,.box (.pair .str TT1)),(2,.v (.int .i64)),(0,.v (.int .i64)),(70,.v .bool)]
abbrev SQ99:List (Nat×AS):=[(0,.v (.sl (.int .i64))),(0,.v (.int .i64)),(5,.v (.int .i64)),(0,.v (.int .i64))]
abbrev SQ98:List (Nat×AS):=[(3,.v (.int .i64)),(11,.v (.sl (.int .i64))),(0,.v (.int .i64)),(0,.v (.int .i64))]
abbrev SQ5:List (Nat×AS):=[(0,.box (.pair .str TT1)),(1,.v (.int .i64)),(0,.v (.int .i64)),(0,.v (.int .i64))]
abbrev SQ95:List (Nat×AS):=[(0,.box (.pair .str TT1)),(1,.box (.arr 4 (.int .u64))),(0,.box (.arr 4 (.int .u64)))]
abbrev SQ94:List (Nat×AS):=[(1,.v .str),(0,.box zud),(2,.v (.int .i64)),(7,.v (.int .i64)),(0,.v (.int .i64))]
abbrev SQ93:List (Nat×AS):=[(0,.box TT2),(38,.v (.sl (.arr 8 (.int .u64)))),(0,.v (.int .i64)),(0,.v (.int .i64))]
abbrev z1c7:List (Nat×AS):=[(0,.box (.pair .str TT1)),(1,.box TT3),(0,.box TT3),(0,.box TT3),(24,.v (.int .u8))]
abbrev SQ89:List (Nat×AS):=[(0,.box (.pair .str TT1)),(1,.box (.arr 4 (.int .u64))),(1,.v (.int .u8)),(9,.v .bool)]
abbrev SQ87:List (Nat×AS):=[(0,.box zea),(2,.box TT3),(0,.box TT7),(1,.row TT7),(0,.box TT7),(0,.v (.int .i64))]
abbrev SQ85:List (Nat×AS):=[(1,.box TT3),(1,.v (.int .i64)),(6,.v (.sl .nod)),(0,.v (.int .i64)),(0,.v (.int .i64))]
abbrev SQ27:List (Nat×AS):=[(0,.v (.sl (.int .i64))),(0,.v (.sl (.int .i64))),(3,.row (.int .i64)),(0,.v (.int .i64))]
abbrev SQ83:List (Nat×AS):=[(1,.box TT8),(1,.box TT9),(2,.v (.sl (.int .i64))),(36,.v (.int .i64)),(0,.v (.int .i64))]
abbrev z1c8:List (Nat×AS):=[(0,.box (.pair .str TT1)),(1,.box (.arr 4 (.int .u64))),(1,.v (.int .u8)),(2,.v (.int .u8))]
abbrev z1c9:List (Nat×AS):=[(0,.box (.pair .str TT1)),(1,.box (.arr 4 (.int .u64))),(1,.v (.int .i64)),(0,.v (.int .u8))]
abbrev SQ79:List (Nat×AS):=[(1,.box TT8),(2,.v (.int .i64)),(2,.v (.sl (.int .i64))),(0,.v (.int .i64)),(0,.v (.int .i64))]
abbrev SQ78:List (Nat×AS):=[(1,.v (.int .u8)),(2,.box (.arr 4 (.int .u64))),(0,.box (.arr 4 (.int .u64))),(0,.v (.int .i64))]
abbrev SQ76:List (Nat×AS):=[(1,.box TT8),(1,.box TT9),(17,.v (.sl (.sl (.int .i64)))),(0,.v (.int .i64)),(0,.v (.int .i64))]
abbrev z1ca:List (Nat×AS):=[(0,.box (.pair .str TT1)),(1,.box (.arr 4 (.int .u64))),(0,.v .bool),(0,.box (.arr 4 (.int .u64)))]
abbrev SQ4:List (Nat×AS):=[(0,.box (.pair .str TT1)),(1,.box (.arr 4 (.int .u64))),(0,.box (.arr 4 (.int .u64))),(0,.v .bool)]
abbrev SQ74:List (Nat×AS):=[(0,.box (.pair .str TT1)),(1,.box (.arr 4 (.int .u64))),(0,.box (.arr 4 (.int .u64))),(13,.v .bool)]
abbrev SQ73:List (Nat×AS):=[(0,.box zea),(3,.box TT7),(4,.box TT7),(58,.v (.sl .nod)),(0,.v (.int .i64)),(0,.v (.int .i64))]
abbrev SQ72:List (Nat×AS):=[(0,.box zea),(3,.box TT7),(1,.box TT7),(43,.v (.sl .nod)),(0,.v (.int .i64)),(0,.v (.int .i64))]
abbrev SQ9:List (Nat×AS):=[(3,.v (.int .i64)),(1,.v (.int .i64)),(9,.v (.sl (.int .i64))),(0,.v (.int .i64)),(0,.v (.int .i64))]
abbrev SQ71:List (Nat×AS):=[(0,.box zea),(1,.v (.sl (.int .i64))),(5,.v (.sl (.int .i64))),(0,.v (.int .i64)),(0,.v (.int .i64))]
abbrev SQ70:List (Nat×AS):=[(0,.v (.int .i64)),(3,.box TT3),(0,.row TT3),(2,.v (.sl .nod)),(0,.v (.int .i64)),(0,.v (.int .i64))]
abbrev SQ65:List (Nat×AS):=[(2,.box (.arr 4 (.int .u64))),(0,.box (.arr 4 (.int .u64))),(0,.box (.arr 4 (.int .u64))),(1,.v (.int .i64))]
abbrev SQ20:List (Nat×AS):=[(2,.box (.arr 8 (.int .u64))),(0,.box (.arr 8 (.int .u64))),(0,.box (.arr 8 (.int .u64))),(1,.v (.int .i64))]
abbrev SQ64:List (Nat×AS):=[(0,.v .str),(1,.box (.arr 4 (.int .u64))),(0,.box (.arr 4 (.int .u64))),(2,.v (.int .i64)),(0,.v (.int .i64))]
abbrev SQ63:List (Nat×AS):=[(0,.box zea),(3,.box TT7),(2,.box TT7),(1,.box TT7),(67,.v (.sl TT7)),(0,.v (.int .i64)),(0,.v (.int .i64))]
abbrev SQ62:List (Nat×AS):=[(0,.box (.pair .str TT1)),(1,.box (.arr 4 (.int .u64))),(0,.box (.arr 4 (.int .u64))),(2,.box (.arr 4 (.int .u64)))]
abbrev z1cb:List (Nat×AS):=[(1,.box TT8),(2,.v (.int .i64)),(1,.v (.int .i64)),(0,.v (.sl (.int .i64))),(0,.v (.int .i64)),(0,.v (.int .i64))]
abbrev SQ29:List (Nat×AS):=[(0,.box TT2),(3,.box (.arr 8 (.int .u64))),(0,.box (.arr 8 (.int .u64))),(2,.v (.arr 8 (.int .u64))),(0,.v (.int .i64))]
abbrev SQ60:List (Nat×AS):=[(2,.box (.arr 8 (.int .u64))),(0,.box (.arr 8 (.int .u64))),(2,.v (.sl (.int .i64))),(0,.v (.int .i64)),(0,.v (.int .i64))]
abbrev SQ26:List (Nat×AS):=[(1,.box zud),(1,.v (.int .i64)),(0,.v (.int .i64)),(30,.v (.sl (.sl (.int .i64)))),(0,.v (.int .i64)),(0,.v (.int .i64))]
abbrev SQ58:List (Nat×AS):=[(1,.v (.sl (.arr 4 (.int .u64)))),(3,.row (.arr 5 (.int .u64))),(7,.v (.sl (.int .i64))),(0,.v (.int .i64)),(0,.v (.int .i64))]
abbrev SQ44:List (Nat×AS):=[(0,.box TT2),(2,.box (.arr 8 (.int .u64))),(1,.row (.int .i64)),(13,.v (.sl (.arr 8 (.int .u64)))),(0,.v (.int .i64)),(0,.v (.int .i64))]
abbrev SQ2:List (Nat×AS):=[(0,.box (.pair .str TT1)),(1,.box (.arr 4 (.int .u64))),(0,.box (.arr 4 (.int .u64))),(0,.v .bool),(0,.v (.int .i64)),(0,.box (.arr 4 (.int .u64)))]
abbrev SQ39:List (Nat×AS):=[(0,.box (.pair .str TT1)),(1,.box (.arr 4 (.int .u64))),(0,.box (.arr 4 (.int .u64))),(1,.v (.int .i64)),(0,.box (.arr 4 (.int .u64))),(28,.v .bool)]
abbrev SQ36:List (Nat×AS):=[(0,.box TT2),(3,.box (.arr 8 (.int .u64))),(0,.box (.arr 8 (.int .u64))),(0,.v (.int .i64)),(0,.v (.int .u64)),(0,.v (.arr 8 (.int .u64))),(0,.v (.int .i64))]
abbrev SQ24:List (Nat×AS):=[(1,.box zud),(1,.v (.int .i64)),(0,.v (.int .i64)),(30,.v (.sl (.sl (.int .i64)))),(0,.v (.int .i64)),(0,.v (.int .i64)),(7,.v (.sl (.int .i64))),(0,.v (.int .i64)),(0,.v (.int .i64))]
abbrev SQ22:List (Nat×AS):=[(1,.box TT8),(1,.box TT9),(2,.v (.sl (.int .i64))),(0,.v (.int .i64)),(0,.row (.int .i64)),(34,.v (.int .i64)),(0,.v (.int .i64)),(3,.v (.sl (.arr 4 (.int .u64)))),(0,.v (.int .i64)),(0,.v (.int .i64))]
abbrev SQ11:List (Nat×AS):=[(1,.box zud),(1,.v (.int .i64)),(0,.v (.int .i64)),(3,.v (.int .i64)),(26,.v (.sl (.sl (.int .i64)))),(0,.v (.int .i64)),(0,.v (.int .i64)),(7,.v (.sl (.int .i64))),(0,.v (.int .i64)),(0,.v (.int .i64))]
def ty3:TyI:=⟨(Go.TypeDesc.int IntKind.i64),1,8,(.int .i64),0,false⟩
theorem z1cy:TyOk Tryd.prog 3 ty3:=TyOk.of (by kernel_rfl) (by kernel_rfl) (by kernel_rfl) (by kernel_rfl)
def ty4:TyI:=⟨Go.TypeDesc.bool,1,1,.bool,false,false⟩
theorem z1cx:TyOk Tryd.prog 4 ty4:=TyOk.of (by kernel_rfl) (by kernel_rfl) (by kernel_rfl) (by kernel_rfl)
def ty5:TyI:=⟨(Go.TypeDesc.int IntKind.u8),1,1,(.int .u8),0,false⟩
theorem z1cw:TyOk Tryd.prog 5 ty5:=TyOk.of (by kernel_rfl) (by kernel_rfl) (by kernel_rfl) (by kernel_rfl)
def ty9:TyI:=⟨Go.TypeDesc.string,1,16,.str,[],false⟩
theorem z1cv:TyOk Tryd.prog 9 ty9:=TyOk.of (by kernel_rfl) (by kernel_rfl) (by kernel_rfl) (by kernel_rfl)
def ty23:TyI:=⟨(Go.TypeDesc.slice 4),1,24,(.sl .bool),[],false⟩
theorem z17k:TyOk Tryd.prog 23 ty23:=TyOk.of (by kernel_rfl) (by kernel_rfl) (by kernel_rfl) (by kernel_rfl)
def ty24:TyI:=⟨(Go.TypeDesc.slice 3),1,24,(.sl (.int .i64)),[],false⟩
theorem z17j:TyOk Tryd.prog 24 ty24:=TyOk.of (by kernel_rfl) (by kernel_rfl) (by kernel_rfl) (by kernel_rfl)
def ty25:TyI:=⟨(Go.TypeDesc.slice 24),1,24,(.sl (.sl (.int .i64))),[],false⟩
theorem z17i:TyOk Tryd.prog 25 ty25:=TyOk.of (by kernel_rfl) (by kernel_rfl) (by kernel_rfl) (by kernel_rfl)
def ty27 : TyI := ⟨(Go.TypeDesc.struct (List.toArray ([(Go.Field.mk "Start" 3 0 false "" "" 0), (Go.Field.mk "Final" 23 1 false "" "" 8), (Go.Field.mk "Block" 24 2 false "" "" 32), (Go.Field.mk "Next" 25 3 false "" "" 56)] : List Go.Field))), 4, 80, zud, ((0 : Int), ([] : List Bool), ([] : List Int), ([] : List (List Int)), ()), true⟩
theorem z17h:TyOk Tryd.prog 27 ty27:=TyOk.of (by kernel_rfl) (by kernel_rfl) (by kernel_rfl) (by kernel_rfl)
def ty28:TyI:=⟨(Go.TypeDesc.int IntKind.i64),1,8,(.int .i64),0,false⟩
theorem z17g:TyOk Tryd.prog 28 ty28:=TyOk.of (by kernel_rfl) (by kernel_rfl) (by kernel_rfl) (by kernel_rfl)
def ty34:TyI:=⟨(Go.TypeDesc.int IntKind.u64),1,8,(.int .u64),0,false⟩
theorem z17f:TyOk Tryd.prog 34 ty34:=TyOk.of (by kernel_rfl) (by kernel_rfl) (by kernel_rfl) (by kernel_rfl)
def ty36:TyI:=⟨(Go.TypeDesc.array 4 34),4,32,(.arr 4 (.int .u64)),([0,0,0,0]:List Int),true⟩
theorem z17e:TyOk Tryd.prog 36 ty36:=TyOk.of (by kernel_rfl) (by kernel_rfl) (by kernel_rfl) (by kernel_rfl)
def ty37:TyI:=⟨(Go.TypeDesc.slice 39),1,24,(.sl .nod),[],false⟩
theorem z17d:TyOk Tryd.prog 37 ty37:=TyOk.of (by kernel_rfl) (by kernel_rfl) (by kernel_rfl) (by kernel_rfl)
def ty39 : TyI := ⟨(Go.TypeDesc.struct (List.toArray ([(Go.Field.mk "Kind" 3 0 false "" "" 0), (Go.Field.mk "Set" 36 1 false "" "" 8), (Go.Field.mk "Kids" 37 5 false "" "" 40), (Go.Field.mk "Min" 3 6 false "" "" 64), (Go.Field.mk "Max" 3 7 false "" "" 72)] : List Go.Field))), 8, 80, TT3, ((0 : Int), ([(0 : Int), (0 : Int), (0 : Int), (0 : Int)] : List Int), ([] : List Tree), (0 : Int), (0 : Int), ()), true⟩
theorem z17c:TyOk Tryd.prog 39 ty39:=TyOk.of (by kernel_rfl) (by kernel_rfl) (by kernel_rfl) (by kernel_rfl)
def ty41 : TyI := ⟨(Go.TypeDesc.struct (List.toArray ([(Go.Field.mk "E" 28 0 false "" "" 0), (Go.Field.mk "At" 3 1 false "" "" 8)] : List Go.Field))), 2, 16, TT1, ((0 : Int), (0 : Int), ()), true⟩
theorem z17b:TyOk Tryd.prog 41 ty41:=TyOk.of (by kernel_rfl) (by kernel_rfl) (by kernel_rfl) (by kernel_rfl)
def ty44:TyI:=⟨(Go.TypeDesc.slice 36),1,24,(.sl (.arr 4 (.int .u64))),[],false⟩
theorem z17a:TyOk Tryd.prog 44 ty44:=TyOk.of (by kernel_rfl) (by kernel_rfl) (by kernel_rfl) (by kernel_rfl)
def ty46 : TyI := ⟨(Go.TypeDesc.struct (List.toArray ([(Go.Field.mk "Sets" 44 0 false "" "" 0), (Go.Field.mk "None" 4 1 false "" "" 24), (Go.Field.mk "First" 24 2 false "" "" 32), (Go.Field.mk "Last" 24 3 false "" "" 56), (Go.Field.mk "Next" 25 4 false "" "" 80)] : List Go.Field))), 5, 104, TT8, (([] : List (List Int)), false, ([] : List Int), ([] : List Int), ([] : List (List Int)), ()), true⟩
theorem z179:TyOk Tryd.prog 46 ty46:=TyOk.of (by kernel_rfl) (by kernel_rfl) (by kernel_rfl) (by kernel_rfl)
def ty56:TyI:=⟨(Go.TypeDesc.pointer 58),1,8,.opq,(Go.Value.pointer none),false⟩
theorem z178:TyOk Tryd.prog 56 ty56:=TyOk.of (by kernel_rfl) (by kernel_rfl) (by kernel_rfl) (by kernel_rfl)
def ty58 : TyI := ⟨(Go.TypeDesc.struct (List.toArray ([(Go.Field.mk "s" 9 0 false "" "porter/regex" 0), (Go.Field.mk "at" 3 1 false "" "porter/regex" 16), (Go.Field.mk "open" 3 2 false "" "porter/regex" 24)] : List Go.Field))), 3, 32, (.pair .str TT1), (([] : List UInt8), (0 : Int), (0 : Int), ()), true⟩
theorem z177:TyOk Tryd.prog 58 ty58:=TyOk.of (by kernel_rfl) (by kernel_rfl) (by kernel_rfl) (by kernel_rfl)
def ty63:TyI:=⟨(Go.TypeDesc.pointer 65),1,8,.opq,(Go.Value.pointer none),false⟩
theorem z176:TyOk Tryd.prog 63 ty63:=TyOk.of (by kernel_rfl) (by kernel_rfl) (by kernel_rfl) (by kernel_rfl)
def ty65 : TyI := ⟨(Go.TypeDesc.struct (List.toArray ([(Go.Field.mk "sets" 44 0 false "" "porter/spots" 0), (Go.Field.mk "next" 25 1 false "" "porter/spots" 24)] : List Go.Field))), 2, 48, (.pair (.sl (.arr 4 (.int .u64))) (.pair (.sl (.sl (.int .i64))) .unit)), (([] : List (List Int)), ([] : List (List Int)), ()), true⟩
theorem z175:TyOk Tryd.prog 65 ty65:=TyOk.of (by kernel_rfl) (by kernel_rfl) (by kernel_rfl) (by kernel_rfl)
def ty67 : TyI := ⟨(Go.TypeDesc.struct (List.toArray ([(Go.Field.mk "none" 4 0 false "" "porter/spots" 0), (Go.Field.mk "first" 24 1 false "" "porter/spots" 8), (Go.Field.mk "last" 24 2 false "" "porter/spots" 32)] : List Go.Field))), 3, 56, TT7, (false, ([] : List Int), ([] : List Int), ()), true⟩
theorem z174:TyOk Tryd.prog 67 ty67:=TyOk.of (by kernel_rfl) (by kernel_rfl) (by kernel_rfl) (by kernel_rfl)
def ty70:TyI:=⟨(Go.TypeDesc.pointer 77),1,8,.opq,(Go.Value.pointer none),false⟩
theorem z173:TyOk Tryd.prog 70 ty70:=TyOk.of (by kernel_rfl) (by kernel_rfl) (by kernel_rfl) (by kernel_rfl)
def ty73:TyI:=⟨(Go.TypeDesc.array 8 34),8,64,(.arr 8 (.int .u64)),([0,0,0,0,0,0,0,0]:List Int),true⟩
theorem z172:TyOk Tryd.prog 73 ty73:=TyOk.of (by kernel_rfl) (by kernel_rfl) (by kernel_rfl) (by kernel_rfl)
def ty74:TyI:=⟨(Go.TypeDesc.slice 73),1,24,(.sl (.arr 8 (.int .u64))),[],false⟩
theorem z171:TyOk Tryd.prog 74 ty74:=TyOk.of (by kernel_rfl) (by kernel_rfl) (by kernel_rfl) (by kernel_rfl)
def ty75:TyI:=⟨(Go.TypeDesc.map 73 3),1,8,.opq,(Go.Value.map none),false⟩
theorem z170:TyOk Tryd.prog 75 ty75:=TyOk.of (by kernel_rfl) (by kernel_rfl) (by kernel_rfl) (by kernel_rfl)
def ty77 : TyI := ⟨(Go.TypeDesc.struct (List.toArray ([(Go.Field.mk "first" 73 0 false "" "porter/dfa" 0), (Go.Field.mk "last" 73 8 false "" "porter/dfa" 64), (Go.Field.mk "next" 74 16 false "" "porter/dfa" 128), (Go.Field.mk "readers" 74 17 false "" "porter/dfa" 152), (Go.Field.mk "numbers" 75 18 false "" "porter/dfa" 176), (Go.Field.mk "waiting" 74 19 false "" "porter/dfa" 184), (Go.Field.mk "d" 27 20 false "" "porter/dfa" 208)] : List Go.Field))), 24, 288, (.pair (.arr 8 (.int .u64)) (.pair (.arr 8 (.int .u64)) (.pair (.sl (.arr 8 (.int .u64))) (.pair (.sl (.arr 8 (.int .u64))) (.pair .opq (.pair (.sl (.arr 8 (.int .u64))) (.pair zud .unit))))))), (([(0 : Int), (0 : Int), (0 : Int), (0 : Int), (0 : Int), (0 : Int), (0 : Int), (0 : Int)] : List Int), ([(0 : Int), (0 : Int), (0 : Int), (0 : Int), (0 : Int), (0 : Int), (0 : Int), (0 : Int)] : List Int), ([] : List (List Int)), ([] : List (List Int)), (Go.Value.map none), ([] : List (List Int)), ((0 : Int), ([] : List Bool), ([] : List Int), ([] : List (List Int)), ()), ()), true⟩
theorem z16z:TyOk Tryd.prog 77 ty77:=TyOk.of (by kernel_rfl) (by kernel_rfl) (by kernel_rfl) (by kernel_rfl)
def ty80:TyI:=⟨(Go.TypeDesc.func (List.toArray ([92]:List Nat)) (List.toArray []) false),1,8,.opq,Go.Value.nilFunc,false⟩
theorem z16y:TyOk Tryd.prog 80 ty80:=TyOk.of (by kernel_rfl) (by kernel_rfl) (by kernel_rfl) (by kernel_rfl)
def ty92:TyI:=⟨(Go.TypeDesc.func (List.toArray ([44]:List Nat)) (List.toArray ([4]:List Nat)) false),1,8,.opq,Go.Value.nilFunc,false⟩
theorem z16x:TyOk Tryd.prog 92 ty92:=TyOk.of (by kernel_rfl) (by kernel_rfl) (by kernel_rfl) (by kernel_rfl)
def ty93:TyI:=⟨(Go.TypeDesc.slice 95),1,24,(.sl (.arr 5 (.int .u64))),[],false⟩
theorem z16w:TyOk Tryd.prog 93 ty93:=TyOk.of (by kernel_rfl) (by kernel_rfl) (by kernel_rfl) (by kernel_rfl)
def ty95:TyI:=⟨(Go.TypeDesc.array 5 34),5,40,(.arr 5 (.int .u64)),([0,0,0,0,0]:List Int),true⟩
theorem z16v:TyOk Tryd.prog 95 ty95:=TyOk.of (by kernel_rfl) (by kernel_rfl) (by kernel_rfl) (by kernel_rfl)
def ty96:TyI:=⟨(Go.TypeDesc.slice 5),1,24,(.sl (.int .u8)),[],false⟩
theorem z16u:TyOk Tryd.prog 96 ty96:=TyOk.of (by kernel_rfl) (by kernel_rfl) (by kernel_rfl) (by kernel_rfl)
def z1d2:TyI:=⟨(Go.TypeDesc.slice 67),1,24,(.sl TT7),[],false⟩
theorem z13x:TyOk Tryd.prog 103 z1d2:=TyOk.of (by kernel_rfl) (by kernel_rfl) (by kernel_rfl) (by kernel_rfl)
def z1d1:TyI:=⟨(Go.TypeDesc.map 95 3),1,8,.opq,(Go.Value.map none),false⟩
theorem z13w:TyOk Tryd.prog 108 z1d1:=TyOk.of (by kernel_rfl) (by kernel_rfl) (by kernel_rfl) (by kernel_rfl)
def z1d0:TyI:=⟨(Go.TypeDesc.array 64 5),64,64,(.arr 64 (.int .u8)),(0::0::0::0::0::0::0::0::0::0::0::0::0::0::0::0::0::0::0::0::0::0::0::0::0::0::0::0::0::0::0::0::0::0::0::0::0::0::0::0::0::0::0::0::0::0::0::0::0::0::0::0::0::0::0::0::0::0::0::0::0::0::0::0::[]),true⟩
theorem z13v:TyOk Tryd.prog 112 z1d0:=TyOk.of (by kernel_rfl) (by kernel_rfl) (by kernel_rfl) (by kernel_rfl)
def z1cz:TyI:=⟨(Go.TypeDesc.int IntKind.u64),1,8,(.int .u64),0,false⟩
theorem z13u:TyOk Tryd.prog 113 z1cz:=TyOk.of (by kernel_rfl) (by kernel_rfl) (by kernel_rfl) (by kernel_rfl)
def tys:List (Nat×TyI):=[(3,ty3),(4,ty4),(5,ty5),(9,ty9),(23,ty23),(24,ty24),(25,ty25),(27,ty27),(28,ty28),(34,ty34),(36,ty36),(37,ty37),(39,ty39),(41,ty41),(44,ty44),(46,ty46),(56,ty56),(58,ty58),(63,ty63),(65,ty65),(67,ty67),(70,ty70),(73,ty73),(74,ty74),(75,ty75),(77,ty77),(80,ty80),(92,ty92),(93,ty93),(95,ty95),(96,ty96),(103,z1d2),(108,z1d1),(112,z1d0),(113,z1cz)]
theorem zr:TysOk Tryd.prog tys:=TysOk.cons z1cy (TysOk.cons z1cx (TysOk.cons z1cw (TysOk.cons z1cv (TysOk.cons z17k (TysOk.cons z17j (TysOk.cons z17i (TysOk.cons z17h (TysOk.cons z17g (TysOk.cons z17f (TysOk.cons z17e (TysOk.cons z17d (TysOk.cons z17c (TysOk.cons z17b (TysOk.cons z17a (TysOk.cons z179 (TysOk.cons z178 (TysOk.cons z177 (TysOk.cons z176 (TysOk.cons z175 (TysOk.cons z174 (TysOk.cons z173 (TysOk.cons z172 (TysOk.cons z171 (TysOk.cons z170 (TysOk.cons z16z (TysOk.cons z16y (TysOk.cons z16x (TysOk.cons z16w (TysOk.cons z16v (TysOk.cons z16u (TysOk.cons z13x (TysOk.cons z13w (TysOk.cons z13v (TysOk.cons z13u (TysOk.nil)))))))))))))))))))))))))))))))))))
theorem mixed:Tryd.prog.follows .mixedOrders=true:=by kernel_rfl
def glob0:List Int:=[0,1,56,2,57,49,28,3,61,58,42,50,38,29,17,4,62,47,59,36,45,43,51,22,53,39,33,30,24,18,12,5,63,55,48,27,60,41,37,16,46,35,44,21,52,32,23,11,54,26,40,15,34,20,31,10,25,14,19,9,13,8,7,6]
def glob:Nat->Option Dat:=lk [(0,⟨(.arr 64 (.int .u8)),glob0⟩)]
def z135:Code:=(Tryd.f54.body).getD .skip
def L_0:List (List Nat×List Nat):=[([0],[2,3,4]),([0,0,1],[6,2,3,4]),([0,1,0,1],[6,2,3,4]),([0,0,0,1,0,1],[7,6,2,3,4]),(z103,[6,2,3,4]),(z10a,[2,4]),(z10d,[5,2,3,6,4]),(z15a,[6,2,3,4]),(z109,[6,2,3,4]),(z108,[6,2,3,4]),([1,0,1],[2,4]),([0,1,1],[4]),([1,1,1],[4])]
def E_0 (N:Nat):Env:=z1m tys glob [] [] [] [] false [] []
theorem Eok_0 (N:Nat):EnvOk Tryd.prog (E_0 N):=zi mixed zr (FnsOk.nil) (ItsOk.nil)
def ze0 (N:Nat)(o:(List Int))(x4:(List Int))(s:(List Int))(x6:Int)(rec:(List Int)->Int->Option (List Int))(k0:(List Int)->Option (List Int)):Option (List Int):=cond (decide (x6<8)) (cond (inR x6 8) (cond (decide ((Int.toNat x6)<(List.length s))) (cond (inR x6 8) (cond (decide ((Int.toNat x6)<(List.length o))) (cond (inR x6 8) (cond (decide ((Int.toNat x6)<(List.length s))) (rec (List.set s (Int.toNat x6) (zd Go.BinOp.and IntKind.u64 (List.getD s (Int.toNat x6) 0) (List.getD o (Int.toNat x6) 0))) (IntKind.wrap IntKind.i64 (x6+1))) none) none) none) none) none) none) (k0 s)
def zlp (N:Nat)(s:(List Int))(o:(List Int))(x4:(List Int))(x6:Int)(k0:(List Int)->Option (List Int)):Option (List Int):=iter (fun (v:((List Int)×Int)) r=>ze0 N o x4 v.1 v.2 (fun s x6=>(r (s,x6))) k0) N (s,x6)
def g1_0 (N:Nat)(i:((List Int)×(List Int)))(v:((List Int)×Int))(r:((List Int)×Int)->Option (List Int))(K:Ex->List A->Option (List Int)):Option (List Int):=ze0 N i.1 i.2 v.1 v.2 (fun s x6=>(r (s,x6))) (fun a0=>(K (.exit 0) (mkS [(2,.box (.arr 8 (.int .u64))),(1,.box (.arr 8 (.int .u64)))] 14 (a0,i.2,()))))
def h1_0 (N:Nat):Hd (List Int):=fun st K=>(unS SQ20 12 (restr [6,2,3,4] 0 st)).bind fun x=>iter (fun v r=>g1_0 N ((fun x=>(x.2.1,x.2.2.1)) x) v r K) N ((fun x=>(x.1,x.2.2.2.1)) x)
def t1_0 (N:Nat):Tab (List Int):=[]
theorem ok1_0 {N:Nat}{c:Ctx}(hb:Base Tryd.prog (E_0 N) c):zk Tryd.prog c (zh z135 [0,1,0,1]) (h1_0 N) :=
 z1e (s:=SQ20) (m:=12) (g1_0 N) [6,2,3,4] N (fun x=>(x.2.1,x.2.2.1)) (fun x=>(x.1,x.2.2.2.1)) (fun i v=>(v.1,i.1,i.2,v.2,())) (fun _=>rfl) (zg hb N (t1_0 N) L_0 z135 TabOk.nil [0,0,1,0,1] _ rfl) (fun i v r K=>by kernel_rfl)
def z9i (N:Nat)(s:(List Int))(o:(List Int)):Option (List Int):=zlp N s o ([0,0,0,0,0,0,0,0]:List Int) 0 (fun s1=>some s1)
def t_0 (N:Nat):Tab (List Int):=[([0,1,0,1],h1_0 N)]
theorem z1h7 (N:Nat)(x:z16 z1c6):z52 (E_0 N) N (t_0 N) L_0 Tryd.f54 (mkS z1c6 0 x) (z3j (.v (.arr 8 (.int .u64))) 2)=z9i N x.1 x.2.1:=by kernel_rfl
def z8d (N:Nat):List A->Res:=z12 z1c6 (fun x=>z9i N x.1 x.2.1) (z7r (.v (.arr 8 (.int .u64))) 2)
theorem ze1 (N:Nat):Contract Tryd.prog glob 54 (z8d N) :=
 Contract.of (E:=E_0 N) (H:=t_0 N) (L:=L_0) (N:=N) (body:=z135) (K:=(z3j (.v (.arr 8 (.int .u64))) 2)) (Eok_0 N) Tryd.func54 (by kernel_rfl) (by decide) (fun _ hb=>(TabOk.cons (ok1_0 hb) TabOk.nil)) (fun x y h=>by rw[z1h7];exact h) (z1a (s:=(.v (.arr 8 (.int .u64)))) (m:=2))
def z1o1:Code:=(Tryd.f53.body).getD .skip
def L_1:List (List Nat×List Nat):=[([0],[0,3]),([0,1],[7,6,0,3]),([0,0,1,1],[17,6,0,3]),([1,0,1,1],[0,3]),([0,0,1,0,1,1],[4,5,0]),([1,0,1,0,1,1],[4,5,0]),([0,1,1,1],[6,0,3]),([0,0,1,1,1,1],[26,0,3,6]),([1,0,1,1,1,1],[0,3,6]),(z107,[4,5,0]),([1,0,1,0,1,1,1,1],[4,5,0]),([0,1,1,1,1,1],[0,3,6]),(z100,[0,3,6]),(z10i,[6,0]),([0,1,1,1,1,1,1,1,1],[4,5,0]),([1,1,1,1,1,1,1,1,1],[4,5,0])]
def E_1 (N:Nat):Env:=z1m tys glob [(54,z8d N)] [] [] [0] false [] []
theorem Eok_1 (N:Nat):EnvOk Tryd.prog (E_1 N):=zi mixed zr (FnsOk.cons (ze1 N) (FnsOk.nil)) (ItsOk.nil)
def z8f (N:Nat)(b:DT0)(s:(List Int)):Option ((Int×Bool×Unit)×(DT0×Unit)):=cond (Option.isSome (z5j (eqD (T.arr 8 (T.int IntKind.u64))) s (Option.getD b.2.2.2.2.1 ([]:List ((List Int)×Int))))) (some (((Option.getD (z5j (eqD (T.arr 8 (T.int IntKind.u64))) s (Option.getD b.2.2.2.2.1 ([]:List ((List Int)×Int)))) 0),(true,())),(b,()))) (cond ((List.length b.2.2.2.2.2.2.1.2.1:Int) == 4096) (some ((0,(false,())),(b,()))) (cond (Option.isSome b.2.2.2.2.1) (cond (decide ((((List.length b.2.2.2.2.2.1)+1)*64)<=70368744177664)) ((z9i N s b.2.1).bind fun y=>cond (decide ((((List.length b.2.2.2.2.2.2.1.2.1)+1)*1)<=70368744177664)) (some (((List.length b.2.2.2.2.2.2.1.2.1:Int),(true,())),((b.1,(b.2.1,(b.2.2.1,(b.2.2.2.1,((Option.some (zrg (eqD (T.arr 8 (T.int IntKind.u64))) s (List.length b.2.2.2.2.2.2.1.2.1:Int) (Option.getD b.2.2.2.2.1 ([]:List ((List Int)×Int))))),((b.2.2.2.2.2.1++([s]:List (List Int))),((b.2.2.2.2.2.2.1.1,((b.2.2.2.2.2.2.1.2.1++([(!(eqD (T.arr 8 (T.int IntKind.u64)) y ([0,0,0,0,0,0,0,0]:List Int)))]:List Bool)),b.2.2.2.2.2.2.1.2.2)),b.2.2.2.2.2.2.2))))))),()))) none) none) none))
def t_1 (N:Nat):Tab ((Int×Bool×Unit)×(DT0×Unit)):=[]
theorem z1h6 (N:Nat)(x:z16 z157):z52 (E_1 N) N (t_1 N) L_1 Tryd.f53 (mkS z157 0 x) (z37 (.tup [(.int .i64),.bool]) [(0,.box TT2)] 1)=z8f N x.1 x.2.1:=by kernel_rfl
def z8z (N:Nat):List A->Res:=z12 z157 (fun x=>z8f N x.1 x.2.1) (z3t (.tup [(.int .i64),.bool]) [(0,.box TT2)] 1)
theorem zgy (N:Nat):Contract Tryd.prog glob 53 (z8z N) :=
 Contract.of (E:=E_1 N) (H:=t_1 N) (L:=L_1) (N:=N) (body:=z1o1) (K:=(z37 (.tup [(.int .i64),.bool]) [(0,.box TT2)] 1)) (Eok_1 N) Tryd.func53 (by kernel_rfl) (by decide) (fun _ hb=>TabOk.nil) (fun x y h=>by rw[z1h6];exact h) (z2f (s:=(.tup [(.int .i64),.bool])) (os:=[(0,.box TT2)]) (m:=1))
def z134:Code:=(Tryd.f42.body).getD .skip
def L_2:List (List Nat×List Nat):=[([0],[0,3]),([0,1],[0,3,5]),([0,0,1,1],zx0),([0,1,0,1,1],zx0),(z13d,[22,21,19,0,3,5,20]),(z10h,[21,19,0,3,5,20]),(z13g,[0,5]),(z13h,[0,3,7,5,6,21,20,19]),(z13q,[9,0,5,6,8,21,20,19,3]),([0,0,1,1,0,0,1,1,0,0,1,0,1,1],[35,0,5,6,8,21,20,19,3]),([1,0,1,1,0,0,1,1,0,0,1,0,1,1],[5,6,8,21,20,19,0,3]),([0,0,1,0,1,1,0,0,1,1,0,0,1,0,1,1],[4,0]),([1,0,1,0,1,1,0,0,1,1,0,0,1,0,1,1],[4,0]),([1,1,1,0,0,1,1,0,0,1,0,1,1],zx0),(z13f,zx0),(z13e,zx0),([1,0,1,1],[0,5]),([0,1,1,1],[0]),([0,1,1,1,1],[4,0]),([1,1,1,1,1],[4,0])]
def E_2 (N:Nat):Env:=z1m tys glob [(53,z8z N),(54,z8d N)] [(5,(.int .i64))] [] [0] false [] []
theorem Eok_2 (N:Nat):EnvOk Tryd.prog (E_2 N):=zi mixed zr (FnsOk.cons (zgy N) (FnsOk.cons (ze1 N) (FnsOk.nil))) (ItsOk.nil)
def zd1 (N:Nat)(after:(List Int))(x19:(List (List Int)))(x20:Int)(b:DT0)(row:(List Int))(x21:Int)(rec:DT0->(List Int)->Int->Option zeb)(k0:DT0->Bool->Option zeb)(k1:DT0->(List Int)->Option zeb):Option zeb:=cond (decide (x21<x20)) (cond (inR x21 (List.length x19)) ((z9i N after (List.getD x19 (Int.toNat x21) [])).bind fun y=>(z8f N b y).bind fun y1=>cond (!y1.1.2.1) (k0 y1.2.1 false) (cond (inR x21 (List.length row)) (cond (decide ((Int.toNat x21)<(List.length row))) (rec y1.2.1 (List.set row (Int.toNat x21) y1.1.1) (IntKind.wrap IntKind.i64 (x21+1))) none) none)) none) (k1 b row)
def zkk (N:Nat)(b:DT0)(after:(List Int))(row:(List Int))(x19:(List (List Int)))(x20:Int)(x21:Int)(k0:DT0->Bool->Option zeb)(k1:DT0->(List Int)->Option zeb):Option zeb:=iter (fun (v:(DT0×(List Int)×Int)) r=>zd1 N after x19 x20 v.1 v.2.1 v.2.2 (fun b row x21=>(r (b,row,x21))) k0 k1) N (b,row,x21)
def g1_2 (N:Nat)(i:((List Int)×(List (List Int))×Int))(v:(DT0×(List Int)×Int))(r:(DT0×(List Int)×Int)->Option zeb)(K:Ex->List A->Option zeb):Option zeb:=zd1 N i.1 i.2.1 i.2.2 v.1 v.2.1 v.2.2 (fun b row x21=>(r (b,row,x21))) (fun a0 a1=>(K .ret (mkS [(0,.box TT2),(3,.v .bool)] 48 (a0,a1,())))) (fun a0 a1=>(K (.exit 0) (mkS [(0,.box TT2),(4,.row (.int .i64))] 47 (a0,a1,()))))
def h1_2 (N:Nat):Hd zeb:=fun st K=>(unS SQ44 31 (restr zx0 0 st)).bind fun x=>iter (fun v r=>g1_2 N ((fun x=>(x.2.1,x.2.2.2.1,x.2.2.2.2.1)) x) v r K) N ((fun x=>(x.1,x.2.2.1,x.2.2.2.2.2.1)) x)
def t1_2 (N:Nat):Tab zeb:=[]
theorem ok1_2 {N:Nat}{c:Ctx}(hb:Base Tryd.prog (E_2 N) c):zk Tryd.prog c (zh z134 [0,1,0,1,1]) (h1_2 N) :=
 z1e (s:=SQ44) (m:=31) (g1_2 N) zx0 N (fun x=>(x.2.1,x.2.2.2.1,x.2.2.2.2.1)) (fun x=>(x.1,x.2.2.1,x.2.2.2.2.2.1)) (fun i v=>(v.1,i.1,v.2.1,i.2.1,i.2.2,v.2.2,())) (fun _=>rfl) (zg hb N (t1_2 N) L_2 z134 TabOk.nil [0,0,1,0,1,1] _ rfl) (fun i v r K=>by kernel_rfl)
def z8e (N:Nat)(b:DT0)(after:(List Int)):Option zeb:=cond (decide ((0<=(List.length b.2.2.2.1:Int))/\(((List.length b.2.2.2.1:Int)<=(List.length b.2.2.2.1:Int))/\((((List.length b.2.2.2.1:Int)*8)<=281474976710656)/\((List.length b.2.2.2.1:Int)<=9223372036854775807))))) (zkk N b after (List.replicate (Int.toNat (List.length b.2.2.2.1:Int)) 0) b.2.2.2.1 (List.length b.2.2.2.1:Int) 0 (fun b1 x4=>some (x4,(b1,()))) (fun b2 row=>cond (decide ((((List.length b2.2.2.2.2.2.2.1.2.2.2.1)+1)*24)<=70368744177664)) (some (true,((b2.1,(b2.2.1,(b2.2.2.1,(b2.2.2.2.1,(b2.2.2.2.2.1,(b2.2.2.2.2.2.1,((b2.2.2.2.2.2.2.1.1,(b2.2.2.2.2.2.2.1.2.1,(b2.2.2.2.2.2.2.1.2.2.1,((b2.2.2.2.2.2.2.1.2.2.2.1++([row]:List (List Int))),b2.2.2.2.2.2.2.1.2.2.2.2)))),b2.2.2.2.2.2.2.2))))))),()))) none)) none
def t_2 (N:Nat):Tab zeb:=[([0,1,0,1,1],h1_2 N)]
theorem z1h5 (N:Nat)(x:z16 z157):z52 (E_2 N) N (t_2 N) L_2 Tryd.f42 (mkS z157 0 x) (z37 (.v .bool) [(0,.box TT2)] 1)=z8e N x.1 x.2.1:=by kernel_rfl
def zc6 (N:Nat):List A->Res:=z12 z157 (fun x=>z8e N x.1 x.2.1) (z3t (.v .bool) [(0,.box TT2)] 1)
theorem zkl (N:Nat):Contract Tryd.prog glob 42 (zc6 N) :=
 Contract.of (E:=E_2 N) (H:=t_2 N) (L:=L_2) (N:=N) (body:=z134) (K:=(z37 (.v .bool) [(0,.box TT2)] 1)) (Eok_2 N) Tryd.func42 (by kernel_rfl) (by decide) (fun _ hb=>(TabOk.cons (ok1_2 hb) TabOk.nil)) (fun x y h=>by rw[z1h5];exact h) (z2f (s:=(.v .bool)) (os:=[(0,.box TT2)]) (m:=1))
def z1o0:Code:=(Tryd.f56.body).getD .skip
def L_3:List (List Nat×List Nat):=[([0],[0]),([0,0,1],[4,0]),([1,0,1],[0]),([0,0,1,0,1],[2]),([1,0,1,0,1],[2]),([0,1,1],[2]),([1,1,1],[2])]
def E_3 (N:Nat):Env:=z1m tys glob [] [] [] [] false [] []
theorem Eok_3 (N:Nat):EnvOk Tryd.prog (E_3 N):=zi mixed zr (FnsOk.nil) (ItsOk.nil)
def z2v (N:Nat)(x0:Int):Option Int:=cond (x0 == 0) (some 64) (cond (inR (z1y IntKind.u64 (IntKind.wrap IntKind.u64 (285870213051353865*(zd Go.BinOp.and IntKind.u64 x0 (IntKind.wrap IntKind.u64 (0 - x0))))) 58) 64) (some (IntKind.wrap IntKind.i64 (List.getD glob0 (Int.toNat (z1y IntKind.u64 (IntKind.wrap IntKind.u64 (285870213051353865*(zd Go.BinOp.and IntKind.u64 x0 (IntKind.wrap IntKind.u64 (0 - x0))))) 58)) 0))) none)
def t_3 (N:Nat):Tab Int:=[]
theorem z1h4 (N:Nat)(x:z16 [(0,.v (.int .u64))]):z52 (E_3 N) N (t_3 N) L_3 Tryd.f56 (mkS [(0,.v (.int .u64))] 0 x) (z3j (.v (.int .i64)) 1)=z2v N x.1:=by kernel_rfl
def z36 (N:Nat):List A->Res:=z12 [(0,.v (.int .u64))] (fun x=>z2v N x.1) (z7r (.v (.int .i64)) 1)
theorem z5h (N:Nat):Contract Tryd.prog glob 56 (z36 N) :=
 Contract.of (E:=E_3 N) (H:=t_3 N) (L:=L_3) (N:=N) (body:=z1o0) (K:=(z3j (.v (.int .i64)) 1)) (Eok_3 N) Tryd.func56 (by kernel_rfl) (by decide) (fun _ hb=>TabOk.nil) (fun x y h=>by rw[z1h4];exact h) (z1a (s:=(.v (.int .i64))) (m:=1))
def z133:Code:=(Tryd.f55.body).getD .skip
def L_4:List (List Nat×List Nat):=[([0],[2,3,4]),([0,0,1],[6,2,3,4]),([0,1,0,1],[6,2,3,4]),([0,0,0,1,0,1],[7,6,2,3,4]),(z103,[6,2,3,4]),(z10a,[2,4]),(z10d,[5,2,3,6,4]),(z15a,[6,2,3,4]),(z109,[6,2,3,4]),(z108,[6,2,3,4]),([1,0,1],[2,4]),([0,1,1],[4]),([1,1,1],[4])]
def E_4 (N:Nat):Env:=z1m tys glob [] [] [] [] false [] []
theorem Eok_4 (N:Nat):EnvOk Tryd.prog (E_4 N):=zi mixed zr (FnsOk.nil) (ItsOk.nil)
def zfp (N:Nat)(o:(List Int))(x4:(List Int))(s:(List Int))(x6:Int)(rec:(List Int)->Int->Option (List Int))(k0:(List Int)->Option (List Int)):Option (List Int):=cond (decide (x6<8)) (cond (inR x6 8) (cond (decide ((Int.toNat x6)<(List.length s))) (cond (inR x6 8) (cond (decide ((Int.toNat x6)<(List.length o))) (cond (inR x6 8) (cond (decide ((Int.toNat x6)<(List.length s))) (rec (List.set s (Int.toNat x6) (zd Go.BinOp.or IntKind.u64 (List.getD s (Int.toNat x6) 0) (List.getD o (Int.toNat x6) 0))) (IntKind.wrap IntKind.i64 (x6+1))) none) none) none) none) none) none) (k0 s)
def zmy (N:Nat)(s:(List Int))(o:(List Int))(x4:(List Int))(x6:Int)(k0:(List Int)->Option (List Int)):Option (List Int):=iter (fun (v:((List Int)×Int)) r=>zfp N o x4 v.1 v.2 (fun s x6=>(r (s,x6))) k0) N (s,x6)
def g1_4 (N:Nat)(i:((List Int)×(List Int)))(v:((List Int)×Int))(r:((List Int)×Int)->Option (List Int))(K:Ex->List A->Option (List Int)):Option (List Int):=zfp N i.1 i.2 v.1 v.2 (fun s x6=>(r (s,x6))) (fun a0=>(K (.exit 0) (mkS [(2,.box (.arr 8 (.int .u64))),(1,.box (.arr 8 (.int .u64)))] 14 (a0,i.2,()))))
def h1_4 (N:Nat):Hd (List Int):=fun st K=>(unS SQ20 12 (restr [6,2,3,4] 0 st)).bind fun x=>iter (fun v r=>g1_4 N ((fun x=>(x.2.1,x.2.2.1)) x) v r K) N ((fun x=>(x.1,x.2.2.2.1)) x)
def t1_4 (N:Nat):Tab (List Int):=[]
theorem ok1_4 {N:Nat}{c:Ctx}(hb:Base Tryd.prog (E_4 N) c):zk Tryd.prog c (zh z133 [0,1,0,1]) (h1_4 N) :=
 z1e (s:=SQ20) (m:=12) (g1_4 N) [6,2,3,4] N (fun x=>(x.2.1,x.2.2.1)) (fun x=>(x.1,x.2.2.2.1)) (fun i v=>(v.1,i.1,i.2,v.2,())) (fun _=>rfl) (zg hb N (t1_4 N) L_4 z133 TabOk.nil [0,0,1,0,1] _ rfl) (fun i v r K=>by kernel_rfl)
def zf6 (N:Nat)(s:(List Int))(o:(List Int)):Option (List Int):=zmy N s o ([0,0,0,0,0,0,0,0]:List Int) 0 (fun s1=>some s1)
def t_4 (N:Nat):Tab (List Int):=[([0,1,0,1],h1_4 N)]
theorem z1h3 (N:Nat)(x:z16 z1c6):z52 (E_4 N) N (t_4 N) L_4 Tryd.f55 (mkS z1c6 0 x) (z3j (.v (.arr 8 (.int .u64))) 2)=zf6 N x.1 x.2.1:=by kernel_rfl
def zdz (N:Nat):List A->Res:=z12 z1c6 (fun x=>zf6 N x.1 x.2.1) (z7r (.v (.arr 8 (.int .u64))) 2)
theorem zmz (N:Nat):Contract Tryd.prog glob 55 (zdz N) :=
 Contract.of (E:=E_4 N) (H:=t_4 N) (L:=L_4) (N:=N) (body:=z133) (K:=(z3j (.v (.arr 8 (.int .u64))) 2)) (Eok_4 N) Tryd.func55 (by kernel_rfl) (by decide) (fun _ hb=>(TabOk.cons (ok1_4 hb) TabOk.nil)) (fun x y h=>by rw[z1h3];exact h) (z1a (s:=(.v (.arr 8 (.int .u64)))) (m:=2))
def zu7:Code:=(Tryd.f43.body).getD .skip
def L_5:List (List Nat×List Nat):=[([0],[3,0,4]),([0,1],[3,5,0,4]),([0,0,1,1],[9,8,5,0,4]),([0,1,0,1,1],[9,8,5,0,4]),(z13d,[10,9,8,5,0,4]),(z10h,[9,8,5,0,4]),(z13g,[5,4,0]),(z13h,zwz),(z13q,zwz),([0,0,0,0,1,0,0,1,1,0,0,1,0,1,1],[14,5,0,6,7,9,8,4]),([1,0,0,0,1,0,0,1,1,0,0,1,0,1,1],[5,0,6,7,9,8,4]),([1,1,0,0,0,1,0,0,1,1,0,0,1,0,1,1],[9,8,5,0,4]),([0,0,1,0,0,1,0,0,1,1,0,0,1,0,1,1],zwz),([0,1,0,0,1,0,0,1,1,0,0,1,0,1,1],zwz),([1,1,0,0,1,0,0,1,1,0,0,1,0,1,1],zwz),(z1cc,[9,8,5,0,4]),(z13f,[9,8,5,0,4]),(z13e,[9,8,5,0,4]),([1,0,1,1],[5,4,0]),([0,1,1,1],[4,0]),([1,1,1,1],[4,0])]
def E_5 (N:Nat):Env:=z1m tys glob [(55,zdz N),(56,z36 N)] [] [] [0] false [] []
theorem Eok_5 (N:Nat):EnvOk Tryd.prog (E_5 N):=zi mixed zr (FnsOk.cons (zmz N) (FnsOk.cons (z5h N) (FnsOk.nil))) (ItsOk.nil)
def zay (N:Nat)(b:DT0)(x4:(List Int))(i:Int)(x8:(List Int))(x9:Int)(all:(List Int))(word:Int)(rec:(List Int)->Int->Option ((List Int)×(DT0×Unit)))(k0:(List Int)->Option ((List Int)×(DT0×Unit))):Option ((List Int)×(DT0×Unit)):=cond (word != 0) ((z2v N word).bind fun y=>cond (inR (IntKind.wrap IntKind.i64 ((IntKind.wrap IntKind.i64 (i*64))+y)) (List.length b.2.2.1)) ((zf6 N all (List.getD b.2.2.1 (Int.toNat (IntKind.wrap IntKind.i64 ((IntKind.wrap IntKind.i64 (i*64))+y))) [])).bind fun y1=>rec y1 (zd Go.BinOp.and IntKind.u64 word (IntKind.wrap IntKind.u64 (word - 1)))) none) (k0 all)
def zib (N:Nat)(b:DT0)(x4:(List Int))(all:(List Int))(i:Int)(word:Int)(x8:(List Int))(x9:Int)(k0:(List Int)->Option ((List Int)×(DT0×Unit))):Option ((List Int)×(DT0×Unit)):=iter (fun (v:((List Int)×Int)) r=>zay N b x4 i x8 x9 v.1 v.2 (fun all word=>(r (all,word))) k0) N (all,word)
def g2_5 (N:Nat)(i:(DT0×(List Int)×Int×(List Int)×Int))(v:((List Int)×Int))(r:((List Int)×Int)->Option ((List Int)×(DT0×Unit)))(K:Ex->List A->Option ((List Int)×(DT0×Unit))):Option ((List Int)×(DT0×Unit)):=zay N i.1 i.2.1 i.2.2.1 i.2.2.2.1 i.2.2.2.2 v.1 v.2 (fun all word=>(r (all,word))) (fun a2=>(K (.exit 2) (mkS SQ29 24 (i.1,i.2.1,a2,i.2.2.2.1,i.2.2.2.2,()))))
def h2_5 (N:Nat):Hd ((List Int)×(DT0×Unit)):=fun st K=>(unS SQ36 24 (restr zwz 0 st)).bind fun x=>iter (fun v r=>g2_5 N ((fun x=>(x.1,x.2.1,x.2.2.2.1,x.2.2.2.2.2.1,x.2.2.2.2.2.2.1)) x) v r K) N ((fun x=>(x.2.2.1,x.2.2.2.2.1)) x)
def t2_5 (N:Nat):Tab ((List Int)×(DT0×Unit)):=[]
theorem ok2_5 {N:Nat}{c:Ctx}(hb:Base Tryd.prog (E_5 N) c):zk Tryd.prog c (zh zu7 z13q) (h2_5 N) :=
 z1e (s:=SQ36) (m:=24) (g2_5 N) zwz N (fun x=>(x.1,x.2.1,x.2.2.2.1,x.2.2.2.2.2.1,x.2.2.2.2.2.2.1)) (fun x=>(x.2.2.1,x.2.2.2.2.1)) (fun i v=>(i.1,i.2.1,v.1,i.2.2.1,v.2,i.2.2.2.1,i.2.2.2.2,())) (fun _=>rfl) (zg hb N (t2_5 N) L_5 zu7 TabOk.nil z1o9 _ rfl) (fun i v r K=>by kernel_rfl)
def zaz (N:Nat)(b:DT0)(x4:(List Int))(x8:(List Int))(all:(List Int))(x9:Int)(rec:(List Int)->Int->Option ((List Int)×(DT0×Unit)))(k0:(List Int)->Option ((List Int)×(DT0×Unit))):Option ((List Int)×(DT0×Unit)):=cond (decide (x9<8)) (cond (inR x9 8) (zib N b x4 all x9 (List.getD x8 (Int.toNat x9) 0) x8 x9 (fun all1=>rec all1 (IntKind.wrap IntKind.i64 (x9+1)))) none) (k0 all)
def zic (N:Nat)(b:DT0)(x4:(List Int))(all:(List Int))(x8:(List Int))(x9:Int)(k0:(List Int)->Option ((List Int)×(DT0×Unit))):Option ((List Int)×(DT0×Unit)):=iter (fun (v:((List Int)×Int)) r=>zaz N b x4 x8 v.1 v.2 (fun all x9=>(r (all,x9))) k0) N (all,x9)
def g1_5 (N:Nat)(i:(DT0×(List Int)×(List Int)))(v:((List Int)×Int))(r:((List Int)×Int)->Option ((List Int)×(DT0×Unit)))(K:Ex->List A->Option ((List Int)×(DT0×Unit))):Option ((List Int)×(DT0×Unit)):=zaz N i.1 i.2.1 i.2.2 v.1 v.2 (fun all x9=>(r (all,x9))) (fun a2=>(K (.exit 0) (mkS [(0,.box TT2),(3,.box (.arr 8 (.int .u64))),(0,.box (.arr 8 (.int .u64)))] 28 (i.1,i.2.1,a2,()))))
def h1_5 (N:Nat):Hd ((List Int)×(DT0×Unit)):=fun st K=>(unS SQ29 24 (restr [9,8,5,0,4] 0 st)).bind fun x=>iter (fun v r=>g1_5 N ((fun x=>(x.1,x.2.1,x.2.2.2.1)) x) v r K) N ((fun x=>(x.2.2.1,x.2.2.2.2.1)) x)
def t1_5 (N:Nat):Tab ((List Int)×(DT0×Unit)):=[(z13q,h2_5 N)]
theorem ok1_5 {N:Nat}{c:Ctx}(hb:Base Tryd.prog (E_5 N) c):zk Tryd.prog c (zh zu7 [0,1,0,1,1]) (h1_5 N) :=
 z1e (s:=SQ29) (m:=24) (g1_5 N) [9,8,5,0,4] N (fun x=>(x.1,x.2.1,x.2.2.2.1)) (fun x=>(x.2.2.1,x.2.2.2.2.1)) (fun i v=>(i.1,i.2.1,v.1,i.2.2,v.2,())) (fun _=>rfl) (zg hb N (t1_5 N) L_5 zu7 (TabOk.cons (ok2_5 hb) TabOk.nil) [0,0,1,0,1,1] _ rfl) (fun i v r K=>by kernel_rfl)
def z9a (N:Nat)(b:DT0)(s:(List Int)):Option ((List Int)×(DT0×Unit)):=zic N b ([0,0,0,0,0,0,0,0]:List Int) ([0,0,0,0,0,0,0,0]:List Int) s 0 (fun all=>some (all,(b,())))
def t_5 (N:Nat):Tab ((List Int)×(DT0×Unit)):=[([0,1,0,1,1],h1_5 N)]
theorem z1h2 (N:Nat)(x:z16 z157):z52 (E_5 N) N (t_5 N) L_5 Tryd.f43 (mkS z157 0 x) (z37 (.v (.arr 8 (.int .u64))) [(0,.box TT2)] 1)=z9a N x.1 x.2.1:=by kernel_rfl
def za2 (N:Nat):List A->Res:=z12 z157 (fun x=>z9a N x.1 x.2.1) (z3t (.v (.arr 8 (.int .u64))) [(0,.box TT2)] 1)
theorem zid (N:Nat):Contract Tryd.prog glob 43 (za2 N) :=
 Contract.of (E:=E_5 N) (H:=t_5 N) (L:=L_5) (N:=N) (body:=zu7) (K:=(z37 (.v (.arr 8 (.int .u64))) [(0,.box TT2)] 1)) (Eok_5 N) Tryd.func43 (by kernel_rfl) (by decide) (fun _ hb=>(TabOk.cons (ok1_5 hb) TabOk.nil)) (fun x y h=>by rw[z1h2];exact h) (z2f (s:=(.v (.arr 8 (.int .u64)))) (os:=[(0,.box TT2)]) (m:=1))
def zu6:Code:=(Tryd.f24.body).getD .skip
def L_6:List (List Nat×List Nat):=[([0],[0]),([0,0,1],[12,0]),([1,0,1],[0]),([0,0,1,0,1],[2,0]),([1,0,1,0,1],[2,0]),([0,0,1,1],[0]),(z102,[18,0]),(z101,[0]),(z106,[0]),([0,0,1,0,0,0,1,1],[3,0]),([0,1,0,1,0,0,0,1,1],[0,3]),([0,1,1,0,1,0,0,0,1,1],[3,0]),([0,1,1,1,0,1,0,0,0,1,1],[41,40,39,0]),([0,1,1,1,1,0,1,0,0,0,1,1],[41,40,39,0]),([0,0,0,1,1,1,1,0,1,0,0,0,1,1],[42,39,41,0,40]),([0,1,0,0,1,1,1,1,0,1,0,0,0,1,1],[39,41,0,40]),([1,0,1,0,0,1,1,1,1,0,1,0,0,0,1,1],[0]),([0,0,0,1,1,0,0,1,1,1,1,0,1,0,0,0,1,1],[0,5,41,40,39]),([0,1,0,0,1,1,0,0,1,1,1,1,0,1,0,0,0,1,1],[50,0,41,40,39]),([1,1,0,0,1,1,0,0,1,1,1,1,0,1,0,0,0,1,1],[41,40,39,0]),([0,0,1,1,0,0,1,1,0,0,1,1,1,1,0,1,0,0,0,1,1],[2,0]),([1,0,1,1,0,0,1,1,0,0,1,1,1,1,0,1,0,0,0,1,1],[2,0]),([0,1,1,0,0,1,1,1,1,0,1,0,0,0,1,1],[41,40,39,0]),([1,1,1,0,0,1,1,1,1,0,1,0,0,0,1,1],[41,40,39,0]),([1,1,1,1,0,1,0,0,0,1,1],[0]),([1,0,0,0,1,1],[0]),([0,1,1],[0]),([0,1,1,1],[2,0]),([1,1,1,1],[2,0])]
def E_6 (N:Nat):Env:=z1m tys glob [(43,za2 N),(42,zc6 N)] [(3,(.arr 8 (.int .u64)))] [] [0] false [(39,(.sl (.arr 8 (.int .u64)))),(36,(.own (.arr 8 (.int .u64)))),(24,(.own (.arr 8 (.int .u64))))] []
theorem Eok_6 (N:Nat):EnvOk Tryd.prog (E_6 N):=zi mixed zr (FnsOk.cons (zid N) (FnsOk.cons (zkl N) (FnsOk.nil))) (ItsOk.nil)
def zav (N:Nat)(x39:(List (List Int)))(x40:Int)(b:DT0)(x41:Int)(rec:DT0->Int->Option zeb)(k0:DT0->Bool->Option zeb)(k1:DT0->Option zeb):Option zeb:=cond (decide (x41<x40)) (cond (inR x41 (List.length x39)) ((z9a N b (List.getD x39 (Int.toNat x41) [])).bind fun y=>(z8e N y.2.1 y.1).bind fun y1=>cond (!y1.1) (k0 y1.2.1 false) (rec y1.2.1 (IntKind.wrap IntKind.i64 (x41+1)))) none) (k1 b)
def zi9 (N:Nat)(b:DT0)(x39:(List (List Int)))(x40:Int)(x41:Int)(k0:DT0->Bool->Option zeb)(k1:DT0->Option zeb):Option zeb:=iter (fun (v:(DT0×Int)) r=>zav N x39 x40 v.1 v.2 (fun b x41=>(r (b,x41))) k0 k1) N (b,x41)
def g2_6 (N:Nat)(i:((List (List Int))×Int))(v:(DT0×Int))(r:(DT0×Int)->Option zeb)(K:Ex->List A->Option zeb):Option zeb:=zav N i.1 i.2 v.1 v.2 (fun b x41=>(r (b,x41))) (fun a0 a1=>(K .ret (mkS [(0,.box TT2),(1,.v .bool)] 49 (a0,a1,())))) (fun a0=>(K (.exit 2) (mkS [(0,.box TT2)] 51 (a0,()))))
def h2_6 (N:Nat):Hd zeb:=fun st K=>(unS SQ93 10 (restr [41,40,39,0] 0 st)).bind fun x=>iter (fun v r=>g2_6 N ((fun x=>(x.2.1,x.2.2.1)) x) v r K) N ((fun x=>(x.1,x.2.2.2.1)) x)
def t2_6 (N:Nat):Tab zeb:=[]
theorem ok2_6 {N:Nat}{c:Ctx}(hb:Base Tryd.prog (E_6 N) c):zk Tryd.prog c (zh zu6 [0,1,1,1,1,0,1,0,0,0,1,1]) (h2_6 N) :=
 z1e (s:=SQ93) (m:=10) (g2_6 N) [41,40,39,0] N (fun x=>(x.2.1,x.2.2.1)) (fun x=>(x.1,x.2.2.2.1)) (fun i v=>(v.1,i.1,i.2,v.2,())) (fun _=>rfl) (zg hb N (t2_6 N) L_6 zu6 TabOk.nil [0,0,1,1,1,1,0,1,0,0,0,1,1] _ rfl) (fun i v r K=>by kernel_rfl)
def zaw (N:Nat)(b:DT0)(rec:DT0->Option zeb)(k0:DT0->Bool->Option zeb)(k1:DT0->Option zeb):Option zeb:=cond (decide (0<(List.length b.2.2.2.2.2.1:Int))) (cond (decide ((0<=(List.length b.2.2.2.2.2.1:Int))/\(((List.length b.2.2.2.2.2.1:Int)<=(List.length b.2.2.2.2.2.1:Int))/\((((List.length b.2.2.2.2.2.1:Int)*64)<=281474976710656)/\((List.length b.2.2.2.2.2.1:Int)<=9223372036854775807))))) (zi9 N (b.1,(b.2.1,(b.2.2.1,(b.2.2.2.1,(b.2.2.2.2.1,([],b.2.2.2.2.2.2)))))) (over (List.replicate (Int.toNat (List.length b.2.2.2.2.2.1:Int)) ([0,0,0,0,0,0,0,0]:List Int)) 0 (List.length (List.replicate (Int.toNat (List.length b.2.2.2.2.2.1:Int)) ([0,0,0,0,0,0,0,0]:List Int))) b.2.2.2.2.2.1) (((List.length (over (List.replicate (Int.toNat (List.length b.2.2.2.2.2.1:Int)) ([0,0,0,0,0,0,0,0]:List Int)) 0 (List.length (List.replicate (Int.toNat (List.length b.2.2.2.2.2.1:Int)) ([0,0,0,0,0,0,0,0]:List Int))) b.2.2.2.2.2.1)):Nat):Int) 0 (fun b1 x2=>k0 b1 x2) (fun b2=>rec b2)) none) (k1 b)
def zia (N:Nat)(b:DT0)(k0:DT0->Bool->Option zeb)(k1:DT0->Option zeb):Option zeb:=iter (fun (v:DT0) r=>zaw N v (fun b=>(r b)) k0 k1) N b
def g1_6 (N:Nat)(i:Unit)(v:DT0)(r:DT0->Option zeb)(K:Ex->List A->Option zeb):Option zeb:=zaw N v (fun b=>(r b)) (fun a0 a1=>(K .ret (mkS [(0,.box TT2),(1,.v .bool)] 49 (a0,a1,())))) (fun a0=>(K (.exit 0) (mkS [(0,.box TT2)] 51 (a0,()))))
def h1_6 (N:Nat):Hd zeb:=fun st K=>(unS [(0,.box TT2)] 51 (restr [0] 0 st)).bind fun x=>iter (fun v r=>g1_6 N ((fun x=>()) x) v r K) N ((fun x=>x.1) x)
def t1_6 (N:Nat):Tab zeb:=[([0,1,1,1,1,0,1,0,0,0,1,1],h2_6 N)]
theorem ok1_6 {N:Nat}{c:Ctx}(hb:Base Tryd.prog (E_6 N) c):zk Tryd.prog c (zh zu6 [0,0,1,1]) (h1_6 N) :=
 z1e (s:=[(0,.box TT2)]) (m:=51) (g1_6 N) [0] N (fun x=>()) (fun x=>x.1) (fun i v=>(v,())) (fun _=>rfl) (zg hb N (t1_6 N) L_6 zu6 (TabOk.cons (ok2_6 hb) TabOk.nil) [0,0,0,1,1] _ rfl) (fun i v r K=>by kernel_rfl)
def z65 (N:Nat)(b:DT0):Option zeb:=(z8e N b b.1).bind fun y=>cond (!y.1) (some (false,(y.2.1,()))) (zia N y.2.1 (fun b1 x2=>some (x2,(b1,()))) (fun b2=>some (true,(b2,()))))
def t_6 (N:Nat):Tab zeb:=[([0,0,1,1],h1_6 N)]
theorem z1h1 (N:Nat)(x:z16 [(0,.box TT2)]):z52 (E_6 N) N (t_6 N) L_6 Tryd.f24 (mkS [(0,.box TT2)] 0 x) (z37 (.v .bool) [(0,.box TT2)] 0)=z65 N x.1:=by kernel_rfl
def zgz (N:Nat):List A->Res:=z12 [(0,.box TT2)] (fun x=>z65 N x.1) (z3t (.v .bool) [(0,.box TT2)] 0)
theorem zax (N:Nat):Contract Tryd.prog glob 24 (zgz N) :=
 Contract.of (E:=E_6 N) (H:=t_6 N) (L:=L_6) (N:=N) (body:=zu6) (K:=(z37 (.v .bool) [(0,.box TT2)] 0)) (Eok_6 N) Tryd.func24 (by kernel_rfl) (by decide) (fun _ hb=>(TabOk.cons (ok1_6 hb) TabOk.nil)) (fun x y h=>by rw[z1h1];exact h) (z2f (s:=(.v .bool)) (os:=[(0,.box TT2)]) (m:=0))
def z132:Code:=(Tryd.f39.body).getD .skip
def L_7:List (List Nat×List Nat):=[([0],[0,2]),([0,1],[0,3,2]),([0,0,1,1],[8,7,6,3,2]),([0,1,0,1,1],[8,7,6,3,2]),(z13d,[9,6,8,3,7,2]),(z10h,[6,8,3,7,2]),(z13g,[3,2]),(z13h,[5,3,8,7,6,2]),(z1cc,[8,7,6,3,2]),(z13f,[8,7,6,3,2]),(z13e,[8,7,6,3,2]),([1,0,1,1],[3,2]),([0,1,1,1],[2]),([1,1,1,1],[2])]
def E_7 (N:Nat):Env:=z1m tys glob [] [] [] [] false [] []
theorem Eok_7 (N:Nat):EnvOk Tryd.prog (E_7 N):=zi mixed zr (FnsOk.nil) (ItsOk.nil)
def zgx (N:Nat)(x2:(List Int))(x6:(List Int))(x7:Int)(s:(List Int))(x8:Int)(rec:(List Int)->Int->Option (List Int))(k0:(List Int)->Option (List Int)):Option (List Int):=cond (decide (x8<x7)) (cond (inR x8 (List.length x6)) (cond (inR (IntKind.wrap IntKind.i64 (Int.tdiv (List.getD x6 (Int.toNat x8) 0) 64)) 8) (cond (decide ((Int.toNat (IntKind.wrap IntKind.i64 (Int.tdiv (List.getD x6 (Int.toNat x8) 0) 64)))<(List.length s))) (cond (decide (0<=(Int.tmod (List.getD x6 (Int.toNat x8) 0) 64))) (cond (inR (IntKind.wrap IntKind.i64 (Int.tdiv (List.getD x6 (Int.toNat x8) 0) 64)) 8) (cond (decide ((Int.toNat (IntKind.wrap IntKind.i64 (Int.tdiv (List.getD x6 (Int.toNat x8) 0) 64)))<(List.length s))) (rec (List.set s (Int.toNat (IntKind.wrap IntKind.i64 (Int.tdiv (List.getD x6 (Int.toNat x8) 0) 64))) (zd Go.BinOp.or IntKind.u64 (List.getD s (Int.toNat (IntKind.wrap IntKind.i64 (Int.tdiv (List.getD x6 (Int.toNat x8) 0) 64))) 0) (zsh IntKind.u64 1 (Int.tmod (List.getD x6 (Int.toNat x8) 0) 64)))) (IntKind.wrap IntKind.i64 (x8+1))) none) none) none) none) none) none) (k0 s)
def zov (N:Nat)(x2:(List Int))(s:(List Int))(x6:(List Int))(x7:Int)(x8:Int)(k0:(List Int)->Option (List Int)):Option (List Int):=iter (fun (v:((List Int)×Int)) r=>zgx N x2 x6 x7 v.1 v.2 (fun s x8=>(r (s,x8))) k0) N (s,x8)
def g1_7 (N:Nat)(i:((List Int)×(List Int)×Int))(v:((List Int)×Int))(r:((List Int)×Int)->Option (List Int))(K:Ex->List A->Option (List Int)):Option (List Int):=zgx N i.1 i.2.1 i.2.2 v.1 v.2 (fun s x8=>(r (s,x8))) (fun a1=>(K (.exit 0) (mkS [(2,.box (.arr 8 (.int .u64))),(0,.box (.arr 8 (.int .u64)))] 19 (i.1,a1,()))))
def h1_7 (N:Nat):Hd (List Int):=fun st K=>(unS SQ60 14 (restr [8,7,6,3,2] 0 st)).bind fun x=>iter (fun v r=>g1_7 N ((fun x=>(x.1,x.2.2.1,x.2.2.2.1)) x) v r K) N ((fun x=>(x.2.1,x.2.2.2.2.1)) x)
def t1_7 (N:Nat):Tab (List Int):=[]
theorem ok1_7 {N:Nat}{c:Ctx}(hb:Base Tryd.prog (E_7 N) c):zk Tryd.prog c (zh z132 [0,1,0,1,1]) (h1_7 N) :=
 z1e (s:=SQ60) (m:=14) (g1_7 N) [8,7,6,3,2] N (fun x=>(x.1,x.2.2.1,x.2.2.2.1)) (fun x=>(x.2.1,x.2.2.2.2.1)) (fun i v=>(i.1,v.1,i.2.1,i.2.2,v.2,())) (fun _=>rfl) (zg hb N (t1_7 N) L_7 z132 TabOk.nil [0,0,1,0,1,1] _ rfl) (fun i v r K=>by kernel_rfl)
def z7p (N:Nat)(l:(List Int)):Option (List Int):=zov N ([0,0,0,0,0,0,0,0]:List Int) ([0,0,0,0,0,0,0,0]:List Int) l (List.length l:Int) 0 (fun s=>some s)
def t_7 (N:Nat):Tab (List Int):=[([0,1,0,1,1],h1_7 N)]
theorem z1h0 (N:Nat)(x:z16 zpn):z52 (E_7 N) N (t_7 N) L_7 Tryd.f39 (mkS zpn 0 x) (z3j (.v (.arr 8 (.int .u64))) 1)=z7p N x.1:=by kernel_rfl
def zfq (N:Nat):List A->Res:=z12 zpn (fun x=>z7p N x.1) (z7r (.v (.arr 8 (.int .u64))) 1)
theorem zow (N:Nat):Contract Tryd.prog glob 39 (zfq N) :=
 Contract.of (E:=E_7 N) (H:=t_7 N) (L:=L_7) (N:=N) (body:=z132) (K:=(z3j (.v (.arr 8 (.int .u64))) 1)) (Eok_7 N) Tryd.func39 (by kernel_rfl) (by decide) (fun _ hb=>(TabOk.cons (ok1_7 hb) TabOk.nil)) (fun x y h=>by rw[z1h0];exact h) (z1a (s:=(.v (.arr 8 (.int .u64)))) (m:=1))
def z131:Code:=(Tryd.f44.body).getD .skip
def L_8:List (List Nat×List Nat):=[([0],[4,1,2,0]),([0,1],[4,1,2,0]),([0,0,0,0,1],[9,2,1,4,0]),([1,0,0,0,1],[2,1,4,0]),([1,1,0,0,0,1],[0]),([0,0,0,1,0,0,1],[0,1,4,5,2]),([0,1,0,0,1,0,0,1],[30,0,4,2,1]),([1,1,0,0,1,0,0,1],[4,2,1,0]),([0,1,1,0,0,1,0,0,1],[0]),([0,1,0,0,1],[4,2,1,0]),([1,1,0,0,1],[4,1,2,0]),([1],[0])]
def E_8 (N:Nat):Env:=z1m tys glob [] [] [] [0] false [] []
theorem Eok_8 (N:Nat):EnvOk Tryd.prog (E_8 N):=zi mixed zr (FnsOk.nil) ItsOk.nil
def z4z (N:Nat)(x1:(List (List Int)))(x2:Int)(i:Int)(rec:Int->Option (List ((List (List Int))×Unit)))(k0:Option (List ((List (List Int))×Unit)))(k1:Option (List ((List (List Int))×Unit))):Option (List ((List (List Int))×Unit)):=cond (decide (i<(List.length x1:Int))) (cond (decide ((0<=i)/\(i<=(List.length x1:Int)))) (cond (decide (((IntKind.wrap IntKind.i64 (i+(if ((List.length (cut x1 (Int.toNat i) (List.length x1)):Int)<x2) then (List.length (cut x1 (Int.toNat i) (List.length x1)):Int) else x2)))<=(IntKind.wrap IntKind.i64 (i+(if ((List.length (cut x1 (Int.toNat i) (List.length x1)):Int)<x2) then (List.length (cut x1 (Int.toNat i) (List.length x1)):Int) else x2))))/\((IntKind.wrap IntKind.i64 (i+(if ((List.length (cut x1 (Int.toNat i) (List.length x1)):Int)<x2) then (List.length (cut x1 (Int.toNat i) (List.length x1)):Int) else x2)))<=(List.length x1:Int)))) (cond (decide ((0<=(IntKind.wrap IntKind.i64 (i+(if ((List.length (cut x1 (Int.toNat i) (List.length x1)):Int)<x2) then (List.length (cut x1 (Int.toNat i) (List.length x1)):Int) else x2))))/\((IntKind.wrap IntKind.i64 (i+(if ((List.length (cut x1 (Int.toNat i) (List.length x1)):Int)<x2) then (List.length (cut x1 (Int.toNat i) (List.length x1)):Int) else x2)))<=(List.length x1:Int)))) (cond (decide ((0<=i)/\(i<=(IntKind.wrap IntKind.i64 (i+(if ((List.length (cut x1 (Int.toNat i) (List.length x1)):Int)<x2) then (List.length (cut x1 (Int.toNat i) (List.length x1)):Int) else x2)))))) (z14x ((cut x1 (Int.toNat i) (Int.toNat (IntKind.wrap IntKind.i64 (i+(if ((List.length (cut x1 (Int.toNat i) (List.length x1)):Int)<x2) then (List.length (cut x1 (Int.toNat i) (List.length x1)):Int) else x2))))),()) (rec (IntKind.wrap IntKind.i64 (i+x2))) k0) none) none) none) none) k1
def zfl (N:Nat)(x1:(List (List Int)))(x2:Int)(i:Int)(k0:Option (List ((List (List Int))×Unit)))(k1:Option (List ((List (List Int))×Unit))):Option (List ((List (List Int))×Unit)):=iter (fun (v:Int) r=>z4z N x1 x2 v (fun i=>(r i)) k0 k1) N i
def g1_8 (N:Nat)(i:((List (List Int))×Int))(v:Int)(r:Int->Option (List ((List (List Int))×Unit)))(K:Ex->List A->Option (List ((List (List Int))×Unit))):Option (List ((List (List Int))×Unit)):=z4z N i.1 i.2 v (fun i=>(r i)) (K .ret (mkS [(0,.yld)] 30 ((),()))) (K (.exit 0) (mkS [(0,.yld)] 30 ((),())))
def h1_8 (N:Nat):Hd (List ((List (List Int))×Unit)):=fun st K=>(unS [(0,.yld),(0,.v (.ptr (.sl (.arr 4 (.int .u64))))),(0,.v (.ptr (.int .i64))),(1,.v (.int .i64))] 26 (restr [4,1,2,0] 0 st)).bind fun x=>iter (fun v r=>g1_8 N ((fun x=>(x.2.1,x.2.2.1)) x) v r K) N ((fun x=>x.2.2.2.1) x)
def t1_8 (N:Nat):Tab (List ((List (List Int))×Unit)):=[]
theorem ok1_8 {N:Nat}{G:GY [(.sl (.arr 4 (.int .u64)))]}(hG:zpo G)(hev:EvOk G Tryd.prog (E_8 N) N L_8 z131):YOk G Tryd.prog (zh z131 [0,1]) (h1_8 N) :=
 z14j hG (s:=[(0,.yld),(0,.v (.ptr (.sl (.arr 4 (.int .u64))))),(0,.v (.ptr (.int .i64))),(1,.v (.int .i64))]) (m:=26) (g1_8 N) [4,1,2,0] N (fun x=>(x.2.1,x.2.2.1)) (fun x=>x.2.2.2.1) (fun i v=>((),i.1,i.2,v,())) (fun _=>rfl) (hev (t1_8 N) TabOkY.nil [0,0,1]) (fun i v r K=>by kernel_rfl)
def z7y (N:Nat)(x1:(List (List Int)))(x2:Int):Option (List ((List (List Int))×Unit)):=zfl N x1 x2 0 (some ([]:List ((List (List Int))×Unit))) (some ([]:List ((List (List Int))×Unit)))
def t_8 (N:Nat):Tab (List ((List (List Int))×Unit)):=[([0,1],h1_8 N)]
theorem z1gz (N:Nat)(x:T.den (.pair (.ptr (.sl (.arr 4 (.int .u64)))) (.pair (.ptr (.int .i64)) .unit))):evYX (E_8 N) [(.sl (.arr 4 (.int .u64)))] z14x N (t_8 N) L_8 Tryd.f44 [.v (.ptr (.sl (.arr 4 (.int .u64)))) x.1,.v (.ptr (.int .i64)) x.2.1]=z7y N x.1 x.2.1:=by kernel_rfl
def za (N:Nat):Dat->ItRes:=z1af (ts:=[(.sl (.arr 4 (.int .u64)))]) (.pair (.ptr (.sl (.arr 4 (.int .u64)))) (.pair (.ptr (.int .i64)) .unit)) (fun x=>z7y N x.1 x.2.1)
theorem zb (N:Nat):ItOk Tryd.prog glob 44 (za N):=ItOk.of (ts:=[(.sl (.arr 4 (.int .u64)))]) (E:=E_8 N) (H:=t_8 N) (L:=L_8) (N:=N) (body:=z131) (Eok_8 N) rfl Tryd.func44 (by kernel_rfl) (by decide) (fun G hG hev=>(TabOkY.cons (ok1_8 hG hev) TabOkY.nil)) (fun x y h=>⟨_,rfl,by rw[z1gz];exact h⟩)
def z1nz:Code:=(Tryd.f26.body).getD .skip
def L_9:List (List Nat×List Nat):=[([0],[3,2]),([0,0,1],[6,2,3]),([1,0,1],[2,3]),([0,1,0,1],[2,3]),([0,1,1],[4]),([1,1,1],[4])]
def E_9 (N:Nat):Env:=z1m tys glob [] [] [] [] false [] [(44,za N)]
theorem Eok_9 (N:Nat):EnvOk Tryd.prog (E_9 N):=zi mixed zr (FnsOk.nil) (ItsOk.cons (zb N) (ItsOk.nil))
def zm2 (N:Nat)(s:(List (List Int)))(n:Int):Option ((List (List Int))×(Int×Unit)):=cond (decide (n<1)) none (some (s,(n,())))
def t_9 (N:Nat):Tab ((List (List Int))×(Int×Unit)):=[]
theorem z1gy (N:Nat)(x:z16 z1be):z52 (E_9 N) N (t_9 N) L_9 Tryd.f26 (mkS z1be 0 x) (z3j (.v (.fn 44 (.pair (.ptr (.sl (.arr 4 (.int .u64)))) (.pair (.ptr (.int .i64)) .unit)))) 2)=zm2 N x.1 x.2.1:=by kernel_rfl
def zfk (N:Nat):List A->Res:=z12 z1be (fun x=>zm2 N x.1 x.2.1) (z7r (.v (.fn 44 (.pair (.ptr (.sl (.arr 4 (.int .u64)))) (.pair (.ptr (.int .i64)) .unit)))) 2)
theorem znr (N:Nat):Contract Tryd.prog glob 26 (zfk N) :=
 Contract.of (E:=E_9 N) (H:=t_9 N) (L:=L_9) (N:=N) (body:=z1nz) (K:=(z3j (.v (.fn 44 (.pair (.ptr (.sl (.arr 4 (.int .u64)))) (.pair (.ptr (.int .i64)) .unit)))) 2)) (Eok_9 N) Tryd.func26 (by kernel_rfl) (by decide) (fun _ hb=>TabOk.nil) (fun x y h=>by rw[z1gy];exact h) (z1a (s:=(.v (.fn 44 (.pair (.ptr (.sl (.arr 4 (.int .u64)))) (.pair (.ptr (.int .i64)) .unit))))) (m:=2))
def z1b5:Code:=(Tryd.f61.body).getD .skip
def L_10:List (List Nat×List Nat):=[([0],[0]),([0,1],[0]),([0,1,1],[0]),([0,1,1,1],[0]),([0,1,1,1,1],[0]),([0,1,1,1,1,1],[0]),(z100,[0]),(z10i,[2]),(z16d,[2])]
def E_10 (N:Nat):Env:=z1m tys glob [] [] [] [] false [] [(44,za N)]
theorem z1qm (N:Nat):EnvOk Tryd.prog (E_10 N):=zi mixed zr (FnsOk.nil) (ItsOk.cons (zb N) (ItsOk.nil))
def z9z (N:Nat)(x0:Int):Option Int:=(fun (w4:Int)=>(fun (w3:Int)=>(fun (w2:Int)=>(fun (w1:Int)=>(fun (w0:Int)=>some (zd Go.BinOp.and IntKind.i64 (IntKind.wrap IntKind.i64 (IntKind.wrap IntKind.u64 (w0+(z1y IntKind.u64 w0 32)))) 127)) (IntKind.wrap IntKind.u64 (w1+(z1y IntKind.u64 w1 16)))) (IntKind.wrap IntKind.u64 ((zd Go.BinOp.and IntKind.u64 w2 1085102592571150095)+(z1y IntKind.u64 (zd Go.BinOp.and IntKind.u64 w2 1085102592571150095) 8)))) (IntKind.wrap IntKind.u64 ((z1y IntKind.u64 w3 4)+w3))) (IntKind.wrap IntKind.u64 ((zd Go.BinOp.and IntKind.u64 (z1y IntKind.u64 w4 2) 3689348814741910323)+(zd Go.BinOp.and IntKind.u64 w4 3689348814741910323)))) (IntKind.wrap IntKind.u64 ((zd Go.BinOp.and IntKind.u64 (z1y IntKind.u64 x0 1) 6148914691236517205)+(zd Go.BinOp.and IntKind.u64 x0 6148914691236517205)))
def t_10 (N:Nat):Tab Int:=[]
theorem z1ab (N:Nat)(x:z16 [(0,.v (.int .u64))]):z52 (E_10 N) N (t_10 N) L_10 Tryd.f61 (mkS [(0,.v (.int .u64))] 0 x) (z3j (.v (.int .i64)) 1)=z9z N x.1:=by kernel_rfl
def z6w (N:Nat):List A->Res:=z12 [(0,.v (.int .u64))] (fun x=>z9z N x.1) (z7r (.v (.int .i64)) 1)
theorem zdu (N:Nat):Contract Tryd.prog glob 61 (z6w N) :=
 Contract.of (E:=E_10 N) (H:=t_10 N) (L:=L_10) (N:=N) (body:=z1b5) (K:=(z3j (.v (.int .i64)) 1)) (z1qm N) Tryd.func61 (by kernel_rfl) (by decide) (fun _ hb=>TabOk.nil) (fun x y h=>by rw[z1ab];exact h) (z1a (s:=(.v (.int .i64))) (m:=1))
def zwo:Code:=(Tryd.f57.body).getD .skip
def L_11:List (List Nat×List Nat):=[([0],[1]),([0,1],[1,3]),([0,0,1,1],[7,6,3]),([0,1,0,1,1],[7,6,3]),(z13d,[8,6,7,3]),(z10h,[6,7,3]),(z13g,[3]),(z13h,[3,5,7,6]),(z1cc,[7,6,3]),(z13f,[7,6,3]),(z13e,[7,6,3]),([1,0,1,1],[3]),([0,1,1,1],[2]),([1,1,1,1],[2])]
def E_11 (N:Nat):Env:=z1m tys glob [(61,z6w N)] [] [] [] false [] [(44,za N)]
theorem z1ql (N:Nat):EnvOk Tryd.prog (E_11 N):=zi mixed zr (FnsOk.cons (zdu N) (FnsOk.nil)) (ItsOk.cons (zb N) (ItsOk.nil))
def zfw (N:Nat)(x6:(List Int))(n:Int)(x7:Int)(rec:Int->Int->Option Int)(k0:Int->Option Int):Option Int:=(fun (w4:Int)=>(fun (w3:Int)=>(fun (w2:Int)=>(fun (w1:Int)=>(fun (w0:Int)=>cond (decide (x7<4)) (cond (inR x7 4) (rec (IntKind.wrap IntKind.i64 (n+(zd Go.BinOp.and IntKind.i64 (IntKind.wrap IntKind.i64 (IntKind.wrap IntKind.u64 (w0+(z1y IntKind.u64 w0 32)))) 127))) (IntKind.wrap IntKind.i64 (x7+1))) none) (k0 n)) (IntKind.wrap IntKind.u64 (w1+(z1y IntKind.u64 w1 16)))) (IntKind.wrap IntKind.u64 ((zd Go.BinOp.and IntKind.u64 w2 1085102592571150095)+(z1y IntKind.u64 (zd Go.BinOp.and IntKind.u64 w2 1085102592571150095) 8)))) (IntKind.wrap IntKind.u64 ((z1y IntKind.u64 w3 4)+w3))) (IntKind.wrap IntKind.u64 ((zd Go.BinOp.and IntKind.u64 (z1y IntKind.u64 w4 2) 3689348814741910323)+(zd Go.BinOp.and IntKind.u64 w4 3689348814741910323)))) (IntKind.wrap IntKind.u64 ((zd Go.BinOp.and IntKind.u64 (z1y IntKind.u64 (List.getD x6 (Int.toNat x7) 0) 1) 6148914691236517205)+(zd Go.BinOp.and IntKind.u64 (List.getD x6 (Int.toNat x7) 0) 6148914691236517205)))
def zn3 (N:Nat)(n:Int)(x6:(List Int))(x7:Int)(k0:Int->Option Int):Option Int:=iter (fun (v:(Int×Int)) r=>zfw N x6 v.1 v.2 (fun n x7=>(r (n,x7))) k0) N (n,x7)
def z1ns (N:Nat)(i:(List Int))(v:(Int×Int))(r:(Int×Int)->Option Int)(K:Ex->List A->Option Int):Option Int:=zfw N i v.1 v.2 (fun n x7=>(r (n,x7))) (fun a0=>(K (.exit 0) (mkS [(3,.v (.int .i64))] 12 (a0,()))))
def z1kj (N:Nat):Hd Int:=fun st K=>(unS [(3,.v (.int .i64)),(2,.v (.arr 4 (.int .u64))),(0,.v (.int .i64))] 8 (restr [7,6,3] 0 st)).bind fun x=>iter (fun v r=>z1ns N ((fun x=>x.2.1) x) v r K) N ((fun x=>(x.1,x.2.2.1)) x)
def t1_11 (N:Nat):Tab Int:=[]
theorem z1gp {N:Nat}{c:Ctx}(hb:Base Tryd.prog (E_11 N) c):zk Tryd.prog c (zh zwo [0,1,0,1,1]) (z1kj N) :=
 z1e (s:=[(3,.v (.int .i64)),(2,.v (.arr 4 (.int .u64))),(0,.v (.int .i64))]) (m:=8) (z1ns N) [7,6,3] N (fun x=>x.2.1) (fun x=>(x.1,x.2.2.1)) (fun i v=>(v.1,i,v.2,())) (fun _=>rfl) (zg hb N (t1_11 N) L_11 zwo TabOk.nil [0,0,1,0,1,1] _ rfl) (fun i v r K=>by kernel_rfl)
def z8i (N:Nat)(s:(List Int)):Option Int:=zn3 N 0 s 0 (fun n=>some n)
def t_11 (N:Nat):Tab Int:=[([0,1,0,1,1],z1kj N)]
theorem z1aa (N:Nat)(x:z16 zwu):z52 (E_11 N) N (t_11 N) L_11 Tryd.f57 (mkS zwu 0 x) (z3j (.v (.int .i64)) 1)=z8i N x.1:=by kernel_rfl
def ze7 (N:Nat):List A->Res:=z12 zwu (fun x=>z8i N x.1) (z7r (.v (.int .i64)) 1)
theorem zn4 (N:Nat):Contract Tryd.prog glob 57 (ze7 N) :=
 Contract.of (E:=E_11 N) (H:=t_11 N) (L:=L_11) (N:=N) (body:=zwo) (K:=(z3j (.v (.int .i64)) 1)) (z1ql N) Tryd.func57 (by kernel_rfl) (by decide) (fun _ hb=>(TabOk.cons (z1gp hb) TabOk.nil)) (fun x y h=>by rw[z1aa];exact h) (z1a (s:=(.v (.int .i64))) (m:=1))
def z1b4:Code:=(Tryd.f40.body).getD .skip
def L_12:List (List Nat×List Nat):=[([0],[1,2]),([0,1],[4]),([1,1],[4])]
def E_12 (N:Nat):Env:=z1m tys glob [] [] [] [] false [] [(44,za N)]
theorem z1qk (N:Nat):EnvOk Tryd.prog (E_12 N):=zi mixed zr (FnsOk.nil) (ItsOk.cons (zb N) (ItsOk.nil))
def z9c (N:Nat)(s:(List Int))(b:Int):Option Bool:=cond (inR (IntKind.wrap IntKind.u8 (Int.tdiv b 64)) 4) (cond (decide ((Int.toNat (IntKind.wrap IntKind.u8 (Int.tdiv b 64)))<(List.length s))) (cond (decide (0<=(Int.tmod b 64))) (some ((zd Go.BinOp.and IntKind.u64 (z1y IntKind.u64 (List.getD s (Int.toNat (IntKind.wrap IntKind.u8 (Int.tdiv b 64))) 0) (Int.tmod b 64)) 1) == 1)) none) none) none
def t_12 (N:Nat):Tab Bool:=[]
theorem z1a9 (N:Nat)(x:z16 z1c4):z52 (E_12 N) N (t_12 N) L_12 Tryd.f40 (mkS z1c4 0 x) (z3j (.v .bool) 2)=z9c N x.1 x.2.1:=by kernel_rfl
def zca (N:Nat):List A->Res:=z12 z1c4 (fun x=>z9c N x.1 x.2.1) (z7r (.v .bool) 2)
theorem zix (N:Nat):Contract Tryd.prog glob 40 (zca N) :=
 Contract.of (E:=E_12 N) (H:=t_12 N) (L:=L_12) (N:=N) (body:=z1b4) (K:=(z3j (.v .bool) 2)) (z1qk N) Tryd.func40 (by kernel_rfl) (by decide) (fun _ hb=>TabOk.nil) (fun x y h=>by rw[z1a9];exact h) (z1a (s:=(.v .bool)) (m:=2))
def zwn:Code:=(Tryd.f45.body).getD .skip
def L_13:List (List Nat×List Nat):=[([0],[1]),([0,1],[1,3]),([0,0,1,1],[8,1,3]),([0,1,0,1,1],[8,1,3]),(z13d,[9,8,1,3]),(z10h,[8,1,3]),(z13g,[3]),(z13h,[1,4,3,8]),(z13q,[14,3,4,8,1]),(z15c,[8,1,3]),([0,1,1,0,0,1,1,0,0,1,0,1,1],[8,1,3]),(z13f,[8,1,3]),(z13e,[8,1,3]),([1,0,1,1],[3]),([0,1,1,1],[2]),([1,1,1,1],[2])]
def E_13 (N:Nat):Env:=z1m tys glob [(40,zca N),(57,ze7 N)] [(3,(.int .u8))] [] [] false [] [(44,za N)]
theorem z1qj (N:Nat):EnvOk Tryd.prog (E_13 N):=zi mixed zr (FnsOk.cons (zix N) (FnsOk.cons (zn4 N) (FnsOk.nil))) (ItsOk.cons (zb N) (ItsOk.nil))
def z8h (N:Nat)(s:(List Int))(out:(List Int))(x8:Int)(rec:(List Int)->Int->Option (List UInt8))(k0:(List Int)->Option (List UInt8)):Option (List UInt8):=cond (decide (x8<256)) ((z9c N s (IntKind.wrap IntKind.u8 x8)).bind fun y=>cond y (cond (decide ((((List.length out)+1)*1)<=70368744177664)) (rec (out++([(IntKind.wrap IntKind.u8 x8)]:List Int)) (IntKind.wrap IntKind.i64 (x8+1))) none) (rec out (IntKind.wrap IntKind.i64 (x8+1)))) (k0 out)
def zh6 (N:Nat)(s:(List Int))(out:(List Int))(x8:Int)(k0:(List Int)->Option (List UInt8)):Option (List UInt8):=iter (fun (v:((List Int)×Int)) r=>z8h N s v.1 v.2 (fun out x8=>(r (out,x8))) k0) N (out,x8)
def z1nr (N:Nat)(i:(List Int))(v:((List Int)×Int))(r:((List Int)×Int)->Option (List UInt8))(K:Ex->List A->Option (List UInt8)):Option (List UInt8):=z8h N i v.1 v.2 (fun out x8=>(r (out,x8))) (fun a0=>(K (.exit 0) (mkS [(3,.row (.int .u8))] 19 (a0,()))))
def z1ki (N:Nat):Hd (List UInt8):=fun st K=>(unS [(1,.box (.arr 4 (.int .u64))),(1,.row (.int .u8)),(4,.v (.int .i64))] 14 (restr [8,1,3] 0 st)).bind fun x=>iter (fun v r=>z1nr N ((fun x=>x.1) x) v r K) N ((fun x=>(x.2.1,x.2.2.1)) x)
def t1_13 (N:Nat):Tab (List UInt8):=[]
theorem z1go {N:Nat}{c:Ctx}(hb:Base Tryd.prog (E_13 N) c):zk Tryd.prog c (zh zwn [0,1,0,1,1]) (z1ki N) :=
 z1e (s:=[(1,.box (.arr 4 (.int .u64))),(1,.row (.int .u8)),(4,.v (.int .i64))]) (m:=14) (z1nr N) [8,1,3] N (fun x=>x.1) (fun x=>(x.2.1,x.2.2.1)) (fun i v=>(i,v.1,v.2,())) (fun _=>rfl) (zg hb N (t1_13 N) L_13 zwn TabOk.nil [0,0,1,0,1,1] _ rfl) (fun i v r K=>by kernel_rfl)
def za3 (N:Nat)(s:(List Int)):Option (List UInt8):=(z8i N s).bind fun y=>cond (decide (((0:Int)<=0)/\((0<=y)/\(((y*1)<=281474976710656)/\(y<=9223372036854775807))))) (zh6 N s [] 0 (fun out=>some (zg1 out))) none
def t_13 (N:Nat):Tab (List UInt8):=[([0,1,0,1,1],z1ki N)]
theorem z1a8 (N:Nat)(x:z16 zwu):z52 (E_13 N) N (t_13 N) L_13 Tryd.f45 (mkS zwu 0 x) (z3j (.v .str) 1)=za3 N x.1:=by kernel_rfl
def zft (N:Nat):List A->Res:=z12 zwu (fun x=>za3 N x.1) (z7r (.v .str) 1)
theorem zp2 (N:Nat):Contract Tryd.prog glob 45 (zft N) :=
 Contract.of (E:=E_13 N) (H:=t_13 N) (L:=L_13) (N:=N) (body:=zwn) (K:=(z3j (.v .str) 1)) (z1qj N) Tryd.func45 (by kernel_rfl) (by decide) (fun _ hb=>(TabOk.cons (z1go hb) TabOk.nil)) (fun x y h=>by rw[z1a8];exact h) (z1a (s:=(.v .str)) (m:=1))
def zpf:Code:=(Tryd.f46.body).getD .skip
def L_14:List (List Nat×List Nat):=[([0],[0]),([0,1],[0,3]),([0,1,1],[0,3,4]),([0,0,1,1,1],[15,14,13,3,4]),([0,1,0,1,1,1],[15,14,13,3,4]),(zx3,[16,15,13,3,4,14]),(z1bg,[15,13,3,4,14]),(z1bi,[4]),(z1cd,[3,6,4,5,15,14,13]),(z1cf,[8,3,6,4,5,15,14,13,7]),(z1bl,[27,3,6,4,5,15,14,13,7]),([1,0,1,1,0,0,1,1,0,0,1,0,1,1,1],[4,5,7,15,14,13,3]),([0,0,1,0,1,1,0,0,1,1,0,0,1,0,1,1,1],[3,6,7,4,5,15,14,13]),([1,0,1,0,1,1,0,0,1,1,0,0,1,0,1,1,1],[4,5,7,15,14,13,3]),([1,1,1,0,0,1,1,0,0,1,0,1,1,1],[15,14,13,3,4]),(z10c,[15,14,13,3,4]),(z10b,[15,14,13,3,4]),([1,0,1,1,1],[4]),([0,1,1,1,1],[2]),([1,1,1,1,1],[2])]
def z1r0 (N:Nat):Env:=z1m tys glob [] [(4,(.int .i64)),(2,(.int .i64))] [] [] false [] [(44,za N)]
theorem z1qi (N:Nat):EnvOk Tryd.prog (z1r0 N):=zi mixed zr (FnsOk.nil) (ItsOk.cons (zb N) (ItsOk.nil))
def z9g (N:Nat)(classes:(Option (List ((List Int)×Int))))(b:(List Int))(i:Int)(key:(List Int))(class_:Int)(seen:Bool)(x13:(List (List Int)))(x14:Int)(x15:Int)(k0:(Option (List ((List Int)×Int)))->Int->Option (List Int)):Option (List Int):=cond (!seen) (cond (Option.isSome classes) (k0 (Option.some (zrg (eqD (T.arr 5 (T.int IntKind.u64))) key (List.length (Option.getD classes ([]:List ((List Int)×Int))):Int) (Option.getD classes ([]:List ((List Int)×Int))))) (List.length (Option.getD classes ([]:List ((List Int)×Int))):Int)) none) (k0 classes class_)
def z1m5 (N:Nat)(x:z16 [(3,.ov (.mp (.arr 5 (.int .u64)) (.int .i64))),(0,.row (.int .i64)),(0,.v (.int .i64)),(0,.box (.arr 5 (.int .u64))),(0,.v (.int .i64)),(0,.v .bool),(4,.v (.sl (.arr 5 (.int .u64)))),(0,.v (.int .i64)),(0,.v (.int .i64))])(K:Ex->List A->Option (List Int)):Option (List Int):=z9g N x.1 x.2.1 x.2.2.1 x.2.2.2.1 x.2.2.2.2.1 x.2.2.2.2.2.1 x.2.2.2.2.2.2.1 x.2.2.2.2.2.2.2.1 x.2.2.2.2.2.2.2.2.1 (fun a0 a3=>(K .normal (mkS [(3,.ov (.mp (.arr 5 (.int .u64)) (.int .i64))),(0,.row (.int .i64)),(0,.v (.int .i64)),(1,.v (.int .i64)),(5,.v (.sl (.arr 5 (.int .u64)))),(0,.v (.int .i64)),(0,.v (.int .i64))] 23 (a0,x.2.1,x.2.2.1,a3,x.2.2.2.2.2.2.1,x.2.2.2.2.2.2.2.1,x.2.2.2.2.2.2.2.2.1,()))))
def z1iw (N:Nat):Hd (List Int):=fun st K=>(unS [(3,.ov (.mp (.arr 5 (.int .u64)) (.int .i64))),(0,.row (.int .i64)),(0,.v (.int .i64)),(0,.box (.arr 5 (.int .u64))),(0,.v (.int .i64)),(0,.v .bool),(4,.v (.sl (.arr 5 (.int .u64)))),(0,.v (.int .i64)),(0,.v (.int .i64))] 23 (restr [8,3,6,4,5,15,14,13,7] 0 st)).bind fun x=>z1m5 N x K
def t2_14 (N:Nat):Tab (List Int):=[]
theorem z1f2 {N:Nat}{c:Ctx}(hb:Base Tryd.prog (z1r0 N) c):zk Tryd.prog c (zh zpf z1cg) (z1iw N) :=
 zw (s:=[(3,.ov (.mp (.arr 5 (.int .u64)) (.int .i64))),(0,.row (.int .i64)),(0,.v (.int .i64)),(0,.box (.arr 5 (.int .u64))),(0,.v (.int .i64)),(0,.v .bool),(4,.v (.sl (.arr 5 (.int .u64)))),(0,.v (.int .i64)),(0,.v (.int .i64))]) (m:=23) (g:=z1m5 N) [8,3,6,4,5,15,14,13,7] (zg hb N (t2_14 N) L_14 zpf TabOk.nil z1cg _ rfl) (fun x K=>by kernel_rfl)
def z67 (N:Nat)(x13:(List (List Int)))(x14:Int)(classes:(Option (List ((List Int)×Int))))(b:(List Int))(x15:Int)(rec:(Option (List ((List Int)×Int)))->(List Int)->Int->Option (List Int))(k0:(List Int)->Option (List Int)):Option (List Int):=cond (decide (x15<x14)) (cond (inR x15 (List.length x13)) (z9g N classes b x15 (List.getD x13 (Int.toNat x15) []) (Option.getD (z5j (eqD (T.arr 5 (T.int IntKind.u64))) (List.getD x13 (Int.toNat x15) []) (Option.getD classes ([]:List ((List Int)×Int)))) 0) (Option.isSome (z5j (eqD (T.arr 5 (T.int IntKind.u64))) (List.getD x13 (Int.toNat x15) []) (Option.getD classes ([]:List ((List Int)×Int))))) x13 x14 x15 (fun classes1 class_=>cond (inR x15 (List.length b)) (cond (decide ((Int.toNat x15)<(List.length b))) (rec classes1 (List.set b (Int.toNat x15) class_) (IntKind.wrap IntKind.i64 (x15+1))) none) none)) none) (k0 b)
def ze8 (N:Nat)(classes:(Option (List ((List Int)×Int))))(b:(List Int))(x13:(List (List Int)))(x14:Int)(x15:Int)(k0:(List Int)->Option (List Int)):Option (List Int):=iter (fun (v:((Option (List ((List Int)×Int)))×(List Int)×Int)) r=>z67 N x13 x14 v.1 v.2.1 v.2.2 (fun classes b x15=>(r (classes,b,x15))) k0) N (classes,b,x15)
def z1nq (N:Nat)(i:((List (List Int))×Int))(v:((Option (List ((List Int)×Int)))×(List Int)×Int))(r:((Option (List ((List Int)×Int)))×(List Int)×Int)->Option (List Int))(K:Ex->List A->Option (List Int)):Option (List Int):=z67 N i.1 i.2 v.1 v.2.1 v.2.2 (fun classes b x15=>(r (classes,b,x15))) (fun a0=>(K (.exit 0) (mkS [(4,.row (.int .i64))] 34 (a0,()))))
def z1kh (N:Nat):Hd (List Int):=fun st K=>(unS [(3,.ov (.mp (.arr 5 (.int .u64)) (.int .i64))),(0,.row (.int .i64)),(8,.v (.sl (.arr 5 (.int .u64)))),(0,.v (.int .i64)),(0,.v (.int .i64))] 23 (restr [15,14,13,3,4] 0 st)).bind fun x=>iter (fun v r=>z1nq N ((fun x=>(x.2.2.1,x.2.2.2.1)) x) v r K) N ((fun x=>(x.1,x.2.1,x.2.2.2.2.1)) x)
def t1_14 (N:Nat):Tab (List Int):=[(z1cg,z1iw N)]
theorem z1gn {N:Nat}{c:Ctx}(hb:Base Tryd.prog (z1r0 N) c):zk Tryd.prog c (zh zpf [0,1,0,1,1,1]) (z1kh N) :=
 z1e (s:=[(3,.ov (.mp (.arr 5 (.int .u64)) (.int .i64))),(0,.row (.int .i64)),(8,.v (.sl (.arr 5 (.int .u64)))),(0,.v (.int .i64)),(0,.v (.int .i64))]) (m:=23) (z1nq N) [15,14,13,3,4] N (fun x=>(x.2.2.1,x.2.2.2.1)) (fun x=>(x.1,x.2.1,x.2.2.2.2.1)) (fun i v=>(v.1,v.2.1,i.1,i.2,v.2.2,())) (fun _=>rfl) (zg hb N (t1_14 N) L_14 zpf (TabOk.cons (z1f2 hb) TabOk.nil) zwv _ rfl) (fun i v r K=>by kernel_rfl)
def z3f (N:Nat)(keys:(List (List Int))):Option (List Int):=cond (decide ((0<=(List.length keys:Int))/\(((List.length keys:Int)<=(List.length keys:Int))/\((((List.length keys:Int)*8)<=281474976710656)/\((List.length keys:Int)<=9223372036854775807))))) (ze8 N (Option.some ([]:List ((List Int)×Int))) (List.replicate (Int.toNat (List.length keys:Int)) 0) keys (List.length keys:Int) 0 (fun b=>some b)) none
def t_14 (N:Nat):Tab (List Int):=[([0,1,0,1,1,1],z1kh N)]
theorem z1a7 (N:Nat)(x:z16 [(0,.v (.sl (.arr 5 (.int .u64))))]):z52 (z1r0 N) N (t_14 N) L_14 Tryd.f46 (mkS [(0,.v (.sl (.arr 5 (.int .u64))))] 0 x) (z3j (.v (.sl (.int .i64))) 1)=z3f N x.1:=by kernel_rfl
def zd7 (N:Nat):List A->Res:=z12 [(0,.v (.sl (.arr 5 (.int .u64))))] (fun x=>z3f N x.1) (z7r (.v (.sl (.int .i64))) 1)
theorem zly (N:Nat):Contract Tryd.prog glob 46 (zd7 N) :=
 Contract.of (E:=z1r0 N) (H:=t_14 N) (L:=L_14) (N:=N) (body:=zpf) (K:=(z3j (.v (.sl (.int .i64))) 1)) (z1qi N) Tryd.func46 (by kernel_rfl) (by decide) (fun _ hb=>(TabOk.cons (z1gn hb) TabOk.nil)) (fun x y h=>by rw[z1a7];exact h) (z1a (s:=(.v (.sl (.int .i64)))) (m:=1))
def zjq:Code:=(Tryd.f27.body).getD .skip
def z1oh:List (List Nat×List Nat):=[([0],[0,1]),([0,1],[0,5,1]),([0,0,1,1],[15,14,13,5,1]),([0,1,0,1,1],[15,14,13,5,1]),(z13d,[16,15,13,5,14,1]),(z10h,[15,13,5,14,1]),(z13g,[1,5]),(z13h,[5,6,7,15,14,13,1]),(z1cc,[15,14,13,5,1]),(z13f,[15,14,13,5,1]),(z13e,[15,14,13,5,1]),([1,0,1,1],[1,5]),([0,0,1,1,1],[29,28,27,5]),([0,1,0,1,1,1],[29,28,27,5]),(zx3,[30,29,27,5,28]),(z1bg,[29,27,5,28]),(z1bi,[5]),(z1cd,[9,5,8,29,28,27]),(z1cf,z1bh),(z1cg,z1bh),([0,0,0,1,1,0,0,1,1,0,0,1,0,1,1,1],[39,36,38,5,8,37,29,28,27]),([0,1,0,0,1,1,0,0,1,1,0,0,1,0,1,1,1],[36,38,5,8,37,29,28,27]),([1,0,1,0,0,1,1,0,0,1,1,0,0,1,0,1,1,1],[29,28,27,5]),([0,0,0,1,1,0,0,1,1,0,0,1,1,0,0,1,0,1,1,1],[5,11,8,38,37,36,29,28,27]),([1,0,0,1,1,0,0,1,1,0,0,1,1,0,0,1,0,1,1,1],z1bh),([0,1,1,0,0,1,1,0,0,1,1,0,0,1,0,1,1,1],z1bh),([1,1,1,0,0,1,1,0,0,1,1,0,0,1,0,1,1,1],z1bh),([1,1,0,0,1,1,0,0,1,0,1,1,1],[29,28,27,5]),(z10c,[29,28,27,5]),(z10b,[29,28,27,5]),([1,0,1,1,1],[5]),([0,1,1,1,1],[4]),([1,1,1,1,1],[4])]
def z1cr (N:Nat):Env:=z1m tys glob [(46,zd7 N),(45,zft N)] [(5,(.arr 5 (.int .u64))),(4,(.int .i64))] [] [] false [] [(44,za N)]
theorem z1qh (N:Nat):EnvOk Tryd.prog (z1cr N):=zi mixed zr (FnsOk.cons (zly N) (FnsOk.cons (zp2 N) (FnsOk.nil))) (ItsOk.cons (zb N) (ItsOk.nil))
def z8m (N:Nat)(sets:(List (List Int)))(x13:(List Int))(x14:Int)(traits:(List (List Int)))(x15:Int)(rec:(List (List Int))->Int->Option (List Int))(k0:(List (List Int))->Option (List Int)):Option (List Int):=cond (decide (x15<x14)) (cond (inR x15 (List.length x13)) (cond (inR x15 (List.length traits)) (cond (z1t (decide ((Int.toNat x15)<(List.length traits))) (decide (0<(List.length (List.getD traits (Int.toNat x15) []))))) (rec (List.set traits (Int.toNat x15) (List.set (List.getD traits (Int.toNat x15) []) 0 (IntKind.wrap IntKind.u64 (List.getD x13 (Int.toNat x15) 0)))) (IntKind.wrap IntKind.i64 (x15+1))) none) none) none) (k0 traits)
def zce (N:Nat)(sets:(List (List Int)))(traits:(List (List Int)))(x13:(List Int))(x14:Int)(x15:Int)(k0:(List (List Int))->Option (List Int)):Option (List Int):=iter (fun (v:((List (List Int))×Int)) r=>z8m N sets x13 x14 v.1 v.2 (fun traits x15=>(r (traits,x15))) k0) N (traits,x15)
def z1np (N:Nat)(i:((List (List Int))×(List Int)×Int))(v:((List (List Int))×Int))(r:((List (List Int))×Int)->Option (List Int))(K:Ex->List A->Option (List Int)):Option (List Int):=z8m N i.1 i.2.1 i.2.2 v.1 v.2 (fun traits x15=>(r (traits,x15))) (fun a1=>(K (.exit 0) (mkS [(1,.v (.sl (.arr 4 (.int .u64)))),(3,.row (.arr 5 (.int .u64)))] 54 (i.1,a1,()))))
def z1kg (N:Nat):Hd (List Int):=fun st K=>(unS SQ58 44 (restr [15,14,13,5,1] 0 st)).bind fun x=>iter (fun v r=>z1np N ((fun x=>(x.1,x.2.2.1,x.2.2.2.1)) x) v r K) N ((fun x=>(x.2.1,x.2.2.2.2.1)) x)
def t1_15 (N:Nat):Tab (List Int):=[]
theorem z1gm {N:Nat}{c:Ctx}(hb:Base Tryd.prog (z1cr N) c):zk Tryd.prog c (zh zjq [0,1,0,1,1]) (z1kg N) :=
 z1e (s:=SQ58) (m:=44) (z1np N) [15,14,13,5,1] N (fun x=>(x.1,x.2.2.1,x.2.2.2.1)) (fun x=>(x.2.1,x.2.2.2.2.1)) (fun i v=>(i.1,v.1,i.2.1,i.2.2,v.2,())) (fun _=>rfl) (zg hb N (t1_15 N) z1oh zjq TabOk.nil [0,0,1,0,1,1] _ rfl) (fun i v r K=>by kernel_rfl)
def z8k (N:Nat)(i:Int)(x27:(List (List Int)))(x28:Int)(x29:Int)(x36:(List Int))(x37:Int)(traits:(List (List Int)))(x38:Int)(rec:(List (List Int))->Int->Option (List Int))(k0:(List (List Int))->Option (List Int)):Option (List Int):=cond (decide (x38<x37)) (cond (inR x38 (List.length x36)) (cond (decide ((Int.toNat x38)<(List.length x36))) (cond (inR (List.getD x36 (Int.toNat x38) 0) (List.length traits)) (cond (inR (IntKind.wrap IntKind.i64 (1+(IntKind.wrap IntKind.i64 (Int.tdiv i 64)))) 5) (cond (z1t (decide ((Int.toNat (List.getD x36 (Int.toNat x38) 0))<(List.length traits))) (decide ((Int.toNat (IntKind.wrap IntKind.i64 (1+(IntKind.wrap IntKind.i64 (Int.tdiv i 64)))))<(List.length (List.getD traits (Int.toNat (List.getD x36 (Int.toNat x38) 0)) []))))) (cond (decide (0<=(Int.tmod i 64))) (cond (inR (List.getD x36 (Int.toNat x38) 0) (List.length traits)) (cond (inR (IntKind.wrap IntKind.i64 (1+(IntKind.wrap IntKind.i64 (Int.tdiv i 64)))) 5) (cond (z1t (decide ((Int.toNat (List.getD x36 (Int.toNat x38) 0))<(List.length traits))) (decide ((Int.toNat (IntKind.wrap IntKind.i64 (1+(IntKind.wrap IntKind.i64 (Int.tdiv i 64)))))<(List.length (List.getD traits (Int.toNat (List.getD x36 (Int.toNat x38) 0)) []))))) (rec (List.set traits (Int.toNat (List.getD x36 (Int.toNat x38) 0)) (List.set (List.getD traits (Int.toNat (List.getD x36 (Int.toNat x38) 0)) []) (Int.toNat (IntKind.wrap IntKind.i64 (1+(IntKind.wrap IntKind.i64 (Int.tdiv i 64))))) (zd Go.BinOp.or IntKind.u64 (List.getD (List.getD traits (Int.toNat (List.getD x36 (Int.toNat x38) 0)) []) (Int.toNat (IntKind.wrap IntKind.i64 (1+(IntKind.wrap IntKind.i64 (Int.tdiv i 64))))) 0) (zsh IntKind.u64 1 (Int.tmod i 64))))) (IntKind.wrap IntKind.i64 (x38+1))) none) none) none) none) none) none) none) none) none) (k0 traits)
def zcd (N:Nat)(traits:(List (List Int)))(i:Int)(x27:(List (List Int)))(x28:Int)(x29:Int)(x36:(List Int))(x37:Int)(x38:Int)(k0:(List (List Int))->Option (List Int)):Option (List Int):=iter (fun (v:((List (List Int))×Int)) r=>z8k N i x27 x28 x29 x36 x37 v.1 v.2 (fun traits x38=>(r (traits,x38))) k0) N (traits,x38)
def z1ld (N:Nat)(i:(Int×(List (List Int))×Int×Int×(List Int)×Int))(v:((List (List Int))×Int))(r:((List (List Int))×Int)->Option (List Int))(K:Ex->List A->Option (List Int)):Option (List Int):=z8k N i.1 i.2.1 i.2.2.1 i.2.2.2.1 i.2.2.2.2.1 i.2.2.2.2.2 v.1 v.2 (fun traits x38=>(r (traits,x38))) (fun a0=>(K (.exit 4) (mkS [(5,.row (.arr 5 (.int .u64))),(21,.v (.sl (.arr 4 (.int .u64)))),(0,.v (.int .i64)),(0,.v (.int .i64))] 30 (a0,i.2.1,i.2.2.1,i.2.2.2.1,()))))
def z1i4 (N:Nat):Hd (List Int):=fun st K=>(unS [(5,.row (.arr 5 (.int .u64))),(2,.v (.int .i64)),(18,.v (.sl (.arr 4 (.int .u64)))),(0,.v (.int .i64)),(0,.v (.int .i64)),(6,.row (.int .u8)),(0,.v (.int .i64)),(0,.v (.int .i64))] 21 (restr z1bh 0 st)).bind fun x=>iter (fun v r=>z1ld N ((fun x=>(x.2.1,x.2.2.1,x.2.2.2.1,x.2.2.2.2.1,x.2.2.2.2.2.1,x.2.2.2.2.2.2.1)) x) v r K) N ((fun x=>(x.1,x.2.2.2.2.2.2.2.1)) x)
def t3_15 (N:Nat):Tab (List Int):=[]
theorem z1ea {N:Nat}{c:Ctx}(hb:Base Tryd.prog (z1cr N) c):zk Tryd.prog c (zh zjq z1cg) (z1i4 N) :=
 z1e (s:=[(5,.row (.arr 5 (.int .u64))),(2,.v (.int .i64)),(18,.v (.sl (.arr 4 (.int .u64)))),(0,.v (.int .i64)),(0,.v (.int .i64)),(6,.row (.int .u8)),(0,.v (.int .i64)),(0,.v (.int .i64))]) (m:=21) (z1ld N) z1bh N (fun x=>(x.2.1,x.2.2.1,x.2.2.2.1,x.2.2.2.2.1,x.2.2.2.2.2.1,x.2.2.2.2.2.2.1)) (fun x=>(x.1,x.2.2.2.2.2.2.2.1)) (fun i v=>(v.1,i.1,i.2.1,i.2.2.1,i.2.2.2.1,i.2.2.2.2.1,i.2.2.2.2.2,v.2,())) (fun _=>rfl) (zg hb N (t3_15 N) z1oh zjq TabOk.nil z1bl _ rfl) (fun i v r K=>by kernel_rfl)
def z8l (N:Nat)(x27:(List (List Int)))(x28:Int)(traits:(List (List Int)))(x29:Int)(rec:(List (List Int))->Int->Option (List Int))(k0:(List (List Int))->Option (List Int)):Option (List Int):=cond (decide (x29<x28)) (cond (inR x29 (List.length x27)) ((za3 N (List.getD x27 (Int.toNat x29) [])).bind fun y=>zcd N traits x29 x27 x28 x29 (zdt y) (List.length (zdt y):Int) 0 (fun traits1=>rec traits1 (IntKind.wrap IntKind.i64 (x29+1)))) none) (k0 traits)
def z8n (N:Nat)(traits:(List (List Int)))(x27:(List (List Int)))(x28:Int)(x29:Int)(k0:(List (List Int))->Option (List Int)):Option (List Int):=iter (fun (v:((List (List Int))×Int)) r=>z8l N x27 x28 v.1 v.2 (fun traits x29=>(r (traits,x29))) k0) N (traits,x29)
def z1m4 (N:Nat)(i:((List (List Int))×Int))(v:((List (List Int))×Int))(r:((List (List Int))×Int)->Option (List Int))(K:Ex->List A->Option (List Int)):Option (List Int):=z8l N i.1 i.2 v.1 v.2 (fun traits x29=>(r (traits,x29))) (fun a0=>(K (.exit 2) (mkS [(5,.row (.arr 5 (.int .u64)))] 54 (a0,()))))
def z1iv (N:Nat):Hd (List Int):=fun st K=>(unS [(5,.row (.arr 5 (.int .u64))),(21,.v (.sl (.arr 4 (.int .u64)))),(0,.v (.int .i64)),(0,.v (.int .i64))] 30 (restr [29,28,27,5] 0 st)).bind fun x=>iter (fun v r=>z1m4 N ((fun x=>(x.2.1,x.2.2.1)) x) v r K) N ((fun x=>(x.1,x.2.2.2.1)) x)
def t2_15 (N:Nat):Tab (List Int):=[(z1cg,z1i4 N)]
theorem z1f1 {N:Nat}{c:Ctx}(hb:Base Tryd.prog (z1cr N) c):zk Tryd.prog c (zh zjq [0,1,0,1,1,1]) (z1iv N) :=
 z1e (s:=[(5,.row (.arr 5 (.int .u64))),(21,.v (.sl (.arr 4 (.int .u64)))),(0,.v (.int .i64)),(0,.v (.int .i64))]) (m:=30) (z1m4 N) [29,28,27,5] N (fun x=>(x.2.1,x.2.2.1)) (fun x=>(x.1,x.2.2.2.1)) (fun i v=>(v.1,i.1,i.2,v.2,())) (fun _=>rfl) (zg hb N (t2_15 N) z1oh zjq (TabOk.cons (z1ea hb) TabOk.nil) zwv _ rfl) (fun i v r K=>by kernel_rfl)
def za4 (N:Nat)(b:(List Int))(sets:(List (List Int))):Option (List Int):=zce N sets (List.replicate 256 ([0,0,0,0,0]:List Int)) b (List.length b:Int) 0 (fun traits=>z8n N traits sets (List.length sets:Int) 0 (fun traits1=>(z3f N traits1).bind fun y=>some y))
def t_15 (N:Nat):Tab (List Int):=[([0,1,0,1,1],z1kg N),([0,1,0,1,1,1],z1iv N)]
theorem z1a6 (N:Nat)(x:z16 SQ90):z52 (z1cr N) N (t_15 N) z1oh Tryd.f27 (mkS SQ90 0 x) (z3j (.v (.sl (.int .i64))) 2)=za4 N x.1 x.2.1:=by kernel_rfl
def zfx (N:Nat):List A->Res:=z12 SQ90 (fun x=>za4 N x.1 x.2.1) (z7r (.v (.sl (.int .i64))) 2)
theorem zpg (N:Nat):Contract Tryd.prog glob 27 (zfx N) :=
 Contract.of (E:=z1cr N) (H:=t_15 N) (L:=z1oh) (N:=N) (body:=zjq) (K:=(z3j (.v (.sl (.int .i64))) 2)) (z1qh N) Tryd.func27 (by kernel_rfl) (by decide) (fun _ hb=>(TabOk.cons (z1gm hb) (TabOk.cons (z1f1 hb) TabOk.nil))) (fun x y h=>by rw[z1a6];exact h) (z1a (s:=(.v (.sl (.int .i64)))) (m:=2))
def zsf:Code:=(Tryd.f12.body).getD .skip
def L_16:List (List Nat×List Nat):=[([0],[0]),([0,1],[0,3]),([0,0,1,1],[7,3]),([0,1,0,1,1],[3]),([0,0,1,0,1,1],[3,4]),([0,1,0,1,0,1,1],[3]),([1,0,1,0,1,1],[3]),([1,0,1,1],[3]),([0,1,1,1],[2]),([1,1,1,1],[2])]
def z1qz (N:Nat):Env:=z1m tys glob [(27,zfx N),(26,zfk N)] [(4,(.arr 4 (.int .u64))),(2,(.int .i64))] [] [] false [] [(44,za N)]
theorem z1qg (N:Nat):EnvOk Tryd.prog (z1qz N):=zi mixed zr (FnsOk.cons (zpg N) (FnsOk.cons (znr N) (FnsOk.nil))) (ItsOk.cons (zb N) (ItsOk.nil))
def zh9 (N:Nat)(b_1:(List Int))(y:((List (List Int))×Unit))(rec:(List Int)->Option (List Int))(k0:(List Int)->Option (List Int)):Option (List Int):=(za4 N b_1 y.1).bind fun y1=>rec y1
def z9j (N:Nat)(b:(List Int))(x7:((List (List Int))×(Int×Unit))):Option (List ((List (List Int))×Unit)):=(z7y N x7.1 x7.2.1)
def zha (N:Nat)(b:(List Int))(x7:((List (List Int))×(Int×Unit))):Unit:=()
def zmp (N:Nat)(b:(List Int))(x7:((List (List Int))×(Int×Unit))):(List Int):=b
def zmq (N:Nat)(b:(List Int))(x7:((List (List Int))×(Int×Unit)))(k0:(List Int)->Option (List Int)):Option (List Int):=(z9j N b x7).bind fun ys=>zvb (fun (y:((List (List Int))×Unit)) (v:(List Int)) r=>zh9 N v y (fun b_1=>(r b_1)) k0) (fun (v:(List Int))=>k0 v) ys b
def z1no (N:Nat)(y:((List (List Int))×Unit))(i:Unit)(v:(List Int))(r:(List Int)->Option (List Int))(K:Ex->List A->Option (List Int)):Option (List Int):=zh9 N v y (fun b_1=>(r b_1)) (fun a0=>(K .normal (mkS [(3,.box (.sl (.int .i64)))] 9 (a0,()))))
def z1kf (N:Nat):Hd (List Int):=fun st K=>(unS [(3,.box (.sl (.int .i64))),(3,.v (.fn 44 (.pair (.ptr (.sl (.arr 4 (.int .u64)))) (.pair (.ptr (.int .i64)) .unit))))] 5 (restr [7,3] 0 st)).bind fun x=>((fun x=>z9j N x.1 x.2.1) x).bind fun xs=>zvb (fun y v r=>z1no N y ((fun x=>zha N x.1 x.2.1) x) v r K) (fun v=>K .normal (mkS [(3,.box (.sl (.int .i64)))] 9 ((fun i v=>(v,())) ((fun x=>zha N x.1 x.2.1) x) v))) xs ((fun x=>zmp N x.1 x.2.1) x)
theorem z1gl {N:Nat}{c:Ctx}(hb:Base Tryd.prog (z1qz N) c):zk Tryd.prog c (zh zsf [0,1,0,1,1]) (z1kf N) :=
 rf_ok (ts:=[(.sl (.arr 4 (.int .u64)))]) (s:=[(3,.box (.sl (.int .i64))),(3,.v (.fn 44 (.pair (.ptr (.sl (.arr 4 (.int .u64)))) (.pair (.ptr (.int .i64)) .unit))))]) (m:=5) (s2:=[(3,.box (.sl (.int .i64)))]) (m2:=9) [7,3] (fun x=>z9j N x.1 x.2.1) (fun x=>zha N x.1 x.2.1) (fun x=>zmp N x.1 x.2.1) (fun i v=>(v,())) (rfF (z1qz N) N [(.sl (.arr 4 (.int .u64)))] (zh zsf [0,1,0,1,1])) (z1no N) (zg hb N [] L_16 zsf TabOk.nil [0,1,0,1,1] _ rfl) (fun x K=>by kernel_rfl) (fun y i v r K=>by kernel_rfl)
def za5 (N:Nat)(sets:(List (List Int))):Option (List Int):=zmq N (List.replicate 256 0) (sets,(256,())) (fun b_1=>some b_1)
def t_16 (N:Nat):Tab (List Int):=[([0,1,0,1,1],z1kf N)]
theorem z1a5 (N:Nat)(x:z16 [(0,.v (.sl (.arr 4 (.int .u64))))]):z52 (z1qz N) N (t_16 N) L_16 Tryd.f12 (mkS [(0,.v (.sl (.arr 4 (.int .u64))))] 0 x) (z3j (.v (.sl (.int .i64))) 1)=za5 N x.1:=by kernel_rfl
def zku (N:Nat):List A->Res:=z12 [(0,.v (.sl (.arr 4 (.int .u64))))] (fun x=>za5 N x.1) (z7r (.v (.sl (.int .i64))) 1)
theorem zmr (N:Nat):Contract Tryd.prog glob 12 (zku N) :=
 Contract.of (E:=z1qz N) (H:=t_16 N) (L:=L_16) (N:=N) (body:=zsf) (K:=(z3j (.v (.sl (.int .i64))) 1)) (z1qg N) Tryd.func12 (by kernel_rfl) (by decide) (fun _ hb=>(TabOk.cons (z1gl hb) TabOk.nil)) (fun x y h=>by rw[z1a5];exact h) (z1a (s:=(.v (.sl (.int .i64)))) (m:=1))
def zcc:Code:=(Tryd.f14.body).getD .skip
def z1bq:List (List Nat×List Nat):=[([0],[0]),([0,0,1],[14,0]),([1,0,1],[0]),([0,0,1,0,1],[2]),([1,0,1,0,1],[2]),([0,1,1],[0,3]),([0,0,1,1,1],[17,16,15,3]),([0,1,0,1,1,1],[17,16,15,3]),(zx3,[18,15,17,3,16]),(z1bg,[15,17,3,16]),(z1bi,[]),(z1cd,[5,3,17,16,15]),(z15d,[28,3,5,17,16,15]),([1,0,1,0,0,1,1,0,0,1,0,1,1,1],[3,5,17,16,15]),([0,0,1,0,1,0,0,1,1,0,0,1,0,1,1,1],[2]),([1,0,1,0,1,0,0,1,1,0,0,1,0,1,1,1],[2]),([1,1,0,0,1,1,0,0,1,0,1,1,1],[17,16,15,3]),(z10c,[17,16,15,3]),(z10b,[17,16,15,3]),([1,0,1,1,1],[]),([0,1,1,1,1],[2]),([1,1,1,1,1],[2])]
def z16k (N:Nat):Env:=z1m tys glob [] [] [] [] false [] [(44,za N)]
theorem z1qf (N:Nat):EnvOk Tryd.prog (z16k N):=zi mixed zr (FnsOk.nil) (ItsOk.cons (zb N) (ItsOk.nil))
def zch (N:Nat)(b:(List Int))(k0:Bool->Option Bool):Option Bool:=cond ((List.length b:Int) != 256) (k0 true) (cond (inR 0 (List.length b)) (k0 ((List.getD b 0 0) != 0)) none)
def z1m3 (N:Nat)(x:z16 zpn)(K:Ex->List A->Option Bool):Option Bool:=zch N x.1 (fun a1=>(K .normal (mkS [(0,.v (.sl (.int .i64))),(13,.v .bool)] 18 (x.1,a1,()))))
def z1iu (N:Nat):Hd Bool:=fun st K=>(unS zpn 32 (restr [0] 0 st)).bind fun x=>z1m3 N x K
def t2_17 (N:Nat):Tab Bool:=[]
theorem z1f0 {N:Nat}{c:Ctx}(hb:Base Tryd.prog (z16k N) c):zk Tryd.prog c (zh zcc [0,0,1]) (z1iu N) :=
 zw (s:=zpn) (m:=32) (g:=z1m3 N) [0] (zg hb N (t2_17 N) z1bq zcc TabOk.nil [0,0,1] _ rfl) (fun x K=>by kernel_rfl)
def zci (N:Nat)(b:(List Int))(k0:Bool->Option Bool)(k1:Option Bool):Option Bool:=zch N b (fun x14=>cond x14 (k0 false) k1)
def z1nn (N:Nat)(x:z16 zpn)(K:Ex->List A->Option Bool):Option Bool:=zci N x.1 (fun a0=>(K .ret (mkS [(2,.v .bool)] 30 (a0,())))) (K .normal (mkS zpn 32 (x.1,())))
def z1ke (N:Nat):Hd Bool:=fun st K=>(unS zpn 32 (restr [0] 0 st)).bind fun x=>z1nn N x K
def t1_17 (N:Nat):Tab Bool:=[([0,0,1],z1iu N)]
theorem z1gk {N:Nat}{c:Ctx}(hb:Base Tryd.prog (z16k N) c):zk Tryd.prog c (zh zcc [0,1]) (z1ke N) :=
 zw (s:=zpn) (m:=32) (g:=z1nn N) [0] (zg hb N (t1_17 N) z1bq zcc (TabOk.cons (z1f0 hb) TabOk.nil) [0,1] _ rfl) (fun x K=>by kernel_rfl)
def zcf (N:Nat)(most:Int)(class_:Int)(x15:(List Int))(x16:Int)(x17:Int)(k0:Bool->Option Bool):Option Bool:=cond (decide (class_<0)) (k0 true) (k0 (decide ((IntKind.wrap IntKind.i64 (most+1))<class_)))
def z1kq (N:Nat)(x:z16 SQ9)(K:Ex->List A->Option Bool):Option Bool:=zcf N x.1 x.2.1 x.2.2.1 x.2.2.2.1 x.2.2.2.2.1 (fun a5=>(K .normal (mkS [(3,.v (.int .i64)),(1,.v (.int .i64)),(9,.v (.sl (.int .i64))),(0,.v (.int .i64)),(0,.v (.int .i64)),(10,.v .bool)] 4 (x.1,x.2.1,x.2.2.1,x.2.2.2.1,x.2.2.2.2.1,a5,()))))
def z1hh (N:Nat):Hd Bool:=fun st K=>(unS SQ9 15 (restr [5,3,17,16,15] 0 st)).bind fun x=>z1kq N x K
def t5_17 (N:Nat):Tab Bool:=[]
theorem z1dn {N:Nat}{c:Ctx}(hb:Base Tryd.prog (z16k N) c):zk Tryd.prog c (zh zcc z15d) (z1hh N) :=
 zw (s:=SQ9) (m:=15) (g:=z1kq N) [5,3,17,16,15] (zg hb N (t5_17 N) z1bq zcc TabOk.nil z15d _ rfl) (fun x K=>by kernel_rfl)
def zcg (N:Nat)(most:Int)(class_:Int)(x15:(List Int))(x16:Int)(x17:Int)(k0:Bool->Option Bool)(k1:Option Bool):Option Bool:=zcf N most class_ x15 x16 x17 (fun x28=>cond x28 (k0 false) k1)
def z1ky (N:Nat)(x:z16 SQ9)(K:Ex->List A->Option Bool):Option Bool:=zcg N x.1 x.2.1 x.2.2.1 x.2.2.2.1 x.2.2.2.2.1 (fun a0=>(K .ret (mkS [(2,.v .bool)] 30 (a0,())))) (K .normal (mkS SQ9 15 (x.1,x.2.1,x.2.2.1,x.2.2.2.1,x.2.2.2.2.1,())))
def z1hp (N:Nat):Hd Bool:=fun st K=>(unS SQ9 15 (restr [5,3,17,16,15] 0 st)).bind fun x=>z1ky N x K
def t4_17 (N:Nat):Tab Bool:=[(z15d,z1hh N)]
theorem z1dv {N:Nat}{c:Ctx}(hb:Base Tryd.prog (z16k N) c):zk Tryd.prog c (zh zcc z1cf) (z1hp N) :=
 zw (s:=SQ9) (m:=15) (g:=z1ky N) [5,3,17,16,15] (zg hb N (t4_17 N) z1bq zcc (TabOk.cons (z1dn hb) TabOk.nil) z1cf _ rfl) (fun x K=>by kernel_rfl)
def z8o (N:Nat)(x15:(List Int))(x16:Int)(most:Int)(x17:Int)(rec:Int->Int->Option Bool)(k0:Bool->Option Bool)(k1:Option Bool):Option Bool:=cond (decide (x17<x16)) (cond (inR x17 (List.length x15)) (zcg N most (List.getD x15 (Int.toNat x17) 0) x15 x16 x17 (fun x2=>k0 x2) (rec (if ((List.getD x15 (Int.toNat x17) 0) > most) then (List.getD x15 (Int.toNat x17) 0) else most) (IntKind.wrap IntKind.i64 (x17+1)))) none) k1
def zh8 (N:Nat)(most:Int)(x15:(List Int))(x16:Int)(x17:Int)(k0:Bool->Option Bool)(k1:Option Bool):Option Bool:=iter (fun (v:(Int×Int)) r=>z8o N x15 x16 v.1 v.2 (fun most x17=>(r (most,x17))) k0 k1) N (most,x17)
def z1lc (N:Nat)(i:((List Int)×Int))(v:(Int×Int))(r:(Int×Int)->Option Bool)(K:Ex->List A->Option Bool):Option Bool:=z8o N i.1 i.2 v.1 v.2 (fun most x17=>(r (most,x17))) (fun a0=>(K .ret (mkS [(2,.v .bool)] 30 (a0,())))) (K (.exit 0) (mkS [] 33 ()))
def z1i3 (N:Nat):Hd Bool:=fun st K=>(unS SQ98 15 (restr [17,16,15,3] 0 st)).bind fun x=>iter (fun v r=>z1lc N ((fun x=>(x.2.1,x.2.2.1)) x) v r K) N ((fun x=>(x.1,x.2.2.2.1)) x)
def t3_17 (N:Nat):Tab Bool:=[(z1cf,z1hp N)]
theorem z1e9 {N:Nat}{c:Ctx}(hb:Base Tryd.prog (z16k N) c):zk Tryd.prog c (zh zcc [0,1,0,1,1,1]) (z1i3 N) :=
 z1e (s:=SQ98) (m:=15) (z1lc N) [17,16,15,3] N (fun x=>(x.2.1,x.2.2.1)) (fun x=>(x.1,x.2.2.2.1)) (fun i v=>(v.1,i.1,i.2,v.2,())) (fun _=>rfl) (zg hb N (t3_17 N) z1bq zcc (TabOk.cons (z1dv hb) TabOk.nil) zwv _ rfl) (fun i v r K=>by kernel_rfl)
def z5z (N:Nat)(b:(List Int)):Option Bool:=zci N b (fun x2=>some x2) (zh8 N 0 b (List.length b:Int) 0 (fun x21=>some x21) (some true))
def t_17 (N:Nat):Tab Bool:=[([0,1],z1ke N),([0,1,0,1,1,1],z1i3 N)]
theorem z1a4 (N:Nat)(x:z16 zpn):z52 (z16k N) N (t_17 N) z1bq Tryd.f14 (mkS zpn 0 x) (z3j (.v .bool) 1)=z5z N x.1:=by kernel_rfl
def z71 (N:Nat):List A->Res:=z12 zpn (fun x=>z5z N x.1) (z7r (.v .bool) 1)
theorem zcj (N:Nat):Contract Tryd.prog glob 14 (z71 N) :=
 Contract.of (E:=z16k N) (H:=t_17 N) (L:=z1bq) (N:=N) (body:=zcc) (K:=(z3j (.v .bool) 1)) (z1qf N) Tryd.func14 (by kernel_rfl) (by decide) (fun _ hb=>(TabOk.cons (z1gk hb) (TabOk.cons (z1e9 hb) TabOk.nil))) (fun x y h=>by rw[z1a4];exact h) (z1a (s:=(.v .bool)) (m:=1))
def zpe:Code:=(Tryd.f28.body).getD .skip
def L_18:List (List Nat×List Nat):=[([0],[0]),([0,0,1],[7,0]),([1,0,1],[0]),([0,1,0,1],[0]),([0,1,1],[0,3]),([0,0,1,1,1],[4,0,3]),([0,1,0,1,1,1],[4,0,3]),([0,0,0,0,1,0,1,1,1],[15,3,0,4]),([1,0,0,0,1,0,1,1,1],[3,0,4]),([1,1,0,0,0,1,0,1,1,1],[3]),([0,0,1,0,0,1,0,1,1,1],[4,0,3]),(z1bg,[4,0,3]),([1,1,0,0,1,0,1,1,1],[4,0,3]),([1,0,1,1,1],[3]),([0,1,1,1,1],[2]),([1,1,1,1,1],[2])]
def z1qy (N:Nat):Env:=z1m tys glob [] [] [] [] false [] [(44,za N)]
theorem z1qe (N:Nat):EnvOk Tryd.prog (z1qy N):=zi mixed zr (FnsOk.nil) (ItsOk.cons (zb N) (ItsOk.nil))
def z5n (N:Nat)(x0:(List Int))(k0:Option Int):Option Int:=cond (decide ((List.length x0:Int)<1)) none k0
def z1nm (N:Nat)(x:z16 zpn)(K:Ex->List A->Option Int):Option Int:=z5n N x.1 (K .normal (mkS zpn 24 (x.1,())))
def z1kd (N:Nat):Hd Int:=fun st K=>(unS zpn 24 (restr [0] 0 st)).bind fun x=>z1nm N x K
def t1_18 (N:Nat):Tab Int:=[]
theorem z1gj {N:Nat}{c:Ctx}(hb:Base Tryd.prog (z1qy N) c):zk Tryd.prog c (zh zpe [0,1]) (z1kd N) :=
 zw (s:=zpn) (m:=24) (g:=z1nm N) [0] (zg hb N (t1_18 N) L_18 zpe TabOk.nil [0,1] _ rfl) (fun x K=>by kernel_rfl)
def z3x (N:Nat)(x0:(List Int))(m:Int)(i:Int)(rec:Int->Int->Option Int)(k0:Int->Option Int):Option Int:=cond (decide (i<(List.length x0:Int))) (cond (inR i (List.length x0)) (rec (if ((List.getD x0 (Int.toNat i) 0) > m) then (List.getD x0 (Int.toNat i) 0) else m) (IntKind.wrap IntKind.i64 (i+1))) none) (k0 m)
def z9r (N:Nat)(x0:(List Int))(m:Int)(i:Int)(k0:Int->Option Int):Option Int:=iter (fun (v:(Int×Int)) r=>z3x N x0 v.1 v.2 (fun m i=>(r (m,i))) k0) N (m,i)
def z1m2 (N:Nat)(i:(List Int))(v:(Int×Int))(r:(Int×Int)->Option Int)(K:Ex->List A->Option Int):Option Int:=z3x N i v.1 v.2 (fun m i=>(r (m,i))) (fun a0=>(K (.exit 0) (mkS [(3,.v (.int .i64))] 21 (a0,()))))
def z1it (N:Nat):Hd Int:=fun st K=>(unS [(0,.v (.sl (.int .i64))),(2,.v (.int .i64)),(0,.v (.int .i64))] 20 (restr [4,0,3] 0 st)).bind fun x=>iter (fun v r=>z1m2 N ((fun x=>x.1) x) v r K) N ((fun x=>(x.2.1,x.2.2.1)) x)
def t2_18 (N:Nat):Tab Int:=[]
theorem z1ez {N:Nat}{c:Ctx}(hb:Base Tryd.prog (z1qy N) c):zk Tryd.prog c (zh zpe [0,1,0,1,1,1]) (z1it N) :=
 z1e (s:=[(0,.v (.sl (.int .i64))),(2,.v (.int .i64)),(0,.v (.int .i64))]) (m:=20) (z1m2 N) [4,0,3] N (fun x=>x.1) (fun x=>(x.2.1,x.2.2.1)) (fun i v=>(i,v.1,v.2,())) (fun _=>rfl) (zg hb N (t2_18 N) L_18 zpe TabOk.nil zwv _ rfl) (fun i v r K=>by kernel_rfl)
def z3y (N:Nat)(x0:(List Int)):Option Int:=z5n N x0 (cond (inR 0 (List.length x0)) (z9r N x0 (List.getD x0 0 0) 1 (fun m=>some m)) none)
def t_18 (N:Nat):Tab Int:=[([0,1],z1kd N),([0,1,0,1,1,1],z1it N)]
theorem z1a3 (N:Nat)(x:z16 zpn):z52 (z1qy N) N (t_18 N) L_18 Tryd.f28 (mkS zpn 0 x) (z3j (.v (.int .i64)) 1)=z3y N x.1:=by kernel_rfl
def z8s (N:Nat):List A->Res:=z12 zpn (fun x=>z3y N x.1) (z7r (.v (.int .i64)) 1)
theorem zg8 (N:Nat):Contract Tryd.prog glob 28 (z8s N) :=
 Contract.of (E:=z1qy N) (H:=t_18 N) (L:=L_18) (N:=N) (body:=zpe) (K:=(z3j (.v (.int .i64)) 1)) (z1qe N) Tryd.func28 (by kernel_rfl) (by decide) (fun _ hb=>(TabOk.cons (z1gj hb) (TabOk.cons (z1ez hb) TabOk.nil))) (fun x y h=>by rw[z1a3];exact h) (z1a (s:=(.v (.int .i64))) (m:=1))
def z1b3:Code:=(Tryd.f13.body).getD .skip
def L_19:List (List Nat×List Nat):=[([0],[0]),([0,0,1],[5,0]),([1,0,1],[0]),([0,0,1,0,1],[2]),([1,0,1,0,1],[2]),([0,1,1],[2]),([1,1,1],[2])]
def E_19 (N:Nat):Env:=z1m tys glob [(28,z8s N),(14,z71 N)] [] [] [] false [] [(44,za N)]
theorem z1qd (N:Nat):EnvOk Tryd.prog (E_19 N):=zi mixed zr (FnsOk.cons (zg8 N) (FnsOk.cons (zcj N) (FnsOk.nil))) (ItsOk.cons (zb N) (ItsOk.nil))
def z42 (N:Nat)(b:(List Int)):Option Int:=(z5z N b).bind fun y=>cond (!y) (some 0) ((z3y N b).bind fun y1=>some (IntKind.wrap IntKind.i64 (y1+1)))
def t_19 (N:Nat):Tab Int:=[]
theorem z1a2 (N:Nat)(x:z16 zpn):z52 (E_19 N) N (t_19 N) L_19 Tryd.f13 (mkS zpn 0 x) (z3j (.v (.int .i64)) 1)=z42 N x.1:=by kernel_rfl
def zab (N:Nat):List A->Res:=z12 zpn (fun x=>z42 N x.1) (z7r (.v (.int .i64)) 1)
theorem zck (N:Nat):Contract Tryd.prog glob 13 (zab N) :=
 Contract.of (E:=E_19 N) (H:=t_19 N) (L:=L_19) (N:=N) (body:=z1b3) (K:=(z3j (.v (.int .i64)) 1)) (z1qd N) Tryd.func13 (by kernel_rfl) (by decide) (fun _ hb=>TabOk.nil) (fun x y h=>by rw[z1a2];exact h) (z1a (s:=(.v (.int .i64))) (m:=1))
def zwm:Code:=(Tryd.f52.body).getD .skip
def L_20:List (List Nat×List Nat):=[([0],[0,1]),([0,0,1],[8,7,1,0]),([0,1,0,1],[8,7,1,0]),([0,0,0,1,0,1],[9,8,1,0,7]),(z103,[8,1,0,7]),(z10a,[]),(z10d,[1,0,5,8,7]),([0,1,0,0,1,1,0,0,1,0,1],[16,5,8,7,1,0]),([1,1,0,0,1,1,0,0,1,0,1],[8,7,1,0]),([0,0,1,1,0,0,1,1,0,0,1,0,1],[4]),([1,0,1,1,0,0,1,1,0,0,1,0,1],[4]),(z109,[8,7,1,0]),(z108,[8,7,1,0]),([1,0,1],[]),([0,1,1],[4]),([1,1,1],[4])]
def E_20 (N:Nat):Env:=z1m tys glob [] [] [] [] false [] [(44,za N)]
theorem z1qc (N:Nat):EnvOk Tryd.prog (E_20 N):=zi mixed zr (FnsOk.nil) (ItsOk.cons (zb N) (ItsOk.nil))
def z7x (N:Nat)(s:(List Int))(v_:Int)(x7:Int)(x8:Int)(rec:Int->Option Int)(k0:Int->Option Int)(k1:Option Int):Option Int:=cond (decide (x8<x7)) (cond (inR x8 (List.length s)) (cond (v_ == (List.getD s (Int.toNat x8) 0)) (k0 x8) (rec (IntKind.wrap IntKind.i64 (x8+1)))) none) k1
def zef (N:Nat)(s:(List Int))(v_:Int)(x7:Int)(x8:Int)(k0:Int->Option Int)(k1:Option Int):Option Int:=iter (fun (v:Int) r=>z7x N s v_ x7 v (fun x8=>(r x8)) k0 k1) N x8
def z1nl (N:Nat)(i:((List Int)×Int×Int))(v:Int)(r:Int->Option Int)(K:Ex->List A->Option Int):Option Int:=z7x N i.1 i.2.1 i.2.2 v (fun x8=>(r x8)) (fun a0=>(K .ret (mkS [(4,.v (.int .i64))] 14 (a0,())))) (K (.exit 0) (mkS [] 19 ()))
def z1kc (N:Nat):Hd Int:=fun st K=>(unS SQ99 10 (restr [8,7,1,0] 0 st)).bind fun x=>iter (fun v r=>z1nl N ((fun x=>(x.1,x.2.1,x.2.2.1)) x) v r K) N ((fun x=>x.2.2.2.1) x)
def t1_20 (N:Nat):Tab Int:=[]
theorem z1gi {N:Nat}{c:Ctx}(hb:Base Tryd.prog (E_20 N) c):zk Tryd.prog c (zh zwm [0,1,0,1]) (z1kc N) :=
 z1e (s:=SQ99) (m:=10) (z1nl N) [8,7,1,0] N (fun x=>(x.1,x.2.1,x.2.2.1)) (fun x=>x.2.2.2.1) (fun i v=>(i.1,i.2.1,i.2.2,v,())) (fun _=>rfl) (zg hb N (t1_20 N) L_20 zwm TabOk.nil [0,0,1,0,1] _ rfl) (fun i v r K=>by kernel_rfl)
def z6g (N:Nat)(s:(List Int))(v_:Int):Option Int:=zef N s v_ (List.length s:Int) 0 (fun x4=>some x4) (some (-1))
def t_20 (N:Nat):Tab Int:=[([0,1,0,1],z1kc N)]
theorem z1a1 (N:Nat)(x:z16 z1c2):z52 (E_20 N) N (t_20 N) L_20 Tryd.f52 (mkS z1c2 0 x) (z3j (.v (.int .i64)) 2)=z6g N x.1 x.2.1:=by kernel_rfl
def z74 (N:Nat):List A->Res:=z12 z1c2 (fun x=>z6g N x.1 x.2.1) (z7r (.v (.int .i64)) 2)
theorem zeg (N:Nat):Contract Tryd.prog glob 52 (z74 N) :=
 Contract.of (E:=E_20 N) (H:=t_20 N) (L:=L_20) (N:=N) (body:=zwm) (K:=(z3j (.v (.int .i64)) 2)) (z1qc N) Tryd.func52 (by kernel_rfl) (by decide) (fun _ hb=>(TabOk.cons (z1gi hb) TabOk.nil)) (fun x y h=>by rw[z1a1];exact h) (z1a (s:=(.v (.int .i64))) (m:=2))
def z1b2:Code:=(Tryd.f41.body).getD .skip
def L_21:List (List Nat×List Nat):=[([0],[0,1]),([0,0,1],[7,0,1]),([1,0,1],[0,1]),([0,0,1,0,1],[4]),([1,0,1,0,1],[4]),([0,1,1],[4]),([1,1,1],[4])]
def E_21 (N:Nat):Env:=z1m tys glob [(52,z74 N),(14,z71 N)] [] [] [] false [] [(44,za N)]
theorem z1qb (N:Nat):EnvOk Tryd.prog (E_21 N):=zi mixed zr (FnsOk.cons (zeg N) (FnsOk.cons (zcj N) (FnsOk.nil))) (ItsOk.cons (zb N) (ItsOk.nil))
def zhb (N:Nat)(b:(List Int))(k:Int):Option Int:=(z5z N b).bind fun y=>cond (!y) (some (-1)) ((z6g N b k).bind fun y1=>some y1)
def t_21 (N:Nat):Tab Int:=[]
theorem z1a0 (N:Nat)(x:z16 z1c2):z52 (E_21 N) N (t_21 N) L_21 Tryd.f41 (mkS z1c2 0 x) (z3j (.v (.int .i64)) 2)=zhb N x.1 x.2.1:=by kernel_rfl
def zfy (N:Nat):List A->Res:=z12 z1c2 (fun x=>zhb N x.1 x.2.1) (z7r (.v (.int .i64)) 2)
theorem zph (N:Nat):Contract Tryd.prog glob 41 (zfy N) :=
 Contract.of (E:=E_21 N) (H:=t_21 N) (L:=L_21) (N:=N) (body:=z1b2) (K:=(z3j (.v (.int .i64)) 2)) (z1qb N) Tryd.func41 (by kernel_rfl) (by decide) (fun _ hb=>TabOk.nil) (fun x y h=>by rw[z1a0];exact h) (z1a (s:=(.v (.int .i64))) (m:=2))
def zjp:Code:=(Tryd.f23.body).getD .skip
def z1og:List (List Nat×List Nat):=[([0],[1]),([0,1],[1,3]),([0,0,1,1],[23,22,21,3,1]),([0,1,0,1,1],[23,22,21,3,1]),(z13d,[24,21,23,3,22,1]),(z10h,[21,23,3,22,1]),(z13g,[1,3]),(z13h,[3,5,23,22,21,1]),(z1cc,[23,22,21,3,1]),(z13f,[23,22,21,3,1]),(z13e,[23,22,21,3,1]),([1,0,1,1],[1,3]),([0,1,1,1],[6,1,3]),([0,0,1,1,1,1],[44,43,1,6,3]),(z13p,[44,43,1,6,3]),([0,0,0,1,0,1,1,1,1],[45,44,1,6,3,43]),([0,1,0,0,1,0,1,1,1,1],[44,1,6,3,43]),(z15b,[3,6,1]),([0,0,0,1,1,0,0,1,0,1,1,1,1],[1,6,7,3,44,43]),([0,1,0,0,1,1,0,0,1,0,1,1,1,1],[1,6,7,8,3,44,43]),([0,0,1,1,0,0,1,1,0,0,1,0,1,1,1,1],z16e),(z1bn,z16e),([0,0,0,1,0,1,1,0,0,1,1,0,0,1,0,1,1,1,1],[51,50,48,6,7,8,49,3,44,43,1]),([0,1,0,0,1,0,1,1,0,0,1,1,0,0,1,0,1,1,1,1],[50,48,6,7,8,49,3,44,43,1]),([1,0,1,0,0,1,0,1,1,0,0,1,1,0,0,1,0,1,1,1,1],[3,8,44,43,1,6]),([0,0,0,1,1,0,0,1,0,1,1,0,0,1,1,0,0,1,0,1,1,1,1],[10,6,7,8,9,50,49,48,3,44,43,1]),([0,1,0,0,1,1,0,0,1,0,1,1,0,0,1,1,0,0,1,0,1,1,1,1],[60,8,9,50,49,48,6,7,3,44,43,1]),([1,1,0,0,1,1,0,0,1,0,1,1,0,0,1,1,0,0,1,0,1,1,1,1],z16e),([0,1,1,0,0,1,1,0,0,1,0,1,1,0,0,1,1,0,0,1,0,1,1,1,1],z16e),([0,1,1,0,0,1,0,1,1,0,0,1,1,0,0,1,0,1,1,1,1],z16e),([1,1,1,0,0,1,0,1,1,0,0,1,1,0,0,1,0,1,1,1,1],z16e),([1,0,1,1,0,0,1,1,0,0,1,0,1,1,1,1],[3,8,44,43,1,6]),([1,1,1,0,0,1,1,0,0,1,0,1,1,1,1],[44,43,1,6,3]),([0,1,1,0,0,1,0,1,1,1,1],[44,43,1,6,3]),([1,1,1,0,0,1,0,1,1,1,1],[44,43,1,6,3]),([1,0,1,1,1,1],[3,6,1]),([0,1,1,1,1,1],[3]),(z100,[2]),(zwy,[2])]
def z1cq (N:Nat):Env:=z1m tys glob [(41,zfy N),(13,zab N),(12,zku N),(40,zca N),(39,zfq N)] [(5,(.int .i64)),(6,(.int .i64)),(8,(.int .i64))] [] [] false [(72,.unit),(82,(.own .bool)),(2,(.nb .unit)),(18,TT9),(19,TT9),(83,(.pair (.int .i64) (.pair (.own .bool) (.pair (.sl (.int .i64)) (.pair (.own (.sl (.int .i64))) .unit)))))] [(44,za N)] [(.nb TT9)]
theorem z1qa (N:Nat):EnvOk Tryd.prog (z1cq N):=zi mixed zr (FnsOk.cons (zph N) (FnsOk.cons (zck N) (FnsOk.cons (zmr N) (FnsOk.cons (zix N) (FnsOk.cons (zow N) (FnsOk.nil)))))) (ItsOk.cons (zb N) (ItsOk.nil))
def ze4 (N:Nat)(p:z8q)(x21:(List (List Int)))(x22:Int)(b:DT0)(x23:Int)(rec:DT0->Int->Option (Option DT0))(k0:DT0->Option (Option DT0)):Option (Option DT0):=cond (decide (x23<x22)) (cond (inR x23 (List.length x21)) ((z7p N (List.getD x21 (Int.toNat x23) [])).bind fun y=>cond (decide ((((List.length b.2.2.1)+1)*64)<=70368744177664)) (rec (b.1,(b.2.1,((b.2.2.1++([y]:List (List Int))),b.2.2.2))) (IntKind.wrap IntKind.i64 (x23+1))) none) none) (k0 b)
def zls (N:Nat)(p:z8q)(b:DT0)(x21:(List (List Int)))(x22:Int)(x23:Int)(k0:DT0->Option (Option DT0)):Option (Option DT0):=iter (fun (v:(DT0×Int)) r=>ze4 N p x21 x22 v.1 v.2 (fun b x23=>(r (b,x23))) k0) N (b,x23)
def z1nk (N:Nat)(i:(z8q×(List (List Int))×Int))(v:(DT0×Int))(r:(DT0×Int)->Option (Option DT0))(K:Ex->List A->Option (Option DT0)):Option (Option DT0):=ze4 N i.1 i.2.1 i.2.2 v.1 v.2 (fun b x23=>(r (b,x23))) (fun a1=>(K (.exit 0) (mkS [(1,.box TT8),(1,.box TT9)] 83 (i.1,a1,()))))
def z1kb (N:Nat):Hd (Option DT0):=fun st K=>(unS SQ76 63 (restr [23,22,21,3,1] 0 st)).bind fun x=>iter (fun v r=>z1nk N ((fun x=>(x.1,x.2.2.1,x.2.2.2.1)) x) v r K) N ((fun x=>(x.2.1,x.2.2.2.2.1)) x)
def t1_22 (N:Nat):Tab (Option DT0):=[]
theorem z1gh {N:Nat}{c:Ctx}(hb:Base Tryd.prog (z1cq N) c):zk Tryd.prog c (zh zjp [0,1,0,1,1]) (z1kb N) :=
 z1e (s:=SQ76) (m:=63) (z1nk N) [23,22,21,3,1] N (fun x=>(x.1,x.2.2.1,x.2.2.2.1)) (fun x=>(x.2.1,x.2.2.2.2.1)) (fun i v=>(i.1,v.1,i.2.1,i.2.2,v.2,())) (fun _=>rfl) (zg hb N (t1_22 N) z1og zjp TabOk.nil [0,0,1,0,1,1] _ rfl) (fun i v r K=>by kernel_rfl)
def ze2 (N:Nat)(p:z8q)(b:DT0)(block:(List Int))(class_:Int)(x43:Int)(x44:Int)(x48:(List (List Int)))(x49:Int)(readers:(List Int))(x50:Int)(rec:(List Int)->Int->Option (Option DT0))(k0:(List Int)->Option (Option DT0)):Option (Option DT0):=cond (decide (x50<x49)) (cond (inR x50 (List.length x48)) ((zhb N block class_).bind fun y=>(z9c N (List.getD x48 (Int.toNat x50) []) (IntKind.wrap IntKind.u8 y)).bind fun y1=>cond y1 (cond (decide ((((List.length readers)+1)*8)<=70368744177664)) (rec (readers++([x50]:List Int)) (IntKind.wrap IntKind.i64 (x50+1))) none) (rec readers (IntKind.wrap IntKind.i64 (x50+1)))) none) (k0 readers)
def zlq (N:Nat)(p:z8q)(b:DT0)(block:(List Int))(class_:Int)(readers:(List Int))(x43:Int)(x44:Int)(x48:(List (List Int)))(x49:Int)(x50:Int)(k0:(List Int)->Option (Option DT0)):Option (Option DT0):=iter (fun (v:((List Int)×Int)) r=>ze2 N p b block class_ x43 x44 x48 x49 v.1 v.2 (fun readers x50=>(r (readers,x50))) k0) N (readers,x50)
def z1lb (N:Nat)(i:(z8q×DT0×(List Int)×Int×Int×Int×(List (List Int))×Int))(v:((List Int)×Int))(r:((List Int)×Int)->Option (Option DT0))(K:Ex->List A->Option (Option DT0)):Option (Option DT0):=ze2 N i.1 i.2.1 i.2.2.1 i.2.2.2.1 i.2.2.2.2.1 i.2.2.2.2.2.1 i.2.2.2.2.2.2.1 i.2.2.2.2.2.2.2 v.1 v.2 (fun readers x50=>(r (readers,x50))) (fun a3=>(K (.exit 4) (mkS [(1,.box TT8),(1,.box TT9),(2,.v (.sl (.int .i64))),(1,.row (.int .i64)),(34,.v (.int .i64)),(0,.v (.int .i64))] 42 (i.1,i.2.1,i.2.2.1,a3,i.2.2.2.2.1,i.2.2.2.2.2.1,()))))
def z1i2 (N:Nat):Hd (Option DT0):=fun st K=>(unS SQ22 36 (restr z16e 0 st)).bind fun x=>iter (fun v r=>z1lb N ((fun x=>(x.1,x.2.1,x.2.2.1,x.2.2.2.1,x.2.2.2.2.2.1,x.2.2.2.2.2.2.1,x.2.2.2.2.2.2.2.1,x.2.2.2.2.2.2.2.2.1)) x) v r K) N ((fun x=>(x.2.2.2.2.1,x.2.2.2.2.2.2.2.2.2.1)) x)
def t3_22 (N:Nat):Tab (Option DT0):=[]
theorem z1e8 {N:Nat}{c:Ctx}(hb:Base Tryd.prog (z1cq N) c):zk Tryd.prog c (zh zjp z1bn) (z1i2 N) :=
 z1e (s:=SQ22) (m:=36) (z1lb N) z16e N (fun x=>(x.1,x.2.1,x.2.2.1,x.2.2.2.1,x.2.2.2.2.2.1,x.2.2.2.2.2.2.1,x.2.2.2.2.2.2.2.1,x.2.2.2.2.2.2.2.2.1)) (fun x=>(x.2.2.2.2.1,x.2.2.2.2.2.2.2.2.2.1)) (fun i v=>(i.1,i.2.1,i.2.2.1,i.2.2.2.1,v.1,i.2.2.2.2.1,i.2.2.2.2.2.1,i.2.2.2.2.2.2.1,i.2.2.2.2.2.2.2,v.2,())) (fun _=>rfl) (zg hb N (t3_22 N) z1og zjp TabOk.nil [0,0,1,0,1,1,0,0,1,1,0,0,1,0,1,1,1,1] _ rfl) (fun i v r K=>by kernel_rfl)
def ze3 (N:Nat)(p:z8q)(block:(List Int))(x43:Int)(b:DT0)(x44:Int)(rec:DT0->Int->Option (Option DT0))(k0:DT0->Option (Option DT0)):Option (Option DT0):=cond (decide (x44<x43)) (zlq N p b block x44 [] x43 x44 p.1 (List.length p.1:Int) 0 (fun readers=>(z7p N readers).bind fun y=>cond (decide ((((List.length b.2.2.2.1)+1)*64)<=70368744177664)) (rec (b.1,(b.2.1,(b.2.2.1,((b.2.2.2.1++([y]:List (List Int))),b.2.2.2.2)))) (IntKind.wrap IntKind.i64 (x44+1))) none)) (k0 b)
def zlr (N:Nat)(p:z8q)(b:DT0)(block:(List Int))(x43:Int)(x44:Int)(k0:DT0->Option (Option DT0)):Option (Option DT0):=iter (fun (v:(DT0×Int)) r=>ze3 N p block x43 v.1 v.2 (fun b x44=>(r (b,x44))) k0) N (b,x44)
def z1m1 (N:Nat)(i:(z8q×(List Int)×Int))(v:(DT0×Int))(r:(DT0×Int)->Option (Option DT0))(K:Ex->List A->Option (Option DT0)):Option (Option DT0):=ze3 N i.1 i.2.1 i.2.2 v.1 v.2 (fun b x44=>(r (b,x44))) (fun a1=>(K (.exit 2) (mkS [(1,.box TT8),(1,.box TT9),(2,.v (.sl (.int .i64)))] 80 (i.1,a1,i.2.1,()))))
def z1is (N:Nat):Hd (Option DT0):=fun st K=>(unS SQ83 42 (restr [44,43,1,6,3] 0 st)).bind fun x=>iter (fun v r=>z1m1 N ((fun x=>(x.1,x.2.2.1,x.2.2.2.1)) x) v r K) N ((fun x=>(x.2.1,x.2.2.2.2.1)) x)
def t2_22 (N:Nat):Tab (Option DT0):=[(z1bn,z1i2 N)]
theorem z1ey {N:Nat}{c:Ctx}(hb:Base Tryd.prog (z1cq N) c):zk Tryd.prog c (zh zjp z13p) (z1is N) :=
 z1e (s:=SQ83) (m:=42) (z1m1 N) [44,43,1,6,3] N (fun x=>(x.1,x.2.2.1,x.2.2.2.1)) (fun x=>(x.2.1,x.2.2.2.2.1)) (fun i v=>(i.1,v.1,i.2.1,i.2.2,v.2,())) (fun _=>rfl) (zg hb N (t2_22 N) z1og zjp (TabOk.cons (z1e8 hb) TabOk.nil) z107 _ rfl) (fun i v r K=>by kernel_rfl)
def zdc (N:Nat)(p:z8q):Option (Option DT0):=(z7p N p.2.2.1).bind fun y=>(z7p N p.2.2.2.1).bind fun y1=>zls N p (y,(y1,([],([],((Option.some ([]:List ((List Int)×Int))),([],((0,([],([],([],())))),()))))))) p.2.2.2.2.1 (List.length p.2.2.2.2.1:Int) 0 (fun b=>(za5 N p.1).bind fun y2=>(z42 N y2).bind fun y3=>zlr N p b y2 y3 0 (fun b1=>some (Option.some (b1.1,(b1.2.1,(b1.2.2.1,(b1.2.2.2.1,(b1.2.2.2.2.1,(b1.2.2.2.2.2.1,((0,(([p.2.1]:List Bool),(y2,([],())))),b1.2.2.2.2.2.2.2))))))))))
def t_22 (N:Nat):Tab (Option DT0):=[([0,1,0,1,1],z1kb N),(z13p,z1is N)]
theorem z19z (N:Nat)(x:z16 [(0,.v TT8)]):z52 (z1cq N) N (t_22 N) z1og Tryd.f23 (mkS [(0,.v TT8)] 0 x) (z3j (.ov (.nb TT9)) 1)=zdc N x.1:=by kernel_rfl
def zd0 (N:Nat):List A->Res:=z12 [(0,.v TT8)] (fun x=>zdc N x.1) (z7r (.ov (.nb TT9)) 1)
theorem zlt (N:Nat):Contract Tryd.prog glob 23 (zd0 N) :=
 Contract.of (E:=z1cq N) (H:=t_22 N) (L:=z1og) (N:=N) (body:=zjp) (K:=(z3j (.ov (.nb TT9)) 1)) (z1qa N) Tryd.func23 (by kernel_rfl) (by decide) (fun _ hb=>(TabOk.cons (z1gh hb) (TabOk.cons (z1ey hb) TabOk.nil))) (fun x y h=>by rw[z19z];exact h) (z1a (s:=(.ov (.nb TT9))) (m:=1))
def zcb:Code:=(Tryd.f6.body).getD .skip
def z1bp:List (List Nat×List Nat):=[([0],[1]),([0,1],[3,1]),([0,0,1,1],[30,1,3]),([1,0,1,1],[1,3]),([0,0,1,0,1,1],[2]),([1,0,1,0,1,1],[2]),([0,1,1,1],[1,4,3]),([0,0,1,1,1,1],zuf),(z13p,zuf),([0,0,0,1,0,1,1,1,1],[38,35,37,4,3,36,1]),([0,1,0,0,1,0,1,1,1,1],[35,37,4,3,36,1]),(z15b,[1,3]),([0,0,0,1,1,0,0,1,0,1,1,1,1],[6,4,3,37,36,35,1]),([0,0,1,0,0,1,1,0,0,1,0,1,1,1,1],[44,6,3,37,36,35,4,1]),([1,0,1,0,0,1,1,0,0,1,0,1,1,1,1],[6,3,37,36,35,4,1]),([0,0,1,0,1,0,0,1,1,0,0,1,0,1,1,1,1],[2]),([1,0,1,0,1,0,0,1,1,0,0,1,0,1,1,1,1],[2]),([0,1,1,0,0,1,1,0,0,1,0,1,1,1,1],z1bj),(z1bm,z1bj),([0,0,0,1,1,1,0,0,1,1,0,0,1,0,1,1,1,1],[48,45,47,3,46,37,36,35,4,1]),([0,1,0,0,1,1,1,0,0,1,1,0,0,1,0,1,1,1,1],[45,47,3,46,37,36,35,4,1]),([1,0,1,0,0,1,1,1,0,0,1,1,0,0,1,0,1,1,1,1],zuf),([0,0,0,1,1,0,0,1,1,1,0,0,1,1,0,0,1,0,1,1,1,1],[8,3,47,46,45,37,36,35,4,1]),(PQ57,[57,47,46,45,3,37,36,35,4,1]),([1,1,0,0,1,1,0,0,1,1,1,0,0,1,1,0,0,1,0,1,1,1,1],z1bj),([0,0,1,1,0,0,1,1,0,0,1,1,1,0,0,1,1,0,0,1,0,1,1,1,1],[2]),([1,0,1,1,0,0,1,1,0,0,1,1,1,0,0,1,1,0,0,1,0,1,1,1,1],[2]),([0,1,1,0,0,1,1,1,0,0,1,1,0,0,1,0,1,1,1,1],z1bj),([1,1,1,0,0,1,1,1,0,0,1,1,0,0,1,0,1,1,1,1],z1bj),([1,1,1,0,0,1,1,0,0,1,0,1,1,1,1],zuf),([0,1,1,0,0,1,0,1,1,1,1],zuf),([1,1,1,0,0,1,0,1,1,1,1],zuf),([1,0,1,1,1,1],[1,3]),([0,1,1,1,1,1],[2]),([1,1,1,1,1,1],[2])]
def z16j (N:Nat):Env:=z1m tys glob [(13,zab N),(14,z71 N)] [] [] [] false [] [(44,za N)]
theorem z1q9 (N:Nat):EnvOk Tryd.prog (z16j N):=zi mixed zr (FnsOk.cons (zck N) (FnsOk.cons (zcj N) (FnsOk.nil))) (ItsOk.cons (zb N) (ItsOk.nil))
def zh3 (N:Nat)(d:zug)(states:Int)(k0:Bool->Option Bool):Option Bool:=cond (decide (states<1)) (k0 true) (cond (decide (4096<states)) (k0 true) (cond ((List.length d.2.1:Int) != states) (k0 true) ((z5z N d.2.2.1).bind fun y=>k0 (!y))))
def z1m0 (N:Nat)(x:z16 z168)(K:Ex->List A->Option Bool):Option Bool:=zh3 N x.1 x.2.1 (fun a2=>(K .normal (mkS [(1,.box zud),(1,.v (.int .i64)),(26,.v .bool)] 38 (x.1,x.2.1,a2,()))))
def z1ir (N:Nat):Hd Bool:=fun st K=>(unS z168 65 (restr [3,1] 0 st)).bind fun x=>z1m0 N x K
def t2_23 (N:Nat):Tab Bool:=[]
theorem z1ex {N:Nat}{c:Ctx}(hb:Base Tryd.prog (z16j N) c):zk Tryd.prog c (zh zcb [0,0,1,1]) (z1ir N) :=
 zw (s:=z168) (m:=65) (g:=z1m0 N) [3,1] (zg hb N (t2_23 N) z1bp zcb TabOk.nil [0,0,1,1] _ rfl) (fun x K=>by kernel_rfl)
def zh4 (N:Nat)(d:zug)(states:Int)(k0:Bool->Option Bool)(k1:Option Bool):Option Bool:=zh3 N d states (fun x30=>cond x30 (k0 false) k1)
def z1nj (N:Nat)(x:z16 z168)(K:Ex->List A->Option Bool):Option Bool:=zh4 N x.1 x.2.1 (fun a0=>(K .ret (mkS [(2,.v .bool)] 66 (a0,())))) (K .normal (mkS z168 65 (x.1,x.2.1,())))
def z1ka (N:Nat):Hd Bool:=fun st K=>(unS z168 65 (restr [3,1] 0 st)).bind fun x=>z1nj N x K
def t1_23 (N:Nat):Tab Bool:=[([0,0,1,1],z1ir N)]
theorem z1gg {N:Nat}{c:Ctx}(hb:Base Tryd.prog (z16j N) c):zk Tryd.prog c (zh zcb [0,1,1]) (z1ka N) :=
 zw (s:=z168) (m:=65) (g:=z1nj N) [3,1] (zg hb N (t1_23 N) z1bp zcb (TabOk.cons (z1ex hb) TabOk.nil) [0,1,1] _ rfl) (fun x K=>by kernel_rfl)
def zh2 (N:Nat)(d:zug)(states:Int)(classes:Int)(state:Int)(x35:(List (List Int)))(x36:Int)(x37:Int)(x45:(List Int))(x46:Int)(x47:Int)(k0:Bool->Option Bool):Option Bool:=cond (decide (state<0)) (k0 true) (k0 (decide (states<=state)))
def z1kp (N:Nat)(x:z16 SQ11)(K:Ex->List A->Option Bool):Option Bool:=zh2 N x.1 x.2.1 x.2.2.1 x.2.2.2.1 x.2.2.2.2.1 x.2.2.2.2.2.1 x.2.2.2.2.2.2.1 x.2.2.2.2.2.2.2.1 x.2.2.2.2.2.2.2.2.1 x.2.2.2.2.2.2.2.2.2.1 (fun a9=>(K .normal (mkS [(1,.box zud),(1,.v (.int .i64)),(0,.v (.int .i64)),(30,.v (.sl (.sl (.int .i64)))),(0,.v (.int .i64)),(0,.v (.int .i64)),(7,.v (.sl (.int .i64))),(0,.v (.int .i64)),(0,.v (.int .i64)),(9,.v .bool)] 11 (x.1,x.2.1,x.2.2.1,x.2.2.2.2.1,x.2.2.2.2.2.1,x.2.2.2.2.2.2.1,x.2.2.2.2.2.2.2.1,x.2.2.2.2.2.2.2.2.1,x.2.2.2.2.2.2.2.2.2.1,a9,()))))
def z1hg (N:Nat):Hd Bool:=fun st K=>(unS SQ11 21 (restr [8,3,47,46,45,37,36,35,4,1] 0 st)).bind fun x=>z1kp N x K
def t5_23 (N:Nat):Tab Bool:=[]
theorem z1dm {N:Nat}{c:Ctx}(hb:Base Tryd.prog (z16j N) c):zk Tryd.prog c (zh zcb PQ57) (z1hg N) :=
 zw (s:=SQ11) (m:=21) (g:=z1kp N) [8,3,47,46,45,37,36,35,4,1] (zg hb N (t5_23 N) z1bp zcb TabOk.nil PQ57 _ rfl) (fun x K=>by kernel_rfl)
def zd4 (N:Nat)(d:zug)(states:Int)(classes:Int)(x35:(List (List Int)))(x36:Int)(x37:Int)(x45:(List Int))(x46:Int)(x47:Int)(rec:Int->Option Bool)(k0:Bool->Option Bool)(k1:Option Bool):Option Bool:=cond (decide (x47<x46)) (cond (inR x47 (List.length x45)) (zh2 N d states classes (List.getD x45 (Int.toNat x47) 0) x35 x36 x37 x45 x46 x47 (fun x57=>cond x57 (k0 false) (rec (IntKind.wrap IntKind.i64 (x47+1))))) none) k1
def zmk (N:Nat)(d:zug)(states:Int)(classes:Int)(x35:(List (List Int)))(x36:Int)(x37:Int)(x45:(List Int))(x46:Int)(x47:Int)(k0:Bool->Option Bool)(k1:Option Bool):Option Bool:=iter (fun (v:Int) r=>zd4 N d states classes x35 x36 x37 x45 x46 v (fun x47=>(r x47)) k0 k1) N x47
def z1kx (N:Nat)(i:(zug×Int×Int×(List (List Int))×Int×Int×(List Int)×Int))(v:Int)(r:Int->Option Bool)(K:Ex->List A->Option Bool):Option Bool:=zd4 N i.1 i.2.1 i.2.2.1 i.2.2.2.1 i.2.2.2.2.1 i.2.2.2.2.2.1 i.2.2.2.2.2.2.1 i.2.2.2.2.2.2.2 v (fun x47=>(r x47)) (fun a0=>(K .ret (mkS [(2,.v .bool)] 66 (a0,())))) (K (.exit 2) (mkS SQ26 31 (i.1,i.2.1,i.2.2.1,i.2.2.2.1,i.2.2.2.2.1,i.2.2.2.2.2.1,())))
def z1ho (N:Nat):Hd Bool:=fun st K=>(unS SQ24 21 (restr z1bj 0 st)).bind fun x=>iter (fun v r=>z1kx N ((fun x=>(x.1,x.2.1,x.2.2.1,x.2.2.2.1,x.2.2.2.2.1,x.2.2.2.2.2.1,x.2.2.2.2.2.2.1,x.2.2.2.2.2.2.2.1)) x) v r K) N ((fun x=>x.2.2.2.2.2.2.2.2.1) x)
def t4_23 (N:Nat):Tab Bool:=[(PQ57,z1hg N)]
theorem z1du {N:Nat}{c:Ctx}(hb:Base Tryd.prog (z16j N) c):zk Tryd.prog c (zh zcb z1bm) (z1ho N) :=
 z1e (s:=SQ24) (m:=21) (z1kx N) z1bj N (fun x=>(x.1,x.2.1,x.2.2.1,x.2.2.2.1,x.2.2.2.2.1,x.2.2.2.2.2.1,x.2.2.2.2.2.2.1,x.2.2.2.2.2.2.2.1)) (fun x=>x.2.2.2.2.2.2.2.2.1) (fun i v=>(i.1,i.2.1,i.2.2.1,i.2.2.2.1,i.2.2.2.2.1,i.2.2.2.2.2.1,i.2.2.2.2.2.2.1,i.2.2.2.2.2.2.2,v,())) (fun _=>rfl) (zg hb N (t4_23 N) z1bp zcb (TabOk.cons (z1dm hb) TabOk.nil) [0,0,1,1,1,0,0,1,1,0,0,1,0,1,1,1,1] _ rfl) (fun i v r K=>by kernel_rfl)
def zd5 (N:Nat)(d:zug)(states:Int)(classes:Int)(x35:(List (List Int)))(x36:Int)(x37:Int)(rec:Int->Option Bool)(k0:Bool->Option Bool)(k1:Option Bool):Option Bool:=cond (decide (x37<x36)) (cond (inR x37 (List.length x35)) (cond ((List.length (List.getD x35 (Int.toNat x37) []):Int) != classes) (k0 false) (zmk N d states classes x35 x36 x37 (List.getD x35 (Int.toNat x37) []) (List.length (List.getD x35 (Int.toNat x37) []):Int) 0 (fun x2=>k0 x2) (rec (IntKind.wrap IntKind.i64 (x37+1))))) none) k1
def zml (N:Nat)(d:zug)(states:Int)(classes:Int)(x35:(List (List Int)))(x36:Int)(x37:Int)(k0:Bool->Option Bool)(k1:Option Bool):Option Bool:=iter (fun (v:Int) r=>zd5 N d states classes x35 x36 v (fun x37=>(r x37)) k0 k1) N x37
def z1la (N:Nat)(i:(zug×Int×Int×(List (List Int))×Int))(v:Int)(r:Int->Option Bool)(K:Ex->List A->Option Bool):Option Bool:=zd5 N i.1 i.2.1 i.2.2.1 i.2.2.2.1 i.2.2.2.2 v (fun x37=>(r x37)) (fun a0=>(K .ret (mkS [(2,.v .bool)] 66 (a0,())))) (K (.exit 0) (mkS z168 65 (i.1,i.2.1,())))
def z1i1 (N:Nat):Hd Bool:=fun st K=>(unS SQ26 31 (restr zuf 0 st)).bind fun x=>iter (fun v r=>z1la N ((fun x=>(x.1,x.2.1,x.2.2.1,x.2.2.2.1,x.2.2.2.2.1)) x) v r K) N ((fun x=>x.2.2.2.2.2.1) x)
def t3_23 (N:Nat):Tab Bool:=[(z1bm,z1ho N)]
theorem z1e7 {N:Nat}{c:Ctx}(hb:Base Tryd.prog (z16j N) c):zk Tryd.prog c (zh zcb z13p) (z1i1 N) :=
 z1e (s:=SQ26) (m:=31) (z1la N) zuf N (fun x=>(x.1,x.2.1,x.2.2.1,x.2.2.2.1,x.2.2.2.2.1)) (fun x=>x.2.2.2.2.2.1) (fun i v=>(i.1,i.2.1,i.2.2.1,i.2.2.2.1,i.2.2.2.2,v,())) (fun _=>rfl) (zg hb N (t3_23 N) z1bp zcb (TabOk.cons (z1du hb) TabOk.nil) z107 _ rfl) (fun i v r K=>by kernel_rfl)
def ze5 (N:Nat)(d:zug):Option Bool:=zh4 N d (List.length d.2.2.2.1:Int) (fun x2=>some x2) ((z42 N d.2.2.1).bind fun y=>zml N d (List.length d.2.2.2.1:Int) y d.2.2.2.1 (List.length d.2.2.2.1:Int) 0 (fun x21=>some x21) (cond (decide (0<=d.1)) (some (decide (d.1<(List.length d.2.2.2.1:Int)))) (some false)))
def t_23 (N:Nat):Tab Bool:=[([0,1,1],z1ka N),(z13p,z1i1 N)]
theorem z19y (N:Nat)(x:z16 [(0,.v zud)]):z52 (z16j N) N (t_23 N) z1bp Tryd.f6 (mkS [(0,.v zud)] 0 x) (z3j (.v .bool) 1)=ze5 N x.1:=by kernel_rfl
def zf7 (N:Nat):List A->Res:=z12 [(0,.v zud)] (fun x=>ze5 N x.1) (z7r (.v .bool) 1)
theorem zmm (N:Nat):Contract Tryd.prog glob 6 (zf7 N) :=
 Contract.of (E:=z16j N) (H:=t_23 N) (L:=z1bp) (N:=N) (body:=zcb) (K:=(z3j (.v .bool) 1)) (z1q9 N) Tryd.func6 (by kernel_rfl) (by decide) (fun _ hb=>(TabOk.cons (z1gg hb) (TabOk.cons (z1e7 hb) TabOk.nil))) (fun x y h=>by rw[z19y];exact h) (z1a (s:=(.v .bool)) (m:=1))
def zwl:Code:=(Tryd.f15.body).getD .skip
def L_24:List (List Nat×List Nat):=[([0],[2,1]),([0,0,1],[9,2,1]),([1,0,1],[2,1]),([0,0,1,0,1],[4]),([1,0,1,0,1],[4]),([0,1,1],[1,2,5]),([0,0,1,1,1],[14,13,2,5,1]),([0,1,0,1,1,1],[14,13,2,5,1]),(zx3,[15,14,2,5,1,13]),(z1bg,[14,2,5,1,13]),(z1bi,[5]),(z1cd,[2,5,1,6,14,13]),([1,0,0,1,1,0,0,1,0,1,1,1],[14,13,2,5,1]),(z10c,[14,13,2,5,1]),(z10b,[14,13,2,5,1]),([1,0,1,1,1],[5]),([0,1,1,1,1],[4]),([1,1,1,1,1],[4])]
def E_24 (N:Nat):Env:=z1m tys glob [(6,zf7 N)] [] [] [] false [] [(44,za N)]
theorem z1q8 (N:Nat):EnvOk Tryd.prog (E_24 N):=zi mixed zr (FnsOk.cons (zmm N) (FnsOk.nil)) (ItsOk.cons (zb N) (ItsOk.nil))
def zd3 (N:Nat)(s:(List UInt8))(d:zug)(x13:Int)(state:Int)(x14:Int)(rec:Int->Int->Option Int)(k0:Int->Option Int):Option Int:=cond (decide (x14<x13)) (cond (inR state (List.length d.2.2.2.1)) (cond (inR x14 (List.length s)) (cond (inR (UInt8.toNat (List.getD s (Int.toNat x14) (0:UInt8)):Int) (List.length d.2.2.1)) (cond (inR (List.getD d.2.2.1 (Int.toNat (UInt8.toNat (List.getD s (Int.toNat x14) (0:UInt8)):Int)) 0) (List.length (List.getD d.2.2.2.1 (Int.toNat state) []))) (rec (List.getD (List.getD d.2.2.2.1 (Int.toNat state) []) (Int.toNat (List.getD d.2.2.1 (Int.toNat (UInt8.toNat (List.getD s (Int.toNat x14) (0:UInt8)):Int)) 0)) 0) (IntKind.wrap IntKind.i64 (x14+1))) none) none) none) none) (k0 state)
def zmj (N:Nat)(s:(List UInt8))(d:zug)(state:Int)(x13:Int)(x14:Int)(k0:Int->Option Int):Option Int:=iter (fun (v:(Int×Int)) r=>zd3 N s d x13 v.1 v.2 (fun state x14=>(r (state,x14))) k0) N (state,x14)
def z1ni (N:Nat)(i:((List UInt8)×zug×Int))(v:(Int×Int))(r:(Int×Int)->Option Int)(K:Ex->List A->Option Int):Option Int:=zd3 N i.1 i.2.1 i.2.2 v.1 v.2 (fun state x14=>(r (state,x14))) (fun a0=>(K (.exit 0) (mkS [(5,.v (.int .i64))] 27 (a0,()))))
def z1k9 (N:Nat):Hd Int:=fun st K=>(unS SQ94 18 (restr [14,13,2,5,1] 0 st)).bind fun x=>iter (fun v r=>z1ni N ((fun x=>(x.1,x.2.1,x.2.2.2.1)) x) v r K) N ((fun x=>(x.2.2.1,x.2.2.2.2.1)) x)
def t1_24 (N:Nat):Tab Int:=[]
theorem z1gf {N:Nat}{c:Ctx}(hb:Base Tryd.prog (E_24 N) c):zk Tryd.prog c (zh zwl [0,1,0,1,1,1]) (z1k9 N) :=
 z1e (s:=SQ94) (m:=18) (z1ni N) [14,13,2,5,1] N (fun x=>(x.1,x.2.1,x.2.2.2.1)) (fun x=>(x.2.2.1,x.2.2.2.2.1)) (fun i v=>(i.1,i.2.1,v.1,i.2.2,v.2,())) (fun _=>rfl) (zg hb N (t1_24 N) L_24 zwl TabOk.nil zwv _ rfl) (fun i v r K=>by kernel_rfl)
def zh1 (N:Nat)(d:zug)(s:(List UInt8)):Option Int:=(ze5 N d).bind fun y=>cond (!y) (some (-1)) (zmj N s d d.1 (List.length s:Int) 0 (fun state=>some state))
def t_24 (N:Nat):Tab Int:=[([0,1,0,1,1,1],z1k9 N)]
theorem z19x (N:Nat)(x:z16 zzz):z52 (E_24 N) N (t_24 N) L_24 Tryd.f15 (mkS zzz 0 x) (z3j (.v (.int .i64)) 2)=zh1 N x.1 x.2.1:=by kernel_rfl
def zkm (N:Nat):List A->Res:=z12 zzz (fun x=>zh1 N x.1 x.2.1) (z7r (.v (.int .i64)) 2)
theorem ztx (N:Nat):Contract Tryd.prog glob 15 (zkm N) :=
 Contract.of (E:=E_24 N) (H:=t_24 N) (L:=L_24) (N:=N) (body:=zwl) (K:=(z3j (.v (.int .i64)) 2)) (z1q8 N) Tryd.func15 (by kernel_rfl) (by decide) (fun _ hb=>(TabOk.cons (z1gf hb) TabOk.nil)) (fun x y h=>by rw[z19x];exact h) (z1a (s:=(.v (.int .i64))) (m:=2))
def z1b1:Code:=(Tryd.f7.body).getD .skip
def L_25:List (List Nat×List Nat):=[([0],[2,1]),([0,1],[5,2]),([0,1,1],[4]),([1,1,1],[4])]
def E_25 (N:Nat):Env:=z1m tys glob [(15,zkm N)] [] [] [] false [] [(44,za N)]
theorem z1q7 (N:Nat):EnvOk Tryd.prog (E_25 N):=zi mixed zr (FnsOk.cons (ztx N) (FnsOk.nil)) (ItsOk.cons (zb N) (ItsOk.nil))
def zdd (N:Nat)(d:zug)(s:(List UInt8)):Option Bool:=(zh1 N d s).bind fun y=>cond (decide (0<=y)) (cond (inR y (List.length d.2.1)) (some (List.getD d.2.1 (Int.toNat y) false)) none) (some false)
def t_25 (N:Nat):Tab Bool:=[]
theorem z19w (N:Nat)(x:z16 zzz):z52 (E_25 N) N (t_25 N) L_25 Tryd.f7 (mkS zzz 0 x) (z3j (.v .bool) 2)=zdd N x.1 x.2.1:=by kernel_rfl
def zjk (N:Nat):List A->Res:=z12 zzz (fun x=>zdd N x.1 x.2.1) (z7r (.v .bool) 2)
theorem zqx (N:Nat):Contract Tryd.prog glob 7 (zjk N) :=
 Contract.of (E:=E_25 N) (H:=t_25 N) (L:=L_25) (N:=N) (body:=z1b1) (K:=(z3j (.v .bool) 2)) (z1q7 N) Tryd.func7 (by kernel_rfl) (by decide) (fun _ hb=>TabOk.nil) (fun x y h=>by rw[z19w];exact h) (z1a (s:=(.v .bool)) (m:=2))
def zwk:Code:=(Tryd.f48.body).getD .skip
def L_26:List (List Nat×List Nat):=[([0],[2,1]),([0,0,1],[10,9,8,1]),([0,1,0,1],[10,9,8,1]),([0,0,0,1,0,1],[11,8,10,1,9]),(z103,[8,10,1,9]),(z10a,[]),(z10d,[6,1,10,9,8]),([0,1,0,0,1,1,0,0,1,0,1],[17,10,9,8,1]),([1,1,0,0,1,1,0,0,1,0,1],[10,9,8,1]),([0,0,1,1,0,0,1,1,0,0,1,0,1],[4]),([1,0,1,1,0,0,1,1,0,0,1,0,1],[4]),(z109,[10,9,8,1]),(z108,[10,9,8,1]),([1,0,1],[]),([0,1,1],[4]),([1,1,1],[4])]
def E_26 (N:Nat):Env:=z1m tys glob [] [] [] [] false [] [(44,za N)]
theorem z1q6 (N:Nat):EnvOk Tryd.prog (E_26 N):=zi mixed zr (FnsOk.nil) (ItsOk.cons (zb N) (ItsOk.nil))
def zgd (N:Nat)(kind:Int)(x8:(List Tree))(x9:Int)(x10:Int)(rec:Int->Option Bool)(k0:Bool->Option Bool)(k1:Option Bool):Option Bool:=cond (decide (x10<x9)) (cond (inR x10 (List.length x8)) (cond ((unN (List.getD x8 (Int.toNat x10) (Tree.mk 0 [] [] 0 0))).1 == kind) (k0 true) (rec (IntKind.wrap IntKind.i64 (x10+1)))) none) k1
def zo1 (N:Nat)(kind:Int)(x8:(List Tree))(x9:Int)(x10:Int)(k0:Bool->Option Bool)(k1:Option Bool):Option Bool:=iter (fun (v:Int) r=>zgd N kind x8 x9 v (fun x10=>(r x10)) k0 k1) N x10
def z1nh (N:Nat)(i:(Int×(List Tree)×Int))(v:Int)(r:Int->Option Bool)(K:Ex->List A->Option Bool):Option Bool:=zgd N i.1 i.2.1 i.2.2 v (fun x10=>(r x10)) (fun a0=>(K .ret (mkS [(4,.v .bool)] 14 (a0,())))) (K (.exit 0) (mkS [] 19 ()))
def z1k8 (N:Nat):Hd Bool:=fun st K=>(unS [(1,.v (.int .i64)),(6,.v (.sl .nod)),(0,.v (.int .i64)),(0,.v (.int .i64))] 8 (restr [10,9,8,1] 0 st)).bind fun x=>iter (fun v r=>z1nh N ((fun x=>(x.1,x.2.1,x.2.2.1)) x) v r K) N ((fun x=>x.2.2.2.1) x)
def t1_26 (N:Nat):Tab Bool:=[]
theorem z1ge {N:Nat}{c:Ctx}(hb:Base Tryd.prog (E_26 N) c):zk Tryd.prog c (zh zwk [0,1,0,1]) (z1k8 N) :=
 z1e (s:=[(1,.v (.int .i64)),(6,.v (.sl .nod)),(0,.v (.int .i64)),(0,.v (.int .i64))]) (m:=8) (z1nh N) [10,9,8,1] N (fun x=>(x.1,x.2.1,x.2.2.1)) (fun x=>x.2.2.2.1) (fun i v=>(i.1,i.2.1,i.2.2,v,())) (fun _=>rfl) (zg hb N (t1_26 N) L_26 zwk TabOk.nil [0,0,1,0,1] _ rfl) (fun i v r K=>by kernel_rfl)
def zcv (N:Nat)(n:DT5)(kind:Int):Option Bool:=zo1 N kind n.2.2.1 (List.length n.2.2.1:Int) 0 (fun x4=>some x4) (some false)
def t_26 (N:Nat):Tab Bool:=[([0,1,0,1],z1k8 N)]
theorem z19v (N:Nat)(x:z16 [(0,.v TT3),(0,.v (.int .i64))]):z52 (E_26 N) N (t_26 N) L_26 Tryd.f48 (mkS [(0,.v TT3),(0,.v (.int .i64))] 0 x) (z3j (.v .bool) 2)=zcv N x.1 x.2.1:=by kernel_rfl
def zfm (N:Nat):List A->Res:=z12 [(0,.v TT3),(0,.v (.int .i64))] (fun x=>zcv N x.1 x.2.1) (z7r (.v .bool) 2)
theorem zo2 (N:Nat):Contract Tryd.prog glob 48 (zfm N) :=
 Contract.of (E:=E_26 N) (H:=t_26 N) (L:=L_26) (N:=N) (body:=zwk) (K:=(z3j (.v .bool) 2)) (z1q6 N) Tryd.func48 (by kernel_rfl) (by decide) (fun _ hb=>(TabOk.cons (z1ge hb) TabOk.nil)) (fun x y h=>by rw[z19v];exact h) (z1a (s:=(.v .bool)) (m:=2))
def zpd:Code:=(Tryd.f49.body).getD .skip
def L_27:List (List Nat×List Nat):=[([0],[0,1]),([0,0,1],[10,1,0]),([1,0,1],[1,0]),([0,0,1,0,1],[4]),([1,0,1,0,1],[4]),([0,1,1],[4]),([1,1,1],[4])]
def z1qx (N:Nat):Env:=z1m tys glob [] [] [] [] false [] [(44,za N)]
theorem z1q5 (N:Nat):EnvOk Tryd.prog (z1qx N):=zi mixed zr (FnsOk.nil) (ItsOk.cons (zb N) (ItsOk.nil))
def zin (N:Nat)(low:Int)(high:Int)(k0:Bool->Option Bool):Option Bool:=cond (decide (low<0)) (k0 true) (k0 (decide (16<low)))
def z1lz (N:Nat)(x:z16 zzy)(K:Ex->List A->Option Bool):Option Bool:=zin N x.1 x.2.1 (fun a2=>(K .normal (mkS [(0,.v (.int .i64)),(0,.v (.int .i64)),(8,.v .bool)] 12 (x.1,x.2.1,a2,()))))
def z1iq (N:Nat):Hd Bool:=fun st K=>(unS zzy 21 (restr [0,1] 0 st)).bind fun x=>z1lz N x K
def t2_27 (N:Nat):Tab Bool:=[]
theorem z1ew {N:Nat}{c:Ctx}(hb:Base Tryd.prog (z1qx N) c):zk Tryd.prog c (zh zpd [0,0,1]) (z1iq N) :=
 zw (s:=zzy) (m:=21) (g:=z1lz N) [0,1] (zg hb N (t2_27 N) L_27 zpd TabOk.nil [0,0,1] _ rfl) (fun x K=>by kernel_rfl)
def zio (N:Nat)(low:Int)(high:Int)(k0:Bool->Option Bool)(k1:Option Bool):Option Bool:=zin N low high (fun x10=>cond x10 (k0 false) k1)
def z1ng (N:Nat)(x:z16 zzy)(K:Ex->List A->Option Bool):Option Bool:=zio N x.1 x.2.1 (fun a0=>(K .ret (mkS [(4,.v .bool)] 18 (a0,())))) (K .normal (mkS zzy 21 (x.1,x.2.1,())))
def z1k7 (N:Nat):Hd Bool:=fun st K=>(unS zzy 21 (restr [0,1] 0 st)).bind fun x=>z1ng N x K
def t1_27 (N:Nat):Tab Bool:=[([0,0,1],z1iq N)]
theorem z1gd {N:Nat}{c:Ctx}(hb:Base Tryd.prog (z1qx N) c):zk Tryd.prog c (zh zpd [0,1]) (z1k7 N) :=
 zw (s:=zzy) (m:=21) (g:=z1ng N) [0,1] (zg hb N (t1_27 N) L_27 zpd (TabOk.cons (z1ew hb) TabOk.nil) [0,1] _ rfl) (fun x K=>by kernel_rfl)
def zj6 (N:Nat)(low:Int)(high:Int):Option Bool:=zio N low high (fun x4=>some x4) (cond (high == (-1)) (some true) (cond (decide ((if (1 > low) then 1 else low)<=high)) (some (decide (high<=16))) (some false)))
def t_27 (N:Nat):Tab Bool:=[([0,1],z1k7 N)]
theorem z19u (N:Nat)(x:z16 zzy):z52 (z1qx N) N (t_27 N) L_27 Tryd.f49 (mkS zzy 0 x) (z3j (.v .bool) 2)=zj6 N x.1 x.2.1:=by kernel_rfl
def zge (N:Nat):List A->Res:=z12 zzy (fun x=>zj6 N x.1 x.2.1) (z7r (.v .bool) 2)
theorem zpt (N:Nat):Contract Tryd.prog glob 49 (zge N) :=
 Contract.of (E:=z1qx N) (H:=t_27 N) (L:=L_27) (N:=N) (body:=zpd) (K:=(z3j (.v .bool) 2)) (z1q5 N) Tryd.func49 (by kernel_rfl) (by decide) (fun _ hb=>(TabOk.cons (z1gd hb) TabOk.nil)) (fun x y h=>by rw[z19u];exact h) (z1a (s:=(.v .bool)) (m:=2))
def zwj:Code:=(Tryd.f32.body).getD .skip
def L_28:List (List Nat×List Nat):=[([0],[1]),([0,1],[1,4,3]),([0,0,1,1],[18,1,4,3]),([0,0,1,0,1,1],[19,1,4,18,3]),([1,0,1,0,1,1],[]),(zx2,[28,3,4,1,18]),([1,1,1,0,1,0,1,1],[]),([0,1,1,1,1,0,1,0,1,1],[45,3,4,1,18]),([1,1,1,1,1,0,1,0,1,1],[]),([0,1,1,1,1,1,1,0,1,0,1,1],[62,3,1]),([1,1,1,1,1,1,1,0,1,0,1,1],[]),([0,0,1,1,1,1,1,1,1,0,1,0,1,1],[2]),([1,0,1,1,1,1,1,1,1,0,1,0,1,1],[2]),([0,0,1,1,1,1,1,0,1,0,1,1],[2]),([1,0,1,1,1,1,1,0,1,0,1,1],[2]),([0,0,1,1,1,0,1,0,1,1],[2]),([1,0,1,1,1,0,1,0,1,1],[2]),([0,0,1,0,1,0,1,1],[2]),([1,0,1,0,1,0,1,1],[2]),([1,0,1,1],[]),([0,1,1,1],[2]),([1,1,1,1],[2])]
def E_28 (N:Nat):Env:=z1m tys glob [(49,zge N),(48,zfm N)] [] [] [] false [] [(44,za N)]
theorem z1q4 (N:Nat):EnvOk Tryd.prog (E_28 N):=zi mixed zr (FnsOk.cons (zpt N) (FnsOk.cons (zo2 N) (FnsOk.nil))) (ItsOk.cons (zb N) (ItsOk.nil))
def zgf (N:Nat)(n:DT5)(k0:Bool->Bool->Option Bool):Option Bool:=cond (n.2.2.2.1 == 0) (k0 (eqD (T.arr 4 (T.int IntKind.u64)) n.2.1 ([0,0,0,0]:List Int)) (n.2.2.2.2.1 == 0)) (k0 (eqD (T.arr 4 (T.int IntKind.u64)) n.2.1 ([0,0,0,0]:List Int)) false)
def z1nf (N:Nat)(x:z16 [(1,.box TT3)])(K:Ex->List A->Option Bool):Option Bool:=zgf N x.1 (fun a1 a2=>(K .normal (mkS [(1,.box TT3),(1,.v .bool),(0,.v .bool)] 73 (x.1,a1,a2,()))))
def z1k6 (N:Nat):Hd Bool:=fun st K=>(unS [(1,.box TT3)] 76 (restr [1] 0 st)).bind fun x=>z1nf N x K
def t1_28 (N:Nat):Tab Bool:=[]
theorem z1gc {N:Nat}{c:Ctx}(hb:Base Tryd.prog (E_28 N) c):zk Tryd.prog c (zh zwj [0,1]) (z1k6 N) :=
 zw (s:=[(1,.box TT3)]) (m:=76) (g:=z1nf N) [1] (zg hb N (t1_28 N) L_28 zwj TabOk.nil [0,1] _ rfl) (fun x K=>by kernel_rfl)
def zgg (N:Nat)(n:DT5):Option Bool:=zgf N n (fun empty once=>cond (n.1 == 1) (cond ((List.length n.2.2.1:Int) == 0) (some once) (some false)) (cond (n.1 == 2) (cond empty (cond once (cond ((List.length n.2.2.1:Int) != 1) ((zcv N n 2).bind fun y=>some (!y)) (some false)) (some false)) (some false)) (cond (n.1 == 3) (cond empty (cond once (cond (decide (2<=(List.length n.2.2.1:Int))) ((zcv N n 3).bind fun y1=>some (!y1)) (some false)) (some false)) (some false)) (cond (n.1 == 4) (cond empty (cond ((List.length n.2.2.1:Int) == 1) ((zj6 N n.2.2.2.1 n.2.2.2.2.1).bind fun y2=>some y2) (some false)) (some false)) (some false)))))
def t_28 (N:Nat):Tab Bool:=[([0,1],z1k6 N)]
theorem z19t (N:Nat)(x:z16 [(0,.v TT3)]):z52 (E_28 N) N (t_28 N) L_28 Tryd.f32 (mkS [(0,.v TT3)] 0 x) (z3j (.v .bool) 1)=zgg N x.1:=by kernel_rfl
def zfn (N:Nat):List A->Res:=z12 [(0,.v TT3)] (fun x=>zgg N x.1) (z7r (.v .bool) 1)
theorem zo3 (N:Nat):Contract Tryd.prog glob 32 (zfn N) :=
 Contract.of (E:=E_28 N) (H:=t_28 N) (L:=L_28) (N:=N) (body:=zwj) (K:=(z3j (.v .bool) 1)) (z1q4 N) Tryd.func32 (by kernel_rfl) (by decide) (fun _ hb=>(TabOk.cons (z1gc hb) TabOk.nil)) (fun x y h=>by rw[z19t];exact h) (z1a (s:=(.v .bool)) (m:=1))
def zse:Code:=(Tryd.f19.body).getD .skip
def L_29:List (List Nat×List Nat):=[([0],[1]),([0,0,1],[7,1]),([1,0,1],[1]),([0,0,1,0,1],[2]),([1,0,1,0,1],[2]),([0,0,1,1],[11,10,9]),([0,1,0,1,1],[11,10,9]),(z13d,[12,9,11,10]),(z10h,[9,11,10]),(z13g,[]),(z13h,[4,11,10,9]),(z13q,[17,11,10,9]),(z15c,[11,10,9]),([0,0,1,1,0,0,1,1,0,0,1,0,1,1],[2]),([1,0,1,1,0,0,1,1,0,0,1,0,1,1],[2]),(z13f,[11,10,9]),(z13e,[11,10,9]),([1,0,1,1],[]),([0,1,1,1],[2]),([1,1,1,1],[2])]
def E_29 (N:Nat)(self:DT5->Option Bool):Env:=z1m tys glob [(32,zfn N),(19,z12 [(0,.v TT3)] (fun x=>self x.1) (z7r (.v .bool) 1))] [] [] [] false [] [(44,za N)]
theorem z1q3 (N:Nat)(self:DT5->Option Bool)(hself:Contract Tryd.prog glob 19 (z12 [(0,.v TT3)] (fun x=>self x.1) (z7r (.v .bool) 1))):EnvOk Tryd.prog (E_29 N self):=zi mixed zr (FnsOk.cons (zo3 N) (FnsOk.cons (hself) (FnsOk.nil))) (ItsOk.cons (zb N) (ItsOk.nil))
def ziq (N:Nat)(self:DT5->Option Bool)(x9:(List Tree))(x10:Int)(x11:Int)(rec:Int->Option Bool)(k0:Bool->Option Bool)(k1:Option Bool):Option Bool:=cond (decide (x11<x10)) (cond (inR x11 (List.length x9)) ((self (unN (List.getD x9 (Int.toNat x11) (Tree.mk 0 [] [] 0 0)))).bind fun y=>cond (!y) (k0 false) (rec (IntKind.wrap IntKind.i64 (x11+1)))) none) k1
def zpu (N:Nat)(self:DT5->Option Bool)(x9:(List Tree))(x10:Int)(x11:Int)(k0:Bool->Option Bool)(k1:Option Bool):Option Bool:=iter (fun (v:Int) r=>ziq N self x9 x10 v (fun x11=>(r x11)) k0 k1) N x11
def z1ne (N:Nat)(self:DT5->Option Bool)(i:((List Tree)×Int))(v:Int)(r:Int->Option Bool)(K:Ex->List A->Option Bool):Option Bool:=ziq N self i.1 i.2 v (fun x11=>(r x11)) (fun a0=>(K .ret (mkS [(2,.v .bool)] 16 (a0,())))) (K (.exit 0) (mkS [] 19 ()))
def z1k5 (N:Nat)(self:DT5->Option Bool):Hd Bool:=fun st K=>(unS [(9,.v (.sl .nod)),(0,.v (.int .i64)),(0,.v (.int .i64))] 7 (restr [11,10,9] 0 st)).bind fun x=>iter (fun v r=>z1ne N self ((fun x=>(x.1,x.2.1)) x) v r K) N ((fun x=>x.2.2.1) x)
def t1_29 (N:Nat)(self:DT5->Option Bool):Tab Bool:=[]
theorem z1gb {N:Nat}{self:DT5->Option Bool}{c:Ctx}(hb:Base Tryd.prog (E_29 N self) c):zk Tryd.prog c (zh zse [0,1,0,1,1]) (z1k5 N self) :=
 z1e (s:=[(9,.v (.sl .nod)),(0,.v (.int .i64)),(0,.v (.int .i64))]) (m:=7) (z1ne N self) [11,10,9] N (fun x=>(x.1,x.2.1)) (fun x=>x.2.2.1) (fun i v=>(i.1,i.2,v,())) (fun _=>rfl) (zg hb N (t1_29 N self) L_29 zse TabOk.nil [0,0,1,0,1,1] _ rfl) (fun i v r K=>by kernel_rfl)
def zk7 (N:Nat)(self:DT5->Option Bool)(n:DT5):Option Bool:=(zgg N n).bind fun y=>cond (!y) (some false) (zpu N self n.2.2.1 (List.length n.2.2.1:Int) 0 (fun x2=>some x2) (some true))
def t_29 (N:Nat)(self:DT5->Option Bool):Tab Bool:=[([0,1,0,1,1],z1k5 N self)]
theorem z19s (N:Nat)(self:DT5->Option Bool)(x:z16 [(0,.v TT3)]):z52 (E_29 N self) N (t_29 N self) L_29 Tryd.f19 (mkS [(0,.v TT3)] 0 x) (z3j (.v .bool) 1)=zk7 N self x.1:=by kernel_rfl
def z97:Nat->DT5->Option Bool
 | 0=>fun _=>none
 | N+1=>zk7 (N+1) (z97 N)
def zgh (N:Nat):List A->Res:=z12 [(0,.v TT3)] (fun x=>z97 N x.1) (z7r (.v .bool) 1)
theorem zir:∀ N:Nat,Contract Tryd.prog glob 19 (zgh N)
 | 0=>Contract.zero Tryd.func19 (body:=zse) (by kernel_rfl) (by decide) (fun _=>rfl)
 | N+1=>Contract.of (E:=E_29 (N+1) (z97 N)) (H:=t_29 (N+1) (z97 N)) (L:=L_29) (N:=(N+1)) (body:=zse) (K:=(z3j (.v .bool) 1)) (z1q3 (N+1) (z97 N) (zir N)) Tryd.func19 (by kernel_rfl) (by decide) (fun _ hb=>(TabOk.cons (z1gb hb) TabOk.nil)) (fun x y h=>by rw[z19s];exact h) (z1a (s:=(.v .bool)) (m:=1))
def z1b0:Code:=(Tryd.f33.body).getD .skip
def L_30:List (List Nat×List Nat):=[([0],[1]),([0,0,1],[5,1]),([1,0,1],[1]),([0,0,1,0,1],[2]),([1,0,1,0,1],[2]),([0,1,1],[2]),([1,1,1],[2])]
def E_30 (N:Nat):Env:=z1m tys glob [] [] [] [] false [] [(44,za N)]
theorem z1q2 (N:Nat):EnvOk Tryd.prog (E_30 N):=zi mixed zr (FnsOk.nil) (ItsOk.cons (zb N) (ItsOk.nil))
def zcs (N:Nat)(n:DT5):Option Int:=cond (n.2.2.2.2.1 == (-1)) (some (IntKind.wrap IntKind.i64 (n.2.2.2.1+1))) (some n.2.2.2.2.1)
def t_30 (N:Nat):Tab Int:=[]
theorem z19r (N:Nat)(x:z16 [(0,.v TT3)]):z52 (E_30 N) N (t_30 N) L_30 Tryd.f33 (mkS [(0,.v TT3)] 0 x) (z3j (.v (.int .i64)) 1)=zcs N x.1:=by kernel_rfl
def za7 (N:Nat):List A->Res:=z12 [(0,.v TT3)] (fun x=>zcs N x.1) (z7r (.v (.int .i64)) 1)
theorem zg5 (N:Nat):Contract Tryd.prog glob 33 (za7 N) :=
 Contract.of (E:=E_30 N) (H:=t_30 N) (L:=L_30) (N:=N) (body:=z1b0) (K:=(z3j (.v (.int .i64)) 1)) (z1q2 N) Tryd.func33 (by kernel_rfl) (by decide) (fun _ hb=>TabOk.nil) (fun x y h=>by rw[z19r];exact h) (z1a (s:=(.v (.int .i64))) (m:=1))
def zh7:Code:=(Tryd.f20.body).getD .skip
def z1of:List (List Nat×List Nat):=[([0],[1]),([0,1],[1,3]),([0,0,1,1],[8,1,3]),([1,0,1,1],[1,3]),([0,1,0,1,1],[1,3]),([0,0,1,1,1],[12,11,10,3,1]),([0,1,0,1,1,1],[12,11,10,3,1]),(zx3,[13,10,12,3,11,1]),(z1bg,[10,12,3,11,1]),(z1bi,[1,3]),(z1cd,[3,5,12,11,10,1]),([1,0,0,1,1,0,0,1,0,1,1,1],[12,11,10,3,1]),(z10c,[12,11,10,3,1]),(z10b,[12,11,10,3,1]),([1,0,1,1,1],[1,3]),([0,0,1,1,1,1],[24,3,1]),([1,0,1,1,1,1],[3]),(z13p,[3]),([0,1,1,1,1,1],[2]),([1,1,1,1,1,1],[2])]
def z1cp (N:Nat)(self:DT5->Option Int):Env:=z1m tys glob [(33,za7 N),(20,z12 [(0,.v TT3)] (fun x=>self x.1) (z7r (.v (.int .i64)) 1))] [] [] [] false [] [(44,za N)]
theorem z1q1 (N:Nat)(self:DT5->Option Int)(hself:Contract Tryd.prog glob 20 (z12 [(0,.v TT3)] (fun x=>self x.1) (z7r (.v (.int .i64)) 1))):EnvOk Tryd.prog (z1cp N self):=zi mixed zr (FnsOk.cons (zg5 N) (FnsOk.cons (hself) (FnsOk.nil))) (ItsOk.cons (zb N) (ItsOk.nil))
def zig (N:Nat)(self:DT5->Option Int)(n:DT5)(total:Int)(k0:Int->Option Int):Option Int:=cond (n.1 == 1) (k0 1) (k0 total)
def z1nd (N:Nat)(self:DT5->Option Int)(x:z16 z167)(K:Ex->List A->Option Int):Option Int:=zig N self x.1 x.2.1 (fun a1=>(K .normal (mkS z167 27 (x.1,a1,()))))
def z1k4 (N:Nat)(self:DT5->Option Int):Hd Int:=fun st K=>(unS z167 27 (restr [1,3] 0 st)).bind fun x=>z1nd N self x K
def t1_31 (N:Nat)(self:DT5->Option Int):Tab Int:=[]
theorem z1ga {N:Nat}{self:DT5->Option Int}{c:Ctx}(hb:Base Tryd.prog (z1cp N self) c):zk Tryd.prog c (zh zh7 [0,1,1]) (z1k4 N self) :=
 zw (s:=z167) (m:=27) (g:=z1nd N self) [1,3] (zg hb N (t1_31 N self) z1of zh7 TabOk.nil [0,1,1] _ rfl) (fun x K=>by kernel_rfl)
def zie (N:Nat)(self:DT5->Option Int)(n:DT5)(x10:(List Tree))(x11:Int)(total:Int)(x12:Int)(rec:Int->Int->Option Int)(k0:Int->Option Int):Option Int:=cond (decide (x12<x11)) (cond (inR x12 (List.length x10)) ((self (unN (List.getD x10 (Int.toNat x12) (Tree.mk 0 [] [] 0 0)))).bind fun y=>rec (if (513<(IntKind.wrap IntKind.i64 (total+y))) then 513 else (IntKind.wrap IntKind.i64 (total+y))) (IntKind.wrap IntKind.i64 (x12+1))) none) (k0 total)
def zpp (N:Nat)(self:DT5->Option Int)(n:DT5)(total:Int)(x10:(List Tree))(x11:Int)(x12:Int)(k0:Int->Option Int):Option Int:=iter (fun (v:(Int×Int)) r=>zie N self n x10 x11 v.1 v.2 (fun total x12=>(r (total,x12))) k0) N (total,x12)
def z1ly (N:Nat)(self:DT5->Option Int)(i:(DT5×(List Tree)×Int))(v:(Int×Int))(r:(Int×Int)->Option Int)(K:Ex->List A->Option Int):Option Int:=zie N self i.1 i.2.1 i.2.2 v.1 v.2 (fun total x12=>(r (total,x12))) (fun a1=>(K (.exit 0) (mkS z167 27 (i.1,a1,()))))
def z1ip (N:Nat)(self:DT5->Option Int):Hd Int:=fun st K=>(unS SQ85 18 (restr [12,11,10,3,1] 0 st)).bind fun x=>iter (fun v r=>z1ly N self ((fun x=>(x.1,x.2.2.1,x.2.2.2.1)) x) v r K) N ((fun x=>(x.2.1,x.2.2.2.2.1)) x)
def t2_31 (N:Nat)(self:DT5->Option Int):Tab Int:=[]
theorem z1ev {N:Nat}{self:DT5->Option Int}{c:Ctx}(hb:Base Tryd.prog (z1cp N self) c):zk Tryd.prog c (zh zh7 [0,1,0,1,1,1]) (z1ip N self) :=
 z1e (s:=SQ85) (m:=18) (z1ly N self) [12,11,10,3,1] N (fun x=>(x.1,x.2.2.1,x.2.2.2.1)) (fun x=>(x.2.1,x.2.2.2.2.1)) (fun i v=>(i.1,v.1,i.2.1,i.2.2,v.2,())) (fun _=>rfl) (zg hb N (t2_31 N self) z1of zh7 TabOk.nil zwv _ rfl) (fun i v r K=>by kernel_rfl)
def zif (N:Nat)(self:DT5->Option Int)(n:DT5)(total:Int)(k0:Int->Option Int):Option Int:=cond (n.1 == 4) ((zcs N n).bind fun y=>k0 (IntKind.wrap IntKind.i64 (total*y))) (k0 total)
def z1l9 (N:Nat)(self:DT5->Option Int)(x:z16 z167)(K:Ex->List A->Option Int):Option Int:=zif N self x.1 x.2.1 (fun a0=>(K .normal (mkS [(3,.v (.int .i64))] 27 (a0,()))))
def z1i0 (N:Nat)(self:DT5->Option Int):Hd Int:=fun st K=>(unS z167 27 (restr [1,3] 0 st)).bind fun x=>z1l9 N self x K
def t3_31 (N:Nat)(self:DT5->Option Int):Tab Int:=[]
theorem z1e6 {N:Nat}{self:DT5->Option Int}{c:Ctx}(hb:Base Tryd.prog (z1cp N self) c):zk Tryd.prog c (zh zh7 [0,1,1,1,1]) (z1i0 N self) :=
 zw (s:=z167) (m:=27) (g:=z1l9 N self) [1,3] (zg hb N (t3_31 N self) z1of zh7 TabOk.nil [0,1,1,1,1] _ rfl) (fun x K=>by kernel_rfl)
def zjx (N:Nat)(self:DT5->Option Int)(n:DT5):Option Int:=zig N self n 0 (fun total=>zpp N self n total n.2.2.1 (List.length n.2.2.1:Int) 0 (fun total1=>zif N self n total1 (fun total2=>some (if (513<total2) then 513 else total2))))
def t_31 (N:Nat)(self:DT5->Option Int):Tab Int:=[([0,1,1],z1k4 N self),([0,1,0,1,1,1],z1ip N self),([0,1,1,1,1],z1i0 N self)]
theorem z19q (N:Nat)(self:DT5->Option Int)(x:z16 [(0,.v TT3)]):z52 (z1cp N self) N (t_31 N self) z1of Tryd.f20 (mkS [(0,.v TT3)] 0 x) (z3j (.v (.int .i64)) 1)=zjx N self x.1:=by kernel_rfl
def z92:Nat->DT5->Option Int
 | 0=>fun _=>none
 | N+1=>zjx (N+1) (z92 N)
def zg4 (N:Nat):List A->Res:=z12 [(0,.v TT3)] (fun x=>z92 N x.1) (z7r (.v (.int .i64)) 1)
theorem zih:∀ N:Nat,Contract Tryd.prog glob 20 (zg4 N)
 | 0=>Contract.zero Tryd.func20 (body:=zh7) (by kernel_rfl) (by decide) (fun _=>rfl)
 | N+1=>Contract.of (E:=z1cp (N+1) (z92 N)) (H:=t_31 (N+1) (z92 N)) (L:=z1of) (N:=(N+1)) (body:=zh7) (K:=(z3j (.v (.int .i64)) 1)) (z1q1 (N+1) (z92 N) (zih N)) Tryd.func20 (by kernel_rfl) (by decide) (fun _ hb=>(TabOk.cons (z1ga hb) (TabOk.cons (z1ev hb) (TabOk.cons (z1e6 hb) TabOk.nil)))) (fun x y h=>by rw[z19q];exact h) (z1a (s:=(.v (.int .i64))) (m:=1))
def z1az:Code:=(Tryd.f34.body).getD .skip
def L_32:List (List Nat×List Nat):=[([0],[0]),([0,1],[0]),([1,1],[0])]
def E_32 (N:Nat):Env:=z1m tys glob [] [] [] [] false [] [(44,za N)]
theorem z1q0 (N:Nat):EnvOk Tryd.prog (E_32 N):=zi mixed zr (FnsOk.nil) (ItsOk.cons (zb N) (ItsOk.nil))
def zjv (N:Nat):Option z49:=some (true,([],([],())))
def t_32 (N:Nat):Tab z49:=[]
theorem z19p (N:Nat)(x:z16 []):z52 (E_32 N) N (t_32 N) L_32 Tryd.f34 (mkS [] 0 x) (z3j (.v TT7) 0)=zjv N:=by kernel_rfl
def z91 (N:Nat):List A->Res:=z12 [] (fun x=>zjv N) (z7r (.v TT7) 0)
theorem zff (N:Nat):Contract Tryd.prog glob 34 (z91 N) :=
 Contract.of (E:=E_32 N) (H:=t_32 N) (L:=L_32) (N:=N) (body:=z1az) (K:=(z3j (.v TT7) 0)) (z1q0 N) Tryd.func34 (by kernel_rfl) (by decide) (fun _ hb=>TabOk.nil) (fun x y h=>by rw[z19p];exact h) (z1a (s:=(.v TT7)) (m:=0))
def z1ay:Code:=(Tryd.f69.body).getD .skip
def L_33:List (List Nat×List Nat):=[([0],[0]),([0,1],[2]),([1,1],[2])]
def E_33 (N:Nat):Env:=z1m tys glob [] [] [] [] false [] [(44,za N)]
theorem z1pz (N:Nat):EnvOk Tryd.prog (E_33 N):=zi mixed zr (FnsOk.nil) (ItsOk.cons (zb N) (ItsOk.nil))
def zkn (N:Nat)(x0:Int):Option Bool:=some (x0 != x0)
def t_33 (N:Nat):Tab Bool:=[]
theorem z19o (N:Nat)(x:z16 [(0,.v (.int .i64))]):z52 (E_33 N) N (t_33 N) L_33 Tryd.f69 (mkS [(0,.v (.int .i64))] 0 x) (z3j (.v .bool) 1)=zkn N x.1:=by kernel_rfl
def ze6 (N:Nat):List A->Res:=z12 [(0,.v (.int .i64))] (fun x=>zkn N x.1) (z7r (.v .bool) 1)
theorem zn0 (N:Nat):Contract Tryd.prog glob 69 (ze6 N) :=
 Contract.of (E:=E_33 N) (H:=t_33 N) (L:=L_33) (N:=N) (body:=z1ay) (K:=(z3j (.v .bool) 1)) (z1pz N) Tryd.func69 (by kernel_rfl) (by decide) (fun _ hb=>TabOk.nil) (fun x y h=>by rw[z19o];exact h) (z1a (s:=(.v .bool)) (m:=1))
def z1ax:Code:=(Tryd.f60.body).getD .skip
def L_34:List (List Nat×List Nat):=[([0],[0,1]),([0,1],[1,5,0]),([0,1,1],[5,6,0,1]),([0,0,1,1,1],[11,6,0,1]),([1,0,1,1,1],[6,0,1]),(zx3,[12]),([1,0,0,1,0,1,1,1],[]),([0,0,1,0,0,1,0,1,1,1],[4]),(z1bi,[4]),([0,1,0,1,0,1,1,1],[4]),([1,1,0,1,0,1,1,1],[4]),([0,0,1,1,1,1],[13,0,1]),([1,0,1,1,1,1],[0,1]),(z107,[4]),([1,0,1,0,1,1,1,1],[4]),(zq4,[16,0,1]),(z159,[0,1]),([0,0,1,0,1,1,1,1,1],[4]),([1,0,1,0,1,1,1,1,1],[4]),([0,0,1,1,1,1,1,1],[19]),([1,0,1,1,1,1,1,1],[]),([0,0,1,0,1,1,1,1,1,1],[4]),([1,0,1,0,1,1,1,1,1,1],[4]),(z10i,[4]),(z16d,[4])]
def E_34 (N:Nat):Env:=z1m tys glob [(69,ze6 N)] [] [] [] false [] [(44,za N)]
theorem z1py (N:Nat):EnvOk Tryd.prog (E_34 N):=zi mixed zr (FnsOk.cons (zn0 N) (FnsOk.nil)) (ItsOk.cons (zb N) (ItsOk.nil))
def zc8 (N:Nat)(x0:Int)(y:Int):Option Int:=cond (x0 != x0) (cond (y != y) (some 0) (some (-1))) (cond (y != y) (some 1) (cond (decide (x0<y)) (some (-1)) (cond (decide (y<x0)) (some 1) (some 0))))
def t_34 (N:Nat):Tab Int:=[]
theorem z19n (N:Nat)(x:z16 zzy):z52 (E_34 N) N (t_34 N) L_34 Tryd.f60 (mkS zzy 0 x) (z3j (.v (.int .i64)) 2)=zc8 N x.1 x.2.1:=by kernel_rfl
def zc7 (N:Nat):List A->Res:=z12 zzy (fun x=>zc8 N x.1 x.2.1) (z7r (.v (.int .i64)) 2)
theorem zko (N:Nat):Contract Tryd.prog glob 60 (zc7 N) :=
 Contract.of (E:=E_34 N) (H:=t_34 N) (L:=L_34) (N:=N) (body:=z1ax) (K:=(z3j (.v (.int .i64)) 2)) (z1py N) Tryd.func60 (by kernel_rfl) (by decide) (fun _ hb=>TabOk.nil) (fun x y h=>by rw[z19n];exact h) (z1a (s:=(.v (.int .i64))) (m:=2))
def zfd:Code:=(Tryd.f51.body).getD .skip
def z1ck:List (List Nat×List Nat):=[([0],[0,1]),([0,1],[0,1,5]),([0,0,1,1],[0,1,5]),(z102,[20,0,1,5]),(z101,[0,1,5]),(z106,[5,0,1]),([0,0,1,0,0,0,1,1],[6,5,0,1]),([0,0,1,0,1,0,0,0,1,1],[29,5,0,6,1]),([1,0,1,0,1,0,0,0,1,1],[6,1,0,5]),([1,1,0,1,0,1,0,0,0,1,1],[6,1,0,5]),([0,0,1,0,1,0,1,0,0,0,1,1],[0,6,1,5]),([1,0,1,0,1,0,1,0,0,0,1,1],[6,1,0,5]),([0,1,1,0,1,0,0,0,1,1],[45,1,0,5]),([1,1,1,0,1,0,0,0,1,1],[0,1,5]),([0,1,1,1,0,1,0,0,0,1,1],[0,1,5]),([1,0,0,0,1,1],[0,1,5]),([0,1,1],[5,0,1]),([0,1,1,1],[5,1]),([0,1,1,1,1],[4]),([1,1,1,1,1],[4])]
def z1bu (N:Nat):Env:=z1m tys glob [(60,zc7 N)] [(0,(.int .i64)),(1,(.int .i64)),(5,(.int .i64)),(4,(.int .i64))] [] [] false [] [(44,za N)]
theorem z1px (N:Nat):EnvOk Tryd.prog (z1bu N):=zi mixed zr (FnsOk.cons (zko N) (FnsOk.nil)) (ItsOk.cons (zb N) (ItsOk.nil))
def zcq (N:Nat)(a:(List Int))(b:(List Int))(l:(List Int))(k0:Option (List Int))(k1:Option (List Int)):Option (List Int):=cond (decide (0<(List.length a:Int))) (cond (decide (0<(List.length b:Int))) k0 k1) k1
def z1l8 (N:Nat)(x:z16 SQ7)(K:Ex->List A->Option (List Int)):Option (List Int):=zcq N x.1 x.2.1 x.2.2.1 (K .normal (mkS SQ7 48 (x.1,x.2.1,x.2.2.1,()))) (K (.exit 0) (mkS SQ7 48 (x.1,x.2.1,x.2.2.1,())))
def z1hz (N:Nat):Hd (List Int):=fun st K=>(unS SQ7 48 (restr [0,1,5] 0 st)).bind fun x=>z1l8 N x K
def t3_35 (N:Nat):Tab (List Int):=[]
theorem z1e5 {N:Nat}{c:Ctx}(hb:Base Tryd.prog (z1bu N) c):zk Tryd.prog c (zh zfd [0,0,0,0,1,1]) (z1hz N) :=
 zw (s:=SQ7) (m:=48) (g:=z1l8 N) [0,1,5] (zg hb N (t3_35 N) z1ck zfd TabOk.nil [0,0,0,0,1,1] _ rfl) (fun x K=>by kernel_rfl)
def zcp (N:Nat)(a:(List Int))(b:(List Int))(l:(List Int))(order:Int)(k0:(List Int)->(List Int)->Option (List Int)):Option (List Int):=cond (decide (order<=0)) (cond (inR 0 (List.length a)) (cond (decide ((((List.length l)+1)*8)<=70368744177664)) (cond (decide (((0:Int)<=1)/\(1<=(List.length a:Int)))) (k0 (cut a 1 (List.length a)) (l++([(List.getD a 0 0)]:List Int))) none) none) none) (cond (inR 0 (List.length b)) (cond (decide ((((List.length l)+1)*8)<=70368744177664)) (k0 a (l++([(List.getD b 0 0)]:List Int))) none) none)
def z1kw (N:Nat)(x:z16 SQ27)(K:Ex->List A->Option (List Int)):Option (List Int):=zcp N x.1 x.2.1 x.2.2.1 x.2.2.2.1 (fun a0 a2=>(K .normal (mkS SQ27 47 (a0,x.2.1,a2,x.2.2.2.1,()))))
def z1hn (N:Nat):Hd (List Int):=fun st K=>(unS SQ27 47 (restr [6,5,0,1] 0 st)).bind fun x=>z1kw N x K
def t4_35 (N:Nat):Tab (List Int):=[]
theorem z1dt {N:Nat}{c:Ctx}(hb:Base Tryd.prog (z1bu N) c):zk Tryd.prog c (zh zfd [0,1,0,1,0,0,0,1,1]) (z1hn N) :=
 zw (s:=SQ27) (m:=47) (g:=z1kw N) [6,5,0,1] (zg hb N (t4_35 N) z1ck zfd TabOk.nil [0,1,0,1,0,0,0,1,1] _ rfl) (fun x K=>by kernel_rfl)
def zco (N:Nat)(a:(List Int))(b:(List Int))(l:(List Int))(rec:(List Int)->(List Int)->(List Int)->Option (List Int))(k0:(List Int)->(List Int)->(List Int)->Option (List Int)):Option (List Int):=zcq N a b l (cond (inR 0 (List.length a)) (cond (inR 0 (List.length b)) ((zc8 N (List.getD a 0 0) (List.getD b 0 0)).bind fun y=>zcp N a b l y (fun a1 l1=>cond (decide (0<=y)) (cond (decide (((0:Int)<=1)/\(1<=(List.length b:Int)))) (rec a1 (cut b 1 (List.length b)) l1) none) (rec a1 b l1))) none) none) (k0 a b l)
def zjw (N:Nat)(a:(List Int))(b:(List Int))(l:(List Int))(k0:(List Int)->(List Int)->(List Int)->Option (List Int)):Option (List Int):=iter (fun (v:((List Int)×(List Int)×(List Int))) r=>zco N v.1 v.2.1 v.2.2 (fun a b l=>(r (a,b,l))) k0) N (a,b,l)
def z1lx (N:Nat)(i:Unit)(v:((List Int)×(List Int)×(List Int)))(r:((List Int)×(List Int)×(List Int))->Option (List Int))(K:Ex->List A->Option (List Int)):Option (List Int):=zco N v.1 v.2.1 v.2.2 (fun a b l=>(r (a,b,l))) (fun a0 a1 a2=>(K (.exit 0) (mkS SQ7 48 (a0,a1,a2,()))))
def z1io (N:Nat):Hd (List Int):=fun st K=>(unS SQ7 48 (restr [0,1,5] 0 st)).bind fun x=>iter (fun v r=>z1lx N ((fun x=>()) x) v r K) N ((fun x=>(x.1,x.2.1,x.2.2.1)) x)
def t2_35 (N:Nat):Tab (List Int):=[([0,0,0,0,1,1],z1hz N),([0,1,0,1,0,0,0,1,1],z1hn N)]
theorem z1eu {N:Nat}{c:Ctx}(hb:Base Tryd.prog (z1bu N) c):zk Tryd.prog c (zh zfd [0,0,1,1]) (z1io N) :=
 z1e (s:=SQ7) (m:=48) (z1lx N) [0,1,5] N (fun x=>()) (fun x=>(x.1,x.2.1,x.2.2.1)) (fun i v=>(v.1,v.2.1,v.2.2,())) (fun _=>rfl) (zg hb N (t2_35 N) z1ck zfd (TabOk.cons (z1e5 hb) (TabOk.cons (z1dt hb) TabOk.nil)) [0,0,0,1,1] _ rfl) (fun i v r K=>by kernel_rfl)
def zcr (N:Nat)(a:(List Int))(b:(List Int))(l:(List Int))(k0:(List Int)->(List Int)->(List Int)->Option (List Int)):Option (List Int):=zjw N a b l (fun a1 b1 l1=>k0 a1 b1 l1)
def z1nc (N:Nat)(x:z16 SQ7)(K:Ex->List A->Option (List Int)):Option (List Int):=zcr N x.1 x.2.1 x.2.2.1 (fun a0 a1 a2=>(K .normal (mkS SQ7 48 (a0,a1,a2,()))))
def z1k3 (N:Nat):Hd (List Int):=fun st K=>(unS SQ7 48 (restr [0,1,5] 0 st)).bind fun x=>z1nc N x K
def t1_35 (N:Nat):Tab (List Int):=[([0,0,1,1],z1io N)]
theorem z1g9 {N:Nat}{c:Ctx}(hb:Base Tryd.prog (z1bu N) c):zk Tryd.prog c (zh zfd [0,1,1]) (z1k3 N) :=
 zw (s:=SQ7) (m:=48) (g:=z1nc N) [0,1,5] (zg hb N (t1_35 N) z1ck zfd (TabOk.cons (z1eu hb) TabOk.nil) [0,1,1] _ rfl) (fun x K=>by kernel_rfl)
def z2h (N:Nat)(a:(List Int))(b:(List Int)):Option (List Int):=cond (decide (((0:Int)<=0)/\((0<=(IntKind.wrap IntKind.i64 ((List.length a:Int)+(List.length b:Int))))/\((((IntKind.wrap IntKind.i64 ((List.length a:Int)+(List.length b:Int)))*8)<=281474976710656)/\((IntKind.wrap IntKind.i64 ((List.length a:Int)+(List.length b:Int)))<=9223372036854775807))))) (zcr N a b [] (fun a1 b1 l=>cond (decide ((((List.length l)+(List.length a1))*8)<=70368744177664)) (cond (decide ((((List.length (l++a1))+(List.length b1))*8)<=70368744177664)) (some ((l++a1)++b1)) none) none)) none
def t_35 (N:Nat):Tab (List Int):=[([0,1,1],z1k3 N)]
theorem z19m (N:Nat)(x:z16 z1bd):z52 (z1bu N) N (t_35 N) z1ck Tryd.f51 (mkS z1bd 0 x) (z3j (.v (.sl (.int .i64))) 2)=z2h N x.1 x.2.1:=by kernel_rfl
def z4p (N:Nat):List A->Res:=z12 z1bd (fun x=>z2h N x.1 x.2.1) (z7r (.v (.sl (.int .i64))) 2)
theorem z7s (N:Nat):Contract Tryd.prog glob 51 (z4p N) :=
 Contract.of (E:=z1bu N) (H:=t_35 N) (L:=z1ck) (N:=N) (body:=zfd) (K:=(z3j (.v (.sl (.int .i64))) 2)) (z1px N) Tryd.func51 (by kernel_rfl) (by decide) (fun _ hb=>(TabOk.cons (z1g9 hb) TabOk.nil)) (fun x y h=>by rw[z19m];exact h) (z1a (s:=(.v (.sl (.int .i64)))) (m:=2))
def zwi:Code:=(Tryd.f50.body).getD .skip
def L_36:List (List Nat×List Nat):=[([0],[10,9,8,0,2]),([0,1],[10,9,8,0,2]),([0,0,0,1],[11,8,10,0,2,9]),([0,1,0,0,1],[8,10,0,2,9]),([1,0,1,0,0,1],[0]),([0,0,0,1,1,0,0,1],[0,7,2,10,9,8]),([1,0,0,1,1,0,0,1],[10,9,8,0,2]),([0,1,1,0,0,1],[10,9,8,0,2]),([1,1,1,0,0,1],[10,9,8,0,2]),([1],[0])]
def E_36 (N:Nat):Env:=z1m tys glob [(51,z4p N)] [] [] [0] false [] [(44,za N)]
theorem z1pw (N:Nat):EnvOk Tryd.prog (E_36 N):=zi mixed zr (FnsOk.cons (z7s N) (FnsOk.nil)) (ItsOk.cons (zb N) (ItsOk.nil))
def z9p (N:Nat)(first:(List Int))(x8:(List Int))(x9:Int)(b:z4a)(x10:Int)(rec:z4a->Int->Option ((Unit)×(z4a×Unit)))(k0:z4a->Option ((Unit)×(z4a×Unit))):Option ((Unit)×(z4a×Unit)):=cond (decide (x10<x9)) (cond (inR x10 (List.length x8)) (cond (inR (List.getD x8 (Int.toNat x10) 0) (List.length b.2.1)) (cond (decide ((Int.toNat (List.getD x8 (Int.toNat x10) 0))<(List.length b.2.1))) ((z2h N (List.getD b.2.1 (Int.toNat (List.getD x8 (Int.toNat x10) 0)) []) first).bind fun y=>cond (inR (List.getD x8 (Int.toNat x10) 0) (List.length b.2.1)) (cond (decide ((Int.toNat (List.getD x8 (Int.toNat x10) 0))<(List.length b.2.1))) (rec (b.1,((List.set b.2.1 (Int.toNat (List.getD x8 (Int.toNat x10) 0)) y),b.2.2)) (IntKind.wrap IntKind.i64 (x10+1))) none) none) none) none) none) (k0 b)
def zg6 (N:Nat)(b:z4a)(first:(List Int))(x8:(List Int))(x9:Int)(x10:Int)(k0:z4a->Option ((Unit)×(z4a×Unit))):Option ((Unit)×(z4a×Unit)):=iter (fun (v:(z4a×Int)) r=>z9p N first x8 x9 v.1 v.2 (fun b x10=>(r (b,x10))) k0) N (b,x10)
def z1nb (N:Nat)(i:((List Int)×(List Int)×Int))(v:(z4a×Int))(r:(z4a×Int)->Option ((Unit)×(z4a×Unit)))(K:Ex->List A->Option ((Unit)×(z4a×Unit))):Option ((Unit)×(z4a×Unit)):=z9p N i.1 i.2.1 i.2.2 v.1 v.2 (fun b x10=>(r (b,x10))) (fun a0=>(K (.exit 0) (mkS [(0,.box zea)] 29 (a0,()))))
def z1k2 (N:Nat):Hd ((Unit)×(z4a×Unit)):=fun st K=>(unS SQ71 19 (restr [10,9,8,0,2] 0 st)).bind fun x=>iter (fun v r=>z1nb N ((fun x=>(x.2.1,x.2.2.1,x.2.2.2.1)) x) v r K) N ((fun x=>(x.1,x.2.2.2.2.1)) x)
def t1_36 (N:Nat):Tab ((Unit)×(z4a×Unit)):=[]
theorem z1g8 {N:Nat}{c:Ctx}(hb:Base Tryd.prog (E_36 N) c):zk Tryd.prog c (zh zwi [0,1]) (z1k2 N) :=
 z1e (s:=SQ71) (m:=19) (z1nb N) [10,9,8,0,2] N (fun x=>(x.2.1,x.2.2.1,x.2.2.2.1)) (fun x=>(x.1,x.2.2.2.2.1)) (fun i v=>(v.1,i.1,i.2.1,i.2.2,v.2,())) (fun _=>rfl) (zg hb N (t1_36 N) L_36 zwi TabOk.nil [0,0,1] _ rfl) (fun i v r K=>by kernel_rfl)
def z5d (N:Nat)(b:z4a)(last:(List Int))(first:(List Int)):Option ((Unit)×(z4a×Unit)):=zg6 N b first last (List.length last:Int) 0 (fun b1=>some ((),(b1,())))
def t_36 (N:Nat):Tab ((Unit)×(z4a×Unit)):=[([0,1],z1k2 N)]
theorem z19l (N:Nat)(x:z16 SQ77):z52 (E_36 N) N (t_36 N) L_36 Tryd.f50 (mkS SQ77 0 x) (z37 (.tup []) [(0,.box zea)] 2)=z5d N x.1 x.2.1 x.2.2.1:=by kernel_rfl
def z56 (N:Nat):List A->Res:=z12 SQ77 (fun x=>z5d N x.1 x.2.1 x.2.2.1) (z3t (.tup []) [(0,.box zea)] 2)
theorem z9q (N:Nat):Contract Tryd.prog glob 50 (z56 N) :=
 Contract.of (E:=E_36 N) (H:=t_36 N) (L:=L_36) (N:=N) (body:=zwi) (K:=(z37 (.tup []) [(0,.box zea)] 2)) (z1pw N) Tryd.func50 (by kernel_rfl) (by decide) (fun _ hb=>(TabOk.cons (z1g8 hb) TabOk.nil)) (fun x y h=>by rw[z19l];exact h) (z2f (s:=(.tup [])) (os:=[(0,.box zea)]) (m:=2))
def zpc:Code:=(Tryd.f35.body).getD .skip
def L_37:List (List Nat×List Nat):=[([0],[0,4,5,6]),([0,1],[4,5,6,0]),([0,1,1],[4,5,7,6,0]),([0,0,1,1,1],[26,4,5,7,6,0]),([1,0,1,1,1],[5,4,7,6,0]),([0,1,0,1,1,1],[5,4,7,6,0]),([0,0,1,1,1,1],[34,4,5,7,6,0]),([1,0,1,1,1,1],[7,6,0]),(z13p,[7,6,0]),([0,1,1,1,1,1],[6,0]),([1,1,1,1,1,1],[6,0])]
def z1qw (N:Nat):Env:=z1m tys glob [(50,z56 N),(51,z4p N)] [] [] [0] false [] [(44,za N)]
theorem z1pv (N:Nat):EnvOk Tryd.prog (z1qw N):=zi mixed zr (FnsOk.cons (z9q N) (FnsOk.cons (z7s N) (FnsOk.nil))) (ItsOk.cons (zb N) (ItsOk.nil))
def z9m (N:Nat)(b:z4a)(x4:z49)(y:z49)(x6:z49)(k0:z49->Option DT6):Option DT6:=cond x4.1 (k0 (y.1,(x4.2.1,(y.2.2.1,())))) (k0 (false,(x4.2.1,(y.2.2.1,()))))
def z1na (N:Nat)(x:z16 SQ96)(K:Ex->List A->Option DT6):Option DT6:=z9m N x.1 x.2.1 x.2.2.1 x.2.2.2.1 (fun a4=>(K .normal (mkS z1o6 34 (x.1,x.2.1,x.2.2.1,x.2.2.2.1,a4,()))))
def z1k1 (N:Nat):Hd DT6:=fun st K=>(unS SQ96 35 (restr [4,5,6,0] 0 st)).bind fun x=>z1na N x K
def t1_37 (N:Nat):Tab DT6:=[]
theorem z1g7 {N:Nat}{c:Ctx}(hb:Base Tryd.prog (z1qw N) c):zk Tryd.prog c (zh zpc [0,1,1]) (z1k1 N) :=
 zw (s:=SQ96) (m:=35) (g:=z1na N) [4,5,6,0] (zg hb N (t1_37 N) L_37 zpc TabOk.nil [0,1,1] _ rfl) (fun x K=>by kernel_rfl)
def z9l (N:Nat)(b:z4a)(x4:z49)(y:z49)(x6:z49)(whole:z49)(k0:z49->Option DT6):Option DT6:=cond x4.1 ((z2h N x4.2.1 y.2.1).bind fun y1=>k0 (whole.1,(y1,whole.2.2))) (k0 whole)
def z1lw (N:Nat)(x:z16 z1o6)(K:Ex->List A->Option DT6):Option DT6:=z9l N x.1 x.2.1 x.2.2.1 x.2.2.2.1 x.2.2.2.2.1 (fun a4=>(K .normal (mkS z1o6 34 (x.1,x.2.1,x.2.2.1,x.2.2.2.1,a4,()))))
def z1in (N:Nat):Hd DT6:=fun st K=>(unS z1o6 34 (restr [4,5,7,6,0] 0 st)).bind fun x=>z1lw N x K
def t2_37 (N:Nat):Tab DT6:=[]
theorem z1et {N:Nat}{c:Ctx}(hb:Base Tryd.prog (z1qw N) c):zk Tryd.prog c (zh zpc [0,1,1,1]) (z1in N) :=
 zw (s:=z1o6) (m:=34) (g:=z1lw N) [4,5,7,6,0] (zg hb N (t2_37 N) L_37 zpc TabOk.nil [0,1,1,1] _ rfl) (fun x K=>by kernel_rfl)
def z2z (N:Nat)(b:z4a)(x1:z49)(y:z49):Option DT6:=(z5d N b x1.2.2.1 y.2.1).bind fun y1=>z9m N y1.2.1 x1 y (false,([],([],()))) (fun whole=>z9l N y1.2.1 x1 y (false,([],([],()))) whole (fun whole1=>cond y.1 ((z2h N x1.2.2.1 y.2.2.1).bind fun y2=>some ((whole1.1,(whole1.2.1,(y2,whole1.2.2.2))),(y1.2.1,()))) (some (whole1,(y1.2.1,())))))
def t_37 (N:Nat):Tab DT6:=[([0,1,1],z1k1 N),([0,1,1,1],z1in N)]
theorem z19k (N:Nat)(x:z16 [(0,.box zea),(0,.v TT7),(0,.v TT7)]):z52 (z1qw N) N (t_37 N) L_37 Tryd.f35 (mkS [(0,.box zea),(0,.v TT7),(0,.v TT7)] 0 x) (z37 (.v TT7) [(0,.box zea)] 2)=z2z N x.1 x.2.1 x.2.2.1:=by kernel_rfl
def z55 (N:Nat):List A->Res:=z12 [(0,.box zea),(0,.v TT7),(0,.v TT7)] (fun x=>z2z N x.1 x.2.1 x.2.2.1) (z3t (.v TT7) [(0,.box zea)] 2)
theorem z9n (N:Nat):Contract Tryd.prog glob 35 (z55 N) :=
 Contract.of (E:=z1qw N) (H:=t_37 N) (L:=L_37) (N:=N) (body:=zpc) (K:=(z37 (.v TT7) [(0,.box zea)] 2)) (z1pv N) Tryd.func35 (by kernel_rfl) (by decide) (fun _ hb=>(TabOk.cons (z1g7 hb) (TabOk.cons (z1et hb) TabOk.nil))) (fun x y h=>by rw[z19k];exact h) (z2f (s:=(.v TT7)) (os:=[(0,.box zea)]) (m:=2))
def z1aw:Code:=(Tryd.f36.body).getD .skip
def L_38:List (List Nat×List Nat):=[([0],[2,3,4]),([0,1],[4]),([1,1],[4])]
def E_38 (N:Nat):Env:=z1m tys glob [(51,z4p N)] [] [] [] false [] [(44,za N)]
theorem z1pu (N:Nat):EnvOk Tryd.prog (E_38 N):=zi mixed zr (FnsOk.cons (z7s N) (FnsOk.nil)) (ItsOk.cons (zb N) (ItsOk.nil))
def zg3 (N:Nat)(x0:z49)(y:z49):Option z49:=cond x0.1 ((z2h N x0.2.1 y.2.1).bind fun y1=>(z2h N x0.2.2.1 y.2.2.1).bind fun y2=>some (true,(y1,(y2,())))) ((z2h N x0.2.1 y.2.1).bind fun y3=>(z2h N x0.2.2.1 y.2.2.1).bind fun y4=>some (y.1,(y3,(y4,()))))
def t_38 (N:Nat):Tab z49:=[]
theorem z19j (N:Nat)(x:z16 [(0,.v TT7),(0,.v TT7)]):z52 (E_38 N) N (t_38 N) L_38 Tryd.f36 (mkS [(0,.v TT7),(0,.v TT7)] 0 x) (z3j (.v TT7) 2)=zg3 N x.1 x.2.1:=by kernel_rfl
def zfg (N:Nat):List A->Res:=z12 [(0,.v TT7),(0,.v TT7)] (fun x=>zg3 N x.1 x.2.1) (z7r (.v TT7) 2)
theorem znp (N:Nat):Contract Tryd.prog glob 36 (zfg N) :=
 Contract.of (E:=E_38 N) (H:=t_38 N) (L:=L_38) (N:=N) (body:=z1aw) (K:=(z3j (.v TT7) 2)) (z1pu N) Tryd.func36 (by kernel_rfl) (by decide) (fun _ hb=>TabOk.nil) (fun x y h=>by rw[z19j];exact h) (z1a (s:=(.v TT7)) (m:=2))
abbrev zf:Type:=z4a->DT5->Option DT6
def zfc:Code:=(Tryd.f37.body).getD .skip
def z1cj:List (List Nat×List Nat):=[([0],[0,3,4]),([0,1],[0,3,5,4]),([0,1,1],[0,5,4,6,3]),([0,0,1,1,1],[30,4,0,6,3]),([1,0,1,1,1],[6,3,0,4]),(zwv,[4,0]),(zue,[4,0]),([0,0,1,1,1,1],[6,3,0,4]),(z13l,[36,6,0,3,4]),(z13k,[6,0,3,4]),(z13m,[6,3,0,4]),([0,1,0,0,0,1,1,1,1],[6,3,0,4]),(z13i,[6,3,0,4]),([0,1,1,1,1],[6,3,0,4]),([0,1,1,1,1,1],[6,3,0,7,4]),([0,0,1,1,1,1,1,1],[8,3,0,6,7,4]),(z13j,[8,3,0,6,7,4]),([0,0,0,0,1,0,1,1,1,1,1,1],[53,0,6,8,7,3,4]),([1,0,0,0,1,0,1,1,1,1,1,1],[0,6,8,7,3,4]),([1,1,0,0,0,1,0,1,1,1,1,1,1],[3,0,7,6,4]),([0,0,0,1,0,0,1,0,1,1,1,1,1,1],[7,8,3,0,6,4]),([1,0,0,1,0,0,1,0,1,1,1,1,1,1],[8,3,0,6,7,4]),([0,1,0,0,1,0,1,1,1,1,1,1],[8,3,0,6,7,4]),([1,1,0,0,1,0,1,1,1,1,1,1],[8,3,0,6,7,4]),([1,0,1,1,1,1,1,1],[3,0,7,6,4]),([0,0,1,1,1,1,1,1,1],[66,0,7,6,3,4]),([1,0,1,1,1,1,1,1,1],[6,3,0,7,4]),([0,1,0,1,1,1,1,1,1,1],[6,3,0,7,4]),([0,1,1,1,1,1,1,1,1],[6,3,0,9,7,4]),([0,0,1,1,1,1,1,1,1,1,1],zx1),([0,1,0,1,1,1,1,1,1,1,1,1],zx1),([0,0,0,1,0,1,1,1,1,1,1,1,1,1],[80,77,79,0,9,78,7,4]),([0,1,0,0,1,0,1,1,1,1,1,1,1,1,1],[77,79,0,9,78,7,4]),([1,0,1,0,0,1,0,1,1,1,1,1,1,1,1,1],[0,9,7,4]),([0,0,0,1,1,0,0,1,0,1,1,1,1,1,1,1,1,1],[0,9,11,79,78,77,7,4]),([1,0,0,1,1,0,0,1,0,1,1,1,1,1,1,1,1,1],zx1),([0,1,1,0,0,1,0,1,1,1,1,1,1,1,1,1],zx1),([1,1,1,0,0,1,0,1,1,1,1,1,1,1,1,1],zx1),([1,0,1,1,1,1,1,1,1,1,1],[0,9,7,4]),([0,1,1,1,1,1,1,1,1,1,1],[4,0]),([1,1,1,1,1,1,1,1,1,1,1],[4,0])]
def z1bt (N:Nat)(self:zf):Env:=z1m tys glob [(35,z55 N),(50,z56 N),(34,z91 N),(33,za7 N),(21,z12 z13c (fun x=>self x.1 x.2.1) (z3t (.v TT7) [(0,.box zea)] 1))] [(6,TT7)] [] [0] false [] [(44,za N)]
theorem z1pt (N:Nat)(self:zf)(hself:Contract Tryd.prog glob 21 (z12 z13c (fun x=>self x.1 x.2.1) (z3t (.v TT7) [(0,.box zea)] 1))):EnvOk Tryd.prog (z1bt N self):=zi mixed zr (FnsOk.cons (z9n N) (FnsOk.cons (z9q N) (FnsOk.cons (zff N) (FnsOk.cons (zg5 N) (FnsOk.cons (hself) (FnsOk.nil)))))) (ItsOk.cons (zb N) (ItsOk.nil))
def zae (N:Nat)(self:zf)(n:DT5)(x4:z49)(b:z4a)(parts:(List z49))(rec:z4a->(List z49)->Option DT6)(k0:z4a->(List z49)->Option DT6):Option DT6:=(zcs N n).bind fun y=>cond (decide ((List.length parts:Int)<y)) (cond (inR 0 (List.length n.2.2.1)) ((self b (unN (List.getD n.2.2.1 0 (Tree.mk 0 [] [] 0 0)))).bind fun y1=>cond (decide ((((List.length parts)+1)*56)<=70368744177664)) (rec y1.2.1 (parts++([y1.1]:List z49))) none) none) (k0 b parts)
def zi5 (N:Nat)(self:zf)(b:z4a)(n:DT5)(x4:z49)(parts:(List z49))(k0:z4a->(List z49)->Option DT6):Option DT6:=iter (fun (v:(z4a×(List z49))) r=>zae N self n x4 v.1 v.2 (fun b parts=>(r (b,parts))) k0) N (b,parts)
def z1n9 (N:Nat)(self:zf)(i:(DT5×z49))(v:(z4a×(List z49)))(r:(z4a×(List z49))->Option DT6)(K:Ex->List A->Option DT6):Option DT6:=zae N self i.1 i.2 v.1 v.2 (fun b parts=>(r (b,parts))) (fun a0 a3=>(K (.exit 0) (mkS SQ97 85 (a0,i.1,i.2,a3,()))))
def z1k0 (N:Nat)(self:zf):Hd DT6:=fun st K=>(unS SQ97 85 (restr [6,3,0,4] 0 st)).bind fun x=>iter (fun v r=>z1n9 N self ((fun x=>(x.2.1,x.2.2.1)) x) v r K) N ((fun x=>(x.1,x.2.2.2.1)) x)
def t1_39 (N:Nat)(self:zf):Tab DT6:=[]
theorem z1g6 {N:Nat}{self:zf}{c:Ctx}(hb:Base Tryd.prog (z1bt N self) c):zk Tryd.prog c (zh zfc [0,0,1,1,1,1]) (z1k0 N self) :=
 z1e (s:=SQ97) (m:=85) (z1n9 N self) [6,3,0,4] N (fun x=>(x.2.1,x.2.2.1)) (fun x=>(x.1,x.2.2.2.1)) (fun i v=>(v.1,i.1,i.2,v.2,())) (fun _=>rfl) (zg hb N (t1_39 N self) z1cj zfc TabOk.nil [0,0,0,1,1,1,1] _ rfl) (fun i v r K=>by kernel_rfl)
def zad (N:Nat)(self:zf)(n:DT5)(x4:z49)(parts:(List z49))(b:z4a)(tail:z49)(i:Int)(rec:z4a->z49->Int->Option DT6)(k0:z4a->z49->Option DT6):Option DT6:=cond (decide (n.2.2.2.1<=i)) (cond (inR i (List.length parts)) (cond (decide ((Int.toNat i)<(List.length parts))) ((z2z N b (List.getD parts (Int.toNat i) (false,([],([],())))) tail).bind fun y=>rec y.2.1 (true,y.1.2) (IntKind.wrap IntKind.i64 (i - 1))) none) none) (k0 b tail)
def zi4 (N:Nat)(self:zf)(b:z4a)(n:DT5)(x4:z49)(parts:(List z49))(tail:z49)(i:Int)(k0:z4a->z49->Option DT6):Option DT6:=iter (fun (v:(z4a×z49×Int)) r=>zad N self n x4 parts v.1 v.2.1 v.2.2 (fun b tail i=>(r (b,tail,i))) k0) N (b,tail,i)
def z1lv (N:Nat)(self:zf)(i:(DT5×z49×(List z49)))(v:(z4a×z49×Int))(r:(z4a×z49×Int)->Option DT6)(K:Ex->List A->Option DT6):Option DT6:=zad N self i.1 i.2.1 i.2.2 v.1 v.2.1 v.2.2 (fun b tail i=>(r (b,tail,i))) (fun a0 a4=>(K (.exit 2) (mkS z1o5 84 (a0,i.1,i.2.1,i.2.2,a4,()))))
def z1im (N:Nat)(self:zf):Hd DT6:=fun st K=>(unS SQ87 83 (restr [8,3,0,6,7,4] 0 st)).bind fun x=>iter (fun v r=>z1lv N self ((fun x=>(x.2.1,x.2.2.1,x.2.2.2.1)) x) v r K) N ((fun x=>(x.1,x.2.2.2.2.1,x.2.2.2.2.2.1)) x)
def t2_39 (N:Nat)(self:zf):Tab DT6:=[]
theorem z1es {N:Nat}{self:zf}{c:Ctx}(hb:Base Tryd.prog (z1bt N self) c):zk Tryd.prog c (zh zfc z13j) (z1im N self) :=
 z1e (s:=SQ87) (m:=83) (z1lv N self) [8,3,0,6,7,4] N (fun x=>(x.2.1,x.2.2.1,x.2.2.2.1)) (fun x=>(x.1,x.2.2.2.2.1,x.2.2.2.2.2.1)) (fun i v=>(v.1,i.1,i.2.1,i.2.2,v.2.1,v.2.2,())) (fun _=>rfl) (zg hb N (t2_39 N self) z1cj zfc TabOk.nil [0,0,1,0,1,1,1,1,1,1] _ rfl) (fun i v r K=>by kernel_rfl)
def zaf (N:Nat)(self:zf)(b:z4a)(n:DT5)(x4:z49)(parts:(List z49))(tail:z49)(k0:z4a->Option DT6):Option DT6:=cond (n.2.2.2.2.1 == (-1)) ((z5d N b tail.2.2.1 tail.2.1).bind fun y=>k0 y.2.1) (k0 b)
def z1l7 (N:Nat)(self:zf)(x:z16 z1o5)(K:Ex->List A->Option DT6):Option DT6:=zaf N self x.1 x.2.1 x.2.2.1 x.2.2.2.1 x.2.2.2.2.1 (fun a0=>(K .normal (mkS z1o5 84 (a0,x.2.1,x.2.2.1,x.2.2.2.1,x.2.2.2.2.1,()))))
def z1hy (N:Nat)(self:zf):Hd DT6:=fun st K=>(unS z1o5 84 (restr [3,0,7,6,4] 0 st)).bind fun x=>z1l7 N self x K
def t3_39 (N:Nat)(self:zf):Tab DT6:=[]
theorem z1e4 {N:Nat}{self:zf}{c:Ctx}(hb:Base Tryd.prog (z1bt N self) c):zk Tryd.prog c (zh zfc z10i) (z1hy N self) :=
 zw (s:=z1o5) (m:=84) (g:=z1l7 N self) [3,0,7,6,4] (zg hb N (t3_39 N self) z1cj zfc TabOk.nil z10i _ rfl) (fun x K=>by kernel_rfl)
def zac (N:Nat)(self:zf)(x4:z49)(tail:z49)(x77:(List z49))(x78:Int)(b:z4a)(whole:z49)(x79:Int)(rec:z4a->z49->Int->Option DT6)(k0:z4a->z49->Option DT6):Option DT6:=cond (decide (x79<x78)) (cond (inR x79 (List.length x77)) ((z2z N b whole (List.getD x77 (Int.toNat x79) (false,([],([],()))))).bind fun y=>rec y.2.1 y.1 (IntKind.wrap IntKind.i64 (x79+1))) none) (k0 b whole)
def zi3 (N:Nat)(self:zf)(b:z4a)(x4:z49)(tail:z49)(whole:z49)(x77:(List z49))(x78:Int)(x79:Int)(k0:z4a->z49->Option DT6):Option DT6:=iter (fun (v:(z4a×z49×Int)) r=>zac N self x4 tail x77 x78 v.1 v.2.1 v.2.2 (fun b whole x79=>(r (b,whole,x79))) k0) N (b,whole,x79)
def z1kv (N:Nat)(self:zf)(i:(z49×z49×(List z49)×Int))(v:(z4a×z49×Int))(r:(z4a×z49×Int)->Option DT6)(K:Ex->List A->Option DT6):Option DT6:=zac N self i.1 i.2.1 i.2.2.1 i.2.2.2 v.1 v.2.1 v.2.2 (fun b whole x79=>(r (b,whole,x79))) (fun a0 a3=>(K (.exit 4) (mkS [(0,.box zea),(3,.box TT7),(2,.box TT7),(1,.box TT7)] 82 (a0,i.1,i.2.1,a3,()))))
def z1hm (N:Nat)(self:zf):Hd DT6:=fun st K=>(unS SQ63 12 (restr zx1 0 st)).bind fun x=>iter (fun v r=>z1kv N self ((fun x=>(x.2.1,x.2.2.1,x.2.2.2.2.1,x.2.2.2.2.2.1)) x) v r K) N ((fun x=>(x.1,x.2.2.2.1,x.2.2.2.2.2.2.1)) x)
def t4_39 (N:Nat)(self:zf):Tab DT6:=[]
theorem z1ds {N:Nat}{self:zf}{c:Ctx}(hb:Base Tryd.prog (z1bt N self) c):zk Tryd.prog c (zh zfc [0,1,0,1,1,1,1,1,1,1,1,1]) (z1hm N self) :=
 z1e (s:=SQ63) (m:=12) (z1kv N self) zx1 N (fun x=>(x.2.1,x.2.2.1,x.2.2.2.2.1,x.2.2.2.2.2.1)) (fun x=>(x.1,x.2.2.2.1,x.2.2.2.2.2.2.1)) (fun i v=>(v.1,i.1,i.2.1,v.2.1,i.2.2.1,i.2.2.2,v.2.2,())) (fun _=>rfl) (zg hb N (t4_39 N self) z1cj zfc TabOk.nil [0,0,1,0,1,1,1,1,1,1,1,1,1] _ rfl) (fun i v r K=>by kernel_rfl)
def z93 (N:Nat)(self:zf)(b:z4a)(n:DT5):Option DT6:=cond (inR 0 (List.length n.2.2.1)) ((self b (unN (List.getD n.2.2.1 0 (Tree.mk 0 [] [] 0 0)))).bind fun y=>cond ((List.length y.2.1.1:Int) == (List.length b.1:Int)) (some ((true,([],([],()))),(y.2.1,()))) (zi5 N self y.2.1 n (false,([],([],()))) ([y.1]:List z49) (fun b1 parts=>zi4 N self b1 n (false,([],([],()))) parts (true,([],([],()))) (IntKind.wrap IntKind.i64 ((List.length parts:Int) - 1)) (fun b2 tail=>zaf N self b2 n (false,([],([],()))) parts tail (fun b3=>cond (decide ((0<=n.2.2.2.1)/\(n.2.2.2.1<=(List.length parts:Int)))) (zi3 N self b3 (false,([],([],()))) tail (true,([],([],()))) (cut parts 0 (Int.toNat n.2.2.2.1)) (List.length (cut parts 0 (Int.toNat n.2.2.2.1)):Int) 0 (fun b4 whole=>(z2z N b4 whole tail).bind fun y1=>some (y1.1,(y1.2.1,())))) none))))) none
def t_39 (N:Nat)(self:zf):Tab DT6:=[([0,0,1,1,1,1],z1k0 N self),(z13j,z1im N self),(z10i,z1hy N self),([0,1,0,1,1,1,1,1,1,1,1,1],z1hm N self)]
theorem z19i (N:Nat)(self:zf)(x:z16 z13c):z52 (z1bt N self) N (t_39 N self) z1cj Tryd.f37 (mkS z13c 0 x) (z37 (.v TT7) [(0,.box zea)] 1)=z93 N self x.1 x.2.1:=by kernel_rfl
def z9o (N:Nat)(self:zf):List A->Res:=z12 z13c (fun x=>z93 N self x.1 x.2.1) (z3t (.v TT7) [(0,.box zea)] 1)
theorem zi6 (N:Nat)(self:zf)(hself:Contract Tryd.prog glob 21 (z12 z13c (fun x=>self x.1 x.2.1) (z3t (.v TT7) [(0,.box zea)] 1))):Contract Tryd.prog glob 37 (z9o N self) :=
 Contract.of (E:=z1bt N self) (H:=t_39 N self) (L:=z1cj) (N:=N) (body:=zfc) (K:=(z37 (.v TT7) [(0,.box zea)] 1)) (z1pt N self hself) Tryd.func37 (by kernel_rfl) (by decide) (fun _ hb=>(TabOk.cons (z1g6 hb) (TabOk.cons (z1es hb) (TabOk.cons (z1e4 hb) (TabOk.cons (z1ds hb) TabOk.nil))))) (fun x y h=>by rw[z19i];exact h) (z2f (s:=(.v TT7)) (os:=[(0,.box zea)]) (m:=1))
def zlx:Code:=(Tryd.f21.body).getD .skip
def L_40:List (List Nat×List Nat):=[([0],[3,0,4]),([0,0,1],[13,0,3,4]),([0,0,1,0,1],[14,0,3,4,13]),([1,0,1,0,1],[0,3,4]),([0,1,1,0,1,0,1],[46,3,0,4,13]),([1,1,1,0,1,0,1],[0,3,4]),([0,1,1,1,1,0,1,0,1],[64,3,0,4]),([1,1,1,1,1,0,1,0,1],[0,3,4]),([0,0,1,1,1,1,1,0,1,0,1],[3,9,0,4]),([0,0,1,0,1,1,1,1,1,0,1,0,1],zwx),(z1bk,zwx),([0,0,0,1,0,1,0,1,1,1,1,1,0,1,0,1],[71,68,70,9,0,69,4]),([0,1,0,0,1,0,1,0,1,1,1,1,1,0,1,0,1],[68,70,9,0,69,4]),([1,0,1,0,0,1,0,1,0,1,1,1,1,1,0,1,0,1],[9,4,0]),([0,0,0,1,1,0,0,1,0,1,0,1,1,1,1,1,0,1,0,1],[9,0,11,70,69,68,4]),([1,0,0,1,1,0,0,1,0,1,0,1,1,1,1,1,0,1,0,1],zwx),([0,1,1,0,0,1,0,1,0,1,1,1,1,1,0,1,0,1],zwx),([1,1,1,0,0,1,0,1,0,1,1,1,1,1,0,1,0,1],zwx),([1,0,1,0,1,1,1,1,1,0,1,0,1],[9,4,0]),([0,1,1,0,1,1,1,1,1,0,1,0,1],[4,0]),([1,1,1,0,1,1,1,1,1,0,1,0,1],[4,0]),([0,0,1,1,1,0,1,0,1],[3,0,6,4]),([0,0,1,0,1,1,1,0,1,0,1],zww),([0,1,0,1,0,1,1,1,0,1,0,1],zww),([0,0,0,1,0,1,0,1,1,1,0,1,0,1],[53,50,52,0,6,51,4]),([0,1,0,0,1,0,1,0,1,1,1,0,1,0,1],[50,52,0,6,51,4]),([1,0,1,0,0,1,0,1,0,1,1,1,0,1,0,1],[6,4,0]),([0,0,0,1,1,0,0,1,0,1,0,1,1,1,0,1,0,1],[0,6,8,52,51,50,4]),([1,0,0,1,1,0,0,1,0,1,0,1,1,1,0,1,0,1],zww),([0,1,1,0,0,1,0,1,0,1,1,1,0,1,0,1],zww),([1,1,1,0,0,1,0,1,0,1,1,1,0,1,0,1],zww),([1,0,1,0,1,1,1,0,1,0,1],[6,4,0]),([0,1,1,0,1,1,1,0,1,0,1],[4,0]),([1,1,1,0,1,1,1,0,1,0,1],[4,0]),([0,0,1,0,1,0,1],[0,3,5,4]),([0,1,0,1,0,1,0,1],[0,5,4]),([0,1,1,0,1,0,1,0,1],[5,4,0]),([0,1,1,1,0,1,0,1,0,1],[4,0]),([1,1,1,1,0,1,0,1,0,1],[4,0]),([1,0,1],[0,3,4]),([0,1,1],[4,0]),([1,1,1],[4,0])]
def z1qv (N:Nat)(self:z4a->DT5->Option DT6):Env:=z1m tys glob [(37,z9o N self),(36,zfg N),(35,z55 N),(34,z91 N),(21,z12 z13c (fun x=>self x.1 x.2.1) (z3t (.v TT7) [(0,.box zea)] 1))] [] [] [0] false [] [(44,za N)]
theorem z1ps (N:Nat)(self:z4a->DT5->Option DT6)(hself:Contract Tryd.prog glob 21 (z12 z13c (fun x=>self x.1 x.2.1) (z3t (.v TT7) [(0,.box zea)] 1))):EnvOk Tryd.prog (z1qv N self):=zi mixed zr (FnsOk.cons (zi6 N self hself) (FnsOk.cons (znp N) (FnsOk.cons (z9n N) (FnsOk.cons (zff N) (FnsOk.cons (hself) (FnsOk.nil)))))) (ItsOk.cons (zb N) (ItsOk.nil))
def z7u (N:Nat)(self:z4a->DT5->Option DT6)(x4:z49)(x50:(List Tree))(x51:Int)(b:z4a)(whole:z49)(x52:Int)(rec:z4a->z49->Int->Option DT6)(k0:z4a->z49->Option DT6):Option DT6:=cond (decide (x52<x51)) (cond (inR x52 (List.length x50)) ((self b (unN (List.getD x50 (Int.toNat x52) (Tree.mk 0 [] [] 0 0)))).bind fun y=>(z2z N y.2.1 whole y.1).bind fun y1=>rec y1.2.1 y1.1 (IntKind.wrap IntKind.i64 (x52+1))) none) (k0 b whole)
def zee (N:Nat)(self:z4a->DT5->Option DT6)(b:z4a)(x4:z49)(whole:z49)(x50:(List Tree))(x51:Int)(x52:Int)(k0:z4a->z49->Option DT6):Option DT6:=iter (fun (v:(z4a×z49×Int)) r=>z7u N self x4 x50 x51 v.1 v.2.1 v.2.2 (fun b whole x52=>(r (b,whole,x52))) k0) N (b,whole,x52)
def z1n8 (N:Nat)(self:z4a->DT5->Option DT6)(i:(z49×(List Tree)×Int))(v:(z4a×z49×Int))(r:(z4a×z49×Int)->Option DT6)(K:Ex->List A->Option DT6):Option DT6:=z7u N self i.1 i.2.1 i.2.2 v.1 v.2.1 v.2.2 (fun b whole x52=>(r (b,whole,x52))) (fun a0 a2=>(K (.exit 1) (mkS [(0,.box zea),(3,.box TT7),(1,.box TT7)] 77 (a0,i.1,a2,()))))
def z1jz (N:Nat)(self:z4a->DT5->Option DT6):Hd DT6:=fun st K=>(unS SQ72 31 (restr zww 0 st)).bind fun x=>iter (fun v r=>z1n8 N self ((fun x=>(x.2.1,x.2.2.2.1,x.2.2.2.2.1)) x) v r K) N ((fun x=>(x.1,x.2.2.1,x.2.2.2.2.2.1)) x)
def t1_40 (N:Nat)(self:z4a->DT5->Option DT6):Tab DT6:=[]
theorem z1g5 {N:Nat}{self:z4a->DT5->Option DT6}{c:Ctx}(hb:Base Tryd.prog (z1qv N self) c):zk Tryd.prog c (zh zlx [0,1,0,1,0,1,1,1,0,1,0,1]) (z1jz N self) :=
 z1e (s:=SQ72) (m:=31) (z1n8 N self) zww N (fun x=>(x.2.1,x.2.2.2.1,x.2.2.2.2.1)) (fun x=>(x.1,x.2.2.1,x.2.2.2.2.2.1)) (fun i v=>(v.1,i.1,v.2.1,i.2.1,i.2.2,v.2.2,())) (fun _=>rfl) (zg hb N (t1_40 N self) L_40 zlx TabOk.nil [0,0,1,0,1,0,1,1,1,0,1,0,1] _ rfl) (fun i v r K=>by kernel_rfl)
def z7t (N:Nat)(self:z4a->DT5->Option DT6)(x4:z49)(x68:(List Tree))(x69:Int)(b:z4a)(whole:z49)(x70:Int)(rec:z4a->z49->Int->Option DT6)(k0:z4a->z49->Option DT6):Option DT6:=cond (decide (x70<x69)) (cond (inR x70 (List.length x68)) ((self b (unN (List.getD x68 (Int.toNat x70) (Tree.mk 0 [] [] 0 0)))).bind fun y=>(zg3 N whole y.1).bind fun y1=>rec y.2.1 y1 (IntKind.wrap IntKind.i64 (x70+1))) none) (k0 b whole)
def zed (N:Nat)(self:z4a->DT5->Option DT6)(b:z4a)(x4:z49)(whole:z49)(x68:(List Tree))(x69:Int)(x70:Int)(k0:z4a->z49->Option DT6):Option DT6:=iter (fun (v:(z4a×z49×Int)) r=>z7t N self x4 x68 x69 v.1 v.2.1 v.2.2 (fun b whole x70=>(r (b,whole,x70))) k0) N (b,whole,x70)
end
end Go.Proofs.YtjbcpimnlgogiaaDoorLg
