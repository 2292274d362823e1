import Derived.Test.YtgbcebmahbieoaaDoorLgW
import Derived.Test.YtgbcebmahbieoaaDoorChecked
import Derived.Shelf.Strings.Search1
import Derived.KernelRfl
import Derived.Test.YtgbcebmahbieoaaDoorLgOr
set_option linter.all false
namespace Go.Proofs.YtgbcebmahbieoaaDoorLg
noncomputable section
open Go Go.Lift Go.Proofs Go.Shelf
def z10i:Go.Shelf.Ren:=⟨fun|217=>98|266=>102|n=>n,fun|9=>9|5=>5|3=>3|n=>n,fun|n=>n⟩
theorem z1js:Lays.n217 Tryd.prog z10i where
 mixed:=by kernel_rfl
 f217:=Tryd.func98.trans (congrArg some (by kernel_rfl))
 f266:=Tryd.func102.trans (congrArg some (by kernel_rfl))
 t3:=Tryd.underlying3
 a3:=Tryd.isAgg3
 z3:=Tryd.sizeOf3
 v3:=Tryd.zeroValue3
 t5:=Tryd.underlying5
 a5:=Tryd.isAgg5
 z5:=Tryd.sizeOf5
 v5:=Tryd.zeroValue5
 t9:=Tryd.underlying9
 a9:=Tryd.isAgg9
 z9:=Tryd.sizeOf9
 v9:=Tryd.zeroValue9
def z1t9 (x:z15 [(0,.v .str),(0,.v (.int .u8))]):Option Int:=some (Lib.indexByte x.1 x.2.1.toNat.toUInt8)
def z18x:List A->Res:=zz [(0,.v .str),(0,.v (.int .u8))] z1t9 (z6n (.v (.int .i64)) 2)
theorem z1t8 (glob:Nat->Option Dat):Contract Tryd.prog glob 98 z18x:=by
 refine Contract.hand ⟨_,Tryd.func98,by kernel_rfl,by decide⟩ ?_;intro w S vals ob x y har hS hg hy;obtain⟨s,c,u⟩:=x;cases u;unfold z1t9 at hy;dsimp only at hy s c;cases hy;obtain⟨⟨v0,hv0,hA0,ho0⟩,_⟩:=har.rel 0 _ rfl;obtain⟨⟨v1,hv1,hA1,ho1⟩,_⟩:=har.rel 1 _ rfl;have hlen:=har.len;obtain⟨u0,u1,rfl⟩:∃ u0 u1,vals=[u0,u1]:=by
  have:vals.length=2:=by simpa[mkS,zfr] using hlen.symm
  match vals,this with
  | [a,b],_=>exact⟨a,b,rfl⟩
 simp at hv0 hv1;subst hv0;subst hv1;have e0:=hA0.str_inv;subst e0;have e1:=hA1.int_inv;subst e1;have hnone:∀ i,ob i=[]:=by
  intro i
  match i with
  | 0=>exact ho0
  | 1=>exact ho1
  | i+2=>exact har.out _ (by simp[mkS,zfr])
 refine (Any.stringslite_IndexByte z1js ⟨⟨s⟩⟩ c w).mono ?_;rintro e w' ⟨rfl,rfl⟩;refine⟨_,S,[],ob,rfl,WF.refl _ _,Lift.Sub.refl _,hS,fun k hk=>.inl hk,⟨⟨VR.int,rfl⟩,rfl⟩,(fun k hk=>by cases hk),.nil,?_,?_,har.inj,har.nd,fun i hi=>hi⟩
 . intro i z hz hbx
   match i with
   | 0=>simp[mkS,zfr,AS.mk] at hz;subst hz;cases hbx
   | 1=>simp[mkS,zfr,AS.mk] at hz;subst hz;cases hbx
   | i+2=>simp[mkS,zfr] at hz
 . intro i k hk;rw[hnone i] at hk;cases hk
end
end Go.Proofs.YtgbcebmahbieoaaDoorLg
set_option linter.all false
set_option maxRecDepth 100000
namespace Go.Proofs.YtgbcebmahbieoaaDoorLg
noncomputable section
open Go Go.Lift
abbrev DT0:Type:=((List Int)×((List Int)×((List (List Int))×((List (List Int))×((Option (List ((List Int)×Int)))×((List (List Int))×((Int×((List Bool)×((List Int)×((List (List Int))×Unit))))×Unit)))))))
abbrev TT1:T:=(.pair (.int .i64) (.pair (.int .i64) .unit))
abbrev TT2:T:=(.pair (.sl (.arr 4 (.int .u64))) (.pair .bool (.pair (.sl (.int .i64)) (.pair (.sl (.int .i64)) (.pair (.sl (.sl (.int .i64))) .unit)))))
abbrev TT3:T:=(.pair (.arr 8 (.int .u64)) (.pair (.arr 8 (.int .u64)) (.pair (.sl (.arr 8 (.int .u64))) (.pair (.sl (.arr 8 (.int .u64))) (.pair (.mp (.arr 8 (.int .u64)) (.int .i64)) (.pair (.own (.arr 8 (.int .u64))) (.pair (.pair (.int .i64) (.pair (.own .bool) (.pair (.sl (.int .i64)) (.pair (.own (.sl (.int .i64))) .unit)))) .unit)))))))
abbrev TT4:T:=(.pair (.int .i64) (.pair (.arr 4 (.int .u64)) (.pair (.sl .nod) TT1)))
abbrev DT5:Type:=((List UInt8)×(Int×(Int×Unit)))
abbrev TT6:T:=(.pair (.int .i64) (.pair (.sl .bool) (.pair (.sl (.int .i64)) (.pair (.sl (.sl (.int .i64))) .unit))))
abbrev DT7:Type:=(Int×((List Int)×((List Tree)×(Int×(Int×Unit)))))
abbrev DT8:Type:=(Int×((List Bool)×((List Int)×((List (List Int))×Unit))))
abbrev DT9:Type:=((Bool×((List Int)×((List Int)×Unit)))×(((List (List Int))×((List (List Int))×Unit))×Unit))
abbrev z7r:T:=(.pair .bool (.pair (.sl (.int .i64)) (.pair (.sl (.int .i64)) .unit)))
abbrev z4y:Type:=((List (List Int))×(Bool×((List Int)×((List Int)×((List (List Int))×Unit)))))
abbrev z14e:T:=(.pair (.arr 8 (.int .u64)) (.pair (.arr 8 (.int .u64)) (.pair (.own (.arr 8 (.int .u64))) (.pair (.own (.arr 8 (.int .u64))) (.pair (.mp (.arr 8 (.int .u64)) (.int .i64)) (.pair (.own (.arr 8 (.int .u64))) (.pair (.pair (.int .i64) (.pair (.own .bool) (.pair (.sl (.int .i64)) (.pair (.own (.sl (.int .i64))) .unit)))) .unit)))))))
abbrev zhk:T:=(.pair (.own (.arr 4 (.int .u64))) (.pair (.own (.sl (.int .i64))) .unit))
abbrev z14d:T:=(.pair (.int .i64) (.pair (.own .bool) (.pair (.sl (.int .i64)) (.pair (.own (.sl (.int .i64))) .unit))))
abbrev z5l:Type:=((List (List Int))×((List (List Int))×Unit))
abbrev z5k:Type:=(Bool×((List Int)×((List Int)×Unit)))
abbrev zrf:Type:=(((List Int)×Bool×Unit)×(DT5×Unit))
abbrev zis:Type:=((List Int)×(DT5×Unit))
abbrev z14j:Type:=(Int×((List Int)×((List Tree)×(Int×(Int×Unit)))))
abbrev zhl:Type:=(Bool×(DT0×Unit))
abbrev z166:List Nat:=[1,0,0,0,0,1,1]
abbrev z167:List Nat:=[0,0,0,0,0,1,1]
abbrev z12d:List Nat:=[52,51,50,0,6,4]
abbrev z12e:List Nat:=[70,69,68,9,0,4]
abbrev z12f:List Nat:=[9,8,2,7,6,1,4]
abbrev z12g:List Nat:=[7,5,0,6,9,8,4]
abbrev z12h:List Nat:=[21,20,19,0,3,5]
abbrev z12k:List Nat:=[1,0,1,0,1,1,1]
abbrev zzd:List Nat:=[37,36,35,4,3,1]
abbrev zze:List Nat:=[1,1,1,1,1,1,1]
abbrev zug:List Nat:=[1,0,1,1,1,1,1]
abbrev z1an:List Nat:=[0,1,0,1,1,1,1]
abbrev z14g:List Nat:=[0,0,0,1,0,1,1]
abbrev z14h:List Nat:=[0,1,1,1,1,1,1]
abbrev z14i:List Nat:=[0,1,0,0,1,0,1]
abbrev zzc:List Nat:=[0,0,1,0,1,1,1]
abbrev ztw:List Nat:=[0,0,1,1,1,1,1]
abbrev z1a7:List Nat:=[1,0,0,0,1,1,1,1]
abbrev z1a8:List Nat:=[1,1,0,0,0,1,0,1]
abbrev z168:List Nat:=[0,0,0,0,1,1,1,1]
abbrev z169:List Nat:=[1,1,0,0,0,0,1,1]
abbrev z16a:List Nat:=[1,1,1,0,0,1,0,1]
abbrev z16b:List Nat:=[0,1,1,0,0,1,0,1]
abbrev z16c:List Nat:=[1,0,1,0,0,1,0,1]
abbrev z12i:List Nat:=[79,78,77,0,9,7,4]
abbrev z12j:List Nat:=[0,1,1,0,1,0,1,1]
abbrev z12l:List Nat:=[0,0,0,1,0,1,1,1]
abbrev z16d:List Nat:=[0,0,1,0,1,1,1,1]
abbrev zzf:List Nat:=[1,1,1,1,1,1,1,1]
abbrev zx5:List Nat:=[0,1,0,1,1,1,1,1]
abbrev zzh:List Nat:=[1,1,0,0,1,0,1,1]
abbrev zzi:List Nat:=[1,0,0,0,1,0,1,1]
abbrev zzj:List Nat:=[0,0,0,0,1,0,1,1]
abbrev z16u:List Nat:=[0,1,1,1,1,1,1,1]
abbrev zqy:List Nat:=[0,1,0,0,1,0,1,1]
abbrev z1a9:List Nat:=[0,1,0,1,1,1,1,1,1]
abbrev z1aa:List Nat:=[1,0,0,0,0,1,1,1,1]
abbrev z1ab:List Nat:=[0,0,0,0,0,1,1,1,1]
abbrev z1ac:List Nat:=[1,0,0,1,0,0,1,0,1]
abbrev z1dc:List Nat:=[1,1,0,0,1,0,1,1,1]
abbrev z1dd:List Nat:=[1,0,0,0,1,0,1,1,1]
abbrev z1de:List Nat:=[0,0,0,0,1,0,1,1,1]
abbrev zzg:List Nat:=[0,0,0,1,0,0,1,0,1]
abbrev z1fb:List Nat:=[1,1,0,0,0,1,0,1,1]
abbrev z1a3:List Nat:=[1,1,1,0,0,1,0,1,1]
abbrev z1a4:List Nat:=[0,1,1,0,0,1,0,1,1]
abbrev z1a5:List Nat:=[1,0,1,0,0,1,0,1,1]
abbrev z1mk:List (Nat×AS):=[(0,.v TT6),(0,.v .str)]
abbrev zzl:List Nat:=[0,1,0,0,1,0,1,1,1]
abbrev zof:List (Nat×AS):=[(0,.v (.sl (.int .i64)))]
abbrev SQ0:List (Nat×AS):=[(0,.box (.pair .str TT1))]
abbrev z12m:List Nat:=[11,8,9,10,2,7,6,1,4]
abbrev z1a2:List (Nat×AS):=[(0,.box zhk),(0,.v TT4)]
abbrev z1d9:List Nat:=[1,0,0,1,1,0,0,1,0,1]
abbrev z1ad:List Nat:=[1,1,0,0,0,0,1,1,1,1]
abbrev z1di:List Nat:=[1,1,0,0,0,1,0,1,1,1]
abbrev z16e:List Nat:=[1,1,1,0,0,1,0,1,1,1]
abbrev z16f:List Nat:=[0,1,1,0,0,1,0,1,1,1]
abbrev z16g:List Nat:=[0,0,0,1,1,0,0,1,0,1]
abbrev z16i:List Nat:=[1,0,0,1,0,0,1,0,1,1]
abbrev z12n:List Nat:=[38,37,36,5,8,29,28,27]
abbrev z12o:List Nat:=[1,0,1,0,0,1,0,1,1,1]
abbrev z1d8:List Nat:=[0,0,0,1,0,0,1,0,1,1]
abbrev z12b:List (Nat×AS):=[(0,.v (.arr 4 (.int .u64)))]
abbrev z1da:List Nat:=[0,1,0,0,1,0,1,1,1,1,1]
abbrev z1db:List Nat:=[1,0,1,0,0,1,0,1,1,1,1]
abbrev z1ae:List Nat:=[1,0,1,0,0,1,0,0,1,0,1]
abbrev z1af:List Nat:=[0,0,1,0,0,1,0,0,1,0,1]
abbrev z1ag:List Nat:=[0,0,0,1,0,0,1,0,1,1,1]
abbrev z16h:List Nat:=[1,0,0,1,1,0,0,1,0,1,1]
abbrev z12p:List Nat:=[13,7,6,10,2,8,1,4,12,9]
abbrev z1lb:List Nat:=[47,46,45,3,37,36,35,4,1]
abbrev z1a6:List Nat:=[0,0,0,1,1,0,0,1,0,1,1]
abbrev z163:List (Nat×AS):=[(0,.v TT2),(0,.v (.int .i64))]
abbrev z1fc:List Nat:=[50,49,48,6,7,8,3,44,43,1]
abbrev z1df:List Nat:=[0,1,0,0,1,0,0,1,0,1,1,1]
abbrev z1dg:List Nat:=[0,0,0,0,1,0,0,1,0,1,1,1]
abbrev z1dh:List Nat:=[1,1,0,0,1,1,0,0,1,0,1,1]
abbrev z1d5:List (Nat×AS):=[(4,.box TT6),(0,.v (.int .i64))]
abbrev z1dl:List Nat:=[1,0,1,0,0,1,0,0,1,0,1,1]
abbrev z1dm:List Nat:=[0,0,1,0,0,1,0,0,1,0,1,1]
abbrev z16j:List Nat:=[0,0,0,1,1,0,0,1,0,1,1,1]
abbrev z164:List (Nat×AS):=[(1,.v (.int .i64)),(0,.box TT2)]
abbrev z165:List (Nat×AS):=[(0,.v (.sl (.arr 4 (.int .u64))))]
abbrev z1kx:List (Nat×AS):=[(1,.box TT2),(1,.v (.int .i64))]
abbrev z1f5:List (Nat×AS):=[(1,.box TT4),(1,.v (.int .i64))]
abbrev z1ao:List Nat:=[0,1,0,0,1,1,0,0,1,0,1,1]
abbrev z1f7:List (Nat×AS):=[(1,.box TT6),(1,.v (.int .i64))]
abbrev z16k:List Nat:=[6,14,13,10,2,8,1,4,12,7,9]
abbrev z1dj:List Nat:=[0,1,1,0,0,1,0,0,1,0,1,1,1]
abbrev z1ah:List Nat:=[0,0,1,0,0,1,1,0,0,1,0,1,1]
abbrev z1ms:List Nat:=[0,1,1,1,1,1,1,1,1,0,1,1,1]
abbrev z1mt:List Nat:=[0,1,0,0,1,1,0,0,1,0,1,1,1]
abbrev z1lc:List Nat:=[0,1,0,1,0,1,1,1,1,1,0,1,0,1]
abbrev z1ld:List Nat:=[0,1,0,0,1,0,0,1,0,1,1,1,1,1]
abbrev z1le:List Nat:=[0,1,0,1,0,0,1,0,0,1,0,1,1,1]
abbrev z1dk:List Nat:=[0,0,1,0,0,1,1,0,0,1,0,1,1,1]
abbrev z1mu:List Nat:=[0,1,1,0,0,1,1,0,0,1,0,1,1,1]
abbrev z1fd:List Nat:=[0,0,0,0,0,0,0,0,1,0,1,1,1,1]
abbrev z161:List (Nat×AS):=[(0,.v (.int .i64)),(0,.v (.int .i64))]
abbrev z1f6:List (Nat×AS):=[(0,.box (.pair .str TT1)),(1,.box TT4)]
abbrev z1lf:List Nat:=[18,8,15,6,16,1,4,12,13,7,10,2,9]
abbrev z1lg:List Nat:=[0,0,1,1,0,0,1,1,0,0,1,0,1,1,1]
abbrev z1d4:List (Nat×AS):=[(0,.box TT3),(0,.v (.arr 8 (.int .u64)))]
abbrev z1lh:List Nat:=[0,0,0,1,0,1,0,0,1,0,0,1,0,1,1,1]
abbrev z1li:List Nat:=[0,1,1,1,0,0,1,1,0,0,1,0,1,1,1,1]
abbrev z1kz:List (Nat×AS):=[(0,.v (.sl (.int .i64))),(2,.v (.int .i64))]
abbrev z12c:List (Nat×AS):=[(0,.v (.sl (.int .i64))),(0,.v (.int .i64))]
abbrev zuf:List (Nat×AS):=[(0,.box (.pair .str TT1)),(0,.v (.int .u8))]
abbrev z1lj:List Nat:=[2,10,17,14,15,16,8,6,1,4,12,13,7,9]
abbrev z1mf:List (Nat×AS):=[(0,.box (.pair .str TT1)),(0,.v (.int .i64))]
abbrev z1fe:List Nat:=[17,10,2,14,15,16,8,6,1,4,12,13,7,9]
abbrev z1f8:List (Nat×AS):=[(0,.box (.pair .str TT1)),(2,.v (.int .i64))]
abbrev z1mg:List (Nat×AS):=[(0,.v (.arr 4 (.int .u64))),(0,.v (.int .u8))]
abbrev z1lk:List Nat:=[0,1,0,1,1,0,0,1,0,0,1,0,1,1,1,1,1]
abbrev z1ll:List Nat:=[0,1,0,1,1,0,0,1,1,0,0,1,0,1,1,1,1]
abbrev z1l0:List (Nat×AS):=[(0,.v (.arr 4 (.int .u64))),(0,.v (.int .i64))]
abbrev z1dn:List Nat:=[0,1,0,0,1,0,1,0,0,1,0,0,1,0,1,1,1]
abbrev z1l1:List (Nat×AS):=[(1,.box (.arr 4 (.int .u64))),(1,.v (.int .i64))]
abbrev z1mh:List (Nat×AS):=[(0,.v (.sl (.int .i64))),(0,.v (.sl (.int .i64)))]
abbrev z1lm:List Nat:=[0,1,0,1,1,1,1,0,0,1,0,0,1,0,1,1,1,1,1]
abbrev z1l2:List (Nat×AS):=[(0,.v (.sl (.arr 4 (.int .u64)))),(0,.v (.int .i64))]
abbrev z1mi:List (Nat×AS):=[(0,.box (.pair .str TT1)),(1,.box TT4),(1,.box TT4)]
abbrev SQ3:List (Nat×AS):=[(0,.box (.pair .str TT1)),(1,.box TT4),(0,.row TT4)]
abbrev z1l3:List (Nat×AS):=[(0,.v (.arr 4 (.int .u64))),(0,.v (.arr 4 (.int .u64)))]
abbrev z1l4:List (Nat×AS):=[(0,.v (.sl (.sl (.int .i64)))),(0,.v (.sl (.int .i64)))]
abbrev z1mj:List (Nat×AS):=[(0,.v (.arr 8 (.int .u64))),(0,.v (.arr 8 (.int .u64)))]
abbrev z1l5:List (Nat×AS):=[(0,.box zhk),(2,.box TT4),(0,.box z7r),(1,.row z7r)]
abbrev z1l6:List (Nat×AS):=[(0,.v (.sl (.int .i64))),(0,.v (.sl (.arr 4 (.int .u64))))]
abbrev z1f9:List (Nat×AS):=[(0,.box (.pair .str TT1)),(1,.box TT4),(0,.v (.int .u8))]
abbrev z1l7:List (Nat×AS):=[(0,.box zhk),(3,.box z7r),(0,.box z7r),(0,.box z7r)]
abbrev z1l8:List (Nat×AS):=[(0,.v (.sl (.sl (.int .i64)))),(0,.v (.sl (.sl (.int .i64))))]
abbrev PQ86:List Nat:=[0,1,0,0,1,0,1,1,1,1,0,0,1,0,0,1,0,1,1,1,1,1]
abbrev PQ80:List Nat:=[0,1,0,0,1,1,0,0,1,1,1,0,0,1,1,0,0,1,0,1,1,1,1]
abbrev z16s:List (Nat×AS):=[(0,.box (.pair .str TT1)),(0,.v (.int .i64)),(3,.v (.int .u8))]
abbrev z162:List (Nat×AS):=[(0,.v (.sl (.int .i64))),(0,.v (.int .i64)),(3,.v (.int .i64))]
abbrev SQ5:List (Nat×AS):=[(0,.v (.sl (.int .i64))),(2,.v (.int .i64)),(0,.v (.int .i64))]
abbrev z1l9:List (Nat×AS):=[(0,.box zhk),(0,.v (.sl (.int .i64))),(0,.v (.sl (.int .i64)))]
abbrev SQ78:List (Nat×AS):=[(0,.box (.pair .str TT1)),(1,.v (.int .i64)),(0,.v (.int .i64))]
abbrev SQ1:List (Nat×AS):=[(0,.box (.pair .str TT1)),(2,.v (.int .i64)),(0,.v (.int .i64))]
abbrev z1la:List (Nat×AS):=[(0,.v (.sl (.int .i64))),(0,.v (.sl (.int .i64))),(0,.v (.int .i64))]
abbrev SQ66:List (Nat×AS):=[(0,.box (.pair .str TT1)),(1,.box (.arr 4 (.int .u64))),(0,.v .bool)]
abbrev z16t:List (Nat×AS):=[(0,.v (.sl (.int .i64))),(0,.v (.sl (.int .i64))),(3,.row (.int .i64))]
abbrev PQ97:List Nat:=[0,0,1,0,0,1,0,0,1,0,1,1,1,1,0,0,1,0,0,1,0,1,1,1,1,1]
abbrev SQ94:List (Nat×AS):=[(0,.v (.sl (.arr 4 (.int .u64)))),(0,.v (.int .i64)),(0,.v (.int .i64))]
abbrev z21u:List (Nat×AS):=[(0,.box zhk),(2,.box TT4),(0,.box z7r),(1,.row z7r),(0,.box z7r)]
abbrev z21v:List (Nat×AS):=[(0,.box zhk),(3,.box z7r),(0,.box z7r),(0,.box z7r),(0,.box z7r)]
abbrev z1fa:List (Nat×AS):=[(0,.box (.pair .str TT1)),(1,.box (.arr 4 (.int .u64))),(1,.v (.int .u8))]
abbrev z21x:List (Nat×AS):=[(0,.box (.pair .str TT1)),(2,.v (.int .i64)),(0,.v (.int .i64)),(70,.v .bool)]
abbrev z21y:List (Nat×AS):=[(0,.v (.sl (.sl (.int .i64)))),(0,.v (.sl (.sl (.int .i64)))),(3,.v (.int .i64))]
abbrev z21z:List (Nat×AS):=[(0,.v (.sl (.int .i64))),(0,.v (.int .i64)),(5,.v (.int .i64)),(0,.v (.int .i64))]
abbrev PQ84:List Nat:=[0,1,1,1,1,1,1,0,0,1,0,0,1,0,1,1,1,1,0,0,1,0,0,1,0,1,1,1,1,1]
abbrev PQ83:List Nat:=[0,1,0,1,1,1,1,0,0,1,0,0,1,0,1,1,1,1,0,0,1,0,0,1,0,1,1,1,1,1]
abbrev z220:List (Nat×AS):=[(3,.v (.int .i64)),(11,.v (.sl (.int .i64))),(0,.v (.int .i64)),(0,.v (.int .i64))]
abbrev SQ8:List (Nat×AS):=[(0,.box (.pair .str TT1)),(1,.v (.int .i64)),(0,.v (.int .i64)),(0,.v (.int .i64))]
abbrev z221:List (Nat×AS):=[(0,.box (.pair .str TT1)),(1,.box (.arr 4 (.int .u64))),(0,.box (.arr 4 (.int .u64)))]
abbrev z222:List (Nat×AS):=[(1,.v .str),(0,.box TT6),(2,.v (.int .i64)),(7,.v (.int .i64)),(0,.v (.int .i64))]
abbrev z223:List (Nat×AS):=[(0,.box TT3),(38,.v (.sl (.arr 8 (.int .u64)))),(0,.v (.int .i64)),(0,.v (.int .i64))]
abbrev z1ml:List (Nat×AS):=[(0,.box (.pair .str TT1)),(1,.box TT4),(0,.box TT4),(0,.box TT4),(24,.v (.int .u8))]
abbrev z224:List (Nat×AS):=[(0,.box (.pair .str TT1)),(1,.box (.arr 4 (.int .u64))),(1,.v (.int .u8)),(9,.v .bool)]
abbrev z225:List (Nat×AS):=[(1,.box TT4),(1,.v (.int .i64)),(6,.v (.sl .nod)),(0,.v (.int .i64)),(0,.v (.int .i64))]
abbrev SQ49:List (Nat×AS):=[(0,.v (.sl (.int .i64))),(0,.v (.sl (.int .i64))),(3,.row (.int .i64)),(0,.v (.int .i64))]
abbrev z226:List (Nat×AS):=[(0,.v (.sl (.arr 4 (.int .u64)))),(0,.v (.int .i64)),(0,.v (.int .i64)),(4,.v (.int .i64))]
abbrev PQ47:List Nat:=[0,1,0,0,1,0,1,1,1,1,0,0,1,0,0,1,0,1,1,1,1,0,0,1,0,0,1,0,1,1,1,1,1]
abbrev z227:List (Nat×AS):=[(0,.box zhk),(2,.box TT4),(0,.box z7r),(1,.row z7r),(0,.box z7r),(0,.v (.int .i64))]
abbrev z1mm:List (Nat×AS):=[(0,.box (.pair .str TT1)),(1,.box (.arr 4 (.int .u64))),(1,.v (.int .u8)),(2,.v (.int .u8))]
abbrev z228:List (Nat×AS):=[(1,.box TT2),(1,.box z14e),(2,.v (.sl (.int .i64))),(36,.v (.int .i64)),(0,.v (.int .i64))]
abbrev z1mn:List (Nat×AS):=[(0,.box (.pair .str TT1)),(1,.box (.arr 4 (.int .u64))),(1,.v (.int .i64)),(0,.v (.int .u8))]
abbrev z1mo:List (Nat×AS):=[(0,.v (.sl (.arr 4 (.int .u64)))),(2,.row (.int .i64)),(0,.v (.int .i64)),(0,.v (.int .i64))]
abbrev z229:List (Nat×AS):=[(1,.box TT2),(2,.v (.int .i64)),(2,.v (.sl (.int .i64))),(0,.v (.int .i64)),(0,.v (.int .i64))]
abbrev z22a:List (Nat×AS):=[(1,.v (.int .u8)),(2,.box (.arr 4 (.int .u64))),(0,.box (.arr 4 (.int .u64))),(0,.v (.int .i64))]
abbrev z22b:List (Nat×AS):=[(1,.box TT2),(1,.box z14e),(17,.v (.sl (.sl (.int .i64)))),(0,.v (.int .i64)),(0,.v (.int .i64))]
abbrev z1mp:List (Nat×AS):=[(0,.box (.pair .str TT1)),(1,.box (.arr 4 (.int .u64))),(0,.v .bool),(0,.box (.arr 4 (.int .u64)))]
abbrev SQ7:List (Nat×AS):=[(0,.box (.pair .str TT1)),(1,.box (.arr 4 (.int .u64))),(0,.box (.arr 4 (.int .u64))),(0,.v .bool)]
abbrev z22c:List (Nat×AS):=[(0,.box (.pair .str TT1)),(1,.box (.arr 4 (.int .u64))),(0,.box (.arr 4 (.int .u64))),(13,.v .bool)]
abbrev z22d:List (Nat×AS):=[(0,.box zhk),(3,.box z7r),(4,.box z7r),(58,.v (.sl .nod)),(0,.v (.int .i64)),(0,.v (.int .i64))]
abbrev z22e:List (Nat×AS):=[(0,.box zhk),(3,.box z7r),(1,.box z7r),(43,.v (.sl .nod)),(0,.v (.int .i64)),(0,.v (.int .i64))]
abbrev z1ky:List (Nat×AS):=[(3,.v (.int .i64)),(1,.v (.int .i64)),(9,.v (.sl (.int .i64))),(0,.v (.int .i64)),(0,.v (.int .i64))]
abbrev z22f:List (Nat×AS):=[(0,.box zhk),(1,.v (.sl (.int .i64))),(5,.v (.sl (.int .i64))),(0,.v (.int .i64)),(0,.v (.int .i64))]
abbrev z22g:List (Nat×AS):=[(0,.v (.int .i64)),(3,.box TT4),(0,.row TT4),(2,.v (.sl .nod)),(0,.v (.int .i64)),(0,.v (.int .i64))]
abbrev SQ95:List (Nat×AS):=[(2,.box (.arr 4 (.int .u64))),(0,.box (.arr 4 (.int .u64))),(0,.box (.arr 4 (.int .u64))),(1,.v (.int .i64))]
abbrev SQ35:List (Nat×AS):=[(2,.box (.arr 8 (.int .u64))),(0,.box (.arr 8 (.int .u64))),(0,.box (.arr 8 (.int .u64))),(1,.v (.int .i64))]
abbrev z1d6:List (Nat×AS):=[(0,.v (.sl (.int .i64))),(0,.v (.sl (.int .i64))),(0,.v (.int .i64)),(4,.row (.int .i64)),(0,.v (.int .i64))]
abbrev SQ92:List (Nat×AS):=[(0,.v .str),(1,.box (.arr 4 (.int .u64))),(0,.box (.arr 4 (.int .u64))),(2,.v (.int .i64)),(0,.v (.int .i64))]
abbrev z1am:List (Nat×AS):=[(0,.v (.sl (.arr 4 (.int .u64)))),(2,.row (.int .i64)),(0,.v (.int .i64)),(0,.v (.int .i64)),(0,.v (.int .i64))]
abbrev SQ90:List (Nat×AS):=[(0,.box (.pair .str TT1)),(1,.box (.arr 4 (.int .u64))),(0,.box (.arr 4 (.int .u64))),(2,.box (.arr 4 (.int .u64)))]
abbrev z1mq:List (Nat×AS):=[(1,.box TT2),(2,.v (.int .i64)),(1,.v (.int .i64)),(0,.v (.sl (.int .i64))),(0,.v (.int .i64)),(0,.v (.int .i64))]
abbrev SQ87:List (Nat×AS):=[(0,.box zhk),(3,.box z7r),(2,.box z7r),(1,.box z7r),(67,.v (.sl z7r)),(0,.v (.int .i64)),(0,.v (.int .i64))]
abbrev SQ52:List (Nat×AS):=[(0,.box TT3),(3,.box (.arr 8 (.int .u64))),(0,.box (.arr 8 (.int .u64))),(2,.v (.arr 8 (.int .u64))),(0,.v (.int .i64))]
abbrev SQ85:List (Nat×AS):=[(2,.box (.arr 8 (.int .u64))),(0,.box (.arr 8 (.int .u64))),(2,.v (.sl (.int .i64))),(0,.v (.int .i64)),(0,.v (.int .i64))]
abbrev SQ44:List (Nat×AS):=[(1,.box TT6),(1,.v (.int .i64)),(0,.v (.int .i64)),(30,.v (.sl (.sl (.int .i64)))),(0,.v (.int .i64)),(0,.v (.int .i64))]
abbrev SQ81:List (Nat×AS):=[(1,.v (.sl (.arr 4 (.int .u64)))),(3,.row (.arr 5 (.int .u64))),(7,.v (.sl (.int .i64))),(0,.v (.int .i64)),(0,.v (.int .i64))]
abbrev z1mr:List (Nat×AS):=[(1,.v (.int .i64)),(0,.box TT2),(1,.box TT6),(1,.box z14d),(0,.v (.int .i64)),(0,.row (.sl (.int .i64))),(0,.v (.int .i64))]
abbrev SQ6:List (Nat×AS):=[(0,.v (.sl (.arr 4 (.int .u64)))),(2,.row (.int .i64)),(0,.v (.int .i64)),(0,.v (.int .i64)),(0,.v (.int .i64)),(0,.v (.int .i64))]
abbrev SQ68:List (Nat×AS):=[(0,.box TT3),(2,.box (.arr 8 (.int .u64))),(1,.row (.int .i64)),(13,.v (.sl (.arr 8 (.int .u64)))),(0,.v (.int .i64)),(0,.v (.int .i64))]
abbrev SQ2:List (Nat×AS):=[(0,.box (.pair .str TT1)),(1,.box (.arr 4 (.int .u64))),(0,.box (.arr 4 (.int .u64))),(0,.v .bool),(0,.v (.int .i64)),(0,.box (.arr 4 (.int .u64)))]
abbrev SQ63:List (Nat×AS):=[(0,.box (.pair .str TT1)),(1,.box (.arr 4 (.int .u64))),(0,.box (.arr 4 (.int .u64))),(1,.v (.int .i64)),(0,.box (.arr 4 (.int .u64))),(28,.v .bool)]
abbrev z21w:List (Nat×AS):=[(1,.v (.int .i64)),(0,.box TT2),(1,.box TT6),(1,.box z14d),(0,.v (.int .i64)),(0,.row (.sl (.int .i64))),(0,.v (.int .i64)),(0,.v (.sl (.int .i64)))]
abbrev SQ59:List (Nat×AS):=[(0,.box TT3),(3,.box (.arr 8 (.int .u64))),(0,.box (.arr 8 (.int .u64))),(0,.v (.int .i64)),(0,.v (.int .u64)),(0,.v (.arr 8 (.int .u64))),(0,.v (.int .i64))]
abbrev SQ53:List (Nat×AS):=[(1,.v (.int .i64)),(0,.box TT2),(1,.box TT6),(1,.box z14d),(0,.v (.int .i64)),(0,.row (.sl (.int .i64))),(0,.v (.int .i64)),(0,.v (.sl (.int .i64))),(0,.v (.int .i64))]
abbrev SQ42:List (Nat×AS):=[(1,.box TT6),(1,.v (.int .i64)),(0,.v (.int .i64)),(30,.v (.sl (.sl (.int .i64)))),(0,.v (.int .i64)),(0,.v (.int .i64)),(7,.v (.sl (.int .i64))),(0,.v (.int .i64)),(0,.v (.int .i64))]
abbrev SQ9:List (Nat×AS):=[(1,.v (.int .i64)),(0,.box TT2),(1,.box TT6),(1,.box z14d),(0,.v (.int .i64)),(0,.row (.sl (.int .i64))),(0,.v (.int .i64)),(0,.v (.sl (.int .i64))),(1,.row (.int .i64)),(0,.v (.int .i64))]
abbrev SQ39:List (Nat×AS):=[(1,.box TT2),(1,.box z14e),(2,.v (.sl (.int .i64))),(0,.v (.int .i64)),(0,.row (.int .i64)),(34,.v (.int .i64)),(0,.v (.int .i64)),(3,.v (.sl (.arr 4 (.int .u64)))),(0,.v (.int .i64)),(0,.v (.int .i64))]
abbrev SQ25:List (Nat×AS):=[(1,.box TT6),(1,.v (.int .i64)),(0,.v (.int .i64)),(3,.v (.int .i64)),(26,.v (.sl (.sl (.int .i64)))),(0,.v (.int .i64)),(0,.v (.int .i64)),(7,.v (.sl (.int .i64))),(0,.v (.int .i64)),(0,.v (.int .i64))]
abbrev SQ24:List (Nat×AS):=[(1,.v (.int .i64)),(0,.box TT2),(1,.box TT6),(1,.box z14d),(0,.v (.int .i64)),(0,.row (.sl (.int .i64))),(0,.v (.int .i64)),(0,.v (.sl (.int .i64))),(1,.row (.int .i64)),(0,.v (.int .i64)),(0,.v (.int .i64))]
abbrev SQ19:List (Nat×AS):=[(1,.v (.int .i64)),(0,.box TT2),(1,.box TT6),(1,.box z14d),(0,.v (.int .i64)),(0,.row (.sl (.int .i64))),(0,.v (.int .i64)),(0,.v (.sl (.int .i64))),(1,.row (.int .i64)),(0,.v (.int .i64)),(1,.row (.int .i64)),(0,.v .bool),(1,.v (.int .i64))]
abbrev SQ4:List (Nat×AS):=[(1,.v (.int .i64)),(0,.box TT2),(1,.box TT6),(1,.box z14d),(0,.v (.int .i64)),(0,.row (.sl (.int .i64))),(0,.v (.int .i64)),(0,.v (.sl (.int .i64))),(1,.row (.int .i64)),(0,.v (.int .i64)),(0,.v (.int .i64)),(0,.row (.int .i64)),(0,.v .bool),(0,.v (.int .i64))]
def ty3:TyI:=⟨(Go.TypeDesc.int IntKind.i64),1,8,(.int .i64),0,false⟩
theorem z1nf:TyOk Tryd.prog 3 ty3:=TyOk.of (by kernel_rfl) (by kernel_rfl) (by kernel_rfl) (by kernel_rfl)
def ty4:TyI:=⟨Go.TypeDesc.bool,1,1,.bool,false,false⟩
theorem z1ne:TyOk Tryd.prog 4 ty4:=TyOk.of (by kernel_rfl) (by kernel_rfl) (by kernel_rfl) (by kernel_rfl)
def ty5:TyI:=⟨(Go.TypeDesc.int IntKind.u8),1,1,(.int .u8),0,false⟩
theorem z1nd:TyOk Tryd.prog 5 ty5:=TyOk.of (by kernel_rfl) (by kernel_rfl) (by kernel_rfl) (by kernel_rfl)
def ty9:TyI:=⟨Go.TypeDesc.string,1,16,.str,[],false⟩
theorem z1nc:TyOk Tryd.prog 9 ty9:=TyOk.of (by kernel_rfl) (by kernel_rfl) (by kernel_rfl) (by kernel_rfl)
def ty22:TyI:=⟨(Go.TypeDesc.slice 4),1,24,(.sl .bool),[],false⟩
theorem z1gc:TyOk Tryd.prog 22 ty22:=TyOk.of (by kernel_rfl) (by kernel_rfl) (by kernel_rfl) (by kernel_rfl)
def ty23:TyI:=⟨(Go.TypeDesc.slice 3),1,24,(.sl (.int .i64)),[],false⟩
theorem z1gb:TyOk Tryd.prog 23 ty23:=TyOk.of (by kernel_rfl) (by kernel_rfl) (by kernel_rfl) (by kernel_rfl)
def ty24:TyI:=⟨(Go.TypeDesc.slice 23),1,24,(.sl (.sl (.int .i64))),[],false⟩
theorem z1ga:TyOk Tryd.prog 24 ty24:=TyOk.of (by kernel_rfl) (by kernel_rfl) (by kernel_rfl) (by kernel_rfl)
def ty26 : TyI := ⟨(Go.TypeDesc.struct (List.toArray ([(Go.Field.mk "Start" 3 0 false "" "" 0), (Go.Field.mk "Final" 22 1 false "" "" 8), (Go.Field.mk "Block" 23 2 false "" "" 32), (Go.Field.mk "Next" 24 3 false "" "" 56)] : List Go.Field))), 4, 80, TT6, ((0 : Int), ([] : List Bool), ([] : List Int), ([] : List (List Int)), ()), true⟩
theorem z1g9:TyOk Tryd.prog 26 ty26:=TyOk.of (by kernel_rfl) (by kernel_rfl) (by kernel_rfl) (by kernel_rfl)
def ty31:TyI:=⟨(Go.TypeDesc.slice 43),1,24,(.sl (.arr 4 (.int .u64))),[],false⟩
theorem z1g8:TyOk Tryd.prog 31 ty31:=TyOk.of (by kernel_rfl) (by kernel_rfl) (by kernel_rfl) (by kernel_rfl)
def ty33 : TyI := ⟨(Go.TypeDesc.struct (List.toArray ([(Go.Field.mk "Sets" 31 0 false "" "" 0), (Go.Field.mk "None" 4 1 false "" "" 24), (Go.Field.mk "First" 23 2 false "" "" 32), (Go.Field.mk "Last" 23 3 false "" "" 56), (Go.Field.mk "Next" 24 4 false "" "" 80)] : List Go.Field))), 5, 104, TT2, (([] : List (List Int)), false, ([] : List Int), ([] : List Int), ([] : List (List Int)), ()), true⟩
theorem z1g7:TyOk Tryd.prog 33 ty33:=TyOk.of (by kernel_rfl) (by kernel_rfl) (by kernel_rfl) (by kernel_rfl)
def ty35:TyI:=⟨(Go.TypeDesc.int IntKind.i64),1,8,(.int .i64),0,false⟩
theorem z1g6:TyOk Tryd.prog 35 ty35:=TyOk.of (by kernel_rfl) (by kernel_rfl) (by kernel_rfl) (by kernel_rfl)
def ty41:TyI:=⟨(Go.TypeDesc.int IntKind.u64),1,8,(.int .u64),0,false⟩
theorem z1g5:TyOk Tryd.prog 41 ty41:=TyOk.of (by kernel_rfl) (by kernel_rfl) (by kernel_rfl) (by kernel_rfl)
def ty43:TyI:=⟨(Go.TypeDesc.array 4 41),4,32,(.arr 4 (.int .u64)),([0,0,0,0]:List Int),true⟩
theorem z1g4:TyOk Tryd.prog 43 ty43:=TyOk.of (by kernel_rfl) (by kernel_rfl) (by kernel_rfl) (by kernel_rfl)
def ty44:TyI:=⟨(Go.TypeDesc.slice 46),1,24,(.sl .nod),[],false⟩
theorem z1g3:TyOk Tryd.prog 44 ty44:=TyOk.of (by kernel_rfl) (by kernel_rfl) (by kernel_rfl) (by kernel_rfl)
def ty46 : TyI := ⟨(Go.TypeDesc.struct (List.toArray ([(Go.Field.mk "Kind" 3 0 false "" "" 0), (Go.Field.mk "Set" 43 1 false "" "" 8), (Go.Field.mk "Kids" 44 5 false "" "" 40), (Go.Field.mk "Min" 3 6 false "" "" 64), (Go.Field.mk "Max" 3 7 false "" "" 72)] : List Go.Field))), 8, 80, TT4, ((0 : Int), ([(0 : Int), (0 : Int), (0 : Int), (0 : Int)] : List Int), ([] : List Tree), (0 : Int), (0 : Int), ()), true⟩
theorem z1g2:TyOk Tryd.prog 46 ty46:=TyOk.of (by kernel_rfl) (by kernel_rfl) (by kernel_rfl) (by kernel_rfl)
def ty48 : TyI := ⟨(Go.TypeDesc.struct (List.toArray ([(Go.Field.mk "E" 35 0 false "" "" 0), (Go.Field.mk "At" 3 1 false "" "" 8)] : List Go.Field))), 2, 16, TT1, ((0 : Int), (0 : Int), ()), true⟩
theorem z1g1:TyOk Tryd.prog 48 ty48:=TyOk.of (by kernel_rfl) (by kernel_rfl) (by kernel_rfl) (by kernel_rfl)
def ty56:TyI:=⟨(Go.TypeDesc.pointer 63),1,8,.opq,(Go.Value.pointer none),false⟩
theorem z1g0:TyOk Tryd.prog 56 ty56:=TyOk.of (by kernel_rfl) (by kernel_rfl) (by kernel_rfl) (by kernel_rfl)
def ty59:TyI:=⟨(Go.TypeDesc.array 8 41),8,64,(.arr 8 (.int .u64)),([0,0,0,0,0,0,0,0]:List Int),true⟩
theorem z1fz:TyOk Tryd.prog 59 ty59:=TyOk.of (by kernel_rfl) (by kernel_rfl) (by kernel_rfl) (by kernel_rfl)
def ty60:TyI:=⟨(Go.TypeDesc.slice 59),1,24,(.sl (.arr 8 (.int .u64))),[],false⟩
theorem z1fy:TyOk Tryd.prog 60 ty60:=TyOk.of (by kernel_rfl) (by kernel_rfl) (by kernel_rfl) (by kernel_rfl)
def ty61:TyI:=⟨(Go.TypeDesc.map 59 3),1,8,.opq,(Go.Value.map none),false⟩
theorem z1fx:TyOk Tryd.prog 61 ty61:=TyOk.of (by kernel_rfl) (by kernel_rfl) (by kernel_rfl) (by kernel_rfl)
def ty63 : TyI := ⟨(Go.TypeDesc.struct (List.toArray ([(Go.Field.mk "first" 59 0 false "" "porter/dfa" 0), (Go.Field.mk "last" 59 8 false "" "porter/dfa" 64), (Go.Field.mk "next" 60 16 false "" "porter/dfa" 128), (Go.Field.mk "readers" 60 17 false "" "porter/dfa" 152), (Go.Field.mk "numbers" 61 18 false "" "porter/dfa" 176), (Go.Field.mk "waiting" 60 19 false "" "porter/dfa" 184), (Go.Field.mk "d" 26 20 false "" "porter/dfa" 208)] : List Go.Field))), 24, 288, (.pair (.arr 8 (.int .u64)) (.pair (.arr 8 (.int .u64)) (.pair (.sl (.arr 8 (.int .u64))) (.pair (.sl (.arr 8 (.int .u64))) (.pair .opq (.pair (.sl (.arr 8 (.int .u64))) (.pair TT6 .unit))))))), (([(0 : Int), (0 : Int), (0 : Int), (0 : Int), (0 : Int), (0 : Int), (0 : Int), (0 : Int)] : List Int), ([(0 : Int), (0 : Int), (0 : Int), (0 : Int), (0 : Int), (0 : Int), (0 : Int), (0 : Int)] : List Int), ([] : List (List Int)), ([] : List (List Int)), (Go.Value.map none), ([] : List (List Int)), ((0 : Int), ([] : List Bool), ([] : List Int), ([] : List (List Int)), ()), ()), true⟩
theorem z1fw:TyOk Tryd.prog 63 ty63:=TyOk.of (by kernel_rfl) (by kernel_rfl) (by kernel_rfl) (by kernel_rfl)
def ty73:TyI:=⟨(Go.TypeDesc.pointer 75),1,8,.opq,(Go.Value.pointer none),false⟩
theorem z1fv:TyOk Tryd.prog 73 ty73:=TyOk.of (by kernel_rfl) (by kernel_rfl) (by kernel_rfl) (by kernel_rfl)
def ty75 : TyI := ⟨(Go.TypeDesc.struct (List.toArray ([(Go.Field.mk "s" 9 0 false "" "porter/regex" 0), (Go.Field.mk "at" 3 1 false "" "porter/regex" 16), (Go.Field.mk "open" 3 2 false "" "porter/regex" 24)] : List Go.Field))), 3, 32, (.pair .str TT1), (([] : List UInt8), (0 : Int), (0 : Int), ()), true⟩
theorem z1fu:TyOk Tryd.prog 75 ty75:=TyOk.of (by kernel_rfl) (by kernel_rfl) (by kernel_rfl) (by kernel_rfl)
def ty80:TyI:=⟨(Go.TypeDesc.pointer 82),1,8,.opq,(Go.Value.pointer none),false⟩
theorem z1ft:TyOk Tryd.prog 80 ty80:=TyOk.of (by kernel_rfl) (by kernel_rfl) (by kernel_rfl) (by kernel_rfl)
def ty82 : TyI := ⟨(Go.TypeDesc.struct (List.toArray ([(Go.Field.mk "sets" 31 0 false "" "porter/spots" 0), (Go.Field.mk "next" 24 1 false "" "porter/spots" 24)] : List Go.Field))), 2, 48, (.pair (.sl (.arr 4 (.int .u64))) (.pair (.sl (.sl (.int .i64))) .unit)), (([] : List (List Int)), ([] : List (List Int)), ()), true⟩
theorem z1fs:TyOk Tryd.prog 82 ty82:=TyOk.of (by kernel_rfl) (by kernel_rfl) (by kernel_rfl) (by kernel_rfl)
def ty84 : TyI := ⟨(Go.TypeDesc.struct (List.toArray ([(Go.Field.mk "none" 4 0 false "" "porter/spots" 0), (Go.Field.mk "first" 23 1 false "" "porter/spots" 8), (Go.Field.mk "last" 23 2 false "" "porter/spots" 32)] : List Go.Field))), 3, 56, z7r, (false, ([] : List Int), ([] : List Int), ()), true⟩
theorem z1fr:TyOk Tryd.prog 84 ty84:=TyOk.of (by kernel_rfl) (by kernel_rfl) (by kernel_rfl) (by kernel_rfl)
def ty99:TyI:=⟨(Go.TypeDesc.func (List.toArray ([110]:List Nat)) (List.toArray []) false),1,8,.opq,Go.Value.nilFunc,false⟩
theorem z1fq:TyOk Tryd.prog 99 ty99:=TyOk.of (by kernel_rfl) (by kernel_rfl) (by kernel_rfl) (by kernel_rfl)
def z1nn:TyI:=⟨(Go.TypeDesc.slice 84),1,24,(.sl z7r),[],false⟩
theorem z1b1:TyOk Tryd.prog 109 z1nn:=TyOk.of (by kernel_rfl) (by kernel_rfl) (by kernel_rfl) (by kernel_rfl)
def z1nm:TyI:=⟨(Go.TypeDesc.func (List.toArray ([31]:List Nat)) (List.toArray ([4]:List Nat)) false),1,8,.opq,Go.Value.nilFunc,false⟩
theorem z1b0:TyOk Tryd.prog 110 z1nm:=TyOk.of (by kernel_rfl) (by kernel_rfl) (by kernel_rfl) (by kernel_rfl)
def z1nl:TyI:=⟨(Go.TypeDesc.slice 113),1,24,(.sl (.arr 5 (.int .u64))),[],false⟩
theorem z1az:TyOk Tryd.prog 111 z1nl:=TyOk.of (by kernel_rfl) (by kernel_rfl) (by kernel_rfl) (by kernel_rfl)
def z1nk:TyI:=⟨(Go.TypeDesc.array 5 41),5,40,(.arr 5 (.int .u64)),([0,0,0,0,0]:List Int),true⟩
theorem z1ay:TyOk Tryd.prog 113 z1nk:=TyOk.of (by kernel_rfl) (by kernel_rfl) (by kernel_rfl) (by kernel_rfl)
def z1nj:TyI:=⟨(Go.TypeDesc.slice 5),1,24,(.sl (.int .u8)),[],false⟩
theorem z1ax:TyOk Tryd.prog 114 z1nj:=TyOk.of (by kernel_rfl) (by kernel_rfl) (by kernel_rfl) (by kernel_rfl)
def z1ni:TyI:=⟨(Go.TypeDesc.array 64 5),64,64,(.arr 64 (.int .u8)),(0::0::0::0::0::0::0::0::0::0::0::0::0::0::0::0::0::0::0::0::0::0::0::0::0::0::0::0::0::0::0::0::0::0::0::0::0::0::0::0::0::0::0::0::0::0::0::0::0::0::0::0::0::0::0::0::0::0::0::0::0::0::0::0::[]),true⟩
theorem z1aw:TyOk Tryd.prog 117 z1ni:=TyOk.of (by kernel_rfl) (by kernel_rfl) (by kernel_rfl) (by kernel_rfl)
def z1nh:TyI:=⟨(Go.TypeDesc.int IntKind.u64),1,8,(.int .u64),0,false⟩
theorem z1av:TyOk Tryd.prog 118 z1nh:=TyOk.of (by kernel_rfl) (by kernel_rfl) (by kernel_rfl) (by kernel_rfl)
def z1ng:TyI:=⟨(Go.TypeDesc.map 113 3),1,8,.opq,(Go.Value.map none),false⟩
theorem z1au:TyOk Tryd.prog 123 z1ng:=TyOk.of (by kernel_rfl) (by kernel_rfl) (by kernel_rfl) (by kernel_rfl)
def tys:List (Nat×TyI):=[(3,ty3),(4,ty4),(5,ty5),(9,ty9),(22,ty22),(23,ty23),(24,ty24),(26,ty26),(31,ty31),(33,ty33),(35,ty35),(41,ty41),(43,ty43),(44,ty44),(46,ty46),(48,ty48),(56,ty56),(59,ty59),(60,ty60),(61,ty61),(63,ty63),(73,ty73),(75,ty75),(80,ty80),(82,ty82),(84,ty84),(99,ty99),(109,z1nn),(110,z1nm),(111,z1nl),(113,z1nk),(114,z1nj),(117,z1ni),(118,z1nh),(123,z1ng)]
theorem zn:TysOk Tryd.prog tys:=TysOk.cons z1nf (TysOk.cons z1ne (TysOk.cons z1nd (TysOk.cons z1nc (TysOk.cons z1gc (TysOk.cons z1gb (TysOk.cons z1ga (TysOk.cons z1g9 (TysOk.cons z1g8 (TysOk.cons z1g7 (TysOk.cons z1g6 (TysOk.cons z1g5 (TysOk.cons z1g4 (TysOk.cons z1g3 (TysOk.cons z1g2 (TysOk.cons z1g1 (TysOk.cons z1g0 (TysOk.cons z1fz (TysOk.cons z1fy (TysOk.cons z1fx (TysOk.cons z1fw (TysOk.cons z1fv (TysOk.cons z1fu (TysOk.cons z1ft (TysOk.cons z1fs (TysOk.cons z1fr (TysOk.cons z1fq (TysOk.cons z1b1 (TysOk.cons z1b0 (TysOk.cons z1az (TysOk.cons z1ay (TysOk.cons z1ax (TysOk.cons z1aw (TysOk.cons z1av (TysOk.cons z1au (TysOk.nil)))))))))))))))))))))))))))))))))))
theorem mixed:Tryd.prog.follows .mixedOrders=true:=by kernel_rfl
def glob0:List Int:=[0,1,56,2,57,49,28,3,61,58,42,50,38,29,17,4,62,47,59,36,45,43,51,22,53,39,33,30,24,18,12,5,63,55,48,27,60,41,37,16,46,35,44,21,52,32,23,11,54,26,40,15,34,20,31,10,25,14,19,9,13,8,7,6]
def glob:Nat->Option Dat:=lk [(0,⟨(.arr 64 (.int .u8)),glob0⟩)]
def z19v:Code:=(Tryd.f68.body).getD .skip
def L_0:List (List Nat×List Nat):=[([0],[2,3,4]),([0,0,1],[6,2,3,4]),([0,1,0,1],[6,2,3,4]),([0,0,0,1,0,1],[7,6,2,3,4]),(z14i,[6,2,3,4]),(z16c,[2,4]),(z16g,[5,2,3,6,4]),(z1d9,[6,2,3,4]),(z16b,[6,2,3,4]),(z16a,[6,2,3,4]),([1,0,1],[2,4]),([0,1,1],[4]),([1,1,1],[4])]
def E_0 (N:Nat):Env:=z1c tys glob [] [] [] [] false [] []
theorem Eok_0 (N:Nat):EnvOk Tryd.prog (E_0 N):=zi mixed zn (FnsOk.nil) (ItsOk.nil)
def zhd (N:Nat)(o:(List Int))(x4:(List Int))(s:(List Int))(x6:Int)(rec:(List Int)->Int->Option (List Int))(k0:(List Int)->Option (List Int)):Option (List Int):=cond (decide (x6<8)) (cond (inR x6 8) (cond (decide ((Int.toNat x6)<(List.length s))) (cond (inR x6 8) (cond (decide ((Int.toNat x6)<(List.length o))) (cond (inR x6 8) (cond (decide ((Int.toNat x6)<(List.length s))) (rec (List.set s (Int.toNat x6) (ze Go.BinOp.and IntKind.u64 (List.getD s (Int.toNat x6) 0) (List.getD o (Int.toNat x6) 0))) (IntKind.wrap IntKind.i64 (x6+1))) none) none) none) none) none) none) (k0 s)
def zph (N:Nat)(s:(List Int))(o:(List Int))(x4:(List Int))(x6:Int)(k0:(List Int)->Option (List Int)):Option (List Int):=iter (fun (v:((List Int)×Int)) r=>zhd N o x4 v.1 v.2 (fun s x6=>(r (s,x6))) k0) N (s,x6)
def g1_0 (N:Nat)(i:((List Int)×(List Int)))(v:((List Int)×Int))(r:((List Int)×Int)->Option (List Int))(K:Ex->List A->Option (List Int)):Option (List Int):=zhd N i.1 i.2 v.1 v.2 (fun s x6=>(r (s,x6))) (fun a0=>(K (.exit 0) (mkS [(2,.box (.arr 8 (.int .u64))),(1,.box (.arr 8 (.int .u64)))] 14 (a0,i.2,()))))
def h1_0 (N:Nat):Hd (List Int):=fun st K=>(unS SQ35 12 (restr [6,2,3,4] 0 st)).bind fun x=>iter (fun v r=>g1_0 N ((fun x=>(x.2.1,x.2.2.1)) x) v r K) N ((fun x=>(x.1,x.2.2.2.1)) x)
def t1_0 (N:Nat):Tab (List Int):=[]
theorem ok1_0 {N:Nat}{c:Ctx}(hb:Base Tryd.prog (E_0 N) c):zj Tryd.prog c (zh z19v [0,1,0,1]) (h1_0 N) :=
 zu (s:=SQ35) (m:=12) (g1_0 N) [6,2,3,4] N (fun x=>(x.2.1,x.2.2.1)) (fun x=>(x.1,x.2.2.2.1)) (fun i v=>(v.1,i.1,i.2,v.2,())) (fun _=>rfl) (zd hb N (t1_0 N) L_0 z19v TabOk.nil [0,0,1,0,1] _ rfl) (fun i v r K=>by kernel_rfl)
def z5i (N:Nat)(s:(List Int))(o:(List Int)):Option (List Int):=zph N s o ([0,0,0,0,0,0,0,0]:List Int) 0 (fun s1=>some s1)
def t_0 (N:Nat):Tab (List Int):=[([0,1,0,1],h1_0 N)]
theorem z1t5 (N:Nat)(x:z15 z1mj):z4u (E_0 N) N (t_0 N) L_0 Tryd.f68 (mkS z1mj 0 x) (z2l (.v (.arr 8 (.int .u64))) 2)=z5i N x.1 x.2.1:=by kernel_rfl
def zav (N:Nat):List A->Res:=zz z1mj (fun x=>z5i N x.1 x.2.1) (z6n (.v (.arr 8 (.int .u64))) 2)
theorem zhe (N:Nat):Contract Tryd.prog glob 68 (zav N) :=
 Contract.of (E:=E_0 N) (H:=t_0 N) (L:=L_0) (N:=N) (body:=z19v) (K:=(z2l (.v (.arr 8 (.int .u64))) 2)) (Eok_0 N) Tryd.func68 (by kernel_rfl) (by decide) (fun _ hb=>(TabOk.cons (ok1_0 hb) TabOk.nil)) (fun x y h=>by rw[z1t5];exact h) (z13 (s:=(.v (.arr 8 (.int .u64)))) (m:=2))
def z21r:Code:=(Tryd.f67.body).getD .skip
def L_1:List (List Nat×List Nat):=[([0],[0,3]),([0,1],[7,6,0,3]),([0,0,1,1],[17,6,0,3]),([1,0,1,1],[0,3]),([0,0,1,0,1,1],[4,5,0]),([1,0,1,0,1,1],[4,5,0]),([0,1,1,1],[6,0,3]),([0,0,1,1,1,1],[26,0,3,6]),([1,0,1,1,1,1],[0,3,6]),(z16d,[4,5,0]),([1,0,1,0,1,1,1,1],[4,5,0]),([0,1,1,1,1,1],[0,3,6]),(z14h,[0,3,6]),(z16u,[6,0]),([0,1,1,1,1,1,1,1,1],[4,5,0]),([1,1,1,1,1,1,1,1,1],[4,5,0])]
def E_1 (N:Nat):Env:=z1c tys glob [(68,zav N)] [] [] [0] false [] []
theorem Eok_1 (N:Nat):EnvOk Tryd.prog (E_1 N):=zi mixed zn (FnsOk.cons (zhe N) (FnsOk.nil)) (ItsOk.nil)
def z59 (N:Nat)(b:DT0)(s:(List Int)):Option ((Int×Bool×Unit)×(DT0×Unit)):=cond (Option.isSome (z5g (eqD (T.arr 8 (T.int IntKind.u64))) s (Option.getD b.2.2.2.2.1 ([]:List ((List Int)×Int))))) (some (((Option.getD (z5g (eqD (T.arr 8 (T.int IntKind.u64))) s (Option.getD b.2.2.2.2.1 ([]:List ((List Int)×Int)))) 0),(true,())),(b,()))) (cond ((List.length b.2.2.2.2.2.2.1.2.1:Int) == 4096) (some ((0,(false,())),(b,()))) (cond (Option.isSome b.2.2.2.2.1) (cond (decide ((((List.length b.2.2.2.2.2.1)+1)*64)<=70368744177664)) ((z5i N s b.2.1).bind fun y=>cond (decide ((((List.length b.2.2.2.2.2.2.1.2.1)+1)*1)<=70368744177664)) (some (((List.length b.2.2.2.2.2.2.1.2.1:Int),(true,())),((b.1,(b.2.1,(b.2.2.1,(b.2.2.2.1,((Option.some (ztz (eqD (T.arr 8 (T.int IntKind.u64))) s (List.length b.2.2.2.2.2.2.1.2.1:Int) (Option.getD b.2.2.2.2.1 ([]:List ((List Int)×Int))))),((b.2.2.2.2.2.1++([s]:List (List Int))),((b.2.2.2.2.2.2.1.1,((b.2.2.2.2.2.2.1.2.1++([(!(eqD (T.arr 8 (T.int IntKind.u64)) y ([0,0,0,0,0,0,0,0]:List Int)))]:List Bool)),b.2.2.2.2.2.2.1.2.2)),b.2.2.2.2.2.2.2))))))),()))) none) none) none))
def t_1 (N:Nat):Tab ((Int×Bool×Unit)×(DT0×Unit)):=[]
theorem z1t4 (N:Nat)(x:z15 z1d4):z4u (E_1 N) N (t_1 N) L_1 Tryd.f67 (mkS z1d4 0 x) (z3r (.tup [(.int .i64),.bool]) [(0,.box TT3)] 1)=z59 N x.1 x.2.1:=by kernel_rfl
def zbi (N:Nat):List A->Res:=zz z1d4 (fun x=>z59 N x.1 x.2.1) (z4x (.tup [(.int .i64),.bool]) [(0,.box TT3)] 1)
theorem zkc (N:Nat):Contract Tryd.prog glob 67 (zbi N) :=
 Contract.of (E:=E_1 N) (H:=t_1 N) (L:=L_1) (N:=N) (body:=z21r) (K:=(z3r (.tup [(.int .i64),.bool]) [(0,.box TT3)] 1)) (Eok_1 N) Tryd.func67 (by kernel_rfl) (by decide) (fun _ hb=>TabOk.nil) (fun x y h=>by rw[z1t4];exact h) (z2s (s:=(.tup [(.int .i64),.bool])) (os:=[(0,.box TT3)]) (m:=1))
def z19u:Code:=(Tryd.f49.body).getD .skip
def L_2:List (List Nat×List Nat):=[([0],[0,3]),([0,1],[0,3,5]),([0,0,1,1],z12h),([0,1,0,1,1],z12h),(z14g,[22,21,19,0,3,5,20]),(zqy,[21,19,0,3,5,20]),(z1a5,[0,5]),(z1a6,[0,3,7,5,6,21,20,19]),(z1ao,[9,0,5,6,8,21,20,19,3]),([0,0,1,1,0,0,1,1,0,0,1,0,1,1],[35,0,5,6,8,21,20,19,3]),([1,0,1,1,0,0,1,1,0,0,1,0,1,1],[5,6,8,21,20,19,0,3]),([0,0,1,0,1,1,0,0,1,1,0,0,1,0,1,1],[4,0]),([1,0,1,0,1,1,0,0,1,1,0,0,1,0,1,1],[4,0]),([1,1,1,0,0,1,1,0,0,1,0,1,1],z12h),(z1a4,z12h),(z1a3,z12h),([1,0,1,1],[0,5]),([0,1,1,1],[0]),([0,1,1,1,1],[4,0]),([1,1,1,1,1],[4,0])]
def E_2 (N:Nat):Env:=z1c tys glob [(67,zbi N),(68,zav N)] [(5,(.int .i64))] [] [0] false [] []
theorem Eok_2 (N:Nat):EnvOk Tryd.prog (E_2 N):=zi mixed zn (FnsOk.cons (zkc N) (FnsOk.cons (zhe N) (FnsOk.nil))) (ItsOk.nil)
def z3m (N:Nat)(after:(List Int))(x19:(List (List Int)))(x20:Int)(b:DT0)(row:(List Int))(x21:Int)(rec:DT0->(List Int)->Int->Option zhl)(k0:DT0->Bool->Option zhl)(k1:DT0->(List Int)->Option zhl):Option zhl:=cond (decide (x21<x20)) (cond (inR x21 (List.length x19)) ((z5i N after (List.getD x19 (Int.toNat x21) [])).bind fun y=>(z59 N b y).bind fun y1=>cond (!y1.1.2.1) (k0 y1.2.1 false) (cond (inR x21 (List.length row)) (cond (decide ((Int.toNat x21)<(List.length row))) (rec y1.2.1 (List.set row (Int.toNat x21) y1.1.1) (IntKind.wrap IntKind.i64 (x21+1))) none) none)) none) (k1 b row)
def zga (N:Nat)(b:DT0)(after:(List Int))(row:(List Int))(x19:(List (List Int)))(x20:Int)(x21:Int)(k0:DT0->Bool->Option zhl)(k1:DT0->(List Int)->Option zhl):Option zhl:=iter (fun (v:(DT0×(List Int)×Int)) r=>z3m N after x19 x20 v.1 v.2.1 v.2.2 (fun b row x21=>(r (b,row,x21))) k0 k1) N (b,row,x21)
def g1_2 (N:Nat)(i:((List Int)×(List (List Int))×Int))(v:(DT0×(List Int)×Int))(r:(DT0×(List Int)×Int)->Option zhl)(K:Ex->List A->Option zhl):Option zhl:=z3m N i.1 i.2.1 i.2.2 v.1 v.2.1 v.2.2 (fun b row x21=>(r (b,row,x21))) (fun a0 a1=>(K .ret (mkS [(0,.box TT3),(3,.v .bool)] 48 (a0,a1,())))) (fun a0 a1=>(K (.exit 0) (mkS [(0,.box TT3),(4,.row (.int .i64))] 47 (a0,a1,()))))
def h1_2 (N:Nat):Hd zhl:=fun st K=>(unS SQ68 31 (restr z12h 0 st)).bind fun x=>iter (fun v r=>g1_2 N ((fun x=>(x.2.1,x.2.2.2.1,x.2.2.2.2.1)) x) v r K) N ((fun x=>(x.1,x.2.2.1,x.2.2.2.2.2.1)) x)
def t1_2 (N:Nat):Tab zhl:=[]
theorem ok1_2 {N:Nat}{c:Ctx}(hb:Base Tryd.prog (E_2 N) c):zj Tryd.prog c (zh z19u [0,1,0,1,1]) (h1_2 N) :=
 zu (s:=SQ68) (m:=31) (g1_2 N) z12h N (fun x=>(x.2.1,x.2.2.2.1,x.2.2.2.2.1)) (fun x=>(x.1,x.2.2.1,x.2.2.2.2.2.1)) (fun i v=>(v.1,i.1,v.2.1,i.2.1,i.2.2,v.2.2,())) (fun _=>rfl) (zd hb N (t1_2 N) L_2 z19u TabOk.nil [0,0,1,0,1,1] _ rfl) (fun i v r K=>by kernel_rfl)
def z60 (N:Nat)(b:DT0)(after:(List Int)):Option zhl:=cond (decide ((0<=(List.length b.2.2.2.1:Int))/\(((List.length b.2.2.2.1:Int)<=(List.length b.2.2.2.1:Int))/\((((List.length b.2.2.2.1:Int)*8)<=281474976710656)/\((List.length b.2.2.2.1:Int)<=9223372036854775807))))) (zga N b after (List.replicate (Int.toNat (List.length b.2.2.2.1:Int)) 0) b.2.2.2.1 (List.length b.2.2.2.1:Int) 0 (fun b1 x4=>some (x4,(b1,()))) (fun b2 row=>cond (decide ((((List.length b2.2.2.2.2.2.2.1.2.2.2.1)+1)*24)<=70368744177664)) (some (true,((b2.1,(b2.2.1,(b2.2.2.1,(b2.2.2.2.1,(b2.2.2.2.2.1,(b2.2.2.2.2.2.1,((b2.2.2.2.2.2.2.1.1,(b2.2.2.2.2.2.2.1.2.1,(b2.2.2.2.2.2.2.1.2.2.1,((b2.2.2.2.2.2.2.1.2.2.2.1++([row]:List (List Int))),b2.2.2.2.2.2.2.1.2.2.2.2)))),b2.2.2.2.2.2.2.2))))))),()))) none)) none
def t_2 (N:Nat):Tab zhl:=[([0,1,0,1,1],h1_2 N)]
theorem z1t3 (N:Nat)(x:z15 z1d4):z4u (E_2 N) N (t_2 N) L_2 Tryd.f49 (mkS z1d4 0 x) (z3r (.v .bool) [(0,.box TT3)] 1)=z60 N x.1 x.2.1:=by kernel_rfl
def zfb (N:Nat):List A->Res:=zz z1d4 (fun x=>z60 N x.1 x.2.1) (z4x (.v .bool) [(0,.box TT3)] 1)
theorem zo3 (N:Nat):Contract Tryd.prog glob 49 (zfb N) :=
 Contract.of (E:=E_2 N) (H:=t_2 N) (L:=L_2) (N:=N) (body:=z19u) (K:=(z3r (.v .bool) [(0,.box TT3)] 1)) (Eok_2 N) Tryd.func49 (by kernel_rfl) (by decide) (fun _ hb=>(TabOk.cons (ok1_2 hb) TabOk.nil)) (fun x y h=>by rw[z1t3];exact h) (z2s (s:=(.v .bool)) (os:=[(0,.box TT3)]) (m:=1))
def z21q:Code:=(Tryd.f70.body).getD .skip
def L_3:List (List Nat×List Nat):=[([0],[0]),([0,0,1],[4,0]),([1,0,1],[0]),([0,0,1,0,1],[2]),([1,0,1,0,1],[2]),([0,1,1],[2]),([1,1,1],[2])]
def E_3 (N:Nat):Env:=z1c tys glob [] [] [] [] false [] []
theorem Eok_3 (N:Nat):EnvOk Tryd.prog (E_3 N):=zi mixed zn (FnsOk.nil) (ItsOk.nil)
def z1x (N:Nat)(x0:Int):Option Int:=cond (x0 == 0) (some 64) (cond (inR (z23 IntKind.u64 (IntKind.wrap IntKind.u64 (285870213051353865*(ze Go.BinOp.and IntKind.u64 x0 (IntKind.wrap IntKind.u64 (0 - x0))))) 58) 64) (some (IntKind.wrap IntKind.i64 (List.getD glob0 (Int.toNat (z23 IntKind.u64 (IntKind.wrap IntKind.u64 (285870213051353865*(ze Go.BinOp.and IntKind.u64 x0 (IntKind.wrap IntKind.u64 (0 - x0))))) 58)) 0))) none)
def t_3 (N:Nat):Tab Int:=[]
theorem z1t2 (N:Nat)(x:z15 [(0,.v (.int .u64))]):z4u (E_3 N) N (t_3 N) L_3 Tryd.f70 (mkS [(0,.v (.int .u64))] 0 x) (z2l (.v (.int .i64)) 1)=z1x N x.1:=by kernel_rfl
def z3n (N:Nat):List A->Res:=zz [(0,.v (.int .u64))] (fun x=>z1x N x.1) (z6n (.v (.int .i64)) 1)
theorem z76 (N:Nat):Contract Tryd.prog glob 70 (z3n N) :=
 Contract.of (E:=E_3 N) (H:=t_3 N) (L:=L_3) (N:=N) (body:=z21q) (K:=(z2l (.v (.int .i64)) 1)) (Eok_3 N) Tryd.func70 (by kernel_rfl) (by decide) (fun _ hb=>TabOk.nil) (fun x y h=>by rw[z1t2];exact h) (z13 (s:=(.v (.int .i64))) (m:=1))
def z19t:Code:=(Tryd.f69.body).getD .skip
def L_4:List (List Nat×List Nat):=[([0],[2,3,4]),([0,0,1],[6,2,3,4]),([0,1,0,1],[6,2,3,4]),([0,0,0,1,0,1],[7,6,2,3,4]),(z14i,[6,2,3,4]),(z16c,[2,4]),(z16g,[5,2,3,6,4]),(z1d9,[6,2,3,4]),(z16b,[6,2,3,4]),(z16a,[6,2,3,4]),([1,0,1],[2,4]),([0,1,1],[4]),([1,1,1],[4])]
def E_4 (N:Nat):Env:=z1c tys glob [] [] [] [] false [] []
theorem Eok_4 (N:Nat):EnvOk Tryd.prog (E_4 N):=zi mixed zn (FnsOk.nil) (ItsOk.nil)
def zj1 (N:Nat)(o:(List Int))(x4:(List Int))(s:(List Int))(x6:Int)(rec:(List Int)->Int->Option (List Int))(k0:(List Int)->Option (List Int)):Option (List Int):=cond (decide (x6<8)) (cond (inR x6 8) (cond (decide ((Int.toNat x6)<(List.length s))) (cond (inR x6 8) (cond (decide ((Int.toNat x6)<(List.length o))) (cond (inR x6 8) (cond (decide ((Int.toNat x6)<(List.length s))) (rec (List.set s (Int.toNat x6) (ze Go.BinOp.or IntKind.u64 (List.getD s (Int.toNat x6) 0) (List.getD o (Int.toNat x6) 0))) (IntKind.wrap IntKind.i64 (x6+1))) none) none) none) none) none) none) (k0 s)
def zqq (N:Nat)(s:(List Int))(o:(List Int))(x4:(List Int))(x6:Int)(k0:(List Int)->Option (List Int)):Option (List Int):=iter (fun (v:((List Int)×Int)) r=>zj1 N o x4 v.1 v.2 (fun s x6=>(r (s,x6))) k0) N (s,x6)
def g1_4 (N:Nat)(i:((List Int)×(List Int)))(v:((List Int)×Int))(r:((List Int)×Int)->Option (List Int))(K:Ex->List A->Option (List Int)):Option (List Int):=zj1 N i.1 i.2 v.1 v.2 (fun s x6=>(r (s,x6))) (fun a0=>(K (.exit 0) (mkS [(2,.box (.arr 8 (.int .u64))),(1,.box (.arr 8 (.int .u64)))] 14 (a0,i.2,()))))
def h1_4 (N:Nat):Hd (List Int):=fun st K=>(unS SQ35 12 (restr [6,2,3,4] 0 st)).bind fun x=>iter (fun v r=>g1_4 N ((fun x=>(x.2.1,x.2.2.1)) x) v r K) N ((fun x=>(x.1,x.2.2.2.1)) x)
def t1_4 (N:Nat):Tab (List Int):=[]
theorem ok1_4 {N:Nat}{c:Ctx}(hb:Base Tryd.prog (E_4 N) c):zj Tryd.prog c (zh z19t [0,1,0,1]) (h1_4 N) :=
 zu (s:=SQ35) (m:=12) (g1_4 N) [6,2,3,4] N (fun x=>(x.2.1,x.2.2.1)) (fun x=>(x.1,x.2.2.2.1)) (fun i v=>(v.1,i.1,i.2,v.2,())) (fun _=>rfl) (zd hb N (t1_4 N) L_4 z19t TabOk.nil [0,0,1,0,1] _ rfl) (fun i v r K=>by kernel_rfl)
def zau (N:Nat)(s:(List Int))(o:(List Int)):Option (List Int):=zqq N s o ([0,0,0,0,0,0,0,0]:List Int) 0 (fun s1=>some s1)
def t_4 (N:Nat):Tab (List Int):=[([0,1,0,1],h1_4 N)]
theorem z1t1 (N:Nat)(x:z15 z1mj):z4u (E_4 N) N (t_4 N) L_4 Tryd.f69 (mkS z1mj 0 x) (z2l (.v (.arr 8 (.int .u64))) 2)=zau N x.1 x.2.1:=by kernel_rfl
def zhc (N:Nat):List A->Res:=zz z1mj (fun x=>zau N x.1 x.2.1) (z6n (.v (.arr 8 (.int .u64))) 2)
theorem zqr (N:Nat):Contract Tryd.prog glob 69 (zhc N) :=
 Contract.of (E:=E_4 N) (H:=t_4 N) (L:=L_4) (N:=N) (body:=z19t) (K:=(z2l (.v (.arr 8 (.int .u64))) 2)) (Eok_4 N) Tryd.func69 (by kernel_rfl) (by decide) (fun _ hb=>(TabOk.cons (ok1_4 hb) TabOk.nil)) (fun x y h=>by rw[z1t1];exact h) (z13 (s:=(.v (.arr 8 (.int .u64)))) (m:=2))
def zz5:Code:=(Tryd.f50.body).getD .skip
def L_5:List (List Nat×List Nat):=[([0],[3,0,4]),([0,1],[3,5,0,4]),([0,0,1,1],[9,8,5,0,4]),([0,1,0,1,1],[9,8,5,0,4]),(z14g,[10,9,8,5,0,4]),(zqy,[9,8,5,0,4]),(z1a5,[5,4,0]),(z1a6,z12g),(z1ao,z12g),([0,0,0,0,1,0,0,1,1,0,0,1,0,1,1],[14,5,0,6,7,9,8,4]),([1,0,0,0,1,0,0,1,1,0,0,1,0,1,1],[5,0,6,7,9,8,4]),([1,1,0,0,0,1,0,0,1,1,0,0,1,0,1,1],[9,8,5,0,4]),([0,0,1,0,0,1,0,0,1,1,0,0,1,0,1,1],z12g),([0,1,0,0,1,0,0,1,1,0,0,1,0,1,1],z12g),([1,1,0,0,1,0,0,1,1,0,0,1,0,1,1],z12g),(z16h,[9,8,5,0,4]),(z1a4,[9,8,5,0,4]),(z1a3,[9,8,5,0,4]),([1,0,1,1],[5,4,0]),([0,1,1,1],[4,0]),([1,1,1,1],[4,0])]
def E_5 (N:Nat):Env:=z1c tys glob [(69,zhc N),(70,z3n N)] [] [] [0] false [] []
theorem Eok_5 (N:Nat):EnvOk Tryd.prog (E_5 N):=zi mixed zn (FnsOk.cons (zqr N) (FnsOk.cons (z76 N) (FnsOk.nil))) (ItsOk.nil)
def z31 (N:Nat)(b:DT0)(x4:(List Int))(i:Int)(x8:(List Int))(x9:Int)(all:(List Int))(word:Int)(rec:(List Int)->Int->Option ((List Int)×(DT0×Unit)))(k0:(List Int)->Option ((List Int)×(DT0×Unit))):Option ((List Int)×(DT0×Unit)):=cond (word != 0) ((z1x N word).bind fun y=>cond (inR (IntKind.wrap IntKind.i64 ((IntKind.wrap IntKind.i64 (i*64))+y)) (List.length b.2.2.1)) ((zau N all (List.getD b.2.2.1 (Int.toNat (IntKind.wrap IntKind.i64 ((IntKind.wrap IntKind.i64 (i*64))+y))) [])).bind fun y1=>rec y1 (ze Go.BinOp.and IntKind.u64 word (IntKind.wrap IntKind.u64 (word - 1)))) none) (k0 all)
def z8s (N:Nat)(b:DT0)(x4:(List Int))(all:(List Int))(i:Int)(word:Int)(x8:(List Int))(x9:Int)(k0:(List Int)->Option ((List Int)×(DT0×Unit))):Option ((List Int)×(DT0×Unit)):=iter (fun (v:((List Int)×Int)) r=>z31 N b x4 i x8 x9 v.1 v.2 (fun all word=>(r (all,word))) k0) N (all,word)
def g2_5 (N:Nat)(i:(DT0×(List Int)×Int×(List Int)×Int))(v:((List Int)×Int))(r:((List Int)×Int)->Option ((List Int)×(DT0×Unit)))(K:Ex->List A->Option ((List Int)×(DT0×Unit))):Option ((List Int)×(DT0×Unit)):=z31 N i.1 i.2.1 i.2.2.1 i.2.2.2.1 i.2.2.2.2 v.1 v.2 (fun all word=>(r (all,word))) (fun a2=>(K (.exit 2) (mkS SQ52 24 (i.1,i.2.1,a2,i.2.2.2.1,i.2.2.2.2,()))))
def h2_5 (N:Nat):Hd ((List Int)×(DT0×Unit)):=fun st K=>(unS SQ59 24 (restr z12g 0 st)).bind fun x=>iter (fun v r=>g2_5 N ((fun x=>(x.1,x.2.1,x.2.2.2.1,x.2.2.2.2.2.1,x.2.2.2.2.2.2.1)) x) v r K) N ((fun x=>(x.2.2.1,x.2.2.2.2.1)) x)
def t2_5 (N:Nat):Tab ((List Int)×(DT0×Unit)):=[]
theorem ok2_5 {N:Nat}{c:Ctx}(hb:Base Tryd.prog (E_5 N) c):zj Tryd.prog c (zh zz5 z1ao) (h2_5 N) :=
 zu (s:=SQ59) (m:=24) (g2_5 N) z12g N (fun x=>(x.1,x.2.1,x.2.2.2.1,x.2.2.2.2.2.1,x.2.2.2.2.2.2.1)) (fun x=>(x.2.2.1,x.2.2.2.2.1)) (fun i v=>(i.1,i.2.1,v.1,i.2.2.1,v.2,i.2.2.2.1,i.2.2.2.2,())) (fun _=>rfl) (zd hb N (t2_5 N) L_5 zz5 TabOk.nil z1ah _ rfl) (fun i v r K=>by kernel_rfl)
def z21 (N:Nat)(b:DT0)(x4:(List Int))(x8:(List Int))(all:(List Int))(x9:Int)(rec:(List Int)->Int->Option ((List Int)×(DT0×Unit)))(k0:(List Int)->Option ((List Int)×(DT0×Unit))):Option ((List Int)×(DT0×Unit)):=cond (decide (x9<8)) (cond (inR x9 8) (z8s N b x4 all x9 (List.getD x8 (Int.toNat x9) 0) x8 x9 (fun all1=>rec all1 (IntKind.wrap IntKind.i64 (x9+1)))) none) (k0 all)
def ze5 (N:Nat)(b:DT0)(x4:(List Int))(all:(List Int))(x8:(List Int))(x9:Int)(k0:(List Int)->Option ((List Int)×(DT0×Unit))):Option ((List Int)×(DT0×Unit)):=iter (fun (v:((List Int)×Int)) r=>z21 N b x4 x8 v.1 v.2 (fun all x9=>(r (all,x9))) k0) N (all,x9)
def g1_5 (N:Nat)(i:(DT0×(List Int)×(List Int)))(v:((List Int)×Int))(r:((List Int)×Int)->Option ((List Int)×(DT0×Unit)))(K:Ex->List A->Option ((List Int)×(DT0×Unit))):Option ((List Int)×(DT0×Unit)):=z21 N i.1 i.2.1 i.2.2 v.1 v.2 (fun all x9=>(r (all,x9))) (fun a2=>(K (.exit 0) (mkS [(0,.box TT3),(3,.box (.arr 8 (.int .u64))),(0,.box (.arr 8 (.int .u64)))] 28 (i.1,i.2.1,a2,()))))
def h1_5 (N:Nat):Hd ((List Int)×(DT0×Unit)):=fun st K=>(unS SQ52 24 (restr [9,8,5,0,4] 0 st)).bind fun x=>iter (fun v r=>g1_5 N ((fun x=>(x.1,x.2.1,x.2.2.2.1)) x) v r K) N ((fun x=>(x.2.2.1,x.2.2.2.2.1)) x)
def t1_5 (N:Nat):Tab ((List Int)×(DT0×Unit)):=[(z1ao,h2_5 N)]
theorem ok1_5 {N:Nat}{c:Ctx}(hb:Base Tryd.prog (E_5 N) c):zj Tryd.prog c (zh zz5 [0,1,0,1,1]) (h1_5 N) :=
 zu (s:=SQ52) (m:=24) (g1_5 N) [9,8,5,0,4] N (fun x=>(x.1,x.2.1,x.2.2.2.1)) (fun x=>(x.2.2.1,x.2.2.2.2.1)) (fun i v=>(i.1,i.2.1,v.1,i.2.2,v.2,())) (fun _=>rfl) (zd hb N (t1_5 N) L_5 zz5 (TabOk.cons (ok2_5 hb) TabOk.nil) [0,0,1,0,1,1] _ rfl) (fun i v r K=>by kernel_rfl)
def z4k (N:Nat)(b:DT0)(s:(List Int)):Option ((List Int)×(DT0×Unit)):=ze5 N b ([0,0,0,0,0,0,0,0]:List Int) ([0,0,0,0,0,0,0,0]:List Int) s 0 (fun all=>some (all,(b,())))
def t_5 (N:Nat):Tab ((List Int)×(DT0×Unit)):=[([0,1,0,1,1],h1_5 N)]
theorem z1t0 (N:Nat)(x:z15 z1d4):z4u (E_5 N) N (t_5 N) L_5 Tryd.f50 (mkS z1d4 0 x) (z3r (.v (.arr 8 (.int .u64))) [(0,.box TT3)] 1)=z4k N x.1 x.2.1:=by kernel_rfl
def zcx (N:Nat):List A->Res:=zz z1d4 (fun x=>z4k N x.1 x.2.1) (z4x (.v (.arr 8 (.int .u64))) [(0,.box TT3)] 1)
theorem zlo (N:Nat):Contract Tryd.prog glob 50 (zcx N) :=
 Contract.of (E:=E_5 N) (H:=t_5 N) (L:=L_5) (N:=N) (body:=zz5) (K:=(z3r (.v (.arr 8 (.int .u64))) [(0,.box TT3)] 1)) (Eok_5 N) Tryd.func50 (by kernel_rfl) (by decide) (fun _ hb=>(TabOk.cons (ok1_5 hb) TabOk.nil)) (fun x y h=>by rw[z1t0];exact h) (z2s (s:=(.v (.arr 8 (.int .u64)))) (os:=[(0,.box TT3)]) (m:=1))
def zz4:Code:=(Tryd.f25.body).getD .skip
def L_6:List (List Nat×List Nat):=[([0],[0]),([0,0,1],[12,0]),([1,0,1],[0]),([0,0,1,0,1],[2,0]),([1,0,1,0,1],[2,0]),([0,0,1,1],[0]),(z167,[18,0]),(z166,[0]),(z169,[0]),([0,0,1,0,0,0,1,1],[3,0]),([0,1,0,1,0,0,0,1,1],[0,3]),([0,1,1,0,1,0,0,0,1,1],[3,0]),([0,1,1,1,0,1,0,0,0,1,1],[41,40,39,0]),([0,1,1,1,1,0,1,0,0,0,1,1],[41,40,39,0]),([0,0,0,1,1,1,1,0,1,0,0,0,1,1],[42,39,41,0,40]),([0,1,0,0,1,1,1,1,0,1,0,0,0,1,1],[39,41,0,40]),([1,0,1,0,0,1,1,1,1,0,1,0,0,0,1,1],[0]),([0,0,0,1,1,0,0,1,1,1,1,0,1,0,0,0,1,1],[0,5,41,40,39]),([0,1,0,0,1,1,0,0,1,1,1,1,0,1,0,0,0,1,1],[50,0,41,40,39]),([1,1,0,0,1,1,0,0,1,1,1,1,0,1,0,0,0,1,1],[41,40,39,0]),([0,0,1,1,0,0,1,1,0,0,1,1,1,1,0,1,0,0,0,1,1],[2,0]),([1,0,1,1,0,0,1,1,0,0,1,1,1,1,0,1,0,0,0,1,1],[2,0]),([0,1,1,0,0,1,1,1,1,0,1,0,0,0,1,1],[41,40,39,0]),([1,1,1,0,0,1,1,1,1,0,1,0,0,0,1,1],[41,40,39,0]),([1,1,1,1,0,1,0,0,0,1,1],[0]),([1,0,0,0,1,1],[0]),([0,1,1],[0]),([0,1,1,1],[2,0]),([1,1,1,1],[2,0])]
def E_6 (N:Nat):Env:=z1c tys glob [(50,zcx N),(49,zfb N)] [(3,(.arr 8 (.int .u64)))] [] [0] false [(39,(.sl (.arr 8 (.int .u64)))),(36,(.own (.arr 8 (.int .u64)))),(24,(.own (.arr 8 (.int .u64))))] []
theorem Eok_6 (N:Nat):EnvOk Tryd.prog (E_6 N):=zi mixed zn (FnsOk.cons (zlo N) (FnsOk.cons (zo3 N) (FnsOk.nil))) (ItsOk.nil)
def z29 (N:Nat)(x39:(List (List Int)))(x40:Int)(b:DT0)(x41:Int)(rec:DT0->Int->Option zhl)(k0:DT0->Bool->Option zhl)(k1:DT0->Option zhl):Option zhl:=cond (decide (x41<x40)) (cond (inR x41 (List.length x39)) ((z4k N b (List.getD x39 (Int.toNat x41) [])).bind fun y=>(z60 N y.2.1 y.1).bind fun y1=>cond (!y1.1) (k0 y1.2.1 false) (rec y1.2.1 (IntKind.wrap IntKind.i64 (x41+1)))) none) (k1 b)
def ze2 (N:Nat)(b:DT0)(x39:(List (List Int)))(x40:Int)(x41:Int)(k0:DT0->Bool->Option zhl)(k1:DT0->Option zhl):Option zhl:=iter (fun (v:(DT0×Int)) r=>z29 N x39 x40 v.1 v.2 (fun b x41=>(r (b,x41))) k0 k1) N (b,x41)
def g2_6 (N:Nat)(i:((List (List Int))×Int))(v:(DT0×Int))(r:(DT0×Int)->Option zhl)(K:Ex->List A->Option zhl):Option zhl:=z29 N i.1 i.2 v.1 v.2 (fun b x41=>(r (b,x41))) (fun a0 a1=>(K .ret (mkS [(0,.box TT3),(1,.v .bool)] 49 (a0,a1,())))) (fun a0=>(K (.exit 2) (mkS [(0,.box TT3)] 51 (a0,()))))
def h2_6 (N:Nat):Hd zhl:=fun st K=>(unS z223 10 (restr [41,40,39,0] 0 st)).bind fun x=>iter (fun v r=>g2_6 N ((fun x=>(x.2.1,x.2.2.1)) x) v r K) N ((fun x=>(x.1,x.2.2.2.1)) x)
def t2_6 (N:Nat):Tab zhl:=[]
theorem ok2_6 {N:Nat}{c:Ctx}(hb:Base Tryd.prog (E_6 N) c):zj Tryd.prog c (zh zz4 [0,1,1,1,1,0,1,0,0,0,1,1]) (h2_6 N) :=
 zu (s:=z223) (m:=10) (g2_6 N) [41,40,39,0] N (fun x=>(x.2.1,x.2.2.1)) (fun x=>(x.1,x.2.2.2.1)) (fun i v=>(v.1,i.1,i.2,v.2,())) (fun _=>rfl) (zd hb N (t2_6 N) L_6 zz4 TabOk.nil [0,0,1,1,1,1,0,1,0,0,0,1,1] _ rfl) (fun i v r K=>by kernel_rfl)
def z20 (N:Nat)(b:DT0)(rec:DT0->Option zhl)(k0:DT0->Bool->Option zhl)(k1:DT0->Option zhl):Option zhl:=cond (decide (0<(List.length b.2.2.2.2.2.1:Int))) (cond (decide ((0<=(List.length b.2.2.2.2.2.1:Int))/\(((List.length b.2.2.2.2.2.1:Int)<=(List.length b.2.2.2.2.2.1:Int))/\((((List.length b.2.2.2.2.2.1:Int)*64)<=281474976710656)/\((List.length b.2.2.2.2.2.1:Int)<=9223372036854775807))))) (ze2 N (b.1,(b.2.1,(b.2.2.1,(b.2.2.2.1,(b.2.2.2.2.1,([],b.2.2.2.2.2.2)))))) (over (List.replicate (Int.toNat (List.length b.2.2.2.2.2.1:Int)) ([0,0,0,0,0,0,0,0]:List Int)) 0 (List.length (List.replicate (Int.toNat (List.length b.2.2.2.2.2.1:Int)) ([0,0,0,0,0,0,0,0]:List Int))) b.2.2.2.2.2.1) (((List.length (over (List.replicate (Int.toNat (List.length b.2.2.2.2.2.1:Int)) ([0,0,0,0,0,0,0,0]:List Int)) 0 (List.length (List.replicate (Int.toNat (List.length b.2.2.2.2.2.1:Int)) ([0,0,0,0,0,0,0,0]:List Int))) b.2.2.2.2.2.1)):Nat):Int) 0 (fun b1 x2=>k0 b1 x2) (fun b2=>rec b2)) none) (k1 b)
def ze3 (N:Nat)(b:DT0)(k0:DT0->Bool->Option zhl)(k1:DT0->Option zhl):Option zhl:=iter (fun (v:DT0) r=>z20 N v (fun b=>(r b)) k0 k1) N b
def g1_6 (N:Nat)(i:Unit)(v:DT0)(r:DT0->Option zhl)(K:Ex->List A->Option zhl):Option zhl:=z20 N v (fun b=>(r b)) (fun a0 a1=>(K .ret (mkS [(0,.box TT3),(1,.v .bool)] 49 (a0,a1,())))) (fun a0=>(K (.exit 0) (mkS [(0,.box TT3)] 51 (a0,()))))
def h1_6 (N:Nat):Hd zhl:=fun st K=>(unS [(0,.box TT3)] 51 (restr [0] 0 st)).bind fun x=>iter (fun v r=>g1_6 N ((fun x=>()) x) v r K) N ((fun x=>x.1) x)
def t1_6 (N:Nat):Tab zhl:=[([0,1,1,1,1,0,1,0,0,0,1,1],h2_6 N)]
theorem ok1_6 {N:Nat}{c:Ctx}(hb:Base Tryd.prog (E_6 N) c):zj Tryd.prog c (zh zz4 [0,0,1,1]) (h1_6 N) :=
 zu (s:=[(0,.box TT3)]) (m:=51) (g1_6 N) [0] N (fun x=>()) (fun x=>x.1) (fun i v=>(v,())) (fun _=>rfl) (zd hb N (t1_6 N) L_6 zz4 (TabOk.cons (ok2_6 hb) TabOk.nil) [0,0,0,1,1] _ rfl) (fun i v r K=>by kernel_rfl)
def z4j (N:Nat)(b:DT0):Option zhl:=(z60 N b b.1).bind fun y=>cond (!y.1) (some (false,(y.2.1,()))) (ze3 N y.2.1 (fun b1 x2=>some (x2,(b1,()))) (fun b2=>some (true,(b2,()))))
def t_6 (N:Nat):Tab zhl:=[([0,0,1,1],h1_6 N)]
theorem z1sz (N:Nat)(x:z15 [(0,.box TT3)]):z4u (E_6 N) N (t_6 N) L_6 Tryd.f25 (mkS [(0,.box TT3)] 0 x) (z3r (.v .bool) [(0,.box TT3)] 0)=z4j N x.1:=by kernel_rfl
def zkd (N:Nat):List A->Res:=zz [(0,.box TT3)] (fun x=>z4j N x.1) (z4x (.v .bool) [(0,.box TT3)] 0)
theorem ze4 (N:Nat):Contract Tryd.prog glob 25 (zkd N) :=
 Contract.of (E:=E_6 N) (H:=t_6 N) (L:=L_6) (N:=N) (body:=zz4) (K:=(z3r (.v .bool) [(0,.box TT3)] 0)) (Eok_6 N) Tryd.func25 (by kernel_rfl) (by decide) (fun _ hb=>(TabOk.cons (ok1_6 hb) TabOk.nil)) (fun x y h=>by rw[z1sz];exact h) (z2s (s:=(.v .bool)) (os:=[(0,.box TT3)]) (m:=0))
def z19s:Code:=(Tryd.f46.body).getD .skip
def L_7:List (List Nat×List Nat):=[([0],[0,2]),([0,1],[0,3,2]),([0,0,1,1],[8,7,6,3,2]),([0,1,0,1,1],[8,7,6,3,2]),(z14g,[9,6,8,3,7,2]),(zqy,[6,8,3,7,2]),(z1a5,[3,2]),(z1a6,[5,3,8,7,6,2]),(z16h,[8,7,6,3,2]),(z1a4,[8,7,6,3,2]),(z1a3,[8,7,6,3,2]),([1,0,1,1],[3,2]),([0,1,1,1],[2]),([1,1,1,1],[2])]
def E_7 (N:Nat):Env:=z1c tys glob [] [] [] [] false [] []
theorem Eok_7 (N:Nat):EnvOk Tryd.prog (E_7 N):=zi mixed zn (FnsOk.nil) (ItsOk.nil)
def z7o (N:Nat)(x2:(List Int))(x6:(List Int))(x7:Int)(s:(List Int))(x8:Int)(rec:(List Int)->Int->Option (List Int))(k0:(List Int)->Option (List Int)):Option (List Int):=cond (decide (x8<x7)) (cond (inR x8 (List.length x6)) (cond (inR (IntKind.wrap IntKind.i64 (Int.tdiv (List.getD x6 (Int.toNat x8) 0) 64)) 8) (cond (decide ((Int.toNat (IntKind.wrap IntKind.i64 (Int.tdiv (List.getD x6 (Int.toNat x8) 0) 64)))<(List.length s))) (cond (decide (0<=(Int.tmod (List.getD x6 (Int.toNat x8) 0) 64))) (cond (inR (IntKind.wrap IntKind.i64 (Int.tdiv (List.getD x6 (Int.toNat x8) 0) 64)) 8) (cond (decide ((Int.toNat (IntKind.wrap IntKind.i64 (Int.tdiv (List.getD x6 (Int.toNat x8) 0) 64)))<(List.length s))) (rec (List.set s (Int.toNat (IntKind.wrap IntKind.i64 (Int.tdiv (List.getD x6 (Int.toNat x8) 0) 64))) (ze Go.BinOp.or IntKind.u64 (List.getD s (Int.toNat (IntKind.wrap IntKind.i64 (Int.tdiv (List.getD x6 (Int.toNat x8) 0) 64))) 0) (z17a IntKind.u64 1 (Int.tmod (List.getD x6 (Int.toNat x8) 0) 64)))) (IntKind.wrap IntKind.i64 (x8+1))) none) none) none) none) none) none) (k0 s)
def zt1 (N:Nat)(x2:(List Int))(s:(List Int))(x6:(List Int))(x7:Int)(x8:Int)(k0:(List Int)->Option (List Int)):Option (List Int):=iter (fun (v:((List Int)×Int)) r=>z7o N x2 x6 x7 v.1 v.2 (fun s x8=>(r (s,x8))) k0) N (s,x8)
def g1_7 (N:Nat)(i:((List Int)×(List Int)×Int))(v:((List Int)×Int))(r:((List Int)×Int)->Option (List Int))(K:Ex->List A->Option (List Int)):Option (List Int):=z7o N i.1 i.2.1 i.2.2 v.1 v.2 (fun s x8=>(r (s,x8))) (fun a1=>(K (.exit 0) (mkS [(2,.box (.arr 8 (.int .u64))),(0,.box (.arr 8 (.int .u64)))] 19 (i.1,a1,()))))
def h1_7 (N:Nat):Hd (List Int):=fun st K=>(unS SQ85 14 (restr [8,7,6,3,2] 0 st)).bind fun x=>iter (fun v r=>g1_7 N ((fun x=>(x.1,x.2.2.1,x.2.2.2.1)) x) v r K) N ((fun x=>(x.2.1,x.2.2.2.2.1)) x)
def t1_7 (N:Nat):Tab (List Int):=[]
theorem ok1_7 {N:Nat}{c:Ctx}(hb:Base Tryd.prog (E_7 N) c):zj Tryd.prog c (zh z19s [0,1,0,1,1]) (h1_7 N) :=
 zu (s:=SQ85) (m:=14) (g1_7 N) [8,7,6,3,2] N (fun x=>(x.1,x.2.2.1,x.2.2.2.1)) (fun x=>(x.2.1,x.2.2.2.2.1)) (fun i v=>(i.1,v.1,i.2.1,i.2.2,v.2,())) (fun _=>rfl) (zd hb N (t1_7 N) L_7 z19s TabOk.nil [0,0,1,0,1,1] _ rfl) (fun i v r K=>by kernel_rfl)
def z58 (N:Nat)(l:(List Int)):Option (List Int):=zt1 N ([0,0,0,0,0,0,0,0]:List Int) ([0,0,0,0,0,0,0,0]:List Int) l (List.length l:Int) 0 (fun s=>some s)
def t_7 (N:Nat):Tab (List Int):=[([0,1,0,1,1],h1_7 N)]
theorem z1sy (N:Nat)(x:z15 zof):z4u (E_7 N) N (t_7 N) L_7 Tryd.f46 (mkS zof 0 x) (z2l (.v (.arr 8 (.int .u64))) 1)=z58 N x.1:=by kernel_rfl
def zj2 (N:Nat):List A->Res:=zz zof (fun x=>z58 N x.1) (z6n (.v (.arr 8 (.int .u64))) 1)
theorem zt2 (N:Nat):Contract Tryd.prog glob 46 (zj2 N) :=
 Contract.of (E:=E_7 N) (H:=t_7 N) (L:=L_7) (N:=N) (body:=z19s) (K:=(z2l (.v (.arr 8 (.int .u64))) 1)) (Eok_7 N) Tryd.func46 (by kernel_rfl) (by decide) (fun _ hb=>(TabOk.cons (ok1_7 hb) TabOk.nil)) (fun x y h=>by rw[z1sy];exact h) (z13 (s:=(.v (.arr 8 (.int .u64)))) (m:=1))
def z19r:Code:=(Tryd.f76.body).getD .skip
def L_8:List (List Nat×List Nat):=[([0],[4,1,2,0]),([0,1],[4,1,2,0]),([0,0,0,0,1],[9,2,1,4,0]),([1,0,0,0,1],[2,1,4,0]),([1,1,0,0,0,1],[0]),([0,0,0,1,0,0,1],[0,1,4,5,2]),([0,1,0,0,1,0,0,1],[30,0,4,2,1]),([1,1,0,0,1,0,0,1],[4,2,1,0]),([0,1,1,0,0,1,0,0,1],[0]),([0,1,0,0,1],[4,2,1,0]),([1,1,0,0,1],[4,1,2,0]),([1],[0])]
def E_8 (N:Nat):Env:=z1c tys glob [] [] [] [0] false [] []
theorem Eok_8 (N:Nat):EnvOk Tryd.prog (E_8 N):=zi mixed zn (FnsOk.nil) ItsOk.nil
def z6h (N:Nat)(x1:(List (List Int)))(x2:Int)(i:Int)(rec:Int->Option (List ((List (List Int))×Unit)))(k0:Option (List ((List (List Int))×Unit)))(k1:Option (List ((List (List Int))×Unit))):Option (List ((List (List Int))×Unit)):=cond (decide (i<(List.length x1:Int))) (cond (decide ((0<=i)/\(i<=(List.length x1:Int)))) (cond (decide (((IntKind.wrap IntKind.i64 (i+(if ((List.length (cut x1 (Int.toNat i) (List.length x1)):Int)<x2) then (List.length (cut x1 (Int.toNat i) (List.length x1)):Int) else x2)))<=(IntKind.wrap IntKind.i64 (i+(if ((List.length (cut x1 (Int.toNat i) (List.length x1)):Int)<x2) then (List.length (cut x1 (Int.toNat i) (List.length x1)):Int) else x2))))/\((IntKind.wrap IntKind.i64 (i+(if ((List.length (cut x1 (Int.toNat i) (List.length x1)):Int)<x2) then (List.length (cut x1 (Int.toNat i) (List.length x1)):Int) else x2)))<=(List.length x1:Int)))) (cond (decide ((0<=(IntKind.wrap IntKind.i64 (i+(if ((List.length (cut x1 (Int.toNat i) (List.length x1)):Int)<x2) then (List.length (cut x1 (Int.toNat i) (List.length x1)):Int) else x2))))/\((IntKind.wrap IntKind.i64 (i+(if ((List.length (cut x1 (Int.toNat i) (List.length x1)):Int)<x2) then (List.length (cut x1 (Int.toNat i) (List.length x1)):Int) else x2)))<=(List.length x1:Int)))) (cond (decide ((0<=i)/\(i<=(IntKind.wrap IntKind.i64 (i+(if ((List.length (cut x1 (Int.toNat i) (List.length x1)):Int)<x2) then (List.length (cut x1 (Int.toNat i) (List.length x1)):Int) else x2)))))) (z1cn ((cut x1 (Int.toNat i) (Int.toNat (IntKind.wrap IntKind.i64 (i+(if ((List.length (cut x1 (Int.toNat i) (List.length x1)):Int)<x2) then (List.length (cut x1 (Int.toNat i) (List.length x1)):Int) else x2))))),()) (rec (IntKind.wrap IntKind.i64 (i+x2))) k0) none) none) none) none) k1
def zix (N:Nat)(x1:(List (List Int)))(x2:Int)(i:Int)(k0:Option (List ((List (List Int))×Unit)))(k1:Option (List ((List (List Int))×Unit))):Option (List ((List (List Int))×Unit)):=iter (fun (v:Int) r=>z6h N x1 x2 v (fun i=>(r i)) k0 k1) N i
def g1_8 (N:Nat)(i:((List (List Int))×Int))(v:Int)(r:Int->Option (List ((List (List Int))×Unit)))(K:Ex->List A->Option (List ((List (List Int))×Unit))):Option (List ((List (List Int))×Unit)):=z6h N i.1 i.2 v (fun i=>(r i)) (K .ret (mkS [(0,.yld)] 30 ((),()))) (K (.exit 0) (mkS [(0,.yld)] 30 ((),())))
def h1_8 (N:Nat):Hd (List ((List (List Int))×Unit)):=fun st K=>(unS [(0,.yld),(0,.v (.ptr (.sl (.arr 4 (.int .u64))))),(0,.v (.ptr (.int .i64))),(1,.v (.int .i64))] 26 (restr [4,1,2,0] 0 st)).bind fun x=>iter (fun v r=>g1_8 N ((fun x=>(x.2.1,x.2.2.1)) x) v r K) N ((fun x=>x.2.2.2.1) x)
def t1_8 (N:Nat):Tab (List ((List (List Int))×Unit)):=[]
theorem ok1_8 {N:Nat}{G:GY [(.sl (.arr 4 (.int .u64)))]}(hG:ztv G)(hev:EvOk G Tryd.prog (E_8 N) N L_8 z19r):YOk G Tryd.prog (zh z19r [0,1]) (h1_8 N) :=
 z1bz hG (s:=[(0,.yld),(0,.v (.ptr (.sl (.arr 4 (.int .u64))))),(0,.v (.ptr (.int .i64))),(1,.v (.int .i64))]) (m:=26) (g1_8 N) [4,1,2,0] N (fun x=>(x.2.1,x.2.2.1)) (fun x=>x.2.2.2.1) (fun i v=>((),i.1,i.2,v,())) (fun _=>rfl) (hev (t1_8 N) TabOkY.nil [0,0,1]) (fun i v r K=>by kernel_rfl)
def zab (N:Nat)(x1:(List (List Int)))(x2:Int):Option (List ((List (List Int))×Unit)):=zix N x1 x2 0 (some ([]:List ((List (List Int))×Unit))) (some ([]:List ((List (List Int))×Unit)))
def t_8 (N:Nat):Tab (List ((List (List Int))×Unit)):=[([0,1],h1_8 N)]
theorem z1sx (N:Nat)(x:T.den (.pair (.ptr (.sl (.arr 4 (.int .u64)))) (.pair (.ptr (.int .i64)) .unit))):evYX (E_8 N) [(.sl (.arr 4 (.int .u64)))] z1cn N (t_8 N) L_8 Tryd.f76 [.v (.ptr (.sl (.arr 4 (.int .u64)))) x.1,.v (.ptr (.int .i64)) x.2.1]=zab N x.1 x.2.1:=by kernel_rfl
def z7 (N:Nat):Dat->ItRes:=z1jt (ts:=[(.sl (.arr 4 (.int .u64)))]) (.pair (.ptr (.sl (.arr 4 (.int .u64)))) (.pair (.ptr (.int .i64)) .unit)) (fun x=>zab N x.1 x.2.1)
theorem za (N:Nat):ItOk Tryd.prog glob 76 (z7 N):=ItOk.of (ts:=[(.sl (.arr 4 (.int .u64)))]) (E:=E_8 N) (H:=t_8 N) (L:=L_8) (N:=N) (body:=z19r) (Eok_8 N) rfl Tryd.func76 (by kernel_rfl) (by decide) (fun G hG hev=>(TabOkY.cons (ok1_8 hG hev) TabOkY.nil)) (fun x y h=>⟨_,rfl,by rw[z1sx];exact h⟩)
def z21p:Code:=(Tryd.f64.body).getD .skip
def L_9:List (List Nat×List Nat):=[([0],[3,2]),([0,0,1],[6,2,3]),([1,0,1],[2,3]),([0,1,0,1],[2,3]),([0,1,1],[4]),([1,1,1],[4])]
def E_9 (N:Nat):Env:=z1c tys glob [] [] [] [] false [] [(76,z7 N)]
theorem Eok_9 (N:Nat):EnvOk Tryd.prog (E_9 N):=zi mixed zn (FnsOk.nil) (ItsOk.cons (za N) (ItsOk.nil))
def zpq (N:Nat)(s:(List (List Int)))(n:Int):Option ((List (List Int))×(Int×Unit)):=cond (decide (n<1)) none (some (s,(n,())))
def t_9 (N:Nat):Tab ((List (List Int))×(Int×Unit)):=[]
theorem z1sw (N:Nat)(x:z15 z1l2):z4u (E_9 N) N (t_9 N) L_9 Tryd.f64 (mkS z1l2 0 x) (z2l (.v (.fn 76 (.pair (.ptr (.sl (.arr 4 (.int .u64)))) (.pair (.ptr (.int .i64)) .unit)))) 2)=zpq N x.1 x.2.1:=by kernel_rfl
def ziw (N:Nat):List A->Res:=zz z1l2 (fun x=>zpq N x.1 x.2.1) (z6n (.v (.fn 76 (.pair (.ptr (.sl (.arr 4 (.int .u64)))) (.pair (.ptr (.int .i64)) .unit)))) 2)
theorem zrn (N:Nat):Contract Tryd.prog glob 64 (ziw N) :=
 Contract.of (E:=E_9 N) (H:=t_9 N) (L:=L_9) (N:=N) (body:=z21p) (K:=(z2l (.v (.fn 76 (.pair (.ptr (.sl (.arr 4 (.int .u64)))) (.pair (.ptr (.int .i64)) .unit)))) 2)) (Eok_9 N) Tryd.func64 (by kernel_rfl) (by decide) (fun _ hb=>TabOk.nil) (fun x y h=>by rw[z1sw];exact h) (z13 (s:=(.v (.fn 76 (.pair (.ptr (.sl (.arr 4 (.int .u64)))) (.pair (.ptr (.int .i64)) .unit))))) (m:=2))
def z1kn:Code:=(Tryd.f91.body).getD .skip
def L_10:List (List Nat×List Nat):=[([0],[0]),([0,1],[0]),([0,1,1],[0]),([0,1,1,1],[0]),([0,1,1,1,1],[0]),([0,1,1,1,1,1],[0]),(z14h,[0]),(z16u,[2]),(zzf,[2])]
def E_10 (N:Nat):Env:=z1c tys glob [] [] [] [] false [] [(76,z7 N)]
theorem z257 (N:Nat):EnvOk Tryd.prog (E_10 N):=zi mixed zn (FnsOk.nil) (ItsOk.cons (za N) (ItsOk.nil))
def zcv (N:Nat)(x0:Int):Option Int:=(fun (w4:Int)=>(fun (w3:Int)=>(fun (w2:Int)=>(fun (w1:Int)=>(fun (w0:Int)=>some (ze Go.BinOp.and IntKind.i64 (IntKind.wrap IntKind.i64 (IntKind.wrap IntKind.u64 (w0+(z23 IntKind.u64 w0 32)))) 127)) (IntKind.wrap IntKind.u64 (w1+(z23 IntKind.u64 w1 16)))) (IntKind.wrap IntKind.u64 ((ze Go.BinOp.and IntKind.u64 w2 1085102592571150095)+(z23 IntKind.u64 (ze Go.BinOp.and IntKind.u64 w2 1085102592571150095) 8)))) (IntKind.wrap IntKind.u64 ((z23 IntKind.u64 w3 4)+w3))) (IntKind.wrap IntKind.u64 ((ze Go.BinOp.and IntKind.u64 (z23 IntKind.u64 w4 2) 3689348814741910323)+(ze Go.BinOp.and IntKind.u64 w4 3689348814741910323)))) (IntKind.wrap IntKind.u64 ((ze Go.BinOp.and IntKind.u64 (z23 IntKind.u64 x0 1) 6148914691236517205)+(ze Go.BinOp.and IntKind.u64 x0 6148914691236517205)))
def t_10 (N:Nat):Tab Int:=[]
theorem z1jq (N:Nat)(x:z15 [(0,.v (.int .u64))]):z4u (E_10 N) N (t_10 N) L_10 Tryd.f91 (mkS [(0,.v (.int .u64))] 0 x) (z2l (.v (.int .i64)) 1)=zcv N x.1:=by kernel_rfl
def z97 (N:Nat):List A->Res:=zz [(0,.v (.int .u64))] (fun x=>zcv N x.1) (z6n (.v (.int .i64)) 1)
theorem zh7 (N:Nat):Contract Tryd.prog glob 91 (z97 N) :=
 Contract.of (E:=E_10 N) (H:=t_10 N) (L:=L_10) (N:=N) (body:=z1kn) (K:=(z2l (.v (.int .i64)) 1)) (z257 N) Tryd.func91 (by kernel_rfl) (by decide) (fun _ hb=>TabOk.nil) (fun x y h=>by rw[z1jq];exact h) (z13 (s:=(.v (.int .i64))) (m:=1))
def z125:Code:=(Tryd.f82.body).getD .skip
def L_11:List (List Nat×List Nat):=[([0],[1]),([0,1],[1,3]),([0,0,1,1],[7,6,3]),([0,1,0,1,1],[7,6,3]),(z14g,[8,6,7,3]),(zqy,[6,7,3]),(z1a5,[3]),(z1a6,[3,5,7,6]),(z16h,[7,6,3]),(z1a4,[7,6,3]),(z1a3,[7,6,3]),([1,0,1,1],[3]),([0,1,1,1],[2]),([1,1,1,1],[2])]
def E_11 (N:Nat):Env:=z1c tys glob [(91,z97 N)] [] [] [] false [] [(76,z7 N)]
theorem z256 (N:Nat):EnvOk Tryd.prog (E_11 N):=zi mixed zn (FnsOk.cons (zh7 N) (FnsOk.nil)) (ItsOk.cons (za N) (ItsOk.nil))
def zj8 (N:Nat)(x6:(List Int))(n:Int)(x7:Int)(rec:Int->Int->Option Int)(k0:Int->Option Int):Option Int:=(fun (w4:Int)=>(fun (w3:Int)=>(fun (w2:Int)=>(fun (w1:Int)=>(fun (w0:Int)=>cond (decide (x7<4)) (cond (inR x7 4) (rec (IntKind.wrap IntKind.i64 (n+(ze Go.BinOp.and IntKind.i64 (IntKind.wrap IntKind.i64 (IntKind.wrap IntKind.u64 (w0+(z23 IntKind.u64 w0 32)))) 127))) (IntKind.wrap IntKind.i64 (x7+1))) none) (k0 n)) (IntKind.wrap IntKind.u64 (w1+(z23 IntKind.u64 w1 16)))) (IntKind.wrap IntKind.u64 ((ze Go.BinOp.and IntKind.u64 w2 1085102592571150095)+(z23 IntKind.u64 (ze Go.BinOp.and IntKind.u64 w2 1085102592571150095) 8)))) (IntKind.wrap IntKind.u64 ((z23 IntKind.u64 w3 4)+w3))) (IntKind.wrap IntKind.u64 ((ze Go.BinOp.and IntKind.u64 (z23 IntKind.u64 w4 2) 3689348814741910323)+(ze Go.BinOp.and IntKind.u64 w4 3689348814741910323)))) (IntKind.wrap IntKind.u64 ((ze Go.BinOp.and IntKind.u64 (z23 IntKind.u64 (List.getD x6 (Int.toNat x7) 0) 1) 6148914691236517205)+(ze Go.BinOp.and IntKind.u64 (List.getD x6 (Int.toNat x7) 0) 6148914691236517205)))
def zqv (N:Nat)(n:Int)(x6:(List Int))(x7:Int)(k0:Int->Option Int):Option Int:=iter (fun (v:(Int×Int)) r=>zj8 N x6 v.1 v.2 (fun n x7=>(r (n,x7))) k0) N (n,x7)
def z21i (N:Nat)(i:(List Int))(v:(Int×Int))(r:(Int×Int)->Option Int)(K:Ex->List A->Option Int):Option Int:=zj8 N i v.1 v.2 (fun n x7=>(r (n,x7))) (fun a0=>(K (.exit 0) (mkS [(3,.v (.int .i64))] 12 (a0,()))))
def z1xd (N:Nat):Hd Int:=fun st K=>(unS [(3,.v (.int .i64)),(2,.v (.arr 4 (.int .u64))),(0,.v (.int .i64))] 8 (restr [7,6,3] 0 st)).bind fun x=>iter (fun v r=>z21i N ((fun x=>x.2.1) x) v r K) N ((fun x=>(x.1,x.2.2.1)) x)
def t1_11 (N:Nat):Tab Int:=[]
theorem z1so {N:Nat}{c:Ctx}(hb:Base Tryd.prog (E_11 N) c):zj Tryd.prog c (zh z125 [0,1,0,1,1]) (z1xd N) :=
 zu (s:=[(3,.v (.int .i64)),(2,.v (.arr 4 (.int .u64))),(0,.v (.int .i64))]) (m:=8) (z21i N) [7,6,3] N (fun x=>x.2.1) (fun x=>(x.1,x.2.2.1)) (fun i v=>(v.1,i,v.2,())) (fun _=>rfl) (zd hb N (t1_11 N) L_11 z125 TabOk.nil [0,0,1,0,1,1] _ rfl) (fun i v r K=>by kernel_rfl)
def zay (N:Nat)(s:(List Int)):Option Int:=zqv N 0 s 0 (fun n=>some n)
def t_11 (N:Nat):Tab Int:=[([0,1,0,1,1],z1xd N)]
theorem z1jp (N:Nat)(x:z15 z12b):z4u (E_11 N) N (t_11 N) L_11 Tryd.f82 (mkS z12b 0 x) (z2l (.v (.int .i64)) 1)=zay N x.1:=by kernel_rfl
def zhi (N:Nat):List A->Res:=zz z12b (fun x=>zay N x.1) (z6n (.v (.int .i64)) 1)
theorem zqw (N:Nat):Contract Tryd.prog glob 82 (zhi N) :=
 Contract.of (E:=E_11 N) (H:=t_11 N) (L:=L_11) (N:=N) (body:=z125) (K:=(z2l (.v (.int .i64)) 1)) (z256 N) Tryd.func82 (by kernel_rfl) (by decide) (fun _ hb=>(TabOk.cons (z1so hb) TabOk.nil)) (fun x y h=>by rw[z1jp];exact h) (z13 (s:=(.v (.int .i64))) (m:=1))
def z1km:Code:=(Tryd.f47.body).getD .skip
def L_12:List (List Nat×List Nat):=[([0],[1,2]),([0,1],[4]),([1,1],[4])]
def E_12 (N:Nat):Env:=z1c tys glob [] [] [] [] false [] [(76,z7 N)]
theorem z255 (N:Nat):EnvOk Tryd.prog (E_12 N):=zi mixed zn (FnsOk.nil) (ItsOk.cons (za N) (ItsOk.nil))
def zc3 (N:Nat)(s:(List Int))(b:Int):Option Bool:=cond (inR (IntKind.wrap IntKind.u8 (Int.tdiv b 64)) 4) (cond (decide ((Int.toNat (IntKind.wrap IntKind.u8 (Int.tdiv b 64)))<(List.length s))) (cond (decide (0<=(Int.tmod b 64))) (some ((ze Go.BinOp.and IntKind.u64 (z23 IntKind.u64 (List.getD s (Int.toNat (IntKind.wrap IntKind.u8 (Int.tdiv b 64))) 0) (Int.tmod b 64)) 1) == 1)) none) none) none
def t_12 (N:Nat):Tab Bool:=[]
theorem z1jo (N:Nat)(x:z15 z1mg):z4u (E_12 N) N (t_12 N) L_12 Tryd.f47 (mkS z1mg 0 x) (z2l (.v .bool) 2)=zc3 N x.1 x.2.1:=by kernel_rfl
def zff (N:Nat):List A->Res:=zz z1mg (fun x=>zc3 N x.1 x.2.1) (z6n (.v .bool) 2)
theorem zm7 (N:Nat):Contract Tryd.prog glob 47 (zff N) :=
 Contract.of (E:=E_12 N) (H:=t_12 N) (L:=L_12) (N:=N) (body:=z1km) (K:=(z2l (.v .bool) 2)) (z255 N) Tryd.func47 (by kernel_rfl) (by decide) (fun _ hb=>TabOk.nil) (fun x y h=>by rw[z1jo];exact h) (z13 (s:=(.v .bool)) (m:=2))
def z124:Code:=(Tryd.f77.body).getD .skip
def L_13:List (List Nat×List Nat):=[([0],[1]),([0,1],[1,3]),([0,0,1,1],[8,1,3]),([0,1,0,1,1],[8,1,3]),(z14g,[9,8,1,3]),(zqy,[8,1,3]),(z1a5,[3]),(z1a6,[1,4,3,8]),(z1ao,[14,3,4,8,1]),(z1dh,[8,1,3]),([0,1,1,0,0,1,1,0,0,1,0,1,1],[8,1,3]),(z1a4,[8,1,3]),(z1a3,[8,1,3]),([1,0,1,1],[3]),([0,1,1,1],[2]),([1,1,1,1],[2])]
def E_13 (N:Nat):Env:=z1c tys glob [(47,zff N),(82,zhi N)] [(3,(.int .u8))] [] [] false [] [(76,z7 N)]
theorem z254 (N:Nat):EnvOk Tryd.prog (E_13 N):=zi mixed zn (FnsOk.cons (zm7 N) (FnsOk.cons (zqw N) (FnsOk.nil))) (ItsOk.cons (za N) (ItsOk.nil))
def zax (N:Nat)(s:(List Int))(out:(List Int))(x8:Int)(rec:(List Int)->Int->Option (List UInt8))(k0:(List Int)->Option (List UInt8)):Option (List UInt8):=cond (decide (x8<256)) ((zc3 N s (IntKind.wrap IntKind.u8 x8)).bind fun y=>cond y (cond (decide ((((List.length out)+1)*1)<=70368744177664)) (rec (out++([(IntKind.wrap IntKind.u8 x8)]:List Int)) (IntKind.wrap IntKind.i64 (x8+1))) none) (rec out (IntKind.wrap IntKind.i64 (x8+1)))) (k0 out)
def zkf (N:Nat)(s:(List Int))(out:(List Int))(x8:Int)(k0:(List Int)->Option (List UInt8)):Option (List UInt8):=iter (fun (v:((List Int)×Int)) r=>zax N s v.1 v.2 (fun out x8=>(r (out,x8))) k0) N (out,x8)
def z21h (N:Nat)(i:(List Int))(v:((List Int)×Int))(r:((List Int)×Int)->Option (List UInt8))(K:Ex->List A->Option (List UInt8)):Option (List UInt8):=zax N i v.1 v.2 (fun out x8=>(r (out,x8))) (fun a0=>(K (.exit 0) (mkS [(3,.row (.int .u8))] 19 (a0,()))))
def z1xc (N:Nat):Hd (List UInt8):=fun st K=>(unS [(1,.box (.arr 4 (.int .u64))),(1,.row (.int .u8)),(4,.v (.int .i64))] 14 (restr [8,1,3] 0 st)).bind fun x=>iter (fun v r=>z21h N ((fun x=>x.1) x) v r K) N ((fun x=>(x.2.1,x.2.2.1)) x)
def t1_13 (N:Nat):Tab (List UInt8):=[]
theorem z1sn {N:Nat}{c:Ctx}(hb:Base Tryd.prog (E_13 N) c):zj Tryd.prog c (zh z124 [0,1,0,1,1]) (z1xc N) :=
 zu (s:=[(1,.box (.arr 4 (.int .u64))),(1,.row (.int .u8)),(4,.v (.int .i64))]) (m:=14) (z21h N) [8,1,3] N (fun x=>x.1) (fun x=>(x.2.1,x.2.2.1)) (fun i v=>(i,v.1,v.2,())) (fun _=>rfl) (zd hb N (t1_13 N) L_13 z124 TabOk.nil [0,0,1,0,1,1] _ rfl) (fun i v r K=>by kernel_rfl)
def zcy (N:Nat)(s:(List Int)):Option (List UInt8):=(zay N s).bind fun y=>cond (decide (((0:Int)<=0)/\((0<=y)/\(((y*1)<=281474976710656)/\(y<=9223372036854775807))))) (zkf N s [] 0 (fun out=>some (zjd out))) none
def t_13 (N:Nat):Tab (List UInt8):=[([0,1,0,1,1],z1xc N)]
theorem z1jn (N:Nat)(x:z15 z12b):z4u (E_13 N) N (t_13 N) L_13 Tryd.f77 (mkS z12b 0 x) (z2l (.v .str) 1)=zcy N x.1:=by kernel_rfl
def zj5 (N:Nat):List A->Res:=zz z12b (fun x=>zcy N x.1) (z6n (.v .str) 1)
theorem zt9 (N:Nat):Contract Tryd.prog glob 77 (zj5 N) :=
 Contract.of (E:=E_13 N) (H:=t_13 N) (L:=L_13) (N:=N) (body:=z124) (K:=(z2l (.v .str) 1)) (z254 N) Tryd.func77 (by kernel_rfl) (by decide) (fun _ hb=>(TabOk.cons (z1sn hb) TabOk.nil)) (fun x y h=>by rw[z1jn];exact h) (z13 (s:=(.v .str)) (m:=1))
def ztl:Code:=(Tryd.f78.body).getD .skip
def L_14:List (List Nat×List Nat):=[([0],[0]),([0,1],[0,3]),([0,1,1],[0,3,4]),([0,0,1,1,1],[15,14,13,3,4]),([0,1,0,1,1,1],[15,14,13,3,4]),(z12l,[16,15,13,3,4,14]),(zzl,[15,13,3,4,14]),(z12o,[4]),(z16j,[3,6,4,5,15,14,13]),(z1mt,[8,3,6,4,5,15,14,13,7]),(z1lg,[27,3,6,4,5,15,14,13,7]),([1,0,1,1,0,0,1,1,0,0,1,0,1,1,1],[4,5,7,15,14,13,3]),([0,0,1,0,1,1,0,0,1,1,0,0,1,0,1,1,1],[3,6,7,4,5,15,14,13]),([1,0,1,0,1,1,0,0,1,1,0,0,1,0,1,1,1],[4,5,7,15,14,13,3]),([1,1,1,0,0,1,1,0,0,1,0,1,1,1],[15,14,13,3,4]),(z16f,[15,14,13,3,4]),(z16e,[15,14,13,3,4]),([1,0,1,1,1],[4]),([0,1,1,1,1],[2]),([1,1,1,1,1],[2])]
def z25k (N:Nat):Env:=z1c tys glob [] [(4,(.int .i64)),(2,(.int .i64))] [] [] false [] [(76,z7 N)]
theorem z253 (N:Nat):EnvOk Tryd.prog (z25k N):=zi mixed zn (FnsOk.nil) (ItsOk.cons (za N) (ItsOk.nil))
def zc7 (N:Nat)(classes:(Option (List ((List Int)×Int))))(b:(List Int))(i:Int)(key:(List Int))(class_:Int)(seen:Bool)(x13:(List (List Int)))(x14:Int)(x15:Int)(k0:(Option (List ((List Int)×Int)))->Int->Option (List Int)):Option (List Int):=cond (!seen) (cond (Option.isSome classes) (k0 (Option.some (ztz (eqD (T.arr 5 (T.int IntKind.u64))) key (List.length (Option.getD classes ([]:List ((List Int)×Int))):Int) (Option.getD classes ([]:List ((List Int)×Int))))) (List.length (Option.getD classes ([]:List ((List Int)×Int))):Int)) none) (k0 classes class_)
def z1zk (N:Nat)(x:z15 [(3,.ov (.mp (.arr 5 (.int .u64)) (.int .i64))),(0,.row (.int .i64)),(0,.v (.int .i64)),(0,.box (.arr 5 (.int .u64))),(0,.v (.int .i64)),(0,.v .bool),(4,.v (.sl (.arr 5 (.int .u64)))),(0,.v (.int .i64)),(0,.v (.int .i64))])(K:Ex->List A->Option (List Int)):Option (List Int):=zc7 N x.1 x.2.1 x.2.2.1 x.2.2.2.1 x.2.2.2.2.1 x.2.2.2.2.2.1 x.2.2.2.2.2.2.1 x.2.2.2.2.2.2.2.1 x.2.2.2.2.2.2.2.2.1 (fun a0 a3=>(K .normal (mkS [(3,.ov (.mp (.arr 5 (.int .u64)) (.int .i64))),(0,.row (.int .i64)),(0,.v (.int .i64)),(1,.v (.int .i64)),(5,.v (.sl (.arr 5 (.int .u64)))),(0,.v (.int .i64)),(0,.v (.int .i64))] 23 (a0,x.2.1,x.2.2.1,a3,x.2.2.2.2.2.2.1,x.2.2.2.2.2.2.2.1,x.2.2.2.2.2.2.2.2.1,()))))
def z1vf (N:Nat):Hd (List Int):=fun st K=>(unS [(3,.ov (.mp (.arr 5 (.int .u64)) (.int .i64))),(0,.row (.int .i64)),(0,.v (.int .i64)),(0,.box (.arr 5 (.int .u64))),(0,.v (.int .i64)),(0,.v .bool),(4,.v (.sl (.arr 5 (.int .u64)))),(0,.v (.int .i64)),(0,.v (.int .i64))] 23 (restr [8,3,6,4,5,15,14,13,7] 0 st)).bind fun x=>z1zk N x K
def t2_14 (N:Nat):Tab (List Int):=[]
theorem z1qq {N:Nat}{c:Ctx}(hb:Base Tryd.prog (z25k N) c):zj Tryd.prog c (zh ztl z1mu) (z1vf N) :=
 zk (s:=[(3,.ov (.mp (.arr 5 (.int .u64)) (.int .i64))),(0,.row (.int .i64)),(0,.v (.int .i64)),(0,.box (.arr 5 (.int .u64))),(0,.v (.int .i64)),(0,.v .bool),(4,.v (.sl (.arr 5 (.int .u64)))),(0,.v (.int .i64)),(0,.v (.int .i64))]) (m:=23) (g:=z1zk N) [8,3,6,4,5,15,14,13,7] (zd hb N (t2_14 N) L_14 ztl TabOk.nil z1mu _ rfl) (fun x K=>by kernel_rfl)
def z85 (N:Nat)(x13:(List (List Int)))(x14:Int)(classes:(Option (List ((List Int)×Int))))(b:(List Int))(x15:Int)(rec:(Option (List ((List Int)×Int)))->(List Int)->Int->Option (List Int))(k0:(List Int)->Option (List Int)):Option (List Int):=cond (decide (x15<x14)) (cond (inR x15 (List.length x13)) (zc7 N classes b x15 (List.getD x13 (Int.toNat x15) []) (Option.getD (z5g (eqD (T.arr 5 (T.int IntKind.u64))) (List.getD x13 (Int.toNat x15) []) (Option.getD classes ([]:List ((List Int)×Int)))) 0) (Option.isSome (z5g (eqD (T.arr 5 (T.int IntKind.u64))) (List.getD x13 (Int.toNat x15) []) (Option.getD classes ([]:List ((List Int)×Int))))) x13 x14 x15 (fun classes1 class_=>cond (inR x15 (List.length b)) (cond (decide ((Int.toNat x15)<(List.length b))) (rec classes1 (List.set b (Int.toNat x15) class_) (IntKind.wrap IntKind.i64 (x15+1))) none) none)) none) (k0 b)
def zhj (N:Nat)(classes:(Option (List ((List Int)×Int))))(b:(List Int))(x13:(List (List Int)))(x14:Int)(x15:Int)(k0:(List Int)->Option (List Int)):Option (List Int):=iter (fun (v:((Option (List ((List Int)×Int)))×(List Int)×Int)) r=>z85 N x13 x14 v.1 v.2.1 v.2.2 (fun classes b x15=>(r (classes,b,x15))) k0) N (classes,b,x15)
def z21g (N:Nat)(i:((List (List Int))×Int))(v:((Option (List ((List Int)×Int)))×(List Int)×Int))(r:((Option (List ((List Int)×Int)))×(List Int)×Int)->Option (List Int))(K:Ex->List A->Option (List Int)):Option (List Int):=z85 N i.1 i.2 v.1 v.2.1 v.2.2 (fun classes b x15=>(r (classes,b,x15))) (fun a0=>(K (.exit 0) (mkS [(4,.row (.int .i64))] 34 (a0,()))))
def z1xb (N:Nat):Hd (List Int):=fun st K=>(unS [(3,.ov (.mp (.arr 5 (.int .u64)) (.int .i64))),(0,.row (.int .i64)),(8,.v (.sl (.arr 5 (.int .u64)))),(0,.v (.int .i64)),(0,.v (.int .i64))] 23 (restr [15,14,13,3,4] 0 st)).bind fun x=>iter (fun v r=>z21g N ((fun x=>(x.2.2.1,x.2.2.2.1)) x) v r K) N ((fun x=>(x.1,x.2.1,x.2.2.2.2.1)) x)
def t1_14 (N:Nat):Tab (List Int):=[(z1mu,z1vf N)]
theorem z1sm {N:Nat}{c:Ctx}(hb:Base Tryd.prog (z25k N) c):zj Tryd.prog c (zh ztl [0,1,0,1,1,1]) (z1xb N) :=
 zu (s:=[(3,.ov (.mp (.arr 5 (.int .u64)) (.int .i64))),(0,.row (.int .i64)),(8,.v (.sl (.arr 5 (.int .u64)))),(0,.v (.int .i64)),(0,.v (.int .i64))]) (m:=23) (z21g N) [15,14,13,3,4] N (fun x=>(x.2.2.1,x.2.2.2.1)) (fun x=>(x.1,x.2.1,x.2.2.2.2.1)) (fun i v=>(v.1,v.2.1,i.1,i.2,v.2.2,())) (fun _=>rfl) (zd hb N (t1_14 N) L_14 ztl (TabOk.cons (z1qq hb) TabOk.nil) zzc _ rfl) (fun i v r K=>by kernel_rfl)
def z43 (N:Nat)(keys:(List (List Int))):Option (List Int):=cond (decide ((0<=(List.length keys:Int))/\(((List.length keys:Int)<=(List.length keys:Int))/\((((List.length keys:Int)*8)<=281474976710656)/\((List.length keys:Int)<=9223372036854775807))))) (zhj N (Option.some ([]:List ((List Int)×Int))) (List.replicate (Int.toNat (List.length keys:Int)) 0) keys (List.length keys:Int) 0 (fun b=>some b)) none
def t_14 (N:Nat):Tab (List Int):=[([0,1,0,1,1,1],z1xb N)]
theorem z1jm (N:Nat)(x:z15 [(0,.v (.sl (.arr 5 (.int .u64))))]):z4u (z25k N) N (t_14 N) L_14 Tryd.f78 (mkS [(0,.v (.sl (.arr 5 (.int .u64))))] 0 x) (z2l (.v (.sl (.int .i64))) 1)=z43 N x.1:=by kernel_rfl
def zge (N:Nat):List A->Res:=zz [(0,.v (.sl (.arr 5 (.int .u64))))] (fun x=>z43 N x.1) (z6n (.v (.sl (.int .i64))) 1)
theorem zpn (N:Nat):Contract Tryd.prog glob 78 (zge N) :=
 Contract.of (E:=z25k N) (H:=t_14 N) (L:=L_14) (N:=N) (body:=ztl) (K:=(z2l (.v (.sl (.int .i64))) 1)) (z253 N) Tryd.func78 (by kernel_rfl) (by decide) (fun _ hb=>(TabOk.cons (z1sm hb) TabOk.nil)) (fun x y h=>by rw[z1jm];exact h) (z13 (s:=(.v (.sl (.int .i64)))) (m:=1))
def zn6:Code:=(Tryd.f65.body).getD .skip
def z22p:List (List Nat×List Nat):=[([0],[0,1]),([0,1],[0,5,1]),([0,0,1,1],[15,14,13,5,1]),([0,1,0,1,1],[15,14,13,5,1]),(z14g,[16,15,13,5,14,1]),(zqy,[15,13,5,14,1]),(z1a5,[1,5]),(z1a6,[5,6,7,15,14,13,1]),(z16h,[15,14,13,5,1]),(z1a4,[15,14,13,5,1]),(z1a3,[15,14,13,5,1]),([1,0,1,1],[1,5]),([0,0,1,1,1],[29,28,27,5]),([0,1,0,1,1,1],[29,28,27,5]),(z12l,[30,29,27,5,28]),(zzl,[29,27,5,28]),(z12o,[5]),(z16j,[9,5,8,29,28,27]),(z1mt,z12n),(z1mu,z12n),([0,0,0,1,1,0,0,1,1,0,0,1,0,1,1,1],[39,36,38,5,8,37,29,28,27]),([0,1,0,0,1,1,0,0,1,1,0,0,1,0,1,1,1],[36,38,5,8,37,29,28,27]),([1,0,1,0,0,1,1,0,0,1,1,0,0,1,0,1,1,1],[29,28,27,5]),([0,0,0,1,1,0,0,1,1,0,0,1,1,0,0,1,0,1,1,1],[5,11,8,38,37,36,29,28,27]),([1,0,0,1,1,0,0,1,1,0,0,1,1,0,0,1,0,1,1,1],z12n),([0,1,1,0,0,1,1,0,0,1,1,0,0,1,0,1,1,1],z12n),([1,1,1,0,0,1,1,0,0,1,1,0,0,1,0,1,1,1],z12n),([1,1,0,0,1,1,0,0,1,0,1,1,1],[29,28,27,5]),(z16f,[29,28,27,5]),(z16e,[29,28,27,5]),([1,0,1,1,1],[5]),([0,1,1,1,1],[4]),([1,1,1,1,1],[4])]
def z1n8 (N:Nat):Env:=z1c tys glob [(78,zge N),(77,zj5 N)] [(5,(.arr 5 (.int .u64))),(4,(.int .i64))] [] [] false [] [(76,z7 N)]
theorem z252 (N:Nat):EnvOk Tryd.prog (z1n8 N):=zi mixed zn (FnsOk.cons (zpn N) (FnsOk.cons (zt9 N) (FnsOk.nil))) (ItsOk.cons (za N) (ItsOk.nil))
def zb2 (N:Nat)(sets:(List (List Int)))(x13:(List Int))(x14:Int)(traits:(List (List Int)))(x15:Int)(rec:(List (List Int))->Int->Option (List Int))(k0:(List (List Int))->Option (List Int)):Option (List Int):=cond (decide (x15<x14)) (cond (inR x15 (List.length x13)) (cond (inR x15 (List.length traits)) (cond (z1v (decide ((Int.toNat x15)<(List.length traits))) (decide (0<(List.length (List.getD traits (Int.toNat x15) []))))) (rec (List.set traits (Int.toNat x15) (List.set (List.getD traits (Int.toNat x15) []) 0 (IntKind.wrap IntKind.u64 (List.getD x13 (Int.toNat x15) 0)))) (IntKind.wrap IntKind.i64 (x15+1))) none) none) none) (k0 traits)
def zfj (N:Nat)(sets:(List (List Int)))(traits:(List (List Int)))(x13:(List Int))(x14:Int)(x15:Int)(k0:(List (List Int))->Option (List Int)):Option (List Int):=iter (fun (v:((List (List Int))×Int)) r=>zb2 N sets x13 x14 v.1 v.2 (fun traits x15=>(r (traits,x15))) k0) N (traits,x15)
def z21f (N:Nat)(i:((List (List Int))×(List Int)×Int))(v:((List (List Int))×Int))(r:((List (List Int))×Int)->Option (List Int))(K:Ex->List A->Option (List Int)):Option (List Int):=zb2 N i.1 i.2.1 i.2.2 v.1 v.2 (fun traits x15=>(r (traits,x15))) (fun a1=>(K (.exit 0) (mkS [(1,.v (.sl (.arr 4 (.int .u64)))),(3,.row (.arr 5 (.int .u64)))] 54 (i.1,a1,()))))
def z1xa (N:Nat):Hd (List Int):=fun st K=>(unS SQ81 44 (restr [15,14,13,5,1] 0 st)).bind fun x=>iter (fun v r=>z21f N ((fun x=>(x.1,x.2.2.1,x.2.2.2.1)) x) v r K) N ((fun x=>(x.2.1,x.2.2.2.2.1)) x)
def t1_15 (N:Nat):Tab (List Int):=[]
theorem z1sl {N:Nat}{c:Ctx}(hb:Base Tryd.prog (z1n8 N) c):zj Tryd.prog c (zh zn6 [0,1,0,1,1]) (z1xa N) :=
 zu (s:=SQ81) (m:=44) (z21f N) [15,14,13,5,1] N (fun x=>(x.1,x.2.2.1,x.2.2.2.1)) (fun x=>(x.2.1,x.2.2.2.2.1)) (fun i v=>(i.1,v.1,i.2.1,i.2.2,v.2,())) (fun _=>rfl) (zd hb N (t1_15 N) z22p zn6 TabOk.nil [0,0,1,0,1,1] _ rfl) (fun i v r K=>by kernel_rfl)
def zb0 (N:Nat)(i:Int)(x27:(List (List Int)))(x28:Int)(x29:Int)(x36:(List Int))(x37:Int)(traits:(List (List Int)))(x38:Int)(rec:(List (List Int))->Int->Option (List Int))(k0:(List (List Int))->Option (List Int)):Option (List Int):=cond (decide (x38<x37)) (cond (inR x38 (List.length x36)) (cond (decide ((Int.toNat x38)<(List.length x36))) (cond (inR (List.getD x36 (Int.toNat x38) 0) (List.length traits)) (cond (inR (IntKind.wrap IntKind.i64 (1+(IntKind.wrap IntKind.i64 (Int.tdiv i 64)))) 5) (cond (z1v (decide ((Int.toNat (List.getD x36 (Int.toNat x38) 0))<(List.length traits))) (decide ((Int.toNat (IntKind.wrap IntKind.i64 (1+(IntKind.wrap IntKind.i64 (Int.tdiv i 64)))))<(List.length (List.getD traits (Int.toNat (List.getD x36 (Int.toNat x38) 0)) []))))) (cond (decide (0<=(Int.tmod i 64))) (cond (inR (List.getD x36 (Int.toNat x38) 0) (List.length traits)) (cond (inR (IntKind.wrap IntKind.i64 (1+(IntKind.wrap IntKind.i64 (Int.tdiv i 64)))) 5) (cond (z1v (decide ((Int.toNat (List.getD x36 (Int.toNat x38) 0))<(List.length traits))) (decide ((Int.toNat (IntKind.wrap IntKind.i64 (1+(IntKind.wrap IntKind.i64 (Int.tdiv i 64)))))<(List.length (List.getD traits (Int.toNat (List.getD x36 (Int.toNat x38) 0)) []))))) (rec (List.set traits (Int.toNat (List.getD x36 (Int.toNat x38) 0)) (List.set (List.getD traits (Int.toNat (List.getD x36 (Int.toNat x38) 0)) []) (Int.toNat (IntKind.wrap IntKind.i64 (1+(IntKind.wrap IntKind.i64 (Int.tdiv i 64))))) (ze Go.BinOp.or IntKind.u64 (List.getD (List.getD traits (Int.toNat (List.getD x36 (Int.toNat x38) 0)) []) (Int.toNat (IntKind.wrap IntKind.i64 (1+(IntKind.wrap IntKind.i64 (Int.tdiv i 64))))) 0) (z17a IntKind.u64 1 (Int.tmod i 64))))) (IntKind.wrap IntKind.i64 (x38+1))) none) none) none) none) none) none) none) none) none) (k0 traits)
def zfi (N:Nat)(traits:(List (List Int)))(i:Int)(x27:(List (List Int)))(x28:Int)(x29:Int)(x36:(List Int))(x37:Int)(x38:Int)(k0:(List (List Int))->Option (List Int)):Option (List Int):=iter (fun (v:((List (List Int))×Int)) r=>zb0 N i x27 x28 x29 x36 x37 v.1 v.2 (fun traits x38=>(r (traits,x38))) k0) N (traits,x38)
def z1yo (N:Nat)(i:(Int×(List (List Int))×Int×Int×(List Int)×Int))(v:((List (List Int))×Int))(r:((List (List Int))×Int)->Option (List Int))(K:Ex->List A->Option (List Int)):Option (List Int):=zb0 N i.1 i.2.1 i.2.2.1 i.2.2.2.1 i.2.2.2.2.1 i.2.2.2.2.2 v.1 v.2 (fun traits x38=>(r (traits,x38))) (fun a0=>(K (.exit 4) (mkS [(5,.row (.arr 5 (.int .u64))),(21,.v (.sl (.arr 4 (.int .u64)))),(0,.v (.int .i64)),(0,.v (.int .i64))] 30 (a0,i.2.1,i.2.2.1,i.2.2.2.1,()))))
def z1uj (N:Nat):Hd (List Int):=fun st K=>(unS [(5,.row (.arr 5 (.int .u64))),(2,.v (.int .i64)),(18,.v (.sl (.arr 4 (.int .u64)))),(0,.v (.int .i64)),(0,.v (.int .i64)),(6,.row (.int .u8)),(0,.v (.int .i64)),(0,.v (.int .i64))] 21 (restr z12n 0 st)).bind fun x=>iter (fun v r=>z1yo N ((fun x=>(x.2.1,x.2.2.1,x.2.2.2.1,x.2.2.2.2.1,x.2.2.2.2.2.1,x.2.2.2.2.2.2.1)) x) v r K) N ((fun x=>(x.1,x.2.2.2.2.2.2.2.1)) x)
def t3_15 (N:Nat):Tab (List Int):=[]
theorem z1pu {N:Nat}{c:Ctx}(hb:Base Tryd.prog (z1n8 N) c):zj Tryd.prog c (zh zn6 z1mu) (z1uj N) :=
 zu (s:=[(5,.row (.arr 5 (.int .u64))),(2,.v (.int .i64)),(18,.v (.sl (.arr 4 (.int .u64)))),(0,.v (.int .i64)),(0,.v (.int .i64)),(6,.row (.int .u8)),(0,.v (.int .i64)),(0,.v (.int .i64))]) (m:=21) (z1yo N) z12n N (fun x=>(x.2.1,x.2.2.1,x.2.2.2.1,x.2.2.2.2.1,x.2.2.2.2.2.1,x.2.2.2.2.2.2.1)) (fun x=>(x.1,x.2.2.2.2.2.2.2.1)) (fun i v=>(v.1,i.1,i.2.1,i.2.2.1,i.2.2.2.1,i.2.2.2.2.1,i.2.2.2.2.2,v.2,())) (fun _=>rfl) (zd hb N (t3_15 N) z22p zn6 TabOk.nil z1lg _ rfl) (fun i v r K=>by kernel_rfl)
def zb1 (N:Nat)(x27:(List (List Int)))(x28:Int)(traits:(List (List Int)))(x29:Int)(rec:(List (List Int))->Int->Option (List Int))(k0:(List (List Int))->Option (List Int)):Option (List Int):=cond (decide (x29<x28)) (cond (inR x29 (List.length x27)) ((zcy N (List.getD x27 (Int.toNat x29) [])).bind fun y=>zfi N traits x29 x27 x28 x29 (zh6 y) (List.length (zh6 y):Int) 0 (fun traits1=>rec traits1 (IntKind.wrap IntKind.i64 (x29+1)))) none) (k0 traits)
def zb3 (N:Nat)(traits:(List (List Int)))(x27:(List (List Int)))(x28:Int)(x29:Int)(k0:(List (List Int))->Option (List Int)):Option (List Int):=iter (fun (v:((List (List Int))×Int)) r=>zb1 N x27 x28 v.1 v.2 (fun traits x29=>(r (traits,x29))) k0) N (traits,x29)
def z1zj (N:Nat)(i:((List (List Int))×Int))(v:((List (List Int))×Int))(r:((List (List Int))×Int)->Option (List Int))(K:Ex->List A->Option (List Int)):Option (List Int):=zb1 N i.1 i.2 v.1 v.2 (fun traits x29=>(r (traits,x29))) (fun a0=>(K (.exit 2) (mkS [(5,.row (.arr 5 (.int .u64)))] 54 (a0,()))))
def z1ve (N:Nat):Hd (List Int):=fun st K=>(unS [(5,.row (.arr 5 (.int .u64))),(21,.v (.sl (.arr 4 (.int .u64)))),(0,.v (.int .i64)),(0,.v (.int .i64))] 30 (restr [29,28,27,5] 0 st)).bind fun x=>iter (fun v r=>z1zj N ((fun x=>(x.2.1,x.2.2.1)) x) v r K) N ((fun x=>(x.1,x.2.2.2.1)) x)
def t2_15 (N:Nat):Tab (List Int):=[(z1mu,z1uj N)]
theorem z1qp {N:Nat}{c:Ctx}(hb:Base Tryd.prog (z1n8 N) c):zj Tryd.prog c (zh zn6 [0,1,0,1,1,1]) (z1ve N) :=
 zu (s:=[(5,.row (.arr 5 (.int .u64))),(21,.v (.sl (.arr 4 (.int .u64)))),(0,.v (.int .i64)),(0,.v (.int .i64))]) (m:=30) (z1zj N) [29,28,27,5] N (fun x=>(x.2.1,x.2.2.1)) (fun x=>(x.1,x.2.2.2.1)) (fun i v=>(v.1,i.1,i.2,v.2,())) (fun _=>rfl) (zd hb N (t2_15 N) z22p zn6 (TabOk.cons (z1pu hb) TabOk.nil) zzc _ rfl) (fun i v r K=>by kernel_rfl)
def zcz (N:Nat)(b:(List Int))(sets:(List (List Int))):Option (List Int):=zfj N sets (List.replicate 256 ([0,0,0,0,0]:List Int)) b (List.length b:Int) 0 (fun traits=>zb3 N traits sets (List.length sets:Int) 0 (fun traits1=>(z43 N traits1).bind fun y=>some y))
def t_15 (N:Nat):Tab (List Int):=[([0,1,0,1,1],z1xa N),([0,1,0,1,1,1],z1ve N)]
theorem z1jl (N:Nat)(x:z15 z1l6):z4u (z1n8 N) N (t_15 N) z22p Tryd.f65 (mkS z1l6 0 x) (z2l (.v (.sl (.int .i64))) 2)=zcz N x.1 x.2.1:=by kernel_rfl
def zj9 (N:Nat):List A->Res:=zz z1l6 (fun x=>zcz N x.1 x.2.1) (z6n (.v (.sl (.int .i64))) 2)
theorem ztm (N:Nat):Contract Tryd.prog glob 65 (zj9 N) :=
 Contract.of (E:=z1n8 N) (H:=t_15 N) (L:=z22p) (N:=N) (body:=zn6) (K:=(z2l (.v (.sl (.int .i64))) 2)) (z252 N) Tryd.func65 (by kernel_rfl) (by decide) (fun _ hb=>(TabOk.cons (z1sl hb) (TabOk.cons (z1qp hb) TabOk.nil))) (fun x y h=>by rw[z1jl];exact h) (z13 (s:=(.v (.sl (.int .i64)))) (m:=2))
def zx3:Code:=(Tryd.f42.body).getD .skip
def L_16:List (List Nat×List Nat):=[([0],[0]),([0,1],[0,3]),([0,0,1,1],[7,3]),([0,1,0,1,1],[3]),([0,0,1,0,1,1],[3,4]),([0,1,0,1,0,1,1],[3]),([1,0,1,0,1,1],[3]),([1,0,1,1],[3]),([0,1,1,1],[2]),([1,1,1,1],[2])]
def z25j (N:Nat):Env:=z1c tys glob [(65,zj9 N),(64,ziw N)] [(4,(.arr 4 (.int .u64))),(2,(.int .i64))] [] [] false [] [(76,z7 N)]
theorem z251 (N:Nat):EnvOk Tryd.prog (z25j N):=zi mixed zn (FnsOk.cons (ztm N) (FnsOk.cons (zrn N) (FnsOk.nil))) (ItsOk.cons (za N) (ItsOk.nil))
def zki (N:Nat)(b_1:(List Int))(y:((List (List Int))×Unit))(rec:(List Int)->Option (List Int))(k0:(List Int)->Option (List Int)):Option (List Int):=(zcz N b_1 y.1).bind fun y1=>rec y1
def zc9 (N:Nat)(b:(List Int))(x7:((List (List Int))×(Int×Unit))):Option (List ((List (List Int))×Unit)):=(zab N x7.1 x7.2.1)
def zkj (N:Nat)(b:(List Int))(x7:((List (List Int))×(Int×Unit))):Unit:=()
def zqj (N:Nat)(b:(List Int))(x7:((List (List Int))×(Int×Unit))):(List Int):=b
def zqk (N:Nat)(b:(List Int))(x7:((List (List Int))×(Int×Unit)))(k0:(List Int)->Option (List Int)):Option (List Int):=(zc9 N b x7).bind fun ys=>z10j (fun (y:((List (List Int))×Unit)) (v:(List Int)) r=>zki N v y (fun b_1=>(r b_1)) k0) (fun (v:(List Int))=>k0 v) ys b
def z21e (N:Nat)(y:((List (List Int))×Unit))(i:Unit)(v:(List Int))(r:(List Int)->Option (List Int))(K:Ex->List A->Option (List Int)):Option (List Int):=zki N v y (fun b_1=>(r b_1)) (fun a0=>(K .normal (mkS [(3,.box (.sl (.int .i64)))] 9 (a0,()))))
def z1x9 (N:Nat):Hd (List Int):=fun st K=>(unS [(3,.box (.sl (.int .i64))),(3,.v (.fn 76 (.pair (.ptr (.sl (.arr 4 (.int .u64)))) (.pair (.ptr (.int .i64)) .unit))))] 5 (restr [7,3] 0 st)).bind fun x=>((fun x=>zc9 N x.1 x.2.1) x).bind fun xs=>z10j (fun y v r=>z21e N y ((fun x=>zkj N x.1 x.2.1) x) v r K) (fun v=>K .normal (mkS [(3,.box (.sl (.int .i64)))] 9 ((fun i v=>(v,())) ((fun x=>zkj N x.1 x.2.1) x) v))) xs ((fun x=>zqj N x.1 x.2.1) x)
theorem z1sk {N:Nat}{c:Ctx}(hb:Base Tryd.prog (z25j N) c):zj Tryd.prog c (zh zx3 [0,1,0,1,1]) (z1x9 N) :=
 rf_ok (ts:=[(.sl (.arr 4 (.int .u64)))]) (s:=[(3,.box (.sl (.int .i64))),(3,.v (.fn 76 (.pair (.ptr (.sl (.arr 4 (.int .u64)))) (.pair (.ptr (.int .i64)) .unit))))]) (m:=5) (s2:=[(3,.box (.sl (.int .i64)))]) (m2:=9) [7,3] (fun x=>zc9 N x.1 x.2.1) (fun x=>zkj N x.1 x.2.1) (fun x=>zqj N x.1 x.2.1) (fun i v=>(v,())) (rfF (z25j N) N [(.sl (.arr 4 (.int .u64)))] (zh zx3 [0,1,0,1,1])) (z21e N) (zd hb N [] L_16 zx3 TabOk.nil [0,1,0,1,1] _ rfl) (fun x K=>by kernel_rfl) (fun y i v r K=>by kernel_rfl)
def zb5 (N:Nat)(sets:(List (List Int))):Option (List Int):=zqk N (List.replicate 256 0) (sets,(256,())) (fun b_1=>some b_1)
def t_16 (N:Nat):Tab (List Int):=[([0,1,0,1,1],z1x9 N)]
theorem z1jk (N:Nat)(x:z15 z165):z4u (z25j N) N (t_16 N) L_16 Tryd.f42 (mkS z165 0 x) (z2l (.v (.sl (.int .i64))) 1)=zb5 N x.1:=by kernel_rfl
def zod (N:Nat):List A->Res:=zz z165 (fun x=>zb5 N x.1) (z6n (.v (.sl (.int .i64))) 1)
theorem zql (N:Nat):Contract Tryd.prog glob 42 (zod N) :=
 Contract.of (E:=z25j N) (H:=t_16 N) (L:=L_16) (N:=N) (body:=zx3) (K:=(z2l (.v (.sl (.int .i64))) 1)) (z251 N) Tryd.func42 (by kernel_rfl) (by decide) (fun _ hb=>(TabOk.cons (z1sk hb) TabOk.nil)) (fun x y h=>by rw[z1jk];exact h) (z13 (s:=(.v (.sl (.int .i64)))) (m:=1))
def zfh:Code:=(Tryd.f20.body).getD .skip
def z1lp:List (List Nat×List Nat):=[([0],[0]),([0,0,1],[14,0]),([1,0,1],[0]),([0,0,1,0,1],[2]),([1,0,1,0,1],[2]),([0,1,1],[0,3]),([0,0,1,1,1],[17,16,15,3]),([0,1,0,1,1,1],[17,16,15,3]),(z12l,[18,15,17,3,16]),(zzl,[15,17,3,16]),(z12o,[]),(z16j,[5,3,17,16,15]),(z1dk,[28,3,5,17,16,15]),([1,0,1,0,0,1,1,0,0,1,0,1,1,1],[3,5,17,16,15]),([0,0,1,0,1,0,0,1,1,0,0,1,0,1,1,1],[2]),([1,0,1,0,1,0,0,1,1,0,0,1,0,1,1,1],[2]),([1,1,0,0,1,1,0,0,1,0,1,1,1],[17,16,15,3]),(z16f,[17,16,15,3]),(z16e,[17,16,15,3]),([1,0,1,1,1],[]),([0,1,1,1,1],[2]),([1,1,1,1,1],[2])]
def z1fj (N:Nat):Env:=z1c tys glob [] [] [] [] false [] [(76,z7 N)]
theorem z250 (N:Nat):EnvOk Tryd.prog (z1fj N):=zi mixed zn (FnsOk.nil) (ItsOk.cons (za N) (ItsOk.nil))
def zfm (N:Nat)(b:(List Int))(k0:Bool->Option Bool):Option Bool:=cond ((List.length b:Int) != 256) (k0 true) (cond (inR 0 (List.length b)) (k0 ((List.getD b 0 0) != 0)) none)
def z1zi (N:Nat)(x:z15 zof)(K:Ex->List A->Option Bool):Option Bool:=zfm N x.1 (fun a1=>(K .normal (mkS [(0,.v (.sl (.int .i64))),(13,.v .bool)] 18 (x.1,a1,()))))
def z1vd (N:Nat):Hd Bool:=fun st K=>(unS zof 32 (restr [0] 0 st)).bind fun x=>z1zi N x K
def t2_17 (N:Nat):Tab Bool:=[]
theorem z1qo {N:Nat}{c:Ctx}(hb:Base Tryd.prog (z1fj N) c):zj Tryd.prog c (zh zfh [0,0,1]) (z1vd N) :=
 zk (s:=zof) (m:=32) (g:=z1zi N) [0] (zd hb N (t2_17 N) z1lp zfh TabOk.nil [0,0,1] _ rfl) (fun x K=>by kernel_rfl)
def zfn (N:Nat)(b:(List Int))(k0:Bool->Option Bool)(k1:Option Bool):Option Bool:=zfm N b (fun x14=>cond x14 (k0 false) k1)
def z21d (N:Nat)(x:z15 zof)(K:Ex->List A->Option Bool):Option Bool:=zfn N x.1 (fun a0=>(K .ret (mkS [(2,.v .bool)] 30 (a0,())))) (K .normal (mkS zof 32 (x.1,())))
def z1x8 (N:Nat):Hd Bool:=fun st K=>(unS zof 32 (restr [0] 0 st)).bind fun x=>z21d N x K
def t1_17 (N:Nat):Tab Bool:=[([0,0,1],z1vd N)]
theorem z1sj {N:Nat}{c:Ctx}(hb:Base Tryd.prog (z1fj N) c):zj Tryd.prog c (zh zfh [0,1]) (z1x8 N) :=
 zk (s:=zof) (m:=32) (g:=z21d N) [0] (zd hb N (t1_17 N) z1lp zfh (TabOk.cons (z1qo hb) TabOk.nil) [0,1] _ rfl) (fun x K=>by kernel_rfl)
def zfk (N:Nat)(most:Int)(class_:Int)(x15:(List Int))(x16:Int)(x17:Int)(k0:Bool->Option Bool):Option Bool:=cond (decide (class_<0)) (k0 true) (k0 (decide ((IntKind.wrap IntKind.i64 (most+1))<class_)))
def z1xs (N:Nat)(x:z15 z1ky)(K:Ex->List A->Option Bool):Option Bool:=zfk N x.1 x.2.1 x.2.2.1 x.2.2.2.1 x.2.2.2.2.1 (fun a5=>(K .normal (mkS [(3,.v (.int .i64)),(1,.v (.int .i64)),(9,.v (.sl (.int .i64))),(0,.v (.int .i64)),(0,.v (.int .i64)),(10,.v .bool)] 4 (x.1,x.2.1,x.2.2.1,x.2.2.2.1,x.2.2.2.2.1,a5,()))))
def z1tn (N:Nat):Hd Bool:=fun st K=>(unS z1ky 15 (restr [5,3,17,16,15] 0 st)).bind fun x=>z1xs N x K
def t5_17 (N:Nat):Tab Bool:=[]
theorem z1oy {N:Nat}{c:Ctx}(hb:Base Tryd.prog (z1fj N) c):zj Tryd.prog c (zh zfh z1dk) (z1tn N) :=
 zk (s:=z1ky) (m:=15) (g:=z1xs N) [5,3,17,16,15] (zd hb N (t5_17 N) z1lp zfh TabOk.nil z1dk _ rfl) (fun x K=>by kernel_rfl)
def zfl (N:Nat)(most:Int)(class_:Int)(x15:(List Int))(x16:Int)(x17:Int)(k0:Bool->Option Bool)(k1:Option Bool):Option Bool:=zfk N most class_ x15 x16 x17 (fun x28=>cond x28 (k0 false) k1)
def z1y4 (N:Nat)(x:z15 z1ky)(K:Ex->List A->Option Bool):Option Bool:=zfl N x.1 x.2.1 x.2.2.1 x.2.2.2.1 x.2.2.2.2.1 (fun a0=>(K .ret (mkS [(2,.v .bool)] 30 (a0,())))) (K .normal (mkS z1ky 15 (x.1,x.2.1,x.2.2.1,x.2.2.2.1,x.2.2.2.2.1,())))
def z1tz (N:Nat):Hd Bool:=fun st K=>(unS z1ky 15 (restr [5,3,17,16,15] 0 st)).bind fun x=>z1y4 N x K
def t4_17 (N:Nat):Tab Bool:=[(z1dk,z1tn N)]
theorem z1pa {N:Nat}{c:Ctx}(hb:Base Tryd.prog (z1fj N) c):zj Tryd.prog c (zh zfh z1mt) (z1tz N) :=
 zk (s:=z1ky) (m:=15) (g:=z1y4 N) [5,3,17,16,15] (zd hb N (t4_17 N) z1lp zfh (TabOk.cons (z1oy hb) TabOk.nil) z1mt _ rfl) (fun x K=>by kernel_rfl)
def zb4 (N:Nat)(x15:(List Int))(x16:Int)(most:Int)(x17:Int)(rec:Int->Int->Option Bool)(k0:Bool->Option Bool)(k1:Option Bool):Option Bool:=cond (decide (x17<x16)) (cond (inR x17 (List.length x15)) (zfl N most (List.getD x15 (Int.toNat x17) 0) x15 x16 x17 (fun x2=>k0 x2) (rec (if ((List.getD x15 (Int.toNat x17) 0) > most) then (List.getD x15 (Int.toNat x17) 0) else most) (IntKind.wrap IntKind.i64 (x17+1)))) none) k1
def zkh (N:Nat)(most:Int)(x15:(List Int))(x16:Int)(x17:Int)(k0:Bool->Option Bool)(k1:Option Bool):Option Bool:=iter (fun (v:(Int×Int)) r=>zb4 N x15 x16 v.1 v.2 (fun most x17=>(r (most,x17))) k0 k1) N (most,x17)
def z1yn (N:Nat)(i:((List Int)×Int))(v:(Int×Int))(r:(Int×Int)->Option Bool)(K:Ex->List A->Option Bool):Option Bool:=zb4 N i.1 i.2 v.1 v.2 (fun most x17=>(r (most,x17))) (fun a0=>(K .ret (mkS [(2,.v .bool)] 30 (a0,())))) (K (.exit 0) (mkS [] 33 ()))
def z1ui (N:Nat):Hd Bool:=fun st K=>(unS z220 15 (restr [17,16,15,3] 0 st)).bind fun x=>iter (fun v r=>z1yn N ((fun x=>(x.2.1,x.2.2.1)) x) v r K) N ((fun x=>(x.1,x.2.2.2.1)) x)
def t3_17 (N:Nat):Tab Bool:=[(z1mt,z1tz N)]
theorem z1pt {N:Nat}{c:Ctx}(hb:Base Tryd.prog (z1fj N) c):zj Tryd.prog c (zh zfh [0,1,0,1,1,1]) (z1ui N) :=
 zu (s:=z220) (m:=15) (z1yn N) [17,16,15,3] N (fun x=>(x.2.1,x.2.2.1)) (fun x=>(x.1,x.2.2.2.1)) (fun i v=>(v.1,i.1,i.2,v.2,())) (fun _=>rfl) (zd hb N (t3_17 N) z1lp zfh (TabOk.cons (z1pa hb) TabOk.nil) zzc _ rfl) (fun i v r K=>by kernel_rfl)
def z7p (N:Nat)(b:(List Int)):Option Bool:=zfn N b (fun x2=>some x2) (zkh N 0 b (List.length b:Int) 0 (fun x21=>some x21) (some true))
def t_17 (N:Nat):Tab Bool:=[([0,1],z1x8 N),([0,1,0,1,1,1],z1ui N)]
theorem z1jj (N:Nat)(x:z15 zof):z4u (z1fj N) N (t_17 N) z1lp Tryd.f20 (mkS zof 0 x) (z2l (.v .bool) 1)=z7p N x.1:=by kernel_rfl
def z9d (N:Nat):List A->Res:=zz zof (fun x=>z7p N x.1) (z6n (.v .bool) 1)
theorem zfo (N:Nat):Contract Tryd.prog glob 20 (z9d N) :=
 Contract.of (E:=z1fj N) (H:=t_17 N) (L:=z1lp) (N:=N) (body:=zfh) (K:=(z2l (.v .bool) 1)) (z250 N) Tryd.func20 (by kernel_rfl) (by decide) (fun _ hb=>(TabOk.cons (z1sj hb) (TabOk.cons (z1pt hb) TabOk.nil))) (fun x y h=>by rw[z1jj];exact h) (z13 (s:=(.v .bool)) (m:=1))
def ztk:Code:=(Tryd.f43.body).getD .skip
def L_18:List (List Nat×List Nat):=[([0],[0]),([0,0,1],[7,0]),([1,0,1],[0]),([0,1,0,1],[0]),([0,1,1],[0,3]),([0,0,1,1,1],[4,0,3]),([0,1,0,1,1,1],[4,0,3]),(z1de,[15,3,0,4]),(z1dd,[3,0,4]),(z1di,[3]),([0,0,1,0,0,1,0,1,1,1],[4,0,3]),(zzl,[4,0,3]),(z1dc,[4,0,3]),([1,0,1,1,1],[3]),([0,1,1,1,1],[2]),([1,1,1,1,1],[2])]
def z25i (N:Nat):Env:=z1c tys glob [] [] [] [] false [] [(76,z7 N)]
theorem z24z (N:Nat):EnvOk Tryd.prog (z25i N):=zi mixed zn (FnsOk.nil) (ItsOk.cons (za N) (ItsOk.nil))
def z7b (N:Nat)(x0:(List Int))(k0:Option Int):Option Int:=cond (decide ((List.length x0:Int)<1)) none k0
def z21c (N:Nat)(x:z15 zof)(K:Ex->List A->Option Int):Option Int:=z7b N x.1 (K .normal (mkS zof 24 (x.1,())))
def z1x7 (N:Nat):Hd Int:=fun st K=>(unS zof 24 (restr [0] 0 st)).bind fun x=>z21c N x K
def t1_18 (N:Nat):Tab Int:=[]
theorem z1si {N:Nat}{c:Ctx}(hb:Base Tryd.prog (z25i N) c):zj Tryd.prog c (zh ztk [0,1]) (z1x7 N) :=
 zk (s:=zof) (m:=24) (g:=z21c N) [0] (zd hb N (t1_18 N) L_18 ztk TabOk.nil [0,1] _ rfl) (fun x K=>by kernel_rfl)
def z52 (N:Nat)(x0:(List Int))(m:Int)(i:Int)(rec:Int->Int->Option Int)(k0:Int->Option Int):Option Int:=cond (decide (i<(List.length x0:Int))) (cond (inR i (List.length x0)) (rec (if ((List.getD x0 (Int.toNat i) 0) > m) then (List.getD x0 (Int.toNat i) 0) else m) (IntKind.wrap IntKind.i64 (i+1))) none) (k0 m)
def zch (N:Nat)(x0:(List Int))(m:Int)(i:Int)(k0:Int->Option Int):Option Int:=iter (fun (v:(Int×Int)) r=>z52 N x0 v.1 v.2 (fun m i=>(r (m,i))) k0) N (m,i)
def z1zh (N:Nat)(i:(List Int))(v:(Int×Int))(r:(Int×Int)->Option Int)(K:Ex->List A->Option Int):Option Int:=z52 N i v.1 v.2 (fun m i=>(r (m,i))) (fun a0=>(K (.exit 0) (mkS [(3,.v (.int .i64))] 21 (a0,()))))
def z1vc (N:Nat):Hd Int:=fun st K=>(unS SQ5 20 (restr [4,0,3] 0 st)).bind fun x=>iter (fun v r=>z1zh N ((fun x=>x.1) x) v r K) N ((fun x=>(x.2.1,x.2.2.1)) x)
def t2_18 (N:Nat):Tab Int:=[]
theorem z1qn {N:Nat}{c:Ctx}(hb:Base Tryd.prog (z25i N) c):zj Tryd.prog c (zh ztk [0,1,0,1,1,1]) (z1vc N) :=
 zu (s:=SQ5) (m:=20) (z1zh N) [4,0,3] N (fun x=>x.1) (fun x=>(x.2.1,x.2.2.1)) (fun i v=>(i,v.1,v.2,())) (fun _=>rfl) (zd hb N (t2_18 N) L_18 ztk TabOk.nil zzc _ rfl) (fun i v r K=>by kernel_rfl)
def z53 (N:Nat)(x0:(List Int)):Option Int:=z7b N x0 (cond (inR 0 (List.length x0)) (zch N x0 (List.getD x0 0 0) 1 (fun m=>some m)) none)
def t_18 (N:Nat):Tab Int:=[([0,1],z1x7 N),([0,1,0,1,1,1],z1vc N)]
theorem z1ji (N:Nat)(x:z15 zof):z4u (z25i N) N (t_18 N) L_18 Tryd.f43 (mkS zof 0 x) (z2l (.v (.int .i64)) 1)=z53 N x.1:=by kernel_rfl
def zb9 (N:Nat):List A->Res:=zz zof (fun x=>z53 N x.1) (z6n (.v (.int .i64)) 1)
theorem zjk (N:Nat):Contract Tryd.prog glob 43 (zb9 N) :=
 Contract.of (E:=z25i N) (H:=t_18 N) (L:=L_18) (N:=N) (body:=ztk) (K:=(z2l (.v (.int .i64)) 1)) (z24z N) Tryd.func43 (by kernel_rfl) (by decide) (fun _ hb=>(TabOk.cons (z1si hb) (TabOk.cons (z1qn hb) TabOk.nil))) (fun x y h=>by rw[z1ji];exact h) (z13 (s:=(.v (.int .i64))) (m:=1))
def z1kl:Code:=(Tryd.f21.body).getD .skip
def L_19:List (List Nat×List Nat):=[([0],[0]),([0,0,1],[5,0]),([1,0,1],[0]),([0,0,1,0,1],[2]),([1,0,1,0,1],[2]),([0,1,1],[2]),([1,1,1],[2])]
def E_19 (N:Nat):Env:=z1c tys glob [(43,zb9 N),(20,z9d N)] [] [] [] false [] [(76,z7 N)]
theorem z24y (N:Nat):EnvOk Tryd.prog (E_19 N):=zi mixed zn (FnsOk.cons (zjk N) (FnsOk.cons (zfo N) (FnsOk.nil))) (ItsOk.cons (za N) (ItsOk.nil))
def z44 (N:Nat)(b:(List Int)):Option Int:=(z7p N b).bind fun y=>cond (!y) (some 0) ((z53 N b).bind fun y1=>some (IntKind.wrap IntKind.i64 (y1+1)))
def t_19 (N:Nat):Tab Int:=[]
theorem z1jh (N:Nat)(x:z15 zof):z4u (E_19 N) N (t_19 N) L_19 Tryd.f21 (mkS zof 0 x) (z2l (.v (.int .i64)) 1)=z44 N x.1:=by kernel_rfl
def zd9 (N:Nat):List A->Res:=zz zof (fun x=>z44 N x.1) (z6n (.v (.int .i64)) 1)
theorem zfp (N:Nat):Contract Tryd.prog glob 21 (zd9 N) :=
 Contract.of (E:=E_19 N) (H:=t_19 N) (L:=L_19) (N:=N) (body:=z1kl) (K:=(z2l (.v (.int .i64)) 1)) (z24y N) Tryd.func21 (by kernel_rfl) (by decide) (fun _ hb=>TabOk.nil) (fun x y h=>by rw[z1jh];exact h) (z13 (s:=(.v (.int .i64))) (m:=1))
def z123:Code:=(Tryd.f66.body).getD .skip
def L_20:List (List Nat×List Nat):=[([0],[0,1]),([0,0,1],[8,7,1,0]),([0,1,0,1],[8,7,1,0]),([0,0,0,1,0,1],[9,8,1,0,7]),(z14i,[8,1,0,7]),(z16c,[]),(z16g,[1,0,5,8,7]),([0,1,0,0,1,1,0,0,1,0,1],[16,5,8,7,1,0]),([1,1,0,0,1,1,0,0,1,0,1],[8,7,1,0]),([0,0,1,1,0,0,1,1,0,0,1,0,1],[4]),([1,0,1,1,0,0,1,1,0,0,1,0,1],[4]),(z16b,[8,7,1,0]),(z16a,[8,7,1,0]),([1,0,1],[]),([0,1,1],[4]),([1,1,1],[4])]
def E_20 (N:Nat):Env:=z1c tys glob [] [] [] [] false [] [(76,z7 N)]
theorem z24x (N:Nat):EnvOk Tryd.prog (E_20 N):=zi mixed zn (FnsOk.nil) (ItsOk.cons (za N) (ItsOk.nil))
def z3u (N:Nat)(s:(List Int))(v_:Int)(x7:Int)(x8:Int)(rec:Int->Option Int)(k0:Int->Option Int)(k1:Option Int):Option Int:=cond (decide (x8<x7)) (cond (inR x8 (List.length s)) (cond (v_ == (List.getD s (Int.toNat x8) 0)) (k0 x8) (rec (IntKind.wrap IntKind.i64 (x8+1)))) none) k1
def zaa (N:Nat)(s:(List Int))(v_:Int)(x7:Int)(x8:Int)(k0:Int->Option Int)(k1:Option Int):Option Int:=iter (fun (v:Int) r=>z3u N s v_ x7 v (fun x8=>(r x8)) k0 k1) N x8
def z21b (N:Nat)(i:((List Int)×Int×Int))(v:Int)(r:Int->Option Int)(K:Ex->List A->Option Int):Option Int:=z3u N i.1 i.2.1 i.2.2 v (fun x8=>(r x8)) (fun a0=>(K .ret (mkS [(4,.v (.int .i64))] 14 (a0,())))) (K (.exit 0) (mkS [] 19 ()))
def z1x6 (N:Nat):Hd Int:=fun st K=>(unS z21z 10 (restr [8,7,1,0] 0 st)).bind fun x=>iter (fun v r=>z21b N ((fun x=>(x.1,x.2.1,x.2.2.1)) x) v r K) N ((fun x=>x.2.2.2.1) x)
def t1_20 (N:Nat):Tab Int:=[]
theorem z1sh {N:Nat}{c:Ctx}(hb:Base Tryd.prog (E_20 N) c):zj Tryd.prog c (zh z123 [0,1,0,1]) (z1x6 N) :=
 zu (s:=z21z) (m:=10) (z21b N) [8,7,1,0] N (fun x=>(x.1,x.2.1,x.2.2.1)) (fun x=>x.2.2.2.1) (fun i v=>(i.1,i.2.1,i.2.2,v,())) (fun _=>rfl) (zd hb N (t1_20 N) L_20 z123 TabOk.nil [0,0,1,0,1] _ rfl) (fun i v r K=>by kernel_rfl)
def z3o (N:Nat)(s:(List Int))(v_:Int):Option Int:=zaa N s v_ (List.length s:Int) 0 (fun x4=>some x4) (some (-1))
def t_20 (N:Nat):Tab Int:=[([0,1,0,1],z1x6 N)]
theorem z1jg (N:Nat)(x:z15 z12c):z4u (E_20 N) N (t_20 N) L_20 Tryd.f66 (mkS z12c 0 x) (z2l (.v (.int .i64)) 2)=z3o N x.1 x.2.1:=by kernel_rfl
def z9k (N:Nat):List A->Res:=zz z12c (fun x=>z3o N x.1 x.2.1) (z6n (.v (.int .i64)) 2)
theorem zhp (N:Nat):Contract Tryd.prog glob 66 (z9k N) :=
 Contract.of (E:=E_20 N) (H:=t_20 N) (L:=L_20) (N:=N) (body:=z123) (K:=(z2l (.v (.int .i64)) 2)) (z24x N) Tryd.func66 (by kernel_rfl) (by decide) (fun _ hb=>(TabOk.cons (z1sh hb) TabOk.nil)) (fun x y h=>by rw[z1jg];exact h) (z13 (s:=(.v (.int .i64))) (m:=2))
def z1kk:Code:=(Tryd.f48.body).getD .skip
def L_21:List (List Nat×List Nat):=[([0],[0,1]),([0,0,1],[7,0,1]),([1,0,1],[0,1]),([0,0,1,0,1],[4]),([1,0,1,0,1],[4]),([0,1,1],[4]),([1,1,1],[4])]
def E_21 (N:Nat):Env:=z1c tys glob [(66,z9k N),(20,z9d N)] [] [] [] false [] [(76,z7 N)]
theorem z24w (N:Nat):EnvOk Tryd.prog (E_21 N):=zi mixed zn (FnsOk.cons (zhp N) (FnsOk.cons (zfo N) (FnsOk.nil))) (ItsOk.cons (za N) (ItsOk.nil))
def zd0 (N:Nat)(b:(List Int))(k:Int):Option Int:=(z7p N b).bind fun y=>cond (!y) (some (-1)) ((z3o N b k).bind fun y1=>some y1)
def t_21 (N:Nat):Tab Int:=[]
theorem z1jf (N:Nat)(x:z15 z12c):z4u (E_21 N) N (t_21 N) L_21 Tryd.f48 (mkS z12c 0 x) (z2l (.v (.int .i64)) 2)=zd0 N x.1 x.2.1:=by kernel_rfl
def zja (N:Nat):List A->Res:=zz z12c (fun x=>zd0 N x.1 x.2.1) (z6n (.v (.int .i64)) 2)
theorem ztn (N:Nat):Contract Tryd.prog glob 48 (zja N) :=
 Contract.of (E:=E_21 N) (H:=t_21 N) (L:=L_21) (N:=N) (body:=z1kk) (K:=(z2l (.v (.int .i64)) 2)) (z24w N) Tryd.func48 (by kernel_rfl) (by decide) (fun _ hb=>TabOk.nil) (fun x y h=>by rw[z1jf];exact h) (z13 (s:=(.v (.int .i64))) (m:=2))
def zn5:Code:=(Tryd.f24.body).getD .skip
def z22o:List (List Nat×List Nat):=[([0],[1]),([0,1],[1,3]),([0,0,1,1],[23,22,21,3,1]),([0,1,0,1,1],[23,22,21,3,1]),(z14g,[24,21,23,3,22,1]),(zqy,[21,23,3,22,1]),(z1a5,[1,3]),(z1a6,[3,5,23,22,21,1]),(z16h,[23,22,21,3,1]),(z1a4,[23,22,21,3,1]),(z1a3,[23,22,21,3,1]),([1,0,1,1],[1,3]),([0,1,1,1],[6,1,3]),([0,0,1,1,1,1],[44,43,1,6,3]),(z1an,[44,43,1,6,3]),([0,0,0,1,0,1,1,1,1],[45,44,1,6,3,43]),([0,1,0,0,1,0,1,1,1,1],[44,1,6,3,43]),(z1db,[3,6,1]),([0,0,0,1,1,0,0,1,0,1,1,1,1],[1,6,7,3,44,43]),([0,1,0,0,1,1,0,0,1,0,1,1,1,1],[1,6,7,8,3,44,43]),([0,0,1,1,0,0,1,1,0,0,1,0,1,1,1,1],z1fc),(z1ll,z1fc),([0,0,0,1,0,1,1,0,0,1,1,0,0,1,0,1,1,1,1],[51,50,48,6,7,8,49,3,44,43,1]),([0,1,0,0,1,0,1,1,0,0,1,1,0,0,1,0,1,1,1,1],[50,48,6,7,8,49,3,44,43,1]),([1,0,1,0,0,1,0,1,1,0,0,1,1,0,0,1,0,1,1,1,1],[3,8,44,43,1,6]),([0,0,0,1,1,0,0,1,0,1,1,0,0,1,1,0,0,1,0,1,1,1,1],[10,6,7,8,9,50,49,48,3,44,43,1]),([0,1,0,0,1,1,0,0,1,0,1,1,0,0,1,1,0,0,1,0,1,1,1,1],[60,8,9,50,49,48,6,7,3,44,43,1]),([1,1,0,0,1,1,0,0,1,0,1,1,0,0,1,1,0,0,1,0,1,1,1,1],z1fc),([0,1,1,0,0,1,1,0,0,1,0,1,1,0,0,1,1,0,0,1,0,1,1,1,1],z1fc),([0,1,1,0,0,1,0,1,1,0,0,1,1,0,0,1,0,1,1,1,1],z1fc),([1,1,1,0,0,1,0,1,1,0,0,1,1,0,0,1,0,1,1,1,1],z1fc),([1,0,1,1,0,0,1,1,0,0,1,0,1,1,1,1],[3,8,44,43,1,6]),([1,1,1,0,0,1,1,0,0,1,0,1,1,1,1],[44,43,1,6,3]),([0,1,1,0,0,1,0,1,1,1,1],[44,43,1,6,3]),([1,1,1,0,0,1,0,1,1,1,1],[44,43,1,6,3]),([1,0,1,1,1,1],[3,6,1]),([0,1,1,1,1,1],[3]),(z14h,[2]),(zze,[2])]
def z1n7 (N:Nat):Env:=z1c tys glob [(48,zja N),(21,zd9 N),(42,zod N),(47,zff N),(46,zj2 N)] [(5,(.int .i64)),(6,(.int .i64)),(8,(.int .i64))] [] [] false [(72,.unit),(82,(.own .bool)),(2,(.nb .unit)),(18,z14e),(19,z14e),(83,z14d)] [(76,z7 N)] [(.nb z14e)]
theorem z24v (N:Nat):EnvOk Tryd.prog (z1n7 N):=zi mixed zn (FnsOk.cons (ztn N) (FnsOk.cons (zfp N) (FnsOk.cons (zql N) (FnsOk.cons (zm7 N) (FnsOk.cons (zt2 N) (FnsOk.nil)))))) (ItsOk.cons (za N) (ItsOk.nil))
def z4i (N:Nat)(p:z4y)(x21:(List (List Int)))(x22:Int)(b:DT0)(x23:Int)(rec:DT0->Int->Option (Option DT0))(k0:DT0->Option (Option DT0)):Option (Option DT0):=cond (decide (x23<x22)) (cond (inR x23 (List.length x21)) ((z58 N (List.getD x21 (Int.toNat x23) [])).bind fun y=>cond (decide ((((List.length b.2.2.1)+1)*64)<=70368744177664)) (rec (b.1,(b.2.1,((b.2.2.1++([y]:List (List Int))),b.2.2.2))) (IntKind.wrap IntKind.i64 (x23+1))) none) none) (k0 b)
def zhg (N:Nat)(p:z4y)(b:DT0)(x21:(List (List Int)))(x22:Int)(x23:Int)(k0:DT0->Option (Option DT0)):Option (Option DT0):=iter (fun (v:(DT0×Int)) r=>z4i N p x21 x22 v.1 v.2 (fun b x23=>(r (b,x23))) k0) N (b,x23)
def z21a (N:Nat)(i:(z4y×(List (List Int))×Int))(v:(DT0×Int))(r:(DT0×Int)->Option (Option DT0))(K:Ex->List A->Option (Option DT0)):Option (Option DT0):=z4i N i.1 i.2.1 i.2.2 v.1 v.2 (fun b x23=>(r (b,x23))) (fun a1=>(K (.exit 0) (mkS [(1,.box TT2),(1,.box z14e)] 83 (i.1,a1,()))))
def z1x5 (N:Nat):Hd (Option DT0):=fun st K=>(unS z22b 63 (restr [23,22,21,3,1] 0 st)).bind fun x=>iter (fun v r=>z21a N ((fun x=>(x.1,x.2.2.1,x.2.2.2.1)) x) v r K) N ((fun x=>(x.2.1,x.2.2.2.2.1)) x)
def t1_22 (N:Nat):Tab (Option DT0):=[]
theorem z1sg {N:Nat}{c:Ctx}(hb:Base Tryd.prog (z1n7 N) c):zj Tryd.prog c (zh zn5 [0,1,0,1,1]) (z1x5 N) :=
 zu (s:=z22b) (m:=63) (z21a N) [23,22,21,3,1] N (fun x=>(x.1,x.2.2.1,x.2.2.2.1)) (fun x=>(x.2.1,x.2.2.2.2.1)) (fun i v=>(i.1,v.1,i.2.1,i.2.2,v.2,())) (fun _=>rfl) (zd hb N (t1_22 N) z22o zn5 TabOk.nil [0,0,1,0,1,1] _ rfl) (fun i v r K=>by kernel_rfl)
def z4g (N:Nat)(p:z4y)(b:DT0)(block:(List Int))(class_:Int)(x43:Int)(x44:Int)(x48:(List (List Int)))(x49:Int)(readers:(List Int))(x50:Int)(rec:(List Int)->Int->Option (Option DT0))(k0:(List Int)->Option (Option DT0)):Option (Option DT0):=cond (decide (x50<x49)) (cond (inR x50 (List.length x48)) ((zd0 N block class_).bind fun y=>(zc3 N (List.getD x48 (Int.toNat x50) []) (IntKind.wrap IntKind.u8 y)).bind fun y1=>cond y1 (cond (decide ((((List.length readers)+1)*8)<=70368744177664)) (rec (readers++([x50]:List Int)) (IntKind.wrap IntKind.i64 (x50+1))) none) (rec readers (IntKind.wrap IntKind.i64 (x50+1)))) none) (k0 readers)
def zhf (N:Nat)(p:z4y)(b:DT0)(block:(List Int))(class_:Int)(readers:(List Int))(x43:Int)(x44:Int)(x48:(List (List Int)))(x49:Int)(x50:Int)(k0:(List Int)->Option (Option DT0)):Option (Option DT0):=iter (fun (v:((List Int)×Int)) r=>z4g N p b block class_ x43 x44 x48 x49 v.1 v.2 (fun readers x50=>(r (readers,x50))) k0) N (readers,x50)
def z1ym (N:Nat)(i:(z4y×DT0×(List Int)×Int×Int×Int×(List (List Int))×Int))(v:((List Int)×Int))(r:((List Int)×Int)->Option (Option DT0))(K:Ex->List A->Option (Option DT0)):Option (Option DT0):=z4g N i.1 i.2.1 i.2.2.1 i.2.2.2.1 i.2.2.2.2.1 i.2.2.2.2.2.1 i.2.2.2.2.2.2.1 i.2.2.2.2.2.2.2 v.1 v.2 (fun readers x50=>(r (readers,x50))) (fun a3=>(K (.exit 4) (mkS [(1,.box TT2),(1,.box z14e),(2,.v (.sl (.int .i64))),(1,.row (.int .i64)),(34,.v (.int .i64)),(0,.v (.int .i64))] 42 (i.1,i.2.1,i.2.2.1,a3,i.2.2.2.2.1,i.2.2.2.2.2.1,()))))
def z1uh (N:Nat):Hd (Option DT0):=fun st K=>(unS SQ39 36 (restr z1fc 0 st)).bind fun x=>iter (fun v r=>z1ym N ((fun x=>(x.1,x.2.1,x.2.2.1,x.2.2.2.1,x.2.2.2.2.2.1,x.2.2.2.2.2.2.1,x.2.2.2.2.2.2.2.1,x.2.2.2.2.2.2.2.2.1)) x) v r K) N ((fun x=>(x.2.2.2.2.1,x.2.2.2.2.2.2.2.2.2.1)) x)
def t3_22 (N:Nat):Tab (Option DT0):=[]
theorem z1ps {N:Nat}{c:Ctx}(hb:Base Tryd.prog (z1n7 N) c):zj Tryd.prog c (zh zn5 z1ll) (z1uh N) :=
 zu (s:=SQ39) (m:=36) (z1ym N) z1fc N (fun x=>(x.1,x.2.1,x.2.2.1,x.2.2.2.1,x.2.2.2.2.2.1,x.2.2.2.2.2.2.1,x.2.2.2.2.2.2.2.1,x.2.2.2.2.2.2.2.2.1)) (fun x=>(x.2.2.2.2.1,x.2.2.2.2.2.2.2.2.2.1)) (fun i v=>(i.1,i.2.1,i.2.2.1,i.2.2.2.1,v.1,i.2.2.2.2.1,i.2.2.2.2.2.1,i.2.2.2.2.2.2.1,i.2.2.2.2.2.2.2,v.2,())) (fun _=>rfl) (zd hb N (t3_22 N) z22o zn5 TabOk.nil [0,0,1,0,1,1,0,0,1,1,0,0,1,0,1,1,1,1] _ rfl) (fun i v r K=>by kernel_rfl)
def z4h (N:Nat)(p:z4y)(block:(List Int))(x43:Int)(b:DT0)(x44:Int)(rec:DT0->Int->Option (Option DT0))(k0:DT0->Option (Option DT0)):Option (Option DT0):=cond (decide (x44<x43)) (zhf N p b block x44 [] x43 x44 p.1 (List.length p.1:Int) 0 (fun readers=>(z58 N readers).bind fun y=>cond (decide ((((List.length b.2.2.2.1)+1)*64)<=70368744177664)) (rec (b.1,(b.2.1,(b.2.2.1,((b.2.2.2.1++([y]:List (List Int))),b.2.2.2.2)))) (IntKind.wrap IntKind.i64 (x44+1))) none)) (k0 b)
def z83 (N:Nat)(p:z4y)(b:DT0)(block:(List Int))(x43:Int)(x44:Int)(k0:DT0->Option (Option DT0)):Option (Option DT0):=iter (fun (v:(DT0×Int)) r=>z4h N p block x43 v.1 v.2 (fun b x44=>(r (b,x44))) k0) N (b,x44)
def z1zg (N:Nat)(i:(z4y×(List Int)×Int))(v:(DT0×Int))(r:(DT0×Int)->Option (Option DT0))(K:Ex->List A->Option (Option DT0)):Option (Option DT0):=z4h N i.1 i.2.1 i.2.2 v.1 v.2 (fun b x44=>(r (b,x44))) (fun a1=>(K (.exit 2) (mkS [(1,.box TT2),(1,.box z14e),(2,.v (.sl (.int .i64)))] 80 (i.1,a1,i.2.1,()))))
def z1vb (N:Nat):Hd (Option DT0):=fun st K=>(unS z228 42 (restr [44,43,1,6,3] 0 st)).bind fun x=>iter (fun v r=>z1zg N ((fun x=>(x.1,x.2.2.1,x.2.2.2.1)) x) v r K) N ((fun x=>(x.2.1,x.2.2.2.2.1)) x)
def t2_22 (N:Nat):Tab (Option DT0):=[(z1ll,z1uh N)]
theorem z1qm {N:Nat}{c:Ctx}(hb:Base Tryd.prog (z1n7 N) c):zj Tryd.prog c (zh zn5 z1an) (z1vb N) :=
 zu (s:=z228) (m:=42) (z1zg N) [44,43,1,6,3] N (fun x=>(x.1,x.2.2.1,x.2.2.2.1)) (fun x=>(x.2.1,x.2.2.2.2.1)) (fun i v=>(i.1,v.1,i.2.1,i.2.2,v.2,())) (fun _=>rfl) (zd hb N (t2_22 N) z22o zn5 (TabOk.cons (z1ps hb) TabOk.nil) z16d _ rfl) (fun i v r K=>by kernel_rfl)
def z9a (N:Nat)(p:z4y):Option (Option DT0):=(z58 N p.2.2.1).bind fun y=>(z58 N p.2.2.2.1).bind fun y1=>zhg N p (y,(y1,([],([],((Option.some ([]:List ((List Int)×Int))),([],((0,([],([],([],())))),()))))))) p.2.2.2.2.1 (List.length p.2.2.2.2.1:Int) 0 (fun b=>(zb5 N p.1).bind fun y2=>(z44 N y2).bind fun y3=>z83 N p b y2 y3 0 (fun b1=>some (Option.some (b1.1,(b1.2.1,(b1.2.2.1,(b1.2.2.2.1,(b1.2.2.2.2.1,(b1.2.2.2.2.2.1,((0,(([p.2.1]:List Bool),(y2,([],())))),b1.2.2.2.2.2.2.2))))))))))
def t_22 (N:Nat):Tab (Option DT0):=[([0,1,0,1,1],z1x5 N),(z1an,z1vb N)]
theorem z1je (N:Nat)(x:z15 [(0,.v TT2)]):z4u (z1n7 N) N (t_22 N) z22o Tryd.f24 (mkS [(0,.v TT2)] 0 x) (z2l (.ov (.nb z14e)) 1)=z9a N x.1:=by kernel_rfl
def zg9 (N:Nat):List A->Res:=zz [(0,.v TT2)] (fun x=>z9a N x.1) (z6n (.ov (.nb z14e)) 1)
theorem zpi (N:Nat):Contract Tryd.prog glob 24 (zg9 N) :=
 Contract.of (E:=z1n7 N) (H:=t_22 N) (L:=z22o) (N:=N) (body:=zn5) (K:=(z2l (.ov (.nb z14e)) 1)) (z24v N) Tryd.func24 (by kernel_rfl) (by decide) (fun _ hb=>(TabOk.cons (z1sg hb) (TabOk.cons (z1qm hb) TabOk.nil))) (fun x y h=>by rw[z1je];exact h) (z13 (s:=(.ov (.nb z14e))) (m:=1))
def zfg:Code:=(Tryd.f7.body).getD .skip
def z1lo:List (List Nat×List Nat):=[([0],[1]),([0,1],[3,1]),([0,0,1,1],[30,1,3]),([1,0,1,1],[1,3]),([0,0,1,0,1,1],[2]),([1,0,1,0,1,1],[2]),([0,1,1,1],[1,4,3]),([0,0,1,1,1,1],zzd),(z1an,zzd),([0,0,0,1,0,1,1,1,1],[38,35,37,4,3,36,1]),([0,1,0,0,1,0,1,1,1,1],[35,37,4,3,36,1]),(z1db,[1,3]),([0,0,0,1,1,0,0,1,0,1,1,1,1],[6,4,3,37,36,35,1]),([0,0,1,0,0,1,1,0,0,1,0,1,1,1,1],[44,6,3,37,36,35,4,1]),([1,0,1,0,0,1,1,0,0,1,0,1,1,1,1],[6,3,37,36,35,4,1]),([0,0,1,0,1,0,0,1,1,0,0,1,0,1,1,1,1],[2]),([1,0,1,0,1,0,0,1,1,0,0,1,0,1,1,1,1],[2]),([0,1,1,0,0,1,1,0,0,1,0,1,1,1,1],z1lb),(z1li,z1lb),([0,0,0,1,1,1,0,0,1,1,0,0,1,0,1,1,1,1],[48,45,47,3,46,37,36,35,4,1]),([0,1,0,0,1,1,1,0,0,1,1,0,0,1,0,1,1,1,1],[45,47,3,46,37,36,35,4,1]),([1,0,1,0,0,1,1,1,0,0,1,1,0,0,1,0,1,1,1,1],zzd),([0,0,0,1,1,0,0,1,1,1,0,0,1,1,0,0,1,0,1,1,1,1],[8,3,47,46,45,37,36,35,4,1]),(PQ80,[57,47,46,45,3,37,36,35,4,1]),([1,1,0,0,1,1,0,0,1,1,1,0,0,1,1,0,0,1,0,1,1,1,1],z1lb),([0,0,1,1,0,0,1,1,0,0,1,1,1,0,0,1,1,0,0,1,0,1,1,1,1],[2]),([1,0,1,1,0,0,1,1,0,0,1,1,1,0,0,1,1,0,0,1,0,1,1,1,1],[2]),([0,1,1,0,0,1,1,1,0,0,1,1,0,0,1,0,1,1,1,1],z1lb),([1,1,1,0,0,1,1,1,0,0,1,1,0,0,1,0,1,1,1,1],z1lb),([1,1,1,0,0,1,1,0,0,1,0,1,1,1,1],zzd),([0,1,1,0,0,1,0,1,1,1,1],zzd),([1,1,1,0,0,1,0,1,1,1,1],zzd),([1,0,1,1,1,1],[1,3]),([0,1,1,1,1,1],[2]),([1,1,1,1,1,1],[2])]
def z1fi (N:Nat):Env:=z1c tys glob [(21,zd9 N),(20,z9d N)] [] [] [] false [] [(76,z7 N)]
theorem z24u (N:Nat):EnvOk Tryd.prog (z1fi N):=zi mixed zn (FnsOk.cons (zfp N) (FnsOk.cons (zfo N) (FnsOk.nil))) (ItsOk.cons (za N) (ItsOk.nil))
def zqe (N:Nat)(d:DT8)(states:Int)(k0:Bool->Option Bool):Option Bool:=cond (decide (states<1)) (k0 true) (cond (decide (4096<states)) (k0 true) (cond ((List.length d.2.1:Int) != states) (k0 true) ((z7p N d.2.2.1).bind fun y=>k0 (!y))))
def z1zf (N:Nat)(x:z15 z1f7)(K:Ex->List A->Option Bool):Option Bool:=zqe N x.1 x.2.1 (fun a2=>(K .normal (mkS [(1,.box TT6),(1,.v (.int .i64)),(26,.v .bool)] 38 (x.1,x.2.1,a2,()))))
def z1va (N:Nat):Hd Bool:=fun st K=>(unS z1f7 65 (restr [3,1] 0 st)).bind fun x=>z1zf N x K
def t2_23 (N:Nat):Tab Bool:=[]
theorem z1ql {N:Nat}{c:Ctx}(hb:Base Tryd.prog (z1fi N) c):zj Tryd.prog c (zh zfg [0,0,1,1]) (z1va N) :=
 zk (s:=z1f7) (m:=65) (g:=z1zf N) [3,1] (zd hb N (t2_23 N) z1lo zfg TabOk.nil [0,0,1,1] _ rfl) (fun x K=>by kernel_rfl)
def zqf (N:Nat)(d:DT8)(states:Int)(k0:Bool->Option Bool)(k1:Option Bool):Option Bool:=zqe N d states (fun x30=>cond x30 (k0 false) k1)
def z219 (N:Nat)(x:z15 z1f7)(K:Ex->List A->Option Bool):Option Bool:=zqf N x.1 x.2.1 (fun a0=>(K .ret (mkS [(2,.v .bool)] 66 (a0,())))) (K .normal (mkS z1f7 65 (x.1,x.2.1,())))
def z1x4 (N:Nat):Hd Bool:=fun st K=>(unS z1f7 65 (restr [3,1] 0 st)).bind fun x=>z219 N x K
def t1_23 (N:Nat):Tab Bool:=[([0,0,1,1],z1va N)]
theorem z1sf {N:Nat}{c:Ctx}(hb:Base Tryd.prog (z1fi N) c):zj Tryd.prog c (zh zfg [0,1,1]) (z1x4 N) :=
 zk (s:=z1f7) (m:=65) (g:=z219 N) [3,1] (zd hb N (t1_23 N) z1lo zfg (TabOk.cons (z1ql hb) TabOk.nil) [0,1,1] _ rfl) (fun x K=>by kernel_rfl)
def zqd (N:Nat)(d:DT8)(states:Int)(classes:Int)(state:Int)(x35:(List (List Int)))(x36:Int)(x37:Int)(x45:(List Int))(x46:Int)(x47:Int)(k0:Bool->Option Bool):Option Bool:=cond (decide (state<0)) (k0 true) (k0 (decide (states<=state)))
def z1xr (N:Nat)(x:z15 SQ25)(K:Ex->List A->Option Bool):Option Bool:=zqd N x.1 x.2.1 x.2.2.1 x.2.2.2.1 x.2.2.2.2.1 x.2.2.2.2.2.1 x.2.2.2.2.2.2.1 x.2.2.2.2.2.2.2.1 x.2.2.2.2.2.2.2.2.1 x.2.2.2.2.2.2.2.2.2.1 (fun a9=>(K .normal (mkS [(1,.box TT6),(1,.v (.int .i64)),(0,.v (.int .i64)),(30,.v (.sl (.sl (.int .i64)))),(0,.v (.int .i64)),(0,.v (.int .i64)),(7,.v (.sl (.int .i64))),(0,.v (.int .i64)),(0,.v (.int .i64)),(9,.v .bool)] 11 (x.1,x.2.1,x.2.2.1,x.2.2.2.2.1,x.2.2.2.2.2.1,x.2.2.2.2.2.2.1,x.2.2.2.2.2.2.2.1,x.2.2.2.2.2.2.2.2.1,x.2.2.2.2.2.2.2.2.2.1,a9,()))))
def z1tm (N:Nat):Hd Bool:=fun st K=>(unS SQ25 21 (restr [8,3,47,46,45,37,36,35,4,1] 0 st)).bind fun x=>z1xr N x K
def t5_23 (N:Nat):Tab Bool:=[]
theorem z1ox {N:Nat}{c:Ctx}(hb:Base Tryd.prog (z1fi N) c):zj Tryd.prog c (zh zfg PQ80) (z1tm N) :=
 zk (s:=SQ25) (m:=21) (g:=z1xr N) [8,3,47,46,45,37,36,35,4,1] (zd hb N (t5_23 N) z1lo zfg TabOk.nil PQ80 _ rfl) (fun x K=>by kernel_rfl)
def zqb (N:Nat)(d:DT8)(states:Int)(classes:Int)(x35:(List (List Int)))(x36:Int)(x37:Int)(x45:(List Int))(x46:Int)(x47:Int)(rec:Int->Option Bool)(k0:Bool->Option Bool)(k1:Option Bool):Option Bool:=cond (decide (x47<x46)) (cond (inR x47 (List.length x45)) (zqd N d states classes (List.getD x45 (Int.toNat x47) 0) x35 x36 x37 x45 x46 x47 (fun x57=>cond x57 (k0 false) (rec (IntKind.wrap IntKind.i64 (x47+1))))) none) k1
def zyr (N:Nat)(d:DT8)(states:Int)(classes:Int)(x35:(List (List Int)))(x36:Int)(x37:Int)(x45:(List Int))(x46:Int)(x47:Int)(k0:Bool->Option Bool)(k1:Option Bool):Option Bool:=iter (fun (v:Int) r=>zqb N d states classes x35 x36 x37 x45 x46 v (fun x47=>(r x47)) k0 k1) N x47
def z1y3 (N:Nat)(i:(DT8×Int×Int×(List (List Int))×Int×Int×(List Int)×Int))(v:Int)(r:Int->Option Bool)(K:Ex->List A->Option Bool):Option Bool:=zqb N i.1 i.2.1 i.2.2.1 i.2.2.2.1 i.2.2.2.2.1 i.2.2.2.2.2.1 i.2.2.2.2.2.2.1 i.2.2.2.2.2.2.2 v (fun x47=>(r x47)) (fun a0=>(K .ret (mkS [(2,.v .bool)] 66 (a0,())))) (K (.exit 2) (mkS SQ44 31 (i.1,i.2.1,i.2.2.1,i.2.2.2.1,i.2.2.2.2.1,i.2.2.2.2.2.1,())))
def z1ty (N:Nat):Hd Bool:=fun st K=>(unS SQ42 21 (restr z1lb 0 st)).bind fun x=>iter (fun v r=>z1y3 N ((fun x=>(x.1,x.2.1,x.2.2.1,x.2.2.2.1,x.2.2.2.2.1,x.2.2.2.2.2.1,x.2.2.2.2.2.2.1,x.2.2.2.2.2.2.2.1)) x) v r K) N ((fun x=>x.2.2.2.2.2.2.2.2.1) x)
def t4_23 (N:Nat):Tab Bool:=[(PQ80,z1tm N)]
theorem z1p9 {N:Nat}{c:Ctx}(hb:Base Tryd.prog (z1fi N) c):zj Tryd.prog c (zh zfg z1li) (z1ty N) :=
 zu (s:=SQ42) (m:=21) (z1y3 N) z1lb N (fun x=>(x.1,x.2.1,x.2.2.1,x.2.2.2.1,x.2.2.2.2.1,x.2.2.2.2.2.1,x.2.2.2.2.2.2.1,x.2.2.2.2.2.2.2.1)) (fun x=>x.2.2.2.2.2.2.2.2.1) (fun i v=>(i.1,i.2.1,i.2.2.1,i.2.2.2.1,i.2.2.2.2.1,i.2.2.2.2.2.1,i.2.2.2.2.2.2.1,i.2.2.2.2.2.2.2,v,())) (fun _=>rfl) (zd hb N (t4_23 N) z1lo zfg (TabOk.cons (z1ox hb) TabOk.nil) [0,0,1,1,1,0,0,1,1,0,0,1,0,1,1,1,1] _ rfl) (fun i v r K=>by kernel_rfl)
def zqc (N:Nat)(d:DT8)(states:Int)(classes:Int)(x35:(List (List Int)))(x36:Int)(x37:Int)(rec:Int->Option Bool)(k0:Bool->Option Bool)(k1:Option Bool):Option Bool:=cond (decide (x37<x36)) (cond (inR x37 (List.length x35)) (cond ((List.length (List.getD x35 (Int.toNat x37) []):Int) != classes) (k0 false) (zyr N d states classes x35 x36 x37 (List.getD x35 (Int.toNat x37) []) (List.length (List.getD x35 (Int.toNat x37) []):Int) 0 (fun x2=>k0 x2) (rec (IntKind.wrap IntKind.i64 (x37+1))))) none) k1
def zys (N:Nat)(d:DT8)(states:Int)(classes:Int)(x35:(List (List Int)))(x36:Int)(x37:Int)(k0:Bool->Option Bool)(k1:Option Bool):Option Bool:=iter (fun (v:Int) r=>zqc N d states classes x35 x36 v (fun x37=>(r x37)) k0 k1) N x37
def z1yl (N:Nat)(i:(DT8×Int×Int×(List (List Int))×Int))(v:Int)(r:Int->Option Bool)(K:Ex->List A->Option Bool):Option Bool:=zqc N i.1 i.2.1 i.2.2.1 i.2.2.2.1 i.2.2.2.2 v (fun x37=>(r x37)) (fun a0=>(K .ret (mkS [(2,.v .bool)] 66 (a0,())))) (K (.exit 0) (mkS z1f7 65 (i.1,i.2.1,())))
def z1ug (N:Nat):Hd Bool:=fun st K=>(unS SQ44 31 (restr zzd 0 st)).bind fun x=>iter (fun v r=>z1yl N ((fun x=>(x.1,x.2.1,x.2.2.1,x.2.2.2.1,x.2.2.2.2.1)) x) v r K) N ((fun x=>x.2.2.2.2.2.1) x)
def t3_23 (N:Nat):Tab Bool:=[(z1li,z1ty N)]
theorem z1pr {N:Nat}{c:Ctx}(hb:Base Tryd.prog (z1fi N) c):zj Tryd.prog c (zh zfg z1an) (z1ug N) :=
 zu (s:=SQ44) (m:=31) (z1yl N) zzd N (fun x=>(x.1,x.2.1,x.2.2.1,x.2.2.2.1,x.2.2.2.2.1)) (fun x=>x.2.2.2.2.2.1) (fun i v=>(i.1,i.2.1,i.2.2.1,i.2.2.2.1,i.2.2.2.2,v,())) (fun _=>rfl) (zd hb N (t3_23 N) z1lo zfg (TabOk.cons (z1p9 hb) TabOk.nil) z16d _ rfl) (fun i v r K=>by kernel_rfl)
def zt5 (N:Nat)(d:DT8):Option Bool:=zqf N d (List.length d.2.2.2.1:Int) (fun x2=>some x2) ((z44 N d.2.2.1).bind fun y=>zys N d (List.length d.2.2.2.1:Int) y d.2.2.2.1 (List.length d.2.2.2.1:Int) 0 (fun x21=>some x21) (cond (decide (0<=d.1)) (some (decide (d.1<(List.length d.2.2.2.1:Int)))) (some false)))
def t_23 (N:Nat):Tab Bool:=[([0,1,1],z1x4 N),(z1an,z1ug N)]
theorem z1jd (N:Nat)(x:z15 [(0,.v TT6)]):z4u (z1fi N) N (t_23 N) z1lo Tryd.f7 (mkS [(0,.v TT6)] 0 x) (z2l (.v .bool) 1)=zt5 N x.1:=by kernel_rfl
def zo5 (N:Nat):List A->Res:=zz [(0,.v TT6)] (fun x=>zt5 N x.1) (z6n (.v .bool) 1)
theorem zyt (N:Nat):Contract Tryd.prog glob 7 (zo5 N) :=
 Contract.of (E:=z1fi N) (H:=t_23 N) (L:=z1lo) (N:=N) (body:=zfg) (K:=(z2l (.v .bool) 1)) (z24u N) Tryd.func7 (by kernel_rfl) (by decide) (fun _ hb=>(TabOk.cons (z1sf hb) (TabOk.cons (z1pr hb) TabOk.nil))) (fun x y h=>by rw[z1jd];exact h) (z13 (s:=(.v .bool)) (m:=1))
def z122:Code:=(Tryd.f9.body).getD .skip
def L_24:List (List Nat×List Nat):=[([0],[2,1]),([0,0,1],[9,2,1]),([1,0,1],[2,1]),([0,0,1,0,1],[4]),([1,0,1,0,1],[4]),([0,1,1],[1,2,5]),([0,0,1,1,1],[14,13,2,5,1]),([0,1,0,1,1,1],[14,13,2,5,1]),(z12l,[15,14,2,5,1,13]),(zzl,[14,2,5,1,13]),(z12o,[5]),(z16j,[2,5,1,6,14,13]),([1,0,0,1,1,0,0,1,0,1,1,1],[14,13,2,5,1]),(z16f,[14,13,2,5,1]),(z16e,[14,13,2,5,1]),([1,0,1,1,1],[5]),([0,1,1,1,1],[4]),([1,1,1,1,1],[4])]
def E_24 (N:Nat):Env:=z1c tys glob [(7,zo5 N)] [] [] [] false [] [(76,z7 N)]
theorem z24t (N:Nat):EnvOk Tryd.prog (E_24 N):=zi mixed zn (FnsOk.cons (zyt N) (FnsOk.nil)) (ItsOk.cons (za N) (ItsOk.nil))
def zqa (N:Nat)(s:(List UInt8))(d:DT8)(x13:Int)(state:Int)(x14:Int)(rec:Int->Int->Option Int)(k0:Int->Option Int):Option Int:=cond (decide (x14<x13)) (cond (inR state (List.length d.2.2.2.1)) (cond (inR x14 (List.length s)) (cond (inR (UInt8.toNat (List.getD s (Int.toNat x14) (0:UInt8)):Int) (List.length d.2.2.1)) (cond (inR (List.getD d.2.2.1 (Int.toNat (UInt8.toNat (List.getD s (Int.toNat x14) (0:UInt8)):Int)) 0) (List.length (List.getD d.2.2.2.1 (Int.toNat state) []))) (rec (List.getD (List.getD d.2.2.2.1 (Int.toNat state) []) (Int.toNat (List.getD d.2.2.1 (Int.toNat (UInt8.toNat (List.getD s (Int.toNat x14) (0:UInt8)):Int)) 0)) 0) (IntKind.wrap IntKind.i64 (x14+1))) none) none) none) none) (k0 state)
def zyp (N:Nat)(s:(List UInt8))(d:DT8)(state:Int)(x13:Int)(x14:Int)(k0:Int->Option Int):Option Int:=iter (fun (v:(Int×Int)) r=>zqa N s d x13 v.1 v.2 (fun state x14=>(r (state,x14))) k0) N (state,x14)
def z218 (N:Nat)(i:((List UInt8)×DT8×Int))(v:(Int×Int))(r:(Int×Int)->Option Int)(K:Ex->List A->Option Int):Option Int:=zqa N i.1 i.2.1 i.2.2 v.1 v.2 (fun state x14=>(r (state,x14))) (fun a0=>(K (.exit 0) (mkS [(5,.v (.int .i64))] 27 (a0,()))))
def z1x3 (N:Nat):Hd Int:=fun st K=>(unS z222 18 (restr [14,13,2,5,1] 0 st)).bind fun x=>iter (fun v r=>z218 N ((fun x=>(x.1,x.2.1,x.2.2.2.1)) x) v r K) N ((fun x=>(x.2.2.1,x.2.2.2.2.1)) x)
def t1_24 (N:Nat):Tab Int:=[]
theorem z1se {N:Nat}{c:Ctx}(hb:Base Tryd.prog (E_24 N) c):zj Tryd.prog c (zh z122 [0,1,0,1,1,1]) (z1x3 N) :=
 zu (s:=z222) (m:=18) (z218 N) [14,13,2,5,1] N (fun x=>(x.1,x.2.1,x.2.2.2.1)) (fun x=>(x.2.2.1,x.2.2.2.2.1)) (fun i v=>(i.1,i.2.1,v.1,i.2.2,v.2,())) (fun _=>rfl) (zd hb N (t1_24 N) L_24 z122 TabOk.nil zzc _ rfl) (fun i v r K=>by kernel_rfl)
def zt3 (N:Nat)(d:DT8)(s:(List UInt8)):Option Int:=(zt5 N d).bind fun y=>cond (!y) (some (-1)) (zyp N s d d.1 (List.length s:Int) 0 (fun state=>some state))
def t_24 (N:Nat):Tab Int:=[([0,1,0,1,1,1],z1x3 N)]
theorem z1jc (N:Nat)(x:z15 z1mk):z4u (E_24 N) N (t_24 N) L_24 Tryd.f9 (mkS z1mk 0 x) (z2l (.v (.int .i64)) 2)=zt3 N x.1 x.2.1:=by kernel_rfl
def zo4 (N:Nat):List A->Res:=zz z1mk (fun x=>zt3 N x.1 x.2.1) (z6n (.v (.int .i64)) 2)
theorem zyq (N:Nat):Contract Tryd.prog glob 9 (zo4 N) :=
 Contract.of (E:=E_24 N) (H:=t_24 N) (L:=L_24) (N:=N) (body:=z122) (K:=(z2l (.v (.int .i64)) 2)) (z24t N) Tryd.func9 (by kernel_rfl) (by decide) (fun _ hb=>(TabOk.cons (z1se hb) TabOk.nil)) (fun x y h=>by rw[z1jc];exact h) (z13 (s:=(.v (.int .i64))) (m:=2))
def z1kj:Code:=(Tryd.f11.body).getD .skip
def L_25:List (List Nat×List Nat):=[([0],[2,1]),([0,1],[5,2]),([0,1,1],[4]),([1,1,1],[4])]
def E_25 (N:Nat):Env:=z1c tys glob [(9,zo4 N)] [] [] [] false [] [(76,z7 N)]
theorem z24s (N:Nat):EnvOk Tryd.prog (E_25 N):=zi mixed zn (FnsOk.cons (zyq N) (FnsOk.nil)) (ItsOk.cons (za N) (ItsOk.nil))
def zmz (N:Nat)(d:DT8)(s:(List UInt8)):Option Bool:=(zt3 N d s).bind fun y=>cond (decide (0<=y)) (cond (inR y (List.length d.2.1)) (some (List.getD d.2.1 (Int.toNat y) false)) none) (some false)
def t_25 (N:Nat):Tab Bool:=[]
theorem z1jb (N:Nat)(x:z15 z1mk):z4u (E_25 N) N (t_25 N) L_25 Tryd.f11 (mkS z1mk 0 x) (z2l (.v .bool) 2)=zmz N x.1 x.2.1:=by kernel_rfl
def zt4 (N:Nat):List A->Res:=zz z1mk (fun x=>zmz N x.1 x.2.1) (z6n (.v .bool) 2)
theorem z15p (N:Nat):Contract Tryd.prog glob 11 (zt4 N) :=
 Contract.of (E:=E_25 N) (H:=t_25 N) (L:=L_25) (N:=N) (body:=z1kj) (K:=(z2l (.v .bool) 2)) (z24s N) Tryd.func11 (by kernel_rfl) (by decide) (fun _ hb=>TabOk.nil) (fun x y h=>by rw[z1jb];exact h) (z13 (s:=(.v .bool)) (m:=2))
def zin:Code:=(Tryd.f44.body).getD .skip
def z1n0:List (List Nat×List Nat):=[([0],[0]),([0,0,1],[7,0]),([1,0,1],[0]),([0,0,1,0,1],[2]),([1,0,1,0,1],[2]),([0,1,1],[0,3]),([0,0,1,1,1],[4,0,3]),([0,1,0,1,1,1],[4,0,3]),(z1de,[9,0,4,3]),(z1dd,[0,4,3]),(z1di,[]),(z1dg,[25,0,4,3]),([1,0,0,0,1,0,0,1,0,1,1,1],[0,4,3]),([0,0,1,0,0,0,1,0,0,1,0,1,1,1],[2]),([1,0,1,0,0,0,1,0,0,1,0,1,1,1],[2]),(z1df,[31,0,4,3]),([1,1,0,0,1,0,0,1,0,1,1,1],[4,0,3]),(z1dj,[4,0,3]),(zzl,[4,0,3]),(z1dc,[4,0,3]),([1,0,1,1,1],[]),([0,1,1,1,1],[2]),([1,1,1,1,1],[2])]
def z1m3 (N:Nat):Env:=z1c tys glob [] [] [] [] false [] [(76,z7 N)]
theorem z24r (N:Nat):EnvOk Tryd.prog (z1m3 N):=zi mixed zn (FnsOk.nil) (ItsOk.cons (za N) (ItsOk.nil))
def z8i (N:Nat)(b:(List Int))(top:Int)(i:Int)(k0:Bool->Option Bool):Option Bool:=cond (inR i (List.length b)) (cond (decide ((List.getD b (Int.toNat i) 0)<0)) (k0 true) (cond (inR i (List.length b)) (k0 (decide ((IntKind.wrap IntKind.i64 (top+1))<(List.getD b (Int.toNat i) 0)))) none)) none
def z1y2 (N:Nat)(x:z15 SQ5)(K:Ex->List A->Option Bool):Option Bool:=z8i N x.1 x.2.1 x.2.2.1 (fun a3=>(K .normal (mkS [(0,.v (.sl (.int .i64))),(2,.v (.int .i64)),(0,.v (.int .i64)),(20,.v .bool)] 10 (x.1,x.2.1,x.2.2.1,a3,()))))
def z1tx (N:Nat):Hd Bool:=fun st K=>(unS SQ5 31 (restr [0,4,3] 0 st)).bind fun x=>z1y2 N x K
def t4_26 (N:Nat):Tab Bool:=[]
theorem z1p8 {N:Nat}{c:Ctx}(hb:Base Tryd.prog (z1m3 N) c):zj Tryd.prog c (zh zin z1dg) (z1tx N) :=
 zk (s:=SQ5) (m:=31) (g:=z1y2 N) [0,4,3] (zd hb N (t4_26 N) z1n0 zin TabOk.nil z1dg _ rfl) (fun x K=>by kernel_rfl)
def z8j (N:Nat)(b:(List Int))(top:Int)(i:Int)(k0:Bool->Option Bool)(k1:Option Bool):Option Bool:=z8i N b top i (fun x25=>cond x25 (k0 false) k1)
def z1yk (N:Nat)(x:z15 SQ5)(K:Ex->List A->Option Bool):Option Bool:=z8j N x.1 x.2.1 x.2.2.1 (fun a0=>(K .ret (mkS [(2,.v .bool)] 33 (a0,())))) (K .normal (mkS SQ5 31 (x.1,x.2.1,x.2.2.1,())))
def z1uf (N:Nat):Hd Bool:=fun st K=>(unS SQ5 31 (restr [0,4,3] 0 st)).bind fun x=>z1yk N x K
def t3_26 (N:Nat):Tab Bool:=[(z1dg,z1tx N)]
theorem z1pq {N:Nat}{c:Ctx}(hb:Base Tryd.prog (z1m3 N) c):zj Tryd.prog c (zh zin z1ag) (z1uf N) :=
 zk (s:=SQ5) (m:=31) (g:=z1yk N) [0,4,3] (zd hb N (t3_26 N) z1n0 zin (TabOk.cons (z1p8 hb) TabOk.nil) z1ag _ rfl) (fun x K=>by kernel_rfl)
def z8k (N:Nat)(b:(List Int))(top:Int)(i:Int)(k0:Bool->Option Bool)(k1:Int->Option Bool):Option Bool:=z8j N b top i (fun x2=>k0 x2) (cond (inR i (List.length b)) (cond (decide (top<(List.getD b (Int.toNat i) 0))) (cond (inR i (List.length b)) (k1 (List.getD b (Int.toNat i) 0)) none) (k1 top)) none)
def z1ze (N:Nat)(x:z15 SQ5)(K:Ex->List A->Option Bool):Option Bool:=z8k N x.1 x.2.1 x.2.2.1 (fun a0=>(K .ret (mkS [(2,.v .bool)] 33 (a0,())))) (fun a1=>(K .normal (mkS SQ5 31 (x.1,a1,x.2.2.1,()))))
def z1v9 (N:Nat):Hd Bool:=fun st K=>(unS SQ5 31 (restr [0,4,3] 0 st)).bind fun x=>z1ze N x K
def t2_26 (N:Nat):Tab Bool:=[(z1ag,z1uf N)]
theorem z1qk {N:Nat}{c:Ctx}(hb:Base Tryd.prog (z1m3 N) c):zj Tryd.prog c (zh zin zzl) (z1v9 N) :=
 zk (s:=SQ5) (m:=31) (g:=z1ze N) [0,4,3] (zd hb N (t2_26 N) z1n0 zin (TabOk.cons (z1pq hb) TabOk.nil) zzl _ rfl) (fun x K=>by kernel_rfl)
def z5r (N:Nat)(b:(List Int))(top:Int)(i:Int)(rec:Int->Int->Option Bool)(k0:Bool->Option Bool)(k1:Option Bool):Option Bool:=cond (decide (i<256)) (z8k N b top i (fun x2=>k0 x2) (fun top1=>rec top1 (IntKind.wrap IntKind.i64 (i+1)))) k1
def zdw (N:Nat)(b:(List Int))(top:Int)(i:Int)(k0:Bool->Option Bool)(k1:Option Bool):Option Bool:=iter (fun (v:(Int×Int)) r=>z5r N b v.1 v.2 (fun top i=>(r (top,i))) k0 k1) N (top,i)
def z217 (N:Nat)(i:(List Int))(v:(Int×Int))(r:(Int×Int)->Option Bool)(K:Ex->List A->Option Bool):Option Bool:=z5r N i v.1 v.2 (fun top i=>(r (top,i))) (fun a0=>(K .ret (mkS [(2,.v .bool)] 33 (a0,())))) (K (.exit 0) (mkS [] 36 ()))
def z1x2 (N:Nat):Hd Bool:=fun st K=>(unS SQ5 31 (restr [4,0,3] 0 st)).bind fun x=>iter (fun v r=>z217 N ((fun x=>x.1) x) v r K) N ((fun x=>(x.2.1,x.2.2.1)) x)
def t1_26 (N:Nat):Tab Bool:=[(zzl,z1v9 N)]
theorem z1sd {N:Nat}{c:Ctx}(hb:Base Tryd.prog (z1m3 N) c):zj Tryd.prog c (zh zin [0,1,0,1,1,1]) (z1x2 N) :=
 zu (s:=SQ5) (m:=31) (z217 N) [4,0,3] N (fun x=>x.1) (fun x=>(x.2.1,x.2.2.1)) (fun i v=>(i,v.1,v.2,())) (fun _=>rfl) (zd hb N (t1_26 N) z1n0 zin (TabOk.cons (z1qk hb) TabOk.nil) zzc _ rfl) (fun i v r K=>by kernel_rfl)
def z5v (N:Nat)(b:(List Int)):Option Bool:=cond ((List.length b:Int) != 256) (some false) (zdw N b (-1) 0 (fun x2=>some x2) (some true))
def t_26 (N:Nat):Tab Bool:=[([0,1,0,1,1,1],z1x2 N)]
theorem z1ja (N:Nat)(x:z15 zof):z4u (z1m3 N) N (t_26 N) z1n0 Tryd.f44 (mkS zof 0 x) (z2l (.v .bool) 1)=z5v N x.1:=by kernel_rfl
def zco (N:Nat):List A->Res:=zz zof (fun x=>z5v N x.1) (z6n (.v .bool) 1)
theorem zlh (N:Nat):Contract Tryd.prog glob 44 (zco N) :=
 Contract.of (E:=z1m3 N) (H:=t_26 N) (L:=z1n0) (N:=N) (body:=zin) (K:=(z2l (.v .bool) 1)) (z24r N) Tryd.func44 (by kernel_rfl) (by decide) (fun _ hb=>(TabOk.cons (z1sd hb) TabOk.nil)) (fun x y h=>by rw[z1ja];exact h) (z13 (s:=(.v .bool)) (m:=1))
def zim:Code:=(Tryd.f22.body).getD .skip
def z1mz:List (List Nat×List Nat):=[([0],[0]),([0,1],[0,3]),([0,0,1,1],[4,0,3]),([0,1,0,1,1],[4,0,3]),(zzj,[12,0,4,3]),(zzi,[0,4,3]),(z1fb,[3]),(z1d8,[20,0,4,3]),(z16i,[4,0,3]),([0,1,0,0,1,0,0,1,0,1,1],[4,0,3]),(zqy,[4,0,3]),(zzh,[4,0,3]),([1,0,1,1],[3]),([0,1,1,1],[2]),([1,1,1,1],[2])]
def z1m2 (N:Nat):Env:=z1c tys glob [(44,zco N)] [] [] [] false [] [(76,z7 N)]
theorem z24q (N:Nat):EnvOk Tryd.prog (z1m2 N):=zi mixed zn (FnsOk.cons (zlh N) (FnsOk.nil)) (ItsOk.cons (za N) (ItsOk.nil))
def z8m (N:Nat)(b:(List Int))(top:Int)(i:Int)(k0:Option Int)(k1:Option Int):Option Int:=cond (decide (i<(List.length b:Int))) ((z5v N b).bind fun y=>cond y k0 k1) k1
def z1yj (N:Nat)(x:z15 SQ5)(K:Ex->List A->Option Int):Option Int:=z8m N x.1 x.2.1 x.2.2.1 (K .normal (mkS SQ5 22 (x.1,x.2.1,x.2.2.1,()))) (K (.exit 0) (mkS [(3,.v (.int .i64))] 23 (x.2.1,())))
def z1ue (N:Nat):Hd Int:=fun st K=>(unS SQ5 22 (restr [4,0,3] 0 st)).bind fun x=>z1yj N x K
def t3_27 (N:Nat):Tab Int:=[]
theorem z1pp {N:Nat}{c:Ctx}(hb:Base Tryd.prog (z1m2 N) c):zj Tryd.prog c (zh zim z14g) (z1ue N) :=
 zk (s:=SQ5) (m:=22) (g:=z1yj N) [4,0,3] (zd hb N (t3_27 N) z1mz zim TabOk.nil z14g _ rfl) (fun x K=>by kernel_rfl)
def z8l (N:Nat)(b:(List Int))(top:Int)(i:Int)(k0:Int->Option Int):Option Int:=cond (inR i (List.length b)) (cond (decide (top<(List.getD b (Int.toNat i) 0))) (cond (inR i (List.length b)) (k0 (List.getD b (Int.toNat i) 0)) none) (k0 top)) none
def z1y1 (N:Nat)(x:z15 SQ5)(K:Ex->List A->Option Int):Option Int:=z8l N x.1 x.2.1 x.2.2.1 (fun a1=>(K .normal (mkS SQ5 22 (x.1,a1,x.2.2.1,()))))
def z1tw (N:Nat):Hd Int:=fun st K=>(unS SQ5 22 (restr [0,4,3] 0 st)).bind fun x=>z1y1 N x K
def t4_27 (N:Nat):Tab Int:=[]
theorem z1p7 {N:Nat}{c:Ctx}(hb:Base Tryd.prog (z1m2 N) c):zj Tryd.prog c (zh zim zqy) (z1tw N) :=
 zk (s:=SQ5) (m:=22) (g:=z1y1 N) [0,4,3] (zd hb N (t4_27 N) z1mz zim TabOk.nil zqy _ rfl) (fun x K=>by kernel_rfl)
def z5s (N:Nat)(b:(List Int))(top:Int)(i:Int)(rec:Int->Int->Option Int)(k0:Int->Option Int):Option Int:=z8m N b top i (z8l N b top i (fun top1=>rec top1 (IntKind.wrap IntKind.i64 (i+1)))) (k0 top)
def zdx (N:Nat)(b:(List Int))(top:Int)(i:Int)(k0:Int->Option Int):Option Int:=iter (fun (v:(Int×Int)) r=>z5s N b v.1 v.2 (fun top i=>(r (top,i))) k0) N (top,i)
def z1zd (N:Nat)(i:(List Int))(v:(Int×Int))(r:(Int×Int)->Option Int)(K:Ex->List A->Option Int):Option Int:=z5s N i v.1 v.2 (fun top i=>(r (top,i))) (fun a0=>(K (.exit 0) (mkS [(3,.v (.int .i64))] 23 (a0,()))))
def z1v8 (N:Nat):Hd Int:=fun st K=>(unS SQ5 22 (restr [4,0,3] 0 st)).bind fun x=>iter (fun v r=>z1zd N ((fun x=>x.1) x) v r K) N ((fun x=>(x.2.1,x.2.2.1)) x)
def t2_27 (N:Nat):Tab Int:=[(z14g,z1ue N),(zqy,z1tw N)]
theorem z1qj {N:Nat}{c:Ctx}(hb:Base Tryd.prog (z1m2 N) c):zj Tryd.prog c (zh zim [0,1,0,1,1]) (z1v8 N) :=
 zu (s:=SQ5) (m:=22) (z1zd N) [4,0,3] N (fun x=>x.1) (fun x=>(x.2.1,x.2.2.1)) (fun i v=>(i,v.1,v.2,())) (fun _=>rfl) (zd hb N (t2_27 N) z1mz zim (TabOk.cons (z1pp hb) (TabOk.cons (z1p7 hb) TabOk.nil)) [0,0,1,0,1,1] _ rfl) (fun i v r K=>by kernel_rfl)
def z8n (N:Nat)(b:(List Int))(top:Int)(k0:Int->Option Int):Option Int:=zdx N b top 0 (fun top1=>k0 top1)
def z216 (N:Nat)(x:z15 z1kz)(K:Ex->List A->Option Int):Option Int:=z8n N x.1 x.2.1 (fun a0=>(K .normal (mkS [(3,.v (.int .i64))] 23 (a0,()))))
def z1x1 (N:Nat):Hd Int:=fun st K=>(unS z1kz 23 (restr [0,3] 0 st)).bind fun x=>z216 N x K
def t1_27 (N:Nat):Tab Int:=[([0,1,0,1,1],z1v8 N)]
theorem z1sc {N:Nat}{c:Ctx}(hb:Base Tryd.prog (z1m2 N) c):zj Tryd.prog c (zh zim [0,1,1]) (z1x1 N) :=
 zk (s:=z1kz) (m:=23) (g:=z216 N) [0,3] (zd hb N (t1_27 N) z1mz zim (TabOk.cons (z1qj hb) TabOk.nil) [0,1,1] _ rfl) (fun x K=>by kernel_rfl)
def z5w (N:Nat)(b:(List Int)):Option Int:=z8n N b (-1) (fun top=>some (IntKind.wrap IntKind.i64 (top+1)))
def t_27 (N:Nat):Tab Int:=[([0,1,1],z1x1 N)]
theorem z1j9 (N:Nat)(x:z15 zof):z4u (z1m2 N) N (t_27 N) z1mz Tryd.f22 (mkS zof 0 x) (z2l (.v (.int .i64)) 1)=z5w N x.1:=by kernel_rfl
def zcp (N:Nat):List A->Res:=zz zof (fun x=>z5w N x.1) (z6n (.v (.int .i64)) 1)
theorem zli (N:Nat):Contract Tryd.prog glob 22 (zcp N) :=
 Contract.of (E:=z1m2 N) (H:=t_27 N) (L:=z1mz) (N:=N) (body:=zim) (K:=(z2l (.v (.int .i64)) 1)) (z24q N) Tryd.func22 (by kernel_rfl) (by decide) (fun _ hb=>(TabOk.cons (z1sc hb) TabOk.nil)) (fun x y h=>by rw[z1j9];exact h) (z13 (s:=(.v (.int .i64))) (m:=1))
def zn4:Code:=(Tryd.f51.body).getD .skip
def z22n:List (List Nat×List Nat):=[([0],[0,1]),([0,0,1],[5,0,1]),([0,1,0,1],[5,0,1]),([0,0,0,0,1,0,1],[9,0,5,1]),([1,0,0,0,1,0,1],[0,5,1]),(z1a8,[]),(zzg,[40,5,0,1]),(z1ac,[5,0,1]),(z1af,[4]),(z1ae,[4]),(z14i,[5,0,1]),([1,1,0,0,1,0,1],[5,0,1]),([1,0,1],[]),([0,1,1],[4]),([1,1,1],[4])]
def z1n6 (N:Nat):Env:=z1c tys glob [] [] [] [] false [] [(76,z7 N)]
theorem z24p (N:Nat):EnvOk Tryd.prog (z1n6 N):=zi mixed zn (FnsOk.nil) (ItsOk.cons (za N) (ItsOk.nil))
def z7l (N:Nat)(l:(List Int))(many:Int)(i:Int)(k0:Bool->Option Bool):Option Bool:=cond (inR i (List.length l)) (cond (decide ((List.getD l (Int.toNat i) 0)<0)) (k0 true) (cond (inR i (List.length l)) (cond (decide (many<=(List.getD l (Int.toNat i) 0))) (k0 true) (cond (decide (0<i)) (cond (inR (IntKind.wrap IntKind.i64 (i - 1)) (List.length l)) (cond (inR i (List.length l)) (k0 (decide ((List.getD l (Int.toNat i) 0)<=(List.getD l (Int.toNat (IntKind.wrap IntKind.i64 (i - 1))) 0)))) none) none) (k0 false))) none)) none
def z1yi (N:Nat)(x:z15 z162)(K:Ex->List A->Option Bool):Option Bool:=z7l N x.1 x.2.1 x.2.2.1 (fun a3=>(K .normal (mkS [(0,.v (.sl (.int .i64))),(0,.v (.int .i64)),(3,.v (.int .i64)),(34,.v .bool)] 0 (x.1,x.2.1,x.2.2.1,a3,()))))
def z1ud (N:Nat):Hd Bool:=fun st K=>(unS z162 35 (restr [0,5,1] 0 st)).bind fun x=>z1yi N x K
def t3_31 (N:Nat):Tab Bool:=[]
theorem z1po {N:Nat}{c:Ctx}(hb:Base Tryd.prog (z1n6 N) c):zj Tryd.prog c (zh zn4 zzg) (z1ud N) :=
 zk (s:=z162) (m:=35) (g:=z1yi N) [0,5,1] (zd hb N (t3_31 N) z22n zn4 TabOk.nil zzg _ rfl) (fun x K=>by kernel_rfl)
def z7m (N:Nat)(l:(List Int))(many:Int)(i:Int)(k0:Bool->Option Bool)(k1:Option Bool):Option Bool:=z7l N l many i (fun x40=>cond x40 (k0 false) k1)
def z1zc (N:Nat)(x:z15 z162)(K:Ex->List A->Option Bool):Option Bool:=z7m N x.1 x.2.1 x.2.2.1 (fun a0=>(K .ret (mkS [(4,.v .bool)] 36 (a0,())))) (K .normal (mkS z162 35 (x.1,x.2.1,x.2.2.1,())))
def z1v7 (N:Nat):Hd Bool:=fun st K=>(unS z162 35 (restr [0,5,1] 0 st)).bind fun x=>z1zc N x K
def t2_31 (N:Nat):Tab Bool:=[(zzg,z1ud N)]
theorem z1qi {N:Nat}{c:Ctx}(hb:Base Tryd.prog (z1n6 N) c):zj Tryd.prog c (zh zn4 z14i) (z1v7 N) :=
 zk (s:=z162) (m:=35) (g:=z1zc N) [0,5,1] (zd hb N (t2_31 N) z22n zn4 (TabOk.cons (z1po hb) TabOk.nil) z14i _ rfl) (fun x K=>by kernel_rfl)
def z2q (N:Nat)(l:(List Int))(many:Int)(i:Int)(rec:Int->Option Bool)(k0:Bool->Option Bool)(k1:Option Bool):Option Bool:=cond (decide (i<(List.length l:Int))) (z7m N l many i (fun x4=>k0 x4) (rec (IntKind.wrap IntKind.i64 (i+1)))) k1
def zcq (N:Nat)(l:(List Int))(many:Int)(i:Int)(k0:Bool->Option Bool)(k1:Option Bool):Option Bool:=iter (fun (v:Int) r=>z2q N l many v (fun i=>(r i)) k0 k1) N i
def z215 (N:Nat)(i:((List Int)×Int))(v:Int)(r:Int->Option Bool)(K:Ex->List A->Option Bool):Option Bool:=z2q N i.1 i.2 v (fun i=>(r i)) (fun a0=>(K .ret (mkS [(4,.v .bool)] 36 (a0,())))) (K (.exit 0) (mkS [] 41 ()))
def z1x0 (N:Nat):Hd Bool:=fun st K=>(unS z162 35 (restr [5,0,1] 0 st)).bind fun x=>iter (fun v r=>z215 N ((fun x=>(x.1,x.2.1)) x) v r K) N ((fun x=>x.2.2.1) x)
def t1_31 (N:Nat):Tab Bool:=[(z14i,z1v7 N)]
theorem z1sb {N:Nat}{c:Ctx}(hb:Base Tryd.prog (z1n6 N) c):zj Tryd.prog c (zh zn4 [0,1,0,1]) (z1x0 N) :=
 zu (s:=z162) (m:=35) (z215 N) [5,0,1] N (fun x=>(x.1,x.2.1)) (fun x=>x.2.2.1) (fun i v=>(i.1,i.2,v,())) (fun _=>rfl) (zd hb N (t1_31 N) z22n zn4 (TabOk.cons (z1qi hb) TabOk.nil) [0,0,1,0,1] _ rfl) (fun i v r K=>by kernel_rfl)
def z2y (N:Nat)(l:(List Int))(many:Int):Option Bool:=zcq N l many 0 (fun x4=>some x4) (some true)
def t_31 (N:Nat):Tab Bool:=[([0,1,0,1],z1x0 N)]
theorem z1j8 (N:Nat)(x:z15 z12c):z4u (z1n6 N) N (t_31 N) z22n Tryd.f51 (mkS z12c 0 x) (z2l (.v .bool) 2)=z2y N x.1 x.2.1:=by kernel_rfl
def zbf (N:Nat):List A->Res:=zz z12c (fun x=>z2y N x.1 x.2.1) (z6n (.v .bool) 2)
theorem zjz (N:Nat):Contract Tryd.prog glob 51 (zbf N) :=
 Contract.of (E:=z1n6 N) (H:=t_31 N) (L:=z22n) (N:=N) (body:=zn4) (K:=(z2l (.v .bool) 2)) (z24p N) Tryd.func51 (by kernel_rfl) (by decide) (fun _ hb=>(TabOk.cons (z1sb hb) TabOk.nil)) (fun x y h=>by rw[z1j8];exact h) (z13 (s:=(.v .bool)) (m:=2))
def zn3:Code:=(Tryd.f26.body).getD .skip
def z22m:List (List Nat×List Nat):=[([0],[1]),([0,1],[3,1]),([0,0,1,1],[30,3,1]),([1,0,1,1],[3,1]),([0,0,1,0,1,1],[2]),([1,0,1,0,1,1],[2]),([0,0,1,1,1],[4,3,1]),([0,1,0,1,1,1],[4,3,1]),(z1de,[33,1,4,3]),(z1dd,[1,4,3]),(z1di,[]),(z1ag,[43,4,3,1]),([1,0,0,1,0,0,1,0,1,1,1],[4,3,1]),([0,0,1,0,0,1,0,0,1,0,1,1,1],[2]),([1,0,1,0,0,1,0,0,1,0,1,1,1],[2]),(zzl,[4,3,1]),(z1dc,[4,3,1]),([1,0,1,1,1],[]),([0,1,1,1,1],[2]),([1,1,1,1,1],[2])]
def z1n5 (N:Nat):Env:=z1c tys glob [(51,zbf N)] [] [] [] false [] [(76,z7 N)]
theorem z24o (N:Nat):EnvOk Tryd.prog (z1n5 N):=zi mixed zn (FnsOk.cons (zjz N) (FnsOk.nil)) (ItsOk.cons (za N) (ItsOk.nil))
def z8o (N:Nat)(p:z4y)(many:Int)(k0:Bool->Option Bool):Option Bool:=cond (decide (512<many)) (k0 true) (cond ((List.length p.2.2.2.2.1:Int) != many) (k0 true) ((z2y N p.2.2.1 many).bind fun y=>cond (!y) (k0 true) ((z2y N p.2.2.2.1 many).bind fun y1=>k0 (!y1))))
def z1zb (N:Nat)(x:z15 z1kx)(K:Ex->List A->Option Bool):Option Bool:=z8o N x.1 x.2.1 (fun a2=>(K .normal (mkS [(1,.box TT2),(1,.v (.int .i64)),(26,.v .bool)] 13 (x.1,x.2.1,a2,()))))
def z1v6 (N:Nat):Hd Bool:=fun st K=>(unS z1kx 40 (restr [3,1] 0 st)).bind fun x=>z1zb N x K
def t2_32 (N:Nat):Tab Bool:=[]
theorem z1qh {N:Nat}{c:Ctx}(hb:Base Tryd.prog (z1n5 N) c):zj Tryd.prog c (zh zn3 [0,0,1,1]) (z1v6 N) :=
 zk (s:=z1kx) (m:=40) (g:=z1zb N) [3,1] (zd hb N (t2_32 N) z22m zn3 TabOk.nil [0,0,1,1] _ rfl) (fun x K=>by kernel_rfl)
def z8p (N:Nat)(p:z4y)(many:Int)(k0:Bool->Option Bool)(k1:Option Bool):Option Bool:=z8o N p many (fun x30=>cond x30 (k0 false) k1)
def z214 (N:Nat)(x:z15 z1kx)(K:Ex->List A->Option Bool):Option Bool:=z8p N x.1 x.2.1 (fun a0=>(K .ret (mkS [(2,.v .bool)] 41 (a0,())))) (K .normal (mkS z1kx 40 (x.1,x.2.1,())))
def z1wz (N:Nat):Hd Bool:=fun st K=>(unS z1kx 40 (restr [3,1] 0 st)).bind fun x=>z214 N x K
def t1_32 (N:Nat):Tab Bool:=[([0,0,1,1],z1v6 N)]
theorem z1sa {N:Nat}{c:Ctx}(hb:Base Tryd.prog (z1n5 N) c):zj Tryd.prog c (zh zn3 [0,1,1]) (z1wz N) :=
 zk (s:=z1kx) (m:=40) (g:=z214 N) [3,1] (zd hb N (t1_32 N) z22m zn3 (TabOk.cons (z1qh hb) TabOk.nil) [0,1,1] _ rfl) (fun x K=>by kernel_rfl)
def z30 (N:Nat)(p:z4y)(many:Int)(i:Int)(rec:Int->Option Bool)(k0:Bool->Option Bool)(k1:Option Bool):Option Bool:=cond (decide (i<many)) (cond (inR i (List.length p.2.2.2.2.1)) ((z2y N (List.getD p.2.2.2.2.1 (Int.toNat i) []) many).bind fun y=>cond (!y) (k0 false) (rec (IntKind.wrap IntKind.i64 (i+1)))) none) k1
def zdy (N:Nat)(p:z4y)(many:Int)(i:Int)(k0:Bool->Option Bool)(k1:Option Bool):Option Bool:=iter (fun (v:Int) r=>z30 N p many v (fun i=>(r i)) k0 k1) N i
def z1yh (N:Nat)(i:(z4y×Int))(v:Int)(r:Int->Option Bool)(K:Ex->List A->Option Bool):Option Bool:=z30 N i.1 i.2 v (fun i=>(r i)) (fun a0=>(K .ret (mkS [(2,.v .bool)] 41 (a0,())))) (K (.exit 0) (mkS [] 44 ()))
def z1uc (N:Nat):Hd Bool:=fun st K=>(unS [(1,.box TT2),(1,.v (.int .i64)),(0,.v (.int .i64))] 39 (restr [4,3,1] 0 st)).bind fun x=>iter (fun v r=>z1yh N ((fun x=>(x.1,x.2.1)) x) v r K) N ((fun x=>x.2.2.1) x)
def t3_32 (N:Nat):Tab Bool:=[]
theorem z1pn {N:Nat}{c:Ctx}(hb:Base Tryd.prog (z1n5 N) c):zj Tryd.prog c (zh zn3 [0,1,0,1,1,1]) (z1uc N) :=
 zu (s:=[(1,.box TT2),(1,.v (.int .i64)),(0,.v (.int .i64))]) (m:=39) (z1yh N) [4,3,1] N (fun x=>(x.1,x.2.1)) (fun x=>x.2.2.1) (fun i v=>(i.1,i.2,v,())) (fun _=>rfl) (zd hb N (t3_32 N) z22m zn3 TabOk.nil zzc _ rfl) (fun i v r K=>by kernel_rfl)
def z4c (N:Nat)(p:z4y):Option Bool:=z8p N p (List.length p.1:Int) (fun x2=>some x2) (zdy N p (List.length p.1:Int) 0 (fun x21=>some x21) (some true))
def t_32 (N:Nat):Tab Bool:=[([0,1,1],z1wz N),([0,1,0,1,1,1],z1uc N)]
theorem z1j7 (N:Nat)(x:z15 [(0,.v TT2)]):z4u (z1n5 N) N (t_32 N) z22m Tryd.f26 (mkS [(0,.v TT2)] 0 x) (z2l (.v .bool) 1)=z4c N x.1:=by kernel_rfl
def zcr (N:Nat):List A->Res:=zz [(0,.v TT2)] (fun x=>z4c N x.1) (z6n (.v .bool) 1)
theorem zlj (N:Nat):Contract Tryd.prog glob 26 (zcr N) :=
 Contract.of (E:=z1n5 N) (H:=t_32 N) (L:=z22m) (N:=N) (body:=zn3) (K:=(z2l (.v .bool) 1)) (z24o N) Tryd.func26 (by kernel_rfl) (by decide) (fun _ hb=>(TabOk.cons (z1sa hb) (TabOk.cons (z1pn hb) TabOk.nil))) (fun x y h=>by rw[z1j7];exact h) (z13 (s:=(.v .bool)) (m:=1))
def z121:Code:=(Tryd.f29.body).getD .skip
def L_33:List (List Nat×List Nat):=[([0],[1,2]),([0,1],[1,5]),([0,0,1,1],[6,1,5]),([0,1,0,1,1],[6,1,5]),(zzj,[14,5,6,1]),(zzi,[5,6,1]),(z1fb,[5]),([0,0,1,0,0,1,0,1,1],[6,1,5]),(zqy,[6,1,5]),(zzh,[6,1,5]),([1,0,1,1],[5]),([0,1,1,1],[4]),([1,1,1,1],[4])]
def E_33 (N:Nat):Env:=z1c tys glob [] [] [] [] false [] [(76,z7 N)]
theorem z24n (N:Nat):EnvOk Tryd.prog (E_33 N):=zi mixed zn (FnsOk.nil) (ItsOk.cons (za N) (ItsOk.nil))
def z75 (N:Nat)(b:Int)(w:Int)(i:Int)(rec:Int->Int->Option Bool)(k0:Int->Option Bool):Option Bool:=cond (decide (i<(Int.tmod b 64))) (rec (IntKind.wrap IntKind.u64 (Int.tdiv w 2)) (IntKind.wrap IntKind.i64 (i+1))) (k0 w)
def zaq (N:Nat)(b:Int)(w:Int)(i:Int)(k0:Int->Option Bool):Option Bool:=iter (fun (v:(Int×Int)) r=>z75 N b v.1 v.2 (fun w i=>(r (w,i))) k0) N (w,i)
def z213 (N:Nat)(i:Int)(v:(Int×Int))(r:(Int×Int)->Option Bool)(K:Ex->List A->Option Bool):Option Bool:=z75 N i v.1 v.2 (fun w i=>(r (w,i))) (fun a0=>(K (.exit 0) (mkS [(5,.v (.int .u64))] 16 (a0,()))))
def z1wy (N:Nat):Hd Bool:=fun st K=>(unS [(1,.v (.int .i64)),(3,.v (.int .u64)),(0,.v (.int .i64))] 15 (restr [6,1,5] 0 st)).bind fun x=>iter (fun v r=>z213 N ((fun x=>x.1) x) v r K) N ((fun x=>(x.2.1,x.2.2.1)) x)
def t1_33 (N:Nat):Tab Bool:=[]
theorem z1s9 {N:Nat}{c:Ctx}(hb:Base Tryd.prog (E_33 N) c):zj Tryd.prog c (zh z121 [0,1,0,1,1]) (z1wy N) :=
 zu (s:=[(1,.v (.int .i64)),(3,.v (.int .u64)),(0,.v (.int .i64))]) (m:=15) (z213 N) [6,1,5] N (fun x=>x.1) (fun x=>(x.2.1,x.2.2.1)) (fun i v=>(i,v.1,v.2,())) (fun _=>rfl) (zd hb N (t1_33 N) L_33 z121 TabOk.nil [0,0,1,0,1,1] _ rfl) (fun i v r K=>by kernel_rfl)
def z4o (N:Nat)(s:(List Int))(b:Int):Option Bool:=cond (inR (IntKind.wrap IntKind.i64 (Int.tdiv b 64)) 4) (cond (decide ((Int.toNat (IntKind.wrap IntKind.i64 (Int.tdiv b 64)))<(List.length s))) (zaq N b (List.getD s (Int.toNat (IntKind.wrap IntKind.i64 (Int.tdiv b 64))) 0) 0 (fun w=>some ((Int.tmod w 2) == 1))) none) none
def t_33 (N:Nat):Tab Bool:=[([0,1,0,1,1],z1wy N)]
theorem z1j6 (N:Nat)(x:z15 z1l0):z4u (E_33 N) N (t_33 N) L_33 Tryd.f29 (mkS z1l0 0 x) (z2l (.v .bool) 2)=z4o N x.1 x.2.1:=by kernel_rfl
def z9h (N:Nat):List A->Res:=zz z1l0 (fun x=>z4o N x.1 x.2.1) (z6n (.v .bool) 2)
theorem zg5 (N:Nat):Contract Tryd.prog glob 29 (z9h N) :=
 Contract.of (E:=E_33 N) (H:=t_33 N) (L:=L_33) (N:=N) (body:=z121) (K:=(z2l (.v .bool) 2)) (z24n N) Tryd.func29 (by kernel_rfl) (by decide) (fun _ hb=>(TabOk.cons (z1s9 hb) TabOk.nil)) (fun x y h=>by rw[z1j6];exact h) (z13 (s:=(.v .bool)) (m:=2))
def z120:Code:=(Tryd.f52.body).getD .skip
def L_34:List (List Nat×List Nat):=[([0],[0,1,2]),([0,0,1],[7,0,1,2]),([0,1,0,1],[7,0,1,2]),([0,0,0,0,1,0,1],[11,0,7,1,2]),([1,0,0,0,1,0,1],[0,7,1,2]),(z1a8,[]),(zzg,[26,7,0,1,2]),(z1ac,[7,0,1,2]),(z1af,[6]),(z1ae,[6]),(z14i,[7,0,1,2]),([1,1,0,0,1,0,1],[7,0,1,2]),([1,0,1],[]),([0,1,1],[6]),([1,1,1],[6])]
def E_34 (N:Nat):Env:=z1c tys glob [(29,z9h N)] [] [] [] false [] [(76,z7 N)]
theorem z24m (N:Nat):EnvOk Tryd.prog (E_34 N):=zi mixed zn (FnsOk.cons (zg5 N) (FnsOk.nil)) (ItsOk.cons (za N) (ItsOk.nil))
def z5q (N:Nat)(sets:(List (List Int)))(a:Int)(b:Int)(i:Int)(rec:Int->Option Bool)(k0:Bool->Option Bool)(k1:Option Bool):Option Bool:=cond (decide (i<(List.length sets:Int))) (cond (inR i (List.length sets)) ((z4o N (List.getD sets (Int.toNat i) []) a).bind fun y=>cond (inR i (List.length sets)) ((z4o N (List.getD sets (Int.toNat i) []) b).bind fun y1=>cond (!(y == y1)) (k0 false) (rec (IntKind.wrap IntKind.i64 (i+1)))) none) none) k1
def zdv (N:Nat)(sets:(List (List Int)))(a:Int)(b:Int)(i:Int)(k0:Bool->Option Bool)(k1:Option Bool):Option Bool:=iter (fun (v:Int) r=>z5q N sets a b v (fun i=>(r i)) k0 k1) N i
def z212 (N:Nat)(i:((List (List Int))×Int×Int))(v:Int)(r:Int->Option Bool)(K:Ex->List A->Option Bool):Option Bool:=z5q N i.1 i.2.1 i.2.2 v (fun i=>(r i)) (fun a0=>(K .ret (mkS [(6,.v .bool)] 20 (a0,())))) (K (.exit 0) (mkS [] 27 ()))
def z1wx (N:Nat):Hd Bool:=fun st K=>(unS z226 19 (restr [7,0,1,2] 0 st)).bind fun x=>iter (fun v r=>z212 N ((fun x=>(x.1,x.2.1,x.2.2.1)) x) v r K) N ((fun x=>x.2.2.2.1) x)
def t1_34 (N:Nat):Tab Bool:=[]
theorem z1s8 {N:Nat}{c:Ctx}(hb:Base Tryd.prog (E_34 N) c):zj Tryd.prog c (zh z120 [0,1,0,1]) (z1wx N) :=
 zu (s:=z226) (m:=19) (z212 N) [7,0,1,2] N (fun x=>(x.1,x.2.1,x.2.2.1)) (fun x=>x.2.2.2.1) (fun i v=>(i.1,i.2.1,i.2.2,v,())) (fun _=>rfl) (zd hb N (t1_34 N) L_34 z120 TabOk.nil [0,0,1,0,1] _ rfl) (fun i v r K=>by kernel_rfl)
def z5u (N:Nat)(sets:(List (List Int)))(a:Int)(b:Int):Option Bool:=zdv N sets a b 0 (fun x6=>some x6) (some true)
def t_34 (N:Nat):Tab Bool:=[([0,1,0,1],z1wx N)]
theorem z1j5 (N:Nat)(x:z15 SQ94):z4u (E_34 N) N (t_34 N) L_34 Tryd.f52 (mkS SQ94 0 x) (z2l (.v .bool) 3)=z5u N x.1 x.2.1 x.2.2.1:=by kernel_rfl
def zcn (N:Nat):List A->Res:=zz SQ94 (fun x=>z5u N x.1 x.2.1 x.2.2.1) (z6n (.v .bool) 3)
theorem zlg (N:Nat):Contract Tryd.prog glob 52 (zcn N) :=
 Contract.of (E:=E_34 N) (H:=t_34 N) (L:=L_34) (N:=N) (body:=z120) (K:=(z2l (.v .bool) 3)) (z24m N) Tryd.func52 (by kernel_rfl) (by decide) (fun _ hb=>(TabOk.cons (z1s8 hb) TabOk.nil)) (fun x y h=>by rw[z1j5];exact h) (z13 (s:=(.v .bool)) (m:=3))
def z9i:Code:=(Tryd.f27.body).getD .skip
def z1do:List (List Nat×List Nat):=[([0],[0]),([0,1],[0,3]),([0,1,1],[0,3,4]),([0,0,1,1,1],[5,0,3,4]),([0,1,0,1,1,1],[5,0,3,4]),(z1de,[9,5,0,3,4]),(z1dd,[5,0,3,4]),(z1di,[3]),(z1ag,[5,6,0,3,4]),([0,0,1,0,0,1,0,0,1,0,1,1,1],[7,5,6,0,3,4]),(z1le,[7,5,6,0,3,4]),([0,0,0,0,1,0,1,0,0,1,0,0,1,0,1,1,1],[18,0,7,5,3,4,6]),([1,0,0,0,1,0,1,0,0,1,0,0,1,0,1,1,1],[0,7,5,3,4,6]),([1,1,0,0,0,1,0,1,0,0,1,0,0,1,0,1,1,1],[6,4,3,5,0]),([0,0,0,1,0,0,1,0,1,0,0,1,0,0,1,0,1,1,1],[24,3,7,5,0,4,6]),([1,0,0,1,0,0,1,0,1,0,0,1,0,0,1,0,1,1,1],[7,5,6,0,3,4]),([0,1,0,0,1,0,0,1,0,1,0,0,1,0,0,1,0,1,1,1],[7,5,6,0,3,4]),(z1dn,[7,5,6,0,3,4]),([1,1,0,0,1,0,1,0,0,1,0,0,1,0,1,1,1],[7,5,6,0,3,4]),([1,0,1,0,0,1,0,0,1,0,1,1,1],[6,4,3,5,0]),([0,0,1,1,0,0,1,0,0,1,0,1,1,1],[30,4,3,5,0,6]),([1,0,1,1,0,0,1,0,0,1,0,1,1,1],[3,6,5,0,4]),([0,0,1,0,1,1,0,0,1,0,0,1,0,1,1,1],[4,3,6,5,0]),([1,0,1,0,1,1,0,0,1,0,0,1,0,1,1,1],[3,6,5,0,4]),([1,1,1,0,0,1,0,0,1,0,1,1,1],[5,0,3,4]),(zzl,[5,0,3,4]),(z1dc,[5,0,3,4]),([1,0,1,1,1],[3]),([0,1,1,1,1],[2]),([1,1,1,1,1],[2])]
def z1ap (N:Nat):Env:=z1c tys glob [(52,zcn N)] [(3,(.int .i64)),(2,(.int .i64))] [] [] false [] [(76,z7 N)]
theorem z24l (N:Nat):EnvOk Tryd.prog (z1ap N):=zi mixed zn (FnsOk.cons (zlg N) (FnsOk.nil)) (ItsOk.cons (za N) (ItsOk.nil))
def zby (N:Nat)(sets:(List (List Int)))(out:(List Int))(many:Int)(b:Int)(at_:Int)(k:Int)(k0:Option (List Int))(k1:Option (List Int)):Option (List Int):=cond (decide (k<b)) (cond (decide (at_<0)) k0 k1) k1
def z1xq (N:Nat)(x:z15 SQ6)(K:Ex->List A->Option (List Int)):Option (List Int):=zby N x.1 x.2.1 x.2.2.1 x.2.2.2.1 x.2.2.2.2.1 x.2.2.2.2.2.1 (K .normal (mkS SQ6 31 (x.1,x.2.1,x.2.2.1,x.2.2.2.1,x.2.2.2.2.1,x.2.2.2.2.2.1,()))) (K (.exit 2) (mkS z1am 32 (x.1,x.2.1,x.2.2.1,x.2.2.2.1,x.2.2.2.2.1,())))
def z1tl (N:Nat):Hd (List Int):=fun st K=>(unS SQ6 31 (restr [7,5,6,0,3,4] 0 st)).bind fun x=>z1xq N x K
def t5_35 (N:Nat):Tab (List Int):=[]
theorem z1ow {N:Nat}{c:Ctx}(hb:Base Tryd.prog (z1ap N) c):zj Tryd.prog c (zh z9i z1lh) (z1tl N) :=
 zk (s:=SQ6) (m:=31) (g:=z1xq N) [7,5,6,0,3,4] (zd hb N (t5_35 N) z1do z9i TabOk.nil z1lh _ rfl) (fun x K=>by kernel_rfl)
def zbx (N:Nat)(sets:(List (List Int)))(out:(List Int))(many:Int)(b:Int)(at_:Int)(k:Int)(k0:Int->Option (List Int)):Option (List Int):=(z5u N sets k b).bind fun y=>cond y (cond (inR k (List.length out)) (cond (decide ((Int.toNat k)<(List.length out))) (k0 (List.getD out (Int.toNat k) 0)) none) none) (k0 at_)
def z1xm (N:Nat)(x:z15 SQ6)(K:Ex->List A->Option (List Int)):Option (List Int):=zbx N x.1 x.2.1 x.2.2.1 x.2.2.2.1 x.2.2.2.2.1 x.2.2.2.2.2.1 (fun a4=>(K .normal (mkS SQ6 31 (x.1,x.2.1,x.2.2.1,x.2.2.2.1,a4,x.2.2.2.2.2.1,()))))
def z1th (N:Nat):Hd (List Int):=fun st K=>(unS SQ6 31 (restr [0,7,5,3,4,6] 0 st)).bind fun x=>z1xm N x K
def t6_35 (N:Nat):Tab (List Int):=[]
theorem z1os {N:Nat}{c:Ctx}(hb:Base Tryd.prog (z1ap N) c):zj Tryd.prog c (zh z9i z1dn) (z1th N) :=
 zk (s:=SQ6) (m:=31) (g:=z1xm N) [0,7,5,3,4,6] (zd hb N (t6_35 N) z1do z9i TabOk.nil z1dn _ rfl) (fun x K=>by kernel_rfl)
def z7x (N:Nat)(sets:(List (List Int)))(out:(List Int))(many:Int)(b:Int)(at_:Int)(k:Int)(rec:Int->Int->Option (List Int))(k0:Int->Option (List Int)):Option (List Int):=zby N sets out many b at_ k (zbx N sets out many b at_ k (fun at_1=>rec at_1 (IntKind.wrap IntKind.i64 (k+1)))) (k0 at_)
def zh4 (N:Nat)(sets:(List (List Int)))(out:(List Int))(many:Int)(b:Int)(at_:Int)(k:Int)(k0:Int->Option (List Int)):Option (List Int):=iter (fun (v:(Int×Int)) r=>z7x N sets out many b v.1 v.2 (fun at_ k=>(r (at_,k))) k0) N (at_,k)
def z1y0 (N:Nat)(i:((List (List Int))×(List Int)×Int×Int))(v:(Int×Int))(r:(Int×Int)->Option (List Int))(K:Ex->List A->Option (List Int)):Option (List Int):=z7x N i.1 i.2.1 i.2.2.1 i.2.2.2 v.1 v.2 (fun at_ k=>(r (at_,k))) (fun a4=>(K (.exit 2) (mkS z1am 32 (i.1,i.2.1,i.2.2.1,i.2.2.2,a4,()))))
def z1tv (N:Nat):Hd (List Int):=fun st K=>(unS SQ6 31 (restr [7,5,6,0,3,4] 0 st)).bind fun x=>iter (fun v r=>z1y0 N ((fun x=>(x.1,x.2.1,x.2.2.1,x.2.2.2.1)) x) v r K) N ((fun x=>(x.2.2.2.2.1,x.2.2.2.2.2.1)) x)
def t4_35 (N:Nat):Tab (List Int):=[(z1lh,z1tl N),(z1dn,z1th N)]
theorem z1p6 {N:Nat}{c:Ctx}(hb:Base Tryd.prog (z1ap N) c):zj Tryd.prog c (zh z9i z1le) (z1tv N) :=
 zu (s:=SQ6) (m:=31) (z1y0 N) [7,5,6,0,3,4] N (fun x=>(x.1,x.2.1,x.2.2.1,x.2.2.2.1)) (fun x=>(x.2.2.2.2.1,x.2.2.2.2.2.1)) (fun i v=>(i.1,i.2.1,i.2.2.1,i.2.2.2,v.1,v.2,())) (fun _=>rfl) (zd hb N (t4_35 N) z1do z9i (TabOk.cons (z1ow hb) (TabOk.cons (z1os hb) TabOk.nil)) [0,0,1,0,1,0,0,1,0,0,1,0,1,1,1] _ rfl) (fun i v r K=>by kernel_rfl)
def z80 (N:Nat)(sets:(List (List Int)))(out:(List Int))(many:Int)(b:Int)(at_:Int)(k0:Int->Option (List Int)):Option (List Int):=zh4 N sets out many b at_ 0 (fun at_1=>k0 at_1)
def z1yg (N:Nat)(x:z15 z1am)(K:Ex->List A->Option (List Int)):Option (List Int):=z80 N x.1 x.2.1 x.2.2.1 x.2.2.2.1 x.2.2.2.2.1 (fun a4=>(K .normal (mkS z1am 32 (x.1,x.2.1,x.2.2.1,x.2.2.2.1,a4,()))))
def z1ub (N:Nat):Hd (List Int):=fun st K=>(unS z1am 32 (restr [5,6,0,3,4] 0 st)).bind fun x=>z1yg N x K
def t3_35 (N:Nat):Tab (List Int):=[(z1le,z1tv N)]
theorem z1pm {N:Nat}{c:Ctx}(hb:Base Tryd.prog (z1ap N) c):zj Tryd.prog c (zh z9i z1df) (z1ub N) :=
 zk (s:=z1am) (m:=32) (g:=z1yg N) [5,6,0,3,4] (zd hb N (t3_35 N) z1do z9i (TabOk.cons (z1p6 hb) TabOk.nil) z1df _ rfl) (fun x K=>by kernel_rfl)
def z7z (N:Nat)(sets:(List (List Int)))(out:(List Int))(many:Int)(b:Int)(at_:Int)(k0:Int->Int->Option (List Int)):Option (List Int):=cond (decide (at_<0)) (k0 (IntKind.wrap IntKind.i64 (many+1)) many) (k0 many at_)
def z1xi (N:Nat)(x:z15 z1am)(K:Ex->List A->Option (List Int)):Option (List Int):=z7z N x.1 x.2.1 x.2.2.1 x.2.2.2.1 x.2.2.2.2.1 (fun a2 a4=>(K .normal (mkS z1am 32 (x.1,x.2.1,a2,x.2.2.2.1,a4,()))))
def z1td (N:Nat):Hd (List Int):=fun st K=>(unS z1am 32 (restr [6,4,3,5,0] 0 st)).bind fun x=>z1xi N x K
def t7_35 (N:Nat):Tab (List Int):=[]
theorem z1oo {N:Nat}{c:Ctx}(hb:Base Tryd.prog (z1ap N) c):zj Tryd.prog c (zh z9i z1dj) (z1td N) :=
 zk (s:=z1am) (m:=32) (g:=z1xi N) [6,4,3,5,0] (zd hb N (t7_35 N) z1do z9i TabOk.nil z1dj _ rfl) (fun x K=>by kernel_rfl)
def zbz (N:Nat)(sets:(List (List Int)))(out:(List Int))(many:Int)(b:Int)(k0:(List Int)->Int->Option (List Int)):Option (List Int):=z80 N sets out many b (-1) (fun at_=>z7z N sets out many b at_ (fun many1 at_1=>cond (decide ((((List.length out)+1)*8)<=70368744177664)) (k0 (out++([at_1]:List Int)) many1) none))
def z1za (N:Nat)(x:z15 z1mo)(K:Ex->List A->Option (List Int)):Option (List Int):=zbz N x.1 x.2.1 x.2.2.1 x.2.2.2.1 (fun a1 a2=>(K .normal (mkS z1mo 33 (x.1,a1,a2,x.2.2.2.1,()))))
def z1v5 (N:Nat):Hd (List Int):=fun st K=>(unS z1mo 33 (restr [5,0,3,4] 0 st)).bind fun x=>z1za N x K
def t2_35 (N:Nat):Tab (List Int):=[(z1df,z1ub N),(z1dj,z1td N)]
theorem z1qg {N:Nat}{c:Ctx}(hb:Base Tryd.prog (z1ap N) c):zj Tryd.prog c (zh z9i zzl) (z1v5 N) :=
 zk (s:=z1mo) (m:=33) (g:=z1za N) [5,0,3,4] (zd hb N (t2_35 N) z1do z9i (TabOk.cons (z1pm hb) (TabOk.cons (z1oo hb) TabOk.nil)) zzl _ rfl) (fun x K=>by kernel_rfl)
def z7y (N:Nat)(sets:(List (List Int)))(out:(List Int))(many:Int)(b:Int)(rec:(List Int)->Int->Int->Option (List Int))(k0:(List Int)->Option (List Int)):Option (List Int):=cond (decide (b<256)) (zbz N sets out many b (fun out1 many1=>rec out1 many1 (IntKind.wrap IntKind.i64 (b+1)))) (k0 out)
def zc0 (N:Nat)(sets:(List (List Int)))(out:(List Int))(many:Int)(b:Int)(k0:(List Int)->Option (List Int)):Option (List Int):=iter (fun (v:((List Int)×Int×Int)) r=>z7y N sets v.1 v.2.1 v.2.2 (fun out many b=>(r (out,many,b))) k0) N (out,many,b)
def z211 (N:Nat)(i:(List (List Int)))(v:((List Int)×Int×Int))(r:((List Int)×Int×Int)->Option (List Int))(K:Ex->List A->Option (List Int)):Option (List Int):=z7y N i v.1 v.2.1 v.2.2 (fun out many b=>(r (out,many,b))) (fun a0=>(K (.exit 0) (mkS [(3,.row (.int .i64))] 35 (a0,()))))
def z1ww (N:Nat):Hd (List Int):=fun st K=>(unS z1mo 33 (restr [5,0,3,4] 0 st)).bind fun x=>iter (fun v r=>z211 N ((fun x=>x.1) x) v r K) N ((fun x=>(x.2.1,x.2.2.1,x.2.2.2.1)) x)
def t1_35 (N:Nat):Tab (List Int):=[(zzl,z1v5 N)]
theorem z1s7 {N:Nat}{c:Ctx}(hb:Base Tryd.prog (z1ap N) c):zj Tryd.prog c (zh z9i [0,1,0,1,1,1]) (z1ww N) :=
 zu (s:=z1mo) (m:=33) (z211 N) [5,0,3,4] N (fun x=>x.1) (fun x=>(x.2.1,x.2.2.1,x.2.2.2.1)) (fun i v=>(i,v.1,v.2.1,v.2.2,())) (fun _=>rfl) (zd hb N (t1_35 N) z1do z9i (TabOk.cons (z1qg hb) TabOk.nil) zzc _ rfl) (fun i v r K=>by kernel_rfl)
def z96 (N:Nat)(sets:(List (List Int))):Option (List Int):=zc0 N sets [] 0 0 (fun out=>some out)
def t_35 (N:Nat):Tab (List Int):=[([0,1,0,1,1,1],z1ww N)]
theorem z1j4 (N:Nat)(x:z15 z165):z4u (z1ap N) N (t_35 N) z1do Tryd.f27 (mkS z165 0 x) (z2l (.v (.sl (.int .i64))) 1)=z96 N x.1:=by kernel_rfl
def zg3 (N:Nat):List A->Res:=zz z165 (fun x=>z96 N x.1) (z6n (.v (.sl (.int .i64))) 1)
theorem zot (N:Nat):Contract Tryd.prog glob 27 (zg3 N) :=
 Contract.of (E:=z1ap N) (H:=t_35 N) (L:=z1do) (N:=N) (body:=z9i) (K:=(z2l (.v (.sl (.int .i64))) 1)) (z24l N) Tryd.func27 (by kernel_rfl) (by decide) (fun _ hb=>(TabOk.cons (z1s7 hb) TabOk.nil)) (fun x y h=>by rw[z1j4];exact h) (z13 (s:=(.v (.sl (.int .i64)))) (m:=1))
def z11z:Code:=(Tryd.f53.body).getD .skip
def L_36:List (List Nat×List Nat):=[([0],[0,1]),([0,0,1],[5,0,1]),([0,1,0,1],[5,0,1]),([0,0,0,0,1,0,1],[9,0,5,1]),([1,0,0,0,1,0,1],[0,5,1]),(z1a8,[]),(zzg,[17,5,0,1]),(z1ac,[5,0,1]),(z1af,[4]),(z1ae,[4]),(z14i,[5,0,1]),([1,1,0,0,1,0,1],[5,0,1]),([1,0,1],[]),([0,1,1],[4]),([1,1,1],[4])]
end
end Go.Proofs.YtgbcebmahbieoaaDoorLg
