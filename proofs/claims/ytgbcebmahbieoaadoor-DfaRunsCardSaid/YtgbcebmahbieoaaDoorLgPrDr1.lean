import Derived.Test.YtgbcebmahbieoaaDoorLgW
import Derived.Test.YtgbcebmahbieoaaDoorChecked
import Derived.Shelf.Strings.Search1
import Derived.KernelRfl
import Derived.Test.YtgbcebmahbieoaaDoorLgOr
set_option linter.all false
namespace Go.Proofs.YtgbcebmahbieoaaDoorLg
noncomputable section
open Go Go.Lift Go.Proofs Go.Shelf
def zuk : Go.Shelf.Ren := ⟨fun | 217=>98 | 266=>102 | n=>n,fun | 9=>9 | 5=>5 | 3=>3 | n=>n,fun | n=>n⟩
theorem z19z : Lays.n217 Tryd.prog zuk where
  mixed := by kernel_rfl
  f217 := Tryd.func98.trans (congrArg some (by kernel_rfl))
  f266 := Tryd.func102.trans (congrArg some (by kernel_rfl))
  t3 := Tryd.underlying3
  a3 := Tryd.isAgg3
  z3 := Tryd.sizeOf3
  v3 := Tryd.zeroValue3
  t5 := Tryd.underlying5
  a5 := Tryd.isAgg5
  z5 := Tryd.sizeOf5
  v5 := Tryd.zeroValue5
  t9 := Tryd.underlying9
  a9 := Tryd.isAgg9
  z9 := Tryd.sizeOf9
  v9 := Tryd.zeroValue9
def z1hx (x:z13 [(0,.v .str),(0,.v (.int .u8))]) : Option Int := some (Lib.indexByte x.1 x.2.1.toNat.toUInt8)
def z114 : List A -> Res := zz [(0,.v .str),(0,.v (.int .u8))] z1hx (z70 (.v (.int .i64)) 2)
theorem z1hw (glob:Nat -> Option Dat) : Contract Tryd.prog glob 98 z114 := by
  refine Contract.hand ⟨_,Tryd.func98,by kernel_rfl,by decide⟩ ?_
  intro w S vals ob x y har hS hg hy
  obtain ⟨s,c,u⟩ := x
  cases u
  unfold z1hx at hy
  dsimp only at hy s c
  cases hy
  obtain ⟨⟨v0,hv0,hA0,ho0⟩,_⟩ := har.rel 0 _ rfl
  obtain ⟨⟨v1,hv1,hA1,ho1⟩,_⟩ := har.rel 1 _ rfl
  have hlen := har.len
  obtain ⟨u0,u1,rfl⟩ : ∃ u0 u1,vals = [u0,u1] := by
    have : vals.length = 2 := by simpa [mkS,zcu] using hlen.symm
    match vals,this with
    | [a,b],_=>exact ⟨a,b,rfl⟩
  simp at hv0 hv1
  subst hv0; subst hv1
  have e0 := hA0.str_inv
  subst e0
  have e1 := hA1.int_inv
  subst e1
  have hnone : ∀ i,ob i = [] := by
    intro i
    match i with
    | 0=>exact ho0
    | 1=>exact ho1
    | i + 2=>exact har.out _ (by simp [mkS,zcu])
  refine (Any.stringslite_IndexByte z19z ⟨⟨s⟩⟩ c w).mono ?_
  rintro e w' ⟨rfl,rfl⟩
  refine ⟨_,S,[],ob,rfl,WF.refl _ _,Lift.Sub.refl _,hS,fun k hk => .inl hk,⟨⟨VR.int,rfl⟩,rfl⟩,(fun k hk=>by cases hk),.nil, ?_, ?_,har.inj,har.nd,fun i hi=>hi⟩
  . intro i z hz hbx
    match i with
    | 0=>simp [mkS,zcu,AS.mk] at hz; subst hz; cases hbx
    | 1=>simp [mkS,zcu,AS.mk] at hz; subst hz; cases hbx
    | i + 2=>simp [mkS,zcu] at hz
  . intro i k hk
    rw [hnone i] at hk; cases hk
end
end Go.Proofs.YtgbcebmahbieoaaDoorLg
set_option linter.all false
set_option maxRecDepth 100000
namespace Go.Proofs.YtgbcebmahbieoaaDoorLg
noncomputable section
open Go Go.Lift
abbrev DT0 : Type := ((List Int) × ((List Int) × ((List (List Int)) × ((List (List Int)) × ((Option (List ((List Int) × Int))) × ((List (List Int)) × ((Int × ((List Bool) × ((List Int) × ((List (List Int)) × Unit)))) × Unit)))))))
abbrev TT1 : T := (.pair (.int .i64) (.pair (.int .i64) .unit))
abbrev TT2 : T := (.pair (.sl (.arr 4 (.int .u64))) (.pair .bool (.pair (.sl (.int .i64)) (.pair (.sl (.int .i64)) (.pair (.sl (.sl (.int .i64))) .unit)))))
abbrev TT3 : T := (.pair (.arr 8 (.int .u64)) (.pair (.arr 8 (.int .u64)) (.pair (.sl (.arr 8 (.int .u64))) (.pair (.sl (.arr 8 (.int .u64))) (.pair (.mp (.arr 8 (.int .u64)) (.int .i64)) (.pair (.own (.arr 8 (.int .u64))) (.pair (.pair (.int .i64) (.pair (.own .bool) (.pair (.sl (.int .i64)) (.pair (.own (.sl (.int .i64))) .unit)))) .unit)))))))
abbrev TT4 : T := (.pair (.int .i64) (.pair (.arr 4 (.int .u64)) (.pair (.sl .nod) TT1)))
abbrev DT5 : Type := ((List UInt8) × (Int × (Int × Unit)))
abbrev TT6 : T := (.pair (.int .i64) (.pair (.sl .bool) (.pair (.sl (.int .i64)) (.pair (.sl (.sl (.int .i64))) .unit))))
abbrev DT7 : Type := (Int × ((List Int) × ((List Tree) × (Int × (Int × Unit)))))
abbrev DT8 : Type := (Int × ((List Bool) × ((List Int) × ((List (List Int)) × Unit))))
abbrev DT9 : Type := ((Bool × ((List Int) × ((List Int) × Unit))) × (((List (List Int)) × ((List (List Int)) × Unit)) × Unit))
abbrev z64 : T := (.pair .bool (.pair (.sl (.int .i64)) (.pair (.sl (.int .i64)) .unit)))
abbrev z8z : Type := ((List (List Int)) × (Bool × ((List Int) × ((List Int) × ((List (List Int)) × Unit)))))
abbrev zxl : T := (.pair (.arr 8 (.int .u64)) (.pair (.arr 8 (.int .u64)) (.pair (.own (.arr 8 (.int .u64))) (.pair (.own (.arr 8 (.int .u64))) (.pair (.mp (.arr 8 (.int .u64)) (.int .i64)) (.pair (.own (.arr 8 (.int .u64))) (.pair (.pair (.int .i64) (.pair (.own .bool) (.pair (.sl (.int .i64)) (.pair (.own (.sl (.int .i64))) .unit)))) .unit)))))))
abbrev zei : T := (.pair (.own (.arr 4 (.int .u64))) (.pair (.own (.sl (.int .i64))) .unit))
abbrev TT14 : T := (.pair (.int .i64) (.pair (.own .bool) (.pair (.sl (.int .i64)) (.pair (.own (.sl (.int .i64))) .unit))))
abbrev z46 : Type := ((List (List Int)) × ((List (List Int)) × Unit))
abbrev z45 : Type := (Bool × ((List Int) × ((List Int) × Unit)))
abbrev znl : Type := (((List Int) × Bool × Unit) × (DT5 × Unit))
abbrev zfw : Type := ((List Int) × (DT5 × Unit))
abbrev zxo : Type := (Int × ((List Int) × ((List Tree) × (Int × (Int × Unit)))))
abbrev zej : Type := (Bool × (DT0 × Unit))
abbrev zyv : List Nat := [1,0,0,0,0,1,1]
abbrev zyw : List Nat := [0,0,0,0,0,1,1]
abbrev zw4 : List Nat := [52,51,50,0,6,4]
abbrev zw5 : List Nat := [70,69,68,9,0,4]
abbrev zw6 : List Nat := [7,5,0,6,9,8,4]
abbrev zw7 : List Nat := [21,20,19,0,3,5]
abbrev ztt : List Nat := [1,0,1,0,1,1,1]
abbrev ztu : List Nat := [37,36,35,4,3,1]
abbrev zwa : List Nat := [1,1,1,1,1,1,1]
abbrev zs4 : List Nat := [1,0,1,1,1,1,1]
abbrev zyt : List Nat := [0,1,0,1,1,1,1]
abbrev zxn : List Nat := [0,0,0,1,0,1,1]
abbrev zyu : List Nat := [0,1,1,1,1,1,1]
abbrev z1ck : List Nat := [0,1,0,0,1,0,1]
abbrev ztr : List Nat := [0,0,1,0,1,1,1]
abbrev zq4 : List Nat := [0,0,1,1,1,1,1]
abbrev z125 : List Nat := [1,0,0,0,1,1,1,1]
abbrev zyx : List Nat := [0,0,0,0,1,1,1,1]
abbrev zyy : List Nat := [1,1,0,0,0,0,1,1]
abbrev zyz : List Nat := [1,1,1,0,0,1,0,1]
abbrev zz0 : List Nat := [0,1,1,0,0,1,0,1]
abbrev zz1 : List Nat := [1,0,1,0,0,1,0,1]
abbrev zw8 : List Nat := [79,78,77,0,9,7,4]
abbrev zw9 : List Nat := [0,1,1,0,1,0,1,1]
abbrev zwb : List Nat := [0,0,0,1,0,1,1,1]
abbrev zwc : List Nat := [0,0,1,0,1,1,1,1]
abbrev ztv : List Nat := [1,1,1,1,1,1,1,1]
abbrev zz6 : List Nat := [0,1,0,1,1,1,1,1]
abbrev z1bf : List Nat := [1,1,0,0,1,0,1,1]
abbrev z1bg : List Nat := [1,0,0,0,1,0,1,1]
abbrev z1bh : List Nat := [0,0,0,0,1,0,1,1]
abbrev zzg : List Nat := [0,1,1,1,1,1,1,1]
abbrev zts : List Nat := [0,1,0,0,1,0,1,1]
abbrev z126 : List Nat := [0,1,0,1,1,1,1,1,1]
abbrev z127 : List Nat := [1,0,0,0,0,1,1,1,1]
abbrev z128 : List Nat := [0,0,0,0,0,1,1,1,1]
abbrev z1b7 : List Nat := [1,1,0,0,1,0,1,1,1]
abbrev z1b8 : List Nat := [1,0,0,0,1,0,1,1,1]
abbrev z1b9 : List Nat := [0,0,0,0,1,0,1,1,1]
abbrev PQ91 : List Nat := [1,1,0,0,0,1,0,1,1]
abbrev z121 : List Nat := [1,1,1,0,0,1,0,1,1]
abbrev z122 : List Nat := [0,1,1,0,0,1,0,1,1]
abbrev z123 : List Nat := [1,0,1,0,0,1,0,1,1]
abbrev zw1 : List (Nat × AS) := [(0,.v TT6),(0,.v .str)]
abbrev zzh : List Nat := [0,1,0,0,1,0,1,1,1]
abbrev zl3 : List (Nat × AS) := [(0,.v (.sl (.int .i64)))]
abbrev SQ0 : List (Nat × AS) := [(0,.box (.pair .str TT1))]
abbrev zw3 : List (Nat × AS) := [(1,.v .str),(0,.box TT6)]
abbrev z120 : List (Nat × AS) := [(0,.box zei),(0,.v TT4)]
abbrev z149 : List Nat := [1,0,0,1,1,0,0,1,0,1]
abbrev z129 : List Nat := [1,1,0,0,0,0,1,1,1,1]
abbrev z1bc : List Nat := [1,1,0,0,0,1,0,1,1,1]
abbrev zz2 : List Nat := [1,1,1,0,0,1,0,1,1,1]
abbrev zz3 : List Nat := [0,1,1,0,0,1,0,1,1,1]
abbrev zz4 : List Nat := [0,0,0,1,1,0,0,1,0,1]
abbrev z1pk : List Nat := [1,0,0,1,0,0,1,0,1,1]
abbrev zwd : List Nat := [38,37,36,5,8,29,28,27]
abbrev zwe : List Nat := [1,0,1,0,0,1,0,1,1,1]
abbrev PQ67 : List Nat := [0,0,0,1,0,0,1,0,1,1]
abbrev zw2 : List (Nat × AS) := [(0,.v (.arr 4 (.int .u64)))]
abbrev z14a : List Nat := [1,0,1,0,0,1,0,1,1,1,1]
abbrev z1be : List Nat := [0,0,0,1,0,0,1,0,1,1,1]
abbrev zz5 : List Nat := [1,0,0,1,1,0,0,1,0,1,1]
abbrev z1b4 : List Nat := [47,46,45,3,37,36,35,4,1]
abbrev z124 : List Nat := [0,0,0,1,1,0,0,1,0,1,1]
abbrev z161 : List Nat := [50,49,48,6,7,8,3,44,43,1]
abbrev PQ191 : List Nat := [0,1,0,0,1,0,0,1,0,1,1,1]
abbrev z14b : List Nat := [0,0,0,0,1,0,0,1,0,1,1,1]
abbrev z14c : List Nat := [1,1,0,0,1,1,0,0,1,0,1,1]
abbrev PQ153 : List Nat := [1,0,1,0,0,1,0,0,1,0,1,1]
abbrev PQ152 : List Nat := [0,0,1,0,0,1,0,0,1,0,1,1]
abbrev zz7 : List Nat := [0,0,0,1,1,0,0,1,0,1,1,1]
abbrev z1b3 : List (Nat × AS) := [(0,.v (.sl (.arr 4 (.int .u64))))]
abbrev z15w : List (Nat × AS) := [(1,.box TT4),(1,.v (.int .i64))]
abbrev z12j : List Nat := [0,1,0,0,1,1,0,0,1,0,1,1]
abbrev z12i : List (Nat × AS) := [(1,.box TT6),(1,.v (.int .i64))]
abbrev PQ170 : List Nat := [0,1,1,0,0,1,0,0,1,0,1,1,1]
abbrev z12a : List Nat := [0,0,1,0,0,1,1,0,0,1,0,1,1]
abbrev z1ch : List Nat := [0,1,1,1,1,1,1,1,1,0,1,1,1]
abbrev z1ci : List Nat := [0,1,0,0,1,1,0,0,1,0,1,1,1]
abbrev z1b5 : List Nat := [0,1,0,1,0,1,1,1,1,1,0,1,0,1]
abbrev z1b6 : List Nat := [0,1,1,0,0,1,0,0,1,0,1,1,1,1]
abbrev z14d : List Nat := [0,0,1,0,0,1,1,0,0,1,0,1,1,1]
abbrev z1cj : List Nat := [0,1,1,0,0,1,1,0,0,1,0,1,1,1]
abbrev z162 : List Nat := [0,0,0,0,0,0,0,0,1,0,1,1,1,1]
abbrev zys : List (Nat × AS) := [(0,.v (.int .i64)),(0,.v (.int .i64))]
abbrev z15x : List (Nat × AS) := [(0,.box (.pair .str TT1)),(1,.box TT4)]
abbrev z1ba : List Nat := [0,0,1,1,0,0,1,1,0,0,1,0,1,1,1]
abbrev z146 : List (Nat × AS) := [(0,.box TT3),(0,.v (.arr 8 (.int .u64)))]
abbrev z1bb : List Nat := [0,1,1,1,0,0,1,1,0,0,1,0,1,1,1,1]
abbrev z1av : List (Nat × AS) := [(0,.v (.sl (.int .i64))),(2,.v (.int .i64))]
abbrev z1cf : List (Nat × AS) := [(0,.v (.sl (.int .i64))),(0,.v (.int .i64))]
abbrev zq3 : List (Nat × AS) := [(0,.box (.pair .str TT1)),(0,.v (.int .u8))]
abbrev z1c7 : List (Nat × AS) := [(0,.box (.pair .str TT1)),(0,.v (.int .i64))]
abbrev z15y : List (Nat × AS) := [(0,.box (.pair .str TT1)),(2,.v (.int .i64))]
abbrev z1c8 : List (Nat × AS) := [(0,.v (.arr 4 (.int .u64))),(0,.v (.int .u8))]
abbrev z1bd : List Nat := [0,1,0,1,1,0,0,1,1,0,0,1,0,1,1,1,1]
abbrev z14e : List Nat := [0,1,0,0,1,1,0,0,1,0,0,1,0,1,1,1,1]
abbrev z1aw : List (Nat × AS) := [(1,.box (.arr 4 (.int .u64))),(1,.v (.int .i64))]
abbrev SQ62 : List (Nat × AS) := [(0,.v (.sl (.int .i64))),(0,.v (.sl (.int .i64)))]
abbrev z1ax : List (Nat × AS) := [(0,.v (.sl (.arr 4 (.int .u64)))),(0,.v (.int .i64))]
abbrev z14f : List Nat := [0,0,0,1,0,0,1,1,0,0,1,0,0,1,0,1,1,1,1]
abbrev z1at : List (Nat × AS) := [(1,.box TT6),(1,.v (.int .i64)),(0,.v (.int .i64))]
abbrev z1c9 : List (Nat × AS) := [(0,.box (.pair .str TT1)),(1,.box TT4),(1,.box TT4)]
abbrev SQ3 : List (Nat × AS) := [(0,.box (.pair .str TT1)),(1,.box TT4),(0,.row TT4)]
abbrev z1ay : List (Nat × AS) := [(0,.v (.arr 4 (.int .u64))),(0,.v (.arr 4 (.int .u64)))]
abbrev z1ca : List (Nat × AS) := [(0,.v (.arr 8 (.int .u64))),(0,.v (.arr 8 (.int .u64)))]
abbrev z1az : List (Nat × AS) := [(0,.box zei),(2,.box TT4),(0,.box z64),(1,.row z64)]
abbrev z1b0 : List (Nat × AS) := [(0,.v (.sl (.int .i64))),(0,.v (.sl (.arr 4 (.int .u64))))]
abbrev z15z : List (Nat × AS) := [(0,.box (.pair .str TT1)),(1,.box TT4),(0,.v (.int .u8))]
abbrev z1b1 : List (Nat × AS) := [(0,.box zei),(3,.box z64),(0,.box z64),(0,.box z64)]
abbrev PQ80 : List Nat := [0,1,0,0,1,1,0,0,1,1,1,0,0,1,1,0,0,1,0,1,1,1,1]
abbrev zze : List (Nat × AS) := [(0,.box (.pair .str TT1)),(0,.v (.int .i64)),(3,.v (.int .u8))]
abbrev SQ5 : List (Nat × AS) := [(0,.v (.sl (.int .i64))),(2,.v (.int .i64)),(0,.v (.int .i64))]
abbrev z1b2 : List (Nat × AS) := [(0,.box zei),(0,.v (.sl (.int .i64))),(0,.v (.sl (.int .i64)))]
abbrev SQ78 : List (Nat × AS) := [(0,.box (.pair .str TT1)),(1,.v (.int .i64)),(0,.v (.int .i64))]
abbrev SQ1 : List (Nat × AS) := [(0,.box (.pair .str TT1)),(2,.v (.int .i64)),(0,.v (.int .i64))]
abbrev SQ66 : List (Nat × AS) := [(0,.box (.pair .str TT1)),(1,.box (.arr 4 (.int .u64))),(0,.v .bool)]
abbrev zzf : List (Nat × AS) := [(0,.v (.sl (.int .i64))),(0,.v (.sl (.int .i64))),(3,.row (.int .i64))]
abbrev SQ93 : List (Nat × AS) := [(1,.box TT6),(1,.v (.int .i64)),(0,.v (.int .i64)),(0,.v (.int .i64))]
abbrev z1oz : List (Nat × AS) := [(0,.box zei),(2,.box TT4),(0,.box z64),(1,.row z64),(0,.box z64)]
abbrev z1p0 : List (Nat × AS) := [(0,.box zei),(3,.box z64),(0,.box z64),(0,.box z64),(0,.box z64)]
abbrev z160 : List (Nat × AS) := [(0,.box (.pair .str TT1)),(1,.box (.arr 4 (.int .u64))),(1,.v (.int .u8))]
abbrev z1p1 : List (Nat × AS) := [(0,.box (.pair .str TT1)),(2,.v (.int .i64)),(0,.v (.int .i64)),(70,.v .bool)]
abbrev z1p2 : List (Nat × AS) := [(0,.v (.sl (.int .i64))),(0,.v (.int .i64)),(5,.v (.int .i64)),(0,.v (.int .i64))]
abbrev z1p3 : List (Nat × AS) := [(3,.v (.int .i64)),(11,.v (.sl (.int .i64))),(0,.v (.int .i64)),(0,.v (.int .i64))]
abbrev SQ8 : List (Nat × AS) := [(0,.box (.pair .str TT1)),(1,.v (.int .i64)),(0,.v (.int .i64)),(0,.v (.int .i64))]
abbrev z1p4 : List (Nat × AS) := [(0,.box (.pair .str TT1)),(1,.box (.arr 4 (.int .u64))),(0,.box (.arr 4 (.int .u64)))]
abbrev z1p5 : List (Nat × AS) := [(1,.v .str),(0,.box TT6),(2,.v (.int .i64)),(7,.v (.int .i64)),(0,.v (.int .i64))]
abbrev z1p6 : List (Nat × AS) := [(0,.box TT3),(38,.v (.sl (.arr 8 (.int .u64)))),(0,.v (.int .i64)),(0,.v (.int .i64))]
abbrev z1cb : List (Nat × AS) := [(0,.box (.pair .str TT1)),(1,.box TT4),(0,.box TT4),(0,.box TT4),(24,.v (.int .u8))]
abbrev z1p7 : List (Nat × AS) := [(0,.box (.pair .str TT1)),(1,.box (.arr 4 (.int .u64))),(1,.v (.int .u8)),(9,.v .bool)]
abbrev z1p8 : List (Nat × AS) := [(1,.box TT4),(1,.v (.int .i64)),(6,.v (.sl .nod)),(0,.v (.int .i64)),(0,.v (.int .i64))]
abbrev SQ49 : List (Nat × AS) := [(0,.v (.sl (.int .i64))),(0,.v (.sl (.int .i64))),(3,.row (.int .i64)),(0,.v (.int .i64))]
abbrev z147 : List (Nat × AS) := [(1,.box TT6),(1,.v (.int .i64)),(0,.v (.int .i64)),(0,.v (.int .i64)),(0,.v (.int .i64))]
abbrev z1p9 : List (Nat × AS) := [(0,.box zei),(2,.box TT4),(0,.box z64),(1,.row z64),(0,.box z64),(0,.v (.int .i64))]
abbrev z1cc : List (Nat × AS) := [(0,.box (.pair .str TT1)),(1,.box (.arr 4 (.int .u64))),(1,.v (.int .u8)),(2,.v (.int .u8))]
abbrev z1pa : List (Nat × AS) := [(1,.box TT2),(1,.box zxl),(2,.v (.sl (.int .i64))),(36,.v (.int .i64)),(0,.v (.int .i64))]
abbrev z1cd : List (Nat × AS) := [(0,.box (.pair .str TT1)),(1,.box (.arr 4 (.int .u64))),(1,.v (.int .i64)),(0,.v (.int .u8))]
abbrev z1pb : List (Nat × AS) := [(1,.box TT2),(2,.v (.int .i64)),(2,.v (.sl (.int .i64))),(0,.v (.int .i64)),(0,.v (.int .i64))]
abbrev z1pc : List (Nat × AS) := [(1,.v (.int .u8)),(2,.box (.arr 4 (.int .u64))),(0,.box (.arr 4 (.int .u64))),(0,.v (.int .i64))]
abbrev z1pd : List (Nat × AS) := [(1,.box TT2),(1,.box zxl),(17,.v (.sl (.sl (.int .i64)))),(0,.v (.int .i64)),(0,.v (.int .i64))]
abbrev z1ce : List (Nat × AS) := [(0,.box (.pair .str TT1)),(1,.box (.arr 4 (.int .u64))),(0,.v .bool),(0,.box (.arr 4 (.int .u64)))]
abbrev SQ7 : List (Nat × AS) := [(0,.box (.pair .str TT1)),(1,.box (.arr 4 (.int .u64))),(0,.box (.arr 4 (.int .u64))),(0,.v .bool)]
abbrev z1pe : List (Nat × AS) := [(0,.box (.pair .str TT1)),(1,.box (.arr 4 (.int .u64))),(0,.box (.arr 4 (.int .u64))),(13,.v .bool)]
abbrev z1pf : List (Nat × AS) := [(0,.box zei),(3,.box z64),(4,.box z64),(58,.v (.sl .nod)),(0,.v (.int .i64)),(0,.v (.int .i64))]
abbrev z1pg : List (Nat × AS) := [(0,.box zei),(3,.box z64),(1,.box z64),(43,.v (.sl .nod)),(0,.v (.int .i64)),(0,.v (.int .i64))]
abbrev z1au : List (Nat × AS) := [(3,.v (.int .i64)),(1,.v (.int .i64)),(9,.v (.sl (.int .i64))),(0,.v (.int .i64)),(0,.v (.int .i64))]
abbrev z1ph : List (Nat × AS) := [(0,.box zei),(1,.v (.sl (.int .i64))),(5,.v (.sl (.int .i64))),(0,.v (.int .i64)),(0,.v (.int .i64))]
abbrev z1pi : List (Nat × AS) := [(0,.v (.int .i64)),(3,.box TT4),(0,.row TT4),(2,.v (.sl .nod)),(0,.v (.int .i64)),(0,.v (.int .i64))]
abbrev SQ95 : List (Nat × AS) := [(2,.box (.arr 4 (.int .u64))),(0,.box (.arr 4 (.int .u64))),(0,.box (.arr 4 (.int .u64))),(1,.v (.int .i64))]
abbrev SQ35 : List (Nat × AS) := [(2,.box (.arr 8 (.int .u64))),(0,.box (.arr 8 (.int .u64))),(0,.box (.arr 8 (.int .u64))),(1,.v (.int .i64))]
abbrev SQ92 : List (Nat × AS) := [(0,.v .str),(1,.box (.arr 4 (.int .u64))),(0,.box (.arr 4 (.int .u64))),(2,.v (.int .i64)),(0,.v (.int .i64))]
abbrev SQ90 : List (Nat × AS) := [(0,.box (.pair .str TT1)),(1,.box (.arr 4 (.int .u64))),(0,.box (.arr 4 (.int .u64))),(2,.box (.arr 4 (.int .u64)))]
abbrev z1cg : List (Nat × AS) := [(1,.box TT2),(2,.v (.int .i64)),(1,.v (.int .i64)),(0,.v (.sl (.int .i64))),(0,.v (.int .i64)),(0,.v (.int .i64))]
abbrev SQ87 : List (Nat × AS) := [(0,.box zei),(3,.box z64),(2,.box z64),(1,.box z64),(67,.v (.sl z64)),(0,.v (.int .i64)),(0,.v (.int .i64))]
abbrev SQ52 : List (Nat × AS) := [(0,.box TT3),(3,.box (.arr 8 (.int .u64))),(0,.box (.arr 8 (.int .u64))),(2,.v (.arr 8 (.int .u64))),(0,.v (.int .i64))]
abbrev SQ85 : List (Nat × AS) := [(2,.box (.arr 8 (.int .u64))),(0,.box (.arr 8 (.int .u64))),(2,.v (.sl (.int .i64))),(0,.v (.int .i64)),(0,.v (.int .i64))]
abbrev SQ44 : List (Nat × AS) := [(1,.box TT6),(1,.v (.int .i64)),(0,.v (.int .i64)),(30,.v (.sl (.sl (.int .i64)))),(0,.v (.int .i64)),(0,.v (.int .i64))]
abbrev SQ81 : List (Nat × AS) := [(1,.v (.sl (.arr 4 (.int .u64)))),(3,.row (.arr 5 (.int .u64))),(7,.v (.sl (.int .i64))),(0,.v (.int .i64)),(0,.v (.int .i64))]
abbrev SQ68 : List (Nat × AS) := [(0,.box TT3),(2,.box (.arr 8 (.int .u64))),(1,.row (.int .i64)),(13,.v (.sl (.arr 8 (.int .u64)))),(0,.v (.int .i64)),(0,.v (.int .i64))]
abbrev SQ2 : List (Nat × AS) := [(0,.box (.pair .str TT1)),(1,.box (.arr 4 (.int .u64))),(0,.box (.arr 4 (.int .u64))),(0,.v .bool),(0,.v (.int .i64)),(0,.box (.arr 4 (.int .u64)))]
abbrev SQ63 : List (Nat × AS) := [(0,.box (.pair .str TT1)),(1,.box (.arr 4 (.int .u64))),(0,.box (.arr 4 (.int .u64))),(1,.v (.int .i64)),(0,.box (.arr 4 (.int .u64))),(28,.v .bool)]
abbrev SQ59 : List (Nat × AS) := [(0,.box TT3),(3,.box (.arr 8 (.int .u64))),(0,.box (.arr 8 (.int .u64))),(0,.v (.int .i64)),(0,.v (.int .u64)),(0,.v (.arr 8 (.int .u64))),(0,.v (.int .i64))]
abbrev SQ42 : List (Nat × AS) := [(1,.box TT6),(1,.v (.int .i64)),(0,.v (.int .i64)),(30,.v (.sl (.sl (.int .i64)))),(0,.v (.int .i64)),(0,.v (.int .i64)),(7,.v (.sl (.int .i64))),(0,.v (.int .i64)),(0,.v (.int .i64))]
abbrev SQ39 : List (Nat × AS) := [(1,.box TT2),(1,.box zxl),(2,.v (.sl (.int .i64))),(0,.v (.int .i64)),(0,.row (.int .i64)),(34,.v (.int .i64)),(0,.v (.int .i64)),(3,.v (.sl (.arr 4 (.int .u64)))),(0,.v (.int .i64)),(0,.v (.int .i64))]
abbrev SQ25 : List (Nat × AS) := [(1,.box TT6),(1,.v (.int .i64)),(0,.v (.int .i64)),(3,.v (.int .i64)),(26,.v (.sl (.sl (.int .i64)))),(0,.v (.int .i64)),(0,.v (.int .i64)),(7,.v (.sl (.int .i64))),(0,.v (.int .i64)),(0,.v (.int .i64))]
def ty3 : TyI := ⟨(Go.TypeDesc.int IntKind.i64),1,8,(.int .i64),(0 : Int),false⟩
theorem z1d2 : TyOk Tryd.prog 3 ty3 := TyOk.of (by kernel_rfl) (by kernel_rfl) (by kernel_rfl) (by kernel_rfl)
def ty4 : TyI := ⟨Go.TypeDesc.bool,1,1,.bool,false,false⟩
theorem z1d1 : TyOk Tryd.prog 4 ty4 := TyOk.of (by kernel_rfl) (by kernel_rfl) (by kernel_rfl) (by kernel_rfl)
def ty5 : TyI := ⟨(Go.TypeDesc.int IntKind.u8),1,1,(.int .u8),(0 : Int),false⟩
theorem z1d0 : TyOk Tryd.prog 5 ty5 := TyOk.of (by kernel_rfl) (by kernel_rfl) (by kernel_rfl) (by kernel_rfl)
def ty9 : TyI := ⟨Go.TypeDesc.string,1,16,.str,([] : List UInt8),false⟩
theorem z1cz : TyOk Tryd.prog 9 ty9 := TyOk.of (by kernel_rfl) (by kernel_rfl) (by kernel_rfl) (by kernel_rfl)
def ty22 : TyI := ⟨(Go.TypeDesc.slice 4),1,24,(.sl .bool),([] : List Bool),false⟩
theorem z170 : TyOk Tryd.prog 22 ty22 := TyOk.of (by kernel_rfl) (by kernel_rfl) (by kernel_rfl) (by kernel_rfl)
def ty23 : TyI := ⟨(Go.TypeDesc.slice 3),1,24,(.sl (.int .i64)),([] : List Int),false⟩
theorem z16z : TyOk Tryd.prog 23 ty23 := TyOk.of (by kernel_rfl) (by kernel_rfl) (by kernel_rfl) (by kernel_rfl)
def ty24 : TyI := ⟨(Go.TypeDesc.slice 23),1,24,(.sl (.sl (.int .i64))),([] : List (List Int)),false⟩
theorem z16y : TyOk Tryd.prog 24 ty24 := TyOk.of (by kernel_rfl) (by kernel_rfl) (by kernel_rfl) (by kernel_rfl)
def ty26 : TyI := ⟨(Go.TypeDesc.struct (List.toArray ([(Go.Field.mk "Start" 3 0 false "" "" 0), (Go.Field.mk "Final" 22 1 false "" "" 8), (Go.Field.mk "Block" 23 2 false "" "" 32), (Go.Field.mk "Next" 24 3 false "" "" 56)] : List Go.Field))), 4, 80, TT6, ((0 : Int), ([] : List Bool), ([] : List Int), ([] : List (List Int)), ()), true⟩
theorem z16x : TyOk Tryd.prog 26 ty26 := TyOk.of (by kernel_rfl) (by kernel_rfl) (by kernel_rfl) (by kernel_rfl)
def ty31 : TyI := ⟨(Go.TypeDesc.slice 43),1,24,(.sl (.arr 4 (.int .u64))),([] : List (List Int)),false⟩
theorem z16w : TyOk Tryd.prog 31 ty31 := TyOk.of (by kernel_rfl) (by kernel_rfl) (by kernel_rfl) (by kernel_rfl)
def ty33 : TyI := ⟨(Go.TypeDesc.struct (List.toArray ([(Go.Field.mk "Sets" 31 0 false "" "" 0), (Go.Field.mk "None" 4 1 false "" "" 24), (Go.Field.mk "First" 23 2 false "" "" 32), (Go.Field.mk "Last" 23 3 false "" "" 56), (Go.Field.mk "Next" 24 4 false "" "" 80)] : List Go.Field))), 5, 104, TT2, (([] : List (List Int)), false, ([] : List Int), ([] : List Int), ([] : List (List Int)), ()), true⟩
theorem z16v : TyOk Tryd.prog 33 ty33 := TyOk.of (by kernel_rfl) (by kernel_rfl) (by kernel_rfl) (by kernel_rfl)
def ty35 : TyI := ⟨(Go.TypeDesc.int IntKind.i64),1,8,(.int .i64),(0 : Int),false⟩
theorem z16u : TyOk Tryd.prog 35 ty35 := TyOk.of (by kernel_rfl) (by kernel_rfl) (by kernel_rfl) (by kernel_rfl)
def ty41 : TyI := ⟨(Go.TypeDesc.int IntKind.u64),1,8,(.int .u64),(0 : Int),false⟩
theorem z16t : TyOk Tryd.prog 41 ty41 := TyOk.of (by kernel_rfl) (by kernel_rfl) (by kernel_rfl) (by kernel_rfl)
def ty43 : TyI := ⟨(Go.TypeDesc.array 4 41),4,32,(.arr 4 (.int .u64)),([(0 : Int),(0 : Int),(0 : Int),(0 : Int)] : List Int),true⟩
theorem z16s : TyOk Tryd.prog 43 ty43 := TyOk.of (by kernel_rfl) (by kernel_rfl) (by kernel_rfl) (by kernel_rfl)
def ty44 : TyI := ⟨(Go.TypeDesc.slice 46),1,24,(.sl .nod),([] : List Tree),false⟩
theorem z16r : TyOk Tryd.prog 44 ty44 := TyOk.of (by kernel_rfl) (by kernel_rfl) (by kernel_rfl) (by kernel_rfl)
def ty46 : TyI := ⟨(Go.TypeDesc.struct (List.toArray ([(Go.Field.mk "Kind" 3 0 false "" "" 0), (Go.Field.mk "Set" 43 1 false "" "" 8), (Go.Field.mk "Kids" 44 5 false "" "" 40), (Go.Field.mk "Min" 3 6 false "" "" 64), (Go.Field.mk "Max" 3 7 false "" "" 72)] : List Go.Field))), 8, 80, TT4, ((0 : Int), ([(0 : Int), (0 : Int), (0 : Int), (0 : Int)] : List Int), ([] : List Tree), (0 : Int), (0 : Int), ()), true⟩
theorem z16q : TyOk Tryd.prog 46 ty46 := TyOk.of (by kernel_rfl) (by kernel_rfl) (by kernel_rfl) (by kernel_rfl)
def ty48 : TyI := ⟨(Go.TypeDesc.struct (List.toArray ([(Go.Field.mk "E" 35 0 false "" "" 0), (Go.Field.mk "At" 3 1 false "" "" 8)] : List Go.Field))), 2, 16, TT1, ((0 : Int), (0 : Int), ()), true⟩
theorem z16p : TyOk Tryd.prog 48 ty48 := TyOk.of (by kernel_rfl) (by kernel_rfl) (by kernel_rfl) (by kernel_rfl)
def ty56 : TyI := ⟨(Go.TypeDesc.pointer 63),1,8,.opq,(Go.Value.pointer none),false⟩
theorem z16o : TyOk Tryd.prog 56 ty56 := TyOk.of (by kernel_rfl) (by kernel_rfl) (by kernel_rfl) (by kernel_rfl)
def ty59 : TyI := ⟨(Go.TypeDesc.array 8 41),8,64,(.arr 8 (.int .u64)),([(0 : Int),(0 : Int),(0 : Int),(0 : Int),(0 : Int),(0 : Int),(0 : Int),(0 : Int)] : List Int),true⟩
theorem z16n : TyOk Tryd.prog 59 ty59 := TyOk.of (by kernel_rfl) (by kernel_rfl) (by kernel_rfl) (by kernel_rfl)
def ty60 : TyI := ⟨(Go.TypeDesc.slice 59),1,24,(.sl (.arr 8 (.int .u64))),([] : List (List Int)),false⟩
theorem z16m : TyOk Tryd.prog 60 ty60 := TyOk.of (by kernel_rfl) (by kernel_rfl) (by kernel_rfl) (by kernel_rfl)
def ty61 : TyI := ⟨(Go.TypeDesc.map 59 3),1,8,.opq,(Go.Value.map none),false⟩
theorem z16l : TyOk Tryd.prog 61 ty61 := TyOk.of (by kernel_rfl) (by kernel_rfl) (by kernel_rfl) (by kernel_rfl)
def ty63 : TyI := ⟨(Go.TypeDesc.struct (List.toArray ([(Go.Field.mk "first" 59 0 false "" "porter/dfa" 0), (Go.Field.mk "last" 59 8 false "" "porter/dfa" 64), (Go.Field.mk "next" 60 16 false "" "porter/dfa" 128), (Go.Field.mk "readers" 60 17 false "" "porter/dfa" 152), (Go.Field.mk "numbers" 61 18 false "" "porter/dfa" 176), (Go.Field.mk "waiting" 60 19 false "" "porter/dfa" 184), (Go.Field.mk "d" 26 20 false "" "porter/dfa" 208)] : List Go.Field))), 24, 288, (.pair (.arr 8 (.int .u64)) (.pair (.arr 8 (.int .u64)) (.pair (.sl (.arr 8 (.int .u64))) (.pair (.sl (.arr 8 (.int .u64))) (.pair .opq (.pair (.sl (.arr 8 (.int .u64))) (.pair TT6 .unit))))))), (([(0 : Int), (0 : Int), (0 : Int), (0 : Int), (0 : Int), (0 : Int), (0 : Int), (0 : Int)] : List Int), ([(0 : Int), (0 : Int), (0 : Int), (0 : Int), (0 : Int), (0 : Int), (0 : Int), (0 : Int)] : List Int), ([] : List (List Int)), ([] : List (List Int)), (Go.Value.map none), ([] : List (List Int)), ((0 : Int), ([] : List Bool), ([] : List Int), ([] : List (List Int)), ()), ()), true⟩
theorem z16k : TyOk Tryd.prog 63 ty63 := TyOk.of (by kernel_rfl) (by kernel_rfl) (by kernel_rfl) (by kernel_rfl)
def ty73 : TyI := ⟨(Go.TypeDesc.pointer 75),1,8,.opq,(Go.Value.pointer none),false⟩
theorem z16j : TyOk Tryd.prog 73 ty73 := TyOk.of (by kernel_rfl) (by kernel_rfl) (by kernel_rfl) (by kernel_rfl)
def ty75 : TyI := ⟨(Go.TypeDesc.struct (List.toArray ([(Go.Field.mk "s" 9 0 false "" "porter/regex" 0), (Go.Field.mk "at" 3 1 false "" "porter/regex" 16), (Go.Field.mk "open" 3 2 false "" "porter/regex" 24)] : List Go.Field))), 3, 32, (.pair .str TT1), (([] : List UInt8), (0 : Int), (0 : Int), ()), true⟩
theorem z16i : TyOk Tryd.prog 75 ty75 := TyOk.of (by kernel_rfl) (by kernel_rfl) (by kernel_rfl) (by kernel_rfl)
def ty80 : TyI := ⟨(Go.TypeDesc.pointer 82),1,8,.opq,(Go.Value.pointer none),false⟩
theorem z16h : TyOk Tryd.prog 80 ty80 := TyOk.of (by kernel_rfl) (by kernel_rfl) (by kernel_rfl) (by kernel_rfl)
def ty82 : TyI := ⟨(Go.TypeDesc.struct (List.toArray ([(Go.Field.mk "sets" 31 0 false "" "porter/spots" 0), (Go.Field.mk "next" 24 1 false "" "porter/spots" 24)] : List Go.Field))), 2, 48, (.pair (.sl (.arr 4 (.int .u64))) (.pair (.sl (.sl (.int .i64))) .unit)), (([] : List (List Int)), ([] : List (List Int)), ()), true⟩
theorem z16g : TyOk Tryd.prog 82 ty82 := TyOk.of (by kernel_rfl) (by kernel_rfl) (by kernel_rfl) (by kernel_rfl)
def ty84 : TyI := ⟨(Go.TypeDesc.struct (List.toArray ([(Go.Field.mk "none" 4 0 false "" "porter/spots" 0), (Go.Field.mk "first" 23 1 false "" "porter/spots" 8), (Go.Field.mk "last" 23 2 false "" "porter/spots" 32)] : List Go.Field))), 3, 56, z64, (false, ([] : List Int), ([] : List Int), ()), true⟩
theorem z16f : TyOk Tryd.prog 84 ty84 := TyOk.of (by kernel_rfl) (by kernel_rfl) (by kernel_rfl) (by kernel_rfl)
def ty99 : TyI := ⟨(Go.TypeDesc.func (List.toArray ([110] : List Nat)) (List.toArray ([] : List Nat)) false),1,8,.opq,Go.Value.nilFunc,false⟩
theorem z16e : TyOk Tryd.prog 99 ty99 := TyOk.of (by kernel_rfl) (by kernel_rfl) (by kernel_rfl) (by kernel_rfl)
def z1da : TyI := ⟨(Go.TypeDesc.slice 84),1,24,(.sl z64),([] : List z45),false⟩
theorem z12t : TyOk Tryd.prog 109 z1da := TyOk.of (by kernel_rfl) (by kernel_rfl) (by kernel_rfl) (by kernel_rfl)
def z1d9 : TyI := ⟨(Go.TypeDesc.func (List.toArray ([31] : List Nat)) (List.toArray ([4] : List Nat)) false),1,8,.opq,Go.Value.nilFunc,false⟩
theorem z12s : TyOk Tryd.prog 110 z1d9 := TyOk.of (by kernel_rfl) (by kernel_rfl) (by kernel_rfl) (by kernel_rfl)
def z1d8 : TyI := ⟨(Go.TypeDesc.slice 113),1,24,(.sl (.arr 5 (.int .u64))),([] : List (List Int)),false⟩
theorem z12r : TyOk Tryd.prog 111 z1d8 := TyOk.of (by kernel_rfl) (by kernel_rfl) (by kernel_rfl) (by kernel_rfl)
def z1d7 : TyI := ⟨(Go.TypeDesc.array 5 41),5,40,(.arr 5 (.int .u64)),([(0 : Int),(0 : Int),(0 : Int),(0 : Int),(0 : Int)] : List Int),true⟩
theorem z12q : TyOk Tryd.prog 113 z1d7 := TyOk.of (by kernel_rfl) (by kernel_rfl) (by kernel_rfl) (by kernel_rfl)
def z1d6 : TyI := ⟨(Go.TypeDesc.slice 5),1,24,(.sl (.int .u8)),([] : List Int),false⟩
theorem z12p : TyOk Tryd.prog 114 z1d6 := TyOk.of (by kernel_rfl) (by kernel_rfl) (by kernel_rfl) (by kernel_rfl)
def z1d5 : TyI := ⟨(Go.TypeDesc.array 64 5),64,64,(.arr 64 (.int .u8)),((0 : Int) :: (0 : Int) :: (0 : Int) :: (0 : Int) :: (0 : Int) :: (0 : Int) :: (0 : Int) :: (0 : Int) :: (0 : Int) :: (0 : Int) :: (0 : Int) :: (0 : Int) :: (0 : Int) :: (0 : Int) :: (0 : Int) :: (0 : Int) :: (0 : Int) :: (0 : Int) :: (0 : Int) :: (0 : Int) :: (0 : Int) :: (0 : Int) :: (0 : Int) :: (0 : Int) :: (0 : Int) :: (0 : Int) :: (0 : Int) :: (0 : Int) :: (0 : Int) :: (0 : Int) :: (0 : Int) :: (0 : Int) :: (0 : Int) :: (0 : Int) :: (0 : Int) :: (0 : Int) :: (0 : Int) :: (0 : Int) :: (0 : Int) :: (0 : Int) :: (0 : Int) :: (0 : Int) :: (0 : Int) :: (0 : Int) :: (0 : Int) :: (0 : Int) :: (0 : Int) :: (0 : Int) :: (0 : Int) :: (0 : Int) :: (0 : Int) :: (0 : Int) :: (0 : Int) :: (0 : Int) :: (0 : Int) :: (0 : Int) :: (0 : Int) :: (0 : Int) :: (0 : Int) :: (0 : Int) :: (0 : Int) :: (0 : Int) :: (0 : Int) :: (0 : Int) :: ([] : List Int)),true⟩
theorem z12o : TyOk Tryd.prog 117 z1d5 := TyOk.of (by kernel_rfl) (by kernel_rfl) (by kernel_rfl) (by kernel_rfl)
def z1d4 : TyI := ⟨(Go.TypeDesc.int IntKind.u64),1,8,(.int .u64),(0 : Int),false⟩
theorem z12n : TyOk Tryd.prog 118 z1d4 := TyOk.of (by kernel_rfl) (by kernel_rfl) (by kernel_rfl) (by kernel_rfl)
def z1d3 : TyI := ⟨(Go.TypeDesc.map 113 3),1,8,.opq,(Go.Value.map none),false⟩
theorem z12m : TyOk Tryd.prog 123 z1d3 := TyOk.of (by kernel_rfl) (by kernel_rfl) (by kernel_rfl) (by kernel_rfl)
def tys : List (Nat × TyI) := [(3,ty3),(4,ty4),(5,ty5),(9,ty9),(22,ty22),(23,ty23),(24,ty24),(26,ty26),(31,ty31),(33,ty33),(35,ty35),(41,ty41),(43,ty43),(44,ty44),(46,ty46),(48,ty48),(56,ty56),(59,ty59),(60,ty60),(61,ty61),(63,ty63),(73,ty73),(75,ty75),(80,ty80),(82,ty82),(84,ty84),(99,ty99),(109,z1da),(110,z1d9),(111,z1d8),(113,z1d7),(114,z1d6),(117,z1d5),(118,z1d4),(123,z1d3)]
theorem zn : TysOk Tryd.prog tys := TysOk.cons z1d2 (TysOk.cons z1d1 (TysOk.cons z1d0 (TysOk.cons z1cz (TysOk.cons z170 (TysOk.cons z16z (TysOk.cons z16y (TysOk.cons z16x (TysOk.cons z16w (TysOk.cons z16v (TysOk.cons z16u (TysOk.cons z16t (TysOk.cons z16s (TysOk.cons z16r (TysOk.cons z16q (TysOk.cons z16p (TysOk.cons z16o (TysOk.cons z16n (TysOk.cons z16m (TysOk.cons z16l (TysOk.cons z16k (TysOk.cons z16j (TysOk.cons z16i (TysOk.cons z16h (TysOk.cons z16g (TysOk.cons z16f (TysOk.cons z16e (TysOk.cons z12t (TysOk.cons z12s (TysOk.cons z12r (TysOk.cons z12q (TysOk.cons z12p (TysOk.cons z12o (TysOk.cons z12n (TysOk.cons z12m (TysOk.nil)))))))))))))))))))))))))))))))))))
theorem mixed : Tryd.prog.follows .mixedOrders = true := by kernel_rfl
def glob0 : List Int := [0,1,56,2,57,49,28,3,61,58,42,50,38,29,17,4,62,47,59,36,45,43,51,22,53,39,33,30,24,18,12,5,63,55,48,27,60,41,37,16,46,35,44,21,52,32,23,11,54,26,40,15,34,20,31,10,25,14,19,9,13,8,7,6]
def glob : Nat -> Option Dat := lk [(0,⟨(.arr 64 (.int .u8)),glob0⟩)]
def z11x : Code := (Tryd.f68.body).getD .skip
def L_0 : List (List Nat × List Nat) := [([0],[2,3,4]),([0,0,1],[6,2,3,4]),([0,1,0,1],[6,2,3,4]),([0,0,0,1,0,1],[7,6,2,3,4]),(z1ck,[6,2,3,4]),(zz1,[2,4]),(zz4,[5,2,3,6,4]),(z149,[6,2,3,4]),(zz0,[6,2,3,4]),(zyz,[6,2,3,4]),([1,0,1],[2,4]),([0,1,1],[4]),([1,1,1],[4])]
def E_0 (N:Nat) : Env := z1d tys glob [] [] [] [] false [] []
theorem Eok_0 (N:Nat) : EnvOk Tryd.prog (E_0 N) := zi mixed zn (FnsOk.nil) (ItsOk.nil)
def ze6 (N:Nat) (o:(List Int)) (x4:(List Int)) (s:(List Int)) (x6:Int) (rec:(List Int) -> Int -> Option (List Int)) (k0:(List Int) -> Option (List Int)) : Option (List Int) :=
 cond (decide (x6 < (8 : Int)))
 (cond (inR x6 8)
 (cond (decide ((Int.toNat x6) < (List.length s)))
 (cond (inR x6 8)
 (cond (decide ((Int.toNat x6) < (List.length o)))
 (cond (inR x6 8)
 (cond (decide ((Int.toNat x6) < (List.length s)))
 (rec (List.set s (Int.toNat x6) (zf Go.BinOp.and IntKind.u64 (List.getD s (Int.toNat x6) (0 : Int)) (List.getD o (Int.toNat x6) (0 : Int)))) (IntKind.wrap IntKind.i64 (x6 + (1 : Int))))
 (none))
 (none))
 (none))
 (none))
 (none))
 (none))
 (k0 s)
def zlv (N:Nat) (s:(List Int)) (o:(List Int)) (x4:(List Int)) (x6:Int) (k0:(List Int) -> Option (List Int)) : Option (List Int) :=
 iter (fun (v:((List Int) × Int)) r=>ze6 N o x4 v.1 v.2 (fun s x6=>(r (s,x6))) k0) N (s,x6)
def g1_0 (N:Nat) (i:((List Int) × (List Int))) (v:((List Int) × Int)) (r:((List Int) × Int) -> Option (List Int)) (K:Ex -> List A -> Option (List Int)) : Option (List Int) :=
 ze6 N i.1 i.2 v.1 v.2 (fun s x6=>(r (s,x6))) (fun a0=>(K (.exit 0) (mkS [(2,.box (.arr 8 (.int .u64))),(1,.box (.arr 8 (.int .u64)))] 14 (a0,i.2,()))))
def h1_0 (N:Nat) : Hd (List Int) := fun st K=>(unS SQ35 12 (restr [6,2,3,4] 0 st)).bind fun x=>iter (fun v r=>g1_0 N ((fun x=>(x.2.1,x.2.2.1)) x) v r K) N ((fun x=>(x.1,x.2.2.2.1)) x)
def t1_0 (N:Nat) : Tab (List Int) := []
theorem ok1_0 {N:Nat} {c:Ctx} (hb:Base Tryd.prog (E_0 N) c) : zj Tryd.prog c (zh z11x [0,1,0,1]) (h1_0 N) :=
  z18 (s := SQ35) (m := 12) (g1_0 N) [6,2,3,4] N (fun x=>(x.2.1,x.2.2.1)) (fun x=>(x.1,x.2.2.2.1)) (fun i v=>(v.1,i.1,i.2,v.2,())) (fun _=>rfl) (ze hb N (t1_0 N) L_0 z11x TabOk.nil [0,0,1,0,1] _ rfl) (fun i v r K=>by kernel_rfl)
def z9q (N:Nat) (s:(List Int)) (o:(List Int)) : Option (List Int) :=
 zlv N s o ([(0 : Int),(0 : Int),(0 : Int),(0 : Int),(0 : Int),(0 : Int),(0 : Int),(0 : Int)] : List Int) (0 : Int)
 (fun s1=>some s1)
def t_0 (N:Nat) : Tab (List Int) := [([0,1,0,1],h1_0 N)]
theorem z1hu (N:Nat) (x:z13 z1ca) : z4l (E_0 N) N (t_0 N) L_0 Tryd.f68 (mkS z1ca 0 x) (z2v (.v (.arr 8 (.int .u64))) 2) = z9q N x.1 x.2.1 := by kernel_rfl
def z8s (N:Nat) : List A -> Res := zz z1ca (fun x=>z9q N x.1 x.2.1) (z70 (.v (.arr 8 (.int .u64))) 2)
theorem ze7 (N:Nat) : Contract Tryd.prog glob 68 (z8s N) :=
  Contract.of (E := E_0 N) (H := t_0 N) (L := L_0) (N := N) (body := z11x) (K := (z2v (.v (.arr 8 (.int .u64))) 2)) (Eok_0 N) Tryd.func68 (by kernel_rfl) (by decide) (fun _ hb=>(TabOk.cons (ok1_0 hb) TabOk.nil)) (fun x y h=>by rw [z1hu]; exact h) (z16 (s := (.v (.arr 8 (.int .u64)))) (m := 2))
def z1ox : Code := (Tryd.f67.body).getD .skip
def L_1 : List (List Nat × List Nat) := [([0],[0,3]),([0,1],[7,6,0,3]),([0,0,1,1],[17,6,0,3]),([1,0,1,1],[0,3]),([0,0,1,0,1,1],[4,5,0]),([1,0,1,0,1,1],[4,5,0]),([0,1,1,1],[6,0,3]),([0,0,1,1,1,1],[26,0,3,6]),([1,0,1,1,1,1],[0,3,6]),(zwc,[4,5,0]),([1,0,1,0,1,1,1,1],[4,5,0]),([0,1,1,1,1,1],[0,3,6]),(zyu,[0,3,6]),(zzg,[6,0]),([0,1,1,1,1,1,1,1,1],[4,5,0]),([1,1,1,1,1,1,1,1,1],[4,5,0])]
def E_1 (N:Nat) : Env := z1d tys glob [(68,z8s N)] [] [] [0] false [] []
theorem Eok_1 (N:Nat) : EnvOk Tryd.prog (E_1 N) := zi mixed zn (FnsOk.cons (ze7 N) (FnsOk.nil)) (ItsOk.nil)
def z8u (N:Nat) (b:DT0) (s:(List Int)) : Option ((Int × Bool × Unit) × (DT0 × Unit)) :=
 cond (Option.isSome (zf9 (eqD (T.arr 8 (T.int IntKind.u64))) s (Option.getD b.2.2.2.2.1 ([] : List ((List Int) × Int)))))
 (some (((Option.getD (zf9 (eqD (T.arr 8 (T.int IntKind.u64))) s (Option.getD b.2.2.2.2.1 ([] : List ((List Int) × Int)))) (0 : Int)),(true,())),(b,())))
 (cond ((((List.length b.2.2.2.2.2.2.1.2.1) : Nat) : Int) == (4096 : Int))
 (some (((0 : Int),(false,())),(b,())))
 (cond (Option.isSome b.2.2.2.2.1)
 (cond (decide ((((List.length b.2.2.2.2.2.1) + 1) * 64) <= 70368744177664))
 ((z9q N s b.2.1).bind fun y =>
 cond (decide ((((List.length b.2.2.2.2.2.2.1.2.1) + 1) * 1) <= 70368744177664))
 (some (((((List.length b.2.2.2.2.2.2.1.2.1) : Nat) : Int),(true,())),((b.1,(b.2.1,(b.2.2.1,(b.2.2.2.1,((Option.some (z12f (eqD (T.arr 8 (T.int IntKind.u64))) s (((List.length b.2.2.2.2.2.2.1.2.1) : Nat) : Int) (Option.getD b.2.2.2.2.1 ([] : List ((List Int) × Int))))),((b.2.2.2.2.2.1 ++ ([s] : List (List Int))),((b.2.2.2.2.2.2.1.1,((b.2.2.2.2.2.2.1.2.1 ++ ([(!(eqD (T.arr 8 (T.int IntKind.u64)) y ([(0 : Int),(0 : Int),(0 : Int),(0 : Int),(0 : Int),(0 : Int),(0 : Int),(0 : Int)] : List Int)))] : List Bool)),b.2.2.2.2.2.2.1.2.2)),b.2.2.2.2.2.2.2))))))),())))
 (none))
 (none))
 (none)))
def t_1 (N:Nat) : Tab ((Int × Bool × Unit) × (DT0 × Unit)) := []
theorem z1ht (N:Nat) (x:z13 z146) : z4l (E_1 N) N (t_1 N) L_1 Tryd.f67 (mkS z146 0 x) (z35 (.tup [(.int .i64),.bool]) [(0,.box TT3)] 1) = z8u N x.1 x.2.1 := by kernel_rfl
def z98 (N:Nat) : List A -> Res := zz z146 (fun x=>z8u N x.1 x.2.1) (z3p (.tup [(.int .i64),.bool]) [(0,.box TT3)] 1)
theorem zhg (N:Nat) : Contract Tryd.prog glob 67 (z98 N) :=
  Contract.of (E := E_1 N) (H := t_1 N) (L := L_1) (N := N) (body := z1ox) (K := (z35 (.tup [(.int .i64),.bool]) [(0,.box TT3)] 1)) (Eok_1 N) Tryd.func67 (by kernel_rfl) (by decide) (fun _ hb=>TabOk.nil) (fun x y h=>by rw [z1ht]; exact h) (z2e (s := (.tup [(.int .i64),.bool])) (os := [(0,.box TT3)]) (m := 1))
def z11w : Code := (Tryd.f49.body).getD .skip
def L_2 : List (List Nat × List Nat) := [([0],[0,3]),([0,1],[0,3,5]),([0,0,1,1],zw7),([0,1,0,1,1],zw7),(zxn,[22,21,19,0,3,5,20]),(zts,[21,19,0,3,5,20]),(z123,[0,5]),(z124,[0,3,7,5,6,21,20,19]),(z12j,[9,0,5,6,8,21,20,19,3]),([0,0,1,1,0,0,1,1,0,0,1,0,1,1],[35,0,5,6,8,21,20,19,3]),([1,0,1,1,0,0,1,1,0,0,1,0,1,1],[5,6,8,21,20,19,0,3]),([0,0,1,0,1,1,0,0,1,1,0,0,1,0,1,1],[4,0]),([1,0,1,0,1,1,0,0,1,1,0,0,1,0,1,1],[4,0]),([1,1,1,0,0,1,1,0,0,1,0,1,1],zw7),(z122,zw7),(z121,zw7),([1,0,1,1],[0,5]),([0,1,1,1],[0]),([0,1,1,1,1],[4,0]),([1,1,1,1,1],[4,0])]
def E_2 (N:Nat) : Env := z1d tys glob [(67,z98 N),(68,z8s N)] [(5,(.int .i64))] [] [0] false [] []
theorem Eok_2 (N:Nat) : EnvOk Tryd.prog (E_2 N) := zi mixed zn (FnsOk.cons (zhg N) (FnsOk.cons (ze7 N) (FnsOk.nil))) (ItsOk.nil)
def zd8 (N:Nat) (after:(List Int)) (x19:(List (List Int))) (x20:Int) (b:DT0) (row:(List Int)) (x21:Int) (rec:DT0 -> (List Int) -> Int -> Option zej) (k0:DT0 -> Bool -> Option zej) (k1:DT0 -> (List Int) -> Option zej) : Option zej :=
 cond (decide (x21 < x20))
 (cond (inR x21 (List.length x19))
 ((z9q N after (List.getD x19 (Int.toNat x21) ([] : List Int))).bind fun y =>
 (z8u N b y).bind fun y1 =>
 cond (!y1.1.2.1)
 (k0 y1.2.1 false)
 (cond (inR x21 (List.length row))
 (cond (decide ((Int.toNat x21) < (List.length row)))
 (rec y1.2.1 (List.set row (Int.toNat x21) y1.1.1) (IntKind.wrap IntKind.i64 (x21 + (1 : Int))))
 (none))
 (none)))
 (none))
 (k1 b row)
def zkq (N:Nat) (b:DT0) (after:(List Int)) (row:(List Int)) (x19:(List (List Int))) (x20:Int) (x21:Int) (k0:DT0 -> Bool -> Option zej) (k1:DT0 -> (List Int) -> Option zej) : Option zej :=
 iter (fun (v:(DT0 × (List Int) × Int)) r=>zd8 N after x19 x20 v.1 v.2.1 v.2.2 (fun b row x21=>(r (b,row,x21))) k0 k1) N (b,row,x21)
def g1_2 (N:Nat) (i:((List Int) × (List (List Int)) × Int)) (v:(DT0 × (List Int) × Int)) (r:(DT0 × (List Int) × Int) -> Option zej) (K:Ex -> List A -> Option zej) : Option zej :=
 zd8 N i.1 i.2.1 i.2.2 v.1 v.2.1 v.2.2 (fun b row x21=>(r (b,row,x21))) (fun a0 a1=>(K .ret (mkS [(0,.box TT3),(3,.v .bool)] 48 (a0,a1,())))) (fun a0 a1=>(K (.exit 0) (mkS [(0,.box TT3),(4,.row (.int .i64))] 47 (a0,a1,()))))
def h1_2 (N:Nat) : Hd zej := fun st K=>(unS SQ68 31 (restr zw7 0 st)).bind fun x=>iter (fun v r=>g1_2 N ((fun x=>(x.2.1,x.2.2.2.1,x.2.2.2.2.1)) x) v r K) N ((fun x=>(x.1,x.2.2.1,x.2.2.2.2.2.1)) x)
def t1_2 (N:Nat) : Tab zej := []
theorem ok1_2 {N:Nat} {c:Ctx} (hb:Base Tryd.prog (E_2 N) c) : zj Tryd.prog c (zh z11w [0,1,0,1,1]) (h1_2 N) :=
  z18 (s := SQ68) (m := 31) (g1_2 N) zw7 N (fun x=>(x.2.1,x.2.2.2.1,x.2.2.2.2.1)) (fun x=>(x.1,x.2.2.1,x.2.2.2.2.2.1)) (fun i v=>(v.1,i.1,v.2.1,i.2.1,i.2.2,v.2.2,())) (fun _=>rfl) (ze hb N (t1_2 N) L_2 z11w TabOk.nil [0,0,1,0,1,1] _ rfl) (fun i v r K=>by kernel_rfl)
def z8t (N:Nat) (b:DT0) (after:(List Int)) : Option zej :=
 cond (decide (((0 : Int) <= (((List.length b.2.2.2.1) : Nat) : Int)) /\ (((((List.length b.2.2.2.1) : Nat) : Int) <= (((List.length b.2.2.2.1) : Nat) : Int)) /\ ((((((List.length b.2.2.2.1) : Nat) : Int) * (8 : Int)) <= (281474976710656 : Int)) /\ ((((List.length b.2.2.2.1) : Nat) : Int) <= (9223372036854775807 : Int))))))
 (zkq N b after (List.replicate (Int.toNat (((List.length b.2.2.2.1) : Nat) : Int)) (0 : Int)) b.2.2.2.1 (((List.length b.2.2.2.1) : Nat) : Int) (0 : Int)
 (fun b1 x4=>some (x4,(b1,())))
 (fun b2 row=>cond (decide ((((List.length b2.2.2.2.2.2.2.1.2.2.2.1) + 1) * 24) <= 70368744177664))
 (some (true,((b2.1,(b2.2.1,(b2.2.2.1,(b2.2.2.2.1,(b2.2.2.2.2.1,(b2.2.2.2.2.2.1,((b2.2.2.2.2.2.2.1.1,(b2.2.2.2.2.2.2.1.2.1,(b2.2.2.2.2.2.2.1.2.2.1,((b2.2.2.2.2.2.2.1.2.2.2.1 ++ ([row] : List (List Int))),b2.2.2.2.2.2.2.1.2.2.2.2)))),b2.2.2.2.2.2.2.2))))))),())))
 (none)))
 (none)
def t_2 (N:Nat) : Tab zej := [([0,1,0,1,1],h1_2 N)]
theorem z1hs (N:Nat) (x:z13 z146) : z4l (E_2 N) N (t_2 N) L_2 Tryd.f49 (mkS z146 0 x) (z35 (.v .bool) [(0,.box TT3)] 1) = z8t N x.1 x.2.1 := by kernel_rfl
def zcg (N:Nat) : List A -> Res := zz z146 (fun x=>z8t N x.1 x.2.1) (z3p (.v .bool) [(0,.box TT3)] 1)
theorem zkr (N:Nat) : Contract Tryd.prog glob 49 (zcg N) :=
  Contract.of (E := E_2 N) (H := t_2 N) (L := L_2) (N := N) (body := z11w) (K := (z35 (.v .bool) [(0,.box TT3)] 1)) (Eok_2 N) Tryd.func49 (by kernel_rfl) (by decide) (fun _ hb=>(TabOk.cons (ok1_2 hb) TabOk.nil)) (fun x y h=>by rw [z1hs]; exact h) (z2e (s := (.v .bool)) (os := [(0,.box TT3)]) (m := 1))
def z1ow : Code := (Tryd.f70.body).getD .skip
def L_3 : List (List Nat × List Nat) := [([0],[0]),([0,0,1],[4,0]),([1,0,1],[0]),([0,0,1,0,1],[2]),([1,0,1,0,1],[2]),([0,1,1],[2]),([1,1,1],[2])]
def E_3 (N:Nat) : Env := z1d tys glob [] [] [] [] false [] []
theorem Eok_3 (N:Nat) : EnvOk Tryd.prog (E_3 N) := zi mixed zn (FnsOk.nil) (ItsOk.nil)
def z2s (N:Nat) (x0:Int) : Option Int :=
 cond (x0 == (0 : Int))
 (some (64 : Int))
 (cond (inR (z24 IntKind.u64 (IntKind.wrap IntKind.u64 ((285870213051353865 : Int) * (zf Go.BinOp.and IntKind.u64 x0 (IntKind.wrap IntKind.u64 ((0 : Int) - x0))))) (58 : Int)) 64)
 (some (IntKind.wrap IntKind.i64 (List.getD glob0 (Int.toNat (z24 IntKind.u64 (IntKind.wrap IntKind.u64 ((285870213051353865 : Int) * (zf Go.BinOp.and IntKind.u64 x0 (IntKind.wrap IntKind.u64 ((0 : Int) - x0))))) (58 : Int))) (0 : Int))))
 (none))
def t_3 (N:Nat) : Tab Int := []
theorem z1hr (N:Nat) (x:z13 [(0,.v (.int .u64))]) : z4l (E_3 N) N (t_3 N) L_3 Tryd.f70 (mkS [(0,.v (.int .u64))] 0 x) (z2v (.v (.int .i64)) 1) = z2s N x.1 := by kernel_rfl
def z34 (N:Nat) : List A -> Res := zz [(0,.v (.int .u64))] (fun x=>z2s N x.1) (z70 (.v (.int .i64)) 1)
theorem z5k (N:Nat) : Contract Tryd.prog glob 70 (z34 N) :=
  Contract.of (E := E_3 N) (H := t_3 N) (L := L_3) (N := N) (body := z1ow) (K := (z2v (.v (.int .i64)) 1)) (Eok_3 N) Tryd.func70 (by kernel_rfl) (by decide) (fun _ hb=>TabOk.nil) (fun x y h=>by rw [z1hr]; exact h) (z16 (s := (.v (.int .i64))) (m := 1))
def z11v : Code := (Tryd.f69.body).getD .skip
def L_4 : List (List Nat × List Nat) := [([0],[2,3,4]),([0,0,1],[6,2,3,4]),([0,1,0,1],[6,2,3,4]),([0,0,0,1,0,1],[7,6,2,3,4]),(z1ck,[6,2,3,4]),(zz1,[2,4]),(zz4,[5,2,3,6,4]),(z149,[6,2,3,4]),(zz0,[6,2,3,4]),(zyz,[6,2,3,4]),([1,0,1],[2,4]),([0,1,1],[4]),([1,1,1],[4])]
def E_4 (N:Nat) : Env := z1d tys glob [] [] [] [] false [] []
theorem Eok_4 (N:Nat) : EnvOk Tryd.prog (E_4 N) := zi mixed zn (FnsOk.nil) (ItsOk.nil)
def zg7 (N:Nat) (o:(List Int)) (x4:(List Int)) (s:(List Int)) (x6:Int) (rec:(List Int) -> Int -> Option (List Int)) (k0:(List Int) -> Option (List Int)) : Option (List Int) :=
 cond (decide (x6 < (8 : Int)))
 (cond (inR x6 8)
 (cond (decide ((Int.toNat x6) < (List.length s)))
 (cond (inR x6 8)
 (cond (decide ((Int.toNat x6) < (List.length o)))
 (cond (inR x6 8)
 (cond (decide ((Int.toNat x6) < (List.length s)))
 (rec (List.set s (Int.toNat x6) (zf Go.BinOp.or IntKind.u64 (List.getD s (Int.toNat x6) (0 : Int)) (List.getD o (Int.toNat x6) (0 : Int)))) (IntKind.wrap IntKind.i64 (x6 + (1 : Int))))
 (none))
 (none))
 (none))
 (none))
 (none))
 (none))
 (k0 s)
def zn1 (N:Nat) (s:(List Int)) (o:(List Int)) (x4:(List Int)) (x6:Int) (k0:(List Int) -> Option (List Int)) : Option (List Int) :=
 iter (fun (v:((List Int) × Int)) r=>zg7 N o x4 v.1 v.2 (fun s x6=>(r (s,x6))) k0) N (s,x6)
def g1_4 (N:Nat) (i:((List Int) × (List Int))) (v:((List Int) × Int)) (r:((List Int) × Int) -> Option (List Int)) (K:Ex -> List A -> Option (List Int)) : Option (List Int) :=
 zg7 N i.1 i.2 v.1 v.2 (fun s x6=>(r (s,x6))) (fun a0=>(K (.exit 0) (mkS [(2,.box (.arr 8 (.int .u64))),(1,.box (.arr 8 (.int .u64)))] 14 (a0,i.2,()))))
def h1_4 (N:Nat) : Hd (List Int) := fun st K=>(unS SQ35 12 (restr [6,2,3,4] 0 st)).bind fun x=>iter (fun v r=>g1_4 N ((fun x=>(x.2.1,x.2.2.1)) x) v r K) N ((fun x=>(x.1,x.2.2.2.1)) x)
def t1_4 (N:Nat) : Tab (List Int) := []
theorem ok1_4 {N:Nat} {c:Ctx} (hb:Base Tryd.prog (E_4 N) c) : zj Tryd.prog c (zh z11v [0,1,0,1]) (h1_4 N) :=
  z18 (s := SQ35) (m := 12) (g1_4 N) [6,2,3,4] N (fun x=>(x.2.1,x.2.2.1)) (fun x=>(x.1,x.2.2.2.1)) (fun i v=>(v.1,i.1,i.2,v.2,())) (fun _=>rfl) (ze hb N (t1_4 N) L_4 z11v TabOk.nil [0,0,1,0,1] _ rfl) (fun i v r K=>by kernel_rfl)
def zff (N:Nat) (s:(List Int)) (o:(List Int)) : Option (List Int) :=
 zn1 N s o ([(0 : Int),(0 : Int),(0 : Int),(0 : Int),(0 : Int),(0 : Int),(0 : Int),(0 : Int)] : List Int) (0 : Int)
 (fun s1=>some s1)
def t_4 (N:Nat) : Tab (List Int) := [([0,1,0,1],h1_4 N)]
theorem z1hq (N:Nat) (x:z13 z1ca) : z4l (E_4 N) N (t_4 N) L_4 Tryd.f69 (mkS z1ca 0 x) (z2v (.v (.arr 8 (.int .u64))) 2) = zff N x.1 x.2.1 := by kernel_rfl
def ze5 (N:Nat) : List A -> Res := zz z1ca (fun x=>zff N x.1 x.2.1) (z70 (.v (.arr 8 (.int .u64))) 2)
theorem zn2 (N:Nat) : Contract Tryd.prog glob 69 (ze5 N) :=
  Contract.of (E := E_4 N) (H := t_4 N) (L := L_4) (N := N) (body := z11v) (K := (z2v (.v (.arr 8 (.int .u64))) 2)) (Eok_4 N) Tryd.func69 (by kernel_rfl) (by decide) (fun _ hb=>(TabOk.cons (ok1_4 hb) TabOk.nil)) (fun x y h=>by rw [z1hq]; exact h) (z16 (s := (.v (.arr 8 (.int .u64)))) (m := 2))
def ztl : Code := (Tryd.f50.body).getD .skip
def L_5 : List (List Nat × List Nat) := [([0],[3,0,4]),([0,1],[3,5,0,4]),([0,0,1,1],[9,8,5,0,4]),([0,1,0,1,1],[9,8,5,0,4]),(zxn,[10,9,8,5,0,4]),(zts,[9,8,5,0,4]),(z123,[5,4,0]),(z124,zw6),(z12j,zw6),([0,0,0,0,1,0,0,1,1,0,0,1,0,1,1],[14,5,0,6,7,9,8,4]),([1,0,0,0,1,0,0,1,1,0,0,1,0,1,1],[5,0,6,7,9,8,4]),([1,1,0,0,0,1,0,0,1,1,0,0,1,0,1,1],[9,8,5,0,4]),([0,0,1,0,0,1,0,0,1,1,0,0,1,0,1,1],zw6),([0,1,0,0,1,0,0,1,1,0,0,1,0,1,1],zw6),([1,1,0,0,1,0,0,1,1,0,0,1,0,1,1],zw6),(zz5,[9,8,5,0,4]),(z122,[9,8,5,0,4]),(z121,[9,8,5,0,4]),([1,0,1,1],[5,4,0]),([0,1,1,1],[4,0]),([1,1,1,1],[4,0])]
def E_5 (N:Nat) : Env := z1d tys glob [(69,ze5 N),(70,z34 N)] [] [] [0] false [] []
theorem Eok_5 (N:Nat) : EnvOk Tryd.prog (E_5 N) := zi mixed zn (FnsOk.cons (zn2 N) (FnsOk.cons (z5k N) (FnsOk.nil))) (ItsOk.nil)
def zbb (N:Nat) (b:DT0) (x4:(List Int)) (i:Int) (x8:(List Int)) (x9:Int) (all:(List Int)) (word:Int) (rec:(List Int) -> Int -> Option ((List Int) × (DT0 × Unit))) (k0:(List Int) -> Option ((List Int) × (DT0 × Unit))) : Option ((List Int) × (DT0 × Unit)) :=
 cond (word != (0 : Int))
 ((z2s N word).bind fun y =>
 cond (inR (IntKind.wrap IntKind.i64 ((IntKind.wrap IntKind.i64 (i * (64 : Int))) + y)) (List.length b.2.2.1))
 ((zff N all (List.getD b.2.2.1 (Int.toNat (IntKind.wrap IntKind.i64 ((IntKind.wrap IntKind.i64 (i * (64 : Int))) + y))) ([] : List Int))).bind fun y1 =>
 rec y1 (zf Go.BinOp.and IntKind.u64 word (IntKind.wrap IntKind.u64 (word - (1 : Int)))))
 (none))
 (k0 all)
def zio (N:Nat) (b:DT0) (x4:(List Int)) (all:(List Int)) (i:Int) (word:Int) (x8:(List Int)) (x9:Int) (k0:(List Int) -> Option ((List Int) × (DT0 × Unit))) : Option ((List Int) × (DT0 × Unit)) :=
 iter (fun (v:((List Int) × Int)) r=>zbb N b x4 i x8 x9 v.1 v.2 (fun all word=>(r (all,word))) k0) N (all,word)
def g2_5 (N:Nat) (i:(DT0 × (List Int) × Int × (List Int) × Int)) (v:((List Int) × Int)) (r:((List Int) × Int) -> Option ((List Int) × (DT0 × Unit))) (K:Ex -> List A -> Option ((List Int) × (DT0 × Unit))) : Option ((List Int) × (DT0 × Unit)) :=
 zbb N i.1 i.2.1 i.2.2.1 i.2.2.2.1 i.2.2.2.2 v.1 v.2 (fun all word=>(r (all,word))) (fun a2=>(K (.exit 2) (mkS SQ52 24 (i.1,i.2.1,a2,i.2.2.2.1,i.2.2.2.2,()))))
def h2_5 (N:Nat) : Hd ((List Int) × (DT0 × Unit)) := fun st K=>(unS SQ59 24 (restr zw6 0 st)).bind fun x=>iter (fun v r=>g2_5 N ((fun x=>(x.1,x.2.1,x.2.2.2.1,x.2.2.2.2.2.1,x.2.2.2.2.2.2.1)) x) v r K) N ((fun x=>(x.2.2.1,x.2.2.2.2.1)) x)
def t2_5 (N:Nat) : Tab ((List Int) × (DT0 × Unit)) := []
theorem ok2_5 {N:Nat} {c:Ctx} (hb:Base Tryd.prog (E_5 N) c) : zj Tryd.prog c (zh ztl z12j) (h2_5 N) :=
  z18 (s := SQ59) (m := 24) (g2_5 N) zw6 N (fun x=>(x.1,x.2.1,x.2.2.2.1,x.2.2.2.2.2.1,x.2.2.2.2.2.2.1)) (fun x=>(x.2.2.1,x.2.2.2.2.1)) (fun i v=>(i.1,i.2.1,v.1,i.2.2.1,v.2,i.2.2.2.1,i.2.2.2.2,())) (fun _=>rfl) (ze hb N (t2_5 N) L_5 ztl TabOk.nil z12a _ rfl) (fun i v r K=>by kernel_rfl)
def zbc (N:Nat) (b:DT0) (x4:(List Int)) (x8:(List Int)) (all:(List Int)) (x9:Int) (rec:(List Int) -> Int -> Option ((List Int) × (DT0 × Unit))) (k0:(List Int) -> Option ((List Int) × (DT0 × Unit))) : Option ((List Int) × (DT0 × Unit)) :=
 cond (decide (x9 < (8 : Int)))
 (cond (inR x9 8)
 (zio N b x4 all x9 (List.getD x8 (Int.toNat x9) (0 : Int)) x8 x9
 (fun all1=>rec all1 (IntKind.wrap IntKind.i64 (x9 + (1 : Int)))))
 (none))
 (k0 all)
def ziq (N:Nat) (b:DT0) (x4:(List Int)) (all:(List Int)) (x8:(List Int)) (x9:Int) (k0:(List Int) -> Option ((List Int) × (DT0 × Unit))) : Option ((List Int) × (DT0 × Unit)) :=
 iter (fun (v:((List Int) × Int)) r=>zbc N b x4 x8 v.1 v.2 (fun all x9=>(r (all,x9))) k0) N (all,x9)
def g1_5 (N:Nat) (i:(DT0 × (List Int) × (List Int))) (v:((List Int) × Int)) (r:((List Int) × Int) -> Option ((List Int) × (DT0 × Unit))) (K:Ex -> List A -> Option ((List Int) × (DT0 × Unit))) : Option ((List Int) × (DT0 × Unit)) :=
 zbc N i.1 i.2.1 i.2.2 v.1 v.2 (fun all x9=>(r (all,x9))) (fun a2=>(K (.exit 0) (mkS [(0,.box TT3),(3,.box (.arr 8 (.int .u64))),(0,.box (.arr 8 (.int .u64)))] 28 (i.1,i.2.1,a2,()))))
def h1_5 (N:Nat) : Hd ((List Int) × (DT0 × Unit)) := fun st K=>(unS SQ52 24 (restr [9,8,5,0,4] 0 st)).bind fun x=>iter (fun v r=>g1_5 N ((fun x=>(x.1,x.2.1,x.2.2.2.1)) x) v r K) N ((fun x=>(x.2.2.1,x.2.2.2.2.1)) x)
def t1_5 (N:Nat) : Tab ((List Int) × (DT0 × Unit)) := [(z12j,h2_5 N)]
theorem ok1_5 {N:Nat} {c:Ctx} (hb:Base Tryd.prog (E_5 N) c) : zj Tryd.prog c (zh ztl [0,1,0,1,1]) (h1_5 N) :=
  z18 (s := SQ52) (m := 24) (g1_5 N) [9,8,5,0,4] N (fun x=>(x.1,x.2.1,x.2.2.2.1)) (fun x=>(x.2.2.1,x.2.2.2.2.1)) (fun i v=>(i.1,i.2.1,v.1,i.2.2,v.2,())) (fun _=>rfl) (ze hb N (t1_5 N) L_5 ztl (TabOk.cons (ok2_5 hb) TabOk.nil) [0,0,1,0,1,1] _ rfl) (fun i v r K=>by kernel_rfl)
def z9j (N:Nat) (b:DT0) (s:(List Int)) : Option ((List Int) × (DT0 × Unit)) :=
 ziq N b ([(0 : Int),(0 : Int),(0 : Int),(0 : Int),(0 : Int),(0 : Int),(0 : Int),(0 : Int)] : List Int) ([(0 : Int),(0 : Int),(0 : Int),(0 : Int),(0 : Int),(0 : Int),(0 : Int),(0 : Int)] : List Int) s (0 : Int)
 (fun all=>some (all,(b,())))
def t_5 (N:Nat) : Tab ((List Int) × (DT0 × Unit)) := [([0,1,0,1,1],h1_5 N)]
theorem z1hp (N:Nat) (x:z13 z146) : z4l (E_5 N) N (t_5 N) L_5 Tryd.f50 (mkS z146 0 x) (z35 (.v (.arr 8 (.int .u64))) [(0,.box TT3)] 1) = z9j N x.1 x.2.1 := by kernel_rfl
def zab (N:Nat) : List A -> Res := zz z146 (fun x=>z9j N x.1 x.2.1) (z3p (.v (.arr 8 (.int .u64))) [(0,.box TT3)] 1)
theorem zir (N:Nat) : Contract Tryd.prog glob 50 (zab N) :=
  Contract.of (E := E_5 N) (H := t_5 N) (L := L_5) (N := N) (body := ztl) (K := (z35 (.v (.arr 8 (.int .u64))) [(0,.box TT3)] 1)) (Eok_5 N) Tryd.func50 (by kernel_rfl) (by decide) (fun _ hb=>(TabOk.cons (ok1_5 hb) TabOk.nil)) (fun x y h=>by rw [z1hp]; exact h) (z2e (s := (.v (.arr 8 (.int .u64)))) (os := [(0,.box TT3)]) (m := 1))
def ztk : Code := (Tryd.f25.body).getD .skip
def L_6 : List (List Nat × List Nat) := [([0],[0]),([0,0,1],[12,0]),([1,0,1],[0]),([0,0,1,0,1],[2,0]),([1,0,1,0,1],[2,0]),([0,0,1,1],[0]),(zyw,[18,0]),(zyv,[0]),(zyy,[0]),([0,0,1,0,0,0,1,1],[3,0]),([0,1,0,1,0,0,0,1,1],[0,3]),([0,1,1,0,1,0,0,0,1,1],[3,0]),([0,1,1,1,0,1,0,0,0,1,1],[41,40,39,0]),([0,1,1,1,1,0,1,0,0,0,1,1],[41,40,39,0]),([0,0,0,1,1,1,1,0,1,0,0,0,1,1],[42,39,41,0,40]),([0,1,0,0,1,1,1,1,0,1,0,0,0,1,1],[39,41,0,40]),([1,0,1,0,0,1,1,1,1,0,1,0,0,0,1,1],[0]),([0,0,0,1,1,0,0,1,1,1,1,0,1,0,0,0,1,1],[0,5,41,40,39]),([0,1,0,0,1,1,0,0,1,1,1,1,0,1,0,0,0,1,1],[50,0,41,40,39]),([1,1,0,0,1,1,0,0,1,1,1,1,0,1,0,0,0,1,1],[41,40,39,0]),([0,0,1,1,0,0,1,1,0,0,1,1,1,1,0,1,0,0,0,1,1],[2,0]),([1,0,1,1,0,0,1,1,0,0,1,1,1,1,0,1,0,0,0,1,1],[2,0]),([0,1,1,0,0,1,1,1,1,0,1,0,0,0,1,1],[41,40,39,0]),([1,1,1,0,0,1,1,1,1,0,1,0,0,0,1,1],[41,40,39,0]),([1,1,1,1,0,1,0,0,0,1,1],[0]),([1,0,0,0,1,1],[0]),([0,1,1],[0]),([0,1,1,1],[2,0]),([1,1,1,1],[2,0])]
def E_6 (N:Nat) : Env := z1d tys glob [(50,zab N),(49,zcg N)] [(3,(.arr 8 (.int .u64)))] [] [0] false [(39,(.sl (.arr 8 (.int .u64)))),(36,(.own (.arr 8 (.int .u64)))),(24,(.own (.arr 8 (.int .u64))))] []
theorem Eok_6 (N:Nat) : EnvOk Tryd.prog (E_6 N) := zi mixed zn (FnsOk.cons (zir N) (FnsOk.cons (zkr N) (FnsOk.nil))) (ItsOk.nil)
def zb8 (N:Nat) (x39:(List (List Int))) (x40:Int) (b:DT0) (x41:Int) (rec:DT0 -> Int -> Option zej) (k0:DT0 -> Bool -> Option zej) (k1:DT0 -> Option zej) : Option zej :=
 cond (decide (x41 < x40))
 (cond (inR x41 (List.length x39))
 ((z9j N b (List.getD x39 (Int.toNat x41) ([] : List Int))).bind fun y =>
 (z8t N y.2.1 y.1).bind fun y1 =>
 cond (!y1.1)
 (k0 y1.2.1 false)
 (rec y1.2.1 (IntKind.wrap IntKind.i64 (x41 + (1 : Int)))))
 (none))
 (k1 b)
def zim (N:Nat) (b:DT0) (x39:(List (List Int))) (x40:Int) (x41:Int) (k0:DT0 -> Bool -> Option zej) (k1:DT0 -> Option zej) : Option zej :=
 iter (fun (v:(DT0 × Int)) r=>zb8 N x39 x40 v.1 v.2 (fun b x41=>(r (b,x41))) k0 k1) N (b,x41)
def g2_6 (N:Nat) (i:((List (List Int)) × Int)) (v:(DT0 × Int)) (r:(DT0 × Int) -> Option zej) (K:Ex -> List A -> Option zej) : Option zej :=
 zb8 N i.1 i.2 v.1 v.2 (fun b x41=>(r (b,x41))) (fun a0 a1=>(K .ret (mkS [(0,.box TT3),(1,.v .bool)] 49 (a0,a1,())))) (fun a0=>(K (.exit 2) (mkS [(0,.box TT3)] 51 (a0,()))))
def h2_6 (N:Nat) : Hd zej := fun st K=>(unS z1p6 10 (restr [41,40,39,0] 0 st)).bind fun x=>iter (fun v r=>g2_6 N ((fun x=>(x.2.1,x.2.2.1)) x) v r K) N ((fun x=>(x.1,x.2.2.2.1)) x)
def t2_6 (N:Nat) : Tab zej := []
theorem ok2_6 {N:Nat} {c:Ctx} (hb:Base Tryd.prog (E_6 N) c) : zj Tryd.prog c (zh ztk [0,1,1,1,1,0,1,0,0,0,1,1]) (h2_6 N) :=
  z18 (s := z1p6) (m := 10) (g2_6 N) [41,40,39,0] N (fun x=>(x.2.1,x.2.2.1)) (fun x=>(x.1,x.2.2.2.1)) (fun i v=>(v.1,i.1,i.2,v.2,())) (fun _=>rfl) (ze hb N (t2_6 N) L_6 ztk TabOk.nil [0,0,1,1,1,1,0,1,0,0,0,1,1] _ rfl) (fun i v r K=>by kernel_rfl)
def zb9 (N:Nat) (b:DT0) (rec:DT0 -> Option zej) (k0:DT0 -> Bool -> Option zej) (k1:DT0 -> Option zej) : Option zej :=
 cond (decide ((0 : Int) < (((List.length b.2.2.2.2.2.1) : Nat) : Int)))
 (cond (decide (((0 : Int) <= (((List.length b.2.2.2.2.2.1) : Nat) : Int)) /\ (((((List.length b.2.2.2.2.2.1) : Nat) : Int) <= (((List.length b.2.2.2.2.2.1) : Nat) : Int)) /\ ((((((List.length b.2.2.2.2.2.1) : Nat) : Int) * (64 : Int)) <= (281474976710656 : Int)) /\ ((((List.length b.2.2.2.2.2.1) : Nat) : Int) <= (9223372036854775807 : Int))))))
 (zim N (b.1,(b.2.1,(b.2.2.1,(b.2.2.2.1,(b.2.2.2.2.1,(([] : List (List Int)),b.2.2.2.2.2.2)))))) (over (List.replicate (Int.toNat (((List.length b.2.2.2.2.2.1) : Nat) : Int)) ([(0 : Int),(0 : Int),(0 : Int),(0 : Int),(0 : Int),(0 : Int),(0 : Int),(0 : Int)] : List Int)) 0 (List.length (List.replicate (Int.toNat (((List.length b.2.2.2.2.2.1) : Nat) : Int)) ([(0 : Int),(0 : Int),(0 : Int),(0 : Int),(0 : Int),(0 : Int),(0 : Int),(0 : Int)] : List Int))) b.2.2.2.2.2.1) (((List.length (over (List.replicate (Int.toNat (((List.length b.2.2.2.2.2.1) : Nat) : Int)) ([(0 : Int),(0 : Int),(0 : Int),(0 : Int),(0 : Int),(0 : Int),(0 : Int),(0 : Int)] : List Int)) 0 (List.length (List.replicate (Int.toNat (((List.length b.2.2.2.2.2.1) : Nat) : Int)) ([(0 : Int),(0 : Int),(0 : Int),(0 : Int),(0 : Int),(0 : Int),(0 : Int),(0 : Int)] : List Int))) b.2.2.2.2.2.1)) : Nat) : Int) (0 : Int)
 (fun b1 x2=>k0 b1 x2)
 (fun b2=>rec b2))
 (none))
 (k1 b)
def zin (N:Nat) (b:DT0) (k0:DT0 -> Bool -> Option zej) (k1:DT0 -> Option zej) : Option zej :=
 iter (fun (v:DT0) r=>zb9 N v (fun b=>(r b)) k0 k1) N b
def g1_6 (N:Nat) (i:Unit) (v:DT0) (r:DT0 -> Option zej) (K:Ex -> List A -> Option zej) : Option zej :=
 zb9 N v (fun b=>(r b)) (fun a0 a1=>(K .ret (mkS [(0,.box TT3),(1,.v .bool)] 49 (a0,a1,())))) (fun a0=>(K (.exit 0) (mkS [(0,.box TT3)] 51 (a0,()))))
def h1_6 (N:Nat) : Hd zej := fun st K=>(unS [(0,.box TT3)] 51 (restr [0] 0 st)).bind fun x=>iter (fun v r=>g1_6 N ((fun x=>()) x) v r K) N ((fun x=>x.1) x)
def t1_6 (N:Nat) : Tab zej := [([0,1,1,1,1,0,1,0,0,0,1,1],h2_6 N)]
theorem ok1_6 {N:Nat} {c:Ctx} (hb:Base Tryd.prog (E_6 N) c) : zj Tryd.prog c (zh ztk [0,0,1,1]) (h1_6 N) :=
  z18 (s := [(0,.box TT3)]) (m := 51) (g1_6 N) [0] N (fun x=>()) (fun x=>x.1) (fun i v=>(v,())) (fun _=>rfl) (ze hb N (t1_6 N) L_6 ztk (TabOk.cons (ok2_6 hb) TabOk.nil) [0,0,0,1,1] _ rfl) (fun i v r K=>by kernel_rfl)
def z69 (N:Nat) (b:DT0) : Option zej :=
 (z8t N b b.1).bind fun y =>
 cond (!y.1)
 (some (false,(y.2.1,())))
 (zin N y.2.1
 (fun b1 x2=>some (x2,(b1,())))
 (fun b2=>some (true,(b2,()))))
def t_6 (N:Nat) : Tab zej := [([0,0,1,1],h1_6 N)]
theorem z1ho (N:Nat) (x:z13 [(0,.box TT3)]) : z4l (E_6 N) N (t_6 N) L_6 Tryd.f25 (mkS [(0,.box TT3)] 0 x) (z35 (.v .bool) [(0,.box TT3)] 0) = z69 N x.1 := by kernel_rfl
def zhh (N:Nat) : List A -> Res := zz [(0,.box TT3)] (fun x=>z69 N x.1) (z3p (.v .bool) [(0,.box TT3)] 0)
theorem zba (N:Nat) : Contract Tryd.prog glob 25 (zhh N) :=
  Contract.of (E := E_6 N) (H := t_6 N) (L := L_6) (N := N) (body := ztk) (K := (z35 (.v .bool) [(0,.box TT3)] 0)) (Eok_6 N) Tryd.func25 (by kernel_rfl) (by decide) (fun _ hb=>(TabOk.cons (ok1_6 hb) TabOk.nil)) (fun x y h=>by rw [z1ho]; exact h) (z2e (s := (.v .bool)) (os := [(0,.box TT3)]) (m := 0))
def z11u : Code := (Tryd.f46.body).getD .skip
def L_7 : List (List Nat × List Nat) := [([0],[0,2]),([0,1],[0,3,2]),([0,0,1,1],[8,7,6,3,2]),([0,1,0,1,1],[8,7,6,3,2]),(zxn,[9,6,8,3,7,2]),(zts,[6,8,3,7,2]),(z123,[3,2]),(z124,[5,3,8,7,6,2]),(zz5,[8,7,6,3,2]),(z122,[8,7,6,3,2]),(z121,[8,7,6,3,2]),([1,0,1,1],[3,2]),([0,1,1,1],[2]),([1,1,1,1],[2])]
def E_7 (N:Nat) : Env := z1d tys glob [] [] [] [] false [] []
theorem Eok_7 (N:Nat) : EnvOk Tryd.prog (E_7 N) := zi mixed zn (FnsOk.nil) (ItsOk.nil)
def zhf (N:Nat) (x2:(List Int)) (x6:(List Int)) (x7:Int) (s:(List Int)) (x8:Int) (rec:(List Int) -> Int -> Option (List Int)) (k0:(List Int) -> Option (List Int)) : Option (List Int) :=
 cond (decide (x8 < x7))
 (cond (inR x8 (List.length x6))
 (cond (inR (IntKind.wrap IntKind.i64 (Int.tdiv (List.getD x6 (Int.toNat x8) (0 : Int)) (64 : Int))) 8)
 (cond (decide ((Int.toNat (IntKind.wrap IntKind.i64 (Int.tdiv (List.getD x6 (Int.toNat x8) (0 : Int)) (64 : Int)))) < (List.length s)))
 (cond (decide ((0 : Int) <= (Int.tmod (List.getD x6 (Int.toNat x8) (0 : Int)) (64 : Int))))
 (cond (inR (IntKind.wrap IntKind.i64 (Int.tdiv (List.getD x6 (Int.toNat x8) (0 : Int)) (64 : Int))) 8)
 (cond (decide ((Int.toNat (IntKind.wrap IntKind.i64 (Int.tdiv (List.getD x6 (Int.toNat x8) (0 : Int)) (64 : Int)))) < (List.length s)))
 (rec (List.set s (Int.toNat (IntKind.wrap IntKind.i64 (Int.tdiv (List.getD x6 (Int.toNat x8) (0 : Int)) (64 : Int)))) (zf Go.BinOp.or IntKind.u64 (List.getD s (Int.toNat (IntKind.wrap IntKind.i64 (Int.tdiv (List.getD x6 (Int.toNat x8) (0 : Int)) (64 : Int)))) (0 : Int)) (z174 IntKind.u64 (1 : Int) (Int.tmod (List.getD x6 (Int.toNat x8) (0 : Int)) (64 : Int))))) (IntKind.wrap IntKind.i64 (x8 + (1 : Int))))
 (none))
 (none))
 (none))
 (none))
 (none))
 (none))
 (k0 s)
def zou (N:Nat) (x2:(List Int)) (s:(List Int)) (x6:(List Int)) (x7:Int) (x8:Int) (k0:(List Int) -> Option (List Int)) : Option (List Int) :=
 iter (fun (v:((List Int) × Int)) r=>zhf N x2 x6 x7 v.1 v.2 (fun s x8=>(r (s,x8))) k0) N (s,x8)
def g1_7 (N:Nat) (i:((List Int) × (List Int) × Int)) (v:((List Int) × Int)) (r:((List Int) × Int) -> Option (List Int)) (K:Ex -> List A -> Option (List Int)) : Option (List Int) :=
 zhf N i.1 i.2.1 i.2.2 v.1 v.2 (fun s x8=>(r (s,x8))) (fun a1=>(K (.exit 0) (mkS [(2,.box (.arr 8 (.int .u64))),(0,.box (.arr 8 (.int .u64)))] 19 (i.1,a1,()))))
def h1_7 (N:Nat) : Hd (List Int) := fun st K=>(unS SQ85 14 (restr [8,7,6,3,2] 0 st)).bind fun x=>iter (fun v r=>g1_7 N ((fun x=>(x.1,x.2.2.1,x.2.2.2.1)) x) v r K) N ((fun x=>(x.2.1,x.2.2.2.2.1)) x)
def t1_7 (N:Nat) : Tab (List Int) := []
theorem ok1_7 {N:Nat} {c:Ctx} (hb:Base Tryd.prog (E_7 N) c) : zj Tryd.prog c (zh z11u [0,1,0,1,1]) (h1_7 N) :=
  z18 (s := SQ85) (m := 14) (g1_7 N) [8,7,6,3,2] N (fun x=>(x.1,x.2.2.1,x.2.2.2.1)) (fun x=>(x.2.1,x.2.2.2.2.1)) (fun i v=>(i.1,v.1,i.2.1,i.2.2,v.2,())) (fun _=>rfl) (ze hb N (t1_7 N) L_7 z11u TabOk.nil [0,0,1,0,1,1] _ rfl) (fun i v r K=>by kernel_rfl)
def z83 (N:Nat) (l:(List Int)) : Option (List Int) :=
 zou N ([(0 : Int),(0 : Int),(0 : Int),(0 : Int),(0 : Int),(0 : Int),(0 : Int),(0 : Int)] : List Int) ([(0 : Int),(0 : Int),(0 : Int),(0 : Int),(0 : Int),(0 : Int),(0 : Int),(0 : Int)] : List Int) l (((List.length l) : Nat) : Int) (0 : Int)
 (fun s=>some s)
def t_7 (N:Nat) : Tab (List Int) := [([0,1,0,1,1],h1_7 N)]
theorem z1hn (N:Nat) (x:z13 zl3) : z4l (E_7 N) N (t_7 N) L_7 Tryd.f46 (mkS zl3 0 x) (z2v (.v (.arr 8 (.int .u64))) 1) = z83 N x.1 := by kernel_rfl
def zg8 (N:Nat) : List A -> Res := zz zl3 (fun x=>z83 N x.1) (z70 (.v (.arr 8 (.int .u64))) 1)
theorem zov (N:Nat) : Contract Tryd.prog glob 46 (zg8 N) :=
  Contract.of (E := E_7 N) (H := t_7 N) (L := L_7) (N := N) (body := z11u) (K := (z2v (.v (.arr 8 (.int .u64))) 1)) (Eok_7 N) Tryd.func46 (by kernel_rfl) (by decide) (fun _ hb=>(TabOk.cons (ok1_7 hb) TabOk.nil)) (fun x y h=>by rw [z1hn]; exact h) (z16 (s := (.v (.arr 8 (.int .u64)))) (m := 1))
def z11t : Code := (Tryd.f76.body).getD .skip
def L_8 : List (List Nat × List Nat) := [([0],[4,1,2,0]),([0,1],[4,1,2,0]),([0,0,0,0,1],[9,2,1,4,0]),([1,0,0,0,1],[2,1,4,0]),([1,1,0,0,0,1],[0]),([0,0,0,1,0,0,1],[0,1,4,5,2]),([0,1,0,0,1,0,0,1],[30,0,4,2,1]),([1,1,0,0,1,0,0,1],[4,2,1,0]),([0,1,1,0,0,1,0,0,1],[0]),([0,1,0,0,1],[4,2,1,0]),([1,1,0,0,1],[4,1,2,0]),([1],[0])]
def E_8 (N:Nat) : Env := z1d tys glob [] [] [] [0] false [] []
theorem Eok_8 (N:Nat) : EnvOk Tryd.prog (E_8 N) := zi mixed zn (FnsOk.nil) ItsOk.nil
def zg3 (N:Nat) (x1:(List (List Int))) (x2:Int) (i:Int) (rec:Int -> Option (List ((List (List Int)) × Unit))) (k0:Option (List ((List (List Int)) × Unit))) (k1:Option (List ((List (List Int)) × Unit))) : Option (List ((List (List Int)) × Unit)) :=
 cond (decide (i < (((List.length x1) : Nat) : Int)))
 (cond (decide (((0 : Int) <= i) /\ (i <= (((List.length x1) : Nat) : Int))))
 (cond (decide (((IntKind.wrap IntKind.i64 (i + (if ((((List.length (cut x1 (Int.toNat i) (List.length x1))) : Nat) : Int) < x2) then (((List.length (cut x1 (Int.toNat i) (List.length x1))) : Nat) : Int) else x2))) <= (IntKind.wrap IntKind.i64 (i + (if ((((List.length (cut x1 (Int.toNat i) (List.length x1))) : Nat) : Int) < x2) then (((List.length (cut x1 (Int.toNat i) (List.length x1))) : Nat) : Int) else x2)))) /\ ((IntKind.wrap IntKind.i64 (i + (if ((((List.length (cut x1 (Int.toNat i) (List.length x1))) : Nat) : Int) < x2) then (((List.length (cut x1 (Int.toNat i) (List.length x1))) : Nat) : Int) else x2))) <= (((List.length x1) : Nat) : Int))))
 (cond (decide (((0 : Int) <= (IntKind.wrap IntKind.i64 (i + (if ((((List.length (cut x1 (Int.toNat i) (List.length x1))) : Nat) : Int) < x2) then (((List.length (cut x1 (Int.toNat i) (List.length x1))) : Nat) : Int) else x2)))) /\ ((IntKind.wrap IntKind.i64 (i + (if ((((List.length (cut x1 (Int.toNat i) (List.length x1))) : Nat) : Int) < x2) then (((List.length (cut x1 (Int.toNat i) (List.length x1))) : Nat) : Int) else x2))) <= (((List.length x1) : Nat) : Int))))
 (cond (decide (((0 : Int) <= i) /\ (i <= (IntKind.wrap IntKind.i64 (i + (if ((((List.length (cut x1 (Int.toNat i) (List.length x1))) : Nat) : Int) < x2) then (((List.length (cut x1 (Int.toNat i) (List.length x1))) : Nat) : Int) else x2))))))
 (z13t ((cut x1 (Int.toNat i) (Int.toNat (IntKind.wrap IntKind.i64 (i + (if ((((List.length (cut x1 (Int.toNat i) (List.length x1))) : Nat) : Int) < x2) then (((List.length (cut x1 (Int.toNat i) (List.length x1))) : Nat) : Int) else x2))))),())
 (rec (IntKind.wrap IntKind.i64 (i + x2)))
 (k0))
 (none))
 (none))
 (none))
 (none))
 (k1)
def zmz (N:Nat) (x1:(List (List Int))) (x2:Int) (i:Int) (k0:Option (List ((List (List Int)) × Unit))) (k1:Option (List ((List (List Int)) × Unit))) : Option (List ((List (List Int)) × Unit)) :=
 iter (fun (v:Int) r=>zg3 N x1 x2 v (fun i=>(r i)) k0 k1) N i
def g1_8 (N:Nat) (i:((List (List Int)) × Int)) (v:Int) (r:Int -> Option (List ((List (List Int)) × Unit))) (K:Ex -> List A -> Option (List ((List (List Int)) × Unit))) : Option (List ((List (List Int)) × Unit)) :=
 zg3 N i.1 i.2 v (fun i=>(r i)) (K .ret (mkS [(0,.yld)] 30 ((),()))) (K (.exit 0) (mkS [(0,.yld)] 30 ((),())))
def h1_8 (N:Nat) : Hd (List ((List (List Int)) × Unit)) := fun st K=>(unS [(0,.yld),(0,.v (.ptr (.sl (.arr 4 (.int .u64))))),(0,.v (.ptr (.int .i64))),(1,.v (.int .i64))] 26 (restr [4,1,2,0] 0 st)).bind fun x=>iter (fun v r=>g1_8 N ((fun x=>(x.2.1,x.2.2.1)) x) v r K) N ((fun x=>x.2.2.2.1) x)
def t1_8 (N:Nat) : Tab (List ((List (List Int)) × Unit)) := []
theorem ok1_8 {N:Nat} {G:GY [(.sl (.arr 4 (.int .u64)))]} (hG:zpn G) (hev:EvOk G Tryd.prog (E_8 N) N L_8 z11t) : YOk G Tryd.prog (zh z11t [0,1]) (h1_8 N) :=
  z13d hG (s := [(0,.yld),(0,.v (.ptr (.sl (.arr 4 (.int .u64))))),(0,.v (.ptr (.int .i64))),(1,.v (.int .i64))]) (m := 26) (g1_8 N) [4,1,2,0] N (fun x=>(x.2.1,x.2.2.1)) (fun x=>x.2.2.2.1) (fun i v=>((),i.1,i.2,v,())) (fun _=>rfl) (hev (t1_8 N) TabOkY.nil [0,0,1]) (fun i v r K=>by kernel_rfl)
def zep (N:Nat) (x1:(List (List Int))) (x2:Int) : Option (List ((List (List Int)) × Unit)) :=
 zmz N x1 x2 (0 : Int)
 (some ([] : List ((List (List Int)) × Unit)))
 (some ([] : List ((List (List Int)) × Unit)))
def t_8 (N:Nat) : Tab (List ((List (List Int)) × Unit)) := [([0,1],h1_8 N)]
theorem z1hm (N:Nat) (x:T.den (.pair (.ptr (.sl (.arr 4 (.int .u64)))) (.pair (.ptr (.int .i64)) .unit))) : evYX (E_8 N) [(.sl (.arr 4 (.int .u64)))] z13t N (t_8 N) L_8 Tryd.f76 [.v (.ptr (.sl (.arr 4 (.int .u64)))) x.1,.v (.ptr (.int .i64)) x.2.1] = zep N x.1 x.2.1 := by kernel_rfl
def za (N:Nat) : Dat -> ItRes := z1a0 (ts := [(.sl (.arr 4 (.int .u64)))]) (.pair (.ptr (.sl (.arr 4 (.int .u64)))) (.pair (.ptr (.int .i64)) .unit)) (fun x=>zep N x.1 x.2.1)
theorem zb (N:Nat) : ItOk Tryd.prog glob 76 (za N) := ItOk.of (ts := [(.sl (.arr 4 (.int .u64)))]) (E := E_8 N) (H := t_8 N) (L := L_8) (N := N) (body := z11t) (Eok_8 N) rfl Tryd.func76 (by kernel_rfl) (by decide) (fun G hG hev=>(TabOkY.cons (ok1_8 hG hev) TabOkY.nil)) (fun x y h=>⟨_,rfl,by rw [z1hm]; exact h⟩)
def z1ov : Code := (Tryd.f64.body).getD .skip
def L_9 : List (List Nat × List Nat) := [([0],[3,2]),([0,0,1],[6,2,3]),([1,0,1],[2,3]),([0,1,0,1],[2,3]),([0,1,1],[4]),([1,1,1],[4])]
def E_9 (N:Nat) : Env := z1d tys glob [] [] [] [] false [] [(76,za N)]
theorem Eok_9 (N:Nat) : EnvOk Tryd.prog (E_9 N) := zi mixed zn (FnsOk.nil) (ItsOk.cons (zb N) (ItsOk.nil))
def zm6 (N:Nat) (s:(List (List Int))) (n:Int) : Option ((List (List Int)) × (Int × Unit)) :=
 cond (decide (n < (1 : Int)))
 (none)
 (some (s,(n,())))
def t_9 (N:Nat) : Tab ((List (List Int)) × (Int × Unit)) := []
theorem z1hl (N:Nat) (x:z13 z1ax) : z4l (E_9 N) N (t_9 N) L_9 Tryd.f64 (mkS z1ax 0 x) (z2v (.v (.fn 76 (.pair (.ptr (.sl (.arr 4 (.int .u64)))) (.pair (.ptr (.int .i64)) .unit)))) 2) = zm6 N x.1 x.2.1 := by kernel_rfl
def zg2 (N:Nat) : List A -> Res := zz z1ax (fun x=>zm6 N x.1 x.2.1) (z70 (.v (.fn 76 (.pair (.ptr (.sl (.arr 4 (.int .u64)))) (.pair (.ptr (.int .i64)) .unit)))) 2)
theorem zns (N:Nat) : Contract Tryd.prog glob 64 (zg2 N) :=
  Contract.of (E := E_9 N) (H := t_9 N) (L := L_9) (N := N) (body := z1ov) (K := (z2v (.v (.fn 76 (.pair (.ptr (.sl (.arr 4 (.int .u64)))) (.pair (.ptr (.int .i64)) .unit)))) 2)) (Eok_9 N) Tryd.func64 (by kernel_rfl) (by decide) (fun _ hb=>TabOk.nil) (fun x y h=>by rw [z1hl]; exact h) (z16 (s := (.v (.fn 76 (.pair (.ptr (.sl (.arr 4 (.int .u64)))) (.pair (.ptr (.int .i64)) .unit))))) (m := 2))
def z1ao : Code := (Tryd.f91.body).getD .skip
def L_10 : List (List Nat × List Nat) := [([0],[0]),([0,1],[0]),([0,1,1],[0]),([0,1,1,1],[0]),([0,1,1,1,1],[0]),([0,1,1,1,1,1],[0]),(zyu,[0]),(zzg,[2]),(ztv,[2])]
def E_10 (N:Nat) : Env := z1d tys glob [] [] [] [] false [] [(76,za N)]
theorem z1rv (N:Nat) : EnvOk Tryd.prog (E_10 N) := zi mixed zn (FnsOk.nil) (ItsOk.cons (zb N) (ItsOk.nil))
def za9 (N:Nat) (x0:Int) : Option Int :=
 some (zf Go.BinOp.and IntKind.i64 (IntKind.wrap IntKind.i64 (IntKind.wrap IntKind.u64 ((IntKind.wrap IntKind.u64 ((IntKind.wrap IntKind.u64 ((zf Go.BinOp.and IntKind.u64 (IntKind.wrap IntKind.u64 ((z24 IntKind.u64 (IntKind.wrap IntKind.u64 ((zf Go.BinOp.and IntKind.u64 (z24 IntKind.u64 (IntKind.wrap IntKind.u64 ((zf Go.BinOp.and IntKind.u64 (z24 IntKind.u64 x0 (1 : Int)) (6148914691236517205 : Int)) + (zf Go.BinOp.and IntKind.u64 x0 (6148914691236517205 : Int)))) (2 : Int)) (3689348814741910323 : Int)) + (zf Go.BinOp.and IntKind.u64 (IntKind.wrap IntKind.u64 ((zf Go.BinOp.and IntKind.u64 (z24 IntKind.u64 x0 (1 : Int)) (6148914691236517205 : Int)) + (zf Go.BinOp.and IntKind.u64 x0 (6148914691236517205 : Int)))) (3689348814741910323 : Int)))) (4 : Int)) + (IntKind.wrap IntKind.u64 ((zf Go.BinOp.and IntKind.u64 (z24 IntKind.u64 (IntKind.wrap IntKind.u64 ((zf Go.BinOp.and IntKind.u64 (z24 IntKind.u64 x0 (1 : Int)) (6148914691236517205 : Int)) + (zf Go.BinOp.and IntKind.u64 x0 (6148914691236517205 : Int)))) (2 : Int)) (3689348814741910323 : Int)) + (zf Go.BinOp.and IntKind.u64 (IntKind.wrap IntKind.u64 ((zf Go.BinOp.and IntKind.u64 (z24 IntKind.u64 x0 (1 : Int)) (6148914691236517205 : Int)) + (zf Go.BinOp.and IntKind.u64 x0 (6148914691236517205 : Int)))) (3689348814741910323 : Int)))))) (1085102592571150095 : Int)) + (z24 IntKind.u64 (zf Go.BinOp.and IntKind.u64 (IntKind.wrap IntKind.u64 ((z24 IntKind.u64 (IntKind.wrap IntKind.u64 ((zf Go.BinOp.and IntKind.u64 (z24 IntKind.u64 (IntKind.wrap IntKind.u64 ((zf Go.BinOp.and IntKind.u64 (z24 IntKind.u64 x0 (1 : Int)) (6148914691236517205 : Int)) + (zf Go.BinOp.and IntKind.u64 x0 (6148914691236517205 : Int)))) (2 : Int)) (3689348814741910323 : Int)) + (zf Go.BinOp.and IntKind.u64 (IntKind.wrap IntKind.u64 ((zf Go.BinOp.and IntKind.u64 (z24 IntKind.u64 x0 (1 : Int)) (6148914691236517205 : Int)) + (zf Go.BinOp.and IntKind.u64 x0 (6148914691236517205 : Int)))) (3689348814741910323 : Int)))) (4 : Int)) + (IntKind.wrap IntKind.u64 ((zf Go.BinOp.and IntKind.u64 (z24 IntKind.u64 (IntKind.wrap IntKind.u64 ((zf Go.BinOp.and IntKind.u64 (z24 IntKind.u64 x0 (1 : Int)) (6148914691236517205 : Int)) + (zf Go.BinOp.and IntKind.u64 x0 (6148914691236517205 : Int)))) (2 : Int)) (3689348814741910323 : Int)) + (zf Go.BinOp.and IntKind.u64 (IntKind.wrap IntKind.u64 ((zf Go.BinOp.and IntKind.u64 (z24 IntKind.u64 x0 (1 : Int)) (6148914691236517205 : Int)) + (zf Go.BinOp.and IntKind.u64 x0 (6148914691236517205 : Int)))) (3689348814741910323 : Int)))))) (1085102592571150095 : Int)) (8 : Int)))) + (z24 IntKind.u64 (IntKind.wrap IntKind.u64 ((zf Go.BinOp.and IntKind.u64 (IntKind.wrap IntKind.u64 ((z24 IntKind.u64 (IntKind.wrap IntKind.u64 ((zf Go.BinOp.and IntKind.u64 (z24 IntKind.u64 (IntKind.wrap IntKind.u64 ((zf Go.BinOp.and IntKind.u64 (z24 IntKind.u64 x0 (1 : Int)) (6148914691236517205 : Int)) + (zf Go.BinOp.and IntKind.u64 x0 (6148914691236517205 : Int)))) (2 : Int)) (3689348814741910323 : Int)) + (zf Go.BinOp.and IntKind.u64 (IntKind.wrap IntKind.u64 ((zf Go.BinOp.and IntKind.u64 (z24 IntKind.u64 x0 (1 : Int)) (6148914691236517205 : Int)) + (zf Go.BinOp.and IntKind.u64 x0 (6148914691236517205 : Int)))) (3689348814741910323 : Int)))) (4 : Int)) + (IntKind.wrap IntKind.u64 ((zf Go.BinOp.and IntKind.u64 (z24 IntKind.u64 (IntKind.wrap IntKind.u64 ((zf Go.BinOp.and IntKind.u64 (z24 IntKind.u64 x0 (1 : Int)) (6148914691236517205 : Int)) + (zf Go.BinOp.and IntKind.u64 x0 (6148914691236517205 : Int)))) (2 : Int)) (3689348814741910323 : Int)) + (zf Go.BinOp.and IntKind.u64 (IntKind.wrap IntKind.u64 ((zf Go.BinOp.and IntKind.u64 (z24 IntKind.u64 x0 (1 : Int)) (6148914691236517205 : Int)) + (zf Go.BinOp.and IntKind.u64 x0 (6148914691236517205 : Int)))) (3689348814741910323 : Int)))))) (1085102592571150095 : Int)) + (z24 IntKind.u64 (zf Go.BinOp.and IntKind.u64 (IntKind.wrap IntKind.u64 ((z24 IntKind.u64 (IntKind.wrap IntKind.u64 ((zf Go.BinOp.and IntKind.u64 (z24 IntKind.u64 (IntKind.wrap IntKind.u64 ((zf Go.BinOp.and IntKind.u64 (z24 IntKind.u64 x0 (1 : Int)) (6148914691236517205 : Int)) + (zf Go.BinOp.and IntKind.u64 x0 (6148914691236517205 : Int)))) (2 : Int)) (3689348814741910323 : Int)) + (zf Go.BinOp.and IntKind.u64 (IntKind.wrap IntKind.u64 ((zf Go.BinOp.and IntKind.u64 (z24 IntKind.u64 x0 (1 : Int)) (6148914691236517205 : Int)) + (zf Go.BinOp.and IntKind.u64 x0 (6148914691236517205 : Int)))) (3689348814741910323 : Int)))) (4 : Int)) + (IntKind.wrap IntKind.u64 ((zf Go.BinOp.and IntKind.u64 (z24 IntKind.u64 (IntKind.wrap IntKind.u64 ((zf Go.BinOp.and IntKind.u64 (z24 IntKind.u64 x0 (1 : Int)) (6148914691236517205 : Int)) + (zf Go.BinOp.and IntKind.u64 x0 (6148914691236517205 : Int)))) (2 : Int)) (3689348814741910323 : Int)) + (zf Go.BinOp.and IntKind.u64 (IntKind.wrap IntKind.u64 ((zf Go.BinOp.and IntKind.u64 (z24 IntKind.u64 x0 (1 : Int)) (6148914691236517205 : Int)) + (zf Go.BinOp.and IntKind.u64 x0 (6148914691236517205 : Int)))) (3689348814741910323 : Int)))))) (1085102592571150095 : Int)) (8 : Int)))) (16 : Int)))) + (z24 IntKind.u64 (IntKind.wrap IntKind.u64 ((IntKind.wrap IntKind.u64 ((zf Go.BinOp.and IntKind.u64 (IntKind.wrap IntKind.u64 ((z24 IntKind.u64 (IntKind.wrap IntKind.u64 ((zf Go.BinOp.and IntKind.u64 (z24 IntKind.u64 (IntKind.wrap IntKind.u64 ((zf Go.BinOp.and IntKind.u64 (z24 IntKind.u64 x0 (1 : Int)) (6148914691236517205 : Int)) + (zf Go.BinOp.and IntKind.u64 x0 (6148914691236517205 : Int)))) (2 : Int)) (3689348814741910323 : Int)) + (zf Go.BinOp.and IntKind.u64 (IntKind.wrap IntKind.u64 ((zf Go.BinOp.and IntKind.u64 (z24 IntKind.u64 x0 (1 : Int)) (6148914691236517205 : Int)) + (zf Go.BinOp.and IntKind.u64 x0 (6148914691236517205 : Int)))) (3689348814741910323 : Int)))) (4 : Int)) + (IntKind.wrap IntKind.u64 ((zf Go.BinOp.and IntKind.u64 (z24 IntKind.u64 (IntKind.wrap IntKind.u64 ((zf Go.BinOp.and IntKind.u64 (z24 IntKind.u64 x0 (1 : Int)) (6148914691236517205 : Int)) + (zf Go.BinOp.and IntKind.u64 x0 (6148914691236517205 : Int)))) (2 : Int)) (3689348814741910323 : Int)) + (zf Go.BinOp.and IntKind.u64 (IntKind.wrap IntKind.u64 ((zf Go.BinOp.and IntKind.u64 (z24 IntKind.u64 x0 (1 : Int)) (6148914691236517205 : Int)) + (zf Go.BinOp.and IntKind.u64 x0 (6148914691236517205 : Int)))) (3689348814741910323 : Int)))))) (1085102592571150095 : Int)) + (z24 IntKind.u64 (zf Go.BinOp.and IntKind.u64 (IntKind.wrap IntKind.u64 ((z24 IntKind.u64 (IntKind.wrap IntKind.u64 ((zf Go.BinOp.and IntKind.u64 (z24 IntKind.u64 (IntKind.wrap IntKind.u64 ((zf Go.BinOp.and IntKind.u64 (z24 IntKind.u64 x0 (1 : Int)) (6148914691236517205 : Int)) + (zf Go.BinOp.and IntKind.u64 x0 (6148914691236517205 : Int)))) (2 : Int)) (3689348814741910323 : Int)) + (zf Go.BinOp.and IntKind.u64 (IntKind.wrap IntKind.u64 ((zf Go.BinOp.and IntKind.u64 (z24 IntKind.u64 x0 (1 : Int)) (6148914691236517205 : Int)) + (zf Go.BinOp.and IntKind.u64 x0 (6148914691236517205 : Int)))) (3689348814741910323 : Int)))) (4 : Int)) + (IntKind.wrap IntKind.u64 ((zf Go.BinOp.and IntKind.u64 (z24 IntKind.u64 (IntKind.wrap IntKind.u64 ((zf Go.BinOp.and IntKind.u64 (z24 IntKind.u64 x0 (1 : Int)) (6148914691236517205 : Int)) + (zf Go.BinOp.and IntKind.u64 x0 (6148914691236517205 : Int)))) (2 : Int)) (3689348814741910323 : Int)) + (zf Go.BinOp.and IntKind.u64 (IntKind.wrap IntKind.u64 ((zf Go.BinOp.and IntKind.u64 (z24 IntKind.u64 x0 (1 : Int)) (6148914691236517205 : Int)) + (zf Go.BinOp.and IntKind.u64 x0 (6148914691236517205 : Int)))) (3689348814741910323 : Int)))))) (1085102592571150095 : Int)) (8 : Int)))) + (z24 IntKind.u64 (IntKind.wrap IntKind.u64 ((zf Go.BinOp.and IntKind.u64 (IntKind.wrap IntKind.u64 ((z24 IntKind.u64 (IntKind.wrap IntKind.u64 ((zf Go.BinOp.and IntKind.u64 (z24 IntKind.u64 (IntKind.wrap IntKind.u64 ((zf Go.BinOp.and IntKind.u64 (z24 IntKind.u64 x0 (1 : Int)) (6148914691236517205 : Int)) + (zf Go.BinOp.and IntKind.u64 x0 (6148914691236517205 : Int)))) (2 : Int)) (3689348814741910323 : Int)) + (zf Go.BinOp.and IntKind.u64 (IntKind.wrap IntKind.u64 ((zf Go.BinOp.and IntKind.u64 (z24 IntKind.u64 x0 (1 : Int)) (6148914691236517205 : Int)) + (zf Go.BinOp.and IntKind.u64 x0 (6148914691236517205 : Int)))) (3689348814741910323 : Int)))) (4 : Int)) + (IntKind.wrap IntKind.u64 ((zf Go.BinOp.and IntKind.u64 (z24 IntKind.u64 (IntKind.wrap IntKind.u64 ((zf Go.BinOp.and IntKind.u64 (z24 IntKind.u64 x0 (1 : Int)) (6148914691236517205 : Int)) + (zf Go.BinOp.and IntKind.u64 x0 (6148914691236517205 : Int)))) (2 : Int)) (3689348814741910323 : Int)) + (zf Go.BinOp.and IntKind.u64 (IntKind.wrap IntKind.u64 ((zf Go.BinOp.and IntKind.u64 (z24 IntKind.u64 x0 (1 : Int)) (6148914691236517205 : Int)) + (zf Go.BinOp.and IntKind.u64 x0 (6148914691236517205 : Int)))) (3689348814741910323 : Int)))))) (1085102592571150095 : Int)) + (z24 IntKind.u64 (zf Go.BinOp.and IntKind.u64 (IntKind.wrap IntKind.u64 ((z24 IntKind.u64 (IntKind.wrap IntKind.u64 ((zf Go.BinOp.and IntKind.u64 (z24 IntKind.u64 (IntKind.wrap IntKind.u64 ((zf Go.BinOp.and IntKind.u64 (z24 IntKind.u64 x0 (1 : Int)) (6148914691236517205 : Int)) + (zf Go.BinOp.and IntKind.u64 x0 (6148914691236517205 : Int)))) (2 : Int)) (3689348814741910323 : Int)) + (zf Go.BinOp.and IntKind.u64 (IntKind.wrap IntKind.u64 ((zf Go.BinOp.and IntKind.u64 (z24 IntKind.u64 x0 (1 : Int)) (6148914691236517205 : Int)) + (zf Go.BinOp.and IntKind.u64 x0 (6148914691236517205 : Int)))) (3689348814741910323 : Int)))) (4 : Int)) + (IntKind.wrap IntKind.u64 ((zf Go.BinOp.and IntKind.u64 (z24 IntKind.u64 (IntKind.wrap IntKind.u64 ((zf Go.BinOp.and IntKind.u64 (z24 IntKind.u64 x0 (1 : Int)) (6148914691236517205 : Int)) + (zf Go.BinOp.and IntKind.u64 x0 (6148914691236517205 : Int)))) (2 : Int)) (3689348814741910323 : Int)) + (zf Go.BinOp.and IntKind.u64 (IntKind.wrap IntKind.u64 ((zf Go.BinOp.and IntKind.u64 (z24 IntKind.u64 x0 (1 : Int)) (6148914691236517205 : Int)) + (zf Go.BinOp.and IntKind.u64 x0 (6148914691236517205 : Int)))) (3689348814741910323 : Int)))))) (1085102592571150095 : Int)) (8 : Int)))) (16 : Int)))) (32 : Int))))) (127 : Int))
def t_10 (N:Nat) : Tab Int := []
theorem z19x (N:Nat) (x:z13 [(0,.v (.int .u64))]) : z4l (E_10 N) N (t_10 N) L_10 Tryd.f91 (mkS [(0,.v (.int .u64))] 0 x) (z2v (.v (.int .i64)) 1) = za9 N x.1 := by kernel_rfl
def z7c (N:Nat) : List A -> Res := zz [(0,.v (.int .u64))] (fun x=>za9 N x.1) (z70 (.v (.int .i64)) 1)
theorem ze0 (N:Nat) : Contract Tryd.prog glob 91 (z7c N) :=
  Contract.of (E := E_10 N) (H := t_10 N) (L := L_10) (N := N) (body := z1ao) (K := (z2v (.v (.int .i64)) 1)) (z1rv N) Tryd.func91 (by kernel_rfl) (by decide) (fun _ hb=>TabOk.nil) (fun x y h=>by rw [z19x]; exact h) (z16 (s := (.v (.int .i64))) (m := 1))
def zvu : Code := (Tryd.f82.body).getD .skip
def L_11 : List (List Nat × List Nat) := [([0],[1]),([0,1],[1,3]),([0,0,1,1],[7,6,3]),([0,1,0,1,1],[7,6,3]),(zxn,[8,6,7,3]),(zts,[6,7,3]),(z123,[3]),(z124,[3,5,7,6]),(zz5,[7,6,3]),(z122,[7,6,3]),(z121,[7,6,3]),([1,0,1,1],[3]),([0,1,1,1],[2]),([1,1,1,1],[2])]
def E_11 (N:Nat) : Env := z1d tys glob [(91,z7c N)] [] [] [] false [] [(76,za N)]
theorem z1ru (N:Nat) : EnvOk Tryd.prog (E_11 N) := zi mixed zn (FnsOk.cons (ze0 N) (FnsOk.nil)) (ItsOk.cons (zb N) (ItsOk.nil))
def zge (N:Nat) (x6:(List Int)) (n:Int) (x7:Int) (rec:Int -> Int -> Option Int) (k0:Int -> Option Int) : Option Int :=
 cond (decide (x7 < (4 : Int)))
 (cond (inR x7 4)
 (rec (IntKind.wrap IntKind.i64 (n + (zf Go.BinOp.and IntKind.i64 (IntKind.wrap IntKind.i64 (IntKind.wrap IntKind.u64 ((IntKind.wrap IntKind.u64 ((IntKind.wrap IntKind.u64 ((zf Go.BinOp.and IntKind.u64 (IntKind.wrap IntKind.u64 ((z24 IntKind.u64 (IntKind.wrap IntKind.u64 ((zf Go.BinOp.and IntKind.u64 (z24 IntKind.u64 (IntKind.wrap IntKind.u64 ((zf Go.BinOp.and IntKind.u64 (z24 IntKind.u64 (List.getD x6 (Int.toNat x7) (0 : Int)) (1 : Int)) (6148914691236517205 : Int)) + (zf Go.BinOp.and IntKind.u64 (List.getD x6 (Int.toNat x7) (0 : Int)) (6148914691236517205 : Int)))) (2 : Int)) (3689348814741910323 : Int)) + (zf Go.BinOp.and IntKind.u64 (IntKind.wrap IntKind.u64 ((zf Go.BinOp.and IntKind.u64 (z24 IntKind.u64 (List.getD x6 (Int.toNat x7) (0 : Int)) (1 : Int)) (6148914691236517205 : Int)) + (zf Go.BinOp.and IntKind.u64 (List.getD x6 (Int.toNat x7) (0 : Int)) (6148914691236517205 : Int)))) (3689348814741910323 : Int)))) (4 : Int)) + (IntKind.wrap IntKind.u64 ((zf Go.BinOp.and IntKind.u64 (z24 IntKind.u64 (IntKind.wrap IntKind.u64 ((zf Go.BinOp.and IntKind.u64 (z24 IntKind.u64 (List.getD x6 (Int.toNat x7) (0 : Int)) (1 : Int)) (6148914691236517205 : Int)) + (zf Go.BinOp.and IntKind.u64 (List.getD x6 (Int.toNat x7) (0 : Int)) (6148914691236517205 : Int)))) (2 : Int)) (3689348814741910323 : Int)) + (zf Go.BinOp.and IntKind.u64 (IntKind.wrap IntKind.u64 ((zf Go.BinOp.and IntKind.u64 (z24 IntKind.u64 (List.getD x6 (Int.toNat x7) (0 : Int)) (1 : Int)) (6148914691236517205 : Int)) + (zf Go.BinOp.and IntKind.u64 (List.getD x6 (Int.toNat x7) (0 : Int)) (6148914691236517205 : Int)))) (3689348814741910323 : Int)))))) (1085102592571150095 : Int)) + (z24 IntKind.u64 (zf Go.BinOp.and IntKind.u64 (IntKind.wrap IntKind.u64 ((z24 IntKind.u64 (IntKind.wrap IntKind.u64 ((zf Go.BinOp.and IntKind.u64 (z24 IntKind.u64 (IntKind.wrap IntKind.u64 ((zf Go.BinOp.and IntKind.u64 (z24 IntKind.u64 (List.getD x6 (Int.toNat x7) (0 : Int)) (1 : Int)) (6148914691236517205 : Int)) + (zf Go.BinOp.and IntKind.u64 (List.getD x6 (Int.toNat x7) (0 : Int)) (6148914691236517205 : Int)))) (2 : Int)) (3689348814741910323 : Int)) + (zf Go.BinOp.and IntKind.u64 (IntKind.wrap IntKind.u64 ((zf Go.BinOp.and IntKind.u64 (z24 IntKind.u64 (List.getD x6 (Int.toNat x7) (0 : Int)) (1 : Int)) (6148914691236517205 : Int)) + (zf Go.BinOp.and IntKind.u64 (List.getD x6 (Int.toNat x7) (0 : Int)) (6148914691236517205 : Int)))) (3689348814741910323 : Int)))) (4 : Int)) + (IntKind.wrap IntKind.u64 ((zf Go.BinOp.and IntKind.u64 (z24 IntKind.u64 (IntKind.wrap IntKind.u64 ((zf Go.BinOp.and IntKind.u64 (z24 IntKind.u64 (List.getD x6 (Int.toNat x7) (0 : Int)) (1 : Int)) (6148914691236517205 : Int)) + (zf Go.BinOp.and IntKind.u64 (List.getD x6 (Int.toNat x7) (0 : Int)) (6148914691236517205 : Int)))) (2 : Int)) (3689348814741910323 : Int)) + (zf Go.BinOp.and IntKind.u64 (IntKind.wrap IntKind.u64 ((zf Go.BinOp.and IntKind.u64 (z24 IntKind.u64 (List.getD x6 (Int.toNat x7) (0 : Int)) (1 : Int)) (6148914691236517205 : Int)) + (zf Go.BinOp.and IntKind.u64 (List.getD x6 (Int.toNat x7) (0 : Int)) (6148914691236517205 : Int)))) (3689348814741910323 : Int)))))) (1085102592571150095 : Int)) (8 : Int)))) + (z24 IntKind.u64 (IntKind.wrap IntKind.u64 ((zf Go.BinOp.and IntKind.u64 (IntKind.wrap IntKind.u64 ((z24 IntKind.u64 (IntKind.wrap IntKind.u64 ((zf Go.BinOp.and IntKind.u64 (z24 IntKind.u64 (IntKind.wrap IntKind.u64 ((zf Go.BinOp.and IntKind.u64 (z24 IntKind.u64 (List.getD x6 (Int.toNat x7) (0 : Int)) (1 : Int)) (6148914691236517205 : Int)) + (zf Go.BinOp.and IntKind.u64 (List.getD x6 (Int.toNat x7) (0 : Int)) (6148914691236517205 : Int)))) (2 : Int)) (3689348814741910323 : Int)) + (zf Go.BinOp.and IntKind.u64 (IntKind.wrap IntKind.u64 ((zf Go.BinOp.and IntKind.u64 (z24 IntKind.u64 (List.getD x6 (Int.toNat x7) (0 : Int)) (1 : Int)) (6148914691236517205 : Int)) + (zf Go.BinOp.and IntKind.u64 (List.getD x6 (Int.toNat x7) (0 : Int)) (6148914691236517205 : Int)))) (3689348814741910323 : Int)))) (4 : Int)) + (IntKind.wrap IntKind.u64 ((zf Go.BinOp.and IntKind.u64 (z24 IntKind.u64 (IntKind.wrap IntKind.u64 ((zf Go.BinOp.and IntKind.u64 (z24 IntKind.u64 (List.getD x6 (Int.toNat x7) (0 : Int)) (1 : Int)) (6148914691236517205 : Int)) + (zf Go.BinOp.and IntKind.u64 (List.getD x6 (Int.toNat x7) (0 : Int)) (6148914691236517205 : Int)))) (2 : Int)) (3689348814741910323 : Int)) + (zf Go.BinOp.and IntKind.u64 (IntKind.wrap IntKind.u64 ((zf Go.BinOp.and IntKind.u64 (z24 IntKind.u64 (List.getD x6 (Int.toNat x7) (0 : Int)) (1 : Int)) (6148914691236517205 : Int)) + (zf Go.BinOp.and IntKind.u64 (List.getD x6 (Int.toNat x7) (0 : Int)) (6148914691236517205 : Int)))) (3689348814741910323 : Int)))))) (1085102592571150095 : Int)) + (z24 IntKind.u64 (zf Go.BinOp.and IntKind.u64 (IntKind.wrap IntKind.u64 ((z24 IntKind.u64 (IntKind.wrap IntKind.u64 ((zf Go.BinOp.and IntKind.u64 (z24 IntKind.u64 (IntKind.wrap IntKind.u64 ((zf Go.BinOp.and IntKind.u64 (z24 IntKind.u64 (List.getD x6 (Int.toNat x7) (0 : Int)) (1 : Int)) (6148914691236517205 : Int)) + (zf Go.BinOp.and IntKind.u64 (List.getD x6 (Int.toNat x7) (0 : Int)) (6148914691236517205 : Int)))) (2 : Int)) (3689348814741910323 : Int)) + (zf Go.BinOp.and IntKind.u64 (IntKind.wrap IntKind.u64 ((zf Go.BinOp.and IntKind.u64 (z24 IntKind.u64 (List.getD x6 (Int.toNat x7) (0 : Int)) (1 : Int)) (6148914691236517205 : Int)) + (zf Go.BinOp.and IntKind.u64 (List.getD x6 (Int.toNat x7) (0 : Int)) (6148914691236517205 : Int)))) (3689348814741910323 : Int)))) (4 : Int)) + (IntKind.wrap IntKind.u64 ((zf Go.BinOp.and IntKind.u64 (z24 IntKind.u64 (IntKind.wrap IntKind.u64 ((zf Go.BinOp.and IntKind.u64 (z24 IntKind.u64 (List.getD x6 (Int.toNat x7) (0 : Int)) (1 : Int)) (6148914691236517205 : Int)) + (zf Go.BinOp.and IntKind.u64 (List.getD x6 (Int.toNat x7) (0 : Int)) (6148914691236517205 : Int)))) (2 : Int)) (3689348814741910323 : Int)) + (zf Go.BinOp.and IntKind.u64 (IntKind.wrap IntKind.u64 ((zf Go.BinOp.and IntKind.u64 (z24 IntKind.u64 (List.getD x6 (Int.toNat x7) (0 : Int)) (1 : Int)) (6148914691236517205 : Int)) + (zf Go.BinOp.and IntKind.u64 (List.getD x6 (Int.toNat x7) (0 : Int)) (6148914691236517205 : Int)))) (3689348814741910323 : Int)))))) (1085102592571150095 : Int)) (8 : Int)))) (16 : Int)))) + (z24 IntKind.u64 (IntKind.wrap IntKind.u64 ((IntKind.wrap IntKind.u64 ((zf Go.BinOp.and IntKind.u64 (IntKind.wrap IntKind.u64 ((z24 IntKind.u64 (IntKind.wrap IntKind.u64 ((zf Go.BinOp.and IntKind.u64 (z24 IntKind.u64 (IntKind.wrap IntKind.u64 ((zf Go.BinOp.and IntKind.u64 (z24 IntKind.u64 (List.getD x6 (Int.toNat x7) (0 : Int)) (1 : Int)) (6148914691236517205 : Int)) + (zf Go.BinOp.and IntKind.u64 (List.getD x6 (Int.toNat x7) (0 : Int)) (6148914691236517205 : Int)))) (2 : Int)) (3689348814741910323 : Int)) + (zf Go.BinOp.and IntKind.u64 (IntKind.wrap IntKind.u64 ((zf Go.BinOp.and IntKind.u64 (z24 IntKind.u64 (List.getD x6 (Int.toNat x7) (0 : Int)) (1 : Int)) (6148914691236517205 : Int)) + (zf Go.BinOp.and IntKind.u64 (List.getD x6 (Int.toNat x7) (0 : Int)) (6148914691236517205 : Int)))) (3689348814741910323 : Int)))) (4 : Int)) + (IntKind.wrap IntKind.u64 ((zf Go.BinOp.and IntKind.u64 (z24 IntKind.u64 (IntKind.wrap IntKind.u64 ((zf Go.BinOp.and IntKind.u64 (z24 IntKind.u64 (List.getD x6 (Int.toNat x7) (0 : Int)) (1 : Int)) (6148914691236517205 : Int)) + (zf Go.BinOp.and IntKind.u64 (List.getD x6 (Int.toNat x7) (0 : Int)) (6148914691236517205 : Int)))) (2 : Int)) (3689348814741910323 : Int)) + (zf Go.BinOp.and IntKind.u64 (IntKind.wrap IntKind.u64 ((zf Go.BinOp.and IntKind.u64 (z24 IntKind.u64 (List.getD x6 (Int.toNat x7) (0 : Int)) (1 : Int)) (6148914691236517205 : Int)) + (zf Go.BinOp.and IntKind.u64 (List.getD x6 (Int.toNat x7) (0 : Int)) (6148914691236517205 : Int)))) (3689348814741910323 : Int)))))) (1085102592571150095 : Int)) + (z24 IntKind.u64 (zf Go.BinOp.and IntKind.u64 (IntKind.wrap IntKind.u64 ((z24 IntKind.u64 (IntKind.wrap IntKind.u64 ((zf Go.BinOp.and IntKind.u64 (z24 IntKind.u64 (IntKind.wrap IntKind.u64 ((zf Go.BinOp.and IntKind.u64 (z24 IntKind.u64 (List.getD x6 (Int.toNat x7) (0 : Int)) (1 : Int)) (6148914691236517205 : Int)) + (zf Go.BinOp.and IntKind.u64 (List.getD x6 (Int.toNat x7) (0 : Int)) (6148914691236517205 : Int)))) (2 : Int)) (3689348814741910323 : Int)) + (zf Go.BinOp.and IntKind.u64 (IntKind.wrap IntKind.u64 ((zf Go.BinOp.and IntKind.u64 (z24 IntKind.u64 (List.getD x6 (Int.toNat x7) (0 : Int)) (1 : Int)) (6148914691236517205 : Int)) + (zf Go.BinOp.and IntKind.u64 (List.getD x6 (Int.toNat x7) (0 : Int)) (6148914691236517205 : Int)))) (3689348814741910323 : Int)))) (4 : Int)) + (IntKind.wrap IntKind.u64 ((zf Go.BinOp.and IntKind.u64 (z24 IntKind.u64 (IntKind.wrap IntKind.u64 ((zf Go.BinOp.and IntKind.u64 (z24 IntKind.u64 (List.getD x6 (Int.toNat x7) (0 : Int)) (1 : Int)) (6148914691236517205 : Int)) + (zf Go.BinOp.and IntKind.u64 (List.getD x6 (Int.toNat x7) (0 : Int)) (6148914691236517205 : Int)))) (2 : Int)) (3689348814741910323 : Int)) + (zf Go.BinOp.and IntKind.u64 (IntKind.wrap IntKind.u64 ((zf Go.BinOp.and IntKind.u64 (z24 IntKind.u64 (List.getD x6 (Int.toNat x7) (0 : Int)) (1 : Int)) (6148914691236517205 : Int)) + (zf Go.BinOp.and IntKind.u64 (List.getD x6 (Int.toNat x7) (0 : Int)) (6148914691236517205 : Int)))) (3689348814741910323 : Int)))))) (1085102592571150095 : Int)) (8 : Int)))) + (z24 IntKind.u64 (IntKind.wrap IntKind.u64 ((zf Go.BinOp.and IntKind.u64 (IntKind.wrap IntKind.u64 ((z24 IntKind.u64 (IntKind.wrap IntKind.u64 ((zf Go.BinOp.and IntKind.u64 (z24 IntKind.u64 (IntKind.wrap IntKind.u64 ((zf Go.BinOp.and IntKind.u64 (z24 IntKind.u64 (List.getD x6 (Int.toNat x7) (0 : Int)) (1 : Int)) (6148914691236517205 : Int)) + (zf Go.BinOp.and IntKind.u64 (List.getD x6 (Int.toNat x7) (0 : Int)) (6148914691236517205 : Int)))) (2 : Int)) (3689348814741910323 : Int)) + (zf Go.BinOp.and IntKind.u64 (IntKind.wrap IntKind.u64 ((zf Go.BinOp.and IntKind.u64 (z24 IntKind.u64 (List.getD x6 (Int.toNat x7) (0 : Int)) (1 : Int)) (6148914691236517205 : Int)) + (zf Go.BinOp.and IntKind.u64 (List.getD x6 (Int.toNat x7) (0 : Int)) (6148914691236517205 : Int)))) (3689348814741910323 : Int)))) (4 : Int)) + (IntKind.wrap IntKind.u64 ((zf Go.BinOp.and IntKind.u64 (z24 IntKind.u64 (IntKind.wrap IntKind.u64 ((zf Go.BinOp.and IntKind.u64 (z24 IntKind.u64 (List.getD x6 (Int.toNat x7) (0 : Int)) (1 : Int)) (6148914691236517205 : Int)) + (zf Go.BinOp.and IntKind.u64 (List.getD x6 (Int.toNat x7) (0 : Int)) (6148914691236517205 : Int)))) (2 : Int)) (3689348814741910323 : Int)) + (zf Go.BinOp.and IntKind.u64 (IntKind.wrap IntKind.u64 ((zf Go.BinOp.and IntKind.u64 (z24 IntKind.u64 (List.getD x6 (Int.toNat x7) (0 : Int)) (1 : Int)) (6148914691236517205 : Int)) + (zf Go.BinOp.and IntKind.u64 (List.getD x6 (Int.toNat x7) (0 : Int)) (6148914691236517205 : Int)))) (3689348814741910323 : Int)))))) (1085102592571150095 : Int)) + (z24 IntKind.u64 (zf Go.BinOp.and IntKind.u64 (IntKind.wrap IntKind.u64 ((z24 IntKind.u64 (IntKind.wrap IntKind.u64 ((zf Go.BinOp.and IntKind.u64 (z24 IntKind.u64 (IntKind.wrap IntKind.u64 ((zf Go.BinOp.and IntKind.u64 (z24 IntKind.u64 (List.getD x6 (Int.toNat x7) (0 : Int)) (1 : Int)) (6148914691236517205 : Int)) + (zf Go.BinOp.and IntKind.u64 (List.getD x6 (Int.toNat x7) (0 : Int)) (6148914691236517205 : Int)))) (2 : Int)) (3689348814741910323 : Int)) + (zf Go.BinOp.and IntKind.u64 (IntKind.wrap IntKind.u64 ((zf Go.BinOp.and IntKind.u64 (z24 IntKind.u64 (List.getD x6 (Int.toNat x7) (0 : Int)) (1 : Int)) (6148914691236517205 : Int)) + (zf Go.BinOp.and IntKind.u64 (List.getD x6 (Int.toNat x7) (0 : Int)) (6148914691236517205 : Int)))) (3689348814741910323 : Int)))) (4 : Int)) + (IntKind.wrap IntKind.u64 ((zf Go.BinOp.and IntKind.u64 (z24 IntKind.u64 (IntKind.wrap IntKind.u64 ((zf Go.BinOp.and IntKind.u64 (z24 IntKind.u64 (List.getD x6 (Int.toNat x7) (0 : Int)) (1 : Int)) (6148914691236517205 : Int)) + (zf Go.BinOp.and IntKind.u64 (List.getD x6 (Int.toNat x7) (0 : Int)) (6148914691236517205 : Int)))) (2 : Int)) (3689348814741910323 : Int)) + (zf Go.BinOp.and IntKind.u64 (IntKind.wrap IntKind.u64 ((zf Go.BinOp.and IntKind.u64 (z24 IntKind.u64 (List.getD x6 (Int.toNat x7) (0 : Int)) (1 : Int)) (6148914691236517205 : Int)) + (zf Go.BinOp.and IntKind.u64 (List.getD x6 (Int.toNat x7) (0 : Int)) (6148914691236517205 : Int)))) (3689348814741910323 : Int)))))) (1085102592571150095 : Int)) (8 : Int)))) (16 : Int)))) (32 : Int))))) (127 : Int)))) (IntKind.wrap IntKind.i64 (x7 + (1 : Int))))
 (none))
 (k0 n)
def zn6 (N:Nat) (n:Int) (x6:(List Int)) (x7:Int) (k0:Int -> Option Int) : Option Int :=
 iter (fun (v:(Int × Int)) r=>zge N x6 v.1 v.2 (fun n x7=>(r (n,x7))) k0) N (n,x7)
def z1oq (N:Nat) (i:(List Int)) (v:(Int × Int)) (r:(Int × Int) -> Option Int) (K:Ex -> List A -> Option Int) : Option Int :=
 zge N i v.1 v.2 (fun n x7=>(r (n,x7))) (fun a0=>(K (.exit 0) (mkS [(3,.v (.int .i64))] 12 (a0,()))))
def z1lb (N:Nat) : Hd Int := fun st K=>(unS [(3,.v (.int .i64)),(2,.v (.arr 4 (.int .u64))),(0,.v (.int .i64))] 8 (restr [7,6,3] 0 st)).bind fun x=>iter (fun v r=>z1oq N ((fun x=>x.2.1) x) v r K) N ((fun x=>(x.1,x.2.2.1)) x)
def t1_11 (N:Nat) : Tab Int := []
theorem z1hf {N:Nat} {c:Ctx} (hb:Base Tryd.prog (E_11 N) c) : zj Tryd.prog c (zh zvu [0,1,0,1,1]) (z1lb N) :=
  z18 (s := [(3,.v (.int .i64)),(2,.v (.arr 4 (.int .u64))),(0,.v (.int .i64))]) (m := 8) (z1oq N) [7,6,3] N (fun x=>x.2.1) (fun x=>(x.1,x.2.2.1)) (fun i v=>(v.1,i,v.2,())) (fun _=>rfl) (ze hb N (t1_11 N) L_11 zvu TabOk.nil [0,0,1,0,1,1] _ rfl) (fun i v r K=>by kernel_rfl)
def zfl (N:Nat) (s:(List Int)) : Option Int :=
 zn6 N (0 : Int) s (0 : Int)
 (fun n=>some n)
def t_11 (N:Nat) : Tab Int := [([0,1,0,1,1],z1lb N)]
theorem z19w (N:Nat) (x:z13 zw2) : z4l (E_11 N) N (t_11 N) L_11 Tryd.f82 (mkS zw2 0 x) (z2v (.v (.int .i64)) 1) = zfl N x.1 := by kernel_rfl
def zee (N:Nat) : List A -> Res := zz zw2 (fun x=>zfl N x.1) (z70 (.v (.int .i64)) 1)
theorem zn7 (N:Nat) : Contract Tryd.prog glob 82 (zee N) :=
  Contract.of (E := E_11 N) (H := t_11 N) (L := L_11) (N := N) (body := zvu) (K := (z2v (.v (.int .i64)) 1)) (z1ru N) Tryd.func82 (by kernel_rfl) (by decide) (fun _ hb=>(TabOk.cons (z1hf hb) TabOk.nil)) (fun x y h=>by rw [z19w]; exact h) (z16 (s := (.v (.int .i64))) (m := 1))
def z1an : Code := (Tryd.f47.body).getD .skip
def L_12 : List (List Nat × List Nat) := [([0],[1,2]),([0,1],[4]),([1,1],[4])]
def E_12 (N:Nat) : Env := z1d tys glob [] [] [] [] false [] [(76,za N)]
theorem z1rt (N:Nat) : EnvOk Tryd.prog (E_12 N) := zi mixed zn (FnsOk.nil) (ItsOk.cons (zb N) (ItsOk.nil))
def zfk (N:Nat) (s:(List Int)) (b:Int) : Option Bool :=
 cond (inR (IntKind.wrap IntKind.u8 (Int.tdiv b (64 : Int))) 4)
 (cond (decide ((Int.toNat (IntKind.wrap IntKind.u8 (Int.tdiv b (64 : Int)))) < (List.length s)))
 (cond (decide ((0 : Int) <= (Int.tmod b (64 : Int))))
 (some ((zf Go.BinOp.and IntKind.u64 (z24 IntKind.u64 (List.getD s (Int.toNat (IntKind.wrap IntKind.u8 (Int.tdiv b (64 : Int)))) (0 : Int)) (Int.tmod b (64 : Int))) (1 : Int)) == (1 : Int)))
 (none))
 (none))
 (none)
def t_12 (N:Nat) : Tab Bool := []
theorem z19v (N:Nat) (x:z13 z1c8) : z4l (E_12 N) N (t_12 N) L_12 Tryd.f47 (mkS z1c8 0 x) (z2v (.v .bool) 2) = zfk N x.1 x.2.1 := by kernel_rfl
def zck (N:Nat) : List A -> Res := zz z1c8 (fun x=>zfk N x.1 x.2.1) (z70 (.v .bool) 2)
theorem zj9 (N:Nat) : Contract Tryd.prog glob 47 (zck N) :=
  Contract.of (E := E_12 N) (H := t_12 N) (L := L_12) (N := N) (body := z1an) (K := (z2v (.v .bool) 2)) (z1rt N) Tryd.func47 (by kernel_rfl) (by decide) (fun _ hb=>TabOk.nil) (fun x y h=>by rw [z19v]; exact h) (z16 (s := (.v .bool)) (m := 2))
def zvt : Code := (Tryd.f77.body).getD .skip
def L_13 : List (List Nat × List Nat) := [([0],[1]),([0,1],[1,3]),([0,0,1,1],[8,1,3]),([0,1,0,1,1],[8,1,3]),(zxn,[9,8,1,3]),(zts,[8,1,3]),(z123,[3]),(z124,[1,4,3,8]),(z12j,[14,3,4,8,1]),(z14c,[8,1,3]),([0,1,1,0,0,1,1,0,0,1,0,1,1],[8,1,3]),(z122,[8,1,3]),(z121,[8,1,3]),([1,0,1,1],[3]),([0,1,1,1],[2]),([1,1,1,1],[2])]
def E_13 (N:Nat) : Env := z1d tys glob [(47,zck N),(82,zee N)] [(3,(.int .u8))] [] [] false [] [(76,za N)]
theorem z1rs (N:Nat) : EnvOk Tryd.prog (E_13 N) := zi mixed zn (FnsOk.cons (zj9 N) (FnsOk.cons (zn7 N) (FnsOk.nil))) (ItsOk.cons (zb N) (ItsOk.nil))
def zhm (N:Nat) (s:(List Int)) (out:(List Int)) (x8:Int) (rec:(List Int) -> Int -> Option (List UInt8)) (k0:(List Int) -> Option (List UInt8)) : Option (List UInt8) :=
 cond (decide (x8 < (256 : Int)))
 ((zfk N s (IntKind.wrap IntKind.u8 x8)).bind fun y =>
 cond y
 (cond (decide ((((List.length out) + 1) * 1) <= 70368744177664))
 (rec (out ++ ([(IntKind.wrap IntKind.u8 x8)] : List Int)) (IntKind.wrap IntKind.i64 (x8 + (1 : Int))))
 (none))
 (rec out (IntKind.wrap IntKind.i64 (x8 + (1 : Int)))))
 (k0 out)
def zp0 (N:Nat) (s:(List Int)) (out:(List Int)) (x8:Int) (k0:(List Int) -> Option (List UInt8)) : Option (List UInt8) :=
 iter (fun (v:((List Int) × Int)) r=>zhm N s v.1 v.2 (fun out x8=>(r (out,x8))) k0) N (out,x8)
def z1op (N:Nat) (i:(List Int)) (v:((List Int) × Int)) (r:((List Int) × Int) -> Option (List UInt8)) (K:Ex -> List A -> Option (List UInt8)) : Option (List UInt8) :=
 zhm N i v.1 v.2 (fun out x8=>(r (out,x8))) (fun a0=>(K (.exit 0) (mkS [(3,.row (.int .u8))] 19 (a0,()))))
def z1la (N:Nat) : Hd (List UInt8) := fun st K=>(unS [(1,.box (.arr 4 (.int .u64))),(1,.row (.int .u8)),(4,.v (.int .i64))] 14 (restr [8,1,3] 0 st)).bind fun x=>iter (fun v r=>z1op N ((fun x=>x.1) x) v r K) N ((fun x=>(x.2.1,x.2.2.1)) x)
def t1_13 (N:Nat) : Tab (List UInt8) := []
theorem z1he {N:Nat} {c:Ctx} (hb:Base Tryd.prog (E_13 N) c) : zj Tryd.prog c (zh zvt [0,1,0,1,1]) (z1la N) :=
  z18 (s := [(1,.box (.arr 4 (.int .u64))),(1,.row (.int .u8)),(4,.v (.int .i64))]) (m := 14) (z1op N) [8,1,3] N (fun x=>x.1) (fun x=>(x.2.1,x.2.2.1)) (fun i v=>(i,v.1,v.2,())) (fun _=>rfl) (ze hb N (t1_13 N) L_13 zvt TabOk.nil [0,0,1,0,1,1] _ rfl) (fun i v r K=>by kernel_rfl)
def zhn (N:Nat) (s:(List Int)) : Option (List UInt8) :=
 (zfl N s).bind fun y =>
 cond (decide (((0 : Int) <= (0 : Int)) /\ (((0 : Int) <= y) /\ (((y * (1 : Int)) <= (281474976710656 : Int)) /\ (y <= (9223372036854775807 : Int))))))
 (zp0 N s ([] : List Int) (0 : Int)
 (fun out=>some (zu0 out)))
 (none)
def t_13 (N:Nat) : Tab (List UInt8) := [([0,1,0,1,1],z1la N)]
theorem z19u (N:Nat) (x:z13 zw2) : z4l (E_13 N) N (t_13 N) L_13 Tryd.f77 (mkS zw2 0 x) (z2v (.v .str) 1) = zhn N x.1 := by kernel_rfl
def zgb (N:Nat) : List A -> Res := zz zw2 (fun x=>zhn N x.1) (z70 (.v .str) 1)
theorem zp1 (N:Nat) : Contract Tryd.prog glob 77 (zgb N) :=
  Contract.of (E := E_13 N) (H := t_13 N) (L := L_13) (N := N) (body := zvt) (K := (z2v (.v .str) 1)) (z1rs N) Tryd.func77 (by kernel_rfl) (by decide) (fun _ hb=>(TabOk.cons (z1he hb) TabOk.nil)) (fun x y h=>by rw [z19u]; exact h) (z16 (s := (.v .str)) (m := 1))
def zpd : Code := (Tryd.f78.body).getD .skip
def L_14 : List (List Nat × List Nat) := [([0],[0]),([0,1],[0,3]),([0,1,1],[0,3,4]),([0,0,1,1,1],[15,14,13,3,4]),([0,1,0,1,1,1],[15,14,13,3,4]),(zwb,[16,15,13,3,4,14]),(zzh,[15,13,3,4,14]),(zwe,[4]),(zz7,[3,6,4,5,15,14,13]),(z1ci,[8,3,6,4,5,15,14,13,7]),(z1ba,[27,3,6,4,5,15,14,13,7]),([1,0,1,1,0,0,1,1,0,0,1,0,1,1,1],[4,5,7,15,14,13,3]),([0,0,1,0,1,1,0,0,1,1,0,0,1,0,1,1,1],[3,6,7,4,5,15,14,13]),([1,0,1,0,1,1,0,0,1,1,0,0,1,0,1,1,1],[4,5,7,15,14,13,3]),([1,1,1,0,0,1,1,0,0,1,0,1,1,1],[15,14,13,3,4]),(zz3,[15,14,13,3,4]),(zz2,[15,14,13,3,4]),([1,0,1,1,1],[4]),([0,1,1,1,1],[2]),([1,1,1,1,1],[2])]
def z1s8 (N:Nat) : Env := z1d tys glob [] [(4,(.int .i64)),(2,(.int .i64))] [] [] false [] [(76,za N)]
theorem z1rr (N:Nat) : EnvOk Tryd.prog (z1s8 N) := zi mixed zn (FnsOk.nil) (ItsOk.cons (zb N) (ItsOk.nil))
def zeg (N:Nat) (classes:(Option (List ((List Int) × Int)))) (b:(List Int)) (i:Int) (key:(List Int)) (class_:Int) (seen:Bool) (x13:(List (List Int))) (x14:Int) (x15:Int) (k0:(Option (List ((List Int) × Int))) -> Int -> Option (List Int)) : Option (List Int) :=
 cond (!seen)
 (cond (Option.isSome classes)
 (k0 (Option.some (z12f (eqD (T.arr 5 (T.int IntKind.u64))) key (((List.length (Option.getD classes ([] : List ((List Int) × Int)))) : Nat) : Int) (Option.getD classes ([] : List ((List Int) × Int))))) (((List.length (Option.getD classes ([] : List ((List Int) × Int)))) : Nat) : Int))
 (none))
 (k0 classes class_)
def z1n3 (N:Nat) (x:z13 [(3,.ov (.mp (.arr 5 (.int .u64)) (.int .i64))),(0,.row (.int .i64)),(0,.v (.int .i64)),(0,.box (.arr 5 (.int .u64))),(0,.v (.int .i64)),(0,.v .bool),(4,.v (.sl (.arr 5 (.int .u64)))),(0,.v (.int .i64)),(0,.v (.int .i64))]) (K:Ex -> List A -> Option (List Int)) : Option (List Int) :=
 zeg N x.1 x.2.1 x.2.2.1 x.2.2.2.1 x.2.2.2.2.1 x.2.2.2.2.2.1 x.2.2.2.2.2.2.1 x.2.2.2.2.2.2.2.1 x.2.2.2.2.2.2.2.2.1 (fun a0 a3=>(K .normal (mkS [(3,.ov (.mp (.arr 5 (.int .u64)) (.int .i64))),(0,.row (.int .i64)),(0,.v (.int .i64)),(1,.v (.int .i64)),(5,.v (.sl (.arr 5 (.int .u64)))),(0,.v (.int .i64)),(0,.v (.int .i64))] 23 (a0,x.2.1,x.2.2.1,a3,x.2.2.2.2.2.2.1,x.2.2.2.2.2.2.2.1,x.2.2.2.2.2.2.2.2.1,()))))
def z1jo (N:Nat) : Hd (List Int) := fun st K=>(unS [(3,.ov (.mp (.arr 5 (.int .u64)) (.int .i64))),(0,.row (.int .i64)),(0,.v (.int .i64)),(0,.box (.arr 5 (.int .u64))),(0,.v (.int .i64)),(0,.v .bool),(4,.v (.sl (.arr 5 (.int .u64)))),(0,.v (.int .i64)),(0,.v (.int .i64))] 23 (restr [8,3,6,4,5,15,14,13,7] 0 st)).bind fun x=>z1n3 N x K
def t2_14 (N:Nat) : Tab (List Int) := []
theorem z1fs {N:Nat} {c:Ctx} (hb:Base Tryd.prog (z1s8 N) c) : zj Tryd.prog c (zh zpd z1cj) (z1jo N) :=
  zl (s := [(3,.ov (.mp (.arr 5 (.int .u64)) (.int .i64))),(0,.row (.int .i64)),(0,.v (.int .i64)),(0,.box (.arr 5 (.int .u64))),(0,.v (.int .i64)),(0,.v .bool),(4,.v (.sl (.arr 5 (.int .u64)))),(0,.v (.int .i64)),(0,.v (.int .i64))]) (m := 23) (g := z1n3 N) [8,3,6,4,5,15,14,13,7] (ze hb N (t2_14 N) L_14 zpd TabOk.nil z1cj _ rfl) (fun x K=>by kernel_rfl)
def zef (N:Nat) (x13:(List (List Int))) (x14:Int) (classes:(Option (List ((List Int) × Int)))) (b:(List Int)) (x15:Int) (rec:(Option (List ((List Int) × Int))) -> (List Int) -> Int -> Option (List Int)) (k0:(List Int) -> Option (List Int)) : Option (List Int) :=
 cond (decide (x15 < x14))
 (cond (inR x15 (List.length x13))
 (zeg N classes b x15 (List.getD x13 (Int.toNat x15) ([] : List Int)) (Option.getD (zf9 (eqD (T.arr 5 (T.int IntKind.u64))) (List.getD x13 (Int.toNat x15) ([] : List Int)) (Option.getD classes ([] : List ((List Int) × Int)))) (0 : Int)) (Option.isSome (zf9 (eqD (T.arr 5 (T.int IntKind.u64))) (List.getD x13 (Int.toNat x15) ([] : List Int)) (Option.getD classes ([] : List ((List Int) × Int))))) x13 x14 x15
 (fun classes1 class_=>cond (inR x15 (List.length b))
 (cond (decide ((Int.toNat x15) < (List.length b)))
 (rec classes1 (List.set b (Int.toNat x15) class_) (IntKind.wrap IntKind.i64 (x15 + (1 : Int))))
 (none))
 (none)))
 (none))
 (k0 b)
def zm2 (N:Nat) (classes:(Option (List ((List Int) × Int)))) (b:(List Int)) (x13:(List (List Int))) (x14:Int) (x15:Int) (k0:(List Int) -> Option (List Int)) : Option (List Int) :=
 iter (fun (v:((Option (List ((List Int) × Int))) × (List Int) × Int)) r=>zef N x13 x14 v.1 v.2.1 v.2.2 (fun classes b x15=>(r (classes,b,x15))) k0) N (classes,b,x15)
def z1oo (N:Nat) (i:((List (List Int)) × Int)) (v:((Option (List ((List Int) × Int))) × (List Int) × Int)) (r:((Option (List ((List Int) × Int))) × (List Int) × Int) -> Option (List Int)) (K:Ex -> List A -> Option (List Int)) : Option (List Int) :=
 zef N i.1 i.2 v.1 v.2.1 v.2.2 (fun classes b x15=>(r (classes,b,x15))) (fun a0=>(K (.exit 0) (mkS [(4,.row (.int .i64))] 34 (a0,()))))
def z1l9 (N:Nat) : Hd (List Int) := fun st K=>(unS [(3,.ov (.mp (.arr 5 (.int .u64)) (.int .i64))),(0,.row (.int .i64)),(8,.v (.sl (.arr 5 (.int .u64)))),(0,.v (.int .i64)),(0,.v (.int .i64))] 23 (restr [15,14,13,3,4] 0 st)).bind fun x=>iter (fun v r=>z1oo N ((fun x=>(x.2.2.1,x.2.2.2.1)) x) v r K) N ((fun x=>(x.1,x.2.1,x.2.2.2.2.1)) x)
def t1_14 (N:Nat) : Tab (List Int) := [(z1cj,z1jo N)]
theorem z1hd {N:Nat} {c:Ctx} (hb:Base Tryd.prog (z1s8 N) c) : zj Tryd.prog c (zh zpd [0,1,0,1,1,1]) (z1l9 N) :=
  z18 (s := [(3,.ov (.mp (.arr 5 (.int .u64)) (.int .i64))),(0,.row (.int .i64)),(8,.v (.sl (.arr 5 (.int .u64)))),(0,.v (.int .i64)),(0,.v (.int .i64))]) (m := 23) (z1oo N) [15,14,13,3,4] N (fun x=>(x.2.2.1,x.2.2.2.1)) (fun x=>(x.1,x.2.1,x.2.2.2.2.1)) (fun i v=>(v.1,v.2.1,i.1,i.2,v.2.2,())) (fun _=>rfl) (ze hb N (t1_14 N) L_14 zpd (TabOk.cons (z1fs hb) TabOk.nil) ztr _ rfl) (fun i v r K=>by kernel_rfl)
def zdl (N:Nat) (keys:(List (List Int))) : Option (List Int) :=
 cond (decide (((0 : Int) <= (((List.length keys) : Nat) : Int)) /\ (((((List.length keys) : Nat) : Int) <= (((List.length keys) : Nat) : Int)) /\ ((((((List.length keys) : Nat) : Int) * (8 : Int)) <= (281474976710656 : Int)) /\ ((((List.length keys) : Nat) : Int) <= (9223372036854775807 : Int))))))
 (zm2 N (Option.some ([] : List ((List Int) × Int))) (List.replicate (Int.toNat (((List.length keys) : Nat) : Int)) (0 : Int)) keys (((List.length keys) : Nat) : Int) (0 : Int)
 (fun b=>some b))
 (none)
def t_14 (N:Nat) : Tab (List Int) := [([0,1,0,1,1,1],z1l9 N)]
theorem z19t (N:Nat) (x:z13 [(0,.v (.sl (.arr 5 (.int .u64))))]) : z4l (z1s8 N) N (t_14 N) L_14 Tryd.f78 (mkS [(0,.v (.sl (.arr 5 (.int .u64))))] 0 x) (z2v (.v (.sl (.int .i64))) 1) = zdl N x.1 := by kernel_rfl
def zde (N:Nat) : List A -> Res := zz [(0,.v (.sl (.arr 5 (.int .u64))))] (fun x=>zdl N x.1) (z70 (.v (.sl (.int .i64))) 1)
theorem zm3 (N:Nat) : Contract Tryd.prog glob 78 (zde N) :=
  Contract.of (E := z1s8 N) (H := t_14 N) (L := L_14) (N := N) (body := zpd) (K := (z2v (.v (.sl (.int .i64))) 1)) (z1rr N) Tryd.func78 (by kernel_rfl) (by decide) (fun _ hb=>(TabOk.cons (z1hd hb) TabOk.nil)) (fun x y h=>by rw [z19t]; exact h) (z16 (s := (.v (.sl (.int .i64)))) (m := 1))
def zjz : Code := (Tryd.f65.body).getD .skip
def z1pp : List (List Nat × List Nat) := [([0],[0,1]),([0,1],[0,5,1]),([0,0,1,1],[15,14,13,5,1]),([0,1,0,1,1],[15,14,13,5,1]),(zxn,[16,15,13,5,14,1]),(zts,[15,13,5,14,1]),(z123,[1,5]),(z124,[5,6,7,15,14,13,1]),(zz5,[15,14,13,5,1]),(z122,[15,14,13,5,1]),(z121,[15,14,13,5,1]),([1,0,1,1],[1,5]),([0,0,1,1,1],[29,28,27,5]),([0,1,0,1,1,1],[29,28,27,5]),(zwb,[30,29,27,5,28]),(zzh,[29,27,5,28]),(zwe,[5]),(zz7,[9,5,8,29,28,27]),(z1ci,zwd),(z1cj,zwd),([0,0,0,1,1,0,0,1,1,0,0,1,0,1,1,1],[39,36,38,5,8,37,29,28,27]),([0,1,0,0,1,1,0,0,1,1,0,0,1,0,1,1,1],[36,38,5,8,37,29,28,27]),([1,0,1,0,0,1,1,0,0,1,1,0,0,1,0,1,1,1],[29,28,27,5]),([0,0,0,1,1,0,0,1,1,0,0,1,1,0,0,1,0,1,1,1],[5,11,8,38,37,36,29,28,27]),([1,0,0,1,1,0,0,1,1,0,0,1,1,0,0,1,0,1,1,1],zwd),([0,1,1,0,0,1,1,0,0,1,1,0,0,1,0,1,1,1],zwd),([1,1,1,0,0,1,1,0,0,1,1,0,0,1,0,1,1,1],zwd),([1,1,0,0,1,1,0,0,1,0,1,1,1],[29,28,27,5]),(zz3,[29,28,27,5]),(zz2,[29,28,27,5]),([1,0,1,1,1],[5]),([0,1,1,1,1],[4]),([1,1,1,1,1],[4])]
def z1cv (N:Nat) : Env := z1d tys glob [(78,zde N),(77,zgb N)] [(5,(.arr 5 (.int .u64))),(4,(.int .i64))] [] [] false [] [(76,za N)]
theorem z1rq (N:Nat) : EnvOk Tryd.prog (z1cv N) := zi mixed zn (FnsOk.cons (zm3 N) (FnsOk.cons (zp1 N) (FnsOk.nil))) (ItsOk.cons (zb N) (ItsOk.nil))
def zhr (N:Nat) (sets:(List (List Int))) (x13:(List Int)) (x14:Int) (traits:(List (List Int))) (x15:Int) (rec:(List (List Int)) -> Int -> Option (List Int)) (k0:(List (List Int)) -> Option (List Int)) : Option (List Int) :=
 cond (decide (x15 < x14))
 (cond (inR x15 (List.length x13))
 (cond (inR x15 (List.length traits))
 (cond (z1s (decide ((Int.toNat x15) < (List.length traits))) (decide (0 < (List.length (List.getD traits (Int.toNat x15) ([] : List Int))))))
 (rec (List.set traits (Int.toNat x15) (List.set (List.getD traits (Int.toNat x15) ([] : List Int)) 0 (IntKind.wrap IntKind.u64 (List.getD x13 (Int.toNat x15) (0 : Int))))) (IntKind.wrap IntKind.i64 (x15 + (1 : Int))))
 (none))
 (none))
 (none))
 (k0 traits)
def zpg (N:Nat) (sets:(List (List Int))) (traits:(List (List Int))) (x13:(List Int)) (x14:Int) (x15:Int) (k0:(List (List Int)) -> Option (List Int)) : Option (List Int) :=
 iter (fun (v:((List (List Int)) × Int)) r=>zhr N sets x13 x14 v.1 v.2 (fun traits x15=>(r (traits,x15))) k0) N (traits,x15)
def z1on (N:Nat) (i:((List (List Int)) × (List Int) × Int)) (v:((List (List Int)) × Int)) (r:((List (List Int)) × Int) -> Option (List Int)) (K:Ex -> List A -> Option (List Int)) : Option (List Int) :=
 zhr N i.1 i.2.1 i.2.2 v.1 v.2 (fun traits x15=>(r (traits,x15))) (fun a1=>(K (.exit 0) (mkS [(1,.v (.sl (.arr 4 (.int .u64)))),(3,.row (.arr 5 (.int .u64)))] 54 (i.1,a1,()))))
def z1l8 (N:Nat) : Hd (List Int) := fun st K=>(unS SQ81 44 (restr [15,14,13,5,1] 0 st)).bind fun x=>iter (fun v r=>z1on N ((fun x=>(x.1,x.2.2.1,x.2.2.2.1)) x) v r K) N ((fun x=>(x.2.1,x.2.2.2.2.1)) x)
def t1_15 (N:Nat) : Tab (List Int) := []
theorem z1hc {N:Nat} {c:Ctx} (hb:Base Tryd.prog (z1cv N) c) : zj Tryd.prog c (zh zjz [0,1,0,1,1]) (z1l8 N) :=
  z18 (s := SQ81) (m := 44) (z1on N) [15,14,13,5,1] N (fun x=>(x.1,x.2.2.1,x.2.2.2.1)) (fun x=>(x.2.1,x.2.2.2.2.1)) (fun i v=>(i.1,v.1,i.2.1,i.2.2,v.2,())) (fun _=>rfl) (ze hb N (t1_15 N) z1pp zjz TabOk.nil [0,0,1,0,1,1] _ rfl) (fun i v r K=>by kernel_rfl)
def zhp (N:Nat) (i:Int) (x27:(List (List Int))) (x28:Int) (x29:Int) (x36:(List Int)) (x37:Int) (traits:(List (List Int))) (x38:Int) (rec:(List (List Int)) -> Int -> Option (List Int)) (k0:(List (List Int)) -> Option (List Int)) : Option (List Int) :=
 cond (decide (x38 < x37))
 (cond (inR x38 (List.length x36))
 (cond (decide ((Int.toNat x38) < (List.length x36)))
 (cond (inR (List.getD x36 (Int.toNat x38) (0 : Int)) (List.length traits))
 (cond (inR (IntKind.wrap IntKind.i64 ((1 : Int) + (IntKind.wrap IntKind.i64 (Int.tdiv i (64 : Int))))) 5)
 (cond (z1s (decide ((Int.toNat (List.getD x36 (Int.toNat x38) (0 : Int))) < (List.length traits))) (decide ((Int.toNat (IntKind.wrap IntKind.i64 ((1 : Int) + (IntKind.wrap IntKind.i64 (Int.tdiv i (64 : Int)))))) < (List.length (List.getD traits (Int.toNat (List.getD x36 (Int.toNat x38) (0 : Int))) ([] : List Int))))))
 (cond (decide ((0 : Int) <= (Int.tmod i (64 : Int))))
 (cond (inR (List.getD x36 (Int.toNat x38) (0 : Int)) (List.length traits))
 (cond (inR (IntKind.wrap IntKind.i64 ((1 : Int) + (IntKind.wrap IntKind.i64 (Int.tdiv i (64 : Int))))) 5)
 (cond (z1s (decide ((Int.toNat (List.getD x36 (Int.toNat x38) (0 : Int))) < (List.length traits))) (decide ((Int.toNat (IntKind.wrap IntKind.i64 ((1 : Int) + (IntKind.wrap IntKind.i64 (Int.tdiv i (64 : Int)))))) < (List.length (List.getD traits (Int.toNat (List.getD x36 (Int.toNat x38) (0 : Int))) ([] : List Int))))))
 (rec (List.set traits (Int.toNat (List.getD x36 (Int.toNat x38) (0 : Int))) (List.set (List.getD traits (Int.toNat (List.getD x36 (Int.toNat x38) (0 : Int))) ([] : List Int)) (Int.toNat (IntKind.wrap IntKind.i64 ((1 : Int) + (IntKind.wrap IntKind.i64 (Int.tdiv i (64 : Int)))))) (zf Go.BinOp.or IntKind.u64 (List.getD (List.getD traits (Int.toNat (List.getD x36 (Int.toNat x38) (0 : Int))) ([] : List Int)) (Int.toNat (IntKind.wrap IntKind.i64 ((1 : Int) + (IntKind.wrap IntKind.i64 (Int.tdiv i (64 : Int)))))) (0 : Int)) (z174 IntKind.u64 (1 : Int) (Int.tmod i (64 : Int)))))) (IntKind.wrap IntKind.i64 (x38 + (1 : Int))))
 (none))
 (none))
 (none))
 (none))
 (none))
 (none))
 (none))
 (none))
 (none))
 (k0 traits)
def zpe (N:Nat) (traits:(List (List Int))) (i:Int) (x27:(List (List Int))) (x28:Int) (x29:Int) (x36:(List Int)) (x37:Int) (x38:Int) (k0:(List (List Int)) -> Option (List Int)) : Option (List Int) :=
 iter (fun (v:((List (List Int)) × Int)) r=>zhp N i x27 x28 x29 x36 x37 v.1 v.2 (fun traits x38=>(r (traits,x38))) k0) N (traits,x38)
def z1mb (N:Nat) (i:(Int × (List (List Int)) × Int × Int × (List Int) × Int)) (v:((List (List Int)) × Int)) (r:((List (List Int)) × Int) -> Option (List Int)) (K:Ex -> List A -> Option (List Int)) : Option (List Int) :=
 zhp N i.1 i.2.1 i.2.2.1 i.2.2.2.1 i.2.2.2.2.1 i.2.2.2.2.2 v.1 v.2 (fun traits x38=>(r (traits,x38))) (fun a0=>(K (.exit 4) (mkS [(5,.row (.arr 5 (.int .u64))),(21,.v (.sl (.arr 4 (.int .u64)))),(0,.v (.int .i64)),(0,.v (.int .i64))] 30 (a0,i.2.1,i.2.2.1,i.2.2.2.1,()))))
def z1iw (N:Nat) : Hd (List Int) := fun st K=>(unS [(5,.row (.arr 5 (.int .u64))),(2,.v (.int .i64)),(18,.v (.sl (.arr 4 (.int .u64)))),(0,.v (.int .i64)),(0,.v (.int .i64)),(6,.row (.int .u8)),(0,.v (.int .i64)),(0,.v (.int .i64))] 21 (restr zwd 0 st)).bind fun x=>iter (fun v r=>z1mb N ((fun x=>(x.2.1,x.2.2.1,x.2.2.2.1,x.2.2.2.2.1,x.2.2.2.2.2.1,x.2.2.2.2.2.2.1)) x) v r K) N ((fun x=>(x.1,x.2.2.2.2.2.2.2.1)) x)
def t3_15 (N:Nat) : Tab (List Int) := []
theorem z1f0 {N:Nat} {c:Ctx} (hb:Base Tryd.prog (z1cv N) c) : zj Tryd.prog c (zh zjz z1cj) (z1iw N) :=
  z18 (s := [(5,.row (.arr 5 (.int .u64))),(2,.v (.int .i64)),(18,.v (.sl (.arr 4 (.int .u64)))),(0,.v (.int .i64)),(0,.v (.int .i64)),(6,.row (.int .u8)),(0,.v (.int .i64)),(0,.v (.int .i64))]) (m := 21) (z1mb N) zwd N (fun x=>(x.2.1,x.2.2.1,x.2.2.2.1,x.2.2.2.2.1,x.2.2.2.2.2.1,x.2.2.2.2.2.2.1)) (fun x=>(x.1,x.2.2.2.2.2.2.2.1)) (fun i v=>(v.1,i.1,i.2.1,i.2.2.1,i.2.2.2.1,i.2.2.2.2.1,i.2.2.2.2.2,v.2,())) (fun _=>rfl) (ze hb N (t3_15 N) z1pp zjz TabOk.nil z1ba _ rfl) (fun i v r K=>by kernel_rfl)
def zhq (N:Nat) (x27:(List (List Int))) (x28:Int) (traits:(List (List Int))) (x29:Int) (rec:(List (List Int)) -> Int -> Option (List Int)) (k0:(List (List Int)) -> Option (List Int)) : Option (List Int) :=
 cond (decide (x29 < x28))
 (cond (inR x29 (List.length x27))
 ((zhn N (List.getD x27 (Int.toNat x29) ([] : List Int))).bind fun y =>
 zpe N traits x29 x27 x28 x29 (zlh y) (((List.length (zlh y)) : Nat) : Int) (0 : Int)
 (fun traits1=>rec traits1 (IntKind.wrap IntKind.i64 (x29 + (1 : Int)))))
 (none))
 (k0 traits)
def zpf (N:Nat) (traits:(List (List Int))) (x27:(List (List Int))) (x28:Int) (x29:Int) (k0:(List (List Int)) -> Option (List Int)) : Option (List Int) :=
 iter (fun (v:((List (List Int)) × Int)) r=>zhq N x27 x28 v.1 v.2 (fun traits x29=>(r (traits,x29))) k0) N (traits,x29)
def z1n2 (N:Nat) (i:((List (List Int)) × Int)) (v:((List (List Int)) × Int)) (r:((List (List Int)) × Int) -> Option (List Int)) (K:Ex -> List A -> Option (List Int)) : Option (List Int) :=
 zhq N i.1 i.2 v.1 v.2 (fun traits x29=>(r (traits,x29))) (fun a0=>(K (.exit 2) (mkS [(5,.row (.arr 5 (.int .u64)))] 54 (a0,()))))
def z1jn (N:Nat) : Hd (List Int) := fun st K=>(unS [(5,.row (.arr 5 (.int .u64))),(21,.v (.sl (.arr 4 (.int .u64)))),(0,.v (.int .i64)),(0,.v (.int .i64))] 30 (restr [29,28,27,5] 0 st)).bind fun x=>iter (fun v r=>z1n2 N ((fun x=>(x.2.1,x.2.2.1)) x) v r K) N ((fun x=>(x.1,x.2.2.2.1)) x)
def t2_15 (N:Nat) : Tab (List Int) := [(z1cj,z1iw N)]
theorem z1fr {N:Nat} {c:Ctx} (hb:Base Tryd.prog (z1cv N) c) : zj Tryd.prog c (zh zjz [0,1,0,1,1,1]) (z1jn N) :=
  z18 (s := [(5,.row (.arr 5 (.int .u64))),(21,.v (.sl (.arr 4 (.int .u64)))),(0,.v (.int .i64)),(0,.v (.int .i64))]) (m := 30) (z1n2 N) [29,28,27,5] N (fun x=>(x.2.1,x.2.2.1)) (fun x=>(x.1,x.2.2.2.1)) (fun i v=>(v.1,i.1,i.2,v.2,())) (fun _=>rfl) (ze hb N (t2_15 N) z1pp zjz (TabOk.cons (z1f0 hb) TabOk.nil) ztr _ rfl) (fun i v r K=>by kernel_rfl)
def zhs (N:Nat) (b:(List Int)) (sets:(List (List Int))) : Option (List Int) :=
 zpg N sets (List.replicate 256 ([(0 : Int),(0 : Int),(0 : Int),(0 : Int),(0 : Int)] : List Int)) b (((List.length b) : Nat) : Int) (0 : Int)
 (fun traits=>zpf N traits sets (((List.length sets) : Nat) : Int) (0 : Int)
 (fun traits1=>(zdl N traits1).bind fun y =>
 some y))
def t_15 (N:Nat) : Tab (List Int) := [([0,1,0,1,1],z1l8 N),([0,1,0,1,1,1],z1jn N)]
theorem z19s (N:Nat) (x:z13 z1b0) : z4l (z1cv N) N (t_15 N) z1pp Tryd.f65 (mkS z1b0 0 x) (z2v (.v (.sl (.int .i64))) 2) = zhs N x.1 x.2.1 := by kernel_rfl
def zgf (N:Nat) : List A -> Res := zz z1b0 (fun x=>zhs N x.1 x.2.1) (z70 (.v (.sl (.int .i64))) 2)
theorem zph (N:Nat) : Contract Tryd.prog glob 65 (zgf N) :=
  Contract.of (E := z1cv N) (H := t_15 N) (L := z1pp) (N := N) (body := zjz) (K := (z2v (.v (.sl (.int .i64))) 2)) (z1rq N) Tryd.func65 (by kernel_rfl) (by decide) (fun _ hb=>(TabOk.cons (z1hc hb) (TabOk.cons (z1fr hb) TabOk.nil))) (fun x y h=>by rw [z19s]; exact h) (z16 (s := (.v (.sl (.int .i64)))) (m := 2))
def zs2 : Code := (Tryd.f42.body).getD .skip
def L_16 : List (List Nat × List Nat) := [([0],[0]),([0,1],[0,3]),([0,0,1,1],[7,3]),([0,1,0,1,1],[3]),([0,0,1,0,1,1],[3,4]),([0,1,0,1,0,1,1],[3]),([1,0,1,0,1,1],[3]),([1,0,1,1],[3]),([0,1,1,1],[2]),([1,1,1,1],[2])]
def z1s7 (N:Nat) : Env := z1d tys glob [(65,zgf N),(64,zg2 N)] [(4,(.arr 4 (.int .u64))),(2,(.int .i64))] [] [] false [] [(76,za N)]
theorem z1rp (N:Nat) : EnvOk Tryd.prog (z1s7 N) := zi mixed zn (FnsOk.cons (zph N) (FnsOk.cons (zns N) (FnsOk.nil))) (ItsOk.cons (zb N) (ItsOk.nil))
def zmu (N:Nat) (b_1:(List Int)) (y:((List (List Int)) × Unit)) (rec:(List Int) -> Option (List Int)) (k0:(List Int) -> Option (List Int)) : Option (List Int) :=
 (zhs N b_1 y.1).bind fun y1 =>
 rec y1
def zdm (N:Nat) (b:(List Int)) (x7:((List (List Int)) × (Int × Unit))) : Option (List ((List (List Int)) × Unit)) := (zep N x7.1 x7.2.1)
def zhu (N:Nat) (b:(List Int)) (x7:((List (List Int)) × (Int × Unit))) : Unit := ()
def zmt (N:Nat) (b:(List Int)) (x7:((List (List Int)) × (Int × Unit))) : (List Int) := b
def ztm (N:Nat) (b:(List Int)) (x7:((List (List Int)) × (Int × Unit))) (k0:(List Int) -> Option (List Int)) : Option (List Int) :=
 (zdm N b x7).bind fun ys=>zya (fun (y:((List (List Int)) × Unit)) (v:(List Int)) r=>zmu N v y (fun b_1=>(r b_1)) k0) (fun (v:(List Int))=>k0 v) ys b
def z1om (N:Nat) (y:((List (List Int)) × Unit)) (i:Unit) (v:(List Int)) (r:(List Int) -> Option (List Int)) (K:Ex -> List A -> Option (List Int)) : Option (List Int) :=
 zmu N v y (fun b_1=>(r b_1)) (fun a0=>(K .normal (mkS [(3,.box (.sl (.int .i64)))] 9 (a0,()))))
def z1l7 (N:Nat) : Hd (List Int) := fun st K=>(unS [(3,.box (.sl (.int .i64))),(3,.v (.fn 76 (.pair (.ptr (.sl (.arr 4 (.int .u64)))) (.pair (.ptr (.int .i64)) .unit))))] 5 (restr [7,3] 0 st)).bind fun x=>((fun x=>zdm N x.1 x.2.1) x).bind fun xs=>zya (fun y v r=>z1om N y ((fun x=>zhu N x.1 x.2.1) x) v r K) (fun v=>K .normal (mkS [(3,.box (.sl (.int .i64)))] 9 ((fun i v=>(v,())) ((fun x=>zhu N x.1 x.2.1) x) v))) xs ((fun x=>zmt N x.1 x.2.1) x)
theorem z1hb {N:Nat} {c:Ctx} (hb:Base Tryd.prog (z1s7 N) c) : zj Tryd.prog c (zh zs2 [0,1,0,1,1]) (z1l7 N) :=
  rf_ok (ts := [(.sl (.arr 4 (.int .u64)))]) (s := [(3,.box (.sl (.int .i64))),(3,.v (.fn 76 (.pair (.ptr (.sl (.arr 4 (.int .u64)))) (.pair (.ptr (.int .i64)) .unit))))]) (m := 5) (s2 := [(3,.box (.sl (.int .i64)))]) (m2 := 9) [7,3] (fun x=>zdm N x.1 x.2.1) (fun x=>zhu N x.1 x.2.1) (fun x=>zmt N x.1 x.2.1) (fun i v=>(v,())) (rfF (z1s7 N) N [(.sl (.arr 4 (.int .u64)))] (zh zs2 [0,1,0,1,1])) (z1om N) (ze hb N [] L_16 zs2 TabOk.nil [0,1,0,1,1] _ rfl) (fun x K=>by kernel_rfl) (fun y i v r K=>by kernel_rfl)
def zeh (N:Nat) (sets:(List (List Int))) : Option (List Int) :=
 ztm N (List.replicate 256 (0 : Int)) (sets,((256 : Int),()))
 (fun b_1=>some b_1)
def t_16 (N:Nat) : Tab (List Int) := [([0,1,0,1,1],z1l7 N)]
theorem z19r (N:Nat) (x:z13 z1b3) : z4l (z1s7 N) N (t_16 N) L_16 Tryd.f42 (mkS z1b3 0 x) (z2v (.v (.sl (.int .i64))) 1) = zeh N x.1 := by kernel_rfl
def zl0 (N:Nat) : List A -> Res := zz z1b3 (fun x=>zeh N x.1) (z70 (.v (.sl (.int .i64))) 1)
theorem zmv (N:Nat) : Contract Tryd.prog glob 42 (zl0 N) :=
  Contract.of (E := z1s7 N) (H := t_16 N) (L := L_16) (N := N) (body := zs2) (K := (z2v (.v (.sl (.int .i64))) 1)) (z1rp N) Tryd.func42 (by kernel_rfl) (by decide) (fun _ hb=>(TabOk.cons (z1hb hb) TabOk.nil)) (fun x y h=>by rw [z19r]; exact h) (z16 (s := (.v (.sl (.int .i64)))) (m := 1))
def zcm : Code := (Tryd.f20.body).getD .skip
def z1bk : List (List Nat × List Nat) := [([0],[0]),([0,0,1],[14,0]),([1,0,1],[0]),([0,0,1,0,1],[2]),([1,0,1,0,1],[2]),([0,1,1],[0,3]),([0,0,1,1,1],[17,16,15,3]),([0,1,0,1,1,1],[17,16,15,3]),(zwb,[18,15,17,3,16]),(zzh,[15,17,3,16]),(zwe,[]),(zz7,[5,3,17,16,15]),(z14d,[28,3,5,17,16,15]),([1,0,1,0,0,1,1,0,0,1,0,1,1,1],[3,5,17,16,15]),([0,0,1,0,1,0,0,1,1,0,0,1,0,1,1,1],[2]),([1,0,1,0,1,0,0,1,1,0,0,1,0,1,1,1],[2]),([1,1,0,0,1,1,0,0,1,0,1,1,1],[17,16,15,3]),(zz3,[17,16,15,3]),(zz2,[17,16,15,3]),([1,0,1,1,1],[]),([0,1,1,1,1],[2]),([1,1,1,1,1],[2])]
def z168 (N:Nat) : Env := z1d tys glob [] [] [] [] false [] [(76,za N)]
theorem z1ro (N:Nat) : EnvOk Tryd.prog (z168 N) := zi mixed zn (FnsOk.nil) (ItsOk.cons (zb N) (ItsOk.nil))
def zcp (N:Nat) (b:(List Int)) (k0:Bool -> Option Bool) : Option Bool :=
 cond ((((List.length b) : Nat) : Int) != (256 : Int))
 (k0 true)
 (cond (inR (0 : Int) (List.length b))
 (k0 ((List.getD b 0 (0 : Int)) != (0 : Int)))
 (none))
def z1n1 (N:Nat) (x:z13 zl3) (K:Ex -> List A -> Option Bool) : Option Bool :=
 zcp N x.1 (fun a1=>(K .normal (mkS [(0,.v (.sl (.int .i64))),(13,.v .bool)] 18 (x.1,a1,()))))
def z1jm (N:Nat) : Hd Bool := fun st K=>(unS zl3 32 (restr [0] 0 st)).bind fun x=>z1n1 N x K
def t2_17 (N:Nat) : Tab Bool := []
theorem z1fq {N:Nat} {c:Ctx} (hb:Base Tryd.prog (z168 N) c) : zj Tryd.prog c (zh zcm [0,0,1]) (z1jm N) :=
  zl (s := zl3) (m := 32) (g := z1n1 N) [0] (ze hb N (t2_17 N) z1bk zcm TabOk.nil [0,0,1] _ rfl) (fun x K=>by kernel_rfl)
def zcq (N:Nat) (b:(List Int)) (k0:Bool -> Option Bool) (k1:Option Bool) : Option Bool :=
 zcp N b
 (fun x14=>cond x14
 (k0 false)
 (k1))
def z1ol (N:Nat) (x:z13 zl3) (K:Ex -> List A -> Option Bool) : Option Bool :=
 zcq N x.1 (fun a0=>(K .ret (mkS [(2,.v .bool)] 30 (a0,())))) (K .normal (mkS zl3 32 (x.1,())))
def z1l6 (N:Nat) : Hd Bool := fun st K=>(unS zl3 32 (restr [0] 0 st)).bind fun x=>z1ol N x K
def t1_17 (N:Nat) : Tab Bool := [([0,0,1],z1jm N)]
theorem z1ha {N:Nat} {c:Ctx} (hb:Base Tryd.prog (z168 N) c) : zj Tryd.prog c (zh zcm [0,1]) (z1l6 N) :=
  zl (s := zl3) (m := 32) (g := z1ol N) [0] (ze hb N (t1_17 N) z1bk zcm (TabOk.cons (z1fq hb) TabOk.nil) [0,1] _ rfl) (fun x K=>by kernel_rfl)
def zcn (N:Nat) (most:Int) (class_:Int) (x15:(List Int)) (x16:Int) (x17:Int) (k0:Bool -> Option Bool) : Option Bool :=
 cond (decide (class_ < (0 : Int)))
 (k0 true)
 (k0 (decide ((IntKind.wrap IntKind.i64 (most + (1 : Int))) < class_)))
def z1lk (N:Nat) (x:z13 z1au) (K:Ex -> List A -> Option Bool) : Option Bool :=
 zcn N x.1 x.2.1 x.2.2.1 x.2.2.2.1 x.2.2.2.2.1 (fun a5=>(K .normal (mkS [(3,.v (.int .i64)),(1,.v (.int .i64)),(9,.v (.sl (.int .i64))),(0,.v (.int .i64)),(0,.v (.int .i64)),(10,.v .bool)] 4 (x.1,x.2.1,x.2.2.1,x.2.2.2.1,x.2.2.2.2.1,a5,()))))
def z1i5 (N:Nat) : Hd Bool := fun st K=>(unS z1au 15 (restr [5,3,17,16,15] 0 st)).bind fun x=>z1lk N x K
def t5_17 (N:Nat) : Tab Bool := []
theorem z1e9 {N:Nat} {c:Ctx} (hb:Base Tryd.prog (z168 N) c) : zj Tryd.prog c (zh zcm z14d) (z1i5 N) :=
  zl (s := z1au) (m := 15) (g := z1lk N) [5,3,17,16,15] (ze hb N (t5_17 N) z1bk zcm TabOk.nil z14d _ rfl) (fun x K=>by kernel_rfl)
def zco (N:Nat) (most:Int) (class_:Int) (x15:(List Int)) (x16:Int) (x17:Int) (k0:Bool -> Option Bool) (k1:Option Bool) : Option Bool :=
 zcn N most class_ x15 x16 x17
 (fun x28=>cond x28
 (k0 false)
 (k1))
def z1lv (N:Nat) (x:z13 z1au) (K:Ex -> List A -> Option Bool) : Option Bool :=
 zco N x.1 x.2.1 x.2.2.1 x.2.2.2.1 x.2.2.2.2.1 (fun a0=>(K .ret (mkS [(2,.v .bool)] 30 (a0,())))) (K .normal (mkS z1au 15 (x.1,x.2.1,x.2.2.1,x.2.2.2.1,x.2.2.2.2.1,())))
def z1ig (N:Nat) : Hd Bool := fun st K=>(unS z1au 15 (restr [5,3,17,16,15] 0 st)).bind fun x=>z1lv N x K
def t4_17 (N:Nat) : Tab Bool := [(z14d,z1i5 N)]
theorem z1ek {N:Nat} {c:Ctx} (hb:Base Tryd.prog (z168 N) c) : zj Tryd.prog c (zh zcm z1ci) (z1ig N) :=
  zl (s := z1au) (m := 15) (g := z1lv N) [5,3,17,16,15] (ze hb N (t4_17 N) z1bk zcm (TabOk.cons (z1e9 hb) TabOk.nil) z1ci _ rfl) (fun x K=>by kernel_rfl)
def z8x (N:Nat) (x15:(List Int)) (x16:Int) (most:Int) (x17:Int) (rec:Int -> Int -> Option Bool) (k0:Bool -> Option Bool) (k1:Option Bool) : Option Bool :=
 cond (decide (x17 < x16))
 (cond (inR x17 (List.length x15))
 (zco N most (List.getD x15 (Int.toNat x17) (0 : Int)) x15 x16 x17
 (fun x2=>k0 x2)
 (rec (if ((List.getD x15 (Int.toNat x17) (0 : Int)) > most) then (List.getD x15 (Int.toNat x17) (0 : Int)) else most) (IntKind.wrap IntKind.i64 (x17 + (1 : Int)))))
 (none))
 (k1)
def zht (N:Nat) (most:Int) (x15:(List Int)) (x16:Int) (x17:Int) (k0:Bool -> Option Bool) (k1:Option Bool) : Option Bool :=
 iter (fun (v:(Int × Int)) r=>z8x N x15 x16 v.1 v.2 (fun most x17=>(r (most,x17))) k0 k1) N (most,x17)
def z1ma (N:Nat) (i:((List Int) × Int)) (v:(Int × Int)) (r:(Int × Int) -> Option Bool) (K:Ex -> List A -> Option Bool) : Option Bool :=
 z8x N i.1 i.2 v.1 v.2 (fun most x17=>(r (most,x17))) (fun a0=>(K .ret (mkS [(2,.v .bool)] 30 (a0,())))) (K (.exit 0) (mkS [] 33 ()))
def z1iv (N:Nat) : Hd Bool := fun st K=>(unS z1p3 15 (restr [17,16,15,3] 0 st)).bind fun x=>iter (fun v r=>z1ma N ((fun x=>(x.2.1,x.2.2.1)) x) v r K) N ((fun x=>(x.1,x.2.2.2.1)) x)
def t3_17 (N:Nat) : Tab Bool := [(z1ci,z1ig N)]
theorem z1ez {N:Nat} {c:Ctx} (hb:Base Tryd.prog (z168 N) c) : zj Tryd.prog c (zh zcm [0,1,0,1,1,1]) (z1iv N) :=
  z18 (s := z1p3) (m := 15) (z1ma N) [17,16,15,3] N (fun x=>(x.2.1,x.2.2.1)) (fun x=>(x.1,x.2.2.2.1)) (fun i v=>(v.1,i.1,i.2,v.2,())) (fun _=>rfl) (ze hb N (t3_17 N) z1bk zcm (TabOk.cons (z1ek hb) TabOk.nil) ztr _ rfl) (fun i v r K=>by kernel_rfl)
def z62 (N:Nat) (b:(List Int)) : Option Bool :=
 zcq N b
 (fun x2=>some x2)
 (zht N (0 : Int) b (((List.length b) : Nat) : Int) (0 : Int)
 (fun x21=>some x21)
 (some true))
def t_17 (N:Nat) : Tab Bool := [([0,1],z1l6 N),([0,1,0,1,1,1],z1iv N)]
theorem z19q (N:Nat) (x:z13 zl3) : z4l (z168 N) N (t_17 N) z1bk Tryd.f20 (mkS zl3 0 x) (z2v (.v .bool) 1) = z62 N x.1 := by kernel_rfl
def z7h (N:Nat) : List A -> Res := zz zl3 (fun x=>z62 N x.1) (z70 (.v .bool) 1)
theorem zcr (N:Nat) : Contract Tryd.prog glob 20 (z7h N) :=
  Contract.of (E := z168 N) (H := t_17 N) (L := z1bk) (N := N) (body := zcm) (K := (z2v (.v .bool) 1)) (z1ro N) Tryd.func20 (by kernel_rfl) (by decide) (fun _ hb=>(TabOk.cons (z1ha hb) (TabOk.cons (z1ez hb) TabOk.nil))) (fun x y h=>by rw [z19q]; exact h) (z16 (s := (.v .bool)) (m := 1))
def zpc : Code := (Tryd.f43.body).getD .skip
def L_18 : List (List Nat × List Nat) := [([0],[0]),([0,0,1],[7,0]),([1,0,1],[0]),([0,1,0,1],[0]),([0,1,1],[0,3]),([0,0,1,1,1],[4,0,3]),([0,1,0,1,1,1],[4,0,3]),(z1b9,[15,3,0,4]),(z1b8,[3,0,4]),(z1bc,[3]),([0,0,1,0,0,1,0,1,1,1],[4,0,3]),(zzh,[4,0,3]),(z1b7,[4,0,3]),([1,0,1,1,1],[3]),([0,1,1,1,1],[2]),([1,1,1,1,1],[2])]
def z1s6 (N:Nat) : Env := z1d tys glob [] [] [] [] false [] [(76,za N)]
theorem z1rn (N:Nat) : EnvOk Tryd.prog (z1s6 N) := zi mixed zn (FnsOk.nil) (ItsOk.cons (zb N) (ItsOk.nil))
def z5p (N:Nat) (x0:(List Int)) (k0:Option Int) : Option Int :=
 cond (decide ((((List.length x0) : Nat) : Int) < (1 : Int)))
 (none)
 (k0)
def z1ok (N:Nat) (x:z13 zl3) (K:Ex -> List A -> Option Int) : Option Int :=
 z5p N x.1 (K .normal (mkS zl3 24 (x.1,())))
def z1l5 (N:Nat) : Hd Int := fun st K=>(unS zl3 24 (restr [0] 0 st)).bind fun x=>z1ok N x K
def t1_18 (N:Nat) : Tab Int := []
theorem z1h9 {N:Nat} {c:Ctx} (hb:Base Tryd.prog (z1s6 N) c) : zj Tryd.prog c (zh zpc [0,1]) (z1l5 N) :=
  zl (s := zl3) (m := 24) (g := z1ok N) [0] (ze hb N (t1_18 N) L_18 zpc TabOk.nil [0,1] _ rfl) (fun x K=>by kernel_rfl)
def z3t (N:Nat) (x0:(List Int)) (m:Int) (i:Int) (rec:Int -> Int -> Option Int) (k0:Int -> Option Int) : Option Int :=
 cond (decide (i < (((List.length x0) : Nat) : Int)))
 (cond (inR i (List.length x0))
 (rec (if ((List.getD x0 (Int.toNat i) (0 : Int)) > m) then (List.getD x0 (Int.toNat i) (0 : Int)) else m) (IntKind.wrap IntKind.i64 (i + (1 : Int))))
 (none))
 (k0 m)
def z9y (N:Nat) (x0:(List Int)) (m:Int) (i:Int) (k0:Int -> Option Int) : Option Int :=
 iter (fun (v:(Int × Int)) r=>z3t N x0 v.1 v.2 (fun m i=>(r (m,i))) k0) N (m,i)
def z1n0 (N:Nat) (i:(List Int)) (v:(Int × Int)) (r:(Int × Int) -> Option Int) (K:Ex -> List A -> Option Int) : Option Int :=
 z3t N i v.1 v.2 (fun m i=>(r (m,i))) (fun a0=>(K (.exit 0) (mkS [(3,.v (.int .i64))] 21 (a0,()))))
def z1jl (N:Nat) : Hd Int := fun st K=>(unS SQ5 20 (restr [4,0,3] 0 st)).bind fun x=>iter (fun v r=>z1n0 N ((fun x=>x.1) x) v r K) N ((fun x=>(x.2.1,x.2.2.1)) x)
def t2_18 (N:Nat) : Tab Int := []
theorem z1fp {N:Nat} {c:Ctx} (hb:Base Tryd.prog (z1s6 N) c) : zj Tryd.prog c (zh zpc [0,1,0,1,1,1]) (z1jl N) :=
  z18 (s := SQ5) (m := 20) (z1n0 N) [4,0,3] N (fun x=>x.1) (fun x=>(x.2.1,x.2.2.1)) (fun i v=>(i,v.1,v.2,())) (fun _=>rfl) (ze hb N (t2_18 N) L_18 zpc TabOk.nil ztr _ rfl) (fun i v r K=>by kernel_rfl)
def z3u (N:Nat) (x0:(List Int)) : Option Int :=
 z5p N x0
 (cond (inR (0 : Int) (List.length x0))
 (z9y N x0 (List.getD x0 0 (0 : Int)) (1 : Int)
 (fun m=>some m))
 (none))
def t_18 (N:Nat) : Tab Int := [([0,1],z1l5 N),([0,1,0,1,1,1],z1jl N)]
theorem z19p (N:Nat) (x:z13 zl3) : z4l (z1s6 N) N (t_18 N) L_18 Tryd.f43 (mkS zl3 0 x) (z2v (.v (.int .i64)) 1) = z3u N x.1 := by kernel_rfl
def z91 (N:Nat) : List A -> Res := zz zl3 (fun x=>z3u N x.1) (z70 (.v (.int .i64)) 1)
theorem zgq (N:Nat) : Contract Tryd.prog glob 43 (z91 N) :=
  Contract.of (E := z1s6 N) (H := t_18 N) (L := L_18) (N := N) (body := zpc) (K := (z2v (.v (.int .i64)) 1)) (z1rn N) Tryd.func43 (by kernel_rfl) (by decide) (fun _ hb=>(TabOk.cons (z1h9 hb) (TabOk.cons (z1fp hb) TabOk.nil))) (fun x y h=>by rw [z19p]; exact h) (z16 (s := (.v (.int .i64))) (m := 1))
def z1am : Code := (Tryd.f21.body).getD .skip
def L_19 : List (List Nat × List Nat) := [([0],[0]),([0,0,1],[5,0]),([1,0,1],[0]),([0,0,1,0,1],[2]),([1,0,1,0,1],[2]),([0,1,1],[2]),([1,1,1],[2])]
def E_19 (N:Nat) : Env := z1d tys glob [(43,z91 N),(20,z7h N)] [] [] [] false [] [(76,za N)]
theorem z1rm (N:Nat) : EnvOk Tryd.prog (E_19 N) := zi mixed zn (FnsOk.cons (zgq N) (FnsOk.cons (zcr N) (FnsOk.nil))) (ItsOk.cons (zb N) (ItsOk.nil))
def z3y (N:Nat) (b:(List Int)) : Option Int :=
 (z62 N b).bind fun y =>
 cond (!y)
 (some (0 : Int))
 ((z3u N b).bind fun y1 =>
 some (IntKind.wrap IntKind.i64 (y1 + (1 : Int))))
def t_19 (N:Nat) : Tab Int := []
theorem z19o (N:Nat) (x:z13 zl3) : z4l (E_19 N) N (t_19 N) L_19 Tryd.f21 (mkS zl3 0 x) (z2v (.v (.int .i64)) 1) = z3y N x.1 := by kernel_rfl
def zag (N:Nat) : List A -> Res := zz zl3 (fun x=>z3y N x.1) (z70 (.v (.int .i64)) 1)
theorem zcs (N:Nat) : Contract Tryd.prog glob 21 (zag N) :=
  Contract.of (E := E_19 N) (H := t_19 N) (L := L_19) (N := N) (body := z1am) (K := (z2v (.v (.int .i64)) 1)) (z1rm N) Tryd.func21 (by kernel_rfl) (by decide) (fun _ hb=>TabOk.nil) (fun x y h=>by rw [z19o]; exact h) (z16 (s := (.v (.int .i64))) (m := 1))
def zvs : Code := (Tryd.f66.body).getD .skip
def L_20 : List (List Nat × List Nat) := [([0],[0,1]),([0,0,1],[8,7,1,0]),([0,1,0,1],[8,7,1,0]),([0,0,0,1,0,1],[9,8,1,0,7]),(z1ck,[8,1,0,7]),(zz1,[]),(zz4,[1,0,5,8,7]),([0,1,0,0,1,1,0,0,1,0,1],[16,5,8,7,1,0]),([1,1,0,0,1,1,0,0,1,0,1],[8,7,1,0]),([0,0,1,1,0,0,1,1,0,0,1,0,1],[4]),([1,0,1,1,0,0,1,1,0,0,1,0,1],[4]),(zz0,[8,7,1,0]),(zyz,[8,7,1,0]),([1,0,1],[]),([0,1,1],[4]),([1,1,1],[4])]
def E_20 (N:Nat) : Env := z1d tys glob [] [] [] [] false [] [(76,za N)]
theorem z1rl (N:Nat) : EnvOk Tryd.prog (E_20 N) := zi mixed zn (FnsOk.nil) (ItsOk.cons (zb N) (ItsOk.nil))
def z8a (N:Nat) (s:(List Int)) (v_:Int) (x7:Int) (x8:Int) (rec:Int -> Option Int) (k0:Int -> Option Int) (k1:Option Int) : Option Int :=
 cond (decide (x8 < x7))
 (cond (inR x8 (List.length s))
 (cond (v_ == (List.getD s (Int.toNat x8) (0 : Int)))
 (k0 x8)
 (rec (IntKind.wrap IntKind.i64 (x8 + (1 : Int)))))
 (none))
 (k1)
def zen (N:Nat) (s:(List Int)) (v_:Int) (x7:Int) (x8:Int) (k0:Int -> Option Int) (k1:Option Int) : Option Int :=
 iter (fun (v:Int) r=>z8a N s v_ x7 v (fun x8=>(r x8)) k0 k1) N x8
def z1oj (N:Nat) (i:((List Int) × Int × Int)) (v:Int) (r:Int -> Option Int) (K:Ex -> List A -> Option Int) : Option Int :=
 z8a N i.1 i.2.1 i.2.2 v (fun x8=>(r x8)) (fun a0=>(K .ret (mkS [(4,.v (.int .i64))] 14 (a0,())))) (K (.exit 0) (mkS [] 19 ()))
def z1l4 (N:Nat) : Hd Int := fun st K=>(unS z1p2 10 (restr [8,7,1,0] 0 st)).bind fun x=>iter (fun v r=>z1oj N ((fun x=>(x.1,x.2.1,x.2.2.1)) x) v r K) N ((fun x=>x.2.2.2.1) x)
def t1_20 (N:Nat) : Tab Int := []
theorem z1h8 {N:Nat} {c:Ctx} (hb:Base Tryd.prog (E_20 N) c) : zj Tryd.prog c (zh zvs [0,1,0,1]) (z1l4 N) :=
  z18 (s := z1p2) (m := 10) (z1oj N) [8,7,1,0] N (fun x=>(x.1,x.2.1,x.2.2.1)) (fun x=>x.2.2.2.1) (fun i v=>(i.1,i.2.1,i.2.2,v,())) (fun _=>rfl) (ze hb N (t1_20 N) L_20 zvs TabOk.nil [0,0,1,0,1] _ rfl) (fun i v r K=>by kernel_rfl)
def z6j (N:Nat) (s:(List Int)) (v_:Int) : Option Int :=
 zen N s v_ (((List.length s) : Nat) : Int) (0 : Int)
 (fun x4=>some x4)
 (some (-(1 : Int)))
def t_20 (N:Nat) : Tab Int := [([0,1,0,1],z1l4 N)]
theorem z19n (N:Nat) (x:z13 z1cf) : z4l (E_20 N) N (t_20 N) L_20 Tryd.f66 (mkS z1cf 0 x) (z2v (.v (.int .i64)) 2) = z6j N x.1 x.2.1 := by kernel_rfl
def z7j (N:Nat) : List A -> Res := zz z1cf (fun x=>z6j N x.1 x.2.1) (z70 (.v (.int .i64)) 2)
theorem zeo (N:Nat) : Contract Tryd.prog glob 66 (z7j N) :=
  Contract.of (E := E_20 N) (H := t_20 N) (L := L_20) (N := N) (body := zvs) (K := (z2v (.v (.int .i64)) 2)) (z1rl N) Tryd.func66 (by kernel_rfl) (by decide) (fun _ hb=>(TabOk.cons (z1h8 hb) TabOk.nil)) (fun x y h=>by rw [z19n]; exact h) (z16 (s := (.v (.int .i64))) (m := 2))
def z1al : Code := (Tryd.f48.body).getD .skip
def L_21 : List (List Nat × List Nat) := [([0],[0,1]),([0,0,1],[7,0,1]),([1,0,1],[0,1]),([0,0,1,0,1],[4]),([1,0,1,0,1],[4]),([0,1,1],[4]),([1,1,1],[4])]
def E_21 (N:Nat) : Env := z1d tys glob [(66,z7j N),(20,z7h N)] [] [] [] false [] [(76,za N)]
theorem z1rk (N:Nat) : EnvOk Tryd.prog (E_21 N) := zi mixed zn (FnsOk.cons (zeo N) (FnsOk.cons (zcr N) (FnsOk.nil))) (ItsOk.cons (zb N) (ItsOk.nil))
def zhv (N:Nat) (b:(List Int)) (k:Int) : Option Int :=
 (z62 N b).bind fun y =>
 cond (!y)
 (some (-(1 : Int)))
 ((z6j N b k).bind fun y1 =>
 some y1)
def t_21 (N:Nat) : Tab Int := []
theorem z19m (N:Nat) (x:z13 z1cf) : z4l (E_21 N) N (t_21 N) L_21 Tryd.f48 (mkS z1cf 0 x) (z2v (.v (.int .i64)) 2) = zhv N x.1 x.2.1 := by kernel_rfl
def zgg (N:Nat) : List A -> Res := zz z1cf (fun x=>zhv N x.1 x.2.1) (z70 (.v (.int .i64)) 2)
theorem zpi (N:Nat) : Contract Tryd.prog glob 48 (zgg N) :=
  Contract.of (E := E_21 N) (H := t_21 N) (L := L_21) (N := N) (body := z1al) (K := (z2v (.v (.int .i64)) 2)) (z1rk N) Tryd.func48 (by kernel_rfl) (by decide) (fun _ hb=>TabOk.nil) (fun x y h=>by rw [z19m]; exact h) (z16 (s := (.v (.int .i64))) (m := 2))
def zjy : Code := (Tryd.f24.body).getD .skip
def z1po : List (List Nat × List Nat) := [([0],[1]),([0,1],[1,3]),([0,0,1,1],[23,22,21,3,1]),([0,1,0,1,1],[23,22,21,3,1]),(zxn,[24,21,23,3,22,1]),(zts,[21,23,3,22,1]),(z123,[1,3]),(z124,[3,5,23,22,21,1]),(zz5,[23,22,21,3,1]),(z122,[23,22,21,3,1]),(z121,[23,22,21,3,1]),([1,0,1,1],[1,3]),([0,1,1,1],[6,1,3]),([0,0,1,1,1,1],[44,43,1,6,3]),(zyt,[44,43,1,6,3]),([0,0,0,1,0,1,1,1,1],[45,44,1,6,3,43]),([0,1,0,0,1,0,1,1,1,1],[44,1,6,3,43]),(z14a,[3,6,1]),([0,0,0,1,1,0,0,1,0,1,1,1,1],[1,6,7,3,44,43]),([0,1,0,0,1,1,0,0,1,0,1,1,1,1],[1,6,7,8,3,44,43]),([0,0,1,1,0,0,1,1,0,0,1,0,1,1,1,1],z161),(z1bd,z161),([0,0,0,1,0,1,1,0,0,1,1,0,0,1,0,1,1,1,1],[51,50,48,6,7,8,49,3,44,43,1]),([0,1,0,0,1,0,1,1,0,0,1,1,0,0,1,0,1,1,1,1],[50,48,6,7,8,49,3,44,43,1]),([1,0,1,0,0,1,0,1,1,0,0,1,1,0,0,1,0,1,1,1,1],[3,8,44,43,1,6]),([0,0,0,1,1,0,0,1,0,1,1,0,0,1,1,0,0,1,0,1,1,1,1],[10,6,7,8,9,50,49,48,3,44,43,1]),([0,1,0,0,1,1,0,0,1,0,1,1,0,0,1,1,0,0,1,0,1,1,1,1],[60,8,9,50,49,48,6,7,3,44,43,1]),([1,1,0,0,1,1,0,0,1,0,1,1,0,0,1,1,0,0,1,0,1,1,1,1],z161),([0,1,1,0,0,1,1,0,0,1,0,1,1,0,0,1,1,0,0,1,0,1,1,1,1],z161),([0,1,1,0,0,1,0,1,1,0,0,1,1,0,0,1,0,1,1,1,1],z161),([1,1,1,0,0,1,0,1,1,0,0,1,1,0,0,1,0,1,1,1,1],z161),([1,0,1,1,0,0,1,1,0,0,1,0,1,1,1,1],[3,8,44,43,1,6]),([1,1,1,0,0,1,1,0,0,1,0,1,1,1,1],[44,43,1,6,3]),([0,1,1,0,0,1,0,1,1,1,1],[44,43,1,6,3]),([1,1,1,0,0,1,0,1,1,1,1],[44,43,1,6,3]),([1,0,1,1,1,1],[3,6,1]),([0,1,1,1,1,1],[3]),(zyu,[2]),(zwa,[2])]
def z1cu (N:Nat) : Env := z1d tys glob [(48,zgg N),(21,zag N),(42,zl0 N),(47,zck N),(46,zg8 N)] [(5,(.int .i64)),(6,(.int .i64)),(8,(.int .i64))] [] [] false [(72,.unit),(82,(.own .bool)),(2,(.nb .unit)),(18,zxl),(19,zxl),(83,TT14)] [(76,za N)] [(.nb zxl)]
theorem z1rj (N:Nat) : EnvOk Tryd.prog (z1cu N) := zi mixed zn (FnsOk.cons (zpi N) (FnsOk.cons (zcs N) (FnsOk.cons (zmv N) (FnsOk.cons (zj9 N) (FnsOk.cons (zov N) (FnsOk.nil)))))) (ItsOk.cons (zb N) (ItsOk.nil))
def zea (N:Nat) (p:z8z) (x21:(List (List Int))) (x22:Int) (b:DT0) (x23:Int) (rec:DT0 -> Int -> Option (Option DT0)) (k0:DT0 -> Option (Option DT0)) : Option (Option DT0) :=
 cond (decide (x23 < x22))
 (cond (inR x23 (List.length x21))
 ((z83 N (List.getD x21 (Int.toNat x23) ([] : List Int))).bind fun y =>
 cond (decide ((((List.length b.2.2.1) + 1) * 64) <= 70368744177664))
 (rec (b.1,(b.2.1,((b.2.2.1 ++ ([y] : List (List Int))),b.2.2.2))) (IntKind.wrap IntKind.i64 (x23 + (1 : Int))))
 (none))
 (none))
 (k0 b)
def zly (N:Nat) (p:z8z) (b:DT0) (x21:(List (List Int))) (x22:Int) (x23:Int) (k0:DT0 -> Option (Option DT0)) : Option (Option DT0) :=
 iter (fun (v:(DT0 × Int)) r=>zea N p x21 x22 v.1 v.2 (fun b x23=>(r (b,x23))) k0) N (b,x23)
def z1oi (N:Nat) (i:(z8z × (List (List Int)) × Int)) (v:(DT0 × Int)) (r:(DT0 × Int) -> Option (Option DT0)) (K:Ex -> List A -> Option (Option DT0)) : Option (Option DT0) :=
 zea N i.1 i.2.1 i.2.2 v.1 v.2 (fun b x23=>(r (b,x23))) (fun a1=>(K (.exit 0) (mkS [(1,.box TT2),(1,.box zxl)] 83 (i.1,a1,()))))
def z1l3 (N:Nat) : Hd (Option DT0) := fun st K=>(unS z1pd 63 (restr [23,22,21,3,1] 0 st)).bind fun x=>iter (fun v r=>z1oi N ((fun x=>(x.1,x.2.2.1,x.2.2.2.1)) x) v r K) N ((fun x=>(x.2.1,x.2.2.2.2.1)) x)
def t1_22 (N:Nat) : Tab (Option DT0) := []
theorem z1h7 {N:Nat} {c:Ctx} (hb:Base Tryd.prog (z1cu N) c) : zj Tryd.prog c (zh zjy [0,1,0,1,1]) (z1l3 N) :=
  z18 (s := z1pd) (m := 63) (z1oi N) [23,22,21,3,1] N (fun x=>(x.1,x.2.2.1,x.2.2.2.1)) (fun x=>(x.2.1,x.2.2.2.2.1)) (fun i v=>(i.1,v.1,i.2.1,i.2.2,v.2,())) (fun _=>rfl) (ze hb N (t1_22 N) z1po zjy TabOk.nil [0,0,1,0,1,1] _ rfl) (fun i v r K=>by kernel_rfl)
def ze8 (N:Nat) (p:z8z) (b:DT0) (block:(List Int)) (class_:Int) (x43:Int) (x44:Int) (x48:(List (List Int))) (x49:Int) (readers:(List Int)) (x50:Int) (rec:(List Int) -> Int -> Option (Option DT0)) (k0:(List Int) -> Option (Option DT0)) : Option (Option DT0) :=
 cond (decide (x50 < x49))
 (cond (inR x50 (List.length x48))
 ((zhv N block class_).bind fun y =>
 (zfk N (List.getD x48 (Int.toNat x50) ([] : List Int)) (IntKind.wrap IntKind.u8 y)).bind fun y1 =>
 cond y1
 (cond (decide ((((List.length readers) + 1) * 8) <= 70368744177664))
 (rec (readers ++ ([x50] : List Int)) (IntKind.wrap IntKind.i64 (x50 + (1 : Int))))
 (none))
 (rec readers (IntKind.wrap IntKind.i64 (x50 + (1 : Int)))))
 (none))
 (k0 readers)
def zlw (N:Nat) (p:z8z) (b:DT0) (block:(List Int)) (class_:Int) (readers:(List Int)) (x43:Int) (x44:Int) (x48:(List (List Int))) (x49:Int) (x50:Int) (k0:(List Int) -> Option (Option DT0)) : Option (Option DT0) :=
 iter (fun (v:((List Int) × Int)) r=>ze8 N p b block class_ x43 x44 x48 x49 v.1 v.2 (fun readers x50=>(r (readers,x50))) k0) N (readers,x50)
def z1m9 (N:Nat) (i:(z8z × DT0 × (List Int) × Int × Int × Int × (List (List Int)) × Int)) (v:((List Int) × Int)) (r:((List Int) × Int) -> Option (Option DT0)) (K:Ex -> List A -> Option (Option DT0)) : Option (Option DT0) :=
 ze8 N i.1 i.2.1 i.2.2.1 i.2.2.2.1 i.2.2.2.2.1 i.2.2.2.2.2.1 i.2.2.2.2.2.2.1 i.2.2.2.2.2.2.2 v.1 v.2 (fun readers x50=>(r (readers,x50))) (fun a3=>(K (.exit 4) (mkS [(1,.box TT2),(1,.box zxl),(2,.v (.sl (.int .i64))),(1,.row (.int .i64)),(34,.v (.int .i64)),(0,.v (.int .i64))] 42 (i.1,i.2.1,i.2.2.1,a3,i.2.2.2.2.1,i.2.2.2.2.2.1,()))))
def z1iu (N:Nat) : Hd (Option DT0) := fun st K=>(unS SQ39 36 (restr z161 0 st)).bind fun x=>iter (fun v r=>z1m9 N ((fun x=>(x.1,x.2.1,x.2.2.1,x.2.2.2.1,x.2.2.2.2.2.1,x.2.2.2.2.2.2.1,x.2.2.2.2.2.2.2.1,x.2.2.2.2.2.2.2.2.1)) x) v r K) N ((fun x=>(x.2.2.2.2.1,x.2.2.2.2.2.2.2.2.2.1)) x)
def t3_22 (N:Nat) : Tab (Option DT0) := []
theorem z1ey {N:Nat} {c:Ctx} (hb:Base Tryd.prog (z1cu N) c) : zj Tryd.prog c (zh zjy z1bd) (z1iu N) :=
  z18 (s := SQ39) (m := 36) (z1m9 N) z161 N (fun x=>(x.1,x.2.1,x.2.2.1,x.2.2.2.1,x.2.2.2.2.2.1,x.2.2.2.2.2.2.1,x.2.2.2.2.2.2.2.1,x.2.2.2.2.2.2.2.2.1)) (fun x=>(x.2.2.2.2.1,x.2.2.2.2.2.2.2.2.2.1)) (fun i v=>(i.1,i.2.1,i.2.2.1,i.2.2.2.1,v.1,i.2.2.2.2.1,i.2.2.2.2.2.1,i.2.2.2.2.2.2.1,i.2.2.2.2.2.2.2,v.2,())) (fun _=>rfl) (ze hb N (t3_22 N) z1po zjy TabOk.nil [0,0,1,0,1,1,0,0,1,1,0,0,1,0,1,1,1,1] _ rfl) (fun i v r K=>by kernel_rfl)
def ze9 (N:Nat) (p:z8z) (block:(List Int)) (x43:Int) (b:DT0) (x44:Int) (rec:DT0 -> Int -> Option (Option DT0)) (k0:DT0 -> Option (Option DT0)) : Option (Option DT0) :=
 cond (decide (x44 < x43))
 (zlw N p b block x44 ([] : List Int) x43 x44 p.1 (((List.length p.1) : Nat) : Int) (0 : Int)
 (fun readers=>(z83 N readers).bind fun y =>
 cond (decide ((((List.length b.2.2.2.1) + 1) * 64) <= 70368744177664))
 (rec (b.1,(b.2.1,(b.2.2.1,((b.2.2.2.1 ++ ([y] : List (List Int))),b.2.2.2.2)))) (IntKind.wrap IntKind.i64 (x44 + (1 : Int))))
 (none)))
 (k0 b)
def zlx (N:Nat) (p:z8z) (b:DT0) (block:(List Int)) (x43:Int) (x44:Int) (k0:DT0 -> Option (Option DT0)) : Option (Option DT0) :=
 iter (fun (v:(DT0 × Int)) r=>ze9 N p block x43 v.1 v.2 (fun b x44=>(r (b,x44))) k0) N (b,x44)
def z1mz (N:Nat) (i:(z8z × (List Int) × Int)) (v:(DT0 × Int)) (r:(DT0 × Int) -> Option (Option DT0)) (K:Ex -> List A -> Option (Option DT0)) : Option (Option DT0) :=
 ze9 N i.1 i.2.1 i.2.2 v.1 v.2 (fun b x44=>(r (b,x44))) (fun a1=>(K (.exit 2) (mkS [(1,.box TT2),(1,.box zxl),(2,.v (.sl (.int .i64)))] 80 (i.1,a1,i.2.1,()))))
def z1jk (N:Nat) : Hd (Option DT0) := fun st K=>(unS z1pa 42 (restr [44,43,1,6,3] 0 st)).bind fun x=>iter (fun v r=>z1mz N ((fun x=>(x.1,x.2.2.1,x.2.2.2.1)) x) v r K) N ((fun x=>(x.2.1,x.2.2.2.2.1)) x)
def t2_22 (N:Nat) : Tab (Option DT0) := [(z1bd,z1iu N)]
theorem z1fo {N:Nat} {c:Ctx} (hb:Base Tryd.prog (z1cu N) c) : zj Tryd.prog c (zh zjy zyt) (z1jk N) :=
  z18 (s := z1pa) (m := 42) (z1mz N) [44,43,1,6,3] N (fun x=>(x.1,x.2.2.1,x.2.2.2.1)) (fun x=>(x.2.1,x.2.2.2.2.1)) (fun i v=>(i.1,v.1,i.2.1,i.2.2,v.2,())) (fun _=>rfl) (ze hb N (t2_22 N) z1po zjy (TabOk.cons (z1ey hb) TabOk.nil) zwc _ rfl) (fun i v r K=>by kernel_rfl)
def zdj (N:Nat) (p:z8z) : Option (Option DT0) :=
 (z83 N p.2.2.1).bind fun y =>
 (z83 N p.2.2.2.1).bind fun y1 =>
 zly N p (y,(y1,(([] : List (List Int)),(([] : List (List Int)),((Option.some ([] : List ((List Int) × Int))),(([] : List (List Int)),(((0 : Int),(([] : List Bool),(([] : List Int),(([] : List (List Int)),())))),()))))))) p.2.2.2.2.1 (((List.length p.2.2.2.2.1) : Nat) : Int) (0 : Int)
 (fun b=>(zeh N p.1).bind fun y2 =>
 (z3y N y2).bind fun y3 =>
 zlx N p b y2 y3 (0 : Int)
 (fun b1=>some (Option.some (b1.1,(b1.2.1,(b1.2.2.1,(b1.2.2.2.1,(b1.2.2.2.2.1,(b1.2.2.2.2.2.1,(((0 : Int),(([p.2.1] : List Bool),(y2,(([] : List (List Int)),())))),b1.2.2.2.2.2.2.2))))))))))
def t_22 (N:Nat) : Tab (Option DT0) := [([0,1,0,1,1],z1l3 N),(zyt,z1jk N)]
theorem z19l (N:Nat) (x:z13 [(0,.v TT2)]) : z4l (z1cu N) N (t_22 N) z1po Tryd.f24 (mkS [(0,.v TT2)] 0 x) (z2v (.ov (.nb zxl)) 1) = zdj N x.1 := by kernel_rfl
def zd7 (N:Nat) : List A -> Res := zz [(0,.v TT2)] (fun x=>zdj N x.1) (z70 (.ov (.nb zxl)) 1)
theorem zlz (N:Nat) : Contract Tryd.prog glob 24 (zd7 N) :=
  Contract.of (E := z1cu N) (H := t_22 N) (L := z1po) (N := N) (body := zjy) (K := (z2v (.ov (.nb zxl)) 1)) (z1rj N) Tryd.func24 (by kernel_rfl) (by decide) (fun _ hb=>(TabOk.cons (z1h7 hb) (TabOk.cons (z1fo hb) TabOk.nil))) (fun x y h=>by rw [z19l]; exact h) (z16 (s := (.ov (.nb zxl))) (m := 1))
def zcl : Code := (Tryd.f7.body).getD .skip
def z1bj : List (List Nat × List Nat) := [([0],[1]),([0,1],[3,1]),([0,0,1,1],[30,1,3]),([1,0,1,1],[1,3]),([0,0,1,0,1,1],[2]),([1,0,1,0,1,1],[2]),([0,1,1,1],[1,4,3]),([0,0,1,1,1,1],ztu),(zyt,ztu),([0,0,0,1,0,1,1,1,1],[38,35,37,4,3,36,1]),([0,1,0,0,1,0,1,1,1,1],[35,37,4,3,36,1]),(z14a,[1,3]),([0,0,0,1,1,0,0,1,0,1,1,1,1],[6,4,3,37,36,35,1]),([0,0,1,0,0,1,1,0,0,1,0,1,1,1,1],[44,6,3,37,36,35,4,1]),([1,0,1,0,0,1,1,0,0,1,0,1,1,1,1],[6,3,37,36,35,4,1]),([0,0,1,0,1,0,0,1,1,0,0,1,0,1,1,1,1],[2]),([1,0,1,0,1,0,0,1,1,0,0,1,0,1,1,1,1],[2]),([0,1,1,0,0,1,1,0,0,1,0,1,1,1,1],z1b4),(z1bb,z1b4),([0,0,0,1,1,1,0,0,1,1,0,0,1,0,1,1,1,1],[48,45,47,3,46,37,36,35,4,1]),([0,1,0,0,1,1,1,0,0,1,1,0,0,1,0,1,1,1,1],[45,47,3,46,37,36,35,4,1]),([1,0,1,0,0,1,1,1,0,0,1,1,0,0,1,0,1,1,1,1],ztu),([0,0,0,1,1,0,0,1,1,1,0,0,1,1,0,0,1,0,1,1,1,1],[8,3,47,46,45,37,36,35,4,1]),(PQ80,[57,47,46,45,3,37,36,35,4,1]),([1,1,0,0,1,1,0,0,1,1,1,0,0,1,1,0,0,1,0,1,1,1,1],z1b4),([0,0,1,1,0,0,1,1,0,0,1,1,1,0,0,1,1,0,0,1,0,1,1,1,1],[2]),([1,0,1,1,0,0,1,1,0,0,1,1,1,0,0,1,1,0,0,1,0,1,1,1,1],[2]),([0,1,1,0,0,1,1,1,0,0,1,1,0,0,1,0,1,1,1,1],z1b4),([1,1,1,0,0,1,1,1,0,0,1,1,0,0,1,0,1,1,1,1],z1b4),([1,1,1,0,0,1,1,0,0,1,0,1,1,1,1],ztu),([0,1,1,0,0,1,0,1,1,1,1],ztu),([1,1,1,0,0,1,0,1,1,1,1],ztu),([1,0,1,1,1,1],[1,3]),([0,1,1,1,1,1],[2]),([1,1,1,1,1,1],[2])]
def z167 (N:Nat) : Env := z1d tys glob [(21,zag N),(20,z7h N)] [] [] [] false [] [(76,za N)]
theorem z1ri (N:Nat) : EnvOk Tryd.prog (z167 N) := zi mixed zn (FnsOk.cons (zcs N) (FnsOk.cons (zcr N) (FnsOk.nil))) (ItsOk.cons (zb N) (ItsOk.nil))
def zhj (N:Nat) (d:DT8) (states:Int) (k0:Bool -> Option Bool) : Option Bool :=
 cond (decide (states < (1 : Int)))
 (k0 true)
 (cond (decide ((4096 : Int) < states))
 (k0 true)
 (cond ((((List.length d.2.1) : Nat) : Int) != states)
 (k0 true)
 ((z62 N d.2.2.1).bind fun y =>
 k0 (!y))))
def z1my (N:Nat) (x:z13 z12i) (K:Ex -> List A -> Option Bool) : Option Bool :=
 zhj N x.1 x.2.1 (fun a2=>(K .normal (mkS [(1,.box TT6),(1,.v (.int .i64)),(26,.v .bool)] 38 (x.1,x.2.1,a2,()))))
def z1jj (N:Nat) : Hd Bool := fun st K=>(unS z12i 65 (restr [3,1] 0 st)).bind fun x=>z1my N x K
def t2_23 (N:Nat) : Tab Bool := []
theorem z1fn {N:Nat} {c:Ctx} (hb:Base Tryd.prog (z167 N) c) : zj Tryd.prog c (zh zcl [0,0,1,1]) (z1jj N) :=
  zl (s := z12i) (m := 65) (g := z1my N) [3,1] (ze hb N (t2_23 N) z1bj zcl TabOk.nil [0,0,1,1] _ rfl) (fun x K=>by kernel_rfl)
def zhk (N:Nat) (d:DT8) (states:Int) (k0:Bool -> Option Bool) (k1:Option Bool) : Option Bool :=
 zhj N d states
 (fun x30=>cond x30
 (k0 false)
 (k1))
def z1oh (N:Nat) (x:z13 z12i) (K:Ex -> List A -> Option Bool) : Option Bool :=
 zhk N x.1 x.2.1 (fun a0=>(K .ret (mkS [(2,.v .bool)] 66 (a0,())))) (K .normal (mkS z12i 65 (x.1,x.2.1,())))
def z1l2 (N:Nat) : Hd Bool := fun st K=>(unS z12i 65 (restr [3,1] 0 st)).bind fun x=>z1oh N x K
def t1_23 (N:Nat) : Tab Bool := [([0,0,1,1],z1jj N)]
theorem z1h6 {N:Nat} {c:Ctx} (hb:Base Tryd.prog (z167 N) c) : zj Tryd.prog c (zh zcl [0,1,1]) (z1l2 N) :=
  zl (s := z12i) (m := 65) (g := z1oh N) [3,1] (ze hb N (t1_23 N) z1bj zcl (TabOk.cons (z1fn hb) TabOk.nil) [0,1,1] _ rfl) (fun x K=>by kernel_rfl)
def zhi (N:Nat) (d:DT8) (states:Int) (classes:Int) (state:Int) (x35:(List (List Int))) (x36:Int) (x37:Int) (x45:(List Int)) (x46:Int) (x47:Int) (k0:Bool -> Option Bool) : Option Bool :=
 cond (decide (state < (0 : Int)))
 (k0 true)
 (k0 (decide (states <= state)))
def z1lj (N:Nat) (x:z13 SQ25) (K:Ex -> List A -> Option Bool) : Option Bool :=
 zhi N x.1 x.2.1 x.2.2.1 x.2.2.2.1 x.2.2.2.2.1 x.2.2.2.2.2.1 x.2.2.2.2.2.2.1 x.2.2.2.2.2.2.2.1 x.2.2.2.2.2.2.2.2.1 x.2.2.2.2.2.2.2.2.2.1 (fun a9=>(K .normal (mkS [(1,.box TT6),(1,.v (.int .i64)),(0,.v (.int .i64)),(30,.v (.sl (.sl (.int .i64)))),(0,.v (.int .i64)),(0,.v (.int .i64)),(7,.v (.sl (.int .i64))),(0,.v (.int .i64)),(0,.v (.int .i64)),(9,.v .bool)] 11 (x.1,x.2.1,x.2.2.1,x.2.2.2.2.1,x.2.2.2.2.2.1,x.2.2.2.2.2.2.1,x.2.2.2.2.2.2.2.1,x.2.2.2.2.2.2.2.2.1,x.2.2.2.2.2.2.2.2.2.1,a9,()))))
def z1i4 (N:Nat) : Hd Bool := fun st K=>(unS SQ25 21 (restr [8,3,47,46,45,37,36,35,4,1] 0 st)).bind fun x=>z1lj N x K
def t5_23 (N:Nat) : Tab Bool := []
theorem z1e8 {N:Nat} {c:Ctx} (hb:Base Tryd.prog (z167 N) c) : zj Tryd.prog c (zh zcl PQ80) (z1i4 N) :=
  zl (s := SQ25) (m := 21) (g := z1lj N) [8,3,47,46,45,37,36,35,4,1] (ze hb N (t5_23 N) z1bj zcl TabOk.nil PQ80 _ rfl) (fun x K=>by kernel_rfl)
def zda (N:Nat) (d:DT8) (states:Int) (classes:Int) (x35:(List (List Int))) (x36:Int) (x37:Int) (x45:(List Int)) (x46:Int) (x47:Int) (rec:Int -> Option Bool) (k0:Bool -> Option Bool) (k1:Option Bool) : Option Bool :=
 cond (decide (x47 < x46))
 (cond (inR x47 (List.length x45))
 (zhi N d states classes (List.getD x45 (Int.toNat x47) (0 : Int)) x35 x36 x37 x45 x46 x47
 (fun x57=>cond x57
 (k0 false)
 (rec (IntKind.wrap IntKind.i64 (x47 + (1 : Int))))))
 (none))
 (k1)
def zmo (N:Nat) (d:DT8) (states:Int) (classes:Int) (x35:(List (List Int))) (x36:Int) (x37:Int) (x45:(List Int)) (x46:Int) (x47:Int) (k0:Bool -> Option Bool) (k1:Option Bool) : Option Bool :=
 iter (fun (v:Int) r=>zda N d states classes x35 x36 x37 x45 x46 v (fun x47=>(r x47)) k0 k1) N x47
def z1lu (N:Nat) (i:(DT8 × Int × Int × (List (List Int)) × Int × Int × (List Int) × Int)) (v:Int) (r:Int -> Option Bool) (K:Ex -> List A -> Option Bool) : Option Bool :=
 zda N i.1 i.2.1 i.2.2.1 i.2.2.2.1 i.2.2.2.2.1 i.2.2.2.2.2.1 i.2.2.2.2.2.2.1 i.2.2.2.2.2.2.2 v (fun x47=>(r x47)) (fun a0=>(K .ret (mkS [(2,.v .bool)] 66 (a0,())))) (K (.exit 2) (mkS SQ44 31 (i.1,i.2.1,i.2.2.1,i.2.2.2.1,i.2.2.2.2.1,i.2.2.2.2.2.1,())))
def z1if (N:Nat) : Hd Bool := fun st K=>(unS SQ42 21 (restr z1b4 0 st)).bind fun x=>iter (fun v r=>z1lu N ((fun x=>(x.1,x.2.1,x.2.2.1,x.2.2.2.1,x.2.2.2.2.1,x.2.2.2.2.2.1,x.2.2.2.2.2.2.1,x.2.2.2.2.2.2.2.1)) x) v r K) N ((fun x=>x.2.2.2.2.2.2.2.2.1) x)
def t4_23 (N:Nat) : Tab Bool := [(PQ80,z1i4 N)]
theorem z1ej {N:Nat} {c:Ctx} (hb:Base Tryd.prog (z167 N) c) : zj Tryd.prog c (zh zcl z1bb) (z1if N) :=
  z18 (s := SQ42) (m := 21) (z1lu N) z1b4 N (fun x=>(x.1,x.2.1,x.2.2.1,x.2.2.2.1,x.2.2.2.2.1,x.2.2.2.2.2.1,x.2.2.2.2.2.2.1,x.2.2.2.2.2.2.2.1)) (fun x=>x.2.2.2.2.2.2.2.2.1) (fun i v=>(i.1,i.2.1,i.2.2.1,i.2.2.2.1,i.2.2.2.2.1,i.2.2.2.2.2.1,i.2.2.2.2.2.2.1,i.2.2.2.2.2.2.2,v,())) (fun _=>rfl) (ze hb N (t4_23 N) z1bj zcl (TabOk.cons (z1e8 hb) TabOk.nil) [0,0,1,1,1,0,0,1,1,0,0,1,0,1,1,1,1] _ rfl) (fun i v r K=>by kernel_rfl)
def zdb (N:Nat) (d:DT8) (states:Int) (classes:Int) (x35:(List (List Int))) (x36:Int) (x37:Int) (rec:Int -> Option Bool) (k0:Bool -> Option Bool) (k1:Option Bool) : Option Bool :=
 cond (decide (x37 < x36))
 (cond (inR x37 (List.length x35))
 (cond ((((List.length (List.getD x35 (Int.toNat x37) ([] : List Int))) : Nat) : Int) != classes)
 (k0 false)
 (zmo N d states classes x35 x36 x37 (List.getD x35 (Int.toNat x37) ([] : List Int)) (((List.length (List.getD x35 (Int.toNat x37) ([] : List Int))) : Nat) : Int) (0 : Int)
 (fun x2=>k0 x2)
 (rec (IntKind.wrap IntKind.i64 (x37 + (1 : Int))))))
 (none))
 (k1)
def zmp (N:Nat) (d:DT8) (states:Int) (classes:Int) (x35:(List (List Int))) (x36:Int) (x37:Int) (k0:Bool -> Option Bool) (k1:Option Bool) : Option Bool :=
 iter (fun (v:Int) r=>zdb N d states classes x35 x36 v (fun x37=>(r x37)) k0 k1) N x37
def z1m8 (N:Nat) (i:(DT8 × Int × Int × (List (List Int)) × Int)) (v:Int) (r:Int -> Option Bool) (K:Ex -> List A -> Option Bool) : Option Bool :=
 zdb N i.1 i.2.1 i.2.2.1 i.2.2.2.1 i.2.2.2.2 v (fun x37=>(r x37)) (fun a0=>(K .ret (mkS [(2,.v .bool)] 66 (a0,())))) (K (.exit 0) (mkS z12i 65 (i.1,i.2.1,())))
def z1it (N:Nat) : Hd Bool := fun st K=>(unS SQ44 31 (restr ztu 0 st)).bind fun x=>iter (fun v r=>z1m8 N ((fun x=>(x.1,x.2.1,x.2.2.1,x.2.2.2.1,x.2.2.2.2.1)) x) v r K) N ((fun x=>x.2.2.2.2.2.1) x)
def t3_23 (N:Nat) : Tab Bool := [(z1bb,z1if N)]
theorem z1ex {N:Nat} {c:Ctx} (hb:Base Tryd.prog (z167 N) c) : zj Tryd.prog c (zh zcl zyt) (z1it N) :=
  z18 (s := SQ44) (m := 31) (z1m8 N) ztu N (fun x=>(x.1,x.2.1,x.2.2.1,x.2.2.2.1,x.2.2.2.2.1)) (fun x=>x.2.2.2.2.2.1) (fun i v=>(i.1,i.2.1,i.2.2.1,i.2.2.2.1,i.2.2.2.2,v,())) (fun _=>rfl) (ze hb N (t3_23 N) z1bj zcl (TabOk.cons (z1ej hb) TabOk.nil) zwc _ rfl) (fun i v r K=>by kernel_rfl)
def zec (N:Nat) (d:DT8) : Option Bool :=
 zhk N d (((List.length d.2.2.2.1) : Nat) : Int)
 (fun x2=>some x2)
 ((z3y N d.2.2.1).bind fun y =>
 zmp N d (((List.length d.2.2.2.1) : Nat) : Int) y d.2.2.2.1 (((List.length d.2.2.2.1) : Nat) : Int) (0 : Int)
 (fun x21=>some x21)
 (cond (decide ((0 : Int) <= d.1))
 (some (decide (d.1 < (((List.length d.2.2.2.1) : Nat) : Int))))
 (some false)))
def t_23 (N:Nat) : Tab Bool := [([0,1,1],z1l2 N),(zyt,z1it N)]
theorem z19k (N:Nat) (x:z13 [(0,.v TT6)]) : z4l (z167 N) N (t_23 N) z1bj Tryd.f7 (mkS [(0,.v TT6)] 0 x) (z2v (.v .bool) 1) = zec N x.1 := by kernel_rfl
def zfi (N:Nat) : List A -> Res := zz [(0,.v TT6)] (fun x=>zec N x.1) (z70 (.v .bool) 1)
theorem zmq (N:Nat) : Contract Tryd.prog glob 7 (zfi N) :=
  Contract.of (E := z167 N) (H := t_23 N) (L := z1bj) (N := N) (body := zcl) (K := (z2v (.v .bool) 1)) (z1ri N) Tryd.func7 (by kernel_rfl) (by decide) (fun _ hb=>(TabOk.cons (z1h6 hb) (TabOk.cons (z1ex hb) TabOk.nil))) (fun x y h=>by rw [z19k]; exact h) (z16 (s := (.v .bool)) (m := 1))
def zvr : Code := (Tryd.f9.body).getD .skip
def L_24 : List (List Nat × List Nat) := [([0],[2,1]),([0,0,1],[9,2,1]),([1,0,1],[2,1]),([0,0,1,0,1],[4]),([1,0,1,0,1],[4]),([0,1,1],[1,2,5]),([0,0,1,1,1],[14,13,2,5,1]),([0,1,0,1,1,1],[14,13,2,5,1]),(zwb,[15,14,2,5,1,13]),(zzh,[14,2,5,1,13]),(zwe,[5]),(zz7,[2,5,1,6,14,13]),([1,0,0,1,1,0,0,1,0,1,1,1],[14,13,2,5,1]),(zz3,[14,13,2,5,1]),(zz2,[14,13,2,5,1]),([1,0,1,1,1],[5]),([0,1,1,1,1],[4]),([1,1,1,1,1],[4])]
def E_24 (N:Nat) : Env := z1d tys glob [(7,zfi N)] [] [] [] false [] [(76,za N)]
theorem z1rh (N:Nat) : EnvOk Tryd.prog (E_24 N) := zi mixed zn (FnsOk.cons (zmq N) (FnsOk.nil)) (ItsOk.cons (zb N) (ItsOk.nil))
def zd9 (N:Nat) (s:(List UInt8)) (d:DT8) (x13:Int) (state:Int) (x14:Int) (rec:Int -> Int -> Option Int) (k0:Int -> Option Int) : Option Int :=
 cond (decide (x14 < x13))
 (cond (inR state (List.length d.2.2.2.1))
 (cond (inR x14 (List.length s))
 (cond (inR (((UInt8.toNat (List.getD s (Int.toNat x14) (0 : UInt8))) : Nat) : Int) (List.length d.2.2.1))
 (cond (inR (List.getD d.2.2.1 (Int.toNat (((UInt8.toNat (List.getD s (Int.toNat x14) (0 : UInt8))) : Nat) : Int)) (0 : Int)) (List.length (List.getD d.2.2.2.1 (Int.toNat state) ([] : List Int))))
 (rec (List.getD (List.getD d.2.2.2.1 (Int.toNat state) ([] : List Int)) (Int.toNat (List.getD d.2.2.1 (Int.toNat (((UInt8.toNat (List.getD s (Int.toNat x14) (0 : UInt8))) : Nat) : Int)) (0 : Int))) (0 : Int)) (IntKind.wrap IntKind.i64 (x14 + (1 : Int))))
 (none))
 (none))
 (none))
 (none))
 (k0 state)
def zmm (N:Nat) (s:(List UInt8)) (d:DT8) (state:Int) (x13:Int) (x14:Int) (k0:Int -> Option Int) : Option Int :=
 iter (fun (v:(Int × Int)) r=>zd9 N s d x13 v.1 v.2 (fun state x14=>(r (state,x14))) k0) N (state,x14)
def z1og (N:Nat) (i:((List UInt8) × DT8 × Int)) (v:(Int × Int)) (r:(Int × Int) -> Option Int) (K:Ex -> List A -> Option Int) : Option Int :=
 zd9 N i.1 i.2.1 i.2.2 v.1 v.2 (fun state x14=>(r (state,x14))) (fun a0=>(K (.exit 0) (mkS [(5,.v (.int .i64))] 27 (a0,()))))
def z1l1 (N:Nat) : Hd Int := fun st K=>(unS z1p5 18 (restr [14,13,2,5,1] 0 st)).bind fun x=>iter (fun v r=>z1og N ((fun x=>(x.1,x.2.1,x.2.2.2.1)) x) v r K) N ((fun x=>(x.2.2.1,x.2.2.2.2.1)) x)
def t1_24 (N:Nat) : Tab Int := []
theorem z1h5 {N:Nat} {c:Ctx} (hb:Base Tryd.prog (E_24 N) c) : zj Tryd.prog c (zh zvr [0,1,0,1,1,1]) (z1l1 N) :=
  z18 (s := z1p5) (m := 18) (z1og N) [14,13,2,5,1] N (fun x=>(x.1,x.2.1,x.2.2.2.1)) (fun x=>(x.2.2.1,x.2.2.2.2.1)) (fun i v=>(i.1,i.2.1,v.1,i.2.2,v.2,())) (fun _=>rfl) (ze hb N (t1_24 N) L_24 zvr TabOk.nil ztr _ rfl) (fun i v r K=>by kernel_rfl)
def zeb (N:Nat) (d:DT8) (s:(List UInt8)) : Option Int :=
 (zec N d).bind fun y =>
 cond (!y)
 (some (-(1 : Int)))
 (zmm N s d d.1 (((List.length s) : Nat) : Int) (0 : Int)
 (fun state=>some state))
def t_24 (N:Nat) : Tab Int := [([0,1,0,1,1,1],z1l1 N)]
theorem z19j (N:Nat) (x:z13 zw1) : z4l (E_24 N) N (t_24 N) L_24 Tryd.f9 (mkS zw1 0 x) (z2v (.v (.int .i64)) 2) = zeb N x.1 x.2.1 := by kernel_rfl
def zfg (N:Nat) : List A -> Res := zz zw1 (fun x=>zeb N x.1 x.2.1) (z70 (.v (.int .i64)) 2)
theorem zmn (N:Nat) : Contract Tryd.prog glob 9 (zfg N) :=
  Contract.of (E := E_24 N) (H := t_24 N) (L := L_24) (N := N) (body := zvr) (K := (z2v (.v (.int .i64)) 2)) (z1rh N) Tryd.func9 (by kernel_rfl) (by decide) (fun _ hb=>(TabOk.cons (z1h5 hb) TabOk.nil)) (fun x y h=>by rw [z19j]; exact h) (z16 (s := (.v (.int .i64))) (m := 2))
def z1ak : Code := (Tryd.f11.body).getD .skip
def L_25 : List (List Nat × List Nat) := [([0],[2,1]),([0,1],[5,2]),([0,1,1],[4]),([1,1,1],[4])]
def E_25 (N:Nat) : Env := z1d tys glob [(9,zfg N)] [] [] [] false [] [(76,za N)]
theorem z1rg (N:Nat) : EnvOk Tryd.prog (E_25 N) := zi mixed zn (FnsOk.cons (zmn N) (FnsOk.nil)) (ItsOk.cons (zb N) (ItsOk.nil))
def zfh (N:Nat) (d:DT8) (s:(List UInt8)) : Option Bool :=
 (zeb N d s).bind fun y =>
 cond (decide ((0 : Int) <= y))
 (cond (inR y (List.length d.2.1))
 (some (List.getD d.2.1 (Int.toNat y) false))
 (none))
 (some false)
def t_25 (N:Nat) : Tab Bool := []
theorem z19i (N:Nat) (x:z13 zw1) : z4l (E_25 N) N (t_25 N) L_25 Tryd.f11 (mkS zw1 0 x) (z2v (.v .bool) 2) = zfh N x.1 x.2.1 := by kernel_rfl
def zjv (N:Nat) : List A -> Res := zz zw1 (fun x=>zfh N x.1 x.2.1) (z70 (.v .bool) 2)
theorem zqv (N:Nat) : Contract Tryd.prog glob 11 (zjv N) :=
  Contract.of (E := E_25 N) (H := t_25 N) (L := L_25) (N := N) (body := z1ak) (K := (z2v (.v .bool) 2)) (z1rg N) Tryd.func11 (by kernel_rfl) (by decide) (fun _ hb=>TabOk.nil) (fun x y h=>by rw [z19i]; exact h) (z16 (s := (.v .bool)) (m := 2))
def zfs : Code := (Tryd.f44.body).getD .skip
def z1cq : List (List Nat × List Nat) := [([0],[0]),([0,0,1],[7,0]),([1,0,1],[0]),([0,0,1,0,1],[2]),([1,0,1,0,1],[2]),([0,1,1],[0,3]),([0,0,1,1,1],[4,0,3]),([0,1,0,1,1,1],[4,0,3]),(z1b9,[9,0,4,3]),(z1b8,[0,4,3]),(z1bc,[]),(z14b,[25,0,4,3]),([1,0,0,0,1,0,0,1,0,1,1,1],[0,4,3]),([0,0,1,0,0,0,1,0,0,1,0,1,1,1],[2]),([1,0,1,0,0,0,1,0,0,1,0,1,1,1],[2]),(PQ191,[31,0,4,3]),([1,1,0,0,1,0,0,1,0,1,1,1],[4,0,3]),(PQ170,[4,0,3]),(zzh,[4,0,3]),(z1b7,[4,0,3]),([1,0,1,1,1],[]),([0,1,1,1,1],[2]),([1,1,1,1,1],[2])]
def z1by (N:Nat) : Env := z1d tys glob [] [] [] [] false [] [(76,za N)]
theorem z1rf (N:Nat) : EnvOk Tryd.prog (z1by N) := zi mixed zn (FnsOk.nil) (ItsOk.cons (zb N) (ItsOk.nil))
def z6r (N:Nat) (b:(List Int)) (top:Int) (i:Int) (k0:Bool -> Option Bool) : Option Bool :=
 cond (inR i (List.length b))
 (cond (decide ((List.getD b (Int.toNat i) (0 : Int)) < (0 : Int)))
 (k0 true)
 (cond (inR i (List.length b))
 (k0 (decide ((IntKind.wrap IntKind.i64 (top + (1 : Int))) < (List.getD b (Int.toNat i) (0 : Int)))))
 (none)))
 (none)
def z1lt (N:Nat) (x:z13 SQ5) (K:Ex -> List A -> Option Bool) : Option Bool :=
 z6r N x.1 x.2.1 x.2.2.1 (fun a3=>(K .normal (mkS [(0,.v (.sl (.int .i64))),(2,.v (.int .i64)),(0,.v (.int .i64)),(20,.v .bool)] 10 (x.1,x.2.1,x.2.2.1,a3,()))))
def z1ie (N:Nat) : Hd Bool := fun st K=>(unS SQ5 31 (restr [0,4,3] 0 st)).bind fun x=>z1lt N x K
def t4_26 (N:Nat) : Tab Bool := []
theorem z1ei {N:Nat} {c:Ctx} (hb:Base Tryd.prog (z1by N) c) : zj Tryd.prog c (zh zfs z14b) (z1ie N) :=
  zl (s := SQ5) (m := 31) (g := z1lt N) [0,4,3] (ze hb N (t4_26 N) z1cq zfs TabOk.nil z14b _ rfl) (fun x K=>by kernel_rfl)
def z6s (N:Nat) (b:(List Int)) (top:Int) (i:Int) (k0:Bool -> Option Bool) (k1:Option Bool) : Option Bool :=
 z6r N b top i
 (fun x25=>cond x25
 (k0 false)
 (k1))
def z1m7 (N:Nat) (x:z13 SQ5) (K:Ex -> List A -> Option Bool) : Option Bool :=
 z6s N x.1 x.2.1 x.2.2.1 (fun a0=>(K .ret (mkS [(2,.v .bool)] 33 (a0,())))) (K .normal (mkS SQ5 31 (x.1,x.2.1,x.2.2.1,())))
def z1is (N:Nat) : Hd Bool := fun st K=>(unS SQ5 31 (restr [0,4,3] 0 st)).bind fun x=>z1m7 N x K
def t3_26 (N:Nat) : Tab Bool := [(z14b,z1ie N)]
theorem z1ew {N:Nat} {c:Ctx} (hb:Base Tryd.prog (z1by N) c) : zj Tryd.prog c (zh zfs z1be) (z1is N) :=
  zl (s := SQ5) (m := 31) (g := z1m7 N) [0,4,3] (ze hb N (t3_26 N) z1cq zfs (TabOk.cons (z1ei hb) TabOk.nil) z1be _ rfl) (fun x K=>by kernel_rfl)
def z6t (N:Nat) (b:(List Int)) (top:Int) (i:Int) (k0:Bool -> Option Bool) (k1:Int -> Option Bool) : Option Bool :=
 z6s N b top i
 (fun x2=>k0 x2)
 (cond (inR i (List.length b))
 (cond (decide (top < (List.getD b (Int.toNat i) (0 : Int))))
 (cond (inR i (List.length b))
 (k1 (List.getD b (Int.toNat i) (0 : Int)))
 (none))
 (k1 top))
 (none))
def z1mx (N:Nat) (x:z13 SQ5) (K:Ex -> List A -> Option Bool) : Option Bool :=
 z6t N x.1 x.2.1 x.2.2.1 (fun a0=>(K .ret (mkS [(2,.v .bool)] 33 (a0,())))) (fun a1=>(K .normal (mkS SQ5 31 (x.1,a1,x.2.2.1,()))))
def z1ji (N:Nat) : Hd Bool := fun st K=>(unS SQ5 31 (restr [0,4,3] 0 st)).bind fun x=>z1mx N x K
def t2_26 (N:Nat) : Tab Bool := [(z1be,z1is N)]
theorem z1fm {N:Nat} {c:Ctx} (hb:Base Tryd.prog (z1by N) c) : zj Tryd.prog c (zh zfs zzh) (z1ji N) :=
  zl (s := SQ5) (m := 31) (g := z1mx N) [0,4,3] (ze hb N (t2_26 N) z1cq zfs (TabOk.cons (z1ew hb) TabOk.nil) zzh _ rfl) (fun x K=>by kernel_rfl)
def z4e (N:Nat) (b:(List Int)) (top:Int) (i:Int) (rec:Int -> Int -> Option Bool) (k0:Bool -> Option Bool) (k1:Option Bool) : Option Bool :=
 cond (decide (i < (256 : Int)))
 (z6t N b top i
 (fun x2=>k0 x2)
 (fun top1=>rec top1 (IntKind.wrap IntKind.i64 (i + (1 : Int)))))
 (k1)
def zb5 (N:Nat) (b:(List Int)) (top:Int) (i:Int) (k0:Bool -> Option Bool) (k1:Option Bool) : Option Bool :=
 iter (fun (v:(Int × Int)) r=>z4e N b v.1 v.2 (fun top i=>(r (top,i))) k0 k1) N (top,i)
def z1of (N:Nat) (i:(List Int)) (v:(Int × Int)) (r:(Int × Int) -> Option Bool) (K:Ex -> List A -> Option Bool) : Option Bool :=
 z4e N i v.1 v.2 (fun top i=>(r (top,i))) (fun a0=>(K .ret (mkS [(2,.v .bool)] 33 (a0,())))) (K (.exit 0) (mkS [] 36 ()))
def z1l0 (N:Nat) : Hd Bool := fun st K=>(unS SQ5 31 (restr [4,0,3] 0 st)).bind fun x=>iter (fun v r=>z1of N ((fun x=>x.1) x) v r K) N ((fun x=>(x.2.1,x.2.2.1)) x)
def t1_26 (N:Nat) : Tab Bool := [(zzh,z1ji N)]
theorem z1h4 {N:Nat} {c:Ctx} (hb:Base Tryd.prog (z1by N) c) : zj Tryd.prog c (zh zfs [0,1,0,1,1,1]) (z1l0 N) :=
  z18 (s := SQ5) (m := 31) (z1of N) [4,0,3] N (fun x=>x.1) (fun x=>(x.2.1,x.2.2.1)) (fun i v=>(i,v.1,v.2,())) (fun _=>rfl) (ze hb N (t1_26 N) z1cq zfs (TabOk.cons (z1fm hb) TabOk.nil) ztr _ rfl) (fun i v r K=>by kernel_rfl)
def z4h (N:Nat) (b:(List Int)) : Option Bool :=
 cond ((((List.length b) : Nat) : Int) != (256 : Int))
 (some false)
 (zb5 N b (-(1 : Int)) (0 : Int)
 (fun x2=>some x2)
 (some true))
def t_26 (N:Nat) : Tab Bool := [([0,1,0,1,1,1],z1l0 N)]
theorem z19h (N:Nat) (x:z13 zl3) : z4l (z1by N) N (t_26 N) z1cq Tryd.f44 (mkS zl3 0 x) (z2v (.v .bool) 1) = z4h N x.1 := by kernel_rfl
def za4 (N:Nat) : List A -> Res := zz zl3 (fun x=>z4h N x.1) (z70 (.v .bool) 1)
theorem zii (N:Nat) : Contract Tryd.prog glob 44 (za4 N) :=
  Contract.of (E := z1by N) (H := t_26 N) (L := z1cq) (N := N) (body := zfs) (K := (z2v (.v .bool) 1)) (z1rf N) Tryd.func44 (by kernel_rfl) (by decide) (fun _ hb=>(TabOk.cons (z1h4 hb) TabOk.nil)) (fun x y h=>by rw [z19h]; exact h) (z16 (s := (.v .bool)) (m := 1))
def zfr : Code := (Tryd.f22.body).getD .skip
def z1cp : List (List Nat × List Nat) := [([0],[0]),([0,1],[0,3]),([0,0,1,1],[4,0,3]),([0,1,0,1,1],[4,0,3]),(z1bh,[12,0,4,3]),(z1bg,[0,4,3]),(PQ91,[3]),(PQ67,[20,0,4,3]),(z1pk,[4,0,3]),([0,1,0,0,1,0,0,1,0,1,1],[4,0,3]),(zts,[4,0,3]),(z1bf,[4,0,3]),([1,0,1,1],[3]),([0,1,1,1],[2]),([1,1,1,1],[2])]
def z1bx (N:Nat) : Env := z1d tys glob [(44,za4 N)] [] [] [] false [] [(76,za N)]
theorem z1re (N:Nat) : EnvOk Tryd.prog (z1bx N) := zi mixed zn (FnsOk.cons (zii N) (FnsOk.nil)) (ItsOk.cons (zb N) (ItsOk.nil))
def z6v (N:Nat) (b:(List Int)) (top:Int) (i:Int) (k0:Option Int) (k1:Option Int) : Option Int :=
 cond (decide (i < (((List.length b) : Nat) : Int)))
 ((z4h N b).bind fun y =>
 cond y
 (k0)
 (k1))
 (k1)
def z1m6 (N:Nat) (x:z13 SQ5) (K:Ex -> List A -> Option Int) : Option Int :=
 z6v N x.1 x.2.1 x.2.2.1 (K .normal (mkS SQ5 22 (x.1,x.2.1,x.2.2.1,()))) (K (.exit 0) (mkS [(3,.v (.int .i64))] 23 (x.2.1,())))
def z1ir (N:Nat) : Hd Int := fun st K=>(unS SQ5 22 (restr [4,0,3] 0 st)).bind fun x=>z1m6 N x K
def t3_27 (N:Nat) : Tab Int := []
theorem z1ev {N:Nat} {c:Ctx} (hb:Base Tryd.prog (z1bx N) c) : zj Tryd.prog c (zh zfr zxn) (z1ir N) :=
  zl (s := SQ5) (m := 22) (g := z1m6 N) [4,0,3] (ze hb N (t3_27 N) z1cp zfr TabOk.nil zxn _ rfl) (fun x K=>by kernel_rfl)
def z6u (N:Nat) (b:(List Int)) (top:Int) (i:Int) (k0:Int -> Option Int) : Option Int :=
 cond (inR i (List.length b))
 (cond (decide (top < (List.getD b (Int.toNat i) (0 : Int))))
 (cond (inR i (List.length b))
 (k0 (List.getD b (Int.toNat i) (0 : Int)))
 (none))
 (k0 top))
 (none)
def z1ls (N:Nat) (x:z13 SQ5) (K:Ex -> List A -> Option Int) : Option Int :=
 z6u N x.1 x.2.1 x.2.2.1 (fun a1=>(K .normal (mkS SQ5 22 (x.1,a1,x.2.2.1,()))))
def z1id (N:Nat) : Hd Int := fun st K=>(unS SQ5 22 (restr [0,4,3] 0 st)).bind fun x=>z1ls N x K
def t4_27 (N:Nat) : Tab Int := []
theorem z1eh {N:Nat} {c:Ctx} (hb:Base Tryd.prog (z1bx N) c) : zj Tryd.prog c (zh zfr zts) (z1id N) :=
  zl (s := SQ5) (m := 22) (g := z1ls N) [0,4,3] (ze hb N (t4_27 N) z1cp zfr TabOk.nil zts _ rfl) (fun x K=>by kernel_rfl)
def z4f (N:Nat) (b:(List Int)) (top:Int) (i:Int) (rec:Int -> Int -> Option Int) (k0:Int -> Option Int) : Option Int :=
 z6v N b top i
 (z6u N b top i
 (fun top1=>rec top1 (IntKind.wrap IntKind.i64 (i + (1 : Int)))))
 (k0 top)
def zb6 (N:Nat) (b:(List Int)) (top:Int) (i:Int) (k0:Int -> Option Int) : Option Int :=
 iter (fun (v:(Int × Int)) r=>z4f N b v.1 v.2 (fun top i=>(r (top,i))) k0) N (top,i)
def z1mw (N:Nat) (i:(List Int)) (v:(Int × Int)) (r:(Int × Int) -> Option Int) (K:Ex -> List A -> Option Int) : Option Int :=
 z4f N i v.1 v.2 (fun top i=>(r (top,i))) (fun a0=>(K (.exit 0) (mkS [(3,.v (.int .i64))] 23 (a0,()))))
def z1jh (N:Nat) : Hd Int := fun st K=>(unS SQ5 22 (restr [4,0,3] 0 st)).bind fun x=>iter (fun v r=>z1mw N ((fun x=>x.1) x) v r K) N ((fun x=>(x.2.1,x.2.2.1)) x)
def t2_27 (N:Nat) : Tab Int := [(zxn,z1ir N),(zts,z1id N)]
theorem z1fl {N:Nat} {c:Ctx} (hb:Base Tryd.prog (z1bx N) c) : zj Tryd.prog c (zh zfr [0,1,0,1,1]) (z1jh N) :=
  z18 (s := SQ5) (m := 22) (z1mw N) [4,0,3] N (fun x=>x.1) (fun x=>(x.2.1,x.2.2.1)) (fun i v=>(i,v.1,v.2,())) (fun _=>rfl) (ze hb N (t2_27 N) z1cp zfr (TabOk.cons (z1ev hb) (TabOk.cons (z1eh hb) TabOk.nil)) [0,0,1,0,1,1] _ rfl) (fun i v r K=>by kernel_rfl)
def z6w (N:Nat) (b:(List Int)) (top:Int) (k0:Int -> Option Int) : Option Int :=
 zb6 N b top (0 : Int)
 (fun top1=>k0 top1)
def z1oe (N:Nat) (x:z13 z1av) (K:Ex -> List A -> Option Int) : Option Int :=
 z6w N x.1 x.2.1 (fun a0=>(K .normal (mkS [(3,.v (.int .i64))] 23 (a0,()))))
def z1kz (N:Nat) : Hd Int := fun st K=>(unS z1av 23 (restr [0,3] 0 st)).bind fun x=>z1oe N x K
def t1_27 (N:Nat) : Tab Int := [([0,1,0,1,1],z1jh N)]
theorem z1h3 {N:Nat} {c:Ctx} (hb:Base Tryd.prog (z1bx N) c) : zj Tryd.prog c (zh zfr [0,1,1]) (z1kz N) :=
  zl (s := z1av) (m := 23) (g := z1oe N) [0,3] (ze hb N (t1_27 N) z1cp zfr (TabOk.cons (z1fl hb) TabOk.nil) [0,1,1] _ rfl) (fun x K=>by kernel_rfl)
def z4i (N:Nat) (b:(List Int)) : Option Int :=
 z6w N b (-(1 : Int))
 (fun top=>some (IntKind.wrap IntKind.i64 (top + (1 : Int))))
def t_27 (N:Nat) : Tab Int := [([0,1,1],z1kz N)]
theorem z19g (N:Nat) (x:z13 zl3) : z4l (z1bx N) N (t_27 N) z1cp Tryd.f22 (mkS zl3 0 x) (z2v (.v (.int .i64)) 1) = z4i N x.1 := by kernel_rfl
def za5 (N:Nat) : List A -> Res := zz zl3 (fun x=>z4i N x.1) (z70 (.v (.int .i64)) 1)
theorem zij (N:Nat) : Contract Tryd.prog glob 22 (za5 N) :=
  Contract.of (E := z1bx N) (H := t_27 N) (L := z1cp) (N := N) (body := zfr) (K := (z2v (.v (.int .i64)) 1)) (z1re N) Tryd.func22 (by kernel_rfl) (by decide) (fun _ hb=>(TabOk.cons (z1h3 hb) TabOk.nil)) (fun x y h=>by rw [z19g]; exact h) (z16 (s := (.v (.int .i64))) (m := 1))
def z9o : Code := (Tryd.f8.body).getD .skip
def z165 : List (List Nat × List Nat) := [([0],[1]),([0,1],[1,3]),([0,1,1],[3,1,4]),([0,0,1,1,1],[40,3,1,4]),([1,0,1,1,1],[3,1,4]),(ztr,[2]),(ztt,[2]),([0,0,1,1,1,1],[5,3,1,4]),(zyt,[5,3,1,4]),([0,0,0,0,1,0,1,1,1,1],[43,1,5,4,3]),([1,0,0,0,1,0,1,1,1,1],[1,5,4,3]),([1,1,0,0,0,1,0,1,1,1,1],[]),([0,0,0,0,1,0,0,1,0,1,1,1,1],[53,4,1,5,3]),([1,0,0,0,1,0,0,1,0,1,1,1,1],[4,1,5,3]),([0,0,1,0,0,0,1,0,0,1,0,1,1,1,1],[2]),([1,0,1,0,0,0,1,0,0,1,0,1,1,1,1],[2]),([0,1,0,0,1,0,0,1,0,1,1,1,1],[6,4,1,5,3]),(z1b6,[6,4,1,5,3]),([0,0,0,0,1,1,0,0,1,0,0,1,0,1,1,1,1],[56,1,5,6,3,4]),([1,0,0,0,1,1,0,0,1,0,0,1,0,1,1,1,1],[1,5,6,3,4]),([1,1,0,0,0,1,1,0,0,1,0,0,1,0,1,1,1,1],[5,3,1,4]),(z14f,[79,6,4,1,5,3]),([1,0,0,1,0,0,1,1,0,0,1,0,0,1,0,1,1,1,1],[6,4,1,5,3]),([0,0,1,0,0,1,0,0,1,1,0,0,1,0,0,1,0,1,1,1,1],[2]),([1,0,1,0,0,1,0,0,1,1,0,0,1,0,0,1,0,1,1,1,1],[2]),(z14e,[6,4,1,5,3]),([1,1,0,0,1,1,0,0,1,0,0,1,0,1,1,1,1],[6,4,1,5,3]),([1,1,0,0,1,0,0,1,0,1,1,1,1],[5,3,1,4]),([0,1,0,0,1,0,1,1,1,1],[5,3,1,4]),([1,1,0,0,1,0,1,1,1,1],[5,3,1,4]),([1,0,1,1,1,1],[]),([0,1,1,1,1,1],[2]),([1,1,1,1,1,1],[2])]
def z14j (N:Nat) : Env := z1d tys glob [(22,za5 N)] [] [] [] false [] [(76,za N)]
theorem z1rd (N:Nat) : EnvOk Tryd.prog (z14j N) := zi mixed zn (FnsOk.cons (zij N) (FnsOk.nil)) (ItsOk.cons (zb N) (ItsOk.nil))
def z6p (N:Nat) (d:DT8) (many:Int) (wide:Int) (k0:Bool -> Option Bool) : Option Bool :=
 cond (decide (many < (1 : Int)))
 (k0 true)
 (cond (decide ((4096 : Int) < many))
 (k0 true)
 (cond ((((List.length d.2.1) : Nat) : Int) != many)
 (k0 true)
 (cond (decide (d.1 < (0 : Int)))
 (k0 true)
 (cond (decide (many <= d.1))
 (k0 true)
 (k0 (decide (wide < (1 : Int))))))))
def z1mv (N:Nat) (x:z13 z1at) (K:Ex -> List A -> Option Bool) : Option Bool :=
 z6p N x.1 x.2.1 x.2.2.1 (fun a3=>(K .normal (mkS [(1,.box TT6),(1,.v (.int .i64)),(0,.v (.int .i64)),(35,.v .bool)] 39 (x.1,x.2.1,x.2.2.1,a3,()))))
def z1jg (N:Nat) : Hd Bool := fun st K=>(unS z1at 75 (restr [3,1,4] 0 st)).bind fun x=>z1mv N x K
def t2_28 (N:Nat) : Tab Bool := []
theorem z1fk {N:Nat} {c:Ctx} (hb:Base Tryd.prog (z14j N) c) : zj Tryd.prog c (zh z9o [0,0,1,1,1]) (z1jg N) :=
  zl (s := z1at) (m := 75) (g := z1mv N) [3,1,4] (ze hb N (t2_28 N) z165 z9o TabOk.nil [0,0,1,1,1] _ rfl) (fun x K=>by kernel_rfl)
def z6q (N:Nat) (d:DT8) (many:Int) (wide:Int) (k0:Bool -> Option Bool) (k1:Option Bool) : Option Bool :=
 z6p N d many wide
 (fun x40=>cond x40
 (k0 false)
 (k1))
def z1od (N:Nat) (x:z13 z1at) (K:Ex -> List A -> Option Bool) : Option Bool :=
 z6q N x.1 x.2.1 x.2.2.1 (fun a0=>(K .ret (mkS [(2,.v .bool)] 77 (a0,())))) (K .normal (mkS z1at 75 (x.1,x.2.1,x.2.2.1,())))
def z1ky (N:Nat) : Hd Bool := fun st K=>(unS z1at 75 (restr [3,1,4] 0 st)).bind fun x=>z1od N x K
def t1_28 (N:Nat) : Tab Bool := [([0,0,1,1,1],z1jg N)]
theorem z1h2 {N:Nat} {c:Ctx} (hb:Base Tryd.prog (z14j N) c) : zj Tryd.prog c (zh z9o [0,1,1,1]) (z1ky N) :=
  zl (s := z1at) (m := 75) (g := z1od N) [3,1,4] (ze hb N (t1_28 N) z165 z9o (TabOk.cons (z1fk hb) TabOk.nil) [0,1,1,1] _ rfl) (fun x K=>by kernel_rfl)
def z6n (N:Nat) (d:DT8) (many:Int) (wide:Int) (i:Int) (k:Int) (k0:Bool -> Option Bool) : Option Bool :=
 cond (inR i (List.length d.2.2.2.1))
 (cond (inR k (List.length (List.getD d.2.2.2.1 (Int.toNat i) ([] : List Int))))
 (cond (decide ((List.getD (List.getD d.2.2.2.1 (Int.toNat i) ([] : List Int)) (Int.toNat k) (0 : Int)) < (0 : Int)))
 (k0 true)
 (cond (inR i (List.length d.2.2.2.1))
 (cond (inR k (List.length (List.getD d.2.2.2.1 (Int.toNat i) ([] : List Int))))
 (k0 (decide (many <= (List.getD (List.getD d.2.2.2.1 (Int.toNat i) ([] : List Int)) (Int.toNat k) (0 : Int)))))
 (none))
 (none)))
 (none))
 (none)
def z1lf (N:Nat) (x:z13 z147) (K:Ex -> List A -> Option Bool) : Option Bool :=
 z6n N x.1 x.2.1 x.2.2.1 x.2.2.2.1 x.2.2.2.2.1 (fun a5=>(K .normal (mkS [(1,.box TT6),(1,.v (.int .i64)),(0,.v (.int .i64)),(0,.v (.int .i64)),(0,.v (.int .i64)),(72,.v .bool)] 0 (x.1,x.2.1,x.2.2.1,x.2.2.2.1,x.2.2.2.2.1,a5,()))))
def z1i0 (N:Nat) : Hd Bool := fun st K=>(unS z147 73 (restr [1,5,6,3,4] 0 st)).bind fun x=>z1lf N x K
def t6_28 (N:Nat) : Tab Bool := []
theorem z1e4 {N:Nat} {c:Ctx} (hb:Base Tryd.prog (z14j N) c) : zj Tryd.prog c (zh z9o z14f) (z1i0 N) :=
  zl (s := z147) (m := 73) (g := z1lf N) [1,5,6,3,4] (ze hb N (t6_28 N) z165 z9o TabOk.nil z14f _ rfl) (fun x K=>by kernel_rfl)
def z6o (N:Nat) (d:DT8) (many:Int) (wide:Int) (i:Int) (k:Int) (k0:Bool -> Option Bool) (k1:Option Bool) : Option Bool :=
 z6n N d many wide i k
 (fun x79=>cond x79
 (k0 false)
 (k1))
def z1li (N:Nat) (x:z13 z147) (K:Ex -> List A -> Option Bool) : Option Bool :=
 z6o N x.1 x.2.1 x.2.2.1 x.2.2.2.1 x.2.2.2.2.1 (fun a0=>(K .ret (mkS [(2,.v .bool)] 77 (a0,())))) (K .normal (mkS z147 73 (x.1,x.2.1,x.2.2.1,x.2.2.2.1,x.2.2.2.2.1,())))
def z1i3 (N:Nat) : Hd Bool := fun st K=>(unS z147 73 (restr [1,5,6,3,4] 0 st)).bind fun x=>z1li N x K
def t5_28 (N:Nat) : Tab Bool := [(z14f,z1i0 N)]
theorem z1e7 {N:Nat} {c:Ctx} (hb:Base Tryd.prog (z14j N) c) : zj Tryd.prog c (zh z9o z14e) (z1i3 N) :=
  zl (s := z147) (m := 73) (g := z1li N) [1,5,6,3,4] (ze hb N (t5_28 N) z165 z9o (TabOk.cons (z1e4 hb) TabOk.nil) z14e _ rfl) (fun x K=>by kernel_rfl)
def z4c (N:Nat) (d:DT8) (many:Int) (wide:Int) (i:Int) (k:Int) (rec:Int -> Option Bool) (k0:Bool -> Option Bool) (k1:Option Bool) : Option Bool :=
 cond (decide (k < wide))
 (z6o N d many wide i k
 (fun x2=>k0 x2)
 (rec (IntKind.wrap IntKind.i64 (k + (1 : Int)))))
 (k1)
def zb2 (N:Nat) (d:DT8) (many:Int) (wide:Int) (i:Int) (k:Int) (k0:Bool -> Option Bool) (k1:Option Bool) : Option Bool :=
 iter (fun (v:Int) r=>z4c N d many wide i v (fun k=>(r k)) k0 k1) N k
def z1lr (N:Nat) (i:(DT8 × Int × Int × Int)) (v:Int) (r:Int -> Option Bool) (K:Ex -> List A -> Option Bool) : Option Bool :=
 z4c N i.1 i.2.1 i.2.2.1 i.2.2.2 v (fun k=>(r k)) (fun a0=>(K .ret (mkS [(2,.v .bool)] 77 (a0,())))) (K (.exit 2) (mkS SQ93 74 (i.1,i.2.1,i.2.2.1,i.2.2.2,())))
def z1ic (N:Nat) : Hd Bool := fun st K=>(unS z147 73 (restr [6,4,1,5,3] 0 st)).bind fun x=>iter (fun v r=>z1lr N ((fun x=>(x.1,x.2.1,x.2.2.1,x.2.2.2.1)) x) v r K) N ((fun x=>x.2.2.2.2.1) x)
def t4_28 (N:Nat) : Tab Bool := [(z14e,z1i3 N)]
theorem z1eg {N:Nat} {c:Ctx} (hb:Base Tryd.prog (z14j N) c) : zj Tryd.prog c (zh z9o z1b6) (z1ic N) :=
  z18 (s := z147) (m := 73) (z1lr N) [6,4,1,5,3] N (fun x=>(x.1,x.2.1,x.2.2.1,x.2.2.2.1)) (fun x=>x.2.2.2.2.1) (fun i v=>(i.1,i.2.1,i.2.2.1,i.2.2.2,v,())) (fun _=>rfl) (ze hb N (t4_28 N) z165 z9o (TabOk.cons (z1e7 hb) TabOk.nil) [0,0,1,1,0,0,1,0,0,1,0,1,1,1,1] _ rfl) (fun i v r K=>by kernel_rfl)
def z4d (N:Nat) (d:DT8) (many:Int) (wide:Int) (i:Int) (rec:Int -> Option Bool) (k0:Bool -> Option Bool) (k1:Option Bool) : Option Bool :=
 cond (decide (i < many))
 (cond (inR i (List.length d.2.2.2.1))
 (cond ((((List.length (List.getD d.2.2.2.1 (Int.toNat i) ([] : List Int))) : Nat) : Int) != wide)
 (k0 false)
 (zb2 N d many wide i (0 : Int)
 (fun x2=>k0 x2)
 (rec (IntKind.wrap IntKind.i64 (i + (1 : Int))))))
 (none))
 (k1)
def zb3 (N:Nat) (d:DT8) (many:Int) (wide:Int) (i:Int) (k0:Bool -> Option Bool) (k1:Option Bool) : Option Bool :=
 iter (fun (v:Int) r=>z4d N d many wide v (fun i=>(r i)) k0 k1) N i
def z1m5 (N:Nat) (i:(DT8 × Int × Int)) (v:Int) (r:Int -> Option Bool) (K:Ex -> List A -> Option Bool) : Option Bool :=
 z4d N i.1 i.2.1 i.2.2 v (fun i=>(r i)) (fun a0=>(K .ret (mkS [(2,.v .bool)] 77 (a0,())))) (K (.exit 0) (mkS [] 80 ()))
def z1iq (N:Nat) : Hd Bool := fun st K=>(unS SQ93 74 (restr [5,3,1,4] 0 st)).bind fun x=>iter (fun v r=>z1m5 N ((fun x=>(x.1,x.2.1,x.2.2.1)) x) v r K) N ((fun x=>x.2.2.2.1) x)
def t3_28 (N:Nat) : Tab Bool := [(z1b6,z1ic N)]
theorem z1eu {N:Nat} {c:Ctx} (hb:Base Tryd.prog (z14j N) c) : zj Tryd.prog c (zh z9o zyt) (z1iq N) :=
  z18 (s := SQ93) (m := 74) (z1m5 N) [5,3,1,4] N (fun x=>(x.1,x.2.1,x.2.2.1)) (fun x=>x.2.2.2.1) (fun i v=>(i.1,i.2.1,i.2.2,v,())) (fun _=>rfl) (ze hb N (t3_28 N) z165 z9o (TabOk.cons (z1eg hb) TabOk.nil) zwc _ rfl) (fun i v r K=>by kernel_rfl)
def z3f (N:Nat) (d:DT8) : Option Bool :=
 (z4i N d.2.2.1).bind fun y =>
 z6q N d (((List.length d.2.2.2.1) : Nat) : Int) y
 (fun x2=>some x2)
 (zb3 N d (((List.length d.2.2.2.1) : Nat) : Int) y (0 : Int)
 (fun x21=>some x21)
 (some true))
def t_28 (N:Nat) : Tab Bool := [([0,1,1,1],z1ky N),(zyt,z1iq N)]
theorem z19f (N:Nat) (x:z13 [(0,.v TT6)]) : z4l (z14j N) N (t_28 N) z165 Tryd.f8 (mkS [(0,.v TT6)] 0 x) (z2v (.v .bool) 1) = z3f N x.1 := by kernel_rfl
def z60 (N:Nat) : List A -> Res := zz [(0,.v TT6)] (fun x=>z3f N x.1) (z70 (.v .bool) 1)
theorem zb4 (N:Nat) : Contract Tryd.prog glob 8 (z60 N) :=
  Contract.of (E := z14j N) (H := t_28 N) (L := z165) (N := N) (body := z9o) (K := (z2v (.v .bool) 1)) (z1rd N) Tryd.func8 (by kernel_rfl) (by decide) (fun _ hb=>(TabOk.cons (z1h2 hb) (TabOk.cons (z1eu hb) TabOk.nil))) (fun x y h=>by rw [z19f]; exact h) (z16 (s := (.v .bool)) (m := 1))
def zvq : Code := (Tryd.f10.body).getD .skip
def L_29 : List (List Nat × List Nat) := [([0],[2,1]),([0,0,1],[9,2,1]),([1,0,1],[2,1]),([0,0,1,0,1],[4]),([1,0,1,0,1],[4]),([0,1,1],[1,2,5]),([0,0,1,1,1],[6,1,2,5]),([0,1,0,1,1,1],[6,1,2,5]),(z1b9,[15,2,5,1,6]),(z1b8,[2,5,1,6]),(z1bc,[5]),([0,0,1,0,0,1,0,1,1,1],[6,1,2,5]),(zzh,[6,1,2,5]),(z1b7,[6,1,2,5]),([1,0,1,1,1],[5]),([0,1,1,1,1],[4]),([1,1,1,1,1],[4])]
def E_29 (N:Nat) : Env := z1d tys glob [(8,z60 N)] [] [] [] false [] [(76,za N)]
theorem z1rc (N:Nat) : EnvOk Tryd.prog (E_29 N) := zi mixed zn (FnsOk.cons (zb4 N) (FnsOk.nil)) (ItsOk.cons (zb N) (ItsOk.nil))
def z4b (N:Nat) (s:(List UInt8)) (d:DT8) (at_:Int) (i:Int) (rec:Int -> Int -> Option Int) (k0:Int -> Option Int) : Option Int :=
 cond (decide (i < (((List.length s) : Nat) : Int)))
 (cond (inR at_ (List.length d.2.2.2.1))
 (cond (inR i (List.length s))
 (cond (inR (IntKind.wrap IntKind.i64 (((UInt8.toNat (List.getD s (Int.toNat i) (0 : UInt8))) : Nat) : Int)) (List.length d.2.2.1))
 (cond (inR (List.getD d.2.2.1 (Int.toNat (IntKind.wrap IntKind.i64 (((UInt8.toNat (List.getD s (Int.toNat i) (0 : UInt8))) : Nat) : Int))) (0 : Int)) (List.length (List.getD d.2.2.2.1 (Int.toNat at_) ([] : List Int))))
 (rec (List.getD (List.getD d.2.2.2.1 (Int.toNat at_) ([] : List Int)) (Int.toNat (List.getD d.2.2.1 (Int.toNat (IntKind.wrap IntKind.i64 (((UInt8.toNat (List.getD s (Int.toNat i) (0 : UInt8))) : Nat) : Int))) (0 : Int))) (0 : Int)) (IntKind.wrap IntKind.i64 (i + (1 : Int))))
 (none))
 (none))
 (none))
 (none))
 (k0 at_)
def zb0 (N:Nat) (s:(List UInt8)) (d:DT8) (at_:Int) (i:Int) (k0:Int -> Option Int) : Option Int :=
 iter (fun (v:(Int × Int)) r=>z4b N s d v.1 v.2 (fun at_ i=>(r (at_,i))) k0) N (at_,i)
def z1oc (N:Nat) (i:((List UInt8) × DT8)) (v:(Int × Int)) (r:(Int × Int) -> Option Int) (K:Ex -> List A -> Option Int) : Option Int :=
 z4b N i.1 i.2 v.1 v.2 (fun at_ i=>(r (at_,i))) (fun a0=>(K (.exit 0) (mkS [(5,.v (.int .i64))] 28 (a0,()))))
def z1kx (N:Nat) : Hd Int := fun st K=>(unS [(1,.v .str),(0,.box TT6),(2,.v (.int .i64)),(0,.v (.int .i64))] 27 (restr [6,1,2,5] 0 st)).bind fun x=>iter (fun v r=>z1oc N ((fun x=>(x.1,x.2.1)) x) v r K) N ((fun x=>(x.2.2.1,x.2.2.2.1)) x)
def t1_29 (N:Nat) : Tab Int := []
theorem z1h1 {N:Nat} {c:Ctx} (hb:Base Tryd.prog (E_29 N) c) : zj Tryd.prog c (zh zvq [0,1,0,1,1,1]) (z1kx N) :=
  z18 (s := [(1,.v .str),(0,.box TT6),(2,.v (.int .i64)),(0,.v (.int .i64))]) (m := 27) (z1oc N) [6,1,2,5] N (fun x=>(x.1,x.2.1)) (fun x=>(x.2.2.1,x.2.2.2.1)) (fun i v=>(i.1,i.2,v.1,v.2,())) (fun _=>rfl) (ze hb N (t1_29 N) L_29 zvq TabOk.nil ztr _ rfl) (fun i v r K=>by kernel_rfl)
def z3e (N:Nat) (d:DT8) (s:(List UInt8)) : Option Int :=
 (z3f N d).bind fun y =>
 cond (!y)
 (some (-(1 : Int)))
 (zb0 N s d d.1 (0 : Int)
 (fun at_=>some at_))
def t_29 (N:Nat) : Tab Int := [([0,1,0,1,1,1],z1kx N)]
theorem z19e (N:Nat) (x:z13 zw1) : z4l (E_29 N) N (t_29 N) L_29 Tryd.f10 (mkS zw1 0 x) (z2v (.v (.int .i64)) 2) = z3e N x.1 x.2.1 := by kernel_rfl
def z5z (N:Nat) : List A -> Res := zz zw1 (fun x=>z3e N x.1 x.2.1) (z70 (.v (.int .i64)) 2)
theorem zb1 (N:Nat) : Contract Tryd.prog glob 10 (z5z N) :=
  Contract.of (E := E_29 N) (H := t_29 N) (L := L_29) (N := N) (body := zvq) (K := (z2v (.v (.int .i64)) 2)) (z1rc N) Tryd.func10 (by kernel_rfl) (by decide) (fun _ hb=>(TabOk.cons (z1h1 hb) TabOk.nil)) (fun x y h=>by rw [z19e]; exact h) (z16 (s := (.v (.int .i64))) (m := 2))
def z1aj : Code := (Tryd.f12.body).getD .skip
def L_30 : List (List Nat × List Nat) := [([0],[2,1]),([0,1],[5,2]),([0,1,1],[4]),([1,1,1],[4])]
def E_30 (N:Nat) : Env := z1d tys glob [(10,z5z N)] [] [] [] false [] [(76,za N)]
theorem z1rb (N:Nat) : EnvOk Tryd.prog (E_30 N) := zi mixed zn (FnsOk.cons (zb1 N) (FnsOk.nil)) (ItsOk.cons (zb N) (ItsOk.nil))
def z8o (N:Nat) (d:DT8) (s:(List UInt8)) : Option Bool :=
 (z3e N d s).bind fun y =>
 cond (decide ((0 : Int) <= y))
 (cond (inR y (List.length d.2.1))
 (some (List.getD d.2.1 (Int.toNat y) false))
 (none))
 (some false)
def t_30 (N:Nat) : Tab Bool := []
theorem z19d (N:Nat) (x:z13 zw1) : z4l (E_30 N) N (t_30 N) L_30 Tryd.f12 (mkS zw1 0 x) (z2v (.v .bool) 2) = z8o N x.1 x.2.1 := by kernel_rfl
def zca (N:Nat) : List A -> Res := zz zw1 (fun x=>z8o N x.1 x.2.1) (z70 (.v .bool) 2)
theorem zkg (N:Nat) : Contract Tryd.prog glob 12 (zca N) :=
  Contract.of (E := E_30 N) (H := t_30 N) (L := L_30) (N := N) (body := z1aj) (K := (z2v (.v .bool) 2)) (z1rb N) Tryd.func12 (by kernel_rfl) (by decide) (fun _ hb=>TabOk.nil) (fun x y h=>by rw [z19d]; exact h) (z16 (s := (.v .bool)) (m := 2))
end
end Go.Proofs.YtgbcebmahbieoaaDoorLg
