import Derived.Test.YtkipbccgnekoaaaGreatDoorLgPrPre1
import Derived.Test.YtkipbccgnekoaaaGreatDoorLgW
import Derived.Test.YtkipbccgnekoaaaGreatDoorChecked
import Derived.Shelf.Strings.Repeat
import Derived.KernelRfl
set_option linter.all false
namespace Go.Proofs.YtkipbccgnekoaaaGreatDoorLg
noncomputable section
open Go Go.Lift Go.Proofs Go.Shelf
def zq0 : Go.Shelf.Ren := ⟨fun | 105=>109 | 212=>119 | 99=>120 | 165=>121 | 166=>77 | 170=>122 | 169=>78 | 263=>127 | 264=>128 | 206=>129 | 240=>100 | 241=>130 | 276=>111 | 277=>134 | n=>n,fun | 9=>9 | 3=>3 | 4=>4 | 20=>20 | 0=>0 | 46=>132 | 109=>155 | 5=>5 | 72=>114 | 76=>120 | 51=>106 | 146=>160 | 53=>131 | 148=>162 | 70=>111 | 37=>112 | 75=>119 | 127=>135 | 164=>144 | 80=>122 | n=>n,fun | n=>n⟩
theorem z1ge : Lays.n105 Tryz.prog zq0 where
  mixed := by kernel_rfl
  f99 := Tryz.func120.trans (congrArg some (by kernel_rfl))
  f105 := Tryz.func109.trans (congrArg some (by kernel_rfl))
  f165 := Tryz.func121.trans (congrArg some (by kernel_rfl))
  f166 := Tryz.func77.trans (congrArg some (by kernel_rfl))
  f169 := Tryz.func78.trans (congrArg some (by kernel_rfl))
  f170 := Tryz.func122.trans (congrArg some (by kernel_rfl))
  f206 := Tryz.func129.trans (congrArg some (by kernel_rfl))
  f212 := Tryz.func119.trans (congrArg some (by kernel_rfl))
  f240 := Tryz.func100.trans (congrArg some (by kernel_rfl))
  f241 := Tryz.func130.trans (congrArg some (by kernel_rfl))
  f263 := Tryz.func127.trans (congrArg some (by kernel_rfl))
  f264 := Tryz.func128.trans (congrArg some (by kernel_rfl))
  f276 := Tryz.func111.trans (congrArg some (by kernel_rfl))
  f277 := Tryz.func134.trans (congrArg some (by kernel_rfl))
  t0 := Tryz.underlying0
  a0 := Tryz.isAgg0
  z0 := Tryz.sizeOf0
  v0 := Tryz.zeroValue0
  t3 := Tryz.underlying3
  a3 := Tryz.isAgg3
  z3 := Tryz.sizeOf3
  v3 := Tryz.zeroValue3
  t4 := Tryz.underlying4
  a4 := Tryz.isAgg4
  z4 := Tryz.sizeOf4
  v4 := Tryz.zeroValue4
  t5 := Tryz.underlying5
  a5 := Tryz.isAgg5
  z5 := Tryz.sizeOf5
  v5 := Tryz.zeroValue5
  t9 := Tryz.underlying9
  a9 := Tryz.isAgg9
  z9 := Tryz.sizeOf9
  v9 := Tryz.zeroValue9
  t20 := Tryz.underlying20
  a20 := Tryz.isAgg20
  z20 := Tryz.sizeOf20
  v20 := Tryz.zeroValue20
  t37 := Tryz.underlying112
  a37 := Tryz.isAgg112
  z37 := Tryz.sizeOf112
  v37 := Tryz.zeroValue112
  t46 := Tryz.underlying132
  a46 := Tryz.isAgg132
  z46 := Tryz.sizeOf132
  v46 := Tryz.zeroValue132
  t51 := Tryz.underlying106
  a51 := Tryz.isAgg106
  z51 := Tryz.sizeOf106
  v51 := Tryz.zeroValue106
  t53 := Tryz.underlying131
  a53 := Tryz.isAgg131
  z53 := Tryz.sizeOf131
  v53 := Tryz.zeroValue131
  t70 := Tryz.underlying111
  a70 := Tryz.isAgg111
  z70 := Tryz.sizeOf111
  v70 := Tryz.zeroValue111
  t72 := Tryz.underlying114
  a72 := Tryz.isAgg114
  z72 := Tryz.sizeOf114
  v72 := Tryz.zeroValue114
  t75 := Tryz.underlying119
  a75 := Tryz.isAgg119
  z75 := Tryz.sizeOf119
  v75 := Tryz.zeroValue119
  t76 := Tryz.underlying120
  a76 := Tryz.isAgg120
  z76 := Tryz.sizeOf120
  v76 := Tryz.zeroValue120
  t109 := Tryz.underlying155
  a109 := Tryz.isAgg155
  z109 := Tryz.sizeOf155
  v109 := Tryz.zeroValue155
  t127 := Tryz.underlying135
  a127 := Tryz.isAgg135
  z127 := Tryz.sizeOf135
  v127 := Tryz.zeroValue135
  t146 := Tryz.underlying160
  a146 := Tryz.isAgg160
  z146 := Tryz.sizeOf160
  v146 := Tryz.zeroValue160
  t148 := Tryz.underlying162
  a148 := Tryz.isAgg162
  z148 := Tryz.sizeOf162
  v148 := Tryz.zeroValue162
  t164 := Tryz.underlying144
  a164 := Tryz.isAgg144
  z164 := Tryz.sizeOf144
  v164 := Tryz.zeroValue144
theorem bldX : Builder.Extra Tryz.prog zq0 where
  sizeBuilder := by kernel_rfl
  liesBuilder := by kernel_rfl
  t5 := Tryz.underlying5
  a5 := Tryz.isAgg5
  z5 := Tryz.sizeOf5
  v5 := Tryz.zeroValue5
  infoByte := by kernel_rfl
  cellsByte := by kernel_rfl
  sizeByte := by kernel_rfl
  neB5 := by decide
def zo8 (x:z1h [(0,.v .str),(0,.v (.int .i64))]) : Option (List UInt8) :=
 cond (decide (0 <= x.2.1) && (decide (x.2.1 <= 9223372036854775807) && decide (x.1.length * x.2.1.toNat <= 140737488355328))) (some (Lib.repeatL x.1 x.2.1.toNat)) none
def zs4 : List A -> Res := z10 [(0,.v .str),(0,.v (.int .i64))] zo8 (z2p (.v .str) 2)
theorem z13m (glob:Nat -> Option Dat) : Contract Tryz.prog glob 109 zs4 := by
  refine Contract.hand ⟨_,Tryz.func109,by kernel_rfl,by decide⟩ ?_
  intro w S vals ob x y har hS hg hy
  obtain ⟨s,c,u⟩ := x
  cases u
  unfold zo8 at hy
  dsimp only at hy s c
  cases hck : (decide (0 <= c) && (decide (c <= 9223372036854775807) && decide (s.length * c.toNat <= 140737488355328))) with
  | false=>rw [hck] at hy; cases hy
  | true =>
  rw [hck] at hy
  simp only [cond] at hy
  cases hy
  simp only [Bool.and_eq_true,decide_eq_true_eq] at hck
  obtain ⟨h0,h1,h2⟩ := hck
  obtain ⟨⟨v0,hv0,hA0,ho0⟩,_⟩ := har.rel 0 _ rfl
  obtain ⟨⟨v1,hv1,hA1,ho1⟩,_⟩ := har.rel 1 _ rfl
  have hlen := har.len
  obtain ⟨u0,u1,rfl⟩ : ∃ u0 u1,vals = [u0,u1] := by
    have : vals.length = 2 := by simpa [mkS,z3o] using hlen.symm
    match vals,this with
    | [a,b],_=>exact ⟨a,b,rfl⟩
  simp at hv0 hv1
  subst hv0; subst hv1
  have e0 := hA0.str_inv
  have e1 := hA1.int_inv
  subst e0; subst e1
  have hnone : ∀ i,ob i = [] := by
    intro i
    match i with
    | 0=>exact ho0
    | 1=>exact ho1
    | i + 2=>exact har.out _ (by simp [mkS,z3o])
  have hc : ((Int.toNat c : Nat) : Int) = c := Int.toNat_of_nonneg h0
  have hr := Any.strings_Repeat z1ge bldX ⟨⟨s⟩⟩ (Int.toNat c) w (Int.toNat_le.2 h1) h2
  rw [hc] at hr
  refine hr.mono ?_
  rintro e w' ⟨rfl,hb⟩
  refine ⟨_,S,[],ob,rfl,⟨hb.size,fun k hk _=>hb.block k hk,hb.tape,hb.os,hb.output⟩,Lift.Sub.refl _,fun k o hk => ?_,fun k hk => .inl hk,⟨⟨VR.str,rfl⟩,rfl⟩,(fun k hk=>by cases hk),.nil, ?_, ?_,har.inj,har.nd,fun i hi=>hi⟩
  . have h3 := hS k o hk
    have := hb.block k (z79 h3)
    simp only [hp] at h3 ⊢
    rw [this]; exact h3
  . intro i z hz hbx
    match i with
    | 0=>simp [mkS,z3o,AS.mk] at hz; subst hz; cases hbx
    | 1=>simp [mkS,z3o,AS.mk] at hz; subst hz; cases hbx
    | i + 2=>simp [mkS,z3o] at hz
  . intro i k hk
    rw [hnone i] at hk; cases hk
end
end Go.Proofs.YtkipbccgnekoaaaGreatDoorLg
