import Derived.Test.YthdblfmolchhpaaGreatDoorLgPrBt1
import Derived.Test.YthdblfmolchhpaaGreatDoorLgW
import Derived.Test.YthdblfmolchhpaaGreatDoorChecked
import Derived.Shelf.Strings.Repeat
import Derived.KernelRfl
set_option linter.all false
namespace Go.Proofs.YthdblfmolchhpaaGreatDoorLg
noncomputable section
open Go Go.Lift Go.Proofs Go.Shelf
def zme:Go.Shelf.Ren:=⟨fun|105=>107|212=>115|99=>116|165=>117|166=>29|170=>118|169=>30|263=>121|264=>122|206=>123|240=>46|241=>124|276=>64|277=>127|n=>n,fun|9=>9|3=>3|4=>4|20=>20|0=>0|46=>120|109=>189|5=>5|72=>72|76=>75|51=>181|146=>194|53=>67|148=>196|70=>69|37=>70|75=>74|127=>101|164=>121|80=>77|n=>n,fun|n=>n⟩
theorem z1ci:Lays.n105 Tryz.prog zme where
 mixed:=by kernel_rfl
 f99:=Tryz.func116.trans (congrArg some (by kernel_rfl))
 f105:=Tryz.func107.trans (congrArg some (by kernel_rfl))
 f165:=Tryz.func117.trans (congrArg some (by kernel_rfl))
 f166:=Tryz.func29.trans (congrArg some (by kernel_rfl))
 f169:=Tryz.func30.trans (congrArg some (by kernel_rfl))
 f170:=Tryz.func118.trans (congrArg some (by kernel_rfl))
 f206:=Tryz.func123.trans (congrArg some (by kernel_rfl))
 f212:=Tryz.func115.trans (congrArg some (by kernel_rfl))
 f240:=Tryz.func46.trans (congrArg some (by kernel_rfl))
 f241:=Tryz.func124.trans (congrArg some (by kernel_rfl))
 f263:=Tryz.func121.trans (congrArg some (by kernel_rfl))
 f264:=Tryz.func122.trans (congrArg some (by kernel_rfl))
 f276:=Tryz.func64.trans (congrArg some (by kernel_rfl))
 f277:=Tryz.func127.trans (congrArg some (by kernel_rfl))
 t0:=Tryz.underlying0
 a0:=Tryz.isAgg0
 z0:=Tryz.sizeOf0
 v0:=Tryz.zeroValue0
 t3:=Tryz.underlying3
 a3:=Tryz.isAgg3
 z3:=Tryz.sizeOf3
 v3:=Tryz.zeroValue3
 t4:=Tryz.underlying4
 a4:=Tryz.isAgg4
 z4:=Tryz.sizeOf4
 v4:=Tryz.zeroValue4
 t5:=Tryz.underlying5
 a5:=Tryz.isAgg5
 z5:=Tryz.sizeOf5
 v5:=Tryz.zeroValue5
 t9:=Tryz.underlying9
 a9:=Tryz.isAgg9
 z9:=Tryz.sizeOf9
 v9:=Tryz.zeroValue9
 t20:=Tryz.underlying20
 a20:=Tryz.isAgg20
 z20:=Tryz.sizeOf20
 v20:=Tryz.zeroValue20
 t37:=Tryz.underlying70
 a37:=Tryz.isAgg70
 z37:=Tryz.sizeOf70
 v37:=Tryz.zeroValue70
 t46:=Tryz.underlying120
 a46:=Tryz.isAgg120
 z46:=Tryz.sizeOf120
 v46:=Tryz.zeroValue120
 t51:=Tryz.underlying181
 a51:=Tryz.isAgg181
 z51:=Tryz.sizeOf181
 v51:=Tryz.zeroValue181
 t53:=Tryz.underlying67
 a53:=Tryz.isAgg67
 z53:=Tryz.sizeOf67
 v53:=Tryz.zeroValue67
 t70:=Tryz.underlying69
 a70:=Tryz.isAgg69
 z70:=Tryz.sizeOf69
 v70:=Tryz.zeroValue69
 t72:=Tryz.underlying72
 a72:=Tryz.isAgg72
 z72:=Tryz.sizeOf72
 v72:=Tryz.zeroValue72
 t75:=Tryz.underlying74
 a75:=Tryz.isAgg74
 z75:=Tryz.sizeOf74
 v75:=Tryz.zeroValue74
 t76:=Tryz.underlying75
 a76:=Tryz.isAgg75
 z76:=Tryz.sizeOf75
 v76:=Tryz.zeroValue75
 t109:=Tryz.underlying189
 a109:=Tryz.isAgg189
 z109:=Tryz.sizeOf189
 v109:=Tryz.zeroValue189
 t127:=Tryz.underlying101
 a127:=Tryz.isAgg101
 z127:=Tryz.sizeOf101
 v127:=Tryz.zeroValue101
 t146:=Tryz.underlying194
 a146:=Tryz.isAgg194
 z146:=Tryz.sizeOf194
 v146:=Tryz.zeroValue194
 t148:=Tryz.underlying196
 a148:=Tryz.isAgg196
 z148:=Tryz.sizeOf196
 v148:=Tryz.zeroValue196
 t164:=Tryz.underlying121
 a164:=Tryz.isAgg121
 z164:=Tryz.sizeOf121
 v164:=Tryz.zeroValue121
theorem bldX:Builder.Extra Tryz.prog zme where
 sizeBuilder:=by kernel_rfl
 liesBuilder:=by kernel_rfl
 t5:=Tryz.underlying5
 a5:=Tryz.isAgg5
 z5:=Tryz.sizeOf5
 v5:=Tryz.zeroValue5
 infoByte:=by kernel_rfl
 cellsByte:=by kernel_rfl
 sizeByte:=by kernel_rfl
 neB5:=by decide
def zku (x:z1b [(0,.v .str),(0,.v (.int .i64))]):Option (List UInt8) :=
 cond (decide (0<=x.2.1) && (decide (x.2.1<=9223372036854775807) && decide (x.1.length*x.2.1.toNat<=140737488355328))) (some (Lib.repeatL x.1 x.2.1.toNat)) none
def zoo:List A->Res:=z11 [(0,.v .str),(0,.v (.int .i64))] zku (z2i (.v .str) 2)
theorem z10q (glob:Nat->Option Dat):Contract Tryz.prog glob 107 zoo:=by
 refine Contract.hand ⟨_,Tryz.func107,by kernel_rfl,by decide⟩ ?_;intro w S vals ob x y har hS hg hy;obtain⟨s,c,u⟩:=x;cases u;unfold zku at hy;dsimp only at hy s c;cases hck:(decide (0<=c) && (decide (c<=9223372036854775807) && decide (s.length*c.toNat<=140737488355328))) with
 | false=>rw[hck] at hy;cases hy
 | true =>
 rw[hck] at hy;simp only[cond] at hy;cases hy;simp only[Bool.and_eq_true,decide_eq_true_eq] at hck;obtain⟨h0,h1,h2⟩:=hck;obtain⟨⟨v0,hv0,hA0,ho0⟩,_⟩:=har.rel 0 _ rfl;obtain⟨⟨v1,hv1,hA1,ho1⟩,_⟩:=har.rel 1 _ rfl;have hlen:=har.len;obtain⟨u0,u1,rfl⟩:∃ u0 u1,vals=[u0,u1]:=by
  have:vals.length=2:=by simpa[mkS,z2p] using hlen.symm
  match vals,this with
  | [a,b],_=>exact⟨a,b,rfl⟩
 simp at hv0 hv1;subst hv0;subst hv1;have e0:=hA0.str_inv;have e1:=hA1.int_inv;subst e0;subst e1;have hnone:∀ i,ob i=[]:=by
  intro i
  match i with
  | 0=>exact ho0
  | 1=>exact ho1
  | i+2=>exact har.out _ (by simp[mkS,z2p])
 have hc:((Int.toNat c:Nat):Int)=c:=Int.toNat_of_nonneg h0;have hr:=Any.strings_Repeat z1ci bldX ⟨⟨s⟩⟩ (Int.toNat c) w (Int.toNat_le.2 h1) h2;rw[hc] at hr;refine hr.mono ?_;rintro e w' ⟨rfl,hb⟩;refine⟨_,S,[],ob,rfl,⟨hb.size,fun k hk _=>hb.block k hk,hb.tape,hb.os,hb.output⟩,Lift.Sub.refl _,fun k o hk=>?_,fun k hk=>.inl hk,⟨⟨VR.str,rfl⟩,rfl⟩,(fun k hk=>by cases hk),.nil,?_,?_,har.inj,har.nd,fun i hi=>hi⟩
 . have h3:=hS k o hk;have:=hb.block k (z5c h3);simp only[hp] at h3 ⊢;rw[this];exact h3
 . intro i z hz hbx
   match i with
   | 0=>simp[mkS,z2p,AS.mk] at hz;subst hz;cases hbx
   | 1=>simp[mkS,z2p,AS.mk] at hz;subst hz;cases hbx
   | i+2=>simp[mkS,z2p] at hz
 . intro i k hk;rw[hnone i] at hk;cases hk
end
end Go.Proofs.YthdblfmolchhpaaGreatDoorLg
