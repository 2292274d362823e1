import Derived.Test.YtlhdohlpilippaaDoorLgPrVh2
import Derived.Test.YtlhdohlpilippaaDoorLgW
import Derived.Test.YtlhdohlpilippaaDoorChecked
import Derived.Shelf.Strings.Repeat
import Derived.KernelRfl
set_option linter.all false
namespace Go.Proofs.YtlhdohlpilippaaDoorLg
noncomputable section
open Go Go.Lift Go.Proofs Go.Shelf
def zls:Go.Shelf.Ren:=⟨fun|105=>67|212=>77|99=>78|165=>79|166=>32|170=>80|169=>33|263=>86|264=>87|206=>88|240=>54|241=>89|276=>69|277=>93|n=>n,fun|9=>9|3=>3|4=>4|20=>20|0=>0|46=>134|109=>135|5=>5|72=>73|76=>79|51=>125|146=>141|53=>115|148=>143|70=>70|37=>71|75=>78|127=>102|164=>116|80=>81|n=>n,fun|n=>n⟩
theorem z189:Lays.n105 Tryd.prog zls where
 mixed:=by kernel_rfl
 f99:=Tryd.func78.trans (congrArg some (by kernel_rfl))
 f105:=Tryd.func67.trans (congrArg some (by kernel_rfl))
 f165:=Tryd.func79.trans (congrArg some (by kernel_rfl))
 f166:=Tryd.func32.trans (congrArg some (by kernel_rfl))
 f169:=Tryd.func33.trans (congrArg some (by kernel_rfl))
 f170:=Tryd.func80.trans (congrArg some (by kernel_rfl))
 f206:=Tryd.func88.trans (congrArg some (by kernel_rfl))
 f212:=Tryd.func77.trans (congrArg some (by kernel_rfl))
 f240:=Tryd.func54.trans (congrArg some (by kernel_rfl))
 f241:=Tryd.func89.trans (congrArg some (by kernel_rfl))
 f263:=Tryd.func86.trans (congrArg some (by kernel_rfl))
 f264:=Tryd.func87.trans (congrArg some (by kernel_rfl))
 f276:=Tryd.func69.trans (congrArg some (by kernel_rfl))
 f277:=Tryd.func93.trans (congrArg some (by kernel_rfl))
 t0:=Tryd.underlying0
 a0:=Tryd.isAgg0
 z0:=Tryd.sizeOf0
 v0:=Tryd.zeroValue0
 t3:=Tryd.underlying3
 a3:=Tryd.isAgg3
 z3:=Tryd.sizeOf3
 v3:=Tryd.zeroValue3
 t4:=Tryd.underlying4
 a4:=Tryd.isAgg4
 z4:=Tryd.sizeOf4
 v4:=Tryd.zeroValue4
 t5:=Tryd.underlying5
 a5:=Tryd.isAgg5
 z5:=Tryd.sizeOf5
 v5:=Tryd.zeroValue5
 t9:=Tryd.underlying9
 a9:=Tryd.isAgg9
 z9:=Tryd.sizeOf9
 v9:=Tryd.zeroValue9
 t20:=Tryd.underlying20
 a20:=Tryd.isAgg20
 z20:=Tryd.sizeOf20
 v20:=Tryd.zeroValue20
 t37:=Tryd.underlying71
 a37:=Tryd.isAgg71
 z37:=Tryd.sizeOf71
 v37:=Tryd.zeroValue71
 t46:=Tryd.underlying134
 a46:=Tryd.isAgg134
 z46:=Tryd.sizeOf134
 v46:=Tryd.zeroValue134
 t51:=Tryd.underlying125
 a51:=Tryd.isAgg125
 z51:=Tryd.sizeOf125
 v51:=Tryd.zeroValue125
 t53:=Tryd.underlying115
 a53:=Tryd.isAgg115
 z53:=Tryd.sizeOf115
 v53:=Tryd.zeroValue115
 t70:=Tryd.underlying70
 a70:=Tryd.isAgg70
 z70:=Tryd.sizeOf70
 v70:=Tryd.zeroValue70
 t72:=Tryd.underlying73
 a72:=Tryd.isAgg73
 z72:=Tryd.sizeOf73
 v72:=Tryd.zeroValue73
 t75:=Tryd.underlying78
 a75:=Tryd.isAgg78
 z75:=Tryd.sizeOf78
 v75:=Tryd.zeroValue78
 t76:=Tryd.underlying79
 a76:=Tryd.isAgg79
 z76:=Tryd.sizeOf79
 v76:=Tryd.zeroValue79
 t109:=Tryd.underlying135
 a109:=Tryd.isAgg135
 z109:=Tryd.sizeOf135
 v109:=Tryd.zeroValue135
 t127:=Tryd.underlying102
 a127:=Tryd.isAgg102
 z127:=Tryd.sizeOf102
 v127:=Tryd.zeroValue102
 t146:=Tryd.underlying141
 a146:=Tryd.isAgg141
 z146:=Tryd.sizeOf141
 v146:=Tryd.zeroValue141
 t148:=Tryd.underlying143
 a148:=Tryd.isAgg143
 z148:=Tryd.sizeOf143
 v148:=Tryd.zeroValue143
 t164:=Tryd.underlying116
 a164:=Tryd.isAgg116
 z164:=Tryd.sizeOf116
 v164:=Tryd.zeroValue116
theorem bldX:Builder.Extra Tryd.prog zls where
 sizeBuilder:=by kernel_rfl
 liesBuilder:=by kernel_rfl
 t5:=Tryd.underlying5
 a5:=Tryd.isAgg5
 z5:=Tryd.sizeOf5
 v5:=Tryd.zeroValue5
 infoByte:=by kernel_rfl
 cellsByte:=by kernel_rfl
 sizeByte:=by kernel_rfl
 neB5:=by decide
def zk6 (x:z1k [(0,.v .str),(0,.v (.int .i64))]):Option (List UInt8) :=
 cond (decide (0<=x.2.1) && (decide (x.2.1<=9223372036854775807) && decide (x.1.length*x.2.1.toNat<=140737488355328))) (some (Lib.repeatL x.1 x.2.1.toNat)) none
def znm:List A->Res:=z14 [(0,.v .str),(0,.v (.int .i64))] zk6 (z3r (.v .str) 2)
theorem zyn (glob:Nat->Option Dat):Contract Tryd.prog glob 67 znm:=by
 refine Contract.hand ⟨_,Tryd.func67,by kernel_rfl,by decide⟩ ?_;intro w S vals ob x y har hS hg hy;obtain⟨s,c,u⟩:=x;cases u;unfold zk6 at hy;dsimp only at hy s c;cases hck:(decide (0<=c) && (decide (c<=9223372036854775807) && decide (s.length*c.toNat<=140737488355328))) with
 | false=>rw[hck] at hy;cases hy
 | true =>
 rw[hck] at hy;simp only[cond] at hy;cases hy;simp only[Bool.and_eq_true,decide_eq_true_eq] at hck;obtain⟨h0,h1,h2⟩:=hck;obtain⟨⟨v0,hv0,hA0,ho0⟩,_⟩:=har.rel 0 _ rfl;obtain⟨⟨v1,hv1,hA1,ho1⟩,_⟩:=har.rel 1 _ rfl;have hlen:=har.len;obtain⟨u0,u1,rfl⟩:∃ u0 u1,vals=[u0,u1]:=by
  have:vals.length=2:=by simpa[mkS,z39] using hlen.symm
  match vals,this with
  | [a,b],_=>exact⟨a,b,rfl⟩
 simp at hv0 hv1;subst hv0;subst hv1;have e0:=hA0.str_inv;have e1:=hA1.int_inv;subst e0;subst e1;have hnone:∀ i,ob i=[]:=by
  intro i
  match i with
  | 0=>exact ho0
  | 1=>exact ho1
  | i+2=>exact har.out _ (by simp[mkS,z39])
 have hc:((Int.toNat c:Nat):Int)=c:=Int.toNat_of_nonneg h0;have hr:=Any.strings_Repeat z189 bldX ⟨⟨s⟩⟩ (Int.toNat c) w (Int.toNat_le.2 h1) h2;rw[hc] at hr;refine hr.mono ?_;rintro e w' ⟨rfl,hb⟩;refine⟨_,S,[],ob,rfl,⟨hb.size,fun k hk _=>hb.block k hk,hb.tape,hb.os,hb.output⟩,Lift.Sub.refl _,fun k o hk=>?_,fun k hk=>.inl hk,⟨⟨VR.str,rfl⟩,rfl⟩,(fun k hk=>by cases hk),.nil,?_,?_,har.inj,har.nd,fun i hi=>hi⟩
 . have h3:=hS k o hk;have:=hb.block k (z5w h3);simp only[hp] at h3 ⊢;rw[this];exact h3
 . intro i z hz hbx
   match i with
   | 0=>simp[mkS,z39,AS.mk] at hz;subst hz;cases hbx
   | 1=>simp[mkS,z39,AS.mk] at hz;subst hz;cases hbx
   | i+2=>simp[mkS,z39] at hz
 . intro i k hk;rw[hnone i] at hk;cases hk
end
end Go.Proofs.YtlhdohlpilippaaDoorLg
