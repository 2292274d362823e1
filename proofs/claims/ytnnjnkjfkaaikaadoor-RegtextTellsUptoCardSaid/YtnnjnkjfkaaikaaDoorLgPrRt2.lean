import Derived.Test.YtnnjnkjfkaaikaaDoorLgPrRt1
import Derived.Test.YtnnjnkjfkaaikaaDoorLgW
import Derived.Test.YtnnjnkjfkaaikaaDoorChecked
import Derived.Shelf.Strings.Search1
import Derived.KernelRfl
set_option linter.all false
namespace Go.Proofs.YtnnjnkjfkaaikaaDoorLg
noncomputable section
open Go Go.Lift Go.Proofs Go.Shelf
def zwl:Go.Shelf.Ren:=⟨fun|217=>65|266=>68|n=>n,fun|9=>9|5=>5|3=>3|n=>n,fun|n=>n⟩
theorem z1bv:Lays.n217 Tryd.prog zwl where
 mixed:=by kernel_rfl
 f217:=Tryd.func65.trans (congrArg some (by kernel_rfl))
 f266:=Tryd.func68.trans (congrArg some (by kernel_rfl))
 t3:=Tryd.underlying3
 a3:=Tryd.isAgg3
 z3:=Tryd.sizeOf3
 v3:=Tryd.zeroValue3
 t5:=Tryd.underlying5
 a5:=Tryd.isAgg5
 z5:=Tryd.sizeOf5
 v5:=Tryd.zeroValue5
 t9:=Tryd.underlying9
 a9:=Tryd.isAgg9
 z9:=Tryd.sizeOf9
 v9:=Tryd.zeroValue9
def z1ja (x:zw [(0,.v .str),(0,.v (.int .u8))]):Option Int:=some (Lib.indexByte x.1 x.2.1.toNat.toUInt8)
def z13l:List A->Res:=zy [(0,.v .str),(0,.v (.int .u8))] z1ja (z6e (.v (.int .i64)) 2)
theorem z1j9 (glob:Nat->Option Dat):Contract Tryd.prog glob 65 z13l:=by
 refine Contract.hand ⟨_,Tryd.func65,by kernel_rfl,by decide⟩ ?_;intro w S vals ob x y har hS hg hy;obtain⟨s,c,u⟩:=x;cases u;unfold z1ja at hy;dsimp only at hy s c;cases hy;obtain⟨⟨v0,hv0,hA0,ho0⟩,_⟩:=har.rel 0 _ rfl;obtain⟨⟨v1,hv1,hA1,ho1⟩,_⟩:=har.rel 1 _ rfl;have hlen:=har.len;obtain⟨u0,u1,rfl⟩:∃ u0 u1,vals=[u0,u1]:=by
  have:vals.length=2:=by simpa[mkS,zbk] using hlen.symm
  match vals,this with
  | [a,b],_=>exact⟨a,b,rfl⟩
 simp at hv0 hv1;subst hv0;subst hv1;have e0:=hA0.str_inv;subst e0;have e1:=hA1.int_inv;subst e1;have hnone:∀ i,ob i=[]:=by
  intro i
  match i with
  | 0=>exact ho0
  | 1=>exact ho1
  | i+2=>exact har.out _ (by simp[mkS,zbk])
 refine (Any.stringslite_IndexByte z1bv ⟨⟨s⟩⟩ c w).mono ?_;rintro e w' ⟨rfl,rfl⟩;refine⟨_,S,[],ob,rfl,WF.refl _ _,Lift.Sub.refl _,hS,fun k hk=>.inl hk,⟨⟨VR.int,rfl⟩,rfl⟩,(fun k hk=>by cases hk),.nil,?_,?_,har.inj,har.nd,fun i hi=>hi⟩
 . intro i z hz hbx
   match i with
   | 0=>simp[mkS,zbk,AS.mk] at hz;subst hz;cases hbx
   | 1=>simp[mkS,zbk,AS.mk] at hz;subst hz;cases hbx
   | i+2=>simp[mkS,zbk] at hz
 . intro i k hk;rw[hnone i] at hk;cases hk
end
end Go.Proofs.YtnnjnkjfkaaikaaDoorLg
