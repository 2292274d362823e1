/- The plain functions that the law reaches, what their calls do, and what they give (own work, in one text). -/
import Derived.Test.YtjnlgomdckihpaaDoorLgPra1
import Derived.Test.YtjnlgomdckihpaaDoorLgW
import Derived.Test.YtjnlgomdckihpaaDoorChecked
import Derived.Shelf.Strings.Repeat
import Derived.KernelRfl
set_option linter.all false
namespace Go.Proofs.YtjnlgomdckihpaaDoorLg
open Go Go.Lift Go.Proofs Go.Shelf

def lays105_ren : Go.Shelf.Ren := ⟨fun | 105 => 66 | 212 => 77 | 99 => 78 | 165 => 79 | 166 => 26 | 170 => 80 | 169 => 27 | 263 => 91 | 264 => 92 | 206 => 93 | 240 => 44 | 241 => 94 | 276 => 58 | 277 => 99 | n => n, fun | 9 => 9 | 3 => 3 | 4 => 4 | 20 => 20 | 0 => 0 | 46 => 92 | 109 => 107 | 5 => 5 | 72 => 59 | 76 => 65 | 51 => 99 | 146 => 117 | 53 => 89 | 148 => 119 | 70 => 56 | 37 => 57 | 75 => 64 | 127 => 80 | 164 => 90 | 80 => 67 | n => n, fun | n => n⟩
theorem lays105 : Lays.n105 Tryd.prog lays105_ren where
  mixed := by kernel_rfl
  f99 := Tryd.func78.trans (congrArg some (by kernel_rfl))
  f105 := Tryd.func66.trans (congrArg some (by kernel_rfl))
  f165 := Tryd.func79.trans (congrArg some (by kernel_rfl))
  f166 := Tryd.func26.trans (congrArg some (by kernel_rfl))
  f169 := Tryd.func27.trans (congrArg some (by kernel_rfl))
  f170 := Tryd.func80.trans (congrArg some (by kernel_rfl))
  f206 := Tryd.func93.trans (congrArg some (by kernel_rfl))
  f212 := Tryd.func77.trans (congrArg some (by kernel_rfl))
  f240 := Tryd.func44.trans (congrArg some (by kernel_rfl))
  f241 := Tryd.func94.trans (congrArg some (by kernel_rfl))
  f263 := Tryd.func91.trans (congrArg some (by kernel_rfl))
  f264 := Tryd.func92.trans (congrArg some (by kernel_rfl))
  f276 := Tryd.func58.trans (congrArg some (by kernel_rfl))
  f277 := Tryd.func99.trans (congrArg some (by kernel_rfl))
  t0 := Tryd.underlying0
  a0 := Tryd.isAgg0
  z0 := Tryd.sizeOf0
  v0 := Tryd.zeroValue0
  t3 := Tryd.underlying3
  a3 := Tryd.isAgg3
  z3 := Tryd.sizeOf3
  v3 := Tryd.zeroValue3
  t4 := Tryd.underlying4
  a4 := Tryd.isAgg4
  z4 := Tryd.sizeOf4
  v4 := Tryd.zeroValue4
  t5 := Tryd.underlying5
  a5 := Tryd.isAgg5
  z5 := Tryd.sizeOf5
  v5 := Tryd.zeroValue5
  t9 := Tryd.underlying9
  a9 := Tryd.isAgg9
  z9 := Tryd.sizeOf9
  v9 := Tryd.zeroValue9
  t20 := Tryd.underlying20
  a20 := Tryd.isAgg20
  z20 := Tryd.sizeOf20
  v20 := Tryd.zeroValue20
  t37 := Tryd.underlying57
  a37 := Tryd.isAgg57
  z37 := Tryd.sizeOf57
  v37 := Tryd.zeroValue57
  t46 := Tryd.underlying92
  a46 := Tryd.isAgg92
  z46 := Tryd.sizeOf92
  v46 := Tryd.zeroValue92
  t51 := Tryd.underlying99
  a51 := Tryd.isAgg99
  z51 := Tryd.sizeOf99
  v51 := Tryd.zeroValue99
  t53 := Tryd.underlying89
  a53 := Tryd.isAgg89
  z53 := Tryd.sizeOf89
  v53 := Tryd.zeroValue89
  t70 := Tryd.underlying56
  a70 := Tryd.isAgg56
  z70 := Tryd.sizeOf56
  v70 := Tryd.zeroValue56
  t72 := Tryd.underlying59
  a72 := Tryd.isAgg59
  z72 := Tryd.sizeOf59
  v72 := Tryd.zeroValue59
  t75 := Tryd.underlying64
  a75 := Tryd.isAgg64
  z75 := Tryd.sizeOf64
  v75 := Tryd.zeroValue64
  t76 := Tryd.underlying65
  a76 := Tryd.isAgg65
  z76 := Tryd.sizeOf65
  v76 := Tryd.zeroValue65
  t109 := Tryd.underlying107
  a109 := Tryd.isAgg107
  z109 := Tryd.sizeOf107
  v109 := Tryd.zeroValue107
  t127 := Tryd.underlying80
  a127 := Tryd.isAgg80
  z127 := Tryd.sizeOf80
  v127 := Tryd.zeroValue80
  t146 := Tryd.underlying117
  a146 := Tryd.isAgg117
  z146 := Tryd.sizeOf117
  v146 := Tryd.zeroValue117
  t148 := Tryd.underlying119
  a148 := Tryd.isAgg119
  z148 := Tryd.sizeOf119
  v148 := Tryd.zeroValue119
  t164 := Tryd.underlying90
  a164 := Tryd.isAgg90
  z164 := Tryd.sizeOf90
  v164 := Tryd.zeroValue90
theorem bldX : Builder.Extra Tryd.prog lays105_ren where
  sizeBuilder := by kernel_rfl
  liesBuilder := by kernel_rfl
  t5 := Tryd.underlying5
  a5 := Tryd.isAgg5
  z5 := Tryd.sizeOf5
  v5 := Tryd.zeroValue5
  infoByte := by kernel_rfl
  cellsByte := by kernel_rfl
  sizeByte := by kernel_rfl
  neB5 := by decide

/-- strings.Repeat, where the result is no longer than one allocation may be -/
def repeat_F (x : denS [(0, .v .str), (0, .v (.int .i64))]) : Option (List UInt8) :=
  cond (decide (0 ≤ x.2.1) && (decide (x.2.1 ≤ 9223372036854775807) && decide (x.1.length * x.2.1.toNat ≤ 140737488355328))) (some (Lib.repeatL x.1 x.2.1.toNat)) none

def repeat_res : List A → Res := resOf [(0, .v .str), (0, .v (.int .i64))] repeat_F (oRes (.v .str) 2)

theorem repeat_ct (glob : Nat → Option Dat) : Contract Tryd.prog glob 66 repeat_res := by
  refine Contract.hand ⟨_, Tryd.func66, by kernel_rfl, by decide⟩ ?_
  intro w S vals ob x y har hS hg hy
  obtain ⟨s, c, u⟩ := x
  cases u
  unfold repeat_F at hy
  dsimp only at hy s c
  cases hck : (decide (0 ≤ c) && (decide (c ≤ 9223372036854775807) && decide (s.length * c.toNat ≤ 140737488355328))) with
  | false => rw [hck] at hy; cases hy
  | true =>
  rw [hck] at hy
  simp only [cond] at hy
  cases hy
  simp only [Bool.and_eq_true, decide_eq_true_eq] at hck
  obtain ⟨h0, h1, h2⟩ := hck
  obtain ⟨⟨v0, hv0, hA0, ho0⟩, _⟩ := har.rel 0 _ rfl
  obtain ⟨⟨v1, hv1, hA1, ho1⟩, _⟩ := har.rel 1 _ rfl
  have hlen := har.len
  obtain ⟨u0, u1, rfl⟩ : ∃ u0 u1, vals = [u0, u1] := by
    have : vals.length = 2 := by simpa [mkS, deads] using hlen.symm
    match vals, this with
    | [a, b], _ => exact ⟨a, b, rfl⟩
  simp at hv0 hv1
  subst hv0; subst hv1
  have e0 := hA0.str_inv
  have e1 := hA1.int_inv
  subst e0; subst e1
  have hnone : ∀ i, ob i = [] := by
    intro i
    match i with
    | 0 => exact ho0
    | 1 => exact ho1
    | i + 2 => exact har.out _ (by simp [mkS, deads])
  have hc : ((Int.toNat c : Nat) : Int) = c := Int.toNat_of_nonneg h0
  have hr := Any.strings_Repeat lays105 bldX ⟨⟨s⟩⟩ (Int.toNat c) w (Int.toNat_le.2 h1) h2
  rw [hc] at hr
  refine hr.mono ?_
  rintro e w' ⟨rfl, hb⟩
  refine ⟨_, S, [], ob, rfl, ⟨hb.size, fun k hk _ => hb.block k hk, hb.tape, hb.os, hb.output⟩, Lift.Sub.refl _, fun k o hk => ?_, fun k hk => .inl hk, ⟨⟨VR.str, rfl⟩, rfl⟩, (fun k hk => by cases hk), .nil, ?_, ?_, har.inj, har.nd, fun i hi => hi⟩
  · have h3 := hS k o hk
    have := hb.block k (hp_lt h3)
    simp only [hp] at h3 ⊢
    rw [this]; exact h3
  · intro i z hz hbx
    match i with
    | 0 => simp [mkS, deads, AS.mk] at hz; subst hz; cases hbx
    | 1 => simp [mkS, deads, AS.mk] at hz; subst hz; cases hbx
    | i + 2 => simp [mkS, deads] at hz
  · intro i k hk
    rw [hnone i] at hk; cases hk
end Go.Proofs.YtjnlgomdckihpaaDoorLg

