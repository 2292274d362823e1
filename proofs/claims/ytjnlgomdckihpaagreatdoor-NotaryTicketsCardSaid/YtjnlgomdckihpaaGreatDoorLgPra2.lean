/- The plain functions that the law reaches, what their calls do, and what they give (own work, in one text). -/
import Derived.Test.YtjnlgomdckihpaaGreatDoorLgPra1
import Derived.Test.YtjnlgomdckihpaaGreatDoorLgW
import Derived.Test.YtjnlgomdckihpaaGreatDoorChecked
import Derived.Shelf.Strings.Repeat
import Derived.KernelRfl
set_option linter.all false
namespace Go.Proofs.YtjnlgomdckihpaaGreatDoorLg
open Go Go.Lift Go.Proofs Go.Shelf

def lays105_ren : Go.Shelf.Ren := ⟨fun | 105 => 84 | 212 => 93 | 99 => 94 | 165 => 95 | 166 => 33 | 170 => 96 | 169 => 34 | 263 => 99 | 264 => 100 | 206 => 101 | 240 => 52 | 241 => 102 | 276 => 68 | 277 => 105 | n => n, fun | 9 => 9 | 3 => 3 | 4 => 4 | 20 => 20 | 0 => 0 | 46 => 106 | 109 => 118 | 5 => 5 | 72 => 63 | 76 => 69 | 51 => 101 | 146 => 123 | 53 => 96 | 148 => 125 | 70 => 60 | 37 => 61 | 75 => 68 | 127 => 85 | 164 => 97 | 80 => 71 | n => n, fun | n => n⟩
theorem lays105 : Lays.n105 Tryz.prog lays105_ren where
  mixed := by kernel_rfl
  f99 := Tryz.func94.trans (congrArg some (by kernel_rfl))
  f105 := Tryz.func84.trans (congrArg some (by kernel_rfl))
  f165 := Tryz.func95.trans (congrArg some (by kernel_rfl))
  f166 := Tryz.func33.trans (congrArg some (by kernel_rfl))
  f169 := Tryz.func34.trans (congrArg some (by kernel_rfl))
  f170 := Tryz.func96.trans (congrArg some (by kernel_rfl))
  f206 := Tryz.func101.trans (congrArg some (by kernel_rfl))
  f212 := Tryz.func93.trans (congrArg some (by kernel_rfl))
  f240 := Tryz.func52.trans (congrArg some (by kernel_rfl))
  f241 := Tryz.func102.trans (congrArg some (by kernel_rfl))
  f263 := Tryz.func99.trans (congrArg some (by kernel_rfl))
  f264 := Tryz.func100.trans (congrArg some (by kernel_rfl))
  f276 := Tryz.func68.trans (congrArg some (by kernel_rfl))
  f277 := Tryz.func105.trans (congrArg some (by kernel_rfl))
  t0 := Tryz.underlying0
  a0 := Tryz.isAgg0
  z0 := Tryz.sizeOf0
  v0 := Tryz.zeroValue0
  t3 := Tryz.underlying3
  a3 := Tryz.isAgg3
  z3 := Tryz.sizeOf3
  v3 := Tryz.zeroValue3
  t4 := Tryz.underlying4
  a4 := Tryz.isAgg4
  z4 := Tryz.sizeOf4
  v4 := Tryz.zeroValue4
  t5 := Tryz.underlying5
  a5 := Tryz.isAgg5
  z5 := Tryz.sizeOf5
  v5 := Tryz.zeroValue5
  t9 := Tryz.underlying9
  a9 := Tryz.isAgg9
  z9 := Tryz.sizeOf9
  v9 := Tryz.zeroValue9
  t20 := Tryz.underlying20
  a20 := Tryz.isAgg20
  z20 := Tryz.sizeOf20
  v20 := Tryz.zeroValue20
  t37 := Tryz.underlying61
  a37 := Tryz.isAgg61
  z37 := Tryz.sizeOf61
  v37 := Tryz.zeroValue61
  t46 := Tryz.underlying106
  a46 := Tryz.isAgg106
  z46 := Tryz.sizeOf106
  v46 := Tryz.zeroValue106
  t51 := Tryz.underlying101
  a51 := Tryz.isAgg101
  z51 := Tryz.sizeOf101
  v51 := Tryz.zeroValue101
  t53 := Tryz.underlying96
  a53 := Tryz.isAgg96
  z53 := Tryz.sizeOf96
  v53 := Tryz.zeroValue96
  t70 := Tryz.underlying60
  a70 := Tryz.isAgg60
  z70 := Tryz.sizeOf60
  v70 := Tryz.zeroValue60
  t72 := Tryz.underlying63
  a72 := Tryz.isAgg63
  z72 := Tryz.sizeOf63
  v72 := Tryz.zeroValue63
  t75 := Tryz.underlying68
  a75 := Tryz.isAgg68
  z75 := Tryz.sizeOf68
  v75 := Tryz.zeroValue68
  t76 := Tryz.underlying69
  a76 := Tryz.isAgg69
  z76 := Tryz.sizeOf69
  v76 := Tryz.zeroValue69
  t109 := Tryz.underlying118
  a109 := Tryz.isAgg118
  z109 := Tryz.sizeOf118
  v109 := Tryz.zeroValue118
  t127 := Tryz.underlying85
  a127 := Tryz.isAgg85
  z127 := Tryz.sizeOf85
  v127 := Tryz.zeroValue85
  t146 := Tryz.underlying123
  a146 := Tryz.isAgg123
  z146 := Tryz.sizeOf123
  v146 := Tryz.zeroValue123
  t148 := Tryz.underlying125
  a148 := Tryz.isAgg125
  z148 := Tryz.sizeOf125
  v148 := Tryz.zeroValue125
  t164 := Tryz.underlying97
  a164 := Tryz.isAgg97
  z164 := Tryz.sizeOf97
  v164 := Tryz.zeroValue97
theorem bldX : Builder.Extra Tryz.prog lays105_ren where
  sizeBuilder := by kernel_rfl
  liesBuilder := by kernel_rfl
  t5 := Tryz.underlying5
  a5 := Tryz.isAgg5
  z5 := Tryz.sizeOf5
  v5 := Tryz.zeroValue5
  infoByte := by kernel_rfl
  cellsByte := by kernel_rfl
  sizeByte := by kernel_rfl
  neB5 := by decide

/-- strings.Repeat, where the result is no longer than one allocation may be -/
def repeat_F (x : denS [(0, .v .str), (0, .v (.int .i64))]) : Option (List UInt8) :=
  cond (decide (0 ≤ x.2.1) && (decide (x.2.1 ≤ 9223372036854775807) && decide (x.1.length * x.2.1.toNat ≤ 140737488355328))) (some (Lib.repeatL x.1 x.2.1.toNat)) none

def repeat_res : List A → Res := resOf [(0, .v .str), (0, .v (.int .i64))] repeat_F (oRes (.v .str) 2)

theorem repeat_ct (glob : Nat → Option Dat) : Contract Tryz.prog glob 84 repeat_res := by
  refine Contract.hand ⟨_, Tryz.func84, by kernel_rfl, by decide⟩ ?_
  intro w S vals ob x y har hS hg hy
  obtain ⟨s, c, u⟩ := x
  cases u
  unfold repeat_F at hy
  dsimp only at hy s c
  cases hck : (decide (0 ≤ c) && (decide (c ≤ 9223372036854775807) && decide (s.length * c.toNat ≤ 140737488355328))) with
  | false => rw [hck] at hy; cases hy
  | true =>
  rw [hck] at hy
  simp only [cond] at hy
  cases hy
  simp only [Bool.and_eq_true, decide_eq_true_eq] at hck
  obtain ⟨h0, h1, h2⟩ := hck
  obtain ⟨⟨v0, hv0, hA0, ho0⟩, _⟩ := har.rel 0 _ rfl
  obtain ⟨⟨v1, hv1, hA1, ho1⟩, _⟩ := har.rel 1 _ rfl
  have hlen := har.len
  obtain ⟨u0, u1, rfl⟩ : ∃ u0 u1, vals = [u0, u1] := by
    have : vals.length = 2 := by simpa [mkS, deads] using hlen.symm
    match vals, this with
    | [a, b], _ => exact ⟨a, b, rfl⟩
  simp at hv0 hv1
  subst hv0; subst hv1
  have e0 := hA0.str_inv
  have e1 := hA1.int_inv
  subst e0; subst e1
  have hnone : ∀ i, ob i = [] := by
    intro i
    match i with
    | 0 => exact ho0
    | 1 => exact ho1
    | i + 2 => exact har.out _ (by simp [mkS, deads])
  have hc : ((Int.toNat c : Nat) : Int) = c := Int.toNat_of_nonneg h0
  have hr := Any.strings_Repeat lays105 bldX ⟨⟨s⟩⟩ (Int.toNat c) w (Int.toNat_le.2 h1) h2
  rw [hc] at hr
  refine hr.mono ?_
  rintro e w' ⟨rfl, hb⟩
  refine ⟨_, S, [], ob, rfl, ⟨hb.size, fun k hk _ => hb.block k hk, hb.tape, hb.os, hb.output⟩, Lift.Sub.refl _, fun k o hk => ?_, fun k hk => .inl hk, ⟨⟨VR.str, rfl⟩, rfl⟩, (fun k hk => by cases hk), .nil, ?_, ?_, har.inj, har.nd, fun i hi => hi⟩
  · have h3 := hS k o hk
    have := hb.block k (hp_lt h3)
    simp only [hp] at h3 ⊢
    rw [this]; exact h3
  · intro i z hz hbx
    match i with
    | 0 => simp [mkS, deads, AS.mk] at hz; subst hz; cases hbx
    | 1 => simp [mkS, deads, AS.mk] at hz; subst hz; cases hbx
    | i + 2 => simp [mkS, deads] at hz
  · intro i k hk
    rw [hnone i] at hk; cases hk
end Go.Proofs.YtjnlgomdckihpaaGreatDoorLg

