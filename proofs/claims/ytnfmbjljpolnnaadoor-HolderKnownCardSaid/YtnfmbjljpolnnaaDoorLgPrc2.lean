/- The plain functions that the law reaches, what their calls do, and what they give (own work, in one text). -/
import Derived.Test.YtnfmbjljpolnnaaDoorLgPrc1
import Derived.Test.YtnfmbjljpolnnaaDoorLgW
import Derived.Test.YtnfmbjljpolnnaaDoorChecked
import Derived.Shelf.Strings.Repeat
import Derived.KernelRfl
set_option linter.all false
namespace Go.Proofs.YtnfmbjljpolnnaaDoorLg
open Go Go.Lift Go.Proofs Go.Shelf

def lays105_ren : Go.Shelf.Ren := ⟨fun | 105 => 85 | 212 => 97 | 99 => 98 | 165 => 99 | 166 => 63 | 170 => 100 | 169 => 64 | 263 => 103 | 264 => 104 | 206 => 105 | 240 => 81 | 241 => 106 | 276 => 92 | 277 => 109 | n => n, fun | 9 => 9 | 3 => 3 | 4 => 4 | 20 => 20 | 0 => 0 | 46 => 108 | 109 => 118 | 5 => 5 | 72 => 84 | 76 => 90 | 51 => 97 | 146 => 123 | 53 => 107 | 148 => 125 | 70 => 82 | 37 => 81 | 75 => 89 | 127 => 103 | 164 => 110 | 80 => 92 | n => n, fun | n => n⟩
theorem lays105 : Lays.n105 Tryd.prog lays105_ren where
  mixed := by kernel_rfl
  f99 := Tryd.func98.trans (congrArg some (by kernel_rfl))
  f105 := Tryd.func85.trans (congrArg some (by kernel_rfl))
  f165 := Tryd.func99.trans (congrArg some (by kernel_rfl))
  f166 := Tryd.func63.trans (congrArg some (by kernel_rfl))
  f169 := Tryd.func64.trans (congrArg some (by kernel_rfl))
  f170 := Tryd.func100.trans (congrArg some (by kernel_rfl))
  f206 := Tryd.func105.trans (congrArg some (by kernel_rfl))
  f212 := Tryd.func97.trans (congrArg some (by kernel_rfl))
  f240 := Tryd.func81.trans (congrArg some (by kernel_rfl))
  f241 := Tryd.func106.trans (congrArg some (by kernel_rfl))
  f263 := Tryd.func103.trans (congrArg some (by kernel_rfl))
  f264 := Tryd.func104.trans (congrArg some (by kernel_rfl))
  f276 := Tryd.func92.trans (congrArg some (by kernel_rfl))
  f277 := Tryd.func109.trans (congrArg some (by kernel_rfl))
  t0 := Tryd.underlying0
  a0 := Tryd.isAgg0
  z0 := Tryd.sizeOf0
  v0 := Tryd.zeroValue0
  t3 := Tryd.underlying3
  a3 := Tryd.isAgg3
  z3 := Tryd.sizeOf3
  v3 := Tryd.zeroValue3
  t4 := Tryd.underlying4
  a4 := Tryd.isAgg4
  z4 := Tryd.sizeOf4
  v4 := Tryd.zeroValue4
  t5 := Tryd.underlying5
  a5 := Tryd.isAgg5
  z5 := Tryd.sizeOf5
  v5 := Tryd.zeroValue5
  t9 := Tryd.underlying9
  a9 := Tryd.isAgg9
  z9 := Tryd.sizeOf9
  v9 := Tryd.zeroValue9
  t20 := Tryd.underlying20
  a20 := Tryd.isAgg20
  z20 := Tryd.sizeOf20
  v20 := Tryd.zeroValue20
  t37 := Tryd.underlying81
  a37 := Tryd.isAgg81
  z37 := Tryd.sizeOf81
  v37 := Tryd.zeroValue81
  t46 := Tryd.underlying108
  a46 := Tryd.isAgg108
  z46 := Tryd.sizeOf108
  v46 := Tryd.zeroValue108
  t51 := Tryd.underlying97
  a51 := Tryd.isAgg97
  z51 := Tryd.sizeOf97
  v51 := Tryd.zeroValue97
  t53 := Tryd.underlying107
  a53 := Tryd.isAgg107
  z53 := Tryd.sizeOf107
  v53 := Tryd.zeroValue107
  t70 := Tryd.underlying82
  a70 := Tryd.isAgg82
  z70 := Tryd.sizeOf82
  v70 := Tryd.zeroValue82
  t72 := Tryd.underlying84
  a72 := Tryd.isAgg84
  z72 := Tryd.sizeOf84
  v72 := Tryd.zeroValue84
  t75 := Tryd.underlying89
  a75 := Tryd.isAgg89
  z75 := Tryd.sizeOf89
  v75 := Tryd.zeroValue89
  t76 := Tryd.underlying90
  a76 := Tryd.isAgg90
  z76 := Tryd.sizeOf90
  v76 := Tryd.zeroValue90
  t109 := Tryd.underlying118
  a109 := Tryd.isAgg118
  z109 := Tryd.sizeOf118
  v109 := Tryd.zeroValue118
  t127 := Tryd.underlying103
  a127 := Tryd.isAgg103
  z127 := Tryd.sizeOf103
  v127 := Tryd.zeroValue103
  t146 := Tryd.underlying123
  a146 := Tryd.isAgg123
  z146 := Tryd.sizeOf123
  v146 := Tryd.zeroValue123
  t148 := Tryd.underlying125
  a148 := Tryd.isAgg125
  z148 := Tryd.sizeOf125
  v148 := Tryd.zeroValue125
  t164 := Tryd.underlying110
  a164 := Tryd.isAgg110
  z164 := Tryd.sizeOf110
  v164 := Tryd.zeroValue110
theorem bldX : Builder.Extra Tryd.prog lays105_ren where
  sizeBuilder := by kernel_rfl
  liesBuilder := by kernel_rfl
  t5 := Tryd.underlying5
  a5 := Tryd.isAgg5
  z5 := Tryd.sizeOf5
  v5 := Tryd.zeroValue5
  infoByte := by kernel_rfl
  cellsByte := by kernel_rfl
  sizeByte := by kernel_rfl
  neB5 := by decide

/-- strings.Repeat, where the result is no longer than one allocation may be -/
def repeat_F (x : denS [(0, .v .str), (0, .v (.int .i64))]) : Option (List UInt8) :=
  cond (decide (0 ≤ x.2.1) && (decide (x.2.1 ≤ 9223372036854775807) && decide (x.1.length * x.2.1.toNat ≤ 140737488355328))) (some (Lib.repeatL x.1 x.2.1.toNat)) none

def repeat_res : List A → Res := resOf [(0, .v .str), (0, .v (.int .i64))] repeat_F (oRes (.v .str) 2)

theorem repeat_ct (glob : Nat → Option Dat) : Contract Tryd.prog glob 85 repeat_res := by
  refine Contract.hand ⟨_, Tryd.func85, by kernel_rfl, by decide⟩ ?_
  intro w S vals ob x y har hS hg hy
  obtain ⟨s, c, u⟩ := x
  cases u
  unfold repeat_F at hy
  dsimp only at hy s c
  cases hck : (decide (0 ≤ c) && (decide (c ≤ 9223372036854775807) && decide (s.length * c.toNat ≤ 140737488355328))) with
  | false => rw [hck] at hy; cases hy
  | true =>
  rw [hck] at hy
  simp only [cond] at hy
  cases hy
  simp only [Bool.and_eq_true, decide_eq_true_eq] at hck
  obtain ⟨h0, h1, h2⟩ := hck
  obtain ⟨⟨v0, hv0, hA0, ho0⟩, _⟩ := har.rel 0 _ rfl
  obtain ⟨⟨v1, hv1, hA1, ho1⟩, _⟩ := har.rel 1 _ rfl
  have hlen := har.len
  obtain ⟨u0, u1, rfl⟩ : ∃ u0 u1, vals = [u0, u1] := by
    have : vals.length = 2 := by simpa [mkS, deads] using hlen.symm
    match vals, this with
    | [a, b], _ => exact ⟨a, b, rfl⟩
  simp at hv0 hv1
  subst hv0; subst hv1
  have e0 := hA0.str_inv
  have e1 := hA1.int_inv
  subst e0; subst e1
  have hnone : ∀ i, ob i = [] := by
    intro i
    match i with
    | 0 => exact ho0
    | 1 => exact ho1
    | i + 2 => exact har.out _ (by simp [mkS, deads])
  have hc : ((Int.toNat c : Nat) : Int) = c := Int.toNat_of_nonneg h0
  have hr := Any.strings_Repeat lays105 bldX ⟨⟨s⟩⟩ (Int.toNat c) w (Int.toNat_le.2 h1) h2
  rw [hc] at hr
  refine hr.mono ?_
  rintro e w' ⟨rfl, hb⟩
  refine ⟨_, S, [], ob, rfl, ⟨hb.size, fun k hk _ => hb.block k hk, hb.tape, hb.os, hb.output⟩, Lift.Sub.refl _, fun k o hk => ?_, fun k hk => .inl hk, ⟨⟨VR.str, rfl⟩, rfl⟩, (fun k hk => by cases hk), .nil, ?_, ?_, har.inj, har.nd, fun i hi => hi⟩
  · have h3 := hS k o hk
    have := hb.block k (hp_lt h3)
    simp only [hp] at h3 ⊢
    rw [this]; exact h3
  · intro i z hz hbx
    match i with
    | 0 => simp [mkS, deads, AS.mk] at hz; subst hz; cases hbx
    | 1 => simp [mkS, deads, AS.mk] at hz; subst hz; cases hbx
    | i + 2 => simp [mkS, deads] at hz
  · intro i k hk
    rw [hnone i] at hk; cases hk
end Go.Proofs.YtnfmbjljpolnnaaDoorLg

