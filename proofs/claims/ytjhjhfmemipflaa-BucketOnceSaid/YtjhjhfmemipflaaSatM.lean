/- Products of ints that go no further than the ends: mathematics alone. -/
import Derived.Test.YtjhjhfmemipflaaPxA
set_option linter.all false
namespace Go.Proofs.YtjhjhfmemipflaaPx
open Go Go.Lift

def clip (x : Int) : Int := if 9223372036854775807 < x then 9223372036854775807 else if x < -9223372036854775808 then -9223372036854775808 else x

theorem clip_in {x : Int} (h : I64 x) : clip x = x := by unfold clip I64 at *; rw [if_neg (by omega), if_neg (by omega)]
theorem clip_hi {x : Int} (h : 9223372036854775807 < x) : clip x = 9223372036854775807 := by unfold clip; rw [if_pos h]
theorem clip_lo {x : Int} (h : x < -9223372036854775808) : clip x = -9223372036854775808 := by unfold clip; rw [if_neg (by omega), if_pos h]
theorem clip_i64 (x : Int) : I64 (clip x) := by unfold clip I64; repeat' split <;> omega

/-- |b|·|x tdiv b| ≤ |x| and what is left is less than |b| -/
theorem tdiv_near (w b : Int) (hb : b ≠ 0) : (w - (w.tdiv b) * b).natAbs < b.natAbs := by
  have := Int.mul_tdiv_add_tmod w b
  have h2 : w - (w.tdiv b) * b = w.tmod b := by rw [Int.mul_comm]; omega
  rw [h2, Int.natAbs_tmod]
  exact Nat.mod_lt _ (by omega)

theorem tdiv_abs (w b : Int) : (w.tdiv b).natAbs ≤ w.natAbs := by
  rw [Int.natAbs_tdiv]; exact Nat.div_le_self _ _

theorem overflow_test {a b : Int} (ha : I64 a) (hb : I64 b) (hb0 : b ≠ 0) (hx : ¬ (a = -9223372036854775808 ∧ b = -1)) :
    (IntKind.wrap .i64 ((IntKind.wrap .i64 (a * b)).tdiv b) ≠ a) ↔ ¬ I64 (a * b) := by
  constructor
  · intro h hi
    apply h
    rw [wrap_in hi, Int.mul_tdiv_cancel _ hb0, wrap_in ha]
  · intro hi h
    have hw := wrap_i64 (a * b)
    have hww := wrap64 (a * b)
    generalize IntKind.wrap .i64 (a * b) = w at h hw hww
    have hn := tdiv_near w b hb0
    have hab := tdiv_abs w b
    have hq : w.tdiv b = a := by
      by_cases hq : I64 (w.tdiv b)
      · rw [wrap_in hq] at h; exact h
      · exfalso
        have hq2 : w.tdiv b = 9223372036854775808 := by unfold I64 at *; omega
        have h3 : IntKind.wrap .i64 9223372036854775808 = -9223372036854775808 := by rw [wrap64]; rfl
        rw [hq2, h3] at h
        have hw2 : w = -9223372036854775808 := by unfold I64 at *; omega
        rw [hq2, hw2] at hn
        apply hx
        refine ⟨h.symm, ?_⟩
        unfold I64 at *
        omega
    rw [hq] at hn
    unfold I64 at *
    generalize a * b = p at *
    omega

/-! the reference's tests -/
theorem pos_pos {a b : Int} (hb : 0 < b) : ((9223372036854775807 : Int).tdiv b < a) ↔ 9223372036854775807 < a * b := by
  rw [Int.tdiv_eq_ediv_of_nonneg (by omega), Int.ediv_lt_iff_lt_mul hb]

theorem neg_neg {a b : Int} (hb : b < 0) : (a < (9223372036854775807 : Int).tdiv b) ↔ 9223372036854775807 < a * b := by
  have e : (9223372036854775807 : Int).tdiv b = -((9223372036854775807 : Int) / (-b)) := by
    rw [← Int.tdiv_eq_ediv_of_nonneg (by omega), Int.tdiv_neg, Int.neg_neg]
  rw [e]
  have := Int.ediv_lt_iff_lt_mul (a := 9223372036854775807) (b := -a) (c := -b) (by omega)
  rw [Int.neg_mul_neg] at this
  omega

theorem pos_neg {a b : Int} (ha : 0 < a) (hb : b < 0) : (b < (-9223372036854775808 : Int).tdiv a) ↔ a * b < -9223372036854775808 := by
  have e : (-9223372036854775808 : Int).tdiv a = -((9223372036854775808 : Int) / a) := by
    rw [← Int.tdiv_eq_ediv_of_nonneg (by omega), ← Int.neg_tdiv]
  rw [e]
  have := Int.ediv_lt_iff_lt_mul (a := 9223372036854775808) (b := -b) (c := a) ha
  rw [Int.neg_mul, Int.mul_comm b a] at this
  omega

/-- what is left of the signs -/
theorem mul_signs {a b : Int} (ha : a ≠ 0) (hb : b ≠ 0) : (0 < a ∧ 0 < b ∨ a < 0 ∧ b < 0) ∧ 0 < a * b ∨ (0 < a ∧ b < 0 ∨ a < 0 ∧ 0 < b) ∧ a * b < 0 := by
  rcases Int.lt_or_lt_of_ne ha with h | h <;> rcases Int.lt_or_lt_of_ne hb with h' | h'
  · exact .inl ⟨.inr ⟨h, h'⟩, Int.mul_pos_of_neg_of_neg h h'⟩
  · exact .inr ⟨.inr ⟨h, h'⟩, Int.mul_neg_of_neg_of_pos h h'⟩
  · exact .inr ⟨.inl ⟨h, h'⟩, Int.mul_neg_of_pos_of_neg h h'⟩
  · exact .inl ⟨.inl ⟨h, h'⟩, Int.mul_pos h h'⟩
end Go.Proofs.YtjhjhfmemipflaaPx
