/- What the plain functions of sat say: sums, differences. -/
import Derived.Test.YtdapjcoopdfmaaaLfFns
set_option linter.all false
namespace Go.Proofs.YtdapjcoopdfmaaaLf
open Go Go.Lift

theorem wrap64 (x : Int) : IntKind.wrap .i64 x = (x + 9223372036854775808) % 18446744073709551616 - 9223372036854775808 := by
  simp only [IntKind.wrap, IntKind.bits, IntKind.signed, Bool.true_and, decide_eq_true_eq, Nat.add_one_sub_one, Int.reducePow, ge_iff_le]
  split <;> omega

def I64 (x : Int) : Prop := -9223372036854775808 ≤ x ∧ x ≤ 9223372036854775807
theorem i64_of {x : Int} (h : (Lit.int .i64 x).wf = true) : I64 x := by
  have := bounds_i64 h
  exact this

def clip (x : Int) : Int := if 9223372036854775807 < x then 9223372036854775807 else if x < -9223372036854775808 then -9223372036854775808 else x

theorem works_true (n : Nat) : works (n + 5) = some true := by kernel_rfl

theorem satAdd_eq (N : Nat) {a b : Int} (ha : I64 a) (hb : I64 b) : satAdd N a b = some (clip (a + b)) := by
  simp only [satAdd, satAdd_p1, satAdd_p2, satAdd_p3, satAdd_p4, wrap64, clip, I64, Bool.cond_eq_ite, decide_eq_true_eq, Bool.false_eq_true, if_false] at *
  repeat' split
  all_goals simp only [Option.some.injEq]
  all_goals omega

theorem satSub_eq (N : Nat) {a b : Int} (ha : I64 a) (hb : I64 b) : satSub N a b = some (clip (a - b)) := by
  simp only [satSub, satSub_p1, satSub_p2, satSub_p3, satSub_p4, wrap64, clip, I64, Bool.cond_eq_ite, decide_eq_true_eq, Bool.false_eq_true, if_false] at *
  repeat' split
  all_goals simp only [Option.some.injEq]
  all_goals omega

theorem refAdd_same : refAdd = satAdd := by kernel_rfl
theorem refSub_same : refSub = satSub := by kernel_rfl

theorem satOrder_true (n : Nat) {a b c : Int} (ha : I64 a) (hb : I64 b) (hc : I64 c) : satOrder (n + 5) a b c = some true := by
  simp only [satOrder, works_true, satAdd_eq _ ha hc, satAdd_eq _ hb hc, satAdd_eq _ hc ha, satSub_eq _ ha hc, satSub_eq _ hb hc, satSub_eq _ hc ha, satSub_eq _ hc hb, Option.bind_some, Bool.cond_eq_ite, decide_eq_true_eq, beq_iff_eq]
  have h1 : clip (a + c) = clip (c + a) := by rw [Int.add_comm]
  rw [if_pos h1]
  split
  · rfl
  · rw [if_pos (by simp only [clip]; repeat' split <;> omega), if_pos (by simp only [clip]; repeat' split <;> omega), if_pos (by simp only [clip]; repeat' split <;> omega)]

theorem satBack_true (n : Nat) {a b : Int} (ha : I64 a) (hb : I64 b) : satBack (n + 5) a b = some true := by
  simp only [satBack, satBack_p1, satBack_p2, works_true, satAdd_eq _ ha hb, Option.bind_some, Bool.cond_eq_ite, beq_iff_eq]
  have hs : I64 (clip (a + b)) := by simp only [clip, I64]; repeat' split <;> omega
  rw [satSub_eq _ hs hb, satSub_eq _ hs ha]
  simp only [Option.bind_some, Bool.cond_eq_ite, beq_iff_eq]
  split
  · rfl
  · split
    · rfl
    · rename_i h1 h2
      have : clip (a + b) = a + b := by simp only [clip] at *; repeat' split at * <;> omega
      rw [this]
      simp only [I64] at *
      rw [if_pos (by simp only [clip]; repeat' split <;> omega), if_pos (by simp only [clip]; repeat' split <;> omega)]
end Go.Proofs.YtdapjcoopdfmaaaLf
