import Derived.Test.YtbnhlpehccohjaaLgW
set_option linter.all false
namespace Go.Proofs.YtbnhlpehccohjaaPx
noncomputable section
open Go Go.Lift

theorem zqv {σ β : Type} {step : σ -> (σ -> Option β) -> Option β} (I : σ -> Prop) (m : σ -> Nat) (R : σ -> Option β)
    (h : ∀ v r, I v -> (∀ v', I v' -> m v' < m v -> r v' = R v') -> step v r = R v) : ∀ (n : Nat) (v : σ), I v -> m v < n -> iter step n v = R v
  | 0, v, _, hm => by omega
  | n + 1, v, hv, hm => h v (iter step n) hv fun v' hv' hlt => zqv I m R h n v' hv' (by omega)

theorem zsh {σ β : Type} {step : σ -> (σ -> Option β) -> Option β} (I : σ -> Prop) (m : σ -> Nat) (p : Option β -> Prop)
    (h : ∀ v r, I v -> (∀ v', I v' -> m v' < m v -> p (r v')) -> p (step v r)) : ∀ (n : Nat) (v : σ), I v -> m v < n -> p (iter step n v)
  | 0, v, _, hm => by omega
  | n + 1, v, hv, hm => h v (iter step n) hv fun v' hv' hlt => zsh I m p h n v' hv' (by omega)

theorem zrf (x : Int) : IntKind.wrap .i64 x = (x + 9223372036854775808) % 18446744073709551616 - 9223372036854775808 := by
  simp only [IntKind.wrap, IntKind.bits, IntKind.signed, Bool.true_and, decide_eq_true_eq, Nat.add_one_sub_one, Int.reducePow, ge_iff_le]
  split <;> omega

def I64 (x : Int) : Prop := -9223372036854775808 <= x /\ x <= 9223372036854775807

instance (x : Int) : Decidable (I64 x) := by unfold I64; infer_instance

theorem z11x {x : Int} (h : (Lit.int .i64 x).wf = true) : I64 x := bounds_i64 h

theorem z9m {x : Int} (h : I64 x) : IntKind.wrap .i64 x = x := by
  rw [zrf]; unfold I64 at h; omega

theorem zkm (x : Int) : I64 (IntKind.wrap .i64 x) := by
  rw [zrf]; unfold I64; omega

theorem z1q {α : Type} {b : Bool} (h : b = true) (x y : α) : cond b x y = x := by rw [h]; rfl
theorem z2n {α : Type} {b : Bool} (h : b = false) (x y : α) : cond b x y = y := by rw [h]; rfl

theorem zqy {n len : Nat} (h : n < len) : inR (n : Int) len = true := by simp only [inR, decide_eq_true_eq]; omega
def zmp : T -> Bool
  | .int _ => true
  | .bool => true
  | .str => true
  | .unit => true
  | .pair a b => zmp a && zmp b
  | .arr _ t => zmp t
  | _ => false

theorem zie : ∀ (t : T) (x y : t.den), zmp t = true -> (eqD t x y = true ↔ x = y)
  | .int _, x, y, _ => by simp [eqD]
  | .bool, x, y, _ => by simp [eqD]
  | .str, x, y, _ => by simp [eqD]
  | .unit, x, y, _ => by simp [eqD]
  | .pair a b, x, y, h => by
    simp only [zmp, Bool.and_eq_true] at h
    have h1 := zie a x.1 y.1 h.1
    have h2 := zie b x.2 y.2 h.2
    simp only [eqD]
    cases hq : eqD a x.1 y.1 with
    | false =>
      rw [hq] at h1
      simp only [cond_false, Bool.false_eq_true, false_iff]
      intro e; exact absurd (h1.2 (by rw [e])) (by simp)
    | true =>
      rw [cond_true, h2]
      constructor
      . intro e; exact Prod.ext (h1.1 hq) e
      . intro e; rw [e]
  | .arr n t, xs, ys, h => by
    have h : zmp t = true := h
    simp only [eqD]
    induction xs generalizing ys with
    | nil => cases ys <;> simp [zvr]
    | cons x xs ih =>
      cases ys with
      | nil => simp [zvr]
      | cons y ys =>
        have h1 := zie t x y h
        simp only [zvr]
        cases hq : eqD t x y with
        | false =>
          rw [hq] at h1
          simp only [cond_false, Bool.false_eq_true, false_iff]
          intro e
          exact absurd (h1.2 (List.cons.inj e).1) (by simp)
        | true =>
          rw [cond_true]
          have h2 : zvr (eqD t) xs ys = true ↔ xs = ys := ih ys
          constructor
          . intro e; rw [h1.1 hq, h2.1 e]
          . intro e; exact h2.2 (List.cons.inj e).2
  | .opq, x, y, h => by simp [zmp] at h
  | .sl _, x, y, h => by simp [zmp] at h
  | .ptr _, x, y, h => by simp [zmp] at h

theorem z13p {t : T} (h : zmp t = true) {x y : t.den} [d : Decidable (x = y)] : eqD t x y = decide (x = y) := by
  rw [Bool.eq_iff_iff, zie t x y h, decide_eq_true_eq]

theorem zvs {t : T} (h : zmp t = true) (x : t.den) : eqD t x x = true := (zie t x x h).2 rfl

end
end Go.Proofs.YtbnhlpehccohjaaPx

set_option linter.all false
namespace Go.Proofs.YtbnhlpehccohjaaPx
noncomputable section
open Go Go.Lift

def zmv (x : Int) : Int := if 9223372036854775807 < x then 9223372036854775807 else if x < -9223372036854775808 then -9223372036854775808 else x

theorem z13u {x : Int} (h : I64 x) : zmv x = x := by unfold zmv I64 at *; rw [if_neg (by omega), if_neg (by omega)]
theorem z13v {x : Int} (h : 9223372036854775807 < x) : zmv x = 9223372036854775807 := by unfold zmv; rw [if_pos h]
theorem z13t {x : Int} (h : x < -9223372036854775808) : zmv x = -9223372036854775808 := by unfold zmv; rw [if_neg (by omega), if_pos h]
theorem zvt (x : Int) : I64 (zmv x) := by unfold zmv I64; repeat' split <;> omega

theorem zxo (w b : Int) (hb : b ≠ 0) : (w - (w.tdiv b) * b).natAbs < b.natAbs := by
  have := Int.mul_tdiv_add_tmod w b
  have h2 : w - (w.tdiv b) * b = w.tmod b := by rw [Int.mul_comm]; omega
  rw [h2, Int.natAbs_tmod]
  exact Nat.mod_lt _ (by omega)

theorem z10c (w b : Int) : (w.tdiv b).natAbs <= w.natAbs := by
  rw [Int.natAbs_tdiv]; exact Nat.div_le_self _ _

theorem zqm {a b : Int} (ha : I64 a) (hb : I64 b) (hb0 : b ≠ 0) (hx : ¬ (a = -9223372036854775808 /\ b = -1)) :
    (IntKind.wrap .i64 ((IntKind.wrap .i64 (a * b)).tdiv b) ≠ a) ↔ ¬ I64 (a * b) := by
  constructor
  . intro h hi
    apply h
    rw [z9m hi, Int.mul_tdiv_cancel _ hb0, z9m ha]
  . intro hi h
    have hw := zkm (a * b)
    have hww := zrf (a * b)
    generalize IntKind.wrap .i64 (a * b) = w at h hw hww
    have hn := zxo w b hb0
    have hab := z10c w b
    have hq : w.tdiv b = a := by
      by_cases hq : I64 (w.tdiv b)
      . rw [z9m hq] at h; exact h
      . exfalso
        have hq2 : w.tdiv b = 9223372036854775808 := by unfold I64 at *; omega
        have h3 : IntKind.wrap .i64 9223372036854775808 = -9223372036854775808 := by rw [zrf]; rfl
        rw [hq2, h3] at h
        have hw2 : w = -9223372036854775808 := by unfold I64 at *; omega
        rw [hq2, hw2] at hn
        apply hx
        refine ⟨h.symm, ?_⟩
        unfold I64 at *
        omega
    rw [hq] at hn
    unfold I64 at *
    generalize a * b = p at *
    omega

theorem zyu {a b : Int} (ha : a ≠ 0) (hb : b ≠ 0) : (0 < a /\ 0 < b \/ a < 0 /\ b < 0) /\ 0 < a * b \/ (0 < a /\ b < 0 \/ a < 0 /\ 0 < b) /\ a * b < 0 := by
  rcases Int.lt_or_lt_of_ne ha with h | h <;> rcases Int.lt_or_lt_of_ne hb with h' | h'
  . exact .inl ⟨.inr ⟨h, h'⟩, Int.mul_pos_of_neg_of_neg h h'⟩
  . exact .inr ⟨.inr ⟨h, h'⟩, Int.mul_neg_of_neg_of_pos h h'⟩
  . exact .inr ⟨.inl ⟨h, h'⟩, Int.mul_neg_of_pos_of_neg h h'⟩
  . exact .inl ⟨.inl ⟨h, h'⟩, Int.mul_pos h h'⟩

end
end Go.Proofs.YtbnhlpehccohjaaPx
