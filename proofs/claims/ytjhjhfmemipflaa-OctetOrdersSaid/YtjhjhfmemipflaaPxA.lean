/- Loops as plain functions, and the model's wrap. -/
import Derived.Test.YtjhjhfmemipflaaLfW
set_option linter.all false
namespace Go.Proofs.YtjhjhfmemipflaaPx
open Go Go.Lift

/-- a loop that gives R, as long as its rounds do -/
theorem iter_eq {σ β : Type} {step : σ → (σ → Option β) → Option β} (I : σ → Prop) (m : σ → Nat) (R : σ → Option β)
    (h : ∀ v r, I v → (∀ v', I v' → m v' < m v → r v' = R v') → step v r = R v) : ∀ (n : Nat) (v : σ), I v → m v < n → iter step n v = R v
  | 0, v, _, hm => by omega
  | n + 1, v, hv, hm => h v (iter step n) hv fun v' hv' hlt => iter_eq I m R h n v' hv' (by omega)

/-- a loop's answer has the property p, as long as its rounds keep the invariant -/
theorem iter_post {σ β : Type} {step : σ → (σ → Option β) → Option β} (I : σ → Prop) (m : σ → Nat) (p : Option β → Prop)
    (h : ∀ v r, I v → (∀ v', I v' → m v' < m v → p (r v')) → p (step v r)) : ∀ (n : Nat) (v : σ), I v → m v < n → p (iter step n v)
  | 0, v, _, hm => by omega
  | n + 1, v, hv, hm => h v (iter step n) hv fun v' hv' hlt => iter_post I m p h n v' hv' (by omega)

theorem wrap64 (x : Int) : IntKind.wrap .i64 x = (x + 9223372036854775808) % 18446744073709551616 - 9223372036854775808 := by
  simp only [IntKind.wrap, IntKind.bits, IntKind.signed, Bool.true_and, decide_eq_true_eq, Nat.add_one_sub_one, Int.reducePow, ge_iff_le]
  split <;> omega

def I64 (x : Int) : Prop := -9223372036854775808 ≤ x ∧ x ≤ 9223372036854775807

instance (x : Int) : Decidable (I64 x) := by unfold I64; infer_instance

theorem i64_of {x : Int} (h : (Lit.int .i64 x).wf = true) : I64 x := bounds_i64 h

theorem wrap_in {x : Int} (h : I64 x) : IntKind.wrap .i64 x = x := by
  rw [wrap64]; unfold I64 at h; omega

theorem wrap_i64 (x : Int) : I64 (IntKind.wrap .i64 x) := by
  rw [wrap64]; unfold I64; omega

theorem cond_t {α : Type} {b : Bool} (h : b = true) (x y : α) : cond b x y = x := by rw [h]; rfl
theorem cond_f {α : Type} {b : Bool} (h : b = false) (x y : α) : cond b x y = y := by rw [h]; rfl

theorem bind_of {α β : Type} {o : Option α} {x : α} (h : o = some x) (f : α → Option β) : o.bind f = f x := by rw [h]; rfl

theorem inR_nat {n len : Nat} (h : n < len) : inR (n : Int) len = true := by simp only [inR, decide_eq_true_eq]; omega
theorem inR_of {i : Int} {len : Nat} (h : 0 ≤ i) (h' : i < len) : inR i len = true := by simp only [inR, decide_eq_true_eq]; omega
end Go.Proofs.YtjhjhfmemipflaaPx
