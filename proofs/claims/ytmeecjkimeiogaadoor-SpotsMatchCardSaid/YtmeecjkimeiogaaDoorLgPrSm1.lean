import Derived.Test.YtmeecjkimeiogaaDoorLgW
set_option linter.all false
namespace Go.Proofs.YtmeecjkimeiogaaDoorPx
noncomputable section
open Go Go.Lift

theorem z9p {σ β : Type} {step : σ -> (σ -> Option β) -> Option β} (I : σ -> Prop) (m : σ -> Nat) (R : σ -> Option β)
    (h : ∀ v r, I v -> (∀ v', I v' -> m v' < m v -> r v' = R v') -> step v r = R v) : ∀ (n : Nat) (v : σ), I v -> m v < n -> iter step n v = R v
  | 0, v, _, hm => by omega
  | n + 1, v, hv, hm => h v (iter step n) hv fun v' hv' hlt => z9p I m R h n v' hv' (by omega)

theorem z14d (x : Int) : IntKind.wrap .i64 x = (x + 9223372036854775808) % 18446744073709551616 - 9223372036854775808 := by
  simp only [IntKind.wrap, IntKind.bits, IntKind.signed, Bool.true_and, decide_eq_true_eq, Nat.add_one_sub_one, Int.reducePow, ge_iff_le]
  split <;> omega

def I64 (x : Int) : Prop := -9223372036854775808 <= x /\ x <= 9223372036854775807

instance (x : Int) : Decidable (I64 x) := by unfold I64; infer_instance

theorem z9l {x : Int} (h : I64 x) : IntKind.wrap .i64 x = x := by
  rw [z14d]; unfold I64 at h; omega

theorem z1m {α : Type} {b : Bool} (h : b = true) (x y : α) : cond b x y = x := by rw [h]; rfl
theorem z9j {α : Type} {b : Bool} (h : b = false) (x y : α) : cond b x y = y := by rw [h]; rfl

theorem z2k {n len : Nat} (h : n < len) : inR (n : Int) len = true := by simp only [inR, decide_eq_true_eq]; omega

end
end Go.Proofs.YtmeecjkimeiogaaDoorPx
