/- Ranges over functions, iterators: how their plain functions reckon. -/
import Derived.Test.YtkccmmbomlpgnaaDoorLgW
set_option linter.all false
namespace Go.Proofs.YtkccmmbomlpgnaaDoorLg
open Go Go.Lift

/-- a loop that never stops is a fold; I: what holds, with what is left to come -/
theorem iterL_ok {α σ β : Type} {step : α → σ → (σ → Option β) → Option β} {fin : σ → Option β} (I : σ → List α → Prop) (g : σ → α → σ)
    (h : ∀ y ys v r, I v (y :: ys) → step y v r = r (g v y) ∧ I (g v y) ys) : ∀ (xs : List α) (v : σ), I v xs → iterL step fin xs v = fin (xs.foldl g v)
  | [], v, _ => rfl
  | y :: ys, v, hI => by
    obtain ⟨h1, h2⟩ := h y ys v (iterL step fin ys) hI
    rw [iterL, h1, iterL_ok I g h ys _ h2]; rfl

/-- a loop whose first stop is at y -/
theorem iterL_stop {α σ β : Type} {step : α → σ → (σ → Option β) → Option β} {fin : σ → Option β} (I : σ → List α → Prop) (g : σ → α → σ) (R : Option β)
    (h : ∀ y ys v r, I v (y :: ys) → step y v r = R ∨ (step y v r = r (g v y) ∧ I (g v y) ys)) (hfin : ∀ v, I v [] → fin v = R) : ∀ (xs : List α) (v : σ), I v xs → iterL step fin xs v = R
  | [], v, hI => hfin v hI
  | y :: ys, v, hI => by
    rcases h y ys v (iterL step fin ys) hI with h1 | ⟨h1, h2⟩
    · rw [iterL, h1]
    · rw [iterL, h1]; exact iterL_stop I g R h hfin ys _ h2

theorem comb_some {α : Type} (y : α) (l : List α) : comb y (some l) (some []) = some (y :: l) := rfl

theorem toStr_ofStr (s : List UInt8) : toStr (ofStr s) = s := by
  induction s with
  | nil => rfl
  | cons b s ih =>
    simp only [toStr, ofStr, List.map_cons, List.cons.injEq]
    refine ⟨?_, by simpa [toStr, ofStr] using ih⟩
    apply UInt8.toNat_inj.1
    simp

theorem okB_ofStr (s : List UInt8) : (ofStr s).all (fun n => decide (0 ≤ n) && decide (n < 256)) = true := by
  rw [List.all_eq_true]
  intro n hn
  obtain ⟨b, _, rfl⟩ := List.mem_map.1 hn
  have := b.toNat_lt
  simp only [Bool.and_eq_true, decide_eq_true_eq]
  omega
end Go.Proofs.YtkccmmbomlpgnaaDoorLg
