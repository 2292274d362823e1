import Derived.Test.YtbkackmlmccpjaaDoorLgPrlabelsback1
import Derived.Lib.MapLaws
set_option linter.all false
namespace Go.Proofs.YtbkackmlmccpjaaDoorPx
open Go Go.Lift

theorem rune_N (s : List UInt8) (i : Nat) : runeAt s i = Go.Lib.decodeN (s.length - i) (s.getD i 0).toNat (s.getD (i + 1) 0).toNat (s.getD (i + 2) 0).toNat (s.getD (i + 3) 0).toNat :=
  Go.Lib.decode_N ⟨⟨s⟩⟩ i

theorem rune_ascii {s : List UInt8} {i : Nat} (h : (s.getD i 0).toNat < 128) : runeAt s i = ((s.getD i 0).toNat, 1) := by
  rw [rune_N]
  exact Go.Lib.decodeN_ascii _ _ _ _ _ h

theorem rune_high {s : List UInt8} {i : Nat} (hi : i < s.length) (h : 128 ≤ (s.getD i 0).toNat) :
    128 ≤ (runeAt s i).1 ∧ 1 ≤ (runeAt s i).2 ∧ i + (runeAt s i).2 ≤ s.length ∧ ∀ j, i ≤ j → j < i + (runeAt s i).2 → 128 ≤ (s.getD j 0).toNat := by
  rw [rune_N]
  rcases Go.Lib.decodeN_shape (s.length - i) (s.getD i 0).toNat (s.getD (i + 1) 0).toNat (s.getD (i + 2) 0).toNat (s.getD (i + 3) 0).toNat with ⟨h1, e⟩ | ⟨h1, h2, h3, h4, e⟩ | ⟨h1, h2, h3, h4, h5, h6, e⟩ | ⟨h1, h2, h3, h4, h5, h6, h7, e⟩ | e
  · omega
  · rw [e]
    refine ⟨h4, by omega, by dsimp only; omega, fun j hj hj2 => ?_⟩
    dsimp only at hj2
    obtain rfl | rfl : j = i ∨ j = i + 1 := by omega
    · exact h
    · omega
  · rw [e]
    refine ⟨by dsimp only; omega, by omega, by dsimp only; omega, fun j hj hj2 => ?_⟩
    dsimp only at hj2
    obtain rfl | rfl | rfl : j = i ∨ j = i + 1 ∨ j = i + 2 := by omega
    · exact h
    · omega
    · omega
  · rw [e]
    refine ⟨by dsimp only; omega, by omega, by dsimp only; omega, fun j hj hj2 => ?_⟩
    dsimp only at hj2
    obtain rfl | rfl | rfl | rfl : j = i ∨ j = i + 1 ∨ j = i + 2 ∨ j = i + 3 := by omega
    · exact h
    · omega
    · omega
    · omega
  · rw [e]
    refine ⟨by omega, by omega, by dsimp only; omega, fun j hj hj2 => ?_⟩
    dsimp only at hj2
    obtain rfl : j = i := by omega
    exact h

end Go.Proofs.YtbkackmlmccpjaaDoorPx

set_option linter.all false
namespace Go.Proofs.YtbkackmlmccpjaaDoorPx
open Go Go.Lift

def labS (c : Nat) (first : Bool) : Bool := decide ((97 ≤ c ∧ c ≤ 122) ∨ (65 ≤ c ∧ c ≤ 90) ∨ c = 95) || (decide (48 ≤ c ∧ c ≤ 57) && !first)
theorem labS_high {c : Nat} (h : 128 ≤ c) (f : Bool) : labS c f = false := by
  simp only [labS, Bool.or_eq_false_iff, decide_eq_false_iff_not, Bool.and_eq_false_iff]
  exact ⟨by omega, .inl (by omega)⟩
theorem labS_eq (f : Bool) : labS 61 f = false := by cases f <;> rfl

def allS (p : Nat → Bool → Bool) : List UInt8 → Bool → Bool
  | [], _ => true
  | u :: r, f => p u.toNat f && allS p r false

def runS (p : Nat → Bool → Bool) : List UInt8 → Bool → Nat
  | [], _ => 0
  | u :: r, f => bif p u.toNat f then runS p r false + 1 else 0

theorem runS_le (p : Nat → Bool → Bool) : ∀ (l : List UInt8) (f : Bool), runS p l f ≤ l.length
  | [], _ => by simp [runS]
  | u :: r, f => by
    have := runS_le p r false
    simp only [runS, List.length_cons]
    cases p u.toNat f <;> simp <;> omega

theorem runS_stop (p : Nat → Bool → Bool) (x : UInt8) (hx : ∀ f, p x.toNat f = false) (t : List UInt8) : ∀ (l : List UInt8) (f : Bool), allS p l f = true → runS p (l ++ x :: t) f = l.length
  | [], f, _ => by simp [runS, hx]
  | u :: r, f, h => by
    simp only [allS, Bool.and_eq_true] at h
    simp only [List.cons_append, runS, h.1, cond_true, runS_stop p x hx t r false h.2, List.length_cons]

def labelL (s : List UInt8) : Bool := decide (1 ≤ s.length ∧ s.length ≤ 32) && allS labS s true

end Go.Proofs.YtbkackmlmccpjaaDoorPx
