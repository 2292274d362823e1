import Derived.Test.YtehfmhbogfaaoaaDoorLgA
set_option linter.all false
namespace Go.Lift

inductive Step where
  | fld (i : Nat) | idx (i : Nat)
  deriving DecidableEq

def offOf : T → List Step → Nat
  | .pair a b, .fld i :: p => match i with
    | 0 => offOf a p
    | i + 1 => a.size + offOf b (.fld i :: p)
  | .arr _ t, .idx i :: p => i * t.size + offOf t p
  | _, _ => 0

abbrev Dat := (t : T) × t.den

def foc : (t : T) → t.den → List Step → Dat
  | .pair a b, x, .fld i :: p => match i with
    | 0 => foc a x.1 p
    | i + 1 => foc b x.2 (.fld i :: p)
  | .arr _ t, xs, .idx i :: p => foc t (xs.getD i t.dflt) p
  | t, x, _ => ⟨t, x⟩

def and' (x y : Bool) : Bool := match y with
  | true => x
  | false => false

def tyAt : T → List Step → Option T
  | .pair a b, .fld i :: p => match i with
    | 0 => tyAt a p
    | i + 1 => tyAt b (.fld i :: p)
  | .arr _ t, .idx _ :: p => tyAt t p
  | t, [] => some t
  | _, _ => none

def inb : (t : T) → t.den → List Step → Bool
  | _, _, [] => true
  | .pair a b, x, .fld i :: p => match i with
    | 0 => inb a x.1 p
    | i + 1 => inb b x.2 (.fld i :: p)
  | .arr _ t, xs, .idx i :: p => and' (decide (i < xs.length)) (inb t (xs.getD i t.dflt) p)
  | _, _, _ => false

def cast (t' t : T) (y : t'.den) : Option t.den := if h : t' = t then some (h ▸ y) else none

def setAt : (t : T) → t.den → List Step → (t' : T) → t'.den → Option t.den
  | t, _, [], t', y => cast t' t y
  | .pair a b, x, .fld i :: p, t', y => match i with
    | 0 => match setAt a x.1 p t' y with
      | some z => some (z, x.2)
      | none => none
    | i + 1 => match setAt b x.2 (.fld i :: p) t' y with
      | some z => some (x.1, z)
      | none => none
  | .arr _ t, xs, .idx i :: p, t', y => match setAt t (xs.getD i t.dflt) p t' y with
    | some z => some (xs.set i z)
    | none => none
  | _, _, _, _, _ => none

theorem cast_some {t' t : T} {y : t'.den} {x : t.den} (h : cast t' t y = some x) : ∃ e : t' = t, e ▸ y = x := by
  unfold cast at h
  split at h
  · rename_i e; exact ⟨e, by simpa using h⟩
  · simp at h

theorem and'_true {x y : Bool} (h : and' x y = true) : x = true ∧ y = true := by
  cases y <;> simp_all [and']

theorem lens {S : Hp} : ∀ (t : T) (x : t.den) (p : List Step) (cs : List Value), Rd S t x cs → inb t x p = true →
    ∃ c0 c1 c2, cs = c0 ++ (c1 ++ c2) ∧ c0.length = offOf t p ∧ Rd S (foc t x p).1 (foc t x p).2 c1 ∧
      ∀ (t' : T) (y : t'.den) (d : List Value) (x' : t.den), setAt t x p t' y = some x' → Rd S t' y d → t' = (foc t x p).1 ∧ Rd S t x' (c0 ++ (d ++ c2)) := by
  intro t
  have base : ∀ (t : T) (x : t.den) (cs : List Value), Rd S t x cs → offOf t [] = 0 → foc t x [] = ⟨t, x⟩ →
    ∃ c0 c1 c2, cs = c0 ++ (c1 ++ c2) ∧ c0.length = offOf t [] ∧ Rd S (foc t x []).1 (foc t x []).2 c1 ∧
      ∀ (t' : T) (y : t'.den) (d : List Value) (x' : t.den), setAt t x [] t' y = some x' → Rd S t' y d → t' = (foc t x []).1 ∧ Rd S t x' (c0 ++ (d ++ c2)) := by
    intro t x cs h h0 hf
    refine ⟨[], cs, [], by simp, by rw [h0]; rfl, by rw [hf]; exact h, ?_⟩
    intro t' y d x' hs hr
    have hs' : cast t' t y = some x' := by cases t <;> simpa [setAt] using hs
    obtain ⟨e, e'⟩ := cast_some hs'
    subst e; subst e'
    exact ⟨by rw [hf], by simpa using hr⟩
  induction t with
  | int k => intro x p cs h hi; cases p with | nil => exact base _ x cs h rfl rfl | cons s p => cases s <;> simp [inb] at hi
  | bool => intro x p cs h hi; cases p with | nil => exact base _ x cs h rfl rfl | cons s p => cases s <;> simp [inb] at hi
  | str => intro x p cs h hi; cases p with | nil => exact base _ x cs h rfl rfl | cons s p => cases s <;> simp [inb] at hi
  | opq => intro x p cs h hi; cases p with | nil => exact base _ x cs h rfl rfl | cons s p => cases s <;> simp [inb] at hi
  | unit => intro x p cs h hi; cases p with | nil => exact base _ x cs h rfl rfl | cons s p => cases s <;> simp [inb] at hi
  | sl t _ => intro x p cs h hi; cases p with | nil => exact base _ x cs h rfl rfl | cons s p => cases s <;> simp [inb] at hi
  | ptr t _ => intro x p cs h hi; cases p with | nil => exact base _ x cs h rfl rfl | cons s p => cases s <;> simp [inb] at hi
  | own t _ => intro x p cs h hi; exact h.elim
  | self ty => intro x p cs h hi; exact h.elim
  | byt ty => intro x p cs h hi; cases p with | nil => exact base _ x cs h rfl rfl | cons s p => cases s <;> simp [inb] at hi
  | any => intro x p cs h hi; cases p with | nil => exact base _ x cs h rfl rfl | cons s p => cases s <;> simp [inb] at hi
  | fn f t _ => intro x p cs h hi; cases p with | nil => exact base _ x cs h rfl rfl | cons s p => cases s <;> simp [inb] at hi
  | mp k v _ _ => intro x p cs h hi; exact h.elim
  | nb t _ => intro x p cs h hi; exact h.elim
  | ifc ty t _ => intro x p cs h hi; cases p with | nil => exact base _ x cs h rfl rfl | cons s p => cases s <;> simp [inb] at hi
  | pair a b iha ihb =>
    intro x p cs h hi
    cases p with
    | nil => exact base _ x cs h rfl rfl
    | cons s p =>
      cases s with
      | idx i => simp [inb] at hi
      | fld i =>
        obtain ⟨d1, d2, e, h1, h2⟩ := h
        cases i with
        | zero =>
          simp only [inb] at hi
          obtain ⟨c0, c1, c2, e1, hl, hr, hs⟩ := iha x.1 p d1 h1 hi
          refine ⟨c0, c1, c2 ++ d2, by rw [e, e1]; simp, by simpa [offOf] using hl, by simpa [foc] using hr, ?_⟩
          intro t' y d x' hset hy
          simp only [setAt] at hset
          split at hset
          · rename_i z hz
            obtain ⟨et, hz'⟩ := hs t' y d z hz hy
            refine ⟨by simpa [foc] using et, ?_⟩
            simp at hset; subst hset
            exact ⟨c0 ++ (d ++ c2), d2, by simp, hz', h2⟩
          · simp at hset
        | succ i =>
          simp only [inb] at hi
          obtain ⟨c0, c1, c2, e1, hl, hr, hs⟩ := ihb x.2 (.fld i :: p) d2 h2 hi
          refine ⟨d1 ++ c0, c1, c2, by rw [e, e1]; simp, by simp [offOf, hl, Rd.length a _ _ h1], by simpa [foc] using hr, ?_⟩
          intro t' y d x' hset hy
          simp only [setAt] at hset
          split at hset
          · rename_i z hz
            obtain ⟨et, hz'⟩ := hs t' y d z hz hy
            refine ⟨by simpa [foc] using et, ?_⟩
            simp at hset; subst hset
            exact ⟨d1, c0 ++ (d ++ c2), by simp, h1, hz'⟩
          · simp at hset
  | arr n t ih =>
    intro xs p cs h hi
    cases p with
    | nil => exact base _ xs cs h rfl rfl
    | cons s p =>
      cases s with
      | fld i => simp [inb] at hi
      | idx i =>
        simp only [inb] at hi
        obtain ⟨hlt, hin⟩ := and'_true hi
        have hlt : i < xs.length := by simpa using hlt
        obtain ⟨hn, hall⟩ := h
        obtain ⟨b0, b1, b2, eb, hb0, hb1, ha0, ha2⟩ := All.at (Rd.length t) hall hlt t.dflt
        obtain ⟨c0, c1, c2, e1, hl, hr, hs⟩ := ih (xs.getD i t.dflt) p b1 hb1 hin
        refine ⟨b0 ++ c0, c1, c2 ++ b2, by rw [eb, e1]; simp, by simp [offOf, hl, hb0], by simpa [foc] using hr, ?_⟩
        intro t' y d x' hset hy
        simp only [setAt] at hset
        split at hset
        · rename_i z hz
          obtain ⟨et, hz'⟩ := hs t' y d z hz hy
          refine ⟨by simpa [foc] using et, ?_⟩
          simp at hset; subst hset
          refine ⟨by simpa using hn, ?_⟩
          have := All.set hlt ha0 hz' ha2
          simpa using this
        · simp at hset

theorem offOf_arr (n m : Nat) (t : T) (p : List Step) : offOf (.arr n t) p = offOf (.arr m t) p := by
  cases p with
  | nil => rfl
  | cons s p => cases s <;> rfl

theorem inb_arr (n m : Nat) (t : T) (xs : List t.den) (p : List Step) : inb (.arr n t) xs p = inb (.arr m t) xs p := by
  cases p with
  | nil => rfl
  | cons s p => cases s <;> rfl
end Go.Lift

