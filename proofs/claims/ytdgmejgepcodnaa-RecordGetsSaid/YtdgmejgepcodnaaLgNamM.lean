/- Names and words: mathematics alone. -/
import Derived.Test.YtdgmejgepcodnaaLgPxR
set_option linter.all false
namespace Go.Proofs.YtdgmejgepcodnaaPx
open Go Go.Lift

/-- is a number a label name's sign -/
def labS (c : Nat) (first : Bool) : Bool := decide ((97 ≤ c ∧ c ≤ 122) ∨ (65 ≤ c ∧ c ≤ 90) ∨ c = 95) || (decide (48 ≤ c ∧ c ≤ 57) && !first)
def worS (c : Nat) (first : Bool) : Bool := decide (97 ≤ c ∧ c ≤ 122) || (decide ((48 ≤ c ∧ c ≤ 57) ∨ c = 45) && !first)

theorem labS_high {c : Nat} (h : 128 ≤ c) (f : Bool) : labS c f = false := by
  simp only [labS, Bool.or_eq_false_iff, decide_eq_false_iff_not, Bool.and_eq_false_iff]
  exact ⟨by omega, .inl (by omega)⟩
theorem worS_high {c : Nat} (h : 128 ≤ c) (f : Bool) : worS c f = false := by
  simp only [worS, Bool.or_eq_false_iff, decide_eq_false_iff_not, Bool.and_eq_false_iff]
  exact ⟨by omega, .inl (by omega)⟩
theorem worS_blank (f : Bool) : worS 32 f = false := by cases f <;> rfl
theorem labS_eq (f : Bool) : labS 61 f = false := by cases f <;> rfl

/-- all signs fit -/
def allS (p : Nat → Bool → Bool) : List UInt8 → Bool → Bool
  | [], _ => true
  | u :: r, f => p u.toNat f && allS p r false

/-- how many fit, from the beginning on -/
def runS (p : Nat → Bool → Bool) : List UInt8 → Bool → Nat
  | [], _ => 0
  | u :: r, f => bif p u.toNat f then runS p r false + 1 else 0

theorem runS_le (p : Nat → Bool → Bool) : ∀ (l : List UInt8) (f : Bool), runS p l f ≤ l.length
  | [], _ => by simp [runS]
  | u :: r, f => by
    have := runS_le p r false
    simp only [runS, List.length_cons]
    cases p u.toNat f <;> simp <;> omega

theorem runS_all (p : Nat → Bool → Bool) : ∀ (l : List UInt8) (f : Bool), allS p l f = true → runS p l f = l.length
  | [], _, _ => rfl
  | u :: r, f, h => by
    simp only [allS, Bool.and_eq_true] at h
    simp only [runS, h.1, cond_true, runS_all p r false h.2, List.length_cons]

theorem runS_stop (p : Nat → Bool → Bool) (x : UInt8) (hx : ∀ f, p x.toNat f = false) (t : List UInt8) : ∀ (l : List UInt8) (f : Bool), allS p l f = true → runS p (l ++ x :: t) f = l.length
  | [], f, _ => by simp [runS, hx]
  | u :: r, f, h => by
    simp only [allS, Bool.and_eq_true] at h
    simp only [List.cons_append, runS, h.1, cond_true, runS_stop p x hx t r false h.2, List.length_cons]

def labelL (s : List UInt8) : Bool := decide (1 ≤ s.length ∧ s.length ≤ 32) && allS labS s true
def wordL (s : List UInt8) : Bool := decide (1 ≤ s.length ∧ s.length ≤ 32) && allS worS s true

/-! pieces between blanks -/
def splitF : List UInt8 → List UInt8 → List (List UInt8)
  | cur, [] => [cur]
  | cur, u :: r => if u.toNat = 32 then cur :: splitF [] r else splitF (cur ++ [u]) r

theorem splitF_run : ∀ (k : Nat) (cur l : List UInt8), k ≤ l.length → (∀ j, j < k → (l.getD j 0).toNat ≠ 32) → splitF cur l = splitF (cur ++ l.take k) (l.drop k)
  | 0, cur, l, _, _ => by simp
  | k + 1, cur, [], h, _ => by simp at h
  | k + 1, cur, u :: r, h, hj => by
    have h0 : u.toNat ≠ 32 := hj 0 (by omega)
    simp only [splitF, if_neg h0, List.take_succ_cons, List.drop_succ_cons]
    rw [splitF_run k (cur ++ [u]) r (by simpa using h) (fun j hlt => by have := hj (j + 1) (by omega); simpa using this)]
    simp

theorem splitF_ne (cur l : List UInt8) : splitF cur l ≠ [] := by
  induction l generalizing cur with
  | nil => simp [splitF]
  | cons u r ih => simp only [splitF]; split
                   · simp
                   · exact ih _

theorem splitF_length : ∀ (l cur : List UInt8), (splitF cur l).length ≤ l.length + 1
  | [], cur => by simp [splitF]
  | u :: r, cur => by
    simp only [splitF]
    split
    · have := splitF_length r []; simp only [List.length_cons]; omega
    · have := splitF_length r (cur ++ [u]); simp only [List.length_cons]; omega

/-! joining -/
def joinT : List (List UInt8) → List UInt8
  | [] => []
  | x :: r => 32 :: (x ++ joinT r)

def joinL : List (List UInt8) → List UInt8
  | [] => []
  | x :: r => x ++ joinT r

theorem joinL_split : ∀ (l cur : List UInt8), joinL (splitF cur l) = cur ++ l
  | [], cur => by simp [splitF, joinL, joinT]
  | u :: r, cur => by
    simp only [splitF]
    split
    · rename_i h
      have hu : u = 32 := UInt8.toNat_inj.1 h
      have ih := joinL_split r []
      cases hs : splitF [] r with
      | nil => exact absurd hs (splitF_ne _ _)
      | cons y t =>
        rw [hs] at ih
        simp only [joinL, List.nil_append] at ih
        simp only [joinL, joinT, ih, hu]
    · rw [joinL_split r (cur ++ [u])]; simp

theorem no_blank {x : List UInt8} (h : wordL x = true) : ∀ u ∈ x, u.toNat ≠ 32 := by
  simp only [wordL, Bool.and_eq_true] at h
  have : ∀ (l : List UInt8) (f : Bool), allS worS l f = true → ∀ u ∈ l, u.toNat ≠ 32 := by
    intro l
    induction l with
    | nil => intro f _ u hu; cases hu
    | cons v r ih =>
      intro f h u hu
      simp only [allS, Bool.and_eq_true] at h
      rcases List.mem_cons.1 hu with rfl | hu
      · intro e
        rw [e, worS_blank] at h
        cases h.1
      · exact ih false h.2 u hu
  exact this x true h.2

theorem splitF_word : ∀ (x cur t : List UInt8), (∀ u ∈ x, u.toNat ≠ 32) → splitF cur (x ++ t) = splitF (cur ++ x) t
  | [], cur, t, _ => by simp
  | u :: x, cur, t, h => by
    simp only [List.cons_append, splitF, if_neg (h u (by simp))]
    rw [splitF_word x (cur ++ [u]) t (fun v hv => h v (by simp [hv]))]
    simp

theorem split_join : ∀ (l : List (List UInt8)) (cur : List UInt8), (∀ x ∈ l, ∀ u ∈ x, u.toNat ≠ 32) → splitF cur (joinT l) = cur :: l
  | [], cur, _ => by simp [joinT, splitF]
  | x :: r, cur, h => by
    have e : splitF cur (joinT (x :: r)) = cur :: splitF [] (x ++ joinT r) := by
      simp only [joinT, splitF]; rfl
    rw [e, splitF_word x [] _ (h x (by simp)), List.nil_append, split_join r x (fun y hy => h y (by simp [hy]))]

theorem split_joinL {l : List (List UInt8)} (hl : l ≠ []) (h : ∀ x ∈ l, ∀ u ∈ x, u.toNat ≠ 32) : splitF [] (joinL l) = l := by
  cases l with
  | nil => exact absurd rfl hl
  | cons x r =>
    simp only [joinL]
    rw [splitF_word x [] _ (h x (by simp)), List.nil_append, split_join r x (fun y hy => h y (by simp [hy]))]

theorem joinT_length : ∀ l : List (List UInt8), (joinT l).length = l.flatten.length + l.length
  | [] => rfl
  | x :: r => by simp only [joinT, List.length_cons, List.length_append, joinT_length r, List.flatten_cons]; omega

theorem joinL_length (l : List (List UInt8)) : (joinL l).length ≤ l.flatten.length + l.length := by
  cases l with
  | nil => simp [joinL]
  | cons x r => simp only [joinL, List.length_append, joinT_length, List.flatten_cons, List.length_cons]; omega
end Go.Proofs.YtdgmejgepcodnaaPx
