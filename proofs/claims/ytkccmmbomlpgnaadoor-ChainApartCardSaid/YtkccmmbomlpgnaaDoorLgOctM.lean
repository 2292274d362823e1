/- Byte strings: comparing, exclusive or, pieces: mathematics alone. -/
import Derived.Test.YtkccmmbomlpgnaaDoorLgPxB
set_option linter.all false
namespace Go.Proofs.YtkccmmbomlpgnaaDoorPx
open Go Go.Lift

/-- -1, 0 or 1 -/
def cmpL : List UInt8 → List UInt8 → Int
  | [], [] => 0
  | [], _ :: _ => -1
  | _ :: _, [] => 1
  | x :: xs, y :: ys => if x < y then -1 else if y < x then 1 else cmpL xs ys

theorem cmpL_nil_left (b : List UInt8) : cmpL [] b = if b.length = 0 then 0 else -1 := by cases b <;> rfl
theorem cmpL_nil_right (a : List UInt8) : cmpL a [] = if a.length = 0 then 0 else 1 := by cases a <;> rfl

theorem cmpL_refl : ∀ a : List UInt8, cmpL a a = 0
  | [] => rfl
  | x :: xs => by simp [cmpL, cmpL_refl xs]

theorem cmpL_zero : ∀ a b : List UInt8, cmpL a b = 0 → a = b
  | [], [], _ => rfl
  | [], _ :: _, h => by simp [cmpL] at h
  | _ :: _, [], h => by simp [cmpL] at h
  | x :: xs, y :: ys, h => by
    simp only [cmpL] at h
    split at h
    · cases h
    · split at h
      · cases h
      · rename_i h1 h2
        have : x = y := by
          rw [UInt8.lt_iff_toNat_lt] at h1 h2
          exact UInt8.toNat_inj.1 (by omega)
        rw [this, cmpL_zero xs ys h]

/-- how many bytes are alike at the beginning -/
def comL : List UInt8 → List UInt8 → Nat
  | x :: xs, y :: ys => if x = y then comL xs ys + 1 else 0
  | _, _ => 0

def orX : List UInt8 → List UInt8 → UInt8
  | x :: xs, y :: ys => (x ^^^ y) ||| orX xs ys
  | _, _ => 0

theorem or_zero (x y : UInt8) : x ||| y = 0 ↔ x = 0 ∧ y = 0 := by
  constructor
  · intro h
    have h' : x.toNat ||| y.toNat = 0 := by rw [← UInt8.toNat_or, h]; rfl
    have := Nat.or_eq_zero_iff.1 h'
    exact ⟨UInt8.toNat_inj.1 this.1, UInt8.toNat_inj.1 this.2⟩
  · rintro ⟨rfl, rfl⟩; rfl

theorem xor_zero (x y : UInt8) : x ^^^ y = 0 ↔ x = y := by
  constructor
  · intro h
    have e : y = x ^^^ (x ^^^ y) := by rw [← UInt8.xor_assoc, UInt8.xor_self, UInt8.zero_xor]
    rw [h, UInt8.xor_zero] at e
    exact e.symm
  · rintro rfl; exact UInt8.xor_self

theorem orX_zero : ∀ a b : List UInt8, a.length = b.length → (orX a b = 0 ↔ a = b)
  | [], [], _ => by simp [orX]
  | x :: xs, y :: ys, h => by
    simp only [orX, or_zero, xor_zero, orX_zero xs ys (by simpa using h), List.cons.injEq]
  | [], _ :: _, h => by simp at h
  | _ :: _, [], h => by simp at h

theorem or_assoc' (x y z : UInt8) : x ||| y ||| z = x ||| (y ||| z) := UInt8.or_assoc _ _ _

def xorL (a b : List UInt8) : List UInt8 := List.zipWith (fun x y => x ^^^ y) a b

theorem xorL_length (a b : List UInt8) : (xorL a b).length = min a.length b.length := by simp [xorL]
theorem xorL_comm : ∀ a b : List UInt8, xorL a b = xorL b a
  | [], _ => by simp [xorL]
  | _ :: _, [] => by simp [xorL]
  | x :: xs, y :: ys => by
    have := xorL_comm xs ys
    simp only [xorL, List.zipWith_cons_cons] at this ⊢
    rw [this, UInt8.xor_comm]
theorem xorL_back : ∀ a b : List UInt8, xorL (xorL a b) b = a.take (min a.length b.length)
  | [], b => by simp [xorL]
  | x :: xs, [] => by simp [xorL]
  | x :: xs, y :: ys => by
    have := xorL_back xs ys
    simp only [xorL, List.zipWith_cons_cons] at this ⊢
    rw [this, UInt8.xor_assoc, UInt8.xor_self, UInt8.xor_zero]
    simp [Nat.succ_min_succ]

/-- the exclusive or, bit by bit -/
theorem xor_step (x y : Nat) : x ^^^ y = (if x % 2 = y % 2 then 0 else 1) + 2 * (x / 2 ^^^ y / 2) := by
  have h1 : (x ^^^ y) / 2 = x / 2 ^^^ y / 2 := Nat.xor_div_two
  have h2 : (x ^^^ y) % 2 = (x % 2) ^^^ (y % 2) := Nat.xor_mod_two_pow (n := 1)
  rcases Nat.mod_two_eq_zero_or_one x with h3 | h3 <;> rcases Nat.mod_two_eq_zero_or_one y with h4 | h4 <;> rw [h3, h4] at h2 ⊢ <;> simp only [show (0 ^^^ 0 : Nat) = 0 from rfl, show (0 ^^^ 1 : Nat) = 1 from rfl, show (1 ^^^ 0 : Nat) = 1 from rfl, show (1 ^^^ 1 : Nat) = 0 from rfl] at h2
  · rw [if_pos rfl]; omega
  · rw [if_neg (by decide)]; omega
  · rw [if_neg (by decide)]; omega
  · rw [if_pos rfl]; omega

/-! pieces -/
def chunks (size : Nat) : Nat → List UInt8 → List (List UInt8)
  | 0, _ => []
  | n + 1, s => match s with
    | [] => []
    | s => s.take size :: chunks size n (s.drop size)

theorem chunks_nil (size n : Nat) : chunks size n [] = [] := by cases n <;> rfl

theorem chunks_cons {size n : Nat} {s : List UInt8} (h : s ≠ []) : chunks size (n + 1) s = s.take size :: chunks size n (s.drop size) := by
  cases s with
  | nil => exact absurd rfl h
  | cons x xs => rfl

/-- more fuel does nothing -/
theorem chunks_fuel {size : Nat} (hs : 1 ≤ size) : ∀ (n m : Nat) (s : List UInt8), s.length ≤ n → s.length ≤ m → chunks size n s = chunks size m s
  | 0, m, s, hn, hm => by
    have : s = [] := List.length_eq_zero_iff.1 (by omega)
    subst this; rw [chunks_nil, chunks_nil]
  | n + 1, 0, s, hn, hm => by
    have : s = [] := List.length_eq_zero_iff.1 (by omega)
    subst this; rw [chunks_nil, chunks_nil]
  | n + 1, m + 1, s, hn, hm => by
    by_cases h : s = []
    · subst h; rw [chunks_nil, chunks_nil]
    · rw [chunks_cons h, chunks_cons h, chunks_fuel hs n m (s.drop size)]
      · rw [List.length_drop]; have : s.length ≠ 0 := fun e => h (List.length_eq_zero_iff.1 e); omega
      · rw [List.length_drop]; have : s.length ≠ 0 := fun e => h (List.length_eq_zero_iff.1 e); omega

def piecesL (size : Nat) (s : List UInt8) : List (List UInt8) := chunks size s.length s

theorem pieces_nil (size : Nat) : piecesL size [] = [] := rfl
theorem pieces_cons {size : Nat} (hs : 1 ≤ size) {s : List UInt8} (h : s ≠ []) : piecesL size s = s.take size :: piecesL size (s.drop size) := by
  unfold piecesL
  have h0 : s.length ≠ 0 := fun e => h (List.length_eq_zero_iff.1 e)
  obtain ⟨n, hn⟩ : ∃ n, s.length = n + 1 := ⟨s.length - 1, by omega⟩
  rw [hn, chunks_cons h, chunks_fuel hs n (s.drop size).length]
  · rw [List.length_drop]; omega
  · exact Nat.le_refl _

theorem pieces_one {size : Nat} (hs : 1 ≤ size) {s : List UInt8} (h : s ≠ []) (hl : s.length ≤ size) : piecesL size s = [s] := by
  rw [pieces_cons hs h, List.take_of_length_le hl, List.drop_of_length_le hl, pieces_nil]

theorem pieces_join {size : Nat} (hs : 1 ≤ size) : ∀ (n : Nat) (s : List UInt8), s.length ≤ n → (piecesL size s).flatten = s
  | 0, s, h => by
    have : s = [] := List.length_eq_zero_iff.1 (by omega)
    subst this; rfl
  | n + 1, s, h => by
    by_cases hn : s = []
    · subst hn; rfl
    · rw [pieces_cons hs hn, List.flatten_cons, pieces_join hs n (s.drop size), List.take_append_drop]
      rw [List.length_drop]; have : s.length ≠ 0 := fun e => hn (List.length_eq_zero_iff.1 e); omega

/-- each piece but the last has size bytes; none is empty or longer -/
theorem pieces_sizes {size : Nat} (hs : 1 ≤ size) : ∀ (n : Nat) (s : List UInt8), s.length ≤ n → ∀ i, i < (piecesL size s).length →
    (piecesL size s).getD i [] ≠ [] ∧ ((piecesL size s).getD i []).length ≤ size ∧ (i + 1 < (piecesL size s).length → ((piecesL size s).getD i []).length = size)
  | 0, s, h, i, hi => by
    have : s = [] := List.length_eq_zero_iff.1 (by omega)
    subst this; simp [pieces_nil] at hi
  | n + 1, s, h, i, hi => by
    by_cases hn : s = []
    · subst hn; simp [pieces_nil] at hi
    · have h0 : s.length ≠ 0 := fun e => hn (List.length_eq_zero_iff.1 e)
      rw [pieces_cons hs hn] at hi ⊢
      cases i with
      | zero =>
        simp only [List.getD_cons_zero]
        refine ⟨?_, by rw [List.length_take]; omega, fun hlt => ?_⟩
        · intro e
          have := congrArg List.length e
          rw [List.length_take, List.length_nil] at this
          omega
        · rw [List.length_take]
          rcases Nat.lt_or_ge size s.length with h1 | h1
          · omega
          · rw [List.drop_of_length_le h1, pieces_nil] at hlt
            simp at hlt
      | succ i =>
        simp only [List.getD_cons_succ]
        have := pieces_sizes hs n (s.drop size) (by rw [List.length_drop]; omega) i (by simpa using hi)
        refine ⟨this.1, this.2.1, fun hlt => this.2.2 (by simpa using hlt)⟩

theorem pieces_len_le {size : Nat} (hs : 1 ≤ size) : ∀ (n : Nat) (s : List UInt8), s.length ≤ n → (piecesL size s).length ≤ s.length
  | 0, s, h => by
    have : s = [] := List.length_eq_zero_iff.1 (by omega)
    subst this; simp [pieces_nil]
  | n + 1, s, h => by
    by_cases hn : s = []
    · subst hn; simp [pieces_nil]
    · have h0 : s.length ≠ 0 := fun e => hn (List.length_eq_zero_iff.1 e)
      rw [pieces_cons hs hn]
      have := pieces_len_le hs n (s.drop size) (by rw [List.length_drop]; omega)
      rw [List.length_drop] at this
      simp only [List.length_cons]
      omega

/-- how many -/
theorem pieces_len {size : Nat} (hs : 1 ≤ size) : ∀ (n : Nat) (s : List UInt8), s.length ≤ n → s ≠ [] → (piecesL size s).length = (s.length - 1) / size + 1
  | 0, s, h, hn => by
    exact absurd (List.length_eq_zero_iff.1 (by omega)) hn
  | n + 1, s, h, hn => by
    have h0 : s.length ≠ 0 := fun e => hn (List.length_eq_zero_iff.1 e)
    rw [pieces_cons hs hn, List.length_cons]
    by_cases hd : s.drop size = []
    · have : s.length ≤ size := by
        have := congrArg List.length hd
        rw [List.length_drop] at this; simp at this; omega
      rw [hd, pieces_nil, Nat.div_eq_of_lt (by omega)]; rfl
    · have hlt : size < s.length := by
        rcases Nat.lt_or_ge size s.length with h1 | h1
        · exact h1
        · exact absurd (List.drop_of_length_le h1) hd
      have := pieces_len hs n (s.drop size) (by rw [List.length_drop]; omega) hd
      rw [this, List.length_drop]
      have e : s.length - 1 = (s.length - size - 1) + size := by omega
      rw [e, Nat.add_div_right _ (by omega)]
end Go.Proofs.YtkccmmbomlpgnaaDoorPx
