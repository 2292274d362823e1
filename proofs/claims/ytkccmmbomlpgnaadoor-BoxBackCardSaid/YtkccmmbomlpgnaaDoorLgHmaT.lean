/- Layer 4: frames are split again: mathematics alone, then the program and the reference. -/
import Derived.Test.YtkccmmbomlpgnaaDoorLgHmaS
set_option linter.all false
set_option maxRecDepth 100000
namespace Go.Proofs.YtkccmmbomlpgnaaDoorLg
open Go Go.Lift Go.Proofs.YtkccmmbomlpgnaaDoorPx

/-- big-endian -/
def valB : List UInt8 → Nat → Nat
  | [], n => n
  | b :: l, n => valB l (n * 256 + b.toNat)

theorem valB_snoc (b : UInt8) : ∀ (l : List UInt8) (n : Nat), valB (l ++ [b]) n = valB l n * 256 + b.toNat
  | [], n => rfl
  | c :: l, n => valB_snoc b l _

theorem valB_take {s : List UInt8} {i : Nat} (h : i < s.length) : valB (s.take (i + 1)) 0 = valB (s.take i) 0 * 256 + (s.getD i 0).toNat := by
  rw [take_succ s 0 i h, valB_snoc]

theorem valB_lt : ∀ (i : Nat) (s : List UInt8), i ≤ s.length → valB (s.take i) 0 < 256 ^ i
  | 0, s, _ => by simp [valB]
  | i + 1, s, h => by
    rw [valB_take (by omega), Nat.pow_succ]
    have := valB_lt i s (by omega)
    have := u8_lt (s.getD i 0)
    omega

theorem valB_mono {s : List UInt8} {i : Nat} (h : i < s.length) : valB (s.take i) 0 ≤ valB (s.take (i + 1)) 0 := by
  rw [valB_take h]; omega

theorem valB_mono7 {s : List UInt8} (h : 8 ≤ s.length) : ∀ (d j : Nat), j + d = 7 → valB (s.take j) 0 ≤ valB (s.take 7) 0
  | 0, j, e => by rw [show j = 7 by omega]; exact Nat.le_refl _
  | d + 1, j, e => Nat.le_trans (valB_mono (by omega)) (valB_mono7 h d (j + 1) (by omega))

def beN : Nat → Nat → List UInt8
  | 0, _ => []
  | j + 1, n => beN j (n / 256) ++ [UInt8.ofNat (n % 256)]

theorem beN_length : ∀ j n, (beN j n).length = j
  | 0, _ => rfl
  | j + 1, n => by rw [beN, List.length_append, beN_length j]; rfl

theorem valB_beN : ∀ (j n : Nat), n < 256 ^ j → valB (beN j n) 0 = n
  | 0, n, h => by simp at h; subst h; rfl
  | j + 1, n, h => by
    rw [Nat.pow_succ] at h
    have h2 : n / 256 < 256 ^ j := Nat.div_lt_of_lt_mul (by rw [Nat.mul_comm]; exact h)
    rw [beN, valB_snoc, valB_beN j _ h2, UInt8.toNat_ofNat']; omega

theorem beN_valB : ∀ (j : Nat) (s : List UInt8), j ≤ s.length → beN j (valB (s.take j) 0) = s.take j
  | 0, s, _ => by simp [beN]
  | j + 1, s, h => by
    have := u8_lt (s.getD j 0)
    rw [valB_take (by omega), beN, show (valB (s.take j) 0 * 256 + (s.getD j 0).toNat) / 256 = valB (s.take j) 0 by omega, beN_valB j s (by omega), take_succ s 0 j (by omega)]
    congr 2
    rw [show (valB (s.take j) 0 * 256 + (s.getD j 0).toNat) % 256 = (s.getD j 0).toNat by omega]
    exact UInt8.ofNat_toNat

theorem be8_eq (n : Nat) (hn : n < 9223372036854775808) : be8 n = beN 8 n := by
  have h : ∀ a b : Nat, a % 256 = b % 256 → UInt8.ofNat a = UInt8.ofNat b := by
    intro a b e
    apply UInt8.toNat_inj.1
    rw [UInt8.toNat_ofNat', UInt8.toNat_ofNat']; omega
  have e := fun i hi => be_one n hn i hi
  have e7 := e 7 (by omega); have e6 := e 6 (by omega); have e5 := e 5 (by omega); have e4 := e 4 (by omega)
  have e3 := e 3 (by omega); have e2 := e 2 (by omega); have e1 := e 1 (by omega); have e0 := e 0 (by omega)
  simp only [Nat.reduceMul] at e7 e6 e5 e4 e3 e2 e1 e0
  have : be8 n = [UInt8.ofNat (n / 256 ^ 7), UInt8.ofNat (n / 256 ^ 6), UInt8.ofNat (n / 256 ^ 5), UInt8.ofNat (n / 256 ^ 4), UInt8.ofNat (n / 256 ^ 3), UInt8.ofNat (n / 256 ^ 2), UInt8.ofNat (n / 256 ^ 1), UInt8.ofNat (n / 256 ^ 0)] := by
    rw [← e7, ← e6, ← e5, ← e4, ← e3, ← e2, ← e1, ← e0]; rfl
  rw [this]
  simp only [beN, List.nil_append, List.cons_append, List.append_assoc, Nat.div_div_eq_div_mul, Nat.reducePow, Nat.reduceMul]
  simp only [List.cons.injEq, and_true]
  refine ⟨?_, ?_, ?_, ?_, ?_, ?_, ?_, ?_⟩ <;> (apply h; omega)

/-- the first part, and what follows -/
def cutR (s : List UInt8) : Option (List UInt8 × List UInt8) :=
  if s.length < 8 then none else if s.length - 8 < valB (s.take 8) 0 then none else some ((s.drop 8).take (valB (s.take 8) 0), (s.drop 8).drop (valB (s.take 8) 0))

theorem cutR_lt {s a b : List UInt8} (h : cutR s = some (a, b)) : b.length < s.length ∧ s = be8 a.length ++ (a ++ b) ∨ 9223372036854775800 < s.length := by
  by_cases hb : 9223372036854775800 < s.length
  · exact .inr hb
  refine .inl ?_
  unfold cutR at h
  by_cases h1 : s.length < 8
  · rw [if_pos h1] at h; cases h
  rw [if_neg h1] at h
  by_cases h2 : s.length - 8 < valB (s.take 8) 0
  · rw [if_pos h2] at h; cases h
  rw [if_neg h2] at h
  obtain ⟨rfl, rfl⟩ := Prod.mk.inj (Option.some.inj h)
  have hl : ((s.drop 8).take (valB (s.take 8) 0)).length = valB (s.take 8) 0 := by rw [List.length_take, List.length_drop]; omega
  refine ⟨by rw [List.length_drop, List.length_drop]; omega, ?_⟩
  rw [hl, be8_eq _ (by omega), beN_valB 8 s (by omega), List.take_append_drop, List.take_append_drop]

theorem cutR_less {s a b : List UInt8} (h : cutR s = some (a, b)) : b.length < s.length := by
  unfold cutR at h
  by_cases h1 : s.length < 8
  · rw [if_pos h1] at h; cases h
  rw [if_neg h1] at h
  by_cases h2 : s.length - 8 < valB (s.take 8) 0
  · rw [if_pos h2] at h; cases h
  rw [if_neg h2] at h
  obtain ⟨rfl, rfl⟩ := Prod.mk.inj (Option.some.inj h)
  rw [List.length_drop, List.length_drop]; omega

def splitR : Nat → List UInt8 → Option (List (List UInt8))
  | 0, s => if s = [] then some [] else none
  | n + 1, s => if s = [] then some [] else match cutR s with
    | none => none
    | some (a, b) => (splitR n b).map (a :: ·)

def itemsR : Nat → List UInt8 → List (List UInt8 × Bool × Unit)
  | 0, s => []
  | n + 1, s => if s = [] then [] else match cutR s with
    | none => [([], false, ())]
    | some (a, b) => (a, true, ()) :: itemsR n b

theorem splitR_fuel : ∀ (n m : Nat) (s : List UInt8), s.length ≤ n → s.length ≤ m → splitR n s = splitR m s
  | 0, 0, s, _, _ => rfl
  | 0, m + 1, s, h, _ => by
    have : s = [] := List.length_eq_zero_iff.1 (by omega)
    subst this; rfl
  | n + 1, 0, s, _, h => by
    have : s = [] := List.length_eq_zero_iff.1 (by omega)
    subst this; rfl
  | n + 1, m + 1, s, h, h' => by
    unfold splitR
    by_cases e : s = []
    · rw [if_pos e, if_pos e]
    rw [if_neg e, if_neg e]
    cases hc : cutR s with
    | none => rfl
    | some p =>
      obtain ⟨a, b⟩ := p
      have := cutR_less hc
      dsimp only
      rw [splitR_fuel n m b (by omega) (by omega)]

theorem itemsR_fuel : ∀ (n m : Nat) (s : List UInt8), s.length ≤ n → s.length ≤ m → itemsR n s = itemsR m s
  | 0, 0, s, _, _ => rfl
  | 0, m + 1, s, h, _ => by
    have : s = [] := List.length_eq_zero_iff.1 (by omega)
    subst this; rfl
  | n + 1, 0, s, _, h => by
    have : s = [] := List.length_eq_zero_iff.1 (by omega)
    subst this; rfl
  | n + 1, m + 1, s, h, h' => by
    unfold itemsR
    by_cases e : s = []
    · rw [if_pos e, if_pos e]
    rw [if_neg e, if_neg e]
    cases hc : cutR s with
    | none => rfl
    | some p =>
      obtain ⟨a, b⟩ := p
      have := cutR_less hc
      dsimp only
      rw [itemsR_fuel n m b (by omega) (by omega)]

abbrev splitL (s : List UInt8) : Option (List (List UInt8)) := splitR s.length s

theorem splitL_nil : splitL [] = some [] := rfl
theorem splitL_cons {s : List UInt8} (h : s ≠ []) : splitL s = match cutR s with
    | none => none
    | some (a, b) => (splitL b).map (a :: ·) := by
  have hp : 0 < s.length := List.length_pos_iff.2 h
  unfold splitL
  obtain ⟨n, hn⟩ : ∃ n, s.length = n + 1 := ⟨s.length - 1, by omega⟩
  rw [hn, splitR, if_neg h]
  cases hc : cutR s with
  | none => rfl
  | some p =>
    obtain ⟨a, b⟩ := p
    have := cutR_less hc
    dsimp only
    rw [splitR_fuel n b.length b (by omega) (by omega)]

/-- what is split is the frame of its parts -/
theorem frame_split : ∀ (n : Nat) (s : List UInt8) (l : List (List UInt8)), s.length ≤ n → s.length ≤ 9223372036854775800 → splitL s = some l → frameL l = s
  | 0, s, l, h, _, e => by
    have : s = [] := List.length_eq_zero_iff.1 (by omega)
    subst this
    obtain rfl : [] = l := Option.some.inj e
    rfl
  | n + 1, s, l, h, hb, e => by
    by_cases hs : s = []
    · subst hs
      obtain rfl : [] = l := Option.some.inj e
      rfl
    rw [splitL_cons hs] at e
    cases hc : cutR s with
    | none => rw [hc] at e; cases e
    | some p =>
      obtain ⟨a, b⟩ := p
      rw [hc] at e
      rcases cutR_lt hc with ⟨h1, h2⟩ | h1
      · dsimp only at e
        cases hb2 : splitL b with
        | none => rw [hb2] at e; cases e
        | some m =>
          rw [hb2] at e
          obtain rfl : a :: m = l := Option.some.inj e
          rw [frameL_cons, frame_split n b m (by omega) (by omega) hb2, ← h2]
      · omega

theorem be8_length (n : Nat) : (be8 n).length = 8 := rfl

/-- a frame is split into its parts -/
theorem split_frame : ∀ (l : List (List UInt8)), (∀ p ∈ l, p.length < 9223372036854775808) → splitL (frameL l) = some l
  | [], _ => rfl
  | p :: l, h => by
    have hp := h p (by simp)
    have hne : frameL (p :: l) ≠ [] := by
      intro e
      have := congrArg List.length e
      rw [frameL_cons, List.length_append, be8_length] at this
      simp at this
    rw [splitL_cons hne]
    have ht : (frameL (p :: l)).take 8 = beN 8 p.length := by
      rw [frameL_cons, List.take_append_of_le_length (by rw [be8_length]; omega), List.take_of_length_le (by rw [be8_length]; omega), be8_eq _ hp]
    have hd : (frameL (p :: l)).drop 8 = p ++ frameL l := by
      rw [frameL_cons, List.drop_append_of_le_length (by rw [be8_length]; omega), List.drop_of_length_le (by rw [be8_length]; omega)]; rfl
    have hv : valB ((frameL (p :: l)).take 8) 0 = p.length := by rw [ht]; exact valB_beN 8 _ (by omega)
    have hl : (frameL (p :: l)).length = 8 + (p.length + (frameL l).length) := by
      rw [frameL_cons, List.length_append, List.length_append, be8_length]
    have hc : cutR (frameL (p :: l)) = some (p, frameL l) := by
      unfold cutR
      rw [hv, hd, if_neg (by omega), if_neg (by omega)]
      simp
    rw [hc]
    dsimp only
    rw [split_frame l (fun q hq => h q (by simp [hq]))]; rfl

theorem splitL_length : ∀ (n : Nat) (s : List UInt8) (l : List (List UInt8)), s.length ≤ n → splitL s = some l → l.length ≤ s.length
  | 0, s, l, h, e => by
    have : s = [] := List.length_eq_zero_iff.1 (by omega)
    subst this
    obtain rfl : [] = l := Option.some.inj e
    simp
  | n + 1, s, l, h, e => by
    by_cases hs : s = []
    · subst hs
      obtain rfl : [] = l := Option.some.inj e
      simp
    rw [splitL_cons hs] at e
    cases hc : cutR s with
    | none => rw [hc] at e; cases e
    | some p =>
      obtain ⟨a, b⟩ := p
      rw [hc] at e
      have := cutR_less hc
      dsimp only at e
      cases hb2 : splitL b with
      | none => rw [hb2] at e; cases e
      | some m =>
        rw [hb2] at e
        obtain rfl : a :: m = l := Option.some.inj e
        have := splitL_length n b m (by omega) hb2
        simp; omega

end Go.Proofs.YtkccmmbomlpgnaaDoorLg
