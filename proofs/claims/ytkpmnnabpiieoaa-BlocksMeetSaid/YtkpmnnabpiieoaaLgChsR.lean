/- Sets of bytes: their elements in order, the sets of texts, least elements, lowest bits: mathematics alone. -/
import Derived.Test.YtkpmnnabpiieoaaLgChsQ
set_option linter.all false
namespace Go.Proofs.YtkpmnnabpiieoaaPx
open Go Go.Lift

/-- the elements from b on, among the next n -/
def tailN (s : List Int) : Nat → Nat → List Nat
  | 0, _ => []
  | n + 1, b => if hasS s b = true then b :: tailN s n (b + 1) else tailN s n (b + 1)

theorem tail_mem (s : List Int) : ∀ n b c, c ∈ tailN s n b ↔ b ≤ c ∧ c < b + n ∧ hasS s c = true
  | 0, b, c => by simp only [tailN, List.not_mem_nil, false_iff]; omega
  | n + 1, b, c => by
    have ih := tail_mem s n (b + 1) c
    rw [tailN]
    split
    · rename_i h
      rw [List.mem_cons, ih]
      constructor
      · rintro (rfl | h1)
        · exact ⟨Nat.le_refl _, by omega, h⟩
        · exact ⟨by omega, by omega, h1.2.2⟩
      · rintro ⟨h1, h2, h3⟩
        by_cases e : c = b
        · exact .inl e
        · exact .inr ⟨by omega, by omega, h3⟩
    · rename_i h
      rw [ih]
      constructor
      · rintro ⟨h1, h2, h3⟩
        exact ⟨by omega, by omega, h3⟩
      · rintro ⟨h1, h2, h3⟩
        have : c ≠ b := fun e => h (e ▸ h3)
        exact ⟨by omega, by omega, h3⟩

theorem tail_len (s : List Int) : ∀ n b, (tailN s n b).length = cnt (fun i => hasS s (b + i)) n
  | 0, _ => rfl
  | n + 1, b => by
    have e : cnt (fun i => hasS s (b + i)) (1 + n) = cnt (fun i => hasS s (b + i)) 1 + cnt (fun i => hasS s (b + (1 + i))) n := cnt_add _ 1 n
    have e2 : cnt (fun i => hasS s (b + (1 + i))) n = cnt (fun i => hasS s (b + 1 + i)) n := by simp only [Nat.add_assoc]
    rw [Nat.add_comm n 1, e, e2, ← tail_len s n (b + 1), Nat.add_comm 1 n, tailN]
    simp only [cnt, Nat.add_zero, Nat.zero_add]
    cases h : hasS s b
    · rw [if_neg (by decide)]
      show _ = 0 + _
      omega
    · rw [if_pos rfl, List.length_cons]
      show _ = 1 + _
      omega

theorem tail_up (s : List Int) : ∀ n b, (tailN s n b).Pairwise (· < ·)
  | 0, _ => List.Pairwise.nil
  | n + 1, b => by
    rw [tailN]
    split
    · exact List.pairwise_cons.2 ⟨fun c hc => ((tail_mem s n (b + 1) c).1 hc).1, tail_up s n (b + 1)⟩
    · exact tail_up s n (b + 1)

def textS (s : List Int) : List UInt8 := (tailN s 256 0).map UInt8.ofNat

theorem text_len (s : List Int) : (textS s).length = cntS s := by
  have e : (fun i => hasS s (0 + i)) = hasS s := by funext i; rw [Nat.zero_add]
  rw [textS, List.length_map, tail_len, e, cntS]

theorem text_at {s : List Int} {i : Nat} (h : i < (textS s).length) : ((textS s).getD i 0).toNat = (tailN s 256 0).getD i 0 := by
  have h' : i < (tailN s 256 0).length := by rw [textS, List.length_map] at h; exact h
  have hm := (tail_mem s 256 0 _).1 (getD_mem (tailN s 256 0) 0 i h')
  rw [textS, List.getD_eq_getElem?_getD, List.getElem?_map, List.getElem?_eq_getElem h']
  rw [List.getD_eq_getElem?_getD, List.getElem?_eq_getElem h'] at hm ⊢
  simp only [Option.map_some, Option.getD_some] at hm ⊢
  rw [UInt8.toNat_ofNat']
  omega

theorem text_has {s : List Int} {i : Nat} (h : i < (textS s).length) : hasS s ((textS s).getD i 0).toNat = true := by
  have h' : i < (tailN s 256 0).length := by rw [textS, List.length_map] at h; exact h
  rw [text_at h]
  exact ((tail_mem s 256 0 _).1 (getD_mem (tailN s 256 0) 0 i h')).2.2

theorem text_up {s : List Int} {i : Nat} (h : i + 1 < (textS s).length) : ((textS s).getD i 0).toNat < ((textS s).getD (i + 1) 0).toNat := by
  have h' : i + 1 < (tailN s 256 0).length := by rw [textS, List.length_map] at h; exact h
  rw [text_at (by omega), text_at h]
  have hp := List.pairwise_iff_getElem.1 (tail_up s 256 0) i (i + 1) (by omega) h' (by omega)
  rw [List.getD_eq_getElem?_getD, List.getD_eq_getElem?_getD, List.getElem?_eq_getElem h', List.getElem?_eq_getElem (by omega)]
  exact hp

/-- is a byte in a text -/
def inS (l : List UInt8) (c : Nat) : Bool := l.any fun u => u.toNat == c

theorem text_in {s : List Int} {c : Nat} (hc : c < 256) : inS (textS s) c = hasS s c := by
  rw [Bool.eq_iff_iff]
  unfold inS textS
  rw [List.any_eq_true]
  constructor
  · rintro ⟨u, hu, he⟩
    obtain ⟨n, hn, rfl⟩ := List.mem_map.1 hu
    have hm := (tail_mem s 256 0 n).1 hn
    rw [UInt8.toNat_ofNat'] at he
    have := eq_of_beq he
    have e : n = c := by omega
    exact e ▸ hm.2.2
  · intro h
    refine ⟨UInt8.ofNat c, List.mem_map.2 ⟨c, (tail_mem s 256 0 c).2 ⟨Nat.zero_le _, by omega, h⟩, rfl⟩, ?_⟩
    rw [UInt8.toNat_ofNat', Nat.mod_eq_of_lt hc, beq_self_eq_true]

/-- a text's bytes put in -/
def putS (l : List UInt8) (s : List Int) : List Int := l.foldl (fun s u => withS s u.toNat) s

theorem put_ok : ∀ (l : List UInt8) {s : List Int}, SetOk s → SetOk (putS l s)
  | [], _, h => h
  | u :: l, _, h => put_ok l (with_ok h (u8_lt u))

theorem has_put : ∀ (l : List UInt8) {s : List Int}, SetOk s → ∀ {c : Nat}, c < 256 → hasS (putS l s) c = (hasS s c || inS l c)
  | [], s, _, c, _ => by simp only [putS, List.foldl_nil, inS, List.any_nil, Bool.or_false]
  | u :: l, s, h, c, hc => by
    have ih := has_put l (with_ok h (u8_lt u)) hc
    have e : putS (u :: l) s = putS l (withS s u.toNat) := rfl
    have e2 : inS (u :: l) c = ((u.toNat == c) || inS l c) := rfl
    rw [e, ih, has_with h (u8_lt u) hc, e2, Bool.or_assoc]
    rfl

theorem put_text {s : List Int} (h : SetOk s) : putS (textS s) [0, 0, 0, 0] = s :=
  set_ext (put_ok _ none_ok) h (fun b hb => by rw [has_put _ none_ok hb, has_none, Bool.false_or, text_in hb])

/-- the least element from b on, among the next n; -1 if there is none -/
def leastI (s : List Int) : Nat → Nat → Int
  | 0, _ => -1
  | n + 1, b => if hasS s b = true then (b : Int) else leastI s n (b + 1)

theorem least_at {s : List Int} {c : Nat} (hc : hasS s c = true) : ∀ n b, b ≤ c → c < b + n → (∀ i, b ≤ i → i < c → hasS s i = false) → leastI s n b = (c : Int)
  | 0, b, h1, h2, _ => by omega
  | n + 1, b, h1, h2, h => by
    rw [leastI]
    by_cases e : b = c
    · subst e
      rw [if_pos hc]
    · have hb := h b (Nat.le_refl _) (by omega)
      rw [if_neg (by rw [hb]; decide)]
      exact least_at hc n (b + 1) (by omega) (by omega) (fun i h3 h4 => h i (by omega) h4)

theorem least_none {s : List Int} (h : ∀ i, hasS s i = false) : ∀ n b, leastI s n b = -1
  | 0, _ => rfl
  | n + 1, b => by
    rw [leastI, if_neg (by rw [h b]; decide), least_none h n (b + 1)]

/-- the lowest bit of a number -/
theorem low_form : ∀ x : Nat, x ≠ 0 → ∃ t q, x = 2 ^ t * (2 * q + 1) := by
  intro x
  induction x using Nat.strongRecOn with
  | _ x ih =>
    intro h
    by_cases e : x % 2 = 1
    · exact ⟨0, x / 2, by rw [Nat.pow_zero]; omega⟩
    · obtain ⟨t, q, h1⟩ := ih (x / 2) (by omega) (by omega)
      refine ⟨t + 1, q, ?_⟩
      rw [Nat.pow_succ, Nat.mul_comm (2 ^ t) 2, Nat.mul_assoc, ← h1]
      omega

theorem low_bit (t q i : Nat) : (2 ^ t * (2 * q + 1)).testBit i = if i < t then false else if i = t then true else q.testBit (i - t - 1) := by
  have e : 2 ^ t * (2 * q + 1) = 2 ^ t * (2 * q + 1) + 0 := rfl
  rw [e, Nat.testBit_two_pow_mul_add _ (Nat.two_pow_pos t)]
  split
  · exact Nat.zero_testBit i
  · rename_i h
    split
    · rename_i h2
      subst h2
      rw [Nat.sub_self, Nat.testBit_zero]
      exact decide_eq_true (by omega)
    · rename_i h2
      obtain ⟨j, hj⟩ : ∃ j, i - t = j + 1 := ⟨i - t - 1, by omega⟩
      rw [hj, Nat.testBit_succ]
      congr 1
      omega

theorem low_and {t q : Nat} (h : 2 ^ t * (2 * q + 1) < 2 ^ 64) : (2 ^ t * (2 * q + 1)) &&& (2 ^ 64 - 2 ^ t * (2 * q + 1)) = 2 ^ t := by
  have hp := Nat.two_pow_pos t
  have ht : t < 64 := by
    have : 2 ^ t * 1 ≤ 2 ^ t * (2 * q + 1) := Nat.mul_le_mul_left _ (by omega)
    exact (Nat.pow_lt_pow_iff_right (a := 2) (by omega)).1 (by omega)
  have e : 2 ^ t * (2 * q + 1) = (2 ^ t * (2 * q) + (2 ^ t - 1)) + 1 := by
    rw [Nat.mul_add, Nat.mul_one]; omega
  have hlt : 2 ^ t * (2 * q) + (2 ^ t - 1) < 2 ^ 64 := by omega
  apply Nat.eq_of_testBit_eq
  intro i
  have hb := low_bit t q i
  rw [Nat.testBit_and, Nat.testBit_two_pow]
  have hs : (2 ^ 64 - 2 ^ t * (2 * q + 1)).testBit i = (decide (i < 64) && !(2 ^ t * (2 * q) + (2 ^ t - 1)).testBit i) := by
    rw [e, Nat.testBit_two_pow_sub_succ hlt]
  rw [hs, hb, Nat.testBit_two_pow_mul_add _ (by omega)]
  by_cases h1 : i < t
  · rw [if_pos h1, if_pos h1, Bool.false_and]
    exact (decide_eq_false (by omega)).symm
  · rw [if_neg h1, if_neg h1]
    by_cases h2 : i = t
    · subst h2
      rw [if_pos rfl, Nat.sub_self, Nat.testBit_zero, decide_eq_true ht, decide_eq_false (by omega)]
      exact (decide_eq_true rfl).symm
    · obtain ⟨j, hj⟩ : ∃ j, i - t = j + 1 := ⟨i - t - 1, by omega⟩
      have ej : i - t - 1 = j := by omega
      have eq2 : 2 * q / 2 = q := by omega
      rw [if_neg h2, hj, Nat.testBit_succ, eq2, Nat.add_sub_cancel, decide_eq_false (p := t = i) (by omega)]
      cases q.testBit j <;> cases decide (i < 64) <;> rfl

end Go.Proofs.YtkpmnnabpiieoaaPx
