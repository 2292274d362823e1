/- Numbers in bytes, the lowest first, and the block of a frame: over lists of bytes. -/
import Derived.Test.YtoelheiaohiabaaLfW
import Derived.Test.YtoelheiaohiabaaPxA
import Derived.Test.YtoelheiaohiabaaPxB
set_option linter.all false
namespace Go.Proofs.YtoelheiaohiabaaPx
open Go Go.Lift

def u8 (n : Nat) : UInt8 := UInt8.ofNat n
theorem u8_toNat (n : Nat) : (u8 n).toNat = n % 256 := by simp [u8]
theorem u8_of (b : UInt8) : u8 b.toNat = b := by simp [u8]

def le : Nat → Nat → List UInt8
  | 0, _ => []
  | k + 1, n => u8 (n % 256) :: le k (n / 256)

def num : List UInt8 → Nat
  | [] => 0
  | b :: r => b.toNat + 256 * num r

theorem le_length : ∀ k n, (le k n).length = k
  | 0, _ => rfl
  | k + 1, n => by simp [le, le_length k]

theorem num_le : ∀ k n, n < 256 ^ k → num (le k n) = n
  | 0, n, h => by simp at h; simp [le, num, h]
  | k + 1, n, h => by
    rw [Nat.pow_succ] at h
    simp only [le, num, u8_toNat]
    rw [num_le k (n / 256) (by rw [Nat.div_lt_iff_lt_mul (by omega)]; exact h)]
    omega

theorem le_num : ∀ l : List UInt8, le l.length (num l) = l
  | [] => rfl
  | b :: r => by
    have hb := b.toNat_lt
    simp only [List.length_cons, le, num]
    rw [show (b.toNat + 256 * num r) / 256 = num r by omega, le_num r, show (b.toNat + 256 * num r) % 256 = b.toNat by omega, u8_of]

theorem num_lt : ∀ l : List UInt8, num l < 256 ^ l.length
  | [] => by simp [num]
  | b :: r => by
    have hb := b.toNat_lt
    have := num_lt r
    simp only [num, List.length_cons, Nat.pow_succ]
    omega

theorem num_append : ∀ a b : List UInt8, num (a ++ b) = num a + 256 ^ a.length * num b
  | [], b => by simp [num]
  | x :: a, b => by
    simp only [List.cons_append, num, num_append a b, List.length_cons, Nat.pow_succ]
    rw [Nat.mul_add, Nat.mul_comm (256 ^ a.length) 256, Nat.mul_assoc]; omega

theorem num_inj {a b : List UInt8} (hl : a.length = b.length) (h : num a = num b) : a = b := by
  rw [← le_num a, ← le_num b, hl, h]

/-- the block of a frame -/
def blk (m k : Nat) (t : List UInt8) : List UInt8 := le 8 m ++ (u8 k :: u8 t.length :: (t ++ List.replicate (110 - t.length) 0 ++ le 8 m))

theorem blk_length {m k : Nat} {t : List UInt8} (h : t.length ≤ 110) : (blk m k t).length = 128 := by
  simp only [blk, List.length_append, List.length_cons, le_length, List.length_replicate]; omega
theorem blk_take {m k : Nat} {t : List UInt8} : (blk m k t).take 8 = le 8 m := by
  have : (le 8 m).length = 8 := le_length 8 m
  unfold blk; rw [List.take_append_of_le_length (by omega), List.take_of_length_le (by omega)]
theorem blk_drop8 {m k : Nat} {t : List UInt8} : (blk m k t).drop 8 = u8 k :: u8 t.length :: (t ++ List.replicate (110 - t.length) 0 ++ le 8 m) := by
  have : (le 8 m).length = 8 := le_length 8 m
  unfold blk; rw [List.drop_append_of_le_length (by omega), List.drop_of_length_le (by omega), List.nil_append]
theorem blk_drop10 {m k : Nat} {t : List UInt8} : (blk m k t).drop 10 = t ++ List.replicate (110 - t.length) 0 ++ le 8 m := by
  rw [show (10 : Nat) = 8 + 2 from rfl, ← List.drop_drop, blk_drop8]; rfl
theorem blk_drop120 {m k : Nat} {t : List UInt8} (h : t.length ≤ 110) : (blk m k t).drop 120 = le 8 m := by
  have hl : (t ++ List.replicate (110 - t.length) (0 : UInt8)).length = 110 := by simp; omega
  rw [show (120 : Nat) = 10 + 110 from rfl, ← List.drop_drop, blk_drop10, List.drop_append_of_le_length (by omega), List.drop_of_length_le (by omega), List.nil_append]
theorem getD_drop (l : List UInt8) (i j : Nat) : (l.drop i).getD j 0 = l.getD (i + j) 0 := by
  rw [List.getD_eq_getElem?_getD, List.getElem?_drop, ← List.getD_eq_getElem?_getD]
theorem blk_8 {m k : Nat} {t : List UInt8} : (blk m k t).getD 8 0 = u8 k := by
  have := getD_drop (blk m k t) 8 0
  rw [blk_drop8] at this; exact this.symm
theorem blk_9 {m k : Nat} {t : List UInt8} : (blk m k t).getD 9 0 = u8 t.length := by
  have := getD_drop (blk m k t) 8 1
  rw [blk_drop8] at this; exact this.symm
theorem blk_text {m k : Nat} {t : List UInt8} : ((blk m k t).drop 10).take t.length = t := by
  rw [blk_drop10, List.append_assoc, List.take_append_of_le_length (by omega), List.take_of_length_le (by omega)]

/-- a block is what its parts tell, if it is one at all -/
theorem blk_of {s : List UInt8} (hl : s.length = 128) (h9 : (s.getD 9 0).toNat ≤ 110) :
    (blk (num (s.take 8)) (s.getD 8 0).toNat ((s.drop 10).take (s.getD 9 0).toNat) = s) ↔ (s.drop 120 = s.take 8 ∧ ∀ i, 10 + (s.getD 9 0).toNat ≤ i → i < 120 → s.getD i 0 = 0) := by
  generalize hn : (s.getD 9 0).toNat = n at *
  have htl : ((s.drop 10).take n).length = n := by rw [List.length_take, List.length_drop]; omega
  have h8 : (s.take 8).length = 8 := by rw [List.length_take]; omega
  have hle : le 8 (num (s.take 8)) = s.take 8 := by
    have := le_num (s.take 8); rwa [h8] at this
  have e10 : s.drop 8 = s.getD 8 0 :: s.getD 9 0 :: s.drop 10 := by rw [drop_cons s 0 8 (by omega), drop_cons s 0 9 (by omega)]
  have split : s = s.take 8 ++ (s.getD 8 0 :: s.getD 9 0 :: s.drop 10) := by rw [← e10, List.take_append_drop]
  have hu : u8 n = s.getD 9 0 := by rw [← hn, u8_of]
  have hb : blk (num (s.take 8)) (s.getD 8 0).toNat ((s.drop 10).take n) = s.take 8 ++ (s.getD 8 0 :: s.getD 9 0 :: ((s.drop 10).take n ++ List.replicate (110 - n) 0 ++ s.take 8)) := by
    simp only [blk, hle, u8_of, htl, hu]
  rw [hb]
  have key : (s.take 8 ++ (s.getD 8 0 :: s.getD 9 0 :: ((s.drop 10).take n ++ List.replicate (110 - n) 0 ++ s.take 8)) = s) ↔ ((s.drop 10).take n ++ List.replicate (110 - n) 0 ++ s.take 8 = s.drop 10) := by
    constructor
    · intro h
      have h2 := congrArg (List.drop 8) h
      rw [List.drop_append_of_le_length (by omega), List.drop_of_length_le (by omega), List.nil_append, e10] at h2
      simpa using h2
    · intro h
      rw [h]; exact split.symm
  rw [key]
  have d3 : s.drop 10 = (s.drop 10).take n ++ ((s.drop (10 + n)).take (110 - n) ++ s.drop 120) := by
    have a1 : s.drop 10 = (s.drop 10).take n ++ s.drop (10 + n) := by rw [← List.drop_drop, List.take_append_drop]
    have a2 : s.drop (10 + n) = (s.drop (10 + n)).take (110 - n) ++ s.drop 120 := by
      conv => lhs; rw [← List.take_append_drop (110 - n) (s.drop (10 + n))]
      rw [List.drop_drop, show 10 + n + (110 - n) = 120 by omega]
    rw [← a2]; exact a1
  have hz : ((s.drop (10 + n)).take (110 - n)).length = 110 - n := by rw [List.length_take, List.length_drop]; omega
  have zeros : ((s.drop (10 + n)).take (110 - n) = List.replicate (110 - n) 0) ↔ ∀ i, 10 + n ≤ i → i < 120 → s.getD i 0 = 0 := by
    rw [List.eq_replicate_iff]
    constructor
    · intro ⟨_, h⟩ i h1 h2
      have hm : s.getD i 0 ∈ (s.drop (10 + n)).take (110 - n) := by
        rw [List.mem_iff_getElem?]
        refine ⟨i - (10 + n), ?_⟩
        rw [List.getElem?_take_of_lt (by omega), List.getElem?_drop, show 10 + n + (i - (10 + n)) = i by omega, List.getElem?_eq_getElem (by omega), List.getD_eq_getElem?_getD, List.getElem?_eq_getElem (by omega)]; rfl
      exact h _ hm
    · intro h
      refine ⟨hz, fun b hb => ?_⟩
      rw [List.mem_iff_getElem?] at hb
      obtain ⟨j, hj⟩ := hb
      have hjl : j < 110 - n := by
        rcases Nat.lt_or_ge j (110 - n) with h' | h'
        · exact h'
        · rw [List.getElem?_eq_none (by omega)] at hj; cases hj
      rw [List.getElem?_take_of_lt hjl, List.getElem?_drop] at hj
      have := h (10 + n + j) (by omega) (by omega)
      rw [List.getD_eq_getElem?_getD, hj] at this
      exact this
  rw [← zeros]
  constructor
  · intro h
    rw [List.append_assoc] at h
    have h2 := List.append_cancel_left (h.trans d3)
    have h3 := List.append_inj h2 (by rw [List.length_replicate, hz])
    exact ⟨h3.2.symm, h3.1.symm⟩
  · intro ⟨h1, h2⟩
    conv => rhs; rw [d3]
    rw [h1, h2, List.append_assoc]
end Go.Proofs.YtoelheiaohiabaaPx
