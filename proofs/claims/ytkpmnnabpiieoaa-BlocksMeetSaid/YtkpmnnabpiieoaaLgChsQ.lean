/- How many bits of a word are set: the program's sum of neighbours counts them. -/
import Derived.Test.YtkpmnnabpiieoaaLgChsP
set_option linter.all false
namespace Go.Proofs.YtkpmnnabpiieoaaPx
open Go Go.Lift

theorem dle_lt {k m : Nat} : ∀ n x, dle k m (n + 1) x → x < 2 ^ (k * (n + 1)) → x < (m + 1) * 2 ^ (k * n)
  | 0, x, h, hx => by
    have h0 := h.1
    rw [Nat.zero_add, Nat.mul_one] at hx
    rw [Nat.mod_eq_of_lt hx] at h0
    rw [Nat.mul_zero, Nat.pow_zero, Nat.mul_one]
    omega
  | n + 1, x, h, hx => by
    rw [Nat.mul_add, Nat.mul_one, Nat.pow_add, Nat.mul_comm (2 ^ (k * (n + 1)))] at hx
    have ih := dle_lt n (x / 2 ^ k) h.2 (Nat.div_lt_of_lt_mul hx)
    have e := (Nat.div_lt_iff_lt_mul (Nat.two_pow_pos k)).1 ih
    rw [Nat.mul_add, Nat.mul_one, Nat.pow_add, ← Nat.mul_assoc]
    exact e

def s1I (x : Int) : Int := IntKind.wrap .u64 (bitsOp .and .u64 (shrI .u64 x 1) 6148914691236517205 + bitsOp .and .u64 x 6148914691236517205)
def s2I (x : Int) : Int := IntKind.wrap .u64 (bitsOp .and .u64 (shrI .u64 x 2) 3689348814741910323 + bitsOp .and .u64 x 3689348814741910323)
def s3I (x : Int) : Int := bitsOp .and .u64 (IntKind.wrap .u64 (shrI .u64 x 4 + x)) 1085102592571150095
def s4I (k x : Int) : Int := IntKind.wrap .u64 (x + shrI .u64 x k)
def onesI (x : Int) : Int := bitsOp .and .i64 (IntKind.wrap .i64 (s4I 32 (s4I 16 (s4I 8 (s3I (s2I (s1I x))))))) 127

theorem u64_nat {n : Nat} (h : n < 18446744073709551616) : U64 (n : Int) := by unfold U64; omega

theorem shr_u64 {n k : Nat} (hk : k < 64) : shrI .u64 (n : Int) (k : Int) = ((n / 2 ^ k : Nat) : Int) := by
  rw [shr_nat (by omega) hk, Int.toNat_natCast, Nat.shiftRight_eq_div_pow]

theorem and_nat {n m : Nat} (hn : n < 18446744073709551616) (hm : m < 18446744073709551616) : bitsOp .and .u64 (n : Int) (m : Int) = ((n &&& m : Nat) : Int) := by
  rw [and_u64 (u64_nat hn) (u64_nat hm), Int.toNat_natCast, Int.toNat_natCast]

theorem and_127 {n : Nat} (hn : n < 9223372036854775808) : bitsOp .and .i64 (n : Int) 127 = ((n % 128 : Nat) : Int) := by
  have e : bitsOp .and .i64 (n : Int) 127 = IntKind.wrap .i64 ((BitVec.ofInt 64 (n : Int) &&& BitVec.ofInt 64 127).toNat : Int) := rfl
  have e1 : (BitVec.ofInt 64 (n : Int)).toNat = n := by rw [BitVec.toNat_ofInt]; omega
  have e2 : (BitVec.ofInt 64 (127 : Int)).toNat = 127 := rfl
  have e3 : n &&& 127 = n % 128 := Nat.and_two_pow_sub_one_eq_mod n 7
  rw [e, BitVec.toNat_and, e1, e2, e3, wrap_in (by unfold I64; omega)]

theorem m1 : (6148914691236517205 : Nat) = maskF 1 32 := by decide
theorem m2 : (3689348814741910323 : Nat) = maskF 2 16 := by decide
theorem m3 : (1085102592571150095 : Nat) = maskF 4 8 := by decide

theorem s1_nat {n : Nat} (h : n < 18446744073709551616) : s1I (n : Int) = ((stepF 1 32 n : Nat) : Int) := by
  have hs : stepF 1 32 n < 18446744073709551616 := stepF_lt (by omega) 32 n
  have hd : n / 2 ^ 1 < 18446744073709551616 := Nat.lt_of_le_of_lt (Nat.div_le_self _ _) h
  have e := step_eq 1 32 n
  have a1 : shrI .u64 (n : Int) 1 = ((n / 2 ^ 1 : Nat) : Int) := shr_u64 (k := 1) (by omega)
  have a2 := and_nat hd (m := 6148914691236517205) (by omega)
  have a3 := and_nat h (m := 6148914691236517205) (by omega)
  rw [m1] at a2 a3
  unfold s1I
  rw [a1]
  show IntKind.wrap .u64 (bitsOp .and .u64 _ ((6148914691236517205 : Nat) : Int) + bitsOp .and .u64 _ ((6148914691236517205 : Nat) : Int)) = _
  rw [m1, a2, a3, ← e, wrap_u64_in]
  · rw [Int.natCast_add]
  · rw [← Int.natCast_add, e]; exact u64_nat hs

theorem s2_nat {n : Nat} (h : n < 18446744073709551616) : s2I (n : Int) = ((stepF 2 16 n : Nat) : Int) := by
  have hs : stepF 2 16 n < 18446744073709551616 := stepF_lt (by omega) 16 n
  have hd : n / 2 ^ 2 < 18446744073709551616 := Nat.lt_of_le_of_lt (Nat.div_le_self _ _) h
  have e := step_eq 2 16 n
  have a1 : shrI .u64 (n : Int) 2 = ((n / 2 ^ 2 : Nat) : Int) := shr_u64 (k := 2) (by omega)
  have a2 := and_nat hd (m := 3689348814741910323) (by omega)
  have a3 := and_nat h (m := 3689348814741910323) (by omega)
  rw [m2] at a2 a3
  unfold s2I
  rw [a1]
  show IntKind.wrap .u64 (bitsOp .and .u64 _ ((3689348814741910323 : Nat) : Int) + bitsOp .and .u64 _ ((3689348814741910323 : Nat) : Int)) = _
  rw [m2, a2, a3, ← e, wrap_u64_in]
  · rw [Int.natCast_add]
  · rw [← Int.natCast_add, e]; exact u64_nat hs

theorem s3_nat {n : Nat} (h : n < 18446744073709551616) (hd : dle 4 4 16 n) : s3I (n : Int) = ((stepF 4 8 n : Nat) : Int) := by
  have hb : n < (4 + 1) * 2 ^ (4 * 15) := dle_lt 15 n hd h
  simp only [Nat.reduceAdd, Nat.reduceMul, Nat.reducePow] at hb
  have e := step3_eq (k := 4) (m := 4) (by decide) 8 n (dle_more 16 n hd h)
  have a1 : shrI .u64 (n : Int) 4 = ((n / 2 ^ 4 : Nat) : Int) := shr_u64 (k := 4) (by omega)
  have hd2 : n / 2 ^ 4 + n < 18446744073709551616 := by
    have := Nat.div_le_self n (2 ^ 4)
    omega
  have a2 := and_nat hd2 (m := 1085102592571150095) (by omega)
  rw [m3, e] at a2
  unfold s3I
  rw [a1, ← Int.natCast_add, wrap_u64_in (u64_nat hd2)]
  show bitsOp .and .u64 _ ((1085102592571150095 : Nat) : Int) = _
  rw [m3, a2]

theorem s4_nat {n k : Nat} (hk : k < 64) (h : n + n / 2 ^ k < 18446744073709551616) : s4I (k : Int) (n : Int) = ((n + n / 2 ^ k : Nat) : Int) := by
  unfold s4I
  rw [shr_u64 hk, ← Int.natCast_add, wrap_u64_in (u64_nat h)]

theorem ones_nat {n : Nat} (h : n < 18446744073709551616) : onesI (n : Int) = ((pop 64 n : Nat) : Int) := by
  have h1 : stepF 1 32 n < 18446744073709551616 := stepF_lt (by omega) 32 n
  have d1 : dle 2 2 32 (stepF 1 32 n) := dle_step (by omega) 32 n (dle_one 64 n)
  have u1 : dsum 2 32 (stepF 1 32 n) = pop 64 n := by rw [← dsum_one]; exact dsum_step (by omega) 32 n
  unfold onesI
  rw [s1_nat h]
  generalize stepF 1 32 n = x at *
  have h2 : stepF 2 16 x < 18446744073709551616 := stepF_lt (by omega) 16 x
  have d2 : dle 4 4 16 (stepF 2 16 x) := dle_step (by omega) 16 x d1
  have u2 : dsum 4 16 (stepF 2 16 x) = pop 64 n := by rw [← u1]; exact dsum_step (by omega) 16 x
  rw [s2_nat h1]
  generalize stepF 2 16 x = y at *
  have h3 : stepF 4 8 y < 18446744073709551616 := stepF_lt (by omega) 8 y
  have d3 : dle 8 8 8 (stepF 4 8 y) := dle_step (by omega) 8 y d2
  have u3 : dsum 8 8 (stepF 4 8 y) = pop 64 n := by rw [← u2]; exact dsum_step (by omega) 8 y
  rw [s3_nat h2 d2]
  generalize stepF 4 8 y = z at *
  have hb : z < (8 + 1) * 2 ^ (8 * 7) := dle_lt 7 z d3 h3
  simp only [Nat.reduceAdd, Nat.reduceMul, Nat.reducePow] at hb
  obtain ⟨l1, l2, l3⟩ := fold8_lt (x := z) (by omega)
  have f := fold8 d3 h3
  have q1 : s4I 8 (z : Int) = ((z + z / 256 : Nat) : Int) := s4_nat (k := 8) (by omega) l1
  rw [q1]
  generalize z + z / 256 = a at *
  have q2 : s4I 16 (a : Int) = ((a + a / 65536 : Nat) : Int) := s4_nat (k := 16) (by omega) l2
  rw [q2]
  generalize a + a / 65536 = b at *
  have q3 : s4I 32 (b : Int) = ((b + b / 4294967296 : Nat) : Int) := s4_nat (k := 32) (by omega) (by omega)
  rw [q3, wrap_in (by unfold I64; omega), and_127 l3, f, u3]

theorem ones_eq {x : Int} (h : U64 x) : onesI x = ((pop 64 x.toNat : Nat) : Int) := by
  obtain ⟨n, rfl⟩ := Int.eq_ofNat_of_zero_le h.1
  have := h.2
  rw [Int.toNat_natCast, ones_nat (by omega)]

/-- how many of the first n are true -/
def cnt (f : Nat → Bool) : Nat → Nat
  | 0 => 0
  | n + 1 => cnt f n + (f n).toNat

theorem cnt_le (f : Nat → Bool) : ∀ n, cnt f n ≤ n
  | 0 => Nat.le_refl _
  | n + 1 => by
    have := cnt_le f n
    have : (f n).toNat ≤ 1 := by cases f n <;> decide
    simp only [cnt]; omega

theorem cnt_congr {f g : Nat → Bool} : ∀ n, (∀ i, i < n → f i = g i) → cnt f n = cnt g n
  | 0, _ => rfl
  | n + 1, h => by rw [cnt, cnt, cnt_congr n (fun i hi => h i (by omega)), h n (by omega)]

theorem cnt_add (f : Nat → Bool) (m : Nat) : ∀ n, cnt f (m + n) = cnt f m + cnt (fun i => f (m + i)) n
  | 0 => rfl
  | n + 1 => by rw [← Nat.add_assoc, cnt, cnt, cnt_add f m n, Nat.add_assoc]

theorem pop_cnt : ∀ n x, pop n x = cnt (fun i => x.testBit i) n
  | 0, _ => rfl
  | n + 1, x => by
    have h : cnt (fun i => x.testBit i) (1 + n) = cnt (fun i => x.testBit i) 1 + cnt (fun i => x.testBit (1 + i)) n := cnt_add _ 1 n
    have e : cnt (fun i => x.testBit (1 + i)) n = cnt (fun i => (x / 2).testBit i) n := cnt_congr n (fun i _ => by rw [Nat.add_comm, Nat.testBit_succ])
    rw [Nat.add_comm n 1, h, e, ← pop_cnt n, Nat.add_comm 1 n, pop]
    congr 1
    simp only [cnt, Nat.testBit_zero, Nat.zero_add]
    have := Nat.mod_lt x (show 0 < 2 by omega)
    obtain h | h : x % 2 = 0 ∨ x % 2 = 1 := by omega
    · rw [h]; rfl
    · rw [h]; rfl

/-- two parts of what f counts -/
theorem cnt_parts {f g h : Nat → Bool} : ∀ n, (∀ i, i < n → g i = (f i && h i)) → ∀ {g' : Nat → Bool}, (∀ i, i < n → g' i = (f i && !h i)) → cnt g n + cnt g' n = cnt f n
  | 0, _, _, _ => rfl
  | n + 1, h1, g', h2 => by
    have ih := cnt_parts n (fun i hi => h1 i (by omega)) (fun i hi => h2 i (by omega))
    rw [cnt, cnt, cnt, ← ih, h1 n (by omega), h2 n (by omega)]
    cases f n <;> cases h n <;> simp only [Bool.and_true, Bool.and_false, Bool.not_true, Bool.not_false, Bool.toNat_true, Bool.toNat_false] <;> omega

/-- how many a set has -/
def cntS (s : List Int) : Nat := cnt (hasS s) 256

theorem cntS_eq {s : List Int} {a b c d : Int} (e : s = [a, b, c, d]) : cntS s = pop 64 a.toNat + pop 64 b.toNat + pop 64 c.toNat + pop 64 d.toNat := by
  subst e
  have h1 : cnt (hasS [a, b, c, d]) (64 + (64 + (64 + 64))) = _ := cnt_add _ 64 _
  rw [cnt_add _ 64 (64 + 64), cnt_add _ 64 64] at h1
  unfold cntS
  rw [show (256 : Nat) = 64 + (64 + (64 + 64)) from rfl, h1, pop_cnt, pop_cnt, pop_cnt, pop_cnt, Nat.add_assoc, Nat.add_assoc]
  have k (w : Nat) (hw : w < 4) : cnt (fun i => hasS [a, b, c, d] (64 * w + i)) 64 = cnt (fun i => ([a, b, c, d].getD w 0).toNat.testBit i) 64 := cnt_congr 64 (fun i hi => by
    unfold hasS bit
    rw [show (64 * w + i) / 64 = w by omega, show (64 * w + i) % 64 = i by omega])
  have k0 := k 0 (by omega)
  have k1 := k 1 (by omega)
  have k2 := k 2 (by omega)
  have k3 := k 3 (by omega)
  simp only [Nat.mul_zero, Nat.zero_add, Nat.mul_one, Nat.reduceMul] at k0 k1 k2 k3
  have e2 : (fun i => hasS [a, b, c, d] (64 + (64 + i))) = fun i => hasS [a, b, c, d] (128 + i) := by funext i; rw [← Nat.add_assoc]
  have e3 : (fun i => hasS [a, b, c, d] (64 + (64 + (64 + i)))) = fun i => hasS [a, b, c, d] (192 + i) := by funext i; rw [← Nat.add_assoc, ← Nat.add_assoc]
  have e0 : cnt (hasS [a, b, c, d]) 64 = cnt (fun i => hasS [a, b, c, d] i) 64 := rfl
  rw [e0, k0, k1, e2, k2, e3, k3]
  rfl

theorem cntS_parts {s t : List Int} (hs : SetOk s) (ht : SetOk t) : cntS (andS s t) + cntS (andS s (notS t)) = cntS s :=
  cnt_parts (h := hasS t) 256 (fun i hi => has_and hs ht hi) (fun i hi => by rw [has_and hs (not_ok ht) hi, has_not ht hi])

theorem cntS_le (s : List Int) : cntS s ≤ 256 := cnt_le _ _

/-- two sets with the same elements are the same -/
theorem word_ext {x y : Int} (hx : U64 x) (hy : U64 y) (h : ∀ i, i < 64 → bit x i = bit y i) : x = y := by
  have e : x.toNat = y.toNat := Nat.eq_of_testBit_eq (fun i => by
    by_cases hi : i < 64
    · exact h i hi
    · have e64 : (18446744073709551616 : Nat) ≤ 2 ^ i := Nat.le_trans (by decide) (Nat.pow_le_pow_right (n := 2) (by omega) (show 64 ≤ i by omega))
      rw [Nat.testBit_lt_two_pow (Nat.lt_of_lt_of_le (by have := hx.2; omega) e64), Nat.testBit_lt_two_pow (Nat.lt_of_lt_of_le (by have := hy.2; omega) e64)])
  have := hx.1
  have := hy.1
  omega

theorem set_ext {s t : List Int} (hs : SetOk s) (ht : SetOk t) (h : ∀ b, b < 256 → hasS s b = hasS t b) : s = t := by
  obtain ⟨a, b, c, d, rfl, ha, hb, hc, hd⟩ := hs
  obtain ⟨e, f, g, k, rfl, he, hf, hg, hk⟩ := ht
  have q (w : Nat) (hw : w < 4) : ∀ i, i < 64 → bit ([a, b, c, d].getD w 0) i = bit ([e, f, g, k].getD w 0) i := fun i hi => by
    have := h (64 * w + i) (by omega)
    unfold hasS at this
    rwa [show (64 * w + i) / 64 = w by omega, show (64 * w + i) % 64 = i by omega] at this
  rw [word_ext ha he (q 0 (by omega)), word_ext hb hf (q 1 (by omega)), word_ext hc hg (q 2 (by omega)), word_ext hd hk (q 3 (by omega))]

end Go.Proofs.YtkpmnnabpiieoaaPx
