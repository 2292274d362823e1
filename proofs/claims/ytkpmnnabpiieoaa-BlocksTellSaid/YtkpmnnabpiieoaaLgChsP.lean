/- How many bits of a word are set: mathematics alone. -/
import Derived.Test.YtkpmnnabpiieoaaLgChsM
set_option linter.all false
namespace Go.Proofs.YtkpmnnabpiieoaaPx
open Go Go.Lift

theorem and_split {j a b c d : Nat} (ha : a < 2 ^ j) (hc : c < 2 ^ j) : (a + 2 ^ j * b) &&& (c + 2 ^ j * d) = (a &&& c) + 2 ^ j * (b &&& d) := by
  have hp : 0 < 2 ^ j := Nat.two_pow_pos j
  have hac : a &&& c < 2 ^ j := Nat.lt_of_le_of_lt Nat.and_le_left ha
  have h1 : ((a + 2 ^ j * b) &&& (c + 2 ^ j * d)) % 2 ^ j = a &&& c := by
    rw [Nat.and_mod_two_pow, Nat.add_mul_mod_self_left, Nat.add_mul_mod_self_left, Nat.mod_eq_of_lt ha, Nat.mod_eq_of_lt hc]
  have h2 : ((a + 2 ^ j * b) &&& (c + 2 ^ j * d)) / 2 ^ j = b &&& d := by
    rw [Nat.and_div_two_pow, Nat.add_mul_div_left _ _ hp, Nat.add_mul_div_left _ _ hp, Nat.div_eq_of_lt ha, Nat.div_eq_of_lt hc, Nat.zero_add, Nat.zero_add]
  have h3 := Nat.mod_add_div ((a + 2 ^ j * b) &&& (c + 2 ^ j * d)) (2 ^ j)
  rw [h1, h2] at h3
  exact h3.symm

/-- n fields of 2 * k bits, the lower half of each set -/
def maskF (k : Nat) : Nat → Nat
  | 0 => 0
  | n + 1 => (2 ^ k - 1) + 2 ^ (2 * k) * maskF k n

/-- neighbours added -/
def stepF (k : Nat) : Nat → Nat → Nat
  | 0, _ => 0
  | n + 1, x => (x % 2 ^ k + x / 2 ^ k % 2 ^ k) + 2 ^ (2 * k) * stepF k n (x / 2 ^ (2 * k))

def dsum (k : Nat) : Nat → Nat → Nat
  | 0, _ => 0
  | n + 1, x => x % 2 ^ k + dsum k n (x / 2 ^ k)

def dle (k m : Nat) : Nat → Nat → Prop
  | 0, _ => True
  | n + 1, x => x % 2 ^ k ≤ m ∧ dle k m n (x / 2 ^ k)

theorem two_mul_pow (k : Nat) : 2 ^ (2 * k) = 2 ^ k * 2 ^ k := by rw [Nat.two_mul, Nat.pow_add]

theorem pow_ge {k : Nat} (hk : 0 < k) : 2 ≤ 2 ^ k := by
  have := Nat.pow_le_pow_right (n := 2) (by omega) hk
  simpa using this

theorem low_lt {k : Nat} : 2 ^ k - 1 < 2 ^ (2 * k) := by
  have h : 2 ^ k ≤ 2 ^ (2 * k) := Nat.pow_le_pow_right (by omega) (by omega)
  have := Nat.two_pow_pos k
  omega

theorem and_low (k x : Nat) : (x % 2 ^ (2 * k)) &&& (2 ^ k - 1) = x % 2 ^ k := by
  rw [Nat.and_two_pow_sub_one_eq_mod, two_mul_pow, Nat.mod_mul_left_mod]

theorem and_mask (k : Nat) : ∀ n x, x &&& maskF k n = 0 + (match n with | 0 => 0 | n + 1 => x % 2 ^ k + 2 ^ (2 * k) * ((x / 2 ^ (2 * k)) &&& maskF k n))
  | 0, x => by simp only [maskF, Nat.and_zero]
  | n + 1, x => by
    have h := and_split (j := 2 * k) (a := x % 2 ^ (2 * k)) (b := x / 2 ^ (2 * k)) (c := 2 ^ k - 1) (d := maskF k n) (Nat.mod_lt _ (Nat.two_pow_pos _)) low_lt
    rw [Nat.mod_add_div] at h
    rw [maskF, h, and_low, Nat.zero_add]

/-- the first two steps -/
theorem step_eq (k : Nat) : ∀ n x, ((x / 2 ^ k) &&& maskF k n) + (x &&& maskF k n) = stepF k n x
  | 0, x => by simp only [maskF, Nat.and_zero, stepF]
  | n + 1, x => by
    have e : x / 2 ^ k / 2 ^ (2 * k) = x / 2 ^ (2 * k) / 2 ^ k := by rw [Nat.div_div_eq_div_mul, Nat.div_div_eq_div_mul, Nat.mul_comm]
    have h := step_eq k n (x / 2 ^ (2 * k))
    have h1 := and_mask k (n + 1) (x / 2 ^ k)
    have h2 := and_mask k (n + 1) x
    simp only [Nat.zero_add] at h1 h2
    rw [h1, h2, stepF, ← h, e, Nat.mul_add]
    omega

theorem div_mul' (x k : Nat) : x / 2 ^ (2 * k) = x / 2 ^ k / 2 ^ k := by rw [two_mul_pow, Nat.div_div_eq_div_mul]

theorem field_lt {k : Nat} (hk : 0 < k) (x y : Nat) : x % 2 ^ k + y % 2 ^ k < 2 ^ (2 * k) := by
  have h1 := Nat.mod_lt x (Nat.two_pow_pos k)
  have h2 := Nat.mod_lt y (Nat.two_pow_pos k)
  have h3 := pow_ge hk
  rw [two_mul_pow]
  have : 2 * 2 ^ k ≤ 2 ^ k * 2 ^ k := Nat.mul_le_mul_right _ h3
  omega

theorem stepF_mod {k : Nat} (hk : 0 < k) (n x : Nat) : stepF k (n + 1) x % 2 ^ (2 * k) = x % 2 ^ k + x / 2 ^ k % 2 ^ k := by
  rw [stepF, Nat.add_mul_mod_self_left, Nat.mod_eq_of_lt (field_lt hk _ _)]
theorem stepF_div {k : Nat} (hk : 0 < k) (n x : Nat) : stepF k (n + 1) x / 2 ^ (2 * k) = stepF k n (x / 2 ^ (2 * k)) := by
  rw [stepF, Nat.add_mul_div_left _ _ (Nat.two_pow_pos _), Nat.div_eq_of_lt (field_lt hk _ _), Nat.zero_add]

theorem dsum_step {k : Nat} (hk : 0 < k) : ∀ n x, dsum (2 * k) n (stepF k n x) = dsum k (2 * n) x
  | 0, x => rfl
  | n + 1, x => by
    rw [dsum, stepF_mod hk, stepF_div hk, dsum_step hk n, Nat.mul_add, Nat.mul_one]
    simp only [dsum]
    rw [div_mul', Nat.add_assoc]

theorem dle_step {k m : Nat} (hk : 0 < k) : ∀ n x, dle k m (2 * n) x → dle (2 * k) (m + m) n (stepF k n x)
  | 0, x, _ => trivial
  | n + 1, x, h => by
    rw [Nat.mul_add, Nat.mul_one] at h
    simp only [dle] at h
    rw [dle, stepF_mod hk, stepF_div hk]
    refine ⟨by omega, dle_step hk n _ ?_⟩
    rw [div_mul']
    exact h.2.2

/-- the third step: added first, the mask behind -/
theorem step3_eq {k m : Nat} (hm : m + m < 2 ^ k) : ∀ n x, dle k m (2 * n + 1) x → ((x / 2 ^ k + x) &&& maskF k n) = stepF k n x
  | 0, x, _ => by simp only [maskF, Nat.and_zero, stepF]
  | n + 1, x, h => by
    have e2 : 2 * (n + 1) + 1 = (2 * n + 1) + 1 + 1 := by omega
    rw [e2] at h
    simp only [dle] at h
    obtain ⟨h0, h1, h2⟩ := h
    have ih := step3_eq hm n (x / 2 ^ k / 2 ^ k) h2
    have h3 := h2.1
    have d0 := Nat.mod_add_div x (2 ^ k)
    have d1 := Nat.mod_add_div (x / 2 ^ k) (2 ^ k)
    have d2 := Nat.mod_add_div (x / 2 ^ k / 2 ^ k) (2 ^ k)
    have hB := Nat.two_pow_pos k
    have e : x / 2 ^ k + x = ((x % 2 ^ k + x / 2 ^ k % 2 ^ k) + 2 ^ k * (x / 2 ^ k % 2 ^ k + x / 2 ^ k / 2 ^ k % 2 ^ k)) + 2 ^ (2 * k) * (x / 2 ^ k / 2 ^ k / 2 ^ k + x / 2 ^ k / 2 ^ k) := by
      rw [two_mul_pow]
      generalize 2 ^ k = B at *
      generalize x / B / B / B = r2 at *
      generalize x / B / B % B = c at *
      generalize x / B / B = r1 at *
      generalize x / B % B = b at *
      generalize x / B = r0 at *
      generalize x % B = a at *
      subst d0
      subst d2
      subst d1
      simp only [Nat.mul_add, Nat.mul_assoc]
      omega
    have hlt : (x % 2 ^ k + x / 2 ^ k % 2 ^ k) + 2 ^ k * (x / 2 ^ k % 2 ^ k + x / 2 ^ k / 2 ^ k % 2 ^ k) < 2 ^ (2 * k) := by
      have g1 : x % 2 ^ k + x / 2 ^ k % 2 ^ k < 2 ^ k := by omega
      have g2 : x / 2 ^ k % 2 ^ k + x / 2 ^ k / 2 ^ k % 2 ^ k + 1 ≤ 2 ^ k := by omega
      have g3 := Nat.mul_le_mul_left (2 ^ k) g2
      rw [Nat.mul_add, Nat.mul_one] at g3
      rw [two_mul_pow]
      omega
    have hs := and_split (j := 2 * k) (b := x / 2 ^ k / 2 ^ k / 2 ^ k + x / 2 ^ k / 2 ^ k) (d := maskF k n) hlt (low_lt (k := k))
    rw [e, maskF, hs, Nat.and_two_pow_sub_one_eq_mod, Nat.add_mul_mod_self_left, Nat.mod_eq_of_lt (by omega), ih, stepF, div_mul']

theorem stepF_lt {k : Nat} (hk : 0 < k) : ∀ n x, stepF k n x < 2 ^ (2 * k * n)
  | 0, x => by simp only [stepF, Nat.mul_zero, Nat.pow_zero]; omega
  | n + 1, x => by
    have h := field_lt hk x (x / 2 ^ k)
    have ih := stepF_lt hk n (x / 2 ^ (2 * k))
    rw [stepF, Nat.mul_add, Nat.mul_one, Nat.pow_add, Nat.mul_comm (2 ^ (2 * k * n))]
    have g := Nat.mul_le_mul_left (2 ^ (2 * k)) (show stepF k n (x / 2 ^ (2 * k)) + 1 ≤ 2 ^ (2 * k * n) from ih)
    rw [Nat.mul_add, Nat.mul_one] at g
    omega

theorem dle_more {k m : Nat} : ∀ n x, dle k m n x → x < 2 ^ (k * n) → dle k m (n + 1) x
  | 0, x, _, h => by
    simp only [Nat.mul_zero, Nat.pow_zero] at h
    have : x = 0 := by omega
    subst this
    simp only [dle, Nat.zero_mod]
    exact ⟨Nat.zero_le _, trivial⟩
  | n + 1, x, hd, h => by
    refine ⟨hd.1, dle_more n _ hd.2 ?_⟩
    rw [Nat.mul_add, Nat.mul_one, Nat.pow_add, Nat.mul_comm] at h
    exact Nat.div_lt_of_lt_mul h

/-- bits set among the first n -/
def pop : Nat → Nat → Nat
  | 0, _ => 0
  | n + 1, x => x % 2 + pop n (x / 2)

theorem dsum_one : ∀ n x, dsum 1 n x = pop n x
  | 0, _ => rfl
  | n + 1, x => by
    rw [dsum, pop, dsum_one n]

theorem dle_one : ∀ n x, dle 1 1 n x
  | 0, _ => trivial
  | n + 1, x => ⟨by omega, dle_one n _⟩

/-- field i, of eight bits -/
def fld (x i : Nat) : Nat := x / 256 ^ i % 256

theorem fld_succ (x i : Nat) : fld x (i + 1) = fld (x / 256) i := by
  unfold fld
  rw [Nat.pow_succ, Nat.mul_comm, Nat.div_div_eq_div_mul]

theorem fld_zero (x : Nat) : fld x 0 = x % 256 := by
  unfold fld
  rw [Nat.pow_zero, Nat.div_one]

/-- a word, and itself some fields below, added: no field carries -/
theorem hop {m : Nat} (j : Nat) (hm : m + m < 256) : ∀ i x, (∀ i, fld x i ≤ m) → fld (x + x / 256 ^ j) i = fld x i + fld x (i + j)
  | 0, x, h => by
    have h0 := h 0
    have hj := h j
    have e0 : fld x 0 = x % 256 := fld_zero x
    have ej : fld x j = x / 256 ^ j % 256 := rfl
    rw [Nat.zero_add, fld_zero (x + x / 256 ^ j), Nat.add_mod, ← e0, ← ej]
    exact Nat.mod_eq_of_lt (by omega)
  | i + 1, x, h => by
    have h0 := h 0
    have hj := h j
    have e0 : fld x 0 = x % 256 := fld_zero x
    have ej : fld x j = x / 256 ^ j % 256 := rfl
    have ed : x / 256 ^ j / 256 = x / 256 / 256 ^ j := by rw [Nat.div_div_eq_div_mul, Nat.div_div_eq_div_mul, Nat.mul_comm]
    have e : (x + x / 256 ^ j) / 256 = x / 256 + x / 256 / 256 ^ j := by
      rw [← ed]
      rw [e0] at h0
      rw [ej] at hj
      generalize x / 256 ^ j = r at *
      omega
    have e1 : i + 1 + j = (i + j) + 1 := by omega
    rw [fld_succ, e, hop j hm i (x / 256) (fun i => by rw [← fld_succ]; exact h _), e1, fld_succ x i, fld_succ x (i + j)]

theorem hop_le {m j x : Nat} (hm : m + m < 256) (h : ∀ i, fld x i ≤ m) (i : Nat) : fld (x + x / 256 ^ j) i ≤ m + m := by
  rw [hop j hm i x h]
  exact Nat.add_le_add (h _) (h _)

theorem fld_dle {m : Nat} : ∀ n x, dle 8 m n x → x < 2 ^ (8 * n) → ∀ i, fld x i ≤ m
  | 0, x, _, hx, i => by
    simp only [Nat.mul_zero, Nat.pow_zero] at hx
    have : x = 0 := by omega
    subst this
    unfold fld
    rw [Nat.zero_div]
    exact Nat.zero_le _
  | n + 1, x, h, hx, 0 => by
    rw [fld_zero]
    exact h.1
  | n + 1, x, h, hx, i + 1 => by
    rw [fld_succ]
    refine fld_dle n _ h.2 ?_ i
    rw [Nat.mul_add, Nat.mul_one, Nat.pow_add, Nat.mul_comm] at hx
    exact Nat.div_lt_of_lt_mul hx

theorem dsum_fld : ∀ n x, dsum 8 (n + 1) x = fld x 0 + dsum 8 n (x / 256)
  | _, x => by rw [dsum, fld_zero]

theorem fold8 {x : Nat} (h : dle 8 8 8 x) (hx : x < 18446744073709551616) :
    ((x + x / 256) + (x + x / 256) / 65536 + ((x + x / 256) + (x + x / 256) / 65536) / 4294967296) % 128 = dsum 8 8 x := by
  have hf := fld_dle 8 x h (by simp only [Nat.reduceMul, Nat.reducePow]; exact hx)
  have p1 : (256 : Nat) = 256 ^ 1 := rfl
  have p2 : (65536 : Nat) = 256 ^ 2 := rfl
  have p4 : (4294967296 : Nat) = 256 ^ 4 := rfl
  have s1 : ∀ i, fld (x + x / 256) i = fld x i + fld x (i + 1) := fun i => by
    have := hop 1 (m := 8) (by omega) i x hf
    rwa [← p1] at this
  have l1 : ∀ i, fld (x + x / 256) i ≤ 16 := fun i => by
    have := hf i; have := hf (i + 1); rw [s1]; omega
  generalize x + x / 256 = y at *
  have s2 : ∀ i, fld (y + y / 65536) i = fld y i + fld y (i + 2) := fun i => by
    have := hop 2 (m := 16) (by omega) i y l1
    rwa [← p2] at this
  have l2 : ∀ i, fld (y + y / 65536) i ≤ 32 := fun i => by
    have := l1 i; have := l1 (i + 2); rw [s2]; omega
  generalize y + y / 65536 = z at *
  have s3 : fld (z + z / 4294967296) 0 = fld z 0 + fld z (0 + 4) := by
    have := hop 4 (m := 32) (by omega) 0 z l2
    rwa [← p4] at this
  have e : (z + z / 4294967296) % 128 = fld (z + z / 4294967296) 0 % 128 := by
    rw [fld_zero, Nat.mod_mod_of_dvd]
    exact ⟨2, rfl⟩
  have h0 := l2 0
  have h4 := l2 4
  rw [e, s3, Nat.zero_add, Nat.mod_eq_of_lt (by omega), s2, s2, s1, s1, s1, s1]
  simp only [dsum_fld]
  simp only [← fld_succ]
  simp only [dsum, Nat.zero_add, Nat.reduceAdd]
  omega

theorem fold8_lt {x : Nat} (hx : x < 1085102592571150096) :
    x + x / 256 < 18446744073709551616 ∧ (x + x / 256) + (x + x / 256) / 65536 < 18446744073709551616
    ∧ (x + x / 256) + (x + x / 256) / 65536 + ((x + x / 256) + (x + x / 256) / 65536) / 4294967296 < 9223372036854775808 := by
  have h1 : x + x / 256 < 1200000000000000000 := by omega
  generalize x + x / 256 = y at *
  have h2 : y + y / 65536 < 1300000000000000000 := by omega
  generalize y + y / 65536 = z at *
  refine ⟨by omega, by omega, by omega⟩

end Go.Proofs.YtkpmnnabpiieoaaPx
