/- Words of 32 bits: the same turn, round and schedule, in two ways of writing. -/
import Derived.Test.YtkccmmbomlpgnaaDoorLgFnG
import Derived.Test.YtkccmmbomlpgnaaDoorLgPxA
import Derived.Test.YtkccmmbomlpgnaaDoorLgPxB
set_option linter.all false
namespace Go.Proofs.YtkccmmbomlpgnaaDoorLg
open Go Go.Lift Go.Proofs.YtkccmmbomlpgnaaDoorPx

abbrev w32 (x : Int) : Int := IntKind.wrap .u32 x
theorem w32_eq (x : Int) : IntKind.wrap .u32 x = x % 4294967296 := rfl

theorem or_comm32 (a b : Int) : bitsOp .or .u32 a b = bitsOp .or .u32 b a := by
  unfold bitsOp; dsimp only; rw [BitVec.or_comm]

/-- turned right -/
def rrB (x n : Int) : Int := bitsOp .or .u32 (shrI .u32 x (IntKind.wrap .u64 n)) (shlI .u32 x (IntKind.wrap .u64 (IntKind.wrap .i64 ((32 : Int) - n))))

theorem rr_of {x n : Int} (h1 : bitsOp .and .u64 (IntKind.wrap .u64 (IntKind.wrap .i64 ((0 : Int) - n))) (31 : Int) = IntKind.wrap .u64 (IntKind.wrap .i64 ((32 : Int) - n)))
    (h2 : IntKind.wrap .u64 ((32 : Int) - bitsOp .and .u64 (IntKind.wrap .u64 (IntKind.wrap .i64 ((0 : Int) - n))) (31 : Int)) = IntKind.wrap .u64 n) :
    bitsOp .or .u32 (shlI .u32 x (bitsOp .and .u64 (IntKind.wrap .u64 (IntKind.wrap .i64 ((0 : Int) - n))) (31 : Int))) (shrI .u32 x (IntKind.wrap .u64 ((32 : Int) - bitsOp .and .u64 (IntKind.wrap .u64 (IntKind.wrap .i64 ((0 : Int) - n))) (31 : Int)))) = rrB x n := by
  rw [h2, h1, or_comm32]; rfl

theorem rr6 (x : Int) : bitsOp .or .u32 (shlI .u32 x (bitsOp .and .u64 (IntKind.wrap .u64 (IntKind.wrap .i64 ((0 : Int) - (6 : Int)))) (31 : Int))) (shrI .u32 x (IntKind.wrap .u64 ((32 : Int) - bitsOp .and .u64 (IntKind.wrap .u64 (IntKind.wrap .i64 ((0 : Int) - (6 : Int)))) (31 : Int)))) = rrB x 6 := rr_of (x := x) (n := 6) (by kernel_rfl) (by kernel_rfl)
theorem rr11 (x : Int) : bitsOp .or .u32 (shlI .u32 x (bitsOp .and .u64 (IntKind.wrap .u64 (IntKind.wrap .i64 ((0 : Int) - (11 : Int)))) (31 : Int))) (shrI .u32 x (IntKind.wrap .u64 ((32 : Int) - bitsOp .and .u64 (IntKind.wrap .u64 (IntKind.wrap .i64 ((0 : Int) - (11 : Int)))) (31 : Int)))) = rrB x 11 := rr_of (x := x) (n := 11) (by kernel_rfl) (by kernel_rfl)
theorem rr25 (x : Int) : bitsOp .or .u32 (shlI .u32 x (bitsOp .and .u64 (IntKind.wrap .u64 (IntKind.wrap .i64 ((0 : Int) - (25 : Int)))) (31 : Int))) (shrI .u32 x (IntKind.wrap .u64 ((32 : Int) - bitsOp .and .u64 (IntKind.wrap .u64 (IntKind.wrap .i64 ((0 : Int) - (25 : Int)))) (31 : Int)))) = rrB x 25 := rr_of (x := x) (n := 25) (by kernel_rfl) (by kernel_rfl)
theorem rr2 (x : Int) : bitsOp .or .u32 (shlI .u32 x (bitsOp .and .u64 (IntKind.wrap .u64 (IntKind.wrap .i64 ((0 : Int) - (2 : Int)))) (31 : Int))) (shrI .u32 x (IntKind.wrap .u64 ((32 : Int) - bitsOp .and .u64 (IntKind.wrap .u64 (IntKind.wrap .i64 ((0 : Int) - (2 : Int)))) (31 : Int)))) = rrB x 2 := rr_of (x := x) (n := 2) (by kernel_rfl) (by kernel_rfl)
theorem rr13 (x : Int) : bitsOp .or .u32 (shlI .u32 x (bitsOp .and .u64 (IntKind.wrap .u64 (IntKind.wrap .i64 ((0 : Int) - (13 : Int)))) (31 : Int))) (shrI .u32 x (IntKind.wrap .u64 ((32 : Int) - bitsOp .and .u64 (IntKind.wrap .u64 (IntKind.wrap .i64 ((0 : Int) - (13 : Int)))) (31 : Int)))) = rrB x 13 := rr_of (x := x) (n := 13) (by kernel_rfl) (by kernel_rfl)
theorem rr22 (x : Int) : bitsOp .or .u32 (shlI .u32 x (bitsOp .and .u64 (IntKind.wrap .u64 (IntKind.wrap .i64 ((0 : Int) - (22 : Int)))) (31 : Int))) (shrI .u32 x (IntKind.wrap .u64 ((32 : Int) - bitsOp .and .u64 (IntKind.wrap .u64 (IntKind.wrap .i64 ((0 : Int) - (22 : Int)))) (31 : Int)))) = rrB x 22 := rr_of (x := x) (n := 22) (by kernel_rfl) (by kernel_rfl)
theorem rr7 (x : Int) : bitsOp .or .u32 (shlI .u32 x (bitsOp .and .u64 (IntKind.wrap .u64 (IntKind.wrap .i64 ((0 : Int) - (7 : Int)))) (31 : Int))) (shrI .u32 x (IntKind.wrap .u64 ((32 : Int) - bitsOp .and .u64 (IntKind.wrap .u64 (IntKind.wrap .i64 ((0 : Int) - (7 : Int)))) (31 : Int)))) = rrB x 7 := rr_of (x := x) (n := 7) (by kernel_rfl) (by kernel_rfl)
theorem rr18 (x : Int) : bitsOp .or .u32 (shlI .u32 x (bitsOp .and .u64 (IntKind.wrap .u64 (IntKind.wrap .i64 ((0 : Int) - (18 : Int)))) (31 : Int))) (shrI .u32 x (IntKind.wrap .u64 ((32 : Int) - bitsOp .and .u64 (IntKind.wrap .u64 (IntKind.wrap .i64 ((0 : Int) - (18 : Int)))) (31 : Int)))) = rrB x 18 := rr_of (x := x) (n := 18) (by kernel_rfl) (by kernel_rfl)
theorem rr17 (x : Int) : bitsOp .or .u32 (shlI .u32 x (bitsOp .and .u64 (IntKind.wrap .u64 (IntKind.wrap .i64 ((0 : Int) - (17 : Int)))) (31 : Int))) (shrI .u32 x (IntKind.wrap .u64 ((32 : Int) - bitsOp .and .u64 (IntKind.wrap .u64 (IntKind.wrap .i64 ((0 : Int) - (17 : Int)))) (31 : Int)))) = rrB x 17 := rr_of (x := x) (n := 17) (by kernel_rfl) (by kernel_rfl)
theorem rr19 (x : Int) : bitsOp .or .u32 (shlI .u32 x (bitsOp .and .u64 (IntKind.wrap .u64 (IntKind.wrap .i64 ((0 : Int) - (19 : Int)))) (31 : Int))) (shrI .u32 x (IntKind.wrap .u64 ((32 : Int) - bitsOp .and .u64 (IntKind.wrap .u64 (IntKind.wrap .i64 ((0 : Int) - (19 : Int)))) (31 : Int)))) = rrB x 19 := rr_of (x := x) (n := 19) (by kernel_rfl) (by kernel_rfl)

def S1B (e : Int) : Int := bitsOp .xor .u32 (bitsOp .xor .u32 (rrB e 6) (rrB e 11)) (rrB e 25)
def S0B (a : Int) : Int := bitsOp .xor .u32 (bitsOp .xor .u32 (rrB a 2) (rrB a 13)) (rrB a 22)
def chB (e f g : Int) : Int := bitsOp .xor .u32 (bitsOp .and .u32 e f) (bitsOp .and .u32 (bitsOp .xor .u32 (if (IntKind.signed .u32) = true then (-(1 : Int)) else IntKind.max .u32) e) g)
def majB (a b c : Int) : Int := bitsOp .xor .u32 (bitsOp .xor .u32 (bitsOp .and .u32 a b) (bitsOp .and .u32 a c)) (bitsOp .and .u32 b c)
def t1B (v : List Int) (K W : Int) : Int := w32 (w32 (w32 (w32 (v.getD 7 0 + S1B (v.getD 4 0)) + chB (v.getD 4 0) (v.getD 5 0) (v.getD 6 0)) + K) + W)
def roundB (v : List Int) (K W : Int) : List Int :=
  [w32 (w32 (t1B v K W + S0B (v.getD 0 0)) + majB (v.getD 0 0) (v.getD 1 0) (v.getD 2 0)), v.getD 0 0, v.getD 1 0, v.getD 2 0, w32 (v.getD 3 0 + t1B v K W), v.getD 4 0, v.getD 5 0, v.getD 6 0]
def s1B (y : Int) : Int := bitsOp .xor .u32 (bitsOp .xor .u32 (rrB y 17) (rrB y 19)) (shrI .u32 y 10)
def s0B (x : Int) : Int := bitsOp .xor .u32 (bitsOp .xor .u32 (rrB x 7) (rrB x 18)) (shrI .u32 x 3)
def nxtB (w : List Int) (t : Nat) : Int := w32 (w32 (w32 (s1B (w.getD (t - 2) 0) + w.getD (t - 7) 0) + s0B (w.getD (t - 15) 0)) + w.getD (t - 16) 0)

theorem sum1 (a b c K W : Int) : w32 (w32 (w32 (a + b) + c) + w32 (K + W)) = w32 (w32 (w32 (w32 (a + b) + c) + K) + W) := by
  simp only [w32, w32_eq]; omega
theorem sum2 (t a b : Int) : w32 (t + w32 (a + b)) = w32 (w32 (t + a) + b) := by simp only [w32, w32_eq]; omega

theorem round_eq (N : Nat) {v : List Int} (K W : Int) (hv : v.length = 8) : sha_round N v (IntKind.wrap .u32 (K + W)) = some (roundB v K W) := by
  simp only [sha_round]
  rw [cond_t (dec_t (by omega)), cond_t (dec_t (by omega)), cond_t (dec_t (by omega)), cond_t (dec_t (by omega)), cond_t (dec_t (by omega)), cond_t (dec_t (by omega)), cond_t (dec_t (by omega)), cond_t (dec_t (by omega))]
  simp only [rr6, rr11, rr25, rr2, rr13, rr22]
  have e1 := sum1 (v.getD 7 0) (S1B (v.getD 4 0)) (chB (v.getD 4 0) (v.getD 5 0) (v.getD 6 0)) K W
  have e2 := sum2 (t1B v K W) (S0B (v.getD 0 0)) (majB (v.getD 0 0) (v.getD 1 0) (v.getD 2 0))
  show some [w32 (w32 (w32 (w32 (v.getD 7 0 + S1B (v.getD 4 0)) + chB (v.getD 4 0) (v.getD 5 0) (v.getD 6 0)) + w32 (K + W)) + w32 (S0B (v.getD 0 0) + majB (v.getD 0 0) (v.getD 1 0) (v.getD 2 0))), v.getD 0 0, v.getD 1 0, v.getD 2 0, w32 (v.getD 3 0 + w32 (w32 (w32 (v.getD 7 0 + S1B (v.getD 4 0)) + chB (v.getD 4 0) (v.getD 5 0) (v.getD 6 0)) + w32 (K + W))), v.getD 4 0, v.getD 5 0, v.getD 6 0] = _
  rw [e1]
  show some [w32 (t1B v K W + w32 (S0B (v.getD 0 0) + majB (v.getD 0 0) (v.getD 1 0) (v.getD 2 0))), v.getD 0 0, v.getD 1 0, v.getD 2 0, w32 (v.getD 3 0 + t1B v K W), v.getD 4 0, v.getD 5 0, v.getD 6 0] = _
  rw [e2]; rfl

theorem roundB_length (v : List Int) (K W : Int) : (roundB v K W).length = 8 := rfl

def roundsB (K w : List Int) : Nat → Nat → List Int → List Int
  | 0, _, v => v
  | j + 1, t, v => roundsB K w j (t + 1) (roundB v (K.getD t 0) (w.getD t 0))

theorem roundsB_length (K w : List Int) : ∀ (j t : Nat) {v : List Int}, v.length = 8 → (roundsB K w j t v).length = 8
  | 0, _, _, h => h
  | j + 1, t, _, _ => roundsB_length K w j (t + 1) (roundB_length _ _ _)

theorem glob0_length : glob0.length = 64 := by kernel_rfl

theorem rounds_eq (N : Nat) {h x4 w v : List Int} {k0 : List Int → Option (List Int)} (hv : v.length = 8) (hw : w.length = 64) (hN : 64 < N) : sha_Step_p1 N h x4 w v 0 k0 = k0 (roundsB glob0 w 64 0 v) := by
  simp only [sha_Step_p1]
  rw [iter_eq (I := fun (v : List Int × Int) => ∃ t : Nat, v.2 = (t : Int) ∧ t ≤ 64 ∧ v.1.length = 8) (m := fun v => 64 - v.2.toNat) (R := fun v => k0 (roundsB glob0 w (64 - v.2.toNat) v.2.toNat v.1)) ?_ N (v, 0) ⟨0, rfl, by omega, hv⟩ (by simpa using hN)]
  · rfl
  rintro ⟨v, z⟩ r ⟨t, e, ht, hl⟩ hr
  dsimp only at e hl hr ⊢
  subst e
  rw [Int.toNat_natCast] at hr ⊢
  simp only [sha_Step_s1]
  by_cases hlt : t < 64
  · rw [cond_t (dec_t (by omega)), cond_t (inR_nat hlt), cond_t (inR_nat hlt), Int.toNat_natCast, cond_t (dec_t (by omega)), round_eq N _ _ hl, Option.bind_some, wrap_succ (by omega), hr _ ⟨t + 1, rfl, by omega, roundB_length _ _ _⟩ (by dsimp only; omega)]
    dsimp only
    rw [Int.toNat_natCast, show 64 - t = (64 - (t + 1)) + 1 by omega]; rfl
  · rw [cond_f (dec_f (by omega)), show 64 - t = 0 by omega]; rfl

theorem refRounds_eq (N : Nat) {k h x8 w v : List Int} {k0 : List Int → Option (List Int)} (hv : v.length = 8) (hw : w.length = 64) (hk : k.length = 64) (hN : 64 < N) : porterref03_step_p3 N k h x8 w v 0 k0 = k0 (roundsB k w 64 0 v) := by
  simp only [porterref03_step_p3]
  rw [iter_eq (I := fun (v : List Int × Int) => ∃ t : Nat, v.2 = (t : Int) ∧ t ≤ 64 ∧ v.1.length = 8) (m := fun v => 64 - v.2.toNat) (R := fun v => k0 (roundsB k w (64 - v.2.toNat) v.2.toNat v.1)) ?_ N (v, 0) ⟨0, rfl, by omega, hv⟩ (by simpa using hN)]
  · rfl
  rintro ⟨v, z⟩ r ⟨t, e, ht, hl⟩ hr
  dsimp only at e hl hr ⊢
  subst e
  rw [Int.toNat_natCast] at hr ⊢
  simp only [porterref03_step_s3]
  by_cases hlt : t < 64
  · have c0 : decide (0 < v.length) = true := dec_t (by omega)
    have c1 : decide (1 < v.length) = true := dec_t (by omega)
    have c2 : decide (2 < v.length) = true := dec_t (by omega)
    have c3 : decide (3 < v.length) = true := dec_t (by omega)
    have c4 : decide (4 < v.length) = true := dec_t (by omega)
    have c5 : decide (5 < v.length) = true := dec_t (by omega)
    have c6 : decide (6 < v.length) = true := dec_t (by omega)
    have c7 : decide (7 < v.length) = true := dec_t (by omega)
    have c8 : inR (t : Int) k.length = true := inR_nat (by omega)
    have c9 : inR (t : Int) w.length = true := inR_nat (by omega)
    have c10 : decide (t < w.length) = true := dec_t (by omega)
    have e2 := hr (roundB v (k.getD t 0) (w.getD t 0), ((t + 1 : Nat) : Int)) ⟨t + 1, rfl, by omega, roundB_length _ _ _⟩ (by dsimp only; omega)
    simp only [c0, c1, c2, c3, c4, c5, c6, c7, c8, c9, Int.toNat_natCast, c10, cond_true]
    rw [cond_t (dec_t (by omega)), wrap_succ (by omega)]
    refine Eq.trans e2 ?_
    dsimp only
    rw [Int.toNat_natCast, show 64 - t = (64 - (t + 1)) + 1 by omega]; rfl
  · rw [cond_f (dec_f (by omega)), show 64 - t = 0 by omega]; rfl

theorem fin_eq (N : Nat) (h x4 x8 v : List Int) (k0 : List Int → Option (List Int)) : porterref03_step_p4 N h x8 v 0 k0 = sha_Step_p2 N h x4 v 0 k0 := rfl

/-! ## the schedule -/
def grow : Nat → List Int → List Int
  | 0, w => w
  | j + 1, w => grow j (w ++ [nxtB w w.length])
theorem grow_length : ∀ (j : Nat) (w : List Int), (grow j w).length = w.length + j
  | 0, _ => rfl
  | j + 1, w => by simp only [grow, grow_length j, List.length_append, List.length_cons, List.length_nil]; omega

theorem ix (t k : Nat) (h : k ≤ t) (ht : t ≤ 64) : IntKind.wrap .i64 ((t : Int) - (k : Int)) = ((t - k : Nat) : Int) := by rw [wrap_in (by unfold I64; omega)]; omega

theorem refGrow_eq (N : Nat) {k h x8 w : List Int} {k0 : List Int → Option (List Int)} (hw : w.length = 16) (hN : 64 < N) : porterref03_step_p2 N k h x8 w 16 k0 = k0 (grow 48 w) := by
  simp only [porterref03_step_p2]
  rw [iter_eq (I := fun (v : List Int × Int) => ∃ t : Nat, v.2 = (t : Int) ∧ 16 ≤ t ∧ t ≤ 64 ∧ v.1.length = t) (m := fun v => 64 - v.2.toNat) (R := fun v => k0 (grow (64 - v.2.toNat) v.1)) ?_ N (w, 16) ⟨16, rfl, by omega, by omega, hw⟩ (by dsimp only; omega)]
  · rfl
  rintro ⟨w, z⟩ r ⟨t, e, ht0, ht, hl⟩ hr
  dsimp only at e hl hr ⊢
  subst e
  rw [Int.toNat_natCast] at hr ⊢
  simp only [porterref03_step_s2]
  by_cases hlt : t < 64
  · have i2 : IntKind.wrap .i64 ((t : Int) - 2) = ((t - 2 : Nat) : Int) := ix t 2 (by omega) ht
    have i7 : IntKind.wrap .i64 ((t : Int) - 7) = ((t - 7 : Nat) : Int) := ix t 7 (by omega) ht
    have i15 : IntKind.wrap .i64 ((t : Int) - 15) = ((t - 15 : Nat) : Int) := ix t 15 (by omega) ht
    have i16 : IntKind.wrap .i64 ((t : Int) - 16) = ((t - 16 : Nat) : Int) := ix t 16 (by omega) ht
    have e2 := hr (w ++ [nxtB w w.length], ((t + 1 : Nat) : Int)) ⟨t + 1, rfl, by omega, by omega, by simp [hl]⟩ (by dsimp only; omega)
    rw [i2, i7, i15, i16, Int.toNat_natCast, Int.toNat_natCast, Int.toNat_natCast, Int.toNat_natCast]
    rw [cond_t (dec_t (by omega)), cond_t (inR_nat (by omega)), cond_t (dec_t (by omega)), cond_t (inR_nat (by omega)), cond_t (dec_t (by omega)), cond_t (inR_nat (by omega)), cond_t (dec_t (by omega)), cond_t (inR_nat (by omega)), cond_t (dec_t (by omega)), cond_t (dec_t (by omega)), wrap_succ (by omega)]
    rw [hl] at e2
    refine Eq.trans e2 ?_
    dsimp only
    rw [Int.toNat_natCast, show 64 - t = (64 - (t + 1)) + 1 by omega]
    simp only [grow, hl]
  · rw [cond_f (dec_f (by omega)), show 64 - t = 0 by omega]; rfl

theorem gd_left {α : Type} (a b : List α) (d : α) {i : Nat} (h : i < a.length) : (a ++ b).getD i d = a.getD i d := by
  rw [List.getD_eq_getElem?_getD, List.getElem?_append_left h, ← List.getD_eq_getElem?_getD]
theorem set_app {α : Type} (a b : List α) (x y : α) : (a ++ y :: b).set a.length x = a ++ x :: b := by
  rw [List.set_append_right _ _ (by omega), Nat.sub_self]; rfl

theorem grow_eq (N : Nat) {x2 S Z : List Int} {k0 : List Int → Option (List Int)} (hS : S.length = 16) (hZ : Z.length = 48) (hN : 64 < N) : sha_schedule_p2 N x2 (S ++ Z) 16 k0 = k0 (grow 48 S) := by
  simp only [sha_schedule_p2]
  rw [iter_eq (I := fun (v : List Int × Int) => ∃ (t : Nat) (A B : List Int), v = (A ++ B, (t : Int)) ∧ 16 ≤ t ∧ t ≤ 64 ∧ A.length = t ∧ B.length = 64 - t) (m := fun v => 64 - v.2.toNat) (R := fun v => k0 (grow (64 - v.2.toNat) (v.1.take v.2.toNat))) ?_ N (S ++ Z, 16) ⟨16, S, Z, rfl, by omega, by omega, hS, hZ⟩ (by dsimp only; omega)]
  · dsimp only
    rw [show (16 : Int).toNat = 16 from rfl, List.take_append_of_le_length (by omega), List.take_of_length_le (by omega)]
  rintro v r ⟨t, A, B, rfl, ht0, ht, hA, hB⟩ hr
  dsimp only at hr ⊢
  rw [Int.toNat_natCast] at hr ⊢
  have hAt : (A ++ B).take t = A := by rw [List.take_append_of_le_length (by omega), List.take_of_length_le (by omega)]
  rw [hAt]
  simp only [sha_schedule_s2]
  by_cases hlt : t < 64
  · have i2 : IntKind.wrap .i64 ((t : Int) - 2) = ((t - 2 : Nat) : Int) := ix t 2 (by omega) ht
    have i7 : IntKind.wrap .i64 ((t : Int) - 7) = ((t - 7 : Nat) : Int) := ix t 7 (by omega) ht
    have i15 : IntKind.wrap .i64 ((t : Int) - 15) = ((t - 15 : Nat) : Int) := ix t 15 (by omega) ht
    have i16 : IntKind.wrap .i64 ((t : Int) - 16) = ((t - 16 : Nat) : Int) := ix t 16 (by omega) ht
    have hl : (A ++ B).length = 64 := by rw [List.length_append]; omega
    obtain ⟨y, B', rfl⟩ : ∃ y B', B = y :: B' := by
      cases B with
      | nil => simp at hB; omega
      | cons y B' => exact ⟨y, B', rfl⟩
    have e2 := hr (A ++ nxtB A t :: B', ((t + 1 : Nat) : Int)) ⟨t + 1, A ++ [nxtB A t], B', by rw [List.append_assoc]; rfl, by omega, by omega, by simp [hA], by simp at hB; omega⟩ (by dsimp only; omega)
    rw [i2, i7, i15, i16, Int.toNat_natCast, Int.toNat_natCast, Int.toNat_natCast, Int.toNat_natCast, Int.toNat_natCast]
    rw [cond_t (dec_t (by omega)), cond_t (inR_nat (by omega)), cond_t (dec_t (by omega)), cond_t (inR_nat (by omega)), cond_t (dec_t (by omega)), cond_t (inR_nat (by omega)), cond_t (dec_t (by omega)), cond_t (inR_nat (by omega)), cond_t (dec_t (by omega)), cond_t (inR_nat (by omega)), cond_t (dec_t (by omega)), wrap_succ (by omega)]
    rw [gd_left A _ 0 (by omega : t - 2 < A.length), gd_left A _ 0 (by omega : t - 7 < A.length), gd_left A _ 0 (by omega : t - 15 < A.length), gd_left A _ 0 (by omega : t - 16 < A.length)]
    simp only [rr17, rr19, rr7, rr18]
    have hset := set_app A B' (nxtB A t) y
    rw [hA] at hset
    show r ((A ++ y :: B').set t (nxtB A t), ((t + 1 : Nat) : Int)) = _
    rw [hset]
    refine Eq.trans e2 ?_
    dsimp only
    rw [Int.toNat_natCast, show 64 - t = (64 - (t + 1)) + 1 by omega]
    have htk : (A ++ nxtB A t :: B').take (t + 1) = A ++ [nxtB A t] := by
      rw [show A ++ nxtB A t :: B' = (A ++ [nxtB A t]) ++ B' by rw [List.append_assoc]; rfl, List.take_append_of_le_length (by simp [hA]), List.take_of_length_le (by simp [hA])]
    rw [htk]
    simp only [grow, hA]
  · have hB0 : B = [] := List.length_eq_zero_iff.1 (by omega)
    subst hB0
    rw [cond_f (dec_f (by omega)), show 64 - t = 0 by omega, List.append_nil]; rfl
end Go.Proofs.YtkccmmbomlpgnaaDoorLg
