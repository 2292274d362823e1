import Derived.Test.YtmeecjkimeiogaaDoorLgPrSm1
import Derived.Test.YtmeecjkimeiogaaDoorLgPrSm2
import Derived.KernelRfl
import Derived.Test.YtmeecjkimeiogaaDoorLgW
set_option linter.all false
set_option maxRecDepth 100000
namespace Go.Proofs.YtmeecjkimeiogaaDoorLg
noncomputable section
open Go Go.Lift Go.Proofs.YtmeecjkimeiogaaDoorPx

abbrev SpT := (List (List Int)) × (Bool × ((List Int) × ((List Int) × ((List (List Int)) × Unit))))

def zkq (m : Int) : Int -> List Int -> Bool
  | _, [] => true
  | low, x :: xs => !(decide (x < low) || decide (m <= x)) && zkq m (x + 1) xs

theorem zop (m low : Int) {l : List Int} {i : Nat} (h : i < l.length) : zkq m low (l.drop i) = (!(decide (l.getD i 0 < low) || decide (m <= l.getD i 0)) && zkq m (l.getD i 0 + 1) (l.drop (i + 1))) := by
  rw [List.drop_eq_getElem_cons h, zkq, List.getD_eq_getElem?_getD, List.getElem?_eq_getElem h]
  rfl

theorem zkr (N : Nat) (p : SpT) (l : List Int) (hl : l.length <= 70368744177664) (hp : p.1.length <= 70368744177664) : ∀ (n N' i : Nat) (low : Int), n < N' -> i + n = l.length -> 0 <= low →
    iter (fun (v : (Int × Int)) r => z4p N p l (l.length : Int) v.1 v.2 (fun low x9 => (r (low, x9))) (fun x3 => some (x3, (p, ()))) (some (true, (p, ())))) N' (low, (i : Int)) = some (zkq (p.1.length : Int) low (l.drop i), (p, ()))
  | 0, N', i, low, h1, h2, h3 => by
    obtain ⟨M, rfl⟩ : ∃ M, N' = M + 1 := ⟨N' - 1, by omega⟩
    rw [iter]
    dsimp only
    unfold z4p
    rw [decide_eq_false (show ¬ (i : Int) < (l.length : Int) by omega), List.drop_eq_nil_of_le (by omega)]
    rfl
  | n + 1, N', i, low, h1, h2, h3 => by
    obtain ⟨M, rfl⟩ : ∃ M, N' = M + 1 := ⟨N' - 1, by omega⟩
    have hi : i < l.length := by omega
    rw [iter, zop _ _ hi]
    dsimp only
    conv => lhs; unfold z4p z9o z9n
    rw [decide_eq_true (show (i : Int) < (l.length : Int) by omega), z2k hi, Int.toNat_natCast]
    simp only [cond_true]
    by_cases e1 : l.getD i 0 < low
    . rw [decide_eq_true e1]; rfl
    . rw [decide_eq_false e1]
      simp only [cond_false, Bool.false_or]
      by_cases e2 : (p.1.length : Int) <= l.getD i 0
      . rw [decide_eq_true e2]; rfl
      . rw [decide_eq_false e2]
        simp only [cond_false, Bool.not_false, Bool.true_and]
        have ih := zkr N p l hl hp n M (i + 1) (l.getD i 0 + 1) (by omega) (by omega) (by omega)
        rw [z9l (x := l.getD i 0 + 1) (by unfold I64; omega), z9l (x := (i : Int) + 1) (by unfold I64; omega)]
        exact ih

theorem zks {N : Nat} (p : SpT) (l : List Int) (hN : l.length < N) (hl : l.length <= 70368744177664) (hp : p.1.length <= 70368744177664) : z34 N l p = some (zkq (p.1.length : Int) 0 l, (p, ())) := by
  unfold z34 ze6
  have := zkr N p l hl hp l.length N 0 0 hN (by omega) (by omega)
  simpa using this

def zlb (l : List Int) (i : Nat) : Int := match i with
  | 0 => 0
  | i + 1 => l.getD i 0 + 1

theorem zq9 (N : Nat) (l : List Int) (m : Nat) (hl : l.length <= 70368744177664) {i : Nat} (hi : i < l.length) (h3 : ∀ j, i = j + 1 -> 0 <= l.getD j 0) (rec : Int -> Option Bool) (k0 : Bool -> Option Bool) (k1 : Option Bool) :
    z29 N l (m : Int) (i : Int) rec k0 k1 = cond (decide (l.getD i 0 < zlb l i) || decide ((m : Int) <= l.getD i 0)) (k0 false) (rec ((i + 1 : Nat) : Int)) := by
  unfold z29 z5o z5n
  rw [decide_eq_true (show (i : Int) < (l.length : Int) by omega), z2k hi, Int.toNat_natCast, z9l (x := (i : Int) + 1) (by unfold I64; omega)]
  simp only [cond_true]
  have low : 0 <= zlb l i := by
    cases i with
    | zero => exact Int.le_refl 0
    | succ j => have := h3 j rfl; show 0 <= l.getD j 0 + 1; omega
  by_cases e0 : l.getD i 0 < 0
  . rw [decide_eq_true e0, decide_eq_true (show l.getD i 0 < zlb l i by omega)]; rfl
  rw [decide_eq_false e0]
  simp only [cond_false]
  by_cases e2 : (m : Int) <= l.getD i 0
  . rw [decide_eq_true e2, Bool.or_true]; rfl
  rw [decide_eq_false e2]
  simp only [cond_false, Bool.or_false]
  cases i with
  | zero => rw [decide_eq_false (show ¬ l.getD 0 0 < zlb l 0 from e0)]; rfl
  | succ j =>
    have hj := h3 j rfl
    rw [decide_eq_true (show (0 : Int) < ((j + 1 : Nat) : Int) by omega), z9l (x := ((j + 1 : Nat) : Int) - 1) (by unfold I64; omega), show ((j + 1 : Nat) : Int) - 1 = (j : Int) by omega, z2k (show j < l.length by omega), Int.toNat_natCast]
    simp only [cond_true]
    by_cases e : l.getD (j + 1) 0 <= l.getD j 0
    . rw [decide_eq_true e, decide_eq_true (show l.getD (j + 1) 0 < zlb l (j + 1) by show _ < l.getD j 0 + 1; omega)]; rfl
    . rw [decide_eq_false e, decide_eq_false (show ¬ l.getD (j + 1) 0 < zlb l (j + 1) by show ¬ _ < l.getD j 0 + 1; omega)]; rfl

theorem zko (N : Nat) (l : List Int) (m : Nat) (hl : l.length <= 70368744177664) : ∀ (n N' i : Nat), n < N' -> i + n = l.length -> (∀ j, i = j + 1 -> 0 <= l.getD j 0) →
    iter (fun (v : Int) r => z29 N l (m : Int) v (fun i => (r i)) (fun x4 => some x4) (some true)) N' (i : Int) = some (zkq (m : Int) (zlb l i) (l.drop i))
  | 0, N', i, h1, h2, h3 => by
    obtain ⟨M, rfl⟩ : ∃ M, N' = M + 1 := ⟨N' - 1, by omega⟩
    rw [iter]
    unfold z29
    rw [decide_eq_false (show ¬ (i : Int) < (l.length : Int) by omega), List.drop_eq_nil_of_le (by omega)]
    rfl
  | n + 1, N', i, h1, h2, h3 => by
    obtain ⟨M, rfl⟩ : ∃ M, N' = M + 1 := ⟨N' - 1, by omega⟩
    have hi : i < l.length := by omega
    have low : 0 <= zlb l i := by
      cases i with
      | zero => exact Int.le_refl 0
      | succ j => have := h3 j rfl; show 0 <= l.getD j 0 + 1; omega
    rw [iter, zop _ _ hi, zq9 N l m hl hi h3]
    cases hb : (decide (l.getD i 0 < zlb l i) || decide ((m : Int) <= l.getD i 0)) with
    | true => rfl
    | false =>
      simp at hb
      simp only [cond_false, Bool.not_false, Bool.true_and]
      exact zko N l m hl n M (i + 1) (by omega) (by omega) (fun j hj => by
        obtain rfl : i = j := by omega
        have h5 : ¬ l.getD i 0 < zlb l i := by
          rw [List.getD_eq_getElem?_getD]; omega
        omega)

theorem zkp {N : Nat} (l : List Int) (m : Nat) (hN : l.length < N) (hl : l.length <= 70368744177664) (_hm : m <= 70368744177664) : z2f N l (m : Int) = some (zkq (m : Int) 0 l) := by
  unfold z2f z9e
  have := zko N l m hl l.length N 0 hN (by omega) (fun j hj => by omega)
  simpa [zlb] using this
def zkn (m : Int) : List (List Int) -> Bool
  | [] => true
  | l :: ls => zkq m 0 l && zkn m ls

theorem zmo (m : Int) {ls : List (List Int)} {i : Nat} (h : i < ls.length) : zkn m (ls.drop i) = (zkq m 0 (ls.getD i []) && zkn m (ls.drop (i + 1))) := by
  rw [List.drop_eq_getElem_cons h, zkn, List.getD_eq_getElem?_getD, List.getElem?_eq_getElem h]
  rfl

theorem zuv {ls : List (List Int)} {i : Nat} (h : i < ls.length) : ls.getD i [] ∈ ls := by
  rw [List.getD_eq_getElem?_getD, List.getElem?_eq_getElem h]; exact List.getElem_mem h

def zuc (N : Nat) (p : SpT) : Prop := p.1.length <= 10000 /\ p.2.2.2.2.1.length <= 10000 /\ p.2.2.2.2.1.length < N /\ p.1.length < N /\ (p.2.2.1.length < N /\ p.2.2.1.length <= 10000) /\ (p.2.2.2.1.length < N /\ p.2.2.2.1.length <= 10000) /\ ∀ l ∈ p.2.2.2.2.1, l.length < N /\ l.length <= 10000

def okF (p : SpT) : Bool := decide (p.2.2.2.2.1.length = p.1.length) && (decide (p.1.length <= 512) && (zkn (p.1.length : Int) p.2.2.2.2.1 && (zkq (p.1.length : Int) 0 p.2.2.1 && zkq (p.1.length : Int) 0 p.2.2.2.1)))

theorem zgc {N : Nat} {p : SpT} (h : zuc N p) (k0 : Bool -> Option Bool) (k1 : SpT -> Option Bool) : ∀ (n N' i : Nat), n < N' -> i + n = p.2.2.2.2.1.length →
    iter (fun (v : (SpT × Int)) r => z4x N p.2.2.2.2.1 (p.2.2.2.2.1.length : Int) v.1 v.2 (fun p x23 => (r (p, x23))) k0 k1) N' (p, (i : Int)) = cond (zkn (p.1.length : Int) (p.2.2.2.2.1.drop i)) (k1 p) (k0 false)
  | 0, N', i, h1, h2 => by
    obtain ⟨M, rfl⟩ : ∃ M, N' = M + 1 := ⟨N' - 1, by omega⟩
    rw [iter]
    dsimp only
    unfold z4x
    rw [decide_eq_false (show ¬ (i : Int) < (p.2.2.2.2.1.length : Int) by omega), List.drop_eq_nil_of_le (by omega)]
    rfl
  | n + 1, N', i, h1, h2 => by
    obtain ⟨M, rfl⟩ : ∃ M, N' = M + 1 := ⟨N' - 1, by omega⟩
    have hi : i < p.2.2.2.2.1.length := by omega
    obtain ⟨q1, q2, q3, q4, q5, q6, q7⟩ := h
    have hr := q7 _ (zuv hi)
    have ih := zgc ⟨q1, q2, q3, q4, q5, q6, q7⟩ k0 k1 n M (i + 1) (by omega) (by omega)
    rw [iter, zmo _ hi]
    dsimp only
    have step : ∀ rec, z4x N p.2.2.2.2.1 (p.2.2.2.2.1.length : Int) p (i : Int) rec k0 k1 = cond (zkq (p.1.length : Int) 0 (p.2.2.2.2.1.getD i [])) (rec p ((i + 1 : Nat) : Int)) (k0 false) := by
      intro rec
      unfold z4x
      rw [decide_eq_true (show (i : Int) < (p.2.2.2.2.1.length : Int) by omega), z2k hi, Int.toNat_natCast, zks p _ hr.1 (by omega) (by omega), z9l (x := (i : Int) + 1) (by unfold I64; omega)]
      simp only [cond_true, Option.bind_some]
      cases zkq (p.1.length : Int) 0 (p.2.2.2.2.1.getD i []) <;> rfl
    rw [step]
    cases zkq (p.1.length : Int) 0 (p.2.2.2.2.1.getD i []) with
    | true => exact ih
    | false => rfl

theorem zkd {N : Nat} {p : SpT} (h : zuc N p) : z8o N p = some (okF p) := by
  have h' := h
  obtain ⟨q1, q2, q3, q4, q5, q6, q7⟩ := h'
  unfold z8o zcd zcc zg7 okF
  by_cases e1 : p.2.2.2.2.1.length = p.1.length
  . rw [show (((p.2.2.2.2.1.length : Nat) : Int) != ((p.1.length : Nat) : Int)) = false by simp [e1], decide_eq_true e1]
    simp only [cond_false, Bool.true_and]
    by_cases e2 : 512 < p.1.length
    . rw [decide_eq_true (show (512 : Int) < (p.1.length : Int) by omega), decide_eq_false (show ¬ p.1.length <= 512 by omega)]; rfl
    . rw [decide_eq_false (show ¬ (512 : Int) < (p.1.length : Int) by omega), decide_eq_true (show p.1.length <= 512 by omega)]
      simp only [cond_false, Bool.true_and]
      have := zgc h (fun x21 => some x21) (fun p1 => (z34 N p1.2.2.1 p1).bind fun y =>
        cond y.1
        ((z34 N y.2.1.2.2.2.1 y.2.1).bind fun y1 =>
          some y1.1)
        (some false)) p.2.2.2.2.1.length N 0 q3 (by omega)
      refine this.trans ?_
      rw [List.drop_zero, zks p _ q5.1 (by omega) (by omega)]
      simp only [Option.bind_some]
      rw [zks p _ q6.1 (by omega) (by omega)]
      cases zkn (p.1.length : Int) p.2.2.2.2.1 <;> cases zkq (p.1.length : Int) 0 p.2.2.1 <;> rfl
  . rw [show (((p.2.2.2.2.1.length : Nat) : Int) != ((p.1.length : Nat) : Int)) = true by simp; omega, decide_eq_false e1]; rfl
theorem zje {N : Nat} {p : SpT} (h : zuc N p) (hl : p.2.2.2.2.1.length = p.1.length) : ∀ (n N' i : Nat), n < N' -> i + n = p.1.length →
    iter (fun (v : Int) r => z2i N p (p.1.length : Int) v (fun i => (r i)) (fun x21 => some x21) (some true)) N' (i : Int) = some (zkn (p.1.length : Int) (p.2.2.2.2.1.drop i))
  | 0, N', i, h1, h2 => by
    obtain ⟨M, rfl⟩ : ∃ M, N' = M + 1 := ⟨N' - 1, by omega⟩
    rw [iter]
    unfold z2i
    rw [decide_eq_false (show ¬ (i : Int) < (p.1.length : Int) by omega), List.drop_eq_nil_of_le (by omega)]
    rfl
  | n + 1, N', i, h1, h2 => by
    obtain ⟨M, rfl⟩ : ∃ M, N' = M + 1 := ⟨N' - 1, by omega⟩
    have hi : i < p.2.2.2.2.1.length := by omega
    obtain ⟨q1, q2, q3, q4, q5, q6, q7⟩ := h
    have hr := q7 _ (zuv hi)
    have ih := zje ⟨q1, q2, q3, q4, q5, q6, q7⟩ hl n M (i + 1) (by omega) (by omega)
    rw [iter, zmo _ hi]
    have step : ∀ rec, z2i N p (p.1.length : Int) (i : Int) rec (fun x21 => some x21) (some true) = cond (zkq (p.1.length : Int) 0 (p.2.2.2.2.1.getD i [])) (rec ((i + 1 : Nat) : Int)) (some false) := by
      intro rec
      unfold z2i
      rw [decide_eq_true (show (i : Int) < (p.1.length : Int) by omega), z2k hi, Int.toNat_natCast, zkp _ _ hr.1 (by omega) (by omega), z9l (x := (i : Int) + 1) (by unfold I64; omega)]
      simp only [cond_true, Option.bind_some]
      cases zkq (p.1.length : Int) 0 (p.2.2.2.2.1.getD i []) <;> rfl
    rw [step]
    cases zkq (p.1.length : Int) 0 (p.2.2.2.2.1.getD i []) with
    | true => exact ih
    | false => rfl

theorem zhv {N : Nat} {p : SpT} (h : zuc N p) : z3d N p = some (okF p) := by
  have h' := h
  obtain ⟨q1, q2, q3, q4, q5, q6, q7⟩ := h'
  unfold z3d z6c z6b zab okF
  by_cases e2 : 512 < p.1.length
  . rw [decide_eq_true (show (512 : Int) < (p.1.length : Int) by omega), decide_eq_false (show ¬ p.1.length <= 512 by omega)]; simp
  . rw [decide_eq_false (show ¬ (512 : Int) < (p.1.length : Int) by omega), decide_eq_true (show p.1.length <= 512 by omega)]
    simp only [cond_false, Bool.true_and]
    by_cases e1 : p.2.2.2.2.1.length = p.1.length
    . rw [show (((p.2.2.2.2.1.length : Nat) : Int) != ((p.1.length : Nat) : Int)) = false by simp [e1], decide_eq_true e1]
      simp only [cond_false, Bool.true_and]
      rw [zkp _ _ q5.1 (by omega) (by omega), zkp _ _ q6.1 (by omega) (by omega)]
      simp only [Option.bind_some]
      have := zje h e1 p.1.length N 0 q4 (by omega)
      rw [List.drop_zero] at this
      rw [show (0 : Int) = ((0 : Nat) : Int) from rfl, this]
      cases zkn (p.1.length : Int) p.2.2.2.2.1 <;> cases zkq (p.1.length : Int) ((0 : Nat) : Int) p.2.2.1 <;> cases zkq (p.1.length : Int) ((0 : Nat) : Int) p.2.2.2.1 <;> rfl
    . rw [show (((p.2.2.2.2.1.length : Nat) : Int) != ((p.1.length : Nat) : Int)) = true by simp; omega, decide_eq_false e1]; rfl

end
end Go.Proofs.YtmeecjkimeiogaaDoorLg

set_option linter.all false
set_option maxRecDepth 100000
namespace Go.Proofs.YtmeecjkimeiogaaDoorLg
noncomputable section
open Go Go.Lift Go.Proofs.YtmeecjkimeiogaaDoorPx

def inL (l : List Int) (n : Int) : Bool := l.any fun x => x == n

theorem zw5 (N : Nat) (l : List Int) (n : Int) (hl : l.length <= 70368744177664) : ∀ (k N' i : Nat), k < N' -> i + k = l.length →
    iter (fun (v : Int) r => z3c N l n v (fun i => (r i)) (fun x4 => some x4) (some false)) N' (i : Int) = some (inL (l.drop i) n)
  | 0, N', i, h1, h2 => by
    obtain ⟨M, rfl⟩ : ∃ M, N' = M + 1 := ⟨N' - 1, by omega⟩
    rw [iter]
    unfold z3c
    rw [decide_eq_false (show ¬ (i : Int) < (l.length : Int) by omega), List.drop_eq_nil_of_le (by omega)]
    rfl
  | k + 1, N', i, h1, h2 => by
    obtain ⟨M, rfl⟩ : ∃ M, N' = M + 1 := ⟨N' - 1, by omega⟩
    have hi : i < l.length := by omega
    have ih := zw5 N l n hl k M (i + 1) (by omega) (by omega)
    rw [iter]
    have step : ∀ rec, z3c N l n (i : Int) rec (fun x4 => some x4) (some false) = cond (l.getD i 0 == n) (some true) (rec ((i + 1 : Nat) : Int)) := by
      intro rec
      unfold z3c
      rw [decide_eq_true (show (i : Int) < (l.length : Int) by omega), z2k hi, Int.toNat_natCast, z9l (x := (i : Int) + 1) (by unfold I64; omega)]
      rfl
    rw [step]
    have e : inL (l.drop i) n = ((l.getD i 0 == n) || inL (l.drop (i + 1)) n) := by
      rw [List.drop_eq_getElem_cons hi, List.getD_eq_getElem?_getD, List.getElem?_eq_getElem hi]; rfl
    rw [e]
    cases l.getD i 0 == n with
    | true => rfl
    | false => exact ih

theorem z12k {N : Nat} (l : List Int) (n : Int) (hN : l.length < N) (hl : l.length <= 70368744177664) : z3w N l n = some (inL l n) := by
  unfold z3w zd1
  have := zw5 N l n hl l.length N 0 hN (by omega)
  simpa using this

def zju (a b : List Int) : Nat -> Nat -> List Int
  | 0, _ => []
  | k + 1, n => (if inL a (n : Int) || inL b (n : Int) then [(n : Int)] else []) ++ zju a b k (n + 1)

theorem zp9 {N : Nat} (a b : List Int) (m : Nat) (hm : m <= 10000) (ha : a.length < N /\ a.length <= 10000) (hb : b.length < N /\ b.length <= 10000) : ∀ (k N' n : Nat) (out : List Int), k < N' -> n + k = m -> out.length <= n →
    iter (fun (v : ((List Int) × Int)) r => z2o N a b (m : Int) v.1 v.2 (fun out n => (r (out, n))) (fun out => some out)) N' (out, (n : Int)) = some (out ++ zju a b k n)
  | 0, N', n, out, h1, h2, h3 => by
    obtain ⟨M, rfl⟩ : ∃ M, N' = M + 1 := ⟨N' - 1, by omega⟩
    rw [iter]
    dsimp only
    unfold z2o
    rw [decide_eq_false (show ¬ (n : Int) < (m : Int) by omega)]
    simp [zju]
  | k + 1, N', n, out, h1, h2, h3 => by
    obtain ⟨M, rfl⟩ : ∃ M, N' = M + 1 := ⟨N' - 1, by omega⟩
    rw [iter]
    dsimp only
    have step : ∀ rec, z2o N a b (m : Int) out (n : Int) rec (fun out => some out) = rec (out ++ (if inL a (n : Int) || inL b (n : Int) then [(n : Int)] else [])) ((n + 1 : Nat) : Int) := by
      intro rec
      unfold z2o z74 z73
      rw [decide_eq_true (show (n : Int) < (m : Int) by omega), z12k a _ ha.1 (by omega), z12k b _ hb.1 (by omega), z9l (x := (n : Int) + 1) (by unfold I64; omega), decide_eq_true (show (out.length + 1) * 8 <= 70368744177664 by omega)]
      simp only [Option.bind_some, cond_true]
      cases inL a (n : Int) <;> cases inL b (n : Int) <;> simp
    rw [step, zju, <- List.append_assoc]
    exact zp9 a b m hm ha hb k M (n + 1) _ (by omega) (by omega) (by rw [List.length_append]; split <;> simp <;> omega)

theorem zw1 {N : Nat} (a b : List Int) (m : Nat) (hm : m <= 10000) (hN : m < N) (ha : a.length < N /\ a.length <= 10000) (hb : b.length < N /\ b.length <= 10000) : z4s N a b (m : Int) = some (zju a b m 0) := by
  unfold z4s zbe
  have := zp9 a b m hm ha hb m N 0 [] hN (by omega) (Nat.le_refl _)
  simpa using this

theorem zw6 (a b : List Int) : ∀ (k n : Nat) (x : Nat), inL (zju a b k n) (x : Int) = (decide (n <= x /\ x < n + k) && (inL a (x : Int) || inL b (x : Int)))
  | 0, n, x => by rw [decide_eq_false (by omega)]; rfl
  | k + 1, n, x => by
    have ih := zw6 a b k (n + 1) x
    have ap : ∀ u v : List Int, inL (u ++ v) (x : Int) = (inL u (x : Int) || inL v (x : Int)) := fun u v => by unfold inL; rw [List.any_append]
    rw [zju, ap, ih]
    by_cases e : x = n
    . subst e
      rw [decide_eq_false (show ¬ (x + 1 <= x /\ x < x + 1 + k) by omega), decide_eq_true (show x <= x /\ x < x + (k + 1) by omega)]
      cases h : (inL a (x : Int) || inL b (x : Int)) <;> simp [inL]
    . have q : inL (if inL a (n : Int) || inL b (n : Int) then [(n : Int)] else []) (x : Int) = false := by
        split
        . have : ((n : Int) == (x : Int)) = false := by rw [beq_eq_false_iff_ne]; omega
          simp [inL, this]
        . rfl
      rw [q, Bool.false_or, show decide (n + 1 <= x /\ x < n + 1 + k) = decide (n <= x /\ x < n + (k + 1)) by apply decide_eq_decide.2; omega]

end
end Go.Proofs.YtmeecjkimeiogaaDoorLg

set_option linter.all false
namespace Go.Proofs.YtmeecjkimeiogaaDoorPx
noncomputable section
open Go Go.Lift

theorem zzx (x : Int) : IntKind.wrap .u8 x = x % 256 := by
  simp only [IntKind.wrap, IntKind.bits, IntKind.signed, Bool.false_and, Bool.false_eq_true, if_false]
  rfl

theorem zt8 {x : Int} (h0 : 0 <= x) (h1 : x < 256) : IntKind.wrap .u8 x = x := by rw [zzx]; omega

theorem z5c {i : Nat} (h : i < 9223372036854775807) : IntKind.wrap .i64 ((i : Int) + 1) = ((i + 1 : Nat) : Int) := by
  rw [z9l (by unfold I64; omega)]; omega

theorem z8a {α : Type} (l : List α) (d : α) (i : Nat) (h : i < l.length) : l.getD i d ∈ l := by
  rw [List.getD_eq_getElem?_getD, List.getElem?_eq_getElem h]; simp

theorem z8c {α : Type} (l : List α) (d : α) (i : Nat) (h : i < l.length) : l.drop i = l.getD i d :: l.drop (i + 1) := by
  rw [List.getD_eq_getElem?_getD, List.getElem?_eq_getElem h, Option.getD_some, List.drop_eq_getElem_cons h]

end
end Go.Proofs.YtmeecjkimeiogaaDoorPx

set_option linter.all false
namespace Go.Proofs.YtmeecjkimeiogaaDoorPx
noncomputable section
open Go Go.Lift

def U64 (x : Int) : Prop := 0 <= x /\ x < 18446744073709551616

instance (x : Int) : Decidable (U64 x) := by unfold U64; infer_instance

def bit (w : Int) (i : Nat) : Bool := w.toNat.testBit i

theorem zxi (x : Int) : IntKind.wrap .u64 x = x % 18446744073709551616 := rfl

theorem zka {x : Int} (h : U64 x) : IntKind.wrap .u64 x = x := by rw [zxi]; unfold U64 at h; omega

theorem zvj {x : Int} (h : U64 x) : (BitVec.ofInt 64 x).toNat = x.toNat := by
  unfold U64 at h
  rw [BitVec.toNat_ofInt]
  omega

theorem z1dy (v : BitVec 64) : U64 ((v.toNat : Nat) : Int) := by
  have := v.isLt
  unfold U64; omega

theorem z134 {x y : Int} (hx : U64 x) (hy : U64 y) : z67 .and .u64 x y = ((x.toNat &&& y.toNat : Nat) : Int) := by
  have e : z67 .and .u64 x y = IntKind.wrap .u64 ((BitVec.ofInt 64 x &&& BitVec.ofInt 64 y).toNat : Int) := rfl
  rw [e, zka (z1dy _), BitVec.toNat_and, zvj hx, zvj hy]

theorem zuq {x : Int} (hx : 0 <= x) {n : Nat} (hn : n < 64) : zxn .u64 x (n : Int) = ((x.toNat >>> n : Nat) : Int) := by
  have e : zxn .u64 x (n : Int) = x.fdiv (2 ^ (min (n : Int).toNat 64)) := rfl
  rw [e, Int.toNat_natCast, Nat.min_eq_left (by omega), Nat.shiftRight_eq_div_pow]
  have e2 : ((2 : Int) ^ n) = ((2 ^ n : Nat) : Int) := by rw [Int.natCast_pow]; rfl
  rw [e2, Int.fdiv_eq_ediv_of_nonneg _ (Int.natCast_nonneg _), Int.natCast_ediv]
  congr 1
  omega

theorem z12l {x : Int} (hx : U64 x) {n : Nat} (hn : n < 64) : (z67 .and .u64 (zxn .u64 x (n : Int)) 1 == 1) = bit x n := by
  have hs : U64 (zxn .u64 x (n : Int)) := by
    rw [zuq hx.1 hn, Nat.shiftRight_eq_div_pow]
    have h := Nat.div_le_self x.toNat (2 ^ n)
    generalize x.toNat / 2 ^ n = q at *
    unfold U64 at *; omega
  rw [z134 hs (by unfold U64; omega), zuq hx.1 hn]
  simp only [Int.toNat_natCast, bit, Nat.testBit]
  have e : (1 : Int).toNat = 1 := rfl
  rw [e, Nat.and_comm (x.toNat >>> n) 1]
  have h01 : 1 &&& (x.toNat >>> n) = (x.toNat >>> n) % 2 := by rw [Nat.and_comm]; exact Nat.and_one_is_mod _
  rw [h01]
  have : (x.toNat >>> n) % 2 < 2 := Nat.mod_lt _ (by omega)
  rcases Nat.lt_or_ge ((x.toNat >>> n) % 2) 1 with h | h
  . have h0 : (x.toNat >>> n) % 2 = 0 := by omega
    rw [h0]; rfl
  . have h0 : (x.toNat >>> n) % 2 = 1 := by omega
    rw [h0]; rfl

def zi7 : Nat -> Int -> Int
  | 0, w => w
  | n + 1, w => zi7 n (w.tdiv 2)

theorem zpc : ∀ (n : Nat) {w : Int}, 0 <= w -> zi7 n w = ((w.toNat / 2 ^ n : Nat) : Int)
  | 0, w, h => by simp only [zi7, Nat.pow_zero, Nat.div_one]; omega
  | n + 1, w, h => by
    have h2 : w.tdiv 2 = ((w.toNat / 2 : Nat) : Int) := by rw [Int.tdiv_eq_ediv_of_nonneg h]; omega
    rw [zi7, zpc n (by rw [h2]; omega), h2, Int.toNat_natCast, Nat.div_div_eq_div_mul, Nat.pow_succ, Nat.mul_comm 2]

theorem zu1 {x : Int} (hx : 0 <= x) (n : Nat) : ((zi7 n x).tmod 2 == 1) = bit x n := by
  rw [zpc n hx, Int.tmod_eq_emod_of_nonneg (Int.natCast_nonneg _), bit, Nat.testBit_eq_decide_div_mod_eq]
  generalize x.toNat / 2 ^ n = q
  rcases Nat.mod_two_eq_zero_or_one q with h | h
  . rw [h]
    have : ((q : Nat) : Int) % 2 = 0 := by omega
    rw [this]; rfl
  . rw [h]
    have : ((q : Nat) : Int) % 2 = 1 := by omega
    rw [this]; rfl

def SetOk (s : List Int) : Prop := ∃ a b c d, s = [a, b, c, d] /\ U64 a /\ U64 b /\ U64 c /\ U64 d

def z12m (s : List Int) (b : Nat) : Bool := bit (s.getD (b / 64) 0) (b % 64)

theorem SetOk.length {s : List Int} (h : SetOk s) : s.length = 4 := by
  obtain ⟨a, b, c, d, rfl, _⟩ := h; rfl

theorem SetOk.word {s : List Int} (h : SetOk s) {i : Nat} (hi : i < 4) : U64 (s.getD i 0) := by
  obtain ⟨a, b, c, d, rfl, ha, hb, hc, hd⟩ := h
  match i, hi with
  | 0, _ => exact ha
  | 1, _ => exact hb
  | 2, _ => exact hc
  | 3, _ => exact hd

theorem SetOk.set {s : List Int} (h : SetOk s) {i : Nat} (hi : i < 4) {x : Int} (hx : U64 x) : SetOk (s.set i x) := by
  obtain ⟨a, b, c, d, rfl, ha, hb, hc, hd⟩ := h
  match i, hi with
  | 0, _ => exact ⟨x, b, c, d, rfl, hx, hb, hc, hd⟩
  | 1, _ => exact ⟨a, x, c, d, rfl, ha, hx, hc, hd⟩
  | 2, _ => exact ⟨a, b, x, d, rfl, ha, hb, hx, hd⟩
  | 3, _ => exact ⟨a, b, c, x, rfl, ha, hb, hc, hx⟩

theorem SetOk.map {s : List Int} (f : Int -> Int) (hf : ∀ x, U64 x -> U64 (f x)) (hs : SetOk s) : SetOk (s.map f) := by
  obtain ⟨a, b, c, d, rfl, ha, hb, hc, hd⟩ := hs
  exact ⟨_, _, _, _, rfl, hf _ ha, hf _ hb, hf _ hc, hf _ hd⟩

theorem zfs {x : Int} (h : (Lit.int .u64 x).wf = true) : U64 x := by
  simp only [Lit.wf, Bool.and_eq_true, decide_eq_true_eq] at h
  have h0 : (IntKind.min .u64 : Int) = 0 := rfl
  have h1 : (IntKind.max .u64 : Int) = 18446744073709551615 := rfl
  unfold U64; omega

theorem zxo {s : List Int} (h : s.length = 4 /\ ∀ x ∈ s, Wf (.int .u64) x) : SetOk s := by
  obtain ⟨hl, hx⟩ := h
  match s, hl with
  | [a, b, c, d], _ =>
    exact ⟨a, b, c, d, rfl, zfs (hx a (by simp)), zfs (hx b (by simp)), zfs (hx c (by simp)), zfs (hx d (by simp))⟩

end
end Go.Proofs.YtmeecjkimeiogaaDoorPx

set_option linter.all false
namespace Go.Proofs.YtmeecjkimeiogaaDoorPx
noncomputable section
open Go Go.Lift

def z17r (k : Nat) : Nat -> Nat
  | 0 => 0
  | n + 1 => (2 ^ k - 1) + 2 ^ (2 * k) * z17r k n

end
end Go.Proofs.YtmeecjkimeiogaaDoorPx

set_option linter.all false
namespace Go.Proofs.YtmeecjkimeiogaaDoorPx
noncomputable section
open Go Go.Lift

theorem m1 : (6148914691236517205 : Nat) = z17r 1 32 := by decide

end
end Go.Proofs.YtmeecjkimeiogaaDoorPx

set_option linter.all false
set_option maxRecDepth 100000
namespace Go.Proofs.YtmeecjkimeiogaaDoorLg
noncomputable section
open Go Go.Lift Go.Proofs.YtmeecjkimeiogaaDoorPx

theorem div64 {b : Nat} (hb : b < 256) : Go.IntKind.wrap .u8 (Int.tdiv (b : Int) (64 : Int)) = ((b / 64 : Nat) : Int) := by
  rw [Int.tdiv_eq_ediv_of_nonneg (by omega), zt8 (by omega) (by omega)]
  omega

theorem z17q (b : Nat) : Int.tmod (b : Int) (64 : Int) = ((b % 64 : Nat) : Int) := by
  rw [Int.tmod_eq_emod_of_nonneg (by omega)]
  omega

theorem z187 (N : Nat) {s : List Int} (hs : SetOk s) {b : Nat} (hb : b < 256) : zbp N s (b : Int) = some (z12m s b) := by
  have hi : b / 64 < 4 := by omega
  rw [zbp, div64 hb, z17q, Int.toNat_natCast, z1m (z2k hi), z1m (decide_eq_true (by rw [hs.length]; exact hi)), z1m (decide_eq_true (by omega)),
    z12l (hs.word hi) (by omega)]
  rfl

theorem zqa (N : Nat) (b : Nat) {w : Int} (hw : U64 w) (k0 : Int -> Option Bool) (hN : 64 < N) :
    z88 N (b : Int) w (0 : Int) k0 = k0 (zi7 (b % 64) w) := by
  let R : Int × Int -> Option Bool := fun v => k0 (zi7 (b % 64 - v.2.toNat) v.1)
  have h := z9p (step := fun (v : (Int × Int)) r => z59 N (b : Int) v.1 v.2 (fun w i => (r (w, i))) k0)
    (I := fun v => U64 v.1 /\ 0 <= v.2 /\ v.2 <= 64) (m := fun v => 64 - v.2.toNat) (R := R)
    (by
      rintro ⟨w, i⟩ r ⟨hw, h0, h1⟩ hr
      obtain ⟨i, rfl⟩ := Int.eq_ofNat_of_zero_le h0
      simp only at hw h0 h1 ⊢
      rw [z59, z17q]
      by_cases hb : i < b % 64
      . have u2 : U64 (Int.tdiv w 2) := by
          rw [Int.tdiv_eq_ediv_of_nonneg hw.1]; unfold U64 at *; omega
        have wb1 : Go.IntKind.wrap .i64 ((i : Int) + 1) = ((i + 1 : Nat) : Int) := z5c (by omega)
        rw [z1m (decide_eq_true (by omega)), zka u2, wb1, hr _ ⟨u2, by simp only; omega, by simp only; omega⟩ (by simp only [Int.toNat_natCast]; omega)]
        simp only [R, Int.toNat_natCast]
        have e : b % 64 - i = (b % 64 - (i + 1)) + 1 := by omega
        rw [e, zi7]
      . rw [z9j (decide_eq_false (by omega))]
        simp only [R, Int.toNat_natCast]
        have e : b % 64 - i = 0 := by omega
        rw [e, zi7]) N (w, (0 : Int)) ⟨hw, Int.le_refl _, (by omega : (0 : Int) <= 64)⟩ (by simp only; omega)
  rw [z88, h]
  rfl

theorem zv4 (N : Nat) {s : List Int} (hs : SetOk s) {b : Nat} (hb : b < 256) (hN : 64 < N) : z5q N s (b : Int) = some (z12m s b) := by
  have hi : b / 64 < 4 := by omega
  have e : Go.IntKind.wrap .i64 (Int.tdiv (b : Int) (64 : Int)) = ((b / 64 : Nat) : Int) := by
    rw [Int.tdiv_eq_ediv_of_nonneg (by omega), z9l (by unfold I64; omega)]
    omega
  rw [z5q, e, Int.toNat_natCast, z1m (z2k hi), z1m (decide_eq_true (by rw [hs.length]; exact hi)), zqa N b (hs.word hi) _ hN, zu1 (hs.word hi).1]
  rfl

end
end Go.Proofs.YtmeecjkimeiogaaDoorLg

set_option linter.all false
set_option maxRecDepth 100000
namespace Go.Proofs.YtmeecjkimeiogaaDoorLg
noncomputable section
open Go Go.Lift Go.Proofs.YtmeecjkimeiogaaDoorPx

def Ins (m : Nat) (l : List Int) : Prop := ∀ x ∈ l, ∃ j : Nat, x = (j : Int) /\ j < m

theorem znk : ∀ {l : List Int} {m : Nat} {low : Int}, zkq (m : Int) low l = true -> 0 <= low -> Ins m l
  | [], _, _, _, _, x, hx => by cases hx
  | y :: l, m, low, h, h0, x, hx => by
    rw [zkq, Bool.and_eq_true, Bool.not_eq_true', Bool.or_eq_false_iff, decide_eq_false_iff_not, decide_eq_false_iff_not] at h
    rcases List.mem_cons.1 hx with rfl | hx
    . exact ⟨x.toNat, by omega, by omega⟩
    . exact znk h.2 (by omega) x hx

theorem z8v {l : List Int} {n : Int} : inL l n = true ↔ n ∈ l := by
  unfold inL
  rw [List.any_eq_true]
  constructor
  . rintro ⟨x, hx, e⟩
    rw [beq_iff_eq] at e
    rw [<- e]; exact hx
  . intro h
    exact ⟨n, h, beq_self_eq_true _⟩

theorem zw7 {l : List Int} {n : Int} : inL l n = false ↔ n ∉ l := by
  rw [<- Bool.not_eq_true, z8v]

theorem ztz (a b : List Int) (n : Int) : inL (a ++ b) n = (inL a n || inL b n) := by unfold inL; rw [List.any_append]

def zm7 (sets : List (List Int)) (b : Nat) : List Bool -> List Int -> List Bool
  | at_, [] => at_
  | at_, x :: l => zm7 sets b (at_.set x.toNat (z12m (sets.getD x.toNat []) b)) l

theorem zhw (sets : List (List Int)) (b : Nat) : ∀ (l : List Int) (a : List Bool), (zm7 sets b a l).length = a.length
  | [], _ => rfl
  | x :: l, a => by rw [zm7, zhw sets b l, List.length_set]

theorem zsw {α : Type} (l : List α) (i j : Nat) (x d : α) (hi : i < l.length) : (l.set i x).getD j d = if i = j then x else l.getD j d := by
  simp only [List.getD_eq_getElem?_getD, List.getElem?_set]
  by_cases h : i = j
  . subst h; rw [if_pos rfl, if_pos rfl, if_pos hi]; rfl
  . rw [if_neg h, if_neg h]

theorem zov (sets : List (List Int)) (b : Nat) : ∀ (l : List Int) (a : List Bool) (j : Nat), Ins a.length l -> j < a.length -> (zm7 sets b a l).getD j false = if inL l (j : Int) = true then z12m (sets.getD j []) b else a.getD j false
  | [], a, j, _, _ => rfl
  | x :: l, a, j, h, hj => by
    obtain ⟨i, rfl, hi⟩ := h x List.mem_cons_self
    rw [zm7, Int.toNat_natCast, zov sets b l _ j (by rw [List.length_set]; exact fun y hy => h y (List.mem_cons_of_mem _ hy)) (by rw [List.length_set]; exact hj), zsw _ _ _ _ _ hi]
    by_cases hl : inL l (j : Int) = true
    . rw [if_pos hl, if_pos (by show (_ || inL l (j : Int)) = true; rw [hl, Bool.or_true])]
    . rw [if_neg hl]
      by_cases e : i = j
      . subst e
        rw [if_pos rfl, if_pos (z8v.2 List.mem_cons_self)]
      . rw [if_neg e, if_neg (by
          rw [z8v, List.mem_cons, not_or]
          exact ⟨by omega, fun h' => hl (z8v.2 h')⟩)]

theorem zv5 (N : Nat) {p : SpT} {l : List Int} {b : Nat} (hb : b < 256) (hm : p.1.length <= 1000) (hl : l.length < N) (hl2 : l.length <= 1000000000) (hi : Ins p.1.length l) (hs : ∀ x ∈ p.1, SetOk x) : zao N p l (b : Int) = some (zm7 p.1 b (List.replicate p.1.length false) l) := by
  rw [zao, z1m (decide_eq_true ⟨by omega, by omega, by omega, by omega⟩), zhi, Int.toNat_natCast]
  refine (z9p (fun v => ∃ (i : Nat), v.2 = (i : Int) /\ i <= l.length /\ v.1.length = p.1.length) (fun v => l.length - v.2.toNat) (fun v => some (zm7 p.1 b v.1 (l.drop v.2.toNat))) ?_ N (List.replicate p.1.length false, 0) ⟨0, rfl, Nat.zero_le _, by simp⟩ (by simpa using hl)).trans (by simp)
  rintro ⟨a, v⟩ r ⟨i, hv, hi', ha⟩ hr
  dsimp only at hv ha
  subst hv
  rw [zda]
  simp only [Int.toNat_natCast]
  rcases Nat.lt_or_ge i l.length with hlt | hge
  . obtain ⟨j, e, hj⟩ := hi _ (z8a l 0 i hlt)
    rw [z1m (decide_eq_true (by omega)), z1m (z2k hlt), z8c l 0 i hlt, zm7]
    simp only [e, Int.toNat_natCast]
    rw [z1m (z2k hj), z187 N (hs _ (z8a p.1 [] j hj)) hb, Option.bind_some, z1m (z2k (by omega)), z1m (decide_eq_true (by omega)), z5c (by omega), hr _ ⟨i + 1, rfl, by omega, by rw [List.length_set]; exact ha⟩ (by simp; omega)]
    simp only [Int.toNat_natCast]
  . rw [z9j (decide_eq_false (by omega)), List.drop_of_length_le hge]
    rfl

def z7q : List Bool × List Int -> List Int -> List Bool × List Int
  | v, [] => v
  | v, k :: ks => z7q (if v.1.getD k.toNat false = true then v else (v.1.set k.toNat true, v.2 ++ [k])) ks

structure Seen (m : Nat) (v : List Bool × List Int) : Prop where
  len : v.1.length = m
  ins : Ins m v.2
  same : ∀ j, j < m -> v.1.getD j false = inL v.2 (j : Int)

theorem zus {m : Nat} {v : List Bool × List Int} (h : Seen m v) {k : Nat} (hk : k < m) : Seen m (if v.1.getD k false = true then v else (v.1.set k true, v.2 ++ [(k : Int)])) /\ ∀ j : Nat, inL (if v.1.getD k false = true then v else (v.1.set k true, v.2 ++ [(k : Int)])).2 (j : Int) = (inL v.2 (j : Int) || decide (j = k)) := by
  by_cases hg : v.1.getD k false = true
  . rw [if_pos hg]
    refine ⟨h, fun j => ?_⟩
    by_cases e : j = k
    . subst e
      rw [<- h.same j hk, hg]; rfl
    . rw [decide_eq_false e, Bool.or_false]
  . rw [if_neg hg]
    have hin : ∀ j : Nat, inL (v.2 ++ [(k : Int)]) (j : Int) = (inL v.2 (j : Int) || decide (j = k)) := fun j => by
      rw [ztz]
      congr 1
      by_cases e : j = k
      . subst e; rw [decide_eq_true rfl]; exact z8v.2 (by simp)
      . rw [decide_eq_false e]; exact zw7.2 (by simp; omega)
    refine ⟨⟨by rw [List.length_set]; exact h.len, fun x hx => ?_, fun j hj => ?_⟩, hin⟩
    . rcases List.mem_append.1 hx with hx | hx
      . exact h.ins x hx
      . exact ⟨k, by simpa using hx, hk⟩
    . dsimp only
      rw [zsw _ _ _ _ _ (by rw [h.len]; exact hk), hin j, <- h.same j hj]
      by_cases e : k = j
      . rw [if_pos e, decide_eq_true e.symm, Bool.or_true]
      . rw [if_neg e, decide_eq_false (fun h => e h.symm), Bool.or_false]

theorem zhf {m : Nat} : ∀ (ks : List Int) {v : List Bool × List Int}, Seen m v -> Ins m ks -> Seen m (z7q v ks) /\ ∀ j : Nat, inL (z7q v ks).2 (j : Int) = (inL v.2 (j : Int) || inL ks (j : Int))
  | [], v, h, _ => ⟨h, fun j => by rw [z7q]; exact (Bool.or_false _).symm⟩
  | k :: ks, v, h, hk => by
    obtain ⟨i, rfl, hi⟩ := hk k List.mem_cons_self
    obtain ⟨g1, g2⟩ := zus h hi
    obtain ⟨g3, g4⟩ := zhf ks g1 (fun x hx => hk x (List.mem_cons_of_mem _ hx))
    rw [z7q, Int.toNat_natCast]
    refine ⟨g3, fun j => ?_⟩
    rw [g4 j, g2 j, Bool.or_assoc]
    congr 1
    show (decide (j = i) || inL ks (j : Int)) = (((i : Int) == (j : Int)) || inL ks (j : Int))
    congr 1
    by_cases e : j = i
    . rw [decide_eq_true e, e, beq_self_eq_true]
    . rw [decide_eq_false e, beq_eq_false_iff_ne.2 (by omega)]

theorem zj8 : ∀ (ks : List Int) (v : List Bool × List Int), (z7q v ks).2.length <= v.2.length + ks.length
  | [], v => Nat.le_refl _
  | k :: ks, v => by
    rw [z7q]
    have := zj8 ks (if v.1.getD k.toNat false = true then v else (v.1.set k.toNat true, v.2 ++ [k]))
    by_cases hg : v.1.getD k.toNat false = true
    . rw [if_pos hg] at this ⊢; rw [List.length_cons]; omega
    . rw [if_neg hg] at this ⊢
      simp only [List.length_append, List.length_cons, List.length_nil] at this ⊢; omega

theorem zwy (N : Nat) {p : SpT} {x14 : List Bool} {x15 x16 : Int} {ks : List Int} {m : Nat} (hk : ks.length < N) (hk2 : ks.length <= 10000) (hi : Ins m ks) {v : List Bool × List Int} (hv : v.1.length = m) (hl : v.2.length <= 100000000) (K : List Bool -> List Int -> Option (List Int)) :
    zcb N p v.1 v.2 x14 x15 x16 ks ((ks.length : Nat) : Int) 0 K = K (z7q v ks).1 (z7q v ks).2 := by
  rw [zcb]
  refine (z9p (fun u => ∃ (i : Nat), u.2.2 = (i : Int) /\ i <= ks.length /\ u.1.length = m /\ u.2.1.length <= v.2.length + i) (fun u => ks.length - u.2.2.toNat) (fun u => K (z7q (u.1, u.2.1) (ks.drop u.2.2.toNat)).1 (z7q (u.1, u.2.1) (ks.drop u.2.2.toNat)).2) ?_ N (v.1, v.2, 0) ⟨0, rfl, Nat.zero_le _, hv, Nat.le_refl _⟩ (by simpa using hk)).trans (by simp)
  rintro ⟨se, l, u⟩ r ⟨i, hu, hi', hse, hll⟩ hr
  dsimp only at hu hse hll
  subst hu
  rw [zc9]
  simp only [Int.toNat_natCast]
  rcases Nat.lt_or_ge i ks.length with hlt | hge
  . obtain ⟨j, e, hj⟩ := hi _ (z8a ks 0 i hlt)
    rw [z1m (decide_eq_true (by omega)), z1m (z2k hlt), z8c ks 0 i hlt, z7q]
    simp only [e, Int.toNat_natCast]
    rw [z1m (z2k (by omega)), z1m (decide_eq_true (by omega)), z5c (by omega)]
    cases hg : se.getD j false with
    | true =>
      rw [Bool.not_true, cond_false, if_pos rfl, hr _ ⟨i + 1, rfl, by omega, hse, by dsimp only; omega⟩ (by simp; omega)]
      simp only [Int.toNat_natCast]
    | false =>
      rw [Bool.not_false, cond_true, z1m (z2k (by omega)), z1m (decide_eq_true (by omega)), z1m (decide_eq_true (by omega)), if_neg (by decide), hr _ ⟨i + 1, rfl, by omega, by rw [List.length_set]; exact hse, by simp; omega⟩ (by simp; omega)]
      simp only [Int.toNat_natCast]
  . rw [z9j (decide_eq_false (by omega)), List.drop_of_length_le hge]
    rfl

def z9k (nexts : List (List Int)) : List Bool × List Int -> List Bool -> Nat -> List Bool × List Int
  | v, [], _ => v
  | v, b :: l, i => z9k nexts (if b = true then z7q v (nexts.getD i []) else v) l (i + 1)

theorem zhe {m : Nat} {nexts : List (List Int)} (hn : ∀ x ∈ nexts, Ins m x) : ∀ (l : List Bool) (i : Nat) {v : List Bool × List Int}, Seen m v -> Seen m (z9k nexts v l i) /\ ∀ j : Nat, inL (z9k nexts v l i).2 (j : Int) = true ↔ (inL v.2 (j : Int) = true \/ ∃ k, k < l.length /\ l.getD k false = true /\ inL (nexts.getD (i + k) []) (j : Int) = true)
  | [], i, v, h => ⟨h, fun j => by
    rw [z9k]
    constructor
    . exact .inl
    . rintro (h | ⟨k, hk, _⟩)
      . exact h
      . cases hk⟩
  | b :: l, i, v, h => by
    have hin : Ins m (nexts.getD i []) := by
      rcases Nat.lt_or_ge i nexts.length with h' | h'
      . exact hn _ (z8a nexts [] i h')
      . rw [List.getD_eq_getElem?_getD, List.getElem?_eq_none h']
        exact fun x hx => by cases hx
    have hs : Seen m (if b = true then z7q v (nexts.getD i []) else v) := by
      split
      . exact (zhf _ h hin).1
      . exact h
    obtain ⟨g1, g2⟩ := zhe hn l (i + 1) hs
    refine ⟨g1, fun j => ?_⟩
    rw [z9k, g2 j]
    have hb : inL (if b = true then z7q v (nexts.getD i []) else v).2 (j : Int) = true ↔ inL v.2 (j : Int) = true \/ (b = true /\ inL (nexts.getD i []) (j : Int) = true) := by
      cases b with
      | true => rw [if_pos rfl, (zhf _ h hin).2 j, Bool.or_eq_true]; simp
      | false => rw [if_neg (by decide)]; simp
    rw [hb]
    constructor
    . rintro ((h1 | ⟨h1, h2⟩) | ⟨k, h1, h2, h3⟩)
      . exact .inl h1
      . exact .inr ⟨0, by simp, h1, h2⟩
      . exact .inr ⟨k + 1, by simpa using h1, by simpa using h2, by rw [show i + (k + 1) = i + 1 + k by omega]; exact h3⟩
    . rintro (h1 | ⟨k, h1, h2, h3⟩)
      . exact .inl (.inl h1)
      . cases k with
        | zero => exact .inl (.inr ⟨h2, h3⟩)
        | succ k => exact .inr ⟨k, by simpa using h1, by simpa using h2, by rw [show i + 1 + k = i + (k + 1) by omega]; exact h3⟩

theorem znb {nexts : List (List Int)} (hn : ∀ x ∈ nexts, x.length <= 40) : ∀ (l : List Bool) (i : Nat) (v : List Bool × List Int), (z9k nexts v l i).2.length <= v.2.length + 40 * l.length
  | [], i, v => by rw [z9k]; omega
  | b :: l, i, v => by
    rw [z9k]
    have h1 := znb hn l (i + 1) (if b = true then z7q v (nexts.getD i []) else v)
    have h2 : (if b = true then z7q v (nexts.getD i []) else v).2.length <= v.2.length + 40 := by
      split
      . have := zj8 (nexts.getD i []) v
        have : (nexts.getD i []).length <= 40 := by
          rcases Nat.lt_or_ge i nexts.length with h' | h'
          . exact hn _ (z8a nexts [] i h')
          . rw [List.getD_eq_getElem?_getD, List.getElem?_eq_none h']; simp
        omega
      . omega
    rw [List.length_cons]; omega

theorem zol (m : Nat) : Seen m (List.replicate m false, []) := ⟨by simp, fun x hx => (by cases hx), fun j hj => by
  rw [List.getD_eq_getElem?_getD, List.getElem?_replicate, if_pos hj]; rfl⟩

theorem zyo (N : Nat) {p : SpT} {a : List Bool} (hN : a.length < N) (ha : a.length <= 1000) (hp : p.2.2.2.2.1.length = a.length) (hk : ∀ x ∈ p.2.2.2.2.1, x.length < N /\ x.length <= 10000) (hi : ∀ x ∈ p.2.2.2.2.1, Ins a.length x) :
    zav N p a = some (z9k p.2.2.2.2.1 (List.replicate a.length false, []) a 0).2 := by
  rw [zav, z1m (decide_eq_true ⟨by omega, by omega, by omega, by omega⟩), zg6, Int.toNat_natCast]
  refine (z9p (fun u => ∃ (i : Nat), u.2.2 = (i : Int) /\ i <= a.length /\ u.1.length = a.length /\ u.2.1.length <= 10000 * i) (fun u => a.length - u.2.2.toNat) (fun u => some (z9k p.2.2.2.2.1 (u.1, u.2.1) (a.drop u.2.2.toNat) u.2.2.toNat).2) ?_ N (List.replicate a.length false, [], 0) ⟨0, rfl, Nat.zero_le _, by simp, Nat.zero_le _⟩ (by simpa using hN)).trans (by simp)
  rintro ⟨se, l, u⟩ r ⟨i, hu, hi', hse, hll⟩ hr
  dsimp only at hu hse hll
  subst hu
  rw [zca]
  simp only [Int.toNat_natCast]
  rcases Nat.lt_or_ge i a.length with hlt | hge
  . rw [z1m (decide_eq_true (by omega)), z1m (z2k hlt), z8c a false i hlt, z9k, z5c (by omega)]
    cases hg : a.getD i false with
    | false =>
      rw [Bool.not_false, cond_true, if_neg (by decide), hr _ ⟨i + 1, rfl, by omega, hse, by dsimp only; omega⟩ (by simp; omega)]
      simp only [Int.toNat_natCast]
    | true =>
      have hm := z8a p.2.2.2.2.1 [] i (by omega)
      obtain ⟨k1, k2⟩ := hk _ hm
      have hI := zj8 (p.2.2.2.2.1.getD i []) (se, l)
      have hS : (z7q (se, l) (p.2.2.2.2.1.getD i [])).1.length = a.length := by
        have : ∀ (ks : List Int) (v : List Bool × List Int), (z7q v ks).1.length = v.1.length := by
          intro ks
          induction ks with
          | nil => intro v; rfl
          | cons k ks ih =>
            intro v
            rw [z7q, ih]
            split
            . rfl
            . rw [List.length_set]
        rw [this]; exact hse
      rw [Bool.not_true, cond_false, z1m (z2k (by omega)), if_pos rfl, zwy N k1 k2 (hi _ hm) (v := (se, l)) hse (by dsimp only; omega), hr _ ⟨i + 1, rfl, by omega, hS, by dsimp only at hI ⊢; omega⟩ (by simp; omega)]
      simp only [Int.toNat_natCast]
  . rw [z9j (decide_eq_false (by omega)), List.drop_of_length_le hge]
    rfl

def zod (sets : List (List Int)) (b : Nat) (may : List Int) : List Int := may.filter fun i => z12m (sets.getD i.toNat []) b

def zqi (nexts : List (List Int)) (m : Nat) : List Int -> List Int -> List Int
  | may, [] => may
  | may, k :: l => zqi nexts m (zju may (nexts.getD k.toNat []) m 0) l

theorem zst (a b : List Int) : ∀ (k n : Nat), Ins (n + k) (zju a b k n)
  | 0, n, x, hx => by cases hx
  | k + 1, n, x, hx => by
    rw [zju] at hx
    rcases List.mem_append.1 hx with h | h
    . split at h
      . exact ⟨n, by simpa using h, by omega⟩
      . cases h
    . have := zst a b k (n + 1) x h
      rwa [show n + 1 + k = n + (k + 1) by omega] at this

theorem zny (a b : List Int) : ∀ (k n : Nat), (zju a b k n).length <= k
  | 0, _ => Nat.le_refl _
  | k + 1, n => by
    rw [zju, List.length_append]
    have := zny a b k (n + 1)
    split <;> simp <;> omega

theorem zvl {sets : List (List Int)} {b m : Nat} {may : List Int} (h : Ins m may) : Ins m (zod sets b may) := fun x hx => h x (List.mem_filter.1 hx).1

theorem z17n (sets : List (List Int)) (b : Nat) (may : List Int) (j : Nat) : inL (zod sets b may) (j : Int) = true ↔ inL may (j : Int) = true /\ z12m (sets.getD j []) b = true := by
  rw [z8v, z8v, zod, List.mem_filter, Int.toNat_natCast]

theorem zk3 {nexts : List (List Int)} {m : Nat} : ∀ (l : List Int) (may : List Int), Ins m may -> Ins m (zqi nexts m may l) /\ (∀ j, j < m -> (inL (zqi nexts m may l) (j : Int) = true ↔ inL may (j : Int) = true \/ ∃ k ∈ l, inL (nexts.getD k.toNat []) (j : Int) = true)) /\ (zqi nexts m may l).length <= max may.length m
  | [], may, h => by
    refine ⟨h, fun j hj => ?_, Nat.le_max_left _ _⟩
    rw [zqi]
    constructor
    . exact .inl
    . rintro (h | ⟨k, hk, _⟩)
      . exact h
      . cases hk
  | k :: l, may, h => by
    have hj := zst may (nexts.getD k.toNat []) m 0
    rw [Nat.zero_add] at hj
    obtain ⟨g1, g2, g3⟩ := zk3 l _ hj
    rw [zqi]
    refine ⟨g1, fun j hjm => ?_, ?_⟩
    . rw [g2 j hjm, zw6, decide_eq_true ⟨Nat.zero_le _, by omega⟩, Bool.true_and, Bool.or_eq_true]
      constructor
      . rintro ((h1 | h1) | ⟨x, h1, h2⟩)
        . exact .inl h1
        . exact .inr ⟨k, List.mem_cons_self, h1⟩
        . exact .inr ⟨x, List.mem_cons_of_mem _ h1, h2⟩
      . rintro (h1 | ⟨x, h1, h2⟩)
        . exact .inl (.inl h1)
        . rcases List.mem_cons.1 h1 with rfl | h1
          . exact .inl (.inr h2)
          . exact .inr ⟨x, h1, h2⟩
    . have := zny may (nexts.getD k.toNat []) m 0
      omega

structure Rel (m : Nat) (a : List Bool) (now : List Int) : Prop where
  len : a.length = m
  ins : Ins m now
  same : ∀ j, j < m -> a.getD j false = inL now (j : Int)

theorem zr4 {a b : Bool} (h : a = true ↔ b = true) : a = b := by
  cases a <;> cases b <;> simp at h ⊢

theorem zsh {sets : List (List Int)} {m b : Nat} {l may : List Int} (h1 : Ins m l) (h2 : Ins m may) (h : ∀ j, j < m -> inL l (j : Int) = inL may (j : Int)) : Rel m (zm7 sets b (List.replicate m false) l) (zod sets b may) := by
  have hlen : (List.replicate m false).length = m := by simp
  refine ⟨by rw [zhw, hlen], zvl h2, fun j hj => ?_⟩
  rw [zov sets b l _ j (by rw [hlen]; exact h1) (by rw [hlen]; exact hj), h j hj]
  refine zr4 ?_
  rw [z17n]
  have hr : (List.replicate m false).getD j false = false := by rw [List.getD_eq_getElem?_getD, List.getElem?_replicate, if_pos hj]; rfl
  rw [hr]
  by_cases hm : inL may (j : Int) = true
  . rw [if_pos hm]; simp [hm]
  . rw [if_neg hm]; simp [hm]

theorem zv3 {nexts : List (List Int)} {m : Nat} {a : List Bool} {now : List Int} (hn : ∀ x ∈ nexts, Ins m x) (h : Rel m a now) : Ins m (z9k nexts (List.replicate m false, []) a 0).2 /\ Ins m (zqi nexts m [] now) /\ ∀ j, j < m -> inL (z9k nexts (List.replicate m false, []) a 0).2 (j : Int) = inL (zqi nexts m [] now) (j : Int) := by
  obtain ⟨g1, g2⟩ := zhe hn a 0 (zol m)
  obtain ⟨f1, f2, _⟩ := zk3 (nexts := nexts) (m := m) now [] (fun x hx => by cases hx)
  refine ⟨g1.ins, f1, fun j hj => zr4 ?_⟩
  rw [g2 j, f2 j hj]
  constructor
  . rintro (h1 | ⟨k, h1, h2, h3⟩)
    . exact .inl h1
    . rw [Nat.zero_add] at h3
      rw [h.len] at h1
      refine .inr ⟨(k : Int), ?_, by rw [Int.toNat_natCast]; exact h3⟩
      rw [<- z8v, <- h.same k h1]; exact h2
  . rintro (h1 | ⟨k, h1, h2⟩)
    . exact .inl h1
    . obtain ⟨i, rfl, hi⟩ := h.ins k h1
      rw [Int.toNat_natCast] at h2
      refine .inr ⟨i, by rw [h.len]; exact hi, ?_, by rw [Nat.zero_add]; exact h2⟩
      rw [h.same i hi, z8v]; exact h1

def zv9 (sets nexts : List (List Int)) (m : Nat) : List Bool -> List UInt8 -> List Bool
  | a, [] => a
  | a, b :: s => zv9 sets nexts m (zm7 sets b.toNat (List.replicate m false) (z9k nexts (List.replicate m false, []) a 0).2) s

def zz9 (sets nexts : List (List Int)) (m : Nat) : List Int -> List UInt8 -> List Int
  | now, [] => now
  | now, b :: s => zz9 sets nexts m (zod sets b.toNat (zqi nexts m [] now)) s

theorem zv2 {sets nexts : List (List Int)} {m : Nat} (hn : ∀ x ∈ nexts, Ins m x) : ∀ (s : List UInt8) {a : List Bool} {now : List Int}, Rel m a now -> Rel m (zv9 sets nexts m a s) (zz9 sets nexts m now s)
  | [], _, _, h => h
  | b :: s, a, now, h => by
    obtain ⟨g1, g2, g3⟩ := zv3 hn h
    exact zv2 hn s (zsh g1 g2 g3)

structure SpR (N : Nat) (p : SpT) (s : List UInt8) : Prop where
  m : p.1.length <= 1000
  mN : p.1.length < N
  sets : ∀ x ∈ p.1, SetOk x
  next : p.2.2.2.2.1.length = p.1.length
  nextI : ∀ x ∈ p.2.2.2.2.1, Ins p.1.length x
  nextL : ∀ x ∈ p.2.2.2.2.1, x.length < N /\ x.length <= 10000
  first : Ins p.1.length p.2.2.1
  firstL : p.2.2.1.length < N /\ p.2.2.1.length <= 10000
  last : Ins p.1.length p.2.2.2.1
  lastL : p.2.2.2.1.length < N /\ p.2.2.2.1.length <= 10000
  sN : s.length < N
  sL : s.length <= 10000
  n64 : 64 < N
  nL : p.1.length * 40 < N
  nextB : ∀ x ∈ p.2.2.2.2.1, x.length <= 40

theorem zv7 {N : Nat} {p : SpT} {s : List UInt8} (h : SpR N p s) (h0 : 0 < s.length) {a : List Bool} (ha : a.length = p.1.length) (K : List Bool -> Option Bool) :
    zch N s p a (((s.length : Nat) : Int) - 1) 0 K = K (zv9 p.1 p.2.2.2.2.1 p.1.length a (s.drop 1)) := by
  rw [zch]
  have hm := h.m
  have hsl := h.sL
  refine (z9p (fun v => ∃ (i : Nat), v.2 = (i : Int) /\ i + 1 <= s.length /\ v.1.length = p.1.length) (fun v => s.length - v.2.toNat) (fun v => K (zv9 p.1 p.2.2.2.2.1 p.1.length v.1 (s.drop (v.2.toNat + 1)))) ?_ N (a, 0) ⟨0, rfl, by omega, ha⟩ (by simpa using h.sN)).trans (by simp)
  rintro ⟨a, v⟩ r ⟨i, hv, hi, ha⟩ hr
  dsimp only at hv ha
  subst hv
  rw [zcf]
  simp only [Int.toNat_natCast]
  rcases Nat.lt_or_ge (i + 1) s.length with hlt | hge
  . have hO := znb (nexts := p.2.2.2.2.1) h.nextB a 0 (List.replicate a.length false, [])
    have hI : Ins p.1.length (z9k p.2.2.2.2.1 (List.replicate a.length false, []) a 0).2 := by
      rw [ha]; exact (zhe h.nextI a 0 (zol _)).1.ins
    have hN := h.nL
    have hO' : (z9k p.2.2.2.2.1 (List.replicate a.length false, []) a 0).2.length <= p.1.length * 40 := by
      rw [ha] at hO ⊢
      simp only [List.length_nil] at hO
      omega
    rw [z1m (decide_eq_true (by omega)), zyo N (by rw [ha]; exact h.mN) (by omega) (by rw [ha]; exact h.next) h.nextL (by rw [ha]; exact h.nextI), Option.bind_some, z5c (by omega), z1m (z2k hlt), Int.toNat_natCast]
    have hrd := zv5 N (p := p) (b := (s.getD (i + 1) 0).toNat) (l := (z9k p.2.2.2.2.1 (List.replicate a.length false, []) a 0).2) (by exact (s.getD (i + 1) 0).toNat_lt) hm (by omega) (by omega) hI h.sets
    rw [hrd, Option.bind_some, hr _ ⟨i + 1, rfl, by omega, by rw [zhw]; simp⟩ (by simp; omega), z8c s 0 (i + 1) hlt, zv9, ha]
    simp only [Int.toNat_natCast]
  . rw [z9j (decide_eq_false (by omega)), List.drop_of_length_le hge]
    rfl

theorem zv8 {N : Nat} {p : SpT} {s : List UInt8} (h : SpR N p s) {a : List Bool} (ha : a.length = p.1.length) :
    zcg N a p.2.2.2.1 ((p.2.2.2.1.length : Nat) : Int) 0 (fun x4 => some x4) (some false) = some (p.2.2.2.1.any fun i => a.getD i.toNat false) := by
  rw [zcg]
  have hl := h.lastL
  refine (z9p (fun v => ∃ (i : Nat), v = (i : Int) /\ i <= p.2.2.2.1.length) (fun v => p.2.2.2.1.length - v.toNat) (fun v => some ((p.2.2.2.1.drop v.toNat).any fun i => a.getD i.toNat false)) ?_ N 0 ⟨0, rfl, by omega⟩ (by simpa using hl.1)).trans (by simp)
  rintro v r ⟨i, rfl, hi⟩ hr
  rw [zce]
  simp only [Int.toNat_natCast]
  rcases Nat.lt_or_ge i p.2.2.2.1.length with hlt | hge
  . obtain ⟨j, e, hj⟩ := h.last _ (z8a p.2.2.2.1 0 i hlt)
    rw [z1m (decide_eq_true (by omega)), z1m (z2k hlt), z8c p.2.2.2.1 0 i hlt, List.any_cons]
    simp only [e, Int.toNat_natCast]
    rw [z1m (z2k (by omega)), z5c (by omega), show r ((i + 1 : Nat) : Int) = some ((p.2.2.2.1.drop (i + 1)).any fun i => a.getD i.toNat false) from (hr _ ⟨i + 1, rfl, by omega⟩ (by simp; omega)).trans rfl]
    cases a.getD j false <;> rfl
  . rw [z9j (decide_eq_false (by omega)), List.drop_of_length_le hge]
    rfl

theorem z12p {N : Nat} {p : SpT} {s : List UInt8} (h : SpR N p s) {i : Nat} (hi : i < s.length) {may : List Int} (hm : Ins p.1.length may) (hl : may.length < N) (hl2 : may.length <= 10000) (K : List Int -> Option Bool) :
    z6k N s p may [] (i : Int) 0 K = K (zod p.1 (s.getD i 0).toNat may) := by
  rw [z6k]
  refine (z9p (fun v => ∃ (k : Nat), v.2 = (k : Int) /\ k <= may.length /\ v.1.length <= k) (fun v => may.length - v.2.toNat) (fun v => K (v.1 ++ zod p.1 (s.getD i 0).toNat (may.drop v.2.toNat))) ?_ N ([], 0) ⟨0, rfl, by omega, Nat.le_refl _⟩ (by simpa using hl)).trans (by simp)
  rintro ⟨o, v⟩ r ⟨k, hv, hk, ho⟩ hr
  dsimp only at hv ho
  subst hv
  rw [z6f, z6j]
  simp only [Int.toNat_natCast]
  rcases Nat.lt_or_ge k may.length with hlt | hge
  . obtain ⟨j, e, hj⟩ := hm _ (z8a may 0 k hlt)
    have hb := (s.getD i 0).toNat_lt
    rw [z1m (decide_eq_true (by omega)), z1m (z2k hlt), z8c may 0 k hlt]
    simp only [e, Int.toNat_natCast]
    rw [z1m (z2k hj), z1m (z2k hi), z9l (x := (((s.getD i 0).toNat : Nat) : Int)) (by unfold I64; omega), zv4 N (h.sets _ (z8a p.1 [] j hj)) hb h.n64, Option.bind_some, z5c (by omega)]
    have hrec : ∀ o', o'.length <= k + 1 -> r (o', ((k + 1 : Nat) : Int)) = K (o' ++ zod p.1 (s.getD i 0).toNat (may.drop (k + 1))) := fun o' ho' => by
      rw [hr _ ⟨k + 1, rfl, by omega, ho'⟩ (by simp; omega)]
      simp only [Int.toNat_natCast]
    rw [zod, List.filter_cons, Int.toNat_natCast]
    cases hh : z12m (p.1.getD j []) (s.getD i 0).toNat with
    | true =>
      rw [cond_true, z1m (z2k hlt), z1m (decide_eq_true (by omega)), hrec _ (by simp; omega), if_pos rfl, List.append_assoc]
      rfl
    | false =>
      rw [cond_false, hrec _ (by omega), if_neg (by decide)]
      rfl
  . rw [z9j (decide_eq_false (by omega)), List.drop_of_length_le hge]
    simp [zod]

theorem z12q {N : Nat} {p : SpT} {s : List UInt8} (h : SpR N p s) {i : Int} {now : List Int} (hm : Ins p.1.length now) (hl : now.length < N) (hl2 : now.length <= 10000) (K : List Int -> Option Bool) :
    z6i N s p [] now i 0 K = K (zqi p.2.2.2.2.1 p.1.length [] now) := by
  rw [z6i]
  have hmm := h.m
  have hmN := h.mN
  refine (z9p (fun v => ∃ (k : Nat), v.2 = (k : Int) /\ k <= now.length /\ v.1.length <= p.1.length) (fun v => now.length - v.2.toNat) (fun v => K (zqi p.2.2.2.2.1 p.1.length v.1 (now.drop v.2.toNat))) ?_ N ([], 0) ⟨0, rfl, by omega, Nat.zero_le _⟩ (by simpa using hl)).trans (by simp)
  rintro ⟨o, v⟩ r ⟨k, hv, hk, ho⟩ hr
  dsimp only at hv ho
  subst hv
  rw [z6e]
  simp only [Int.toNat_natCast]
  rcases Nat.lt_or_ge k now.length with hlt | hge
  . obtain ⟨j, e, hj⟩ := hm _ (z8a now 0 k hlt)
    have hnx := h.nextL _ (z8a p.2.2.2.2.1 [] j (by rw [h.next]; exact hj))
    rw [z1m (decide_eq_true (by omega)), z1m (z2k hlt), z1m (decide_eq_true hlt), z8c now 0 k hlt, zqi]
    simp only [e, Int.toNat_natCast]
    rw [z1m (z2k (by rw [h.next]; exact hj)), zw1 _ _ _ (by omega) hmN ⟨by omega, by omega⟩ hnx, Option.bind_some, z5c (by omega), hr _ ⟨k + 1, rfl, by omega, zny ..⟩ (by simp; omega)]
    simp only [Int.toNat_natCast]
  . rw [z9j (decide_eq_false (by omega)), List.drop_of_length_le hge]
    rfl

theorem zyb {N : Nat} {p : SpT} {s : List UInt8} (h : SpR N p s) (h0 : 0 < s.length) (K : List Int -> Option Bool) :
    z6l N s p p.2.2.1 [] 0 K = K (zz9 p.1 p.2.2.2.2.1 p.1.length (zod p.1 (s.getD 0 0).toNat p.2.2.1) (s.drop 1)) := by
  rw [z6l]
  have hmm := h.m
  have hmN := h.mN
  have hsl := h.sL
  have hfl := h.firstL
  refine (z9p (fun v => ∃ (i : Nat), v.2.2 = (i : Int) /\ i <= s.length /\ Ins p.1.length v.1 /\ v.1.length < N /\ v.1.length <= 10000) (fun v => s.length - v.2.2.toNat) (fun v => if v.2.2.toNat < s.length then K (zz9 p.1 p.2.2.2.2.1 p.1.length (zod p.1 (s.getD v.2.2.toNat 0).toNat v.1) (s.drop (v.2.2.toNat + 1))) else K v.2.1) ?_ N (p.2.2.1, [], 0) ⟨0, rfl, by omega, h.first, hfl.1, hfl.2⟩ (by simpa using h.sN)).trans (by simp [h0])
  rintro ⟨may, now, v⟩ r ⟨i, hv, hi, hI, hl, hl2⟩ hr
  dsimp only at hv hI hl hl2
  subst hv
  rw [z6g]
  simp only [Int.toNat_natCast]
  rcases Nat.lt_or_ge i s.length with hlt | hge
  . have hnl : (zod p.1 (s.getD i 0).toNat may).length <= may.length := List.length_filter_le _ _
    have hms := zk3 (nexts := p.2.2.2.2.1) (m := p.1.length) (zod p.1 (s.getD i 0).toNat may) [] (fun x hx => by cases hx)
    have hml := hms.2.2
    simp only [List.length_nil, Nat.zero_max] at hml
    rw [z1m (decide_eq_true (by omega)), z12p h hlt hI hl hl2, z12q h (zvl hI) (by omega) (by omega), z5c (by omega), hr _ ⟨i + 1, rfl, by omega, hms.1, by dsimp only; omega, by dsimp only; omega⟩ (by simp; omega), if_pos hlt]
    simp only [Int.toNat_natCast]
    rcases Nat.lt_or_ge (i + 1) s.length with h2 | h2
    . rw [if_pos h2, z8c s 0 (i + 1) h2, zz9]
    . rw [if_neg (by omega), List.drop_of_length_le h2, zz9]
  . rw [z9j (decide_eq_false (by omega)), if_neg (by omega)]

theorem zyc {N : Nat} {p : SpT} {s : List UInt8} (h : SpR N p s) {now : List Int} (hl : now.length < N) (hl2 : now.length <= 10000) :
    z6h N p now 0 (fun x4 => some x4) (some false) = some (now.any fun i => inL p.2.2.2.1 i) := by
  rw [z6h]
  have hla := h.lastL
  refine (z9p (fun v => ∃ (i : Nat), v = (i : Int) /\ i <= now.length) (fun v => now.length - v.toNat) (fun v => some ((now.drop v.toNat).any fun i => inL p.2.2.2.1 i)) ?_ N 0 ⟨0, rfl, by omega⟩ (by simpa using hl)).trans (by simp)
  rintro v r ⟨i, rfl, hi⟩ hr
  rw [z6d]
  simp only [Int.toNat_natCast]
  rcases Nat.lt_or_ge i now.length with hlt | hge
  . rw [z1m (decide_eq_true (by omega)), z1m (z2k hlt), z1m (decide_eq_true hlt), z8c now 0 i hlt, List.any_cons, z12k _ _ hla.1 (by omega), Option.bind_some, z5c (by omega), show r ((i + 1 : Nat) : Int) = some ((now.drop (i + 1)).any fun i => inL p.2.2.2.1 i) from (hr _ ⟨i + 1, rfl, by omega⟩ (by simp; omega)).trans rfl]
    cases inL p.2.2.2.1 (now.getD i 0) <;> rfl
  . rw [z9j (decide_eq_false (by omega)), List.drop_of_length_le hge]
    rfl

theorem zvx {m : Nat} {a : List Bool} {now last : List Int} (h : Rel m a now) (hl : Ins m last) : (last.any fun i => a.getD i.toNat false) = now.any fun i => inL last i := by
  refine zr4 ?_
  rw [List.any_eq_true, List.any_eq_true]
  constructor
  . rintro ⟨x, hx, e⟩
    obtain ⟨j, rfl, hj⟩ := hl x hx
    rw [Int.toNat_natCast, h.same j hj] at e
    exact ⟨_, z8v.1 e, z8v.2 hx⟩
  . rintro ⟨x, hx, e⟩
    obtain ⟨j, rfl, hj⟩ := h.ins x hx
    refine ⟨_, z8v.1 e, ?_⟩
    rw [Int.toNat_natCast, h.same j hj]
    exact z8v.2 hx

theorem zt1 {sets nexts : List (List Int)} {m : Nat} : ∀ (s : List UInt8) (now : List Int), (zz9 sets nexts m now s).length <= max now.length m
  | [], now => Nat.le_max_left _ _
  | b :: s, now => by
    rw [zz9]
    have h1 := zt1 (sets := sets) (nexts := nexts) (m := m) s (zod sets b.toNat (zqi nexts m [] now))
    have h2 : (zod sets b.toNat (zqi nexts m [] now)).length <= (zqi nexts m [] now).length := List.length_filter_le _ _
    have h3 := (zk3 (nexts := nexts) (m := m) now [] (fun x hx => by cases hx)).2.2
    simp only [List.length_nil, Nat.zero_max] at h3
    omega

theorem zsd {m : Nat} : ∀ {l : List (List Int)}, zkn (m : Int) l = true -> ∀ x ∈ l, Ins m x
  | [], _, x, hx => by cases hx
  | y :: l, h, x, hx => by
    rw [zkn, Bool.and_eq_true] at h
    rcases List.mem_cons.1 hx with rfl | hx
    . exact znk h.1 (by omega)
    . exact zsd h.2 x hx

theorem zy4 {N : Nat} {p : SpT} {s : List UInt8} (hk : zuc N p) (hm : p.1.length <= 1000) (hs : ∀ x ∈ p.1, SetOk x) (hs1 : s.length < N) (hs2 : s.length <= 10000) (h64 : 64 < N) (hnL : p.1.length * 40 < N) (hB : ∀ x ∈ p.2.2.2.2.1, x.length <= 40) : ∃ b, z72 N p s = some b /\ z48 N p s = some b := by
  rw [z72, z48, zkd hk, zhv hk, Option.bind_some, Option.bind_some]
  cases ho : okF p with
  | false => exact ⟨_, rfl, rfl⟩
  | true =>
    rw [Bool.not_true, cond_false, cond_false]
    by_cases hz : s = []
    . subst hz; exact ⟨_, rfl, rfl⟩
    have hb : (s == ([] : List UInt8)) = false := beq_eq_false_iff_ne.2 hz
    have h0 : 0 < s.length := by
      cases s with
      | nil => exact absurd rfl hz
      | cons _ _ => simp
    rw [hb, cond_false, cond_false]
    obtain ⟨q1, q2, q3, q4, q5, q6, q7⟩ := hk
    have ho' := ho
    unfold okF at ho'
    simp only [Bool.and_eq_true, decide_eq_true_eq] at ho'
    obtain ⟨o1, o2, o3, o4, o5⟩ := ho'
    have h : SpR N p s := ⟨hm, q4, hs, o1, zsd o3, q7, znk o4 (by omega), q5, znk o5 (by omega), q6, hs1, hs2, h64, hnL, hB⟩
    have hrel := zv2 (sets := p.1) h.nextI (s.drop 1) (zsh (sets := p.1) (b := (s.getD 0 0).toNat) h.first h.first (fun _ _ => rfl))
    have hlen : (zod p.1 (s.getD 0 0).toNat p.2.2.1).length <= p.2.2.1.length := List.length_filter_le _ _
    have hdl := zt1 (sets := p.1) (nexts := p.2.2.2.2.1) (m := p.1.length) (s.drop 1) (zod p.1 (s.getD 0 0).toNat p.2.2.1)
    rw [z1m (show inR (0 : Int) s.length = true from z2k h0), zv5 N (s.getD 0 0).toNat_lt hm q5.1 (by omega) h.first hs, Option.bind_some, z9l (x := ((s.length : Nat) : Int) - 1) (by unfold I64; omega), zv7 h h0 (by rw [zhw]; simp), zyb h h0, zv8 h hrel.len, zyc h (by omega) (by omega), zvx hrel h.last]
    exact ⟨_, rfl, rfl⟩

end
end Go.Proofs.YtmeecjkimeiogaaDoorLg

set_option linter.all false
set_option maxRecDepth 100000
namespace Go.Lift
noncomputable section


def BSt (t : T) (w0 : World) (S0 : Hp) (ob0 : List Nat) (bf : Nat) (w : World) (x : t.den) (L : List (Nat × Array Value × Nat)) : Prop :=
 ∃ S o, WF w0 (fun k => k ∈ ob0) w /\ Sub S0 S /\ Sub S (hp w) /\ (∀ k, S k ≠ none -> S0 k ≠ none \/ k ∈ ob0 \/ w0.heap.size <= k) /\ ARel (hp w) S (fun _ => undef) (.box t x) (.pointer (some ⟨bf, 0, none⟩)) o /\ o.Nodup ∧
 (∀ k ∈ o, S k = none /\ (k ∈ ob0 \/ w0.heap.size <= k)) /\ ∀ p ∈ L, S p.1 = none /\ p.1 ∉ o /\ w0.heap.size <= p.1 /\ w.heap[p.1]? = some (.cells p.2.1 p.2.2 (0, 0))

variable {P : Program} {glob : Nat -> Option Dat} {t : T} {w0 w : World} {S0 : Hp} {ob0 : List Nat} {bf : Nat} {x : t.den} {L : List (Nat × Array Value × Nat)}

theorem BSt.lt (h : BSt t w0 S0 ob0 bf w x L) : ∀ p ∈ L, p.1 < w.heap.size := by
  obtain ⟨S, o, _, _, _, _, _, _, _, hL⟩ := h
  exact fun p hp => (Array.getElem?_eq_some_iff.1 (hL p hp).2.2.2).1

theorem BSt.drew (h : BSt t w0 S0 ob0 bf w x L) : BSt t w0 S0 ob0 bf w.drew x L := by
  obtain ⟨S, o, k1, k2⟩ := h
  exact ⟨S, o, ⟨k1.size, k1.same, k1.tape, k1.os, k1.output⟩, k2⟩

theorem BSt.plain {f : FuncId} {g : List A -> Res} (ct : Contract P glob f g) (hg : ∀ S, GlobOk glob S) (h : BSt t w0 S0 ob0 bf w x L) {args : List A} {vals : List Value}
    (hrel : ∀ S, Sub S (hp w) -> ArgsRel (hp w) S args vals (fun _ => [])) {y : (g args).X} (hy : (g args).val = some y) :
    Calls P f vals.toArray w fun e w' => ∃ v S' o', e = .returned v /\ ARel (hp w') S' (fun _ => undef) ((g args).out y).1 v o' /\ BSt t w0 S0 ob0 bf w' x L := by
  have h' := h
  obtain ⟨S, o, h1, h2, h3, h4, h5, h6, h7, hL⟩ := h'
  refine ((ct.2 w S args vals _ (hrel S h3) h3 (hg S) y hy)).mono ?_
  rintro e w' ⟨v, S', q, ob', rfl, hwf, hSS, hSw, hnew, ⟨hr, _⟩, _⟩
  refine ⟨v, S', q, rfl, hr, ?_⟩
  have hwf' : WF w (fun _ => False) w' := ⟨hwf.size, fun k hk _ => hwf.same k hk (by rintro ⟨i, hi⟩; cases hi), hwf.tape, hwf.os, hwf.output⟩
  have hlt : ∀ k ∈ o, k < w.heap.size := fun k hk => by
    obtain ⟨ob, hob⟩ := h5.obj k hk
    exact (Array.getElem?_eq_some_iff.1 hob.1).1
  have hnw : ∀ k, k < w.heap.size -> S' k ≠ none -> S k ≠ none := fun k hk hs => by
    rcases hnew k hs with h | ⟨i, hi⟩ | h
    . exact h
    . cases hi
    . omega
  refine ⟨S', o, h1.trans hwf' (fun _ h => h.elim), h2.trans hSS, hSw, fun k hk => ?_, ?_, h6, fun k hk => ⟨?_, (h7 k hk).2⟩, fun p hp => ?_⟩
  . rcases hnew k hk with h | ⟨i, hi⟩ | h
    . exact h4 k h
    . cases hi
    . exact .inr (.inr (Nat.le_trans h1.size h))
  . obtain ⟨b, cs, E, fr, bs, rfl, e1, e2, e3, e4⟩ := h5
    refine ⟨b, cs, E, fr, bs, rfl, e1, ?_, e3, e4.mono hSS _ _ _ _ (fun k hk => hwf'.same k (hlt k (by simp [hk])) (fun h => h))⟩
    have := hwf'.same b (hlt b (by simp)) (fun h => h)
    simp only [hp] at e2 ⊢
    rw [this]; exact e2
  . cases hs : S' k with
    | none => rfl
    | some q => exact absurd (h7 k hk).1 (hnw k (hlt k hk) (by rw [hs]; simp))
  . obtain ⟨p1, p2, p3, p4⟩ := hL p hp
    have hl := (Array.getElem?_eq_some_iff.1 p4).1
    refine ⟨?_, p2, p3, ?_⟩
    . cases hs : S' p.1 with
      | none => rfl
      | some q => exact absurd p1 (hnw _ hl (by rw [hs]; simp))
    . rw [hwf'.same p.1 hl (fun h => h)]; exact p4

theorem zym {S : Hp} {v : Value} {o : List Nat} {args : List A} {vals : List Value} (h5 : ARel (hp w) S (fun _ => undef) (.box t x) v o) (h6 : o.Nodup) (h7 : ∀ k ∈ o, S k = none) (hr0 : ArgsRel (hp w) S args vals (fun _ => [])) :
    ArgsRel (hp w) S (.box t x :: args) (v :: vals) (fun i => if i = 0 then o else []) := by
  refine ⟨by simp [hr0.len], fun i q hq => ?_, fun i hi => ?_, fun i j b hi hj => ?_, fun i => ?_, fun i b hb => ?_⟩
  . cases i with
    | zero =>
      simp at hq; subst hq
      exact ⟨⟨_, rfl, by simpa using h5⟩, rfl⟩
    | succ i =>
      obtain ⟨⟨v, hv, ha⟩, hrf⟩ := hr0.rel i q (by simpa using hq)
      exact ⟨⟨v, by simpa using hv, by simpa using ha⟩, hrf⟩
  . rw [if_neg (by intro e; subst e; simp at hi)]
  . by_cases hi0 : i = 0 <;> by_cases hj0 : j = 0 <;> simp_all
  . by_cases hi0 : i = 0 <;> simp [hi0, h6]
  . by_cases hi0 : i = 0
    . rw [if_pos hi0] at hb; exact h7 b hb
    . rw [if_neg hi0] at hb; cases hb

theorem BSt.alloc (h : BSt t w0 S0 ob0 bf w x L) (cs : Array Value) (E : Nat) : BSt t w0 S0 ob0 bf (w.alloc (.cells cs E)) x ((w.heap.size, cs, E) :: L) := by
  have hlt := h.lt
  obtain ⟨S, o, h1, h2, h3, h4, h5, h6, h7, hL⟩ := h
  have hh : (w.alloc (.cells cs E)).heap = w.heap.push (.cells cs E (0, 0)) := rfl
  have hk : ∀ k, k < w.heap.size -> (w.alloc (.cells cs E)).heap[k]? = w.heap[k]? := fun k hk => by
    rw [hh, Array.getElem?_push, if_neg (by omega)]
  have hol : ∀ k ∈ o, k < w.heap.size := fun k hk => by
    obtain ⟨ob, hob⟩ := h5.obj k hk
    exact (Array.getElem?_eq_some_iff.1 hob.1).1
  refine ⟨S, o, ⟨by rw [hh, Array.size_push]; have := h1.size; omega, fun k h1' h2' => by rw [hk k (by have := h1.size; omega)]; exact h1.same k h1' h2', h1.tape, h1.os, h1.output⟩, h2, fun k q ho => ?_, h4, ?_, h6, h7, fun p hpm => ?_⟩
  . have := h3 k q ho
    simp only [hp] at this ⊢
    rw [hk k (Array.getElem?_eq_some_iff.1 this).1]
    exact this
  . obtain ⟨b, c1, E', fr, bs, rfl, e1, e2, e3, e4⟩ := h5
    refine ⟨b, c1, E', fr, bs, rfl, e1, ?_, e3, e4.mono (Sub.refl _) _ _ _ _ (fun k hkm => hk k (hol k (by simp [hkm])))⟩
    simp only [hp] at e2 ⊢
    rw [hk b (hol b (by simp))]; exact e2
  . rcases List.mem_cons.1 hpm with rfl | hpm
    . refine ⟨?_, fun hm => absurd (hol _ hm) (by simp), h1.size, ?_⟩
      . cases hs : S w.heap.size with
        | none => rfl
        | some q =>
          have := h3 _ _ hs
          simp only [hp] at this
          have := (Array.getElem?_eq_some_iff.1 this).1
          omega
      . simp only
        rw [hh, Array.getElem?_push, if_pos rfl]
    . obtain ⟨p1, p2, p3, p4⟩ := hL p hpm
      exact ⟨p1, p2, p3, by rw [hk p.1 (hlt p hpm)]; exact p4⟩

theorem BSt.put {p : Nat} {cs : Array Value} {E : Nat} (h : BSt t w0 S0 ob0 bf w x ((p, cs, E) :: L)) (hd : ∀ q ∈ L, q.1 ≠ p) {w' : World} {cs' : Array Value} (hw : w' = z1h w p (.cells cs' E (0, 0))) : BSt t w0 S0 ob0 bf w' x ((p, cs', E) :: L) := by
  obtain ⟨S, o, h1, h2, h3, h4, h5, h6, h7, hL⟩ := h
  obtain ⟨q1, q2, q3, q4⟩ := hL (p, cs, E) (List.mem_cons_self ..)
  simp only at q1 q2 q3 q4
  have hne : ∀ k, k ≠ p -> w'.heap[k]? = w.heap[k]? := fun k hk => by
    have := zp (w := w) (o := .cells cs' E (0, 0)) hk
    rw [hw]; exact this
  have hsz : w'.heap.size = w.heap.size := by rw [hw]; simp [z1h]
  refine ⟨S, o, ⟨by rw [hsz]; exact h1.size, fun k h1' h2' => by rw [hne k (by omega)]; exact h1.same k h1' h2', by rw [hw]; exact h1.tape, by rw [hw]; exact h1.os, by rw [hw]; exact h1.output⟩, h2, fun k q ho => ?_, h4, ?_, h6, h7, fun u hu => ?_⟩
  . have hk : k ≠ p := fun e => by rw [e, q1] at ho; cases ho
    have := h3 k q ho
    simp only [hp] at this ⊢
    rw [hne k hk]
    exact this
  . obtain ⟨b, c1, E', fr, bs, rfl, e1, e2, e3, e4⟩ := h5
    refine ⟨b, c1, E', fr, bs, rfl, e1, ?_, e3, e4.mono (Sub.refl _) _ _ _ _ (fun k hkm => hne k (fun e => q2 (by simp [<- e, hkm])))⟩
    simp only [hp] at e2 ⊢
    rw [hne b (fun e => q2 (by simp [<- e]))]; exact e2
  . rcases List.mem_cons.1 hu with rfl | hu
    . refine ⟨q1, q2, q3, ?_⟩
      rw [hw]
      exact z2g q4
    . obtain ⟨p1, p2, p3, p4⟩ := hL u (List.mem_cons_of_mem _ hu)
      exact ⟨p1, p2, p3, by rw [hne u.1 (hd u hu)]; exact p4⟩

theorem BSt.setCell {p : Nat} {cs : Array Value} {E : Nat} (h : BSt t w0 S0 ob0 bf w x ((p, cs, E) :: L)) (hd : ∀ q ∈ L, q.1 ≠ p) (i : Nat) (v : Value) :
    BSt t w0 S0 ob0 bf (w.setCell ⟨p, i, none⟩ v) x ((p, cs.setIfInBounds i v, E) :: L) := by
  have hb : hp w p = some (.cells cs E (0, 0)) := by
    obtain ⟨S, o, _, _, _, _, _, _, _, hL⟩ := h
    exact (hL _ (List.mem_cons_self ..)).2.2.2
  exact h.put hd (zmj v hb)

end
end Go.Lift
