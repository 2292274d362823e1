import Derived.Test.YtlohplpnhopldaaLgPrPd1
import Derived.Lib.MapLaws
import Derived.Test.YtlohplpnhopldaaLgPrPd2
set_option linter.all false
namespace Go.Proofs.YtlohplpnhopldaaPx
noncomputable section
open Go Go.Lift

theorem z111 (s : List UInt8) (i : Nat) : runeAt s i = Go.Lib.decodeN (s.length - i) (s.getD i 0).toNat (s.getD (i + 1) 0).toNat (s.getD (i + 2) 0).toNat (s.getD (i + 3) 0).toNat :=
  Go.Lib.decode_N ⟨⟨s⟩⟩ i

theorem zvr {s : List UInt8} {i : Nat} (h : (s.getD i 0).toNat < 128) : runeAt s i = ((s.getD i 0).toNat, 1) := by
  rw [z111]
  exact Go.Lib.decodeN_ascii _ _ _ _ _ h

theorem zxb {s : List UInt8} {i : Nat} (hi : i < s.length) (h : 128 <= (s.getD i 0).toNat) :
    128 <= (runeAt s i).1 /\ 1 <= (runeAt s i).2 /\ i + (runeAt s i).2 <= s.length /\ ∀ j, i <= j -> j < i + (runeAt s i).2 -> 128 <= (s.getD j 0).toNat := by
  rw [z111]
  rcases Go.Lib.decodeN_shape (s.length - i) (s.getD i 0).toNat (s.getD (i + 1) 0).toNat (s.getD (i + 2) 0).toNat (s.getD (i + 3) 0).toNat with ⟨h1, e⟩ | ⟨h1, h2, h3, h4, e⟩ | ⟨h1, h2, h3, h4, h5, h6, e⟩ | ⟨h1, h2, h3, h4, h5, h6, h7, e⟩ | e
  . omega
  . rw [e]
    refine ⟨h4, by omega, by dsimp only; omega, fun j hj hj2 => ?_⟩
    dsimp only at hj2
    obtain rfl | rfl : j = i \/ j = i + 1 := by omega
    . exact h
    . omega
  . rw [e]
    refine ⟨by dsimp only; omega, by omega, by dsimp only; omega, fun j hj hj2 => ?_⟩
    dsimp only at hj2
    obtain rfl | rfl | rfl : j = i \/ j = i + 1 \/ j = i + 2 := by omega
    . exact h
    . omega
    . omega
  . rw [e]
    refine ⟨by dsimp only; omega, by omega, by dsimp only; omega, fun j hj hj2 => ?_⟩
    dsimp only at hj2
    obtain rfl | rfl | rfl | rfl : j = i \/ j = i + 1 \/ j = i + 2 \/ j = i + 3 := by omega
    . exact h
    . omega
    . omega
    . omega
  . rw [e]
    refine ⟨by omega, by omega, by dsimp only; omega, fun j hj hj2 => ?_⟩
    dsimp only at hj2
    obtain rfl : j = i := by omega
    exact h

end
end Go.Proofs.YtlohplpnhopldaaPx

set_option linter.all false
namespace Go.Proofs.YtlohplpnhopldaaPx
noncomputable section
open Go Go.Lift

def z11k (c : Nat) (first : Bool) : Bool := decide (97 <= c /\ c <= 122) || (decide ((48 <= c /\ c <= 57) \/ c = 45) && !first)

theorem zqx {c : Nat} (h : 128 <= c) (f : Bool) : z11k c f = false := by
  simp only [z11k, Bool.or_eq_false_iff, decide_eq_false_iff_not, Bool.and_eq_false_iff]
  exact ⟨by omega, .inl (by omega)⟩
def allS (p : Nat -> Bool -> Bool) : List UInt8 -> Bool -> Bool
  | [], _ => true
  | u :: r, f => p u.toNat f && allS p r false

def z52 (s : List UInt8) : Bool := decide (1 <= s.length /\ s.length <= 32) && allS z11k s true


end
end Go.Proofs.YtlohplpnhopldaaPx

set_option linter.all false
set_option maxRecDepth 100000
namespace Go.Proofs.YtlohplpnhopldaaLg
noncomputable section
open Go Go.Lift Go.Proofs.YtlohplpnhopldaaPx

theorem zst (N : Nat) (c : Nat) (f : Bool) : z5v N (c : Int) f = some (z11k c f) := by
  simp only [z5v, z6y, ze1, z11k, Bool.cond_eq_ite, decide_eq_true_eq, beq_iff_eq]
  have key : (if (48 : Int) <= c then some (decide ((c : Int) <= 57)) else some false) = some (decide (48 <= c /\ c <= 57)) := by
    split
    . congr 1; rw [Bool.eq_iff_iff, decide_eq_true_eq, decide_eq_true_eq]; omega
    . congr 1; rw [Bool.eq_iff_iff, decide_eq_true_eq]; simp; omega
  rw [key]
  simp only [Option.bind_some, decide_eq_true_eq, Bool.false_eq_true, if_false]
  by_cases h1 : 97 <= c /\ c <= 122
  . rw [if_pos (by omega), if_pos (by omega)]; simp [h1]
  have hx : ∀ X Y : Option Bool, (if (97 : Int) <= c then if (c : Int) <= 122 then Y else X else X) = X := by
    intro X Y
    repeat' split
    all_goals first
      | rfl
      | omega
  rw [hx, decide_eq_false h1, Bool.false_or]
  by_cases h4 : 48 <= c /\ c <= 57
  . rw [if_pos h4, decide_eq_true (p := (48 <= c /\ c <= 57) \/ c = 45) (.inl h4), Bool.true_and]
  . rw [if_neg h4]
    by_cases h5 : c = 45
    . subst h5; simp
    . rw [if_neg (by omega), decide_eq_false (by omega), Bool.false_and]

theorem z10h (i : Nat) : ((((i : Nat) : Int)) == 0) = decide (i = 0) := by
  rw [Bool.eq_iff_iff, beq_iff_eq, decide_eq_true_eq]; omega

theorem zwv (N : Nat) {s : List UInt8} (hN : 40 < N) : z5w N s = some (z52 s) := by
  simp only [z5w, z71, z70, z52]
  by_cases h0 : s = []
  . subst h0; rfl
  have hl : s.length ≠ 0 := fun e => h0 (List.length_eq_zero_iff.1 e)
  rw [z1d (by simpa using h0)]
  by_cases h1 : 32 < s.length
  . rw [z1f (zek (by omega)), decide_eq_false (by omega)]; rfl
  rw [z1d (zcc (by omega)), decide_eq_true (p := 1 <= s.length /\ s.length <= 32) (by omega), Bool.true_and]
  simp only [zby]
  rw [zbl (I := fun (v : List UInt8 × Nat) => v.1 = s /\ v.2 <= s.length) (m := fun (v : List UInt8 × Nat) => s.length - v.2) (R := fun (v : List UInt8 × Nat) => some (allS z11k (s.drop v.2) (decide (v.2 = 0)))) ?_ N (s, 0) ⟨rfl, Nat.zero_le _⟩ (by dsimp only; omega)]
  . simp
  rintro ⟨s', i⟩ r ⟨rfl, hi⟩ hr
  dsimp only at *
  simp only [z6z, z10h]
  by_cases hlt : i < s'.length
  . rw [z1f (zek hlt), zst, Option.bind_some, zdm s' 0 i hlt]
    simp only [allS]
    by_cases h128 : (s'.getD i 0).toNat < 128
    . rw [zvr h128]
      dsimp only
      cases hp : z11k (s'.getD i 0).toNat (decide (i = 0)) with
      | false => rfl
      | true =>
        rw [Bool.not_true, cond_false, hr _ ⟨rfl, by dsimp only; omega⟩ (by dsimp only; omega)]
        dsimp only
        rw [decide_eq_false (by omega), Bool.true_and]
    . obtain ⟨g1, _⟩ := zxb hlt (by omega)
      rw [zqx g1, zqx (by omega)]; rfl
  . rw [z1d (zcc hlt), zn1 s' (by omega)]; rfl

theorem zsr (N : Nat) {s : List UInt8} (hN : 40 < N) : z6p N s = some (z52 s) := by
  simp only [z6p, zwv N hN, Option.bind_some]


end
end Go.Proofs.YtlohplpnhopldaaLg

set_option linter.all false
set_option maxRecDepth 100000
namespace Go.Proofs.YtlohplpnhopldaaLg
noncomputable section
open Go Go.Lift Go.Proofs.YtlohplpnhopldaaPx

abbrev z62 := List z8j × (Int × Unit)

def z9i (x low : Int) : Bool := decide (low <= x) && decide (x <= 1099511627776)

theorem z8k (N : Nat) (n low : Int) : z2j N n low = some (z9i n low) := by
  rw [z2j, z9i]
  by_cases h : low <= n
  . first
      | rw [z1f (decide_eq_true h), decide_eq_true h, Bool.true_and]
      | (rw [z1d (decide_eq_false (by omega)), decide_eq_true h, Bool.true_and])
  . first
      | rw [z1d (decide_eq_false h), decide_eq_false h, Bool.false_and]
      | (rw [z1f (decide_eq_true (by omega)), decide_eq_false h, Bool.false_and])

def zso (t : z8j) : Bool := z52 t.1 && (z9i t.2.1 0 && (z9i t.2.2.1 1 && (decide (t.2.2.2.1.length <= 8) && z9e t.2.2.1 0 t.2.2.2.1)))

theorem zns (N : Nat) (hN : 40 < N) (t : z8j) : z2h N t = some (zso t) := by
  rw [z2h, z4h, z4g, zsr N hN, Option.bind_some, zso]
  cases z52 t.1 with
  | false => rfl
  | true =>
    rw [Bool.not_true, cond_false, z8k, Option.bind_some, Bool.true_and]
    cases z9i t.2.1 0 with
    | false => rfl
    | true =>
      rw [Bool.not_true, cond_false, z8k, Option.bind_some, Bool.true_and]
      cases z9i t.2.2.1 1 with
      | false => rfl
      | true =>
        rw [Bool.not_true, cond_false, Bool.true_and]
        by_cases h : t.2.2.2.1.length <= 8
        . rw [decide_eq_false (show ¬ (8 : Int) < ((t.2.2.2.1.length : Nat) : Int) by omega), cond_false, decide_eq_true h, Bool.true_and]
          exact zye N (by omega) (by omega)
        . rw [decide_eq_true (show (8 : Int) < ((t.2.2.2.1.length : Nat) : Int) by omega), cond_true, decide_eq_false h, Bool.false_and]

def upL : Option (List UInt8) -> List UInt8 -> Bool
  | none, _ => true
  | some p, t => !(Go.Op.bytesLess t p || (t == p))

def z7r : Option (List UInt8) -> List z8j -> Bool
  | _, [] => true
  | p, t :: l => upL p t.1 && (zso t && z7r (some t.1) l)

def zah : z8j := (([] : List UInt8), ((0 : Int), ((0 : Int), (([] : List (Int × ((List UInt8) × Unit))), ()))))

def z124 (l : List z8j) (i : Nat) : Option (List UInt8) := if i = 0 then none else some (l.getD (i - 1) zah).1

theorem zx1 (N : Nat) (hN : 40 < N) {s : z62} (hl : s.1.length <= 30) :
    zar N s s.1 ((s.1.length : Nat) : Int) 0 (fun x21 => some x21) (some true) = some (z7r none s.1) := by
  rw [zar]
  refine (zbl (fun v => ∃ (i : Nat), v = (i : Int) /\ i <= s.1.length) (fun v => s.1.length - v.toNat) (fun v => some (z7r (z124 s.1 v.toNat) (s.1.drop v.toNat))) ?_ N 0 ⟨0, rfl, by omega⟩ (by omega)).trans (by rfl)
  rintro v r ⟨i, rfl, hi⟩ hr
  simp only [Int.toNat_natCast]
  rw [zap]
  by_cases hlt : i < s.1.length
  . have hrec : r (((i + 1 : Nat) : Int)) = some (z7r (some (s.1.getD i zah).1) (s.1.drop (i + 1))) := by
      rw [hr _ ⟨i + 1, rfl, by omega⟩ (by omega), Int.toNat_natCast]
      rfl
    rw [z1f (decide_eq_true (by omega)), z1f (z5y hlt), zaq, Int.toNat_natCast, zdm s.1 zah i hlt, z7r]
    rw [show (([] : List UInt8), ((0 : Int), ((0 : Int), (([] : List (Int × ((List UInt8) × Unit))), ())))) = zah from rfl, zns N hN, Option.bind_some, z9j (by omega), hrec]
    have hend : (cond (!zso (s.1.getD i zah)) (some false) (some (z7r (some (s.1.getD i zah).1) (s.1.drop (i + 1))))) = some (zso (s.1.getD i zah) && z7r (some (s.1.getD i zah).1) (s.1.drop (i + 1))) := by
      cases zso (s.1.getD i zah) <;> rfl
    by_cases h0 : i = 0
    . rw [z1d (decide_eq_false (by omega)), z124, if_pos h0, upL, Bool.true_and]
      exact hend
    . rw [z1f (decide_eq_true (by omega)), z6v (x := ((i : Nat) : Int) - 1) (by unfold I64; omega), show ((i : Nat) : Int) - 1 = ((i - 1 : Nat) : Int) by omega, z1f (z5y (by omega)), Int.toNat_natCast, z124, if_neg h0, upL]
      cases (Go.Op.bytesLess (s.1.getD i zah).1 (s.1.getD (i - 1) zah).1 || (s.1.getD i zah).1 == (s.1.getD (i - 1) zah).1) with
      | true => rfl
      | false =>
        rw [cond_false, Bool.not_false, Bool.true_and]
        exact hend
  . rw [z1d (decide_eq_false (by omega)), zn1 _ (by omega), z7r]

def z29 (s : z62) : Bool := decide (s.1.length <= 16) && (z9i s.2.1 0 && z7r none s.1)

theorem zkq (N : Nat) (hN : 40 < N) (s : z62) : z3h N s = some (z29 s) := by
  rw [z3h, zat, zas, z29]
  by_cases h : s.1.length <= 16
  . rw [z1d (decide_eq_false (by omega)), z8k, Option.bind_some, decide_eq_true h, Bool.true_and]
    cases z9i s.2.1 0 with
    | false => rfl
    | true =>
      rw [Bool.not_true, cond_false, Bool.true_and]
      exact zx1 N hN (by omega)
  . rw [z1f (decide_eq_true (by omega)), cond_true, decide_eq_false h, Bool.false_and]

end
end Go.Proofs.YtlohplpnhopldaaLg

set_option linter.all false
namespace Go.Proofs.YtlohplpnhopldaaPx
noncomputable section
open Go Go.Lift

def zkm : List UInt8 -> List UInt8 -> Int
  | [], [] => 0
  | [], _ :: _ => -1
  | _ :: _, [] => 1
  | x :: xs, y :: ys => if x < y then -1 else if y < x then 1 else zkm xs ys

theorem zsf : ∀ a : List UInt8, zkm a a = 0
  | [] => rfl
  | x :: xs => by simp [zkm, zsf xs]


end
end Go.Proofs.YtlohplpnhopldaaPx

set_option linter.all false
set_option maxRecDepth 100000
namespace Go.Proofs.YtlohplpnhopldaaLg
noncomputable section
open Go Go.Lift Go.Proofs.YtlohplpnhopldaaPx

theorem z11d : ∀ p t : List UInt8, decide (0 <= zkm p t) = (Go.Op.bytesLess t p || (t == p))
  | [], [] => rfl
  | [], _ :: _ => rfl
  | _ :: _, [] => rfl
  | x :: xs, y :: ys => by
    rw [zkm, Go.Op.bytesLess, List.cons_beq_cons]
    by_cases h1 : x < y
    . have h2 : ¬ y < x := by rw [UInt8.lt_iff_toNat_lt] at h1 ⊢; omega
      have h3 : (y == x) = false := by
        rw [beq_eq_false_iff_ne]
        intro e; rw [e, UInt8.lt_iff_toNat_lt] at h1; omega
      rw [if_pos h1, decide_eq_false h2, h3]; rfl
    . by_cases h2 : y < x
      . rw [if_neg h1, if_pos h2, decide_eq_true h2]; rfl
      . have e : x = y := by
          rw [UInt8.lt_iff_toNat_lt] at h1 h2
          exact UInt8.toNat_inj.1 (by omega)
        subst e
        rw [if_neg h1, if_neg h1, z11d xs ys, decide_eq_false h1, beq_self_eq_true, Bool.false_or, Bool.true_and, Bool.true_and]

def zve : zhp := ((0 : Int), (([] : List UInt8), ()))

end
end Go.Proofs.YtlohplpnhopldaaLg
