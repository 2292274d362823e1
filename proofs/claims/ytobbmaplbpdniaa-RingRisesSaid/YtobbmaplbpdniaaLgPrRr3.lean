import Derived.Test.YtobbmaplbpdniaaLgPrRr1
import Derived.Lib.MapLaws
import Derived.Test.YtobbmaplbpdniaaLgPrRr2
set_option linter.all false
namespace Go.Proofs.YtobbmaplbpdniaaPx
noncomputable section
open Go Go.Lift

theorem zwt (s : List UInt8) (i : Nat) : runeAt s i = Go.Lib.decodeN (s.length - i) (s.getD i 0).toNat (s.getD (i + 1) 0).toNat (s.getD (i + 2) 0).toNat (s.getD (i + 3) 0).toNat :=
  Go.Lib.decode_N ⟨⟨s⟩⟩ i

theorem zrq {s : List UInt8} {i : Nat} (h : (s.getD i 0).toNat < 128) : runeAt s i = ((s.getD i 0).toNat, 1) := by
  rw [zwt]
  exact Go.Lib.decodeN_ascii _ _ _ _ _ h

theorem ztd {s : List UInt8} {i : Nat} (hi : i < s.length) (h : 128 <= (s.getD i 0).toNat) :
    128 <= (runeAt s i).1 /\ 1 <= (runeAt s i).2 /\ i + (runeAt s i).2 <= s.length /\ ∀ j, i <= j -> j < i + (runeAt s i).2 -> 128 <= (s.getD j 0).toNat := by
  rw [zwt]
  rcases Go.Lib.decodeN_shape (s.length - i) (s.getD i 0).toNat (s.getD (i + 1) 0).toNat (s.getD (i + 2) 0).toNat (s.getD (i + 3) 0).toNat with ⟨h1, e⟩ | ⟨h1, h2, h3, h4, e⟩ | ⟨h1, h2, h3, h4, h5, h6, e⟩ | ⟨h1, h2, h3, h4, h5, h6, h7, e⟩ | e
  . omega
  . rw [e]
    refine ⟨h4, by omega, by dsimp only; omega, fun j hj hj2 => ?_⟩
    dsimp only at hj2
    obtain rfl | rfl : j = i \/ j = i + 1 := by omega
    . exact h
    . omega
  . rw [e]
    refine ⟨by dsimp only; omega, by omega, by dsimp only; omega, fun j hj hj2 => ?_⟩
    dsimp only at hj2
    obtain rfl | rfl | rfl : j = i \/ j = i + 1 \/ j = i + 2 := by omega
    . exact h
    . omega
    . omega
  . rw [e]
    refine ⟨by dsimp only; omega, by omega, by dsimp only; omega, fun j hj hj2 => ?_⟩
    dsimp only at hj2
    obtain rfl | rfl | rfl | rfl : j = i \/ j = i + 1 \/ j = i + 2 \/ j = i + 3 := by omega
    . exact h
    . omega
    . omega
    . omega
  . rw [e]
    refine ⟨by omega, by omega, by dsimp only; omega, fun j hj hj2 => ?_⟩
    dsimp only at hj2
    obtain rfl : j = i := by omega
    exact h

end
end Go.Proofs.YtobbmaplbpdniaaPx

set_option linter.all false
namespace Go.Proofs.YtobbmaplbpdniaaPx
noncomputable section
open Go Go.Lift

def zxa (c : Nat) (first : Bool) : Bool := decide (97 <= c /\ c <= 122) || (decide ((48 <= c /\ c <= 57) \/ c = 45) && !first)

theorem zn5 {c : Nat} (h : 128 <= c) (f : Bool) : zxa c f = false := by
  simp only [zxa, Bool.or_eq_false_iff, decide_eq_false_iff_not, Bool.and_eq_false_iff]
  exact ⟨by omega, .inl (by omega)⟩
def allS (p : Nat -> Bool -> Bool) : List UInt8 -> Bool -> Bool
  | [], _ => true
  | u :: r, f => p u.toNat f && allS p r false

def zcp (s : List UInt8) : Bool := decide (1 <= s.length /\ s.length <= 32) && allS zxa s true


end
end Go.Proofs.YtobbmaplbpdniaaPx

set_option linter.all false
set_option maxRecDepth 100000
namespace Go.Proofs.YtobbmaplbpdniaaLg
noncomputable section
open Go Go.Lift Go.Proofs.YtobbmaplbpdniaaPx

theorem zov (N : Nat) (c : Nat) (f : Bool) : z5j N (c : Int) f = some (zxa c f) := by
  simp only [z5j, z6c, zcl, zxa, Bool.cond_eq_ite, decide_eq_true_eq, beq_iff_eq]
  have key : (if (48 : Int) <= c then some (decide ((c : Int) <= 57)) else some false) = some (decide (48 <= c /\ c <= 57)) := by
    split
    . congr 1; rw [Bool.eq_iff_iff, decide_eq_true_eq, decide_eq_true_eq]; omega
    . congr 1; rw [Bool.eq_iff_iff, decide_eq_true_eq]; simp; omega
  rw [key]
  simp only [Option.bind_some, decide_eq_true_eq, Bool.false_eq_true, if_false]
  by_cases h1 : 97 <= c /\ c <= 122
  . rw [if_pos (by omega), if_pos (by omega)]; simp [h1]
  have hx : ∀ X Y : Option Bool, (if (97 : Int) <= c then if (c : Int) <= 122 then Y else X else X) = X := by
    intro X Y
    repeat' split
    all_goals first
      | rfl
      | omega
  rw [hx, decide_eq_false h1, Bool.false_or]
  by_cases h4 : 48 <= c /\ c <= 57
  . rw [if_pos h4, decide_eq_true (p := (48 <= c /\ c <= 57) \/ c = 45) (.inl h4), Bool.true_and]
  . rw [if_neg h4]
    by_cases h5 : c = 45
    . subst h5; simp
    . rw [if_neg (by omega), decide_eq_false (by omega), Bool.false_and]

theorem zwa (i : Nat) : ((((i : Nat) : Int)) == 0) = decide (i = 0) := by
  rw [Bool.eq_iff_iff, beq_iff_eq, decide_eq_true_eq]; omega

theorem zst (N : Nat) {s : List UInt8} (hN : 40 < N) : z5k N s = some (zcp s) := by
  simp only [z5k, z6f, z6e, zcp]
  by_cases h0 : s = []
  . subst h0; rfl
  have hl : s.length ≠ 0 := fun e => h0 (List.length_eq_zero_iff.1 e)
  rw [z3c (by simpa using h0)]
  by_cases h1 : 32 < s.length
  . rw [z3b (zjr (by omega)), decide_eq_false (by omega)]; rfl
  rw [z3c (ze4 (by omega)), decide_eq_true (p := 1 <= s.length /\ s.length <= 32) (by omega), Bool.true_and]
  simp only [zav]
  rw [z8k (I := fun (v : List UInt8 × Nat) => v.1 = s /\ v.2 <= s.length) (m := fun (v : List UInt8 × Nat) => s.length - v.2) (R := fun (v : List UInt8 × Nat) => some (allS zxa (s.drop v.2) (decide (v.2 = 0)))) ?_ N (s, 0) ⟨rfl, Nat.zero_le _⟩ (by dsimp only; omega)]
  . simp
  rintro ⟨s', i⟩ r ⟨rfl, hi⟩ hr
  dsimp only at *
  simp only [z6d, zwa]
  by_cases hlt : i < s'.length
  . rw [z3b (zjr hlt), zov, Option.bind_some, zfa s' 0 i hlt]
    simp only [allS]
    by_cases h128 : (s'.getD i 0).toNat < 128
    . rw [zrq h128]
      dsimp only
      cases hp : zxa (s'.getD i 0).toNat (decide (i = 0)) with
      | false => rfl
      | true =>
        rw [Bool.not_true, cond_false, hr _ ⟨rfl, by dsimp only; omega⟩ (by dsimp only; omega)]
        dsimp only
        rw [decide_eq_false (by omega), Bool.true_and]
    . obtain ⟨g1, _⟩ := ztd hlt (by omega)
      rw [zn5 g1, zn5 (by omega)]; rfl
  . rw [z3c (ze4 hlt), zjp s' (by omega)]; rfl

theorem zsx (N : Nat) {s : List UInt8} (hN : 40 < N) : z9g N s = some (zcp s) := by
  simp only [z9g, zst N hN, Option.bind_some]


end
end Go.Proofs.YtobbmaplbpdniaaLg

set_option linter.all false
set_option maxRecDepth 100000
namespace Go.Proofs.YtobbmaplbpdniaaLg
noncomputable section
open Go Go.Lift Go.Proofs.YtobbmaplbpdniaaPx

abbrev zn2 := List zh9 × (Int × Unit)

def ze6 (x low : Int) : Bool := decide (low <= x) && decide (x <= 1099511627776)

theorem z7t (N : Nat) (n low : Int) : z27 N n low = some (ze6 n low) := by
  rw [z27, ze6]
  by_cases h : low <= n
  . first
      | rw [z3b (decide_eq_true h), decide_eq_true h, Bool.true_and]
      | (rw [z3c (decide_eq_false (by omega)), decide_eq_true h, Bool.true_and])
  . first
      | rw [z3c (decide_eq_false h), decide_eq_false h, Bool.false_and]
      | (rw [z3b (decide_eq_true (by omega)), decide_eq_false h, Bool.false_and])

def zow (t : zh9) : Bool := zcp t.1 && (ze6 t.2.1 0 && (ze6 t.2.2.1 1 && (decide (t.2.2.2.1.length <= 8) && zai t.2.2.1 0 t.2.2.2.1)))

theorem zkj (N : Nat) (hN : 40 < N) (t : zh9) : z26 N t = some (zow t) := by
  rw [z26, z44, z43, zsx N hN, Option.bind_some, zow]
  cases zcp t.1 with
  | false => rfl
  | true =>
    rw [Bool.not_true, cond_false, z7t, Option.bind_some, Bool.true_and]
    cases ze6 t.2.1 0 with
    | false => rfl
    | true =>
      rw [Bool.not_true, cond_false, z7t, Option.bind_some, Bool.true_and]
      cases ze6 t.2.2.1 1 with
      | false => rfl
      | true =>
        rw [Bool.not_true, cond_false, Bool.true_and]
        by_cases h : t.2.2.2.1.length <= 8
        . rw [decide_eq_false (show ¬ (8 : Int) < ((t.2.2.2.1.length : Nat) : Int) by omega), cond_false, decide_eq_true h, Bool.true_and]
          exact zuf N (by omega) (by omega)
        . rw [decide_eq_true (show (8 : Int) < ((t.2.2.2.1.length : Nat) : Int) by omega), cond_true, decide_eq_false h, Bool.false_and]

def upL : Option (List UInt8) -> List UInt8 -> Bool
  | none, _ => true
  | some p, t => !(Go.Op.bytesLess t p || (t == p))

def z71 : Option (List UInt8) -> List zh9 -> Bool
  | _, [] => true
  | p, t :: l => upL p t.1 && (zow t && z71 (some t.1) l)

def zb6 : zh9 := (([] : List UInt8), ((0 : Int), ((0 : Int), (([] : List (Int × ((List UInt8) × Unit))), ()))))

def zxs (l : List zh9) (i : Nat) : Option (List UInt8) := if i = 0 then none else some (l.getD (i - 1) zb6).1

theorem zt1 (N : Nat) (hN : 40 < N) {s : zn2} (hl : s.1.length <= 30) :
    z9w N s s.1 ((s.1.length : Nat) : Int) 0 (fun x21 => some x21) (some true) = some (z71 none s.1) := by
  rw [z9w]
  refine (z8k (fun v => ∃ (i : Nat), v = (i : Int) /\ i <= s.1.length) (fun v => s.1.length - v.toNat) (fun v => some (z71 (zxs s.1 v.toNat) (s.1.drop v.toNat))) ?_ N 0 ⟨0, rfl, by omega⟩ (by omega)).trans (by rfl)
  rintro v r ⟨i, rfl, hi⟩ hr
  simp only [Int.toNat_natCast]
  rw [z9u]
  by_cases hlt : i < s.1.length
  . have hrec : r (((i + 1 : Nat) : Int)) = some (z71 (some (s.1.getD i zb6).1) (s.1.drop (i + 1))) := by
      rw [hr _ ⟨i + 1, rfl, by omega⟩ (by omega), Int.toNat_natCast]
      rfl
    rw [z3b (decide_eq_true (by omega)), z3b (z7m hlt), z9v, Int.toNat_natCast, zfa s.1 zb6 i hlt, z71]
    rw [show (([] : List UInt8), ((0 : Int), ((0 : Int), (([] : List (Int × ((List UInt8) × Unit))), ())))) = zb6 from rfl, zkj N hN, Option.bind_some, z62 (by omega), hrec]
    have hend : (cond (!zow (s.1.getD i zb6)) (some false) (some (z71 (some (s.1.getD i zb6).1) (s.1.drop (i + 1))))) = some (zow (s.1.getD i zb6) && z71 (some (s.1.getD i zb6).1) (s.1.drop (i + 1))) := by
      cases zow (s.1.getD i zb6) <;> rfl
    by_cases h0 : i = 0
    . rw [z3c (decide_eq_false (by omega)), zxs, if_pos h0, upL, Bool.true_and]
      exact hend
    . rw [z3b (decide_eq_true (by omega)), zsw (x := ((i : Nat) : Int) - 1) (by unfold I64; omega), show ((i : Nat) : Int) - 1 = ((i - 1 : Nat) : Int) by omega, z3b (z7m (by omega)), Int.toNat_natCast, zxs, if_neg h0, upL]
      cases (Go.Op.bytesLess (s.1.getD i zb6).1 (s.1.getD (i - 1) zb6).1 || (s.1.getD i zb6).1 == (s.1.getD (i - 1) zb6).1) with
      | true => rfl
      | false =>
        rw [cond_false, Bool.not_false, Bool.true_and]
        exact hend
  . rw [z3c (decide_eq_false (by omega)), zjp _ (by omega), z71]

def z8u (s : zn2) : Bool := decide (s.1.length <= 16) && (ze6 s.2.1 0 && z71 none s.1)

theorem zmh (N : Nat) (hN : 40 < N) (s : zn2) : z37 N s = some (z8u s) := by
  rw [z37, z9y, z9x, z8u]
  by_cases h : s.1.length <= 16
  . rw [z3c (decide_eq_false (by omega)), z7t, Option.bind_some, decide_eq_true h, Bool.true_and]
    cases ze6 s.2.1 0 with
    | false => rfl
    | true =>
      rw [Bool.not_true, cond_false, Bool.true_and]
      exact zt1 N hN (by omega)
  . rw [z3b (decide_eq_true (by omega)), cond_true, decide_eq_false h, Bool.false_and]

end
end Go.Proofs.YtobbmaplbpdniaaLg

set_option linter.all false
namespace Go.Proofs.YtobbmaplbpdniaaPx
noncomputable section
open Go Go.Lift

def zhn : List UInt8 -> List UInt8 -> Int
  | [], [] => 0
  | [], _ :: _ => -1
  | _ :: _, [] => 1
  | x :: xs, y :: ys => if x < y then -1 else if y < x then 1 else zhn xs ys

theorem zoj : ∀ a : List UInt8, zhn a a = 0
  | [] => rfl
  | x :: xs => by simp [zhn, zoj xs]


end
end Go.Proofs.YtobbmaplbpdniaaPx

set_option linter.all false
set_option maxRecDepth 100000
namespace Go.Proofs.YtobbmaplbpdniaaLg
noncomputable section
open Go Go.Lift Go.Proofs.YtobbmaplbpdniaaPx

theorem zx3 : ∀ p t : List UInt8, decide (0 <= zhn p t) = (Go.Op.bytesLess t p || (t == p))
  | [], [] => rfl
  | [], _ :: _ => rfl
  | _ :: _, [] => rfl
  | x :: xs, y :: ys => by
    rw [zhn, Go.Op.bytesLess, List.cons_beq_cons]
    by_cases h1 : x < y
    . have h2 : ¬ y < x := by rw [UInt8.lt_iff_toNat_lt] at h1 ⊢; omega
      have h3 : (y == x) = false := by
        rw [beq_eq_false_iff_ne]
        intro e; rw [e, UInt8.lt_iff_toNat_lt] at h1; omega
      rw [if_pos h1, decide_eq_false h2, h3]; rfl
    . by_cases h2 : y < x
      . rw [if_neg h1, if_pos h2, decide_eq_true h2]; rfl
      . have e : x = y := by
          rw [UInt8.lt_iff_toNat_lt] at h1 h2
          exact UInt8.toNat_inj.1 (by omega)
        subst e
        rw [if_neg h1, if_neg h1, zx3 xs ys, decide_eq_false h1, beq_self_eq_true, Bool.false_or, Bool.true_and, Bool.true_and]

end
end Go.Proofs.YtobbmaplbpdniaaLg
