import Derived.Test.YtobbmaplbpdniaaLgPrRp1
import Derived.Lib.MapLaws
import Derived.Test.YtobbmaplbpdniaaLgPrRp2
import Derived.Test.YtobbmaplbpdniaaLgPrRp3
set_option linter.all false
namespace Go.Proofs.YtobbmaplbpdniaaPx
noncomputable section
open Go Go.Lift

theorem z15g (s : List UInt8) (i : Nat) : runeAt s i = Go.Lib.decodeN (s.length - i) (s.getD i 0).toNat (s.getD (i + 1) 0).toNat (s.getD (i + 2) 0).toNat (s.getD (i + 3) 0).toNat :=
  Go.Lib.decode_N ⟨⟨s⟩⟩ i

theorem z105 {s : List UInt8} {i : Nat} (h : (s.getD i 0).toNat < 128) : runeAt s i = ((s.getD i 0).toNat, 1) := by
  rw [z15g]
  exact Go.Lib.decodeN_ascii _ _ _ _ _ h

theorem z11v {s : List UInt8} {i : Nat} (hi : i < s.length) (h : 128 <= (s.getD i 0).toNat) :
    128 <= (runeAt s i).1 /\ 1 <= (runeAt s i).2 /\ i + (runeAt s i).2 <= s.length /\ ∀ j, i <= j -> j < i + (runeAt s i).2 -> 128 <= (s.getD j 0).toNat := by
  rw [z15g]
  rcases Go.Lib.decodeN_shape (s.length - i) (s.getD i 0).toNat (s.getD (i + 1) 0).toNat (s.getD (i + 2) 0).toNat (s.getD (i + 3) 0).toNat with ⟨h1, e⟩ | ⟨h1, h2, h3, h4, e⟩ | ⟨h1, h2, h3, h4, h5, h6, e⟩ | ⟨h1, h2, h3, h4, h5, h6, h7, e⟩ | e
  . omega
  . rw [e]
    refine ⟨h4, by omega, by dsimp only; omega, fun j hj hj2 => ?_⟩
    dsimp only at hj2
    obtain rfl | rfl : j = i \/ j = i + 1 := by omega
    . exact h
    . omega
  . rw [e]
    refine ⟨by dsimp only; omega, by omega, by dsimp only; omega, fun j hj hj2 => ?_⟩
    dsimp only at hj2
    obtain rfl | rfl | rfl : j = i \/ j = i + 1 \/ j = i + 2 := by omega
    . exact h
    . omega
    . omega
  . rw [e]
    refine ⟨by dsimp only; omega, by omega, by dsimp only; omega, fun j hj hj2 => ?_⟩
    dsimp only at hj2
    obtain rfl | rfl | rfl | rfl : j = i \/ j = i + 1 \/ j = i + 2 \/ j = i + 3 := by omega
    . exact h
    . omega
    . omega
    . omega
  . rw [e]
    refine ⟨by omega, by omega, by dsimp only; omega, fun j hj hj2 => ?_⟩
    dsimp only at hj2
    obtain rfl : j = i := by omega
    exact h

end
end Go.Proofs.YtobbmaplbpdniaaPx

set_option linter.all false
namespace Go.Proofs.YtobbmaplbpdniaaPx
noncomputable section
open Go Go.Lift

def z13x (c : Nat) (first : Bool) : Bool := decide (97 <= c /\ c <= 122) || (decide ((48 <= c /\ c <= 57) \/ c = 45) && !first)

theorem zv9 {c : Nat} (h : 128 <= c) (f : Bool) : z13x c f = false := by
  simp only [z13x, Bool.or_eq_false_iff, decide_eq_false_iff_not, Bool.and_eq_false_iff]
  exact ⟨by omega, .inl (by omega)⟩
def z16s (p : Nat -> Bool -> Bool) : List UInt8 -> Bool -> Bool
  | [], _ => true
  | u :: r, f => p u.toNat f && z16s p r false

def z88 (s : List UInt8) : Bool := decide (1 <= s.length /\ s.length <= 32) && z16s z13x s true


end
end Go.Proofs.YtobbmaplbpdniaaPx

set_option linter.all false
set_option maxRecDepth 100000
namespace Go.Proofs.YtobbmaplbpdniaaLg
noncomputable section
open Go Go.Lift Go.Proofs.YtobbmaplbpdniaaPx

theorem zx4 (N : Nat) (c : Nat) (f : Bool) : z7r N (c : Int) f = some (z13x c f) := by
  simp only [z7r, z94, zid, z13x, Bool.cond_eq_ite, decide_eq_true_eq, beq_iff_eq]
  have key : (if (48 : Int) <= c then some (decide ((c : Int) <= 57)) else some false) = some (decide (48 <= c /\ c <= 57)) := by
    split
    . congr 1; rw [Bool.eq_iff_iff, decide_eq_true_eq, decide_eq_true_eq]; omega
    . congr 1; rw [Bool.eq_iff_iff, decide_eq_true_eq]; simp; omega
  rw [key]
  simp only [Option.bind_some, decide_eq_true_eq, Bool.false_eq_true, if_false]
  by_cases h1 : 97 <= c /\ c <= 122
  . rw [if_pos (by omega), if_pos (by omega)]; simp [h1]
  have hx : ∀ X Y : Option Bool, (if (97 : Int) <= c then if (c : Int) <= 122 then Y else X else X) = X := by
    intro X Y
    repeat' split
    all_goals first
      | rfl
      | omega
  rw [hx, decide_eq_false h1, Bool.false_or]
  by_cases h4 : 48 <= c /\ c <= 57
  . rw [if_pos h4, decide_eq_true (p := (48 <= c /\ c <= 57) \/ c = 45) (.inl h4), Bool.true_and]
  . rw [if_neg h4]
    by_cases h5 : c = 45
    . subst h5; simp
    . rw [if_neg (by omega), decide_eq_false (by omega), Bool.false_and]

theorem zzn (i : Nat) : ((((i : Nat) : Int)) == 0) = decide (i = 0) := by
  rw [Bool.eq_iff_iff, beq_iff_eq, decide_eq_true_eq]; omega

theorem z11b (N : Nat) {s : List UInt8} (hN : 40 < N) : z7s N s = some (z88 s) := by
  simp only [z7s, z97, z96, z88]
  by_cases h0 : s = []
  . subst h0; rfl
  have hl : s.length ≠ 0 := fun e => h0 (List.length_eq_zero_iff.1 e)
  rw [z19 (by simpa using h0)]
  by_cases h1 : 32 < s.length
  . rw [zl (z37 (by omega)), decide_eq_false (by omega)]; rfl
  rw [z19 (z4j (by omega)), decide_eq_true (p := 1 <= s.length /\ s.length <= 32) (by omega), Bool.true_and]
  simp only [zg0]
  rw [z4i (I := fun (v : List UInt8 × Nat) => v.1 = s /\ v.2 <= s.length) (m := fun (v : List UInt8 × Nat) => s.length - v.2) (R := fun (v : List UInt8 × Nat) => some (z16s z13x (s.drop v.2) (decide (v.2 = 0)))) ?_ N (s, 0) ⟨rfl, Nat.zero_le _⟩ (by dsimp only; omega)]
  . simp
  rintro ⟨s', i⟩ r ⟨rfl, hi⟩ hr
  dsimp only at *
  simp only [z95, zzn]
  by_cases hlt : i < s'.length
  . rw [zl (z37 hlt), zx4, Option.bind_some, z4b s' 0 i hlt]
    simp only [z16s]
    by_cases h128 : (s'.getD i 0).toNat < 128
    . rw [z105 h128]
      dsimp only
      cases hp : z13x (s'.getD i 0).toNat (decide (i = 0)) with
      | false => rfl
      | true =>
        rw [Bool.not_true, cond_false, hr _ ⟨rfl, by dsimp only; omega⟩ (by dsimp only; omega)]
        dsimp only
        rw [decide_eq_false (by omega), Bool.true_and]
    . obtain ⟨g1, _⟩ := z11v hlt (by omega)
      rw [zv9 g1, zv9 (by omega)]; rfl
  . rw [z19 (z4j hlt), z91 s' (by omega)]; rfl

theorem z11e (N : Nat) {s : List UInt8} (hN : 40 < N) : zec N s = some (z88 s) := by
  simp only [zec, z11b N hN, Option.bind_some]


theorem zt7 (N : Nat) {s : List UInt8} (hN : 40 < N) : z32 N s = some (z88 s) := by
  simp only [z32, z6e, z6d, z88]
  by_cases h0 : s.length = 0
  . rw [zl (z37 (by omega)), decide_eq_false (by omega)]; rfl
  rw [z19 (z4j (by omega))]
  by_cases h1 : 32 < s.length
  . rw [zl (z37 (by omega)), decide_eq_false (by omega)]; rfl
  rw [z19 (z4j (by omega)), decide_eq_true (p := 1 <= s.length /\ s.length <= 32) (by omega), Bool.true_and]
  simp only [zbh]
  rw [z4i (I := fun (v : Int) => 0 <= v /\ v <= ((s.length : Nat) : Int)) (m := fun (v : Int) => s.length - v.toNat) (R := fun (v : Int) => some (z16s z13x (s.drop v.toNat) (decide (v.toNat = 0)))) ?_ N 0 ⟨by omega, by omega⟩ (by omega)]
  . simp
  intro v r ⟨h2, h3⟩ hr
  obtain ⟨i, rfl⟩ := Int.eq_ofNat_of_zero_le h2
  simp only [z6a, z6c, Int.toNat_natCast] at *
  by_cases hlt : i < s.length
  . have p5 : ∀ k0 : Bool -> Option Bool, z3w N s (i : Int) k0 = k0 (decide (97 <= (s.getD i 0).toNat /\ (s.getD i 0).toNat <= 122)) := by
      intro k0
      simp only [z3w, Int.toNat_natCast]
      rw [zl (z1y hlt), zl (z1y hlt)]
      by_cases h : 97 <= (s.getD i 0).toNat
      . rw [zl (z37 (by omega))]; congr 1; rw [Bool.eq_iff_iff, decide_eq_true_eq, decide_eq_true_eq]; omega
      . rw [z19 (z4j (by omega)), decide_eq_false (by omega)]
    have p6 : ∀ (b : Bool) (k0 : Bool -> Option Bool), z3v N s (i : Int) b k0 = k0 (decide ((48 <= (s.getD i 0).toNat /\ (s.getD i 0).toNat <= 57) \/ (s.getD i 0).toNat = 45)) := by
      intro b k0
      simp only [z3v, Int.toNat_natCast]
      rw [zl (z1y hlt), zl (z1y hlt), zl (z1y hlt)]
      by_cases h45 : (s.getD i 0).toNat = 45
      . rw [zl (by rw [h45]; rfl), decide_eq_true (by omega)]
      . rw [z19 (by rw [beq_eq_false_iff_ne]; omega)]
        by_cases h : 48 <= (s.getD i 0).toNat
        . rw [zl (z37 (by omega))]; congr 1; rw [Bool.eq_iff_iff, decide_eq_true_eq, decide_eq_true_eq]; omega
        . rw [z19 (z4j (by omega)), decide_eq_false (by omega)]
    rw [zl (z37 (by omega)), p5, p6, z4b s 0 i hlt]
    simp only [z6b, zzn, z16s, z13x]
    have hrec : r ((i + 1 : Nat) : Int) = some (z16s z13x (s.drop (i + 1)) false) := by
      rw [hr _ ⟨by omega, by omega⟩ (by omega), Int.toNat_natCast, decide_eq_false (by omega)]
    rw [z2j (by omega), hrec]
    generalize decide (97 <= (s.getD i 0).toNat /\ (s.getD i 0).toNat <= 122) = p
    generalize decide ((48 <= (s.getD i 0).toNat /\ (s.getD i 0).toNat <= 57) \/ (s.getD i 0).toNat = 45) = q
    generalize decide (i = 0) = f
    cases p <;> cases q <;> cases f <;> rfl
  . rw [z19 (z4j (by omega)), z91 s (by omega)]; rfl

end
end Go.Proofs.YtobbmaplbpdniaaLg

set_option linter.all false
set_option maxRecDepth 100000
namespace Go.Proofs.YtobbmaplbpdniaaLg
noncomputable section
open Go Go.Lift Go.Proofs.YtobbmaplbpdniaaPx

abbrev zi1 := List zdj × (Int × Unit)

def zah (x low : Int) : Bool := decide (low <= x) && decide (x <= 1099511627776)

theorem zca (N : Nat) (n low : Int) : z35 N n low = some (zah n low) := by
  rw [z35, zah]
  by_cases h : low <= n
  . first
      | rw [zl (decide_eq_true h), decide_eq_true h, Bool.true_and]
      | (rw [z19 (decide_eq_false (by omega)), decide_eq_true h, Bool.true_and])
  . first
      | rw [z19 (decide_eq_false h), decide_eq_false h, Bool.false_and]
      | (rw [zl (decide_eq_true (by omega)), decide_eq_false h, Bool.false_and])

def zvd (t : zdj) : Bool := z88 t.1 && (zah t.2.1 0 && (zah t.2.2.1 1 && (decide (t.2.2.2.1.length <= 8) && z8v t.2.2.1 0 t.2.2.2.1)))

theorem zsf (N : Nat) (hN : 40 < N) (t : zdj) : z31 N t = some (zvd t) := by
  rw [z31, z61, z60, z11e N hN, Option.bind_some, zvd]
  cases z88 t.1 with
  | false => rfl
  | true =>
    rw [Bool.not_true, cond_false, zca, Option.bind_some, Bool.true_and]
    cases zah t.2.1 0 with
    | false => rfl
    | true =>
      rw [Bool.not_true, cond_false, zca, Option.bind_some, Bool.true_and]
      cases zah t.2.2.1 1 with
      | false => rfl
      | true =>
        rw [Bool.not_true, cond_false, Bool.true_and]
        by_cases h : t.2.2.2.1.length <= 8
        . rw [decide_eq_false (show ¬ (8 : Int) < ((t.2.2.2.1.length : Nat) : Int) by omega), cond_false, decide_eq_true h, Bool.true_and]
          exact z12y N (by omega) (by omega)
        . rw [decide_eq_true (show (8 : Int) < ((t.2.2.2.1.length : Nat) : Int) by omega), cond_true, decide_eq_false h, Bool.false_and]

def upL : Option (List UInt8) -> List UInt8 -> Bool
  | none, _ => true
  | some p, t => !(Go.Op.bytesLess t p || (t == p))

def z7x : Option (List UInt8) -> List zdj -> Bool
  | _, [] => true
  | p, t :: l => upL p t.1 && (zvd t && z7x (some t.1) l)

def z92 : zdj := (([] : List UInt8), ((0 : Int), ((0 : Int), (([] : List (Int × ((List UInt8) × Unit))), ()))))

def zw1 (l : List zdj) (i : Nat) : Option (List UInt8) := if i = 0 then none else some (l.getD (i - 1) z92).1

theorem z11j (N : Nat) (hN : 40 < N) {s : zi1} (hl : s.1.length <= 30) :
    zeu N s s.1 ((s.1.length : Nat) : Int) 0 (fun x21 => some x21) (some true) = some (z7x none s.1) := by
  rw [zeu]
  refine (z4i (fun v => ∃ (i : Nat), v = (i : Int) /\ i <= s.1.length) (fun v => s.1.length - v.toNat) (fun v => some (z7x (zw1 s.1 v.toNat) (s.1.drop v.toNat))) ?_ N 0 ⟨0, rfl, by omega⟩ (by omega)).trans (by rfl)
  rintro v r ⟨i, rfl, hi⟩ hr
  simp only [Int.toNat_natCast]
  rw [zes]
  by_cases hlt : i < s.1.length
  . have hrec : r (((i + 1 : Nat) : Int)) = some (z7x (some (s.1.getD i z92).1) (s.1.drop (i + 1))) := by
      rw [hr _ ⟨i + 1, rfl, by omega⟩ (by omega), Int.toNat_natCast]
      rfl
    rw [zl (decide_eq_true (by omega)), zl (z1y hlt), zet, Int.toNat_natCast, z4b s.1 z92 i hlt, z7x]
    rw [show (([] : List UInt8), ((0 : Int), ((0 : Int), (([] : List (Int × ((List UInt8) × Unit))), ())))) = z92 from rfl, zsf N hN, Option.bind_some, z2j (by omega), hrec]
    have hend : (cond (!zvd (s.1.getD i z92)) (some false) (some (z7x (some (s.1.getD i z92).1) (s.1.drop (i + 1))))) = some (zvd (s.1.getD i z92) && z7x (some (s.1.getD i z92).1) (s.1.drop (i + 1))) := by
      cases zvd (s.1.getD i z92) <;> rfl
    by_cases h0 : i = 0
    . rw [z19 (decide_eq_false (by omega)), zw1, if_pos h0, upL, Bool.true_and]
      exact hend
    . rw [zl (decide_eq_true (by omega)), zpr (x := ((i : Nat) : Int) - 1) (by unfold I64; omega), show ((i : Nat) : Int) - 1 = ((i - 1 : Nat) : Int) by omega, zl (z1y (by omega)), Int.toNat_natCast, zw1, if_neg h0, upL]
      cases (Go.Op.bytesLess (s.1.getD i z92).1 (s.1.getD (i - 1) z92).1 || (s.1.getD i z92).1 == (s.1.getD (i - 1) z92).1) with
      | true => rfl
      | false =>
        rw [cond_false, Bool.not_false, Bool.true_and]
        exact hend
  . rw [z19 (decide_eq_false (by omega)), z91 _ (by omega), z7x]

def z3g (s : zi1) : Bool := decide (s.1.length <= 16) && (zah s.2.1 0 && z7x none s.1)

theorem zz2 (N : Nat) (hN : 40 < N) (s : zi1) : z6o N s = some (z3g s) := by
  rw [z6o, zew, zev, z3g]
  by_cases h : s.1.length <= 16
  . rw [z19 (decide_eq_false (by omega)), zca, Option.bind_some, decide_eq_true h, Bool.true_and]
    cases zah s.2.1 0 with
    | false => rfl
    | true =>
      rw [Bool.not_true, cond_false, Bool.true_and]
      exact z11j N hN (by omega)
  . rw [zl (decide_eq_true (by omega)), cond_true, decide_eq_false h, Bool.false_and]

end
end Go.Proofs.YtobbmaplbpdniaaLg

set_option linter.all false
namespace Go.Proofs.YtobbmaplbpdniaaPx
noncomputable section
open Go Go.Lift

def zd2 : List UInt8 -> List UInt8 -> Int
  | [], [] => 0
  | [], _ :: _ => -1
  | _ :: _, [] => 1
  | x :: xs, y :: ys => if x < y then -1 else if y < x then 1 else zd2 xs ys

theorem zv2 (b : List UInt8) : zd2 [] b = if b.length = 0 then 0 else -1 := by cases b <;> rfl
theorem zsv (a : List UInt8) : zd2 a [] = if a.length = 0 then 0 else 1 := by cases a <;> rfl

theorem zrp : ∀ a : List UInt8, zd2 a a = 0
  | [] => rfl
  | x :: xs => by simp [zd2, zrp xs]

theorem zn7 : ∀ a b : List UInt8, zd2 a b = 0 -> a = b
  | [], [], _ => rfl
  | [], _ :: _, h => by simp [zd2] at h
  | _ :: _, [], h => by simp [zd2] at h
  | x :: xs, y :: ys, h => by
    simp only [zd2] at h
    split at h
    . cases h
    . split at h
      . cases h
      . rename_i h1 h2
        have : x = y := by
          rw [UInt8.lt_iff_toNat_lt] at h1 h2
          exact UInt8.toNat_inj.1 (by omega)
        rw [this, zn7 xs ys h]


end
end Go.Proofs.YtobbmaplbpdniaaPx

set_option linter.all false
set_option maxRecDepth 100000
namespace Go.Proofs.YtobbmaplbpdniaaLg
noncomputable section
open Go Go.Lift Go.Proofs.YtobbmaplbpdniaaPx

theorem zuk (N : Nat) (n low : Int) : z22 N n low = some (zah n low) := by
  rw [z22, zah]
  by_cases h : low <= n
  . rw [zl (decide_eq_true h), decide_eq_true h, Bool.true_and]
  . rw [z19 (decide_eq_false h), decide_eq_false h, Bool.false_and]

theorem z13m : ∀ p t : List UInt8, decide (0 <= zd2 p t) = (Go.Op.bytesLess t p || (t == p))
  | [], [] => rfl
  | [], _ :: _ => rfl
  | _ :: _, [] => rfl
  | x :: xs, y :: ys => by
    rw [zd2, Go.Op.bytesLess, List.cons_beq_cons]
    by_cases h1 : x < y
    . have h2 : ¬ y < x := by rw [UInt8.lt_iff_toNat_lt] at h1 ⊢; omega
      have h3 : (y == x) = false := by
        rw [beq_eq_false_iff_ne]
        intro e; rw [e, UInt8.lt_iff_toNat_lt] at h1; omega
      rw [if_pos h1, decide_eq_false h2, h3]; rfl
    . by_cases h2 : y < x
      . rw [if_neg h1, if_pos h2, decide_eq_true h2]; rfl
      . have e : x = y := by
          rw [UInt8.lt_iff_toNat_lt] at h1 h2
          exact UInt8.toNat_inj.1 (by omega)
        subst e
        rw [if_neg h1, if_neg h1, z13m xs ys, decide_eq_false h1, beq_self_eq_true, Bool.false_or, Bool.true_and, Bool.true_and]

theorem zz5 (N : Nat) {a b : List UInt8} (ha : a.length <= 9223372036854775806) (hN : a.length < N) : z2g N a b = some (zd2 a b) := by
  simp only [z2g, z4g, z7z]
  rw [z4i (I := fun v => 0 <= v /\ v <= ((min a.length b.length : Nat) : Int)) (m := fun v => a.length - v.toNat) (R := fun v => some (zd2 (a.drop v.toNat) (b.drop v.toNat))) ?_ N 0 ⟨by omega, by omega⟩ (by simpa using hN)]
  . simp
  intro v r ⟨h0, h1⟩ hr
  obtain ⟨i, rfl⟩ := Int.eq_ofNat_of_zero_le h0
  simp only [z4e, z4f, Int.toNat_natCast]
  by_cases hlt : i < min a.length b.length
  . have hia : i < a.length := by omega
    have hib : i < b.length := by omega
    rw [zl (z37 (by omega)), zl (z37 (by omega)), zl (z1y hia), zl (z1y hib), zl (z1y hia), zl (z1y hib), z4b a 0 i hia, z4b b 0 i hib]
    simp only [zd2]
    by_cases h2 : a.getD i 0 < b.getD i 0
    . rw [zl (z37 ((zi4 _ _).2 h2)), if_pos h2]
    . rw [z19 (z4j (fun e => h2 ((zi4 _ _).1 e))), if_neg h2]
      by_cases h3 : b.getD i 0 < a.getD i 0
      . rw [zl (z37 ((zi4 _ _).2 h3)), if_pos h3]
      . rw [z19 (z4j (fun e => h3 ((zi4 _ _).1 e))), if_neg h3, z2j (by omega), hr _ ⟨by omega, by omega⟩ (by omega)]
        rfl
  . have hi : i = min a.length b.length := by omega
    have e1 : ∀ (X Y : Option Int), cond (decide ((i : Int) < ((a.length : Nat) : Int))) (cond (decide ((i : Int) < ((b.length : Nat) : Int))) X Y) Y = Y := by
      intro X Y
      by_cases h1 : i < a.length
      . rw [zl (z37 (by omega)), z19 (z4j (by omega))]
      . rw [z19 (z4j (by omega))]
    rw [e1]
    rcases Nat.lt_or_ge b.length a.length with h | h
    . rw [z91 b (by omega), zsv, List.length_drop, if_neg (by omega), z19 (z4j (by omega)), zl (z37 (by omega))]
    . rw [z91 a (by omega), zv2, List.length_drop]
      by_cases e : a.length = b.length
      . rw [if_pos (by omega), z19 (z4j (by omega)), z19 (z4j (by omega))]
      . rw [if_neg (by omega), zl (z37 (by omega))]

def zzs : znd := ((0 : Int), (([] : List UInt8), ()))

def zw2 (l : List znd) (i : Nat) : Int := if i = 0 then 0 else (l.getD (i - 1) zzs).1

theorem zvz (N : Nat) {s : zi1} {t : zdj} {i0 : Int} (hN : t.2.2.2.1.length < N) (hl : t.2.2.2.1.length <= 1000000) (k0 : Bool -> Option Bool) (k1 : Option Bool) :
    z5h N s i0 t 0 k0 k1 = cond (z8v t.2.2.1 0 t.2.2.2.1) k1 (k0 false) := by
  rw [z5h]
  refine (z4i (fun v => ∃ i : Nat, v = (i : Int) /\ i <= t.2.2.2.1.length /\ 0 <= zw2 t.2.2.2.1 i) (fun v => t.2.2.2.1.length - v.toNat) (fun v => cond (z8v t.2.2.1 (zw2 t.2.2.2.1 v.toNat) (t.2.2.2.1.drop v.toNat)) k1 (k0 false)) ?_ N 0 ⟨0, rfl, by omega, by simp [zw2]⟩ (by omega)).trans (by rfl)
  rintro v r ⟨i, rfl, hi, hp⟩ hr
  simp only [Int.toNat_natCast]
  rw [z5d]
  by_cases hlt : i < t.2.2.2.1.length
  . have hps : zw2 t.2.2.2.1 (i + 1) = (t.2.2.2.1.getD i zzs).1 := rfl
    have hrec : 0 <= (t.2.2.2.1.getD i zzs).1 -> r (((i + 1 : Nat) : Int)) = cond (z8v t.2.2.1 (t.2.2.2.1.getD i zzs).1 (t.2.2.2.1.drop (i + 1))) k1 (k0 false) := by
      intro h0
      rw [hr _ ⟨i + 1, rfl, by omega, by rw [hps]; exact h0⟩ (by omega), Int.toNat_natCast, hps]
    have hprev : ∀ h : 0 < i, zw2 t.2.2.2.1 i = (t.2.2.2.1.getD (i - 1) zzs).1 := fun h => by rw [zw2, if_neg (by omega)]
    have hzero : ∀ h : ¬ 0 < i, zw2 t.2.2.2.1 i = 0 := fun h => by rw [zw2, if_pos (by omega)]
    rw [zl (decide_eq_true (by omega)), z5g, z5f, z4b t.2.2.2.1 zzs i hlt, z8v, z2j (by omega)]
    rw [show ((0 : Int), (([] : List UInt8), ())) = zzs from rfl]
    simp only [z1y hlt, cond_true, Int.toNat_natCast]
    obtain ⟨K, hK⟩ : ∃ K, t.2.2.2.1.getD i zzs = K := ⟨_, rfl⟩
    simp only [hK] at hrec ⊢
    by_cases h1 : K.1 < 1
    . rw [decide_eq_true h1, cond_true, decide_eq_false (by omega)]
      rfl
    rw [decide_eq_false h1, cond_false]
    by_cases h2 : t.2.2.1 <= K.1
    . rw [decide_eq_true h2, cond_true, decide_eq_false (show ¬ K.1 < t.2.2.1 by omega), Bool.false_and, Bool.and_false]
      rfl
    rw [decide_eq_false h2, cond_false, decide_eq_true (show K.1 < t.2.2.1 by omega), Bool.true_and]
    by_cases h3 : K.2.1.length = 32
    . rw [show ((((List.length K.2.1) : Nat) : Int) != (32 : Int)) = false by rw [h3]; rfl, cond_false, decide_eq_true h3, Bool.true_and]
      by_cases h4 : 0 < i
      . rw [zl (decide_eq_true (by omega)), zpr (x := ((i : Nat) : Int) - 1) (by unfold I64; omega), show ((i : Nat) : Int) - 1 = ((i - 1 : Nat) : Int) by omega, zl (z1y (by omega)), Int.toNat_natCast, hprev h4]
        by_cases h5 : K.1 <= (t.2.2.2.1.getD (i - 1) zzs).1
        . rw [decide_eq_true h5, cond_true, decide_eq_false (by omega)]; rfl
        . rw [decide_eq_false h5, cond_false, decide_eq_true (by omega), Bool.true_and, hrec (by omega)]
      . rw [z19 (decide_eq_false (by omega)), cond_false, hzero h4, decide_eq_true (by omega), Bool.true_and, hrec (by omega)]
    . rw [show ((((List.length K.2.1) : Nat) : Int) != (32 : Int)) = true by rw [bne_iff_ne]; omega, cond_true, decide_eq_false h3, Bool.false_and, Bool.and_false]
      rfl
  . rw [z19 (decide_eq_false (by omega)), z91 _ (by omega), z8v]
    rfl

def z10w (t : zdj) : Bool := z88 t.1 && (zah t.2.1 0 && (zah t.2.2.1 1 && decide (t.2.2.2.1.length <= 8)))

theorem z142 (t : zdj) : zvd t = (z10w t && z8v t.2.2.1 0 t.2.2.2.1) := by
  unfold zvd z10w
  simp only [Bool.and_assoc]

theorem z10c (N : Nat) (hN : 101 < N) {s : zi1} {t : zdj} {i : Nat} (hi : i < s.1.length) (hl : s.1.length <= 30) (hp : ∀ t ∈ s.1, t.1.length <= 100) (k0 : Bool -> Option Bool) :
    z39 N s (i : Int) t k0 = k0 (!(z10w t && upL (zw1 s.1 i) t.1)) := by
  rw [z39, zt7 N (by omega), Option.bind_some, z10w]
  cases z88 t.1 with
  | false => rfl
  | true =>
    rw [Bool.not_true, cond_false, zuk, Option.bind_some, Bool.true_and]
    cases zah t.2.1 0 with
    | false => rfl
    | true =>
      rw [Bool.not_true, cond_false, zuk, Option.bind_some, Bool.true_and]
      cases zah t.2.2.1 1 with
      | false => rfl
      | true =>
        rw [Bool.not_true, cond_false, Bool.true_and]
        by_cases h : t.2.2.2.1.length <= 8
        . rw [decide_eq_false (show ¬ (8 : Int) < ((t.2.2.2.1.length : Nat) : Int) by omega), cond_false, decide_eq_true h, Bool.true_and]
          by_cases h0 : i = 0
          . rw [z19 (decide_eq_false (by omega)), zw1, if_pos h0, upL]
            rfl
          . have hm := hp _ (zn1 s.1 z92 (i - 1) (by omega))
            rw [zl (decide_eq_true (by omega)), zpr (x := ((i : Nat) : Int) - 1) (by unfold I64; omega), show ((i : Nat) : Int) - 1 = ((i - 1 : Nat) : Int) by omega, zl (z1y (by omega)), Int.toNat_natCast, zw1, if_neg h0, upL]
            rw [show (([] : List UInt8), ((0 : Int), ((0 : Int), (([] : List (Int × ((List UInt8) × Unit))), ())))) = z92 from rfl, zz5 N (by omega) (by omega), Option.bind_some, z13m, Bool.not_not]
        . rw [decide_eq_true (show (8 : Int) < ((t.2.2.2.1.length : Nat) : Int) by omega), cond_true, decide_eq_false h, Bool.false_and]
          rfl

theorem zvx (N : Nat) (hN : 101 < N) {s : zi1} (hl : s.1.length <= 30) (hp : ∀ t ∈ s.1, t.1.length <= 100) :
    z5k N s 0 (fun x21 => some x21) (some true) = some (z7x none s.1) := by
  rw [z5k]
  refine (z4i (fun v => ∃ (i : Nat), v = (i : Int) /\ i <= s.1.length) (fun v => s.1.length - v.toNat) (fun v => some (z7x (zw1 s.1 v.toNat) (s.1.drop v.toNat))) ?_ N 0 ⟨0, rfl, by omega⟩ (by omega)).trans (by rfl)
  rintro v r ⟨i, rfl, hi⟩ hr
  simp only [Int.toNat_natCast]
  rw [z5e]
  by_cases hlt : i < s.1.length
  . have hrec : r (((i + 1 : Nat) : Int)) = some (z7x (some (s.1.getD i z92).1) (s.1.drop (i + 1))) := by
      rw [hr _ ⟨i + 1, rfl, by omega⟩ (by omega), Int.toNat_natCast]
      rfl
    rw [zl (decide_eq_true (by omega)), z5j, zl (z1y hlt), Int.toNat_natCast, z4b s.1 z92 i hlt, z7x]
    rw [show (([] : List UInt8), ((0 : Int), ((0 : Int), (([] : List (Int × ((List UInt8) × Unit))), ())))) = z92 from rfl, z5i, z10c N hN hlt hl hp, z2j (by omega), hrec, z142]
    cases hu : upL (zw1 s.1 i) (s.1.getD i z92).1 with
    | false => rw [Bool.and_false]; rfl
    | true =>
      rw [Bool.and_true, Bool.true_and]
      cases hh : z10w (s.1.getD i z92) with
      | false => rfl
      | true =>
        have h8 : (s.1.getD i z92).2.2.2.1.length <= 8 := by
          unfold z10w at hh
          simp only [Bool.and_eq_true, decide_eq_true_eq] at hh
          exact hh.2.2.2
        rw [Bool.not_true, cond_false, zvz N (by omega) (by omega), Bool.true_and]
        cases z8v (s.1.getD i z92).2.2.1 0 (s.1.getD i z92).2.2.2.1 <;> rfl
  . rw [z19 (decide_eq_false (by omega)), z91 _ (by omega), z7x]

theorem zme (N : Nat) (hN : 101 < N) {s : zi1} (hp : ∀ t ∈ s.1, t.1.length <= 100) : z2x N s = some (z3g s) := by
  rw [z2x, z5m, z5l, z3g]
  by_cases h : s.1.length <= 16
  . rw [z19 (decide_eq_false (by omega)), zuk, Option.bind_some, decide_eq_true h, Bool.true_and]
    cases zah s.2.1 0 with
    | false => rfl
    | true =>
      rw [Bool.not_true, cond_false, Bool.true_and]
      exact zvx N hN (by omega) hp
  . rw [zl (decide_eq_true (by omega)), cond_true, decide_eq_false h, Bool.false_and]

end
end Go.Proofs.YtobbmaplbpdniaaLg
