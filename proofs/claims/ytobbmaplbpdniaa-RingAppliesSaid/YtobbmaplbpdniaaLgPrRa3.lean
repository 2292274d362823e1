import Derived.Test.YtobbmaplbpdniaaLgPrRa1
import Derived.Lib.MapLaws
import Derived.Test.YtobbmaplbpdniaaLgPrRa2
set_option linter.all false
namespace Go.Proofs.YtobbmaplbpdniaaPx
noncomputable section
open Go Go.Lift

theorem z14i (s : List UInt8) (i : Nat) : runeAt s i = Go.Lib.decodeN (s.length - i) (s.getD i 0).toNat (s.getD (i + 1) 0).toNat (s.getD (i + 2) 0).toNat (s.getD (i + 3) 0).toNat :=
  Go.Lib.decode_N ⟨⟨s⟩⟩ i

theorem zz9 {s : List UInt8} {i : Nat} (h : (s.getD i 0).toNat < 128) : runeAt s i = ((s.getD i 0).toNat, 1) := by
  rw [z14i]
  exact Go.Lib.decodeN_ascii _ _ _ _ _ h

theorem z10z {s : List UInt8} {i : Nat} (hi : i < s.length) (h : 128 <= (s.getD i 0).toNat) :
    128 <= (runeAt s i).1 /\ 1 <= (runeAt s i).2 /\ i + (runeAt s i).2 <= s.length /\ ∀ j, i <= j -> j < i + (runeAt s i).2 -> 128 <= (s.getD j 0).toNat := by
  rw [z14i]
  rcases Go.Lib.decodeN_shape (s.length - i) (s.getD i 0).toNat (s.getD (i + 1) 0).toNat (s.getD (i + 2) 0).toNat (s.getD (i + 3) 0).toNat with ⟨h1, e⟩ | ⟨h1, h2, h3, h4, e⟩ | ⟨h1, h2, h3, h4, h5, h6, e⟩ | ⟨h1, h2, h3, h4, h5, h6, h7, e⟩ | e
  . omega
  . rw [e]
    refine ⟨h4, by omega, by dsimp only; omega, fun j hj hj2 => ?_⟩
    dsimp only at hj2
    obtain rfl | rfl : j = i \/ j = i + 1 := by omega
    . exact h
    . omega
  . rw [e]
    refine ⟨by dsimp only; omega, by omega, by dsimp only; omega, fun j hj hj2 => ?_⟩
    dsimp only at hj2
    obtain rfl | rfl | rfl : j = i \/ j = i + 1 \/ j = i + 2 := by omega
    . exact h
    . omega
    . omega
  . rw [e]
    refine ⟨by dsimp only; omega, by omega, by dsimp only; omega, fun j hj hj2 => ?_⟩
    dsimp only at hj2
    obtain rfl | rfl | rfl | rfl : j = i \/ j = i + 1 \/ j = i + 2 \/ j = i + 3 := by omega
    . exact h
    . omega
    . omega
    . omega
  . rw [e]
    refine ⟨by omega, by omega, by dsimp only; omega, fun j hj hj2 => ?_⟩
    dsimp only at hj2
    obtain rfl : j = i := by omega
    exact h

end
end Go.Proofs.YtobbmaplbpdniaaPx

set_option linter.all false
namespace Go.Proofs.YtobbmaplbpdniaaPx
noncomputable section
open Go Go.Lift

def z130 (c : Nat) (first : Bool) : Bool := decide (97 <= c /\ c <= 122) || (decide ((48 <= c /\ c <= 57) \/ c = 45) && !first)

theorem zue {c : Nat} (h : 128 <= c) (f : Bool) : z130 c f = false := by
  simp only [z130, Bool.or_eq_false_iff, decide_eq_false_iff_not, Bool.and_eq_false_iff]
  exact ⟨by omega, .inl (by omega)⟩
def z15v (p : Nat -> Bool -> Bool) : List UInt8 -> Bool -> Bool
  | [], _ => true
  | u :: r, f => p u.toNat f && z15v p r false

def z8l (s : List UInt8) : Bool := decide (1 <= s.length /\ s.length <= 32) && z15v z130 s true


end
end Go.Proofs.YtobbmaplbpdniaaPx

set_option linter.all false
set_option maxRecDepth 100000
namespace Go.Proofs.YtobbmaplbpdniaaLg
noncomputable section
open Go Go.Lift Go.Proofs.YtobbmaplbpdniaaPx

theorem zw7 (N : Nat) (c : Nat) (f : Bool) : z7f N (c : Int) f = some (z130 c f) := by
  simp only [z7f, z8n, zhq, z130, Bool.cond_eq_ite, decide_eq_true_eq, beq_iff_eq]
  have key : (if (48 : Int) <= c then some (decide ((c : Int) <= 57)) else some false) = some (decide (48 <= c /\ c <= 57)) := by
    split
    . congr 1; rw [Bool.eq_iff_iff, decide_eq_true_eq, decide_eq_true_eq]; omega
    . congr 1; rw [Bool.eq_iff_iff, decide_eq_true_eq]; simp; omega
  rw [key]
  simp only [Option.bind_some, decide_eq_true_eq, Bool.false_eq_true, if_false]
  by_cases h1 : 97 <= c /\ c <= 122
  . rw [if_pos (by omega), if_pos (by omega)]; simp [h1]
  have hx : ∀ X Y : Option Bool, (if (97 : Int) <= c then if (c : Int) <= 122 then Y else X else X) = X := by
    intro X Y
    repeat' split
    all_goals first
      | rfl
      | omega
  rw [hx, decide_eq_false h1, Bool.false_or]
  by_cases h4 : 48 <= c /\ c <= 57
  . rw [if_pos h4, decide_eq_true (p := (48 <= c /\ c <= 57) \/ c = 45) (.inl h4), Bool.true_and]
  . rw [if_neg h4]
    by_cases h5 : c = 45
    . subst h5; simp
    . rw [if_neg (by omega), decide_eq_false (by omega), Bool.false_and]

theorem zyt (i : Nat) : ((((i : Nat) : Int)) == 0) = decide (i = 0) := by
  rw [Bool.eq_iff_iff, beq_iff_eq, decide_eq_true_eq]; omega

theorem z10f (N : Nat) {s : List UInt8} (hN : 40 < N) : z7g N s = some (z8l s) := by
  simp only [z7g, z8q, z8p, z8l]
  by_cases h0 : s = []
  . subst h0; rfl
  have hl : s.length ≠ 0 := fun e => h0 (List.length_eq_zero_iff.1 e)
  rw [z19 (by simpa using h0)]
  by_cases h1 : 32 < s.length
  . rw [zl (z32 (by omega)), decide_eq_false (by omega)]; rfl
  rw [z19 (z4f (by omega)), decide_eq_true (p := 1 <= s.length /\ s.length <= 32) (by omega), Bool.true_and]
  simp only [zfd]
  rw [z4n (I := fun (v : List UInt8 × Nat) => v.1 = s /\ v.2 <= s.length) (m := fun (v : List UInt8 × Nat) => s.length - v.2) (R := fun (v : List UInt8 × Nat) => some (z15v z130 (s.drop v.2) (decide (v.2 = 0)))) ?_ N (s, 0) ⟨rfl, Nat.zero_le _⟩ (by dsimp only; omega)]
  . simp
  rintro ⟨s', i⟩ r ⟨rfl, hi⟩ hr
  dsimp only at *
  simp only [z8o, zyt]
  by_cases hlt : i < s'.length
  . rw [zl (z32 hlt), zw7, Option.bind_some, z4q s' 0 i hlt]
    simp only [z15v]
    by_cases h128 : (s'.getD i 0).toNat < 128
    . rw [zz9 h128]
      dsimp only
      cases hp : z130 (s'.getD i 0).toNat (decide (i = 0)) with
      | false => rfl
      | true =>
        rw [Bool.not_true, cond_false, hr _ ⟨rfl, by dsimp only; omega⟩ (by dsimp only; omega)]
        dsimp only
        rw [decide_eq_false (by omega), Bool.true_and]
    . obtain ⟨g1, _⟩ := z10z hlt (by omega)
      rw [zue g1, zue (by omega)]; rfl
  . rw [z19 (z4f hlt), z8k s' (by omega)]; rfl

theorem z10i (N : Nat) {s : List UInt8} (hN : 40 < N) : zdr N s = some (z8l s) := by
  simp only [zdr, z10f N hN, Option.bind_some]


theorem zsd (N : Nat) {s : List UInt8} (hN : 40 < N) : z35 N s = some (z8l s) := by
  simp only [z35, z6b, z6a, z8l]
  by_cases h0 : s.length = 0
  . rw [zl (z32 (by omega)), decide_eq_false (by omega)]; rfl
  rw [z19 (z4f (by omega))]
  by_cases h1 : 32 < s.length
  . rw [zl (z32 (by omega)), decide_eq_false (by omega)]; rfl
  rw [z19 (z4f (by omega)), decide_eq_true (p := 1 <= s.length /\ s.length <= 32) (by omega), Bool.true_and]
  simp only [zba]
  rw [z4n (I := fun (v : Int) => 0 <= v /\ v <= ((s.length : Nat) : Int)) (m := fun (v : Int) => s.length - v.toNat) (R := fun (v : Int) => some (z15v z130 (s.drop v.toNat) (decide (v.toNat = 0)))) ?_ N 0 ⟨by omega, by omega⟩ (by omega)]
  . simp
  intro v r ⟨h2, h3⟩ hr
  obtain ⟨i, rfl⟩ := Int.eq_ofNat_of_zero_le h2
  simp only [z67, z69, Int.toNat_natCast] at *
  by_cases hlt : i < s.length
  . have p5 : ∀ k0 : Bool -> Option Bool, z3r N s (i : Int) k0 = k0 (decide (97 <= (s.getD i 0).toNat /\ (s.getD i 0).toNat <= 122)) := by
      intro k0
      simp only [z3r, Int.toNat_natCast]
      rw [zl (z2m hlt), zl (z2m hlt)]
      by_cases h : 97 <= (s.getD i 0).toNat
      . rw [zl (z32 (by omega))]; congr 1; rw [Bool.eq_iff_iff, decide_eq_true_eq, decide_eq_true_eq]; omega
      . rw [z19 (z4f (by omega)), decide_eq_false (by omega)]
    have p6 : ∀ (b : Bool) (k0 : Bool -> Option Bool), z3q N s (i : Int) b k0 = k0 (decide ((48 <= (s.getD i 0).toNat /\ (s.getD i 0).toNat <= 57) \/ (s.getD i 0).toNat = 45)) := by
      intro b k0
      simp only [z3q, Int.toNat_natCast]
      rw [zl (z2m hlt), zl (z2m hlt), zl (z2m hlt)]
      by_cases h45 : (s.getD i 0).toNat = 45
      . rw [zl (by rw [h45]; rfl), decide_eq_true (by omega)]
      . rw [z19 (by rw [beq_eq_false_iff_ne]; omega)]
        by_cases h : 48 <= (s.getD i 0).toNat
        . rw [zl (z32 (by omega))]; congr 1; rw [Bool.eq_iff_iff, decide_eq_true_eq, decide_eq_true_eq]; omega
        . rw [z19 (z4f (by omega)), decide_eq_false (by omega)]
    rw [zl (z32 (by omega)), p5, p6, z4q s 0 i hlt]
    simp only [z68, zyt, z15v, z130]
    have hrec : r ((i + 1 : Nat) : Int) = some (z15v z130 (s.drop (i + 1)) false) := by
      rw [hr _ ⟨by omega, by omega⟩ (by omega), Int.toNat_natCast, decide_eq_false (by omega)]
    rw [z2q (by omega), hrec]
    generalize decide (97 <= (s.getD i 0).toNat /\ (s.getD i 0).toNat <= 122) = p
    generalize decide ((48 <= (s.getD i 0).toNat /\ (s.getD i 0).toNat <= 57) \/ (s.getD i 0).toNat = 45) = q
    generalize decide (i = 0) = f
    cases p <;> cases q <;> cases f <;> rfl
  . rw [z19 (z4f (by omega)), z8k s (by omega)]; rfl

end
end Go.Proofs.YtobbmaplbpdniaaLg

set_option linter.all false
set_option maxRecDepth 100000
namespace Go.Proofs.YtobbmaplbpdniaaLg
noncomputable section
open Go Go.Lift Go.Proofs.YtobbmaplbpdniaaPx

abbrev zmk := List zdy × (Int × Unit)

def za8 (x low : Int) : Bool := decide (low <= x) && decide (x <= 1099511627776)

theorem zc9 (N : Nat) (n low : Int) : z37 N n low = some (za8 n low) := by
  rw [z37, za8]
  by_cases h : low <= n
  . first
      | rw [zl (decide_eq_true h), decide_eq_true h, Bool.true_and]
      | (rw [z19 (decide_eq_false (by omega)), decide_eq_true h, Bool.true_and])
  . first
      | rw [z19 (decide_eq_false h), decide_eq_false h, Bool.false_and]
      | (rw [zl (decide_eq_true (by omega)), decide_eq_false h, Bool.false_and])

def zui (t : zdy) : Bool := z8l t.1 && (za8 t.2.1 0 && (za8 t.2.2.1 1 && (decide (t.2.2.2.1.length <= 8) && z8e t.2.2.1 0 t.2.2.2.1)))

theorem zro (N : Nat) (hN : 40 < N) (t : zdy) : z33 N t = some (zui t) := by
  rw [z33, z5z, z5y, z10i N hN, Option.bind_some, zui]
  cases z8l t.1 with
  | false => rfl
  | true =>
    rw [Bool.not_true, cond_false, zc9, Option.bind_some, Bool.true_and]
    cases za8 t.2.1 0 with
    | false => rfl
    | true =>
      rw [Bool.not_true, cond_false, zc9, Option.bind_some, Bool.true_and]
      cases za8 t.2.2.1 1 with
      | false => rfl
      | true =>
        rw [Bool.not_true, cond_false, Bool.true_and]
        by_cases h : t.2.2.2.1.length <= 8
        . rw [decide_eq_false (show ¬ (8 : Int) < ((t.2.2.2.1.length : Nat) : Int) by omega), cond_false, decide_eq_true h, Bool.true_and]
          exact z121 N (by omega) (by omega)
        . rw [decide_eq_true (show (8 : Int) < ((t.2.2.2.1.length : Nat) : Int) by omega), cond_true, decide_eq_false h, Bool.false_and]

def upL : Option (List UInt8) -> List UInt8 -> Bool
  | none, _ => true
  | some p, t => !(Go.Op.bytesLess t p || (t == p))

def z7l : Option (List UInt8) -> List zdy -> Bool
  | _, [] => true
  | p, t :: l => upL p t.1 && (zui t && z7l (some t.1) l)

def z9w : zdy := (([] : List UInt8), ((0 : Int), ((0 : Int), (([] : List (Int × ((List UInt8) × Unit))), ()))))

def zv4 (l : List zdy) (i : Nat) : Option (List UInt8) := if i = 0 then none else some (l.getD (i - 1) z9w).1

theorem z10n (N : Nat) (hN : 40 < N) {s : zmk} (hl : s.1.length <= 30) :
    ze9 N s s.1 ((s.1.length : Nat) : Int) 0 (fun x21 => some x21) (some true) = some (z7l none s.1) := by
  rw [ze9]
  refine (z4n (fun v => ∃ (i : Nat), v = (i : Int) /\ i <= s.1.length) (fun v => s.1.length - v.toNat) (fun v => some (z7l (zv4 s.1 v.toNat) (s.1.drop v.toNat))) ?_ N 0 ⟨0, rfl, by omega⟩ (by omega)).trans (by rfl)
  rintro v r ⟨i, rfl, hi⟩ hr
  simp only [Int.toNat_natCast]
  rw [ze7]
  by_cases hlt : i < s.1.length
  . have hrec : r (((i + 1 : Nat) : Int)) = some (z7l (some (s.1.getD i z9w).1) (s.1.drop (i + 1))) := by
      rw [hr _ ⟨i + 1, rfl, by omega⟩ (by omega), Int.toNat_natCast]
      rfl
    rw [zl (decide_eq_true (by omega)), zl (z2m hlt), ze8, Int.toNat_natCast, z4q s.1 z9w i hlt, z7l]
    rw [show (([] : List UInt8), ((0 : Int), ((0 : Int), (([] : List (Int × ((List UInt8) × Unit))), ())))) = z9w from rfl, zro N hN, Option.bind_some, z2q (by omega), hrec]
    have hend : (cond (!zui (s.1.getD i z9w)) (some false) (some (z7l (some (s.1.getD i z9w).1) (s.1.drop (i + 1))))) = some (zui (s.1.getD i z9w) && z7l (some (s.1.getD i z9w).1) (s.1.drop (i + 1))) := by
      cases zui (s.1.getD i z9w) <;> rfl
    by_cases h0 : i = 0
    . rw [z19 (decide_eq_false (by omega)), zv4, if_pos h0, upL, Bool.true_and]
      exact hend
    . rw [zl (decide_eq_true (by omega)), zt2 (x := ((i : Nat) : Int) - 1) (by unfold I64; omega), show ((i : Nat) : Int) - 1 = ((i - 1 : Nat) : Int) by omega, zl (z2m (by omega)), Int.toNat_natCast, zv4, if_neg h0, upL]
      cases (Go.Op.bytesLess (s.1.getD i z9w).1 (s.1.getD (i - 1) z9w).1 || (s.1.getD i z9w).1 == (s.1.getD (i - 1) z9w).1) with
      | true => rfl
      | false =>
        rw [cond_false, Bool.not_false, Bool.true_and]
        exact hend
  . rw [z19 (decide_eq_false (by omega)), z8k _ (by omega), z7l]

def z89 (s : zmk) : Bool := decide (s.1.length <= 16) && (za8 s.2.1 0 && z7l none s.1)

theorem zy8 (N : Nat) (hN : 40 < N) (s : zmk) : z4u N s = some (z89 s) := by
  rw [z4u, zeb, zea, z89]
  by_cases h : s.1.length <= 16
  . rw [z19 (decide_eq_false (by omega)), zc9, Option.bind_some, decide_eq_true h, Bool.true_and]
    cases za8 s.2.1 0 with
    | false => rfl
    | true =>
      rw [Bool.not_true, cond_false, Bool.true_and]
      exact z10n N hN (by omega)
  . rw [zl (decide_eq_true (by omega)), cond_true, decide_eq_false h, Bool.false_and]

end
end Go.Proofs.YtobbmaplbpdniaaLg

set_option linter.all false
namespace Go.Proofs.YtobbmaplbpdniaaPx
noncomputable section
open Go Go.Lift

def zcw : List UInt8 -> List UInt8 -> Int
  | [], [] => 0
  | [], _ :: _ => -1
  | _ :: _, [] => 1
  | x :: xs, y :: ys => if x < y then -1 else if y < x then 1 else zcw xs ys

theorem zu7 (b : List UInt8) : zcw [] b = if b.length = 0 then 0 else -1 := by cases b <;> rfl
theorem zs4 (a : List UInt8) : zcw a [] = if a.length = 0 then 0 else 1 := by cases a <;> rfl

theorem zqx : ∀ a : List UInt8, zcw a a = 0
  | [] => rfl
  | x :: xs => by simp [zcw, zqx xs]

theorem zme : ∀ a b : List UInt8, zcw a b = 0 -> a = b
  | [], [], _ => rfl
  | [], _ :: _, h => by simp [zcw] at h
  | _ :: _, [], h => by simp [zcw] at h
  | x :: xs, y :: ys, h => by
    simp only [zcw] at h
    split at h
    . cases h
    . split at h
      . cases h
      . rename_i h1 h2
        have : x = y := by
          rw [UInt8.lt_iff_toNat_lt] at h1 h2
          exact UInt8.toNat_inj.1 (by omega)
        rw [this, zme xs ys h]


end
end Go.Proofs.YtobbmaplbpdniaaPx

set_option linter.all false
set_option maxRecDepth 100000
namespace Go.Proofs.YtobbmaplbpdniaaLg
noncomputable section
open Go Go.Lift Go.Proofs.YtobbmaplbpdniaaPx

theorem zto (N : Nat) (n low : Int) : z23 N n low = some (za8 n low) := by
  rw [z23, za8]
  by_cases h : low <= n
  . rw [zl (decide_eq_true h), decide_eq_true h, Bool.true_and]
  . rw [z19 (decide_eq_false h), decide_eq_false h, Bool.false_and]

theorem z12p : ∀ p t : List UInt8, decide (0 <= zcw p t) = (Go.Op.bytesLess t p || (t == p))
  | [], [] => rfl
  | [], _ :: _ => rfl
  | _ :: _, [] => rfl
  | x :: xs, y :: ys => by
    rw [zcw, Go.Op.bytesLess, List.cons_beq_cons]
    by_cases h1 : x < y
    . have h2 : ¬ y < x := by rw [UInt8.lt_iff_toNat_lt] at h1 ⊢; omega
      have h3 : (y == x) = false := by
        rw [beq_eq_false_iff_ne]
        intro e; rw [e, UInt8.lt_iff_toNat_lt] at h1; omega
      rw [if_pos h1, decide_eq_false h2, h3]; rfl
    . by_cases h2 : y < x
      . rw [if_neg h1, if_pos h2, decide_eq_true h2]; rfl
      . have e : x = y := by
          rw [UInt8.lt_iff_toNat_lt] at h1 h2
          exact UInt8.toNat_inj.1 (by omega)
        subst e
        rw [if_neg h1, if_neg h1, z12p xs ys, decide_eq_false h1, beq_self_eq_true, Bool.false_or, Bool.true_and, Bool.true_and]

theorem zyb (N : Nat) {a b : List UInt8} (ha : a.length <= 9223372036854775806) (hN : a.length < N) : z2f N a b = some (zcw a b) := by
  simp only [z2f, z4a, z7m]
  rw [z4n (I := fun v => 0 <= v /\ v <= ((min a.length b.length : Nat) : Int)) (m := fun v => a.length - v.toNat) (R := fun v => some (zcw (a.drop v.toNat) (b.drop v.toNat))) ?_ N 0 ⟨by omega, by omega⟩ (by simpa using hN)]
  . simp
  intro v r ⟨h0, h1⟩ hr
  obtain ⟨i, rfl⟩ := Int.eq_ofNat_of_zero_le h0
  simp only [z48, z49, Int.toNat_natCast]
  by_cases hlt : i < min a.length b.length
  . have hia : i < a.length := by omega
    have hib : i < b.length := by omega
    rw [zl (z32 (by omega)), zl (z32 (by omega)), zl (z2m hia), zl (z2m hib), zl (z2m hia), zl (z2m hib), z4q a 0 i hia, z4q b 0 i hib]
    simp only [zcw]
    by_cases h2 : a.getD i 0 < b.getD i 0
    . rw [zl (z32 ((zhi _ _).2 h2)), if_pos h2]
    . rw [z19 (z4f (fun e => h2 ((zhi _ _).1 e))), if_neg h2]
      by_cases h3 : b.getD i 0 < a.getD i 0
      . rw [zl (z32 ((zhi _ _).2 h3)), if_pos h3]
      . rw [z19 (z4f (fun e => h3 ((zhi _ _).1 e))), if_neg h3, z2q (by omega), hr _ ⟨by omega, by omega⟩ (by omega)]
        rfl
  . have hi : i = min a.length b.length := by omega
    have e1 : ∀ (X Y : Option Int), cond (decide ((i : Int) < ((a.length : Nat) : Int))) (cond (decide ((i : Int) < ((b.length : Nat) : Int))) X Y) Y = Y := by
      intro X Y
      by_cases h1 : i < a.length
      . rw [zl (z32 (by omega)), z19 (z4f (by omega))]
      . rw [z19 (z4f (by omega))]
    rw [e1]
    rcases Nat.lt_or_ge b.length a.length with h | h
    . rw [z8k b (by omega), zs4, List.length_drop, if_neg (by omega), z19 (z4f (by omega)), zl (z32 (by omega))]
    . rw [z8k a (by omega), zu7, List.length_drop]
      by_cases e : a.length = b.length
      . rw [if_pos (by omega), z19 (z4f (by omega)), z19 (z4f (by omega))]
      . rw [if_neg (by omega), zl (z32 (by omega))]

def zyx : zmm := ((0 : Int), (([] : List UInt8), ()))

def zv5 (l : List zmm) (i : Nat) : Int := if i = 0 then 0 else (l.getD (i - 1) zyx).1

theorem zv2 (N : Nat) {s : zmk} {t : zdy} {i0 : Int} (hN : t.2.2.2.1.length < N) (hl : t.2.2.2.1.length <= 1000000) (k0 : Bool -> Option Bool) (k1 : Option Bool) :
    z5a N s i0 t 0 k0 k1 = cond (z8e t.2.2.1 0 t.2.2.2.1) k1 (k0 false) := by
  rw [z5a]
  refine (z4n (fun v => ∃ i : Nat, v = (i : Int) /\ i <= t.2.2.2.1.length /\ 0 <= zv5 t.2.2.2.1 i) (fun v => t.2.2.2.1.length - v.toNat) (fun v => cond (z8e t.2.2.1 (zv5 t.2.2.2.1 v.toNat) (t.2.2.2.1.drop v.toNat)) k1 (k0 false)) ?_ N 0 ⟨0, rfl, by omega, by simp [zv5]⟩ (by omega)).trans (by rfl)
  rintro v r ⟨i, rfl, hi, hp⟩ hr
  simp only [Int.toNat_natCast]
  rw [z56]
  by_cases hlt : i < t.2.2.2.1.length
  . have hps : zv5 t.2.2.2.1 (i + 1) = (t.2.2.2.1.getD i zyx).1 := rfl
    have hrec : 0 <= (t.2.2.2.1.getD i zyx).1 -> r (((i + 1 : Nat) : Int)) = cond (z8e t.2.2.1 (t.2.2.2.1.getD i zyx).1 (t.2.2.2.1.drop (i + 1))) k1 (k0 false) := by
      intro h0
      rw [hr _ ⟨i + 1, rfl, by omega, by rw [hps]; exact h0⟩ (by omega), Int.toNat_natCast, hps]
    have hprev : ∀ h : 0 < i, zv5 t.2.2.2.1 i = (t.2.2.2.1.getD (i - 1) zyx).1 := fun h => by rw [zv5, if_neg (by omega)]
    have hzero : ∀ h : ¬ 0 < i, zv5 t.2.2.2.1 i = 0 := fun h => by rw [zv5, if_pos (by omega)]
    rw [zl (decide_eq_true (by omega)), z59, z58, z4q t.2.2.2.1 zyx i hlt, z8e, z2q (by omega)]
    rw [show ((0 : Int), (([] : List UInt8), ())) = zyx from rfl]
    simp only [z2m hlt, cond_true, Int.toNat_natCast]
    obtain ⟨K, hK⟩ : ∃ K, t.2.2.2.1.getD i zyx = K := ⟨_, rfl⟩
    simp only [hK] at hrec ⊢
    by_cases h1 : K.1 < 1
    . rw [decide_eq_true h1, cond_true, decide_eq_false (by omega)]
      rfl
    rw [decide_eq_false h1, cond_false]
    by_cases h2 : t.2.2.1 <= K.1
    . rw [decide_eq_true h2, cond_true, decide_eq_false (show ¬ K.1 < t.2.2.1 by omega), Bool.false_and, Bool.and_false]
      rfl
    rw [decide_eq_false h2, cond_false, decide_eq_true (show K.1 < t.2.2.1 by omega), Bool.true_and]
    by_cases h3 : K.2.1.length = 32
    . rw [show ((((List.length K.2.1) : Nat) : Int) != (32 : Int)) = false by rw [h3]; rfl, cond_false, decide_eq_true h3, Bool.true_and]
      by_cases h4 : 0 < i
      . rw [zl (decide_eq_true (by omega)), zt2 (x := ((i : Nat) : Int) - 1) (by unfold I64; omega), show ((i : Nat) : Int) - 1 = ((i - 1 : Nat) : Int) by omega, zl (z2m (by omega)), Int.toNat_natCast, hprev h4]
        by_cases h5 : K.1 <= (t.2.2.2.1.getD (i - 1) zyx).1
        . rw [decide_eq_true h5, cond_true, decide_eq_false (by omega)]; rfl
        . rw [decide_eq_false h5, cond_false, decide_eq_true (by omega), Bool.true_and, hrec (by omega)]
      . rw [z19 (decide_eq_false (by omega)), cond_false, hzero h4, decide_eq_true (by omega), Bool.true_and, hrec (by omega)]
    . rw [show ((((List.length K.2.1) : Nat) : Int) != (32 : Int)) = true by rw [bne_iff_ne]; omega, cond_true, decide_eq_false h3, Bool.false_and, Bool.and_false]
      rfl
  . rw [z19 (decide_eq_false (by omega)), z8k _ (by omega), z8e]
    rfl

def z100 (t : zdy) : Bool := z8l t.1 && (za8 t.2.1 0 && (za8 t.2.2.1 1 && decide (t.2.2.2.1.length <= 8)))

theorem z135 (t : zdy) : zui t = (z100 t && z8e t.2.2.1 0 t.2.2.2.1) := by
  unfold zui z100
  simp only [Bool.and_assoc]

theorem zzg (N : Nat) (hN : 101 < N) {s : zmk} {t : zdy} {i : Nat} (hi : i < s.1.length) (hl : s.1.length <= 30) (hp : ∀ t ∈ s.1, t.1.length <= 100) (k0 : Bool -> Option Bool) :
    z3a N s (i : Int) t k0 = k0 (!(z100 t && upL (zv4 s.1 i) t.1)) := by
  rw [z3a, zsd N (by omega), Option.bind_some, z100]
  cases z8l t.1 with
  | false => rfl
  | true =>
    rw [Bool.not_true, cond_false, zto, Option.bind_some, Bool.true_and]
    cases za8 t.2.1 0 with
    | false => rfl
    | true =>
      rw [Bool.not_true, cond_false, zto, Option.bind_some, Bool.true_and]
      cases za8 t.2.2.1 1 with
      | false => rfl
      | true =>
        rw [Bool.not_true, cond_false, Bool.true_and]
        by_cases h : t.2.2.2.1.length <= 8
        . rw [decide_eq_false (show ¬ (8 : Int) < ((t.2.2.2.1.length : Nat) : Int) by omega), cond_false, decide_eq_true h, Bool.true_and]
          by_cases h0 : i = 0
          . rw [z19 (decide_eq_false (by omega)), zv4, if_pos h0, upL]
            rfl
          . have hm := hp _ (zu1 s.1 z9w (i - 1) (by omega))
            rw [zl (decide_eq_true (by omega)), zt2 (x := ((i : Nat) : Int) - 1) (by unfold I64; omega), show ((i : Nat) : Int) - 1 = ((i - 1 : Nat) : Int) by omega, zl (z2m (by omega)), Int.toNat_natCast, zv4, if_neg h0, upL]
            rw [show (([] : List UInt8), ((0 : Int), ((0 : Int), (([] : List (Int × ((List UInt8) × Unit))), ())))) = z9w from rfl, zyb N (by omega) (by omega), Option.bind_some, z12p, Bool.not_not]
        . rw [decide_eq_true (show (8 : Int) < ((t.2.2.2.1.length : Nat) : Int) by omega), cond_true, decide_eq_false h, Bool.false_and]
          rfl

theorem zv0 (N : Nat) (hN : 101 < N) {s : zmk} (hl : s.1.length <= 30) (hp : ∀ t ∈ s.1, t.1.length <= 100) :
    z5d N s 0 (fun x21 => some x21) (some true) = some (z7l none s.1) := by
  rw [z5d]
  refine (z4n (fun v => ∃ (i : Nat), v = (i : Int) /\ i <= s.1.length) (fun v => s.1.length - v.toNat) (fun v => some (z7l (zv4 s.1 v.toNat) (s.1.drop v.toNat))) ?_ N 0 ⟨0, rfl, by omega⟩ (by omega)).trans (by rfl)
  rintro v r ⟨i, rfl, hi⟩ hr
  simp only [Int.toNat_natCast]
  rw [z57]
  by_cases hlt : i < s.1.length
  . have hrec : r (((i + 1 : Nat) : Int)) = some (z7l (some (s.1.getD i z9w).1) (s.1.drop (i + 1))) := by
      rw [hr _ ⟨i + 1, rfl, by omega⟩ (by omega), Int.toNat_natCast]
      rfl
    rw [zl (decide_eq_true (by omega)), z5c, zl (z2m hlt), Int.toNat_natCast, z4q s.1 z9w i hlt, z7l]
    rw [show (([] : List UInt8), ((0 : Int), ((0 : Int), (([] : List (Int × ((List UInt8) × Unit))), ())))) = z9w from rfl, z5b, zzg N hN hlt hl hp, z2q (by omega), hrec, z135]
    cases hu : upL (zv4 s.1 i) (s.1.getD i z9w).1 with
    | false => rw [Bool.and_false]; rfl
    | true =>
      rw [Bool.and_true, Bool.true_and]
      cases hh : z100 (s.1.getD i z9w) with
      | false => rfl
      | true =>
        have h8 : (s.1.getD i z9w).2.2.2.1.length <= 8 := by
          unfold z100 at hh
          simp only [Bool.and_eq_true, decide_eq_true_eq] at hh
          exact hh.2.2.2
        rw [Bool.not_true, cond_false, zv2 N (by omega) (by omega), Bool.true_and]
        cases z8e (s.1.getD i z9w).2.2.1 0 (s.1.getD i z9w).2.2.2.1 <;> rfl
  . rw [z19 (decide_eq_false (by omega)), z8k _ (by omega), z7l]

theorem zlp (N : Nat) (hN : 101 < N) {s : zmk} (hp : ∀ t ∈ s.1, t.1.length <= 100) : z2t N s = some (z89 s) := by
  rw [z2t, z5f, z5e, z89]
  by_cases h : s.1.length <= 16
  . rw [z19 (decide_eq_false (by omega)), zto, Option.bind_some, decide_eq_true h, Bool.true_and]
    cases za8 s.2.1 0 with
    | false => rfl
    | true =>
      rw [Bool.not_true, cond_false, Bool.true_and]
      exact zv0 N hN (by omega) hp
  . rw [zl (decide_eq_true (by omega)), cond_true, decide_eq_false h, Bool.false_and]

end
end Go.Proofs.YtobbmaplbpdniaaLg
