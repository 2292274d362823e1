import Derived.Test.YtdeemkigjeemjaaLgPrPl3
import Derived.Lib.MapLaws
import Derived.Test.YtdeemkigjeemjaaLgPrPl4
set_option linter.all false
namespace Go.Proofs.YtdeemkigjeemjaaPx
noncomputable section
open Go Go.Lift

theorem zzu (s : List UInt8) (i : Nat) : runeAt s i = Go.Lib.decodeN (s.length - i) (s.getD i 0).toNat (s.getD (i + 1) 0).toNat (s.getD (i + 2) 0).toNat (s.getD (i + 3) 0).toNat :=
  Go.Lib.decode_N ⟨⟨s⟩⟩ i

theorem zum {s : List UInt8} {i : Nat} (h : (s.getD i 0).toNat < 128) : runeAt s i = ((s.getD i 0).toNat, 1) := by
  rw [zzu]
  exact Go.Lib.decodeN_ascii _ _ _ _ _ h

theorem zw8 {s : List UInt8} {i : Nat} (hi : i < s.length) (h : 128 <= (s.getD i 0).toNat) :
    128 <= (runeAt s i).1 /\ 1 <= (runeAt s i).2 /\ i + (runeAt s i).2 <= s.length /\ ∀ j, i <= j -> j < i + (runeAt s i).2 -> 128 <= (s.getD j 0).toNat := by
  rw [zzu]
  rcases Go.Lib.decodeN_shape (s.length - i) (s.getD i 0).toNat (s.getD (i + 1) 0).toNat (s.getD (i + 2) 0).toNat (s.getD (i + 3) 0).toNat with ⟨h1, e⟩ | ⟨h1, h2, h3, h4, e⟩ | ⟨h1, h2, h3, h4, h5, h6, e⟩ | ⟨h1, h2, h3, h4, h5, h6, h7, e⟩ | e
  . omega
  . rw [e]
    refine ⟨h4, by omega, by dsimp only; omega, fun j hj hj2 => ?_⟩
    dsimp only at hj2
    obtain rfl | rfl : j = i \/ j = i + 1 := by omega
    . exact h
    . omega
  . rw [e]
    refine ⟨by dsimp only; omega, by omega, by dsimp only; omega, fun j hj hj2 => ?_⟩
    dsimp only at hj2
    obtain rfl | rfl | rfl : j = i \/ j = i + 1 \/ j = i + 2 := by omega
    . exact h
    . omega
    . omega
  . rw [e]
    refine ⟨by dsimp only; omega, by omega, by dsimp only; omega, fun j hj hj2 => ?_⟩
    dsimp only at hj2
    obtain rfl | rfl | rfl | rfl : j = i \/ j = i + 1 \/ j = i + 2 \/ j = i + 3 := by omega
    . exact h
    . omega
    . omega
    . omega
  . rw [e]
    refine ⟨by omega, by omega, by dsimp only; omega, fun j hj hj2 => ?_⟩
    dsimp only at hj2
    obtain rfl : j = i := by omega
    exact h

end
end Go.Proofs.YtdeemkigjeemjaaPx

set_option linter.all false
namespace Go.Proofs.YtdeemkigjeemjaaPx
noncomputable section
open Go Go.Lift

def zye (c : Nat) (first : Bool) : Bool := decide (97 <= c /\ c <= 122) || (decide ((48 <= c /\ c <= 57) \/ c = 45) && !first)

theorem zq5 {c : Nat} (h : 128 <= c) (f : Bool) : zye c f = false := by
  simp only [zye, Bool.or_eq_false_iff, decide_eq_false_iff_not, Bool.and_eq_false_iff]
  exact ⟨by omega, .inl (by omega)⟩
def z11j (p : Nat -> Bool -> Bool) : List UInt8 -> Bool -> Bool
  | [], _ => true
  | u :: r, f => p u.toNat f && z11j p r false

def zq4 (s : List UInt8) : Bool := decide (1 <= s.length /\ s.length <= 32) && z11j zye s true


end
end Go.Proofs.YtdeemkigjeemjaaPx

set_option linter.all false
set_option maxRecDepth 100000
namespace Go.Proofs.YtdeemkigjeemjaaLg
noncomputable section
open Go Go.Lift Go.Proofs.YtdeemkigjeemjaaPx

theorem zrt (N : Nat) (c : Nat) (f : Bool) : z64 N (c : Int) f = some (zye c f) := by
  simp only [z64, z7i, zfe, zye, Bool.cond_eq_ite, decide_eq_true_eq, beq_iff_eq]
  have key : (if (48 : Int) <= c then some (decide ((c : Int) <= 57)) else some false) = some (decide (48 <= c /\ c <= 57)) := by
    split
    . congr 1; rw [Bool.eq_iff_iff, decide_eq_true_eq, decide_eq_true_eq]; omega
    . congr 1; rw [Bool.eq_iff_iff, decide_eq_true_eq]; simp; omega
  rw [key]
  simp only [Option.bind_some, decide_eq_true_eq, Bool.false_eq_true, if_false]
  by_cases h1 : 97 <= c /\ c <= 122
  . rw [if_pos (by omega), if_pos (by omega)]; simp [h1]
  have hx : ∀ X Y : Option Bool, (if (97 : Int) <= c then if (c : Int) <= 122 then Y else X else X) = X := by
    intro X Y
    repeat' split
    all_goals first
      | rfl
      | omega
  rw [hx, decide_eq_false h1, Bool.false_or]
  by_cases h4 : 48 <= c /\ c <= 57
  . rw [if_pos h4, decide_eq_true (p := (48 <= c /\ c <= 57) \/ c = 45) (.inl h4), Bool.true_and]
  . rw [if_neg h4]
    by_cases h5 : c = 45
    . subst h5; simp
    . rw [if_neg (by omega), decide_eq_false (by omega), Bool.false_and]

theorem ztx (i : Nat) : ((((i : Nat) : Int)) == 0) = decide (i = 0) := by
  rw [Bool.eq_iff_iff, beq_iff_eq, decide_eq_true_eq]; omega

theorem zvp (N : Nat) {s : List UInt8} (hN : 40 < N) : z65 N s = some (zq4 s) := by
  simp only [z65, z7l, z7k, zq4]
  by_cases h0 : s = []
  . subst h0; rfl
  have hl : s.length ≠ 0 := fun e => h0 (List.length_eq_zero_iff.1 e)
  rw [z13 (by simpa using h0)]
  by_cases h1 : 32 < s.length
  . rw [zw (z2v (by omega)), decide_eq_false (by omega)]; rfl
  rw [z13 (z3k (by omega)), decide_eq_true (p := 1 <= s.length /\ s.length <= 32) (by omega), Bool.true_and]
  simp only [zd4]
  rw [zcl (I := fun (v : List UInt8 × Nat) => v.1 = s /\ v.2 <= s.length) (m := fun (v : List UInt8 × Nat) => s.length - v.2) (R := fun (v : List UInt8 × Nat) => some (z11j zye (s.drop v.2) (decide (v.2 = 0)))) ?_ N (s, 0) ⟨rfl, Nat.zero_le _⟩ (by dsimp only; omega)]
  . simp
  rintro ⟨s', i⟩ r ⟨rfl, hi⟩ hr
  dsimp only at *
  simp only [z7j, ztx]
  by_cases hlt : i < s'.length
  . rw [zw (z2v hlt), zrt, Option.bind_some, zbs s' 0 i hlt]
    simp only [z11j]
    by_cases h128 : (s'.getD i 0).toNat < 128
    . rw [zum h128]
      dsimp only
      cases hp : zye (s'.getD i 0).toNat (decide (i = 0)) with
      | false => rfl
      | true =>
        rw [Bool.not_true, cond_false, hr _ ⟨rfl, by dsimp only; omega⟩ (by dsimp only; omega)]
        dsimp only
        rw [decide_eq_false (by omega), Bool.true_and]
    . obtain ⟨g1, _⟩ := zw8 hlt (by omega)
      rw [zq5 g1, zq5 (by omega)]; rfl
  . rw [z13 (z3k hlt), zbr s' (by omega)]; rfl

theorem z10b (N : Nat) {s : List UInt8} (hN : 40 < N) : zep N s = some (zq4 s) := by
  simp only [zep, zvp N hN, Option.bind_some]


theorem zus (N : Nat) {s : List UInt8} (hN : 40 < N) : z3b N s = some (zq4 s) := by
  simp only [z3b, z53, z52, zq4]
  by_cases h0 : s.length = 0
  . rw [zw (z2v (by omega)), decide_eq_false (by omega)]; rfl
  rw [z13 (z3k (by omega))]
  by_cases h1 : 32 < s.length
  . rw [zw (z2v (by omega)), decide_eq_false (by omega)]; rfl
  rw [z13 (z3k (by omega)), decide_eq_true (p := 1 <= s.length /\ s.length <= 32) (by omega), Bool.true_and]
  simp only [z8q]
  rw [zcl (I := fun (v : Int) => 0 <= v /\ v <= ((s.length : Nat) : Int)) (m := fun (v : Int) => s.length - v.toNat) (R := fun (v : Int) => some (z11j zye (s.drop v.toNat) (decide (v.toNat = 0)))) ?_ N 0 ⟨by omega, by omega⟩ (by omega)]
  . simp
  intro v r ⟨h2, h3⟩ hr
  obtain ⟨i, rfl⟩ := Int.eq_ofNat_of_zero_le h2
  simp only [z4z, z51, Int.toNat_natCast] at *
  by_cases hlt : i < s.length
  . have p5 : ∀ k0 : Bool -> Option Bool, z35 N s (i : Int) k0 = k0 (decide (97 <= (s.getD i 0).toNat /\ (s.getD i 0).toNat <= 122)) := by
      intro k0
      simp only [z35, Int.toNat_natCast]
      rw [zw (z67 hlt), zw (z67 hlt)]
      by_cases h : 97 <= (s.getD i 0).toNat
      . rw [zw (z2v (by omega))]; congr 1; rw [Bool.eq_iff_iff, decide_eq_true_eq, decide_eq_true_eq]; omega
      . rw [z13 (z3k (by omega)), decide_eq_false (by omega)]
    have p6 : ∀ (b : Bool) (k0 : Bool -> Option Bool), z34 N s (i : Int) b k0 = k0 (decide ((48 <= (s.getD i 0).toNat /\ (s.getD i 0).toNat <= 57) \/ (s.getD i 0).toNat = 45)) := by
      intro b k0
      simp only [z34, Int.toNat_natCast]
      rw [zw (z67 hlt), zw (z67 hlt), zw (z67 hlt)]
      by_cases h45 : (s.getD i 0).toNat = 45
      . rw [zw (by rw [h45]; rfl), decide_eq_true (by omega)]
      . rw [z13 (by rw [beq_eq_false_iff_ne]; omega)]
        by_cases h : 48 <= (s.getD i 0).toNat
        . rw [zw (z2v (by omega))]; congr 1; rw [Bool.eq_iff_iff, decide_eq_true_eq, decide_eq_true_eq]; omega
        . rw [z13 (z3k (by omega)), decide_eq_false (by omega)]
    rw [zw (z2v (by omega)), p5, p6, zbs s 0 i hlt]
    simp only [z50, ztx, z11j, zye]
    have hrec : r ((i + 1 : Nat) : Int) = some (z11j zye (s.drop (i + 1)) false) := by
      rw [hr _ ⟨by omega, by omega⟩ (by omega), Int.toNat_natCast, decide_eq_false (by omega)]
    rw [z3l (by omega), hrec]
    generalize decide (97 <= (s.getD i 0).toNat /\ (s.getD i 0).toNat <= 122) = p
    generalize decide ((48 <= (s.getD i 0).toNat /\ (s.getD i 0).toNat <= 57) \/ (s.getD i 0).toNat = 45) = q
    generalize decide (i = 0) = f
    cases p <;> cases q <;> cases f <;> rfl
  . rw [z13 (z3k (by omega)), zbr s (by omega)]; rfl

end
end Go.Proofs.YtdeemkigjeemjaaLg

set_option linter.all false
set_option maxRecDepth 100000
namespace Go.Proofs.YtdeemkigjeemjaaLg
noncomputable section
open Go Go.Lift Go.Proofs.YtdeemkigjeemjaaPx

abbrev CL : Type := List UInt8 × Int × Int × Unit
abbrev AK : Type := List UInt8 × List UInt8 × Int × Unit
abbrev OW : Type := List UInt8 × List UInt8 × Unit
abbrev RT : Type := List CL × Int × Option (List (OW × BK)) × Unit

theorem zp4 (N : Nat) (n : Int) : z3p N n = some (decide (zno n)) := by
  unfold z3p zno
  by_cases h : 0 <= n
  . rw [zw (z2v h)]; simp [h]
  . rw [z13 (z3k h)]; simp [h]


def z118 (c : List UInt8) : List CL -> Int -> Int
  | [], _ => -1
  | x :: l, i => if x.1 = c then i else z118 c l (i + 1)

theorem zth (N : Nat) (l : List CL) (c : List UInt8) (hN : l.length < N) (hl : l.length < 9223372036854775807) : z8f N l c = some (z118 c l 0) := by
  simp only [z8f, zff, zi3]
  rw [zcl (I := fun (v : Int) => 0 <= v /\ v <= ((l.length : Nat) : Int)) (m := fun (v : Int) => l.length - v.toNat) (R := fun (v : Int) => some (z118 c (l.drop v.toNat) v)) ?_ N 0 ⟨by omega, by omega⟩ (by omega)]
  . simp
  intro v r ⟨h2, h3⟩ hr
  obtain ⟨i, rfl⟩ := Int.eq_ofNat_of_zero_le h2
  simp only [zcm, Int.toNat_natCast] at *
  by_cases hlt : i < l.length
  . rw [zw (z2v (by omega)), zw (z67 hlt), zbs l (([] : List UInt8), ((0 : Int), ((0 : Int), ()))) i hlt]
    simp only [z118]
    by_cases hc : (l.getD i (([] : List UInt8), ((0 : Int), ((0 : Int), ())))).1 = c
    . rw [zw (by rw [hc]; simp), if_pos hc]
    . rw [z13 (by simpa using hc), if_neg hc, z3l (by omega), hr _ ⟨by omega, by omega⟩ (by omega), Int.toNat_natCast]
      rfl
  . rw [z13 (z3k (by omega)), zbr l (by omega)]; rfl

def zcq (l : List CL) (c : List UInt8) : Option CL := l.find? (fun x => decide (x.1 = c))

theorem zmh (c : List UInt8) : ∀ (l : List CL) (i : Int), 0 <= i -> (z118 c l i = -1 /\ zcq l c = none) \/ ∃ k : Nat, z118 c l i = i + k /\ k < l.length /\ zcq l c = some (l.getD k (([] : List UInt8), ((0 : Int), ((0 : Int), ()))))
  | [], _, _ => .inl ⟨rfl, rfl⟩
  | x :: l, i, hi => by
    simp only [z118, zcq, List.find?_cons]
    by_cases h : x.1 = c
    . rw [if_pos h, decide_eq_true h]
      exact .inr ⟨0, by simp, by simp, by simp⟩
    . rw [if_neg h, decide_eq_false h]
      rcases zmh c l (i + 1) (by omega) with ⟨h1, h2⟩ | ⟨k, h1, h2, h3⟩
      . exact .inl ⟨h1, h2⟩
      . exact .inr ⟨k + 1, by rw [h1]; omega, by simpa using h2, by rw [List.getD_cons_succ]; exact h3⟩


def zr8 (l : List CL) (start : Int) (c : List UInt8) : BK × Bool × Unit := match zcq l c with
  | none => ((0, (0, (0, (0, ())))), (false, ()))
  | some x => ((x.2.1, (x.2.2.1, (0, (start, ())))), (true, ()))

theorem zxj (N : Nat) (l : List CL) (start : Int) (t c : List UInt8) (hN : l.length < N) (hl : l.length < 9223372036854775807) : zi6 N l start (t, (c, ())) = some (zr8 l start c) := by
  unfold zi6 z20
  dsimp only
  rw [zth N l c hN hl, Option.bind_some]
  unfold zr8
  rcases zmh c l 0 (by omega) with ⟨h1, h2⟩ | ⟨k, h1, h2, h3⟩
  . rw [h1, h2]; rfl
  . rw [h1, h3]
    have hk : (0 : Int) + (k : Int) = (k : Int) := by omega
    rw [hk, z13 (z3k (by omega)), zw (z67 h2), Int.toNat_natCast, zw (z2v h2)]
    rfl


theorem zyz (a b : OW) : eqD OwT a b = decide (a = b) := z11a (t := OwT) rfl

abbrev z103 (xs : List (OW × BK)) (t c : List UInt8) : Option BK := z4m (eqD OwT) (t, (c, ())) xs

theorem zl5 (o : OW) (v : BK) (t c : List UInt8) : ∀ xs : List (OW × BK), z103 (zoz (eqD OwT) o v xs) t c = if o = (t, (c, ())) then some v else z103 xs t c
  | [] => by
    show z4m (eqD OwT) (t, (c, ())) [(o, v)] = _
    simp only [z4m, zyz, z103]
    by_cases h : o = (t, (c, ()))
    . rw [if_pos h, decide_eq_true h.symm]
    . rw [if_neg h, decide_eq_false (fun e => h e.symm)]
  | x :: xs => by
    have ih := zl5 o v t c xs
    simp only [z103, zoz, zyz] at ih ⊢
    by_cases hx : o = x.1
    . rw [decide_eq_true hx]
      simp only [z4m, zyz]
      by_cases h : o = (t, (c, ()))
      . rw [if_pos h, decide_eq_true h.symm]
      . rw [if_neg h, decide_eq_false (fun e => h e.symm), <- hx, decide_eq_false (fun e => h e.symm)]
    . rw [decide_eq_false hx]
      simp only [z4m, zyz]
      by_cases h : (t, (c, ())) = x.1
      . rw [decide_eq_true h]
        rw [if_neg (fun e => hx (by rw [e, h]))]
      . rw [decide_eq_false h]
        exact ih


def zws (l : List CL) (start : Int) (xs : List (OW × BK)) (t c : List UInt8) : BK × Bool × Unit := match z103 xs t c with
  | some b => (b, (true, ()))
  | none => zr8 l start c

theorem zte (N : Nat) (l : List CL) (start : Int) (xs : List (OW × BK)) (t c : List UInt8) (hN : l.length < N) (hl : l.length < 9223372036854775807) : z24 N (l, (start, (some xs, ()))) (t, (c, ())) = some (zws l start xs t c, (l, (start, (some xs, ())))) := by
  have e : zws l start xs t c = match z4m (eqD OwT) (t, (c, ())) xs with
    | some b => (b, (true, ()))
    | none => zr8 l start c := rfl
  rw [e]
  unfold z24
  dsimp only [Option.getD_some]
  cases h : z4m (eqD OwT) (t, (c, ())) xs with
  | some b => rfl
  | none =>
    dsimp only
    rw [zxj N l start t c hN hl]
    rfl

theorem zyr (N : Nat) (l : List CL) (start : Int) (xs : List (OW × BK)) (t c : List UInt8) {now : Int} (hn : I64 now) (hN : l.length < N) (hl : l.length < 9223372036854775807) :
    z2l N (l, (start, (some xs, ()))) t c now = some ((if (zws l start xs t c).2.1 then (atB (zws l start xs t c).1 now).2.2.1 else 0), ((l, (start, (some xs, ()))), ())) := by
  unfold z2l
  dsimp only
  rw [zte N l start xs t c hN hl, Option.bind_some]
  dsimp only
  cases (zws l start xs t c).2.1 with
  | true => rw [cond_true, z127 N _ hn]; rfl
  | false => rfl

theorem zyn (N : Nat) (l : List CL) (start : Int) (xs : List (OW × BK)) (t c : List UInt8) {now : Int} (hn : I64 now) (hN : l.length < N) (hl : l.length < 9223372036854775807) :
    z1n N (l, (start, (some xs, ()))) t c now = some (if (zws l start xs t c).2.1 then ((if (zn1 (zws l start xs t c).1 now).2.1 then 0 else 17), ((l, (start, (some (zoz (eqD OwT) (t, (c, ())) (zn1 (zws l start xs t c).1 now).1 xs), ()))), ())) else (6, ((l, (start, (some xs, ()))), ()))) := by
  unfold z1n
  dsimp only
  rw [zte N l start xs t c hN hl, Option.bind_some]
  dsimp only
  cases (zws l start xs t c).2.1 with
  | true => rw [cond_true, z10u N _ hn]; rfl
  | false => rfl

theorem zwh (N : Nat) (l : List CL) (start : Int) (xs : List (OW × BK)) (now : Int) : z3a N (l, (start, (some xs, ()))) now = some ((), ((if zno now then (l, (now, (some [], ()))) else (l, (start, (some xs, ())))), ())) := by
  simp only [z3a, z4x, Option.isSome_some, Bool.not_true, Bool.not_false, cond_true, zp4, Option.bind_some]
  by_cases h : zno now
  . rw [decide_eq_true h, if_pos h]; rfl
  . rw [decide_eq_false h, if_neg h]; rfl


def chkX (l : List CL) (x : CL) : Int :=
 if zq4 x.1 = false then 4
 else if ¬ (zno x.2.1 /\ zno x.2.2.1) then 7
 else if (zcq l x.1).isSome then 5 else 0

def zzf (l : List CL) (i : Nat) : Int := chkX (l.take i) (l.getD i (([] : List UInt8), ((0 : Int), ((0 : Int), ()))))

def zmo (l : List CL) : Nat -> Nat -> Int
  | 0, _ => 0
  | n + 1, i => cond (zzf l i != 0) (zzf l i) (zmo l n (i + 1))

def chk (l : List CL) : Int := if 8 < l.length then 3 else zmo l l.length 0

theorem zqu (N : Nat) (l : List CL) (hN : 40 < N) : z89 N l = some (chk l) := by
  simp only [z89, chk]
  by_cases h8 : 8 < l.length
  . rw [zw (z2v (by omega)), if_pos h8]
  rw [z13 (z3k (by omega)), if_neg h8]
  simp only [zhj]
  rw [zcl (I := fun (v : Int) => 0 <= v /\ v <= ((l.length : Nat) : Int)) (m := fun (v : Int) => l.length - v.toNat) (R := fun (v : Int) => some (zmo l (l.length - v.toNat) v.toNat)) ?_ N 0 ⟨by omega, by omega⟩ (by omega)]
  . simp
  intro v r ⟨h2, h3⟩ hr
  obtain ⟨i, rfl⟩ := Int.eq_ofNat_of_zero_le h2
  simp only [zcb]
  rw [show some (zmo l (l.length - Int.toNat (i : Int)) (Int.toNat (i : Int))) = some (zmo l (l.length - i) i) from by rw [Int.toNat_natCast]]
  rw [Int.toNat_natCast] at hr
  by_cases hlt : i < l.length
  . obtain ⟨n, hn⟩ : ∃ n, l.length - i = n + 1 := ⟨l.length - i - 1, by omega⟩
    rw [zw (z2v (by omega)), zw (z67 hlt), z10b N hN, Option.bind_some, hn]
    simp only [zmo, zzf]
    generalize hx : l.getD (Int.toNat (i : Int)) (([] : List UInt8), ((0 : Int), ((0 : Int), ()))) = x
    have hx' : l.getD i (([] : List UInt8), ((0 : Int), ((0 : Int), ()))) = x := by rw [<- hx, Int.toNat_natCast]
    rw [hx', Int.toNat_natCast]
    unfold chkX
    cases hw : zq4 x.1 with
    | false => rw [if_pos rfl]; rfl
    | true =>
      rw [if_neg (by simp)]
      simp only [Bool.not_true, cond_false, zcc, zp4, Option.bind_some]
      by_cases o1 : zno x.2.1
      . rw [decide_eq_true o1]
        simp only [Bool.not_true, cond_false]
        by_cases o2 : zno x.2.2.1
        . rw [decide_eq_true o2]
          simp only [Bool.not_true, cond_false]
          rw [if_neg (fun h => h ⟨o1, o2⟩), zw (z2v ⟨by omega, by omega⟩), zzb, zth N (l.take i) x.1 (by rw [List.length_take]; omega) (by rw [List.length_take]; omega), Option.bind_some]
          rcases zmh x.1 (l.take i) 0 (by omega) with ⟨g1, g2⟩ | ⟨k, g1, g2, g3⟩
          . rw [g1, g2, z13 (by decide), z3l (by omega), hr _ ⟨by omega, by omega⟩ (by omega), Int.toNat_natCast]
            rw [show l.length - (i + 1) = n by omega]
            rfl
          . rw [g1, g3, zw (z2v (by omega))]
            rfl
        . rw [decide_eq_false o2, if_pos (fun h => o2 h.2)]; rfl
      . rw [decide_eq_false o1, if_pos (fun h => o1 h.1)]; rfl
  . rw [z13 (z3k (by omega)), show l.length - i = 0 by omega]; rfl

theorem zlo (N : Nat) (l : List CL) (hN : 40 < N) : z1i N l = some (chk l) := by
  simp only [z1i, chk]
  by_cases h8 : 8 < l.length
  . rw [zw (z2v (by omega)), if_pos h8]
  rw [z13 (z3k (by omega)), if_neg h8]
  simp only [z7q]
  rw [zcl (I := fun (v : Int) => 0 <= v /\ v <= ((l.length : Nat) : Int)) (m := fun (v : Int) => l.length - v.toNat) (R := fun (v : Int) => some (zmo l (l.length - v.toNat) v.toNat)) ?_ N 0 ⟨by omega, by omega⟩ (by omega)]
  . simp
  intro v r ⟨h2, h3⟩ hr
  obtain ⟨i, rfl⟩ := Int.eq_ofNat_of_zero_le h2
  simp only [z4d, z4h, z4g, z4f]
  rw [show some (zmo l (l.length - Int.toNat (i : Int)) (Int.toNat (i : Int))) = some (zmo l (l.length - i) i) from by rw [Int.toNat_natCast]]
  rw [Int.toNat_natCast] at hr
  by_cases hlt : i < l.length
  . obtain ⟨n, hn⟩ : ∃ n, l.length - i = n + 1 := ⟨l.length - i - 1, by omega⟩
    -- the inner loop
    have hin : ∀ k0 : Int -> Option Int, ∀ k1 : Option Int, z4e N l (i : Int) 0 k0 k1 = cond (zcq (l.take i) (l.getD i (([] : List UInt8), ((0 : Int), ((0 : Int), ())))).1).isSome (k0 5) k1 := by
      intro k0 k1
      simp only [z4e]
      rw [zcl (I := fun (v : Int) => 0 <= v /\ v <= (i : Int)) (m := fun (v : Int) => i - v.toNat) (R := fun (v : Int) => cond (zcq ((l.take i).drop v.toNat) (l.getD i (([] : List UInt8), ((0 : Int), ((0 : Int), ())))).1).isSome (k0 5) k1) ?_ N 0 ⟨by omega, by omega⟩ (by omega)]
      . simp
      intro v r ⟨g2, g3⟩ gr
      obtain ⟨k, rfl⟩ := Int.eq_ofNat_of_zero_le g2
      simp only [z4c, Int.toNat_natCast] at *
      by_cases hk : k < i
      . rw [zw (z2v (by omega)), zw (z67 (by omega)), zw (z67 hlt)]
        have hd : (l.take i).getD k (([] : List UInt8), ((0 : Int), ((0 : Int), ()))) = l.getD k (([] : List UInt8), ((0 : Int), ((0 : Int), ()))) := by
          simp [List.getD, List.getElem?_take, hk]
        rw [zbs (l.take i) (([] : List UInt8), ((0 : Int), ((0 : Int), ()))) k (by rw [List.length_take]; omega), hd]
        simp only [zcq, List.find?_cons]
        by_cases he : (l.getD k (([] : List UInt8), ((0 : Int), ((0 : Int), ())))).1 = (l.getD i (([] : List UInt8), ((0 : Int), ((0 : Int), ())))).1
        . rw [zw (by rw [he]; simp), decide_eq_true he]
          rfl
        . rw [z13 (by simpa using he), decide_eq_false he, z3l (by omega), gr _ ⟨by omega, by omega⟩ (by omega), Int.toNat_natCast]
          rfl
      . rw [z13 (z3k (by omega)), zbr (l.take i) (by rw [List.length_take]; omega)]
        rfl
    rw [zw (z2v (by omega)), hn]
    generalize hx : l.getD (Int.toNat (i : Int)) (([] : List UInt8), ((0 : Int), ((0 : Int), ()))) = x
    have hx' : l.getD i (([] : List UInt8), ((0 : Int), ((0 : Int), ()))) = x := by rw [<- hx, Int.toNat_natCast]
    simp only [hx'] at hin
    simp only [hin]
    have hir := z67 (n := i) (len := l.length) hlt
    simp only [hir, cond_true]
    rw [zus N hN, Option.bind_some]
    simp only [zmo, zzf]
    have hrec : r ((i + 1 : Nat) : Int) = some (zmo l n (i + 1)) := by
      rw [hr _ ⟨by omega, by omega⟩ (by omega), Int.toNat_natCast, show l.length - (i + 1) = n by omega]
    rw [z3l (by omega), hrec]
    rw [hx']
    unfold chkX
    cases hw : zq4 x.1 with
    | false => rw [if_pos rfl]; rfl
    | true =>
      rw [if_neg (by simp)]
      simp only [Bool.not_true, cond_false]
      by_cases a1 : x.2.1 < 0
      . rw [zw (z2v a1), if_pos (fun h => by have := h.1.1; omega)]; rfl
      rw [z13 (z3k a1)]
      by_cases a2 : 1099511627776 < x.2.1
      . rw [zw (z2v a2), if_pos (fun h => by have := h.1.2; omega)]; rfl
      rw [z13 (z3k a2)]
      by_cases a3 : x.2.2.1 < 0
      . rw [zw (z2v a3), if_pos (fun h => by have := h.2.1; omega)]; rfl
      rw [z13 (z3k a3)]
      by_cases a4 : 1099511627776 < x.2.2.1
      . rw [z2v a4, cond_true, if_pos (fun h => by have := h.2.2; omega)]; rfl
      rw [z3k a4, cond_false, if_neg (fun h => h ⟨⟨by omega, by omega⟩, ⟨by omega, by omega⟩⟩)]
      cases (zcq (l.take i) x.1).isSome with
      | true => simp
      | false => simp
  . rw [z13 (z3k (by omega)), show l.length - i = 0 by omega]; rfl

theorem z10z (N : Nat) (l : List CL) (now : Int) (hN : 40 < N) (hl : l.length <= 1000) : zfc N l now = some (if chk l ≠ 0 then (none, (chk l, ())) else if zno now then (some (l, (now, (some [], ()))), (0, ())) else (none, (7, ()))) := by
  simp only [zfc, zqu N l hN, Option.bind_some, zp4]
  by_cases hc : chk l = 0
  . rw [z13 (by rw [hc]; rfl), if_neg (fun h => h hc)]
    by_cases h : zno now
    . rw [decide_eq_true h, if_pos h]
      simp only [Bool.not_true, cond_false, zh2]
      rw [zw (z2v (by omega))]
      rfl
    . rw [decide_eq_false h, if_neg h]; rfl
  . rw [zw (by simpa using hc), if_pos hc]

theorem zqi (k : Nat) : z1s (k + 1000) = some true := by kernel_rfl

end
end Go.Proofs.YtdeemkigjeemjaaLg

set_option linter.all false
set_option maxRecDepth 100000
namespace Go.Proofs.YtdeemkigjeemjaaLg
noncomputable section
open Go Go.Lift Go.Proofs.YtdeemkigjeemjaaPx


def zov (t c : List UInt8) (b : BK) (a : AK) : BK := if a.1 = t /\ a.2.1 = c then (zn1 b a.2.2.1).1 else b

def zra (t c : List UInt8) (b : BK) (seg : List AK) : BK := seg.foldl (zov t c) b

theorem zol (t c : List UInt8) (b : BK) (seg : List AK) (a : AK) : zra t c b (seg ++ [a]) = zov t c (zra t c b seg) a := by simp [zra]

def ztk (l : List CL) (begun : Int) (seg : List AK) (t c : List UInt8) : BK × Bool × Unit := match zcq l c with
  | none => ((0, (0, (0, (0, ())))), (false, ()))
  | some x => (zra t c (x.2.1, (x.2.2.1, (0, (begun, ())))) seg, (true, ()))

theorem zwg (N : Nat) (seg : List AK) (t c : List UInt8) (x10 b : BK) (hs : seg.length < N) (hl : seg.length < 9223372036854775807) (hi : ∀ a ∈ seg, I64 a.2.2.1) (k0 : BK -> Option (BK × Bool × Unit)) : z3z N seg t c x10 b 0 k0 = k0 (zra t c b seg) := by
  simp only [z3z]
  rw [zcl (I := fun (v : BK × Int) => 0 <= v.2 /\ v.2 <= ((seg.length : Nat) : Int)) (m := fun (v : BK × Int) => seg.length - v.2.toNat) (R := fun (v : BK × Int) => k0 (zra t c v.1 (seg.drop v.2.toNat))) ?_ N (b, 0) ⟨by dsimp only; omega, by dsimp only; omega⟩ (by dsimp only; omega)]
  . simp
  rintro ⟨b, v⟩ r ⟨h2, h3⟩ hr
  dsimp only at *
  obtain ⟨i, rfl⟩ := Int.eq_ofNat_of_zero_le h2
  simp only [z3v, z3y, z3x]
  rw [Int.toNat_natCast] at *
  by_cases hlt : i < seg.length
  . rw [zw (z2v (by omega))]
    simp only [z67 hlt, cond_true]
    rw [zbs seg (([] : List UInt8), (([] : List UInt8), ((0 : Int), ()))) i hlt]
    have ha := hi _ (ztv seg (([] : List UInt8), (([] : List UInt8), ((0 : Int), ()))) i hlt)
    generalize seg.getD i (([] : List UInt8), (([] : List UInt8), ((0 : Int), ()))) = a at *
    have hrec : ∀ b', r (b', ((i + 1 : Nat) : Int)) = k0 (zra t c b' (seg.drop (i + 1))) := fun b' => by
      rw [hr (b', ((i + 1 : Nat) : Int)) ⟨by dsimp only; omega, by dsimp only; omega⟩ (by dsimp only; omega), Int.toNat_natCast]
    rw [z3l (by omega)]
    simp only [hrec, zo7 N b ha, Option.bind_some]
    show _ = k0 ((seg.drop (i + 1)).foldl (zov t c) (zov t c b a))
    by_cases h1 : a.1 = t
    . rw [zw (by rw [h1]; simp)]
      by_cases h2 : a.2.1 = c
      . rw [zw (by rw [h2]; simp)]
        simp only [zov, h1, h2, and_self, if_true]
        rfl
      . rw [z13 (by simpa using h2)]
        simp only [zov, h2, and_false, if_false]
        rfl
    . rw [z13 (by simpa using h1), cond_false]
      simp only [zov, h1, false_and, if_false]
      rfl
  . rw [z13 (z3k (by omega)), zbr seg (by omega)]; rfl

theorem zqt (N : Nat) (l : List CL) (begun : Int) (seg : List AK) (t c : List UInt8) (hN : l.length < N) (hlb : l.length < 9223372036854775807) (hs : seg.length < N) (hl : seg.length < 9223372036854775807) (hi : ∀ a ∈ seg, I64 a.2.2.1) :
    z2h N l begun seg t c = some (ztk l begun seg t c) := by
  simp only [z2h, z73]
  rw [zcl (I := fun (v : Int) => 0 <= v /\ v <= ((l.length : Nat) : Int)) (m := fun (v : Int) => l.length - v.toNat) (R := fun (v : Int) => some (ztk (l.drop v.toNat) begun seg t c)) ?_ N 0 ⟨by omega, by omega⟩ (by omega)]
  . simp
  intro v r ⟨h2, h3⟩ hr
  obtain ⟨i, rfl⟩ := Int.eq_ofNat_of_zero_le h2
  simp only [z3w, zwg N seg t c _ _ hs hl hi]
  rw [Int.toNat_natCast] at *
  by_cases hlt : i < l.length
  . rw [zw (z2v (by omega))]
    simp only [z67 hlt, cond_true]
    rw [zbs l (([] : List UInt8), ((0 : Int), ((0 : Int), ()))) i hlt]
    generalize l.getD i (([] : List UInt8), ((0 : Int), ((0 : Int), ()))) = x
    simp only [ztk, zcq, List.find?_cons]
    by_cases hc : x.1 = c
    . rw [z13 (by rw [hc]; simp), decide_eq_true hc]
    . rw [zw (by simpa using hc), decide_eq_false hc, z3l (by omega), hr _ ⟨by omega, by omega⟩ (by omega), Int.toNat_natCast]
      rfl
  . rw [z13 (z3k (by omega)), zbr l (by omega)]; rfl


def z85 (l : List CL) (begun : Int) (seg : List AK) (xs : List (OW × BK)) (t c : List UInt8) : Prop := match zcq l c with
  | none => z103 xs t c = none
  | some x => (z103 xs t c).getD (x.2.1, (x.2.2.1, (0, (begun, ())))) = zra t c (x.2.1, (x.2.2.1, (0, (begun, ())))) seg

theorem zz2 {l : List CL} {begun : Int} {seg : List AK} {xs : List (OW × BK)} {t c : List UInt8} (h : z85 l begun seg xs t c) : zws l begun xs t c = ztk l begun seg t c := by
  unfold z85 at h
  unfold zws ztk zr8
  cases hc : zcq l c with
  | none => rw [hc] at h; dsimp only at h ⊢; rw [h]
  | some x =>
    rw [hc] at h
    dsimp only at h ⊢
    cases hg : z103 xs t c with
    | none => rw [hg] at h; dsimp only at h ⊢; rw [<- h]; rfl
    | some b => rw [hg] at h; dsimp only at h ⊢; rw [<- h]; rfl

theorem zr5 (l : List CL) (begun : Int) (t c : List UInt8) : z85 l begun [] [] t c := by
  unfold z85
  cases zcq l c <;> rfl

theorem zi2 {l : List CL} {begun : Int} {seg : List AK} {xs : List (OW × BK)} {t c : List UInt8} {a : AK} (h : z85 l begun seg xs t c) (ha : ¬ (a.1 = t /\ a.2.1 = c)) : z85 l begun (seg ++ [a]) xs t c := by
  unfold z85 at *
  cases hc : zcq l c with
  | none => rw [hc] at h; exact h
  | some x =>
    rw [hc] at h
    dsimp only at h ⊢
    rw [zol, h, zov, if_neg ha]

theorem zz7 {l : List CL} {begun : Int} {seg : List AK} {xs : List (OW × BK)} {a : AK} (h : z85 l begun seg xs a.1 a.2.1) (hi : (ztk l begun seg a.1 a.2.1).2.1 = true) {t c : List UInt8} (h' : z85 l begun seg xs t c) :
    z85 l begun (seg ++ [a]) (zoz (eqD OwT) (a.1, (a.2.1, ())) (zn1 (ztk l begun seg a.1 a.2.1).1 a.2.2.1).1 xs) t c := by
  by_cases he : a.1 = t /\ a.2.1 = c
  . obtain ⟨rfl, rfl⟩ := he
    unfold z85
    unfold ztk at hi ⊢
    cases hc : zcq l a.2.1 with
    | none => rw [hc] at hi; cases hi
    | some x =>
      dsimp only
      rw [zl5, if_pos rfl, zol, zov, if_pos ⟨rfl, rfl⟩]
      rfl
  . have := zi2 h' he
    unfold z85 at *
    have hne : (a.1, (a.2.1, ())) ≠ (t, (c, ())) := fun e => he ⟨by cases e; rfl, by cases e; rfl⟩
    cases hc : zcq l c with
    | none => rw [hc] at this; dsimp only at this ⊢; rw [zl5, if_neg hne]; exact this
    | some x => rw [hc] at this; dsimp only at this ⊢; rw [zl5, if_neg hne]; exact this

theorem zz8 {l : List CL} {begun : Int} {seg : List AK} {xs : List (OW × BK)} {a : AK} (hi : (ztk l begun seg a.1 a.2.1).2.1 = false) {t c : List UInt8} (h' : z85 l begun seg xs t c) : z85 l begun (seg ++ [a]) xs t c := by
  by_cases he : a.1 = t /\ a.2.1 = c
  . obtain ⟨rfl, rfl⟩ := he
    unfold ztk at hi
    unfold z85 at *
    cases hc : zcq l a.2.1 with
    | none => rw [hc] at h'; exact h'
    | some x => rw [hc] at hi; cases hi
  . exact zi2 h' he

theorem zzm (now : Int) : (atB (0, (0, (0, (0, ())))) now).2.2.1 = 0 := by
  unfold atB
  split
  . dsimp only; omega
  . rfl

theorem zu1 {α : Type} (xs : List α) (d : α) {f i : Nat} (hf : f <= i) (hi : i < xs.length) : cut xs f (i + 1) = cut xs f i ++ [xs.getD i d] := by
  unfold cut
  rw [zvy xs d i hi, List.drop_append_of_le_length (by rw [List.length_take]; omega)]

theorem zu2 {α : Type} (xs : List α) (i : Nat) : cut xs i i = [] := by
  unfold cut
  exact List.drop_of_length_le (by rw [List.length_take]; omega)

theorem z11c {α : Type} {xs : List α} {f i : Nat} {a : α} (h : a ∈ cut xs f i) : a ∈ xs := List.mem_of_mem_take (List.mem_of_mem_drop h)

theorem zxt {α : Type} (xs : List α) (f i : Nat) : (cut xs f i).length <= xs.length := by
  unfold cut
  rw [List.length_drop, List.length_take]; omega

abbrev BEG : List UInt8 := [(98 : UInt8), (101 : UInt8), (103 : UInt8), (105 : UInt8), (110 : UInt8)]

theorem zpa (k : Nat) (l : List CL) {now : Int} (asked : List AK) (hn : I64 now) (ha : ∀ a ∈ asked, I64 a.2.2.1) : z1j (k + 1000) l now asked = some true := by
  simp only [z1j, z2t, z2s, zqi, Option.bind_some]
  by_cases h1 : 12 < l.length
  . rw [zw (z2v (by omega))]; rfl
  rw [z13 (z3k (by omega))]
  by_cases h2 : 40 < asked.length
  . rw [z2v (by omega), cond_true]
  rw [z3k (by omega), cond_false]
  rw [z10z (k + 1000) l now (by omega) (by omega), zqu (k + 1000) l (by omega), zlo (k + 1000) l (by omega)]
  simp only [Option.bind_some, z2r, z2q, zlo (k + 1000) l (show 40 < k + 1000 by omega), zqi]
  rw [z13 (by simp)]
  by_cases hc : chk l = 0
  . rw [if_neg (fun h => h hc), hc, z13 (by rfl)]
    by_cases o1 : now < 0
    . rw [zw (z2v o1), if_neg (fun h => by have := h.1; omega)]; rfl
    rw [z13 (z3k o1)]
    by_cases o2 : 1099511627776 < now
    . rw [z2v o2, if_neg (fun h => by have := h.2; omega)]; rfl
    rw [z3k o2, if_pos ⟨by omega, by omega⟩]
    simp only [cond_false, Option.isSome_some, cond_true, Option.getD_some, z5a]
    refine zr3 (I := fun (v : RT × Int × Int × Int) => ∃ (xs : List (OW × BK)) (f i : Nat), v = ((l, (v.2.2.1, (some xs, ()))), (f : Int), v.2.2.1, (i : Int)) /\ f <= i /\ i <= asked.length /\ ∀ t c, c ≠ BEG -> z85 l v.2.2.1 (cut asked f i) xs t c) (m := fun (v : RT × Int × Int × Int) => asked.length - v.2.2.2.toNat) (p := fun o => o = some true) ?_ (k + 1000) _ ⟨[], 0, 0, rfl, Nat.le_refl _, Nat.zero_le _, fun t c _ => by rw [zu2]; exact zr5 l now t c⟩ (by dsimp only; omega)
    rintro ⟨r0, f0, begun, i0⟩ r ⟨xs, f, i, hv, hfi, hil, hinv⟩ hrec
    dsimp only at hv hinv hrec
    cases hv
    rw [Int.toNat_natCast] at hrec
    simp only [z2m, z2p, z2o, z2n]
    by_cases hlt : i < asked.length
    . rw [zw (z2v (by omega))]
      simp only [z67 hlt, cond_true]
      have hi64 := ha _ (ztv asked (([] : List UInt8), (([] : List UInt8), ((0 : Int), ()))) i hlt)
      have hcut := zu1 asked (([] : List UInt8), (([] : List UInt8), ((0 : Int), ()))) hfi hlt
      have hcut2 := zu1 asked (([] : List UInt8), (([] : List UInt8), ((0 : Int), ()))) (Nat.le_refl i) hlt
      rw [zu2] at hcut2
      generalize hx : asked.getD (Int.toNat (i : Int)) (([] : List UInt8), (([] : List UInt8), ((0 : Int), ()))) = a
      have hx' : asked.getD i (([] : List UInt8), (([] : List UInt8), ((0 : Int), ()))) = a := by rw [<- hx, Int.toNat_natCast]
      rw [hx'] at hi64 hcut hcut2
      rw [Int.toNat_natCast, Int.toNat_natCast]
      by_cases hb : a.2.1 = BEG
      . rw [zw (by rw [hb]; rfl), zwh, Option.bind_some]
        have hne : ∀ t c, c ≠ BEG -> ¬ (a.1 = t /\ a.2.1 = c) := fun t c hcb h => hcb (by rw [<- h.2, hb])
        by_cases o3 : 0 <= a.2.2.1
        . rw [zw (z2v o3)]
          by_cases o4 : a.2.2.1 <= 1099511627776
          . rw [zw (z2v o4), if_pos ⟨o3, o4⟩, z3l (by omega)]
            refine hrec _ ⟨[], i, i + 1, rfl, by omega, by omega, fun t c hcb => ?_⟩ (by dsimp only; omega)
            dsimp only
            rw [hcut2]
            exact zi2 (zr5 l _ t c) (hne t c hcb)
          . rw [z13 (z3k o4), if_neg (fun h => o4 h.2), z3l (by omega)]
            refine hrec _ ⟨xs, f, i + 1, rfl, by omega, by omega, fun t c hcb => ?_⟩ (by dsimp only; omega)
            dsimp only
            rw [hcut]
            exact zi2 (hinv t c hcb) (hne t c hcb)
        . rw [z13 (z3k o3), cond_false, if_neg (fun h => o3 h.1), z3l (by omega)]
          refine hrec _ ⟨xs, f, i + 1, rfl, by omega, by omega, fun t c hcb => ?_⟩ (by dsimp only; omega)
          dsimp only
          rw [hcut]
          exact zi2 (hinv t c hcb) (hne t c hcb)
      . have hI := hinv a.1 a.2.1 hb
        have hB := zqt (k + 1000) l begun (cut asked f i) a.1 a.2.1 (by omega) (by omega) (by have := zxt asked f i; omega) (by have := zxt asked f i; omega) (fun x hx => ha x (z11c hx))
        have hL := zyr (k + 1000) l begun xs a.1 a.2.1 hi64 (by omega) (by omega)
        have hT := zyn (k + 1000) l begun xs a.1 a.2.1 hi64 (by omega) (by omega)
        rw [zz2 hI] at hL hT
        have hset := fun hi' t c (hcb : c ≠ BEG) => zz7 (a := a) hI hi' (hinv t c hcb)
        have hnon := fun hi' t c (hcb : c ≠ BEG) => zz8 (a := a) hi' (hinv t c hcb)
        have hz : (ztk l begun (cut asked f i) a.1 a.2.1).2.1 = false -> (ztk l begun (cut asked f i) a.1 a.2.1).1 = (0, (0, (0, (0, ())))) := by
          unfold ztk
          cases zcq l a.2.1 with
          | none => intro _; rfl
          | some x => intro h; cases h
        rw [z13 (by simpa using hb), zw (z2v ⟨by omega, by omega⟩), zw (z2v ⟨by omega, by omega⟩), hB, Option.bind_some]
        generalize ztk l begun (cut asked f i) a.1 a.2.1 = q at *
        obtain ⟨b, is_, u⟩ := q
        dsimp only at *
        rw [hL, Option.bind_some, ztl _ b hi64, Option.bind_some]
        dsimp only
        have hleft : (if is_ = true then (atB b a.2.2.1).2.2.1 else 0) = (atB b a.2.2.1).2.2.1 := by
          cases is_ with
          | true => rfl
          | false => rw [hz rfl, zzm]; rfl
        rw [hleft, z13 (by simp), zo7 _ b hi64, Option.bind_some, hT, z3l (by omega)]
        cases is_ with
        | false =>
          simp only [Bool.not_false, cond_true, Option.bind_some, Bool.false_eq_true, if_false]
          rw [z13 (by rfl)]
          refine hrec _ ⟨xs, f, i + 1, rfl, by omega, by omega, fun t c hcb => ?_⟩ (by dsimp only; omega)
          dsimp only
          rw [hcut]
          exact hnon rfl t c hcb
        | true =>
          simp only [Bool.not_true, cond_false, Option.bind_some, if_true]
          have hw : ∀ w : Bool, (cond (!w) ((17 : Int)) 0) = if w = true then 0 else 17 := by intro w; cases w <;> rfl
          have goal2 : r ((l, (begun, (some (zoz (eqD OwT) (a.1, (a.2.1, ())) (zn1 b a.2.2.1).1 xs), ()))), (f : Int), begun, ((i + 1 : Nat) : Int)) = some true := by
            refine hrec _ ⟨_, f, i + 1, rfl, by omega, by omega, fun t c hcb => ?_⟩ (by dsimp only; omega)
            dsimp only
            rw [hcut]
            exact hset rfl t c hcb
          cases (zn1 b a.2.2.1).2.1 with
          | true =>
            simp only [Bool.not_true, cond_false, if_true]
            rw [z13 (by rfl)]
            exact goal2
          | false =>
            simp only [Bool.not_false, cond_true, Bool.false_eq_true, if_false]
            rw [z13 (by rfl)]
            exact goal2
    . rw [z13 (z3k (by omega))]
      rfl
  . rw [if_pos hc, zw (by simpa using hc)]
    simp

end
end Go.Proofs.YtdeemkigjeemjaaLg
