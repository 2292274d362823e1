import Derived.Test.YtlohplpnhopldaaLgPrPt1
import Derived.Lib.MapLaws
import Derived.Test.YtlohplpnhopldaaLgPrPt2
set_option linter.all false
namespace Go.Proofs.YtlohplpnhopldaaPx
noncomputable section
open Go Go.Lift

theorem z15y (s : List UInt8) (i : Nat) : runeAt s i = Go.Lib.decodeN (s.length - i) (s.getD i 0).toNat (s.getD (i + 1) 0).toNat (s.getD (i + 2) 0).toNat (s.getD (i + 3) 0).toNat :=
  Go.Lib.decode_N ⟨⟨s⟩⟩ i

theorem z10p {s : List UInt8} {i : Nat} (h : (s.getD i 0).toNat < 128) : runeAt s i = ((s.getD i 0).toNat, 1) := by
  rw [z15y]
  exact Go.Lib.decodeN_ascii _ _ _ _ _ h

theorem z12f {s : List UInt8} {i : Nat} (hi : i < s.length) (h : 128 <= (s.getD i 0).toNat) :
    128 <= (runeAt s i).1 /\ 1 <= (runeAt s i).2 /\ i + (runeAt s i).2 <= s.length /\ ∀ j, i <= j -> j < i + (runeAt s i).2 -> 128 <= (s.getD j 0).toNat := by
  rw [z15y]
  rcases Go.Lib.decodeN_shape (s.length - i) (s.getD i 0).toNat (s.getD (i + 1) 0).toNat (s.getD (i + 2) 0).toNat (s.getD (i + 3) 0).toNat with ⟨h1, e⟩ | ⟨h1, h2, h3, h4, e⟩ | ⟨h1, h2, h3, h4, h5, h6, e⟩ | ⟨h1, h2, h3, h4, h5, h6, h7, e⟩ | e
  . omega
  . rw [e]
    refine ⟨h4, by omega, by dsimp only; omega, fun j hj hj2 => ?_⟩
    dsimp only at hj2
    obtain rfl | rfl : j = i \/ j = i + 1 := by omega
    . exact h
    . omega
  . rw [e]
    refine ⟨by dsimp only; omega, by omega, by dsimp only; omega, fun j hj hj2 => ?_⟩
    dsimp only at hj2
    obtain rfl | rfl | rfl : j = i \/ j = i + 1 \/ j = i + 2 := by omega
    . exact h
    . omega
    . omega
  . rw [e]
    refine ⟨by dsimp only; omega, by omega, by dsimp only; omega, fun j hj hj2 => ?_⟩
    dsimp only at hj2
    obtain rfl | rfl | rfl | rfl : j = i \/ j = i + 1 \/ j = i + 2 \/ j = i + 3 := by omega
    . exact h
    . omega
    . omega
    . omega
  . rw [e]
    refine ⟨by omega, by omega, by dsimp only; omega, fun j hj hj2 => ?_⟩
    dsimp only at hj2
    obtain rfl : j = i := by omega
    exact h

end
end Go.Proofs.YtlohplpnhopldaaPx

set_option linter.all false
namespace Go.Proofs.YtlohplpnhopldaaPx
noncomputable section
open Go Go.Lift

def z14j (c : Nat) (first : Bool) : Bool := decide (97 <= c /\ c <= 122) || (decide ((48 <= c /\ c <= 57) \/ c = 45) && !first)

theorem zvu {c : Nat} (h : 128 <= c) (f : Bool) : z14j c f = false := by
  simp only [z14j, Bool.or_eq_false_iff, decide_eq_false_iff_not, Bool.and_eq_false_iff]
  exact ⟨by omega, .inl (by omega)⟩
def z17j (p : Nat -> Bool -> Bool) : List UInt8 -> Bool -> Bool
  | [], _ => true
  | u :: r, f => p u.toNat f && z17j p r false

def zmi (s : List UInt8) : Bool := decide (1 <= s.length /\ s.length <= 32) && z17j z14j s true


end
end Go.Proofs.YtlohplpnhopldaaPx

set_option linter.all false
set_option maxRecDepth 100000
namespace Go.Proofs.YtlohplpnhopldaaLg
noncomputable section
open Go Go.Lift Go.Proofs.YtlohplpnhopldaaPx

theorem zxn (N : Nat) (c : Nat) (f : Bool) : z73 N (c : Int) f = some (z14j c f) := by
  simp only [z73, z8c, zhf, z14j, Bool.cond_eq_ite, decide_eq_true_eq, beq_iff_eq]
  have key : (if (48 : Int) <= c then some (decide ((c : Int) <= 57)) else some false) = some (decide (48 <= c /\ c <= 57)) := by
    split
    . congr 1; rw [Bool.eq_iff_iff, decide_eq_true_eq, decide_eq_true_eq]; omega
    . congr 1; rw [Bool.eq_iff_iff, decide_eq_true_eq]; simp; omega
  rw [key]
  simp only [Option.bind_some, decide_eq_true_eq, Bool.false_eq_true, if_false]
  by_cases h1 : 97 <= c /\ c <= 122
  . rw [if_pos (by omega), if_pos (by omega)]; simp [h1]
  have hx : ∀ X Y : Option Bool, (if (97 : Int) <= c then if (c : Int) <= 122 then Y else X else X) = X := by
    intro X Y
    repeat' split
    all_goals first
      | rfl
      | omega
  rw [hx, decide_eq_false h1, Bool.false_or]
  by_cases h4 : 48 <= c /\ c <= 57
  . rw [if_pos h4, decide_eq_true (p := (48 <= c /\ c <= 57) \/ c = 45) (.inl h4), Bool.true_and]
  . rw [if_neg h4]
    by_cases h5 : c = 45
    . subst h5; simp
    . rw [if_neg (by omega), decide_eq_false (by omega), Bool.false_and]

theorem z108 (i : Nat) : ((((i : Nat) : Int)) == 0) = decide (i = 0) := by
  rw [Bool.eq_iff_iff, beq_iff_eq, decide_eq_true_eq]; omega

theorem z11y (N : Nat) {s : List UInt8} (hN : 40 < N) : z74 N s = some (zmi s) := by
  simp only [z74, z8f, z8e, zmi]
  by_cases h0 : s = []
  . subst h0; rfl
  have hl : s.length ≠ 0 := fun e => h0 (List.length_eq_zero_iff.1 e)
  rw [zy (by simpa using h0)]
  by_cases h1 : 32 < s.length
  . rw [zf (z3t (by omega)), decide_eq_false (by omega)]; rfl
  rw [zy (z46 (by omega)), decide_eq_true (p := 1 <= s.length /\ s.length <= 32) (by omega), Bool.true_and]
  simp only [zez]
  rw [z3q (I := fun (v : List UInt8 × Nat) => v.1 = s /\ v.2 <= s.length) (m := fun (v : List UInt8 × Nat) => s.length - v.2) (R := fun (v : List UInt8 × Nat) => some (z17j z14j (s.drop v.2) (decide (v.2 = 0)))) ?_ N (s, 0) ⟨rfl, Nat.zero_le _⟩ (by dsimp only; omega)]
  . simp
  rintro ⟨s', i⟩ r ⟨rfl, hi⟩ hr
  dsimp only at *
  simp only [z8d, z108]
  by_cases hlt : i < s'.length
  . rw [zf (z3t hlt), zxn, Option.bind_some, z3e s' 0 i hlt]
    simp only [z17j]
    by_cases h128 : (s'.getD i 0).toNat < 128
    . rw [z10p h128]
      dsimp only
      cases hp : z14j (s'.getD i 0).toNat (decide (i = 0)) with
      | false => rfl
      | true =>
        rw [Bool.not_true, cond_false, hr _ ⟨rfl, by dsimp only; omega⟩ (by dsimp only; omega)]
        dsimp only
        rw [decide_eq_false (by omega), Bool.true_and]
    . obtain ⟨g1, _⟩ := z12f hlt (by omega)
      rw [zvu g1, zvu (by omega)]; rfl
  . rw [zy (z46 hlt), z88 s' (by omega)]; rfl

theorem z121 (N : Nat) {s : List UInt8} (hN : 40 < N) : z82 N s = some (zmi s) := by
  simp only [z82, z11y N hN, Option.bind_some]


theorem ztl (N : Nat) {s : List UInt8} (hN : 40 < N) : z2v N s = some (zmi s) := by
  simp only [z2v, z62, z61, zmi]
  by_cases h0 : s.length = 0
  . rw [zf (z3t (by omega)), decide_eq_false (by omega)]; rfl
  rw [zy (z46 (by omega))]
  by_cases h1 : 32 < s.length
  . rw [zf (z3t (by omega)), decide_eq_false (by omega)]; rfl
  rw [zy (z46 (by omega)), decide_eq_true (p := 1 <= s.length /\ s.length <= 32) (by omega), Bool.true_and]
  simp only [zak]
  rw [z3q (I := fun (v : Int) => 0 <= v /\ v <= ((s.length : Nat) : Int)) (m := fun (v : Int) => s.length - v.toNat) (R := fun (v : Int) => some (z17j z14j (s.drop v.toNat) (decide (v.toNat = 0)))) ?_ N 0 ⟨by omega, by omega⟩ (by omega)]
  . simp
  intro v r ⟨h2, h3⟩ hr
  obtain ⟨i, rfl⟩ := Int.eq_ofNat_of_zero_le h2
  simp only [z5y, z60, Int.toNat_natCast] at *
  by_cases hlt : i < s.length
  . have p5 : ∀ k0 : Bool -> Option Bool, z3n N s (i : Int) k0 = k0 (decide (97 <= (s.getD i 0).toNat /\ (s.getD i 0).toNat <= 122)) := by
      intro k0
      simp only [z3n, Int.toNat_natCast]
      rw [zf (z1o hlt), zf (z1o hlt)]
      by_cases h : 97 <= (s.getD i 0).toNat
      . rw [zf (z3t (by omega))]; congr 1; rw [Bool.eq_iff_iff, decide_eq_true_eq, decide_eq_true_eq]; omega
      . rw [zy (z46 (by omega)), decide_eq_false (by omega)]
    have p6 : ∀ (b : Bool) (k0 : Bool -> Option Bool), z3m N s (i : Int) b k0 = k0 (decide ((48 <= (s.getD i 0).toNat /\ (s.getD i 0).toNat <= 57) \/ (s.getD i 0).toNat = 45)) := by
      intro b k0
      simp only [z3m, Int.toNat_natCast]
      rw [zf (z1o hlt), zf (z1o hlt), zf (z1o hlt)]
      by_cases h45 : (s.getD i 0).toNat = 45
      . rw [zf (by rw [h45]; rfl), decide_eq_true (by omega)]
      . rw [zy (by rw [beq_eq_false_iff_ne]; omega)]
        by_cases h : 48 <= (s.getD i 0).toNat
        . rw [zf (z3t (by omega))]; congr 1; rw [Bool.eq_iff_iff, decide_eq_true_eq, decide_eq_true_eq]; omega
        . rw [zy (z46 (by omega)), decide_eq_false (by omega)]
    rw [zf (z3t (by omega)), p5, p6, z3e s 0 i hlt]
    simp only [z5z, z108, z17j, z14j]
    have hrec : r ((i + 1 : Nat) : Int) = some (z17j z14j (s.drop (i + 1)) false) := by
      rw [hr _ ⟨by omega, by omega⟩ (by omega), Int.toNat_natCast, decide_eq_false (by omega)]
    rw [z2h (by omega), hrec]
    generalize decide (97 <= (s.getD i 0).toNat /\ (s.getD i 0).toNat <= 122) = p
    generalize decide ((48 <= (s.getD i 0).toNat /\ (s.getD i 0).toNat <= 57) \/ (s.getD i 0).toNat = 45) = q
    generalize decide (i = 0) = f
    cases p <;> cases q <;> cases f <;> rfl
  . rw [zy (z46 (by omega)), z88 s (by omega)]; rfl

end
end Go.Proofs.YtlohplpnhopldaaLg

set_option linter.all false
set_option maxRecDepth 100000
namespace Go.Proofs.YtlohplpnhopldaaLg
noncomputable section
open Go Go.Lift Go.Proofs.YtlohplpnhopldaaPx

abbrev zdj := List zhk × (Int × Unit)

def zu1 (x low : Int) : Bool := decide (low <= x) && decide (x <= 1099511627776)

theorem zuc (N : Nat) (n low : Int) : z2y N n low = some (zu1 n low) := by
  rw [z2y, zu1]
  by_cases h : low <= n
  . first
      | rw [zf (decide_eq_true h), decide_eq_true h, Bool.true_and]
      | (rw [zy (decide_eq_false (by omega)), decide_eq_true h, Bool.true_and])
  . first
      | rw [zy (decide_eq_false h), decide_eq_false h, Bool.false_and]
      | (rw [zf (decide_eq_true (by omega)), decide_eq_false h, Bool.false_and])

def z10j (t : zhk) : Bool := zmi t.1 && (zu1 t.2.1 0 && (zu1 t.2.2.1 1 && (decide (t.2.2.2.1.length <= 8) && zm1 t.2.2.1 0 t.2.2.2.1)))

theorem zsl (N : Nat) (hN : 40 < N) (t : zhk) : z2t N t = some (z10j t) := by
  rw [z2t, z5t, z5s, z121 N hN, Option.bind_some, z10j]
  cases zmi t.1 with
  | false => rfl
  | true =>
    rw [Bool.not_true, cond_false, zuc, Option.bind_some, Bool.true_and]
    cases zu1 t.2.1 0 with
    | false => rfl
    | true =>
      rw [Bool.not_true, cond_false, zuc, Option.bind_some, Bool.true_and]
      cases zu1 t.2.2.1 1 with
      | false => rfl
      | true =>
        rw [Bool.not_true, cond_false, Bool.true_and]
        by_cases h : t.2.2.2.1.length <= 8
        . rw [decide_eq_false (show ¬ (8 : Int) < ((t.2.2.2.1.length : Nat) : Int) by omega), cond_false, decide_eq_true h, Bool.true_and]
          exact z13i N (by omega) (by omega)
        . rw [decide_eq_true (show (8 : Int) < ((t.2.2.2.1.length : Nat) : Int) by omega), cond_true, decide_eq_false h, Bool.false_and]

def upL : Option (List UInt8) -> List UInt8 -> Bool
  | none, _ => true
  | some p, t => !(Go.Op.bytesLess t p || (t == p))

def zdl : Option (List UInt8) -> List zhk -> Bool
  | _, [] => true
  | p, t :: l => upL p t.1 && (z10j t && zdl (some t.1) l)

def zbh : zhk := (([] : List UInt8), ((0 : Int), ((0 : Int), (([] : List (Int × ((List UInt8) × Unit))), ()))))

def zwj (l : List zhk) (i : Nat) : Option (List UInt8) := if i = 0 then none else some (l.getD (i - 1) zbh).1

theorem z124 (N : Nat) (hN : 40 < N) {s : zdj} (hl : s.1.length <= 30) :
    zdu N s s.1 ((s.1.length : Nat) : Int) 0 (fun x21 => some x21) (some true) = some (zdl none s.1) := by
  rw [zdu]
  refine (z3q (fun v => ∃ (i : Nat), v = (i : Int) /\ i <= s.1.length) (fun v => s.1.length - v.toNat) (fun v => some (zdl (zwj s.1 v.toNat) (s.1.drop v.toNat))) ?_ N 0 ⟨0, rfl, by omega⟩ (by omega)).trans (by rfl)
  rintro v r ⟨i, rfl, hi⟩ hr
  simp only [Int.toNat_natCast]
  rw [zds]
  by_cases hlt : i < s.1.length
  . have hrec : r (((i + 1 : Nat) : Int)) = some (zdl (some (s.1.getD i zbh).1) (s.1.drop (i + 1))) := by
      rw [hr _ ⟨i + 1, rfl, by omega⟩ (by omega), Int.toNat_natCast]
      rfl
    rw [zf (decide_eq_true (by omega)), zf (z1o hlt), zdt, Int.toNat_natCast, z3e s.1 zbh i hlt, zdl]
    rw [show (([] : List UInt8), ((0 : Int), ((0 : Int), (([] : List (Int × ((List UInt8) × Unit))), ())))) = zbh from rfl, zsl N hN, Option.bind_some, z2h (by omega), hrec]
    have hend : (cond (!z10j (s.1.getD i zbh)) (some false) (some (zdl (some (s.1.getD i zbh).1) (s.1.drop (i + 1))))) = some (z10j (s.1.getD i zbh) && zdl (some (s.1.getD i zbh).1) (s.1.drop (i + 1))) := by
      cases z10j (s.1.getD i zbh) <;> rfl
    by_cases h0 : i = 0
    . rw [zy (decide_eq_false (by omega)), zwj, if_pos h0, upL, Bool.true_and]
      exact hend
    . rw [zf (decide_eq_true (by omega)), z7f (x := ((i : Nat) : Int) - 1) (by unfold I64; omega), show ((i : Nat) : Int) - 1 = ((i - 1 : Nat) : Int) by omega, zf (z1o (by omega)), Int.toNat_natCast, zwj, if_neg h0, upL]
      cases (Go.Op.bytesLess (s.1.getD i zbh).1 (s.1.getD (i - 1) zbh).1 || (s.1.getD i zbh).1 == (s.1.getD (i - 1) zbh).1) with
      | true => rfl
      | false =>
        rw [cond_false, Bool.not_false, Bool.true_and]
        exact hend
  . rw [zy (decide_eq_false (by omega)), z88 _ (by omega), zdl]

def z5i (s : zdj) : Bool := decide (s.1.length <= 16) && (zu1 s.2.1 0 && zdl none s.1)

theorem zzp (N : Nat) (hN : 40 < N) (s : zdj) : z4q N s = some (z5i s) := by
  rw [z4q, zdw, zdv, z5i]
  by_cases h : s.1.length <= 16
  . rw [zy (decide_eq_false (by omega)), zuc, Option.bind_some, decide_eq_true h, Bool.true_and]
    cases zu1 s.2.1 0 with
    | false => rfl
    | true =>
      rw [Bool.not_true, cond_false, Bool.true_and]
      exact z124 N hN (by omega)
  . rw [zf (decide_eq_true (by omega)), cond_true, decide_eq_false h, Bool.false_and]

end
end Go.Proofs.YtlohplpnhopldaaLg

set_option linter.all false
namespace Go.Proofs.YtlohplpnhopldaaPx
noncomputable section
open Go Go.Lift

def z16a : List UInt8 -> List UInt8 -> Int
  | [], [] => 0
  | [], _ :: _ => -1
  | _ :: _, [] => 1
  | x :: xs, y :: ys => if x < y then -1 else if y < x then 1 else z16a xs ys

theorem zvn (b : List UInt8) : z16a [] b = if b.length = 0 then 0 else -1 := by cases b <;> rfl
theorem ztc (a : List UInt8) : z16a a [] = if a.length = 0 then 0 else 1 := by cases a <;> rfl


end
end Go.Proofs.YtlohplpnhopldaaPx

set_option linter.all false
set_option maxRecDepth 100000
namespace Go.Proofs.YtlohplpnhopldaaLg
noncomputable section
open Go Go.Lift Go.Proofs.YtlohplpnhopldaaPx

theorem zy2 (N : Nat) (n low : Int) : z2z N n low = some (zu1 n low) := by
  rw [z2z, zu1]
  by_cases h : low <= n
  . rw [zf (decide_eq_true h), decide_eq_true h, Bool.true_and]
  . rw [zy (decide_eq_false h), decide_eq_false h, Bool.false_and]

theorem z169 : ∀ p t : List UInt8, decide (0 <= z16a p t) = (Go.Op.bytesLess t p || (t == p))
  | [], [] => rfl
  | [], _ :: _ => rfl
  | _ :: _, [] => rfl
  | x :: xs, y :: ys => by
    rw [z16a, Go.Op.bytesLess, List.cons_beq_cons]
    by_cases h1 : x < y
    . have h2 : ¬ y < x := by rw [UInt8.lt_iff_toNat_lt] at h1 ⊢; omega
      have h3 : (y == x) = false := by
        rw [beq_eq_false_iff_ne]
        intro e; rw [e, UInt8.lt_iff_toNat_lt] at h1; omega
      rw [if_pos h1, decide_eq_false h2, h3]; rfl
    . by_cases h2 : y < x
      . rw [if_neg h1, if_pos h2, decide_eq_true h2]; rfl
      . have e : x = y := by
          rw [UInt8.lt_iff_toNat_lt] at h1 h2
          exact UInt8.toNat_inj.1 (by omega)
        subst e
        rw [if_neg h1, if_neg h1, z169 xs ys, decide_eq_false h1, beq_self_eq_true, Bool.false_or, Bool.true_and, Bool.true_and]

theorem z14z (N : Nat) {a b : List UInt8} (ha : a.length <= 9223372036854775806) (hN : a.length < N) : z2q N a b = some (z16a a b) := by
  simp only [z2q, z44, z78]
  rw [z3q (I := fun v => 0 <= v /\ v <= ((min a.length b.length : Nat) : Int)) (m := fun v => a.length - v.toNat) (R := fun v => some (z16a (a.drop v.toNat) (b.drop v.toNat))) ?_ N 0 ⟨by omega, by omega⟩ (by simpa using hN)]
  . simp
  intro v r ⟨h0, h1⟩ hr
  obtain ⟨i, rfl⟩ := Int.eq_ofNat_of_zero_le h0
  simp only [z42, z43, Int.toNat_natCast]
  by_cases hlt : i < min a.length b.length
  . have hia : i < a.length := by omega
    have hib : i < b.length := by omega
    rw [zf (z3t (by omega)), zf (z3t (by omega)), zf (z1o hia), zf (z1o hib), zf (z1o hia), zf (z1o hib), z3e a 0 i hia, z3e b 0 i hib]
    simp only [z16a]
    by_cases h2 : a.getD i 0 < b.getD i 0
    . rw [zf (z3t ((zh6 _ _).2 h2)), if_pos h2]
    . rw [zy (z46 (fun e => h2 ((zh6 _ _).1 e))), if_neg h2]
      by_cases h3 : b.getD i 0 < a.getD i 0
      . rw [zf (z3t ((zh6 _ _).2 h3)), if_pos h3]
      . rw [zy (z46 (fun e => h3 ((zh6 _ _).1 e))), if_neg h3, z2h (by omega), hr _ ⟨by omega, by omega⟩ (by omega)]
        rfl
  . have hi : i = min a.length b.length := by omega
    have e1 : ∀ (X Y : Option Int), cond (decide ((i : Int) < ((a.length : Nat) : Int))) (cond (decide ((i : Int) < ((b.length : Nat) : Int))) X Y) Y = Y := by
      intro X Y
      by_cases h1 : i < a.length
      . rw [zf (z3t (by omega)), zy (z46 (by omega))]
      . rw [zy (z46 (by omega))]
    rw [e1]
    rcases Nat.lt_or_ge b.length a.length with h | h
    . rw [z88 b (by omega), ztc, List.length_drop, if_neg (by omega), zy (z46 (by omega)), zf (z3t (by omega))]
    . rw [z88 a (by omega), zvn, List.length_drop]
      by_cases e : a.length = b.length
      . rw [if_pos (by omega), zy (z46 (by omega)), zy (z46 (by omega))]
      . rw [if_neg (by omega), zf (z3t (by omega))]

def zs5 : z10g := ((0 : Int), (([] : List UInt8), ()))

def zwk (l : List z10g) (i : Nat) : Int := if i = 0 then 0 else (l.getD (i - 1) zs5).1

theorem zwi (N : Nat) {s : zdj} {t : zhk} {i0 : Int} (hN : t.2.2.2.1.length < N) (hl : t.2.2.2.1.length <= 1000000) (k0 : Bool -> Option Bool) (k1 : Option Bool) :
    z56 N s i0 t 0 k0 k1 = cond (zm1 t.2.2.1 0 t.2.2.2.1) k1 (k0 false) := by
  rw [z56]
  refine (z3q (fun v => ∃ i : Nat, v = (i : Int) /\ i <= t.2.2.2.1.length /\ 0 <= zwk t.2.2.2.1 i) (fun v => t.2.2.2.1.length - v.toNat) (fun v => cond (zm1 t.2.2.1 (zwk t.2.2.2.1 v.toNat) (t.2.2.2.1.drop v.toNat)) k1 (k0 false)) ?_ N 0 ⟨0, rfl, by omega, by simp [zwk]⟩ (by omega)).trans (by rfl)
  rintro v r ⟨i, rfl, hi, hp⟩ hr
  simp only [Int.toNat_natCast]
  rw [z52]
  by_cases hlt : i < t.2.2.2.1.length
  . have hps : zwk t.2.2.2.1 (i + 1) = (t.2.2.2.1.getD i zs5).1 := rfl
    have hrec : 0 <= (t.2.2.2.1.getD i zs5).1 -> r (((i + 1 : Nat) : Int)) = cond (zm1 t.2.2.1 (t.2.2.2.1.getD i zs5).1 (t.2.2.2.1.drop (i + 1))) k1 (k0 false) := by
      intro h0
      rw [hr _ ⟨i + 1, rfl, by omega, by rw [hps]; exact h0⟩ (by omega), Int.toNat_natCast, hps]
    have hprev : ∀ h : 0 < i, zwk t.2.2.2.1 i = (t.2.2.2.1.getD (i - 1) zs5).1 := fun h => by rw [zwk, if_neg (by omega)]
    have hzero : ∀ h : ¬ 0 < i, zwk t.2.2.2.1 i = 0 := fun h => by rw [zwk, if_pos (by omega)]
    rw [zf (decide_eq_true (by omega)), z55, z54, z3e t.2.2.2.1 zs5 i hlt, zm1, z2h (by omega)]
    rw [show ((0 : Int), (([] : List UInt8), ())) = zs5 from rfl]
    simp only [z1o hlt, cond_true, Int.toNat_natCast]
    obtain ⟨K, hK⟩ : ∃ K, t.2.2.2.1.getD i zs5 = K := ⟨_, rfl⟩
    simp only [hK] at hrec ⊢
    by_cases h1 : K.1 < 1
    . rw [decide_eq_true h1, cond_true, decide_eq_false (by omega)]
      rfl
    rw [decide_eq_false h1, cond_false]
    by_cases h2 : t.2.2.1 <= K.1
    . rw [decide_eq_true h2, cond_true, decide_eq_false (show ¬ K.1 < t.2.2.1 by omega), Bool.false_and, Bool.and_false]
      rfl
    rw [decide_eq_false h2, cond_false, decide_eq_true (show K.1 < t.2.2.1 by omega), Bool.true_and]
    by_cases h3 : K.2.1.length = 32
    . rw [show ((((List.length K.2.1) : Nat) : Int) != (32 : Int)) = false by rw [h3]; rfl, cond_false, decide_eq_true h3, Bool.true_and]
      by_cases h4 : 0 < i
      . rw [zf (decide_eq_true (by omega)), z7f (x := ((i : Nat) : Int) - 1) (by unfold I64; omega), show ((i : Nat) : Int) - 1 = ((i - 1 : Nat) : Int) by omega, zf (z1o (by omega)), Int.toNat_natCast, hprev h4]
        by_cases h5 : K.1 <= (t.2.2.2.1.getD (i - 1) zs5).1
        . rw [decide_eq_true h5, cond_true, decide_eq_false (by omega)]; rfl
        . rw [decide_eq_false h5, cond_false, decide_eq_true (by omega), Bool.true_and, hrec (by omega)]
      . rw [zy (decide_eq_false (by omega)), cond_false, hzero h4, decide_eq_true (by omega), Bool.true_and, hrec (by omega)]
    . rw [show ((((List.length K.2.1) : Nat) : Int) != (32 : Int)) = true by rw [bne_iff_ne]; omega, cond_true, decide_eq_false h3, Bool.false_and, Bool.and_false]
      rfl
  . rw [zy (decide_eq_false (by omega)), z88 _ (by omega), zm1]
    rfl

def z11k (t : zhk) : Bool := zmi t.1 && (zu1 t.2.1 0 && (zu1 t.2.2.1 1 && decide (t.2.2.2.1.length <= 8)))

theorem z14o (t : zhk) : z10j t = (z11k t && zm1 t.2.2.1 0 t.2.2.2.1) := by
  unfold z10j z11k
  simp only [Bool.and_assoc]

theorem z10y (N : Nat) (hN : 101 < N) {s : zdj} {t : zhk} {i : Nat} (hi : i < s.1.length) (hl : s.1.length <= 30) (hp : ∀ t ∈ s.1, t.1.length <= 100) (k0 : Bool -> Option Bool) :
    z33 N s (i : Int) t k0 = k0 (!(z11k t && upL (zwj s.1 i) t.1)) := by
  rw [z33, ztl N (by omega), Option.bind_some, z11k]
  cases zmi t.1 with
  | false => rfl
  | true =>
    rw [Bool.not_true, cond_false, zy2, Option.bind_some, Bool.true_and]
    cases zu1 t.2.1 0 with
    | false => rfl
    | true =>
      rw [Bool.not_true, cond_false, zy2, Option.bind_some, Bool.true_and]
      cases zu1 t.2.2.1 1 with
      | false => rfl
      | true =>
        rw [Bool.not_true, cond_false, Bool.true_and]
        by_cases h : t.2.2.2.1.length <= 8
        . rw [decide_eq_false (show ¬ (8 : Int) < ((t.2.2.2.1.length : Nat) : Int) by omega), cond_false, decide_eq_true h, Bool.true_and]
          by_cases h0 : i = 0
          . rw [zy (decide_eq_false (by omega)), zwj, if_pos h0, upL]
            rfl
          . have hm := hp _ (zm8 s.1 zbh (i - 1) (by omega))
            rw [zf (decide_eq_true (by omega)), z7f (x := ((i : Nat) : Int) - 1) (by unfold I64; omega), show ((i : Nat) : Int) - 1 = ((i - 1 : Nat) : Int) by omega, zf (z1o (by omega)), Int.toNat_natCast, zwj, if_neg h0, upL]
            rw [show (([] : List UInt8), ((0 : Int), ((0 : Int), (([] : List (Int × ((List UInt8) × Unit))), ())))) = zbh from rfl, z14z N (by omega) (by omega), Option.bind_some, z169, Bool.not_not]
        . rw [decide_eq_true (show (8 : Int) < ((t.2.2.2.1.length : Nat) : Int) by omega), cond_true, decide_eq_false h, Bool.false_and]
          rfl

theorem zwg (N : Nat) (hN : 101 < N) {s : zdj} (hl : s.1.length <= 30) (hp : ∀ t ∈ s.1, t.1.length <= 100) :
    z59 N s 0 (fun x21 => some x21) (some true) = some (zdl none s.1) := by
  rw [z59]
  refine (z3q (fun v => ∃ (i : Nat), v = (i : Int) /\ i <= s.1.length) (fun v => s.1.length - v.toNat) (fun v => some (zdl (zwj s.1 v.toNat) (s.1.drop v.toNat))) ?_ N 0 ⟨0, rfl, by omega⟩ (by omega)).trans (by rfl)
  rintro v r ⟨i, rfl, hi⟩ hr
  simp only [Int.toNat_natCast]
  rw [z53]
  by_cases hlt : i < s.1.length
  . have hrec : r (((i + 1 : Nat) : Int)) = some (zdl (some (s.1.getD i zbh).1) (s.1.drop (i + 1))) := by
      rw [hr _ ⟨i + 1, rfl, by omega⟩ (by omega), Int.toNat_natCast]
      rfl
    rw [zf (decide_eq_true (by omega)), z58, zf (z1o hlt), Int.toNat_natCast, z3e s.1 zbh i hlt, zdl]
    rw [show (([] : List UInt8), ((0 : Int), ((0 : Int), (([] : List (Int × ((List UInt8) × Unit))), ())))) = zbh from rfl, z57, z10y N hN hlt hl hp, z2h (by omega), hrec, z14o]
    cases hu : upL (zwj s.1 i) (s.1.getD i zbh).1 with
    | false => rw [Bool.and_false]; rfl
    | true =>
      rw [Bool.and_true, Bool.true_and]
      cases hh : z11k (s.1.getD i zbh) with
      | false => rfl
      | true =>
        have h8 : (s.1.getD i zbh).2.2.2.1.length <= 8 := by
          unfold z11k at hh
          simp only [Bool.and_eq_true, decide_eq_true_eq] at hh
          exact hh.2.2.2
        rw [Bool.not_true, cond_false, zwi N (by omega) (by omega), Bool.true_and]
        cases zm1 (s.1.getD i zbh).2.2.1 0 (s.1.getD i zbh).2.2.2.1 <;> rfl
  . rw [zy (decide_eq_false (by omega)), z88 _ (by omega), zdl]

theorem zlg (N : Nat) (hN : 101 < N) {s : zdj} (hp : ∀ t ∈ s.1, t.1.length <= 100) : z2l N s = some (z5i s) := by
  rw [z2l, z5b, z5a, z5i]
  by_cases h : s.1.length <= 16
  . rw [zy (decide_eq_false (by omega)), zy2, Option.bind_some, decide_eq_true h, Bool.true_and]
    cases zu1 s.2.1 0 with
    | false => rfl
    | true =>
      rw [Bool.not_true, cond_false, Bool.true_and]
      exact zwg N hN (by omega) hp
  . rw [zf (decide_eq_true (by omega)), cond_true, decide_eq_false h, Bool.false_and]

end
end Go.Proofs.YtlohplpnhopldaaLg
