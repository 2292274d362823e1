import Derived.Test.YtobbmaplbpdniaaLgPrRp1
import Derived.Test.YtobbmaplbpdniaaLgPrRp2
set_option linter.all false
set_option maxRecDepth 100000
namespace Go.Proofs.YtobbmaplbpdniaaLg
noncomputable section
open Go Go.Lift Go.Proofs.YtobbmaplbpdniaaPx

abbrev znd := Int × (List UInt8 × Unit)
abbrev zdj := List UInt8 × (Int × (Int × (List znd × Unit)))

def z8v (next : Int) : Int -> List znd -> Bool
  | _, [] => true
  | last, k :: l => decide (last < k.1) && (decide (k.1 < next) && (decide (k.2.1.length = 32) && z8v next k.1 l))

theorem z12y (N : Nat) {t : zdj} (hN : t.2.2.2.1.length < N) (hl : t.2.2.2.1.length <= 1000000) :
    z5z N t 0 t.2.2.2.1 ((t.2.2.2.1.length : Nat) : Int) 0 (fun x21 => some x21) (some true) = some (z8v t.2.2.1 0 t.2.2.2.1) := by
  rw [z5z]
  refine (z4i (fun v => ∃ (i : Nat) (last : Int), v = (t, last, (i : Int)) /\ i <= t.2.2.2.1.length) (fun v => t.2.2.2.1.length - v.2.2.toNat) (fun v => some (z8v t.2.2.1 v.2.1 (t.2.2.2.1.drop v.2.2.toNat))) ?_ N (t, 0, 0) ⟨0, 0, rfl, by omega⟩ (by simp only; omega)).trans (by rfl)
  rintro v r ⟨i, last, rfl, hi⟩ hr
  simp only [Int.toNat_natCast]
  rw [z5x]
  by_cases hlt : i < t.2.2.2.1.length
  . rw [zl (decide_eq_true (by omega)), zl (z1y hlt), z5y, Int.toNat_natCast, z4b t.2.2.2.1 ((0 : Int), (([] : List UInt8), ())) i hlt, z8v]
    generalize List.getD t.2.2.2.1 i ((0 : Int), (([] : List UInt8), ())) = k
    rw [zi9]
    by_cases h1 : last < k.1
    . rw [zl (decide_eq_true h1), Option.bind_some, decide_eq_true h1, Bool.true_and]
      dsimp only
      by_cases h2 : k.1 < t.2.2.1
      . rw [decide_eq_true h2, Bool.not_true, cond_false, Bool.true_and]
        by_cases h3 : k.2.1.length = 32
        . rw [show ((((List.length k.2.1) : Nat) : Int) != (32 : Int)) = false by rw [h3]; rfl, cond_false, z2j (by omega), decide_eq_true h3, Bool.true_and, hr _ ⟨i + 1, k.1, rfl, by omega⟩ (by simp only; omega)]
          simp only [Int.toNat_natCast]
        . rw [show ((((List.length k.2.1) : Nat) : Int) != (32 : Int)) = true by rw [bne_iff_ne]; omega, cond_true, decide_eq_false h3, Bool.false_and]
      . rw [decide_eq_false h2, Bool.not_false, cond_true, cond_true, Bool.false_and]
    . rw [z19 (decide_eq_false h1), Option.bind_some, decide_eq_false h1]
      rfl
  . rw [z19 (decide_eq_false (by omega)), z91 _ (by omega), z8v]

end
end Go.Proofs.YtobbmaplbpdniaaLg
