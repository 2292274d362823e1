/- The plain functions that the law reaches, what their calls do, and what they give (own work, in one text). -/
import Derived.Test.YtofhmgagieigoaaLgPrPra1
import Derived.Test.YtofhmgagieigoaaLgPrPra3
/- Layer 38: a tenant that may be: its keys rise. -/
set_option linter.all false
set_option maxRecDepth 100000
namespace Go.Proofs.YtofhmgagieigoaaLg
open Go Go.Lift Go.Proofs.YtofhmgagieigoaaPx

abbrev KeyD := Int × (List UInt8 × Unit)
abbrev TenD := List UInt8 × (Int × (Int × (List KeyD × Unit)))

def keysL (next : Int) : Int → List KeyD → Bool
  | _, [] => true
  | last, k :: l => decide (last < k.1) && (decide (k.1 < next) && (decide (k.2.1.length = 32) && keysL next k.1 l))

theorem keys_loop (N : Nat) {t : TenD} (hN : t.2.2.2.1.length < N) (hl : t.2.2.2.1.length ≤ 1000000) :
    ring_rightTenant_p3 N t 0 t.2.2.2.1 ((t.2.2.2.1.length : Nat) : Int) 0 (fun x21 => some x21) (some true) = some (keysL t.2.2.1 0 t.2.2.2.1) := by
  rw [ring_rightTenant_p3]
  refine (iter_eq (fun v => ∃ (i : Nat) (last : Int), v = (t, last, (i : Int)) ∧ i ≤ t.2.2.2.1.length) (fun v => t.2.2.2.1.length - v.2.2.toNat) (fun v => some (keysL t.2.2.1 v.2.1 (t.2.2.2.1.drop v.2.2.toNat))) ?_ N (t, 0, 0) ⟨0, 0, rfl, by omega⟩ (by simp only; omega)).trans (by rfl)
  rintro v r ⟨i, last, rfl, hi⟩ hr
  simp only [Int.toNat_natCast]
  rw [ring_rightTenant_s3]
  by_cases hlt : i < t.2.2.2.1.length
  · rw [cond_t (decide_eq_true (by omega)), cond_t (inR_nat hlt), ring_rightTenant_p4, Int.toNat_natCast, drop_cons t.2.2.2.1 ((0 : Int), (([] : List UInt8), ())) i hlt, keysL]
    generalize List.getD t.2.2.2.1 i ((0 : Int), (([] : List UInt8), ())) = k
    rw [ring_rises]
    by_cases h1 : last < k.1
    · rw [cond_t (decide_eq_true h1), Option.bind_some, decide_eq_true h1, Bool.true_and]
      dsimp only
      by_cases h2 : k.1 < t.2.2.1
      · rw [decide_eq_true h2, Bool.not_true, cond_false, Bool.true_and]
        by_cases h3 : k.2.1.length = 32
        · rw [show ((((List.length k.2.1) : Nat) : Int) != (32 : Int)) = false by rw [h3]; rfl, cond_false, wrap_succ (by omega), decide_eq_true h3, Bool.true_and, hr _ ⟨i + 1, k.1, rfl, by omega⟩ (by simp only; omega)]
          simp only [Int.toNat_natCast]
        · rw [show ((((List.length k.2.1) : Nat) : Int) != (32 : Int)) = true by rw [bne_iff_ne]; omega, cond_true, decide_eq_false h3, Bool.false_and]
      · rw [decide_eq_false h2, Bool.not_false, cond_true, cond_true, Bool.false_and]
    · rw [cond_f (decide_eq_false h1), Option.bind_some, decide_eq_false h1]
      rfl
  · rw [cond_f (decide_eq_false (by omega)), drop_nil' _ (by omega), keysL]

end Go.Proofs.YtofhmgagieigoaaLg

