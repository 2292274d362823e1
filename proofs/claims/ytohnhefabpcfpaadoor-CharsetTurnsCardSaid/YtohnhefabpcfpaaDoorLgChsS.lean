/- Layer 12: which bytes are in what is made of two sets. -/
import Derived.Test.YtohnhefabpcfpaaDoorLgChsF
set_option linter.all false
set_option maxRecDepth 100000
namespace Go.Proofs.YtohnhefabpcfpaaDoorLg
open Go Go.Lift Go.Proofs.YtohnhefabpcfpaaDoorPx

theorem works12 (k : Nat) : porterlaw12_works (k + 300) = some true := by kernel_rfl

theorem sets_p3 (N : Nat) {s t or_ and_ less not_ of : List Int} {lo hi b c : Int} {x y : Bool} (k0 : Bool → Option Bool)
    (wl : Go.IntKind.wrap .i64 lo = lo) (wh : Go.IntKind.wrap .i64 hi = hi)
    (h1 : charset_Has N s c = some x) (h2 : charset_Has N or_ c = some (x || y)) (h3 : charset_Has N and_ c = some (x && y))
    (h4 : charset_Has N less c = some (x && !y)) (h5 : charset_Has N not_ c = some (!x)) (h6 : charset_Has N of c = some (decide (lo ≤ b) && decide (b ≤ hi))) :
    porterlaw12_CharsetSets_p3 N s t [lo, hi] or_ and_ less not_ of b x y c k0 = k0 false := by
  have g0 : List.getD [lo, hi] 0 (0 : Int) = lo := rfl
  have g1 : List.getD [lo, hi] 1 (0 : Int) = hi := rfl
  have l0 : decide (0 < List.length [lo, hi]) = true := rfl
  have l1 : decide (1 < List.length [lo, hi]) = true := rfl
  rw [porterlaw12_CharsetSets_p3, h1, h2, h3, h4, h5, h6, g0, g1, wl, wh, l0, l1]
  generalize decide (lo ≤ b) = p
  generalize decide (b ≤ hi) = q
  cases x <;> cases y <;> cases p <;> cases q <;> rfl

theorem sets_round (N : Nat) {s t : List Int} (hs : SetOk s) (ht : SetOk t) {lo hi : Nat} (hl : lo < 256) (hh : hi < 256) (hN : 300 ≤ N) {b : Nat} (hb : b < 256) (k0 : Bool → Option Bool) (k1 : Option Bool) :
    porterlaw12_CharsetSets_p2 N s t [(lo : Int), (hi : Int)] (orS s t) (andS s t) (andS s (notS t)) (notS s) (ofS (hi + 1 - lo) lo [0, 0, 0, 0]) (b : Int) k0 k1 = k1 := by
  have wb : Go.IntKind.wrap .u8 (b : Int) = (b : Int) := wrap_u8_in (by omega) (by omega)
  rw [porterlaw12_CharsetSets_p2, refHas_eq N hs hb (by omega), refHas_eq N ht hb (by omega)]
  simp only [Option.bind_some]
  rw [wb, sets_p3 N _ (wrap_in (by unfold I64; omega)) (wrap_in (by unfold I64; omega)) (has_eq N hs hb)
    (by rw [has_eq N (or_ok hs ht) hb, has_or hs ht hb]) (by rw [has_eq N (and_ok hs ht) hb, has_and hs ht hb])
    (by rw [has_eq N (and_ok hs (not_ok ht)) hb, has_and hs (not_ok ht) hb, has_not ht hb]) (by rw [has_eq N (not_ok hs) hb, has_not hs hb])
    (by
      by_cases h : lo ≤ hi
      · rw [has_eq N (of_ok _ _ none_ok (by omega)) hb, has_of _ _ none_ok (by omega) hb, has_none, Bool.false_or, ← Bool.decide_and]
        congr 1
        exact decide_eq_decide.2 (by omega)
      · have e : hi + 1 - lo = 0 := by omega
        rw [e, ofS, has_eq N none_ok hb, has_none, ← Bool.decide_and]
        congr 1
        exact (decide_eq_false (by omega)).symm)]
  rfl

theorem sets_law (k : Nat) {s t : List Int} (hs : SetOk s) (ht : SetOk t) {lo hi : Nat} (hl : lo < 256) (hh : hi < 256) :
    porterlaw12_CharsetSets (k + 300) s t [(lo : Int), (hi : Int)] = some true := by
  have g0 : List.getD [(lo : Int), (hi : Int)] 0 (0 : Int) = lo := rfl
  have g1 : List.getD [(lo : Int), (hi : Int)] 1 (0 : Int) = hi := rfl
  have l0 : decide (0 < List.length [(lo : Int), (hi : Int)]) = true := rfl
  have l1 : decide (1 < List.length [(lo : Int), (hi : Int)]) = true := rfl
  rw [porterlaw12_CharsetSets, or_eq (k + 295) hs ht, and_eq (k + 295) hs ht, less_eq (k + 295) hs ht, not_eq (k + 295) hs, g0, g1, l0, l1,
    of_eq (k + 300) hl hh (by omega), works12 k]
  simp only [Option.bind_some, cond_true]
  rw [porterlaw12_CharsetSets_p1]
  have h := iter_eq (step := fun (v : Int) r => porterlaw12_CharsetSets_s1 (k + 300) s t [(lo : Int), (hi : Int)] (orS s t) (andS s t) (andS s (notS t)) (notS s) (ofS (hi + 1 - lo) lo [0, 0, 0, 0]) v (fun b => (r b)) (fun x6 => some x6) (some true))
    (I := fun v => 0 ≤ v ∧ v ≤ 256) (m := fun v => 256 - v.toNat) (R := fun _ => some true)
    (by
      rintro b r ⟨h0, h1⟩ hr
      obtain ⟨b, rfl⟩ := Int.eq_ofNat_of_zero_le h0
      rw [porterlaw12_CharsetSets_s1]
      by_cases hb : b < 256
      · have wb1 : Go.IntKind.wrap .i64 ((b : Int) + 1) = ((b + 1 : Nat) : Int) := wrap_succ (by omega)
        rw [cond_t (decide_eq_true (by omega)), sets_round (k + 300) hs ht hl hh (by omega) hb, wb1, hr _ ⟨by omega, by omega⟩ (by simp only [Int.toNat_natCast]; omega)]
      · rw [cond_f (decide_eq_false (by omega))]) (k + 300) (0 : Int) ⟨by omega, by omega⟩ (by omega)
  exact h

theorem sets_any {s t l : List Int} (hs : s.length = 4 ∧ ∀ x ∈ s, Wf (.int .u64) x) (ht : t.length = 4 ∧ ∀ x ∈ t, Wf (.int .u64) x) (hl : l.length = 2 ∧ ∀ x ∈ l, Wf (.int .u8) x) :
    porterlaw12_CharsetSets 300 s t l = some true := by
  obtain ⟨lo, hi, h0, h1, rfl⟩ := pair_of hl
  exact sets_law 0 (setOk_of hs) (setOk_of ht) h0 h1

end Go.Proofs.YtohnhefabpcfpaaDoorLg
