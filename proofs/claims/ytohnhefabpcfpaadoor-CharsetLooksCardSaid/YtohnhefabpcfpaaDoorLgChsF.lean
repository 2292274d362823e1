/- Layer 12: what the program's sets do. -/
import Derived.Test.YtohnhefabpcfpaaDoorLgFnK
import Derived.Test.YtohnhefabpcfpaaDoorLgPxL
import Derived.Test.YtohnhefabpcfpaaDoorLgChsM
import Derived.KernelRfl
set_option linter.all false
set_option maxRecDepth 100000
namespace Go.Proofs.YtohnhefabpcfpaaDoorLg
open Go Go.Lift Go.Proofs.YtohnhefabpcfpaaDoorPx

theorem or4 (N : Nat) (a b c d e f g h : Int) : charset_Or (N + 5) [a, b, c, d] [e, f, g, h] = some (orS [a, b, c, d] [e, f, g, h]) := by kernel_rfl
theorem and4 (N : Nat) (a b c d e f g h : Int) : charset_And (N + 5) [a, b, c, d] [e, f, g, h] = some (andS [a, b, c, d] [e, f, g, h]) := by kernel_rfl
theorem not4 (N : Nat) (a b c d : Int) : charset_Not (N + 5) [a, b, c, d] = some (notS [a, b, c, d]) := by kernel_rfl

theorem or_eq (N : Nat) {s t : List Int} (hs : SetOk s) (ht : SetOk t) : charset_Or (N + 5) s t = some (orS s t) := by
  obtain ⟨a, b, c, d, rfl, _⟩ := hs
  obtain ⟨e, f, g, h, rfl, _⟩ := ht
  exact or4 ..
theorem and_eq (N : Nat) {s t : List Int} (hs : SetOk s) (ht : SetOk t) : charset_And (N + 5) s t = some (andS s t) := by
  obtain ⟨a, b, c, d, rfl, _⟩ := hs
  obtain ⟨e, f, g, h, rfl, _⟩ := ht
  exact and4 ..
theorem not_eq (N : Nat) {s : List Int} (hs : SetOk s) : charset_Not (N + 5) s = some (notS s) := by
  obtain ⟨a, b, c, d, rfl, _⟩ := hs
  exact not4 ..

theorem less_eq (N : Nat) {s t : List Int} (hs : SetOk s) (ht : SetOk t) : charset_Less (N + 5) s t = some (andS s (notS t)) := by
  rw [charset_Less, not_eq N ht]
  simp only [Option.bind_some]
  rw [and_eq N hs (not_ok ht)]
  rfl

theorem div64 {b : Nat} (hb : b < 256) : Go.IntKind.wrap .u8 (Int.tdiv (b : Int) (64 : Int)) = ((b / 64 : Nat) : Int) := by
  rw [Int.tdiv_eq_ediv_of_nonneg (by omega), wrap_u8_in (by omega) (by omega)]
  omega
theorem mod64 (b : Nat) : Int.tmod (b : Int) (64 : Int) = ((b % 64 : Nat) : Int) := by
  rw [Int.tmod_eq_emod_of_nonneg (by omega)]
  omega

theorem has_eq (N : Nat) {s : List Int} (hs : SetOk s) {b : Nat} (hb : b < 256) : charset_Has N s (b : Int) = some (hasS s b) := by
  have hi : b / 64 < 4 := by omega
  rw [charset_Has, div64 hb, mod64, Int.toNat_natCast, cond_t (inR_nat hi), cond_t (decide_eq_true (by rw [hs.length]; exact hi)), cond_t (decide_eq_true (by omega)),
    has_bit (hs.word hi) (by omega)]
  rfl

theorem with_eq (N : Nat) {s : List Int} (hs : SetOk s) {b : Nat} (hb : b < 256) : charset_with N s (b : Int) = some (withS s b) := by
  have hi : b / 64 < 4 := by omega
  rw [charset_with, div64 hb, mod64, Int.toNat_natCast, cond_t (inR_nat hi), cond_t (decide_eq_true (by rw [hs.length]; exact hi)), cond_t (decide_eq_true (by omega)),
    cond_t (inR_nat hi), cond_t (decide_eq_true (by rw [hs.length]; exact hi))]
  rfl

/-- bytes lo, lo + 1, .. put in -/
def ofS : Nat → Nat → List Int → List Int
  | 0, _, s => s
  | n + 1, b, s => ofS n (b + 1) (withS s b)

theorem of_ok : ∀ (n b : Nat) {s : List Int}, SetOk s → b + n ≤ 256 → SetOk (ofS n b s)
  | 0, _, _, hs, _ => hs
  | n + 1, b, _, hs, h => of_ok n (b + 1) (with_ok hs (by omega)) (by omega)

theorem has_of : ∀ (n b : Nat) {s : List Int}, SetOk s → b + n ≤ 256 → ∀ {c : Nat}, c < 256 → hasS (ofS n b s) c = (hasS s c || decide (b ≤ c ∧ c < b + n))
  | 0, b, s, hs, _, c, _ => by
    have : decide (b ≤ c ∧ c < b + 0) = false := decide_eq_false (by omega)
    rw [this, Bool.or_false]; rfl
  | n + 1, b, s, hs, h, c, hc => by
    rw [ofS, has_of n (b + 1) (with_ok hs (by omega)) (by omega) hc, has_with hs (by omega) hc, Bool.or_assoc]
    congr 1
    rw [← Bool.decide_or]
    exact decide_eq_decide.2 (by omega)

theorem of_eq (N : Nat) {lo hi : Nat} (hl : lo < 256) (hh : hi < 256) (hN : 257 < N) :
    charset_Of N (lo : Int) (hi : Int) = some (ofS (hi + 1 - lo) lo [0, 0, 0, 0]) := by
  have wl : Go.IntKind.wrap .i64 (lo : Int) = (lo : Int) := wrap_in (by unfold I64; omega)
  have wh : Go.IntKind.wrap .i64 (hi : Int) = (hi : Int) := wrap_in (by unfold I64; omega)
  rw [charset_Of, charset_Of_p1, wl]
  let R : List Int × Int → Option (List Int) := fun v => some (ofS (hi + 1 - v.2.toNat) v.2.toNat v.1)
  have h := iter_eq (step := fun (v : ((List Int) × Int)) r => charset_Of_s1 N (hi : Int) [(0 : Int), (0 : Int), (0 : Int), (0 : Int)] v.1 v.2 (fun s b => (r (s, b))) (fun s => some s))
    (I := fun v => SetOk v.1 ∧ 0 ≤ v.2 ∧ v.2 ≤ 256) (m := fun v => 256 - v.2.toNat) (R := R)
    (by
      rintro ⟨s, b⟩ r ⟨hs, h0, h1⟩ hr
      obtain ⟨b, rfl⟩ := Int.eq_ofNat_of_zero_le h0
      simp only at hs h0 h1 ⊢
      rw [charset_Of_s1, wh]
      by_cases hb : b ≤ hi
      · have wb : Go.IntKind.wrap .u8 (b : Int) = (b : Int) := wrap_u8_in (by omega) (by omega)
        have wb1 : Go.IntKind.wrap .i64 ((b : Int) + 1) = ((b + 1 : Nat) : Int) := wrap_succ (by omega)
        rw [cond_t (decide_eq_true (by omega)), wb, with_eq N hs (by omega)]
        simp only [Option.bind_some]
        rw [wb1, hr _ ⟨with_ok hs (by omega), by simp only; omega, by simp only; omega⟩ (by simp only [Int.toNat_natCast]; omega)]
        simp only [R, Int.toNat_natCast]
        have e : hi + 1 - b = (hi + 1 - (b + 1)) + 1 := by omega
        rw [e, ofS]
      · rw [cond_f (decide_eq_false (by omega))]
        simp only [R, Int.toNat_natCast]
        have e : hi + 1 - b = 0 := by omega
        rw [e, ofS]) N ([(0 : Int), (0 : Int), (0 : Int), (0 : Int)], (lo : Int)) ⟨none_ok, by simp only; omega, by simp only; omega⟩ (by simp only [Int.toNat_natCast]; omega)
  rw [h]
  simp only [R, Int.toNat_natCast]

theorem refHas_loop (N : Nat) (b : Nat) {w : Int} (hw : U64 w) (k0 : Int → Option Bool) (hN : 64 < N) :
    porterref12_Has_p1 N (b : Int) w (0 : Int) k0 = k0 (halves (b % 64) w) := by
  let R : Int × Int → Option Bool := fun v => k0 (halves (b % 64 - v.2.toNat) v.1)
  have h := iter_eq (step := fun (v : (Int × Int)) r => porterref12_Has_s1 N (b : Int) v.1 v.2 (fun w i => (r (w, i))) k0)
    (I := fun v => U64 v.1 ∧ 0 ≤ v.2 ∧ v.2 ≤ 64) (m := fun v => 64 - v.2.toNat) (R := R)
    (by
      rintro ⟨w, i⟩ r ⟨hw, h0, h1⟩ hr
      obtain ⟨i, rfl⟩ := Int.eq_ofNat_of_zero_le h0
      simp only at hw h0 h1 ⊢
      rw [porterref12_Has_s1, mod64]
      by_cases hb : i < b % 64
      · have u2 : U64 (Int.tdiv w 2) := by
          rw [Int.tdiv_eq_ediv_of_nonneg hw.1]; unfold U64 at *; omega
        have wb1 : Go.IntKind.wrap .i64 ((i : Int) + 1) = ((i + 1 : Nat) : Int) := wrap_succ (by omega)
        rw [cond_t (decide_eq_true (by omega)), wrap_u64_in u2, wb1, hr _ ⟨u2, by simp only; omega, by simp only; omega⟩ (by simp only [Int.toNat_natCast]; omega)]
        simp only [R, Int.toNat_natCast]
        have e : b % 64 - i = (b % 64 - (i + 1)) + 1 := by omega
        rw [e, halves]
      · rw [cond_f (decide_eq_false (by omega))]
        simp only [R, Int.toNat_natCast]
        have e : b % 64 - i = 0 := by omega
        rw [e, halves]) N (w, (0 : Int)) ⟨hw, Int.le_refl _, (by omega : (0 : Int) ≤ 64)⟩ (by simp only; omega)
  rw [porterref12_Has_p1, h]
  rfl

theorem refHas_eq (N : Nat) {s : List Int} (hs : SetOk s) {b : Nat} (hb : b < 256) (hN : 64 < N) : porterref12_Has N s (b : Int) = some (hasS s b) := by
  have hi : b / 64 < 4 := by omega
  have e : Go.IntKind.wrap .i64 (Int.tdiv (b : Int) (64 : Int)) = ((b / 64 : Nat) : Int) := by
    rw [Int.tdiv_eq_ediv_of_nonneg (by omega), wrap_in (by unfold I64; omega)]
    omega
  rw [porterref12_Has, e, Int.toNat_natCast, cond_t (inR_nat hi), cond_t (decide_eq_true (by rw [hs.length]; exact hi)), refHas_loop N b (hs.word hi) _ hN, halves_bit (hs.word hi).1]
  rfl

end Go.Proofs.YtohnhefabpcfpaaDoorLg
