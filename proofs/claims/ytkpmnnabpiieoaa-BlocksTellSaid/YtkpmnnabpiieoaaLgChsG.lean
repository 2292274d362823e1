/- Sets of bytes on other seats: which bytes are in a set, how many, and its text (made from ChsF, ChsC). -/
import Derived.Test.YtkpmnnabpiieoaaLgFn17
import Derived.Test.YtkpmnnabpiieoaaLgPxA
import Derived.Test.YtkpmnnabpiieoaaLgChsR
import Derived.KernelRfl
set_option linter.all false
set_option maxRecDepth 100000
namespace Go.Proofs.YtkpmnnabpiieoaaLg
open Go Go.Lift Go.Proofs.YtkpmnnabpiieoaaPx

theorem div64 {b : Nat} (hb : b < 256) : Go.IntKind.wrap .u8 (Int.tdiv (b : Int) (64 : Int)) = ((b / 64 : Nat) : Int) := by
  rw [Int.tdiv_eq_ediv_of_nonneg (by omega), wrap_u8_in (by omega) (by omega)]
  omega

theorem mod64 (b : Nat) : Int.tmod (b : Int) (64 : Int) = ((b % 64 : Nat) : Int) := by
  rw [Int.tmod_eq_emod_of_nonneg (by omega)]
  omega

theorem has_eq (N : Nat) {s : List Int} (hs : SetOk s) {b : Nat} (hb : b < 256) : charset_Has N s (b : Int) = some (hasS s b) := by
  have hi : b / 64 < 4 := by omega
  rw [charset_Has, div64 hb, mod64, Int.toNat_natCast, cond_t (inR_nat hi), cond_t (decide_eq_true (by rw [hs.length]; exact hi)), cond_t (decide_eq_true (by omega)),
    has_bit (hs.word hi) (by omega)]
  rfl

theorem refHas_loop (N : Nat) (b : Nat) {w : Int} (hw : U64 w) (k0 : Int → Option Bool) (hN : 64 < N) :
    porterref12_Has_p1 N (b : Int) w (0 : Int) k0 = k0 (halves (b % 64) w) := by
  let R : Int × Int → Option Bool := fun v => k0 (halves (b % 64 - v.2.toNat) v.1)
  have h := iter_eq (step := fun (v : (Int × Int)) r => porterref12_Has_s1 N (b : Int) v.1 v.2 (fun w i => (r (w, i))) k0)
    (I := fun v => U64 v.1 ∧ 0 ≤ v.2 ∧ v.2 ≤ 64) (m := fun v => 64 - v.2.toNat) (R := R)
    (by
      rintro ⟨w, i⟩ r ⟨hw, h0, h1⟩ hr
      obtain ⟨i, rfl⟩ := Int.eq_ofNat_of_zero_le h0
      simp only at hw h0 h1 ⊢
      rw [porterref12_Has_s1, mod64]
      by_cases hb : i < b % 64
      · have u2 : U64 (Int.tdiv w 2) := by
          rw [Int.tdiv_eq_ediv_of_nonneg hw.1]; unfold U64 at *; omega
        have wb1 : Go.IntKind.wrap .i64 ((i : Int) + 1) = ((i + 1 : Nat) : Int) := wrap_succ (by omega)
        rw [cond_t (decide_eq_true (by omega)), wrap_u64_in u2, wb1, hr _ ⟨u2, by simp only; omega, by simp only; omega⟩ (by simp only [Int.toNat_natCast]; omega)]
        simp only [R, Int.toNat_natCast]
        have e : b % 64 - i = (b % 64 - (i + 1)) + 1 := by omega
        rw [e, halves]
      · rw [cond_f (decide_eq_false (by omega))]
        simp only [R, Int.toNat_natCast]
        have e : b % 64 - i = 0 := by omega
        rw [e, halves]) N (w, (0 : Int)) ⟨hw, Int.le_refl _, (by omega : (0 : Int) ≤ 64)⟩ (by simp only; omega)
  rw [porterref12_Has_p1, h]
  rfl

theorem refHas_eq (N : Nat) {s : List Int} (hs : SetOk s) {b : Nat} (hb : b < 256) (hN : 64 < N) : porterref12_Has N s (b : Int) = some (hasS s b) := by
  have hi : b / 64 < 4 := by omega
  have e : Go.IntKind.wrap .i64 (Int.tdiv (b : Int) (64 : Int)) = ((b / 64 : Nat) : Int) := by
    rw [Int.tdiv_eq_ediv_of_nonneg (by omega), wrap_in (by unfold I64; omega)]
    omega
  rw [porterref12_Has, e, Int.toNat_natCast, cond_t (inR_nat hi), cond_t (decide_eq_true (by rw [hs.length]; exact hi)), refHas_loop N b (hs.word hi) _ hN, halves_bit (hs.word hi).1]
  rfl

theorem count4 (N : Nat) (a b c d : Int) : charset_Count (N + 5) [a, b, c, d] =
    some (Go.IntKind.wrap .i64 (Go.IntKind.wrap .i64 (Go.IntKind.wrap .i64 (Go.IntKind.wrap .i64 (0 + onesI a) + onesI b) + onesI c) + onesI d)) := by kernel_rfl

theorem count_eq (N : Nat) {s : List Int} (hs : SetOk s) : charset_Count (N + 5) s = some ((cntS s : Nat) : Int) := by
  obtain ⟨a, b, c, d, rfl, ha, hb, hc, hd⟩ := hs
  have h := cntS_le [a, b, c, d]
  rw [cntS_eq rfl] at h
  rw [count4, ones_eq ha, ones_eq hb, ones_eq hc, ones_eq hd, cntS_eq rfl]
  generalize pop 64 a.toNat = p at *
  generalize pop 64 b.toNat = q at *
  generalize pop 64 c.toNat = r at *
  generalize pop 64 d.toNat = t at *
  rw [wrap_in (x := 0 + (p : Int)) (by unfold I64; omega), wrap_in (x := 0 + (p : Int) + q) (by unfold I64; omega), wrap_in (x := 0 + (p : Int) + q + r) (by unfold I64; omega),
    wrap_in (by unfold I64; omega)]
  congr 1
  omega

def castL (l : List Nat) : List Int := l.map Int.ofNat

theorem toStr_cast : ∀ l : List Nat, (∀ n ∈ l, n < 256) → toStr (castL l) = l.map UInt8.ofNat
  | [], _ => rfl
  | n :: l, h => by
    have ih := toStr_cast l (fun m hm => h m (List.mem_cons_of_mem _ hm))
    have e := toStr_byte (UInt8.ofNat n)
    have hn := h n (List.mem_cons_self ..)
    rw [UInt8.toNat_ofNat', Nat.mod_eq_of_lt hn] at e
    have e1 : castL (n :: l) = [(n : Int)] ++ castL l := rfl
    rw [e1, toStr_append, e, ih]
    rfl

theorem text_eq (N : Nat) {s : List Int} (hs : SetOk s) (hN : 256 < N + 5) : charset_Text (N + 5) s = some (textS s) := by
  have hc := cntS_le s
  rw [charset_Text, count_eq N hs]
  simp only [Option.bind_some]
  rw [cond_t (decide_eq_true ⟨Int.le_refl _, by omega, by omega, by omega⟩), charset_Text_p1]
  let R : List Int × Int → Option (List UInt8) := fun v => some (toStr (v.1 ++ castL (tailN s (256 - v.2.toNat) v.2.toNat)))
  have h := iter_eq (step := fun (v : ((List Int) × Int)) r => charset_Text_s1 (N + 5) s v.1 v.2 (fun out x8 => (r (out, x8))) (fun out => some (toStr out)))
    (I := fun v => (v.1.length : Int) ≤ v.2 ∧ v.2 ≤ 256) (m := fun v => 256 - v.2.toNat) (R := R)
    (by
      rintro ⟨out, b⟩ r ⟨h0, h1⟩ hr
      simp only at h0 h1
      obtain ⟨b, rfl⟩ := Int.eq_ofNat_of_zero_le (show 0 ≤ b by omega)
      simp only
      rw [charset_Text_s1]
      by_cases hb : b < 256
      · have wb : Go.IntKind.wrap .u8 (b : Int) = (b : Int) := wrap_u8_in (by omega) (by omega)
        have wb1 : Go.IntKind.wrap .i64 ((b : Int) + 1) = ((b + 1 : Nat) : Int) := wrap_succ (by omega)
        have e : 256 - b = (256 - (b + 1)) + 1 := by omega
        rw [cond_t (decide_eq_true (by omega)), wb, has_eq (N + 5) hs hb, wb1]
        simp only [Option.bind_some]
        rw [show R (out, (b : Int)) = some (toStr (out ++ castL (tailN s (256 - b) b))) from rfl, e, tailN]
        cases hh : hasS s b
        · rw [cond_f rfl, if_neg (by decide), hr _ ⟨by simp only; omega, by simp only; omega⟩ (by simp only [Int.toNat_natCast]; omega)]
          rfl
        · rw [cond_t rfl, if_pos rfl, cond_t (decide_eq_true (by omega)), hr _ ⟨by simp only [List.length_append, List.length_cons, List.length_nil]; omega, by simp only; omega⟩ (by simp only [Int.toNat_natCast]; omega)]
          simp only [R, Int.toNat_natCast, castL, List.map_cons, List.append_assoc, List.singleton_append]
          rfl
      · rw [cond_f (decide_eq_false (by omega))]
        have e : 256 - b = 0 := by omega
        simp only [R, Int.toNat_natCast, e, tailN, castL, List.map_nil, List.append_nil]) (N + 5) ([], (0 : Int)) ⟨Int.le_refl _, by simp only; omega⟩ (by simp only [Int.toNat_zero]; omega)
  rw [h]
  simp only [R, Int.toNat_zero, Nat.sub_zero, List.nil_append]
  rw [toStr_cast _ (fun n hn => by have := ((tail_mem s 256 0 n).1 hn).2.1; omega)]
  rfl

end Go.Proofs.YtkpmnnabpiieoaaLg
