/- Layer 12: how many bytes a set has, which is the least, all of them, and the set of a text's bytes: what the program does. -/
import Derived.Test.YtohnhefabpcfpaaDoorLgChsS
import Derived.Test.YtohnhefabpcfpaaDoorLgChsR
set_option linter.all false
set_option maxRecDepth 100000
namespace Go.Proofs.YtohnhefabpcfpaaDoorLg
open Go Go.Lift Go.Proofs.YtohnhefabpcfpaaDoorPx

theorem count4 (N : Nat) (a b c d : Int) : charset_Count (N + 5) [a, b, c, d] =
    some (Go.IntKind.wrap .i64 (Go.IntKind.wrap .i64 (Go.IntKind.wrap .i64 (Go.IntKind.wrap .i64 (0 + onesI a) + onesI b) + onesI c) + onesI d)) := by kernel_rfl

theorem count_eq (N : Nat) {s : List Int} (hs : SetOk s) : charset_Count (N + 5) s = some ((cntS s : Nat) : Int) := by
  obtain ⟨a, b, c, d, rfl, ha, hb, hc, hd⟩ := hs
  have h := cntS_le [a, b, c, d]
  rw [cntS_eq rfl] at h
  rw [count4, ones_eq ha, ones_eq hb, ones_eq hc, ones_eq hd, cntS_eq rfl]
  generalize pop 64 a.toNat = p at *
  generalize pop 64 b.toNat = q at *
  generalize pop 64 c.toNat = r at *
  generalize pop 64 d.toNat = t at *
  rw [wrap_in (x := 0 + (p : Int)) (by unfold I64; omega), wrap_in (x := 0 + (p : Int) + q) (by unfold I64; omega), wrap_in (x := 0 + (p : Int) + q + r) (by unfold I64; omega),
    wrap_in (by unfold I64; omega)]
  congr 1
  omega

def castL (l : List Nat) : List Int := l.map Int.ofNat

theorem toStr_cast : ∀ l : List Nat, (∀ n ∈ l, n < 256) → toStr (castL l) = l.map UInt8.ofNat
  | [], _ => rfl
  | n :: l, h => by
    have ih := toStr_cast l (fun m hm => h m (List.mem_cons_of_mem _ hm))
    have e := toStr_byte (UInt8.ofNat n)
    have hn := h n (List.mem_cons_self ..)
    rw [UInt8.toNat_ofNat', Nat.mod_eq_of_lt hn] at e
    have e1 : castL (n :: l) = [(n : Int)] ++ castL l := rfl
    rw [e1, toStr_append, e, ih]
    rfl

theorem text_eq (N : Nat) {s : List Int} (hs : SetOk s) (hN : 256 < N + 5) : charset_Text (N + 5) s = some (textS s) := by
  have hc := cntS_le s
  rw [charset_Text, count_eq N hs]
  simp only [Option.bind_some]
  rw [cond_t (decide_eq_true ⟨Int.le_refl _, by omega, by omega, by omega⟩), charset_Text_p1]
  let R : List Int × Int → Option (List UInt8) := fun v => some (toStr (v.1 ++ castL (tailN s (256 - v.2.toNat) v.2.toNat)))
  have h := iter_eq (step := fun (v : ((List Int) × Int)) r => charset_Text_s1 (N + 5) s v.1 v.2 (fun out x8 => (r (out, x8))) (fun out => some (toStr out)))
    (I := fun v => (v.1.length : Int) ≤ v.2 ∧ v.2 ≤ 256) (m := fun v => 256 - v.2.toNat) (R := R)
    (by
      rintro ⟨out, b⟩ r ⟨h0, h1⟩ hr
      simp only at h0 h1
      obtain ⟨b, rfl⟩ := Int.eq_ofNat_of_zero_le (show 0 ≤ b by omega)
      simp only
      rw [charset_Text_s1]
      by_cases hb : b < 256
      · have wb : Go.IntKind.wrap .u8 (b : Int) = (b : Int) := wrap_u8_in (by omega) (by omega)
        have wb1 : Go.IntKind.wrap .i64 ((b : Int) + 1) = ((b + 1 : Nat) : Int) := wrap_succ (by omega)
        have e : 256 - b = (256 - (b + 1)) + 1 := by omega
        rw [cond_t (decide_eq_true (by omega)), wb, has_eq (N + 5) hs hb, wb1]
        simp only [Option.bind_some]
        rw [show R (out, (b : Int)) = some (toStr (out ++ castL (tailN s (256 - b) b))) from rfl, e, tailN]
        cases hh : hasS s b
        · rw [cond_f rfl, if_neg (by decide), hr _ ⟨by simp only; omega, by simp only; omega⟩ (by simp only [Int.toNat_natCast]; omega)]
          rfl
        · rw [cond_t rfl, if_pos rfl, cond_t (decide_eq_true (by omega)), hr _ ⟨by simp only [List.length_append, List.length_cons, List.length_nil]; omega, by simp only; omega⟩ (by simp only [Int.toNat_natCast]; omega)]
          simp only [R, Int.toNat_natCast, castL, List.map_cons, List.append_assoc, List.singleton_append]
          rfl
      · rw [cond_f (decide_eq_false (by omega))]
        have e : 256 - b = 0 := by omega
        simp only [R, Int.toNat_natCast, e, tailN, castL, List.map_nil, List.append_nil]) (N + 5) ([], (0 : Int)) ⟨Int.le_refl _, by simp only; omega⟩ (by simp only [Int.toNat_zero]; omega)
  rw [h]
  simp only [R, Int.toNat_zero, Nat.sub_zero, List.nil_append]
  rw [toStr_cast _ (fun n hn => by have := ((tail_mem s 256 0 n).1 hn).2.1; omega)]
  rfl

theorem texts_eq (N : Nat) (l : List UInt8) (hl : l.length < 9223372036854775807) (hN : l.length < N) : charset_Texts N l = some (putS l [0, 0, 0, 0]) := by
  rw [charset_Texts, charset_Texts_p1]
  let R : List Int × Int → Option (List Int) := fun v => some (putS (l.drop v.2.toNat) v.1)
  have h := iter_eq (step := fun (v : ((List Int) × Int)) r => charset_Texts_s1 N l [(0 : Int), (0 : Int), (0 : Int), (0 : Int)] ((l.length : Nat) : Int) v.1 v.2 (fun set_ x7 => (r (set_, x7))) (fun set_ => some set_))
    (I := fun v => SetOk v.1 ∧ 0 ≤ v.2 ∧ v.2 ≤ l.length) (m := fun v => l.length - v.2.toNat) (R := R)
    (by
      rintro ⟨s, i⟩ r ⟨hs, h0, h1⟩ hr
      simp only at hs h0 h1
      obtain ⟨i, rfl⟩ := Int.eq_ofNat_of_zero_le h0
      simp only
      rw [charset_Texts_s1]
      by_cases hi : i < l.length
      · have wi : Go.IntKind.wrap .i64 ((i : Int) + 1) = ((i + 1 : Nat) : Int) := wrap_succ (by omega)
        rw [cond_t (decide_eq_true (by omega)), cond_t (inR_nat hi), Int.toNat_natCast, with_eq N hs (u8_lt _), wi]
        simp only [Option.bind_some]
        rw [hr _ ⟨with_ok hs (u8_lt _), by simp only; omega, by simp only; omega⟩ (by simp only [Int.toNat_natCast]; omega)]
        simp only [R, Int.toNat_natCast]
        rw [drop_cons l 0 i hi]
        rfl
      · rw [cond_f (decide_eq_false (by omega))]
        simp only [R, Int.toNat_natCast]
        rw [drop_nil' l (by omega)]
        rfl) N ([0, 0, 0, 0], (0 : Int)) ⟨none_ok, Int.le_refl _, by simp only; omega⟩ (by simp only [Int.toNat_zero]; omega)
  exact h

theorem eq_sets (s : List Int) : eqD (T.arr 4 (T.int Go.IntKind.u64)) s s = true := (eqD_iff _ _ _ rfl).2 rfl

theorem not_not {s : List Int} (hs : SetOk s) : notS (notS s) = s :=
  set_ext (not_ok (not_ok hs)) hs (fun b hb => by rw [has_not (not_ok hs) hb, has_not hs hb, Bool.not_not])
theorem not_or {s t : List Int} (hs : SetOk s) (ht : SetOk t) : notS (orS s t) = andS (notS s) (notS t) :=
  set_ext (not_ok (or_ok hs ht)) (and_ok (not_ok hs) (not_ok ht)) (fun b hb => by
    rw [has_not (or_ok hs ht) hb, has_or hs ht hb, has_and (not_ok hs) (not_ok ht) hb, has_not hs hb, has_not ht hb, Bool.not_or])
theorem parts_or {s t : List Int} (hs : SetOk s) (ht : SetOk t) : orS (andS s t) (andS s (notS t)) = s :=
  set_ext (or_ok (and_ok hs ht) (and_ok hs (not_ok ht))) hs (fun b hb => by
    rw [has_or (and_ok hs ht) (and_ok hs (not_ok ht)) hb, has_and hs ht hb, has_and hs (not_ok ht) hb, has_not ht hb]
    cases hasS s b <;> cases hasS t b <;> rfl)
theorem or_comm {s t : List Int} (hs : SetOk s) (ht : SetOk t) : orS s t = orS t s :=
  set_ext (or_ok hs ht) (or_ok ht hs) (fun b hb => by rw [has_or hs ht hb, has_or ht hs hb, Bool.or_comm])

theorem turns_law (k : Nat) {s t : List Int} (hs : SetOk s) (ht : SetOk t) : porterlaw12_CharsetTurns (k + 300) s t = some true := by
  have la := and_ok hs ht
  have lb := and_ok hs (not_ok ht)
  have hp := cntS_parts hs ht
  have hle := cntS_le s
  have e := text_eq (k + 295) hs (by omega)
  have htl : (textS s).length ≤ 256 := by rw [text_len]; exact hle
  have hcount : (Go.IntKind.wrap .i64 (((cntS (andS s t) : Nat) : Int) + ((cntS (andS s (notS t)) : Nat) : Int)) == ((cntS s : Nat) : Int)) = true := by
    rw [wrap_in (by unfold I64; omega), beq_iff_eq]
    omega
  rw [porterlaw12_CharsetTurns, and_eq (k + 295) hs ht, less_eq (k + 295) hs ht, not_eq (k + 295) hs]
  simp only [Option.bind_some]
  rw [not_eq (k + 295) (not_ok hs), not_not hs]
  simp only [Option.bind_some]
  rw [cond_t (eq_sets s), or_eq (k + 295) hs ht]
  simp only [Option.bind_some]
  rw [not_eq (k + 295) (or_ok hs ht), not_eq (k + 295) ht]
  simp only [Option.bind_some]
  rw [and_eq (k + 295) (not_ok hs) (not_ok ht), not_or hs ht]
  simp only [Option.bind_some]
  rw [cond_t (eq_sets _), or_eq (k + 295) la lb, parts_or hs ht]
  simp only [Option.bind_some]
  rw [cond_t (eq_sets _), count_eq (k + 295) la, count_eq (k + 295) lb, count_eq (k + 295) hs]
  simp only [Option.bind_some]
  rw [cond_t hcount, or_eq (k + 295) ht hs, or_comm ht hs]
  simp only [Option.bind_some]
  rw [cond_t (eq_sets _), e]
  simp only [Option.bind_some]
  rw [texts_eq (k + 300) _ (by omega) (by omega), put_text hs]
  simp only [Option.bind_some]
  rw [cond_t (eq_sets _), works12 k]
  rfl

theorem turns_any {s t : List Int} (hs : s.length = 4 ∧ ∀ x ∈ s, Wf (.int .u64) x) (ht : t.length = 4 ∧ ∀ x ∈ t, Wf (.int .u64) x) :
    porterlaw12_CharsetTurns 300 s t = some true := turns_law 0 (setOk_of hs) (setOk_of ht)

end Go.Proofs.YtohnhefabpcfpaaDoorLg
