/- What a reader's calls do, beside the document's; and fields put. -/
import Derived.Test.YtdgmejgepcodnaaLgVarF
set_option linter.all false
set_option maxRecDepth 100000
namespace Go.Proofs.YtdgmejgepcodnaaLg
open Go Go.Lift Go.Proofs.YtdgmejgepcodnaaPx

abbrev RefT := List UInt8 × (Int × Unit)

/-- a reader that was made -/
def rdr (s : List UInt8) (e : Int) : RdrT.den := (true, (s, (e, ())))
def rf (s : List UInt8) (e : Int) : RefT := (s, (e, ()))

def Inv8 (s : List UInt8) (e : Int) : Prop := s.length ≤ 1000000 ∧ (e ≠ 0 → s = [])

theorem inv_bad (e : Int) : Inv8 [] e := ⟨by simp, fun _ => rfl⟩
theorem inv_drop {s : List UInt8} (h : s.length ≤ 1000000) (k : Nat) : Inv8 (s.drop k) 0 := ⟨by rw [List.length_drop]; omega, fun h => absurd rfl h⟩

theorem reads_t (N : Nat) (s : List UInt8) (e : Int) : field_Reader_reads N (rdr s e) = some (e == 0, (rdr s e, ())) := rfl

theorem fail_off (N : Nat) (s : List UInt8) {e : Int} (he : e ≠ 0) (f : Int) : field_Reader_Fail N (rdr s e) f = some ((), (rdr s e, ())) := by
  rw [field_Reader_Fail, field_Reader_Fail_p1, reads_t, beq_eq_false_iff_ne.2 he]
  rfl

theorem fail_on (N : Nat) (s : List UInt8) {f : Int} (hf : f ≠ 0) : field_Reader_Fail N (rdr s 0) f = some ((), (rdr [] f, ())) := by
  rw [field_Reader_Fail, field_Reader_Fail_p1, reads_t]
  simp only [Option.bind_some]
  rw [beq_self_eq_true, cond_true, bne_iff_ne.2 hf]
  rfl

theorem fail_zero (N : Nat) (s : List UInt8) (e : Int) : field_Reader_Fail N (rdr s e) 0 = some ((), (rdr s e, ())) := by
  rw [field_Reader_Fail, field_Reader_Fail_p1, reads_t]
  simp only [Option.bind_some]
  cases (e == 0) <;> rfl

theorem rfail_off (N : Nat) (s : List UInt8) {e : Int} (he : e ≠ 0) (f : Int) : porterref08_R_Fail N (rf s e) f = some (rf s e) := by
  rw [porterref08_R_Fail, porterref08_R_Fail_p1, porterref08_R_Fail_p2, show (rf s e).2.1 = e from rfl, bne_iff_ne.2 he]
  rfl

theorem rfail_on (N : Nat) (s : List UInt8) {f : Int} (hf : f ≠ 0) : porterref08_R_Fail N (rf s 0) f = some (rf [] f) := by
  rw [porterref08_R_Fail, porterref08_R_Fail_p1, porterref08_R_Fail_p2, show (rf s 0).2.1 = 0 from rfl, bne_self_eq_false, cond_false, beq_eq_false_iff_ne.2 hf]
  rfl

theorem rfail_zero (N : Nat) (s : List UInt8) (e : Int) : porterref08_R_Fail N (rf s e) 0 = some (rf s e) := by
  rw [porterref08_R_Fail, porterref08_R_Fail_p1, porterref08_R_Fail_p2]
  cases ((rf s e).2.1 != 0) <;> rfl

theorem fail_both (N : Nat) {s : List UInt8} {e : Int} (h : Inv8 s e) (f : Int) : ∃ s' e', field_Reader_Fail N (rdr s e) f = some ((), (rdr s' e', ())) ∧ porterref08_R_Fail N (rf s e) f = some (rf s' e') ∧ Inv8 s' e' := by
  by_cases he : e = 0
  · subst he
    by_cases hf : f = 0
    · subst hf
      exact ⟨s, 0, fail_zero N s 0, rfail_zero N s 0, h⟩
    · exact ⟨[], f, fail_on N s hf, rfail_on N s hf, inv_bad f⟩
  · exact ⟨s, e, fail_off N s he f, rfail_off N s he f, h⟩

theorem err_t (N : Nat) (s : List UInt8) (e : Int) : field_Reader_Err N (rdr s e) = some (e, (rdr s e, ())) := rfl

theorem byte_bad (N : Nat) (s : List UInt8) {e : Int} (he : e ≠ 0) : field_Reader_Byte N (rdr s e) = some (0, (rdr s e, ())) := by
  rw [field_Reader_Byte, show ((rdr s e).1 && ((rdr s e).2.2.1 == 0)) = (e == 0) from rfl, beq_eq_false_iff_ne.2 he]
  rfl

theorem wrap_nat {n : Nat} (h : n ≤ 1000000) : Go.IntKind.wrap .u64 (n : Int) = (n : Int) := wrap_u64_nat (by omega)

theorem byte_one (N : Nat) (a : UInt8) (l : List UInt8) (hl : (a :: l).length ≤ 1000000) : field_Reader_Byte N (rdr (a :: l) 0) = some ((a.toNat : Int), (rdr l 0, ())) := by
  rw [field_Reader_Byte, show ((rdr (a :: l) 0).1 && ((rdr (a :: l) 0).2.2.1 == 0)) = true from rfl, cond_true, show (rdr (a :: l) 0).2.1 = a :: l from rfl, wrap_nat hl,
    cond_t (decide_eq_true (by simp only [List.length_cons]; omega))]
  rfl

theorem byte_both (N : Nat) {s : List UInt8} {e : Int} (h : Inv8 s e) :
    ∃ b s' e', field_Reader_Byte N (rdr s e) = some (b, (rdr s' e', ())) ∧ porterref08_R_Byte N (rf s e) = some (b, (rf s' e', ())) ∧ Inv8 s' e' := by
  by_cases he : e = 0
  · subst he
    cases s with
    | nil =>
      refine ⟨0, [], 1, rfl, ?_, inv_bad 1⟩
      rw [porterref08_R_Byte, show (rf [] 0).2.1 = 0 from rfl, bne_self_eq_false, cond_false, show (rf [] 0).1 = [] from rfl, cond_t (beq_self_eq_true _), rfail_on N [] (by decide)]
      rfl
    | cons a l =>
      refine ⟨(a.toNat : Int), l, 0, byte_one N a l h.1, ?_, ⟨by have := h.1; simp only [List.length_cons] at this; omega, fun h => absurd rfl h⟩⟩
      rw [porterref08_R_Byte, show (rf (a :: l) 0).2.1 = 0 from rfl, bne_self_eq_false, cond_false, show (rf (a :: l) 0).1 = a :: l from rfl, cond_f (by rfl),
        cond_t (inR_of (by omega) (by simp only [List.length_cons]; omega)), cond_t (decide_eq_true ⟨by omega, by simp only [List.length_cons]; omega⟩)]
      have ec : cut (a :: l) 1 (List.length (a :: l)) = l := by simp [cut]
      rw [ec]
      rfl
  · refine ⟨0, s, e, byte_bad N s he, ?_, h⟩
    rw [porterref08_R_Byte, show (rf s e).2.1 = e from rfl, bne_iff_ne.2 he]
    rfl

/-- what Num says -/
def numS (s : List UInt8) (e most : Int) : Int × List UInt8 × Int :=
  if e ≠ 0 then (0, s, e)
  else if (takeL s).2.2 ≠ 0 then (0, [], (takeL s).2.2)
  else if most < (takeL s).1 then (0, [], 3)
  else ((takeL s).1, s.drop (takeL s).2.1, 0)

theorem take_le {s : List UInt8} (h : (takeL s).2.2 = 0) : (takeL s).1 < 18446744073709551616 ∧ (takeL s).2.1 ≤ s.length := by
  have := Go.Proofs.YtdgmejgepcodnaaPx.take_ok (s := s) (n := (takeL s).1) (k := (takeL s).2.1) (by rw [← h])
  exact ⟨this.1, this.2.2.1⟩

theorem num_inv {s : List UInt8} {e most : Int} (h : Inv8 s e) : Inv8 (numS s e most).2.1 (numS s e most).2.2 := by
  unfold numS
  split
  · exact h
  · split
    · exact inv_bad _
    · split
      · exact inv_bad 3
      · exact inv_drop h.1 _

theorem num_eq (N : Nat) (hN : 20 < N) {s : List UInt8} {e : Int} (h : Inv8 s e) (most : Int) : field_Reader_Num N (rdr s e) most = some ((numS s e most).1, (rdr (numS s e most).2.1 (numS s e most).2.2, ())) := by
  rw [field_Reader_Num, show ((rdr s e).1 && ((rdr s e).2.2.1 == 0)) = (e == 0) from rfl, show (rdr s e).2.1 = s from rfl]
  unfold numS
  by_cases he : e = 0
  · subst he
    rw [if_neg (by simp), cond_t (by rfl), vtake_eq N hN s (Nat.le_trans h.1 (by omega))]
    simp only [Option.bind_some, packT]
    by_cases hf : (takeL s).2.2 = 0
    · obtain ⟨h1, h2⟩ := take_le hf
      rw [if_neg (by simpa using hf), cond_t (decide_eq_true hf)]
      by_cases hm : most < (takeL s).1
      · rw [if_pos hm, cond_f (decide_eq_false (by omega))]
        rfl
      · rw [if_neg hm, cond_t (decide_eq_true (by omega)), cond_t (decide_eq_true ⟨by omega, by omega⟩), Int.toNat_natCast]
        rfl
    · rw [if_pos hf, cond_f (decide_eq_false hf)]
      rfl
  · rw [if_pos he, cond_f (beq_eq_false_iff_ne.2 he)]

theorem rnum_eq (N : Nat) (hN : 20 < N) {s : List UInt8} {e : Int} (h : Inv8 s e) (most : Int) : porterref08_R_Num N (rf s e) most = some ((numS s e most).1, (rf (numS s e most).2.1 (numS s e most).2.2, ())) := by
  rw [porterref08_R_Num, show (rf s e).2.1 = e from rfl, show (rf s e).1 = s from rfl]
  unfold numS
  by_cases he : e = 0
  · subst he
    rw [if_neg (by simp), bne_self_eq_false, cond_false, refTake_eq N hN s (Nat.le_trans h.1 (by omega))]
    simp only [Option.bind_some, packT]
    rw [porterref08_R_Num_p1, porterref08_R_Num_p2]
    by_cases hf : (takeL s).2.2 = 0
    · obtain ⟨h1, h2⟩ := take_le hf
      rw [if_neg (by simpa using hf), cond_t (beq_iff_eq.2 hf)]
      by_cases hm : most < (takeL s).1
      · rw [if_pos hm, cond_t (decide_eq_true hm), cond_t (by rfl), rfail_on N s (by decide)]
        rfl
      · rw [if_neg hm, cond_f (decide_eq_false hm), hf, bne_self_eq_false, cond_false, cond_t (decide_eq_true ⟨by omega, by omega⟩), Int.toNat_natCast]
        have ec : cut s (takeL s).2.1 s.length = s.drop (takeL s).2.1 := by
          rw [cut, List.take_of_length_le (by simp)]
        rw [ec]
        rfl
    · rw [if_pos hf, cond_f (beq_eq_false_iff_ne.2 hf), cond_false, bne_iff_ne.2 hf, cond_true, rfail_on N s hf]
      rfl
  · rw [if_pos he, bne_iff_ne.2 he, cond_true]

/-- what Text says -/
def textT (y : Int × List UInt8 × Int) : List UInt8 × List UInt8 × Int :=
  if y.2.2 ≠ 0 then ([], y.2.1, y.2.2)
  else if (y.2.1.length : Int) < y.1 then ([], [], 1)
  else (y.2.1.take y.1.toNat, y.2.1.drop y.1.toNat, 0)

def textS (s : List UInt8) (e most : Int) : List UInt8 × List UInt8 × Int := textT (numS s e (if most < 0 then 0 else most))

theorem num_pos (s : List UInt8) (e most : Int) : 0 ≤ (numS s e most).1 := by
  unfold numS
  split
  · exact Int.le_refl _
  · split
    · exact Int.le_refl _
    · split
      · exact Int.le_refl _
      · exact Int.natCast_nonneg _

theorem text_inv {s : List UInt8} {e most : Int} (h : Inv8 s e) : Inv8 (textS s e most).2.1 (textS s e most).2.2 := by
  have hn := num_inv (most := if most < 0 then 0 else most) h
  unfold textS textT
  generalize numS s e (if most < 0 then 0 else most) = y at *
  by_cases h1 : y.2.2 = 0
  · rw [if_neg (by simpa using h1)]
    by_cases h2 : (y.2.1.length : Int) < y.1
    · rw [if_pos h2]; exact inv_bad 1
    · rw [if_neg h2]; exact inv_drop hn.1 _
  · rw [if_pos h1]; exact hn

theorem rtext_eq (N : Nat) (hN : 20 < N) {s : List UInt8} {e : Int} (h : Inv8 s e) {most : Int} (hm : most < 9223372036854775808) : porterref08_R_Text N (rf s e) most = some ((textS s e most).1, (rf (textS s e most).2.1 (textS s e most).2.2, ())) := by
  have key : ∀ m : Int, m = (if most < 0 then 0 else most) → porterref08_R_Text N (rf s e) most = ((porterref08_R_Num N (rf s e) (Go.IntKind.wrap .u64 m)).bind fun y =>
      cond (y.2.1.2.1 != (0 : Int))
      (some (([] : List UInt8), (y.2.1, ())))
      (cond (decide ((Go.IntKind.wrap Go.IntKind.u64 (((List.length y.2.1.1) : Nat) : Int)) < y.1))
        ((porterref08_R_Fail N y.2.1 (1 : Int)).bind fun y1 =>
          some (([] : List UInt8), (y1, ())))
        (cond (decide (((0 : Int) ≤ y.1) ∧ (y.1 ≤ (((List.length y.2.1.1) : Nat) : Int))))
          (cond (decide (((0 : Int) ≤ y.1) ∧ (y.1 ≤ (((List.length y.2.1.1) : Nat) : Int))))
            (some ((cut y.2.1.1 0 (Int.toNat y.1)), (((cut y.2.1.1 (Int.toNat y.1) (List.length y.2.1.1)), ((0 : Int), ())), ())))
            (none))
          (none)))) := by
    rintro m rfl
    rw [porterref08_R_Text, porterref08_R_Text_p1]
    by_cases hm : most < 0
    · rw [cond_t (decide_eq_true hm), if_pos hm]
    · rw [cond_f (decide_eq_false hm), if_neg hm]
  rw [key _ rfl]
  have wm : Go.IntKind.wrap .u64 (if most < 0 then 0 else most) = (if most < 0 then 0 else most) := by
    have e : ∀ x : Int, Go.IntKind.wrap .u64 x = x % 18446744073709551616 := fun _ => rfl
    rw [e]
    split <;> omega
  rw [wm, rnum_eq N hN h]
  simp only [Option.bind_some]
  have hn := num_inv (most := if most < 0 then 0 else most) h
  have hp := num_pos s e (if most < 0 then 0 else most)
  unfold textS textT
  generalize numS s e (if most < 0 then 0 else most) = y at *
  obtain ⟨n, t, f⟩ := y
  simp only at hn hp ⊢
  rw [show (rf t f).2.1 = f from rfl, show (rf t f).1 = t from rfl, wrap_nat hn.1]
  by_cases hf : f = 0
  · subst hf
    rw [if_neg (by simp), bne_self_eq_false, cond_false]
    by_cases hl : (t.length : Int) < n
    · rw [if_pos hl, cond_t (decide_eq_true hl), rfail_on N t (by decide)]
      rfl
    · rw [if_neg hl, cond_f (decide_eq_false hl), cond_t (decide_eq_true ⟨hp, by omega⟩), cond_t (decide_eq_true ⟨hp, by omega⟩)]
      have ec : cut t n.toNat t.length = t.drop n.toNat := by
        rw [cut, List.take_of_length_le (by simp)]
      have e0 : cut t 0 n.toNat = t.take n.toNat := by simp [cut]
      rw [ec, e0]
      rfl
  · rw [if_pos hf, bne_iff_ne.2 hf, cond_true]

theorem text_eq (N : Nat) (hN : 20 < N) {s : List UInt8} {e : Int} (h : Inv8 s e) {most : Int} (hm : most < 9223372036854775808) : field_Reader_Text N (rdr s e) most = some ((textS s e most).1, (rdr (textS s e most).2.1 (textS s e most).2.2, ())) := by
  have wm : Go.IntKind.wrap .u64 (if most < 0 then 0 else most) = (if most < 0 then 0 else most) := by
    have e : ∀ x : Int, Go.IntKind.wrap .u64 x = x % 18446744073709551616 := fun _ => rfl
    rw [e]
    split <;> omega
  rw [field_Reader_Text, show ((rdr s e).1 && ((rdr s e).2.2.1 == 0)) = (e == 0) from rfl, show (rdr s e).2.1 = s from rfl, wm]
  unfold textS
  generalize (if most < 0 then 0 else most) = m
  by_cases he : e = 0
  · subst he
    rw [cond_t (by rfl), vtake_eq N hN s (Nat.le_trans h.1 (by omega))]
    simp only [Option.bind_some, packT]
    by_cases hf : (takeL s).2.2 = 0
    · obtain ⟨h1, h2⟩ := take_le hf
      rw [cond_t (decide_eq_true hf)]
      by_cases hm : m < (takeL s).1
      · have hy : numS s 0 m = (0, [], 3) := by
          unfold numS
          rw [if_neg (by simp), if_neg (by simpa using hf), if_pos hm]
        rw [cond_f (decide_eq_false (by omega)), hy]
        rfl
      · have hy : numS s 0 m = (((takeL s).1 : Int), s.drop (takeL s).2.1, 0) := by
          unfold numS
          rw [if_neg (by simp), if_neg (by simpa using hf), if_neg hm]
        have hd : (s.drop (takeL s).2.1).length ≤ 1000000 := by rw [List.length_drop]; have := h.1; omega
        rw [cond_t (decide_eq_true (by omega)), cond_t (decide_eq_true ⟨by omega, by omega, by omega⟩), Int.toNat_natCast, hy, wrap_nat hd]
        unfold textT
        rw [if_neg (by simp)]
        by_cases hl : ((s.drop (takeL s).2.1).length : Int) < (takeL s).1
        · rw [if_pos hl, cond_f (decide_eq_false (by omega))]
          rfl
        · rw [if_neg hl, cond_t (decide_eq_true (by omega))]
          rfl
    · have hy : numS s 0 m = (0, [], (takeL s).2.2) := by
        unfold numS
        rw [if_neg (by simp), if_pos hf]
      rw [cond_f (decide_eq_false hf), hy]
      unfold textT
      rw [if_pos hf]
      rfl
  · have hy : numS s e m = (0, s, e) := by
      unfold numS
      rw [if_pos he]
    rw [cond_f (beq_eq_false_iff_ne.2 he), hy]
    unfold textT
    rw [if_pos he]

theorem end_both (N : Nat) {s : List UInt8} {e : Int} (h : Inv8 s e) : ∃ s' e', field_Reader_End N (rdr s e) = some (e', (rdr s' e', ())) ∧ porterref08_R_End N (rf s e) = some (rf s' e') ∧ Inv8 s' e' := by
  cases s with
  | nil =>
    refine ⟨[], e, ?_, ?_, inv_bad e⟩
    · rw [field_Reader_End, field_Reader_End_p1, show (rdr [] e).2.1 = [] from rfl, cond_f (by rfl), err_t]
      rfl
    · rw [porterref08_R_End, show (rf [] e).1 = [] from rfl]
      rfl
  | cons a l =>
    have he : e = 0 := Decidable.byContradiction fun he => by cases h.2 he
    subst he
    refine ⟨[], 2, ?_, ?_, inv_bad 2⟩
    · rw [field_Reader_End, field_Reader_End_p1, show (rdr (a :: l) 0).2.1 = a :: l from rfl, cond_t (decide_eq_true (by simp only [List.length_cons]; omega)), fail_on N _ (by decide)]
      rfl
    · rw [porterref08_R_End, show (rf (a :: l) 0).1 = a :: l from rfl, cond_t (by rfl), rfail_on N _ (by decide)]
      rfl


theorem numS_bad (s : List UInt8) {e : Int} (he : e ≠ 0) (most : Int) : numS s e most = (0, s, e) := by
  unfold numS
  rw [if_pos he]

theorem textS_bad (s : List UInt8) {e : Int} (he : e ≠ 0) (most : Int) : textS s e most = ([], s, e) := by
  unfold textS textT
  rw [numS_bad s he, if_pos he]

theorem ftext_eq (N : Nat) (hN : 20 < N) {t : List UInt8} (ht : t.length ≤ 1000000) : field_Text N t = some (putL t.length ++ t) := by
  have := putL_len t.length
  rw [field_Text, wrap_nat ht, put_eq N hN (by omega)]
  simp only [Option.bind_some]
  rw [cond_t (decide_eq_true (by omega))]

theorem rtextp_eq (N : Nat) (hN : 20 < N) {t : List UInt8} (ht : t.length ≤ 1000000) : porterref08_Text N t = some (putL t.length ++ t) := by
  have := putL_len t.length
  rw [porterref08_Text, wrap_nat ht, refPutL N (by omega) (by omega)]
  simp only [Option.bind_some]
  rw [cond_t (decide_eq_true (by omega))]

theorem fnum_eq (N : Nat) (hN : 20 < N) {n : Nat} (hn : n < 18446744073709551616) : field_Num N (n : Int) = some (putL n) := by
  rw [field_Num, put_eq N hN hn]
  rfl

end Go.Proofs.YtdgmejgepcodnaaLg
