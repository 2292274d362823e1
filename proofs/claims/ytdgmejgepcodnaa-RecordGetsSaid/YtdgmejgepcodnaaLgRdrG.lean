/- Readers: what bytes, ends and failures give, and numbers and texts read back. -/
import Derived.Test.YtdgmejgepcodnaaLgFldG
import Derived.Test.YtdgmejgepcodnaaLgWrdF
set_option linter.all false
set_option maxRecDepth 100000
namespace Go.Proofs.YtdgmejgepcodnaaLg
open Go Go.Lift Go.Proofs.YtdgmejgepcodnaaPx

theorem word_len {t : List UInt8} (h : wordL t = true) : t.length ≤ 32 := by
  unfold wordL at h
  have := of_decide_eq_true (Bool.and_eq_true _ _ ▸ h).1
  exact this.2

def failR (s : List UInt8) (e f : Int) : List UInt8 × Int := if e ≠ 0 then (s, e) else ([], f)

theorem fail_eq (N : Nat) (s : List UInt8) (e : Int) {f : Int} (hf : f ≠ 0) : field_Reader_Fail N (rdr s e) f = some ((), (rdr (failR s e f).1 (failR s e f).2, ())) := by
  unfold failR
  by_cases he : e = 0
  · subst he
    rw [if_neg (by simp)]; exact fail_on N s hf
  · rw [if_pos he]; exact fail_off N s he f
theorem rfail_eq (N : Nat) (s : List UInt8) (e : Int) {f : Int} (hf : f ≠ 0) : porterref08_R_Fail N (rf s e) f = some (rf (failR s e f).1 (failR s e f).2) := by
  unfold failR
  by_cases he : e = 0
  · subst he
    rw [if_neg (by simp)]; exact rfail_on N s hf
  · rw [if_pos he]; exact rfail_off N s he f
theorem fail_inv {s : List UInt8} {e : Int} (h : Inv8 s e) (f : Int) : Inv8 (failR s e f).1 (failR s e f).2 := by
  unfold failR
  by_cases he : e = 0
  · subst he
    rw [if_neg (by simp)]; exact inv_bad f
  · rw [if_pos he]; exact h

def byteR (s : List UInt8) : Int × List UInt8 × Int := match s with
  | [] => (0, [], 1)
  | a :: l => ((a.toNat : Int), l, 0)

theorem byte_eq (N : Nat) {s : List UInt8} (hs : s.length ≤ 1000000) : field_Reader_Byte N (rdr s 0) = some ((byteR s).1, (rdr (byteR s).2.1 (byteR s).2.2, ())) := by
  cases s with
  | nil => rfl
  | cons a l => exact byte_one N a l hs
theorem rbyte_eq (N : Nat) (s : List UInt8) : porterref08_R_Byte N (rf s 0) = some ((byteR s).1, (rf (byteR s).2.1 (byteR s).2.2, ())) := by
  cases s with
  | nil =>
    rw [porterref08_R_Byte, show (rf [] 0).2.1 = 0 from rfl, bne_self_eq_false, cond_false, show (rf [] 0).1 = [] from rfl, cond_t (beq_self_eq_true _), rfail_on N [] (by decide)]
    rfl
  | cons a l =>
    rw [porterref08_R_Byte, show (rf (a :: l) 0).2.1 = 0 from rfl, bne_self_eq_false, cond_false, show (rf (a :: l) 0).1 = a :: l from rfl, cond_f (by rfl),
      cond_t (inR_of (by omega) (by simp only [List.length_cons]; omega)), cond_t (decide_eq_true ⟨by omega, by simp only [List.length_cons]; omega⟩)]
    have ec : cut (a :: l) 1 (List.length (a :: l)) = l := by simp [cut]
    rw [ec]
    rfl
theorem byteR_inv {s : List UInt8} (hs : s.length ≤ 1000000) : Inv8 (byteR s).2.1 (byteR s).2.2 := by
  cases s with
  | nil => exact inv_bad 1
  | cons a l => exact ⟨by simp only [List.length_cons] at hs; simp only [byteR]; omega, fun h => absurd rfl h⟩

def endR (s : List UInt8) (e : Int) : Int := if s = [] then e else 2

theorem end_eq (N : Nat) {s : List UInt8} {e : Int} (h : Inv8 s e) : field_Reader_End N (rdr s e) = some (endR s e, (rdr [] (endR s e), ())) := by
  cases s with
  | nil =>
    rw [field_Reader_End, field_Reader_End_p1, show (rdr [] e).2.1 = [] from rfl, cond_f (by rfl), err_t]
    rfl
  | cons a l =>
    have he : e = 0 := Decidable.byContradiction fun he => by cases h.2 he
    subst he
    rw [field_Reader_End, field_Reader_End_p1, show (rdr (a :: l) 0).2.1 = a :: l from rfl, cond_t (decide_eq_true (by simp only [List.length_cons]; omega)), fail_on N _ (by decide)]
    rfl
theorem rend_eq (N : Nat) {s : List UInt8} {e : Int} (h : Inv8 s e) : porterref08_R_End N (rf s e) = some (rf [] (endR s e)) := by
  cases s with
  | nil =>
    rw [porterref08_R_End, show (rf [] e).1 = [] from rfl]
    rfl
  | cons a l =>
    have he : e = 0 := Decidable.byContradiction fun he => by cases h.2 he
    subst he
    rw [porterref08_R_End, show (rf (a :: l) 0).1 = a :: l from rfl, cond_t (by rfl), rfail_on N _ (by decide)]
    rfl

theorem w64 (x : Int) : Go.RowKit.wrap64 x = Go.IntKind.wrap .i64 x := by
  unfold Go.RowKit.wrap64
  rw [Go.Proofs.YtdgmejgepcodnaaPx.wrap64]

theorem num_back {s s' : List UInt8} {e most v : Int} (h : numS s e most = (v, s', 0)) : e = 0 ∧ ∃ n : Nat, v = (n : Int) ∧ n < 18446744073709551616 ∧ (n : Int) ≤ most ∧ s = putL n ++ s' := by
  unfold numS at h
  split at h
  · rename_i he
    cases h
    exact absurd rfl he
  · rename_i he
    split at h
    · rename_i hf
      exact absurd (Prod.mk.inj (Prod.mk.inj h).2).2 hf
    · rename_i hf
      split at h
      · cases h
      · rename_i hm
        cases h
        have hf' : (takeL s).2.2 = 0 := by simpa using hf
        have := Go.Proofs.YtdgmejgepcodnaaPx.take_ok (s := s) (n := (takeL s).1) (k := (takeL s).2.1) (by rw [← hf'])
        exact ⟨by simpa using he, (takeL s).1, rfl, this.1, by omega, by rw [this.2.2.2, List.take_append_drop]⟩

theorem num_fwd {n : Nat} {s' : List UInt8} {most : Int} (hn : n < 18446744073709551616) (hm : (n : Int) ≤ most) : numS (putL n ++ s') 0 most = ((n : Int), s', 0) := by
  unfold numS
  rw [if_neg (by simp), take_put hn]
  simp only
  rw [if_neg (by simp), if_neg (by omega), List.drop_left]

theorem text_back {s s' t : List UInt8} {e : Int} (h : textS s e 32 = (t, s', 0)) : e = 0 ∧ t.length ≤ 32 ∧ s = putL t.length ++ t ++ s' := by
  unfold textS textT at h
  rw [if_neg (show ¬ (32 : Int) < 0 by decide)] at h
  obtain ⟨v, s1, f, hy⟩ : ∃ v s1 f, numS s e 32 = (v, s1, f) := ⟨_, _, _, rfl⟩
  rw [hy] at h
  simp only at h
  by_cases hf : f = 0
  · subst hf
    rw [if_neg (by simp)] at h
    obtain ⟨he, n, rfl, _, hm, rfl⟩ := num_back hy
    by_cases hl : (s1.length : Int) < (n : Int)
    · rw [if_pos hl] at h
      cases h
    · rw [if_neg hl, Int.toNat_natCast] at h
      cases h
      have hn : (s1.take n).length = n := by rw [List.length_take]; omega
      exact ⟨he, by omega, by rw [hn, List.append_assoc, List.take_append_drop]⟩
  · rw [if_pos hf] at h
    cases h
    exact absurd rfl hf

theorem text_fwd {t s' : List UInt8} (ht : t.length ≤ 32) : textS (putL t.length ++ t ++ s') 0 32 = (t, s', 0) := by
  unfold textS textT
  rw [if_neg (show ¬ (32 : Int) < 0 by decide), List.append_assoc, num_fwd (by omega) (by omega)]
  simp only
  rw [if_neg (by simp), if_neg (by simp only [List.length_append]; omega), Int.toNat_natCast, List.take_left, List.drop_left]

theorem fail_zero' {s : List UInt8} {e f : Int} (hf : f ≠ 0) : (failR s e f).2 ≠ 0 := by
  unfold failR
  by_cases he : e = 0
  · subst he
    rw [if_neg (by simp)]; exact hf
  · rw [if_pos he]; exact he

end Go.Proofs.YtdgmejgepcodnaaLg
