/- What the plain functions of name's Word say. -/
import Derived.Test.YtdgmejgepcodnaaLgNamM
import Derived.Test.YtdgmejgepcodnaaLgFn39
set_option linter.all false
set_option maxRecDepth 100000
namespace Go.Proofs.YtdgmejgepcodnaaLg
open Go Go.Lift Go.Proofs.YtdgmejgepcodnaaPx

theorem wordRune_eq (N : Nat) (c : Nat) (f : Bool) : name_wordRune N (c : Int) f = some (worS c f) := by
  simp only [name_wordRune, name_wordRune_p1, name_digit, worS, Bool.cond_eq_ite, decide_eq_true_eq, beq_iff_eq]
  have key : (if (48 : Int) ≤ c then some (decide ((c : Int) ≤ 57)) else some false) = some (decide (48 ≤ c ∧ c ≤ 57)) := by
    split
    · congr 1; rw [Bool.eq_iff_iff, decide_eq_true_eq, decide_eq_true_eq]; omega
    · congr 1; rw [Bool.eq_iff_iff, decide_eq_true_eq]; simp; omega
  rw [key]
  simp only [Option.bind_some, decide_eq_true_eq, Bool.false_eq_true, if_false]
  by_cases h1 : 97 ≤ c ∧ c ≤ 122
  · rw [if_pos (by omega), if_pos (by omega)]; simp [h1]
  have hx : ∀ X Y : Option Bool, (if (97 : Int) ≤ c then if (c : Int) ≤ 122 then Y else X else X) = X := by
    intro X Y
    repeat' split
    all_goals first
      | rfl
      | omega
  rw [hx, decide_eq_false h1, Bool.false_or]
  by_cases h4 : 48 ≤ c ∧ c ≤ 57
  · rw [if_pos h4, decide_eq_true (p := (48 ≤ c ∧ c ≤ 57) ∨ c = 45) (.inl h4), Bool.true_and]
  · rw [if_neg h4]
    by_cases h5 : c = 45
    · subst h5; simp
    · rw [if_neg (by omega), decide_eq_false (by omega), Bool.false_and]

theorem first_eq (i : Nat) : ((((i : Nat) : Int)) == 0) = decide (i = 0) := by
  rw [Bool.eq_iff_iff, beq_iff_eq, decide_eq_true_eq]; omega

theorem allWord_eq (N : Nat) {s : List UInt8} (hN : 40 < N) : name_all_word N s = some (wordL s) := by
  simp only [name_all_word, name_all_word_p1, name_all_word_p2, wordL]
  by_cases h0 : s = []
  · subst h0; rfl
  have hl : s.length ≠ 0 := fun e => h0 (List.length_eq_zero_iff.1 e)
  rw [cond_f (by simpa using h0)]
  by_cases h1 : 32 < s.length
  · rw [cond_t (dec_t (by omega)), decide_eq_false (by omega)]; rfl
  rw [cond_f (dec_f (by omega)), decide_eq_true (p := 1 ≤ s.length ∧ s.length ≤ 32) (by omega), Bool.true_and]
  simp only [name_all_word_p3]
  rw [iter_eq (I := fun (v : List UInt8 × Nat) => v.1 = s ∧ v.2 ≤ s.length) (m := fun (v : List UInt8 × Nat) => s.length - v.2) (R := fun (v : List UInt8 × Nat) => some (allS worS (s.drop v.2) (decide (v.2 = 0)))) ?_ N (s, 0) ⟨rfl, Nat.zero_le _⟩ (by dsimp only; omega)]
  · simp
  rintro ⟨s', i⟩ r ⟨rfl, hi⟩ hr
  dsimp only at *
  simp only [name_all_word_s3, first_eq]
  by_cases hlt : i < s'.length
  · rw [cond_t (dec_t hlt), wordRune_eq, Option.bind_some, drop_cons s' 0 i hlt]
    simp only [allS]
    by_cases h128 : (s'.getD i 0).toNat < 128
    · rw [rune_ascii h128]
      dsimp only
      cases hp : worS (s'.getD i 0).toNat (decide (i = 0)) with
      | false => rfl
      | true =>
        rw [Bool.not_true, cond_false, hr _ ⟨rfl, by dsimp only; omega⟩ (by dsimp only; omega)]
        dsimp only
        rw [decide_eq_false (by omega), Bool.true_and]
    · obtain ⟨g1, _⟩ := rune_high hlt (by omega)
      rw [worS_high g1, worS_high (by omega)]; rfl
  · rw [cond_f (dec_f hlt), drop_nil' s' (by omega)]; rfl

theorem word_eq (N : Nat) {s : List UInt8} (hN : 40 < N) : name_Word N s = some (wordL s) := by
  simp only [name_Word, allWord_eq N hN, Option.bind_some]

/-! the reference -/

theorem refWord_eq (N : Nat) {s : List UInt8} (hN : 40 < N) : porterref09_Word N s = some (wordL s) := by
  simp only [porterref09_Word, porterref09_Word_p1, porterref09_Word_p2, wordL]
  by_cases h0 : s.length = 0
  · rw [cond_t (dec_t (by omega)), decide_eq_false (by omega)]; rfl
  rw [cond_f (dec_f (by omega))]
  by_cases h1 : 32 < s.length
  · rw [cond_t (dec_t (by omega)), decide_eq_false (by omega)]; rfl
  rw [cond_f (dec_f (by omega)), decide_eq_true (p := 1 ≤ s.length ∧ s.length ≤ 32) (by omega), Bool.true_and]
  simp only [porterref09_Word_p3]
  rw [iter_eq (I := fun (v : Int) => 0 ≤ v ∧ v ≤ ((s.length : Nat) : Int)) (m := fun (v : Int) => s.length - v.toNat) (R := fun (v : Int) => some (allS worS (s.drop v.toNat) (decide (v.toNat = 0)))) ?_ N 0 ⟨by omega, by omega⟩ (by omega)]
  · simp
  intro v r ⟨h2, h3⟩ hr
  obtain ⟨i, rfl⟩ := Int.eq_ofNat_of_zero_le h2
  simp only [porterref09_Word_s3, porterref09_Word_p4, Int.toNat_natCast] at *
  by_cases hlt : i < s.length
  · have p5 : ∀ k0 : Bool → Option Bool, porterref09_Word_p5 N s (i : Int) k0 = k0 (decide (97 ≤ (s.getD i 0).toNat ∧ (s.getD i 0).toNat ≤ 122)) := by
      intro k0
      simp only [porterref09_Word_p5, Int.toNat_natCast]
      rw [cond_t (inR_nat hlt), cond_t (inR_nat hlt)]
      by_cases h : 97 ≤ (s.getD i 0).toNat
      · rw [cond_t (dec_t (by omega))]; congr 1; rw [Bool.eq_iff_iff, decide_eq_true_eq, decide_eq_true_eq]; omega
      · rw [cond_f (dec_f (by omega)), decide_eq_false (by omega)]
    have p6 : ∀ (b : Bool) (k0 : Bool → Option Bool), porterref09_Word_p6 N s (i : Int) b k0 = k0 (decide ((48 ≤ (s.getD i 0).toNat ∧ (s.getD i 0).toNat ≤ 57) ∨ (s.getD i 0).toNat = 45)) := by
      intro b k0
      simp only [porterref09_Word_p6, Int.toNat_natCast]
      rw [cond_t (inR_nat hlt), cond_t (inR_nat hlt), cond_t (inR_nat hlt)]
      by_cases h45 : (s.getD i 0).toNat = 45
      · rw [cond_t (by rw [h45]; rfl), decide_eq_true (by omega)]
      · rw [cond_f (by rw [beq_eq_false_iff_ne]; omega)]
        by_cases h : 48 ≤ (s.getD i 0).toNat
        · rw [cond_t (dec_t (by omega))]; congr 1; rw [Bool.eq_iff_iff, decide_eq_true_eq, decide_eq_true_eq]; omega
        · rw [cond_f (dec_f (by omega)), decide_eq_false (by omega)]
    rw [cond_t (dec_t (by omega)), p5, p6, drop_cons s 0 i hlt]
    simp only [porterref09_Word_p7, first_eq, allS, worS]
    have hrec : r ((i + 1 : Nat) : Int) = some (allS worS (s.drop (i + 1)) false) := by
      rw [hr _ ⟨by omega, by omega⟩ (by omega), Int.toNat_natCast, decide_eq_false (by omega)]
    rw [wrap_succ (by omega), hrec]
    generalize decide (97 ≤ (s.getD i 0).toNat ∧ (s.getD i 0).toNat ≤ 122) = p
    generalize decide ((48 ≤ (s.getD i 0).toNat ∧ (s.getD i 0).toNat ≤ 57) ∨ (s.getD i 0).toNat = 45) = q
    generalize decide (i = 0) = f
    cases p <;> cases q <;> cases f <;> rfl
  · rw [cond_f (dec_f (by omega)), drop_nil' s (by omega)]; rfl

end Go.Proofs.YtdgmejgepcodnaaLg
