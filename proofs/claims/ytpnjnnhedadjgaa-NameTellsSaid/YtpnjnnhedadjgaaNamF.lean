/- What the plain functions of name say. -/
import Derived.Test.YtpnjnnhedadjgaaNamM
import Derived.Test.YtpnjnnhedadjgaaFnN
set_option linter.all false
namespace Go.Proofs.YtpnjnnhedadjgaaLf
open Go Go.Lift Go.Proofs.YtpnjnnhedadjgaaPx

theorem labelRune_eq (N : Nat) (c : Nat) (f : Bool) : name_labelRune N (c : Int) f = some (labS c f) := by
  simp only [name_labelRune, name_labelRune_p1, name_digit, labS, Bool.cond_eq_ite, decide_eq_true_eq, beq_iff_eq]
  by_cases h1 : 97 ≤ c ∧ c ≤ 122
  · rw [if_pos (by omega), if_pos (by omega)]; simp [h1]
  by_cases h2 : 65 ≤ c ∧ c ≤ 90
  · by_cases h3 : (97 : Int) ≤ c
    · omega
    · rw [if_neg h3, if_pos (by omega), if_pos (by omega)]; simp [h2]
  by_cases h3 : c = 95
  · subst h3; simp
  have h0 : ¬ ((c : Int) = 95) := by omega
  simp only [h0, if_false, if_true]
  rw [decide_eq_false (p := (97 ≤ c ∧ c ≤ 122) ∨ (65 ≤ c ∧ c ≤ 90) ∨ c = 95) (by omega), Bool.false_or]
  have key : (if (48 : Int) ≤ c then some (decide ((c : Int) ≤ 57)) else some false) = some (decide (48 ≤ c ∧ c ≤ 57)) := by
    split
    · congr 1; rw [Bool.eq_iff_iff, decide_eq_true_eq, decide_eq_true_eq]; omega
    · congr 1; rw [Bool.eq_iff_iff, decide_eq_true_eq]; simp; omega
  rw [key]
  simp only [Option.bind_some, decide_eq_true_eq]
  have hx : ∀ X Y : Option Bool, (if (97 : Int) ≤ c then if (c : Int) ≤ 122 then Y else if (65 : Int) ≤ c then if (c : Int) ≤ 90 then Y else X else X else if (65 : Int) ≤ c then if (c : Int) ≤ 90 then Y else X else X) = X := by
    intro X Y
    repeat' split
    all_goals first
      | rfl
      | omega
  rw [hx]
  by_cases h4 : 48 ≤ c ∧ c ≤ 57
  · rw [if_pos h4, decide_eq_true h4, Bool.true_and]
  · rw [if_neg h4, decide_eq_false h4, Bool.false_and]

theorem wordRune_eq (N : Nat) (c : Nat) (f : Bool) : name_wordRune N (c : Int) f = some (worS c f) := by
  simp only [name_wordRune, name_wordRune_p1, name_digit, worS, Bool.cond_eq_ite, decide_eq_true_eq, beq_iff_eq]
  have key : (if (48 : Int) ≤ c then some (decide ((c : Int) ≤ 57)) else some false) = some (decide (48 ≤ c ∧ c ≤ 57)) := by
    split
    · congr 1; rw [Bool.eq_iff_iff, decide_eq_true_eq, decide_eq_true_eq]; omega
    · congr 1; rw [Bool.eq_iff_iff, decide_eq_true_eq]; simp; omega
  rw [key]
  simp only [Option.bind_some, decide_eq_true_eq, Bool.false_eq_true, if_false]
  by_cases h1 : 97 ≤ c ∧ c ≤ 122
  · rw [if_pos (by omega), if_pos (by omega)]; simp [h1]
  have hx : ∀ X Y : Option Bool, (if (97 : Int) ≤ c then if (c : Int) ≤ 122 then Y else X else X) = X := by
    intro X Y
    repeat' split
    all_goals first
      | rfl
      | omega
  rw [hx, decide_eq_false h1, Bool.false_or]
  by_cases h4 : 48 ≤ c ∧ c ≤ 57
  · rw [if_pos h4, decide_eq_true (p := (48 ≤ c ∧ c ≤ 57) ∨ c = 45) (.inl h4), Bool.true_and]
  · rw [if_neg h4]
    by_cases h5 : c = 45
    · subst h5; simp
    · rw [if_neg (by omega), decide_eq_false (by omega), Bool.false_and]

theorem first_eq (i : Nat) : ((((i : Nat) : Int)) == 0) = decide (i = 0) := by
  rw [Bool.eq_iff_iff, beq_iff_eq, decide_eq_true_eq]; omega

theorem allLabel_eq (N : Nat) {s : List UInt8} (hN : 40 < N) : name_all_label N s = some (labelL s) := by
  simp only [name_all_label, name_all_label_p1, name_all_label_p2, labelL]
  by_cases h0 : s = []
  · subst h0; rfl
  have hl : s.length ≠ 0 := fun e => h0 (List.length_eq_zero_iff.1 e)
  rw [cond_f (by simpa using h0)]
  by_cases h1 : 32 < s.length
  · rw [cond_t (dec_t (by omega)), decide_eq_false (by omega)]; rfl
  rw [cond_f (dec_f (by omega)), decide_eq_true (p := 1 ≤ s.length ∧ s.length ≤ 32) (by omega), Bool.true_and]
  simp only [name_all_label_p3]
  rw [iter_eq (I := fun (v : List UInt8 × Nat) => v.1 = s ∧ v.2 ≤ s.length) (m := fun (v : List UInt8 × Nat) => s.length - v.2) (R := fun (v : List UInt8 × Nat) => some (allS labS (s.drop v.2) (decide (v.2 = 0)))) ?_ N (s, 0) ⟨rfl, Nat.zero_le _⟩ (by dsimp only; omega)]
  · simp
  rintro ⟨s', i⟩ r ⟨rfl, hi⟩ hr
  dsimp only at *
  simp only [name_all_label_s3, first_eq]
  by_cases hlt : i < s'.length
  · rw [cond_t (dec_t hlt), labelRune_eq, Option.bind_some, drop_cons s' 0 i hlt]
    simp only [allS]
    by_cases h128 : (s'.getD i 0).toNat < 128
    · rw [rune_ascii h128]
      dsimp only
      cases hp : labS (s'.getD i 0).toNat (decide (i = 0)) with
      | false => rfl
      | true =>
        rw [Bool.not_true, cond_false, hr _ ⟨rfl, by dsimp only; omega⟩ (by dsimp only; omega)]
        dsimp only
        rw [decide_eq_false (by omega), Bool.true_and]
    · obtain ⟨g1, _⟩ := rune_high hlt (by omega)
      rw [labS_high g1, labS_high (by omega)]; rfl
  · rw [cond_f (dec_f hlt), drop_nil' s' (by omega)]; rfl

theorem allWord_eq (N : Nat) {s : List UInt8} (hN : 40 < N) : name_all_word N s = some (wordL s) := by
  simp only [name_all_word, name_all_word_p1, name_all_word_p2, wordL]
  by_cases h0 : s = []
  · subst h0; rfl
  have hl : s.length ≠ 0 := fun e => h0 (List.length_eq_zero_iff.1 e)
  rw [cond_f (by simpa using h0)]
  by_cases h1 : 32 < s.length
  · rw [cond_t (dec_t (by omega)), decide_eq_false (by omega)]; rfl
  rw [cond_f (dec_f (by omega)), decide_eq_true (p := 1 ≤ s.length ∧ s.length ≤ 32) (by omega), Bool.true_and]
  simp only [name_all_word_p3]
  rw [iter_eq (I := fun (v : List UInt8 × Nat) => v.1 = s ∧ v.2 ≤ s.length) (m := fun (v : List UInt8 × Nat) => s.length - v.2) (R := fun (v : List UInt8 × Nat) => some (allS worS (s.drop v.2) (decide (v.2 = 0)))) ?_ N (s, 0) ⟨rfl, Nat.zero_le _⟩ (by dsimp only; omega)]
  · simp
  rintro ⟨s', i⟩ r ⟨rfl, hi⟩ hr
  dsimp only at *
  simp only [name_all_word_s3, first_eq]
  by_cases hlt : i < s'.length
  · rw [cond_t (dec_t hlt), wordRune_eq, Option.bind_some, drop_cons s' 0 i hlt]
    simp only [allS]
    by_cases h128 : (s'.getD i 0).toNat < 128
    · rw [rune_ascii h128]
      dsimp only
      cases hp : worS (s'.getD i 0).toNat (decide (i = 0)) with
      | false => rfl
      | true =>
        rw [Bool.not_true, cond_false, hr _ ⟨rfl, by dsimp only; omega⟩ (by dsimp only; omega)]
        dsimp only
        rw [decide_eq_false (by omega), Bool.true_and]
    · obtain ⟨g1, _⟩ := rune_high hlt (by omega)
      rw [worS_high g1, worS_high (by omega)]; rfl
  · rw [cond_f (dec_f hlt), drop_nil' s' (by omega)]; rfl

theorem label_eq (N : Nat) {s : List UInt8} (hN : 40 < N) : name_Label N s = some (labelL s) := by
  simp only [name_Label, allLabel_eq N hN, Option.bind_some]
theorem word_eq (N : Nat) {s : List UInt8} (hN : 40 < N) : name_Word N s = some (wordL s) := by
  simp only [name_Word, allWord_eq N hN, Option.bind_some]

/-! the reference -/

theorem sign_eq (N : Nat) (c : Nat) (f : Bool) : porterref09_sign N (c : Int) f = some (labS c f) := by
  simp only [porterref09_sign, porterref09_sign_p1, porterref09_sign_p2, labS, Bool.cond_eq_ite, decide_eq_true_eq, beq_iff_eq]
  by_cases h3 : c = 95
  · subst h3; simp
  rw [if_neg (by omega)]
  by_cases h2 : 65 ≤ c ∧ c ≤ 90
  · rw [if_pos (by omega), if_pos (by omega)]; simp [h2]
  by_cases h1 : 97 ≤ c ∧ c ≤ 122
  · rw [if_pos (by omega), if_neg (by omega), if_pos (by omega), if_pos (by omega)]; simp [h1]
  have hx : ∀ X Y : Option Bool, (if (65 : Int) ≤ c then if (c : Int) ≤ 90 then Y else if (97 : Int) ≤ c then if (c : Int) ≤ 122 then Y else X else X else if (97 : Int) ≤ c then if (c : Int) ≤ 122 then Y else X else X) = X := by
    intro X Y
    repeat' split
    all_goals first
      | rfl
      | omega
  simp only [if_true, Bool.false_eq_true, if_false]
  rw [hx, decide_eq_false (p := (97 ≤ c ∧ c ≤ 122) ∨ (65 ≤ c ∧ c ≤ 90) ∨ c = 95) (by omega), Bool.false_or]
  cases f
  · simp only [Bool.not_false, if_true, Bool.and_true]
    split
    · congr 1; rw [Bool.eq_iff_iff, decide_eq_true_eq, decide_eq_true_eq]; omega
    · congr 1; rw [Bool.eq_iff_iff, decide_eq_true_eq]; simp; omega
  · simp

theorem refLabel_eq (N : Nat) {s : List UInt8} (hN : 40 < N) : porterref09_Label N s = some (labelL s) := by
  simp only [porterref09_Label, porterref09_Label_p1, porterref09_Label_p2, labelL]
  by_cases h0 : s.length = 0
  · rw [cond_t (dec_t (by omega)), decide_eq_false (by omega)]; rfl
  rw [cond_f (dec_f (by omega))]
  by_cases h1 : 32 < s.length
  · rw [cond_t (dec_t (by omega)), decide_eq_false (by omega)]; rfl
  rw [cond_f (dec_f (by omega)), decide_eq_true (p := 1 ≤ s.length ∧ s.length ≤ 32) (by omega), Bool.true_and]
  simp only [porterref09_Label_p3]
  rw [iter_eq (I := fun (v : Int) => 0 ≤ v ∧ v ≤ ((s.length : Nat) : Int)) (m := fun (v : Int) => s.length - v.toNat) (R := fun (v : Int) => some (allS labS (s.drop v.toNat) (decide (v.toNat = 0)))) ?_ N 0 ⟨by omega, by omega⟩ (by omega)]
  · simp
  intro v r ⟨h2, h3⟩ hr
  obtain ⟨i, rfl⟩ := Int.eq_ofNat_of_zero_le h2
  simp only [porterref09_Label_s3, first_eq, Int.toNat_natCast] at *
  by_cases hlt : i < s.length
  · rw [cond_t (dec_t (by omega)), cond_t (inR_nat hlt), sign_eq, Option.bind_some, drop_cons s 0 i hlt]
    simp only [allS]
    cases hp : labS (s.getD i 0).toNat (decide (i = 0)) with
    | false => rfl
    | true =>
      rw [Bool.not_true, cond_false, wrap_succ (by omega), hr _ ⟨by omega, by omega⟩ (by omega)]
      rw [Int.toNat_natCast, decide_eq_false (by omega), Bool.true_and]
  · rw [cond_f (dec_f (by omega)), drop_nil' s (by omega)]; rfl

theorem refWord_eq (N : Nat) {s : List UInt8} (hN : 40 < N) : porterref09_Word N s = some (wordL s) := by
  simp only [porterref09_Word, porterref09_Word_p1, porterref09_Word_p2, wordL]
  by_cases h0 : s.length = 0
  · rw [cond_t (dec_t (by omega)), decide_eq_false (by omega)]; rfl
  rw [cond_f (dec_f (by omega))]
  by_cases h1 : 32 < s.length
  · rw [cond_t (dec_t (by omega)), decide_eq_false (by omega)]; rfl
  rw [cond_f (dec_f (by omega)), decide_eq_true (p := 1 ≤ s.length ∧ s.length ≤ 32) (by omega), Bool.true_and]
  simp only [porterref09_Word_p3]
  rw [iter_eq (I := fun (v : Int) => 0 ≤ v ∧ v ≤ ((s.length : Nat) : Int)) (m := fun (v : Int) => s.length - v.toNat) (R := fun (v : Int) => some (allS worS (s.drop v.toNat) (decide (v.toNat = 0)))) ?_ N 0 ⟨by omega, by omega⟩ (by omega)]
  · simp
  intro v r ⟨h2, h3⟩ hr
  obtain ⟨i, rfl⟩ := Int.eq_ofNat_of_zero_le h2
  simp only [porterref09_Word_s3, porterref09_Word_p4, Int.toNat_natCast] at *
  by_cases hlt : i < s.length
  · have p5 : ∀ k0 : Bool → Option Bool, porterref09_Word_p5 N s (i : Int) k0 = k0 (decide (97 ≤ (s.getD i 0).toNat ∧ (s.getD i 0).toNat ≤ 122)) := by
      intro k0
      simp only [porterref09_Word_p5, Int.toNat_natCast]
      rw [cond_t (inR_nat hlt), cond_t (inR_nat hlt)]
      by_cases h : 97 ≤ (s.getD i 0).toNat
      · rw [cond_t (dec_t (by omega))]; congr 1; rw [Bool.eq_iff_iff, decide_eq_true_eq, decide_eq_true_eq]; omega
      · rw [cond_f (dec_f (by omega)), decide_eq_false (by omega)]
    have p6 : ∀ (b : Bool) (k0 : Bool → Option Bool), porterref09_Word_p6 N s (i : Int) b k0 = k0 (decide ((48 ≤ (s.getD i 0).toNat ∧ (s.getD i 0).toNat ≤ 57) ∨ (s.getD i 0).toNat = 45)) := by
      intro b k0
      simp only [porterref09_Word_p6, Int.toNat_natCast]
      rw [cond_t (inR_nat hlt), cond_t (inR_nat hlt), cond_t (inR_nat hlt)]
      by_cases h45 : (s.getD i 0).toNat = 45
      · rw [cond_t (by rw [h45]; rfl), decide_eq_true (by omega)]
      · rw [cond_f (by rw [beq_eq_false_iff_ne]; omega)]
        by_cases h : 48 ≤ (s.getD i 0).toNat
        · rw [cond_t (dec_t (by omega))]; congr 1; rw [Bool.eq_iff_iff, decide_eq_true_eq, decide_eq_true_eq]; omega
        · rw [cond_f (dec_f (by omega)), decide_eq_false (by omega)]
    rw [cond_t (dec_t (by omega)), p5, p6, drop_cons s 0 i hlt]
    simp only [porterref09_Word_p7, first_eq, allS, worS]
    have hrec : r ((i + 1 : Nat) : Int) = some (allS worS (s.drop (i + 1)) false) := by
      rw [hr _ ⟨by omega, by omega⟩ (by omega), Int.toNat_natCast, decide_eq_false (by omega)]
    rw [wrap_succ (by omega), hrec]
    generalize decide (97 ≤ (s.getD i 0).toNat ∧ (s.getD i 0).toNat ≤ 122) = p
    generalize decide ((48 ≤ (s.getD i 0).toNat ∧ (s.getD i 0).toNat ≤ 57) ∨ (s.getD i 0).toNat = 45) = q
    generalize decide (i = 0) = f
    cases p <;> cases q <;> cases f <;> rfl
  · rw [cond_f (dec_f (by omega)), drop_nil' s (by omega)]; rfl

theorem signs_eq (N : Nat) {s : List UInt8} {a : Nat} (ha : a ≤ s.length) (hs : s.length ≤ 1000000) (hN : s.length < N) : porterref09_Signs N s (a : Int) = some ((runS labS (s.drop a) true : Nat) : Int) := by
  simp only [porterref09_Signs, porterref09_Signs_p1]
  rw [iter_eq (I := fun (v : Int) => 0 ≤ v ∧ (a : Int) + v ≤ ((s.length : Nat) : Int)) (m := fun (v : Int) => s.length - v.toNat) (R := fun (v : Int) => some (v + ((runS labS (s.drop (a + v.toNat)) (decide (v.toNat = 0)) : Nat) : Int))) ?_ N 0 ⟨by omega, by omega⟩ (by simpa using hN)]
  · simp
  intro v r ⟨h2, h3⟩ hr
  obtain ⟨i, rfl⟩ := Int.eq_ofNat_of_zero_le h2
  have hw : IntKind.wrap .i64 ((a : Int) + (i : Int)) = ((a + i : Nat) : Int) := by rw [wrap_in (by unfold I64; omega)]; omega
  simp only [porterref09_Signs_s1, porterref09_Signs_p2, first_eq, hw, Int.toNat_natCast] at *
  by_cases hlt : a + i < s.length
  · rw [cond_t (dec_t (by omega)), cond_t (inR_nat hlt), sign_eq, Option.bind_some, drop_cons s 0 (a + i) hlt]
    simp only [runS]
    cases hp : labS (s.getD (a + i) 0).toNat (decide (i = 0)) with
    | false => simp
    | true =>
      rw [cond_true, cond_true, wrap_succ (by omega), hr _ ⟨by omega, by omega⟩ (by omega)]
      rw [Int.toNat_natCast, decide_eq_false (p := i + 1 = 0) (by omega), Nat.add_assoc]
      congr 1; omega
  · rw [cond_f (dec_f (by omega)), drop_nil' s (by omega)]; simp [runS]

theorem cut_name (N : Nat) {s : List UInt8} (hs : s.length ≤ 1000000) (hN : s.length < N) (i : Int) :
    name_Cut N s i = some (if 0 ≤ i ∧ i ≤ s.length then ((s.drop i.toNat).take (runS labS (s.drop i.toNat) true), i + ((runS labS (s.drop i.toNat) true : Nat) : Int), ()) else ([], 0, ())) := by
  simp only [name_Cut, name_Cut_p1, name_Cut_p2]
  by_cases h0 : i < 0
  · rw [cond_t (dec_t h0), if_neg (by omega)]; rfl
  rw [cond_f (dec_f h0)]
  by_cases h1 : ((s.length : Nat) : Int) < i
  · rw [cond_t (dec_t h1), if_neg (by omega)]
  rw [cond_f (dec_f h1), if_pos ⟨by omega, by omega⟩]
  obtain ⟨a, rfl⟩ := Int.eq_ofNat_of_zero_le (by omega : 0 ≤ i)
  simp only [name_Cut_p3, name_Cut_p4, Int.toNat_natCast]
  rw [cond_t (dec_t ⟨by omega, by omega⟩), cut_all]
  have hrl := runS_le labS (s.drop a) true
  rw [List.length_drop] at hrl
  have hloop : ∀ k0 : Int → Option (List UInt8 × Int × Unit), iter (fun (v : List UInt8 × Nat) r => name_Cut_s4 N s (a : Int) ((s.length : Nat) : Int) v (fun x22 => r x22) k0) N (s.drop a, 0) = k0 (((a + runS labS (s.drop a) true : Nat)) : Int) := by
    intro k0
    rw [iter_eq (I := fun (v : List UInt8 × Nat) => v.1 = s.drop a ∧ v.2 ≤ (s.drop a).length) (m := fun (v : List UInt8 × Nat) => (s.drop a).length - v.2) (R := fun (v : List UInt8 × Nat) => k0 (((a + (v.2 + runS labS ((s.drop a).drop v.2) (decide (v.2 = 0))) : Nat)) : Int)) ?_ N (s.drop a, 0) ⟨rfl, Nat.zero_le _⟩ (by dsimp only; rw [List.length_drop]; omega)]
    · simp
    rintro ⟨t, j⟩ r ⟨rfl, hj⟩ hr
    dsimp only at *
    have hlen : (s.drop a).length = s.length - a := List.length_drop
    simp only [name_Cut_s4, first_eq]
    by_cases hlt : j < (s.drop a).length
    · have hw : IntKind.wrap .i64 ((a : Int) + (j : Int)) = ((a + j : Nat) : Int) := by rw [wrap_in (by unfold I64; omega)]; omega
      rw [cond_t (dec_t hlt), labelRune_eq, Option.bind_some, drop_cons (s.drop a) 0 j hlt, hw]
      simp only [runS]
      by_cases h128 : ((s.drop a).getD j 0).toNat < 128
      · rw [rune_ascii h128]
        dsimp only
        cases hp : labS ((s.drop a).getD j 0).toNat (decide (j = 0)) with
        | false => rfl
        | true =>
          rw [Bool.not_true, cond_false, hr _ ⟨rfl, by dsimp only; omega⟩ (by dsimp only; omega)]
          dsimp only
          rw [decide_eq_false (by omega), cond_true]
          congr 2; omega
      · obtain ⟨g1, _⟩ := rune_high hlt (by omega)
        rw [labS_high g1, labS_high (by omega)]; rfl
    · rw [cond_f (dec_f hlt), drop_nil' (s.drop a) (by omega)]
      simp only [runS]
      congr 1; omega
  rw [hloop, cond_t (dec_t ⟨by omega, by omega⟩), cond_t (dec_t ⟨by omega, by omega⟩), Int.toNat_natCast, cut_mid]
  rfl

theorem namWorks (k : Nat) : porterlaw09_works (k + 60) = some true := by kernel_rfl

theorem nameTells_true (k : Nat) {s : List UInt8} {i : Int} (hi : I64 i) : porterlaw09_NameTells (k + 300) s i = some true := by
  have hw : porterlaw09_works (k + 300) = some true := namWorks (k + 240)
  simp only [porterlaw09_NameTells, hw, Option.bind_some]
  by_cases h : 200 < s.length
  · rw [cond_t (dec_t (by omega))]
  rw [cond_f (dec_f (by omega)), cut_name _ (by omega) (by omega), Option.bind_some]
  simp only [porterlaw09_NameTells_p1, porterlaw09_NameTells_p2, label_eq _ (by omega : 40 < k + 300), refLabel_eq _ (by omega : 40 < k + 300), word_eq _ (by omega : 40 < k + 300), refWord_eq _ (by omega : 40 < k + 300), Option.bind_some, beq_self_eq_true, Bool.not_true, cond_false]
  simp only [porterlaw09_NameTells_p3, porterlaw09_NameTells_p4, hw, Option.bind_some]
  by_cases h0 : i < 0
  · rw [cond_t (dec_t h0), cond_true, if_neg (by omega)]; rfl
  rw [cond_f (dec_f h0)]
  by_cases h1 : ((s.length : Nat) : Int) < i
  · rw [cond_t (dec_t h1), if_neg (by omega)]; rfl
  rw [cond_f (dec_f h1), if_pos ⟨by omega, by omega⟩]
  obtain ⟨a, rfl⟩ := Int.eq_ofNat_of_zero_le (by omega : 0 ≤ i)
  have hrl := runS_le labS (s.drop a) true
  rw [List.length_drop] at hrl
  rw [signs_eq _ (by omega) (by omega) (by omega), Option.bind_some, Int.toNat_natCast]
  have hwr : IntKind.wrap .i64 ((a : Int) + ((runS labS (s.drop a) true : Nat) : Int)) = ((a + runS labS (s.drop a) true : Nat) : Int) := by rw [wrap_in (by unfold I64; omega)]; omega
  simp only [hwr]
  rw [cond_t (dec_t ⟨by omega, by omega⟩), cond_t (dec_t ⟨by omega, by omega⟩), Int.toNat_natCast, cut_mid, cond_t (by simp), cond_t (by simp)]

theorem nameWhole_true (k : Nat) {a b s : List UInt8} : porterlaw09_NameWhole (k + 400) a b s = some true := by
  have hw : porterlaw09_works (k + 400) = some true := namWorks (k + 340)
  simp only [porterlaw09_NameWhole, porterlaw09_NameWhole_p1, porterlaw09_NameWhole_p2, hw, Option.bind_some, label_eq _ (by omega : 40 < k + 400)]
  by_cases h1 : 100 < a.length
  · rw [cond_t (dec_t (by omega))]; rfl
  rw [cond_f (dec_f (by omega))]
  by_cases h2 : 100 < b.length
  · rw [cond_t (dec_t (by omega))]; rfl
  rw [cond_f (dec_f (by omega))]
  by_cases h3 : 100 < s.length
  · rw [cond_t (dec_t (by omega))]; rfl
  rw [cond_f (dec_f (by omega))]
  cases hb : labelL b with
  | false => rfl
  | true =>
    have hall : allS labS b true = true := by simp only [labelL, Bool.and_eq_true] at hb; exact hb.2
    rw [Bool.not_true, cond_false, cond_t (dec_t (by omega)), cond_t (dec_t (by simp; omega)), cond_t (dec_t (by simp; omega)), cut_name _ (by simp; omega) (by simp; omega), Option.bind_some, cond_t (dec_t (by omega)), cut_name _ (by simp; omega) (by simp; omega), Option.bind_some]
    rw [if_pos ⟨by omega, by simp; omega⟩, if_pos ⟨by omega, by simp; omega⟩, Int.toNat_natCast]
    have e1 : (a ++ b ++ [61] ++ s).drop a.length = b ++ 61 :: s := by simp
    have e2 : (a ++ b).drop a.length = b := by simp
    rw [e1, e2, runS_stop labS 61 labS_eq s b true hall, runS_all labS b true hall]
    have e3 : (b ++ 61 :: s).take b.length = b := by simp
    have e4 : IntKind.wrap .i64 (((a.length : Nat) : Int) + ((b.length : Nat) : Int)) = ((a.length : Nat) : Int) + ((b.length : Nat) : Int) := wrap_in (by unfold I64; omega)
    rw [e3, List.take_length, e4]
    simp

/-! words -/

theorem pieces_eq (N : Nat) {s : List UInt8} (hs : s.length ≤ 100000) (hN : s.length + 1 < N) : porterref09_Pieces N s = some (splitF [] s) := by
  simp only [porterref09_Pieces, porterref09_Pieces_p1]
  rw [iter_eq (I := fun (v : List (List UInt8) × Int × Int) => ∃ (f i : Nat), v.2.1 = (f : Int) ∧ v.2.2 = (i : Int) ∧ f ≤ i ∧ i ≤ s.length + 1 ∧ (i = s.length + 1 → f = i) ∧ v.1.length ≤ i) (m := fun (v : List (List UInt8) × Int × Int) => s.length + 1 - v.2.2.toNat)
    (R := fun (v : List (List UInt8) × Int × Int) => some (if v.2.2.toNat ≤ s.length then v.1 ++ splitF (cut s v.2.1.toNat v.2.2.toNat) (s.drop v.2.2.toNat) else v.1)) ?_ N ([], 0, 0) ⟨0, 0, rfl, rfl, by omega, by omega, by omega, by simp⟩ (by dsimp only; omega)]
  · simp [cut]
  rintro ⟨out, x, y⟩ r ⟨f, i, hx, hy, hfi, hi, hend, hol⟩ hr
  dsimp only at *
  subst hx; subst hy
  simp only [porterref09_Pieces_s1, porterref09_Pieces_p2, porterref09_Pieces_p3, Int.toNat_natCast] at *
  by_cases hle : i ≤ s.length
  · rw [cond_t (dec_t (by omega)), if_pos hle, wrap_succ (by omega)]
    by_cases he : i = s.length
    · rw [cond_t (by rw [he]; simp), cond_true, cond_t (dec_t ⟨by omega, by omega⟩), cond_t (dec_t ⟨by omega, by omega⟩), cond_t (dec_t (by omega)), hr _ ⟨i + 1, i + 1, rfl, rfl, by omega, by omega, fun _ => rfl, by simp; omega⟩ (by dsimp only; omega)]
      dsimp only
      rw [Int.toNat_natCast, if_neg (by omega), drop_nil' s (by omega)]
      rfl
    · have hlt : i < s.length := by omega
      rw [cond_f (by simp; omega), cond_t (inR_nat hlt), drop_cons s 0 i hlt]
      simp only [splitF]
      by_cases h32 : (s.getD i 0).toNat = 32
      · rw [cond_t (by rw [h32]; rfl), cond_t (dec_t ⟨by omega, by omega⟩), cond_t (dec_t ⟨by omega, by omega⟩), cond_t (dec_t (by omega)), hr _ ⟨i + 1, i + 1, rfl, rfl, by omega, by omega, fun _ => rfl, by simp; omega⟩ (by dsimp only; omega)]
        dsimp only
        rw [Int.toNat_natCast, if_pos (by omega), if_pos h32, List.append_assoc]
        have : cut s (i + 1) (i + 1) = [] := by simp [cut]
        rw [this]; rfl
      · rw [cond_f (by rw [beq_eq_false_iff_ne]; omega), hr _ ⟨f, i + 1, rfl, rfl, by omega, by omega, by omega, by dsimp only; omega⟩ (by dsimp only; omega)]
        dsimp only
        rw [Int.toNat_natCast, Int.toNat_natCast, if_pos (by omega), if_neg h32]
        have : cut s f (i + 1) = cut s f i ++ [s.getD i 0] := by
          unfold cut
          rw [take_succ s 0 i hlt, List.drop_append_of_le_length (by rw [List.length_take]; omega)]
        rw [this]
  · rw [cond_f (dec_f (by omega)), if_neg hle]

def wordsR (l : List (List UInt8)) : List (List UInt8) × Bool × Unit := cond (l.all wordL) (l, true, ()) ([], false, ())

theorem refWords_eq (N : Nat) {s : List UInt8} (hs : s.length ≤ 100000) (hN : s.length + 60 < N) : porterref09_Words N s = some (wordsR (splitF [] s)) := by
  simp only [porterref09_Words, pieces_eq N hs (by omega), Option.bind_some, porterref09_Words_p1]
  have hlen := splitF_length s []
  generalize splitF [] s = l at *
  rw [iter_eq (I := fun (v : Int) => 0 ≤ v ∧ v ≤ ((l.length : Nat) : Int)) (m := fun (v : Int) => l.length - v.toNat) (R := fun (v : Int) => some (cond ((l.drop v.toNat).all wordL) (l, true, ()) ([], false, ()))) ?_ N 0 ⟨by omega, by omega⟩ (by simp; omega)]
  · rfl
  intro v r ⟨h2, h3⟩ hr
  obtain ⟨i, rfl⟩ := Int.eq_ofNat_of_zero_le h2
  simp only [porterref09_Words_s1, Int.toNat_natCast] at *
  by_cases hlt : i < l.length
  · rw [cond_t (dec_t (by omega)), cond_t (inR_nat hlt), refWord_eq _ (by omega), Option.bind_some, drop_cons l [] i hlt, wrap_succ (by omega)]
    simp only [List.all_cons]
    cases hp : wordL (l.getD i []) with
    | false => rfl
    | true => rw [Bool.not_true, cond_false, hr _ ⟨by omega, by omega⟩ (by omega), Int.toNat_natCast, Bool.true_and]
  · rw [cond_f (dec_f (by omega)), drop_nil' l (by omega)]; rfl

theorem words_eq (N : Nat) {s : List UInt8} (hs : s.length ≤ 100000) (hN : s.length + 60 < N) : name_Words N s = some (wordsR (splitF [] s)) := by
  simp only [name_Words, name_Words_p1]
  rw [cond_t (dec_t (by omega))]
  have hsl : (s ++ [32]).length = s.length + 1 := by simp
  have hg : ∀ j, j < s.length → (s ++ [32]).getD j 0 = s.getD j 0 := by
    intro j hj; rw [List.getD_eq_getElem?_getD, List.getElem?_append_left hj, ← List.getD_eq_getElem?_getD]
  have hg2 : (s ++ [32]).getD s.length 0 = 32 := by simp
  rw [iter_eq (I := fun (v : List (List UInt8) × Int × (List UInt8 × Nat)) => ∃ (f : Nat), v.2.1 = (f : Int) ∧ v.2.2.1 = s ++ [32] ∧ f ≤ v.2.2.2 ∧ v.2.2.2 ≤ s.length + 1 ∧ (v.2.2.2 = s.length + 1 → f = v.2.2.2) ∧ v.1.length ≤ v.2.2.2) (m := fun (v : List (List UInt8) × Int × (List UInt8 × Nat)) => s.length + 1 - v.2.2.2)
    (R := fun (v : List (List UInt8) × Int × (List UInt8 × Nat)) => some (if v.2.2.2 ≤ s.length then (cond ((splitF (cut s v.2.1.toNat v.2.2.2) (s.drop v.2.2.2)).all wordL) (v.1 ++ splitF (cut s v.2.1.toNat v.2.2.2) (s.drop v.2.2.2), true, ()) ([], false, ())) else (v.1, true, ()))) ?_ N _ ⟨0, rfl, rfl, by simp, by simp, by dsimp only; omega, by simp⟩ (by dsimp only; omega)]
  · simp [cut, wordsR]
  rintro ⟨out, x, t, i⟩ r ⟨f, hx, ht, hfi, hi, hend, hol⟩ hr
  dsimp only at *
  subst hx; subst ht
  simp only [name_Words_s1, hsl, Int.toNat_natCast] at hr ⊢
  by_cases hle : i ≤ s.length
  · have hlt1 : i < (s ++ [32]).length := by omega
    rw [cond_t (dec_t (by omega)), if_pos hle]
    by_cases h32 : ((s ++ [32]).getD i 0).toNat = 32
    · rw [rune_ascii (by omega), h32]
      dsimp only
      rw [cond_f (by rfl), cond_t (dec_t ⟨by omega, by omega⟩), cond_t (dec_t ⟨by omega, by omega⟩), word_eq _ (by omega), Option.bind_some, cond_t (dec_t ⟨by omega, by omega⟩), cond_t (dec_t ⟨by omega, by omega⟩), cond_t (dec_t (by omega)), wrap_succ (by omega)]
      have hsp : splitF (cut s f i) (s.drop i) = cut s f i :: (if i + 1 ≤ s.length then splitF [] (s.drop (i + 1)) else []) := by
        by_cases he : i = s.length
        · rw [if_neg (by omega), drop_nil' s (by omega)]; rfl
        · have hlt : i < s.length := by omega
          rw [if_pos (by omega), drop_cons s 0 i hlt]
          rw [hg i hlt] at h32
          simp only [splitF, if_pos h32]
      rw [hsp]
      simp only [List.all_cons]
      cases hp : wordL (cut s f i) with
      | false => rfl
      | true =>
        rw [Bool.not_true, cond_false, hr _ ⟨i + 1, rfl, rfl, by dsimp only; omega, by dsimp only; omega, fun _ => rfl, by simp; omega⟩ (by dsimp only; omega)]
        dsimp only
        rw [Int.toNat_natCast, Bool.true_and]
        have hc0 : cut s (i + 1) (i + 1) = [] := by simp [cut]
        by_cases he : i + 1 ≤ s.length
        · rw [if_pos he, if_pos he, hc0]
          simp only [List.append_assoc, List.cons_append, List.nil_append]
        · rw [if_neg he, if_neg he]; simp
    · have hlt : i < s.length := by
        rcases Nat.lt_or_ge i s.length with h | h
        · exact h
        · have : i = s.length := by omega
          rw [this, hg2] at h32; exact absurd rfl h32
      have step : ∀ (n c : Nat), runeAt (s ++ [32]) i = (c, n) → c ≠ 32 → 1 ≤ n → i + n ≤ s.length → (∀ j, i ≤ j → j < i + n → (s.getD j 0).toNat ≠ 32) →
          (cond ((((runeAt (s ++ [32]) i).1 : Nat) : Int) != 32) (r (out, (f : Int), (s ++ [32], i + (runeAt (s ++ [32]) i).2))) (cond (decide ((0 : Int) ≤ ((i : Nat) : Int) ∧ ((i : Nat) : Int) ≤ ((s.length : Nat) : Int))) (cond (decide ((0 : Int) ≤ (f : Int) ∧ (f : Int) ≤ ((i : Nat) : Int))) ((name_Word N (cut s f i)).bind fun y => cond (!y) (some (([] : List (List UInt8)), false, ())) (cond (decide ((0 : Int) ≤ ((i : Nat) : Int) ∧ ((i : Nat) : Int) ≤ ((s.length : Nat) : Int))) (cond (decide ((0 : Int) ≤ (f : Int) ∧ (f : Int) ≤ ((i : Nat) : Int))) (cond (decide ((out.length + 1) * 16 ≤ 70368744177664)) (r (out ++ [cut s f i], IntKind.wrap .i64 (((i : Nat) : Int) + 1), (s ++ [32], i + (runeAt (s ++ [32]) i).2))) none) none) none)) none) none)) =
          some (cond ((splitF (cut s f i) (s.drop i)).all wordL) (out ++ splitF (cut s f i) (s.drop i), true, ()) ([], false, ())) := by
        intro n c hru hc hn hin hj
        rw [hru]
        dsimp only
        rw [cond_t (by rw [bne_iff_ne]; omega), hr _ ⟨f, rfl, rfl, by dsimp only; omega, by dsimp only; omega, by dsimp only; omega, by dsimp only; omega⟩ (by dsimp only; omega)]
        dsimp only
        rw [Int.toNat_natCast, if_pos hin]
        have := splitF_run n (cut s f i) (s.drop i) (by rw [List.length_drop]; omega) (fun j hjn => by
          rw [List.getD_eq_getElem?_getD, List.getElem?_drop, ← List.getD_eq_getElem?_getD]
          exact hj (i + j) (by omega) (by omega))
        rw [this, List.drop_drop]
        have hcc : cut s f i ++ (s.drop i).take n = cut s f (i + n) := by
          have htk : s.take (i + n) = s.take i ++ (s.drop i).take n := by rw [List.take_add]
          unfold cut
          rw [htk, List.drop_append_of_le_length (by rw [List.length_take]; omega)]
        rw [hcc]
      by_cases h128 : ((s ++ [32]).getD i 0).toNat < 128
      · have hru := rune_ascii h128
        exact step _ _ hru h32 (by omega) (by omega) (fun j h1 h2 => by
          have : j = i := by omega
          subst this
          rw [hg j hlt] at h32; exact h32)
      · obtain ⟨g1, g2, g3, g4⟩ := rune_high hlt1 (by omega)
        have g3' : i + (runeAt (s ++ [32]) i).2 ≤ s.length := by
          rcases Nat.lt_or_ge s.length (i + (runeAt (s ++ [32]) i).2) with h | h
          · have := g4 s.length hle h
            rw [hg2] at this
            exact absurd this (by decide)
          · exact h
        have g1' : (runeAt (s ++ [32]) i).1 ≠ 32 := by omega
        exact step (runeAt (s ++ [32]) i).2 (runeAt (s ++ [32]) i).1 rfl g1' g2 g3' (fun j h1 h2 => by
          have := g4 j h1 h2
          rw [hg j (by omega)] at this; omega)
  · rw [cond_f (dec_f (by omega)), if_neg hle]

theorem refJoin_eq (N : Nat) {l : List (List UInt8)} (hl : l.length ≤ 100000) (hf : l.flatten.length ≤ 1000000) (hN : l.length < N) : porterref09_Join N l = some (joinL l) := by
  simp only [porterref09_Join, porterref09_Join_p1]
  have hjl := joinL_length l
  rw [iter_eq (I := fun (v : List UInt8 × Int) => 0 ≤ v.2 ∧ v.2 ≤ ((l.length : Nat) : Int) ∧ (v.2 = 0 → v.1 = []) ∧ v.1.length + (joinT (l.drop v.2.toNat)).length ≤ 1100001) (m := fun (v : List UInt8 × Int) => l.length - v.2.toNat)
    (R := fun (v : List UInt8 × Int) => some (if v.2.toNat = 0 then joinL l else v.1 ++ joinT (l.drop v.2.toNat))) ?_ N ([], 0) ⟨by dsimp only; omega, by dsimp only; omega, fun _ => rfl, by dsimp only; rw [show ((0:Int).toNat) = 0 from rfl, List.drop_zero, joinT_length, List.length_nil]; omega⟩ (by simpa using hN)]
  · simp
  rintro ⟨s, v⟩ r ⟨h0, h1, h2, h3⟩ hr
  dsimp only at *
  obtain ⟨i, rfl⟩ := Int.eq_ofNat_of_zero_le h0
  simp only [porterref09_Join_s1, porterref09_Join_p2, porterref09_Join_p3, Int.toNat_natCast] at *
  by_cases hlt : i < l.length
  · have hd := drop_cons l [] i hlt
    rw [hd] at h3
    simp only [joinT, List.length_cons, List.length_append] at h3
    rw [cond_t (dec_t (by omega)), wrap_succ (by omega)]
    by_cases hi : i = 0
    · subst hi
      have hs : s = [] := h2 (by omega)
      subst hs
      rw [cond_f (dec_f (by omega)), cond_t (inR_nat hlt), cond_t (dec_t (by simp at h3 ⊢; omega)), hr _ ⟨by dsimp only; omega, by dsimp only; omega, fun h => by dsimp only at h; omega, by dsimp only; rw [Int.toNat_natCast]; simp at h3 ⊢; omega⟩ (by dsimp only; omega)]
      dsimp only
      rw [Int.toNat_natCast, if_neg (by omega), if_pos rfl, List.nil_append]
      rw [List.drop_zero] at hd
      conv => rhs; rw [hd]
      rfl
    · rw [cond_t (dec_t (by omega)), cond_t (dec_t (by omega)), cond_t (inR_nat hlt), cond_t (dec_t (by simp only [List.length_append, List.length_cons, List.length_nil]; omega)), hr _ ⟨by dsimp only; omega, by dsimp only; omega, fun h => by dsimp only at h; omega, by dsimp only; rw [Int.toNat_natCast]; simp only [List.length_append, List.length_cons, List.length_nil]; omega⟩ (by dsimp only; omega)]
      dsimp only
      rw [Int.toNat_natCast, if_neg (by omega), if_neg hi, hd]
      simp [joinT]
  · rw [cond_f (dec_f (by omega))]
    by_cases hi : i = 0
    · subst hi
      have : l = [] := List.length_eq_zero_iff.1 (by omega)
      subst this
      rw [if_pos rfl, h2 (by omega)]; rfl
    · rw [if_neg hi, drop_nil' l (by omega)]; simp [joinT]

theorem join_eq (N : Nat) {l : List (List UInt8)} (hl : l.length ≤ 100000) (hf : l.flatten.length ≤ 1000000) (hN : l.length < N) : name_Join N l = some (joinL l) := by
  simp only [name_Join, name_Join_p1]
  rw [iter_eq (I := fun (v : List Int × Int) => 0 ≤ v.2 ∧ v.2 ≤ ((l.length : Nat) : Int) ∧ (v.2 = 0 → v.1 = []) ∧ v.1.length + (joinT (l.drop v.2.toNat)).length ≤ 1100001) (m := fun (v : List Int × Int) => l.length - v.2.toNat)
    (R := fun (v : List Int × Int) => some (if v.2.toNat = 0 then joinL l else toStr v.1 ++ joinT (l.drop v.2.toNat))) ?_ N ([], 0) ⟨by dsimp only; omega, by dsimp only; omega, fun _ => rfl, by dsimp only; rw [show ((0:Int).toNat) = 0 from rfl, List.drop_zero, joinT_length, List.length_nil]; omega⟩ (by simpa using hN)]
  · simp
  rintro ⟨s, v⟩ r ⟨h0, h1, h2, h3⟩ hr
  dsimp only at *
  obtain ⟨i, rfl⟩ := Int.eq_ofNat_of_zero_le h0
  simp only [name_Join_s1, name_Join_p2, Int.toNat_natCast, ofStr_length] at *
  by_cases hlt : i < l.length
  · have hd := drop_cons l [] i hlt
    rw [hd] at h3
    simp only [joinT, List.length_cons, List.length_append] at h3
    rw [cond_t (dec_t (by omega)), cond_t (inR_nat hlt), wrap_succ (by omega)]
    by_cases hi : i = 0
    · subst hi
      have hs : s = [] := h2 (by omega)
      subst hs
      rw [cond_f (dec_f (by omega)), cond_t (dec_t (by simp at h3 ⊢; omega)), hr _ ⟨by dsimp only; omega, by dsimp only; omega, fun h => by dsimp only at h; omega, by dsimp only; rw [Int.toNat_natCast, List.nil_append, ofStr_length]; omega⟩ (by dsimp only; omega)]
      dsimp only
      rw [Int.toNat_natCast, if_neg (by omega), if_pos rfl, List.nil_append, toStr_ofStr]
      rw [List.drop_zero] at hd
      conv => rhs; rw [hd]
      rfl
    · rw [cond_t (dec_t (by omega)), cond_t (dec_t (by omega)), cond_t (dec_t (by simp only [List.length_append, List.length_cons, List.length_nil]; omega)), hr _ ⟨by dsimp only; omega, by dsimp only; omega, fun h => by dsimp only at h; omega, by dsimp only; rw [Int.toNat_natCast, List.length_append, List.length_append, ofStr_length, List.length_cons, List.length_nil]; omega⟩ (by dsimp only; omega)]
      dsimp only
      rw [Int.toNat_natCast, if_neg (by omega), if_neg hi, hd]
      have e32 : toStr [(32 : Int)] = [32] := rfl
      rw [toStr_append, toStr_append, toStr_ofStr, e32]
      simp only [joinT, List.append_assoc, List.cons_append, List.nil_append]
  · rw [cond_f (dec_f (by omega))]
    by_cases hi : i = 0
    · subst hi
      have : l = [] := List.length_eq_zero_iff.1 (by omega)
      subst this
      rw [if_pos rfl, h2 (by omega)]; rfl
    · rw [if_neg hi, drop_nil' l (by omega)]; simp [joinT]

theorem short_eq (N : Nat) {l : List (List UInt8)} {many most : Nat} (hm : many ≤ 1000) (hmo : most ≤ 1000000) (hN : many < N) : porterbase_Short N l (many : Int) (most : Int) = some (decide (l.length ≤ many ∧ l.flatten.length ≤ most)) := by
  simp only [porterbase_Short, porterbase_Short_p1]
  by_cases h : many < l.length
  · rw [cond_t (dec_t (by omega)), decide_eq_false (by omega)]
  rw [cond_f (dec_f (by omega)), iter_eq (I := fun (v : Int × Int) => ∃ (x i : Nat), v = ((x : Int), (i : Int)) ∧ i ≤ l.length ∧ x ≤ most) (m := fun (v : Int × Int) => l.length - v.2.toNat) (R := fun (v : Int × Int) => some (decide ((l.drop v.2.toNat).flatten.length ≤ v.1.toNat))) ?_ N ((most : Int), 0) ⟨most, 0, rfl, by omega, by omega⟩ (by simp; omega)]
  · simp only [Int.toNat_zero, List.drop_zero, Int.toNat_natCast]
    congr 1; rw [Bool.eq_iff_iff, decide_eq_true_eq, decide_eq_true_eq]; omega
  rintro v r ⟨x, i, rfl, hi, hx⟩ hr
  simp only [porterbase_Short_s1, Int.toNat_natCast] at *
  by_cases hlt : i < l.length
  · have hd := drop_cons l [] i hlt
    have hfl : (l.drop i).flatten.length = (l.getD i []).length + (l.drop (i + 1)).flatten.length := by rw [hd, List.flatten_cons, List.length_append]
    rw [cond_t (dec_t (by omega)), cond_t (inR_nat hlt), cond_t (inR_nat hlt)]
    by_cases hover : x < (l.getD i []).length
    · rw [cond_t (dec_t (by omega))]
      exact congrArg some (decide_eq_false (by omega)).symm
    · have hw : IntKind.wrap .i64 ((x : Int) - (((l.getD i []).length : Nat) : Int)) = ((x - (l.getD i []).length : Nat) : Int) := by rw [wrap_in (by unfold I64; omega)]; omega
      rw [cond_f (dec_f (by omega)), hw, wrap_succ (by omega), hr _ ⟨x - (l.getD i []).length, i + 1, rfl, by omega, by omega⟩ (by dsimp only; omega)]
      dsimp only
      rw [Int.toNat_natCast, Int.toNat_natCast]
      congr 1; rw [Bool.eq_iff_iff, decide_eq_true_eq, decide_eq_true_eq]; omega
  · have hfl : (l.drop i).flatten.length = 0 := by rw [drop_nil' l (by omega)]; rfl
    rw [cond_f (dec_f (by omega))]
    exact congrArg some (decide_eq_true (by omega)).symm

theorem nSame_eq (N : Nat) {a b : List (List UInt8)} (ha : a.length ≤ 9223372036854775806) (hN : a.length < N) : porterbase_SameTexts N a b = some (a == b) := by
  simp only [porterbase_SameTexts, porterbase_SameTexts_p1]
  by_cases hl : a.length = b.length
  · rw [cond_f (by simp [hl]), iter_eq (I := fun v => 0 ≤ v ∧ v ≤ ((a.length : Nat) : Int)) (m := fun v => a.length - v.toNat)
      (R := fun v => some (a.drop v.toNat == b.drop v.toNat)) ?_ N 0 ⟨by omega, by omega⟩ (by simpa using hN)]
    · simp
    intro v r ⟨h0, h1⟩ hr
    obtain ⟨i, rfl⟩ := Int.eq_ofNat_of_zero_le h0
    simp only [porterbase_SameTexts_s1, Int.toNat_natCast]
    by_cases hlt : i < a.length
    · have hib : i < b.length := by omega
      rw [cond_t (dec_t (by omega)), cond_t (inR_nat hlt), cond_t (inR_nat hib), drop_cons a [] i hlt, drop_cons b [] i hib]
      by_cases he : a.getD i [] = b.getD i []
      · rw [cond_f (by rw [he]; simp), wrap_succ (by omega), hr _ ⟨by omega, by omega⟩ (by omega), he]
        simp only [Int.toNat_natCast, List.cons_beq_cons, beq_self_eq_true, Bool.true_and]
      · rw [cond_t (by rw [Bool.not_eq_true', beq_eq_false_iff_ne]; exact he)]
        simp only [List.cons_beq_cons]
        rw [beq_eq_false_iff_ne.2 he]; rfl
    · rw [cond_f (dec_f (by omega)), drop_nil' a (by omega), drop_nil' b (by omega)]; rfl
  · rw [cond_t (by simp; omega)]
    have : ¬ a = b := fun e => hl (by rw [e])
    rw [beq_eq_false_iff_ne.2 this]

theorem nameWords_true (k : Nat) {s : List UInt8} {l : List (List UInt8)} : porterlaw09_NameWords (k + 1000) s l = some true := by
  have hw : porterlaw09_works (k + 1000) = some true := namWorks (k + 940)
  have hshort := short_eq (k + 1000) (l := l) (many := 20) (most := 400) (by omega) (by omega) (by omega)
  have hshort : porterbase_Short (k + 1000) l 20 400 = some (decide (l.length ≤ 20 ∧ l.flatten.length ≤ 400)) := hshort
  simp only [porterlaw09_NameWords, porterlaw09_NameWords_p1, porterlaw09_NameWords_p2, hw, hshort, Option.bind_some]
  by_cases h1 : 400 < s.length
  · rw [cond_t (dec_t (by omega))]; rfl
  rw [cond_f (dec_f (by omega))]
  by_cases h2 : l.length ≤ 20 ∧ l.flatten.length ≤ 400
  · rw [decide_eq_true h2, Bool.not_true, cond_false, words_eq _ (by omega) (by omega), refWords_eq _ (by omega) (by omega)]
    simp only [Option.bind_some, porterlaw09_NameWords_p3]
    have hsl := splitF_length s []
    have hja : ∀ a : List (List UInt8), a = splitF [] s → name_Join (k + 1000) a = some s := by
      intro a ha
      subst ha
      have hjs := joinL_split s []
      rw [List.nil_append] at hjs
      have hfl : (splitF [] s).flatten.length ≤ s.length := by
        have : ∀ m : List (List UInt8), m.flatten.length ≤ (joinL m).length := by
          intro m
          cases m with
          | nil => simp
          | cons x r => simp only [joinL, List.flatten_cons, List.length_append, joinT_length]; omega
        have := this (splitF [] s)
        rw [hjs] at this; exact this
      rw [join_eq _ (by omega) (by omega) (by omega), hjs]
    have hp4 : ∀ k0 : Bool → Option Bool, porterlaw09_NameWords_p4 (k + 1000) s l (wordsR (splitF [] s)).1 (wordsR (splitF [] s)).2.1 (wordsR (splitF [] s)).1 (wordsR (splitF [] s)).2.1 k0 = k0 false := by
      intro k0
      simp only [porterlaw09_NameWords_p4]
      have hwl : (wordsR (splitF [] s)).1.length ≤ 500 := by
        unfold wordsR
        cases (splitF [] s).all wordL
        · simp
        · dsimp only [cond]; omega
      rw [beq_self_eq_true, Bool.not_true, cond_false, nSame_eq _ (by omega) (by omega), Option.bind_some, beq_self_eq_true, Bool.not_true, cond_false, join_eq _ (by omega) (by omega) (by omega), Option.bind_some, refJoin_eq _ (by omega) (by omega) (by omega), Option.bind_some, beq_self_eq_true, Bool.not_true, cond_false]
      unfold wordsR
      cases (splitF [] s).all wordL
      · rfl
      · dsimp only [cond]
        rw [hja _ rfl, Option.bind_some, beq_self_eq_true]; rfl
    rw [hp4, cond_false]
    -- the texts: are they all words
    have hp5 : ∀ k0 : Bool → Option Bool, porterlaw09_NameWords_p5 (k + 1000) l (decide ((0 : Int) < ((l.length : Nat) : Int))) 0 k0 = k0 (decide (0 < l.length) && l.all wordL) := by
      intro k0
      simp only [porterlaw09_NameWords_p5]
      rw [iter_eq (I := fun (v : Bool × Int) => 0 ≤ v.2 ∧ v.2 ≤ ((l.length : Nat) : Int)) (m := fun (v : Bool × Int) => l.length - v.2.toNat) (R := fun (v : Bool × Int) => k0 (v.1 && (l.drop v.2.toNat).all wordL)) ?_ (k + 1000) _ ⟨by dsimp only; omega, by dsimp only; omega⟩ (by dsimp only; omega)]
      · simp only [Int.toNat_zero, List.drop_zero]
        congr 2; rw [Bool.eq_iff_iff, decide_eq_true_eq, decide_eq_true_eq]; omega
      rintro ⟨b, v⟩ r ⟨h0, h3⟩ hr
      dsimp only at *
      obtain ⟨i, rfl⟩ := Int.eq_ofNat_of_zero_le h0
      simp only [porterlaw09_NameWords_s5, porterlaw09_NameWords_p6, Int.toNat_natCast] at *
      by_cases hlt : i < l.length
      · rw [cond_t (dec_t (by omega)), wrap_succ (by omega), drop_cons l [] i hlt]
        simp only [List.all_cons]
        cases b with
        | false =>
          rw [cond_false, hr _ ⟨by dsimp only; omega, by dsimp only; omega⟩ (by dsimp only; omega)]
          rfl
        | true =>
          rw [cond_true, cond_t (inR_nat hlt), refWord_eq _ (by omega), Option.bind_some, hr _ ⟨by dsimp only; omega, by dsimp only; omega⟩ (by dsimp only; omega)]
          simp only [Int.toNat_natCast, Bool.true_and]
      · rw [cond_f (dec_f (by omega)), drop_nil' l (by omega)]; simp
    have hjl := joinL_length l
    rw [hp5, join_eq _ (by omega) (by omega) (by omega), Option.bind_some, words_eq _ (by omega) (by omega), Option.bind_some]
    cases hall : (decide (0 < l.length) && l.all wordL) with
    | false => rfl
    | true =>
      simp only [Bool.and_eq_true, decide_eq_true_eq] at hall
      have hne : l ≠ [] := fun e => by rw [e] at hall; simp at hall
      have hsj : splitF [] (joinL l) = l := split_joinL hne (fun x hx => no_blank (List.all_eq_true.1 hall.2 x hx))
      rw [hsj, wordsR, hall.2]
      simp only [Bool.not_true, cond_false, cond_true]
      rw [nSame_eq _ (by omega) (by omega), Option.bind_some, beq_self_eq_true, cond_true]
  · rw [decide_eq_false h2]; rfl
end Go.Proofs.YtpnjnnhedadjgaaLf
