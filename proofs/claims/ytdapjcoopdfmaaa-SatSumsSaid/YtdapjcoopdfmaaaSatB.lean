/- What the plain functions of sat say: products, quotients, sums of lists. -/
import Derived.Test.YtdapjcoopdfmaaaSatM
import Derived.Test.YtdapjcoopdfmaaaLfFns
set_option linter.all false
namespace Go.Proofs.YtdapjcoopdfmaaaLf
open Go Go.Lift Go.Proofs.YtdapjcoopdfmaaaPx


theorem satAdd_eq (N : Nat) {a b : Int} (ha : I64 a) (hb : I64 b) : satAdd N a b = some (clip (a + b)) := by
  simp only [satAdd, satAdd_p1, satAdd_p2, satAdd_p3, satAdd_p4, wrap64, clip, I64, Bool.cond_eq_ite, decide_eq_true_eq, Bool.false_eq_true, if_false] at *
  repeat' split
  all_goals simp only [Option.some.injEq]
  all_goals omega

theorem satSub_eq (N : Nat) {a b : Int} (ha : I64 a) (hb : I64 b) : satSub N a b = some (clip (a - b)) := by
  simp only [satSub, satSub_p1, satSub_p2, satSub_p3, satSub_p4, wrap64, clip, I64, Bool.cond_eq_ite, decide_eq_true_eq, Bool.false_eq_true, if_false] at *
  repeat' split
  all_goals simp only [Option.some.injEq]
  all_goals omega

theorem refAdd_same : refAdd = satAdd := by kernel_rfl
theorem refSub_same : refSub = satSub := by kernel_rfl
theorem works_true (n : Nat) : works (n + 5) = some true := by kernel_rfl

theorem refEnd_eq (N : Nat) (b : Bool) : refEnd N b = some (if b then -9223372036854775808 else 9223372036854775807) := by
  cases b <;> rfl

theorem overflows_eq (N : Nat) {a b : Int} (ha : I64 a) (hb : I64 b) (ha0 : a ≠ 0) (hb0 : b ≠ 0) : overflows N a b = some (decide (¬ I64 (a * b))) := by
  have hm : ∀ {b : Int}, b = -1 → I64 b → ¬ I64 (-9223372036854775808 * b) := by intro b h _; subst h; unfold I64; omega
  simp only [overflows, overflows_p1, overflows_p2, Bool.cond_eq_ite, beq_iff_eq, Option.some.injEq]
  by_cases h1 : a = -9223372036854775808 ∧ b = -1
  · obtain ⟨rfl, rfl⟩ := h1
    simp [I64]
  by_cases h2 : b = -9223372036854775808 ∧ a = -1
  · obtain ⟨rfl, rfl⟩ := h2
    simp [I64]
  have e : ((IntKind.wrap .i64 ((IntKind.wrap .i64 (a * b)).tdiv b)) != a) = decide (¬ I64 (a * b)) := by
    rw [Bool.eq_iff_iff, bne_iff_ne, decide_eq_true_eq]
    exact overflow_test ha hb hb0 h1
  have hab : ∀ (X Y : Option Bool), (if a = -9223372036854775808 then if b = -1 then X else if b = -9223372036854775808 then (if (a == -1) = true then X else Y) else Y else if b = -9223372036854775808 then (if (a == -1) = true then X else Y) else Y) = Y := by
    intro X Y
    repeat' split
    all_goals first
      | rfl
      | (exfalso; simp_all)
  have := hab (some true) (if b = 0 then none else some ((IntKind.wrap .i64 ((IntKind.wrap .i64 (a * b)).tdiv b)) != a))
  rw [if_neg hb0, e] at this
  rw [← this]
  rw [if_neg hb0, e]
  repeat' split
  all_goals first
    | rfl
    | (exfalso; simp_all)

theorem satMul_eq (N : Nat) {a b : Int} (ha : I64 a) (hb : I64 b) : satMul N a b = some (clip (a * b)) := by
  simp only [satMul, satMul_p1, satMul_p2, Bool.cond_eq_ite, beq_iff_eq]
  by_cases ha0 : a = 0
  · subst ha0; simp [clip]
  by_cases hb0 : b = 0
  · subst hb0; simp [clip]
  rw [if_neg ha0, if_neg hb0, overflows_eq N ha hb ha0 hb0]
  simp only [Option.bind_some, refEnd_eq, decide_eq_true_eq]
  by_cases hi : I64 (a * b)
  · rw [if_neg (by simpa using hi), wrap_in hi, clip_in hi]
  · rw [if_pos hi]
    have hs := mul_signs ha0 hb0
    rcases hs with ⟨h, hp⟩ | ⟨h, hp⟩
    · rw [clip_hi (by unfold I64 at hi; omega)]
      rcases h with ⟨h1, h2⟩ | ⟨h1, h2⟩
      · simp [show ¬ a < 0 by omega, show ¬ b < 0 by omega]
      · simp [h1, h2]
    · rw [clip_lo (by unfold I64 at hi; omega)]
      rcases h with ⟨h1, h2⟩ | ⟨h1, h2⟩
      · simp [show ¬ a < 0 by omega, h2]
      · simp [h1, show ¬ b < 0 by omega]

theorem wrap_most {b : Int} : IntKind.wrap .i64 ((9223372036854775807 : Int).tdiv b) = (9223372036854775807 : Int).tdiv b := by
  apply wrap_in
  have := tdiv_abs 9223372036854775807 b
  unfold I64; omega

theorem wrap_least {b : Int} (hb : 0 < b) : IntKind.wrap .i64 ((-9223372036854775808 : Int).tdiv b) = (-9223372036854775808 : Int).tdiv b := by
  apply wrap_in
  have e : (-9223372036854775808 : Int).tdiv b = -((9223372036854775808 : Int) / b) := by
    rw [← Int.tdiv_eq_ediv_of_nonneg (by omega), ← Int.neg_tdiv]
  have h1 : (9223372036854775808 : Int) / b ≤ 9223372036854775808 := Int.ediv_le_self _ (by omega)
  have h2 : 0 ≤ (9223372036854775808 : Int) / b := Int.ediv_nonneg (by omega) (by omega)
  unfold I64; omega

theorem refMul_eq (N : Nat) {a b : Int} (ha : I64 a) (hb : I64 b) : refMul N a b = some (clip (a * b)) := by
  simp only [refMul, refMul_p1, refMul_p2, refMul_p3, refMul_p4, refMul_p5, refMul_p6, refMul_p7, refMul_p8, Bool.cond_eq_ite, beq_iff_eq, decide_eq_true_eq]
  by_cases ha0 : a = 0
  · subst ha0; simp [clip]
  by_cases hb0 : b = 0
  · subst hb0; simp [clip]
  rcases mul_signs ha0 hb0 with ⟨⟨h1, h2⟩ | ⟨h1, h2⟩, hp⟩ | ⟨⟨h1, h2⟩ | ⟨h1, h2⟩, hp⟩
  · have := pos_pos (a := a) h2
    simp only [if_neg ha0, if_neg hb0, if_pos h1, if_pos h2, if_neg (show ¬ a < 0 by omega), if_neg (show ¬ b < 0 by omega), wrap_most]
    by_cases hi : I64 (a * b)
    · simp only [this, if_neg (show ¬ 9223372036854775807 < a * b by unfold I64 at hi; omega), Bool.false_eq_true, if_false, decide_eq_true_eq, wrap_in hi, clip_in hi]
    · have hlt : 9223372036854775807 < a * b := by unfold I64 at hi; omega
      simp only [this, hlt, if_true, clip_hi hlt, decide_eq_true_eq]
  · have := neg_neg (a := a) h2
    simp only [if_neg ha0, if_neg hb0, if_pos h1, if_pos h2, if_neg (show ¬ 0 < a by omega), if_neg (show ¬ 0 < b by omega), wrap_most]
    by_cases hi : I64 (a * b)
    · simp only [this, if_neg (show ¬ 9223372036854775807 < a * b by unfold I64 at hi; omega), Bool.false_eq_true, if_false, decide_eq_true_eq, wrap_in hi, clip_in hi]
    · have hlt : 9223372036854775807 < a * b := by unfold I64 at hi; omega
      simp only [this, hlt, if_true, clip_hi hlt, decide_eq_true_eq, Bool.false_eq_true, if_false]
  · have := pos_neg h1 h2
    simp only [if_neg ha0, if_neg hb0, if_pos h1, if_pos h2, if_neg (show ¬ a < 0 by omega), if_neg (show ¬ 0 < b by omega), wrap_least h1]
    by_cases hi : I64 (a * b)
    · simp only [this, if_neg (show ¬ a * b < -9223372036854775808 by unfold I64 at hi; omega), Bool.false_eq_true, if_false, decide_eq_true_eq, wrap_in hi, clip_in hi]
    · have hlt : a * b < -9223372036854775808 := by unfold I64 at hi; omega
      simp only [this, hlt, if_true, clip_lo hlt, decide_eq_true_eq, Bool.false_eq_true, if_false]
  · have := pos_neg h2 h1
    rw [Int.mul_comm] at this
    simp only [if_neg ha0, if_neg hb0, if_pos h1, if_pos h2, if_neg (show ¬ 0 < a by omega), if_neg (show ¬ b < 0 by omega), wrap_least h2]
    by_cases hi : I64 (a * b)
    · simp only [this, if_neg (show ¬ a * b < -9223372036854775808 by unfold I64 at hi; omega), Bool.false_eq_true, if_false, decide_eq_true_eq, wrap_in hi, clip_in hi]
    · have hlt : a * b < -9223372036854775808 := by unfold I64 at hi; omega
      simp only [this, hlt, if_true, clip_lo hlt, decide_eq_true_eq, Bool.false_eq_true, if_false]

theorem satSums_true (n : Nat) {a b : Int} (ha : I64 a) (hb : I64 b) : satSums (n + 5) a b = some true := by
  simp only [satSums, refAdd_same, refSub_same, satAdd_eq _ ha hb, satSub_eq _ ha hb, satMul_eq _ ha hb, refMul_eq _ ha hb, works_true, Option.bind_some, beq_self_eq_true, cond]

theorem satDiv_same (N : Nat) {a b : Int} (ha : I64 a) (hb : I64 b) : ∃ y, satDiv N a b = some y ∧ refDiv N a b = some y := by
  simp only [satDiv, refDiv, Bool.cond_eq_ite, beq_iff_eq, decide_eq_true_eq]
  by_cases h1 : b < 1
  · exact ⟨0, by rw [if_pos h1], by rw [if_pos h1]⟩
  simp only [if_neg h1, if_neg (show ¬ b = 0 by omega)]
  have hq : IntKind.wrap .i64 (a.tdiv b) = a.tdiv b := by
    apply wrap_in
    have := tdiv_abs a b
    have hs : 0 ≤ a → 0 ≤ a.tdiv b := fun h => Int.tdiv_nonneg h (by omega)
    have hs2 : a ≤ 0 → a.tdiv b ≤ 0 := fun h => by
      have := Int.tdiv_nonneg (a := -a) (b := b) (by omega) (by omega)
      rw [Int.neg_tdiv] at this; omega
    unfold I64 at *
    omega
  have hm := Int.mul_tdiv_add_tmod a b
  have hr : (a.tmod b).natAbs ≤ a.natAbs := by rw [Int.natAbs_tmod]; exact Nat.mod_le _ _
  have hs1 : 0 ≤ a → 0 ≤ a.tmod b := fun h => Int.tmod_nonneg _ h
  have hs2 : a ≤ 0 → a.tmod b ≤ 0 := fun h => by
    have := Int.tmod_nonneg (a := -a) b (by omega)
    rw [Int.neg_tmod] at this; omega
  have hw : IntKind.wrap .i64 (a.tdiv b * b) = a.tdiv b * b := by
    apply wrap_in
    rw [Int.mul_comm]
    unfold I64 at *
    omega
  rw [hq, hw]
  have e : a < a.tdiv b * b ↔ a.tmod b < 0 := by rw [Int.mul_comm]; omega
  simp only [e]
  split
  · exact ⟨_, rfl, rfl⟩
  · exact ⟨_, rfl, rfl⟩

/-- the sum of a list, from s on -/
def sumFrom (s : Int) (l : List Int) : Int := l.foldl (fun s x => clip (s + x)) s

theorem sumFrom_i64 : ∀ (l : List Int) (s : Int), I64 s → I64 (sumFrom s l)
  | [], _, h => h
  | _ :: l, _, _ => sumFrom_i64 l _ (clip_i64 _)

theorem getD_mem {α : Type} (l : List α) (d : α) (i : Nat) (h : i < l.length) : l.getD i d ∈ l := by
  rw [List.getD_eq_getElem?_getD, List.getElem?_eq_getElem h]; simp

theorem drop_cons {α : Type} (l : List α) (d : α) (i : Nat) (h : i < l.length) : l.drop i = l.getD i d :: l.drop (i + 1) := by
  rw [List.getD_eq_getElem?_getD, List.getElem?_eq_getElem h, Option.getD_some, List.drop_eq_getElem_cons h]

theorem satSum_loop (N M : Nat) {l : List Int} (hl : l.length ≤ 9223372036854775806) (hw : ∀ x ∈ l, I64 x) (k0 : Int → Option Int) : ∀ (n : Nat) (v : Int × Int), (I64 v.1 ∧ 0 ≤ v.2 ∧ v.2 ≤ l.length) → l.length - v.2.toNat < n →
    iter (fun (v : (Int × Int)) r => satSum_s1 N l (((List.length l) : Nat) : Int) v.1 v.2 (fun total x8 => (r (total, x8))) k0) n v = k0 (sumFrom v.1 (l.drop v.2.toNat)) := by
  refine iter_eq (I := fun (v : Int × Int) => I64 v.1 ∧ 0 ≤ v.2 ∧ v.2 ≤ l.length) (m := fun (v : Int × Int) => l.length - v.2.toNat) (R := fun (v : Int × Int) => k0 (sumFrom v.1 (l.drop v.2.toNat))) ?_
  rintro ⟨s, i⟩ r ⟨hs, hi0, hi1⟩ hr
  dsimp only at *
  obtain ⟨i, rfl⟩ := Int.eq_ofNat_of_zero_le hi0
  simp only [satSum_s1, Int.toNat_natCast]
  by_cases hlt : i < l.length
  · rw [cond_t (by simp only [decide_eq_true_eq]; omega), cond_t (inR_nat hlt), satAdd_eq _ hs (hw _ (getD_mem l 0 i hlt))]
    rw [Option.bind_some, wrap_in (by unfold I64; omega), hr _ ⟨clip_i64 _, by omega, by omega⟩ (by dsimp only; omega)]
    dsimp only
    rw [drop_cons l 0 i hlt]
    have : ((i : Int) + 1).toNat = i + 1 := by omega
    rw [this]
    rfl
  · have : i = l.length := by omega
    subst this
    rw [cond_f (by simp), List.drop_length]
    rfl

theorem satSum_eq (N : Nat) {l : List Int} (hl : l.length ≤ 9223372036854775806) (hN : l.length < N) (hw : ∀ x ∈ l, I64 x) : satSum N l = some (sumFrom 0 l) := by
  simp only [satSum, satSum_p1]
  rw [satSum_loop N N hl hw _ N (0, 0) ⟨by unfold I64; omega, by omega, by dsimp only; omega⟩ (by dsimp only; omega)]
  simp

theorem satParts_loop (N : Nat) (a b : Int) {l : List Int} (hl : l.length ≤ 9223372036854775806) (hw : ∀ x ∈ l, I64 x) (k0 : Int → Option Bool) : ∀ (n : Nat) (v : Int × Int), (I64 v.1 ∧ 0 ≤ v.2 ∧ v.2 ≤ l.length) → l.length - v.2.toNat < n →
    iter (fun (v : (Int × Int)) r => satParts_s1 N a b l v.1 v.2 (fun s i => (r (s, i))) k0) n v = k0 (sumFrom v.1 (l.drop v.2.toNat)) := by
  refine iter_eq (I := fun (v : Int × Int) => I64 v.1 ∧ 0 ≤ v.2 ∧ v.2 ≤ l.length) (m := fun (v : Int × Int) => l.length - v.2.toNat) (R := fun (v : Int × Int) => k0 (sumFrom v.1 (l.drop v.2.toNat))) ?_
  rintro ⟨s, i⟩ r ⟨hs, hi0, hi1⟩ hr
  dsimp only at *
  obtain ⟨i, rfl⟩ := Int.eq_ofNat_of_zero_le hi0
  simp only [satParts_s1, Int.toNat_natCast]
  by_cases hlt : i < l.length
  · rw [cond_t (by simp only [decide_eq_true_eq]; omega), cond_t (inR_nat hlt), refAdd_same, satAdd_eq _ hs (hw _ (getD_mem l 0 i hlt))]
    rw [Option.bind_some, wrap_in (by unfold I64; omega), hr _ ⟨clip_i64 _, by omega, by omega⟩ (by dsimp only; omega)]
    dsimp only
    rw [drop_cons l 0 i hlt]
    have : ((i : Int) + 1).toNat = i + 1 := by omega
    rw [this]
    rfl
  · have : i = l.length := by omega
    subst this
    rw [cond_f (by simp), List.drop_length]
    rfl

theorem satClamp_eq (N : Nat) (n lo hi : Int) : satClamp N n lo hi = some (if n < lo then lo else if hi < n then hi else n) := by
  simp only [satClamp, Bool.cond_eq_ite, decide_eq_true_eq]
  by_cases h1 : n < lo <;> by_cases h2 : hi < n <;> simp [h1, h2]

theorem satParts_true {a b : Int} {l : List Int} (ha : I64 a) (hb : I64 b) (hw : ∀ x ∈ l, I64 x) : satParts (l.length + 5) a b l = some true := by
  simp only [satParts, works_true, Option.bind_some]
  by_cases h : 100 < l.length
  · rw [cond_t (by simp only [decide_eq_true_eq]; omega)]
  rw [cond_f (by simp only [decide_eq_false_iff_not]; omega), satParts_p1, satParts_loop _ _ _ (by omega) hw _ _ (0, 0) ⟨by unfold I64; omega, by omega, by dsimp only; omega⟩ (by dsimp only; omega)]
  obtain ⟨y, h1, h2⟩ := satDiv_same (l.length + 5) ha hb
  simp only [satClamp_eq, satParts_p2, h1, h2, Option.bind_some, beq_self_eq_true, cond_true, Int.toNat_zero, List.drop_zero, satSum_eq (l.length + 5) (l := l) (by omega) (by omega) hw]
  simp only [Bool.cond_eq_ite, decide_eq_true_eq, beq_iff_eq]
  repeat' split
  all_goals first
    | rfl
    | omega
end Go.Proofs.YtdapjcoopdfmaaaLf
