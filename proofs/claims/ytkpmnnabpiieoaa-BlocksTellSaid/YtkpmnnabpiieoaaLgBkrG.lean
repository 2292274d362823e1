/- Layer 17: right partitions, how many classes, the first of a class, meetings, and the references. -/
import Derived.Test.YtkpmnnabpiieoaaLgBkrF
set_option linter.all false
set_option maxRecDepth 100000
namespace Go.Proofs.YtkpmnnabpiieoaaLg
open Go Go.Lift Go.Proofs.YtkpmnnabpiieoaaPx

def rightA (a : List Int) : Bool := decide (a.length = 256) && rightL (-1) a

/-- the numbers of a list that came in -/
def AllI (a : List Int) : Prop := ∀ i, I64 (a.getD i 0)

theorem bne_len {n m : Nat} : (((n : Nat) : Int) != (m : Int)) = !decide (n = m) := by
  by_cases h : n = m
  · rw [dec_t h, h]; simp
  · rw [dec_f h]
    exact bne_iff_ne.2 (by omega)

theorem right_eq (N : Nat) (a : List Int) (hN : 257 < N) : blocks_Right N a = some (rightA a) := by
  rw [blocks_Right, blocks_Right_p1, blocks_Right_p2, show ((256 : Int)) = ((256 : Nat) : Int) from rfl, bne_len, rightA]
  by_cases hl : a.length = 256
  · have hx := drop_cons a 0 0 (by omega)
    rw [List.drop_zero] at hx
    rw [dec_t hl, Bool.not_true, cond_f rfl, cond_t (inR_of (by omega) (by omega)), Bool.true_and]
    rw [hx, right_two, ← hx]
    by_cases h0 : (a.getD 0 0 != 0) = true
    · rw [h0]; rfl
    · have h0 : (a.getD 0 0 != 0) = false := by simpa using h0
      rw [h0, cond_f rfl, cond_f rfl, blocks_Right_p3]
      have h := iter_eq (step := fun (v : (Int × Int)) r => blocks_Right_s3 N a (((List.length a) : Nat) : Int) v.1 v.2 (fun most x17 => (r (most, x17))) (fun x21 => some x21) (some true))
        (I := fun v => 0 ≤ v.2 ∧ v.2 ≤ 256 ∧ 0 ≤ v.1 ∧ v.1 ≤ v.2) (m := fun v => 256 - v.2.toNat) (R := fun v => some (rightL v.1 (a.drop v.2.toNat)))
        (by
          rintro ⟨t, i⟩ r ⟨h0, h1, h2, h3⟩ hr
          obtain ⟨i, rfl⟩ := Int.eq_ofNat_of_zero_le h0
          simp only [Int.toNat_natCast] at h1 h2 h3 ⊢
          rw [blocks_Right_s3]
          by_cases hi : i < 256
          · have wi := wrap_succ (i := i) (by omega)
            have wt : Go.IntKind.wrap .i64 (t + 1) = t + 1 := wrap_in (by unfold I64; omega)
            rw [cond_t (decide_eq_true (by omega)), cond_t (inR_nat (by omega)), blocks_Right_p4, blocks_Right_p5, wi, wt, drop_cons a 0 i (by omega)]
            simp only [Int.toNat_natCast]
            rw [rightL]
            by_cases h4 : a.getD i 0 < 0
            · rw [cond_t (dec_t h4), cond_t (dec_t h4)]; rfl
            · rw [cond_f (dec_f h4), cond_f (dec_f h4)]
              by_cases h5 : t + 1 < a.getD i 0
              · rw [dec_t h5]; rfl
              · rw [dec_f h5, cond_f rfl, cond_f rfl, hr _ ⟨by simp only; omega, by simp only; omega, by simp only; split <;> omega, by simp only; split <;> omega⟩ (by simp only [Int.toNat_natCast]; omega)]
                rfl
          · have e : i = 256 := by omega
            subst e
            rw [cond_f (decide_eq_false (by omega)), List.drop_of_length_le (by omega)]
            rfl) N ((0 : Int), (0 : Int)) ⟨by simp only; omega, by simp only; omega, by simp only; omega, by simp only; omega⟩ (by simp only [Int.toNat_zero]; omega)
      rw [h]
      rfl
  · rw [dec_f hl]; rfl

theorem refRight_eq (N : Nat) (a : List Int) (hN : 257 < N) : porterref17_Right N a = some (rightA a) := by
  rw [porterref17_Right, show ((256 : Int)) = ((256 : Nat) : Int) from rfl, bne_len, rightA]
  by_cases hl : a.length = 256
  · rw [dec_t hl, Bool.not_true, cond_f rfl, Bool.true_and, porterref17_Right_p1]
    have h := iter_eq (step := fun (v : (Int × Int)) r => porterref17_Right_s1 N a v.1 v.2 (fun top i => (r (top, i))) (fun x2 => some x2) (some true))
      (I := fun v => 0 ≤ v.2 ∧ v.2 ≤ 256 ∧ -1 ≤ v.1 ∧ v.1 ≤ v.2) (m := fun v => 256 - v.2.toNat) (R := fun v => some (rightL v.1 (a.drop v.2.toNat)))
      (by
        rintro ⟨t, i⟩ r ⟨h0, h1, h2, h3⟩ hr
        obtain ⟨i, rfl⟩ := Int.eq_ofNat_of_zero_le h0
        simp only [Int.toNat_natCast] at h1 h2 h3 ⊢
        rw [porterref17_Right_s1]
        by_cases hi : i < 256
        · have wi := wrap_succ (i := i) (by omega)
          have wt : Go.IntKind.wrap .i64 (t + 1) = t + 1 := wrap_in (by unfold I64; omega)
          rw [cond_t (decide_eq_true (by omega)), porterref17_Right_p2, porterref17_Right_p3, porterref17_Right_p4, cond_t (inR_nat (by omega)), cond_t (inR_nat (by omega)), cond_t (inR_nat (by omega)), cond_t (inR_nat (by omega)), wi, wt, drop_cons a 0 i (by omega)]
          simp only [Int.toNat_natCast]
          rw [rightL]
          by_cases h4 : a.getD i 0 < 0
          · rw [cond_t (dec_t h4), cond_t (dec_t h4)]; rfl
          · rw [cond_f (dec_f h4), cond_f (dec_f h4)]
            by_cases h5 : t + 1 < a.getD i 0
            · rw [dec_t h5]; rfl
            · rw [dec_f h5, cond_f rfl, cond_f rfl]
              by_cases hx : t < a.getD i 0
              · rw [cond_t (decide_eq_true hx), hr _ ⟨by simp only; omega, by simp only; omega, by simp only; omega, by simp only; omega⟩ (by simp only [Int.toNat_natCast]; omega), if_pos hx]
                rfl
              · rw [cond_f (decide_eq_false hx), hr _ ⟨by simp only; omega, by simp only; omega, by simp only; omega, by simp only; omega⟩ (by simp only [Int.toNat_natCast]; omega), if_neg hx]
                rfl
        · have e : i = 256 := by omega
          subst e
          rw [cond_f (decide_eq_false (by omega)), List.drop_of_length_le (by omega)]
          rfl) N ((-1 : Int), (0 : Int)) ⟨by simp only; omega, by simp only; omega, by simp only; omega, by simp only; omega⟩ (by simp only [Int.toNat_zero]; omega)
    exact h
  · rw [dec_f hl]; rfl

/-! how many -/
def countA (a : List Int) : Int := cond (rightA a) (topL (-1) a + 1) 0

theorem max_eq (N : Nat) (a : List Int) (hl : a.length = 256) (hN : 257 < N) : slices_Max__intint N a = some (topL (a.getD 0 0) (a.drop 1)) := by
  rw [slices_Max__intint, slices_Max__intint_p1, cond_f (decide_eq_false (by omega)), cond_t (inR_of (by omega) (by omega)), slices_Max__intint_p2]
  exact iter_eq (step := fun (v : (Int × Int)) r => slices_Max__intint_s2 N a v.1 v.2 (fun m i => (r (m, i))) (fun m => some m))
    (I := fun v => 0 ≤ v.2 ∧ v.2 ≤ 256) (m := fun v => 256 - v.2.toNat) (R := fun v => some (topL v.1 (a.drop v.2.toNat)))
    (by
      rintro ⟨t, i⟩ r ⟨h0, h1⟩ hr
      obtain ⟨i, rfl⟩ := Int.eq_ofNat_of_zero_le h0
      simp only [Int.toNat_natCast] at h1 ⊢
      rw [slices_Max__intint_s2]
      by_cases hi : i < 256
      · have wi := wrap_succ (i := i) (by omega)
        rw [cond_t (decide_eq_true (by omega)), cond_t (inR_nat (by omega)), wi, hr _ ⟨by simp only; omega, by simp only; omega⟩ (by simp only [Int.toNat_natCast]; omega), drop_cons a 0 i (by omega)]
        rfl
      · have e : i = 256 := by omega
        subst e
        rw [cond_f (decide_eq_false (by omega)), List.drop_of_length_le (by omega)]
        rfl) N (a.getD 0 0, (1 : Int)) ⟨by simp only; omega, by simp only; omega⟩ (by show 256 - 1 < N; omega)

theorem right_zero {a : List Int} (h : rightA a = true) : a.length = 256 ∧ a.getD 0 0 = 0 ∧ rightL (-1) a = true := by
  rw [rightA, Bool.and_eq_true, decide_eq_true_eq] at h
  obtain ⟨hl, hr⟩ := h
  refine ⟨hl, ?_, hr⟩
  have hx := drop_cons a 0 0 (by omega)
  rw [List.drop_zero] at hx
  rw [hx, right_two] at hr
  by_cases h0 : (a.getD 0 0 != 0) = true
  · rw [h0] at hr; exact absurd hr Bool.false_ne_true
  · simpa using h0

theorem top_first {a : List Int} (h : rightA a = true) : topL (a.getD 0 0) (a.drop 1) = topL (-1) a := by
  obtain ⟨hl, h0, hr⟩ := right_zero h
  have hx := drop_cons a 0 0 (by omega)
  rw [List.drop_zero] at hx
  have e : topL (-1) a = topL (-1) (a.getD 0 0 :: a.drop (0 + 1)) := by rw [← hx]
  rw [e, h0]
  rfl

theorem count_code (N : Nat) (a : List Int) (hN : 257 < N) : blocks_Count N a = some (countA a) := by
  rw [blocks_Count, right_eq N a hN, Option.bind_some, countA]
  cases h : rightA a
  · rfl
  · obtain ⟨hl, h0, hr⟩ := right_zero h
    have h1 := topL_le a (-1) hr
    have h2 := topL_ge a (-1)
    rw [Bool.not_true, cond_f rfl, max_eq N a hl hN, top_first h, Option.bind_some, wrap_in (by unfold I64; omega)]
    rfl

theorem count_ref (N : Nat) (a : List Int) (hl : a.length ≤ 300) (hN : 301 < N) : porterref17_Count N a = some (countA a) := by
  rw [porterref17_Count, porterref17_Count_p1, porterref17_Count_p2]
  have h := iter_eq (step := fun (v : (Int × Int)) r => porterref17_Count_s2 N a v.1 v.2 (fun top i => (r (top, i))) (fun top1 => some (Go.IntKind.wrap .i64 (top1 + 1))))
    (I := fun v => 0 ≤ v.2 ∧ v.2 ≤ 300) (m := fun v => 300 - v.2.toNat) (R := fun v => some (Go.IntKind.wrap .i64 ((cond (rightA a) (topL v.1 (a.drop v.2.toNat)) v.1) + 1)))
    (by
      rintro ⟨t, i⟩ r ⟨h0, h1⟩ hr
      obtain ⟨i, rfl⟩ := Int.eq_ofNat_of_zero_le h0
      simp only [Int.toNat_natCast] at h1 ⊢
      rw [porterref17_Count_s2, porterref17_Count_p3, refRight_eq N a (by omega), Option.bind_some]
      by_cases hi : i < a.length
      · have wi := wrap_succ (i := i) (by omega)
        rw [cond_t (decide_eq_true (by omega))]
        cases hra : rightA a
        · rfl
        · rw [cond_t rfl, porterref17_Count_p4, cond_t (inR_nat hi), cond_t (inR_nat hi), wi, drop_cons a 0 i hi]
          simp only [Int.toNat_natCast]
          have e : topL t (a.getD i 0 :: a.drop (i + 1)) = topL (if a.getD i 0 > t then a.getD i 0 else t) (a.drop (i + 1)) := rfl
          rw [e]
          by_cases hx : t < a.getD i 0
          · rw [cond_t (decide_eq_true hx), hr _ ⟨by simp only; omega, by simp only; omega⟩ (by simp only [Int.toNat_natCast]; omega), hra, if_pos hx]
            rfl
          · rw [cond_f (decide_eq_false hx), hr _ ⟨by simp only; omega, by simp only; omega⟩ (by simp only [Int.toNat_natCast]; omega), hra, if_neg hx]
            rfl
      · rw [cond_f (decide_eq_false (by omega)), List.drop_of_length_le (by omega)]
        cases rightA a <;> rfl) N ((-1 : Int), (0 : Int)) ⟨by simp only; omega, by simp only; omega⟩ (by simp only [Int.toNat_zero]; omega)
  show iter _ N ((-1 : Int), (0 : Int)) = _
  rw [h, countA]
  cases hra : rightA a
  · rfl
  · obtain ⟨hl, h0, hr⟩ := right_zero hra
    have h1 := topL_le a (-1) hr
    have h2 := topL_ge a (-1)
    simp only [Int.toNat_zero, List.drop_zero, cond_true]
    rw [wrap_in (by unfold I64; omega)]

/-! the first of a class -/
def idxI (k : Int) : Nat → List Int → Int
  | _, [] => -1
  | i, x :: l => cond (k == x) (i : Int) (idxI k (i + 1) l)

theorem index_eq (N : Nat) (a : List Int) (k : Int) (hl : a.length ≤ 300) (hN : 301 < N) : slices_Index__intint N a k = some (idxI k 0 a) := by
  rw [slices_Index__intint, slices_Index__intint_p1]
  have h := iter_eq (step := fun (v : Int) r => slices_Index__intint_s1 N a k (((List.length a) : Nat) : Int) v (fun x8 => (r x8)) (fun x4 => some x4) (some (-(1 : Int))))
    (I := fun v => 0 ≤ v ∧ v ≤ 300) (m := fun v => 300 - v.toNat) (R := fun v => some (idxI k v.toNat (a.drop v.toNat)))
    (by
      rintro i r ⟨h0, h1⟩ hr
      obtain ⟨i, rfl⟩ := Int.eq_ofNat_of_zero_le h0
      simp only [Int.toNat_natCast] at h1 ⊢
      rw [slices_Index__intint_s1]
      by_cases hi : i < a.length
      · have wi := wrap_succ (i := i) (by omega)
        rw [cond_t (decide_eq_true (by omega)), cond_t (inR_nat hi), wi, hr _ ⟨by omega, by omega⟩ (by simp only [Int.toNat_natCast]; omega), drop_cons a 0 i hi]
        simp only [Int.toNat_natCast]
        rw [idxI]
        cases k == a.getD i 0 <;> rfl
      · rw [cond_f (decide_eq_false (by omega)), List.drop_of_length_le (by omega)]
        rfl) N (0 : Int) ⟨by omega, by omega⟩ (by simp only [Int.toNat_zero]; omega)
  exact h

def firstA (a : List Int) (k : Int) : Int := cond (rightA a) (idxI k 0 a) (-1)

theorem first_eq (N : Nat) (a : List Int) (k : Int) (hl : a.length ≤ 300) (hN : 301 < N) : blocks_First N a k = some (firstA a k) := by
  rw [blocks_First, right_eq N a (by omega), Option.bind_some, firstA]
  cases h : rightA a
  · rfl
  · rw [Bool.not_true, cond_f rfl, index_eq N a k hl hN]; rfl

theorem first_law (N : Nat) (a b : List Int) (k : Int) (k0 : Int → Option Bool) (hl : a.length ≤ 300) (hN : 302 < N) :
    porterlaw17_BlocksTell_p3 N a b k (-(1 : Int)) (Go.IntKind.wrap .i64 ((((List.length a) : Nat) : Int) - (1 : Int))) k0 = k0 (firstA a k) := by
  rw [porterlaw17_BlocksTell_p3, wrap_in (by unfold I64; omega)]
  exact iter_eq (step := fun (v : (Int × Int)) r => porterlaw17_BlocksTell_s3 N a b k v.1 v.2 (fun first i => (r (first, i))) k0)
    (I := fun v => -1 ≤ v.2 ∧ v.2 < a.length ∧ v.1 = cond (rightA a) (idxI k (v.2 + 1).toNat (a.drop (v.2 + 1).toNat)) (-1)) (m := fun v => (v.2 + 1).toNat) (R := fun _ => k0 (firstA a k))
    (by
      rintro ⟨f, i⟩ r ⟨h0, h1, h2⟩ hr
      simp only at h0 h1 h2
      simp only
      rw [porterlaw17_BlocksTell_s3]
      by_cases hi : 0 ≤ i
      · obtain ⟨i, rfl⟩ := Int.eq_ofNat_of_zero_le hi
        have wi : Go.IntKind.wrap .i64 ((i : Int) - 1) = (i : Int) - 1 := wrap_in (by unfold I64; omega)
        have e1 : ((i : Int) + 1).toNat = i + 1 := by omega
        have e2 : (((i : Int) - 1) + 1).toNat = i := by omega
        rw [cond_t (decide_eq_true (by omega)), porterlaw17_BlocksTell_p4, porterlaw17_BlocksTell_p5, cond_t (inR_nat (by omega)), refRight_eq N a (by omega), wi]
        simp only [Int.toNat_natCast, Option.bind_some]
        rw [e1] at h2
        have hd := drop_cons a 0 i (by omega)
        have hst : idxI k i (a.drop i) = cond (k == a.getD i 0) (i : Int) (idxI k (i + 1) (a.drop (i + 1))) := by rw [hd]; rfl
        have hsy : (a.getD i 0 == k) = (k == a.getD i 0) := by
          rw [Bool.eq_iff_iff, beq_iff_eq, beq_iff_eq]; exact eq_comm
        rw [hsy]
        cases hk : k == a.getD i 0
        · rw [hk] at hst
          simp only [cond_false]
          exact hr _ ⟨by simp only; omega, by simp only; omega, by simp only [e2]; rw [h2, hst]; rfl⟩ (by simp only [e1, e2]; omega)
        · rw [hk] at hst
          simp only [cond_true]
          cases hra : rightA a
          · rw [cond_f rfl]
            rw [hra] at h2
            exact hr _ ⟨by simp only; omega, by simp only; omega, by simp only [e2]; rw [h2, hra]; rfl⟩ (by simp only [e1, e2]; omega)
          · rw [cond_t rfl]
            exact hr _ ⟨by simp only; omega, by simp only; omega, by simp only [e2]; rw [hra, hst]; rfl⟩ (by simp only [e1, e2]; omega)
      · have e : i = -1 := by omega
        subst e
        rw [cond_f (decide_eq_false (by omega)), h2]
        rfl) N _ ⟨by simp only; omega, by simp only; omega, by
      have e : (((a.length : Nat) : Int) - 1 + 1).toNat = a.length := by omega
      simp only [e]
      rw [List.drop_of_length_le (Nat.le_refl _)]
      cases rightA a <;> rfl⟩ (by simp only; omega)

/-! meetings -/
def simM (a b : List Int) (k i : Nat) : Bool := a.getD k 0 == a.getD i 0 && b.getD k 0 == b.getD i 0
def meetA (a b : List Int) : List Int := cond (rightA a && rightA b) (grow (simM a b) 256).1 []

theorem pairs_eq (N : Nat) (a b : List Int) (ha : a.length = 256) (hb : b.length = 256) (k0 : List (List Int) → Option (List Int)) (hN : 256 < N) :
    ∃ P, P.length = 256 ∧ (∀ j, j < 256 → P.getD j [] = [a.getD j 0, b.getD j 0]) ∧
      blocks_Meet_p3 N a b (List.replicate 256 ([(0 : Int), (0 : Int)] : List Int)) (((List.length (List.replicate 256 ([(0 : Int), (0 : Int)] : List Int))) : Nat) : Int) (0 : Int) k0 = k0 P := by
  have hlen : List.length (List.replicate 256 ([(0 : Int), (0 : Int)] : List Int)) = 256 := List.length_replicate ..
  rw [blocks_Meet_p3, hlen]
  generalize List.replicate 256 ([(0 : Int), (0 : Int)] : List Int) = P0 at *
  exact iter_post (step := fun (v : ((List (List Int)) × Int)) r => blocks_Meet_s3 N a b ((256 : Nat) : Int) v.1 v.2 (fun pairs x18 => (r (pairs, x18))) k0)
    (I := fun v => 0 ≤ v.2 ∧ v.2 ≤ 256 ∧ v.1.length = 256 ∧ ∀ j, j < v.2.toNat → v.1.getD j [] = [a.getD j 0, b.getD j 0]) (m := fun v => 256 - v.2.toNat)
    (p := fun o => ∃ P : List (List Int), P.length = 256 ∧ (∀ j, j < 256 → P.getD j [] = [a.getD j 0, b.getD j 0]) ∧ o = k0 P)
    (by
      rintro ⟨P, i⟩ r ⟨h0, h1, h2, h3⟩ hr
      obtain ⟨i, rfl⟩ := Int.eq_ofNat_of_zero_le h0
      simp only [Int.toNat_natCast] at h1 h2 h3 ⊢
      rw [blocks_Meet_s3]
      by_cases hi : i < 256
      · have wi := wrap_succ (i := i) (by omega)
        rw [cond_t (decide_eq_true (by omega)), cond_t (inR_nat (by omega)), cond_t (inR_nat (by omega)), cond_t (inR_nat (by omega)), wi]
        simp only [Int.toNat_natCast]
        rw [cond_t (decide_eq_true (by omega))]
        refine hr _ ⟨by simp only; omega, by simp only; omega, by simp only [List.length_set]; exact h2, ?_⟩ (by simp only [Int.toNat_natCast]; omega)
        simp only [Int.toNat_natCast]
        intro j hj
        rw [getD_set _ _ _ _ _ (by omega)]
        by_cases hji : j = i
        · rw [if_pos hji, hji]
        · rw [if_neg hji]; exact h3 j (by omega)
      · have e : i = 256 := by omega
        subst e
        rw [cond_f (decide_eq_false (by omega))]
        exact ⟨P, h2, h3, rfl⟩) N _ ⟨by simp only; omega, by simp only; omega, hlen, fun j hj => by simp at hj⟩ (by simp only [Int.toNat_zero]; omega)

theorem eq_two (a b c d : Int) : eqD (T.arr 2 (T.int Go.IntKind.i64)) [a, b] [c, d] = (a == c && b == d) := by
  rw [Bool.eq_iff_iff, eqD_iff _ _ _ rfl, Bool.and_eq_true, beq_iff_eq, beq_iff_eq]
  constructor
  · intro h; injection h with h1 h2; injection h2 with h2 _; exact ⟨h1, h2⟩
  · rintro ⟨rfl, rfl⟩; rfl

theorem meet_code (N : Nat) (a b : List Int) (hN : 257 < N) : blocks_Meet N a b = some (meetA a b) := by
  rw [blocks_Meet, blocks_Meet_p1, blocks_Meet_p2, right_eq N a hN, right_eq N b hN, meetA]
  simp only [Option.bind_some]
  cases ha : rightA a
  · rfl
  · cases hb : rightA b
    · rfl
    · rw [Bool.not_true, cond_f rfl, cond_f rfl]
      obtain ⟨P, h1, h2, e⟩ := pairs_eq N a b (right_zero ha).1 (right_zero hb).1 (fun pairs => (blocks_number2 N pairs).bind fun y => some y) (by omega)
      rw [e]
      show ((blocks_number2 N P).bind fun y => some y) = _
      rw [num_eq2 N P (by omega) (by omega), Option.bind_some, h1]
      rw [grow_congr (g := simM a b) 256 (fun k i hk hi => by rw [h2 k (by omega), h2 i hi, eq_two, simM])]
      rfl


theorem alike_eq (N : Nat) (sets : List (List Int)) (hs : ∀ s ∈ sets, SetOk s) (hl : sets.length ≤ 64) {k b : Nat} (hk : k < 256) (hb : b < 256) (hN : 300 ≤ N) :
    porterref17_alike N sets (k : Int) (b : Int) = some (alikeB sets k b) := by
  rw [porterref17_alike, porterref17_alike_p1]
  have h := iter_eq (step := fun (v : Int) r => porterref17_alike_s1 N sets (k : Int) (b : Int) v (fun i => (r i)) (fun x6 => some x6) (some true))
    (I := fun v => 0 ≤ v ∧ v ≤ sets.length) (m := fun v => sets.length - v.toNat) (R := fun v => some (alikeB (sets.drop v.toNat) k b))
    (by
      rintro i r ⟨h0, h1⟩ hr
      obtain ⟨i, rfl⟩ := Int.eq_ofNat_of_zero_le h0
      simp only [Int.toNat_natCast] at h1 ⊢
      rw [porterref17_alike_s1]
      by_cases hi : i < sets.length
      · have wi := wrap_succ (i := i) (by omega)
        have hsi := hs _ (getD_mem sets [] i hi)
        rw [cond_t (decide_eq_true (by omega)), cond_t (inR_nat hi), wi]
        simp only [Int.toNat_natCast]
        rw [refHas_eq N hsi hk (by omega), Option.bind_some, cond_t (inR_nat hi), refHas_eq N hsi hb (by omega), hr _ ⟨by omega, by omega⟩ (by simp only [Int.toNat_natCast]; omega), drop_cons sets [] i hi]
        simp only [Option.bind_some, Int.toNat_natCast]
        rw [show alikeB (sets.getD i [] :: sets.drop (i + 1)) k b = ((hasS (sets.getD i []) k == hasS (sets.getD i []) b) && alikeB (sets.drop (i + 1)) k b) from rfl]
        cases hasS (sets.getD i []) k == hasS (sets.getD i []) b <;> rfl
      · rw [cond_f (decide_eq_false (by omega)), List.drop_of_length_le (by omega)]
        rfl) N (0 : Int) ⟨by omega, by omega⟩ (by simp only [Int.toNat_zero]; omega)
  exact h

theorem refOf_loop (N : Nat) (sets : List (List Int)) (out : List Int) (many : Int) {b : Nat} (hb : b < 256) (ho : out.length = b) (hc : ∀ k, k < b → 0 ≤ out.getD k 0) (k0 : Int → Option (List Int)) (hs : ∀ s ∈ sets, SetOk s) (hl : sets.length ≤ 64) (hN : 300 ≤ N) :
    porterref17_Of_p3 N sets out many (b : Int) (-(1 : Int)) k0 = k0 (match firstC (alikeB sets) out b 0 b with | some c => c | none => -1) := by
  rw [porterref17_Of_p3, porterref17_Of_p4]
  have h := iter_eq (step := fun (v : (Int × Int)) r => porterref17_Of_s4 N sets out many (b : Int) v.1 v.2 (fun at_ k => (r (at_, k))) (fun at_1 => k0 at_1))
    (I := fun v => 0 ≤ v.2 ∧ v.2 ≤ b ∧ -1 ≤ v.1) (m := fun v => b - v.2.toNat)
    (R := fun v => k0 (cond (decide (v.1 < 0)) (match firstC (alikeB sets) out b v.2.toNat (b - v.2.toNat) with | some c => c | none => -1) v.1))
    (by
      rintro ⟨at_, k⟩ r ⟨h0, h1, h2⟩ hr
      obtain ⟨k, rfl⟩ := Int.eq_ofNat_of_zero_le h0
      simp only [Int.toNat_natCast] at h1 h2 ⊢
      rw [porterref17_Of_s4, porterref17_Of_p5]
      by_cases hk : k < b
      · have wi := wrap_succ (i := k) (by omega)
        have e : b - k = (b - (k + 1)) + 1 := by omega
        rw [cond_t (decide_eq_true (by omega))]
        by_cases hat : at_ < 0
        · rw [cond_t (decide_eq_true hat), cond_t (decide_eq_true hat), porterref17_Of_p6, alike_eq N sets hs hl (by omega) hb hN]
          simp only [Option.bind_some, Int.toNat_natCast]
          rw [wi, e, firstC]
          cases hs : (alikeB sets) k b
          · rw [cond_f rfl, cond_f rfl, hr _ ⟨by simp only; omega, by simp only; omega, by simp only; omega⟩ (by simp only [Int.toNat_natCast]; omega)]
            simp only [Int.toNat_natCast]
            rw [cond_t (decide_eq_true hat)]
          · have := hc k hk
            rw [cond_t rfl, cond_t rfl, cond_t (inR_nat (by omega)), cond_t (decide_eq_true (by omega)), hr _ ⟨by simp only; omega, by simp only; omega, by simp only; omega⟩ (by simp only [Int.toNat_natCast]; omega)]
            simp only
            rw [cond_f (decide_eq_false (by omega))]
        · rw [cond_f (decide_eq_false hat), cond_f (decide_eq_false hat)]
      · have e : b - k = 0 := by omega
        rw [cond_f (decide_eq_false (by omega)), e, firstC]
        by_cases hat : at_ < 0
        · rw [cond_t (decide_eq_true hat)]
          have e1 : at_ = -1 := by omega
          rw [e1]
        · rw [cond_f (decide_eq_false hat)]) N ((-1 : Int), (0 : Int)) ⟨by simp only; omega, by simp only; omega, by simp only; omega⟩ (by simp only [Int.toNat_zero]; omega)
  show iter _ N ((-1 : Int), (0 : Int)) = _
  rw [h]
  rfl

theorem refOf_grow (N : Nat) (sets : List (List Int)) (hs : ∀ s ∈ sets, SetOk s) (hl : sets.length ≤ 64) (hN : 300 ≤ N) : porterref17_Of_p1 N sets [] 0 0 (fun out => some out) = some (grow (alikeB sets) 256).1 := by
  rw [porterref17_Of_p1]
  exact iter_eq (step := fun (v : ((List Int) × Int × Int)) r => porterref17_Of_s1 N sets v.1 v.2.1 v.2.2 (fun out many b => (r (out, many, b))) (fun out => some out))
    (I := fun v => 0 ≤ v.2.2 ∧ v.2.2 ≤ 256 ∧ v.1 = (grow (alikeB sets) v.2.2.toNat).1 ∧ v.2.1 = ((grow (alikeB sets) v.2.2.toNat).2 : Int)) (m := fun v => 256 - v.2.2.toNat) (R := fun _ => some (grow (alikeB sets) 256).1)
    (by
      rintro ⟨out, many, b⟩ r ⟨h0, h1, h2, h3⟩ hr
      obtain ⟨b, rfl⟩ := Int.eq_ofNat_of_zero_le h0
      simp only [Int.toNat_natCast] at h1 h2 h3 ⊢
      subst h2 h3
      rw [porterref17_Of_s1]
      by_cases hb : b < 256
      · have wi := wrap_succ (i := b) (by omega)
        have hgl := grow_len (alikeB sets) b
        have hm := grow_many (alikeB sets) b
        have hlt := grow_lt (alikeB sets) b
        have wm : Go.IntKind.wrap .i64 (((grow (alikeB sets) b).2 : Int) + 1) = (((grow (alikeB sets) b).2 + 1 : Nat) : Int) := wrap_succ (by omega)
        rw [cond_t (decide_eq_true (by omega)), porterref17_Of_p2, refOf_loop N sets _ _ hb hgl (fun k hk => (hlt k hk).1) _ hs hl hN, wi]
        have hg : grow (alikeB sets) (b + 1) = (match firstC (alikeB sets) (grow (alikeB sets) b).1 b 0 b with
          | some c => ((grow (alikeB sets) b).1 ++ [c], (grow (alikeB sets) b).2)
          | none => ((grow (alikeB sets) b).1 ++ [((grow (alikeB sets) b).2 : Int)], (grow (alikeB sets) b).2 + 1)) := rfl
        cases hc : firstC (alikeB sets) (grow (alikeB sets) b).1 b 0 b with
        | none =>
          rw [hc] at hg
          simp only
          rw [porterref17_Of_p7, cond_t (decide_eq_true (by omega)), cond_t (decide_eq_true (by rw [hgl]; omega)), wm]
          exact hr _ ⟨by simp only; omega, by simp only; omega, by simp only [Int.toNat_natCast, hg], by simp only [Int.toNat_natCast, hg]⟩ (by simp only [Int.toNat_natCast]; omega)
        | some c =>
          rw [hc] at hg
          obtain ⟨j, _, h2, _, h4⟩ := firstC_some b 0 hc
          have h5 := hlt j (by omega)
          simp only
          rw [porterref17_Of_p7, cond_f (decide_eq_false (by omega)), cond_t (decide_eq_true (by rw [hgl]; omega))]
          exact hr _ ⟨by simp only; omega, by simp only; omega, by simp only [Int.toNat_natCast, hg], by simp only [Int.toNat_natCast, hg]⟩ (by simp only [Int.toNat_natCast]; omega)
      · have e : b = 256 := by omega
        subst e
        rw [cond_f (decide_eq_false (by omega))]) N (([] : List Int), (0 : Int), (0 : Int)) ⟨by simp only; omega, by simp only; omega, rfl, rfl⟩ (by simp only [Int.toNat_zero]; omega)

theorem meet_p9 (N : Nat) (a b₀ out : List Int) (many : Int) (ha : a.length = 256) (hb₀ : b₀.length = 256) {k b : Nat} (hk : k < 256) (hb : b < 256) {at_ : Int} (k0 : Bool → Option (List Int)) :
    porterref17_Meet_p9 N a b₀ out many (b : Int) at_ (k : Int) k0 = k0 (simM a b₀ k b) := by
  rw [porterref17_Meet_p9, cond_t (inR_nat (by omega)), cond_t (inR_nat (by omega)), cond_t (inR_nat (by omega)), cond_t (inR_nat (by omega)), simM]
  simp only [Int.toNat_natCast]
  cases a.getD k 0 == a.getD b 0 <;> rfl

theorem refMeet_loop (N : Nat) (a b₀ : List Int) (out : List Int) (many : Int) {b : Nat} (hb : b < 256) (ho : out.length = b) (hc : ∀ k, k < b → 0 ≤ out.getD k 0) (k0 : Int → Option (List Int)) (ha : a.length = 256) (hb₀ : b₀.length = 256) (hN : 300 ≤ N) :
    porterref17_Meet_p5 N a b₀ out many (b : Int) (-(1 : Int)) k0 = k0 (match firstC (simM a b₀) out b 0 b with | some c => c | none => -1) := by
  rw [porterref17_Meet_p5, porterref17_Meet_p6]
  have h := iter_eq (step := fun (v : (Int × Int)) r => porterref17_Meet_s6 N a b₀ out many (b : Int) v.1 v.2 (fun at_ k => (r (at_, k))) (fun at_1 => k0 at_1))
    (I := fun v => 0 ≤ v.2 ∧ v.2 ≤ b ∧ -1 ≤ v.1) (m := fun v => b - v.2.toNat)
    (R := fun v => k0 (cond (decide (v.1 < 0)) (match firstC (simM a b₀) out b v.2.toNat (b - v.2.toNat) with | some c => c | none => -1) v.1))
    (by
      rintro ⟨at_, k⟩ r ⟨h0, h1, h2⟩ hr
      obtain ⟨k, rfl⟩ := Int.eq_ofNat_of_zero_le h0
      simp only [Int.toNat_natCast] at h1 h2 ⊢
      rw [porterref17_Meet_s6, porterref17_Meet_p7]
      by_cases hk : k < b
      · have wi := wrap_succ (i := k) (by omega)
        have e : b - k = (b - (k + 1)) + 1 := by omega
        rw [cond_t (decide_eq_true (by omega))]
        by_cases hat : at_ < 0
        · rw [cond_t (decide_eq_true hat), cond_t (decide_eq_true hat), porterref17_Meet_p8, meet_p9 N a b₀ out many ha hb₀ (by omega) hb]
          simp only [Option.bind_some, Int.toNat_natCast]
          rw [wi, e, firstC]
          cases hs : (simM a b₀) k b
          · rw [cond_f rfl, cond_f rfl, hr _ ⟨by simp only; omega, by simp only; omega, by simp only; omega⟩ (by simp only [Int.toNat_natCast]; omega)]
            simp only [Int.toNat_natCast]
            rw [cond_t (decide_eq_true hat)]
          · have := hc k hk
            rw [cond_t rfl, cond_t rfl, cond_t (inR_nat (by omega)), cond_t (decide_eq_true (by omega)), hr _ ⟨by simp only; omega, by simp only; omega, by simp only; omega⟩ (by simp only [Int.toNat_natCast]; omega)]
            simp only
            rw [cond_f (decide_eq_false (by omega))]
        · rw [cond_f (decide_eq_false hat), cond_f (decide_eq_false hat)]
      · have e : b - k = 0 := by omega
        rw [cond_f (decide_eq_false (by omega)), e, firstC]
        by_cases hat : at_ < 0
        · rw [cond_t (decide_eq_true hat)]
          have e1 : at_ = -1 := by omega
          rw [e1]
        · rw [cond_f (decide_eq_false hat)]) N ((-1 : Int), (0 : Int)) ⟨by simp only; omega, by simp only; omega, by simp only; omega⟩ (by simp only [Int.toNat_zero]; omega)
  show iter _ N ((-1 : Int), (0 : Int)) = _
  rw [h]
  rfl

theorem refMeet_grow (N : Nat) (a b₀ : List Int) (ha : a.length = 256) (hb₀ : b₀.length = 256) (hN : 300 ≤ N) : porterref17_Meet_p3 N a b₀ [] 0 0 (fun out => some out) = some (grow (simM a b₀) 256).1 := by
  rw [porterref17_Meet_p3]
  exact iter_eq (step := fun (v : ((List Int) × Int × Int)) r => porterref17_Meet_s3 N a b₀ v.1 v.2.1 v.2.2 (fun out many b => (r (out, many, b))) (fun out => some out))
    (I := fun v => 0 ≤ v.2.2 ∧ v.2.2 ≤ 256 ∧ v.1 = (grow (simM a b₀) v.2.2.toNat).1 ∧ v.2.1 = ((grow (simM a b₀) v.2.2.toNat).2 : Int)) (m := fun v => 256 - v.2.2.toNat) (R := fun _ => some (grow (simM a b₀) 256).1)
    (by
      rintro ⟨out, many, b⟩ r ⟨h0, h1, h2, h3⟩ hr
      obtain ⟨b, rfl⟩ := Int.eq_ofNat_of_zero_le h0
      simp only [Int.toNat_natCast] at h1 h2 h3 ⊢
      subst h2 h3
      rw [porterref17_Meet_s3]
      by_cases hb : b < 256
      · have wi := wrap_succ (i := b) (by omega)
        have hgl := grow_len (simM a b₀) b
        have hm := grow_many (simM a b₀) b
        have hlt := grow_lt (simM a b₀) b
        have wm : Go.IntKind.wrap .i64 (((grow (simM a b₀) b).2 : Int) + 1) = (((grow (simM a b₀) b).2 + 1 : Nat) : Int) := wrap_succ (by omega)
        rw [cond_t (decide_eq_true (by omega)), porterref17_Meet_p4, refMeet_loop N a b₀ _ _ hb hgl (fun k hk => (hlt k hk).1) _ ha hb₀ hN, wi]
        have hg : grow (simM a b₀) (b + 1) = (match firstC (simM a b₀) (grow (simM a b₀) b).1 b 0 b with
          | some c => ((grow (simM a b₀) b).1 ++ [c], (grow (simM a b₀) b).2)
          | none => ((grow (simM a b₀) b).1 ++ [((grow (simM a b₀) b).2 : Int)], (grow (simM a b₀) b).2 + 1)) := rfl
        cases hc : firstC (simM a b₀) (grow (simM a b₀) b).1 b 0 b with
        | none =>
          rw [hc] at hg
          simp only
          rw [porterref17_Meet_p10, cond_t (decide_eq_true (by omega)), cond_t (decide_eq_true (by rw [hgl]; omega)), wm]
          exact hr _ ⟨by simp only; omega, by simp only; omega, by simp only [Int.toNat_natCast, hg], by simp only [Int.toNat_natCast, hg]⟩ (by simp only [Int.toNat_natCast]; omega)
        | some c =>
          rw [hc] at hg
          obtain ⟨j, _, h2, _, h4⟩ := firstC_some b 0 hc
          have h5 := hlt j (by omega)
          simp only
          rw [porterref17_Meet_p10, cond_f (decide_eq_false (by omega)), cond_t (decide_eq_true (by rw [hgl]; omega))]
          exact hr _ ⟨by simp only; omega, by simp only; omega, by simp only [Int.toNat_natCast, hg], by simp only [Int.toNat_natCast, hg]⟩ (by simp only [Int.toNat_natCast]; omega)
      · have e : b = 256 := by omega
        subst e
        rw [cond_f (decide_eq_false (by omega))]) N (([] : List Int), (0 : Int), (0 : Int)) ⟨by simp only; omega, by simp only; omega, rfl, rfl⟩ (by simp only [Int.toNat_zero]; omega)

theorem meet_ref (N : Nat) (a b : List Int) (hN : 300 ≤ N) : porterref17_Meet N a b = some (meetA a b) := by
  rw [porterref17_Meet, porterref17_Meet_p1, porterref17_Meet_p2, refRight_eq N a (by omega), refRight_eq N b (by omega), meetA]
  simp only [Option.bind_some]
  cases ha : rightA a
  · rfl
  · cases hb : rightA b
    · rfl
    · rw [Bool.not_true, cond_f rfl, cond_f rfl, refMeet_grow N a b (right_zero ha).1 (right_zero hb).1 hN]
      rfl

theorem ofRef_eq (N : Nat) (sets : List (List Int)) (hs : ∀ s ∈ sets, SetOk s) (hl : sets.length ≤ 64) (hN : 300 ≤ N) : porterref17_Of N sets = some (ofB sets) := by
  rw [porterref17_Of, refOf_grow N sets hs hl hN, ofB]

/-! the laws -/
theorem ofB_len (sets : List (List Int)) : (ofB sets).length = 256 := grow_len _ _
theorem ofB_right (sets : List (List Int)) : rightA (ofB sets) = true := by
  rw [rightA, ofB_len, ofB, (grow_right _ _).1]; rfl

theorem works17 : porterlaw17_works 400 = some true := by kernel_rfl

theorem all_sets {l : List (List Int)} (h : ∀ s ∈ l, s.length = 4 ∧ ∀ x ∈ s, Wf (.int .u64) x) : ∀ s ∈ l, SetOk s := fun s hs => setOk_of (h s hs)

theorem of_law {l : List (List Int)} (h : ∀ s ∈ l, s.length = 4 ∧ ∀ x ∈ s, Wf (.int .u64) x) : porterlaw17_BlocksOf 400 l = some true := by
  rw [porterlaw17_BlocksOf]
  by_cases hl : 8 < l.length
  · rw [cond_t (decide_eq_true (by omega)), works17]; rfl
  · have hs := all_sets h
    have h2 := right_eq 400 (ofB l) (by omega)
    rw [ofB_right] at h2
    rw [cond_f (decide_eq_false (by omega)), Of_eq 100 l (by omega) hs, Option.bind_some, ofRef_eq 400 l hs (by omega) (by omega), Option.bind_some,
      same_self 400 _ (by rw [ofB_len]; omega) (by rw [ofB_len]; omega), Option.bind_some, cond_t rfl, h2, Option.bind_some, cond_t rfl, works17]
    rfl

theorem tell_law (a b : List Int) (k : Int) : porterlaw17_BlocksTell 400 a b k = some true := by
  rw [porterlaw17_BlocksTell, porterlaw17_BlocksTell_p1, porterlaw17_BlocksTell_p2]
  by_cases ha : 300 < a.length
  · rw [cond_t (decide_eq_true (by omega)), cond_t rfl, works17]; rfl
  · by_cases hb : 300 < b.length
    · rw [cond_f (decide_eq_false (by omega)), cond_t (decide_eq_true (by omega)), works17]; rfl
    · have hm : (meetA a b).length ≤ 256 := by
        rw [meetA]
        cases rightA a && rightA b
        · exact Nat.zero_le _
        · show (grow (simM a b) 256).1.length ≤ 256
          rw [grow_len]; omega
      rw [cond_f (decide_eq_false (by omega)), cond_f (decide_eq_false (by omega)), first_law 400 a b k _ (by omega) (by omega), right_eq 400 a (by omega), refRight_eq 400 a (by omega)]
      simp only [Option.bind_some]
      rw [cond_t (by cases rightA a <;> rfl), count_code 400 a (by omega), count_ref 400 a (by omega) (by omega)]
      simp only [Option.bind_some]
      rw [cond_t (beq_self_eq_true _), first_eq 400 a k (by omega) (by omega)]
      simp only [Option.bind_some]
      rw [cond_t (beq_self_eq_true _), meet_code 400 a b (by omega), meet_ref 400 a b (by omega)]
      simp only [Option.bind_some]
      rw [same_self 400 _ (by omega) (by omega)]
      simp only [Option.bind_some]
      rw [cond_t rfl, works17]
      rfl

theorem ofB_iff (sets : List (List Int)) {i j : Nat} (hi : i < 256) (hj : j < 256) : ((ofB sets).getD i 0 == (ofB sets).getD j 0) = alikeB sets i j := by
  rw [Bool.eq_iff_iff, beq_iff_eq]
  exact grow_iff (alike_refl sets) (alike_symm sets) (alike_trans sets) 256 i j hi hj

theorem meet_of (a b : List (List Int)) : meetA (ofB a) (ofB b) = ofB (a ++ b) := by
  rw [meetA, ofB_right, ofB_right, ofB, ofB, ofB]
  show (grow (simM (ofB a) (ofB b)) 256).1 = _
  rw [grow_congr (g := alikeB (a ++ b)) 256 (fun k i hk hi => by
    rw [simM, ofB_iff a (by omega) hi, ofB_iff b (by omega) hi, alikeB, alikeB, alikeB, List.all_append])]

theorem alike_swap (a b : List (List Int)) : ofB (b ++ a) = ofB (a ++ b) := by
  rw [ofB, ofB, grow_congr (g := alikeB (a ++ b)) 256 (fun k i hk hi => by
    rw [alikeB, alikeB, List.all_append, List.all_append, Bool.and_comm])]

theorem alike_twice (a : List (List Int)) : ofB (a ++ a) = ofB a := by
  rw [ofB, ofB, grow_congr (g := alikeB a) 256 (fun k i hk hi => by
    rw [alikeB, alikeB, List.all_append, Bool.and_self])]

theorem meet_law {a b : List (List Int)} (ha : ∀ s ∈ a, s.length = 4 ∧ ∀ x ∈ s, Wf (.int .u64) x) (hb : ∀ s ∈ b, s.length = 4 ∧ ∀ x ∈ s, Wf (.int .u64) x) :
    porterlaw17_BlocksMeet 400 a b = some true := by
  rw [porterlaw17_BlocksMeet, porterlaw17_BlocksMeet_p1, porterlaw17_BlocksMeet_p2]
  by_cases h1 : 8 < a.length
  · rw [cond_t (decide_eq_true (by omega)), cond_t rfl, works17]; rfl
  · by_cases h2 : 8 < b.length
    · rw [cond_f (decide_eq_false (by omega)), cond_t (decide_eq_true (by omega)), works17]; rfl
    · have hsa := all_sets ha
      have hsb := all_sets hb
      have hss : ∀ s ∈ a ++ b, SetOk s := fun s hs => (List.mem_append.1 hs).elim (hsa s) (hsb s)
      have hm := meet_of a b
      have hm' := meet_of b a
      rw [alike_swap] at hm'
      have hmm := meet_of a a
      rw [alike_twice] at hmm
      rw [cond_f (decide_eq_false (by omega)), cond_f (decide_eq_false (by omega)), Of_eq 100 a (by omega) hsa, Of_eq 100 b (by omega) hsb]
      simp only [Option.bind_some]
      rw [cond_t (decide_eq_true (by omega)), cond_t (decide_eq_true (by simp only [List.nil_append]; omega)), List.nil_append, Of_eq 100 (a ++ b) (by rw [List.length_append]; omega) hss]
      simp only [Option.bind_some]
      have hself := fun s => same_self 400 (ofB s) (by rw [ofB_len]; omega) (by rw [ofB_len]; omega)
      rw [meet_code 400 _ _ (by omega), hm, meet_code 400 _ _ (by omega), hm', meet_code 400 _ _ (by omega), hmm]
      simp only [Option.bind_some]
      rw [hself]
      simp only [Option.bind_some]
      rw [cond_t rfl, hself]
      simp only [Option.bind_some]
      rw [cond_t rfl, works17]
      rfl

end Go.Proofs.YtkpmnnabpiieoaaLg
