/- Layer 4: the laws. -/
import Derived.Test.YtjeabejfmcmkdaaDoorLgHmaT
set_option linter.all false
set_option maxRecDepth 100000
namespace Go.Proofs.YtjeabejfmcmkdaaDoorLg
open Go Go.Lift Go.Proofs.YtjeabejfmcmkdaaDoorPx

theorem short_eq (N : Nat) {l : List (List UInt8)} {many most : Nat} (hm : many ≤ 1000) (hmo : most ≤ 1000000) (hN : many < N) : porterbase_Short N l (many : Int) (most : Int) = some (decide (l.length ≤ many ∧ l.flatten.length ≤ most)) := by
  simp only [porterbase_Short, porterbase_Short_p1]
  by_cases h : many < l.length
  · rw [cond_t (dec_t (by omega)), decide_eq_false (by omega)]
  rw [cond_f (dec_f (by omega)), iter_eq (I := fun (v : Int × Int) => ∃ (x i : Nat), v = ((x : Int), (i : Int)) ∧ i ≤ l.length ∧ x ≤ most) (m := fun (v : Int × Int) => l.length - v.2.toNat) (R := fun (v : Int × Int) => some (decide ((l.drop v.2.toNat).flatten.length ≤ v.1.toNat))) ?_ N ((most : Int), 0) ⟨most, 0, rfl, by omega, by omega⟩ (by simp; omega)]
  · simp only [Int.toNat_zero, List.drop_zero, Int.toNat_natCast]
    congr 1; rw [Bool.eq_iff_iff, decide_eq_true_eq, decide_eq_true_eq]; omega
  rintro v r ⟨x, i, rfl, hi, hx⟩ hr
  simp only [porterbase_Short_s1, Int.toNat_natCast] at *
  by_cases hlt : i < l.length
  · have hd := drop_cons l [] i hlt
    have hfl : (l.drop i).flatten.length = (l.getD i []).length + (l.drop (i + 1)).flatten.length := by rw [hd, List.flatten_cons, List.length_append]
    rw [cond_t (dec_t (by omega)), cond_t (inR_nat hlt), cond_t (inR_nat hlt)]
    by_cases hover : x < (l.getD i []).length
    · rw [cond_t (dec_t (by omega))]
      exact congrArg some (decide_eq_false (by omega)).symm
    · have hw : IntKind.wrap .i64 ((x : Int) - (((l.getD i []).length : Nat) : Int)) = ((x - (l.getD i []).length : Nat) : Int) := by rw [wrap_in (by unfold I64; omega)]; omega
      rw [cond_f (dec_f (by omega)), hw, wrap_succ (by omega), hr _ ⟨x - (l.getD i []).length, i + 1, rfl, by omega, by omega⟩ (by dsimp only; omega)]
      dsimp only
      rw [Int.toNat_natCast, Int.toNat_natCast]
      congr 1; rw [Bool.eq_iff_iff, decide_eq_true_eq, decide_eq_true_eq]; omega
  · have hfl : (l.drop i).flatten.length = 0 := by rw [drop_nil' l (by omega)]; rfl
    rw [cond_f (dec_f (by omega))]
    exact congrArg some (decide_eq_true (by omega)).symm

theorem nSame_eq (N : Nat) {a b : List (List UInt8)} (ha : a.length ≤ 9223372036854775806) (hN : a.length < N) : porterbase_SameTexts N a b = some (a == b) := by
  simp only [porterbase_SameTexts, porterbase_SameTexts_p1]
  by_cases hl : a.length = b.length
  · rw [cond_f (by simp [hl]), iter_eq (I := fun v => 0 ≤ v ∧ v ≤ ((a.length : Nat) : Int)) (m := fun v => a.length - v.toNat)
      (R := fun v => some (a.drop v.toNat == b.drop v.toNat)) ?_ N 0 ⟨by omega, by omega⟩ (by simpa using hN)]
    · simp
    intro v r ⟨h0, h1⟩ hr
    obtain ⟨i, rfl⟩ := Int.eq_ofNat_of_zero_le h0
    simp only [porterbase_SameTexts_s1, Int.toNat_natCast]
    by_cases hlt : i < a.length
    · have hib : i < b.length := by omega
      rw [cond_t (dec_t (by omega)), cond_t (inR_nat hlt), cond_t (inR_nat hib), drop_cons a [] i hlt, drop_cons b [] i hib]
      by_cases he : a.getD i [] = b.getD i []
      · rw [cond_f (by rw [he]; simp), wrap_succ (by omega), hr _ ⟨by omega, by omega⟩ (by omega), he]
        simp only [Int.toNat_natCast, List.cons_beq_cons, beq_self_eq_true, Bool.true_and]
      · rw [cond_t (by rw [Bool.not_eq_true', beq_eq_false_iff_ne]; exact he)]
        simp only [List.cons_beq_cons]
        rw [beq_eq_false_iff_ne.2 he]; rfl
    · rw [cond_f (dec_f (by omega)), drop_nil' a (by omega), drop_nil' b (by omega)]; rfl
  · rw [cond_t (by simp; omega)]
    have : ¬ a = b := fun e => hl (by rw [e])
    rw [beq_eq_false_iff_ne.2 this]

theorem works4 (k : Nat) : porterlaw04_works (k + 400) = some true := by kernel_rfl

theorem same_eq (N : Nat) {a b : List UInt8} (ha : a.length ≤ 100000) (hN : a.length < N) : hmac_Same N a b = some (decide (a.length = 32) && (a == b)) := by
  unfold hmac_Same
  by_cases h1 : a.length = 32
  · rw [cond_t (by simp [h1])]
    by_cases h2 : b.length = 32
    · rw [cond_t (by simp [h2]), equal_eq _ (by omega) hN, Option.bind_some, decide_eq_true h1, Bool.true_and]
    · have hne : (a == b) = false := by
        rw [beq_eq_false_iff_ne]; intro e; subst e; exact h2 h1
      rw [cond_f (by rw [beq_eq_false_iff_ne]; omega), hne, Bool.and_false]
  · rw [cond_f (by rw [beq_eq_false_iff_ne]; omega), decide_eq_false h1, Bool.false_and]

theorem frameN (k : Nat) {l : List (List UInt8)} (hl : l.length ≤ 50) (hb : (frameL l).length ≤ 70368744177664) : hmac_Frame (k + 100) l = some (frameL l) :=
  frame_eq (k + 91) l (by omega) (by omega) hb
theorem refFrameN (k : Nat) {l : List (List UInt8)} (hl : l.length ≤ 50) (hb : (frameL l).length ≤ 70368744177664) : porterref04_Frame (k + 100) l = some (frameL l) :=
  refFrame_eq (k + 91) l (by omega) (by omega) hb

theorem frameL_length : ∀ l : List (List UInt8), (frameL l).length = 8 * l.length + l.flatten.length
  | [] => rfl
  | p :: l => by
    rw [frameL_cons, List.length_append, List.length_append, be8_length, frameL_length l, List.flatten_cons, List.length_append, List.length_cons]; omega

theorem parts_eq (k : Nat) {key : List UInt8} {l : List (List UInt8)} (hk : 200 ≤ k) (hl : key.length ≤ 8000) (h1 : l.length ≤ 50) (h2 : (frameL l).length ≤ 7900) :
    hmac_Parts (k + 100) key l = some (tagL (k + 100) key (frameL l)) := by
  unfold hmac_Parts
  rw [frameN k h1 (by omega), Option.bind_some, tag_eq k hk hl h2]; rfl
theorem refParts_eq (k : Nat) {key : List UInt8} {l : List (List UInt8)} (hk : 200 ≤ k) (hl : key.length ≤ 8000) (h1 : l.length ≤ 50) (h2 : (frameL l).length ≤ 7900) :
    porterref04_Parts (k + 100) key l = some (tagL (k + 100) key (frameL l)) := by
  unfold porterref04_Parts
  rw [refFrameN k h1 (by omega), Option.bind_some, refTag_eq k hk hl h2]; rfl

theorem hsums_law {k : Nat} {key text : List UInt8} {l : List (List UInt8)} (hk : 400 ≤ k) (hw : porterlaw04_works (k + 100) = some true) : porterlaw04_HmacSums (k + 100) key text l = some true := by
  have hshort := short_eq (k + 100) (l := l) (many := 8) (most := 300) (by omega) (by omega) (by omega)
  have hshort : porterbase_Short (k + 100) l 8 300 = some (decide (l.length ≤ 8 ∧ l.flatten.length ≤ 300)) := hshort
  unfold porterlaw04_HmacSums porterlaw04_HmacSums_p1 porterlaw04_HmacSums_p2
  rw [hshort, hw]
  by_cases h1 : 200 < key.length
  · rw [cond_t (dec_t (by omega))]; rfl
  rw [cond_f (dec_f (by omega))]
  by_cases h2 : 500 < text.length
  · rw [cond_t (dec_t (by omega))]; rfl
  rw [cond_f (dec_f (by omega))]
  by_cases h3 : l.length ≤ 8 ∧ l.flatten.length ≤ 300
  · have hf := frameL_length l
    have ht := tagL_length k (key := key) (text := text) (by omega) (by omega) (by omega)
    rw [decide_eq_true h3, Option.bind_some, Bool.not_true]
    dsimp only
    rw [cond_false, tag_eq k (by omega) (by omega) (by omega), refTag_eq k (by omega) (by omega) (by omega), Option.bind_some, Option.bind_some, beq_self_eq_true, cond_true,
      parts_eq k (by omega) (by omega) (by omega) (by omega), refParts_eq k (by omega) (by omega) (by omega) (by omega), Option.bind_some, Option.bind_some, beq_self_eq_true, cond_true,
      same_eq _ (by omega) (by omega), same_eq _ (by omega) (by omega), Option.bind_some, ht]
    by_cases h4 : key.length = 32
    · rw [cond_t (by simp [h4]), h4]
      simp
    · rw [cond_f (by rw [beq_eq_false_iff_ne]; omega), decide_eq_false h4]
      simp
  · rw [decide_eq_false h3]; rfl

theorem parts_small : ∀ (l : List (List UInt8)) (p : List UInt8), p ∈ l → p.length ≤ l.flatten.length
  | q :: l, p, h => by
    rw [List.flatten_cons, List.length_append]
    rcases List.mem_cons.1 h with rfl | h
    · omega
    · have := parts_small l p h; omega

theorem frames_law {k : Nat} {s : List UInt8} {l : List (List UInt8)} (hk : 1000 ≤ k) (hw : porterlaw04_works (k + 100) = some true) : porterlaw04_HmacFrames (k + 100) l s = some true := by
  have hshort := short_eq (k + 100) (l := l) (many := 12) (most := 400) (by omega) (by omega) (by omega)
  have hshort : porterbase_Short (k + 100) l 12 400 = some (decide (l.length ≤ 12 ∧ l.flatten.length ≤ 400)) := hshort
  unfold porterlaw04_HmacFrames porterlaw04_HmacFrames_p1 porterlaw04_HmacFrames_p2
  rw [hshort, hw, Option.bind_some]
  by_cases h3 : l.length ≤ 12 ∧ l.flatten.length ≤ 400
  · rw [decide_eq_true h3, Bool.not_true, cond_false]
    by_cases h2 : 400 < s.length
    · rw [dec_t (by omega)]; rfl
    rw [dec_f (by omega)]
    dsimp only
    rw [cond_false]
    have hf := frameL_length l
    have hsf : splitL (frameL l) = some l := split_frame l fun p hp => by have := parts_small l p hp; omega
    rw [frameN k (by omega) (by omega), Option.bind_some, split_eq (by omega) (by omega), Option.bind_some, hsf, split_eq (by omega) (by omega), Option.bind_some, refSplit_eq (by omega) (by omega), Option.bind_some, refFrameN k (by omega) (by omega), Option.bind_some, beq_self_eq_true, cond_true]
    show cond true _ _ = _
    rw [cond_true]
    show ((porterbase_SameTexts (k + 100) l l).bind _) = _
    rw [nSame_eq _ (by omega) (by omega), Option.bind_some, beq_self_eq_true, cond_true, beq_self_eq_true, cond_true]
    cases hs : splitL s with
    | none => rw [nSame_eq _ (by simp [splitV]) (by simp [splitV]), Option.bind_some]; rfl
    | some m =>
      have hm := splitL_length s.length s m (Nat.le_refl _) hs
      have hfs := frame_split s.length s m (Nat.le_refl _) (by omega) hs
      have hfr : hmac_Frame (k + 100) m = some s := by
        rw [show k + 100 = (k + 91) + 9 by omega, frame_eq (k + 91) m (by omega) (by omega) (by rw [hfs]; omega), hfs]
      rw [show (splitV (some m)).1 = m from rfl, show (splitV (some m)).2.1 = true from rfl, nSame_eq _ (by omega) (by omega), Option.bind_some, beq_self_eq_true, cond_true, Bool.not_true, cond_false, hfr, Option.bind_some, beq_self_eq_true]
      rfl
  · rw [decide_eq_false h3]; rfl

/-! ## HmacApart -/
noncomputable def bad (N : Nat) (l : List (List UInt8)) (j i : Nat) : Bool := (sumL N (l.getD j []) == sumL N (l.getD i [])) && !(l.getD j [] == l.getD i [])

theorem clash_in {k : Nat} {l sums : List (List UInt8)} {i : Nat} {k0 : Bool → Option Bool} {k1 : Option Bool} (hi : i < l.length) (hl : l.length ≤ 50) (hs : sums = (l.take (i + 1)).map (sumL (k + 100))) :
    (∃ j, j < i ∧ bad (k + 100) l j i = true) ∧ porterref03_Clash_p2 (k + 100) l sums (i : Int) 0 k0 k1 = k0 true ∨ (∀ j, j < i → bad (k + 100) l j i = false) ∧ porterref03_Clash_p2 (k + 100) l sums (i : Int) 0 k0 k1 = k1 := by
  have hsl : sums.length = i + 1 := by rw [hs, List.length_map, List.length_take]; omega
  have hget : ∀ j, j ≤ i → sums.getD j [] = sumL (k + 100) (l.getD j []) := by
    intro j hj
    rw [hs, List.getD_eq_getElem?_getD, List.getElem?_map, List.getElem?_take, if_pos (by omega), List.getElem?_eq_getElem (by omega), Option.map_some, Option.getD_some, List.getD_eq_getElem?_getD, List.getElem?_eq_getElem (by omega), Option.getD_some]
  have main : ∀ (d a : Nat), a + d = i → ∀ n, d < n → (∃ j, a ≤ j ∧ j < i ∧ bad (k + 100) l j i = true) ∧ iter (fun (v : Int) r => porterref03_Clash_s2 (k + 100) l sums (i : Int) v (fun k => (r k)) k0 k1) n (a : Int) = k0 true ∨
      (∀ j, a ≤ j → j < i → bad (k + 100) l j i = false) ∧ iter (fun (v : Int) r => porterref03_Clash_s2 (k + 100) l sums (i : Int) v (fun k => (r k)) k0 k1) n (a : Int) = k1 := by
    intro d
    induction d with
    | zero =>
      intro a ha n hn
      obtain ⟨n, rfl⟩ : ∃ m, n = m + 1 := ⟨n - 1, by omega⟩
      refine .inr ⟨fun j h1 h2 => by omega, ?_⟩
      show porterref03_Clash_s2 _ _ _ _ _ _ _ _ = _
      unfold porterref03_Clash_s2
      rw [cond_f (dec_f (by omega))]
    | succ d ih =>
      intro a ha n hn
      obtain ⟨n, rfl⟩ : ∃ m, n = m + 1 := ⟨n - 1, by omega⟩
      have hstep : iter (fun (v : Int) r => porterref03_Clash_s2 (k + 100) l sums (i : Int) v (fun k => (r k)) k0 k1) (n + 1) (a : Int) = cond (bad (k + 100) l a i) (k0 true) (iter (fun (v : Int) r => porterref03_Clash_s2 (k + 100) l sums (i : Int) v (fun k => (r k)) k0 k1) n ((a + 1 : Nat) : Int)) := by
        show porterref03_Clash_s2 _ _ _ _ _ _ _ _ = _
        unfold porterref03_Clash_s2 porterref03_Clash_p3 porterref03_Clash_p4
        rw [cond_t (dec_t (by omega)), cond_t (inR_nat (by omega)), Int.toNat_natCast, Int.toNat_natCast, cond_t (dec_t (by omega)), cond_t (inR_nat (by omega)), cond_t (dec_t (by omega)), hget a (by omega), hget i (by omega), cond_t (inR_nat (by omega)), cond_t (inR_nat (by omega)), wrap_succ (by omega)]
        unfold bad
        cases sumL (k + 100) (l.getD a []) == sumL (k + 100) (l.getD i []) <;> rfl
      rw [hstep]
      cases hb : bad (k + 100) l a i with
      | true => exact .inl ⟨⟨a, by omega, by omega, hb⟩, rfl⟩
      | false =>
        rw [cond_false]
        rcases ih (a + 1) (by omega) n (by omega) with ⟨⟨j, h1, h2, h3⟩, h4⟩ | ⟨h1, h2⟩
        · exact .inl ⟨⟨j, by omega, h2, h3⟩, h4⟩
        · refine .inr ⟨fun j g1 g2 => ?_, h2⟩
          by_cases e : j = a
          · rw [e]; exact hb
          · exact h1 j (by omega) g2
  unfold porterref03_Clash_p2
  rcases main i 0 (by omega) (k + 100) (by omega) with ⟨⟨j, h1, h2, h3⟩, h4⟩ | ⟨h1, h2⟩
  · exact .inl ⟨⟨j, h2, h3⟩, h4⟩
  · exact .inr ⟨fun j hj => h1 j (by omega) hj, h2⟩

theorem clash_yes {k : Nat} {l : List (List UInt8)} {i0 j0 : Nat} (hk : 200 ≤ k) (hl : l.length ≤ 50) (hs : ∀ p ∈ l, p.length ≤ 8000) (hi : i0 < l.length) (hj : j0 < i0) (hb : bad (k + 100) l j0 i0 = true) : porterref03_Clash (k + 100) l = some true := by
  unfold porterref03_Clash porterref03_Clash_p1
  refine iter_eq (I := fun (v : List (List UInt8) × Int) => ∃ i : Nat, i ≤ i0 ∧ v = ((l.take i).map (sumL (k + 100)), (i : Int))) (m := fun v => i0 + 1 - v.2.toNat) (R := fun _ => some true) ?_ (k + 100) ([], 0) ⟨0, by omega, by simp⟩ (by dsimp only; omega)
  rintro v r ⟨i, hi2, rfl⟩ hr
  dsimp only at hr ⊢
  unfold porterref03_Clash_s1
  have hlt : i < l.length := by omega
  rw [cond_t (dec_t (by omega)), cond_t (inR_nat hlt), Int.toNat_natCast, refSum_eq k hk (hs _ (getD_mem l [] i hlt)), Option.bind_some, List.length_map, List.length_take, cond_t (dec_t (by omega)), wrap_succ (by omega)]
  have ht : (l.take i).map (sumL (k + 100)) ++ [sumL (k + 100) (l.getD i [])] = (l.take (i + 1)).map (sumL (k + 100)) := by
    rw [take_succ l [] i hlt, List.map_append]; rfl
  rw [ht]
  rcases clash_in (k := k) (k0 := fun x2 => some x2) (k1 := r ((l.take (i + 1)).map (sumL (k + 100)), ((i + 1 : Nat) : Int))) hlt hl rfl with ⟨_, h⟩ | ⟨hno, h⟩
  · exact h
  · refine h.trans ?_
    by_cases e : i = i0
    · subst e
      rw [hno j0 hj] at hb; cases hb
    · exact hr _ ⟨i + 1, by omega, rfl⟩ (by dsimp only; omega)

theorem apart_law {k : Nat} {a b : List (List UInt8)} (hk : 400 ≤ k) (ha : a.length = 2) (hb : b.length = 2) (hw : porterlaw04_works (k + 100) = some true) : porterlaw04_HmacApart (k + 100) a b = some true := by
  unfold porterlaw04_HmacApart porterlaw04_HmacApart_p1 porterlaw04_HmacApart_p2
  rw [hw, cond_t (dec_t (by omega)), cond_t (dec_t (by omega)), cond_t (dec_t (by omega)), cond_t (dec_t (by omega))]
  generalize a.getD 0 [] = key, a.getD 1 [] = s, b.getD 0 [] = m, b.getD 1 [] = t
  by_cases h1 : ¬ (key.length = 32)
  · rw [cond_t (by rw [bne_iff_ne]; omega)]; rfl
  replace h1 := Classical.not_not.1 h1
  rw [cond_f (by simp [h1])]
  by_cases h2 : ¬ (m.length = 32)
  · rw [cond_t (by rw [bne_iff_ne]; omega)]; rfl
  replace h2 := Classical.not_not.1 h2
  rw [cond_f (by simp [h2])]
  by_cases h3 : 300 < s.length
  · rw [cond_t (dec_t (by omega))]; rfl
  rw [cond_f (dec_f (by omega))]
  by_cases h4 : 300 < t.length
  · rw [cond_t (dec_t (by omega))]; rfl
  rw [cond_f (dec_f (by omega))]
  have key2 : (key = m → s ≠ t) → ((hmac_Sum (k + 100) key s).bind fun y => (hmac_Sum (k + 100) m t).bind fun y1 => cond (!(y == y1)) ((some true).bind fun y2 => some y2) ((porterref04_Texts (k + 100) key s).bind fun y3 => (porterref04_Texts (k + 100) m t).bind fun y4 => cond (decide (((List.length y3 + List.length y4) * 16) ≤ 70368744177664)) ((porterref03_Clash (k + 100) (y3 ++ y4)).bind fun y5 => some y5) none)) = some true := by
    intro hne
    rw [tag_eq k (by omega) (by omega) (by omega), Option.bind_some, tag_eq k (by omega) (by omega) (by omega), Option.bind_some]
    by_cases he : ¬ (tagL (k + 100) key s = tagL (k + 100) m t)
    · rw [cond_t (by simpa using he)]; rfl
    replace he := Classical.not_not.1 he
    rw [cond_f (by simpa using he), texts_eq k (by omega) (by omega) (by omega), Option.bind_some, texts_eq k (by omega) (by omega) (by omega), Option.bind_some, cond_t (by rfl)]
    have hL : ∀ p ∈ [innerL (k + 100) key s, outerL (k + 100) key s] ++ [innerL (k + 100) m t, outerL (k + 100) m t], p.length ≤ 8000 := by
      have i1 := innerL_length k (key := key) (text := s) (by omega) (by omega)
      have i2 := innerL_length k (key := m) (text := t) (by omega) (by omega)
      have o1 := outerL_length k (key := key) (text := s) (by omega) (by omega) (by omega)
      have o2 := outerL_length k (key := m) (text := t) (by omega) (by omega) (by omega)
      intro p hp
      simp only [List.cons_append, List.nil_append, List.mem_cons, List.not_mem_nil, or_false] at hp
      rcases hp with rfl | rfl | rfl | rfl <;> omega
    suffices hcl : porterref03_Clash (k + 100) ([innerL (k + 100) key s, outerL (k + 100) key s] ++ [innerL (k + 100) m t, outerL (k + 100) m t]) = some true by rw [hcl]; rfl
    by_cases ho : ¬ (outerL (k + 100) key s = outerL (k + 100) m t)
    · refine clash_yes (i0 := 3) (j0 := 1) (by omega) (by simp) hL (by simp) (by omega) ?_
      show ((sumL (k + 100) (outerL (k + 100) key s) == sumL (k + 100) (outerL (k + 100) m t)) && !(outerL (k + 100) key s == outerL (k + 100) m t)) = true
      rw [Bool.and_eq_true]
      exact ⟨beq_iff_eq.2 he, by simpa using ho⟩
    replace ho := Classical.not_not.1 ho
    have hm1 := maskL_length k (key := key) 92 (by omega) (by omega)
    have hm2 := maskL_length k (key := m) 92 (by omega) (by omega)
    obtain ⟨e1, e2⟩ := List.append_inj (show maskL (k + 100) key 92 ++ sumL (k + 100) (innerL (k + 100) key s) = maskL (k + 100) m 92 ++ sumL (k + 100) (innerL (k + 100) m t) from ho) (by rw [hm1, hm2])
    have hkk : ∀ q : List UInt8, q.length = 32 → key64 (k + 100) q = q ++ List.replicate 32 0 := by
      intro q hq
      unfold key64 key1
      rw [if_neg (by omega), hq]
    have k1 := key64_length k (key := key) (by omega) (by omega)
    have k2 := key64_length k (key := m) (by omega) (by omega)
    have e3 : key64 (k + 100) key = key64 (k + 100) m := by
      have := congrArg (fun z => xorL z (List.replicate 64 92)) e1
      unfold maskL at this
      rw [xorL_back, xorL_back, k1, k2, List.length_replicate, List.take_of_length_le (by omega), List.take_of_length_le (by omega)] at this
      exact this
    have e4 : key = m := by
      rw [hkk key h1, hkk m h2] at e3
      exact (List.append_inj e3 (by omega)).1
    have hst := hne e4
    refine clash_yes (i0 := 2) (j0 := 0) (by omega) (by simp) hL (by simp) (by omega) ?_
    show ((sumL (k + 100) (innerL (k + 100) key s) == sumL (k + 100) (innerL (k + 100) m t)) && !(innerL (k + 100) key s == innerL (k + 100) m t)) = true
    rw [Bool.and_eq_true]
    refine ⟨by simpa using e2, ?_⟩
    have : innerL (k + 100) key s ≠ innerL (k + 100) m t := by
      intro e
      subst e4
      exact hst (List.append_cancel_left e)
    simpa using this
  by_cases h5 : key = m
  · by_cases h6 : s = t
    · rw [cond_t (by simpa using h5), show (s == t) = true by simpa using h6]; rfl
    · rw [cond_t (by simpa using h5), show (s == t) = false by simpa using h6]
      exact key2 fun _ => h6
  · rw [cond_f (by simpa using h5)]
    exact key2 fun e => absurd e h5
end Go.Proofs.YtjeabejfmcmkdaaDoorLg
