/- Layer 4: the laws. -/
import Derived.Test.YtkccmmbomlpgnaaDoorLgHmaT
set_option linter.all false
set_option maxRecDepth 100000
namespace Go.Proofs.YtkccmmbomlpgnaaDoorLg
open Go Go.Lift Go.Proofs.YtkccmmbomlpgnaaDoorPx

theorem nSame_eq (N : Nat) {a b : List (List UInt8)} (ha : a.length ≤ 9223372036854775806) (hN : a.length < N) : porterbase_SameTexts N a b = some (a == b) := by
  simp only [porterbase_SameTexts, porterbase_SameTexts_p1]
  by_cases hl : a.length = b.length
  · rw [cond_f (by simp [hl]), iter_eq (I := fun v => 0 ≤ v ∧ v ≤ ((a.length : Nat) : Int)) (m := fun v => a.length - v.toNat)
      (R := fun v => some (a.drop v.toNat == b.drop v.toNat)) ?_ N 0 ⟨by omega, by omega⟩ (by simpa using hN)]
    · simp
    intro v r ⟨h0, h1⟩ hr
    obtain ⟨i, rfl⟩ := Int.eq_ofNat_of_zero_le h0
    simp only [porterbase_SameTexts_s1, Int.toNat_natCast]
    by_cases hlt : i < a.length
    · have hib : i < b.length := by omega
      rw [cond_t (dec_t (by omega)), cond_t (inR_nat hlt), cond_t (inR_nat hib), drop_cons a [] i hlt, drop_cons b [] i hib]
      by_cases he : a.getD i [] = b.getD i []
      · rw [cond_f (by rw [he]; simp), wrap_succ (by omega), hr _ ⟨by omega, by omega⟩ (by omega), he]
        simp only [Int.toNat_natCast, List.cons_beq_cons, beq_self_eq_true, Bool.true_and]
      · rw [cond_t (by rw [Bool.not_eq_true', beq_eq_false_iff_ne]; exact he)]
        simp only [List.cons_beq_cons]
        rw [beq_eq_false_iff_ne.2 he]; rfl
    · rw [cond_f (dec_f (by omega)), drop_nil' a (by omega), drop_nil' b (by omega)]; rfl
  · rw [cond_t (by simp; omega)]
    have : ¬ a = b := fun e => hl (by rw [e])
    rw [beq_eq_false_iff_ne.2 this]

theorem same_eq (N : Nat) {a b : List UInt8} (ha : a.length ≤ 100000) (hN : a.length < N) : hmac_Same N a b = some (decide (a.length = 32) && (a == b)) := by
  unfold hmac_Same
  by_cases h1 : a.length = 32
  · rw [cond_t (by simp [h1])]
    by_cases h2 : b.length = 32
    · rw [cond_t (by simp [h2]), equal_eq _ (by omega) hN, Option.bind_some, decide_eq_true h1, Bool.true_and]
    · have hne : (a == b) = false := by
        rw [beq_eq_false_iff_ne]; intro e; subst e; exact h2 h1
      rw [cond_f (by rw [beq_eq_false_iff_ne]; omega), hne, Bool.and_false]
  · rw [cond_f (by rw [beq_eq_false_iff_ne]; omega), decide_eq_false h1, Bool.false_and]

theorem frameN (k : Nat) {l : List (List UInt8)} (hl : l.length ≤ 50) (hb : (frameL l).length ≤ 70368744177664) : hmac_Frame (k + 100) l = some (frameL l) :=
  frame_eq (k + 91) l (by omega) (by omega) hb
theorem refFrameN (k : Nat) {l : List (List UInt8)} (hl : l.length ≤ 50) (hb : (frameL l).length ≤ 70368744177664) : porterref04_Frame (k + 100) l = some (frameL l) :=
  refFrame_eq (k + 91) l (by omega) (by omega) hb

theorem frameL_length : ∀ l : List (List UInt8), (frameL l).length = 8 * l.length + l.flatten.length
  | [] => rfl
  | p :: l => by
    rw [frameL_cons, List.length_append, List.length_append, be8_length, frameL_length l, List.flatten_cons, List.length_append, List.length_cons]; omega

theorem parts_eq (k : Nat) {key : List UInt8} {l : List (List UInt8)} (hk : 600 ≤ k) (hl : key.length ≤ 30000) (h1 : l.length ≤ 50) (h2 : (frameL l).length ≤ 29900) :
    hmac_Parts (k + 100) key l = some (tagL (k + 100) key (frameL l)) := by
  unfold hmac_Parts
  rw [frameN k h1 (by omega), Option.bind_some, tag_eq k hk hl h2]; rfl
theorem refParts_eq (k : Nat) {key : List UInt8} {l : List (List UInt8)} (hk : 600 ≤ k) (hl : key.length ≤ 30000) (h1 : l.length ≤ 50) (h2 : (frameL l).length ≤ 29900) :
    porterref04_Parts (k + 100) key l = some (tagL (k + 100) key (frameL l)) := by
  unfold porterref04_Parts
  rw [refFrameN k h1 (by omega), Option.bind_some, refTag_eq k hk hl h2]; rfl

theorem parts_small : ∀ (l : List (List UInt8)) (p : List UInt8), p ∈ l → p.length ≤ l.flatten.length
  | q :: l, p, h => by
    rw [List.flatten_cons, List.length_append]
    rcases List.mem_cons.1 h with rfl | h
    · omega
    · have := parts_small l p h; omega

/-! ## HmacApart -/
noncomputable def bad (N : Nat) (l : List (List UInt8)) (j i : Nat) : Bool := (sumL N (l.getD j []) == sumL N (l.getD i [])) && !(l.getD j [] == l.getD i [])

theorem clash_in {k : Nat} {l sums : List (List UInt8)} {i : Nat} {k0 : Bool → Option Bool} {k1 : Option Bool} (hi : i < l.length) (hk : 600 ≤ k) (hl : l.length ≤ 500) (hs : sums = (l.take (i + 1)).map (sumL (k + 100))) :
    (∃ j, j < i ∧ bad (k + 100) l j i = true) ∧ porterref03_Clash_p2 (k + 100) l sums (i : Int) 0 k0 k1 = k0 true ∨ (∀ j, j < i → bad (k + 100) l j i = false) ∧ porterref03_Clash_p2 (k + 100) l sums (i : Int) 0 k0 k1 = k1 := by
  have hsl : sums.length = i + 1 := by rw [hs, List.length_map, List.length_take]; omega
  have hget : ∀ j, j ≤ i → sums.getD j [] = sumL (k + 100) (l.getD j []) := by
    intro j hj
    rw [hs, List.getD_eq_getElem?_getD, List.getElem?_map, List.getElem?_take, if_pos (by omega), List.getElem?_eq_getElem (by omega), Option.map_some, Option.getD_some, List.getD_eq_getElem?_getD, List.getElem?_eq_getElem (by omega), Option.getD_some]
  have main : ∀ (d a : Nat), a + d = i → ∀ n, d < n → (∃ j, a ≤ j ∧ j < i ∧ bad (k + 100) l j i = true) ∧ iter (fun (v : Int) r => porterref03_Clash_s2 (k + 100) l sums (i : Int) v (fun k => (r k)) k0 k1) n (a : Int) = k0 true ∨
      (∀ j, a ≤ j → j < i → bad (k + 100) l j i = false) ∧ iter (fun (v : Int) r => porterref03_Clash_s2 (k + 100) l sums (i : Int) v (fun k => (r k)) k0 k1) n (a : Int) = k1 := by
    intro d
    induction d with
    | zero =>
      intro a ha n hn
      obtain ⟨n, rfl⟩ : ∃ m, n = m + 1 := ⟨n - 1, by omega⟩
      refine .inr ⟨fun j h1 h2 => by omega, ?_⟩
      show porterref03_Clash_s2 _ _ _ _ _ _ _ _ = _
      unfold porterref03_Clash_s2
      rw [cond_f (dec_f (by omega))]
    | succ d ih =>
      intro a ha n hn
      obtain ⟨n, rfl⟩ : ∃ m, n = m + 1 := ⟨n - 1, by omega⟩
      have hstep : iter (fun (v : Int) r => porterref03_Clash_s2 (k + 100) l sums (i : Int) v (fun k => (r k)) k0 k1) (n + 1) (a : Int) = cond (bad (k + 100) l a i) (k0 true) (iter (fun (v : Int) r => porterref03_Clash_s2 (k + 100) l sums (i : Int) v (fun k => (r k)) k0 k1) n ((a + 1 : Nat) : Int)) := by
        show porterref03_Clash_s2 _ _ _ _ _ _ _ _ = _
        unfold porterref03_Clash_s2 porterref03_Clash_p3 porterref03_Clash_p4
        rw [cond_t (dec_t (by omega)), cond_t (inR_nat (by omega)), Int.toNat_natCast, Int.toNat_natCast, cond_t (dec_t (by omega)), cond_t (inR_nat (by omega)), cond_t (dec_t (by omega)), hget a (by omega), hget i (by omega), cond_t (inR_nat (by omega)), cond_t (inR_nat (by omega)), wrap_succ (by omega)]
        unfold bad
        cases sumL (k + 100) (l.getD a []) == sumL (k + 100) (l.getD i []) <;> rfl
      rw [hstep]
      cases hb : bad (k + 100) l a i with
      | true => exact .inl ⟨⟨a, by omega, by omega, hb⟩, rfl⟩
      | false =>
        rw [cond_false]
        rcases ih (a + 1) (by omega) n (by omega) with ⟨⟨j, h1, h2, h3⟩, h4⟩ | ⟨h1, h2⟩
        · exact .inl ⟨⟨j, by omega, h2, h3⟩, h4⟩
        · refine .inr ⟨fun j g1 g2 => ?_, h2⟩
          by_cases e : j = a
          · rw [e]; exact hb
          · exact h1 j (by omega) g2
  unfold porterref03_Clash_p2
  rcases main i 0 (by omega) (k + 100) (by omega) with ⟨⟨j, h1, h2, h3⟩, h4⟩ | ⟨h1, h2⟩
  · exact .inl ⟨⟨j, h2, h3⟩, h4⟩
  · exact .inr ⟨fun j hj => h1 j (by omega) hj, h2⟩

theorem clash_yes {k : Nat} {l : List (List UInt8)} {i0 j0 : Nat} (hk : 600 ≤ k) (hl : l.length ≤ 500) (hs : ∀ p ∈ l, p.length ≤ 30000) (hi : i0 < l.length) (hj : j0 < i0) (hb : bad (k + 100) l j0 i0 = true) : porterref03_Clash (k + 100) l = some true := by
  unfold porterref03_Clash porterref03_Clash_p1
  refine iter_eq (I := fun (v : List (List UInt8) × Int) => ∃ i : Nat, i ≤ i0 ∧ v = ((l.take i).map (sumL (k + 100)), (i : Int))) (m := fun v => i0 + 1 - v.2.toNat) (R := fun _ => some true) ?_ (k + 100) ([], 0) ⟨0, by omega, by simp⟩ (by dsimp only; omega)
  rintro v r ⟨i, hi2, rfl⟩ hr
  dsimp only at hr ⊢
  unfold porterref03_Clash_s1
  have hlt : i < l.length := by omega
  rw [cond_t (dec_t (by omega)), cond_t (inR_nat hlt), Int.toNat_natCast, refSum_eq k hk (hs _ (getD_mem l [] i hlt)), Option.bind_some, List.length_map, List.length_take, cond_t (dec_t (by omega)), wrap_succ (by omega)]
  have ht : (l.take i).map (sumL (k + 100)) ++ [sumL (k + 100) (l.getD i [])] = (l.take (i + 1)).map (sumL (k + 100)) := by
    rw [take_succ l [] i hlt, List.map_append]; rfl
  rw [ht]
  rcases clash_in (k := k) (k0 := fun x2 => some x2) (k1 := r ((l.take (i + 1)).map (sumL (k + 100)), ((i + 1 : Nat) : Int))) hlt hk hl rfl with ⟨_, h⟩ | ⟨hno, h⟩
  · exact h
  · refine h.trans ?_
    by_cases e : i = i0
    · subst e
      rw [hno j0 hj] at hb; cases hb
    · exact hr _ ⟨i + 1, by omega, rfl⟩ (by dsimp only; omega)

end Go.Proofs.YtkccmmbomlpgnaaDoorLg
