import Derived.Test.YtkipbccgnekoaaaGreatDoorLgPrPra5
set_option linter.all false
set_option maxRecDepth 100000
namespace Go.Proofs.YtkipbccgnekoaaaGreatDoorLg
open Go Go.Lift Go.Proofs.YtkipbccgnekoaaaGreatDoorPx

theorem same_eq (N : Nat) {a b : List UInt8} (ha : a.length ≤ 100000) (hN : a.length < N) : hmac_Same N a b = some (decide (a.length = 32) && (a == b)) := by
  unfold hmac_Same
  by_cases h1 : a.length = 32
  · rw [cond_t (by simp [h1])]
    by_cases h2 : b.length = 32
    · rw [cond_t (by simp [h2]), equal_eq _ (by omega) hN, Option.bind_some, decide_eq_true h1, Bool.true_and]
    · have hne : (a == b) = false := by
        rw [beq_eq_false_iff_ne]; intro e; subst e; exact h2 h1
      rw [cond_f (by rw [beq_eq_false_iff_ne]; omega), hne, Bool.and_false]
  · rw [cond_f (by rw [beq_eq_false_iff_ne]; omega), decide_eq_false h1, Bool.false_and]

theorem frameN (k : Nat) {l : List (List UInt8)} (hl : l.length ≤ 50) (hb : (frameL l).length ≤ 70368744177664) : hmac_Frame (k + 100) l = some (frameL l) :=
  frame_eq (k + 91) l (by omega) (by omega) hb
theorem refFrameN (k : Nat) {l : List (List UInt8)} (hl : l.length ≤ 50) (hb : (frameL l).length ≤ 70368744177664) : porterref04_Frame (k + 100) l = some (frameL l) :=
  refFrame_eq (k + 91) l (by omega) (by omega) hb

theorem frameL_length : ∀ l : List (List UInt8), (frameL l).length = 8 * l.length + l.flatten.length
  | [] => rfl
  | p :: l => by
    rw [frameL_cons, List.length_append, List.length_append, be8_length, frameL_length l, List.flatten_cons, List.length_append, List.length_cons]; omega

theorem parts_eq (k : Nat) {key : List UInt8} {l : List (List UInt8)} (hk : 600 ≤ k) (hl : key.length ≤ 30000) (h1 : l.length ≤ 50) (h2 : (frameL l).length ≤ 29900) :
    hmac_Parts (k + 100) key l = some (tagL (k + 100) key (frameL l)) := by
  unfold hmac_Parts
  rw [frameN k h1 (by omega), Option.bind_some, tag_eq k hk hl h2]; rfl
theorem refParts_eq (k : Nat) {key : List UInt8} {l : List (List UInt8)} (hk : 600 ≤ k) (hl : key.length ≤ 30000) (h1 : l.length ≤ 50) (h2 : (frameL l).length ≤ 29900) :
    porterref04_Parts (k + 100) key l = some (tagL (k + 100) key (frameL l)) := by
  unfold porterref04_Parts
  rw [refFrameN k h1 (by omega), Option.bind_some, refTag_eq k hk hl h2]; rfl

noncomputable def bad (N : Nat) (l : List (List UInt8)) (j i : Nat) : Bool := (sumL N (l.getD j []) == sumL N (l.getD i [])) && !(l.getD j [] == l.getD i [])

theorem clash_in {k : Nat} {l sums : List (List UInt8)} {i : Nat} {k0 : Bool → Option Bool} {k1 : Option Bool} (hi : i < l.length) (hk : 600 ≤ k) (hl : l.length ≤ 500) (hs : sums = (l.take (i + 1)).map (sumL (k + 100))) :
    (∃ j, j < i ∧ bad (k + 100) l j i = true) ∧ porterref03_Clash_p2 (k + 100) l sums (i : Int) 0 k0 k1 = k0 true ∨ (∀ j, j < i → bad (k + 100) l j i = false) ∧ porterref03_Clash_p2 (k + 100) l sums (i : Int) 0 k0 k1 = k1 := by
  have hsl : sums.length = i + 1 := by rw [hs, List.length_map, List.length_take]; omega
  have hget : ∀ j, j ≤ i → sums.getD j [] = sumL (k + 100) (l.getD j []) := by
    intro j hj
    rw [hs, List.getD_eq_getElem?_getD, List.getElem?_map, List.getElem?_take, if_pos (by omega), List.getElem?_eq_getElem (by omega), Option.map_some, Option.getD_some, List.getD_eq_getElem?_getD, List.getElem?_eq_getElem (by omega), Option.getD_some]
  have main : ∀ (d a : Nat), a + d = i → ∀ n, d < n → (∃ j, a ≤ j ∧ j < i ∧ bad (k + 100) l j i = true) ∧ iter (fun (v : Int) r => porterref03_Clash_s2 (k + 100) l sums (i : Int) v (fun k => (r k)) k0 k1) n (a : Int) = k0 true ∨
      (∀ j, a ≤ j → j < i → bad (k + 100) l j i = false) ∧ iter (fun (v : Int) r => porterref03_Clash_s2 (k + 100) l sums (i : Int) v (fun k => (r k)) k0 k1) n (a : Int) = k1 := by
    intro d
    induction d with
    | zero =>
      intro a ha n hn
      obtain ⟨n, rfl⟩ : ∃ m, n = m + 1 := ⟨n - 1, by omega⟩
      refine .inr ⟨fun j h1 h2 => by omega, ?_⟩
      show porterref03_Clash_s2 _ _ _ _ _ _ _ _ = _
      unfold porterref03_Clash_s2
      rw [cond_f (dec_f (by omega))]
    | succ d ih =>
      intro a ha n hn
      obtain ⟨n, rfl⟩ : ∃ m, n = m + 1 := ⟨n - 1, by omega⟩
      have hstep : iter (fun (v : Int) r => porterref03_Clash_s2 (k + 100) l sums (i : Int) v (fun k => (r k)) k0 k1) (n + 1) (a : Int) = cond (bad (k + 100) l a i) (k0 true) (iter (fun (v : Int) r => porterref03_Clash_s2 (k + 100) l sums (i : Int) v (fun k => (r k)) k0 k1) n ((a + 1 : Nat) : Int)) := by
        show porterref03_Clash_s2 _ _ _ _ _ _ _ _ = _
        unfold porterref03_Clash_s2 porterref03_Clash_p3 porterref03_Clash_p4
        rw [cond_t (dec_t (by omega)), cond_t (inR_nat (by omega)), Int.toNat_natCast, Int.toNat_natCast, cond_t (dec_t (by omega)), cond_t (inR_nat (by omega)), cond_t (dec_t (by omega)), hget a (by omega), hget i (by omega), cond_t (inR_nat (by omega)), cond_t (inR_nat (by omega)), wrap_succ (by omega)]
        unfold bad
        cases sumL (k + 100) (l.getD a []) == sumL (k + 100) (l.getD i []) <;> rfl
      rw [hstep]
      cases hb : bad (k + 100) l a i with
      | true => exact .inl ⟨⟨a, by omega, by omega, hb⟩, rfl⟩
      | false =>
        rw [cond_false]
        rcases ih (a + 1) (by omega) n (by omega) with ⟨⟨j, h1, h2, h3⟩, h4⟩ | ⟨h1, h2⟩
        · exact .inl ⟨⟨j, by omega, h2, h3⟩, h4⟩
        · refine .inr ⟨fun j g1 g2 => ?_, h2⟩
          by_cases e : j = a
          · rw [e]; exact hb
          · exact h1 j (by omega) g2
  unfold porterref03_Clash_p2
  rcases main i 0 (by omega) (k + 100) (by omega) with ⟨⟨j, h1, h2, h3⟩, h4⟩ | ⟨h1, h2⟩
  · exact .inl ⟨⟨j, h2, h3⟩, h4⟩
  · exact .inr ⟨fun j hj => h1 j (by omega) hj, h2⟩

theorem clash_yes {k : Nat} {l : List (List UInt8)} {i0 j0 : Nat} (hk : 600 ≤ k) (hl : l.length ≤ 500) (hs : ∀ p ∈ l, p.length ≤ 30000) (hi : i0 < l.length) (hj : j0 < i0) (hb : bad (k + 100) l j0 i0 = true) : porterref03_Clash (k + 100) l = some true := by
  unfold porterref03_Clash porterref03_Clash_p1
  refine iter_eq (I := fun (v : List (List UInt8) × Int) => ∃ i : Nat, i ≤ i0 ∧ v = ((l.take i).map (sumL (k + 100)), (i : Int))) (m := fun v => i0 + 1 - v.2.toNat) (R := fun _ => some true) ?_ (k + 100) ([], 0) ⟨0, by omega, by simp⟩ (by dsimp only; omega)
  rintro v r ⟨i, hi2, rfl⟩ hr
  dsimp only at hr ⊢
  unfold porterref03_Clash_s1
  have hlt : i < l.length := by omega
  rw [cond_t (dec_t (by omega)), cond_t (inR_nat hlt), Int.toNat_natCast, refSum_eq k hk (hs _ (getD_mem l [] i hlt)), Option.bind_some, List.length_map, List.length_take, cond_t (dec_t (by omega)), wrap_succ (by omega)]
  have ht : (l.take i).map (sumL (k + 100)) ++ [sumL (k + 100) (l.getD i [])] = (l.take (i + 1)).map (sumL (k + 100)) := by
    rw [take_succ l [] i hlt, List.map_append]; rfl
  rw [ht]
  rcases clash_in (k := k) (k0 := fun x2 => some x2) (k1 := r ((l.take (i + 1)).map (sumL (k + 100)), ((i + 1 : Nat) : Int))) hlt hk hl rfl with ⟨_, h⟩ | ⟨hno, h⟩
  · exact h
  · refine h.trans ?_
    by_cases e : i = i0
    · subst e
      rw [hno j0 hj] at hb; cases hb
    · exact hr _ ⟨i + 1, by omega, rfl⟩ (by dsimp only; omega)

end Go.Proofs.YtkipbccgnekoaaaGreatDoorLg

set_option linter.all false
set_option maxRecDepth 100000
namespace Go.Proofs.YtkipbccgnekoaaaGreatDoorLg
open Go Go.Lift Go.Proofs.YtkipbccgnekoaaaGreatDoorPx

theorem number_raw (k : Nat) (n : Int) : stream_number (k + 9) n = some (toStr (([56, 48, 40, 32, 24, 16, 8, 0] : List Int).map fun j => IntKind.wrap .u8 (shrI .i64 n j))) := by kernel_rfl

theorem number_eq (k : Nat) {n : Nat} (hn : n < 9223372036854775808) : stream_number (k + 9) (n : Int) = some (be8 n) := by
  rw [number_raw]
  have h1 : IntKind.wrap .u64 ((n : Nat) : Int) = (n : Int) := by
    simp [IntKind.wrap, IntKind.signed, IntKind.bits]; omega
  have h2 : ∀ j, shrI .i64 (n : Int) j = shrI .u64 (n : Int) j := fun j => rfl
  unfold be8
  simp only [h1, h2]

theorem refNumber_eq (k : Nat) {n : Nat} (hn : n < 9223372036854775808) : porterref05_number (k + 9) (n : Int) = some (be8 n) := by
  have h : porterref05_number (k + 9) (n : Int) = porterref04_long (k + 9) (n : Int) := by kernel_rfl
  rw [h, long_eq k n hn]

def seed (nonce : List UInt8) (i : Nat) : List (List UInt8) := [[115, 116, 114, 101, 97, 109], nonce, be8 i]
noncomputable def blockL (N : Nat) (key nonce : List UInt8) (i : Nat) : List UInt8 := tagL N key (frameL (seed nonce i))

theorem seed_length (nonce : List UInt8) (i : Nat) : (frameL (seed nonce i)).length = 38 + nonce.length := by
  rw [frameL_length]
  simp [seed, be8_length]; omega

theorem blockL_length (k : Nat) {key nonce : List UInt8} (i : Nat) (hk : 600 ≤ k) (hl : key.length ≤ 30000) (hn : nonce.length ≤ 1000) : (blockL (k + 100) key nonce i).length = 32 :=
  tagL_length k hk hl (by rw [seed_length]; omega)

theorem block_eq (k : Nat) {key nonce : List UInt8} {i : Nat} (hk : 600 ≤ k) (hl : key.length ≤ 30000) (hn : nonce.length ≤ 1000) (hi : i < 9223372036854775808) : stream_Block (k + 100) key nonce (i : Int) = some (blockL (k + 100) key nonce i) := by
  unfold stream_Block
  rw [cond_f (dec_f (by omega)), show stream_number (k + 100) (i : Int) = some (be8 i) from number_eq (k + 91) hi, Option.bind_some]
  rw [show hmac_Parts (k + 100) key ([([(115 : UInt8), (116 : UInt8), (114 : UInt8), (101 : UInt8), (97 : UInt8), (109 : UInt8)] : List UInt8), nonce, be8 i] : List (List UInt8)) = _ from parts_eq k (l := seed nonce i) hk hl (by simp [seed]) (by rw [seed_length]; omega)]
  rfl
theorem refBlock_eq (k : Nat) {key nonce : List UInt8} {i : Nat} (hk : 600 ≤ k) (hl : key.length ≤ 30000) (hn : nonce.length ≤ 1000) (hi : i < 9223372036854775808) : porterref05_Block (k + 100) key nonce (i : Int) = some (blockL (k + 100) key nonce i) := by
  unfold porterref05_Block
  rw [cond_f (dec_f (by omega)), show porterref05_number (k + 100) (i : Int) = some (be8 i) from refNumber_eq (k + 91) hi, Option.bind_some]
  rw [show porterref04_Parts (k + 100) key ([([(115 : UInt8), (116 : UInt8), (114 : UInt8), (101 : UInt8), (97 : UInt8), (109 : UInt8)] : List UInt8), nonce, be8 i] : List (List UInt8)) = _ from refParts_eq k (l := seed nonce i) hk hl (by simp [seed]) (by rw [seed_length]; omega)]
  rfl

noncomputable def firstL (N : Nat) (key nonce : List UInt8) (m : Nat) : List UInt8 := ((List.range m).map (blockL N key nonce)).flatten
noncomputable def takeL (N : Nat) (key nonce : List UInt8) (n : Nat) : List UInt8 := (firstL N key nonce ((n + 31) / 32)).take n

theorem firstL_succ (N : Nat) (key nonce : List UInt8) (m : Nat) : firstL N key nonce (m + 1) = firstL N key nonce m ++ blockL N key nonce m := by
  unfold firstL
  rw [List.range_succ, List.map_append, List.flatten_append]; simp

theorem firstL_length (k : Nat) {key nonce : List UInt8} (hk : 600 ≤ k) (hl : key.length ≤ 30000) (hn : nonce.length ≤ 1000) : ∀ m, (firstL (k + 100) key nonce m).length = 32 * m
  | 0 => rfl
  | m + 1 => by rw [firstL_succ, List.length_append, firstL_length k hk hl hn m, blockL_length k m hk hl hn]; omega

theorem takeL_length (k : Nat) {key nonce : List UInt8} (n : Nat) (hk : 600 ≤ k) (hl : key.length ≤ 30000) (hn : nonce.length ≤ 1000) : (takeL (k + 100) key nonce n).length = n := by
  unfold takeL; rw [List.length_take, firstL_length k hk hl hn]; omega

theorem blocks_eq (k : Nat) {key nonce : List UInt8} {n : Nat} (hk : 600 ≤ k) (hl : key.length ≤ 30000) (hn : nonce.length ≤ 1000) (h : n ≤ 4096) : stream_blocks1 (k + 100) (n : Int) key nonce = some ((List.range ((n + 31) / 32)).map fun i => (blockL (k + 100) key nonce i, ())) := by
  have hq : IntKind.wrap .i64 (Int.tdiv (IntKind.wrap .i64 ((IntKind.wrap .i64 ((n : Int) + 32)) - 1)) 32) = (((n + 31) / 32 : Nat) : Int) := by
    rw [wrap_in (x := (n : Int) + 32) (by unfold I64; omega), wrap_in (x := (n : Int) + 32 - 1) (by unfold I64; omega), show (n : Int) + 32 - 1 = ((n + 31 : Nat) : Int) by omega]
    rw [show Int.tdiv ((n + 31 : Nat) : Int) 32 = (((n + 31) / 32 : Nat) : Int) from rfl, wrap_in (by unfold I64; omega)]
  unfold stream_blocks1 stream_blocks1_p1
  rw [hq]
  generalize hm : (n + 31) / 32 = m
  have hm2 : m ≤ 200 := by omega
  have main := iter_eq (step := fun (v : Int) r => stream_blocks1_s1 (k + 100) key nonce (m : Int) v (fun x10 => r x10) (some []) (some [])) (I := fun v => ∃ i : Nat, i ≤ m ∧ v = (i : Int)) (m := fun v => m - v.toNat) (R := fun v => some ((List.range' v.toNat (m - v.toNat)).map fun i => (blockL (k + 100) key nonce i, ()))) ?_ (k + 100) 0 ⟨0, by omega, rfl⟩ (by first | omega | (dsimp only; omega))
  · refine main.trans ?_
    try dsimp only
    rw [show (0 : Int).toNat = 0 from rfl, Nat.sub_zero, List.range_eq_range']
  rintro v r ⟨i, hi, rfl⟩ hr
  try dsimp only
  rw [Int.toNat_natCast] at hr ⊢
  unfold stream_blocks1_s1
  by_cases hlt : i < m
  · rw [cond_t (dec_t (by omega)), block_eq k hk hl hn (by omega), Option.bind_some, wrap_succ (by omega)]
    have h2 := hr ((i + 1 : Nat) : Int) ⟨i + 1, by omega, rfl⟩ (by first | omega | (dsimp only; omega))
    try dsimp only
    rw [h2, comb_some, Int.toNat_natCast, show m - i = (m - (i + 1)) + 1 by omega, List.range'_succ]
    rfl
  · rw [cond_f (dec_f (by omega)), show m - i = 0 by omega]; rfl

theorem foldB {N : Nat} (ys : List (List UInt8 × Unit)) (k0 : Unit × (List Int × Unit) → Option (List UInt8)) (h : ((ys.map (·.1)).flatten).length ≤ 70368744177664) :
    iterL (fun (y : (List UInt8 × Unit)) (v : (Unit × ((List Int) × Unit))) r => (strings_Builder_WriteString N v y.1).bind fun y1 => r y1.2.1) k0 ys ((), ([], ())) = k0 ((), (ofStr (ys.map (·.1)).flatten, ())) := by
  rw [iterL_ok (fun (v : Unit × (List Int × Unit)) (ys : List (List UInt8 × Unit)) => v.2.1.length + ((ys.map (·.1)).flatten).length ≤ 70368744177664) (fun v y => ((), (v.2.1 ++ ofStr y.1, ()))) (by
    rintro y ys ⟨u, xs, u'⟩ r hI
    cases u; cases u'
    simp only [List.map_cons, List.flatten_cons, List.length_append] at hI
    refine ⟨?_, by simp only [List.length_append, Go.Proofs.YtkipbccgnekoaaaGreatDoorPx.ofStr_length]; omega⟩
    unfold strings_Builder_WriteString
    rw [cond_t (decide_eq_true (by rw [Go.Proofs.YtkipbccgnekoaaaGreatDoorPx.ofStr_length]; dsimp only; omega)), Option.bind_some]) _ _ (by simpa using h)]
  have hf := fold_out ys []
  have h0 : ofStr ([] : List UInt8) = [] := rfl
  rw [h0] at hf
  rw [hf]; rfl

theorem str_eq (s : List UInt8) (h : s.length ≤ 70368744177664) : str_F (((), (ofStr s, ())), ()) = some (s, (((), ((), ())), ())) := by
  unfold str_F
  dsimp only
  rw [cond_t (by
    rw [Bool.and_eq_true]
    refine ⟨okB_ofStr _, decide_eq_true ?_⟩
    rw [Go.Proofs.YtkipbccgnekoaaaGreatDoorPx.ofStr_length]
    exact Nat.le_trans h (by decide))]
  rw [Go.Proofs.YtkipbccgnekoaaaGreatDoorPx.toStr_ofStr]

theorem take_eq (k : Nat) {key nonce : List UInt8} {n : Nat} (hk : 600 ≤ k) (hl : key.length ≤ 30000) (hn : nonce.length ≤ 1000) (h : n ≤ 4096) : stream_Take (k + 100) key nonce (n : Int) = some (takeL (k + 100) key nonce n) := by
  unfold stream_Take
  by_cases h0 : n < 1
  · rw [cond_t (dec_t (by omega)), show n = 0 by omega]; rfl
  rw [cond_f (dec_f (by omega)), if_neg (by omega)]
  unfold stream_Take_p1 stream_Take_fit1 stream_Take_s1
  rw [blocks_eq k hk hl hn h, Option.bind_some]
  have hfl := firstL_length k (key := key) (nonce := nonce) hk hl hn ((n + 31) / 32)
  have hmap : ((List.range ((n + 31) / 32)).map fun i => (blockL (k + 100) key nonce i, ())).map (·.1) = (List.range ((n + 31) / 32)).map (blockL (k + 100) key nonce) := by
    rw [List.map_map]; rfl
  unfold firstL at hfl
  rw [foldB (N := k + 100) _ _ (by rw [hmap, hfl]; omega), hmap]
  dsimp only
  rw [str_eq _ (by rw [hfl]; omega), Option.bind_some]
  rw [cond_t (dec_t (by rw [hfl]; omega)), Int.toNat_natCast, cut_take]
  rfl

theorem mix_eq (k : Nat) {key nonce text : List UInt8} (hk : 600 ≤ k) (hl : key.length ≤ 30000) (hn : nonce.length ≤ 1000) (h : text.length ≤ 4096) (hkt : text.length < k) : stream_Mix (k + 100) key nonce text = some (xorL text (takeL (k + 100) key nonce text.length)) := by
  unfold stream_Mix
  rw [cond_f (dec_f (by omega)), take_eq k hk hl hn h, Option.bind_some, xor_eq _ (by omega) (by omega)]; rfl

theorem refTake_eq (k : Nat) {key nonce : List UInt8} {n : Nat} (hk : 600 ≤ k) (hl : key.length ≤ 30000) (hn : nonce.length ≤ 1000) (h : n ≤ 4096) : porterref05_Take (k + 100) key nonce (n : Int) = some (takeL (k + 100) key nonce n) := by
  unfold porterref05_Take porterref05_Take_p1
  rw [cond_f (dec_f (by omega))]
  dsimp only
  unfold porterref05_Take_p2
  have hfl := firstL_length k (key := key) (nonce := nonce) hk hl hn
  rw [iter_eq (I := fun (v : List UInt8 × Int) => ∃ i : Nat, i ≤ (n + 31) / 32 ∧ v = (firstL (k + 100) key nonce i, (i : Int))) (m := fun v => 200 - v.2.toNat) (R := fun _ => some (takeL (k + 100) key nonce n)) ?_ (k + 100) ([], 0) ⟨0, by omega, rfl⟩ (by dsimp only; omega)]
  rintro v r ⟨i, hi, rfl⟩ hr
  dsimp only at hr ⊢
  unfold porterref05_Take_s2
  by_cases hlt : 32 * i < n
  · rw [cond_t (dec_t (by rw [hfl]; omega)), refBlock_eq k hk hl hn (by omega), Option.bind_some, cond_t (dec_t (by rw [hfl, blockL_length k i hk hl hn]; omega)), wrap_succ (by omega), ← firstL_succ]
    exact hr _ ⟨i + 1, by omega, rfl⟩ (by dsimp only; omega)
  · rw [cond_f (dec_f (by rw [hfl]; omega))]
    have : i = (n + 31) / 32 := by omega
    dsimp only
    by_cases h0 : n < 1
    · rw [cond_t (dec_t (by omega)), show n = 0 by omega]; rfl
    · rw [cond_f (dec_f (by omega)), cond_t (dec_t (by rw [hfl]; omega)), Int.toNat_natCast, cut_take, this]; rfl

theorem refMix_eq (k : Nat) {key nonce text : List UInt8} (hk : 600 ≤ k) (hl : key.length ≤ 30000) (hn : nonce.length ≤ 1000) (h : text.length ≤ 4096) (hkt : text.length < k) : porterref05_Mix (k + 100) key nonce text = some (xorL text (takeL (k + 100) key nonce text.length)) := by
  unfold porterref05_Mix
  rw [cond_f (dec_f (by omega)), refTake_eq k hk hl hn h, Option.bind_some, refXor_eq _ (by omega) (by omega)]; rfl


end Go.Proofs.YtkipbccgnekoaaaGreatDoorLg

set_option linter.all false
set_option maxRecDepth 100000
namespace Go.Proofs.YtkipbccgnekoaaaGreatDoorLg
open Go Go.Lift Go.Proofs.YtkipbccgnekoaaaGreatDoorPx

theorem tag_apart (k : Nat) {a b s t : List UInt8} (hk : 600 ≤ k) (ha : a.length = 32) (hb : b.length = 32) (hs : s.length ≤ 29900) (ht : t.length ≤ 29900) (h : tagL (k + 100) a s = tagL (k + 100) b t) :
    (outerL (k + 100) a s ≠ outerL (k + 100) b t ∧ sumL (k + 100) (outerL (k + 100) a s) = sumL (k + 100) (outerL (k + 100) b t)) ∨
    (a = b ∧ ((innerL (k + 100) a s ≠ innerL (k + 100) b t ∧ sumL (k + 100) (innerL (k + 100) a s) = sumL (k + 100) (innerL (k + 100) b t)) ∨ s = t)) := by
  by_cases ho : outerL (k + 100) a s = outerL (k + 100) b t
  · right
    have hm1 := maskL_length k (key := a) 92 hk (by omega)
    have hm2 := maskL_length k (key := b) 92 hk (by omega)
    obtain ⟨e1, e2⟩ := List.append_inj (show maskL (k + 100) a 92 ++ sumL (k + 100) (innerL (k + 100) a s) = maskL (k + 100) b 92 ++ sumL (k + 100) (innerL (k + 100) b t) from ho) (by rw [hm1, hm2])
    have hkk : ∀ q : List UInt8, q.length = 32 → key64 (k + 100) q = q ++ List.replicate 32 0 := by
      intro q hq
      unfold key64 key1
      rw [if_neg (by omega), hq]
    have k1 := key64_length k (key := a) hk (by omega)
    have k2 := key64_length k (key := b) hk (by omega)
    have e3 : key64 (k + 100) a = key64 (k + 100) b := by
      have := congrArg (fun z => xorL z (List.replicate 64 92)) e1
      unfold maskL at this
      rw [xorL_back, xorL_back, k1, k2, List.length_replicate, List.take_of_length_le (by omega), List.take_of_length_le (by omega)] at this
      exact this
    have e4 : a = b := by
      rw [hkk a ha, hkk b hb] at e3
      exact (List.append_inj e3 (by omega)).1
    refine ⟨e4, ?_⟩
    by_cases hi : innerL (k + 100) a s = innerL (k + 100) b t
    · right
      subst e4
      exact List.append_cancel_left hi
    · exact .inl ⟨hi, e2⟩
  · exact .inl ⟨ho, h⟩

theorem clash_mem {k : Nat} {l : List (List UInt8)} {p q : List UInt8} (hk : 600 ≤ k) (hl : l.length ≤ 500) (hs : ∀ p ∈ l, p.length ≤ 30000) (hp : p ∈ l) (hq : q ∈ l) (hne : p ≠ q) (he : sumL (k + 100) p = sumL (k + 100) q) : porterref03_Clash (k + 100) l = some true := by
  obtain ⟨i, hi, rfl⟩ := List.mem_iff_getElem.1 hp
  obtain ⟨j, hj, rfl⟩ := List.mem_iff_getElem.1 hq
  have gi : l.getD i [] = l[i] := by simp [List.getD, hi]
  have gj : l.getD j [] = l[j] := by simp [List.getD, hj]
  rcases Nat.lt_trichotomy i j with h | h | h
  · refine clash_yes hk hl hs hj h ?_
    unfold bad
    rw [gi, gj, Bool.and_eq_true]
    exact ⟨beq_iff_eq.2 he, by simpa using hne⟩
  · subst h; exact absurd rfl hne
  · refine clash_yes hk hl hs hi h ?_
    unfold bad
    rw [gi, gj, Bool.and_eq_true]
    exact ⟨beq_iff_eq.2 he.symm, by simpa using hne.symm⟩

noncomputable def textsL (N : Nat) (key s : List UInt8) : List (List UInt8) := [innerL N key s, outerL N key s]
theorem inner_mem (N : Nat) (key s : List UInt8) : innerL N key s ∈ textsL N key s := List.mem_cons_self
theorem outer_mem (N : Nat) (key s : List UInt8) : outerL N key s ∈ textsL N key s := List.mem_cons_of_mem _ List.mem_cons_self
theorem two_mem {P : List UInt8 → Prop} {a b : List UInt8} (ha : P a) (hb : P b) : ∀ p ∈ [a, b], P p := by
  intro p hp
  rcases List.mem_cons.1 hp with rfl | hp
  · exact ha
  · rw [List.mem_singleton.1 hp]; exact hb
theorem textsL_small (k : Nat) {t u : List UInt8} (hk : 600 ≤ k) (ht : t.length ≤ 30000) (hu : u.length ≤ 29000) : ∀ p ∈ textsL (k + 100) t u, p.length ≤ 30000 := by
  have a1 := innerL_length k (key := t) (text := u) hk ht
  have a2 := outerL_length k (key := t) (text := u) hk ht (by omega)
  exact two_mem (P := fun p => p.length ≤ 30000) (by omega) (by omega)

noncomputable def hideK (N : Nat) (key : List UInt8) : List UInt8 := tagL N key (frameL [[104, 105, 100, 101]])
noncomputable def tagK (N : Nat) (key : List UInt8) : List UInt8 := tagL N key (frameL [[116, 97, 103]])
noncomputable def boxTag (N : Nat) (key body : List UInt8) : List UInt8 := tagL N (tagK N key) body
noncomputable def hidden (N : Nat) (key nonce text : List UInt8) : List UInt8 := xorL text (takeL N (hideK N key) nonce text.length)
noncomputable def bodyL (N : Nat) (key nonce text : List UInt8) : List UInt8 := nonce ++ hidden N key nonce text
noncomputable def sealL (N : Nat) (key nonce text : List UInt8) : List UInt8 := bodyL N key nonce text ++ boxTag N key (bodyL N key nonce text)

theorem hideFrame : (frameL [[104, 105, 100, 101]]).length = 12 := by rw [frameL_length]; rfl
theorem tagFrame : (frameL [[116, 97, 103]]).length = 11 := by rw [frameL_length]; rfl

theorem hideK_length (k : Nat) {key : List UInt8} (hk : 600 ≤ k) (hl : key.length ≤ 30000) : (hideK (k + 100) key).length = 32 := tagL_length k hk hl (by rw [hideFrame]; omega)
theorem tagK_length (k : Nat) {key : List UInt8} (hk : 600 ≤ k) (hl : key.length ≤ 30000) : (tagK (k + 100) key).length = 32 := tagL_length k hk hl (by rw [tagFrame]; omega)
theorem boxTag_length (k : Nat) {key body : List UInt8} (hk : 600 ≤ k) (hl : key.length ≤ 30000) (hb : body.length ≤ 29900) : (boxTag (k + 100) key body).length = 32 := tagL_length k hk (by rw [tagK_length k hk hl]; omega) hb
theorem hidden_length (k : Nat) {key nonce text : List UInt8} (hk : 600 ≤ k) (hl : key.length ≤ 30000) (hn : nonce.length ≤ 1000) : (hidden (k + 100) key nonce text).length = text.length := by
  unfold hidden; rw [xorL_length, takeL_length k _ hk (by rw [hideK_length k hk hl]; omega) hn, Nat.min_self]
theorem hidden_back (k : Nat) {key nonce text : List UInt8} (hk : 600 ≤ k) (hl : key.length ≤ 30000) (hn : nonce.length ≤ 1000) : hidden (k + 100) key nonce (hidden (k + 100) key nonce text) = text := by
  have h := hidden_length k (text := text) hk hl hn
  have ht := takeL_length k (key := hideK (k + 100) key) (nonce := nonce) text.length hk (by rw [hideK_length k hk hl]; omega) hn
  show xorL (hidden (k + 100) key nonce text) (takeL (k + 100) (hideK (k + 100) key) nonce (hidden (k + 100) key nonce text).length) = text
  rw [h]
  unfold hidden
  rw [xorL_back, ht, Nat.min_self, List.take_length]
theorem bodyL_length (k : Nat) {key nonce text : List UInt8} (hk : 600 ≤ k) (hl : key.length ≤ 30000) (hn : nonce.length = 16) : (bodyL (k + 100) key nonce text).length = 16 + text.length := by
  unfold bodyL; rw [List.length_append, hidden_length k hk hl (by omega), hn]
theorem hideKey_eq (k : Nat) {key : List UInt8} (hk : 600 ≤ k) (hl : key.length ≤ 30000) : box_hideKey (k + 100) key = some (hideK (k + 100) key) := by
  unfold box_hideKey
  rw [parts_eq k hk hl (by simp) (by rw [hideFrame]; omega)]; rfl
theorem boxTag_eq (k : Nat) {key body : List UInt8} (hk : 600 ≤ k) (hl : key.length ≤ 30000) (hb : body.length ≤ 29900) : box_tag (k + 100) key body = some (boxTag (k + 100) key body) := by
  unfold box_tag
  rw [parts_eq k hk hl (by simp) (by rw [tagFrame]; omega), Option.bind_some, tag_eq k hk (by have := tagK_length k hk hl; unfold tagK at this; rw [this]; omega) hb]; rfl

theorem refSeal_eq (k : Nat) {key nonce text : List UInt8} (hk : 4400 ≤ k) (hl : key.length ≤ 30000) (hn : nonce.length = 16) (ht : text.length ≤ 4096) : porterref06_Seal (k + 100) key nonce text = some (sealL (k + 100) key nonce text, 0, ()) := by
  have h1 := hidden_length k (key := key) (nonce := nonce) (text := text) (by omega) hl (by omega)
  have h2 := bodyL_length k (key := key) (nonce := nonce) (text := text) (by omega) hl hn
  have h3 := boxTag_length k (key := key) (body := bodyL (k + 100) key nonce text) (by omega) hl (by omega)
  have h4 := tagK_length k (key := key) (by omega) hl
  unfold porterref06_Seal
  rw [cond_f (by simp [hn]), cond_f (dec_f (by omega)), refParts_eq k (by omega) hl (by simp) (by rw [hideFrame]; omega), Option.bind_some]
  show ((porterref05_Mix (k + 100) (hideK (k + 100) key) nonce text).bind _) = _
  rw [refMix_eq k (by omega) (by rw [hideK_length k (by omega) hl]; omega) (by omega) ht (by omega), Option.bind_some, refParts_eq k (by omega) hl (by simp) (by rw [tagFrame]; omega), Option.bind_some]
  show cond (decide (nonce.length + (hidden (k + 100) key nonce text).length ≤ 9223372036854775807)) ((porterref04_Sum (k + 100) (tagK (k + 100) key) (bodyL (k + 100) key nonce text)).bind fun y2 => cond (decide ((bodyL (k + 100) key nonce text).length + y2.length ≤ 9223372036854775807)) (some ((bodyL (k + 100) key nonce text) ++ y2, ((0 : Int), ()))) none) none = _
  rw [cond_t (dec_t (by omega)), refTag_eq k (by omega) (by omega) (by omega), Option.bind_some]
  show cond (decide ((bodyL (k + 100) key nonce text).length + (boxTag (k + 100) key (bodyL (k + 100) key nonce text)).length ≤ 9223372036854775807)) _ _ = _
  rw [cond_t (dec_t (by omega))]
  rfl

noncomputable def fits (N : Nat) (key s : List UInt8) : Bool := s.drop (s.length - 32) == boxTag N key (s.take (s.length - 32))
noncomputable def openT (N : Nat) (key s : List UInt8) : List UInt8 := hidden N key (s.take 16) ((s.take (s.length - 32)).drop 16)

theorem wlen {s : List UInt8} (h : 48 ≤ s.length) (h2 : s.length ≤ 5000) : IntKind.wrap .i64 ((s.length : Int) - 32) = ((s.length - 32 : Nat) : Int) := by
  rw [wrap_in (by unfold I64; omega)]; omega

theorem check_eq (k : Nat) {key s : List UInt8} (hk : 4400 ≤ k) (hl : key.length ≤ 30000) (h1 : 48 ≤ s.length) (h2 : s.length ≤ 4144) : box_check (k + 100) key s = some (cond (fits (k + 100) key s) 0 8) := by
  have hd : (s.drop (s.length - 32)).length = 32 := by rw [List.length_drop]; omega
  unfold box_check
  rw [cond_f (dec_f (by omega)), cond_f (dec_f (by omega)), wlen h1 (by omega), cond_t (dec_t (by omega)), cond_t (dec_t (by omega)), Int.toNat_natCast, cut_take, boxTag_eq k (by omega) hl (by rw [List.length_take]; omega), Option.bind_some, cut_all, same_eq _ (by omega) (by omega), Option.bind_some, hd]
  show cond (!(decide ((32 : Nat) = 32) && fits (k + 100) key s)) (some 8) (some 0) = _
  cases fits (k + 100) key s <;> rfl

theorem open_eq (k : Nat) {key s : List UInt8} (hk : 4400 ≤ k) (hl : key.length ≤ 30000) (h1 : 48 ≤ s.length) (h2 : s.length ≤ 4144) : box_Open (k + 100) key s = some (cond (fits (k + 100) key s) (openT (k + 100) key s, 0, ()) ([], 8, ())) := by
  unfold box_Open
  rw [check_eq k hk hl h1 (by omega), Option.bind_some]
  cases hf : fits (k + 100) key s with
  | false => rfl
  | true =>
    have hm : (cut s 16 (s.length - 32)).length ≤ 4096 := by unfold cut; rw [List.length_drop, List.length_take]; omega
    unfold box_Open1
    rw [show cond true (0 : Int) 8 = 0 from rfl, cond_t (by rfl), hideKey_eq k (by omega) hl, Option.bind_some]
    have hn : box_Nonce (k + 100) s = some (s.take 16) := by
      unfold box_Nonce
      rw [cond_f (dec_f (by omega)), cond_t (dec_t (by omega)), cut_take]
    rw [hn, Option.bind_some, wlen h1 (by omega), cond_t (dec_t (by omega)), cond_t (dec_t (by omega)), Int.toNat_natCast, mix_eq k (by omega) (by rw [hideK_length k (by omega) hl]; omega) (by rw [List.length_take]; omega) hm (by omega), Option.bind_some, Option.bind_some]
    rfl

theorem open_short (N : Nat) {key s : List UInt8} (h1 : s.length < 48) : box_Open N key s = some ([], 1, ()) ∧ porterref06_Open N key s = some ([], 1, ()) := by
  have e : decide ((((List.length s) : Nat) : Int) < (48 : Int)) = true := dec_t (by omega)
  unfold box_Open box_check porterref06_Open
  simp only [e, cond_true]
  exact ⟨rfl, trivial⟩
theorem open_long (N : Nat) {key s : List UInt8} (h1 : 4144 < s.length) : box_Open N key s = some ([], 3, ()) ∧ porterref06_Open N key s = some ([], 3, ()) := by
  have e : decide ((((List.length s) : Nat) : Int) < (48 : Int)) = false := dec_f (by omega)
  have e2 : decide ((4144 : Int) < (((List.length s) : Nat) : Int)) = true := dec_t (by omega)
  unfold box_Open box_check porterref06_Open
  simp only [e, e2, cond_true, cond_false]
  exact ⟨rfl, trivial⟩

theorem parts3 {s : List UInt8} (h : 48 ≤ s.length) : s.take 16 ++ (s.take (s.length - 32)).drop 16 = s.take (s.length - 32) := by
  have : s.take 16 = (s.take (s.length - 32)).take 16 := by rw [List.take_take, Nat.min_eq_left (by omega)]
  rw [this, List.take_append_drop]

theorem again (k : Nat) {key s : List UInt8} (hk : 4400 ≤ k) (hl : key.length ≤ 30000) (h1 : 48 ≤ s.length) (h2 : s.length ≤ 4144) : sealL (k + 100) key (s.take 16) (openT (k + 100) key s) = s.take (s.length - 32) ++ boxTag (k + 100) key (s.take (s.length - 32)) := by
  have hb : bodyL (k + 100) key (s.take 16) (openT (k + 100) key s) = s.take (s.length - 32) := by
    unfold bodyL openT
    rw [hidden_back k (by omega) hl (by rw [List.length_take]; omega), parts3 h1]
  unfold sealL
  rw [hb]

theorem again_fits (k : Nat) {key s : List UInt8} (hk : 4400 ≤ k) (hl : key.length ≤ 30000) (h1 : 48 ≤ s.length) (h2 : s.length ≤ 4144) : (sealL (k + 100) key (s.take 16) (openT (k + 100) key s) == s) = fits (k + 100) key s := by
  rw [again k hk hl h1 h2, Bool.eq_iff_iff, beq_iff_eq]
  unfold fits
  rw [beq_iff_eq]
  constructor
  · intro h
    have h3 : s.take (s.length - 32) ++ boxTag (k + 100) key (s.take (s.length - 32)) = s.take (s.length - 32) ++ s.drop (s.length - 32) := by rw [h, List.take_append_drop]
    exact (List.append_cancel_left h3).symm
  · intro h; rw [← h, List.take_append_drop]

theorem openT_length (k : Nat) {key s : List UInt8} (hk : 600 ≤ k) (hl : key.length ≤ 30000) (h1 : 48 ≤ s.length) : (openT (k + 100) key s).length = s.length - 48 := by
  unfold openT
  rw [hidden_length k hk hl (by rw [List.length_take]; omega), List.length_drop, List.length_take]; omega

theorem refOpen_eq (k : Nat) {key s : List UInt8} (hk : 4400 ≤ k) (hl : key.length ≤ 30000) (h1 : 48 ≤ s.length) (h2 : s.length ≤ 4144) : porterref06_Open (k + 100) key s = some (cond (fits (k + 100) key s) (openT (k + 100) key s, 0, ()) ([], 8, ())) := by
  have hm : (cut s 16 (s.length - 32)).length ≤ 4096 := by unfold cut; rw [List.length_drop, List.length_take]; omega
  have ho := openT_length k (key := key) (s := s) (by omega) hl h1
  have h16 : (s.take 16).length = 16 := by rw [List.length_take]; omega
  unfold porterref06_Open
  rw [cond_f (dec_f (by omega)), cond_f (dec_f (by omega)), refParts_eq k (by omega) hl (by simp) (by rw [hideFrame]; omega), Option.bind_some, wlen h1 (by omega), cond_t (dec_t (by omega)), cond_t (dec_t (by omega)), cond_t (dec_t (by omega)), Int.toNat_natCast, cut_take s 16]
  show ((porterref05_Mix (k + 100) (hideK (k + 100) key) (s.take 16) (cut s 16 (s.length - 32))).bind _) = _
  rw [refMix_eq k (by omega) (by rw [hideK_length k (by omega) hl]; omega) (by omega) hm (by omega), Option.bind_some, cond_t (dec_t (by omega))]
  show ((porterref06_Seal (k + 100) key (s.take 16) (openT (k + 100) key s)).bind fun y2 => cond (!(y2.1 == s)) (some (([] : List UInt8), ((8 : Int), ()))) (some (openT (k + 100) key s, ((0 : Int), ())))) = _
  rw [refSeal_eq k hk hl h16 (by omega), Option.bind_some]
  show cond (!(sealL (k + 100) key (s.take 16) (openT (k + 100) key s) == s)) _ _ = _
  rw [again_fits k hk hl h1 h2]
  cases fits (k + 100) key s <;> rfl


end Go.Proofs.YtkipbccgnekoaaaGreatDoorLg

set_option linter.all false
set_option maxRecDepth 100000
namespace Go.Proofs.YtkipbccgnekoaaaGreatDoorLg
open Go Go.Lift Go.Proofs.YtkipbccgnekoaaaGreatDoorPx

abbrev Lk : Type := List UInt8 × List UInt8 × Unit
abbrev Tk : Type := List UInt8 × List Lk × List UInt8 × Unit

def partsOf (l : Lk) : List (List UInt8) := cond (l.2.1 == ([] : List UInt8)) [[102, 105, 114, 115, 116], l.1] [[116, 104, 105, 114, 100], l.2.1, l.1]
def rootParts (id : List UInt8) : List (List UInt8) := [[114, 111, 111, 116], id]
noncomputable def nextT (N : Nat) (t : List UInt8) (l : Lk) : List UInt8 := tagL N t (frameL (partsOf l))
noncomputable def rootT (N : Nat) (key id : List UInt8) : List UInt8 := tagL N key (frameL (rootParts id))
noncomputable def lastT (N : Nat) (t : List UInt8) (ls : List Lk) : List UInt8 := ls.foldl (nextT N) t
noncomputable def tagsT (N : Nat) : List UInt8 → List Lk → List (List UInt8)
  | t, [] => [t]
  | t, l :: ls => t :: tagsT N (nextT N t l) ls

def small (l : Lk) : Prop := l.1.length ≤ 4200 ∧ l.2.1.length ≤ 4200

theorem parts_length {l : Lk} (h : small l) : (frameL (partsOf l)).length ≤ 8500 ∧ (partsOf l).length ≤ 3 := by
  unfold small at h
  unfold partsOf
  cases l.2.1 == ([] : List UInt8) with
  | true => rw [cond_true, frameL_length]; simp; omega
  | false => rw [cond_false, frameL_length]; simp; omega

theorem root_length {id : List UInt8} : (frameL (rootParts id)).length = 20 + id.length := by
  rw [frameL_length]; simp [rootParts]; omega

theorem tagsT_length (N : Nat) : ∀ (ls : List Lk) (t : List UInt8), (tagsT N t ls).length = ls.length + 1
  | [], t => rfl
  | l :: ls, t => by rw [tagsT, List.length_cons, tagsT_length N ls, List.length_cons]

theorem tagsT_last (N : Nat) : ∀ (ls : List Lk) (t : List UInt8), (tagsT N t ls).getD ls.length [] = lastT N t ls
  | [], t => rfl
  | l :: ls, t => by
    show (tagsT N (nextT N t l) ls).getD ls.length [] = _
    rw [tagsT_last N ls]; rfl

theorem nextT_length (k : Nat) {t : List UInt8} {l : Lk} (hk : 600 ≤ k) (ht : t.length ≤ 30000) (hl : small l) : (nextT (k + 100) t l).length = 32 := by
  have := parts_length hl
  exact tagL_length k hk ht (by omega)

theorem lastT_length (k : Nat) (hk : 600 ≤ k) : ∀ (ls : List Lk) {t : List UInt8}, t.length = 32 → (∀ l ∈ ls, small l) → (lastT (k + 100) t ls).length = 32
  | [], t, ht, _ => ht
  | l :: ls, t, ht, h => lastT_length k hk ls (nextT_length k hk (by omega) (h l (by simp))) (fun x hx => h x (by simp [hx]))

theorem lastT_nil (N : Nat) (t : List UInt8) : lastT N t [] = t := rfl
theorem lastT_cons (N : Nat) (t : List UInt8) (l : Lk) (ls : List Lk) : lastT N t (l :: ls) = lastT N (nextT N t l) ls := rfl
theorem lastT_snoc (N : Nat) (t : List UInt8) (ls : List Lk) (l : Lk) : lastT N t (ls ++ [l]) = nextT N (lastT N t ls) l := by
  unfold lastT; rw [List.foldl_append]; rfl

theorem root_eq (k : Nat) {key id : List UInt8} (hk : 600 ≤ k) (hl : key.length ≤ 30000) (hi : id.length ≤ 8000) : chain_Root (k + 100) key id = some (rootT (k + 100) key id) := by
  unfold chain_Root
  rw [show hmac_Parts (k + 100) key [[114, 111, 111, 116], id] = some (rootT (k + 100) key id) from parts_eq k (l := rootParts id) hk hl (by simp [rootParts]) (by rw [root_length]; omega)]
  rfl

theorem next_eq (k : Nat) {t : List UInt8} {l : Lk} (hk : 600 ≤ k) (ht : t.length ≤ 30000) (hl : small l) : chain_tag_next (k + 100) t l = some (nextT (k + 100) t l) := by
  have hp := parts_length hl
  unfold chain_tag_next
  have h := parts_eq k (key := t) (l := partsOf l) hk ht (by omega) (by omega)
  unfold nextT
  unfold partsOf at h ⊢
  cases hc : l.2.1 == ([] : List UInt8) with
  | true => rw [hc, cond_true] at h; rw [cond_true, cond_true, h]; rfl
  | false => rw [hc, cond_false] at h; rw [cond_false, cond_false, h]; rfl

theorem along_eq (k : Nat) {t : List UInt8} {ls : List Lk} (hk : 600 ≤ k) (ht : t.length = 32) (hn : ls.length ≤ 500) (hl : ∀ l ∈ ls, small l) : chain_along1 (k + 100) t ls () = some ((tagsT (k + 100) t ls).map fun x => (x, ())) := by
  have key : ∀ (d i : Nat) (u : List UInt8), i + d = ls.length → u.length = 32 → ∀ n, d < n →
      iter (fun (v : List UInt8 × Int) r => chain_along1_s1 (k + 100) () ls ((ls.length : Nat) : Int) v.1 v.2 (fun t x15 => r (t, x15)) (some []) (some [])) n (u, (i : Int)) = some ((tagsT (k + 100) u (ls.drop i)).tail.map fun x => (x, ())) := by
    intro d
    induction d with
    | zero =>
      intro i u hi hu n hn
      obtain ⟨n, rfl⟩ : ∃ m, n = m + 1 := ⟨n - 1, by omega⟩
      simp only [iter]
      unfold chain_along1_s1
      rw [cond_f (dec_f (by omega)), drop_nil' ls (by omega)]; rfl
    | succ d ih =>
      intro i u hi hu n hn
      obtain ⟨n, rfl⟩ : ∃ m, n = m + 1 := ⟨n - 1, by omega⟩
      have hlt : i < ls.length := by omega
      have hs := hl _ (getD_mem ls ([], [], ()) i hlt)
      have h2 := ih (i + 1) (nextT (k + 100) u (ls.getD i ([], [], ()))) (by omega) (nextT_length k hk (by omega) hs) n (by omega)
      simp only [iter]
      unfold chain_along1_s1 at h2 ⊢
      rw [cond_t (dec_t (by omega)), cond_t (inR_nat hlt), Int.toNat_natCast, next_eq k hk (by omega) hs, Option.bind_some, wrap_succ (by omega)]
      dsimp only
      rw [h2, comb_some, drop_cons ls ([], [], ()) i hlt]
      cases hd : ls.drop (i + 1) <;> rfl
  unfold chain_along1 chain_along1_p1
  rw [show (0 : Int) = ((0 : Nat) : Int) from rfl, key ls.length 0 t (by omega) ht (k + 100) (by omega), comb_some, List.drop_zero]
  cases ls <;> rfl

theorem tags_eq (k : Nat) {key : List UInt8} {t : Tk} (hk : 600 ≤ k) (hl : key.length ≤ 30000) (hi : t.1.length ≤ 8000) (hn : t.2.1.length ≤ 100) (hs : ∀ l ∈ t.2.1, small l) : chain_Tags (k + 100) key t = some (tagsT (k + 100) (rootT (k + 100) key t.1) t.2.1) := by
  have hr : (rootT (k + 100) key t.1).length = 32 := tagL_length k (key := key) (text := frameL (rootParts t.1)) hk hl (by rw [root_length]; omega)
  have hw : IntKind.wrap .i64 ((1 : Int) + ((t.2.1.length : Nat) : Int)) = ((1 + t.2.1.length : Nat) : Int) := by rw [wrap_in (by unfold I64; omega)]; omega
  unfold chain_Tags
  rw [hw, cond_t (dec_t ⟨by omega, by omega, by omega, by omega⟩), root_eq k hk hl hi, Option.bind_some]
  unfold chain_Tags_p1 chain_Tags_fit1
  dsimp only
  rw [along_eq k hk hr (by omega) hs, Option.bind_some]
  rw [iterL_ok (fun (v : List (List UInt8)) (ys : List (List UInt8 × Unit)) => v.length + ys.length ≤ 1000) (fun v y => v ++ [y.1]) (by
    intro y ys v r hI
    rw [List.length_cons] at hI
    refine ⟨?_, by rw [List.length_append, List.length_singleton]; omega⟩
    unfold chain_Tags_s1
    rw [cond_t (dec_t (by omega))]) _ _ (by rw [List.length_map, tagsT_length, List.length_nil]; omega)]
  have : ∀ (ys : List (List UInt8)) (a : List (List UInt8)), (ys.map fun x => (x, ())).foldl (fun v (y : List UInt8 × Unit) => v ++ [y.1]) a = a ++ ys := by
    intro ys
    induction ys with
    | nil => intro a; simp
    | cons y ys ih => intro a; rw [List.map_cons, List.foldl_cons, ih]; simp
  rw [this]; rfl

theorem last_eq (k : Nat) {key : List UInt8} {t : Tk} (hk : 600 ≤ k) (hl : key.length ≤ 30000) (hi : t.1.length ≤ 8000) (hn : t.2.1.length ≤ 100) (hs : ∀ l ∈ t.2.1, small l) : chain_Last (k + 100) key t = some (lastT (k + 100) (rootT (k + 100) key t.1) t.2.1) := by
  have hr : (rootT (k + 100) key t.1).length = 32 := tagL_length k (key := key) (text := frameL (rootParts t.1)) hk hl (by rw [root_length]; omega)
  unfold chain_Last
  rw [root_eq k hk hl hi, Option.bind_some]
  unfold chain_Last_p1 chain_Last_fit1
  dsimp only
  rw [along_eq k hk hr (by omega) hs, Option.bind_some]
  rw [iterL_ok (step := fun (y : List UInt8 × Unit) (v : List UInt8) r => chain_Last_s1 (k + 100) v y (fun last_1 => r last_1) fun last_1 => some last_1) (fin := fun v => some v) (fun _ _ => True) (fun v y => y.1) (fun y ys v r _ => ⟨rfl, trivial⟩) _ _ trivial]
  have : ∀ (ls : List Lk) (u a : List UInt8), ((tagsT (k + 100) u ls).map fun x => (x, ())).foldl (fun v (y : List UInt8 × Unit) => y.1) a = lastT (k + 100) u ls := by
    intro ls
    induction ls with
    | nil => intro u a; rfl
    | cons l ls ih => intro u a; rw [tagsT, List.map_cons, List.foldl_cons, ih]; rfl
  rw [this]

theorem refParts (N : Nat) (l : Lk) : porterref34_NextParts N l = some (partsOf l) := by
  unfold porterref34_NextParts partsOf
  cases l.2.1 == ([] : List UInt8) <;> rfl

theorem refNext_eq (k : Nat) {t : List UInt8} {l : Lk} (hk : 600 ≤ k) (ht : t.length ≤ 30000) (hl : small l) : porterref04_Parts (k + 100) t (partsOf l) = some (nextT (k + 100) t l) := by
  have hp := parts_length hl
  unfold nextT
  exact refParts_eq k hk ht (by omega) (by omega)

theorem refTags_eq (k : Nat) {key : List UInt8} {t : Tk} (hk : 600 ≤ k) (hl : key.length ≤ 30000) (hi : t.1.length ≤ 8000) (hn : t.2.1.length ≤ 100) (hs : ∀ l ∈ t.2.1, small l) : porterref34_Tags (k + 100) key t = some (tagsT (k + 100) (rootT (k + 100) key t.1) t.2.1) := by
  have hr : (rootT (k + 100) key t.1).length = 32 := tagL_length k (key := key) (text := frameL (rootParts t.1)) hk hl (by rw [root_length]; omega)
  unfold porterref34_Tags
  rw [show porterref04_Parts (k + 100) key [[114, 111, 111, 116], t.1] = some (rootT (k + 100) key t.1) from refParts_eq k (l := rootParts t.1) hk hl (by simp [rootParts]) (by rw [root_length]; omega), Option.bind_some]
  unfold porterref34_Tags_p1
  generalize rootT (k + 100) key t.1 = root at hr ⊢
  rw [iter_eq (I := fun (v : List UInt8 × List (List UInt8) × Int) => ∃ i : Nat, i ≤ t.2.1.length ∧ v.2.2 = (i : Int) ∧ v.1.length = 32 ∧ v.2.1.length ≤ 200 + i) (m := fun v => t.2.1.length - v.2.2.toNat) (R := fun v => some (v.2.1 ++ (tagsT (k + 100) v.1 (t.2.1.drop v.2.2.toNat)).tail)) ?_ (k + 100) (root, [root], 0) ⟨0, by omega, rfl, hr, by dsimp only; rw [List.length_singleton]; omega⟩ (by dsimp only; omega)]
  · dsimp only
    rw [show (0 : Int).toNat = 0 from rfl, List.drop_zero]
    cases t.2.1 <;> rfl
  rintro ⟨u, out, z⟩ r ⟨i, hi2, e, hu, ho⟩ hr2
  dsimp only at e hu ho hr2 ⊢
  subst e
  rw [Int.toNat_natCast] at hr2 ⊢
  unfold porterref34_Tags_s1
  by_cases hlt : i < t.2.1.length
  · have hsm := hs _ (getD_mem t.2.1 ([], [], ()) i hlt)
    have hp := parts_length hsm
    have hnx := nextT_length k (t := u) hk (by omega) hsm
    rw [cond_t (dec_t (by omega)), cond_t (inR_nat hlt), Int.toNat_natCast, refParts, Option.bind_some, refNext_eq k hk (by omega) hsm, Option.bind_some, cond_t (dec_t (by omega)), wrap_succ (by omega)]
    generalize hge : nextT (k + 100) u (t.2.1.getD i ([], [], ())) = nx at hnx ⊢
    refine (hr2 (nx, out ++ [nx], ((i + 1 : Nat) : Int)) ⟨i + 1, by omega, rfl, hnx, by simp; omega⟩ (by dsimp only; omega)).trans ?_
    dsimp only
    rw [Int.toNat_natCast, drop_cons t.2.1 ([], [], ()) i hlt, List.append_assoc, tagsT, hge]
    cases t.2.1.drop (i + 1) <;> rfl
  · rw [cond_f (dec_f (by omega)), drop_nil' t.2.1 (by omega)]; simp [tagsT]

noncomputable def linkTexts (N : Nat) : List UInt8 → List Lk → List (List UInt8)
  | _, [] => []
  | t, l :: ls => textsL N t (frameL (partsOf l)) ++ linkTexts N (nextT N t l) ls
noncomputable def textsT (N : Nat) (key id : List UInt8) (ls : List Lk) : List (List UInt8) := textsL N key (frameL (rootParts id)) ++ linkTexts N (rootT N key id) ls

theorem linkTexts_length (N : Nat) : ∀ (ls : List Lk) (t : List UInt8), (linkTexts N t ls).length = 2 * ls.length
  | [], t => rfl
  | l :: ls, t => by rw [linkTexts, List.length_append, linkTexts_length N ls, List.length_cons]; simp [textsL]; omega

theorem linkTexts_snoc (N : Nat) (l : Lk) : ∀ (ls : List Lk) (t : List UInt8), linkTexts N t (ls ++ [l]) = linkTexts N t ls ++ textsL N (lastT N t ls) (frameL (partsOf l))
  | [], t => by simp [linkTexts, lastT]
  | m :: ls, t => by
    rw [List.cons_append, linkTexts, linkTexts_snoc N l ls, linkTexts, List.append_assoc]; rfl

theorem refTexts2_eq (k : Nat) {key : List UInt8} {t : Tk} (hk : 600 ≤ k) (hl : key.length ≤ 30000) (hi : t.1.length ≤ 8000) (hn : t.2.1.length ≤ 100) (hs : ∀ l ∈ t.2.1, small l) : porterref34_Texts (k + 100) key t = some (textsT (k + 100) key t.1 t.2.1) := by
  have hr : (rootT (k + 100) key t.1).length = 32 := tagL_length k (key := key) (text := frameL (rootParts t.1)) hk hl (by rw [root_length]; omega)
  unfold porterref34_Texts
  rw [refTags_eq k hk hl hi hn hs, Option.bind_some, show porterref04_Frame (k + 100) [[114, 111, 111, 116], t.1] = some (frameL (rootParts t.1)) from refFrameN k (l := rootParts t.1) (by simp [rootParts]) (by rw [root_length]; omega), Option.bind_some, texts_eq k hk hl (by rw [root_length]; omega), Option.bind_some]
  unfold porterref34_Texts_p1
  have htl := tagsT_length (k + 100) t.2.1 (rootT (k + 100) key t.1)
  have hT0 : (textsL (k + 100) key (frameL (rootParts t.1))).length = 2 := by unfold textsL; rfl
  unfold textsT
  change (iter _ _ (textsL (k + 100) key (frameL (rootParts t.1)), (0 : Int))) = _
  generalize textsL (k + 100) key (frameL (rootParts t.1)) = T0 at hT0 ⊢
  generalize rootT (k + 100) key t.1 = root at hr htl ⊢
  have hget : ∀ (ls : List Lk) (u : List UInt8) (i : Nat), i ≤ ls.length → (tagsT (k + 100) u ls).getD i [] = lastT (k + 100) u (ls.take i) := by
    intro ls
    induction ls with
    | nil => intro u i hi; have : i = 0 := by simpa using hi
             subst this; rfl
    | cons l ls ih =>
      intro u i hi
      cases i with
      | zero => rw [tagsT, List.getD_cons_zero, List.take_zero, lastT_nil]
      | succ i => rw [tagsT, List.getD_cons_succ, List.take_succ_cons, lastT_cons]; exact ih (nextT (k + 100) u l) i (by simpa using hi)
  rw [iter_eq (I := fun (v : List (List UInt8) × Int) => ∃ i : Nat, i ≤ t.2.1.length ∧ v.2 = (i : Int) ∧ v.1.length ≤ 300 + 2 * i) (m := fun v => t.2.1.length - v.2.toNat) (R := fun v => some (v.1 ++ linkTexts (k + 100) (lastT (k + 100) (root) (t.2.1.take v.2.toNat)) (t.2.1.drop v.2.toNat))) ?_ (k + 100) (T0, 0) ⟨0, by omega, rfl, by dsimp only; omega⟩ (by dsimp only; omega)]
  · dsimp only
    rw [show (0 : Int).toNat = 0 from rfl, List.drop_zero]; rfl
  rintro ⟨out, z⟩ r ⟨i, hi2, e, ho⟩ hr2
  dsimp only at e ho hr2 ⊢
  subst e
  rw [Int.toNat_natCast] at hr2 ⊢
  unfold porterref34_Texts_s1
  by_cases hlt : i < t.2.1.length
  · have hsm := hs _ (getD_mem t.2.1 ([], [], ()) i hlt)
    have hp := parts_length hsm
    have hll := lastT_length k hk (t.2.1.take i) (t := root) hr (fun l hl' => hs l (List.mem_of_mem_take hl'))
    rw [cond_t (dec_t (by omega)), cond_t (inR_nat (by omega)), cond_t (inR_nat hlt), Int.toNat_natCast, refParts, Option.bind_some, refFrameN k (by omega) (by omega), Option.bind_some, hget _ _ _ (by omega), texts_eq k hk (by omega) (by omega), Option.bind_some, cond_t (dec_t (by simp; omega)), wrap_succ (by omega)]
    refine (hr2 (out ++ [innerL (k + 100) (lastT (k + 100) (root) (t.2.1.take i)) (frameL (partsOf (t.2.1.getD i ([], [], ())))), outerL (k + 100) (lastT (k + 100) (root) (t.2.1.take i)) (frameL (partsOf (t.2.1.getD i ([], [], ()))))], ((i + 1 : Nat) : Int)) ⟨i + 1, by omega, rfl, by simp; omega⟩ (by dsimp only; omega)).trans ?_
    dsimp only
    rw [Int.toNat_natCast, drop_cons t.2.1 ([], [], ()) i hlt, take_succ t.2.1 ([], [], ()) i hlt, lastT_snoc, linkTexts, List.append_assoc]
    rfl
  · rw [cond_f (dec_f (by omega)), drop_nil' t.2.1 (by omega)]; simp [linkTexts]

theorem frame_inj {a b : List (List UInt8)} (ha : ∀ p ∈ a, p.length < 9223372036854775808) (hb : ∀ p ∈ b, p.length < 9223372036854775808) (h : frameL a = frameL b) : a = b := by
  have h1 := split_frame a ha
  have h2 := split_frame b hb
  rw [h] at h1
  exact Option.some.inj (h1.symm.trans h2)

theorem parts_mem {l : Lk} (h : small l) : ∀ p ∈ partsOf l, p.length < 9223372036854775808 := by
  unfold small at h
  intro p hp
  unfold partsOf at hp
  cases hc : l.2.1 == ([] : List UInt8) <;> rw [hc] at hp <;> simp at hp
  · rcases hp with rfl | rfl | rfl
    · simp
    · omega
    · omega
  · rcases hp with rfl | rfl
    · simp
    · omega

theorem root_mem {id : List UInt8} (h : id.length ≤ 8000) : ∀ p ∈ rootParts id, p.length < 9223372036854775808 := by
  intro p hp
  simp [rootParts] at hp
  rcases hp with rfl | rfl
  · simp
  · omega

theorem parts_root {l : Lk} {id : List UInt8} (h : partsOf l = rootParts id) : False := by
  unfold partsOf rootParts at h
  cases hc : l.2.1 == ([] : List UInt8) <;> rw [hc] at h <;> simp at h

theorem parts_inj {l m : Lk} (h : partsOf l = partsOf m) : l = m := by
  obtain ⟨a, b, u⟩ := l
  obtain ⟨c, d, w⟩ := m
  unfold partsOf at h
  dsimp only at h
  cases hb : b == ([] : List UInt8) <;> cases hd : d == ([] : List UInt8) <;> rw [hb, hd] at h <;> simp at h
  · obtain ⟨rfl, rfl⟩ := h; rfl
  · subst h
    rw [beq_iff_eq] at hb hd
    subst hb; subst hd; rfl

def Clashes (N : Nat) (A B : List (List UInt8)) : Prop := ∃ p ∈ A, ∃ q ∈ B, p ≠ q ∧ sumL N p = sumL N q

theorem Clashes.mono {N : Nat} {A B A' B' : List (List UInt8)} (hA : ∀ p ∈ A, p ∈ A') (hB : ∀ p ∈ B, p ∈ B') : Clashes N A B → Clashes N A' B'
  | ⟨p, hp, q, hq, h⟩ => ⟨p, hA p hp, q, hB q hq, h⟩

theorem tag_clash (k : Nat) {a b s t : List UInt8} (hk : 600 ≤ k) (ha : a.length = 32) (hb : b.length = 32) (hs : s.length ≤ 29900) (ht : t.length ≤ 29900) (h : tagL (k + 100) a s = tagL (k + 100) b t) :
    Clashes (k + 100) (textsL (k + 100) a s) (textsL (k + 100) b t) ∨ (a = b ∧ s = t) := by
  rcases tag_apart k hk ha hb hs ht h with ⟨h1, h2⟩ | ⟨h1, ⟨h2, h3⟩ | h2⟩
  · exact .inl ⟨_, outer_mem _ _ _, _, outer_mem _ _ _, h1, h2⟩
  · exact .inl ⟨_, inner_mem _ _ _, _, inner_mem _ _ _, h2, h3⟩
  · exact .inr ⟨h1, h2⟩

theorem chains_apart (k : Nat) {a b id jd : List UInt8} (hk : 600 ≤ k) (ha : a.length = 32) (hb : b.length = 32) (hid : id.length ≤ 8000) (hjd : jd.length ≤ 8000) : ∀ (n : Nat) (L M : List Lk), L.length + M.length ≤ n → (∀ l ∈ L, small l) → (∀ l ∈ M, small l) →
    lastT (k + 100) (rootT (k + 100) a id) L = lastT (k + 100) (rootT (k + 100) b jd) M → Clashes (k + 100) (textsT (k + 100) a id L) (textsT (k + 100) b jd M) ∨ (a = b ∧ id = jd ∧ L = M) := by
  have hra : (rootT (k + 100) a id).length = 32 := tagL_length k (key := a) (text := frameL (rootParts id)) hk (by omega) (by rw [root_length]; omega)
  have hrb : (rootT (k + 100) b jd).length = 32 := tagL_length k (key := b) (text := frameL (rootParts jd)) hk (by omega) (by rw [root_length]; omega)
  have hsn : ∀ (a id : List UInt8) (L : List Lk) (l : Lk), textsT (k + 100) a id (L ++ [l]) = textsT (k + 100) a id L ++ textsL (k + 100) (lastT (k + 100) (rootT (k + 100) a id) L) (frameL (partsOf l)) := by
    intro a id L l
    unfold textsT
    rw [linkTexts_snoc, List.append_assoc]
  intro n
  induction n with
  | zero =>
    intro L M hn hL hM h
    have e1 : L = [] := List.length_eq_zero_iff.1 (by omega)
    have e2 : M = [] := List.length_eq_zero_iff.1 (by omega)
    subst e1; subst e2
    rw [lastT_nil, lastT_nil] at h
    unfold rootT at h
    rcases tag_clash k hk ha hb (by rw [root_length]; omega) (by rw [root_length]; omega) h with hc | ⟨h1, h2⟩
    · exact .inl (hc.mono (fun p hp => by simp [textsT, hp]) (fun p hp => by simp [textsT, hp]))
    · have := frame_inj (root_mem hid) (root_mem hjd) h2
      simp [rootParts] at this
      exact .inr ⟨h1, this, rfl⟩
  | succ n ih =>
    intro L M hn hL hM h
    rcases List.eq_nil_or_concat L with rfl | ⟨L', l, rfl⟩ <;> rcases List.eq_nil_or_concat M with rfl | ⟨M', m, rfl⟩
    · exact ih [] [] (by simp) hL hM h
    · rw [List.concat_eq_append] at *
      have hm := hM m (by simp)
      have hM' : ∀ l ∈ M', small l := fun l hl => hM l (by simp [hl])
      rw [lastT_snoc, lastT_nil] at h
      unfold nextT at h
      rw [show rootT (k + 100) a id = tagL (k + 100) a (frameL (rootParts id)) by unfold rootT; rfl] at h
      rcases tag_clash k hk ha (lastT_length k hk M' hrb hM') (by rw [root_length]; omega) (by have := parts_length hm; omega) h with hc | ⟨h1, h2⟩
      · exact .inl (hc.mono (fun p hp => by simp [textsT, hp]) (fun p hp => by rw [hsn]; simp [hp]))
      · exact (parts_root (frame_inj (root_mem hid) (parts_mem hm) h2).symm).elim
    · rw [List.concat_eq_append] at *
      have hl := hL l (by simp)
      have hL' : ∀ l ∈ L', small l := fun x hx => hL x (by simp [hx])
      rw [lastT_snoc, lastT_nil] at h
      unfold nextT at h
      rw [show rootT (k + 100) b jd = tagL (k + 100) b (frameL (rootParts jd)) by unfold rootT; rfl] at h
      rcases tag_clash k hk (lastT_length k hk L' hra hL') hb (by have := parts_length hl; omega) (by rw [root_length]; omega) h with hc | ⟨h1, h2⟩
      · exact .inl (hc.mono (fun p hp => by rw [hsn]; simp [hp]) (fun p hp => by simp [textsT, hp]))
      · exact (parts_root (frame_inj (parts_mem hl) (root_mem hjd) h2)).elim
    · rw [List.concat_eq_append] at *
      rw [List.concat_eq_append] at *
      have hl := hL l (by simp)
      have hL' : ∀ l ∈ L', small l := fun x hx => hL x (by simp [hx])
      have hm := hM m (by simp)
      have hM' : ∀ l ∈ M', small l := fun l hl => hM l (by simp [hl])
      rw [lastT_snoc, lastT_snoc] at h
      unfold nextT at h
      rcases tag_clash k hk (lastT_length k hk L' hra hL') (lastT_length k hk M' hrb hM') (by have := parts_length hl; omega) (by have := parts_length hm; omega) h with hc | ⟨h1, h2⟩
      · exact .inl (hc.mono (fun p hp => by rw [hsn]; simp [hp]) (fun p hp => by rw [hsn]; simp [hp]))
      · have e := parts_inj (frame_inj (parts_mem hl) (parts_mem hm) h2)
        subst e
        rcases ih L' M' (by simp at hn; omega) hL' hM' h1 with hc | ⟨h3, h4, h5⟩
        · exact .inl (hc.mono (fun p hp => by rw [hsn]; simp [hp]) (fun p hp => by rw [hsn]; simp [hp]))
        · subst h5; exact .inr ⟨h3, h4, rfl⟩

theorem textsT_small (k : Nat) {key id : List UInt8} {ls : List Lk} (hk : 600 ≤ k) (hl : key.length ≤ 30000) (hid : id.length ≤ 8000) (hs : ∀ l ∈ ls, small l) : ∀ p ∈ textsT (k + 100) key id ls, p.length ≤ 30000 := by
  have one : ∀ (t s : List UInt8), t.length ≤ 30000 → s.length ≤ 9000 → ∀ p ∈ textsL (k + 100) t s, p.length ≤ 30000 := fun t s ht hs => textsL_small k hk ht (by omega)
  have links : ∀ (ls : List Lk) (t : List UInt8), t.length = 32 → (∀ l ∈ ls, small l) → ∀ p ∈ linkTexts (k + 100) t ls, p.length ≤ 30000 := by
    intro ls
    induction ls with
    | nil => intro t _ _ p hp; cases hp
    | cons l ls ih =>
      intro t ht h p hp
      have hsm := h l (by simp)
      have := parts_length hsm
      rw [linkTexts, List.mem_append] at hp
      rcases hp with hp | hp
      · exact one t _ (by omega) (by omega) p hp
      · exact ih _ (nextT_length k hk (by omega) hsm) (fun x hx => h x (by simp [hx])) p hp
  intro p hp
  unfold textsT at hp
  rw [List.mem_append] at hp
  rcases hp with hp | hp
  · exact one key _ hl (by rw [root_length]; omega) p hp
  · exact links ls _ (tagL_length k hk hl (by rw [root_length]; omega)) hs p hp

end Go.Proofs.YtkipbccgnekoaaaGreatDoorLg

set_option linter.all false
set_option maxRecDepth 100000
namespace Go.Proofs.YtkipbccgnekoaaaGreatDoorLg
open Go Go.Lift Go.Proofs.YtkipbccgnekoaaaGreatDoorPx

theorem great_small (k : Nat) {t : Tk} (hk : 600 ≤ k) : ∃ b, porterref30_Great (k + 100) t = some b ∧ (b = false → t.1.length ≤ 4200 ∧ t.2.2.1.length ≤ 100 ∧ t.2.1.length ≤ 70 ∧ ∀ l ∈ t.2.1, small l) := by
  unfold porterref30_Great porterref30_Great_p1 porterref30_Great_p2
  by_cases h1 : 4200 < t.1.length
  · rw [cond_t (dec_t (by omega))]; exact ⟨true, rfl, fun h => by cases h⟩
  rw [cond_f (dec_f (by omega))]
  by_cases h2 : 100 < t.2.2.1.length
  · rw [cond_t (dec_t (by omega))]; exact ⟨true, rfl, fun h => by cases h⟩
  rw [cond_f (dec_f (by omega))]
  by_cases h3 : 70 < t.2.1.length
  · rw [show decide ((70 : Int) < ((t.2.1.length : Nat) : Int)) = true from dec_t (by omega)]; exact ⟨true, rfl, fun h => by cases h⟩
  rw [show decide ((70 : Int) < ((t.2.1.length : Nat) : Int)) = false from dec_f (by omega)]
  dsimp only
  rw [cond_false]
  unfold porterref30_Great_p3
  refine iter_post (I := fun (v : Int × Int) => ∃ i a : Nat, i ≤ t.2.1.length ∧ v = ((a : Int), (i : Int)) ∧ a ≤ 8400 * i ∧ ∀ j, j < i → small (t.2.1.getD j ([], [], ()))) (m := fun v => t.2.1.length - v.2.toNat) (p := fun o => ∃ b, o = some b ∧ (b = false → t.1.length ≤ 4200 ∧ t.2.2.1.length ≤ 100 ∧ t.2.1.length ≤ 70 ∧ ∀ l ∈ t.2.1, small l)) ?_ (k + 100) (0, 0) ⟨0, 0, by omega, rfl, by omega, fun j h => by omega⟩ (by dsimp only; omega)
  rintro v r ⟨i, a, hi, rfl, ha, hs⟩ hr
  dsimp only at hr ⊢
  unfold porterref30_Great_s3 porterref30_Great_p4 porterref30_Great_p5 porterref30_Great_p6
  by_cases hlt : i < t.2.1.length
  · have hin : inR (i : Int) t.2.1.length = true := inR_nat hlt
    rw [cond_t (dec_t (by omega))]
    simp only [hin, cond_true, Int.toNat_natCast]
    by_cases g1 : 4200 < (t.2.1.getD i ([], [], ())).1.length
    · rw [cond_t (dec_t (by omega))]; exact ⟨true, rfl, fun h => by cases h⟩
    rw [cond_f (dec_f (by omega))]
    by_cases g2 : 4200 < (t.2.1.getD i ([], [], ())).2.1.length
    · rw [show decide ((4200 : Int) < (((t.2.1.getD i ([], [], ())).2.1.length : Nat) : Int)) = true from dec_t (by omega)]; exact ⟨true, rfl, fun h => by cases h⟩
    rw [show decide ((4200 : Int) < (((t.2.1.getD i ([], [], ())).2.1.length : Nat) : Int)) = false from dec_f (by omega)]
    try dsimp only
    have hw : IntKind.wrap .i64 (IntKind.wrap .i64 ((a : Int) + (((t.2.1.getD i ([], [], ())).1.length : Nat) : Int)) + (((t.2.1.getD i ([], [], ())).2.1.length : Nat) : Int)) = ((a + (t.2.1.getD i ([], [], ())).1.length + (t.2.1.getD i ([], [], ())).2.1.length : Nat) : Int) := by
      rw [wrap_in (x := (a : Int) + _) (by unfold I64; omega), wrap_in (by unfold I64; omega)]; omega
    rw [cond_false, hw, wrap_succ (by omega)]
    refine hr _ ⟨i + 1, a + (t.2.1.getD i ([], [], ())).1.length + (t.2.1.getD i ([], [], ())).2.1.length, by omega, rfl, by omega, fun j hj => ?_⟩ (by dsimp only; omega)
    by_cases e : j = i
    · subst e; exact ⟨by omega, by omega⟩
    · exact hs j (by omega)
  · rw [cond_f (dec_f (by omega))]
    refine ⟨_, rfl, fun _ => ⟨by omega, by omega, by omega, fun l hl => ?_⟩⟩
    obtain ⟨j, hj, rfl⟩ := List.mem_iff_getElem.1 hl
    have := hs j (by omega)
    rw [show t.2.1.getD j ([], [], ()) = t.2.1[j] by simp [List.getD, hj]] at this
    exact this

theorem sameToken_eq (k : Nat) {a b : Tk} (ha : a.2.1.length ≤ 90) : porterbase_SameToken (k + 100) a b = some (decide (a.1 = b.1 ∧ a.2.2.1 = b.2.2.1 ∧ a.2.1 = b.2.1)) := by
  unfold porterbase_SameToken porterbase_SameToken_p1 porterbase_SameToken_p2
  by_cases h1 : ¬ a.1 = b.1
  · rw [cond_t (by simpa using h1), decide_eq_false (fun h => h1 h.1)]; rfl
  replace h1 := Classical.not_not.1 h1
  rw [cond_f (by simpa using h1)]
  by_cases h2 : ¬ a.2.2.1 = b.2.2.1
  · rw [cond_t (by simpa using h2), decide_eq_false (fun h => h2 h.2.1)]; rfl
  replace h2 := Classical.not_not.1 h2
  rw [cond_f (by simpa using h2)]
  by_cases h3 : ¬ a.2.1.length = b.2.1.length
  · rw [show ((((List.length a.2.1) : Nat) : Int) != (((List.length b.2.1) : Nat) : Int)) = true by rw [bne_iff_ne]; omega, decide_eq_false (fun h => h3 (by rw [h.2.2]))]; rfl
  replace h3 := Classical.not_not.1 h3
  rw [show ((((List.length a.2.1) : Nat) : Int) != (((List.length b.2.1) : Nat) : Int)) = false by simp [h3]]
  dsimp only
  rw [cond_false]
  unfold porterbase_SameToken_p3
  rw [iter_eq (I := fun (v : Int) => ∃ i : Nat, i ≤ a.2.1.length ∧ v = (i : Int)) (m := fun v => a.2.1.length - v.toNat) (R := fun v => some (decide (a.2.1.drop v.toNat = b.2.1.drop v.toNat))) ?_ (k + 100) 0 ⟨0, by omega, rfl⟩ (by omega)]
  · rw [show (0 : Int).toNat = 0 from rfl, List.drop_zero, List.drop_zero]
    refine congrArg some ?_
    rw [Bool.eq_iff_iff, decide_eq_true_eq, decide_eq_true_eq]
    exact ⟨fun h => ⟨h1, h2, h⟩, fun h => h.2.2⟩
  rintro v r ⟨i, hi, rfl⟩ hr
  rw [Int.toNat_natCast] at hr ⊢
  unfold porterbase_SameToken_s3
  by_cases hlt : i < a.2.1.length
  · have hd : ∀ l : List Lk, i < l.length → l.drop i = l.getD i ([], [], ()) :: l.drop (i + 1) := fun l h => drop_cons l ([], [], ()) i h
    rw [cond_t (dec_t (by omega)), cond_t (inR_nat hlt), cond_t (inR_nat (by omega)), Int.toNat_natCast, hd _ hlt, hd _ (by omega), wrap_succ (by omega)]
    by_cases he : a.2.1.getD i ([], [], ()) = b.2.1.getD i ([], [], ())
    · rw [cond_f (by rw [he, eqD_self (by rfl)]; rfl)]
      refine (hr ((i + 1 : Nat) : Int) ⟨i + 1, by omega, rfl⟩ (by omega)).trans ?_
      rw [Int.toNat_natCast, he]
      refine congrArg some ?_
      rw [Bool.eq_iff_iff, decide_eq_true_eq, decide_eq_true_eq]
      exact ⟨fun h => by rw [h], fun h => (List.cons.inj h).2⟩
    · have hne : eqD (T.pair T.str (T.pair T.str T.unit)) (a.2.1.getD i ([], [], ())) (b.2.1.getD i ([], [], ())) = false := by
        cases hq : eqD (T.pair T.str (T.pair T.str T.unit)) (a.2.1.getD i ([], [], ())) (b.2.1.getD i ([], [], ())) with
        | false => rfl
        | true => exact absurd ((eqD_iff (T.pair T.str (T.pair T.str T.unit)) _ _ rfl).1 hq) he
      rw [hne, Bool.not_false, cond_true]
      exact congrArg some (decide_eq_false (fun h => he (List.cons.inj h).1)).symm
  · rw [cond_f (dec_f (by omega)), drop_nil' a.2.1 (by omega), drop_nil' b.2.1 (by omega)]; rfl

end Go.Proofs.YtkipbccgnekoaaaGreatDoorLg

set_option linter.all false
set_option maxRecDepth 100000
namespace Go.Proofs.YtkipbccgnekoaaaGreatDoorLg
open Go Go.Lift Go.Proofs.YtkipbccgnekoaaaGreatDoorPx

def zeroT : Tk := ([], [], [], ())
noncomputable def sealKey (N : Nat) (t : List UInt8) : List UInt8 := tagL N t (frameL [[115, 101, 97, 108]])
noncomputable def bindT (N : Nat) (t d : List UInt8) : List UInt8 := tagL N t (frameL [[98, 105, 110, 100], d])

theorem sealFrame : (frameL [[115, 101, 97, 108]]).length = 12 := by rw [frameL_length]; rfl
theorem bindFrame (d : List UInt8) : (frameL [[98, 105, 110, 100], d]).length = 20 + d.length := by
  rw [frameL_length]; simp; omega

theorem sealKey_length (k : Nat) {t : List UInt8} (hk : 600 ≤ k) (ht : t.length ≤ 30000) : (sealKey (k + 100) t).length = 32 := tagL_length k hk ht (by rw [sealFrame]; omega)
theorem bindT_length (k : Nat) {t d : List UInt8} (hk : 600 ≤ k) (ht : t.length ≤ 30000) (hd : d.length ≤ 8000) : (bindT (k + 100) t d).length = 32 := tagL_length k hk ht (by rw [bindFrame]; omega)

theorem chainSeal_eq (k : Nat) {t : List UInt8} (hk : 600 ≤ k) (ht : t.length ≤ 30000) : chain_Seal (k + 100) t = some (sealKey (k + 100) t) := by
  rw [chain_Seal, show hmac_Parts (k + 100) t [[115, 101, 97, 108]] = some (sealKey (k + 100) t) from parts_eq k (l := [[115, 101, 97, 108]]) hk ht (by simp) (by rw [sealFrame]; omega)]
  rfl
theorem chainBind_eq (k : Nat) {t d : List UInt8} (hk : 600 ≤ k) (ht : t.length ≤ 30000) (hd : d.length ≤ 8000) : chain_Bind (k + 100) t d = some (bindT (k + 100) t d) := by
  rw [chain_Bind, show hmac_Parts (k + 100) t [[98, 105, 110, 100], d] = some (bindT (k + 100) t d) from parts_eq k (l := [[98, 105, 110, 100], d]) hk ht (by simp) (by rw [bindFrame]; omega)]
  rfl

end Go.Proofs.YtkipbccgnekoaaaGreatDoorLg

set_option linter.all false
set_option maxRecDepth 100000
namespace Go.Proofs.YtkipbccgnekoaaaGreatDoorLg
open Go Go.Lift Go.Proofs.YtkipbccgnekoaaaGreatDoorPx

abbrev BunD : Type := Tk × List Tk × Unit
abbrev ItD : Type := Tk × List (List UInt8)

structure SV where
  used : List Bool
  items : List ItD
  texts : List (List UInt8)
  work : Nat
  summed : List (List UInt8)

theorem iter_ghost {σ β γ : Type} {step : σ → (σ → Option β) → Option β} (I : γ → σ → Prop) (m : σ → Nat) (R : γ → Option β)
    (h : ∀ g v r, I g v → (∀ g' v', I g' v' → m v' < m v → r v' = R g') → step v r = R g) : ∀ (n : Nat) (g : γ) (v : σ), I g v → m v < n → iter step n v = R g
  | 0, g, v, _, hm => by omega
  | n + 1, g, v, hv, hm => h g v (iter step n) hv fun g' v' hv' hlt => iter_ghost I m R h n g' v' hv' (by omega)

noncomputable def openR (N : Nat) (key s : List UInt8) : Option (List UInt8) := if 48 ≤ s.length ∧ s.length ≤ 4144 ∧ fits N key s = true then some (openT N key s) else none

noncomputable def boxS (N : Nat) (key s : List UInt8) : List (List UInt8) := if 48 ≤ s.length ∧ s.length ≤ 4144 then textsL N key (frameL [[116, 97, 103]]) ++ textsL N (tagK N key) (s.take (s.length - 32)) else []

def findU (id : List UInt8) : List Tk → List Bool → Nat → Option Nat
  | t :: ts, u :: us, i => if t.1 = id ∧ u = false then some i else findU id ts us (i + 1)
  | _, _, _ => none

noncomputable def thirdM (N : Nat) (b : BunD) (st : SV) (before : List UInt8) (l : Lk) : SV × Bool :=
  let s1 : SV := { st with work := st.work + 1, summed := st.summed ++ (textsL N before (frameL [[115, 101, 97, 108]]) ++ boxS N (sealKey N before) l.2.1) }
  match openR N (sealKey N before) l.2.1 with
  | none => (s1, false)
  | some c => match findU l.1 b.2.1 st.used 0 with
    | none => (s1, false)
    | some a =>
      let d := b.2.1.getD a zeroT
      let tg := tagsT N (rootT N c d.1) d.2.1
      let last := lastT N (rootT N c d.1) d.2.1
      let s2 : SV := { s1 with used := st.used.set a true, work := st.work + d.2.1.length + 3, summed := s1.summed ++ (textsT N c d.1 d.2.1 ++ textsL N b.1.2.2.1 (frameL [[98, 105, 110, 100], last])) }
      if bindT N b.1.2.2.1 last = d.2.2.1 then ({ s2 with items := st.items ++ [(d, tg)] }, true) else (s2, false)

noncomputable def innerM (N : Nat) (b : BunD) : List Lk → List (List UInt8) → SV → SV × Bool
  | [], _, st => (st, true)
  | _ :: _, [], st => (st, false)
  | l :: ls, g :: gs, st => if l.2.1 = [] then innerM N b ls gs { st with texts := st.texts ++ [l.1] } else
    match thirdM N b st g l with
    | (s, true) => innerM N b ls gs s
    | (s, false) => (s, false)

noncomputable def outerM (N : Nat) (b : BunD) : Nat → Nat → SV → SV × Bool
  | 0, _, st => (st, false)
  | f + 1, i, st => if i < st.items.length then
      match innerM N b (st.items.getD i (zeroT, [])).1.2.1 (st.items.getD i (zeroT, [])).2 st with
      | (s, true) => outerM N b f (i + 1) s
      | (s, false) => (s, false)
    else (st, true)

def thirds (ls : List Lk) : Nat := (ls.filter fun l => !(l.2.1 == [])).length
def itThirds (its : List ItD) : Nat := (its.map fun x => thirds x.1.2.1).sum
def cost (t : Tk) : Nat := t.2.1.length + 2 + thirds t.2.1
def potU : List Tk → List Bool → Nat
  | t :: ts, u :: us => (if u then 0 else cost t) + potU ts us
  | _, _ => 0
def usedN (us : List Bool) : Nat := (us.filter id).length

theorem thirds_le (ls : List Lk) : thirds ls ≤ ls.length := List.length_filter_le ..
theorem thirds_cons (l : Lk) (ls : List Lk) : thirds (l :: ls) = (if l.2.1 = [] then 0 else 1) + thirds ls := by
  unfold thirds
  by_cases h : l.2.1 = []
  · simp [h]
  · simp [h]; omega

theorem itThirds_append (a b : List ItD) : itThirds (a ++ b) = itThirds a + itThirds b := by simp [itThirds]
theorem itThirds_one (a : ItD) : itThirds [a] = thirds a.1.2.1 := by simp [itThirds]

theorem findU_spec (id : List UInt8) : ∀ (ts : List Tk) (us : List Bool) (i a : Nat), findU id ts us i = some a → i ≤ a ∧ a - i < ts.length ∧ a - i < us.length ∧ (ts.getD (a - i) zeroT).1 = id ∧ us.getD (a - i) true = false ∧
    potU ts us = potU ts (us.set (a - i) true) + cost (ts.getD (a - i) zeroT) ∧ usedN (us.set (a - i) true) = usedN us + 1
  | [], us, i, a, h => by simp [findU] at h
  | t :: ts, [], i, a, h => by simp [findU] at h
  | t :: ts, u :: us, i, a, h => by
    unfold findU at h
    split at h
    · rename_i hc
      cases h
      obtain ⟨h1, h2⟩ := hc
      subst h2
      rw [Nat.sub_self]
      refine ⟨Nat.le_refl _, by simp, by simp, h1, rfl, ?_, ?_⟩
      · simp [potU]; omega
      · simp [usedN]
    · obtain ⟨g1, g2, g3, g4, g5, g6, g7⟩ := findU_spec id ts us (i + 1) a h
      have e : a - i = (a - (i + 1)) + 1 := by omega
      rw [e]
      refine ⟨by omega, by simp; omega, by simp; omega, by simpa using g4, by simpa using g5, ?_, ?_⟩
      · simp only [List.set_cons_succ, potU, List.getD_cons_succ]; omega
      · simp only [List.set_cons_succ, usedN, List.filter_cons] at g7 ⊢
        cases u <;> simp at g7 ⊢ <;> omega

theorem usedN_le (us : List Bool) : usedN us ≤ us.length := List.length_filter_le ..

structure GoodT (t : Tk) : Prop where
  id : t.1.length ≤ 4200
  tag : t.2.2.1.length ≤ 100
  len : t.2.1.length ≤ 64
  links : ∀ l ∈ t.2.1, small l

structure GoodB (b : BunD) : Prop where
  one : GoodT b.1
  more : ∀ t ∈ b.2.1, GoodT t
  len : b.2.1.length ≤ 8

def GoodI (x : ItD) : Prop := GoodT x.1 ∧ x.2.length = x.1.2.1.length + 1 ∧ ∀ g ∈ x.2, g.length = 32

structure Inv (b : BunD) (C i : Nat) (ls : List Lk) (st : SV) : Prop where
  used : st.used.length = b.2.1.length
  items : ∀ x ∈ st.items, GoodI x
  len : st.items.length ≤ usedN st.used + 1
  texts : st.texts.length + ls.length ≤ 64 * (i + 1)
  summed : st.summed.length ≤ 200 * st.work + 200
  work : st.work + potU b.2.1 st.used + thirds ls + itThirds (st.items.drop (i + 1)) ≤ C

theorem getD_memI {α : Type} (l : List α) (d : α) (i : Nat) (h : i < l.length) : l.getD i d ∈ l := by
  rw [List.getD_eq_getElem?_getD, List.getElem?_eq_getElem h]; simp

theorem tagsT_32 (k : Nat) (hk : 600 ≤ k) : ∀ (ls : List Lk) {t : List UInt8}, t.length = 32 → (∀ l ∈ ls, small l) → ∀ g ∈ tagsT (k + 100) t ls, g.length = 32
  | [], t, ht, _, g, hg => by simp [tagsT] at hg; rw [hg]; exact ht
  | l :: ls, t, ht, hs, g, hg => by
    rw [tagsT] at hg
    rcases List.mem_cons.1 hg with rfl | hg
    · exact ht
    · exact tagsT_32 k hk ls (nextT_length k hk (by omega) (hs l List.mem_cons_self)) (fun x hx => hs x (List.mem_cons_of_mem _ hx)) g hg

theorem openR_length (k : Nat) {key s c : List UInt8} (hk : 600 ≤ k) (hl : key.length ≤ 30000) (h : openR (k + 100) key s = some c) : c.length ≤ 4096 := by
  unfold openR at h
  split at h
  · rename_i hc
    cases h
    rw [openT_length k hk hl hc.1]; omega
  · cases h

theorem root32 (k : Nat) {c id : List UInt8} (hk : 600 ≤ k) (hc : c.length ≤ 30000) (hi : id.length ≤ 8000) : (rootT (k + 100) c id).length = 32 :=
  tagL_length k (key := c) (text := frameL (rootParts id)) hk hc (by rw [root_length]; omega)

theorem third_inv (k : Nat) (hk : 600 ≤ k) {b : BunD} {C i : Nat} {l : Lk} {ls : List Lk} {st : SV} {before : List UInt8} (hb : GoodB b) (h : Inv b C i (l :: ls) st) (hi : i < st.items.length) (hl : l.2.1 ≠ []) (hbf : before.length = 32) :
    Inv b C i ls (thirdM (k + 100) b st before l).1 := by
  have hw := h.work
  have htx := h.texts
  have hsm := h.summed
  rw [thirds_cons, if_neg hl] at hw
  simp only [List.length_cons] at htx
  have hsl : (sealKey (k + 100) before).length = 32 := sealKey_length k hk (by omega)
  have hS1 : (textsL (k + 100) before (frameL [[115, 101, 97, 108]]) ++ boxS (k + 100) (sealKey (k + 100) before) l.2.1).length ≤ 6 := by
    unfold boxS
    split <;> simp [textsL]
  have base : Inv b C i ls { st with work := st.work + 1, summed := st.summed ++ (textsL (k + 100) before (frameL [[115, 101, 97, 108]]) ++ boxS (k + 100) (sealKey (k + 100) before) l.2.1) } :=
    ⟨h.used, h.items, h.len, by simp only; omega, by simp only; rw [List.length_append]; omega, by simp only; omega⟩
  unfold thirdM
  simp only
  cases ho : openR (k + 100) (sealKey (k + 100) before) l.2.1 with
  | none => exact base
  | some c =>
    simp only
    have hc := openR_length k hk (by omega) ho
    cases hf : findU l.1 b.2.1 st.used 0 with
    | none => exact base
    | some a =>
      simp only
      obtain ⟨_, g2, g3, g4, g5, g6, g7⟩ := findU_spec _ _ _ _ _ hf
      rw [Nat.sub_zero] at g2 g3 g4 g5 g6 g7
      have hd := hb.more _ (getD_memI b.2.1 zeroT a g2)
      generalize b.2.1.getD a zeroT = d at *
      have hr := root32 k (c := c) (id := d.1) hk (by omega) (by have := hd.id; omega)
      have hdl := hd.len
      have hS2 : (textsT (k + 100) c d.1 d.2.1 ++ textsL (k + 100) b.1.2.2.1 (frameL [[98, 105, 110, 100], lastT (k + 100) (rootT (k + 100) c d.1) d.2.1])).length = 2 * d.2.1.length + 4 := by
        unfold textsT
        rw [List.length_append, List.length_append, linkTexts_length]
        simp [textsL]; omega
      have hcost : cost d = d.2.1.length + 2 + thirds d.2.1 := rfl
      split
      · refine ⟨by simpa using h.used, ?_, ?_, by simp only; omega, ?_, ?_⟩
        · intro x hx
          rcases List.mem_append.1 hx with hx | hx
          · exact h.items x hx
          · rw [List.mem_singleton] at hx
            subst hx
            exact ⟨hd, tagsT_length _ _ _, tagsT_32 k hk _ hr hd.links⟩
        · simp only [List.length_append, List.length_cons, List.length_nil]
          have := h.len; omega
        · simp only [List.length_append] at hS1 hS2 ⊢; omega
        · simp only
          rw [List.drop_append_of_le_length (by omega), itThirds_append, itThirds_one]
          simp only
          omega
      · refine ⟨by simpa using h.used, h.items, ?_, by simp only; omega, ?_, ?_⟩
        · simp only; rw [g7]; have := h.len; omega
        · simp only [List.length_append] at hS1 hS2 ⊢; omega
        · simp only
          omega

end Go.Proofs.YtkipbccgnekoaaaGreatDoorLg

set_option linter.all false
set_option maxRecDepth 100000
namespace Go.Proofs.YtkipbccgnekoaaaGreatDoorLg
open Go Go.Lift Go.Proofs.YtkipbccgnekoaaaGreatDoorPx

abbrev VerD : Type := List Lk × (List (List UInt8) × Unit)
abbrev RunD : Type := BunD × (List Bool × (List VerD × (List (List UInt8) × (Int × Unit))))

def verOf (x : ItD) : VerD := (x.1.2.1, (x.2, ()))
def runOf (b : BunD) (st : SV) : RunD := (b, (st.used, (st.items.map verOf, (st.texts, (((st.work : Nat) : Int), ())))))

def unI : Option Nat → Int
  | some a => ((a : Nat) : Int)
  | none => -1

theorem boxOpen_some (k : Nat) {key s c : List UInt8} (hk : 4400 ≤ k) (hl : key.length ≤ 30000) (h : openR (k + 100) key s = some c) : box_Open (k + 100) key s = some (c, 0, ()) ∧ porterref06_Open (k + 100) key s = some (c, 0, ()) := by
  unfold openR at h
  split at h
  · rename_i hc
    cases h
    rw [open_eq k hk hl hc.1 hc.2.1, refOpen_eq k hk hl hc.1 hc.2.1, hc.2.2]
    exact ⟨rfl, rfl⟩
  · cases h

theorem boxOpen_none (k : Nat) {key s : List UInt8} (hk : 4400 ≤ k) (hl : key.length ≤ 30000) (h : openR (k + 100) key s = none) : ∃ e : Int, e ≠ 0 ∧ box_Open (k + 100) key s = some ([], e, ()) ∧ porterref06_Open (k + 100) key s = some ([], e, ()) := by
  unfold openR at h
  split at h
  · cases h
  · rename_i hc
    by_cases h1 : 48 ≤ s.length
    · by_cases h2 : s.length ≤ 4144
      · have hf : fits (k + 100) key s = false := by
          cases hf : fits (k + 100) key s with
          | false => rfl
          | true => exact absurd ⟨h1, h2, hf⟩ hc
        refine ⟨8, by decide, ?_, ?_⟩
        · rw [open_eq k hk hl h1 h2, hf]; rfl
        · rw [refOpen_eq k hk hl h1 h2, hf]; rfl
      · obtain ⟨a, b⟩ := open_long (k + 100) (key := key) (s := s) (by omega)
        exact ⟨3, by decide, a, b⟩
    · obtain ⟨a, b⟩ := open_short (k + 100) (key := key) (s := s) (by omega)
      exact ⟨1, by decide, a, b⟩

theorem unused_eq (N : Nat) {r : RunD} {id : List UInt8} (hu : r.2.1.length = r.1.2.1.length) (hl : r.1.2.1.length ≤ 100) (hN : 200 < N) :
    verify_run_unused N r id = some (unI (findU id r.1.2.1 r.2.1 0), (r, ())) := by
  rw [verify_run_unused, verify_run_unused_p1]
  refine (iter_eq (fun v => ∃ i : Nat, v = (i : Int) ∧ i ≤ r.1.2.1.length) (fun v => r.1.2.1.length - v.toNat) (fun v => some (unI (findU id (r.1.2.1.drop v.toNat) (r.2.1.drop v.toNat) v.toNat), (r, ()))) ?_ N 0 ⟨0, rfl, by omega⟩ (by omega)).trans (by rfl)
  rintro v r' ⟨i, rfl, hi⟩ hr
  simp only [Int.toNat_natCast]
  rw [verify_run_unused_s1]
  by_cases hlt : i < r.1.2.1.length
  · have hlt2 : i < r.2.1.length := by omega
    rw [cond_t (decide_eq_true (by omega)), cond_t (inR_nat hlt), verify_run_unused_p2, Int.toNat_natCast, drop_cons r.1.2.1 zeroT i hlt, drop_cons r.2.1 false i hlt2, findU]
    rw [show (([] : List UInt8), (([] : List ((List UInt8) × ((List UInt8) × Unit))), (([] : List UInt8), ()))) = zeroT from rfl, wrap_succ (by omega), hr _ ⟨i + 1, rfl, by omega⟩ (by omega), Int.toNat_natCast]
    by_cases h1 : (r.1.2.1.getD i zeroT).1 = id
    · rw [cond_t (beq_iff_eq.2 h1), cond_t (inR_nat hlt2), cond_t (decide_eq_true hlt2)]
      cases hb : r.2.1.getD i false with
      | true => rw [if_neg (by simp)]; rfl
      | false => rw [if_pos ⟨h1, rfl⟩]; rfl
    · rw [cond_f (beq_eq_false_iff_ne.2 h1), if_neg (fun h => h1 h.1)]; rfl
  · rw [cond_f (decide_eq_false (by omega)), drop_nil' _ (by omega), findU]
    · rfl
    · simp

theorem rtags_eq (k : Nat) (hk : 600 ≤ k) {r : RunD} {key : List UInt8} {t : Tk} {w : Nat} (hw : r.2.2.2.2.1 = ((w : Nat) : Int)) (hw2 : w ≤ 1000000) (hl : key.length ≤ 30000) (ht : GoodT t) :
    verify_run_tags (k + 100) r key t = some ((tagsT (k + 100) (rootT (k + 100) key t.1) t.2.1, (lastT (k + 100) (rootT (k + 100) key t.1) t.2.1, ())), ((r.1, (r.2.1, (r.2.2.1, (r.2.2.2.1, (((w + (t.2.1.length + 1) : Nat) : Int), r.2.2.2.2.2))))), ())) := by
  have h1 := ht.id
  have h2 := ht.len
  rw [verify_run_tags, tags_eq k hk hl (by omega) (by omega) ht.links, Option.bind_some, tagsT_length, wrap_in (x := (((t.2.1.length + 1 : Nat) : Nat) : Int) - 1) (by unfold I64; omega), show (((t.2.1.length + 1 : Nat) : Nat) : Int) - 1 = ((t.2.1.length : Nat) : Int) by omega, cond_t (inR_nat (by omega)), Int.toNat_natCast, tagsT_last, hw, wrap_in (by unfold I64; omega)]
  congr 1

theorem bind_dec {tag bt : List UInt8} (h : bt.length = 32) : (decide (tag.length = 32) && (tag == bt)) = decide (bt = tag) := by
  by_cases e : bt = tag
  · subst e; simp [h]
  · rw [decide_eq_false e, beq_eq_false_iff_ne.2 (Ne.symm e), Bool.and_false]

theorem third_eq (k : Nat) (hk : 4400 ≤ k) {b : BunD} {C i : Nat} {l : Lk} {ls : List Lk} {st : SV} {before : List UInt8} (hb : GoodB b) (h : Inv b C i (l :: ls) st) (hC : C ≤ 100000) (hbf : before.length = 32) :
    verify_run_third (k + 100) (runOf b st) before l = some ((thirdM (k + 100) b st before l).2, (runOf b (thirdM (k + 100) b st before l).1, ())) := by
  have hwk := h.work
  have hsl : (sealKey (k + 100) before).length = 32 := sealKey_length k (by omega) (by omega)
  obtain ⟨used, items, texts, work, summed⟩ := st
  have hu : used.length = b.2.1.length := h.used
  have hb8 := hb.len
  simp only at hwk
  have hw1 : IntKind.wrap .i64 (((work : Nat) : Int) + 1) = ((work + 1 : Nat) : Int) := by rw [wrap_in (by unfold I64; omega)]; omega
  rw [verify_run_third, chainSeal_eq k (by omega) (by omega), Option.bind_some]
  unfold thirdM runOf
  simp only
  rw [hw1]
  cases ho : openR (k + 100) (sealKey (k + 100) before) l.2.1 with
  | none =>
    obtain ⟨e, he, hbx, _⟩ := boxOpen_none k hk (by omega) ho
    rw [hbx, Option.bind_some, cond_t (bne_iff_ne.2 he)]
  | some c =>
    have hc := openR_length k (by omega) (by omega) ho
    rw [(boxOpen_some k hk (by omega) ho).1, Option.bind_some, cond_f (by rfl)]
    simp only
    rw [unused_eq (k + 100) (r := (b, (used, (items.map verOf, (texts, (((work + 1 : Nat) : Int), ())))))) hu (by simp only; omega) (by omega), Option.bind_some]
    simp only
    cases hf : findU l.1 b.2.1 used 0 with
    | none =>
      rw [cond_t (by rfl)]
    | some a =>
      obtain ⟨_, g2, g3, g4, g5, g6, g7⟩ := findU_spec _ _ _ _ _ hf
      rw [Nat.sub_zero] at g2 g3
      have hd := hb.more _ (getD_memI b.2.1 zeroT a g2)
      have hd1 := hd.tag
      have hd2 := hd.len
      have hd3 := hd.id
      have hbt := hb.one.tag
      have hr := root32 k (c := c) (id := (b.2.1.getD a zeroT).1) (by omega) (by omega) (by omega)
      have hlast : (lastT (k + 100) (rootT (k + 100) c (b.2.1.getD a zeroT).1) (b.2.1.getD a zeroT).2.1).length = 32 := lastT_length k (by omega) _ hr hd.links
      have hbn : (bindT (k + 100) b.1.2.2.1 (lastT (k + 100) (rootT (k + 100) c (b.2.1.getD a zeroT).1) (b.2.1.getD a zeroT).2.1)).length = 32 := bindT_length k (by omega) (by omega) (by omega)
      rw [show unI (some a) = ((a : Nat) : Int) from rfl, cond_f (decide_eq_false (by omega)), cond_t (inR_nat g2), cond_t (inR_nat g3), Int.toNat_natCast, cond_t (decide_eq_true g3)]
      rw [show (([] : List UInt8), (([] : List ((List UInt8) × ((List UInt8) × Unit))), (([] : List UInt8), ()))) = zeroT from rfl]
      rw [rtags_eq k (by omega) (w := work + 1) rfl (by omega) (by omega) hd, Option.bind_some]
      simp only
      rw [chainBind_eq k (by omega) (by omega) (by omega), Option.bind_some, same_eq (k + 100) (by omega) (by omega), Option.bind_some, bind_dec hbn]
      have hw2 : IntKind.wrap .i64 (((work + 1 + ((b.2.1.getD a zeroT).2.1.length + 1) : Nat) : Int) + 1) = ((work + (b.2.1.getD a zeroT).2.1.length + 3 : Nat) : Int) := by rw [wrap_in (by unfold I64; omega)]; omega
      rw [hw2]
      have hil : items.length ≤ 9 := by
        have h1 : items.length ≤ usedN used + 1 := h.len
        have h2 := usedN_le used
        omega
      by_cases he : bindT (k + 100) b.1.2.2.1 (lastT (k + 100) (rootT (k + 100) c (b.2.1.getD a zeroT).1) (b.2.1.getD a zeroT).2.1) = (b.2.1.getD a zeroT).2.2.1
      · rw [decide_eq_true he, Bool.not_true, cond_false, cond_t (decide_eq_true (by rw [List.length_map]; omega)), if_pos he, List.map_append]
        rfl
      · rw [decide_eq_false he, Bool.not_false, cond_true, if_neg he]

end Go.Proofs.YtkipbccgnekoaaaGreatDoorLg

set_option linter.all false
set_option maxRecDepth 100000
namespace Go.Proofs.YtkipbccgnekoaaaGreatDoorLg
open Go Go.Lift Go.Proofs.YtkipbccgnekoaaaGreatDoorPx

theorem third_items (N : Nat) (b : BunD) (st : SV) (before : List UInt8) (l : Lk) : st.items.length ≤ (thirdM N b st before l).1.items.length := by
  unfold thirdM
  simp only
  split
  · exact Nat.le_refl _
  · split
    · exact Nat.le_refl _
    · split
      · simp
      · exact Nat.le_refl _

theorem own_inv {b : BunD} {C i : Nat} {l : Lk} {ls : List Lk} {st : SV} (h : Inv b C i (l :: ls) st) (hl : l.2.1 = []) : Inv b C i ls { st with texts := st.texts ++ [l.1] } := by
  have h1 := h.texts
  have h2 := h.work
  rw [thirds_cons, if_pos hl] at h2
  refine ⟨h.used, h.items, h.len, ?_, h.summed, by simp only; omega⟩
  simp only [List.length_append, List.length_cons, List.length_nil] at h1 ⊢
  omega

theorem inner_fin (k : Nat) (hk : 600 ≤ k) {b : BunD} {C i : Nat} (hb : GoodB b) : ∀ (ls : List Lk) (gs : List (List UInt8)) (st : SV), Inv b C i ls st → i < st.items.length → (∀ g ∈ gs, g.length = 32) →
    (innerM (k + 100) b ls gs st).1.work ≤ C ∧ (innerM (k + 100) b ls gs st).1.used.length = b.2.1.length ∧ (innerM (k + 100) b ls gs st).1.summed.length ≤ 200 * C + 200 ∧ ((innerM (k + 100) b ls gs st).2 = true → Inv b C i [] (innerM (k + 100) b ls gs st).1 ∧ i < (innerM (k + 100) b ls gs st).1.items.length)
  | [], gs, st, h, hi, _ => by
    unfold innerM
    have hw := h.work
    have hs := h.summed
    exact ⟨by simp only; omega, h.used, by simp only; omega, fun _ => ⟨h, hi⟩⟩
  | l :: ls, [], st, h, hi, _ => by
    unfold innerM
    have hw := h.work
    have hs := h.summed
    exact ⟨by simp only; omega, h.used, by simp only; omega, fun e => by cases e⟩
  | l :: ls, g :: gs, st, h, hi, hg => by
    unfold innerM
    by_cases hl : l.2.1 = []
    · rw [if_pos hl]
      exact inner_fin k hk hb ls gs _ (own_inv h hl) hi (fun x hx => hg x (List.mem_cons_of_mem _ hx))
    · rw [if_neg hl]
      have h1 := third_inv k hk hb h hi hl (hg g List.mem_cons_self)
      have h2 := third_items (k + 100) b st g l
      have hw := h1.work
      have hs := h1.summed
      generalize thirdM (k + 100) b st g l = T at *
      obtain ⟨s, ok⟩ := T
      cases ok with
      | true => exact inner_fin k hk hb ls gs s h1 (Nat.lt_of_lt_of_le hi h2) (fun x hx => hg x (List.mem_cons_of_mem _ hx))
      | false =>
        simp only at hw hs ⊢
        exact ⟨by omega, h1.used, by omega, fun e => by cases e⟩

structure OInv (b : BunD) (C i : Nat) (st : SV) : Prop where
  used : st.used.length = b.2.1.length
  items : ∀ x ∈ st.items, GoodI x
  len : st.items.length ≤ usedN st.used + 1
  texts : st.texts.length ≤ 64 * i
  summed : st.summed.length ≤ 200 * st.work + 200
  work : st.work + potU b.2.1 st.used + itThirds (st.items.drop i) ≤ C

theorem OInv.enter {b : BunD} {C i : Nat} {st : SV} (h : OInv b C i st) (hi : i < st.items.length) : Inv b C i (st.items.getD i (zeroT, [])).1.2.1 st := by
  have hx := h.items _ (getD_memI st.items (zeroT, []) i hi)
  have hw := h.work
  have ht := h.texts
  have hl := hx.1.len
  rw [drop_cons st.items (zeroT, []) i hi, show ((st.items.getD i (zeroT, [])) :: st.items.drop (i + 1)) = [st.items.getD i (zeroT, [])] ++ st.items.drop (i + 1) from rfl, itThirds_append, itThirds_one] at hw
  exact ⟨h.used, h.items, h.len, by omega, h.summed, by omega⟩

theorem Inv.leave {b : BunD} {C i : Nat} {st : SV} (h : Inv b C i [] st) : OInv b C (i + 1) st := by
  have hw := h.work
  have ht := h.texts
  exact ⟨h.used, h.items, h.len, by simpa using ht, h.summed, by simp only [thirds, List.filter_nil, List.length_nil] at hw; omega⟩

theorem outer_fin (k : Nat) (hk : 600 ≤ k) {b : BunD} {C : Nat} (hb : GoodB b) : ∀ (f i : Nat) (st : SV), OInv b C i st →
    (outerM (k + 100) b f i st).1.work ≤ C ∧ (outerM (k + 100) b f i st).1.used.length = b.2.1.length ∧ (outerM (k + 100) b f i st).1.summed.length ≤ 200 * C + 200
  | 0, i, st, h => by
    have hw := h.work
    have hs := h.summed
    exact ⟨by simp only [outerM]; omega, h.used, by simp only [outerM]; omega⟩
  | f + 1, i, st, h => by
    unfold outerM
    split
    · rename_i hi
      have hx := h.items _ (getD_memI st.items (zeroT, []) i hi)
      have hf := inner_fin k hk hb _ (st.items.getD i (zeroT, [])).2 st (h.enter hi) hi hx.2.2
      generalize innerM (k + 100) b (st.items.getD i (zeroT, [])).1.2.1 (st.items.getD i (zeroT, [])).2 st = T at *
      obtain ⟨s, ok⟩ := T
      cases ok with
      | true => exact outer_fin k hk hb f (i + 1) s (hf.2.2.2 rfl).1.leave
      | false => exact ⟨hf.1, hf.2.1, hf.2.2.1⟩
    · have hw := h.work
      have hs := h.summed
      exact ⟨by simp only; omega, h.used, by simp only; omega⟩

theorem own_dec (l : Lk) : eqD (T.pair T.str (T.pair T.str T.unit)) l (l.1, (([] : List UInt8), ())) = decide (l.2.1 = []) := by
  obtain ⟨a, c, u⟩ := l
  cases u
  rw [Bool.eq_iff_iff, decide_eq_true_eq, eqD_iff _ _ _ rfl]
  simp

theorem inner_eq (k : Nat) (hk : 4400 ≤ k) {b : BunD} {C i : Nat} (hb : GoodB b) (hC : C ≤ 100000) (hi9 : i ≤ 20) {complete : Bool} {i0 : Int} {x : ItD} (hx : GoodI x) {st0 : SV} (h0 : Inv b C i x.1.2.1 st0) (hi0 : i < st0.items.length)
    (k0 : RunD → Bool → Option (Int × (RunD × Unit))) (k1 : RunD → Option (Int × (RunD × Unit))) :
    verify_run_verify_p3 (k + 100) (runOf b st0) complete i0 (verOf x) (verOf x).1 (((verOf x).1.length : Nat) : Int) 0 k0 k1 = match innerM (k + 100) b x.1.2.1 x.2 st0 with | (s, true) => k1 (runOf b s) | (s, false) => k0 (runOf b s) false := by
  have hxl := hx.1.len
  have hxt := hx.2.1
  have hxl' := hx.1.links
  show verify_run_verify_p3 (k + 100) (runOf b st0) complete i0 (verOf x) x.1.2.1 ((x.1.2.1.length : Nat) : Int) 0 k0 k1 = _
  rw [verify_run_verify_p3]
  refine (iter_ghost (γ := List Lk × List (List UInt8) × SV) (fun g v => ∃ j : Nat, v = (runOf b g.2.2, (j : Int)) ∧ j ≤ x.1.2.1.length ∧ g.1 = x.1.2.1.drop j ∧ g.2.1 = x.2.drop j ∧ Inv b C i g.1 g.2.2 ∧ i < g.2.2.items.length)
    (fun v => x.1.2.1.length - v.2.toNat) (fun g => match innerM (k + 100) b g.1 g.2.1 g.2.2 with | (s, true) => k1 (runOf b s) | (s, false) => k0 (runOf b s) false) ?_ (k + 100) (x.1.2.1, x.2, st0) (runOf b st0, 0) ⟨0, rfl, by omega, rfl, rfl, h0, hi0⟩ (by simp only; omega))
  rintro ⟨ls, gs, st⟩ v r ⟨j, rfl, hj, e1, e2, hinv, hi⟩ hr
  simp only at e1 e2 hinv hi
  subst e1 e2
  simp only [Int.toNat_natCast]
  rw [verify_run_verify_s3]
  by_cases hlt : j < x.1.2.1.length
  · have hlt2 : j < x.2.length := by omega
    have hg32 := hx.2.2 _ (getD_memI x.2 [] j hlt2)
    have hlk := hxl' _ (getD_memI x.1.2.1 ([], [], ()) j hlt)
    rw [drop_cons x.1.2.1 ([], [], ()) j hlt] at hinv ⊢
    rw [drop_cons x.2 [] j hlt2, innerM]
    rw [cond_t (decide_eq_true (by omega)), cond_t (inR_nat hlt), Int.toNat_natCast, own_dec, wrap_succ (by omega)]
    by_cases hl : (x.1.2.1.getD j ([], [], ())).2.1 = []
    · have htx := hinv.texts
      simp only [List.length_cons] at htx
      rw [decide_eq_true hl, cond_true, cond_t (decide_eq_true (by show (st.texts.length + 1) * 16 ≤ _; omega)), if_pos hl]
      exact hr (x.1.2.1.drop (j + 1), x.2.drop (j + 1), _) _ ⟨j + 1, rfl, by omega, rfl, rfl, own_inv hinv hl, hi⟩ (by simp only; omega)
    · rw [decide_eq_false hl, cond_false, show (verOf x).2.1 = x.2 from rfl, cond_t (inR_nat hlt2), third_eq k hk hb hinv hC hg32, Option.bind_some, if_neg hl]
      have h1 := third_inv k (by omega) hb hinv hi hl hg32
      have h2 := third_items (k + 100) b st (x.2.getD j []) (x.1.2.1.getD j ([], [], ()))
      generalize thirdM (k + 100) b st (x.2.getD j []) (x.1.2.1.getD j ([], [], ())) = T at *
      obtain ⟨s, ok⟩ := T
      cases ok with
      | true =>
        rw [Bool.not_true, cond_false]
        exact hr (x.1.2.1.drop (j + 1), x.2.drop (j + 1), s) _ ⟨j + 1, rfl, by omega, rfl, rfl, h1, Nat.lt_of_lt_of_le hi h2⟩ (by simp only; omega)
      | false => rfl
  · rw [cond_f (decide_eq_false (by omega)), drop_nil' _ (by omega), innerM]

theorem outer_eq (k : Nat) (hk : 4400 ≤ k) {b : BunD} {C : Nat} (hb : GoodB b) (hC : C ≤ 100000) {complete : Bool} {st0 : SV} (h0 : OInv b C 0 st0) (hc : complete = true)
    (k0 : RunD → Bool → Option (Int × (RunD × Unit))) :
    verify_run_verify_p2 (k + 100) (runOf b st0) complete 0 k0 = k0 (runOf b (outerM (k + 100) b 20 0 st0).1) (outerM (k + 100) b 20 0 st0).2 := by
  subst hc
  rw [verify_run_verify_p2]
  refine (iter_ghost (γ := Nat × SV) (fun g v => v = (runOf b g.2, ((g.1 : Nat) : Int)) ∧ g.1 ≤ 9 ∧ OInv b C g.1 g.2) (fun v => 10 - v.2.toNat) (fun g => k0 (runOf b (outerM (k + 100) b (20 - g.1) g.1 g.2).1) (outerM (k + 100) b (20 - g.1) g.1 g.2).2) ?_ (k + 100) (0, st0) (runOf b st0, 0) ⟨rfl, by omega, h0⟩ (by simp only; omega))
  rintro ⟨i, st⟩ v r ⟨rfl, hi9, hinv⟩ hr
  simp only at hi9 hinv
  simp only
  rw [verify_run_verify_s2]
  have hb8 := hb.len
  have hln := hinv.len
  have hun := usedN_le st.used
  have hul := hinv.used
  have hlm : (runOf b st).2.2.1.length = st.items.length := by show (st.items.map verOf).length = _; rw [List.length_map]
  obtain ⟨f, hf⟩ : ∃ f, 20 - i = f + 1 := ⟨19 - i, by omega⟩
  rw [hf, outerM, hlm]
  by_cases hlt : i < st.items.length
  · have hgd : (runOf b st).2.2.1.getD i (([] : List ((List UInt8) × ((List UInt8) × Unit))), (([] : List (List UInt8)), ())) = verOf (st.items.getD i (zeroT, [])) := by
      show (st.items.map verOf).getD i _ = _
      simp only [List.getD_eq_getElem?_getD, List.getElem?_map, List.getElem?_eq_getElem hlt]
      rfl
    have hx := hinv.items _ (getD_memI st.items (zeroT, []) i hlt)
    rw [cond_t (decide_eq_true (by omega)), cond_t (inR_nat hlt), Int.toNat_natCast, cond_t (decide_eq_true hlt), hgd, if_pos hlt]
    rw [inner_eq k hk hb hC (by omega) hx (hinv.enter hlt) hlt]
    have hfin := inner_fin k (by omega) hb _ (st.items.getD i (zeroT, [])).2 st (hinv.enter hlt) hlt hx.2.2
    generalize innerM (k + 100) b (st.items.getD i (zeroT, [])).1.2.1 (st.items.getD i (zeroT, [])).2 st = T at *
    obtain ⟨s, ok⟩ := T
    cases ok with
    | true =>
      simp only
      obtain ⟨h1, h2⟩ := hfin.2.2.2 rfl
      simp only at h1 h2
      have hl1 := h1.len
      have hl2 := usedN_le s.used
      have hl3 := h1.used
      rw [wrap_succ (by omega), hr (i + 1, s) _ ⟨rfl, by simp only; omega, h1.leave⟩ (by simp only; omega)]
      simp only
      rw [show 20 - (i + 1) = f by omega]
    | false => rfl
  · rw [cond_f (decide_eq_false (by omega)), if_neg hlt]

def idxB (v : Bool) : List Bool → Nat → Int
  | [], _ => -1
  | x :: l, i => if v = x then (i : Int) else idxB v l (i + 1)

theorem idxB_pos (v : Bool) : ∀ (l : List Bool) (i : Nat), decide (0 ≤ idxB v l i) = l.contains v
  | [], i => rfl
  | x :: l, i => by
    unfold idxB
    rw [List.contains_cons]
    by_cases h : v = x
    · rw [if_pos h, h, beq_self_eq_true, Bool.true_or, decide_eq_true (by omega)]
    · rw [if_neg h, idxB_pos v l (i + 1), beq_eq_false_iff_ne.2 h, Bool.false_or]

theorem contains_eq (N : Nat) {s : List Bool} {v : Bool} (hs : s.length ≤ 1000) (hN : 1000 < N) : slices_Contains__boolbool N s v = some (s.contains v) := by
  have hi : slices_Index__boolbool N s v = some (idxB v s 0) := by
    rw [slices_Index__boolbool, slices_Index__boolbool_p1]
    refine (iter_eq (fun w => ∃ i : Nat, w = (i : Int) ∧ i ≤ s.length) (fun w => s.length - w.toNat) (fun w => some (idxB v (s.drop w.toNat) w.toNat)) ?_ N 0 ⟨0, rfl, by omega⟩ (by omega)).trans (by rfl)
    rintro w r ⟨i, rfl, hi⟩ hr
    simp only [Int.toNat_natCast]
    rw [slices_Index__boolbool_s1]
    by_cases hlt : i < s.length
    · rw [cond_t (decide_eq_true (by omega)), cond_t (inR_nat hlt), Int.toNat_natCast, drop_cons s false i hlt, idxB, wrap_succ (by omega), hr _ ⟨i + 1, rfl, by omega⟩ (by omega), Int.toNat_natCast]
      by_cases h : v = s.getD i false
      · rw [cond_t (beq_iff_eq.2 h), if_pos h]
      · rw [cond_f (beq_eq_false_iff_ne.2 h), if_neg h]
    · rw [cond_f (decide_eq_false (by omega)), drop_nil' _ (by omega), idxB]
  rw [slices_Contains__boolbool, hi, Option.bind_some, idxB_pos]

noncomputable def stA (N : Nat) (key : List UInt8) (b : BunD) : SV := { used := List.replicate b.2.1.length false, items := [], texts := [], work := b.1.2.1.length + 1, summed := textsT N key b.1.1 b.1.2.1 }
noncomputable def stB (N : Nat) (key : List UInt8) (b : BunD) : SV := { stA N key b with items := [(b.1, tagsT N (rootT N key b.1.1) b.1.2.1)] }

noncomputable def proveM (N : Nat) (key : List UInt8) (b : BunD) : SV × Int :=
 if lastT N (rootT N key b.1.1) b.1.2.1 = b.1.2.2.1 then
 ((outerM N b 20 0 (stB N key b)).1, if (outerM N b 20 0 (stB N key b)).2 = true ∧ (outerM N b 20 0 (stB N key b)).1.used.contains false = false then 0 else 11)
 else (stA N key b, 8)

def mostB (b : BunD) : Nat := (b.1.2.1.length + 1) + thirds b.1.2.1 + (b.2.1.map cost).sum

theorem potU_all : ∀ ts : List Tk, potU ts (List.replicate ts.length false) = (ts.map cost).sum
  | [] => rfl
  | t :: ts => by
    rw [List.length_cons, List.replicate_succ, potU, potU_all ts]
    simp

theorem stB_inv (k : Nat) (hk : 600 ≤ k) {key : List UInt8} {b : BunD} (hb : GoodB b) (hl : key.length ≤ 30000) : OInv b (mostB b) 0 (stB (k + 100) key b) := by
  have hr := root32 k (c := key) (id := b.1.1) hk hl (by have := hb.one.id; omega)
  refine ⟨by simp [stB, stA], ?_, by simp [stB, stA], by simp [stB, stA], ?_, ?_⟩
  · intro x hx
    simp only [stB, List.mem_singleton] at hx
    subst hx
    exact ⟨hb.one, tagsT_length _ _ _, tagsT_32 k hk _ hr hb.one.links⟩
  · simp only [stB, stA, textsT]
    rw [List.length_append, linkTexts_length]
    simp [textsL]; omega
  · simp only [stB, stA, List.drop_zero]
    rw [potU_all, itThirds_one]
    unfold mostB
    simp only
    omega

theorem cost_sum : ∀ ts : List Tk, (∀ t ∈ ts, GoodT t) → (ts.map cost).sum ≤ 130 * ts.length
  | [], _ => by simp
  | t :: ts, h => by
    have h1 := cost_sum ts fun x hx => h x (List.mem_cons_of_mem _ hx)
    have h2 := (h t List.mem_cons_self).len
    have h3 := thirds_le t.2.1
    simp only [List.map_cons, List.sum_cons, List.length_cons]
    unfold cost at *
    omega

theorem mostB_le {b : BunD} (hb : GoodB b) : mostB b ≤ 2000 := by
  have h1 := cost_sum b.2.1 hb.more
  have h2 := hb.len
  have h3 := hb.one.len
  have h4 := thirds_le b.1.2.1
  unfold mostB
  omega

theorem verify_eq37 (k : Nat) (hk : 4400 ≤ k) {key : List UInt8} {b : BunD} (hb : GoodB b) (hl : key.length ≤ 30000) :
    (verify_newRun (k + 100) b).bind (fun y1 => verify_run_verify (k + 100) y1 key) = some ((proveM (k + 100) key b).2, (runOf b (proveM (k + 100) key b).1, ())) := by
  have hb8 := hb.len
  have hb1 := hb.one.tag
  have hln := hb.one.len
  have hid := hb.one.id
  have hr := root32 k (c := key) (id := b.1.1) (by omega) hl (by omega)
  have hlast : (lastT (k + 100) (rootT (k + 100) key b.1.1) b.1.2.1).length = 32 := lastT_length k (by omega) _ hr hb.one.links
  have hO := stB_inv k (by omega) hb hl
  have hM := mostB_le hb
  rw [verify_newRun, cond_t (decide_eq_true ⟨by omega, by omega, by omega, by omega⟩), Option.bind_some, Int.toNat_natCast]
  rw [verify_run_verify, rtags_eq k (by omega) (r := (b, ((List.replicate b.2.1.length false), (([] : List VerD), (([] : List (List UInt8)), ((0 : Int), ())))))) (w := 0) rfl (by omega) hl hb.one, Option.bind_some]
  simp only
  rw [same_eq (k + 100) (by omega) (by omega), Option.bind_some, bind_dec hlast]
  unfold proveM
  by_cases he : lastT (k + 100) (rootT (k + 100) key b.1.1) b.1.2.1 = b.1.2.2.1
  · rw [decide_eq_true he, Bool.not_true, cond_false, if_pos he]
    have e : ((b, (List.replicate b.2.1.length false, ([((b.1.2.1, (tagsT (k + 100) (rootT (k + 100) key b.1.1) b.1.2.1, ())) : VerD)], (([] : List (List UInt8)), (((b.1.2.1.length + 1 : Nat) : Int), ()))))) : RunD) = runOf b (stB (k + 100) key b) := rfl
    rw [Nat.zero_add, e]
    rw [verify_run_verify_p1, outer_eq k hk hb (by omega) hO rfl]
    have hfin := outer_fin k (by omega) hb 20 0 _ hO
    generalize outerM (k + 100) b 20 0 (stB (k + 100) key b) = T at *
    obtain ⟨s, ok⟩ := T
    simp only at hfin ⊢
    rw [verify_run_verify_p4]
    cases ok with
    | false =>
      rw [Bool.not_false, cond_true, cond_true, if_neg (by simp)]
    | true =>
      rw [Bool.not_true, cond_false, show (runOf b s).2.1 = s.used from rfl, contains_eq (k + 100) (by omega) (by omega), Option.bind_some]
      cases hcn : s.used.contains false with
      | true => rw [if_neg (by simp)]; rfl
      | false => rw [if_pos ⟨rfl, rfl⟩]; rfl
  · rw [decide_eq_false he, Bool.not_false, cond_true, if_neg he, Nat.zero_add]
    rfl

end Go.Proofs.YtkipbccgnekoaaaGreatDoorLg

set_option linter.all false
set_option maxRecDepth 100000
namespace Go.Proofs.YtkipbccgnekoaaaGreatDoorLg
open Go Go.Lift Go.Proofs.YtkipbccgnekoaaaGreatDoorPx

def longT (t : Tk) : Bool := decide (64 < t.2.1.length)

def idxT : List Tk → Nat → Int
  | [], _ => -1
  | x :: l, i => if longT x then (i : Int) else idxT l (i + 1)

theorem idxT_pos : ∀ (l : List Tk) (i : Nat), decide (0 ≤ idxT l i) = l.any longT
  | [], i => rfl
  | x :: l, i => by
    unfold idxT
    rw [List.any_cons]
    cases h : longT x with
    | true => rw [if_pos rfl, Bool.true_or, decide_eq_true (by omega)]
    | false => rw [if_neg (by simp), idxT_pos l (i + 1), Bool.false_or]

theorem containsTok_eq (N : Nat) {s : List Tk} (hs : s.length ≤ 1000) (hN : 1000 < N) : containsTok N s = some (s.any longT) := by
  have hi : indexTok N s = some (idxT s 0) := by
    rw [indexTok, indexTok_p1]
    refine (iter_eq (fun w => ∃ i : Nat, w = (i : Int) ∧ i ≤ s.length) (fun w => s.length - w.toNat) (fun w => some (idxT (s.drop w.toNat) w.toNat)) ?_ N 0 ⟨0, rfl, by omega⟩ (by omega)).trans (by rfl)
    rintro w r ⟨i, rfl, hi⟩ hr
    simp only [Int.toNat_natCast]
    rw [indexTok_s1]
    by_cases hlt : i < s.length
    · rw [cond_t (decide_eq_true (by omega)), cond_t (inR_nat hlt), Int.toNat_natCast, drop_cons s zeroT i hlt, idxT, wrap_succ (by omega), hr _ ⟨i + 1, rfl, by omega⟩ (by omega), Int.toNat_natCast]
      rw [show (([] : List UInt8), (([] : List ((List UInt8) × ((List UInt8) × Unit))), (([] : List UInt8), ()))) = zeroT from rfl, longT]
      by_cases h : 64 < (s.getD i zeroT).2.1.length
      · rw [cond_t (decide_eq_true (by omega)), decide_eq_true h, if_pos rfl]
      · rw [cond_f (decide_eq_false (by omega)), decide_eq_false h, if_neg (by simp)]
    · rw [cond_f (decide_eq_false (by omega)), drop_nil' _ (by omega), idxT]
  rw [containsTok, hi, Option.bind_some, idxT_pos]

def withinB (b : BunD) : Bool := decide (b.2.1.length ≤ 8) && !((b.1 :: b.2.1).any longT)

theorem tokens_eq (N : Nat) {b : BunD} (hb : b.2.1.length ≤ 1000) : verify_tokens N b = some (b.1 :: b.2.1) := by
  rw [verify_tokens, cond_t (decide_eq_true (by omega))]; rfl

theorem within_eq37 (N : Nat) (hN : 1000 < N) (b : BunD) : verify_within N b = some (withinB b) := by
  rw [verify_within, withinB]
  by_cases h : b.2.1.length ≤ 8
  · rw [cond_f (decide_eq_false (by omega)), tokens_eq N (by omega), Option.bind_some, containsTok_eq N (by simp only [List.length_cons]; omega) hN, Option.bind_some, decide_eq_true h, Bool.true_and]
  · rw [cond_t (decide_eq_true (by omega)), decide_eq_false h, Bool.false_and]

theorem verify_yes (k : Nat) (hk : 4400 ≤ k) {key : List UInt8} {b : BunD} (hb : GoodB b) (hl : key.length ≤ 30000) (h : withinB b = true) :
    verify_Verify (k + 100) key b = some (if (proveM (k + 100) key b).2 = 0 then (proveM (k + 100) key b).1.texts else [], (proveM (k + 100) key b).2, ()) ∧ verify_Work (k + 100) key b = some (((proveM (k + 100) key b).1.work : Nat) : Int) := by
  have hv := verify_eq37 k hk hb hl
  rw [verify_Verify, verify_Work, within_eq37 _ (by omega), h, Option.bind_some, Option.bind_some, Bool.not_true, cond_false, cond_false]
  cases hr : verify_newRun (k + 100) b with
  | none => rw [hr] at hv; cases hv
  | some r =>
    rw [hr, Option.bind_some] at hv
    rw [Option.bind_some, Option.bind_some, hv, Option.bind_some, Option.bind_some]
    refine ⟨?_, rfl⟩
    by_cases h0 : (proveM (k + 100) key b).2 = 0
    · rw [cond_f (by rw [h0]; rfl), if_pos h0, h0]; rfl
    · rw [cond_t (bne_iff_ne.2 h0), if_neg h0]

end Go.Proofs.YtkipbccgnekoaaaGreatDoorLg

set_option linter.all false
set_option maxRecDepth 100000
namespace Go.Proofs.YtkipbccgnekoaaaGreatDoorLg
open Go Go.Lift Go.Proofs.YtkipbccgnekoaaaGreatDoorPx

theorem one_law (k : Nat) (hk : 4400 ≤ k) (hw : porterlaw37_works (k + 100) = some true) {key : List UInt8} {t other : Tk} : porterlaw37_VerifyOne (k + 100) key t other = some true := by
  rw [porterlaw37_VerifyOne, porterlaw37_VerifyOne_p1, porterlaw37_VerifyOne_p2, hw]
  by_cases h1 : key.length = 32
  · rw [cond_f (by rw [h1]; rfl)]
    by_cases h2 : 8 < t.2.1.length
    · rw [cond_t (decide_eq_true (by omega))]; rfl
    rw [cond_f (decide_eq_false (by omega))]
    by_cases h3 : 8 < other.2.1.length
    · rw [cond_t (decide_eq_true (by omega))]; rfl
    rw [cond_f (decide_eq_false (by omega))]
    obtain ⟨ga, ea, fa⟩ := great_small k (t := t) (by omega)
    obtain ⟨gb, eb, fb⟩ := great_small k (t := other) (by omega)
    rw [ea, eb]
    simp only [Option.bind_some]
    cases ga with
    | true => rfl
    | false =>
    cases gb with
    | true => rfl
    | false =>
    obtain ⟨a1, a2, a3, a4⟩ := fa rfl
    obtain ⟨b1, b2, b3, b4⟩ := fb rfl
    rw [cond_false, cond_false, last_eq k (t := t) (by omega) (by omega) (by omega) (by omega) a4, Option.bind_some]
    have hr := root32 k (c := key) (id := t.1) (by omega) (by omega) (by omega)
    have hL : (lastT (k + 100) (rootT (k + 100) key t.1) t.2.1).length = 32 := lastT_length k (by omega) _ hr a4
    generalize hLe : lastT (k + 100) (rootT (k + 100) key t.1) t.2.1 = L at *
    have hgood : GoodB ((other.1, (other.2.1, (L, other.2.2.2))), (([] : List Tk), ())) :=
      ⟨⟨by simp only; omega, by simp only; omega, by simp only; omega, b4⟩, fun x hx => (List.not_mem_nil hx).elim, by simp⟩
    have hwi : withinB ((other.1, (other.2.1, (L, other.2.2.2))), (([] : List Tk), ())) = true := by
      unfold withinB longT
      simp only [List.any_cons, List.any_nil, List.length_nil]
      rw [decide_eq_false (show ¬ 64 < other.2.1.length by omega)]; rfl
    rw [(verify_yes k hk hgood (by omega) hwi).1, Option.bind_some]
    simp only
    rw [porterlaw37_VerifyOne_p3, porterlaw37_VerifyOne_p4, hw]
    by_cases h8 : (proveM (k + 100) key ((other.1, (other.2.1, (L, other.2.2.2))), (([] : List Tk), ()))).2 = 8
    · rw [h8]; rfl
    · rw [cond_f (beq_eq_false_iff_ne.2 h8), sameToken_eq k (by simp only; omega), Option.bind_some]
      by_cases hs : t.1 = other.1 ∧ L = L ∧ t.2.1 = other.2.1
      · rw [decide_eq_true hs]; rfl
      · rw [decide_eq_false hs, cond_false]
        have he : lastT (k + 100) (rootT (k + 100) key other.1) other.2.1 = L := by
          unfold proveM at h8
          simp only at h8
          by_cases he : lastT (k + 100) (rootT (k + 100) key other.1) other.2.1 = L
          · exact he
          · rw [if_neg he] at h8; exact absurd rfl h8
        have t1 := refTexts2_eq k (key := key) (t := (t.1, (t.2.1, (L, t.2.2.2)))) (by omega) (by omega) (by simp only; omega) (by simp only; omega) a4
        have t2 := refTexts2_eq k (key := key) (t := (other.1, (other.2.1, (L, other.2.2.2)))) (by omega) (by omega) (by simp only; omega) (by simp only; omega) b4
        have l1 : (textsT (k + 100) key t.1 t.2.1).length = 2 + 2 * t.2.1.length := by unfold textsT; rw [List.length_append, linkTexts_length]; rfl
        have l2 : (textsT (k + 100) key other.1 other.2.1).length = 2 + 2 * other.2.1.length := by unfold textsT; rw [List.length_append, linkTexts_length]; rfl
        simp only at t1 t2
        rw [t1, Option.bind_some, t2, Option.bind_some, cond_t (decide_eq_true (by omega))]
        rcases chains_apart k (id := t.1) (jd := other.1) (by omega) h1 h1 (by omega) (by omega) _ t.2.1 other.2.1 (Nat.le_refl _) a4 b4 (hLe.trans he.symm) with ⟨p, hp, q, hq, hpq, hsum⟩ | h
        · rw [clash_mem (by omega) (by rw [List.length_append]; omega) (fun x hx => ?_) (List.mem_append.2 (.inl hp)) (List.mem_append.2 (.inr hq)) hpq hsum]; rfl
          rcases List.mem_append.1 hx with hx | hx
          · exact textsT_small k (by omega) (by omega) (by omega) a4 x hx
          · exact textsT_small k (by omega) (by omega) (by omega) b4 x hx
        · exact absurd ⟨h.2.1, rfl, h.2.2⟩ hs
  · rw [cond_t (by rw [bne_iff_ne]; omega)]; rfl

end Go.Proofs.YtkipbccgnekoaaaGreatDoorLg

set_option linter.all false
set_option maxRecDepth 100000
namespace Go.Proofs.YtkipbccgnekoaaaGreatDoorLg
open Go Go.Lift Go.Proofs.YtkipbccgnekoaaaGreatDoorPx

theorem works37 (k : Nat) : porterlaw37_works (k + 1100) = some true := by kernel_rfl

end Go.Proofs.YtkipbccgnekoaaaGreatDoorLg
