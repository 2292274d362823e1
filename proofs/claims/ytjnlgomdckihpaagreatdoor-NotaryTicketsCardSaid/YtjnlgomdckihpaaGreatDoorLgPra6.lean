/- The plain functions that the law reaches, what their calls do, and what they give (own work, in one text). -/
import Derived.Test.YtjnlgomdckihpaaGreatDoorLgPra5
import Derived.KernelRfl
/- Layer 5: streams. -/
set_option linter.all false
set_option maxRecDepth 100000
namespace Go.Proofs.YtjnlgomdckihpaaGreatDoorLg
open Go Go.Lift Go.Proofs.YtjnlgomdckihpaaGreatDoorPx

theorem number_raw (k : Nat) (n : Int) : stream_number (k + 9) n = some (toStr (([56, 48, 40, 32, 24, 16, 8, 0] : List Int).map fun j => IntKind.wrap .u8 (shrI .i64 n j))) := by kernel_rfl

theorem number_eq (k : Nat) {n : Nat} (hn : n < 9223372036854775808) : stream_number (k + 9) (n : Int) = some (be8 n) := by
  rw [number_raw]
  have h1 : IntKind.wrap .u64 ((n : Nat) : Int) = (n : Int) := by
    simp [IntKind.wrap, IntKind.signed, IntKind.bits]; omega
  have h2 : ∀ j, shrI .i64 (n : Int) j = shrI .u64 (n : Int) j := fun j => rfl
  unfold be8
  simp only [h1, h2]

theorem refNumber_eq (k : Nat) {n : Nat} (hn : n < 9223372036854775808) : porterref05_number (k + 9) (n : Int) = some (be8 n) := by
  have h : porterref05_number (k + 9) (n : Int) = porterref04_long (k + 9) (n : Int) := by kernel_rfl
  rw [h, long_eq k n hn]

def seed (nonce : List UInt8) (i : Nat) : List (List UInt8) := [[115, 116, 114, 101, 97, 109], nonce, be8 i]
noncomputable def blockL (N : Nat) (key nonce : List UInt8) (i : Nat) : List UInt8 := tagL N key (frameL (seed nonce i))

theorem seed_length (nonce : List UInt8) (i : Nat) : (frameL (seed nonce i)).length = 38 + nonce.length := by
  rw [frameL_length]
  simp [seed, be8_length]; omega

theorem blockL_length (k : Nat) {key nonce : List UInt8} (i : Nat) (hk : 600 ≤ k) (hl : key.length ≤ 30000) (hn : nonce.length ≤ 1000) : (blockL (k + 100) key nonce i).length = 32 :=
  tagL_length k hk hl (by rw [seed_length]; omega)

theorem block_eq (k : Nat) {key nonce : List UInt8} {i : Nat} (hk : 600 ≤ k) (hl : key.length ≤ 30000) (hn : nonce.length ≤ 1000) (hi : i < 9223372036854775808) : stream_Block (k + 100) key nonce (i : Int) = some (blockL (k + 100) key nonce i) := by
  unfold stream_Block
  rw [cond_f (dec_f (by omega)), show stream_number (k + 100) (i : Int) = some (be8 i) from number_eq (k + 91) hi, Option.bind_some]
  rw [show hmac_Parts (k + 100) key ([([(115 : UInt8), (116 : UInt8), (114 : UInt8), (101 : UInt8), (97 : UInt8), (109 : UInt8)] : List UInt8), nonce, be8 i] : List (List UInt8)) = _ from parts_eq k (l := seed nonce i) hk hl (by simp [seed]) (by rw [seed_length]; omega)]
  rfl
theorem refBlock_eq (k : Nat) {key nonce : List UInt8} {i : Nat} (hk : 600 ≤ k) (hl : key.length ≤ 30000) (hn : nonce.length ≤ 1000) (hi : i < 9223372036854775808) : porterref05_Block (k + 100) key nonce (i : Int) = some (blockL (k + 100) key nonce i) := by
  unfold porterref05_Block
  rw [cond_f (dec_f (by omega)), show porterref05_number (k + 100) (i : Int) = some (be8 i) from refNumber_eq (k + 91) hi, Option.bind_some]
  rw [show porterref04_Parts (k + 100) key ([([(115 : UInt8), (116 : UInt8), (114 : UInt8), (101 : UInt8), (97 : UInt8), (109 : UInt8)] : List UInt8), nonce, be8 i] : List (List UInt8)) = _ from refParts_eq k (l := seed nonce i) hk hl (by simp [seed]) (by rw [seed_length]; omega)]
  rfl

noncomputable def firstL (N : Nat) (key nonce : List UInt8) (m : Nat) : List UInt8 := ((List.range m).map (blockL N key nonce)).flatten
noncomputable def takeL (N : Nat) (key nonce : List UInt8) (n : Nat) : List UInt8 := (firstL N key nonce ((n + 31) / 32)).take n

theorem firstL_succ (N : Nat) (key nonce : List UInt8) (m : Nat) : firstL N key nonce (m + 1) = firstL N key nonce m ++ blockL N key nonce m := by
  unfold firstL
  rw [List.range_succ, List.map_append, List.flatten_append]; simp

theorem firstL_length (k : Nat) {key nonce : List UInt8} (hk : 600 ≤ k) (hl : key.length ≤ 30000) (hn : nonce.length ≤ 1000) : ∀ m, (firstL (k + 100) key nonce m).length = 32 * m
  | 0 => rfl
  | m + 1 => by rw [firstL_succ, List.length_append, firstL_length k hk hl hn m, blockL_length k m hk hl hn]; omega

theorem takeL_length (k : Nat) {key nonce : List UInt8} (n : Nat) (hk : 600 ≤ k) (hl : key.length ≤ 30000) (hn : nonce.length ≤ 1000) : (takeL (k + 100) key nonce n).length = n := by
  unfold takeL; rw [List.length_take, firstL_length k hk hl hn]; omega

/-! ## the program -/
theorem blocks_eq (k : Nat) {key nonce : List UInt8} {n : Nat} (hk : 600 ≤ k) (hl : key.length ≤ 30000) (hn : nonce.length ≤ 1000) (h : n ≤ 2000) : stream_blocks1 (k + 100) (n : Int) key nonce = some ((List.range ((n + 31) / 32)).map fun i => (blockL (k + 100) key nonce i, ())) := by
  have hq : IntKind.wrap .i64 (Int.tdiv (IntKind.wrap .i64 ((IntKind.wrap .i64 ((n : Int) + 32)) - 1)) 32) = (((n + 31) / 32 : Nat) : Int) := by
    rw [wrap_in (x := (n : Int) + 32) (by unfold I64; omega), wrap_in (x := (n : Int) + 32 - 1) (by unfold I64; omega), show (n : Int) + 32 - 1 = ((n + 31 : Nat) : Int) by omega]
    rw [show Int.tdiv ((n + 31 : Nat) : Int) 32 = (((n + 31) / 32 : Nat) : Int) from rfl, wrap_in (by unfold I64; omega)]
  unfold stream_blocks1 stream_blocks1_p1
  rw [hq]
  generalize hm : (n + 31) / 32 = m
  have hm2 : m ≤ 100 := by omega
  have main := iter_eq (step := fun (v : Int) r => stream_blocks1_s1 (k + 100) key nonce (m : Int) v (fun x10 => r x10) (some []) (some [])) (I := fun v => ∃ i : Nat, i ≤ m ∧ v = (i : Int)) (m := fun v => m - v.toNat) (R := fun v => some ((List.range' v.toNat (m - v.toNat)).map fun i => (blockL (k + 100) key nonce i, ()))) ?_ (k + 100) 0 ⟨0, by omega, rfl⟩ (by first | omega | (dsimp only; omega))
  · refine main.trans ?_
    try dsimp only
    rw [show (0 : Int).toNat = 0 from rfl, Nat.sub_zero, List.range_eq_range']
  rintro v r ⟨i, hi, rfl⟩ hr
  try dsimp only
  rw [Int.toNat_natCast] at hr ⊢
  unfold stream_blocks1_s1
  by_cases hlt : i < m
  · rw [cond_t (dec_t (by omega)), block_eq k hk hl hn (by omega), Option.bind_some, wrap_succ (by omega)]
    have h2 := hr ((i + 1 : Nat) : Int) ⟨i + 1, by omega, rfl⟩ (by first | omega | (dsimp only; omega))
    try dsimp only
    rw [h2, comb_some, Int.toNat_natCast, show m - i = (m - (i + 1)) + 1 by omega, List.range'_succ]
    rfl
  · rw [cond_f (dec_f (by omega)), show m - i = 0 by omega]; rfl

theorem foldB {N : Nat} (ys : List (List UInt8 × Unit)) (k0 : Unit × (List Int × Unit) → Option (List UInt8)) (h : ((ys.map (·.1)).flatten).length ≤ 70368744177664) :
    iterL (fun (y : (List UInt8 × Unit)) (v : (Unit × ((List Int) × Unit))) r => (strings_Builder_WriteString N v y.1).bind fun y1 => r y1.2.1) k0 ys ((), ([], ())) = k0 ((), (ofStr (ys.map (·.1)).flatten, ())) := by
  rw [iterL_ok (fun (v : Unit × (List Int × Unit)) (ys : List (List UInt8 × Unit)) => v.2.1.length + ((ys.map (·.1)).flatten).length ≤ 70368744177664) (fun v y => ((), (v.2.1 ++ ofStr y.1, ()))) (by
    rintro y ys ⟨u, xs, u'⟩ r hI
    cases u; cases u'
    simp only [List.map_cons, List.flatten_cons, List.length_append] at hI
    refine ⟨?_, by simp only [List.length_append, Go.Proofs.YtjnlgomdckihpaaGreatDoorPx.ofStr_length]; omega⟩
    unfold strings_Builder_WriteString
    rw [cond_t (decide_eq_true (by rw [Go.Proofs.YtjnlgomdckihpaaGreatDoorPx.ofStr_length]; dsimp only; omega)), Option.bind_some]) _ _ (by simpa using h)]
  have hf := fold_out ys []
  have h0 : ofStr ([] : List UInt8) = [] := rfl
  rw [h0] at hf
  rw [hf]; rfl

theorem str_eq (s : List UInt8) (h : s.length ≤ 70368744177664) : str_F (((), (ofStr s, ())), ()) = some (s, (((), ((), ())), ())) := by
  unfold str_F
  dsimp only
  rw [cond_t (by
    rw [Bool.and_eq_true]
    refine ⟨okB_ofStr _, decide_eq_true ?_⟩
    rw [Go.Proofs.YtjnlgomdckihpaaGreatDoorPx.ofStr_length]
    exact Nat.le_trans h (by decide))]
  rw [Go.Proofs.YtjnlgomdckihpaaGreatDoorPx.toStr_ofStr]

theorem take_eq (k : Nat) {key nonce : List UInt8} {n : Nat} (hk : 600 ≤ k) (hl : key.length ≤ 30000) (hn : nonce.length ≤ 1000) (h : n ≤ 2000) : stream_Take (k + 100) key nonce (n : Int) = some (takeL (k + 100) key nonce n) := by
  unfold stream_Take
  by_cases h0 : n < 1
  · rw [cond_t (dec_t (by omega)), show n = 0 by omega]; rfl
  rw [cond_f (dec_f (by omega)), if_neg (by omega)]
  unfold stream_Take_p1 stream_Take_fit1 stream_Take_s1
  rw [blocks_eq k hk hl hn h, Option.bind_some]
  have hfl := firstL_length k (key := key) (nonce := nonce) hk hl hn ((n + 31) / 32)
  have hmap : ((List.range ((n + 31) / 32)).map fun i => (blockL (k + 100) key nonce i, ())).map (·.1) = (List.range ((n + 31) / 32)).map (blockL (k + 100) key nonce) := by
    rw [List.map_map]; rfl
  unfold firstL at hfl
  rw [foldB (N := k + 100) _ _ (by rw [hmap, hfl]; omega), hmap]
  dsimp only
  rw [str_eq _ (by rw [hfl]; omega), Option.bind_some]
  rw [cond_t (dec_t (by rw [hfl]; omega)), Int.toNat_natCast, cut_take]
  rfl

theorem mix_eq (k : Nat) {key nonce text : List UInt8} (hk : 600 ≤ k) (hl : key.length ≤ 30000) (hn : nonce.length ≤ 1000) (h : text.length ≤ 2000) (hkt : text.length < k) : stream_Mix (k + 100) key nonce text = some (xorL text (takeL (k + 100) key nonce text.length)) := by
  unfold stream_Mix
  rw [cond_f (dec_f (by omega)), take_eq k hk hl hn h, Option.bind_some, xor_eq _ (by omega) (by omega)]; rfl

/-! ## the reference -/
theorem refTake_eq (k : Nat) {key nonce : List UInt8} {n : Nat} (hk : 600 ≤ k) (hl : key.length ≤ 30000) (hn : nonce.length ≤ 1000) (h : n ≤ 2000) : porterref05_Take (k + 100) key nonce (n : Int) = some (takeL (k + 100) key nonce n) := by
  unfold porterref05_Take porterref05_Take_p1
  rw [cond_f (dec_f (by omega))]
  dsimp only
  unfold porterref05_Take_p2
  have hfl := firstL_length k (key := key) (nonce := nonce) hk hl hn
  rw [iter_eq (I := fun (v : List UInt8 × Int) => ∃ i : Nat, i ≤ (n + 31) / 32 ∧ v = (firstL (k + 100) key nonce i, (i : Int))) (m := fun v => 100 - v.2.toNat) (R := fun _ => some (takeL (k + 100) key nonce n)) ?_ (k + 100) ([], 0) ⟨0, by omega, rfl⟩ (by dsimp only; omega)]
  rintro v r ⟨i, hi, rfl⟩ hr
  dsimp only at hr ⊢
  unfold porterref05_Take_s2
  by_cases hlt : 32 * i < n
  · rw [cond_t (dec_t (by rw [hfl]; omega)), refBlock_eq k hk hl hn (by omega), Option.bind_some, cond_t (dec_t (by rw [hfl, blockL_length k i hk hl hn]; omega)), wrap_succ (by omega), ← firstL_succ]
    exact hr _ ⟨i + 1, by omega, rfl⟩ (by dsimp only; omega)
  · rw [cond_f (dec_f (by rw [hfl]; omega))]
    have : i = (n + 31) / 32 := by omega
    dsimp only
    by_cases h0 : n < 1
    · rw [cond_t (dec_t (by omega)), show n = 0 by omega]; rfl
    · rw [cond_f (dec_f (by omega)), cond_t (dec_t (by rw [hfl]; omega)), Int.toNat_natCast, cut_take, this]; rfl

theorem refMix_eq (k : Nat) {key nonce text : List UInt8} (hk : 600 ≤ k) (hl : key.length ≤ 30000) (hn : nonce.length ≤ 1000) (h : text.length ≤ 2000) (hkt : text.length < k) : porterref05_Mix (k + 100) key nonce text = some (xorL text (takeL (k + 100) key nonce text.length)) := by
  unfold porterref05_Mix
  rw [cond_f (dec_f (by omega)), refTake_eq k hk hl hn h, Option.bind_some, refXor_eq _ (by omega) (by omega)]; rfl

/-! ## the laws -/end Go.Proofs.YtjnlgomdckihpaaGreatDoorLg

/- Layer 6: boxes. -/
set_option linter.all false
set_option maxRecDepth 100000
namespace Go.Proofs.YtjnlgomdckihpaaGreatDoorLg
open Go Go.Lift Go.Proofs.YtjnlgomdckihpaaGreatDoorPx

/-! ## which texts clash -/
/-! ## boxes -/
noncomputable def hideK (N : Nat) (key : List UInt8) : List UInt8 := tagL N key (frameL [[104, 105, 100, 101]])
noncomputable def tagK (N : Nat) (key : List UInt8) : List UInt8 := tagL N key (frameL [[116, 97, 103]])
noncomputable def boxTag (N : Nat) (key body : List UInt8) : List UInt8 := tagL N (tagK N key) body
noncomputable def hidden (N : Nat) (key nonce text : List UInt8) : List UInt8 := xorL text (takeL N (hideK N key) nonce text.length)
noncomputable def bodyL (N : Nat) (key nonce text : List UInt8) : List UInt8 := nonce ++ hidden N key nonce text
noncomputable def sealL (N : Nat) (key nonce text : List UInt8) : List UInt8 := bodyL N key nonce text ++ boxTag N key (bodyL N key nonce text)

theorem hideFrame : (frameL [[104, 105, 100, 101]]).length = 12 := by rw [frameL_length]; rfl
theorem tagFrame : (frameL [[116, 97, 103]]).length = 11 := by rw [frameL_length]; rfl

theorem hideK_length (k : Nat) {key : List UInt8} (hk : 600 ≤ k) (hl : key.length ≤ 30000) : (hideK (k + 100) key).length = 32 := tagL_length k hk hl (by rw [hideFrame]; omega)
theorem tagK_length (k : Nat) {key : List UInt8} (hk : 600 ≤ k) (hl : key.length ≤ 30000) : (tagK (k + 100) key).length = 32 := tagL_length k hk hl (by rw [tagFrame]; omega)
theorem boxTag_length (k : Nat) {key body : List UInt8} (hk : 600 ≤ k) (hl : key.length ≤ 30000) (hb : body.length ≤ 29900) : (boxTag (k + 100) key body).length = 32 := tagL_length k hk (by rw [tagK_length k hk hl]; omega) hb
theorem hidden_length (k : Nat) {key nonce text : List UInt8} (hk : 600 ≤ k) (hl : key.length ≤ 30000) (hn : nonce.length ≤ 1000) : (hidden (k + 100) key nonce text).length = text.length := by
  unfold hidden; rw [xorL_length, takeL_length k _ hk (by rw [hideK_length k hk hl]; omega) hn, Nat.min_self]
theorem hidden_back (k : Nat) {key nonce text : List UInt8} (hk : 600 ≤ k) (hl : key.length ≤ 30000) (hn : nonce.length ≤ 1000) : hidden (k + 100) key nonce (hidden (k + 100) key nonce text) = text := by
  have h := hidden_length k (text := text) hk hl hn
  have ht := takeL_length k (key := hideK (k + 100) key) (nonce := nonce) text.length hk (by rw [hideK_length k hk hl]; omega) hn
  show xorL (hidden (k + 100) key nonce text) (takeL (k + 100) (hideK (k + 100) key) nonce (hidden (k + 100) key nonce text).length) = text
  rw [h]
  unfold hidden
  rw [xorL_back, ht, Nat.min_self, List.take_length]
theorem bodyL_length (k : Nat) {key nonce text : List UInt8} (hk : 600 ≤ k) (hl : key.length ≤ 30000) (hn : nonce.length = 16) : (bodyL (k + 100) key nonce text).length = 16 + text.length := by
  unfold bodyL; rw [List.length_append, hidden_length k hk hl (by omega), hn]
theorem sealL_length (k : Nat) {key nonce text : List UInt8} (hk : 600 ≤ k) (hl : key.length ≤ 30000) (hn : nonce.length = 16) (ht : text.length ≤ 2000) : (sealL (k + 100) key nonce text).length = 48 + text.length := by
  unfold sealL; rw [List.length_append, bodyL_length k hk hl hn, boxTag_length k hk hl (by rw [bodyL_length k hk hl hn]; omega)]; omega

theorem hideKey_eq (k : Nat) {key : List UInt8} (hk : 600 ≤ k) (hl : key.length ≤ 30000) : box_hideKey (k + 100) key = some (hideK (k + 100) key) := by
  unfold box_hideKey
  rw [parts_eq k hk hl (by simp) (by rw [hideFrame]; omega)]; rfl
theorem boxTag_eq (k : Nat) {key body : List UInt8} (hk : 600 ≤ k) (hl : key.length ≤ 30000) (hb : body.length ≤ 29900) : box_tag (k + 100) key body = some (boxTag (k + 100) key body) := by
  unfold box_tag
  rw [parts_eq k hk hl (by simp) (by rw [tagFrame]; omega), Option.bind_some, tag_eq k hk (by have := tagK_length k hk hl; unfold tagK at this; rw [this]; omega) hb]; rfl

theorem seal_eq (k : Nat) {key nonce text : List UInt8} (hk : 2200 ≤ k) (hl : key.length ≤ 30000) (hn : nonce.length = 16) (ht : text.length ≤ 2000) : box_Seal (k + 100) key nonce text = some (sealL (k + 100) key nonce text, 0, ()) := by
  have h1 := hidden_length k (key := key) (nonce := nonce) (text := text) (by omega) hl (by omega)
  have h2 := bodyL_length k (key := key) (nonce := nonce) (text := text) (by omega) hl hn
  have h3 := boxTag_length k (key := key) (body := bodyL (k + 100) key nonce text) (by omega) hl (by omega)
  unfold box_Seal
  rw [cond_f (by simp [hn]), cond_f (dec_f (by omega)), hideKey_eq k (by omega) hl, Option.bind_some, mix_eq k (by omega) (by rw [hideK_length k (by omega) hl]; omega) (by omega) ht (by omega), Option.bind_some]
  show cond (decide (nonce.length + (hidden (k + 100) key nonce text).length ≤ 9223372036854775807)) ((box_tag (k + 100) key (bodyL (k + 100) key nonce text)).bind fun y2 => cond (decide ((bodyL (k + 100) key nonce text).length + y2.length ≤ 9223372036854775807)) (some ((bodyL (k + 100) key nonce text) ++ y2, ((0 : Int), ()))) none) none = _
  rw [cond_t (dec_t (by omega)), boxTag_eq k (by omega) hl (by omega), Option.bind_some, cond_t (dec_t (by omega))]
  rfl

theorem refSeal_eq (k : Nat) {key nonce text : List UInt8} (hk : 2200 ≤ k) (hl : key.length ≤ 30000) (hn : nonce.length = 16) (ht : text.length ≤ 2000) : porterref06_Seal (k + 100) key nonce text = some (sealL (k + 100) key nonce text, 0, ()) := by
  have h1 := hidden_length k (key := key) (nonce := nonce) (text := text) (by omega) hl (by omega)
  have h2 := bodyL_length k (key := key) (nonce := nonce) (text := text) (by omega) hl hn
  have h3 := boxTag_length k (key := key) (body := bodyL (k + 100) key nonce text) (by omega) hl (by omega)
  have h4 := tagK_length k (key := key) (by omega) hl
  unfold porterref06_Seal
  rw [cond_f (by simp [hn]), cond_f (dec_f (by omega)), refParts_eq k (by omega) hl (by simp) (by rw [hideFrame]; omega), Option.bind_some]
  show ((porterref05_Mix (k + 100) (hideK (k + 100) key) nonce text).bind _) = _
  rw [refMix_eq k (by omega) (by rw [hideK_length k (by omega) hl]; omega) (by omega) ht (by omega), Option.bind_some, refParts_eq k (by omega) hl (by simp) (by rw [tagFrame]; omega), Option.bind_some]
  show cond (decide (nonce.length + (hidden (k + 100) key nonce text).length ≤ 9223372036854775807)) ((porterref04_Sum (k + 100) (tagK (k + 100) key) (bodyL (k + 100) key nonce text)).bind fun y2 => cond (decide ((bodyL (k + 100) key nonce text).length + y2.length ≤ 9223372036854775807)) (some ((bodyL (k + 100) key nonce text) ++ y2, ((0 : Int), ()))) none) none = _
  rw [cond_t (dec_t (by omega)), refTag_eq k (by omega) (by omega) (by omega), Option.bind_some]
  show cond (decide ((bodyL (k + 100) key nonce text).length + (boxTag (k + 100) key (bodyL (k + 100) key nonce text)).length ≤ 9223372036854775807)) _ _ = _
  rw [cond_t (dec_t (by omega))]
  rfl

theorem seal_arg (N : Nat) {key nonce text : List UInt8} (hn : nonce.length ≠ 16) : box_Seal N key nonce text = some ([], 7, ()) ∧ porterref06_Seal N key nonce text = some ([], 7, ()) := by
  unfold box_Seal porterref06_Seal
  rw [cond_t (by rw [bne_iff_ne]; omega), cond_t (by rw [bne_iff_ne]; omega)]; exact ⟨rfl, rfl⟩
theorem seal_limit (N : Nat) {key nonce text : List UInt8} (hn : nonce.length = 16) (ht : 4096 < text.length) : box_Seal N key nonce text = some ([], 3, ()) ∧ porterref06_Seal N key nonce text = some ([], 3, ()) := by
  have e : ((((List.length nonce) : Nat) : Int) != (16 : Int)) = false := by simp [hn]
  have e2 : decide ((4096 : Int) < (((List.length text) : Nat) : Int)) = true := dec_t (by omega)
  unfold box_Seal porterref06_Seal
  simp only [e, e2, cond_false, cond_true, and_self]

/-- is the end the tag of what is ahead of it -/
noncomputable def fits (N : Nat) (key s : List UInt8) : Bool := s.drop (s.length - 32) == boxTag N key (s.take (s.length - 32))
noncomputable def openT (N : Nat) (key s : List UInt8) : List UInt8 := hidden N key (s.take 16) ((s.take (s.length - 32)).drop 16)

theorem wlen {s : List UInt8} (h : 48 ≤ s.length) (h2 : s.length ≤ 5000) : IntKind.wrap .i64 ((s.length : Int) - 32) = ((s.length - 32 : Nat) : Int) := by
  rw [wrap_in (by unfold I64; omega)]; omega

theorem check_eq (k : Nat) {key s : List UInt8} (hk : 2200 ≤ k) (hl : key.length ≤ 30000) (h1 : 48 ≤ s.length) (h2 : s.length ≤ 4144) : box_check (k + 100) key s = some (cond (fits (k + 100) key s) 0 8) := by
  have hd : (s.drop (s.length - 32)).length = 32 := by rw [List.length_drop]; omega
  unfold box_check
  rw [cond_f (dec_f (by omega)), cond_f (dec_f (by omega)), wlen h1 (by omega), cond_t (dec_t (by omega)), cond_t (dec_t (by omega)), Int.toNat_natCast, cut_take, boxTag_eq k (by omega) hl (by rw [List.length_take]; omega), Option.bind_some, cut_all, same_eq _ (by omega) (by omega), Option.bind_some, hd]
  show cond (!(decide ((32 : Nat) = 32) && fits (k + 100) key s)) (some 8) (some 0) = _
  cases fits (k + 100) key s <;> rfl

theorem open_eq (k : Nat) {key s : List UInt8} (hk : 2200 ≤ k) (hl : key.length ≤ 30000) (h1 : 48 ≤ s.length) (h2 : s.length ≤ 2000) : box_Open (k + 100) key s = some (cond (fits (k + 100) key s) (openT (k + 100) key s, 0, ()) ([], 8, ())) := by
  unfold box_Open
  rw [check_eq k hk hl h1 (by omega), Option.bind_some]
  cases hf : fits (k + 100) key s with
  | false => rfl
  | true =>
    have hm : (cut s 16 (s.length - 32)).length ≤ 2000 := by unfold cut; rw [List.length_drop, List.length_take]; omega
    unfold box_Open1
    rw [show cond true (0 : Int) 8 = 0 from rfl, cond_t (by rfl), hideKey_eq k (by omega) hl, Option.bind_some]
    have hn : box_Nonce (k + 100) s = some (s.take 16) := by
      unfold box_Nonce
      rw [cond_f (dec_f (by omega)), cond_t (dec_t (by omega)), cut_take]
    rw [hn, Option.bind_some, wlen h1 (by omega), cond_t (dec_t (by omega)), cond_t (dec_t (by omega)), Int.toNat_natCast, mix_eq k (by omega) (by rw [hideK_length k (by omega) hl]; omega) (by rw [List.length_take]; omega) hm (by omega), Option.bind_some, Option.bind_some]
    rfl

theorem open_short (N : Nat) {key s : List UInt8} (h1 : s.length < 48) : box_Open N key s = some ([], 1, ()) ∧ porterref06_Open N key s = some ([], 1, ()) := by
  have e : decide ((((List.length s) : Nat) : Int) < (48 : Int)) = true := dec_t (by omega)
  unfold box_Open box_check porterref06_Open
  simp only [e, cond_true]
  exact ⟨rfl, trivial⟩
theorem parts3 {s : List UInt8} (h : 48 ≤ s.length) : s.take 16 ++ (s.take (s.length - 32)).drop 16 = s.take (s.length - 32) := by
  have : s.take 16 = (s.take (s.length - 32)).take 16 := by rw [List.take_take, Nat.min_eq_left (by omega)]
  rw [this, List.take_append_drop]

/-- what is opened is sealed again -/
theorem again (k : Nat) {key s : List UInt8} (hk : 2200 ≤ k) (hl : key.length ≤ 30000) (h1 : 48 ≤ s.length) (h2 : s.length ≤ 2000) : sealL (k + 100) key (s.take 16) (openT (k + 100) key s) = s.take (s.length - 32) ++ boxTag (k + 100) key (s.take (s.length - 32)) := by
  have hb : bodyL (k + 100) key (s.take 16) (openT (k + 100) key s) = s.take (s.length - 32) := by
    unfold bodyL openT
    rw [hidden_back k (by omega) hl (by rw [List.length_take]; omega), parts3 h1]
  unfold sealL
  rw [hb]

theorem again_fits (k : Nat) {key s : List UInt8} (hk : 2200 ≤ k) (hl : key.length ≤ 30000) (h1 : 48 ≤ s.length) (h2 : s.length ≤ 2000) : (sealL (k + 100) key (s.take 16) (openT (k + 100) key s) == s) = fits (k + 100) key s := by
  rw [again k hk hl h1 h2, Bool.eq_iff_iff, beq_iff_eq]
  unfold fits
  rw [beq_iff_eq]
  constructor
  · intro h
    have h3 : s.take (s.length - 32) ++ boxTag (k + 100) key (s.take (s.length - 32)) = s.take (s.length - 32) ++ s.drop (s.length - 32) := by rw [h, List.take_append_drop]
    exact (List.append_cancel_left h3).symm
  · intro h; rw [← h, List.take_append_drop]

theorem openT_length (k : Nat) {key s : List UInt8} (hk : 600 ≤ k) (hl : key.length ≤ 30000) (h1 : 48 ≤ s.length) : (openT (k + 100) key s).length = s.length - 48 := by
  unfold openT
  rw [hidden_length k hk hl (by rw [List.length_take]; omega), List.length_drop, List.length_take]; omega

theorem refOpen_eq (k : Nat) {key s : List UInt8} (hk : 2200 ≤ k) (hl : key.length ≤ 30000) (h1 : 48 ≤ s.length) (h2 : s.length ≤ 2000) : porterref06_Open (k + 100) key s = some (cond (fits (k + 100) key s) (openT (k + 100) key s, 0, ()) ([], 8, ())) := by
  have hm : (cut s 16 (s.length - 32)).length ≤ 2000 := by unfold cut; rw [List.length_drop, List.length_take]; omega
  have ho := openT_length k (key := key) (s := s) (by omega) hl h1
  have h16 : (s.take 16).length = 16 := by rw [List.length_take]; omega
  unfold porterref06_Open
  rw [cond_f (dec_f (by omega)), cond_f (dec_f (by omega)), refParts_eq k (by omega) hl (by simp) (by rw [hideFrame]; omega), Option.bind_some, wlen h1 (by omega), cond_t (dec_t (by omega)), cond_t (dec_t (by omega)), cond_t (dec_t (by omega)), Int.toNat_natCast, cut_take s 16]
  show ((porterref05_Mix (k + 100) (hideK (k + 100) key) (s.take 16) (cut s 16 (s.length - 32))).bind _) = _
  rw [refMix_eq k (by omega) (by rw [hideK_length k (by omega) hl]; omega) (by omega) hm (by omega), Option.bind_some, cond_t (dec_t (by omega))]
  show ((porterref06_Seal (k + 100) key (s.take 16) (openT (k + 100) key s)).bind fun y2 => cond (!(y2.1 == s)) (some (([] : List UInt8), ((8 : Int), ()))) (some (openT (k + 100) key s, ((0 : Int), ())))) = _
  rw [refSeal_eq k hk hl h16 (by omega), Option.bind_some]
  show cond (!(sealL (k + 100) key (s.take 16) (openT (k + 100) key s) == s)) _ _ = _
  rw [again_fits k hk hl h1 h2]
  cases fits (k + 100) key s <;> rfl

/-! ## the laws -/
end Go.Proofs.YtjnlgomdckihpaaGreatDoorLg

/- Layer 34: chains of tags. -/
set_option linter.all false
set_option maxRecDepth 100000
namespace Go.Proofs.YtjnlgomdckihpaaGreatDoorLg
open Go Go.Lift Go.Proofs.YtjnlgomdckihpaaGreatDoorPx

abbrev Lk : Type := List UInt8 × List UInt8 × Unit
abbrev Tk : Type := List UInt8 × List Lk × List UInt8 × Unit

def partsOf (l : Lk) : List (List UInt8) := cond (l.2.1 == ([] : List UInt8)) [[102, 105, 114, 115, 116], l.1] [[116, 104, 105, 114, 100], l.2.1, l.1]
def rootParts (id : List UInt8) : List (List UInt8) := [[114, 111, 111, 116], id]
noncomputable def nextT (N : Nat) (t : List UInt8) (l : Lk) : List UInt8 := tagL N t (frameL (partsOf l))
noncomputable def rootT (N : Nat) (key id : List UInt8) : List UInt8 := tagL N key (frameL (rootParts id))
noncomputable def lastT (N : Nat) (t : List UInt8) (ls : List Lk) : List UInt8 := ls.foldl (nextT N) t
noncomputable def tagsT (N : Nat) : List UInt8 → List Lk → List (List UInt8)
  | t, [] => [t]
  | t, l :: ls => t :: tagsT N (nextT N t l) ls

def small (l : Lk) : Prop := l.1.length ≤ 4200 ∧ l.2.1.length ≤ 4200

theorem parts_length {l : Lk} (h : small l) : (frameL (partsOf l)).length ≤ 8500 ∧ (partsOf l).length ≤ 3 := by
  unfold small at h
  unfold partsOf
  cases l.2.1 == ([] : List UInt8) with
  | true => rw [cond_true, frameL_length]; simp; omega
  | false => rw [cond_false, frameL_length]; simp; omega

theorem root_length {id : List UInt8} : (frameL (rootParts id)).length = 20 + id.length := by
  rw [frameL_length]; simp [rootParts]; omega

theorem nextT_length (k : Nat) {t : List UInt8} {l : Lk} (hk : 600 ≤ k) (ht : t.length ≤ 30000) (hl : small l) : (nextT (k + 100) t l).length = 32 := by
  have := parts_length hl
  exact tagL_length k hk ht (by omega)

theorem lastT_nil (N : Nat) (t : List UInt8) : lastT N t [] = t := rfl
theorem lastT_cons (N : Nat) (t : List UInt8) (l : Lk) (ls : List Lk) : lastT N t (l :: ls) = lastT N (nextT N t l) ls := rfl
/-! ## the program -/
theorem root_eq (k : Nat) {key id : List UInt8} (hk : 600 ≤ k) (hl : key.length ≤ 30000) (hi : id.length ≤ 8000) : chain_Root (k + 100) key id = some (rootT (k + 100) key id) := by
  unfold chain_Root
  rw [show hmac_Parts (k + 100) key [[114, 111, 111, 116], id] = some (rootT (k + 100) key id) from parts_eq k (l := rootParts id) hk hl (by simp [rootParts]) (by rw [root_length]; omega)]
  rfl

theorem next_eq (k : Nat) {t : List UInt8} {l : Lk} (hk : 600 ≤ k) (ht : t.length ≤ 30000) (hl : small l) : chain_tag_next (k + 100) t l = some (nextT (k + 100) t l) := by
  have hp := parts_length hl
  unfold chain_tag_next
  have h := parts_eq k (key := t) (l := partsOf l) hk ht (by omega) (by omega)
  unfold nextT
  unfold partsOf at h ⊢
  cases hc : l.2.1 == ([] : List UInt8) with
  | true => rw [hc, cond_true] at h; rw [cond_true, cond_true, h]; rfl
  | false => rw [hc, cond_false] at h; rw [cond_false, cond_false, h]; rfl

theorem along_eq (k : Nat) {t : List UInt8} {ls : List Lk} (hk : 600 ≤ k) (ht : t.length = 32) (hn : ls.length ≤ 500) (hl : ∀ l ∈ ls, small l) : chain_along1 (k + 100) t ls () = some ((tagsT (k + 100) t ls).map fun x => (x, ())) := by
  have key : ∀ (d i : Nat) (u : List UInt8), i + d = ls.length → u.length = 32 → ∀ n, d < n →
      iter (fun (v : List UInt8 × Int) r => chain_along1_s1 (k + 100) () ls ((ls.length : Nat) : Int) v.1 v.2 (fun t x15 => r (t, x15)) (some []) (some [])) n (u, (i : Int)) = some ((tagsT (k + 100) u (ls.drop i)).tail.map fun x => (x, ())) := by
    intro d
    induction d with
    | zero =>
      intro i u hi hu n hn
      obtain ⟨n, rfl⟩ : ∃ m, n = m + 1 := ⟨n - 1, by omega⟩
      simp only [iter]
      unfold chain_along1_s1
      rw [cond_f (dec_f (by omega)), drop_nil' ls (by omega)]; rfl
    | succ d ih =>
      intro i u hi hu n hn
      obtain ⟨n, rfl⟩ : ∃ m, n = m + 1 := ⟨n - 1, by omega⟩
      have hlt : i < ls.length := by omega
      have hs := hl _ (getD_mem ls ([], [], ()) i hlt)
      have h2 := ih (i + 1) (nextT (k + 100) u (ls.getD i ([], [], ()))) (by omega) (nextT_length k hk (by omega) hs) n (by omega)
      simp only [iter]
      unfold chain_along1_s1 at h2 ⊢
      rw [cond_t (dec_t (by omega)), cond_t (inR_nat hlt), Int.toNat_natCast, next_eq k hk (by omega) hs, Option.bind_some, wrap_succ (by omega)]
      dsimp only
      rw [h2, comb_some, drop_cons ls ([], [], ()) i hlt]
      cases hd : ls.drop (i + 1) <;> rfl
  unfold chain_along1 chain_along1_p1
  rw [show (0 : Int) = ((0 : Nat) : Int) from rfl, key ls.length 0 t (by omega) ht (k + 100) (by omega), comb_some, List.drop_zero]
  cases ls <;> rfl

theorem last_eq (k : Nat) {key : List UInt8} {t : Tk} (hk : 600 ≤ k) (hl : key.length ≤ 30000) (hi : t.1.length ≤ 8000) (hn : t.2.1.length ≤ 100) (hs : ∀ l ∈ t.2.1, small l) : chain_Last (k + 100) key t = some (lastT (k + 100) (rootT (k + 100) key t.1) t.2.1) := by
  have hr : (rootT (k + 100) key t.1).length = 32 := tagL_length k (key := key) (text := frameL (rootParts t.1)) hk hl (by rw [root_length]; omega)
  unfold chain_Last
  rw [root_eq k hk hl hi, Option.bind_some]
  unfold chain_Last_p1 chain_Last_fit1
  dsimp only
  rw [along_eq k hk hr (by omega) hs, Option.bind_some]
  rw [iterL_ok (step := fun (y : List UInt8 × Unit) (v : List UInt8) r => chain_Last_s1 (k + 100) v y (fun last_1 => r last_1) fun last_1 => some last_1) (fin := fun v => some v) (fun _ _ => True) (fun v y => y.1) (fun y ys v r _ => ⟨rfl, trivial⟩) _ _ trivial]
  have : ∀ (ls : List Lk) (u a : List UInt8), ((tagsT (k + 100) u ls).map fun x => (x, ())).foldl (fun v (y : List UInt8 × Unit) => y.1) a = lastT (k + 100) u ls := by
    intro ls
    induction ls with
    | nil => intro u a; rfl
    | cons l ls ih => intro u a; rw [tagsT, List.map_cons, List.foldl_cons, ih]; rfl
  rw [this]

/-! ## the reference -/
theorem refParts (N : Nat) (l : Lk) : porterref34_NextParts N l = some (partsOf l) := by
  unfold porterref34_NextParts partsOf
  cases l.2.1 == ([] : List UInt8) <;> rfl

theorem refNext_eq (k : Nat) {t : List UInt8} {l : Lk} (hk : 600 ≤ k) (ht : t.length ≤ 30000) (hl : small l) : porterref04_Parts (k + 100) t (partsOf l) = some (nextT (k + 100) t l) := by
  have hp := parts_length hl
  unfold nextT
  exact refParts_eq k hk ht (by omega) (by omega)

/-! ## unlike tokens -/
def Clashes (N : Nat) (A B : List (List UInt8)) : Prop := ∃ p ∈ A, ∃ q ∈ B, p ≠ q ∧ sumL N p = sumL N q

theorem Clashes.mono {N : Nat} {A B A' B' : List (List UInt8)} (hA : ∀ p ∈ A, p ∈ A') (hB : ∀ p ∈ B, p ∈ B') : Clashes N A B → Clashes N A' B'
  | ⟨p, hp, q, hq, h⟩ => ⟨p, hA p hp, q, hB q hq, h⟩
end Go.Proofs.YtjnlgomdckihpaaGreatDoorLg

/- Layer 34: the laws. -/
set_option linter.all false
set_option maxRecDepth 100000
namespace Go.Proofs.YtjnlgomdckihpaaGreatDoorLg
open Go Go.Lift Go.Proofs.YtjnlgomdckihpaaGreatDoorPx

theorem sameToken_eq (k : Nat) {a b : Tk} (ha : a.2.1.length ≤ 90) : porterbase_SameToken (k + 100) a b = some (decide (a.1 = b.1 ∧ a.2.2.1 = b.2.2.1 ∧ a.2.1 = b.2.1)) := by
  unfold porterbase_SameToken porterbase_SameToken_p1 porterbase_SameToken_p2
  by_cases h1 : ¬ a.1 = b.1
  · rw [cond_t (by simpa using h1), decide_eq_false (fun h => h1 h.1)]; rfl
  replace h1 := Classical.not_not.1 h1
  rw [cond_f (by simpa using h1)]
  by_cases h2 : ¬ a.2.2.1 = b.2.2.1
  · rw [cond_t (by simpa using h2), decide_eq_false (fun h => h2 h.2.1)]; rfl
  replace h2 := Classical.not_not.1 h2
  rw [cond_f (by simpa using h2)]
  by_cases h3 : ¬ a.2.1.length = b.2.1.length
  · rw [show ((((List.length a.2.1) : Nat) : Int) != (((List.length b.2.1) : Nat) : Int)) = true by rw [bne_iff_ne]; omega, decide_eq_false (fun h => h3 (by rw [h.2.2]))]; rfl
  replace h3 := Classical.not_not.1 h3
  rw [show ((((List.length a.2.1) : Nat) : Int) != (((List.length b.2.1) : Nat) : Int)) = false by simp [h3]]
  dsimp only
  rw [cond_false]
  unfold porterbase_SameToken_p3
  rw [iter_eq (I := fun (v : Int) => ∃ i : Nat, i ≤ a.2.1.length ∧ v = (i : Int)) (m := fun v => a.2.1.length - v.toNat) (R := fun v => some (decide (a.2.1.drop v.toNat = b.2.1.drop v.toNat))) ?_ (k + 100) 0 ⟨0, by omega, rfl⟩ (by omega)]
  · rw [show (0 : Int).toNat = 0 from rfl, List.drop_zero, List.drop_zero]
    refine congrArg some ?_
    rw [Bool.eq_iff_iff, decide_eq_true_eq, decide_eq_true_eq]
    exact ⟨fun h => ⟨h1, h2, h⟩, fun h => h.2.2⟩
  rintro v r ⟨i, hi, rfl⟩ hr
  rw [Int.toNat_natCast] at hr ⊢
  unfold porterbase_SameToken_s3
  by_cases hlt : i < a.2.1.length
  · have hd : ∀ l : List Lk, i < l.length → l.drop i = l.getD i ([], [], ()) :: l.drop (i + 1) := fun l h => drop_cons l ([], [], ()) i h
    rw [cond_t (dec_t (by omega)), cond_t (inR_nat hlt), cond_t (inR_nat (by omega)), Int.toNat_natCast, hd _ hlt, hd _ (by omega), wrap_succ (by omega)]
    by_cases he : a.2.1.getD i ([], [], ()) = b.2.1.getD i ([], [], ())
    · rw [cond_f (by rw [he, eqD_self (by rfl)]; rfl)]
      refine (hr ((i + 1 : Nat) : Int) ⟨i + 1, by omega, rfl⟩ (by omega)).trans ?_
      rw [Int.toNat_natCast, he]
      refine congrArg some ?_
      rw [Bool.eq_iff_iff, decide_eq_true_eq, decide_eq_true_eq]
      exact ⟨fun h => by rw [h], fun h => (List.cons.inj h).2⟩
    · have hne : eqD (T.pair T.str (T.pair T.str T.unit)) (a.2.1.getD i ([], [], ())) (b.2.1.getD i ([], [], ())) = false := by
        cases hq : eqD (T.pair T.str (T.pair T.str T.unit)) (a.2.1.getD i ([], [], ())) (b.2.1.getD i ([], [], ())) with
        | false => rfl
        | true => exact absurd ((eqD_iff (T.pair T.str (T.pair T.str T.unit)) _ _ rfl).1 hq) he
      rw [hne, Bool.not_false, cond_true]
      exact congrArg some (decide_eq_false (fun h => he (List.cons.inj h).1)).symm
  · rw [cond_f (dec_f (by omega)), drop_nil' a.2.1 (by omega), drop_nil' b.2.1 (by omega)]; rfl

end Go.Proofs.YtjnlgomdckihpaaGreatDoorLg

/- Layer 35: adding, beside the document's. -/
set_option linter.all false
set_option maxRecDepth 100000
namespace Go.Proofs.YtjnlgomdckihpaaGreatDoorLg
open Go Go.Lift Go.Proofs.YtjnlgomdckihpaaGreatDoorPx

theorem clone_eq (N : Nat) {t : Tk} (h : t.2.1.length ≤ 1000) : holder_clone N t = some t := by
  obtain ⟨i, l, g, u⟩ := t
  cases u
  unfold holder_clone clone_link
  rw [show decide (List.length (i, l, g, ()).2.1 * 32 ≤ 140737488355328) = true from decide_eq_true (by simp only at h ⊢; omega)]
  rfl

noncomputable def withT (N : Nat) (t : Tk) (l : Lk) : Tk := (t.1, t.2.1 ++ [l], nextT N t.2.2.1 l, ())
def zeroT : Tk := ([], [], [], ())
theorem chainNext_eq (k : Nat) {t : List UInt8} {l : Lk} (hk : 600 ≤ k) (ht : t.length ≤ 30000) (hl : small l) : chain_Next (k + 100) t l = some (nextT (k + 100) t l) := by
  rw [chain_Next, next_eq k hk ht hl]; rfl

theorem token_eq (k : Nat) {t : Tk} {l : Lk} (hk : 600 ≤ k) (hn : t.2.1.length ≤ 100) (ht : t.2.2.1.length ≤ 30000) (hl : small l) : holder_addition_token (k + 100) (l, (t, ())) = some (withT (k + 100) t l) := by
  rw [holder_addition_token, show (l, (t, ())).2.1 = t from rfl, clone_eq (k + 100) (by omega), Option.bind_some, cond_t (decide_eq_true (by omega)), chainNext_eq k hk ht hl]
  rfl

theorem hwith_eq (k : Nat) {t : Tk} {l : Lk} (hk : 600 ≤ k) (hn : t.2.1.length ≤ 100) (ht : t.2.2.1.length ≤ 30000) (hl : small l) : porterref35_with (k + 100) t l = some (withT (k + 100) t l) := by
  rw [porterref35_with, cond_t (decide_eq_true (by omega)), cond_t (decide_eq_true (by rw [List.nil_append]; omega)), refParts, Option.bind_some, refNext_eq k hk ht hl, Option.bind_some, List.nil_append]
  rfl

noncomputable def addR (N : Nat) (t : Tk) (text : List UInt8) : Tk × Int × Unit := if 64 ≤ t.2.1.length ∨ 2048 < text.length then (zeroT, 3, ()) else (withT N t (text, [], ()), 0, ())

theorem add_pre1 {N : Nat} {t : Tk} {text : List UInt8} :
    holder_Add N t text = (if 64 ≤ t.2.1.length ∨ 2048 < text.length then some (zeroT, 3, ()) else (holder_addition_token N ((text, [], ()), t, ())).bind fun y2 => some (y2, 0, ())) := by
  simp only [holder_Add, holder_Add_p1, holder_Add_p2]
  by_cases h1 : 64 ≤ t.2.1.length
  · rw [if_pos (.inl h1), show decide ((64 : Int) ≤ ((t.2.1.length : Nat) : Int)) = true from decide_eq_true (by omega)]; rfl
  · rw [show decide ((64 : Int) ≤ ((t.2.1.length : Nat) : Int)) = false from decide_eq_false (by omega)]
    by_cases h2 : 2048 < text.length
    · rw [if_pos (.inr h2), show decide ((2048 : Int) < ((text.length : Nat) : Int)) = true from decide_eq_true (by omega)]; rfl
    · rw [if_neg (by omega), show decide ((2048 : Int) < ((text.length : Nat) : Int)) = false from decide_eq_false (by omega)]; rfl

theorem hadd1_eq (k : Nat) {t : Tk} {text : List UInt8} (hk : 600 ≤ k) (hn : t.2.1.length ≤ 100) (ht : t.2.2.1.length ≤ 30000) : holder_Add (k + 100) t text = some (addR (k + 100) t text) := by
  unfold addR
  rw [add_pre1]
  by_cases h : 64 ≤ t.2.1.length ∨ 2048 < text.length
  · rw [if_pos h, if_pos h]
  · have hs : small (text, [], ()) := ⟨by simp only; omega, by simp⟩
    rw [if_neg h, if_neg h, token_eq k hk hn ht hs]; rfl

theorem add_pre2 {N : Nat} {t : Tk} {text : List UInt8} :
    porterref35_Add N t text = (if 64 ≤ t.2.1.length ∨ 2048 < text.length then some (zeroT, 3, ()) else (porterref35_with N t (text, [], ())).bind fun y2 => some (y2, 0, ())) := by
  simp only [porterref35_Add, porterref35_Add_p1, porterref35_Add_p2]
  by_cases h1 : 64 ≤ t.2.1.length
  · rw [if_pos (.inl h1), show decide ((64 : Int) ≤ ((t.2.1.length : Nat) : Int)) = true from decide_eq_true (by omega)]; rfl
  · rw [show decide ((64 : Int) ≤ ((t.2.1.length : Nat) : Int)) = false from decide_eq_false (by omega)]
    by_cases h2 : 2048 < text.length
    · rw [if_pos (.inr h2), show decide ((2048 : Int) < ((text.length : Nat) : Int)) = true from decide_eq_true (by omega)]; rfl
    · rw [if_neg (by omega), show decide ((2048 : Int) < ((text.length : Nat) : Int)) = false from decide_eq_false (by omega)]; rfl

theorem radd_eq (k : Nat) {t : Tk} {text : List UInt8} (hk : 600 ≤ k) (hn : t.2.1.length ≤ 100) (ht : t.2.2.1.length ≤ 30000) : porterref35_Add (k + 100) t text = some (addR (k + 100) t text) := by
  unfold addR
  rw [add_pre2]
  by_cases h : 64 ≤ t.2.1.length ∨ 2048 < text.length
  · rw [if_pos h, if_pos h]
  · have hs : small (text, [], ()) := ⟨by simp only; omega, by simp⟩
    rw [if_neg h, if_neg h, hwith_eq k hk hn ht hs]; rfl

theorem same_self (k : Nat) {a : Tk} (ha : a.2.1.length ≤ 90) : porterbase_SameToken (k + 100) a a = some true := by
  rw [sameToken_eq k ha, decide_eq_true ⟨rfl, rfl, rfl⟩]
end Go.Proofs.YtjnlgomdckihpaaGreatDoorLg

/- Lists of short texts. -/
set_option linter.all false
namespace Go.Proofs.YtjnlgomdckihpaaGreatDoorLg
open Go Go.Lift Go.Proofs.YtjnlgomdckihpaaGreatDoorPx

theorem short_eq (N : Nat) {l : List (List UInt8)} {many most : Nat} (hm : many ≤ 1000) (hmo : most ≤ 1000000) (hN : many < N) : porterbase_Short N l (many : Int) (most : Int) = some (decide (l.length ≤ many ∧ l.flatten.length ≤ most)) := by
  simp only [porterbase_Short, porterbase_Short_p1]
  by_cases h : many < l.length
  · rw [cond_t (dec_t (by omega)), decide_eq_false (by omega)]
  rw [cond_f (dec_f (by omega)), iter_eq (I := fun (v : Int × Int) => ∃ (x i : Nat), v = ((x : Int), (i : Int)) ∧ i ≤ l.length ∧ x ≤ most) (m := fun (v : Int × Int) => l.length - v.2.toNat) (R := fun (v : Int × Int) => some (decide ((l.drop v.2.toNat).flatten.length ≤ v.1.toNat))) ?_ N ((most : Int), 0) ⟨most, 0, rfl, by omega, by omega⟩ (by simp; omega)]
  · simp only [Int.toNat_zero, List.drop_zero, Int.toNat_natCast]
    congr 1; rw [Bool.eq_iff_iff, decide_eq_true_eq, decide_eq_true_eq]; omega
  rintro v r ⟨x, i, rfl, hi, hx⟩ hr
  simp only [porterbase_Short_s1, Int.toNat_natCast] at *
  by_cases hlt : i < l.length
  · have hd := drop_cons l [] i hlt
    have hfl : (l.drop i).flatten.length = (l.getD i []).length + (l.drop (i + 1)).flatten.length := by rw [hd, List.flatten_cons, List.length_append]
    rw [cond_t (dec_t (by omega)), cond_t (inR_nat hlt), cond_t (inR_nat hlt)]
    by_cases hover : x < (l.getD i []).length
    · rw [cond_t (dec_t (by omega))]
      exact congrArg some (decide_eq_false (by omega)).symm
    · have hw : IntKind.wrap .i64 ((x : Int) - (((l.getD i []).length : Nat) : Int)) = ((x - (l.getD i []).length : Nat) : Int) := by rw [wrap_in (by unfold I64; omega)]; omega
      rw [cond_f (dec_f (by omega)), hw, wrap_succ (by omega), hr _ ⟨x - (l.getD i []).length, i + 1, rfl, by omega, by omega⟩ (by dsimp only; omega)]
      dsimp only
      rw [Int.toNat_natCast, Int.toNat_natCast]
      congr 1; rw [Bool.eq_iff_iff, decide_eq_true_eq, decide_eq_true_eq]; omega
  · have hfl : (l.drop i).flatten.length = 0 := by rw [drop_nil' l (by omega)]; rfl
    rw [cond_f (dec_f (by omega))]
    exact congrArg some (decide_eq_true (by omega)).symm


end Go.Proofs.YtjnlgomdckihpaaGreatDoorLg

/- Layer 6: the laws on opening. -/
set_option linter.all false
set_option maxRecDepth 100000
namespace Go.Proofs.YtjnlgomdckihpaaGreatDoorLg
open Go Go.Lift Go.Proofs.YtjnlgomdckihpaaGreatDoorPx

theorem fits_seal (k : Nat) {key nonce text : List UInt8} (hk : 2200 ≤ k) (hl : key.length ≤ 30000) (hn : nonce.length = 16) (ht : text.length ≤ 1900) :
    fits (k + 100) key (sealL (k + 100) key nonce text) = true ∧ openT (k + 100) key (sealL (k + 100) key nonce text) = text := by
  have h1 := bodyL_length k (key := key) (nonce := nonce) (text := text) (by omega) hl hn
  have h2 := sealL_length k (key := key) (nonce := nonce) (text := text) (by omega) hl hn (by omega)
  have e1 : (sealL (k + 100) key nonce text).take ((sealL (k + 100) key nonce text).length - 32) = bodyL (k + 100) key nonce text := by
    rw [h2]
    unfold sealL
    rw [List.take_append_of_le_length (by omega), List.take_of_length_le (by omega)]
  have e2 : (sealL (k + 100) key nonce text).drop ((sealL (k + 100) key nonce text).length - 32) = boxTag (k + 100) key (bodyL (k + 100) key nonce text) := by
    rw [h2]
    unfold sealL
    rw [List.drop_append_of_le_length (by omega), List.drop_of_length_le (by omega)]; rfl
  have e3 : (sealL (k + 100) key nonce text).take 16 = nonce := by
    unfold sealL bodyL
    rw [List.append_assoc, List.take_append_of_le_length (by omega), List.take_of_length_le (by omega)]
  constructor
  · unfold fits
    rw [e1, e2, beq_self_eq_true]
  · unfold openT
    rw [e1, e3]
    have : (bodyL (k + 100) key nonce text).drop 16 = hidden (k + 100) key nonce text := by
      unfold bodyL
      rw [List.drop_append_of_le_length (by omega), List.drop_of_length_le (by omega)]; rfl
    rw [this, hidden_back k (by omega) hl (by omega)]
end Go.Proofs.YtjnlgomdckihpaaGreatDoorLg

/- Layer 4: frames are split again: the program and the reference. -/
set_option linter.all false
set_option maxRecDepth 100000
namespace Go.Proofs.YtjnlgomdckihpaaGreatDoorLg
open Go Go.Lift Go.Proofs.YtjnlgomdckihpaaGreatDoorPx

/-! ## the program -/
theorem or8 {n b : Nat} (hn : n < 72057594037927936) (hb : b < 256) : bitsOp .or .u64 (shlI .u64 (n : Int) 8) (IntKind.wrap .u64 (b : Int)) = ((n * 256 + b : Nat) : Int) := by
  have hwu : ∀ x : Nat, x < 18446744073709551616 → IntKind.wrap .u64 (x : Int) = (x : Int) := by
    intro x hx
    show (x : Int) % 18446744073709551616 = _
    omega
  have h1 : shlI .u64 (n : Int) 8 = ((n * 256 : Nat) : Int) := by
    unfold shlI
    rw [show (min (8 : Int).toNat (IntKind.bits .u64)) = 8 from rfl, show (n : Int) * 2 ^ 8 = ((n * 256 : Nat) : Int) by omega, hwu _ (by omega)]
  rw [h1, hwu b (by omega)]
  unfold bitsOp
  dsimp only
  rw [BitVec.ofInt_natCast, BitVec.ofInt_natCast, BitVec.toNat_or, BitVec.toNat_ofNat, BitVec.toNat_ofNat, Nat.mod_eq_of_lt (show n * 256 < 2 ^ (IntKind.bits .u64) from by show n * 256 < 18446744073709551616; omega), Nat.mod_eq_of_lt (show b < 2 ^ (IntKind.bits .u64) from by show b < 18446744073709551616; omega)]
  rw [show n * 256 = n <<< 8 by rw [Nat.shiftLeft_eq], ← Nat.shiftLeft_add_eq_or_of_lt (show b < 2 ^ 8 by omega), Nat.shiftLeft_eq, hwu _ (by omega)]

theorem cutLoop {N : Nat} {s : List UInt8} (hs : 8 ≤ s.length) (hN : 8 < N) (k0 : Int → Option (List UInt8 × List UInt8 × Bool × Unit)) : hmac_cut_p1 N s 0 0 k0 = k0 ((valB (s.take 8) 0 : Nat) : Int) := by
  unfold hmac_cut_p1
  rw [iter_eq (I := fun (v : Int × Int) => ∃ i : Nat, i ≤ 8 ∧ v = (((valB (s.take i) 0 : Nat) : Int), (i : Int))) (m := fun v => 8 - v.2.toNat) (R := fun _ => k0 ((valB (s.take 8) 0 : Nat) : Int)) ?_ N (0, 0) ⟨0, by omega, rfl⟩ (by dsimp only; omega)]
  rintro v r ⟨i, hi, rfl⟩ hr
  dsimp only at hr ⊢
  unfold hmac_cut_s1
  by_cases h : i < 8
  · have hp : 256 ^ i ≤ 256 ^ 7 := Nat.pow_le_pow_right (by omega) (by omega)
    have hv := valB_lt i s (by omega)
    rw [cond_t (dec_t (by omega)), cond_t (inR_nat (by omega)), Int.toNat_natCast, or8 (by omega) (u8_lt _), wrap_succ (by omega), ← valB_take (by omega)]
    exact hr _ ⟨i + 1, by omega, rfl⟩ (by dsimp only; omega)
  · rw [cond_f (dec_f (by omega)), show i = 8 by omega]

def cutV : Option (List UInt8 × List UInt8) → List UInt8 × List UInt8 × Bool × Unit
  | none => ([], [], false, ())
  | some (a, b) => (a, b, true, ())

theorem cut_eq {N : Nat} {s : List UInt8} (hs : s.length ≤ 9223372036854775800) (hN : 8 < N) : hmac_cut N s = some (cutV (cutR s)) := by
  unfold hmac_cut cutR
  by_cases h : s.length < 8
  · rw [cond_t (dec_t (by omega)), if_pos h]; rfl
  rw [cond_f (dec_f (by omega)), if_neg h, cutLoop (by omega) hN, cond_t (dec_t (by omega)), cut_all, List.length_drop]
  have hv : valB (s.take 8) 0 < 18446744073709551616 := valB_lt 8 s (by omega)
  have hw : IntKind.wrap .u64 (((s.length - 8 : Nat)) : Int) = ((s.length - 8 : Nat) : Int) := by
    show ((s.length - 8 : Nat) : Int) % 18446744073709551616 = _
    omega
  rw [hw]
  by_cases h2 : s.length - 8 < valB (s.take 8) 0
  · rw [cond_t (dec_t (by omega)), if_pos h2]; rfl
  rw [cond_f (dec_f (by omega)), if_neg h2, cond_t (dec_t (by omega)), cond_t (dec_t (by omega)), Int.toNat_natCast, cut_take, show s.length - 8 = (s.drop 8).length by rw [List.length_drop], cut_all]
  rfl

theorem items_eq {N : Nat} {s : List UInt8} (hs : s.length ≤ 9223372036854775800) (hN : s.length + 9 < N) : hmac_split1 N s = some (itemsR s.length s) := by
  unfold hmac_split1 hmac_split1_p1
  refine iter_eq (I := fun (v : List UInt8) => v.length ≤ s.length) (m := fun v => v.length) (R := fun v => some (itemsR v.length v)) ?_ N s (Nat.le_refl _) (by omega)
  intro v r hv hr
  unfold hmac_split1_s1
  by_cases e : v = []
  · subst e; rfl
  have e' : (!(v == ([] : List UInt8))) = true := by simpa using e
  rw [cond_t e', cut_eq (by omega) (by omega), Option.bind_some]
  have hp : 0 < v.length := List.length_pos_iff.2 e
  obtain ⟨n, hn⟩ : ∃ n, v.length = n + 1 := ⟨v.length - 1, by omega⟩
  cases hc : cutR v with
  | none => rw [hn, itemsR, if_neg e, hc]; rfl
  | some p =>
    obtain ⟨a, b⟩ := p
    have hb := cutR_less hc
    have h2 := hr b (by omega) hb
    rw [hn, itemsR, if_neg e, hc]
    show comb (a, true, ()) (r b) (some []) = some ((a, true, ()) :: itemsR n b)
    rw [h2, comb_some, itemsR_fuel n b.length b (by omega) (by omega)]

def splitV : Option (List (List UInt8)) → List (List UInt8) × Bool × Unit
  | none => ([], false, ())
  | some l => (l, true, ())

theorem collect : ∀ (n : Nat) (s : List UInt8) (acc : List (List UInt8)) (f : List (List UInt8) → Option (List (List UInt8) × Bool × Unit)) (N : Nat), s.length ≤ n → acc.length + s.length ≤ 100000 →
    iterL (fun (y : (List UInt8 × Bool × Unit)) (v : List (List UInt8)) r => hmac_Split_s1 N [] false v y (fun parts_1 => r parts_1) (fun x2 x3 parts => some (x2, (x3, ()))) f) f (itemsR n s) acc =
      match splitR n s with
      | none => some ([], false, ())
      | some l => f (acc ++ l)
  | 0, s, acc, f, N, h, _ => by
    have : s = [] := List.length_eq_zero_iff.1 (by omega)
    subst this
    simp [itemsR, splitR, iterL]
  | n + 1, s, acc, f, N, h, hb => by
    unfold itemsR splitR
    by_cases e : s = []
    · rw [if_pos e, if_pos e]; simp [iterL]
    rw [if_neg e, if_neg e]
    cases hc : cutR s with
    | none => rfl
    | some p =>
      obtain ⟨a, b⟩ := p
      have hl := cutR_less hc
      dsimp only
      rw [iterL]
      unfold hmac_Split_s1
      dsimp only
      rw [Bool.not_true, cond_false, cond_t (dec_t (by omega))]
      have := collect n b (acc ++ [a]) f N (by omega) (by rw [List.length_append, List.length_singleton]; omega)
      unfold hmac_Split_s1 at this
      rw [this]
      cases splitR n b with
      | none => rfl
      | some l => simp

/-- the program's Split -/
theorem split_eq {N : Nat} {s : List UInt8} (hs : s.length ≤ 100000) (hN : s.length + 9 < N) : hmac_Split N s = some (splitV (splitL s)) := by
  unfold hmac_Split hmac_Split_p1 hmac_Split_fit1
  rw [items_eq (by omega) hN, Option.bind_some, collect s.length s [] _ N (Nat.le_refl _) (by simpa using hs)]
  cases h : splitL s with
  | none => rw [show splitR s.length s = none from h]; rfl
  | some l => rw [show splitR s.length s = some l from h]; rfl

/-! ## the reference -/
abbrev RS : Type := List (List UInt8) × Bool × Unit

theorem refNum {N : Nat} {s : List UInt8} {a : Nat} {out : List (List UInt8)} {k0 : List (List UInt8) → Bool → Option RS} {k1 : Int → Option RS} (hs : s.length ≤ 100000) (ha : a + 8 ≤ s.length) (hN : 8 < N) :
    porterref04_Split_p2 N s out (a : Int) 0 (a : Int) k0 k1 = if 4294967296 < valB ((s.drop a).take 7) 0 then k0 [] false else k1 ((valB ((s.drop a).take 8) 0 : Nat) : Int) := by
  have hd : 8 ≤ (s.drop a).length := by rw [List.length_drop]; omega
  unfold porterref04_Split_p2
  rw [iter_eq (I := fun (v : Int × Int) => ∃ i : Nat, i ≤ 8 ∧ v = (((valB ((s.drop a).take i) 0 : Nat) : Int), ((a + i : Nat) : Int)) ∧ (1 ≤ i → valB ((s.drop a).take (i - 1)) 0 ≤ 4294967296)) (m := fun v => a + 8 - v.2.toNat) (R := fun _ => if 4294967296 < valB ((s.drop a).take 7) 0 then k0 [] false else k1 ((valB ((s.drop a).take 8) 0 : Nat) : Int)) ?_ N (0, (a : Int)) ⟨0, by omega, rfl, by omega⟩ (by dsimp only; omega)]
  rintro v r ⟨i, hi, rfl, hsm⟩ hr
  dsimp only at hr ⊢
  unfold porterref04_Split_s2
  rw [wrap_in (x := (a : Int) + 8) (by unfold I64; omega)]
  by_cases h : i < 8
  · rw [cond_t (dec_t (by omega))]
    by_cases hbig : 4294967296 < valB ((s.drop a).take i) 0
    · have := valB_mono7 hd (7 - i) i (by omega)
      rw [cond_t (dec_t (by omega)), if_pos (by omega)]
    · have hg : (s.drop a).getD i 0 = s.getD (a + i) 0 := by
        rw [List.getD_eq_getElem?_getD, List.getD_eq_getElem?_getD, List.getElem?_drop]
      have hb := u8_lt (s.getD (a + i) 0)
      have hw : IntKind.wrap .i64 (IntKind.wrap .i64 ((256 : Int) * ((valB ((s.drop a).take i) 0 : Nat) : Int)) + ((s.getD (a + i) 0).toNat : Int)) = ((valB ((s.drop a).take (i + 1)) 0 : Nat) : Int) := by
        rw [valB_take (by omega), hg, wrap_in (x := (256 : Int) * _) (by unfold I64; omega), wrap_in (by unfold I64; omega)]; omega
      rw [cond_f (dec_f (by omega)), cond_t (inR_nat (by omega)), Int.toNat_natCast, wrap64_byte, hw, wrap_succ (by omega)]
      exact hr _ ⟨i + 1, by omega, rfl, fun _ => by simpa using hbig⟩ (by dsimp only; omega)
  · have : i = 8 := by omega
    subst this
    have := hsm (by omega)
    rw [cond_f (dec_f (by omega)), if_neg (by simpa using this)]

theorem refSplit_eq {N : Nat} {s : List UInt8} (hs : s.length ≤ 100000) (hN : s.length + 9 < N) : porterref04_Split N s = some (splitV (splitL s)) := by
  unfold porterref04_Split porterref04_Split_p1
  rw [iter_eq (I := fun (v : List (List UInt8) × Int) => ∃ a : Nat, a ≤ s.length ∧ v.2 = (a : Int) ∧ v.1.length ≤ a) (m := fun v => s.length - v.2.toNat) (R := fun v => match splitL (s.drop v.2.toNat) with
      | none => some (([] : List (List UInt8)), (false, ()))
      | some l => some (v.1 ++ l, (true, ()))) ?_ N ([], 0) ⟨0, by omega, rfl, by simp⟩ (by dsimp only; omega)]
  · dsimp only
    rw [show (0 : Int).toNat = 0 from rfl, List.drop_zero]
    cases splitL s <;> rfl
  rintro ⟨out, z⟩ r ⟨a, ha, e, hl⟩ hr
  dsimp only at e hl hr ⊢
  subst e
  rw [Int.toNat_natCast]
  unfold porterref04_Split_s1
  by_cases h : a < s.length
  · have hne : s.drop a ≠ [] := by
      intro e; have := congrArg List.length e; rw [List.length_drop] at this; simp at this; omega
    have hlen : (s.drop a).length = s.length - a := List.length_drop
    rw [cond_t (dec_t (by omega)), wrap_in (x := (s.length : Int) - a) (by unfold I64; omega), splitL_cons hne]
    by_cases h8 : s.length - a < 8
    · have hc : cutR (s.drop a) = none := by unfold cutR; rw [if_pos (by omega)]
      rw [cond_t (dec_t (by omega)), hc]
    have hv8 : valB ((s.drop a).take 8) 0 = valB ((s.drop a).take 7) 0 * 256 + ((s.drop a).getD 7 0).toNat := valB_take (by omega)
    rw [cond_f (dec_f (by omega)), refNum hs (by omega) (by omega), wrap_in (x := (a : Int) + 8) (by unfold I64; omega), wrap_in (x := (s.length : Int) - (↑a + 8)) (by unfold I64; omega)]
    by_cases hbig : 4294967296 < valB ((s.drop a).take 7) 0
    · have hc : cutR (s.drop a) = none := by unfold cutR; rw [if_neg (by omega), if_pos (by omega)]
      rw [if_pos hbig, hc]
    rw [if_neg hbig]
    have hub := u8_lt ((s.drop a).getD 7 0)
    generalize hV : valB ((s.drop a).take 8) 0 = V at hv8
    by_cases hlong : s.length - (a + 8) < V
    · have hc : cutR (s.drop a) = none := by unfold cutR; rw [if_neg (by omega), if_pos (by omega)]
      rw [cond_t (dec_t (by omega)), hc]
    · have hc : cutR (s.drop a) = some (((s.drop a).drop 8).take V, ((s.drop a).drop 8).drop V) := by unfold cutR; rw [hV, if_neg (by omega), if_neg (by omega)]
      have hw : IntKind.wrap .i64 ((a : Int) + 8 + (V : Int)) = ((a + 8 + V : Nat) : Int) := by rw [wrap_in (by unfold I64; omega)]; omega
      have e8 : ((a : Int) + 8).toNat = a + 8 := by omega
      rw [cond_f (dec_f (by omega)), hw, cond_t (dec_t (by omega)), cond_t (dec_t (by omega)), cond_t (dec_t (by omega)), hc, e8, Int.toNat_natCast, cut_mid]
      have h2 := hr (out ++ [(s.drop (a + 8)).take V], ((a + 8 + V : Nat) : Int)) ⟨a + 8 + V, by omega, rfl, by simp; omega⟩ (by dsimp only; omega)
      refine h2.trans ?_
      dsimp only
      rw [Int.toNat_natCast, List.drop_drop, List.drop_drop]
      cases splitL (s.drop (a + 8 + V)) with
      | none => rfl
      | some l => simp
  · have : a = s.length := by omega
    subst this
    rw [cond_f (dec_f (by omega)), List.drop_length, splitL_nil]
    simp

end Go.Proofs.YtjnlgomdckihpaaGreatDoorLg

/- Layer 36: the example's box, and that another notary's tag is another. -/
set_option linter.all false
set_option maxRecDepth 100000
namespace Go.Proofs.YtjnlgomdckihpaaGreatDoorLg
open Go Go.Lift
theorem hide36 (k : Nat) : box_hideKey (k + 2300) [(110 : UInt8)] = some [(20 : UInt8), (56 : UInt8), (203 : UInt8), (5 : UInt8), (203 : UInt8), (184 : UInt8), (145 : UInt8), (42 : UInt8), (0 : UInt8), (215 : UInt8), (76 : UInt8), (156 : UInt8), (173 : UInt8), (41 : UInt8), (217 : UInt8), (136 : UInt8), (99 : UInt8), (241 : UInt8), (56 : UInt8), (177 : UInt8), (107 : UInt8), (155 : UInt8), (46 : UInt8), (12 : UInt8), (124 : UInt8), (2 : UInt8), (133 : UInt8), (116 : UInt8), (32 : UInt8), (109 : UInt8), (81 : UInt8), (194 : UInt8)] := by kernel_rfl
theorem mix36 (k : Nat) : stream_Mix (k + 2300) [(20 : UInt8), (56 : UInt8), (203 : UInt8), (5 : UInt8), (203 : UInt8), (184 : UInt8), (145 : UInt8), (42 : UInt8), (0 : UInt8), (215 : UInt8), (76 : UInt8), (156 : UInt8), (173 : UInt8), (41 : UInt8), (217 : UInt8), (136 : UInt8), (99 : UInt8), (241 : UInt8), (56 : UInt8), (177 : UInt8), (107 : UInt8), (155 : UInt8), (46 : UInt8), (12 : UInt8), (124 : UInt8), (2 : UInt8), (133 : UInt8), (116 : UInt8), (32 : UInt8), (109 : UInt8), (81 : UInt8), (194 : UInt8)] [(48 : UInt8), (49 : UInt8), (50 : UInt8), (51 : UInt8), (52 : UInt8), (53 : UInt8), (54 : UInt8), (55 : UInt8), (56 : UInt8), (57 : UInt8), (97 : UInt8), (98 : UInt8), (99 : UInt8), (100 : UInt8), (101 : UInt8), (102 : UInt8)] [(0 : UInt8), (0 : UInt8), (0 : UInt8), (0 : UInt8), (0 : UInt8), (0 : UInt8), (0 : UInt8), (1 : UInt8), (107 : UInt8), (0 : UInt8), (0 : UInt8), (0 : UInt8), (0 : UInt8), (0 : UInt8), (0 : UInt8), (0 : UInt8), (12 : UInt8), (105 : UInt8), (115 : UInt8), (32 : UInt8), (105 : UInt8), (116 : UInt8), (32 : UInt8), (109 : UInt8), (111 : UInt8), (110 : UInt8), (100 : UInt8), (97 : UInt8), (121 : UInt8)] = some [(226 : UInt8), (107 : UInt8), (34 : UInt8), (54 : UInt8), (12 : UInt8), (235 : UInt8), (171 : UInt8), (35 : UInt8), (175 : UInt8), (63 : UInt8), (7 : UInt8), (137 : UInt8), (4 : UInt8), (203 : UInt8), (212 : UInt8), (122 : UInt8), (97 : UInt8), (73 : UInt8), (116 : UInt8), (64 : UInt8), (12 : UInt8), (206 : UInt8), (61 : UInt8), (113 : UInt8), (98 : UInt8), (144 : UInt8), (58 : UInt8), (173 : UInt8), (252 : UInt8)] := by kernel_rfl
theorem tag36 (k : Nat) : box_tag (k + 2300) [(110 : UInt8)] [(48 : UInt8), (49 : UInt8), (50 : UInt8), (51 : UInt8), (52 : UInt8), (53 : UInt8), (54 : UInt8), (55 : UInt8), (56 : UInt8), (57 : UInt8), (97 : UInt8), (98 : UInt8), (99 : UInt8), (100 : UInt8), (101 : UInt8), (102 : UInt8), (226 : UInt8), (107 : UInt8), (34 : UInt8), (54 : UInt8), (12 : UInt8), (235 : UInt8), (171 : UInt8), (35 : UInt8), (175 : UInt8), (63 : UInt8), (7 : UInt8), (137 : UInt8), (4 : UInt8), (203 : UInt8), (212 : UInt8), (122 : UInt8), (97 : UInt8), (73 : UInt8), (116 : UInt8), (64 : UInt8), (12 : UInt8), (206 : UInt8), (61 : UInt8), (113 : UInt8), (98 : UInt8), (144 : UInt8), (58 : UInt8), (173 : UInt8), (252 : UInt8)] = some [(92 : UInt8), (3 : UInt8), (148 : UInt8), (22 : UInt8), (153 : UInt8), (250 : UInt8), (34 : UInt8), (147 : UInt8), (147 : UInt8), (152 : UInt8), (126 : UInt8), (139 : UInt8), (177 : UInt8), (171 : UInt8), (243 : UInt8), (124 : UInt8), (68 : UInt8), (105 : UInt8), (64 : UInt8), (80 : UInt8), (152 : UInt8), (216 : UInt8), (118 : UInt8), (195 : UInt8), (217 : UInt8), (177 : UInt8), (246 : UInt8), (163 : UInt8), (84 : UInt8), (244 : UInt8), (87 : UInt8), (230 : UInt8)] := by kernel_rfl
theorem tag36m (k : Nat) : box_tag (k + 2300) [(109 : UInt8)] [(48 : UInt8), (49 : UInt8), (50 : UInt8), (51 : UInt8), (52 : UInt8), (53 : UInt8), (54 : UInt8), (55 : UInt8), (56 : UInt8), (57 : UInt8), (97 : UInt8), (98 : UInt8), (99 : UInt8), (100 : UInt8), (101 : UInt8), (102 : UInt8), (226 : UInt8), (107 : UInt8), (34 : UInt8), (54 : UInt8), (12 : UInt8), (235 : UInt8), (171 : UInt8), (35 : UInt8), (175 : UInt8), (63 : UInt8), (7 : UInt8), (137 : UInt8), (4 : UInt8), (203 : UInt8), (212 : UInt8), (122 : UInt8), (97 : UInt8), (73 : UInt8), (116 : UInt8), (64 : UInt8), (12 : UInt8), (206 : UInt8), (61 : UInt8), (113 : UInt8), (98 : UInt8), (144 : UInt8), (58 : UInt8), (173 : UInt8), (252 : UInt8)] = some [(149 : UInt8), (91 : UInt8), (122 : UInt8), (138 : UInt8), (4 : UInt8), (100 : UInt8), (143 : UInt8), (23 : UInt8), (124 : UInt8), (60 : UInt8), (245 : UInt8), (160 : UInt8), (236 : UInt8), (101 : UInt8), (136 : UInt8), (71 : UInt8), (69 : UInt8), (111 : UInt8), (253 : UInt8), (99 : UInt8), (239 : UInt8), (88 : UInt8), (145 : UInt8), (173 : UInt8), (219 : UInt8), (182 : UInt8), (237 : UInt8), (4 : UInt8), (201 : UInt8), (166 : UInt8), (218 : UInt8), (72 : UInt8)] := by kernel_rfl
def frame36 : List UInt8 := [(0 : UInt8), (0 : UInt8), (0 : UInt8), (0 : UInt8), (0 : UInt8), (0 : UInt8), (0 : UInt8), (1 : UInt8), (107 : UInt8), (0 : UInt8), (0 : UInt8), (0 : UInt8), (0 : UInt8), (0 : UInt8), (0 : UInt8), (0 : UInt8), (12 : UInt8), (105 : UInt8), (115 : UInt8), (32 : UInt8), (105 : UInt8), (116 : UInt8), (32 : UInt8), (109 : UInt8), (111 : UInt8), (110 : UInt8), (100 : UInt8), (97 : UInt8), (121 : UInt8)]
def hide36L : List UInt8 := [(20 : UInt8), (56 : UInt8), (203 : UInt8), (5 : UInt8), (203 : UInt8), (184 : UInt8), (145 : UInt8), (42 : UInt8), (0 : UInt8), (215 : UInt8), (76 : UInt8), (156 : UInt8), (173 : UInt8), (41 : UInt8), (217 : UInt8), (136 : UInt8), (99 : UInt8), (241 : UInt8), (56 : UInt8), (177 : UInt8), (107 : UInt8), (155 : UInt8), (46 : UInt8), (12 : UInt8), (124 : UInt8), (2 : UInt8), (133 : UInt8), (116 : UInt8), (32 : UInt8), (109 : UInt8), (81 : UInt8), (194 : UInt8)]
def mix36L : List UInt8 := [(226 : UInt8), (107 : UInt8), (34 : UInt8), (54 : UInt8), (12 : UInt8), (235 : UInt8), (171 : UInt8), (35 : UInt8), (175 : UInt8), (63 : UInt8), (7 : UInt8), (137 : UInt8), (4 : UInt8), (203 : UInt8), (212 : UInt8), (122 : UInt8), (97 : UInt8), (73 : UInt8), (116 : UInt8), (64 : UInt8), (12 : UInt8), (206 : UInt8), (61 : UInt8), (113 : UInt8), (98 : UInt8), (144 : UInt8), (58 : UInt8), (173 : UInt8), (252 : UInt8)]
def body36 : List UInt8 := [(48 : UInt8), (49 : UInt8), (50 : UInt8), (51 : UInt8), (52 : UInt8), (53 : UInt8), (54 : UInt8), (55 : UInt8), (56 : UInt8), (57 : UInt8), (97 : UInt8), (98 : UInt8), (99 : UInt8), (100 : UInt8), (101 : UInt8), (102 : UInt8), (226 : UInt8), (107 : UInt8), (34 : UInt8), (54 : UInt8), (12 : UInt8), (235 : UInt8), (171 : UInt8), (35 : UInt8), (175 : UInt8), (63 : UInt8), (7 : UInt8), (137 : UInt8), (4 : UInt8), (203 : UInt8), (212 : UInt8), (122 : UInt8), (97 : UInt8), (73 : UInt8), (116 : UInt8), (64 : UInt8), (12 : UInt8), (206 : UInt8), (61 : UInt8), (113 : UInt8), (98 : UInt8), (144 : UInt8), (58 : UInt8), (173 : UInt8), (252 : UInt8)]
def tag36L : List UInt8 := [(92 : UInt8), (3 : UInt8), (148 : UInt8), (22 : UInt8), (153 : UInt8), (250 : UInt8), (34 : UInt8), (147 : UInt8), (147 : UInt8), (152 : UInt8), (126 : UInt8), (139 : UInt8), (177 : UInt8), (171 : UInt8), (243 : UInt8), (124 : UInt8), (68 : UInt8), (105 : UInt8), (64 : UInt8), (80 : UInt8), (152 : UInt8), (216 : UInt8), (118 : UInt8), (195 : UInt8), (217 : UInt8), (177 : UInt8), (246 : UInt8), (163 : UInt8), (84 : UInt8), (244 : UInt8), (87 : UInt8), (230 : UInt8)]
def tag36mL : List UInt8 := [(149 : UInt8), (91 : UInt8), (122 : UInt8), (138 : UInt8), (4 : UInt8), (100 : UInt8), (143 : UInt8), (23 : UInt8), (124 : UInt8), (60 : UInt8), (245 : UInt8), (160 : UInt8), (236 : UInt8), (101 : UInt8), (136 : UInt8), (71 : UInt8), (69 : UInt8), (111 : UInt8), (253 : UInt8), (99 : UInt8), (239 : UInt8), (88 : UInt8), (145 : UInt8), (173 : UInt8), (219 : UInt8), (182 : UInt8), (237 : UInt8), (4 : UInt8), (201 : UInt8), (166 : UInt8), (218 : UInt8), (72 : UInt8)]
def nonce36 : List UInt8 := [(48 : UInt8), (49 : UInt8), (50 : UInt8), (51 : UInt8), (52 : UInt8), (53 : UInt8), (54 : UInt8), (55 : UInt8), (56 : UInt8), (57 : UInt8), (97 : UInt8), (98 : UInt8), (99 : UInt8), (100 : UInt8), (101 : UInt8), (102 : UInt8)]


end Go.Proofs.YtjnlgomdckihpaaGreatDoorLg

/- Layer 36: tickets, what is read of them, discharges. -/
set_option linter.all false
set_option maxRecDepth 100000
namespace Go.Proofs.YtjnlgomdckihpaaGreatDoorLg
open Go Go.Lift Go.Proofs.YtjnlgomdckihpaaGreatDoorPx

def formR : Option (List (List UInt8)) → List UInt8 × List UInt8 × Int × Unit
  | some [a, b] => (a, b, 0, ())
  | _ => ([], [], 2, ())

theorem formR_few {m : List (List UInt8)} (h : m.length ≠ 2) : formR (some m) = ([], [], 2, ()) := by
  match m with
  | [] => rfl
  | [_] => rfl
  | [_, _] => exact absurd rfl h
  | _ :: _ :: _ :: _ => rfl

theorem readLoop (N : Nat) (hN : 10 < N) (m : List (List UInt8)) (h2 : 2 ≤ m.length) :
    notary_Read_p4 N [] [] 0 m ((m.length : Nat) : Int) 0 (fun a b e => some (a, (b, (e, ())))) = some (formR (some m)) := by
  obtain ⟨a, b, l, rfl⟩ : ∃ a b l, m = a :: b :: l := by
    match m, h2 with
    | a :: b :: l, _ => exact ⟨a, b, l, rfl⟩
  rw [notary_Read_p4]
  refine iter_eq (fun v => v = (([] : List UInt8), ([] : List UInt8), (0 : Int)) ∨ v = (a, [], 1) ∨ v = (a, b, 2)) (fun v => 3 - v.2.2.toNat) (fun _ => some (formR (some (a :: b :: l)))) ?_ N ([], [], 0) (.inl rfl) (by simp only; omega)
  rintro v r (rfl | rfl | rfl) hr
  · rw [notary_Read_s4]
    dsimp only
    rw [cond_t (decide_eq_true (by simp only [List.length_cons]; omega)), cond_t (by unfold inR; exact decide_eq_true ⟨by omega, by simp only [List.length_cons]; omega⟩), cond_t (by rfl)]
    exact hr _ (.inr (.inl rfl)) (by simp only; decide)
  · rw [notary_Read_s4]
    dsimp only
    rw [cond_t (decide_eq_true (by simp only [List.length_cons]; omega)), cond_t (by unfold inR; exact decide_eq_true ⟨by omega, by simp only [List.length_cons]; omega⟩), cond_f (by rfl), cond_t (by rfl)]
    exact hr _ (.inr (.inr rfl)) (by simp only; decide)
  · rw [notary_Read_s4]
    dsimp only
    cases l with
    | nil => rw [cond_f (decide_eq_false (by simp))]; rfl
    | cons c l =>
      rw [cond_t (decide_eq_true (by simp only [List.length_cons]; omega)), cond_t (by unfold inR; exact decide_eq_true ⟨by omega, by simp only [List.length_cons]; omega⟩), cond_f (by rfl), cond_f (by rfl)]
      rfl

theorem read_ok (N : Nat) {n t c : List UInt8} (ho : box_Open N n t = some (c, 0, ())) (hc : c.length ≤ 10000) (hN : c.length + 20 < N) : notary_Read N n t = some (formR (splitL c)) := by
  rw [notary_Read, ho, Option.bind_some]
  dsimp only
  rw [bne_self_eq_false, cond_false, split_eq (by omega) (by omega), Option.bind_some, notary_Read_p1, notary_Read_p2]
  cases hs : splitL c with
  | none => rfl
  | some m =>
    rw [show (splitV (some m)).2.1 = true from rfl, show (splitV (some m)).1 = m from rfl, Bool.not_true, cond_false]
    by_cases h2 : m.length < 2
    · rw [decide_eq_true (show ((m.length : Nat) : Int) < 2 by omega), cond_true, formR_few (by omega)]
    · rw [decide_eq_false (show ¬ ((m.length : Nat) : Int) < 2 by omega), cond_false, notary_Read_p3]
      exact readLoop N (by omega) m (by omega)

theorem read_err (N : Nat) {n t c : List UInt8} {e : Int} (ho : box_Open N n t = some (c, e, ())) (he : e ≠ 0) : notary_Read N n t = some ([], [], e, ()) := by
  rw [notary_Read, ho, Option.bind_some]
  dsimp only
  rw [bne_iff_ne.2 he, cond_true]

theorem refRead_ok (N : Nat) {n t c : List UInt8} (ho : porterref06_Open N n t = some (c, 0, ())) (hc : c.length ≤ 10000) (hN : c.length + 20 < N) : porterref36_Read N n t = some (formR (splitL c)) := by
  rw [porterref36_Read, ho, Option.bind_some]
  dsimp only
  rw [bne_self_eq_false, cond_false, refSplit_eq (by omega) (by omega), Option.bind_some, porterref36_Read_p1, porterref36_Read_p2]
  cases hs : splitL c with
  | none => rfl
  | some m =>
    rw [show (splitV (some m)).2.1 = true from rfl, show (splitV (some m)).1 = m from rfl, Bool.not_true, cond_false]
    by_cases h2 : m.length = 2
    · rw [show ((((List.length m) : Nat) : Int) != (2 : Int)) = false by rw [h2]; rfl, cond_false, cond_t (by unfold inR; exact decide_eq_true ⟨by omega, by omega⟩), cond_t (by unfold inR; exact decide_eq_true ⟨by omega, by omega⟩)]
      match m, h2 with
      | [a, b], _ => rfl
    · rw [show ((((List.length m) : Nat) : Int) != (2 : Int)) = true by rw [bne_iff_ne]; omega, cond_true, formR_few h2]

theorem refRead_err (N : Nat) {n t c : List UInt8} {e : Int} (ho : porterref06_Open N n t = some (c, e, ())) (he : e ≠ 0) : porterref36_Read N n t = some ([], [], e, ()) := by
  rw [porterref36_Read, ho, Option.bind_some]
  dsimp only
  rw [bne_iff_ne.2 he, cond_true]

/-! a ticket -/
def frame2 (key text : List UInt8) : List UInt8 := frameL [key, text]

theorem frame2_length (key text : List UInt8) : (frame2 key text).length = 16 + key.length + text.length := by
  unfold frame2; rw [frameL_length]; simp; omega

theorem split2 {key text : List UInt8} (hk : key.length ≤ 100000) (ht : text.length ≤ 100000) : splitL (frame2 key text) = some [key, text] :=
  split_frame [key, text] (fun p hp => by simp only [List.mem_cons, List.not_mem_nil, or_false] at hp; rcases hp with rfl | rfl <;> omega)

theorem ticket_pre (k : Nat) {n nonce key text : List UInt8} (hk : key.length ≤ 100000) (ht : text.length ≤ 100000) : notary_Ticket (k + 100) n nonce key text = (box_Seal (k + 100) n nonce (frame2 key text)).bind fun y1 => some (y1.1, (y1.2.1, ())) := by
  rw [notary_Ticket, show hmac_Frame (k + 100) [key, text] = some (frame2 key text) from frameN k (by simp) (by have := frame2_length key text; unfold frame2 at this; omega), Option.bind_some]

theorem ticket_eq (k : Nat) {n nonce key text : List UInt8} (hk : 2200 ≤ k) (hn : n.length ≤ 30000) (h16 : nonce.length = 16) (hl : key.length + text.length ≤ 1800) : notary_Ticket (k + 100) n nonce key text = some (sealL (k + 100) n nonce (frame2 key text), 0, ()) := by
  rw [ticket_pre k (by omega) (by omega), seal_eq k hk hn h16 (by rw [frame2_length]; omega)]; rfl

/-- a ticket is read by its notary -/
theorem read_ticket (k : Nat) {n nonce key text : List UInt8} (hk : 2200 ≤ k) (hn : n.length ≤ 30000) (h16 : nonce.length = 16) (hl : key.length + text.length ≤ 1800) :
    notary_Read (k + 100) n (sealL (k + 100) n nonce (frame2 key text)) = some (key, text, 0, ()) := by
  have hf := fits_seal k (key := n) (nonce := nonce) (text := frame2 key text) hk hn h16 (by rw [frame2_length]; omega)
  have hsl := sealL_length k (key := n) (nonce := nonce) (text := frame2 key text) (by omega) hn h16 (by rw [frame2_length]; omega)
  have hfl := frame2_length key text
  have ho : box_Open (k + 100) n (sealL (k + 100) n nonce (frame2 key text)) = some (frame2 key text, 0, ()) := by
    rw [open_eq k hk hn (by omega) (by omega), hf.1, hf.2, cond_true]
  rw [read_ok (k + 100) ho (by omega) (by omega), split2 (by omega) (by omega)]
  rfl

/-! a discharge -/
def mkL (c : List UInt8) : Lk := (c, [], ())

noncomputable def addAll (N : Nat) : Tk → List (List UInt8) → Tk × Int × Unit
  | t, [] => (t, 0, ())
  | t, c :: l => cond ((addR N t c).2.1 != 0) (zeroT, (addR N t c).2.1, ()) (addAll N (addR N t c).1 l)

theorem addR_ok {N : Nat} {t : Tk} {c : List UInt8} (h : (addR N t c).2.1 = 0) : (addR N t c).1 = withT N t (mkL c) ∧ t.2.1.length < 64 ∧ c.length ≤ 2048 := by
  unfold addR at h ⊢
  split
  · rename_i hc; rw [if_pos hc] at h; cases h
  · rename_i hc; exact ⟨rfl, by omega, by omega⟩

theorem dloop (k : Nat) (hk : 2200 ≤ k) {l : List (List UInt8)} (hl : l.length ≤ 1000) {t : Tk} (hn : t.2.1.length ≤ 64) (ht : t.2.2.1.length = 32) :
    notary_Discharge_p1 (k + 100) (([] : List UInt8), (([] : List ((List UInt8) × ((List UInt8) × Unit))), (([] : List UInt8), ()))) t l ((l.length : Nat) : Int) 0 (fun x6 x7 => some (x6, (x7, ()))) (fun t => some (t, ((0 : Int), ()))) = some (addAll (k + 100) t l) := by
  rw [notary_Discharge_p1]
  refine (iter_eq (fun v => ∃ (i : Nat) (u : Tk), v = (u, (i : Int)) ∧ i ≤ l.length ∧ u.2.1.length ≤ 64 ∧ u.2.2.1.length = 32) (fun v => l.length - v.2.toNat) (fun v => some (addAll (k + 100) v.1 (l.drop v.2.toNat))) ?_ (k + 100) (t, 0) ⟨0, t, rfl, by omega, hn, ht⟩ (by simp only; omega)).trans (by rfl)
  rintro v r ⟨i, u, rfl, hi, hu, hut⟩ hr
  simp only [Int.toNat_natCast]
  rw [notary_Discharge_s1]
  by_cases hlt : i < l.length
  · rw [cond_t (decide_eq_true (by omega)), cond_t (inR_nat hlt), Int.toNat_natCast, hadd1_eq k (by omega) (by omega) (by omega), Option.bind_some, drop_cons l [] i hlt, addAll]
    cases hb : ((addR (k + 100) u (l.getD i [])).2.1 != 0) with
    | true => rfl
    | false =>
      obtain ⟨e, h1, h2⟩ := addR_ok (bne_eq_false_iff_eq.1 hb)
      have hsm : small (mkL (l.getD i [])) := ⟨by simp only [mkL]; omega, by simp [mkL]⟩
      have g2 : (nextT (k + 100) u.2.2.1 (mkL (l.getD i []))).length = 32 := nextT_length k (by omega) (by omega) hsm
      have g1 : (withT (k + 100) u (mkL (l.getD i []))).2.1.length ≤ 64 := by simp only [withT, List.length_append, List.length_singleton]; omega
      have g3 : (withT (k + 100) u (mkL (l.getD i []))).2.2.1.length = 32 := by simp only [withT]; exact g2
      rw [← e] at g1 g3
      generalize addR (k + 100) u (l.getD i []) = y at g1 g3 ⊢
      rw [cond_false, cond_false, wrap_succ (by omega), hr _ ⟨i + 1, y.1, rfl, by omega, g1, g3⟩ (by simp only; omega)]
      simp only [Int.toNat_natCast]
  · rw [cond_f (decide_eq_false (by omega)), drop_nil' l (by omega), addAll]

theorem discharge_err (N : Nat) {n t : List UInt8} {l : List (List UInt8)} {e : Int} (h : notary_Read N n t = some ([], [], e, ())) (he : e ≠ 0) : notary_Discharge N n t l = some (zeroT, e, ()) := by
  rw [notary_Discharge, h, Option.bind_some]
  dsimp only
  rw [bne_iff_ne.2 he, cond_true]; rfl

theorem discharge_ok (k : Nat) (hk : 2200 ≤ k) {n t key text : List UInt8} {l : List (List UInt8)} (h : notary_Read (k + 100) n t = some (key, text, 0, ())) (hl : l.length ≤ 1000) (hkey : key.length ≤ 30000) (ht : t.length ≤ 8000) :
    notary_Discharge (k + 100) n t l = some (addAll (k + 100) (t, [], rootT (k + 100) key t, ()) l) := by
  rw [notary_Discharge, h, Option.bind_some]
  dsimp only
  rw [bne_self_eq_false, cond_false, root_eq k (by omega) hkey ht, Option.bind_some]
  have hroot : (rootT (k + 100) key t).length = 32 := tagL_length k (key := key) (text := frameL (rootParts t)) (by omega) hkey (by rw [root_length]; omega)
  generalize rootT (k + 100) key t = R at hroot ⊢
  exact dloop k hk hl (t := (t, [], R, ())) (Nat.zero_le _) hroot

theorem addAll_ok (k : Nat) (hk : 600 ≤ k) : ∀ (l : List (List UInt8)) (t : Tk), t.2.1.length + l.length ≤ 64 → (∀ c ∈ l, c.length ≤ 2048) →
    addAll (k + 100) t l = ((t.1, t.2.1 ++ l.map mkL, lastT (k + 100) t.2.2.1 (l.map mkL), ()), 0, ())
  | [], t, _, _ => by
    obtain ⟨a, b, c, u⟩ := t
    cases u
    simp [addAll, lastT_nil]
  | c :: l, t, h1, h2 => by
    have hc := h2 c List.mem_cons_self
    simp only [List.length_cons] at h1
    have e : addR (k + 100) t c = (withT (k + 100) t (mkL c), 0, ()) := by unfold addR; rw [if_neg (by omega)]; rfl
    rw [addAll, e]
    dsimp only
    rw [bne_self_eq_false, cond_false, addAll_ok k hk l _ (by simp only [withT, List.length_append, List.length_singleton]; omega) (fun d hd => h2 d (List.mem_cons_of_mem _ hd))]
    simp only [withT, List.map_cons, List.append_assoc, List.singleton_append, lastT_cons]

theorem discharge_all (k : Nat) (hk : 2200 ≤ k) {n s key text : List UInt8} {l : List (List UInt8)} (h : notary_Read (k + 100) n s = some (key, text, 0, ())) (hl : l.length ≤ 64) (hc : ∀ c ∈ l, c.length ≤ 2048) (hkey : key.length ≤ 30000) (hs : s.length ≤ 8000) :
    ∃ d : Tk, notary_Discharge (k + 100) n s l = some (d, 0, ()) ∧ d.1 = s ∧ d.2.1 = l.map mkL ∧ chain_Last (k + 100) key d = some d.2.2.1 := by
  have e3 := discharge_ok k hk (l := l) h (by omega) hkey hs
  have hlast : ∀ tg, chain_Last (k + 100) key (s, l.map mkL, tg, ()) = some (lastT (k + 100) (rootT (k + 100) key s) (l.map mkL)) := fun tg =>
    last_eq k (key := key) (t := (s, l.map mkL, tg, ())) (by omega) hkey hs (by simp only [List.length_map]; omega) (fun m hm => by
      obtain ⟨c, hm', rfl⟩ := List.mem_map.1 hm
      have := hc c hm'
      exact ⟨by simp only [mkL]; omega, by simp [mkL]⟩)
  generalize rootT (k + 100) key s = R at e3 hlast
  rw [addAll_ok k (by omega) l (s, [], R, ()) (by simp only [List.length_nil]; omega) hc] at e3
  refine ⟨_, e3, rfl, by simp only [List.nil_append], ?_⟩
  simp only [List.nil_append]
  exact hlast _

/-! the example -/
theorem other36 (k : Nat) : fits (k + 2200 + 100) [109] (sealL (k + 2200 + 100) [110] nonce36 frame36) = false := by
  have h1 : hideK (k + 2200 + 100) [110] = hide36L := Option.some.inj ((hideKey_eq (k + 2200) (key := [110]) (by omega) (by decide)).symm.trans (hide36 k))
  have h2 : xorL frame36 (takeL (k + 2200 + 100) hide36L nonce36 frame36.length) = mix36L := Option.some.inj ((mix_eq (k + 2200) (key := hide36L) (nonce := nonce36) (text := frame36) (by omega) (by decide) (by decide) (by decide) (by show 29 < _; omega)).symm.trans (mix36 k))
  have hb : bodyL (k + 2200 + 100) [110] nonce36 frame36 = body36 := by
    unfold bodyL hidden
    rw [h1, h2]; rfl
  have h3 : boxTag (k + 2200 + 100) [110] body36 = tag36L := Option.some.inj ((boxTag_eq (k + 2200) (key := [110]) (body := body36) (by omega) (by decide) (by decide)).symm.trans (tag36 k))
  have h4 : boxTag (k + 2200 + 100) [109] body36 = tag36mL := Option.some.inj ((boxTag_eq (k + 2200) (key := [109]) (body := body36) (by omega) (by decide) (by decide)).symm.trans (tag36m k))
  have hs : sealL (k + 2200 + 100) [110] nonce36 frame36 = body36 ++ tag36L := by unfold sealL; rw [hb, h3]
  unfold fits
  rw [hs]
  rw [show (body36 ++ tag36L).take ((body36 ++ tag36L).length - 32) = body36 from rfl, h4]
  rfl

theorem frame36_eq : frame2 [107] [105, 115, 32, 105, 116, 32, 109, 111, 110, 100, 97, 121] = frame36 := by kernel_rfl

theorem works36_of {N : Nat} {s : List UInt8} {d : Tk} (h1 : notary_Ticket N [110] [48, 49, 50, 51, 52, 53, 54, 55, 56, 57, 97, 98, 99, 100, 101, 102] [107] [105, 115, 32, 105, 116, 32, 109, 111, 110, 100, 97, 121] = some (s, 0, ()))
    (h2 : notary_Read N [110] s = some ([107], [105, 115, 32, 105, 116, 32, 109, 111, 110, 100, 97, 121], 0, ())) (h3 : notary_Discharge N [110] s [[98, 101, 102, 111, 114, 101, 32, 57]] = some (d, 0, ()))
    (h4 : notary_Read N [109] s = some ([], [], 8, ())) (hd1 : d.1 = s) (hd2 : d.2.1.length = 1) (hd3 : chain_Last N [107] d = some d.2.2.1) : porterlaw36_works N = some true := by
  rw [porterlaw36_works, h1, Option.bind_some]
  dsimp only
  rw [h2, Option.bind_some]
  dsimp only
  rw [h3, Option.bind_some]
  dsimp only
  rw [h4, Option.bind_some]
  dsimp only
  rw [hd1, hd3]
  simp only [beq_self_eq_true, cond_true, Option.bind_some]
  rw [show ((((List.length d.2.1) : Nat) : Int) == (1 : Int)) = true by rw [hd2]; rfl, cond_true]

theorem works36 (k : Nat) : porterlaw36_works (k + 2200 + 100) = some true := by
  have hsl := sealL_length (k + 2200) (key := [110]) (nonce := nonce36) (text := frame36) (by omega) (by decide) (by rfl) (by decide)
  have e1 : notary_Ticket (k + 2200 + 100) [110] nonce36 [107] [105, 115, 32, 105, 116, 32, 109, 111, 110, 100, 97, 121] = some (sealL (k + 2200 + 100) [110] nonce36 frame36, 0, ()) := by
    rw [ticket_eq (k + 2200) (by omega) (by decide) (by rfl) (by decide), frame36_eq]
  have e2 : notary_Read (k + 2200 + 100) [110] (sealL (k + 2200 + 100) [110] nonce36 frame36) = some ([107], [105, 115, 32, 105, 116, 32, 109, 111, 110, 100, 97, 121], 0, ()) := by
    have := read_ticket (k + 2200) (n := [110]) (nonce := nonce36) (key := [107]) (text := [105, 115, 32, 105, 116, 32, 109, 111, 110, 100, 97, 121]) (by omega) (by decide) (by rfl) (by decide)
    rw [frame36_eq] at this
    exact this
  have e4 : notary_Read (k + 2200 + 100) [109] (sealL (k + 2200 + 100) [110] nonce36 frame36) = some ([], [], 8, ()) := by
    refine read_err _ (c := []) (e := 8) ?_ (by decide)
    rw [open_eq (k + 2200) (by omega) (by decide) (by rw [hsl]; decide) (by rw [hsl]; decide), other36, cond_false]
  generalize hs : sealL (k + 2200 + 100) [110] nonce36 frame36 = s at hsl e1 e2 e4
  have hl : s.length ≤ 8000 := by rw [hsl]; decide
  obtain ⟨d, e3, g1, g2, g3⟩ := discharge_all (k + 2200) (by omega) (l := [[98, 101, 102, 111, 114, 101, 32, 57]]) e2 (by simp) (fun c hc => by simp only [List.mem_singleton] at hc; subst hc; decide) (by decide) hl
  exact works36_of e1 e2 e3 e4 g1 (by rw [g2]; rfl) g3


end Go.Proofs.YtjnlgomdckihpaaGreatDoorLg

/- Layer 36: tickets, what is read, discharges, beside the document's. -/
set_option linter.all false
set_option maxRecDepth 100000
namespace Go.Proofs.YtjnlgomdckihpaaGreatDoorLg
open Go Go.Lift Go.Proofs.YtjnlgomdckihpaaGreatDoorPx

theorem rticket_pre (k : Nat) {n nonce key text : List UInt8} (hk : key.length ≤ 100000) (ht : text.length ≤ 100000) : porterref36_Ticket (k + 100) n nonce key text = (porterref06_Seal (k + 100) n nonce (frame2 key text)).bind fun y1 => some (y1.1, (y1.2.1, ())) := by
  rw [porterref36_Ticket, show porterref04_Frame (k + 100) [key, text] = some (frame2 key text) from refFrameN k (by simp) (by have := frame2_length key text; unfold frame2 at this; omega), Option.bind_some]

noncomputable def ticketR (N : Nat) (n nonce key text : List UInt8) : List UInt8 × Int × Unit :=
  if nonce.length ≠ 16 then ([], 7, ()) else if 4096 < (frame2 key text).length then ([], 3, ()) else (sealL N n nonce (frame2 key text), 0, ())

theorem tickets_eq (k : Nat) {n nonce key text : List UInt8} (hk : 2200 ≤ k) (hn : n.length ≤ 30000) (h : key.length ≤ 200) (h2 : text.length ≤ 300 ∨ 4096 < text.length) (h3 : text.length ≤ 4200) :
    notary_Ticket (k + 100) n nonce key text = some (ticketR (k + 100) n nonce key text) ∧ porterref36_Ticket (k + 100) n nonce key text = some (ticketR (k + 100) n nonce key text) := by
  rw [ticket_pre k (by omega) (by omega), rticket_pre k (by omega) (by omega)]
  have hfl := frame2_length key text
  unfold ticketR
  by_cases h16 : nonce.length = 16
  · rw [if_neg (by simpa using h16)]
    by_cases hlim : 4096 < (frame2 key text).length
    · rw [if_pos hlim, (seal_limit (k + 100) h16 hlim).1, (seal_limit (k + 100) h16 hlim).2]; exact ⟨rfl, rfl⟩
    · rw [if_neg hlim, seal_eq k hk hn h16 (by omega), refSeal_eq k hk hn h16 (by omega)]; exact ⟨rfl, rfl⟩
  · rw [if_pos (by simpa using h16), (seal_arg (k + 100) h16).1, (seal_arg (k + 100) h16).2]; exact ⟨rfl, rfl⟩

theorem formR_of {o : Option (List (List UInt8))} {a b : List UInt8} (h : formR o = (a, b, 0, ())) : o = some [a, b] := by
  unfold formR at h
  split at h
  · rename_i x y; cases h; rfl
  · cases h

theorem formR_bad {o : Option (List (List UInt8))} (h : (formR o).2.2.1 ≠ 0) : formR o = ([], [], 2, ()) := by
  unfold formR at h ⊢
  split
  · rename_i x y; exact absurd rfl h
  · rfl

/-- what is read of any text -/
theorem reads_eq (k : Nat) {n t : List UInt8} (hk : 2200 ≤ k) (hn : n.length ≤ 30000) (ht : t.length ≤ 400) :
    ∃ a b e, notary_Read (k + 100) n t = some (a, b, e, ()) ∧ porterref36_Read (k + 100) n t = some (a, b, e, ()) ∧ (e ≠ 0 → a = [] ∧ b = []) ∧ a.length ≤ 400 := by
  by_cases h48 : t.length < 48
  · obtain ⟨h1, h2⟩ := open_short (k + 100) (key := n) h48
    exact ⟨[], [], 1, read_err _ h1 (by decide), refRead_err _ h2 (by decide), fun _ => ⟨rfl, rfl⟩, by simp⟩
  have ho := open_eq k (key := n) (s := t) hk hn (by omega) (by omega)
  have hr := refOpen_eq k (key := n) (s := t) hk hn (by omega) (by omega)
  cases hf : fits (k + 100) n t with
  | false =>
    rw [hf, cond_false] at ho hr
    exact ⟨[], [], 8, read_err _ ho (by decide), refRead_err _ hr (by decide), fun _ => ⟨rfl, rfl⟩, by simp⟩
  | true =>
    rw [hf, cond_true] at ho hr
    have hl := openT_length k (key := n) (s := t) (by omega) hn (by omega)
    have e1 := read_ok (k + 100) ho (by omega) (by omega)
    have e2 := refRead_ok (k + 100) hr (by omega) (by omega)
    generalize openT (k + 100) n t = c at hl e1 e2
    obtain ⟨a, b, e, u⟩ : List UInt8 × List UInt8 × Int × Unit := formR (splitL c)
    by_cases he : (formR (splitL c)).2.2.1 = 0
    · obtain ⟨a, b, hab⟩ : ∃ a b, formR (splitL c) = (a, b, 0, ()) := ⟨(formR (splitL c)).1, (formR (splitL c)).2.1, by rw [← he]⟩
      have hs := formR_of hab
      have hfr := frame_split c.length c [a, b] (Nat.le_refl _) (by omega) hs
      have := frame2_length a b
      unfold frame2 at this
      rw [hfr] at this
      exact ⟨a, b, 0, by rw [e1, hab], by rw [e2, hab], fun h => absurd rfl h, by omega⟩
    · have hb := formR_bad he
      exact ⟨[], [], 2, by rw [e1, hb], by rw [e2, hb], fun _ => ⟨rfl, rfl⟩, by simp⟩

theorem addAll_len {N : Nat} : ∀ (l : List (List UInt8)) (t : Tk), t.2.1.length ≤ 64 → (addAll N t l).1.2.1.length ≤ 64
  | [], t, h => h
  | c :: l, t, h => by
    rw [addAll]
    cases hb : ((addR N t c).2.1 != 0) with
    | true => exact Nat.zero_le _
    | false =>
      obtain ⟨e, h1, h2⟩ := addR_ok (bne_eq_false_iff_eq.1 hb)
      rw [cond_false]
      refine addAll_len l _ ?_
      rw [e]
      simp only [withT, List.length_append, List.length_singleton]; omega

theorem rdloop (k : Nat) (hk : 2200 ≤ k) {l : List (List UInt8)} (hl : l.length ≤ 1000) {t : Tk} (hn : t.2.1.length ≤ 64) (ht : t.2.2.1.length = 32) :
    porterref36_Discharge_p1 (k + 100) l (([] : List UInt8), (([] : List ((List UInt8) × ((List UInt8) × Unit))), (([] : List UInt8), ()))) t 0 (fun x6 x7 => some (x6, (x7, ()))) (fun t => some (t, ((0 : Int), ()))) = some (addAll (k + 100) t l) := by
  rw [porterref36_Discharge_p1]
  refine (iter_eq (fun v => ∃ (i : Nat) (u : Tk), v = (u, (i : Int)) ∧ i ≤ l.length ∧ u.2.1.length ≤ 64 ∧ u.2.2.1.length = 32) (fun v => l.length - v.2.toNat) (fun v => some (addAll (k + 100) v.1 (l.drop v.2.toNat))) ?_ (k + 100) (t, 0) ⟨0, t, rfl, by omega, hn, ht⟩ (by simp only; omega)).trans (by rfl)
  rintro v r ⟨i, u, rfl, hi, hu, hut⟩ hr
  simp only [Int.toNat_natCast]
  rw [porterref36_Discharge_s1]
  by_cases hlt : i < l.length
  · rw [cond_t (decide_eq_true (by omega)), cond_t (inR_nat hlt), Int.toNat_natCast, radd_eq k (by omega) (by omega) (by omega), Option.bind_some, drop_cons l [] i hlt, addAll]
    cases hb : ((addR (k + 100) u (l.getD i [])).2.1 != 0) with
    | true => rfl
    | false =>
      obtain ⟨e, h1, h2⟩ := addR_ok (bne_eq_false_iff_eq.1 hb)
      have hsm : small (mkL (l.getD i [])) := ⟨by simp only [mkL]; omega, by simp [mkL]⟩
      have g2 : (nextT (k + 100) u.2.2.1 (mkL (l.getD i []))).length = 32 := nextT_length k (by omega) (by omega) hsm
      have g1 : (withT (k + 100) u (mkL (l.getD i []))).2.1.length ≤ 64 := by simp only [withT, List.length_append, List.length_singleton]; omega
      have g3 : (withT (k + 100) u (mkL (l.getD i []))).2.2.1.length = 32 := by simp only [withT]; exact g2
      rw [← e] at g1 g3
      generalize addR (k + 100) u (l.getD i []) = y at g1 g3 ⊢
      rw [cond_false, cond_false, wrap_succ (by omega), hr _ ⟨i + 1, y.1, rfl, by omega, g1, g3⟩ (by simp only; omega)]
      simp only [Int.toNat_natCast]
  · rw [cond_f (decide_eq_false (by omega)), drop_nil' l (by omega), addAll]

theorem rdischarge_err (N : Nat) {n t : List UInt8} {l : List (List UInt8)} {e : Int} (h : porterref36_Read N n t = some ([], [], e, ())) (he : e ≠ 0) : porterref36_Discharge N n t l = some (zeroT, e, ()) := by
  rw [porterref36_Discharge, h, Option.bind_some]
  dsimp only
  rw [bne_iff_ne.2 he, cond_true]; rfl

theorem rdischarge_ok (k : Nat) (hk : 2200 ≤ k) {n t key text : List UInt8} {l : List (List UInt8)} (h : porterref36_Read (k + 100) n t = some (key, text, 0, ())) (hl : l.length ≤ 1000) (hkey : key.length ≤ 30000) (ht : t.length ≤ 8000) :
    porterref36_Discharge (k + 100) n t l = some (addAll (k + 100) (t, [], rootT (k + 100) key t, ()) l) := by
  rw [porterref36_Discharge, h, Option.bind_some]
  dsimp only
  have hroot : (rootT (k + 100) key t).length = 32 := tagL_length k (key := key) (text := frameL (rootParts t)) (by omega) hkey (by rw [root_length]; omega)
  rw [bne_self_eq_false, cond_false, show porterref04_Parts (k + 100) key [[114, 111, 111, 116], t] = some (rootT (k + 100) key t) from refParts_eq k (l := rootParts t) (by omega) hkey (by simp [rootParts]) (by rw [root_length]; omega), Option.bind_some]
  generalize rootT (k + 100) key t = R at hroot ⊢
  exact rdloop k hk hl (t := (t, [], R, ())) (Nat.zero_le _) hroot

/-- any discharge -/
theorem discharges_eq (k : Nat) {n t : List UInt8} {l : List (List UInt8)} (hk : 2200 ≤ k) (hn : n.length ≤ 30000) (ht : t.length ≤ 400) (hl : l.length ≤ 1000) :
    ∃ y, notary_Discharge (k + 100) n t l = some y ∧ porterref36_Discharge (k + 100) n t l = some y ∧ y.1.2.1.length ≤ 64 := by
  obtain ⟨a, b, e, h1, h2, h3, h4⟩ := reads_eq k (n := n) (t := t) hk hn ht
  by_cases he : e = 0
  · subst he
    have g1 := discharge_ok k hk (l := l) h1 hl (by omega) (by omega)
    have g2 := rdischarge_ok k hk (l := l) h2 hl (by omega) (by omega)
    generalize rootT (k + 100) a t = R at g1 g2
    exact ⟨_, g1, g2, addAll_len l _ (Nat.zero_le _)⟩
  · obtain ⟨rfl, rfl⟩ := h3 he
    exact ⟨_, discharge_err _ h1 he, rdischarge_err _ h2 he, Nat.zero_le _⟩

theorem tickets_p2 (N : Nat) (hN : 70 < N) {ticket : List UInt8} {caveats l : List (List UInt8)} (hl : l.length = 4) :
    ∃ c, (∀ k0, porterlaw36_NotaryTickets_p2 N ticket caveats l k0 = k0 c) ∧ (c = false → (l.getD 0 []).length ≤ 100 ∧ (l.getD 2 []).length ≤ 200 ∧ ((l.getD 3 []).length ≤ 300 ∨ 4096 < (l.getD 3 []).length) ∧ (l.getD 3 []).length ≤ 4200 ∧ ticket.length ≤ 400 ∧ caveats.length ≤ 70) := by
  have d0 : decide (0 < l.length) = true := decide_eq_true (by omega)
  have d2 : decide (2 < l.length) = true := decide_eq_true (by omega)
  have d3 : decide (3 < l.length) = true := decide_eq_true (by omega)
  have hs : porterbase_Short N caveats (70 : Int) (4200 : Int) = some (decide (caveats.length ≤ 70 ∧ caveats.flatten.length ≤ 4200)) := short_eq N (many := 70) (most := 4200) (by omega) (by omega) hN
  by_cases h0 : 100 < (l.getD 0 []).length
  · exact ⟨true, fun k0 => by rw [porterlaw36_NotaryTickets_p2, d0, cond_true, cond_t (decide_eq_true (by omega))], fun h => by cases h⟩
  have e0 : decide ((100 : Int) < (((l.getD 0 []).length : Nat) : Int)) = false := decide_eq_false (by omega)
  by_cases h2 : 200 < (l.getD 2 []).length
  · exact ⟨true, fun k0 => by rw [porterlaw36_NotaryTickets_p2, d0, cond_true, e0, cond_false, d2, cond_true, cond_t (decide_eq_true (by omega))], fun h => by cases h⟩
  have e2 : decide ((200 : Int) < (((l.getD 2 []).length : Nat) : Int)) = false := decide_eq_false (by omega)
  by_cases h5 : 4200 < (l.getD 3 []).length
  · refine ⟨true, fun k0 => ?_, fun h => by cases h⟩
    rw [porterlaw36_NotaryTickets_p2, d0, cond_true, e0, cond_false, d2, cond_true, e2, cond_false, d3, cond_true, show decide ((300 : Int) < (((l.getD 3 []).length : Nat) : Int)) = true from decide_eq_true (by omega), cond_true, cond_true,
      show decide ((((l.getD 3 []).length : Nat) : Int) ≤ 4096) = false from decide_eq_false (by omega), cond_false, cond_true, show decide ((4200 : Int) < (((l.getD 3 []).length : Nat) : Int)) = true from decide_eq_true (by omega), cond_true]
  have e5 : decide ((4200 : Int) < (((l.getD 3 []).length : Nat) : Int)) = false := decide_eq_false (by omega)
  by_cases h4 : 300 < (l.getD 3 []).length ∧ (l.getD 3 []).length ≤ 4096
  · refine ⟨true, fun k0 => ?_, fun h => by cases h⟩
    rw [porterlaw36_NotaryTickets_p2, d0, cond_true, e0, cond_false, d2, cond_true, e2, cond_false, d3, cond_true, show decide ((300 : Int) < (((l.getD 3 []).length : Nat) : Int)) = true from decide_eq_true (by omega), cond_true, cond_true,
      show decide ((((l.getD 3 []).length : Nat) : Int) ≤ 4096) = true from decide_eq_true (by omega), cond_true]
  by_cases h6 : 400 < ticket.length
  · refine ⟨true, fun k0 => ?_, fun h => by cases h⟩
    have e6 : decide ((400 : Int) < ((ticket.length : Nat) : Int)) = true := decide_eq_true (by omega)
    rw [porterlaw36_NotaryTickets_p2, d0, cond_true, e0, cond_false, d2, cond_true, e2, cond_false, d3, cond_true, e5, e6]
    by_cases h3 : 300 < (l.getD 3 []).length
    · rw [show decide ((300 : Int) < (((l.getD 3 []).length : Nat) : Int)) = true from decide_eq_true (by omega), cond_true, cond_true, show decide ((((l.getD 3 []).length : Nat) : Int) ≤ 4096) = false from decide_eq_false (by omega)]
      rfl
    · rw [show decide ((300 : Int) < (((l.getD 3 []).length : Nat) : Int)) = false from decide_eq_false (by omega)]
      rfl
  have e6 : decide ((400 : Int) < ((ticket.length : Nat) : Int)) = false := decide_eq_false (by omega)
  refine ⟨!decide (caveats.length ≤ 70 ∧ caveats.flatten.length ≤ 4200), fun k0 => ?_, fun h => ?_⟩
  · rw [porterlaw36_NotaryTickets_p2, d0, cond_true, e0, cond_false, d2, cond_true, e2, cond_false, d3, cond_true, e5, e6, hs]
    by_cases h3 : 300 < (l.getD 3 []).length
    · rw [show decide ((300 : Int) < (((l.getD 3 []).length : Nat) : Int)) = true from decide_eq_true (by omega), cond_true, cond_true, show decide ((((l.getD 3 []).length : Nat) : Int) ≤ 4096) = false from decide_eq_false (by omega)]
      rfl
    · rw [show decide ((300 : Int) < (((l.getD 3 []).length : Nat) : Int)) = false from decide_eq_false (by omega)]
      rfl
  · have := of_decide_eq_true (p := caveats.length ≤ 70 ∧ caveats.flatten.length ≤ 4200) (by simpa using h)
    exact ⟨by omega, by omega, by omega, by omega, by omega, this.1⟩

theorem tickets_main {N : Nat} {l : List (List UInt8)} {ticket : List UInt8} {caveats : List (List UInt8)} {y : List UInt8 × Int × Unit} {a b : List UInt8} {e : Int} {z : Tk × Int × Unit} (hl : l.length = 4)
    (h1 : notary_Ticket N (l.getD 0 []) (l.getD 1 []) (l.getD 2 []) (l.getD 3 []) = some y) (h2 : porterref36_Ticket N (l.getD 0 []) (l.getD 1 []) (l.getD 2 []) (l.getD 3 []) = some y)
    (h3 : notary_Read N (l.getD 0 []) ticket = some (a, b, e, ())) (h4 : porterref36_Read N (l.getD 0 []) ticket = some (a, b, e, ())) (h5 : notary_Discharge N (l.getD 0 []) ticket caveats = some z) (h6 : porterref36_Discharge N (l.getD 0 []) ticket caveats = some z)
    (h7 : porterbase_SameToken N z.1 z.1 = some true) (hw : porterlaw36_works N = some true) (hc : ∀ k0, porterlaw36_NotaryTickets_p2 N ticket caveats l k0 = k0 false) : porterlaw36_NotaryTickets N l ticket caveats = some true := by
  have d0 : decide (0 < l.length) = true := decide_eq_true (by omega)
  have d1 : decide (1 < l.length) = true := decide_eq_true (by omega)
  have d2 : decide (2 < l.length) = true := decide_eq_true (by omega)
  have d3 : decide (3 < l.length) = true := decide_eq_true (by omega)
  rw [porterlaw36_NotaryTickets, porterlaw36_NotaryTickets_p1, hc, cond_false, d0, d1, d2, d3]
  rw [cond_true, cond_true, cond_true, cond_true, h1, Option.bind_some, cond_true, cond_true, cond_true, cond_true, h2, Option.bind_some, cond_true, h3, Option.bind_some, cond_true, h4, Option.bind_some, cond_true, h5, Option.bind_some, cond_true, h6, Option.bind_some]
  rw [beq_self_eq_true, cond_true, beq_self_eq_true, cond_true]
  rw [beq_self_eq_true, cond_true, beq_self_eq_true, cond_true, beq_self_eq_true, cond_true, h7, Option.bind_some, cond_true, beq_self_eq_true, cond_true, hw]
  rfl

theorem tickets_law (k : Nat) (hk : 2200 ≤ k) (hw : porterlaw36_works (k + 100) = some true) {l caveats : List (List UInt8)} {ticket : List UInt8} (hl : l.length = 4) : porterlaw36_NotaryTickets (k + 100) l ticket caveats = some true := by
  obtain ⟨c, hc, hb⟩ := tickets_p2 (k + 100) (by omega) (ticket := ticket) (caveats := caveats) hl
  cases c with
  | true =>
    rw [porterlaw36_NotaryTickets, porterlaw36_NotaryTickets_p1, hc, cond_true, hw]; rfl
  | false =>
    obtain ⟨b1, b2, b3, b4, b5, b6⟩ := hb rfl
    have h1 := tickets_eq k (n := l.getD 0 []) (nonce := l.getD 1 []) (key := l.getD 2 []) (text := l.getD 3 []) hk (by omega) b2 b3 b4
    obtain ⟨a, b, e, h3, h4, _, _⟩ := reads_eq k (n := l.getD 0 []) (t := ticket) hk (by omega) b5
    obtain ⟨z, h5, h6, h7⟩ := discharges_eq k (n := l.getD 0 []) (t := ticket) (l := caveats) hk (by omega) b5 (by omega)
    exact tickets_main hl h1.1 h1.2 h3 h4 h5 h6 (same_self k (by omega)) hw hc


end Go.Proofs.YtjnlgomdckihpaaGreatDoorLg

