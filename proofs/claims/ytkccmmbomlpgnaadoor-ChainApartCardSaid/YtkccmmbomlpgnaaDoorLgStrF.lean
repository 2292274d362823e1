/- Layer 5: streams. -/
import Derived.Test.YtkccmmbomlpgnaaDoorLgHmaL
set_option linter.all false
set_option maxRecDepth 100000
namespace Go.Proofs.YtkccmmbomlpgnaaDoorLg
open Go Go.Lift Go.Proofs.YtkccmmbomlpgnaaDoorPx

theorem number_raw (k : Nat) (n : Int) : stream_number (k + 9) n = some (toStr (([56, 48, 40, 32, 24, 16, 8, 0] : List Int).map fun j => IntKind.wrap .u8 (shrI .i64 n j))) := by kernel_rfl

theorem number_eq (k : Nat) {n : Nat} (hn : n < 9223372036854775808) : stream_number (k + 9) (n : Int) = some (be8 n) := by
  rw [number_raw]
  have h1 : IntKind.wrap .u64 ((n : Nat) : Int) = (n : Int) := by
    simp [IntKind.wrap, IntKind.signed, IntKind.bits]; omega
  have h2 : ∀ j, shrI .i64 (n : Int) j = shrI .u64 (n : Int) j := fun j => rfl
  unfold be8
  simp only [h1, h2]

theorem refNumber_eq (k : Nat) {n : Nat} (hn : n < 9223372036854775808) : porterref05_number (k + 9) (n : Int) = some (be8 n) := by
  have h : porterref05_number (k + 9) (n : Int) = porterref04_long (k + 9) (n : Int) := by kernel_rfl
  rw [h, long_eq k n hn]

def seed (nonce : List UInt8) (i : Nat) : List (List UInt8) := [[115, 116, 114, 101, 97, 109], nonce, be8 i]
noncomputable def blockL (N : Nat) (key nonce : List UInt8) (i : Nat) : List UInt8 := tagL N key (frameL (seed nonce i))

theorem seed_length (nonce : List UInt8) (i : Nat) : (frameL (seed nonce i)).length = 38 + nonce.length := by
  rw [frameL_length]
  simp [seed, be8_length]; omega

theorem blockL_length (k : Nat) {key nonce : List UInt8} (i : Nat) (hk : 600 ≤ k) (hl : key.length ≤ 30000) (hn : nonce.length ≤ 1000) : (blockL (k + 100) key nonce i).length = 32 :=
  tagL_length k hk hl (by rw [seed_length]; omega)

theorem block_eq (k : Nat) {key nonce : List UInt8} {i : Nat} (hk : 600 ≤ k) (hl : key.length ≤ 30000) (hn : nonce.length ≤ 1000) (hi : i < 9223372036854775808) : stream_Block (k + 100) key nonce (i : Int) = some (blockL (k + 100) key nonce i) := by
  unfold stream_Block
  rw [cond_f (dec_f (by omega)), show stream_number (k + 100) (i : Int) = some (be8 i) from number_eq (k + 91) hi, Option.bind_some]
  rw [show hmac_Parts (k + 100) key ([([(115 : UInt8), (116 : UInt8), (114 : UInt8), (101 : UInt8), (97 : UInt8), (109 : UInt8)] : List UInt8), nonce, be8 i] : List (List UInt8)) = _ from parts_eq k (l := seed nonce i) hk hl (by simp [seed]) (by rw [seed_length]; omega)]
  rfl
theorem refBlock_eq (k : Nat) {key nonce : List UInt8} {i : Nat} (hk : 600 ≤ k) (hl : key.length ≤ 30000) (hn : nonce.length ≤ 1000) (hi : i < 9223372036854775808) : porterref05_Block (k + 100) key nonce (i : Int) = some (blockL (k + 100) key nonce i) := by
  unfold porterref05_Block
  rw [cond_f (dec_f (by omega)), show porterref05_number (k + 100) (i : Int) = some (be8 i) from refNumber_eq (k + 91) hi, Option.bind_some]
  rw [show porterref04_Parts (k + 100) key ([([(115 : UInt8), (116 : UInt8), (114 : UInt8), (101 : UInt8), (97 : UInt8), (109 : UInt8)] : List UInt8), nonce, be8 i] : List (List UInt8)) = _ from refParts_eq k (l := seed nonce i) hk hl (by simp [seed]) (by rw [seed_length]; omega)]
  rfl

noncomputable def firstL (N : Nat) (key nonce : List UInt8) (m : Nat) : List UInt8 := ((List.range m).map (blockL N key nonce)).flatten
noncomputable def takeL (N : Nat) (key nonce : List UInt8) (n : Nat) : List UInt8 := (firstL N key nonce ((n + 31) / 32)).take n

theorem firstL_succ (N : Nat) (key nonce : List UInt8) (m : Nat) : firstL N key nonce (m + 1) = firstL N key nonce m ++ blockL N key nonce m := by
  unfold firstL
  rw [List.range_succ, List.map_append, List.flatten_append]; simp

theorem firstL_length (k : Nat) {key nonce : List UInt8} (hk : 600 ≤ k) (hl : key.length ≤ 30000) (hn : nonce.length ≤ 1000) : ∀ m, (firstL (k + 100) key nonce m).length = 32 * m
  | 0 => rfl
  | m + 1 => by rw [firstL_succ, List.length_append, firstL_length k hk hl hn m, blockL_length k m hk hl hn]; omega

theorem takeL_length (k : Nat) {key nonce : List UInt8} (n : Nat) (hk : 600 ≤ k) (hl : key.length ≤ 30000) (hn : nonce.length ≤ 1000) : (takeL (k + 100) key nonce n).length = n := by
  unfold takeL; rw [List.length_take, firstL_length k hk hl hn]; omega

theorem firstL_take (k : Nat) {key nonce : List UInt8} {n m : Nat} (hk : 600 ≤ k) (hl : key.length ≤ 30000) (hn : nonce.length ≤ 1000) (h : n ≤ 32 * m) : ∀ d, (firstL (k + 100) key nonce (m + d)).take n = (firstL (k + 100) key nonce m).take n
  | 0 => rfl
  | d + 1 => by
    rw [show m + (d + 1) = (m + d) + 1 by omega, firstL_succ, List.take_append_of_le_length (by rw [firstL_length k hk hl hn]; omega), firstL_take k hk hl hn h d]

theorem takeL_take (k : Nat) {key nonce : List UInt8} {n n' : Nat} (hk : 600 ≤ k) (hl : key.length ≤ 30000) (hn : nonce.length ≤ 1000) (h : n ≤ n') : (takeL (k + 100) key nonce n').take n = takeL (k + 100) key nonce n := by
  unfold takeL
  rw [List.take_take, Nat.min_eq_left h]
  have := firstL_take k (key := key) (nonce := nonce) (n := n) (m := (n + 31) / 32) hk hl hn (by omega) ((n' + 31) / 32 - (n + 31) / 32)
  rw [show (n + 31) / 32 + ((n' + 31) / 32 - (n + 31) / 32) = (n' + 31) / 32 by omega] at this
  exact this

/-! ## the program -/
theorem blocks_eq (k : Nat) {key nonce : List UInt8} {n : Nat} (hk : 600 ≤ k) (hl : key.length ≤ 30000) (hn : nonce.length ≤ 1000) (h : n ≤ 2000) : stream_blocks1 (k + 100) (n : Int) key nonce = some ((List.range ((n + 31) / 32)).map fun i => (blockL (k + 100) key nonce i, ())) := by
  have hq : IntKind.wrap .i64 (Int.tdiv (IntKind.wrap .i64 ((IntKind.wrap .i64 ((n : Int) + 32)) - 1)) 32) = (((n + 31) / 32 : Nat) : Int) := by
    rw [wrap_in (x := (n : Int) + 32) (by unfold I64; omega), wrap_in (x := (n : Int) + 32 - 1) (by unfold I64; omega), show (n : Int) + 32 - 1 = ((n + 31 : Nat) : Int) by omega]
    rw [show Int.tdiv ((n + 31 : Nat) : Int) 32 = (((n + 31) / 32 : Nat) : Int) from rfl, wrap_in (by unfold I64; omega)]
  unfold stream_blocks1 stream_blocks1_p1
  rw [hq]
  generalize hm : (n + 31) / 32 = m
  have hm2 : m ≤ 100 := by omega
  have main := iter_eq (step := fun (v : Int) r => stream_blocks1_s1 (k + 100) key nonce (m : Int) v (fun x10 => r x10) (some []) (some [])) (I := fun v => ∃ i : Nat, i ≤ m ∧ v = (i : Int)) (m := fun v => m - v.toNat) (R := fun v => some ((List.range' v.toNat (m - v.toNat)).map fun i => (blockL (k + 100) key nonce i, ()))) ?_ (k + 100) 0 ⟨0, by omega, rfl⟩ (by first | omega | (dsimp only; omega))
  · refine main.trans ?_
    try dsimp only
    rw [show (0 : Int).toNat = 0 from rfl, Nat.sub_zero, List.range_eq_range']
  rintro v r ⟨i, hi, rfl⟩ hr
  try dsimp only
  rw [Int.toNat_natCast] at hr ⊢
  unfold stream_blocks1_s1
  by_cases hlt : i < m
  · rw [cond_t (dec_t (by omega)), block_eq k hk hl hn (by omega), Option.bind_some, wrap_succ (by omega)]
    have h2 := hr ((i + 1 : Nat) : Int) ⟨i + 1, by omega, rfl⟩ (by first | omega | (dsimp only; omega))
    try dsimp only
    rw [h2, comb_some, Int.toNat_natCast, show m - i = (m - (i + 1)) + 1 by omega, List.range'_succ]
    rfl
  · rw [cond_f (dec_f (by omega)), show m - i = 0 by omega]; rfl

theorem foldB {N : Nat} (ys : List (List UInt8 × Unit)) (k0 : Unit × (List Int × Unit) → Option (List UInt8)) (h : ((ys.map (·.1)).flatten).length ≤ 70368744177664) :
    iterL (fun (y : (List UInt8 × Unit)) (v : (Unit × ((List Int) × Unit))) r => (strings_Builder_WriteString N v y.1).bind fun y1 => r y1.2.1) k0 ys ((), ([], ())) = k0 ((), (ofStr (ys.map (·.1)).flatten, ())) := by
  rw [iterL_ok (fun (v : Unit × (List Int × Unit)) (ys : List (List UInt8 × Unit)) => v.2.1.length + ((ys.map (·.1)).flatten).length ≤ 70368744177664) (fun v y => ((), (v.2.1 ++ ofStr y.1, ()))) (by
    rintro y ys ⟨u, xs, u'⟩ r hI
    cases u; cases u'
    simp only [List.map_cons, List.flatten_cons, List.length_append] at hI
    refine ⟨?_, by simp only [List.length_append, Go.Proofs.YtkccmmbomlpgnaaDoorPx.ofStr_length]; omega⟩
    unfold strings_Builder_WriteString
    rw [cond_t (decide_eq_true (by rw [Go.Proofs.YtkccmmbomlpgnaaDoorPx.ofStr_length]; dsimp only; omega)), Option.bind_some]) _ _ (by simpa using h)]
  have hf := fold_out ys []
  have h0 : ofStr ([] : List UInt8) = [] := rfl
  rw [h0] at hf
  rw [hf]; rfl

theorem str_eq (s : List UInt8) (h : s.length ≤ 70368744177664) : str_F (((), (ofStr s, ())), ()) = some (s, (((), ((), ())), ())) := by
  unfold str_F
  dsimp only
  rw [cond_t (by
    rw [Bool.and_eq_true]
    refine ⟨okB_ofStr _, decide_eq_true ?_⟩
    rw [Go.Proofs.YtkccmmbomlpgnaaDoorPx.ofStr_length]
    exact Nat.le_trans h (by decide))]
  rw [Go.Proofs.YtkccmmbomlpgnaaDoorPx.toStr_ofStr]

theorem take_eq (k : Nat) {key nonce : List UInt8} {n : Nat} (hk : 600 ≤ k) (hl : key.length ≤ 30000) (hn : nonce.length ≤ 1000) (h : n ≤ 2000) : stream_Take (k + 100) key nonce (n : Int) = some (takeL (k + 100) key nonce n) := by
  unfold stream_Take
  by_cases h0 : n < 1
  · rw [cond_t (dec_t (by omega)), show n = 0 by omega]; rfl
  rw [cond_f (dec_f (by omega)), if_neg (by omega)]
  unfold stream_Take_p1 stream_Take_fit1 stream_Take_s1
  rw [blocks_eq k hk hl hn h, Option.bind_some]
  have hfl := firstL_length k (key := key) (nonce := nonce) hk hl hn ((n + 31) / 32)
  have hmap : ((List.range ((n + 31) / 32)).map fun i => (blockL (k + 100) key nonce i, ())).map (·.1) = (List.range ((n + 31) / 32)).map (blockL (k + 100) key nonce) := by
    rw [List.map_map]; rfl
  unfold firstL at hfl
  rw [foldB (N := k + 100) _ _ (by rw [hmap, hfl]; omega), hmap]
  dsimp only
  rw [str_eq _ (by rw [hfl]; omega), Option.bind_some]
  rw [cond_t (dec_t (by rw [hfl]; omega)), Int.toNat_natCast, cut_take]
  rfl

theorem mix_eq (k : Nat) {key nonce text : List UInt8} (hk : 600 ≤ k) (hl : key.length ≤ 30000) (hn : nonce.length ≤ 1000) (h : text.length ≤ 2000) (hkt : text.length < k) : stream_Mix (k + 100) key nonce text = some (xorL text (takeL (k + 100) key nonce text.length)) := by
  unfold stream_Mix
  rw [cond_f (dec_f (by omega)), take_eq k hk hl hn h, Option.bind_some, xor_eq _ (by omega) (by omega)]; rfl

/-! ## the reference -/
theorem refTake_eq (k : Nat) {key nonce : List UInt8} {n : Nat} (hk : 600 ≤ k) (hl : key.length ≤ 30000) (hn : nonce.length ≤ 1000) (h : n ≤ 2000) : porterref05_Take (k + 100) key nonce (n : Int) = some (takeL (k + 100) key nonce n) := by
  unfold porterref05_Take porterref05_Take_p1
  rw [cond_f (dec_f (by omega))]
  dsimp only
  unfold porterref05_Take_p2
  have hfl := firstL_length k (key := key) (nonce := nonce) hk hl hn
  rw [iter_eq (I := fun (v : List UInt8 × Int) => ∃ i : Nat, i ≤ (n + 31) / 32 ∧ v = (firstL (k + 100) key nonce i, (i : Int))) (m := fun v => 100 - v.2.toNat) (R := fun _ => some (takeL (k + 100) key nonce n)) ?_ (k + 100) ([], 0) ⟨0, by omega, rfl⟩ (by dsimp only; omega)]
  rintro v r ⟨i, hi, rfl⟩ hr
  dsimp only at hr ⊢
  unfold porterref05_Take_s2
  by_cases hlt : 32 * i < n
  · rw [cond_t (dec_t (by rw [hfl]; omega)), refBlock_eq k hk hl hn (by omega), Option.bind_some, cond_t (dec_t (by rw [hfl, blockL_length k i hk hl hn]; omega)), wrap_succ (by omega), ← firstL_succ]
    exact hr _ ⟨i + 1, by omega, rfl⟩ (by dsimp only; omega)
  · rw [cond_f (dec_f (by rw [hfl]; omega))]
    have : i = (n + 31) / 32 := by omega
    dsimp only
    by_cases h0 : n < 1
    · rw [cond_t (dec_t (by omega)), show n = 0 by omega]; rfl
    · rw [cond_f (dec_f (by omega)), cond_t (dec_t (by rw [hfl]; omega)), Int.toNat_natCast, cut_take, this]; rfl

theorem refMix_eq (k : Nat) {key nonce text : List UInt8} (hk : 600 ≤ k) (hl : key.length ≤ 30000) (hn : nonce.length ≤ 1000) (h : text.length ≤ 2000) (hkt : text.length < k) : porterref05_Mix (k + 100) key nonce text = some (xorL text (takeL (k + 100) key nonce text.length)) := by
  unfold porterref05_Mix
  rw [cond_f (dec_f (by omega)), refTake_eq k hk hl hn h, Option.bind_some, refXor_eq _ (by omega) (by omega)]; rfl

/-! ## the laws -/
theorem xorL_take (a b : List UInt8) (n : Nat) : (xorL a b).take n = xorL (a.take n) (b.take n) := by
  unfold xorL; rw [List.take_zipWith]

end Go.Proofs.YtkccmmbomlpgnaaDoorLg
