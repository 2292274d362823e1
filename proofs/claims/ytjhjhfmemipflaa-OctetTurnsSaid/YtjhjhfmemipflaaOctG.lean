/- What the plain functions of octet say: exclusive or, longer texts, pieces. -/
import Derived.Test.YtjhjhfmemipflaaOctF
set_option linter.all false
namespace Go.Proofs.YtjhjhfmemipflaaLf
open Go Go.Lift Go.Proofs.YtjhjhfmemipflaaPx

theorem xor_eq (N : Nat) {a b : List UInt8} (ha : a.length ≤ 281474976710656) (hN : a.length < N) : octet_Xor N a b = some (xorL a b) := by
  simp only [octet_Xor, octet_Xor_p1, min_len]
  rw [cond_t (dec_t ⟨by omega, by omega, by omega, by omega⟩)]
  simp only [Int.toNat_natCast, List.length_replicate]
  rw [iter_eq (I := fun (v : List Int × Int) => v.1.length = min a.length b.length ∧ 0 ≤ v.2 ∧ v.2 ≤ ((min a.length b.length : Nat) : Int)) (m := fun (v : List Int × Int) => a.length - v.2.toNat)
    (R := fun (v : List Int × Int) => some (toStr (v.1.take v.2.toNat) ++ xorL (a.drop v.2.toNat) (b.drop v.2.toNat))) ?_ N (List.replicate (min a.length b.length) 0, 0) ⟨by simp, by omega, by dsimp only; omega⟩ (by simpa using hN)]
  · simp [toStr]
  rintro ⟨out, v⟩ r ⟨hl, h0, h1⟩ hr
  dsimp only at *
  obtain ⟨i, rfl⟩ := Int.eq_ofNat_of_zero_le h0
  simp only [octet_Xor_s1, Int.toNat_natCast]
  by_cases hlt : i < min a.length b.length
  · have hia : i < a.length := by omega
    have hib : i < b.length := by omega
    have hio : i < out.length := by omega
    rw [cond_t (dec_t (by omega)), cond_t (inR_nat hia), cond_t (inR_nat hib), cond_t (inR_nat hio), cond_t (dec_t hio), xor_u8, wrap_succ (by omega), hr _ ⟨by simpa using hl, by omega, by omega⟩ (by dsimp only; omega), drop_cons a 0 i hia, drop_cons b 0 i hib]
    simp only [Int.toNat_natCast, take_set_succ _ _ _ hio, toStr_append, toStr_byte, List.append_assoc]
    rfl
  · have hi : i = min a.length b.length := by omega
    rw [cond_f (dec_f (by omega)), List.take_of_length_le (by omega)]
    have : xorL (a.drop i) (b.drop i) = [] := by
      apply List.length_eq_zero_iff.1
      rw [xorL_length, List.length_drop, List.length_drop]; omega
    rw [this, List.append_nil]

/-- the exclusive or of two numbers below 256, bit by bit, from bit k on -/
theorem refXor_bits (N : Nat) (a b out : List UInt8) (i : Int) (k0 : Int → Option (List UInt8)) (hN : 9 < N) (x y : UInt8) :
    porterref02_Xor_p3 N a b out i ((x.toNat : Nat) : Int) ((y.toNat : Nat) : Int) 0 1 0 k0 = k0 (((x ^^^ y).toNat : Nat) : Int) := by
  unfold porterref02_Xor_p3
  rw [iter_eq (I := fun (v : Int × Int × Int × Int × Int) => ∃ (p q n k : Nat), v = ((p : Int), (q : Int), (n : Int), ((2 ^ k : Nat) : Int), (k : Int)) ∧ k ≤ 8 ∧ p < 2 ^ (8 - k) ∧ q < 2 ^ (8 - k) ∧ n < 2 ^ k) (m := fun (v : Int × Int × Int × Int × Int) => 8 - v.2.2.2.2.toNat)
    (R := fun (v : Int × Int × Int × Int × Int) => k0 (((v.2.2.1.toNat + v.2.2.2.1.toNat * (v.1.toNat ^^^ v.2.1.toNat) : Nat)) : Int)) ?_ N (((x.toNat : Nat) : Int), ((y.toNat : Nat) : Int), 0, 1, 0) ⟨x.toNat, y.toNat, 0, 0, rfl, by omega, u8_lt x, u8_lt y, by omega⟩ (by dsimp only; omega)]
  · simp only [Int.toNat_natCast, UInt8.toNat_xor]
    congr 2; simp
  rintro v r ⟨p, q, n, k, rfl, hk, hp, hq, hn⟩ hr
  dsimp only at *
  simp only [porterref02_Xor_s3, porterref02_Xor_p4, porterref02_Xor_p5, Int.toNat_natCast]
  by_cases hlt : k < 8
  · have hpk : 2 ^ (8 - k) = 2 * 2 ^ (8 - (k + 1)) := by
      rw [show 8 - k = (8 - (k + 1)) + 1 by omega, Nat.pow_succ, Nat.mul_comm]
    have h2k : 2 ^ (k + 1) = 2 * 2 ^ k := by rw [Nat.pow_succ, Nat.mul_comm]
    have hle : 2 ^ k ≤ 256 := by
      have : 2 ^ k ≤ 2 ^ 8 := Nat.pow_le_pow_right (by omega) (by omega)
      simpa using this
    have hle2 : 2 ^ (8 - (k + 1)) ≤ 256 := by
      have : 2 ^ (8 - (k + 1)) ≤ 2 ^ 8 := Nat.pow_le_pow_right (by omega) (by omega)
      simpa using this
    have hx := xor_step p q
    have hpd : (p : Int).tdiv 2 = ((p / 2 : Nat) : Int) := by rw [Int.tdiv_eq_ediv_of_nonneg (by omega)]; omega
    have hqd : (q : Int).tdiv 2 = ((q / 2 : Nat) : Int) := by rw [Int.tdiv_eq_ediv_of_nonneg (by omega)]; omega
    have hpm : (p : Int).tmod 2 = ((p % 2 : Nat) : Int) := by rw [Int.tmod_eq_emod_of_nonneg (by omega)]; omega
    have hqm : (q : Int).tmod 2 = ((q % 2 : Nat) : Int) := by rw [Int.tmod_eq_emod_of_nonneg (by omega)]; omega
    rw [cond_t (dec_t (by omega)), hpd, hqd, hpm, hqm, wrap_in (x := ((p / 2 : Nat) : Int)) (by unfold I64; omega), wrap_in (x := ((q / 2 : Nat) : Int)) (by unfold I64; omega), wrap_in (x := ((2 ^ k : Nat) : Int) * 2) (by unfold I64; omega), wrap_succ (by omega)]
    have hbit : ((2 ^ k : Nat) : Int) * 2 = ((2 ^ (k + 1) : Nat) : Int) := by rw [h2k]; omega
    rw [hbit]
    by_cases he : p % 2 = q % 2
    · rw [cond_f (by simp [he]), hr _ ⟨p / 2, q / 2, n, k + 1, rfl, by omega, by omega, by omega, by omega⟩ (by dsimp only; omega)]
      dsimp only
      rw [if_pos he] at hx
      simp only [Int.toNat_natCast]
      rw [hx, h2k]
      congr 2
      rw [Nat.zero_add, Nat.mul_assoc, Nat.mul_left_comm]
    · rw [cond_t (by simp only [bne_iff_ne, ne_eq]; omega), wrap_in (x := (n : Int) + ((2 ^ k : Nat) : Int)) (by unfold I64; omega), hr _ ⟨p / 2, q / 2, n + 2 ^ k, k + 1, by simp, by omega, by omega, by omega, by omega⟩ (by dsimp only; omega)]
      dsimp only
      rw [if_neg he] at hx
      have e : ((n : Int) + ((2 ^ k : Nat) : Int)).toNat = n + 2 ^ k := by omega
      simp only [Int.toNat_natCast, e]
      rw [hx, h2k, Nat.mul_add, Nat.mul_one, Nat.mul_assoc, Nat.mul_left_comm, Nat.add_assoc]
  · have : k = 8 := by omega
    subst this
    have hp0 : p = 0 := by simp at hp; exact hp
    have hq0 : q = 0 := by simp at hq; exact hq
    subst hp0; subst hq0
    rw [cond_f (dec_f (by omega))]
    simp

theorem refXor_eq (N : Nat) {a b : List UInt8} (ha : a.length ≤ 281474976710656) (hN : a.length + 9 < N) : porterref02_Xor N a b = some (xorL a b) := by
  simp only [porterref02_Xor, porterref02_Xor_p1]
  rw [iter_eq (I := fun (v : List UInt8 × Int) => v.1.length = v.2.toNat ∧ 0 ≤ v.2 ∧ v.2 ≤ ((min a.length b.length : Nat) : Int)) (m := fun (v : List UInt8 × Int) => a.length - v.2.toNat)
    (R := fun (v : List UInt8 × Int) => some (v.1 ++ xorL (a.drop v.2.toNat) (b.drop v.2.toNat))) ?_ N ([], 0) ⟨by simp, by omega, by dsimp only; omega⟩ (by simp; omega)]
  · simp
  rintro ⟨out, v⟩ r ⟨hl, h0, h1⟩ hr
  dsimp only at *
  obtain ⟨i, rfl⟩ := Int.eq_ofNat_of_zero_le h0
  simp only [porterref02_Xor_s1, porterref02_Xor_p2, Int.toNat_natCast] at *
  by_cases hlt : i < min a.length b.length
  · have hia : i < a.length := by omega
    have hib : i < b.length := by omega
    rw [cond_t (dec_t (by omega)), cond_t (dec_t (by omega)), cond_t (inR_nat hia), cond_t (inR_nat hib), wrap64_byte, wrap64_byte, refXor_bits _ _ _ _ _ _ (by omega), wrap_byte, toStr_byte, cond_t (dec_t (by simp; omega)), wrap_succ (by omega), hr _ ⟨by simp; omega, by omega, by omega⟩ (by dsimp only; omega), drop_cons a 0 i hia, drop_cons b 0 i hib]
    simp only [Int.toNat_natCast, List.append_assoc]
    rfl
  · have hi : i = min a.length b.length := by omega
    have e1 : ∀ (X Y : Option (List UInt8)), cond (decide ((i : Int) < ((a.length : Nat) : Int))) (cond (decide ((i : Int) < ((b.length : Nat) : Int))) X Y) Y = Y := by
      intro X Y
      by_cases h1 : i < a.length
      · rw [cond_t (dec_t (by omega)), cond_f (dec_f (by omega))]
      · rw [cond_f (dec_f (by omega))]
    rw [e1]
    have : xorL (a.drop i) (b.drop i) = [] := by
      apply List.length_eq_zero_iff.1
      rw [xorL_length, List.length_drop, List.length_drop]; omega
    rw [this, List.append_nil]

/-- as many bytes, at least; some zeros behind -/
def padL (s : List UInt8) (n : Int) : List UInt8 := s ++ List.replicate ((min n 65536).toNat - s.length) 0

theorem pad_if (n : Int) : (if (65536 : Int) < n then (65536 : Int) else n) = min n 65536 := by split <;> omega

theorem pad_eq (N : Nat) {s : List UInt8} (hs : s.length ≤ 9223372036854000000) {n : Int} (hn : I64 n) : octet_Pad N s n = some (padL s n) := by
  simp only [octet_Pad, pad_if, padL]
  generalize hm : min n 65536 = m
  have hm2 : m ≤ 65536 := by omega
  have hm3 : -9223372036854775808 ≤ m := by unfold I64 at hn; omega
  by_cases h : m ≤ s.length
  · rw [cond_t (dec_t h), show m.toNat - s.length = 0 by omega]; simp
  · have hw : IntKind.wrap .i64 (m - ((s.length : Nat) : Int)) = m - ((s.length : Nat) : Int) := wrap_in (by unfold I64; omega)
    rw [cond_f (dec_f h), hw, cond_t (dec_t ⟨by omega, by omega, by omega, by omega⟩), cond_t (dec_t (by rw [toStr_replicate, List.length_replicate]; omega)), toStr_replicate]
    congr 3; omega

theorem refPad_eq (N : Nat) {s : List UInt8} (hs : s.length ≤ 9223372036854000000) {n : Int} (hn : I64 n) : porterref02_Pad N s n = some (padL s n) := by
  have key : ∀ m : Int, min n 65536 = m → ∀ k0 : Int → Option (List UInt8), porterref02_Pad_p1 N s n k0 = k0 m := by
    intro m hm k0
    unfold porterref02_Pad_p1
    by_cases h : 65536 < n
    · rw [cond_t (dec_t h)]; congr 1; omega
    · rw [cond_f (dec_f h)]; congr 1; omega
  simp only [porterref02_Pad, padL]
  generalize hm : min n 65536 = m
  rw [key m hm]
  have hm2 : m ≤ 65536 := by omega
  have hm3 : -9223372036854775808 ≤ m := by unfold I64 at hn; omega
  by_cases h : m ≤ s.length
  · rw [cond_t (dec_t h), show m.toNat - s.length = 0 by omega]; simp
  · have hw : IntKind.wrap .i64 (m - ((s.length : Nat) : Int)) = m - ((s.length : Nat) : Int) := wrap_in (by unfold I64; omega)
    rw [cond_f (dec_f h), hw, cond_t (dec_t ⟨by omega, by omega, by omega, by omega⟩), cond_t (dec_t (by rw [toStr_replicate, List.length_replicate]; omega)), toStr_replicate]
    congr 3; omega

def cutL (s : List UInt8) (size : Int) : List (List UInt8) := if size < 1 then [] else piecesL size.toNat s

theorem cut_eq (N : Nat) {s : List UInt8} (hs : s.length ≤ 10000000000) (hN : s.length < N) {n : Int} (hn : I64 n) : octet_Cut N s n = some (cutL s n) := by
  simp only [octet_Cut, octet_Cut_p1, octet_Cut_p2, cutL]
  by_cases h1 : n < 1
  · rw [cond_t (dec_t h1), if_pos h1]; rfl
  rw [cond_f (dec_f h1), if_neg h1]
  by_cases h2 : s = []
  · subst h2; rfl
  have h0 : s.length ≠ 0 := fun e => h2 (List.length_eq_zero_iff.1 e)
  rw [cond_f (by simpa using h2), cond_f (by simp; omega)]
  obtain ⟨size, rfl⟩ := Int.eq_ofNat_of_zero_le (by omega : 0 ≤ n)
  have hw1 : IntKind.wrap .i64 (((s.length : Nat) : Int) - 1) = ((s.length - 1 : Nat) : Int) := by rw [wrap_in (by unfold I64; omega)]; omega
  have hq : (((s.length - 1 : Nat) : Int)).tdiv (size : Int) = (((s.length - 1) / size : Nat) : Int) := by
    rw [Int.tdiv_eq_ediv_of_nonneg (by omega)]; rfl
  have hqle : (s.length - 1) / size ≤ s.length - 1 := Nat.div_le_self _ _
  have hq0 : (0 : Int) ≤ (((s.length - 1) / size : Nat) : Int) := Int.natCast_nonneg _
  rw [hw1, hq, wrap_in (x := (((s.length - 1) / size : Nat) : Int)) (by unfold I64; omega), wrap_succ (by omega)]
  have hcount := pieces_len (by omega : 1 ≤ size) s.length s (Nat.le_refl _) h2
  rw [← hcount]
  have hcl : (piecesL size s).length ≤ s.length := pieces_len_le (by omega) _ s (Nat.le_refl _)
  rw [cond_t (dec_t ⟨by omega, by omega, by omega, by omega⟩)]
  simp only [octet_Cut_p3, Int.toNat_natCast, List.length_replicate]
  -- piece i starts at i times size
  have hat : ∀ i, i < (piecesL size s).length → i * size < s.length := by
    intro i hi
    rw [hcount] at hi
    have h3 : i * size ≤ (s.length - 1) / size * size := Nat.mul_le_mul_right _ (by omega)
    have h4 : (s.length - 1) / size * size ≤ s.length - 1 := Nat.div_mul_le_self _ _
    omega
  rw [iter_eq (I := fun (v : List (List UInt8) × Int) => v.1.length = (piecesL size s).length ∧ 0 ≤ v.2 ∧ v.2 ≤ (((piecesL size s).length : Nat) : Int)) (m := fun (v : List (List UInt8) × Int) => s.length - v.2.toNat)
    (R := fun (v : List (List UInt8) × Int) => some (v.1.take v.2.toNat ++ piecesL size (s.drop (v.2.toNat * size)))) ?_ N (List.replicate (piecesL size s).length [], 0) ⟨by simp, by omega, by dsimp only; omega⟩ (by simpa using hN)]
  · simp
  rintro ⟨out, v⟩ r ⟨hl, hv0, hv1⟩ hr
  dsimp only at *
  obtain ⟨i, rfl⟩ := Int.eq_ofNat_of_zero_le hv0
  simp only [octet_Cut_s3, Int.toNat_natCast]
  by_cases hlt : i < (piecesL size s).length
  · have hi := hat i hlt
    have hio : i < out.length := by omega
    have hwm : IntKind.wrap .i64 ((i : Int) * (size : Int)) = ((i * size : Nat) : Int) := by rw [wrap_in (by unfold I64; rw [← Int.natCast_mul]; omega)]; simp
    have hws : IntKind.wrap .i64 (((s.length : Nat) : Int) - ((i * size : Nat) : Int)) = ((s.length - i * size : Nat) : Int) := by rw [wrap_in (by unfold I64; omega)]; omega
    rw [cond_t (dec_t (by omega)), hwm, hws]
    have hmin : (if ((s.length - i * size : Nat) : Int) < (size : Int) then ((s.length - i * size : Nat) : Int) else (size : Int)) = ((min (s.length - i * size) size : Nat) : Int) := by split <;> omega
    rw [hmin]
    have hwe : IntKind.wrap .i64 (((i * size : Nat) : Int) + ((min (s.length - i * size) size : Nat) : Int)) = ((i * size + min (s.length - i * size) size : Nat) : Int) := by rw [wrap_in (by unfold I64; omega)]; omega
    rw [hwe, cond_t (dec_t ⟨by omega, by omega⟩), cond_t (dec_t ⟨by omega, by omega⟩), cond_t (inR_nat hio), cond_t (dec_t hio), wrap_succ (by omega), hr _ ⟨by simpa using hl, by omega, by omega⟩ (by dsimp only; omega)]
    simp only [Int.toNat_natCast, take_set_succ _ _ _ hio, List.append_assoc]
    have hne : s.drop (i * size) ≠ [] := by
      intro e
      have := congrArg List.length e
      rw [List.length_drop, List.length_nil] at this; omega
    rw [pieces_cons (by omega) hne, List.drop_drop, cut_mid]
    have e1 : List.take (min (s.length - i * size) size) (List.drop (i * size) s) = List.take size (List.drop (i * size) s) := by
      rcases Nat.le_total size (s.length - i * size) with h | h
      · rw [Nat.min_eq_right h]
      · rw [Nat.min_eq_left h, List.take_of_length_le (by rw [List.length_drop]; omega), List.take_of_length_le (by rw [List.length_drop]; omega)]
    rw [e1, show (i + 1) * size = i * size + size by rw [Nat.succ_mul]]
    rfl
  · have hi : i = (piecesL size s).length := by omega
    rw [cond_f (dec_f (by omega)), List.take_of_length_le (by omega)]
    have : s.drop (i * size) = [] := by
      apply drop_nil'
      rw [hi, hcount, Nat.succ_mul]
      have h5 := Nat.lt_div_mul_add (a := s.length - 1) (b := size) (by omega)
      omega
    rw [this, pieces_nil, List.append_nil]

theorem refCut_eq (N : Nat) {s : List UInt8} (hs : s.length ≤ 10000000000) (hN : s.length < N) {n : Int} (hn : I64 n) : porterref02_Cut N s n = some (cutL s n) := by
  simp only [porterref02_Cut, porterref02_Cut_p1, cutL]
  by_cases h1 : n < 1
  · obtain ⟨M, rfl⟩ : ∃ M, N = M + 1 := ⟨N - 1, by omega⟩
    rw [if_pos h1]
    simp only [iter, porterref02_Cut_s1, porterref02_Cut_p2]
    rw [cond_f (dec_f (by omega))]
  rw [if_neg h1]
  obtain ⟨size, rfl⟩ := Int.eq_ofNat_of_zero_le (by omega : 0 ≤ n)
  have hn2 : (size : Int) ≤ 9223372036854775807 := hn.2
  rw [iter_eq (I := fun (v : List (List UInt8) × Int) => v.1.length ≤ v.2.toNat ∧ 0 ≤ v.2 ∧ v.2 ≤ ((s.length : Nat) : Int)) (m := fun (v : List (List UInt8) × Int) => s.length - v.2.toNat)
    (R := fun (v : List (List UInt8) × Int) => some (v.1 ++ piecesL size (s.drop v.2.toNat))) ?_ N ([], 0) ⟨by simp, by omega, by dsimp only; omega⟩ (by simpa using hN)]
  · simp
  rintro ⟨out, v⟩ r ⟨hl, hv0, hv1⟩ hr
  dsimp only at *
  obtain ⟨i, rfl⟩ := Int.eq_ofNat_of_zero_le hv0
  simp only [porterref02_Cut_s1, porterref02_Cut_p2, Int.toNat_natCast] at *
  rw [cond_t (dec_t (by omega))]
  by_cases hlt : i < s.length
  · have hne : s.drop i ≠ [] := by
      intro e
      have := congrArg List.length e
      rw [List.length_drop, List.length_nil] at this; omega
    rw [cond_t (dec_t (by omega)), wrap_in (x := ((s.length : Nat) : Int) - (i : Int)) (by unfold I64; omega)]
    by_cases hle : s.length - i ≤ size
    · rw [cond_t (dec_t (by omega)), cond_t (dec_t ⟨by omega, by omega⟩), cond_t (dec_t (by omega)), cut_all, pieces_one (by omega) hne (by rw [List.length_drop]; omega)]
    · have hw : IntKind.wrap .i64 ((i : Int) + (size : Int)) = ((i + size : Nat) : Int) := by rw [wrap_in (by unfold I64; omega)]; omega
      rw [cond_f (dec_f (by omega)), hw, cond_t (dec_t ⟨by omega, by omega⟩), cond_t (dec_t ⟨by omega, by omega⟩), cond_t (dec_t (by omega)), hr _ ⟨by simp; omega, by omega, by omega⟩ (by dsimp only; omega)]
      simp only [Int.toNat_natCast, cut_mid, List.append_assoc]
      rw [pieces_cons (by omega) hne, List.drop_drop]
      rfl
  · rw [cond_f (dec_f (by omega)), drop_nil' s (by omega), pieces_nil, List.append_nil]

theorem sameTexts_eq (N : Nat) {a b : List (List UInt8)} (ha : a.length ≤ 9223372036854775806) (hN : a.length < N) : porterbase_SameTexts N a b = some (a == b) := by
  simp only [porterbase_SameTexts, porterbase_SameTexts_p1]
  by_cases hl : a.length = b.length
  · rw [cond_f (by simp [hl]), iter_eq (I := fun v => 0 ≤ v ∧ v ≤ ((a.length : Nat) : Int)) (m := fun v => a.length - v.toNat)
      (R := fun v => some (a.drop v.toNat == b.drop v.toNat)) ?_ N 0 ⟨by omega, by omega⟩ (by simpa using hN)]
    · simp
    intro v r ⟨h0, h1⟩ hr
    obtain ⟨i, rfl⟩ := Int.eq_ofNat_of_zero_le h0
    simp only [porterbase_SameTexts_s1, Int.toNat_natCast]
    by_cases hlt : i < a.length
    · have hib : i < b.length := by omega
      rw [cond_t (dec_t (by omega)), cond_t (inR_nat hlt), cond_t (inR_nat hib), drop_cons a [] i hlt, drop_cons b [] i hib]
      by_cases he : a.getD i [] = b.getD i []
      · rw [cond_f (by rw [he]; simp), wrap_succ (by omega), hr _ ⟨by omega, by omega⟩ (by omega), he]
        simp only [Int.toNat_natCast, List.cons_beq_cons, beq_self_eq_true, Bool.true_and]
      · rw [cond_t (by rw [Bool.not_eq_true', beq_eq_false_iff_ne]; exact he)]
        simp only [List.cons_beq_cons]
        rw [beq_eq_false_iff_ne.2 he]; rfl
    · rw [cond_f (dec_f (by omega)), drop_nil' a (by omega), drop_nil' b (by omega)]; rfl
  · rw [cond_t (by simp; omega)]
    have : ¬ a = b := fun e => hl (by rw [e])
    rw [beq_eq_false_iff_ne.2 this]

theorem octetTurns_true (k : Nat) {a b : List UInt8} {n : Int} (hn : I64 n) : porterlaw02_OctetTurns (k + 2020) a b n = some true := by
  have hw : porterlaw02_works (k + 2020) = some true := octWorks (k + 2000)
  simp only [porterlaw02_OctetTurns, porterlaw02_OctetTurns_p1, porterlaw02_OctetTurns_p2, hw, Option.bind_some]
  by_cases h1 : 300 < a.length
  · rw [cond_t (dec_t (by omega))]; rfl
  rw [cond_f (dec_f (by omega))]
  by_cases h2 : 300 < b.length
  · rw [cond_t (dec_t (by omega))]
  rw [cond_f (dec_f (by omega))]
  have hcl : (cutL a n).length ≤ 300 := by
    unfold cutL
    split
    · simp
    · have := pieces_len_le (size := n.toNat) (by omega) a.length a (Nat.le_refl _); omega
  rw [xor_eq _ (by omega) (by omega), refXor_eq _ (by omega) (by omega), pad_eq _ (by omega) hn, refPad_eq _ (by omega) hn, cut_eq _ (by omega) (by omega) hn, refCut_eq _ (by omega) (by omega) hn]
  simp only [Option.bind_some]
  rw [sameTexts_eq _ (by omega) (by omega)]
  simp
end Go.Proofs.YtjhjhfmemipflaaLf
