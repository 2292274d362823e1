/- octet: exclusive or, equality, padding: what the plain functions say. -/
import Derived.Test.YtkccmmbomlpgnaaDoorLgOctM
import Derived.Test.YtkccmmbomlpgnaaDoorLgFnG
set_option linter.all false
namespace Go.Proofs.YtkccmmbomlpgnaaDoorLg
open Go Go.Lift Go.Proofs.YtkccmmbomlpgnaaDoorPx

theorem equal_eq (N : Nat) {a b : List UInt8} (ha : a.length ≤ 9223372036854775806) (hN : a.length < N) : octet_Equal N a b = some (a == b) := by
  simp only [octet_Equal, octet_Equal_p1]
  by_cases hl : a.length = b.length
  · rw [cond_f (by simp [hl]), iter_eq (I := fun (v : Int × Int) => (∃ d : UInt8, v.1 = ((d.toNat : Nat) : Int)) ∧ 0 ≤ v.2 ∧ v.2 ≤ ((a.length : Nat) : Int)) (m := fun (v : Int × Int) => a.length - v.2.toNat)
      (R := fun (v : Int × Int) => some ((UInt8.ofNat v.1.toNat ||| orX (a.drop v.2.toNat) (b.drop v.2.toNat)) == 0)) ?_ N (0, 0) ⟨⟨0, rfl⟩, by omega, by dsimp only; omega⟩ (by simpa using hN)]
    · simp only [Int.toNat_zero, List.drop_zero]
      have : (UInt8.ofNat 0 ||| orX a b) = orX a b := UInt8.zero_or
      rw [this]
      congr 1
      rw [Bool.eq_iff_iff, beq_iff_eq, orX_zero a b hl, beq_iff_eq]
    rintro ⟨x, v⟩ r ⟨⟨d, hd⟩, h0, h1⟩ hr
    dsimp only at *
    subst hd
    obtain ⟨i, rfl⟩ := Int.eq_ofNat_of_zero_le h0
    simp only [octet_Equal_s1, Int.toNat_natCast, UInt8.ofNat_toNat]
    by_cases hlt : i < a.length
    · have hib : i < b.length := by omega
      rw [cond_t (dec_t (by omega)), cond_t (inR_nat hlt), cond_t (inR_nat hib), xor_u8, or_u8, wrap_succ (by omega), hr _ ⟨⟨_, rfl⟩, by omega, by omega⟩ (by dsimp only; omega), drop_cons a 0 i hlt, drop_cons b 0 i hib]
      simp only [Int.toNat_natCast, UInt8.ofNat_toNat, orX, or_assoc']
    · have hi : i = a.length := by omega
      rw [cond_f (dec_f (by omega)), drop_nil' a (by omega)]
      have : orX [] (b.drop i) = 0 := by unfold orX; rfl
      rw [this, UInt8.or_zero]
      congr 1
      rw [Bool.eq_iff_iff, beq_iff_eq, beq_iff_eq, show (0 : Int) = (((0 : UInt8).toNat : Nat) : Int) from rfl, u8_cast_eq]
  · rw [cond_t (by simp; omega)]
    have : ¬ a = b := fun e => hl (by rw [e])
    simp [this]

theorem xor_eq (N : Nat) {a b : List UInt8} (ha : a.length ≤ 281474976710656) (hN : a.length < N) : octet_Xor N a b = some (xorL a b) := by
  simp only [octet_Xor, octet_Xor_p1, min_len]
  rw [cond_t (dec_t ⟨by omega, by omega, by omega, by omega⟩)]
  simp only [Int.toNat_natCast, List.length_replicate]
  rw [iter_eq (I := fun (v : List Int × Int) => v.1.length = min a.length b.length ∧ 0 ≤ v.2 ∧ v.2 ≤ ((min a.length b.length : Nat) : Int)) (m := fun (v : List Int × Int) => a.length - v.2.toNat)
    (R := fun (v : List Int × Int) => some (toStr (v.1.take v.2.toNat) ++ xorL (a.drop v.2.toNat) (b.drop v.2.toNat))) ?_ N (List.replicate (min a.length b.length) 0, 0) ⟨by simp, by omega, by dsimp only; omega⟩ (by simpa using hN)]
  · simp [toStr]
  rintro ⟨out, v⟩ r ⟨hl, h0, h1⟩ hr
  dsimp only at *
  obtain ⟨i, rfl⟩ := Int.eq_ofNat_of_zero_le h0
  simp only [octet_Xor_s1, Int.toNat_natCast]
  by_cases hlt : i < min a.length b.length
  · have hia : i < a.length := by omega
    have hib : i < b.length := by omega
    have hio : i < out.length := by omega
    rw [cond_t (dec_t (by omega)), cond_t (inR_nat hia), cond_t (inR_nat hib), cond_t (inR_nat hio), cond_t (dec_t hio), xor_u8, wrap_succ (by omega), hr _ ⟨by simpa using hl, by omega, by omega⟩ (by dsimp only; omega), drop_cons a 0 i hia, drop_cons b 0 i hib]
    simp only [Int.toNat_natCast, take_set_succ _ _ _ hio, toStr_append, toStr_byte, List.append_assoc]
    rfl
  · have hi : i = min a.length b.length := by omega
    rw [cond_f (dec_f (by omega)), List.take_of_length_le (by omega)]
    have : xorL (a.drop i) (b.drop i) = [] := by
      apply List.length_eq_zero_iff.1
      rw [xorL_length, List.length_drop, List.length_drop]; omega
    rw [this, List.append_nil]

/-- the exclusive or of two numbers below 256, bit by bit, from bit k on -/
theorem refXor_bits (N : Nat) (a b out : List UInt8) (i : Int) (k0 : Int → Option (List UInt8)) (hN : 9 < N) (x y : UInt8) :
    porterref02_Xor_p3 N a b out i ((x.toNat : Nat) : Int) ((y.toNat : Nat) : Int) 0 1 0 k0 = k0 (((x ^^^ y).toNat : Nat) : Int) := by
  unfold porterref02_Xor_p3
  rw [iter_eq (I := fun (v : Int × Int × Int × Int × Int) => ∃ (p q n k : Nat), v = ((p : Int), (q : Int), (n : Int), ((2 ^ k : Nat) : Int), (k : Int)) ∧ k ≤ 8 ∧ p < 2 ^ (8 - k) ∧ q < 2 ^ (8 - k) ∧ n < 2 ^ k) (m := fun (v : Int × Int × Int × Int × Int) => 8 - v.2.2.2.2.toNat)
    (R := fun (v : Int × Int × Int × Int × Int) => k0 (((v.2.2.1.toNat + v.2.2.2.1.toNat * (v.1.toNat ^^^ v.2.1.toNat) : Nat)) : Int)) ?_ N (((x.toNat : Nat) : Int), ((y.toNat : Nat) : Int), 0, 1, 0) ⟨x.toNat, y.toNat, 0, 0, rfl, by omega, u8_lt x, u8_lt y, by omega⟩ (by dsimp only; omega)]
  · simp only [Int.toNat_natCast, UInt8.toNat_xor]
    congr 2; simp
  rintro v r ⟨p, q, n, k, rfl, hk, hp, hq, hn⟩ hr
  dsimp only at *
  simp only [porterref02_Xor_s3, porterref02_Xor_p4, porterref02_Xor_p5, Int.toNat_natCast]
  by_cases hlt : k < 8
  · have hpk : 2 ^ (8 - k) = 2 * 2 ^ (8 - (k + 1)) := by
      rw [show 8 - k = (8 - (k + 1)) + 1 by omega, Nat.pow_succ, Nat.mul_comm]
    have h2k : 2 ^ (k + 1) = 2 * 2 ^ k := by rw [Nat.pow_succ, Nat.mul_comm]
    have hle : 2 ^ k ≤ 256 := by
      have : 2 ^ k ≤ 2 ^ 8 := Nat.pow_le_pow_right (by omega) (by omega)
      simpa using this
    have hle2 : 2 ^ (8 - (k + 1)) ≤ 256 := by
      have : 2 ^ (8 - (k + 1)) ≤ 2 ^ 8 := Nat.pow_le_pow_right (by omega) (by omega)
      simpa using this
    have hx := xor_step p q
    have hpd : (p : Int).tdiv 2 = ((p / 2 : Nat) : Int) := by rw [Int.tdiv_eq_ediv_of_nonneg (by omega)]; omega
    have hqd : (q : Int).tdiv 2 = ((q / 2 : Nat) : Int) := by rw [Int.tdiv_eq_ediv_of_nonneg (by omega)]; omega
    have hpm : (p : Int).tmod 2 = ((p % 2 : Nat) : Int) := by rw [Int.tmod_eq_emod_of_nonneg (by omega)]; omega
    have hqm : (q : Int).tmod 2 = ((q % 2 : Nat) : Int) := by rw [Int.tmod_eq_emod_of_nonneg (by omega)]; omega
    rw [cond_t (dec_t (by omega)), hpd, hqd, hpm, hqm, wrap_in (x := ((p / 2 : Nat) : Int)) (by unfold I64; omega), wrap_in (x := ((q / 2 : Nat) : Int)) (by unfold I64; omega), wrap_in (x := ((2 ^ k : Nat) : Int) * 2) (by unfold I64; omega), wrap_succ (by omega)]
    have hbit : ((2 ^ k : Nat) : Int) * 2 = ((2 ^ (k + 1) : Nat) : Int) := by rw [h2k]; omega
    rw [hbit]
    by_cases he : p % 2 = q % 2
    · rw [cond_f (by simp [he]), hr _ ⟨p / 2, q / 2, n, k + 1, rfl, by omega, by omega, by omega, by omega⟩ (by dsimp only; omega)]
      dsimp only
      rw [if_pos he] at hx
      simp only [Int.toNat_natCast]
      rw [hx, h2k]
      congr 2
      rw [Nat.zero_add, Nat.mul_assoc, Nat.mul_left_comm]
    · rw [cond_t (by simp only [bne_iff_ne, ne_eq]; omega), wrap_in (x := (n : Int) + ((2 ^ k : Nat) : Int)) (by unfold I64; omega), hr _ ⟨p / 2, q / 2, n + 2 ^ k, k + 1, by simp, by omega, by omega, by omega, by omega⟩ (by dsimp only; omega)]
      dsimp only
      rw [if_neg he] at hx
      have e : ((n : Int) + ((2 ^ k : Nat) : Int)).toNat = n + 2 ^ k := by omega
      simp only [Int.toNat_natCast, e]
      rw [hx, h2k, Nat.mul_add, Nat.mul_one, Nat.mul_assoc, Nat.mul_left_comm, Nat.add_assoc]
  · have : k = 8 := by omega
    subst this
    have hp0 : p = 0 := by simp at hp; exact hp
    have hq0 : q = 0 := by simp at hq; exact hq
    subst hp0; subst hq0
    rw [cond_f (dec_f (by omega))]
    simp

theorem refXor_eq (N : Nat) {a b : List UInt8} (ha : a.length ≤ 281474976710656) (hN : a.length + 9 < N) : porterref02_Xor N a b = some (xorL a b) := by
  simp only [porterref02_Xor, porterref02_Xor_p1]
  rw [iter_eq (I := fun (v : List UInt8 × Int) => v.1.length = v.2.toNat ∧ 0 ≤ v.2 ∧ v.2 ≤ ((min a.length b.length : Nat) : Int)) (m := fun (v : List UInt8 × Int) => a.length - v.2.toNat)
    (R := fun (v : List UInt8 × Int) => some (v.1 ++ xorL (a.drop v.2.toNat) (b.drop v.2.toNat))) ?_ N ([], 0) ⟨by simp, by omega, by dsimp only; omega⟩ (by simp; omega)]
  · simp
  rintro ⟨out, v⟩ r ⟨hl, h0, h1⟩ hr
  dsimp only at *
  obtain ⟨i, rfl⟩ := Int.eq_ofNat_of_zero_le h0
  simp only [porterref02_Xor_s1, porterref02_Xor_p2, Int.toNat_natCast] at *
  by_cases hlt : i < min a.length b.length
  · have hia : i < a.length := by omega
    have hib : i < b.length := by omega
    rw [cond_t (dec_t (by omega)), cond_t (dec_t (by omega)), cond_t (inR_nat hia), cond_t (inR_nat hib), wrap64_byte, wrap64_byte, refXor_bits _ _ _ _ _ _ (by omega), wrap_byte, toStr_byte, cond_t (dec_t (by simp; omega)), wrap_succ (by omega), hr _ ⟨by simp; omega, by omega, by omega⟩ (by dsimp only; omega), drop_cons a 0 i hia, drop_cons b 0 i hib]
    simp only [Int.toNat_natCast, List.append_assoc]
    rfl
  · have hi : i = min a.length b.length := by omega
    have e1 : ∀ (X Y : Option (List UInt8)), cond (decide ((i : Int) < ((a.length : Nat) : Int))) (cond (decide ((i : Int) < ((b.length : Nat) : Int))) X Y) Y = Y := by
      intro X Y
      by_cases h1 : i < a.length
      · rw [cond_t (dec_t (by omega)), cond_f (dec_f (by omega))]
      · rw [cond_f (dec_f (by omega))]
    rw [e1]
    have : xorL (a.drop i) (b.drop i) = [] := by
      apply List.length_eq_zero_iff.1
      rw [xorL_length, List.length_drop, List.length_drop]; omega
    rw [this, List.append_nil]

/-- as many bytes, at least; some zeros behind -/
def padL (s : List UInt8) (n : Int) : List UInt8 := s ++ List.replicate ((min n 65536).toNat - s.length) 0

theorem pad_if (n : Int) : (if (65536 : Int) < n then (65536 : Int) else n) = min n 65536 := by split <;> omega

theorem pad_eq (N : Nat) {s : List UInt8} (hs : s.length ≤ 9223372036854000000) {n : Int} (hn : I64 n) : octet_Pad N s n = some (padL s n) := by
  simp only [octet_Pad, pad_if, padL]
  generalize hm : min n 65536 = m
  have hm2 : m ≤ 65536 := by omega
  have hm3 : -9223372036854775808 ≤ m := by unfold I64 at hn; omega
  by_cases h : m ≤ s.length
  · rw [cond_t (dec_t h), show m.toNat - s.length = 0 by omega]; simp
  · have hw : IntKind.wrap .i64 (m - ((s.length : Nat) : Int)) = m - ((s.length : Nat) : Int) := wrap_in (by unfold I64; omega)
    rw [cond_f (dec_f h), hw, cond_t (dec_t ⟨by omega, by omega, by omega, by omega⟩), cond_t (dec_t (by rw [toStr_replicate, List.length_replicate]; omega)), toStr_replicate]
    congr 3; omega

theorem refPad2_eq (N : Nat) {s : List UInt8} (hs : s.length ≤ 9223372036854000000) {n : Int} (hn : I64 n) : porterref02_Pad N s n = some (padL s n) := by
  have key : ∀ m : Int, min n 65536 = m → ∀ k0 : Int → Option (List UInt8), porterref02_Pad_p1 N s n k0 = k0 m := by
    intro m hm k0
    unfold porterref02_Pad_p1
    by_cases h : 65536 < n
    · rw [cond_t (dec_t h)]; congr 1; omega
    · rw [cond_f (dec_f h)]; congr 1; omega
  simp only [porterref02_Pad, padL]
  generalize hm : min n 65536 = m
  rw [key m hm]
  have hm2 : m ≤ 65536 := by omega
  have hm3 : -9223372036854775808 ≤ m := by unfold I64 at hn; omega
  by_cases h : m ≤ s.length
  · rw [cond_t (dec_t h), show m.toNat - s.length = 0 by omega]; simp
  · have hw : IntKind.wrap .i64 (m - ((s.length : Nat) : Int)) = m - ((s.length : Nat) : Int) := wrap_in (by unfold I64; omega)
    rw [cond_f (dec_f h), hw, cond_t (dec_t ⟨by omega, by omega, by omega, by omega⟩), cond_t (dec_t (by rw [toStr_replicate, List.length_replicate]; omega)), toStr_replicate]
    congr 3; omega

end Go.Proofs.YtkccmmbomlpgnaaDoorLg
