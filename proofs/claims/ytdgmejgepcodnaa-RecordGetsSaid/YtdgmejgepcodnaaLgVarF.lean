/- What the plain functions of varint say. -/
import Derived.Test.YtdgmejgepcodnaaLgVarM
import Derived.Test.YtdgmejgepcodnaaLgFn39
set_option linter.all false
namespace Go.Proofs.YtdgmejgepcodnaaLg
open Go Go.Lift Go.Proofs.YtdgmejgepcodnaaPx

theorem shr7 (n : Nat) : shrI .u64 ((n : Nat) : Int) 7 = ((n / 128 : Nat) : Int) := by
  have : shrI .u64 ((n : Nat) : Int) 7 = ((n : Nat) : Int).fdiv 128 := rfl
  rw [this, Int.fdiv_eq_ediv_of_nonneg _ (by omega)]; rfl

theorem or128 : ∀ m, m < 256 → bitsOp .or .u8 ((m : Nat) : Int) 128 = ((m % 128 + 128 : Nat) : Int) := by decide +kernel
theorem andNot128 : ∀ m, m < 256 → bitsOp .andNot .u8 ((m : Nat) : Int) 128 = ((m % 128 : Nat) : Int) := by decide +kernel

def szc (n : Nat) : Nat := if n = 0 then 0 else (putL n).length

theorem szc_le (n : Nat) : szc n ≤ 10 := by
  unfold szc; split
  · omega
  · exact (putL_len n).2

theorem putL_len_step {n : Nat} (h : n < 18446744073709551616) : (putL n).length = 1 + szc (n / 128) := by
  rw [putL_step h]
  unfold szc
  split
  · rw [if_pos (by omega)]; rfl
  · rw [if_neg (by omega), List.length_cons, Nat.add_comm]

theorem size_eq (N : Nat) (hN : 10 < N) {n : Nat} (h : n < 18446744073709551616) : varint_Size N (n : Int) = some (((putL n).length : Nat) : Int) := by
  simp only [varint_Size, varint_Size_p1, shr7]
  rw [iter_eq (I := fun (v : Int × Int) => ∃ (m k : Nat), v = ((m : Int), (k : Int)) ∧ m < 18446744073709551616 ∧ k ≤ 100 - szc m) (m := fun (v : Int × Int) => szc v.1.toNat)
    (R := fun (v : Int × Int) => some (v.2 + ((szc v.1.toNat : Nat) : Int))) ?_ N (((n / 128 : Nat) : Int), 1) ⟨n / 128, 1, rfl, by omega, by have := szc_le (n / 128); omega⟩ (by have := szc_le (n / 128); dsimp only; rw [Int.toNat_natCast]; omega)]
  · dsimp only
    rw [Int.toNat_natCast, putL_len_step h]; congr 1
  rintro v r ⟨m, k, rfl, hm, hk⟩ hr
  dsimp only at *
  simp only [varint_Size_s1, shr7, Int.toNat_natCast] at *
  have hs := szc_le m
  by_cases h0 : m = 0
  · subst h0
    rw [cond_f (by rfl)]
    simp [szc]
  · have e : szc m = 1 + szc (m / 128) := by
      rw [← putL_len_step hm]; unfold szc; rw [if_neg h0]
    rw [cond_t (by simp; omega), wrap_succ (by omega), hr _ ⟨m / 128, k + 1, rfl, by omega, by omega⟩ (by rw [Int.toNat_natCast]; omega)]
    simp only [Int.toNat_natCast, e]
    congr 1; omega

def digI : Nat → Nat → List Int
  | 0, _ => []
  | k + 1, m => ((m % 128 + 128 : Nat) : Int) :: digI k (m / 128)

theorem digI_length : ∀ k m, (digI k m).length = k
  | 0, _ => rfl
  | k + 1, m => by simp [digI, digI_length k]

theorem digI_put : ∀ (f n k : Nat), (putF f n).length = k + 1 → n < 128 ^ (f + 1) → toStr ((digI (k + 1) n).set k (bitsOp .andNot .u8 ((digI (k + 1) n).getD k 0) 128)) = putF f n
  | 0, n, k, h, hn => by
    have hk : k = 0 := by simpa [putF] using h.symm
    subst hk
    have hn : n < 128 := by simpa using hn
    simp only [digI, List.getD_cons_zero, List.set_cons_zero, putF]
    rw [andNot128 _ (by omega)]
    simp only [toStr, List.map_cons, List.map_nil, Int.toNat_natCast]
    congr 2; omega
  | f + 1, n, k, h, hn => by
    have hp : (128 : Nat) ^ (f + 2) = 128 * 128 ^ (f + 1) := by rw [Nat.pow_succ, Nat.mul_comm]
    simp only [putF] at h ⊢
    by_cases h1 : n < 128
    · rw [if_pos h1] at h ⊢
      have hk : k = 0 := by simpa using h.symm
      subst hk
      simp only [digI, List.getD_cons_zero, List.set_cons_zero]
      rw [andNot128 _ (by omega)]
      simp only [toStr, List.map_cons, List.map_nil, Int.toNat_natCast]
      congr 2; omega
    · rw [if_neg h1] at h ⊢
      obtain ⟨j, rfl⟩ : ∃ j, k = j + 1 := ⟨k - 1, by have := (putF_len f (n / 128)).1; simp at h; omega⟩
      have ih := digI_put f (n / 128) j (by simpa using h) (by omega)
      have e : digI (j + 1 + 1) n = ((n % 128 + 128 : Nat) : Int) :: digI (j + 1) (n / 128) := rfl
      rw [e, List.getD_cons_succ, List.set_cons_succ]
      have e2 : ∀ (x : Int) (l : List Int), toStr (x :: l) = UInt8.ofNat x.toNat :: toStr l := fun _ _ => rfl
      rw [e2, ih, Int.toNat_natCast]

theorem put_eq (N : Nat) (hN : 20 < N) {n : Nat} (h : n < 18446744073709551616) : varint_Put N (n : Int) = some (putL n) := by
  have hl := putL_len n
  simp only [varint_Put, size_eq N (by omega) h, Option.bind_some]
  rw [cond_t (dec_t ⟨by omega, by omega, by omega, by omega⟩)]
  simp only [varint_Put_p1, Int.toNat_natCast]
  generalize hL : (putL n).length = L at *
  have hend : ∀ out : List Int, out = digI L n → (cond (inR (IntKind.wrap .i64 (((L : Nat) : Int) - 1)) out.length) (cond (decide ((IntKind.wrap .i64 (((L : Nat) : Int) - 1)).toNat < out.length)) (cond (inR (IntKind.wrap .i64 (((L : Nat) : Int) - 1)) out.length) (cond (decide ((IntKind.wrap .i64 (((L : Nat) : Int) - 1)).toNat < out.length)) (some (toStr (out.set (IntKind.wrap .i64 (((L : Nat) : Int) - 1)).toNat (bitsOp .andNot .u8 (out.getD (IntKind.wrap .i64 (((L : Nat) : Int) - 1)).toNat 0) 128)))) none) none) none) none) = some (putL n) := by
    intro out ho
    subst ho
    have e : IntKind.wrap .i64 (((L : Nat) : Int) - 1) = ((L - 1 : Nat) : Int) := by rw [wrap_in (by unfold I64; omega)]; omega
    rw [e, Int.toNat_natCast, digI_length, cond_t (inR_nat (by omega)), cond_t (dec_t (by omega)), cond_t (inR_nat (by omega)), cond_t (dec_t (by omega))]
    obtain ⟨k, rfl⟩ : ∃ k, L = k + 1 := ⟨L - 1, by omega⟩
    have := digI_put 9 n k hL (by have : (128 : Nat) ^ 10 = 1180591620717411303424 := by decide
                                  omega)
    rw [Nat.add_sub_cancel, this]; rfl
  rw [iter_eq (I := fun (v : Int × List Int × Int) => ∃ (m i : Nat), v.1 = (m : Int) ∧ v.2.2 = (i : Int) ∧ m < 18446744073709551616 ∧ i ≤ L ∧ v.2.1.length = L ∧ v.2.1.take i ++ digI (L - i) m = digI L n) (m := fun (v : Int × List Int × Int) => L - v.2.2.toNat)
    (R := fun _ => some (putL n)) ?_ N _ ⟨n, 0, rfl, rfl, h, by omega, by simp, by simp⟩ (by simp; omega)]
  rintro ⟨x, out, y⟩ r ⟨m, i, h1, h2, hm, hi, ho, hd⟩ hr
  dsimp only at *
  subst h1; subst h2
  simp only [varint_Put_s1, Int.toNat_natCast] at *
  by_cases hlt : i < L
  · have hw : IntKind.wrap .u8 (m : Int) = ((m % 256 : Nat) : Int) := by rw [wrap_u8]; omega
    rw [cond_t (dec_t (by omega)), cond_t (inR_nat (by omega)), cond_t (dec_t (by omega)), shr7, hw, or128 _ (by omega), wrap_succ (by omega)]
    refine hr _ ⟨m / 128, i + 1, rfl, rfl, by omega, by omega, by simpa using ho, ?_⟩ (by dsimp only; rw [Int.toNat_natCast]; omega)
    rw [take_set_succ _ _ _ (by omega), List.append_assoc, ← hd]
    congr 1
    obtain ⟨k, hk⟩ : ∃ k, L - i = k + 1 := ⟨L - i - 1, by omega⟩
    rw [hk, show L - (i + 1) = k by omega]
    simp only [digI, List.cons_append, List.nil_append, show m % 256 % 128 = m % 128 by omega]
  · have : i = L := by omega
    subst this
    rw [cond_f (dec_f (by omega))]
    refine hend out ?_
    rw [Nat.sub_self, List.take_of_length_le (by omega)] at hd
    simpa [digI] using hd

theorem refPut_eq : ∀ (f N n : Nat), f ≤ 9 → f < N → n < 128 ^ (f + 1) → n < 18446744073709551616 → porterref07_Put N (n : Int) = some (putF f n)
  | f, 0, n, _, h, _, _ => by omega
  | f, N + 1, n, h9, h, hf, hn => by
    show porterref07_Put_F (N + 1) (porterref07_Put N) (n : Int) = _
    unfold porterref07_Put_F
    have one : ∀ k : Nat, k < 256 → toStr [IntKind.wrap .u8 (k : Int)] = [UInt8.ofNat k] := by
      intro k hk
      rw [wrap_u8_in (by omega) (by omega)]
      simp only [toStr, List.map_cons, List.map_nil, Int.toNat_natCast]
    by_cases h1 : n < 128
    · rw [cond_t (dec_t (by omega)), wrap_in (x := (n : Int)) (by unfold I64; omega), one n (by omega)]
      cases f with
      | zero => rfl
      | succ f => simp only [putF, if_pos h1]
    · rw [cond_f (dec_f (by omega))]
      cases f with
      | zero => simp at hf; omega
      | succ f =>
        have hp : (128 : Nat) ^ (f + 2) = 128 * 128 ^ (f + 1) := by rw [Nat.pow_succ, Nat.mul_comm]
        have hq : ((n : Int)).tdiv 128 = ((n / 128 : Nat) : Int) := by rw [Int.tdiv_eq_ediv_of_nonneg (by omega)]; omega
        have hm : ((n : Int)).tmod 128 = ((n % 128 : Nat) : Int) := by rw [Int.tmod_eq_emod_of_nonneg (by omega)]; omega
        have hw : IntKind.wrap .u64 ((n / 128 : Nat) : Int) = ((n / 128 : Nat) : Int) := by
          simp only [IntKind.wrap, IntKind.bits, IntKind.signed, Bool.false_and, Bool.false_eq_true, if_false]
          omega
        have hw2 : IntKind.wrap .i64 (IntKind.wrap .i64 ((n % 128 : Nat) : Int) + 128) = ((n % 128 + 128 : Nat) : Int) := by
          rw [wrap_in (x := ((n % 128 : Nat) : Int)) (by unfold I64; omega), wrap_in (by unfold I64; omega)]; omega
        have hl := putF_len f (n / 128)
        rw [hq, hw, refPut_eq f N (n / 128) (by omega) (by omega) (by omega) (by omega), Option.bind_some, hm, hw2, one _ (by omega), cond_t (dec_t (by simp; omega))]
        simp only [putF, if_neg h1]
        rfl

theorem refPutL (N : Nat) (hN : 9 < N) {n : Nat} (h : n < 18446744073709551616) : porterref07_Put N (n : Int) = some (putL n) := by
  have e10 : (128 : Nat) ^ (9 + 1) = 1180591620717411303424 := by decide
  exact refPut_eq 9 N n (by omega) hN (by omega) h

def packT (t : Nat × Nat × Int) : Int × Int × Int × Unit := ((t.1 : Int), (t.2.1 : Int), t.2.2, ())

theorem whole_eq (N : Nat) (n : Int) (used last : Nat) : varint_whole N n (used : Int) (last : Int) = some (if (1 < used ∧ last = 0) ∨ (used = 10 ∧ 1 < last) then (0, 0, 2, ()) else (n, (used : Int), 0, ())) := by
  simp only [varint_whole, varint_whole_p1, varint_whole_p2]
  by_cases h1 : 1 < used
  · rw [cond_t (dec_t (by omega))]
    by_cases h2 : last = 0
    · rw [cond_t (by simp [h2]), if_pos (.inl ⟨h1, h2⟩)]; rfl
    · rw [cond_f (by simp; omega)]
      by_cases h3 : used = 10
      · rw [cond_t (by simp; omega)]
        by_cases h4 : 1 < last
        · rw [cond_t (dec_t (by omega)), if_pos (.inr ⟨h3, h4⟩)]
        · rw [cond_f (dec_f (by omega)), if_neg (by omega)]
      · rw [cond_f (by simp; omega), if_neg (by omega)]; rfl
  · rw [cond_f (dec_f (by omega)), cond_f (by simp; omega), if_neg (by omega)]; rfl

theorem wrap_u64_nat {n : Nat} (h : n < 18446744073709551616) : IntKind.wrap .u64 ((n : Nat) : Int) = ((n : Nat) : Int) := by
  simp only [IntKind.wrap, IntKind.bits, IntKind.signed, Bool.false_and, Bool.false_eq_true, if_false]
  omega

theorem or_u64 {a b : Nat} (ha : a < 18446744073709551616) (hb : b < 18446744073709551616) : bitsOp .or .u64 ((a : Nat) : Int) ((b : Nat) : Int) = ((a ||| b : Nat) : Int) := by
  have e : bitsOp .or .u64 ((a : Nat) : Int) ((b : Nat) : Int) = IntKind.wrap .u64 ((BitVec.ofInt 64 ((a : Nat) : Int) ||| BitVec.ofInt 64 ((b : Nat) : Int)).toNat : Int) := rfl
  rw [e, BitVec.ofInt_natCast, BitVec.ofInt_natCast, BitVec.toNat_or, BitVec.toNat_ofNat, BitVec.toNat_ofNat, Nat.mod_eq_of_lt (by simpa using ha), Nat.mod_eq_of_lt (by simpa using hb)]
  exact wrap_u64_nat (Nat.or_lt_two_pow (n := 64) ha hb)

theorem pow7 (i : Nat) : (128 : Nat) ^ i = 2 ^ (7 * i) := by rw [Nat.pow_mul]

/-- the next digit is laid above those that are there -/
theorem add_digit {n x i : Nat} (hn : n < 128 ^ i) (hx : x < 128) (hi : i ≤ 9) (hw : x * 128 ^ i < 18446744073709551616) :
    bitsOp .or .u64 ((n : Nat) : Int) (shlI .u64 (IntKind.wrap .u64 ((x : Nat) : Int)) (IntKind.wrap .i64 (7 * ((i : Nat) : Int)))) = ((n + 128 ^ i * x : Nat) : Int) := by
  have h1 : IntKind.wrap .i64 (7 * ((i : Nat) : Int)) = ((7 * i : Nat) : Int) := by rw [wrap_in (by unfold I64; omega)]; omega
  have hp : (128 : Nat) ^ i ≤ 128 ^ 9 := Nat.pow_le_pow_right (by omega) hi
  have e9 : (128 : Nat) ^ 9 = 9223372036854775808 := by decide
  have h2 : shlI .u64 ((x : Nat) : Int) ((7 * i : Nat) : Int) = ((x * 128 ^ i : Nat) : Int) := by
    unfold shlI
    rw [Int.toNat_natCast, Nat.min_eq_left (by show 7 * i ≤ 64; omega), pow7]
    have : ((x : Nat) : Int) * 2 ^ (7 * i) = ((x * 2 ^ (7 * i) : Nat) : Int) := by simp
    rw [this]
    exact wrap_u64_nat (by rw [← pow7]; exact hw)
  rw [wrap_u64_nat (by omega), h1, h2, or_u64 (by omega) hw]
  congr 1
  rw [Nat.or_comm, pow7, Nat.mul_comm x]
  have := Nat.shiftLeft_add_eq_or_of_lt (b := n) (i := 7 * i) (by rw [← pow7]; exact hn) x
  rw [Nat.shiftLeft_eq, Nat.mul_comm x] at this
  rw [← this, Nat.add_comm]

theorem vtake_eq (N : Nat) (hN : 20 < N) (s : List UInt8) (hs : s.length ≤ 10000000000) : varint_Take N s = some (packT (takeL s)) := by
  have hmin : (if (10 : Int) < ((s.length : Nat) : Int) then (10 : Int) else ((s.length : Nat) : Int)) = ((min 10 s.length : Nat) : Int) := by split <;> omega
  simp only [varint_Take, varint_Take_p1, hmin]
  have hle := lead_le s
  rw [iter_eq (I := fun (v : Int × Int) => ∃ (i : Nat), v.2 = (i : Int) ∧ i ≤ min 10 s.length ∧ i ≤ lead s ∧ (i ≤ 9 → v.1 = ((val (s.take i) : Nat) : Int))) (m := fun (v : Int × Int) => 10 - v.2.toNat)
    (R := fun _ => some (packT (takeL s))) ?_ N (0, 0) ⟨0, rfl, by omega, by omega, fun _ => by simp [val]⟩ (by dsimp only; omega)]
  rintro ⟨x, y⟩ r ⟨i, hy, hi, hil, hx⟩ hr
  dsimp only at *
  subst hy
  simp only [varint_Take_s1, Int.toNat_natCast] at *
  by_cases hlt : i < min 10 s.length
  · have his : i < s.length := by omega
    have hx := hx (by omega)
    subst hx
    have hb := u8_lt (s.getD i 0)
    have h7 : (0 : Int) ≤ IntKind.wrap .i64 (7 * (i : Int)) := by rw [wrap_in (by unfold I64; omega)]; omega
    rw [cond_t (dec_t (by omega)), cond_t (inR_nat his), cond_t (dec_t h7), cond_t (inR_nat his), cond_t (inR_nat his), wrap_succ (by omega), andNot128 _ hb]
    have hv := val_lt (s.take i)
    have hl : (s.take i).length = i := by rw [List.length_take]; omega
    rw [hl] at hv
    have hp : (128 : Nat) ^ i ≤ 128 ^ 9 := Nat.pow_le_pow_right (by omega) (by omega)
    have e9 : (128 : Nat) ^ 9 = 9223372036854775808 := by decide
    have hnext : val (s.take (i + 1)) = val (s.take i) + 128 ^ i * ((s.getD i 0).toNat % 128) := by
      rw [take_succ s 0 i his, val_append, hl]; simp [val]
    by_cases h128 : (s.getD i 0).toNat < 128
    · -- the last digit
      rw [cond_t (dec_t (by omega))]
      have hlead : i = lead s := by
        rcases Nat.lt_or_ge i (lead s) with h | h
        · have := lead_at s i h; omega
        · omega
      have := whole_eq N (bitsOp .or .u64 ((val (s.take i) : Nat) : Int) (shlI .u64 (IntKind.wrap .u64 (((s.getD i 0).toNat % 128 : Nat) : Int)) (IntKind.wrap .i64 (7 * (i : Int))))) (i + 1) (s.getD i 0).toNat
      rw [this, Option.bind_some]
      unfold takeL
      rw [if_neg (show ¬ 10 ≤ lead s by omega), if_neg (show ¬ lead s = s.length by omega), ← hlead]
      have hiff : ((1 < i + 1 ∧ (s.getD i 0).toNat = 0) ∨ (i + 1 = 10 ∧ 1 < (s.getD i 0).toNat)) ↔ ((0 < i ∧ (s.getD i 0).toNat = 0) ∨ (i = 9 ∧ 1 < (s.getD 9 0).toNat)) := by
        constructor
        · rintro (⟨h1, h2⟩ | ⟨h1, h2⟩)
          · exact .inl ⟨by omega, h2⟩
          · have : i = 9 := by omega
            subst this; exact .inr ⟨rfl, h2⟩
        · rintro (⟨h1, h2⟩ | ⟨h1, h2⟩)
          · exact .inl ⟨by omega, h2⟩
          · subst h1; exact .inr ⟨rfl, h2⟩
      by_cases hbad : (0 < i ∧ (s.getD i 0).toNat = 0) ∨ (i = 9 ∧ 1 < (s.getD 9 0).toNat)
      · rw [if_pos (hiff.2 hbad), if_pos hbad]; rfl
      · rw [if_neg (fun h => hbad (hiff.1 h)), if_neg hbad, add_digit hv (by omega) (by omega), hnext]
        · rfl
        · by_cases h9 : i = 9
          · subst h9
            have : ¬ 1 < (s.getD 9 0).toNat := fun h => hbad (.inr ⟨rfl, h⟩)
            rw [e9]; omega
          · have : (128 : Nat) ^ i ≤ 128 ^ 8 := Nat.pow_le_pow_right (by omega) (by omega)
            have e8 : (128 : Nat) ^ 8 = 72057594037927936 := by decide
            have : (s.getD i 0).toNat % 128 * 128 ^ i ≤ 127 * 72057594037927936 := Nat.mul_le_mul (by omega) (by omega)
            omega
    · rw [cond_f (dec_f (by omega))]
      have hlead : i < lead s := by
        rcases Nat.lt_or_ge i (lead s) with h | h
        · exact h
        · have : i = lead s := by omega
          have := lead_end s (by omega)
          rw [← ‹i = lead s›] at this; omega
      refine hr _ ⟨i + 1, rfl, by omega, by omega, fun h9 => ?_⟩ (by dsimp only; omega)
      dsimp only
      rw [add_digit hv (by omega) (by omega), hnext]
      have : (128 : Nat) ^ i ≤ 128 ^ 8 := Nat.pow_le_pow_right (by omega) (by omega)
      have e8 : (128 : Nat) ^ 8 = 72057594037927936 := by decide
      have : (s.getD i 0).toNat % 128 * 128 ^ i ≤ 127 * 72057594037927936 := Nat.mul_le_mul (by omega) (by omega)
      omega
  · have hi2 : i = min 10 s.length := by omega
    rw [cond_f (dec_f (by omega))]
    unfold takeL
    by_cases h10 : 10 ≤ s.length
    · rw [cond_t (dec_t (by omega)), if_pos (by omega)]; rfl
    · rw [cond_f (dec_f (by omega)), if_neg (by omega), if_pos (by omega)]; rfl

theorem refTake_eq (N : Nat) (hN : 20 < N) (s : List UInt8) (hs : s.length ≤ 10000000000) : porterref07_Take N s = some (packT (takeL s)) := by
  have hle := lead_le s
  -- the leading bytes
  have first : ∀ k0 : Int → Option (Int × Int × Int × Unit), porterref07_Take_p1 N s 0 k0 = k0 ((min (lead s) 10 : Nat) : Int) := by
    intro k0
    simp only [porterref07_Take_p1, porterref07_Take_p2]
    rw [iter_eq (I := fun (v : Int) => ∃ (i : Nat), v = (i : Int) ∧ i ≤ 10 ∧ i ≤ lead s) (m := fun (v : Int) => 10 - v.toNat) (R := fun _ => k0 ((min (lead s) 10 : Nat) : Int)) ?_ N 0 ⟨0, rfl, by omega, by omega⟩ (by omega)]
    rintro v r ⟨i, rfl, hi, hil⟩ hr
    simp only [porterref07_Take_s2, porterref07_Take_p3, Int.toNat_natCast] at *
    by_cases h1 : i < s.length
    · rw [cond_t (dec_t (by omega))]
      by_cases h2 : i < 10
      · rw [cond_t (dec_t (by omega)), cond_t (inR_nat h1)]
        by_cases h3 : 128 ≤ (s.getD i 0).toNat
        · rw [cond_t (dec_t (by omega)), wrap_succ (by omega)]
          refine hr _ ⟨i + 1, rfl, by omega, ?_⟩ (by omega)
          rcases Nat.lt_or_ge i (lead s) with h | h
          · omega
          · have e : i = lead s := by omega
            have := lead_end s (by omega)
            rw [← e] at this; omega
        · rw [cond_f (dec_f (by omega))]
          have : i = lead s := by
            rcases Nat.lt_or_ge i (lead s) with h | h
            · have := lead_at s i h; omega
            · omega
          congr 1; omega
      · rw [cond_f (dec_f (by omega))]
        congr 1; omega
    · rw [cond_f (dec_f (by omega))]
      congr 1; omega
  simp only [porterref07_Take, first]
  unfold takeL
  by_cases h10 : 10 ≤ lead s
  · rw [if_pos h10, cond_t (by rw [show min (lead s) 10 = 10 by omega]; rfl)]; rfl
  rw [if_neg h10, show min (lead s) 10 = lead s by omega, cond_f (by simp; omega)]
  by_cases hend : lead s = s.length
  · rw [if_pos hend, cond_t (by rw [hend]; simp)]; rfl
  rw [if_neg hend, cond_f (by simp; omega)]
  generalize hk : lead s = k at *
  have hks : k < s.length := by omega
  have hlast : (s.getD k 0).toNat < 128 := by
    have := lead_end s (by omega)
    rw [hk] at this; exact this
  have htl : (s.take (k + 1)).length = k + 1 := by rw [List.length_take]; omega
  -- the sum, from the highest digit on
  have second : ∀ (k0 : Int → Int → Int → Option (Int × Int × Int × Unit)) (k1 : Int → Option (Int × Int × Int × Unit)), porterref07_Take_p4 N s (k : Int) 0 (k : Int) k0 k1 = if k = 9 ∧ 1 < (s.getD 9 0).toNat then k0 0 0 2 else k1 ((val (s.take (k + 1)) : Nat) : Int) := by
    intro k0 k1
    simp only [porterref07_Take_p4]
    rw [iter_eq (I := fun (v : Int × Int) => ∃ (j : Nat), v.2 = (j : Int) - 1 ∧ j ≤ k + 1 ∧ v.1 = ((val ((s.take (k + 1)).drop j) : Nat) : Int) ∧ (j = 0 → ¬ (k = 9 ∧ 1 < (s.getD 9 0).toNat))) (m := fun (v : Int × Int) => (v.2 + 1).toNat)
      (R := fun _ => if k = 9 ∧ 1 < (s.getD 9 0).toNat then k0 0 0 2 else k1 ((val (s.take (k + 1)) : Nat) : Int)) ?_ N (0, (k : Int)) ⟨k + 1, by dsimp only; omega, by omega, by rw [drop_nil' _ (by omega)]; rfl, by omega⟩ (by dsimp only; omega)]
    rintro ⟨x, y⟩ r ⟨j, hy, hj, hx, hz⟩ hr
    dsimp only at *
    subst hy; subst hx
    simp only [porterref07_Take_s4] at *
    cases j with
    | zero =>
      rw [cond_f (dec_f (by omega)), if_neg (hz rfl)]; rfl
    | succ i =>
      have e : (((i + 1 : Nat) : Int) - 1) = (i : Int) := by omega
      rw [e] at *
      have his : i < s.length := by omega
      have hlen : ((s.take (k + 1)).drop (i + 1)).length = k - i := by rw [List.length_drop]; omega
      have hv := val_lt ((s.take (k + 1)).drop (i + 1))
      rw [hlen] at hv
      rw [cond_t (dec_t (by omega)), Int.toNat_natCast]
      by_cases hover : 144115188075855871 < val ((s.take (k + 1)).drop (i + 1))
      · rw [cond_t (dec_t (by omega))]
        -- then nine digits are there, and the highest is too great
        have h9 : k - i = 9 := by
          by_cases h8 : k - i ≤ 8
          · have : (128 : Nat) ^ (k - i) ≤ 128 ^ 8 := Nat.pow_le_pow_right (by omega) h8
            have e8 : (128 : Nat) ^ 8 = 72057594037927936 := by decide
            omega
          · omega
        have hk9 : k = 9 := by omega
        have hi0 : i = 0 := by omega
        subst hi0
        subst hk9
        have e1 : (s.take (9 + 1)).drop (0 + 1) = ((s.take 9).drop 1) ++ [s.getD 9 0] := by
          rw [take_succ s 0 9 hks, List.drop_append_of_le_length (by rw [List.length_take]; omega)]
        rw [e1, val_append] at hover
        have hl8 : ((s.take 9).drop 1).length = 8 := by rw [List.length_drop, List.length_take]; omega
        have hv8 := val_lt ((s.take 9).drop 1)
        rw [hl8] at hv8 hover
        have e8 : (128 : Nat) ^ 8 = 72057594037927936 := by decide
        rw [e8] at hv8 hover
        simp only [val] at hover
        rw [if_pos ⟨rfl, by omega⟩]
      · rw [cond_f (dec_f (by omega)), cond_t (inR_nat his)]
        have hb := u8_lt (s.getD i 0)
        have hm : ((((s.getD i 0).toNat : Nat) : Int)).tmod 128 = (((s.getD i 0).toNat % 128 : Nat) : Int) := by rw [Int.tmod_eq_emod_of_nonneg (by omega)]; omega
        have hd : (s.take (k + 1)).drop i = s.getD i 0 :: (s.take (k + 1)).drop (i + 1) := by
          rw [drop_cons (s.take (k + 1)) 0 i (by omega)]
          congr 1
          rw [List.getD_eq_getElem?_getD, List.getElem?_take_of_lt (by omega), ← List.getD_eq_getElem?_getD]
        have hvn : val ((s.take (k + 1)).drop i) = (s.getD i 0).toNat % 128 + 128 * val ((s.take (k + 1)).drop (i + 1)) := by rw [hd]; rfl
        have hw1 : IntKind.wrap .u64 (128 * ((val ((s.take (k + 1)).drop (i + 1)) : Nat) : Int)) = ((128 * val ((s.take (k + 1)).drop (i + 1)) : Nat) : Int) := by
          have := wrap_u64_nat (n := 128 * val ((s.take (k + 1)).drop (i + 1))) (by omega)
          rw [← this]; rfl
        have hw2 : IntKind.wrap .u64 (((128 * val ((s.take (k + 1)).drop (i + 1)) : Nat) : Int) + (((s.getD i 0).toNat % 128 : Nat) : Int)) = ((val ((s.take (k + 1)).drop i) : Nat) : Int) := by
          have := wrap_u64_nat (n := val ((s.take (k + 1)).drop i)) (by omega)
          rw [← this]; congr 1; omega
        have hw3 : IntKind.wrap .i64 ((i : Int) - 1) = (i : Int) - 1 := wrap_in (by unfold I64; omega)
        rw [hm, hw1, wrap_u64_nat (n := (s.getD i 0).toNat % 128) (by omega), hw2, hw3]
        refine hr _ ⟨i, rfl, by omega, rfl, fun hi0 => ?_⟩ (by dsimp only; omega)
        subst hi0
        rintro ⟨hk9, h1⟩
        subst hk9
        have e1 : (s.take (9 + 1)).drop (0 + 1) = ((s.take 9).drop 1) ++ [s.getD 9 0] := by
          rw [take_succ s 0 9 hks, List.drop_append_of_le_length (by rw [List.length_take]; omega)]
        rw [e1, val_append] at hover
        have hl8 : ((s.take 9).drop 1).length = 8 := by rw [List.length_drop, List.length_take]; omega
        rw [hl8] at hover
        have e8 : (128 : Nat) ^ 8 = 72057594037927936 := by decide
        rw [e8] at hover
        simp only [val] at hover
        omega
  rw [second]
  by_cases h9 : k = 9 ∧ 1 < (s.getD 9 0).toNat
  · rw [if_pos h9, if_pos (.inr h9)]; rfl
  rw [if_neg h9]
  have hv64 : val (s.take (k + 1)) < 18446744073709551616 := by
    have := val_ten (s := s) (by omega) (by omega) (by rw [hk]; exact h9)
    rw [hk] at this; exact this
  rw [refPutL N (by omega) hv64, Option.bind_some, wrap_succ (by omega), cond_t (dec_t ⟨by omega, by omega⟩), cut_take, Int.toNat_natCast]
  by_cases h0 : 0 < k ∧ (s.getD k 0).toNat = 0
  · rw [if_pos (.inl h0), cond_t]
    · rfl
    · rw [Bool.not_eq_true', beq_eq_false_iff_ne]
      intro e
      have hc := (putL_canon hv64).1
      rw [e] at hc
      have := (canon_last _ hc).2 (by omega)
      rw [htl, Nat.add_sub_cancel, List.getD_eq_getElem?_getD, List.getElem?_take_of_lt (by omega), ← List.getD_eq_getElem?_getD] at this
      exact this h0.2
  · rw [if_neg (by rintro (h | h); exact h0 h; exact h9 h), cond_f]
    · rfl
    · have hc := canon_take s (by omega) (by
        rw [hk]
        by_cases hk0 : k = 0
        · exact .inl hk0
        · exact .inr fun h => h0 ⟨by omega, h⟩)
      rw [hk] at hc
      have := (canon_putF 9 _ hc (by omega)).1
      rw [show putL (val (s.take (k + 1))) = s.take (k + 1) from this]
      simp

end Go.Proofs.YtdgmejgepcodnaaLg
