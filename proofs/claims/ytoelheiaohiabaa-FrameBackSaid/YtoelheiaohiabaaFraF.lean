/- The functions of the layer frame, computed. -/
import Derived.Test.YtoelheiaohiabaaFnE
import Derived.Test.YtoelheiaohiabaaFraM
set_option linter.all false
namespace Go.Proofs.YtoelheiaohiabaaLf
open Go Go.Lift Go.Proofs.YtoelheiaohiabaaPx

theorem shr_at (n k : Nat) (hk : k ≤ 64) : shrI .i64 (n : Int) (k : Int) = ((n / 2 ^ k : Nat) : Int) := by
  have e : min ((k : Int)).toNat (IntKind.bits .i64) = k := by rw [Int.toNat_natCast]; exact Nat.min_eq_left hk
  unfold shrI
  rw [e, Int.fdiv_eq_ediv_of_nonneg _ (by exact_mod_cast Nat.zero_le _)]
  norm_cast

theorem le_eq (k : Nat) (m : Nat) : frame_littleEndian (k + 20) (m : Int) = some (le 8 m) := by
  have h : frame_littleEndian (k + 20) (m : Int) = some (toStr [IntKind.wrap .u8 (shrI .i64 m ((0 : Nat) : Int)), IntKind.wrap .u8 (shrI .i64 m ((8 : Nat) : Int)), IntKind.wrap .u8 (shrI .i64 m ((16 : Nat) : Int)), IntKind.wrap .u8 (shrI .i64 m ((24 : Nat) : Int)), IntKind.wrap .u8 (shrI .i64 m ((32 : Nat) : Int)), IntKind.wrap .u8 (shrI .i64 m ((40 : Nat) : Int)), IntKind.wrap .u8 (shrI .i64 m ((48 : Nat) : Int)), IntKind.wrap .u8 (shrI .i64 m ((56 : Nat) : Int))]) := by kernel_rfl
  have hx : ∀ a b : Nat, a = b → UInt8.ofNat ((((a : Nat) : Int) % 256).toNat) = u8 (b % 256) := by
    intro a b e; subst e; unfold u8; congr 1
  rw [h]
  simp only [shr_at m _ (by decide : 0 ≤ 64), shr_at m _ (by decide : 8 ≤ 64), shr_at m _ (by decide : 16 ≤ 64), shr_at m _ (by decide : 24 ≤ 64), shr_at m _ (by decide : 32 ≤ 64), shr_at m _ (by decide : 40 ≤ 64), shr_at m _ (by decide : 48 ≤ 64), shr_at m _ (by decide : 56 ≤ 64), toStr, List.map_cons, List.map_nil, wrap_u8, le]
  rw [hx _ _ (by omega : m / 2 ^ 0 = m), hx _ _ (by omega : m / 2 ^ 8 = m / 256), hx _ _ (by omega : m / 2 ^ 16 = m / 256 / 256), hx _ _ (by omega : m / 2 ^ 24 = m / 256 / 256 / 256), hx _ _ (by omega : m / 2 ^ 32 = m / 256 / 256 / 256 / 256), hx _ _ (by omega : m / 2 ^ 40 = m / 256 / 256 / 256 / 256 / 256), hx _ _ (by omega : m / 2 ^ 48 = m / 256 / 256 / 256 / 256 / 256 / 256), hx _ _ (by omega : m / 2 ^ 56 = m / 256 / 256 / 256 / 256 / 256 / 256 / 256)]

theorem mark_eq (N : Nat) {m : Nat} (hm : m < 9223372036854775808) (hN : 8 < N) : porterref42_mark N (m : Int) = some (le 8 m) := by
  simp only [porterref42_mark, porterref42_mark_p1]
  rw [iter_eq (I := fun (v : Int × List UInt8 × Int) => ∃ (m i : Nat) (o : List UInt8), v = ((m : Int), o, (i : Int)) ∧ m < 9223372036854775808 ∧ i ≤ 8 ∧ o.length = i) (m := fun v => 8 - v.2.2.toNat)
    (R := fun v => some (v.2.1 ++ le (8 - v.2.2.toNat) v.1.toNat)) ?_ N ((m : Int), [], 0) ⟨m, 0, [], rfl, hm, by omega, rfl⟩ (by simpa using hN)]
  · simp
  rintro v r ⟨m, i, o, rfl, hm, hi, ho⟩ hr
  simp only [porterref42_mark_s1, Int.toNat_natCast] at *
  by_cases hlt : i < 8
  · have e1 : Int.tmod (m : Int) 256 = ((m % 256 : Nat) : Int) := by rw [Int.tmod_eq_emod_of_nonneg (by omega)]; omega
    have e2 : IntKind.wrap .i64 (Int.tdiv (m : Int) 256) = ((m / 256 : Nat) : Int) := by rw [Int.tdiv_eq_ediv_of_nonneg (by omega), wrap_in (by unfold I64; omega)]; omega
    have e3 : toStr [IntKind.wrap .u8 ((m % 256 : Nat) : Int)] = [u8 (m % 256)] := by
      rw [wrap_u8_in (by omega) (by omega)]; rfl
    rw [cond_t (dec_t (by omega)), e1, e2, e3, cond_t (dec_t (by simp only [List.length_cons, List.length_nil]; omega)), wrap_succ (by omega), hr _ ⟨m / 256, i + 1, _, rfl, by omega, by omega, by rw [List.length_append, ho]; rfl⟩ (by dsimp only; omega)]
    dsimp only
    rw [Int.toNat_natCast, Int.toNat_natCast, show 8 - i = (8 - (i + 1)) + 1 by omega, le, List.append_assoc]; rfl
  · rw [cond_f (dec_f (by omega)), show 8 - i = 0 by omega, le, List.append_nil]

theorem num_take_lt (s : List UInt8) (i : Nat) : num (s.take i) < 256 ^ i := by
  have h := num_lt (s.take i)
  rw [List.length_take] at h
  exact Nat.lt_of_lt_of_le h (Nat.pow_le_pow_right (by omega) (Nat.min_le_left _ _))

theorem num_take_succ (s : List UInt8) {i : Nat} (h : i < s.length) : num (s.take (i + 1)) = num (s.take i) + 256 ^ i * (s.getD i 0).toNat := by
  rw [take_succ s 0 i h, num_append, List.length_take, Nat.min_eq_left (by omega)]; simp [num]

theorem wrap_u64 (x : Int) : IntKind.wrap .u64 x = x % 18446744073709551616 := rfl

theorem or_add {a b i : Nat} (ha : a < 256 ^ i) (hb : b < 256) (hi : i < 8) :
    bitsOp .or .u64 (a : Int) (shlI .u64 (IntKind.wrap .u64 (b : Int)) (IntKind.wrap .i64 ((8 : Int) * (i : Int)))) = ((a + 256 ^ i * b : Nat) : Int) := by
  have hp : (256 : Nat) ^ i = 2 ^ (8 * i) := by rw [Nat.pow_mul]
  have hp7 : 256 ^ i ≤ 72057594037927936 := Nat.pow_le_pow_right (by omega) (show i ≤ 7 by omega)
  have hmul : 256 ^ i * b ≤ 72057594037927936 * 255 := Nat.mul_le_mul hp7 (by omega)
  have hsum : a + 256 ^ i * b < 256 ^ i * 256 := by
    have : 256 ^ i * b ≤ 256 ^ i * 255 := Nat.mul_le_mul (Nat.le_refl _) (by omega)
    omega
  have e1 : IntKind.wrap .i64 ((8 : Int) * (i : Int)) = ((8 * i : Nat) : Int) := by rw [wrap_in (by unfold I64; omega)]; omega
  have e2 : shlI .u64 (IntKind.wrap .u64 (b : Int)) ((8 * i : Nat) : Int) = ((256 ^ i * b : Nat) : Int) := by
    have em : min (((8 * i : Nat) : Int)).toNat (IntKind.bits .u64) = 8 * i := by rw [Int.toNat_natCast]; exact Nat.min_eq_left (by show 8 * i ≤ 64; omega)
    unfold shlI
    rw [em, wrap_u64 (b : Int), Int.emod_eq_of_lt (a := (b : Int)) (by omega) (by omega), wrap_u64]
    have : (b : Int) * 2 ^ (8 * i) = ((256 ^ i * b : Nat) : Int) := by rw [hp]; push_cast; rw [Int.mul_comm]
    rw [this, Int.emod_eq_of_lt (by omega) (by omega)]
  rw [e1, e2]
  unfold bitsOp
  show IntKind.wrap .u64 (((BitVec.ofInt 64 ((a : Nat) : Int) ||| BitVec.ofInt 64 ((256 ^ i * b : Nat) : Int)).toNat : Nat) : Int) = _
  rw [BitVec.ofInt_natCast, BitVec.ofInt_natCast, BitVec.toNat_or, BitVec.toNat_ofNat, BitVec.toNat_ofNat, Nat.mod_eq_of_lt (by omega), Nat.mod_eq_of_lt (by omega)]
  have key : a ||| 256 ^ i * b = a + 256 ^ i * b := by
    have := Nat.shiftLeft_add_eq_or_of_lt (show a < 2 ^ (8 * i) by rw [← hp]; exact ha) b
    rw [Nat.shiftLeft_eq, Nat.mul_comm b, ← hp] at this
    rw [Nat.or_comm, ← this]; omega
  rw [key, wrap_u64, Int.emod_eq_of_lt (by omega) (by omega)]

theorem number_eq (N : Nat) {s : List UInt8} (hs : s.length = 8) (hN : 8 < N) : frame_number N s = some (IntKind.wrap .i64 (num s : Int)) := by
  simp only [frame_number, frame_number_p1]
  rw [iter_eq (I := fun (v : Int × Int) => ∃ i : Nat, v = ((num (s.take i) : Int), (i : Int)) ∧ i ≤ 8) (m := fun v => 8 - v.2.toNat) (R := fun _ => some (IntKind.wrap .i64 (num s : Int))) ?_ N ((0 : Int), (0 : Int)) ⟨0, by simp [num], by omega⟩ (by simpa using hN)]
  rintro v r ⟨i, rfl, hi⟩ hr
  simp only [frame_number_s1, Int.toNat_natCast] at *
  by_cases hlt : i < 8
  · rw [cond_t (dec_t (by omega)), cond_t (inR_nat (by omega)), cond_t (dec_t (by rw [wrap_in (by unfold I64; omega)]; omega)), or_add (num_take_lt s i) (u8_lt _) hlt, wrap_succ (by omega)]
    exact hr _ ⟨i + 1, by rw [num_take_succ s (by omega)], by omega⟩ (by dsimp only; omega)
  · rw [cond_f (dec_f (by omega)), List.take_of_length_le (by omega)]

theorem num_drop_le (s : List UInt8) (i : Nat) : num (s.drop i) ≤ num s := by
  have h : num s = num (s.take i ++ s.drop i) := by rw [List.take_append_drop]
  rw [num_append] at h
  have : num (s.drop i) ≤ 256 ^ (s.take i).length * num (s.drop i) := Nat.le_mul_of_pos_left _ (Nat.pow_pos (by omega))
  omega

theorem refNumber_eq (N : Nat) {s : List UInt8} (hs : s.length = 8) (hn : num s < 9223372036854775808) (hN : 8 < N) : porterref42_Number N s = some (num s : Int) := by
  simp only [porterref42_Number, porterref42_Number_p1]
  rw [iter_eq (I := fun (v : Int × Int) => ∃ i : Nat, v = ((num (s.drop i) : Int), (i : Int) - 1) ∧ i ≤ 8) (m := fun v => (v.2 + 1).toNat) (R := fun _ => some (num s : Int)) ?_ N ((0 : Int), (7 : Int)) ⟨8, by rw [List.drop_of_length_le (by omega)]; rfl, by omega⟩ (by simpa using hN)]
  rintro v r ⟨i, rfl, hi⟩ hr
  simp only [porterref42_Number_s1] at *
  cases i with
  | zero => rw [cond_f (dec_f (by omega)), List.drop_zero]
  | succ i =>
    have e0 : ((i + 1 : Nat) : Int) - 1 = (i : Int) := by omega
    have hd := drop_cons s 0 i (by omega)
    have hb := u8_lt (s.getD i 0)
    have hle := num_drop_le s i
    have e2 : num (s.drop i) = (s.getD i 0).toNat + 256 * num (s.drop (i + 1)) := by rw [hd]; rfl
    rw [e0, cond_t (dec_t (by omega)), cond_t (inR_nat (by omega)), Int.toNat_natCast, wrap64_byte, wrap_in (x := (256 : Int) * _) (by unfold I64; omega), wrap_in (x := _ + _) (by unfold I64; omega), wrap_in (x := _ - 1) (by unfold I64; omega)]
    exact hr _ ⟨i, by rw [e2]; congr 1; omega, by omega⟩ (by dsimp only; omega)

/-! ## Put -/
def putR (f : Int × (Int × (List UInt8 × Unit))) : List UInt8 × Int × Unit :=
  cond (decide (f.1 < 1 ∨ f.2.1 < 0 ∨ 255 < f.2.1)) ([], 7, ()) (cond (decide (110 < f.2.2.1.length)) ([], 3, ()) (blk f.1.toNat f.2.1.toNat f.2.2.1, 0, ()))

theorem pad_eq (N : Nat) {s : List UInt8} (h : s.length ≤ 110) : octet_Pad N s 110 = some (s ++ List.replicate (110 - s.length) 0) := by
  have e : (if (65536 : Int) < 110 then (65536 : Int) else 110) = 110 := by decide
  simp only [octet_Pad, e]
  have hw : IntKind.wrap .i64 ((110 : Int) - (((s.length : Nat)) : Int)) = ((110 - s.length : Nat) : Int) := by rw [wrap_in (by unfold I64; omega)]; omega
  by_cases h2 : s.length = 110
  · rw [cond_t (dec_t (by omega)), h2]; simp
  · rw [cond_f (dec_f (by omega)), hw, Int.toNat_natCast, toStr_replicate, cond_t (dec_t (by omega)), cond_t (dec_t (by rw [List.length_replicate]; omega))]

theorem refPad_eq (N : Nat) {s : List UInt8} (h : s.length ≤ 110) : porterref02_Pad N s 110 = some (s ++ List.replicate (110 - s.length) 0) := by
  simp only [porterref02_Pad, porterref02_Pad_p1]
  have hw : IntKind.wrap .i64 ((110 : Int) - (((s.length : Nat)) : Int)) = ((110 - s.length : Nat) : Int) := by rw [wrap_in (by unfold I64; omega)]; omega
  rw [cond_f (by decide)]
  by_cases h2 : s.length = 110
  · rw [cond_t (dec_t (by omega)), h2]; simp
  · rw [cond_f (dec_f (by omega)), hw, Int.toNat_natCast, toStr_replicate, cond_t (dec_t (by omega)), cond_t (dec_t (by rw [List.length_replicate]; omega))]

theorem head_eq {a : Int} {n : Nat} (h0 : 0 ≤ a) (h1 : a ≤ 255) (hn : n ≤ 110) : toStr [IntKind.wrap .u8 a, IntKind.wrap .u8 (n : Int)] = [u8 a.toNat, u8 n] := by
  rw [wrap_u8_in h0 (by omega), wrap_u8_in (by omega) (by omega)]; rfl
theorem head1_eq {a : Int} (h0 : 0 ≤ a) (h1 : a ≤ 255) : toStr [IntKind.wrap .u8 a] = [u8 a.toNat] := by
  rw [wrap_u8_in h0 (by omega)]; rfl

theorem put_eq (k : Nat) {f : Int × (Int × (List UInt8 × Unit))} (h1 : I64 f.1) : frame_Put (k + 20) f = some (putR f) := by
  obtain ⟨m, kd, t, u⟩ := f
  dsimp only at h1
  simp only [frame_Put, frame_Put_p1, frame_Put_p2, putR]
  by_cases hm : m < 1
  · rw [cond_t (dec_t hm), cond_t (dec_t (Or.inl hm))]; rfl
  rw [cond_f (dec_f hm)]
  by_cases hk : kd < 0
  · rw [cond_t (dec_t hk), cond_t (dec_t (Or.inr (Or.inl hk)))]; rfl
  rw [cond_f (dec_f hk)]
  by_cases hk2 : 255 < kd
  · rw [cond_t (dec_t hk2), cond_t (dec_t (Or.inr (Or.inr hk2)))]
  rw [cond_f (dec_f hk2), cond_f (b := decide (m < 1 ∨ kd < 0 ∨ 255 < kd)) (dec_f (by omega))]
  by_cases ht : 110 < t.length
  · rw [cond_t (dec_t (by omega)), cond_t (dec_t ht)]
  rw [cond_f (dec_f (by omega)), cond_f (dec_f ht)]
  obtain ⟨n, rfl⟩ := Int.eq_ofNat_of_zero_le (show 0 ≤ m by omega)
  have hle := le_length 8 n
  rw [le_eq, Option.bind_some, head_eq (by omega) (by omega) (by omega), cond_t (dec_t (by rw [hle]; simp)), pad_eq _ (by omega), Option.bind_some, cond_t (dec_t (by simp [hle]; omega)), cond_t (dec_t (by simp [hle]; omega))]
  simp [blk]

theorem refPut_eq (N : Nat) {m kd : Int} {t : List UInt8} (h1 : I64 m) (hN : 8 < N) : porterref42_Put N m kd t = some (putR (m, kd, t, ())) := by
  simp only [porterref42_Put, porterref42_Put_p1, porterref42_Put_p2, putR]
  unfold I64 at h1
  by_cases hm : m < 1
  · rw [cond_t (dec_t hm), cond_t (dec_t (Or.inl hm))]; rfl
  rw [cond_f (dec_f hm)]
  by_cases hk : kd < 0
  · rw [cond_t (dec_t hk), cond_t (dec_t (Or.inr (Or.inl hk)))]; rfl
  rw [cond_f (dec_f hk)]
  by_cases hk2 : 255 < kd
  · rw [cond_t (dec_t hk2), cond_t (dec_t (Or.inr (Or.inr hk2)))]
  rw [cond_f (dec_f hk2), cond_f (b := decide (m < 1 ∨ kd < 0 ∨ 255 < kd)) (dec_f (by omega))]
  by_cases ht : 110 < t.length
  · rw [cond_t (dec_t (by omega)), cond_t (dec_t ht)]
  rw [cond_f (dec_f (by omega)), cond_f (dec_f ht)]
  obtain ⟨n, rfl⟩ := Int.eq_ofNat_of_zero_le (show 0 ≤ m by omega)
  have hle := le_length 8 n
  rw [mark_eq N (by omega) hN, Option.bind_some, head1_eq (by omega) (by omega), head1_eq (a := ((t.length : Nat) : Int)) (by omega) (by omega), cond_t (dec_t (by rw [hle]; simp)), cond_t (dec_t (by simp [hle])), refPad_eq _ (by omega), Option.bind_some, cond_t (dec_t (by simp [hle]; omega)), Option.bind_some, cond_t (dec_t (by simp [hle]; omega))]
  simp [blk]
end Go.Proofs.YtoelheiaohiabaaLf
