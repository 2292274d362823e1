/- The layer sha: padding, and what a hash made in parts tells. -/
import Derived.Test.YtjeabejfmcmkdaaDoorFnS
import Derived.Test.YtjeabejfmcmkdaaDoorPxA
import Derived.Test.YtjeabejfmcmkdaaDoorPxB
set_option linter.all false
namespace Go.Proofs.YtjeabejfmcmkdaaDoorLf
open Go Go.Lift Go.Proofs.YtjeabejfmcmkdaaDoorPx

set_option maxRecDepth 100000 in
theorem works_eq (k : Nat) : porterlaw03_works (k + 200) = some true := by kernel_rfl

theorem padN_eq (N : Nat) {s : List UInt8} {m : Nat} (hm : m ≤ 65536) (hs : s.length ≤ m) : octet_Pad N s (m : Int) = some (s ++ List.replicate (m - s.length) 0) := by
  have e : (if (65536 : Int) < (m : Int) then (65536 : Int) else (m : Int)) = (m : Int) := by rw [if_neg (by omega)]
  simp only [octet_Pad, e]
  have hw : IntKind.wrap .i64 ((m : Int) - (((s.length : Nat)) : Int)) = ((m - s.length : Nat) : Int) := by rw [wrap_in (by unfold I64; omega)]; omega
  by_cases h2 : s.length = m
  · rw [cond_t (dec_t (by omega)), h2]; simp
  · rw [cond_f (dec_f (by omega)), hw, Int.toNat_natCast, toStr_replicate, cond_t (dec_t (by omega)), cond_t (dec_t (by rw [List.length_replicate]; omega))]

theorem shrU (n k : Nat) (hk : k ≤ 64) : shrI .u64 (n : Int) (k : Int) = ((n / 2 ^ k : Nat) : Int) := by
  have e : min ((k : Int)).toNat (IntKind.bits .u64) = k := by rw [Int.toNat_natCast]; exact Nat.min_eq_left hk
  unfold shrI
  rw [e, Int.fdiv_eq_ediv_of_nonneg _ (by exact_mod_cast Nat.zero_le _)]
  norm_cast

/-- a small number in eight bytes, the highest first -/
def beL (n : Nat) : List UInt8 := [0, 0, 0, 0, 0, 0, UInt8.ofNat (n / 256), UInt8.ofNat (n % 256)]

theorem be_eq (k : Nat) {n : Nat} (hn : n < 65536) : sha_bigEndian (k + 20) (n : Int) 8 = some (beL n) := by
  have h : sha_bigEndian (k + 20) (n : Int) 8 = some (toStr [IntKind.wrap .u8 (shrI .u64 n ((56 : Nat) : Int)), IntKind.wrap .u8 (shrI .u64 n ((48 : Nat) : Int)), IntKind.wrap .u8 (shrI .u64 n ((40 : Nat) : Int)), IntKind.wrap .u8 (shrI .u64 n ((32 : Nat) : Int)), IntKind.wrap .u8 (shrI .u64 n ((24 : Nat) : Int)), IntKind.wrap .u8 (shrI .u64 n ((16 : Nat) : Int)), IntKind.wrap .u8 (shrI .u64 n ((8 : Nat) : Int)), IntKind.wrap .u8 (shrI .u64 n ((0 : Nat) : Int))]) := by kernel_rfl
  have hx : ∀ a b : Nat, a % 256 = b → UInt8.ofNat ((((a : Nat) : Int) % 256).toNat) = UInt8.ofNat b := by
    intro a b e; congr 1
  rw [h]
  simp only [shrU n _ (by decide : 0 ≤ 64), shrU n _ (by decide : 8 ≤ 64), shrU n _ (by decide : 16 ≤ 64), shrU n _ (by decide : 24 ≤ 64), shrU n _ (by decide : 32 ≤ 64), shrU n _ (by decide : 40 ≤ 64), shrU n _ (by decide : 48 ≤ 64), shrU n _ (by decide : 56 ≤ 64), toStr, List.map_cons, List.map_nil, wrap_u8, beL]
  rw [hx _ 0 (by omega : n / 2 ^ 56 % 256 = 0), hx _ 0 (by omega : n / 2 ^ 48 % 256 = 0), hx _ 0 (by omega : n / 2 ^ 40 % 256 = 0), hx _ 0 (by omega : n / 2 ^ 32 % 256 = 0), hx _ 0 (by omega : n / 2 ^ 24 % 256 = 0), hx _ 0 (by omega : n / 2 ^ 16 % 256 = 0), hx _ (n / 256) (by omega : n / 2 ^ 8 % 256 = n / 256), hx _ (n % 256) (by omega : n / 2 ^ 0 % 256 = n % 256)]
  rfl

def zer (n : Nat) : Nat := (119 - n % 64) % 64
def tailL (n : Nat) : List UInt8 := ([128] ++ List.replicate (zer n) 0) ++ beL (8 * n)
theorem tailL_length (n : Nat) : (tailL n).length = 9 + zer n := by simp [tailL, beL]; omega
theorem tailL_whole (n : Nat) : (n + (tailL n).length) % 64 = 0 := by rw [tailL_length]; unfold zer; omega

theorem tail_eq (k : Nat) {n : Nat} (hn : n ≤ 8000) : sha_tail (k + 20) (n : Int) = some (tailL n) := by
  have e1 : IntKind.wrap .i64 ((1 : Int) + Int.tmod (IntKind.wrap .i64 ((119 : Int) - Int.tmod (n : Int) 64)) 64) = ((1 + zer n : Nat) : Int) := by
    rw [Int.tmod_eq_emod_of_nonneg (by omega : 0 ≤ (n : Int)), wrap_in (x := (119 : Int) - _) (by unfold I64; omega), Int.tmod_eq_emod_of_nonneg (by omega), wrap_in (by unfold I64; omega)]
    unfold zer; omega
  have hz : zer n < 64 := by unfold zer; omega
  have e2 : IntKind.wrap .u64 (IntKind.wrap .u64 (n : Int) * 8) = ((8 * n : Nat) : Int) := by
    show ((n : Int) % 18446744073709551616 * 8) % 18446744073709551616 = _
    omega
  simp only [sha_tail]
  rw [e1, padN_eq _ (by omega) (by simp), Option.bind_some, e2, be_eq k (by omega), Option.bind_some]
  rw [cond_t (dec_t (by simp [beL]; omega))]
  rw [show (1 + zer n - [(128 : UInt8)].length) = zer n by simp]
  rfl

theorem pad_eq (k : Nat) {s : List UInt8} (hs : s.length ≤ 8000) : sha_Pad (k + 20) s = some (s ++ tailL s.length) := by
  have hz : zer s.length < 64 := by unfold zer; omega
  simp only [sha_Pad]
  rw [tail_eq k hs, Option.bind_some, cond_t (dec_t (by rw [tailL_length]; omega))]

/-! ## ShaPads -/
theorem gd_app {α : Type} (a b : List α) (d : α) (i : Nat) : (a ++ b).getD (a.length + i) d = b.getD i d := by
  rw [List.getD_eq_getElem?_getD, List.getElem?_append_right (by omega), ← List.getD_eq_getElem?_getD, show a.length + i - a.length = i by omega]

theorem pads_loop {N : Nat} {s p : List UInt8} {k0 : Int → Option Bool} {n m : Nat} (hn : n < 65536) (hp : p = List.take m p ++ beL n) (hm : p.length = m + 8) (hm2 : m ≤ 10000) (hN : 8 < N) :
    porterlaw03_ShaPads_p3 N s p 0 (m : Int) k0 = k0 (n : Int) := by
  have hg : ∀ j, p.getD (m + j) 0 = (beL n).getD j 0 := by
    intro j
    have ht : (List.take m p).length = m := by rw [List.length_take]; omega
    have := gd_app (List.take m p) (beL n) 0 j
    rw [ht, ← hp] at this; exact this
  simp only [porterlaw03_ShaPads_p3]
  rw [iter_eq (I := fun (v : Int × Int) => ∃ j : Nat, j ≤ 8 ∧ v.2 = ((m + j : Nat) : Int) ∧ v.1 = ((if j ≤ 6 then 0 else if j = 7 then n / 256 else n : Nat) : Int)) (m := fun v => (((m + 8 : Nat) : Int) - v.2).toNat) (R := fun _ => k0 (n : Int)) ?_ N ((0 : Int), (m : Int)) ⟨0, by omega, by simp, by simp⟩ (by dsimp only; omega)]
  rintro ⟨a, b⟩ r ⟨j, hj, h1, h2⟩ hr
  dsimp only at h1 h2 hr
  subst h1; subst h2
  simp only [porterlaw03_ShaPads_s3]
  by_cases hlt : j < 8
  · rw [cond_t (dec_t (by omega)), cond_t (inR_nat (by omega)), Int.toNat_natCast, hg j]
    have hcase : IntKind.wrap .i64 (IntKind.wrap .i64 ((256 : Int) * ((if j ≤ 6 then 0 else if j = 7 then n / 256 else n : Nat) : Int)) + IntKind.wrap .i64 ((((beL n).getD j 0).toNat : Nat) : Int)) = ((if j + 1 ≤ 6 then 0 else if j + 1 = 7 then n / 256 else n : Nat) : Int) := by
      obtain rfl | rfl | rfl | rfl | rfl | rfl | rfl | rfl : j = 0 ∨ j = 1 ∨ j = 2 ∨ j = 3 ∨ j = 4 ∨ j = 5 ∨ j = 6 ∨ j = 7 := by omega
      · rfl
      · rfl
      · rfl
      · rfl
      · rfl
      · rfl
      · have e : (((beL n).getD 6 0).toNat : Nat) = n / 256 := by show (UInt8.ofNat (n / 256)).toNat = _; simp; omega
        rw [e]
        simp only [show ¬ (6 + 1 ≤ 6) by omega, if_neg, if_pos, Nat.le_refl]
        rw [wrap_in (x := (256 : Int) * _) (by unfold I64; omega), wrap_in (x := ((n / 256 : Nat) : Int)) (by unfold I64; omega), wrap_in (by unfold I64; omega)]
        simp
      · have e : (((beL n).getD 7 0).toNat : Nat) = n % 256 := by show (UInt8.ofNat (n % 256)).toNat = _; simp
        rw [e]
        have eL : (if 7 ≤ 6 then 0 else if 7 = 7 then n / 256 else n) = n / 256 := by simp
        have eR : (if 7 + 1 ≤ 6 then 0 else if 7 + 1 = 7 then n / 256 else n) = n := by simp
        rw [eL, eR]
        rw [wrap_in (x := (256 : Int) * _) (by unfold I64; omega), wrap_in (x := ((n % 256 : Nat) : Int)) (by unfold I64; omega), wrap_in (by unfold I64; omega)]
        omega
    rw [hcase, wrap_in (x := ((m + j : Nat) : Int) + 1) (by unfold I64; omega)]
    exact hr _ ⟨j + 1, by omega, by dsimp only; omega, rfl⟩ (by dsimp only; omega)
  · have : j = 8 := by omega
    subst this
    rw [cond_f (dec_f (by omega))]; rfl

theorem pads_zero {N : Nat} {s p : List UInt8} {n : Int} {k0 : Bool → Option Bool} {k1 : Option Bool} (i e : Nat) (hp : p.length = e + 8) (he : e ≤ 10000) (hi : i ≤ e) (hz : ∀ j, i ≤ j → j < e → p.getD j 0 = 0) (hN : e < N) :
    porterlaw03_ShaPads_p4 N s p n (i : Int) k0 k1 = k1 := by
  simp only [porterlaw03_ShaPads_p4]
  rw [iter_eq (I := fun (v : Int) => ∃ j : Nat, v = (j : Int) ∧ i ≤ j ∧ j ≤ e) (m := fun v => e - v.toNat) (R := fun _ => k1) ?_ N (i : Int) ⟨i, rfl, by omega, hi⟩ (by simp; omega)]
  rintro v r ⟨j, rfl, h1, h2⟩ hr
  have hw : IntKind.wrap .i64 ((p.length : Int) - 8) = (e : Int) := by rw [wrap_in (by unfold I64; omega)]; omega
  simp only [porterlaw03_ShaPads_s4, Int.toNat_natCast, hw] at *
  by_cases hlt : j < e
  · rw [cond_t (dec_t (by omega)), cond_t (inR_nat (by omega)), hz j h1 hlt, cond_f (by rfl), wrap_succ (by omega)]
    exact hr _ ⟨j + 1, rfl, by omega, by omega⟩ (by omega)
  · rw [cond_f (dec_f (by omega))]

theorem pads_law {k : Nat} {s : List UInt8} (hw : porterlaw03_works (k + 3000) = some true) : porterlaw03_ShaPads (k + 3000) s = some true := by
  simp only [porterlaw03_ShaPads, hw]
  by_cases hs : 2000 < s.length
  · rw [cond_t (dec_t (by omega))]; rfl
  rw [cond_f (dec_f (by omega))]
  have hp : sha_Pad (k + 3000) s = some (s ++ tailL s.length) := pad_eq (k + 2980) (by omega)
  have hz : zer s.length < 64 := by unfold zer; omega
  have hwh := tailL_whole s.length
  have htl := tailL_length s.length
  rw [hp, Option.bind_some]
  generalize hpd : s ++ tailL s.length = p
  have hpl : p.length = s.length + 9 + zer s.length := by rw [← hpd, List.length_append, htl]; omega
  have hsplit : p = (s ++ ([128] ++ List.replicate (zer s.length) 0)) ++ beL (8 * s.length) := by rw [← hpd, tailL]; simp only [List.append_assoc]
  have hfl : (s ++ ([(128 : UInt8)] ++ List.replicate (zer s.length) 0)).length = s.length + 1 + zer s.length := by simp; omega
  have h128 : p.getD s.length 0 = 128 := by
    have := gd_app s (tailL s.length) 0 0
    rw [hpd] at this; rw [Nat.add_zero] at this; rw [this]; rfl
  have htake : p.take s.length = s := by rw [← hpd, List.take_append_of_le_length (by omega), List.take_of_length_le (by omega)]
  simp only [porterlaw03_ShaPads_p1, porterlaw03_ShaPads_p2]
  rw [cond_f (by rw [bne_eq_false_iff_eq, Int.tmod_eq_emod_of_nonneg (by omega)]; rw [← hpd, List.length_append]; omega)]
  rw [wrap_in (x := (s.length : Int) + 9) (by unfold I64; omega), cond_f (dec_f (by omega)), wrap_in (x := (s.length : Int) + 72) (by unfold I64; omega), cond_f (dec_f (by omega)), cond_t (dec_t (by omega)), Int.toNat_natCast, cut_take, htake, beq_self_eq_true, Bool.not_true, cond_false, cond_t (inR_nat (by omega)), h128]
  rw [cond_f (by rfl)]
  have hm : IntKind.wrap .i64 ((p.length : Int) - 8) = ((s.length + 1 + zer s.length : Nat) : Int) := by rw [wrap_in (by unfold I64; omega)]; omega
  have hm1 : IntKind.wrap .i64 ((s.length : Int) + 1) = ((s.length + 1 : Nat) : Int) := by rw [wrap_in (by unfold I64; omega)]; omega
  have htk : p.take (s.length + 1 + zer s.length) = s ++ ([128] ++ List.replicate (zer s.length) 0) := by
    conv => lhs; rw [hsplit]
    rw [List.take_append_of_le_length (by omega), List.take_of_length_le (by omega)]
  rw [hm, hm1, pads_loop (n := 8 * s.length) (by omega) (by rw [htk]; exact hsplit) (by omega) (by omega) (by omega), pads_zero (s.length + 1) (s.length + 1 + zer s.length) (by omega) (by omega) (by omega) ?_ (by omega)]
  · rw [wrap_in (x := (8 : Int) * _) (by unfold I64; omega), cond_t (by rw [beq_iff_eq]; omega)]; rfl
  · intro j h1 h2
    obtain ⟨i, rfl⟩ := Nat.exists_eq_add_of_le h1
    have e1 : p.getD (s.length + 1 + i) 0 = (p.take (s.length + 1 + zer s.length)).getD (s.length + 1 + i) 0 := by
      rw [List.getD_eq_getElem?_getD, List.getD_eq_getElem?_getD, List.getElem?_take_of_lt (by omega)]
    rw [e1, htk, ← List.append_assoc]
    have hl1 : (s ++ [(128 : UInt8)]).length = s.length + 1 := by simp
    have := gd_app (s ++ [(128 : UInt8)]) (List.replicate (zer s.length) 0) 0 i
    rw [hl1] at this
    rw [this, List.getD_eq_getElem?_getD, List.getElem?_replicate]
    split <;> rfl
end Go.Proofs.YtjeabejfmcmkdaaDoorLf
