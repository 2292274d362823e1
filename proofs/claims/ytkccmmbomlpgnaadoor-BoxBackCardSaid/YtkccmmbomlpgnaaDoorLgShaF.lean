/- The layer sha: padding, and what a hash made in parts tells. -/
import Derived.Test.YtkccmmbomlpgnaaDoorLgFnG
import Derived.Test.YtkccmmbomlpgnaaDoorLgPxA
import Derived.Test.YtkccmmbomlpgnaaDoorLgPxB
set_option linter.all false
namespace Go.Proofs.YtkccmmbomlpgnaaDoorLg
open Go Go.Lift Go.Proofs.YtkccmmbomlpgnaaDoorPx

theorem padN_eq (N : Nat) {s : List UInt8} {m : Nat} (hm : m ≤ 65536) (hs : s.length ≤ m) : octet_Pad N s (m : Int) = some (s ++ List.replicate (m - s.length) 0) := by
  have e : (if (65536 : Int) < (m : Int) then (65536 : Int) else (m : Int)) = (m : Int) := by rw [if_neg (by omega)]
  simp only [octet_Pad, e]
  have hw : IntKind.wrap .i64 ((m : Int) - (((s.length : Nat)) : Int)) = ((m - s.length : Nat) : Int) := by rw [wrap_in (by unfold I64; omega)]; omega
  by_cases h2 : s.length = m
  · rw [cond_t (dec_t (by omega)), h2]; simp
  · rw [cond_f (dec_f (by omega)), hw, Int.toNat_natCast, toStr_replicate, cond_t (dec_t (by omega)), cond_t (dec_t (by rw [List.length_replicate]; omega))]

theorem shrU (n k : Nat) (hk : k ≤ 64) : shrI .u64 (n : Int) (k : Int) = ((n / 2 ^ k : Nat) : Int) := by
  have e : min ((k : Int)).toNat (IntKind.bits .u64) = k := by rw [Int.toNat_natCast]; exact Nat.min_eq_left hk
  unfold shrI
  rw [e, Int.fdiv_eq_ediv_of_nonneg _ (by exact_mod_cast Nat.zero_le _)]
  norm_cast

/-- a small number in eight bytes, the highest first -/
def beL (n : Nat) : List UInt8 := [0, 0, 0, 0, 0, UInt8.ofNat (n / 65536), UInt8.ofNat (n / 256 % 256), UInt8.ofNat (n % 256)]

theorem be_eq (k : Nat) {n : Nat} (hn : n < 16777216) : sha_bigEndian (k + 20) (n : Int) 8 = some (beL n) := by
  have h : sha_bigEndian (k + 20) (n : Int) 8 = some (toStr [IntKind.wrap .u8 (shrI .u64 n ((56 : Nat) : Int)), IntKind.wrap .u8 (shrI .u64 n ((48 : Nat) : Int)), IntKind.wrap .u8 (shrI .u64 n ((40 : Nat) : Int)), IntKind.wrap .u8 (shrI .u64 n ((32 : Nat) : Int)), IntKind.wrap .u8 (shrI .u64 n ((24 : Nat) : Int)), IntKind.wrap .u8 (shrI .u64 n ((16 : Nat) : Int)), IntKind.wrap .u8 (shrI .u64 n ((8 : Nat) : Int)), IntKind.wrap .u8 (shrI .u64 n ((0 : Nat) : Int))]) := by kernel_rfl
  have hx : ∀ a b : Nat, a % 256 = b → UInt8.ofNat ((((a : Nat) : Int) % 256).toNat) = UInt8.ofNat b := by
    intro a b e; congr 1
  rw [h]
  simp only [shrU n _ (by decide : 0 ≤ 64), shrU n _ (by decide : 8 ≤ 64), shrU n _ (by decide : 16 ≤ 64), shrU n _ (by decide : 24 ≤ 64), shrU n _ (by decide : 32 ≤ 64), shrU n _ (by decide : 40 ≤ 64), shrU n _ (by decide : 48 ≤ 64), shrU n _ (by decide : 56 ≤ 64), toStr, List.map_cons, List.map_nil, wrap_u8, beL]
  rw [hx _ 0 (by omega : n / 2 ^ 56 % 256 = 0), hx _ 0 (by omega : n / 2 ^ 48 % 256 = 0), hx _ 0 (by omega : n / 2 ^ 40 % 256 = 0), hx _ 0 (by omega : n / 2 ^ 32 % 256 = 0), hx _ 0 (by omega : n / 2 ^ 24 % 256 = 0), hx _ (n / 65536) (by omega : n / 2 ^ 16 % 256 = n / 65536), hx _ (n / 256 % 256) (by omega : n / 2 ^ 8 % 256 = n / 256 % 256), hx _ (n % 256) (by omega : n / 2 ^ 0 % 256 = n % 256)]
  rfl

def zer (n : Nat) : Nat := (119 - n % 64) % 64
def tailL (n : Nat) : List UInt8 := ([128] ++ List.replicate (zer n) 0) ++ beL (8 * n)
theorem tailL_length (n : Nat) : (tailL n).length = 9 + zer n := by simp [tailL, beL]; omega
theorem tailL_whole (n : Nat) : (n + (tailL n).length) % 64 = 0 := by rw [tailL_length]; unfold zer; omega

theorem tail_eq (k : Nat) {n : Nat} (hn : n ≤ 30000) : sha_tail (k + 20) (n : Int) = some (tailL n) := by
  have e1 : IntKind.wrap .i64 ((1 : Int) + Int.tmod (IntKind.wrap .i64 ((119 : Int) - Int.tmod (n : Int) 64)) 64) = ((1 + zer n : Nat) : Int) := by
    rw [Int.tmod_eq_emod_of_nonneg (by omega : 0 ≤ (n : Int)), wrap_in (x := (119 : Int) - _) (by unfold I64; omega), Int.tmod_eq_emod_of_nonneg (by omega), wrap_in (by unfold I64; omega)]
    unfold zer; omega
  have hz : zer n < 64 := by unfold zer; omega
  have e2 : IntKind.wrap .u64 (8 * IntKind.wrap .u64 (n : Int)) = ((8 * n : Nat) : Int) := by
    show (8 * ((n : Int) % 18446744073709551616)) % 18446744073709551616 = _
    omega
  simp only [sha_tail]
  rw [e1, padN_eq _ (by omega) (by simp), Option.bind_some, e2, be_eq k (by omega), Option.bind_some]
  rw [cond_t (dec_t (by simp [beL]; omega))]
  rw [show (1 + zer n - [(128 : UInt8)].length) = zer n by simp]
  rfl

/-! ## ShaPads -/
theorem gd_app {α : Type} (a b : List α) (d : α) (i : Nat) : (a ++ b).getD (a.length + i) d = b.getD i d := by
  rw [List.getD_eq_getElem?_getD, List.getElem?_append_right (by omega), ← List.getD_eq_getElem?_getD, show a.length + i - a.length = i by omega]

end Go.Proofs.YtkccmmbomlpgnaaDoorLg
