/- Layer 4: the tag, in the program and in the reference. -/
import Derived.Test.YtkccmmbomlpgnaaDoorLgHmaG
import Derived.Test.YtkccmmbomlpgnaaDoorLgShaS
import Derived.Test.YtkccmmbomlpgnaaDoorLgOctX
set_option linter.all false
set_option maxRecDepth 100000
namespace Go.Proofs.YtkccmmbomlpgnaaDoorLg
open Go Go.Lift Go.Proofs.YtkccmmbomlpgnaaDoorPx

theorem tell_len (k : Nat) {h : List Int} (hh : h.length = 8) : (tellL (k + 100) h).length = 32 := by
  unfold tellL
  rw [as_map h 0 hh, tellA]
  simp only [Option.getD_some, List.length_append, List.length_nil]
  rfl

theorem sumL_length (k : Nat) {s : List UInt8} (hk : 600 ≤ k) (hl : s.length ≤ 30000) : (sumL (k + 100) s).length = 32 := by
  obtain ⟨_, h⟩ := core_eq k (all := s) (j := 0) hk (by omega) hl
  exact tell_len k h

/-- the key, in 64 bytes -/
noncomputable def key1 (N : Nat) (key : List UInt8) : List UInt8 := if 64 < key.length then sumL N key else key
noncomputable def key64 (N : Nat) (key : List UInt8) : List UInt8 := key1 N key ++ List.replicate (64 - (key1 N key).length) 0
noncomputable def maskL (N : Nat) (key : List UInt8) (b : UInt8) : List UInt8 := xorL (key64 N key) (List.replicate 64 b)
noncomputable def innerL (N : Nat) (key text : List UInt8) : List UInt8 := maskL N key 54 ++ text
noncomputable def outerL (N : Nat) (key text : List UInt8) : List UInt8 := maskL N key 92 ++ sumL N (innerL N key text)
noncomputable def tagL (N : Nat) (key text : List UInt8) : List UInt8 := sumL N (outerL N key text)

theorem key1_le (k : Nat) {key : List UInt8} (hk : 600 ≤ k) (hl : key.length ≤ 30000) : (key1 (k + 100) key).length ≤ 64 := by
  unfold key1
  by_cases h : 64 < key.length
  · rw [if_pos h, sumL_length k hk hl]; omega
  · rw [if_neg h]; omega

theorem key64_length (k : Nat) {key : List UInt8} (hk : 600 ≤ k) (hl : key.length ≤ 30000) : (key64 (k + 100) key).length = 64 := by
  have := key1_le k hk hl
  unfold key64; rw [List.length_append, List.length_replicate]; omega

theorem maskL_length (k : Nat) {key : List UInt8} (b : UInt8) (hk : 600 ≤ k) (hl : key.length ≤ 30000) : (maskL (k + 100) key b).length = 64 := by
  unfold maskL; rw [xorL_length, key64_length k hk hl, List.length_replicate]; rfl

theorem innerL_length (k : Nat) {key text : List UInt8} (hk : 600 ≤ k) (hl : key.length ≤ 30000) : (innerL (k + 100) key text).length = 64 + text.length := by
  unfold innerL; rw [List.length_append, maskL_length k 54 hk hl]

theorem outerL_length (k : Nat) {key text : List UInt8} (hk : 600 ≤ k) (hl : key.length ≤ 30000) (ht : text.length ≤ 29900) : (outerL (k + 100) key text).length = 96 := by
  unfold outerL; rw [List.length_append, maskL_length k 92 hk hl, sumL_length k hk (by rw [innerL_length k hk hl]; omega)]

theorem tagL_length (k : Nat) {key text : List UInt8} (hk : 600 ≤ k) (hl : key.length ≤ 30000) (ht : text.length ≤ 29900) : (tagL (k + 100) key text).length = 32 :=
  sumL_length k hk (by rw [outerL_length k hk hl ht]; omega)

/-! ## the program -/
theorem rep_eq (b : UInt8) : repeat_F ([b], ((64 : Int), ())) = some (List.replicate 64 b) := by kernel_rfl

theorem keyed_eq (k : Nat) {key text : List UInt8} (b : UInt8) (hk : 600 ≤ k) (hl : key.length = 64) (ht : text.length ≤ 29900) :
    hmac_keyed (k + 100) key [b] text = some (sumL (k + 100) (xorL key (List.replicate 64 b) ++ text)) := by
  have hx : (xorL key (List.replicate 64 b)).length = 64 := by rw [xorL_length, hl, List.length_replicate]; rfl
  unfold hmac_keyed
  rw [rep_eq, Option.bind_some, xor_eq _ (by omega) (by omega), Option.bind_some]
  obtain ⟨h1, e1, m1⟩ := add_eq k (s := xorL key (List.replicate 64 b)) hk (made_new _) (by rw [hx]; simp)
  rw [List.nil_append] at m1
  rw [e1, Option.bind_some]
  dsimp only
  obtain ⟨h2, e2, m2⟩ := add_eq k (s := text) hk m1 (by rw [hx]; omega)
  rw [e2, Option.bind_some]
  dsimp only
  rw [sum2_eq k hk m2 (by rw [List.length_append, hx]; omega), Option.bind_some]

theorem tag_eq (k : Nat) {key text : List UInt8} (hk : 600 ≤ k) (hl : key.length ≤ 30000) (ht : text.length ≤ 29900) :
    hmac_Sum (k + 100) key text = some (tagL (k + 100) key text) := by
  have h1 : ∀ k0 : List UInt8 → Option (List UInt8), hmac_Sum_p1 (k + 100) key text k0 = k0 (key1 (k + 100) key) := by
    intro k0
    unfold hmac_Sum_p1 key1
    by_cases h : 64 < key.length
    · rw [cond_t (dec_t (by omega)), sum_eq k hk hl, Option.bind_some, if_pos h]
    · rw [cond_f (dec_f (by omega)), if_neg h]
  unfold hmac_Sum
  rw [h1, show (64 : Int) = ((64 : Nat) : Int) from rfl, padN_eq _ (by omega) (key1_le k hk hl), Option.bind_some]
  have h64 := key64_length k hk hl
  unfold key64 at h64
  rw [keyed_eq k 54 hk h64 ht, Option.bind_some, keyed_eq k 92 hk h64 (by
    have := innerL_length k (text := text) hk hl
    unfold innerL maskL key64 at this
    rw [sumL_length k hk (by rw [this]; omega)]; omega), Option.bind_some]
  rfl

/-! ## the reference -/
theorem refKey_eq (k : Nat) {key : List UInt8} (hk : 600 ≤ k) (hl : key.length ≤ 30000) : porterref04_key (k + 100) key = some (key64 (k + 100) key) := by
  have h1 : ∀ k0 : List UInt8 → Option (List UInt8), porterref04_key_p1 (k + 100) key k0 = k0 (key1 (k + 100) key) := by
    intro k0
    unfold porterref04_key_p1 key1
    by_cases h : 64 < key.length
    · rw [cond_t (dec_t (by omega)), refSum_eq k hk hl, Option.bind_some, if_pos h]
    · rw [cond_f (dec_f (by omega)), if_neg h]
  unfold porterref04_key
  have := key1_le k hk hl
  rw [h1, refPad2_eq _ (by omega) (by unfold I64; omega), Option.bind_some]
  unfold padL key64
  rw [show (min (64 : Int) 65536).toNat = 64 from rfl]

theorem with_rep (k : Nat) (key : List UInt8) (n : Int) (k0 : List UInt8 → Option (List UInt8)) : porterref04_with_p1 (k + 100) key n [] k0 = k0 (List.replicate 64 (UInt8.ofNat (IntKind.wrap .u8 n).toNat)) := by kernel_rfl

theorem with_eq (k : Nat) {key : List UInt8} (n : Int) (hl : key.length = 64) : porterref04_with (k + 100) key n = some (xorL key (List.replicate 64 (UInt8.ofNat (IntKind.wrap .u8 n).toNat))) := by
  unfold porterref04_with
  rw [with_rep, refXor_eq _ (by omega) (by omega), Option.bind_some]

theorem w54 : UInt8.ofNat (IntKind.wrap .u8 54).toNat = 54 := by kernel_rfl
theorem w92 : UInt8.ofNat (IntKind.wrap .u8 92).toNat = 92 := by kernel_rfl

theorem texts_eq (k : Nat) {key text : List UInt8} (hk : 600 ≤ k) (hl : key.length ≤ 30000) (ht : text.length ≤ 29900) :
    porterref04_Texts (k + 100) key text = some [innerL (k + 100) key text, outerL (k + 100) key text] := by
  have h64 := key64_length k hk hl
  have e1 := innerL_length k (text := text) hk hl
  unfold porterref04_Texts
  rw [refKey_eq k hk hl, Option.bind_some, with_eq k 54 h64, w54, Option.bind_some]
  have hm := maskL_length k 54 hk hl
  have hm2 := maskL_length k 92 hk hl
  unfold innerL maskL at e1
  unfold maskL at hm hm2
  rw [cond_t (dec_t (by omega)), Option.bind_some, with_eq k 92 h64, w92, Option.bind_some, refSum_eq k hk (by omega), Option.bind_some]
  rw [cond_t (dec_t (by rw [hm2, sumL_length k hk (by omega)]; omega))]
  rfl

theorem refTag_eq (k : Nat) {key text : List UInt8} (hk : 600 ≤ k) (hl : key.length ≤ 30000) (ht : text.length ≤ 29900) :
    porterref04_Sum (k + 100) key text = some (tagL (k + 100) key text) := by
  unfold porterref04_Sum
  rw [texts_eq k hk hl ht, Option.bind_some, cond_t (by rfl)]
  show ((porterref03_Sum (k + 100) (outerL (k + 100) key text)).bind fun y1 => some y1) = _
  rw [refSum_eq k hk (by rw [outerL_length k hk hl ht]; omega)]; rfl
end Go.Proofs.YtkccmmbomlpgnaaDoorLg
