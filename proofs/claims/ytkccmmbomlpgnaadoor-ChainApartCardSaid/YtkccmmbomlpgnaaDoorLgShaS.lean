/- The layer sha: the document's sum is the program's. -/
import Derived.Test.YtkccmmbomlpgnaaDoorLgShaM
import Derived.Test.YtkccmmbomlpgnaaDoorLgShaG
set_option linter.all false
namespace Go.Proofs.YtkccmmbomlpgnaaDoorLg
open Go Go.Lift Go.Proofs.YtkccmmbomlpgnaaDoorPx

def wordN (f : Nat → UInt8) (t : Nat) : Nat := (((f (4 * t)).toNat * 256 + (f (4 * t + 1)).toNat) * 256 + (f (4 * t + 2)).toNat) * 256 + (f (4 * t + 3)).toNat
def word (f : Nat → UInt8) (t : Nat) : Int := (wordN f t : Int)

theorem shl24 (b : UInt8) : shlI .u32 (IntKind.wrap .u32 ((b.toNat : Nat) : Int)) 24 = ((b.toNat * 16777216 : Nat) : Int) := by
  have := b.toNat_lt
  show (((b.toNat : Nat) : Int) % 4294967296 * 16777216) % 4294967296 = _
  omega
theorem shl16 (b : UInt8) : shlI .u32 (IntKind.wrap .u32 ((b.toNat : Nat) : Int)) 16 = ((b.toNat * 65536 : Nat) : Int) := by
  have := b.toNat_lt
  show (((b.toNat : Nat) : Int) % 4294967296 * 65536) % 4294967296 = _
  omega
theorem shl8 (b : UInt8) : shlI .u32 (IntKind.wrap .u32 ((b.toNat : Nat) : Int)) 8 = ((b.toNat * 256 : Nat) : Int) := by
  have := b.toNat_lt
  show (((b.toNat : Nat) : Int) % 4294967296 * 256) % 4294967296 = _
  omega
theorem wr8 (b : UInt8) : IntKind.wrap .u32 ((b.toNat : Nat) : Int) = ((b.toNat : Nat) : Int) := by
  have := b.toNat_lt
  show ((b.toNat : Nat) : Int) % 4294967296 = _
  omega

theorem or_lo {a b : Nat} (c : Nat) (hb : b < 2 ^ c) (h : a * 2 ^ c + b < 4294967296) : bitsOp .or .u32 ((a * 2 ^ c : Nat) : Int) ((b : Nat) : Int) = ((a * 2 ^ c + b : Nat) : Int) := by
  unfold bitsOp
  show IntKind.wrap .u32 (((BitVec.ofInt 32 ((a * 2 ^ c : Nat) : Int) ||| BitVec.ofInt 32 ((b : Nat) : Int)).toNat : Nat) : Int) = _
  rw [BitVec.ofInt_natCast, BitVec.ofInt_natCast, BitVec.toNat_or, BitVec.toNat_ofNat, BitVec.toNat_ofNat, Nat.mod_eq_of_lt (by omega), Nat.mod_eq_of_lt (by omega)]
  have := Nat.shiftLeft_add_eq_or_of_lt hb a
  rw [Nat.shiftLeft_eq] at this
  rw [← this, w32_eq, Int.emod_eq_of_lt (by omega) (by omega)]

theorem word_or (b0 b1 b2 b3 : UInt8) : bitsOp .or .u32 (bitsOp .or .u32 (bitsOp .or .u32 (shlI .u32 (IntKind.wrap .u32 ((b0.toNat : Nat) : Int)) 24) (shlI .u32 (IntKind.wrap .u32 ((b1.toNat : Nat) : Int)) 16)) (shlI .u32 (IntKind.wrap .u32 ((b2.toNat : Nat) : Int)) 8)) (IntKind.wrap .u32 ((b3.toNat : Nat) : Int)) = (((((b0.toNat * 256 + b1.toNat) * 256 + b2.toNat) * 256 + b3.toNat) : Nat) : Int) := by
  have h0 := b0.toNat_lt
  have h1 := b1.toNat_lt
  have h2 := b2.toNat_lt
  have h3 := b3.toNat_lt
  rw [shl24, shl16, shl8, wr8]
  have e1 := or_lo (a := b0.toNat) (b := b1.toNat * 65536) 24 (by simp only [Nat.reducePow]; omega) (by simp only [Nat.reducePow]; omega)
  have e2 := or_lo (a := b0.toNat * 256 + b1.toNat) (b := b2.toNat * 256) 16 (by simp only [Nat.reducePow]; omega) (by simp only [Nat.reducePow]; omega)
  have e3 := or_lo (a := (b0.toNat * 256 + b1.toNat) * 256 + b2.toNat) (b := b3.toNat) 8 (by simp only [Nat.reducePow]; omega) (by simp only [Nat.reducePow]; omega)
  simp only [Nat.reducePow] at e1 e2 e3
  rw [e1, show b0.toNat * 16777216 + b1.toNat * 65536 = (b0.toNat * 256 + b1.toNat) * 65536 by omega, e2, show (b0.toNat * 256 + b1.toNat) * 65536 + b2.toNat * 256 = ((b0.toNat * 256 + b1.toNat) * 256 + b2.toNat) * 256 by omega, e3]

theorem word_sum (b0 b1 b2 b3 : UInt8) : IntKind.wrap .u32 (IntKind.wrap .u32 (IntKind.wrap .u32 (shlI .u32 (IntKind.wrap .u32 ((b0.toNat : Nat) : Int)) 24 + shlI .u32 (IntKind.wrap .u32 ((b1.toNat : Nat) : Int)) 16) + shlI .u32 (IntKind.wrap .u32 ((b2.toNat : Nat) : Int)) 8) + IntKind.wrap .u32 ((b3.toNat : Nat) : Int)) = (((((b0.toNat * 256 + b1.toNat) * 256 + b2.toNat) * 256 + b3.toNat) : Nat) : Int) := by
  have h0 := b0.toNat_lt
  have h1 := b1.toNat_lt
  have h2 := b2.toNat_lt
  have h3 := b3.toNat_lt
  rw [shl24, shl16, shl8, wr8]
  simp only [w32_eq]
  omega

theorem range_word (f : Nat → UInt8) (t : Nat) : (List.range (t + 1)).map (word f) = (List.range t).map (word f) ++ [word f t] := by
  rw [List.range_succ, List.map_append]; rfl

theorem refW_eq (N : Nat) {s : List UInt8} {a : Nat} {k h x8 : List Int} {k0 : List Int → Option (List Int)} (ha : a + 64 ≤ s.length) (hs : s.length ≤ 100000) (hN : 16 < N) :
    porterref03_step_p1 N s (a : Int) k h x8 [] 0 k0 = k0 ((List.range 16).map (word fun j => s.getD (a + j) 0)) := by
  simp only [porterref03_step_p1]
  rw [iter_eq (I := fun (v : List Int × Int) => ∃ t : Nat, v = ((List.range t).map (word fun j => s.getD (a + j) 0), (t : Int)) ∧ t ≤ 16) (m := fun v => 16 - v.2.toNat) (R := fun _ => k0 ((List.range 16).map (word fun j => s.getD (a + j) 0))) ?_ N ([], 0) ⟨0, rfl, by omega⟩ (by simpa using hN)]
  rintro v r ⟨t, rfl, ht⟩ hr
  dsimp only at hr ⊢
  rw [Int.toNat_natCast] at hr
  simp only [porterref03_step_s1]
  by_cases hlt : t < 16
  · have i0 : IntKind.wrap .i64 ((a : Int) + IntKind.wrap .i64 ((4 : Int) * (t : Int))) = ((a + 4 * t : Nat) : Int) := by
      rw [wrap_in (x := (4 : Int) * _) (by unfold I64; omega), wrap_in (by unfold I64; omega)]; omega
    have i1 : IntKind.wrap .i64 (((a + 4 * t : Nat) : Int) + 1) = ((a + (4 * t + 1) : Nat) : Int) := by rw [wrap_in (by unfold I64; omega)]; omega
    have i2 : IntKind.wrap .i64 (((a + 4 * t : Nat) : Int) + 2) = ((a + (4 * t + 2) : Nat) : Int) := by rw [wrap_in (by unfold I64; omega)]; omega
    have i3 : IntKind.wrap .i64 (((a + 4 * t : Nat) : Int) + 3) = ((a + (4 * t + 3) : Nat) : Int) := by rw [wrap_in (by unfold I64; omega)]; omega
    rw [i0, i1, i2, i3, Int.toNat_natCast, Int.toNat_natCast, Int.toNat_natCast, Int.toNat_natCast]
    rw [cond_t (dec_t (by omega)), cond_t (inR_nat (by omega)), cond_t (inR_nat (by omega)), cond_t (inR_nat (by omega)), cond_t (inR_nat (by omega)), cond_t (dec_t (by rw [List.length_map, List.length_range]; omega)), word_sum, wrap_succ (by omega)]
    exact hr _ ⟨t + 1, by rw [range_word]; rfl, by omega⟩ (by dsimp only; omega)
  · rw [cond_f (dec_f (by omega)), show t = 16 by omega]

theorem schW_eq (N : Nat) {b : List UInt8} {x2 Z : List Int} {k0 : List Int → Option (List Int)} (hb : b.length = 64) (hZ : Z.length = 64) (hN : 16 < N) :
    sha_schedule_p1 N b x2 Z 0 k0 = k0 ((List.range 16).map (word fun j => b.getD j 0) ++ Z.drop 16) := by
  simp only [sha_schedule_p1]
  rw [iter_eq (I := fun (v : List Int × Int) => ∃ t : Nat, v = ((List.range t).map (word fun j => b.getD j 0) ++ Z.drop t, (t : Int)) ∧ t ≤ 16) (m := fun v => 16 - v.2.toNat) (R := fun _ => k0 ((List.range 16).map (word fun j => b.getD j 0) ++ Z.drop 16)) ?_ N (Z, 0) ⟨0, rfl, by omega⟩ (by simpa using hN)]
  rintro v r ⟨t, rfl, ht⟩ hr
  dsimp only at hr ⊢
  rw [Int.toNat_natCast] at hr
  simp only [sha_schedule_s1]
  by_cases hlt : t < 16
  · have i0 : IntKind.wrap .i64 ((4 : Int) * (t : Int)) = ((4 * t : Nat) : Int) := by rw [wrap_in (by unfold I64; omega)]; omega
    have i1 : IntKind.wrap .i64 (((4 * t : Nat) : Int) + 4) = ((4 * t + 4 : Nat) : Int) := by rw [wrap_in (by unfold I64; omega)]; omega
    have hc : ((b.drop (4 * t)).take 4).length = 4 := by rw [List.length_take, List.length_drop]; omega
    have hg : ∀ j, j < 4 → ((b.drop (4 * t)).take 4).getD j 0 = b.getD (4 * t + j) 0 := by
      intro j hj
      rw [List.getD_eq_getElem?_getD, List.getElem?_take_of_lt hj, List.getElem?_drop, ← List.getD_eq_getElem?_getD]
    have hla : ((List.range t).map (word fun j => b.getD j 0)).length = t := by rw [List.length_map, List.length_range]
    rw [i0, i1, Int.toNat_natCast, Int.toNat_natCast, Int.toNat_natCast, cut_mid]
    rw [cond_t (dec_t (by omega)), cond_t (dec_t (by omega)), cond_t (dec_t (by omega)), cond_t (inR_of (by omega) (by omega)), cond_t (inR_of (by omega) (by omega)), cond_t (inR_of (by omega) (by omega)), cond_t (inR_of (by omega) (by omega)), cond_t (inR_nat (by omega)), cond_t (dec_t (by rw [List.length_append, hla, List.length_drop]; omega)), hg 0 (by omega), hg 1 (by omega), hg 2 (by omega), hg 3 (by omega), word_or, wrap_succ (by omega)]
    have hd := drop_cons Z 0 t (by omega)
    have hset := set_app ((List.range t).map (word fun j => b.getD j 0)) (Z.drop (t + 1)) (word (fun j => b.getD j 0) t) (Z.getD t 0)
    rw [hla, ← hd] at hset
    have hset2 : List.set ((List.range t).map (word fun j => b.getD j 0) ++ Z.drop t) t (((((((b.getD (4 * t + 0) 0).toNat * 256 + (b.getD (4 * t + 1) 0).toNat) * 256 + (b.getD (4 * t + 2) 0).toNat) * 256 + (b.getD (4 * t + 3) 0).toNat) : Nat) : Int)) = (List.range (t + 1)).map (word fun j => b.getD j 0) ++ Z.drop (t + 1) := by
      rw [range_word, List.append_assoc]; exact hset
    rw [hset2]
    exact hr _ ⟨t + 1, rfl, by omega⟩ (by dsimp only; omega)
  · rw [cond_f (dec_f (by omega)), show t = 16 by omega]

theorem step_eq (N : Nat) {h : List Int} {s : List UInt8} {a : Nat} (hh : h.length = 8) (ha : a + 64 ≤ s.length) (hs : s.length ≤ 100000) (hN : 64 < N) :
    porterref03_step N h s (a : Int) glob0 = sha_Step N h ((s.drop a).take 64) := by
  have hb : ((s.drop a).take 64).length = 64 := by rw [List.length_take, List.length_drop]; omega
  have hg : ∀ j, j < 64 → ((s.drop a).take 64).getD j 0 = s.getD (a + j) 0 := by
    intro j hj
    rw [List.getD_eq_getElem?_getD, List.getElem?_take_of_lt hj, List.getElem?_drop, ← List.getD_eq_getElem?_getD]
  have hW : (List.range 16).map (word fun j => s.getD (a + j) 0) = (List.range 16).map (word fun j => ((s.drop a).take 64).getD j 0) := by
    apply List.map_congr_left
    intro t ht
    rw [List.mem_range] at ht
    simp only [word, wordN]
    rw [hg (4 * t) (by omega), hg (4 * t + 1) (by omega), hg (4 * t + 2) (by omega), hg (4 * t + 3) (by omega)]
  have hl16 : ((List.range 16).map (word fun j => ((s.drop a).take 64).getD j 0)).length = 16 := by rw [List.length_map, List.length_range]
  have hl64 : (grow 48 ((List.range 16).map (word fun j => ((s.drop a).take 64).getD j 0))).length = 64 := by rw [grow_length, hl16]
  simp only [porterref03_step, sha_Step, sha_schedule]
  rw [refW_eq N ha hs (by omega), refGrow_eq N (by rw [List.length_map, List.length_range]) hN, hW, refRounds_eq N hh hl64 glob0_length hN]
  rw [cond_f (by rw [hb]; rfl), schW_eq N hb (by rfl) (by omega), grow_eq N hl16 (by rfl) hN, Option.bind_some, rounds_eq N hh hl64 hN]
  exact fin_eq N h _ _ _ _

def be4 (x : Int) : List UInt8 := toStr [IntKind.wrap .u8 (shrI .u64 (IntKind.wrap .u64 x) 24), IntKind.wrap .u8 (shrI .u64 (IntKind.wrap .u64 x) 16), IntKind.wrap .u8 (shrI .u64 (IntKind.wrap .u64 x) 8), IntKind.wrap .u8 (shrI .u64 (IntKind.wrap .u64 x) 0)]
def r4 (x : Int) : List Int := [IntKind.wrap .u8 (shrI .u32 x 24), IntKind.wrap .u8 (shrI .u32 x 16), IntKind.wrap .u8 (shrI .u32 x 8), IntKind.wrap .u8 x]

theorem be4_eq (x : Int) : be4 x = toStr (r4 x) := by
  have a24 : shrI .u64 (IntKind.wrap .u64 x) 24 = (x % 18446744073709551616) / 16777216 := by
    show (x % 18446744073709551616).fdiv 16777216 = _; rw [Int.fdiv_eq_ediv_of_nonneg _ (by omega)]
  have a16 : shrI .u64 (IntKind.wrap .u64 x) 16 = (x % 18446744073709551616) / 65536 := by
    show (x % 18446744073709551616).fdiv 65536 = _; rw [Int.fdiv_eq_ediv_of_nonneg _ (by omega)]
  have a8 : shrI .u64 (IntKind.wrap .u64 x) 8 = (x % 18446744073709551616) / 256 := by
    show (x % 18446744073709551616).fdiv 256 = _; rw [Int.fdiv_eq_ediv_of_nonneg _ (by omega)]
  have a0 : shrI .u64 (IntKind.wrap .u64 x) 0 = (x % 18446744073709551616) / 1 := by
    show (x % 18446744073709551616).fdiv 1 = _; rw [Int.fdiv_eq_ediv_of_nonneg _ (by omega)]
  have b24 : shrI .u32 x 24 = x / 16777216 := by show x.fdiv 16777216 = _; rw [Int.fdiv_eq_ediv_of_nonneg _ (by omega)]
  have b16 : shrI .u32 x 16 = x / 65536 := by show x.fdiv 65536 = _; rw [Int.fdiv_eq_ediv_of_nonneg _ (by omega)]
  have b8 : shrI .u32 x 8 = x / 256 := by show x.fdiv 256 = _; rw [Int.fdiv_eq_ediv_of_nonneg _ (by omega)]
  unfold be4 r4
  rw [a24, a16, a8, a0, b24, b16, b8, wrap_u8, wrap_u8, wrap_u8, wrap_u8, wrap_u8, wrap_u8, wrap_u8, wrap_u8]
  rw [show x % 18446744073709551616 / 16777216 % 256 = x / 16777216 % 256 by omega, show x % 18446744073709551616 / 65536 % 256 = x / 65536 % 256 by omega, show x % 18446744073709551616 / 256 % 256 = x / 256 % 256 by omega, show x % 18446744073709551616 / 1 % 256 = x % 256 by omega]

set_option maxRecDepth 100000 in
theorem tellA (k : Nat) (g : Nat → Int) : sha_Tell (k + 100) ((List.range 8).map g) = some (((((((([] ++ be4 (g 0)) ++ be4 (g 1)) ++ be4 (g 2)) ++ be4 (g 3)) ++ be4 (g 4)) ++ be4 (g 5)) ++ be4 (g 6)) ++ be4 (g 7)) := by kernel_rfl
set_option maxRecDepth 100000 in
theorem tellB (k : Nat) (g : Nat → Int) : porterref03_Tell (k + 100) ((List.range 8).map g) = some (toStr (((((((([] ++ r4 (g 0)) ++ r4 (g 1)) ++ r4 (g 2)) ++ r4 (g 3)) ++ r4 (g 4)) ++ r4 (g 5)) ++ r4 (g 6)) ++ r4 (g 7))) := by kernel_rfl

theorem refTell_eq (k : Nat) {h : List Int} (hh : h.length = 8) : porterref03_Tell (k + 100) h = sha_Tell (k + 100) h := by
  rw [as_map h 0 hh, tellA, tellB]
  simp only [toStr_append, be4_eq]; rfl

/-! ## Pad -/
def bts (n : Nat) : List Int := [IntKind.wrap .u8 (shrI .u64 n 56), IntKind.wrap .u8 (shrI .u64 n 48), IntKind.wrap .u8 (shrI .u64 n 40), IntKind.wrap .u8 (shrI .u64 n 32), IntKind.wrap .u8 (shrI .u64 n 24), IntKind.wrap .u8 (shrI .u64 n 16), IntKind.wrap .u8 (shrI .u64 n 8), IntKind.wrap .u8 (shrI .u64 n 0)]

theorem bts_eq {n : Nat} (hn : n < 16777216) : toStr (bts n) = beL n := by
  have h := be_eq 0 hn
  have h2 : sha_bigEndian (0 + 20) (n : Int) 8 = some (toStr (bts n)) := by kernel_rfl
  rw [h2] at h; exact Option.some.inj h

theorem pad1 {N : Nat} {s : List UInt8} {b : List Int} {m : Nat} {k0 : List Int → Option (List UInt8)} (hb : b.length = m + 1) (hm : m ≤ 30000) (hN : 64 < N) : porterref03_Pad_p1 N s b k0 = k0 (b ++ List.replicate (zer m) 0) := by
  have hz : zer m < 64 := by unfold zer; omega
  have hzz : (m + 1 + zer m) % 64 = 56 := by unfold zer; omega
  have hmin : ∀ i, i < zer m → (m + 1 + i) % 64 ≠ 56 := by intro i hi; unfold zer at hi; omega
  simp only [porterref03_Pad_p1]
  rw [iter_eq (I := fun (v : List Int) => ∃ i : Nat, v = b ++ List.replicate i 0 ∧ i ≤ zer m) (m := fun v => m + 1 + zer m - v.length) (R := fun _ => k0 (b ++ List.replicate (zer m) 0)) ?_ N b ⟨0, by simp, by omega⟩ (by rw [hb]; omega)]
  rintro v r ⟨i, rfl, hi⟩ hr
  have hl : (b ++ List.replicate i (0 : Int)).length = m + 1 + i := by rw [List.length_append, List.length_replicate, hb]
  simp only [porterref03_Pad_s1]
  rw [hl] at hr ⊢
  rw [Int.tmod_eq_emod_of_nonneg (by omega)]
  by_cases hlt : i < zer m
  · have := hmin i hlt
    rw [cond_t (by rw [bne_iff_ne]; omega), cond_t (dec_t (by omega))]
    exact hr _ ⟨i + 1, by rw [List.append_assoc, List.replicate_succ'], by omega⟩ (by rw [List.length_append, hl]; simp; omega)
  · have : i = zer m := by omega
    subst this
    rw [cond_f (by rw [bne_eq_false_iff_eq]; omega)]

theorem pad2 {N : Nat} {b : List Int} {n : Nat} {k0 : List Int → Option (List UInt8)} (hb : b.length ≤ 100000) (hN : 8 < N) : porterref03_Pad_p2 N b (n : Int) 7 k0 = k0 (b ++ bts n) := by
  simp only [porterref03_Pad_p2]
  rw [iter_eq (I := fun (v : List Int × Int) => ∃ j : Nat, v = (b ++ (bts n).take j, 7 - (j : Int)) ∧ j ≤ 8) (m := fun v => (v.2 + 1).toNat) (R := fun _ => k0 (b ++ bts n)) ?_ N (b, 7) ⟨0, by simp, by omega⟩ (by dsimp only; omega)]
  rintro v r ⟨j, rfl, hj⟩ hr
  dsimp only at hr ⊢
  simp only [porterref03_Pad_s2]
  by_cases hlt : j < 8
  · have ht : ((bts n).take j).length = j := by rw [List.length_take]; show min j 8 = j; omega
    have e8 : IntKind.wrap .u64 (IntKind.wrap .i64 ((8 : Int) * (7 - (j : Int)))) = 56 - 8 * (j : Int) := by
      rw [wrap_in (by unfold I64; omega)]
      show ((8 : Int) * (7 - (j : Int))) % 18446744073709551616 = _
      omega
    have ev : IntKind.wrap .u8 (shrI .u64 (n : Int) (56 - 8 * (j : Int))) = (bts n).getD j 0 := by
      obtain rfl | rfl | rfl | rfl | rfl | rfl | rfl | rfl : j = 0 ∨ j = 1 ∨ j = 2 ∨ j = 3 ∨ j = 4 ∨ j = 5 ∨ j = 6 ∨ j = 7 := by omega
      all_goals rfl
    rw [cond_t (dec_t (by omega)), e8, cond_t (dec_t (by omega)), cond_t (dec_t (by rw [List.length_append, ht]; omega)), ev, wrap_in (x := (7 : Int) - (j : Int) - 1) (by unfold I64; omega)]
    refine hr _ ⟨j + 1, ?_, by omega⟩ (by dsimp only; omega)
    rw [take_succ (bts n) 0 j (by show j < 8; omega), List.append_assoc]
    congr 1
    omega
  · have : j = 8 := by omega
    subst this
    rw [cond_f (dec_f (by omega))]; rfl

theorem refPad_eq (N : Nat) {s : List UInt8} (hs : s.length ≤ 30000) (hN : 64 < N) : porterref03_Pad N s = some (s ++ tailL s.length) := by
  have hz : zer s.length < 64 := by unfold zer; omega
  have e2 : IntKind.wrap .u64 (8 * IntKind.wrap .u64 (s.length : Int)) = ((8 * s.length : Nat) : Int) := by
    show (8 * ((s.length : Int) % 18446744073709551616)) % 18446744073709551616 = _
    omega
  simp only [porterref03_Pad]
  rw [cond_t (dec_t (by rw [ofStr_length]; omega)), pad1 (m := s.length) (by simp [ofStr_length]) hs hN, e2, pad2 (by simp [ofStr_length]; omega) (by omega), toStr_append, toStr_append, toStr_append, toStr_ofStr, toStr_replicate, bts_eq (by omega)]
  have : toStr [(128 : Int)] = [128] := rfl
  rw [this, tailL]
  simp only [List.append_assoc]

theorem table_eq : (List.set (List.set (List.replicate 64 (0 : Int)) 0 0) 1 0).length = 64 := rfl

theorem refLoop (k : Nat) {s : List UInt8} {h : List Int} {j : Nat} {k0 : List Int → Option (List UInt8)} (hh : h.length = 8) (hs : s.length = 64 * j) (hj : j < k + 100) (hj2 : j ≤ 1000) :
    porterref03_Sum_p1 (k + 100) s glob0 h 0 k0 = k0 (stepsL (k + 100) j h s) := by
  simp only [porterref03_Sum_p1]
  rw [iter_eq (I := fun (v : List Int × Int) => ∃ i : Nat, v.2 = ((64 * i : Nat) : Int) ∧ i ≤ j ∧ v.1.length = 8) (m := fun v => j - v.2.toNat / 64)
    (R := fun v => k0 (stepsL (k + 100) (j - v.2.toNat / 64) v.1 (s.drop v.2.toNat))) ?_ (k + 100) (h, 0) ⟨0, rfl, by omega, hh⟩ (by simpa using hj)]
  · simp
  rintro ⟨h', v⟩ r ⟨i, e, hi, hl⟩ hr
  dsimp only at e hl hr ⊢
  subst e
  rw [Int.toNat_natCast, show 64 * i / 64 = i by omega] at hr ⊢
  simp only [porterref03_Sum_s1]
  by_cases hlt : i < j
  · have hw : IntKind.wrap .i64 (((64 * i : Nat) : Int) + 64) = ((64 * i + 64 : Nat) : Int) := by rw [wrap_in (by unfold I64; omega)]; omega
    have hb : ((s.drop (64 * i)).take 64).length = 64 := by rw [List.length_take, List.length_drop]; omega
    rw [cond_t (dec_t (by omega)), hw, step_eq (k + 100) hl (by omega) (by omega) (by omega), (st_eq k hl hb).1, Option.bind_some, hr _ ⟨i + 1, by dsimp only; omega, by omega, (st_eq k hl hb).2⟩ (by dsimp only; omega)]
    dsimp only
    rw [Int.toNat_natCast, show (64 * i + 64) / 64 = i + 1 by omega, show j - i = (j - (i + 1)) + 1 by omega]
    simp only [stepsL, List.drop_drop]
  · rw [cond_f (dec_f (by omega)), show j - i = 0 by omega]; rfl

theorem refSum_eq (k : Nat) {s : List UInt8} (hk : 600 ≤ k) (hs : s.length ≤ 30000) : porterref03_Sum (k + 100) s = some (sumL (k + 100) s) := by
  have hwh := tailL_whole s.length
  have htl := tailL_length s.length
  have hz : zer s.length < 64 := by unfold zer; omega
  have htot : 64 * total s.length = s.length + (tailL s.length).length := by unfold total; omega
  have hl8 : (stepsL (k + 100) (total s.length) first (s ++ tailL s.length)).length = 8 := stepsL_length k _ rfl (by rw [List.length_append]; omega)
  have hun : porterref03_Sum (k + 100) s = (porterref03_Pad (k + 100) s).bind fun y => porterref03_Sum_p1 (k + 100) y glob0 first 0 (fun h => (porterref03_Tell (k + 100) h).bind fun y1 => some y1) := by kernel_rfl
  rw [hun, refPad_eq _ hs (by omega), Option.bind_some, refLoop k (j := total s.length) rfl (by rw [List.length_append]; omega) (by omega) (by omega), refTell_eq k hl8, tell_eq k hl8, Option.bind_some]
  rfl

end Go.Proofs.YtkccmmbomlpgnaaDoorLg
