/- The layer quote: how long a rune is, by the tables, by the model and by the document. -/
import Derived.Test.YtpnjnnhedadjgaaDoorFnQ
import Derived.Test.YtpnjnnhedadjgaaDoorPxA
import Derived.Test.YtpnjnnhedadjgaaDoorPxB
import Derived.Test.YtpnjnnhedadjgaaDoorPxR
import Derived.Lib.DecodeN
set_option linter.all false
namespace Go.Proofs.YtpnjnnhedadjgaaDoorLf
open Go Go.Lift Go.Lib Go.Proofs.YtpnjnnhedadjgaaDoorPx

set_option maxRecDepth 100000 in
theorem first_eq : ∀ b : Fin 256, glob1.getD b.1 0 = ((firstT b.1 : Nat) : Int) := by decide +kernel

theorem first_at (b : UInt8) : List.getD glob1 (Int.toNat ((b.toNat : Nat) : Int)) 0 = ((firstT b.toNat : Nat) : Int) := by
  rw [Int.toNat_natCast]; exact first_eq ⟨b.toNat, b.toNat_lt⟩

theorem slow_size (N : Nat) {s : List UInt8} {c : Nat} {sz lo hi : Nat} (hs : 1 ≤ s.length) (hx : firstT (s.getD 0 0).toNat = c) (h240 : c < 240) (e0 : inR (shrI .u8 (c : Int) 4) 16 = true)
    (e1 : IntKind.wrap .i64 (bitsOp .and .u8 (c : Int) 7) = (sz : Int)) (e2 : List.getD glob2 (Int.toNat (shrI .u8 (c : Int) 4)) ((0 : Int), ((0 : Int), ())) = ((lo : Int), (hi : Int), ())) (hz : 2 ≤ sz) (hz4 : sz ≤ 4) :
    ∃ r, unicode_utf8_decodeRuneInStringSlow N s = some (r, (((slowN s.length (s.getD 0 0).toNat (s.getD 1 0).toNat (s.getD 2 0).toNat (s.getD 3 0).toNat sz lo hi).2 : Nat) : Int), ()) := by
  have hb := u8_lt (s.getD 0 0)
  simp only [unicode_utf8_decodeRuneInStringSlow, first_at, hx, e0, e1, e2]
  rw [cond_f (dec_f (by omega)), cond_t (inR_of (by omega) (by omega)), cond_t (inR_nat hb), cond_f (dec_f (by omega)), cond_true]
  unfold slowN
  by_cases h1 : s.length < sz
  · rw [cond_t (dec_t (by omega)), if_pos h1]; exact ⟨_, rfl⟩
  rw [cond_f (dec_f (by omega)), if_neg h1, cond_t (inR_of (by omega) (by omega))]
  simp only [unicode_utf8_decodeRuneInStringSlow_p1, unicode_utf8_decodeRuneInStringSlow_p2]
  by_cases h2 : (s.getD 1 0).toNat < lo
  · rw [cond_t (dec_t (by omega)), if_pos (Or.inl h2)]; exact ⟨_, rfl⟩
  rw [cond_f (dec_f (by omega))]
  by_cases h3 : hi < (s.getD 1 0).toNat
  · rw [cond_t (dec_t (by omega)), if_pos (Or.inr h3)]; exact ⟨_, rfl⟩
  rw [cond_f (dec_f (by omega)), if_neg (by omega)]
  by_cases h4 : sz ≤ 2
  · rw [cond_t (dec_t (by omega)), if_pos h4]; exact ⟨_, rfl⟩
  rw [cond_f (dec_f (by omega)), if_neg h4, cond_t (inR_of (by omega) (by omega))]
  simp only [unicode_utf8_decodeRuneInStringSlow_p3, unicode_utf8_decodeRuneInStringSlow_p4]
  by_cases h5 : (s.getD 2 0).toNat < 128
  · rw [cond_t (dec_t (by omega)), if_pos (Or.inl h5)]; exact ⟨_, rfl⟩
  rw [cond_f (dec_f (by omega))]
  by_cases h6 : 191 < (s.getD 2 0).toNat
  · rw [cond_t (dec_t (by omega)), if_pos (Or.inr h6)]; exact ⟨_, rfl⟩
  rw [cond_f (dec_f (by omega)), if_neg (by omega)]
  by_cases h7 : sz ≤ 3
  · rw [cond_t (dec_t (by omega)), if_pos h7]; exact ⟨_, rfl⟩
  rw [cond_f (dec_f (by omega)), if_neg h7, cond_t (inR_of (by omega) (by omega))]
  simp only [unicode_utf8_decodeRuneInStringSlow_p5, unicode_utf8_decodeRuneInStringSlow_p6]
  by_cases h8 : (s.getD 3 0).toNat < 128
  · rw [cond_t (dec_t (by omega)), if_pos (Or.inl h8)]; exact ⟨_, rfl⟩
  rw [cond_f (dec_f (by omega))]
  by_cases h9 : 191 < (s.getD 3 0).toNat
  · rw [cond_t (dec_t (by omega)), if_pos (Or.inr h9)]; exact ⟨_, rfl⟩
  rw [cond_f (dec_f (by omega)), if_neg (by omega)]; exact ⟨_, rfl⟩

theorem slow_bad (N : Nat) {s : List UInt8} (hs : 1 ≤ s.length) (hx : firstT (s.getD 0 0).toNat = 241) : ∃ r, unicode_utf8_decodeRuneInStringSlow N s = some (r, 1, ()) := by
  have hb := u8_lt (s.getD 0 0)
  simp only [unicode_utf8_decodeRuneInStringSlow, first_at, hx]
  rw [cond_f (dec_f (by omega)), cond_t (inR_of (by omega) (by omega)), cond_t (inR_nat hb), cond_t (dec_t (by omega)), cond_t (inR_of (by omega) (by omega))]
  exact ⟨_, rfl⟩

abbrev dN (s : List UInt8) (i : Nat) : Nat × Nat := decodeN (s.length - i) (s.getD i 0).toNat (s.getD (i + 1) 0).toNat (s.getD (i + 2) 0).toNat (s.getD (i + 3) 0).toNat

theorem bad_size {n b0 b1 b2 b3 : Nat} (h : (128 ≤ b0 ∧ b0 < 194) ∨ 245 ≤ b0) (hb : b0 < 256) (h1 : b1 < 256) : (decodeN n b0 b1 b2 b3).2 = 1 := by
  unfold decodeN
  repeat' split
  all_goals first | rfl | (exfalso; omega)

theorem dec_size (N : Nat) {s : List UInt8} (hs : 1 ≤ s.length) : ∃ r, unicode_utf8_DecodeRuneInString N s = some (r, (((dN s 0).2 : Nat) : Int), ()) := by
  have hb0 := u8_lt (s.getD 0 0)
  have hb1 := u8_lt (s.getD 1 0)
  have hb2 := u8_lt (s.getD 2 0)
  have hb3 := u8_lt (s.getD 3 0)
  have hne : (s == ([] : List UInt8)) = false := by
    rw [beq_eq_false_iff_ne]; intro e; rw [e] at hs; simp at hs
  simp only [unicode_utf8_DecodeRuneInString, unicode_utf8_DecodeRuneInString_p1, hne, Bool.not_false, cond_true, dN, Nat.sub_zero, Nat.zero_add]
  rw [cond_t (inR_of (by omega) (by omega))]
  by_cases ha : (s.getD 0 0).toNat < 128
  · rw [cond_t (dec_t (by omega)), cond_t (inR_of (by omega) (by omega)), decodeN_ascii _ _ _ _ _ ha]; exact ⟨_, rfl⟩
  rw [cond_f (dec_f (by omega))]
  have fin : ∀ {m : Nat}, (∃ r, unicode_utf8_decodeRuneInStringSlow N s = some (r, ((m : Nat) : Int), ())) → m = (decodeN s.length (s.getD 0 0).toNat (s.getD 1 0).toNat (s.getD 2 0).toNat (s.getD 3 0).toNat).2 → ∃ r, ((unicode_utf8_decodeRuneInStringSlow N s).bind fun y => some (y.1, (y.2.1, ()))) = some (r, (((decodeN s.length (s.getD 0 0).toNat (s.getD 1 0).toNat (s.getD 2 0).toNat (s.getD 3 0).toNat).2 : Nat) : Int), ()) := by
    rintro m ⟨r, e⟩ h
    rw [e, ← h]; exact ⟨_, rfl⟩
  have hbad : firstT (s.getD 0 0).toNat = 241 → ((128 ≤ (s.getD 0 0).toNat ∧ (s.getD 0 0).toNat < 194) ∨ 245 ≤ (s.getD 0 0).toNat) → ∃ r, ((unicode_utf8_decodeRuneInStringSlow N s).bind fun y => some (y.1, (y.2.1, ()))) = some (r, (((decodeN s.length (s.getD 0 0).toNat (s.getD 1 0).toNat (s.getD 2 0).toNat (s.getD 3 0).toNat).2 : Nat) : Int), ()) :=
    fun h1 h2 => fin (m := 1) (slow_bad N hs h1) (bad_size h2 hb0 hb1).symm
  by_cases c1 : (s.getD 0 0).toNat < 194
  · exact hbad (by unfold firstT; rw [if_neg ha, if_pos c1]) (by omega)
  by_cases c2 : (s.getD 0 0).toNat < 224
  · exact fin (slow_size N (c := 2) (sz := 2) (lo := 128) (hi := 191) hs (by unfold firstT; rw [if_neg ha, if_neg c1, if_pos c2]) (by omega) (by kernel_rfl) (by kernel_rfl) (by kernel_rfl) (by omega) (by omega)) (by rw [slow_C2 _ _ _ _ _ hs hb1 hb2 hb3 (by omega)])
  by_cases c3 : (s.getD 0 0).toNat = 224
  · exact fin (slow_size N (c := 19) (sz := 3) (lo := 160) (hi := 191) hs (by rw [c3]; rfl) (by omega) (by kernel_rfl) (by kernel_rfl) (by kernel_rfl) (by omega) (by omega)) (by rw [slow_E0 _ _ _ _ _ hs hb1 hb2 hb3 c3])
  by_cases c4 : (s.getD 0 0).toNat < 237
  · exact fin (slow_size N (c := 3) (sz := 3) (lo := 128) (hi := 191) hs (by unfold firstT; rw [if_neg ha, if_neg c1, if_neg c2, if_neg c3, if_pos c4]) (by omega) (by kernel_rfl) (by kernel_rfl) (by kernel_rfl) (by omega) (by omega)) (by rw [slow_E1 _ _ _ _ _ hs hb1 hb2 hb3 (by omega)])
  by_cases c5 : (s.getD 0 0).toNat = 237
  · exact fin (slow_size N (c := 35) (sz := 3) (lo := 128) (hi := 159) hs (by rw [c5]; rfl) (by omega) (by kernel_rfl) (by kernel_rfl) (by kernel_rfl) (by omega) (by omega)) (by rw [slow_ED _ _ _ _ _ hs hb1 hb2 hb3 c5])
  by_cases c6 : (s.getD 0 0).toNat < 240
  · exact fin (slow_size N (c := 3) (sz := 3) (lo := 128) (hi := 191) hs (by unfold firstT; rw [if_neg ha, if_neg c1, if_neg c2, if_neg c3, if_neg c4, if_neg c5, if_pos c6]) (by omega) (by kernel_rfl) (by kernel_rfl) (by kernel_rfl) (by omega) (by omega)) (by rw [slow_E1 _ _ _ _ _ hs hb1 hb2 hb3 (by omega)])
  by_cases c7 : (s.getD 0 0).toNat = 240
  · exact fin (slow_size N (c := 52) (sz := 4) (lo := 144) (hi := 191) hs (by rw [c7]; rfl) (by omega) (by kernel_rfl) (by kernel_rfl) (by kernel_rfl) (by omega) (by omega)) (by rw [slow_F0 _ _ _ _ _ hs hb1 hb2 hb3 c7])
  by_cases c8 : (s.getD 0 0).toNat < 244
  · exact fin (slow_size N (c := 4) (sz := 4) (lo := 128) (hi := 191) hs (by unfold firstT; rw [if_neg ha, if_neg c1, if_neg c2, if_neg c3, if_neg c4, if_neg c5, if_neg c6, if_neg c7, if_pos c8]) (by omega) (by kernel_rfl) (by kernel_rfl) (by kernel_rfl) (by omega) (by omega)) (by rw [slow_F1 _ _ _ _ _ hs hb1 hb2 hb3 (by omega)])
  by_cases c9 : (s.getD 0 0).toNat = 244
  · exact fin (slow_size N (c := 68) (sz := 4) (lo := 128) (hi := 143) hs (by rw [c9]; rfl) (by omega) (by kernel_rfl) (by kernel_rfl) (by kernel_rfl) (by omega) (by omega)) (by rw [slow_F4 _ _ _ _ _ hs hb1 hb2 hb3 c9])
  exact hbad (by unfold firstT; rw [if_neg ha, if_neg c1, if_neg c2, if_neg c3, if_neg c4, if_neg c5, if_neg c6, if_neg c7, if_neg c8, if_neg c9]) (by omega)

theorem getD_drop8 (l : List UInt8) (i j : Nat) : (l.drop i).getD j 0 = l.getD (i + j) 0 := by
  rw [List.getD_eq_getElem?_getD, List.getElem?_drop, ← List.getD_eq_getElem?_getD]

/-- the length of the unit at a place -/
def unitL (s : List UInt8) (i : Nat) : Nat := (runeAt s i).2

theorem unit_eq (N : Nat) {s : List UInt8} {i : Nat} (hi : i < s.length) : quote_Unit N s (i : Int) = some ((unitL s i : Nat) : Int) := by
  simp only [quote_Unit, quote_Unit_p1, quote_Unit_p2]
  rw [cond_f (dec_f (by omega)), cond_f (dec_f (by omega)), cond_t (dec_t (by omega)), Int.toNat_natCast, cut_all]
  obtain ⟨r, e⟩ := dec_size N (s := s.drop i) (by rw [List.length_drop]; omega)
  rw [e, Option.bind_some]
  dsimp only
  unfold unitL
  rw [rune_N]
  simp only [dN, getD_drop8, List.length_drop, Nat.add_zero, Nat.zero_add, Nat.sub_zero]

theorem unit_none (N : Nat) {s : List UInt8} {i : Int} (hi : i < 0 ∨ (s.length : Int) ≤ i) : quote_Unit N s i = some 0 := by
  simp only [quote_Unit, quote_Unit_p1, quote_Unit_p2]
  by_cases h : i < 0
  · rw [cond_t (dec_t h)]; rfl
  · rw [cond_f (dec_f h), cond_t (dec_t (by omega))]
end Go.Proofs.YtpnjnnhedadjgaaDoorLf
