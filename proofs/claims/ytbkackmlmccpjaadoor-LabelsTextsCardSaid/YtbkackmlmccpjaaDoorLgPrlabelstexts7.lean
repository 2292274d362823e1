import Derived.Test.YtbkackmlmccpjaaDoorLgPrlabelstexts6
import Derived.Test.YtbkackmlmccpjaaDoorLgPrlabelstexts1
import Derived.Test.YtbkackmlmccpjaaDoorLgPrlabelstexts2
import Derived.Lib.DecodeN
set_option linter.all false
namespace Go.Proofs.YtbkackmlmccpjaaDoorLg
open Go Go.Lift Go.Lib Go.Proofs.YtbkackmlmccpjaaDoorPx

set_option maxRecDepth 10000000 in
theorem first_eq : ∀ b : Fin 256, glob0.getD b.1 0 = ((firstT b.1 : Nat) : Int) := by decide +kernel

theorem first_at (b : UInt8) : List.getD glob0 (Int.toNat ((b.toNat : Nat) : Int)) 0 = ((firstT b.toNat : Nat) : Int) := by
  rw [Int.toNat_natCast]; exact first_eq ⟨b.toNat, b.toNat_lt⟩

theorem slow_size (N : Nat) {s : List UInt8} {c : Nat} {sz lo hi : Nat} (hs : 1 ≤ s.length) (hx : firstT (s.getD 0 0).toNat = c) (h240 : c < 240) (e0 : inR (shrI .u8 (c : Int) 4) 16 = true)
    (e1 : IntKind.wrap .i64 (bitsOp .and .u8 (c : Int) 7) = (sz : Int)) (e2 : List.getD glob1 (Int.toNat (shrI .u8 (c : Int) 4)) ((0 : Int), ((0 : Int), ())) = ((lo : Int), (hi : Int), ())) (hz : 2 ≤ sz) (hz4 : sz ≤ 4) :
    ∃ r, unicode_utf8_decodeRuneInStringSlow N s = some (r, (((slowN s.length (s.getD 0 0).toNat (s.getD 1 0).toNat (s.getD 2 0).toNat (s.getD 3 0).toNat sz lo hi).2 : Nat) : Int), ()) := by
  have hb := u8_lt (s.getD 0 0)
  simp only [unicode_utf8_decodeRuneInStringSlow, first_at, hx, e0, e1, e2]
  rw [cond_f (dec_f (by omega)), cond_t (inR_of (by omega) (by omega)), cond_t (inR_nat hb), cond_f (dec_f (by omega)), cond_true]
  unfold slowN
  by_cases h1 : s.length < sz
  · rw [cond_t (dec_t (by omega)), if_pos h1]; exact ⟨_, rfl⟩
  rw [cond_f (dec_f (by omega)), if_neg h1, cond_t (inR_of (by omega) (by omega))]
  simp only [unicode_utf8_decodeRuneInStringSlow_p1, unicode_utf8_decodeRuneInStringSlow_p2]
  by_cases h2 : (s.getD 1 0).toNat < lo
  · rw [cond_t (dec_t (by omega)), if_pos (Or.inl h2)]; exact ⟨_, rfl⟩
  rw [cond_f (dec_f (by omega))]
  by_cases h3 : hi < (s.getD 1 0).toNat
  · rw [cond_t (dec_t (by omega)), if_pos (Or.inr h3)]; exact ⟨_, rfl⟩
  rw [cond_f (dec_f (by omega)), if_neg (by omega)]
  by_cases h4 : sz ≤ 2
  · rw [cond_t (dec_t (by omega)), if_pos h4]; exact ⟨_, rfl⟩
  rw [cond_f (dec_f (by omega)), if_neg h4, cond_t (inR_of (by omega) (by omega))]
  simp only [unicode_utf8_decodeRuneInStringSlow_p3, unicode_utf8_decodeRuneInStringSlow_p4]
  by_cases h5 : (s.getD 2 0).toNat < 128
  · rw [cond_t (dec_t (by omega)), if_pos (Or.inl h5)]; exact ⟨_, rfl⟩
  rw [cond_f (dec_f (by omega))]
  by_cases h6 : 191 < (s.getD 2 0).toNat
  · rw [cond_t (dec_t (by omega)), if_pos (Or.inr h6)]; exact ⟨_, rfl⟩
  rw [cond_f (dec_f (by omega)), if_neg (by omega)]
  by_cases h7 : sz ≤ 3
  · rw [cond_t (dec_t (by omega)), if_pos h7]; exact ⟨_, rfl⟩
  rw [cond_f (dec_f (by omega)), if_neg h7, cond_t (inR_of (by omega) (by omega))]
  simp only [unicode_utf8_decodeRuneInStringSlow_p5, unicode_utf8_decodeRuneInStringSlow_p6]
  by_cases h8 : (s.getD 3 0).toNat < 128
  · rw [cond_t (dec_t (by omega)), if_pos (Or.inl h8)]; exact ⟨_, rfl⟩
  rw [cond_f (dec_f (by omega))]
  by_cases h9 : 191 < (s.getD 3 0).toNat
  · rw [cond_t (dec_t (by omega)), if_pos (Or.inr h9)]; exact ⟨_, rfl⟩
  rw [cond_f (dec_f (by omega)), if_neg (by omega)]; exact ⟨_, rfl⟩

theorem slow_bad (N : Nat) {s : List UInt8} (hs : 1 ≤ s.length) (hx : firstT (s.getD 0 0).toNat = 241) : ∃ r, unicode_utf8_decodeRuneInStringSlow N s = some (r, 1, ()) := by
  have hb := u8_lt (s.getD 0 0)
  simp only [unicode_utf8_decodeRuneInStringSlow, first_at, hx]
  rw [cond_f (dec_f (by omega)), cond_t (inR_of (by omega) (by omega)), cond_t (inR_nat hb), cond_t (dec_t (by omega)), cond_t (inR_of (by omega) (by omega))]
  exact ⟨_, rfl⟩

abbrev dN (s : List UInt8) (i : Nat) : Nat × Nat := decodeN (s.length - i) (s.getD i 0).toNat (s.getD (i + 1) 0).toNat (s.getD (i + 2) 0).toNat (s.getD (i + 3) 0).toNat

theorem bad_size {n b0 b1 b2 b3 : Nat} (h : (128 ≤ b0 ∧ b0 < 194) ∨ 245 ≤ b0) (hb : b0 < 256) (h1 : b1 < 256) : (decodeN n b0 b1 b2 b3).2 = 1 := by
  unfold decodeN
  repeat' split
  all_goals first | rfl | (exfalso; omega)

theorem dec_size (N : Nat) {s : List UInt8} (hs : 1 ≤ s.length) : ∃ r, unicode_utf8_DecodeRuneInString N s = some (r, (((dN s 0).2 : Nat) : Int), ()) := by
  have hb0 := u8_lt (s.getD 0 0)
  have hb1 := u8_lt (s.getD 1 0)
  have hb2 := u8_lt (s.getD 2 0)
  have hb3 := u8_lt (s.getD 3 0)
  have hne : (s == ([] : List UInt8)) = false := by
    rw [beq_eq_false_iff_ne]; intro e; rw [e] at hs; simp at hs
  simp only [unicode_utf8_DecodeRuneInString, unicode_utf8_DecodeRuneInString_p1, hne, Bool.not_false, cond_true, dN, Nat.sub_zero, Nat.zero_add]
  rw [cond_t (inR_of (by omega) (by omega))]
  by_cases ha : (s.getD 0 0).toNat < 128
  · rw [cond_t (dec_t (by omega)), cond_t (inR_of (by omega) (by omega)), decodeN_ascii _ _ _ _ _ ha]; exact ⟨_, rfl⟩
  rw [cond_f (dec_f (by omega))]
  have fin : ∀ {m : Nat}, (∃ r, unicode_utf8_decodeRuneInStringSlow N s = some (r, ((m : Nat) : Int), ())) → m = (decodeN s.length (s.getD 0 0).toNat (s.getD 1 0).toNat (s.getD 2 0).toNat (s.getD 3 0).toNat).2 → ∃ r, ((unicode_utf8_decodeRuneInStringSlow N s).bind fun y => some (y.1, (y.2.1, ()))) = some (r, (((decodeN s.length (s.getD 0 0).toNat (s.getD 1 0).toNat (s.getD 2 0).toNat (s.getD 3 0).toNat).2 : Nat) : Int), ()) := by
    rintro m ⟨r, e⟩ h
    rw [e, ← h]; exact ⟨_, rfl⟩
  have hbad : firstT (s.getD 0 0).toNat = 241 → ((128 ≤ (s.getD 0 0).toNat ∧ (s.getD 0 0).toNat < 194) ∨ 245 ≤ (s.getD 0 0).toNat) → ∃ r, ((unicode_utf8_decodeRuneInStringSlow N s).bind fun y => some (y.1, (y.2.1, ()))) = some (r, (((decodeN s.length (s.getD 0 0).toNat (s.getD 1 0).toNat (s.getD 2 0).toNat (s.getD 3 0).toNat).2 : Nat) : Int), ()) :=
    fun h1 h2 => fin (m := 1) (slow_bad N hs h1) (bad_size h2 hb0 hb1).symm
  by_cases c1 : (s.getD 0 0).toNat < 194
  · exact hbad (by unfold firstT; rw [if_neg ha, if_pos c1]) (by omega)
  by_cases c2 : (s.getD 0 0).toNat < 224
  · exact fin (slow_size N (c := 2) (sz := 2) (lo := 128) (hi := 191) hs (by unfold firstT; rw [if_neg ha, if_neg c1, if_pos c2]) (by omega) (by kernel_rfl) (by kernel_rfl) (by kernel_rfl) (by omega) (by omega)) (by rw [slow_C2 _ _ _ _ _ hs hb1 hb2 hb3 (by omega)])
  by_cases c3 : (s.getD 0 0).toNat = 224
  · exact fin (slow_size N (c := 19) (sz := 3) (lo := 160) (hi := 191) hs (by rw [c3]; rfl) (by omega) (by kernel_rfl) (by kernel_rfl) (by kernel_rfl) (by omega) (by omega)) (by rw [slow_E0 _ _ _ _ _ hs hb1 hb2 hb3 c3])
  by_cases c4 : (s.getD 0 0).toNat < 237
  · exact fin (slow_size N (c := 3) (sz := 3) (lo := 128) (hi := 191) hs (by unfold firstT; rw [if_neg ha, if_neg c1, if_neg c2, if_neg c3, if_pos c4]) (by omega) (by kernel_rfl) (by kernel_rfl) (by kernel_rfl) (by omega) (by omega)) (by rw [slow_E1 _ _ _ _ _ hs hb1 hb2 hb3 (by omega)])
  by_cases c5 : (s.getD 0 0).toNat = 237
  · exact fin (slow_size N (c := 35) (sz := 3) (lo := 128) (hi := 159) hs (by rw [c5]; rfl) (by omega) (by kernel_rfl) (by kernel_rfl) (by kernel_rfl) (by omega) (by omega)) (by rw [slow_ED _ _ _ _ _ hs hb1 hb2 hb3 c5])
  by_cases c6 : (s.getD 0 0).toNat < 240
  · exact fin (slow_size N (c := 3) (sz := 3) (lo := 128) (hi := 191) hs (by unfold firstT; rw [if_neg ha, if_neg c1, if_neg c2, if_neg c3, if_neg c4, if_neg c5, if_pos c6]) (by omega) (by kernel_rfl) (by kernel_rfl) (by kernel_rfl) (by omega) (by omega)) (by rw [slow_E1 _ _ _ _ _ hs hb1 hb2 hb3 (by omega)])
  by_cases c7 : (s.getD 0 0).toNat = 240
  · exact fin (slow_size N (c := 52) (sz := 4) (lo := 144) (hi := 191) hs (by rw [c7]; rfl) (by omega) (by kernel_rfl) (by kernel_rfl) (by kernel_rfl) (by omega) (by omega)) (by rw [slow_F0 _ _ _ _ _ hs hb1 hb2 hb3 c7])
  by_cases c8 : (s.getD 0 0).toNat < 244
  · exact fin (slow_size N (c := 4) (sz := 4) (lo := 128) (hi := 191) hs (by unfold firstT; rw [if_neg ha, if_neg c1, if_neg c2, if_neg c3, if_neg c4, if_neg c5, if_neg c6, if_neg c7, if_pos c8]) (by omega) (by kernel_rfl) (by kernel_rfl) (by kernel_rfl) (by omega) (by omega)) (by rw [slow_F1 _ _ _ _ _ hs hb1 hb2 hb3 (by omega)])
  by_cases c9 : (s.getD 0 0).toNat = 244
  · exact fin (slow_size N (c := 68) (sz := 4) (lo := 128) (hi := 143) hs (by rw [c9]; rfl) (by omega) (by kernel_rfl) (by kernel_rfl) (by kernel_rfl) (by omega) (by omega)) (by rw [slow_F4 _ _ _ _ _ hs hb1 hb2 hb3 c9])
  exact hbad (by unfold firstT; rw [if_neg ha, if_neg c1, if_neg c2, if_neg c3, if_neg c4, if_neg c5, if_neg c6, if_neg c7, if_neg c8, if_neg c9]) (by omega)

theorem getD_drop8 (l : List UInt8) (i j : Nat) : (l.drop i).getD j 0 = l.getD (i + j) 0 := by
  rw [List.getD_eq_getElem?_getD, List.getElem?_drop, ← List.getD_eq_getElem?_getD]

def unitL (s : List UInt8) (i : Nat) : Nat := (runeAt s i).2

theorem unit_eq (N : Nat) {s : List UInt8} {i : Nat} (hi : i < s.length) : quote_Unit N s (i : Int) = some ((unitL s i : Nat) : Int) := by
  simp only [quote_Unit, quote_Unit_p1, quote_Unit_p2]
  rw [cond_f (dec_f (by omega)), cond_f (dec_f (by omega)), cond_t (dec_t (by omega)), Int.toNat_natCast, cut_all]
  obtain ⟨r, e⟩ := dec_size N (s := s.drop i) (by rw [List.length_drop]; omega)
  rw [e, Option.bind_some]
  dsimp only
  unfold unitL
  rw [rune_N]
  simp only [dN, getD_drop8, List.length_drop, Nat.add_zero, Nat.zero_add, Nat.sub_zero]

end Go.Proofs.YtbkackmlmccpjaaDoorLg

set_option linter.all false
namespace Go.Proofs.YtbkackmlmccpjaaDoorLg
open Go Go.Lift Go.Lib Go.Proofs.YtbkackmlmccpjaaDoorPx

def tl (b : Nat) : Bool := decide (128 ≤ b ∧ b ≤ 191)
def allT (s : List UInt8) : Nat → Nat → Bool
  | _, 0 => true
  | a, n + 1 => tl (s.getD a 0).toNat && allT s (a + 1) n

theorem trail_eq (N : Nat) {s : List UInt8} {a n : Nat} (ha : a ≤ s.length) (hs : s.length ≤ 10000000) (hn : n ≤ 3) (hN : 8 < N) : porterref10_trail N s (a : Int) (n : Int) = some (decide (a + n ≤ s.length) && allT s a n) := by
  simp only [porterref10_trail, porterref10_trail_p1]
  rw [wrap_in (x := (s.length : Int) - (a : Int)) (by unfold I64; omega)]
  by_cases h : a + n ≤ s.length
  case neg => rw [cond_t (dec_t (by omega)), dec_f h]; rfl
  rw [cond_f (dec_f (by omega)), dec_t h, Bool.true_and]
  rw [iter_eq (I := fun (v : Int) => ∃ j : Nat, v = ((a + j : Nat) : Int) ∧ j ≤ n) (m := fun v => a + n - v.toNat) (R := fun v => some (allT s v.toNat (a + n - v.toNat))) ?_ N (a : Int) ⟨0, rfl, by omega⟩ (by simp; omega)]
  · rw [Int.toNat_natCast, show a + n - a = n by omega]
  rintro v r ⟨j, rfl, hj⟩ hr
  rw [Int.toNat_natCast] at hr ⊢
  simp only [porterref10_trail_s1, porterref10_trail_p2, porterref10_trail_p3]
  rw [wrap_in (x := (a : Int) + (n : Int)) (by unfold I64; omega)]
  by_cases hlt : j < n
  · rw [cond_t (dec_t (by omega)), cond_t (inR_nat (by omega)), cond_t (inR_nat (by omega)), Int.toNat_natCast, show a + n - (a + j) = (n - (j + 1)) + 1 by omega]
    simp only [allT]
    by_cases h1 : (s.getD (a + j) 0).toNat < 128
    · rw [cond_t (dec_t (by omega)), tl, dec_f (by omega)]; rfl
    rw [cond_f (dec_f (by omega))]
    by_cases h2 : 191 < (s.getD (a + j) 0).toNat
    · rw [cond_t (dec_t (by omega)), tl, dec_f (by omega)]; rfl
    rw [cond_f (dec_f (by omega)), wrap_in (x := ((a + j : Nat) : Int) + 1) (by unfold I64; omega)]
    have := hr (((a + j : Nat) : Int) + 1) ⟨j + 1, by omega, by omega⟩ (by omega)
    rw [this, show (((a + j : Nat) : Int) + 1).toNat = a + j + 1 by omega, show a + n - (a + j + 1) = n - (j + 1) by omega, tl, dec_t (by omega), Bool.true_and]
  · rw [cond_f (dec_f (by omega)), show a + n - (a + j) = 0 by omega]; rfl

theorem rl_cases {n b0 b1 b2 b3 : Nat} (h0 : b0 < 256) (h1 : b1 < 256) (h2 : b2 < 256) (h3 : b3 < 256) (hb : 128 ≤ b0) :
    ((decodeN n b0 b1 b2 b3).2 = 2 ↔ (194 ≤ b0 ∧ b0 ≤ 223 ∧ 1 < n ∧ 128 ≤ b1 ∧ b1 ≤ 191)) ∧
    ((decodeN n b0 b1 b2 b3).2 = 3 ↔ (224 ≤ b0 ∧ b0 ≤ 239 ∧ 2 < n ∧ (128 ≤ b1 ∧ b1 ≤ 191) ∧ (128 ≤ b2 ∧ b2 ≤ 191) ∧ (b0 ≠ 224 ∨ 160 ≤ b1) ∧ (b0 ≠ 237 ∨ b1 < 160))) ∧
    ((decodeN n b0 b1 b2 b3).2 = 4 ↔ (240 ≤ b0 ∧ b0 ≤ 244 ∧ 3 < n ∧ (128 ≤ b1 ∧ b1 ≤ 191) ∧ (128 ≤ b2 ∧ b2 ≤ 191) ∧ (128 ≤ b3 ∧ b3 ≤ 191) ∧ (b0 ≠ 240 ∨ 144 ≤ b1) ∧ (b0 ≠ 244 ∨ b1 < 144))) ∧
    ((decodeN n b0 b1 b2 b3).2 = 1 ∨ (decodeN n b0 b1 b2 b3).2 = 2 ∨ (decodeN n b0 b1 b2 b3).2 = 3 ∨ (decodeN n b0 b1 b2 b3).2 = 4) := by
  generalize hd : decodeN n b0 b1 b2 b3 = d
  unfold decodeN at hd
  repeat' split at hd
  all_goals (subst hd; dsimp only; omega)

def rl (s : List UInt8) (i : Nat) : Nat := if (s.getD i 0).toNat < 128 then 1 else if unitL s i = 1 then 0 else unitL s i

theorem rune_p3 (N : Nat) (s : List UInt8) (a b nx : Int) (t : Bool) (k0 : Bool → Option Int) (h : porterref10_trail N s (IntKind.wrap .i64 (a + 1)) 1 = some t) : porterref10_Rune_p3 N s a b nx k0 = k0 (decide (194 ≤ b ∧ b ≤ 223) && t) := by
  simp only [porterref10_Rune_p3, h, Option.bind_some]
  by_cases h1 : 194 ≤ b
  · rw [cond_t (dec_t h1)]
    by_cases h2 : b ≤ 223
    · rw [cond_t (dec_t h2), dec_t ⟨h1, h2⟩, Bool.true_and]
    · rw [cond_f (dec_f h2), dec_f (fun e => h2 e.2), Bool.false_and]
  · rw [cond_f (dec_f h1), dec_f (fun e => h1 e.1), Bool.false_and]

theorem rune_p5 (N : Nat) (s : List UInt8) (a b nx : Int) (t : Bool) (k0 : Bool → Option Int) (h : porterref10_trail N s (IntKind.wrap .i64 (a + 1)) 2 = some t) : porterref10_Rune_p5 N s a b nx k0 = k0 (decide ((224 ≤ b ∧ b ≤ 239) ∧ t = true ∧ (b ≠ 224 ∨ 160 ≤ nx) ∧ (b ≠ 237 ∨ nx < 160))) := by
  simp only [porterref10_Rune_p5, h, Option.bind_some]
  by_cases h1 : 224 ≤ b
  case neg => rw [cond_f (dec_f h1), dec_f (fun e => h1 e.1.1)]
  rw [cond_t (dec_t h1)]
  by_cases h2 : b ≤ 239
  case neg => rw [cond_f (dec_f h2), dec_f (fun e => h2 e.1.2)]
  rw [cond_t (dec_t h2)]
  cases t with
  | false => rw [cond_false, dec_f (fun e => by simp at e)]
  | true =>
    rw [cond_true]
    by_cases h3 : b = 224
    · subst h3
      rw [cond_f (by rfl)]
      by_cases h4 : 160 ≤ nx
      · rw [cond_t (dec_t h4), cond_t (by rfl), dec_t ⟨by omega, rfl, by omega, by omega⟩]
      · rw [cond_f (dec_f h4), dec_f (fun e => by have := e.2.2; omega)]
    · rw [cond_t (by rw [bne_iff_ne]; exact h3)]
      by_cases h4 : b = 237
      · subst h4
        rw [cond_f (by rfl)]
        by_cases h5 : nx < 160
        · rw [dec_t h5, dec_t ⟨by omega, rfl, by omega, by omega⟩]
        · rw [dec_f h5, dec_f (fun e => by have := e.2.2; omega)]
      · rw [cond_t (by rw [bne_iff_ne]; exact h4), dec_t ⟨by omega, rfl, by omega, by omega⟩]

theorem rune_p6 (N : Nat) (s : List UInt8) (a b nx : Int) (t : Bool) (k0 : Bool → Option Int) (h : porterref10_trail N s (IntKind.wrap .i64 (a + 1)) 3 = some t) : porterref10_Rune_p6 N s a b nx k0 = k0 (decide ((240 ≤ b ∧ b ≤ 244) ∧ t = true ∧ (b ≠ 240 ∨ 144 ≤ nx) ∧ (b ≠ 244 ∨ nx < 144))) := by
  simp only [porterref10_Rune_p6, h, Option.bind_some]
  by_cases h1 : 240 ≤ b
  case neg => rw [cond_f (dec_f h1), dec_f (fun e => h1 e.1.1)]
  rw [cond_t (dec_t h1)]
  by_cases h2 : b ≤ 244
  case neg => rw [cond_f (dec_f h2), dec_f (fun e => h2 e.1.2)]
  rw [cond_t (dec_t h2)]
  cases t with
  | false => rw [cond_false, dec_f (fun e => by simp at e)]
  | true =>
    rw [cond_true]
    by_cases h3 : b = 240
    · subst h3
      rw [cond_f (by rfl)]
      by_cases h4 : 144 ≤ nx
      · rw [cond_t (dec_t h4), cond_t (by rfl), dec_t ⟨by omega, rfl, by omega, by omega⟩]
      · rw [cond_f (dec_f h4), dec_f (fun e => by have := e.2.2; omega)]
    · rw [cond_t (by rw [bne_iff_ne]; exact h3)]
      by_cases h4 : b = 244
      · subst h4
        rw [cond_f (by rfl)]
        by_cases h5 : nx < 144
        · rw [dec_t h5, dec_t ⟨by omega, rfl, by omega, by omega⟩]
        · rw [dec_f h5, dec_f (fun e => by have := e.2.2; omega)]
      · rw [cond_t (by rw [bne_iff_ne]; exact h4), dec_t ⟨by omega, rfl, by omega, by omega⟩]

theorem rune_p1 (N : Nat) {s : List UInt8} {i : Nat} (hi : i < s.length) (hs : s.length ≤ 10000000) (b nx : Int) (hnx : nx = 0) (k0 : Int → Option Int) : porterref10_Rune_p1 N s (i : Int) b nx k0 = k0 (((s.getD (i + 1) 0).toNat : Nat) : Int) := by
  simp only [porterref10_Rune_p1]
  rw [wrap_succ (by omega)]
  by_cases h : i + 1 < s.length
  · rw [cond_t (dec_t (by omega)), cond_t (inR_nat h), Int.toNat_natCast, wrap64_byte]
  · rw [cond_f (dec_f (by omega)), hnx, List.getD_eq_getElem?_getD, List.getElem?_eq_none (by omega)]; rfl

theorem refRune_eq (N : Nat) {s : List UInt8} {i : Nat} (hi : i < s.length) (hs : s.length ≤ 10000000) (hN : 8 < N) : porterref10_Rune N s (i : Int) = some ((rl s i : Nat) : Int) := by
  have hb0 := u8_lt (s.getD i 0)
  have hb1 := u8_lt (s.getD (i + 1) 0)
  have hb2 := u8_lt (s.getD (i + 2) 0)
  have hb3 := u8_lt (s.getD (i + 3) 0)
  have hw : IntKind.wrap .i64 ((i : Int) + 1) = ((i + 1 : Nat) : Int) := wrap_succ (by omega)
  have t1 : porterref10_trail N s (IntKind.wrap .i64 ((i : Int) + 1)) 1 = some (decide (i + 1 + 1 ≤ s.length) && allT s (i + 1) 1) := by rw [hw]; exact trail_eq N (n := 1) (by omega) hs (by omega) hN
  have t2 : porterref10_trail N s (IntKind.wrap .i64 ((i : Int) + 1)) 2 = some (decide (i + 1 + 2 ≤ s.length) && allT s (i + 1) 2) := by rw [hw]; exact trail_eq N (n := 2) (by omega) hs (by omega) hN
  have t3 : porterref10_trail N s (IntKind.wrap .i64 ((i : Int) + 1)) 3 = some (decide (i + 1 + 3 ≤ s.length) && allT s (i + 1) 3) := by rw [hw]; exact trail_eq N (n := 3) (by omega) hs (by omega) hN
  simp only [porterref10_Rune]
  rw [cond_t (inR_nat hi), Int.toNat_natCast, wrap64_byte]
  by_cases ha : (s.getD i 0).toNat < 128
  · rw [cond_t (dec_t (by omega)), rl, if_pos ha]; rfl
  rw [cond_f (dec_f (by omega)), rune_p1 N hi hs _ _ rfl]
  simp only [porterref10_Rune_p2, porterref10_Rune_p4]
  rw [rune_p3 N s _ _ _ _ _ t1, rune_p5 N s _ _ _ _ _ t2, rune_p6 N s _ _ _ _ _ t3]
  have hc := rl_cases (n := s.length - i) hb0 hb1 hb2 hb3 (by omega)
  have hu : unitL s i = (decodeN (s.length - i) (s.getD i 0).toNat (s.getD (i + 1) 0).toNat (s.getD (i + 2) 0).toNat (s.getD (i + 3) 0).toNat).2 := by unfold unitL; rw [rune_N]
  rw [← hu] at hc
  rw [rl, if_neg ha]
  simp only [allT, tl, Bool.and_true, Bool.and_eq_true, decide_eq_true_eq, show i + 1 + 1 = i + 2 by omega, show i + 2 + 1 = i + 3 by omega] at *
  obtain ⟨c2, c3, c4, c1⟩ := hc
  generalize (s.getD i 0).toNat = b0 at *
  generalize (s.getD (i + 1) 0).toNat = b1 at *
  generalize (s.getD (i + 2) 0).toNat = b2 at *
  generalize (s.getD (i + 3) 0).toNat = b3 at *
  generalize unitL s i = u at *
  by_cases p2 : 194 ≤ b0 ∧ b0 ≤ 223 ∧ 1 < s.length - i ∧ 128 ≤ b1 ∧ b1 ≤ 191
  · have := c2.2 p2
    rw [cond_t (by simp only [Bool.and_eq_true, decide_eq_true_eq]; omega), this]; rfl
  rw [cond_f (by rw [Bool.eq_false_iff]; simp only [ne_eq, Bool.and_eq_true, decide_eq_true_eq]; omega)]
  by_cases p3 : 224 ≤ b0 ∧ b0 ≤ 239 ∧ 2 < s.length - i ∧ (128 ≤ b1 ∧ b1 ≤ 191) ∧ (128 ≤ b2 ∧ b2 ≤ 191) ∧ (b0 ≠ 224 ∨ 160 ≤ b1) ∧ (b0 ≠ 237 ∨ b1 < 160)
  · have := c3.2 p3
    rw [cond_t (by rw [decide_eq_true_eq]; omega), this]; rfl
  rw [cond_f (by rw [decide_eq_false_iff_not]; omega)]
  by_cases p4 : 240 ≤ b0 ∧ b0 ≤ 244 ∧ 3 < s.length - i ∧ (128 ≤ b1 ∧ b1 ≤ 191) ∧ (128 ≤ b2 ∧ b2 ≤ 191) ∧ (128 ≤ b3 ∧ b3 ≤ 191) ∧ (b0 ≠ 240 ∨ 144 ≤ b1) ∧ (b0 ≠ 244 ∨ b1 < 144)
  · have := c4.2 p4
    rw [cond_t (by rw [decide_eq_true_eq]; omega), this]; rfl
  rw [cond_f (by rw [decide_eq_false_iff_not]; omega)]
  have : u = 1 := by
    rcases c1 with h | h | h | h
    · exact h
    · exact absurd (c2.1 h) p2
    · exact absurd (c3.1 h) p3
    · exact absurd (c4.1 h) p4
  rw [if_pos this]; rfl

theorem unitL_pos {s : List UInt8} {i : Nat} (hi : i < s.length) : 1 ≤ unitL s i ∧ i + unitL s i ≤ s.length := by
  unfold unitL
  by_cases h : (s.getD i 0).toNat < 128
  · rw [rune_ascii h]; dsimp only; omega
  · have := rune_high hi (by omega); exact ⟨this.2.1, this.2.2.1⟩

theorem unit_ascii {s : List UInt8} {i : Nat} (h : (s.getD i 0).toNat < 128) : unitL s i = 1 := by unfold unitL; rw [rune_ascii h]

theorem refUnit_eq (N : Nat) {s : List UInt8} {i : Nat} (hi : i < s.length) (hs : s.length ≤ 10000000) (hN : 8 < N) : porterref10_Unit N s (i : Int) = some ((unitL s i : Nat) : Int) := by
  simp only [porterref10_Unit, porterref10_Unit_p1, porterref10_Unit_p2]
  rw [cond_f (dec_f (by omega)), cond_f (dec_f (by omega)), refRune_eq N hi hs hN, Option.bind_some, rl]
  have := unitL_pos hi
  by_cases h : (s.getD i 0).toNat < 128
  · rw [if_pos h, unit_ascii h]; rfl
  · rw [if_neg h]
    by_cases h1 : unitL s i = 1
    · rw [if_pos h1, h1]; rfl
    · rw [if_neg h1, cond_f (by rw [beq_eq_false_iff_ne]; omega)]

end Go.Proofs.YtbkackmlmccpjaaDoorLg

set_option linter.all false
namespace Go.Proofs.YtbkackmlmccpjaaDoorLg
open Go Go.Lift Go.Lib Go.Proofs.YtbkackmlmccpjaaDoorPx

def hexDigits : List UInt8 := [48, 49, 50, 51, 52, 53, 54, 55, 56, 57, 97, 98, 99, 100, 101, 102]
def hd (n : Nat) : UInt8 := hexDigits.getD n 0

def hexL : List UInt8 → List UInt8
  | [] => []
  | u :: r => hd (u.toNat / 16) :: hd (u.toNat % 16) :: hexL r

theorem shr4 (n : Nat) : shrI .u8 ((n : Nat) : Int) 4 = ((n / 16 : Nat) : Int) := by
  have : shrI .u8 ((n : Nat) : Int) 4 = ((n : Nat) : Int).fdiv 16 := rfl
  rw [this, Int.fdiv_eq_ediv_of_nonneg _ (by omega)]; rfl

theorem and15 (u : UInt8) : bitsOp .and .u8 ((u.toNat : Nat) : Int) 15 = ((u.toNat % 16 : Nat) : Int) := by
  have := and_u8 u 15
  rw [show (((15 : UInt8).toNat : Nat) : Int) = 15 from rfl] at this
  rw [this, UInt8.toNat_and]
  congr 1
  exact Nat.and_two_pow_sub_one_eq_mod u.toNat 4

theorem refHex_eq (N : Nat) {s : List UInt8} (hs : s.length ≤ 10000000000) (hN : s.length < N) : porterref02_Hex N s = some (hexL s) := by
  simp only [porterref02_Hex, porterref02_Hex_p1]
  rw [iter_eq (I := fun (v : List UInt8 × Int) => v.1.length = 2 * v.2.toNat ∧ 0 ≤ v.2 ∧ v.2 ≤ ((s.length : Nat) : Int)) (m := fun (v : List UInt8 × Int) => s.length - v.2.toNat)
    (R := fun (v : List UInt8 × Int) => some (v.1 ++ hexL (s.drop v.2.toNat))) ?_ N _ ⟨by simp, by dsimp only; omega, by dsimp only; omega⟩ (by simpa using hN)]
  · simp
  rintro ⟨out, v⟩ r ⟨hl, h0, h1⟩ hr
  dsimp only at *
  obtain ⟨i, rfl⟩ := Int.eq_ofNat_of_zero_le h0
  simp only [porterref02_Hex_s1, Int.toNat_natCast] at *
  by_cases hlt : i < s.length
  · have hb := u8_lt (s.getD i 0)
    have hq : ((((s.getD i 0).toNat : Nat) : Int)).tdiv 16 = (((s.getD i 0).toNat / 16 : Nat) : Int) := by rw [Int.tdiv_eq_ediv_of_nonneg (by omega)]; omega
    have hm : ((((s.getD i 0).toNat : Nat) : Int)).tmod 16 = (((s.getD i 0).toNat % 16 : Nat) : Int) := by rw [Int.tmod_eq_emod_of_nonneg (by omega)]; omega
    have one : ∀ k, k < 16 → cut hexDigits k (k + 1) = [hd k] := by decide
    have e1 : ∀ k : Nat, k < 16 → IntKind.wrap .i64 ((k : Int) + 1) = ((k + 1 : Nat) : Int) := fun k hk => wrap_succ (by omega)
    have hwq : IntKind.wrap .i64 ((((s.getD i 0).toNat / 16 : Nat)) : Int) = ((((s.getD i 0).toNat / 16 : Nat)) : Int) := wrap_in (by unfold I64; omega)
    have e2 := e1 ((s.getD i 0).toNat / 16) (by omega)
    have e3 := e1 ((s.getD i 0).toNat % 16) (by omega)
    rw [cond_t (dec_t (by omega)), cond_t (inR_nat hlt), cond_t (inR_nat hlt)]
    simp only [wrap64_byte, hq, hm, hwq, e2, e3, Int.toNat_natCast]
    have hc1 := one ((s.getD i 0).toNat / 16) (by omega)
    have hc2 := one ((s.getD i 0).toNat % 16) (by omega)
    have hlen : hexDigits.length = 16 := rfl
    unfold hexDigits at hc1 hc2 hlen
    simp only [hlen]
    rw [hc1, hc2, cond_t (dec_t ⟨by omega, by omega⟩), cond_t (dec_t ⟨by omega, by omega⟩), cond_t (dec_t (by simp; omega)), cond_t (dec_t ⟨by omega, by omega⟩), cond_t (dec_t ⟨by omega, by omega⟩), cond_t (dec_t (by simp; omega)), wrap_succ (by omega), hr _ ⟨by simp; omega, by omega, by omega⟩ (by dsimp only; omega), drop_cons s 0 i hlt]
    simp only [Int.toNat_natCast, hexL, List.append_assoc, List.cons_append, List.nil_append]
  · rw [cond_f (dec_f (by omega)), drop_nil' s (by omega)]
    simp [hexL]


def safeL (s : List UInt8) (i : Nat) : Bool := decide (0 < rl s i ∧ 32 ≤ (s.getD i 0).toNat ∧ (s.getD i 0).toNat ≠ 127)

theorem safe_eq (N : Nat) {s : List UInt8} {i : Nat} (hi : i < s.length) (hs : s.length ≤ 10000000) (hN : 8 < N) : porterref10_safe N s (i : Int) = some (safeL s i) := by
  simp only [porterref10_safe]
  rw [refRune_eq N hi hs hN, Option.bind_some]
  by_cases h : 0 < rl s i
  case neg => rw [cond_f (dec_f (by omega)), safeL, dec_f (fun e => h e.1)]
  rw [cond_t (dec_t (by omega)), cond_t (inR_nat hi), cond_t (inR_nat hi), Int.toNat_natCast]
  by_cases h2 : 32 ≤ (s.getD i 0).toNat
  case neg => rw [cond_f (dec_f (by omega)), safeL, dec_f (fun e => h2 e.2.1)]
  rw [cond_t (dec_t (by omega))]
  by_cases h3 : (s.getD i 0).toNat = 127
  · rw [h3, safeL, dec_f (fun e => e.2.2 h3)]; rfl
  · rw [safeL, dec_t ⟨h, h2, h3⟩]
    congr 1; rw [bne_iff_ne]; omega

theorem bad_rune {s : List UInt8} {i : Nat} (h : 128 ≤ (s.getD i 0).toNat) (h1 : unitL s i = 1) : (runeAt s i).1 = 65533 := by
  unfold unitL at h1
  rw [rune_N] at h1 ⊢
  rcases decodeN_shape (s.length - i) (s.getD i 0).toNat (s.getD (i + 1) 0).toNat (s.getD (i + 2) 0).toNat (s.getD (i + 3) 0).toNat with ⟨h0, e⟩ | ⟨_, _, _, _, e⟩ | ⟨_, _, _, _, _, _, e⟩ | ⟨_, _, _, _, _, _, _, e⟩ | e
  · omega
  · rw [e] at h1; simp at h1
  · rw [e] at h1; simp at h1
  · rw [e] at h1; simp at h1
  · rw [e]

theorem plain_eq (N : Nat) {s : List UInt8} {i : Nat} (hi : i < s.length) : quote_plain N s (i : Int) (((runeAt s i).1 : Nat) : Int) = some (safeL s i) := by
  simp only [quote_plain, quote_plain_p1, quote_plain_p2]
  by_cases h : (s.getD i 0).toNat < 128
  · rw [rune_ascii h]
    dsimp only
    rw [cond_f (by rw [beq_eq_false_iff_ne]; omega), cond_false]
    by_cases h2 : 32 ≤ (s.getD i 0).toNat
    case neg => rw [cond_f (dec_f (by omega)), safeL, dec_f (fun e => h2 e.2.1)]
    rw [cond_t (dec_t (by omega))]
    by_cases h3 : (s.getD i 0).toNat = 127
    · rw [h3, safeL, dec_f (fun e => e.2.2 h3)]; rfl
    · rw [safeL, dec_t ⟨by rw [rl, if_pos h]; omega, h2, h3⟩]
      congr 1; rw [bne_iff_ne]; omega
  · have hr := rune_high hi (by omega)
    have hp := unitL_pos hi
    rw [unit_eq N hi, Option.bind_some]
    by_cases h1 : unitL s i = 1
    · have hsf : safeL s i = false := dec_f (fun e => by have h0 := e.1; rw [rl, if_neg h, if_pos h1] at h0; omega)
      rw [bad_rune (by omega) h1, h1, hsf]; rfl
    · have hf : (((unitL s i : Nat) : Int) == 1) = false := by rw [beq_eq_false_iff_ne]; omega
      have hsf : safeL s i = true := dec_t ⟨by rw [rl, if_neg h, if_neg h1]; omega, by omega, by omega⟩
      have tail : (cond (decide ((32 : Int) ≤ (((runeAt s i).1 : Nat) : Int))) (some ((((runeAt s i).1 : Nat) : Int) != 127)) (some false)) = some true := by
        rw [cond_t (dec_t (by omega))]; congr 1; rw [bne_iff_ne]; omega
      rw [hf, hsf]
      simp only [cond_false]
      rw [tail]
      cases ((((runeAt s i).1 : Nat) : Int) == 65533) <;> rfl

def piece (s : List UInt8) (i : Nat) : List UInt8 :=
  cond ((s.getD i 0).toNat == 34 || (s.getD i 0).toNat == 92) [92, s.getD i 0] (cond (safeL s i) ((s.drop i).take (unitL s i)) [92, 120, hd ((s.getD i 0).toNat / 16), hd ((s.getD i 0).toNat % 16)])
def textR (s : List UInt8) : Nat → Nat → List UInt8
  | 0, _ => []
  | f + 1, i => cond (decide (i < s.length)) (piece s i ++ textR s f (i + unitL s i)) []

theorem textR_fuel (s : List UInt8) : ∀ (f f' i : Nat), s.length - i ≤ f → s.length - i ≤ f' → textR s f i = textR s f' i
  | 0, f', i, h, h' => by
    cases f' with
    | zero => rfl
    | succ f' => simp only [textR]; rw [dec_f (by omega)]; rfl
  | f + 1, 0, i, h, h' => by simp only [textR]; rw [dec_f (by omega)]; rfl
  | f + 1, f' + 1, i, h, h' => by
    simp only [textR]
    by_cases hi : i < s.length
    · have := unitL_pos hi
      rw [textR_fuel s f f' (i + unitL s i) (by omega) (by omega)]
    · rw [dec_f hi]; rfl

def textS (s : List UInt8) (i : Nat) : List UInt8 := textR s s.length i
theorem textS_step {s : List UInt8} {i : Nat} (hi : i < s.length) : textS s i = piece s i ++ textS s (i + unitL s i) := by
  have := unitL_pos hi
  unfold textS
  rw [textR_fuel s s.length (s.length + 1) i (by omega) (by omega)]
  simp only [textR]
  rw [dec_t hi]; rfl
theorem textS_end {s : List UInt8} {i : Nat} (hi : s.length ≤ i) : textS s i = [] := by
  unfold textS
  cases h : s.length with
  | zero => rfl
  | succ n => simp only [textR]; rw [dec_f (by omega)]; rfl

theorem piece_length {s : List UInt8} {i : Nat} (hi : i < s.length) : (piece s i).length ≤ 4 * unitL s i := by
  have := unitL_pos hi
  unfold piece
  cases ((s.getD i 0).toNat == 34 || (s.getD i 0).toNat == 92)
  · cases safeL s i
    · simp; omega
    · simp; omega
  · simp; omega

theorem ofStr_append (a b : List UInt8) : ofStr (a ++ b) = ofStr a ++ ofStr b := by simp [ofStr]

theorem text_eq (N : Nat) {s : List UInt8} (hs : s.length ≤ 2000) (hN : 2001 < N) : quote_Text N s = some (34 :: (textS s 0 ++ [34])) := by
  simp only [quote_Text, quote_Text_p1]
  rw [iter_eq (I := fun (v : List Int × (List UInt8 × Nat)) => ∃ (o : List UInt8) (i : Nat), v = (ofStr o, (s, i)) ∧ i ≤ s.length ∧ o.length ≤ 4 * i + 1 ∧ o ++ textS s i = 34 :: textS s 0) (m := fun v => s.length - v.2.2) (R := fun _ => some (34 :: (textS s 0 ++ [34]))) ?_ N ([34], (s, 0)) ⟨[34], 0, rfl, by omega, by simp, rfl⟩ (by dsimp only; omega)]
  rintro v r ⟨o, i, rfl, hi, ho, hT⟩ hr
  dsimp only at hr ⊢
  simp only [quote_Text_s1, quote_Text_p2]
  by_cases hlt : i < s.length
  · have hu := unitL_pos hlt
    have hpl := piece_length hlt
    have hb := u8_lt (s.getD i 0)
    rw [textS_step hlt] at hT
    have nxt : r (ofStr o ++ ofStr (piece s i), (s, i + (runeAt s i).2)) = some (34 :: (textS s 0 ++ [34])) :=
      hr _ ⟨o ++ piece s i, i + unitL s i, by rw [ofStr_append]; rfl, hu.2, by rw [List.length_append]; omega, by rw [List.append_assoc]; exact hT⟩ (by show s.length - (i + unitL s i) < s.length - i; omega)
    rw [cond_t (dec_t hlt)]
    have hq : ((((runeAt s i).1 : Nat) : Int) == 34) = ((s.getD i 0).toNat == 34) ∧ ((((runeAt s i).1 : Nat) : Int) == 92) = ((s.getD i 0).toNat == 92) := by
      by_cases h : (s.getD i 0).toNat < 128
      · rw [rune_ascii h]
        constructor <;> (rw [Bool.eq_iff_iff, beq_iff_eq, beq_iff_eq]; dsimp only; omega)
      · have := rune_high hlt (by omega)
        constructor <;> (rw [Bool.eq_iff_iff, beq_iff_eq, beq_iff_eq]; omega)
    have main : ∀ b : Bool, b = ((s.getD i 0).toNat == 34 || (s.getD i 0).toNat == 92) →
        (cond b (cond (inR (i : Int) s.length) (cond (decide (((ofStr o).length + 2) * 1 ≤ 70368744177664)) (r (ofStr o ++ [92, (((s.getD (Int.toNat (i : Int)) 0).toNat : Nat) : Int)], (s, i + (runeAt s i).2))) none) none)
          ((quote_plain N s (i : Int) (((runeAt s i).1 : Nat) : Int)).bind fun y => cond y ((quote_Unit N s (i : Int)).bind fun y1 => cond (decide (0 ≤ IntKind.wrap .i64 ((i : Int) + y1) ∧ IntKind.wrap .i64 ((i : Int) + y1) ≤ (s.length : Int))) (cond (decide ((0 : Int) ≤ (i : Int) ∧ (i : Int) ≤ IntKind.wrap .i64 ((i : Int) + y1))) (cond (decide (((ofStr o).length + (ofStr (cut s (Int.toNat (i : Int)) (Int.toNat (IntKind.wrap .i64 ((i : Int) + y1))))).length) * 1 ≤ 70368744177664)) (r (ofStr o ++ ofStr (cut s (Int.toNat (i : Int)) (Int.toNat (IntKind.wrap .i64 ((i : Int) + y1)))), (s, i + (runeAt s i).2))) none) none) none)
            (cond (inR (i : Int) s.length) (cond (inR (shrI .u8 (((s.getD (Int.toNat (i : Int)) 0).toNat : Nat) : Int) 4) 16) (cond (inR (i : Int) s.length) (cond (inR (bitsOp .and .u8 (((s.getD (Int.toNat (i : Int)) 0).toNat : Nat) : Int) 15) 16) (cond (decide (((ofStr o).length + 4) * 1 ≤ 70368744177664)) (r (ofStr o ++ [92, 120, (((hexDigits.getD (Int.toNat (shrI .u8 (((s.getD (Int.toNat (i : Int)) 0).toNat : Nat) : Int) 4)) 0).toNat : Nat) : Int), (((hexDigits.getD (Int.toNat (bitsOp .and .u8 (((s.getD (Int.toNat (i : Int)) 0).toNat : Nat) : Int) 15)) 0).toNat : Nat) : Int)], (s, i + (runeAt s i).2))) none) none) none) none) none))) = some (34 :: (textS s 0 ++ [34])) := by
      intro b hbq
      have hol : (ofStr o).length = o.length := ofStr_length o
      cases b with
      | true =>
        have hpc : piece s i = [92, s.getD i 0] := by unfold piece; rw [← hbq]; rfl
        rw [cond_true, cond_t (inR_nat hlt), cond_t (dec_t (by omega)), Int.toNat_natCast]
        rw [hpc] at nxt; exact nxt
      | false =>
        rw [cond_false, plain_eq N hlt, Option.bind_some]
        cases hsf : safeL s i with
        | true =>
          have hpc : piece s i = (s.drop i).take (unitL s i) := by unfold piece; rw [← hbq, hsf]; rfl
          have hw : IntKind.wrap .i64 ((i : Int) + ((unitL s i : Nat) : Int)) = ((i + unitL s i : Nat) : Int) := by rw [wrap_in (by unfold I64; omega)]; omega
          rw [cond_true, unit_eq N hlt, Option.bind_some, hw, cond_t (dec_t (by omega)), cond_t (dec_t (by omega)), Int.toNat_natCast, Int.toNat_natCast, cut_mid, cond_t (dec_t (by rw [hol, ofStr_length, List.length_take, List.length_drop]; omega))]
          rw [hpc] at nxt; exact nxt
        | false =>
          have hpc : piece s i = [92, 120, hd ((s.getD i 0).toNat / 16), hd ((s.getD i 0).toNat % 16)] := by unfold piece; rw [← hbq, hsf]; rfl
          rw [cond_false, cond_t (inR_nat hlt), Int.toNat_natCast, shr4, and15, cond_t (inR_nat (by omega)), cond_t (inR_nat hlt), cond_t (inR_nat (by omega)), cond_t (dec_t (by omega)), Int.toNat_natCast, Int.toNat_natCast]
          rw [hpc] at nxt; exact nxt
    rw [hq.1, hq.2]
    cases h34 : ((s.getD i 0).toNat == 34) with
    | true => exact main true (by rw [h34]; rfl)
    | false => exact main _ (by rw [h34]; rfl)
  · rw [textS_end (by omega), List.append_nil] at hT
    rw [cond_f (dec_f hlt), cond_t (dec_t (by rw [ofStr_length]; omega)), toStr_append, toStr_ofStr, hT]; rfl

theorem refText_eq (N : Nat) {s : List UInt8} (hs : s.length ≤ 2000) (hN : 2001 < N) : porterref10_Text N s = some (34 :: (textS s 0 ++ [34])) := by
  simp only [porterref10_Text, porterref10_Text_p1]
  rw [iter_eq (I := fun (v : List UInt8 × Int) => ∃ (o : List UInt8) (i : Nat), v = (o, (i : Int)) ∧ i ≤ s.length ∧ o.length ≤ 4 * i + 1 ∧ o ++ textS s i = 34 :: textS s 0) (m := fun v => s.length - v.2.toNat) (R := fun _ => some (34 :: (textS s 0 ++ [34]))) ?_ N ([34], 0) ⟨[34], 0, rfl, by omega, by simp, rfl⟩ (by dsimp only; omega)]
  rintro v r ⟨o, i, rfl, hi, ho, hT⟩ hr
  dsimp only at hr ⊢
  rw [Int.toNat_natCast] at hr
  simp only [porterref10_Text_s1, porterref10_Text_p2, porterref10_Text_p3]
  by_cases hlt : i < s.length
  · have hu := unitL_pos hlt
    have hpl := piece_length hlt
    have hb := u8_lt (s.getD i 0)
    rw [textS_step hlt] at hT
    have hw : IntKind.wrap .i64 ((i : Int) + ((unitL s i : Nat) : Int)) = ((i + unitL s i : Nat) : Int) := by rw [wrap_in (by unfold I64; omega)]; omega
    have nxt : r (o ++ piece s i, ((i + unitL s i : Nat) : Int)) = some (34 :: (textS s 0 ++ [34])) :=
      hr _ ⟨o ++ piece s i, i + unitL s i, rfl, hu.2, by rw [List.length_append]; omega, by rw [List.append_assoc]; exact hT⟩ (by dsimp only; rw [Int.toNat_natCast]; omega)
    have hone : cut s i (i + 1) = [s.getD i 0] := by rw [cut_mid, drop_cons s 0 i hlt]; rfl
    rw [cond_t (dec_t (by omega)), refUnit_eq N hlt (by omega) (by omega), Option.bind_some, hw, wrap_succ (by omega), cond_t (inR_nat hlt), cond_t (inR_nat hlt), Int.toNat_natCast, Int.toNat_natCast, Int.toNat_natCast, hone, safe_eq N hlt (by omega) (by omega), Option.bind_some, refHex_eq N (by simp) (by simp; omega), Option.bind_some]
    have q34 : ((((s.getD i 0).toNat : Nat) : Int) == 34) = ((s.getD i 0).toNat == 34) := by rw [Bool.eq_iff_iff, beq_iff_eq, beq_iff_eq]; omega
    have q92 : ((((s.getD i 0).toNat : Nat) : Int) == 92) = ((s.getD i 0).toNat == 92) := by rw [Bool.eq_iff_iff, beq_iff_eq, beq_iff_eq]; omega
    rw [q34, q92]
    unfold piece at nxt
    cases h34 : ((s.getD i 0).toNat == 34) with
    | true =>
      rw [h34, Bool.true_or] at nxt
      rw [cond_true]
      rw [cond_true] at nxt
      rw [cond_true, cond_t (dec_t (by omega)), cond_t (dec_t (by omega)), cond_t (dec_t (by omega)), cond_t (dec_t (by simp; omega)), List.append_assoc]
      exact nxt
    | false =>
      rw [h34, Bool.false_or] at nxt
      rw [cond_false]
      cases h92 : ((s.getD i 0).toNat == 92) with
      | true =>
        rw [h92] at nxt
        rw [cond_true] at nxt
        rw [cond_true, cond_t (dec_t (by omega)), cond_t (dec_t (by omega)), cond_t (dec_t (by omega)), cond_t (dec_t (by simp; omega)), List.append_assoc]
        exact nxt
      | false =>
        rw [h92, cond_false] at nxt
        rw [cond_false]
        cases hsf : safeL s i with
        | true =>
          rw [hsf, cond_true] at nxt
          rw [cond_true, cond_t (dec_t (by omega)), cond_t (dec_t (by omega)), cut_mid, cond_t (dec_t (by rw [List.length_take, List.length_drop]; omega))]
          exact nxt
        | false =>
          rw [hsf, cond_false] at nxt
          rw [cond_false, cond_t (dec_t (by omega)), cond_t (dec_t (by omega)), cond_t (dec_t (by omega)), cond_t (dec_t (by simp [hexL]; omega)), List.append_assoc]
          exact nxt
  · rw [textS_end (by omega), List.append_nil] at hT
    rw [cond_f (dec_f (by omega)), cond_t (dec_t (by omega)), hT]; rfl

end Go.Proofs.YtbkackmlmccpjaaDoorLg

set_option linter.all false
namespace Go.Proofs.YtbkackmlmccpjaaDoorLg
open Go Go.Lift Go.Lib Go.Proofs.YtbkackmlmccpjaaDoorPx

theorem textS_length {s : List UInt8} : ∀ (n i : Nat), s.length - i ≤ n → (textS s i).length ≤ 4 * (s.length - i)
  | n, i, h => by
    by_cases hi : i < s.length
    · have hu := unitL_pos hi
      have hp := piece_length hi
      cases n with
      | zero => omega
      | succ n =>
        rw [textS_step hi, List.length_append]
        have := textS_length (s := s) n (i + unitL s i) (by omega)
        omega
    · rw [textS_end (by omega)]; simp

end Go.Proofs.YtbkackmlmccpjaaDoorLg

set_option linter.all false
namespace Go.Proofs.YtbkackmlmccpjaaDoorLg
open Go Go.Lift Go.Lib Go.Proofs.YtbkackmlmccpjaaDoorPx

theorem nib : ∀ a b : Fin 16, bitsOp .or .u8 (shlI .u8 (bitsOp .or .u8 (shlI .u8 (0 : Int) 4) (a.1 : Int)) 4) (b.1 : Int) = ((16 * a.1 + b.1 : Nat) : Int) := by decide +kernel

theorem iter_succ {σ β : Type} (step : σ → (σ → Option β) → Option β) (n : Nat) (x : σ) : iter step (n + 1) x = step x (iter step n) := rfl

theorem esc1 (N : Nat) {c : UInt8} {r : List UInt8} (h : c.toNat = 34 ∨ c.toNat = 92) : quote_escape N (c :: r) = some (((c.toNat : Nat) : Int), 1, 0, ()) := by
  have hne : ((c :: r) == ([] : List UInt8)) = false := rfl
  simp only [quote_escape, quote_escape_p1, quote_escape_p2, hne, cond_false, List.getD_cons_zero]
  have hin : inR (0 : Int) (c :: r).length = true := inR_of (by omega) (by simp)
  simp only [hin, cond_true]
  rcases h with h | h
  · rw [cond_t (by rw [beq_iff_eq]; omega)]
  · rw [cond_f (by rw [beq_eq_false_iff_ne]; omega), cond_t (by rw [beq_iff_eq]; omega)]

theorem rune_drop (X : List UInt8) (F i : Nat) : runeAt (X.drop F) i = runeAt X (F + i) := by
  rw [rune_N, rune_N, getD_drop8, getD_drop8, getD_drop8, getD_drop8, List.length_drop, show X.length - F - i = X.length - (F + i) by omega]
  rfl

end Go.Proofs.YtbkackmlmccpjaaDoorLg

set_option linter.all false
namespace Go.Proofs.YtbkackmlmccpjaaDoorLg
open Go Go.Lift Go.Lib Go.Proofs.YtbkackmlmccpjaaDoorPx

inductive Esc where
  | cut | bad | ok (b n : Nat)

def hexD (b : Nat) : Nat := if 48 ≤ b ∧ b ≤ 57 then b - 48 else if 97 ≤ b ∧ b ≤ 102 then b - 87 else 16

def escL : List UInt8 → Esc
  | [] => .cut
  | c :: r => if c.toNat = 34 ∨ c.toNat = 92 then .ok c.toNat 2 else if c.toNat = 120 then (match r with
    | [] => .cut
    | a :: r => if hexD a.toNat < 16 then (match r with
      | [] => .cut
      | b :: _ => if hexD b.toNat < 16 then .ok (16 * hexD a.toNat + hexD b.toNat) 4 else .bad) else .bad) else .bad

theorem escL_cons (c : UInt8) (r : List UInt8) : escL (c :: r) = (if c.toNat = 34 ∨ c.toNat = 92 then .ok c.toNat 2 else if c.toNat = 120 then (match r with
    | [] => .cut
    | a :: r => if hexD a.toNat < 16 then (match r with
      | [] => .cut
      | b :: _ => if hexD b.toNat < 16 then .ok (16 * hexD a.toNat + hexD b.toNat) 4 else .bad) else .bad) else .bad) := rfl

set_option maxRecDepth 10000000 in
theorem dig_all : ∀ b : Fin 256, quote_digit 0 (b.1 : Int) = some (if hexD b.1 < 16 then ((hexD b.1 : Int), true, ()) else (0, false, ())) := by decide +kernel
theorem dig_eq (N : Nat) (u : UInt8) : quote_digit N ((u.toNat : Nat) : Int) = some (if hexD u.toNat < 16 then ((hexD u.toNat : Int), true, ()) else (0, false, ())) := dig_all ⟨u.toNat, u.toNat_lt⟩
set_option maxRecDepth 10000000 in
theorem rdig_all : ∀ b : Fin 256, porterref10_digit 0 (b.1 : Int) = some (if hexD b.1 < 16 then (hexD b.1 : Int) else -1) := by decide +kernel
theorem rdig_eq (N : Nat) (u : UInt8) : porterref10_digit N ((u.toNat : Nat) : Int) = some (if hexD u.toNat < 16 then (hexD u.toNat : Int) else -1) := rdig_all ⟨u.toNat, u.toNat_lt⟩

theorem hexD_ascii {b : Nat} (h : hexD b < 16) : b < 128 := by unfold hexD at h; split at h; · omega
                                                               split at h <;> omega

theorem esc_ok {t : List UInt8} {b n : Nat} (h : escL t = .ok b n) : b < 256 ∧ 2 ≤ n ∧ n - 1 ≤ t.length ∧ ∀ j, j < n - 1 → (t.getD j 0).toNat < 128 := by
  cases t with
  | nil => simp [escL] at h
  | cons c r =>
    simp only [escL] at h
    split at h
    · rename_i hc
      cases h
      refine ⟨by omega, by omega, by simp, fun j hj => ?_⟩
      obtain rfl : j = 0 := by omega
      simp only [List.getD_cons_zero]; omega
    · split at h
      · rename_i hc
        cases r with
        | nil => simp at h
        | cons x r =>
          dsimp only at h
          split at h
          · rename_i hx
            cases r with
            | nil => simp at h
            | cons y r =>
              dsimp only at h
              split at h
              · rename_i hy
                cases h
                refine ⟨by omega, by omega, by simp, fun j hj => ?_⟩
                have := hexD_ascii hx
                have := hexD_ascii hy
                obtain rfl | rfl | rfl : j = 0 ∨ j = 1 ∨ j = 2 := by omega
                · show c.toNat < 128; omega
                · exact hexD_ascii hx
                · exact hexD_ascii hy
              · cases h
          · cases h
      · cases h

def escO : Esc → Int × Int × Int × Unit
  | .cut => (0, 0, 1, ())
  | .bad => (0, 0, 2, ())
  | .ok b n => ((b : Int), ((n - 1 : Nat) : Int), 0, ())

theorem nib' {a b : Nat} (ha : a < 16) (hb : b < 16) : bitsOp .or .u8 (shlI .u8 (bitsOp .or .u8 (shlI .u8 (0 : Int) 4) (a : Int)) 4) (b : Int) = ((16 * a + b : Nat) : Int) := nib ⟨a, ha⟩ ⟨b, hb⟩

theorem esc_eq (k : Nat) (t : List UInt8) : quote_escape (k + 10) t = some (escO (escL t)) := by
  cases t with
  | nil => rfl
  | cons c r =>
    by_cases hq : c.toNat = 34 ∨ c.toNat = 92
    · rw [esc1 _ hq, escL_cons, if_pos hq]; rfl
    have hne : ((c :: r) == ([] : List UInt8)) = false := rfl
    have hin : inR (0 : Int) (c :: r).length = true := inR_of (by omega) (by simp)
    simp only [quote_escape, quote_escape_p1, quote_escape_p2, hne, cond_false, List.getD_cons_zero, hin, cond_true]
    rw [cond_f (by rw [beq_eq_false_iff_ne]; omega), cond_f (by rw [beq_eq_false_iff_ne]; omega)]
    rw [escL_cons, if_neg hq]
    by_cases hx : c.toNat = 120
    case neg => rw [if_neg hx, cond_t (by rw [bne_iff_ne]; omega)]; rfl
    rw [if_pos hx, cond_f (by rw [hx]; rfl)]
    simp only [quote_escape_p3]
    have w1 : IntKind.wrap .i64 ((1 : Int) + 1) = 2 := by kernel_rfl
    have w2 : IntKind.wrap .i64 ((2 : Int) + 1) = 3 := by kernel_rfl
    rw [show k + 10 = (k + 9) + 1 from rfl, iter_succ]
    simp only [quote_escape_s3]
    rw [cond_t (by rfl)]
    cases r with
    | nil => rw [cond_t (by rfl)]; rfl
    | cons a r =>
      have hl : (c :: a :: r).length = r.length + 2 := rfl
      have g1 : List.getD (c :: a :: r) (Int.toNat 1) 0 = a := rfl
      rw [hl, cond_f (by rw [beq_eq_false_iff_ne]; omega), cond_t (inR_of (by omega) (by omega)), g1, dig_eq, Option.bind_some]
      dsimp only
      by_cases ha : hexD a.toNat < 16
      case neg => rw [if_neg ha, if_neg ha]; rfl
      rw [if_pos ha, if_pos ha, w1]
      dsimp only
      rw [cond_f (by rfl), show k + 9 = (k + 8) + 1 from rfl, iter_succ]
      dsimp only
      rw [cond_t (by rfl)]
      cases r with
      | nil => rw [cond_t (by rfl)]; rfl
      | cons b r =>
        have hl2 : (b :: r).length = r.length + 1 := rfl
        have g2 : List.getD (c :: a :: b :: r) (Int.toNat 2) 0 = b := rfl
        rw [hl2, cond_f (by rw [beq_eq_false_iff_ne]; omega), cond_t (inR_of (by omega) (by omega)), g2, dig_eq, Option.bind_some]
        dsimp only
        by_cases hb : hexD b.toNat < 16
        case neg => rw [if_neg hb, if_neg hb]; rfl
        rw [if_pos hb, if_pos hb, w2]
        dsimp only
        rw [cond_f (by rfl), nib' ha hb, show k + 8 = (k + 7) + 1 from rfl, iter_succ]
        dsimp only
        rw [cond_f (by rfl)]; rfl

def escP : Esc → List UInt8 × Int × Unit
  | .cut => ([], -1, ())
  | .bad => ([], 0, ())
  | .ok b n => ([UInt8.ofNat b], (n : Int), ())

theorem refEsc_eq (N : Nat) {s : List UInt8} {i : Nat} (hi : i < s.length) (hs : s.length ≤ 10000000) : porterref10_Escape N s (i : Int) = some (escP (escL (s.drop (i + 1)))) := by
  have hl : (s.drop (i + 1)).length = s.length - (i + 1) := List.length_drop ..
  have hg : ∀ j, s.getD (i + 1 + j) 0 = (s.drop (i + 1)).getD j 0 := fun j => (getD_drop8 s (i + 1) j).symm
  have hcut : cut s (i + 1) (i + 2) = (s.drop (i + 1)).take 1 := cut_mid s (i + 1) 1
  have e1 : IntKind.wrap .i64 ((i : Int) + 1) = ((i + 1 : Nat) : Int) := by rw [wrap_in (by unfold I64; omega)]; omega
  have e2 : IntKind.wrap .i64 ((i : Int) + 2) = ((i + 2 : Nat) : Int) := by rw [wrap_in (by unfold I64; omega)]; omega
  have e3 : IntKind.wrap .i64 ((i : Int) + 3) = ((i + 3 : Nat) : Int) := by rw [wrap_in (by unfold I64; omega)]; omega
  have e0 : IntKind.wrap .i64 ((s.length : Int) - (i : Int)) = ((s.length - i : Nat) : Int) := by rw [wrap_in (by unfold I64; omega)]; omega
  have g0 := hg 0
  have g1 := hg 1
  have g2 := hg 2
  simp only [Nat.add_zero, show i + 1 + 1 = i + 2 from rfl, show i + 1 + 2 = i + 3 from rfl] at g0 g1 g2
  simp only [porterref10_Escape, porterref10_Escape_p1, porterref10_Escape_p2, e0, e1, e2, e3, Int.toNat_natCast, g0, g1, g2, hcut]
  generalize s.drop (i + 1) = t at hl
  cases t with
  | nil => simp only [List.length_nil] at hl; rw [cond_t (dec_t (by omega))]; rfl
  | cons c r =>
    simp only [List.length_cons] at hl
    rw [cond_f (dec_f (by omega)), cond_t (inR_nat (by omega))]
    simp only [List.getD_cons_zero, escL_cons]
    have tail : ∀ b : Bool, b = (c.toNat == 34 || c.toNat == 92) → b = true → (cond b (cond (decide ((0 : Int) ≤ ((i + 2 : Nat) : Int) ∧ ((i + 2 : Nat) : Int) ≤ (s.length : Int))) (cond (decide ((0 : Int) ≤ ((i + 1 : Nat) : Int) ∧ ((i + 1 : Nat) : Int) ≤ ((i + 2 : Nat) : Int))) (some (List.take 1 (c :: r), ((2 : Int), ()))) none) none) (none : Option (List UInt8 × Int × Unit))) = some ([UInt8.ofNat c.toNat], (2 : Int), ()) := by
      intro b _ hb
      rw [hb, cond_true, cond_t (dec_t (by omega)), cond_t (dec_t (by omega))]; simp
    by_cases hq : c.toNat = 34 ∨ c.toNat = 92
    · rw [if_pos hq]
      have hq2 : (cond ((((c.toNat : Nat) : Int)) == 34) true (((c.toNat : Nat) : Int) == 92)) = true := by
        rcases hq with h | h <;> rw [h] <;> rfl
      rcases hq with h | h
      · rw [cond_t (by rw [h]; rfl), cond_true, cond_t (dec_t (by omega)), cond_t (dec_t (by omega))]; simp [escP]
      · rw [cond_f (by rw [h]; rfl), cond_t (inR_nat (by omega)), cond_t (by rw [h]; rfl), cond_t (dec_t (by omega)), cond_t (dec_t (by omega))]; simp [escP]
    rw [if_neg hq, cond_f (by rw [beq_eq_false_iff_ne]; omega), cond_t (inR_nat (by omega)), cond_f (by rw [beq_eq_false_iff_ne]; omega), cond_t (inR_nat (by omega))]
    by_cases hx : c.toNat = 120
    case neg => rw [if_neg hx, cond_t (by rw [bne_iff_ne]; omega)]; rfl
    rw [if_pos hx, cond_f (by rw [hx]; rfl)]
    cases r with
    | nil => simp only [List.length_nil] at hl; rw [cond_t (dec_t (by omega))]; rfl
    | cons a r =>
      simp only [List.length_cons] at hl
      rw [cond_f (dec_f (by omega)), cond_t (inR_nat (by omega))]
      have g1 : List.getD (c :: a :: r) 1 0 = a := rfl
      rw [g1, rdig_eq, Option.bind_some]
      dsimp only
      by_cases ha : hexD a.toNat < 16
      case neg => rw [if_neg ha, if_neg ha]; rfl
      rw [if_pos ha, if_pos ha, cond_f (dec_f (by omega))]
      cases r with
      | nil => simp only [List.length_nil] at hl; rw [cond_t (dec_t (by omega))]; rfl
      | cons b r =>
        simp only [List.length_cons] at hl
        have g2 : List.getD (c :: a :: b :: r) 2 0 = b := rfl
        rw [cond_f (dec_f (by omega)), cond_t (inR_nat (by omega)), g2, rdig_eq, Option.bind_some]
        dsimp only
        by_cases hb : hexD b.toNat < 16
        case neg => rw [if_neg hb, if_neg hb]; rfl
        rw [if_pos hb, if_pos hb, cond_f (dec_f (by omega))]
        have w1 : IntKind.wrap .i64 ((16 : Int) * ((hexD a.toNat : Nat) : Int)) = ((16 * hexD a.toNat : Nat) : Int) := by rw [wrap_in (by unfold I64; omega)]; omega
        have w2 : IntKind.wrap .i64 (((16 * hexD a.toNat : Nat) : Int) + ((hexD b.toNat : Nat) : Int)) = ((16 * hexD a.toNat + hexD b.toNat : Nat) : Int) := by rw [wrap_in (by unfold I64; omega)]; omega
        rw [w1, w2, wrap_u8_in (by omega) (by omega)]
        show some (([UInt8.ofNat (Int.toNat ((16 * hexD a.toNat + hexD b.toNat : Nat) : Int))] : List UInt8), _) = _
        rw [Int.toNat_natCast]; rfl

abbrev RdT := List UInt8 × Int × (Int × (Int × Unit)) × Unit

def readR (s : List UInt8) : Nat → Nat → List UInt8 → RdT
  | 0, _, _ => ([], 0, (1, (s.length : Int), ()), ())
  | f + 1, i, out => if i < s.length then
      (if (s.getD i 0).toNat = 34 then (out, ((i + 1 : Nat) : Int), (0, 0, ()), ())
      else if (s.getD i 0).toNat = 92 then (match escL (s.drop (i + 1)) with
        | .cut => ([], 0, (1, (s.length : Int), ()), ())
        | .bad => ([], 0, (2, (i : Int), ()), ())
        | .ok b n => readR s f (i + n) (out ++ [UInt8.ofNat b]))
      else if safeL s i = true then readR s f (i + unitL s i) (out ++ (s.drop i).take (unitL s i))
      else ([], 0, (2, (i : Int), ()), ()))
    else ([], 0, (1, (s.length : Int), ()), ())

theorem readR_fuel (s : List UInt8) : ∀ (f f' i : Nat) (o : List UInt8), s.length - i ≤ f → s.length - i ≤ f' → readR s f i o = readR s f' i o
  | 0, 0, i, o, _, _ => rfl
  | 0, f' + 1, i, o, h, _ => by simp only [readR]; rw [if_neg (by omega)]
  | f + 1, 0, i, o, _, h => by simp only [readR]; rw [if_neg (by omega)]
  | f + 1, f' + 1, i, o, h, h' => by
    simp only [readR]
    by_cases hi : i < s.length
    · rw [if_pos hi, if_pos hi]
      split; · rfl
      split
      · cases he : escL (s.drop (i + 1)) with
        | cut => rfl
        | bad => rfl
        | ok b n =>
          have := esc_ok he
          exact readR_fuel s f f' (i + n) _ (by omega) (by omega)
      split
      · have := unitL_pos hi
        exact readR_fuel s f f' (i + unitL s i) _ (by omega) (by omega)
      · rfl
    · rw [if_neg hi, if_neg hi]

def readS (s : List UInt8) (i : Nat) (o : List UInt8) : RdT := readR s s.length i o

theorem readS_end {s : List UInt8} {i : Nat} {o : List UInt8} (h : s.length ≤ i) : readS s i o = ([], 0, (1, (s.length : Int), ()), ()) := by
  unfold readS
  rw [readR_fuel s s.length 0 i o (by omega) (by omega)]; rfl

theorem readS_step {s : List UInt8} {i : Nat} {o : List UInt8} (h : i < s.length) : readS s i o =
    (if (s.getD i 0).toNat = 34 then (o, ((i + 1 : Nat) : Int), (0, 0, ()), ())
      else if (s.getD i 0).toNat = 92 then (match escL (s.drop (i + 1)) with
        | .cut => ([], 0, (1, (s.length : Int), ()), ())
        | .bad => ([], 0, (2, (i : Int), ()), ())
        | .ok b n => readS s (i + n) (o ++ [UInt8.ofNat b]))
      else if safeL s i = true then readS s (i + unitL s i) (o ++ (s.drop i).take (unitL s i))
      else ([], 0, (2, (i : Int), ()), ())) := by
  have hu := unitL_pos h
  have e : readS s i o = readR s (s.length + 1) i o := readR_fuel s _ _ i o (by omega) (by omega)
  rw [e]
  simp only [readR, readS]
  rw [if_pos h]

theorem toStr_byteN {b : Nat} (h : b < 256) : ofStr [UInt8.ofNat b] = [(b : Int)] := by
  have : (UInt8.ofNat b).toNat = b := by rw [UInt8.toNat_ofNat']; omega
  show [(((UInt8.ofNat b).toNat : Nat) : Int)] = _
  rw [this]

theorem body_any (k : Nat) {X : List UInt8} {F : Nat} (hX : X.length ≤ 300000) (hF : F ≤ X.length) :
    quote_body (k + 1000000) X (F : Int) = some (readS X F []) := by
  have hul : (X.drop F).length = X.length - F := List.length_drop ..
  simp only [quote_body, quote_body_p1]
  rw [cond_t (dec_t (by omega)), Int.toNat_natCast, cut_all]
  rw [iter_eq (I := fun (v : List Int × Int × (List UInt8 × Nat)) => ∃ (idx nx : Nat) (o : List UInt8), v = (ofStr o, (nx : Int), (X.drop F, idx)) ∧ F + idx ≤ X.length ∧ nx ≤ X.length ∧ o.length ≤ max nx (F + idx) ∧ ∀ j, F + idx ≤ j → j < nx → (X.getD j 0).toNat < 128) (m := fun v => X.length - F - v.2.2.2) (R := fun v => some (readS X (max v.2.1.toNat (F + v.2.2.2)) (toStr v.1))) ?_ (k + 1000000) ([], (F : Int), (X.drop F, 0)) ⟨0, F, [], rfl, by omega, by omega, by simp, fun j h1 h2 => by omega⟩ (by dsimp only; omega)]
  · dsimp only
    rw [Int.toNat_natCast, Nat.add_zero, Nat.max_self]; rfl
  rintro v r ⟨idx, nx, o, rfl, hix, hnx, hol, hh⟩ hr
  dsimp only at hr ⊢
  rw [Int.toNat_natCast]
  have hw : IntKind.wrap .i64 ((idx : Int) + (F : Int)) = ((F + idx : Nat) : Int) := by rw [wrap_in (by unfold I64; omega)]; omega
  have hw1 : IntKind.wrap .i64 (((F + idx : Nat) : Int) + 1) = ((F + idx + 1 : Nat) : Int) := wrap_succ (by omega)
  simp only [quote_body_s1, hw, hw1, rune_drop]
  rw [toStr_ofStr]
  by_cases hlt : idx < (X.drop F).length
  case neg =>
    rw [cond_f (dec_f hlt), readS_end (by omega)]
  have hp : F + idx < X.length := by omega
  rw [cond_t (dec_t hlt)]
  by_cases hpn : F + idx < nx
  · rw [cond_t (dec_t (by omega)), rune_ascii (hh _ (Nat.le_refl _) hpn)]
    have := hr (ofStr o, (nx : Int), (X.drop F, idx + 1)) ⟨idx + 1, nx, o, rfl, by omega, by omega, by omega, fun j h1 h2 => hh j (by omega) h2⟩ (by dsimp only; omega)
    rw [this]
    dsimp only
    rw [Int.toNat_natCast, toStr_ofStr, show max nx (F + (idx + 1)) = max nx (F + idx) by omega]
  rw [cond_f (dec_f (by omega)), show max nx (F + idx) = F + idx by omega, readS_step hp]
  have hu := unitL_pos hp
  have hq : ((((runeAt X (F + idx)).1 : Nat) : Int) == 34) = ((X.getD (F + idx) 0).toNat == 34) ∧ ((((runeAt X (F + idx)).1 : Nat) : Int) == 92) = ((X.getD (F + idx) 0).toNat == 92) := by
    by_cases h : (X.getD (F + idx) 0).toNat < 128
    · rw [rune_ascii h]
      constructor <;> (rw [Bool.eq_iff_iff, beq_iff_eq, beq_iff_eq]; dsimp only; omega)
    · have := rune_high hp (by omega)
      constructor <;> (rw [Bool.eq_iff_iff, beq_iff_eq, beq_iff_eq]; omega)
  rw [hq.1, hq.2]
  by_cases h34 : (X.getD (F + idx) 0).toNat = 34
  · rw [if_pos h34, cond_t (by rw [beq_iff_eq]; exact h34)]
  rw [if_neg h34, cond_f (by rw [beq_eq_false_iff_ne]; exact h34)]
  by_cases h92 : (X.getD (F + idx) 0).toNat = 92
  · rw [if_pos h92, cond_t (by rw [beq_iff_eq]; exact h92), cond_t (dec_t (by omega)), Int.toNat_natCast, cut_all, show k + 1000000 = (k + 999990) + 10 from rfl, esc_eq, Option.bind_some]
    have hdl : (X.drop (F + idx + 1)).length = X.length - (F + idx + 1) := List.length_drop ..
    cases he : escL (X.drop (F + idx + 1)) with
    | cut => rfl
    | bad => rfl
    | ok b n =>
      obtain ⟨hb, hn2, hnl, hasc⟩ := esc_ok he
      have hw2 : IntKind.wrap .i64 (((F + idx + 1 : Nat) : Int) + ((n - 1 : Nat) : Int)) = ((F + idx + n : Nat) : Int) := by rw [wrap_in (by unfold I64; omega)]; omega
      simp only [escO, hw2]
      rw [cond_f (by rfl), cond_f (by rfl), cond_t (dec_t (by rw [ofStr_length]; omega)), ← toStr_byteN hb, ← ofStr_append, rune_ascii (by omega)]
      have := hr (ofStr (o ++ [UInt8.ofNat b]), ((F + idx + n : Nat) : Int), (X.drop F, idx + 1)) ⟨idx + 1, F + idx + n, o ++ [UInt8.ofNat b], rfl, by omega, by omega, by simp only [List.length_append, List.length_singleton]; omega, fun j h1 h2 => ?_⟩ (by dsimp only; omega)
      · rw [this]
        dsimp only
        rw [Int.toNat_natCast, toStr_ofStr, show max (F + idx + n) (F + (idx + 1)) = F + idx + n by omega]
      · have := hasc (j - (F + idx + 1)) (by omega)
        rw [getD_drop8, show F + idx + 1 + (j - (F + idx + 1)) = j by omega] at this
        exact this
  rw [if_neg h92, cond_f (by rw [beq_eq_false_iff_ne]; exact h92), plain_eq _ hp, Option.bind_some]
  cases hsf : safeL X (F + idx) with
  | false => rfl
  | true =>
    have hw2 : IntKind.wrap .i64 (((F + idx : Nat) : Int) + ((unitL X (F + idx) : Nat) : Int)) = ((F + idx + unitL X (F + idx) : Nat) : Int) := by rw [wrap_in (by unfold I64; omega)]; omega
    have hpl : ((X.drop (F + idx)).take (unitL X (F + idx))).length = unitL X (F + idx) := by rw [List.length_take, List.length_drop]; omega
    rw [cond_true, unit_eq _ hp, Option.bind_some, hw2, cond_t (dec_t (by omega)), cond_t (dec_t (by omega)), Int.toNat_natCast, Int.toNat_natCast, cut_mid, cond_t (dec_t (by rw [ofStr_length, ofStr_length, hpl]; omega)), ← ofStr_append, if_pos rfl]
    have e : unitL X (F + idx) = (runeAt X (F + idx)).2 := rfl
    have := hr (ofStr (o ++ (X.drop (F + idx)).take (unitL X (F + idx))), (nx : Int), (X.drop F, idx + (runeAt X (F + idx)).2)) ⟨idx + (runeAt X (F + idx)).2, nx, _, rfl, by omega, by omega, by rw [List.length_append, hpl]; omega, fun j h1 h2 => by omega⟩ (by dsimp only; omega)
    rw [this]
    dsimp only
    rw [Int.toNat_natCast, toStr_ofStr, show max nx (F + (idx + (runeAt X (F + idx)).2)) = F + idx + unitL X (F + idx) by omega]

theorem read_eq (k : Nat) {s : List UInt8} {at_ : Nat} (hs : s.length ≤ 300000) (ha : at_ < s.length) (h34 : (s.getD at_ 0).toNat = 34) : quote_Read (k + 1000000) s (at_ : Int) = some (readS s (at_ + 1) []) := by
  have hw1 : IntKind.wrap .i64 ((at_ : Int) + 1) = ((at_ + 1 : Nat) : Int) := wrap_succ (by omega)
  simp only [quote_Read, quote_Read_p1, quote_Read_p2]
  rw [cond_f (dec_f (by omega)), cond_f (dec_f (by omega)), cond_f (by rw [beq_eq_false_iff_ne]; omega), cond_t (inR_nat ha), Int.toNat_natCast, cond_f (by rw [h34]; rfl), hw1, body_any k (by omega) (by omega), Option.bind_some]

theorem refRead_eq (N : Nat) {s : List UInt8} {at_ : Nat} (hs : s.length ≤ 300000) (hN : 300002 < N) (ha : at_ < s.length) (h34 : (s.getD at_ 0).toNat = 34) : porterref10_Read N s (at_ : Int) = some (readS s (at_ + 1) []) := by
  have hw1 : IntKind.wrap .i64 ((at_ : Int) + 1) = ((at_ + 1 : Nat) : Int) := wrap_succ (by omega)
  simp only [porterref10_Read, porterref10_Read_p1, porterref10_Read_p2]
  rw [cond_f (dec_f (by omega)), cond_f (dec_f (by omega)), cond_f (by rw [beq_eq_false_iff_ne]; omega), cond_t (inR_nat ha), Int.toNat_natCast, cond_f (by rw [h34]; rfl), hw1]
  simp only [porterref10_Read_p3]
  rw [iter_eq (I := fun (v : List UInt8 × Int) => ∃ (o : List UInt8) (i : Nat), v = (o, (i : Int)) ∧ i ≤ s.length ∧ o.length ≤ i) (m := fun v => s.length - v.2.toNat) (R := fun v => some (readS s v.2.toNat v.1)) ?_ N ([], ((at_ + 1 : Nat) : Int)) ⟨[], at_ + 1, rfl, by omega, by simp⟩ (by dsimp only; omega)]
  · dsimp only; rw [Int.toNat_natCast]
  rintro v r ⟨o, i, rfl, hi, ho⟩ hr
  dsimp only at hr ⊢
  rw [Int.toNat_natCast] at hr ⊢
  simp only [porterref10_Read_s3, porterref10_Read_p4]
  by_cases hlt : i < s.length
  case neg => rw [cond_f (dec_f (by omega)), readS_end (by omega)]
  have hu := unitL_pos hlt
  rw [cond_t (dec_t (by omega)), cond_t (inR_nat hlt), Int.toNat_natCast, readS_step hlt]
  by_cases h34' : (s.getD i 0).toNat = 34
  · rw [if_pos h34', cond_t (by rw [beq_iff_eq]; omega), wrap_succ (by omega)]
  rw [if_neg h34', cond_f (by rw [beq_eq_false_iff_ne]; omega), cond_t (dec_t (by omega)), cond_t (dec_t (by omega)), cond_t (inR_nat hlt)]
  by_cases h92 : (s.getD i 0).toNat = 92
  · rw [if_pos h92, cond_t (by rw [beq_iff_eq]; omega), refEsc_eq _ hlt (by omega), Option.bind_some]
    have hdl : (s.drop (i + 1)).length = s.length - (i + 1) := List.length_drop ..
    cases he : escL (s.drop (i + 1)) with
    | cut => rfl
    | bad => rfl
    | ok b n =>
      obtain ⟨hb, hn2, hnl, hasc⟩ := esc_ok he
      have hw2 : IntKind.wrap .i64 ((i : Int) + (n : Int)) = ((i + n : Nat) : Int) := by rw [wrap_in (by unfold I64; omega)]; omega
      have hl1 : (escP (.ok b n)).1.length = 1 := rfl
      have hn0 : ¬ ((escP (.ok b n)).2.1 < 0) := by show ¬ ((n : Int) < 0); omega
      have hn1 : ((escP (.ok b n)).2.1 == 0) = false := by show ((n : Int) == 0) = false; rw [beq_eq_false_iff_ne]; omega
      rw [cond_f (dec_f hn0), cond_f hn1, cond_t (dec_t (by rw [hl1]; omega))]
      show r (o ++ [UInt8.ofNat b], IntKind.wrap .i64 ((i : Int) + (n : Int))) = _
      rw [hw2]
      rw [hr (o ++ [UInt8.ofNat b], ((i + n : Nat) : Int)) ⟨_, i + n, rfl, by omega, by simp only [List.length_append, List.length_singleton]; omega⟩ (by dsimp only; omega)]
      dsimp only
      rw [Int.toNat_natCast]
  rw [if_neg h92, cond_f (by rw [beq_eq_false_iff_ne]; omega), safe_eq _ hlt (by omega) (by omega), Option.bind_some]
  cases hsf : safeL s i with
  | false => rfl
  | true =>
    have hrl : rl s i = unitL s i := by
      have h := hsf
      rw [safeL, decide_eq_true_eq] at h
      by_cases hasc : (s.getD i 0).toNat < 128
      · rw [rl, if_pos hasc, unit_ascii hasc]
      · have h0 := h.1
        rw [rl, if_neg hasc] at h0 ⊢
        split at h0
        · omega
        · rename_i hn; rw [if_neg hn]
    have hw2 : IntKind.wrap .i64 ((i : Int) + ((unitL s i : Nat) : Int)) = ((i + unitL s i : Nat) : Int) := by rw [wrap_in (by unfold I64; omega)]; omega
    have hpl : ((s.drop i).take (unitL s i)).length = unitL s i := by rw [List.length_take, List.length_drop]; omega
    rw [cond_true, refRune_eq _ hlt (by omega) (by omega), Option.bind_some, hrl, hw2, cond_t (dec_t (by omega)), cond_t (dec_t (by omega)), Int.toNat_natCast, cut_mid, cond_f (dec_f (by omega)), cond_f (by rw [beq_eq_false_iff_ne]; omega), cond_t (dec_t (by rw [hpl]; omega)), if_pos rfl]
    rw [hr (o ++ (s.drop i).take (unitL s i), ((i + unitL s i : Nat) : Int)) ⟨_, i + unitL s i, rfl, by omega, by rw [List.length_append, hpl]; omega⟩ (by dsimp only; omega)]
    dsimp only
    rw [Int.toNat_natCast]

end Go.Proofs.YtbkackmlmccpjaaDoorLg

set_option linter.all false
set_option maxRecDepth 100000
namespace Go.Proofs.YtbkackmlmccpjaaDoorLg
open Go Go.Lift Go.Proofs.YtbkackmlmccpjaaDoorPx

def partL (x : LabD) : List UInt8 := (x.1 ++ [61]) ++ (34 :: (textS x.2.1 0 ++ [34]))

def textP (l : List LabD) : List UInt8 := ([123] ++ Lib.join (l.map partL) [44, 32]) ++ [125]

def Sm (l : List LabD) : Prop := l.length ≤ 40 ∧ ∀ i, i < l.length → (nmL l i).length ≤ 100 ∧ (l.getD i (([] : List UInt8), (([] : List UInt8), ()))).2.1.length ≤ 1100

theorem part_len {x : LabD} (h1 : x.1.length ≤ 100) (h2 : x.2.1.length ≤ 1100) : (partL x).length ≤ 4600 := by
  have := textS_length (s := x.2.1) x.2.1.length 0 (by omega)
  simp [partL]
  omega

theorem joinTail_len {m : Nat} (sep : List UInt8) : ∀ (r : List (List UInt8)), (∀ x ∈ r, x.length ≤ m) → (Lib.joinTail sep r).length ≤ r.length * (m + sep.length)
  | [], _ => by simp [Lib.joinTail]
  | x :: r, h => by
    have ih := joinTail_len sep r (fun y hy => h y (List.mem_cons_of_mem _ hy))
    have hx := h x (List.mem_cons_self ..)
    have e : Lib.joinTail sep (x :: r) = (sep ++ x) ++ Lib.joinTail sep r := rfl
    rw [e, List.length_append, List.length_append, List.length_cons, Nat.succ_mul]
    omega

theorem join_len {m : Nat} (sep : List UInt8) {r : List (List UInt8)} (h : ∀ x ∈ r, x.length ≤ m) : (Lib.join r sep).length ≤ r.length * (m + sep.length) := by
  cases r with
  | nil => simp [Lib.join_nil]
  | cons x r =>
    have := joinTail_len sep r (fun y hy => h y (List.mem_cons_of_mem _ hy))
    have hx := h x (List.mem_cons_self ..)
    rw [Lib.join_cons, List.length_append, List.length_cons, Nat.succ_mul]
    omega

theorem join_snoc {xs : List (List UInt8)} {y sep : List UInt8} : Lib.join (xs ++ [y]) sep = if xs = [] then y else Lib.join xs sep ++ sep ++ y := by
  cases xs with
  | nil => rw [if_pos rfl]; exact Lib.join_one y sep
  | cons x r =>
    rw [if_neg (by simp), List.cons_append, Lib.join_cons, Lib.join_cons]
    have : ∀ r : List (List UInt8), Lib.joinTail sep (r ++ [y]) = Lib.joinTail sep r ++ (sep ++ y) := by
      intro r
      simp [Lib.joinTail, List.map_append, List.flatten_append]
    rw [this]; simp only [List.append_assoc]

theorem sm_mem {l : List LabD} (h : Sm l) : ∀ x ∈ l, x.1.length ≤ 100 ∧ x.2.1.length ≤ 1100 := by
  intro x hx
  obtain ⟨i, hi, e⟩ := List.mem_iff_getElem.1 hx
  have := h.2 i hi
  rw [nmL, List.getD_eq_getElem?_getD, List.getElem?_eq_getElem hi, Option.getD_some, e] at this
  exact this

theorem sm_join {l : List LabD} (h : Sm l) (k : Nat) : (Lib.join ((l.take k).map partL) [44, 32]).length ≤ 184080 := by
  have := join_len (m := 4600) [44, 32] (r := (l.take k).map partL) (fun x hx => by
    obtain ⟨y, hy, rfl⟩ := List.mem_map.1 hx
    obtain ⟨h1, h2⟩ := sm_mem h y (List.mem_of_mem_take hy)
    exact part_len h1 h2)
  have hl : ((l.take k).map partL).length ≤ 40 := by rw [List.length_map, List.length_take]; have := h.1; omega
  have h2 : ((l.take k).map partL).length * (4600 + ([44, 32] : List UInt8).length) ≤ 40 * 4602 := Nat.mul_le_mul hl (Nat.le_refl _)
  omega

theorem set_next {α : Type} (A : List α) (x d : α) (n i : Nat) (hi : A.length = i) : (A ++ List.replicate (n + 1) d).set i x = (A ++ [x]) ++ List.replicate n d := by
  rw [List.set_append_right _ _ (by omega), hi, Nat.sub_self, List.replicate_succ, List.set_cons_zero, List.append_assoc]; rfl

theorem parts_eq (N : Nat) {l : List LabD} (h : Sm l) (hN : 3000 < N) (k0) : labels_Text_p1 N (List.replicate l.length []) l (l.length : Int) 0 k0 = k0 (l.map partL) := by
  rw [labels_Text_p1, iter_eq (I := fun (v : List (List UInt8) × Int) => ∃ i : Nat, v.2 = (i : Int) ∧ i ≤ l.length ∧ v.1 = (l.take i).map partL ++ List.replicate (l.length - i) []) (m := fun v => l.length - v.2.toNat) (R := fun _ => k0 (l.map partL)) ?_ N (List.replicate l.length [], 0) ⟨0, rfl, by omega, rfl⟩ (by have := h.1; simp; omega)]
  rintro ⟨ps, v⟩ r ⟨i, hv, hi, hp⟩ hr
  dsimp only at hv hp hr ⊢
  subst hv
  rw [labels_Text_s1]
  have h40 := h.1
  rcases Nat.lt_or_ge i l.length with hlt | hge
  · obtain ⟨g1, g2⟩ := h.2 i hlt
    have g1' : (l.getD i (([] : List UInt8), (([] : List UInt8), ()))).1.length ≤ 100 := g1
    have hts := textS_length (s := (l.getD i (([] : List UInt8), (([] : List UInt8), ()))).2.1) _ 0 (Nat.le_refl _)
    have hpl : ps.length = l.length := by rw [hp]; simp; omega
    rw [cond_t (dec_t (by omega)), cond_t (inR_nat hlt), Int.toNat_natCast, cond_t (dec_t (by omega)), text_eq N (by omega) (by omega), Option.bind_some, cond_t (dec_t (by simp only [List.length_append, List.length_cons, List.length_nil]; omega)), cond_t (inR_nat (by omega)), cond_t (dec_t (by omega)), wrap_in (x := (i : Int) + 1) (by unfold I64; omega)]
    refine hr (_, (i : Int) + 1) ⟨i + 1, by simp, by omega, ?_⟩ (by simp; omega)
    dsimp only
    have hA : ((l.take i).map partL).length = i := by simp; omega
    rw [hp, show l.length - i = (l.length - (i + 1)) + 1 by omega, set_next _ _ _ _ _ hA, List.take_succ_eq_append_getElem hlt, List.map_append]
    have : l.getD i (([] : List UInt8), (([] : List UInt8), ())) = l[i] := by simp [List.getD, hlt]
    rw [this]; rfl
  · have : i = l.length := by omega
    subst this
    rw [cond_f (dec_f (by omega)), hp, List.take_length, Nat.sub_self]
    simp

theorem ltext_eq (N : Nat) {l : List LabD} (h : Sm l) (hN : 3000 < N) : labels_Text N l = some (textP l) := by
  have h40 := h.1
  have hj := sm_join h l.length
  rw [List.take_length] at hj
  unfold labels_Text
  rw [cond_t (dec_t ⟨by omega, by omega, by omega, by omega⟩), Int.toNat_natCast, parts_eq N h hN]
  have hF : join_F (l.map partL, ([44, 32], ())) = some (Lib.join (l.map partL) [44, 32]) := by
    unfold join_F
    dsimp only
    rw [cond_t (by rw [Bool.and_eq_true]; exact ⟨dec_t (by simp; omega), dec_t (by omega)⟩)]
  rw [hF, Option.bind_some, cond_t (dec_t (by omega)), cond_t (dec_t (by simp; omega))]
  rfl

theorem refText_eq11 (N : Nat) {l : List LabD} (h : Sm l) (hN : 3000 < N) : porterref11_Text N l = some (textP l) := by
  have h40 := h.1
  unfold porterref11_Text
  rw [porterref11_Text_p1, iter_eq (I := fun (v : List UInt8 × Int) => ∃ i : Nat, v.2 = (i : Int) ∧ i ≤ l.length ∧ v.1 = [123] ++ Lib.join ((l.take i).map partL) [44, 32]) (m := fun v => l.length - v.2.toNat) (R := fun _ => some (textP l)) ?_ N ([123], 0) ⟨0, rfl, by omega, rfl⟩ (by simp; omega)]
  rintro ⟨s, v⟩ r ⟨i, hv, hi, hs⟩ hr
  dsimp only at hv hs hr ⊢
  subst hv
  rw [porterref11_Text_s1]
  have hj := sm_join h i
  have hsl : s.length ≤ 184081 := by rw [hs, List.length_append]; simp only [List.length_cons, List.length_nil]; omega
  rcases Nat.lt_or_ge i l.length with hlt | hge
  · obtain ⟨g1, g2⟩ := h.2 i hlt
    have g1' : (l.getD i (([] : List UInt8), (([] : List UInt8), ()))).1.length ≤ 100 := g1
    have hts := textS_length (s := (l.getD i (([] : List UInt8), (([] : List UInt8), ()))).2.1) _ 0 (Nat.le_refl _)
    have he : l.getD i (([] : List UInt8), (([] : List UInt8), ())) = l[i] := by simp [List.getD, hlt]
    have hstep : ∀ s1 : List UInt8, s1 = (if i = 0 then s else s ++ [44, 32]) → s1.length ≤ 190000 → (cond (inR (i : Int) l.length) (cond (decide (s1.length + (l.getD ((i : Int).toNat) (([] : List UInt8), (([] : List UInt8), ()))).1.length ≤ 9223372036854775807)) (cond (decide ((s1 ++ (l.getD ((i : Int).toNat) (([] : List UInt8), (([] : List UInt8), ()))).1).length + 1 ≤ 9223372036854775807)) (cond (inR (i : Int) l.length) ((porterref10_Text N (l.getD ((i : Int).toNat) (([] : List UInt8), (([] : List UInt8), ()))).2.1).bind fun y => cond (decide (((s1 ++ (l.getD ((i : Int).toNat) (([] : List UInt8), (([] : List UInt8), ()))).1) ++ [61]).length + y.length ≤ 9223372036854775807)) (r (((s1 ++ (l.getD ((i : Int).toNat) (([] : List UInt8), (([] : List UInt8), ()))).1) ++ [61]) ++ y, IntKind.wrap .i64 ((i : Int) + 1))) none) none) none) none) none) = some (textP l) := by
      intro s1 hs1 hl1
      rw [cond_t (inR_nat hlt), Int.toNat_natCast, cond_t (dec_t (by omega)), cond_t (dec_t (by simp only [List.length_append, List.length_cons, List.length_nil]; omega)), cond_t (inR_nat hlt), refText_eq N (by omega) (by omega), Option.bind_some, cond_t (dec_t (by simp only [List.length_append, List.length_cons, List.length_nil]; omega)), wrap_in (x := (i : Int) + 1) (by unfold I64; omega)]
      refine hr (_, (i : Int) + 1) ⟨i + 1, by simp, by omega, ?_⟩ (by simp; omega)
      dsimp only
      rw [List.take_succ_eq_append_getElem hlt, List.map_append, List.map_cons, List.map_nil, join_snoc, he, hs1, hs, partL]
      cases i with
      | zero => simp [Lib.join_nil]
      | succ i =>
        rw [if_neg (by omega), if_neg (by
          intro e
          have := congrArg List.length e
          simp at this
          rcases this with h | h <;> simp [h] at hlt)]
        simp only [List.append_assoc]
    rw [cond_t (dec_t (by omega)), porterref11_Text_p2, porterref11_Text_p3]
    by_cases h0 : i = 0
    · rw [cond_f (dec_f (by omega))]
      exact hstep s (by rw [if_pos h0]) (by omega)
    · rw [cond_t (dec_t (by omega)), cond_t (dec_t (by omega))]
      exact hstep (s ++ [44, 32]) (by rw [if_neg h0]) (by simp only [List.length_append, List.length_cons, List.length_nil]; omega)
  · have : i = l.length := by omega
    subst this
    rw [cond_f (dec_f (by omega)), cond_t (dec_t (by omega)), hs, List.take_length]; rfl


theorem readS_ok {s : List UInt8} : ∀ (n i : Nat) (o : List UInt8), s.length - i ≤ n → (readS s i o).2.2.1.1 = 0 → ∃ m : Nat, (readS s i o).2.1 = (m : Int) ∧ i < m ∧ m ≤ s.length := by
  intro n
  induction n with
  | zero =>
    intro i o h hz
    rw [readS_end (by omega)] at hz
    exact absurd hz (by simp)
  | succ n ih =>
    intro i o h hz
    rcases Nat.lt_or_ge i s.length with hi | hi
    · rw [readS_step hi] at hz ⊢
      by_cases h34 : (s.getD i 0).toNat = 34
      · rw [if_pos h34]; exact ⟨i + 1, rfl, by omega, by omega⟩
      · rw [if_neg h34] at hz ⊢
        by_cases h92 : (s.getD i 0).toNat = 92
        · rw [if_pos h92] at hz ⊢
          cases he : escL (s.drop (i + 1)) with
          | cut => rw [he] at hz; exact absurd hz (by simp)
          | bad => rw [he] at hz; exact absurd hz (by simp)
          | ok b m =>
            rw [he] at hz
            obtain ⟨_, h2, _⟩ := esc_ok he
            obtain ⟨q, q1, q2, q3⟩ := ih (i + m) _ (by omega) hz
            exact ⟨q, q1, by omega, q3⟩
        · rw [if_neg h92] at hz ⊢
          by_cases hs : safeL s i = true
          · rw [if_pos hs] at hz ⊢
            have hu := unitL_pos hi
            obtain ⟨q, q1, q2, q3⟩ := ih (i + unitL s i) _ (by omega) hz
            exact ⟨q, q1, by omega, q3⟩
          · rw [if_neg hs] at hz; exact absurd hz (by simp)
    · rw [readS_end hi] at hz
      exact absurd hz (by simp)

theorem read_both (k : Nat) {s : List UInt8} {n : Nat} (hs : s.length ≤ 300000) (hn : n ≤ s.length) :
    ∃ x : RdT, quote_Read (k + 1000000) s (n : Int) = some x ∧ porterref10_Read (k + 1000000) s (n : Int) = some x ∧ (x.2.2.1.1 = 0 → ∃ m : Nat, x.2.1 = (m : Int) ∧ n < m ∧ m ≤ s.length) := by
  have h0 : ¬ (n : Int) < 0 := by omega
  by_cases h2 : n = s.length
  · refine ⟨([], 0, (1, (n : Int), ()), ()), ?_, ?_, fun h => absurd h (by simp)⟩
    · simp only [quote_Read, quote_Read_p1, quote_Read_p2]; rw [cond_f (dec_f h0), cond_f (dec_f (by omega)), cond_t (by rw [beq_iff_eq]; omega)]
    · simp only [porterref10_Read, porterref10_Read_p1, porterref10_Read_p2]; rw [cond_f (dec_f h0), cond_f (dec_f (by omega)), cond_t (by rw [beq_iff_eq]; omega)]
  by_cases h3 : (s.getD n 0).toNat = 34
  · refine ⟨_, read_eq k (by omega) (by omega) h3, refRead_eq _ (by omega) (by omega) (by omega) h3, fun h => ?_⟩
    obtain ⟨m, h4, h5, h6⟩ := readS_ok _ _ _ (Nat.le_refl _) h
    exact ⟨m, h4, by omega, h6⟩
  · refine ⟨([], 0, (2, (n : Int), ()), ()), ?_, ?_, fun h => absurd h (by simp)⟩
    · simp only [quote_Read, quote_Read_p1, quote_Read_p2]
      rw [cond_f (dec_f h0), cond_f (dec_f (by omega)), cond_f (by rw [beq_eq_false_iff_ne]; omega), cond_t (inR_nat (by omega)), Int.toNat_natCast, cond_t (by rw [bne_iff_ne]; omega)]
    · simp only [porterref10_Read, porterref10_Read_p1, porterref10_Read_p2]
      rw [cond_f (dec_f h0), cond_f (dec_f (by omega)), cond_f (by rw [beq_eq_false_iff_ne]; omega), cond_t (inR_nat (by omega)), Int.toNat_natCast, cond_t (by rw [bne_iff_ne]; omega)]

def needP (s : List UInt8) (p w : Nat) : Int × (Int × Unit) := if p = s.length then (1, (p : Int), ()) else if (s.getD p 0).toNat = w then (0, 0, ()) else (2, (p : Int), ())

def isB (s : List UInt8) (p w : Nat) : Bool := decide (p < s.length ∧ (s.getD p 0).toNat = w)

theorem need_eq (N : Nat) {s : List UInt8} {p w : Nat} (hp : p ≤ s.length) : labels_need N s (p : Int) (w : Int) = some (needP s p w) := by
  unfold labels_need needP
  by_cases h : p = s.length
  · rw [if_pos h, cond_t (by rw [beq_iff_eq]; omega)]
  · rw [if_neg h, cond_f (by rw [beq_eq_false_iff_ne]; omega), cond_t (inR_nat (by omega)), Int.toNat_natCast]
    by_cases h2 : (s.getD p 0).toNat = w
    · rw [if_pos h2, cond_f (by rw [bne_eq_false_iff_eq]; omega)]
    · rw [if_neg h2, cond_t (by rw [bne_iff_ne]; omega)]

theorem need_zero {s : List UInt8} {p w : Nat} (hp : p ≤ s.length) : ((needP s p w).1 = 0) ↔ isB s p w = true := by
  unfold needP isB
  rw [decide_eq_true_eq]
  by_cases h : p = s.length
  · rw [if_pos h]; simp; omega
  · rw [if_neg h]
    by_cases h2 : (s.getD p 0).toNat = w
    · rw [if_pos h2]; simp only [true_iff]; exact ⟨by omega, h2⟩
    · rw [if_neg h2]; simp; intro _; simpa using h2

theorem has_eq' (N : Nat) {s : List UInt8} {p w : Nat} (hp : p ≤ s.length) : labels_has N s (p : Int) (w : Int) = some (isB s p w) := by
  unfold labels_has
  rw [need_eq N hp, Option.bind_some]
  cases h : isB s p w with
  | true => rw [(need_zero hp).2 h]; rfl
  | false =>
    have : ¬ (needP s p w).1 = 0 := fun e => by rw [(need_zero hp).1 e] at h; cases h
    rw [beq_eq_false_iff_ne.2 this]

theorem is_eq (N : Nat) {s : List UInt8} {p w : Nat} : porterref11_is N s (p : Int) (w : Int) = some (isB s p w) := by
  unfold porterref11_is isB
  by_cases h : p < s.length
  · rw [cond_t (dec_t (by omega)), cond_t (inR_nat h), Int.toNat_natCast]
    congr 1
    by_cases h2 : (s.getD p 0).toNat = w
    · rw [dec_t ⟨h, h2⟩, beq_iff_eq]; omega
    · rw [dec_f (fun e => h2 e.2), beq_eq_false_iff_ne]; omega
  · rw [cond_f (dec_f (by omega)), dec_f (fun e => h e.1)]

theorem other_eq (N : Nat) {s : List UInt8} {p w : Nat} (hp : p ≤ s.length) (h : isB s p w = false) : porterref11_other N s (p : Int) = some (needP s p w) := by
  unfold porterref11_other needP
  by_cases h2 : p = s.length
  · rw [if_pos h2, cond_t (dec_t (by omega)), h2]
  · rw [if_neg h2, cond_f (dec_f (by omega)), if_neg (fun e => by rw [isB, dec_t ⟨by omega, e⟩] at h; cases h)]

theorem runS_allS (p : Nat → Bool → Bool) : ∀ (l : List UInt8) (f : Bool), allS p (l.take (runS p l f)) f = true
  | [], _ => rfl
  | u :: r, f => by
    rw [runS]
    cases h : p u.toNat f with
    | false => rfl
    | true =>
      show allS p ((u :: r).take (runS p r false + 1)) f = true
      rw [List.take_succ_cons]
      show (p u.toNat f && allS p (r.take (runS p r false)) false) = true
      rw [h, runS_allS p r false]; rfl

theorem run_label (t : List UInt8) : labelL (t.take (runS labS t true)) = decide (1 ≤ runS labS t true ∧ runS labS t true ≤ 32) := by
  have hr := runS_le labS t true
  unfold labelL
  rw [runS_allS, Bool.and_true, List.length_take, Nat.min_eq_left hr]

theorem iter_two {σ τ β : Type} {s1 : σ → (σ → Option β) → Option β} {s2 : τ → (τ → Option β) → Option β} (I : σ → τ → Prop) (m : σ → Nat) (Q : β → Prop)
    (h : ∀ u v r r', I u v → (∀ u' v', I u' v' → m u' < m u → ∃ y, r u' = some y ∧ r' v' = some y ∧ Q y) → ∃ y, s1 u r = some y ∧ s2 v r' = some y ∧ Q y) : ∀ (n n' : Nat) (u : σ) (v : τ), I u v → m u < n → m u < n' → ∃ y, iter s1 n u = some y ∧ iter s2 n' v = some y ∧ Q y
  | 0, _, u, v, _, hm, _ => by omega
  | _ + 1, 0, u, v, _, _, hm => by omega
  | n + 1, n' + 1, u, v, hI, h1, h2 => h u v (iter s1 n) (iter s2 n') hI fun u' v' hI' hlt => iter_two I m Q h n n' u' v' hI' (by omega) (by omega)

abbrev TkT := List LabD × Int × (Int × (Int × Unit)) × Unit

def QT (y : TkT) : Prop := (y.2.2.1.1 = 0 → y.2.2.1 = (0, 0, ())) ∧ (¬ y.2.2.1.1 = 0 → y.1 = []) ∧ y.1.length ≤ 33

theorem Qf {e : Int} {f : Int × (Int × Unit)} (h : ¬ f.1 = 0) : QT ([], e, f, ()) := ⟨fun h' => absurd h' h, fun _ => rfl, Nat.zero_le _⟩
theorem Qs {l : List LabD} {e : Int} (h : l.length ≤ 33) : QT (l, e, (0, 0, ()), ()) := ⟨fun _ => rfl, fun h => absurd rfl h, h⟩

theorem list_both (k : Nat) {s : List UInt8} (hs : s.length ≤ 300000) {a : Nat} (ha : a ≤ s.length) :
    ∃ y : TkT, labels_takeList (k + 1000000) s (a : Int) = some y ∧ porterref11_Take_p3 (k + 1000000) s ((0 : Int), ((0 : Int), ())) [] (a : Int) (fun x41 x51 x61 => some (x41, (x51, (x61, ())))) (fun x42 x52 x62 => some (x42, (x52, (x62, ())))) (some (([] : List LabD), ((0 : Int), (((1 : Int), (((s.length : Nat) : Int), ())), ())))) = some y ∧ QT y := by
  rw [labels_takeList, labels_takeList_p1, porterref11_Take_p3]
  refine iter_two (I := fun (u : Int × List LabD) (v : List LabD × Int) => ∃ i : Nat, u.1 = (i : Int) ∧ v.2 = (i : Int) ∧ v.1 = u.2 ∧ i ≤ s.length ∧ u.2.length ≤ 32) (m := fun u => s.length - u.1.toNat) (Q := QT) ?_ _ _ ((a : Int), []) ([], (a : Int)) ⟨a, rfl, rfl, rfl, ha, by simp⟩ (by simp; omega) (by simp; omega)
  rintro ⟨u, l'⟩ ⟨l, v⟩ r r' ⟨i, hu, hv, hl, hi, h32⟩ hr
  dsimp only at hu hv hl hr h32 ⊢
  subst hu; subst hv; subst hl
  rw [labels_takeList_s1, labels_takeList_p2, labels_takeList_p3, porterref11_Take_s3]
  rcases Nat.lt_or_ge i s.length with hlt | hge
  case inr =>
    have : i = s.length := by omega
    subst this
    rw [cond_f (dec_f (by omega)), cond_false, cond_f (dec_f (by omega)), labels_takeLabel, cond_t (beq_iff_eq.2 rfl), Option.bind_some]
    exact ⟨_, rfl, rfl, Qf (show ¬ ((_ : Int) = 0) by simp)⟩
  rw [cond_t (dec_t (by omega)), cond_t (dec_t (by omega))]
  by_cases hll : l.length = 32
  · rw [cond_t (by rw [beq_iff_eq]; omega), cond_t (by rw [beq_iff_eq]; omega)]
    exact ⟨_, rfl, rfl, Qf (show ¬ ((_ : Int) = 0) by simp)⟩
  rw [cond_f (by rw [beq_eq_false_iff_ne]; omega), cond_f (by rw [beq_eq_false_iff_ne]; omega), signs_eq (k + 1000000) hi (by omega) (by omega), Option.bind_some, porterref11_Take_p4, porterref11_Take_p5, labels_takeLabel, cond_f (by rw [beq_eq_false_iff_ne]; omega), cut_name (k + 1000000) (by omega) (by omega), if_pos ⟨by omega, by omega⟩, Option.bind_some, Int.toNat_natCast, label_eq _ (by omega), Option.bind_some, run_label]
  have hrl := runS_le labS (s.drop i) true
  rw [List.length_drop] at hrl
  generalize hn : runS labS (s.drop i) true = n at hrl
  by_cases hn1 : n < 1
  · rw [dec_f (by omega), Bool.not_false, cond_true, cond_t (dec_t (by omega)), cond_true]
    exact ⟨_, rfl, rfl, Qf (show ¬ ((_ : Int) = 0) by simp)⟩
  rw [cond_f (dec_f (by omega))]
  by_cases hn2 : 32 < n
  · rw [dec_f (by omega), Bool.not_false, cond_true, cond_t (dec_t (by omega))]
    exact ⟨_, rfl, rfl, Qf (show ¬ ((_ : Int) = 0) by simp)⟩
  have hw : IntKind.wrap .i64 ((i : Int) + (n : Int)) = ((i + n : Nat) : Int) := by rw [wrap_in (by unfold I64; omega)]; omega
  rw [dec_t ⟨by omega, by omega⟩, Bool.not_true, cond_false, cond_f (dec_f (by omega)), hw, show ((i : Int) + (n : Int)) = ((i + n : Nat) : Int) by omega, show (61 : Int) = ((61 : Nat) : Int) from rfl, need_eq _ (by omega), Option.bind_some, is_eq, Option.bind_some]
  cases hb : isB s (i + n) 61 with
  | false =>
    have hz : ¬ (needP s (i + n) 61).1 = 0 := fun e => by rw [(need_zero (by omega)).1 e] at hb; cases hb
    rw [cond_t (bne_iff_ne.2 hz), Option.bind_some, cond_t (bne_iff_ne.2 hz), Bool.not_false, cond_true, other_eq _ (by omega) hb, Option.bind_some]
    exact ⟨_, rfl, rfl, Qf hz⟩
  | true =>
    have hz := (need_zero (by omega)).2 hb
    have hlt2 : i + n < s.length := by
      rw [isB, decide_eq_true_eq] at hb; exact hb.1
    have hw2 : IntKind.wrap .i64 (((i + n : Nat) : Int) + 1) = ((i + n + 1 : Nat) : Int) := by rw [wrap_in (by unfold I64; omega)]; omega
    obtain ⟨x, hx1, hx2, hx3⟩ := read_both k (s := s) (n := i + n + 1) hs (by omega)
    rw [cond_f (bne_eq_false_iff_eq.2 hz), Bool.not_true, cond_false, hw2, hx1, hx2, Option.bind_some, Option.bind_some]
    by_cases hf : x.2.2.1.1 = 0
    case neg =>
      rw [cond_t (bne_iff_ne.2 hf), Option.bind_some, cond_t (bne_iff_ne.2 hf), cond_t (bne_iff_ne.2 hf)]
      exact ⟨_, rfl, rfl, Qf hf⟩
    obtain ⟨m, hm, hm1, hm2⟩ := hx3 hf
    have hcut : cut s i (((i + n : Nat) : Int).toNat) = (s.drop i).take n := by
      rw [Int.toNat_natCast, cut_mid]
    rw [cond_f (bne_eq_false_iff_eq.2 hf), Option.bind_some, cond_f (by rfl), cond_f (bne_eq_false_iff_eq.2 hf), cond_t (dec_t (by omega)), cond_t (dec_t ⟨by omega, by omega⟩), cond_t (dec_t ⟨by omega, by omega⟩), cond_t (dec_t (by omega)), hm, hcut, show (125 : Int) = ((125 : Nat) : Int) from rfl, has_eq' _ hm2, is_eq, Option.bind_some, Option.bind_some]
    cases hb2 : isB s m 125 with
    | true => exact ⟨_, rfl, rfl, Qs (by simp only [List.length_append, List.length_cons, List.length_nil]; omega)⟩
    | false =>
      have hw3 : IntKind.wrap .i64 ((m : Int) + 1) = ((m + 1 : Nat) : Int) := by rw [wrap_in (by unfold I64; omega)]; omega
      have hw4 : IntKind.wrap .i64 ((m : Int) + 2) = ((m + 2 : Nat) : Int) := by rw [wrap_in (by unfold I64; omega)]; omega
      have hw5 : IntKind.wrap .i64 ((m : Int) + 0) = (m : Int) := by rw [wrap_in (by unfold I64; omega)]; omega
      rw [cond_false, cond_false, show (44 : Int) = ((44 : Nat) : Int) from rfl, show (32 : Int) = ((32 : Nat) : Int) from rfl, is_eq, Option.bind_some, labels_takeList_p4, show k + 1000000 = (k + 999997) + 1 + 1 + 1 from rfl, iter_succ, labels_takeList_s4, cond_t (by rfl), cond_t (by rfl), hw5, show List.getD [((44 : Nat) : Int), ((32 : Nat) : Int)] (Int.toNat 0) 0 = ((44 : Nat) : Int) from rfl, need_eq _ hm2, Option.bind_some]
      cases hb3 : isB s m 44 with
      | false =>
        have hz3 : ¬ (needP s m 44).1 = 0 := fun e => by rw [(need_zero hm2).1 e] at hb3; cases hb3
        rw [cond_t (bne_iff_ne.2 hz3), Bool.not_false, cond_true, other_eq _ hm2 hb3, Option.bind_some]
        exact ⟨_, rfl, rfl, Qf hz3⟩
      | true =>
        have hm3 : m + 1 ≤ s.length := by rw [isB, decide_eq_true_eq] at hb3; omega
        rw [cond_f (bne_eq_false_iff_eq.2 ((need_zero hm2).2 hb3)), Bool.not_true, cond_false, hw3, is_eq, Option.bind_some, show IntKind.wrap .i64 ((0 : Int) + 1) = 1 from rfl, iter_succ, labels_takeList_s4, cond_t (by rfl), cond_t (by rfl), hw3, show List.getD [((44 : Nat) : Int), ((32 : Nat) : Int)] (Int.toNat 1) 0 = ((32 : Nat) : Int) from rfl, need_eq _ hm3, Option.bind_some]
        cases hb4 : isB s (m + 1) 32 with
        | false =>
          have hz4 : ¬ (needP s (m + 1) 32).1 = 0 := fun e => by rw [(need_zero hm3).1 e] at hb4; cases hb4
          rw [cond_t (bne_iff_ne.2 hz4), Bool.not_false, cond_true, other_eq _ hm3 hb4, Option.bind_some]
          exact ⟨_, rfl, rfl, Qf hz4⟩
        | true =>
          have hm4 : m + 2 ≤ s.length := by rw [isB, decide_eq_true_eq] at hb4; omega
          rw [cond_f (bne_eq_false_iff_eq.2 ((need_zero hm3).2 hb4)), Bool.not_true, cond_false, show IntKind.wrap .i64 ((1 : Int) + 1) = 2 from rfl, iter_succ, labels_takeList_s4, cond_f (by rfl), hw4]
          exact hr (_, _) (_, _) ⟨m + 2, rfl, rfl, rfl, hm4, by simp only [List.length_append, List.length_cons, List.length_nil]; omega⟩ (by simp only [Int.toNat_natCast]; omega)

theorem take_both (k : Nat) {s : List UInt8} (hs : s.length ≤ 290000) (a : Int) : ∃ y : TkT, labels_Take (k + 1000000) s a = some y ∧ porterref11_Take (k + 1000000) s a = some y ∧ QT y := by
  rw [labels_Take, labels_Take_p1, labels_Take_p2, porterref11_Take, porterref11_Take_p1, porterref11_Take_p2]
  by_cases h0 : a < 0
  · rw [cond_t (dec_t h0), cond_true, cond_t (dec_t h0), cond_true]; exact ⟨_, rfl, rfl, Qf (show ¬ ((_ : Int) = 0) by simp)⟩
  rw [cond_f (dec_f h0), cond_f (dec_f h0)]
  by_cases h1 : (s.length : Int) < a
  · rw [cond_t (dec_t h1), cond_t (dec_t h1)]; exact ⟨_, rfl, rfl, Qf (show ¬ ((_ : Int) = 0) by simp)⟩
  rw [cond_f (dec_f h1), cond_f (dec_f h1)]
  obtain ⟨n, rfl⟩ := Int.eq_ofNat_of_zero_le (show 0 ≤ a by omega)
  have hn : n ≤ s.length := by omega
  rw [show (123 : Int) = ((123 : Nat) : Int) from rfl, show (125 : Int) = ((125 : Nat) : Int) from rfl, need_eq _ hn, is_eq, Option.bind_some, Option.bind_some]
  cases hb : isB s n 123 with
  | false =>
    have hz : ¬ (needP s n 123).1 = 0 := fun e => by rw [(need_zero hn).1 e] at hb; cases hb
    rw [cond_t (bne_iff_ne.2 hz), Bool.not_false, cond_true, other_eq _ hn hb, Option.bind_some]
    exact ⟨_, rfl, rfl, Qf hz⟩
  | true =>
    have hn1 : n + 1 ≤ s.length := by rw [isB, decide_eq_true_eq] at hb; omega
    have hw3 : IntKind.wrap .i64 ((n : Int) + 1) = ((n + 1 : Nat) : Int) := by rw [wrap_in (by unfold I64; omega)]; omega
    rw [cond_f (bne_eq_false_iff_eq.2 ((need_zero hn).2 hb)), Bool.not_true, cond_false, hw3, has_eq' _ hn1, is_eq, Option.bind_some, Option.bind_some]
    cases isB s (n + 1) 125 with
    | true => exact ⟨_, rfl, rfl, Qs (Nat.zero_le _)⟩
    | false =>
      obtain ⟨y, h2, h3, h4⟩ := list_both k (s := s) (by omega) hn1
      rw [cond_false, cond_false, h2, Option.bind_some, h3]
      exact ⟨_, rfl, rfl, h4⟩

theorem parse_both (k : Nat) {s : List UInt8} (hs : s.length ≤ 290000) : ∃ y, labels_Parse (k + 1000000) s = some y ∧ porterref11_Parse (k + 1000000) s = some y ∧ y.1.length ≤ 33 := by
  obtain ⟨y, h1, h2, q1, q2, q3⟩ := take_both k hs 0
  rw [labels_Parse, porterref11_Parse, h1, h2, Option.bind_some, Option.bind_some, porterref11_Parse_p1, porterref11_Parse_p2]
  by_cases h : y.2.2.1.1 = 0
  · rw [cond_f (bne_eq_false_iff_eq.2 h), cond_t (beq_iff_eq.2 h)]
    by_cases h3 : y.2.1 < (s.length : Int)
    · rw [cond_t (dec_t h3), cond_t (dec_t h3)]; exact ⟨_, rfl, rfl, Nat.zero_le _⟩
    · rw [cond_f (dec_f h3), cond_f (dec_f h3), q1 h]; exact ⟨_, rfl, rfl, q3⟩
  · rw [cond_t (bne_iff_ne.2 h), cond_f (beq_eq_false_iff_ne.2 h), cond_false, q2 h]; exact ⟨_, rfl, rfl, Nat.zero_le _⟩

end Go.Proofs.YtbkackmlmccpjaaDoorLg

set_option linter.all false
set_option maxRecDepth 100000
namespace Go.Proofs.YtbkackmlmccpjaaDoorLg
open Go Go.Lift Go.Proofs.YtbkackmlmccpjaaDoorPx


theorem zL_eq {l : List LabD} {z : List (List UInt8)} (hz : z.Pairwise (· < ·)) (hm : ∀ x, x ∈ z ↔ ∃ i, i < l.length ∧ nmL l i = x) : zL l = z := by
  have tr : ∀ a b c : List UInt8, leB a b = true → leB b c = true → leB a c = true := fun a b c h1 h2 => by simp only [leB, decide_eq_true_eq] at *; exact List.le_trans h1 h2
  have to : ∀ a b : List UInt8, (leB a b || leB b a) = true := fun a b => by simp only [leB, Bool.or_eq_true, decide_eq_true_eq]; exact List.le_total a b
  have hp := List.pairwise_mergeSort tr to (strKeys (plD l l.length))
  have hnz : z.Nodup := hz.imp fun {a b} h e => by rw [e] at h; exact List.lt_irrefl _ h
  have hperm : (zL l).Perm z := by
    refine (List.perm_ext_iff_of_nodup (zL_nodup l) hnz).2 fun x => ?_
    rw [hm]
    constructor
    · intro h
      obtain ⟨t, ht, e⟩ := mem_idx h
      obtain ⟨i, hi, hn⟩ := zn_mem (l := l) ht
      exact ⟨i, hi, by rw [hn]; exact e⟩
    · rintro ⟨i, hi, rfl⟩; exact zL_mem' hi
  refine List.Perm.eq_of_pairwise (le := fun a b => leB a b = true) (fun a b _ _ h1 h2 => ?_) hp (hz.imp fun {a b} h => ?_) hperm
  · simp only [leB, decide_eq_true_eq] at h1 h2
    exact List.le_antisymm h1 h2
  · simp only [leB, decide_eq_true_eq]
    exact List.le_of_lt h

def Rises (l : List LabD) : Prop := ∀ i j, i < j → j < l.length → nmL l i < nmL l j

theorem rises_distinct {l : List LabD} (h : Rises l) : distinctL l := fun i j hij hj e => by
  have := h i j hij hj
  rw [e] at this; exact List.lt_irrefl _ this

theorem nm_get {l : List LabD} {i : Nat} (hi : i < l.length) : nmL l i = l[i].1 := by simp [nmL, List.getD, hi]

theorem rises_z {l : List LabD} (h : Rises l) : zL l = l.map (·.1) := by
  refine zL_eq ?_ fun x => ?_
  · rw [List.pairwise_map, List.pairwise_iff_getElem]
    intro i j hi hj hij
    have := h i j hij hj
    rw [nm_get hi, nm_get hj] at this
    exact this
  · rw [List.mem_map]
    constructor
    · rintro ⟨y, hy, rfl⟩
      obtain ⟨i, hi, e⟩ := List.mem_iff_getElem.1 hy
      exact ⟨i, hi, by rw [nm_get hi, e]⟩
    · rintro ⟨i, hi, rfl⟩
      exact ⟨l[i], List.getElem_mem hi, by rw [nm_get hi]⟩

theorem rises_out {l : List LabD} (h : Rises l) : ofOut l = l.filter fun x => !x.2.1.isEmpty := by
  have hz := rises_z h
  rw [ofOut, ofTo, List.take_length, show znD (plD l l.length) = zL l from rfl, hz, List.map_map]
  congr 1
  apply List.ext_getElem
  · simp
  · intro i h1 h2
    simp only [List.getElem_map, Function.comp]
    rw [← nm_get h2, lbOf_at (rises_distinct h) h2]
    simp [List.getD, h2]


abbrev wL : List LabD := [(([(97 : UInt8)] : List UInt8), (([(49 : UInt8)] : List UInt8), ())), (([(98 : UInt8)] : List UInt8), (([] : List UInt8), ()))]

theorem wL_rises : Rises wL := by
  intro i j hij hj
  have : j < 2 := hj
  have h1 : i = 0 := by omega
  have h2 : j = 1 := by omega
  subst h1; subst h2
  exact (lt_cmp _ _).1 (by decide)

theorem works11 (k : Nat) : porterlaw11_works (k + 1000000) = some true := by
  rw [porterlaw11_works, of_eq (k + 1000000) (l := wL) (by intro i hi; have : i < 2 := hi; rcases (by omega : i = 0 ∨ i = 1) with rfl | rfl <;> decide) (by omega), Option.bind_some]
  have ho : ofP wL = ([(([(97 : UInt8)] : List UInt8), (([(49 : UInt8)] : List UInt8), ()))], 0, ()) := by
    unfold ofP
    rw [if_neg (by decide), if_pos (by decide), if_pos (rises_distinct wL_rises), rises_out wL_rises]
    rfl
  have hp : labels_Parse (k + 1000000) ([(123 : UInt8), (97 : UInt8), (61 : UInt8), (34 : UInt8), (49 : UInt8), (34 : UInt8), (44 : UInt8), (32 : UInt8), (98 : UInt8), (61 : UInt8), (34 : UInt8), (34 : UInt8), (125 : UInt8)] : List UInt8) = some (wL, (0, 0, ()), ()) := by kernel_rfl
  have ht : labels_Text (k + 1000000) wL = some [(123 : UInt8), (97 : UInt8), (61 : UInt8), (34 : UInt8), (49 : UInt8), (34 : UInt8), (44 : UInt8), (32 : UInt8), (98 : UInt8), (61 : UInt8), (34 : UInt8), (34 : UInt8), (125 : UInt8)] := by kernel_rfl
  rw [ho, hp, Option.bind_some, ht, Option.bind_some, cond_t (by rfl), cond_t (by rfl), cond_t (by rfl), sameLab_eq (k + 1000000) wL (by show (2 : Nat) < _; omega) (by decide), Option.bind_some, cond_true, cond_t (by rfl), right_eq (k + 1000000) (by omega), Option.bind_some, cond_t (by rfl), get_eq (k + 1000000) (by show (2 : Nat) < _; omega) (by decide), Option.bind_some]
  rfl


theorem sm_of {l : List LabD} (h : l.length ≤ 40 ∧ ∀ i, i < l.length → (nmL l i).length ≤ 100 ∧ (l.getD i (([] : List UInt8), (([] : List UInt8), ()))).2.1.length ≤ 1100) : Sm l := h

theorem texts_law11 (k : Nat) (l : List LabD) (s : List UInt8) (a : Int) : porterlaw11_LabelsTexts (k + 1000000) l s a = some true := by
  rw [porterlaw11_LabelsTexts, porterlaw11_LabelsTexts_p1, porterlaw11_LabelsTexts_p2, works11]
  obtain ⟨b, hb, hg⟩ := great_eq (k + 1000000) (l := l) (by omega)
  rw [hb, Option.bind_some]
  cases b with
  | true => rfl
  | false =>
    have hsm := sm_of (hg rfl)
    rw [cond_false]
    by_cases hs : 600 < s.length
    · rw [cond_t (dec_t (by omega))]; rfl
    rw [cond_f (dec_f (by omega))]
    obtain ⟨y, h1, h2, h3⟩ := parse_both k (s := s) (by omega)
    obtain ⟨z, g1, g2, g3⟩ := take_both k (s := s) (by omega) a
    have g4 := g3.2.2
    rw [h1, h2, g1, g2, ltext_eq _ hsm (by omega), refText_eq11 _ hsm (by omega)]
    simp only [Option.bind_some, beq_self_eq_true, cond_true]
    rw [sameLab_eq _ _ (by omega) (by omega), Option.bind_some, cond_true, (eqD_iff (.pair (.int .i64) (.pair (.int .i64) .unit)) _ _ rfl).2 rfl, cond_true, sameLab_eq _ _ (by omega) (by omega), Option.bind_some, cond_true, (eqD_iff (.pair (.int .i64) (.pair (.int .i64) .unit)) _ _ rfl).2 rfl]
    rfl


end Go.Proofs.YtbkackmlmccpjaaDoorLg
