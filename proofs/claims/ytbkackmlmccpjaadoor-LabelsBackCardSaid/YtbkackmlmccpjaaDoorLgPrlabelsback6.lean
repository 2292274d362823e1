import Derived.Test.YtbkackmlmccpjaaDoorLgPrlabelsback5
import Derived.Test.YtbkackmlmccpjaaDoorLgPrlabelsback1
import Derived.Test.YtbkackmlmccpjaaDoorLgPrlabelsback2
import Derived.Lib.DecodeN
set_option linter.all false
namespace Go.Proofs.YtbkackmlmccpjaaDoorLg
open Go Go.Lift Go.Lib Go.Proofs.YtbkackmlmccpjaaDoorPx

set_option maxRecDepth 10000000 in
theorem first_eq : ∀ b : Fin 256, glob0.getD b.1 0 = ((firstT b.1 : Nat) : Int) := by decide +kernel

theorem first_at (b : UInt8) : List.getD glob0 (Int.toNat ((b.toNat : Nat) : Int)) 0 = ((firstT b.toNat : Nat) : Int) := by
  rw [Int.toNat_natCast]; exact first_eq ⟨b.toNat, b.toNat_lt⟩

theorem slow_size (N : Nat) {s : List UInt8} {c : Nat} {sz lo hi : Nat} (hs : 1 ≤ s.length) (hx : firstT (s.getD 0 0).toNat = c) (h240 : c < 240) (e0 : inR (shrI .u8 (c : Int) 4) 16 = true)
    (e1 : IntKind.wrap .i64 (bitsOp .and .u8 (c : Int) 7) = (sz : Int)) (e2 : List.getD glob1 (Int.toNat (shrI .u8 (c : Int) 4)) ((0 : Int), ((0 : Int), ())) = ((lo : Int), (hi : Int), ())) (hz : 2 ≤ sz) (hz4 : sz ≤ 4) :
    ∃ r, unicode_utf8_decodeRuneInStringSlow N s = some (r, (((slowN s.length (s.getD 0 0).toNat (s.getD 1 0).toNat (s.getD 2 0).toNat (s.getD 3 0).toNat sz lo hi).2 : Nat) : Int), ()) := by
  have hb := u8_lt (s.getD 0 0)
  simp only [unicode_utf8_decodeRuneInStringSlow, first_at, hx, e0, e1, e2]
  rw [cond_f (dec_f (by omega)), cond_t (inR_of (by omega) (by omega)), cond_t (inR_nat hb), cond_f (dec_f (by omega)), cond_true]
  unfold slowN
  by_cases h1 : s.length < sz
  · rw [cond_t (dec_t (by omega)), if_pos h1]; exact ⟨_, rfl⟩
  rw [cond_f (dec_f (by omega)), if_neg h1, cond_t (inR_of (by omega) (by omega))]
  simp only [unicode_utf8_decodeRuneInStringSlow_p1, unicode_utf8_decodeRuneInStringSlow_p2]
  by_cases h2 : (s.getD 1 0).toNat < lo
  · rw [cond_t (dec_t (by omega)), if_pos (Or.inl h2)]; exact ⟨_, rfl⟩
  rw [cond_f (dec_f (by omega))]
  by_cases h3 : hi < (s.getD 1 0).toNat
  · rw [cond_t (dec_t (by omega)), if_pos (Or.inr h3)]; exact ⟨_, rfl⟩
  rw [cond_f (dec_f (by omega)), if_neg (by omega)]
  by_cases h4 : sz ≤ 2
  · rw [cond_t (dec_t (by omega)), if_pos h4]; exact ⟨_, rfl⟩
  rw [cond_f (dec_f (by omega)), if_neg h4, cond_t (inR_of (by omega) (by omega))]
  simp only [unicode_utf8_decodeRuneInStringSlow_p3, unicode_utf8_decodeRuneInStringSlow_p4]
  by_cases h5 : (s.getD 2 0).toNat < 128
  · rw [cond_t (dec_t (by omega)), if_pos (Or.inl h5)]; exact ⟨_, rfl⟩
  rw [cond_f (dec_f (by omega))]
  by_cases h6 : 191 < (s.getD 2 0).toNat
  · rw [cond_t (dec_t (by omega)), if_pos (Or.inr h6)]; exact ⟨_, rfl⟩
  rw [cond_f (dec_f (by omega)), if_neg (by omega)]
  by_cases h7 : sz ≤ 3
  · rw [cond_t (dec_t (by omega)), if_pos h7]; exact ⟨_, rfl⟩
  rw [cond_f (dec_f (by omega)), if_neg h7, cond_t (inR_of (by omega) (by omega))]
  simp only [unicode_utf8_decodeRuneInStringSlow_p5, unicode_utf8_decodeRuneInStringSlow_p6]
  by_cases h8 : (s.getD 3 0).toNat < 128
  · rw [cond_t (dec_t (by omega)), if_pos (Or.inl h8)]; exact ⟨_, rfl⟩
  rw [cond_f (dec_f (by omega))]
  by_cases h9 : 191 < (s.getD 3 0).toNat
  · rw [cond_t (dec_t (by omega)), if_pos (Or.inr h9)]; exact ⟨_, rfl⟩
  rw [cond_f (dec_f (by omega)), if_neg (by omega)]; exact ⟨_, rfl⟩

theorem slow_bad (N : Nat) {s : List UInt8} (hs : 1 ≤ s.length) (hx : firstT (s.getD 0 0).toNat = 241) : ∃ r, unicode_utf8_decodeRuneInStringSlow N s = some (r, 1, ()) := by
  have hb := u8_lt (s.getD 0 0)
  simp only [unicode_utf8_decodeRuneInStringSlow, first_at, hx]
  rw [cond_f (dec_f (by omega)), cond_t (inR_of (by omega) (by omega)), cond_t (inR_nat hb), cond_t (dec_t (by omega)), cond_t (inR_of (by omega) (by omega))]
  exact ⟨_, rfl⟩

abbrev dN (s : List UInt8) (i : Nat) : Nat × Nat := decodeN (s.length - i) (s.getD i 0).toNat (s.getD (i + 1) 0).toNat (s.getD (i + 2) 0).toNat (s.getD (i + 3) 0).toNat

theorem bad_size {n b0 b1 b2 b3 : Nat} (h : (128 ≤ b0 ∧ b0 < 194) ∨ 245 ≤ b0) (hb : b0 < 256) (h1 : b1 < 256) : (decodeN n b0 b1 b2 b3).2 = 1 := by
  unfold decodeN
  repeat' split
  all_goals first | rfl | (exfalso; omega)

theorem dec_size (N : Nat) {s : List UInt8} (hs : 1 ≤ s.length) : ∃ r, unicode_utf8_DecodeRuneInString N s = some (r, (((dN s 0).2 : Nat) : Int), ()) := by
  have hb0 := u8_lt (s.getD 0 0)
  have hb1 := u8_lt (s.getD 1 0)
  have hb2 := u8_lt (s.getD 2 0)
  have hb3 := u8_lt (s.getD 3 0)
  have hne : (s == ([] : List UInt8)) = false := by
    rw [beq_eq_false_iff_ne]; intro e; rw [e] at hs; simp at hs
  simp only [unicode_utf8_DecodeRuneInString, unicode_utf8_DecodeRuneInString_p1, hne, Bool.not_false, cond_true, dN, Nat.sub_zero, Nat.zero_add]
  rw [cond_t (inR_of (by omega) (by omega))]
  by_cases ha : (s.getD 0 0).toNat < 128
  · rw [cond_t (dec_t (by omega)), cond_t (inR_of (by omega) (by omega)), decodeN_ascii _ _ _ _ _ ha]; exact ⟨_, rfl⟩
  rw [cond_f (dec_f (by omega))]
  have fin : ∀ {m : Nat}, (∃ r, unicode_utf8_decodeRuneInStringSlow N s = some (r, ((m : Nat) : Int), ())) → m = (decodeN s.length (s.getD 0 0).toNat (s.getD 1 0).toNat (s.getD 2 0).toNat (s.getD 3 0).toNat).2 → ∃ r, ((unicode_utf8_decodeRuneInStringSlow N s).bind fun y => some (y.1, (y.2.1, ()))) = some (r, (((decodeN s.length (s.getD 0 0).toNat (s.getD 1 0).toNat (s.getD 2 0).toNat (s.getD 3 0).toNat).2 : Nat) : Int), ()) := by
    rintro m ⟨r, e⟩ h
    rw [e, ← h]; exact ⟨_, rfl⟩
  have hbad : firstT (s.getD 0 0).toNat = 241 → ((128 ≤ (s.getD 0 0).toNat ∧ (s.getD 0 0).toNat < 194) ∨ 245 ≤ (s.getD 0 0).toNat) → ∃ r, ((unicode_utf8_decodeRuneInStringSlow N s).bind fun y => some (y.1, (y.2.1, ()))) = some (r, (((decodeN s.length (s.getD 0 0).toNat (s.getD 1 0).toNat (s.getD 2 0).toNat (s.getD 3 0).toNat).2 : Nat) : Int), ()) :=
    fun h1 h2 => fin (m := 1) (slow_bad N hs h1) (bad_size h2 hb0 hb1).symm
  by_cases c1 : (s.getD 0 0).toNat < 194
  · exact hbad (by unfold firstT; rw [if_neg ha, if_pos c1]) (by omega)
  by_cases c2 : (s.getD 0 0).toNat < 224
  · exact fin (slow_size N (c := 2) (sz := 2) (lo := 128) (hi := 191) hs (by unfold firstT; rw [if_neg ha, if_neg c1, if_pos c2]) (by omega) (by kernel_rfl) (by kernel_rfl) (by kernel_rfl) (by omega) (by omega)) (by rw [slow_C2 _ _ _ _ _ hs hb1 hb2 hb3 (by omega)])
  by_cases c3 : (s.getD 0 0).toNat = 224
  · exact fin (slow_size N (c := 19) (sz := 3) (lo := 160) (hi := 191) hs (by rw [c3]; rfl) (by omega) (by kernel_rfl) (by kernel_rfl) (by kernel_rfl) (by omega) (by omega)) (by rw [slow_E0 _ _ _ _ _ hs hb1 hb2 hb3 c3])
  by_cases c4 : (s.getD 0 0).toNat < 237
  · exact fin (slow_size N (c := 3) (sz := 3) (lo := 128) (hi := 191) hs (by unfold firstT; rw [if_neg ha, if_neg c1, if_neg c2, if_neg c3, if_pos c4]) (by omega) (by kernel_rfl) (by kernel_rfl) (by kernel_rfl) (by omega) (by omega)) (by rw [slow_E1 _ _ _ _ _ hs hb1 hb2 hb3 (by omega)])
  by_cases c5 : (s.getD 0 0).toNat = 237
  · exact fin (slow_size N (c := 35) (sz := 3) (lo := 128) (hi := 159) hs (by rw [c5]; rfl) (by omega) (by kernel_rfl) (by kernel_rfl) (by kernel_rfl) (by omega) (by omega)) (by rw [slow_ED _ _ _ _ _ hs hb1 hb2 hb3 c5])
  by_cases c6 : (s.getD 0 0).toNat < 240
  · exact fin (slow_size N (c := 3) (sz := 3) (lo := 128) (hi := 191) hs (by unfold firstT; rw [if_neg ha, if_neg c1, if_neg c2, if_neg c3, if_neg c4, if_neg c5, if_pos c6]) (by omega) (by kernel_rfl) (by kernel_rfl) (by kernel_rfl) (by omega) (by omega)) (by rw [slow_E1 _ _ _ _ _ hs hb1 hb2 hb3 (by omega)])
  by_cases c7 : (s.getD 0 0).toNat = 240
  · exact fin (slow_size N (c := 52) (sz := 4) (lo := 144) (hi := 191) hs (by rw [c7]; rfl) (by omega) (by kernel_rfl) (by kernel_rfl) (by kernel_rfl) (by omega) (by omega)) (by rw [slow_F0 _ _ _ _ _ hs hb1 hb2 hb3 c7])
  by_cases c8 : (s.getD 0 0).toNat < 244
  · exact fin (slow_size N (c := 4) (sz := 4) (lo := 128) (hi := 191) hs (by unfold firstT; rw [if_neg ha, if_neg c1, if_neg c2, if_neg c3, if_neg c4, if_neg c5, if_neg c6, if_neg c7, if_pos c8]) (by omega) (by kernel_rfl) (by kernel_rfl) (by kernel_rfl) (by omega) (by omega)) (by rw [slow_F1 _ _ _ _ _ hs hb1 hb2 hb3 (by omega)])
  by_cases c9 : (s.getD 0 0).toNat = 244
  · exact fin (slow_size N (c := 68) (sz := 4) (lo := 128) (hi := 143) hs (by rw [c9]; rfl) (by omega) (by kernel_rfl) (by kernel_rfl) (by kernel_rfl) (by omega) (by omega)) (by rw [slow_F4 _ _ _ _ _ hs hb1 hb2 hb3 c9])
  exact hbad (by unfold firstT; rw [if_neg ha, if_neg c1, if_neg c2, if_neg c3, if_neg c4, if_neg c5, if_neg c6, if_neg c7, if_neg c8, if_neg c9]) (by omega)

theorem getD_drop8 (l : List UInt8) (i j : Nat) : (l.drop i).getD j 0 = l.getD (i + j) 0 := by
  rw [List.getD_eq_getElem?_getD, List.getElem?_drop, ← List.getD_eq_getElem?_getD]

def unitL (s : List UInt8) (i : Nat) : Nat := (runeAt s i).2

theorem unit_eq (N : Nat) {s : List UInt8} {i : Nat} (hi : i < s.length) : quote_Unit N s (i : Int) = some ((unitL s i : Nat) : Int) := by
  simp only [quote_Unit, quote_Unit_p1, quote_Unit_p2]
  rw [cond_f (dec_f (by omega)), cond_f (dec_f (by omega)), cond_t (dec_t (by omega)), Int.toNat_natCast, cut_all]
  obtain ⟨r, e⟩ := dec_size N (s := s.drop i) (by rw [List.length_drop]; omega)
  rw [e, Option.bind_some]
  dsimp only
  unfold unitL
  rw [rune_N]
  simp only [dN, getD_drop8, List.length_drop, Nat.add_zero, Nat.zero_add, Nat.sub_zero]

end Go.Proofs.YtbkackmlmccpjaaDoorLg

set_option linter.all false
namespace Go.Proofs.YtbkackmlmccpjaaDoorLg
open Go Go.Lift Go.Lib Go.Proofs.YtbkackmlmccpjaaDoorPx

theorem rl_cases {n b0 b1 b2 b3 : Nat} (h0 : b0 < 256) (h1 : b1 < 256) (h2 : b2 < 256) (h3 : b3 < 256) (hb : 128 ≤ b0) :
    ((decodeN n b0 b1 b2 b3).2 = 2 ↔ (194 ≤ b0 ∧ b0 ≤ 223 ∧ 1 < n ∧ 128 ≤ b1 ∧ b1 ≤ 191)) ∧
    ((decodeN n b0 b1 b2 b3).2 = 3 ↔ (224 ≤ b0 ∧ b0 ≤ 239 ∧ 2 < n ∧ (128 ≤ b1 ∧ b1 ≤ 191) ∧ (128 ≤ b2 ∧ b2 ≤ 191) ∧ (b0 ≠ 224 ∨ 160 ≤ b1) ∧ (b0 ≠ 237 ∨ b1 < 160))) ∧
    ((decodeN n b0 b1 b2 b3).2 = 4 ↔ (240 ≤ b0 ∧ b0 ≤ 244 ∧ 3 < n ∧ (128 ≤ b1 ∧ b1 ≤ 191) ∧ (128 ≤ b2 ∧ b2 ≤ 191) ∧ (128 ≤ b3 ∧ b3 ≤ 191) ∧ (b0 ≠ 240 ∨ 144 ≤ b1) ∧ (b0 ≠ 244 ∨ b1 < 144))) ∧
    ((decodeN n b0 b1 b2 b3).2 = 1 ∨ (decodeN n b0 b1 b2 b3).2 = 2 ∨ (decodeN n b0 b1 b2 b3).2 = 3 ∨ (decodeN n b0 b1 b2 b3).2 = 4) := by
  generalize hd : decodeN n b0 b1 b2 b3 = d
  unfold decodeN at hd
  repeat' split at hd
  all_goals (subst hd; dsimp only; omega)

def rl (s : List UInt8) (i : Nat) : Nat := if (s.getD i 0).toNat < 128 then 1 else if unitL s i = 1 then 0 else unitL s i

theorem unitL_pos {s : List UInt8} {i : Nat} (hi : i < s.length) : 1 ≤ unitL s i ∧ i + unitL s i ≤ s.length := by
  unfold unitL
  by_cases h : (s.getD i 0).toNat < 128
  · rw [rune_ascii h]; dsimp only; omega
  · have := rune_high hi (by omega); exact ⟨this.2.1, this.2.2.1⟩

theorem unit_ascii {s : List UInt8} {i : Nat} (h : (s.getD i 0).toNat < 128) : unitL s i = 1 := by unfold unitL; rw [rune_ascii h]

end Go.Proofs.YtbkackmlmccpjaaDoorLg

set_option linter.all false
namespace Go.Proofs.YtbkackmlmccpjaaDoorLg
open Go Go.Lift Go.Lib Go.Proofs.YtbkackmlmccpjaaDoorPx

def hexDigits : List UInt8 := [48, 49, 50, 51, 52, 53, 54, 55, 56, 57, 97, 98, 99, 100, 101, 102]
def hd (n : Nat) : UInt8 := hexDigits.getD n 0

theorem shr4 (n : Nat) : shrI .u8 ((n : Nat) : Int) 4 = ((n / 16 : Nat) : Int) := by
  have : shrI .u8 ((n : Nat) : Int) 4 = ((n : Nat) : Int).fdiv 16 := rfl
  rw [this, Int.fdiv_eq_ediv_of_nonneg _ (by omega)]; rfl

theorem and15 (u : UInt8) : bitsOp .and .u8 ((u.toNat : Nat) : Int) 15 = ((u.toNat % 16 : Nat) : Int) := by
  have := and_u8 u 15
  rw [show (((15 : UInt8).toNat : Nat) : Int) = 15 from rfl] at this
  rw [this, UInt8.toNat_and]
  congr 1
  exact Nat.and_two_pow_sub_one_eq_mod u.toNat 4

def safeL (s : List UInt8) (i : Nat) : Bool := decide (0 < rl s i ∧ 32 ≤ (s.getD i 0).toNat ∧ (s.getD i 0).toNat ≠ 127)

theorem bad_rune {s : List UInt8} {i : Nat} (h : 128 ≤ (s.getD i 0).toNat) (h1 : unitL s i = 1) : (runeAt s i).1 = 65533 := by
  unfold unitL at h1
  rw [rune_N] at h1 ⊢
  rcases decodeN_shape (s.length - i) (s.getD i 0).toNat (s.getD (i + 1) 0).toNat (s.getD (i + 2) 0).toNat (s.getD (i + 3) 0).toNat with ⟨h0, e⟩ | ⟨_, _, _, _, e⟩ | ⟨_, _, _, _, _, _, e⟩ | ⟨_, _, _, _, _, _, _, e⟩ | e
  · omega
  · rw [e] at h1; simp at h1
  · rw [e] at h1; simp at h1
  · rw [e] at h1; simp at h1
  · rw [e]

theorem plain_eq (N : Nat) {s : List UInt8} {i : Nat} (hi : i < s.length) : quote_plain N s (i : Int) (((runeAt s i).1 : Nat) : Int) = some (safeL s i) := by
  simp only [quote_plain, quote_plain_p1, quote_plain_p2]
  by_cases h : (s.getD i 0).toNat < 128
  · rw [rune_ascii h]
    dsimp only
    rw [cond_f (by rw [beq_eq_false_iff_ne]; omega), cond_false]
    by_cases h2 : 32 ≤ (s.getD i 0).toNat
    case neg => rw [cond_f (dec_f (by omega)), safeL, dec_f (fun e => h2 e.2.1)]
    rw [cond_t (dec_t (by omega))]
    by_cases h3 : (s.getD i 0).toNat = 127
    · rw [h3, safeL, dec_f (fun e => e.2.2 h3)]; rfl
    · rw [safeL, dec_t ⟨by rw [rl, if_pos h]; omega, h2, h3⟩]
      congr 1; rw [bne_iff_ne]; omega
  · have hr := rune_high hi (by omega)
    have hp := unitL_pos hi
    rw [unit_eq N hi, Option.bind_some]
    by_cases h1 : unitL s i = 1
    · have hsf : safeL s i = false := dec_f (fun e => by have h0 := e.1; rw [rl, if_neg h, if_pos h1] at h0; omega)
      rw [bad_rune (by omega) h1, h1, hsf]; rfl
    · have hf : (((unitL s i : Nat) : Int) == 1) = false := by rw [beq_eq_false_iff_ne]; omega
      have hsf : safeL s i = true := dec_t ⟨by rw [rl, if_neg h, if_neg h1]; omega, by omega, by omega⟩
      have tail : (cond (decide ((32 : Int) ≤ (((runeAt s i).1 : Nat) : Int))) (some ((((runeAt s i).1 : Nat) : Int) != 127)) (some false)) = some true := by
        rw [cond_t (dec_t (by omega))]; congr 1; rw [bne_iff_ne]; omega
      rw [hf, hsf]
      simp only [cond_false]
      rw [tail]
      cases ((((runeAt s i).1 : Nat) : Int) == 65533) <;> rfl

def piece (s : List UInt8) (i : Nat) : List UInt8 :=
  cond ((s.getD i 0).toNat == 34 || (s.getD i 0).toNat == 92) [92, s.getD i 0] (cond (safeL s i) ((s.drop i).take (unitL s i)) [92, 120, hd ((s.getD i 0).toNat / 16), hd ((s.getD i 0).toNat % 16)])
def textR (s : List UInt8) : Nat → Nat → List UInt8
  | 0, _ => []
  | f + 1, i => cond (decide (i < s.length)) (piece s i ++ textR s f (i + unitL s i)) []

theorem textR_fuel (s : List UInt8) : ∀ (f f' i : Nat), s.length - i ≤ f → s.length - i ≤ f' → textR s f i = textR s f' i
  | 0, f', i, h, h' => by
    cases f' with
    | zero => rfl
    | succ f' => simp only [textR]; rw [dec_f (by omega)]; rfl
  | f + 1, 0, i, h, h' => by simp only [textR]; rw [dec_f (by omega)]; rfl
  | f + 1, f' + 1, i, h, h' => by
    simp only [textR]
    by_cases hi : i < s.length
    · have := unitL_pos hi
      rw [textR_fuel s f f' (i + unitL s i) (by omega) (by omega)]
    · rw [dec_f hi]; rfl

def textS (s : List UInt8) (i : Nat) : List UInt8 := textR s s.length i
theorem textS_step {s : List UInt8} {i : Nat} (hi : i < s.length) : textS s i = piece s i ++ textS s (i + unitL s i) := by
  have := unitL_pos hi
  unfold textS
  rw [textR_fuel s s.length (s.length + 1) i (by omega) (by omega)]
  simp only [textR]
  rw [dec_t hi]; rfl
theorem textS_end {s : List UInt8} {i : Nat} (hi : s.length ≤ i) : textS s i = [] := by
  unfold textS
  cases h : s.length with
  | zero => rfl
  | succ n => simp only [textR]; rw [dec_f (by omega)]; rfl

theorem piece_length {s : List UInt8} {i : Nat} (hi : i < s.length) : (piece s i).length ≤ 4 * unitL s i := by
  have := unitL_pos hi
  unfold piece
  cases ((s.getD i 0).toNat == 34 || (s.getD i 0).toNat == 92)
  · cases safeL s i
    · simp; omega
    · simp; omega
  · simp; omega

theorem ofStr_append (a b : List UInt8) : ofStr (a ++ b) = ofStr a ++ ofStr b := by simp [ofStr]

theorem text_eq (N : Nat) {s : List UInt8} (hs : s.length ≤ 2000) (hN : 2001 < N) : quote_Text N s = some (34 :: (textS s 0 ++ [34])) := by
  simp only [quote_Text, quote_Text_p1]
  rw [iter_eq (I := fun (v : List Int × (List UInt8 × Nat)) => ∃ (o : List UInt8) (i : Nat), v = (ofStr o, (s, i)) ∧ i ≤ s.length ∧ o.length ≤ 4 * i + 1 ∧ o ++ textS s i = 34 :: textS s 0) (m := fun v => s.length - v.2.2) (R := fun _ => some (34 :: (textS s 0 ++ [34]))) ?_ N ([34], (s, 0)) ⟨[34], 0, rfl, by omega, by simp, rfl⟩ (by dsimp only; omega)]
  rintro v r ⟨o, i, rfl, hi, ho, hT⟩ hr
  dsimp only at hr ⊢
  simp only [quote_Text_s1, quote_Text_p2]
  by_cases hlt : i < s.length
  · have hu := unitL_pos hlt
    have hpl := piece_length hlt
    have hb := u8_lt (s.getD i 0)
    rw [textS_step hlt] at hT
    have nxt : r (ofStr o ++ ofStr (piece s i), (s, i + (runeAt s i).2)) = some (34 :: (textS s 0 ++ [34])) :=
      hr _ ⟨o ++ piece s i, i + unitL s i, by rw [ofStr_append]; rfl, hu.2, by rw [List.length_append]; omega, by rw [List.append_assoc]; exact hT⟩ (by show s.length - (i + unitL s i) < s.length - i; omega)
    rw [cond_t (dec_t hlt)]
    have hq : ((((runeAt s i).1 : Nat) : Int) == 34) = ((s.getD i 0).toNat == 34) ∧ ((((runeAt s i).1 : Nat) : Int) == 92) = ((s.getD i 0).toNat == 92) := by
      by_cases h : (s.getD i 0).toNat < 128
      · rw [rune_ascii h]
        constructor <;> (rw [Bool.eq_iff_iff, beq_iff_eq, beq_iff_eq]; dsimp only; omega)
      · have := rune_high hlt (by omega)
        constructor <;> (rw [Bool.eq_iff_iff, beq_iff_eq, beq_iff_eq]; omega)
    have main : ∀ b : Bool, b = ((s.getD i 0).toNat == 34 || (s.getD i 0).toNat == 92) →
        (cond b (cond (inR (i : Int) s.length) (cond (decide (((ofStr o).length + 2) * 1 ≤ 70368744177664)) (r (ofStr o ++ [92, (((s.getD (Int.toNat (i : Int)) 0).toNat : Nat) : Int)], (s, i + (runeAt s i).2))) none) none)
          ((quote_plain N s (i : Int) (((runeAt s i).1 : Nat) : Int)).bind fun y => cond y ((quote_Unit N s (i : Int)).bind fun y1 => cond (decide (0 ≤ IntKind.wrap .i64 ((i : Int) + y1) ∧ IntKind.wrap .i64 ((i : Int) + y1) ≤ (s.length : Int))) (cond (decide ((0 : Int) ≤ (i : Int) ∧ (i : Int) ≤ IntKind.wrap .i64 ((i : Int) + y1))) (cond (decide (((ofStr o).length + (ofStr (cut s (Int.toNat (i : Int)) (Int.toNat (IntKind.wrap .i64 ((i : Int) + y1))))).length) * 1 ≤ 70368744177664)) (r (ofStr o ++ ofStr (cut s (Int.toNat (i : Int)) (Int.toNat (IntKind.wrap .i64 ((i : Int) + y1)))), (s, i + (runeAt s i).2))) none) none) none)
            (cond (inR (i : Int) s.length) (cond (inR (shrI .u8 (((s.getD (Int.toNat (i : Int)) 0).toNat : Nat) : Int) 4) 16) (cond (inR (i : Int) s.length) (cond (inR (bitsOp .and .u8 (((s.getD (Int.toNat (i : Int)) 0).toNat : Nat) : Int) 15) 16) (cond (decide (((ofStr o).length + 4) * 1 ≤ 70368744177664)) (r (ofStr o ++ [92, 120, (((hexDigits.getD (Int.toNat (shrI .u8 (((s.getD (Int.toNat (i : Int)) 0).toNat : Nat) : Int) 4)) 0).toNat : Nat) : Int), (((hexDigits.getD (Int.toNat (bitsOp .and .u8 (((s.getD (Int.toNat (i : Int)) 0).toNat : Nat) : Int) 15)) 0).toNat : Nat) : Int)], (s, i + (runeAt s i).2))) none) none) none) none) none))) = some (34 :: (textS s 0 ++ [34])) := by
      intro b hbq
      have hol : (ofStr o).length = o.length := ofStr_length o
      cases b with
      | true =>
        have hpc : piece s i = [92, s.getD i 0] := by unfold piece; rw [← hbq]; rfl
        rw [cond_true, cond_t (inR_nat hlt), cond_t (dec_t (by omega)), Int.toNat_natCast]
        rw [hpc] at nxt; exact nxt
      | false =>
        rw [cond_false, plain_eq N hlt, Option.bind_some]
        cases hsf : safeL s i with
        | true =>
          have hpc : piece s i = (s.drop i).take (unitL s i) := by unfold piece; rw [← hbq, hsf]; rfl
          have hw : IntKind.wrap .i64 ((i : Int) + ((unitL s i : Nat) : Int)) = ((i + unitL s i : Nat) : Int) := by rw [wrap_in (by unfold I64; omega)]; omega
          rw [cond_true, unit_eq N hlt, Option.bind_some, hw, cond_t (dec_t (by omega)), cond_t (dec_t (by omega)), Int.toNat_natCast, Int.toNat_natCast, cut_mid, cond_t (dec_t (by rw [hol, ofStr_length, List.length_take, List.length_drop]; omega))]
          rw [hpc] at nxt; exact nxt
        | false =>
          have hpc : piece s i = [92, 120, hd ((s.getD i 0).toNat / 16), hd ((s.getD i 0).toNat % 16)] := by unfold piece; rw [← hbq, hsf]; rfl
          rw [cond_false, cond_t (inR_nat hlt), Int.toNat_natCast, shr4, and15, cond_t (inR_nat (by omega)), cond_t (inR_nat hlt), cond_t (inR_nat (by omega)), cond_t (dec_t (by omega)), Int.toNat_natCast, Int.toNat_natCast]
          rw [hpc] at nxt; exact nxt
    rw [hq.1, hq.2]
    cases h34 : ((s.getD i 0).toNat == 34) with
    | true => exact main true (by rw [h34]; rfl)
    | false => exact main _ (by rw [h34]; rfl)
  · rw [textS_end (by omega), List.append_nil] at hT
    rw [cond_f (dec_f hlt), cond_t (dec_t (by rw [ofStr_length]; omega)), toStr_append, toStr_ofStr, hT]; rfl

end Go.Proofs.YtbkackmlmccpjaaDoorLg

set_option linter.all false
namespace Go.Proofs.YtbkackmlmccpjaaDoorLg
open Go Go.Lift Go.Lib Go.Proofs.YtbkackmlmccpjaaDoorPx

theorem rl_ascii {q : List UInt8} {i : Nat} (h : (q.getD i 0).toNat < 128) : rl q i = 1 := by rw [rl, if_pos h]

theorem rl_same {s q : List UInt8} {i p : Nat} (hi : i < s.length) (hr : 0 < rl s i) (hp : p + unitL s i ≤ q.length) (hb : ∀ j, j < unitL s i → q.getD (p + j) 0 = s.getD (i + j) 0) : rl q p = rl s i ∧ rl s i = unitL s i := by
  have hu := unitL_pos hi
  have e0 : q.getD p 0 = s.getD i 0 := hb 0 (by omega)
  by_cases ha : (s.getD i 0).toNat < 128
  · rw [rl_ascii ha, rl_ascii (by rw [e0]; exact ha), unit_ascii ha]; exact ⟨rfl, rfl⟩
  have hq : rl s i = unitL s i ∧ unitL s i ≠ 1 := by
    rw [rl, if_neg ha] at hr ⊢
    by_cases h1 : unitL s i = 1
    · rw [if_pos h1] at hr; omega
    · rw [if_neg h1]; exact ⟨rfl, h1⟩
  have hs1 := u8_lt (s.getD i 0)
  have hs2 := u8_lt (s.getD (i + 1) 0)
  have hs3 := u8_lt (s.getD (i + 2) 0)
  have hs4 := u8_lt (s.getD (i + 3) 0)
  have hq2 := u8_lt (q.getD (p + 1) 0)
  have hq3 := u8_lt (q.getD (p + 2) 0)
  have hq4 := u8_lt (q.getD (p + 3) 0)
  have cs := rl_cases (n := s.length - i) hs1 hs2 hs3 hs4 (by omega)
  have cq := rl_cases (n := q.length - p) hs1 hq2 hq3 hq4 (by omega)
  have us : unitL s i = (decodeN (s.length - i) (s.getD i 0).toNat (s.getD (i + 1) 0).toNat (s.getD (i + 2) 0).toNat (s.getD (i + 3) 0).toNat).2 := by unfold unitL; rw [rune_N]
  have uq : unitL q p = (decodeN (q.length - p) (s.getD i 0).toNat (q.getD (p + 1) 0).toNat (q.getD (p + 2) 0).toNat (q.getD (p + 3) 0).toNat).2 := by unfold unitL; rw [rune_N, e0]
  rw [← us] at cs
  rw [← uq] at cq
  have key : unitL q p = unitL s i := by
    obtain ⟨s2, s3, s4, s1⟩ := cs
    obtain ⟨q2, q3, q4, q1⟩ := cq
    rcases s1 with h | h | h | h
    · exact absurd h hq.2
    · have b1 := hb 1 (by omega)
      rw [b1] at q2
      have := s2.1 h
      rw [h]; exact q2.2 ⟨this.1, this.2.1, by omega, this.2.2.2⟩
    · have b1 := hb 1 (by omega)
      have b2 := hb 2 (by omega)
      rw [b1, b2] at q3
      have := s3.1 h
      rw [h]; exact q3.2 ⟨this.1, this.2.1, by omega, this.2.2.2⟩
    · have b1 := hb 1 (by omega)
      have b2 := hb 2 (by omega)
      have b3 := hb 3 (by omega)
      rw [b1, b2, b3] at q4
      have := s4.1 h
      rw [h]; exact q4.2 ⟨this.1, this.2.1, by omega, this.2.2.2⟩
  have hqa : ¬ (q.getD p 0).toNat < 128 := by rw [e0]; exact ha
  constructor
  · rw [rl, if_neg hqa, key, if_neg hq.2, hq.1]
  · exact hq.1

theorem textS_length {s : List UInt8} : ∀ (n i : Nat), s.length - i ≤ n → (textS s i).length ≤ 4 * (s.length - i)
  | n, i, h => by
    by_cases hi : i < s.length
    · have hu := unitL_pos hi
      have hp := piece_length hi
      cases n with
      | zero => omega
      | succ n =>
        rw [textS_step hi, List.length_append]
        have := textS_length (s := s) n (i + unitL s i) (by omega)
        omega
    · rw [textS_end (by omega)]; simp

theorem hd_ok : ∀ n, n < 16 → 32 ≤ (hd n).toNat ∧ (hd n).toNat < 127 ∧ (hd n).toNat ≠ 34 ∧ (hd n).toNat ≠ 92 := by decide

end Go.Proofs.YtbkackmlmccpjaaDoorLg

set_option linter.all false
namespace Go.Proofs.YtbkackmlmccpjaaDoorLg
open Go Go.Lift Go.Lib Go.Proofs.YtbkackmlmccpjaaDoorPx

theorem dig_hd16 (N : Nat) : ∀ m, m < 16 → quote_digit N (((hd m).toNat : Nat) : Int) = some ((m : Int), true, ()) := by
  intro m hm
  obtain rfl | rfl | rfl | rfl | rfl | rfl | rfl | rfl | rfl | rfl | rfl | rfl | rfl | rfl | rfl | rfl : m = 0 ∨ m = 1 ∨ m = 2 ∨ m = 3 ∨ m = 4 ∨ m = 5 ∨ m = 6 ∨ m = 7 ∨ m = 8 ∨ m = 9 ∨ m = 10 ∨ m = 11 ∨ m = 12 ∨ m = 13 ∨ m = 14 ∨ m = 15 := by omega
  all_goals kernel_rfl

theorem nib : ∀ a b : Fin 16, bitsOp .or .u8 (shlI .u8 (bitsOp .or .u8 (shlI .u8 (0 : Int) 4) (a.1 : Int)) 4) (b.1 : Int) = ((16 * a.1 + b.1 : Nat) : Int) := by decide +kernel

theorem iter_succ {σ β : Type} (step : σ → (σ → Option β) → Option β) (n : Nat) (x : σ) : iter step (n + 1) x = step x (iter step n) := rfl

theorem esc1 (N : Nat) {c : UInt8} {r : List UInt8} (h : c.toNat = 34 ∨ c.toNat = 92) : quote_escape N (c :: r) = some (((c.toNat : Nat) : Int), 1, 0, ()) := by
  have hne : ((c :: r) == ([] : List UInt8)) = false := rfl
  simp only [quote_escape, quote_escape_p1, quote_escape_p2, hne, cond_false, List.getD_cons_zero]
  have hin : inR (0 : Int) (c :: r).length = true := inR_of (by omega) (by simp)
  simp only [hin, cond_true]
  rcases h with h | h
  · rw [cond_t (by rw [beq_iff_eq]; omega)]
  · rw [cond_f (by rw [beq_eq_false_iff_ne]; omega), cond_t (by rw [beq_iff_eq]; omega)]

theorem esc3 (k : Nat) {n : Nat} {r : List UInt8} (hn : n < 256) : quote_escape (k + 10) (120 :: hd (n / 16) :: hd (n % 16) :: r) = some ((n : Int), 3, 0, ()) := by
  have hne : ((120 :: hd (n / 16) :: hd (n % 16) :: r) == ([] : List UInt8)) = false := rfl
  have hl : ((120 :: hd (n / 16) :: hd (n % 16) :: r) : List UInt8).length = r.length + 3 := rfl
  have hb := nib ⟨n / 16, by omega⟩ ⟨n % 16, by omega⟩
  dsimp only at hb
  rw [show 16 * (n / 16) + n % 16 = n by omega] at hb
  have g1 : List.getD (120 :: hd (n / 16) :: hd (n % 16) :: r) (Int.toNat 1) 0 = hd (n / 16) := rfl
  have g2 : List.getD (120 :: hd (n / 16) :: hd (n % 16) :: r) (Int.toNat 2) 0 = hd (n % 16) := rfl
  have w1 : IntKind.wrap .i64 ((1 : Int) + 1) = 2 := by kernel_rfl
  have w2 : IntKind.wrap .i64 ((2 : Int) + 1) = 3 := by kernel_rfl
  simp only [quote_escape, quote_escape_p1, quote_escape_p2, hne, cond_false, List.getD_cons_zero, hl]
  have hin : inR (0 : Int) (r.length + 3) = true := inR_of (by omega) (by omega)
  simp only [hin, cond_true]
  rw [cond_f (by rfl), cond_f (by rfl), cond_f (by rfl)]
  simp only [quote_escape_p3]
  rw [show k + 10 = (k + 9) + 1 from rfl, iter_succ]
  simp only [quote_escape_s3, hl, g1]
  rw [cond_t (by rfl), cond_f (by rw [beq_eq_false_iff_ne]; omega), cond_t (inR_of (by omega) (by omega)), dig_hd16 _ _ (by omega), Option.bind_some, Bool.not_true, cond_false, w1]
  rw [show k + 9 = (k + 8) + 1 from rfl, iter_succ]
  simp only [hl, g2]
  rw [cond_t (by rfl), cond_f (by rw [beq_eq_false_iff_ne]; omega), cond_t (inR_of (by omega) (by omega)), dig_hd16 _ _ (by omega), Option.bind_some, Bool.not_true, cond_false, w2, hb]
  rw [show k + 8 = (k + 7) + 1 from rfl, iter_succ]
  simp only []
  rw [cond_f (by rfl)]

theorem rune_drop (X : List UInt8) (F i : Nat) : runeAt (X.drop F) i = runeAt X (F + i) := by
  rw [rune_N, rune_N, getD_drop8, getD_drop8, getD_drop8, getD_drop8, List.length_drop, show X.length - F - i = X.length - (F + i) by omega]
  rfl

theorem unsafe_unit {s : List UInt8} {i : Nat} (h : safeL s i = false) : unitL s i = 1 := by
  by_cases ha : (s.getD i 0).toNat < 128
  · exact unit_ascii ha
  · rcases Nat.lt_or_ge 1 (unitL s i) with h1 | h1
    · have : safeL s i = true := dec_t ⟨by rw [rl, if_neg ha, if_neg (by omega)]; omega, by omega, by omega⟩
      rw [this] at h; cases h
    · rcases Nat.lt_or_ge i s.length with hi | hi
      · have := unitL_pos hi; omega
      · exfalso; rw [List.getD_eq_getElem?_getD, List.getElem?_eq_none hi] at ha; exact ha (by decide)

theorem take_add' (s : List UInt8) (i n : Nat) : ofStr (s.take i) ++ ofStr ((s.drop i).take n) = ofStr (s.take (i + n)) := by
  rw [← ofStr_append, List.take_add]
theorem take_one (s : List UInt8) {i : Nat} (h : i < s.length) : ofStr (s.take i) ++ [(((s.getD i 0).toNat : Nat) : Int)] = ofStr (s.take (i + 1)) := by
  rw [take_succ s 0 i h, ofStr_append]; rfl

theorem body_eq (k : Nat) {s a b X : List UInt8} {F : Nat} (hs : s.length ≤ 2000) (hX : X.length ≤ 300000) (hF : F ≤ X.length) (hd0 : X.drop F = textS s 0 ++ 34 :: b) :
    quote_body (k + 1000000) X (F : Int) = some (s, ((F + (textS s 0).length + 1 : Nat) : Int), (0, 0, ()), ()) := by
  have hul : (X.drop F).length = X.length - F := List.length_drop ..
  have hul2 : X.length - F = (textS s 0).length + (b.length + 1) := by rw [← hul, hd0, List.length_append]; rfl
  simp only [quote_body, quote_body_p1]
  rw [cond_t (dec_t (by omega)), Int.toNat_natCast, cut_all]
  rw [iter_eq (I := fun (v : List Int × Int × (List UInt8 × Nat)) => ∃ (idx i nx : Nat) (h : List UInt8), v = (ofStr (s.take i), (nx : Int), (X.drop F, idx)) ∧ i ≤ s.length ∧ idx ≤ X.length - F ∧ (X.drop F).drop idx = h ++ (textS s i ++ 34 :: b) ∧ (∀ x ∈ h, x.toNat < 128) ∧ (h = [] → nx ≤ F + idx) ∧ (h ≠ [] → nx = F + idx + h.length)) (m := fun v => X.length - F - v.2.2.2) (R := fun _ => some (s, ((F + (textS s 0).length + 1 : Nat) : Int), (0, 0, ()), ())) ?_ (k + 1000000) ([], (F : Int), (X.drop F, 0)) ⟨0, 0, F, [], rfl, by omega, by omega, hd0, by simp, fun _ => by omega, fun h => absurd rfl h⟩ (by dsimp only; omega)]
  rintro v r ⟨idx, i, nx, h, rfl, hi, hix, hd', hh, hn0, hn1⟩ hr
  dsimp only at hr ⊢
  have hlen : X.length - F - idx = h.length + ((textS s i).length + (b.length + 1)) := by
    have := congrArg List.length hd'
    rw [List.length_drop, hul, List.length_append, List.length_append] at this; exact this
  have hidx : idx < (X.drop F).length := by omega
  have hg : ∀ j, (X.drop F).getD (idx + j) 0 = (h ++ (textS s i ++ 34 :: b)).getD j 0 := by intro j; rw [← hd', getD_drop8 (X.drop F) idx j]
  have hg2 : ∀ j, X.getD (F + idx + j) 0 = (h ++ (textS s i ++ 34 :: b)).getD j 0 := by intro j; rw [← hg j, getD_drop8, Nat.add_assoc]
  have hw : IntKind.wrap .i64 ((idx : Int) + (F : Int)) = ((F + idx : Nat) : Int) := by rw [wrap_in (by unfold I64; omega)]; omega
  have hw1 : IntKind.wrap .i64 (((F + idx : Nat) : Int) + 1) = ((F + idx + 1 : Nat) : Int) := wrap_succ (by omega)
  have hti : (s.take i).length ≤ 2000 := by rw [List.length_take]; omega
  simp only [quote_body_s1, hw, hw1]
  rw [cond_t (dec_t hidx)]
  cases h with
  | cons x h' =>
    have h0 : (X.drop F).getD idx 0 = x := by have := hg 0; simpa using this
    have hx := hh x (by simp)
    have := hn1 (by simp)
    rw [cond_t (dec_t (by simp at this; omega)), rune_ascii (by rw [h0]; exact hx)]
    refine hr _ ⟨idx + 1, i, nx, h', rfl, hi, by omega, by rw [← List.drop_drop, hd']; rfl, fun y hy => hh y (by simp [hy]), fun e => ?_, fun e => ?_⟩ (by dsimp only; omega)
    · subst e; simp at this; omega
    · simp at this; omega
  | nil =>
    have hnx := hn0 rfl
    rw [List.nil_append] at hd' hg hg2
    rw [cond_f (dec_f (by omega))]
    by_cases hlt : i < s.length
    · have hu := unitL_pos hlt
      have hb := u8_lt (s.getD i 0)
      rw [textS_step hlt, List.append_assoc] at hd' hg hg2
      rw [textS_step hlt, List.length_append] at hlen
      have hcut : ∀ (p r' : List UInt8), piece s i = 92 :: p → (X.drop F).getD idx 0 = 92 ∧ cut X (F + idx + 1) X.length = p ++ (textS s (i + unitL s i) ++ 34 :: b) := by
        intro p r' hp
        rw [hp] at hd' hg
        refine ⟨by have := hg 0; simpa using this, ?_⟩
        rw [cut_all, show F + idx + 1 = F + (idx + 1) by omega, ← List.drop_drop, ← List.drop_drop, hd']; rfl
      by_cases hesc : ((s.getD i 0).toNat == 34 || (s.getD i 0).toNat == 92) = true
      · have hpc : piece s i = [92, s.getD i 0] := by unfold piece; rw [hesc]; rfl
        obtain ⟨h0, hc⟩ := hcut [s.getD i 0] [] hpc
        have hq : (s.getD i 0).toNat = 34 ∨ (s.getD i 0).toNat = 92 := by simpa using hesc
        have hu1 : unitL s i = 1 := unit_ascii (by omega)
        rw [hpc] at hlen hd'
        rw [rune_ascii (by rw [h0]; decide), h0, cond_f (by rfl), cond_t (by rfl), cond_t (dec_t (by simp at hlen; omega)), Int.toNat_natCast, hc, List.cons_append, esc1 _ hq, Option.bind_some, cond_f (by rfl), cond_f (by rfl), cond_t (dec_t (by rw [ofStr_length]; omega)), take_one s hlt]
        refine hr _ ⟨idx + 1, i + 1, F + idx + 2, [s.getD i 0], ?_, by omega, by simp at hlen; omega, by rw [← List.drop_drop, hd', hu1]; rfl, ?_, fun e => (by cases e), fun _ => rfl⟩ (by dsimp only; simp at hlen; omega)
        · dsimp only
          rw [wrap_in (by unfold I64; omega)]
          congr 2
        · intro y hy; rw [List.mem_singleton] at hy; rw [hy]; omega
      · rw [Bool.not_eq_true] at hesc
        cases hsf : safeL s i with
        | true =>
          have hpc : piece s i = (s.drop i).take (unitL s i) := by unfold piece; rw [hesc, hsf]; rfl
          have hsf' := hsf
          rw [safeL, decide_eq_true_eq] at hsf'
          have hne : (s.getD i 0).toNat ≠ 34 ∧ (s.getD i 0).toNat ≠ 92 := by
            rw [Bool.or_eq_false_iff, beq_eq_false_iff_ne, beq_eq_false_iff_ne] at hesc; exact hesc
          have hpcl : ((s.drop i).take (unitL s i)).length = unitL s i := by rw [List.length_take, List.length_drop]; omega
          rw [hpc] at hd' hg2 hlen
          rw [hpcl] at hlen
          have hbytes : ∀ j, j < unitL s i → X.getD (F + idx + j) 0 = s.getD (i + j) 0 := by
            intro j hj
            rw [hg2 j, List.getD_eq_getElem?_getD, List.getElem?_append_left (by rw [hpcl]; exact hj), List.getElem?_take_of_lt hj, List.getElem?_drop, ← List.getD_eq_getElem?_getD]
          have h0 : X.getD (F + idx) 0 = s.getD i 0 := hbytes 0 (by omega)
          have hsame := rl_same (q := X) (p := F + idx) hlt hsf'.1 (by omega) hbytes
          have hself := rl_same (s := X) (q := X) (i := F + idx) (p := F + idx) (by omega) (by rw [hsame.1]; exact hsf'.1) (by have := unitL_pos (s := X) (i := F + idx) (by omega); omega) (fun j _ => rfl)
          have hux : unitL X (F + idx) = unitL s i := by rw [← hself.2, hsame.1, hsame.2]
          have hsx : safeL X (F + idx) = true := dec_t ⟨by rw [hsame.1]; exact hsf'.1, by rw [h0]; exact hsf'.2.1, by rw [h0]; exact hsf'.2.2⟩
          have hrx : (runeAt (X.drop F) idx).2 = unitL s i := by rw [rune_drop]; exact hux
          have hru : (runeAt X (F + idx)).1 ≠ 34 ∧ (runeAt X (F + idx)).1 ≠ 92 := by
            by_cases hasc : (X.getD (F + idx) 0).toNat < 128
            · rw [rune_ascii hasc, h0]; exact hne
            · have := (rune_high (s := X) (i := F + idx) (by omega) (by omega)).1; omega
          have hcm : cut X (F + idx) (F + idx + unitL s i) = (s.drop i).take (unitL s i) := by
            rw [cut_mid, ← List.drop_drop, hd', List.take_append_of_le_length (by omega), List.take_of_length_le (by omega)]
          have hw2 : IntKind.wrap .i64 (((F + idx : Nat) : Int) + ((unitL s i : Nat) : Int)) = ((F + idx + unitL s i : Nat) : Int) := by rw [wrap_in (by unfold I64; omega)]; omega
          rw [hrx, rune_drop, cond_f (by rw [beq_eq_false_iff_ne]; omega), cond_f (by rw [beq_eq_false_iff_ne]; omega), plain_eq _ (by omega), Option.bind_some, hsx, cond_true, unit_eq _ (by omega), Option.bind_some, hux, hw2, cond_t (dec_t (by omega)), cond_t (dec_t (by omega)), Int.toNat_natCast, Int.toNat_natCast, hcm, cond_t (dec_t (by rw [ofStr_length, ofStr_length, hpcl]; omega)), take_add']
          refine hr _ ⟨idx + unitL s i, i + unitL s i, nx, [], rfl, hu.2, by omega, ?_, by simp, fun _ => by omega, fun e => absurd rfl e⟩ (by dsimp only; omega)
          rw [← List.drop_drop, hd', List.drop_append_of_le_length (by omega), List.drop_of_length_le (by omega)]
        | false =>
          have hpc : piece s i = [92, 120, hd ((s.getD i 0).toNat / 16), hd ((s.getD i 0).toNat % 16)] := by unfold piece; rw [hesc, hsf]; rfl
          obtain ⟨h0, hc⟩ := hcut [120, hd ((s.getD i 0).toNat / 16), hd ((s.getD i 0).toNat % 16)] [] hpc
          have hu1 : unitL s i = 1 := unsafe_unit hsf
          have he3 := esc3 (k + 999990) (n := (s.getD i 0).toNat) (r := textS s (i + unitL s i) ++ 34 :: b) hb
          rw [hpc] at hlen hd'
          rw [rune_ascii (by rw [h0]; decide), h0, cond_f (by rfl), cond_t (by rfl), cond_t (dec_t (by simp at hlen; omega)), Int.toNat_natCast, hc, List.cons_append, List.cons_append, List.cons_append, List.nil_append]
          rw [show k + 999990 + 10 = k + 1000000 from rfl] at he3
          rw [he3, Option.bind_some, cond_f (by rfl), cond_f (by rfl), cond_t (dec_t (by rw [ofStr_length]; omega)), take_one s hlt]
          refine hr _ ⟨idx + 1, i + 1, F + idx + 4, [120, hd ((s.getD i 0).toNat / 16), hd ((s.getD i 0).toNat % 16)], ?_, by omega, by simp at hlen; omega, by rw [← List.drop_drop, hd', hu1]; rfl, ?_, fun e => (by cases e), fun _ => rfl⟩ (by dsimp only; simp at hlen; omega)
          · dsimp only
            rw [wrap_in (by unfold I64; omega)]
            congr 2
          · intro y hy
            simp only [List.mem_cons, List.mem_nil_iff, or_false] at hy
            have k1 := hd_ok ((s.getD i 0).toNat / 16) (by omega)
            have k2 := hd_ok ((s.getD i 0).toNat % 16) (by omega)
            rcases hy with rfl | rfl | rfl
            · decide
            · omega
            · omega
    · have hie : i = s.length := by omega
      rw [textS_end (by omega)] at hd' hg hlen
      have h0 : (X.drop F).getD idx 0 = 34 := by have := hg 0; simpa using this
      rw [rune_ascii (by rw [h0]; decide), h0, cond_t (by rfl), toStr_ofStr, hie, List.take_length]
      simp at hlen
      rw [show F + idx + 1 = F + (textS s 0).length + 1 by omega]

end Go.Proofs.YtbkackmlmccpjaaDoorLg

set_option linter.all false
set_option maxRecDepth 100000
namespace Go.Proofs.YtbkackmlmccpjaaDoorLg
open Go Go.Lift Go.Proofs.YtbkackmlmccpjaaDoorPx

def partL (x : LabD) : List UInt8 := (x.1 ++ [61]) ++ (34 :: (textS x.2.1 0 ++ [34]))

def textP (l : List LabD) : List UInt8 := ([123] ++ Lib.join (l.map partL) [44, 32]) ++ [125]

def Sm (l : List LabD) : Prop := l.length ≤ 40 ∧ ∀ i, i < l.length → (nmL l i).length ≤ 100 ∧ (l.getD i (([] : List UInt8), (([] : List UInt8), ()))).2.1.length ≤ 1100

theorem part_len {x : LabD} (h1 : x.1.length ≤ 100) (h2 : x.2.1.length ≤ 1100) : (partL x).length ≤ 4600 := by
  have := textS_length (s := x.2.1) x.2.1.length 0 (by omega)
  simp [partL]
  omega

theorem joinTail_len {m : Nat} (sep : List UInt8) : ∀ (r : List (List UInt8)), (∀ x ∈ r, x.length ≤ m) → (Lib.joinTail sep r).length ≤ r.length * (m + sep.length)
  | [], _ => by simp [Lib.joinTail]
  | x :: r, h => by
    have ih := joinTail_len sep r (fun y hy => h y (List.mem_cons_of_mem _ hy))
    have hx := h x (List.mem_cons_self ..)
    have e : Lib.joinTail sep (x :: r) = (sep ++ x) ++ Lib.joinTail sep r := rfl
    rw [e, List.length_append, List.length_append, List.length_cons, Nat.succ_mul]
    omega

theorem join_len {m : Nat} (sep : List UInt8) {r : List (List UInt8)} (h : ∀ x ∈ r, x.length ≤ m) : (Lib.join r sep).length ≤ r.length * (m + sep.length) := by
  cases r with
  | nil => simp [Lib.join_nil]
  | cons x r =>
    have := joinTail_len sep r (fun y hy => h y (List.mem_cons_of_mem _ hy))
    have hx := h x (List.mem_cons_self ..)
    rw [Lib.join_cons, List.length_append, List.length_cons, Nat.succ_mul]
    omega

theorem sm_mem {l : List LabD} (h : Sm l) : ∀ x ∈ l, x.1.length ≤ 100 ∧ x.2.1.length ≤ 1100 := by
  intro x hx
  obtain ⟨i, hi, e⟩ := List.mem_iff_getElem.1 hx
  have := h.2 i hi
  rw [nmL, List.getD_eq_getElem?_getD, List.getElem?_eq_getElem hi, Option.getD_some, e] at this
  exact this

theorem sm_join {l : List LabD} (h : Sm l) (k : Nat) : (Lib.join ((l.take k).map partL) [44, 32]).length ≤ 184080 := by
  have := join_len (m := 4600) [44, 32] (r := (l.take k).map partL) (fun x hx => by
    obtain ⟨y, hy, rfl⟩ := List.mem_map.1 hx
    obtain ⟨h1, h2⟩ := sm_mem h y (List.mem_of_mem_take hy)
    exact part_len h1 h2)
  have hl : ((l.take k).map partL).length ≤ 40 := by rw [List.length_map, List.length_take]; have := h.1; omega
  have h2 : ((l.take k).map partL).length * (4600 + ([44, 32] : List UInt8).length) ≤ 40 * 4602 := Nat.mul_le_mul hl (Nat.le_refl _)
  omega

theorem textP_len {l : List LabD} (h : Sm l) : (textP l).length ≤ 184090 := by
  have := sm_join h l.length
  rw [List.take_length] at this
  simp [textP]; omega

theorem set_next {α : Type} (A : List α) (x d : α) (n i : Nat) (hi : A.length = i) : (A ++ List.replicate (n + 1) d).set i x = (A ++ [x]) ++ List.replicate n d := by
  rw [List.set_append_right _ _ (by omega), hi, Nat.sub_self, List.replicate_succ, List.set_cons_zero, List.append_assoc]; rfl

theorem parts_eq (N : Nat) {l : List LabD} (h : Sm l) (hN : 3000 < N) (k0) : labels_Text_p1 N (List.replicate l.length []) l (l.length : Int) 0 k0 = k0 (l.map partL) := by
  rw [labels_Text_p1, iter_eq (I := fun (v : List (List UInt8) × Int) => ∃ i : Nat, v.2 = (i : Int) ∧ i ≤ l.length ∧ v.1 = (l.take i).map partL ++ List.replicate (l.length - i) []) (m := fun v => l.length - v.2.toNat) (R := fun _ => k0 (l.map partL)) ?_ N (List.replicate l.length [], 0) ⟨0, rfl, by omega, rfl⟩ (by have := h.1; simp; omega)]
  rintro ⟨ps, v⟩ r ⟨i, hv, hi, hp⟩ hr
  dsimp only at hv hp hr ⊢
  subst hv
  rw [labels_Text_s1]
  have h40 := h.1
  rcases Nat.lt_or_ge i l.length with hlt | hge
  · obtain ⟨g1, g2⟩ := h.2 i hlt
    have g1' : (l.getD i (([] : List UInt8), (([] : List UInt8), ()))).1.length ≤ 100 := g1
    have hts := textS_length (s := (l.getD i (([] : List UInt8), (([] : List UInt8), ()))).2.1) _ 0 (Nat.le_refl _)
    have hpl : ps.length = l.length := by rw [hp]; simp; omega
    rw [cond_t (dec_t (by omega)), cond_t (inR_nat hlt), Int.toNat_natCast, cond_t (dec_t (by omega)), text_eq N (by omega) (by omega), Option.bind_some, cond_t (dec_t (by simp only [List.length_append, List.length_cons, List.length_nil]; omega)), cond_t (inR_nat (by omega)), cond_t (dec_t (by omega)), wrap_in (x := (i : Int) + 1) (by unfold I64; omega)]
    refine hr (_, (i : Int) + 1) ⟨i + 1, by simp, by omega, ?_⟩ (by simp; omega)
    dsimp only
    have hA : ((l.take i).map partL).length = i := by simp; omega
    rw [hp, show l.length - i = (l.length - (i + 1)) + 1 by omega, set_next _ _ _ _ _ hA, List.take_succ_eq_append_getElem hlt, List.map_append]
    have : l.getD i (([] : List UInt8), (([] : List UInt8), ())) = l[i] := by simp [List.getD, hlt]
    rw [this]; rfl
  · have : i = l.length := by omega
    subst this
    rw [cond_f (dec_f (by omega)), hp, List.take_length, Nat.sub_self]
    simp

theorem ltext_eq (N : Nat) {l : List LabD} (h : Sm l) (hN : 3000 < N) : labels_Text N l = some (textP l) := by
  have h40 := h.1
  have hj := sm_join h l.length
  rw [List.take_length] at hj
  unfold labels_Text
  rw [cond_t (dec_t ⟨by omega, by omega, by omega, by omega⟩), Int.toNat_natCast, parts_eq N h hN]
  have hF : join_F (l.map partL, ([44, 32], ())) = some (Lib.join (l.map partL) [44, 32]) := by
    unfold join_F
    dsimp only
    rw [cond_t (by rw [Bool.and_eq_true]; exact ⟨dec_t (by simp; omega), dec_t (by omega)⟩)]
  rw [hF, Option.bind_some, cond_t (dec_t (by omega)), cond_t (dec_t (by simp; omega))]
  rfl


def needP (s : List UInt8) (p w : Nat) : Int × (Int × Unit) := if p = s.length then (1, (p : Int), ()) else if (s.getD p 0).toNat = w then (0, 0, ()) else (2, (p : Int), ())

def isB (s : List UInt8) (p w : Nat) : Bool := decide (p < s.length ∧ (s.getD p 0).toNat = w)

theorem need_eq (N : Nat) {s : List UInt8} {p w : Nat} (hp : p ≤ s.length) : labels_need N s (p : Int) (w : Int) = some (needP s p w) := by
  unfold labels_need needP
  by_cases h : p = s.length
  · rw [if_pos h, cond_t (by rw [beq_iff_eq]; omega)]
  · rw [if_neg h, cond_f (by rw [beq_eq_false_iff_ne]; omega), cond_t (inR_nat (by omega)), Int.toNat_natCast]
    by_cases h2 : (s.getD p 0).toNat = w
    · rw [if_pos h2, cond_f (by rw [bne_eq_false_iff_eq]; omega)]
    · rw [if_neg h2, cond_t (by rw [bne_iff_ne]; omega)]

theorem need_zero {s : List UInt8} {p w : Nat} (hp : p ≤ s.length) : ((needP s p w).1 = 0) ↔ isB s p w = true := by
  unfold needP isB
  rw [decide_eq_true_eq]
  by_cases h : p = s.length
  · rw [if_pos h]; simp; omega
  · rw [if_neg h]
    by_cases h2 : (s.getD p 0).toNat = w
    · rw [if_pos h2]; simp only [true_iff]; exact ⟨by omega, h2⟩
    · rw [if_neg h2]; simp; intro _; simpa using h2

theorem has_eq' (N : Nat) {s : List UInt8} {p w : Nat} (hp : p ≤ s.length) : labels_has N s (p : Int) (w : Int) = some (isB s p w) := by
  unfold labels_has
  rw [need_eq N hp, Option.bind_some]
  cases h : isB s p w with
  | true => rw [(need_zero hp).2 h]; rfl
  | false =>
    have : ¬ (needP s p w).1 = 0 := fun e => by rw [(need_zero hp).1 e] at h; cases h
    rw [beq_eq_false_iff_ne.2 this]

end Go.Proofs.YtbkackmlmccpjaaDoorLg

set_option linter.all false
set_option maxRecDepth 100000
namespace Go.Proofs.YtbkackmlmccpjaaDoorLg
open Go Go.Lift Go.Proofs.YtbkackmlmccpjaaDoorPx


theorem zL_eq {l : List LabD} {z : List (List UInt8)} (hz : z.Pairwise (· < ·)) (hm : ∀ x, x ∈ z ↔ ∃ i, i < l.length ∧ nmL l i = x) : zL l = z := by
  have tr : ∀ a b c : List UInt8, leB a b = true → leB b c = true → leB a c = true := fun a b c h1 h2 => by simp only [leB, decide_eq_true_eq] at *; exact List.le_trans h1 h2
  have to : ∀ a b : List UInt8, (leB a b || leB b a) = true := fun a b => by simp only [leB, Bool.or_eq_true, decide_eq_true_eq]; exact List.le_total a b
  have hp := List.pairwise_mergeSort tr to (strKeys (plD l l.length))
  have hnz : z.Nodup := hz.imp fun {a b} h e => by rw [e] at h; exact List.lt_irrefl _ h
  have hperm : (zL l).Perm z := by
    refine (List.perm_ext_iff_of_nodup (zL_nodup l) hnz).2 fun x => ?_
    rw [hm]
    constructor
    · intro h
      obtain ⟨t, ht, e⟩ := mem_idx h
      obtain ⟨i, hi, hn⟩ := zn_mem (l := l) ht
      exact ⟨i, hi, by rw [hn]; exact e⟩
    · rintro ⟨i, hi, rfl⟩; exact zL_mem' hi
  refine List.Perm.eq_of_pairwise (le := fun a b => leB a b = true) (fun a b _ _ h1 h2 => ?_) hp (hz.imp fun {a b} h => ?_) hperm
  · simp only [leB, decide_eq_true_eq] at h1 h2
    exact List.le_antisymm h1 h2
  · simp only [leB, decide_eq_true_eq]
    exact List.le_of_lt h

def Rises (l : List LabD) : Prop := ∀ i j, i < j → j < l.length → nmL l i < nmL l j

theorem rises_distinct {l : List LabD} (h : Rises l) : distinctL l := fun i j hij hj e => by
  have := h i j hij hj
  rw [e] at this; exact List.lt_irrefl _ this

theorem nm_get {l : List LabD} {i : Nat} (hi : i < l.length) : nmL l i = l[i].1 := by simp [nmL, List.getD, hi]

theorem rises_z {l : List LabD} (h : Rises l) : zL l = l.map (·.1) := by
  refine zL_eq ?_ fun x => ?_
  · rw [List.pairwise_map, List.pairwise_iff_getElem]
    intro i j hi hj hij
    have := h i j hij hj
    rw [nm_get hi, nm_get hj] at this
    exact this
  · rw [List.mem_map]
    constructor
    · rintro ⟨y, hy, rfl⟩
      obtain ⟨i, hi, e⟩ := List.mem_iff_getElem.1 hy
      exact ⟨i, hi, by rw [nm_get hi, e]⟩
    · rintro ⟨i, hi, rfl⟩
      exact ⟨l[i], List.getElem_mem hi, by rw [nm_get hi]⟩

theorem rises_out {l : List LabD} (h : Rises l) : ofOut l = l.filter fun x => !x.2.1.isEmpty := by
  have hz := rises_z h
  rw [ofOut, ofTo, List.take_length, show znD (plD l l.length) = zL l from rfl, hz, List.map_map]
  congr 1
  apply List.ext_getElem
  · simp
  · intro i h1 h2
    simp only [List.getElem_map, Function.comp]
    rw [← nm_get h2, lbOf_at (rises_distinct h) h2]
    simp [List.getD, h2]


def good (l : List LabD) (j : Nat) : Prop := aloneP (l.getD j (([] : List UInt8), (([] : List UInt8), ()))) = 0 ∧ (l.getD j (([] : List UInt8), (([] : List UInt8), ()))).2.1 ≠ [] ∧ (j ≠ 0 → nmL l (j - 1) < nmL l j)

theorem lt_of_not {a b : List UInt8} (h1 : ¬ a = b) (h2 : ¬ a < b) : b < a := by
  rcases List.le_iff_lt_or_eq.1 (List.not_lt.1 h2) with h | h
  · exact h
  · exact absurd h.symm h1

theorem rightFrom_iff (l : List LabD) : ∀ n i, (rightFrom l n i = 0 ↔ ∀ j, i ≤ j → j < i + n → good l j)
  | 0, i => by
    constructor
    · intro _ j h1 h2; omega
    · intro _; rfl
  | n + 1, i => by
    have ih := rightFrom_iff l n (i + 1)
    rw [rightFrom]
    have split : (∀ j, i ≤ j → j < i + (n + 1) → good l j) ↔ good l i ∧ ∀ j, i + 1 ≤ j → j < i + 1 + n → good l j := by
      constructor
      · intro h; exact ⟨h i (Nat.le_refl _) (by omega), fun j h1 h2 => h j (by omega) (by omega)⟩
      · rintro ⟨h1, h2⟩ j h3 h4
        rcases Nat.lt_or_ge i j with h | h
        · exact h2 j h (by omega)
        · have : j = i := by omega
          subst this; exact h1
    rw [split, ← ih]
    unfold good
    by_cases ha : aloneP (l.getD i (([] : List UInt8), (([] : List UInt8), ()))) = 0
    · rw [if_pos ha]
      by_cases hv : (l.getD i (([] : List UInt8), (([] : List UInt8), ()))).2.1 = []
      · rw [if_pos hv]
        exact ⟨fun h => absurd h (by decide), fun h => absurd hv h.1.2.1⟩
      · rw [if_neg hv]
        by_cases h0 : i = 0
        · rw [if_pos h0]
          exact ⟨fun h => ⟨⟨ha, hv, fun h' => absurd h0 h'⟩, h⟩, fun h => h.2⟩
        · rw [if_neg h0]
          by_cases he : nmL l i = nmL l (i - 1)
          · rw [if_pos he]
            exact ⟨fun h => absurd h (by decide), fun h => by have := h.1.2.2 h0; rw [he] at this; exact absurd this (List.lt_irrefl _)⟩
          · rw [if_neg he]
            by_cases hc : cmpL (nmL l i) (nmL l (i - 1)) < 0
            · rw [if_pos hc]
              exact ⟨fun h => absurd h (by decide), fun h => absurd (List.lt_trans (h.1.2.2 h0) ((lt_cmp _ _).1 hc)) (List.lt_irrefl _)⟩
            · rw [if_neg hc]
              exact ⟨fun h => ⟨⟨ha, hv, fun _ => lt_of_not he (fun e => hc ((lt_cmp _ _).2 e))⟩, h⟩, fun h => h.2⟩
    · rw [if_neg ha]
      exact ⟨fun h => absurd h ha, fun h => absurd h.1.1 ha⟩

theorem right_zero {l : List LabD} : rightP l = 0 ↔ l.length ≤ 32 ∧ ∀ j, j < l.length → good l j := by
  unfold rightP
  by_cases h : 32 < l.length
  · rw [if_pos h]
    exact ⟨fun h => absurd h (by decide), fun h' => by omega⟩
  · rw [if_neg h, rightFrom_iff]
    exact ⟨fun h' => ⟨by omega, fun j hj => h' j (by omega) (by omega)⟩, fun h' j _ hj => h'.2 j (by omega)⟩

theorem good_rises {l : List LabD} (h : ∀ j, j < l.length → good l j) : Rises l := by
  intro i j hij
  induction j with
  | zero => omega
  | succ j ih =>
    intro hj
    have h1 := (h (j + 1) hj).2.2 (by omega)
    rw [Nat.add_sub_cancel] at h1
    rcases Nat.lt_or_ge i j with h2 | h2
    · exact List.lt_trans (ih h2 (by omega)) h1
    · have : i = j := by omega
      subst this; exact h1

theorem scan_zero : ∀ {l : List LabD}, (∀ x ∈ l, aloneP x = 0) → scanP l = 0
  | [], _ => rfl
  | x :: xs, h => by
    rw [scanP, if_pos (h x (List.mem_cons_self ..)), scan_zero fun y hy => h y (List.mem_cons_of_mem _ hy)]

theorem getD_mem {l : List LabD} {P : LabD → Prop} (h : ∀ i, i < l.length → P (l.getD i (([] : List UInt8), (([] : List UInt8), ())))) : ∀ x ∈ l, P x := by
  intro x hx
  obtain ⟨i, hi, e⟩ := List.mem_iff_getElem.1 hx
  have := h i hi
  rw [List.getD_eq_getElem?_getD, List.getElem?_eq_getElem hi, Option.getD_some, e] at this
  exact this

theorem of_right {l : List LabD} (h : rightP l = 0) : ofP l = (l, 0, ()) := by
  obtain ⟨h1, h2⟩ := right_zero.1 h
  have hr := good_rises h2
  have hs := scan_zero (getD_mem (P := fun x => aloneP x = 0) fun i hi => (h2 i hi).1)
  unfold ofP
  rw [if_neg (by omega), if_pos hs, if_pos (rises_distinct hr), rises_out hr, List.filter_eq_self.2 fun x hx => by
    have := getD_mem (P := fun x => x.2.1 ≠ []) (fun i hi => (h2 i hi).2.1) x hx
    cases hh : x.2.1 with
    | nil => exact absurd hh this
    | cons a b => rfl]


theorem lb_name {l : List LabD} (hd : distinctL l) {n : List UInt8} (h : n ∈ zL l) : (lbOf l n).1 = n ∧ lbOf l n ∈ l := by
  obtain ⟨t, ht, e⟩ := mem_idx h
  obtain ⟨i, hi, hn⟩ := zn_mem (l := l) ht
  have e2 : nmL l i = n := by rw [hn]; exact e
  rw [← e2, lbOf_at hd hi]
  exact ⟨rfl, by rw [List.getD_eq_getElem?_getD, List.getElem?_eq_getElem hi]; exact List.getElem_mem hi⟩

theorem out_list (l : List LabD) : ofOut l = ((zL l).map (lbOf l)).filter fun x => !x.2.1.isEmpty := by
  rw [ofOut, ofTo, List.take_length]

theorem out_pair {l : List LabD} (hd : distinctL l) : (ofOut l).Pairwise fun a b => a.1 < b.1 := by
  rw [out_list]
  refine List.Pairwise.filter _ (List.pairwise_map.2 ?_)
  rw [List.pairwise_iff_getElem]
  intro i j hi hj hij
  have := zL_lt hij hj
  rw [List.getD_eq_getElem?_getD, List.getElem?_eq_getElem hi, List.getD_eq_getElem?_getD, List.getElem?_eq_getElem hj] at this
  rw [(lb_name hd (List.getElem_mem hi)).1, (lb_name hd (List.getElem_mem hj)).1]
  exact this

theorem out_mem {l : List LabD} (hd : distinctL l) : ∀ x ∈ ofOut l, x ∈ l ∧ x.2.1 ≠ [] := by
  intro x hx
  rw [out_list, List.mem_filter, List.mem_map] at hx
  obtain ⟨⟨n, hn, rfl⟩, h2⟩ := hx
  exact ⟨(lb_name hd hn).2, fun e => by rw [e] at h2; cases h2⟩

theorem out_right {l : List LabD} (h32 : l.length ≤ 32) (hs : scanP l = 0) (hd : distinctL l) : rightP (ofOut l) = 0 := by
  have hol := ofTo_len l (zL l).length
  rw [zL_len hd] at hol
  have hol' : (ofOut l).length ≤ l.length := by
    rw [ofOut, show (znD (plD l l.length)).length = (zL l).length from rfl, zL_len hd]; exact hol
  refine right_zero.2 ⟨by omega, fun j hj => ?_⟩
  have hm := out_mem hd (ofOut l)[j] (List.getElem_mem hj)
  have ha : aloneP (ofOut l)[j] = 0 := getD_mem (P := fun x => aloneP x = 0) (scan_ok hs) _ hm.1
  have e : (ofOut l).getD j (([] : List UInt8), (([] : List UInt8), ())) = (ofOut l)[j] := by simp [List.getD, hj]
  unfold good
  rw [e]
  refine ⟨ha, hm.2, fun h0 => ?_⟩
  have := List.pairwise_iff_getElem.1 (out_pair hd) (j - 1) j (by omega) hj (by omega)
  rw [nm_get (by omega), nm_get hj]
  exact this


abbrev wL : List LabD := [(([(97 : UInt8)] : List UInt8), (([(49 : UInt8)] : List UInt8), ())), (([(98 : UInt8)] : List UInt8), (([] : List UInt8), ()))]

theorem wL_rises : Rises wL := by
  intro i j hij hj
  have : j < 2 := hj
  have h1 : i = 0 := by omega
  have h2 : j = 1 := by omega
  subst h1; subst h2
  exact (lt_cmp _ _).1 (by decide)

theorem works11 (k : Nat) : porterlaw11_works (k + 1000000) = some true := by
  rw [porterlaw11_works, of_eq (k + 1000000) (l := wL) (by intro i hi; have : i < 2 := hi; rcases (by omega : i = 0 ∨ i = 1) with rfl | rfl <;> decide) (by omega), Option.bind_some]
  have ho : ofP wL = ([(([(97 : UInt8)] : List UInt8), (([(49 : UInt8)] : List UInt8), ()))], 0, ()) := by
    unfold ofP
    rw [if_neg (by decide), if_pos (by decide), if_pos (rises_distinct wL_rises), rises_out wL_rises]
    rfl
  have hp : labels_Parse (k + 1000000) ([(123 : UInt8), (97 : UInt8), (61 : UInt8), (34 : UInt8), (49 : UInt8), (34 : UInt8), (44 : UInt8), (32 : UInt8), (98 : UInt8), (61 : UInt8), (34 : UInt8), (34 : UInt8), (125 : UInt8)] : List UInt8) = some (wL, (0, 0, ()), ()) := by kernel_rfl
  have ht : labels_Text (k + 1000000) wL = some [(123 : UInt8), (97 : UInt8), (61 : UInt8), (34 : UInt8), (49 : UInt8), (34 : UInt8), (44 : UInt8), (32 : UInt8), (98 : UInt8), (61 : UInt8), (34 : UInt8), (34 : UInt8), (125 : UInt8)] := by kernel_rfl
  rw [ho, hp, Option.bind_some, ht, Option.bind_some, cond_t (by rfl), cond_t (by rfl), cond_t (by rfl), sameLab_eq (k + 1000000) wL (by show (2 : Nat) < _; omega) (by decide), Option.bind_some, cond_true, cond_t (by rfl), right_eq (k + 1000000) (by omega), Option.bind_some, cond_t (by rfl), get_eq (k + 1000000) (by show (2 : Nat) < _; omega) (by decide), Option.bind_some]
  rfl


theorem sm_of {l : List LabD} (h : l.length ≤ 40 ∧ ∀ i, i < l.length → (nmL l i).length ≤ 100 ∧ (l.getD i (([] : List UInt8), (([] : List UInt8), ()))).2.1.length ≤ 1100) : Sm l := h

theorem out_len {l : List LabD} : (ofP l).1.length ≤ l.length := by
  unfold ofP
  split
  · exact Nat.zero_le _
  · split
    · split
      · rename_i hd
        have := ofTo_len l (zL l).length
        rw [zL_len hd] at this
        show (ofOut l).length ≤ _
        rw [ofOut, show (znD (plD l l.length)).length = (zL l).length from rfl, zL_len hd]; exact this
      · exact Nat.zero_le _
    · exact Nat.zero_le _


theorem drop_step {s u t : List UInt8} {p : Nat} (h : s.drop p = u ++ t) : s.drop (p + u.length) = t := by
  rw [← List.drop_drop, h, List.drop_left]

theorem at_step {s u t : List UInt8} {p j : Nat} (h : s.drop p = u ++ t) : s.getD (p + j) 0 = (u ++ t).getD j 0 := by
  rw [← h, getD_drop8]

theorem drop_lt {s t : List UInt8} {p : Nat} (h : s.drop p = t) (ht : t ≠ []) : p < s.length ∧ s.length = p + t.length := by
  have := congrArg List.length h
  rw [List.length_drop] at this
  have h2 : 0 < t.length := by cases t with | nil => exact absurd rfl ht | cons a b => simp
  omega

theorem one_label (k : Nat) {s t : List UInt8} {p : Nat} {x : LabD} (hs : s.length ≤ 290000) (hx : aloneP x = 0) (hv : x.2.1.length ≤ 1100) (hd : s.drop p = partL x ++ t) :
    labels_takeLabel (k + 1000000) s (p : Int) = some (x, ((p + (partL x).length : Nat) : Int), (0, 0, ()), ()) := by
  have hlab : labelL x.1 = true := by
    unfold aloneP at hx
    by_cases h : labelL x.1 = true
    · exact h
    · rw [if_neg h] at hx; exact absurd hx (by decide)
  have hne : partL x ++ t ≠ [] := by simp [partL]
  obtain ⟨hp1, hp2⟩ := drop_lt hd hne
  have hrun : s.drop p = x.1 ++ 61 :: (34 :: (textS x.2.1 0 ++ 34 :: t)) := by rw [hd, partL]; simp
  have hstop : runS labS (s.drop p) true = x.1.length := by
    rw [hrun]
    have hall : allS labS x.1 true = true := by
      unfold labelL at hlab
      rw [Bool.and_eq_true] at hlab
      exact hlab.2
    exact runS_stop labS 61 labS_eq _ x.1 true hall
  have htake : (s.drop p).take x.1.length = x.1 := by rw [hrun, List.take_left]
  have hpl : (partL x).length = x.1.length + 1 + (1 + ((textS x.2.1 0).length + 1)) := by simp [partL]; omega
  have hlen : (partL x ++ t).length = (partL x).length + t.length := List.length_append
  have h61 : s.getD (p + x.1.length) 0 = 61 := by
    rw [at_step (u := x.1) (t := 61 :: (34 :: (textS x.2.1 0 ++ 34 :: t))) hrun, List.getD_eq_getElem?_getD, List.getElem?_append_right (Nat.le_refl _), Nat.sub_self]; rfl
  have hd1 : s.drop (p + x.1.length) = [61] ++ (34 :: (textS x.2.1 0 ++ 34 :: t)) := drop_step hrun
  have hd2 : s.drop (p + x.1.length + 1) = [34] ++ (textS x.2.1 0 ++ 34 :: t) := drop_step hd1
  have hd3 : s.drop (p + x.1.length + 1 + 1) = textS x.2.1 0 ++ 34 :: t := drop_step hd2
  have h34 : s.getD (p + x.1.length + 1) 0 = 34 := by
    have := at_step (j := 0) hd2
    rw [Nat.add_zero] at this; rw [this]; rfl
  have hr : quote_Read (k + 1000000) s ((p + x.1.length + 1 : Nat) : Int) = some (x.2.1, ((p + x.1.length + 1 + 1 + (textS x.2.1 0).length + 1 : Nat) : Int), (0, 0, ()), ()) := by
    simp only [quote_Read, quote_Read_p1, quote_Read_p2]
    rw [cond_f (dec_f (by omega)), cond_f (dec_f (by omega)), cond_f (by rw [beq_eq_false_iff_ne]; omega), cond_t (inR_nat (by omega)), Int.toNat_natCast, h34, cond_f (by decide), wrap_in (x := ((p + x.1.length + 1 : Nat) : Int) + 1) (by unfold I64; omega), show ((p + x.1.length + 1 : Nat) : Int) + 1 = ((p + x.1.length + 1 + 1 : Nat) : Int) by omega, body_eq k (a := []) (by omega) (by omega) (by omega) hd3]
    rfl
  rw [labels_takeLabel, cond_f (by rw [beq_eq_false_iff_ne]; omega), cut_name (k + 1000000) (by omega) (by omega), if_pos ⟨by omega, by omega⟩, Option.bind_some, Int.toNat_natCast, hstop, htake, label_eq _ (by omega), Option.bind_some, hlab, Bool.not_true, cond_false, show ((p : Int) + (x.1.length : Int)) = ((p + x.1.length : Nat) : Int) by omega, show (61 : Int) = ((61 : Nat) : Int) from rfl, need_eq _ (by omega), Option.bind_some, cond_f (bne_eq_false_iff_eq.2 ((need_zero (by omega)).2 (by rw [isB, h61]; exact decide_eq_true ⟨by omega, by decide⟩))), wrap_in (x := ((p + x.1.length : Nat) : Int) + 1) (by unfold I64; omega), show ((p + x.1.length : Nat) : Int) + 1 = ((p + x.1.length + 1 : Nat) : Int) by omega, hr, Option.bind_some, cond_f (by rfl)]
  rw [show p + x.1.length + 1 + 1 + (textS x.2.1 0).length + 1 = p + (partL x).length by omega]

theorem isB_at {s u t : List UInt8} {p w : Nat} {c : UInt8} (h : s.drop p = c :: t) : isB s p w = decide (c.toNat = w) := by
  obtain ⟨h1, _⟩ := drop_lt h (by simp)
  have : s.getD p 0 = c := by
    have := at_step (u := [c]) (t := t) (j := 0) h
    rw [Nat.add_zero] at this; rw [this]; rfl
  rw [isB, this]
  by_cases hc : c.toNat = w
  · rw [dec_t hc, dec_t ⟨h1, hc⟩]
  · rw [dec_f hc, dec_f fun e => hc e.2]

theorem take_loop (k : Nat) {s b : List UInt8} (hs : s.length ≤ 290000) : ∀ (xs : List LabD) (x : LabD) (acc : List LabD) (p n : Nat), (∀ y ∈ x :: xs, aloneP y = 0 ∧ y.2.1.length ≤ 1100) →
    s.drop p = Lib.join ((x :: xs).map partL) [44, 32] ++ 125 :: b → acc.length + xs.length + 1 ≤ 32 → xs.length < n →
    iter (fun (v : (Int × (List LabD))) r => labels_takeList_s1 (k + 1000000) s ((0 : Int), ((0 : Int), ())) v.1 v.2 (fun at_ l => (r (at_, l))) (fun x4 x5 x6 => some (x4, (x5, (x6, ())))) (fun x41 x51 x61 => some (x41, (x51, (x61, ()))))) n ((p : Int), acc) =
      some (acc ++ x :: xs, ((p + (Lib.join ((x :: xs).map partL) [44, 32]).length + 1 : Nat) : Int), (0, 0, ()), ()) := by
  intro xs
  induction xs with
  | nil =>
    intro x acc p n hv hd hl hn
    obtain ⟨n, rfl⟩ : ∃ m, n = m + 1 := ⟨n - 1, by omega⟩
    rw [List.map_cons, List.map_nil, Lib.join_one] at hd ⊢
    obtain ⟨hv1, hv2⟩ := hv x (List.mem_cons_self ..)
    obtain ⟨hp1, hp2⟩ := drop_lt hd (by simp [partL])
    have hd2 := drop_step hd
    obtain ⟨hp3, hp4⟩ := drop_lt hd2 (by simp)
    have hl2 : acc.length ≤ 31 := by omega
    have hal : ¬ ((acc.length : Nat) : Int) = 32 := by omega
    rw [iter_succ, labels_takeList_s1, labels_takeList_p2, labels_takeList_p3, cond_t (dec_t (by omega)), cond_f (beq_eq_false_iff_ne.2 hal), one_label k hs hv1 hv2 hd, Option.bind_some, cond_f (by rfl), cond_t (dec_t (show (acc.length + 1) * 32 ≤ 70368744177664 by omega)), show (125 : Int) = ((125 : Nat) : Int) from rfl, has_eq' _ (by omega), Option.bind_some, isB_at (u := []) hd2, cond_t (by decide), wrap_in (x := ((p + (partL x).length : Nat) : Int) + 1) (by unfold I64; omega)]
    rfl
  | cons y ys ih =>
    intro x acc p n hv hd hl hn
    obtain ⟨n, rfl⟩ : ∃ m, n = m + 1 := ⟨n - 1, by omega⟩
    obtain ⟨hv1, hv2⟩ := hv x (List.mem_cons_self ..)
    have hj : Lib.join ((x :: y :: ys).map partL) [44, 32] = partL x ++ ([44, 32] ++ Lib.join ((y :: ys).map partL) [44, 32]) := by
      rw [List.map_cons, Lib.join_cons, List.map_cons, Lib.join_cons]
      show _ = _ ++ ([44, 32] ++ (partL y ++ _))
      rw [show Lib.joinTail [44, 32] (partL y :: ys.map partL) = ([44, 32] ++ partL y) ++ Lib.joinTail [44, 32] (ys.map partL) from rfl, List.append_assoc]
    rw [hj, List.append_assoc, List.append_assoc] at hd
    obtain ⟨hp1, hp2⟩ := drop_lt hd (by simp [partL])
    have hd2 := drop_step hd
    have hd3 : s.drop (p + (partL x).length + 1) = 32 :: (Lib.join ((y :: ys).map partL) [44, 32] ++ 125 :: b) := drop_step (u := [44]) hd2
    have hd4 : s.drop (p + (partL x).length + 2) = Lib.join ((y :: ys).map partL) [44, 32] ++ 125 :: b := drop_step (u := [44, 32]) hd2
    obtain ⟨hp3, hp4⟩ := drop_lt hd2 (by simp)
    obtain ⟨hp5, hp6⟩ := drop_lt hd3 (by simp)
    have hl2 : acc.length ≤ 31 := by omega
    have hal : ¬ ((acc.length : Nat) : Int) = 32 := by omega
    have hw3 : IntKind.wrap .i64 (((p + (partL x).length : Nat) : Int) + 1) = ((p + (partL x).length + 1 : Nat) : Int) := by rw [wrap_in (by unfold I64; omega)]; omega
    have hw4 : IntKind.wrap .i64 (((p + (partL x).length : Nat) : Int) + 2) = ((p + (partL x).length + 2 : Nat) : Int) := by rw [wrap_in (by unfold I64; omega)]; omega
    have hw5 : IntKind.wrap .i64 (((p + (partL x).length : Nat) : Int) + 0) = ((p + (partL x).length : Nat) : Int) := by rw [wrap_in (by unfold I64; omega)]; omega
    have hih := ih y (acc ++ [x]) (p + (partL x).length + 2) n (fun z hz => hv z (List.mem_cons_of_mem _ hz)) hd4 (by simp at hl ⊢; omega) (by simp at hn; omega)
    rw [iter_succ, labels_takeList_s1, labels_takeList_p2, labels_takeList_p3, cond_t (dec_t (by omega)), cond_f (beq_eq_false_iff_ne.2 hal), one_label k hs hv1 hv2 hd, Option.bind_some, cond_f (by rfl), cond_t (dec_t (show (acc.length + 1) * 32 ≤ 70368744177664 by omega)), show (125 : Int) = ((125 : Nat) : Int) from rfl, has_eq' _ (by omega), Option.bind_some, isB_at (u := []) (c := 44) hd2, cond_f (by decide), labels_takeList_p4, show k + 1000000 = (k + 999997) + 1 + 1 + 1 from rfl, iter_succ, labels_takeList_s4, cond_t (by rfl), cond_t (by rfl), hw5, show List.getD [(44 : Int), (32 : Int)] (Int.toNat 0) 0 = ((44 : Nat) : Int) from rfl, need_eq _ (by omega), Option.bind_some, cond_f (bne_eq_false_iff_eq.2 ((need_zero (by omega)).2 (by rw [isB_at (u := []) (c := 44) hd2]; decide))), show IntKind.wrap .i64 ((0 : Int) + 1) = 1 from rfl, iter_succ, labels_takeList_s4, cond_t (by rfl), cond_t (by rfl), hw3, show List.getD [(44 : Int), (32 : Int)] (Int.toNat 1) 0 = ((32 : Nat) : Int) from rfl, need_eq _ (by omega), Option.bind_some, cond_f (bne_eq_false_iff_eq.2 ((need_zero (by omega)).2 (by rw [isB_at (u := []) (c := 32) hd3]; decide))), show IntKind.wrap .i64 ((1 : Int) + 1) = 2 from rfl, iter_succ, labels_takeList_s4, cond_f (by rfl), hw4]
    refine Eq.trans hih ?_
    rw [hj, List.append_assoc, List.length_append, List.length_append]
    simp only [List.length_cons, List.length_nil, List.cons_append, List.nil_append]
    congr 3
    omega

theorem take_back (k : Nat) {l : List LabD} {a b : List UInt8} (hl : l.length ≤ 32) (hv : ∀ y ∈ l, aloneP y = 0 ∧ y.2.1.length ≤ 1100) (hs : ((a ++ textP l) ++ b).length ≤ 290000) :
    labels_Take (k + 1000000) ((a ++ textP l) ++ b) (a.length : Int) = some (l, ((a.length + (textP l).length : Nat) : Int), (0, 0, ()), ()) := by
  generalize hsd : (a ++ textP l) ++ b = s at hs
  have hd : s.drop a.length = 123 :: (Lib.join (l.map partL) [44, 32] ++ 125 :: b) := by
    rw [← hsd, List.append_assoc, List.drop_left, textP]
    simp
  obtain ⟨hp1, hp2⟩ := drop_lt hd (by simp)
  have hd1 : s.drop (a.length + 1) = Lib.join (l.map partL) [44, 32] ++ 125 :: b := drop_step (u := [123]) hd
  have hw3 : IntKind.wrap .i64 ((a.length : Int) + 1) = ((a.length + 1 : Nat) : Int) := by rw [wrap_in (by unfold I64; omega)]; omega
  rw [labels_Take, labels_Take_p1, labels_Take_p2, cond_f (dec_f (by omega)), cond_f (dec_f (by omega)), show (123 : Int) = ((123 : Nat) : Int) from rfl, need_eq _ (by omega), Option.bind_some, cond_f (bne_eq_false_iff_eq.2 ((need_zero (by omega)).2 (by rw [isB_at (u := []) hd]; decide))), hw3, show (125 : Int) = ((125 : Nat) : Int) from rfl, has_eq' _ (by omega), Option.bind_some]
  cases l with
  | nil =>
    have hd2 : s.drop (a.length + 1) = 125 :: b := hd1
    rw [isB_at (u := []) hd2, cond_t (by decide), wrap_in (x := (a.length : Int) + 2) (by unfold I64; omega)]
    rfl
  | cons x xs =>
    have hne : isB s (a.length + 1) 125 = false := by
      have hx := (hv x (List.mem_cons_self ..)).1
      have hlab : labelL x.1 = true := by
        unfold aloneP at hx
        by_cases h : labelL x.1 = true
        · exact h
        · rw [if_neg h] at hx; exact absurd hx (by decide)
      obtain ⟨q, hq⟩ : ∃ q, Lib.join ((x :: xs).map partL) [44, 32] ++ 125 :: b = x.1 ++ q := by
        rw [List.map_cons, Lib.join_cons, partL, List.append_assoc, List.append_assoc, List.append_assoc]; exact ⟨_, rfl⟩
      rw [hq] at hd1
      cases hx1 : x.1 with
      | nil => rw [hx1] at hlab; cases hlab
      | cons c cs =>
        rw [hx1] at hd1 hlab
        rw [isB_at (u := []) (c := c) hd1]
        refine decide_eq_false fun e => ?_
        unfold labelL at hlab
        rw [Bool.and_eq_true] at hlab
        have h2 : (labS c.toNat true && allS labS cs false) = true := hlab.2
        rw [Bool.and_eq_true, e] at h2
        exact absurd h2.1 (by decide)
    rw [hne, cond_false, labels_takeList, labels_takeList_p1, take_loop k hs xs x [] (a.length + 1) (k + 1000000) hv hd1 (by simp at hl ⊢; omega) (by simp at hl; omega), Option.bind_some]
    have : a.length + 1 + (Lib.join ((x :: xs).map partL) [44, 32]).length + 1 = a.length + (textP (x :: xs)).length := by simp [textP]; omega
    rw [this]; rfl

theorem back_law11 (k : Nat) (l : List LabD) (a b : List UInt8) : porterlaw11_LabelsBack (k + 1000000) l a b = some true := by
  rw [porterlaw11_LabelsBack, porterlaw11_LabelsBack_p1, porterlaw11_LabelsBack_p2, works11]
  obtain ⟨g, hb, hg⟩ := great_eq (k + 1000000) (l := l) (by omega)
  rw [hb, Option.bind_some]
  cases g with
  | true => rfl
  | false =>
    have hsm := sm_of (hg rfl)
    obtain ⟨h40, hl⟩ := hg rfl
    have hl' : ∀ i, i < l.length → (nmL l i).length ≤ 1000 := fun i hi => by have := (hl i hi).1; omega
    have ho := out_len (l := l)
    have htl := textP_len hsm
    rw [cond_false]
    by_cases ha : 50 < a.length
    · rw [cond_t (dec_t (by omega))]; rfl
    rw [cond_f (dec_f (by omega))]
    by_cases hbl : 50 < b.length
    · rw [dec_t (by omega)]; rfl
    rw [dec_f (by omega), cond_false, porterlaw11_LabelsBack_p3, right_eq _ (by omega), Option.bind_some, of_eq _ hl' (by omega), Option.bind_some, Option.bind_some]
    have rest : (cond ((ofP l).2.1 != (0 : Int)) (cond ((((List.length (ofP l).1) : Nat) : Int) == (0 : Int)) ((some true : Option Bool).bind fun y1 => some y1) (some false))
      ((labels_Text (k + 1000000) l).bind fun y2 =>
        cond (decide (((List.length a) + (List.length y2)) ≤ 9223372036854775807))
        (cond (decide (((List.length (a ++ y2)) + (List.length b)) ≤ 9223372036854775807))
          ((labels_Take (k + 1000000) ((a ++ y2) ++ b) (((List.length a) : Nat) : Int)).bind fun y3 =>
            (labels_Right (k + 1000000) (ofP l).1).bind fun y4 =>
            cond (y4 == (0 : Int))
            ((porterbase_SameLabels (k + 1000000) y3.1 l).bind fun y5 =>
              cond y5
              (cond (eqD (T.pair (T.int Go.IntKind.i64) (T.pair (T.int Go.IntKind.i64) T.unit)) y3.2.2.1 ((0 : Int), ((0 : Int), ())))
                ((labels_Text (k + 1000000) l).bind fun y6 =>
                  cond (y3.2.1 == (IntKind.wrap .i64 ((((List.length a) : Nat) : Int) + (((List.length y6) : Nat) : Int))))
                  ((some true : Option Bool).bind fun y7 => some y7)
                  (some false))
                (some false))
              (some false))
            (some false))
          (none))
        (none))) = some true := by
      by_cases he : (ofP l).2.1 = 0
      case neg =>
        rw [cond_t (bne_iff_ne.2 he)]
        have : (ofP l).1 = [] := by
          unfold ofP at he ⊢
          split
          · rfl
          · rename_i h32
            rw [if_neg h32] at he
            split
            · rename_i hs
              rw [if_pos hs] at he
              split
              · rename_i hd
                rw [if_pos hd] at he
                exact absurd rfl he
              · rfl
            · rfl
        rw [this]; rfl
      obtain ⟨h32, hs, hd, hm⟩ : l.length ≤ 32 ∧ scanP l = 0 ∧ distinctL l ∧ (ofP l).1 = ofOut l := by
        unfold ofP at he ⊢
        split at he
        · exact absurd he (by decide)
        · rename_i h32
          split at he
          · rename_i hs
            split at he
            · rename_i hd
              exact ⟨by omega, hs, hd, by rw [if_neg h32, if_pos hs, if_pos hd]⟩
            · exact absurd he (by decide)
          · rename_i hs
            exact absurd he hs
      have hT := take_back k (l := l) (a := a) (b := b) h32 (getD_mem (P := fun y => aloneP y = 0 ∧ y.2.1.length ≤ 1100) fun i hi => ⟨scan_ok hs i hi, (hl i hi).2⟩) (by simp only [List.length_append]; omega)
      rw [cond_f (bne_eq_false_iff_eq.2 he), ltext_eq _ hsm (by omega), Option.bind_some, cond_t (dec_t (by omega)), cond_t (dec_t (by simp only [List.length_append]; omega)), hT, Option.bind_some, right_eq _ (by omega), Option.bind_some, hm, out_right h32 hs hd, cond_t (by rfl), sameLab_eq _ l (by omega) (by omega), Option.bind_some, cond_true, cond_t (by rfl), Option.bind_some, wrap_in (x := (a.length : Int) + ((textP l).length : Int)) (by unfold I64; omega), cond_t (by rw [beq_iff_eq]; show ((a.length + (textP l).length : Nat) : Int) = _; omega)]
      rfl
    by_cases hr : rightP l = 0
    · rw [cond_t (beq_iff_eq.2 hr), porterlaw11_LabelsBack_p4, of_right hr, cond_f (by rfl), sameLab_eq _ l (by omega) (by omega), Option.bind_some, Bool.not_true, cond_false]
      rw [of_right hr] at rest
      exact rest
    · rw [cond_f (beq_eq_false_iff_ne.2 hr)]
      exact rest

end Go.Proofs.YtbkackmlmccpjaaDoorLg
