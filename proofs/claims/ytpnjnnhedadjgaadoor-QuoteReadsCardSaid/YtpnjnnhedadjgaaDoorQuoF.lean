/- The layer quote: the document's runes are the tables' runes. -/
import Derived.Test.YtpnjnnhedadjgaaDoorQuoM
set_option linter.all false
namespace Go.Proofs.YtpnjnnhedadjgaaDoorLf
open Go Go.Lift Go.Lib Go.Proofs.YtpnjnnhedadjgaaDoorPx

def tl (b : Nat) : Bool := decide (128 ≤ b ∧ b ≤ 191)
def allT (s : List UInt8) : Nat → Nat → Bool
  | _, 0 => true
  | a, n + 1 => tl (s.getD a 0).toNat && allT s (a + 1) n

theorem trail_eq (N : Nat) {s : List UInt8} {a n : Nat} (ha : a ≤ s.length) (hs : s.length ≤ 100000) (hn : n ≤ 3) (hN : 8 < N) : porterref10_trail N s (a : Int) (n : Int) = some (decide (a + n ≤ s.length) && allT s a n) := by
  simp only [porterref10_trail, porterref10_trail_p1]
  rw [wrap_in (x := (s.length : Int) - (a : Int)) (by unfold I64; omega)]
  by_cases h : a + n ≤ s.length
  case neg => rw [cond_t (dec_t (by omega)), dec_f h]; rfl
  rw [cond_f (dec_f (by omega)), dec_t h, Bool.true_and]
  rw [iter_eq (I := fun (v : Int) => ∃ j : Nat, v = ((a + j : Nat) : Int) ∧ j ≤ n) (m := fun v => a + n - v.toNat) (R := fun v => some (allT s v.toNat (a + n - v.toNat))) ?_ N (a : Int) ⟨0, rfl, by omega⟩ (by simp; omega)]
  · rw [Int.toNat_natCast, show a + n - a = n by omega]
  rintro v r ⟨j, rfl, hj⟩ hr
  rw [Int.toNat_natCast] at hr ⊢
  simp only [porterref10_trail_s1, porterref10_trail_p2, porterref10_trail_p3]
  rw [wrap_in (x := (a : Int) + (n : Int)) (by unfold I64; omega)]
  by_cases hlt : j < n
  · rw [cond_t (dec_t (by omega)), cond_t (inR_nat (by omega)), cond_t (inR_nat (by omega)), Int.toNat_natCast, show a + n - (a + j) = (n - (j + 1)) + 1 by omega]
    simp only [allT]
    by_cases h1 : (s.getD (a + j) 0).toNat < 128
    · rw [cond_t (dec_t (by omega)), tl, dec_f (by omega)]; rfl
    rw [cond_f (dec_f (by omega))]
    by_cases h2 : 191 < (s.getD (a + j) 0).toNat
    · rw [cond_t (dec_t (by omega)), tl, dec_f (by omega)]; rfl
    rw [cond_f (dec_f (by omega)), wrap_in (x := ((a + j : Nat) : Int) + 1) (by unfold I64; omega)]
    have := hr (((a + j : Nat) : Int) + 1) ⟨j + 1, by omega, by omega⟩ (by omega)
    rw [this, show (((a + j : Nat) : Int) + 1).toNat = a + j + 1 by omega, show a + n - (a + j + 1) = n - (j + 1) by omega, tl, dec_t (by omega), Bool.true_and]
  · rw [cond_f (dec_f (by omega)), show a + n - (a + j) = 0 by omega]; rfl

theorem rl_cases {n b0 b1 b2 b3 : Nat} (h0 : b0 < 256) (h1 : b1 < 256) (h2 : b2 < 256) (h3 : b3 < 256) (hb : 128 ≤ b0) :
    ((decodeN n b0 b1 b2 b3).2 = 2 ↔ (194 ≤ b0 ∧ b0 ≤ 223 ∧ 1 < n ∧ 128 ≤ b1 ∧ b1 ≤ 191)) ∧
    ((decodeN n b0 b1 b2 b3).2 = 3 ↔ (224 ≤ b0 ∧ b0 ≤ 239 ∧ 2 < n ∧ (128 ≤ b1 ∧ b1 ≤ 191) ∧ (128 ≤ b2 ∧ b2 ≤ 191) ∧ (b0 ≠ 224 ∨ 160 ≤ b1) ∧ (b0 ≠ 237 ∨ b1 < 160))) ∧
    ((decodeN n b0 b1 b2 b3).2 = 4 ↔ (240 ≤ b0 ∧ b0 ≤ 244 ∧ 3 < n ∧ (128 ≤ b1 ∧ b1 ≤ 191) ∧ (128 ≤ b2 ∧ b2 ≤ 191) ∧ (128 ≤ b3 ∧ b3 ≤ 191) ∧ (b0 ≠ 240 ∨ 144 ≤ b1) ∧ (b0 ≠ 244 ∨ b1 < 144))) ∧
    ((decodeN n b0 b1 b2 b3).2 = 1 ∨ (decodeN n b0 b1 b2 b3).2 = 2 ∨ (decodeN n b0 b1 b2 b3).2 = 3 ∨ (decodeN n b0 b1 b2 b3).2 = 4) := by
  generalize hd : decodeN n b0 b1 b2 b3 = d
  unfold decodeN at hd
  repeat' split at hd
  all_goals (subst hd; dsimp only; omega)

/-- how long the well-formed rune at a place is, 0: none is -/
def rl (s : List UInt8) (i : Nat) : Nat := if (s.getD i 0).toNat < 128 then 1 else if unitL s i = 1 then 0 else unitL s i

theorem rune_p3 (N : Nat) (s : List UInt8) (a b nx : Int) (t : Bool) (k0 : Bool → Option Int) (h : porterref10_trail N s (IntKind.wrap .i64 (a + 1)) 1 = some t) : porterref10_Rune_p3 N s a b nx k0 = k0 (decide (194 ≤ b ∧ b ≤ 223) && t) := by
  simp only [porterref10_Rune_p3, h, Option.bind_some]
  by_cases h1 : 194 ≤ b
  · rw [cond_t (dec_t h1)]
    by_cases h2 : b ≤ 223
    · rw [cond_t (dec_t h2), dec_t ⟨h1, h2⟩, Bool.true_and]
    · rw [cond_f (dec_f h2), dec_f (fun e => h2 e.2), Bool.false_and]
  · rw [cond_f (dec_f h1), dec_f (fun e => h1 e.1), Bool.false_and]

theorem rune_p5 (N : Nat) (s : List UInt8) (a b nx : Int) (t : Bool) (k0 : Bool → Option Int) (h : porterref10_trail N s (IntKind.wrap .i64 (a + 1)) 2 = some t) : porterref10_Rune_p5 N s a b nx k0 = k0 (decide ((224 ≤ b ∧ b ≤ 239) ∧ t = true ∧ (b ≠ 224 ∨ 160 ≤ nx) ∧ (b ≠ 237 ∨ nx < 160))) := by
  simp only [porterref10_Rune_p5, h, Option.bind_some]
  by_cases h1 : 224 ≤ b
  case neg => rw [cond_f (dec_f h1), dec_f (fun e => h1 e.1.1)]
  rw [cond_t (dec_t h1)]
  by_cases h2 : b ≤ 239
  case neg => rw [cond_f (dec_f h2), dec_f (fun e => h2 e.1.2)]
  rw [cond_t (dec_t h2)]
  cases t with
  | false => rw [cond_false, dec_f (fun e => by simp at e)]
  | true =>
    rw [cond_true]
    by_cases h3 : b = 224
    · subst h3
      rw [cond_f (by rfl)]
      by_cases h4 : 160 ≤ nx
      · rw [cond_t (dec_t h4), cond_t (by rfl), dec_t ⟨by omega, rfl, by omega, by omega⟩]
      · rw [cond_f (dec_f h4), dec_f (fun e => by have := e.2.2; omega)]
    · rw [cond_t (by rw [bne_iff_ne]; exact h3)]
      by_cases h4 : b = 237
      · subst h4
        rw [cond_f (by rfl)]
        by_cases h5 : nx < 160
        · rw [dec_t h5, dec_t ⟨by omega, rfl, by omega, by omega⟩]
        · rw [dec_f h5, dec_f (fun e => by have := e.2.2; omega)]
      · rw [cond_t (by rw [bne_iff_ne]; exact h4), dec_t ⟨by omega, rfl, by omega, by omega⟩]

theorem rune_p6 (N : Nat) (s : List UInt8) (a b nx : Int) (t : Bool) (k0 : Bool → Option Int) (h : porterref10_trail N s (IntKind.wrap .i64 (a + 1)) 3 = some t) : porterref10_Rune_p6 N s a b nx k0 = k0 (decide ((240 ≤ b ∧ b ≤ 244) ∧ t = true ∧ (b ≠ 240 ∨ 144 ≤ nx) ∧ (b ≠ 244 ∨ nx < 144))) := by
  simp only [porterref10_Rune_p6, h, Option.bind_some]
  by_cases h1 : 240 ≤ b
  case neg => rw [cond_f (dec_f h1), dec_f (fun e => h1 e.1.1)]
  rw [cond_t (dec_t h1)]
  by_cases h2 : b ≤ 244
  case neg => rw [cond_f (dec_f h2), dec_f (fun e => h2 e.1.2)]
  rw [cond_t (dec_t h2)]
  cases t with
  | false => rw [cond_false, dec_f (fun e => by simp at e)]
  | true =>
    rw [cond_true]
    by_cases h3 : b = 240
    · subst h3
      rw [cond_f (by rfl)]
      by_cases h4 : 144 ≤ nx
      · rw [cond_t (dec_t h4), cond_t (by rfl), dec_t ⟨by omega, rfl, by omega, by omega⟩]
      · rw [cond_f (dec_f h4), dec_f (fun e => by have := e.2.2; omega)]
    · rw [cond_t (by rw [bne_iff_ne]; exact h3)]
      by_cases h4 : b = 244
      · subst h4
        rw [cond_f (by rfl)]
        by_cases h5 : nx < 144
        · rw [dec_t h5, dec_t ⟨by omega, rfl, by omega, by omega⟩]
        · rw [dec_f h5, dec_f (fun e => by have := e.2.2; omega)]
      · rw [cond_t (by rw [bne_iff_ne]; exact h4), dec_t ⟨by omega, rfl, by omega, by omega⟩]

theorem rune_p1 (N : Nat) {s : List UInt8} {i : Nat} (hi : i < s.length) (hs : s.length ≤ 100000) (b nx : Int) (hnx : nx = 0) (k0 : Int → Option Int) : porterref10_Rune_p1 N s (i : Int) b nx k0 = k0 (((s.getD (i + 1) 0).toNat : Nat) : Int) := by
  simp only [porterref10_Rune_p1]
  rw [wrap_succ (by omega)]
  by_cases h : i + 1 < s.length
  · rw [cond_t (dec_t (by omega)), cond_t (inR_nat h), Int.toNat_natCast, wrap64_byte]
  · rw [cond_f (dec_f (by omega)), hnx, List.getD_eq_getElem?_getD, List.getElem?_eq_none (by omega)]; rfl

theorem refRune_eq (N : Nat) {s : List UInt8} {i : Nat} (hi : i < s.length) (hs : s.length ≤ 100000) (hN : 8 < N) : porterref10_Rune N s (i : Int) = some ((rl s i : Nat) : Int) := by
  have hb0 := u8_lt (s.getD i 0)
  have hb1 := u8_lt (s.getD (i + 1) 0)
  have hb2 := u8_lt (s.getD (i + 2) 0)
  have hb3 := u8_lt (s.getD (i + 3) 0)
  have hw : IntKind.wrap .i64 ((i : Int) + 1) = ((i + 1 : Nat) : Int) := wrap_succ (by omega)
  have t1 : porterref10_trail N s (IntKind.wrap .i64 ((i : Int) + 1)) 1 = some (decide (i + 1 + 1 ≤ s.length) && allT s (i + 1) 1) := by rw [hw]; exact trail_eq N (n := 1) (by omega) hs (by omega) hN
  have t2 : porterref10_trail N s (IntKind.wrap .i64 ((i : Int) + 1)) 2 = some (decide (i + 1 + 2 ≤ s.length) && allT s (i + 1) 2) := by rw [hw]; exact trail_eq N (n := 2) (by omega) hs (by omega) hN
  have t3 : porterref10_trail N s (IntKind.wrap .i64 ((i : Int) + 1)) 3 = some (decide (i + 1 + 3 ≤ s.length) && allT s (i + 1) 3) := by rw [hw]; exact trail_eq N (n := 3) (by omega) hs (by omega) hN
  simp only [porterref10_Rune]
  rw [cond_t (inR_nat hi), Int.toNat_natCast, wrap64_byte]
  by_cases ha : (s.getD i 0).toNat < 128
  · rw [cond_t (dec_t (by omega)), rl, if_pos ha]; rfl
  rw [cond_f (dec_f (by omega)), rune_p1 N hi hs _ _ rfl]
  simp only [porterref10_Rune_p2, porterref10_Rune_p4]
  rw [rune_p3 N s _ _ _ _ _ t1, rune_p5 N s _ _ _ _ _ t2, rune_p6 N s _ _ _ _ _ t3]
  have hc := rl_cases (n := s.length - i) hb0 hb1 hb2 hb3 (by omega)
  have hu : unitL s i = (decodeN (s.length - i) (s.getD i 0).toNat (s.getD (i + 1) 0).toNat (s.getD (i + 2) 0).toNat (s.getD (i + 3) 0).toNat).2 := by unfold unitL; rw [rune_N]
  rw [← hu] at hc
  rw [rl, if_neg ha]
  simp only [allT, tl, Bool.and_true, Bool.and_eq_true, decide_eq_true_eq, show i + 1 + 1 = i + 2 by omega, show i + 2 + 1 = i + 3 by omega] at *
  obtain ⟨c2, c3, c4, c1⟩ := hc
  generalize (s.getD i 0).toNat = b0 at *
  generalize (s.getD (i + 1) 0).toNat = b1 at *
  generalize (s.getD (i + 2) 0).toNat = b2 at *
  generalize (s.getD (i + 3) 0).toNat = b3 at *
  generalize unitL s i = u at *
  by_cases p2 : 194 ≤ b0 ∧ b0 ≤ 223 ∧ 1 < s.length - i ∧ 128 ≤ b1 ∧ b1 ≤ 191
  · have := c2.2 p2
    rw [cond_t (by simp only [Bool.and_eq_true, decide_eq_true_eq]; omega), this]; rfl
  rw [cond_f (by rw [Bool.eq_false_iff]; simp only [ne_eq, Bool.and_eq_true, decide_eq_true_eq]; omega)]
  by_cases p3 : 224 ≤ b0 ∧ b0 ≤ 239 ∧ 2 < s.length - i ∧ (128 ≤ b1 ∧ b1 ≤ 191) ∧ (128 ≤ b2 ∧ b2 ≤ 191) ∧ (b0 ≠ 224 ∨ 160 ≤ b1) ∧ (b0 ≠ 237 ∨ b1 < 160)
  · have := c3.2 p3
    rw [cond_t (by rw [decide_eq_true_eq]; omega), this]; rfl
  rw [cond_f (by rw [decide_eq_false_iff_not]; omega)]
  by_cases p4 : 240 ≤ b0 ∧ b0 ≤ 244 ∧ 3 < s.length - i ∧ (128 ≤ b1 ∧ b1 ≤ 191) ∧ (128 ≤ b2 ∧ b2 ≤ 191) ∧ (128 ≤ b3 ∧ b3 ≤ 191) ∧ (b0 ≠ 240 ∨ 144 ≤ b1) ∧ (b0 ≠ 244 ∨ b1 < 144)
  · have := c4.2 p4
    rw [cond_t (by rw [decide_eq_true_eq]; omega), this]; rfl
  rw [cond_f (by rw [decide_eq_false_iff_not]; omega)]
  have : u = 1 := by
    rcases c1 with h | h | h | h
    · exact h
    · exact absurd (c2.1 h) p2
    · exact absurd (c3.1 h) p3
    · exact absurd (c4.1 h) p4
  rw [if_pos this]; rfl

theorem unitL_pos {s : List UInt8} {i : Nat} (hi : i < s.length) : 1 ≤ unitL s i ∧ i + unitL s i ≤ s.length := by
  unfold unitL
  by_cases h : (s.getD i 0).toNat < 128
  · rw [rune_ascii h]; dsimp only; omega
  · have := rune_high hi (by omega); exact ⟨this.2.1, this.2.2.1⟩

theorem unit_ascii {s : List UInt8} {i : Nat} (h : (s.getD i 0).toNat < 128) : unitL s i = 1 := by unfold unitL; rw [rune_ascii h]

theorem refUnit_eq (N : Nat) {s : List UInt8} {i : Nat} (hi : i < s.length) (hs : s.length ≤ 100000) (hN : 8 < N) : porterref10_Unit N s (i : Int) = some ((unitL s i : Nat) : Int) := by
  simp only [porterref10_Unit, porterref10_Unit_p1, porterref10_Unit_p2]
  rw [cond_f (dec_f (by omega)), cond_f (dec_f (by omega)), refRune_eq N hi hs hN, Option.bind_some, rl]
  have := unitL_pos hi
  by_cases h : (s.getD i 0).toNat < 128
  · rw [if_pos h, unit_ascii h]; rfl
  · rw [if_neg h]
    by_cases h1 : unitL s i = 1
    · rw [if_pos h1, h1]; rfl
    · rw [if_neg h1, cond_f (by rw [beq_eq_false_iff_ne]; omega)]

theorem refUnit_none (N : Nat) {s : List UInt8} {i : Int} (hi : i < 0 ∨ (s.length : Int) ≤ i) : porterref10_Unit N s i = some 0 := by
  simp only [porterref10_Unit, porterref10_Unit_p1, porterref10_Unit_p2]
  by_cases h : i < 0
  · rw [cond_t (dec_t h)]; rfl
  · rw [cond_f (dec_f h), cond_t (dec_t (by omega))]
end Go.Proofs.YtpnjnnhedadjgaaDoorLf
