/- The layer quote: what is read in quotes, at any place of any text. -/
import Derived.Test.YtpnjnnhedadjgaaDoorQuoB
set_option linter.all false
namespace Go.Proofs.YtpnjnnhedadjgaaDoorLf
open Go Go.Lift Go.Lib Go.Proofs.YtpnjnnhedadjgaaDoorPx

inductive Esc where
  | cut | bad | ok (b n : Nat)

def hexD (b : Nat) : Nat := if 48 ≤ b ∧ b ≤ 57 then b - 48 else if 97 ≤ b ∧ b ≤ 102 then b - 87 else 16

/-- what an escape stands for, and how many bytes it has, the backslash among them -/
def escL : List UInt8 → Esc
  | [] => .cut
  | c :: r => if c.toNat = 34 ∨ c.toNat = 92 then .ok c.toNat 2 else if c.toNat = 120 then (match r with
    | [] => .cut
    | a :: r => if hexD a.toNat < 16 then (match r with
      | [] => .cut
      | b :: _ => if hexD b.toNat < 16 then .ok (16 * hexD a.toNat + hexD b.toNat) 4 else .bad) else .bad) else .bad

theorem escL_cons (c : UInt8) (r : List UInt8) : escL (c :: r) = (if c.toNat = 34 ∨ c.toNat = 92 then .ok c.toNat 2 else if c.toNat = 120 then (match r with
    | [] => .cut
    | a :: r => if hexD a.toNat < 16 then (match r with
      | [] => .cut
      | b :: _ => if hexD b.toNat < 16 then .ok (16 * hexD a.toNat + hexD b.toNat) 4 else .bad) else .bad) else .bad) := rfl

set_option maxRecDepth 100000 in
theorem dig_all : ∀ b : Fin 256, quote_digit 0 (b.1 : Int) = some (if hexD b.1 < 16 then ((hexD b.1 : Int), true, ()) else (0, false, ())) := by decide +kernel
theorem dig_eq (N : Nat) (u : UInt8) : quote_digit N ((u.toNat : Nat) : Int) = some (if hexD u.toNat < 16 then ((hexD u.toNat : Int), true, ()) else (0, false, ())) := dig_all ⟨u.toNat, u.toNat_lt⟩
set_option maxRecDepth 100000 in
theorem rdig_all : ∀ b : Fin 256, porterref10_digit 0 (b.1 : Int) = some (if hexD b.1 < 16 then (hexD b.1 : Int) else -1) := by decide +kernel
theorem rdig_eq (N : Nat) (u : UInt8) : porterref10_digit N ((u.toNat : Nat) : Int) = some (if hexD u.toNat < 16 then (hexD u.toNat : Int) else -1) := rdig_all ⟨u.toNat, u.toNat_lt⟩

theorem hexD_ascii {b : Nat} (h : hexD b < 16) : b < 128 := by unfold hexD at h; split at h; · omega
                                                               split at h <;> omega

theorem esc_ok {t : List UInt8} {b n : Nat} (h : escL t = .ok b n) : b < 256 ∧ 2 ≤ n ∧ n - 1 ≤ t.length ∧ ∀ j, j < n - 1 → (t.getD j 0).toNat < 128 := by
  cases t with
  | nil => simp [escL] at h
  | cons c r =>
    simp only [escL] at h
    split at h
    · rename_i hc
      cases h
      refine ⟨by omega, by omega, by simp, fun j hj => ?_⟩
      obtain rfl : j = 0 := by omega
      simp only [List.getD_cons_zero]; omega
    · split at h
      · rename_i hc
        cases r with
        | nil => simp at h
        | cons x r =>
          dsimp only at h
          split at h
          · rename_i hx
            cases r with
            | nil => simp at h
            | cons y r =>
              dsimp only at h
              split at h
              · rename_i hy
                cases h
                refine ⟨by omega, by omega, by simp, fun j hj => ?_⟩
                have := hexD_ascii hx
                have := hexD_ascii hy
                obtain rfl | rfl | rfl : j = 0 ∨ j = 1 ∨ j = 2 := by omega
                · show c.toNat < 128; omega
                · exact hexD_ascii hx
                · exact hexD_ascii hy
              · cases h
          · cases h
      · cases h

def escO : Esc → Int × Int × Int × Unit
  | .cut => (0, 0, 1, ())
  | .bad => (0, 0, 2, ())
  | .ok b n => ((b : Int), ((n - 1 : Nat) : Int), 0, ())

theorem nib' {a b : Nat} (ha : a < 16) (hb : b < 16) : bitsOp .or .u8 (shlI .u8 (bitsOp .or .u8 (shlI .u8 (0 : Int) 4) (a : Int)) 4) (b : Int) = ((16 * a + b : Nat) : Int) := nib ⟨a, ha⟩ ⟨b, hb⟩

theorem esc_eq (k : Nat) (t : List UInt8) : quote_escape (k + 10) t = some (escO (escL t)) := by
  cases t with
  | nil => rfl
  | cons c r =>
    by_cases hq : c.toNat = 34 ∨ c.toNat = 92
    · rw [esc1 _ hq, escL_cons, if_pos hq]; rfl
    have hne : ((c :: r) == ([] : List UInt8)) = false := rfl
    have hin : inR (0 : Int) (c :: r).length = true := inR_of (by omega) (by simp)
    simp only [quote_escape, quote_escape_p1, quote_escape_p2, hne, cond_false, List.getD_cons_zero, hin, cond_true]
    rw [cond_f (by rw [beq_eq_false_iff_ne]; omega), cond_f (by rw [beq_eq_false_iff_ne]; omega)]
    rw [escL_cons, if_neg hq]
    by_cases hx : c.toNat = 120
    case neg => rw [if_neg hx, cond_t (by rw [bne_iff_ne]; omega)]; rfl
    rw [if_pos hx, cond_f (by rw [hx]; rfl)]
    simp only [quote_escape_p3]
    have w1 : IntKind.wrap .i64 ((1 : Int) + 1) = 2 := by kernel_rfl
    have w2 : IntKind.wrap .i64 ((2 : Int) + 1) = 3 := by kernel_rfl
    rw [show k + 10 = (k + 9) + 1 from rfl, iter_succ]
    simp only [quote_escape_s3]
    rw [cond_t (by rfl)]
    cases r with
    | nil => rw [cond_t (by rfl)]; rfl
    | cons a r =>
      have hl : (c :: a :: r).length = r.length + 2 := rfl
      have g1 : List.getD (c :: a :: r) (Int.toNat 1) 0 = a := rfl
      rw [hl, cond_f (by rw [beq_eq_false_iff_ne]; omega), cond_t (inR_of (by omega) (by omega)), g1, dig_eq, Option.bind_some]
      dsimp only
      by_cases ha : hexD a.toNat < 16
      case neg => rw [if_neg ha, if_neg ha]; rfl
      rw [if_pos ha, if_pos ha, w1]
      dsimp only
      rw [cond_f (by rfl), show k + 9 = (k + 8) + 1 from rfl, iter_succ]
      dsimp only
      rw [cond_t (by rfl)]
      cases r with
      | nil => rw [cond_t (by rfl)]; rfl
      | cons b r =>
        have hl2 : (b :: r).length = r.length + 1 := rfl
        have g2 : List.getD (c :: a :: b :: r) (Int.toNat 2) 0 = b := rfl
        rw [hl2, cond_f (by rw [beq_eq_false_iff_ne]; omega), cond_t (inR_of (by omega) (by omega)), g2, dig_eq, Option.bind_some]
        dsimp only
        by_cases hb : hexD b.toNat < 16
        case neg => rw [if_neg hb, if_neg hb]; rfl
        rw [if_pos hb, if_pos hb, w2]
        dsimp only
        rw [cond_f (by rfl), nib' ha hb, show k + 8 = (k + 7) + 1 from rfl, iter_succ]
        dsimp only
        rw [cond_f (by rfl)]; rfl

def escP : Esc → List UInt8 × Int × Unit
  | .cut => ([], -1, ())
  | .bad => ([], 0, ())
  | .ok b n => ([UInt8.ofNat b], (n : Int), ())

theorem refEsc_eq (N : Nat) {s : List UInt8} {i : Nat} (hi : i < s.length) (hs : s.length ≤ 100000) : porterref10_Escape N s (i : Int) = some (escP (escL (s.drop (i + 1)))) := by
  have hl : (s.drop (i + 1)).length = s.length - (i + 1) := List.length_drop ..
  have hg : ∀ j, s.getD (i + 1 + j) 0 = (s.drop (i + 1)).getD j 0 := fun j => (getD_drop8 s (i + 1) j).symm
  have hcut : cut s (i + 1) (i + 2) = (s.drop (i + 1)).take 1 := cut_mid s (i + 1) 1
  have e1 : IntKind.wrap .i64 ((i : Int) + 1) = ((i + 1 : Nat) : Int) := by rw [wrap_in (by unfold I64; omega)]; omega
  have e2 : IntKind.wrap .i64 ((i : Int) + 2) = ((i + 2 : Nat) : Int) := by rw [wrap_in (by unfold I64; omega)]; omega
  have e3 : IntKind.wrap .i64 ((i : Int) + 3) = ((i + 3 : Nat) : Int) := by rw [wrap_in (by unfold I64; omega)]; omega
  have e0 : IntKind.wrap .i64 ((s.length : Int) - (i : Int)) = ((s.length - i : Nat) : Int) := by rw [wrap_in (by unfold I64; omega)]; omega
  have g0 := hg 0
  have g1 := hg 1
  have g2 := hg 2
  simp only [Nat.add_zero, show i + 1 + 1 = i + 2 from rfl, show i + 1 + 2 = i + 3 from rfl] at g0 g1 g2
  simp only [porterref10_Escape, porterref10_Escape_p1, porterref10_Escape_p2, e0, e1, e2, e3, Int.toNat_natCast, g0, g1, g2, hcut]
  generalize s.drop (i + 1) = t at hl
  cases t with
  | nil => simp only [List.length_nil] at hl; rw [cond_t (dec_t (by omega))]; rfl
  | cons c r =>
    simp only [List.length_cons] at hl
    rw [cond_f (dec_f (by omega)), cond_t (inR_nat (by omega))]
    simp only [List.getD_cons_zero, escL_cons]
    have tail : ∀ b : Bool, b = (c.toNat == 34 || c.toNat == 92) → b = true → (cond b (cond (decide ((0 : Int) ≤ ((i + 2 : Nat) : Int) ∧ ((i + 2 : Nat) : Int) ≤ (s.length : Int))) (cond (decide ((0 : Int) ≤ ((i + 1 : Nat) : Int) ∧ ((i + 1 : Nat) : Int) ≤ ((i + 2 : Nat) : Int))) (some (List.take 1 (c :: r), ((2 : Int), ()))) none) none) (none : Option (List UInt8 × Int × Unit))) = some ([UInt8.ofNat c.toNat], (2 : Int), ()) := by
      intro b _ hb
      rw [hb, cond_true, cond_t (dec_t (by omega)), cond_t (dec_t (by omega))]; simp
    by_cases hq : c.toNat = 34 ∨ c.toNat = 92
    · rw [if_pos hq]
      have hq2 : (cond ((((c.toNat : Nat) : Int)) == 34) true (((c.toNat : Nat) : Int) == 92)) = true := by
        rcases hq with h | h <;> rw [h] <;> rfl
      rcases hq with h | h
      · rw [cond_t (by rw [h]; rfl), cond_true, cond_t (dec_t (by omega)), cond_t (dec_t (by omega))]; simp [escP]
      · rw [cond_f (by rw [h]; rfl), cond_t (inR_nat (by omega)), cond_t (by rw [h]; rfl), cond_t (dec_t (by omega)), cond_t (dec_t (by omega))]; simp [escP]
    rw [if_neg hq, cond_f (by rw [beq_eq_false_iff_ne]; omega), cond_t (inR_nat (by omega)), cond_f (by rw [beq_eq_false_iff_ne]; omega), cond_t (inR_nat (by omega))]
    by_cases hx : c.toNat = 120
    case neg => rw [if_neg hx, cond_t (by rw [bne_iff_ne]; omega)]; rfl
    rw [if_pos hx, cond_f (by rw [hx]; rfl)]
    cases r with
    | nil => simp only [List.length_nil] at hl; rw [cond_t (dec_t (by omega))]; rfl
    | cons a r =>
      simp only [List.length_cons] at hl
      rw [cond_f (dec_f (by omega)), cond_t (inR_nat (by omega))]
      have g1 : List.getD (c :: a :: r) 1 0 = a := rfl
      rw [g1, rdig_eq, Option.bind_some]
      dsimp only
      by_cases ha : hexD a.toNat < 16
      case neg => rw [if_neg ha, if_neg ha]; rfl
      rw [if_pos ha, if_pos ha, cond_f (dec_f (by omega))]
      cases r with
      | nil => simp only [List.length_nil] at hl; rw [cond_t (dec_t (by omega))]; rfl
      | cons b r =>
        simp only [List.length_cons] at hl
        have g2 : List.getD (c :: a :: b :: r) 2 0 = b := rfl
        rw [cond_f (dec_f (by omega)), cond_t (inR_nat (by omega)), g2, rdig_eq, Option.bind_some]
        dsimp only
        by_cases hb : hexD b.toNat < 16
        case neg => rw [if_neg hb, if_neg hb]; rfl
        rw [if_pos hb, if_pos hb, cond_f (dec_f (by omega))]
        have w1 : IntKind.wrap .i64 ((16 : Int) * ((hexD a.toNat : Nat) : Int)) = ((16 * hexD a.toNat : Nat) : Int) := by rw [wrap_in (by unfold I64; omega)]; omega
        have w2 : IntKind.wrap .i64 (((16 * hexD a.toNat : Nat) : Int) + ((hexD b.toNat : Nat) : Int)) = ((16 * hexD a.toNat + hexD b.toNat : Nat) : Int) := by rw [wrap_in (by unfold I64; omega)]; omega
        rw [w1, w2, wrap_u8_in (by omega) (by omega)]
        show some (([UInt8.ofNat (Int.toNat ((16 * hexD a.toNat + hexD b.toNat : Nat) : Int))] : List UInt8), _) = _
        rw [Int.toNat_natCast]; rfl

abbrev RdT := List UInt8 × Int × (Int × (Int × Unit)) × Unit

def readR (s : List UInt8) : Nat → Nat → List UInt8 → RdT
  | 0, _, _ => ([], 0, (1, (s.length : Int), ()), ())
  | f + 1, i, out => if i < s.length then
      (if (s.getD i 0).toNat = 34 then (out, ((i + 1 : Nat) : Int), (0, 0, ()), ())
      else if (s.getD i 0).toNat = 92 then (match escL (s.drop (i + 1)) with
        | .cut => ([], 0, (1, (s.length : Int), ()), ())
        | .bad => ([], 0, (2, (i : Int), ()), ())
        | .ok b n => readR s f (i + n) (out ++ [UInt8.ofNat b]))
      else if safeL s i = true then readR s f (i + unitL s i) (out ++ (s.drop i).take (unitL s i))
      else ([], 0, (2, (i : Int), ()), ()))
    else ([], 0, (1, (s.length : Int), ()), ())

theorem readR_fuel (s : List UInt8) : ∀ (f f' i : Nat) (o : List UInt8), s.length - i ≤ f → s.length - i ≤ f' → readR s f i o = readR s f' i o
  | 0, 0, i, o, _, _ => rfl
  | 0, f' + 1, i, o, h, _ => by simp only [readR]; rw [if_neg (by omega)]
  | f + 1, 0, i, o, _, h => by simp only [readR]; rw [if_neg (by omega)]
  | f + 1, f' + 1, i, o, h, h' => by
    simp only [readR]
    by_cases hi : i < s.length
    · rw [if_pos hi, if_pos hi]
      split; · rfl
      split
      · cases he : escL (s.drop (i + 1)) with
        | cut => rfl
        | bad => rfl
        | ok b n =>
          have := esc_ok he
          exact readR_fuel s f f' (i + n) _ (by omega) (by omega)
      split
      · have := unitL_pos hi
        exact readR_fuel s f f' (i + unitL s i) _ (by omega) (by omega)
      · rfl
    · rw [if_neg hi, if_neg hi]

def readS (s : List UInt8) (i : Nat) (o : List UInt8) : RdT := readR s s.length i o

theorem readS_end {s : List UInt8} {i : Nat} {o : List UInt8} (h : s.length ≤ i) : readS s i o = ([], 0, (1, (s.length : Int), ()), ()) := by
  unfold readS
  rw [readR_fuel s s.length 0 i o (by omega) (by omega)]; rfl

theorem readS_step {s : List UInt8} {i : Nat} {o : List UInt8} (h : i < s.length) : readS s i o =
    (if (s.getD i 0).toNat = 34 then (o, ((i + 1 : Nat) : Int), (0, 0, ()), ())
      else if (s.getD i 0).toNat = 92 then (match escL (s.drop (i + 1)) with
        | .cut => ([], 0, (1, (s.length : Int), ()), ())
        | .bad => ([], 0, (2, (i : Int), ()), ())
        | .ok b n => readS s (i + n) (o ++ [UInt8.ofNat b]))
      else if safeL s i = true then readS s (i + unitL s i) (o ++ (s.drop i).take (unitL s i))
      else ([], 0, (2, (i : Int), ()), ())) := by
  have hu := unitL_pos h
  have e : readS s i o = readR s (s.length + 1) i o := readR_fuel s _ _ i o (by omega) (by omega)
  rw [e]
  simp only [readR, readS]
  rw [if_pos h]

theorem toStr_byteN {b : Nat} (h : b < 256) : ofStr [UInt8.ofNat b] = [(b : Int)] := by
  have : (UInt8.ofNat b).toNat = b := by rw [UInt8.toNat_ofNat']; omega
  show [(((UInt8.ofNat b).toNat : Nat) : Int)] = _
  rw [this]

theorem body_any (k : Nat) {X : List UInt8} {F : Nat} (hX : X.length ≤ 20000) (hF : F ≤ X.length) :
    quote_body (k + 30000) X (F : Int) = some (readS X F []) := by
  have hul : (X.drop F).length = X.length - F := List.length_drop ..
  simp only [quote_body, quote_body_p1]
  rw [cond_t (dec_t (by omega)), Int.toNat_natCast, cut_all]
  rw [iter_eq (I := fun (v : List Int × Int × (List UInt8 × Nat)) => ∃ (idx nx : Nat) (o : List UInt8), v = (ofStr o, (nx : Int), (X.drop F, idx)) ∧ F + idx ≤ X.length ∧ nx ≤ X.length ∧ o.length ≤ max nx (F + idx) ∧ ∀ j, F + idx ≤ j → j < nx → (X.getD j 0).toNat < 128) (m := fun v => X.length - F - v.2.2.2) (R := fun v => some (readS X (max v.2.1.toNat (F + v.2.2.2)) (toStr v.1))) ?_ (k + 30000) ([], (F : Int), (X.drop F, 0)) ⟨0, F, [], rfl, by omega, by omega, by simp, fun j h1 h2 => by omega⟩ (by dsimp only; omega)]
  · dsimp only
    rw [Int.toNat_natCast, Nat.add_zero, Nat.max_self]; rfl
  rintro v r ⟨idx, nx, o, rfl, hix, hnx, hol, hh⟩ hr
  dsimp only at hr ⊢
  rw [Int.toNat_natCast]
  have hw : IntKind.wrap .i64 ((idx : Int) + (F : Int)) = ((F + idx : Nat) : Int) := by rw [wrap_in (by unfold I64; omega)]; omega
  have hw1 : IntKind.wrap .i64 (((F + idx : Nat) : Int) + 1) = ((F + idx + 1 : Nat) : Int) := wrap_succ (by omega)
  simp only [quote_body_s1, hw, hw1, rune_drop]
  rw [toStr_ofStr]
  by_cases hlt : idx < (X.drop F).length
  case neg =>
    rw [cond_f (dec_f hlt), readS_end (by omega)]
  have hp : F + idx < X.length := by omega
  rw [cond_t (dec_t hlt)]
  by_cases hpn : F + idx < nx
  · rw [cond_t (dec_t (by omega)), rune_ascii (hh _ (Nat.le_refl _) hpn)]
    have := hr (ofStr o, (nx : Int), (X.drop F, idx + 1)) ⟨idx + 1, nx, o, rfl, by omega, by omega, by omega, fun j h1 h2 => hh j (by omega) h2⟩ (by dsimp only; omega)
    rw [this]
    dsimp only
    rw [Int.toNat_natCast, toStr_ofStr, show max nx (F + (idx + 1)) = max nx (F + idx) by omega]
  rw [cond_f (dec_f (by omega)), show max nx (F + idx) = F + idx by omega, readS_step hp]
  have hu := unitL_pos hp
  have hq : ((((runeAt X (F + idx)).1 : Nat) : Int) == 34) = ((X.getD (F + idx) 0).toNat == 34) ∧ ((((runeAt X (F + idx)).1 : Nat) : Int) == 92) = ((X.getD (F + idx) 0).toNat == 92) := by
    by_cases h : (X.getD (F + idx) 0).toNat < 128
    · rw [rune_ascii h]
      constructor <;> (rw [Bool.eq_iff_iff, beq_iff_eq, beq_iff_eq]; dsimp only; omega)
    · have := rune_high hp (by omega)
      constructor <;> (rw [Bool.eq_iff_iff, beq_iff_eq, beq_iff_eq]; omega)
  rw [hq.1, hq.2]
  by_cases h34 : (X.getD (F + idx) 0).toNat = 34
  · rw [if_pos h34, cond_t (by rw [beq_iff_eq]; exact h34)]
  rw [if_neg h34, cond_f (by rw [beq_eq_false_iff_ne]; exact h34)]
  by_cases h92 : (X.getD (F + idx) 0).toNat = 92
  · rw [if_pos h92, cond_t (by rw [beq_iff_eq]; exact h92), cond_t (dec_t (by omega)), Int.toNat_natCast, cut_all, show k + 30000 = (k + 29990) + 10 from rfl, esc_eq, Option.bind_some]
    have hdl : (X.drop (F + idx + 1)).length = X.length - (F + idx + 1) := List.length_drop ..
    cases he : escL (X.drop (F + idx + 1)) with
    | cut => rfl
    | bad => rfl
    | ok b n =>
      obtain ⟨hb, hn2, hnl, hasc⟩ := esc_ok he
      have hw2 : IntKind.wrap .i64 (((F + idx + 1 : Nat) : Int) + ((n - 1 : Nat) : Int)) = ((F + idx + n : Nat) : Int) := by rw [wrap_in (by unfold I64; omega)]; omega
      simp only [escO, hw2]
      rw [cond_f (by rfl), cond_f (by rfl), cond_t (dec_t (by rw [ofStr_length]; omega)), ← toStr_byteN hb, ← ofStr_append, rune_ascii (by omega)]
      have := hr (ofStr (o ++ [UInt8.ofNat b]), ((F + idx + n : Nat) : Int), (X.drop F, idx + 1)) ⟨idx + 1, F + idx + n, o ++ [UInt8.ofNat b], rfl, by omega, by omega, by simp only [List.length_append, List.length_singleton]; omega, fun j h1 h2 => ?_⟩ (by dsimp only; omega)
      · rw [this]
        dsimp only
        rw [Int.toNat_natCast, toStr_ofStr, show max (F + idx + n) (F + (idx + 1)) = F + idx + n by omega]
      · have := hasc (j - (F + idx + 1)) (by omega)
        rw [getD_drop8, show F + idx + 1 + (j - (F + idx + 1)) = j by omega] at this
        exact this
  rw [if_neg h92, cond_f (by rw [beq_eq_false_iff_ne]; exact h92), plain_eq _ hp, Option.bind_some]
  cases hsf : safeL X (F + idx) with
  | false => rfl
  | true =>
    have hw2 : IntKind.wrap .i64 (((F + idx : Nat) : Int) + ((unitL X (F + idx) : Nat) : Int)) = ((F + idx + unitL X (F + idx) : Nat) : Int) := by rw [wrap_in (by unfold I64; omega)]; omega
    have hpl : ((X.drop (F + idx)).take (unitL X (F + idx))).length = unitL X (F + idx) := by rw [List.length_take, List.length_drop]; omega
    rw [cond_true, unit_eq _ hp, Option.bind_some, hw2, cond_t (dec_t (by omega)), cond_t (dec_t (by omega)), Int.toNat_natCast, Int.toNat_natCast, cut_mid, cond_t (dec_t (by rw [ofStr_length, ofStr_length, hpl]; omega)), ← ofStr_append, if_pos rfl]
    have e : unitL X (F + idx) = (runeAt X (F + idx)).2 := rfl
    have := hr (ofStr (o ++ (X.drop (F + idx)).take (unitL X (F + idx))), (nx : Int), (X.drop F, idx + (runeAt X (F + idx)).2)) ⟨idx + (runeAt X (F + idx)).2, nx, _, rfl, by omega, by omega, by rw [List.length_append, hpl]; omega, fun j h1 h2 => by omega⟩ (by dsimp only; omega)
    rw [this]
    dsimp only
    rw [Int.toNat_natCast, toStr_ofStr, show max nx (F + (idx + (runeAt X (F + idx)).2)) = F + idx + unitL X (F + idx) by omega]

theorem read_eq (k : Nat) {s : List UInt8} {at_ : Nat} (hs : s.length ≤ 10000) (ha : at_ < s.length) (h34 : (s.getD at_ 0).toNat = 34) : quote_Read (k + 30000) s (at_ : Int) = some (readS s (at_ + 1) []) := by
  have hw1 : IntKind.wrap .i64 ((at_ : Int) + 1) = ((at_ + 1 : Nat) : Int) := wrap_succ (by omega)
  simp only [quote_Read, quote_Read_p1, quote_Read_p2]
  rw [cond_f (dec_f (by omega)), cond_f (dec_f (by omega)), cond_f (by rw [beq_eq_false_iff_ne]; omega), cond_t (inR_nat ha), Int.toNat_natCast, cond_f (by rw [h34]; rfl), hw1, body_any k (by omega) (by omega), Option.bind_some]

theorem refRead_eq (N : Nat) {s : List UInt8} {at_ : Nat} (hs : s.length ≤ 10000) (hN : 10002 < N) (ha : at_ < s.length) (h34 : (s.getD at_ 0).toNat = 34) : porterref10_Read N s (at_ : Int) = some (readS s (at_ + 1) []) := by
  have hw1 : IntKind.wrap .i64 ((at_ : Int) + 1) = ((at_ + 1 : Nat) : Int) := wrap_succ (by omega)
  simp only [porterref10_Read, porterref10_Read_p1, porterref10_Read_p2]
  rw [cond_f (dec_f (by omega)), cond_f (dec_f (by omega)), cond_f (by rw [beq_eq_false_iff_ne]; omega), cond_t (inR_nat ha), Int.toNat_natCast, cond_f (by rw [h34]; rfl), hw1]
  simp only [porterref10_Read_p3]
  rw [iter_eq (I := fun (v : List UInt8 × Int) => ∃ (o : List UInt8) (i : Nat), v = (o, (i : Int)) ∧ i ≤ s.length ∧ o.length ≤ i) (m := fun v => s.length - v.2.toNat) (R := fun v => some (readS s v.2.toNat v.1)) ?_ N ([], ((at_ + 1 : Nat) : Int)) ⟨[], at_ + 1, rfl, by omega, by simp⟩ (by dsimp only; omega)]
  · dsimp only; rw [Int.toNat_natCast]
  rintro v r ⟨o, i, rfl, hi, ho⟩ hr
  dsimp only at hr ⊢
  rw [Int.toNat_natCast] at hr ⊢
  simp only [porterref10_Read_s3, porterref10_Read_p4]
  by_cases hlt : i < s.length
  case neg => rw [cond_f (dec_f (by omega)), readS_end (by omega)]
  have hu := unitL_pos hlt
  rw [cond_t (dec_t (by omega)), cond_t (inR_nat hlt), Int.toNat_natCast, readS_step hlt]
  by_cases h34' : (s.getD i 0).toNat = 34
  · rw [if_pos h34', cond_t (by rw [beq_iff_eq]; omega), wrap_succ (by omega)]
  rw [if_neg h34', cond_f (by rw [beq_eq_false_iff_ne]; omega), cond_t (dec_t (by omega)), cond_t (dec_t (by omega)), cond_t (inR_nat hlt)]
  by_cases h92 : (s.getD i 0).toNat = 92
  · rw [if_pos h92, cond_t (by rw [beq_iff_eq]; omega), refEsc_eq _ hlt (by omega), Option.bind_some]
    have hdl : (s.drop (i + 1)).length = s.length - (i + 1) := List.length_drop ..
    cases he : escL (s.drop (i + 1)) with
    | cut => rfl
    | bad => rfl
    | ok b n =>
      obtain ⟨hb, hn2, hnl, hasc⟩ := esc_ok he
      have hw2 : IntKind.wrap .i64 ((i : Int) + (n : Int)) = ((i + n : Nat) : Int) := by rw [wrap_in (by unfold I64; omega)]; omega
      have hl1 : (escP (.ok b n)).1.length = 1 := rfl
      have hn0 : ¬ ((escP (.ok b n)).2.1 < 0) := by show ¬ ((n : Int) < 0); omega
      have hn1 : ((escP (.ok b n)).2.1 == 0) = false := by show ((n : Int) == 0) = false; rw [beq_eq_false_iff_ne]; omega
      rw [cond_f (dec_f hn0), cond_f hn1, cond_t (dec_t (by rw [hl1]; omega))]
      show r (o ++ [UInt8.ofNat b], IntKind.wrap .i64 ((i : Int) + (n : Int))) = _
      rw [hw2]
      rw [hr (o ++ [UInt8.ofNat b], ((i + n : Nat) : Int)) ⟨_, i + n, rfl, by omega, by simp only [List.length_append, List.length_singleton]; omega⟩ (by dsimp only; omega)]
      dsimp only
      rw [Int.toNat_natCast]
  rw [if_neg h92, cond_f (by rw [beq_eq_false_iff_ne]; omega), safe_eq _ hlt (by omega) (by omega), Option.bind_some]
  cases hsf : safeL s i with
  | false => rfl
  | true =>
    have hrl : rl s i = unitL s i := by
      have h := hsf
      rw [safeL, decide_eq_true_eq] at h
      by_cases hasc : (s.getD i 0).toNat < 128
      · rw [rl, if_pos hasc, unit_ascii hasc]
      · have h0 := h.1
        rw [rl, if_neg hasc] at h0 ⊢
        split at h0
        · omega
        · rename_i hn; rw [if_neg hn]
    have hw2 : IntKind.wrap .i64 ((i : Int) + ((unitL s i : Nat) : Int)) = ((i + unitL s i : Nat) : Int) := by rw [wrap_in (by unfold I64; omega)]; omega
    have hpl : ((s.drop i).take (unitL s i)).length = unitL s i := by rw [List.length_take, List.length_drop]; omega
    rw [cond_true, refRune_eq _ hlt (by omega) (by omega), Option.bind_some, hrl, hw2, cond_t (dec_t (by omega)), cond_t (dec_t (by omega)), Int.toNat_natCast, cut_mid, cond_f (dec_f (by omega)), cond_f (by rw [beq_eq_false_iff_ne]; omega), cond_t (dec_t (by rw [hpl]; omega)), if_pos rfl]
    rw [hr (o ++ (s.drop i).take (unitL s i), ((i + unitL s i : Nat) : Int)) ⟨_, i + unitL s i, rfl, by omega, by rw [List.length_append, hpl]; omega⟩ (by dsimp only; omega)]
    dsimp only
    rw [Int.toNat_natCast]

theorem reads_law (k : Nat) {s : List UInt8} {at_ : Int} : porterlaw10_QuoteReads (k + 30000) s at_ = some true := by
  have hw : porterlaw10_works (k + 30000) = some true := works_eq (k + 29940)
  simp only [porterlaw10_QuoteReads, hw]
  by_cases hs : 300 < s.length
  · rw [cond_t (dec_t (by omega))]; rfl
  rw [cond_f (dec_f (by omega))]
  have key : ∃ x, quote_Read (k + 30000) s at_ = some x ∧ porterref10_Read (k + 30000) s at_ = some x := by
    by_cases h0 : at_ < 0
    · refine ⟨([], 0, (7, 0, ()), ()), ?_, ?_⟩
      · simp only [quote_Read, quote_Read_p1, quote_Read_p2]; rw [cond_t (dec_t h0)]; rfl
      · simp only [porterref10_Read, porterref10_Read_p1, porterref10_Read_p2]; rw [cond_t (dec_t h0)]; rfl
    obtain ⟨n, rfl⟩ := Int.eq_ofNat_of_zero_le (show 0 ≤ at_ by omega)
    by_cases h1 : s.length < n
    · refine ⟨([], 0, (7, 0, ()), ()), ?_, ?_⟩
      · simp only [quote_Read, quote_Read_p1, quote_Read_p2]; rw [cond_f (dec_f h0), cond_t (dec_t (by omega))]
      · simp only [porterref10_Read, porterref10_Read_p1, porterref10_Read_p2]; rw [cond_f (dec_f h0), cond_t (dec_t (by omega))]
    by_cases h2 : n = s.length
    · refine ⟨([], 0, (1, (n : Int), ()), ()), ?_, ?_⟩
      · simp only [quote_Read, quote_Read_p1, quote_Read_p2]; rw [cond_f (dec_f h0), cond_f (dec_f (by omega)), cond_t (by rw [beq_iff_eq]; omega)]
      · simp only [porterref10_Read, porterref10_Read_p1, porterref10_Read_p2]; rw [cond_f (dec_f h0), cond_f (dec_f (by omega)), cond_t (by rw [beq_iff_eq]; omega)]
    by_cases h3 : (s.getD n 0).toNat = 34
    · exact ⟨_, read_eq k (by omega) (by omega) h3, refRead_eq _ (by omega) (by omega) (by omega) h3⟩
    · refine ⟨([], 0, (2, (n : Int), ()), ()), ?_, ?_⟩
      · simp only [quote_Read, quote_Read_p1, quote_Read_p2]
        rw [cond_f (dec_f h0), cond_f (dec_f (by omega)), cond_f (by rw [beq_eq_false_iff_ne]; omega), cond_t (inR_nat (by omega)), Int.toNat_natCast, cond_t (by rw [bne_iff_ne]; omega)]
      · simp only [porterref10_Read, porterref10_Read_p1, porterref10_Read_p2]
        rw [cond_f (dec_f h0), cond_f (dec_f (by omega)), cond_f (by rw [beq_eq_false_iff_ne]; omega), cond_t (inR_nat (by omega)), Int.toNat_natCast, cond_t (by rw [bne_iff_ne]; omega)]
  obtain ⟨x, h1, h2⟩ := key
  rw [h1, Option.bind_some, h2, Option.bind_some, beq_self_eq_true, cond_true, beq_self_eq_true, cond_true, eqD_self (by rfl)]
  rfl
end Go.Proofs.YtpnjnnhedadjgaaDoorLf
