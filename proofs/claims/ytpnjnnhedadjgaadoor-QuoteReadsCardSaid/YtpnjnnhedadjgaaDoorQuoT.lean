/- The layer quote: Text, and the document's. -/
import Derived.Test.YtpnjnnhedadjgaaDoorQuoF
set_option linter.all false
namespace Go.Proofs.YtpnjnnhedadjgaaDoorLf
open Go Go.Lift Go.Lib Go.Proofs.YtpnjnnhedadjgaaDoorPx

def hexDigits : List UInt8 := [48, 49, 50, 51, 52, 53, 54, 55, 56, 57, 97, 98, 99, 100, 101, 102]
def hd (n : Nat) : UInt8 := hexDigits.getD n 0

def hexL : List UInt8 → List UInt8
  | [] => []
  | u :: r => hd (u.toNat / 16) :: hd (u.toNat % 16) :: hexL r

theorem shr4 (n : Nat) : shrI .u8 ((n : Nat) : Int) 4 = ((n / 16 : Nat) : Int) := by
  have : shrI .u8 ((n : Nat) : Int) 4 = ((n : Nat) : Int).fdiv 16 := rfl
  rw [this, Int.fdiv_eq_ediv_of_nonneg _ (by omega)]; rfl

theorem and15 (u : UInt8) : bitsOp .and .u8 ((u.toNat : Nat) : Int) 15 = ((u.toNat % 16 : Nat) : Int) := by
  have := and_u8 u 15
  rw [show (((15 : UInt8).toNat : Nat) : Int) = 15 from rfl] at this
  rw [this, UInt8.toNat_and]
  congr 1
  exact Nat.and_two_pow_sub_one_eq_mod u.toNat 4

theorem refHex_eq (N : Nat) {s : List UInt8} (hs : s.length ≤ 10000000000) (hN : s.length < N) : porterref02_Hex N s = some (hexL s) := by
  simp only [porterref02_Hex, porterref02_Hex_p1]
  rw [iter_eq (I := fun (v : List UInt8 × Int) => v.1.length = 2 * v.2.toNat ∧ 0 ≤ v.2 ∧ v.2 ≤ ((s.length : Nat) : Int)) (m := fun (v : List UInt8 × Int) => s.length - v.2.toNat)
    (R := fun (v : List UInt8 × Int) => some (v.1 ++ hexL (s.drop v.2.toNat))) ?_ N _ ⟨by simp, by dsimp only; omega, by dsimp only; omega⟩ (by simpa using hN)]
  · simp
  rintro ⟨out, v⟩ r ⟨hl, h0, h1⟩ hr
  dsimp only at *
  obtain ⟨i, rfl⟩ := Int.eq_ofNat_of_zero_le h0
  simp only [porterref02_Hex_s1, Int.toNat_natCast] at *
  by_cases hlt : i < s.length
  · have hb := u8_lt (s.getD i 0)
    have hq : ((((s.getD i 0).toNat : Nat) : Int)).tdiv 16 = (((s.getD i 0).toNat / 16 : Nat) : Int) := by rw [Int.tdiv_eq_ediv_of_nonneg (by omega)]; omega
    have hm : ((((s.getD i 0).toNat : Nat) : Int)).tmod 16 = (((s.getD i 0).toNat % 16 : Nat) : Int) := by rw [Int.tmod_eq_emod_of_nonneg (by omega)]; omega
    have one : ∀ k, k < 16 → cut hexDigits k (k + 1) = [hd k] := by decide
    have e1 : ∀ k : Nat, k < 16 → IntKind.wrap .i64 ((k : Int) + 1) = ((k + 1 : Nat) : Int) := fun k hk => wrap_succ (by omega)
    have hwq : IntKind.wrap .i64 ((((s.getD i 0).toNat / 16 : Nat)) : Int) = ((((s.getD i 0).toNat / 16 : Nat)) : Int) := wrap_in (by unfold I64; omega)
    have e2 := e1 ((s.getD i 0).toNat / 16) (by omega)
    have e3 := e1 ((s.getD i 0).toNat % 16) (by omega)
    rw [cond_t (dec_t (by omega)), cond_t (inR_nat hlt), cond_t (inR_nat hlt)]
    simp only [wrap64_byte, hq, hm, hwq, e2, e3, Int.toNat_natCast]
    have hc1 := one ((s.getD i 0).toNat / 16) (by omega)
    have hc2 := one ((s.getD i 0).toNat % 16) (by omega)
    have hlen : hexDigits.length = 16 := rfl
    unfold hexDigits at hc1 hc2 hlen
    simp only [hlen]
    rw [hc1, hc2, cond_t (dec_t ⟨by omega, by omega⟩), cond_t (dec_t ⟨by omega, by omega⟩), cond_t (dec_t (by simp; omega)), cond_t (dec_t ⟨by omega, by omega⟩), cond_t (dec_t ⟨by omega, by omega⟩), cond_t (dec_t (by simp; omega)), wrap_succ (by omega), hr _ ⟨by simp; omega, by omega, by omega⟩ (by dsimp only; omega), drop_cons s 0 i hlt]
    simp only [Int.toNat_natCast, hexL, List.append_assoc, List.cons_append, List.nil_append]
  · rw [cond_f (dec_f (by omega)), drop_nil' s (by omega)]
    simp [hexL]


/-! ## what may stand for itself -/
def safeL (s : List UInt8) (i : Nat) : Bool := decide (0 < rl s i ∧ 32 ≤ (s.getD i 0).toNat ∧ (s.getD i 0).toNat ≠ 127)

theorem safe_eq (N : Nat) {s : List UInt8} {i : Nat} (hi : i < s.length) (hs : s.length ≤ 100000) (hN : 8 < N) : porterref10_safe N s (i : Int) = some (safeL s i) := by
  simp only [porterref10_safe]
  rw [refRune_eq N hi hs hN, Option.bind_some]
  by_cases h : 0 < rl s i
  case neg => rw [cond_f (dec_f (by omega)), safeL, dec_f (fun e => h e.1)]
  rw [cond_t (dec_t (by omega)), cond_t (inR_nat hi), cond_t (inR_nat hi), Int.toNat_natCast]
  by_cases h2 : 32 ≤ (s.getD i 0).toNat
  case neg => rw [cond_f (dec_f (by omega)), safeL, dec_f (fun e => h2 e.2.1)]
  rw [cond_t (dec_t (by omega))]
  by_cases h3 : (s.getD i 0).toNat = 127
  · rw [h3, safeL, dec_f (fun e => e.2.2 h3)]; rfl
  · rw [safeL, dec_t ⟨h, h2, h3⟩]
    congr 1; rw [bne_iff_ne]; omega

theorem bad_rune {s : List UInt8} {i : Nat} (h : 128 ≤ (s.getD i 0).toNat) (h1 : unitL s i = 1) : (runeAt s i).1 = 65533 := by
  unfold unitL at h1
  rw [rune_N] at h1 ⊢
  rcases decodeN_shape (s.length - i) (s.getD i 0).toNat (s.getD (i + 1) 0).toNat (s.getD (i + 2) 0).toNat (s.getD (i + 3) 0).toNat with ⟨h0, e⟩ | ⟨_, _, _, _, e⟩ | ⟨_, _, _, _, _, _, e⟩ | ⟨_, _, _, _, _, _, _, e⟩ | e
  · omega
  · rw [e] at h1; simp at h1
  · rw [e] at h1; simp at h1
  · rw [e] at h1; simp at h1
  · rw [e]

theorem plain_eq (N : Nat) {s : List UInt8} {i : Nat} (hi : i < s.length) : quote_plain N s (i : Int) (((runeAt s i).1 : Nat) : Int) = some (safeL s i) := by
  simp only [quote_plain, quote_plain_p1, quote_plain_p2]
  by_cases h : (s.getD i 0).toNat < 128
  · rw [rune_ascii h]
    dsimp only
    rw [cond_f (by rw [beq_eq_false_iff_ne]; omega), cond_false]
    by_cases h2 : 32 ≤ (s.getD i 0).toNat
    case neg => rw [cond_f (dec_f (by omega)), safeL, dec_f (fun e => h2 e.2.1)]
    rw [cond_t (dec_t (by omega))]
    by_cases h3 : (s.getD i 0).toNat = 127
    · rw [h3, safeL, dec_f (fun e => e.2.2 h3)]; rfl
    · rw [safeL, dec_t ⟨by rw [rl, if_pos h]; omega, h2, h3⟩]
      congr 1; rw [bne_iff_ne]; omega
  · have hr := rune_high hi (by omega)
    have hp := unitL_pos hi
    rw [unit_eq N hi, Option.bind_some]
    by_cases h1 : unitL s i = 1
    · have hsf : safeL s i = false := dec_f (fun e => by have h0 := e.1; rw [rl, if_neg h, if_pos h1] at h0; omega)
      rw [bad_rune (by omega) h1, h1, hsf]; rfl
    · have hf : (((unitL s i : Nat) : Int) == 1) = false := by rw [beq_eq_false_iff_ne]; omega
      have hsf : safeL s i = true := dec_t ⟨by rw [rl, if_neg h, if_neg h1]; omega, by omega, by omega⟩
      have tail : (cond (decide ((32 : Int) ≤ (((runeAt s i).1 : Nat) : Int))) (some ((((runeAt s i).1 : Nat) : Int) != 127)) (some false)) = some true := by
        rw [cond_t (dec_t (by omega))]; congr 1; rw [bne_iff_ne]; omega
      rw [hf, hsf]
      simp only [cond_false]
      rw [tail]
      cases ((((runeAt s i).1 : Nat) : Int) == 65533) <;> rfl

/-! ## the text -/
def piece (s : List UInt8) (i : Nat) : List UInt8 :=
  cond ((s.getD i 0).toNat == 34 || (s.getD i 0).toNat == 92) [92, s.getD i 0] (cond (safeL s i) ((s.drop i).take (unitL s i)) [92, 120, hd ((s.getD i 0).toNat / 16), hd ((s.getD i 0).toNat % 16)])
def textR (s : List UInt8) : Nat → Nat → List UInt8
  | 0, _ => []
  | f + 1, i => cond (decide (i < s.length)) (piece s i ++ textR s f (i + unitL s i)) []

theorem textR_fuel (s : List UInt8) : ∀ (f f' i : Nat), s.length - i ≤ f → s.length - i ≤ f' → textR s f i = textR s f' i
  | 0, f', i, h, h' => by
    cases f' with
    | zero => rfl
    | succ f' => simp only [textR]; rw [dec_f (by omega)]; rfl
  | f + 1, 0, i, h, h' => by simp only [textR]; rw [dec_f (by omega)]; rfl
  | f + 1, f' + 1, i, h, h' => by
    simp only [textR]
    by_cases hi : i < s.length
    · have := unitL_pos hi
      rw [textR_fuel s f f' (i + unitL s i) (by omega) (by omega)]
    · rw [dec_f hi]; rfl

def textS (s : List UInt8) (i : Nat) : List UInt8 := textR s s.length i
theorem textS_step {s : List UInt8} {i : Nat} (hi : i < s.length) : textS s i = piece s i ++ textS s (i + unitL s i) := by
  have := unitL_pos hi
  unfold textS
  rw [textR_fuel s s.length (s.length + 1) i (by omega) (by omega)]
  simp only [textR]
  rw [dec_t hi]; rfl
theorem textS_end {s : List UInt8} {i : Nat} (hi : s.length ≤ i) : textS s i = [] := by
  unfold textS
  cases h : s.length with
  | zero => rfl
  | succ n => simp only [textR]; rw [dec_f (by omega)]; rfl

theorem piece_length {s : List UInt8} {i : Nat} (hi : i < s.length) : (piece s i).length ≤ 4 * unitL s i := by
  have := unitL_pos hi
  unfold piece
  cases ((s.getD i 0).toNat == 34 || (s.getD i 0).toNat == 92)
  · cases safeL s i
    · simp; omega
    · simp; omega
  · simp; omega

theorem ofStr_append (a b : List UInt8) : ofStr (a ++ b) = ofStr a ++ ofStr b := by simp [ofStr]

theorem text_eq (N : Nat) {s : List UInt8} (hs : s.length ≤ 1000) (hN : 1001 < N) : quote_Text N s = some (34 :: (textS s 0 ++ [34])) := by
  simp only [quote_Text, quote_Text_p1]
  rw [iter_eq (I := fun (v : List Int × (List UInt8 × Nat)) => ∃ (o : List UInt8) (i : Nat), v = (ofStr o, (s, i)) ∧ i ≤ s.length ∧ o.length ≤ 4 * i + 1 ∧ o ++ textS s i = 34 :: textS s 0) (m := fun v => s.length - v.2.2) (R := fun _ => some (34 :: (textS s 0 ++ [34]))) ?_ N ([34], (s, 0)) ⟨[34], 0, rfl, by omega, by simp, rfl⟩ (by dsimp only; omega)]
  rintro v r ⟨o, i, rfl, hi, ho, hT⟩ hr
  dsimp only at hr ⊢
  simp only [quote_Text_s1, quote_Text_p2]
  by_cases hlt : i < s.length
  · have hu := unitL_pos hlt
    have hpl := piece_length hlt
    have hb := u8_lt (s.getD i 0)
    rw [textS_step hlt] at hT
    have nxt : r (ofStr o ++ ofStr (piece s i), (s, i + (runeAt s i).2)) = some (34 :: (textS s 0 ++ [34])) :=
      hr _ ⟨o ++ piece s i, i + unitL s i, by rw [ofStr_append]; rfl, hu.2, by rw [List.length_append]; omega, by rw [List.append_assoc]; exact hT⟩ (by show s.length - (i + unitL s i) < s.length - i; omega)
    rw [cond_t (dec_t hlt)]
    have hq : ((((runeAt s i).1 : Nat) : Int) == 34) = ((s.getD i 0).toNat == 34) ∧ ((((runeAt s i).1 : Nat) : Int) == 92) = ((s.getD i 0).toNat == 92) := by
      by_cases h : (s.getD i 0).toNat < 128
      · rw [rune_ascii h]
        constructor <;> (rw [Bool.eq_iff_iff, beq_iff_eq, beq_iff_eq]; dsimp only; omega)
      · have := rune_high hlt (by omega)
        constructor <;> (rw [Bool.eq_iff_iff, beq_iff_eq, beq_iff_eq]; omega)
    have main : ∀ b : Bool, b = ((s.getD i 0).toNat == 34 || (s.getD i 0).toNat == 92) →
        (cond b (cond (inR (i : Int) s.length) (cond (decide (((ofStr o).length + 2) * 1 ≤ 70368744177664)) (r (ofStr o ++ [92, (((s.getD (Int.toNat (i : Int)) 0).toNat : Nat) : Int)], (s, i + (runeAt s i).2))) none) none)
          ((quote_plain N s (i : Int) (((runeAt s i).1 : Nat) : Int)).bind fun y => cond y ((quote_Unit N s (i : Int)).bind fun y1 => cond (decide (0 ≤ IntKind.wrap .i64 ((i : Int) + y1) ∧ IntKind.wrap .i64 ((i : Int) + y1) ≤ (s.length : Int))) (cond (decide ((0 : Int) ≤ (i : Int) ∧ (i : Int) ≤ IntKind.wrap .i64 ((i : Int) + y1))) (cond (decide (((ofStr o).length + (ofStr (cut s (Int.toNat (i : Int)) (Int.toNat (IntKind.wrap .i64 ((i : Int) + y1))))).length) * 1 ≤ 70368744177664)) (r (ofStr o ++ ofStr (cut s (Int.toNat (i : Int)) (Int.toNat (IntKind.wrap .i64 ((i : Int) + y1)))), (s, i + (runeAt s i).2))) none) none) none)
            (cond (inR (i : Int) s.length) (cond (inR (shrI .u8 (((s.getD (Int.toNat (i : Int)) 0).toNat : Nat) : Int) 4) 16) (cond (inR (i : Int) s.length) (cond (inR (bitsOp .and .u8 (((s.getD (Int.toNat (i : Int)) 0).toNat : Nat) : Int) 15) 16) (cond (decide (((ofStr o).length + 4) * 1 ≤ 70368744177664)) (r (ofStr o ++ [92, 120, (((hexDigits.getD (Int.toNat (shrI .u8 (((s.getD (Int.toNat (i : Int)) 0).toNat : Nat) : Int) 4)) 0).toNat : Nat) : Int), (((hexDigits.getD (Int.toNat (bitsOp .and .u8 (((s.getD (Int.toNat (i : Int)) 0).toNat : Nat) : Int) 15)) 0).toNat : Nat) : Int)], (s, i + (runeAt s i).2))) none) none) none) none) none))) = some (34 :: (textS s 0 ++ [34])) := by
      intro b hbq
      have hol : (ofStr o).length = o.length := ofStr_length o
      cases b with
      | true =>
        have hpc : piece s i = [92, s.getD i 0] := by unfold piece; rw [← hbq]; rfl
        rw [cond_true, cond_t (inR_nat hlt), cond_t (dec_t (by omega)), Int.toNat_natCast]
        rw [hpc] at nxt; exact nxt
      | false =>
        rw [cond_false, plain_eq N hlt, Option.bind_some]
        cases hsf : safeL s i with
        | true =>
          have hpc : piece s i = (s.drop i).take (unitL s i) := by unfold piece; rw [← hbq, hsf]; rfl
          have hw : IntKind.wrap .i64 ((i : Int) + ((unitL s i : Nat) : Int)) = ((i + unitL s i : Nat) : Int) := by rw [wrap_in (by unfold I64; omega)]; omega
          rw [cond_true, unit_eq N hlt, Option.bind_some, hw, cond_t (dec_t (by omega)), cond_t (dec_t (by omega)), Int.toNat_natCast, Int.toNat_natCast, cut_mid, cond_t (dec_t (by rw [hol, ofStr_length, List.length_take, List.length_drop]; omega))]
          rw [hpc] at nxt; exact nxt
        | false =>
          have hpc : piece s i = [92, 120, hd ((s.getD i 0).toNat / 16), hd ((s.getD i 0).toNat % 16)] := by unfold piece; rw [← hbq, hsf]; rfl
          rw [cond_false, cond_t (inR_nat hlt), Int.toNat_natCast, shr4, and15, cond_t (inR_nat (by omega)), cond_t (inR_nat hlt), cond_t (inR_nat (by omega)), cond_t (dec_t (by omega)), Int.toNat_natCast, Int.toNat_natCast]
          rw [hpc] at nxt; exact nxt
    rw [hq.1, hq.2]
    cases h34 : ((s.getD i 0).toNat == 34) with
    | true => exact main true (by rw [h34]; rfl)
    | false => exact main _ (by rw [h34]; rfl)
  · rw [textS_end (by omega), List.append_nil] at hT
    rw [cond_f (dec_f hlt), cond_t (dec_t (by rw [ofStr_length]; omega)), toStr_append, toStr_ofStr, hT]; rfl

theorem refText_eq (N : Nat) {s : List UInt8} (hs : s.length ≤ 1000) (hN : 1001 < N) : porterref10_Text N s = some (34 :: (textS s 0 ++ [34])) := by
  simp only [porterref10_Text, porterref10_Text_p1]
  rw [iter_eq (I := fun (v : List UInt8 × Int) => ∃ (o : List UInt8) (i : Nat), v = (o, (i : Int)) ∧ i ≤ s.length ∧ o.length ≤ 4 * i + 1 ∧ o ++ textS s i = 34 :: textS s 0) (m := fun v => s.length - v.2.toNat) (R := fun _ => some (34 :: (textS s 0 ++ [34]))) ?_ N ([34], 0) ⟨[34], 0, rfl, by omega, by simp, rfl⟩ (by dsimp only; omega)]
  rintro v r ⟨o, i, rfl, hi, ho, hT⟩ hr
  dsimp only at hr ⊢
  rw [Int.toNat_natCast] at hr
  simp only [porterref10_Text_s1, porterref10_Text_p2, porterref10_Text_p3]
  by_cases hlt : i < s.length
  · have hu := unitL_pos hlt
    have hpl := piece_length hlt
    have hb := u8_lt (s.getD i 0)
    rw [textS_step hlt] at hT
    have hw : IntKind.wrap .i64 ((i : Int) + ((unitL s i : Nat) : Int)) = ((i + unitL s i : Nat) : Int) := by rw [wrap_in (by unfold I64; omega)]; omega
    have nxt : r (o ++ piece s i, ((i + unitL s i : Nat) : Int)) = some (34 :: (textS s 0 ++ [34])) :=
      hr _ ⟨o ++ piece s i, i + unitL s i, rfl, hu.2, by rw [List.length_append]; omega, by rw [List.append_assoc]; exact hT⟩ (by dsimp only; rw [Int.toNat_natCast]; omega)
    have hone : cut s i (i + 1) = [s.getD i 0] := by rw [cut_mid, drop_cons s 0 i hlt]; rfl
    rw [cond_t (dec_t (by omega)), refUnit_eq N hlt (by omega) (by omega), Option.bind_some, hw, wrap_succ (by omega), cond_t (inR_nat hlt), cond_t (inR_nat hlt), Int.toNat_natCast, Int.toNat_natCast, Int.toNat_natCast, hone, safe_eq N hlt (by omega) (by omega), Option.bind_some, refHex_eq N (by simp) (by simp; omega), Option.bind_some]
    have q34 : ((((s.getD i 0).toNat : Nat) : Int) == 34) = ((s.getD i 0).toNat == 34) := by rw [Bool.eq_iff_iff, beq_iff_eq, beq_iff_eq]; omega
    have q92 : ((((s.getD i 0).toNat : Nat) : Int) == 92) = ((s.getD i 0).toNat == 92) := by rw [Bool.eq_iff_iff, beq_iff_eq, beq_iff_eq]; omega
    rw [q34, q92]
    unfold piece at nxt
    cases h34 : ((s.getD i 0).toNat == 34) with
    | true =>
      rw [h34, Bool.true_or] at nxt
      rw [cond_true]
      rw [cond_true] at nxt
      rw [cond_true, cond_t (dec_t (by omega)), cond_t (dec_t (by omega)), cond_t (dec_t (by omega)), cond_t (dec_t (by simp; omega)), List.append_assoc]
      exact nxt
    | false =>
      rw [h34, Bool.false_or] at nxt
      rw [cond_false]
      cases h92 : ((s.getD i 0).toNat == 92) with
      | true =>
        rw [h92] at nxt
        rw [cond_true] at nxt
        rw [cond_true, cond_t (dec_t (by omega)), cond_t (dec_t (by omega)), cond_t (dec_t (by omega)), cond_t (dec_t (by simp; omega)), List.append_assoc]
        exact nxt
      | false =>
        rw [h92, cond_false] at nxt
        rw [cond_false]
        cases hsf : safeL s i with
        | true =>
          rw [hsf, cond_true] at nxt
          rw [cond_true, cond_t (dec_t (by omega)), cond_t (dec_t (by omega)), cut_mid, cond_t (dec_t (by rw [List.length_take, List.length_drop]; omega))]
          exact nxt
        | false =>
          rw [hsf, cond_false] at nxt
          rw [cond_false, cond_t (dec_t (by omega)), cond_t (dec_t (by omega)), cond_t (dec_t (by omega)), cond_t (dec_t (by simp [hexL]; omega)), List.append_assoc]
          exact nxt
  · rw [textS_end (by omega), List.append_nil] at hT
    rw [cond_f (dec_f (by omega)), cond_t (dec_t (by omega)), hT]; rfl

set_option maxRecDepth 100000 in
theorem works_eq (k : Nat) : porterlaw10_works (k + 60) = some true := by kernel_rfl

theorem texts_law (k : Nat) {s : List UInt8} {i : Int} : porterlaw10_QuoteTexts (k + 2000) s i = some true := by
  have hw : porterlaw10_works (k + 2000) = some true := works_eq (k + 1940)
  simp only [porterlaw10_QuoteTexts, hw]
  by_cases hs : 300 < s.length
  · rw [cond_t (dec_t (by omega))]; rfl
  rw [cond_f (dec_f (by omega)), text_eq _ (by omega) (by omega), Option.bind_some, refText_eq _ (by omega) (by omega), Option.bind_some, beq_self_eq_true, cond_true]
  by_cases hi : 0 ≤ i ∧ i < (s.length : Int)
  · obtain ⟨n, rfl⟩ := Int.eq_ofNat_of_zero_le hi.1
    rw [unit_eq _ (by omega), Option.bind_some, refUnit_eq _ (by omega) (by omega) (by omega), Option.bind_some, beq_self_eq_true, cond_true]; rfl
  · rw [unit_none _ (by omega), Option.bind_some, refUnit_none _ (by omega), Option.bind_some]; rfl
end Go.Proofs.YtpnjnnhedadjgaaDoorLf
