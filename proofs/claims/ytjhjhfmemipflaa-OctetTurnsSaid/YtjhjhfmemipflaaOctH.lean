/- What the plain functions of octet say: digits; pieces, joined. -/
import Derived.Test.YtjhjhfmemipflaaOctG
set_option linter.all false
namespace Go.Proofs.YtjhjhfmemipflaaLf
open Go Go.Lift Go.Proofs.YtjhjhfmemipflaaPx

def hexDigits : List UInt8 := [48, 49, 50, 51, 52, 53, 54, 55, 56, 57, 97, 98, 99, 100, 101, 102]
def hd (n : Nat) : UInt8 := hexDigits.getD n 0

def hexL : List UInt8 → List UInt8
  | [] => []
  | u :: r => hd (u.toNat / 16) :: hd (u.toNat % 16) :: hexL r

def dig (u : UInt8) : Option Nat := if 48 ≤ u.toNat ∧ u.toNat ≤ 57 then some (u.toNat - 48) else if 97 ≤ u.toNat ∧ u.toNat ≤ 102 then some (u.toNat - 87) else none

def unhexL : List UInt8 → Option (List UInt8)
  | [] => some []
  | [_] => none
  | x :: y :: r => match dig x, dig y with
    | some h, some l => (match unhexL r with
      | some b => some (UInt8.ofNat (h * 16 + l) :: b)
      | none => none)
    | _, _ => none

theorem dig_hd : ∀ n, n < 16 → dig (hd n) = some n := by decide
theorem hd_dig {u : UInt8} {n : Nat} (h : dig u = some n) : n < 16 ∧ hd n = u := by
  unfold dig at h
  have key : ∀ m, m < 256 → ∀ n, (if 48 ≤ m ∧ m ≤ 57 then some (m - 48) else if 97 ≤ m ∧ m ≤ 102 then some (m - 87) else none) = some n → n < 16 ∧ (hd n).toNat = m := by
    intro m hm n h
    split at h
    · cases h
      have : ∀ k, k < 10 → k < 16 ∧ (hd k).toNat = k + 48 := by decide
      have := this (m - 48) (by omega)
      omega
    · split at h
      · cases h
        have : ∀ k, k < 16 → 10 ≤ k → k < 16 ∧ (hd k).toNat = k + 87 := by decide
        have := this (m - 87) (by omega) (by omega)
        omega
      · cases h
  have := key u.toNat (u8_lt u) n h
  exact ⟨this.1, UInt8.toNat_inj.1 this.2⟩

theorem unhex_hex : ∀ s : List UInt8, unhexL (hexL s) = some s
  | [] => rfl
  | u :: r => by
    have := u8_lt u
    simp only [hexL, unhexL, dig_hd _ (by omega : u.toNat / 16 < 16), dig_hd _ (by omega : u.toNat % 16 < 16), unhex_hex r]
    rw [show u.toNat / 16 * 16 + u.toNat % 16 = u.toNat by omega, UInt8.ofNat_toNat]

theorem hex_unhex : ∀ (n : Nat) (s b : List UInt8), s.length ≤ n → unhexL s = some b → hexL b = s
  | _, [], b, _, h => by cases h; rfl
  | _, [_], b, _, h => by simp [unhexL] at h
  | 0, _ :: _ :: _, b, hl, _ => by simp at hl
  | n + 1, x :: y :: r, b, hl, h => by
    simp only [unhexL] at h
    split at h
    · rename_i p q hp hq
      split at h
      · rename_i c hc
        cases h
        obtain ⟨h1, h2⟩ := hd_dig hp
        obtain ⟨h3, h4⟩ := hd_dig hq
        have e : (UInt8.ofNat (p * 16 + q)).toNat = p * 16 + q := by rw [UInt8.toNat_ofNat']; omega
        simp only [hexL, e, show (p * 16 + q) / 16 = p by omega, show (p * 16 + q) % 16 = q by omega, h2, h4]
        rw [hex_unhex n r c (by simp at hl; omega) hc]
      · cases h
    · cases h

theorem hexL_length : ∀ s : List UInt8, (hexL s).length = 2 * s.length
  | [] => rfl
  | _ :: r => by simp only [hexL, List.length_cons, hexL_length r]; omega

theorem unhex_length : ∀ (n : Nat) (s b : List UInt8), s.length ≤ n → unhexL s = some b → 2 * b.length = s.length := fun n s b hn h => by
  have := hex_unhex n s b hn h
  rw [← this, hexL_length]

theorem unhex_odd : ∀ (n : Nat) (s : List UInt8), s.length ≤ n → s.length % 2 = 1 → unhexL s = none := fun n s hn h => by
  cases hu : unhexL s with
  | none => rfl
  | some b => have := unhex_length n s b hn hu; omega

theorem shr4 (n : Nat) : shrI .u8 ((n : Nat) : Int) 4 = ((n / 16 : Nat) : Int) := by
  have : shrI .u8 ((n : Nat) : Int) 4 = ((n : Nat) : Int).fdiv 16 := rfl
  rw [this, Int.fdiv_eq_ediv_of_nonneg _ (by omega)]; rfl

theorem and15 (u : UInt8) : bitsOp .and .u8 ((u.toNat : Nat) : Int) 15 = ((u.toNat % 16 : Nat) : Int) := by
  have := and_u8 u 15
  rw [show (((15 : UInt8).toNat : Nat) : Int) = 15 from rfl] at this
  rw [this, UInt8.toNat_and]
  congr 1
  exact Nat.and_two_pow_sub_one_eq_mod u.toNat 4

theorem hex_eq (N : Nat) {s : List UInt8} (hs : s.length ≤ 10000000000) (hN : s.length < N) : octet_Hex N s = some (hexL s) := by
  simp only [octet_Hex, octet_Hex_p1]
  rw [wrap_in (x := 2 * ((s.length : Nat) : Int)) (by unfold I64; omega), cond_t (dec_t ⟨by omega, by omega, by omega, by omega⟩)]
  rw [iter_eq (I := fun (v : List Int × Int) => v.1.length = 2 * v.2.toNat ∧ 0 ≤ v.2 ∧ v.2 ≤ ((s.length : Nat) : Int)) (m := fun (v : List Int × Int) => s.length - v.2.toNat)
    (R := fun (v : List Int × Int) => some (toStr v.1 ++ hexL (s.drop v.2.toNat))) ?_ N _ ⟨by simp, by dsimp only; omega, by dsimp only; omega⟩ (by simpa using hN)]
  · simp [toStr]
  rintro ⟨out, v⟩ r ⟨hl, h0, h1⟩ hr
  dsimp only at *
  obtain ⟨i, rfl⟩ := Int.eq_ofNat_of_zero_le h0
  simp only [octet_Hex_s1, Int.toNat_natCast] at *
  by_cases hlt : i < s.length
  · have hb := u8_lt (s.getD i 0)
    rw [cond_t (dec_t (by omega)), cond_t (inR_nat hlt), shr4, and15, cond_t (inR_nat (by omega)), cond_t (inR_nat hlt), cond_t (inR_nat (by omega)), cond_t (dec_t (by omega)), wrap_succ (by omega), hr _ ⟨by simp; omega, by omega, by omega⟩ (by dsimp only; omega), drop_cons s 0 i hlt]
    simp only [Int.toNat_natCast, toStr_append, hexL, List.append_assoc]
    congr 2
    have : ∀ a b : UInt8, toStr [((a.toNat : Nat) : Int), ((b.toNat : Nat) : Int)] = [a, b] := by intro a b; simp [toStr]
    rw [this]
    rfl
  · rw [cond_f (dec_f (by omega)), drop_nil' s (by omega)]
    simp [hexL]

theorem refHex_eq (N : Nat) {s : List UInt8} (hs : s.length ≤ 10000000000) (hN : s.length < N) : porterref02_Hex N s = some (hexL s) := by
  simp only [porterref02_Hex, porterref02_Hex_p1]
  rw [iter_eq (I := fun (v : List UInt8 × Int) => v.1.length = 2 * v.2.toNat ∧ 0 ≤ v.2 ∧ v.2 ≤ ((s.length : Nat) : Int)) (m := fun (v : List UInt8 × Int) => s.length - v.2.toNat)
    (R := fun (v : List UInt8 × Int) => some (v.1 ++ hexL (s.drop v.2.toNat))) ?_ N _ ⟨by simp, by dsimp only; omega, by dsimp only; omega⟩ (by simpa using hN)]
  · simp
  rintro ⟨out, v⟩ r ⟨hl, h0, h1⟩ hr
  dsimp only at *
  obtain ⟨i, rfl⟩ := Int.eq_ofNat_of_zero_le h0
  simp only [porterref02_Hex_s1, Int.toNat_natCast] at *
  by_cases hlt : i < s.length
  · have hb := u8_lt (s.getD i 0)
    have hq : ((((s.getD i 0).toNat : Nat) : Int)).tdiv 16 = (((s.getD i 0).toNat / 16 : Nat) : Int) := by rw [Int.tdiv_eq_ediv_of_nonneg (by omega)]; omega
    have hm : ((((s.getD i 0).toNat : Nat) : Int)).tmod 16 = (((s.getD i 0).toNat % 16 : Nat) : Int) := by rw [Int.tmod_eq_emod_of_nonneg (by omega)]; omega
    have one : ∀ k, k < 16 → cut hexDigits k (k + 1) = [hd k] := by decide
    have e1 : ∀ k : Nat, k < 16 → IntKind.wrap .i64 ((k : Int) + 1) = ((k + 1 : Nat) : Int) := fun k hk => wrap_succ (by omega)
    have hwq : IntKind.wrap .i64 ((((s.getD i 0).toNat / 16 : Nat)) : Int) = ((((s.getD i 0).toNat / 16 : Nat)) : Int) := wrap_in (by unfold I64; omega)
    have e2 := e1 ((s.getD i 0).toNat / 16) (by omega)
    have e3 := e1 ((s.getD i 0).toNat % 16) (by omega)
    rw [cond_t (dec_t (by omega)), cond_t (inR_nat hlt), cond_t (inR_nat hlt)]
    simp only [wrap64_byte, hq, hm, hwq, e2, e3, Int.toNat_natCast]
    have hc1 := one ((s.getD i 0).toNat / 16) (by omega)
    have hc2 := one ((s.getD i 0).toNat % 16) (by omega)
    have hlen : hexDigits.length = 16 := rfl
    unfold hexDigits at hc1 hc2 hlen
    simp only [hlen]
    rw [hc1, hc2, cond_t (dec_t ⟨by omega, by omega⟩), cond_t (dec_t ⟨by omega, by omega⟩), cond_t (dec_t (by simp; omega)), cond_t (dec_t ⟨by omega, by omega⟩), cond_t (dec_t ⟨by omega, by omega⟩), cond_t (dec_t (by simp; omega)), wrap_succ (by omega), hr _ ⟨by simp; omega, by omega, by omega⟩ (by dsimp only; omega), drop_cons s 0 i hlt]
    simp only [Int.toNat_natCast, hexL, List.append_assoc, List.cons_append, List.nil_append]
  · rw [cond_f (dec_f (by omega)), drop_nil' s (by omega)]
    simp [hexL]

theorem digit_eq (N : Nat) (u : UInt8) : octet_digit N ((u.toNat : Nat) : Int) = some (match dig u with | some n => ((n : Int), true, ()) | none => (0, false, ())) := by
  have hu := u8_lt u
  simp only [octet_digit, octet_digit_p1, octet_digit_p2, octet_digit_p3, dig, cond_false]
  by_cases h1 : 48 ≤ u.toNat ∧ u.toNat ≤ 57
  · rw [if_pos h1, cond_t (dec_t (by omega)), cond_t (dec_t (by omega)), wrap_u8]
    simp only [Option.some.injEq, Prod.mk.injEq, and_true]; omega
  · rw [if_neg h1]
    have e : ∀ (X Y : Option (Int × Bool × Unit)), cond (decide ((48 : Int) ≤ ((u.toNat : Nat) : Int))) (cond (decide (((u.toNat : Nat) : Int) ≤ 57)) X Y) Y = Y := by
      intro X Y
      by_cases h2 : 48 ≤ u.toNat
      · rw [cond_t (dec_t (by omega)), cond_f (dec_f (by omega))]
      · rw [cond_f (dec_f (by omega))]
    rw [e]
    by_cases h3 : 97 ≤ u.toNat ∧ u.toNat ≤ 102
    · rw [if_pos h3, cond_t (dec_t (by omega)), cond_t (dec_t (by omega)), wrap_u8, wrap_u8]
      simp only [Option.some.injEq, Prod.mk.injEq, and_true]; omega
    · rw [if_neg h3]
      by_cases h2 : 97 ≤ u.toNat
      · rw [cond_t (dec_t (by omega)), cond_f (dec_f (by omega))]
      · rw [cond_f (dec_f (by omega))]

theorem nibbles : ∀ h, h < 16 → ∀ l, l < 16 → bitsOp .or .u8 (shlI .u8 ((h : Nat) : Int) 4) ((l : Nat) : Int) = ((h * 16 + l : Nat) : Int) := by decide +kernel

def unhexR (o : Option (List UInt8)) : List UInt8 × Bool × Unit := match o with
  | some b => (b, true, ())
  | none => ([], false, ())

theorem unhex_eq (N : Nat) {s : List UInt8} (hs : s.length ≤ 10000000000) (hN : s.length < N) : octet_Unhex N s = some (unhexR (unhexL s)) := by
  simp only [octet_Unhex, octet_Unhex_p1]
  have hm : ((s.length : Nat) : Int).tmod 2 = ((s.length % 2 : Nat) : Int) := by rw [Int.tmod_eq_emod_of_nonneg (by omega)]; omega
  have hq : ((s.length : Nat) : Int).tdiv 2 = ((s.length / 2 : Nat) : Int) := by rw [Int.tdiv_eq_ediv_of_nonneg (by omega)]; omega
  rw [hm, hq]
  by_cases ho : s.length % 2 = 1
  · rw [cond_t (by rw [ho]; rfl), unhex_odd _ s (Nat.le_refl _) ho]; rfl
  rw [cond_f (by rw [show s.length % 2 = 0 by omega]; rfl), wrap_in (x := ((s.length / 2 : Nat) : Int)) (by unfold I64; omega), cond_t (dec_t ⟨by omega, by omega, by omega, by omega⟩)]
  simp only [Int.toNat_natCast, List.length_replicate]
  rw [iter_eq (I := fun (v : List Int × Int) => v.1.length = s.length / 2 ∧ 0 ≤ v.2 ∧ v.2 ≤ ((s.length / 2 : Nat) : Int)) (m := fun (v : List Int × Int) => s.length - v.2.toNat)
    (R := fun (v : List Int × Int) => some (match unhexL (s.drop (2 * v.2.toNat)) with | some b => (toStr (v.1.take v.2.toNat) ++ b, true, ()) | none => ([], false, ()))) ?_ N _ ⟨by simp, by dsimp only; omega, by dsimp only; omega⟩ (by simpa using hN)]
  · simp only [Int.toNat_zero, Nat.mul_zero, List.drop_zero, List.take_zero]
    cases unhexL s <;> rfl
  rintro ⟨out, v⟩ r ⟨hl, h0, h1⟩ hr
  dsimp only at *
  obtain ⟨i, rfl⟩ := Int.eq_ofNat_of_zero_le h0
  simp only [octet_Unhex_s1, Int.toNat_natCast] at *
  by_cases hlt : i < s.length / 2
  · have hw1 : IntKind.wrap .i64 (2 * (i : Int)) = ((2 * i : Nat) : Int) := by rw [wrap_in (by unfold I64; omega)]; omega
    have h2i : 2 * i < s.length := by omega
    have h2i1 : 2 * i + 1 < s.length := by omega
    have hio : i < out.length := by omega
    rw [cond_t (dec_t (by omega)), hw1, cond_t (inR_nat h2i), wrap_succ (by omega), Int.toNat_natCast, Int.toNat_natCast, digit_eq, Option.bind_some, cond_t (inR_nat h2i1), digit_eq, Option.bind_some]
    rw [drop_cons s 0 (2 * i) h2i, drop_cons s 0 (2 * i + 1) h2i1]
    simp only [unhexL, octet_Unhex_p2, octet_Unhex_p3]
    cases hx : dig (s.getD (2 * i) 0) with
    | none => rfl
    | some h =>
      cases hy : dig (s.getD (2 * i + 1) 0) with
      | none => rfl
      | some l =>
        obtain ⟨hh, _⟩ := hd_dig hx
        obtain ⟨hl', _⟩ := hd_dig hy
        simp only [Bool.not_true, cond_false]
        rw [cond_t (inR_nat hio), cond_t (dec_t hio), nibbles h hh l hl', wrap_succ (by omega), hr _ ⟨by simpa using hl, by omega, by omega⟩ (by dsimp only; omega)]
        simp only [Int.toNat_natCast, show 2 * (i + 1) = 2 * i + 1 + 1 by omega, take_set_succ _ _ _ hio, toStr_append]
        cases unhexL (s.drop (2 * i + 1 + 1)) with
        | none => rfl
        | some b =>
          have : toStr [((h * 16 + l : Nat) : Int)] = [UInt8.ofNat (h * 16 + l)] := by simp only [toStr, List.map_cons, List.map_nil, Int.toNat_natCast]
          simp only [this, List.append_assoc, List.cons_append, List.nil_append]
  · have hi : i = s.length / 2 := by omega
    rw [cond_f (dec_f (by omega)), drop_nil' s (by omega), List.take_of_length_le (by omega)]
    simp [unhexL]

theorem octetDigits_true (k : Nat) {s t : List UInt8} : porterlaw02_OctetDigits (k + 2020) s t = some true := by
  have hw : porterlaw02_works (k + 2020) = some true := octWorks (k + 2000)
  simp only [porterlaw02_OctetDigits, porterlaw02_OctetDigits_p1, porterlaw02_OctetDigits_p2, hw, Option.bind_some]
  by_cases h1 : 300 < s.length
  · rw [cond_t (dec_t (by omega))]; rfl
  rw [cond_f (dec_f (by omega))]
  by_cases h2 : 300 < t.length
  · rw [cond_t (dec_t (by omega))]
  rw [cond_f (dec_f (by omega))]
  have hl := hexL_length s
  rw [hex_eq _ (by omega) (by omega)]
  simp only [Option.bind_some]
  rw [unhex_eq _ (by omega) (by omega), unhex_hex, unhex_eq _ (by omega) (by omega), refHex_eq _ (by omega) (by omega)]
  simp only [Option.bind_some, beq_self_eq_true, unhexR, cond_true]
  cases hu : unhexL t with
  | none => simp
  | some b =>
    have hb := unhex_length _ t b (Nat.le_refl _) hu
    dsimp only
    rw [refHex_eq _ (by omega) (by omega), hex_unhex _ t b (Nat.le_refl _) hu]
    simp

theorem back_loop (N : Nat) (a b : List UInt8) {n : Int} {l : List (List UInt8)} (hl : l.length < N) (hlen : l.flatten.length ≤ 10000000000) (hll : l.length ≤ 10000000000)
    (hsz : ∀ i, i < l.length → 1 ≤ n ∧ l.getD i [] ≠ [] ∧ ((l.getD i []).length : Int) ≤ n ∧ (i + 1 < l.length → ((l.getD i []).length : Int) = n)) (k0 : Bool → Option Bool) (k1 : List UInt8 → Option Bool) :
    porterlaw02_OctetBack_p3 N a b n l [] 0 k0 k1 = k1 l.flatten := by
  simp only [porterlaw02_OctetBack_p3]
  rw [iter_eq (I := fun (v : List UInt8 × Int) => v.1.length + (l.drop v.2.toNat).flatten.length = l.flatten.length ∧ 0 ≤ v.2 ∧ v.2 ≤ ((l.length : Nat) : Int)) (m := fun (v : List UInt8 × Int) => l.length - v.2.toNat)
    (R := fun (v : List UInt8 × Int) => k1 (v.1 ++ (l.drop v.2.toNat).flatten)) ?_ N _ ⟨by simp, by dsimp only; omega, by dsimp only; omega⟩ (by simp; omega)]
  · simp
  rintro ⟨s, v⟩ r ⟨hsl, h0, h3⟩ hr
  dsimp only at *
  obtain ⟨i, rfl⟩ := Int.eq_ofNat_of_zero_le h0
  simp only [porterlaw02_OctetBack_s3, porterlaw02_OctetBack_p4, porterlaw02_OctetBack_p5, porterlaw02_OctetBack_p6, Int.toNat_natCast] at *
  by_cases hlt : i < l.length
  · obtain ⟨g1, g2, g3, g4⟩ := hsz i hlt
    have hd := drop_cons l [] i hlt
    rw [hd, List.flatten_cons, List.length_append] at hsl
    rw [cond_t (dec_t (by omega)), cond_t (inR_nat hlt), cond_f (by rw [beq_eq_false_iff_ne]; exact g2), cond_t (inR_nat hlt), cond_f (dec_f (by omega)), wrap_succ (by omega)]
    have := hr (s ++ l.getD i [], ((i + 1 : Nat) : Int)) ⟨by rw [List.length_append, Int.toNat_natCast]; omega, by omega, by omega⟩ (by dsimp only; omega)
    have e : k1 (s ++ l.getD i [] ++ (l.drop (i + 1)).flatten) = k1 (s ++ (l.drop i).flatten) := by rw [hd, List.flatten_cons, List.append_assoc]
    rw [← e]
    dsimp only at this
    rw [Int.toNat_natCast] at this
    by_cases h : i + 1 < l.length
    · rw [cond_t (dec_t (by omega)), cond_t (inR_nat hlt), cond_f (by rw [g4 h]; simp), cond_t (inR_nat hlt), cond_t (dec_t (by omega)), this]
    · rw [cond_f (dec_f (by omega)), cond_f rfl, cond_t (inR_nat hlt), cond_t (dec_t (by omega)), this]
  · rw [cond_f (dec_f (by omega)), drop_nil' l (by omega)]
    simp

theorem octetBack_true (k : Nat) {a b : List UInt8} {n : Int} (hn : I64 n) : porterlaw02_OctetBack (k + 2020) a b n = some true := by
  have hw : porterlaw02_works (k + 2020) = some true := octWorks (k + 2000)
  simp only [porterlaw02_OctetBack, porterlaw02_OctetBack_p1, porterlaw02_OctetBack_p2, hw, Option.bind_some]
  by_cases h1 : 2000 < a.length
  · rw [cond_t (dec_t (by omega))]; rfl
  rw [cond_f (dec_f (by omega))]
  by_cases h2 : 2000 < b.length
  · rw [cond_t (dec_t (by omega))]
  rw [cond_f (dec_f (by omega)), cut_eq _ (by omega) (by omega) hn, Option.bind_some]
  -- the pieces
  have hcl : (cutL a n).length ≤ a.length := by
    unfold cutL
    split
    · simp
    · exact pieces_len_le (by omega) a.length a (Nat.le_refl _)
  have hsz : ∀ i, i < (cutL a n).length → 1 ≤ n ∧ (cutL a n).getD i [] ≠ [] ∧ (((cutL a n).getD i []).length : Int) ≤ n ∧ (i + 1 < (cutL a n).length → (((cutL a n).getD i []).length : Int) = n) := by
    intro i hi
    unfold cutL at hi ⊢
    split at hi
    · simp at hi
    · rename_i hn1
      rw [if_neg hn1]
      have := pieces_sizes (by omega : 1 ≤ n.toNat) a.length a (Nat.le_refl _) i hi
      exact ⟨by omega, this.1, by omega, fun h => by have := this.2.2 h; omega⟩
  have hjoin : (cutL a n).flatten = if n < 1 then [] else a := by
    unfold cutL
    split
    · rfl
    · exact pieces_join (by omega) a.length a (Nat.le_refl _)
  have hjl : (cutL a n).flatten.length ≤ a.length := by rw [hjoin]; split <;> simp
  have hl0 : n < 1 → cutL a n = [] := fun h => by rw [cutL, if_pos h]
  generalize cutL a n = l at *
  rw [back_loop _ a b (by omega) (by omega) (by omega) hsz]
  have hx1 : (xorL a b).length = min a.length b.length := xorL_length a b
  have p8 : ∀ k0 : Bool → Option Bool, porterlaw02_OctetBack_p8 (k + 2020) a b n l l.flatten k0 = k0 false := by
    intro k0
    unfold porterlaw02_OctetBack_p8
    by_cases hn1 : n < 1
    · rw [hl0 hn1, cond_f (dec_f (by omega)), cond_t (dec_t hn1), show decide ((0 : Int) < (((([] : List (List UInt8)).length : Nat)) : Int)) = false from rfl]
    · rw [hjoin, if_neg hn1, cond_t (dec_t (by omega)), cond_f (by simp), cond_f (dec_f hn1)]
  simp only [porterlaw02_OctetBack_p7, p8]
  rw [cond_f rfl, xor_eq _ (by omega) (by omega), Option.bind_some, xor_eq _ (by omega) (by omega), Option.bind_some, xor_eq (a := b) _ (by omega) (by omega), xorL_back, min_len]
  have e1 : (List.take (min a.length b.length) a).length = min a.length b.length := by rw [List.length_take]; omega
  rw [e1, cond_t (by simp), cond_t (dec_t ⟨by omega, by omega⟩), cut_take, Int.toNat_natCast, cond_t (by simp)]
  simp only [Option.bind_some, xorL_comm b a, beq_self_eq_true, cond_true]
end Go.Proofs.YtjhjhfmemipflaaLf
