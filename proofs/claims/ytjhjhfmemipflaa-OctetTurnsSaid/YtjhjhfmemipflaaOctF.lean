/- What the plain functions of octet say. -/
import Derived.Test.YtjhjhfmemipflaaOctM
import Derived.Test.YtjhjhfmemipflaaFnO
set_option linter.all false
namespace Go.Proofs.YtjhjhfmemipflaaLf
open Go Go.Lift Go.Proofs.YtjhjhfmemipflaaPx

theorem order_eq (N : Nat) (a b : Int) : octet_order N a b = some (if a < b then -1 else if b < a then 1 else 0) := by
  simp only [octet_order, Bool.cond_eq_ite, decide_eq_true_eq]
  by_cases h1 : a < b <;> by_cases h2 : b < a <;> simp [h1, h2]

theorem compare_eq (N : Nat) {a b : List UInt8} (ha : a.length ≤ 9223372036854775806) (hN : a.length < N) : octet_Compare N a b = some (cmpL a b) := by
  simp only [octet_Compare, octet_Compare_p1, min_len, order_eq, Option.bind_some]
  rw [iter_eq (I := fun v => 0 ≤ v ∧ v ≤ ((min a.length b.length : Nat) : Int)) (m := fun v => a.length - v.toNat) (R := fun v => some (cmpL (a.drop v.toNat) (b.drop v.toNat))) ?_ N 0 ⟨by omega, by omega⟩ (by simpa using hN)]
  · simp
  intro v r ⟨h0, h1⟩ hr
  obtain ⟨i, rfl⟩ := Int.eq_ofNat_of_zero_le h0
  simp only [octet_Compare_s1, Int.toNat_natCast]
  by_cases hlt : i < min a.length b.length
  · have hia : i < a.length := by omega
    have hib : i < b.length := by omega
    rw [cond_t (dec_t (by omega)), cond_t (inR_nat hia), cond_t (inR_nat hib), cond_t (inR_nat hia), cond_t (inR_nat hib), u8_bne, drop_cons a 0 i hia, drop_cons b 0 i hib, wrap64_byte, wrap64_byte, order_eq, Option.bind_some]
    generalize a.getD i 0 = x at *
    generalize b.getD i 0 = y at *
    simp only [cmpL, u8_cast_lt]
    by_cases he : x = y
    · rw [cond_f (by simp [he]), wrap_succ (by omega), hr _ ⟨by omega, by omega⟩ (by omega), he]
      have : ¬ y < y := by rw [UInt8.lt_iff_toNat_lt]; omega
      rw [if_neg this, if_neg this]; rfl
    · rw [cond_t (by simp [he])]
      have : ¬ (x.toNat = y.toNat) := fun e => he (UInt8.toNat_inj.1 e)
      simp only [UInt8.lt_iff_toNat_lt]
      by_cases h2 : x.toNat < y.toNat
      · rw [if_pos h2, if_pos h2]
      · have h3 : y.toNat < x.toNat := by omega
        rw [if_neg h2, if_neg h2, if_pos h3, if_pos h3]
  · have hi : i = min a.length b.length := by omega
    rw [cond_f (dec_f (by omega))]
    rcases Nat.lt_or_ge b.length a.length with h | h
    · rw [drop_nil' b (by omega), cmpL_nil_right, List.length_drop]
      congr 1; (repeat' split) <;> omega
    · rw [drop_nil' a (by omega), cmpL_nil_left, List.length_drop]
      congr 1; (repeat' split) <;> omega

theorem refCompare_eq (N : Nat) {a b : List UInt8} (ha : a.length ≤ 9223372036854775806) (hN : a.length < N) : porterref02_Compare N a b = some (cmpL a b) := by
  simp only [porterref02_Compare, porterref02_Compare_p1, porterref02_Compare_p2]
  rw [iter_eq (I := fun v => 0 ≤ v ∧ v ≤ ((min a.length b.length : Nat) : Int)) (m := fun v => a.length - v.toNat) (R := fun v => some (cmpL (a.drop v.toNat) (b.drop v.toNat))) ?_ N 0 ⟨by omega, by omega⟩ (by simpa using hN)]
  · simp
  intro v r ⟨h0, h1⟩ hr
  obtain ⟨i, rfl⟩ := Int.eq_ofNat_of_zero_le h0
  simp only [porterref02_Compare_s2, porterref02_Compare_p3, Int.toNat_natCast]
  by_cases hlt : i < min a.length b.length
  · have hia : i < a.length := by omega
    have hib : i < b.length := by omega
    rw [cond_t (dec_t (by omega)), cond_t (dec_t (by omega)), cond_t (inR_nat hia), cond_t (inR_nat hib), cond_t (inR_nat hia), cond_t (inR_nat hib), drop_cons a 0 i hia, drop_cons b 0 i hib]
    simp only [cmpL]
    by_cases h2 : a.getD i 0 < b.getD i 0
    · rw [cond_t (dec_t ((u8_cast_lt _ _).2 h2)), if_pos h2]
    · rw [cond_f (dec_f (fun e => h2 ((u8_cast_lt _ _).1 e))), if_neg h2]
      by_cases h3 : b.getD i 0 < a.getD i 0
      · rw [cond_t (dec_t ((u8_cast_lt _ _).2 h3)), if_pos h3]
      · rw [cond_f (dec_f (fun e => h3 ((u8_cast_lt _ _).1 e))), if_neg h3, wrap_succ (by omega), hr _ ⟨by omega, by omega⟩ (by omega)]
        rfl
  · have hi : i = min a.length b.length := by omega
    have e1 : ∀ (X Y : Option Int), cond (decide ((i : Int) < ((a.length : Nat) : Int))) (cond (decide ((i : Int) < ((b.length : Nat) : Int))) X Y) Y = Y := by
      intro X Y
      by_cases h1 : i < a.length
      · rw [cond_t (dec_t (by omega)), cond_f (dec_f (by omega))]
      · rw [cond_f (dec_f (by omega))]
    rw [e1]
    rcases Nat.lt_or_ge b.length a.length with h | h
    · rw [drop_nil' b (by omega), cmpL_nil_right, List.length_drop, if_neg (by omega), cond_f (dec_f (by omega)), cond_t (dec_t (by omega))]
    · rw [drop_nil' a (by omega), cmpL_nil_left, List.length_drop]
      by_cases e : a.length = b.length
      · rw [if_pos (by omega), cond_f (dec_f (by omega)), cond_f (dec_f (by omega))]
      · rw [if_neg (by omega), cond_t (dec_t (by omega))]

theorem equal_eq (N : Nat) {a b : List UInt8} (ha : a.length ≤ 9223372036854775806) (hN : a.length < N) : octet_Equal N a b = some (a == b) := by
  simp only [octet_Equal, octet_Equal_p1]
  by_cases hl : a.length = b.length
  · rw [cond_f (by simp [hl]), iter_eq (I := fun (v : Int × Int) => (∃ d : UInt8, v.1 = ((d.toNat : Nat) : Int)) ∧ 0 ≤ v.2 ∧ v.2 ≤ ((a.length : Nat) : Int)) (m := fun (v : Int × Int) => a.length - v.2.toNat)
      (R := fun (v : Int × Int) => some ((UInt8.ofNat v.1.toNat ||| orX (a.drop v.2.toNat) (b.drop v.2.toNat)) == 0)) ?_ N (0, 0) ⟨⟨0, rfl⟩, by omega, by dsimp only; omega⟩ (by simpa using hN)]
    · simp only [Int.toNat_zero, List.drop_zero]
      have : (UInt8.ofNat 0 ||| orX a b) = orX a b := UInt8.zero_or
      rw [this]
      congr 1
      rw [Bool.eq_iff_iff, beq_iff_eq, orX_zero a b hl, beq_iff_eq]
    rintro ⟨x, v⟩ r ⟨⟨d, hd⟩, h0, h1⟩ hr
    dsimp only at *
    subst hd
    obtain ⟨i, rfl⟩ := Int.eq_ofNat_of_zero_le h0
    simp only [octet_Equal_s1, Int.toNat_natCast, UInt8.ofNat_toNat]
    by_cases hlt : i < a.length
    · have hib : i < b.length := by omega
      rw [cond_t (dec_t (by omega)), cond_t (inR_nat hlt), cond_t (inR_nat hib), xor_u8, or_u8, wrap_succ (by omega), hr _ ⟨⟨_, rfl⟩, by omega, by omega⟩ (by dsimp only; omega), drop_cons a 0 i hlt, drop_cons b 0 i hib]
      simp only [Int.toNat_natCast, UInt8.ofNat_toNat, orX, or_assoc']
    · have hi : i = a.length := by omega
      rw [cond_f (dec_f (by omega)), drop_nil' a (by omega)]
      have : orX [] (b.drop i) = 0 := by unfold orX; rfl
      rw [this, UInt8.or_zero]
      congr 1
      rw [Bool.eq_iff_iff, beq_iff_eq, beq_iff_eq, show (0 : Int) = (((0 : UInt8).toNat : Nat) : Int) from rfl, u8_cast_eq]
  · rw [cond_t (by simp; omega)]
    have : ¬ a = b := fun e => hl (by rw [e])
    simp [this]

theorem common_eq (N : Nat) {a b : List UInt8} (ha : a.length ≤ 9223372036854775806) (hN : a.length < N) : octet_Common N a b = some (comL a b : Int) := by
  simp only [octet_Common, octet_Common_p1, min_len]
  rw [iter_eq (I := fun v => 0 ≤ v ∧ v ≤ ((min a.length b.length : Nat) : Int)) (m := fun v => a.length - v.toNat) (R := fun v => some (v + comL (a.drop v.toNat) (b.drop v.toNat))) ?_ N 0 ⟨by omega, by omega⟩ (by simpa using hN)]
  · simp
  intro v r ⟨h0, h1⟩ hr
  obtain ⟨i, rfl⟩ := Int.eq_ofNat_of_zero_le h0
  simp only [octet_Common_s1, Int.toNat_natCast]
  by_cases hlt : i < min a.length b.length
  · have hia : i < a.length := by omega
    have hib : i < b.length := by omega
    rw [cond_t (dec_t (by omega)), cond_t (inR_nat hia), cond_t (inR_nat hib), u8_bne, drop_cons a 0 i hia, drop_cons b 0 i hib]
    generalize a.getD i 0 = x at *
    generalize b.getD i 0 = y at *
    simp only [comL]
    by_cases he : x = y
    · rw [cond_f (by simp [he]), wrap_succ (by omega), hr _ ⟨by omega, by omega⟩ (by omega), if_pos he]
      simp only [Int.toNat_natCast]
      congr 1; omega
    · rw [cond_t (by simp [he]), if_neg he]; simp
  · have hi : i = min a.length b.length := by omega
    rw [cond_f (dec_f (by omega))]
    have : comL (a.drop i) (b.drop i) = 0 := by
      rcases Nat.lt_or_ge b.length a.length with h | h
      · rw [drop_nil' b (by omega)]; cases a.drop i <;> rfl
      · rw [drop_nil' a (by omega)]; rfl
    rw [this, hi]; simp

theorem refCommon_eq (N : Nat) {a b : List UInt8} (ha : a.length ≤ 9223372036854775806) (hN : a.length < N) : porterref02_Common N a b = some (comL a b : Int) := by
  simp only [porterref02_Common, porterref02_Common_p1]
  rw [iter_eq (I := fun v => 0 ≤ v ∧ v ≤ ((min a.length b.length : Nat) : Int)) (m := fun v => a.length - v.toNat) (R := fun v => some (v + comL (a.drop v.toNat) (b.drop v.toNat))) ?_ N 0 ⟨by omega, by omega⟩ (by simpa using hN)]
  · simp
  intro v r ⟨h0, h1⟩ hr
  obtain ⟨i, rfl⟩ := Int.eq_ofNat_of_zero_le h0
  simp only [porterref02_Common_s1, porterref02_Common_p2, Int.toNat_natCast]
  by_cases hlt : i < min a.length b.length
  · have hia : i < a.length := by omega
    have hib : i < b.length := by omega
    rw [cond_t (dec_t (by omega)), cond_t (dec_t (by omega)), cond_t (inR_nat hia), cond_t (inR_nat hib), u8_beq, drop_cons a 0 i hia, drop_cons b 0 i hib]
    generalize a.getD i 0 = x at *
    generalize b.getD i 0 = y at *
    simp only [comL]
    by_cases he : x = y
    · rw [cond_t (by simp [he]), wrap_succ (by omega), hr _ ⟨by omega, by omega⟩ (by omega), if_pos he]
      simp only [Int.toNat_natCast]
      congr 1; omega
    · rw [cond_f (by simp [he]), if_neg he]; simp
  · have hi : i = min a.length b.length := by omega
    have e1 : ∀ (X Y : Option Int), cond (decide ((i : Int) < ((a.length : Nat) : Int))) (cond (decide ((i : Int) < ((b.length : Nat) : Int))) X Y) Y = Y := by
      intro X Y
      by_cases h1 : i < a.length
      · rw [cond_t (dec_t (by omega)), cond_f (dec_f (by omega))]
      · rw [cond_f (dec_f (by omega))]
    rw [e1]
    have : comL (a.drop i) (b.drop i) = 0 := by
      rcases Nat.lt_or_ge b.length a.length with h | h
      · rw [drop_nil' b (by omega)]; cases a.drop i <;> rfl
      · rw [drop_nil' a (by omega)]; rfl
    rw [this]; simp

theorem octWorks (n : Nat) : porterlaw02_works (n + 20) = some true := by kernel_rfl

theorem octetOrders_true (n : Nat) {a b : List UInt8} : porterlaw02_OctetOrders (n + 2020) a b = some true := by
  have hw : porterlaw02_works (n + 2020) = some true := octWorks (n + 2000)
  simp only [porterlaw02_OctetOrders, porterlaw02_OctetOrders_p1, porterlaw02_OctetOrders_p2, hw, Option.bind_some]
  by_cases h1 : 2000 < a.length
  · rw [cond_t (dec_t (by omega))]; rfl
  rw [cond_f (dec_f (by omega))]
  by_cases h2 : 2000 < b.length
  · rw [cond_t (dec_t (by omega))]
  rw [cond_f (dec_f (by omega))]
  rw [compare_eq _ (by omega) (by omega), refCompare_eq _ (by omega) (by omega), equal_eq _ (by omega) (by omega), common_eq _ (by omega) (by omega), refCommon_eq _ (by omega) (by omega)]
  simp
end Go.Proofs.YtjhjhfmemipflaaLf
