/- Layer 12: the law of what one sees of a set. -/
import Derived.Test.YtohnhefabpcfpaaDoorLgChsC
set_option linter.all false
set_option maxRecDepth 100000
namespace Go.Proofs.YtohnhefabpcfpaaDoorLg
open Go Go.Lift Go.Proofs.YtohnhefabpcfpaaDoorPx

def shiftT (t : Nat) : Int := shrI .u64 (Go.IntKind.wrap .u64 ((285870213051353865 : Int) * ((2 ^ t : Nat) : Int))) 58

theorem table_all : ((List.range 64).all fun t => inR (shiftT t) 64 && (Go.IntKind.wrap .i64 (List.getD glob0 (Int.toNat (shiftT t)) (0 : Int)) == (t : Int))) = true := by kernel_rfl

theorem table_at {t : Nat} (h : t < 64) : inR (shiftT t) 64 = true ∧ Go.IntKind.wrap .i64 (List.getD glob0 (Int.toNat (shiftT t)) (0 : Int)) = (t : Int) := by
  have := List.all_eq_true.1 table_all t (List.mem_range.2 h)
  rw [Bool.and_eq_true, beq_iff_eq] at this
  exact this

theorem tz_eq (N : Nat) {x : Int} (h : U64 x) {t q : Nat} (e : x.toNat = 2 ^ t * (2 * q + 1)) (ht : t < 64) : math_bits_TrailingZeros64 N x = some (t : Int) := by
  have hp := Nat.two_pow_pos t
  have hpos : 0 < x.toNat := by
    rw [e]; exact Nat.mul_pos hp (by omega)
  have h1 := h.2
  have hz : (x == (0 : Int)) = false := by
    rw [beq_eq_false_iff_ne]; omega
  have hn : Go.IntKind.wrap .u64 ((0 : Int) - x) = ((2 ^ 64 - x.toNat : Nat) : Int) := by
    rw [wrap_u64, show (2 : Nat) ^ 64 = 18446744073709551616 from rfl]; omega
  have hu : U64 ((2 ^ 64 - x.toNat : Nat) : Int) := by
    rw [show (2 : Nat) ^ 64 = 18446744073709551616 from rfl]; unfold U64; omega
  have ha : bitsOp .and .u64 x (Go.IntKind.wrap .u64 ((0 : Int) - x)) = ((2 ^ t : Nat) : Int) := by
    have hlt : 2 ^ t * (2 * q + 1) < 2 ^ 64 := by rw [← e, show (2 : Nat) ^ 64 = 18446744073709551616 from rfl]; omega
    rw [hn, and_u64 h hu, Int.toNat_natCast, e, low_and hlt]
  obtain ⟨t1, t2⟩ := table_at ht
  rw [math_bits_TrailingZeros64, cond_f hz, ha]
  rw [show shrI .u64 (Go.IntKind.wrap .u64 ((285870213051353865 : Int) * ((2 ^ t : Nat) : Int))) 58 = shiftT t from rfl, cond_t t1, t2]

theorem first4 (N : Nat) (a b c d : Int) (k0 : Int → Option Int) : charset_First_p1 (N + 5) [a, b, c, d] 0 k0 =
    cond (a == 0) (cond (b == 0) (cond (c == 0) (cond (d == 0) none (k0 3)) (k0 2)) (k0 1)) (k0 0) := by kernel_rfl

theorem first_at (N : Nat) {s : List Int} (hs : SetOk s) {w : Nat} (hw : w < 4) (hz : ∀ v, v < w → s.getD v 0 = 0) (hx : s.getD w 0 ≠ 0) :
    (cond (inR (w : Int) 4)
      (cond (decide ((Int.toNat (w : Int)) < (List.length s)))
        ((math_bits_TrailingZeros64 N (List.getD s (Int.toNat (w : Int)) (0 : Int))).bind fun y =>
          some (Go.IntKind.wrap .i64 ((Go.IntKind.wrap .i64 ((w : Int) * (64 : Int))) + y)))
        (none))
      (none)) = some (leastI s 256 0) := by
  have hu := hs.word hw
  have h0 := hu.1
  have h1 := hu.2
  obtain ⟨t, q, e⟩ := low_form (s.getD w 0).toNat (by omega)
  have ht : t < 64 := by
    have : 2 ^ t * 1 ≤ 2 ^ t * (2 * q + 1) := Nat.mul_le_mul_left _ (by omega)
    refine (Nat.pow_lt_pow_iff_right (a := 2) (by omega)).1 ?_
    rw [show (2 : Nat) ^ 64 = 18446744073709551616 from rfl]
    omega
  have hb (i : Nat) : bit (s.getD w 0) i = if i < t then false else if i = t then true else q.testBit (i - t - 1) := by
    unfold bit
    rw [e, low_bit]
  have hc : hasS s (64 * w + t) = true := by
    unfold hasS
    rw [show (64 * w + t) / 64 = w by omega, show (64 * w + t) % 64 = t by omega, hb, if_neg (by omega), if_pos rfl]
  have hl := least_at hc 256 0 (by omega) (by omega) (fun i _ hi => by
    unfold hasS
    by_cases hv : i / 64 < w
    · rw [hz _ hv]
      exact Nat.zero_testBit _
    · rw [show i / 64 = w by omega, hb, if_pos (by omega)])
  rw [cond_t (inR_nat hw), Int.toNat_natCast, cond_t (decide_eq_true (by rw [hs.length]; exact hw)), tz_eq N hu e ht]
  simp only [Option.bind_some]
  rw [hl, wrap_in (x := (w : Int) * 64) (by unfold I64; omega), wrap_in (by unfold I64; omega)]
  congr 1
  omega

theorem first_eq (N : Nat) {s : List Int} (hs : SetOk s) : charset_First (N + 5) s = some (leastI s 256 0) := by
  have hs' := hs
  obtain ⟨a, b, c, d, rfl, ha, hb, hc, hd⟩ := hs'
  rw [charset_First]
  by_cases e : ([a, b, c, d] : List Int) = [0, 0, 0, 0]
  · rw [e, cond_t (eq_sets _), least_none has_none]
  · have en : eqD (T.arr 4 (T.int Go.IntKind.u64)) [a, b, c, d] ([(0 : Int), (0 : Int), (0 : Int), (0 : Int)] : List Int) = false := by
      rw [← Bool.not_eq_true]
      exact fun h => e ((eqD_iff _ _ _ rfl).1 h)
    rw [cond_f en, first4]
    by_cases ea : a = 0
    · rw [cond_t (beq_iff_eq.2 ea)]
      by_cases eb : b = 0
      · rw [cond_t (beq_iff_eq.2 eb)]
        by_cases ec : c = 0
        · rw [cond_t (beq_iff_eq.2 ec)]
          by_cases ed : d = 0
          · exact absurd (by rw [ea, eb, ec, ed]) e
          · rw [cond_f (beq_eq_false_iff_ne.2 ed)]
            have z : ∀ v, v < 3 → ([a, b, c, d] : List Int).getD v 0 = 0 := by
              intro v hv
              obtain rfl | rfl | rfl : v = 0 ∨ v = 1 ∨ v = 2 := by omega
              · exact ea
              · exact eb
              · exact ec
            exact first_at (N + 5) hs (w := 3) (by omega) z ed
        · rw [cond_f (beq_eq_false_iff_ne.2 ec)]
          have z : ∀ v, v < 2 → ([a, b, c, d] : List Int).getD v 0 = 0 := by
            intro v hv
            obtain rfl | rfl : v = 0 ∨ v = 1 := by omega
            · exact ea
            · exact eb
          exact first_at (N + 5) hs (w := 2) (by omega) z ec
      · rw [cond_f (beq_eq_false_iff_ne.2 eb)]
        have z : ∀ v, v < 1 → ([a, b, c, d] : List Int).getD v 0 = 0 := by
          intro v hv
          obtain rfl : v = 0 := by omega
          exact ea
        exact first_at (N + 5) hs (w := 1) (by omega) z eb
    · rw [cond_f (beq_eq_false_iff_ne.2 ea)]
      exact first_at (N + 5) hs (w := 0) (by omega) (fun v hv => by omega) ea

/-- the law's search, downwards -/
def downI (s : List Int) : Nat → Int → Int
  | 0, f => f
  | m + 1, f => downI s m (if hasS s m = true then (m : Int) else f)

theorem down_eq (s : List Int) : ∀ m n, downI s m (leastI s n m) = leastI s (m + n) 0
  | 0, n => by rw [downI, Nat.zero_add]
  | m + 1, n => by
    have h : (if hasS s m = true then (m : Int) else leastI s n (m + 1)) = leastI s (n + 1) m := by rw [leastI]
    rw [downI, h, down_eq s m (n + 1)]
    congr 1
    omega

theorem scan_loop (N : Nat) {s : List Int} (hs : SetOk s) (text t : List UInt8) (k0 : Int → Int → Option Bool) (hN : 300 ≤ N) :
    porterlaw12_CharsetLooks_p1 N text s t 0 (-1) 255 k0 = k0 ((cntS s : Nat) : Int) (leastI s 256 0) := by
  rw [porterlaw12_CharsetLooks_p1]
  let R : Int × Int × Int → Option Bool := fun v => k0 (v.1 + ((cnt (hasS s) (v.2.2 + 1).toNat : Nat) : Int)) (downI s (v.2.2 + 1).toNat v.2.1)
  have h := iter_eq (step := fun (v : (Int × Int × Int)) r => porterlaw12_CharsetLooks_s1 N text s t v.1 v.2.1 v.2.2 (fun n first b => (r (n, first, b))) k0)
    (I := fun v => 0 ≤ v.1 ∧ v.1 ≤ 255 - v.2.2 ∧ -1 ≤ v.2.2 ∧ v.2.2 ≤ 255) (m := fun v => (v.2.2 + 1).toNat) (R := R)
    (by
      rintro ⟨n, f, b⟩ r ⟨h0, h1, h2, h3⟩ hr
      simp only at h0 h1 h2 h3
      simp only
      rw [porterlaw12_CharsetLooks_s1]
      by_cases hb : 0 ≤ b
      · obtain ⟨b, rfl⟩ := Int.eq_ofNat_of_zero_le hb
        have wb : Go.IntKind.wrap .i64 ((b : Int) - 1) = (b : Int) - 1 := wrap_in (by unfold I64; omega)
        have wn : Go.IntKind.wrap .i64 (n + 1) = n + 1 := wrap_in (by unfold I64; omega)
        have e1 : ((b : Int) + 1).toNat = b + 1 := by omega
        have e2 : ((b : Int) - 1 + 1).toNat = b := by omega
        rw [cond_t (decide_eq_true hb), porterlaw12_CharsetLooks_p2, refHas_eq N hs (by omega) (by omega), wb, wn]
        simp only [Option.bind_some]
        rw [show R (n, f, (b : Int)) = k0 (n + ((cnt (hasS s) ((b : Int) + 1).toNat : Nat) : Int)) (downI s ((b : Int) + 1).toNat f) from rfl, e1, cnt, downI]
        cases hh : hasS s b
        · rw [cond_f rfl, hr _ ⟨by simp only; omega, by simp only; omega, by simp only; omega, by simp only; omega⟩ (by simp only; omega), if_neg (by decide)]
          simp only [R]
          rw [e2]
          rfl
        · rw [cond_t rfl, hr _ ⟨by simp only; omega, by simp only; omega, by simp only; omega, by simp only; omega⟩ (by simp only; omega), if_pos rfl]
          simp only [R]
          rw [e2]
          congr 1
          rw [Bool.toNat_true]
          omega
      · rw [cond_f (decide_eq_false hb)]
        have e1 : (b + 1).toNat = 0 := by omega
        simp only [R]
        rw [e1, cnt, downI]
        congr 1
        omega) N (0, -1, 255) ⟨by simp only; omega, by simp only; omega, by simp only; omega, by simp only; omega⟩ (by simp only; omega)
  rw [h]
  simp only [R]
  have hd := down_eq s 256 0
  rw [show ((255 : Int) + 1).toNat = 256 from rfl, show downI s 256 (-1) = leastI s 256 0 from hd, Int.zero_add]
  rfl

theorem same_all (N : Nat) {s : List Int} (hs : SetOk s) (text : List UInt8) (k0 : Bool → Option Bool) (k1 : Option Bool) :
    porterlaw12_CharsetLooks_p3 (N + 5) text s (textS s) ((cntS s : Nat) : Int) (leastI s 256 0) k0 k1 = k1 := by
  rw [porterlaw12_CharsetLooks_p3, porterlaw12_CharsetLooks_p4, text_len, count_eq N hs, first_eq N hs]
  simp only [Option.bind_some, bne_self_eq_false, cond_false]

theorem each_loop (N : Nat) {s : List Int} (hs : SetOk s) (text : List UInt8) (k0 : Bool → Option Bool) (k1 : Option Bool) (hN : 300 ≤ N) :
    porterlaw12_CharsetLooks_p5 N text s (textS s) 0 k0 k1 = k1 := by
  have hl : (textS s).length ≤ 256 := by rw [text_len]; exact cntS_le s
  rw [porterlaw12_CharsetLooks_p5]
  have h := iter_eq (step := fun (v : Int) r => porterlaw12_CharsetLooks_s5 N text s (textS s) v (fun i => (r i)) k0 k1)
    (I := fun v => 0 ≤ v ∧ v ≤ (textS s).length) (m := fun v => (textS s).length - v.toNat) (R := fun _ => k1)
    (by
      rintro i r ⟨h0, h1⟩ hr
      obtain ⟨i, rfl⟩ := Int.eq_ofNat_of_zero_le h0
      rw [porterlaw12_CharsetLooks_s5]
      by_cases hi : i < (textS s).length
      · have w1 : Go.IntKind.wrap .i64 ((i : Int) + 1) = ((i + 1 : Nat) : Int) := wrap_succ (by omega)
        rw [cond_t (decide_eq_true (by omega)), porterlaw12_CharsetLooks_p6, porterlaw12_CharsetLooks_p7, cond_t (inR_nat hi), Int.toNat_natCast, wrap64_byte,
          refHas_eq N hs (u8_lt _) (by omega), text_has hi, w1]
        simp only [Option.bind_some, Bool.not_true, cond_false]
        by_cases hp : i = 0
        · subst hp
          rw [cond_f (decide_eq_false (by omega)), hr _ ⟨by omega, by omega⟩ (by simp only [Int.toNat_natCast]; omega)]
        · obtain ⟨j, rfl⟩ : ∃ j, i = j + 1 := ⟨i - 1, by omega⟩
          have w2 : Go.IntKind.wrap .i64 (((j + 1 : Nat) : Int) - 1) = (j : Int) := by rw [wrap_in (by unfold I64; omega)]; omega
          have hup := text_up hi
          rw [cond_t (decide_eq_true (by omega)), w2, cond_t (inR_nat (by omega)), cond_t (inR_nat hi), Int.toNat_natCast, cond_f (decide_eq_false (by omega)),
            hr _ ⟨by omega, by omega⟩ (by simp only [Int.toNat_natCast]; omega)]
      · rw [cond_f (decide_eq_false (by omega))]) N (0 : Int) ⟨by omega, by omega⟩ (by simp only [Int.toNat_zero]; omega)
  exact h

theorem in_loop (N : Nat) (text : List UInt8) (u : List Int) (b : Nat) (k0 : Bool → Option Bool) (hl : text.length ≤ 400) (hN : 400 < N) :
    porterlaw12_CharsetLooks_p9 N text u (b : Int) false 0 k0 = k0 (inS text b) := by
  rw [porterlaw12_CharsetLooks_p9]
  let R : Bool × Int → Option Bool := fun v => k0 (v.1 || inS (text.drop v.2.toNat) b)
  have h := iter_eq (step := fun (v : (Bool × Int)) r => porterlaw12_CharsetLooks_s9 N text u (b : Int) v.1 v.2 (fun in_ i => (r (in_, i))) k0)
    (I := fun v => 0 ≤ v.2 ∧ v.2 ≤ text.length) (m := fun v => text.length - v.2.toNat) (R := R)
    (by
      rintro ⟨q, i⟩ r ⟨h0, h1⟩ hr
      simp only at h0 h1
      obtain ⟨i, rfl⟩ := Int.eq_ofNat_of_zero_le h0
      simp only
      rw [porterlaw12_CharsetLooks_s9]
      by_cases hi : i < text.length
      · have w1 : Go.IntKind.wrap .i64 ((i : Int) + 1) = ((i + 1 : Nat) : Int) := wrap_succ (by omega)
        have ed := drop_cons text 0 i hi
        rw [cond_t (decide_eq_true (by omega)), porterlaw12_CharsetLooks_p10, w1]
        simp only [R, Int.toNat_natCast]
        rw [ed]
        cases q
        · rw [cond_f rfl, cond_t (inR_nat hi), wrap64_byte, hr _ ⟨by simp only; omega, by simp only; omega⟩ (by simp only [Int.toNat_natCast]; omega)]
          simp only [R, Int.toNat_natCast, Bool.false_or]
          have e : inS (text.getD i 0 :: text.drop (i + 1)) b = (((text.getD i 0).toNat == b) || inS (text.drop (i + 1)) b) := rfl
          have e2 : ((((text.getD i 0).toNat : Nat) : Int) == (b : Int)) = ((text.getD i 0).toNat == b) := by
            rw [Bool.eq_iff_iff, beq_iff_eq, beq_iff_eq]; omega
          rw [e, e2]
        · rw [cond_t rfl, hr _ ⟨by simp only; omega, by simp only; omega⟩ (by simp only [Int.toNat_natCast]; omega)]
          simp only [R, Bool.true_or]
      · rw [cond_f (decide_eq_false (by omega))]
        simp only [R, Int.toNat_natCast]
        rw [drop_nil' text (by omega)]
        simp only [inS, List.any_nil, Bool.or_false]) N (false, (0 : Int)) ⟨Int.le_refl _, by simp only; omega⟩ (by simp only [Int.toNat_zero]; omega)
  rw [h]
  simp only [R, Int.toNat_zero, List.drop_zero, Bool.false_or]

theorem set_loop (N : Nat) (text : List UInt8) (k0 : Bool → Option Bool) (k1 : Option Bool) (hl : text.length ≤ 400) (hN : 400 < N) :
    porterlaw12_CharsetLooks_p8 N text (putS text [0, 0, 0, 0]) 0 k0 k1 = k1 := by
  rw [porterlaw12_CharsetLooks_p8]
  have h := iter_eq (step := fun (v : Int) r => porterlaw12_CharsetLooks_s8 N text (putS text [0, 0, 0, 0]) v (fun b => (r b)) k0 k1)
    (I := fun v => 0 ≤ v ∧ v ≤ 256) (m := fun v => 256 - v.toNat) (R := fun _ => k1)
    (by
      rintro b r ⟨h0, h1⟩ hr
      obtain ⟨b, rfl⟩ := Int.eq_ofNat_of_zero_le h0
      rw [porterlaw12_CharsetLooks_s8]
      by_cases hb : b < 256
      · have w1 : Go.IntKind.wrap .i64 ((b : Int) + 1) = ((b + 1 : Nat) : Int) := wrap_succ (by omega)
        have wb : Go.IntKind.wrap .u8 (b : Int) = (b : Int) := wrap_u8_in (by omega) (by omega)
        rw [cond_t (decide_eq_true (by omega)), in_loop N text _ b _ hl hN, wb, has_eq N (put_ok text none_ok) hb, has_put text none_ok hb, has_none, Bool.false_or, w1]
        simp only [Option.bind_some, beq_self_eq_true, Bool.not_true, cond_false]
        rw [hr _ ⟨by omega, by omega⟩ (by simp only [Int.toNat_natCast]; omega)]
      · rw [cond_f (decide_eq_false (by omega))]) N (0 : Int) ⟨by omega, by omega⟩ (by simp only [Int.toNat_zero]; omega)
  exact h

theorem looks_law (k : Nat) {s : List Int} (hs : SetOk s) (text : List UInt8) : porterlaw12_CharsetLooks (k + 500) s text = some true := by
  rw [porterlaw12_CharsetLooks, works12 (k + 200)]
  simp only [Option.bind_some]
  by_cases hl : text.length ≤ 400
  · rw [cond_f (decide_eq_false (by omega)), text_eq (k + 495) hs (by omega)]
    simp only [Option.bind_some]
    rw [scan_loop (k + 500) hs text _ _ (by omega), same_all (k + 495) hs text, each_loop (k + 500) hs text _ _ (by omega), texts_eq (k + 500) text (by omega) (by omega)]
    simp only [Option.bind_some]
    rw [set_loop (k + 500) text _ _ hl (by omega)]
  · rw [cond_t (decide_eq_true (by omega))]

theorem looks_any {s : List Int} (hs : s.length = 4 ∧ ∀ x ∈ s, Wf (.int .u64) x) (text : List UInt8) :
    porterlaw12_CharsetLooks 500 s text = some true := looks_law 0 (setOk_of hs) text

end Go.Proofs.YtohnhefabpcfpaaDoorLg
