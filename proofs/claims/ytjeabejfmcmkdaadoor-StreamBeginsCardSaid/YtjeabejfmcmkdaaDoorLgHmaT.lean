/- Layer 4: frames are split again: mathematics alone, then the program and the reference. -/
import Derived.Test.YtjeabejfmcmkdaaDoorLgHmaS
set_option linter.all false
set_option maxRecDepth 100000
namespace Go.Proofs.YtjeabejfmcmkdaaDoorLg
open Go Go.Lift Go.Proofs.YtjeabejfmcmkdaaDoorPx

/-- big-endian -/
def valB : List UInt8 → Nat → Nat
  | [], n => n
  | b :: l, n => valB l (n * 256 + b.toNat)

theorem valB_snoc (b : UInt8) : ∀ (l : List UInt8) (n : Nat), valB (l ++ [b]) n = valB l n * 256 + b.toNat
  | [], n => rfl
  | c :: l, n => valB_snoc b l _

theorem valB_take {s : List UInt8} {i : Nat} (h : i < s.length) : valB (s.take (i + 1)) 0 = valB (s.take i) 0 * 256 + (s.getD i 0).toNat := by
  rw [take_succ s 0 i h, valB_snoc]

theorem valB_lt : ∀ (i : Nat) (s : List UInt8), i ≤ s.length → valB (s.take i) 0 < 256 ^ i
  | 0, s, _ => by simp [valB]
  | i + 1, s, h => by
    rw [valB_take (by omega), Nat.pow_succ]
    have := valB_lt i s (by omega)
    have := u8_lt (s.getD i 0)
    omega

theorem valB_mono {s : List UInt8} {i : Nat} (h : i < s.length) : valB (s.take i) 0 ≤ valB (s.take (i + 1)) 0 := by
  rw [valB_take h]; omega

theorem valB_mono7 {s : List UInt8} (h : 8 ≤ s.length) : ∀ (d j : Nat), j + d = 7 → valB (s.take j) 0 ≤ valB (s.take 7) 0
  | 0, j, e => by rw [show j = 7 by omega]; exact Nat.le_refl _
  | d + 1, j, e => Nat.le_trans (valB_mono (by omega)) (valB_mono7 h d (j + 1) (by omega))

def beN : Nat → Nat → List UInt8
  | 0, _ => []
  | j + 1, n => beN j (n / 256) ++ [UInt8.ofNat (n % 256)]

theorem beN_length : ∀ j n, (beN j n).length = j
  | 0, _ => rfl
  | j + 1, n => by rw [beN, List.length_append, beN_length j]; rfl

theorem valB_beN : ∀ (j n : Nat), n < 256 ^ j → valB (beN j n) 0 = n
  | 0, n, h => by simp at h; subst h; rfl
  | j + 1, n, h => by
    rw [Nat.pow_succ] at h
    have h2 : n / 256 < 256 ^ j := Nat.div_lt_of_lt_mul (by rw [Nat.mul_comm]; exact h)
    rw [beN, valB_snoc, valB_beN j _ h2, UInt8.toNat_ofNat']; omega

theorem beN_valB : ∀ (j : Nat) (s : List UInt8), j ≤ s.length → beN j (valB (s.take j) 0) = s.take j
  | 0, s, _ => by simp [beN]
  | j + 1, s, h => by
    have := u8_lt (s.getD j 0)
    rw [valB_take (by omega), beN, show (valB (s.take j) 0 * 256 + (s.getD j 0).toNat) / 256 = valB (s.take j) 0 by omega, beN_valB j s (by omega), take_succ s 0 j (by omega)]
    congr 2
    rw [show (valB (s.take j) 0 * 256 + (s.getD j 0).toNat) % 256 = (s.getD j 0).toNat by omega]
    exact UInt8.ofNat_toNat

theorem be8_eq (n : Nat) (hn : n < 9223372036854775808) : be8 n = beN 8 n := by
  have h : ∀ a b : Nat, a % 256 = b % 256 → UInt8.ofNat a = UInt8.ofNat b := by
    intro a b e
    apply UInt8.toNat_inj.1
    rw [UInt8.toNat_ofNat', UInt8.toNat_ofNat']; omega
  have e := fun i hi => be_one n hn i hi
  have e7 := e 7 (by omega); have e6 := e 6 (by omega); have e5 := e 5 (by omega); have e4 := e 4 (by omega)
  have e3 := e 3 (by omega); have e2 := e 2 (by omega); have e1 := e 1 (by omega); have e0 := e 0 (by omega)
  simp only [Nat.reduceMul] at e7 e6 e5 e4 e3 e2 e1 e0
  have : be8 n = [UInt8.ofNat (n / 256 ^ 7), UInt8.ofNat (n / 256 ^ 6), UInt8.ofNat (n / 256 ^ 5), UInt8.ofNat (n / 256 ^ 4), UInt8.ofNat (n / 256 ^ 3), UInt8.ofNat (n / 256 ^ 2), UInt8.ofNat (n / 256 ^ 1), UInt8.ofNat (n / 256 ^ 0)] := by
    rw [← e7, ← e6, ← e5, ← e4, ← e3, ← e2, ← e1, ← e0]; rfl
  rw [this]
  simp only [beN, List.nil_append, List.cons_append, List.append_assoc, Nat.div_div_eq_div_mul, Nat.reducePow, Nat.reduceMul]
  simp only [List.cons.injEq, and_true]
  refine ⟨?_, ?_, ?_, ?_, ?_, ?_, ?_, ?_⟩ <;> (apply h; omega)

/-- the first part, and what follows -/
def cutR (s : List UInt8) : Option (List UInt8 × List UInt8) :=
  if s.length < 8 then none else if s.length - 8 < valB (s.take 8) 0 then none else some ((s.drop 8).take (valB (s.take 8) 0), (s.drop 8).drop (valB (s.take 8) 0))

theorem cutR_lt {s a b : List UInt8} (h : cutR s = some (a, b)) : b.length < s.length ∧ s = be8 a.length ++ (a ++ b) ∨ 9223372036854775800 < s.length := by
  by_cases hb : 9223372036854775800 < s.length
  · exact .inr hb
  refine .inl ?_
  unfold cutR at h
  by_cases h1 : s.length < 8
  · rw [if_pos h1] at h; cases h
  rw [if_neg h1] at h
  by_cases h2 : s.length - 8 < valB (s.take 8) 0
  · rw [if_pos h2] at h; cases h
  rw [if_neg h2] at h
  obtain ⟨rfl, rfl⟩ := Prod.mk.inj (Option.some.inj h)
  have hl : ((s.drop 8).take (valB (s.take 8) 0)).length = valB (s.take 8) 0 := by rw [List.length_take, List.length_drop]; omega
  refine ⟨by rw [List.length_drop, List.length_drop]; omega, ?_⟩
  rw [hl, be8_eq _ (by omega), beN_valB 8 s (by omega), List.take_append_drop, List.take_append_drop]

theorem cutR_less {s a b : List UInt8} (h : cutR s = some (a, b)) : b.length < s.length := by
  unfold cutR at h
  by_cases h1 : s.length < 8
  · rw [if_pos h1] at h; cases h
  rw [if_neg h1] at h
  by_cases h2 : s.length - 8 < valB (s.take 8) 0
  · rw [if_pos h2] at h; cases h
  rw [if_neg h2] at h
  obtain ⟨rfl, rfl⟩ := Prod.mk.inj (Option.some.inj h)
  rw [List.length_drop, List.length_drop]; omega

def splitR : Nat → List UInt8 → Option (List (List UInt8))
  | 0, s => if s = [] then some [] else none
  | n + 1, s => if s = [] then some [] else match cutR s with
    | none => none
    | some (a, b) => (splitR n b).map (a :: ·)

def itemsR : Nat → List UInt8 → List (List UInt8 × Bool × Unit)
  | 0, s => []
  | n + 1, s => if s = [] then [] else match cutR s with
    | none => [([], false, ())]
    | some (a, b) => (a, true, ()) :: itemsR n b

theorem splitR_fuel : ∀ (n m : Nat) (s : List UInt8), s.length ≤ n → s.length ≤ m → splitR n s = splitR m s
  | 0, 0, s, _, _ => rfl
  | 0, m + 1, s, h, _ => by
    have : s = [] := List.length_eq_zero_iff.1 (by omega)
    subst this; rfl
  | n + 1, 0, s, _, h => by
    have : s = [] := List.length_eq_zero_iff.1 (by omega)
    subst this; rfl
  | n + 1, m + 1, s, h, h' => by
    unfold splitR
    by_cases e : s = []
    · rw [if_pos e, if_pos e]
    rw [if_neg e, if_neg e]
    cases hc : cutR s with
    | none => rfl
    | some p =>
      obtain ⟨a, b⟩ := p
      have := cutR_less hc
      dsimp only
      rw [splitR_fuel n m b (by omega) (by omega)]

theorem itemsR_fuel : ∀ (n m : Nat) (s : List UInt8), s.length ≤ n → s.length ≤ m → itemsR n s = itemsR m s
  | 0, 0, s, _, _ => rfl
  | 0, m + 1, s, h, _ => by
    have : s = [] := List.length_eq_zero_iff.1 (by omega)
    subst this; rfl
  | n + 1, 0, s, _, h => by
    have : s = [] := List.length_eq_zero_iff.1 (by omega)
    subst this; rfl
  | n + 1, m + 1, s, h, h' => by
    unfold itemsR
    by_cases e : s = []
    · rw [if_pos e, if_pos e]
    rw [if_neg e, if_neg e]
    cases hc : cutR s with
    | none => rfl
    | some p =>
      obtain ⟨a, b⟩ := p
      have := cutR_less hc
      dsimp only
      rw [itemsR_fuel n m b (by omega) (by omega)]

abbrev splitL (s : List UInt8) : Option (List (List UInt8)) := splitR s.length s

theorem splitL_nil : splitL [] = some [] := rfl
theorem splitL_cons {s : List UInt8} (h : s ≠ []) : splitL s = match cutR s with
    | none => none
    | some (a, b) => (splitL b).map (a :: ·) := by
  have hp : 0 < s.length := List.length_pos_iff.2 h
  unfold splitL
  obtain ⟨n, hn⟩ : ∃ n, s.length = n + 1 := ⟨s.length - 1, by omega⟩
  rw [hn, splitR, if_neg h]
  cases hc : cutR s with
  | none => rfl
  | some p =>
    obtain ⟨a, b⟩ := p
    have := cutR_less hc
    dsimp only
    rw [splitR_fuel n b.length b (by omega) (by omega)]

/-- what is split is the frame of its parts -/
theorem frame_split : ∀ (n : Nat) (s : List UInt8) (l : List (List UInt8)), s.length ≤ n → s.length ≤ 9223372036854775800 → splitL s = some l → frameL l = s
  | 0, s, l, h, _, e => by
    have : s = [] := List.length_eq_zero_iff.1 (by omega)
    subst this
    obtain rfl : [] = l := Option.some.inj e
    rfl
  | n + 1, s, l, h, hb, e => by
    by_cases hs : s = []
    · subst hs
      obtain rfl : [] = l := Option.some.inj e
      rfl
    rw [splitL_cons hs] at e
    cases hc : cutR s with
    | none => rw [hc] at e; cases e
    | some p =>
      obtain ⟨a, b⟩ := p
      rw [hc] at e
      rcases cutR_lt hc with ⟨h1, h2⟩ | h1
      · dsimp only at e
        cases hb2 : splitL b with
        | none => rw [hb2] at e; cases e
        | some m =>
          rw [hb2] at e
          obtain rfl : a :: m = l := Option.some.inj e
          rw [frameL_cons, frame_split n b m (by omega) (by omega) hb2, ← h2]
      · omega

theorem be8_length (n : Nat) : (be8 n).length = 8 := rfl

/-- a frame is split into its parts -/
theorem split_frame : ∀ (l : List (List UInt8)), (∀ p ∈ l, p.length < 9223372036854775808) → splitL (frameL l) = some l
  | [], _ => rfl
  | p :: l, h => by
    have hp := h p (by simp)
    have hne : frameL (p :: l) ≠ [] := by
      intro e
      have := congrArg List.length e
      rw [frameL_cons, List.length_append, be8_length] at this
      simp at this
    rw [splitL_cons hne]
    have ht : (frameL (p :: l)).take 8 = beN 8 p.length := by
      rw [frameL_cons, List.take_append_of_le_length (by rw [be8_length]; omega), List.take_of_length_le (by rw [be8_length]; omega), be8_eq _ hp]
    have hd : (frameL (p :: l)).drop 8 = p ++ frameL l := by
      rw [frameL_cons, List.drop_append_of_le_length (by rw [be8_length]; omega), List.drop_of_length_le (by rw [be8_length]; omega)]; rfl
    have hv : valB ((frameL (p :: l)).take 8) 0 = p.length := by rw [ht]; exact valB_beN 8 _ (by omega)
    have hl : (frameL (p :: l)).length = 8 + (p.length + (frameL l).length) := by
      rw [frameL_cons, List.length_append, List.length_append, be8_length]
    have hc : cutR (frameL (p :: l)) = some (p, frameL l) := by
      unfold cutR
      rw [hv, hd, if_neg (by omega), if_neg (by omega)]
      simp
    rw [hc]
    dsimp only
    rw [split_frame l (fun q hq => h q (by simp [hq]))]; rfl

theorem splitL_length : ∀ (n : Nat) (s : List UInt8) (l : List (List UInt8)), s.length ≤ n → splitL s = some l → l.length ≤ s.length
  | 0, s, l, h, e => by
    have : s = [] := List.length_eq_zero_iff.1 (by omega)
    subst this
    obtain rfl : [] = l := Option.some.inj e
    simp
  | n + 1, s, l, h, e => by
    by_cases hs : s = []
    · subst hs
      obtain rfl : [] = l := Option.some.inj e
      simp
    rw [splitL_cons hs] at e
    cases hc : cutR s with
    | none => rw [hc] at e; cases e
    | some p =>
      obtain ⟨a, b⟩ := p
      rw [hc] at e
      have := cutR_less hc
      dsimp only at e
      cases hb2 : splitL b with
      | none => rw [hb2] at e; cases e
      | some m =>
        rw [hb2] at e
        obtain rfl : a :: m = l := Option.some.inj e
        have := splitL_length n b m (by omega) hb2
        simp; omega

/-! ## the program -/
theorem or8 {n b : Nat} (hn : n < 72057594037927936) (hb : b < 256) : bitsOp .or .u64 (shlI .u64 (n : Int) 8) (IntKind.wrap .u64 (b : Int)) = ((n * 256 + b : Nat) : Int) := by
  have hwu : ∀ x : Nat, x < 18446744073709551616 → IntKind.wrap .u64 (x : Int) = (x : Int) := by
    intro x hx
    show (x : Int) % 18446744073709551616 = _
    omega
  have h1 : shlI .u64 (n : Int) 8 = ((n * 256 : Nat) : Int) := by
    unfold shlI
    rw [show (min (8 : Int).toNat (IntKind.bits .u64)) = 8 from rfl, show (n : Int) * 2 ^ 8 = ((n * 256 : Nat) : Int) by omega, hwu _ (by omega)]
  rw [h1, hwu b (by omega)]
  unfold bitsOp
  dsimp only
  rw [BitVec.ofInt_natCast, BitVec.ofInt_natCast, BitVec.toNat_or, BitVec.toNat_ofNat, BitVec.toNat_ofNat, Nat.mod_eq_of_lt (show n * 256 < 2 ^ (IntKind.bits .u64) from by show n * 256 < 18446744073709551616; omega), Nat.mod_eq_of_lt (show b < 2 ^ (IntKind.bits .u64) from by show b < 18446744073709551616; omega)]
  rw [show n * 256 = n <<< 8 by rw [Nat.shiftLeft_eq], ← Nat.shiftLeft_add_eq_or_of_lt (show b < 2 ^ 8 by omega), Nat.shiftLeft_eq, hwu _ (by omega)]

theorem cutLoop {N : Nat} {s : List UInt8} (hs : 8 ≤ s.length) (hN : 8 < N) (k0 : Int → Option (List UInt8 × List UInt8 × Bool × Unit)) : hmac_cut_p1 N s 0 0 k0 = k0 ((valB (s.take 8) 0 : Nat) : Int) := by
  unfold hmac_cut_p1
  rw [iter_eq (I := fun (v : Int × Int) => ∃ i : Nat, i ≤ 8 ∧ v = (((valB (s.take i) 0 : Nat) : Int), (i : Int))) (m := fun v => 8 - v.2.toNat) (R := fun _ => k0 ((valB (s.take 8) 0 : Nat) : Int)) ?_ N (0, 0) ⟨0, by omega, rfl⟩ (by dsimp only; omega)]
  rintro v r ⟨i, hi, rfl⟩ hr
  dsimp only at hr ⊢
  unfold hmac_cut_s1
  by_cases h : i < 8
  · have hp : 256 ^ i ≤ 256 ^ 7 := Nat.pow_le_pow_right (by omega) (by omega)
    have hv := valB_lt i s (by omega)
    rw [cond_t (dec_t (by omega)), cond_t (inR_nat (by omega)), Int.toNat_natCast, or8 (by omega) (u8_lt _), wrap_succ (by omega), ← valB_take (by omega)]
    exact hr _ ⟨i + 1, by omega, rfl⟩ (by dsimp only; omega)
  · rw [cond_f (dec_f (by omega)), show i = 8 by omega]

def cutV : Option (List UInt8 × List UInt8) → List UInt8 × List UInt8 × Bool × Unit
  | none => ([], [], false, ())
  | some (a, b) => (a, b, true, ())

theorem cut_eq {N : Nat} {s : List UInt8} (hs : s.length ≤ 9223372036854775800) (hN : 8 < N) : hmac_cut N s = some (cutV (cutR s)) := by
  unfold hmac_cut cutR
  by_cases h : s.length < 8
  · rw [cond_t (dec_t (by omega)), if_pos h]; rfl
  rw [cond_f (dec_f (by omega)), if_neg h, cutLoop (by omega) hN, cond_t (dec_t (by omega)), cut_all, List.length_drop]
  have hv : valB (s.take 8) 0 < 18446744073709551616 := valB_lt 8 s (by omega)
  have hw : IntKind.wrap .u64 (((s.length - 8 : Nat)) : Int) = ((s.length - 8 : Nat) : Int) := by
    show ((s.length - 8 : Nat) : Int) % 18446744073709551616 = _
    omega
  rw [hw]
  by_cases h2 : s.length - 8 < valB (s.take 8) 0
  · rw [cond_t (dec_t (by omega)), if_pos h2]; rfl
  rw [cond_f (dec_f (by omega)), if_neg h2, cond_t (dec_t (by omega)), cond_t (dec_t (by omega)), Int.toNat_natCast, cut_take, show s.length - 8 = (s.drop 8).length by rw [List.length_drop], cut_all]
  rfl

theorem items_eq {N : Nat} {s : List UInt8} (hs : s.length ≤ 9223372036854775800) (hN : s.length + 9 < N) : hmac_split1 N s = some (itemsR s.length s) := by
  unfold hmac_split1 hmac_split1_p1
  refine iter_eq (I := fun (v : List UInt8) => v.length ≤ s.length) (m := fun v => v.length) (R := fun v => some (itemsR v.length v)) ?_ N s (Nat.le_refl _) (by omega)
  intro v r hv hr
  unfold hmac_split1_s1
  by_cases e : v = []
  · subst e; rfl
  have e' : (!(v == ([] : List UInt8))) = true := by simpa using e
  rw [cond_t e', cut_eq (by omega) (by omega), Option.bind_some]
  have hp : 0 < v.length := List.length_pos_iff.2 e
  obtain ⟨n, hn⟩ : ∃ n, v.length = n + 1 := ⟨v.length - 1, by omega⟩
  cases hc : cutR v with
  | none => rw [hn, itemsR, if_neg e, hc]; rfl
  | some p =>
    obtain ⟨a, b⟩ := p
    have hb := cutR_less hc
    have h2 := hr b (by omega) hb
    rw [hn, itemsR, if_neg e, hc]
    show comb (a, true, ()) (r b) (some []) = some ((a, true, ()) :: itemsR n b)
    rw [h2, comb_some, itemsR_fuel n b.length b (by omega) (by omega)]

def splitV : Option (List (List UInt8)) → List (List UInt8) × Bool × Unit
  | none => ([], false, ())
  | some l => (l, true, ())

theorem collect : ∀ (n : Nat) (s : List UInt8) (acc : List (List UInt8)) (f : List (List UInt8) → Option (List (List UInt8) × Bool × Unit)) (N : Nat), s.length ≤ n → acc.length + s.length ≤ 100000 →
    iterL (fun (y : (List UInt8 × Bool × Unit)) (v : List (List UInt8)) r => hmac_Split_s1 N [] false v y (fun parts_1 => r parts_1) (fun x2 x3 parts => some (x2, (x3, ()))) f) f (itemsR n s) acc =
      match splitR n s with
      | none => some ([], false, ())
      | some l => f (acc ++ l)
  | 0, s, acc, f, N, h, _ => by
    have : s = [] := List.length_eq_zero_iff.1 (by omega)
    subst this
    simp [itemsR, splitR, iterL]
  | n + 1, s, acc, f, N, h, hb => by
    unfold itemsR splitR
    by_cases e : s = []
    · rw [if_pos e, if_pos e]; simp [iterL]
    rw [if_neg e, if_neg e]
    cases hc : cutR s with
    | none => rfl
    | some p =>
      obtain ⟨a, b⟩ := p
      have hl := cutR_less hc
      dsimp only
      rw [iterL]
      unfold hmac_Split_s1
      dsimp only
      rw [Bool.not_true, cond_false, cond_t (dec_t (by omega))]
      have := collect n b (acc ++ [a]) f N (by omega) (by rw [List.length_append, List.length_singleton]; omega)
      unfold hmac_Split_s1 at this
      rw [this]
      cases splitR n b with
      | none => rfl
      | some l => simp

/-- the program's Split -/
theorem split_eq {N : Nat} {s : List UInt8} (hs : s.length ≤ 100000) (hN : s.length + 9 < N) : hmac_Split N s = some (splitV (splitL s)) := by
  unfold hmac_Split hmac_Split_p1 hmac_Split_fit1
  rw [items_eq (by omega) hN, Option.bind_some, collect s.length s [] _ N (Nat.le_refl _) (by simpa using hs)]
  cases h : splitL s with
  | none => rw [show splitR s.length s = none from h]; rfl
  | some l => rw [show splitR s.length s = some l from h]; rfl

/-! ## the reference -/
abbrev RS : Type := List (List UInt8) × Bool × Unit

theorem refNum {N : Nat} {s : List UInt8} {a : Nat} {out : List (List UInt8)} {k0 : List (List UInt8) → Bool → Option RS} {k1 : Int → Option RS} (hs : s.length ≤ 100000) (ha : a + 8 ≤ s.length) (hN : 8 < N) :
    porterref04_Split_p2 N s out (a : Int) 0 (a : Int) k0 k1 = if 4294967296 < valB ((s.drop a).take 7) 0 then k0 [] false else k1 ((valB ((s.drop a).take 8) 0 : Nat) : Int) := by
  have hd : 8 ≤ (s.drop a).length := by rw [List.length_drop]; omega
  unfold porterref04_Split_p2
  rw [iter_eq (I := fun (v : Int × Int) => ∃ i : Nat, i ≤ 8 ∧ v = (((valB ((s.drop a).take i) 0 : Nat) : Int), ((a + i : Nat) : Int)) ∧ (1 ≤ i → valB ((s.drop a).take (i - 1)) 0 ≤ 4294967296)) (m := fun v => a + 8 - v.2.toNat) (R := fun _ => if 4294967296 < valB ((s.drop a).take 7) 0 then k0 [] false else k1 ((valB ((s.drop a).take 8) 0 : Nat) : Int)) ?_ N (0, (a : Int)) ⟨0, by omega, rfl, by omega⟩ (by dsimp only; omega)]
  rintro v r ⟨i, hi, rfl, hsm⟩ hr
  dsimp only at hr ⊢
  unfold porterref04_Split_s2
  rw [wrap_in (x := (a : Int) + 8) (by unfold I64; omega)]
  by_cases h : i < 8
  · rw [cond_t (dec_t (by omega))]
    by_cases hbig : 4294967296 < valB ((s.drop a).take i) 0
    · have := valB_mono7 hd (7 - i) i (by omega)
      rw [cond_t (dec_t (by omega)), if_pos (by omega)]
    · have hg : (s.drop a).getD i 0 = s.getD (a + i) 0 := by
        rw [List.getD_eq_getElem?_getD, List.getD_eq_getElem?_getD, List.getElem?_drop]
      have hb := u8_lt (s.getD (a + i) 0)
      have hw : IntKind.wrap .i64 (IntKind.wrap .i64 ((256 : Int) * ((valB ((s.drop a).take i) 0 : Nat) : Int)) + ((s.getD (a + i) 0).toNat : Int)) = ((valB ((s.drop a).take (i + 1)) 0 : Nat) : Int) := by
        rw [valB_take (by omega), hg, wrap_in (x := (256 : Int) * _) (by unfold I64; omega), wrap_in (by unfold I64; omega)]; omega
      rw [cond_f (dec_f (by omega)), cond_t (inR_nat (by omega)), Int.toNat_natCast, wrap64_byte, hw, wrap_succ (by omega)]
      exact hr _ ⟨i + 1, by omega, rfl, fun _ => by simpa using hbig⟩ (by dsimp only; omega)
  · have : i = 8 := by omega
    subst this
    have := hsm (by omega)
    rw [cond_f (dec_f (by omega)), if_neg (by simpa using this)]

theorem refSplit_eq {N : Nat} {s : List UInt8} (hs : s.length ≤ 100000) (hN : s.length + 9 < N) : porterref04_Split N s = some (splitV (splitL s)) := by
  unfold porterref04_Split porterref04_Split_p1
  rw [iter_eq (I := fun (v : List (List UInt8) × Int) => ∃ a : Nat, a ≤ s.length ∧ v.2 = (a : Int) ∧ v.1.length ≤ a) (m := fun v => s.length - v.2.toNat) (R := fun v => match splitL (s.drop v.2.toNat) with
      | none => some (([] : List (List UInt8)), (false, ()))
      | some l => some (v.1 ++ l, (true, ()))) ?_ N ([], 0) ⟨0, by omega, rfl, by simp⟩ (by dsimp only; omega)]
  · dsimp only
    rw [show (0 : Int).toNat = 0 from rfl, List.drop_zero]
    cases splitL s <;> rfl
  rintro ⟨out, z⟩ r ⟨a, ha, e, hl⟩ hr
  dsimp only at e hl hr ⊢
  subst e
  rw [Int.toNat_natCast]
  unfold porterref04_Split_s1
  by_cases h : a < s.length
  · have hne : s.drop a ≠ [] := by
      intro e; have := congrArg List.length e; rw [List.length_drop] at this; simp at this; omega
    have hlen : (s.drop a).length = s.length - a := List.length_drop
    rw [cond_t (dec_t (by omega)), wrap_in (x := (s.length : Int) - a) (by unfold I64; omega), splitL_cons hne]
    by_cases h8 : s.length - a < 8
    · have hc : cutR (s.drop a) = none := by unfold cutR; rw [if_pos (by omega)]
      rw [cond_t (dec_t (by omega)), hc]
    have hv8 : valB ((s.drop a).take 8) 0 = valB ((s.drop a).take 7) 0 * 256 + ((s.drop a).getD 7 0).toNat := valB_take (by omega)
    rw [cond_f (dec_f (by omega)), refNum hs (by omega) (by omega), wrap_in (x := (a : Int) + 8) (by unfold I64; omega), wrap_in (x := (s.length : Int) - (↑a + 8)) (by unfold I64; omega)]
    by_cases hbig : 4294967296 < valB ((s.drop a).take 7) 0
    · have hc : cutR (s.drop a) = none := by unfold cutR; rw [if_neg (by omega), if_pos (by omega)]
      rw [if_pos hbig, hc]
    rw [if_neg hbig]
    have hub := u8_lt ((s.drop a).getD 7 0)
    generalize hV : valB ((s.drop a).take 8) 0 = V at hv8
    by_cases hlong : s.length - (a + 8) < V
    · have hc : cutR (s.drop a) = none := by unfold cutR; rw [if_neg (by omega), if_pos (by omega)]
      rw [cond_t (dec_t (by omega)), hc]
    · have hc : cutR (s.drop a) = some (((s.drop a).drop 8).take V, ((s.drop a).drop 8).drop V) := by unfold cutR; rw [hV, if_neg (by omega), if_neg (by omega)]
      have hw : IntKind.wrap .i64 ((a : Int) + 8 + (V : Int)) = ((a + 8 + V : Nat) : Int) := by rw [wrap_in (by unfold I64; omega)]; omega
      have e8 : ((a : Int) + 8).toNat = a + 8 := by omega
      rw [cond_f (dec_f (by omega)), hw, cond_t (dec_t (by omega)), cond_t (dec_t (by omega)), cond_t (dec_t (by omega)), hc, e8, Int.toNat_natCast, cut_mid]
      have h2 := hr (out ++ [(s.drop (a + 8)).take V], ((a + 8 + V : Nat) : Int)) ⟨a + 8 + V, by omega, rfl, by simp; omega⟩ (by dsimp only; omega)
      refine h2.trans ?_
      dsimp only
      rw [Int.toNat_natCast, List.drop_drop, List.drop_drop]
      cases splitL (s.drop (a + 8 + V)) with
      | none => rfl
      | some l => simp
  · have : a = s.length := by omega
    subst this
    rw [cond_f (dec_f (by omega)), List.drop_length, splitL_nil]
    simp
end Go.Proofs.YtjeabejfmcmkdaaDoorLg
