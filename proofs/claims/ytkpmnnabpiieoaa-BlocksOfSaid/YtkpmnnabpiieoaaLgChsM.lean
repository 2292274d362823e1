/- Sets of bytes as four words: mathematics alone. -/
import Derived.Test.YtkpmnnabpiieoaaLgPxB
set_option linter.all false
namespace Go.Proofs.YtkpmnnabpiieoaaPx
open Go Go.Lift

def U64 (x : Int) : Prop := 0 ≤ x ∧ x < 18446744073709551616

instance (x : Int) : Decidable (U64 x) := by unfold U64; infer_instance

/-- bit i of a word -/
def bit (w : Int) (i : Nat) : Bool := w.toNat.testBit i

theorem wrap_u64 (x : Int) : IntKind.wrap .u64 x = x % 18446744073709551616 := rfl

theorem u64_wrap (x : Int) : U64 (IntKind.wrap .u64 x) := by rw [wrap_u64]; unfold U64; omega

theorem wrap_u64_in {x : Int} (h : U64 x) : IntKind.wrap .u64 x = x := by rw [wrap_u64]; unfold U64 at h; omega

theorem ofInt64 {x : Int} (h : U64 x) : (BitVec.ofInt 64 x).toNat = x.toNat := by
  unfold U64 at h
  rw [BitVec.toNat_ofInt]
  omega

theorem bv_u64 (v : BitVec 64) : U64 ((v.toNat : Nat) : Int) := by
  have := v.isLt
  unfold U64; omega

theorem and_u64 {x y : Int} (hx : U64 x) (hy : U64 y) : bitsOp .and .u64 x y = ((x.toNat &&& y.toNat : Nat) : Int) := by
  have e : bitsOp .and .u64 x y = IntKind.wrap .u64 ((BitVec.ofInt 64 x &&& BitVec.ofInt 64 y).toNat : Int) := rfl
  rw [e, wrap_u64_in (bv_u64 _), BitVec.toNat_and, ofInt64 hx, ofInt64 hy]

theorem or_u64 {x y : Int} (hx : U64 x) (hy : U64 y) : bitsOp .or .u64 x y = ((x.toNat ||| y.toNat : Nat) : Int) := by
  have e : bitsOp .or .u64 x y = IntKind.wrap .u64 ((BitVec.ofInt 64 x ||| BitVec.ofInt 64 y).toNat : Int) := rfl
  rw [e, wrap_u64_in (bv_u64 _), BitVec.toNat_or, ofInt64 hx, ofInt64 hy]

theorem xor_u64 {x y : Int} (hx : U64 x) (hy : U64 y) : bitsOp .xor .u64 x y = ((x.toNat ^^^ y.toNat : Nat) : Int) := by
  have e : bitsOp .xor .u64 x y = IntKind.wrap .u64 ((BitVec.ofInt 64 x ^^^ BitVec.ofInt 64 y).toNat : Int) := rfl
  rw [e, wrap_u64_in (bv_u64 _), BitVec.toNat_xor, ofInt64 hx, ofInt64 hy]

theorem u64_and {x y : Int} (hx : U64 x) (hy : U64 y) : U64 (bitsOp .and .u64 x y) := by
  have e : bitsOp .and .u64 x y = IntKind.wrap .u64 ((BitVec.ofInt 64 x &&& BitVec.ofInt 64 y).toNat : Int) := rfl
  rw [e]; exact u64_wrap _
theorem u64_or {x y : Int} (hx : U64 x) (hy : U64 y) : U64 (bitsOp .or .u64 x y) := by
  have e : bitsOp .or .u64 x y = IntKind.wrap .u64 ((BitVec.ofInt 64 x ||| BitVec.ofInt 64 y).toNat : Int) := rfl
  rw [e]; exact u64_wrap _
theorem u64_xor {x y : Int} (hx : U64 x) (hy : U64 y) : U64 (bitsOp .xor .u64 x y) := by
  have e : bitsOp .xor .u64 x y = IntKind.wrap .u64 ((BitVec.ofInt 64 x ^^^ BitVec.ofInt 64 y).toNat : Int) := rfl
  rw [e]; exact u64_wrap _

theorem bit_and {x y : Int} (hx : U64 x) (hy : U64 y) (i : Nat) : bit (bitsOp .and .u64 x y) i = (bit x i && bit y i) := by
  rw [and_u64 hx hy]; simp only [bit, Int.toNat_natCast, Nat.testBit_and]
theorem bit_or {x y : Int} (hx : U64 x) (hy : U64 y) (i : Nat) : bit (bitsOp .or .u64 x y) i = (bit x i || bit y i) := by
  rw [or_u64 hx hy]; simp only [bit, Int.toNat_natCast, Nat.testBit_or]
theorem u64_max : U64 18446744073709551615 := by unfold U64; omega
theorem bit_not {x : Int} (hx : U64 x) {i : Nat} (hi : i < 64) : bit (bitsOp .xor .u64 18446744073709551615 x) i = !bit x i := by
  rw [xor_u64 u64_max hx]
  have e : (18446744073709551615 : Int).toNat = 2 ^ 64 - 1 := rfl
  simp only [bit, Int.toNat_natCast, Nat.testBit_xor, e, Nat.testBit_two_pow_sub_one, hi, decide_true, Bool.true_xor]

theorem u64_pow {n : Nat} (hn : n < 64) : U64 ((2 ^ n : Nat) : Int) := by
  have hp : 2 ^ n < 2 ^ 64 := Nat.pow_lt_pow_right (by omega) hn
  have e : (2 : Nat) ^ 64 = 18446744073709551616 := rfl
  rw [e] at hp
  generalize 2 ^ n = q at hp
  unfold U64; omega

theorem shl1 {n : Nat} (hn : n < 64) : shlI .u64 1 (n : Int) = ((2 ^ n : Nat) : Int) := by
  have e : shlI .u64 1 (n : Int) = IntKind.wrap .u64 (1 * 2 ^ (min (n : Int).toNat 64)) := rfl
  have hp : 2 ^ n < 2 ^ 64 := Nat.pow_lt_pow_right (by omega) hn
  rw [e, Int.toNat_natCast, Nat.min_eq_left (by omega), Int.one_mul]
  have e2 : ((2 : Int) ^ n) = ((2 ^ n : Nat) : Int) := by rw [Int.natCast_pow]; rfl
  rw [e2, wrap_u64_in (u64_pow hn)]

theorem bit_pow (n i : Nat) : bit ((2 ^ n : Nat) : Int) i = decide (n = i) := by
  simp only [bit, Int.toNat_natCast, Nat.testBit_two_pow]

theorem bit_set {x : Int} (hx : U64 x) {n : Nat} (hn : n < 64) (i : Nat) : bit (bitsOp .or .u64 x (shlI .u64 1 (n : Int))) i = (bit x i || decide (n = i)) := by
  rw [shl1 hn, bit_or hx (u64_pow hn), bit_pow]

theorem shr_nat {x : Int} (hx : 0 ≤ x) {n : Nat} (hn : n < 64) : shrI .u64 x (n : Int) = ((x.toNat >>> n : Nat) : Int) := by
  have e : shrI .u64 x (n : Int) = x.fdiv (2 ^ (min (n : Int).toNat 64)) := rfl
  rw [e, Int.toNat_natCast, Nat.min_eq_left (by omega), Nat.shiftRight_eq_div_pow]
  have e2 : ((2 : Int) ^ n) = ((2 ^ n : Nat) : Int) := by rw [Int.natCast_pow]; rfl
  rw [e2, Int.fdiv_eq_ediv_of_nonneg _ (Int.natCast_nonneg _), Int.natCast_ediv]
  congr 1
  omega

theorem has_bit {x : Int} (hx : U64 x) {n : Nat} (hn : n < 64) : (bitsOp .and .u64 (shrI .u64 x (n : Int)) 1 == 1) = bit x n := by
  have hs : U64 (shrI .u64 x (n : Int)) := by
    rw [shr_nat hx.1 hn, Nat.shiftRight_eq_div_pow]
    have h := Nat.div_le_self x.toNat (2 ^ n)
    generalize x.toNat / 2 ^ n = q at *
    unfold U64 at *; omega
  rw [and_u64 hs (by unfold U64; omega), shr_nat hx.1 hn]
  simp only [Int.toNat_natCast, bit, Nat.testBit]
  have e : (1 : Int).toNat = 1 := rfl
  rw [e, Nat.and_comm (x.toNat >>> n) 1]
  have h01 : 1 &&& (x.toNat >>> n) = (x.toNat >>> n) % 2 := by rw [Nat.and_comm]; exact Nat.and_one_is_mod _
  rw [h01]
  have : (x.toNat >>> n) % 2 < 2 := Nat.mod_lt _ (by omega)
  rcases Nat.lt_or_ge ((x.toNat >>> n) % 2) 1 with h | h
  · have h0 : (x.toNat >>> n) % 2 = 0 := by omega
    rw [h0]; rfl
  · have h0 : (x.toNat >>> n) % 2 = 1 := by omega
    rw [h0]; rfl

/-- halves, n times -/
def halves : Nat → Int → Int
  | 0, w => w
  | n + 1, w => halves n (w.tdiv 2)

theorem halves_eq : ∀ (n : Nat) {w : Int}, 0 ≤ w → halves n w = ((w.toNat / 2 ^ n : Nat) : Int)
  | 0, w, h => by simp only [halves, Nat.pow_zero, Nat.div_one]; omega
  | n + 1, w, h => by
    have h2 : w.tdiv 2 = ((w.toNat / 2 : Nat) : Int) := by rw [Int.tdiv_eq_ediv_of_nonneg h]; omega
    rw [halves, halves_eq n (by rw [h2]; omega), h2, Int.toNat_natCast, Nat.div_div_eq_div_mul, Nat.pow_succ, Nat.mul_comm 2]

theorem halves_bit {x : Int} (hx : 0 ≤ x) (n : Nat) : ((halves n x).tmod 2 == 1) = bit x n := by
  rw [halves_eq n hx, Int.tmod_eq_emod_of_nonneg (Int.natCast_nonneg _), bit, Nat.testBit_eq_decide_div_mod_eq]
  generalize x.toNat / 2 ^ n = q
  rcases Nat.mod_two_eq_zero_or_one q with h | h
  · rw [h]
    have : ((q : Nat) : Int) % 2 = 0 := by omega
    rw [this]; rfl
  · rw [h]
    have : ((q : Nat) : Int) % 2 = 1 := by omega
    rw [this]; rfl

def SetOk (s : List Int) : Prop := ∃ a b c d, s = [a, b, c, d] ∧ U64 a ∧ U64 b ∧ U64 c ∧ U64 d

/-- is byte b in the set? -/
def hasS (s : List Int) (b : Nat) : Bool := bit (s.getD (b / 64) 0) (b % 64)

theorem SetOk.length {s : List Int} (h : SetOk s) : s.length = 4 := by
  obtain ⟨a, b, c, d, rfl, _⟩ := h; rfl

theorem SetOk.word {s : List Int} (h : SetOk s) {i : Nat} (hi : i < 4) : U64 (s.getD i 0) := by
  obtain ⟨a, b, c, d, rfl, ha, hb, hc, hd⟩ := h
  match i, hi with
  | 0, _ => exact ha
  | 1, _ => exact hb
  | 2, _ => exact hc
  | 3, _ => exact hd

theorem SetOk.set {s : List Int} (h : SetOk s) {i : Nat} (hi : i < 4) {x : Int} (hx : U64 x) : SetOk (s.set i x) := by
  obtain ⟨a, b, c, d, rfl, ha, hb, hc, hd⟩ := h
  match i, hi with
  | 0, _ => exact ⟨x, b, c, d, rfl, hx, hb, hc, hd⟩
  | 1, _ => exact ⟨a, x, c, d, rfl, ha, hx, hc, hd⟩
  | 2, _ => exact ⟨a, b, x, d, rfl, ha, hb, hx, hd⟩
  | 3, _ => exact ⟨a, b, c, x, rfl, ha, hb, hc, hx⟩

/-- two sets word by word -/
def zipS (f : Int → Int → Int) (s t : List Int) : List Int := List.zipWith f s t

theorem SetOk.zip {s t : List Int} (f : Int → Int → Int) (hf : ∀ x y, U64 x → U64 y → U64 (f x y)) (hs : SetOk s) (ht : SetOk t) : SetOk (zipS f s t) := by
  obtain ⟨a, b, c, d, rfl, ha, hb, hc, hd⟩ := hs
  obtain ⟨a', b', c', d', rfl, ha', hb', hc', hd'⟩ := ht
  exact ⟨_, _, _, _, rfl, hf _ _ ha ha', hf _ _ hb hb', hf _ _ hc hc', hf _ _ hd hd'⟩

theorem SetOk.map {s : List Int} (f : Int → Int) (hf : ∀ x, U64 x → U64 (f x)) (hs : SetOk s) : SetOk (s.map f) := by
  obtain ⟨a, b, c, d, rfl, ha, hb, hc, hd⟩ := hs
  exact ⟨_, _, _, _, rfl, hf _ ha, hf _ hb, hf _ hc, hf _ hd⟩

theorem zip_getD {s t : List Int} (f : Int → Int → Int) (hs : SetOk s) (ht : SetOk t) {i : Nat} (hi : i < 4) : (zipS f s t).getD i 0 = f (s.getD i 0) (t.getD i 0) := by
  obtain ⟨a, b, c, d, rfl, ha, hb, hc, hd⟩ := hs
  obtain ⟨a', b', c', d', rfl, ha', hb', hc', hd'⟩ := ht
  match i, hi with
  | 0, _ => rfl
  | 1, _ => rfl
  | 2, _ => rfl
  | 3, _ => rfl

theorem map_getD {s : List Int} (f : Int → Int) (hs : SetOk s) {i : Nat} (hi : i < 4) : (s.map f).getD i 0 = f (s.getD i 0) := by
  obtain ⟨a, b, c, d, rfl, ha, hb, hc, hd⟩ := hs
  match i, hi with
  | 0, _ => rfl
  | 1, _ => rfl
  | 2, _ => rfl
  | 3, _ => rfl

def orS := zipS (bitsOp .or .u64)
def andS := zipS (bitsOp .and .u64)
def notS (s : List Int) : List Int := s.map (bitsOp .xor .u64 18446744073709551615)

theorem or_ok {s t : List Int} (hs : SetOk s) (ht : SetOk t) : SetOk (orS s t) := SetOk.zip _ (fun _ _ => u64_or) hs ht
theorem and_ok {s t : List Int} (hs : SetOk s) (ht : SetOk t) : SetOk (andS s t) := SetOk.zip _ (fun _ _ => u64_and) hs ht
theorem not_ok {s : List Int} (hs : SetOk s) : SetOk (notS s) := SetOk.map _ (fun _ h => u64_xor u64_max h) hs

theorem has_or {s t : List Int} (hs : SetOk s) (ht : SetOk t) {b : Nat} (hb : b < 256) : hasS (orS s t) b = (hasS s b || hasS t b) := by
  have hi : b / 64 < 4 := by omega
  rw [hasS, orS, zip_getD _ hs ht hi, bit_or (hs.word hi) (ht.word hi)]; rfl
theorem has_and {s t : List Int} (hs : SetOk s) (ht : SetOk t) {b : Nat} (hb : b < 256) : hasS (andS s t) b = (hasS s b && hasS t b) := by
  have hi : b / 64 < 4 := by omega
  rw [hasS, andS, zip_getD _ hs ht hi, bit_and (hs.word hi) (ht.word hi)]; rfl
theorem has_not {s : List Int} (hs : SetOk s) {b : Nat} (hb : b < 256) : hasS (notS s) b = !hasS s b := by
  have hi : b / 64 < 4 := by omega
  rw [hasS, notS, map_getD _ hs hi, bit_not (hs.word hi) (by omega)]; rfl

/-- the set with one byte more -/
def withS (s : List Int) (b : Nat) : List Int := s.set (b / 64) (bitsOp .or .u64 (s.getD (b / 64) 0) (shlI .u64 1 ((b % 64 : Nat) : Int)))

theorem with_ok {s : List Int} (hs : SetOk s) {b : Nat} (hb : b < 256) : SetOk (withS s b) := by
  have hi : b / 64 < 4 := by omega
  exact hs.set hi (u64_or (hs.word hi) (by rw [shl1 (by omega)]; exact u64_pow (by omega)))

theorem has_with {s : List Int} (hs : SetOk s) {b c : Nat} (hb : b < 256) (hc : c < 256) : hasS (withS s b) c = (hasS s c || decide (b = c)) := by
  have hi : b / 64 < 4 := by omega
  have hl := hs.length
  unfold hasS withS
  by_cases h : b / 64 = c / 64
  · rw [h]
    have e : (s.set (c / 64) (bitsOp .or .u64 (s.getD (c / 64) 0) (shlI .u64 1 ((b % 64 : Nat) : Int)))).getD (c / 64) 0 = bitsOp .or .u64 (s.getD (c / 64) 0) (shlI .u64 1 ((b % 64 : Nat) : Int)) := by
      rw [List.getD_eq_getElem?_getD, List.getElem?_set_self (by omega)]; rfl
    rw [e, bit_set (hs.word (by omega)) (by omega)]
    congr 1
    exact decide_eq_decide.2 (by omega)
  · have e : (s.set (b / 64) (bitsOp .or .u64 (s.getD (b / 64) 0) (shlI .u64 1 ((b % 64 : Nat) : Int)))).getD (c / 64) 0 = s.getD (c / 64) 0 := by
      rw [List.getD_eq_getElem?_getD, List.getElem?_set_ne h, ← List.getD_eq_getElem?_getD]
    rw [e, decide_eq_false (by omega), Bool.or_false]

theorem none_ok : SetOk [0, 0, 0, 0] := ⟨0, 0, 0, 0, rfl, by decide, by decide, by decide, by decide⟩
theorem has_none (b : Nat) : hasS [0, 0, 0, 0] b = false := by
  have e : ([0, 0, 0, 0] : List Int).getD (b / 64) 0 = 0 := by
    rw [List.getD_eq_getElem?_getD]
    match b / 64 with
    | 0 => rfl
    | 1 => rfl
    | 2 => rfl
    | 3 => rfl
    | n + 4 => rfl
  rw [hasS, e, bit]; exact Nat.zero_testBit _

theorem bounds_u64 {x : Int} (h : (Lit.int .u64 x).wf = true) : U64 x := by
  simp only [Lit.wf, Bool.and_eq_true, decide_eq_true_eq] at h
  have h0 : (IntKind.min .u64 : Int) = 0 := rfl
  have h1 : (IntKind.max .u64 : Int) = 18446744073709551615 := rfl
  unfold U64; omega

theorem setOk_of {s : List Int} (h : s.length = 4 ∧ ∀ x ∈ s, Wf (.int .u64) x) : SetOk s := by
  obtain ⟨hl, hx⟩ := h
  match s, hl with
  | [a, b, c, d], _ =>
    exact ⟨a, b, c, d, rfl, bounds_u64 (hx a (by simp)), bounds_u64 (hx b (by simp)), bounds_u64 (hx c (by simp)), bounds_u64 (hx d (by simp))⟩

theorem bounds_u8' {x : Int} (h : (Lit.int .u8 x).wf = true) : 0 ≤ x ∧ x < 256 := by
  simp only [Lit.wf, Bool.and_eq_true, decide_eq_true_eq] at h
  have h0 : (IntKind.min .u8 : Int) = 0 := rfl
  have h1 : (IntKind.max .u8 : Int) = 255 := rfl
  omega

theorem pair_of {l : List Int} (h : l.length = 2 ∧ ∀ x ∈ l, Wf (.int .u8) x) : ∃ lo hi : Nat, lo < 256 ∧ hi < 256 ∧ l = [(lo : Int), (hi : Int)] := by
  obtain ⟨hl, hx⟩ := h
  match l, hl with
  | [a, b], _ =>
    have ha := bounds_u8' (hx a (by simp))
    have hb := bounds_u8' (hx b (by simp))
    exact ⟨a.toNat, b.toNat, by omega, by omega, by rw [Int.toNat_of_nonneg ha.1, Int.toNat_of_nonneg hb.1]⟩

end Go.Proofs.YtkpmnnabpiieoaaPx
