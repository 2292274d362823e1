/- The plain functions that the law reaches, what their calls do, and what they give (own work, in one text). -/
import Derived.Test.YtjnlgomdckihpaaDoorLgPra4
import Derived.KernelRfl
/- The layer sha: a hash made in parts tells what one made at once tells. -/
set_option linter.all false
namespace Go.Proofs.YtjnlgomdckihpaaDoorLg
open Go Go.Lift Go.Proofs.YtjnlgomdckihpaaDoorPx

theorem as_map {α : Type} (l : List α) (d : α) {n : Nat} (h : l.length = n) : l = (List.range n).map fun i => l.getD i d := by
  apply List.ext_getElem?
  intro i
  rw [List.getElem?_map]
  by_cases hi : i < n
  · rw [List.getElem?_eq_getElem (by omega), List.getElem?_range hi, Option.map_some, List.getD_eq_getElem?_getD, List.getElem?_eq_getElem (by omega)]; rfl
  · rw [List.getElem?_eq_none (by omega), List.getElem?_eq_none (by rw [List.length_range]; omega)]; rfl

set_option maxRecDepth 100000 in
theorem step_sym (k : Nat) (g : Nat → Int) (f : Nat → UInt8) : (sha_Step (k + 100) ((List.range 8).map g) ((List.range 64).map f)).map List.length = some 8 := by kernel_rfl
set_option maxRecDepth 100000 in
theorem tell_sym (k : Nat) (g : Nat → Int) : (sha_Tell (k + 100) ((List.range 8).map g)).isSome = true := by kernel_rfl

noncomputable def st (N : Nat) (h : List Int) (b : List UInt8) : List Int := (sha_Step N h b).getD []
theorem st_eq (k : Nat) {h : List Int} {b : List UInt8} (hh : h.length = 8) (hb : b.length = 64) : sha_Step (k + 100) h b = some (st (k + 100) h b) ∧ (st (k + 100) h b).length = 8 := by
  have := step_sym k (fun i => h.getD i 0) (fun i => b.getD i 0)
  rw [← as_map h 0 hh, ← as_map b 0 hb] at this
  unfold st
  cases e : sha_Step (k + 100) h b with
  | none => rw [e] at this; cases this
  | some y => rw [e] at this; exact ⟨rfl, Option.some.inj this⟩

noncomputable def stepsL (N : Nat) : Nat → List Int → List UInt8 → List Int
  | 0, h, _ => h
  | j + 1, h, s => stepsL N j (st N h (s.take 64)) (s.drop 64)

theorem stepsL_length (k : Nat) : ∀ (j : Nat) {h : List Int} {s : List UInt8}, h.length = 8 → 64 * j ≤ s.length → (stepsL (k + 100) j h s).length = 8
  | 0, h, s, hh, _ => hh
  | j + 1, h, s, hh, hs => stepsL_length k j (st_eq k hh (by rw [List.length_take]; omega)).2 (by rw [List.length_drop]; omega)

theorem stepsL_append (N : Nat) : ∀ (i j : Nat) {h : List Int} {a b : List UInt8}, a.length = 64 * i → stepsL N (i + j) h (a ++ b) = stepsL N j (stepsL N i h a) b
  | 0, j, h, a, b, ha => by
    have : a = [] := List.length_eq_zero_iff.1 (by omega)
    subst this; rw [Nat.zero_add]; rfl
  | i + 1, j, h, a, b, ha => by
    rw [show i + 1 + j = (i + j) + 1 by omega]
    simp only [stepsL]
    rw [List.take_append_of_le_length (by omega), List.drop_append_of_le_length (by omega)]
    exact stepsL_append N i j (by rw [List.length_drop]; omega)

theorem steps_eq (k : Nat) {h : List Int} {s : List UInt8} {j : Nat} (hh : h.length = 8) (hs : s.length = 64 * j) (hj : j < k + 100) (hj2 : j ≤ 100000) : sha_steps (k + 100) h s = some (stepsL (k + 100) j h s) := by
  simp only [sha_steps, sha_steps_p1]
  rw [iter_eq (I := fun (v : List Int × Int) => ∃ i : Nat, v.2 = ((64 * i : Nat) : Int) ∧ i ≤ j ∧ v.1.length = 8) (m := fun v => j - v.2.toNat / 64)
    (R := fun v => some (stepsL (k + 100) (j - v.2.toNat / 64) v.1 (s.drop v.2.toNat))) ?_ (k + 100) (h, 0) ⟨0, rfl, by omega, hh⟩ (by simpa using hj)]
  · simp
  rintro ⟨h', v⟩ r ⟨i, e, hi, hl⟩ hr
  dsimp only at e hl hr ⊢
  subst e
  rw [Int.toNat_natCast, show 64 * i / 64 = i by omega] at hr ⊢
  simp only [sha_steps_s1]
  by_cases hlt : i < j
  · have hw : IntKind.wrap .i64 (((64 * i : Nat) : Int) + 64) = ((64 * i + 64 : Nat) : Int) := by rw [wrap_in (by unfold I64; omega)]; omega
    have hb : ((s.drop (64 * i)).take 64).length = 64 := by rw [List.length_take, List.length_drop]; omega
    rw [cond_t (dec_t (by omega)), hw, cond_t (dec_t (by omega)), cond_t (dec_t (by omega)), Int.toNat_natCast, Int.toNat_natCast, cut_mid, (st_eq k hl hb).1, Option.bind_some, hr _ ⟨i + 1, by dsimp only; omega, by omega, (st_eq k hl hb).2⟩ (by dsimp only; omega)]
    dsimp only
    rw [Int.toNat_natCast, show (64 * i + 64) / 64 = i + 1 by omega, show j - i = (j - (i + 1)) + 1 by omega]
    simp only [stepsL, List.drop_drop]
  · rw [cond_f (dec_f (by omega)), show j - i = 0 by omega]; rfl

abbrev first : List Int := [1779033703, 3144134277, 1013904242, 2773480762, 1359893119, 2600822924, 528734635, 1541459225]
abbrev Hsh : Type := Bool × (List Int × (List UInt8 × (Int × Unit)))

def total (n : Nat) : Nat := (n + (tailL n).length) / 64
noncomputable def tellL (N : Nat) (h : List Int) : List UInt8 := (sha_Tell N h).getD []
theorem tell_eq (k : Nat) {h : List Int} (hh : h.length = 8) : sha_Tell (k + 100) h = some (tellL (k + 100) h) := by
  have := tell_sym k (fun i => h.getD i 0)
  rw [← as_map h 0 hh] at this
  unfold tellL
  cases e : sha_Tell (k + 100) h with
  | none => rw [e] at this; cases this
  | some y => rfl
noncomputable def sumL (N : Nat) (s : List UInt8) : List UInt8 := tellL N (stepsL N (total s.length) first (s ++ tailL s.length))

def madeH (N : Nat) (all : List UInt8) (h : Hsh) : Prop := ∃ j : Nat, 64 * j ≤ all.length ∧ h = (true, stepsL N j first (all.take (64 * j)), all.drop (64 * j), (all.length : Int), ())

theorem made_new (N : Nat) : madeH N [] (true, first, [], 0, ()) := ⟨0, by simp, rfl⟩

theorem add_eq (k : Nat) {all s : List UInt8} {h : Hsh} (hk : 600 ≤ k) (hm : madeH (k + 100) all h) (hl : all.length + s.length ≤ 30000) : ∃ h', sha_Hash_Add (k + 100) h s = some ((), h', ()) ∧ madeH (k + 100) (all ++ s) h' := by
  obtain ⟨j, hj, rfl⟩ := hm
  have hd : all.drop (64 * j) ++ s = (all ++ s).drop (64 * j) := by rw [List.drop_append_of_le_length hj]
  simp only [sha_Hash_Add, sha_Hash_Add_p1]
  rw [Bool.not_true, cond_false, cond_t (dec_t (by rw [List.length_drop]; omega)), hd]
  generalize hq : ((all ++ s).drop (64 * j)).length / 64 = q
  have hL : ((all ++ s).drop (64 * j)).length = all.length + s.length - 64 * j := by rw [List.length_drop, List.length_append]
  have hw : IntKind.wrap .i64 ((((all ++ s).drop (64 * j)).length : Int) - Int.tmod (((all ++ s).drop (64 * j)).length : Int) 64) = ((64 * q : Nat) : Int) := by
    rw [Int.tmod_eq_emod_of_nonneg (by omega), wrap_in (by unfold I64; omega)]; omega
  have hq2 : 64 * q ≤ all.length + s.length - 64 * j := by omega
  have hsl : (stepsL (k + 100) j first (all.take (64 * j))).length = 8 := stepsL_length k j rfl (by rw [List.length_take]; omega)
  rw [hw, cond_t (dec_t (by omega)), Int.toNat_natCast, cut_take, steps_eq k hsl (by rw [List.length_take]; omega) (by omega : q < k + 100) (by omega), Option.bind_some, cond_t (dec_t (by omega)), cut_all]
  refine ⟨_, rfl, j + q, by rw [List.length_append]; omega, ?_⟩
  have e1 : (all ++ s).take (64 * (j + q)) = all.take (64 * j) ++ ((all ++ s).drop (64 * j)).take (64 * q) := by
    rw [Nat.mul_add, List.take_add, List.take_append_of_le_length hj]
  rw [e1, stepsL_append _ j q (by rw [List.length_take]; omega), List.drop_drop, List.length_append, show 64 * (j + q) = 64 * j + 64 * q by omega]
  have e2 : IntKind.wrap .i64 ((all.length : Int) + (s.length : Int)) = ((all.length + s.length : Nat) : Int) := by rw [wrap_in (by unfold I64; omega)]; omega
  rw [e2]

theorem core_eq (k : Nat) {all : List UInt8} {j : Nat} (hk : 600 ≤ k) (hj : 64 * j ≤ all.length) (hl : all.length ≤ 30000) :
    sha_steps (k + 100) (stepsL (k + 100) j first (all.take (64 * j))) (all.drop (64 * j) ++ tailL all.length) = some (stepsL (k + 100) (total all.length) first (all ++ tailL all.length)) ∧ (stepsL (k + 100) (total all.length) first (all ++ tailL all.length)).length = 8 := by
  have hwh := tailL_whole all.length
  have htl := tailL_length all.length
  have hz : zer all.length < 64 := by unfold zer; omega
  have htot : 64 * total all.length = all.length + (tailL all.length).length := by unfold total; omega
  have hsl : (stepsL (k + 100) j first (all.take (64 * j))).length = 8 := stepsL_length k j rfl (by rw [List.length_take]; omega)
  have hjt : j ≤ total all.length := by omega
  have e : stepsL (k + 100) (total all.length) first (all ++ tailL all.length) = stepsL (k + 100) (total all.length - j) (stepsL (k + 100) j first (all.take (64 * j))) (all.drop (64 * j) ++ tailL all.length) := by
    have := stepsL_append (k + 100) j (total all.length - j) (h := first) (a := all.take (64 * j)) (b := all.drop (64 * j) ++ tailL all.length) (by rw [List.length_take]; omega)
    rw [← List.append_assoc, List.take_append_drop, show j + (total all.length - j) = total all.length by omega] at this
    exact this
  constructor
  · rw [e, steps_eq k (j := total all.length - j) hsl (by rw [List.length_append, List.length_drop]; omega) (by omega) (by omega)]
  · exact stepsL_length k _ rfl (by rw [List.length_append]; omega)

theorem tailK {k n : Nat} (hn : n ≤ 30000) : sha_tail (k + 100) (n : Int) = some (tailL n) := tail_eq (k + 80) hn

theorem sum1_eq (k : Nat) {all : List UInt8} {h : Hsh} (hk : 600 ≤ k) (hm : madeH (k + 100) all h) (hl : all.length ≤ 30000) : sha_Hash_Sum1 (k + 100) h = some (sumL (k + 100) all, h, ()) := by
  obtain ⟨j, hj, rfl⟩ := hm
  have hz : zer all.length < 64 := by unfold zer; omega
  obtain ⟨h1, h2⟩ := core_eq k hk hj hl
  simp only [sha_Hash_Sum1, sha_Hash_Sum1_p1, sha_Hash_Sum1_p2]
  rw [Bool.not_true, cond_false, tailK hl, Option.bind_some, cond_t (dec_t (by rw [tailL_length, List.length_drop]; omega)), h1, Option.bind_some, tell_eq k h2, Option.bind_some]
  rfl

theorem sum_eq (k : Nat) {s : List UInt8} (hk : 600 ≤ k) (hl : s.length ≤ 30000) : sha_Sum (k + 100) s = some (sumL (k + 100) s) := by
  obtain ⟨h', h1, h2⟩ := add_eq k (s := s) hk (made_new _) (by simpa using hl)
  rw [List.nil_append] at h2
  simp only [sha_Sum]
  rw [h1, Option.bind_some, sum1_eq k hk h2 hl]; rfl

theorem sum2_eq (k : Nat) {all : List UInt8} {h : Hsh} (hk : 600 ≤ k) (hm : madeH (k + 100) all h) (hl : all.length ≤ 30000) : sha_Hash_Sum (k + 100) h = some (sumL (k + 100) all, h, ()) := by
  obtain ⟨j, hj, rfl⟩ := hm
  have hz : zer all.length < 64 := by unfold zer; omega
  obtain ⟨h1, h2⟩ := core_eq k hk hj hl
  simp only [sha_Hash_Sum, sha_Hash_Sum_p1, sha_Hash_Sum_p2]
  rw [Bool.not_true, cond_false, tailK hl, Option.bind_some, cond_t (dec_t (by rw [tailL_length, List.length_drop]; omega)), h1, Option.bind_some, tell_eq k h2, Option.bind_some]
  rfl


end Go.Proofs.YtjnlgomdckihpaaDoorLg

/- The layer sha: the document's sum is the program's. -/
set_option linter.all false
namespace Go.Proofs.YtjnlgomdckihpaaDoorLg
open Go Go.Lift Go.Proofs.YtjnlgomdckihpaaDoorPx

def be4 (x : Int) : List UInt8 := toStr [IntKind.wrap .u8 (shrI .u64 (IntKind.wrap .u64 x) 24), IntKind.wrap .u8 (shrI .u64 (IntKind.wrap .u64 x) 16), IntKind.wrap .u8 (shrI .u64 (IntKind.wrap .u64 x) 8), IntKind.wrap .u8 (shrI .u64 (IntKind.wrap .u64 x) 0)]
set_option maxRecDepth 100000 in
theorem tellA (k : Nat) (g : Nat → Int) : sha_Tell (k + 100) ((List.range 8).map g) = some (((((((([] ++ be4 (g 0)) ++ be4 (g 1)) ++ be4 (g 2)) ++ be4 (g 3)) ++ be4 (g 4)) ++ be4 (g 5)) ++ be4 (g 6)) ++ be4 (g 7)) := by kernel_rfl
/-! ## Pad -/end Go.Proofs.YtjnlgomdckihpaaDoorLg

/- Byte strings: comparing, exclusive or, pieces: mathematics alone. -/
set_option linter.all false
namespace Go.Proofs.YtjnlgomdckihpaaDoorPx
open Go Go.Lift

def orX : List UInt8 → List UInt8 → UInt8
  | x :: xs, y :: ys => (x ^^^ y) ||| orX xs ys
  | _, _ => 0

theorem or_zero (x y : UInt8) : x ||| y = 0 ↔ x = 0 ∧ y = 0 := by
  constructor
  · intro h
    have h' : x.toNat ||| y.toNat = 0 := by rw [← UInt8.toNat_or, h]; rfl
    have := Nat.or_eq_zero_iff.1 h'
    exact ⟨UInt8.toNat_inj.1 this.1, UInt8.toNat_inj.1 this.2⟩
  · rintro ⟨rfl, rfl⟩; rfl

theorem xor_zero (x y : UInt8) : x ^^^ y = 0 ↔ x = y := by
  constructor
  · intro h
    have e : y = x ^^^ (x ^^^ y) := by rw [← UInt8.xor_assoc, UInt8.xor_self, UInt8.zero_xor]
    rw [h, UInt8.xor_zero] at e
    exact e.symm
  · rintro rfl; exact UInt8.xor_self

theorem orX_zero : ∀ a b : List UInt8, a.length = b.length → (orX a b = 0 ↔ a = b)
  | [], [], _ => by simp [orX]
  | x :: xs, y :: ys, h => by
    simp only [orX, or_zero, xor_zero, orX_zero xs ys (by simpa using h), List.cons.injEq]
  | [], _ :: _, h => by simp at h
  | _ :: _, [], h => by simp at h

theorem or_assoc' (x y z : UInt8) : x ||| y ||| z = x ||| (y ||| z) := UInt8.or_assoc _ _ _

def xorL (a b : List UInt8) : List UInt8 := List.zipWith (fun x y => x ^^^ y) a b

theorem xorL_length (a b : List UInt8) : (xorL a b).length = min a.length b.length := by simp [xorL]
theorem xorL_back : ∀ a b : List UInt8, xorL (xorL a b) b = a.take (min a.length b.length)
  | [], b => by simp [xorL]
  | x :: xs, [] => by simp [xorL]
  | x :: xs, y :: ys => by
    have := xorL_back xs ys
    simp only [xorL, List.zipWith_cons_cons] at this ⊢
    rw [this, UInt8.xor_assoc, UInt8.xor_self, UInt8.xor_zero]
    simp [Nat.succ_min_succ]

/-! pieces -/end Go.Proofs.YtjnlgomdckihpaaDoorPx

/- octet: exclusive or, equality, padding: what the plain functions say. -/
set_option linter.all false
namespace Go.Proofs.YtjnlgomdckihpaaDoorLg
open Go Go.Lift Go.Proofs.YtjnlgomdckihpaaDoorPx

theorem equal_eq (N : Nat) {a b : List UInt8} (ha : a.length ≤ 9223372036854775806) (hN : a.length < N) : octet_Equal N a b = some (a == b) := by
  simp only [octet_Equal, octet_Equal_p1]
  by_cases hl : a.length = b.length
  · rw [cond_f (by simp [hl]), iter_eq (I := fun (v : Int × Int) => (∃ d : UInt8, v.1 = ((d.toNat : Nat) : Int)) ∧ 0 ≤ v.2 ∧ v.2 ≤ ((a.length : Nat) : Int)) (m := fun (v : Int × Int) => a.length - v.2.toNat)
      (R := fun (v : Int × Int) => some ((UInt8.ofNat v.1.toNat ||| orX (a.drop v.2.toNat) (b.drop v.2.toNat)) == 0)) ?_ N (0, 0) ⟨⟨0, rfl⟩, by omega, by dsimp only; omega⟩ (by simpa using hN)]
    · simp only [Int.toNat_zero, List.drop_zero]
      have : (UInt8.ofNat 0 ||| orX a b) = orX a b := UInt8.zero_or
      rw [this]
      congr 1
      rw [Bool.eq_iff_iff, beq_iff_eq, orX_zero a b hl, beq_iff_eq]
    rintro ⟨x, v⟩ r ⟨⟨d, hd⟩, h0, h1⟩ hr
    dsimp only at *
    subst hd
    obtain ⟨i, rfl⟩ := Int.eq_ofNat_of_zero_le h0
    simp only [octet_Equal_s1, Int.toNat_natCast, UInt8.ofNat_toNat]
    by_cases hlt : i < a.length
    · have hib : i < b.length := by omega
      rw [cond_t (dec_t (by omega)), cond_t (inR_nat hlt), cond_t (inR_nat hib), xor_u8, or_u8, wrap_succ (by omega), hr _ ⟨⟨_, rfl⟩, by omega, by omega⟩ (by dsimp only; omega), drop_cons a 0 i hlt, drop_cons b 0 i hib]
      simp only [Int.toNat_natCast, UInt8.ofNat_toNat, orX, or_assoc']
    · have hi : i = a.length := by omega
      rw [cond_f (dec_f (by omega)), drop_nil' a (by omega)]
      have : orX [] (b.drop i) = 0 := by unfold orX; rfl
      rw [this, UInt8.or_zero]
      congr 1
      rw [Bool.eq_iff_iff, beq_iff_eq, beq_iff_eq, show (0 : Int) = (((0 : UInt8).toNat : Nat) : Int) from rfl, u8_cast_eq]
  · rw [cond_t (by simp; omega)]
    have : ¬ a = b := fun e => hl (by rw [e])
    simp [this]

theorem xor_eq (N : Nat) {a b : List UInt8} (ha : a.length ≤ 281474976710656) (hN : a.length < N) : octet_Xor N a b = some (xorL a b) := by
  simp only [octet_Xor, octet_Xor_p1, min_len]
  rw [cond_t (dec_t ⟨by omega, by omega, by omega, by omega⟩)]
  simp only [Int.toNat_natCast, List.length_replicate]
  rw [iter_eq (I := fun (v : List Int × Int) => v.1.length = min a.length b.length ∧ 0 ≤ v.2 ∧ v.2 ≤ ((min a.length b.length : Nat) : Int)) (m := fun (v : List Int × Int) => a.length - v.2.toNat)
    (R := fun (v : List Int × Int) => some (toStr (v.1.take v.2.toNat) ++ xorL (a.drop v.2.toNat) (b.drop v.2.toNat))) ?_ N (List.replicate (min a.length b.length) 0, 0) ⟨by simp, by omega, by dsimp only; omega⟩ (by simpa using hN)]
  · simp [toStr]
  rintro ⟨out, v⟩ r ⟨hl, h0, h1⟩ hr
  dsimp only at *
  obtain ⟨i, rfl⟩ := Int.eq_ofNat_of_zero_le h0
  simp only [octet_Xor_s1, Int.toNat_natCast]
  by_cases hlt : i < min a.length b.length
  · have hia : i < a.length := by omega
    have hib : i < b.length := by omega
    have hio : i < out.length := by omega
    rw [cond_t (dec_t (by omega)), cond_t (inR_nat hia), cond_t (inR_nat hib), cond_t (inR_nat hio), cond_t (dec_t hio), xor_u8, wrap_succ (by omega), hr _ ⟨by simpa using hl, by omega, by omega⟩ (by dsimp only; omega), drop_cons a 0 i hia, drop_cons b 0 i hib]
    simp only [Int.toNat_natCast, take_set_succ _ _ _ hio, toStr_append, toStr_byte, List.append_assoc]
    rfl
  · have hi : i = min a.length b.length := by omega
    rw [cond_f (dec_f (by omega)), List.take_of_length_le (by omega)]
    have : xorL (a.drop i) (b.drop i) = [] := by
      apply List.length_eq_zero_iff.1
      rw [xorL_length, List.length_drop, List.length_drop]; omega
    rw [this, List.append_nil]
end Go.Proofs.YtjnlgomdckihpaaDoorLg

/- Layer 4: the tag, in the program and in the reference. -/
set_option linter.all false
set_option maxRecDepth 100000
namespace Go.Proofs.YtjnlgomdckihpaaDoorLg
open Go Go.Lift Go.Proofs.YtjnlgomdckihpaaDoorPx

theorem tell_len (k : Nat) {h : List Int} (hh : h.length = 8) : (tellL (k + 100) h).length = 32 := by
  unfold tellL
  rw [as_map h 0 hh, tellA]
  simp only [Option.getD_some, List.length_append, List.length_nil]
  rfl

theorem sumL_length (k : Nat) {s : List UInt8} (hk : 600 ≤ k) (hl : s.length ≤ 30000) : (sumL (k + 100) s).length = 32 := by
  obtain ⟨_, h⟩ := core_eq k (all := s) (j := 0) hk (by omega) hl
  exact tell_len k h

/-- the key, in 64 bytes -/
noncomputable def key1 (N : Nat) (key : List UInt8) : List UInt8 := if 64 < key.length then sumL N key else key
noncomputable def key64 (N : Nat) (key : List UInt8) : List UInt8 := key1 N key ++ List.replicate (64 - (key1 N key).length) 0
noncomputable def maskL (N : Nat) (key : List UInt8) (b : UInt8) : List UInt8 := xorL (key64 N key) (List.replicate 64 b)
noncomputable def innerL (N : Nat) (key text : List UInt8) : List UInt8 := maskL N key 54 ++ text
noncomputable def outerL (N : Nat) (key text : List UInt8) : List UInt8 := maskL N key 92 ++ sumL N (innerL N key text)
noncomputable def tagL (N : Nat) (key text : List UInt8) : List UInt8 := sumL N (outerL N key text)

theorem key1_le (k : Nat) {key : List UInt8} (hk : 600 ≤ k) (hl : key.length ≤ 30000) : (key1 (k + 100) key).length ≤ 64 := by
  unfold key1
  by_cases h : 64 < key.length
  · rw [if_pos h, sumL_length k hk hl]; omega
  · rw [if_neg h]; omega

theorem key64_length (k : Nat) {key : List UInt8} (hk : 600 ≤ k) (hl : key.length ≤ 30000) : (key64 (k + 100) key).length = 64 := by
  have := key1_le k hk hl
  unfold key64; rw [List.length_append, List.length_replicate]; omega

theorem maskL_length (k : Nat) {key : List UInt8} (b : UInt8) (hk : 600 ≤ k) (hl : key.length ≤ 30000) : (maskL (k + 100) key b).length = 64 := by
  unfold maskL; rw [xorL_length, key64_length k hk hl, List.length_replicate]; rfl

theorem innerL_length (k : Nat) {key text : List UInt8} (hk : 600 ≤ k) (hl : key.length ≤ 30000) : (innerL (k + 100) key text).length = 64 + text.length := by
  unfold innerL; rw [List.length_append, maskL_length k 54 hk hl]

theorem outerL_length (k : Nat) {key text : List UInt8} (hk : 600 ≤ k) (hl : key.length ≤ 30000) (ht : text.length ≤ 29900) : (outerL (k + 100) key text).length = 96 := by
  unfold outerL; rw [List.length_append, maskL_length k 92 hk hl, sumL_length k hk (by rw [innerL_length k hk hl]; omega)]

theorem tagL_length (k : Nat) {key text : List UInt8} (hk : 600 ≤ k) (hl : key.length ≤ 30000) (ht : text.length ≤ 29900) : (tagL (k + 100) key text).length = 32 :=
  sumL_length k hk (by rw [outerL_length k hk hl ht]; omega)

/-! ## the program -/
theorem rep_eq (b : UInt8) : repeat_F ([b], ((64 : Int), ())) = some (List.replicate 64 b) := by kernel_rfl

theorem keyed_eq (k : Nat) {key text : List UInt8} (b : UInt8) (hk : 600 ≤ k) (hl : key.length = 64) (ht : text.length ≤ 29900) :
    hmac_keyed (k + 100) key [b] text = some (sumL (k + 100) (xorL key (List.replicate 64 b) ++ text)) := by
  have hx : (xorL key (List.replicate 64 b)).length = 64 := by rw [xorL_length, hl, List.length_replicate]; rfl
  unfold hmac_keyed
  rw [rep_eq, Option.bind_some, xor_eq _ (by omega) (by omega), Option.bind_some]
  obtain ⟨h1, e1, m1⟩ := add_eq k (s := xorL key (List.replicate 64 b)) hk (made_new _) (by rw [hx]; simp)
  rw [List.nil_append] at m1
  rw [e1, Option.bind_some]
  dsimp only
  obtain ⟨h2, e2, m2⟩ := add_eq k (s := text) hk m1 (by rw [hx]; omega)
  rw [e2, Option.bind_some]
  dsimp only
  rw [sum2_eq k hk m2 (by rw [List.length_append, hx]; omega), Option.bind_some]

theorem tag_eq (k : Nat) {key text : List UInt8} (hk : 600 ≤ k) (hl : key.length ≤ 30000) (ht : text.length ≤ 29900) :
    hmac_Sum (k + 100) key text = some (tagL (k + 100) key text) := by
  have h1 : ∀ k0 : List UInt8 → Option (List UInt8), hmac_Sum_p1 (k + 100) key text k0 = k0 (key1 (k + 100) key) := by
    intro k0
    unfold hmac_Sum_p1 key1
    by_cases h : 64 < key.length
    · rw [cond_t (dec_t (by omega)), sum_eq k hk hl, Option.bind_some, if_pos h]
    · rw [cond_f (dec_f (by omega)), if_neg h]
  unfold hmac_Sum
  rw [h1, show (64 : Int) = ((64 : Nat) : Int) from rfl, padN_eq _ (by omega) (key1_le k hk hl), Option.bind_some]
  have h64 := key64_length k hk hl
  unfold key64 at h64
  rw [keyed_eq k 54 hk h64 ht, Option.bind_some, keyed_eq k 92 hk h64 (by
    have := innerL_length k (text := text) hk hl
    unfold innerL maskL key64 at this
    rw [sumL_length k hk (by rw [this]; omega)]; omega), Option.bind_some]
  rfl

/-! ## the reference -/end Go.Proofs.YtjnlgomdckihpaaDoorLg

/- Layer 4: frames are split again: mathematics alone, then the program and the reference. -/
set_option linter.all false
set_option maxRecDepth 100000
namespace Go.Proofs.YtjnlgomdckihpaaDoorLg
open Go Go.Lift Go.Proofs.YtjnlgomdckihpaaDoorPx

/-- big-endian -/
def valB : List UInt8 → Nat → Nat
  | [], n => n
  | b :: l, n => valB l (n * 256 + b.toNat)

theorem valB_snoc (b : UInt8) : ∀ (l : List UInt8) (n : Nat), valB (l ++ [b]) n = valB l n * 256 + b.toNat
  | [], n => rfl
  | c :: l, n => valB_snoc b l _

theorem valB_take {s : List UInt8} {i : Nat} (h : i < s.length) : valB (s.take (i + 1)) 0 = valB (s.take i) 0 * 256 + (s.getD i 0).toNat := by
  rw [take_succ s 0 i h, valB_snoc]

theorem valB_lt : ∀ (i : Nat) (s : List UInt8), i ≤ s.length → valB (s.take i) 0 < 256 ^ i
  | 0, s, _ => by simp [valB]
  | i + 1, s, h => by
    rw [valB_take (by omega), Nat.pow_succ]
    have := valB_lt i s (by omega)
    have := u8_lt (s.getD i 0)
    omega

def beN : Nat → Nat → List UInt8
  | 0, _ => []
  | j + 1, n => beN j (n / 256) ++ [UInt8.ofNat (n % 256)]

theorem valB_beN : ∀ (j n : Nat), n < 256 ^ j → valB (beN j n) 0 = n
  | 0, n, h => by simp at h; subst h; rfl
  | j + 1, n, h => by
    rw [Nat.pow_succ] at h
    have h2 : n / 256 < 256 ^ j := Nat.div_lt_of_lt_mul (by rw [Nat.mul_comm]; exact h)
    rw [beN, valB_snoc, valB_beN j _ h2, UInt8.toNat_ofNat']; omega

theorem be8_eq (n : Nat) (hn : n < 9223372036854775808) : be8 n = beN 8 n := by
  have h : ∀ a b : Nat, a % 256 = b % 256 → UInt8.ofNat a = UInt8.ofNat b := by
    intro a b e
    apply UInt8.toNat_inj.1
    rw [UInt8.toNat_ofNat', UInt8.toNat_ofNat']; omega
  have e := fun i hi => be_one n hn i hi
  have e7 := e 7 (by omega); have e6 := e 6 (by omega); have e5 := e 5 (by omega); have e4 := e 4 (by omega)
  have e3 := e 3 (by omega); have e2 := e 2 (by omega); have e1 := e 1 (by omega); have e0 := e 0 (by omega)
  simp only [Nat.reduceMul] at e7 e6 e5 e4 e3 e2 e1 e0
  have : be8 n = [UInt8.ofNat (n / 256 ^ 7), UInt8.ofNat (n / 256 ^ 6), UInt8.ofNat (n / 256 ^ 5), UInt8.ofNat (n / 256 ^ 4), UInt8.ofNat (n / 256 ^ 3), UInt8.ofNat (n / 256 ^ 2), UInt8.ofNat (n / 256 ^ 1), UInt8.ofNat (n / 256 ^ 0)] := by
    rw [← e7, ← e6, ← e5, ← e4, ← e3, ← e2, ← e1, ← e0]; rfl
  rw [this]
  simp only [beN, List.nil_append, List.cons_append, List.append_assoc, Nat.div_div_eq_div_mul, Nat.reducePow, Nat.reduceMul]
  simp only [List.cons.injEq, and_true]
  refine ⟨?_, ?_, ?_, ?_, ?_, ?_, ?_, ?_⟩ <;> (apply h; omega)

/-- the first part, and what follows -/
def cutR (s : List UInt8) : Option (List UInt8 × List UInt8) :=
  if s.length < 8 then none else if s.length - 8 < valB (s.take 8) 0 then none else some ((s.drop 8).take (valB (s.take 8) 0), (s.drop 8).drop (valB (s.take 8) 0))

theorem cutR_less {s a b : List UInt8} (h : cutR s = some (a, b)) : b.length < s.length := by
  unfold cutR at h
  by_cases h1 : s.length < 8
  · rw [if_pos h1] at h; cases h
  rw [if_neg h1] at h
  by_cases h2 : s.length - 8 < valB (s.take 8) 0
  · rw [if_pos h2] at h; cases h
  rw [if_neg h2] at h
  obtain ⟨rfl, rfl⟩ := Prod.mk.inj (Option.some.inj h)
  rw [List.length_drop, List.length_drop]; omega

def splitR : Nat → List UInt8 → Option (List (List UInt8))
  | 0, s => if s = [] then some [] else none
  | n + 1, s => if s = [] then some [] else match cutR s with
    | none => none
    | some (a, b) => (splitR n b).map (a :: ·)

def itemsR : Nat → List UInt8 → List (List UInt8 × Bool × Unit)
  | 0, s => []
  | n + 1, s => if s = [] then [] else match cutR s with
    | none => [([], false, ())]
    | some (a, b) => (a, true, ()) :: itemsR n b

theorem splitR_fuel : ∀ (n m : Nat) (s : List UInt8), s.length ≤ n → s.length ≤ m → splitR n s = splitR m s
  | 0, 0, s, _, _ => rfl
  | 0, m + 1, s, h, _ => by
    have : s = [] := List.length_eq_zero_iff.1 (by omega)
    subst this; rfl
  | n + 1, 0, s, _, h => by
    have : s = [] := List.length_eq_zero_iff.1 (by omega)
    subst this; rfl
  | n + 1, m + 1, s, h, h' => by
    unfold splitR
    by_cases e : s = []
    · rw [if_pos e, if_pos e]
    rw [if_neg e, if_neg e]
    cases hc : cutR s with
    | none => rfl
    | some p =>
      obtain ⟨a, b⟩ := p
      have := cutR_less hc
      dsimp only
      rw [splitR_fuel n m b (by omega) (by omega)]

theorem itemsR_fuel : ∀ (n m : Nat) (s : List UInt8), s.length ≤ n → s.length ≤ m → itemsR n s = itemsR m s
  | 0, 0, s, _, _ => rfl
  | 0, m + 1, s, h, _ => by
    have : s = [] := List.length_eq_zero_iff.1 (by omega)
    subst this; rfl
  | n + 1, 0, s, _, h => by
    have : s = [] := List.length_eq_zero_iff.1 (by omega)
    subst this; rfl
  | n + 1, m + 1, s, h, h' => by
    unfold itemsR
    by_cases e : s = []
    · rw [if_pos e, if_pos e]
    rw [if_neg e, if_neg e]
    cases hc : cutR s with
    | none => rfl
    | some p =>
      obtain ⟨a, b⟩ := p
      have := cutR_less hc
      dsimp only
      rw [itemsR_fuel n m b (by omega) (by omega)]

abbrev splitL (s : List UInt8) : Option (List (List UInt8)) := splitR s.length s

theorem splitL_cons {s : List UInt8} (h : s ≠ []) : splitL s = match cutR s with
    | none => none
    | some (a, b) => (splitL b).map (a :: ·) := by
  have hp : 0 < s.length := List.length_pos_iff.2 h
  unfold splitL
  obtain ⟨n, hn⟩ : ∃ n, s.length = n + 1 := ⟨s.length - 1, by omega⟩
  rw [hn, splitR, if_neg h]
  cases hc : cutR s with
  | none => rfl
  | some p =>
    obtain ⟨a, b⟩ := p
    have := cutR_less hc
    dsimp only
    rw [splitR_fuel n b.length b (by omega) (by omega)]

theorem be8_length (n : Nat) : (be8 n).length = 8 := rfl

/-- a frame is split into its parts -/
theorem split_frame : ∀ (l : List (List UInt8)), (∀ p ∈ l, p.length < 9223372036854775808) → splitL (frameL l) = some l
  | [], _ => rfl
  | p :: l, h => by
    have hp := h p (by simp)
    have hne : frameL (p :: l) ≠ [] := by
      intro e
      have := congrArg List.length e
      rw [frameL_cons, List.length_append, be8_length] at this
      simp at this
    rw [splitL_cons hne]
    have ht : (frameL (p :: l)).take 8 = beN 8 p.length := by
      rw [frameL_cons, List.take_append_of_le_length (by rw [be8_length]; omega), List.take_of_length_le (by rw [be8_length]; omega), be8_eq _ hp]
    have hd : (frameL (p :: l)).drop 8 = p ++ frameL l := by
      rw [frameL_cons, List.drop_append_of_le_length (by rw [be8_length]; omega), List.drop_of_length_le (by rw [be8_length]; omega)]; rfl
    have hv : valB ((frameL (p :: l)).take 8) 0 = p.length := by rw [ht]; exact valB_beN 8 _ (by omega)
    have hl : (frameL (p :: l)).length = 8 + (p.length + (frameL l).length) := by
      rw [frameL_cons, List.length_append, List.length_append, be8_length]
    have hc : cutR (frameL (p :: l)) = some (p, frameL l) := by
      unfold cutR
      rw [hv, hd, if_neg (by omega), if_neg (by omega)]
      simp
    rw [hc]
    dsimp only
    rw [split_frame l (fun q hq => h q (by simp [hq]))]; rfl
end Go.Proofs.YtjnlgomdckihpaaDoorLg

/- Layer 4: the laws. -/
set_option linter.all false
set_option maxRecDepth 100000
namespace Go.Proofs.YtjnlgomdckihpaaDoorLg
open Go Go.Lift Go.Proofs.YtjnlgomdckihpaaDoorPx

theorem same_eq (N : Nat) {a b : List UInt8} (ha : a.length ≤ 100000) (hN : a.length < N) : hmac_Same N a b = some (decide (a.length = 32) && (a == b)) := by
  unfold hmac_Same
  by_cases h1 : a.length = 32
  · rw [cond_t (by simp [h1])]
    by_cases h2 : b.length = 32
    · rw [cond_t (by simp [h2]), equal_eq _ (by omega) hN, Option.bind_some, decide_eq_true h1, Bool.true_and]
    · have hne : (a == b) = false := by
        rw [beq_eq_false_iff_ne]; intro e; subst e; exact h2 h1
      rw [cond_f (by rw [beq_eq_false_iff_ne]; omega), hne, Bool.and_false]
  · rw [cond_f (by rw [beq_eq_false_iff_ne]; omega), decide_eq_false h1, Bool.false_and]

theorem frameN (k : Nat) {l : List (List UInt8)} (hl : l.length ≤ 50) (hb : (frameL l).length ≤ 70368744177664) : hmac_Frame (k + 100) l = some (frameL l) :=
  frame_eq (k + 91) l (by omega) (by omega) hb
theorem frameL_length : ∀ l : List (List UInt8), (frameL l).length = 8 * l.length + l.flatten.length
  | [] => rfl
  | p :: l => by
    rw [frameL_cons, List.length_append, List.length_append, be8_length, frameL_length l, List.flatten_cons, List.length_append, List.length_cons]; omega

theorem parts_eq (k : Nat) {key : List UInt8} {l : List (List UInt8)} (hk : 600 ≤ k) (hl : key.length ≤ 30000) (h1 : l.length ≤ 50) (h2 : (frameL l).length ≤ 29900) :
    hmac_Parts (k + 100) key l = some (tagL (k + 100) key (frameL l)) := by
  unfold hmac_Parts
  rw [frameN k h1 (by omega), Option.bind_some, tag_eq k hk hl h2]; rfl
theorem parts_small : ∀ (l : List (List UInt8)) (p : List UInt8), p ∈ l → p.length ≤ l.flatten.length
  | q :: l, p, h => by
    rw [List.flatten_cons, List.length_append]
    rcases List.mem_cons.1 h with rfl | h
    · omega
    · have := parts_small l p h; omega

/-! ## HmacApart -/end Go.Proofs.YtjnlgomdckihpaaDoorLg

/- Layer 5: streams. -/
set_option linter.all false
set_option maxRecDepth 100000
namespace Go.Proofs.YtjnlgomdckihpaaDoorLg
open Go Go.Lift Go.Proofs.YtjnlgomdckihpaaDoorPx

theorem number_raw (k : Nat) (n : Int) : stream_number (k + 9) n = some (toStr (([56, 48, 40, 32, 24, 16, 8, 0] : List Int).map fun j => IntKind.wrap .u8 (shrI .i64 n j))) := by kernel_rfl

theorem number_eq (k : Nat) {n : Nat} (hn : n < 9223372036854775808) : stream_number (k + 9) (n : Int) = some (be8 n) := by
  rw [number_raw]
  have h1 : IntKind.wrap .u64 ((n : Nat) : Int) = (n : Int) := by
    simp [IntKind.wrap, IntKind.signed, IntKind.bits]; omega
  have h2 : ∀ j, shrI .i64 (n : Int) j = shrI .u64 (n : Int) j := fun j => rfl
  unfold be8
  simp only [h1, h2]

def seed (nonce : List UInt8) (i : Nat) : List (List UInt8) := [[115, 116, 114, 101, 97, 109], nonce, be8 i]
noncomputable def blockL (N : Nat) (key nonce : List UInt8) (i : Nat) : List UInt8 := tagL N key (frameL (seed nonce i))

theorem seed_length (nonce : List UInt8) (i : Nat) : (frameL (seed nonce i)).length = 38 + nonce.length := by
  rw [frameL_length]
  simp [seed, be8_length]; omega

theorem blockL_length (k : Nat) {key nonce : List UInt8} (i : Nat) (hk : 600 ≤ k) (hl : key.length ≤ 30000) (hn : nonce.length ≤ 1000) : (blockL (k + 100) key nonce i).length = 32 :=
  tagL_length k hk hl (by rw [seed_length]; omega)

theorem block_eq (k : Nat) {key nonce : List UInt8} {i : Nat} (hk : 600 ≤ k) (hl : key.length ≤ 30000) (hn : nonce.length ≤ 1000) (hi : i < 9223372036854775808) : stream_Block (k + 100) key nonce (i : Int) = some (blockL (k + 100) key nonce i) := by
  unfold stream_Block
  rw [cond_f (dec_f (by omega)), show stream_number (k + 100) (i : Int) = some (be8 i) from number_eq (k + 91) hi, Option.bind_some]
  rw [show hmac_Parts (k + 100) key ([([(115 : UInt8), (116 : UInt8), (114 : UInt8), (101 : UInt8), (97 : UInt8), (109 : UInt8)] : List UInt8), nonce, be8 i] : List (List UInt8)) = _ from parts_eq k (l := seed nonce i) hk hl (by simp [seed]) (by rw [seed_length]; omega)]
  rfl
noncomputable def firstL (N : Nat) (key nonce : List UInt8) (m : Nat) : List UInt8 := ((List.range m).map (blockL N key nonce)).flatten
noncomputable def takeL (N : Nat) (key nonce : List UInt8) (n : Nat) : List UInt8 := (firstL N key nonce ((n + 31) / 32)).take n

theorem firstL_succ (N : Nat) (key nonce : List UInt8) (m : Nat) : firstL N key nonce (m + 1) = firstL N key nonce m ++ blockL N key nonce m := by
  unfold firstL
  rw [List.range_succ, List.map_append, List.flatten_append]; simp

theorem firstL_length (k : Nat) {key nonce : List UInt8} (hk : 600 ≤ k) (hl : key.length ≤ 30000) (hn : nonce.length ≤ 1000) : ∀ m, (firstL (k + 100) key nonce m).length = 32 * m
  | 0 => rfl
  | m + 1 => by rw [firstL_succ, List.length_append, firstL_length k hk hl hn m, blockL_length k m hk hl hn]; omega

theorem takeL_length (k : Nat) {key nonce : List UInt8} (n : Nat) (hk : 600 ≤ k) (hl : key.length ≤ 30000) (hn : nonce.length ≤ 1000) : (takeL (k + 100) key nonce n).length = n := by
  unfold takeL; rw [List.length_take, firstL_length k hk hl hn]; omega

/-! ## the program -/
theorem blocks_eq (k : Nat) {key nonce : List UInt8} {n : Nat} (hk : 600 ≤ k) (hl : key.length ≤ 30000) (hn : nonce.length ≤ 1000) (h : n ≤ 2000) : stream_blocks1 (k + 100) (n : Int) key nonce = some ((List.range ((n + 31) / 32)).map fun i => (blockL (k + 100) key nonce i, ())) := by
  have hq : IntKind.wrap .i64 (Int.tdiv (IntKind.wrap .i64 ((IntKind.wrap .i64 ((n : Int) + 32)) - 1)) 32) = (((n + 31) / 32 : Nat) : Int) := by
    rw [wrap_in (x := (n : Int) + 32) (by unfold I64; omega), wrap_in (x := (n : Int) + 32 - 1) (by unfold I64; omega), show (n : Int) + 32 - 1 = ((n + 31 : Nat) : Int) by omega]
    rw [show Int.tdiv ((n + 31 : Nat) : Int) 32 = (((n + 31) / 32 : Nat) : Int) from rfl, wrap_in (by unfold I64; omega)]
  unfold stream_blocks1 stream_blocks1_p1
  rw [hq]
  generalize hm : (n + 31) / 32 = m
  have hm2 : m ≤ 100 := by omega
  have main := iter_eq (step := fun (v : Int) r => stream_blocks1_s1 (k + 100) key nonce (m : Int) v (fun x10 => r x10) (some []) (some [])) (I := fun v => ∃ i : Nat, i ≤ m ∧ v = (i : Int)) (m := fun v => m - v.toNat) (R := fun v => some ((List.range' v.toNat (m - v.toNat)).map fun i => (blockL (k + 100) key nonce i, ()))) ?_ (k + 100) 0 ⟨0, by omega, rfl⟩ (by first | omega | (dsimp only; omega))
  · refine main.trans ?_
    try dsimp only
    rw [show (0 : Int).toNat = 0 from rfl, Nat.sub_zero, List.range_eq_range']
  rintro v r ⟨i, hi, rfl⟩ hr
  try dsimp only
  rw [Int.toNat_natCast] at hr ⊢
  unfold stream_blocks1_s1
  by_cases hlt : i < m
  · rw [cond_t (dec_t (by omega)), block_eq k hk hl hn (by omega), Option.bind_some, wrap_succ (by omega)]
    have h2 := hr ((i + 1 : Nat) : Int) ⟨i + 1, by omega, rfl⟩ (by first | omega | (dsimp only; omega))
    try dsimp only
    rw [h2, comb_some, Int.toNat_natCast, show m - i = (m - (i + 1)) + 1 by omega, List.range'_succ]
    rfl
  · rw [cond_f (dec_f (by omega)), show m - i = 0 by omega]; rfl

theorem foldB {N : Nat} (ys : List (List UInt8 × Unit)) (k0 : Unit × (List Int × Unit) → Option (List UInt8)) (h : ((ys.map (·.1)).flatten).length ≤ 70368744177664) :
    iterL (fun (y : (List UInt8 × Unit)) (v : (Unit × ((List Int) × Unit))) r => (strings_Builder_WriteString N v y.1).bind fun y1 => r y1.2.1) k0 ys ((), ([], ())) = k0 ((), (ofStr (ys.map (·.1)).flatten, ())) := by
  rw [iterL_ok (fun (v : Unit × (List Int × Unit)) (ys : List (List UInt8 × Unit)) => v.2.1.length + ((ys.map (·.1)).flatten).length ≤ 70368744177664) (fun v y => ((), (v.2.1 ++ ofStr y.1, ()))) (by
    rintro y ys ⟨u, xs, u'⟩ r hI
    cases u; cases u'
    simp only [List.map_cons, List.flatten_cons, List.length_append] at hI
    refine ⟨?_, by simp only [List.length_append, Go.Proofs.YtjnlgomdckihpaaDoorPx.ofStr_length]; omega⟩
    unfold strings_Builder_WriteString
    rw [cond_t (decide_eq_true (by rw [Go.Proofs.YtjnlgomdckihpaaDoorPx.ofStr_length]; dsimp only; omega)), Option.bind_some]) _ _ (by simpa using h)]
  have hf := fold_out ys []
  have h0 : ofStr ([] : List UInt8) = [] := rfl
  rw [h0] at hf
  rw [hf]; rfl

theorem str_eq (s : List UInt8) (h : s.length ≤ 70368744177664) : str_F (((), (ofStr s, ())), ()) = some (s, (((), ((), ())), ())) := by
  unfold str_F
  dsimp only
  rw [cond_t (by
    rw [Bool.and_eq_true]
    refine ⟨okB_ofStr _, decide_eq_true ?_⟩
    rw [Go.Proofs.YtjnlgomdckihpaaDoorPx.ofStr_length]
    exact Nat.le_trans h (by decide))]
  rw [Go.Proofs.YtjnlgomdckihpaaDoorPx.toStr_ofStr]

theorem take_eq (k : Nat) {key nonce : List UInt8} {n : Nat} (hk : 600 ≤ k) (hl : key.length ≤ 30000) (hn : nonce.length ≤ 1000) (h : n ≤ 2000) : stream_Take (k + 100) key nonce (n : Int) = some (takeL (k + 100) key nonce n) := by
  unfold stream_Take
  by_cases h0 : n < 1
  · rw [cond_t (dec_t (by omega)), show n = 0 by omega]; rfl
  rw [cond_f (dec_f (by omega)), if_neg (by omega)]
  unfold stream_Take_p1 stream_Take_fit1 stream_Take_s1
  rw [blocks_eq k hk hl hn h, Option.bind_some]
  have hfl := firstL_length k (key := key) (nonce := nonce) hk hl hn ((n + 31) / 32)
  have hmap : ((List.range ((n + 31) / 32)).map fun i => (blockL (k + 100) key nonce i, ())).map (·.1) = (List.range ((n + 31) / 32)).map (blockL (k + 100) key nonce) := by
    rw [List.map_map]; rfl
  unfold firstL at hfl
  rw [foldB (N := k + 100) _ _ (by rw [hmap, hfl]; omega), hmap]
  dsimp only
  rw [str_eq _ (by rw [hfl]; omega), Option.bind_some]
  rw [cond_t (dec_t (by rw [hfl]; omega)), Int.toNat_natCast, cut_take]
  rfl

theorem mix_eq (k : Nat) {key nonce text : List UInt8} (hk : 600 ≤ k) (hl : key.length ≤ 30000) (hn : nonce.length ≤ 1000) (h : text.length ≤ 2000) (hkt : text.length < k) : stream_Mix (k + 100) key nonce text = some (xorL text (takeL (k + 100) key nonce text.length)) := by
  unfold stream_Mix
  rw [cond_f (dec_f (by omega)), take_eq k hk hl hn h, Option.bind_some, xor_eq _ (by omega) (by omega)]; rfl

/-! ## the reference -/
/-! ## the laws -/end Go.Proofs.YtjnlgomdckihpaaDoorLg

/- Layer 6: boxes. -/
set_option linter.all false
set_option maxRecDepth 100000
namespace Go.Proofs.YtjnlgomdckihpaaDoorLg
open Go Go.Lift Go.Proofs.YtjnlgomdckihpaaDoorPx

/-! ## which texts clash -/
/-! ## boxes -/
noncomputable def hideK (N : Nat) (key : List UInt8) : List UInt8 := tagL N key (frameL [[104, 105, 100, 101]])
noncomputable def tagK (N : Nat) (key : List UInt8) : List UInt8 := tagL N key (frameL [[116, 97, 103]])
noncomputable def boxTag (N : Nat) (key body : List UInt8) : List UInt8 := tagL N (tagK N key) body
noncomputable def hidden (N : Nat) (key nonce text : List UInt8) : List UInt8 := xorL text (takeL N (hideK N key) nonce text.length)
noncomputable def bodyL (N : Nat) (key nonce text : List UInt8) : List UInt8 := nonce ++ hidden N key nonce text
noncomputable def sealL (N : Nat) (key nonce text : List UInt8) : List UInt8 := bodyL N key nonce text ++ boxTag N key (bodyL N key nonce text)

theorem hideFrame : (frameL [[104, 105, 100, 101]]).length = 12 := by rw [frameL_length]; rfl
theorem tagFrame : (frameL [[116, 97, 103]]).length = 11 := by rw [frameL_length]; rfl

theorem hideK_length (k : Nat) {key : List UInt8} (hk : 600 ≤ k) (hl : key.length ≤ 30000) : (hideK (k + 100) key).length = 32 := tagL_length k hk hl (by rw [hideFrame]; omega)
theorem tagK_length (k : Nat) {key : List UInt8} (hk : 600 ≤ k) (hl : key.length ≤ 30000) : (tagK (k + 100) key).length = 32 := tagL_length k hk hl (by rw [tagFrame]; omega)
theorem boxTag_length (k : Nat) {key body : List UInt8} (hk : 600 ≤ k) (hl : key.length ≤ 30000) (hb : body.length ≤ 29900) : (boxTag (k + 100) key body).length = 32 := tagL_length k hk (by rw [tagK_length k hk hl]; omega) hb
theorem hidden_length (k : Nat) {key nonce text : List UInt8} (hk : 600 ≤ k) (hl : key.length ≤ 30000) (hn : nonce.length ≤ 1000) : (hidden (k + 100) key nonce text).length = text.length := by
  unfold hidden; rw [xorL_length, takeL_length k _ hk (by rw [hideK_length k hk hl]; omega) hn, Nat.min_self]
theorem hidden_back (k : Nat) {key nonce text : List UInt8} (hk : 600 ≤ k) (hl : key.length ≤ 30000) (hn : nonce.length ≤ 1000) : hidden (k + 100) key nonce (hidden (k + 100) key nonce text) = text := by
  have h := hidden_length k (text := text) hk hl hn
  have ht := takeL_length k (key := hideK (k + 100) key) (nonce := nonce) text.length hk (by rw [hideK_length k hk hl]; omega) hn
  show xorL (hidden (k + 100) key nonce text) (takeL (k + 100) (hideK (k + 100) key) nonce (hidden (k + 100) key nonce text).length) = text
  rw [h]
  unfold hidden
  rw [xorL_back, ht, Nat.min_self, List.take_length]
theorem bodyL_length (k : Nat) {key nonce text : List UInt8} (hk : 600 ≤ k) (hl : key.length ≤ 30000) (hn : nonce.length = 16) : (bodyL (k + 100) key nonce text).length = 16 + text.length := by
  unfold bodyL; rw [List.length_append, hidden_length k hk hl (by omega), hn]
theorem sealL_length (k : Nat) {key nonce text : List UInt8} (hk : 600 ≤ k) (hl : key.length ≤ 30000) (hn : nonce.length = 16) (ht : text.length ≤ 2000) : (sealL (k + 100) key nonce text).length = 48 + text.length := by
  unfold sealL; rw [List.length_append, bodyL_length k hk hl hn, boxTag_length k hk hl (by rw [bodyL_length k hk hl hn]; omega)]; omega

theorem hideKey_eq (k : Nat) {key : List UInt8} (hk : 600 ≤ k) (hl : key.length ≤ 30000) : box_hideKey (k + 100) key = some (hideK (k + 100) key) := by
  unfold box_hideKey
  rw [parts_eq k hk hl (by simp) (by rw [hideFrame]; omega)]; rfl
theorem boxTag_eq (k : Nat) {key body : List UInt8} (hk : 600 ≤ k) (hl : key.length ≤ 30000) (hb : body.length ≤ 29900) : box_tag (k + 100) key body = some (boxTag (k + 100) key body) := by
  unfold box_tag
  rw [parts_eq k hk hl (by simp) (by rw [tagFrame]; omega), Option.bind_some, tag_eq k hk (by have := tagK_length k hk hl; unfold tagK at this; rw [this]; omega) hb]; rfl

theorem seal_eq (k : Nat) {key nonce text : List UInt8} (hk : 2200 ≤ k) (hl : key.length ≤ 30000) (hn : nonce.length = 16) (ht : text.length ≤ 2000) : box_Seal (k + 100) key nonce text = some (sealL (k + 100) key nonce text, 0, ()) := by
  have h1 := hidden_length k (key := key) (nonce := nonce) (text := text) (by omega) hl (by omega)
  have h2 := bodyL_length k (key := key) (nonce := nonce) (text := text) (by omega) hl hn
  have h3 := boxTag_length k (key := key) (body := bodyL (k + 100) key nonce text) (by omega) hl (by omega)
  unfold box_Seal
  rw [cond_f (by simp [hn]), cond_f (dec_f (by omega)), hideKey_eq k (by omega) hl, Option.bind_some, mix_eq k (by omega) (by rw [hideK_length k (by omega) hl]; omega) (by omega) ht (by omega), Option.bind_some]
  show cond (decide (nonce.length + (hidden (k + 100) key nonce text).length ≤ 9223372036854775807)) ((box_tag (k + 100) key (bodyL (k + 100) key nonce text)).bind fun y2 => cond (decide ((bodyL (k + 100) key nonce text).length + y2.length ≤ 9223372036854775807)) (some ((bodyL (k + 100) key nonce text) ++ y2, ((0 : Int), ()))) none) none = _
  rw [cond_t (dec_t (by omega)), boxTag_eq k (by omega) hl (by omega), Option.bind_some, cond_t (dec_t (by omega))]
  rfl

/-- is the end the tag of what is ahead of it -/
noncomputable def fits (N : Nat) (key s : List UInt8) : Bool := s.drop (s.length - 32) == boxTag N key (s.take (s.length - 32))
noncomputable def openT (N : Nat) (key s : List UInt8) : List UInt8 := hidden N key (s.take 16) ((s.take (s.length - 32)).drop 16)

theorem wlen {s : List UInt8} (h : 48 ≤ s.length) (h2 : s.length ≤ 5000) : IntKind.wrap .i64 ((s.length : Int) - 32) = ((s.length - 32 : Nat) : Int) := by
  rw [wrap_in (by unfold I64; omega)]; omega

theorem check_eq (k : Nat) {key s : List UInt8} (hk : 2200 ≤ k) (hl : key.length ≤ 30000) (h1 : 48 ≤ s.length) (h2 : s.length ≤ 4144) : box_check (k + 100) key s = some (cond (fits (k + 100) key s) 0 8) := by
  have hd : (s.drop (s.length - 32)).length = 32 := by rw [List.length_drop]; omega
  unfold box_check
  rw [cond_f (dec_f (by omega)), cond_f (dec_f (by omega)), wlen h1 (by omega), cond_t (dec_t (by omega)), cond_t (dec_t (by omega)), Int.toNat_natCast, cut_take, boxTag_eq k (by omega) hl (by rw [List.length_take]; omega), Option.bind_some, cut_all, same_eq _ (by omega) (by omega), Option.bind_some, hd]
  show cond (!(decide ((32 : Nat) = 32) && fits (k + 100) key s)) (some 8) (some 0) = _
  cases fits (k + 100) key s <;> rfl

theorem open_eq (k : Nat) {key s : List UInt8} (hk : 2200 ≤ k) (hl : key.length ≤ 30000) (h1 : 48 ≤ s.length) (h2 : s.length ≤ 2000) : box_Open (k + 100) key s = some (cond (fits (k + 100) key s) (openT (k + 100) key s, 0, ()) ([], 8, ())) := by
  unfold box_Open
  rw [check_eq k hk hl h1 (by omega), Option.bind_some]
  cases hf : fits (k + 100) key s with
  | false => rfl
  | true =>
    have hm : (cut s 16 (s.length - 32)).length ≤ 2000 := by unfold cut; rw [List.length_drop, List.length_take]; omega
    unfold box_Open1
    rw [show cond true (0 : Int) 8 = 0 from rfl, cond_t (by rfl), hideKey_eq k (by omega) hl, Option.bind_some]
    have hn : box_Nonce (k + 100) s = some (s.take 16) := by
      unfold box_Nonce
      rw [cond_f (dec_f (by omega)), cond_t (dec_t (by omega)), cut_take]
    rw [hn, Option.bind_some, wlen h1 (by omega), cond_t (dec_t (by omega)), cond_t (dec_t (by omega)), Int.toNat_natCast, mix_eq k (by omega) (by rw [hideK_length k (by omega) hl]; omega) (by rw [List.length_take]; omega) hm (by omega), Option.bind_some, Option.bind_some]
    rfl

/-! ## the laws -/
end Go.Proofs.YtjnlgomdckihpaaDoorLg

/- Layer 34: chains of tags. -/
set_option linter.all false
set_option maxRecDepth 100000
namespace Go.Proofs.YtjnlgomdckihpaaDoorLg
open Go Go.Lift Go.Proofs.YtjnlgomdckihpaaDoorPx

abbrev Lk : Type := List UInt8 × List UInt8 × Unit
abbrev Tk : Type := List UInt8 × List Lk × List UInt8 × Unit

def partsOf (l : Lk) : List (List UInt8) := cond (l.2.1 == ([] : List UInt8)) [[102, 105, 114, 115, 116], l.1] [[116, 104, 105, 114, 100], l.2.1, l.1]
def rootParts (id : List UInt8) : List (List UInt8) := [[114, 111, 111, 116], id]
noncomputable def nextT (N : Nat) (t : List UInt8) (l : Lk) : List UInt8 := tagL N t (frameL (partsOf l))
noncomputable def rootT (N : Nat) (key id : List UInt8) : List UInt8 := tagL N key (frameL (rootParts id))
noncomputable def lastT (N : Nat) (t : List UInt8) (ls : List Lk) : List UInt8 := ls.foldl (nextT N) t
noncomputable def tagsT (N : Nat) : List UInt8 → List Lk → List (List UInt8)
  | t, [] => [t]
  | t, l :: ls => t :: tagsT N (nextT N t l) ls

def small (l : Lk) : Prop := l.1.length ≤ 4200 ∧ l.2.1.length ≤ 4200

theorem parts_length {l : Lk} (h : small l) : (frameL (partsOf l)).length ≤ 8500 ∧ (partsOf l).length ≤ 3 := by
  unfold small at h
  unfold partsOf
  cases l.2.1 == ([] : List UInt8) with
  | true => rw [cond_true, frameL_length]; simp; omega
  | false => rw [cond_false, frameL_length]; simp; omega

theorem root_length {id : List UInt8} : (frameL (rootParts id)).length = 20 + id.length := by
  rw [frameL_length]; simp [rootParts]; omega

theorem nextT_length (k : Nat) {t : List UInt8} {l : Lk} (hk : 600 ≤ k) (ht : t.length ≤ 30000) (hl : small l) : (nextT (k + 100) t l).length = 32 := by
  have := parts_length hl
  exact tagL_length k hk ht (by omega)

theorem lastT_nil (N : Nat) (t : List UInt8) : lastT N t [] = t := rfl
theorem lastT_cons (N : Nat) (t : List UInt8) (l : Lk) (ls : List Lk) : lastT N t (l :: ls) = lastT N (nextT N t l) ls := rfl
/-! ## the program -/
theorem root_eq (k : Nat) {key id : List UInt8} (hk : 600 ≤ k) (hl : key.length ≤ 30000) (hi : id.length ≤ 8000) : chain_Root (k + 100) key id = some (rootT (k + 100) key id) := by
  unfold chain_Root
  rw [show hmac_Parts (k + 100) key [[114, 111, 111, 116], id] = some (rootT (k + 100) key id) from parts_eq k (l := rootParts id) hk hl (by simp [rootParts]) (by rw [root_length]; omega)]
  rfl

theorem next_eq (k : Nat) {t : List UInt8} {l : Lk} (hk : 600 ≤ k) (ht : t.length ≤ 30000) (hl : small l) : chain_tag_next (k + 100) t l = some (nextT (k + 100) t l) := by
  have hp := parts_length hl
  unfold chain_tag_next
  have h := parts_eq k (key := t) (l := partsOf l) hk ht (by omega) (by omega)
  unfold nextT
  unfold partsOf at h ⊢
  cases hc : l.2.1 == ([] : List UInt8) with
  | true => rw [hc, cond_true] at h; rw [cond_true, cond_true, h]; rfl
  | false => rw [hc, cond_false] at h; rw [cond_false, cond_false, h]; rfl

theorem along_eq (k : Nat) {t : List UInt8} {ls : List Lk} (hk : 600 ≤ k) (ht : t.length = 32) (hn : ls.length ≤ 500) (hl : ∀ l ∈ ls, small l) : chain_along1 (k + 100) t ls () = some ((tagsT (k + 100) t ls).map fun x => (x, ())) := by
  have key : ∀ (d i : Nat) (u : List UInt8), i + d = ls.length → u.length = 32 → ∀ n, d < n →
      iter (fun (v : List UInt8 × Int) r => chain_along1_s1 (k + 100) () ls ((ls.length : Nat) : Int) v.1 v.2 (fun t x15 => r (t, x15)) (some []) (some [])) n (u, (i : Int)) = some ((tagsT (k + 100) u (ls.drop i)).tail.map fun x => (x, ())) := by
    intro d
    induction d with
    | zero =>
      intro i u hi hu n hn
      obtain ⟨n, rfl⟩ : ∃ m, n = m + 1 := ⟨n - 1, by omega⟩
      simp only [iter]
      unfold chain_along1_s1
      rw [cond_f (dec_f (by omega)), drop_nil' ls (by omega)]; rfl
    | succ d ih =>
      intro i u hi hu n hn
      obtain ⟨n, rfl⟩ : ∃ m, n = m + 1 := ⟨n - 1, by omega⟩
      have hlt : i < ls.length := by omega
      have hs := hl _ (getD_mem ls ([], [], ()) i hlt)
      have h2 := ih (i + 1) (nextT (k + 100) u (ls.getD i ([], [], ()))) (by omega) (nextT_length k hk (by omega) hs) n (by omega)
      simp only [iter]
      unfold chain_along1_s1 at h2 ⊢
      rw [cond_t (dec_t (by omega)), cond_t (inR_nat hlt), Int.toNat_natCast, next_eq k hk (by omega) hs, Option.bind_some, wrap_succ (by omega)]
      dsimp only
      rw [h2, comb_some, drop_cons ls ([], [], ()) i hlt]
      cases hd : ls.drop (i + 1) <;> rfl
  unfold chain_along1 chain_along1_p1
  rw [show (0 : Int) = ((0 : Nat) : Int) from rfl, key ls.length 0 t (by omega) ht (k + 100) (by omega), comb_some, List.drop_zero]
  cases ls <;> rfl

theorem last_eq (k : Nat) {key : List UInt8} {t : Tk} (hk : 600 ≤ k) (hl : key.length ≤ 30000) (hi : t.1.length ≤ 8000) (hn : t.2.1.length ≤ 100) (hs : ∀ l ∈ t.2.1, small l) : chain_Last (k + 100) key t = some (lastT (k + 100) (rootT (k + 100) key t.1) t.2.1) := by
  have hr : (rootT (k + 100) key t.1).length = 32 := tagL_length k (key := key) (text := frameL (rootParts t.1)) hk hl (by rw [root_length]; omega)
  unfold chain_Last
  rw [root_eq k hk hl hi, Option.bind_some]
  unfold chain_Last_p1 chain_Last_fit1
  dsimp only
  rw [along_eq k hk hr (by omega) hs, Option.bind_some]
  rw [iterL_ok (step := fun (y : List UInt8 × Unit) (v : List UInt8) r => chain_Last_s1 (k + 100) v y (fun last_1 => r last_1) fun last_1 => some last_1) (fin := fun v => some v) (fun _ _ => True) (fun v y => y.1) (fun y ys v r _ => ⟨rfl, trivial⟩) _ _ trivial]
  have : ∀ (ls : List Lk) (u a : List UInt8), ((tagsT (k + 100) u ls).map fun x => (x, ())).foldl (fun v (y : List UInt8 × Unit) => y.1) a = lastT (k + 100) u ls := by
    intro ls
    induction ls with
    | nil => intro u a; rfl
    | cons l ls ih => intro u a; rw [tagsT, List.map_cons, List.foldl_cons, ih]; rfl
  rw [this]

/-! ## the reference -/
/-! ## unlike tokens -/
def Clashes (N : Nat) (A B : List (List UInt8)) : Prop := ∃ p ∈ A, ∃ q ∈ B, p ≠ q ∧ sumL N p = sumL N q

theorem Clashes.mono {N : Nat} {A B A' B' : List (List UInt8)} (hA : ∀ p ∈ A, p ∈ A') (hB : ∀ p ∈ B, p ∈ B') : Clashes N A B → Clashes N A' B'
  | ⟨p, hp, q, hq, h⟩ => ⟨p, hA p hp, q, hB q hq, h⟩
end Go.Proofs.YtjnlgomdckihpaaDoorLg

/- Layer 35: adding, beside the document's. -/
set_option linter.all false
set_option maxRecDepth 100000
namespace Go.Proofs.YtjnlgomdckihpaaDoorLg
open Go Go.Lift Go.Proofs.YtjnlgomdckihpaaDoorPx

theorem clone_eq (N : Nat) {t : Tk} (h : t.2.1.length ≤ 1000) : holder_clone N t = some t := by
  obtain ⟨i, l, g, u⟩ := t
  cases u
  unfold holder_clone clone_link
  rw [show decide (List.length (i, l, g, ()).2.1 * 32 ≤ 140737488355328) = true from decide_eq_true (by simp only at h ⊢; omega)]
  rfl

noncomputable def withT (N : Nat) (t : Tk) (l : Lk) : Tk := (t.1, t.2.1 ++ [l], nextT N t.2.2.1 l, ())
def zeroT : Tk := ([], [], [], ())
theorem chainNext_eq (k : Nat) {t : List UInt8} {l : Lk} (hk : 600 ≤ k) (ht : t.length ≤ 30000) (hl : small l) : chain_Next (k + 100) t l = some (nextT (k + 100) t l) := by
  rw [chain_Next, next_eq k hk ht hl]; rfl

theorem token_eq (k : Nat) {t : Tk} {l : Lk} (hk : 600 ≤ k) (hn : t.2.1.length ≤ 100) (ht : t.2.2.1.length ≤ 30000) (hl : small l) : holder_addition_token (k + 100) (l, (t, ())) = some (withT (k + 100) t l) := by
  rw [holder_addition_token, show (l, (t, ())).2.1 = t from rfl, clone_eq (k + 100) (by omega), Option.bind_some, cond_t (decide_eq_true (by omega)), chainNext_eq k hk ht hl]
  rfl

noncomputable def addR (N : Nat) (t : Tk) (text : List UInt8) : Tk × Int × Unit := if 64 ≤ t.2.1.length ∨ 2048 < text.length then (zeroT, 3, ()) else (withT N t (text, [], ()), 0, ())

theorem add_pre1 {N : Nat} {t : Tk} {text : List UInt8} :
    holder_Add N t text = (if 64 ≤ t.2.1.length ∨ 2048 < text.length then some (zeroT, 3, ()) else (holder_addition_token N ((text, [], ()), t, ())).bind fun y2 => some (y2, 0, ())) := by
  simp only [holder_Add, holder_Add_p1, holder_Add_p2]
  by_cases h1 : 64 ≤ t.2.1.length
  · rw [if_pos (.inl h1), show decide ((64 : Int) ≤ ((t.2.1.length : Nat) : Int)) = true from decide_eq_true (by omega)]; rfl
  · rw [show decide ((64 : Int) ≤ ((t.2.1.length : Nat) : Int)) = false from decide_eq_false (by omega)]
    by_cases h2 : 2048 < text.length
    · rw [if_pos (.inr h2), show decide ((2048 : Int) < ((text.length : Nat) : Int)) = true from decide_eq_true (by omega)]; rfl
    · rw [if_neg (by omega), show decide ((2048 : Int) < ((text.length : Nat) : Int)) = false from decide_eq_false (by omega)]; rfl

theorem hadd1_eq (k : Nat) {t : Tk} {text : List UInt8} (hk : 600 ≤ k) (hn : t.2.1.length ≤ 100) (ht : t.2.2.1.length ≤ 30000) : holder_Add (k + 100) t text = some (addR (k + 100) t text) := by
  unfold addR
  rw [add_pre1]
  by_cases h : 64 ≤ t.2.1.length ∨ 2048 < text.length
  · rw [if_pos h, if_pos h]
  · have hs : small (text, [], ()) := ⟨by simp only; omega, by simp⟩
    rw [if_neg h, if_neg h, token_eq k hk hn ht hs]; rfl
end Go.Proofs.YtjnlgomdckihpaaDoorLg

/- Lists of short texts. -/
set_option linter.all false
namespace Go.Proofs.YtjnlgomdckihpaaDoorLg
open Go Go.Lift Go.Proofs.YtjnlgomdckihpaaDoorPx

theorem short_eq (N : Nat) {l : List (List UInt8)} {many most : Nat} (hm : many ≤ 1000) (hmo : most ≤ 1000000) (hN : many < N) : porterbase_Short N l (many : Int) (most : Int) = some (decide (l.length ≤ many ∧ l.flatten.length ≤ most)) := by
  simp only [porterbase_Short, porterbase_Short_p1]
  by_cases h : many < l.length
  · rw [cond_t (dec_t (by omega)), decide_eq_false (by omega)]
  rw [cond_f (dec_f (by omega)), iter_eq (I := fun (v : Int × Int) => ∃ (x i : Nat), v = ((x : Int), (i : Int)) ∧ i ≤ l.length ∧ x ≤ most) (m := fun (v : Int × Int) => l.length - v.2.toNat) (R := fun (v : Int × Int) => some (decide ((l.drop v.2.toNat).flatten.length ≤ v.1.toNat))) ?_ N ((most : Int), 0) ⟨most, 0, rfl, by omega, by omega⟩ (by simp; omega)]
  · simp only [Int.toNat_zero, List.drop_zero, Int.toNat_natCast]
    congr 1; rw [Bool.eq_iff_iff, decide_eq_true_eq, decide_eq_true_eq]; omega
  rintro v r ⟨x, i, rfl, hi, hx⟩ hr
  simp only [porterbase_Short_s1, Int.toNat_natCast] at *
  by_cases hlt : i < l.length
  · have hd := drop_cons l [] i hlt
    have hfl : (l.drop i).flatten.length = (l.getD i []).length + (l.drop (i + 1)).flatten.length := by rw [hd, List.flatten_cons, List.length_append]
    rw [cond_t (dec_t (by omega)), cond_t (inR_nat hlt), cond_t (inR_nat hlt)]
    by_cases hover : x < (l.getD i []).length
    · rw [cond_t (dec_t (by omega))]
      exact congrArg some (decide_eq_false (by omega)).symm
    · have hw : IntKind.wrap .i64 ((x : Int) - (((l.getD i []).length : Nat) : Int)) = ((x - (l.getD i []).length : Nat) : Int) := by rw [wrap_in (by unfold I64; omega)]; omega
      rw [cond_f (dec_f (by omega)), hw, wrap_succ (by omega), hr _ ⟨x - (l.getD i []).length, i + 1, rfl, by omega, by omega⟩ (by dsimp only; omega)]
      dsimp only
      rw [Int.toNat_natCast, Int.toNat_natCast]
      congr 1; rw [Bool.eq_iff_iff, decide_eq_true_eq, decide_eq_true_eq]; omega
  · have hfl : (l.drop i).flatten.length = 0 := by rw [drop_nil' l (by omega)]; rfl
    rw [cond_f (dec_f (by omega))]
    exact congrArg some (decide_eq_true (by omega)).symm


end Go.Proofs.YtjnlgomdckihpaaDoorLg

/- Layer 6: the laws on opening. -/
set_option linter.all false
set_option maxRecDepth 100000
namespace Go.Proofs.YtjnlgomdckihpaaDoorLg
open Go Go.Lift Go.Proofs.YtjnlgomdckihpaaDoorPx

theorem fits_seal (k : Nat) {key nonce text : List UInt8} (hk : 2200 ≤ k) (hl : key.length ≤ 30000) (hn : nonce.length = 16) (ht : text.length ≤ 1900) :
    fits (k + 100) key (sealL (k + 100) key nonce text) = true ∧ openT (k + 100) key (sealL (k + 100) key nonce text) = text := by
  have h1 := bodyL_length k (key := key) (nonce := nonce) (text := text) (by omega) hl hn
  have h2 := sealL_length k (key := key) (nonce := nonce) (text := text) (by omega) hl hn (by omega)
  have e1 : (sealL (k + 100) key nonce text).take ((sealL (k + 100) key nonce text).length - 32) = bodyL (k + 100) key nonce text := by
    rw [h2]
    unfold sealL
    rw [List.take_append_of_le_length (by omega), List.take_of_length_le (by omega)]
  have e2 : (sealL (k + 100) key nonce text).drop ((sealL (k + 100) key nonce text).length - 32) = boxTag (k + 100) key (bodyL (k + 100) key nonce text) := by
    rw [h2]
    unfold sealL
    rw [List.drop_append_of_le_length (by omega), List.drop_of_length_le (by omega)]; rfl
  have e3 : (sealL (k + 100) key nonce text).take 16 = nonce := by
    unfold sealL bodyL
    rw [List.append_assoc, List.take_append_of_le_length (by omega), List.take_of_length_le (by omega)]
  constructor
  · unfold fits
    rw [e1, e2, beq_self_eq_true]
  · unfold openT
    rw [e1, e3]
    have : (bodyL (k + 100) key nonce text).drop 16 = hidden (k + 100) key nonce text := by
      unfold bodyL
      rw [List.drop_append_of_le_length (by omega), List.drop_of_length_le (by omega)]; rfl
    rw [this, hidden_back k (by omega) hl (by omega)]
end Go.Proofs.YtjnlgomdckihpaaDoorLg

/- Layer 4: frames are split again: the program and the reference. -/
set_option linter.all false
set_option maxRecDepth 100000
namespace Go.Proofs.YtjnlgomdckihpaaDoorLg
open Go Go.Lift Go.Proofs.YtjnlgomdckihpaaDoorPx

/-! ## the program -/
theorem or8 {n b : Nat} (hn : n < 72057594037927936) (hb : b < 256) : bitsOp .or .u64 (shlI .u64 (n : Int) 8) (IntKind.wrap .u64 (b : Int)) = ((n * 256 + b : Nat) : Int) := by
  have hwu : ∀ x : Nat, x < 18446744073709551616 → IntKind.wrap .u64 (x : Int) = (x : Int) := by
    intro x hx
    show (x : Int) % 18446744073709551616 = _
    omega
  have h1 : shlI .u64 (n : Int) 8 = ((n * 256 : Nat) : Int) := by
    unfold shlI
    rw [show (min (8 : Int).toNat (IntKind.bits .u64)) = 8 from rfl, show (n : Int) * 2 ^ 8 = ((n * 256 : Nat) : Int) by omega, hwu _ (by omega)]
  rw [h1, hwu b (by omega)]
  unfold bitsOp
  dsimp only
  rw [BitVec.ofInt_natCast, BitVec.ofInt_natCast, BitVec.toNat_or, BitVec.toNat_ofNat, BitVec.toNat_ofNat, Nat.mod_eq_of_lt (show n * 256 < 2 ^ (IntKind.bits .u64) from by show n * 256 < 18446744073709551616; omega), Nat.mod_eq_of_lt (show b < 2 ^ (IntKind.bits .u64) from by show b < 18446744073709551616; omega)]
  rw [show n * 256 = n <<< 8 by rw [Nat.shiftLeft_eq], ← Nat.shiftLeft_add_eq_or_of_lt (show b < 2 ^ 8 by omega), Nat.shiftLeft_eq, hwu _ (by omega)]

theorem cutLoop {N : Nat} {s : List UInt8} (hs : 8 ≤ s.length) (hN : 8 < N) (k0 : Int → Option (List UInt8 × List UInt8 × Bool × Unit)) : hmac_cut_p1 N s 0 0 k0 = k0 ((valB (s.take 8) 0 : Nat) : Int) := by
  unfold hmac_cut_p1
  rw [iter_eq (I := fun (v : Int × Int) => ∃ i : Nat, i ≤ 8 ∧ v = (((valB (s.take i) 0 : Nat) : Int), (i : Int))) (m := fun v => 8 - v.2.toNat) (R := fun _ => k0 ((valB (s.take 8) 0 : Nat) : Int)) ?_ N (0, 0) ⟨0, by omega, rfl⟩ (by dsimp only; omega)]
  rintro v r ⟨i, hi, rfl⟩ hr
  dsimp only at hr ⊢
  unfold hmac_cut_s1
  by_cases h : i < 8
  · have hp : 256 ^ i ≤ 256 ^ 7 := Nat.pow_le_pow_right (by omega) (by omega)
    have hv := valB_lt i s (by omega)
    rw [cond_t (dec_t (by omega)), cond_t (inR_nat (by omega)), Int.toNat_natCast, or8 (by omega) (u8_lt _), wrap_succ (by omega), ← valB_take (by omega)]
    exact hr _ ⟨i + 1, by omega, rfl⟩ (by dsimp only; omega)
  · rw [cond_f (dec_f (by omega)), show i = 8 by omega]

def cutV : Option (List UInt8 × List UInt8) → List UInt8 × List UInt8 × Bool × Unit
  | none => ([], [], false, ())
  | some (a, b) => (a, b, true, ())

theorem cut_eq {N : Nat} {s : List UInt8} (hs : s.length ≤ 9223372036854775800) (hN : 8 < N) : hmac_cut N s = some (cutV (cutR s)) := by
  unfold hmac_cut cutR
  by_cases h : s.length < 8
  · rw [cond_t (dec_t (by omega)), if_pos h]; rfl
  rw [cond_f (dec_f (by omega)), if_neg h, cutLoop (by omega) hN, cond_t (dec_t (by omega)), cut_all, List.length_drop]
  have hv : valB (s.take 8) 0 < 18446744073709551616 := valB_lt 8 s (by omega)
  have hw : IntKind.wrap .u64 (((s.length - 8 : Nat)) : Int) = ((s.length - 8 : Nat) : Int) := by
    show ((s.length - 8 : Nat) : Int) % 18446744073709551616 = _
    omega
  rw [hw]
  by_cases h2 : s.length - 8 < valB (s.take 8) 0
  · rw [cond_t (dec_t (by omega)), if_pos h2]; rfl
  rw [cond_f (dec_f (by omega)), if_neg h2, cond_t (dec_t (by omega)), cond_t (dec_t (by omega)), Int.toNat_natCast, cut_take, show s.length - 8 = (s.drop 8).length by rw [List.length_drop], cut_all]
  rfl

theorem items_eq {N : Nat} {s : List UInt8} (hs : s.length ≤ 9223372036854775800) (hN : s.length + 9 < N) : hmac_split1 N s = some (itemsR s.length s) := by
  unfold hmac_split1 hmac_split1_p1
  refine iter_eq (I := fun (v : List UInt8) => v.length ≤ s.length) (m := fun v => v.length) (R := fun v => some (itemsR v.length v)) ?_ N s (Nat.le_refl _) (by omega)
  intro v r hv hr
  unfold hmac_split1_s1
  by_cases e : v = []
  · subst e; rfl
  have e' : (!(v == ([] : List UInt8))) = true := by simpa using e
  rw [cond_t e', cut_eq (by omega) (by omega), Option.bind_some]
  have hp : 0 < v.length := List.length_pos_iff.2 e
  obtain ⟨n, hn⟩ : ∃ n, v.length = n + 1 := ⟨v.length - 1, by omega⟩
  cases hc : cutR v with
  | none => rw [hn, itemsR, if_neg e, hc]; rfl
  | some p =>
    obtain ⟨a, b⟩ := p
    have hb := cutR_less hc
    have h2 := hr b (by omega) hb
    rw [hn, itemsR, if_neg e, hc]
    show comb (a, true, ()) (r b) (some []) = some ((a, true, ()) :: itemsR n b)
    rw [h2, comb_some, itemsR_fuel n b.length b (by omega) (by omega)]

def splitV : Option (List (List UInt8)) → List (List UInt8) × Bool × Unit
  | none => ([], false, ())
  | some l => (l, true, ())

theorem collect : ∀ (n : Nat) (s : List UInt8) (acc : List (List UInt8)) (f : List (List UInt8) → Option (List (List UInt8) × Bool × Unit)) (N : Nat), s.length ≤ n → acc.length + s.length ≤ 100000 →
    iterL (fun (y : (List UInt8 × Bool × Unit)) (v : List (List UInt8)) r => hmac_Split_s1 N [] false v y (fun parts_1 => r parts_1) (fun x2 x3 parts => some (x2, (x3, ()))) f) f (itemsR n s) acc =
      match splitR n s with
      | none => some ([], false, ())
      | some l => f (acc ++ l)
  | 0, s, acc, f, N, h, _ => by
    have : s = [] := List.length_eq_zero_iff.1 (by omega)
    subst this
    simp [itemsR, splitR, iterL]
  | n + 1, s, acc, f, N, h, hb => by
    unfold itemsR splitR
    by_cases e : s = []
    · rw [if_pos e, if_pos e]; simp [iterL]
    rw [if_neg e, if_neg e]
    cases hc : cutR s with
    | none => rfl
    | some p =>
      obtain ⟨a, b⟩ := p
      have hl := cutR_less hc
      dsimp only
      rw [iterL]
      unfold hmac_Split_s1
      dsimp only
      rw [Bool.not_true, cond_false, cond_t (dec_t (by omega))]
      have := collect n b (acc ++ [a]) f N (by omega) (by rw [List.length_append, List.length_singleton]; omega)
      unfold hmac_Split_s1 at this
      rw [this]
      cases splitR n b with
      | none => rfl
      | some l => simp

/-- the program's Split -/
theorem split_eq {N : Nat} {s : List UInt8} (hs : s.length ≤ 100000) (hN : s.length + 9 < N) : hmac_Split N s = some (splitV (splitL s)) := by
  unfold hmac_Split hmac_Split_p1 hmac_Split_fit1
  rw [items_eq (by omega) hN, Option.bind_some, collect s.length s [] _ N (Nat.le_refl _) (by simpa using hs)]
  cases h : splitL s with
  | none => rw [show splitR s.length s = none from h]; rfl
  | some l => rw [show splitR s.length s = some l from h]; rfl

/-! ## the reference -/end Go.Proofs.YtjnlgomdckihpaaDoorLg

/- Layer 36: the example's box, and that another notary's tag is another. -/
set_option linter.all false
set_option maxRecDepth 100000
namespace Go.Proofs.YtjnlgomdckihpaaDoorLg
open Go Go.Lift
theorem hide36 (k : Nat) : box_hideKey (k + 2300) [(110 : UInt8)] = some [(20 : UInt8), (56 : UInt8), (203 : UInt8), (5 : UInt8), (203 : UInt8), (184 : UInt8), (145 : UInt8), (42 : UInt8), (0 : UInt8), (215 : UInt8), (76 : UInt8), (156 : UInt8), (173 : UInt8), (41 : UInt8), (217 : UInt8), (136 : UInt8), (99 : UInt8), (241 : UInt8), (56 : UInt8), (177 : UInt8), (107 : UInt8), (155 : UInt8), (46 : UInt8), (12 : UInt8), (124 : UInt8), (2 : UInt8), (133 : UInt8), (116 : UInt8), (32 : UInt8), (109 : UInt8), (81 : UInt8), (194 : UInt8)] := by kernel_rfl
theorem mix36 (k : Nat) : stream_Mix (k + 2300) [(20 : UInt8), (56 : UInt8), (203 : UInt8), (5 : UInt8), (203 : UInt8), (184 : UInt8), (145 : UInt8), (42 : UInt8), (0 : UInt8), (215 : UInt8), (76 : UInt8), (156 : UInt8), (173 : UInt8), (41 : UInt8), (217 : UInt8), (136 : UInt8), (99 : UInt8), (241 : UInt8), (56 : UInt8), (177 : UInt8), (107 : UInt8), (155 : UInt8), (46 : UInt8), (12 : UInt8), (124 : UInt8), (2 : UInt8), (133 : UInt8), (116 : UInt8), (32 : UInt8), (109 : UInt8), (81 : UInt8), (194 : UInt8)] [(48 : UInt8), (49 : UInt8), (50 : UInt8), (51 : UInt8), (52 : UInt8), (53 : UInt8), (54 : UInt8), (55 : UInt8), (56 : UInt8), (57 : UInt8), (97 : UInt8), (98 : UInt8), (99 : UInt8), (100 : UInt8), (101 : UInt8), (102 : UInt8)] [(0 : UInt8), (0 : UInt8), (0 : UInt8), (0 : UInt8), (0 : UInt8), (0 : UInt8), (0 : UInt8), (1 : UInt8), (107 : UInt8), (0 : UInt8), (0 : UInt8), (0 : UInt8), (0 : UInt8), (0 : UInt8), (0 : UInt8), (0 : UInt8), (12 : UInt8), (105 : UInt8), (115 : UInt8), (32 : UInt8), (105 : UInt8), (116 : UInt8), (32 : UInt8), (109 : UInt8), (111 : UInt8), (110 : UInt8), (100 : UInt8), (97 : UInt8), (121 : UInt8)] = some [(226 : UInt8), (107 : UInt8), (34 : UInt8), (54 : UInt8), (12 : UInt8), (235 : UInt8), (171 : UInt8), (35 : UInt8), (175 : UInt8), (63 : UInt8), (7 : UInt8), (137 : UInt8), (4 : UInt8), (203 : UInt8), (212 : UInt8), (122 : UInt8), (97 : UInt8), (73 : UInt8), (116 : UInt8), (64 : UInt8), (12 : UInt8), (206 : UInt8), (61 : UInt8), (113 : UInt8), (98 : UInt8), (144 : UInt8), (58 : UInt8), (173 : UInt8), (252 : UInt8)] := by kernel_rfl
theorem tag36 (k : Nat) : box_tag (k + 2300) [(110 : UInt8)] [(48 : UInt8), (49 : UInt8), (50 : UInt8), (51 : UInt8), (52 : UInt8), (53 : UInt8), (54 : UInt8), (55 : UInt8), (56 : UInt8), (57 : UInt8), (97 : UInt8), (98 : UInt8), (99 : UInt8), (100 : UInt8), (101 : UInt8), (102 : UInt8), (226 : UInt8), (107 : UInt8), (34 : UInt8), (54 : UInt8), (12 : UInt8), (235 : UInt8), (171 : UInt8), (35 : UInt8), (175 : UInt8), (63 : UInt8), (7 : UInt8), (137 : UInt8), (4 : UInt8), (203 : UInt8), (212 : UInt8), (122 : UInt8), (97 : UInt8), (73 : UInt8), (116 : UInt8), (64 : UInt8), (12 : UInt8), (206 : UInt8), (61 : UInt8), (113 : UInt8), (98 : UInt8), (144 : UInt8), (58 : UInt8), (173 : UInt8), (252 : UInt8)] = some [(92 : UInt8), (3 : UInt8), (148 : UInt8), (22 : UInt8), (153 : UInt8), (250 : UInt8), (34 : UInt8), (147 : UInt8), (147 : UInt8), (152 : UInt8), (126 : UInt8), (139 : UInt8), (177 : UInt8), (171 : UInt8), (243 : UInt8), (124 : UInt8), (68 : UInt8), (105 : UInt8), (64 : UInt8), (80 : UInt8), (152 : UInt8), (216 : UInt8), (118 : UInt8), (195 : UInt8), (217 : UInt8), (177 : UInt8), (246 : UInt8), (163 : UInt8), (84 : UInt8), (244 : UInt8), (87 : UInt8), (230 : UInt8)] := by kernel_rfl
theorem tag36m (k : Nat) : box_tag (k + 2300) [(109 : UInt8)] [(48 : UInt8), (49 : UInt8), (50 : UInt8), (51 : UInt8), (52 : UInt8), (53 : UInt8), (54 : UInt8), (55 : UInt8), (56 : UInt8), (57 : UInt8), (97 : UInt8), (98 : UInt8), (99 : UInt8), (100 : UInt8), (101 : UInt8), (102 : UInt8), (226 : UInt8), (107 : UInt8), (34 : UInt8), (54 : UInt8), (12 : UInt8), (235 : UInt8), (171 : UInt8), (35 : UInt8), (175 : UInt8), (63 : UInt8), (7 : UInt8), (137 : UInt8), (4 : UInt8), (203 : UInt8), (212 : UInt8), (122 : UInt8), (97 : UInt8), (73 : UInt8), (116 : UInt8), (64 : UInt8), (12 : UInt8), (206 : UInt8), (61 : UInt8), (113 : UInt8), (98 : UInt8), (144 : UInt8), (58 : UInt8), (173 : UInt8), (252 : UInt8)] = some [(149 : UInt8), (91 : UInt8), (122 : UInt8), (138 : UInt8), (4 : UInt8), (100 : UInt8), (143 : UInt8), (23 : UInt8), (124 : UInt8), (60 : UInt8), (245 : UInt8), (160 : UInt8), (236 : UInt8), (101 : UInt8), (136 : UInt8), (71 : UInt8), (69 : UInt8), (111 : UInt8), (253 : UInt8), (99 : UInt8), (239 : UInt8), (88 : UInt8), (145 : UInt8), (173 : UInt8), (219 : UInt8), (182 : UInt8), (237 : UInt8), (4 : UInt8), (201 : UInt8), (166 : UInt8), (218 : UInt8), (72 : UInt8)] := by kernel_rfl
def frame36 : List UInt8 := [(0 : UInt8), (0 : UInt8), (0 : UInt8), (0 : UInt8), (0 : UInt8), (0 : UInt8), (0 : UInt8), (1 : UInt8), (107 : UInt8), (0 : UInt8), (0 : UInt8), (0 : UInt8), (0 : UInt8), (0 : UInt8), (0 : UInt8), (0 : UInt8), (12 : UInt8), (105 : UInt8), (115 : UInt8), (32 : UInt8), (105 : UInt8), (116 : UInt8), (32 : UInt8), (109 : UInt8), (111 : UInt8), (110 : UInt8), (100 : UInt8), (97 : UInt8), (121 : UInt8)]
def hide36L : List UInt8 := [(20 : UInt8), (56 : UInt8), (203 : UInt8), (5 : UInt8), (203 : UInt8), (184 : UInt8), (145 : UInt8), (42 : UInt8), (0 : UInt8), (215 : UInt8), (76 : UInt8), (156 : UInt8), (173 : UInt8), (41 : UInt8), (217 : UInt8), (136 : UInt8), (99 : UInt8), (241 : UInt8), (56 : UInt8), (177 : UInt8), (107 : UInt8), (155 : UInt8), (46 : UInt8), (12 : UInt8), (124 : UInt8), (2 : UInt8), (133 : UInt8), (116 : UInt8), (32 : UInt8), (109 : UInt8), (81 : UInt8), (194 : UInt8)]
def mix36L : List UInt8 := [(226 : UInt8), (107 : UInt8), (34 : UInt8), (54 : UInt8), (12 : UInt8), (235 : UInt8), (171 : UInt8), (35 : UInt8), (175 : UInt8), (63 : UInt8), (7 : UInt8), (137 : UInt8), (4 : UInt8), (203 : UInt8), (212 : UInt8), (122 : UInt8), (97 : UInt8), (73 : UInt8), (116 : UInt8), (64 : UInt8), (12 : UInt8), (206 : UInt8), (61 : UInt8), (113 : UInt8), (98 : UInt8), (144 : UInt8), (58 : UInt8), (173 : UInt8), (252 : UInt8)]
def body36 : List UInt8 := [(48 : UInt8), (49 : UInt8), (50 : UInt8), (51 : UInt8), (52 : UInt8), (53 : UInt8), (54 : UInt8), (55 : UInt8), (56 : UInt8), (57 : UInt8), (97 : UInt8), (98 : UInt8), (99 : UInt8), (100 : UInt8), (101 : UInt8), (102 : UInt8), (226 : UInt8), (107 : UInt8), (34 : UInt8), (54 : UInt8), (12 : UInt8), (235 : UInt8), (171 : UInt8), (35 : UInt8), (175 : UInt8), (63 : UInt8), (7 : UInt8), (137 : UInt8), (4 : UInt8), (203 : UInt8), (212 : UInt8), (122 : UInt8), (97 : UInt8), (73 : UInt8), (116 : UInt8), (64 : UInt8), (12 : UInt8), (206 : UInt8), (61 : UInt8), (113 : UInt8), (98 : UInt8), (144 : UInt8), (58 : UInt8), (173 : UInt8), (252 : UInt8)]
def tag36L : List UInt8 := [(92 : UInt8), (3 : UInt8), (148 : UInt8), (22 : UInt8), (153 : UInt8), (250 : UInt8), (34 : UInt8), (147 : UInt8), (147 : UInt8), (152 : UInt8), (126 : UInt8), (139 : UInt8), (177 : UInt8), (171 : UInt8), (243 : UInt8), (124 : UInt8), (68 : UInt8), (105 : UInt8), (64 : UInt8), (80 : UInt8), (152 : UInt8), (216 : UInt8), (118 : UInt8), (195 : UInt8), (217 : UInt8), (177 : UInt8), (246 : UInt8), (163 : UInt8), (84 : UInt8), (244 : UInt8), (87 : UInt8), (230 : UInt8)]
def tag36mL : List UInt8 := [(149 : UInt8), (91 : UInt8), (122 : UInt8), (138 : UInt8), (4 : UInt8), (100 : UInt8), (143 : UInt8), (23 : UInt8), (124 : UInt8), (60 : UInt8), (245 : UInt8), (160 : UInt8), (236 : UInt8), (101 : UInt8), (136 : UInt8), (71 : UInt8), (69 : UInt8), (111 : UInt8), (253 : UInt8), (99 : UInt8), (239 : UInt8), (88 : UInt8), (145 : UInt8), (173 : UInt8), (219 : UInt8), (182 : UInt8), (237 : UInt8), (4 : UInt8), (201 : UInt8), (166 : UInt8), (218 : UInt8), (72 : UInt8)]
def nonce36 : List UInt8 := [(48 : UInt8), (49 : UInt8), (50 : UInt8), (51 : UInt8), (52 : UInt8), (53 : UInt8), (54 : UInt8), (55 : UInt8), (56 : UInt8), (57 : UInt8), (97 : UInt8), (98 : UInt8), (99 : UInt8), (100 : UInt8), (101 : UInt8), (102 : UInt8)]


end Go.Proofs.YtjnlgomdckihpaaDoorLg

/- Layer 36: tickets, what is read of them, discharges. -/
set_option linter.all false
set_option maxRecDepth 100000
namespace Go.Proofs.YtjnlgomdckihpaaDoorLg
open Go Go.Lift Go.Proofs.YtjnlgomdckihpaaDoorPx

def formR : Option (List (List UInt8)) → List UInt8 × List UInt8 × Int × Unit
  | some [a, b] => (a, b, 0, ())
  | _ => ([], [], 2, ())

theorem formR_few {m : List (List UInt8)} (h : m.length ≠ 2) : formR (some m) = ([], [], 2, ()) := by
  match m with
  | [] => rfl
  | [_] => rfl
  | [_, _] => exact absurd rfl h
  | _ :: _ :: _ :: _ => rfl

theorem readLoop (N : Nat) (hN : 10 < N) (m : List (List UInt8)) (h2 : 2 ≤ m.length) :
    notary_Read_p4 N [] [] 0 m ((m.length : Nat) : Int) 0 (fun a b e => some (a, (b, (e, ())))) = some (formR (some m)) := by
  obtain ⟨a, b, l, rfl⟩ : ∃ a b l, m = a :: b :: l := by
    match m, h2 with
    | a :: b :: l, _ => exact ⟨a, b, l, rfl⟩
  rw [notary_Read_p4]
  refine iter_eq (fun v => v = (([] : List UInt8), ([] : List UInt8), (0 : Int)) ∨ v = (a, [], 1) ∨ v = (a, b, 2)) (fun v => 3 - v.2.2.toNat) (fun _ => some (formR (some (a :: b :: l)))) ?_ N ([], [], 0) (.inl rfl) (by simp only; omega)
  rintro v r (rfl | rfl | rfl) hr
  · rw [notary_Read_s4]
    dsimp only
    rw [cond_t (decide_eq_true (by simp only [List.length_cons]; omega)), cond_t (by unfold inR; exact decide_eq_true ⟨by omega, by simp only [List.length_cons]; omega⟩), cond_t (by rfl)]
    exact hr _ (.inr (.inl rfl)) (by simp only; decide)
  · rw [notary_Read_s4]
    dsimp only
    rw [cond_t (decide_eq_true (by simp only [List.length_cons]; omega)), cond_t (by unfold inR; exact decide_eq_true ⟨by omega, by simp only [List.length_cons]; omega⟩), cond_f (by rfl), cond_t (by rfl)]
    exact hr _ (.inr (.inr rfl)) (by simp only; decide)
  · rw [notary_Read_s4]
    dsimp only
    cases l with
    | nil => rw [cond_f (decide_eq_false (by simp))]; rfl
    | cons c l =>
      rw [cond_t (decide_eq_true (by simp only [List.length_cons]; omega)), cond_t (by unfold inR; exact decide_eq_true ⟨by omega, by simp only [List.length_cons]; omega⟩), cond_f (by rfl), cond_f (by rfl)]
      rfl

theorem read_ok (N : Nat) {n t c : List UInt8} (ho : box_Open N n t = some (c, 0, ())) (hc : c.length ≤ 10000) (hN : c.length + 20 < N) : notary_Read N n t = some (formR (splitL c)) := by
  rw [notary_Read, ho, Option.bind_some]
  dsimp only
  rw [bne_self_eq_false, cond_false, split_eq (by omega) (by omega), Option.bind_some, notary_Read_p1, notary_Read_p2]
  cases hs : splitL c with
  | none => rfl
  | some m =>
    rw [show (splitV (some m)).2.1 = true from rfl, show (splitV (some m)).1 = m from rfl, Bool.not_true, cond_false]
    by_cases h2 : m.length < 2
    · rw [decide_eq_true (show ((m.length : Nat) : Int) < 2 by omega), cond_true, formR_few (by omega)]
    · rw [decide_eq_false (show ¬ ((m.length : Nat) : Int) < 2 by omega), cond_false, notary_Read_p3]
      exact readLoop N (by omega) m (by omega)

theorem read_err (N : Nat) {n t c : List UInt8} {e : Int} (ho : box_Open N n t = some (c, e, ())) (he : e ≠ 0) : notary_Read N n t = some ([], [], e, ()) := by
  rw [notary_Read, ho, Option.bind_some]
  dsimp only
  rw [bne_iff_ne.2 he, cond_true]

/-! a ticket -/
def frame2 (key text : List UInt8) : List UInt8 := frameL [key, text]

theorem frame2_length (key text : List UInt8) : (frame2 key text).length = 16 + key.length + text.length := by
  unfold frame2; rw [frameL_length]; simp; omega

theorem split2 {key text : List UInt8} (hk : key.length ≤ 100000) (ht : text.length ≤ 100000) : splitL (frame2 key text) = some [key, text] :=
  split_frame [key, text] (fun p hp => by simp only [List.mem_cons, List.not_mem_nil, or_false] at hp; rcases hp with rfl | rfl <;> omega)

theorem ticket_pre (k : Nat) {n nonce key text : List UInt8} (hk : key.length ≤ 100000) (ht : text.length ≤ 100000) : notary_Ticket (k + 100) n nonce key text = (box_Seal (k + 100) n nonce (frame2 key text)).bind fun y1 => some (y1.1, (y1.2.1, ())) := by
  rw [notary_Ticket, show hmac_Frame (k + 100) [key, text] = some (frame2 key text) from frameN k (by simp) (by have := frame2_length key text; unfold frame2 at this; omega), Option.bind_some]

theorem ticket_eq (k : Nat) {n nonce key text : List UInt8} (hk : 2200 ≤ k) (hn : n.length ≤ 30000) (h16 : nonce.length = 16) (hl : key.length + text.length ≤ 1800) : notary_Ticket (k + 100) n nonce key text = some (sealL (k + 100) n nonce (frame2 key text), 0, ()) := by
  rw [ticket_pre k (by omega) (by omega), seal_eq k hk hn h16 (by rw [frame2_length]; omega)]; rfl

/-- a ticket is read by its notary -/
theorem read_ticket (k : Nat) {n nonce key text : List UInt8} (hk : 2200 ≤ k) (hn : n.length ≤ 30000) (h16 : nonce.length = 16) (hl : key.length + text.length ≤ 1800) :
    notary_Read (k + 100) n (sealL (k + 100) n nonce (frame2 key text)) = some (key, text, 0, ()) := by
  have hf := fits_seal k (key := n) (nonce := nonce) (text := frame2 key text) hk hn h16 (by rw [frame2_length]; omega)
  have hsl := sealL_length k (key := n) (nonce := nonce) (text := frame2 key text) (by omega) hn h16 (by rw [frame2_length]; omega)
  have hfl := frame2_length key text
  have ho : box_Open (k + 100) n (sealL (k + 100) n nonce (frame2 key text)) = some (frame2 key text, 0, ()) := by
    rw [open_eq k hk hn (by omega) (by omega), hf.1, hf.2, cond_true]
  rw [read_ok (k + 100) ho (by omega) (by omega), split2 (by omega) (by omega)]
  rfl

/-! a discharge -/
def mkL (c : List UInt8) : Lk := (c, [], ())

noncomputable def addAll (N : Nat) : Tk → List (List UInt8) → Tk × Int × Unit
  | t, [] => (t, 0, ())
  | t, c :: l => cond ((addR N t c).2.1 != 0) (zeroT, (addR N t c).2.1, ()) (addAll N (addR N t c).1 l)

theorem addR_ok {N : Nat} {t : Tk} {c : List UInt8} (h : (addR N t c).2.1 = 0) : (addR N t c).1 = withT N t (mkL c) ∧ t.2.1.length < 64 ∧ c.length ≤ 2048 := by
  unfold addR at h ⊢
  split
  · rename_i hc; rw [if_pos hc] at h; cases h
  · rename_i hc; exact ⟨rfl, by omega, by omega⟩

theorem dloop (k : Nat) (hk : 2200 ≤ k) {l : List (List UInt8)} (hl : l.length ≤ 1000) {t : Tk} (hn : t.2.1.length ≤ 64) (ht : t.2.2.1.length = 32) :
    notary_Discharge_p1 (k + 100) (([] : List UInt8), (([] : List ((List UInt8) × ((List UInt8) × Unit))), (([] : List UInt8), ()))) t l ((l.length : Nat) : Int) 0 (fun x6 x7 => some (x6, (x7, ()))) (fun t => some (t, ((0 : Int), ()))) = some (addAll (k + 100) t l) := by
  rw [notary_Discharge_p1]
  refine (iter_eq (fun v => ∃ (i : Nat) (u : Tk), v = (u, (i : Int)) ∧ i ≤ l.length ∧ u.2.1.length ≤ 64 ∧ u.2.2.1.length = 32) (fun v => l.length - v.2.toNat) (fun v => some (addAll (k + 100) v.1 (l.drop v.2.toNat))) ?_ (k + 100) (t, 0) ⟨0, t, rfl, by omega, hn, ht⟩ (by simp only; omega)).trans (by rfl)
  rintro v r ⟨i, u, rfl, hi, hu, hut⟩ hr
  simp only [Int.toNat_natCast]
  rw [notary_Discharge_s1]
  by_cases hlt : i < l.length
  · rw [cond_t (decide_eq_true (by omega)), cond_t (inR_nat hlt), Int.toNat_natCast, hadd1_eq k (by omega) (by omega) (by omega), Option.bind_some, drop_cons l [] i hlt, addAll]
    cases hb : ((addR (k + 100) u (l.getD i [])).2.1 != 0) with
    | true => rfl
    | false =>
      obtain ⟨e, h1, h2⟩ := addR_ok (bne_eq_false_iff_eq.1 hb)
      have hsm : small (mkL (l.getD i [])) := ⟨by simp only [mkL]; omega, by simp [mkL]⟩
      have g2 : (nextT (k + 100) u.2.2.1 (mkL (l.getD i []))).length = 32 := nextT_length k (by omega) (by omega) hsm
      have g1 : (withT (k + 100) u (mkL (l.getD i []))).2.1.length ≤ 64 := by simp only [withT, List.length_append, List.length_singleton]; omega
      have g3 : (withT (k + 100) u (mkL (l.getD i []))).2.2.1.length = 32 := by simp only [withT]; exact g2
      rw [← e] at g1 g3
      generalize addR (k + 100) u (l.getD i []) = y at g1 g3 ⊢
      rw [cond_false, cond_false, wrap_succ (by omega), hr _ ⟨i + 1, y.1, rfl, by omega, g1, g3⟩ (by simp only; omega)]
      simp only [Int.toNat_natCast]
  · rw [cond_f (decide_eq_false (by omega)), drop_nil' l (by omega), addAll]

theorem discharge_ok (k : Nat) (hk : 2200 ≤ k) {n t key text : List UInt8} {l : List (List UInt8)} (h : notary_Read (k + 100) n t = some (key, text, 0, ())) (hl : l.length ≤ 1000) (hkey : key.length ≤ 30000) (ht : t.length ≤ 8000) :
    notary_Discharge (k + 100) n t l = some (addAll (k + 100) (t, [], rootT (k + 100) key t, ()) l) := by
  rw [notary_Discharge, h, Option.bind_some]
  dsimp only
  rw [bne_self_eq_false, cond_false, root_eq k (by omega) hkey ht, Option.bind_some]
  have hroot : (rootT (k + 100) key t).length = 32 := tagL_length k (key := key) (text := frameL (rootParts t)) (by omega) hkey (by rw [root_length]; omega)
  generalize rootT (k + 100) key t = R at hroot ⊢
  exact dloop k hk hl (t := (t, [], R, ())) (Nat.zero_le _) hroot

theorem addAll_ok (k : Nat) (hk : 600 ≤ k) : ∀ (l : List (List UInt8)) (t : Tk), t.2.1.length + l.length ≤ 64 → (∀ c ∈ l, c.length ≤ 2048) →
    addAll (k + 100) t l = ((t.1, t.2.1 ++ l.map mkL, lastT (k + 100) t.2.2.1 (l.map mkL), ()), 0, ())
  | [], t, _, _ => by
    obtain ⟨a, b, c, u⟩ := t
    cases u
    simp [addAll, lastT_nil]
  | c :: l, t, h1, h2 => by
    have hc := h2 c List.mem_cons_self
    simp only [List.length_cons] at h1
    have e : addR (k + 100) t c = (withT (k + 100) t (mkL c), 0, ()) := by unfold addR; rw [if_neg (by omega)]; rfl
    rw [addAll, e]
    dsimp only
    rw [bne_self_eq_false, cond_false, addAll_ok k hk l _ (by simp only [withT, List.length_append, List.length_singleton]; omega) (fun d hd => h2 d (List.mem_cons_of_mem _ hd))]
    simp only [withT, List.map_cons, List.append_assoc, List.singleton_append, lastT_cons]

theorem discharge_all (k : Nat) (hk : 2200 ≤ k) {n s key text : List UInt8} {l : List (List UInt8)} (h : notary_Read (k + 100) n s = some (key, text, 0, ())) (hl : l.length ≤ 64) (hc : ∀ c ∈ l, c.length ≤ 2048) (hkey : key.length ≤ 30000) (hs : s.length ≤ 8000) :
    ∃ d : Tk, notary_Discharge (k + 100) n s l = some (d, 0, ()) ∧ d.1 = s ∧ d.2.1 = l.map mkL ∧ chain_Last (k + 100) key d = some d.2.2.1 := by
  have e3 := discharge_ok k hk (l := l) h (by omega) hkey hs
  have hlast : ∀ tg, chain_Last (k + 100) key (s, l.map mkL, tg, ()) = some (lastT (k + 100) (rootT (k + 100) key s) (l.map mkL)) := fun tg =>
    last_eq k (key := key) (t := (s, l.map mkL, tg, ())) (by omega) hkey hs (by simp only [List.length_map]; omega) (fun m hm => by
      obtain ⟨c, hm', rfl⟩ := List.mem_map.1 hm
      have := hc c hm'
      exact ⟨by simp only [mkL]; omega, by simp [mkL]⟩)
  generalize rootT (k + 100) key s = R at e3 hlast
  rw [addAll_ok k (by omega) l (s, [], R, ()) (by simp only [List.length_nil]; omega) hc] at e3
  refine ⟨_, e3, rfl, by simp only [List.nil_append], ?_⟩
  simp only [List.nil_append]
  exact hlast _

/-! the example -/
theorem other36 (k : Nat) : fits (k + 2200 + 100) [109] (sealL (k + 2200 + 100) [110] nonce36 frame36) = false := by
  have h1 : hideK (k + 2200 + 100) [110] = hide36L := Option.some.inj ((hideKey_eq (k + 2200) (key := [110]) (by omega) (by decide)).symm.trans (hide36 k))
  have h2 : xorL frame36 (takeL (k + 2200 + 100) hide36L nonce36 frame36.length) = mix36L := Option.some.inj ((mix_eq (k + 2200) (key := hide36L) (nonce := nonce36) (text := frame36) (by omega) (by decide) (by decide) (by decide) (by show 29 < _; omega)).symm.trans (mix36 k))
  have hb : bodyL (k + 2200 + 100) [110] nonce36 frame36 = body36 := by
    unfold bodyL hidden
    rw [h1, h2]; rfl
  have h3 : boxTag (k + 2200 + 100) [110] body36 = tag36L := Option.some.inj ((boxTag_eq (k + 2200) (key := [110]) (body := body36) (by omega) (by decide) (by decide)).symm.trans (tag36 k))
  have h4 : boxTag (k + 2200 + 100) [109] body36 = tag36mL := Option.some.inj ((boxTag_eq (k + 2200) (key := [109]) (body := body36) (by omega) (by decide) (by decide)).symm.trans (tag36m k))
  have hs : sealL (k + 2200 + 100) [110] nonce36 frame36 = body36 ++ tag36L := by unfold sealL; rw [hb, h3]
  unfold fits
  rw [hs]
  rw [show (body36 ++ tag36L).take ((body36 ++ tag36L).length - 32) = body36 from rfl, h4]
  rfl

theorem frame36_eq : frame2 [107] [105, 115, 32, 105, 116, 32, 109, 111, 110, 100, 97, 121] = frame36 := by kernel_rfl

theorem works36_of {N : Nat} {s : List UInt8} {d : Tk} (h1 : notary_Ticket N [110] [48, 49, 50, 51, 52, 53, 54, 55, 56, 57, 97, 98, 99, 100, 101, 102] [107] [105, 115, 32, 105, 116, 32, 109, 111, 110, 100, 97, 121] = some (s, 0, ()))
    (h2 : notary_Read N [110] s = some ([107], [105, 115, 32, 105, 116, 32, 109, 111, 110, 100, 97, 121], 0, ())) (h3 : notary_Discharge N [110] s [[98, 101, 102, 111, 114, 101, 32, 57]] = some (d, 0, ()))
    (h4 : notary_Read N [109] s = some ([], [], 8, ())) (hd1 : d.1 = s) (hd2 : d.2.1.length = 1) (hd3 : chain_Last N [107] d = some d.2.2.1) : porterlaw36_works N = some true := by
  rw [porterlaw36_works, h1, Option.bind_some]
  dsimp only
  rw [h2, Option.bind_some]
  dsimp only
  rw [h3, Option.bind_some]
  dsimp only
  rw [h4, Option.bind_some]
  dsimp only
  rw [hd1, hd3]
  simp only [beq_self_eq_true, cond_true, Option.bind_some]
  rw [show ((((List.length d.2.1) : Nat) : Int) == (1 : Int)) = true by rw [hd2]; rfl, cond_true]

theorem works36 (k : Nat) : porterlaw36_works (k + 2200 + 100) = some true := by
  have hsl := sealL_length (k + 2200) (key := [110]) (nonce := nonce36) (text := frame36) (by omega) (by decide) (by rfl) (by decide)
  have e1 : notary_Ticket (k + 2200 + 100) [110] nonce36 [107] [105, 115, 32, 105, 116, 32, 109, 111, 110, 100, 97, 121] = some (sealL (k + 2200 + 100) [110] nonce36 frame36, 0, ()) := by
    rw [ticket_eq (k + 2200) (by omega) (by decide) (by rfl) (by decide), frame36_eq]
  have e2 : notary_Read (k + 2200 + 100) [110] (sealL (k + 2200 + 100) [110] nonce36 frame36) = some ([107], [105, 115, 32, 105, 116, 32, 109, 111, 110, 100, 97, 121], 0, ()) := by
    have := read_ticket (k + 2200) (n := [110]) (nonce := nonce36) (key := [107]) (text := [105, 115, 32, 105, 116, 32, 109, 111, 110, 100, 97, 121]) (by omega) (by decide) (by rfl) (by decide)
    rw [frame36_eq] at this
    exact this
  have e4 : notary_Read (k + 2200 + 100) [109] (sealL (k + 2200 + 100) [110] nonce36 frame36) = some ([], [], 8, ()) := by
    refine read_err _ (c := []) (e := 8) ?_ (by decide)
    rw [open_eq (k + 2200) (by omega) (by decide) (by rw [hsl]; decide) (by rw [hsl]; decide), other36, cond_false]
  generalize hs : sealL (k + 2200 + 100) [110] nonce36 frame36 = s at hsl e1 e2 e4
  have hl : s.length ≤ 8000 := by rw [hsl]; decide
  obtain ⟨d, e3, g1, g2, g3⟩ := discharge_all (k + 2200) (by omega) (l := [[98, 101, 102, 111, 114, 101, 32, 57]]) e2 (by simp) (fun c hc => by simp only [List.mem_singleton] at hc; subst hc; decide) (by decide) hl
  exact works36_of e1 e2 e3 e4 g1 (by rw [g2]; rfl) g3


end Go.Proofs.YtjnlgomdckihpaaDoorLg

/- Layer 36: what a ticket was made of is read, and its discharge is the notary's; forms. -/
set_option linter.all false
set_option maxRecDepth 100000
namespace Go.Proofs.YtjnlgomdckihpaaDoorLg
open Go Go.Lift Go.Proofs.YtjnlgomdckihpaaDoorPx

theorem links_loop (N : Nat) (caveats : List (List UInt8)) (l : List (List UInt8)) (hN : caveats.length < N) (hc : caveats.length ≤ 1000) (d : Tk) (hd : d.2.1 = caveats.map mkL) (k0 : Bool → Option Bool) (k1 : Option Bool) :
    porterlaw36_NotaryBack_p5 N caveats l d 0 k0 k1 = k1 := by
  rw [porterlaw36_NotaryBack_p5]
  refine iter_eq (fun v => ∃ i : Nat, v = (i : Int) ∧ i ≤ caveats.length) (fun v => caveats.length - v.toNat) (fun _ => k1) ?_ N 0 ⟨0, rfl, by omega⟩ (by omega)
  rintro v r ⟨i, rfl, hi⟩ hr
  rw [porterlaw36_NotaryBack_s5]
  by_cases hlt : i < caveats.length
  · have hlen : d.2.1.length = caveats.length := by rw [hd, List.length_map]
    have hget : d.2.1.getD i ([], [], ()) = (caveats.getD i [], [], ()) := by
      rw [hd]; simp [List.getD, hlt, mkL]
    rw [cond_t (decide_eq_true (by omega)), cond_t (inR_nat (by omega)), cond_t (inR_nat hlt), Int.toNat_natCast, hget, eqD_self (by rfl), Bool.not_true, cond_false, wrap_succ (by omega)]
    exact hr _ ⟨i + 1, rfl, by omega⟩ (by omega)
  · rw [cond_f (decide_eq_false (by omega))]

theorem flat_mem36 {l : List (List UInt8)} : ∀ c ∈ l, c.length ≤ l.flatten.length := parts_small l

theorem back_law36 (k : Nat) (hk : 2200 ≤ k) (hw : porterlaw36_works (k + 100) = some true) {l caveats : List (List UInt8)} (hl : l.length = 3) : porterlaw36_NotaryBack (k + 100) l caveats = some true := by
  have d0 : decide (0 < l.length) = true := decide_eq_true (by omega)
  have d1 : decide (1 < l.length) = true := decide_eq_true (by omega)
  have d2 : decide (2 < l.length) = true := decide_eq_true (by omega)
  rw [porterlaw36_NotaryBack, porterlaw36_NotaryBack_p1, porterlaw36_NotaryBack_p2]
  rw [d0, d1, d2, cond_true, cond_true, cond_true]
  by_cases h0 : 100 < (l.getD 0 []).length
  · rw [cond_t (decide_eq_true (by omega)), hw]; rfl
  rw [cond_f (decide_eq_false (by omega))]
  by_cases h1 : 100 < (l.getD 1 []).length
  · rw [cond_t (decide_eq_true (by omega)), hw]; rfl
  rw [cond_f (decide_eq_false (by omega))]
  by_cases h2 : 500 < (l.getD 2 []).length
  · rw [cond_t (decide_eq_true (by omega)), hw]; rfl
  rw [cond_f (decide_eq_false (by omega))]
  rw [show porterbase_Short (k + 100) caveats (8 : Int) (1000 : Int) = _ from short_eq (k + 100) (many := 8) (most := 1000) (by omega) (by omega) (by omega), Option.bind_some]
  by_cases hs : caveats.length ≤ 8 ∧ caveats.flatten.length ≤ 1000
  · rw [decide_eq_true hs, Bool.not_true, cond_false]
    have e1 := ticket_eq k (n := l.getD 0 []) (nonce := nonce36) (key := l.getD 1 []) (text := l.getD 2 []) (by omega) (by omega) (by rfl) (by omega)
    have e2 := read_ticket k (n := l.getD 0 []) (nonce := nonce36) (key := l.getD 1 []) (text := l.getD 2 []) (by omega) (by omega) (by rfl) (by omega)
    have hsl := sealL_length k (key := l.getD 0 []) (nonce := nonce36) (text := frame2 (l.getD 1 []) (l.getD 2 [])) (by omega) (by omega) (by rfl) (by rw [frame2_length]; omega)
    rw [frame2_length] at hsl
    have e1' : notary_Ticket (k + 100) (l.getD 0 []) [48, 49, 50, 51, 52, 53, 54, 55, 56, 57, 97, 98, 99, 100, 101, 102] (l.getD 1 []) (l.getD 2 []) = some (sealL (k + 100) (l.getD 0 []) nonce36 (frame2 (l.getD 1 []) (l.getD 2 [])), 0, ()) := e1
    clear e1
    generalize sealL (k + 100) (l.getD 0 []) nonce36 (frame2 (l.getD 1 []) (l.getD 2 [])) = s at e2 hsl e1'
    rw [e1', Option.bind_some]
    dsimp only
    obtain ⟨d, e3, g1, g2, g3⟩ := discharge_all k (by omega) (l := caveats) e2 (by omega) (fun c hc => by have := flat_mem36 c hc; omega) (by omega) (by omega)
    rw [e2, Option.bind_some]
    dsimp only
    rw [e3, Option.bind_some]
    dsimp only
    rw [porterlaw36_NotaryBack_p3, porterlaw36_NotaryBack_p4]
    have hlen : d.2.1.length = caveats.length := by rw [g2, List.length_map]
    simp only [d1, d2, bne_self_eq_false, cond_false, cond_true, beq_self_eq_true, Bool.not_true, g1, hlen]
    rw [links_loop _ _ _ (by omega) (by omega) _ g2, g3, Option.bind_some]
    rw [beq_self_eq_true, cond_true, hw]
    rfl
  · rw [decide_eq_false hs, Bool.not_false, cond_true, hw]; rfl
end Go.Proofs.YtjnlgomdckihpaaDoorLg

