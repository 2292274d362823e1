/- The layer sha: a hash made in parts tells what one made at once tells. -/
import Derived.Test.YtkccmmbomlpgnaaDoorLgShaF
set_option linter.all false
namespace Go.Proofs.YtkccmmbomlpgnaaDoorLg
open Go Go.Lift Go.Proofs.YtkccmmbomlpgnaaDoorPx

theorem as_map {α : Type} (l : List α) (d : α) {n : Nat} (h : l.length = n) : l = (List.range n).map fun i => l.getD i d := by
  apply List.ext_getElem?
  intro i
  rw [List.getElem?_map]
  by_cases hi : i < n
  · rw [List.getElem?_eq_getElem (by omega), List.getElem?_range hi, Option.map_some, List.getD_eq_getElem?_getD, List.getElem?_eq_getElem (by omega)]; rfl
  · rw [List.getElem?_eq_none (by omega), List.getElem?_eq_none (by rw [List.length_range]; omega)]; rfl

set_option maxRecDepth 100000 in
theorem step_sym (k : Nat) (g : Nat → Int) (f : Nat → UInt8) : (sha_Step (k + 100) ((List.range 8).map g) ((List.range 64).map f)).map List.length = some 8 := by kernel_rfl
set_option maxRecDepth 100000 in
theorem tell_sym (k : Nat) (g : Nat → Int) : (sha_Tell (k + 100) ((List.range 8).map g)).isSome = true := by kernel_rfl

noncomputable def st (N : Nat) (h : List Int) (b : List UInt8) : List Int := (sha_Step N h b).getD []
theorem st_eq (k : Nat) {h : List Int} {b : List UInt8} (hh : h.length = 8) (hb : b.length = 64) : sha_Step (k + 100) h b = some (st (k + 100) h b) ∧ (st (k + 100) h b).length = 8 := by
  have := step_sym k (fun i => h.getD i 0) (fun i => b.getD i 0)
  rw [← as_map h 0 hh, ← as_map b 0 hb] at this
  unfold st
  cases e : sha_Step (k + 100) h b with
  | none => rw [e] at this; cases this
  | some y => rw [e] at this; exact ⟨rfl, Option.some.inj this⟩

noncomputable def stepsL (N : Nat) : Nat → List Int → List UInt8 → List Int
  | 0, h, _ => h
  | j + 1, h, s => stepsL N j (st N h (s.take 64)) (s.drop 64)

theorem stepsL_length (k : Nat) : ∀ (j : Nat) {h : List Int} {s : List UInt8}, h.length = 8 → 64 * j ≤ s.length → (stepsL (k + 100) j h s).length = 8
  | 0, h, s, hh, _ => hh
  | j + 1, h, s, hh, hs => stepsL_length k j (st_eq k hh (by rw [List.length_take]; omega)).2 (by rw [List.length_drop]; omega)

theorem stepsL_append (N : Nat) : ∀ (i j : Nat) {h : List Int} {a b : List UInt8}, a.length = 64 * i → stepsL N (i + j) h (a ++ b) = stepsL N j (stepsL N i h a) b
  | 0, j, h, a, b, ha => by
    have : a = [] := List.length_eq_zero_iff.1 (by omega)
    subst this; rw [Nat.zero_add]; rfl
  | i + 1, j, h, a, b, ha => by
    rw [show i + 1 + j = (i + j) + 1 by omega]
    simp only [stepsL]
    rw [List.take_append_of_le_length (by omega), List.drop_append_of_le_length (by omega)]
    exact stepsL_append N i j (by rw [List.length_drop]; omega)

theorem steps_eq (k : Nat) {h : List Int} {s : List UInt8} {j : Nat} (hh : h.length = 8) (hs : s.length = 64 * j) (hj : j < k + 100) (hj2 : j ≤ 100000) : sha_steps (k + 100) h s = some (stepsL (k + 100) j h s) := by
  simp only [sha_steps, sha_steps_p1]
  rw [iter_eq (I := fun (v : List Int × Int) => ∃ i : Nat, v.2 = ((64 * i : Nat) : Int) ∧ i ≤ j ∧ v.1.length = 8) (m := fun v => j - v.2.toNat / 64)
    (R := fun v => some (stepsL (k + 100) (j - v.2.toNat / 64) v.1 (s.drop v.2.toNat))) ?_ (k + 100) (h, 0) ⟨0, rfl, by omega, hh⟩ (by simpa using hj)]
  · simp
  rintro ⟨h', v⟩ r ⟨i, e, hi, hl⟩ hr
  dsimp only at e hl hr ⊢
  subst e
  rw [Int.toNat_natCast, show 64 * i / 64 = i by omega] at hr ⊢
  simp only [sha_steps_s1]
  by_cases hlt : i < j
  · have hw : IntKind.wrap .i64 (((64 * i : Nat) : Int) + 64) = ((64 * i + 64 : Nat) : Int) := by rw [wrap_in (by unfold I64; omega)]; omega
    have hb : ((s.drop (64 * i)).take 64).length = 64 := by rw [List.length_take, List.length_drop]; omega
    rw [cond_t (dec_t (by omega)), hw, cond_t (dec_t (by omega)), cond_t (dec_t (by omega)), Int.toNat_natCast, Int.toNat_natCast, cut_mid, (st_eq k hl hb).1, Option.bind_some, hr _ ⟨i + 1, by dsimp only; omega, by omega, (st_eq k hl hb).2⟩ (by dsimp only; omega)]
    dsimp only
    rw [Int.toNat_natCast, show (64 * i + 64) / 64 = i + 1 by omega, show j - i = (j - (i + 1)) + 1 by omega]
    simp only [stepsL, List.drop_drop]
  · rw [cond_f (dec_f (by omega)), show j - i = 0 by omega]; rfl

abbrev first : List Int := [1779033703, 3144134277, 1013904242, 2773480762, 1359893119, 2600822924, 528734635, 1541459225]
abbrev Hsh : Type := Bool × (List Int × (List UInt8 × (Int × Unit)))

def total (n : Nat) : Nat := (n + (tailL n).length) / 64
noncomputable def tellL (N : Nat) (h : List Int) : List UInt8 := (sha_Tell N h).getD []
theorem tell_eq (k : Nat) {h : List Int} (hh : h.length = 8) : sha_Tell (k + 100) h = some (tellL (k + 100) h) := by
  have := tell_sym k (fun i => h.getD i 0)
  rw [← as_map h 0 hh] at this
  unfold tellL
  cases e : sha_Tell (k + 100) h with
  | none => rw [e] at this; cases this
  | some y => rfl
noncomputable def sumL (N : Nat) (s : List UInt8) : List UInt8 := tellL N (stepsL N (total s.length) first (s ++ tailL s.length))

def madeH (N : Nat) (all : List UInt8) (h : Hsh) : Prop := ∃ j : Nat, 64 * j ≤ all.length ∧ h = (true, stepsL N j first (all.take (64 * j)), all.drop (64 * j), (all.length : Int), ())

theorem made_new (N : Nat) : madeH N [] (true, first, [], 0, ()) := ⟨0, by simp, rfl⟩

theorem add_eq (k : Nat) {all s : List UInt8} {h : Hsh} (hk : 600 ≤ k) (hm : madeH (k + 100) all h) (hl : all.length + s.length ≤ 30000) : ∃ h', sha_Hash_Add (k + 100) h s = some ((), h', ()) ∧ madeH (k + 100) (all ++ s) h' := by
  obtain ⟨j, hj, rfl⟩ := hm
  have hd : all.drop (64 * j) ++ s = (all ++ s).drop (64 * j) := by rw [List.drop_append_of_le_length hj]
  simp only [sha_Hash_Add, sha_Hash_Add_p1]
  rw [Bool.not_true, cond_false, cond_t (dec_t (by rw [List.length_drop]; omega)), hd]
  generalize hq : ((all ++ s).drop (64 * j)).length / 64 = q
  have hL : ((all ++ s).drop (64 * j)).length = all.length + s.length - 64 * j := by rw [List.length_drop, List.length_append]
  have hw : IntKind.wrap .i64 ((((all ++ s).drop (64 * j)).length : Int) - Int.tmod (((all ++ s).drop (64 * j)).length : Int) 64) = ((64 * q : Nat) : Int) := by
    rw [Int.tmod_eq_emod_of_nonneg (by omega), wrap_in (by unfold I64; omega)]; omega
  have hq2 : 64 * q ≤ all.length + s.length - 64 * j := by omega
  have hsl : (stepsL (k + 100) j first (all.take (64 * j))).length = 8 := stepsL_length k j rfl (by rw [List.length_take]; omega)
  rw [hw, cond_t (dec_t (by omega)), Int.toNat_natCast, cut_take, steps_eq k hsl (by rw [List.length_take]; omega) (by omega : q < k + 100) (by omega), Option.bind_some, cond_t (dec_t (by omega)), cut_all]
  refine ⟨_, rfl, j + q, by rw [List.length_append]; omega, ?_⟩
  have e1 : (all ++ s).take (64 * (j + q)) = all.take (64 * j) ++ ((all ++ s).drop (64 * j)).take (64 * q) := by
    rw [Nat.mul_add, List.take_add, List.take_append_of_le_length hj]
  rw [e1, stepsL_append _ j q (by rw [List.length_take]; omega), List.drop_drop, List.length_append, show 64 * (j + q) = 64 * j + 64 * q by omega]
  have e2 : IntKind.wrap .i64 ((all.length : Int) + (s.length : Int)) = ((all.length + s.length : Nat) : Int) := by rw [wrap_in (by unfold I64; omega)]; omega
  rw [e2]

theorem core_eq (k : Nat) {all : List UInt8} {j : Nat} (hk : 600 ≤ k) (hj : 64 * j ≤ all.length) (hl : all.length ≤ 30000) :
    sha_steps (k + 100) (stepsL (k + 100) j first (all.take (64 * j))) (all.drop (64 * j) ++ tailL all.length) = some (stepsL (k + 100) (total all.length) first (all ++ tailL all.length)) ∧ (stepsL (k + 100) (total all.length) first (all ++ tailL all.length)).length = 8 := by
  have hwh := tailL_whole all.length
  have htl := tailL_length all.length
  have hz : zer all.length < 64 := by unfold zer; omega
  have htot : 64 * total all.length = all.length + (tailL all.length).length := by unfold total; omega
  have hsl : (stepsL (k + 100) j first (all.take (64 * j))).length = 8 := stepsL_length k j rfl (by rw [List.length_take]; omega)
  have hjt : j ≤ total all.length := by omega
  have e : stepsL (k + 100) (total all.length) first (all ++ tailL all.length) = stepsL (k + 100) (total all.length - j) (stepsL (k + 100) j first (all.take (64 * j))) (all.drop (64 * j) ++ tailL all.length) := by
    have := stepsL_append (k + 100) j (total all.length - j) (h := first) (a := all.take (64 * j)) (b := all.drop (64 * j) ++ tailL all.length) (by rw [List.length_take]; omega)
    rw [← List.append_assoc, List.take_append_drop, show j + (total all.length - j) = total all.length by omega] at this
    exact this
  constructor
  · rw [e, steps_eq k (j := total all.length - j) hsl (by rw [List.length_append, List.length_drop]; omega) (by omega) (by omega)]
  · exact stepsL_length k _ rfl (by rw [List.length_append]; omega)

theorem tailK {k n : Nat} (hn : n ≤ 30000) : sha_tail (k + 100) (n : Int) = some (tailL n) := tail_eq (k + 80) hn

theorem sum1_eq (k : Nat) {all : List UInt8} {h : Hsh} (hk : 600 ≤ k) (hm : madeH (k + 100) all h) (hl : all.length ≤ 30000) : sha_Hash_Sum1 (k + 100) h = some (sumL (k + 100) all, h, ()) := by
  obtain ⟨j, hj, rfl⟩ := hm
  have hz : zer all.length < 64 := by unfold zer; omega
  obtain ⟨h1, h2⟩ := core_eq k hk hj hl
  simp only [sha_Hash_Sum1, sha_Hash_Sum1_p1, sha_Hash_Sum1_p2]
  rw [Bool.not_true, cond_false, tailK hl, Option.bind_some, cond_t (dec_t (by rw [tailL_length, List.length_drop]; omega)), h1, Option.bind_some, tell_eq k h2, Option.bind_some]
  rfl

theorem sum_eq (k : Nat) {s : List UInt8} (hk : 600 ≤ k) (hl : s.length ≤ 30000) : sha_Sum (k + 100) s = some (sumL (k + 100) s) := by
  obtain ⟨h', h1, h2⟩ := add_eq k (s := s) hk (made_new _) (by simpa using hl)
  rw [List.nil_append] at h2
  simp only [sha_Sum]
  rw [h1, Option.bind_some, sum1_eq k hk h2 hl]; rfl

theorem sum2_eq (k : Nat) {all : List UInt8} {h : Hsh} (hk : 600 ≤ k) (hm : madeH (k + 100) all h) (hl : all.length ≤ 30000) : sha_Hash_Sum (k + 100) h = some (sumL (k + 100) all, h, ()) := by
  obtain ⟨j, hj, rfl⟩ := hm
  have hz : zer all.length < 64 := by unfold zer; omega
  obtain ⟨h1, h2⟩ := core_eq k hk hj hl
  simp only [sha_Hash_Sum, sha_Hash_Sum_p1, sha_Hash_Sum_p2]
  rw [Bool.not_true, cond_false, tailK hl, Option.bind_some, cond_t (dec_t (by rw [tailL_length, List.length_drop]; omega)), h1, Option.bind_some, tell_eq k h2, Option.bind_some]
  rfl

end Go.Proofs.YtkccmmbomlpgnaaDoorLg
