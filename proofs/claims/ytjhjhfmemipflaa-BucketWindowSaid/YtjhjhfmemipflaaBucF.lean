/- What the plain functions of bucket say. -/
import Derived.Test.YtjhjhfmemipflaaSatM
import Derived.Test.YtjhjhfmemipflaaPxB
import Derived.Test.YtjhjhfmemipflaaFnB
set_option linter.all false
namespace Go.Proofs.YtjhjhfmemipflaaLf
open Go Go.Lift Go.Proofs.YtjhjhfmemipflaaPx

abbrev BK : Type := Int × Int × Int × Int × Unit
abbrev tB : T := .pair (.int .i64) (.pair (.int .i64) (.pair (.int .i64) (.pair (.int .i64) .unit)))

theorem sAdd_eq (N : Nat) {a b : Int} (ha : I64 a) (hb : I64 b) : sat_Add N a b = some (clip (a + b)) := by
  simp only [sat_Add, sat_Add_p1, sat_Add_p2, sat_Add_p3, sat_Add_p4, wrap64, clip, I64, Bool.cond_eq_ite, decide_eq_true_eq, Bool.false_eq_true, if_false] at *
  repeat' split
  all_goals simp only [Option.some.injEq]
  all_goals omega

theorem sEnd_eq (N : Nat) (b : Bool) : sat_end N b = some (if b then -9223372036854775808 else 9223372036854775807) := by
  cases b <;> rfl

theorem sOver_eq (N : Nat) {a b : Int} (ha : I64 a) (hb : I64 b) (ha0 : a ≠ 0) (hb0 : b ≠ 0) : sat_overflows N a b = some (decide (¬ I64 (a * b))) := by
  simp only [sat_overflows, sat_overflows_p1, sat_overflows_p2, Bool.cond_eq_ite, beq_iff_eq, Option.some.injEq]
  by_cases h1 : a = -9223372036854775808 ∧ b = -1
  · obtain ⟨rfl, rfl⟩ := h1
    simp [I64]
  by_cases h2 : b = -9223372036854775808 ∧ a = -1
  · obtain ⟨rfl, rfl⟩ := h2
    simp [I64]
  have e : ((IntKind.wrap .i64 ((IntKind.wrap .i64 (a * b)).tdiv b)) != a) = decide (¬ I64 (a * b)) := by
    rw [Bool.eq_iff_iff, bne_iff_ne, decide_eq_true_eq]
    exact overflow_test ha hb hb0 h1
  rw [if_neg hb0, e]
  repeat' split
  all_goals first
    | rfl
    | (exfalso; simp_all)

theorem sMul_eq (N : Nat) {a b : Int} (ha : I64 a) (hb : I64 b) : sat_Mul N a b = some (clip (a * b)) := by
  simp only [sat_Mul, sat_Mul_p1, sat_Mul_p2, Bool.cond_eq_ite, beq_iff_eq]
  by_cases ha0 : a = 0
  · subst ha0; simp [clip]
  by_cases hb0 : b = 0
  · subst hb0; simp [clip]
  rw [if_neg ha0, if_neg hb0, sOver_eq N ha hb ha0 hb0]
  simp only [Option.bind_some, sEnd_eq, decide_eq_true_eq]
  by_cases hi : I64 (a * b)
  · rw [if_neg (by simpa using hi), wrap_in hi, clip_in hi]
  · rw [if_pos hi]
    have hs := mul_signs ha0 hb0
    rcases hs with ⟨h, hp⟩ | ⟨h, hp⟩
    · rw [clip_hi (by unfold I64 at hi; omega)]
      rcases h with ⟨h1, h2⟩ | ⟨h1, h2⟩
      · simp [show ¬ a < 0 by omega, show ¬ b < 0 by omega]
      · simp [h1, h2]
    · rw [clip_lo (by unfold I64 at hi; omega)]
      rcases h with ⟨h1, h2⟩ | ⟨h1, h2⟩
      · simp [show ¬ a < 0 by omega, h2]
      · simp [h1, show ¬ b < 0 by omega]

def Ok40 (n : Int) : Prop := 0 ≤ n ∧ n ≤ 1099511627776
def RightB (b : BK) : Prop := Ok40 b.1 ∧ Ok40 b.2.1 ∧ Ok40 b.2.2.2.1 ∧ 0 ≤ b.2.2.1 ∧ b.2.2.1 ≤ b.1
instance (n : Int) : Decidable (Ok40 n) := by unfold Ok40; infer_instance
instance (b : BK) : Decidable (RightB b) := by unfold RightB; infer_instance
def W4 (b : BK) : Prop := I64 b.1 ∧ I64 b.2.1 ∧ I64 b.2.2.1 ∧ I64 b.2.2.2.1

theorem within_eq (N : Nat) (n : Int) : bucket_within N n = some (decide (Ok40 n)) := by
  unfold bucket_within Ok40
  by_cases h : 0 ≤ n
  · rw [cond_t (dec_t h)]; simp [h]
  · rw [cond_f (dec_f h)]; simp [h]

theorem right_eq (N : Nat) (b : BK) : bucket_Right N b = some (decide (RightB b)) := by
  simp only [bucket_Right, within_eq, Option.bind_some, RightB]
  by_cases h1 : Ok40 b.1 <;> by_cases h2 : Ok40 b.2.1 <;> by_cases h3 : Ok40 b.2.2.2.1 <;> by_cases h4 : 0 ≤ b.2.2.1 <;> simp [h1, h2, h3, h4]

theorem refRight_eq (N : Nat) (b : BK) : porterref45_Right N b = some (decide (RightB b)) := by
  simp only [porterref45_Right, RightB, Ok40, Bool.cond_eq_ite, decide_eq_true_eq]
  by_cases h1 : 0 ≤ b.1 <;> by_cases h2 : b.1 ≤ 1099511627776 <;> by_cases h3 : 0 ≤ b.2.1 <;> by_cases h4 : b.2.1 ≤ 1099511627776 <;> by_cases h5 : 0 ≤ b.2.2.1 <;> by_cases h6 : b.2.2.1 ≤ b.1 <;> by_cases h7 : 0 ≤ b.2.2.2.1 <;> simp [h1, h2, h3, h4, h5, h6, h7]

/-- the bucket at a later time -/
def atB (b : BK) (now : Int) : BK :=
  if RightB b ∧ b.2.2.2.1 < now ∧ now ≤ 1099511627776 then (b.1, b.2.1, min b.1 (b.2.2.1 + b.2.1 * (now - b.2.2.2.1)), now, ()) else b

theorem prod_bound {f d : Int} (hf : Ok40 f) (hd : 0 ≤ d) : 0 ≤ f * d := Int.mul_nonneg hf.1 hd

theorem at_eq (N : Nat) (b : BK) {now : Int} (hn : I64 now) : bucket_At N b now = some (atB b now) := by
  simp only [bucket_At, bucket_At_p1, bucket_At_p2, right_eq, Option.bind_some]
  unfold atB
  by_cases hr : RightB b
  · rw [cond_f (by simp [hr])]
    by_cases h1 : now ≤ b.2.2.2.1
    · rw [cond_t (dec_t h1), if_neg (by omega)]; rfl
    rw [cond_f (dec_f h1)]
    by_cases h2 : 1099511627776 < now
    · rw [cond_t (dec_t h2), if_neg (by omega)]
    rw [cond_f (dec_f h2), if_pos ⟨hr, by omega, by omega⟩]
    obtain ⟨⟨c0, c1⟩, ⟨f0, f1⟩, ⟨a0, a1⟩, g0, g1⟩ := hr
    have hp : 0 ≤ b.2.1 * (now - b.2.2.2.1) := Int.mul_nonneg f0 (by omega)
    rw [wrap_in (x := now - b.2.2.2.1) (by unfold I64; omega), sMul_eq _ (by unfold I64; omega) (by unfold I64; omega), Option.bind_some, sAdd_eq _ (by unfold I64; omega) (clip_i64 _), Option.bind_some]
    generalize b.2.1 * (now - b.2.2.2.1) = p at *
    have e : (if b.1 < clip (b.2.2.1 + clip p) then b.1 else clip (b.2.2.1 + clip p)) = min b.1 (b.2.2.1 + p) := by
      unfold clip
      repeat' split
      all_goals omega
    rw [e]
  · rw [cond_t (by simp [hr]), if_neg (fun h => hr h.1)]; rfl

theorem refAt_eq (N : Nat) (b : BK) {now : Int} (hn : I64 now) : porterref45_At N b now = some (atB b now) := by
  simp only [porterref45_At, porterref45_At_p1, porterref45_At_p2, porterref45_At_p3, porterref45_At_p4, refRight_eq, Option.bind_some]
  unfold atB
  by_cases hr : RightB b
  · rw [cond_f (by simp [hr])]
    by_cases h1 : now ≤ b.2.2.2.1
    · rw [cond_t (dec_t h1), if_neg (by omega)]; rfl
    rw [cond_f (dec_f h1)]
    by_cases h2 : 1099511627776 < now
    · rw [cond_t (dec_t h2), if_neg (by omega)]
    rw [cond_f (dec_f h2), if_pos ⟨hr, by omega, by omega⟩]
    obtain ⟨⟨c0, c1⟩, ⟨f0, f1⟩, ⟨a0, a1⟩, g0, g1⟩ := hr
    obtain ⟨c, f, h, t, u⟩ := b
    dsimp only at *
    have hp : 0 ≤ f * (now - t) := Int.mul_nonneg f0 (by omega)
    have w1 : IntKind.wrap .i64 (now - t) = now - t := wrap_in (by unfold I64; omega)
    have w2 : IntKind.wrap .i64 (c - h) = c - h := wrap_in (by unfold I64; omega)
    simp only [w1, w2, cond_false]
    by_cases hf : 0 < f
    · rw [cond_t (dec_t hf), cond_f (by simp; omega)]
      have hq : (c - h).tdiv f = (c - h) / f := Int.tdiv_eq_ediv_of_nonneg (by omega)
      have hq0 : 0 ≤ (c - h) / f := Int.ediv_nonneg (by omega) (by omega)
      have hq1 : (c - h) / f ≤ c - h := Int.ediv_le_self _ (by omega)
      have w3 : IntKind.wrap .i64 ((c - h) / f) = (c - h) / f := wrap_in (by unfold I64; omega)
      have hlt := Int.ediv_lt_iff_lt_mul (a := c - h) (b := now - t) hf
      rw [Int.mul_comm] at hlt
      simp only [hq, w3]
      by_cases hover : (c - h) / f < now - t
      · rw [cond_t (dec_t hover)]
        have := hlt.1 hover
        rw [show min c (h + f * (now - t)) = c by omega]
      · rw [cond_f (dec_f hover)]
        have : ¬ c - h < f * (now - t) := fun h => hover (hlt.2 h)
        have w4 : IntKind.wrap .i64 (f * (now - t)) = f * (now - t) := wrap_in (by unfold I64; omega)
        rw [w4, wrap_in (by unfold I64; omega), show min c (h + f * (now - t)) = h + f * (now - t) by omega]
    · rw [cond_f (dec_f hf)]
      have hf0 : f = 0 := by omega
      subst hf0
      rw [Int.zero_mul, wrap_in (x := 0) (by unfold I64; omega), Int.add_zero, wrap_in (by unfold I64; omega), show min c h = h by omega]
  · rw [cond_t (by simp [hr]), if_neg (fun h => hr h.1)]; rfl

theorem right_at {b : BK} (now : Int) (h : RightB b) : RightB (atB b now) := by
  unfold atB
  split
  · rename_i hc
    obtain ⟨⟨c0, c1⟩, ⟨f0, f1⟩, ⟨a0, a1⟩, g0, g1⟩ := h
    have hp : 0 ≤ b.2.1 * (now - b.2.2.2.1) := Int.mul_nonneg f0 (by omega)
    exact ⟨⟨c0, c1⟩, ⟨f0, f1⟩, ⟨by dsimp only; omega, by dsimp only; omega⟩, by dsimp only; omega, by dsimp only; omega⟩
  · exact h

def takeB (b : BK) (now : Int) : BK × Bool × Unit :=
  if RightB b ∧ 0 < (atB b now).2.2.1 then (((atB b now).1, (atB b now).2.1, (atB b now).2.2.1 - 1, (atB b now).2.2.2), true, ()) else (atB b now, false, ())

theorem right_back {b : BK} {now : Int} (h : RightB (atB b now)) : RightB b := by
  unfold atB at h
  split at h
  · rename_i hc; exact hc.1
  · exact h

theorem take_eq (N : Nat) (b : BK) {now : Int} (hn : I64 now) : bucket_Take N b now = some (takeB b now) := by
  simp only [bucket_Take, bucket_Take_p1, at_eq N b hn, Option.bind_some, right_eq]
  unfold takeB
  by_cases hr : RightB b
  · have hr' := right_at now hr
    rw [cond_t (dec_t hr')]
    obtain ⟨hc, _, _, g0, g1⟩ := hr'
    generalize atB b now = q at *
    obtain ⟨c, f, h, t, u⟩ := q
    dsimp only at *
    obtain ⟨q1, q2⟩ := hc
    rw [wrap_in (x := h - 1) (by unfold I64; omega)]
    have hm : (if (0 : Int) > h - 1 then (0 : Int) else h - 1) = max (h - 1) 0 := by split <;> omega
    rw [hm]
    by_cases h0 : 0 < h
    · rw [if_pos ⟨hr, h0⟩, show max (h - 1) 0 = h - 1 by omega]
      have : eqD tB (c, f, h - 1, t, u) (c, f, h, t, u) = false := by
        rw [Bool.eq_false_iff]
        intro e
        have := (eqD_iff tB _ _ rfl).1 e
        have h3 : h - 1 = h := congrArg (fun q : BK => q.2.2.1) this
        omega
      rw [this]; rfl
    · rw [if_neg (fun hh => h0 hh.2), show max (h - 1) 0 = h by omega, eqD_self (t := tB) rfl]
      rfl
  · have hr' : ¬ RightB (atB b now) := fun h => hr (right_back h)
    rw [cond_f (dec_f hr'), if_neg (fun h => hr h.1), eqD_self (t := tB) rfl]
    rfl

theorem refTake_eq (N : Nat) (b : BK) {now : Int} (hn : I64 now) : porterref45_Take N b now = some (takeB b now) := by
  simp only [porterref45_Take, refAt_eq N b hn, Option.bind_some, refRight_eq]
  unfold takeB
  by_cases hr : RightB b
  · rw [cond_f (by simp [hr])]
    obtain ⟨hc, _, _, g0, g1⟩ := right_at now hr
    generalize atB b now = q at *
    obtain ⟨c, f, h, t, u⟩ := q
    obtain ⟨q1, q2⟩ := hc
    dsimp only at *
    by_cases h0 : 0 < h
    · rw [if_pos ⟨hr, h0⟩, cond_f (by simp; omega), wrap_in (x := h - 1) (by unfold I64; omega)]
    · rw [if_neg (fun hh => h0 hh.2), cond_t (by simp; omega)]
  · rw [cond_t (by simp [hr]), if_neg (fun h => hr h.1)]
    have : atB b now = b := by unfold atB; rw [if_neg (fun h => hr h.1)]
    rw [this]

theorem bucketTells_true (k : Nat) (b : BK) {now : Int} (hn : I64 now) : porterlaw45_BucketTells k b now = some true := by
  simp only [porterlaw45_BucketTells, take_eq k b hn, refTake_eq k b hn, right_eq, refRight_eq, at_eq k b hn, refAt_eq k b hn, Option.bind_some, beq_self_eq_true, cond_true]
  rw [eqD_self (t := tB) rfl, eqD_self (t := tB) rfl, eqD_self (t := tB) rfl]
  rfl

theorem at_at {b : BK} {m n : Int} (hmn : m ≤ n) (hn : n ≤ 1099511627776) (hr : RightB b) : atB (atB b m) n = atB b n := by
  by_cases h1 : b.2.2.2.1 < m
  · have e1 : atB b m = (b.1, b.2.1, min b.1 (b.2.2.1 + b.2.1 * (m - b.2.2.2.1)), m, ()) := by unfold atB; rw [if_pos ⟨hr, h1, by omega⟩]
    have e2 : atB b n = (b.1, b.2.1, min b.1 (b.2.2.1 + b.2.1 * (n - b.2.2.2.1)), n, ()) := by unfold atB; rw [if_pos ⟨hr, by omega, by omega⟩]
    by_cases h2 : m < n
    · have hr1 := right_at m hr
      rw [e1] at hr1
      rw [e1, e2]
      unfold atB
      rw [if_pos ⟨hr1, h2, hn⟩]
      dsimp only
      have hd : b.2.1 * (n - b.2.2.2.1) = b.2.1 * (m - b.2.2.2.1) + b.2.1 * (n - m) := by rw [← Int.mul_add]; congr 1; omega
      have hp : 0 ≤ b.2.1 * (n - m) := Int.mul_nonneg hr.2.1.1 (by omega)
      congr 3
      omega
    · have : m = n := by omega
      subst this
      rw [e1]
      unfold atB
      rw [if_neg (by dsimp only; omega)]
  · have e1 : atB b m = b := by unfold atB; rw [if_neg (fun h => h1 h.2.1)]
    rw [e1]

theorem bucketOnce_true (k : Nat) (b : BK) {m n : Int} (hm : I64 m) (hn : I64 n) : porterlaw45_BucketOnce k b m n = some true := by
  simp only [porterlaw45_BucketOnce, porterlaw45_BucketOnce_p1, porterlaw45_BucketOnce_p2, right_eq, Option.bind_some]
  have w : some (decide ((0 : Int) ≤ 3)) = some true := rfl
  by_cases h1 : n < m
  · rw [cond_t (dec_t h1)]; rfl
  rw [cond_f (dec_f h1)]
  by_cases h2 : 1099511627776 < n
  · rw [cond_t (dec_t h2)]; rfl
  rw [cond_f (dec_f h2)]
  by_cases hr : RightB b
  · rw [cond_f (by simp [hr]), at_eq k b hm, Option.bind_some, at_eq k _ hn, Option.bind_some, at_eq k b hn, Option.bind_some, at_at (by omega) (by omega) hr, eqD_self (t := tB) rfl]
    rfl
  · rw [cond_t (by simp [hr])]; rfl

/-! what is taken within a window -/

def inWin (t from_ long : Int) : Bool := decide (from_ ≤ t ∧ t - from_ ≤ long)

/-- what holds of a bucket and of the count, all the time -/
structure Win (from_ long : Int) (b : BK) (n : Int) : Prop where
  right : RightB b
  pos : 0 ≤ n
  ahead : b.2.2.2.1 < from_ → n = 0
  most : n ≤ b.1 + b.2.1 * long
  now : from_ ≤ b.2.2.2.1 → b.2.2.2.1 - from_ ≤ long → n + b.2.2.1 ≤ b.1 + b.2.1 * (b.2.2.2.1 - from_)

theorem at_time {b : BK} (now : Int) (h : RightB b) : b.2.2.2.1 ≤ (atB b now).2.2.2.1 ∧ (atB b now).1 = b.1 ∧ (atB b now).2.1 = b.2.1 := by
  unfold atB; split
  · rename_i hc; exact ⟨by dsimp only; omega, rfl, rfl⟩
  · exact ⟨Int.le_refl _, rfl, rfl⟩

theorem win_at {from_ long : Int} {b : BK} {n : Int} (hf : 0 ≤ from_) (hl : 0 ≤ long) (h : Win from_ long b n) (now : Int) : Win from_ long (atB b now) n := by
  obtain ⟨hr, h0, ha, hm, hn⟩ := h
  have hr' := right_at now hr
  obtain ⟨ht, hc, hfi⟩ := at_time now hr
  have hr2 := hr'
  obtain ⟨⟨c0, c1⟩, ⟨f0, f1⟩, ⟨a0, a1⟩, g0, g1⟩ := hr
  unfold atB at *
  split at hr'
  · rename_i hcnd
    rw [if_pos hcnd] at *
    refine ⟨hr2, h0, fun h => ha (by dsimp only at h; omega), hm, fun h1 h2 => ?_⟩
    dsimp only at *
    by_cases h3 : b.2.2.2.1 < from_
    · have := ha h3
      have hp : 0 ≤ b.2.1 * (now - from_) := Int.mul_nonneg f0 (by omega)
      omega
    · have := hn (by omega) (by omega)
      have hd : b.2.1 * (now - from_) = b.2.1 * (b.2.2.2.1 - from_) + b.2.1 * (now - b.2.2.2.1) := by rw [← Int.mul_add]; congr 1; omega
      omega
  · rename_i hcnd
    rw [if_neg hcnd] at *
    exact ⟨hr2, h0, ha, hm, hn⟩

theorem win_take {from_ long : Int} {b : BK} {n : Int} (hf : 0 ≤ from_) (hl : 0 ≤ long) (h : Win from_ long b n) (now : Int) :
    Win from_ long (takeB b now).1 (if (takeB b now).2.1 = true ∧ inWin (takeB b now).1.2.2.2.1 from_ long = true then n + 1 else n) ∧ b.2.2.2.1 ≤ (takeB b now).1.2.2.2.1 := by
  have hw := win_at hf hl h now
  have ht := (at_time now h.right).1
  unfold takeB
  by_cases h0 : RightB b ∧ 0 < (atB b now).2.2.1
  · rw [if_pos h0]
    obtain ⟨hr, p0, ha, hm, hn⟩ := hw
    generalize atB b now = q at *
    obtain ⟨c, f, x, t, u⟩ := q
    obtain ⟨⟨c0, c1⟩, ⟨f0, f1⟩, ⟨a0, a1⟩, g0, g1⟩ := hr
    dsimp only at *
    refine ⟨?_, ht⟩
    by_cases hin : from_ ≤ t ∧ t - from_ ≤ long
    · rw [if_pos ⟨rfl, by simp only [inWin, decide_eq_true_eq]; exact hin⟩]
      have := hn hin.1 hin.2
      have hp : f * long = f * (t - from_) + f * (long - (t - from_)) := by rw [← Int.mul_add]; congr 1; omega
      have hp0 : 0 ≤ f * (long - (t - from_)) := Int.mul_nonneg f0 (by omega)
      exact ⟨⟨⟨c0, c1⟩, ⟨f0, f1⟩, ⟨a0, a1⟩, by dsimp only; omega, by dsimp only; omega⟩, by omega, fun hh => by dsimp only at hh; omega, by dsimp only; omega, fun _ _ => by dsimp only; omega⟩
    · rw [if_neg (fun hh => hin (by simpa [inWin] using hh.2))]
      exact ⟨⟨⟨c0, c1⟩, ⟨f0, f1⟩, ⟨a0, a1⟩, by dsimp only; omega, by dsimp only; omega⟩, p0, ha, hm, fun h1 h2 => absurd ⟨h1, h2⟩ hin⟩
  · rw [if_neg h0]
    refine ⟨?_, ht⟩
    rw [if_neg (fun hh => by cases hh.1)]
    exact hw

theorem bucketWindow_true (k : Nat) (b : BK) {times : List Int} {l : List Int} (hl : l.length = 2) (hli : ∀ x ∈ l, I64 x) (ht : ∀ x ∈ times, I64 x) : porterlaw45_BucketWindow (k + 100) b times l = some true := by
  have w : decide ((0 : Int) ≤ 3) = true := rfl
  obtain ⟨from_, long, rfl⟩ : ∃ x y, l = [x, y] := by
    match l, hl with
    | [x, y], _ => exact ⟨x, y, rfl⟩
  have hfi := hli from_ (by simp)
  have hlo := hli long (by simp)
  simp only [porterlaw45_BucketWindow, porterlaw45_BucketWindow_p1, porterlaw45_BucketWindow_p2, right_eq, Option.bind_some, w, List.getD_cons_zero, List.getD_cons_succ, List.length_cons, List.length_nil]
  have l0 : decide (0 < 0 + 1 + 1) = true := rfl
  have l1 : decide (1 < 0 + 1 + 1) = true := rfl
  simp only [l0, l1, cond_true]
  by_cases hr : RightB b
  · rw [cond_f (by simp [hr])]
    by_cases h1 : 60 < times.length
    · rw [cond_t (dec_t (by omega))]
    rw [cond_f (dec_f (by omega))]
    by_cases h2 : from_ < 0
    · rw [cond_t (dec_t h2)]
    rw [cond_f (dec_f h2)]
    by_cases h3 : 1099511627776 < from_
    · rw [cond_t (dec_t h3)]
    rw [cond_f (dec_f h3)]
    by_cases h4 : long < 0
    · rw [cond_t (dec_t h4)]
    rw [cond_f (dec_f h4)]
    by_cases h5 : 1099511627776 < long
    · rw [cond_t (dec_t h5)]
    rw [cond_f (dec_f h5)]
    simp only [porterlaw45_BucketWindow_p3]
    have hstart : Win from_ long b 0 := by
      obtain ⟨⟨c0, c1⟩, ⟨f0, f1⟩, ⟨a0, a1⟩, g0, g1⟩ := hr
      have hp : 0 ≤ b.2.1 * long := Int.mul_nonneg f0 (by omega)
      refine ⟨⟨⟨c0, c1⟩, ⟨f0, f1⟩, ⟨a0, a1⟩, g0, g1⟩, by omega, fun _ => rfl, by omega, fun h _ => ?_⟩
      have hp : 0 ≤ b.2.1 * (b.2.2.2.1 - from_) := Int.mul_nonneg f0 (by omega)
      omega
    refine iter_post (I := fun (v : BK × Int × Int × Int) => Win from_ long v.1 v.2.1 ∧ v.2.2.1 = v.1.2.2.2.1 ∧ v.2.1 ≤ v.2.2.2 ∧ 0 ≤ v.2.2.2 ∧ v.2.2.2 ≤ ((times.length : Nat) : Int)) (m := fun (v : BK × Int × Int × Int) => times.length - v.2.2.2.toNat) (p := fun o => o = some true) ?_ (k + 100) _ ⟨hstart, rfl, by dsimp only; omega, by dsimp only; omega, by dsimp only; omega⟩ (by dsimp only; omega)
    rintro ⟨c, n, last, j⟩ r ⟨hw, hlast, hnj, h0, hj⟩ hrec
    dsimp only at *
    subst hlast
    obtain ⟨i, rfl⟩ := Int.eq_ofNat_of_zero_le h0
    simp only [porterlaw45_BucketWindow_s3, porterlaw45_BucketWindow_p4, porterlaw45_BucketWindow_p5, porterlaw45_BucketWindow_p6, porterlaw45_BucketWindow_p7, Int.toNat_natCast] at *
    by_cases hlt : i < times.length
    · have hti := ht _ (getD_mem times 0 i hlt)
      obtain ⟨hw2, htime⟩ := win_take (by omega) (by omega) hw (times.getD i 0)
      rw [cond_t (dec_t (by omega)), cond_t (inR_nat hlt), take_eq _ c hti, Option.bind_some, wrap_succ (by omega)]
      generalize takeB c (times.getD i 0) = q at *
      obtain ⟨d, is_, u⟩ := q
      dsimp only at *
      have hrd := hw2.right
      rw [right_eq, Option.bind_some, cond_f (by simp [hrd]), cond_f (dec_f (by omega)), wrap_in (x := n + 1) (by unfold I64; have := hw.pos; omega)]
      have hat : I64 d.2.2.2.1 := by unfold I64; have := hrd.2.2.1.1; have := hrd.2.2.1.2; omega
      have hwr : IntKind.wrap .i64 (d.2.2.2.1 - from_) = d.2.2.2.1 - from_ := wrap_in (by unfold I64; have := hrd.2.2.1.1; have := hrd.2.2.1.2; omega)
      simp only [hwr]
      by_cases his : is_ = true
      · subst his
        rw [cond_true]
        by_cases hf : from_ ≤ d.2.2.2.1
        · rw [cond_t (dec_t hf)]
          by_cases hlg : d.2.2.2.1 - from_ ≤ long
          · rw [cond_t (dec_t hlg)]
            rw [if_pos ⟨rfl, by simp only [inWin, decide_eq_true_eq]; exact ⟨hf, hlg⟩⟩] at hw2
            exact hrec (d, n + 1, d.2.2.2.1, ((i + 1 : Nat) : Int)) ⟨hw2, rfl, by dsimp only; omega, by dsimp only; omega, by dsimp only; omega⟩ (by dsimp only; omega)
          · rw [cond_f (dec_f hlg)]
            rw [if_neg (fun hh => hlg (by have := hh.2; simp only [inWin, decide_eq_true_eq] at this; exact this.2))] at hw2
            exact hrec (d, n, d.2.2.2.1, ((i + 1 : Nat) : Int)) ⟨hw2, rfl, by dsimp only; omega, by dsimp only; omega, by dsimp only; omega⟩ (by dsimp only; omega)
        · rw [cond_f (dec_f hf), cond_false]
          rw [if_neg (fun hh => hf (by have := hh.2; simp only [inWin, decide_eq_true_eq] at this; exact this.1))] at hw2
          exact hrec (d, n, d.2.2.2.1, ((i + 1 : Nat) : Int)) ⟨hw2, rfl, by dsimp only; omega, by dsimp only; omega, by dsimp only; omega⟩ (by dsimp only; omega)
      · have his : is_ = false := by simpa using his
        subst his
        rw [cond_false, cond_false]
        rw [if_neg (fun hh => by cases hh.1)] at hw2
        exact hrec (d, n, d.2.2.2.1, ((i + 1 : Nat) : Int)) ⟨hw2, rfl, by dsimp only; omega, by dsimp only; omega, by dsimp only; omega⟩ (by dsimp only; omega)
    · rw [cond_f (dec_f (by omega))]
      obtain ⟨⟨⟨c0, c1⟩, ⟨f0, f1⟩, _, _, _⟩, p0, _, hm, _⟩ := hw
      by_cases hn : n ≤ c.1
      · rw [cond_t (dec_t hn)]
      rw [cond_f (dec_f hn)]
      have hmax : (if c.2.1 > 1 then c.2.1 else (1 : Int)) = max c.2.1 1 := by split <;> omega
      have hfp : 0 < c.2.1 := by
        rcases Int.lt_or_le 0 c.2.1 with h | h
        · exact h
        · have : c.2.1 = 0 := by omega
          rw [this, Int.zero_mul] at hm; omega
      have w1 : IntKind.wrap .i64 (n - c.1) = n - c.1 := wrap_in (by unfold I64; omega)
      have w2 : IntKind.wrap .i64 (n - c.1 - 1) = n - c.1 - 1 := wrap_in (by unfold I64; omega)
      have hq : (n - c.1 - 1).tdiv c.2.1 = (n - c.1 - 1) / c.2.1 := Int.tdiv_eq_ediv_of_nonneg (by omega)
      have hq0 : 0 ≤ (n - c.1 - 1) / c.2.1 := Int.ediv_nonneg (by omega) (by omega)
      have hq1 : (n - c.1 - 1) / c.2.1 ≤ n - c.1 - 1 := Int.ediv_le_self _ (by omega)
      have w3 : IntKind.wrap .i64 ((n - c.1 - 1) / c.2.1) = (n - c.1 - 1) / c.2.1 := wrap_in (by unfold I64; omega)
      have hlt2 : (n - c.1 - 1) / c.2.1 < long := by
        rw [Int.ediv_lt_iff_lt_mul hfp, Int.mul_comm]; omega
      rw [hmax, show max c.2.1 1 = c.2.1 by omega]
      simp only [w1, w2, hq, w3]
      rw [cond_f (by simp; omega), cond_t (dec_t hlt2), cond_t (dec_t hfp)]
  · rw [cond_t (by simp [hr])]
end Go.Proofs.YtjhjhfmemipflaaLf
