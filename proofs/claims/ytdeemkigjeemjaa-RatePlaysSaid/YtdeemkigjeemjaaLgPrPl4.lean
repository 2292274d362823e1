import Derived.Test.YtdeemkigjeemjaaLgPrPl3
set_option linter.all false
namespace Go.Proofs.YtdeemkigjeemjaaLg
noncomputable section
open Go Go.Lift Go.Proofs.YtdeemkigjeemjaaPx

abbrev BK : Type := Int × Int × Int × Int × Unit
abbrev tB : T := .pair (.int .i64) (.pair (.int .i64) (.pair (.int .i64) (.pair (.int .i64) .unit)))

def zno (n : Int) : Prop := 0 <= n /\ n <= 1099511627776
def z7f (b : BK) : Prop := zno b.1 /\ zno b.2.1 /\ zno b.2.2.2.1 /\ 0 <= b.2.2.1 /\ b.2.2.1 <= b.1
instance (n : Int) : Decidable (zno n) := by unfold zno; infer_instance
instance (b : BK) : Decidable (z7f b) := by unfold z7f; infer_instance
theorem zvt (N : Nat) (n : Int) : z38 N n = some (decide (zno n)) := by
  unfold z38 zno
  by_cases h : 0 <= n
  . rw [zw (z2v h)]; simp [h]
  . rw [z13 (z3k h)]; simp [h]

theorem ztf (N : Nat) (b : BK) : z5r N b = some (decide (z7f b)) := by
  simp only [z5r, zvt, Option.bind_some, z7f]
  by_cases h1 : zno b.1 <;> by_cases h2 : zno b.2.1 <;> by_cases h3 : zno b.2.2.2.1 <;> by_cases h4 : 0 <= b.2.2.1 <;> simp [h1, h2, h3, h4]

theorem zln (N : Nat) (b : BK) : z26 N b = some (decide (z7f b)) := by
  simp only [z26, z7f, zno, Bool.cond_eq_ite, decide_eq_true_eq]
  by_cases h1 : 0 <= b.1 <;> by_cases h2 : b.1 <= 1099511627776 <;> by_cases h3 : 0 <= b.2.1 <;> by_cases h4 : b.2.1 <= 1099511627776 <;> by_cases h5 : 0 <= b.2.2.1 <;> by_cases h6 : b.2.2.1 <= b.1 <;> by_cases h7 : 0 <= b.2.2.2.1 <;> simp [h1, h2, h3, h4, h5, h6, h7]

def atB (b : BK) (now : Int) : BK :=
 if z7f b /\ b.2.2.2.1 < now /\ now <= 1099511627776 then (b.1, b.2.1, min b.1 (b.2.2.1 + b.2.1 * (now - b.2.2.2.1)), now, ()) else b

theorem z127 (N : Nat) (b : BK) {now : Int} (hn : I64 now) : z4o N b now = some (atB b now) := by
  simp only [z4o, zf2, zf1, ztf, Option.bind_some]
  unfold atB
  by_cases hr : z7f b
  . rw [z13 (by simp [hr])]
    by_cases h1 : now <= b.2.2.2.1
    . rw [zw (z2v h1), if_neg (by omega)]; rfl
    rw [z13 (z3k h1)]
    by_cases h2 : 1099511627776 < now
    . rw [zw (z2v h2), if_neg (by omega)]
    rw [z13 (z3k h2), if_pos ⟨hr, by omega, by omega⟩]
    obtain ⟨⟨c0, c1⟩, ⟨f0, f1⟩, ⟨a0, a1⟩, g0, g1⟩ := hr
    have hp : 0 <= b.2.1 * (now - b.2.2.2.1) := Int.mul_nonneg f0 (by omega)
    rw [z4s (x := now - b.2.2.2.1) (by unfold I64; omega), zyj _ (by unfold I64; omega) (by unfold I64; omega), Option.bind_some, zym _ (by unfold I64; omega) (zze _), Option.bind_some]
    generalize b.2.1 * (now - b.2.2.2.1) = p at *
    have e : (if b.1 < zq1 (b.2.2.1 + zq1 p) then b.1 else zq1 (b.2.2.1 + zq1 p)) = min b.1 (b.2.2.1 + p) := by
      unfold zq1
      repeat' split
      all_goals omega
    rw [e]
  . rw [zw (by simp [hr]), if_neg (fun h => hr h.1)]; rfl

theorem ztl (N : Nat) (b : BK) {now : Int} (hn : I64 now) : z3f N b now = some (atB b now) := by
  simp only [z3f, z6l, z6k, z6j, z6i, zln, Option.bind_some]
  unfold atB
  by_cases hr : z7f b
  . rw [z13 (by simp [hr])]
    by_cases h1 : now <= b.2.2.2.1
    . rw [zw (z2v h1), if_neg (by omega)]; rfl
    rw [z13 (z3k h1)]
    by_cases h2 : 1099511627776 < now
    . rw [zw (z2v h2), if_neg (by omega)]
    rw [z13 (z3k h2), if_pos ⟨hr, by omega, by omega⟩]
    obtain ⟨⟨c0, c1⟩, ⟨f0, f1⟩, ⟨a0, a1⟩, g0, g1⟩ := hr
    obtain ⟨c, f, h, t, u⟩ := b
    dsimp only at *
    have hp : 0 <= f * (now - t) := Int.mul_nonneg f0 (by omega)
    have w1 : IntKind.wrap .i64 (now - t) = now - t := z4s (by unfold I64; omega)
    have w2 : IntKind.wrap .i64 (c - h) = c - h := z4s (by unfold I64; omega)
    simp only [w1, w2, cond_false]
    by_cases hf : 0 < f
    . rw [zw (z2v hf), z13 (by simp; omega)]
      have hq : (c - h).tdiv f = (c - h) / f := Int.tdiv_eq_ediv_of_nonneg (by omega)
      have hq0 : 0 <= (c - h) / f := Int.ediv_nonneg (by omega) (by omega)
      have hq1 : (c - h) / f <= c - h := Int.ediv_le_self _ (by omega)
      have w3 : IntKind.wrap .i64 ((c - h) / f) = (c - h) / f := z4s (by unfold I64; omega)
      have hlt := Int.ediv_lt_iff_lt_mul (a := c - h) (b := now - t) hf
      rw [Int.mul_comm] at hlt
      simp only [hq, w3]
      by_cases hover : (c - h) / f < now - t
      . rw [zw (z2v hover)]
        have := hlt.1 hover
        rw [show min c (h + f * (now - t)) = c by omega]
      . rw [z13 (z3k hover)]
        have : ¬ c - h < f * (now - t) := fun h => hover (hlt.2 h)
        have w4 : IntKind.wrap .i64 (f * (now - t)) = f * (now - t) := z4s (by unfold I64; omega)
        rw [w4, z4s (by unfold I64; omega), show min c (h + f * (now - t)) = h + f * (now - t) by omega]
    . rw [z13 (z3k hf)]
      have hf0 : f = 0 := by omega
      subst hf0
      rw [Int.zero_mul, z4s (x := 0) (by unfold I64; omega), Int.add_zero, z4s (by unfold I64; omega), show min c h = h by omega]
  . rw [zw (by simp [hr]), if_neg (fun h => hr h.1)]; rfl

theorem ztg {b : BK} (now : Int) (h : z7f b) : z7f (atB b now) := by
  unfold atB
  split
  . rename_i hc
    obtain ⟨⟨c0, c1⟩, ⟨f0, f1⟩, ⟨a0, a1⟩, g0, g1⟩ := h
    have hp : 0 <= b.2.1 * (now - b.2.2.2.1) := Int.mul_nonneg f0 (by omega)
    exact ⟨⟨c0, c1⟩, ⟨f0, f1⟩, ⟨by dsimp only; omega, by dsimp only; omega⟩, by dsimp only; omega, by dsimp only; omega⟩
  . exact h

def zn1 (b : BK) (now : Int) : BK × Bool × Unit :=
 if z7f b /\ 0 < (atB b now).2.2.1 then (((atB b now).1, (atB b now).2.1, (atB b now).2.2.1 - 1, (atB b now).2.2.2), true, ()) else (atB b now, false, ())

theorem zun {b : BK} {now : Int} (h : z7f (atB b now)) : z7f b := by
  unfold atB at h
  split at h
  . rename_i hc; exact hc.1
  . exact h

theorem z10u (N : Nat) (b : BK) {now : Int} (hn : I64 now) : z39 N b now = some (zn1 b now) := by
  simp only [z39, zab, z127 N b hn, Option.bind_some, ztf]
  unfold zn1
  by_cases hr : z7f b
  . have hr' := ztg now hr
    rw [zw (z2v hr')]
    obtain ⟨hc, _, _, g0, g1⟩ := hr'
    generalize atB b now = q at *
    obtain ⟨c, f, h, t, u⟩ := q
    dsimp only at *
    obtain ⟨q1, q2⟩ := hc
    rw [z4s (x := h - 1) (by unfold I64; omega)]
    have hm : (if (0 : Int) > h - 1 then (0 : Int) else h - 1) = max (h - 1) 0 := by split <;> omega
    rw [hm]
    by_cases h0 : 0 < h
    . rw [if_pos ⟨hr, h0⟩, show max (h - 1) 0 = h - 1 by omega]
      have : eqD tB (c, f, h - 1, t, u) (c, f, h, t, u) = false := by
        rw [Bool.eq_false_iff]
        intro e
        have := (zjk tB _ _ rfl).1 e
        have h3 : h - 1 = h := congrArg (fun q : BK => q.2.2.1) this
        omega
      rw [this]; rfl
    . rw [if_neg (fun hh => h0 hh.2), show max (h - 1) 0 = h by omega, zu0 (t := tB) rfl]
      rfl
  . have hr' : ¬ z7f (atB b now) := fun h => hr (zun h)
    rw [z13 (z3k hr'), if_neg (fun h => hr h.1), zu0 (t := tB) rfl]
    rfl

theorem zo7 (N : Nat) (b : BK) {now : Int} (hn : I64 now) : z2d N b now = some (zn1 b now) := by
  simp only [z2d, ztl N b hn, Option.bind_some, zln]
  unfold zn1
  by_cases hr : z7f b
  . rw [z13 (by simp [hr])]
    obtain ⟨hc, _, _, g0, g1⟩ := ztg now hr
    generalize atB b now = q at *
    obtain ⟨c, f, h, t, u⟩ := q
    obtain ⟨q1, q2⟩ := hc
    dsimp only at *
    by_cases h0 : 0 < h
    . rw [if_pos ⟨hr, h0⟩, z13 (by simp; omega), z4s (x := h - 1) (by unfold I64; omega)]
    . rw [if_neg (fun hh => h0 hh.2), zw (by simp; omega)]
  . rw [zw (by simp [hr]), if_neg (fun h => hr h.1)]
    have : atB b now = b := by unfold atB; rw [if_neg (fun h => hr h.1)]
    rw [this]


end
end Go.Proofs.YtdeemkigjeemjaaLg
