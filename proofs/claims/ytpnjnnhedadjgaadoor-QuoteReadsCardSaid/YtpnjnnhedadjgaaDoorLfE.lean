/- What it means that a small program of LfD ends, and what follows of the memory: reading operands. -/
import Derived.Test.YtpnjnnhedadjgaaDoorLfD
set_option linter.all false
namespace Go.Lift

def exec {α : Type} (E : Env) (c : Cmd α) (st : List A) (fp : FP) : Option (α × List A × FP) := c.cps E st fp fun a st fp => some (a, st, fp)

theorem cps_eq {α β : Type} (E : Env) (c : Cmd α) : ∀ (st : List A) (fp : FP) (K : α → List A → FP → Option β), c.cps E st fp K = (exec E c st fp).bind fun r => K r.1 r.2.1 r.2.2 := by
  induction c with
  | ret a => intro st fp K; rfl
  | fail => intro st fp K; rfl
  | get t k ih => intro st fp K; simp only [Cmd.cps, exec]; rw [ih]; rfl
  | set t x k ih => intro st fp K; simp only [Cmd.cps, exec]; cases okSet E st t x <;> simp only [cond]; · rfl
                    · rw [ih]; rfl
  | cont r x k ih => intro st fp K; simp only [Cmd.cps, exec]; cases Nat.blt r st.length <;> simp only [cond]; · rfl
                     · rw [ih]; rfl
  | retire r k ih => intro st fp K; simp only [Cmd.cps, exec]; rw [ih]; rfl
  | test b x y ihx ihy => intro st fp K; simp only [Cmd.cps, exec]; cases b <;> simp only [cond]; · rw [ihy]; rfl
                          · rw [ihx]; rfl
  | call f args k ih =>
    intro st fp K
    simp only [Cmd.cps, exec]
    cases (E.fn f args).val with
    | none => rfl
    | some x => simp only [Option.bind_some]; rw [ih]; rfl
  | guard d x y z ihx ihy ihz =>
    intro st fp K
    simp only [exec, Cmd.cps]
    split
    · rename_i b _
      cases b
      · simp only [cond]; rw [ihy]; rfl
      · simp only [cond]; rw [ihx]; rfl
    · rw [ihz]; rfl
    · rfl

section
variable {E : Env} {α : Type} {st : List A} {fp : FP} {r : α × List A × FP}

theorem exec_ret {a : α} (h : exec E (.ret a) st fp = some r) : r = (a, st, fp) := by simpa [exec, Cmd.cps] using h.symm
theorem exec_fail (h : exec E (.fail : Cmd α) st fp = some r) : False := by simp [exec, Cmd.cps] at h
theorem exec_get {t : Nat} {k : A → Cmd α} (h : exec E (.get t k) st fp = some r) : ∃ fp', exec E (k (st.getD t .dead)) st fp' = some r := ⟨_, h⟩
theorem exec_set {t : Nat} {x : A} {k : Cmd α} (h : exec E (.set t x k) st fp = some r) : okSet E st t x = true ∧ ∃ fp', exec E k (setSt st t x) fp' = some r := by
  simp only [exec, Cmd.cps] at h
  cases hk : okSet E st t x <;> rw [hk] at h
  · simp at h
  · exact ⟨rfl, _, h⟩
theorem exec_cont {t : Nat} {x : A} {k : Cmd α} (h : exec E (.cont t x k) st fp = some r) : t < st.length ∧ ∃ fp', exec E k (st.set t x) fp' = some r := by
  simp only [exec, Cmd.cps] at h
  cases hk : Nat.blt t st.length <;> rw [hk] at h
  · simp at h
  · exact ⟨by simpa using hk, _, h⟩
theorem exec_retire {t : Nat} {k : Cmd α} (h : exec E (.retire t k) st fp = some r) : ∃ fp', exec E k (retSt st t) fp' = some r := ⟨_, h⟩
theorem exec_test {b : Bool} {x y : Cmd α} (h : exec E (.test b x y) st fp = some r) : (b = true ∧ exec E x st fp = some r) ∨ (b = false ∧ exec E y st fp = some r) := by
  simp only [exec, Cmd.cps] at h
  cases b
  · exact .inr ⟨rfl, h⟩
  · exact .inl ⟨rfl, h⟩
theorem exec_guard {b : Bool} {x : Cmd α} (h : exec E (.test b x .fail) st fp = some r) : b = true ∧ exec E x st fp = some r := by
  rcases exec_test h with h | ⟨_, h⟩
  · exact h
  · exact (exec_fail h).elim
theorem exec_call {f : FuncId} {args : List A} {k : A → List A → Cmd α} (h : exec E (.call f args k) st fp = some r) :
    ∃ x, (E.fn f args).val = some x ∧ exec E (k ((E.fn f args).out x).1 ((E.fn f args).out x).2) st fp = some r := by
  simp only [exec, Cmd.cps] at h
  cases hv : (E.fn f args).val with
  | none => rw [hv] at h; simp at h
  | some x => rw [hv] at h; exact ⟨x, rfl, h⟩
theorem set_getD {st : List A} {d : Nat} {x : A} (h : st.getD d .dead = x) (hx : x ≠ .dead) : st.set d x = st := by
  have hd : st[d]? = some x := by
    simp only [List.getD] at h
    cases hs : st[d]? with
    | none => simp [hs] at h; exact absurd h.symm hx
    | some y => simp [hs] at h; rw [h]
  apply List.ext_getElem?
  intro i
  by_cases hi : d = i
  · subst hi
    have : d < st.length := by
      rcases Nat.lt_or_ge d st.length with h | h
      · exact h
      · rw [List.getElem?_eq_none h] at hd; cases hd
    rw [List.getElem?_set_self this, hd]
  · rw [List.getElem?_set_ne hi]

/-- where a guard is asked: it says true, false, or it was not reached -/
theorem exec_guardAt {d : Nat} {x y z : Cmd α} (h : exec E (.guard d x y z) st fp = some r) :
    (st.getD d .dead = .v .bool true ∧ ∃ fp', exec E x st fp' = some r) ∨ (st.getD d .dead = .v .bool false ∧ ∃ fp', exec E y st fp' = some r) ∨ (st.getD d .dead = .tup [] ∧ ∃ fp', exec E z st fp' = some r) := by
  simp only [exec, Cmd.cps] at h
  split at h
  · rename_i b hb
    cases b
    · simp only [cond] at h
      rw [set_getD hb (by simp)] at h
      exact .inr (.inl ⟨hb, _, h⟩)
    · simp only [cond] at h
      rw [set_getD hb (by simp)] at h
      exact .inl ⟨hb, _, h⟩
  · rename_i hb; exact .inr (.inr ⟨hb, _, h⟩)
  · cases h
end

def aggDesc : TypeDesc → Bool
  | .struct _ | .array .. => true
  | _ => false

def noHp : Hp := fun _ => none

structure TyOk (P : Program) (i : TypeId) (e : TyI) : Prop where
  und : P.underlying i = some e.desc
  info : ∃ inf, P.info? i = some inf ∧ inf.size = e.size ∧ inf.bytes = e.bytes ∧ ∃ z, inf.zero = some z ∧ VR noHp e.t e.zero z
  size : e.t.size = e.size
  agg : aggDesc e.desc = e.t.isAgg
  cmp : e.cmp = true → P.stoodInHeld i = false ∧ P.eqGuardType P.depth i = false

/-- the boxes that are handed to a callee, and the data -/
structure ArgsRel (h S : Hp) (args : List A) (vals : List Value) (ob : Nat → Option Nat) : Prop where
  len : args.length = vals.length
  rel : ∀ (i : Nat) (x : A), args[i]? = some x → (∃ v, vals[i]? = some v ∧ ARel h S (fun _ => undef) x v (ob i)) ∧ x.ref = none
  out : ∀ i, args.length ≤ i → ob i = none
  inj : ∀ i j b, ob i = some b → ob j = some b → i = j
  hid : ∀ i b, ob i = some b → S b = none

def GlobOk (glob : Nat → Option Dat) (S : Hp) : Prop := ∀ g d, glob g = some d → VR S (.ptr d.1) d.2 (.pointer (some ⟨g, 0, none⟩))

def isBoxA : A → Bool
  | .box .. => true
  | _ => false

/-- what a call does, if the plain function ends -/
def Contract (P : Program) (glob : Nat → Option Dat) (f : FuncId) (g : List A → Res) : Prop :=
  (∃ fn, P.funcs[f]? = some fn ∧ fn.body.isSome = true ∧ fn.name ≠ "runtime.NumGoroutine") ∧
  ∀ (w : World) (S : Hp) (args : List A) (vals : List Value) (ob : Nat → Option Nat), ArgsRel (hp w) S args vals ob → Sub S (hp w) → GlobOk glob S →
    ∀ y, (g args).val = some y → Calls P f vals.toArray w fun e w' =>
      ∃ v S' o, e = .returned v ∧ WF w (fun b => ∃ i, ob i = some b) w' ∧ Sub S S' ∧ Sub S' (hp w') ∧
        (∀ b, S' b ≠ none → S b ≠ none ∨ (∃ i, ob i = some b) ∨ w.heap.size ≤ b) ∧
        (ARel (hp w') S' (fun _ => undef) ((g args).out y).1 v o ∧ ((g args).out y).1.ref = none) ∧
        (∀ b, o = some b → S' b = none ∧ w.heap.size ≤ b) ∧
        (∀ i x, args[i]? = some x → isBoxA x = true → ∃ x' v, ((g args).out y).2[i]? = some x' ∧ vals[i]? = some v ∧ isBoxA x' = true ∧ ARel (hp w') S' (fun _ => undef) x' v (ob i)) ∧
        (∀ i b, ob i = some b → S' b = none)

structure EnvOk (P : Program) (E : Env) : Prop where
  ty : ∀ i e, E.ty i = some e → TyOk P i e
  fn : ∀ f, (∀ args, (E.fn f args).val = none) ∨ Contract P E.glob f (E.fn f)
  mixed : P.follows .mixedOrders = true

/-! ## reading operands -/

theorem GlobOk.mono {glob : Nat → Option Dat} {S S' : Hp} (h : Sub S S') (hg : GlobOk glob S) : GlobOk glob S' := fun g d e => (hg g d e).mono h

theorem ofConst_rel {v : Value} {x : A} (h : ofConst v = some x) (H S : Hp) (tv : Nat → Value) : ARel H S tv x v none ∧ x.ref = none ∧ x.own = false := by
  have opq : ∀ v : Value, v.oneCell' = true → ARel H S tv (.v .opq v) v none ∧ (A.v .opq v).ref = none ∧ (A.v .opq v).own = false := fun v hv => ⟨⟨VR.of_one rfl ⟨rfl, hv⟩, rfl⟩, rfl, rfl⟩
  cases v <;> simp only [ofConst, Option.some.injEq, reduceCtorEq] at h <;> (try (subst h; exact opq _ rfl))
  · subst h; exact ⟨⟨VR.bool, rfl⟩, rfl, rfl⟩
  · subst h; exact ⟨⟨VR.int, rfl⟩, rfl, rfl⟩
  · subst h; exact ⟨⟨VR.of_one rfl rfl, rfl⟩, rfl, rfl⟩
  · rename_i a len cap
    split at h
    all_goals (first | (simp at h; done) | skip)
    all_goals (simp only [Option.some.injEq] at h; subst h)
    all_goals (first | exact opq _ rfl | skip)
    all_goals simp_all [ARel, A.ref, A.own]

section
variable {E : Env} {α : Type} {c : Ctx} {st : List A} {fp : FP} {r : α × List A × FP} {a : Act} {w : World} {S : Hp} {ob : Nat → Option Nat}

theorem getD_at {st : List A} {t : Nat} {x : A} (h : st.getD t .dead = x) (hx : x ≠ .dead) : st[t]? = some x := by
  simp only [List.getD] at h
  cases hs : st[t]? with
  | none => simp [hs] at h; exact absurd h.symm hx
  | some y => simp [hs] at h; rw [h]

/-- an operand is read -/
theorem rdK_inv {x : Operand} {k : A → Cmd α} (h : exec E (rdK E x k) st fp = some r) (hs : SimD c st a w S ob) (hg : GlobOk E.glob S) :
    ∃ A fp', exec E (k A) st fp' = some r ∧ ARel (hp w) S (tv a) A (a.eval x) none ∧ A.own = false ∧ A ≠ .dead ∧ ∀ s, A.ref = some s → ∃ y : Lift.A, st[s]? = some y ∧ y.own = true := by
  cases x with
  | tmp t =>
    simp only [rdK] at h
    obtain ⟨fp', h⟩ := exec_get h
    have own : ∀ y : Lift.A, st.getD t .dead = y → y.own = true → exec E (k (.bor t)) st fp' = some r →
        ∃ A fp', exec E (k A) st fp' = some r ∧ ARel (hp w) S (tv a) A (a.eval (.tmp t)) none ∧ A.own = false ∧ A ≠ .dead ∧ ∀ s, A.ref = some s → ∃ y : Lift.A, st[s]? = some y ∧ y.own = true := by
      intro y hy ho hk
      refine ⟨.bor t, fp', hk, ⟨rfl, rfl⟩, rfl, by simp, fun s e => ?_⟩
      simp [A.ref] at e; subst e
      exact ⟨y, getD_at hy (fun e => by subst e; simp [A.own] at ho), ho⟩
    have oth : ∀ y : Lift.A, st.getD t .dead = y → y.own = false → y ≠ .dead → exec E (k y) st fp' = some r →
        ∃ A fp', exec E (k A) st fp' = some r ∧ ARel (hp w) S (tv a) A (a.eval (.tmp t)) none ∧ A.own = false ∧ A ≠ .dead ∧ ∀ s, A.ref = some s → ∃ y : Lift.A, st[s]? = some y ∧ y.own = true := by
      intro y hy ho hd hk
      have hat := getD_at hy hd
      have hrel := hs.rel t y hat
      refine ⟨y, fp', hk, ?_, ho, hd, fun s e => hs.refs t y s hat e⟩
      have := hrel.none_of_not_own ho
      rw [this] at hrel; exact hrel
    generalize hy : st.getD t .dead = y at h
    cases y <;> dsimp only at h <;> first
      | exact own _ hy rfl h
      | exact (exec_fail h).elim
      | exact oth _ hy rfl (by simp) h
  | const v =>
    simp only [rdK] at h
    split at h
    · rename_i A hA
      obtain ⟨h1, h2, h3⟩ := ofConst_rel hA (hp w) S (tv a)
      exact ⟨A, fp, h, h1, h3, fun e => by subst e; cases v <;> simp [ofConst] at hA; split at hA <;> simp at hA, fun s e => by rw [h2] at e; cases e⟩
    · exact (exec_fail h).elim
  | global g =>
    simp only [rdK] at h
    split at h
    · rename_i d hd
      exact ⟨_, fp, h, ⟨hg g d hd, rfl⟩, rfl, by simp, fun s e => by simp [A.ref] at e⟩
    · exact (exec_fail h).elim
  | func f =>
    simp only [rdK] at h
    exact ⟨_, fp, h, ⟨VR.of_one rfl ⟨rfl, rfl⟩, rfl⟩, rfl, by simp, fun s e => by simp [A.ref] at e⟩

theorem SimD.row_at (hs : SimD c st a w S ob) {t : Nat} {u : T} {xs : List u.den} (h : st.getD t .dead = .row u xs) : ARel (hp w) S (tv a) (.row u xs) (tv a t) (ob t) :=
  hs.rel t _ (getD_at h (by simp))

/-- a datum is taken; an owned row is given up -/
theorem datK_inv {A : A} {v : Value} {k : Dat → Cmd α} (h : exec E (datK A k) st fp = some r) (hs : SimD c st a w S ob) (hA : ARel (hp w) S (tv a) A v none) :
    ∃ d st' fp' S' ob', exec E (k d) st' fp' = some r ∧ SimD c st' a w S' ob' ∧ Sub S S' ∧ VR S' d.1 d.2 v ∧ st'.length = st.length := by
  cases A <;> simp only [datK] at h <;> (try exact (exec_fail h).elim)
  case v t x => exact ⟨⟨t, x⟩, st, fp, S, ob, h, hs, Sub.refl _, hA.1, rfl⟩
  case bor s =>
    obtain ⟨fp', h⟩ := exec_get h
    generalize hy : st.getD s .dead = y at h
    cases y <;> dsimp only at h <;> (try exact (exec_fail h).elim)
    case row t xs =>
      obtain ⟨fp'', h⟩ := exec_retire h
      obtain ⟨S', hS, hv, hs'⟩ := hs.retire (getD_at hy (by simp))
      exact ⟨⟨.sl t, xs⟩, _, fp'', S', _, h, hs', hS, by rw [hA.1]; exact hv, retSt_length _ _⟩

/-- a datum is looked at -/
theorem lookK_inv {A : A} {v : Value} {k : Dat → Cmd α} (h : exec E (lookK A k) st fp = some r) (hs : SimD c st a w S ob) (hA : ARel (hp w) S (tv a) A v none) :
    ∃ d fp', exec E (k d) st fp' = some r ∧ VR (hp w) d.1 d.2 v := by
  cases A <;> simp only [lookK] at h <;> (try exact (exec_fail h).elim)
  case v t x => exact ⟨⟨t, x⟩, fp, h, hA.1.mono hs.sub⟩
  case bor s =>
    obtain ⟨fp', h⟩ := exec_get h
    generalize hy : st.getD s .dead = y at h
    cases y <;> dsimp only at h <;> (try exact (exec_fail h).elim)
    case row t xs =>
      exact ⟨⟨.sl t, xs⟩, fp', h, by rw [hA.1]; exact (hs.row_at hy).row_shared hs.sub (fun _ _ => rfl)⟩

theorem cast_VR {S : Hp} {t t' : T} {x : t.den} {y : t'.den} {v : Value} (h : cast t t' x = some y) (hv : VR S t x v) : VR S t' y v := by
  obtain ⟨e, e'⟩ := cast_some h
  subst e; subst e'; exact hv

theorem cast_Rd {S : Hp} {t t' : T} {x : t.den} {y : t'.den} {cs : List Value} (h : cast t t' x = some y) (hv : Rd S t x cs) : Rd S t' y cs := by
  obtain ⟨e, e'⟩ := cast_some h
  subst e; subst e'; exact hv

theorem VR_nil (S : Hp) (t : T) : VR S (.sl t) ([] : List t.den) (.slice none 0 0) := VR.of_one rfl ⟨none, 0, rfl, by simp, .inl rfl⟩

theorem asK_inv {t : T} {A : A} {v : Value} {k : t.den → Cmd α} (h : exec E (asK t A k) st fp = some r) (hs : SimD c st a w S ob) (hA : ARel (hp w) S (tv a) A v none) :
    ∃ x st' fp' S' ob', exec E (k x) st' fp' = some r ∧ SimD c st' a w S' ob' ∧ Sub S S' ∧ VR S' t x v ∧ st'.length = st.length := by
  unfold asK at h
  split at h
  · rename_i u k
    exact ⟨_, st, fp, S, ob, h, hs, Sub.refl _, by rw [hA.1]; exact VR_nil _ _, rfl⟩
  · obtain ⟨d, st', fp', S', ob', h, hs', hS, hv, hl⟩ := datK_inv h hs hA
    split at h
    · rename_i x hx
      exact ⟨x, st', fp', S', ob', h, hs', hS, cast_VR hx hv, hl⟩
    · exact (exec_fail h).elim

theorem intK_inv {A : A} {v : Value} {k : IntKind → Int → Cmd α} (h : exec E (intK A k) st fp = some r) (hA : ARel (hp w) S (tv a) A v none) :
    ∃ j n, exec E (k j n) st fp = some r ∧ v = .int j n := by
  unfold intK at h
  split at h
  · rename_i j n; exact ⟨j, n, h, hA.1.int_inv⟩
  · exact (exec_fail h).elim

theorem tyK_inv {i : TypeId} {k : TyI → Cmd α} (h : exec E (tyK E i k) st fp = some r) : ∃ e, E.ty i = some e ∧ exec E (k e) st fp = some r := by
  unfold tyK at h
  split at h
  · rename_i e he; exact ⟨e, he, h⟩
  · exact (exec_fail h).elim

theorem eval_put (a : Act) (d : Option Nat) (v : Value) : a.put d v = match d with | some t => a.put (some t) v | none => a := by cases d <;> rfl
end
end Go.Lift
