/- Tables: what types are, what callees do, out of lists; what results are. -/
import Derived.Test.YtpnjnnhedadjgaaDoorLfU
set_option linter.all false
namespace Go.Lift

def lk.{u} {α : Type u} : List (Nat × α) → Nat → Option α
  | [], _ => none
  | e :: r, i => match Nat.beq e.1 i with
    | true => some e.2
    | false => lk r i

def noRes : Res := ⟨Unit, none, fun _ => (.dead, [])⟩

def fnOf (l : List (Nat × (List A → Res))) (f : FuncId) (args : List A) : Res := match lk l f with
  | some g => g args
  | none => noRes

/-- the cells of a zero value -/
def zc : (t : T) → t.den → List Value
  | .int k, x => [.int k x]
  | .bool, x => [.bool x]
  | .str, x => [.string ⟨⟨x⟩⟩]
  | .opq, x => [x]
  | .unit, _ => []
  | .pair a b, x => zc a x.1 ++ zc b x.2
  | .arr _ t, xs => (xs.map (zc t)).flatten
  | .sl _, _ => [.slice none 0 0]
  | .ptr _, _ => []

def zOk : (t : T) → t.den → Bool
  | .int _, _ => true
  | .bool, _ => true
  | .str, _ => true
  | .opq, x => x.oneCell'
  | .unit, _ => true
  | .pair a b, x => and' (zOk a x.1) (zOk b x.2)
  | .arr n t, xs => and' (Nat.beq xs.length n) (xs.all (zOk t))
  | .sl _, xs => xs.isEmpty
  | .ptr _, _ => false

def zv (t : T) (x : t.den) : Value := match t.isAgg with
  | true => .agg (zc t x).toArray
  | false => (zc t x).headD .nilIface

theorem zc_rd : ∀ (t : T) (x : t.den), zOk t x = true → Rd noHp t x (zc t x)
  | .int _, _, _ => rfl
  | .bool, _, _ => rfl
  | .str, _, _ => rfl
  | .opq, _, h => ⟨rfl, h⟩
  | .unit, _, _ => rfl
  | .pair a b, x, h => ⟨_, _, rfl, zc_rd a x.1 (and'_true h).1, zc_rd b x.2 (and'_true h).2⟩
  | .arr n t, xs, h => by
    obtain ⟨h1, h2⟩ := and'_true h
    refine ⟨beqN h1, ?_⟩
    clear h h1
    simp only [zc]
    induction xs with
    | nil => rfl
    | cons x xs ih =>
      simp only [List.all_cons, Bool.and_eq_true] at h2
      exact ⟨zc t x, _, by simp, zc_rd t x h2.1, ih h2.2⟩
  | .sl t, xs, h => by
    have h : xs = [] := by simpa [zOk] using h
    subst h
    exact ⟨none, 0, rfl, by simp, .inl rfl⟩
  | .ptr _, _, h => by simp [zOk] at h

theorem zv_vr {t : T} {x : t.den} (h : zOk t x = true) : VR noHp t x (zv t x) := by
  have hr := zc_rd t x h
  unfold zv
  cases ht : t.isAgg with
  | true => exact VR.of_agg ht (by simpa using hr)
  | false =>
    refine VR.of_one ht ?_
    have hl := Rd.length _ _ _ hr
    have : t.size = 1 := by cases t <;> simp [T.isAgg] at ht <;> rfl
    rw [this] at hl
    obtain ⟨v, hv⟩ := List.length_eq_one_iff.1 hl
    rw [hv] at hr ⊢
    exact hr

/-- what is known of a type -/
theorem TyOk.of {P : Program} {i : TypeId} {e : TyI} (h1 : P.underlying i = some e.desc) (h2 : (P.info? i).map (fun f => (f.size, f.bytes, f.zero)) = some (e.size, e.bytes, some (zv e.t e.zero)))
    (h3 : and' (and' (zOk e.t e.zero) (Nat.beq e.t.size e.size)) (aggDesc e.desc == e.t.isAgg) = true) (h6 : (match e.cmp with
      | true => and' (!(P.stoodInHeld i)) (!(P.eqGuardType P.depth i))
      | false => true) = true) : TyOk P i e := by
  obtain ⟨h3, h4⟩ := and'_true h3
  obtain ⟨h3, h5⟩ := and'_true h3
  refine ⟨h1, ?_, beqN h5, by simpa using h4, fun hc => by
    rw [hc] at h6
    obtain ⟨h7, h8⟩ := and'_true h6
    exact ⟨by simpa using h7, by simpa using h8⟩⟩
  cases hi : P.info? i with
  | none => rw [hi] at h2; cases h2
  | some f =>
    rw [hi] at h2
    simp only [Option.map_some, Option.some.injEq, Prod.mk.injEq] at h2
    exact ⟨f, rfl, h2.1, h2.2.1, _, h2.2.2, zv_vr h3⟩

inductive TysOk (P : Program) : List (Nat × TyI) → Prop
  | nil : TysOk P []
  | cons {i : Nat} {e : TyI} {l : List (Nat × TyI)} (h : TyOk P i e) (hs : TysOk P l) : TysOk P ((i, e) :: l)

theorem TysOk.lk {P : Program} {l : List (Nat × TyI)} (h : TysOk P l) : ∀ i e, Lift.lk l i = some e → TyOk P i e := by
  induction h with
  | nil => intro i e h; cases h
  | cons h _ ih =>
    intro i e he
    simp only [Lift.lk] at he
    split at he
    · rename_i hb
      cases he
      rw [← beqN hb]; exact h
    · exact ih i e he

inductive FnsOk (P : Program) (glob : Nat → Option Dat) : List (Nat × (List A → Res)) → Prop
  | nil : FnsOk P glob []
  | cons {f : FuncId} {g : List A → Res} {l : List (Nat × (List A → Res))} (h : Contract P glob f g) (hs : FnsOk P glob l) : FnsOk P glob ((f, g) :: l)

theorem FnsOk.fn {P : Program} {glob : Nat → Option Dat} {l : List (Nat × (List A → Res))} (h : FnsOk P glob l) : ∀ f, (∀ args, (fnOf l f args).val = none) ∨ Contract P glob f (fnOf l f) := by
  induction h with
  | nil => intro f; exact .inl fun args => rfl
  | @cons f g l h _ ih =>
    intro f'
    cases hb : Nat.beq f f' with
    | true =>
      have := beqN hb
      subst this
      refine .inr ?_
      have : fnOf ((f, g) :: l) f = g := by funext args; simp only [fnOf, lk, hb]
      rw [this]; exact h
    | false =>
      have : fnOf ((f, g) :: l) f' = fnOf l f' := by funext args; simp only [fnOf, lk, hb]
      rw [this]; exact ih f'

/-- the surroundings of a function: the types, the callees, its own temporaries -/
def mkEnv (tys : List (Nat × TyI)) (glob : Nat → Option Dat) (fns : List (Nat × (List A → Res))) (keep : List (Nat × T)) (live lent : List Nat) (ownRes : Bool) : Env := ⟨lk tys, glob, fnOf fns, lk keep, live, lent, ownRes⟩

theorem mkEnv_ok {P : Program} {tys : List (Nat × TyI)} {glob : Nat → Option Dat} {fns : List (Nat × (List A → Res))} {keep : List (Nat × T)} {live lent : List Nat} {ownRes : Bool} (hm : P.follows .mixedOrders = true) (ht : TysOk P tys) (hf : FnsOk P glob fns) :
    EnvOk P (mkEnv tys glob fns keep live lent ownRes) := ⟨ht.lk, hf.fn, hm⟩

/-! ## results -/

/-- a result that is a datum, no box having been handed -/
def kRes (s : AS) (m : Nat) (r : A) (outs : List A) : Option s.den := match s.un r with
  | some x => (match unS [] m outs with
    | some _ => some x
    | none => none)
  | none => none

def oRes (s : AS) (m : Nat) (x : s.den) : A × List A := (s.mk x, mkS [] m ())

theorem kRes_ok {s : AS} {m : Nat} : ∀ (r : A) (outs : List A) (y : s.den), kRes s m r outs = some y → (r, outs) = oRes s m y := by
  intro r outs y h
  unfold kRes at h
  split at h
  · rename_i x hx
    split at h
    · rename_i z hz
      cases h
      rw [AS.un_mk hx, unS_mk hz]; rfl
    · cases h
  · cases h

/-- a result, and what the handed boxes hold then -/
def kResB (s : AS) (os : List (Nat × AS)) (m : Nat) (r : A) (outs : List A) : Option (s.den × denS os) := match s.un r with
  | some x => (match unS os m outs with
    | some z => some (x, z)
    | none => none)
  | none => none

def oResB (s : AS) (os : List (Nat × AS)) (m : Nat) (x : s.den × denS os) : A × List A := (s.mk x.1, mkS os m x.2)

theorem kResB_ok {s : AS} {os : List (Nat × AS)} {m : Nat} : ∀ (r : A) (outs : List A) (y : s.den × denS os), kResB s os m r outs = some y → (r, outs) = oResB s os m y := by
  intro r outs y h
  unfold kResB at h
  split at h
  · rename_i x hx
    split at h
    · rename_i z hz
      cases h
      rw [AS.un_mk hx, unS_mk hz]; rfl
    · cases h
  · cases h

def noGlob : Nat → Option Dat := fun _ => none
theorem noGlob_ok (S : Hp) : GlobOk noGlob S := fun g d h => by cases h
end Go.Lift
