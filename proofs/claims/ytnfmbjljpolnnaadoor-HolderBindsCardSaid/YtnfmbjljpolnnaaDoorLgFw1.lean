/- A typed reading of memory, an evaluator over the translated operations, and its laws (own work, in one text). -/
import Derived.Calls
import Derived.Laws.Sem
/- A typed reading of the model's values and memory: which plain data a value stands for, in a part of the heap that is not written any more. -/
set_option linter.all false
namespace Go.Lift

inductive T where
  | int (k : IntKind) | bool | str | opq | unit
  | pair (a b : T) | arr (n : Nat) (t : T) | sl (t : T) | ptr (t : T)
  | own (t : T) | any | self (ty : Nat) | byt (ty : Nat) | fn (f : Nat) (t : T)
  | mp (k v : T) | nb (t : T) | ifc (ty : Nat) (t : T)
  deriving DecidableEq

@[reducible] def T.den : T → Type
  | .int _ => Int
  | .bool => Bool
  | .str => List UInt8
  | .opq => Value
  | .unit => Unit
  | .pair a b => a.den × b.den
  | .arr _ t => List t.den
  | .sl t => List t.den
  | .ptr t => t.den
  | .own t => List t.den
  | .any => Unit
  | .self _ => Unit
  | .byt _ => Int
  | .fn _ t => t.den
  | .mp k v => Option (List (k.den × v.den))
  | .nb t => Option t.den
  | .ifc _ t => Option t.den

def T.size : T → Nat
  | .unit => 0
  | .pair a b => a.size + b.size
  | .arr n t => n * t.size
  | _ => 1

def T.isAgg : T → Bool
  | .unit | .pair .. | .arr .. => true
  | _ => false

/-- some datum of each type: what a list gives beyond its end -/
def T.dflt : (t : T) → t.den
  | .int _ => (0 : Int)
  | .bool => false
  | .str => ([] : List UInt8)
  | .opq => Value.nilIface
  | .unit => ()
  | .pair a b => (a.dflt, b.dflt)
  | .arr _ _ => []
  | .sl _ => []
  | .ptr t => t.dflt
  | .own _ => []
  | .any => ()
  | .self _ => ()
  | .byt _ => (0 : Int)
  | .fn _ t => t.dflt
  | .mp _ _ => none
  | .nb _ => none
  | .ifc _ _ => none

abbrev Hp := Nat → Option Obj

def hp (w : World) : Hp := fun b => w.heap[b]?

def All {α : Type} (R : α → List Value → Prop) : List α → List Value → Prop
  | [], cs => cs = []
  | x :: xs, cs => ∃ c1 c2, cs = c1 ++ c2 ∧ R x c1 ∧ All R xs c2

/-- the cells of block b from off on are c1 -/
def Lies (S : Hp) (b off : Nat) (c1 : List Value) : Prop :=
  ∃ all E fr c0 c2, S b = some (.cells all E fr) ∧ all.toList = c0 ++ (c1 ++ c2) ∧ c0.length = off

def Rd (S : Hp) : (t : T) → t.den → List Value → Prop
  | .int k, x, cs => cs = [.int k x]
  | .bool, x, cs => cs = [.bool x]
  | .str, x, cs => cs = [.string ⟨⟨x⟩⟩]
  | .opq, x, cs => cs = [x] ∧ x.oneCell' = true
  | .unit, _, cs => cs = []
  | .pair a b, x, cs => ∃ c1 c2, cs = c1 ++ c2 ∧ Rd S a x.1 c1 ∧ Rd S b x.2 c2
  | .arr n t, xs, cs => xs.length = n ∧ All (Rd S t) xs cs
  | .sl t, xs, cs => ∃ a cap, cs = [.slice a xs.length cap] ∧ xs.length ≤ cap ∧
      (xs = [] ∨ ∃ b off c1, a = some ⟨b, off, none⟩ ∧ Lies S b off c1 ∧ All (Rd S t) xs c1)
  | .ptr t, x, cs => ∃ b off c1, cs = [.pointer (some ⟨b, off, none⟩)] ∧ Lies S b off c1 ∧ Rd S t x c1
  | .own _, _, _ => False
  | .self _, _, _ => False
  | .byt _, x, cs => cs = [.int .u8 x]
  | .any, _, cs => ∃ v, cs = [v] ∧ v.oneCell' = true
  | .fn f t, x, cs => ∃ l : Array Value, cs = [.func (.func f) #[] l] ∧ Rd S t x l.toList
  | .mp _ _, _, _ => False
  | .nb _, _, _ => False
  | .ifc ty t, x, cs => (x = none ∧ cs = [.nilIface]) ∨ ∃ y v, x = some y ∧ cs = [.iface ty v] ∧ ((t.isAgg = true ∧ ∃ a : Array Value, v = .agg a ∧ Rd S t y a.toList) ∨ (t.isAgg = false ∧ Rd S t y [v]))

def Sub (S S' : Hp) : Prop := ∀ b o, S b = some o → S' b = some o

theorem Sub.refl (S : Hp) : Sub S S := fun _ _ h => h
theorem Sub.trans {S S' S'' : Hp} (h : Sub S S') (h' : Sub S' S'') : Sub S S'' := fun b o e => h' b o (h b o e)

theorem All.mono {α : Type} {R R' : α → List Value → Prop} (h : ∀ x cs, R x cs → R' x cs) : ∀ (xs : List α) (cs : List Value), All R xs cs → All R' xs cs
  | [], _, e => e
  | x :: xs, _, ⟨c1, c2, e, h1, h2⟩ => ⟨c1, c2, e, h x c1 h1, All.mono h xs c2 h2⟩

theorem Lies.mono {S S' : Hp} (h : Sub S S') {b off : Nat} {c1 : List Value} : Lies S b off c1 → Lies S' b off c1
  | ⟨all, E, fr, c0, c2, e, e1, e2⟩ => ⟨all, E, fr, c0, c2, h _ _ e, e1, e2⟩

theorem Rd.mono {S S' : Hp} (h : Sub S S') : ∀ (t : T) (x : t.den) (cs : List Value), Rd S t x cs → Rd S' t x cs
  | .int _, _, _, e => e
  | .bool, _, _, e => e
  | .str, _, _, e => e
  | .opq, _, _, e => e
  | .unit, _, _, e => e
  | .pair a b, _, _, ⟨c1, c2, e, h1, h2⟩ => ⟨c1, c2, e, Rd.mono h a _ _ h1, Rd.mono h b _ _ h2⟩
  | .arr _ t, _, _, ⟨e, h1⟩ => ⟨e, All.mono (Rd.mono h t) _ _ h1⟩
  | .sl t, _, _, ⟨a, cap, e, hc, h1⟩ => ⟨a, cap, e, hc, h1.imp id fun ⟨b, off, c1, ea, hl, ha⟩ => ⟨b, off, c1, ea, hl.mono h, All.mono (Rd.mono h t) _ _ ha⟩⟩
  | .ptr t, _, _, ⟨b, off, c1, e, hl, h1⟩ => ⟨b, off, c1, e, hl.mono h, Rd.mono h t _ _ h1⟩
  | .own _, _, _, e => e
  | .self _, _, _, e => e
  | .byt _, _, _, e => e
  | .any, _, _, e => e
  | .fn f t, _, _, ⟨l, e, h1⟩ => ⟨l, e, Rd.mono h t _ _ h1⟩
  | .mp _ _, _, _, e => e
  | .nb _, _, _, e => e
  | .ifc ty t, _, _, e => e.imp id fun ⟨y, v, e1, e2, e3⟩ => ⟨y, v, e1, e2, e3.imp (fun ⟨e4, a, e5, e6⟩ => ⟨e4, a, e5, Rd.mono h t _ _ e6⟩) fun ⟨e4, e5⟩ => ⟨e4, Rd.mono h t _ _ e5⟩⟩

theorem All.length {α : Type} {R : α → List Value → Prop} {n : Nat} (h : ∀ x cs, R x cs → cs.length = n) : ∀ (xs : List α) (cs : List Value), All R xs cs → cs.length = xs.length * n
  | [], _, e => by simp [All] at e; simp [e]
  | x :: xs, _, ⟨c1, c2, e, h1, h2⟩ => by
    rw [e, List.length_append, h x c1 h1, All.length h xs c2 h2, List.length_cons, Nat.succ_mul, Nat.add_comm]

theorem Rd.length {S : Hp} : ∀ (t : T) (x : t.den) (cs : List Value), Rd S t x cs → cs.length = t.size
  | .int _, _, _, e => by simp [Rd] at e; simp [e, T.size]
  | .bool, _, _, e => by simp [Rd] at e; simp [e, T.size]
  | .str, _, _, e => by simp [Rd] at e; simp [e, T.size]
  | .opq, _, _, e => by simp [Rd] at e; simp [e.1, T.size]
  | .unit, _, _, e => by simp [Rd] at e; simp [e, T.size]
  | .pair a b, _, _, ⟨c1, c2, e, h1, h2⟩ => by rw [e, List.length_append, Rd.length a _ _ h1, Rd.length b _ _ h2, T.size]
  | .arr n t, xs, _, ⟨e, h1⟩ => by rw [All.length (Rd.length t) _ _ h1, T.size, ← e]
  | .sl t, _, _, ⟨a, cap, e, _⟩ => by simp [e, T.size]
  | .ptr t, _, _, ⟨b, off, c1, e, _⟩ => by simp [e, T.size]
  | .own _, _, _, e => e.elim
  | .self _, _, _, e => e.elim
  | .byt _, _, _, e => by simp [Rd] at e; simp [e, T.size]
  | .any, _, _, ⟨v, e, _⟩ => by simp [e, T.size]
  | .fn _ _, _, _, ⟨l, e, _⟩ => by simp [e, T.size]
  | .mp _ _, _, _, e => e.elim
  | .nb _, _, _, e => e.elim
  | .ifc _ _, _, _, e => by rcases e with ⟨_, e⟩ | ⟨_, _, _, e, _⟩ <;> simp [e, T.size]

theorem All.append {α : Type} {R : α → List Value → Prop} : ∀ {xs ys : List α} {cs ds : List Value}, All R xs cs → All R ys ds → All R (xs ++ ys) (cs ++ ds)
  | [], _, _, _, e, h => by simp [All] at e; simpa [e] using h
  | x :: xs, _, _, _, ⟨c1, c2, e, h1, h2⟩, h => ⟨c1, c2 ++ _, by rw [e, List.append_assoc], h1, All.append h2 h⟩

theorem All.split {α : Type} {R : α → List Value → Prop} : ∀ {xs ys : List α} {cs : List Value}, All R (xs ++ ys) cs → ∃ c1 c2, cs = c1 ++ c2 ∧ All R xs c1 ∧ All R ys c2
  | [], _, cs, h => ⟨[], cs, rfl, rfl, h⟩
  | x :: xs, _, _, ⟨c1, c2, e, h1, h2⟩ => by
    obtain ⟨d1, d2, e2, h3, h4⟩ := All.split h2
    exact ⟨c1 ++ d1, d2, by rw [e, e2, List.append_assoc], ⟨c1, d1, rfl, h1, h3⟩, h4⟩

theorem All.one {α : Type} {R : α → List Value → Prop} {x : α} {cs : List Value} (h : R x cs) : All R [x] cs := ⟨cs, [], by simp, h, rfl⟩
theorem All.one_inv {α : Type} {R : α → List Value → Prop} {x : α} {cs : List Value} : All R [x] cs → R x cs
  | ⟨c1, c2, e, h1, h2⟩ => by simp only [All] at h2; simp [e, h2]; exact h1

/-- element i lies at i times the size -/
theorem All.at {α : Type} {R : α → List Value → Prop} {n : Nat} (hn : ∀ x cs, R x cs → cs.length = n) {xs : List α} {cs : List Value} (h : All R xs cs) {i : Nat} (hi : i < xs.length) (d : α) :
    ∃ c0 c1 c2, cs = c0 ++ (c1 ++ c2) ∧ c0.length = i * n ∧ R (xs.getD i d) c1 ∧ All R (xs.take i) c0 ∧ All R (xs.drop (i + 1)) c2 := by
  have e : xs = xs.take i ++ ([xs.getD i d] ++ xs.drop (i + 1)) := by
    rw [List.singleton_append]
    have : xs.getD i d = xs[i] := by simp [List.getD, hi]
    rw [this, List.getElem_cons_drop, List.take_append_drop]
  rw [e] at h
  obtain ⟨c0, c3, e0, h0, h3⟩ := All.split h
  obtain ⟨c1, c2, e1, h1, h2⟩ := All.split h3
  refine ⟨c0, c1, c2, by rw [e0, e1], ?_, h1.one_inv, h0, h2⟩
  rw [All.length hn _ _ h0, List.length_take, Nat.min_eq_left (Nat.le_of_lt hi)]

theorem All.set {α : Type} {R : α → List Value → Prop} {xs : List α} {c0 c1 c2 : List Value} {i : Nat} {y : α} (hi : i < xs.length)
    (h0 : All R (xs.take i) c0) (h1 : R y c1) (h2 : All R (xs.drop (i + 1)) c2) : All R (xs.set i y) (c0 ++ (c1 ++ c2)) := by
  have e : xs.set i y = xs.take i ++ ([y] ++ xs.drop (i + 1)) := by
    rw [List.set_eq_take_append_cons_drop, if_pos hi]; rfl
  rw [e]
  exact All.append h0 (All.append (All.one h1) h2)

theorem All.replicate {α : Type} {R : α → List Value → Prop} {x : α} {cs : List Value} (h : R x cs) : ∀ n, All R (List.replicate n x) (List.replicate n cs).flatten
  | 0 => rfl
  | n + 1 => ⟨cs, (List.replicate n cs).flatten, by simp [List.replicate_succ], h, All.replicate h n⟩

/-! values -/

/-- value v stands for x -/
def VR (S : Hp) (t : T) (x : t.den) (v : Value) : Prop :=
  if t.isAgg then ∃ cs, v = .agg cs ∧ Rd S t x cs.toList else Rd S t x [v]

theorem VR.mono {S S' : Hp} (h : Sub S S') {t : T} {x : t.den} {v : Value} : VR S t x v → VR S' t x v := by
  unfold VR
  split
  · rintro ⟨cs, e, hr⟩; exact ⟨cs, e, hr.mono h⟩
  · exact Rd.mono h t x _

theorem Rd.oneCell {S : Hp} {t : T} {x : t.den} {v : Value} (ht : t.isAgg = false) (h : Rd S t x [v]) : v.oneCell' = true := by
  cases t <;> simp [T.isAgg] at ht <;> simp [Rd] at h
  case int => simp [h, Value.oneCell']
  case bool => simp [h, Value.oneCell']
  case str => simp [h, Value.oneCell']
  case opq => rw [h.1]; exact h.2
  case sl => obtain ⟨a, c, rfl, _⟩ := h; rfl
  case ptr => obtain ⟨b, off, rfl, _⟩ := h; rfl
  case any => exact h
  case byt => simp [h, Value.oneCell']
  case fn => obtain ⟨l, rfl, _⟩ := h; rfl
  case ifc => rcases h with ⟨_, rfl⟩ | ⟨_, _, _, rfl, _⟩ <;> rfl

theorem cells_of_oneCell {v : Value} (h : v.oneCell' = true) : v.cells = #[v] := by
  cases v <;> simp [Value.oneCell'] at h <;> rfl

theorem VR.cells {S : Hp} {t : T} {x : t.den} {v : Value} (h : VR S t x v) : Rd S t x v.cells.toList := by
  unfold VR at h
  split at h
  · obtain ⟨cs, rfl, hr⟩ := h; exact hr
  · rename_i ht
    rw [cells_of_oneCell (Rd.oneCell (by simpa using ht) h)]; exact h

theorem VR.of_agg {S : Hp} {t : T} {x : t.den} {cs : Array Value} (ht : t.isAgg = true) (h : Rd S t x cs.toList) : VR S t x (.agg cs) := by
  unfold VR; rw [if_pos ht]; exact ⟨cs, rfl, h⟩

theorem VR.of_one {S : Hp} {t : T} {x : t.den} {v : Value} (ht : t.isAgg = false) (h : Rd S t x [v]) : VR S t x v := by
  unfold VR; rw [if_neg (by simp [ht])]; exact h

theorem VR.int {S : Hp} {k : IntKind} {n : Int} : VR S (.int k) n (.int k n) := VR.of_one rfl rfl
theorem VR.bool {S : Hp} {b : Bool} : VR S .bool b (.bool b) := VR.of_one rfl rfl
theorem VR.str {S : Hp} {s : List UInt8} : VR S .str s (.string ⟨⟨s⟩⟩) := VR.of_one rfl rfl
theorem VR.int_inv {S : Hp} {k : IntKind} {n : Int} {v : Value} (h : VR S (.int k) n v) : v = .int k n := by simpa [VR, T.isAgg, Rd] using h
theorem VR.bool_inv {S : Hp} {n : Bool} {v : Value} (h : VR S .bool n v) : v = .bool n := by simpa [VR, T.isAgg, Rd] using h
theorem VR.str_inv {S : Hp} {n : List UInt8} {v : Value} (h : VR S .str n v) : v = .string ⟨⟨n⟩⟩ := by simpa [VR, T.isAgg, Rd] using h
theorem VR.opq_inv {S : Hp} {n v : Value} (h : VR S .opq n v) : v = n := by have := h; simp [VR, T.isAgg, Rd] at this; exact this.1
end Go.Lift

/- Places inside a datum, as the cells of one block have them: what stands there, and what the datum is when something else is put there. -/
set_option linter.all false
namespace Go.Lift

inductive Step where
  | fld (i : Nat) | idx (i : Nat)
  deriving DecidableEq

def offOf : T → List Step → Nat
  | .pair a b, .fld i :: p => match i with
    | 0 => offOf a p
    | i + 1 => a.size + offOf b (.fld i :: p)
  | .arr _ t, .idx i :: p => i * t.size + offOf t p
  | _, _ => 0

abbrev Dat := (t : T) × t.den

def foc : (t : T) → t.den → List Step → Dat
  | .pair a b, x, .fld i :: p => match i with
    | 0 => foc a x.1 p
    | i + 1 => foc b x.2 (.fld i :: p)
  | .arr _ t, xs, .idx i :: p => foc t (xs.getD i t.dflt) p
  | t, x, _ => ⟨t, x⟩

/-- 'and' that looks at its second part first -/
def and' (x y : Bool) : Bool := match y with
  | true => x
  | false => false

def tyAt : T → List Step → Option T
  | .pair a b, .fld i :: p => match i with
    | 0 => tyAt a p
    | i + 1 => tyAt b (.fld i :: p)
  | .arr _ t, .idx _ :: p => tyAt t p
  | t, [] => some t
  | _, _ => none

def inb : (t : T) → t.den → List Step → Bool
  | _, _, [] => true
  | .pair a b, x, .fld i :: p => match i with
    | 0 => inb a x.1 p
    | i + 1 => inb b x.2 (.fld i :: p)
  | .arr _ t, xs, .idx i :: p => and' (decide (i < xs.length)) (inb t (xs.getD i t.dflt) p)
  | _, _, _ => false

def cast (t' t : T) (y : t'.den) : Option t.den := if h : t' = t then some (h ▸ y) else none

def setAt : (t : T) → t.den → List Step → (t' : T) → t'.den → Option t.den
  | t, _, [], t', y => cast t' t y
  | .pair a b, x, .fld i :: p, t', y => match i with
    | 0 => match setAt a x.1 p t' y with
      | some z => some (z, x.2)
      | none => none
    | i + 1 => match setAt b x.2 (.fld i :: p) t' y with
      | some z => some (x.1, z)
      | none => none
  | .arr _ t, xs, .idx i :: p, t', y => match setAt t (xs.getD i t.dflt) p t' y with
    | some z => some (xs.set i z)
    | none => none
  | _, _, _, _, _ => none

theorem cast_some {t' t : T} {y : t'.den} {x : t.den} (h : cast t' t y = some x) : ∃ e : t' = t, e ▸ y = x := by
  unfold cast at h
  split at h
  · rename_i e; exact ⟨e, by simpa using h⟩
  · simp at h

theorem and'_true {x y : Bool} (h : and' x y = true) : x = true ∧ y = true := by
  cases y <;> simp_all [and']

/-- THE LENS -/
theorem lens {S : Hp} : ∀ (t : T) (x : t.den) (p : List Step) (cs : List Value), Rd S t x cs → inb t x p = true →
    ∃ c0 c1 c2, cs = c0 ++ (c1 ++ c2) ∧ c0.length = offOf t p ∧ Rd S (foc t x p).1 (foc t x p).2 c1 ∧
      ∀ (t' : T) (y : t'.den) (d : List Value) (x' : t.den), setAt t x p t' y = some x' → Rd S t' y d → t' = (foc t x p).1 ∧ Rd S t x' (c0 ++ (d ++ c2)) := by
  intro t
  have base : ∀ (t : T) (x : t.den) (cs : List Value), Rd S t x cs → offOf t [] = 0 → foc t x [] = ⟨t, x⟩ →
    ∃ c0 c1 c2, cs = c0 ++ (c1 ++ c2) ∧ c0.length = offOf t [] ∧ Rd S (foc t x []).1 (foc t x []).2 c1 ∧
      ∀ (t' : T) (y : t'.den) (d : List Value) (x' : t.den), setAt t x [] t' y = some x' → Rd S t' y d → t' = (foc t x []).1 ∧ Rd S t x' (c0 ++ (d ++ c2)) := by
    intro t x cs h h0 hf
    refine ⟨[], cs, [], by simp, by rw [h0]; rfl, by rw [hf]; exact h, ?_⟩
    intro t' y d x' hs hr
    have hs' : cast t' t y = some x' := by cases t <;> simpa [setAt] using hs
    obtain ⟨e, e'⟩ := cast_some hs'
    subst e; subst e'
    exact ⟨by rw [hf], by simpa using hr⟩
  induction t with
  | int k => intro x p cs h hi; cases p with | nil => exact base _ x cs h rfl rfl | cons s p => cases s <;> simp [inb] at hi
  | bool => intro x p cs h hi; cases p with | nil => exact base _ x cs h rfl rfl | cons s p => cases s <;> simp [inb] at hi
  | str => intro x p cs h hi; cases p with | nil => exact base _ x cs h rfl rfl | cons s p => cases s <;> simp [inb] at hi
  | opq => intro x p cs h hi; cases p with | nil => exact base _ x cs h rfl rfl | cons s p => cases s <;> simp [inb] at hi
  | unit => intro x p cs h hi; cases p with | nil => exact base _ x cs h rfl rfl | cons s p => cases s <;> simp [inb] at hi
  | sl t _ => intro x p cs h hi; cases p with | nil => exact base _ x cs h rfl rfl | cons s p => cases s <;> simp [inb] at hi
  | ptr t _ => intro x p cs h hi; cases p with | nil => exact base _ x cs h rfl rfl | cons s p => cases s <;> simp [inb] at hi
  | own t _ => intro x p cs h hi; exact h.elim
  | self ty => intro x p cs h hi; exact h.elim
  | byt ty => intro x p cs h hi; cases p with | nil => exact base _ x cs h rfl rfl | cons s p => cases s <;> simp [inb] at hi
  | any => intro x p cs h hi; cases p with | nil => exact base _ x cs h rfl rfl | cons s p => cases s <;> simp [inb] at hi
  | fn f t _ => intro x p cs h hi; cases p with | nil => exact base _ x cs h rfl rfl | cons s p => cases s <;> simp [inb] at hi
  | mp k v _ _ => intro x p cs h hi; exact h.elim
  | nb t _ => intro x p cs h hi; exact h.elim
  | ifc ty t _ => intro x p cs h hi; cases p with | nil => exact base _ x cs h rfl rfl | cons s p => cases s <;> simp [inb] at hi
  | pair a b iha ihb =>
    intro x p cs h hi
    cases p with
    | nil => exact base _ x cs h rfl rfl
    | cons s p =>
      cases s with
      | idx i => simp [inb] at hi
      | fld i =>
        obtain ⟨d1, d2, e, h1, h2⟩ := h
        cases i with
        | zero =>
          simp only [inb] at hi
          obtain ⟨c0, c1, c2, e1, hl, hr, hs⟩ := iha x.1 p d1 h1 hi
          refine ⟨c0, c1, c2 ++ d2, by rw [e, e1]; simp, by simpa [offOf] using hl, by simpa [foc] using hr, ?_⟩
          intro t' y d x' hset hy
          simp only [setAt] at hset
          split at hset
          · rename_i z hz
            obtain ⟨et, hz'⟩ := hs t' y d z hz hy
            refine ⟨by simpa [foc] using et, ?_⟩
            simp at hset; subst hset
            exact ⟨c0 ++ (d ++ c2), d2, by simp, hz', h2⟩
          · simp at hset
        | succ i =>
          simp only [inb] at hi
          obtain ⟨c0, c1, c2, e1, hl, hr, hs⟩ := ihb x.2 (.fld i :: p) d2 h2 hi
          refine ⟨d1 ++ c0, c1, c2, by rw [e, e1]; simp, by simp [offOf, hl, Rd.length a _ _ h1], by simpa [foc] using hr, ?_⟩
          intro t' y d x' hset hy
          simp only [setAt] at hset
          split at hset
          · rename_i z hz
            obtain ⟨et, hz'⟩ := hs t' y d z hz hy
            refine ⟨by simpa [foc] using et, ?_⟩
            simp at hset; subst hset
            exact ⟨d1, c0 ++ (d ++ c2), by simp, h1, hz'⟩
          · simp at hset
  | arr n t ih =>
    intro xs p cs h hi
    cases p with
    | nil => exact base _ xs cs h rfl rfl
    | cons s p =>
      cases s with
      | fld i => simp [inb] at hi
      | idx i =>
        simp only [inb] at hi
        obtain ⟨hlt, hin⟩ := and'_true hi
        have hlt : i < xs.length := by simpa using hlt
        obtain ⟨hn, hall⟩ := h
        obtain ⟨b0, b1, b2, eb, hb0, hb1, ha0, ha2⟩ := All.at (Rd.length t) hall hlt t.dflt
        obtain ⟨c0, c1, c2, e1, hl, hr, hs⟩ := ih (xs.getD i t.dflt) p b1 hb1 hin
        refine ⟨b0 ++ c0, c1, c2 ++ b2, by rw [eb, e1]; simp, by simp [offOf, hl, hb0], by simpa [foc] using hr, ?_⟩
        intro t' y d x' hset hy
        simp only [setAt] at hset
        split at hset
        · rename_i z hz
          obtain ⟨et, hz'⟩ := hs t' y d z hz hy
          refine ⟨by simpa [foc] using et, ?_⟩
          simp at hset; subst hset
          refine ⟨by simpa using hn, ?_⟩
          have := All.set hlt ha0 hz' ha2
          simpa using this
        · simp at hset

/-! 'arr': the number of elements does not matter to places -/
theorem offOf_arr (n m : Nat) (t : T) (p : List Step) : offOf (.arr n t) p = offOf (.arr m t) p := by
  cases p with
  | nil => rfl
  | cons s p => cases s <;> rfl

theorem inb_arr (n m : Nat) (t : T) (xs : List t.den) (p : List Step) : inb (.arr n t) xs p = inb (.arr m t) xs p := by
  cases p with
  | nil => rfl
  | cons s p => cases s <;> rfl
end Go.Lift

/- What the temporaries of a running function hold: plain data, or memory that the function alone has. The relation to the model's world, and how it is kept. -/
set_option linter.all false
namespace Go.Lift

@[reducible] def denL : List T → Type
  | [] => Unit
  | t :: ts => t.den × denL ts

inductive A where
  | v (t : T) (x : t.den)            -- a datum, in memory that nobody writes
  | row (t : T) (xs : List t.den)    -- a slice over a block of its own
  | box (t : T) (x : t.den)          -- a pointer to a block of its own, which may hold slices over blocks of their own
  | iter (s : List UInt8) (pos : Nat)
  | bor (r : Nat)                    -- the value that temporary r holds, r a block's owner
  | adr (r : Nat) (t : T) (p : List Step)   -- an address inside r's block, whose content is of type t
  | cel (r : Nat) (k : Nat) (p : List Step) -- the value of cell k of r's block, which is at place p
  | clo (f : FuncId) (rs : List Nat)        -- a function value that has captured the boxes of these owners
  | yld                                     -- the function that an iterator calls
  | ov (t : T) (x : t.den)           -- a value that owns blocks
  | otup (l : List Dat)              -- a tuple of such values
  | pel (r : Nat) (n : Nat) (p : List Step) (u : T) (q : List Step)  -- an address inside the block of the row that lies in cell n (place p) of r's block
  | psl (r : Nat) (n : Nat) (p : List Step) (u : T) (q : List Step) (lo hi : Nat)  -- a slice of the array that lies there
  | tup (l : List Dat)
  | nilsl
  | dead

def A.own : A → Bool
  | .row .. | .box .. | .iter .. | .yld | .ov .. | .otup .. => true
  | _ => false

def A.refs : A → List Nat
  | .bor r | .adr r .. | .cel r .. | .pel r .. | .psl r .. => [r]
  | .clo _ rs => rs
  | _ => []

/-- whose block's content its value is -/
def A.cell : A → Option Nat
  | .cel r .. => some r
  | .pel r .. => some r
  | .psl r .. => some r
  | _ => none

def Free (cs : Array Value) (fr : Nat × Nat) : Prop := ∀ i, i < cs.size → ¬ (fr.1 ≤ i ∧ i < fr.2)

def blockOf : Value → Option Nat
  | .pointer (some ⟨b, 0, none⟩) => some b
  | .slice (some ⟨b, 0, none⟩) _ (_ + 1) => some b
  | _ => none

inductive TupRel (S : Hp) : List Dat → List Value → Prop
  | nil : TupRel S [] []
  | cons {d : Dat} {v : Value} {l : List Dat} {vs : List Value} (h : VR S d.1 d.2 v) (hs : TupRel S l vs) : TupRel S (d :: l) (v :: vs)

/-- a slice over a block of its own -/
def RowRel (h S : Hp) (t : T) (xs : List t.den) (v : Value) (o : List Nat) : Prop := (xs = [] ∧ (∃ ad, v = .slice ad 0 0 ∧ ∀ q, t = .byt q → ad = none) ∧ o = []) ∨
  ∃ b cap cs E fr, o = [b] ∧ v = .slice (some ⟨b, 0, none⟩) xs.length cap ∧ h b = some (.cells cs E fr) ∧ Free cs fr ∧
    cs.size = cap * t.size ∧ xs.length ≤ cap ∧ All (Rd S t) xs (cs.toList.take (xs.length * t.size)) ∧ ∀ q, t = .byt q → E = q

/-- a map's entries -/
def Ents (S : Hp) (k v : T) : List (k.den × v.den) → List MapEntry → Prop
  | [], es => es = []
  | x :: xs, es => ∃ e es', es = e :: es' ∧ VR S k x.1 e.key ∧ VR S v x.2 e.val ∧ Ents S k v xs es'

/-- a map of its own, or none -/
def MpRel (h S : Hp) (k v : T) (x : Option (List (k.den × v.den))) (u : Value) (o : List Nat) : Prop := (x = none ∧ u = .map none ∧ o = []) ∨
  ∃ xs b es clock, x = some xs ∧ o = [b] ∧ u = .map (some b) ∧ h b = some (.map es clock) ∧ Ents S k v xs es.toList ∧ (es.toList.map (·.born)).Nodup ∧ ∀ e ∈ es.toList, e.born < clock

theorem Ents.mono {S S' : Hp} (hS : Sub S S') {k v : T} : ∀ {xs : List (k.den × v.den)} {es : List MapEntry}, Ents S k v xs es → Ents S' k v xs es
  | [], _, e => e
  | _ :: _, _, ⟨e, es', e1, h1, h2, h3⟩ => ⟨e, es', e1, h1.mono hS, h2.mono hS, Ents.mono hS h3⟩

theorem MpRel.mono {h h' S S' : Hp} (hS : Sub S S') {k v : T} {x : Option (List (k.den × v.den))} {u : Value} {o : List Nat} (ho : ∀ b ∈ o, h' b = h b) (hx : MpRel h S k v x u o) : MpRel h' S' k v x u o := by
  rcases hx with hx | ⟨xs, b, es, cl, e, e1, e2, h1, h2, h3⟩
  · exact .inl hx
  · exact .inr ⟨xs, b, es, cl, e, e1, e2, by rw [ho b (by simp [e1])]; exact h1, h2.mono hS, h3⟩

theorem MpRel.one {h S : Hp} {k v : T} {x : Option (List (k.den × v.den))} {u : Value} {o : List Nat} (hx : MpRel h S k v x u o) : u.oneCell' = true := by
  rcases hx with ⟨_, e, _⟩ | ⟨xs, b, es, cl, e, e1, e2, _⟩
  · rw [e]; rfl
  · rw [e2]; rfl

theorem MpRel.obj {h S : Hp} {k v : T} {x : Option (List (k.den × v.den))} {u : Value} {o : List Nat} (hx : MpRel h S k v x u o) : ∀ b ∈ o, ∃ ob, h b = some ob ∧ ∀ l, ob ≠ .deferred l := by
  intro b hb
  rcases hx with ⟨_, _, e⟩ | ⟨xs, b', es, cl, e, e1, e2, h1, _⟩
  · rw [e] at hb; cases hb
  · rw [e1] at hb; simp at hb; subst hb; exact ⟨_, h1, fun l h => by cases h⟩

/-- cells stand for x; bs are the blocks that x owns -/
def RdO (m : Nat × Nat) (h S : Hp) : (t : T) → t.den → List Value → List Nat → Prop
  | .pair a b, x, cs, bs => ∃ c1 c2 b1 b2, cs = c1 ++ c2 ∧ bs = b1 ++ b2 ∧ RdO m h S a x.1 c1 b1 ∧ RdO m h S b x.2 c2 b2
  | .own t, xs, cs, bs => ∃ v, cs = [v] ∧ RowRel h S t xs v bs
  | .int k, x, cs, bs => bs = [] ∧ Rd S (.int k) x cs
  | .bool, x, cs, bs => bs = [] ∧ Rd S .bool x cs
  | .str, x, cs, bs => bs = [] ∧ Rd S .str x cs
  | .opq, x, cs, bs => bs = [] ∧ Rd S .opq x cs
  | .unit, x, cs, bs => bs = [] ∧ Rd S .unit x cs
  | .arr n t, x, cs, bs => bs = [] ∧ Rd S (.arr n t) x cs
  | .sl t, x, cs, bs => bs = [] ∧ Rd S (.sl t) x cs
  | .ptr t, x, cs, bs => bs = [] ∧ Rd S (.ptr t) x cs
  | .any, x, cs, bs => bs = [] ∧ Rd S .any x cs
  | .byt q, x, cs, bs => bs = [] ∧ Rd S (.byt q) x cs
  | .self ty, _, cs, bs => bs = [] ∧ ∃ v, cs = [v] ∧ m.2 = ty ∧ (v = .pointer none ∨ v = .pointer (some ⟨m.1, 0, none⟩))
  | .fn f t, x, cs, bs => bs = [] ∧ Rd S (.fn f t) x cs
  | .ifc ty t, x, cs, bs => bs = [] ∧ Rd S (.ifc ty t) x cs
  | .mp k v, x, cs, bs => ∃ u, cs = [u] ∧ MpRel h S k v x u bs
  | .nb t, x, cs, bs => (x = none ∧ cs = [.pointer none] ∧ bs = []) ∨ ∃ y b cs' E fr bs', x = some y ∧ cs = [.pointer (some ⟨b, 0, none⟩)] ∧ bs = b :: bs' ∧ h b = some (.cells cs' E fr) ∧ Free cs' fr ∧ RdO (b, E) h S t y cs'.toList bs'

/-- what may be a value of its own: an aggregate, or what owns a block -/
def ovT (t : T) : Bool := match t with
  | .own _ => true
  | .mp _ _ => true
  | .nb _ => true
  | t => t.isAgg

/-- value v stands for x; o are the blocks that it owns -/
def VRO (h S : Hp) (t : T) (x : t.den) (v : Value) (o : List Nat) : Prop :=
  if t.isAgg then ∃ cs, v = .agg cs ∧ RdO (0, 0) h S t x cs.toList o else RdO (0, 0) h S t x [v] o

def OTup (h S : Hp) : List Dat → List Value → List Nat → Prop
  | [], vs, o => vs = [] ∧ o = []
  | d :: l, vs, o => ∃ v vs' o1 o2, vs = v :: vs' ∧ o = o1 ++ o2 ∧ VRO h S d.1 d.2 v o1 ∧ OTup h S l vs' o2

def ARel (h S : Hp) (tv : Nat → Value) : A → Value → List Nat → Prop
  | .v t x, v, o => VR S t x v ∧ o = []
  | .row t xs, v, o => RowRel h S t xs v o
  | .box t x, v, o => ∃ b cs E fr bs, o = b :: bs ∧ v = .pointer (some ⟨b, 0, none⟩) ∧ h b = some (.cells cs E fr) ∧ Free cs fr ∧ RdO (b, E) h S t x cs.toList bs
  | .iter s pos, v, o => ∃ b sp, o = [b] ∧ v = .pointer (some ⟨b, 0, sp⟩) ∧ h b = some (.stringIter ⟨⟨s⟩⟩ pos)
  | .bor r, v, o => v = tv r ∧ o = []
  | .adr r t p, v, o => o = [] ∧ ∃ b, blockOf (tv r) = some b ∧ v = .pointer (some ⟨b, offOf t p, none⟩)
  | .cel r k _, v, o => o = [] ∧ ∃ b cs E fr, blockOf (tv r) = some b ∧ h b = some (.cells cs E fr) ∧ cs[k]? = some v
  | .clo f rs, v, o => o = [] ∧ ∃ l : Array Value, v = .func (.func f) #[] l ∧ l.toList = rs.map tv
  | .yld, v, o => o = [] ∧ blockOf v = none
  | .ov t x, v, o => ovT t = true ∧ VRO h S t x v o
  | .otup l, v, o => ∃ vs, v = .tuple vs ∧ OTup h S l vs.toList o
  | .pel r n _ u q, v, o => o = [] ∧ ∃ b cs E fr b' len cap, blockOf (tv r) = some b ∧ h b = some (.cells cs E fr) ∧ cs[n]? = some (.slice (some ⟨b', 0, none⟩) len cap) ∧ v = .pointer (some ⟨b', offOf (.arr 0 u) q, none⟩)
  | .psl r n _ u q lo hi, v, o => o = [] ∧ ∃ b cs E fr b' len cap, blockOf (tv r) = some b ∧ h b = some (.cells cs E fr) ∧ cs[n]? = some (.slice (some ⟨b', 0, none⟩) len cap) ∧ ∃ m t cap2 off, tyAt (.arr 0 u) q = some (.arr m t) ∧ lo ≤ hi ∧ hi ≤ m ∧ hi - lo ≤ cap2 ∧ (lo < hi → off = offOf (.arr 0 u) q + lo * t.size) ∧ v = .slice (some ⟨b', off, none⟩) (hi - lo) cap2
  | .tup l, v, o => o = [] ∧ ∃ vs, v = .tuple vs ∧ TupRel S l vs.toList
  | .nilsl, v, o => v = .slice none 0 0 ∧ o = []
  | .dead, _, o => o = []

theorem TupRel.mono {S S' : Hp} (h : Sub S S') {l : List Dat} {vs : List Value} (ht : TupRel S l vs) : TupRel S' l vs := by
  induction ht with
  | nil => exact .nil
  | cons hv _ ih => exact .cons (hv.mono h) ih

theorem RowRel.mono {h h' S S' : Hp} (hS : Sub S S') {t : T} {xs : List t.den} {v : Value} {o : List Nat} (ho : ∀ b ∈ o, h' b = h b) (hx : RowRel h S t xs v o) : RowRel h' S' t xs v o := by
  rcases hx with hx | ⟨b, cap, cs, E, fr, e, e1, e2, h1, h2, h3, h4⟩
  · exact .inl hx
  · exact .inr ⟨b, cap, cs, E, fr, e, e1, by rw [ho b (by simp [e])]; exact e2, h1, h2, h3, All.mono (Rd.mono hS t) _ _ h4.1, h4.2⟩

theorem RdO.mono {m : Nat × Nat} {h h' S S' : Hp} (hS : Sub S S') : ∀ (t : T) (x : t.den) (cs : List Value) (bs : List Nat), (∀ b ∈ bs, h' b = h b) → RdO m h S t x cs bs → RdO m h' S' t x cs bs
  | .pair a b, _, _, _, ho, ⟨c1, c2, b1, b2, e, e', h1, h2⟩ => ⟨c1, c2, b1, b2, e, e', RdO.mono hS a _ _ _ (fun k hk => ho k (by simp [e', hk])) h1, RdO.mono hS b _ _ _ (fun k hk => ho k (by simp [e', hk])) h2⟩
  | .own _, _, _, _, ho, ⟨v, e, hr⟩ => ⟨v, e, hr.mono hS ho⟩
  | .int _, _, _, _, _, ⟨e, hr⟩ => ⟨e, Rd.mono hS _ _ _ hr⟩
  | .bool, _, _, _, _, ⟨e, hr⟩ => ⟨e, Rd.mono hS _ _ _ hr⟩
  | .str, _, _, _, _, ⟨e, hr⟩ => ⟨e, Rd.mono hS _ _ _ hr⟩
  | .opq, _, _, _, _, ⟨e, hr⟩ => ⟨e, Rd.mono hS _ _ _ hr⟩
  | .unit, _, _, _, _, ⟨e, hr⟩ => ⟨e, Rd.mono hS _ _ _ hr⟩
  | .arr _ _, _, _, _, _, ⟨e, hr⟩ => ⟨e, Rd.mono hS _ _ _ hr⟩
  | .sl _, _, _, _, _, ⟨e, hr⟩ => ⟨e, Rd.mono hS _ _ _ hr⟩
  | .ptr _, _, _, _, _, ⟨e, hr⟩ => ⟨e, Rd.mono hS _ _ _ hr⟩
  | .any, _, _, _, _, ⟨e, hr⟩ => ⟨e, Rd.mono hS _ _ _ hr⟩
  | .byt _, _, _, _, _, ⟨e, hr⟩ => ⟨e, Rd.mono hS _ _ _ hr⟩
  | .self _, _, _, _, _, hr => hr
  | .fn _ _, _, _, _, _, ⟨e, hr⟩ => ⟨e, Rd.mono hS _ _ _ hr⟩
  | .ifc _ _, _, _, _, _, ⟨e, hr⟩ => ⟨e, Rd.mono hS _ _ _ hr⟩
  | .mp _ _, _, _, _, ho, ⟨u, e, hr⟩ => ⟨u, e, hr.mono hS ho⟩
  | .nb t, _, _, _, ho, hr => hr.imp id fun ⟨y, b, cs', E, fr, bs', e1, e2, e3, e4, e5, e6⟩ => ⟨y, b, cs', E, fr, bs', e1, e2, e3, by rw [ho b (by simp [e3])]; exact e4, e5, RdO.mono hS t _ _ _ (fun k hk => ho k (by simp [e3, hk])) e6⟩

theorem VRO.mono {h h' S S' : Hp} (hS : Sub S S') {t : T} {x : t.den} {v : Value} {o : List Nat} (ho : ∀ b ∈ o, h' b = h b) : VRO h S t x v o → VRO h' S' t x v o := by
  unfold VRO
  split
  · rintro ⟨cs, e, hr⟩; exact ⟨cs, e, hr.mono hS _ _ _ _ ho⟩
  · exact RdO.mono hS t x _ _ ho

theorem OTup.mono {h h' S S' : Hp} (hS : Sub S S') : ∀ {l : List Dat} {vs : List Value} {o : List Nat}, (∀ b ∈ o, h' b = h b) → OTup h S l vs o → OTup h' S' l vs o
  | [], _, _, _, e => e
  | d :: l, _, _, ho, ⟨v, vs', o1, o2, e1, e2, h1, h2⟩ => ⟨v, vs', o1, o2, e1, e2, h1.mono hS (fun k hk => ho k (by simp [e2, hk])), OTup.mono hS (fun k hk => ho k (by simp [e2, hk])) h2⟩

/-- what owns nothing -/
theorem RdO.of_rd {m : Nat × Nat} {h S : Hp} : ∀ (t : T) (x : t.den) (cs : List Value), Rd S t x cs → RdO m h S t x cs []
  | .pair a b, _, _, ⟨c1, c2, e, h1, h2⟩ => ⟨c1, c2, [], [], e, rfl, RdO.of_rd a _ _ h1, RdO.of_rd b _ _ h2⟩
  | .own _, _, _, e => e.elim
  | .self _, _, _, e => e.elim
  | .mp _ _, _, _, e => e.elim
  | .nb _, _, _, e => e.elim
  | .ifc _ _, _, _, hr => ⟨rfl, hr⟩
  | .int _, _, _, hr => ⟨rfl, hr⟩
  | .bool, _, _, hr => ⟨rfl, hr⟩
  | .str, _, _, hr => ⟨rfl, hr⟩
  | .opq, _, _, hr => ⟨rfl, hr⟩
  | .unit, _, _, hr => ⟨rfl, hr⟩
  | .arr _ _, _, _, hr => ⟨rfl, hr⟩
  | .sl _, _, _, hr => ⟨rfl, hr⟩
  | .ptr _, _, _, hr => ⟨rfl, hr⟩
  | .any, _, _, hr => ⟨rfl, hr⟩
  | .byt _, _, _, hr => ⟨rfl, hr⟩
  | .fn _ _, _, _, hr => ⟨rfl, hr⟩

/-- a type whose data own no blocks -/
def noOwn : T → Bool
  | .pair a b => and' (noOwn a) (noOwn b)
  | .own _ => false
  | .self _ => false
  | .mp _ _ => false
  | .nb _ => false
  | _ => true

theorem RdO.rd {m : Nat × Nat} {h S : Hp} : ∀ (t : T) (x : t.den) (cs : List Value) (bs : List Nat), noOwn t = true → RdO m h S t x cs bs → bs = [] ∧ Rd S t x cs
  | .pair a b, _, _, _, hn, ⟨c1, c2, b1, b2, e, e', h1, h2⟩ => by
    obtain ⟨n1, n2⟩ := and'_true hn
    obtain ⟨e1, r1⟩ := RdO.rd a _ _ _ n1 h1
    obtain ⟨e2, r2⟩ := RdO.rd b _ _ _ n2 h2
    exact ⟨by rw [e', e1, e2]; rfl, c1, c2, e, r1, r2⟩
  | .own _, _, _, _, hn, _ => by simp [noOwn] at hn
  | .self _, _, _, _, hn, _ => by simp [noOwn] at hn
  | .mp _ _, _, _, _, hn, _ => by simp [noOwn] at hn
  | .nb _, _, _, _, hn, _ => by simp [noOwn] at hn
  | .ifc _ _, _, _, _, _, hr => hr
  | .int _, _, _, _, _, hr => hr
  | .bool, _, _, _, _, hr => hr
  | .str, _, _, _, _, hr => hr
  | .opq, _, _, _, _, hr => hr
  | .unit, _, _, _, _, hr => hr
  | .arr _ _, _, _, _, _, hr => hr
  | .sl _, _, _, _, _, hr => hr
  | .ptr _, _, _, _, _, hr => hr
  | .any, _, _, _, _, hr => hr
  | .byt _, _, _, _, _, hr => hr
  | .fn _ _, _, _, _, _, hr => hr

theorem RowRel.one {h S : Hp} {t : T} {xs : List t.den} {v : Value} {o : List Nat} (hx : RowRel h S t xs v o) : v.oneCell' = true := by
  rcases hx with ⟨_, ⟨_, e, _⟩, _⟩ | ⟨b, cap, cs, E, fr, e, e1, _⟩
  · rw [e]; rfl
  · rw [e1]; rfl

theorem RdO.length {m : Nat × Nat} {h S : Hp} : ∀ (t : T) (x : t.den) (cs : List Value) (bs : List Nat), RdO m h S t x cs bs → cs.length = t.size
  | .pair a b, _, _, _, ⟨c1, c2, b1, b2, e, e', h1, h2⟩ => by rw [e, List.length_append, RdO.length a _ _ _ h1, RdO.length b _ _ _ h2, T.size]
  | .own _, _, _, _, ⟨v, e, _⟩ => by simp [e, T.size]
  | .int _, _, _, _, hr => hr.2.length
  | .bool, _, _, _, hr => hr.2.length
  | .str, _, _, _, hr => hr.2.length
  | .opq, _, _, _, hr => hr.2.length
  | .unit, _, _, _, hr => hr.2.length
  | .arr _ _, _, _, _, hr => hr.2.length
  | .sl _, _, _, _, hr => hr.2.length
  | .ptr _, _, _, _, hr => hr.2.length
  | .any, _, _, _, hr => hr.2.length
  | .byt _, _, _, _, hr => hr.2.length
  | .self _, _, _, _, ⟨_, v, e, _⟩ => by simp [e, T.size]
  | .fn _ _, _, _, _, hr => hr.2.length
  | .ifc _ _, _, _, _, hr => hr.2.length
  | .mp _ _, _, _, _, ⟨u, e, _⟩ => by simp [e, T.size]
  | .nb _, _, _, _, hr => by rcases hr with ⟨_, e, _⟩ | ⟨_, _, _, _, _, _, _, e, _⟩ <;> simp [e, T.size]

theorem ARel.mono {h h' S S' : Hp} {tv tv' : Nat → Value} (hS : Sub S S') {x : A} {v : Value} {o : List Nat} (ho : ∀ b ∈ o, h' b = h b)
    (ht : ∀ r ∈ x.refs, tv' r = tv r) (hx : ARel h S tv x v o) (hc : ∀ r, x.cell = some r → ∀ b, blockOf (tv r) = some b → h' b = h b := by intro r hr; cases hr) : ARel h' S' tv' x v o := by
  cases x with
  | v t x => exact ⟨hx.1.mono hS, hx.2⟩
  | row t xs => exact RowRel.mono hS ho hx
  | box t x => obtain ⟨b, cs, E, fr, bs, e, e1, e2, h1, h2⟩ := hx; exact ⟨b, cs, E, fr, bs, e, e1, by rw [ho b (by simp [e])]; exact e2, h1, RdO.mono hS _ _ _ _ (fun k hk => ho k (by simp [e, hk])) h2⟩
  | iter s pos => obtain ⟨b, sp, e, e1, e2⟩ := hx; exact ⟨b, sp, e, e1, by rw [ho b (by simp [e])]; exact e2⟩
  | bor r => exact ⟨by rw [ht r (by simp [A.refs])]; exact hx.1, hx.2⟩
  | adr r t p => obtain ⟨e, b, e1, e2⟩ := hx; exact ⟨e, b, by rw [ht r (by simp [A.refs])]; exact e1, e2⟩
  | cel r k p => obtain ⟨e, b, cs, E, fr, e1, e2, e3⟩ := hx; exact ⟨e, b, cs, E, fr, by rw [ht r (by simp [A.refs])]; exact e1, by rw [hc r rfl b e1]; exact e2, e3⟩
  | clo f rs => obtain ⟨e, l, e1, e2⟩ := hx; exact ⟨e, l, e1, by rw [e2]; exact List.map_congr_left fun r hr => (ht r hr).symm⟩
  | yld => exact hx
  | ov t x => exact ⟨hx.1, hx.2.mono hS ho⟩
  | otup l => obtain ⟨vs, e, h1⟩ := hx; exact ⟨vs, e, h1.mono hS ho⟩
  | pel r n p u q => obtain ⟨e, b, cs, E, fr, b', len, cap, e1, e2, e3⟩ := hx; exact ⟨e, b, cs, E, fr, b', len, cap, by rw [ht r (by simp [A.refs])]; exact e1, by rw [hc r rfl b e1]; exact e2, e3⟩
  | psl r n p u q lo hi => obtain ⟨e, b, cs, E, fr, b', len, cap, e1, e2, e3⟩ := hx; exact ⟨e, b, cs, E, fr, b', len, cap, by rw [ht r (by simp [A.refs])]; exact e1, by rw [hc r rfl b e1]; exact e2, e3⟩
  | tup l => obtain ⟨e, vs, e1, e2⟩ := hx; exact ⟨e, vs, e1, e2.mono hS⟩
  | nilsl => exact hx
  | dead => exact hx

theorem ARel.nil_of_not_own {h S : Hp} {tv : Nat → Value} {x : A} {v : Value} {o : List Nat} (hx : ARel h S tv x v o) (hn : x.own = false) : o = [] := by
  cases x <;> simp [A.own] at hn <;> simp [ARel] at hx <;> simp_all

/-- what stays the same while a function runs -/
structure Ctx where
  w0 : World
  S0 : Hp
  B0 : Nat → Prop
  lent : List (Nat × Value)

structure WF (w0 : World) (B0 : Nat → Prop) (w : World) : Prop where
  size : w0.heap.size ≤ w.heap.size
  same : ∀ b, b < w0.heap.size → ¬ B0 b → w.heap[b]? = w0.heap[b]?
  tape : w.tape = w0.tape
  os : w.os = w0.os
  output : w.output = w0.output

theorem WF.refl (w : World) (B : Nat → Prop) : WF w B w := ⟨Nat.le_refl _, fun _ _ _ => rfl, rfl, rfl, rfl⟩

theorem WF.trans {w0 w1 w2 : World} {B0 B1 : Nat → Prop} (h : WF w0 B0 w1) (h' : WF w1 B1 w2) (hB : ∀ b, B1 b → B0 b ∨ w0.heap.size ≤ b) : WF w0 B0 w2 :=
  ⟨Nat.le_trans h.size h'.size, fun b hb hn => by
      rw [h'.same b (Nat.lt_of_lt_of_le hb h.size) (fun hb1 => (hB b hb1).elim hn (fun hle => absurd hb (by omega))), h.same b hb hn],
    h'.tape.trans h.tape, h'.os.trans h.os, h'.output.trans h.output⟩

def tv (a : Act) : Nat → Value := fun i => a.tmps.getD i undef

def markOf (D : Nat) : Deferred := { target := .collected D, args := #[] }

/-- the marks that loops over functions have left: each names a block of its own, which holds no calls -/
def Marks (c : Ctx) (ds : List Deferred) (w : World) (S : Hp) (ob : Nat → List Nat) : Prop :=
  ∃ Ds : List Nat, ds = Ds.map markOf ∧ Ds.Nodup ∧ ∀ D ∈ Ds, hp w D = some (.deferred (some [])) ∧ S D = none ∧ (∀ i, D ∉ ob i) ∧ (c.B0 D ∨ c.w0.heap.size ≤ D)

theorem Marks.turn {c : Ctx} {ds : List Deferred} {w w' : World} {S S' : Hp} {ob ob' : Nat → List Nat} (h : Marks c ds w S ob)
    (hk : ∀ D, hp w D = some (.deferred (some [])) → S D = none → (∀ i, D ∉ ob i) → (c.B0 D ∨ c.w0.heap.size ≤ D) → hp w' D = some (.deferred (some [])) ∧ S' D = none ∧ ∀ i, D ∉ ob' i) : Marks c ds w' S' ob' := by
  obtain ⟨Ds, e, hn, hD⟩ := h
  refine ⟨Ds, e, hn, fun D hm => ?_⟩
  obtain ⟨h1, h2, h3, h4⟩ := hD D hm
  obtain ⟨k1, k2, k3⟩ := hk D h1 h2 h3 h4
  exact ⟨k1, k2, k3, h4⟩

structure SimD (c : Ctx) (st : List A) (a : Act) (w : World) (S : Hp) (ob : Nat → List Nat) : Prop where
  defers : Marks c a.defers w S ob
  size : a.tmps.size = st.length
  rel : ∀ (i : Nat) (x : A), st[i]? = some x → ARel (hp w) S (tv a) x (tv a i) (ob i)
  refs : ∀ (i : Nat) (x : A) (r : Nat), st[i]? = some x → r ∈ x.refs → ∃ y : A, st[r]? = some y ∧ y.own = true
  out : ∀ i, st.length ≤ i → ob i = []
  inj : ∀ i j b, b ∈ ob i → b ∈ ob j → i = j
  nd : ∀ i, (ob i).Nodup
  hid : ∀ i b, b ∈ ob i → S b = none
  sub : Sub S (hp w)
  mono : Sub c.S0 S
  fresh : ∀ i b, b ∈ ob i → c.B0 b ∨ c.w0.heap.size ≤ b
  newS : ∀ b, S b ≠ none → c.S0 b ≠ none ∨ c.B0 b ∨ c.w0.heap.size ≤ b
  lent : ∀ p ∈ c.lent, tv a p.1 = p.2
  frame : WF c.w0 c.B0 w

def Sim (c : Ctx) (st : List A) (a : Act) (w : World) : Prop := ∃ S ob, SimD c st a w S ob

/-! ### what an owner's blocks are -/

theorem RdO.obj {m : Nat × Nat} {h S : Hp} : ∀ (t : T) (x : t.den) (cs : List Value) (bs : List Nat), RdO m h S t x cs bs → ∀ b ∈ bs, ∃ o, h b = some o ∧ ∀ l, o ≠ .deferred l
  | .pair a b, _, _, _, ⟨c1, c2, b1, b2, e, e', h1, h2⟩, k, hk => by
    rw [e', List.mem_append] at hk
    exact hk.elim (RdO.obj a _ _ _ h1 k) (RdO.obj b _ _ _ h2 k)
  | .own _, _, _, _, ⟨v, e, hr⟩, k, hk => by
    rcases hr with ⟨_, _, e⟩ | ⟨b, cap, cs, E, fr, e, e1, e2, _⟩
    · rw [e] at hk; cases hk
    · rw [e] at hk; simp at hk; subst hk; exact ⟨_, e2, fun l h => by cases h⟩
  | .int _, _, _, _, hr, k, hk => by rw [hr.1] at hk; cases hk
  | .bool, _, _, _, hr, k, hk => by rw [hr.1] at hk; cases hk
  | .str, _, _, _, hr, k, hk => by rw [hr.1] at hk; cases hk
  | .opq, _, _, _, hr, k, hk => by rw [hr.1] at hk; cases hk
  | .unit, _, _, _, hr, k, hk => by rw [hr.1] at hk; cases hk
  | .arr _ _, _, _, _, hr, k, hk => by rw [hr.1] at hk; cases hk
  | .sl _, _, _, _, hr, k, hk => by rw [hr.1] at hk; cases hk
  | .ptr _, _, _, _, hr, k, hk => by rw [hr.1] at hk; cases hk
  | .any, _, _, _, hr, k, hk => by rw [hr.1] at hk; cases hk
  | .byt _, _, _, _, hr, k, hk => by rw [hr.1] at hk; cases hk
  | .self _, _, _, _, hr, k, hk => by rw [hr.1] at hk; cases hk
  | .fn _ _, _, _, _, hr, k, hk => by rw [hr.1] at hk; cases hk
  | .ifc _ _, _, _, _, hr, k, hk => by rw [hr.1] at hk; cases hk
  | .mp _ _, _, _, _, ⟨_, _, hr⟩, k, hk => hr.obj k hk
  | .nb t, _, _, _, hr, k, hk => by
    rcases hr with ⟨_, _, e⟩ | ⟨y, b, cs', E, fr, bs', e1, e2, e3, e4, e5, e6⟩
    · rw [e] at hk; cases hk
    · rw [e3] at hk
      rcases List.mem_cons.1 hk with rfl | hk
      · exact ⟨_, e4, fun l h => by cases h⟩
      · exact RdO.obj t _ _ _ e6 k hk

theorem VRO.obj {h S : Hp} {t : T} {x : t.den} {v : Value} {o : List Nat} (hx : VRO h S t x v o) : ∀ b ∈ o, ∃ ob, h b = some ob ∧ ∀ l, ob ≠ .deferred l := by
  unfold VRO at hx
  split at hx
  · obtain ⟨_, _, hr⟩ := hx; exact hr.obj _ _ _ _
  · exact hx.obj _ _ _ _

theorem OTup.obj {h S : Hp} : ∀ {l : List Dat} {vs : List Value} {o : List Nat}, OTup h S l vs o → ∀ b ∈ o, ∃ ob, h b = some ob ∧ ∀ l, ob ≠ .deferred l
  | [], _, _, ⟨_, e⟩, b, hb => by rw [e] at hb; cases hb
  | _ :: _, _, _, ⟨_, _, _, _, _, e2, h1, h2⟩, b, hb => by
    rw [e2, List.mem_append] at hb
    exact hb.elim (h1.obj b) (OTup.obj h2 b)

theorem ARel.obj {h S : Hp} {tv : Nat → Value} {x : A} {v : Value} {o : List Nat} (hx : ARel h S tv x v o) : ∀ b ∈ o, ∃ ob, h b = some ob ∧ ∀ l, ob ≠ .deferred l := by
  intro b hb
  cases x with
  | row t xs =>
    rcases hx with ⟨_, _, e⟩ | ⟨b', cap, cs, E, fr, e, e1, e2, _⟩
    · rw [e] at hb; cases hb
    · rw [e] at hb; simp at hb; subst hb; exact ⟨_, e2, fun l h => by cases h⟩
  | box t x =>
    obtain ⟨b', cs, E, fr, bs, e, e1, e2, h1, h2⟩ := hx
    rw [e] at hb
    rcases List.mem_cons.1 hb with rfl | hb
    · exact ⟨_, e2, fun l h => by cases h⟩
    · exact h2.obj _ _ _ _ b hb
  | iter s pos => obtain ⟨b', sp, e, e1, e2⟩ := hx; rw [e] at hb; simp at hb; subst hb; exact ⟨_, e2, fun l h => by cases h⟩
  | yld => rw [hx.1] at hb; cases hb
  | ov t x => exact hx.2.obj b hb
  | otup l => obtain ⟨vs, e, h1⟩ := hx; exact h1.obj b hb
  | _ => have := hx.nil_of_not_own rfl; rw [this] at hb; cases hb

/-- the block that an owner's value names is its own -/
theorem ARel.main {h S : Hp} {tv : Nat → Value} {x : A} {v : Value} {o : List Nat} (hx : ARel h S tv x v o) (ho : x.own = true) {b : Nat} (hb : blockOf v = some b) : b ∈ o := by
  cases x <;> simp [A.own] at ho
  case row t xs =>
    rcases hx with ⟨_, ⟨ad, e, _⟩, _⟩ | ⟨b', cap, cs, E, fr, e, e1, e2, _⟩
    · rw [e] at hb; unfold blockOf at hb; split at hb <;> first | (rename_i h; cases h) | cases hb
    · rw [e1] at hb
      cases cap with
      | zero => simp [blockOf] at hb
      | succ n => simp [blockOf] at hb; subst hb; simp [e]
  case box t x => obtain ⟨b', cs, E, fr, bs, e, e1, e2, h1, h2⟩ := hx; rw [e1] at hb; simp [blockOf] at hb; subst hb; simp [e]
  case iter s pos =>
    obtain ⟨b', sp, e, e1, e2⟩ := hx
    rw [e1] at hb
    cases sp with
    | none => simp [blockOf] at hb; subst hb; simp [e]
    | some k => simp [blockOf] at hb
  case yld => rw [hx.2] at hb; cases hb
  case otup l => obtain ⟨vs, e, _⟩ := hx; rw [e] at hb; simp [blockOf] at hb
  case ov t x =>
    obtain ⟨ht, hx⟩ := hx
    unfold VRO at hx
    split at hx
    · obtain ⟨cs, e, _⟩ := hx; rw [e] at hb; simp [blockOf] at hb
    · rename_i hna
      cases t <;> simp [ovT, hna] at ht <;> (try (simp [T.isAgg] at ht hna))
      case own u =>
        obtain ⟨v', e, hr⟩ := hx
        cases e
        rcases hr with ⟨_, ⟨ad, e, _⟩, _⟩ | ⟨b', cap, cs, E, fr, e, e1, e2, _⟩
        · rw [e] at hb; unfold blockOf at hb; split at hb <;> first | (rename_i h; cases h) | cases hb
        · rw [e1] at hb
          cases cap with
          | zero => simp [blockOf] at hb
          | succ n => simp [blockOf] at hb; subst hb; simp [e]
      case mp k v' =>
        obtain ⟨v', e, hr⟩ := hx
        cases e
        rcases hr with ⟨_, e, _⟩ | ⟨xs, b', es, cl, e, e1, e2, _⟩
        · rw [e] at hb; simp [blockOf] at hb
        · rw [e2] at hb; simp [blockOf] at hb
      case nb u =>
        rcases hx with ⟨_, e, _⟩ | ⟨y, b', cs', E, fr, bs', e1, e2, e3, _⟩
        · cases e; simp [blockOf] at hb
        · cases e2; simp [blockOf] at hb; subst hb; simp [e3]

theorem SimD.main {c : Ctx} {st : List A} {a : Act} {w : World} {S : Hp} {ob : Nat → List Nat} (h : SimD c st a w S ob) {i r b : Nat} {x : A} (hi : st[i]? = some x) (hr : r ∈ x.refs) (hb : blockOf (tv a r) = some b) : b ∈ ob r := by
  obtain ⟨y, hy, ho⟩ := h.refs i x r hi hr
  exact (h.rel r y hy).main ho hb

def killA (r : Nat) (x : A) : A := match x with
  | .bor s => bif s == r then .dead else x
  | .adr s _ _ => bif s == r then .dead else x
  | .cel s _ _ => bif s == r then .dead else x
  | .pel s _ _ _ _ => bif s == r then .dead else x
  | .psl s _ _ _ _ _ _ => bif s == r then .dead else x
  | .clo _ rs => bif rs.contains r then .dead else x
  | _ => x

/-- x is laid in temporary t; if t owned a block, what refers to it is struck -/
def setSt (st : List A) (t : Nat) (x : A) : List A :=
  match st.getD t .dead with
  | .row .. | .box .. | .iter .. | .yld | .ov .. | .otup .. => (st.map (killA t)).set t x
  | _ => st.set t x

def killC (r : Nat) (x : A) : A := match x with
  | .cel s _ _ => bif s == r then .dead else x
  | .pel s _ _ _ _ => bif s == r then .dead else x
  | .psl s _ _ _ _ _ _ => bif s == r then .dead else x
  | _ => x

/-- the content of r's block turns -/
def contSt (st : List A) (r : Nat) (x : A) : List A := (st.map (killC r)).set r x

theorem killA_cases (r : Nat) (x : A) : (killA r x = x ∧ r ∉ x.refs) ∨ (killA r x = .dead ∧ r ∈ x.refs) := by
  cases x <;> simp only [killA, A.refs]
  case bor s =>
    cases h : s == r
    · exact .inl ⟨rfl, by simpa using fun e => by simp [e] at h⟩
    · exact .inr ⟨rfl, by simp at h; simp [h]⟩
  case adr s t p =>
    cases h : s == r
    · exact .inl ⟨rfl, by simpa using fun e => by simp [e] at h⟩
    · exact .inr ⟨rfl, by simp at h; simp [h]⟩
  case cel s t p =>
    cases h : s == r
    · exact .inl ⟨rfl, by simpa using fun e => by simp [e] at h⟩
    · exact .inr ⟨rfl, by simp at h; simp [h]⟩
  case pel s n p u q =>
    cases h : s == r
    · exact .inl ⟨rfl, by simpa using fun e => by simp [e] at h⟩
    · exact .inr ⟨rfl, by simp at h; simp [h]⟩
  case psl s n p u q lo hi =>
    cases h : s == r
    · exact .inl ⟨rfl, by simpa using fun e => by simp [e] at h⟩
    · exact .inr ⟨rfl, by simp at h; simp [h]⟩
  case clo f rs =>
    cases h : rs.contains r
    · exact .inl ⟨rfl, by simpa using h⟩
    · exact .inr ⟨rfl, by simpa using h⟩
  all_goals simp

theorem killC_cases (r : Nat) (x : A) : (killC r x = x ∧ x.cell ≠ some r) ∨ (killC r x = .dead ∧ x.cell = some r ∧ x.own = false) := by
  cases x <;> simp only [killC, A.cell, A.own]
  case cel s t p =>
    cases h : s == r
    · exact .inl ⟨rfl, by simpa using h⟩
    · exact .inr ⟨rfl, by simpa using h, trivial⟩
  case pel s n p u q =>
    cases h : s == r
    · exact .inl ⟨rfl, by simpa using h⟩
    · exact .inr ⟨rfl, by simpa using h, trivial⟩
  case psl s n p u q lo hi =>
    cases h : s == r
    · exact .inl ⟨rfl, by simpa using h⟩
    · exact .inr ⟨rfl, by simpa using h, trivial⟩
  all_goals simp

theorem killC_own (r : Nat) (x : A) : (killC r x).own = x.own := by
  rcases killC_cases r x with ⟨e, _⟩ | ⟨e, _, h⟩
  · rw [e]
  · rw [e, h]; rfl

theorem setSt_length (st : List A) (t : Nat) (x : A) : (setSt st t x).length = st.length := by
  unfold setSt; split <;> simp

theorem contSt_length (st : List A) (t : Nat) (x : A) : (contSt st t x).length = st.length := by simp [contSt]

theorem setSt_at (st : List A) (t : Nat) (x : A) (ht : t < st.length) : (setSt st t x)[t]? = some x := by
  unfold setSt; split <;> simp [ht]

theorem contSt_at (st : List A) (t : Nat) (x : A) (ht : t < st.length) : (contSt st t x)[t]? = some x := by simp [contSt, ht]

theorem contSt_other {st : List A} {r : Nat} {x y : A} {i : Nat} (hi : i ≠ r) (h : (contSt st r x)[i]? = some y) : (st[i]? = some y ∧ y.cell ≠ some r) ∨ (y = .dead ∧ ∃ z, st[i]? = some z ∧ z.own = false) := by
  rw [contSt, List.getElem?_set_ne (Ne.symm hi), List.getElem?_map] at h
  cases hz : st[i]? with
  | none => simp [hz] at h
  | some z =>
    simp [hz] at h
    rcases killC_cases r z with ⟨e, hr⟩ | ⟨e, hr, ho⟩
    · rw [e] at h; subst h; exact .inl ⟨rfl, hr⟩
    · rw [e] at h; subst h; exact .inr ⟨rfl, z, rfl, ho⟩

/-- another temporary, behind setSt: as it was and not referring to t, or struck -/
theorem setSt_other {st : List A} {t : Nat} {x y : A} {i : Nat} (hi : i ≠ t) (hrefs : ∀ (i : Nat) (x : A) (r : Nat), st[i]? = some x → r ∈ x.refs → ∃ y : A, st[r]? = some y ∧ y.own = true)
    (h : (setSt st t x)[i]? = some y) : (st[i]? = some y ∧ t ∉ y.refs) ∨ (y = .dead ∧ ∃ z, st[i]? = some z ∧ z.own = false) := by
  have hcase : (((st.map (killA t)).set t x)[i]? = some y → (st[i]? = some y ∧ t ∉ y.refs) ∨ (y = .dead ∧ ∃ z, st[i]? = some z ∧ z.own = false)) := by
    intro h
    rw [List.getElem?_set_ne (Ne.symm hi), List.getElem?_map] at h
    cases hz : st[i]? with
    | none => simp [hz] at h
    | some z =>
      simp [hz] at h
      rcases killA_cases t z with ⟨e, hr⟩ | ⟨e, hr⟩
      · rw [e] at h; subst h; exact .inl ⟨rfl, hr⟩
      · rw [e] at h; subst h
        exact .inr ⟨rfl, z, rfl, by cases z <;> simp [A.refs] at hr <;> rfl⟩
  unfold setSt at h
  split at h
  · exact hcase h
  · exact hcase h
  · exact hcase h
  · exact hcase h
  · exact hcase h
  · exact hcase h
  · rename_i h1 h2 h3 h4 h5 h6
    rw [List.getElem?_set_ne (Ne.symm hi)] at h
    refine .inl ⟨h, fun hr => ?_⟩
    obtain ⟨z, hz, ho⟩ := hrefs i y t h hr
    have hz' : st.getD t .dead = z := by simp [List.getD, hz]
    cases z <;> simp [A.own] at ho
    · exact h1 _ _ hz'
    · exact h2 _ _ hz'
    · exact h3 _ _ hz'
    · exact h4 hz'
    · exact h5 _ _ hz'
    · exact h6 _ hz'

theorem tv_put (a : Act) (t : Nat) (v : Value) (i : Nat) (ht : t < a.tmps.size) : tv (a.put (some t) v) i = if i = t then v else tv a i := by
  simp only [tv, Act.put, Array.getD_eq_getD_getElem?]
  by_cases h : i = t
  · subst h; simp [ht]
  · rw [if_neg h, Array.getElem?_setIfInBounds_ne (Ne.symm h)]

/-- A VALUE IS LAID -/
theorem SimD.put {c : Ctx} {st : List A} {a : Act} {w : World} {S : Hp} {ob : Nat → List Nat} (h : SimD c st a w S ob) {t : Nat} {x : A} {v : Value} {o : List Nat}
    (ht : t < st.length) (hl : ∀ p ∈ c.lent, p.1 ≠ t) (hx : ARel (hp w) S (tv a) x v o) (hr : ∀ r ∈ x.refs, r ≠ t ∧ ∃ y, st[r]? = some y ∧ y.own = true)
    (ho : ∀ b ∈ o, (∀ i, i ≠ t → b ∉ ob i) ∧ S b = none ∧ (c.B0 b ∨ c.w0.heap.size ≤ b)) (hnd : o.Nodup) :
    SimD c (setSt st t x) (a.put (some t) v) w S (fun i => if i = t then o else ob i) := by
  have hsz := h.size
  have htv : ∀ i, tv (a.put (some t) v) i = if i = t then v else tv a i := fun i => tv_put a t v i (by omega)
  constructor
  · refine h.defers.turn fun D h1 h2 h3 h4 => ⟨h1, h2, fun i hi => ?_⟩
    split at hi
    · obtain ⟨o1, e1, hne⟩ := hx.obj D hi
      rw [h1] at e1; cases e1; exact hne _ rfl
    · exact h3 i hi
  · rw [setSt_length]; simpa [Act.put] using h.size
  · intro i y hy
    by_cases hi : i = t
    · subst hi
      rw [setSt_at _ _ _ ht] at hy
      simp at hy; subst hy
      simp only [htv, if_true]
      exact hx.mono (Sub.refl _) (fun _ _ => rfl) (fun r hr' => by rw [htv, if_neg (hr r hr').1]) (fun _ _ _ _ => rfl)
    · simp only [htv, if_neg hi]
      rcases setSt_other hi h.refs hy with ⟨hy', hne⟩ | ⟨rfl, z, hz, hzo⟩
      · exact (h.rel i y hy').mono (Sub.refl _) (fun _ _ => rfl) (fun r hr' => by rw [htv, if_neg (fun e => hne (by rw [← e]; exact hr'))]) (fun _ _ _ _ => rfl)
      · exact (h.rel i z hz).nil_of_not_own hzo
  · intro i y r hy hyr
    have key : ∀ r, r ≠ t → (∃ z, st[r]? = some z ∧ z.own = true) → ∃ z, (setSt st t x)[r]? = some z ∧ z.own = true := by
      intro r hrt ⟨z, hz, hzo⟩
      have : ∃ u, (setSt st t x)[r]? = some u := by
        have : r < (setSt st t x).length := by
          rw [setSt_length]
          rcases Nat.lt_or_ge r st.length with hlt | hge
          · exact hlt
          · simp [List.getElem?_eq_none hge] at hz
        exact ⟨_, List.getElem?_eq_getElem this⟩
      obtain ⟨u, hu⟩ := this
      rcases setSt_other hrt h.refs hu with ⟨hu', _⟩ | ⟨_, z', hz', hzo'⟩
      · rw [hz] at hu'; simp at hu'; subst hu'; exact ⟨z, hu, hzo⟩
      · rw [hz] at hz'; simp at hz'; subst hz'; simp [hzo] at hzo'
    by_cases hi : i = t
    · subst hi
      rw [setSt_at _ _ _ ht] at hy
      simp at hy; subst hy
      exact key r (hr r hyr).1 (hr r hyr).2
    · rcases setSt_other hi h.refs hy with ⟨hy', hne⟩ | ⟨rfl, _⟩
      · exact key r (fun e => hne (by rw [← e]; exact hyr)) (h.refs i y r hy' hyr)
      · simp [A.refs] at hyr
  · intro i hi
    rw [setSt_length] at hi
    simp only [if_neg (show ¬ i = t by omega)]
    exact h.out i hi
  · intro i j b hi hj
    split at hi <;> split at hj
    · omega
    · rename_i e1 e2; exact absurd hj ((ho b hi).1 j e2)
    · rename_i e1 e2; exact absurd hi ((ho b hj).1 i e1)
    · exact h.inj i j b hi hj
  · intro i
    split
    · exact hnd
    · exact h.nd i
  · intro i b hi
    split at hi
    · exact (ho b hi).2.1
    · exact h.hid i b hi
  · exact h.sub
  · exact h.mono
  · intro i b hi
    split at hi
    · exact (ho b hi).2.2
    · exact h.fresh i b hi
  · exact h.newS
  · intro p hp'
    rw [htv, if_neg (hl p hp')]
    exact h.lent p hp'
  · exact h.frame

/-- the abstraction alone forgets what temporary t holds -/
theorem SimD.drop {c : Ctx} {st : List A} {a : Act} {w : World} {S : Hp} {ob : Nat → List Nat} (h : SimD c st a w S ob) {t : Nat} (ht : t < st.length) :
    SimD c (setSt st t .dead) a w S (fun i => if i = t then [] else ob i) := by
  constructor
  · refine h.defers.turn fun D h1 h2 h3 h4 => ⟨h1, h2, fun i hi => ?_⟩
    split at hi
    · cases hi
    · exact h3 i hi
  · rw [setSt_length]; exact h.size
  · intro i y hy
    by_cases hi : i = t
    · subst hi
      rw [setSt_at _ _ _ ht] at hy
      simp at hy; subst hy
      simp [ARel]
    · simp only [if_neg hi]
      rcases setSt_other hi h.refs hy with ⟨hy', hne⟩ | ⟨rfl, z, hz, hzo⟩
      · exact h.rel i y hy'
      · exact (h.rel i z hz).nil_of_not_own hzo
  · intro i y r hy hyr
    by_cases hi : i = t
    · subst hi
      rw [setSt_at _ _ _ ht] at hy
      simp at hy; subst hy
      simp [A.refs] at hyr
    · rcases setSt_other hi h.refs hy with ⟨hy', hne⟩ | ⟨rfl, _⟩
      · obtain ⟨z, hz, hzo⟩ := h.refs i y r hy' hyr
        have hrt : r ≠ t := fun e => hne (by rw [← e]; exact hyr)
        have : r < (setSt st t .dead).length := by
          rw [setSt_length]
          rcases Nat.lt_or_ge r st.length with hlt | hge
          · exact hlt
          · simp [List.getElem?_eq_none hge] at hz
        have hu := List.getElem?_eq_getElem this
        rcases setSt_other hrt h.refs hu with ⟨hu', _⟩ | ⟨_, z', hz', hzo'⟩
        · rw [hz] at hu'; simp at hu'; exact ⟨_, hu, by rw [← hu']; exact hzo⟩
        · rw [hz] at hz'; simp at hz'; subst hz'; simp [hzo] at hzo'
      · simp [A.refs] at hyr
  · intro i hi
    rw [setSt_length] at hi
    split
    · rfl
    · exact h.out i hi
  · intro i j b hi hj
    split at hi <;> split at hj
    · omega
    · cases hi
    · cases hj
    · exact h.inj i j b hi hj
  · intro i
    split
    · exact .nil
    · exact h.nd i
  · intro i b hi
    split at hi
    · cases hi
    · exact h.hid i b hi
  · exact h.sub
  · exact h.mono
  · intro i b hi
    split at hi
    · cases hi
    · exact h.fresh i b hi
  · exact h.newS
  · exact h.lent
  · exact h.frame

theorem ARel.cell_obj {h S : Hp} {tv : Nat → Value} {x : A} {v : Value} {o : List Nat} (hx : ARel h S tv x v o) {r : Nat} (hr : x.cell = some r) {b : Nat} (hb : blockOf (tv r) = some b) : ∃ ob, h b = some ob := by
  cases x <;> simp [A.cell] at hr
  case cel =>
    subst hr
    obtain ⟨_, b', cs, E, fr, e1, e2, _⟩ := hx
    rw [e1] at hb; simp at hb; subst hb
    exact ⟨_, e2⟩
  case pel =>
    subst hr
    obtain ⟨_, b', cs, E, fr, _, _, _, e1, e2, _⟩ := hx
    rw [e1] at hb; simp at hb; subst hb
    exact ⟨_, e2⟩
  case psl =>
    subst hr
    obtain ⟨_, b', cs, E, fr, _, _, _, e1, e2, _⟩ := hx
    rw [e1] at hb; simp at hb; subst hb
    exact ⟨_, e2⟩

theorem A.cell_refs {x : A} {r : Nat} (h : x.cell = some r) : r ∈ x.refs := by
  cases x <;> simp [A.cell] at h
  case cel => subst h; simp [A.refs]
  case pel => subst h; simp [A.refs]
  case psl => subst h; simp [A.refs]

/-- THE WORLD TURNS, but not what is read or owned -/
theorem SimD.world {c : Ctx} {st : List A} {a : Act} {w w' : World} {S : Hp} {ob : Nat → List Nat} (h : SimD c st a w S ob) (hs : Sub (hp w) (hp w')) (hf : WF c.w0 c.B0 w') :
    SimD c st a w' S ob := by
  refine ⟨h.defers.turn fun D h1 h2 h3 h4 => ⟨hs _ _ h1, h2, h3⟩, h.size, ?_, h.refs, h.out, h.inj, h.nd, h.hid, h.sub.trans hs, h.mono, h.fresh, h.newS, h.lent, hf⟩
  intro i x hx
  have hx' := h.rel i x hx
  refine hx'.mono (Sub.refl _) (fun b hb => ?_) (fun _ _ => rfl) (fun r hr b hb => ?_)
  · obtain ⟨o, ho, _⟩ := hx'.obj b hb
    rw [ho, hs b o ho]
  · obtain ⟨o, ho⟩ := hx'.cell_obj hr hb
    rw [ho, hs b o ho]

/-- THE CONTENT OF AN OWNED BLOCK TURNS; the owner may get and lose further blocks -/
theorem SimD.content' {c : Ctx} {st : List A} {a : Act} {w w' : World} {S : Hp} {ob : Nat → List Nat} (h : SimD c st a w S ob) {r b : Nat} {x : A} {o' : List Nat} (hr : r < st.length) (hb : b ∈ ob r)
    (hx : ARel (hp w') S (tv a) x (tv a r) o') (hxo : x.own = true) (hnd : o'.Nodup) (ho : ∀ k ∈ o', k ∈ ob r ∨ ((∀ i, k ∉ ob i) ∧ S k = none ∧ (c.B0 k ∨ c.w0.heap.size ≤ k)))
    (hsame : ∀ b', b' ≠ b → hp w' b' = hp w b') (hf : WF c.w0 c.B0 w') :
    SimD c (contSt st r x) a w' S (fun i => if i = r then o' else ob i) := by
  have hxr : x.refs = [] := by cases x <;> simp [A.own] at hxo <;> rfl
  have hown : ∀ k, k ∈ o' → ∀ i, i ≠ r → k ∉ ob i := fun k hk i hi hki => (ho k hk).elim (fun h1 => hi (h.inj i r k hki h1)) (fun h1 => h1.1 i hki)
  refine ⟨h.defers.turn fun D h1 h2 h3 h4 => ?_, by rw [contSt_length]; exact h.size, ?_, ?_, fun i hi => ?_, fun i j k hi hj => ?_, fun i => ?_, fun i k hi => ?_, ?_, h.mono, fun i k hi => ?_, h.newS, h.lent, hf⟩
  · have hDb : D ≠ b := fun e => h3 r (by rw [e]; exact hb)
    refine ⟨by rw [hsame D hDb]; exact h1, h2, fun i hi => ?_⟩
    split at hi
    · obtain ⟨o1, e1, hne⟩ := hx.obj D hi
      rw [hsame D hDb, h1] at e1; cases e1; exact hne _ rfl
    · exact h3 i hi
  · intro i y hy
    by_cases hi : i = r
    · subst hi
      rw [contSt_at _ _ _ hr] at hy; simp at hy; subst hy
      simp only [if_true]; exact hx
    · simp only [if_neg hi]
      rcases contSt_other hi hy with ⟨hy', hne⟩ | ⟨rfl, z, hz, hzo⟩
      · refine (h.rel i y hy').mono (Sub.refl _) (fun b' hb' => hsame b' ?_) (fun _ _ => rfl) (fun s hs b' hb' => hsame b' ?_)
        · intro e; subst e; exact hi (h.inj i r _ hb' hb)
        · intro e; subst e
          have := h.main hy' (A.cell_refs hs) hb'
          have := h.inj s r _ this hb
          subst this; exact hne hs
      · exact (h.rel i z hz).nil_of_not_own hzo
  · intro i y s hy hys
    have key : ∀ s : Nat, (∃ z : A, st[s]? = some z ∧ z.own = true) → ∃ z : A, (contSt st r x)[s]? = some z ∧ z.own = true := by
      intro s ⟨z, hz, hzo⟩
      by_cases hs : s = r
      · subst hs; exact ⟨x, contSt_at _ _ _ hr, hxo⟩
      · refine ⟨killC r z, by rw [contSt, List.getElem?_set_ne (Ne.symm hs), List.getElem?_map, hz]; rfl, by rw [killC_own]; exact hzo⟩
    by_cases hi : i = r
    · subst hi
      rw [contSt_at _ _ _ hr] at hy; simp at hy; subst hy
      rw [hxr] at hys; cases hys
    · rcases contSt_other hi hy with ⟨hy', _⟩ | ⟨rfl, _⟩
      · exact key s (h.refs i y s hy' hys)
      · simp [A.refs] at hys
  · rw [contSt_length] at hi
    simp only [if_neg (show ¬ i = r by omega)]
    exact h.out i hi
  · split at hi <;> split at hj
    · omega
    · rename_i e1 e2; exact absurd hj (hown k hi j e2)
    · rename_i e1 e2; exact absurd hi (hown k hj i e1)
    · exact h.inj i j k hi hj
  · split
    · exact hnd
    · exact h.nd i
  · split at hi
    · exact (ho k hi).elim (fun h1 => h.hid r k h1) (fun h1 => h1.2.1)
    · exact h.hid i k hi
  · intro b' o hbo
    rw [hsame b' (fun e => by subst e; rw [h.hid r _ hb] at hbo; simp at hbo)]
    exact h.sub b' o hbo
  · split at hi
    · exact (ho k hi).elim (fun h1 => h.fresh r k h1) (fun h1 => h1.2.2)
    · exact h.fresh i k hi

/-- the same, if no block turns -/
theorem SimD.content0 {c : Ctx} {st : List A} {a : Act} {w w' : World} {S : Hp} {ob : Nat → List Nat} (h : SimD c st a w S ob) {r : Nat} {x : A} {o' : List Nat} (hr : r < st.length)
    (hx : ARel (hp w') S (tv a) x (tv a r) o') (hxo : x.own = true) (hnd : o'.Nodup) (ho : ∀ k ∈ o', k ∈ ob r ∨ ((∀ i, k ∉ ob i) ∧ S k = none ∧ (c.B0 k ∨ c.w0.heap.size ≤ k)))
    (hsame : ∀ b', hp w' b' = hp w b') (hf : WF c.w0 c.B0 w') :
    SimD c (contSt st r x) a w' S (fun i => if i = r then o' else ob i) := by
  have hxr : x.refs = [] := by cases x <;> simp [A.own] at hxo <;> rfl
  have hown : ∀ k, k ∈ o' → ∀ i, i ≠ r → k ∉ ob i := fun k hk i hi hki => (ho k hk).elim (fun h1 => hi (h.inj i r k hki h1)) (fun h1 => h1.1 i hki)
  refine ⟨h.defers.turn fun D h1 h2 h3 h4 => ?_, by rw [contSt_length]; exact h.size, ?_, ?_, fun i hi => ?_, fun i j k hi hj => ?_, fun i => ?_, fun i k hi => ?_, ?_, h.mono, fun i k hi => ?_, h.newS, h.lent, hf⟩
  · refine ⟨by rw [hsame D]; exact h1, h2, fun i hi => ?_⟩
    split at hi
    · obtain ⟨o1, e1, hne⟩ := hx.obj D hi
      rw [hsame D, h1] at e1; cases e1; exact hne _ rfl
    · exact h3 i hi
  · intro i y hy
    by_cases hi : i = r
    · subst hi
      rw [contSt_at _ _ _ hr] at hy; simp at hy; subst hy
      simp only [if_true]; exact hx
    · simp only [if_neg hi]
      rcases contSt_other hi hy with ⟨hy', hne⟩ | ⟨rfl, z, hz, hzo⟩
      · exact (h.rel i y hy').mono (Sub.refl _) (fun b' hb' => hsame b') (fun _ _ => rfl) (fun s hs b' hb' => hsame b')
      · exact (h.rel i z hz).nil_of_not_own hzo
  · intro i y s hy hys
    have key : ∀ s : Nat, (∃ z : A, st[s]? = some z ∧ z.own = true) → ∃ z : A, (contSt st r x)[s]? = some z ∧ z.own = true := by
      intro s ⟨z, hz, hzo⟩
      by_cases hs : s = r
      · subst hs; exact ⟨x, contSt_at _ _ _ hr, hxo⟩
      · refine ⟨killC r z, by rw [contSt, List.getElem?_set_ne (Ne.symm hs), List.getElem?_map, hz]; rfl, by rw [killC_own]; exact hzo⟩
    by_cases hi : i = r
    · subst hi
      rw [contSt_at _ _ _ hr] at hy; simp at hy; subst hy
      rw [hxr] at hys; cases hys
    · rcases contSt_other hi hy with ⟨hy', _⟩ | ⟨rfl, _⟩
      · exact key s (h.refs i y s hy' hys)
      · simp [A.refs] at hys
  · rw [contSt_length] at hi
    simp only [if_neg (show ¬ i = r by omega)]
    exact h.out i hi
  · split at hi <;> split at hj
    · omega
    · rename_i e1 e2; exact absurd hj (hown k hi j e2)
    · rename_i e1 e2; exact absurd hi (hown k hj i e1)
    · exact h.inj i j k hi hj
  · split
    · exact hnd
    · exact h.nd i
  · split at hi
    · exact (ho k hi).elim (fun h1 => h.hid r k h1) (fun h1 => h1.2.1)
    · exact h.hid i k hi
  · intro b' o hbo
    rw [hsame b']
    exact h.sub b' o hbo
  · split at hi
    · exact (ho k hi).elim (fun h1 => h.fresh r k h1) (fun h1 => h1.2.2)
    · exact h.fresh i k hi

theorem SimD.content {c : Ctx} {st : List A} {a : Act} {w w' : World} {S : Hp} {ob : Nat → List Nat} (h : SimD c st a w S ob) {r b : Nat} {x : A} (hr : r < st.length) (hb : b ∈ ob r)
    (hx : ARel (hp w') S (tv a) x (tv a r) (ob r)) (hxo : x.own = true) (hsame : ∀ b', b' ≠ b → hp w' b' = hp w b') (hf : WF c.w0 c.B0 w') :
    SimD c (contSt st r x) a w' S ob := by
  have := h.content' hr hb hx hxo (h.nd r) (fun k hk => .inl hk) hsame hf
  have e : (fun i => if i = r then ob r else ob i) = ob := by funext i; split <;> simp_all
  rwa [e] at this

/-- blocks that nobody owns are read alone from now on -/
theorem SimD.share {c : Ctx} {st : List A} {a : Act} {w : World} {S : Hp} {ob : Nat → List Nat} (h : SimD c st a w S ob) (L : List Nat)
    (hL : ∀ k ∈ L, (∀ i, k ∉ ob i) ∧ S k = none ∧ (c.B0 k ∨ c.w0.heap.size ≤ k) ∧ ∃ o, hp w k = some o ∧ ∀ l, o ≠ .deferred l) :
    Sub S (fun b => if b ∈ L then hp w b else S b) ∧ SimD c st a w (fun b => if b ∈ L then hp w b else S b) ob := by
  have hSS : Sub S (fun b => if b ∈ L then hp w b else S b) := fun b o hbo => by
    dsimp only
    split
    · rename_i e; rw [(hL b e).2.1] at hbo; simp at hbo
    · exact hbo
  refine ⟨hSS, h.defers.turn fun D h1 h2 h3 h4 => ⟨h1, ?_, h3⟩, h.size, fun i x hx => (h.rel i x hx).mono hSS (fun _ _ => rfl) (fun _ _ => rfl) (fun _ _ _ _ => rfl), h.refs, h.out, h.inj, h.nd, fun i b hi => ?_, fun b o hbo => ?_, h.mono.trans hSS, h.fresh, fun b hb => ?_, h.lent, h.frame⟩
  · split
    · rename_i e
      obtain ⟨o, ho, hne⟩ := (hL D e).2.2.2
      rw [h1] at ho; cases ho; exact absurd rfl (hne _)
    · exact h2
  · split
    · rename_i e; exact absurd hi ((hL b e).1 i)
    · exact h.hid i b hi
  · split at hbo
    · exact hbo
    · exact h.sub b o hbo
  · split at hb
    · rename_i e; exact .inr (hL b e).2.2.1
    · exact h.newS b hb

/-- the type of what holds rows of its own, when they are given up -/
def frz : T → T
  | .own u => .sl u
  | .pair a b => .pair (frz a) (frz b)
  | .mp _ _ => .any
  | .nb _ => .any
  | t => t

def frzD : (t : T) → t.den → (frz t).den
  | .own _, x => x
  | .pair a b, x => (frzD a x.1, frzD b x.2)
  | .int _, x => x
  | .bool, x => x
  | .str, x => x
  | .opq, x => x
  | .unit, x => x
  | .arr _ _, x => x
  | .sl _, x => x
  | .ptr _, x => x
  | .self _, x => x
  | .any, x => x
  | .byt _, x => x
  | .fn _ _, x => x
  | .ifc _ _, x => x
  | .mp _ _, _ => ()
  | .nb _, _ => ()

/-- and when nothing is known of them any more -/
def fgt : T → T
  | .own _ => .any
  | .pair a b => .pair (fgt a) (fgt b)
  | .mp _ _ => .any
  | .nb _ => .any
  | t => t

def fgtD : (t : T) → t.den → (fgt t).den
  | .own _, _ => ()
  | .pair a b, x => (fgtD a x.1, fgtD b x.2)
  | .int _, x => x
  | .bool, x => x
  | .str, x => x
  | .opq, x => x
  | .unit, x => x
  | .arr _ _, x => x
  | .sl _, x => x
  | .ptr _, x => x
  | .self _, x => x
  | .any, x => x
  | .byt _, x => x
  | .fn _ _, x => x
  | .ifc _ _, x => x
  | .mp _ _, _ => ()
  | .nb _, _ => ()

def retA (r : Nat) (y x : A) : A := match x with
  | .bor s => bif s == r then y else x
  | .adr s _ _ => bif s == r then .dead else x
  | .cel s _ _ => bif s == r then .dead else x
  | .pel s _ _ _ _ => bif s == r then .dead else x
  | .psl s _ _ _ _ _ _ => bif s == r then .dead else x
  | .clo _ rs => bif rs.contains r then .dead else x
  | _ => x

def retOv : (t : T) → t.den → Option A
  | .nb _, none => some (.v .opq (.pointer none))
  | .nb _, some _ => none
  | t, y => match noOwn (frz t) with
    | true => some (.v (frz t) (frzD t y))
    | false => none

/-- a value that can be given up -/
def frzOk (t : T) : Bool := match t with
  | .nb _ => false
  | t => noOwn (frz t)

theorem retOv_frz {t : T} {y : t.den} (h : frzOk t = true) : retOv t y = some (.v (frz t) (frzD t y)) := by
  cases t <;> simp_all [frzOk, retOv]

/-- what an owner is from now on, if it is given up: read alone -/
def retV (x : A) : Option A := match x with
  | .row t xs => some (.v (.sl t) xs)
  | .box t y => (match noOwn t with
    | true => some (.v (.ptr t) y)
    | false => none)
  | .ov t y => retOv t y
  | _ => none

/-- an owner is given up: from now on it is read alone -/
def retSt (st : List A) (r : Nat) : List A :=
  match retV (st.getD r .dead) with
  | some y => (st.map (retA r y)).set r y
  | none => st

theorem retSt_length (st : List A) (r : Nat) : (retSt st r).length = st.length := by
  unfold retSt; split <;> simp

theorem RowRel.shared {h S S' : Hp} {t : T} {xs : List t.den} {v : Value} {o : List Nat} (hx : RowRel h S t xs v o) (hS : Sub S S') (ho : ∀ b ∈ o, S' b = h b) : VR S' (.sl t) xs v := by
  refine VR.of_one rfl ?_
  rcases hx with ⟨rfl, ⟨ad, rfl, _⟩, _⟩ | ⟨b, cap, cs, E, fr, e, rfl, e2, h1, h2, h3, h4⟩
  · exact ⟨ad, 0, rfl, by simp, .inl rfl⟩
  · refine ⟨some ⟨b, 0, none⟩, cap, rfl, h3, .inr ⟨b, 0, _, rfl, ⟨cs, E, fr, [], cs.toList.drop (xs.length * t.size), ?_, by simp, rfl⟩, All.mono (Rd.mono hS t) _ _ h4.1⟩⟩
    rw [ho b (by simp [e]), e2]

theorem RdO.frz {m : Nat × Nat} {h S S' : Hp} (hS : Sub S S') : ∀ (t : T) (x : t.den) (cs : List Value) (bs : List Nat), (∀ k ∈ bs, S' k = h k) → RdO m h S t x cs bs → RdO m h S' (frz t) (frzD t x) cs []
  | .own u, x, _, _, ho, ⟨v, e, hr⟩ => ⟨rfl, by
      have := RowRel.shared hr hS ho
      unfold VR at this
      rw [e]
      show Rd S' (.sl u) x [v]
      simpa [T.isAgg] using this⟩
  | .pair a b, x, _, _, ho, ⟨c1, c2, b1, b2, e, e', h1, h2⟩ =>
    ⟨c1, c2, [], [], e, rfl, RdO.frz hS a _ _ _ (fun k hk => ho k (by simp [e', hk])) h1, RdO.frz hS b _ _ _ (fun k hk => ho k (by simp [e', hk])) h2⟩
  | .int _, _, _, _, _, ⟨_, hr⟩ => ⟨rfl, Rd.mono hS _ _ _ hr⟩
  | .bool, _, _, _, _, ⟨_, hr⟩ => ⟨rfl, Rd.mono hS _ _ _ hr⟩
  | .str, _, _, _, _, ⟨_, hr⟩ => ⟨rfl, Rd.mono hS _ _ _ hr⟩
  | .opq, _, _, _, _, ⟨_, hr⟩ => ⟨rfl, Rd.mono hS _ _ _ hr⟩
  | .unit, _, _, _, _, ⟨_, hr⟩ => ⟨rfl, Rd.mono hS _ _ _ hr⟩
  | .arr _ _, _, _, _, _, ⟨_, hr⟩ => ⟨rfl, Rd.mono hS _ _ _ hr⟩
  | .sl _, _, _, _, _, ⟨_, hr⟩ => ⟨rfl, Rd.mono hS _ _ _ hr⟩
  | .ptr _, _, _, _, _, ⟨_, hr⟩ => ⟨rfl, Rd.mono hS _ _ _ hr⟩
  | .self _, _, _, _, _, ⟨_, hr⟩ => ⟨rfl, hr⟩
  | .any, _, _, _, _, ⟨_, hr⟩ => ⟨rfl, Rd.mono hS _ _ _ hr⟩
  | .byt _, _, _, _, _, ⟨_, hr⟩ => ⟨rfl, Rd.mono hS _ _ _ hr⟩
  | .fn _ _, _, _, _, _, ⟨_, hr⟩ => ⟨rfl, Rd.mono hS _ _ _ hr⟩
  | .ifc _ _, _, _, _, _, ⟨_, hr⟩ => ⟨rfl, Rd.mono hS _ _ _ hr⟩
  | .mp _ _, _, _, _, _, ⟨u, e, hr⟩ => ⟨rfl, u, e, hr.one⟩
  | .nb _, _, _, _, _, hr => ⟨rfl, by rcases hr with ⟨_, e, _⟩ | ⟨_, _, _, _, _, _, _, e, _⟩ <;> exact ⟨_, e, rfl⟩⟩

theorem RdO.fgt {m : Nat × Nat} {h S : Hp} : ∀ (t : T) (x : t.den) (cs : List Value) (bs : List Nat), RdO m h S t x cs bs → RdO m h S (fgt t) (fgtD t x) cs []
  | .own u, x, _, _, ⟨v, e, hr⟩ => ⟨rfl, v, e, hr.one⟩
  | .pair a b, x, _, _, ⟨c1, c2, b1, b2, e, e', h1, h2⟩ => ⟨c1, c2, [], [], e, rfl, RdO.fgt a _ _ _ h1, RdO.fgt b _ _ _ h2⟩
  | .int _, _, _, _, ⟨_, hr⟩ => ⟨rfl, hr⟩
  | .bool, _, _, _, ⟨_, hr⟩ => ⟨rfl, hr⟩
  | .str, _, _, _, ⟨_, hr⟩ => ⟨rfl, hr⟩
  | .opq, _, _, _, ⟨_, hr⟩ => ⟨rfl, hr⟩
  | .unit, _, _, _, ⟨_, hr⟩ => ⟨rfl, hr⟩
  | .arr _ _, _, _, _, ⟨_, hr⟩ => ⟨rfl, hr⟩
  | .sl _, _, _, _, ⟨_, hr⟩ => ⟨rfl, hr⟩
  | .ptr _, _, _, _, ⟨_, hr⟩ => ⟨rfl, hr⟩
  | .self _, _, _, _, ⟨_, hr⟩ => ⟨rfl, hr⟩
  | .any, _, _, _, ⟨_, hr⟩ => ⟨rfl, hr⟩
  | .byt _, _, _, _, ⟨_, hr⟩ => ⟨rfl, hr⟩
  | .fn _ _, _, _, _, ⟨_, hr⟩ => ⟨rfl, hr⟩
  | .ifc _ _, _, _, _, ⟨_, hr⟩ => ⟨rfl, hr⟩
  | .mp _ _, _, _, _, ⟨u, e, hr⟩ => ⟨rfl, u, e, hr.one⟩
  | .nb _, _, _, _, hr => ⟨rfl, by rcases hr with ⟨_, e, _⟩ | ⟨_, _, _, _, _, _, _, e, _⟩ <;> exact ⟨_, e, rfl⟩⟩

theorem frz_agg : ∀ (t : T), (frz t).isAgg = t.isAgg := by
  intro t; cases t <;> rfl

theorem ARel.row_shared {h S S' : Hp} {tv : Nat → Value} {t : T} {xs : List t.den} {v : Value} {o : List Nat} (hx : ARel h S tv (.row t xs) v o) (hS : Sub S S') (ho : ∀ b ∈ o, S' b = h b) :
    VR S' (.sl t) xs v := RowRel.shared hx hS ho

/-- an owner as a datum that is read alone -/
theorem ARel.shared {h S S' : Hp} {tv : Nat → Value} {x y : A} {v : Value} {o : List Nat} (hx : ARel h S tv x v o) (hS : Sub S S') (ho : ∀ b ∈ o, S' b = h b) (hy : retV x = some y) : ∃ t z, y = .v t z ∧ VR S' t z v := by
  cases x <;> simp [retV] at hy
  case row t xs => subst hy; exact ⟨_, _, rfl, RowRel.shared hx hS ho⟩
  case box t z =>
    split at hy
    · rename_i hn
      simp at hy; subst hy
      obtain ⟨b, cs, E, fr, bs, e, e1, e2, h1, h2⟩ := hx
      obtain ⟨_, hr⟩ := h2.rd _ _ _ _ hn
      subst e1
      exact ⟨_, _, rfl, VR.of_one rfl ⟨b, 0, cs.toList, rfl, ⟨cs, E, fr, [], [], by rw [ho b (by simp [e])]; exact e2, by simp, rfl⟩, hr.mono hS⟩⟩
    · cases hy
  case ov t z =>
    have key : noOwn (frz t) = true → ∃ t' z', A.v (frz t) (frzD t z) = .v t' z' ∧ VR S' t' z' v := fun hn => by
      refine ⟨_, _, rfl, ?_⟩
      obtain ⟨_, hx⟩ := hx
      unfold VRO at hx
      split at hx
      · rename_i hg
        obtain ⟨cs, e, hr⟩ := hx
        rw [e]
        exact VR.of_agg (by rw [frz_agg]; exact hg) ((hr.frz hS _ _ _ _ ho).rd _ _ _ _ hn).2
      · rename_i hg
        exact VR.of_one (by rw [frz_agg]; simpa using hg) ((hx.frz hS _ _ _ _ ho).rd _ _ _ _ hn).2
    unfold retOv at hy
    split at hy
    · simp at hy; subst hy
      obtain ⟨_, hx⟩ := hx
      unfold VRO at hx
      simp only [T.isAgg, Bool.false_eq_true, if_false] at hx
      rcases hx with ⟨_, e, _⟩ | ⟨_, _, _, _, _, _, e, _⟩
      · cases e; exact ⟨_, _, rfl, VR.of_one rfl ⟨rfl, rfl⟩⟩
      · cases e
    · cases hy
    · split at hy
      · rename_i hn
        simp at hy; subst hy
        exact key hn
      · cases hy

theorem SimD.retire {c : Ctx} {st : List A} {a : Act} {w : World} {S : Hp} {ob : Nat → List Nat} (h : SimD c st a w S ob) {r : Nat} {x y : A} (hr : st[r]? = some x) (hy : retV x = some y) :
    ∃ S' t z, Sub S S' ∧ y = .v t z ∧ VR S' t z (tv a r) ∧ SimD c (retSt st r) a w S' (fun i => if i = r then [] else ob i) := by
  have hlt : r < st.length := by
    rcases Nat.lt_or_ge r st.length with hlt | hge
    · exact hlt
    · simp [List.getElem?_eq_none hge] at hr
  have hx := h.rel r _ hr
  let S' : Hp := fun b => if b ∈ ob r then hp w b else S b
  have hSS : Sub S S' := fun b o hbo => by
    show (if b ∈ ob r then hp w b else S b) = some o
    split
    · rename_i e; rw [h.hid r b e] at hbo; simp at hbo
    · exact hbo
  obtain ⟨t, z, rfl, hv⟩ := hx.shared hSS (fun b e => by show (if b ∈ ob r then hp w b else S b) = _; rw [if_pos e]) hy
  have est : retSt st r = (st.map (retA r (.v t z))).set r (.v t z) := by
    unfold retSt
    have : st.getD r .dead = x := by simp [List.getD, hr]
    rw [this, hy]
  refine ⟨S', t, z, hSS, rfl, hv, ?_⟩
  have other : ∀ {i : Nat} {u : A}, i ≠ r → (retSt st r)[i]? = some u → (st[i]? = some u ∧ r ∉ u.refs) ∨ ((u = .dead ∨ (u = .v t z ∧ tv a i = tv a r)) ∧ ob i = []) := by
    intro i u hi hu
    rw [est, List.getElem?_set_ne (Ne.symm hi), List.getElem?_map] at hu
    cases hz : st[i]? with
    | none => simp [hz] at hu
    | some q =>
      simp [hz] at hu
      have hzr := h.rel i q hz
      cases q <;> simp only [retA] at hu <;> (try (subst hu; exact .inl ⟨rfl, by simp [A.refs]⟩))
      case bor s =>
        by_cases hs : s = r
        · subst hs; simp at hu; subst hu; exact .inr ⟨.inr ⟨rfl, hzr.1⟩, hzr.2⟩
        · rw [show (s == r) = false by simpa using hs] at hu
          simp at hu; subst hu; exact .inl ⟨rfl, by simpa [A.refs] using fun e => hs e.symm⟩
      case adr s t' p =>
        by_cases hs : s = r
        · subst hs; simp at hu; subst hu; exact .inr ⟨.inl rfl, hzr.1⟩
        · rw [show (s == r) = false by simpa using hs] at hu
          simp at hu; subst hu; exact .inl ⟨rfl, by simpa [A.refs] using fun e => hs e.symm⟩
      case cel s t' p =>
        by_cases hs : s = r
        · subst hs; simp at hu; subst hu; exact .inr ⟨.inl rfl, hzr.1⟩
        · rw [show (s == r) = false by simpa using hs] at hu
          simp at hu; subst hu; exact .inl ⟨rfl, by simpa [A.refs] using fun e => hs e.symm⟩
      case pel s n p u' q =>
        by_cases hs : s = r
        · subst hs; simp at hu; subst hu; exact .inr ⟨.inl rfl, hzr.1⟩
        · rw [show (s == r) = false by simpa using hs] at hu
          simp at hu; subst hu; exact .inl ⟨rfl, by simpa [A.refs] using fun e => hs e.symm⟩
      case psl s n p u' q lo hi =>
        by_cases hs : s = r
        · subst hs; simp at hu; subst hu; exact .inr ⟨.inl rfl, hzr.1⟩
        · rw [show (s == r) = false by simpa using hs] at hu
          simp at hu; subst hu; exact .inl ⟨rfl, by simpa [A.refs] using fun e => hs e.symm⟩
      case clo f rs =>
        cases hs : rs.contains r with
        | true => rw [hs] at hu; simp at hu; subst hu; exact .inr ⟨.inl rfl, hzr.1⟩
        | false => rw [hs] at hu; simp at hu; subst hu; exact .inl ⟨rfl, by simpa [A.refs] using hs⟩
  constructor
  · refine h.defers.turn fun D h1 h2 h3 h4 => ⟨h1, ?_, fun i hi => ?_⟩
    · show (if D ∈ ob r then hp w D else S D) = none
      rw [if_neg (h3 r)]; exact h2
    · split at hi
      · cases hi
      · exact h3 i hi
  · rw [retSt_length]; exact h.size
  · intro i u hu
    by_cases hi : i = r
    · subst hi
      rw [est] at hu; simp [hlt] at hu; subst hu
      exact ⟨hv, by simp⟩
    · simp only [if_neg hi]
      rcases other hi hu with ⟨hu', _⟩ | ⟨rfl | ⟨rfl, e⟩, hn⟩
      · exact (h.rel i u hu').mono hSS (fun _ _ => rfl) (fun _ _ => rfl) (fun _ _ _ _ => rfl)
      · exact hn
      · exact ⟨by rw [e]; exact hv, hn⟩
  · intro i u s hu hus
    by_cases hi : i = r
    · subst hi
      rw [est] at hu; simp [hlt] at hu; subst hu
      simp [A.refs] at hus
    · rcases other hi hu with ⟨hu', hne⟩ | ⟨rfl | ⟨rfl, _⟩, _⟩
      · obtain ⟨q, hz, hzo⟩ := h.refs i u s hu' hus
        have hsr : s ≠ r := fun e => hne (by rw [← e]; exact hus)
        refine ⟨retA r (.v t z) q, ?_, ?_⟩
        · rw [est, List.getElem?_set_ne (Ne.symm hsr), List.getElem?_map, hz]; rfl
        · cases q <;> simp [A.own] at hzo <;> rfl
      · simp [A.refs] at hus
      · simp [A.refs] at hus
  · intro i hi
    rw [retSt_length] at hi
    split
    · rfl
    · exact h.out i hi
  · intro i j b hi hj
    split at hi <;> split at hj
    · omega
    · cases hi
    · cases hj
    · exact h.inj i j b hi hj
  · intro i
    split
    · exact .nil
    · exact h.nd i
  · intro i b hi
    split at hi
    · cases hi
    · rename_i hne
      show (if b ∈ ob r then hp w b else S b) = none
      rw [if_neg (fun e => hne (h.inj i r b hi e))]
      exact h.hid i b hi
  · intro b o hbo
    change (if b ∈ ob r then hp w b else S b) = some o at hbo
    split at hbo
    · exact hbo
    · exact h.sub b o hbo
  · exact h.mono.trans hSS
  · intro i b hi
    split at hi
    · cases hi
    · exact h.fresh i b hi
  · intro b hb
    change (if b ∈ ob r then hp w b else S b) ≠ none at hb
    split at hb
    · rename_i e; exact .inr (h.fresh r b e)
    · exact h.newS b hb
  · exact h.lent
  · exact h.frame
end Go.Lift

/- The operations of the model, over what temporaries hold (LfC): small programs that read and lay temporaries, test, call. -/
set_option linter.all false
namespace Go.Lift

structure TyI where
  desc : TypeDesc
  size : Nat
  bytes : Nat
  t : T
  zero : t.den
  cmp : Bool

/-- what a call gives: a value of a plain type, if the callee ends; what the value stands for, and what the handed boxes hold then -/
structure Res where
  X : Type
  val : Option X
  out : X → A × List A

/-- what an iterator gives: tuples of data -/
structure ItRes where
  ts : List T
  val : Option (List (denL ts))

structure Env where
  ty : TypeId → Option TyI
  glob : Nat → Option Dat
  fn : FuncId → List A → Res
  keep : Nat → Option T
  live : List Nat
  lent : List Nat
  ownRes : Bool
  boxT : Nat → Option T
  it : FuncId → Dat → ItRes
  res : List T := []

structure FP where
  rd : List Nat
  wr : List Nat
  all : Bool

inductive Cmd (α : Type) where
  | ret (a : α)
  | fail
  | get (t : Nat) (k : A → Cmd α)
  | set (t : Nat) (x : A) (k : Cmd α)
  | cont (r : Nat) (x : A) (k : Cmd α)
  | retire (r : Nat) (k : Cmd α)
  | test (b : Bool) (x y : Cmd α)
  | call (f : FuncId) (args : List A) (k : A → List A → Cmd α)
  | guard (d : Nat) (x y z : Cmd α)

def owned (st : List A) (t : Nat) : Bool := match st.getD t .dead with
  | .row .. | .box .. | .iter .. | .yld | .ov .. | .otup .. => true
  | _ => false

def refOk (st : List A) (t : Nat) (x : A) : Bool := match x with
  | .bor r => and' (!(Nat.beq r t)) (owned st r)
  | .adr r _ _ => and' (!(Nat.beq r t)) (owned st r)
  | .cel r _ _ => and' (!(Nat.beq r t)) (owned st r)
  | .pel r _ _ _ _ => and' (!(Nat.beq r t)) (owned st r)
  | .psl r _ _ _ _ _ _ => and' (!(Nat.beq r t)) (owned st r)
  | .clo _ rs => rs.all fun r => and' (!(Nat.beq r t)) (owned st r)
  | _ => true

def refL (x : A) : List Nat := match x with
  | .bor r => [r]
  | .adr r _ _ => [r]
  | .cel r _ _ => [r]
  | .pel r _ _ _ _ => [r]
  | .psl r _ _ _ _ _ _ => [r]
  | .clo _ rs => rs
  | _ => []

def celL (x : A) : List Nat := match x with
  | .cel r _ _ => [r]
  | .pel r _ _ _ _ => [r]
  | .psl r _ _ _ _ _ _ => [r]
  | _ => []

/-- does a temporary hold the value of a cell of r's block -/
def hasCel (r : Nat) : List A → Bool
  | [] => false
  | x :: l => (match x with
    | .cel s _ _ => (match Nat.beq s r with
      | true => true
      | false => hasCel r l)
    | .pel s _ _ _ _ => (match Nat.beq s r with
      | true => true
      | false => hasCel r l)
    | .psl s _ _ _ _ _ _ => (match Nat.beq s r with
      | true => true
      | false => hasCel r l)
    | _ => hasCel r l)

/-- does a temporary name r's block -/
def hasRef (r : Nat) : List A → Bool
  | [] => false
  | x :: l => (match (refL x).contains r with
    | true => true
    | false => hasRef r l)

def ownRef (st : List A) (t : Nat) : Bool := match owned st t with
  | true => hasRef t st
  | false => false

def okSet (E : Env) (st : List A) (t : Nat) (x : A) : Bool := and' (and' (Nat.blt t st.length) (!(E.lent.contains t))) (refOk st t x)

def Cmd.cps {α β : Type} (E : Env) : Cmd α → List A → FP → (α → List A → FP → Option β) → Option β
  | .ret a, st, fp, K => K a st fp
  | .fail, _, _, _ => none
  | .get t k, st, fp, K => (k (st.getD t .dead)).cps E st { fp with rd := t :: fp.rd } K
  | .set t x k, st, fp, K => cond (okSet E st t x) (k.cps E (setSt st t x) { rd := (refL x).append ((refL (st.getD t .dead)).append (t :: fp.rd)), wr := t :: fp.wr, all := fp.all || ownRef st t } K) none
  | .cont r x k, st, fp, K => cond (Nat.blt r st.length) (k.cps E (contSt st r x) { rd := (refL x).append ((refL (st.getD r .dead)).append (r :: fp.rd)), wr := r :: fp.wr, all := fp.all || hasCel r st } K) none
  | .retire r k, st, fp, K => k.cps E (retSt st r) { rd := r :: fp.rd, wr := r :: fp.wr, all := fp.all || hasRef r st } K
  | .test b x y, st, fp, K => cond b (x.cps E st fp K) (y.cps E st fp K)
  | .call f args k, st, fp, K => (E.fn f args).val.bind fun x => (k ((E.fn f args).out x).1 ((E.fn f args).out x).2).cps E st fp K
  | .guard d x y z, st, fp, K => match st.getD d .dead with
    | .v .bool b => cond b (x.cps E (st.set d (.v .bool true)) { fp with rd := d :: fp.rd } K) (y.cps E (st.set d (.v .bool false)) { fp with rd := d :: fp.rd } K)
    | .tup [] => z.cps E st { fp with rd := d :: fp.rd } K
    | _ => none

/-! ## operands -/

def ofConst : Value → Option A
  | .bool b => some (.v .bool b)
  | .int k n => some (.v (.int k) n)
  | .string s => some (.v .str s.data.toList)
  | .slice none 0 0 => some .nilsl
  | .agg _ => none
  | .tuple _ => none
  | v => some (.v .opq v)

section
variable (E : Env) {α : Type}

def rdK (x : Operand) (k : A → Cmd α) : Cmd α :=
  match x with
  | .tmp t => .get t fun a => match a with
    | .row .. | .box .. | .iter .. | .yld | .ov .. | .otup .. => k (.bor t)
    | .dead => .fail
    | a => k a
  | .const v => match ofConst v with
    | some a => k a
    | none => .fail
  | .global g => match E.glob g with
    | some d => k (.v (.ptr d.1) d.2)
    | none => .fail
  | .func f => k (.v .opq (.func (.func f) #[] #[]))

/-- what type changes where a datum of another type is put at place p -/
def putAt : (t : T) → t.den → List Step → (t' : T) → t'.den → Option Dat
  | t, _, [], t', y => (match Nat.beq t.size t'.size with
    | true => some ⟨t', y⟩
    | false => none)
  | .pair a b, x, .fld i :: p, t', y => match i with
    | 0 => match putAt a x.1 p t' y with
      | some d => some ⟨.pair d.1 b, (d.2, x.2)⟩
      | none => none
    | i + 1 => match putAt b x.2 (.fld i :: p) t' y with
      | some d => some ⟨.pair a d.1, (x.1, d.2)⟩
      | none => none
  | _, _, _, _, _ => none

def unOwn (d : Dat) (k : (t : T) → List t.den → Cmd α) : Cmd α := match d with
  | ⟨.own t, xs⟩ => k t xs
  | _ => .fail

/-- the row that lies at place p of r's box, whose cell is k -/
def celK (r : Nat) (n : Nat) (p : List Step) (k : (t : T) → t.den → (u : T) → List u.den → Cmd α) : Cmd α :=
  .get r fun b => match b with
    | .box t x => (match and' (inb t x p) (Nat.beq n (offOf t p)) with
      | true => unOwn (foc t x p) fun u xs => k t x u xs
      | false => .fail)
    | _ => .fail

/-- the boxes that a function value has captured are given up -/
def capsK : List Nat → (Dat → Cmd α) → Cmd α
  | [], k => k ⟨.unit, ()⟩
  | r :: rs, k => .get r fun b => match b with
    | .box t x => (match noOwn t with
      | true => .retire r (capsK rs fun d => k ⟨.pair (.ptr t) d.1, (x, d.2)⟩)
      | false => .fail)
    | _ => .fail

/-- the datum; an owned row is given up -/
def datK (a : A) (k : Dat → Cmd α) : Cmd α :=
  match a with
  | .v t x => k ⟨t, x⟩
  | .bor r => .get r fun b => match b with
    | .row t xs => .retire r (k ⟨.sl t, xs⟩)
    | .ov t x => (match frzOk t with
      | true => .retire r (k ⟨frz t, frzD t x⟩)
      | false => .fail)
    | _ => .fail
  | .cel r n p => celK r n p fun t x u xs => match putAt t x p (.sl u) xs with
    | some z => .cont r (.box z.1 z.2) (k ⟨.sl u, xs⟩)
    | none => .fail
  | .clo f rs => capsK rs fun d => k ⟨.fn f d.1, d.2⟩
  | _ => .fail

/-- the datum, looked at alone -/
def lookK (a : A) (k : Dat → Cmd α) : Cmd α :=
  match a with
  | .v t x => k ⟨t, x⟩
  | .bor r => .get r fun b => match b with
    | .row t xs => k ⟨.sl t, xs⟩
    | _ => .fail
  | .cel r n p => celK r n p fun _ _ u xs => k ⟨.sl u, xs⟩
  | _ => .fail

def inb' (t : T) (x : t.den) (p : List Step) : Bool := match p with
  | [] => false
  | p => inb t x p

def unArr (d : Dat) (k : Nat → (t : T) → List t.den → Cmd α) : Cmd α := match d with
  | ⟨.arr m t, xs⟩ => k m t xs
  | _ => .fail

def cut {α : Type} (xs : List α) (l h : Nat) : List α := (xs.take h).drop l

/-- the same, of a slice of an array inside a row too -/
def lookP (a : A) (k : Dat → Cmd α) : Cmd α :=
  match a with
  | .psl r n p u q lo hi => celK r n p fun _ _ u' xs => (match cast (.sl u') (.sl u) xs with
    | some xs => .test (inb' (.arr 0 u) xs q) (unArr (foc (.arr 0 u) xs q) fun _ t zs => k ⟨.sl t, cut zs lo hi⟩) .fail
    | none => .fail)
  | a => lookK a k

/-- as a datum of type t -/
def asK (t : T) (a : A) (k : t.den → Cmd α) : Cmd α :=
  match t, a, k with
  | .sl _, .nilsl, k => k []
  | t, a, k => datK a fun d => match cast d.1 t d.2 with
    | some x => k x
    | none => .fail

def teq' (t t' : T) : Bool := decide (t = t')

/-- a value that owns what it has, as one of type u; it is taken from where it is -/
def takeVK (a : A) (u : T) (k : u.den → Cmd α) : Cmd α := match a with
  | .bor s => .get s fun c => (match c with
    | .ov t x => (match cast t u x with
      | some x => .set s .dead (k x)
      | none => .fail)
    | .row t xs => (match u, k with
      | .own w, k => (match cast (.sl t) (.sl w) xs with
        | some xs => .set s .dead (k xs)
        | none => .fail)
      | _, _ => .fail)
    | .box t x => (match u, k with
      | .nb w, k => (match cast t w x with
        | some x => .set s .dead (k (some x))
        | none => .fail)
      | _, _ => .fail)
    | _ => .fail)
  | .nilsl => (match u, k with
    | .own _, k => k []
    | _, _ => .fail)
  | .v .opq v => (match u, v, k with
    | .mp _ _, .map none, k => k none
    | .nb _, .pointer none, k => k none
    | _, _, _ => .fail)
  | _ => .fail

/-- nothing in it names the box that it lies in -/
def noSelf : T → Bool
  | .pair a b => and' (noSelf a) (noSelf b)
  | .self _ => false
  | _ => true

/-- is a value that owns what it has to move into a box of just this type -/
def ovK (b a0 : A) (k : Option (Nat × Nat) → Cmd α) : Cmd α := match b, a0 with
  | .bor s, .bor r => .get s fun c => .get r fun c' => (match c, c' with
    | .ov t' _, .box t _ => (match and' (teq' t t') (and' (noSelf t) (!(Nat.beq s r))) with
      | true => k (some (s, r))
      | false => k none)
    | _, _ => k none)
  | _, _ => k none

/-- the datum that a map of its own is -/
def mpK (a : A) (k : (p q : T) → Option (List (p.den × q.den)) → (Option (List (p.den × q.den)) → Cmd α → Cmd α) → Cmd α) : Cmd α := match a with
  | .bor r => .get r fun c => (match c with
    | .ov t x => (match t, x with
      | .mp p q, m => k p q m fun m' c => .cont r (.ov (.mp p q) m') c
      | _, _ => .fail)
    | _ => .fail)
  | .cel r n p0 => .get r fun b => (match b with
    | .box t x => (match and' (inb t x p0) (Nat.beq n (offOf t p0)) with
      | true => (match foc t x p0 with
        | ⟨.mp p q, m⟩ => k p q m fun m' c => (match putAt t x p0 (.mp p q) m' with
          | some z => .cont r (.box z.1 z.2) c
          | none => .fail)
        | _ => .fail)
      | false => .fail)
    | _ => .fail)
  | _ => .fail

def intK (a : A) (k : IntKind → Int → Cmd α) : Cmd α :=
  match a with
  | .v (.int j) n => k j n
  | _ => .fail

def tyK (i : TypeId) (k : TyI → Cmd α) : Cmd α :=
  match E.ty i with
  | some e => k e
  | none => .fail

def lay (d : Option Nat) (a : A) : Cmd Unit :=
  match d with
  | some d => .set d a (.ret ())
  | none => .ret ()

/-- the content of an owner's block -/
def contK (r : Nat) (k : (t : T) → t.den → (t.den → A) → Cmd α) : Cmd α :=
  .get r fun a => match a with
    | .box t x => k t x (.box t)
    | .row t xs => k (.arr 0 t) xs (.row t)
    | _ => .fail

def snoc (p : List Step) (s : Step) : List Step := match p with
  | [] => [s]
  | a :: p => a :: snoc p s

/-- 'inb' at a place that is not the whole -/
def teq (t t' : T) : Bool := decide (t = t')

/-- a row's elements: of this type, or bytes in blocks of a known type -/
def ownS : T → T → Bool
  | .byt _, .int .u8 => true
  | u, v => teq u v

/-- t is e, but for slices that are owned, or cells of which nothing is known -/
def simT : T → T → Bool
  | .pair a b, .pair c d => and' (simT a c) (simT b d)
  | .own u, .sl v => ownS u v
  | .any, e => and' (Nat.beq e.size 1) (!e.isAgg)
  | .self _, .opq => true
  | .mp _ _, .opq => true
  | .nb _, .opq => true
  | t, e => teq t e

/-- boxes that name themselves are of this type -/
def selfOk (i : TypeId) : T → Bool
  | .pair a b => and' (selfOk i a) (selfOk i b)
  | .self ty => Nat.beq i ty
  | _ => true

/-- a zero value, where slices are owned -/
def toOwn : (t e : T) → e.den → Option t.den
  | .pair a b, .pair c d, x => match toOwn a c x.1 with
    | some y => (match toOwn b d x.2 with
      | some z => some (y, z)
      | none => none)
    | none => none
  | .own _, .sl _, x => (match x with
    | [] => some []
    | _ => none)
  | .self _, .opq, x => (match x with
    | .pointer none => some ()
    | _ => none)
  | .mp _ _, .opq, x => (match x with
    | .map none => some none
    | _ => none)
  | .nb _, .opq, x => (match x with
    | .pointer none => some none
    | _ => none)
  | t, e, x => cast e t x

/-! ## integers, strings -/

def bitsOp (op : BinOp) (k : IntKind) (x y : Int) : Int :=
  match op with
  | .and => k.wrap ((BitVec.ofInt k.bits x &&& BitVec.ofInt k.bits y).toNat : Int)
  | .or => k.wrap ((BitVec.ofInt k.bits x ||| BitVec.ofInt k.bits y).toNat : Int)
  | .xor => k.wrap ((BitVec.ofInt k.bits x ^^^ BitVec.ofInt k.bits y).toNat : Int)
  | _ => k.wrap ((BitVec.ofInt k.bits x &&& ~~~ BitVec.ofInt k.bits y).toNat : Int)

def shlI (k : IntKind) (x y : Int) : Int := k.wrap (x * 2 ^ (min y.toNat k.bits))
def shrI (k : IntKind) (x y : Int) : Int := x.fdiv (2 ^ (min y.toNat k.bits))

def intBin (op : BinOp) (k : IntKind) (a : Int) (k' : IntKind) (b : Int) (d : Option Nat) : Cmd Unit :=
  match op with
  | .shl => .test (decide (0 ≤ b)) (lay d (.v (.int k) (shlI k a b))) .fail
  | .shr => .test (decide (0 ≤ b)) (lay d (.v (.int k) (shrI k a b))) .fail
  | op => match decide (k = k') with
    | false => .fail
    | true => match op with
      | .add => lay d (.v (.int k) (k.wrap (a + b)))
      | .sub => lay d (.v (.int k) (k.wrap (a - b)))
      | .mul => (match k with
        | .u64 => lay d (.v (.int .u64) (IntKind.wrap .u64 (b * a)))
        | k => lay d (.v (.int k) (k.wrap (a * b))))
      | .quo => .test (b == 0) .fail (lay d (.v (.int k) (k.wrap (a.tdiv b))))
      | .rem => .test (b == 0) .fail (lay d (.v (.int k) (a.tmod b)))
      | .and => lay d (.v (.int k) (bitsOp .and k a b))
      | .or => lay d (.v (.int k) (bitsOp .or k a b))
      | .xor => lay d (.v (.int k) (bitsOp .xor k a b))
      | .andNot => lay d (.v (.int k) (bitsOp .andNot k a b))
      | .eql => lay d (.v .bool (a == b))
      | .neq => lay d (.v .bool (a != b))
      | .lss => lay d (.v .bool (decide (a < b)))
      | .leq => lay d (.v .bool (decide (a ≤ b)))
      | .gtr => lay d (.v .bool (decide (b < a)))
      | .geq => lay d (.v .bool (decide (b ≤ a)))
      | _ => .fail

def maxLenI : Nat := 9223372036854775807

def strBin (op : BinOp) (x y : List UInt8) (d : Option Nat) : Cmd Unit :=
  match op with
  | .add => .test (decide (x.length + y.length ≤ 9223372036854775807)) (lay d (.v .str (x ++ y))) .fail
  | .eql => lay d (.v .bool (x == y))
  | .neq => lay d (.v .bool (!(x == y)))
  | .lss => lay d (.v .bool (Op.bytesLess x y))
  | .leq => lay d (.v .bool (Op.bytesLess x y || x == y))
  | .gtr => lay d (.v .bool (!(Op.bytesLess x y || x == y)))
  | .geq => lay d (.v .bool (!(Op.bytesLess x y)))
  | _ => .fail

def boolBin (op : BinOp) (x y : Bool) (d : Option Nat) : Cmd Unit :=
  match op with
  | .eql => lay d (.v .bool (x == y))
  | .neq => lay d (.v .bool (!(x == y)))
  | _ => .fail

def isBoolT (E : Env) (i : TypeId) : Bool := match E.ty i with
  | some e => (match e.desc with | .bool => true | _ => false)
  | none => false

def isStrT (d : TypeDesc) : Bool := match d with
  | .string => true
  | _ => false

def isPtrT (E : Env) (i : TypeId) : Bool := match E.ty i with
  | some e => (match e.desc with | .pointer _ => true | _ => false)
  | none => false

def isMapT (E : Env) (i : TypeId) : Bool := match E.ty i with
  | some e => (match e.desc with | .map _ _ => true | _ => false)
  | none => false

def nilBin (op : BinOp) (d : Option Nat) (same : Bool) : Cmd Unit :=
  match op with
  | .eql => lay d (.v .bool same)
  | .neq => lay d (.v .bool (!same))
  | _ => .fail

/-! ## equality of structs and arrays -/

def eqLs {α : Type} (f : α → α → Bool) : List α → List α → Bool
  | [], [] => true
  | x :: xs, y :: ys => cond (f x y) (eqLs f xs ys) false
  | _, _ => false

def eqD : (t : T) → t.den → t.den → Bool
  | .int _, x, y => x == y
  | .bool, x, y => x == y
  | .str, x, y => x == y
  | .pair a b, x, y => cond (eqD a x.1 y.1) (eqD b x.2 y.2) false
  | .arr _ t, xs, ys => eqLs (eqD t) xs ys
  | _, _, _ => true

/-- does == look at all of such a datum, field by field -/
def eqOk (E : Env) : (u : T) → TypeId ⊕ (List Field × Nat) → Bool
  | .int k, .inl i => match E.ty i with
    | some e => and' (teq e.t (.int k)) (match e.desc with
      | .int _ => true
      | _ => false)
    | none => false
  | .bool, .inl i => isBoolT E i
  | .str, .inl i => match E.ty i with
    | some e => isStrT e.desc
    | none => false
  | .unit, .inl i => match E.ty i with
    | some e => and' (and' e.cmp (teq e.t .unit)) (match e.desc with
      | .struct fs => Nat.beq fs.size 0
      | _ => false)
    | none => false
  | .unit, .inr p => match p.1 with
    | [] => true
    | _ => false
  | .pair a b, .inl i => match E.ty i with
    | some e => and' (and' e.cmp (teq e.t (.pair a b))) (match e.desc with
      | .struct fs => (match fs.toList with
        | f :: r => and' (and' (eqOk E a (.inl f.type)) (eqOk E b (.inr (r, a.size)))) (and' (f.name != "_") (and' (Nat.beq f.offset 0) (match E.ty f.type with
          | some g => teq g.t a
          | none => false)))
        | [] => false)
      | _ => false)
    | none => false
  | .pair a b, .inr p => match p.1 with
    | f :: r => and' (and' (eqOk E a (.inl f.type)) (eqOk E b (.inr (r, p.2 + a.size)))) (and' (f.name != "_") (and' (Nat.beq f.offset p.2) (match E.ty f.type with
      | some g => teq g.t a
      | none => false)))
    | [] => false
  | .arr n u, .inl i => match E.ty i with
    | some e => and' (and' e.cmp (teq e.t (.arr n u))) (match e.desc with
      | .array m el => and' (Nat.beq n m) (and' (eqOk E u (.inl el)) (match E.ty el with
        | some g => teq g.t u
        | none => false))
      | _ => false)
    | none => false
  | _, _ => false

def depthT : T → Nat
  | .pair a b => depthT a + depthT b + 1
  | .arr _ t => depthT t + 1
  | _ => 1

def aggBin (E : Env) (op : BinOp) (i : TypeId) (t : T) (x : t.den) (u : T) (y : u.den) (d : Option Nat) : Cmd Unit :=
  match E.ty i with
  | some e => (match and' (and' (teq e.t t) (eqOk E t (.inl i))) (and' (and' e.cmp t.isAgg) (Nat.blt (depthT t) 9999)) with
    | true => (match cast u t y with
      | some y => nilBin op d (eqD t x y)
      | none => .fail)
    | false => .fail)
  | none => .fail

def binCmd (op : BinOp) (xT : TypeId) (x y : Operand) (d : Option Nat) : Cmd Unit :=
  rdK E x fun a => rdK E y fun b =>
    match a, b with
    | .v (.int k) m, .v (.int k') n => intBin op k m k' n d
    | .v .str s, .v .str u => strBin op s u d
    | .v .bool s, .v .bool u => match isBoolT E xT with
      | true => boolBin op s u d
      | false => .fail
    | .bor r, .v .opq (.pointer none) => .get r fun c => match c with
      | .box .. => (match isPtrT E xT with
        | true => nilBin op d false
        | false => .fail)
      | .ov t x => (match isPtrT E xT with
        | true => (match t, x with
          | .nb u, m => .test m.isSome (.cont r (.box u (m.getD u.dflt)) (nilBin op d false)) (.cont r (.ov (.nb u) none) (.retire r (nilBin op d true)))
          | _, _ => .fail)
        | false => .fail)
      | _ => .fail
    | a, .v .opq (.map none) => (match isMapT E xT with
      | true => mpK a fun _ _ m _ => nilBin op d (!m.isSome)
      | false => .fail)
    | .v .opq (.pointer none), .v .opq (.pointer none) => match isPtrT E xT with
      | true => nilBin op d true
      | false => .fail
    | .v t x, .v u y => aggBin E op xT t x u y d
    | _, _ => .fail

def unCmd (op : UnOp) (x : Operand) (d : Option Nat) : Cmd Unit :=
  rdK E x fun a =>
    match op, a with
    | .not, .v .bool b => lay d (.v .bool (!b))
    | .neg, .v (.int k) n => lay d (.v (.int k) (k.wrap (0 - n)))
    | .xor, .v (.int k) n => lay d (.v (.int k) (bitsOp .xor k (if k.signed then -1 else k.max) n))
    | _, _ => .fail

/-! ## memory -/

def slIs (w e : T) : Bool := match e with
  | .sl v => ownS w v
  | _ => false

/-- a function value, loaded -/
def loadFn (t : T) (y : t.den) (e : T) (d : Option Nat) : Cmd Unit := match t, y with
  | .fn f u, y => (match teq e .opq with
    | true => lay d (.v (.fn f u) y)
    | false => .fail)
  | _, _ => .fail

def loadCmd (ty : TypeId) (x : Operand) (d : Option Nat) : Cmd Unit :=
  tyK E ty fun e => rdK E x fun a =>
    match a with
    | .v (.ptr t) y => match teq t e.t with
      | true => lay d (.v t y)
      | false => loadFn t y e.t d
    | .bor r => .get r fun c => match c with
      | .box t y => (match teq t e.t with
        | true => lay d (.v t y)
        | false => (match t with
          | .own u => (match slIs u e.t with
            | true => lay d (.cel r 0 [])
            | false => .fail)
          | t => (match teq (frz t) e.t with
            | true => .cont r (.box (frz t) (frzD t y)) (lay d (.v (frz t) (frzD t y)))
            | false => .fail)))
      | _ => .fail
    | .adr r t p => contK r fun t' y _ => match cast t' t y with
      | some y => (match tyAt t p with
        | some u => (match teq u e.t with
          | true => .test (inb' t y p) (lay d (.v (foc t y p).1 (foc t y p).2)) .fail
          | false => (match u with
            | .own w => (match slIs w e.t with
              | true => .test (inb' t y p) (lay d (.cel r (offOf t p) p)) .fail
              | false => .fail)
            | .mp _ _ => (match teq e.t .opq with
              | true => .test (inb' t y p) (lay d (.cel r (offOf t p) p)) .fail
              | false => .fail)
            | _ => .fail))
        | none => .fail)
      | none => .fail
    | .pel r n p u q => celK r n p fun t y u' xs => (match cast (.sl u') (.sl u) xs with
      | some xs => (match tyAt (.arr 0 u) q with
        | some v => (match teq v e.t with
          | true => .test (inb' (.arr 0 u) xs q) (lay d (.v (foc (.arr 0 u) xs q).1 (foc (.arr 0 u) xs q).2)) .fail
          | false => .fail)
        | none => .fail)
      | none => .fail)
    | _ => .fail

/-- a whole box is read, with what it owns: it is left without -/
def loadOv (u : T) (ty : TypeId) (x : Operand) (d : Option Nat) : Cmd Unit :=
  tyK E ty fun e => rdK E x fun a => match a with
    | .bor r => .get r fun c => (match c with
      | .box t y => (match and' (teq t u) (and' (simT t e.t) (and' t.isAgg (noSelf t))) with
        | true => .cont r (.box (fgt t) (fgtD t y)) (lay d (.ov t y))
        | false => .fail)
      | _ => .fail)
    | _ => .fail

/-- is it a place for a slice that is owned -/
def slot (t : T) : Bool := match t with
  | .own _ => true
  | .any => true
  | _ => false

/-- the place of an owned slice that an address names -/
def slotK (a : A) (k : Option (Nat × List Step) → Cmd α) : Cmd α := match a with
  | .bor r => .get r fun c => match c with
    | .box t _ => (match slot t with
      | true => k (some (r, []))
      | false => k none)
    | _ => k none
  | .adr r t p => (match tyAt t p with
    | some u => (match slot u with
      | true => k (some (r, p))
      | false => k none)
    | none => k none)
  | _ => k none

/-- an owned row, taken out of where it is -/
def takeK (a : A) (u : T) (k : List u.den → Cmd α) : Cmd α := match a with
  | .nilsl => k []
  | .bor s => .get s fun c => match c with
    | .row t xs => (match cast (.sl t) (.sl u) xs with
      | some xs => .set s .dead (k xs)
      | none => .fail)
    | _ => .fail
  | _ => .fail

/-- the type of the elements of a row that is to be taken -/
def elemK (a : A) (u : T) (k : T → Cmd α) : Cmd α := match a with
  | .bor s => .get s fun c => match c with
    | .row (.byt q) _ => (match teq u (.int .u8) with
      | true => k (.byt q)
      | false => k u)
    | _ => k u
  | _ => k u

def slElem : T → Option T
  | .sl u => some u
  | _ => none

def storeCmd (ty : TypeId) (x : Operand) (v : Operand) : Cmd Unit :=
  tyK E ty fun e => rdK E x fun a0 => slotK a0 fun o => match o with
  | some (r, p) => (match slElem e.t with
    | some u0 => rdK E v fun b => elemK b u0 fun u => takeK b u fun xs => .get r fun c => (match c with
      | .box t y => (match and' (inb t y p) (slot (foc t y p).1) with
        | true => (match putAt t y p (.own u) xs with
          | some z => .test (match a0 with
            | .adr _ t0 _ => Nat.beq (offOf t0 p) (offOf t p)
            | _ => true) (.cont r (.box z.1 z.2) (.ret ())) .fail
          | none => .fail)
        | false => .fail)
      | _ => .fail)
    | none => .fail)
  | none => rdK E v fun b => ovK b a0 fun m => match m with
  | some (s, r) => .get s fun c => (match c with
    | .ov t z => (match simT t e.t with
      | true => .set s .dead (.cont r (.box t z) (.ret ()))
      | false => .fail)
    | _ => .fail)
  | none => asK e.t b fun z => rdK E x fun a =>
    match a with
    | .bor r => .get r fun c => match c with
      | .box t _ => (match cast e.t t z with
        | some z => .cont r (.box t z) (.ret ())
        | none => .fail)
      | _ => .fail
    | .pel r n p u q => celK r n p fun t y u' xs => (match cast (.sl u') (.sl u) xs with
      | some xs => .test (inb' (.arr 0 u) xs q) (match setAt (.arr 0 u) xs q e.t z with
        | some xs' => (match putAt t y p (.own u) xs' with
          | some z' => .cont r (.box z'.1 z'.2) (.ret ())
          | none => .fail)
        | none => .fail) .fail
      | none => .fail)
    | .adr r t p => contK r fun t' y mk => match cast t' t y with
      | some y => .test (inb' t y p) (match setAt t y p e.t z with
        | some y' => (match cast t t' y' with
          | some y' => .cont r (mk y') (.ret ())
          | none => .fail)
        | none => .fail) .fail
      | none => .fail
    | _ => .fail

def fieldsOf (d : TypeDesc) : Option (Array Field) := match d with
  | .struct fs => some fs
  | _ => none

def fieldOk (E : Env) (e : TyI) (f : Nat) : Bool := match fieldsOf e.desc with
  | some fs => match fs[f]? with
    | some g => match E.ty g.type with
      | some eg => and' (and' (Nat.beq (offOf e.t [.fld f]) g.offset) (!(Nat.beq eg.size 0))) (match tyAt e.t [.fld f] with
        | some u => teq u eg.t
        | none => false)
      | none => false
    | none => false
  | none => false

def fieldAddrCmd (s : TypeId) (x : Operand) (f : Nat) (d : Option Nat) : Cmd Unit :=
  tyK E s fun e => match fieldOk E e f with
    | false => .fail
    | true => rdK E x fun a =>
      match a with
      | .v (.ptr t) y => (match cast t e.t y with
        | some y => lay d (.v (.ptr (foc e.t y [.fld f]).1) (foc e.t y [.fld f]).2)
        | none => .fail)
      | .bor r => .get r fun c => match c with
        | .box t _ => (match simT t e.t with
          | true => lay d (.adr r t [.fld f])
          | false => .fail)
        | _ => .fail
      | .adr r t p => (match tyAt t p with
        | some u => (match simT u e.t with
          | true => lay d (.adr r t (snoc p (.fld f)))
          | false => .fail)
        | none => .fail)
      | .pel r n p u q => (match tyAt (.arr 0 u) q with
        | some v => (match teq v e.t with
          | true => lay d (.pel r n p u (snoc q (.fld f)))
          | false => .fail)
        | none => .fail)
      | _ => .fail

def fieldCmd (s : TypeId) (x : Operand) (f : Nat) (d : Option Nat) : Cmd Unit :=
  tyK E s fun e => match fieldOk E e f with
    | false => .fail
    | true => rdK E x fun a =>
      match a with
      | .v t y => (match cast t e.t y with
        | some y => lay d (.v (foc e.t y [.fld f]).1 (foc e.t y [.fld f]).2)
        | none => .fail)
      | _ => .fail

def inR (n : Int) (len : Nat) : Bool := decide (0 ≤ n ∧ n < len)

def elemOk (E : Env) (e : TyI) (t : T) : Bool := match e.desc with
  | .slice el => (match E.ty el with
    | some ee => teq ee.t t
    | none => false)
  | .array _ el => (match E.ty el with
    | some ee => teq ee.t t
    | none => false)
  | _ => false

def arrLen (d : TypeDesc) : Option Nat := match d with
  | .array n _ => some n
  | _ => none
def isSl (d : TypeDesc) : Bool := match d with
  | .slice _ => true
  | _ => false

def indexAddrCmd (ty : TypeId) (x ix : Operand) (d : Option Nat) : Cmd Unit :=
  tyK E ty fun e => rdK E ix fun i => intK i fun _ n => rdK E x fun a =>
    match isSl e.desc, arrLen e.desc, a with
    | true, _, .v (.sl t) xs => (match elemOk E e t with
      | true => .test (inR n xs.length) (lay d (.v (.ptr t) (xs.getD n.toNat t.dflt))) .fail
      | false => .fail)
    | true, _, .bor r => .get r fun c => (match c with
      | .row t xs => (match elemOk E e t with
        | true => .test (inR n xs.length) (lay d (.adr r (.arr 0 t) [.idx n.toNat])) .fail
        | false => .fail)
      | _ => .fail)
    | _, some m, .v (.ptr (.arr m' t)) xs => (match and' (Nat.beq m m') (elemOk E e t) with
      | true => .test (inR n m) (lay d (.v (.ptr t) (xs.getD n.toNat t.dflt))) .fail
      | false => .fail)
    | _, some m, .bor r => .get r fun c => (match c with
      | .box (.arr m' t) _ => (match and' (Nat.beq m m') (elemOk E e t) with
        | true => .test (inR n m) (lay d (.adr r (.arr m' t) [.idx n.toNat])) .fail
        | false => .fail)
      | _ => .fail)
    | _, some m, .adr r t p => (match tyAt t p with
      | some (.arr m' u) => (match and' (Nat.beq m m') (elemOk E e u) with
        | true => .test (inR n m) (lay d (.adr r t (snoc p (.idx n.toNat)))) .fail
        | false => .fail)
      | _ => .fail)
    | true, _, .cel r n0 p => celK r n0 p fun _ _ u xs => (match elemOk E e u with
      | true => .test (inR n xs.length) (lay d (.pel r n0 p u [.idx n.toNat])) .fail
      | false => .fail)
    | _, some m, .pel r n0 p u q => (match tyAt (.arr 0 u) q with
      | some (.arr m' u') => (match and' (Nat.beq m m') (elemOk E e u') with
        | true => .test (inR n m) (lay d (.pel r n0 p u (snoc q (.idx n.toNat)))) .fail
        | false => .fail)
      | _ => .fail)
    | _, _, _ => .fail

def indexCmd (ty : TypeId) (x ix : Operand) (d : Option Nat) : Cmd Unit :=
  tyK E ty fun e => rdK E ix fun i => intK i fun _ n => rdK E x fun a =>
    match isStrT e.desc, arrLen e.desc, a with
    | true, _, .v .str s => .test (inR n s.length) (lay d (.v (.int .u8) ((s.getD n.toNat 0).toNat : Int))) .fail
    | _, some m, .v (.arr m' t) xs => (match and' (Nat.beq m m') (elemOk E e t) with
      | true => .test (inR n m) (lay d (.v t (xs.getD n.toNat t.dflt))) .fail
      | false => .fail)
    | _, _, _ => .fail

def setAll (t : T) (x : t.den) : List (Nat × Dat) → (Nat → Step) → Option t.den
  | [], _ => some x
  | (i, d) :: r, s => match setAt t x [s i] d.1 d.2 with
    | some y => setAll t y r s
    | none => none

/-- the parts of a literal, each as a datum of the type that stands at its place -/
def partsK (t : T) (s : Nat → Step) : List (Nat × Operand) → (List (Nat × Dat) → Cmd α) → Cmd α
  | [], k => k []
  | (i, x) :: r, k => match tyAt t [s i] with
    | some u => rdK E x fun a => asK u a fun z => partsK t s r fun l => k ((i, ⟨u, z⟩) :: l)
    | none => .fail

def structOk (E : Env) (e : TyI) : List Nat → Bool
  | [] => true
  | f :: r => and' (fieldOk E e f) (structOk E e r)

def idxOk (n : Nat) : List Nat → Bool
  | [] => true
  | f :: r => and' (Nat.blt f n) (idxOk n r)

def buildCmd (ty : TypeId) (parts : List (Nat × Operand)) (d : Option Nat) : Cmd Unit :=
  tyK E ty fun e => match e.desc with
    | .struct fs => (match and' (idxOk fs.size (parts.map (·.1))) (structOk E e (List.range fs.size)) with
      | true => partsK E e.t .fld parts fun l => (match setAll e.t e.zero l .fld with
        | some x => lay d (.v e.t x)
        | none => .fail)
      | false => .fail)
    | .array n _ => (match and' (idxOk n (parts.map (·.1))) (match e.t with
        | .arr m t => and' (Nat.beq n m) (elemOk E e t)
        | _ => false) with
      | true => partsK E e.t .idx parts fun l => (match setAll e.t e.zero l .idx with
        | some x => lay d (.v e.t x)
        | none => .fail)
      | false => .fail)
    | _ => .fail

/-- the parts of a literal: first those that own nothing -/
def parts1 (t : T) (s : Nat → Step) : List (Nat × Operand) → (List (Nat × Operand × Option Dat) → Cmd α) → Cmd α
  | [], k => k []
  | (i, x) :: r, k => match tyAt t [s i] with
    | some u => (match noOwn u with
      | true => rdK E x fun a => asK u a fun z => parts1 t s r fun l => k ((i, x, some ⟨u, z⟩) :: l)
      | false => parts1 t s r fun l => k ((i, x, none) :: l))
    | none => .fail

/-- then the others -/
def parts2 (t : T) (s : Nat → Step) : List (Nat × Operand × Option Dat) → (List (Nat × Dat) → Cmd α) → Cmd α
  | [], k => k []
  | (i, x, y) :: r, k => match y with
    | some d => parts2 t s r fun l => k ((i, d) :: l)
    | none => (match tyAt t [s i] with
      | some u => rdK E x fun a => takeVK a u fun z => parts2 t s r fun l => k ((i, ⟨u, z⟩) :: l)
      | none => .fail)

def buildOv (u : T) (ty : TypeId) (parts : List (Nat × Operand)) (d : Option Nat) : Cmd Unit :=
  tyK E ty fun e => match e.desc with
    | .struct fs => (match and' (and' u.isAgg (and' (noSelf u) (simT u e.t))) (and' (idxOk fs.size (parts.map (·.1))) (structOk E e (List.range fs.size))) with
      | true => (match toOwn u e.t e.zero with
        | some z0 => parts1 E u .fld parts fun l1 => parts2 E u .fld l1 fun l => (match setAll u z0 l .fld with
          | some x => lay d (.ov u x)
          | none => .fail)
        | none => .fail)
      | false => .fail)
    | _ => .fail

def buildSliceCmd (ty : TypeId) (len : Nat) (parts : List (Nat × Operand)) (d : Option Nat) : Cmd Unit :=
  tyK E ty fun e => match e.desc with
    | .slice el => tyK E el fun ee => (match and' (idxOk len (parts.map (·.1))) (and' (Nat.blt 0 ee.size) (Nat.ble (len * ee.size) 65536)) with
      | true => partsK E (.arr len ee.t) .idx parts fun l => (match setAll (.arr len ee.t) (List.replicate len ee.zero) l .idx with
        | some x => lay d (.row ee.t x)
        | none => .fail)
      | false => .fail)
    | _ => .fail

def makeSliceCmd (ty : TypeId) (l c : Operand) (d : Option Nat) : Cmd Unit :=
  tyK E ty fun e => match e.desc with
    | .slice el => tyK E el fun ee => rdK E l fun a => rdK E c fun b => (match a, b with
      | .v (.int .i64) m, .v (.int .i64) n => (match Nat.blt 0 ee.size with
        | true => .test (decide (0 ≤ m ∧ m ≤ n ∧ n * (ee.bytes : Int) ≤ 281474976710656 ∧ n ≤ 9223372036854775807)) (lay d (.row ee.t (List.replicate m.toNat ee.zero))) .fail
        | false => .fail)
      | _, _ => .fail)
    | _ => .fail

def optK (x : Option Operand) (k : Option Int → Cmd α) : Cmd α :=
  match x with
  | none => k none
  | some x => rdK E x fun a => intK a fun _ n => k (some n)

/-- the bounds lo, hi of a slice expression over n elements -/
def bndK (lo hi : Option Int) (n : Nat) (k : Nat → Nat → Cmd α) : Cmd α :=
  match lo, hi with
  | none, none => k 0 n
  | some l, none => .test (decide (0 ≤ l ∧ l ≤ (n : Int))) (k l.toNat n) .fail
  | none, some h => .test (decide (0 ≤ h ∧ h ≤ (n : Int))) (k 0 h.toNat) .fail
  | some l, some h => .test (decide (0 ≤ h ∧ h ≤ (n : Int))) (.test (decide (0 ≤ l ∧ l ≤ h)) (k l.toNat h.toNat) .fail) .fail

def sliceCmd (ty : TypeId) (x : Operand) (lo hi mx : Option Operand) (d : Option Nat) : Cmd Unit :=
  match mx with
  | some mx => tyK E ty fun e => optK E lo fun l => optK E hi fun h => rdK E mx fun z => intK z fun _ mxn => rdK E x fun a => (match isSl e.desc with
    | true => datK a fun z => (match z with
      | ⟨.sl t, xs⟩ => (match elemOk E e t with
        | true => (match h with
          | some h => .test (decide (h ≤ mxn ∧ mxn ≤ (xs.length : Int))) (bndK l (some h) xs.length fun i j => lay d (.v (.sl t) (cut xs i j))) .fail
          | none => .fail)
        | false => .fail)
      | _ => .fail)
    | false => .fail)
  | none => tyK E ty fun e => optK E lo fun l => optK E hi fun h => rdK E x fun a =>
    match isStrT e.desc, isSl e.desc with
    | true, _ => (match a with
      | .v .str s => bndK l h s.length fun i j => lay d (.v .str (cut s i j))
      | _ => .fail)
    | _, true => datK a fun z => (match z with
      | ⟨.sl t, xs⟩ => (match elemOk E e t with
        | true => bndK l h xs.length fun i j => lay d (.v (.sl t) (cut xs i j))
        | false => .fail)
      | _ => .fail)
    | _, _ => (match arrLen e.desc, a with
      | some m, .pel r n p u q => (match tyAt (.arr 0 u) q with
        | some (.arr m' t) => (match and' (Nat.beq m m') (elemOk E e t) with
          | true => bndK l h m fun i j => lay d (.psl r n p u q i j)
          | false => .fail)
        | _ => .fail)
      | _, _ => .fail)

def toStr (xs : List Int) : List UInt8 := xs.map fun n => UInt8.ofNat n.toNat
def ofStr (s : List UInt8) : List Int := s.map fun b => (b.toNat : Int)

def isByteSl (E : Env) (d : TypeDesc) : Bool := match d with
  | .slice el => (match E.ty el with
    | some ee => (match ee.desc with | .int .u8 => true | _ => false)
    | none => false)
  | _ => false

def convCmd (src dst : TypeId) (x : Operand) (d : Option Nat) : Cmd Unit :=
  tyK E src fun s => tyK E dst fun e => rdK E x fun a =>
    match e.desc, a with
    | .int k, .v (.int _) n => lay d (.v (.int k) (k.wrap n))
    | .string, .v .str u => lay d (.v .str u)
    | .string, a => (match isByteSl E s.desc with
      | true => (match a with
        | .nilsl => lay d (.v .str [])
        | a => lookP a fun z => match z with
          | ⟨.sl (.int .u8), xs⟩ => lay d (.v .str (toStr xs))
          | _ => .fail)
      | false => .fail)
    | .slice _, .v .str u => (match and' (isStrT s.desc) (isByteSl E e.desc) with
      | true => lay d (.row (.int .u8) (ofStr u))
      | false => .fail)
    | _, _ => .fail

/-! ## calls -/

def isMp (d : TypeDesc) : Bool := match d with
  | .map _ _ => true
  | _ => false

/-! ### maps -/

/-- types of keys that are the same just if their cells are -/
def keyT : T → Bool
  | .int _ => true
  | .bool => true
  | .str => true
  | .unit => true
  | .pair a b => and' (keyT a) (keyT b)
  | .arr _ t => keyT t
  | _ => false

def mpTys (E : Env) (ty : TypeId) : Option (TypeId × TyI × TyI) := match E.ty ty with
  | some e => (match e.desc with
    | .map ki vi => (match E.ty ki, E.ty vi with
      | some ke, some ve => (match and' (keyT ke.t) (and' (Nat.blt (depthT ke.t) 9999) (and' (noOwn ve.t) (eqOk E ke.t (.inl ki)))) with
        | true => some (ki, ke, ve)
        | false => none)
      | _, _ => none)
    | _ => none)
  | none => none

def lookM {α β : Type} (f : α → α → Bool) (k : α) : List (α × β) → Option β
  | [] => none
  | x :: xs => match f k x.1 with
    | true => some x.2
    | false => lookM f k xs

def setM {α β : Type} (f : α → α → Bool) (k : α) (v : β) : List (α × β) → List (α × β)
  | [] => [(k, v)]
  | x :: xs => match f k x.1 with
    | true => (k, v) :: xs
    | false => x :: setM f k v xs

def delM {α β : Type} (f : α → α → Bool) (k : α) : List (α × β) → List (α × β)
  | [] => []
  | x :: xs => match f k x.1 with
    | true => xs
    | false => x :: delM f k xs

def makeMapCmd (ty : TypeId) (hint : Option Operand) (d : Option Nat) : Cmd Unit :=
  match mpTys E ty with
  | some (_, ke, ve) => optK E hint fun _ => lay d (.ov (.mp ke.t ve.t) (some []))
  | none => .fail

def lookupCmd (ty : TypeId) (x i : Operand) (ok : Bool) (d : Option Nat) : Cmd Unit :=
  match mpTys E ty with
  | some (_, ke, ve) => rdK E i fun b => asK ke.t b fun key => rdK E x fun a => mpK a fun p q m _ => (match teq p ke.t, teq q ve.t, cast (.mp p q) (.mp ke.t ve.t) m with
    | true, true, some m => (match ok with
      | true => lay d (.tup [⟨ve.t, (lookM (eqD ke.t) key (m.getD [])).getD ve.zero⟩, ⟨.bool, (lookM (eqD ke.t) key (m.getD [])).isSome⟩])
      | false => lay d (.v ve.t ((lookM (eqD ke.t) key (m.getD [])).getD ve.zero)))
    | _, _, _ => .fail)
  | none => .fail

def mapUpdateCmd (ty : TypeId) (x i v : Operand) (d : Option Nat) : Cmd Unit :=
  match d, mpTys E ty with
  | none, some (_, ke, ve) => rdK E i fun b => asK ke.t b fun key => rdK E v fun c => asK ve.t c fun val => rdK E x fun a => mpK a fun p q m put => (match cast (.mp p q) (.mp ke.t ve.t) m with
    | some m' => .test m'.isSome (match cast (.mp ke.t ve.t) (.mp p q) (some (setM (eqD ke.t) key val (m'.getD []))) with
      | some m2 => put m2 (.ret ())
      | none => .fail) .fail
    | none => .fail)
  | _, _ => .fail

def deleteCmd (ty : TypeId) (x i : Operand) (d : Option Nat) : Cmd Unit :=
  match d, mpTys E ty with
  | none, some (_, ke, ve) => rdK E i fun b => asK ke.t b fun key => rdK E x fun a => mpK a fun p q m put => (match cast (.mp p q) (.mp ke.t ve.t) m with
    | some m' => .test m'.isSome (match cast (.mp ke.t ve.t) (.mp p q) (some (delM (eqD ke.t) key (m'.getD []))) with
      | some m2 => put m2 (.ret ())
      | none => .fail) .fail
    | none => .fail)
  | _, _ => .fail

def clearCmd (ty : TypeId) (x : Operand) (d : Option Nat) : Cmd Unit :=
  match d, mpTys E ty with
  | none, some _ => rdK E x fun a => mpK a fun _ _ m put => .test m.isSome (put (some []) (.ret ())) .fail
  | _, _ => .fail

def lenCmd (ty : TypeId) (x : Operand) (d : Option Nat) : Cmd Unit :=
  tyK E ty fun e => rdK E x fun a =>
    match isStrT e.desc, isSl e.desc with
    | true, _ => (match a with
      | .v .str s => lay d (.v (.int .i64) (s.length : Int))
      | _ => .fail)
    | _, true => (match a with
      | .nilsl => lay d (.v (.int .i64) 0)
      | a => lookK a fun z => match z with
        | ⟨.sl _, xs⟩ => lay d (.v (.int .i64) (xs.length : Int))
        | _ => .fail)
    | _, _ => (match isMp e.desc with
      | true => mpK a fun _ _ m _ => lay d (.v (.int .i64) ((m.getD []).length : Int))
      | false => .fail)

def srcK (t : T) (a : A) (k : List t.den → Cmd α) : Cmd α :=
  match t, a, k with
  | _, .nilsl, k => k []
  | .int .u8, .v .str s, k => k (ofStr s)
  | t, a, k => lookK a fun z => match z with
    | ⟨.sl u, ys⟩ => (match cast (.sl u) (.sl t) ys with
      | some ys => k ys
      | none => .fail)
    | _ => .fail

def bytK (u : T) (xs : List u.den) (k : Nat → List Int → Cmd α) (k' : Cmd α) : Cmd α := match u, xs with
  | .byt q, xs => k q xs
  | _, _ => k'

def appendCmd (ty xT : TypeId) (s x : Operand) (d : Option Nat) : Cmd Unit :=
  tyK E ty fun e => tyK E xT fun ex => match e.desc with
    | .slice el => tyK E el fun ee => (match and' (and' (Nat.blt 0 ee.bytes) (Nat.ble ee.size ee.bytes)) (match ex.desc with
        | .int _ => false
        | _ => true) with
      | true => rdK E s fun a => rdK E x fun b => srcK ee.t b fun ys => (match a with
        | .nilsl => .test (decide (ys.length * ee.bytes ≤ 70368744177664)) (lay d (.row ee.t ys)) .fail
        | .bor r => .get r fun c => (match c with
          | .row t xs => (match cast (.sl t) (.sl ee.t) xs with
            | some xs => .test (decide ((xs.length + ys.length) * ee.bytes ≤ 70368744177664)) (.set r .dead (lay d (.row ee.t (xs ++ ys)))) .fail
            | none => .fail)
          | _ => .fail)
        | .cel r n p => celK r n p fun t z u xs => bytK u xs (fun q xs => (match and' (Nat.beq q el) (teq ee.t (.int .u8)) with
          | true => (match cast (.sl ee.t) (.sl (.int .u8)) ys with
            | some ys => .test (decide ((xs.length + ys.length) * ee.bytes ≤ 70368744177664)) (match putAt t z p .any () with
              | some q' => .cont r (.box q'.1 q'.2) (lay d (.row (.byt q) (xs ++ ys)))
              | none => .fail) .fail
            | none => .fail)
          | false => .fail)) (match cast (.sl u) (.sl ee.t) xs with
          | some xs => .test (decide ((xs.length + ys.length) * ee.bytes ≤ 70368744177664)) (match putAt t z p .any () with
            | some q => .cont r (.box q.1 q.2) (lay d (.row ee.t (xs ++ ys)))
            | none => .fail) .fail
          | none => .fail)
        | _ => .fail)
      | false => .fail)
    | _ => .fail

/-- what a copy leaves: ys over xs from lo on, as far as hi -/
def over {α : Type} (xs : List α) (lo hi : Nat) (ys : List α) : List α := xs.take lo ++ (ys.take (hi - lo) ++ xs.drop (lo + min ys.length (hi - lo)))

def copyN {α : Type} (lo hi : Nat) (ys : List α) : Int := ((min ys.length (hi - lo) : Nat) : Int)

def copyCmd (dT : TypeId) (x y : Operand) (d : Option Nat) : Cmd Unit :=
  tyK E dT fun e => match e.desc with
    | .slice el => tyK E el fun ee => rdK E y fun b => srcK ee.t b fun ys => rdK E x fun a => (match a with
      | .bor r => .get r fun c => (match c with
        | .row t xs => (match cast (.sl t) (.sl ee.t) xs with
          | some xs => .cont r (.row ee.t (over xs 0 xs.length ys)) (lay d (.v (.int .i64) (copyN 0 xs.length ys)))
          | none => .fail)
        | _ => .fail)
      | .cel r n p => celK r n p fun t z u xs => (match cast (.sl u) (.sl ee.t) xs with
        | some xs => (match putAt t z p (.own ee.t) (over xs 0 xs.length ys) with
          | some q => .cont r (.box q.1 q.2) (lay d (.v (.int .i64) (copyN 0 xs.length ys)))
          | none => .fail)
        | none => .fail)
      | .psl r n p u q lo hi => celK r n p fun t z u' xs => (match cast (.sl u') (.sl u) xs with
        | some xs => .test (inb' (.arr 0 u) xs q) (unArr (foc (.arr 0 u) xs q) fun m t' zs => (match cast (.sl t') (.sl ee.t) zs with
          | some zs => (match setAt (.arr 0 u) xs q (.arr m ee.t) (over zs lo hi ys) with
            | some xs' => (match putAt t z p (.own u) xs' with
              | some z' => .cont r (.box z'.1 z'.2) (lay d (.v (.int .i64) (copyN lo hi ys)))
              | none => .fail)
            | none => .fail)
          | none => .fail)) .fail
        | none => .fail)
      | _ => .fail)
    | _ => .fail

def minmaxCmd (mx : Bool) (x y : Operand) (d : Option Nat) : Cmd Unit :=
  rdK E x fun a => rdK E y fun b => match a, b with
    | .v (.int k) m, .v (.int k') n => (match decide (k = k') with
      | true => lay d (.v (.int k) (match mx with
        | true => if n > m then n else m
        | false => if n < m then n else m))
      | false => .fail)
    | _, _ => .fail

/-- boxes that are handed beside the arguments -/
def boxesK : List Nat → Nat → (List A → List (Nat × Nat) → Cmd α) → Cmd α
  | [], _, k => k [] []
  | s :: r, i, k => .get s fun c => match c with
    | .box t y => boxesK r (i + 1) fun l b => k (.box t y :: l) ((s, i) :: b)
    | _ => .fail

/-- the arguments, and the owners of the handed boxes, by their places; xt: what a function value has captured -/
def argsK (xt : List Nat) : List Operand → Nat → (List A → List (Nat × Nat) → Cmd α) → Cmd α
  | [], i, k => boxesK xt i k
  | x :: r, i, k => rdK E x fun a => match a with
    | .bor s => .get s fun c => (match c with
      | .row t xs => .retire s (argsK xt r (i + 1) fun l b => k (.v (.sl t) xs :: l) b)
      | .ov t x => (match frzOk t with
        | true => .retire s (argsK xt r (i + 1) fun l b => k (.v (frz t) (frzD t x) :: l) b)
        | false => .fail)
      | .box .. => argsK xt r (i + 1) fun l b => .get s fun c => (match c with
        | .box t y => k (.box t y :: l) ((s, i) :: b)
        | _ => .fail)
      | _ => .fail)
    | .v t y => argsK xt r (i + 1) fun l b => k (.v t y :: l) b
    | .nilsl => argsK xt r (i + 1) fun l b => k (.nilsl :: l) b
    | .cel s n p => datK (.cel s n p) fun d => argsK xt r (i + 1) fun l b => k (.v d.1 d.2 :: l) b
    | .clo f rs => datK (.clo f rs) fun d => argsK xt r (i + 1) fun l b => k (.v d.1 d.2 :: l) b
    | _ => .fail

def nodupB : List (Nat × Nat) → Bool
  | [] => true
  | p :: r => and' (!(r.any fun q => Nat.beq q.1 p.1)) (nodupB r)

def backK (outs : List A) : List (Nat × Nat) → Cmd α → Cmd α
  | [], k => k
  | (r, i) :: l, k => match outs.getD i .dead with
    | .box t y => .get r fun c => (match c with
      | .box t' _ => (match Nat.beq t.size t'.size with
        | true => .cont r (.box t y) (backK outs l k)
        | false => .fail)
      | _ => .fail)
    | _ => .fail

def resOk : A → Bool
  | .v .. | .row .. | .box .. | .tup _ | .ov .. | .otup _ => true
  | _ => false

/-- what a function value that is a datum has captured -/
def fnArgs : (t : T) → t.den → Option (List A)
  | .unit, _ => some []
  | .pair (.ptr a) b, x => match fnArgs b x.2 with
    | some l => some (.v (.ptr a) x.1 :: l)
    | none => none
  | _, _ => none

def goCall (f : FuncId) (args : List Operand) (xt : List Nat) (xs : List A) (d : Option Nat) : Cmd Unit :=
  argsK E xt args 0 fun l b => match nodupB b with
    | true => .call f (l.append xs) fun x outs => (match resOk x with
      | true => backK outs b (lay d x)
      | false => .fail)
    | false => .fail

/-- pointers that may be none: which of both -/
def refineK : List Operand → Cmd α → Cmd α
  | [], k => k
  | x :: r, k => rdK E x fun a => match a with
    | .bor s => .get s fun c => (match c with
      | .ov t m => (match t, m with
        | .nb u, m => .test m.isSome (.cont s (.box u (m.getD u.dflt)) (refineK r k)) (.cont s (.ov (.nb u) none) (.retire s (refineK r k)))
        | _, _ => refineK r k)
      | _ => refineK r k)
    | _ => refineK r k

def callCmd (c : Call) (d : Option Nat) : Cmd Unit :=
  match c.callee with
  | .value (.func f) => refineK E c.args.toList (goCall E f c.args.toList [] [] d)
  | .value f => rdK E f fun a => (match a with
    | .v .opq (.func (.func f) first captured) => (match and' first.isEmpty captured.isEmpty with
      | true => goCall E f c.args.toList [] [] d
      | false => .fail)
    | .clo f rs => goCall E f c.args.toList rs [] d
    | .v (.fn f t) x => (match fnArgs t x with
      | some l => goCall E f c.args.toList [] l d
      | none => .fail)
    | _ => .fail)
  | .builtin b => (match b, c.args.toList, c.argTypes.toList with
    | .len, [x], [t] => lenCmd E t x d
    | .append, [s, x], [t, u] => appendCmd E t u s x d
    | .copy, [x, y], t :: _ => copyCmd E t x y d
    | .min, [x, y], _ => minmaxCmd E false x y d
    | .max, [x, y], _ => minmaxCmd E true x y d
    | .delete, [x, y], t :: _ => deleteCmd E t x y d
    | .clear, [x], [t] => clearCmd E t x d
    | _, _, _ => .fail)
  | _ => .fail

def extractCmd (x : Operand) (i : Nat) (d : Option Nat) : Cmd Unit :=
  rdK E x fun a => match a with
    | .tup l => (match l[i]? with
      | some z => lay d (.v z.1 z.2)
      | none => .fail)
    | .bor r => .get r fun c => (match c with
      | .otup l => (match l[i]? with
        | some z => (match noOwn z.1 with
          | true => lay d (.v z.1 z.2)
          | false => (match ovT z.1 with
            | true => .cont r (.otup (l.set i ⟨fgt z.1, fgtD z.1 z.2⟩)) (lay d (.ov z.1 z.2))
            | false => .fail))
        | none => .fail)
      | _ => .fail)
    | _ => .fail

/-- an owned row goes on into a variable that keeps it, where the result is to be owned -/
def movesOn (E : Env) (r d : Nat) : Bool := match E.ownRes with
  | true => (match E.keep d with
    | some _ => !(Nat.beq r d)
    | none => false)
  | false => false

/-- a variable is assigned: an owned row stays owned where the variable keeps it, a box moves; else it is given up -/
def asgCmd (x : Operand) (d : Option Nat) : Cmd Unit :=
  match d with
  | none => .fail
  | some d => match x with
    | .tmp s => .get s fun a => (match a with
      | .row t xs => (match E.keep d with
        | some _ => (match Nat.beq s d with
          | true => .fail
          | false => .set s .dead (.set d (.row t xs) (.ret ())))
        | none => .retire s (.set d (.v (.sl t) xs) (.ret ())))
      | .box t y => (match Nat.beq s d with
        | true => .fail
        | false => .set s .dead (.set d (.box t y) (.ret ())))
      | .ov t y => (match Nat.beq s d with
        | true => .fail
        | false => .set s .dead (.set d (.ov t y) (.ret ())))
      | .otup .. => .fail
      | .iter .. => .fail
      | .bor r => .get r fun c => (match c with
        | .row t xs => (match movesOn E r d with
          | true => .set r .dead (.set d (.row t xs) (.ret ()))
          | false => .retire r (.set d (.v (.sl t) xs) (.ret ())))
        | .box .. => .set d (.bor r) (.ret ())
        | .ov .. => .set d (.bor r) (.ret ())
        | _ => .fail)
      | .cel r n p => datK (.cel r n p) fun z => .set d (.v z.1 z.2) (.ret ())
      | .clo f rs => (match E.keep d with
        | some _ => .set d (.clo f rs) (.ret ())
        | none => datK (.clo f rs) fun z => .set d (.v z.1 z.2) (.ret ()))
      | .yld => .fail
      | .nilsl => (match E.keep d with
        | some t => .set d (.row t []) (.ret ())
        | none => .set d .nilsl (.ret ()))
      | .dead => .fail
      | a => .set d a (.ret ()))
    | x => rdK E x fun a => (match a with
      | .nilsl => (match E.keep d with
        | some t => .set d (.row t []) (.ret ())
        | none => .set d .nilsl (.ret ()))
      | a => .set d a (.ret ()))

def rangeCmd (ty : TypeId) (x : Operand) (d : Option Nat) : Cmd Unit :=
  tyK E ty fun e => rdK E x fun a => match isStrT e.desc, a with
    | true, .v .str s => lay d (.iter s 0)
    | _, _ => .fail

def runeAt (s : List UInt8) (i : Nat) : Nat × Nat := Utf8.decode ⟨⟨s⟩⟩ i

def nextCmd (it : Operand) (isString : Bool) (d : Option Nat) : Cmd Unit :=
  match isString with
  | false => .fail
  | true => rdK E it fun a => match a with
    | .bor r => .get r fun c => (match c with
      | .iter s pos => .test (decide (pos < s.length))
          (.cont r (.iter s (pos + (runeAt s pos).2)) (lay d (.tup [⟨.bool, true⟩, ⟨.int .i64, (pos : Int)⟩, ⟨.int .i32, ((runeAt s pos).1 : Int)⟩])))
          (lay d (.tup [⟨.bool, false⟩]))
      | _ => .fail)
    | _ => .fail

def pickCmd (c a b : Operand) (d : Option Nat) : Cmd Unit :=
  rdK E c fun z => match z with
    | .v .bool b' => .test b' (rdK E a fun x => lay d x) (rdK E b fun x => lay d x)
    | _ => .fail

def isPtr : A → Bool
  | .bor _ | .adr .. => true
  | .v (.ptr _) _ => true
  | _ => false

def nilCheckCmd (x : Operand) (d : Option Nat) : Cmd Unit :=
  rdK E x fun a => match a with
    | .bor r => .get r fun c => (match c with
      | .box .. => lay d (.bor r)
      | .ov t x => (match t, x with
        | .nb u, m => .test m.isSome (.cont r (.box u (m.getD u.dflt)) (lay d (.bor r))) .fail
        | _, _ => .fail)
      | _ => .fail)
    | .pel r n p u q => lay d (.pel r n p u q)
    | .adr r t p => lay d (.adr r t p)
    | .v (.ptr t) y => lay d (.v (.ptr t) y)
    | _ => .fail

/-- a function value that captures boxes -/
def mkFnK (f : FuncId) : List Operand → List Nat → Option Nat → Cmd Unit
  | [], rs, d => lay d (.clo f rs.reverse)
  | x :: l, rs, d => rdK E x fun a => match a with
    | .bor r => .get r fun c => (match c with
      | .box .. => mkFnK f l (r :: rs) d
      | _ => .fail)
    | _ => .fail

/-- a function without captured variables -/
def isFn (f : FuncId) (a : A) : Bool := match a with
  | .v .opq (.func (.func g) first captured) => and' (Nat.beq g f) (and' first.isEmpty captured.isEmpty)
  | _ => false

def opCmd (o : Oper) : Cmd Unit :=
  match o.op with
  | .move x => rdK E x fun a => lay o.dst a
  | .assign x => asgCmd E x o.dst
  | .pick c a b => pickCmd E c a b o.dst
  | .alloc el => tyK E el fun e => (match o.dst.bind E.boxT with
    | some t => (match and' (simT t e.t) (selfOk el t) with
      | true => (match toOwn t e.t e.zero with
        | some z => lay o.dst (.box t z)
        | none => .fail)
      | false => .fail)
    | none => lay o.dst (.box e.t e.zero))
  | .box el x => tyK E el fun e => rdK E x fun a => (match o.dst.bind E.boxT with
    | some (.own u) => (match teq (.sl u) e.t with
      | true => takeK a u fun xs => lay o.dst (.box (.own u) xs)
      | false => .fail)
    | some (.fn f .unit) => (match isFn f a with
      | true => lay o.dst (.box (.fn f .unit) ())
      | false => .fail)
    | some t => (match and' (!(noOwn t)) (and' (simT t e.t) (noSelf t)) with
      | true => takeVK a t fun z => lay o.dst (.box t z)
      | false => asK e.t a fun z => lay o.dst (.box e.t z))
    | none => asK e.t a fun z => lay o.dst (.box e.t z))
  | .makeFunc (.func f) first captured => (match first.isEmpty with
    | true => mkFnK E f captured.toList [] o.dst
    | false => .fail)
  | .build t parts => (match o.dst.bind E.boxT with
    | some u => buildOv E u t parts.toList o.dst
    | none => buildCmd E t parts.toList o.dst)
  | .makeMap t h => makeMapCmd E t h o.dst
  | .lookup t x i ok => lookupCmd E t x i ok o.dst
  | .mapUpdate t x i v => mapUpdateCmd E t x i v o.dst
  | .buildSlice t n parts => buildSliceCmd E t n parts.toList o.dst
  | .load t x => (match o.dst.bind E.boxT with
    | some u => loadOv E u t x o.dst
    | none => loadCmd E t x o.dst)
  | .store t x v => (match o.dst with
    | none => storeCmd E t x v
    | some _ => .fail)
  | .nilCheck x => nilCheckCmd E x o.dst
  | .binOp op t x y _ => binCmd E op t x y o.dst
  | .unOp op _ x => unCmd E op x o.dst
  | .convert s t x => convCmd E s t x o.dst
  | .makeSlice t l c => makeSliceCmd E t l c o.dst
  | .slice t x l h m => sliceCmd E t x l h m o.dst
  | .fieldAddr s x f => fieldAddrCmd E s x f o.dst
  | .field s x f => fieldCmd E s x f o.dst
  | .indexAddr t x i => indexAddrCmd E t x i o.dst
  | .index t x i => indexCmd E t x i o.dst
  | .range t x => rangeCmd E t x o.dst
  | .next it s => nextCmd E it s o.dst
  | .extract x i => extractCmd E x i o.dst
  | .call c => callCmd E c o.dst
  | _ => .fail
end
end Go.Lift

