/- A typed reading of memory, an evaluator over the translated operations, and its laws (own work, in one text). -/
import Derived.Calls
import Derived.Laws.Sem
import Derived.RangeFuncSeq
import Derived.RangeFuncLeaves
import Derived.OrdersIn
import Derived.TacticsIn
import Derived.LoopNIn
import Derived.Laws.Cells
import Derived.Laws.Entries
import Derived.Laws.Strings
import Derived.Laws.StructEq
import Derived.ChangeKeysEq
import Derived.Laws.BytesString
import Derived.Laws.Append
/- A typed reading of the model's values and memory: which plain data a value stands for, in a part of the heap that is not written any more. -/
set_option linter.all false
namespace Go.Lift

inductive T where
  | int (k : IntKind) | bool | str | opq | unit
  | pair (a b : T) | arr (n : Nat) (t : T) | sl (t : T) | ptr (t : T)
  | own (t : T) | any | self (ty : Nat) | byt (ty : Nat) | fn (f : Nat) (t : T)
  | mp (k v : T) | nb (t : T) | ifc (ty : Nat) (t : T)
  deriving DecidableEq

@[reducible] def T.den : T → Type
  | .int _ => Int
  | .bool => Bool
  | .str => List UInt8
  | .opq => Value
  | .unit => Unit
  | .pair a b => a.den × b.den
  | .arr _ t => List t.den
  | .sl t => List t.den
  | .ptr t => t.den
  | .own t => List t.den
  | .any => Unit
  | .self _ => Unit
  | .byt _ => Int
  | .fn _ t => t.den
  | .mp k v => Option (List (k.den × v.den))
  | .nb t => Option t.den
  | .ifc _ t => Option t.den

def T.size : T → Nat
  | .unit => 0
  | .pair a b => a.size + b.size
  | .arr n t => n * t.size
  | _ => 1

def T.isAgg : T → Bool
  | .unit | .pair .. | .arr .. => true
  | _ => false

/-- some datum of each type: what a list gives beyond its end -/
def T.dflt : (t : T) → t.den
  | .int _ => (0 : Int)
  | .bool => false
  | .str => ([] : List UInt8)
  | .opq => Value.nilIface
  | .unit => ()
  | .pair a b => (a.dflt, b.dflt)
  | .arr _ _ => []
  | .sl _ => []
  | .ptr t => t.dflt
  | .own _ => []
  | .any => ()
  | .self _ => ()
  | .byt _ => (0 : Int)
  | .fn _ t => t.dflt
  | .mp _ _ => none
  | .nb _ => none
  | .ifc _ _ => none

abbrev Hp := Nat → Option Obj

def hp (w : World) : Hp := fun b => w.heap[b]?

def All {α : Type} (R : α → List Value → Prop) : List α → List Value → Prop
  | [], cs => cs = []
  | x :: xs, cs => ∃ c1 c2, cs = c1 ++ c2 ∧ R x c1 ∧ All R xs c2

/-- the cells of block b from off on are c1 -/
def Lies (S : Hp) (b off : Nat) (c1 : List Value) : Prop :=
  ∃ all E fr c0 c2, S b = some (.cells all E fr) ∧ all.toList = c0 ++ (c1 ++ c2) ∧ c0.length = off

def Rd (S : Hp) : (t : T) → t.den → List Value → Prop
  | .int k, x, cs => cs = [.int k x]
  | .bool, x, cs => cs = [.bool x]
  | .str, x, cs => cs = [.string ⟨⟨x⟩⟩]
  | .opq, x, cs => cs = [x] ∧ x.oneCell' = true
  | .unit, _, cs => cs = []
  | .pair a b, x, cs => ∃ c1 c2, cs = c1 ++ c2 ∧ Rd S a x.1 c1 ∧ Rd S b x.2 c2
  | .arr n t, xs, cs => xs.length = n ∧ All (Rd S t) xs cs
  | .sl t, xs, cs => ∃ a cap, cs = [.slice a xs.length cap] ∧ xs.length ≤ cap ∧
      (xs = [] ∨ ∃ b off c1, a = some ⟨b, off, none⟩ ∧ Lies S b off c1 ∧ All (Rd S t) xs c1)
  | .ptr t, x, cs => ∃ b off c1, cs = [.pointer (some ⟨b, off, none⟩)] ∧ Lies S b off c1 ∧ Rd S t x c1
  | .own _, _, _ => False
  | .self _, _, _ => False
  | .byt _, x, cs => cs = [.int .u8 x]
  | .any, _, cs => ∃ v, cs = [v] ∧ v.oneCell' = true
  | .fn f t, x, cs => ∃ l : Array Value, cs = [.func (.func f) #[] l] ∧ Rd S t x l.toList
  | .mp _ _, _, _ => False
  | .nb _, _, _ => False
  | .ifc ty t, x, cs => (x = none ∧ cs = [.nilIface]) ∨ ∃ y v, x = some y ∧ cs = [.iface ty v] ∧ ((t.isAgg = true ∧ ∃ a : Array Value, v = .agg a ∧ Rd S t y a.toList) ∨ (t.isAgg = false ∧ Rd S t y [v]))

def Sub (S S' : Hp) : Prop := ∀ b o, S b = some o → S' b = some o

theorem Sub.refl (S : Hp) : Sub S S := fun _ _ h => h
theorem Sub.trans {S S' S'' : Hp} (h : Sub S S') (h' : Sub S' S'') : Sub S S'' := fun b o e => h' b o (h b o e)

theorem All.mono {α : Type} {R R' : α → List Value → Prop} (h : ∀ x cs, R x cs → R' x cs) : ∀ (xs : List α) (cs : List Value), All R xs cs → All R' xs cs
  | [], _, e => e
  | x :: xs, _, ⟨c1, c2, e, h1, h2⟩ => ⟨c1, c2, e, h x c1 h1, All.mono h xs c2 h2⟩

theorem Lies.mono {S S' : Hp} (h : Sub S S') {b off : Nat} {c1 : List Value} : Lies S b off c1 → Lies S' b off c1
  | ⟨all, E, fr, c0, c2, e, e1, e2⟩ => ⟨all, E, fr, c0, c2, h _ _ e, e1, e2⟩

theorem Rd.mono {S S' : Hp} (h : Sub S S') : ∀ (t : T) (x : t.den) (cs : List Value), Rd S t x cs → Rd S' t x cs
  | .int _, _, _, e => e
  | .bool, _, _, e => e
  | .str, _, _, e => e
  | .opq, _, _, e => e
  | .unit, _, _, e => e
  | .pair a b, _, _, ⟨c1, c2, e, h1, h2⟩ => ⟨c1, c2, e, Rd.mono h a _ _ h1, Rd.mono h b _ _ h2⟩
  | .arr _ t, _, _, ⟨e, h1⟩ => ⟨e, All.mono (Rd.mono h t) _ _ h1⟩
  | .sl t, _, _, ⟨a, cap, e, hc, h1⟩ => ⟨a, cap, e, hc, h1.imp id fun ⟨b, off, c1, ea, hl, ha⟩ => ⟨b, off, c1, ea, hl.mono h, All.mono (Rd.mono h t) _ _ ha⟩⟩
  | .ptr t, _, _, ⟨b, off, c1, e, hl, h1⟩ => ⟨b, off, c1, e, hl.mono h, Rd.mono h t _ _ h1⟩
  | .own _, _, _, e => e
  | .self _, _, _, e => e
  | .byt _, _, _, e => e
  | .any, _, _, e => e
  | .fn f t, _, _, ⟨l, e, h1⟩ => ⟨l, e, Rd.mono h t _ _ h1⟩
  | .mp _ _, _, _, e => e
  | .nb _, _, _, e => e
  | .ifc ty t, _, _, e => e.imp id fun ⟨y, v, e1, e2, e3⟩ => ⟨y, v, e1, e2, e3.imp (fun ⟨e4, a, e5, e6⟩ => ⟨e4, a, e5, Rd.mono h t _ _ e6⟩) fun ⟨e4, e5⟩ => ⟨e4, Rd.mono h t _ _ e5⟩⟩

theorem All.length {α : Type} {R : α → List Value → Prop} {n : Nat} (h : ∀ x cs, R x cs → cs.length = n) : ∀ (xs : List α) (cs : List Value), All R xs cs → cs.length = xs.length * n
  | [], _, e => by simp [All] at e; simp [e]
  | x :: xs, _, ⟨c1, c2, e, h1, h2⟩ => by
    rw [e, List.length_append, h x c1 h1, All.length h xs c2 h2, List.length_cons, Nat.succ_mul, Nat.add_comm]

theorem Rd.length {S : Hp} : ∀ (t : T) (x : t.den) (cs : List Value), Rd S t x cs → cs.length = t.size
  | .int _, _, _, e => by simp [Rd] at e; simp [e, T.size]
  | .bool, _, _, e => by simp [Rd] at e; simp [e, T.size]
  | .str, _, _, e => by simp [Rd] at e; simp [e, T.size]
  | .opq, _, _, e => by simp [Rd] at e; simp [e.1, T.size]
  | .unit, _, _, e => by simp [Rd] at e; simp [e, T.size]
  | .pair a b, _, _, ⟨c1, c2, e, h1, h2⟩ => by rw [e, List.length_append, Rd.length a _ _ h1, Rd.length b _ _ h2, T.size]
  | .arr n t, xs, _, ⟨e, h1⟩ => by rw [All.length (Rd.length t) _ _ h1, T.size, ← e]
  | .sl t, _, _, ⟨a, cap, e, _⟩ => by simp [e, T.size]
  | .ptr t, _, _, ⟨b, off, c1, e, _⟩ => by simp [e, T.size]
  | .own _, _, _, e => e.elim
  | .self _, _, _, e => e.elim
  | .byt _, _, _, e => by simp [Rd] at e; simp [e, T.size]
  | .any, _, _, ⟨v, e, _⟩ => by simp [e, T.size]
  | .fn _ _, _, _, ⟨l, e, _⟩ => by simp [e, T.size]
  | .mp _ _, _, _, e => e.elim
  | .nb _, _, _, e => e.elim
  | .ifc _ _, _, _, e => by rcases e with ⟨_, e⟩ | ⟨_, _, _, e, _⟩ <;> simp [e, T.size]

theorem All.append {α : Type} {R : α → List Value → Prop} : ∀ {xs ys : List α} {cs ds : List Value}, All R xs cs → All R ys ds → All R (xs ++ ys) (cs ++ ds)
  | [], _, _, _, e, h => by simp [All] at e; simpa [e] using h
  | x :: xs, _, _, _, ⟨c1, c2, e, h1, h2⟩, h => ⟨c1, c2 ++ _, by rw [e, List.append_assoc], h1, All.append h2 h⟩

theorem All.split {α : Type} {R : α → List Value → Prop} : ∀ {xs ys : List α} {cs : List Value}, All R (xs ++ ys) cs → ∃ c1 c2, cs = c1 ++ c2 ∧ All R xs c1 ∧ All R ys c2
  | [], _, cs, h => ⟨[], cs, rfl, rfl, h⟩
  | x :: xs, _, _, ⟨c1, c2, e, h1, h2⟩ => by
    obtain ⟨d1, d2, e2, h3, h4⟩ := All.split h2
    exact ⟨c1 ++ d1, d2, by rw [e, e2, List.append_assoc], ⟨c1, d1, rfl, h1, h3⟩, h4⟩

theorem All.one {α : Type} {R : α → List Value → Prop} {x : α} {cs : List Value} (h : R x cs) : All R [x] cs := ⟨cs, [], by simp, h, rfl⟩
theorem All.one_inv {α : Type} {R : α → List Value → Prop} {x : α} {cs : List Value} : All R [x] cs → R x cs
  | ⟨c1, c2, e, h1, h2⟩ => by simp only [All] at h2; simp [e, h2]; exact h1

/-- element i lies at i times the size -/
theorem All.at {α : Type} {R : α → List Value → Prop} {n : Nat} (hn : ∀ x cs, R x cs → cs.length = n) {xs : List α} {cs : List Value} (h : All R xs cs) {i : Nat} (hi : i < xs.length) (d : α) :
    ∃ c0 c1 c2, cs = c0 ++ (c1 ++ c2) ∧ c0.length = i * n ∧ R (xs.getD i d) c1 ∧ All R (xs.take i) c0 ∧ All R (xs.drop (i + 1)) c2 := by
  have e : xs = xs.take i ++ ([xs.getD i d] ++ xs.drop (i + 1)) := by
    rw [List.singleton_append]
    have : xs.getD i d = xs[i] := by simp [List.getD, hi]
    rw [this, List.getElem_cons_drop, List.take_append_drop]
  rw [e] at h
  obtain ⟨c0, c3, e0, h0, h3⟩ := All.split h
  obtain ⟨c1, c2, e1, h1, h2⟩ := All.split h3
  refine ⟨c0, c1, c2, by rw [e0, e1], ?_, h1.one_inv, h0, h2⟩
  rw [All.length hn _ _ h0, List.length_take, Nat.min_eq_left (Nat.le_of_lt hi)]

theorem All.set {α : Type} {R : α → List Value → Prop} {xs : List α} {c0 c1 c2 : List Value} {i : Nat} {y : α} (hi : i < xs.length)
    (h0 : All R (xs.take i) c0) (h1 : R y c1) (h2 : All R (xs.drop (i + 1)) c2) : All R (xs.set i y) (c0 ++ (c1 ++ c2)) := by
  have e : xs.set i y = xs.take i ++ ([y] ++ xs.drop (i + 1)) := by
    rw [List.set_eq_take_append_cons_drop, if_pos hi]; rfl
  rw [e]
  exact All.append h0 (All.append (All.one h1) h2)

theorem All.replicate {α : Type} {R : α → List Value → Prop} {x : α} {cs : List Value} (h : R x cs) : ∀ n, All R (List.replicate n x) (List.replicate n cs).flatten
  | 0 => rfl
  | n + 1 => ⟨cs, (List.replicate n cs).flatten, by simp [List.replicate_succ], h, All.replicate h n⟩

/-! values -/

/-- value v stands for x -/
def VR (S : Hp) (t : T) (x : t.den) (v : Value) : Prop :=
  if t.isAgg then ∃ cs, v = .agg cs ∧ Rd S t x cs.toList else Rd S t x [v]

theorem VR.mono {S S' : Hp} (h : Sub S S') {t : T} {x : t.den} {v : Value} : VR S t x v → VR S' t x v := by
  unfold VR
  split
  · rintro ⟨cs, e, hr⟩; exact ⟨cs, e, hr.mono h⟩
  · exact Rd.mono h t x _

theorem Rd.oneCell {S : Hp} {t : T} {x : t.den} {v : Value} (ht : t.isAgg = false) (h : Rd S t x [v]) : v.oneCell' = true := by
  cases t <;> simp [T.isAgg] at ht <;> simp [Rd] at h
  case int => simp [h, Value.oneCell']
  case bool => simp [h, Value.oneCell']
  case str => simp [h, Value.oneCell']
  case opq => rw [h.1]; exact h.2
  case sl => obtain ⟨a, c, rfl, _⟩ := h; rfl
  case ptr => obtain ⟨b, off, rfl, _⟩ := h; rfl
  case any => exact h
  case byt => simp [h, Value.oneCell']
  case fn => obtain ⟨l, rfl, _⟩ := h; rfl
  case ifc => rcases h with ⟨_, rfl⟩ | ⟨_, _, _, rfl, _⟩ <;> rfl

theorem cells_of_oneCell {v : Value} (h : v.oneCell' = true) : v.cells = #[v] := by
  cases v <;> simp [Value.oneCell'] at h <;> rfl

theorem VR.cells {S : Hp} {t : T} {x : t.den} {v : Value} (h : VR S t x v) : Rd S t x v.cells.toList := by
  unfold VR at h
  split at h
  · obtain ⟨cs, rfl, hr⟩ := h; exact hr
  · rename_i ht
    rw [cells_of_oneCell (Rd.oneCell (by simpa using ht) h)]; exact h

theorem VR.of_agg {S : Hp} {t : T} {x : t.den} {cs : Array Value} (ht : t.isAgg = true) (h : Rd S t x cs.toList) : VR S t x (.agg cs) := by
  unfold VR; rw [if_pos ht]; exact ⟨cs, rfl, h⟩

theorem VR.of_one {S : Hp} {t : T} {x : t.den} {v : Value} (ht : t.isAgg = false) (h : Rd S t x [v]) : VR S t x v := by
  unfold VR; rw [if_neg (by simp [ht])]; exact h

theorem VR.int {S : Hp} {k : IntKind} {n : Int} : VR S (.int k) n (.int k n) := VR.of_one rfl rfl
theorem VR.bool {S : Hp} {b : Bool} : VR S .bool b (.bool b) := VR.of_one rfl rfl
theorem VR.str {S : Hp} {s : List UInt8} : VR S .str s (.string ⟨⟨s⟩⟩) := VR.of_one rfl rfl
theorem VR.int_inv {S : Hp} {k : IntKind} {n : Int} {v : Value} (h : VR S (.int k) n v) : v = .int k n := by simpa [VR, T.isAgg, Rd] using h
theorem VR.bool_inv {S : Hp} {n : Bool} {v : Value} (h : VR S .bool n v) : v = .bool n := by simpa [VR, T.isAgg, Rd] using h
theorem VR.str_inv {S : Hp} {n : List UInt8} {v : Value} (h : VR S .str n v) : v = .string ⟨⟨n⟩⟩ := by simpa [VR, T.isAgg, Rd] using h
theorem VR.opq_inv {S : Hp} {n v : Value} (h : VR S .opq n v) : v = n := by have := h; simp [VR, T.isAgg, Rd] at this; exact this.1
end Go.Lift

/- Places inside a datum, as the cells of one block have them: what stands there, and what the datum is when something else is put there. -/
set_option linter.all false
namespace Go.Lift

inductive Step where
  | fld (i : Nat) | idx (i : Nat)
  deriving DecidableEq

def offOf : T → List Step → Nat
  | .pair a b, .fld i :: p => match i with
    | 0 => offOf a p
    | i + 1 => a.size + offOf b (.fld i :: p)
  | .arr _ t, .idx i :: p => i * t.size + offOf t p
  | _, _ => 0

abbrev Dat := (t : T) × t.den

def foc : (t : T) → t.den → List Step → Dat
  | .pair a b, x, .fld i :: p => match i with
    | 0 => foc a x.1 p
    | i + 1 => foc b x.2 (.fld i :: p)
  | .arr _ t, xs, .idx i :: p => foc t (xs.getD i t.dflt) p
  | t, x, _ => ⟨t, x⟩

/-- 'and' that looks at its second part first -/
def and' (x y : Bool) : Bool := match y with
  | true => x
  | false => false

def tyAt : T → List Step → Option T
  | .pair a b, .fld i :: p => match i with
    | 0 => tyAt a p
    | i + 1 => tyAt b (.fld i :: p)
  | .arr _ t, .idx _ :: p => tyAt t p
  | t, [] => some t
  | _, _ => none

def inb : (t : T) → t.den → List Step → Bool
  | _, _, [] => true
  | .pair a b, x, .fld i :: p => match i with
    | 0 => inb a x.1 p
    | i + 1 => inb b x.2 (.fld i :: p)
  | .arr _ t, xs, .idx i :: p => and' (decide (i < xs.length)) (inb t (xs.getD i t.dflt) p)
  | _, _, _ => false

def cast (t' t : T) (y : t'.den) : Option t.den := if h : t' = t then some (h ▸ y) else none

def setAt : (t : T) → t.den → List Step → (t' : T) → t'.den → Option t.den
  | t, _, [], t', y => cast t' t y
  | .pair a b, x, .fld i :: p, t', y => match i with
    | 0 => match setAt a x.1 p t' y with
      | some z => some (z, x.2)
      | none => none
    | i + 1 => match setAt b x.2 (.fld i :: p) t' y with
      | some z => some (x.1, z)
      | none => none
  | .arr _ t, xs, .idx i :: p, t', y => match setAt t (xs.getD i t.dflt) p t' y with
    | some z => some (xs.set i z)
    | none => none
  | _, _, _, _, _ => none

theorem cast_some {t' t : T} {y : t'.den} {x : t.den} (h : cast t' t y = some x) : ∃ e : t' = t, e ▸ y = x := by
  unfold cast at h
  split at h
  · rename_i e; exact ⟨e, by simpa using h⟩
  · simp at h

theorem and'_true {x y : Bool} (h : and' x y = true) : x = true ∧ y = true := by
  cases y <;> simp_all [and']

/-- THE LENS -/
theorem lens {S : Hp} : ∀ (t : T) (x : t.den) (p : List Step) (cs : List Value), Rd S t x cs → inb t x p = true →
    ∃ c0 c1 c2, cs = c0 ++ (c1 ++ c2) ∧ c0.length = offOf t p ∧ Rd S (foc t x p).1 (foc t x p).2 c1 ∧
      ∀ (t' : T) (y : t'.den) (d : List Value) (x' : t.den), setAt t x p t' y = some x' → Rd S t' y d → t' = (foc t x p).1 ∧ Rd S t x' (c0 ++ (d ++ c2)) := by
  intro t
  have base : ∀ (t : T) (x : t.den) (cs : List Value), Rd S t x cs → offOf t [] = 0 → foc t x [] = ⟨t, x⟩ →
    ∃ c0 c1 c2, cs = c0 ++ (c1 ++ c2) ∧ c0.length = offOf t [] ∧ Rd S (foc t x []).1 (foc t x []).2 c1 ∧
      ∀ (t' : T) (y : t'.den) (d : List Value) (x' : t.den), setAt t x [] t' y = some x' → Rd S t' y d → t' = (foc t x []).1 ∧ Rd S t x' (c0 ++ (d ++ c2)) := by
    intro t x cs h h0 hf
    refine ⟨[], cs, [], by simp, by rw [h0]; rfl, by rw [hf]; exact h, ?_⟩
    intro t' y d x' hs hr
    have hs' : cast t' t y = some x' := by cases t <;> simpa [setAt] using hs
    obtain ⟨e, e'⟩ := cast_some hs'
    subst e; subst e'
    exact ⟨by rw [hf], by simpa using hr⟩
  induction t with
  | int k => intro x p cs h hi; cases p with | nil => exact base _ x cs h rfl rfl | cons s p => cases s <;> simp [inb] at hi
  | bool => intro x p cs h hi; cases p with | nil => exact base _ x cs h rfl rfl | cons s p => cases s <;> simp [inb] at hi
  | str => intro x p cs h hi; cases p with | nil => exact base _ x cs h rfl rfl | cons s p => cases s <;> simp [inb] at hi
  | opq => intro x p cs h hi; cases p with | nil => exact base _ x cs h rfl rfl | cons s p => cases s <;> simp [inb] at hi
  | unit => intro x p cs h hi; cases p with | nil => exact base _ x cs h rfl rfl | cons s p => cases s <;> simp [inb] at hi
  | sl t _ => intro x p cs h hi; cases p with | nil => exact base _ x cs h rfl rfl | cons s p => cases s <;> simp [inb] at hi
  | ptr t _ => intro x p cs h hi; cases p with | nil => exact base _ x cs h rfl rfl | cons s p => cases s <;> simp [inb] at hi
  | own t _ => intro x p cs h hi; exact h.elim
  | self ty => intro x p cs h hi; exact h.elim
  | byt ty => intro x p cs h hi; cases p with | nil => exact base _ x cs h rfl rfl | cons s p => cases s <;> simp [inb] at hi
  | any => intro x p cs h hi; cases p with | nil => exact base _ x cs h rfl rfl | cons s p => cases s <;> simp [inb] at hi
  | fn f t _ => intro x p cs h hi; cases p with | nil => exact base _ x cs h rfl rfl | cons s p => cases s <;> simp [inb] at hi
  | mp k v _ _ => intro x p cs h hi; exact h.elim
  | nb t _ => intro x p cs h hi; exact h.elim
  | ifc ty t _ => intro x p cs h hi; cases p with | nil => exact base _ x cs h rfl rfl | cons s p => cases s <;> simp [inb] at hi
  | pair a b iha ihb =>
    intro x p cs h hi
    cases p with
    | nil => exact base _ x cs h rfl rfl
    | cons s p =>
      cases s with
      | idx i => simp [inb] at hi
      | fld i =>
        obtain ⟨d1, d2, e, h1, h2⟩ := h
        cases i with
        | zero =>
          simp only [inb] at hi
          obtain ⟨c0, c1, c2, e1, hl, hr, hs⟩ := iha x.1 p d1 h1 hi
          refine ⟨c0, c1, c2 ++ d2, by rw [e, e1]; simp, by simpa [offOf] using hl, by simpa [foc] using hr, ?_⟩
          intro t' y d x' hset hy
          simp only [setAt] at hset
          split at hset
          · rename_i z hz
            obtain ⟨et, hz'⟩ := hs t' y d z hz hy
            refine ⟨by simpa [foc] using et, ?_⟩
            simp at hset; subst hset
            exact ⟨c0 ++ (d ++ c2), d2, by simp, hz', h2⟩
          · simp at hset
        | succ i =>
          simp only [inb] at hi
          obtain ⟨c0, c1, c2, e1, hl, hr, hs⟩ := ihb x.2 (.fld i :: p) d2 h2 hi
          refine ⟨d1 ++ c0, c1, c2, by rw [e, e1]; simp, by simp [offOf, hl, Rd.length a _ _ h1], by simpa [foc] using hr, ?_⟩
          intro t' y d x' hset hy
          simp only [setAt] at hset
          split at hset
          · rename_i z hz
            obtain ⟨et, hz'⟩ := hs t' y d z hz hy
            refine ⟨by simpa [foc] using et, ?_⟩
            simp at hset; subst hset
            exact ⟨d1, c0 ++ (d ++ c2), by simp, h1, hz'⟩
          · simp at hset
  | arr n t ih =>
    intro xs p cs h hi
    cases p with
    | nil => exact base _ xs cs h rfl rfl
    | cons s p =>
      cases s with
      | fld i => simp [inb] at hi
      | idx i =>
        simp only [inb] at hi
        obtain ⟨hlt, hin⟩ := and'_true hi
        have hlt : i < xs.length := by simpa using hlt
        obtain ⟨hn, hall⟩ := h
        obtain ⟨b0, b1, b2, eb, hb0, hb1, ha0, ha2⟩ := All.at (Rd.length t) hall hlt t.dflt
        obtain ⟨c0, c1, c2, e1, hl, hr, hs⟩ := ih (xs.getD i t.dflt) p b1 hb1 hin
        refine ⟨b0 ++ c0, c1, c2 ++ b2, by rw [eb, e1]; simp, by simp [offOf, hl, hb0], by simpa [foc] using hr, ?_⟩
        intro t' y d x' hset hy
        simp only [setAt] at hset
        split at hset
        · rename_i z hz
          obtain ⟨et, hz'⟩ := hs t' y d z hz hy
          refine ⟨by simpa [foc] using et, ?_⟩
          simp at hset; subst hset
          refine ⟨by simpa using hn, ?_⟩
          have := All.set hlt ha0 hz' ha2
          simpa using this
        · simp at hset

/-! 'arr': the number of elements does not matter to places -/
theorem offOf_arr (n m : Nat) (t : T) (p : List Step) : offOf (.arr n t) p = offOf (.arr m t) p := by
  cases p with
  | nil => rfl
  | cons s p => cases s <;> rfl

theorem inb_arr (n m : Nat) (t : T) (xs : List t.den) (p : List Step) : inb (.arr n t) xs p = inb (.arr m t) xs p := by
  cases p with
  | nil => rfl
  | cons s p => cases s <;> rfl
end Go.Lift

/- What the temporaries of a running function hold: plain data, or memory that the function alone has. The relation to the model's world, and how it is kept. -/
set_option linter.all false
namespace Go.Lift

@[reducible] def denL : List T → Type
  | [] => Unit
  | t :: ts => t.den × denL ts

inductive A where
  | v (t : T) (x : t.den)            -- a datum, in memory that nobody writes
  | row (t : T) (xs : List t.den)    -- a slice over a block of its own
  | box (t : T) (x : t.den)          -- a pointer to a block of its own, which may hold slices over blocks of their own
  | iter (s : List UInt8) (pos : Nat)
  | bor (r : Nat)                    -- the value that temporary r holds, r a block's owner
  | adr (r : Nat) (t : T) (p : List Step)   -- an address inside r's block, whose content is of type t
  | cel (r : Nat) (k : Nat) (p : List Step) -- the value of cell k of r's block, which is at place p
  | clo (f : FuncId) (rs : List Nat)        -- a function value that has captured the boxes of these owners
  | yld                                     -- the function that an iterator calls
  | ov (t : T) (x : t.den)           -- a value that owns blocks
  | otup (l : List Dat)              -- a tuple of such values
  | pel (r : Nat) (n : Nat) (p : List Step) (u : T) (q : List Step)  -- an address inside the block of the row that lies in cell n (place p) of r's block
  | psl (r : Nat) (n : Nat) (p : List Step) (u : T) (q : List Step) (lo hi : Nat)  -- a slice of the array that lies there
  | tup (l : List Dat)
  | nilsl
  | dead

def A.own : A → Bool
  | .row .. | .box .. | .iter .. | .yld | .ov .. | .otup .. => true
  | _ => false

def A.refs : A → List Nat
  | .bor r | .adr r .. | .cel r .. | .pel r .. | .psl r .. => [r]
  | .clo _ rs => rs
  | _ => []

/-- whose block's content its value is -/
def A.cell : A → Option Nat
  | .cel r .. => some r
  | .pel r .. => some r
  | .psl r .. => some r
  | _ => none

def Free (cs : Array Value) (fr : Nat × Nat) : Prop := ∀ i, i < cs.size → ¬ (fr.1 ≤ i ∧ i < fr.2)

def blockOf : Value → Option Nat
  | .pointer (some ⟨b, 0, none⟩) => some b
  | .slice (some ⟨b, 0, none⟩) _ (_ + 1) => some b
  | _ => none

inductive TupRel (S : Hp) : List Dat → List Value → Prop
  | nil : TupRel S [] []
  | cons {d : Dat} {v : Value} {l : List Dat} {vs : List Value} (h : VR S d.1 d.2 v) (hs : TupRel S l vs) : TupRel S (d :: l) (v :: vs)

/-- a slice over a block of its own -/
def RowRel (h S : Hp) (t : T) (xs : List t.den) (v : Value) (o : List Nat) : Prop := (xs = [] ∧ (∃ ad, v = .slice ad 0 0 ∧ ∀ q, t = .byt q → ad = none) ∧ o = []) ∨
  ∃ b cap cs E fr, o = [b] ∧ v = .slice (some ⟨b, 0, none⟩) xs.length cap ∧ h b = some (.cells cs E fr) ∧ Free cs fr ∧
    cs.size = cap * t.size ∧ xs.length ≤ cap ∧ All (Rd S t) xs (cs.toList.take (xs.length * t.size)) ∧ ∀ q, t = .byt q → E = q

/-- a map's entries -/
def Ents (S : Hp) (k v : T) : List (k.den × v.den) → List MapEntry → Prop
  | [], es => es = []
  | x :: xs, es => ∃ e es', es = e :: es' ∧ VR S k x.1 e.key ∧ VR S v x.2 e.val ∧ Ents S k v xs es'

/-- a map of its own, or none -/
def MpRel (h S : Hp) (k v : T) (x : Option (List (k.den × v.den))) (u : Value) (o : List Nat) : Prop := (x = none ∧ u = .map none ∧ o = []) ∨
  ∃ xs b es clock, x = some xs ∧ o = [b] ∧ u = .map (some b) ∧ h b = some (.map es clock) ∧ Ents S k v xs es.toList ∧ (es.toList.map (·.born)).Nodup ∧ ∀ e ∈ es.toList, e.born < clock

theorem Ents.mono {S S' : Hp} (hS : Sub S S') {k v : T} : ∀ {xs : List (k.den × v.den)} {es : List MapEntry}, Ents S k v xs es → Ents S' k v xs es
  | [], _, e => e
  | _ :: _, _, ⟨e, es', e1, h1, h2, h3⟩ => ⟨e, es', e1, h1.mono hS, h2.mono hS, Ents.mono hS h3⟩

theorem MpRel.mono {h h' S S' : Hp} (hS : Sub S S') {k v : T} {x : Option (List (k.den × v.den))} {u : Value} {o : List Nat} (ho : ∀ b ∈ o, h' b = h b) (hx : MpRel h S k v x u o) : MpRel h' S' k v x u o := by
  rcases hx with hx | ⟨xs, b, es, cl, e, e1, e2, h1, h2, h3⟩
  · exact .inl hx
  · exact .inr ⟨xs, b, es, cl, e, e1, e2, by rw [ho b (by simp [e1])]; exact h1, h2.mono hS, h3⟩

theorem MpRel.one {h S : Hp} {k v : T} {x : Option (List (k.den × v.den))} {u : Value} {o : List Nat} (hx : MpRel h S k v x u o) : u.oneCell' = true := by
  rcases hx with ⟨_, e, _⟩ | ⟨xs, b, es, cl, e, e1, e2, _⟩
  · rw [e]; rfl
  · rw [e2]; rfl

theorem MpRel.obj {h S : Hp} {k v : T} {x : Option (List (k.den × v.den))} {u : Value} {o : List Nat} (hx : MpRel h S k v x u o) : ∀ b ∈ o, ∃ ob, h b = some ob ∧ ∀ l, ob ≠ .deferred l := by
  intro b hb
  rcases hx with ⟨_, _, e⟩ | ⟨xs, b', es, cl, e, e1, e2, h1, _⟩
  · rw [e] at hb; cases hb
  · rw [e1] at hb; simp at hb; subst hb; exact ⟨_, h1, fun l h => by cases h⟩

/-- cells stand for x; bs are the blocks that x owns -/
def RdO (m : Nat × Nat) (h S : Hp) : (t : T) → t.den → List Value → List Nat → Prop
  | .pair a b, x, cs, bs => ∃ c1 c2 b1 b2, cs = c1 ++ c2 ∧ bs = b1 ++ b2 ∧ RdO m h S a x.1 c1 b1 ∧ RdO m h S b x.2 c2 b2
  | .own t, xs, cs, bs => ∃ v, cs = [v] ∧ RowRel h S t xs v bs
  | .int k, x, cs, bs => bs = [] ∧ Rd S (.int k) x cs
  | .bool, x, cs, bs => bs = [] ∧ Rd S .bool x cs
  | .str, x, cs, bs => bs = [] ∧ Rd S .str x cs
  | .opq, x, cs, bs => bs = [] ∧ Rd S .opq x cs
  | .unit, x, cs, bs => bs = [] ∧ Rd S .unit x cs
  | .arr n t, x, cs, bs => bs = [] ∧ Rd S (.arr n t) x cs
  | .sl t, x, cs, bs => bs = [] ∧ Rd S (.sl t) x cs
  | .ptr t, x, cs, bs => bs = [] ∧ Rd S (.ptr t) x cs
  | .any, x, cs, bs => bs = [] ∧ Rd S .any x cs
  | .byt q, x, cs, bs => bs = [] ∧ Rd S (.byt q) x cs
  | .self ty, _, cs, bs => bs = [] ∧ ∃ v, cs = [v] ∧ m.2 = ty ∧ (v = .pointer none ∨ v = .pointer (some ⟨m.1, 0, none⟩))
  | .fn f t, x, cs, bs => bs = [] ∧ Rd S (.fn f t) x cs
  | .ifc ty t, x, cs, bs => bs = [] ∧ Rd S (.ifc ty t) x cs
  | .mp k v, x, cs, bs => ∃ u, cs = [u] ∧ MpRel h S k v x u bs
  | .nb t, x, cs, bs => (x = none ∧ cs = [.pointer none] ∧ bs = []) ∨ ∃ y b cs' E fr bs', x = some y ∧ cs = [.pointer (some ⟨b, 0, none⟩)] ∧ bs = b :: bs' ∧ h b = some (.cells cs' E fr) ∧ Free cs' fr ∧ RdO (b, E) h S t y cs'.toList bs'

/-- what may be a value of its own: an aggregate, or what owns a block -/
def ovT (t : T) : Bool := match t with
  | .own _ => true
  | .mp _ _ => true
  | .nb _ => true
  | t => t.isAgg

/-- value v stands for x; o are the blocks that it owns -/
def VRO (h S : Hp) (t : T) (x : t.den) (v : Value) (o : List Nat) : Prop :=
  if t.isAgg then ∃ cs, v = .agg cs ∧ RdO (0, 0) h S t x cs.toList o else RdO (0, 0) h S t x [v] o

def OTup (h S : Hp) : List Dat → List Value → List Nat → Prop
  | [], vs, o => vs = [] ∧ o = []
  | d :: l, vs, o => ∃ v vs' o1 o2, vs = v :: vs' ∧ o = o1 ++ o2 ∧ VRO h S d.1 d.2 v o1 ∧ OTup h S l vs' o2

def ARel (h S : Hp) (tv : Nat → Value) : A → Value → List Nat → Prop
  | .v t x, v, o => VR S t x v ∧ o = []
  | .row t xs, v, o => RowRel h S t xs v o
  | .box t x, v, o => ∃ b cs E fr bs, o = b :: bs ∧ v = .pointer (some ⟨b, 0, none⟩) ∧ h b = some (.cells cs E fr) ∧ Free cs fr ∧ RdO (b, E) h S t x cs.toList bs
  | .iter s pos, v, o => ∃ b sp, o = [b] ∧ v = .pointer (some ⟨b, 0, sp⟩) ∧ h b = some (.stringIter ⟨⟨s⟩⟩ pos)
  | .bor r, v, o => v = tv r ∧ o = []
  | .adr r t p, v, o => o = [] ∧ ∃ b, blockOf (tv r) = some b ∧ v = .pointer (some ⟨b, offOf t p, none⟩)
  | .cel r k _, v, o => o = [] ∧ ∃ b cs E fr, blockOf (tv r) = some b ∧ h b = some (.cells cs E fr) ∧ cs[k]? = some v
  | .clo f rs, v, o => o = [] ∧ ∃ l : Array Value, v = .func (.func f) #[] l ∧ l.toList = rs.map tv
  | .yld, v, o => o = [] ∧ blockOf v = none
  | .ov t x, v, o => ovT t = true ∧ VRO h S t x v o
  | .otup l, v, o => ∃ vs, v = .tuple vs ∧ OTup h S l vs.toList o
  | .pel r n _ u q, v, o => o = [] ∧ ∃ b cs E fr b' len cap, blockOf (tv r) = some b ∧ h b = some (.cells cs E fr) ∧ cs[n]? = some (.slice (some ⟨b', 0, none⟩) len cap) ∧ v = .pointer (some ⟨b', offOf (.arr 0 u) q, none⟩)
  | .psl r n _ u q lo hi, v, o => o = [] ∧ ∃ b cs E fr b' len cap, blockOf (tv r) = some b ∧ h b = some (.cells cs E fr) ∧ cs[n]? = some (.slice (some ⟨b', 0, none⟩) len cap) ∧ ∃ m t cap2 off, tyAt (.arr 0 u) q = some (.arr m t) ∧ lo ≤ hi ∧ hi ≤ m ∧ hi - lo ≤ cap2 ∧ (lo < hi → off = offOf (.arr 0 u) q + lo * t.size) ∧ v = .slice (some ⟨b', off, none⟩) (hi - lo) cap2
  | .tup l, v, o => o = [] ∧ ∃ vs, v = .tuple vs ∧ TupRel S l vs.toList
  | .nilsl, v, o => v = .slice none 0 0 ∧ o = []
  | .dead, _, o => o = []

theorem TupRel.mono {S S' : Hp} (h : Sub S S') {l : List Dat} {vs : List Value} (ht : TupRel S l vs) : TupRel S' l vs := by
  induction ht with
  | nil => exact .nil
  | cons hv _ ih => exact .cons (hv.mono h) ih

theorem RowRel.mono {h h' S S' : Hp} (hS : Sub S S') {t : T} {xs : List t.den} {v : Value} {o : List Nat} (ho : ∀ b ∈ o, h' b = h b) (hx : RowRel h S t xs v o) : RowRel h' S' t xs v o := by
  rcases hx with hx | ⟨b, cap, cs, E, fr, e, e1, e2, h1, h2, h3, h4⟩
  · exact .inl hx
  · exact .inr ⟨b, cap, cs, E, fr, e, e1, by rw [ho b (by simp [e])]; exact e2, h1, h2, h3, All.mono (Rd.mono hS t) _ _ h4.1, h4.2⟩

theorem RdO.mono {m : Nat × Nat} {h h' S S' : Hp} (hS : Sub S S') : ∀ (t : T) (x : t.den) (cs : List Value) (bs : List Nat), (∀ b ∈ bs, h' b = h b) → RdO m h S t x cs bs → RdO m h' S' t x cs bs
  | .pair a b, _, _, _, ho, ⟨c1, c2, b1, b2, e, e', h1, h2⟩ => ⟨c1, c2, b1, b2, e, e', RdO.mono hS a _ _ _ (fun k hk => ho k (by simp [e', hk])) h1, RdO.mono hS b _ _ _ (fun k hk => ho k (by simp [e', hk])) h2⟩
  | .own _, _, _, _, ho, ⟨v, e, hr⟩ => ⟨v, e, hr.mono hS ho⟩
  | .int _, _, _, _, _, ⟨e, hr⟩ => ⟨e, Rd.mono hS _ _ _ hr⟩
  | .bool, _, _, _, _, ⟨e, hr⟩ => ⟨e, Rd.mono hS _ _ _ hr⟩
  | .str, _, _, _, _, ⟨e, hr⟩ => ⟨e, Rd.mono hS _ _ _ hr⟩
  | .opq, _, _, _, _, ⟨e, hr⟩ => ⟨e, Rd.mono hS _ _ _ hr⟩
  | .unit, _, _, _, _, ⟨e, hr⟩ => ⟨e, Rd.mono hS _ _ _ hr⟩
  | .arr _ _, _, _, _, _, ⟨e, hr⟩ => ⟨e, Rd.mono hS _ _ _ hr⟩
  | .sl _, _, _, _, _, ⟨e, hr⟩ => ⟨e, Rd.mono hS _ _ _ hr⟩
  | .ptr _, _, _, _, _, ⟨e, hr⟩ => ⟨e, Rd.mono hS _ _ _ hr⟩
  | .any, _, _, _, _, ⟨e, hr⟩ => ⟨e, Rd.mono hS _ _ _ hr⟩
  | .byt _, _, _, _, _, ⟨e, hr⟩ => ⟨e, Rd.mono hS _ _ _ hr⟩
  | .self _, _, _, _, _, hr => hr
  | .fn _ _, _, _, _, _, ⟨e, hr⟩ => ⟨e, Rd.mono hS _ _ _ hr⟩
  | .ifc _ _, _, _, _, _, ⟨e, hr⟩ => ⟨e, Rd.mono hS _ _ _ hr⟩
  | .mp _ _, _, _, _, ho, ⟨u, e, hr⟩ => ⟨u, e, hr.mono hS ho⟩
  | .nb t, _, _, _, ho, hr => hr.imp id fun ⟨y, b, cs', E, fr, bs', e1, e2, e3, e4, e5, e6⟩ => ⟨y, b, cs', E, fr, bs', e1, e2, e3, by rw [ho b (by simp [e3])]; exact e4, e5, RdO.mono hS t _ _ _ (fun k hk => ho k (by simp [e3, hk])) e6⟩

theorem VRO.mono {h h' S S' : Hp} (hS : Sub S S') {t : T} {x : t.den} {v : Value} {o : List Nat} (ho : ∀ b ∈ o, h' b = h b) : VRO h S t x v o → VRO h' S' t x v o := by
  unfold VRO
  split
  · rintro ⟨cs, e, hr⟩; exact ⟨cs, e, hr.mono hS _ _ _ _ ho⟩
  · exact RdO.mono hS t x _ _ ho

theorem OTup.mono {h h' S S' : Hp} (hS : Sub S S') : ∀ {l : List Dat} {vs : List Value} {o : List Nat}, (∀ b ∈ o, h' b = h b) → OTup h S l vs o → OTup h' S' l vs o
  | [], _, _, _, e => e
  | d :: l, _, _, ho, ⟨v, vs', o1, o2, e1, e2, h1, h2⟩ => ⟨v, vs', o1, o2, e1, e2, h1.mono hS (fun k hk => ho k (by simp [e2, hk])), OTup.mono hS (fun k hk => ho k (by simp [e2, hk])) h2⟩

/-- what owns nothing -/
theorem RdO.of_rd {m : Nat × Nat} {h S : Hp} : ∀ (t : T) (x : t.den) (cs : List Value), Rd S t x cs → RdO m h S t x cs []
  | .pair a b, _, _, ⟨c1, c2, e, h1, h2⟩ => ⟨c1, c2, [], [], e, rfl, RdO.of_rd a _ _ h1, RdO.of_rd b _ _ h2⟩
  | .own _, _, _, e => e.elim
  | .self _, _, _, e => e.elim
  | .mp _ _, _, _, e => e.elim
  | .nb _, _, _, e => e.elim
  | .ifc _ _, _, _, hr => ⟨rfl, hr⟩
  | .int _, _, _, hr => ⟨rfl, hr⟩
  | .bool, _, _, hr => ⟨rfl, hr⟩
  | .str, _, _, hr => ⟨rfl, hr⟩
  | .opq, _, _, hr => ⟨rfl, hr⟩
  | .unit, _, _, hr => ⟨rfl, hr⟩
  | .arr _ _, _, _, hr => ⟨rfl, hr⟩
  | .sl _, _, _, hr => ⟨rfl, hr⟩
  | .ptr _, _, _, hr => ⟨rfl, hr⟩
  | .any, _, _, hr => ⟨rfl, hr⟩
  | .byt _, _, _, hr => ⟨rfl, hr⟩
  | .fn _ _, _, _, hr => ⟨rfl, hr⟩

/-- a type whose data own no blocks -/
def noOwn : T → Bool
  | .pair a b => and' (noOwn a) (noOwn b)
  | .own _ => false
  | .self _ => false
  | .mp _ _ => false
  | .nb _ => false
  | _ => true

theorem RdO.rd {m : Nat × Nat} {h S : Hp} : ∀ (t : T) (x : t.den) (cs : List Value) (bs : List Nat), noOwn t = true → RdO m h S t x cs bs → bs = [] ∧ Rd S t x cs
  | .pair a b, _, _, _, hn, ⟨c1, c2, b1, b2, e, e', h1, h2⟩ => by
    obtain ⟨n1, n2⟩ := and'_true hn
    obtain ⟨e1, r1⟩ := RdO.rd a _ _ _ n1 h1
    obtain ⟨e2, r2⟩ := RdO.rd b _ _ _ n2 h2
    exact ⟨by rw [e', e1, e2]; rfl, c1, c2, e, r1, r2⟩
  | .own _, _, _, _, hn, _ => by simp [noOwn] at hn
  | .self _, _, _, _, hn, _ => by simp [noOwn] at hn
  | .mp _ _, _, _, _, hn, _ => by simp [noOwn] at hn
  | .nb _, _, _, _, hn, _ => by simp [noOwn] at hn
  | .ifc _ _, _, _, _, _, hr => hr
  | .int _, _, _, _, _, hr => hr
  | .bool, _, _, _, _, hr => hr
  | .str, _, _, _, _, hr => hr
  | .opq, _, _, _, _, hr => hr
  | .unit, _, _, _, _, hr => hr
  | .arr _ _, _, _, _, _, hr => hr
  | .sl _, _, _, _, _, hr => hr
  | .ptr _, _, _, _, _, hr => hr
  | .any, _, _, _, _, hr => hr
  | .byt _, _, _, _, _, hr => hr
  | .fn _ _, _, _, _, _, hr => hr

theorem RowRel.one {h S : Hp} {t : T} {xs : List t.den} {v : Value} {o : List Nat} (hx : RowRel h S t xs v o) : v.oneCell' = true := by
  rcases hx with ⟨_, ⟨_, e, _⟩, _⟩ | ⟨b, cap, cs, E, fr, e, e1, _⟩
  · rw [e]; rfl
  · rw [e1]; rfl

theorem RdO.length {m : Nat × Nat} {h S : Hp} : ∀ (t : T) (x : t.den) (cs : List Value) (bs : List Nat), RdO m h S t x cs bs → cs.length = t.size
  | .pair a b, _, _, _, ⟨c1, c2, b1, b2, e, e', h1, h2⟩ => by rw [e, List.length_append, RdO.length a _ _ _ h1, RdO.length b _ _ _ h2, T.size]
  | .own _, _, _, _, ⟨v, e, _⟩ => by simp [e, T.size]
  | .int _, _, _, _, hr => hr.2.length
  | .bool, _, _, _, hr => hr.2.length
  | .str, _, _, _, hr => hr.2.length
  | .opq, _, _, _, hr => hr.2.length
  | .unit, _, _, _, hr => hr.2.length
  | .arr _ _, _, _, _, hr => hr.2.length
  | .sl _, _, _, _, hr => hr.2.length
  | .ptr _, _, _, _, hr => hr.2.length
  | .any, _, _, _, hr => hr.2.length
  | .byt _, _, _, _, hr => hr.2.length
  | .self _, _, _, _, ⟨_, v, e, _⟩ => by simp [e, T.size]
  | .fn _ _, _, _, _, hr => hr.2.length
  | .ifc _ _, _, _, _, hr => hr.2.length
  | .mp _ _, _, _, _, ⟨u, e, _⟩ => by simp [e, T.size]
  | .nb _, _, _, _, hr => by rcases hr with ⟨_, e, _⟩ | ⟨_, _, _, _, _, _, _, e, _⟩ <;> simp [e, T.size]

theorem ARel.mono {h h' S S' : Hp} {tv tv' : Nat → Value} (hS : Sub S S') {x : A} {v : Value} {o : List Nat} (ho : ∀ b ∈ o, h' b = h b)
    (ht : ∀ r ∈ x.refs, tv' r = tv r) (hx : ARel h S tv x v o) (hc : ∀ r, x.cell = some r → ∀ b, blockOf (tv r) = some b → h' b = h b := by intro r hr; cases hr) : ARel h' S' tv' x v o := by
  cases x with
  | v t x => exact ⟨hx.1.mono hS, hx.2⟩
  | row t xs => exact RowRel.mono hS ho hx
  | box t x => obtain ⟨b, cs, E, fr, bs, e, e1, e2, h1, h2⟩ := hx; exact ⟨b, cs, E, fr, bs, e, e1, by rw [ho b (by simp [e])]; exact e2, h1, RdO.mono hS _ _ _ _ (fun k hk => ho k (by simp [e, hk])) h2⟩
  | iter s pos => obtain ⟨b, sp, e, e1, e2⟩ := hx; exact ⟨b, sp, e, e1, by rw [ho b (by simp [e])]; exact e2⟩
  | bor r => exact ⟨by rw [ht r (by simp [A.refs])]; exact hx.1, hx.2⟩
  | adr r t p => obtain ⟨e, b, e1, e2⟩ := hx; exact ⟨e, b, by rw [ht r (by simp [A.refs])]; exact e1, e2⟩
  | cel r k p => obtain ⟨e, b, cs, E, fr, e1, e2, e3⟩ := hx; exact ⟨e, b, cs, E, fr, by rw [ht r (by simp [A.refs])]; exact e1, by rw [hc r rfl b e1]; exact e2, e3⟩
  | clo f rs => obtain ⟨e, l, e1, e2⟩ := hx; exact ⟨e, l, e1, by rw [e2]; exact List.map_congr_left fun r hr => (ht r hr).symm⟩
  | yld => exact hx
  | ov t x => exact ⟨hx.1, hx.2.mono hS ho⟩
  | otup l => obtain ⟨vs, e, h1⟩ := hx; exact ⟨vs, e, h1.mono hS ho⟩
  | pel r n p u q => obtain ⟨e, b, cs, E, fr, b', len, cap, e1, e2, e3⟩ := hx; exact ⟨e, b, cs, E, fr, b', len, cap, by rw [ht r (by simp [A.refs])]; exact e1, by rw [hc r rfl b e1]; exact e2, e3⟩
  | psl r n p u q lo hi => obtain ⟨e, b, cs, E, fr, b', len, cap, e1, e2, e3⟩ := hx; exact ⟨e, b, cs, E, fr, b', len, cap, by rw [ht r (by simp [A.refs])]; exact e1, by rw [hc r rfl b e1]; exact e2, e3⟩
  | tup l => obtain ⟨e, vs, e1, e2⟩ := hx; exact ⟨e, vs, e1, e2.mono hS⟩
  | nilsl => exact hx
  | dead => exact hx

theorem ARel.nil_of_not_own {h S : Hp} {tv : Nat → Value} {x : A} {v : Value} {o : List Nat} (hx : ARel h S tv x v o) (hn : x.own = false) : o = [] := by
  cases x <;> simp [A.own] at hn <;> simp [ARel] at hx <;> simp_all

/-- what stays the same while a function runs -/
structure Ctx where
  w0 : World
  S0 : Hp
  B0 : Nat → Prop
  lent : List (Nat × Value)

structure WF (w0 : World) (B0 : Nat → Prop) (w : World) : Prop where
  size : w0.heap.size ≤ w.heap.size
  same : ∀ b, b < w0.heap.size → ¬ B0 b → w.heap[b]? = w0.heap[b]?
  tape : w.tape = w0.tape
  os : w.os = w0.os
  output : w.output = w0.output

theorem WF.refl (w : World) (B : Nat → Prop) : WF w B w := ⟨Nat.le_refl _, fun _ _ _ => rfl, rfl, rfl, rfl⟩

theorem WF.trans {w0 w1 w2 : World} {B0 B1 : Nat → Prop} (h : WF w0 B0 w1) (h' : WF w1 B1 w2) (hB : ∀ b, B1 b → B0 b ∨ w0.heap.size ≤ b) : WF w0 B0 w2 :=
  ⟨Nat.le_trans h.size h'.size, fun b hb hn => by
      rw [h'.same b (Nat.lt_of_lt_of_le hb h.size) (fun hb1 => (hB b hb1).elim hn (fun hle => absurd hb (by omega))), h.same b hb hn],
    h'.tape.trans h.tape, h'.os.trans h.os, h'.output.trans h.output⟩

def tv (a : Act) : Nat → Value := fun i => a.tmps.getD i undef

def markOf (D : Nat) : Deferred := { target := .collected D, args := #[] }

/-- the marks that loops over functions have left: each names a block of its own, which holds no calls -/
def Marks (c : Ctx) (ds : List Deferred) (w : World) (S : Hp) (ob : Nat → List Nat) : Prop :=
  ∃ Ds : List Nat, ds = Ds.map markOf ∧ Ds.Nodup ∧ ∀ D ∈ Ds, hp w D = some (.deferred (some [])) ∧ S D = none ∧ (∀ i, D ∉ ob i) ∧ (c.B0 D ∨ c.w0.heap.size ≤ D)

theorem Marks.turn {c : Ctx} {ds : List Deferred} {w w' : World} {S S' : Hp} {ob ob' : Nat → List Nat} (h : Marks c ds w S ob)
    (hk : ∀ D, hp w D = some (.deferred (some [])) → S D = none → (∀ i, D ∉ ob i) → (c.B0 D ∨ c.w0.heap.size ≤ D) → hp w' D = some (.deferred (some [])) ∧ S' D = none ∧ ∀ i, D ∉ ob' i) : Marks c ds w' S' ob' := by
  obtain ⟨Ds, e, hn, hD⟩ := h
  refine ⟨Ds, e, hn, fun D hm => ?_⟩
  obtain ⟨h1, h2, h3, h4⟩ := hD D hm
  obtain ⟨k1, k2, k3⟩ := hk D h1 h2 h3 h4
  exact ⟨k1, k2, k3, h4⟩

structure SimD (c : Ctx) (st : List A) (a : Act) (w : World) (S : Hp) (ob : Nat → List Nat) : Prop where
  defers : Marks c a.defers w S ob
  size : a.tmps.size = st.length
  rel : ∀ (i : Nat) (x : A), st[i]? = some x → ARel (hp w) S (tv a) x (tv a i) (ob i)
  refs : ∀ (i : Nat) (x : A) (r : Nat), st[i]? = some x → r ∈ x.refs → ∃ y : A, st[r]? = some y ∧ y.own = true
  out : ∀ i, st.length ≤ i → ob i = []
  inj : ∀ i j b, b ∈ ob i → b ∈ ob j → i = j
  nd : ∀ i, (ob i).Nodup
  hid : ∀ i b, b ∈ ob i → S b = none
  sub : Sub S (hp w)
  mono : Sub c.S0 S
  fresh : ∀ i b, b ∈ ob i → c.B0 b ∨ c.w0.heap.size ≤ b
  newS : ∀ b, S b ≠ none → c.S0 b ≠ none ∨ c.B0 b ∨ c.w0.heap.size ≤ b
  lent : ∀ p ∈ c.lent, tv a p.1 = p.2
  frame : WF c.w0 c.B0 w

def Sim (c : Ctx) (st : List A) (a : Act) (w : World) : Prop := ∃ S ob, SimD c st a w S ob

/-! ### what an owner's blocks are -/

theorem RdO.obj {m : Nat × Nat} {h S : Hp} : ∀ (t : T) (x : t.den) (cs : List Value) (bs : List Nat), RdO m h S t x cs bs → ∀ b ∈ bs, ∃ o, h b = some o ∧ ∀ l, o ≠ .deferred l
  | .pair a b, _, _, _, ⟨c1, c2, b1, b2, e, e', h1, h2⟩, k, hk => by
    rw [e', List.mem_append] at hk
    exact hk.elim (RdO.obj a _ _ _ h1 k) (RdO.obj b _ _ _ h2 k)
  | .own _, _, _, _, ⟨v, e, hr⟩, k, hk => by
    rcases hr with ⟨_, _, e⟩ | ⟨b, cap, cs, E, fr, e, e1, e2, _⟩
    · rw [e] at hk; cases hk
    · rw [e] at hk; simp at hk; subst hk; exact ⟨_, e2, fun l h => by cases h⟩
  | .int _, _, _, _, hr, k, hk => by rw [hr.1] at hk; cases hk
  | .bool, _, _, _, hr, k, hk => by rw [hr.1] at hk; cases hk
  | .str, _, _, _, hr, k, hk => by rw [hr.1] at hk; cases hk
  | .opq, _, _, _, hr, k, hk => by rw [hr.1] at hk; cases hk
  | .unit, _, _, _, hr, k, hk => by rw [hr.1] at hk; cases hk
  | .arr _ _, _, _, _, hr, k, hk => by rw [hr.1] at hk; cases hk
  | .sl _, _, _, _, hr, k, hk => by rw [hr.1] at hk; cases hk
  | .ptr _, _, _, _, hr, k, hk => by rw [hr.1] at hk; cases hk
  | .any, _, _, _, hr, k, hk => by rw [hr.1] at hk; cases hk
  | .byt _, _, _, _, hr, k, hk => by rw [hr.1] at hk; cases hk
  | .self _, _, _, _, hr, k, hk => by rw [hr.1] at hk; cases hk
  | .fn _ _, _, _, _, hr, k, hk => by rw [hr.1] at hk; cases hk
  | .ifc _ _, _, _, _, hr, k, hk => by rw [hr.1] at hk; cases hk
  | .mp _ _, _, _, _, ⟨_, _, hr⟩, k, hk => hr.obj k hk
  | .nb t, _, _, _, hr, k, hk => by
    rcases hr with ⟨_, _, e⟩ | ⟨y, b, cs', E, fr, bs', e1, e2, e3, e4, e5, e6⟩
    · rw [e] at hk; cases hk
    · rw [e3] at hk
      rcases List.mem_cons.1 hk with rfl | hk
      · exact ⟨_, e4, fun l h => by cases h⟩
      · exact RdO.obj t _ _ _ e6 k hk

theorem VRO.obj {h S : Hp} {t : T} {x : t.den} {v : Value} {o : List Nat} (hx : VRO h S t x v o) : ∀ b ∈ o, ∃ ob, h b = some ob ∧ ∀ l, ob ≠ .deferred l := by
  unfold VRO at hx
  split at hx
  · obtain ⟨_, _, hr⟩ := hx; exact hr.obj _ _ _ _
  · exact hx.obj _ _ _ _

theorem OTup.obj {h S : Hp} : ∀ {l : List Dat} {vs : List Value} {o : List Nat}, OTup h S l vs o → ∀ b ∈ o, ∃ ob, h b = some ob ∧ ∀ l, ob ≠ .deferred l
  | [], _, _, ⟨_, e⟩, b, hb => by rw [e] at hb; cases hb
  | _ :: _, _, _, ⟨_, _, _, _, _, e2, h1, h2⟩, b, hb => by
    rw [e2, List.mem_append] at hb
    exact hb.elim (h1.obj b) (OTup.obj h2 b)

theorem ARel.obj {h S : Hp} {tv : Nat → Value} {x : A} {v : Value} {o : List Nat} (hx : ARel h S tv x v o) : ∀ b ∈ o, ∃ ob, h b = some ob ∧ ∀ l, ob ≠ .deferred l := by
  intro b hb
  cases x with
  | row t xs =>
    rcases hx with ⟨_, _, e⟩ | ⟨b', cap, cs, E, fr, e, e1, e2, _⟩
    · rw [e] at hb; cases hb
    · rw [e] at hb; simp at hb; subst hb; exact ⟨_, e2, fun l h => by cases h⟩
  | box t x =>
    obtain ⟨b', cs, E, fr, bs, e, e1, e2, h1, h2⟩ := hx
    rw [e] at hb
    rcases List.mem_cons.1 hb with rfl | hb
    · exact ⟨_, e2, fun l h => by cases h⟩
    · exact h2.obj _ _ _ _ b hb
  | iter s pos => obtain ⟨b', sp, e, e1, e2⟩ := hx; rw [e] at hb; simp at hb; subst hb; exact ⟨_, e2, fun l h => by cases h⟩
  | yld => rw [hx.1] at hb; cases hb
  | ov t x => exact hx.2.obj b hb
  | otup l => obtain ⟨vs, e, h1⟩ := hx; exact h1.obj b hb
  | _ => have := hx.nil_of_not_own rfl; rw [this] at hb; cases hb

/-- the block that an owner's value names is its own -/
theorem ARel.main {h S : Hp} {tv : Nat → Value} {x : A} {v : Value} {o : List Nat} (hx : ARel h S tv x v o) (ho : x.own = true) {b : Nat} (hb : blockOf v = some b) : b ∈ o := by
  cases x <;> simp [A.own] at ho
  case row t xs =>
    rcases hx with ⟨_, ⟨ad, e, _⟩, _⟩ | ⟨b', cap, cs, E, fr, e, e1, e2, _⟩
    · rw [e] at hb; unfold blockOf at hb; split at hb <;> first | (rename_i h; cases h) | cases hb
    · rw [e1] at hb
      cases cap with
      | zero => simp [blockOf] at hb
      | succ n => simp [blockOf] at hb; subst hb; simp [e]
  case box t x => obtain ⟨b', cs, E, fr, bs, e, e1, e2, h1, h2⟩ := hx; rw [e1] at hb; simp [blockOf] at hb; subst hb; simp [e]
  case iter s pos =>
    obtain ⟨b', sp, e, e1, e2⟩ := hx
    rw [e1] at hb
    cases sp with
    | none => simp [blockOf] at hb; subst hb; simp [e]
    | some k => simp [blockOf] at hb
  case yld => rw [hx.2] at hb; cases hb
  case otup l => obtain ⟨vs, e, _⟩ := hx; rw [e] at hb; simp [blockOf] at hb
  case ov t x =>
    obtain ⟨ht, hx⟩ := hx
    unfold VRO at hx
    split at hx
    · obtain ⟨cs, e, _⟩ := hx; rw [e] at hb; simp [blockOf] at hb
    · rename_i hna
      cases t <;> simp [ovT, hna] at ht <;> (try (simp [T.isAgg] at ht hna))
      case own u =>
        obtain ⟨v', e, hr⟩ := hx
        cases e
        rcases hr with ⟨_, ⟨ad, e, _⟩, _⟩ | ⟨b', cap, cs, E, fr, e, e1, e2, _⟩
        · rw [e] at hb; unfold blockOf at hb; split at hb <;> first | (rename_i h; cases h) | cases hb
        · rw [e1] at hb
          cases cap with
          | zero => simp [blockOf] at hb
          | succ n => simp [blockOf] at hb; subst hb; simp [e]
      case mp k v' =>
        obtain ⟨v', e, hr⟩ := hx
        cases e
        rcases hr with ⟨_, e, _⟩ | ⟨xs, b', es, cl, e, e1, e2, _⟩
        · rw [e] at hb; simp [blockOf] at hb
        · rw [e2] at hb; simp [blockOf] at hb
      case nb u =>
        rcases hx with ⟨_, e, _⟩ | ⟨y, b', cs', E, fr, bs', e1, e2, e3, _⟩
        · cases e; simp [blockOf] at hb
        · cases e2; simp [blockOf] at hb; subst hb; simp [e3]

theorem SimD.main {c : Ctx} {st : List A} {a : Act} {w : World} {S : Hp} {ob : Nat → List Nat} (h : SimD c st a w S ob) {i r b : Nat} {x : A} (hi : st[i]? = some x) (hr : r ∈ x.refs) (hb : blockOf (tv a r) = some b) : b ∈ ob r := by
  obtain ⟨y, hy, ho⟩ := h.refs i x r hi hr
  exact (h.rel r y hy).main ho hb

def killA (r : Nat) (x : A) : A := match x with
  | .bor s => bif s == r then .dead else x
  | .adr s _ _ => bif s == r then .dead else x
  | .cel s _ _ => bif s == r then .dead else x
  | .pel s _ _ _ _ => bif s == r then .dead else x
  | .psl s _ _ _ _ _ _ => bif s == r then .dead else x
  | .clo _ rs => bif rs.contains r then .dead else x
  | _ => x

/-- x is laid in temporary t; if t owned a block, what refers to it is struck -/
def setSt (st : List A) (t : Nat) (x : A) : List A :=
  match st.getD t .dead with
  | .row .. | .box .. | .iter .. | .yld | .ov .. | .otup .. => (st.map (killA t)).set t x
  | _ => st.set t x

def killC (r : Nat) (x : A) : A := match x with
  | .cel s _ _ => bif s == r then .dead else x
  | .pel s _ _ _ _ => bif s == r then .dead else x
  | .psl s _ _ _ _ _ _ => bif s == r then .dead else x
  | _ => x

/-- the content of r's block turns -/
def contSt (st : List A) (r : Nat) (x : A) : List A := (st.map (killC r)).set r x

theorem killA_cases (r : Nat) (x : A) : (killA r x = x ∧ r ∉ x.refs) ∨ (killA r x = .dead ∧ r ∈ x.refs) := by
  cases x <;> simp only [killA, A.refs]
  case bor s =>
    cases h : s == r
    · exact .inl ⟨rfl, by simpa using fun e => by simp [e] at h⟩
    · exact .inr ⟨rfl, by simp at h; simp [h]⟩
  case adr s t p =>
    cases h : s == r
    · exact .inl ⟨rfl, by simpa using fun e => by simp [e] at h⟩
    · exact .inr ⟨rfl, by simp at h; simp [h]⟩
  case cel s t p =>
    cases h : s == r
    · exact .inl ⟨rfl, by simpa using fun e => by simp [e] at h⟩
    · exact .inr ⟨rfl, by simp at h; simp [h]⟩
  case pel s n p u q =>
    cases h : s == r
    · exact .inl ⟨rfl, by simpa using fun e => by simp [e] at h⟩
    · exact .inr ⟨rfl, by simp at h; simp [h]⟩
  case psl s n p u q lo hi =>
    cases h : s == r
    · exact .inl ⟨rfl, by simpa using fun e => by simp [e] at h⟩
    · exact .inr ⟨rfl, by simp at h; simp [h]⟩
  case clo f rs =>
    cases h : rs.contains r
    · exact .inl ⟨rfl, by simpa using h⟩
    · exact .inr ⟨rfl, by simpa using h⟩
  all_goals simp

theorem killC_cases (r : Nat) (x : A) : (killC r x = x ∧ x.cell ≠ some r) ∨ (killC r x = .dead ∧ x.cell = some r ∧ x.own = false) := by
  cases x <;> simp only [killC, A.cell, A.own]
  case cel s t p =>
    cases h : s == r
    · exact .inl ⟨rfl, by simpa using h⟩
    · exact .inr ⟨rfl, by simpa using h, trivial⟩
  case pel s n p u q =>
    cases h : s == r
    · exact .inl ⟨rfl, by simpa using h⟩
    · exact .inr ⟨rfl, by simpa using h, trivial⟩
  case psl s n p u q lo hi =>
    cases h : s == r
    · exact .inl ⟨rfl, by simpa using h⟩
    · exact .inr ⟨rfl, by simpa using h, trivial⟩
  all_goals simp

theorem killC_own (r : Nat) (x : A) : (killC r x).own = x.own := by
  rcases killC_cases r x with ⟨e, _⟩ | ⟨e, _, h⟩
  · rw [e]
  · rw [e, h]; rfl

theorem setSt_length (st : List A) (t : Nat) (x : A) : (setSt st t x).length = st.length := by
  unfold setSt; split <;> simp

theorem contSt_length (st : List A) (t : Nat) (x : A) : (contSt st t x).length = st.length := by simp [contSt]

theorem setSt_at (st : List A) (t : Nat) (x : A) (ht : t < st.length) : (setSt st t x)[t]? = some x := by
  unfold setSt; split <;> simp [ht]

theorem contSt_at (st : List A) (t : Nat) (x : A) (ht : t < st.length) : (contSt st t x)[t]? = some x := by simp [contSt, ht]

theorem contSt_other {st : List A} {r : Nat} {x y : A} {i : Nat} (hi : i ≠ r) (h : (contSt st r x)[i]? = some y) : (st[i]? = some y ∧ y.cell ≠ some r) ∨ (y = .dead ∧ ∃ z, st[i]? = some z ∧ z.own = false) := by
  rw [contSt, List.getElem?_set_ne (Ne.symm hi), List.getElem?_map] at h
  cases hz : st[i]? with
  | none => simp [hz] at h
  | some z =>
    simp [hz] at h
    rcases killC_cases r z with ⟨e, hr⟩ | ⟨e, hr, ho⟩
    · rw [e] at h; subst h; exact .inl ⟨rfl, hr⟩
    · rw [e] at h; subst h; exact .inr ⟨rfl, z, rfl, ho⟩

/-- another temporary, behind setSt: as it was and not referring to t, or struck -/
theorem setSt_other {st : List A} {t : Nat} {x y : A} {i : Nat} (hi : i ≠ t) (hrefs : ∀ (i : Nat) (x : A) (r : Nat), st[i]? = some x → r ∈ x.refs → ∃ y : A, st[r]? = some y ∧ y.own = true)
    (h : (setSt st t x)[i]? = some y) : (st[i]? = some y ∧ t ∉ y.refs) ∨ (y = .dead ∧ ∃ z, st[i]? = some z ∧ z.own = false) := by
  have hcase : (((st.map (killA t)).set t x)[i]? = some y → (st[i]? = some y ∧ t ∉ y.refs) ∨ (y = .dead ∧ ∃ z, st[i]? = some z ∧ z.own = false)) := by
    intro h
    rw [List.getElem?_set_ne (Ne.symm hi), List.getElem?_map] at h
    cases hz : st[i]? with
    | none => simp [hz] at h
    | some z =>
      simp [hz] at h
      rcases killA_cases t z with ⟨e, hr⟩ | ⟨e, hr⟩
      · rw [e] at h; subst h; exact .inl ⟨rfl, hr⟩
      · rw [e] at h; subst h
        exact .inr ⟨rfl, z, rfl, by cases z <;> simp [A.refs] at hr <;> rfl⟩
  unfold setSt at h
  split at h
  · exact hcase h
  · exact hcase h
  · exact hcase h
  · exact hcase h
  · exact hcase h
  · exact hcase h
  · rename_i h1 h2 h3 h4 h5 h6
    rw [List.getElem?_set_ne (Ne.symm hi)] at h
    refine .inl ⟨h, fun hr => ?_⟩
    obtain ⟨z, hz, ho⟩ := hrefs i y t h hr
    have hz' : st.getD t .dead = z := by simp [List.getD, hz]
    cases z <;> simp [A.own] at ho
    · exact h1 _ _ hz'
    · exact h2 _ _ hz'
    · exact h3 _ _ hz'
    · exact h4 hz'
    · exact h5 _ _ hz'
    · exact h6 _ hz'

theorem tv_put (a : Act) (t : Nat) (v : Value) (i : Nat) (ht : t < a.tmps.size) : tv (a.put (some t) v) i = if i = t then v else tv a i := by
  simp only [tv, Act.put, Array.getD_eq_getD_getElem?]
  by_cases h : i = t
  · subst h; simp [ht]
  · rw [if_neg h, Array.getElem?_setIfInBounds_ne (Ne.symm h)]

/-- A VALUE IS LAID -/
theorem SimD.put {c : Ctx} {st : List A} {a : Act} {w : World} {S : Hp} {ob : Nat → List Nat} (h : SimD c st a w S ob) {t : Nat} {x : A} {v : Value} {o : List Nat}
    (ht : t < st.length) (hl : ∀ p ∈ c.lent, p.1 ≠ t) (hx : ARel (hp w) S (tv a) x v o) (hr : ∀ r ∈ x.refs, r ≠ t ∧ ∃ y, st[r]? = some y ∧ y.own = true)
    (ho : ∀ b ∈ o, (∀ i, i ≠ t → b ∉ ob i) ∧ S b = none ∧ (c.B0 b ∨ c.w0.heap.size ≤ b)) (hnd : o.Nodup) :
    SimD c (setSt st t x) (a.put (some t) v) w S (fun i => if i = t then o else ob i) := by
  have hsz := h.size
  have htv : ∀ i, tv (a.put (some t) v) i = if i = t then v else tv a i := fun i => tv_put a t v i (by omega)
  constructor
  · refine h.defers.turn fun D h1 h2 h3 h4 => ⟨h1, h2, fun i hi => ?_⟩
    split at hi
    · obtain ⟨o1, e1, hne⟩ := hx.obj D hi
      rw [h1] at e1; cases e1; exact hne _ rfl
    · exact h3 i hi
  · rw [setSt_length]; simpa [Act.put] using h.size
  · intro i y hy
    by_cases hi : i = t
    · subst hi
      rw [setSt_at _ _ _ ht] at hy
      simp at hy; subst hy
      simp only [htv, if_true]
      exact hx.mono (Sub.refl _) (fun _ _ => rfl) (fun r hr' => by rw [htv, if_neg (hr r hr').1]) (fun _ _ _ _ => rfl)
    · simp only [htv, if_neg hi]
      rcases setSt_other hi h.refs hy with ⟨hy', hne⟩ | ⟨rfl, z, hz, hzo⟩
      · exact (h.rel i y hy').mono (Sub.refl _) (fun _ _ => rfl) (fun r hr' => by rw [htv, if_neg (fun e => hne (by rw [← e]; exact hr'))]) (fun _ _ _ _ => rfl)
      · exact (h.rel i z hz).nil_of_not_own hzo
  · intro i y r hy hyr
    have key : ∀ r, r ≠ t → (∃ z, st[r]? = some z ∧ z.own = true) → ∃ z, (setSt st t x)[r]? = some z ∧ z.own = true := by
      intro r hrt ⟨z, hz, hzo⟩
      have : ∃ u, (setSt st t x)[r]? = some u := by
        have : r < (setSt st t x).length := by
          rw [setSt_length]
          rcases Nat.lt_or_ge r st.length with hlt | hge
          · exact hlt
          · simp [List.getElem?_eq_none hge] at hz
        exact ⟨_, List.getElem?_eq_getElem this⟩
      obtain ⟨u, hu⟩ := this
      rcases setSt_other hrt h.refs hu with ⟨hu', _⟩ | ⟨_, z', hz', hzo'⟩
      · rw [hz] at hu'; simp at hu'; subst hu'; exact ⟨z, hu, hzo⟩
      · rw [hz] at hz'; simp at hz'; subst hz'; simp [hzo] at hzo'
    by_cases hi : i = t
    · subst hi
      rw [setSt_at _ _ _ ht] at hy
      simp at hy; subst hy
      exact key r (hr r hyr).1 (hr r hyr).2
    · rcases setSt_other hi h.refs hy with ⟨hy', hne⟩ | ⟨rfl, _⟩
      · exact key r (fun e => hne (by rw [← e]; exact hyr)) (h.refs i y r hy' hyr)
      · simp [A.refs] at hyr
  · intro i hi
    rw [setSt_length] at hi
    simp only [if_neg (show ¬ i = t by omega)]
    exact h.out i hi
  · intro i j b hi hj
    split at hi <;> split at hj
    · omega
    · rename_i e1 e2; exact absurd hj ((ho b hi).1 j e2)
    · rename_i e1 e2; exact absurd hi ((ho b hj).1 i e1)
    · exact h.inj i j b hi hj
  · intro i
    split
    · exact hnd
    · exact h.nd i
  · intro i b hi
    split at hi
    · exact (ho b hi).2.1
    · exact h.hid i b hi
  · exact h.sub
  · exact h.mono
  · intro i b hi
    split at hi
    · exact (ho b hi).2.2
    · exact h.fresh i b hi
  · exact h.newS
  · intro p hp'
    rw [htv, if_neg (hl p hp')]
    exact h.lent p hp'
  · exact h.frame

/-- the abstraction alone forgets what temporary t holds -/
theorem SimD.drop {c : Ctx} {st : List A} {a : Act} {w : World} {S : Hp} {ob : Nat → List Nat} (h : SimD c st a w S ob) {t : Nat} (ht : t < st.length) :
    SimD c (setSt st t .dead) a w S (fun i => if i = t then [] else ob i) := by
  constructor
  · refine h.defers.turn fun D h1 h2 h3 h4 => ⟨h1, h2, fun i hi => ?_⟩
    split at hi
    · cases hi
    · exact h3 i hi
  · rw [setSt_length]; exact h.size
  · intro i y hy
    by_cases hi : i = t
    · subst hi
      rw [setSt_at _ _ _ ht] at hy
      simp at hy; subst hy
      simp [ARel]
    · simp only [if_neg hi]
      rcases setSt_other hi h.refs hy with ⟨hy', hne⟩ | ⟨rfl, z, hz, hzo⟩
      · exact h.rel i y hy'
      · exact (h.rel i z hz).nil_of_not_own hzo
  · intro i y r hy hyr
    by_cases hi : i = t
    · subst hi
      rw [setSt_at _ _ _ ht] at hy
      simp at hy; subst hy
      simp [A.refs] at hyr
    · rcases setSt_other hi h.refs hy with ⟨hy', hne⟩ | ⟨rfl, _⟩
      · obtain ⟨z, hz, hzo⟩ := h.refs i y r hy' hyr
        have hrt : r ≠ t := fun e => hne (by rw [← e]; exact hyr)
        have : r < (setSt st t .dead).length := by
          rw [setSt_length]
          rcases Nat.lt_or_ge r st.length with hlt | hge
          · exact hlt
          · simp [List.getElem?_eq_none hge] at hz
        have hu := List.getElem?_eq_getElem this
        rcases setSt_other hrt h.refs hu with ⟨hu', _⟩ | ⟨_, z', hz', hzo'⟩
        · rw [hz] at hu'; simp at hu'; exact ⟨_, hu, by rw [← hu']; exact hzo⟩
        · rw [hz] at hz'; simp at hz'; subst hz'; simp [hzo] at hzo'
      · simp [A.refs] at hyr
  · intro i hi
    rw [setSt_length] at hi
    split
    · rfl
    · exact h.out i hi
  · intro i j b hi hj
    split at hi <;> split at hj
    · omega
    · cases hi
    · cases hj
    · exact h.inj i j b hi hj
  · intro i
    split
    · exact .nil
    · exact h.nd i
  · intro i b hi
    split at hi
    · cases hi
    · exact h.hid i b hi
  · exact h.sub
  · exact h.mono
  · intro i b hi
    split at hi
    · cases hi
    · exact h.fresh i b hi
  · exact h.newS
  · exact h.lent
  · exact h.frame

theorem ARel.cell_obj {h S : Hp} {tv : Nat → Value} {x : A} {v : Value} {o : List Nat} (hx : ARel h S tv x v o) {r : Nat} (hr : x.cell = some r) {b : Nat} (hb : blockOf (tv r) = some b) : ∃ ob, h b = some ob := by
  cases x <;> simp [A.cell] at hr
  case cel =>
    subst hr
    obtain ⟨_, b', cs, E, fr, e1, e2, _⟩ := hx
    rw [e1] at hb; simp at hb; subst hb
    exact ⟨_, e2⟩
  case pel =>
    subst hr
    obtain ⟨_, b', cs, E, fr, _, _, _, e1, e2, _⟩ := hx
    rw [e1] at hb; simp at hb; subst hb
    exact ⟨_, e2⟩
  case psl =>
    subst hr
    obtain ⟨_, b', cs, E, fr, _, _, _, e1, e2, _⟩ := hx
    rw [e1] at hb; simp at hb; subst hb
    exact ⟨_, e2⟩

theorem A.cell_refs {x : A} {r : Nat} (h : x.cell = some r) : r ∈ x.refs := by
  cases x <;> simp [A.cell] at h
  case cel => subst h; simp [A.refs]
  case pel => subst h; simp [A.refs]
  case psl => subst h; simp [A.refs]

/-- THE WORLD TURNS, but not what is read or owned -/
theorem SimD.world {c : Ctx} {st : List A} {a : Act} {w w' : World} {S : Hp} {ob : Nat → List Nat} (h : SimD c st a w S ob) (hs : Sub (hp w) (hp w')) (hf : WF c.w0 c.B0 w') :
    SimD c st a w' S ob := by
  refine ⟨h.defers.turn fun D h1 h2 h3 h4 => ⟨hs _ _ h1, h2, h3⟩, h.size, ?_, h.refs, h.out, h.inj, h.nd, h.hid, h.sub.trans hs, h.mono, h.fresh, h.newS, h.lent, hf⟩
  intro i x hx
  have hx' := h.rel i x hx
  refine hx'.mono (Sub.refl _) (fun b hb => ?_) (fun _ _ => rfl) (fun r hr b hb => ?_)
  · obtain ⟨o, ho, _⟩ := hx'.obj b hb
    rw [ho, hs b o ho]
  · obtain ⟨o, ho⟩ := hx'.cell_obj hr hb
    rw [ho, hs b o ho]

/-- THE CONTENT OF AN OWNED BLOCK TURNS; the owner may get and lose further blocks -/
theorem SimD.content' {c : Ctx} {st : List A} {a : Act} {w w' : World} {S : Hp} {ob : Nat → List Nat} (h : SimD c st a w S ob) {r b : Nat} {x : A} {o' : List Nat} (hr : r < st.length) (hb : b ∈ ob r)
    (hx : ARel (hp w') S (tv a) x (tv a r) o') (hxo : x.own = true) (hnd : o'.Nodup) (ho : ∀ k ∈ o', k ∈ ob r ∨ ((∀ i, k ∉ ob i) ∧ S k = none ∧ (c.B0 k ∨ c.w0.heap.size ≤ k)))
    (hsame : ∀ b', b' ≠ b → hp w' b' = hp w b') (hf : WF c.w0 c.B0 w') :
    SimD c (contSt st r x) a w' S (fun i => if i = r then o' else ob i) := by
  have hxr : x.refs = [] := by cases x <;> simp [A.own] at hxo <;> rfl
  have hown : ∀ k, k ∈ o' → ∀ i, i ≠ r → k ∉ ob i := fun k hk i hi hki => (ho k hk).elim (fun h1 => hi (h.inj i r k hki h1)) (fun h1 => h1.1 i hki)
  refine ⟨h.defers.turn fun D h1 h2 h3 h4 => ?_, by rw [contSt_length]; exact h.size, ?_, ?_, fun i hi => ?_, fun i j k hi hj => ?_, fun i => ?_, fun i k hi => ?_, ?_, h.mono, fun i k hi => ?_, h.newS, h.lent, hf⟩
  · have hDb : D ≠ b := fun e => h3 r (by rw [e]; exact hb)
    refine ⟨by rw [hsame D hDb]; exact h1, h2, fun i hi => ?_⟩
    split at hi
    · obtain ⟨o1, e1, hne⟩ := hx.obj D hi
      rw [hsame D hDb, h1] at e1; cases e1; exact hne _ rfl
    · exact h3 i hi
  · intro i y hy
    by_cases hi : i = r
    · subst hi
      rw [contSt_at _ _ _ hr] at hy; simp at hy; subst hy
      simp only [if_true]; exact hx
    · simp only [if_neg hi]
      rcases contSt_other hi hy with ⟨hy', hne⟩ | ⟨rfl, z, hz, hzo⟩
      · refine (h.rel i y hy').mono (Sub.refl _) (fun b' hb' => hsame b' ?_) (fun _ _ => rfl) (fun s hs b' hb' => hsame b' ?_)
        · intro e; subst e; exact hi (h.inj i r _ hb' hb)
        · intro e; subst e
          have := h.main hy' (A.cell_refs hs) hb'
          have := h.inj s r _ this hb
          subst this; exact hne hs
      · exact (h.rel i z hz).nil_of_not_own hzo
  · intro i y s hy hys
    have key : ∀ s : Nat, (∃ z : A, st[s]? = some z ∧ z.own = true) → ∃ z : A, (contSt st r x)[s]? = some z ∧ z.own = true := by
      intro s ⟨z, hz, hzo⟩
      by_cases hs : s = r
      · subst hs; exact ⟨x, contSt_at _ _ _ hr, hxo⟩
      · refine ⟨killC r z, by rw [contSt, List.getElem?_set_ne (Ne.symm hs), List.getElem?_map, hz]; rfl, by rw [killC_own]; exact hzo⟩
    by_cases hi : i = r
    · subst hi
      rw [contSt_at _ _ _ hr] at hy; simp at hy; subst hy
      rw [hxr] at hys; cases hys
    · rcases contSt_other hi hy with ⟨hy', _⟩ | ⟨rfl, _⟩
      · exact key s (h.refs i y s hy' hys)
      · simp [A.refs] at hys
  · rw [contSt_length] at hi
    simp only [if_neg (show ¬ i = r by omega)]
    exact h.out i hi
  · split at hi <;> split at hj
    · omega
    · rename_i e1 e2; exact absurd hj (hown k hi j e2)
    · rename_i e1 e2; exact absurd hi (hown k hj i e1)
    · exact h.inj i j k hi hj
  · split
    · exact hnd
    · exact h.nd i
  · split at hi
    · exact (ho k hi).elim (fun h1 => h.hid r k h1) (fun h1 => h1.2.1)
    · exact h.hid i k hi
  · intro b' o hbo
    rw [hsame b' (fun e => by subst e; rw [h.hid r _ hb] at hbo; simp at hbo)]
    exact h.sub b' o hbo
  · split at hi
    · exact (ho k hi).elim (fun h1 => h.fresh r k h1) (fun h1 => h1.2.2)
    · exact h.fresh i k hi

/-- the same, if no block turns -/
theorem SimD.content0 {c : Ctx} {st : List A} {a : Act} {w w' : World} {S : Hp} {ob : Nat → List Nat} (h : SimD c st a w S ob) {r : Nat} {x : A} {o' : List Nat} (hr : r < st.length)
    (hx : ARel (hp w') S (tv a) x (tv a r) o') (hxo : x.own = true) (hnd : o'.Nodup) (ho : ∀ k ∈ o', k ∈ ob r ∨ ((∀ i, k ∉ ob i) ∧ S k = none ∧ (c.B0 k ∨ c.w0.heap.size ≤ k)))
    (hsame : ∀ b', hp w' b' = hp w b') (hf : WF c.w0 c.B0 w') :
    SimD c (contSt st r x) a w' S (fun i => if i = r then o' else ob i) := by
  have hxr : x.refs = [] := by cases x <;> simp [A.own] at hxo <;> rfl
  have hown : ∀ k, k ∈ o' → ∀ i, i ≠ r → k ∉ ob i := fun k hk i hi hki => (ho k hk).elim (fun h1 => hi (h.inj i r k hki h1)) (fun h1 => h1.1 i hki)
  refine ⟨h.defers.turn fun D h1 h2 h3 h4 => ?_, by rw [contSt_length]; exact h.size, ?_, ?_, fun i hi => ?_, fun i j k hi hj => ?_, fun i => ?_, fun i k hi => ?_, ?_, h.mono, fun i k hi => ?_, h.newS, h.lent, hf⟩
  · refine ⟨by rw [hsame D]; exact h1, h2, fun i hi => ?_⟩
    split at hi
    · obtain ⟨o1, e1, hne⟩ := hx.obj D hi
      rw [hsame D, h1] at e1; cases e1; exact hne _ rfl
    · exact h3 i hi
  · intro i y hy
    by_cases hi : i = r
    · subst hi
      rw [contSt_at _ _ _ hr] at hy; simp at hy; subst hy
      simp only [if_true]; exact hx
    · simp only [if_neg hi]
      rcases contSt_other hi hy with ⟨hy', hne⟩ | ⟨rfl, z, hz, hzo⟩
      · exact (h.rel i y hy').mono (Sub.refl _) (fun b' hb' => hsame b') (fun _ _ => rfl) (fun s hs b' hb' => hsame b')
      · exact (h.rel i z hz).nil_of_not_own hzo
  · intro i y s hy hys
    have key : ∀ s : Nat, (∃ z : A, st[s]? = some z ∧ z.own = true) → ∃ z : A, (contSt st r x)[s]? = some z ∧ z.own = true := by
      intro s ⟨z, hz, hzo⟩
      by_cases hs : s = r
      · subst hs; exact ⟨x, contSt_at _ _ _ hr, hxo⟩
      · refine ⟨killC r z, by rw [contSt, List.getElem?_set_ne (Ne.symm hs), List.getElem?_map, hz]; rfl, by rw [killC_own]; exact hzo⟩
    by_cases hi : i = r
    · subst hi
      rw [contSt_at _ _ _ hr] at hy; simp at hy; subst hy
      rw [hxr] at hys; cases hys
    · rcases contSt_other hi hy with ⟨hy', _⟩ | ⟨rfl, _⟩
      · exact key s (h.refs i y s hy' hys)
      · simp [A.refs] at hys
  · rw [contSt_length] at hi
    simp only [if_neg (show ¬ i = r by omega)]
    exact h.out i hi
  · split at hi <;> split at hj
    · omega
    · rename_i e1 e2; exact absurd hj (hown k hi j e2)
    · rename_i e1 e2; exact absurd hi (hown k hj i e1)
    · exact h.inj i j k hi hj
  · split
    · exact hnd
    · exact h.nd i
  · split at hi
    · exact (ho k hi).elim (fun h1 => h.hid r k h1) (fun h1 => h1.2.1)
    · exact h.hid i k hi
  · intro b' o hbo
    rw [hsame b']
    exact h.sub b' o hbo
  · split at hi
    · exact (ho k hi).elim (fun h1 => h.fresh r k h1) (fun h1 => h1.2.2)
    · exact h.fresh i k hi

theorem SimD.content {c : Ctx} {st : List A} {a : Act} {w w' : World} {S : Hp} {ob : Nat → List Nat} (h : SimD c st a w S ob) {r b : Nat} {x : A} (hr : r < st.length) (hb : b ∈ ob r)
    (hx : ARel (hp w') S (tv a) x (tv a r) (ob r)) (hxo : x.own = true) (hsame : ∀ b', b' ≠ b → hp w' b' = hp w b') (hf : WF c.w0 c.B0 w') :
    SimD c (contSt st r x) a w' S ob := by
  have := h.content' hr hb hx hxo (h.nd r) (fun k hk => .inl hk) hsame hf
  have e : (fun i => if i = r then ob r else ob i) = ob := by funext i; split <;> simp_all
  rwa [e] at this

/-- blocks that nobody owns are read alone from now on -/
theorem SimD.share {c : Ctx} {st : List A} {a : Act} {w : World} {S : Hp} {ob : Nat → List Nat} (h : SimD c st a w S ob) (L : List Nat)
    (hL : ∀ k ∈ L, (∀ i, k ∉ ob i) ∧ S k = none ∧ (c.B0 k ∨ c.w0.heap.size ≤ k) ∧ ∃ o, hp w k = some o ∧ ∀ l, o ≠ .deferred l) :
    Sub S (fun b => if b ∈ L then hp w b else S b) ∧ SimD c st a w (fun b => if b ∈ L then hp w b else S b) ob := by
  have hSS : Sub S (fun b => if b ∈ L then hp w b else S b) := fun b o hbo => by
    dsimp only
    split
    · rename_i e; rw [(hL b e).2.1] at hbo; simp at hbo
    · exact hbo
  refine ⟨hSS, h.defers.turn fun D h1 h2 h3 h4 => ⟨h1, ?_, h3⟩, h.size, fun i x hx => (h.rel i x hx).mono hSS (fun _ _ => rfl) (fun _ _ => rfl) (fun _ _ _ _ => rfl), h.refs, h.out, h.inj, h.nd, fun i b hi => ?_, fun b o hbo => ?_, h.mono.trans hSS, h.fresh, fun b hb => ?_, h.lent, h.frame⟩
  · split
    · rename_i e
      obtain ⟨o, ho, hne⟩ := (hL D e).2.2.2
      rw [h1] at ho; cases ho; exact absurd rfl (hne _)
    · exact h2
  · split
    · rename_i e; exact absurd hi ((hL b e).1 i)
    · exact h.hid i b hi
  · split at hbo
    · exact hbo
    · exact h.sub b o hbo
  · split at hb
    · rename_i e; exact .inr (hL b e).2.2.1
    · exact h.newS b hb

/-- the type of what holds rows of its own, when they are given up -/
def frz : T → T
  | .own u => .sl u
  | .pair a b => .pair (frz a) (frz b)
  | .mp _ _ => .any
  | .nb _ => .any
  | t => t

def frzD : (t : T) → t.den → (frz t).den
  | .own _, x => x
  | .pair a b, x => (frzD a x.1, frzD b x.2)
  | .int _, x => x
  | .bool, x => x
  | .str, x => x
  | .opq, x => x
  | .unit, x => x
  | .arr _ _, x => x
  | .sl _, x => x
  | .ptr _, x => x
  | .self _, x => x
  | .any, x => x
  | .byt _, x => x
  | .fn _ _, x => x
  | .ifc _ _, x => x
  | .mp _ _, _ => ()
  | .nb _, _ => ()

/-- and when nothing is known of them any more -/
def fgt : T → T
  | .own _ => .any
  | .pair a b => .pair (fgt a) (fgt b)
  | .mp _ _ => .any
  | .nb _ => .any
  | t => t

def fgtD : (t : T) → t.den → (fgt t).den
  | .own _, _ => ()
  | .pair a b, x => (fgtD a x.1, fgtD b x.2)
  | .int _, x => x
  | .bool, x => x
  | .str, x => x
  | .opq, x => x
  | .unit, x => x
  | .arr _ _, x => x
  | .sl _, x => x
  | .ptr _, x => x
  | .self _, x => x
  | .any, x => x
  | .byt _, x => x
  | .fn _ _, x => x
  | .ifc _ _, x => x
  | .mp _ _, _ => ()
  | .nb _, _ => ()

def retA (r : Nat) (y x : A) : A := match x with
  | .bor s => bif s == r then y else x
  | .adr s _ _ => bif s == r then .dead else x
  | .cel s _ _ => bif s == r then .dead else x
  | .pel s _ _ _ _ => bif s == r then .dead else x
  | .psl s _ _ _ _ _ _ => bif s == r then .dead else x
  | .clo _ rs => bif rs.contains r then .dead else x
  | _ => x

def retOv : (t : T) → t.den → Option A
  | .nb _, none => some (.v .opq (.pointer none))
  | .nb _, some _ => none
  | t, y => match noOwn (frz t) with
    | true => some (.v (frz t) (frzD t y))
    | false => none

/-- a value that can be given up -/
def frzOk (t : T) : Bool := match t with
  | .nb _ => false
  | t => noOwn (frz t)

theorem retOv_frz {t : T} {y : t.den} (h : frzOk t = true) : retOv t y = some (.v (frz t) (frzD t y)) := by
  cases t <;> simp_all [frzOk, retOv]

/-- what an owner is from now on, if it is given up: read alone -/
def retV (x : A) : Option A := match x with
  | .row t xs => some (.v (.sl t) xs)
  | .box t y => (match noOwn t with
    | true => some (.v (.ptr t) y)
    | false => none)
  | .ov t y => retOv t y
  | _ => none

/-- an owner is given up: from now on it is read alone -/
def retSt (st : List A) (r : Nat) : List A :=
  match retV (st.getD r .dead) with
  | some y => (st.map (retA r y)).set r y
  | none => st

theorem retSt_length (st : List A) (r : Nat) : (retSt st r).length = st.length := by
  unfold retSt; split <;> simp

theorem RowRel.shared {h S S' : Hp} {t : T} {xs : List t.den} {v : Value} {o : List Nat} (hx : RowRel h S t xs v o) (hS : Sub S S') (ho : ∀ b ∈ o, S' b = h b) : VR S' (.sl t) xs v := by
  refine VR.of_one rfl ?_
  rcases hx with ⟨rfl, ⟨ad, rfl, _⟩, _⟩ | ⟨b, cap, cs, E, fr, e, rfl, e2, h1, h2, h3, h4⟩
  · exact ⟨ad, 0, rfl, by simp, .inl rfl⟩
  · refine ⟨some ⟨b, 0, none⟩, cap, rfl, h3, .inr ⟨b, 0, _, rfl, ⟨cs, E, fr, [], cs.toList.drop (xs.length * t.size), ?_, by simp, rfl⟩, All.mono (Rd.mono hS t) _ _ h4.1⟩⟩
    rw [ho b (by simp [e]), e2]

theorem RdO.frz {m : Nat × Nat} {h S S' : Hp} (hS : Sub S S') : ∀ (t : T) (x : t.den) (cs : List Value) (bs : List Nat), (∀ k ∈ bs, S' k = h k) → RdO m h S t x cs bs → RdO m h S' (frz t) (frzD t x) cs []
  | .own u, x, _, _, ho, ⟨v, e, hr⟩ => ⟨rfl, by
      have := RowRel.shared hr hS ho
      unfold VR at this
      rw [e]
      show Rd S' (.sl u) x [v]
      simpa [T.isAgg] using this⟩
  | .pair a b, x, _, _, ho, ⟨c1, c2, b1, b2, e, e', h1, h2⟩ =>
    ⟨c1, c2, [], [], e, rfl, RdO.frz hS a _ _ _ (fun k hk => ho k (by simp [e', hk])) h1, RdO.frz hS b _ _ _ (fun k hk => ho k (by simp [e', hk])) h2⟩
  | .int _, _, _, _, _, ⟨_, hr⟩ => ⟨rfl, Rd.mono hS _ _ _ hr⟩
  | .bool, _, _, _, _, ⟨_, hr⟩ => ⟨rfl, Rd.mono hS _ _ _ hr⟩
  | .str, _, _, _, _, ⟨_, hr⟩ => ⟨rfl, Rd.mono hS _ _ _ hr⟩
  | .opq, _, _, _, _, ⟨_, hr⟩ => ⟨rfl, Rd.mono hS _ _ _ hr⟩
  | .unit, _, _, _, _, ⟨_, hr⟩ => ⟨rfl, Rd.mono hS _ _ _ hr⟩
  | .arr _ _, _, _, _, _, ⟨_, hr⟩ => ⟨rfl, Rd.mono hS _ _ _ hr⟩
  | .sl _, _, _, _, _, ⟨_, hr⟩ => ⟨rfl, Rd.mono hS _ _ _ hr⟩
  | .ptr _, _, _, _, _, ⟨_, hr⟩ => ⟨rfl, Rd.mono hS _ _ _ hr⟩
  | .self _, _, _, _, _, ⟨_, hr⟩ => ⟨rfl, hr⟩
  | .any, _, _, _, _, ⟨_, hr⟩ => ⟨rfl, Rd.mono hS _ _ _ hr⟩
  | .byt _, _, _, _, _, ⟨_, hr⟩ => ⟨rfl, Rd.mono hS _ _ _ hr⟩
  | .fn _ _, _, _, _, _, ⟨_, hr⟩ => ⟨rfl, Rd.mono hS _ _ _ hr⟩
  | .ifc _ _, _, _, _, _, ⟨_, hr⟩ => ⟨rfl, Rd.mono hS _ _ _ hr⟩
  | .mp _ _, _, _, _, _, ⟨u, e, hr⟩ => ⟨rfl, u, e, hr.one⟩
  | .nb _, _, _, _, _, hr => ⟨rfl, by rcases hr with ⟨_, e, _⟩ | ⟨_, _, _, _, _, _, _, e, _⟩ <;> exact ⟨_, e, rfl⟩⟩

theorem RdO.fgt {m : Nat × Nat} {h S : Hp} : ∀ (t : T) (x : t.den) (cs : List Value) (bs : List Nat), RdO m h S t x cs bs → RdO m h S (fgt t) (fgtD t x) cs []
  | .own u, x, _, _, ⟨v, e, hr⟩ => ⟨rfl, v, e, hr.one⟩
  | .pair a b, x, _, _, ⟨c1, c2, b1, b2, e, e', h1, h2⟩ => ⟨c1, c2, [], [], e, rfl, RdO.fgt a _ _ _ h1, RdO.fgt b _ _ _ h2⟩
  | .int _, _, _, _, ⟨_, hr⟩ => ⟨rfl, hr⟩
  | .bool, _, _, _, ⟨_, hr⟩ => ⟨rfl, hr⟩
  | .str, _, _, _, ⟨_, hr⟩ => ⟨rfl, hr⟩
  | .opq, _, _, _, ⟨_, hr⟩ => ⟨rfl, hr⟩
  | .unit, _, _, _, ⟨_, hr⟩ => ⟨rfl, hr⟩
  | .arr _ _, _, _, _, ⟨_, hr⟩ => ⟨rfl, hr⟩
  | .sl _, _, _, _, ⟨_, hr⟩ => ⟨rfl, hr⟩
  | .ptr _, _, _, _, ⟨_, hr⟩ => ⟨rfl, hr⟩
  | .self _, _, _, _, ⟨_, hr⟩ => ⟨rfl, hr⟩
  | .any, _, _, _, ⟨_, hr⟩ => ⟨rfl, hr⟩
  | .byt _, _, _, _, ⟨_, hr⟩ => ⟨rfl, hr⟩
  | .fn _ _, _, _, _, ⟨_, hr⟩ => ⟨rfl, hr⟩
  | .ifc _ _, _, _, _, ⟨_, hr⟩ => ⟨rfl, hr⟩
  | .mp _ _, _, _, _, ⟨u, e, hr⟩ => ⟨rfl, u, e, hr.one⟩
  | .nb _, _, _, _, hr => ⟨rfl, by rcases hr with ⟨_, e, _⟩ | ⟨_, _, _, _, _, _, _, e, _⟩ <;> exact ⟨_, e, rfl⟩⟩

theorem frz_agg : ∀ (t : T), (frz t).isAgg = t.isAgg := by
  intro t; cases t <;> rfl

theorem ARel.row_shared {h S S' : Hp} {tv : Nat → Value} {t : T} {xs : List t.den} {v : Value} {o : List Nat} (hx : ARel h S tv (.row t xs) v o) (hS : Sub S S') (ho : ∀ b ∈ o, S' b = h b) :
    VR S' (.sl t) xs v := RowRel.shared hx hS ho

/-- an owner as a datum that is read alone -/
theorem ARel.shared {h S S' : Hp} {tv : Nat → Value} {x y : A} {v : Value} {o : List Nat} (hx : ARel h S tv x v o) (hS : Sub S S') (ho : ∀ b ∈ o, S' b = h b) (hy : retV x = some y) : ∃ t z, y = .v t z ∧ VR S' t z v := by
  cases x <;> simp [retV] at hy
  case row t xs => subst hy; exact ⟨_, _, rfl, RowRel.shared hx hS ho⟩
  case box t z =>
    split at hy
    · rename_i hn
      simp at hy; subst hy
      obtain ⟨b, cs, E, fr, bs, e, e1, e2, h1, h2⟩ := hx
      obtain ⟨_, hr⟩ := h2.rd _ _ _ _ hn
      subst e1
      exact ⟨_, _, rfl, VR.of_one rfl ⟨b, 0, cs.toList, rfl, ⟨cs, E, fr, [], [], by rw [ho b (by simp [e])]; exact e2, by simp, rfl⟩, hr.mono hS⟩⟩
    · cases hy
  case ov t z =>
    have key : noOwn (frz t) = true → ∃ t' z', A.v (frz t) (frzD t z) = .v t' z' ∧ VR S' t' z' v := fun hn => by
      refine ⟨_, _, rfl, ?_⟩
      obtain ⟨_, hx⟩ := hx
      unfold VRO at hx
      split at hx
      · rename_i hg
        obtain ⟨cs, e, hr⟩ := hx
        rw [e]
        exact VR.of_agg (by rw [frz_agg]; exact hg) ((hr.frz hS _ _ _ _ ho).rd _ _ _ _ hn).2
      · rename_i hg
        exact VR.of_one (by rw [frz_agg]; simpa using hg) ((hx.frz hS _ _ _ _ ho).rd _ _ _ _ hn).2
    unfold retOv at hy
    split at hy
    · simp at hy; subst hy
      obtain ⟨_, hx⟩ := hx
      unfold VRO at hx
      simp only [T.isAgg, Bool.false_eq_true, if_false] at hx
      rcases hx with ⟨_, e, _⟩ | ⟨_, _, _, _, _, _, e, _⟩
      · cases e; exact ⟨_, _, rfl, VR.of_one rfl ⟨rfl, rfl⟩⟩
      · cases e
    · cases hy
    · split at hy
      · rename_i hn
        simp at hy; subst hy
        exact key hn
      · cases hy

theorem SimD.retire {c : Ctx} {st : List A} {a : Act} {w : World} {S : Hp} {ob : Nat → List Nat} (h : SimD c st a w S ob) {r : Nat} {x y : A} (hr : st[r]? = some x) (hy : retV x = some y) :
    ∃ S' t z, Sub S S' ∧ y = .v t z ∧ VR S' t z (tv a r) ∧ SimD c (retSt st r) a w S' (fun i => if i = r then [] else ob i) := by
  have hlt : r < st.length := by
    rcases Nat.lt_or_ge r st.length with hlt | hge
    · exact hlt
    · simp [List.getElem?_eq_none hge] at hr
  have hx := h.rel r _ hr
  let S' : Hp := fun b => if b ∈ ob r then hp w b else S b
  have hSS : Sub S S' := fun b o hbo => by
    show (if b ∈ ob r then hp w b else S b) = some o
    split
    · rename_i e; rw [h.hid r b e] at hbo; simp at hbo
    · exact hbo
  obtain ⟨t, z, rfl, hv⟩ := hx.shared hSS (fun b e => by show (if b ∈ ob r then hp w b else S b) = _; rw [if_pos e]) hy
  have est : retSt st r = (st.map (retA r (.v t z))).set r (.v t z) := by
    unfold retSt
    have : st.getD r .dead = x := by simp [List.getD, hr]
    rw [this, hy]
  refine ⟨S', t, z, hSS, rfl, hv, ?_⟩
  have other : ∀ {i : Nat} {u : A}, i ≠ r → (retSt st r)[i]? = some u → (st[i]? = some u ∧ r ∉ u.refs) ∨ ((u = .dead ∨ (u = .v t z ∧ tv a i = tv a r)) ∧ ob i = []) := by
    intro i u hi hu
    rw [est, List.getElem?_set_ne (Ne.symm hi), List.getElem?_map] at hu
    cases hz : st[i]? with
    | none => simp [hz] at hu
    | some q =>
      simp [hz] at hu
      have hzr := h.rel i q hz
      cases q <;> simp only [retA] at hu <;> (try (subst hu; exact .inl ⟨rfl, by simp [A.refs]⟩))
      case bor s =>
        by_cases hs : s = r
        · subst hs; simp at hu; subst hu; exact .inr ⟨.inr ⟨rfl, hzr.1⟩, hzr.2⟩
        · rw [show (s == r) = false by simpa using hs] at hu
          simp at hu; subst hu; exact .inl ⟨rfl, by simpa [A.refs] using fun e => hs e.symm⟩
      case adr s t' p =>
        by_cases hs : s = r
        · subst hs; simp at hu; subst hu; exact .inr ⟨.inl rfl, hzr.1⟩
        · rw [show (s == r) = false by simpa using hs] at hu
          simp at hu; subst hu; exact .inl ⟨rfl, by simpa [A.refs] using fun e => hs e.symm⟩
      case cel s t' p =>
        by_cases hs : s = r
        · subst hs; simp at hu; subst hu; exact .inr ⟨.inl rfl, hzr.1⟩
        · rw [show (s == r) = false by simpa using hs] at hu
          simp at hu; subst hu; exact .inl ⟨rfl, by simpa [A.refs] using fun e => hs e.symm⟩
      case pel s n p u' q =>
        by_cases hs : s = r
        · subst hs; simp at hu; subst hu; exact .inr ⟨.inl rfl, hzr.1⟩
        · rw [show (s == r) = false by simpa using hs] at hu
          simp at hu; subst hu; exact .inl ⟨rfl, by simpa [A.refs] using fun e => hs e.symm⟩
      case psl s n p u' q lo hi =>
        by_cases hs : s = r
        · subst hs; simp at hu; subst hu; exact .inr ⟨.inl rfl, hzr.1⟩
        · rw [show (s == r) = false by simpa using hs] at hu
          simp at hu; subst hu; exact .inl ⟨rfl, by simpa [A.refs] using fun e => hs e.symm⟩
      case clo f rs =>
        cases hs : rs.contains r with
        | true => rw [hs] at hu; simp at hu; subst hu; exact .inr ⟨.inl rfl, hzr.1⟩
        | false => rw [hs] at hu; simp at hu; subst hu; exact .inl ⟨rfl, by simpa [A.refs] using hs⟩
  constructor
  · refine h.defers.turn fun D h1 h2 h3 h4 => ⟨h1, ?_, fun i hi => ?_⟩
    · show (if D ∈ ob r then hp w D else S D) = none
      rw [if_neg (h3 r)]; exact h2
    · split at hi
      · cases hi
      · exact h3 i hi
  · rw [retSt_length]; exact h.size
  · intro i u hu
    by_cases hi : i = r
    · subst hi
      rw [est] at hu; simp [hlt] at hu; subst hu
      exact ⟨hv, by simp⟩
    · simp only [if_neg hi]
      rcases other hi hu with ⟨hu', _⟩ | ⟨rfl | ⟨rfl, e⟩, hn⟩
      · exact (h.rel i u hu').mono hSS (fun _ _ => rfl) (fun _ _ => rfl) (fun _ _ _ _ => rfl)
      · exact hn
      · exact ⟨by rw [e]; exact hv, hn⟩
  · intro i u s hu hus
    by_cases hi : i = r
    · subst hi
      rw [est] at hu; simp [hlt] at hu; subst hu
      simp [A.refs] at hus
    · rcases other hi hu with ⟨hu', hne⟩ | ⟨rfl | ⟨rfl, _⟩, _⟩
      · obtain ⟨q, hz, hzo⟩ := h.refs i u s hu' hus
        have hsr : s ≠ r := fun e => hne (by rw [← e]; exact hus)
        refine ⟨retA r (.v t z) q, ?_, ?_⟩
        · rw [est, List.getElem?_set_ne (Ne.symm hsr), List.getElem?_map, hz]; rfl
        · cases q <;> simp [A.own] at hzo <;> rfl
      · simp [A.refs] at hus
      · simp [A.refs] at hus
  · intro i hi
    rw [retSt_length] at hi
    split
    · rfl
    · exact h.out i hi
  · intro i j b hi hj
    split at hi <;> split at hj
    · omega
    · cases hi
    · cases hj
    · exact h.inj i j b hi hj
  · intro i
    split
    · exact .nil
    · exact h.nd i
  · intro i b hi
    split at hi
    · cases hi
    · rename_i hne
      show (if b ∈ ob r then hp w b else S b) = none
      rw [if_neg (fun e => hne (h.inj i r b hi e))]
      exact h.hid i b hi
  · intro b o hbo
    change (if b ∈ ob r then hp w b else S b) = some o at hbo
    split at hbo
    · exact hbo
    · exact h.sub b o hbo
  · exact h.mono.trans hSS
  · intro i b hi
    split at hi
    · cases hi
    · exact h.fresh i b hi
  · intro b hb
    change (if b ∈ ob r then hp w b else S b) ≠ none at hb
    split at hb
    · rename_i e; exact .inr (h.fresh r b e)
    · exact h.newS b hb
  · exact h.lent
  · exact h.frame
end Go.Lift

/- The operations of the model, over what temporaries hold (LfC): small programs that read and lay temporaries, test, call. -/
set_option linter.all false
namespace Go.Lift

structure TyI where
  desc : TypeDesc
  size : Nat
  bytes : Nat
  t : T
  zero : t.den
  cmp : Bool

/-- what a call gives: a value of a plain type, if the callee ends; what the value stands for, and what the handed boxes hold then -/
structure Res where
  X : Type
  val : Option X
  out : X → A × List A

/-- what an iterator gives: tuples of data -/
structure ItRes where
  ts : List T
  val : Option (List (denL ts))

structure Env where
  ty : TypeId → Option TyI
  glob : Nat → Option Dat
  fn : FuncId → List A → Res
  keep : Nat → Option T
  live : List Nat
  lent : List Nat
  ownRes : Bool
  boxT : Nat → Option T
  it : FuncId → Dat → ItRes
  res : List T := []

structure FP where
  rd : List Nat
  wr : List Nat
  all : Bool

inductive Cmd (α : Type) where
  | ret (a : α)
  | fail
  | get (t : Nat) (k : A → Cmd α)
  | set (t : Nat) (x : A) (k : Cmd α)
  | cont (r : Nat) (x : A) (k : Cmd α)
  | retire (r : Nat) (k : Cmd α)
  | test (b : Bool) (x y : Cmd α)
  | call (f : FuncId) (args : List A) (k : A → List A → Cmd α)
  | guard (d : Nat) (x y z : Cmd α)

def owned (st : List A) (t : Nat) : Bool := match st.getD t .dead with
  | .row .. | .box .. | .iter .. | .yld | .ov .. | .otup .. => true
  | _ => false

def refOk (st : List A) (t : Nat) (x : A) : Bool := match x with
  | .bor r => and' (!(Nat.beq r t)) (owned st r)
  | .adr r _ _ => and' (!(Nat.beq r t)) (owned st r)
  | .cel r _ _ => and' (!(Nat.beq r t)) (owned st r)
  | .pel r _ _ _ _ => and' (!(Nat.beq r t)) (owned st r)
  | .psl r _ _ _ _ _ _ => and' (!(Nat.beq r t)) (owned st r)
  | .clo _ rs => rs.all fun r => and' (!(Nat.beq r t)) (owned st r)
  | _ => true

def refL (x : A) : List Nat := match x with
  | .bor r => [r]
  | .adr r _ _ => [r]
  | .cel r _ _ => [r]
  | .pel r _ _ _ _ => [r]
  | .psl r _ _ _ _ _ _ => [r]
  | .clo _ rs => rs
  | _ => []

def celL (x : A) : List Nat := match x with
  | .cel r _ _ => [r]
  | .pel r _ _ _ _ => [r]
  | .psl r _ _ _ _ _ _ => [r]
  | _ => []

/-- does a temporary hold the value of a cell of r's block -/
def hasCel (r : Nat) : List A → Bool
  | [] => false
  | x :: l => (match x with
    | .cel s _ _ => (match Nat.beq s r with
      | true => true
      | false => hasCel r l)
    | .pel s _ _ _ _ => (match Nat.beq s r with
      | true => true
      | false => hasCel r l)
    | .psl s _ _ _ _ _ _ => (match Nat.beq s r with
      | true => true
      | false => hasCel r l)
    | _ => hasCel r l)

/-- does a temporary name r's block -/
def hasRef (r : Nat) : List A → Bool
  | [] => false
  | x :: l => (match (refL x).contains r with
    | true => true
    | false => hasRef r l)

def ownRef (st : List A) (t : Nat) : Bool := match owned st t with
  | true => hasRef t st
  | false => false

def okSet (E : Env) (st : List A) (t : Nat) (x : A) : Bool := and' (and' (Nat.blt t st.length) (!(E.lent.contains t))) (refOk st t x)

def Cmd.cps {α β : Type} (E : Env) : Cmd α → List A → FP → (α → List A → FP → Option β) → Option β
  | .ret a, st, fp, K => K a st fp
  | .fail, _, _, _ => none
  | .get t k, st, fp, K => (k (st.getD t .dead)).cps E st { fp with rd := t :: fp.rd } K
  | .set t x k, st, fp, K => cond (okSet E st t x) (k.cps E (setSt st t x) { rd := (refL x).append ((refL (st.getD t .dead)).append (t :: fp.rd)), wr := t :: fp.wr, all := fp.all || ownRef st t } K) none
  | .cont r x k, st, fp, K => cond (Nat.blt r st.length) (k.cps E (contSt st r x) { rd := (refL x).append ((refL (st.getD r .dead)).append (r :: fp.rd)), wr := r :: fp.wr, all := fp.all || hasCel r st } K) none
  | .retire r k, st, fp, K => k.cps E (retSt st r) { rd := r :: fp.rd, wr := r :: fp.wr, all := fp.all || hasRef r st } K
  | .test b x y, st, fp, K => cond b (x.cps E st fp K) (y.cps E st fp K)
  | .call f args k, st, fp, K => (E.fn f args).val.bind fun x => (k ((E.fn f args).out x).1 ((E.fn f args).out x).2).cps E st fp K
  | .guard d x y z, st, fp, K => match st.getD d .dead with
    | .v .bool b => cond b (x.cps E (st.set d (.v .bool true)) { fp with rd := d :: fp.rd } K) (y.cps E (st.set d (.v .bool false)) { fp with rd := d :: fp.rd } K)
    | .tup [] => z.cps E st { fp with rd := d :: fp.rd } K
    | _ => none

/-! ## operands -/

def ofConst : Value → Option A
  | .bool b => some (.v .bool b)
  | .int k n => some (.v (.int k) n)
  | .string s => some (.v .str s.data.toList)
  | .slice none 0 0 => some .nilsl
  | .agg _ => none
  | .tuple _ => none
  | v => some (.v .opq v)

section
variable (E : Env) {α : Type}

def rdK (x : Operand) (k : A → Cmd α) : Cmd α :=
  match x with
  | .tmp t => .get t fun a => match a with
    | .row .. | .box .. | .iter .. | .yld | .ov .. | .otup .. => k (.bor t)
    | .dead => .fail
    | a => k a
  | .const v => match ofConst v with
    | some a => k a
    | none => .fail
  | .global g => match E.glob g with
    | some d => k (.v (.ptr d.1) d.2)
    | none => .fail
  | .func f => k (.v .opq (.func (.func f) #[] #[]))

/-- what type changes where a datum of another type is put at place p -/
def putAt : (t : T) → t.den → List Step → (t' : T) → t'.den → Option Dat
  | t, _, [], t', y => (match Nat.beq t.size t'.size with
    | true => some ⟨t', y⟩
    | false => none)
  | .pair a b, x, .fld i :: p, t', y => match i with
    | 0 => match putAt a x.1 p t' y with
      | some d => some ⟨.pair d.1 b, (d.2, x.2)⟩
      | none => none
    | i + 1 => match putAt b x.2 (.fld i :: p) t' y with
      | some d => some ⟨.pair a d.1, (x.1, d.2)⟩
      | none => none
  | _, _, _, _, _ => none

def unOwn (d : Dat) (k : (t : T) → List t.den → Cmd α) : Cmd α := match d with
  | ⟨.own t, xs⟩ => k t xs
  | _ => .fail

/-- the row that lies at place p of r's box, whose cell is k -/
def celK (r : Nat) (n : Nat) (p : List Step) (k : (t : T) → t.den → (u : T) → List u.den → Cmd α) : Cmd α :=
  .get r fun b => match b with
    | .box t x => (match and' (inb t x p) (Nat.beq n (offOf t p)) with
      | true => unOwn (foc t x p) fun u xs => k t x u xs
      | false => .fail)
    | _ => .fail

/-- the boxes that a function value has captured are given up -/
def capsK : List Nat → (Dat → Cmd α) → Cmd α
  | [], k => k ⟨.unit, ()⟩
  | r :: rs, k => .get r fun b => match b with
    | .box t x => (match noOwn t with
      | true => .retire r (capsK rs fun d => k ⟨.pair (.ptr t) d.1, (x, d.2)⟩)
      | false => .fail)
    | _ => .fail

/-- the datum; an owned row is given up -/
def datK (a : A) (k : Dat → Cmd α) : Cmd α :=
  match a with
  | .v t x => k ⟨t, x⟩
  | .bor r => .get r fun b => match b with
    | .row t xs => .retire r (k ⟨.sl t, xs⟩)
    | .ov t x => (match frzOk t with
      | true => .retire r (k ⟨frz t, frzD t x⟩)
      | false => .fail)
    | _ => .fail
  | .cel r n p => celK r n p fun t x u xs => match putAt t x p (.sl u) xs with
    | some z => .cont r (.box z.1 z.2) (k ⟨.sl u, xs⟩)
    | none => .fail
  | .clo f rs => capsK rs fun d => k ⟨.fn f d.1, d.2⟩
  | _ => .fail

/-- the datum, looked at alone -/
def lookK (a : A) (k : Dat → Cmd α) : Cmd α :=
  match a with
  | .v t x => k ⟨t, x⟩
  | .bor r => .get r fun b => match b with
    | .row t xs => k ⟨.sl t, xs⟩
    | _ => .fail
  | .cel r n p => celK r n p fun _ _ u xs => k ⟨.sl u, xs⟩
  | _ => .fail

def inb' (t : T) (x : t.den) (p : List Step) : Bool := match p with
  | [] => false
  | p => inb t x p

def unArr (d : Dat) (k : Nat → (t : T) → List t.den → Cmd α) : Cmd α := match d with
  | ⟨.arr m t, xs⟩ => k m t xs
  | _ => .fail

def cut {α : Type} (xs : List α) (l h : Nat) : List α := (xs.take h).drop l

/-- the same, of a slice of an array inside a row too -/
def lookP (a : A) (k : Dat → Cmd α) : Cmd α :=
  match a with
  | .psl r n p u q lo hi => celK r n p fun _ _ u' xs => (match cast (.sl u') (.sl u) xs with
    | some xs => .test (inb' (.arr 0 u) xs q) (unArr (foc (.arr 0 u) xs q) fun _ t zs => k ⟨.sl t, cut zs lo hi⟩) .fail
    | none => .fail)
  | a => lookK a k

/-- as a datum of type t -/
def asK (t : T) (a : A) (k : t.den → Cmd α) : Cmd α :=
  match t, a, k with
  | .sl _, .nilsl, k => k []
  | t, a, k => datK a fun d => match cast d.1 t d.2 with
    | some x => k x
    | none => .fail

def teq' (t t' : T) : Bool := decide (t = t')

/-- a value that owns what it has, as one of type u; it is taken from where it is -/
def takeVK (a : A) (u : T) (k : u.den → Cmd α) : Cmd α := match a with
  | .bor s => .get s fun c => (match c with
    | .ov t x => (match cast t u x with
      | some x => .set s .dead (k x)
      | none => .fail)
    | .row t xs => (match u, k with
      | .own w, k => (match cast (.sl t) (.sl w) xs with
        | some xs => .set s .dead (k xs)
        | none => .fail)
      | _, _ => .fail)
    | .box t x => (match u, k with
      | .nb w, k => (match cast t w x with
        | some x => .set s .dead (k (some x))
        | none => .fail)
      | _, _ => .fail)
    | _ => .fail)
  | .nilsl => (match u, k with
    | .own _, k => k []
    | _, _ => .fail)
  | .v .opq v => (match u, v, k with
    | .mp _ _, .map none, k => k none
    | .nb _, .pointer none, k => k none
    | _, _, _ => .fail)
  | _ => .fail

/-- nothing in it names the box that it lies in -/
def noSelf : T → Bool
  | .pair a b => and' (noSelf a) (noSelf b)
  | .self _ => false
  | _ => true

/-- is a value that owns what it has to move into a box of just this type -/
def ovK (b a0 : A) (k : Option (Nat × Nat) → Cmd α) : Cmd α := match b, a0 with
  | .bor s, .bor r => .get s fun c => .get r fun c' => (match c, c' with
    | .ov t' _, .box t _ => (match and' (teq' t t') (and' (noSelf t) (!(Nat.beq s r))) with
      | true => k (some (s, r))
      | false => k none)
    | _, _ => k none)
  | _, _ => k none

/-- the datum that a map of its own is -/
def mpK (a : A) (k : (p q : T) → Option (List (p.den × q.den)) → (Option (List (p.den × q.den)) → Cmd α → Cmd α) → Cmd α) : Cmd α := match a with
  | .bor r => .get r fun c => (match c with
    | .ov t x => (match t, x with
      | .mp p q, m => k p q m fun m' c => .cont r (.ov (.mp p q) m') c
      | _, _ => .fail)
    | _ => .fail)
  | .cel r n p0 => .get r fun b => (match b with
    | .box t x => (match and' (inb t x p0) (Nat.beq n (offOf t p0)) with
      | true => (match foc t x p0 with
        | ⟨.mp p q, m⟩ => k p q m fun m' c => (match putAt t x p0 (.mp p q) m' with
          | some z => .cont r (.box z.1 z.2) c
          | none => .fail)
        | _ => .fail)
      | false => .fail)
    | _ => .fail)
  | _ => .fail

def intK (a : A) (k : IntKind → Int → Cmd α) : Cmd α :=
  match a with
  | .v (.int j) n => k j n
  | _ => .fail

def tyK (i : TypeId) (k : TyI → Cmd α) : Cmd α :=
  match E.ty i with
  | some e => k e
  | none => .fail

def lay (d : Option Nat) (a : A) : Cmd Unit :=
  match d with
  | some d => .set d a (.ret ())
  | none => .ret ()

/-- the content of an owner's block -/
def contK (r : Nat) (k : (t : T) → t.den → (t.den → A) → Cmd α) : Cmd α :=
  .get r fun a => match a with
    | .box t x => k t x (.box t)
    | .row t xs => k (.arr 0 t) xs (.row t)
    | _ => .fail

def snoc (p : List Step) (s : Step) : List Step := match p with
  | [] => [s]
  | a :: p => a :: snoc p s

/-- 'inb' at a place that is not the whole -/
def teq (t t' : T) : Bool := decide (t = t')

/-- a row's elements: of this type, or bytes in blocks of a known type -/
def ownS : T → T → Bool
  | .byt _, .int .u8 => true
  | u, v => teq u v

/-- t is e, but for slices that are owned, or cells of which nothing is known -/
def simT : T → T → Bool
  | .pair a b, .pair c d => and' (simT a c) (simT b d)
  | .own u, .sl v => ownS u v
  | .any, e => and' (Nat.beq e.size 1) (!e.isAgg)
  | .self _, .opq => true
  | .mp _ _, .opq => true
  | .nb _, .opq => true
  | t, e => teq t e

/-- boxes that name themselves are of this type -/
def selfOk (i : TypeId) : T → Bool
  | .pair a b => and' (selfOk i a) (selfOk i b)
  | .self ty => Nat.beq i ty
  | _ => true

/-- a zero value, where slices are owned -/
def toOwn : (t e : T) → e.den → Option t.den
  | .pair a b, .pair c d, x => match toOwn a c x.1 with
    | some y => (match toOwn b d x.2 with
      | some z => some (y, z)
      | none => none)
    | none => none
  | .own _, .sl _, x => (match x with
    | [] => some []
    | _ => none)
  | .self _, .opq, x => (match x with
    | .pointer none => some ()
    | _ => none)
  | .mp _ _, .opq, x => (match x with
    | .map none => some none
    | _ => none)
  | .nb _, .opq, x => (match x with
    | .pointer none => some none
    | _ => none)
  | t, e, x => cast e t x

/-! ## integers, strings -/

def bitsOp (op : BinOp) (k : IntKind) (x y : Int) : Int :=
  match op with
  | .and => k.wrap ((BitVec.ofInt k.bits x &&& BitVec.ofInt k.bits y).toNat : Int)
  | .or => k.wrap ((BitVec.ofInt k.bits x ||| BitVec.ofInt k.bits y).toNat : Int)
  | .xor => k.wrap ((BitVec.ofInt k.bits x ^^^ BitVec.ofInt k.bits y).toNat : Int)
  | _ => k.wrap ((BitVec.ofInt k.bits x &&& ~~~ BitVec.ofInt k.bits y).toNat : Int)

def shlI (k : IntKind) (x y : Int) : Int := k.wrap (x * 2 ^ (min y.toNat k.bits))
def shrI (k : IntKind) (x y : Int) : Int := x.fdiv (2 ^ (min y.toNat k.bits))

def intBin (op : BinOp) (k : IntKind) (a : Int) (k' : IntKind) (b : Int) (d : Option Nat) : Cmd Unit :=
  match op with
  | .shl => .test (decide (0 ≤ b)) (lay d (.v (.int k) (shlI k a b))) .fail
  | .shr => .test (decide (0 ≤ b)) (lay d (.v (.int k) (shrI k a b))) .fail
  | op => match decide (k = k') with
    | false => .fail
    | true => match op with
      | .add => lay d (.v (.int k) (k.wrap (a + b)))
      | .sub => lay d (.v (.int k) (k.wrap (a - b)))
      | .mul => (match k with
        | .u64 => lay d (.v (.int .u64) (IntKind.wrap .u64 (b * a)))
        | k => lay d (.v (.int k) (k.wrap (a * b))))
      | .quo => .test (b == 0) .fail (lay d (.v (.int k) (k.wrap (a.tdiv b))))
      | .rem => .test (b == 0) .fail (lay d (.v (.int k) (a.tmod b)))
      | .and => lay d (.v (.int k) (bitsOp .and k a b))
      | .or => lay d (.v (.int k) (bitsOp .or k a b))
      | .xor => lay d (.v (.int k) (bitsOp .xor k a b))
      | .andNot => lay d (.v (.int k) (bitsOp .andNot k a b))
      | .eql => lay d (.v .bool (a == b))
      | .neq => lay d (.v .bool (a != b))
      | .lss => lay d (.v .bool (decide (a < b)))
      | .leq => lay d (.v .bool (decide (a ≤ b)))
      | .gtr => lay d (.v .bool (decide (b < a)))
      | .geq => lay d (.v .bool (decide (b ≤ a)))
      | _ => .fail

def maxLenI : Nat := 9223372036854775807

def strBin (op : BinOp) (x y : List UInt8) (d : Option Nat) : Cmd Unit :=
  match op with
  | .add => .test (decide (x.length + y.length ≤ 9223372036854775807)) (lay d (.v .str (x ++ y))) .fail
  | .eql => lay d (.v .bool (x == y))
  | .neq => lay d (.v .bool (!(x == y)))
  | .lss => lay d (.v .bool (Op.bytesLess x y))
  | .leq => lay d (.v .bool (Op.bytesLess x y || x == y))
  | .gtr => lay d (.v .bool (!(Op.bytesLess x y || x == y)))
  | .geq => lay d (.v .bool (!(Op.bytesLess x y)))
  | _ => .fail

def boolBin (op : BinOp) (x y : Bool) (d : Option Nat) : Cmd Unit :=
  match op with
  | .eql => lay d (.v .bool (x == y))
  | .neq => lay d (.v .bool (!(x == y)))
  | _ => .fail

def isBoolT (E : Env) (i : TypeId) : Bool := match E.ty i with
  | some e => (match e.desc with | .bool => true | _ => false)
  | none => false

def isStrT (d : TypeDesc) : Bool := match d with
  | .string => true
  | _ => false

def isPtrT (E : Env) (i : TypeId) : Bool := match E.ty i with
  | some e => (match e.desc with | .pointer _ => true | _ => false)
  | none => false

def isMapT (E : Env) (i : TypeId) : Bool := match E.ty i with
  | some e => (match e.desc with | .map _ _ => true | _ => false)
  | none => false

def nilBin (op : BinOp) (d : Option Nat) (same : Bool) : Cmd Unit :=
  match op with
  | .eql => lay d (.v .bool same)
  | .neq => lay d (.v .bool (!same))
  | _ => .fail

/-! ## equality of structs and arrays -/

def eqLs {α : Type} (f : α → α → Bool) : List α → List α → Bool
  | [], [] => true
  | x :: xs, y :: ys => cond (f x y) (eqLs f xs ys) false
  | _, _ => false

def eqD : (t : T) → t.den → t.den → Bool
  | .int _, x, y => x == y
  | .bool, x, y => x == y
  | .str, x, y => x == y
  | .pair a b, x, y => cond (eqD a x.1 y.1) (eqD b x.2 y.2) false
  | .arr _ t, xs, ys => eqLs (eqD t) xs ys
  | _, _, _ => true

/-- does == look at all of such a datum, field by field -/
def eqOk (E : Env) : (u : T) → TypeId ⊕ (List Field × Nat) → Bool
  | .int k, .inl i => match E.ty i with
    | some e => and' (teq e.t (.int k)) (match e.desc with
      | .int _ => true
      | _ => false)
    | none => false
  | .bool, .inl i => isBoolT E i
  | .str, .inl i => match E.ty i with
    | some e => isStrT e.desc
    | none => false
  | .unit, .inl i => match E.ty i with
    | some e => and' (and' e.cmp (teq e.t .unit)) (match e.desc with
      | .struct fs => Nat.beq fs.size 0
      | _ => false)
    | none => false
  | .unit, .inr p => match p.1 with
    | [] => true
    | _ => false
  | .pair a b, .inl i => match E.ty i with
    | some e => and' (and' e.cmp (teq e.t (.pair a b))) (match e.desc with
      | .struct fs => (match fs.toList with
        | f :: r => and' (and' (eqOk E a (.inl f.type)) (eqOk E b (.inr (r, a.size)))) (and' (f.name != "_") (and' (Nat.beq f.offset 0) (match E.ty f.type with
          | some g => teq g.t a
          | none => false)))
        | [] => false)
      | _ => false)
    | none => false
  | .pair a b, .inr p => match p.1 with
    | f :: r => and' (and' (eqOk E a (.inl f.type)) (eqOk E b (.inr (r, p.2 + a.size)))) (and' (f.name != "_") (and' (Nat.beq f.offset p.2) (match E.ty f.type with
      | some g => teq g.t a
      | none => false)))
    | [] => false
  | .arr n u, .inl i => match E.ty i with
    | some e => and' (and' e.cmp (teq e.t (.arr n u))) (match e.desc with
      | .array m el => and' (Nat.beq n m) (and' (eqOk E u (.inl el)) (match E.ty el with
        | some g => teq g.t u
        | none => false))
      | _ => false)
    | none => false
  | _, _ => false

def depthT : T → Nat
  | .pair a b => depthT a + depthT b + 1
  | .arr _ t => depthT t + 1
  | _ => 1

def aggBin (E : Env) (op : BinOp) (i : TypeId) (t : T) (x : t.den) (u : T) (y : u.den) (d : Option Nat) : Cmd Unit :=
  match E.ty i with
  | some e => (match and' (and' (teq e.t t) (eqOk E t (.inl i))) (and' (and' e.cmp t.isAgg) (Nat.blt (depthT t) 9999)) with
    | true => (match cast u t y with
      | some y => nilBin op d (eqD t x y)
      | none => .fail)
    | false => .fail)
  | none => .fail

def binCmd (op : BinOp) (xT : TypeId) (x y : Operand) (d : Option Nat) : Cmd Unit :=
  rdK E x fun a => rdK E y fun b =>
    match a, b with
    | .v (.int k) m, .v (.int k') n => intBin op k m k' n d
    | .v .str s, .v .str u => strBin op s u d
    | .v .bool s, .v .bool u => match isBoolT E xT with
      | true => boolBin op s u d
      | false => .fail
    | .bor r, .v .opq (.pointer none) => .get r fun c => match c with
      | .box .. => (match isPtrT E xT with
        | true => nilBin op d false
        | false => .fail)
      | .ov t x => (match isPtrT E xT with
        | true => (match t, x with
          | .nb u, m => .test m.isSome (.cont r (.box u (m.getD u.dflt)) (nilBin op d false)) (.cont r (.ov (.nb u) none) (.retire r (nilBin op d true)))
          | _, _ => .fail)
        | false => .fail)
      | _ => .fail
    | a, .v .opq (.map none) => (match isMapT E xT with
      | true => mpK a fun _ _ m _ => nilBin op d (!m.isSome)
      | false => .fail)
    | .v .opq (.pointer none), .v .opq (.pointer none) => match isPtrT E xT with
      | true => nilBin op d true
      | false => .fail
    | .v t x, .v u y => aggBin E op xT t x u y d
    | _, _ => .fail

def unCmd (op : UnOp) (x : Operand) (d : Option Nat) : Cmd Unit :=
  rdK E x fun a =>
    match op, a with
    | .not, .v .bool b => lay d (.v .bool (!b))
    | .neg, .v (.int k) n => lay d (.v (.int k) (k.wrap (0 - n)))
    | .xor, .v (.int k) n => lay d (.v (.int k) (bitsOp .xor k (if k.signed then -1 else k.max) n))
    | _, _ => .fail

/-! ## memory -/

def slIs (w e : T) : Bool := match e with
  | .sl v => ownS w v
  | _ => false

/-- a function value, loaded -/
def loadFn (t : T) (y : t.den) (e : T) (d : Option Nat) : Cmd Unit := match t, y with
  | .fn f u, y => (match teq e .opq with
    | true => lay d (.v (.fn f u) y)
    | false => .fail)
  | _, _ => .fail

def loadCmd (ty : TypeId) (x : Operand) (d : Option Nat) : Cmd Unit :=
  tyK E ty fun e => rdK E x fun a =>
    match a with
    | .v (.ptr t) y => match teq t e.t with
      | true => lay d (.v t y)
      | false => loadFn t y e.t d
    | .bor r => .get r fun c => match c with
      | .box t y => (match teq t e.t with
        | true => lay d (.v t y)
        | false => (match t with
          | .own u => (match slIs u e.t with
            | true => lay d (.cel r 0 [])
            | false => .fail)
          | t => (match teq (frz t) e.t with
            | true => .cont r (.box (frz t) (frzD t y)) (lay d (.v (frz t) (frzD t y)))
            | false => .fail)))
      | _ => .fail
    | .adr r t p => contK r fun t' y _ => match cast t' t y with
      | some y => (match tyAt t p with
        | some u => (match teq u e.t with
          | true => .test (inb' t y p) (lay d (.v (foc t y p).1 (foc t y p).2)) .fail
          | false => (match u with
            | .own w => (match slIs w e.t with
              | true => .test (inb' t y p) (lay d (.cel r (offOf t p) p)) .fail
              | false => .fail)
            | .mp _ _ => (match teq e.t .opq with
              | true => .test (inb' t y p) (lay d (.cel r (offOf t p) p)) .fail
              | false => .fail)
            | _ => .fail))
        | none => .fail)
      | none => .fail
    | .pel r n p u q => celK r n p fun t y u' xs => (match cast (.sl u') (.sl u) xs with
      | some xs => (match tyAt (.arr 0 u) q with
        | some v => (match teq v e.t with
          | true => .test (inb' (.arr 0 u) xs q) (lay d (.v (foc (.arr 0 u) xs q).1 (foc (.arr 0 u) xs q).2)) .fail
          | false => .fail)
        | none => .fail)
      | none => .fail)
    | _ => .fail

/-- a whole box is read, with what it owns: it is left without -/
def loadOv (u : T) (ty : TypeId) (x : Operand) (d : Option Nat) : Cmd Unit :=
  tyK E ty fun e => rdK E x fun a => match a with
    | .bor r => .get r fun c => (match c with
      | .box t y => (match and' (teq t u) (and' (simT t e.t) (and' t.isAgg (noSelf t))) with
        | true => .cont r (.box (fgt t) (fgtD t y)) (lay d (.ov t y))
        | false => .fail)
      | _ => .fail)
    | _ => .fail

/-- is it a place for a slice that is owned -/
def slot (t : T) : Bool := match t with
  | .own _ => true
  | .any => true
  | _ => false

/-- the place of an owned slice that an address names -/
def slotK (a : A) (k : Option (Nat × List Step) → Cmd α) : Cmd α := match a with
  | .bor r => .get r fun c => match c with
    | .box t _ => (match slot t with
      | true => k (some (r, []))
      | false => k none)
    | _ => k none
  | .adr r t p => (match tyAt t p with
    | some u => (match slot u with
      | true => k (some (r, p))
      | false => k none)
    | none => k none)
  | _ => k none

/-- an owned row, taken out of where it is -/
def takeK (a : A) (u : T) (k : List u.den → Cmd α) : Cmd α := match a with
  | .nilsl => k []
  | .bor s => .get s fun c => match c with
    | .row t xs => (match cast (.sl t) (.sl u) xs with
      | some xs => .set s .dead (k xs)
      | none => .fail)
    | _ => .fail
  | _ => .fail

/-- the type of the elements of a row that is to be taken -/
def elemK (a : A) (u : T) (k : T → Cmd α) : Cmd α := match a with
  | .bor s => .get s fun c => match c with
    | .row (.byt q) _ => (match teq u (.int .u8) with
      | true => k (.byt q)
      | false => k u)
    | _ => k u
  | _ => k u

def slElem : T → Option T
  | .sl u => some u
  | _ => none

def storeCmd (ty : TypeId) (x : Operand) (v : Operand) : Cmd Unit :=
  tyK E ty fun e => rdK E x fun a0 => slotK a0 fun o => match o with
  | some (r, p) => (match slElem e.t with
    | some u0 => rdK E v fun b => elemK b u0 fun u => takeK b u fun xs => .get r fun c => (match c with
      | .box t y => (match and' (inb t y p) (slot (foc t y p).1) with
        | true => (match putAt t y p (.own u) xs with
          | some z => .test (match a0 with
            | .adr _ t0 _ => Nat.beq (offOf t0 p) (offOf t p)
            | _ => true) (.cont r (.box z.1 z.2) (.ret ())) .fail
          | none => .fail)
        | false => .fail)
      | _ => .fail)
    | none => .fail)
  | none => rdK E v fun b => ovK b a0 fun m => match m with
  | some (s, r) => .get s fun c => (match c with
    | .ov t z => (match simT t e.t with
      | true => .set s .dead (.cont r (.box t z) (.ret ()))
      | false => .fail)
    | _ => .fail)
  | none => asK e.t b fun z => rdK E x fun a =>
    match a with
    | .bor r => .get r fun c => match c with
      | .box t _ => (match cast e.t t z with
        | some z => .cont r (.box t z) (.ret ())
        | none => .fail)
      | _ => .fail
    | .pel r n p u q => celK r n p fun t y u' xs => (match cast (.sl u') (.sl u) xs with
      | some xs => .test (inb' (.arr 0 u) xs q) (match setAt (.arr 0 u) xs q e.t z with
        | some xs' => (match putAt t y p (.own u) xs' with
          | some z' => .cont r (.box z'.1 z'.2) (.ret ())
          | none => .fail)
        | none => .fail) .fail
      | none => .fail)
    | .adr r t p => contK r fun t' y mk => match cast t' t y with
      | some y => .test (inb' t y p) (match setAt t y p e.t z with
        | some y' => (match cast t t' y' with
          | some y' => .cont r (mk y') (.ret ())
          | none => .fail)
        | none => .fail) .fail
      | none => .fail
    | _ => .fail

def fieldsOf (d : TypeDesc) : Option (Array Field) := match d with
  | .struct fs => some fs
  | _ => none

def fieldOk (E : Env) (e : TyI) (f : Nat) : Bool := match fieldsOf e.desc with
  | some fs => match fs[f]? with
    | some g => match E.ty g.type with
      | some eg => and' (and' (Nat.beq (offOf e.t [.fld f]) g.offset) (!(Nat.beq eg.size 0))) (match tyAt e.t [.fld f] with
        | some u => teq u eg.t
        | none => false)
      | none => false
    | none => false
  | none => false

def fieldAddrCmd (s : TypeId) (x : Operand) (f : Nat) (d : Option Nat) : Cmd Unit :=
  tyK E s fun e => match fieldOk E e f with
    | false => .fail
    | true => rdK E x fun a =>
      match a with
      | .v (.ptr t) y => (match cast t e.t y with
        | some y => lay d (.v (.ptr (foc e.t y [.fld f]).1) (foc e.t y [.fld f]).2)
        | none => .fail)
      | .bor r => .get r fun c => match c with
        | .box t _ => (match simT t e.t with
          | true => lay d (.adr r t [.fld f])
          | false => .fail)
        | _ => .fail
      | .adr r t p => (match tyAt t p with
        | some u => (match simT u e.t with
          | true => lay d (.adr r t (snoc p (.fld f)))
          | false => .fail)
        | none => .fail)
      | .pel r n p u q => (match tyAt (.arr 0 u) q with
        | some v => (match teq v e.t with
          | true => lay d (.pel r n p u (snoc q (.fld f)))
          | false => .fail)
        | none => .fail)
      | _ => .fail

def fieldCmd (s : TypeId) (x : Operand) (f : Nat) (d : Option Nat) : Cmd Unit :=
  tyK E s fun e => match fieldOk E e f with
    | false => .fail
    | true => rdK E x fun a =>
      match a with
      | .v t y => (match cast t e.t y with
        | some y => lay d (.v (foc e.t y [.fld f]).1 (foc e.t y [.fld f]).2)
        | none => .fail)
      | _ => .fail

def inR (n : Int) (len : Nat) : Bool := decide (0 ≤ n ∧ n < len)

def elemOk (E : Env) (e : TyI) (t : T) : Bool := match e.desc with
  | .slice el => (match E.ty el with
    | some ee => teq ee.t t
    | none => false)
  | .array _ el => (match E.ty el with
    | some ee => teq ee.t t
    | none => false)
  | _ => false

def arrLen (d : TypeDesc) : Option Nat := match d with
  | .array n _ => some n
  | _ => none
def isSl (d : TypeDesc) : Bool := match d with
  | .slice _ => true
  | _ => false

def indexAddrCmd (ty : TypeId) (x ix : Operand) (d : Option Nat) : Cmd Unit :=
  tyK E ty fun e => rdK E ix fun i => intK i fun _ n => rdK E x fun a =>
    match isSl e.desc, arrLen e.desc, a with
    | true, _, .v (.sl t) xs => (match elemOk E e t with
      | true => .test (inR n xs.length) (lay d (.v (.ptr t) (xs.getD n.toNat t.dflt))) .fail
      | false => .fail)
    | true, _, .bor r => .get r fun c => (match c with
      | .row t xs => (match elemOk E e t with
        | true => .test (inR n xs.length) (lay d (.adr r (.arr 0 t) [.idx n.toNat])) .fail
        | false => .fail)
      | _ => .fail)
    | _, some m, .v (.ptr (.arr m' t)) xs => (match and' (Nat.beq m m') (elemOk E e t) with
      | true => .test (inR n m) (lay d (.v (.ptr t) (xs.getD n.toNat t.dflt))) .fail
      | false => .fail)
    | _, some m, .bor r => .get r fun c => (match c with
      | .box (.arr m' t) _ => (match and' (Nat.beq m m') (elemOk E e t) with
        | true => .test (inR n m) (lay d (.adr r (.arr m' t) [.idx n.toNat])) .fail
        | false => .fail)
      | _ => .fail)
    | _, some m, .adr r t p => (match tyAt t p with
      | some (.arr m' u) => (match and' (Nat.beq m m') (elemOk E e u) with
        | true => .test (inR n m) (lay d (.adr r t (snoc p (.idx n.toNat)))) .fail
        | false => .fail)
      | _ => .fail)
    | true, _, .cel r n0 p => celK r n0 p fun _ _ u xs => (match elemOk E e u with
      | true => .test (inR n xs.length) (lay d (.pel r n0 p u [.idx n.toNat])) .fail
      | false => .fail)
    | _, some m, .pel r n0 p u q => (match tyAt (.arr 0 u) q with
      | some (.arr m' u') => (match and' (Nat.beq m m') (elemOk E e u') with
        | true => .test (inR n m) (lay d (.pel r n0 p u (snoc q (.idx n.toNat)))) .fail
        | false => .fail)
      | _ => .fail)
    | _, _, _ => .fail

def indexCmd (ty : TypeId) (x ix : Operand) (d : Option Nat) : Cmd Unit :=
  tyK E ty fun e => rdK E ix fun i => intK i fun _ n => rdK E x fun a =>
    match isStrT e.desc, arrLen e.desc, a with
    | true, _, .v .str s => .test (inR n s.length) (lay d (.v (.int .u8) ((s.getD n.toNat 0).toNat : Int))) .fail
    | _, some m, .v (.arr m' t) xs => (match and' (Nat.beq m m') (elemOk E e t) with
      | true => .test (inR n m) (lay d (.v t (xs.getD n.toNat t.dflt))) .fail
      | false => .fail)
    | _, _, _ => .fail

def setAll (t : T) (x : t.den) : List (Nat × Dat) → (Nat → Step) → Option t.den
  | [], _ => some x
  | (i, d) :: r, s => match setAt t x [s i] d.1 d.2 with
    | some y => setAll t y r s
    | none => none

/-- the parts of a literal, each as a datum of the type that stands at its place -/
def partsK (t : T) (s : Nat → Step) : List (Nat × Operand) → (List (Nat × Dat) → Cmd α) → Cmd α
  | [], k => k []
  | (i, x) :: r, k => match tyAt t [s i] with
    | some u => rdK E x fun a => asK u a fun z => partsK t s r fun l => k ((i, ⟨u, z⟩) :: l)
    | none => .fail

def structOk (E : Env) (e : TyI) : List Nat → Bool
  | [] => true
  | f :: r => and' (fieldOk E e f) (structOk E e r)

def idxOk (n : Nat) : List Nat → Bool
  | [] => true
  | f :: r => and' (Nat.blt f n) (idxOk n r)

def buildCmd (ty : TypeId) (parts : List (Nat × Operand)) (d : Option Nat) : Cmd Unit :=
  tyK E ty fun e => match e.desc with
    | .struct fs => (match and' (idxOk fs.size (parts.map (·.1))) (structOk E e (List.range fs.size)) with
      | true => partsK E e.t .fld parts fun l => (match setAll e.t e.zero l .fld with
        | some x => lay d (.v e.t x)
        | none => .fail)
      | false => .fail)
    | .array n _ => (match and' (idxOk n (parts.map (·.1))) (match e.t with
        | .arr m t => and' (Nat.beq n m) (elemOk E e t)
        | _ => false) with
      | true => partsK E e.t .idx parts fun l => (match setAll e.t e.zero l .idx with
        | some x => lay d (.v e.t x)
        | none => .fail)
      | false => .fail)
    | _ => .fail

/-- the parts of a literal: first those that own nothing -/
def parts1 (t : T) (s : Nat → Step) : List (Nat × Operand) → (List (Nat × Operand × Option Dat) → Cmd α) → Cmd α
  | [], k => k []
  | (i, x) :: r, k => match tyAt t [s i] with
    | some u => (match noOwn u with
      | true => rdK E x fun a => asK u a fun z => parts1 t s r fun l => k ((i, x, some ⟨u, z⟩) :: l)
      | false => parts1 t s r fun l => k ((i, x, none) :: l))
    | none => .fail

/-- then the others -/
def parts2 (t : T) (s : Nat → Step) : List (Nat × Operand × Option Dat) → (List (Nat × Dat) → Cmd α) → Cmd α
  | [], k => k []
  | (i, x, y) :: r, k => match y with
    | some d => parts2 t s r fun l => k ((i, d) :: l)
    | none => (match tyAt t [s i] with
      | some u => rdK E x fun a => takeVK a u fun z => parts2 t s r fun l => k ((i, ⟨u, z⟩) :: l)
      | none => .fail)

def buildOv (u : T) (ty : TypeId) (parts : List (Nat × Operand)) (d : Option Nat) : Cmd Unit :=
  tyK E ty fun e => match e.desc with
    | .struct fs => (match and' (and' u.isAgg (and' (noSelf u) (simT u e.t))) (and' (idxOk fs.size (parts.map (·.1))) (structOk E e (List.range fs.size))) with
      | true => (match toOwn u e.t e.zero with
        | some z0 => parts1 E u .fld parts fun l1 => parts2 E u .fld l1 fun l => (match setAll u z0 l .fld with
          | some x => lay d (.ov u x)
          | none => .fail)
        | none => .fail)
      | false => .fail)
    | _ => .fail

def buildSliceCmd (ty : TypeId) (len : Nat) (parts : List (Nat × Operand)) (d : Option Nat) : Cmd Unit :=
  tyK E ty fun e => match e.desc with
    | .slice el => tyK E el fun ee => (match and' (idxOk len (parts.map (·.1))) (and' (Nat.blt 0 ee.size) (Nat.ble (len * ee.size) 65536)) with
      | true => partsK E (.arr len ee.t) .idx parts fun l => (match setAll (.arr len ee.t) (List.replicate len ee.zero) l .idx with
        | some x => lay d (.row ee.t x)
        | none => .fail)
      | false => .fail)
    | _ => .fail

def makeSliceCmd (ty : TypeId) (l c : Operand) (d : Option Nat) : Cmd Unit :=
  tyK E ty fun e => match e.desc with
    | .slice el => tyK E el fun ee => rdK E l fun a => rdK E c fun b => (match a, b with
      | .v (.int .i64) m, .v (.int .i64) n => (match Nat.blt 0 ee.size with
        | true => .test (decide (0 ≤ m ∧ m ≤ n ∧ n * (ee.bytes : Int) ≤ 281474976710656 ∧ n ≤ 9223372036854775807)) (lay d (.row ee.t (List.replicate m.toNat ee.zero))) .fail
        | false => .fail)
      | _, _ => .fail)
    | _ => .fail

def optK (x : Option Operand) (k : Option Int → Cmd α) : Cmd α :=
  match x with
  | none => k none
  | some x => rdK E x fun a => intK a fun _ n => k (some n)

/-- the bounds lo, hi of a slice expression over n elements -/
def bndK (lo hi : Option Int) (n : Nat) (k : Nat → Nat → Cmd α) : Cmd α :=
  match lo, hi with
  | none, none => k 0 n
  | some l, none => .test (decide (0 ≤ l ∧ l ≤ (n : Int))) (k l.toNat n) .fail
  | none, some h => .test (decide (0 ≤ h ∧ h ≤ (n : Int))) (k 0 h.toNat) .fail
  | some l, some h => .test (decide (0 ≤ h ∧ h ≤ (n : Int))) (.test (decide (0 ≤ l ∧ l ≤ h)) (k l.toNat h.toNat) .fail) .fail

def sliceCmd (ty : TypeId) (x : Operand) (lo hi mx : Option Operand) (d : Option Nat) : Cmd Unit :=
  match mx with
  | some mx => tyK E ty fun e => optK E lo fun l => optK E hi fun h => rdK E mx fun z => intK z fun _ mxn => rdK E x fun a => (match isSl e.desc with
    | true => datK a fun z => (match z with
      | ⟨.sl t, xs⟩ => (match elemOk E e t with
        | true => (match h with
          | some h => .test (decide (h ≤ mxn ∧ mxn ≤ (xs.length : Int))) (bndK l (some h) xs.length fun i j => lay d (.v (.sl t) (cut xs i j))) .fail
          | none => .fail)
        | false => .fail)
      | _ => .fail)
    | false => .fail)
  | none => tyK E ty fun e => optK E lo fun l => optK E hi fun h => rdK E x fun a =>
    match isStrT e.desc, isSl e.desc with
    | true, _ => (match a with
      | .v .str s => bndK l h s.length fun i j => lay d (.v .str (cut s i j))
      | _ => .fail)
    | _, true => datK a fun z => (match z with
      | ⟨.sl t, xs⟩ => (match elemOk E e t with
        | true => bndK l h xs.length fun i j => lay d (.v (.sl t) (cut xs i j))
        | false => .fail)
      | _ => .fail)
    | _, _ => (match arrLen e.desc, a with
      | some m, .pel r n p u q => (match tyAt (.arr 0 u) q with
        | some (.arr m' t) => (match and' (Nat.beq m m') (elemOk E e t) with
          | true => bndK l h m fun i j => lay d (.psl r n p u q i j)
          | false => .fail)
        | _ => .fail)
      | _, _ => .fail)

def toStr (xs : List Int) : List UInt8 := xs.map fun n => UInt8.ofNat n.toNat
def ofStr (s : List UInt8) : List Int := s.map fun b => (b.toNat : Int)

def isByteSl (E : Env) (d : TypeDesc) : Bool := match d with
  | .slice el => (match E.ty el with
    | some ee => (match ee.desc with | .int .u8 => true | _ => false)
    | none => false)
  | _ => false

def convCmd (src dst : TypeId) (x : Operand) (d : Option Nat) : Cmd Unit :=
  tyK E src fun s => tyK E dst fun e => rdK E x fun a =>
    match e.desc, a with
    | .int k, .v (.int _) n => lay d (.v (.int k) (k.wrap n))
    | .string, .v .str u => lay d (.v .str u)
    | .string, a => (match isByteSl E s.desc with
      | true => (match a with
        | .nilsl => lay d (.v .str [])
        | a => lookP a fun z => match z with
          | ⟨.sl (.int .u8), xs⟩ => lay d (.v .str (toStr xs))
          | _ => .fail)
      | false => .fail)
    | .slice _, .v .str u => (match and' (isStrT s.desc) (isByteSl E e.desc) with
      | true => lay d (.row (.int .u8) (ofStr u))
      | false => .fail)
    | _, _ => .fail

/-! ## calls -/

def isMp (d : TypeDesc) : Bool := match d with
  | .map _ _ => true
  | _ => false

/-! ### maps -/

/-- types of keys that are the same just if their cells are -/
def keyT : T → Bool
  | .int _ => true
  | .bool => true
  | .str => true
  | .unit => true
  | .pair a b => and' (keyT a) (keyT b)
  | .arr _ t => keyT t
  | _ => false

def mpTys (E : Env) (ty : TypeId) : Option (TypeId × TyI × TyI) := match E.ty ty with
  | some e => (match e.desc with
    | .map ki vi => (match E.ty ki, E.ty vi with
      | some ke, some ve => (match and' (keyT ke.t) (and' (Nat.blt (depthT ke.t) 9999) (and' (noOwn ve.t) (eqOk E ke.t (.inl ki)))) with
        | true => some (ki, ke, ve)
        | false => none)
      | _, _ => none)
    | _ => none)
  | none => none

def lookM {α β : Type} (f : α → α → Bool) (k : α) : List (α × β) → Option β
  | [] => none
  | x :: xs => match f k x.1 with
    | true => some x.2
    | false => lookM f k xs

def setM {α β : Type} (f : α → α → Bool) (k : α) (v : β) : List (α × β) → List (α × β)
  | [] => [(k, v)]
  | x :: xs => match f k x.1 with
    | true => (k, v) :: xs
    | false => x :: setM f k v xs

def delM {α β : Type} (f : α → α → Bool) (k : α) : List (α × β) → List (α × β)
  | [] => []
  | x :: xs => match f k x.1 with
    | true => xs
    | false => x :: delM f k xs

def makeMapCmd (ty : TypeId) (hint : Option Operand) (d : Option Nat) : Cmd Unit :=
  match mpTys E ty with
  | some (_, ke, ve) => optK E hint fun _ => lay d (.ov (.mp ke.t ve.t) (some []))
  | none => .fail

def lookupCmd (ty : TypeId) (x i : Operand) (ok : Bool) (d : Option Nat) : Cmd Unit :=
  match mpTys E ty with
  | some (_, ke, ve) => rdK E i fun b => asK ke.t b fun key => rdK E x fun a => mpK a fun p q m _ => (match teq p ke.t, teq q ve.t, cast (.mp p q) (.mp ke.t ve.t) m with
    | true, true, some m => (match ok with
      | true => lay d (.tup [⟨ve.t, (lookM (eqD ke.t) key (m.getD [])).getD ve.zero⟩, ⟨.bool, (lookM (eqD ke.t) key (m.getD [])).isSome⟩])
      | false => lay d (.v ve.t ((lookM (eqD ke.t) key (m.getD [])).getD ve.zero)))
    | _, _, _ => .fail)
  | none => .fail

def mapUpdateCmd (ty : TypeId) (x i v : Operand) (d : Option Nat) : Cmd Unit :=
  match d, mpTys E ty with
  | none, some (_, ke, ve) => rdK E i fun b => asK ke.t b fun key => rdK E v fun c => asK ve.t c fun val => rdK E x fun a => mpK a fun p q m put => (match cast (.mp p q) (.mp ke.t ve.t) m with
    | some m' => .test m'.isSome (match cast (.mp ke.t ve.t) (.mp p q) (some (setM (eqD ke.t) key val (m'.getD []))) with
      | some m2 => put m2 (.ret ())
      | none => .fail) .fail
    | none => .fail)
  | _, _ => .fail

def deleteCmd (ty : TypeId) (x i : Operand) (d : Option Nat) : Cmd Unit :=
  match d, mpTys E ty with
  | none, some (_, ke, ve) => rdK E i fun b => asK ke.t b fun key => rdK E x fun a => mpK a fun p q m put => (match cast (.mp p q) (.mp ke.t ve.t) m with
    | some m' => .test m'.isSome (match cast (.mp ke.t ve.t) (.mp p q) (some (delM (eqD ke.t) key (m'.getD []))) with
      | some m2 => put m2 (.ret ())
      | none => .fail) .fail
    | none => .fail)
  | _, _ => .fail

def clearCmd (ty : TypeId) (x : Operand) (d : Option Nat) : Cmd Unit :=
  match d, mpTys E ty with
  | none, some _ => rdK E x fun a => mpK a fun _ _ m put => .test m.isSome (put (some []) (.ret ())) .fail
  | _, _ => .fail

def lenCmd (ty : TypeId) (x : Operand) (d : Option Nat) : Cmd Unit :=
  tyK E ty fun e => rdK E x fun a =>
    match isStrT e.desc, isSl e.desc with
    | true, _ => (match a with
      | .v .str s => lay d (.v (.int .i64) (s.length : Int))
      | _ => .fail)
    | _, true => (match a with
      | .nilsl => lay d (.v (.int .i64) 0)
      | a => lookK a fun z => match z with
        | ⟨.sl _, xs⟩ => lay d (.v (.int .i64) (xs.length : Int))
        | _ => .fail)
    | _, _ => (match isMp e.desc with
      | true => mpK a fun _ _ m _ => lay d (.v (.int .i64) ((m.getD []).length : Int))
      | false => .fail)

def srcK (t : T) (a : A) (k : List t.den → Cmd α) : Cmd α :=
  match t, a, k with
  | _, .nilsl, k => k []
  | .int .u8, .v .str s, k => k (ofStr s)
  | t, a, k => lookK a fun z => match z with
    | ⟨.sl u, ys⟩ => (match cast (.sl u) (.sl t) ys with
      | some ys => k ys
      | none => .fail)
    | _ => .fail

def bytK (u : T) (xs : List u.den) (k : Nat → List Int → Cmd α) (k' : Cmd α) : Cmd α := match u, xs with
  | .byt q, xs => k q xs
  | _, _ => k'

def appendCmd (ty xT : TypeId) (s x : Operand) (d : Option Nat) : Cmd Unit :=
  tyK E ty fun e => tyK E xT fun ex => match e.desc with
    | .slice el => tyK E el fun ee => (match and' (and' (Nat.blt 0 ee.bytes) (Nat.ble ee.size ee.bytes)) (match ex.desc with
        | .int _ => false
        | _ => true) with
      | true => rdK E s fun a => rdK E x fun b => srcK ee.t b fun ys => (match a with
        | .nilsl => .test (decide (ys.length * ee.bytes ≤ 70368744177664)) (lay d (.row ee.t ys)) .fail
        | .bor r => .get r fun c => (match c with
          | .row t xs => (match cast (.sl t) (.sl ee.t) xs with
            | some xs => .test (decide ((xs.length + ys.length) * ee.bytes ≤ 70368744177664)) (.set r .dead (lay d (.row ee.t (xs ++ ys)))) .fail
            | none => .fail)
          | _ => .fail)
        | .cel r n p => celK r n p fun t z u xs => bytK u xs (fun q xs => (match and' (Nat.beq q el) (teq ee.t (.int .u8)) with
          | true => (match cast (.sl ee.t) (.sl (.int .u8)) ys with
            | some ys => .test (decide ((xs.length + ys.length) * ee.bytes ≤ 70368744177664)) (match putAt t z p .any () with
              | some q' => .cont r (.box q'.1 q'.2) (lay d (.row (.byt q) (xs ++ ys)))
              | none => .fail) .fail
            | none => .fail)
          | false => .fail)) (match cast (.sl u) (.sl ee.t) xs with
          | some xs => .test (decide ((xs.length + ys.length) * ee.bytes ≤ 70368744177664)) (match putAt t z p .any () with
            | some q => .cont r (.box q.1 q.2) (lay d (.row ee.t (xs ++ ys)))
            | none => .fail) .fail
          | none => .fail)
        | _ => .fail)
      | false => .fail)
    | _ => .fail

/-- what a copy leaves: ys over xs from lo on, as far as hi -/
def over {α : Type} (xs : List α) (lo hi : Nat) (ys : List α) : List α := xs.take lo ++ (ys.take (hi - lo) ++ xs.drop (lo + min ys.length (hi - lo)))

def copyN {α : Type} (lo hi : Nat) (ys : List α) : Int := ((min ys.length (hi - lo) : Nat) : Int)

def copyCmd (dT : TypeId) (x y : Operand) (d : Option Nat) : Cmd Unit :=
  tyK E dT fun e => match e.desc with
    | .slice el => tyK E el fun ee => rdK E y fun b => srcK ee.t b fun ys => rdK E x fun a => (match a with
      | .bor r => .get r fun c => (match c with
        | .row t xs => (match cast (.sl t) (.sl ee.t) xs with
          | some xs => .cont r (.row ee.t (over xs 0 xs.length ys)) (lay d (.v (.int .i64) (copyN 0 xs.length ys)))
          | none => .fail)
        | _ => .fail)
      | .cel r n p => celK r n p fun t z u xs => (match cast (.sl u) (.sl ee.t) xs with
        | some xs => (match putAt t z p (.own ee.t) (over xs 0 xs.length ys) with
          | some q => .cont r (.box q.1 q.2) (lay d (.v (.int .i64) (copyN 0 xs.length ys)))
          | none => .fail)
        | none => .fail)
      | .psl r n p u q lo hi => celK r n p fun t z u' xs => (match cast (.sl u') (.sl u) xs with
        | some xs => .test (inb' (.arr 0 u) xs q) (unArr (foc (.arr 0 u) xs q) fun m t' zs => (match cast (.sl t') (.sl ee.t) zs with
          | some zs => (match setAt (.arr 0 u) xs q (.arr m ee.t) (over zs lo hi ys) with
            | some xs' => (match putAt t z p (.own u) xs' with
              | some z' => .cont r (.box z'.1 z'.2) (lay d (.v (.int .i64) (copyN lo hi ys)))
              | none => .fail)
            | none => .fail)
          | none => .fail)) .fail
        | none => .fail)
      | _ => .fail)
    | _ => .fail

def minmaxCmd (mx : Bool) (x y : Operand) (d : Option Nat) : Cmd Unit :=
  rdK E x fun a => rdK E y fun b => match a, b with
    | .v (.int k) m, .v (.int k') n => (match decide (k = k') with
      | true => lay d (.v (.int k) (match mx with
        | true => if n > m then n else m
        | false => if n < m then n else m))
      | false => .fail)
    | _, _ => .fail

/-- boxes that are handed beside the arguments -/
def boxesK : List Nat → Nat → (List A → List (Nat × Nat) → Cmd α) → Cmd α
  | [], _, k => k [] []
  | s :: r, i, k => .get s fun c => match c with
    | .box t y => boxesK r (i + 1) fun l b => k (.box t y :: l) ((s, i) :: b)
    | _ => .fail

/-- the arguments, and the owners of the handed boxes, by their places; xt: what a function value has captured -/
def argsK (xt : List Nat) : List Operand → Nat → (List A → List (Nat × Nat) → Cmd α) → Cmd α
  | [], i, k => boxesK xt i k
  | x :: r, i, k => rdK E x fun a => match a with
    | .bor s => .get s fun c => (match c with
      | .row t xs => .retire s (argsK xt r (i + 1) fun l b => k (.v (.sl t) xs :: l) b)
      | .ov t x => (match frzOk t with
        | true => .retire s (argsK xt r (i + 1) fun l b => k (.v (frz t) (frzD t x) :: l) b)
        | false => .fail)
      | .box .. => argsK xt r (i + 1) fun l b => .get s fun c => (match c with
        | .box t y => k (.box t y :: l) ((s, i) :: b)
        | _ => .fail)
      | _ => .fail)
    | .v t y => argsK xt r (i + 1) fun l b => k (.v t y :: l) b
    | .nilsl => argsK xt r (i + 1) fun l b => k (.nilsl :: l) b
    | .cel s n p => datK (.cel s n p) fun d => argsK xt r (i + 1) fun l b => k (.v d.1 d.2 :: l) b
    | .clo f rs => datK (.clo f rs) fun d => argsK xt r (i + 1) fun l b => k (.v d.1 d.2 :: l) b
    | _ => .fail

def nodupB : List (Nat × Nat) → Bool
  | [] => true
  | p :: r => and' (!(r.any fun q => Nat.beq q.1 p.1)) (nodupB r)

def backK (outs : List A) : List (Nat × Nat) → Cmd α → Cmd α
  | [], k => k
  | (r, i) :: l, k => match outs.getD i .dead with
    | .box t y => .get r fun c => (match c with
      | .box t' _ => (match Nat.beq t.size t'.size with
        | true => .cont r (.box t y) (backK outs l k)
        | false => .fail)
      | _ => .fail)
    | _ => .fail

def resOk : A → Bool
  | .v .. | .row .. | .box .. | .tup _ | .ov .. | .otup _ => true
  | _ => false

/-- what a function value that is a datum has captured -/
def fnArgs : (t : T) → t.den → Option (List A)
  | .unit, _ => some []
  | .pair (.ptr a) b, x => match fnArgs b x.2 with
    | some l => some (.v (.ptr a) x.1 :: l)
    | none => none
  | _, _ => none

def goCall (f : FuncId) (args : List Operand) (xt : List Nat) (xs : List A) (d : Option Nat) : Cmd Unit :=
  argsK E xt args 0 fun l b => match nodupB b with
    | true => .call f (l.append xs) fun x outs => (match resOk x with
      | true => backK outs b (lay d x)
      | false => .fail)
    | false => .fail

/-- pointers that may be none: which of both -/
def refineK : List Operand → Cmd α → Cmd α
  | [], k => k
  | x :: r, k => rdK E x fun a => match a with
    | .bor s => .get s fun c => (match c with
      | .ov t m => (match t, m with
        | .nb u, m => .test m.isSome (.cont s (.box u (m.getD u.dflt)) (refineK r k)) (.cont s (.ov (.nb u) none) (.retire s (refineK r k)))
        | _, _ => refineK r k)
      | _ => refineK r k)
    | _ => refineK r k

def callCmd (c : Call) (d : Option Nat) : Cmd Unit :=
  match c.callee with
  | .value (.func f) => refineK E c.args.toList (goCall E f c.args.toList [] [] d)
  | .value f => rdK E f fun a => (match a with
    | .v .opq (.func (.func f) first captured) => (match and' first.isEmpty captured.isEmpty with
      | true => goCall E f c.args.toList [] [] d
      | false => .fail)
    | .clo f rs => goCall E f c.args.toList rs [] d
    | .v (.fn f t) x => (match fnArgs t x with
      | some l => goCall E f c.args.toList [] l d
      | none => .fail)
    | _ => .fail)
  | .builtin b => (match b, c.args.toList, c.argTypes.toList with
    | .len, [x], [t] => lenCmd E t x d
    | .append, [s, x], [t, u] => appendCmd E t u s x d
    | .copy, [x, y], t :: _ => copyCmd E t x y d
    | .min, [x, y], _ => minmaxCmd E false x y d
    | .max, [x, y], _ => minmaxCmd E true x y d
    | .delete, [x, y], t :: _ => deleteCmd E t x y d
    | .clear, [x], [t] => clearCmd E t x d
    | _, _, _ => .fail)
  | _ => .fail

def extractCmd (x : Operand) (i : Nat) (d : Option Nat) : Cmd Unit :=
  rdK E x fun a => match a with
    | .tup l => (match l[i]? with
      | some z => lay d (.v z.1 z.2)
      | none => .fail)
    | .bor r => .get r fun c => (match c with
      | .otup l => (match l[i]? with
        | some z => (match noOwn z.1 with
          | true => lay d (.v z.1 z.2)
          | false => (match ovT z.1 with
            | true => .cont r (.otup (l.set i ⟨fgt z.1, fgtD z.1 z.2⟩)) (lay d (.ov z.1 z.2))
            | false => .fail))
        | none => .fail)
      | _ => .fail)
    | _ => .fail

/-- an owned row goes on into a variable that keeps it, where the result is to be owned -/
def movesOn (E : Env) (r d : Nat) : Bool := match E.ownRes with
  | true => (match E.keep d with
    | some _ => !(Nat.beq r d)
    | none => false)
  | false => false

/-- a variable is assigned: an owned row stays owned where the variable keeps it, a box moves; else it is given up -/
def asgCmd (x : Operand) (d : Option Nat) : Cmd Unit :=
  match d with
  | none => .fail
  | some d => match x with
    | .tmp s => .get s fun a => (match a with
      | .row t xs => (match E.keep d with
        | some _ => (match Nat.beq s d with
          | true => .fail
          | false => .set s .dead (.set d (.row t xs) (.ret ())))
        | none => .retire s (.set d (.v (.sl t) xs) (.ret ())))
      | .box t y => (match Nat.beq s d with
        | true => .fail
        | false => .set s .dead (.set d (.box t y) (.ret ())))
      | .ov t y => (match Nat.beq s d with
        | true => .fail
        | false => .set s .dead (.set d (.ov t y) (.ret ())))
      | .otup .. => .fail
      | .iter .. => .fail
      | .bor r => .get r fun c => (match c with
        | .row t xs => (match movesOn E r d with
          | true => .set r .dead (.set d (.row t xs) (.ret ()))
          | false => .retire r (.set d (.v (.sl t) xs) (.ret ())))
        | .box .. => .set d (.bor r) (.ret ())
        | .ov .. => .set d (.bor r) (.ret ())
        | _ => .fail)
      | .cel r n p => datK (.cel r n p) fun z => .set d (.v z.1 z.2) (.ret ())
      | .clo f rs => (match E.keep d with
        | some _ => .set d (.clo f rs) (.ret ())
        | none => datK (.clo f rs) fun z => .set d (.v z.1 z.2) (.ret ()))
      | .yld => .fail
      | .nilsl => (match E.keep d with
        | some t => .set d (.row t []) (.ret ())
        | none => .set d .nilsl (.ret ()))
      | .dead => .fail
      | a => .set d a (.ret ()))
    | x => rdK E x fun a => (match a with
      | .nilsl => (match E.keep d with
        | some t => .set d (.row t []) (.ret ())
        | none => .set d .nilsl (.ret ()))
      | a => .set d a (.ret ()))

def rangeCmd (ty : TypeId) (x : Operand) (d : Option Nat) : Cmd Unit :=
  tyK E ty fun e => rdK E x fun a => match isStrT e.desc, a with
    | true, .v .str s => lay d (.iter s 0)
    | _, _ => .fail

def runeAt (s : List UInt8) (i : Nat) : Nat × Nat := Utf8.decode ⟨⟨s⟩⟩ i

def nextCmd (it : Operand) (isString : Bool) (d : Option Nat) : Cmd Unit :=
  match isString with
  | false => .fail
  | true => rdK E it fun a => match a with
    | .bor r => .get r fun c => (match c with
      | .iter s pos => .test (decide (pos < s.length))
          (.cont r (.iter s (pos + (runeAt s pos).2)) (lay d (.tup [⟨.bool, true⟩, ⟨.int .i64, (pos : Int)⟩, ⟨.int .i32, ((runeAt s pos).1 : Int)⟩])))
          (lay d (.tup [⟨.bool, false⟩]))
      | _ => .fail)
    | _ => .fail

def pickCmd (c a b : Operand) (d : Option Nat) : Cmd Unit :=
  rdK E c fun z => match z with
    | .v .bool b' => .test b' (rdK E a fun x => lay d x) (rdK E b fun x => lay d x)
    | _ => .fail

def isPtr : A → Bool
  | .bor _ | .adr .. => true
  | .v (.ptr _) _ => true
  | _ => false

def nilCheckCmd (x : Operand) (d : Option Nat) : Cmd Unit :=
  rdK E x fun a => match a with
    | .bor r => .get r fun c => (match c with
      | .box .. => lay d (.bor r)
      | .ov t x => (match t, x with
        | .nb u, m => .test m.isSome (.cont r (.box u (m.getD u.dflt)) (lay d (.bor r))) .fail
        | _, _ => .fail)
      | _ => .fail)
    | .pel r n p u q => lay d (.pel r n p u q)
    | .adr r t p => lay d (.adr r t p)
    | .v (.ptr t) y => lay d (.v (.ptr t) y)
    | _ => .fail

/-- a function value that captures boxes -/
def mkFnK (f : FuncId) : List Operand → List Nat → Option Nat → Cmd Unit
  | [], rs, d => lay d (.clo f rs.reverse)
  | x :: l, rs, d => rdK E x fun a => match a with
    | .bor r => .get r fun c => (match c with
      | .box .. => mkFnK f l (r :: rs) d
      | _ => .fail)
    | _ => .fail

/-- a function without captured variables -/
def isFn (f : FuncId) (a : A) : Bool := match a with
  | .v .opq (.func (.func g) first captured) => and' (Nat.beq g f) (and' first.isEmpty captured.isEmpty)
  | _ => false

def opCmd (o : Oper) : Cmd Unit :=
  match o.op with
  | .move x => rdK E x fun a => lay o.dst a
  | .assign x => asgCmd E x o.dst
  | .pick c a b => pickCmd E c a b o.dst
  | .alloc el => tyK E el fun e => (match o.dst.bind E.boxT with
    | some t => (match and' (simT t e.t) (selfOk el t) with
      | true => (match toOwn t e.t e.zero with
        | some z => lay o.dst (.box t z)
        | none => .fail)
      | false => .fail)
    | none => lay o.dst (.box e.t e.zero))
  | .box el x => tyK E el fun e => rdK E x fun a => (match o.dst.bind E.boxT with
    | some (.own u) => (match teq (.sl u) e.t with
      | true => takeK a u fun xs => lay o.dst (.box (.own u) xs)
      | false => .fail)
    | some (.fn f .unit) => (match isFn f a with
      | true => lay o.dst (.box (.fn f .unit) ())
      | false => .fail)
    | some t => (match and' (!(noOwn t)) (and' (simT t e.t) (noSelf t)) with
      | true => takeVK a t fun z => lay o.dst (.box t z)
      | false => asK e.t a fun z => lay o.dst (.box e.t z))
    | none => asK e.t a fun z => lay o.dst (.box e.t z))
  | .makeFunc (.func f) first captured => (match first.isEmpty with
    | true => mkFnK E f captured.toList [] o.dst
    | false => .fail)
  | .build t parts => (match o.dst.bind E.boxT with
    | some u => buildOv E u t parts.toList o.dst
    | none => buildCmd E t parts.toList o.dst)
  | .makeMap t h => makeMapCmd E t h o.dst
  | .lookup t x i ok => lookupCmd E t x i ok o.dst
  | .mapUpdate t x i v => mapUpdateCmd E t x i v o.dst
  | .buildSlice t n parts => buildSliceCmd E t n parts.toList o.dst
  | .load t x => (match o.dst.bind E.boxT with
    | some u => loadOv E u t x o.dst
    | none => loadCmd E t x o.dst)
  | .store t x v => (match o.dst with
    | none => storeCmd E t x v
    | some _ => .fail)
  | .nilCheck x => nilCheckCmd E x o.dst
  | .binOp op t x y _ => binCmd E op t x y o.dst
  | .unOp op _ x => unCmd E op x o.dst
  | .convert s t x => convCmd E s t x o.dst
  | .makeSlice t l c => makeSliceCmd E t l c o.dst
  | .slice t x l h m => sliceCmd E t x l h m o.dst
  | .fieldAddr s x f => fieldAddrCmd E s x f o.dst
  | .field s x f => fieldCmd E s x f o.dst
  | .indexAddr t x i => indexAddrCmd E t x i o.dst
  | .index t x i => indexCmd E t x i o.dst
  | .range t x => rangeCmd E t x o.dst
  | .next it s => nextCmd E it s o.dst
  | .extract x i => extractCmd E x i o.dst
  | .call c => callCmd E c o.dst
  | _ => .fail
end
end Go.Lift

/- What it means that a small program of LfD ends, and what follows of the memory: reading operands. -/
set_option linter.all false
namespace Go.Lift

def exec {α : Type} (E : Env) (c : Cmd α) (st : List A) (fp : FP) : Option (α × List A × FP) := c.cps E st fp fun a st fp => some (a, st, fp)

theorem cps_eq {α β : Type} (E : Env) (c : Cmd α) : ∀ (st : List A) (fp : FP) (K : α → List A → FP → Option β), c.cps E st fp K = (exec E c st fp).bind fun r => K r.1 r.2.1 r.2.2 := by
  induction c with
  | ret a => intro st fp K; rfl
  | fail => intro st fp K; rfl
  | get t k ih => intro st fp K; simp only [Cmd.cps, exec]; rw [ih]; rfl
  | set t x k ih => intro st fp K; simp only [Cmd.cps, exec]; cases okSet E st t x <;> simp only [cond]; · rfl
                    · rw [ih]; rfl
  | cont r x k ih => intro st fp K; simp only [Cmd.cps, exec]; cases Nat.blt r st.length <;> simp only [cond]; · rfl
                     · rw [ih]; rfl
  | retire r k ih => intro st fp K; simp only [Cmd.cps, exec]; rw [ih]; rfl
  | test b x y ihx ihy => intro st fp K; simp only [Cmd.cps, exec]; cases b <;> simp only [cond]; · rw [ihy]; rfl
                          · rw [ihx]; rfl
  | call f args k ih =>
    intro st fp K
    simp only [Cmd.cps, exec]
    cases (E.fn f args).val with
    | none => rfl
    | some x => simp only [Option.bind_some]; rw [ih]; rfl
  | guard d x y z ihx ihy ihz =>
    intro st fp K
    simp only [exec, Cmd.cps]
    split
    · rename_i b _
      cases b
      · simp only [cond]; rw [ihy]; rfl
      · simp only [cond]; rw [ihx]; rfl
    · rw [ihz]; rfl
    · rfl

section
variable {E : Env} {α : Type} {st : List A} {fp : FP} {r : α × List A × FP}

theorem exec_ret {a : α} (h : exec E (.ret a) st fp = some r) : r = (a, st, fp) := by simpa [exec, Cmd.cps] using h.symm
theorem exec_fail (h : exec E (.fail : Cmd α) st fp = some r) : False := by simp [exec, Cmd.cps] at h
theorem exec_get {t : Nat} {k : A → Cmd α} (h : exec E (.get t k) st fp = some r) : ∃ fp', exec E (k (st.getD t .dead)) st fp' = some r := ⟨_, h⟩
theorem exec_set {t : Nat} {x : A} {k : Cmd α} (h : exec E (.set t x k) st fp = some r) : okSet E st t x = true ∧ ∃ fp', exec E k (setSt st t x) fp' = some r := by
  simp only [exec, Cmd.cps] at h
  cases hk : okSet E st t x <;> rw [hk] at h
  · simp at h
  · exact ⟨rfl, _, h⟩
theorem exec_cont {t : Nat} {x : A} {k : Cmd α} (h : exec E (.cont t x k) st fp = some r) : t < st.length ∧ ∃ fp', exec E k (contSt st t x) fp' = some r := by
  simp only [exec, Cmd.cps] at h
  cases hk : Nat.blt t st.length <;> rw [hk] at h
  · simp at h
  · exact ⟨by simpa using hk, _, h⟩
theorem exec_retire {t : Nat} {k : Cmd α} (h : exec E (.retire t k) st fp = some r) : ∃ fp', exec E k (retSt st t) fp' = some r := ⟨_, h⟩
theorem exec_test {b : Bool} {x y : Cmd α} (h : exec E (.test b x y) st fp = some r) : (b = true ∧ exec E x st fp = some r) ∨ (b = false ∧ exec E y st fp = some r) := by
  simp only [exec, Cmd.cps] at h
  cases b
  · exact .inr ⟨rfl, h⟩
  · exact .inl ⟨rfl, h⟩
theorem exec_guard {b : Bool} {x : Cmd α} (h : exec E (.test b x .fail) st fp = some r) : b = true ∧ exec E x st fp = some r := by
  rcases exec_test h with h | ⟨_, h⟩
  · exact h
  · exact (exec_fail h).elim
theorem exec_call {f : FuncId} {args : List A} {k : A → List A → Cmd α} (h : exec E (.call f args k) st fp = some r) :
    ∃ x, (E.fn f args).val = some x ∧ exec E (k ((E.fn f args).out x).1 ((E.fn f args).out x).2) st fp = some r := by
  simp only [exec, Cmd.cps] at h
  cases hv : (E.fn f args).val with
  | none => rw [hv] at h; simp at h
  | some x => rw [hv] at h; exact ⟨x, rfl, h⟩
theorem set_getD {st : List A} {d : Nat} {x : A} (h : st.getD d .dead = x) (hx : x ≠ .dead) : st.set d x = st := by
  have hd : st[d]? = some x := by
    simp only [List.getD] at h
    cases hs : st[d]? with
    | none => simp [hs] at h; exact absurd h.symm hx
    | some y => simp [hs] at h; rw [h]
  apply List.ext_getElem?
  intro i
  by_cases hi : d = i
  · subst hi
    have : d < st.length := by
      rcases Nat.lt_or_ge d st.length with h | h
      · exact h
      · rw [List.getElem?_eq_none h] at hd; cases hd
    rw [List.getElem?_set_self this, hd]
  · rw [List.getElem?_set_ne hi]

/-- where a guard is asked: it says true, false, or it was not reached -/
theorem exec_guardAt {d : Nat} {x y z : Cmd α} (h : exec E (.guard d x y z) st fp = some r) :
    (st.getD d .dead = .v .bool true ∧ ∃ fp', exec E x st fp' = some r) ∨ (st.getD d .dead = .v .bool false ∧ ∃ fp', exec E y st fp' = some r) ∨ (st.getD d .dead = .tup [] ∧ ∃ fp', exec E z st fp' = some r) := by
  simp only [exec, Cmd.cps] at h
  split at h
  · rename_i b hb
    cases b
    · simp only [cond] at h
      rw [set_getD hb (by simp)] at h
      exact .inr (.inl ⟨hb, _, h⟩)
    · simp only [cond] at h
      rw [set_getD hb (by simp)] at h
      exact .inl ⟨hb, _, h⟩
  · rename_i hb; exact .inr (.inr ⟨hb, _, h⟩)
  · cases h
end

def aggDesc : TypeDesc → Bool
  | .struct _ | .array .. => true
  | _ => false

def noHp : Hp := fun _ => none

/-- the cells of a zero value -/
def zc : (t : T) → t.den → List Value
  | .int k, x => [.int k x]
  | .bool, x => [.bool x]
  | .str, x => [.string ⟨⟨x⟩⟩]
  | .opq, x => [x]
  | .unit, _ => []
  | .pair a b, x => zc a x.1 ++ zc b x.2
  | .arr _ t, xs => (xs.map (zc t)).flatten
  | .sl _, _ => [.slice none 0 0]
  | .ptr _, _ => []
  | .own _, _ => []
  | .any, _ => []
  | .byt _, _ => []
  | .self _, _ => []
  | .fn _ _, _ => []
  | .mp _ _, _ => []
  | .nb _, _ => []
  | .ifc _ _, _ => [.nilIface]

def zOk : (t : T) → t.den → Bool
  | .int _, _ => true
  | .bool, _ => true
  | .str, _ => true
  | .opq, x => x.oneCell'
  | .unit, _ => true
  | .pair a b, x => and' (zOk a x.1) (zOk b x.2)
  | .arr n t, xs => and' (Nat.beq xs.length n) (xs.all (zOk t))
  | .sl _, xs => xs.isEmpty
  | .ptr _, _ => false
  | .own _, _ => false
  | .any, _ => false
  | .byt _, _ => false
  | .self _, _ => false
  | .fn _ _, _ => false
  | .mp _ _, _ => false
  | .nb _, _ => false
  | .ifc _ _, x => !x.isSome

def zv (t : T) (x : t.den) : Value := match t.isAgg with
  | true => .agg (zc t x).toArray
  | false => (zc t x).headD .nilIface

structure TyOk (P : Program) (i : TypeId) (e : TyI) : Prop where
  und : P.underlying i = some e.desc
  info : ∃ inf, P.info? i = some inf ∧ inf.size = e.size ∧ inf.bytes = e.bytes ∧ ∃ z, inf.zero = some z ∧ VR noHp e.t e.zero z
  size : e.t.size = e.size
  agg : aggDesc e.desc = e.t.isAgg
  cmp : e.cmp = true → P.stoodInHeld i = false ∧ P.eqGuardType P.depth i = false
  zeq : ∃ inf, P.info? i = some inf ∧ inf.zero = some (zv e.t e.zero)
  zok : zOk e.t e.zero = true

/-- the boxes that are handed to a callee, and the data -/
structure ArgsRel (h S : Hp) (args : List A) (vals : List Value) (ob : Nat → List Nat) : Prop where
  len : args.length = vals.length
  rel : ∀ (i : Nat) (x : A), args[i]? = some x → (∃ v, vals[i]? = some v ∧ ARel h S (fun _ => undef) x v (ob i)) ∧ x.refs = []
  out : ∀ i, args.length ≤ i → ob i = []
  inj : ∀ i j b, b ∈ ob i → b ∈ ob j → i = j
  nd : ∀ i, (ob i).Nodup
  hid : ∀ i b, b ∈ ob i → S b = none

def GlobOk (glob : Nat → Option Dat) (S : Hp) : Prop := ∀ g d, glob g = some d → VR S (.ptr d.1) d.2 (.pointer (some ⟨g, 0, none⟩))

def isBoxA : A → Bool
  | .box .. => true
  | _ => false

/-- how a call ends, if its plain result is y: r is the result, outs what the handed boxes hold -/
def Ends (w : World) (S : Hp) (args : List A) (vals : List Value) (ob : Nat → List Nat) (r : A) (outs : List A) (e : Ending) (w' : World) : Prop :=
  ∃ (v : Value) (S' : Hp) (o : List Nat) (ob' : Nat → List Nat), e = .returned v ∧ WF w (fun b => ∃ i, b ∈ ob i) w' ∧ Sub S S' ∧ Sub S' (hp w') ∧
    (∀ b, S' b ≠ none → S b ≠ none ∨ (∃ i, b ∈ ob i) ∨ w.heap.size ≤ b) ∧
    (ARel (hp w') S' (fun _ => undef) r v o ∧ r.refs = []) ∧
    (∀ b ∈ o, S' b = none ∧ ((∃ i, b ∈ ob i) ∨ w.heap.size ≤ b)) ∧ o.Nodup ∧
    (∀ i x, args[i]? = some x → isBoxA x = true → ∃ x' v, outs[i]? = some x' ∧ vals[i]? = some v ∧ isBoxA x' = true ∧ ARel (hp w') S' (fun _ => undef) x' v (ob' i)) ∧
    (∀ i b, b ∈ ob' i → ((∃ j, b ∈ ob j) ∨ w.heap.size ≤ b) ∧ S' b = none ∧ b ∉ o) ∧
    (∀ i j b, b ∈ ob' i → b ∈ ob' j → i = j) ∧ (∀ i, (ob' i).Nodup) ∧ (∀ i, ob i = [] → ob' i = [])

/-- what a call does, if the plain function ends -/
def Contract (P : Program) (glob : Nat → Option Dat) (f : FuncId) (g : List A → Res) : Prop :=
  (∃ fn, P.funcs[f]? = some fn ∧ fn.body.isSome = true ∧ fn.name ≠ "runtime.NumGoroutine") ∧
  ∀ (w : World) (S : Hp) (args : List A) (vals : List Value) (ob : Nat → List Nat), ArgsRel (hp w) S args vals ob → Sub S (hp w) → GlobOk glob S →
    ∀ y, (g args).val = some y → Calls P f vals.toArray w fun e w' => Ends w S args vals ob ((g args).out y).1 ((g args).out y).2 e w'

def mkL : (ts : List T) → denL ts → List Dat
  | [], _ => []
  | t :: ts, x => ⟨t, x.1⟩ :: mkL ts x.2

/-- what a loop knows between two calls of yield, with what is left to give, the blocks that are the loop's, and what the iterator has let it read: it holds on while neither the loop's blocks nor what it reads turn -/
def Stable (J : (Nat → Prop) → Hp → World → Prop) : Prop := ∀ O Sh W W', J O Sh W → WF W (fun b => ¬ O b) W' → Sub Sh (hp W') → J O Sh W'

/-- what an iterator does: it calls yield for each of these, in this order, till yield says no; between two calls it leaves alone what is not its own -/
def ItOk (P : Program) (glob : Nat → Option Dat) (f : FuncId) (g : Dat → ItRes) : Prop :=
  (∃ fn, P.funcs[f]? = some fn ∧ fn.body.isSome = true ∧ fn.name ≠ "runtime.NumGoroutine") ∧
  ∀ (W : World) (S : Hp) (d : Dat) (caps : Array Value), Rd S d.1 d.2 caps.toList → Sub S (hp W) → GlobOk glob S → ∀ xs, (g d).val = some xs →
    ∀ (l : Nat) (J : List (denL (g d).ts) → (Nat → Prop) → Hp → World → Prop) (Jx : (Nat → Prop) → Hp → World → Prop), (∀ ys, Stable (J ys)) → Stable Jx →
      (∀ y ys (O : Nat → Prop) (Sh S1 : Hp) (W1 : World) (vals : Array Value), J (y :: ys) O Sh W1 → Sub Sh S1 → Sub S1 (hp W1) → (∀ b, S1 b ≠ none → Sh b ≠ none ∨ ¬ O b) → TupRel S1 (mkL (g d).ts y) vals.toList →
        YieldAt Fence.wide 0 P l vals W1 fun e W' => ∃ O' : Nat → Prop, (∀ b, O b → O' b) ∧ (∀ b, O' b → O b ∨ (W1.heap.size ≤ b ∧ b < W'.heap.size)) ∧ WF W1 O W' ∧ Sub S1 (hp W') ∧
          ((e = .returned (.bool true) ∧ J ys O' S1 W') ∨ (e = .returned (.bool false) ∧ Jx O' S1 W'))) →
      J xs (fun b => b < W.heap.size) S W → Calls P f (#[.func (.yield l) #[] #[]] ++ caps) W fun e W' => (∃ v, e = .returned v) ∧ ∃ O Sh, J [] O Sh W' ∨ Jx O Sh W'

structure EnvOk (P : Program) (E : Env) : Prop where
  ty : ∀ i e, E.ty i = some e → TyOk P i e
  fn : ∀ f, (∀ args, (E.fn f args).val = none) ∨ Contract P E.glob f (E.fn f)
  it : ∀ f, (∀ d, (E.it f d).val = none) ∨ ItOk P E.glob f (E.it f)
  mixed : P.follows .mixedOrders = true

/-! ## reading operands -/

theorem GlobOk.mono {glob : Nat → Option Dat} {S S' : Hp} (h : Sub S S') (hg : GlobOk glob S) : GlobOk glob S' := fun g d e => (hg g d e).mono h

theorem ofConst_rel {v : Value} {x : A} (h : ofConst v = some x) (H S : Hp) (tv : Nat → Value) : ARel H S tv x v [] ∧ x.refs = [] ∧ x.own = false := by
  have opq : ∀ v : Value, v.oneCell' = true → ARel H S tv (.v .opq v) v [] ∧ (A.v .opq v).refs = [] ∧ (A.v .opq v).own = false := fun v hv => ⟨⟨VR.of_one rfl ⟨rfl, hv⟩, rfl⟩, rfl, rfl⟩
  cases v <;> simp only [ofConst, Option.some.injEq, reduceCtorEq] at h <;> (try (subst h; exact opq _ rfl))
  · subst h; exact ⟨⟨VR.bool, rfl⟩, rfl, rfl⟩
  · subst h; exact ⟨⟨VR.int, rfl⟩, rfl, rfl⟩
  · subst h; exact ⟨⟨VR.of_one rfl rfl, rfl⟩, rfl, rfl⟩
  · rename_i a len cap
    split at h
    all_goals (first | (simp at h; done) | skip)
    all_goals (simp only [Option.some.injEq] at h; subst h)
    all_goals (first | exact opq _ rfl | skip)
    all_goals simp_all [ARel, A.refs, A.own]

section
variable {E : Env} {α : Type} {c : Ctx} {st : List A} {fp : FP} {r : α × List A × FP} {a : Act} {w : World} {S : Hp} {ob : Nat → List Nat}

theorem getD_at {st : List A} {t : Nat} {x : A} (h : st.getD t .dead = x) (hx : x ≠ .dead) : st[t]? = some x := by
  simp only [List.getD] at h
  cases hs : st[t]? with
  | none => simp [hs] at h; exact absurd h.symm hx
  | some y => simp [hs] at h; rw [h]

/-- an operand is read -/
theorem rdK_inv {x : Operand} {k : A → Cmd α} (h : exec E (rdK E x k) st fp = some r) (hs : SimD c st a w S ob) (hg : GlobOk E.glob S) :
    ∃ A fp', exec E (k A) st fp' = some r ∧ ARel (hp w) S (tv a) A (a.eval x) [] ∧ A.own = false ∧ A ≠ .dead ∧ ∀ s ∈ A.refs, ∃ y : Lift.A, st[s]? = some y ∧ y.own = true := by
  cases x with
  | tmp t =>
    simp only [rdK] at h
    obtain ⟨fp', h⟩ := exec_get h
    have own : ∀ y : Lift.A, st.getD t .dead = y → y.own = true → exec E (k (.bor t)) st fp' = some r →
        ∃ A fp', exec E (k A) st fp' = some r ∧ ARel (hp w) S (tv a) A (a.eval (.tmp t)) [] ∧ A.own = false ∧ A ≠ .dead ∧ ∀ s ∈ A.refs, ∃ y : Lift.A, st[s]? = some y ∧ y.own = true := by
      intro y hy ho hk
      refine ⟨.bor t, fp', hk, ⟨rfl, rfl⟩, rfl, by simp, fun s e => ?_⟩
      simp [A.refs] at e; subst e
      exact ⟨y, getD_at hy (fun e => by subst e; simp [A.own] at ho), ho⟩
    have oth : ∀ y : Lift.A, st.getD t .dead = y → y.own = false → y ≠ .dead → exec E (k y) st fp' = some r →
        ∃ A fp', exec E (k A) st fp' = some r ∧ ARel (hp w) S (tv a) A (a.eval (.tmp t)) [] ∧ A.own = false ∧ A ≠ .dead ∧ ∀ s ∈ A.refs, ∃ y : Lift.A, st[s]? = some y ∧ y.own = true := by
      intro y hy ho hd hk
      have hat := getD_at hy hd
      have hrel := hs.rel t y hat
      refine ⟨y, fp', hk, ?_, ho, hd, fun s e => hs.refs t y s hat e⟩
      have := hrel.nil_of_not_own ho
      rw [this] at hrel; exact hrel
    generalize hy : st.getD t .dead = y at h
    cases y <;> dsimp only at h <;> first
      | exact own _ hy rfl h
      | exact (exec_fail h).elim
      | exact oth _ hy rfl (by simp) h
  | const v =>
    simp only [rdK] at h
    split at h
    · rename_i A hA
      obtain ⟨h1, h2, h3⟩ := ofConst_rel hA (hp w) S (tv a)
      exact ⟨A, fp, h, h1, h3, fun e => by subst e; cases v <;> simp [ofConst] at hA; split at hA <;> simp at hA, fun s e => by rw [h2] at e; cases e⟩
    · exact (exec_fail h).elim
  | global g =>
    simp only [rdK] at h
    split at h
    · rename_i d hd
      exact ⟨_, fp, h, ⟨hg g d hd, rfl⟩, rfl, by simp, fun s e => by simp [A.refs] at e⟩
    · exact (exec_fail h).elim
  | func f =>
    simp only [rdK] at h
    exact ⟨_, fp, h, ⟨VR.of_one rfl ⟨rfl, rfl⟩, rfl⟩, rfl, by simp, fun s e => by simp [A.refs] at e⟩

theorem SimD.row_at (hs : SimD c st a w S ob) {t : Nat} {u : T} {xs : List u.den} (h : st.getD t .dead = .row u xs) : ARel (hp w) S (tv a) (.row u xs) (tv a t) (ob t) :=
  hs.rel t _ (getD_at h (by simp))

theorem zc_rd : ∀ (t : T) (x : t.den), zOk t x = true → Rd noHp t x (zc t x)
  | .int _, _, _ => rfl
  | .bool, _, _ => rfl
  | .str, _, _ => rfl
  | .opq, _, h => ⟨rfl, h⟩
  | .unit, _, _ => rfl
  | .pair a b, x, h => ⟨_, _, rfl, zc_rd a x.1 (and'_true h).1, zc_rd b x.2 (and'_true h).2⟩
  | .arr n t, xs, h => by
    obtain ⟨h1, h2⟩ := and'_true h
    refine ⟨Nat.eq_of_beq_eq_true h1, ?_⟩
    clear h h1
    simp only [zc]
    induction xs with
    | nil => rfl
    | cons x xs ih =>
      simp only [List.all_cons, Bool.and_eq_true] at h2
      exact ⟨zc t x, _, by simp, zc_rd t x h2.1, ih h2.2⟩
  | .sl t, xs, h => by
    have h : xs = [] := by simpa [zOk] using h
    subst h
    exact ⟨none, 0, rfl, by simp, .inl rfl⟩
  | .ptr _, _, h => by simp [zOk] at h
  | .own _, _, h => by simp [zOk] at h
  | .any, _, h => by simp [zOk] at h
  | .byt _, _, h => by simp [zOk] at h
  | .self _, _, h => by simp [zOk] at h
  | .fn _ _, _, h => by simp [zOk] at h
  | .mp _ _, _, h => by simp [zOk] at h
  | .nb _, _, h => by simp [zOk] at h
  | .ifc _ _, x, h => .inl ⟨by simpa [zOk] using h, rfl⟩

theorem TyOk.notByt {P : Program} {i : TypeId} {e : TyI} (h : TyOk P i e) (q : Nat) : e.t ≠ .byt q := by
  obtain ⟨d, sz, by_, t, z, cm⟩ := e
  intro hq
  dsimp only at hq
  subst hq
  have := h.zok
  simp [zOk] at this

theorem zv_vr {t : T} {x : t.den} (h : zOk t x = true) : VR noHp t x (zv t x) := by
  have hr := zc_rd t x h
  unfold zv
  cases ht : t.isAgg with
  | true => exact VR.of_agg ht (by simpa using hr)
  | false =>
    refine VR.of_one ht ?_
    have hl := Rd.length _ _ _ hr
    have : t.size = 1 := by cases t <;> simp [T.isAgg] at ht <;> rfl
    rw [this] at hl
    obtain ⟨v, hv⟩ := List.length_eq_one_iff.1 hl
    rw [hv] at hr ⊢
    exact hr

theorem zv_cells {t : T} {x : t.den} (h : zOk t x = true) : (zv t x).cells.toList = zc t x := by
  have hr := zc_rd t x h
  unfold zv
  cases ht : t.isAgg with
  | true => rfl
  | false =>
    have hl := Rd.length _ _ _ hr
    have : t.size = 1 := by cases t <;> simp [T.isAgg] at ht <;> rfl
    rw [this] at hl
    obtain ⟨v, hv⟩ := List.length_eq_one_iff.1 hl
    rw [hv] at hr ⊢
    have h1 := Rd.oneCell ht hr
    simp [List.headD, cells_of_oneCell h1]

theorem offOf_nil (t : T) : offOf t [] = 0 := by cases t <;> rfl

theorem Rd.noOwn {S : Hp} : ∀ (t : T) (x : t.den) (cs : List Value), Rd S t x cs → Lift.noOwn t = true
  | .pair a b, _, _, ⟨c1, c2, e, h1, h2⟩ => by simp [Lift.noOwn, and', Rd.noOwn a _ _ h1, Rd.noOwn b _ _ h2]
  | .own _, _, _, e => e.elim
  | .self _, _, _, e => e.elim
  | .int _, _, _, _ => rfl
  | .bool, _, _, _ => rfl
  | .str, _, _, _ => rfl
  | .opq, _, _, _ => rfl
  | .unit, _, _, _ => rfl
  | .arr _ _, _, _, _ => rfl
  | .sl _, _, _, _ => rfl
  | .ptr _, _, _, _ => rfl
  | .any, _, _, _ => rfl
  | .byt _, _, _, _ => rfl
  | .fn _ _, _, _, _ => rfl
  | .mp _ _, _, _, e => e.elim
  | .nb _, _, _, e => e.elim
  | .ifc _ _, _, _, _ => rfl

theorem putAt_nil (t : T) (x : t.den) (t' : T) (y : t'.den) : putAt t x [] t' y = match Nat.beq t.size t'.size with | true => some ⟨t', y⟩ | false => none := by cases t <;> rfl

theorem setAt_nil (t : T) (x : t.den) (t' : T) (y : t'.den) : setAt t x [] t' y = cast t' t y := by cases t <;> rfl

theorem putAt_some : ∀ (t : T) (x : t.den) (p : List Step) (t1 t2 : T) (y1 : t1.den) (y2 : t2.den) (z : Dat), t1.size = t2.size → putAt t x p t1 y1 = some z → ∃ z1, putAt t x p t2 y2 = some z1 := by
  intro t
  have nil : ∀ (t : T) (x : t.den) (t1 t2 : T) (y1 : t1.den) (y2 : t2.den) (z : Dat), t1.size = t2.size → putAt t x [] t1 y1 = some z → ∃ z1, putAt t x [] t2 y2 = some z1 := by
    intro t x t1 t2 y1 y2 z hsz h
    rw [putAt_nil] at h
    rw [putAt_nil, ← hsz]
    cases hb : Nat.beq t.size t1.size with
    | true => exact ⟨_, rfl⟩
    | false => rw [hb] at h; cases h
  induction t with
  | pair a b iha ihb =>
    intro x p t1 t2 y1 y2 z hsz h
    cases p with
    | nil => exact nil _ _ _ _ _ _ _ hsz h
    | cons s p =>
      cases s with
      | idx i => simp [putAt] at h
      | fld i =>
        cases i with
        | zero =>
          simp only [putAt] at h ⊢
          split at h
          · rename_i q hq
            obtain ⟨z1, hz1⟩ := iha x.1 p t1 t2 y1 y2 q hsz hq
            rw [hz1]; exact ⟨_, rfl⟩
          · cases h
        | succ i =>
          simp only [putAt] at h ⊢
          split at h
          · rename_i q hq
            obtain ⟨z1, hz1⟩ := ihb x.2 (.fld i :: p) t1 t2 y1 y2 q hsz hq
            rw [hz1]; exact ⟨_, rfl⟩
          · cases h
  | _ =>
    intro x p t1 t2 y1 y2 z hsz h
    cases p with
    | nil => exact nil _ _ _ _ _ _ _ hsz h
    | cons s p => cases s <;> simp [putAt] at h

theorem TyOk.noOwn {P : Program} {i : TypeId} {e : TyI} (h : TyOk P i e) : Lift.noOwn e.t = true := (zc_rd _ _ h.zok).noOwn

/-- THE LENS, where data own blocks -/
theorem lensO {m : Nat × Nat} {h S : Hp} : ∀ (t : T) (x : t.den) (p : List Step) (cs : List Value) (bs : List Nat), RdO m h S t x cs bs → inb t x p = true →
    ∃ c0 c1 c2 b0 b1 b2, cs = c0 ++ (c1 ++ c2) ∧ bs = b0 ++ (b1 ++ b2) ∧ c0.length = offOf t p ∧ RdO m h S (foc t x p).1 (foc t x p).2 c1 b1 ∧
      (∀ (h' S' : Hp), Sub S S' → (∀ k ∈ b0 ++ b2, h' k = h k) → ∀ (t' : T) (y : t'.den) (d : List Value) (bs' : List Nat) (z : Dat), putAt t x p t' y = some z → RdO m h' S' t' y d bs' → RdO m h' S' z.1 z.2 (c0 ++ (d ++ c2)) (b0 ++ (bs' ++ b2))) ∧
      (∀ (h' S' : Hp), Sub S S' → (∀ k ∈ b0 ++ b2, h' k = h k) → ∀ (t' : T) (y : t'.den) (d : List Value) (bs' : List Nat) (x' : t.den), setAt t x p t' y = some x' → RdO m h' S' t' y d bs' → t' = (foc t x p).1 ∧ RdO m h' S' t x' (c0 ++ (d ++ c2)) (b0 ++ (bs' ++ b2))) := by
  intro t
  have base : ∀ (t : T) (x : t.den) (cs : List Value) (bs : List Nat), RdO m h S t x cs bs → offOf t [] = 0 → foc t x [] = ⟨t, x⟩ →
    ∃ c0 c1 c2 b0 b1 b2, cs = c0 ++ (c1 ++ c2) ∧ bs = b0 ++ (b1 ++ b2) ∧ c0.length = offOf t [] ∧ RdO m h S (foc t x []).1 (foc t x []).2 c1 b1 ∧
      (∀ (h' S' : Hp), Sub S S' → (∀ k ∈ b0 ++ b2, h' k = h k) → ∀ (t' : T) (y : t'.den) (d : List Value) (bs' : List Nat) (z : Dat), putAt t x [] t' y = some z → RdO m h' S' t' y d bs' → RdO m h' S' z.1 z.2 (c0 ++ (d ++ c2)) (b0 ++ (bs' ++ b2))) ∧
      (∀ (h' S' : Hp), Sub S S' → (∀ k ∈ b0 ++ b2, h' k = h k) → ∀ (t' : T) (y : t'.den) (d : List Value) (bs' : List Nat) (x' : t.den), setAt t x [] t' y = some x' → RdO m h' S' t' y d bs' → t' = (foc t x []).1 ∧ RdO m h' S' t x' (c0 ++ (d ++ c2)) (b0 ++ (bs' ++ b2))) := by
    intro t x cs bs hr h0 hf
    refine ⟨[], cs, [], [], bs, [], by simp, by simp, by rw [h0]; rfl, by rw [hf]; exact hr, ?_, ?_⟩
    · intro h' S' hS _ t' y d bs' z hz hy
      rw [putAt_nil] at hz
      split at hz
      · cases hz; simpa using hy
      · cases hz
    · intro h' S' hS _ t' y d bs' x' hz hy
      rw [setAt_nil] at hz
      obtain ⟨e, e'⟩ := cast_some hz
      subst e; subst e'
      exact ⟨by rw [hf], by simpa using hy⟩
  induction t with
  | pair a b iha ihb =>
    intro x p cs bs hr hi
    cases p with
    | nil => exact base _ x cs bs hr rfl rfl
    | cons s p =>
      cases s with
      | idx i => simp [inb] at hi
      | fld i =>
        obtain ⟨d1, d2, e1, e2, ec, eb, h1, h2⟩ := hr
        cases i with
        | zero =>
          simp only [inb] at hi
          obtain ⟨c0, c1, c2, b0, b1, b2, hc, hb, hl, hf, hp, hs⟩ := iha x.1 p d1 e1 h1 hi
          refine ⟨c0, c1, c2 ++ d2, b0, b1, b2 ++ e2, by rw [ec, hc]; simp, by rw [eb, hb]; simp, by simpa [offOf] using hl, by simpa [foc] using hf, ?_, ?_⟩
          · intro h' S' hS hk t' y d bs' z hz hy
            simp only [putAt] at hz
            split at hz
            · rename_i q hq
              cases hz
              have := hp h' S' hS (fun k hk' => hk k (by simp at hk' ⊢; rcases hk' with h | h <;> simp [h])) t' y d bs' q hq hy
              exact ⟨_, d2, _, e2, by simp, by simp, this, h2.mono hS _ _ _ _ (fun k hk' => hk k (by simp [hk']))⟩
            · cases hz
          · intro h' S' hS hk t' y d bs' x' hz hy
            simp only [setAt] at hz
            split at hz
            · rename_i q hq
              cases hz
              obtain ⟨et, this⟩ := hs h' S' hS (fun k hk' => hk k (by simp at hk' ⊢; rcases hk' with h | h <;> simp [h])) t' y d bs' q hq hy
              exact ⟨by simpa [foc] using et, _, d2, _, e2, by simp, by simp, this, h2.mono hS _ _ _ _ (fun k hk' => hk k (by simp [hk']))⟩
            · cases hz
        | succ i =>
          simp only [inb] at hi
          obtain ⟨c0, c1, c2, b0, b1, b2, hc, hb, hl, hf, hp, hs⟩ := ihb x.2 (.fld i :: p) d2 e2 h2 hi
          refine ⟨d1 ++ c0, c1, c2, e1 ++ b0, b1, b2, by rw [ec, hc]; simp, by rw [eb, hb]; simp, by simp [offOf, hl, RdO.length a _ _ _ h1], by simpa [foc] using hf, ?_, ?_⟩
          · intro h' S' hS hk t' y d bs' z hz hy
            simp only [putAt] at hz
            split at hz
            · rename_i q hq
              cases hz
              have := hp h' S' hS (fun k hk' => hk k (by simp at hk' ⊢; rcases hk' with h | h <;> simp [h])) t' y d bs' q hq hy
              exact ⟨d1, _, e1, _, by simp, by simp, h1.mono hS _ _ _ _ (fun k hk' => hk k (by simp [hk'])), this⟩
            · cases hz
          · intro h' S' hS hk t' y d bs' x' hz hy
            simp only [setAt] at hz
            split at hz
            · rename_i q hq
              cases hz
              obtain ⟨et, this⟩ := hs h' S' hS (fun k hk' => hk k (by simp at hk' ⊢; rcases hk' with h | h <;> simp [h])) t' y d bs' q hq hy
              exact ⟨by simpa [foc] using et, d1, _, e1, _, by simp, by simp, h1.mono hS _ _ _ _ (fun k hk' => hk k (by simp [hk'])), this⟩
            · cases hz
  | arr n t _ =>
    intro xs p cs bs hr hi
    cases p with
    | nil => exact base _ xs cs bs hr rfl rfl
    | cons s p =>
      obtain ⟨eb, hr⟩ := hr
      obtain ⟨c0, c1, c2, hc, hl, hf, hs⟩ := lens (.arr n t) xs (s :: p) cs hr hi
      refine ⟨c0, c1, c2, [], [], [], hc, by rw [eb]; rfl, hl, RdO.of_rd _ _ _ hf, ?_, ?_⟩
      · intro h' S' hS _ t' y d bs' z hz; cases s <;> simp [putAt] at hz
      · intro h' S' hS _ t' y d bs' x' hz hy
        -- the focus owns nothing
        cases s with
        | fld i => simp [inb] at hi
        | idx i =>
        have key : ∀ (u : T) (x : u.den) (p : List Step) (x' : u.den), inb u x p = true → setAt u x p t' y = some x' → t' = (foc u x p).1 := by
          intro u
          induction u with
          | pair a b iha ihb =>
            intro x p x' hi hz
            cases p with
            | nil => rw [setAt_nil] at hz; exact (cast_some hz).1
            | cons s p =>
              cases s with
              | idx i => simp [inb] at hi
              | fld i =>
                cases i with
                | zero =>
                  simp only [setAt] at hz
                  split at hz
                  · rename_i q hq; exact iha x.1 p q (by simpa [inb] using hi) hq
                  · cases hz
                | succ i =>
                  simp only [setAt] at hz
                  split at hz
                  · rename_i q hq; exact ihb x.2 (.fld i :: p) q (by simpa [inb] using hi) hq
                  · cases hz
          | arr m u ih =>
            intro x p x' hi hz
            cases p with
            | nil => rw [setAt_nil] at hz; exact (cast_some hz).1
            | cons s p =>
              cases s with
              | fld i => simp [inb] at hi
              | idx i =>
                simp only [setAt] at hz
                split at hz
                · rename_i q hq; exact ih _ p q ((and'_true (by simpa [inb] using hi)).2) hq
                · cases hz
          | _ =>
            intro x p x' hi hz
            cases p with
            | nil => rw [setAt_nil] at hz; exact (cast_some hz).1
            | cons s p => cases s <;> simp [inb] at hi
        have et := key _ _ _ _ hi hz
        have hno : noOwn t' = true := by rw [et]; exact hf.noOwn
        obtain ⟨e1, hrd⟩ := hy.rd _ _ _ _ hno
        -- the lens, with more that is read
        obtain ⟨c0', c1', c2', hc', hl', hf', hs'⟩ := lens (.arr n t) xs (.idx i :: p) cs (hr.mono hS) hi
        have h1 : c0' = c0 ∧ c1' ++ c2' = c1 ++ c2 := List.append_inj (by rw [← hc', ← hc]) (by rw [hl', hl])
        have h2 : c1' = c1 ∧ c2' = c2 := List.append_inj h1.2 (by rw [hf'.length, hf.length])
        obtain ⟨e2, h3⟩ := hs' t' y d x' hz hrd
        exact ⟨e2, by simp [e1], by rw [← h1.1, ← h2.2]; exact h3⟩
  | _ =>
    intro x p cs bs hr hi
    cases p with
    | nil => exact base _ x cs bs hr rfl rfl
    | cons s p => cases s <;> simp [inb] at hi

/-- the row at a place of an owner's box -/
theorem SimD.cel_row (hs : SimD c st a w S ob) {r n : Nat} {p : List Step} {v : Value} (hA : ARel (hp w) S (tv a) (.cel r n p) v []) {t : T} {x : t.den} (hy : st.getD r .dead = .box t x) (hin : inb t x p = true) (hn : n = offOf t p) {u : T} {xs : List u.den} (hf : foc t x p = ⟨.own u, xs⟩) :
    ∃ b cs E fr b0 b1 b2 c0 c2, ob r = b :: (b0 ++ (b1 ++ b2)) ∧ tv a r = .pointer (some ⟨b, 0, none⟩) ∧ hp w b = some (.cells cs E fr) ∧ Free cs fr ∧ cs.toList = c0 ++ ([v] ++ c2) ∧ c0.length = n ∧ RowRel (hp w) S u xs v b1 ∧
      (∀ (h' S' : Hp), Sub S S' → (∀ k ∈ b0 ++ b2, h' k = hp w k) → ∀ (t' : T) (y : t'.den) (d : List Value) (bs' : List Nat) (z : Dat), putAt t x p t' y = some z → RdO (b, E) h' S' t' y d bs' → RdO (b, E) h' S' z.1 z.2 (c0 ++ (d ++ c2)) (b0 ++ (bs' ++ b2))) := by
  obtain ⟨b, cs, E, fr, bs, hob, hv, hcs, hfr, hr⟩ := hs.rel r _ (getD_at hy (by simp))
  obtain ⟨c0, c1, c2, b0, b1, b2, hc, hb, hl, hfo, hput, _⟩ := lensO t x p _ _ hr hin
  rw [hf] at hfo
  obtain ⟨v', e1, hrow⟩ := hfo
  obtain ⟨_, b', cs', E', fr', hbl, hcs', hcell⟩ := hA
  have : b' = b := by rw [hv] at hbl; simpa [blockOf] using hbl.symm
  subst this
  rw [hcs] at hcs'; cases hcs'
  have ev : v = v' := by
    rw [← Array.getElem?_toList, hc, List.getElem?_append_right (by omega), hl, ← hn, Nat.sub_self, e1] at hcell
    simpa using hcell.symm
  subst ev
  exact ⟨b', cs, E, fr, b0, b1, b2, c0, c2, by rw [hob, hb], hv, hcs, hfr, by rw [hc, e1], by rw [hl, hn], hrow, hput⟩

theorem celK_inv {n0 : Nat} {n : Nat} {p : List Step} {k : (t : T) → t.den → (u : T) → List u.den → Cmd α} (h : exec E (celK n0 n p k) st fp = some r) :
    ∃ t x u xs fp', exec E (k t x u xs) st fp' = some r ∧ st.getD n0 .dead = .box t x ∧ inb t x p = true ∧ n = offOf t p ∧ foc t x p = ⟨.own u, xs⟩ := by
  unfold celK at h
  obtain ⟨fp1, h⟩ := exec_get h
  split at h
  · rename_i t x hy
    split at h
    · rename_i hck
      obtain ⟨h1, h2⟩ := and'_true hck
      unfold unOwn at h
      split at h
      · rename_i u xs hf
        exact ⟨t, x, u, xs, fp1, h, hy, h1, Nat.eq_of_beq_eq_true h2, hf⟩
      · exact (exec_fail h).elim
    · exact (exec_fail h).elim
  · exact (exec_fail h).elim

theorem nodup_mid {b : Nat} {b0 b1 b2 : List Nat} (h : (b :: (b0 ++ (b1 ++ b2))).Nodup) : (b :: (b0 ++ ([] ++ b2))).Nodup ∧ (∀ k ∈ b1, k ∉ b :: (b0 ++ ([] ++ b2))) ∧ b1.Nodup := by
  have h' : (b :: (b0 ++ (b1 ++ b2))).Perm (b1 ++ (b :: (b0 ++ ([] ++ b2)))) := by
    refine ((List.Perm.cons b (List.perm_append_comm_assoc b0 b1 b2))).trans ?_
    simpa using (List.perm_middle (a := b) (l₁ := b1) (l₂ := b0 ++ b2)).symm
  have h2 := h'.nodup_iff.1 h
  rw [List.nodup_append] at h2
  exact ⟨h2.2.1, fun k hk hk2 => h2.2.2 k hk k hk2 rfl, h2.1⟩

/-- a row inside a box is given up: from now on it is read alone -/
theorem SimD.retireCel (hs : SimD c st a w S ob) {r0 n : Nat} {p : List Step} {v : Value} (hA : ARel (hp w) S (tv a) (.cel r0 n p) v []) {t : T} {x : t.den} (hy : st.getD r0 .dead = .box t x) (hin : inb t x p = true) (hn : n = offOf t p) {u : T} {xs : List u.den} (hf : foc t x p = ⟨.own u, xs⟩)
    {z : Dat} (hz : putAt t x p (.sl u) xs = some z) : ∃ S' ob', Sub S S' ∧ VR S' (.sl u) xs v ∧ SimD c (contSt st r0 (.box z.1 z.2)) a w S' ob' := by
  obtain ⟨b, cs, E', fr, b0, b1, b2, c0, c2, hob, hv, hcs, hfr, hc, hl, hrow, hput⟩ := hs.cel_row hA hy hin hn hf
  have hlt : r0 < st.length := by
    rcases Nat.lt_or_ge r0 st.length with h | h
    · exact h
    · rw [hs.out r0 h] at hob; cases hob
  have hnd := hs.nd r0
  rw [hob] at hnd
  obtain ⟨hnd', hdis, _⟩ := nodup_mid hnd
  -- the box forgets the row
  obtain ⟨z1, hz1⟩ : ∃ z1, putAt t x p .any () = some z1 := by
    exact putAt_some t x p (.sl u) .any xs () z (by simp [T.size]) hz
  have hbox : ARel (hp w) S (tv a) (.box z1.1 z1.2) (tv a r0) (b :: (b0 ++ ([] ++ b2))) := by
    refine ⟨b, cs, E', fr, _, rfl, hv, hcs, hfr, ?_⟩
    rw [hc]
    exact hput (hp w) _ (Sub.refl _) (fun _ _ => rfl) .any () [v] [] z1 hz1 ⟨rfl, v, rfl, hrow.one⟩
  have hs1 := hs.content' (w' := w) hlt (b := b) (by rw [hob]; simp) hbox rfl hnd' (fun k hk => .inl (by rw [hob]; simp at hk ⊢; rcases hk with h | h | h <;> simp [h])) (fun _ _ => rfl) hs.frame
  have hun : ∀ k ∈ b1, (∀ i, k ∉ (fun i => if i = r0 then b :: (b0 ++ ([] ++ b2)) else ob i) i) := by
    intro k hk i hi
    dsimp only at hi
    split at hi
    · exact hdis k hk hi
    · rename_i hne
      exact hne (hs.inj i r0 k hi (by rw [hob]; simp [hk]))
  have hmem : ∀ k ∈ b1, k ∈ ob r0 := fun k hk => by rw [hob]; simp [hk]
  obtain ⟨hSS, hs2⟩ := hs1.share b1 (fun k hk => ⟨hun k hk, hs.hid r0 k (hmem k hk), hs.fresh r0 k (hmem k hk), by
    obtain ⟨o, ho⟩ := (hs.rel r0 _ (getD_at hy (by simp))).obj k (hmem k hk); exact ⟨o, ho⟩⟩)
  have hvr : VR (fun b => if b ∈ b1 then hp w b else S b) (.sl u) xs v := hrow.shared hSS (fun k hk => by simp [hk])
  -- and holds it again, as a datum
  have hbox2 : ARel (hp w) (fun b => if b ∈ b1 then hp w b else S b) (tv a) (.box z.1 z.2) (tv a r0) (b :: (b0 ++ ([] ++ b2))) := by
    refine ⟨b, cs, E', fr, _, rfl, hv, hcs, hfr, ?_⟩
    rw [hc]
    exact hput (hp w) _ hSS (fun _ _ => rfl) (.sl u) xs [v] [] z hz ⟨rfl, by have := hvr; unfold VR at this; simpa [T.isAgg] using this⟩
  have hs3 := hs2.content' (w' := w) (by rw [contSt_length]; exact hlt) (b := b) (by simp) hbox2 rfl hnd' (fun k hk => .inl (by simp at hk ⊢; exact hk)) (fun _ _ => rfl) hs2.frame
  have est : contSt (contSt st r0 (.box z1.1 z1.2)) r0 (.box z.1 z.2) = contSt st r0 (.box z.1 z.2) := by
    apply List.ext_getElem?
    intro i
    simp only [contSt]
    by_cases hi : r0 = i
    · subst hi
      rw [List.getElem?_set_self (by simpa using hlt), List.getElem?_set_self (by simpa using hlt)]
    · rw [List.getElem?_set_ne hi, List.getElem?_set_ne hi, List.getElem?_map, List.getElem?_set_ne hi, List.getElem?_map]
      cases st[i]? with
      | none => rfl
      | some q =>
        simp only [Option.map_some]
        congr 1
        rcases killC_cases r0 q with ⟨e, _⟩ | ⟨e, _⟩ <;> rw [e]
        · exact e
        · rfl
  rw [est] at hs3
  exact ⟨_, _, hSS, hvr, hs3⟩

/-- the rows inside a box are given up: the box holds them on, as data -/
theorem SimD.retireBox (hs : SimD c st a w S ob) {r : Nat} {t : T} {y : t.den} (hy : st.getD r .dead = .box t y) :
    ∃ S' ob', Sub S S' ∧ SimD c (contSt st r (.box (frz t) (frzD t y))) a w S' ob' := by
  obtain ⟨b, cs, E', fr, bs, hob, hv, hcs, hfr, hrd⟩ := hs.rel r _ (getD_at hy (by simp))
  have hlt : r < st.length := by
    rcases Nat.lt_or_ge r st.length with h | h
    · exact h
    · rw [hs.out r h] at hob; cases hob
  have hnd := hs.nd r
  rw [hob] at hnd
  have hbox : ARel (hp w) S (tv a) (.box (fgt t) (fgtD t y)) (tv a r) [b] := ⟨b, cs, E', fr, [], rfl, hv, hcs, hfr, RdO.fgt _ _ _ _ hrd⟩
  have hs1 := hs.content' (w' := w) hlt (b := b) (by rw [hob]; simp) hbox rfl (List.nodup_cons.2 ⟨by simp, List.nodup_nil⟩) (fun k hk => .inl (by rw [hob, List.mem_singleton.1 hk]; simp)) (fun _ _ => rfl) hs.frame
  have hmem : ∀ k ∈ bs, k ∈ ob r := fun k hk => by rw [hob]; simp [hk]
  have hun : ∀ k ∈ bs, (∀ i, k ∉ (fun i => if i = r then [b] else ob i) i) := by
    intro k hk i hi
    dsimp only at hi
    split at hi
    · rw [List.mem_singleton.1 hi] at hk
      exact (List.nodup_cons.1 hnd).1 hk
    · rename_i hne
      exact hne (hs.inj i r k hi (hmem k hk))
  obtain ⟨hSS, hs2⟩ := hs1.share bs (fun k hk => ⟨hun k hk, hs.hid r k (hmem k hk), hs.fresh r k (hmem k hk), by
    obtain ⟨o, ho⟩ := (hs.rel r _ (getD_at hy (by simp))).obj k (hmem k hk); exact ⟨o, ho⟩⟩)
  have hbox2 : ARel (hp w) (fun b => if b ∈ bs then hp w b else S b) (tv a) (.box (frz t) (frzD t y)) (tv a r) [b] :=
    ⟨b, cs, E', fr, [], rfl, hv, hcs, hfr, RdO.frz hSS _ _ _ _ (fun k hk => if_pos hk) hrd⟩
  have hs3 := hs2.content' (w' := w) (by rw [contSt_length]; exact hlt) (b := b) (by simp) hbox2 rfl (List.nodup_cons.2 ⟨by simp, List.nodup_nil⟩) (fun k hk => .inl (by simp at hk ⊢; exact hk)) (fun _ _ => rfl) hs2.frame
  have est : contSt (contSt st r (.box (fgt t) (fgtD t y))) r (.box (frz t) (frzD t y)) = contSt st r (.box (frz t) (frzD t y)) := by
    apply List.ext_getElem?
    intro i
    simp only [contSt]
    by_cases hi : r = i
    · subst hi
      rw [List.getElem?_set_self (by simpa using hlt), List.getElem?_set_self (by simpa using hlt)]
    · rw [List.getElem?_set_ne hi, List.getElem?_set_ne hi, List.getElem?_map, List.getElem?_set_ne hi, List.getElem?_map]
      cases st[i]? with
      | none => rfl
      | some q =>
        simp only [Option.map_some]
        congr 1
        rcases killC_cases r q with ⟨e, _⟩ | ⟨e, _⟩ <;> rw [e]
        · exact e
        · rfl
  rw [est] at hs3
  exact ⟨_, _, hSS, hs3⟩

theorem getD_lt {r : Nat} {y : A} (h : st.getD r .dead = y) (hy : y ≠ .dead) : r < st.length := by
  have hat := getD_at h hy
  rcases Nat.lt_or_ge r st.length with h' | h'
  · exact h'
  · simp [List.getElem?_eq_none h'] at hat

theorem retSt_other_own {st : List A} {r s : Nat} {x : A} (hne : s ≠ r) (h : st[s]? = some x) (ho : x.own = true) : (retSt st r)[s]? = some x := by
  unfold retSt
  split
  · rename_i y _
    rw [List.getElem?_set_ne (Ne.symm hne), List.getElem?_map, h]
    cases x <;> simp [A.own] at ho <;> rfl
  · exact h

theorem capsK_inv : ∀ (rs : List Nat) (k : Dat → Cmd α) (st : List A) (fp : FP) (S : Hp) (ob : Nat → List Nat) (r : α × List A × FP), exec E (capsK rs k) st fp = some r → SimD c st a w S ob →
    ∃ d st' fp' S' ob', exec E (k d) st' fp' = some r ∧ SimD c st' a w S' ob' ∧ Sub S S' ∧ Rd S' d.1 d.2 (rs.map (tv a)) ∧ st'.length = st.length
  | [], k, st, fp, S, ob, r, h, hs => ⟨⟨.unit, ()⟩, st, fp, S, ob, h, hs, Sub.refl _, rfl, rfl⟩
  | s :: rs, k, st, fp, S, ob, r, h, hs => by
    simp only [capsK] at h
    obtain ⟨fp1, h⟩ := exec_get h
    split at h
    · rename_i t x hy
      split at h
      · rename_i hn
        obtain ⟨fp2, h⟩ := exec_retire h
        obtain ⟨S1, t1, z1, hS1, e1, hv, hs1⟩ := hs.retire (getD_at hy (by simp)) (y := .v (.ptr t) x) (by simp [retV, hn])
        cases e1
        obtain ⟨d, st2, fp3, S2, ob2, h3, hs2, hS2, hrd, hl⟩ := capsK_inv rs _ _ _ _ _ _ h hs1
        refine ⟨_, st2, fp3, S2, ob2, h3, hs2, hS1.trans hS2, ?_, by rw [hl, retSt_length]⟩
        have hv2 := hv.mono hS2
        unfold VR at hv2
        simp only [T.isAgg, Bool.false_eq_true, if_false] at hv2
        exact ⟨[tv a s], _, rfl, hv2, hrd⟩
      · exact (exec_fail h).elim
    · exact (exec_fail h).elim

/-- a datum is taken; an owned row is given up -/
theorem datK_inv {A : A} {v : Value} {k : Dat → Cmd α} (h : exec E (datK A k) st fp = some r) (hs : SimD c st a w S ob) (hA : ARel (hp w) S (tv a) A v []) :
    ∃ d st' fp' S' ob', exec E (k d) st' fp' = some r ∧ SimD c st' a w S' ob' ∧ Sub S S' ∧ VR S' d.1 d.2 v ∧ st'.length = st.length := by
  cases A <;> simp only [datK] at h <;> (try exact (exec_fail h).elim)
  case v t x => exact ⟨⟨t, x⟩, st, fp, S, ob, h, hs, Sub.refl _, hA.1, rfl⟩
  case bor s =>
    obtain ⟨fp', h⟩ := exec_get h
    generalize hy : st.getD s .dead = y at h
    cases y <;> dsimp only at h <;> (try exact (exec_fail h).elim)
    case row t xs =>
      obtain ⟨fp'', h⟩ := exec_retire h
      obtain ⟨S', t1, z1, hS, e1, hv, hs'⟩ := hs.retire (getD_at hy (by simp)) (y := .v (.sl t) xs) rfl
      cases e1
      exact ⟨⟨.sl t, xs⟩, _, fp'', S', _, h, hs', hS, by rw [hA.1]; exact hv, retSt_length _ _⟩
    case ov t x =>
      split at h
      · rename_i hn
        obtain ⟨fp'', h⟩ := exec_retire h
        obtain ⟨S', t1, z1, hS, e1, hv, hs'⟩ := hs.retire (getD_at hy (by simp)) (y := .v (frz t) (frzD t x)) (retOv_frz hn)
        cases e1
        exact ⟨_, _, fp'', S', _, h, hs', hS, by rw [hA.1]; exact hv, retSt_length _ _⟩
      · exact (exec_fail h).elim
  case cel s n p =>
    obtain ⟨t, x, u, xs, fp1, h, hy, hin, hn, hf⟩ := celK_inv h
    split at h
    · rename_i z hz
      obtain ⟨hlt, fp2, h⟩ := exec_cont h
      obtain ⟨S', ob', hS, hv, hs'⟩ := hs.retireCel hA hy hin hn hf hz
      exact ⟨_, _, fp2, S', ob', h, hs', hS, hv, contSt_length _ _ _⟩
    · exact (exec_fail h).elim
  case clo f rs =>
    obtain ⟨d, st2, fp2, S2, ob2, h2, hs2, hS2, hrd, hl⟩ := capsK_inv rs _ _ _ _ _ _ h hs
    obtain ⟨_, l, ev, el⟩ := hA
    refine ⟨_, st2, fp2, S2, ob2, h2, hs2, hS2, VR.of_one rfl ⟨l, by rw [ev], by rw [el]; exact hrd⟩, hl⟩

/-- a datum is looked at -/
theorem lookK_inv {A : A} {v : Value} {k : Dat → Cmd α} (h : exec E (lookK A k) st fp = some r) (hs : SimD c st a w S ob) (hA : ARel (hp w) S (tv a) A v []) :
    ∃ d fp', exec E (k d) st fp' = some r ∧ VR (hp w) d.1 d.2 v := by
  cases A <;> simp only [lookK] at h <;> (try exact (exec_fail h).elim)
  case v t x => exact ⟨⟨t, x⟩, fp, h, hA.1.mono hs.sub⟩
  case bor s =>
    obtain ⟨fp', h⟩ := exec_get h
    generalize hy : st.getD s .dead = y at h
    cases y <;> dsimp only at h <;> (try exact (exec_fail h).elim)
    case row t xs =>
      exact ⟨⟨.sl t, xs⟩, fp', h, by rw [hA.1]; exact (hs.row_at hy).row_shared hs.sub (fun _ _ => rfl)⟩
  case cel s n p =>
    obtain ⟨t, x, u, xs, fp1, h, hy, hin, hn, hf⟩ := celK_inv h
    obtain ⟨b, cs, E', fr, b0, b1, b2, c0, c2, hob, hv, hcs, hfr, hc, hl, hrow, hput⟩ := hs.cel_row hA hy hin hn hf
    exact ⟨_, fp1, h, hrow.shared hs.sub (fun _ _ => rfl)⟩

theorem cast_VR {S : Hp} {t t' : T} {x : t.den} {y : t'.den} {v : Value} (h : cast t t' x = some y) (hv : VR S t x v) : VR S t' y v := by
  obtain ⟨e, e'⟩ := cast_some h
  subst e; subst e'; exact hv

theorem cast_Rd {S : Hp} {t t' : T} {x : t.den} {y : t'.den} {cs : List Value} (h : cast t t' x = some y) (hv : Rd S t x cs) : Rd S t' y cs := by
  obtain ⟨e, e'⟩ := cast_some h
  subst e; subst e'; exact hv

theorem VR_nil (S : Hp) (t : T) : VR S (.sl t) ([] : List t.den) (.slice none 0 0) := VR.of_one rfl ⟨none, 0, rfl, by simp, .inl rfl⟩

theorem asK_inv {t : T} {A : A} {v : Value} {k : t.den → Cmd α} (h : exec E (asK t A k) st fp = some r) (hs : SimD c st a w S ob) (hA : ARel (hp w) S (tv a) A v []) :
    ∃ x st' fp' S' ob', exec E (k x) st' fp' = some r ∧ SimD c st' a w S' ob' ∧ Sub S S' ∧ VR S' t x v ∧ st'.length = st.length := by
  unfold asK at h
  split at h
  · rename_i u k
    exact ⟨_, st, fp, S, ob, h, hs, Sub.refl _, by rw [hA.1]; exact VR_nil _ _, rfl⟩
  · obtain ⟨d, st', fp', S', ob', h, hs', hS, hv, hl⟩ := datK_inv h hs hA
    split at h
    · rename_i x hx
      exact ⟨x, st', fp', S', ob', h, hs', hS, cast_VR hx hv, hl⟩
    · exact (exec_fail h).elim

theorem intK_inv {A : A} {v : Value} {k : IntKind → Int → Cmd α} (h : exec E (intK A k) st fp = some r) (hA : ARel (hp w) S (tv a) A v []) :
    ∃ j n, exec E (k j n) st fp = some r ∧ v = .int j n := by
  unfold intK at h
  split at h
  · rename_i j n; exact ⟨j, n, h, hA.1.int_inv⟩
  · exact (exec_fail h).elim

theorem tyK_inv {i : TypeId} {k : TyI → Cmd α} (h : exec E (tyK E i k) st fp = some r) : ∃ e, E.ty i = some e ∧ exec E (k e) st fp = some r := by
  unfold tyK at h
  split at h
  · rename_i e he; exact ⟨e, he, h⟩
  · exact (exec_fail h).elim

theorem eval_put (a : Act) (d : Option Nat) (v : Value) : a.put d v = match d with | some t => a.put (some t) v | none => a := by cases d <;> rfl
end
end Go.Lift

/- The model's memory operations, run: cells of one block, loaded and stored. -/
set_option linter.all false
namespace Go.Lift

theorem All.cells {α : Type} {R : α → List Value → Prop} {p : Value → Prop} (h : ∀ x cs, R x cs → ∀ v ∈ cs, p v) : ∀ (xs : List α) (cs : List Value), All R xs cs → ∀ v ∈ cs, p v
  | [], _, e => by simp [All] at e; simp [e]
  | x :: xs, _, ⟨c1, c2, e, h1, h2⟩ => fun v hv => by
    rw [e, List.mem_append] at hv
    exact hv.elim (h x c1 h1 v) (All.cells h xs c2 h2 v)

theorem Rd.ones {S : Hp} : ∀ (t : T) (x : t.den) (cs : List Value), Rd S t x cs → ∀ v ∈ cs, v.oneCell' = true
  | .int _, _, _, e => by simp [Rd] at e; simp [e, Value.oneCell']
  | .bool, _, _, e => by simp [Rd] at e; simp [e, Value.oneCell']
  | .str, _, _, e => by simp [Rd] at e; simp [e, Value.oneCell']
  | .opq, _, _, e => by simp [Rd] at e; simp [e]
  | .unit, _, _, e => by simp [Rd] at e; simp [e]
  | .pair a b, _, _, ⟨c1, c2, e, h1, h2⟩ => fun v hv => by
    rw [e, List.mem_append] at hv
    exact hv.elim (Rd.ones a _ _ h1 v) (Rd.ones b _ _ h2 v)
  | .arr n t, xs, _, ⟨e, h1⟩ => All.cells (Rd.ones t) _ _ h1
  | .sl t, _, _, ⟨a, cap, e, _⟩ => by simp [e, Value.oneCell']
  | .ptr t, _, _, ⟨b, off, c1, e, _⟩ => by simp [e, Value.oneCell']
  | .own _, _, _, e => e.elim
  | .self _, _, _, e => e.elim
  | .any, _, _, ⟨u, e, h⟩ => by simp [e, h]
  | .byt _, _, _, e => by rw [show _ = [_] from e]; simp [Value.oneCell']
  | .fn _ _, _, _, ⟨l, e, _⟩ => by simp [e, Value.oneCell']
  | .mp _ _, _, _, e => e.elim
  | .nb _, _, _, e => e.elim
  | .ifc _ _, _, _, e => by rcases e with ⟨_, e⟩ | ⟨_, _, _, e, _⟩ <;> simp [e, Value.oneCell']

theorem cell?_of_lies {w : World} {b off : Nat} {c1 : List Value} (h : Lies (hp w) b off c1) {j : Nat} {v : Value} (hj : c1[j]? = some v) :
    w.cell? ⟨b, off + j, none⟩ = some v := by
  obtain ⟨all, E, fr, c0, c2, e, e1, e2⟩ := h
  have hlt : j < c1.length := by
    rcases Nat.lt_or_ge j c1.length with h | h
    · exact h
    · simp [List.getElem?_eq_none h] at hj
  have : all[off + j]? = some v := by
    rw [← Array.getElem?_toList, e1, List.getElem?_append_right (by omega), List.getElem?_append_left (by omega), ← hj]
    congr 1; omega
  simp only [hp] at e
  simp [World.cell?, e, this]

theorem addr_add (b off j : Nat) : (⟨b, off, none⟩ : Addr).add j = ⟨b, off + j, none⟩ := by
  unfold Addr.add; split
  · rename_i h; subst h; rfl
  · rfl

section
variable {P : Program} {w : World}

theorem run_loadCells_lies {b off : Nat} {c1 : List Value} (h : Lies (hp w) b off c1) : (loadCells ⟨b, off, none⟩ c1.length).run P w = .ok c1.toArray w :=
  run_loadCells_list (P := P) (w := w) (a := ⟨b, off, none⟩) (cs := c1) fun j v hj => by rw [addr_add]; exact cell?_of_lies h hj

/-- the world with block b's object turned -/
def setObj' (w : World) (b : Nat) (o : Obj) : World := { w with heap := w.heap.setIfInBounds b o }

theorem hp_setObj {b : Nat} {o o' : Obj} (h : hp w b = some o') : hp (setObj' w b o) b = some o := by
  simp only [hp] at h
  have : b < w.heap.size := by
    rcases Nat.lt_or_ge b w.heap.size with h' | h'
    · exact h'
    · simp [Array.getElem?_eq_none h'] at h
  simp [hp, setObj', this]

theorem hp_setObj_ne {b b' : Nat} {o : Obj} (h : b' ≠ b) : hp (setObj' w b o) b' = hp w b' := by
  simp [hp, setObj', Array.getElem?_setIfInBounds_ne (Ne.symm h)]

theorem lt_of_hp {b : Nat} {o : Obj} (h : hp w b = some o) : b < w.heap.size := by
  simp only [hp] at h
  rcases Nat.lt_or_ge b w.heap.size with h' | h'
  · exact h'
  · simp [Array.getElem?_eq_none h'] at h

theorem setCell_eq {b off : Nat} {cs : Array Value} {E : TypeId} {fr : Nat × Nat} (v : Value) (h : hp w b = some (.cells cs E fr)) :
    w.setCell ⟨b, off, none⟩ v = setObj' w b (.cells (cs.setIfInBounds off v) E fr) := by
  have hlt := lt_of_hp h
  simp only [hp] at h
  simp only [World.setCell, setObj']
  congr 1
  apply Array.ext_getElem?
  intro i
  rw [Array.getElem?_modify]
  by_cases hi : b = i
  · subst hi
    rw [if_pos rfl, h, Array.getElem?_setIfInBounds_self_of_lt hlt]
    rfl
  · rw [if_neg hi, Array.getElem?_setIfInBounds_ne hi]

theorem setObj_setObj {b : Nat} {o o' : Obj} : setObj' (setObj' w b o) b o' = setObj' w b o' := by
  simp [setObj']

theorem run_storeCells_free {b : Nat} {E : TypeId} {fr : Nat × Nat} : ∀ (d : List Value) (i off : Nat) (cs : Array Value) (w : World) (c0 c1 c2 : List Value),
    hp w b = some (.cells cs E fr) → Free cs fr → cs.toList = c0 ++ (c1 ++ c2) → c0.length = off + i → c1.length = d.length → (∀ v ∈ d, v.oneCell' = true) →
    ∃ w' cs', (storeCells ⟨b, off, none⟩ d i).run P w = .ok () w' ∧ cs'.toList = c0 ++ (d ++ c2) ∧ w' = setObj' w b (.cells cs' E fr)
  | [], i, off, cs, w, c0, c1, c2, h, hf, e, h0, h1, ho => by
    have : c1 = [] := by cases c1 <;> simp_all
    subst this
    refine ⟨w, cs, rfl, e, ?_⟩
    have hlt := lt_of_hp h
    simp only [hp] at h
    simp only [setObj']
    have : w.heap.setIfInBounds b (.cells cs E fr) = w.heap := by
      apply Array.ext_getElem?
      intro j
      by_cases hj : b = j
      · subst hj; rw [Array.getElem?_setIfInBounds_self_of_lt hlt, h]
      · rw [Array.getElem?_setIfInBounds_ne hj]
    rw [this]
  | v :: d, i, off, cs, w, c0, c1, c2, h, hf, e, h0, h1, ho => by
    obtain ⟨x, c1, rfl⟩ : ∃ x c1', c1 = x :: c1' := by cases c1 <;> simp_all
    have hsz : off + i < cs.size := by
      have := congrArg List.length e
      simp at this; omega
    have hcell : w.cell? ⟨b, off + i, none⟩ = some x := cell?_of_lies (c1 := x :: c1) (j := 0) ⟨cs, E, fr, c0, c2, h, e, h0⟩ rfl
    have hfr : w.frozen? ⟨b, off + i, none⟩ = false := by
      simp only [hp] at h
      have := hf (off + i) hsz
      simp only [World.frozen?, h]
      rw [Bool.and_eq_false_iff]
      simp only [decide_eq_false_iff_not]
      omega
    have hset : (cs.setIfInBounds (off + i) v).toList = (c0 ++ [v]) ++ (c1 ++ c2) := by
      rw [Array.toList_setIfInBounds, e, ← h0, List.set_append_right _ _ (Nat.le_refl _)]
      simp
    have hw' : hp (setObj' w b (.cells (cs.setIfInBounds (off + i) v) E fr)) b = some (.cells (cs.setIfInBounds (off + i) v) E fr) := hp_setObj h
    obtain ⟨w', cs', hrun, hcs, hw⟩ := run_storeCells_free d (i + 1) off _ _ (c0 ++ [v]) c1 c2 hw' (by intro j hj; exact hf j (by simpa using hj)) hset (by simp; omega) (by simpa using h1) (fun u hu => ho u (by simp [hu]))
    refine ⟨w', cs', ?_, by simpa using hcs, by rw [hw, setObj_setObj]⟩
    simp only [storeCells, Sem.run_bind, addr_add]
    rw [run_store P w _ v .plain (ho v (by simp)), hcell]
    simp only [hfr, Bool.false_eq_true, if_false, Result.andThen_ok]
    rw [setCell_eq v h]
    exact hrun

theorem run_typeInfo {i : TypeId} {inf : TypeInfo} (h : P.info? i = some inf) : (typeInfo i).run P w = .ok inf w := by
  simp [typeInfo, h]

theorem run_sizeOf {i : TypeId} {e : TyI} (h : TyOk P i e) : (sizeOf i).run P w = .ok e.size w := by
  obtain ⟨inf, hi, hs, _⟩ := h.info
  simp [sizeOf, run_typeInfo hi, hs]

theorem run_isAgg {i : TypeId} {e : TyI} (h : TyOk P i e) : (isAgg i).run P w = .ok e.t.isAgg w := by
  rw [← h.agg]
  simp only [isAgg, Sem.run_bind, run_underlying h.und, Result.andThen_ok]
  cases e.desc <;> rfl

theorem run_zeroValue {i : TypeId} {e : TyI} (h : TyOk P i e) : ∃ z, (zeroValue i).run P w = .ok z w ∧ VR noHp e.t e.zero z := by
  obtain ⟨inf, hi, hs, hb, z, hz, hv⟩ := h.info
  exact ⟨z, by simp [zeroValue, run_typeInfo hi, hz], hv⟩

theorem noHp_sub (S : Hp) : Sub noHp S := fun _ _ h => by simp [noHp] at h

/-- what lies in memory is loaded as a value -/
theorem run_loadVar {i : TypeId} {e : TyI} (h : TyOk P i e) {S : Hp} {b off : Nat} {c1 : List Value} {x : e.t.den} (hl : Lies (hp w) b off c1) (hr : Rd S e.t x c1) :
    ∃ v, (loadVar i ⟨b, off, none⟩).run P w = .ok v w ∧ VR S e.t x v := by
  have hlen := hr.length
  cases ha : e.t.isAgg with
  | true =>
    refine ⟨.agg c1.toArray, ?_, VR.of_agg ha (by simpa using hr)⟩
    simp only [loadVar, Sem.run_bind, run_isAgg h, ha, Result.andThen_ok, if_true, run_sizeOf h]
    rw [← h.size, ← hlen, run_loadCells_lies hl]
    rfl
  | false =>
    have hsz : e.t.size = 1 := by cases ht : e.t <;> simp_all [T.isAgg, T.size]
    obtain ⟨v, rfl⟩ : ∃ v, c1 = [v] := by
      match c1, hlen with
      | [v], _ => exact ⟨v, rfl⟩
      | [], hl => simp [hsz] at hl
      | _ :: _ :: _, hl => simp [hsz] at hl
    refine ⟨v, ?_, VR.of_one ha hr⟩
    have := cell?_of_lies hl (j := 0) rfl
    simp only [loadVar, Sem.run_bind, run_isAgg h, ha, Result.andThen_ok, Bool.false_eq_true, if_false, run_load]
    rw [show (⟨b, off, none⟩ : Addr) = ⟨b, off + 0, none⟩ from rfl, this]

/-- a value is stored -/
theorem run_storeVar {i : TypeId} {e : TyI} (h : TyOk P i e) {S : Hp} {b off : Nat} {cs : Array Value} {E : TypeId} {fr : Nat × Nat} {c0 c1 c2 : List Value} {x : e.t.den} {v : Value}
    (hb : hp w b = some (.cells cs E fr)) (hf : Free cs fr) (hc : cs.toList = c0 ++ (c1 ++ c2)) (h0 : c0.length = off) (h1 : c1.length = e.t.size) (hv : VR S e.t x v) :
    ∃ w' cs', (storeVar i ⟨b, off, none⟩ v).run P w = .ok () w' ∧ cs'.toList = c0 ++ (v.cells.toList ++ c2) ∧ w' = setObj' w b (.cells cs' E fr) := by
  have hr := hv.cells
  have hlen := hr.length
  obtain ⟨w', cs', hrun, hcs, hw⟩ := run_storeCells_free (P := P) v.cells.toList 0 off cs w c0 c1 c2 hb hf hc (by simpa using h0) (by rw [h1, hlen]) hr.ones
  refine ⟨w', cs', ?_, hcs, hw⟩
  have : v.cells.size = e.size := by rw [← h.size, ← hlen]; simp
  simp only [storeVar, Sem.run_bind, run_sizeOf h, Result.andThen_ok, this, ne_eq, not_true_eq_false, if_false]
  exact hrun
end
end Go.Lift

/- Values that own what they have: taken from where they are, put into literals, into boxes; maps. -/
set_option linter.all false
namespace Go.Lift

theorem RdO.move {m m' : Nat × Nat} {h S : Hp} : ∀ (t : T) (x : t.den) (cs : List Value) (bs : List Nat), noSelf t = true → RdO m h S t x cs bs → RdO m' h S t x cs bs
  | .pair a b, _, _, _, hn, ⟨c1, c2, b1, b2, e, e', h1, h2⟩ => ⟨c1, c2, b1, b2, e, e', RdO.move a _ _ _ (and'_true hn).1 h1, RdO.move b _ _ _ (and'_true hn).2 h2⟩
  | .self _, _, _, _, hn, _ => by simp [noSelf] at hn
  | .own _, _, _, _, _, hr => hr
  | .int _, _, _, _, _, hr => hr
  | .bool, _, _, _, _, hr => hr
  | .str, _, _, _, _, hr => hr
  | .opq, _, _, _, _, hr => hr
  | .unit, _, _, _, _, hr => hr
  | .arr _ _, _, _, _, _, hr => hr
  | .sl _, _, _, _, _, hr => hr
  | .ptr _, _, _, _, _, hr => hr
  | .any, _, _, _, _, hr => hr
  | .byt _, _, _, _, _, hr => hr
  | .fn _ _, _, _, _, _, hr => hr
  | .ifc _ _, _, _, _, _, hr => hr
  | .mp _ _, _, _, _, _, hr => hr
  | .nb _, _, _, _, _, hr => hr

theorem RdO.one {m : Nat × Nat} {h S : Hp} {t : T} {x : t.den} {v : Value} {bs : List Nat} (ht : t.isAgg = false) (hr : RdO m h S t x [v] bs) : v.oneCell' = true := by
  cases t <;> simp [T.isAgg] at ht
  case own => obtain ⟨u, e, hr⟩ := hr; cases e; exact hr.one
  case mp => obtain ⟨u, e, hr⟩ := hr; cases e; exact hr.one
  case nb => rcases hr with ⟨_, e, _⟩ | ⟨_, _, _, _, _, _, _, e, _⟩ <;> cases e <;> rfl
  case self => obtain ⟨_, u, e, _, hu⟩ := hr; cases e; rcases hu with rfl | rfl <;> rfl
  all_goals exact Rd.oneCell (by rfl) hr.2

theorem VRO.cells {h S : Hp} {t : T} {x : t.den} {v : Value} {o : List Nat} (hr : VRO h S t x v o) : RdO (0, 0) h S t x v.cells.toList o := by
  unfold VRO at hr
  split at hr
  · obtain ⟨cs, rfl, hr⟩ := hr; exact hr
  · rename_i ht
    rw [cells_of_oneCell (RdO.one (by simpa using ht) hr)]; exact hr

theorem VRO.of_agg {h S : Hp} {t : T} {x : t.den} {cs : Array Value} {o : List Nat} (ht : t.isAgg = true) (hr : RdO (0, 0) h S t x cs.toList o) : VRO h S t x (.agg cs) o := by
  unfold VRO; rw [if_pos ht]; exact ⟨cs, rfl, hr⟩

theorem VRO.of_one {h S : Hp} {t : T} {x : t.den} {v : Value} {o : List Nat} (ht : t.isAgg = false) (hr : RdO (0, 0) h S t x [v] o) : VRO h S t x v o := by
  unfold VRO; rw [if_neg (by simp [ht])]; exact hr

theorem VRO.of_vr {h S : Hp} {t : T} {x : t.den} {v : Value} (hr : VR S t x v) : VRO h S t x v [] := by
  unfold VR at hr
  split at hr
  · rename_i ht; obtain ⟨cs, rfl, hr⟩ := hr; exact VRO.of_agg ht (RdO.of_rd _ _ _ hr)
  · rename_i ht; exact VRO.of_one (by simpa using ht) (RdO.of_rd _ _ _ hr)

theorem VRO.vr {h S : Hp} {t : T} {x : t.den} {v : Value} {o : List Nat} (hn : noOwn t = true) (hr : VRO h S t x v o) : o = [] ∧ VR S t x v := by
  unfold VRO at hr
  split at hr
  · rename_i ht; obtain ⟨cs, rfl, hr⟩ := hr; obtain ⟨e, hr⟩ := hr.rd _ _ _ _ hn; exact ⟨e, VR.of_agg ht hr⟩
  · rename_i ht; obtain ⟨e, hr⟩ := hr.rd _ _ _ _ hn; exact ⟨e, VR.of_one (by simpa using ht) hr⟩

/-- blocks that nobody has -/
def Float (c : Ctx) (S : Hp) (ob : Nat → List Nat) (o : List Nat) : Prop := o.Nodup ∧ ∀ b ∈ o, (∀ i, b ∉ ob i) ∧ S b = none ∧ (c.B0 b ∨ c.w0.heap.size ≤ b)

section
variable {P : Program} {E : Env} {c : Ctx} {st st' : List A} {fp fp' : FP} {a : Act} {w w' : World} {S : Hp} {ob : Nat → List Nat} {o : Oper}

theorem Float.nil : Float c S ob [] := ⟨.nil, fun b h => by cases h⟩

theorem SimD.float (h : SimD c st a w S ob) {s : Nat} {o : List Nat} (ho : ∀ b ∈ o, b ∈ ob s) (hn : o.Nodup) : Float c S (fun i => if i = s then [] else ob i) o :=
  ⟨hn, fun b hb => ⟨fun i hi => by
    dsimp only at hi
    split at hi
    · cases hi
    · rename_i hne; exact hne (h.inj i s b hi (ho b hb)), h.hid s b (ho b hb), h.fresh s b (ho b hb)⟩⟩

theorem takeVK_inv {α : Type} {r : α × List A × FP} {A : Lift.A} {u : T} {v : Value} {k : u.den → Cmd α} (h : exec E (takeVK A u k) st fp = some r) (hs : SimD c st a w S ob) (hA : ARel (hp w) S (tv a) A v []) :
    ∃ x st' fp' o ob', exec E (k x) st' fp' = some r ∧ SimD c st' a w S ob' ∧ VRO (hp w) S u x v o ∧ Float c S ob' o ∧ (∀ i b, b ∈ ob' i → b ∈ ob i) ∧ (∀ b ∈ o, ∃ i, b ∈ ob i) ∧ st'.length = st.length := by
  unfold takeVK at h
  split at h
  · rename_i s
    obtain ⟨fp1, h⟩ := exec_get h
    have hdrop : ∀ {x : A}, st.getD s .dead = x → x ≠ .dead → ∀ {o : List Nat}, ob s = o → ∃ ob', SimD c (setSt st s .dead) a w S ob' ∧ Float c S ob' o ∧ (∀ i b, b ∈ ob' i → b ∈ ob i) ∧ ∀ b ∈ o, ∃ i, b ∈ ob i := by
      intro x hx hne o ho
      have hlt := getD_lt hx hne
      refine ⟨_, hs.drop hlt, hs.float (fun b hb => by rw [ho]; exact hb) (by rw [← ho]; exact hs.nd s), fun i b hi => ?_, fun b hb => ⟨s, by rw [ho]; exact hb⟩⟩
      split at hi
      · cases hi
      · exact hi
    generalize hy : st.getD s .dead = y at h
    cases y <;> dsimp only at h <;> (try exact (exec_fail h).elim)
    case ov t x =>
      split at h
      · rename_i x' hx
        obtain ⟨_, fp2, h⟩ := exec_set h
        obtain ⟨e, e'⟩ := cast_some hx
        subst e; subst e'
        obtain ⟨_, hr⟩ := hs.rel s _ (getD_at hy (by simp))
        obtain ⟨ob', h1, h2, h3, h4⟩ := hdrop hy (by simp) rfl
        exact ⟨_, _, fp2, ob s, ob', h, h1, by rw [hA.1]; exact hr, h2, h3, h4, setSt_length _ _ _⟩
      · exact (exec_fail h).elim
    case row t xs =>
      split at h
      · rename_i w' k
        split at h
        · rename_i xs' hx
          obtain ⟨_, fp2, h⟩ := exec_set h
          obtain ⟨e, e'⟩ := cast_some hx
          cases e; subst e'
          have hr := hs.rel s _ (getD_at hy (by simp))
          obtain ⟨ob', h1, h2, h3, h4⟩ := hdrop hy (by simp) rfl
          exact ⟨_, _, fp2, ob s, ob', h, h1, by rw [hA.1]; exact VRO.of_one rfl ⟨_, rfl, hr⟩, h2, h3, h4, setSt_length _ _ _⟩
        · exact (exec_fail h).elim
      · exact (exec_fail h).elim
    case box t x =>
      split at h
      · rename_i w' k
        split at h
        · rename_i x' hx
          obtain ⟨_, fp2, h⟩ := exec_set h
          obtain ⟨e, e'⟩ := cast_some hx
          subst e; subst e'
          obtain ⟨b, cs, E', fr, bs, hob, hv, hcs, hfr, hr⟩ := hs.rel s _ (getD_at hy (by simp))
          obtain ⟨ob', h1, h2, h3, h4⟩ := hdrop hy (by simp) rfl
          exact ⟨_, _, fp2, ob s, ob', h, h1, by rw [hA.1]; exact VRO.of_one rfl (.inr ⟨_, b, cs, E', fr, bs, rfl, by rw [hv], hob, hcs, hfr, hr⟩), h2, h3, h4, setSt_length _ _ _⟩
        · exact (exec_fail h).elim
      · exact (exec_fail h).elim
  · split at h
    · exact ⟨_, st, fp, [], ob, h, hs, by rw [hA.1]; exact VRO.of_one rfl ⟨_, rfl, .inl ⟨rfl, ⟨_, rfl, fun _ _ => rfl⟩, rfl⟩⟩, Float.nil, fun _ _ h => h, (fun b hb => by cases hb), rfl⟩
    · exact (exec_fail h).elim
  · split at h
    · have := VR.opq_inv hA.1
      exact ⟨_, st, fp, [], ob, h, hs, by rw [this]; exact VRO.of_one rfl ⟨_, rfl, .inl ⟨rfl, rfl, rfl⟩⟩, Float.nil, fun _ _ h => h, (fun b hb => by cases hb), rfl⟩
    · have := VR.opq_inv hA.1
      exact ⟨_, st, fp, [], ob, h, hs, by rw [this]; exact VRO.of_one rfl (.inl ⟨rfl, rfl, rfl⟩), Float.nil, fun _ _ h => h, (fun b hb => by cases hb), rfl⟩
    · exact (exec_fail h).elim
  · exact (exec_fail h).elim

theorem Float.append {o1 o2 : List Nat} {ob' : Nat → List Nat} (h1 : Float c S ob o1) (h2 : Float c S ob' o2) (hs : ∀ i b, b ∈ ob' i → b ∈ ob i) (ho : ∀ b ∈ o2, ∃ i, b ∈ ob i) : Float c S ob' (o1 ++ o2) := by
  refine ⟨List.nodup_append.2 ⟨h1.1, h2.1, fun x hx y hy e => ?_⟩, fun b hb => ?_⟩
  · subst e; obtain ⟨i, hi⟩ := ho x hy; exact (h1.2 x hx).1 i hi
  · rcases List.mem_append.1 hb with hb | hb
    · exact ⟨fun i hi => (h1.2 b hb).1 i (hs i b hi), (h1.2 b hb).2⟩
    · exact h2.2 b hb

/-! ### literals with parts that own what they have -/

inductive Parts1 (S : Hp) (t : T) (s : Nat → Step) (a : Act) : List (Nat × Operand) → List (Nat × Operand × Option Dat) → Prop
  | nil : Parts1 S t s a [] []
  | dat {i : Nat} {x : Operand} {d : Dat} {l : List (Nat × Operand)} {l1 : List (Nat × Operand × Option Dat)} (ht : tyAt t [s i] = some d.1) (hv : VR S d.1 d.2 (a.eval x)) (h : Parts1 S t s a l l1) : Parts1 S t s a ((i, x) :: l) ((i, x, some d) :: l1)
  | own {i : Nat} {x : Operand} {l : List (Nat × Operand)} {l1 : List (Nat × Operand × Option Dat)} (h : Parts1 S t s a l l1) : Parts1 S t s a ((i, x) :: l) ((i, x, none) :: l1)

theorem Parts1.mono {S S' : Hp} (h : Sub S S') {t : T} {s : Nat → Step} {l : List (Nat × Operand)} {l1 : List (Nat × Operand × Option Dat)} (hp : Parts1 S t s a l l1) : Parts1 S' t s a l l1 := by
  induction hp with
  | nil => exact .nil
  | dat ht hv _ ih => exact .dat ht (hv.mono h) ih
  | own _ ih => exact .own ih

inductive PartsO (h S : Hp) (t : T) (s : Nat → Step) : List (Nat × Dat) → List (Nat × Value) → List Nat → Prop
  | nil : PartsO h S t s [] [] []
  | cons {i : Nat} {d : Dat} {v : Value} {l : List (Nat × Dat)} {vs : List (Nat × Value)} {o1 o2 : List Nat} (ht : tyAt t [s i] = some d.1) (hv : VRO h S d.1 d.2 v o1) (hp : PartsO h S t s l vs o2) : PartsO h S t s ((i, d) :: l) ((i, v) :: vs) (o1 ++ o2)

theorem parts1_inv {α : Type} {r : α × List A × FP} {t : T} {s : Nat → Step} (hgl : ∀ {S : Hp} {ob : Nat → List Nat} {st : List A}, SimD c st a w S ob → GlobOk E.glob S) : ∀ (ps : List (Nat × Operand)) (k : List (Nat × Operand × Option Dat) → Cmd α) (st : List A) (fp : FP) (S : Hp) (ob : Nat → List Nat),
    exec E (parts1 E t s ps k) st fp = some r → SimD c st a w S ob →
    ∃ l st' fp' S' ob', exec E (k l) st' fp' = some r ∧ SimD c st' a w S' ob' ∧ Sub S S' ∧ Parts1 S' t s a ps l
  | [], k, st, fp, S, ob, h, hs => ⟨[], st, fp, S, ob, h, hs, Sub.refl _, .nil⟩
  | (i, x) :: ps, k, st, fp, S, ob, h, hs => by
    simp only [parts1] at h
    split at h
    · rename_i u hu
      split at h
      · obtain ⟨A, fp1, h1, hA, hAo, hAd, hr⟩ := rdK_inv h hs (hgl hs)
        obtain ⟨z, st1, fp2, S1, ob1, h2, hs1, hS, hv, hl⟩ := asK_inv h1 hs hA
        obtain ⟨l, st2, fp3, S2, ob2, h3, hs2, hS2, hp⟩ := parts1_inv hgl ps _ st1 fp2 S1 ob1 h2 hs1
        exact ⟨_, st2, fp3, S2, ob2, h3, hs2, hS.trans hS2, .dat hu (hv.mono hS2) hp⟩
      · obtain ⟨l, st2, fp3, S2, ob2, h3, hs2, hS2, hp⟩ := parts1_inv hgl ps _ st fp S ob h hs
        exact ⟨_, st2, fp3, S2, ob2, h3, hs2, hS2, .own hp⟩
    · exact (exec_fail h).elim

theorem parts2_inv {α : Type} {r : α × List A × FP} {t : T} {s : Nat → Step} (hgl : GlobOk E.glob S) {ps : List (Nat × Operand)} {l1 : List (Nat × Operand × Option Dat)} (hq : Parts1 S t s a ps l1) : ∀ (k : List (Nat × Dat) → Cmd α) (st : List A) (fp : FP) (ob : Nat → List Nat),
    exec E (parts2 E t s l1 k) st fp = some r → SimD c st a w S ob →
    ∃ l st' fp' ob' o, exec E (k l) st' fp' = some r ∧ SimD c st' a w S ob' ∧ PartsO (hp w) S t s l (ps.map fun p => (p.1, a.eval p.2)) o ∧ Float c S ob' o ∧ (∀ i b, b ∈ ob' i → b ∈ ob i) ∧ (∀ b ∈ o, ∃ i, b ∈ ob i) := by
  induction hq with
  | nil => intro k st fp ob h hs; exact ⟨[], st, fp, ob, [], h, hs, .nil, Float.nil, fun _ _ h => h, fun b hb => by cases hb⟩
  | @dat i x d ps l1 ht hv hq ih =>
    intro k st fp ob h hs
    simp only [parts2] at h
    obtain ⟨l, st', fp', ob', o, h1, hs1, h2, h3, h4, h5⟩ := ih _ st fp ob h hs
    exact ⟨_, st', fp', ob', _, h1, hs1, .cons (o1 := []) ht (VRO.of_vr hv) h2, h3, h4, h5⟩
  | @own i x ps l1 hq ih =>
    intro k st fp ob h hs
    simp only [parts2] at h
    split at h
    · rename_i u hu
      obtain ⟨A, fp1, h1, hA, hAo, hAd, hr⟩ := rdK_inv h hs hgl
      obtain ⟨z, st1, fp2, o1, ob1, h2, hs1, hv, hF, hsub, hin, _⟩ := takeVK_inv h1 hs hA
      obtain ⟨l, st', fp', ob', o, h3, hs2, h4, h5, h6, h7⟩ := ih _ st1 fp2 ob1 h2 hs1
      refine ⟨_, st', fp', ob', _, h3, hs2, .cons hu hv h4, hF.append h5 h6 h7, fun i b hb => hsub i b (h6 i b hb), fun b hb => ?_⟩
      rcases List.mem_append.1 hb with hb | hb
      · exact hin b hb
      · obtain ⟨i, hi⟩ := h7 b hb; exact ⟨i, hsub i b hi⟩
    · exact (exec_fail h).elim

theorem foldl_zip' (off : Nat) : ∀ (v : List Value) (k : Nat) (cells : Array Value) (c0 c1 c2 : List Value), cells.toList = c0 ++ (c1 ++ c2) → c0.length = off + k → c1.length = v.length →
    ((v.zipIdx k).foldl (fun cs (x : Value × Nat) => cs.setIfInBounds (off + x.2) x.1) cells).toList = c0 ++ (v ++ c2)
  | [], k, cells, c0, c1, c2, h, h0, h1 => by
    have : c1 = [] := by cases c1 <;> simp_all
    subst this; simpa using h
  | x :: v, k, cells, c0, c1, c2, h, h0, h1 => by
    obtain ⟨y, c1, rfl⟩ : ∃ y c1', c1 = y :: c1' := by cases c1 <;> simp_all
    simp only [List.zipIdx_cons, List.foldl_cons]
    have := foldl_zip' off v (k + 1) (cells.setIfInBounds (off + k) x) (c0 ++ [x]) c1 c2 (by
      rw [Array.toList_setIfInBounds, h, ← h0, List.set_append_right _ _ (Nat.le_refl _)]; simp) (by simp; omega) (by simpa using h1)
    rw [this]; simp

theorem fillO_sound {m : Nat × Nat} {hh S : Hp} {t : T} {s : Nat → Step} {place : Nat → Option (Nat × Nat)} {ok : Nat → Prop} (hm : ∀ i u, tyAt t [s i] = some u → noSelf u = true) (hplace : ∀ (i : Nat) (u : T), ok i → tyAt t [s i] = some u → place i = some (offOf t [s i], u.size))
    (hin : ∀ (i : Nat) (u : T) (x : t.den), ok i → tyAt t [s i] = some u → inb t x [s i] = true) {l : List (Nat × Dat)} {vs : List (Nat × Value)} {o : List Nat} (hp : PartsO hh S t s l vs o) :
    (∀ i ∈ vs.map (·.1), ok i) → ∀ (x y : t.den) (cells : Array Value) (bs : List Nat), RdO m hh S t x cells.toList bs → (bs ++ o).Nodup → setAll t x l s = some y →
      ∃ cells' bs', Instr.fill place cells vs = some cells' ∧ RdO m hh S t y cells'.toList bs' ∧ bs'.Nodup ∧ ∀ k ∈ bs', k ∈ bs ++ o := by
  induction hp with
  | nil => intro _ x y cells bs hr hnd h; simp [setAll] at h; subst h; exact ⟨cells, bs, rfl, hr, by simpa using hnd, fun k hk => by simpa using hk⟩
  | @cons i d v l vs o1 o2 ht hv _ ih =>
    intro hok x y cells bs hr hnd h
    have hoki := hok i (by simp)
    simp only [setAll] at h
    split at h
    · rename_i x1 hx1
      obtain ⟨c0, c1, c2, b0, b1, b2, hc, hb, hl, hr1, _, hset⟩ := lensO t x [s i] _ _ hr (hin i d.1 x hoki ht)
      obtain ⟨et, hr2⟩ := hset hh S (Sub.refl _) (fun _ _ => rfl) d.1 d.2 _ _ x1 hx1 (RdO.move (m' := m) _ _ _ _ (hm i _ ht) hv.cells)
      have hsz : v.cells.size = d.1.size := by have := hv.cells.length; simpa using this
      have hc1 : c1.length = v.cells.toList.length := by rw [hr1.length, ← et]; simp [hsz]
      have hbound : ¬ (cells.size < offOf t [s i] + v.cells.size) := by
        have h1 := congrArg List.length hc
        simp at h1 hc1; omega
      have hperm : ∀ k, k ∈ b0 ++ (o1 ++ b2) → k ∈ bs ++ (o1 ++ o2) := fun k hk => by
        rw [hb]; simp at hk ⊢
        rcases hk with h | h | h <;> simp [h]
      have hnd2 : ((b0 ++ (o1 ++ b2)) ++ o2).Nodup := by
        rw [hb] at hnd
        have hp : ((b0 ++ (b1 ++ b2)) ++ (o1 ++ o2)).Perm (b1 ++ ((b0 ++ (o1 ++ b2)) ++ o2)) := by
          have e1 : ((b0 ++ (b1 ++ b2)) ++ (o1 ++ o2)).Perm (b1 ++ ((b0 ++ b2) ++ (o1 ++ o2))) := by
            rw [← List.append_assoc b1]
            exact (List.perm_append_comm_assoc b0 b1 b2).append_right _
          refine e1.trans (List.Perm.append_left _ ?_)
          have : (b0 ++ b2 ++ (o1 ++ o2)).Perm (b0 ++ (o1 ++ b2) ++ o2) := by
            have e : b0 ++ b2 ++ (o1 ++ o2) = b0 ++ (b2 ++ o1) ++ o2 := by simp
            rw [e]
            exact ((List.perm_append_comm (l₁ := b2) (l₂ := o1)).append_left b0).append_right o2
          exact this
        exact (List.nodup_append.1 (hp.nodup_iff.1 hnd)).2.1
      obtain ⟨cells', bs', hf, hr3, hn3, hm3⟩ := ih (fun j hj => hok j (by simp at hj ⊢; exact .inr hj)) x1 y (v.cells.zipIdx.foldl (fun cs (x : Value × Nat) => cs.setIfInBounds (offOf t [s i] + x.2) x.1) cells) _ (by
        rw [← Array.foldl_toList, Array.toList_zipIdx, foldl_zip' _ _ 0 cells c0 c1 c2 hc (by simpa using hl) hc1]
        exact hr2) hnd2 h
      refine ⟨cells', bs', ?_, hr3, hn3, fun k hk => ?_⟩
      · simp only [Instr.fill, hplace i d.1 hoki ht, hsz]
        rw [if_neg (by simp; omega)]
        exact hf
      · rcases List.mem_append.1 (hm3 k hk) with h | h
        · exact hperm k h
        · simp [h]
    · simp at h

theorem ovK_inv {α : Type} {r : α × List A × FP} {b a0 : A} {k : Option (Nat × Nat) → Cmd α} (h : exec E (ovK b a0 k) st fp = some r) :
    ∃ o fp', exec E (k o) st fp' = some r ∧ ∀ s q, o = some (s, q) → b = .bor s ∧ a0 = .bor q ∧ s ≠ q ∧ ∃ t z y, st.getD s .dead = .ov t z ∧ st.getD q .dead = .box t y ∧ noSelf t = true := by
  unfold ovK at h
  split at h
  · obtain ⟨fp1, h⟩ := exec_get h
    obtain ⟨fp2, h⟩ := exec_get h
    split at h
    · rename_i t z t' y hs hr
      split at h
      · rename_i hck
        obtain ⟨h1, h2⟩ := and'_true hck
        obtain ⟨h2, h3⟩ := and'_true h2
        have e : t' = t := by simpa [teq'] using h1
        subst e
        exact ⟨_, fp2, h, fun s q e => by cases e; exact ⟨rfl, rfl, fun e => by subst e; simp at h3, _, _, _, hs, hr, h2⟩⟩
      · exact ⟨_, fp2, h, fun s q e => by cases e⟩
    · exact ⟨_, fp2, h, fun s q e => by cases e⟩
  · exact ⟨_, fp, h, fun s q e => by cases e⟩

theorem getD_lt' {st : List A} {r : Nat} {y : A} (h : st.getD r .dead = y) (hy : y ≠ .dead) : r < st.length := getD_lt h hy

/-- what a temporary stands for turns, with no more blocks than it has -/
theorem SimD.recast (hs : SimD c st a w S ob) {r : Nat} {x : A} {o' : List Nat} (hr : r < st.length) (hx : ARel (hp w) S (tv a) x (tv a r) o') (hxo : x.own = true) (hnd : o'.Nodup) (ho : ∀ k ∈ o', k ∈ ob r) : SimD c (contSt st r x) a w S (fun i => if i = r then o' else ob i) := by
  have hxr : x.refs = [] := by cases x <;> simp [A.own] at hxo <;> rfl
  have hsub : ∀ i k, k ∈ (fun i => if i = r then o' else ob i) i → k ∈ ob i := fun i k hk => by
    dsimp only at hk
    split at hk
    · rename_i e; rw [e]; exact ho k hk
    · exact hk
  refine ⟨hs.defers.turn fun D h1 h2 h3 h4 => ⟨h1, h2, fun i hi => h3 i (hsub i D hi)⟩, by rw [contSt_length]; exact hs.size, ?_, ?_, fun i hi => ?_, fun i j k hi hj => hs.inj i j k (hsub i k hi) (hsub j k hj), fun i => ?_, fun i k hi => hs.hid i k (hsub i k hi), hs.sub, hs.mono, fun i k hi => hs.fresh i k (hsub i k hi), hs.newS, hs.lent, hs.frame⟩
  · intro i y hy
    by_cases hi : i = r
    · subst hi
      rw [contSt_at _ _ _ hr] at hy; simp at hy; subst hy
      simp only [if_true]; exact hx
    · simp only [if_neg hi]
      rcases contSt_other hi hy with ⟨hy', hne⟩ | ⟨rfl, z, hz, hzo⟩
      · exact hs.rel i y hy'
      · exact (hs.rel i z hz).nil_of_not_own hzo
  · intro i y s hy hys
    have key : ∀ s : Nat, (∃ z : A, st[s]? = some z ∧ z.own = true) → ∃ z : A, (contSt st r x)[s]? = some z ∧ z.own = true := by
      intro s ⟨z, hz, hzo⟩
      by_cases hs' : s = r
      · subst hs'; exact ⟨x, contSt_at _ _ _ hr, hxo⟩
      · refine ⟨killC r z, by rw [contSt, List.getElem?_set_ne (Ne.symm hs'), List.getElem?_map, hz]; rfl, by rw [killC_own]; exact hzo⟩
    by_cases hi : i = r
    · subst hi
      rw [contSt_at _ _ _ hr] at hy; simp at hy; subst hy
      rw [hxr] at hys; cases hys
    · rcases contSt_other hi hy with ⟨hy', _⟩ | ⟨rfl, _⟩
      · exact key s (hs.refs i y s hy' hys)
      · simp [A.refs] at hys
  · rw [contSt_length] at hi
    simp only [if_neg (show ¬ i = r by omega)]
    exact hs.out i hi
  · split
    · exact hnd
    · exact hs.nd i

theorem SimD.recast1 (hs : SimD c st a w S ob) {r : Nat} {x : A} (hr : r < st.length) (hx : ARel (hp w) S (tv a) x (tv a r) (ob r)) (hxo : x.own = true) : SimD c (contSt st r x) a w S ob := by
  have := hs.recast hr hx hxo (hs.nd r) (fun k hk => hk)
  have e : (fun i => if i = r then ob r else ob i) = ob := by funext i; split <;> simp_all
  rwa [e] at this

theorem fgt_agg : ∀ (t : T), (fgt t).isAgg = t.isAgg := by
  intro t; cases t <;> rfl

theorem VRO.fgt {h S : Hp} {t : T} {x : t.den} {v : Value} {o : List Nat} (hr : VRO h S t x v o) : VRO h S (Lift.fgt t) (fgtD t x) v [] := by
  unfold VRO at hr
  split at hr
  · rename_i ht; obtain ⟨cs, rfl, hr⟩ := hr; exact VRO.of_agg (by rw [fgt_agg]; exact ht) (RdO.fgt _ _ _ _ hr)
  · rename_i ht; exact VRO.of_one (by rw [fgt_agg]; simpa using ht) (RdO.fgt _ _ _ _ hr)

theorem OTup.part {h S : Hp} : ∀ {l : List Dat} {vs : List Value} {o : List Nat} {i : Nat} {z : Dat}, OTup h S l vs o → l[i]? = some z →
    ∃ v o1 o2, vs[i]? = some v ∧ VRO h S z.1 z.2 v o1 ∧ OTup h S (l.set i ⟨Lift.fgt z.1, fgtD z.1 z.2⟩) vs o2 ∧ o.Perm (o1 ++ o2)
  | [], _, _, _, _, _, e => by simp at e
  | d :: l, _, _, 0, z, ⟨v, vs', o1, o2, e1, e2, h1, h2⟩, e => by
    simp at e; subst e
    exact ⟨v, o1, o2, by rw [e1]; rfl, h1, ⟨v, vs', [], o2, e1, rfl, h1.fgt, h2⟩, by rw [e2]⟩
  | d :: l, _, _, i + 1, z, ⟨v, vs', o1, o2, e1, e2, h1, h2⟩, e => by
    obtain ⟨v', p1, p2, h3, h4, h5, h6⟩ := OTup.part h2 (i := i) (by simpa using e)
    refine ⟨v', p1, o1 ++ p2, by rw [e1]; simpa using h3, h4, ⟨v, vs', o1, p2, e1, rfl, h1, h5⟩, ?_⟩
    rw [e2]
    exact (h6.append_left o1).trans (List.perm_append_comm_assoc _ _ _)

theorem OTup.plain {h S : Hp} {l : List Dat} {vs : List Value} {o : List Nat} {i : Nat} {z : Dat} (ht : OTup h S l vs o) (hz : l[i]? = some z) (hn : noOwn z.1 = true) : ∃ v, vs[i]? = some v ∧ VR S z.1 z.2 v := by
  obtain ⟨v, o1, o2, h1, h2, _⟩ := ht.part hz
  exact ⟨v, h1, (h2.vr hn).2⟩

theorem run_storeVar0 {i : TypeId} {e : TyI} (h : TyOk P i e) {b off : Nat} {cs : Array Value} {E : TypeId} {fr : Nat × Nat} {c0 c1 c2 : List Value} {v : Value}
    (hb : hp w b = some (.cells cs E fr)) (hf : Free cs fr) (hc : cs.toList = c0 ++ (c1 ++ c2)) (h0 : c0.length = off) (h1 : c1.length = e.t.size) (hlen : v.cells.toList.length = e.t.size) (hv : ∀ u ∈ v.cells.toList, u.oneCell' = true) :
    ∃ w' cs', (storeVar i ⟨b, off, none⟩ v).run P w = .ok () w' ∧ cs'.toList = c0 ++ (v.cells.toList ++ c2) ∧ w' = setObj' w b (.cells cs' E fr) := by
  obtain ⟨w', cs', hrun, hcs, hw⟩ := run_storeCells_free (P := P) v.cells.toList 0 off cs w c0 c1 c2 hb hf hc (by simpa using h0) (by rw [h1, hlen]) hv
  refine ⟨w', cs', ?_, hcs, hw⟩
  have : v.cells.size = e.size := by rw [← h.size, ← hlen]; simp
  simp only [storeVar, Sem.run_bind, run_sizeOf h, Result.andThen_ok, this, ne_eq, not_true_eq_false, if_false]
  exact hrun

theorem RdO.ones {m : Nat × Nat} {h S : Hp} : ∀ (t : T) (x : t.den) (cs : List Value) (bs : List Nat), RdO m h S t x cs bs → ∀ v ∈ cs, v.oneCell' = true
  | .pair a b, _, _, _, ⟨c1, c2, b1, b2, e, e', h1, h2⟩, v, hv => by
    rw [e, List.mem_append] at hv
    exact hv.elim (RdO.ones a _ _ _ h1 v) (RdO.ones b _ _ _ h2 v)
  | .own _, _, _, _, ⟨u, e, hr⟩, v, hv => by rw [e, List.mem_singleton] at hv; rw [hv]; exact hr.one
  | .mp _ _, _, _, _, ⟨u, e, hr⟩, v, hv => by rw [e, List.mem_singleton] at hv; rw [hv]; exact hr.one
  | .nb _, _, _, _, hr, v, hv => by
    rcases hr with ⟨_, e, _⟩ | ⟨_, _, _, _, _, _, _, e, _⟩ <;> (rw [e, List.mem_singleton] at hv; rw [hv]; rfl)
  | .self _, _, _, _, ⟨_, u, e, _, hu⟩, v, hv => by
    rw [e, List.mem_singleton] at hv; rw [hv]
    rcases hu with rfl | rfl <;> rfl
  | .int _, _, _, _, hr, v, hv => hr.2.ones _ _ _ v hv
  | .bool, _, _, _, hr, v, hv => hr.2.ones _ _ _ v hv
  | .str, _, _, _, hr, v, hv => hr.2.ones _ _ _ v hv
  | .opq, _, _, _, hr, v, hv => hr.2.ones _ _ _ v hv
  | .unit, _, _, _, hr, v, hv => hr.2.ones _ _ _ v hv
  | .arr _ _, _, _, _, hr, v, hv => hr.2.ones _ _ _ v hv
  | .sl _, _, _, _, hr, v, hv => hr.2.ones _ _ _ v hv
  | .ptr _, _, _, _, hr, v, hv => hr.2.ones _ _ _ v hv
  | .any, _, _, _, hr, v, hv => hr.2.ones _ _ _ v hv
  | .byt _, _, _, _, hr, v, hv => hr.2.ones _ _ _ v hv
  | .fn _ _, _, _, _, hr, v, hv => hr.2.ones _ _ _ v hv
  | .ifc _ _, _, _, _, hr, v, hv => hr.2.ones _ _ _ v hv

/-! ### maps -/

theorem run_getMap {r : Nat} {es : Array MapEntry} {cl : Nat} (h : hp w r = some (.map es cl)) : (getObj r).run P w = .ok (.map es cl) w := by
  simp only [hp] at h
  simp [getObj, Sem.run, h]

theorem Ents.length {S : Hp} {k v : T} : ∀ {xs : List (k.den × v.den)} {es : List MapEntry}, Ents S k v xs es → es.length = xs.length
  | [], _, e => by rw [show _ = [] from e]; rfl
  | _ :: _, _, ⟨e, es', e1, _, _, h3⟩ => by rw [e1, List.length_cons, List.length_cons, Ents.length h3]

theorem mpK_inv {α : Type} {res : α × List A × FP} {A : Lift.A} {v : Value} {k : (p q : T) → Option (List (p.den × q.den)) → (Option (List (p.den × q.den)) → Cmd α → Cmd α) → Cmd α} (h : exec E (mpK A k) st fp = some res) (hs : SimD c st a w S ob) (hA : ARel (hp w) S (tv a) A v []) :
    ∃ p q m put fp', exec E (k p q m put) st fp' = some res ∧ ∃ o, MpRel (hp w) S p q m v o ∧ (∀ b ∈ o, ∃ i, b ∈ ob i) ∧
      ∀ (m' : Option (List (p.den × q.den))) (cc : Cmd α) (fp1 : FP), exec E (put m' cc) st fp1 = some res → ∃ st' fp2, exec E cc st' fp2 = some res ∧
        ∀ (w' : World), MpRel (hp w') S p q m' v o → (∀ b', b' ∉ o → hp w' b' = hp w b') → WF c.w0 c.B0 w' → o ≠ [] → SimD c st' a w' S ob := by
  unfold mpK at h
  split at h
  · rename_i r
    obtain ⟨fp1, h⟩ := exec_get h
    generalize hy : st.getD r .dead = y at h
    cases y <;> dsimp only at h <;> (try exact (exec_fail h).elim)
    case ov t x =>
      split at h
      · rename_i p q m
        obtain ⟨_, hr⟩ := hs.rel r _ (getD_at hy (by simp))
        unfold VRO at hr
        simp only [T.isAgg, Bool.false_eq_true, if_false] at hr
        obtain ⟨u, e, hm⟩ := hr
        have hvu : v = u := by rw [hA.1]; simpa using e
        subst hvu
        refine ⟨p, q, m, _, fp1, h, ob r, hm, fun b hb => ⟨r, hb⟩, fun m' cc fp2 h2 => ?_⟩
        obtain ⟨hlt, fp3, h3⟩ := exec_cont h2
        refine ⟨_, fp3, h3, fun w' hm' hsame hf hne => ?_⟩
        obtain ⟨b, hb⟩ : ∃ b, ob r = [b] := by
          rcases hm with ⟨_, _, e⟩ | ⟨_, b, _, _, _, e, _⟩
          · exact absurd e hne
          · exact ⟨b, e⟩
        exact hs.content (w' := w') hlt (b := b) (by rw [hb]; simp) ⟨rfl, VRO.of_one rfl ⟨_, by rw [← hA.1], hm'⟩⟩ rfl (fun b' hb' => hsame b' (by rw [hb]; simpa using hb')) hf
      · exact (exec_fail h).elim
  · rename_i r n p0
    obtain ⟨fp1, h⟩ := exec_get h
    generalize hy : st.getD r .dead = y at h
    cases y <;> dsimp only at h <;> (try exact (exec_fail h).elim)
    case box t x =>
      split at h
      · rename_i hck
        obtain ⟨hin, hn⟩ := and'_true hck
        have hn := Nat.eq_of_beq_eq_true hn
        split at h
        · rename_i p q m hf
          obtain ⟨b, cs, E', fr, bs, hob, hv, hcs, hfr, hr⟩ := hs.rel r _ (getD_at hy (by simp))
          obtain ⟨c0, c1, c2, b0, b1, b2, hc, hb, hl, hfo, hput, _⟩ := lensO t x p0 _ _ hr hin
          rw [hf] at hfo
          obtain ⟨u, e1, hm⟩ := hfo
          obtain ⟨_, b', cs', E'', fr', hbl, hcs', hcell⟩ := hA
          have : b' = b := by rw [hv] at hbl; simpa [blockOf] using hbl.symm
          subst this
          rw [hcs] at hcs'; cases hcs'
          have ev : v = u := by
            rw [← Array.getElem?_toList, hc, List.getElem?_append_right (by omega), hl, ← hn, Nat.sub_self, e1] at hcell
            simpa using hcell.symm
          subst ev
          refine ⟨p, q, m, _, fp1, h, b1, hm, fun k hk => ⟨r, by rw [hob, hb]; simp [hk]⟩, fun m' cc fp2 h2 => ?_⟩
          split at h2
          · rename_i z hz
            obtain ⟨hlt, fp3, h3⟩ := exec_cont h2
            refine ⟨_, fp3, h3, fun w' hm' hsame hwf hne => ?_⟩
            obtain ⟨b2', hb2⟩ : ∃ b, b1 = [b] := by
              rcases hm with ⟨_, _, e⟩ | ⟨_, b, _, _, _, e, _⟩
              · exact absurd e hne
              · exact ⟨b, e⟩
            have hnd := hs.nd r
            rw [hob, hb, hb2] at hnd
            have hne1 : b' ≠ b2' := fun e => by
              subst e; exact (List.nodup_cons.1 hnd).1 (by simp)
            have hnb : ∀ k ∈ b0 ++ b2, k ≠ b2' := fun k hk e => by
              subst e
              have h1 := (List.nodup_cons.1 hnd).2
              rw [List.nodup_append] at h1
              rcases List.mem_append.1 hk with hk | hk
              · exact h1.2.2 k hk k (by simp) rfl
              · exact (List.nodup_cons.1 h1.2.1).1 hk
            refine hs.content (w' := w') hlt (b := b2') (by rw [hob, hb, hb2]; simp) ⟨b', cs, E', fr, bs, hob, hv, by rw [hsame b' (by rw [hb2]; simpa using hne1)]; exact hcs, hfr, ?_⟩ rfl (fun k hk => hsame k (by rw [hb2]; simpa using hk)) hwf
            rw [hc, hb]
            exact hput (hp w') S (Sub.refl _) (fun k hk => hsame k (by rw [hb2]; simpa using hnb k hk)) _ _ _ _ z hz ⟨_, e1, hm'⟩
          · exact (exec_fail h2).elim
        · exact (exec_fail h).elim
      · exact (exec_fail h).elim
  · exact (exec_fail h).elim
end
end Go.Lift

/- == of structs and arrays. -/
set_option linter.all false
namespace Go.Lift
section
variable {P : Program} {w : World}

theorem size_str (s : List UInt8) : (⟨⟨s⟩⟩ : ByteArray).size = s.length := by simp [ByteArray.size]

theorem strT {E : Env} {i : TypeId} {e : TyI} (hb : EnvOk P E) (he : E.ty i = some e) (h : isStrT e.desc = true) : P.underlying i = some .string := by
  rw [(hb.ty i e he).und]
  cases hd : e.desc <;> rw [hd] at h <;> simp [isStrT] at h ⊢

theorem run_part {i : TypeId} {e : TyI} (h : TyOk P i e) {cs : Array Value} {c0 c1 c2 : List Value} {x : e.t.den} {S : Hp} (hc : cs.toList = c0 ++ (c1 ++ c2)) (hr : Rd S e.t x c1) :
    ∃ v, (part i cs c0.length).run P w = .ok v w ∧ VR S e.t x v := by
  have hlen := hr.length
  cases ha : e.t.isAgg with
  | true =>
    refine ⟨.agg (cs.extract c0.length (c0.length + e.size)), ?_, VR.of_agg ha ?_⟩
    · simp [part, run_isAgg h, ha, run_sizeOf h]
    · have : (cs.extract c0.length (c0.length + e.size)).toList = c1 := by
        rw [Array.toList_extract, hc, ← h.size, ← hlen]
        simp [List.extract]
      rw [this]; exact hr
  | false =>
    have hsz : e.t.size = 1 := by cases ht : e.t <;> simp_all [T.isAgg, T.size]
    obtain ⟨v, rfl⟩ : ∃ v, c1 = [v] := by
      match c1, hlen with
      | [v], _ => exact ⟨v, rfl⟩
      | [], hl => simp [hsz] at hl
      | _ :: _ :: _, hl => simp [hsz] at hl
    refine ⟨v, ?_, VR.of_one ha hr⟩
    have : cs[c0.length]? = some v := by rw [← Array.getElem?_toList, hc]; simp
    simp [part, run_isAgg h, ha, this]


theorem teq_eq' {t t' : T} (h : teq t t' = true) : t = t' := by simpa [teq] using h

theorem VR.agg_inv {S : Hp} {u : T} {x : u.den} {v : Value} (hu : u.isAgg = true) (h : VR S u x v) : ∃ cs, v = .agg cs ∧ Rd S u x cs.toList := by
  unfold VR at h; rw [if_pos hu] at h; exact h

theorem eqLs_nil {α : Type} (f : α → α → Bool) : eqLs f [] [] = true := rfl

theorem fieldsOf_eq {i : TypeId} {fs : Array Field} (h : P.underlying i = some (.struct fs)) : P.fieldsOf i = fs := by simp [Program.fieldsOf, h]

theorem eq_T {E : Env} (hb : EnvOk P E) {S : Hp} : ∀ (u : T),
    (∀ (i : TypeId) (d : Nat) (x y : u.den) (v v' : Value), eqOk E u (.inl i) = true → depthT u ≤ d → VR S u x v → VR S u y v' → (Op.equalIn (d + 1) i v v').run P w = .ok (eqD u x y) w) ∧
    (∀ (fs : List Field) (off d : Nat) (xs ys : Array Value) (c0 c1 d0 d1 : List Value) (x y : u.den), eqOk E u (.inr (fs, off)) = true → depthT u ≤ d → xs.toList = c0 ++ c1 → c0.length = off → ys.toList = d0 ++ d1 → d0.length = off →
      Rd S u x c1 → Rd S u y d1 → (Op.eqFields d xs ys fs).run P w = .ok (eqD u x y) w) := by
  intro u
  have fields : ∀ (a b : T),
      (∀ (i : TypeId) (d : Nat) (x y : a.den) (v v' : Value), eqOk E a (.inl i) = true → depthT a ≤ d → VR S a x v → VR S a y v' → (Op.equalIn (d + 1) i v v').run P w = .ok (eqD a x y) w) →
      (∀ (fs : List Field) (off d : Nat) (xs ys : Array Value) (c0 c1 d0 d1 : List Value) (x y : b.den), eqOk E b (.inr (fs, off)) = true → depthT b ≤ d → xs.toList = c0 ++ c1 → c0.length = off → ys.toList = d0 ++ d1 → d0.length = off →
        Rd S b x c1 → Rd S b y d1 → (Op.eqFields d xs ys fs).run P w = .ok (eqD b x y) w) →
      ∀ (f : Field) (r : List Field) (off d : Nat) (xs ys : Array Value) (c0 c1 d0 d1 : List Value) (x y : (T.pair a b).den), eqOk E a (.inl f.type) = true → eqOk E b (.inr (r, off + a.size)) = true → (f.name != "_") = true → f.offset = off →
        (match E.ty f.type with
          | some g => teq g.t a
          | none => false) = true → depthT (T.pair a b) ≤ d → xs.toList = c0 ++ c1 → c0.length = off → ys.toList = d0 ++ d1 → d0.length = off → Rd S (T.pair a b) x c1 → Rd S (T.pair a b) y d1 →
        (Op.eqFields d xs ys (f :: r)).run P w = .ok (eqD (T.pair a b) x y) w := by
    intro a b iha ihb f r off d xs ys c0 c1 d0 d1 x y h1 h2 hn ho ht hd hx hx0 hy hy0 hrx hry
    obtain ⟨x1, x2, ex, hx1, hx2⟩ := hrx
    obtain ⟨y1, y2, ey, hy1, hy2⟩ := hry
    split at ht
    case h_2 => cases ht
    rename_i g hg
    have ht := teq_eq' ht
    subst ht
    have hgt := hb.ty _ _ hg
    simp only [depthT] at hd
    obtain ⟨d, rfl⟩ : ∃ d', d = d' + 1 := ⟨d - 1, by omega⟩
    obtain ⟨v, hv, hvr⟩ := run_part (P := P) (w := w) hgt (cs := xs) (c0 := c0) (c1 := x1) (c2 := x2) (by rw [hx, ex]) hx1
    obtain ⟨v', hv', hvr'⟩ := run_part (P := P) (w := w) hgt (cs := ys) (c0 := d0) (c1 := y1) (c2 := y2) (by rw [hy, ey]) hy1
    have hq := iha f.type d x.1 y.1 v v' h1 (by omega) hvr hvr'
    have hrest := ihb r (off + g.t.size) (d + 1) xs ys (c0 ++ x1) x2 (d0 ++ y1) y2 x.2 y.2 h2 (by omega) (by rw [hx, ex, List.append_assoc]) (by rw [List.length_append, hx0, hx1.length]) (by rw [hy, ey, List.append_assoc]) (by rw [List.length_append, hy0, hy1.length]) hx2 hy2
    rw [hx0] at hv
    rw [hy0] at hv'
    have hn' : f.name ≠ "_" := by simpa using hn
    simp only [Op.eqFields, if_pos hn', Sem.run_bind, ho, hv, hv', hq, Result.andThen_ok, eqD]
    cases eqD g.t x.1 y.1
    · simp
    · simpa using hrest
  induction u with
  | int k =>
    refine ⟨fun i d x y v v' h hd hx hy => ?_, fun fs off d xs ys c0 c1 d0 d1 x y h => by simp [eqOk] at h⟩
    simp only [eqOk] at h
    split at h
    case h_2 => cases h
    rename_i e he
    obtain ⟨h1, h2⟩ := and'_true h
    split at h2
    case h_2 => cases h2
    rename_i k' hk'
    have hu := (hb.ty _ _ he).und
    rw [hk'] at hu
    rw [hx.int_inv, hy.int_inv]
    exact run_equalIn_int w d i k k' x y hu
  | bool =>
    refine ⟨fun i d x y v v' h hd hx hy => ?_, fun fs off d xs ys c0 c1 d0 d1 x y h => by simp [eqOk] at h⟩
    simp only [eqOk] at h
    unfold isBoolT at h
    split at h
    case h_2 => cases h
    rename_i e he
    split at h
    case h_2 => cases h
    rename_i hk'
    have hu := (hb.ty _ _ he).und
    rw [hk'] at hu
    rw [hx.bool_inv, hy.bool_inv]
    exact run_equalIn_bool' w d i x y hu
  | str =>
    refine ⟨fun i d x y v v' h hd hx hy => ?_, fun fs off d xs ys c0 c1 d0 d1 x y h => by simp [eqOk] at h⟩
    simp only [eqOk] at h
    split at h
    case h_2 => cases h
    rename_i e he
    have hu := strT hb he h
    rw [hx.str_inv, hy.str_inv, run_equalIn_string w d i _ _ hu]
    simp [ByteArray.toList_eq, eqD]
  | opq => exact ⟨fun i d x y v v' h => by simp [eqOk] at h, fun fs off d xs ys c0 c1 d0 d1 x y h => by simp [eqOk] at h⟩
  | sl t _ => exact ⟨fun i d x y v v' h => by simp [eqOk] at h, fun fs off d xs ys c0 c1 d0 d1 x y h => by simp [eqOk] at h⟩
  | ptr t _ => exact ⟨fun i d x y v v' h => by simp [eqOk] at h, fun fs off d xs ys c0 c1 d0 d1 x y h => by simp [eqOk] at h⟩
  | own t _ => exact ⟨fun i d x y v v' h => by simp [eqOk] at h, fun fs off d xs ys c0 c1 d0 d1 x y h => by simp [eqOk] at h⟩
  | self ty => exact ⟨fun i d x y v v' h => by simp [eqOk] at h, fun fs off d xs ys c0 c1 d0 d1 x y h => by simp [eqOk] at h⟩
  | byt ty => exact ⟨fun i d x y v v' h => by simp [eqOk] at h, fun fs off d xs ys c0 c1 d0 d1 x y h => by simp [eqOk] at h⟩
  | any => exact ⟨fun i d x y v v' h => by simp [eqOk] at h, fun fs off d xs ys c0 c1 d0 d1 x y h => by simp [eqOk] at h⟩
  | mp k v _ _ => exact ⟨fun i d x y v v' h => by simp [eqOk] at h, fun fs off d xs ys c0 c1 d0 d1 x y h => by simp [eqOk] at h⟩
  | nb t _ => exact ⟨fun i d x y v v' h => by simp [eqOk] at h, fun fs off d xs ys c0 c1 d0 d1 x y h => by simp [eqOk] at h⟩
  | ifc ty t _ => exact ⟨fun i d x y v v' h => by simp [eqOk] at h, fun fs off d xs ys c0 c1 d0 d1 x y h => by simp [eqOk] at h⟩
  | fn f t _ => exact ⟨fun i d x y v v' h => by simp [eqOk] at h, fun fs off d xs ys c0 c1 d0 d1 x y h => by simp [eqOk] at h⟩
  | unit =>
    constructor
    · intro i d x y v v' h hd hx hy
      simp only [eqOk] at h
      split at h
      case h_2 => cases h
      rename_i e he
      obtain ⟨h1, h2⟩ := and'_true h
      obtain ⟨h1, h3⟩ := and'_true h1
      split at h2
      case h_2 => cases h2
      rename_i fs hfs
      have hty := hb.ty _ _ he
      have hu := hty.und
      rw [hfs] at hu
      obtain ⟨cs, rfl, _⟩ := VR.agg_inv (u := .unit) rfl hx
      obtain ⟨ds, rfl, _⟩ := VR.agg_inv (u := .unit) rfl hy
      rw [run_equalIn_struct w d i cs ds (by rw [fieldsOf_eq hu]; exact hu) (hty.cmp h1).1, fieldsOf_eq hu]
      have : fs.toList = [] := by
        have := Nat.eq_of_beq_eq_true h2
        rw [← List.length_eq_zero_iff]; simpa using this
      rw [this]
      simp [Op.eqFields, eqD]
    · intro fs off d xs ys c0 c1 d0 d1 x y h hd _ _ _ _ _ _
      simp only [eqOk] at h
      split at h
      case h_2 => cases h
      simp [Op.eqFields, eqD]
  | pair a b iha ihb =>
    constructor
    · intro i d x y v v' h hd hx hy
      simp only [eqOk] at h
      split at h
      case h_2 => cases h
      rename_i e he
      obtain ⟨h1, h2⟩ := and'_true h
      obtain ⟨h1, h3⟩ := and'_true h1
      split at h2
      case h_2 => cases h2
      rename_i fs hfs
      split at h2
      case h_2 => cases h2
      rename_i f r hl
      obtain ⟨h4, h5⟩ := and'_true h2
      obtain ⟨h4, h6⟩ := and'_true h4
      obtain ⟨h5, h7⟩ := and'_true h5
      obtain ⟨h7, h8⟩ := and'_true h7
      have hty := hb.ty _ _ he
      have hu := hty.und
      rw [hfs] at hu
      obtain ⟨cs, rfl, hxr⟩ := VR.agg_inv (u := .pair a b) rfl hx
      obtain ⟨ds, rfl, hyr⟩ := VR.agg_inv (u := .pair a b) rfl hy
      rw [run_equalIn_struct w d i cs ds (by rw [fieldsOf_eq hu]; exact hu) (hty.cmp h1).1, fieldsOf_eq hu, hl]
      exact fields a b iha.1 ihb.2 f r 0 d cs ds [] cs.toList [] ds.toList x y h4 (by rw [Nat.zero_add]; exact h6) h5 (Nat.eq_of_beq_eq_true h7) h8 hd rfl rfl rfl rfl hxr hyr
    · intro fs off d xs ys c0 c1 d0 d1 x y h hd hx hx0 hy hy0 hrx hry
      simp only [eqOk] at h
      split at h
      case h_2 => cases h
      rename_i f r
      obtain ⟨h4, h5⟩ := and'_true h
      obtain ⟨h4, h6⟩ := and'_true h4
      obtain ⟨h5, h7⟩ := and'_true h5
      obtain ⟨h7, h8⟩ := and'_true h7
      exact fields a b iha.1 ihb.2 f r off d xs ys c0 c1 d0 d1 x y h4 h6 h5 (Nat.eq_of_beq_eq_true h7) h8 hd hx hx0 hy hy0 hrx hry
  | arr n u ih =>
    refine ⟨fun i d x y v v' h hd hx hy => ?_, fun fs off d xs ys c0 c1 d0 d1 x y h => by simp [eqOk] at h⟩
    simp only [eqOk] at h
    split at h
    case h_2 => cases h
    rename_i e he
    obtain ⟨h1, h2⟩ := and'_true h
    obtain ⟨h1, h3⟩ := and'_true h1
    split at h2
    case h_2 => cases h2
    rename_i m el hm
    obtain ⟨h4, h5⟩ := and'_true h2
    obtain ⟨h5, h6⟩ := and'_true h5
    have h4 := Nat.eq_of_beq_eq_true h4
    subst h4
    split at h6
    case h_2 => cases h6
    rename_i g hg
    have ht := teq_eq' h6
    subst ht
    have hty := hb.ty _ _ he
    have hgt := hb.ty _ _ hg
    have hu := hty.und
    rw [hm] at hu
    obtain ⟨inf, hinf, hsz, _⟩ := hgt.info
    have hcell : P.cellsOf el = g.t.size := by rw [hgt.size, ← hsz]; simp [Program.cellsOf, hinf]
    obtain ⟨cs, rfl, hxl, hxr⟩ := VR.agg_inv (u := .arr n g.t) rfl hx
    obtain ⟨ds, rfl, hyl, hyr⟩ := VR.agg_inv (u := .arr n g.t) rfl hy
    rw [run_equalIn_array w d cs ds hu hinf, hcell]
    simp only [depthT] at hd
    obtain ⟨d, rfl⟩ : ∃ d', d = d' + 1 := ⟨d - 1, by omega⟩
    have key : ∀ (xs ys : List g.t.den) (k : Nat) (c0 c1 d0 d1 : List Value), cs.toList = c0 ++ c1 → c0.length = k * g.t.size → ds.toList = d0 ++ d1 → d0.length = k * g.t.size → xs.length = ys.length → All (Rd S g.t) xs c1 → All (Rd S g.t) ys d1 →
        (Op.eqItems (d + 1) el g.t.size cs ds (List.range' k xs.length)).run P w = .ok (eqLs (eqD g.t) xs ys) w := by
      intro xs
      induction xs with
      | nil => intro ys k c0 c1 d0 d1 _ _ _ _ hl _ _; cases ys <;> simp [Op.eqItems, eqLs] at hl ⊢
      | cons x xs ihx =>
        intro ys k c0 c1 d0 d1 hc hc0 hdd hd0 hl hA hB
        cases ys with
        | nil => simp at hl
        | cons y ys =>
          obtain ⟨x1, x2, ex, hx1, hx2⟩ := hA
          obtain ⟨y1, y2, ey, hy1, hy2⟩ := hB
          obtain ⟨v, hv, hvr⟩ := run_part (P := P) (w := w) hgt (cs := cs) (c0 := c0) (c1 := x1) (c2 := x2) (by rw [hc, ex]) hx1
          obtain ⟨v', hv', hvr'⟩ := run_part (P := P) (w := w) hgt (cs := ds) (c0 := d0) (c1 := y1) (c2 := y2) (by rw [hdd, ey]) hy1
          have hq := ih.1 el d x y v v' h5 (by omega) hvr hvr'
          rw [hc0] at hv
          rw [hd0] at hv'
          have hrest := ihx ys (k + 1) (c0 ++ x1) x2 (d0 ++ y1) y2 (by rw [hc, ex, List.append_assoc]) (by rw [List.length_append, hc0, hx1.length, Nat.succ_mul]) (by rw [hdd, ey, List.append_assoc]) (by rw [List.length_append, hd0, hy1.length, Nat.succ_mul]) (by simpa using hl) hx2 hy2
          simp only [List.length_cons, List.range'_succ, Op.eqItems, Sem.run_bind, hv, hv', hq, Result.andThen_ok, eqLs]
          cases eqD g.t x y
          · simp
          · simpa using hrest
    have := key x y 0 [] cs.toList [] ds.toList rfl (by simp) rfl (by simp) (by rw [hxl, hyl]) hxr hyr
    rw [hxl] at this
    rw [List.range_eq_range']
    exact this

theorem run_agg {E : Env} (hb : EnvOk P E) {S : Hp} {i : TypeId} {u : T} {x y : u.den} {v v' : Value} (h : eqOk E u (.inl i) = true) (hd : depthT u < 9999) (hx : VR S u x v) (hy : VR S u y v') (hu : u.isAgg = true) :
    (binOp .eql i v v').run P w = .ok (.bool (eqD u x y)) w ∧ (binOp .neq i v v').run P w = .ok (.bool (!(eqD u x y))) w := by
  have hq := (eq_T (w := w) hb u).1 i 9999 x y v v' h (by omega) hx hy
  obtain ⟨cs, rfl, _⟩ := VR.agg_inv hu hx
  obtain ⟨ds, rfl, _⟩ := VR.agg_inv hu hy
  rw [run_eql_struct, run_neq_struct, hq]
  exact ⟨rfl, rfl⟩
end
end Go.Lift

/- Operations that compute: what they do is what LfD says. -/
set_option linter.all false
namespace Go.Lift
set_option maxHeartbeats 60000

/-- the operation runs, and what the temporaries then hold is st' -/
def Good (P : Program) (c : Ctx) (o : Oper) (a : Act) (w : World) (st' : List A) : Prop :=
  ∀ Q, o.wp P a w (fun a' w' => Sim c st' a' w') Q

section
variable {P : Program} {E : Env} {c : Ctx} {st st' : List A} {fp fp' : FP} {a : Act} {w w' : World} {S : Hp} {ob : Nat → List Nat} {o : Oper}

theorem exec_ret' {α : Type} {x u : α} (h : exec E (.ret x) st fp = some (u, st', fp')) : u = x ∧ st' = st := by
  have := exec_ret h
  simp only [Prod.mk.injEq] at this
  exact ⟨this.1, this.2.1⟩

theorem good_value {v : Value} (hrun : (execOp a.eval o).run P w = .ok (.value v) w') (h : Sim c st' (a.put o.dst v) w') : Good P c o a w st' := by
  intro Q
  simp only [Oper.wp, hrun, Oper.upon_value]
  exact h

theorem good_skip (hrun : (execOp a.eval o).run P w = .ok .skip w') (h : Sim c st' (a.put o.dst undef) w') : Good P c o a w st' := by
  intro Q
  simp only [Oper.wp, hrun, Oper.upon_skip]
  exact h

theorem owned_at {st : List A} {r : Nat} (h : owned st r = true) : ∃ y : A, st[r]? = some y ∧ y.own = true := by
  unfold owned at h
  split at h
  · rename_i t xs hy; exact ⟨_, getD_at hy (by simp), rfl⟩
  · rename_i t xs hy; exact ⟨_, getD_at hy (by simp), rfl⟩
  · rename_i t xs hy; exact ⟨_, getD_at hy (by simp), rfl⟩
  · rename_i hy; exact ⟨_, getD_at hy (by simp), rfl⟩
  · rename_i t xs hy; exact ⟨_, getD_at hy (by simp), rfl⟩
  · rename_i xs hy; exact ⟨_, getD_at hy (by simp), rfl⟩
  · simp at h

theorem okSet_parts {t : Nat} {x : A} (h : okSet E st t x = true) : t < st.length ∧ t ∉ E.lent ∧ ∀ r ∈ x.refs, r ≠ t ∧ ∃ y : A, st[r]? = some y ∧ y.own = true := by
  unfold okSet at h
  obtain ⟨h1, h2⟩ := and'_true h
  obtain ⟨h1, h3⟩ := and'_true h1
  refine ⟨by simpa using h1, by simpa using h3, fun r hr => ?_⟩
  have one : ∀ s, r = s → and' (!(Nat.beq s t)) (owned st s) = true → r ≠ t ∧ ∃ y : A, st[r]? = some y ∧ y.own = true := by
    intro s e h2
    subst e
    obtain ⟨h4, h5⟩ := and'_true h2
    exact ⟨by intro e; subst e; simp [Nat.beq_refl] at h4, owned_at h5⟩
  cases x <;> simp only [A.refs, List.mem_singleton, List.not_mem_nil] at hr
  case clo f rs =>
    simp only [refOk, List.all_eq_true] at h2
    exact one r rfl (h2 r hr)
  all_goals (simp only [refOk] at h2; exact one _ hr h2)

/-- the fixed part of what the operations lean on -/
structure Base (P : Program) (E : Env) (c : Ctx) : Prop where
  env : EnvOk P E
  glob : GlobOk E.glob c.S0
  lent : E.lent = c.lent.map Prod.fst

theorem Base.globS (hb : Base P E c) (hs : SimD c st a w S ob) : GlobOk E.glob S := hb.glob.mono hs.mono

theorem set_sim {α : Type} {r : α × List A × FP} {k : Cmd α} {t : Nat} {x : A} {v : Value} {o' : List Nat} (h : exec E (.set t x k) st fp = some r) (hb : Base P E c) (hs : SimD c st a w S ob)
    (hx : ARel (hp w) S (tv a) x v o') (ho : ∀ b ∈ o', (∀ i, b ∉ ob i) ∧ S b = none ∧ (c.B0 b ∨ c.w0.heap.size ≤ b)) (hnd : o'.Nodup := by simp) :
    ∃ fp', exec E k (setSt st t x) fp' = some r ∧ SimD c (setSt st t x) (a.put (some t) v) w S (fun i => if i = t then o' else ob i) := by
  obtain ⟨hok, fp', h'⟩ := exec_set h
  obtain ⟨h1, h2, h3⟩ := okSet_parts hok
  refine ⟨fp', h', hs.put h1 (fun p hp' e => h2 ?_) hx h3 (fun b hb' => ⟨fun i _ => (ho b hb').1 i, (ho b hb').2⟩) hnd⟩
  rw [hb.lent, List.mem_map]; exact ⟨p, hp', e⟩

theorem lay_sim {d : Option Nat} {x : A} {v : Value} {o' : List Nat} {u : Unit} (h : exec E (lay d x) st fp = some (u, st', fp')) (hb : Base P E c) (hs : SimD c st a w S ob)
    (hx : ARel (hp w) S (tv a) x v o') (ho : ∀ b ∈ o', (∀ i, b ∉ ob i) ∧ S b = none ∧ (c.B0 b ∨ c.w0.heap.size ≤ b)) (hnd : o'.Nodup := by simp) : Sim c st' (a.put d v) w := by
  cases d with
  | none =>
    simp only [lay] at h
    obtain rfl := (exec_ret' h).2
    exact ⟨S, ob, hs⟩
  | some t =>
    simp only [lay] at h
    obtain ⟨fp'', h', hs'⟩ := set_sim h hb hs hx ho hnd
    obtain rfl := (exec_ret' h').2
    exact ⟨S, _, hs'⟩

theorem lay_plain {d : Option Nat} {t : T} {x : t.den} {v : Value} {u : Unit} (h : exec E (lay d (.v t x)) st fp = some (u, st', fp')) (hb : Base P E c) (hs : SimD c st a w S ob)
    (hx : VR S t x v) : Sim c st' (a.put d v) w := lay_sim h hb hs (o' := []) ⟨hx, rfl⟩ (fun b e => by cases e)

/-! ## move, pick -/

theorem move_good {x : Operand} (ho : o.op = .move x) (h : exec E (opCmd E o) st fp = some ((), st', fp')) (hb : Base P E c) (hs : SimD c st a w S ob) : Good P c o a w st' := by
  simp only [opCmd, ho] at h
  obtain ⟨A, fp1, h, hA, hAo, hAd, hr⟩ := rdK_inv h hs (hb.globS hs)
  refine good_value (v := a.eval x) (w' := w) (by simp [execOp, ho]) ?_
  exact lay_sim h hb hs hA (fun b e => by cases e)

theorem pick_good {x y z : Operand} (ho : o.op = .pick x y z) (h : exec E (opCmd E o) st fp = some ((), st', fp')) (hb : Base P E c) (hs : SimD c st a w S ob) : Good P c o a w st' := by
  simp only [opCmd, ho, pickCmd] at h
  obtain ⟨A, fp1, h1, hA, hAo, hAd, hr⟩ := rdK_inv h hs (hb.globS hs)
  clear h
  split at h1
  · rename_i b
    have hx : a.eval x = .bool b := hA.1.bool_inv
    rcases exec_test h1 with ⟨rfl, h⟩ | ⟨rfl, h⟩
    · obtain ⟨B, fp2, h, hB, hBo, hBd, hr2⟩ := rdK_inv h hs (hb.globS hs)
      exact good_value (v := a.eval y) (w' := w) (by simp [execOp, ho, hx, asBool]) (lay_sim h hb hs hB (fun b e => by cases e))
    · obtain ⟨B, fp2, h, hB, hBo, hBd, hr2⟩ := rdK_inv h hs (hb.globS hs)
      exact good_value (v := a.eval z) (w' := w) (by simp [execOp, ho, hx, asBool]) (lay_sim h hb hs hB (fun b e => by cases e))
  · exact (exec_fail h1).elim

/-! ## integers, strings, bools -/

theorem intBin_run {op : BinOp} {k k' : IntKind} {m n : Int} {d : Option Nat} {t : TypeId} {u : Unit} (h : exec E (intBin op k m k' n d) st fp = some (u, st', fp')) :
    ∃ (t' : T) (x : t'.den) (v : Value) (fp1 : FP), exec E (lay d (.v t' x)) st fp1 = some (u, st', fp') ∧ (∀ S, VR S t' x v) ∧ (binOp op t (.int k m) (.int k' n)).run P w = .ok v w := by
  by_cases hs1 : op = .shl
  · subst hs1
    obtain ⟨hc, h⟩ := exec_guard h
    have hc : 0 ≤ n := by simpa using hc
    exact ⟨_, _, _, _, h, fun _ => VR.int, by simp [binOp, Op.shift, shlI, show ¬ n < 0 by omega]⟩
  by_cases hs2 : op = .shr
  · subst hs2
    obtain ⟨hc, h⟩ := exec_guard h
    have hc : 0 ≤ n := by simpa using hc
    exact ⟨_, _, _, _, h, fun _ => VR.int, by simp [binOp, Op.shift, shrI, show ¬ n < 0 by omega]⟩
  by_cases hk : k = k'
  · subst hk
    have quo : ∀ {v : Int} {rr : Unit × List A × FP}, exec E (.test (n == 0) .fail (lay d (.v (.int k) v))) st fp = some rr → ¬ n = 0 ∧ exec E (lay d (.v (.int k) v)) st fp = some rr := by
      intro v rr h
      rcases exec_test h with ⟨_, h⟩ | ⟨hc, h⟩
      · exact (exec_fail h).elim
      · exact ⟨by simpa using hc, h⟩
    cases op <;> simp only [intBin, decide_true, not_true_eq_false] at h hs1 hs2 <;> (try exact (exec_fail h).elim)
    case quo => obtain ⟨h0, h⟩ := quo h; exact ⟨_, _, _, _, h, fun _ => VR.int, by simp [binOp, Op.intDiv, h0]⟩
    case rem => obtain ⟨h0, h⟩ := quo h; exact ⟨_, _, _, _, h, fun _ => VR.int, by simp [binOp, Op.intDiv, h0]⟩
    case add => exact ⟨_, _, _, _, h, fun _ => VR.int, by simp [binOp, Op.intArith]⟩
    case sub => exact ⟨_, _, _, _, h, fun _ => VR.int, by simp [binOp, Op.intArith]⟩
    case mul => cases k <;> exact ⟨_, _, _, _, h, fun _ => VR.int, by simp [binOp, Op.intArith, Int.mul_comm]⟩
    case and => exact ⟨_, _, _, _, h, fun _ => VR.int, by simp [binOp, Op.intBits, bitsOp]⟩
    case or => exact ⟨_, _, _, _, h, fun _ => VR.int, by simp [binOp, Op.intBits, bitsOp]⟩
    case xor => exact ⟨_, _, _, _, h, fun _ => VR.int, by simp [binOp, Op.intBits, bitsOp]⟩
    case andNot => exact ⟨_, _, _, _, h, fun _ => VR.int, by simp [binOp, Op.intBits, bitsOp]⟩
    all_goals exact ⟨_, _, _, _, h, fun _ => VR.bool, by simp [binOp, Op.intCmp]⟩
  · cases op <;> simp only [intBin, hk, decide_false, not_true_eq_false] at h hs1 hs2 <;> exact (exec_fail h).elim

theorem strBin_run {op : BinOp} {x y : List UInt8} {d : Option Nat} {t : TypeId} {u : Unit} (h : exec E (strBin op x y d) st fp = some (u, st', fp')) :
    ∃ (t' : T) (z : t'.den) (v : Value) (fp1 : FP), exec E (lay d (.v t' z)) st fp1 = some (u, st', fp') ∧ (∀ S, VR S t' z v) ∧ (binOp op t (.string ⟨⟨x⟩⟩) (.string ⟨⟨y⟩⟩)).run P w = .ok v w := by
  cases op <;> simp only [strBin] at h <;> (try exact (exec_fail h).elim)
  case add =>
    obtain ⟨hc, h⟩ := exec_guard h
    have hc : x.length + y.length ≤ 9223372036854775807 := by simpa using hc
    refine ⟨_, _, .string ⟨⟨x ++ y⟩⟩, _, h, fun _ => VR.str, ?_⟩
    have e1 : (⟨⟨x⟩⟩ : ByteArray).size = x.length := by simp [ByteArray.size]
    have e2 : (⟨⟨y⟩⟩ : ByteArray).size = y.length := by simp [ByteArray.size]
    have e3 : (⟨⟨x⟩⟩ ++ ⟨⟨y⟩⟩ : ByteArray) = ⟨⟨x ++ y⟩⟩ := by
      apply ByteArray.ext
      simp [ByteArray.data_append]
    have e4 : ¬ IntKind.i64.max < ((x.length + y.length : Nat) : Int) := by
      have : IntKind.i64.max = 9223372036854775807 := by decide
      rw [this]; omega
    simp only [binOp, Op.stringOp, e1, e2, e3]
    rw [if_neg (by simpa using e4)]
    rfl
  all_goals exact ⟨_, _, _, _, h, fun _ => VR.bool, by simp [binOp, Op.stringOp, ByteArray.toList_eq]⟩

theorem eqGuard_run {op : BinOp} {t : TypeId} {x y : Operand} {v u : Value} (h : v ≠ .nilIface ∨ u ≠ .nilIface) (h' : v.oneCell' = true) : (eqGuard op t x y v u).run P w = .ok () w := by
  cases op <;> first
    | rfl
    | (cases v <;> first
        | (simp [Value.oneCell'] at h'; done)
        | (cases u <;> first | rfl | (simp at h; done)))

theorem boolT {i : TypeId} (hb : EnvOk P E) (h : isBoolT E i = true) : P.underlying i = some .bool := by
  unfold isBoolT at h
  split at h
  · rename_i e he
    have := (hb.ty i e he).und
    split at h
    · rename_i hd; rw [this, hd]
    · simp at h
  · simp at h

theorem ptrT {i : TypeId} (hb : EnvOk P E) (h : isPtrT E i = true) : ∃ el, P.underlying i = some (.pointer el) := by
  unfold isPtrT at h
  split at h
  · rename_i e he
    have := (hb.ty i e he).und
    split at h
    · rename_i el hd; exact ⟨el, by rw [this, hd]⟩
    · simp at h
  · simp at h

theorem run_equalIn_bool {t : TypeId} (d : Nat) (x y : Bool) (hu : P.underlying t = some .bool) : (Op.equalIn (d + 1) t (.bool x) (.bool y)).run P w = .ok (x == y) w := by
  simp [Op.equalIn, run_underlying hu]
theorem run_equal_bool {t : TypeId} (x y : Bool) (hu : P.underlying t = some .bool) : (Op.equal t (.bool x) (.bool y)).run P w = .ok (x == y) w := run_equalIn_bool 9999 x y hu
theorem run_equalIn_ptr {t el : TypeId} (d : Nat) (x : Option Addr) (hu : P.underlying t = some (.pointer el)) : (Op.equalIn (d + 1) t (.pointer x) (.pointer none)).run P w = .ok x.isNone w := by
  cases x <;> simp [Op.equalIn, run_underlying hu]
theorem run_equal_ptr {t el : TypeId} (x : Option Addr) (hu : P.underlying t = some (.pointer el)) : (Op.equal t (.pointer x) (.pointer none)).run P w = .ok x.isNone w := run_equalIn_ptr 9999 x hu
theorem run_eql_bool {t : TypeId} (x y : Bool) (hu : P.underlying t = some .bool) : (binOp .eql t (.bool x) (.bool y)).run P w = .ok (.bool (x == y)) w := by
  simp only [binOp, Sem.run_bind, run_equal_bool x y hu, Result.andThen_ok, Sem.run_pure]
theorem run_neq_bool {t : TypeId} (x y : Bool) (hu : P.underlying t = some .bool) : (binOp .neq t (.bool x) (.bool y)).run P w = .ok (.bool (!(x == y))) w := by
  simp only [binOp, Sem.run_bind, run_equal_bool x y hu, Result.andThen_ok, Sem.run_pure]
theorem run_eql_ptr {t el : TypeId} (x : Option Addr) (hu : P.underlying t = some (.pointer el)) : (binOp .eql t (.pointer x) (.pointer none)).run P w = .ok (.bool x.isNone) w := by
  simp only [binOp, Sem.run_bind, run_equal_ptr x hu, Result.andThen_ok, Sem.run_pure]
theorem run_neq_ptr {t el : TypeId} (x : Option Addr) (hu : P.underlying t = some (.pointer el)) : (binOp .neq t (.pointer x) (.pointer none)).run P w = .ok (.bool (!x.isNone)) w := by
  simp only [binOp, Sem.run_bind, run_equal_ptr x hu, Result.andThen_ok, Sem.run_pure]

theorem box_val (hs : SimD c st a w S ob) {r : Nat} {t : T} {x : t.den} (h : st.getD r .dead = .box t x) : ∃ ad, tv a r = .pointer (some ad) := by
  obtain ⟨b, cs, E', fr, _, _, e, _⟩ := hs.rel r _ (getD_at h (by simp))
  exact ⟨_, e⟩

theorem SimD.nb_some (hs : SimD c st a w S ob) {r : Nat} {u : T} {m : Option u.den} (hz : st.getD r .dead = .ov (.nb u) m) (hm : m.isSome = true) :
    ∃ ad, tv a r = .pointer (some ad) ∧ SimD c (contSt st r (.box u (m.getD u.dflt))) a w S ob := by
  obtain ⟨_, hr⟩ := hs.rel r _ (getD_at hz (by simp))
  unfold VRO at hr
  simp only [T.isAgg, Bool.false_eq_true, if_false] at hr
  rcases hr with ⟨e, _⟩ | ⟨y, b, cs', E', fr, bs', e1, e2, e3, e4, e5, e6⟩
  · rw [e] at hm; cases hm
  · subst e1
    have e2 : tv a r = .pointer (some ⟨b, 0, none⟩) := by simpa using e2
    exact ⟨_, e2, hs.content (w' := w) (getD_lt hz (by simp)) (b := b) (by rw [e3]; simp) ⟨b, cs', E', fr, bs', e3, e2, e4, e5, e6⟩ rfl (fun _ _ => rfl) hs.frame⟩

theorem SimD.nb_none (hs : SimD c st a w S ob) {r : Nat} {u : T} {m : Option u.den} (hz : st.getD r .dead = .ov (.nb u) m) (hm : m.isSome = false) :
    tv a r = .pointer none ∧ SimD c (contSt st r (.ov (.nb u) none)) a w S ob := by
  have hrel := hs.rel r _ (getD_at hz (by simp))
  have hm' : m = none := by cases m <;> simp_all
  subst hm'
  have hrel2 := hrel
  obtain ⟨_, hr⟩ := hrel
  unfold VRO at hr
  simp only [T.isAgg, Bool.false_eq_true, if_false] at hr
  rcases hr with ⟨_, e, _⟩ | ⟨y, b, cs', E', fr, bs', e1, _⟩
  · exact ⟨by simpa using e, hs.recast1 (getD_lt hz (by simp)) hrel2 rfl⟩
  · cases e1

theorem mapT {E : Env} {i : TypeId} (hb : EnvOk P E) (h : isMapT E i = true) : ∃ k v, P.underlying i = some (.map k v) := by
  unfold isMapT at h
  split at h
  · rename_i e he
    split at h
    · rename_i k v hd
      exact ⟨k, v, by rw [(hb.ty _ _ he).und, hd]⟩
    · cases h
  · cases h

theorem run_equalIn_map {t k v : TypeId} (d : Nat) (x : Option Nat) (hu : P.underlying t = some (.map k v)) : (Op.equalIn (d + 1) t (.map x) (.map none)).run P w = .ok x.isNone w := by
  cases x <;> simp [Op.equalIn, run_underlying hu]
theorem run_equal_map {t k v : TypeId} (x : Option Nat) (hu : P.underlying t = some (.map k v)) : (Op.equal t (.map x) (.map none)).run P w = .ok x.isNone w := run_equalIn_map 9999 x hu
theorem run_eql_map {t k v : TypeId} (x : Option Nat) (hu : P.underlying t = some (.map k v)) : (binOp .eql t (.map x) (.map none)).run P w = .ok (.bool x.isNone) w := by
  simp only [binOp, Sem.run_bind, run_equal_map x hu, Result.andThen_ok, Sem.run_pure]
theorem run_neq_map {t k v : TypeId} (x : Option Nat) (hu : P.underlying t = some (.map k v)) : (binOp .neq t (.map x) (.map none)).run P w = .ok (.bool (!x.isNone)) w := by
  simp only [binOp, Sem.run_bind, run_equal_map x hu, Result.andThen_ok, Sem.run_pure]

theorem bin_good {op : BinOp} {xT yT : TypeId} {x y : Operand} (ho : o.op = .binOp op xT x y yT) (h : exec E (opCmd E o) st fp = some ((), st', fp')) (hb : Base P E c) (hs : SimD c st a w S ob) :
    Good P c o a w st' := by
  simp only [opCmd, ho, binCmd] at h
  obtain ⟨A, fp1, h1, hA, hAo, hAd, hr⟩ := rdK_inv h hs (hb.globS hs)
  obtain ⟨B, fp2, h2, hB, hBo, hBd, hr2⟩ := rdK_inv h1 hs (hb.globS hs)
  clear h h1
  have hrun : ∀ v, a.eval x ≠ .nilIface → (a.eval x).oneCell' = true → (binOp op xT (a.eval x) (a.eval y)).run P w = .ok v w → (execOp a.eval o).run P w = .ok (.value v) w := by
    intro v h1 h2 h3
    simp [execOp, ho, eqGuard_run (P := P) (w := w) (.inl h1) h2, h3]
  split at h2
  · -- integers
    rename_i k m k' n
    have ex : a.eval x = .int k m := hA.1.int_inv
    have ey : a.eval y = .int k' n := hB.1.int_inv
    obtain ⟨t', z, v, fp3, h, hv, hr'⟩ := intBin_run (P := P) (w := w) (t := xT) h2
    exact good_value (hrun v (by simp [ex]) (by simp [ex, Value.oneCell']) (by rw [ex, ey]; exact hr')) (lay_plain h hb hs (hv S))
  · rename_i s u
    have ex : a.eval x = .string ⟨⟨s⟩⟩ := hA.1.str_inv
    have ey : a.eval y = .string ⟨⟨u⟩⟩ := hB.1.str_inv
    obtain ⟨t', z, v, fp3, h, hv, hr'⟩ := strBin_run (P := P) (w := w) (t := xT) h2
    exact good_value (hrun v (by simp [ex]) (by simp [ex, Value.oneCell']) (by rw [ex, ey]; exact hr')) (lay_plain h hb hs (hv S))
  · rename_i s u
    have ex : a.eval x = .bool s := hA.1.bool_inv
    have ey : a.eval y = .bool u := hB.1.bool_inv
    split at h2
    · rename_i hbt
      have hu := boolT hb.env hbt
      cases op <;> simp only [boolBin] at h2 <;> (try exact (exec_fail h2).elim)
      · exact good_value (hrun (.bool (s == u)) (by simp [ex]) (by simp [ex, Value.oneCell']) (by rw [ex, ey]; exact run_eql_bool s u hu)) (lay_plain (by assumption) hb hs VR.bool)
      · exact good_value (hrun (.bool (!(s == u))) (by simp [ex]) (by simp [ex, Value.oneCell']) (by rw [ex, ey]; exact run_neq_bool s u hu)) (lay_plain (by assumption) hb hs VR.bool)
    · exact (exec_fail (by assumption)).elim
  · rename_i r
    have ey : a.eval y = .pointer none := hB.1.opq_inv
    obtain ⟨fp3, h3⟩ := exec_get h2
    clear h2
    split at h3
    · rename_i t z hz
      obtain ⟨ad, hv⟩ := box_val hs hz
      have ex : a.eval x = .pointer (some ad) := by rw [hA.1, hv]
      split at h3
      · rename_i hpt
        obtain ⟨el, hu⟩ := ptrT hb.env hpt
        cases op <;> simp only [nilBin] at h3 <;> (try exact (exec_fail h3).elim)
        · exact good_value (hrun (.bool false) (by simp [ex]) (by simp [ex, Value.oneCell']) (by rw [ex, ey]; exact run_eql_ptr _ hu)) (lay_plain (by assumption) hb hs VR.bool)
        · exact good_value (hrun (.bool true) (by simp [ex]) (by simp [ex, Value.oneCell']) (by rw [ex, ey]; exact run_neq_ptr _ hu)) (lay_plain (by assumption) hb hs VR.bool)
      · exact (exec_fail (by assumption)).elim
    · rename_i t z hz
      split at h3
      · rename_i hpt
        obtain ⟨el, hu⟩ := ptrT hb.env hpt
        split at h3
        · rename_i u m
          have hlt := getD_lt hz (by simp)
          rcases exec_test h3 with ⟨hm, h4⟩ | ⟨hm, h4⟩
          · obtain ⟨_, fp4, h5⟩ := exec_cont h4
            obtain ⟨ad, hv, hs1⟩ := hs.nb_some hz hm
            have ex : a.eval x = .pointer (some ad) := by rw [hA.1, hv]
            cases op <;> simp only [nilBin] at h5 <;> (try exact (exec_fail h5).elim)
            · exact good_value (hrun (.bool false) (by simp [ex]) (by simp [ex, Value.oneCell']) (by rw [ex, ey]; exact run_eql_ptr _ hu)) (lay_plain h5 hb hs1 VR.bool)
            · exact good_value (hrun (.bool true) (by simp [ex]) (by simp [ex, Value.oneCell']) (by rw [ex, ey]; exact run_neq_ptr _ hu)) (lay_plain h5 hb hs1 VR.bool)
          · obtain ⟨_, fp4, h5⟩ := exec_cont h4
            obtain ⟨fp5, h6⟩ := exec_retire h5
            obtain ⟨hv, hs1⟩ := hs.nb_none hz hm
            obtain ⟨S', t1, z1, hS, _, _, hs2⟩ := hs1.retire (r := r) (x := .ov (.nb u) none) (y := .v .opq (.pointer none)) (contSt_at _ _ _ hlt) rfl
            have ex : a.eval x = .pointer none := by rw [hA.1, hv]
            cases op <;> simp only [nilBin] at h6 <;> (try exact (exec_fail h6).elim)
            · exact good_value (hrun (.bool true) (by simp [ex]) (by simp [ex, Value.oneCell']) (by rw [ex, ey]; exact run_eql_ptr _ hu)) (lay_plain h6 hb hs2 VR.bool)
            · exact good_value (hrun (.bool false) (by simp [ex]) (by simp [ex, Value.oneCell']) (by rw [ex, ey]; exact run_neq_ptr _ hu)) (lay_plain h6 hb hs2 VR.bool)
        · exact (exec_fail (by assumption)).elim
      · exact (exec_fail (by assumption)).elim
    · exact (exec_fail (by assumption)).elim
  · have ey : a.eval y = .map none := hB.1.opq_inv
    split at h2
    · rename_i hpt
      obtain ⟨ki, vi, hu⟩ := mapT hb.env hpt
      obtain ⟨p, q, m, put, fp3, h3, o1, hm, _, _⟩ := mpK_inv h2 hs hA
      have hone : (a.eval x).oneCell' = true := hm.one
      have hne : a.eval x ≠ .nilIface := by
        rcases hm with ⟨_, e, _⟩ | ⟨_, _, _, _, _, _, e, _⟩ <;> rw [e] <;> simp
      obtain ⟨mo, ex, hmo⟩ : ∃ mo, a.eval x = .map mo ∧ mo.isNone = !m.isSome := by
        rcases hm with ⟨e1, e, _⟩ | ⟨_, _, _, _, e1, _, e, _⟩
        · exact ⟨none, e, by rw [e1]; rfl⟩
        · exact ⟨_, e, by rw [e1]; rfl⟩
      cases op <;> simp only [nilBin] at h3 <;> (try exact (exec_fail h3).elim)
      · exact good_value (hrun (.bool (!m.isSome)) hne hone (by rw [ex, ey, ← hmo]; exact run_eql_map _ hu)) (lay_plain h3 hb hs VR.bool)
      · exact good_value (hrun (.bool (!(!m.isSome))) hne hone (by rw [ex, ey, ← hmo]; exact run_neq_map _ hu)) (lay_plain h3 hb hs VR.bool)
    · exact (exec_fail (by assumption)).elim
  · have ex : a.eval x = .pointer none := hA.1.opq_inv
    have ey : a.eval y = .pointer none := hB.1.opq_inv
    split at h2
    · rename_i hpt
      obtain ⟨el, hu⟩ := ptrT hb.env hpt
      cases op <;> simp only [nilBin] at h2 <;> (try exact (exec_fail h2).elim)
      · exact good_value (hrun (.bool true) (by simp [ex]) (by simp [ex, Value.oneCell']) (by rw [ex, ey]; exact run_eql_ptr _ hu)) (lay_plain (by assumption) hb hs VR.bool)
      · exact good_value (hrun (.bool false) (by simp [ex]) (by simp [ex, Value.oneCell']) (by rw [ex, ey]; exact run_neq_ptr _ hu)) (lay_plain (by assumption) hb hs VR.bool)
    · exact (exec_fail (by assumption)).elim
  · rename_i t z u z' _ _ _ _ _
    clear hrun
    unfold aggBin at h2
    split at h2
    case h_2 => exact (exec_fail h2).elim
    rename_i e he
    split at h2
    case h_2 => exact (exec_fail h2).elim
    rename_i hc
    obtain ⟨hc1, hc2⟩ := and'_true hc
    obtain ⟨hc1, hc3⟩ := and'_true hc1
    obtain ⟨hc2, hc4⟩ := and'_true hc2
    obtain ⟨hc2, hc5⟩ := and'_true hc2
    split at h2
    case h_2 => exact (exec_fail h2).elim
    rename_i y' hy'
    have hx' := hA.1
    have hyv := cast_VR hy' hB.1
    have hg := ((hb.env.ty _ _ he).cmp hc2).2
    have hd : depthT t < 9999 := by simpa using hc4
    have hr' := run_agg (P := P) (w := w) hb.env hc3 hd hx' hyv hc5
    have hgu : (eqGuard op xT x y (a.eval x) (a.eval y)).run P w = .ok () w := by
      obtain ⟨cs, e1, _⟩ := VR.agg_inv hc5 hx'
      obtain ⟨ds, e2, _⟩ := VR.agg_inv hc5 hyv
      rw [e1, e2]
      exact run_eqGuard_agg w op xT x y cs ds hg
    have hrun : ∀ v, (binOp op xT (a.eval x) (a.eval y)).run P w = .ok v w → (execOp a.eval o).run P w = .ok (.value v) w := by
      intro v h3
      simp [execOp, ho, hgu, h3]
    cases op <;> simp only [nilBin] at h2 <;> (try exact (exec_fail h2).elim)
    · exact good_value (hrun _ hr'.1) (lay_plain h2 hb hs VR.bool)
    · exact good_value (hrun _ hr'.2) (lay_plain h2 hb hs VR.bool)
  · exact (exec_fail (by assumption)).elim

theorem un_good {op : UnOp} {xT : TypeId} {x : Operand} (ho : o.op = .unOp op xT x) (h : exec E (opCmd E o) st fp = some ((), st', fp')) (hb : Base P E c) (hs : SimD c st a w S ob) : Good P c o a w st' := by
  simp only [opCmd, ho, unCmd] at h
  obtain ⟨A, fp1, h1, hA, hAo, hAd, hr⟩ := rdK_inv h hs (hb.globS hs)
  clear h
  split at h1
  · rename_i b
    have ex : a.eval x = .bool b := hA.1.bool_inv
    exact good_value (v := .bool (!b)) (w' := w) (by simp [execOp, ho, ex, Op.unary]) (lay_plain h1 hb hs VR.bool)
  · rename_i k n
    have ex : a.eval x = .int k n := hA.1.int_inv
    exact good_value (v := .int k (k.wrap (0 - n))) (w' := w) (by simp [execOp, ho, ex, Op.unary, Op.intArith]) (lay_plain h1 hb hs VR.int)
  · rename_i k n
    have ex : a.eval x = .int k n := hA.1.int_inv
    exact good_value (v := .int k (bitsOp .xor k (if k.signed then -1 else k.max) n)) (w' := w) (by simp [execOp, ho, ex, Op.unary, Op.intBits, bitsOp]) (lay_plain h1 hb hs VR.int)
  · exact (exec_fail h1).elim

end
end Go.Lift

/- Operations that read: conversions, lengths, indices, parts of values. And new memory. -/
set_option linter.all false
namespace Go.Lift
section
variable {P : Program} {E : Env} {c : Ctx} {st st' : List A} {fp fp' : FP} {a : Act} {w w' : World} {S : Hp} {ob : Nat → List Nat} {o : Oper}

theorem VR.sl_inv {S : Hp} {t : T} {xs : List t.den} {v : Value} (h : VR S (.sl t) xs v) : ∃ ad cap, v = .slice ad xs.length cap ∧ xs.length ≤ cap ∧
    (xs = [] ∨ ∃ b off c1, ad = some ⟨b, off, none⟩ ∧ Lies S b off c1 ∧ All (Rd S t) xs c1) := by
  simp only [VR, T.isAgg, Bool.false_eq_true, if_false] at h
  obtain ⟨ad, cap, e, hc, h⟩ := h
  simp only [List.cons.injEq, and_true] at e
  exact ⟨ad, cap, e, hc, h⟩

theorem VR.ptr_inv {S : Hp} {t : T} {x : t.den} {v : Value} (h : VR S (.ptr t) x v) : ∃ b off c1, v = .pointer (some ⟨b, off, none⟩) ∧ Lies S b off c1 ∧ Rd S t x c1 := by
  simp only [VR, T.isAgg, Bool.false_eq_true, if_false] at h
  obtain ⟨b, off, c1, e, hl, h⟩ := h
  simp only [List.cons.injEq, and_true] at e
  exact ⟨b, off, c1, e, hl, h⟩

theorem VR.ptr_mk {S : Hp} {t : T} {x : t.den} {b off : Nat} {c1 : List Value} (hl : Lies S b off c1) (hr : Rd S t x c1) : VR S (.ptr t) x (.pointer (some ⟨b, off, none⟩)) :=
  VR.of_one rfl ⟨b, off, c1, rfl, hl, hr⟩

theorem slT {E : Env} {i : TypeId} {e : TyI} (hb : EnvOk P E) (he : E.ty i = some e) (h : isSl e.desc = true) : ∃ el, e.desc = .slice el ∧ P.underlying i = some (.slice el) := by
  rw [(hb.ty i e he).und]
  cases hd : e.desc <;> rw [hd] at h <;> simp [isSl] at h ⊢

theorem arrT {E : Env} {i : TypeId} {e : TyI} {n : Nat} (hb : EnvOk P E) (he : E.ty i = some e) (h : arrLen e.desc = some n) : ∃ el, e.desc = .array n el ∧ P.underlying i = some (.array n el) := by
  rw [(hb.ty i e he).und]
  cases hd : e.desc <;> rw [hd] at h <;> simp [arrLen] at h
  subst h
  exact ⟨_, rfl, rfl⟩

theorem elemT_sl {E : Env} {e : TyI} {el : TypeId} {t : T} (hd : e.desc = .slice el) (h : elemOk E e t = true) : ∃ ee, E.ty el = some ee ∧ ee.t = t := by
  unfold elemOk at h
  rw [hd] at h
  dsimp only at h
  split at h
  · rename_i ee hee; exact ⟨ee, hee, by simpa [teq] using h⟩
  · simp at h

theorem elemT_arr {E : Env} {e : TyI} {n : Nat} {el : TypeId} {t : T} (hd : e.desc = .array n el) (h : elemOk E e t = true) : ∃ ee, E.ty el = some ee ∧ ee.t = t := by
  unfold elemOk at h
  rw [hd] at h
  dsimp only at h
  split at h
  · rename_i ee hee; exact ⟨ee, hee, by simpa [teq] using h⟩
  · simp at h

theorem inR_true {n : Int} {len : Nat} (h : inR n len = true) : 0 ≤ n ∧ n < len ∧ n.toNat < len := by
  unfold inR at h
  have := of_decide_eq_true h
  exact ⟨this.1, this.2, by omega⟩

/-! ## min, max, len -/

theorem minmax_good {mx : Bool} {x y : Operand} {argTypes : Array TypeId} (ho : o.op = .call { callee := .builtin (if mx then .max else .min), args := #[x, y], argTypes })
    (h : exec E (minmaxCmd E mx x y o.dst) st fp = some ((), st', fp')) (hb : Base P E c) (hs : SimD c st a w S ob) : Good P c o a w st' := by
  unfold minmaxCmd at h
  obtain ⟨A, fp1, h1, hA, hAo, hAd, hr⟩ := rdK_inv h hs (hb.globS hs)
  obtain ⟨B, fp2, h2, hB, hBo, hBd, hr2⟩ := rdK_inv h1 hs (hb.globS hs)
  clear h h1
  split at h2
  · rename_i k m k' n
    have ex : a.eval x = .int k m := hA.1.int_inv
    have ey : a.eval y = .int k' n := hB.1.int_inv
    split at h2
    · cases mx
      · exact good_value (v := .int k (if n < m then n else m)) (w' := w) (by simp [execOp, ho, resolve, invoke, builtin, ex, ey, Builtin.min_, Builtin.min2]) (lay_plain h2 hb hs VR.int)
      · exact good_value (v := .int k (if n > m then n else m)) (w' := w) (by simp [execOp, ho, resolve, invoke, builtin, ex, ey, Builtin.max_, Builtin.max2]) (lay_plain h2 hb hs VR.int)
    · exact (exec_fail h2).elim
  · exact (exec_fail h2).elim

theorem len_good {x : Operand} {t : TypeId} (ho : o.op = .call { callee := .builtin .len, args := #[x], argTypes := #[t] })
    (h : exec E (lenCmd E t x o.dst) st fp = some ((), st', fp')) (hb : Base P E c) (hs : SimD c st a w S ob) : Good P c o a w st' := by
  unfold lenCmd at h
  obtain ⟨e, he, h0⟩ := tyK_inv h
  obtain ⟨A, fp1, h1, hA, hAo, hAd, hr⟩ := rdK_inv h0 hs (hb.globS hs)
  clear h h0
  have hrun : ∀ v, (Builtin.len_ #[t] o.type #[a.eval x]).run P w = .ok v w → (execOp a.eval o).run P w = .ok (.value v) w := by
    intro v hv
    simp [execOp, ho, resolve, invoke, builtin, hv]
  split at h1
  · rename_i hstr
    have hu := strT hb.env he hstr
    split at h1
    · rename_i s
      have ex : a.eval x = .string ⟨⟨s⟩⟩ := hA.1.str_inv
      refine good_value (hrun (.int .i64 (s.length : Int)) ?_) (lay_plain h1 hb hs VR.int)
      simp [Builtin.len_, run_underlying hu, ex, goInt, size_str]
    · exact (exec_fail h1).elim
  · rename_i x1 x2 hsl x3
    obtain ⟨el, hd, hu⟩ := slT hb.env he hsl
    split at h1
    · have ex : a.eval x = .slice none 0 0 := hA.1
      refine good_value (hrun (.int .i64 0) ?_) (lay_plain h1 hb hs VR.int)
      simp [Builtin.len_, run_underlying hu, ex, goInt]
    · obtain ⟨d, fp2, h2, hv⟩ := lookK_inv h1 hs hA
      clear h1
      split at h2
      · rename_i u xs
        obtain ⟨ad, cap, ex, _⟩ := VR.sl_inv hv
        refine good_value (hrun (.int .i64 (xs.length : Int)) ?_) (lay_plain h2 hb hs VR.int)
        simp [Builtin.len_, run_underlying hu, ex, goInt]
      · exact (exec_fail h2).elim
  · split at h1
    · rename_i hm
      obtain ⟨ki, vi, hu⟩ : ∃ k v, P.underlying t = some (.map k v) := by
        unfold isMp at hm
        split at hm
        · rename_i k v hd
          exact ⟨k, v, by rw [(hb.env.ty _ _ he).und, hd]⟩
        · cases hm
      obtain ⟨p, q, m, put, fp2, h2, o1, hmp, _, _⟩ := mpK_inv h1 hs hA
      refine good_value (hrun (.int .i64 ((m.getD []).length : Int)) ?_) (lay_plain h2 hb hs VR.int)
      rcases hmp with ⟨e1, e2, _⟩ | ⟨xs, b, es, cl, e1, e2, e3, e4, e5, _⟩
      · simp [Builtin.len_, run_underlying hu, e2, goInt, e1]
      · have hl := e5.length
        simp only [Array.length_toList] at hl
        simp [Builtin.len_, run_underlying hu, e3, goInt, e1, run_getMap e4, hl]
    · exact (exec_fail h1).elim

/-! ## parts of values -/

theorem extract_good {x : Operand} {i : Nat} (ho : o.op = .extract x i) (h : exec E (opCmd E o) st fp = some ((), st', fp')) (hb : Base P E c) (hs : SimD c st a w S ob) : Good P c o a w st' := by
  simp only [opCmd, ho, extractCmd] at h
  obtain ⟨A, fp1, h1, hA, hAo, hAd, hr⟩ := rdK_inv h hs (hb.globS hs)
  clear h
  split at h1
  · rename_i l
    obtain ⟨_, vs, ex, ht⟩ := hA
    split at h1
    · rename_i z hz
      have key : ∀ (l : List Dat) (vs : List Value) (i : Nat) (z : Dat), TupRel S l vs → l[i]? = some z → ∃ v, vs[i]? = some v ∧ VR S z.1 z.2 v := by
        intro l vs i z ht
        induction ht generalizing i with
        | nil => intro hz; simp at hz
        | cons hv _ ih =>
          intro hz
          cases i with
          | zero => simp at hz; subst hz; exact ⟨_, rfl, hv⟩
          | succ i => simpa using ih i (by simpa using hz)
      obtain ⟨v, hv, hvr⟩ := key _ _ _ _ ht hz
      have hv' : vs[i]? = some v := by rw [← Array.getElem?_toList]; exact hv
      exact good_value (v := v) (w' := w) (by simp [execOp, ho, ex, Instr.extract, hv']) (lay_plain h1 hb hs hvr)
    · exact (exec_fail h1).elim
  · rename_i r
    obtain ⟨fp2, h2⟩ := exec_get h1
    clear h1
    split at h2
    · rename_i l hy
      obtain ⟨vs, ev, hot⟩ := hs.rel r _ (getD_at hy (by simp))
      split at h2
      · rename_i z hz
        obtain ⟨v, o1, o2, hv, hvo, hot2, hperm⟩ := hot.part hz
        have hrun : (execOp a.eval o).run P w = .ok (.value v) w := by
          have hv' : vs[i]? = some v := by rw [← Array.getElem?_toList]; exact hv
          simp [execOp, ho, hA.1, ev, Instr.extract, hv']
        split at h2
        · rename_i hn
          exact good_value hrun (lay_plain h2 hb hs (hvo.vr hn).2)
        · split at h2
          · rename_i hov
            obtain ⟨hlt, fp3, h3⟩ := exec_cont h2
            have hnd := hperm.nodup_iff.1 (hs.nd r)
            have hs2 := hs.recast (x := .otup (l.set i ⟨fgt z.1, fgtD z.1 z.2⟩)) (o' := o2) hlt ⟨vs, ev, hot2⟩ rfl (List.nodup_append.1 hnd).2.1 (fun k hk => hperm.mem_iff.2 (by simp [hk]))
            refine good_value hrun (lay_sim h3 hb hs2 (o' := o1) ⟨hov, hvo⟩ (fun b hb' => ?_) (List.nodup_append.1 hnd).1)
            have hbr : b ∈ ob r := hperm.mem_iff.2 (by simp [hb'])
            refine ⟨fun i hi => ?_, hs.hid r b hbr, hs.fresh r b hbr⟩
            split at hi
            · exact (List.nodup_append.1 hnd).2.2 b hb' b hi rfl
            · rename_i hne; exact hne (hs.inj i r b hi hbr)
          · exact (exec_fail h2).elim
      · exact (exec_fail h2).elim
    · exact (exec_fail h2).elim
  · exact (exec_fail h1).elim

/-- a part of a value: where it lies in the cells -/
theorem fieldOk_parts {e : TyI} {f : Nat} (h : fieldOk E e f = true) :
    ∃ fs g eg, e.desc = .struct fs ∧ fs[f]? = some g ∧ E.ty g.type = some eg ∧ offOf e.t [.fld f] = g.offset ∧ eg.size ≠ 0 ∧ tyAt e.t [.fld f] = some eg.t := by
  unfold fieldOk at h
  split at h
  · rename_i fs hfs
    split at h
    · rename_i g hg
      split at h
      · rename_i eg heg
        obtain ⟨h1, h2⟩ := and'_true h
        obtain ⟨h1, h3⟩ := and'_true h1
        split at h2
        · rename_i u hu
          have hd : e.desc = .struct fs := by cases hd : e.desc <;> rw [hd] at hfs <;> simp [fieldsOf] at hfs; subst hfs; rfl
          refine ⟨fs, g, eg, hd, hg, heg, by simpa using h1, ?_, ?_⟩
          · intro e0; rw [e0] at h3; simp at h3
          · rw [hu]; congr 1; simpa [teq] using h2
        · simp at h2
      · simp at h
    · simp at h
  · simp at h

theorem foc_fld_ty : ∀ (t : T) (x : t.den) (f : Nat) (u : T), tyAt t [.fld f] = some u → (foc t x [.fld f]).1 = u ∧ inb t x [.fld f] = true
  | .pair a b, x, f, u, h => by
    cases f with
    | zero =>
      cases a <;> simp [tyAt] at h <;> subst h <;> simp [foc, inb]
    | succ f =>
      have := foc_fld_ty b x.2 f u (by simpa [tyAt] using h)
      simpa [foc, inb] using this
  | .int _, _, _, _, h => by simp [tyAt] at h
  | .bool, _, _, _, h => by simp [tyAt] at h
  | .str, _, _, _, h => by simp [tyAt] at h
  | .opq, _, _, _, h => by simp [tyAt] at h
  | .unit, _, _, _, h => by simp [tyAt] at h
  | .arr _ _, _, _, _, h => by simp [tyAt] at h
  | .sl _, _, _, _, h => by simp [tyAt] at h
  | .ptr _, _, _, _, h => by simp [tyAt] at h
  | .own _, _, _, _, h => by simp [tyAt] at h
  | .any, _, _, _, h => by simp [tyAt] at h
  | .byt _, _, _, _, h => by simp [tyAt] at h
  | .self _, _, _, _, h => by simp [tyAt] at h
  | .fn _ _, _, _, _, h => by simp [tyAt] at h

theorem field_good {s : TypeId} {x : Operand} {f : Nat} (ho : o.op = .field s x f) (h : exec E (opCmd E o) st fp = some ((), st', fp')) (hb : Base P E c) (hs : SimD c st a w S ob) : Good P c o a w st' := by
  simp only [opCmd, ho, fieldCmd] at h
  obtain ⟨e, he, h0⟩ := tyK_inv h
  clear h
  split at h0
  · exact (exec_fail h0).elim
  · rename_i hf
    obtain ⟨A, fp1, h1, hA, hAo, hAd, hr⟩ := rdK_inv h0 hs (hb.globS hs)
    clear h0
    split at h1
    · rename_i t y
      split at h1
      · rename_i y' hy
        obtain ⟨fs, g, eg, hd, hg, heg, hoff, hsz, hty⟩ := fieldOk_parts hf
        have hv : VR S e.t y' (a.eval x) := cast_VR hy hA.1
        obtain ⟨hfoc, hin⟩ := foc_fld_ty e.t y' f eg.t hty
        obtain ⟨c0, c1, c2, hc, hl, hrd, _⟩ := lens e.t y' [.fld f] _ hv.cells hin
        have hag : e.t.isAgg = true := by rw [← (hb.env.ty _ _ he).agg, hd]; rfl
        obtain ⟨cs, ex⟩ : ∃ cs, a.eval x = .agg cs := by
          unfold VR at hv; rw [if_pos hag] at hv; obtain ⟨cs, ex, _⟩ := hv; exact ⟨cs, ex⟩
        rw [ex] at hc
        have hc : cs.toList = c0 ++ (c1 ++ c2) := hc
        generalize hz : foc e.t y' [.fld f] = z at *
        obtain ⟨zt, zx⟩ := z
        dsimp only at hfoc hrd
        subst hfoc
        obtain ⟨v, hrun, hvr⟩ := run_part (P := P) (w := w) (hb.env.ty _ _ heg) hc hrd
        refine good_value (v := v) (w' := w) ?_ (lay_plain h1 hb hs hvr)
        rw [hl, hoff] at hrun
        simp [execOp, ho, Instr.field, run_underlying ((hb.env.ty _ _ he).und.trans (by rw [hd])), hg, ex, asAgg, hrun]
      · exact (exec_fail h1).elim
    · exact (exec_fail h1).elim

theorem index_good {t : TypeId} {x ix : Operand} (ho : o.op = .index t x ix) (h : exec E (opCmd E o) st fp = some ((), st', fp')) (hb : Base P E c) (hs : SimD c st a w S ob) : Good P c o a w st' := by
  simp only [opCmd, ho, indexCmd] at h
  obtain ⟨e, he, h0⟩ := tyK_inv h
  obtain ⟨I, fp0, h1, hI, hIo, hId, hrI⟩ := rdK_inv h0 hs (hb.globS hs)
  obtain ⟨k, n, h2, hi⟩ := intK_inv h1 hI
  obtain ⟨A, fp1, h3, hA, hAo, hAd, hr⟩ := rdK_inv h2 hs (hb.globS hs)
  clear h h0 h1 h2
  split at h3
  · rename_i x1 x2 a0 s hstr
    have hu := strT hb.env he hstr
    have ex : a.eval x = .string ⟨⟨s⟩⟩ := hA.1.str_inv
    obtain ⟨hc, h4⟩ := exec_guard h3
    obtain ⟨h5, h6, h7⟩ := inR_true hc
    refine good_value (v := .int .u8 ((s.getD n.toNat 0).toNat : Int)) (w' := w) ?_ (lay_plain h4 hb hs VR.int)
    have hget : (⟨⟨s⟩⟩ : ByteArray)[n.toNat]? = some (s.getD n.toNat 0) := by
      have : n.toNat < (⟨⟨s⟩⟩ : ByteArray).size := by rw [size_str]; exact h7
      rw [getElem?_pos (⟨⟨s⟩⟩ : ByteArray) n.toNat this]
      simp [List.getD, h7, ByteArray.getElem_eq_getElem_data]
    simp [execOp, ho, Instr.index, hi, asIntOf, run_underlying hu, ex, h5, hget]
  · rename_i x1 x2 a0 m m' u xs hm
    split at h3
    · rename_i hck
      obtain ⟨hmm, hel⟩ := and'_true hck
      obtain ⟨el, hd, hu⟩ := arrT hb.env he hm
      obtain ⟨ee, hee, het⟩ := elemT_arr hd hel
      subst het
      have hmm : m = m' := by simpa using hmm
      subst hmm
      obtain ⟨hc, h4⟩ := exec_guard h3
      obtain ⟨h5, h6, h7⟩ := inR_true hc
      have hv : VR S (.arr m ee.t) xs (a.eval x) := hA.1
      have hag : (T.arr m ee.t).isAgg = true := rfl
      unfold VR at hv; rw [if_pos hag] at hv
      obtain ⟨cs, ex, hrd⟩ := hv
      obtain ⟨hn, hall⟩ := hrd
      obtain ⟨c0, c1, c2, hcs, hl, hr1, _, _⟩ := All.at (Rd.length ee.t) hall (by omega : n.toNat < xs.length) ee.t.dflt
      obtain ⟨v, hrun, hvr⟩ := run_part (P := P) (w := w) (hb.env.ty _ _ hee) hcs hr1
      refine good_value (v := v) (w' := w) ?_ (lay_plain h4 hb hs hvr)
      have hsz := (hb.env.ty _ _ hee).size
      rw [hl, hsz] at hrun
      simp [execOp, ho, Instr.index, hi, asIntOf, run_underlying hu, ex, h5, h6, run_sizeOf (hb.env.ty _ _ hee), hrun]
    · exact (exec_fail h3).elim
  · exact (exec_fail h3).elim
end
end Go.Lift

