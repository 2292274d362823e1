/- What the temporaries of a running function hold: plain data, or memory that the function alone has. The relation to the model's world, and how it is kept. -/
import Derived.Test.YtpnjnnhedadjgaaDoorLfB
set_option linter.all false
namespace Go.Lift

inductive A where
  | v (t : T) (x : t.den)            -- a datum, in memory that nobody writes
  | row (t : T) (xs : List t.den)    -- a slice over a block of its own
  | box (t : T) (x : t.den)          -- a pointer to a block of its own
  | iter (s : List UInt8) (pos : Nat)
  | bor (r : Nat)                    -- the value that temporary r holds, r a block's owner
  | adr (r : Nat) (t : T) (p : List Step)   -- an address inside r's block, whose content is of type t
  | tup (l : List Dat)
  | nilsl
  | dead

def A.own : A → Bool
  | .row .. | .box .. | .iter .. => true
  | _ => false

def A.ref : A → Option Nat
  | .bor r | .adr r .. => some r
  | _ => none

def Free (cs : Array Value) (fr : Nat × Nat) : Prop := ∀ i, i < cs.size → ¬ (fr.1 ≤ i ∧ i < fr.2)

def blockOf : Value → Option Nat
  | .pointer (some ⟨b, 0, none⟩) => some b
  | .slice (some ⟨b, 0, none⟩) _ _ => some b
  | _ => none

inductive TupRel (S : Hp) : List Dat → List Value → Prop
  | nil : TupRel S [] []
  | cons {d : Dat} {v : Value} {l : List Dat} {vs : List Value} (h : VR S d.1 d.2 v) (hs : TupRel S l vs) : TupRel S (d :: l) (v :: vs)

def ARel (h S : Hp) (tv : Nat → Value) : A → Value → Option Nat → Prop
  | .v t x, v, o => VR S t x v ∧ o = none
  | .row t xs, v, o => (xs = [] ∧ v = .slice none 0 0 ∧ o = none) ∨
      ∃ b cap cs E fr, o = some b ∧ v = .slice (some ⟨b, 0, none⟩) xs.length cap ∧ h b = some (.cells cs E fr) ∧ Free cs fr ∧
        cs.size = cap * t.size ∧ xs.length ≤ cap ∧ All (Rd S t) xs (cs.toList.take (xs.length * t.size))
  | .box t x, v, o => ∃ b cs E fr, o = some b ∧ v = .pointer (some ⟨b, 0, none⟩) ∧ h b = some (.cells cs E fr) ∧ Free cs fr ∧ Rd S t x cs.toList
  | .iter s pos, v, o => ∃ b sp, o = some b ∧ v = .pointer (some ⟨b, 0, sp⟩) ∧ h b = some (.stringIter ⟨⟨s⟩⟩ pos)
  | .bor r, v, o => v = tv r ∧ o = none
  | .adr r t p, v, o => o = none ∧ ∃ b, blockOf (tv r) = some b ∧ v = .pointer (some ⟨b, offOf t p, none⟩)
  | .tup l, v, o => o = none ∧ ∃ vs, v = .tuple vs ∧ TupRel S l vs.toList
  | .nilsl, v, o => v = .slice none 0 0 ∧ o = none
  | .dead, _, o => o = none

theorem TupRel.mono {S S' : Hp} (h : Sub S S') {l : List Dat} {vs : List Value} (ht : TupRel S l vs) : TupRel S' l vs := by
  induction ht with
  | nil => exact .nil
  | cons hv _ ih => exact .cons (hv.mono h) ih

theorem ARel.mono {h h' S S' : Hp} {tv tv' : Nat → Value} (hS : Sub S S') {x : A} {v : Value} {o : Option Nat} (ho : ∀ b, o = some b → h' b = h b)
    (ht : ∀ r, x.ref = some r → tv' r = tv r) (hx : ARel h S tv x v o) : ARel h' S' tv' x v o := by
  cases x with
  | v t x => exact ⟨hx.1.mono hS, hx.2⟩
  | row t xs =>
    rcases hx with hx | ⟨b, cap, cs, E, fr, e, e1, e2, h1, h2, h3, h4⟩
    · exact .inl hx
    · exact .inr ⟨b, cap, cs, E, fr, e, e1, by rw [ho b e]; exact e2, h1, h2, h3, All.mono (Rd.mono hS t) _ _ h4⟩
  | box t x => obtain ⟨b, cs, E, fr, e, e1, e2, h1, h2⟩ := hx; exact ⟨b, cs, E, fr, e, e1, by rw [ho b e]; exact e2, h1, h2.mono hS⟩
  | iter s pos => obtain ⟨b, sp, e, e1, e2⟩ := hx; exact ⟨b, sp, e, e1, by rw [ho b e]; exact e2⟩
  | bor r => exact ⟨by rw [ht r rfl]; exact hx.1, hx.2⟩
  | adr r t p => obtain ⟨e, b, e1, e2⟩ := hx; exact ⟨e, b, by rw [ht r rfl]; exact e1, e2⟩
  | tup l => obtain ⟨e, vs, e1, e2⟩ := hx; exact ⟨e, vs, e1, e2.mono hS⟩
  | nilsl => exact hx
  | dead => exact hx

theorem ARel.none_of_not_own {h S : Hp} {tv : Nat → Value} {x : A} {v : Value} {o : Option Nat} (hx : ARel h S tv x v o) (hn : x.own = false) : o = none := by
  cases x <;> simp [A.own] at hn <;> simp [ARel] at hx <;> simp_all

/-- what stays the same while a function runs -/
structure Ctx where
  w0 : World
  S0 : Hp
  B0 : Nat → Prop
  lent : List (Nat × Value)

structure WF (w0 : World) (B0 : Nat → Prop) (w : World) : Prop where
  size : w0.heap.size ≤ w.heap.size
  same : ∀ b, b < w0.heap.size → ¬ B0 b → w.heap[b]? = w0.heap[b]?
  tape : w.tape = w0.tape
  os : w.os = w0.os
  output : w.output = w0.output

theorem WF.refl (w : World) (B : Nat → Prop) : WF w B w := ⟨Nat.le_refl _, fun _ _ _ => rfl, rfl, rfl, rfl⟩

theorem WF.trans {w0 w1 w2 : World} {B0 B1 : Nat → Prop} (h : WF w0 B0 w1) (h' : WF w1 B1 w2) (hB : ∀ b, B1 b → B0 b ∨ w0.heap.size ≤ b) : WF w0 B0 w2 :=
  ⟨Nat.le_trans h.size h'.size, fun b hb hn => by
      rw [h'.same b (Nat.lt_of_lt_of_le hb h.size) (fun hb1 => (hB b hb1).elim hn (fun hle => absurd hb (by omega))), h.same b hb hn],
    h'.tape.trans h.tape, h'.os.trans h.os, h'.output.trans h.output⟩

def tv (a : Act) : Nat → Value := fun i => a.tmps.getD i undef

structure SimD (c : Ctx) (st : List A) (a : Act) (w : World) (S : Hp) (ob : Nat → Option Nat) : Prop where
  defers : a.defers = []
  size : a.tmps.size = st.length
  rel : ∀ (i : Nat) (x : A), st[i]? = some x → ARel (hp w) S (tv a) x (tv a i) (ob i)
  refs : ∀ (i : Nat) (x : A) (r : Nat), st[i]? = some x → x.ref = some r → ∃ y : A, st[r]? = some y ∧ y.own = true
  out : ∀ i, st.length ≤ i → ob i = none
  inj : ∀ i j b, ob i = some b → ob j = some b → i = j
  hid : ∀ i b, ob i = some b → S b = none
  sub : Sub S (hp w)
  mono : Sub c.S0 S
  fresh : ∀ i b, ob i = some b → c.B0 b ∨ c.w0.heap.size ≤ b
  newS : ∀ b, S b ≠ none → c.S0 b ≠ none ∨ c.B0 b ∨ c.w0.heap.size ≤ b
  lent : ∀ p ∈ c.lent, tv a p.1 = p.2
  frame : WF c.w0 c.B0 w

def Sim (c : Ctx) (st : List A) (a : Act) (w : World) : Prop := ∃ S ob, SimD c st a w S ob

def killA (r : Nat) (x : A) : A := match x with
  | .bor s => bif s == r then .dead else x
  | .adr s _ _ => bif s == r then .dead else x
  | _ => x

/-- x is laid in temporary t; if t owned a block, what refers to it is struck -/
def setSt (st : List A) (t : Nat) (x : A) : List A :=
  match st.getD t .dead with
  | .row .. | .box .. | .iter .. => (st.map (killA t)).set t x
  | _ => st.set t x

theorem killA_cases (r : Nat) (x : A) : (killA r x = x ∧ x.ref ≠ some r) ∨ (killA r x = .dead ∧ x.ref = some r) := by
  cases x <;> simp only [killA, A.ref]
  case bor s =>
    cases h : s == r
    · exact .inl ⟨rfl, by simpa using h⟩
    · exact .inr ⟨rfl, by simpa using h⟩
  case adr s t p =>
    cases h : s == r
    · exact .inl ⟨rfl, by simpa using h⟩
    · exact .inr ⟨rfl, by simpa using h⟩
  all_goals simp

theorem killA_own (r : Nat) (x : A) : (killA r x).own = x.own := by
  cases x <;> simp only [killA, A.own]
  case bor s => cases h : s == r <;> rfl
  case adr s t p => cases h : s == r <;> rfl

theorem setSt_length (st : List A) (t : Nat) (x : A) : (setSt st t x).length = st.length := by
  unfold setSt; split <;> simp

theorem setSt_at (st : List A) (t : Nat) (x : A) (ht : t < st.length) : (setSt st t x)[t]? = some x := by
  unfold setSt; split <;> simp [ht]

/-- another temporary, behind setSt: as it was and not referring to t, or struck -/
theorem setSt_other {st : List A} {t : Nat} {x y : A} {i : Nat} (hi : i ≠ t) (hrefs : ∀ (i : Nat) (x : A) (r : Nat), st[i]? = some x → x.ref = some r → ∃ y : A, st[r]? = some y ∧ y.own = true)
    (h : (setSt st t x)[i]? = some y) : (st[i]? = some y ∧ y.ref ≠ some t) ∨ (y = .dead ∧ ∃ z, st[i]? = some z ∧ z.own = false) := by
  have hcase : (((st.map (killA t)).set t x)[i]? = some y → (st[i]? = some y ∧ y.ref ≠ some t) ∨ (y = .dead ∧ ∃ z, st[i]? = some z ∧ z.own = false)) := by
    intro h
    rw [List.getElem?_set_ne (Ne.symm hi), List.getElem?_map] at h
    cases hz : st[i]? with
    | none => simp [hz] at h
    | some z =>
      simp [hz] at h
      rcases killA_cases t z with ⟨e, hr⟩ | ⟨e, hr⟩
      · rw [e] at h; subst h; exact .inl ⟨rfl, hr⟩
      · rw [e] at h; subst h
        exact .inr ⟨rfl, z, rfl, by cases z <;> simp [A.ref] at hr <;> rfl⟩
  unfold setSt at h
  split at h
  · exact hcase h
  · exact hcase h
  · exact hcase h
  · rename_i h1 h2 h3
    rw [List.getElem?_set_ne (Ne.symm hi)] at h
    refine .inl ⟨h, fun hr => ?_⟩
    obtain ⟨z, hz, ho⟩ := hrefs i y t h hr
    have hz' : st.getD t .dead = z := by simp [List.getD, hz]
    cases z <;> simp [A.own] at ho
    · exact h1 _ _ hz'
    · exact h2 _ _ hz'
    · exact h3 _ _ hz'

theorem tv_put (a : Act) (t : Nat) (v : Value) (i : Nat) (ht : t < a.tmps.size) : tv (a.put (some t) v) i = if i = t then v else tv a i := by
  simp only [tv, Act.put, Array.getD_eq_getD_getElem?]
  by_cases h : i = t
  · subst h; simp [ht]
  · rw [if_neg h, Array.getElem?_setIfInBounds_ne (Ne.symm h)]

/-- A VALUE IS LAID -/
theorem SimD.put {c : Ctx} {st : List A} {a : Act} {w : World} {S : Hp} {ob : Nat → Option Nat} (h : SimD c st a w S ob) {t : Nat} {x : A} {v : Value} {o : Option Nat}
    (ht : t < st.length) (hl : ∀ p ∈ c.lent, p.1 ≠ t) (hx : ARel (hp w) S (tv a) x v o) (hr : ∀ r, x.ref = some r → r ≠ t ∧ ∃ y, st[r]? = some y ∧ y.own = true)
    (ho : ∀ b, o = some b → (∀ i, i ≠ t → ob i ≠ some b) ∧ S b = none ∧ (c.B0 b ∨ c.w0.heap.size ≤ b)) :
    SimD c (setSt st t x) (a.put (some t) v) w S (fun i => if i = t then o else ob i) := by
  have hsz := h.size
  have htv : ∀ i, tv (a.put (some t) v) i = if i = t then v else tv a i := fun i => tv_put a t v i (by omega)
  constructor
  · exact h.defers
  · rw [setSt_length]; simpa [Act.put] using h.size
  · intro i y hy
    by_cases hi : i = t
    · subst hi
      rw [setSt_at _ _ _ ht] at hy
      simp at hy; subst hy
      simp only [htv, if_true]
      exact hx.mono (Sub.refl _) (fun _ _ => rfl) (fun r hr' => by rw [htv, if_neg (hr r hr').1])
    · simp only [htv, if_neg hi]
      rcases setSt_other hi h.refs hy with ⟨hy', hne⟩ | ⟨rfl, z, hz, hzo⟩
      · exact (h.rel i y hy').mono (Sub.refl _) (fun _ _ => rfl) (fun r hr' => by rw [htv, if_neg (fun e => hne (by rw [hr', e]))])
      · have := (h.rel i z hz).none_of_not_own hzo
        simp [ARel, this]
  · intro i y r hy hyr
    have key : ∀ r, r ≠ t → (∃ z, st[r]? = some z ∧ z.own = true) → ∃ z, (setSt st t x)[r]? = some z ∧ z.own = true := by
      intro r hrt ⟨z, hz, hzo⟩
      have : ∃ u, (setSt st t x)[r]? = some u := by
        have : r < (setSt st t x).length := by
          rw [setSt_length]
          rcases Nat.lt_or_ge r st.length with hlt | hge
          · exact hlt
          · simp [List.getElem?_eq_none hge] at hz
        exact ⟨_, List.getElem?_eq_getElem this⟩
      obtain ⟨u, hu⟩ := this
      rcases setSt_other hrt h.refs hu with ⟨hu', _⟩ | ⟨_, z', hz', hzo'⟩
      · rw [hz] at hu'; simp at hu'; subst hu'; exact ⟨z, hu, hzo⟩
      · rw [hz] at hz'; simp at hz'; subst hz'; simp [hzo] at hzo'
    by_cases hi : i = t
    · subst hi
      rw [setSt_at _ _ _ ht] at hy
      simp at hy; subst hy
      exact key r (hr r hyr).1 (hr r hyr).2
    · rcases setSt_other hi h.refs hy with ⟨hy', hne⟩ | ⟨rfl, _⟩
      · exact key r (fun e => hne (by rw [hyr, e])) (h.refs i y r hy' hyr)
      · simp [A.ref] at hyr
  · intro i hi
    rw [setSt_length] at hi
    simp only [if_neg (show ¬ i = t by omega)]
    exact h.out i hi
  · intro i j b hi hj
    split at hi <;> split at hj
    · omega
    · rename_i e1 e2; exact absurd hj ((ho b hi).1 j e2)
    · rename_i e1 e2; exact absurd hi ((ho b hj).1 i e1)
    · exact h.inj i j b hi hj
  · intro i b hi
    split at hi
    · exact (ho b hi).2.1
    · exact h.hid i b hi
  · exact h.sub
  · exact h.mono
  · intro i b hi
    split at hi
    · exact (ho b hi).2.2
    · exact h.fresh i b hi
  · exact h.newS
  · intro p hp'
    rw [htv, if_neg (hl p hp')]
    exact h.lent p hp'
  · exact h.frame

/-- the abstraction alone forgets what temporary t holds -/
theorem SimD.drop {c : Ctx} {st : List A} {a : Act} {w : World} {S : Hp} {ob : Nat → Option Nat} (h : SimD c st a w S ob) {t : Nat} (ht : t < st.length) :
    SimD c (setSt st t .dead) a w S (fun i => if i = t then none else ob i) := by
  constructor
  · exact h.defers
  · rw [setSt_length]; exact h.size
  · intro i y hy
    by_cases hi : i = t
    · subst hi
      rw [setSt_at _ _ _ ht] at hy
      simp at hy; subst hy
      simp [ARel]
    · simp only [if_neg hi]
      rcases setSt_other hi h.refs hy with ⟨hy', hne⟩ | ⟨rfl, z, hz, hzo⟩
      · exact h.rel i y hy'
      · have := (h.rel i z hz).none_of_not_own hzo
        simp [ARel, this]
  · intro i y r hy hyr
    by_cases hi : i = t
    · subst hi
      rw [setSt_at _ _ _ ht] at hy
      simp at hy; subst hy
      simp [A.ref] at hyr
    · rcases setSt_other hi h.refs hy with ⟨hy', hne⟩ | ⟨rfl, _⟩
      · obtain ⟨z, hz, hzo⟩ := h.refs i y r hy' hyr
        have hrt : r ≠ t := fun e => hne (by rw [hyr, e])
        have : r < (setSt st t .dead).length := by
          rw [setSt_length]
          rcases Nat.lt_or_ge r st.length with hlt | hge
          · exact hlt
          · simp [List.getElem?_eq_none hge] at hz
        have hu := List.getElem?_eq_getElem this
        rcases setSt_other hrt h.refs hu with ⟨hu', _⟩ | ⟨_, z', hz', hzo'⟩
        · rw [hz] at hu'; simp at hu'; exact ⟨_, hu, by rw [← hu']; exact hzo⟩
        · rw [hz] at hz'; simp at hz'; subst hz'; simp [hzo] at hzo'
      · simp [A.ref] at hyr
  · intro i hi
    rw [setSt_length] at hi
    split
    · rfl
    · exact h.out i hi
  · intro i j b hi hj
    split at hi <;> split at hj
    · omega
    · simp at hi
    · simp at hj
    · exact h.inj i j b hi hj
  · intro i b hi
    split at hi
    · simp at hi
    · exact h.hid i b hi
  · exact h.sub
  · exact h.mono
  · intro i b hi
    split at hi
    · simp at hi
    · exact h.fresh i b hi
  · exact h.newS
  · exact h.lent
  · exact h.frame

/-- THE WORLD TURNS, but not what is read or owned -/
theorem SimD.world {c : Ctx} {st : List A} {a : Act} {w w' : World} {S : Hp} {ob : Nat → Option Nat} (h : SimD c st a w S ob) (hs : Sub (hp w) (hp w')) (hf : WF c.w0 c.B0 w') :
    SimD c st a w' S ob := by
  refine ⟨h.defers, h.size, ?_, h.refs, h.out, h.inj, h.hid, h.sub.trans hs, h.mono, h.fresh, h.newS, h.lent, hf⟩
  intro i x hx
  have hx' := h.rel i x hx
  refine hx'.mono (Sub.refl _) (fun b hb => ?_) (fun _ _ => rfl)
  have : ∃ o, hp w b = some o := by
    cases x <;> simp [ARel] at hx' <;> (try (simp_all; done))
    · rcases hx' with hx' | ⟨b', cap, cs, E, f1, f2, e, e1, e2, _⟩
      · simp_all
      · simp_all
    · obtain ⟨b', e, e1, cs, E, f1, f2, e2, _⟩ := hx'; simp_all
  obtain ⟨o, ho⟩ := this
  rw [ho, hs b o ho]

/-- THE CONTENT OF AN OWNED BLOCK TURNS -/
theorem SimD.content {c : Ctx} {st : List A} {a : Act} {w w' : World} {S : Hp} {ob : Nat → Option Nat} (h : SimD c st a w S ob) {r b : Nat} {x : A} (hr : r < st.length) (hb : ob r = some b)
    (hx : ARel (hp w') S (tv a) x (tv a r) (some b)) (hxo : x.own = true) (hsame : ∀ b', b' ≠ b → hp w' b' = hp w b') (hf : WF c.w0 c.B0 w') :
    SimD c (st.set r x) a w' S ob := by
  have hxr : x.ref = none := by cases x <;> simp [A.own] at hxo <;> rfl
  refine ⟨h.defers, by simpa using h.size, ?_, ?_, by simpa using h.out, h.inj, h.hid, ?_, h.mono, h.fresh, h.newS, h.lent, hf⟩
  · intro i y hy
    by_cases hi : i = r
    · subst hi
      simp [hr] at hy; subst hy
      rw [hb]; exact hx
    · rw [List.getElem?_set_ne (Ne.symm hi)] at hy
      refine (h.rel i y hy).mono (Sub.refl _) (fun b' hb' => hsame b' ?_) (fun _ _ => rfl)
      intro e; subst e; exact hi (h.inj i r _ hb' hb)
  · intro i y s hy hys
    have key : ∀ s : Nat, (∃ z : A, st[s]? = some z ∧ z.own = true) → ∃ z : A, (st.set r x)[s]? = some z ∧ z.own = true := by
      intro s ⟨z, hz, hzo⟩
      by_cases hs : s = r
      · subst hs; exact ⟨x, by simp [hr], hxo⟩
      · exact ⟨z, by rw [List.getElem?_set_ne (Ne.symm hs)]; exact hz, hzo⟩
    by_cases hi : i = r
    · subst hi
      simp [hr] at hy; subst hy
      simp [hxr] at hys
    · rw [List.getElem?_set_ne (Ne.symm hi)] at hy
      exact key s (h.refs i y s hy hys)
  · intro b' o hbo
    rw [hsame b' (fun e => by subst e; rw [h.hid r _ hb] at hbo; simp at hbo)]
    exact h.sub b' o hbo

def retA (r : Nat) (t : T) (xs : List t.den) (x : A) : A := match x with
  | .bor s => bif s == r then .v (.sl t) xs else x
  | .adr s _ _ => bif s == r then .dead else x
  | _ => x

/-- an owned row is given up: from now on it is read alone -/
def retSt (st : List A) (r : Nat) : List A :=
  match st.getD r .dead with
  | .row t xs => (st.map (retA r t xs)).set r (.v (.sl t) xs)
  | _ => st

theorem retSt_length (st : List A) (r : Nat) : (retSt st r).length = st.length := by
  unfold retSt; split <;> simp

theorem ARel.row_shared {h S S' : Hp} {tv : Nat → Value} {t : T} {xs : List t.den} {v : Value} {o : Option Nat} (hx : ARel h S tv (.row t xs) v o) (hS : Sub S S') (ho : ∀ b, o = some b → S' b = h b) :
    VR S' (.sl t) xs v := by
  refine VR.of_one rfl ?_
  rcases hx with ⟨rfl, rfl, _⟩ | ⟨b, cap, cs, E, fr, e, rfl, e2, h1, h2, h3, h4⟩
  · exact ⟨none, 0, rfl, by simp, .inl rfl⟩
  · refine ⟨some ⟨b, 0, none⟩, cap, rfl, h3, .inr ⟨b, 0, _, rfl, ⟨cs, E, fr, [], cs.toList.drop (xs.length * t.size), ?_, by simp, rfl⟩, All.mono (Rd.mono hS t) _ _ h4⟩⟩
    rw [ho b e, e2]

theorem SimD.retire {c : Ctx} {st : List A} {a : Act} {w : World} {S : Hp} {ob : Nat → Option Nat} (h : SimD c st a w S ob) {r : Nat} {t : T} {xs : List t.den} (hr : st[r]? = some (.row t xs)) :
    ∃ S', Sub S S' ∧ VR S' (.sl t) xs (tv a r) ∧ SimD c (retSt st r) a w S' (fun i => if i = r then none else ob i) := by
  have hlt : r < st.length := by
    rcases Nat.lt_or_ge r st.length with hlt | hge
    · exact hlt
    · simp [List.getElem?_eq_none hge] at hr
  have hx := h.rel r _ hr
  let S' : Hp := fun b => if ob r = some b then hp w b else S b
  have hSS : Sub S S' := fun b o hbo => by
    show (if ob r = some b then hp w b else S b) = some o
    split
    · rename_i e; rw [h.hid r b e] at hbo; simp at hbo
    · exact hbo
  have hv : VR S' (.sl t) xs (tv a r) := hx.row_shared hSS (fun b e => by show (if ob r = some b then hp w b else S b) = _; rw [if_pos e])
  have est : retSt st r = (st.map (retA r t xs)).set r (.v (.sl t) xs) := by
    unfold retSt; simp [List.getD, hr]
  refine ⟨S', hSS, hv, ?_⟩
  have other : ∀ {i : Nat} {y : A}, i ≠ r → (retSt st r)[i]? = some y → (st[i]? = some y ∧ y.ref ≠ some r) ∨ ((y = .dead ∨ (y = .v (.sl t) xs ∧ tv a i = tv a r)) ∧ ob i = none) := by
    intro i y hi hy
    rw [est, List.getElem?_set_ne (Ne.symm hi), List.getElem?_map] at hy
    cases hz : st[i]? with
    | none => simp [hz] at hy
    | some z =>
      simp [hz] at hy
      have hzr := h.rel i z hz
      cases z <;> simp [retA] at hy <;> (try (subst hy; exact .inl ⟨rfl, by simp [A.ref]⟩))
      case bor s =>
        by_cases hs : s = r
        · subst hs; simp at hy; subst hy; exact .inr ⟨.inr ⟨rfl, hzr.1⟩, hzr.2⟩
        · rw [show (s == r) = false by simpa using hs] at hy
          simp at hy; subst hy; exact .inl ⟨rfl, by simpa [A.ref] using hs⟩
      case adr s t' p =>
        by_cases hs : s = r
        · subst hs; simp at hy; subst hy; exact .inr ⟨.inl rfl, hzr.1⟩
        · rw [show (s == r) = false by simpa using hs] at hy
          simp at hy; subst hy; exact .inl ⟨rfl, by simpa [A.ref] using hs⟩
  constructor
  · exact h.defers
  · rw [retSt_length]; exact h.size
  · intro i y hy
    by_cases hi : i = r
    · subst hi
      rw [est] at hy; simp [hlt] at hy; subst hy
      exact ⟨hv, by simp⟩
    · simp only [if_neg hi]
      rcases other hi hy with ⟨hy', _⟩ | ⟨rfl | ⟨rfl, e⟩, hn⟩
      · exact (h.rel i y hy').mono hSS (fun _ _ => rfl) (fun _ _ => rfl)
      · exact hn
      · exact ⟨by rw [e]; exact hv, hn⟩
  · intro i y s hy hys
    by_cases hi : i = r
    · subst hi
      rw [est] at hy; simp [hlt] at hy; subst hy
      simp [A.ref] at hys
    · rcases other hi hy with ⟨hy', hne⟩ | ⟨rfl | ⟨rfl, _⟩, _⟩
      · obtain ⟨z, hz, hzo⟩ := h.refs i y s hy' hys
        have hsr : s ≠ r := fun e => hne (by rw [hys, e])
        refine ⟨retA r t xs z, ?_, ?_⟩
        · rw [est, List.getElem?_set_ne (Ne.symm hsr), List.getElem?_map, hz]; rfl
        · cases z <;> simp [A.own] at hzo <;> rfl
      · simp [A.ref] at hys
      · simp [A.ref] at hys
  · intro i hi
    rw [retSt_length] at hi
    split
    · rfl
    · exact h.out i hi
  · intro i j b hi hj
    split at hi <;> split at hj
    · omega
    · simp at hi
    · simp at hj
    · exact h.inj i j b hi hj
  · intro i b hi
    split at hi
    · simp at hi
    · rename_i hne
      show (if ob r = some b then hp w b else S b) = none
      rw [if_neg (fun e => hne (h.inj i r b hi e))]
      exact h.hid i b hi
  · intro b o hbo
    change (if ob r = some b then hp w b else S b) = some o at hbo
    split at hbo
    · exact hbo
    · exact h.sub b o hbo
  · exact h.mono.trans hSS
  · intro i b hi
    split at hi
    · simp at hi
    · exact h.fresh i b hi
  · intro b hb
    change (if ob r = some b then hp w b else S b) ≠ none at hb
    split at hb
    · rename_i e; exact .inr (h.fresh r b e)
    · exact h.newS b hb
  · exact h.lent
  · exact h.frame
end Go.Lift
