/- A typed reading of memory, an evaluator over the translated operations, and its laws (own work, in one text). -/
import Derived.Test.YtnfmbjljpolnnaaDoorLgFw8
import Derived.WalkKit
import Derived.ProofKit
import Derived.OpenShut
import Derived.ShutString
import Derived.ChangeOld
import Derived.Below
/- What comes in: an argument that reads as data, as a plain datum; and back. -/
set_option linter.all false
namespace Go.Lift
open Go.RowKit

/-- what bounds a datum has that came in -/
def Wf : (t : T) → t.den → Prop
  | .int k, n => (Lit.int k n).wf = true
  | .str, s => s.length ≤ maxLen
  | .pair a b, x => Wf a x.1 ∧ Wf b x.2
  | .arr n t, xs => xs.length = n ∧ ∀ x ∈ xs, Wf t x
  | .sl t, xs => xs.length ≤ maxLen ∧ ∀ x ∈ xs, Wf t x
  | _, _ => True

/-- the type's shape is u: of a type, or of the rest of a struct's fields -/
def mtB (P : Program) : (u : T) → (TypeId ⊕ (List Field × Nat)) → Bool
  | .bool, .inl t => match P.underlying t with
    | some .bool => true
    | _ => false
  | .int k, .inl t => match P.underlying t with
    | some (.int k') => decide (k = k')
    | _ => false
  | .str, .inl t => match P.underlying t with
    | some .string => true
    | _ => false
  | .sl u, .inl t => match P.underlying t with
    | some (.slice e) => and' (mtB P u (.inl e)) (and' (Nat.beq (P.cellsOf e) u.size) (Nat.blt 0 u.size))
    | _ => false
  | .arr n u, .inl t => match P.underlying t with
    | some (.array m e) => and' (mtB P u (.inl e)) (and' (Nat.beq n m) (and' (Nat.beq (P.cellsOf e) u.size) (Nat.beq (P.cellsOf t) (n * u.size))))
    | _ => false
  | .unit, .inl t => match P.underlying t with
    | some (.struct fs) => and' (Nat.beq (P.cellsOf t) 0) (Nat.beq fs.size 0)
    | _ => false
  | .unit, .inr p => match p.1 with
    | [] => true
    | _ => false
  | .pair a b, .inl t => match P.underlying t with
    | some (.struct fs) => (match fs.toList with
      | f :: r => and' (and' (mtB P a (.inl f.type)) (mtB P b (.inr (r, a.size)))) (and' (Nat.beq (P.cellsOf t) (a.size + b.size)) (and' (Nat.beq f.offset 0) (Nat.beq (P.cellsOf f.type) a.size)))
      | [] => false)
    | _ => false
  | .pair a b, .inr p => match p.1 with
    | f :: r => and' (and' (mtB P a (.inl f.type)) (mtB P b (.inr (r, p.2 + a.size)))) (and' (Nat.beq f.offset p.2) (Nat.beq (P.cellsOf f.type) a.size))
    | [] => false
  | _, _ => false

section
variable {H : Type} {enc : TypeId × Value → H} {P : Program} {w : World} {base : Nat} {spare : Nat → Bool} {held : Bool}

theorem beqN {a b : Nat} (h : Nat.beq a b = true) : a = b := Nat.eq_of_beq_eq_true h

/-- cells that stand one behind the other -/
theorem lies_of {a : Addr} {cs : List Value} (h0 : 0 < cs.length) (h : ∀ i, i < cs.length → w.cell? (a.add i) = cs[i]?) : ∃ b off, a = ⟨b, off, none⟩ ∧ Lies (hp w) b off cs := by
  obtain ⟨b, off, sp⟩ := a
  have h00 := h 0 h0
  rw [List.getElem?_eq_getElem h0] at h00
  have hsp : sp = none := by simpa [Addr.add] using World.cell?_spot h00
  subst hsp
  refine ⟨b, off, rfl, ?_⟩
  have h' : ∀ i, i < cs.length → w.cell? ⟨b, off + i, none⟩ = cs[i]? := fun i hi => by rw [← Go.WideShapes.add_plain]; exact h i hi
  have hob : ∃ all E fr, w.heap[b]? = some (.cells all E fr) := by
    have := h' 0 h0
    rw [List.getElem?_eq_getElem h0] at this
    unfold World.cell? at this
    split at this
    · rename_i all E fr hb; exact ⟨all, E, fr, hb⟩
    · cases this
  obtain ⟨all, E, fr, hb⟩ := hob
  have hget : ∀ i, i < cs.length → all.toList[off + i]? = cs[i]? := by
    intro i hi
    have := h' i hi
    unfold World.cell? at this
    simp only [hb] at this
    rw [← this]
    simp
  refine ⟨all, E, fr, all.toList.take off, all.toList.drop (off + cs.length), hb, ?_, ?_⟩
  · have hlen : off + cs.length ≤ all.toList.length := by
      rcases Nat.lt_or_ge all.toList.length (off + cs.length) with hlt | hge
      · have := hget (cs.length - 1) (by omega)
        rw [List.getElem?_eq_none (by omega), List.getElem?_eq_getElem (by omega)] at this
        cases this
      · exact hge
    have e : (all.toList.drop off).take cs.length = cs := by
      apply List.ext_getElem?
      intro i
      by_cases hi : i < cs.length
      · rw [List.getElem?_take_of_lt hi, List.getElem?_drop, hget i hi]
      · rw [List.getElem?_eq_none (by simp; omega), List.getElem?_eq_none (by omega)]
    have e2 : all.toList.drop (off + cs.length) = (all.toList.drop off).drop cs.length := by rw [List.drop_drop]
    rw [e2]
    conv => rhs; rw [← e, List.length_take, List.length_drop, Nat.min_eq_left (by omega)]
    rw [List.take_append_drop, List.take_append_drop]
  · rw [List.length_take]
    have := hget 0 h0
    rw [List.getElem?_eq_getElem h0] at this
    have : off + 0 < all.toList.length := by
      rcases Nat.lt_or_ge (off + 0) all.toList.length with h | h
      · exact h
      · rw [List.getElem?_eq_none h] at this; cases this
    omega

/-- elements that stand one behind the other -/
theorem all_of {α : Type} {R : α → List Value → Prop} {W : α → Prop} {a : Addr} {sz : Nat} (hs : ∀ x cs, R x cs → cs.length = sz) : ∀ (n : Nat), (∀ i, i < n → ∃ cs x, cs.length = sz ∧ (∀ j, j < sz → w.cell? (a.add (i * sz + j)) = cs[j]?) ∧ R x cs ∧ W x) →
    ∃ xs c, xs.length = n ∧ All R xs c ∧ (∀ x ∈ xs, W x) ∧ (∀ j, j < n * sz → w.cell? (a.add j) = c[j]?)
  | 0, _ => ⟨[], [], rfl, rfl, fun _ h => (by cases h), fun j hj => (by simp at hj)⟩
  | n + 1, h => by
    obtain ⟨xs, c, hl, hA, hW, hc⟩ := all_of hs n (fun i hi => h i (by omega))
    obtain ⟨cs, x, hcl, hcc, hR, hWx⟩ := h n (by omega)
    refine ⟨xs ++ [x], c ++ cs, by simp [hl], hA.append (All.one hR), ?_, ?_⟩
    · intro y hy
      rcases List.mem_append.1 hy with hy | hy
      · exact hW y hy
      · simp at hy; rw [hy]; exact hWx
    · intro j hj
      have hlen : c.length = n * sz := by rw [All.length hs _ _ hA, hl]
      rcases Nat.lt_or_ge j (n * sz) with hlt | hge
      · rw [hc j hlt, List.getElem?_append_left (by omega)]
      · have := hcc (j - n * sz) (by rw [Nat.succ_mul] at hj; omega)
        rw [show n * sz + (j - n * sz) = j by omega] at this
        rw [this, List.getElem?_append_right (by omega), hlen]

theorem add_add (a : Addr) (i j : Nat) (h : a.spot = none) : (a.add i).add j = a.add (i + j) := by
  obtain ⟨b, off, sp⟩ := a
  dsimp only at h
  subst h
  rw [Go.WideShapes.add_plain, Go.WideShapes.add_plain, Go.WideShapes.add_plain, Nat.add_assoc]

/-- WHAT READS AS DATA IS A PLAIN DATUM -/
theorem open_T : ∀ (u : T),
    (∀ (t : TypeId) (fuel : Nat) (cs : List Value) x, mtB P u (.inl t) = true → DataW.trod enc P w base spare held fuel t cs = some x → ∃ y, Rd (hp w) u y cs ∧ Wf u y) ∧
    (∀ (fs : List Field) (off n : Nat) (cs : List Value), mtB P u (.inr (fs, off)) = true → (∀ f ∈ fs, ∃ x, DataW.trod enc P w base spare held n f.type ((cs.drop f.offset).take (P.cellsOf f.type)) = some x) → cs.length = off + u.size →
      ∃ y, Rd (hp w) u y (cs.drop off) ∧ Wf u y) := by
  intro u
  induction u with
  | int k =>
    refine ⟨fun t fuel cs x hm h => ?_, fun fs off n cs hm => by simp [mtB] at hm⟩
    simp only [mtB] at hm
    split at hm
    · rename_i k' hu
      have hm : k = k' := by simpa using hm
      subst hm
      obtain ⟨n, rfl, _, hw⟩ := DataW.trod_int hu h
      exact ⟨n, rfl, hw⟩
    · cases hm
  | bool =>
    refine ⟨fun t fuel cs x hm h => ?_, fun fs off n cs hm => by simp [mtB] at hm⟩
    simp only [mtB] at hm
    split at hm
    · rename_i hu
      obtain ⟨n, rfl, _⟩ := DataW.trod_bool hu h
      exact ⟨n, rfl, trivial⟩
    · cases hm
  | str =>
    refine ⟨fun t fuel cs x hm h => ?_, fun fs off n cs hm => by simp [mtB] at hm⟩
    simp only [mtB] at hm
    split at hm
    · rename_i hu
      obtain ⟨s, rfl, _, hw⟩ := DataW.trod_string hu h
      exact ⟨s.data.toList, rfl, by simpa [Wf] using hw⟩
    · cases hm
  | opq => exact ⟨fun t fuel cs x hm => by simp [mtB] at hm, fun fs off n cs hm => by simp [mtB] at hm⟩
  | ptr t _ => exact ⟨fun t fuel cs x hm => by simp [mtB] at hm, fun fs off n cs hm => by simp [mtB] at hm⟩
  | own t _ => exact ⟨fun t fuel cs x hm => by simp [mtB] at hm, fun fs off n cs hm => by simp [mtB] at hm⟩
  | self ty => exact ⟨fun t fuel cs x hm => by simp [mtB] at hm, fun fs off n cs hm => by simp [mtB] at hm⟩
  | byt ty => exact ⟨fun t fuel cs x hm => by simp [mtB] at hm, fun fs off n cs hm => by simp [mtB] at hm⟩
  | any => exact ⟨fun t fuel cs x hm => by simp [mtB] at hm, fun fs off n cs hm => by simp [mtB] at hm⟩
  | mp k v _ _ => exact ⟨fun t fuel cs x hm => by simp [mtB] at hm, fun fs off n cs hm => by simp [mtB] at hm⟩
  | nb t _ => exact ⟨fun t fuel cs x hm => by simp [mtB] at hm, fun fs off n cs hm => by simp [mtB] at hm⟩
  | ifc ty t _ => exact ⟨fun t fuel cs x hm => by simp [mtB] at hm, fun fs off n cs hm => by simp [mtB] at hm⟩
  | fn f t _ => exact ⟨fun t fuel cs x hm => by simp [mtB] at hm, fun fs off n cs hm => by simp [mtB] at hm⟩
  | unit =>
    refine ⟨fun t fuel cs x hm h => ?_, fun fs off n cs hm h hl => ⟨(), by simp [Rd]; simp [T.size] at hl; omega, trivial⟩⟩
    simp only [mtB] at hm
    split at hm
    · rename_i fs hu
      obtain ⟨h1, h2⟩ := and'_true hm
      obtain ⟨xs, n, _, _, hl, _⟩ := DataW.trod_struct hu h
      rw [beqN h1] at hl
      exact ⟨(), by simpa [Rd] using hl, trivial⟩
    · cases hm
  | sl u ih =>
    refine ⟨fun t fuel cs x hm h => ?_, fun fs off n cs hm => by simp [mtB] at hm⟩
    simp only [mtB] at hm
    split at hm
    · rename_i e hu
      obtain ⟨h1, h2⟩ := and'_true hm
      obtain ⟨h2, h3⟩ := and'_true h2
      have h2 := beqN h2
      have h3 : 0 < u.size := by simpa using h3
      rcases DataW.trod_slice hu h with ⟨rfl, _⟩ | ⟨a, len, cap, elems, rest, n, _, rfl, _, hb, hl, hc, hel, heach, _⟩
      · exact ⟨[], ⟨none, 0, rfl, by simp, .inl rfl⟩, by simp [Wf]⟩
      · have hee : ∀ i, i < len → ∃ cs x, cs.length = u.size ∧ (∀ j, j < u.size → w.cell? (a.add (i * u.size + j)) = cs[j]?) ∧ Rd (hp w) u x cs ∧ Wf u x := by
          intro i hi
          have hi' := heach i hi
          rw [List.getElem?_eq_getElem (by omega)] at hi'
          obtain ⟨cs, hcs, htr⟩ := Option.bind_eq_some_iff.1 hi'
          obtain ⟨x, hR, hW⟩ := ih.1 e n cs _ h1 htr
          rw [h2] at hcs
          obtain ⟨hbb, hcl, hcc⟩ := World.cells?_some hcs
          refine ⟨cs, x, hcl, fun j hj => ?_, hR, hW⟩
          rw [← hcc j hj, ← add_add]
          have := hcc 0 h3
          rw [List.getElem?_eq_getElem (by omega)] at this
          have h0 : ((a.add (i * u.size)).add 0).spot = none := World.cell?_spot this
          by_cases hi0 : i * u.size = 0
          · simpa [Addr.add, hi0] using h0
          · have hlt : 0 < len := by omega
            have h00 := heach 0 hlt
            rw [List.getElem?_eq_getElem (by omega)] at h00
            obtain ⟨cs0, hcs0, _⟩ := Option.bind_eq_some_iff.1 h00
            rw [h2] at hcs0
            obtain ⟨_, hcl0, hcc0⟩ := World.cells?_some hcs0
            have := hcc0 0 h3
            rw [List.getElem?_eq_getElem (by omega)] at this
            have h0 : ((a.add (0 * u.size)).add 0).spot = none := World.cell?_spot this
            simpa [Addr.add] using h0
        obtain ⟨xs, c, hxl, hA, hW, hcell⟩ := all_of (Rd.length u) len hee
        have hclen : c.length = len * u.size := by rw [All.length (Rd.length u) _ _ hA, hxl]
        refine ⟨xs, ⟨some a, cap, by rw [hxl], by omega, ?_⟩, by omega, hW⟩
        cases xs with
        | nil => exact .inl rfl
        | cons x xs =>
          have : 0 < len := by rw [← hxl]; simp
          have hpos : 0 < len * u.size := Nat.mul_pos this h3
          obtain ⟨b, off, rfl, hlies⟩ := lies_of (cs := c) (by omega) (fun i hi => hcell i (by omega))
          exact .inr ⟨b, off, c, rfl, hlies, hA⟩
    · cases hm
  | arr n u ih =>
    refine ⟨fun t fuel cs x hm h => ?_, fun fs off n cs hm => by simp [mtB] at hm⟩
    simp only [mtB] at hm
    split at hm
    · rename_i m e hu
      obtain ⟨h1, h2⟩ := and'_true hm
      obtain ⟨h2, h3⟩ := and'_true h2
      obtain ⟨h3, h4⟩ := and'_true h3
      have h2 := beqN h2
      have h3 := beqN h3
      have h4 := beqN h4
      subst h2
      obtain ⟨xs, k, _, _, hl, hxl, heach⟩ := DataW.trod_array hu h
      rw [h4] at hl
      have key : ∀ (n : Nat) (cs : List Value), cs.length = n * u.size → (∀ i, i < n → ∃ y, Rd (hp w) u y ((cs.drop (i * u.size)).take u.size) ∧ Wf u y) → ∃ ys, ys.length = n ∧ All (Rd (hp w) u) ys cs ∧ ∀ y ∈ ys, Wf u y := by
        intro n
        induction n with
        | zero => intro cs hl _; exact ⟨[], rfl, by simp at hl; rw [hl]; rfl, fun _ h => by cases h⟩
        | succ n ihn =>
          intro cs hl he
          obtain ⟨y, hy, hyw⟩ := he 0 (by omega)
          obtain ⟨ys, hyl, hys, hysw⟩ := ihn (cs.drop u.size) (by rw [List.length_drop, hl, Nat.succ_mul]; omega) (fun i hi => by
            have := he (i + 1) (by omega)
            rw [Nat.succ_mul, Nat.add_comm, ← List.drop_drop] at this
            exact this)
          refine ⟨y :: ys, by simp [hyl], ⟨cs.take u.size, cs.drop u.size, by rw [List.take_append_drop], by simpa using hy, hys⟩, ?_⟩
          intro z hz
          rcases List.mem_cons.1 hz with rfl | hz
          · exact hyw
          · exact hysw z hz
      obtain ⟨ys, hyl, hys, hyw⟩ := key n cs hl (fun i hi => by
        have := heach i hi
        rw [List.getElem?_eq_getElem (by omega), h3] at this
        exact ih.1 e k _ _ h1 this)
      exact ⟨ys, ⟨hyl, hys⟩, hyl, hyw⟩
    · cases hm
  | pair a b iha ihb =>
    have fields : ∀ (f : Field) (r : List Field) (off n : Nat) (cs : List Value), mtB P a (.inl f.type) = true → mtB P b (.inr (r, off + a.size)) = true → f.offset = off → P.cellsOf f.type = a.size →
        (∀ g ∈ f :: r, ∃ x, DataW.trod enc P w base spare held n g.type ((cs.drop g.offset).take (P.cellsOf g.type)) = some x) → cs.length = off + (a.size + b.size) → ∃ y, Rd (hp w) (.pair a b) y (cs.drop off) ∧ Wf (.pair a b) y := by
      intro f r off n cs h1 h2 h3 h4 he hl
      obtain ⟨x, hx⟩ := he f (by simp)
      rw [h3, h4] at hx
      obtain ⟨y, hy, hyw⟩ := iha.1 _ _ _ _ h1 hx
      obtain ⟨z, hz, hzw⟩ := ihb.2 r (off + a.size) n cs h2 (fun g hg => he g (by simp [hg])) (by omega)
      exact ⟨(y, z), ⟨_, _, by rw [← List.drop_drop, List.take_append_drop], hy, hz⟩, hyw, hzw⟩
    constructor
    · intro t fuel cs x hm h
      simp only [mtB] at hm
      split at hm
      · rename_i fs hu
        split at hm
        · rename_i f r hfs
          obtain ⟨h1, h2⟩ := and'_true hm
          obtain ⟨h0, h1'⟩ := and'_true h1
          obtain ⟨h2, h3⟩ := and'_true h2
          obtain ⟨h3, h4⟩ := and'_true h3
          obtain ⟨xs, k, _, _, hl, hxl, heach⟩ := DataW.trod_struct hu h
          rw [beqN h2] at hl
          have := fields f r 0 k cs h0 (by rw [Nat.zero_add]; exact h1') (beqN h3) (beqN h4) (fun g hg => by
            rw [← hfs] at hg
            obtain ⟨i, hi, rfl⟩ := List.getElem_of_mem hg
            have hi' : i < fs.size := by simpa using hi
            have := heach i fs[i] (by rw [Array.getElem?_eq_getElem hi'])
            rw [List.getElem?_eq_getElem (by omega)] at this
            exact ⟨_, by simpa using this⟩) (by omega)
          simpa using this
        · cases hm
      · cases hm
    · intro fs off n cs hm he hl
      simp only [mtB] at hm
      split at hm
      · rename_i f r
        obtain ⟨h1, h2⟩ := and'_true hm
        obtain ⟨h0, h1'⟩ := and'_true h1
        obtain ⟨h3, h4⟩ := and'_true h2
        exact fields f r off n cs h0 h1' (beqN h3) (beqN h4) he hl
      · cases hm

theorem okWide_cell {r : Reach} {b0 : Nat} {t : TypeId} {v : Value} (h : Value.okWide P w r b0 t v) (hs : ∀ fs, P.underlying t ≠ some (.struct fs)) (ha : ∀ n e, P.underlying t ≠ some (.array n e)) : v.cells = #[v] := by
  unfold Value.okWide at h
  split at h
  · rename_i fs hu; exact absurd hu (hs fs)
  · rename_i n e hu; exact absurd hu (ha n e)
  · have no : ∀ cs, Cell.okWide P w r b0 t (.agg cs) → False := by
      intro cs
      unfold Cell.okWide Cell.ok
      generalize P.underlying t = o
      cases o with
      | none => exact id
      | some d => cases d <;> exact id
    cases v <;> first
      | rfl
      | exact (no _ h).elim

/-- an argument -/
theorem open_arg {r : Reach} {b0 : Nat} {u : T} {t : TypeId} {v : Value} {d : DataW H} {ps : List MemPlace} (hm : mtB P u (.inl t) = true) (hval : Value.okWide P w r b0 t v) (hd : DataW.Trod enc P w base spare held t v d ps) : ∃ y, VR (hp w) u y v ∧ Wf u y := by
  obtain ⟨fuel, hf⟩ := hd
  obtain ⟨y, hy, hw⟩ := (open_T (H := H) (enc := enc) (base := base) (spare := spare) (held := held) u).1 t fuel _ _ hm hf
  refine ⟨y, ?_, hw⟩
  cases hu : u.isAgg with
  | false =>
    have : v.cells = #[v] := by
      apply okWide_cell hval
      · intro fs e; cases u <;> simp [T.isAgg] at hu <;> simp [mtB, e] at hm
      · intro n e' e; cases u <;> simp [T.isAgg] at hu <;> simp [mtB, e] at hm
    rw [this] at hy
    exact VR.of_one hu hy
  | true =>
    have : ∃ cs, v = .agg cs := by
      unfold Value.okWide at hval
      split at hval
      · obtain ⟨cs, rfl, _⟩ := hval; exact ⟨cs, rfl⟩
      · obtain ⟨cs, rfl, _⟩ := hval; exact ⟨cs, rfl⟩
      · rename_i h1 h2
        exfalso
        cases u <;> try (cases hu; done)
        case unit =>
          unfold mtB at hm
          generalize hq : P.underlying t = q at hm
          cases q with
          | none => cases hm
          | some d => cases d <;> first
            | (cases hm; done)
            | exact h1 _ hq
        case pair =>
          unfold mtB at hm
          generalize hq : P.underlying t = q at hm
          cases q with
          | none => cases hm
          | some d => cases d <;> first
            | (cases hm; done)
            | exact h1 _ hq
        case arr =>
          unfold mtB at hm
          generalize hq : P.underlying t = q at hm
          cases q with
          | none => cases hm
          | some d => cases d <;> first
            | (cases hm; done)
            | exact h2 _ _ hq
    obtain ⟨cs, rfl⟩ := this
    exact VR.of_agg hu hy

def argsS : List T → List (Nat × AS)
  | [] => []
  | u :: us => (0, .v u) :: argsS us

def WfS : (us : List T) → denS (argsS us) → Prop
  | [], _ => True
  | u :: us, x => Wf u x.1 ∧ WfS us x.2

def mtAll (P : Program) : List T → List TypeId → Bool
  | [], [] => true
  | u :: us, t :: ts => and' (mtAll P us ts) (mtB P u (.inl t))
  | _, _ => false

/-- THE ARGUMENTS -/
theorem open_all : ∀ {us : List T} {ts : List TypeId} {vs : List Value} {ds : List (DataW H)} {p : List MemPlace} {r : Reach} {b0 : Nat}, mtAll P us ts = true → (∀ (j : Nat) t v, ts[j]? = some t → vs[j]? = some v → Value.okWide P w r b0 t v) →
    DataW.TrodAll enc P w base spare held ts vs ds p → ∃ x : denS (argsS us), ArgsRel (hp w) (hp w) (mkS (argsS us) 0 x) vs (fun _ => []) ∧ WfS us x
  | [], ts, vs, ds, p, r, b0, hm, hval, hA => by
    cases ts with
    | cons t ts => simp [mtAll] at hm
    | nil =>
      cases vs with
      | cons v vs => cases ds <;> simp [DataW.TrodAll] at hA
      | nil => exact ⟨(), ⟨rfl, fun i x h => (by simp [argsS, mkS, deads] at h), fun _ _ => rfl, fun i j b h => (by cases h), fun _ => .nil, fun i b h => by cases h⟩, trivial⟩
  | u :: us, ts, vs, ds, p, r, b0, hm, hval, hA => by
    cases ts with
    | nil => simp [mtAll] at hm
    | cons t ts =>
      obtain ⟨h1, h2⟩ := and'_true hm
      obtain ⟨v, vs', d, ds', p1, q1, rfl, rfl, rfl, hd, hA'⟩ := Go.ChangeShapes.trodAll_cons hA
      obtain ⟨y, hy, hyw⟩ := open_arg h2 (hval 0 t v rfl rfl) hd
      obtain ⟨x, hx, hxw⟩ := open_all h1 (fun j t' v' ht hv => hval (j + 1) t' v' (by simpa using ht) (by simpa using hv)) hA'
      refine ⟨(y, x), ⟨?_, ?_, fun _ _ => rfl, fun i j b h => (by cases h), fun _ => .nil, fun i b h => by cases h⟩, hyw, hxw⟩
      · have := hx.len
        simp only [argsS, mkS, deads, List.length_cons] at this ⊢
        simpa [argsS] using this
      · intro i z hz
        cases i with
        | zero =>
          simp only [argsS, mkS, deads, List.getElem?_cons_zero, Option.some.injEq] at hz
          subst hz
          exact ⟨⟨v, rfl, hy, rfl⟩, rfl⟩
        | succ i =>
          simp only [argsS, mkS, deads, List.getElem?_cons_succ] at hz
          simpa using hx.rel i z hz

/-- what was read before reads so behind -/
theorem trodAll_below (hl : laidOutB P = true) {W W' : World} (hb : Below W.heap.size W W') : ∀ {ts : List TypeId} {vs : List Value} {ds : List (DataW H)} {p : List MemPlace}, (ts.all fun t => P.readableRec t && decide (t < P.types.size)) = true →
    DataW.TrodAll enc P W 0 (fun _ => true) true ts vs ds p → DataW.TrodAll enc P W' 0 (fun b => decide (b < W.heap.size)) true ts vs ds p
  | [], vs, ds, p, _, hA => by
    cases vs <;> cases ds <;> first
      | (simp [DataW.TrodAll] at hA; done)
      | exact hA
  | t :: ts, vs, ds, p, hr, hA => by
    obtain ⟨v, vs', d, ds', p1, q1, rfl, rfl, rfl, hd, hA'⟩ := Go.ChangeShapes.trodAll_cons hA
    simp only [List.all_cons, Bool.and_eq_true, decide_eq_true_eq] at hr
    refine trodAll_cons_mk (Below.trod hl hr.1.1 hr.1.2 hd hb ?_) (trodAll_below hl hb hr.2 hA')
    obtain ⟨m, hm⟩ := hd
    exact DataW.trod_lt m _ _ _ hm

theorem WF.below {w w' : World} {B : Nat → Prop} (h : WF w B w') (hB : ∀ b, ¬ B b) : Below w.heap.size w w' := ⟨h.os, h.tape, h.output, h.size, fun k hk => h.same k hk (hB k)⟩

/-- A LAW: its plain function says true -/
theorem law_of {glob : Nat → Option Dat} {f : FuncId} {us : List T} {F : denS (argsS us) → Option Bool} {out : Bool → A × List A} (hc : Contract P glob f (resOf (argsS us) F out)) (hout : ∀ b, (out b).1 = .v .bool b)
    {vs : Array Value} {x : denS (argsS us)} (hx : ArgsRel (hp w) (hp w) (mkS (argsS us) 0 x) vs.toList (fun _ => [])) (hg : GlobOk glob (hp w)) (hF : F x = some true) (hun : unS (argsS us) 0 (mkS (argsS us) 0 x) = some x) :
    Calls P f vs w fun e w' => e = .returned (.bool true) ∧ Below w.heap.size w w' := by
  have hv : (resOf (argsS us) F out (mkS (argsS us) 0 x)) = ⟨Bool, F x, out⟩ := by unfold resOf; rw [hun]
  have key := hc.2 w (hp w) _ vs.toList _ hx (Sub.refl _) hg
  rw [hv] at key
  refine (key true hF).mono ?_
  rintro e w' ⟨v, S', o, ob', rfl, hwf, _, _, _, ⟨hrel, _⟩, _⟩
  dsimp only at hrel
  rw [hout] at hrel
  exact ⟨by rw [hrel.1.bool_inv], hwf.below (fun b ⟨i, hi⟩ => by cases hi)⟩

theorem cast_self {t : T} {x : t.den} : cast t t x = some x := by simp [cast]

theorem unS_args : ∀ {us : List T} {x : denS (argsS us)}, unS (argsS us) 0 (mkS (argsS us) 0 x) = some x
  | [], x => rfl
  | u :: us, x => by
    have := unS_args (us := us) (x := x.2)
    simp only [argsS, mkS, deads, unS, unDeads, AS.mk, AS.un, cast_self, this]
    rfl
end
end Go.Lift

/- Iterators: functions that call yield. Their plain function gives the list of what they yield. -/
set_option linter.all false
namespace Go.Lift

/-- yield is called with y: what goes on if it says yes, and if it says no: then nothing may be yielded -/
def comb {α : Type} (y : α) (kT kF : Option (List α)) : Option (List α) := kT.bind fun l => kF.bind fun m => match m with
  | [] => some (y :: l)
  | _ => none

def yArgs {α : Type} (E : Env) : List Operand → (List Dat → Cmd α) → Cmd α
  | [], k => k []
  | x :: r, k => rdK E x fun a => datK a fun d => yArgs E r fun l => k (d :: l)

def isYld : A → Bool
  | .yld => true
  | _ => false

def isYield (st : List A) (o : Oper) : Option (List Operand) := match o.op with
  | .call c => (match c.callee with
    | .value (.tmp t) => (match st.getD t .dead with
      | .bor r => (match and' (Nat.beq r 0) (isYld (st.getD 0 .dead)) with
        | true => some c.args.toList
        | false => none)
      | .yld => (match Nat.beq t 0 with
        | true => some c.args.toList
        | false => none)
      | _ => none)
    | _ => none)
  | _ => none

def guardY {β : Type} (all : Array Oper) (o : Oper) (st : List A) (kOp kSkip : List A → Option β) : Option β := match o.guard with
  | none => kOp st
  | some (j, want) => match (all[j]?).bind (·.dst) with
    | none => none
    | some d => match st.getD d .dead with
      | .v .bool b => (match want with
        | true => cond b (kOp (st.set d (.v .bool true))) (kSkip (st.set d (.v .bool false)))
        | false => cond b (kSkip (st.set d (.v .bool true))) (kOp (st.set d (.v .bool false))))
      | .tup [] => kSkip st
      | _ => none

def opY (E : Env) (ts : List T) (cb : denL ts → Option (List (denL ts)) → Option (List (denL ts)) → Option (List (denL ts))) (all : Array Oper) (o : Oper) (st : List A) (K : List A → Option (List (denL ts))) : Option (List (denL ts)) := match isYield st o with
  | none => (guardCmd E all o).cps E st fp0 fun _ st' _ => K st'
  | some xs => guardY all o st (fun st => (yArgs E xs fun l => (.ret l : Cmd (List Dat))).cps E st fp0 fun l st1 _ => (unL ts l).bind fun y =>
      cb y ((lay o.dst (.v .bool true)).cps E st1 fp0 fun _ st2 _ => K st2) ((lay o.dst (.v .bool false)).cps E st1 fp0 fun _ st2 _ => K st2))
      (fun st => (skipCmd o).cps E st fp0 fun _ st' _ => K st')

def seqY (E : Env) (ts : List T) (cb : denL ts → Option (List (denL ts)) → Option (List (denL ts)) → Option (List (denL ts))) (all : Array Oper) : List Oper → List A → (List A → Option (List (denL ts))) → Option (List (denL ts))
  | [], st, K => K st
  | o :: r, st, K => opY E ts cb all o st fun st' => seqY E ts cb all r st' K

def evY (E : Env) (ts : List T) (cb : denL ts → Option (List (denL ts)) → Option (List (denL ts)) → Option (List (denL ts))) (N : Nat) (H : Tab (List (denL ts))) (L : List (List Nat × List Nat)) (p : List Nat) : Code → Hd (List (denL ts))
  | .skip, st, K => K .normal (rs L p st)
  | .region _ ops draw, st, K => match draw with
    | false => seqY E ts cb ops ops.toList st fun st => K .normal (rs L p st)
    | true => drawC E ops ops.toList [] st fun st => K .normal (rs L p st)
  | .seq a b, st, K => via (look H (0 :: p)) (evY E ts cb N H L (0 :: p) a) st fun e st => match e with
    | .normal => via (look H (1 :: p)) (evY E ts cb N H L (1 :: p) b) st K
    | e => K e st
  | .cond x a b, st, K => (rdK E x fun v => (.ret v : Cmd A)).cps E st fp0 fun v _ _ => match v with
    | .v .bool t => cond t (via (look H (0 :: p)) (evY E ts cb N H L (0 :: p) a) st (joinK L p K)) (via (look H (1 :: p)) (evY E ts cb N H L (1 :: p) b) st (joinK L p K))
    | _ => none
  | .block id a, st, K => via (look H (0 :: p)) (evY E ts cb N H L (0 :: p) a) st fun e st => match e with
    | .normal => K .normal (rs L p st)
    | .exit j => (match Nat.beq j id with
      | true => K .normal (rs L p st)
      | false => K (.exit j) st)
    | .ret => K .ret st
  | .loop a, st, K => loopC (lookL L p) (via (look H (0 :: p)) (evY E ts cb N H L (0 :: p) a)) N (restr (lookL L p) 0 st) K
  | .exit id, st, K => K (.exit id) (rs L p st)
  | .ret, st, K => K .ret (rs L p st)
  | _, _, _ => none

/-! ## what it means -/

abbrev GY (ts : List T) := Bool → List (denL ts) → List A → Act → World → Prop

def YOk {ts : List T} (G : GY ts) (P : Program) (k : Code) (f : Hd (List (denL ts))) : Prop :=
  ∀ (st : List A) (K : Ex → List A → Option (List (denL ts))) (ys : List (denL ts)) (b : Bool) (a : Act) (w : World) (Q : Exit → Act → World → Prop), f st K = some ys → G b ys st a w →
    (∀ e st' ys' b' a' w', K e st' = some ys' → G b' ys' st' a' w' → Q e.exit' a' w') → k.wp P Q a w

def TabOkY {ts : List T} (G : GY ts) (P : Program) (body : Code) (H : Tab (List (denL ts))) : Prop := ∀ q h, look H q = some h → YOk G P (nodeAt body q) h

def JJ {ts : List T} (J : List (denL ts) → (Nat → Prop) → Hp → World → Prop) (Jx : (Nat → Prop) → Hp → World → Prop) (b : Bool) (ys : List (denL ts)) (O : Nat → Prop) (Sh : Hp) (w : World) : Prop :=
  (b = false → J ys O Sh w) ∧ (b = true → ys = [] ∧ Jx O Sh w)

/-- what an iterator's pieces may lean on -/
abbrev RestrOk {ts : List T} (G : GY ts) : Prop := ∀ (b : Bool) (ys : List (denL ts)) (st : List A) (a : Act) (w : World), G b ys st a w → ∀ live, G b ys (Lift.restr live 0 st) a w
abbrev EvOk {ts : List T} (G : GY ts) (P : Program) (E : Env) (N : Nat) (L : List (List Nat × List Nat)) (body : Code) : Prop :=
  ∀ (H : Tab (List (denL ts))), TabOkY G P body H → ∀ p, YOk G P (nodeAt body p) (evY E ts comb N H L p (nodeAt body p))

/-- the blocks of the loop are O; it reads Sh; the rest is the iterator's -/
def SimG (P : Program) (E : Env) {ts : List T} (J : List (denL ts) → (Nat → Prop) → Hp → World → Prop) (Jx : (Nat → Prop) → Hp → World → Prop) (yv : Value) : GY ts := fun b ys st a w =>
  ∃ O Sh S ob, SimD ⟨w, S, fun b => ¬ O b, [(0, yv)]⟩ st a w S ob ∧ (∀ b, O b → b < w.heap.size) ∧ GlobOk E.glob S ∧ Sub Sh S ∧ (∀ b, S b ≠ none → Sh b ≠ none ∨ ¬ O b) ∧
    JJ J Jx b ys O Sh w

section
variable {P : Program} {E : Env} {c : Ctx} {st st' : List A} {fp fp' : FP} {a : Act} {w w' : World} {S : Hp} {ob : Nat → List Nat} {o : Oper}

/-- the same state, seen from another world and context -/
theorem SimD.shift {c' : Ctx} {a' : Act} (h : SimD c st a w S ob) (hw : ∀ b, (S b ≠ none ∨ (∃ i, b ∈ ob i) ∨ markOf b ∈ a.defers) → hp w' b = hp w b)
    (hc : WF c'.w0 c'.B0 w') (hS : Sub c'.S0 S) (hf : ∀ i b, b ∈ ob i → c'.B0 b ∨ c'.w0.heap.size ≤ b) (hn : ∀ b, S b ≠ none → c'.S0 b ≠ none ∨ c'.B0 b ∨ c'.w0.heap.size ≤ b)
    (hm : ∀ D, (c.B0 D ∨ c.w0.heap.size ≤ D) → hp w D ≠ none → c'.B0 D ∨ c'.w0.heap.size ≤ D) (hta : a'.tmps = a.tmps) (hda : a'.defers = a.defers) (hlent : ∀ p ∈ c'.lent, tv a p.1 = p.2) : SimD c' st a' w' S ob := by
  have htv : tv a' = tv a := by funext i; simp only [tv, hta]
  refine ⟨?_, by rw [hta]; exact h.size, ?_, h.refs, h.out, h.inj, h.nd, h.hid, ?_, hS, hf, hn, ?_, hc⟩
  · rw [hda]
    obtain ⟨Ds, e, hnd, hD⟩ := h.defers
    refine ⟨Ds, e, hnd, fun D hDm => ?_⟩
    obtain ⟨h1, h2, h3, h4⟩ := hD D hDm
    refine ⟨?_, h2, h3, hm D h4 (by rw [h1]; simp)⟩
    rw [hw D (.inr (.inr (by rw [e]; exact List.mem_map.2 ⟨D, hDm, rfl⟩)))]; exact h1
  · intro i x hx
    rw [htv]
    exact (h.rel i x hx).mono (Sub.refl _) (fun b hb => hw b (.inr (.inl ⟨i, hb⟩))) (fun _ _ => rfl) (fun r hr b hb => hw b (.inr (.inl ⟨r, h.main hx (A.cell_refs hr) hb⟩)))
  · intro b o hbo
    rw [hw b (.inl (by rw [hbo]; simp))]
    exact h.sub b o hbo
  · intro p hp'
    rw [htv]; exact hlent p hp'

theorem yArgs_inv {α : Type} {r : α × List A × FP} {glob : Nat → Option Dat} (hgl : E.glob = glob) : ∀ (xs : List Operand) (k : List Dat → Cmd α) (st : List A) (fp : FP) (S : Hp) (ob : Nat → List Nat), exec E (yArgs E xs k) st fp = some r → SimD c st a w S ob → GlobOk glob S →
    ∃ l st' fp' S' ob', exec E (k l) st' fp' = some r ∧ SimD c st' a w S' ob' ∧ Sub S S' ∧ TupRel S' l (xs.map a.eval)
  | [], k, st, fp, S, ob, h, hs, hg => ⟨[], st, fp, S, ob, h, hs, Sub.refl _, .nil⟩
  | x :: xs, k, st, fp, S, ob, h, hs, hg => by
    simp only [yArgs] at h
    obtain ⟨A, fp1, h1, hA, _⟩ := rdK_inv h hs (by rw [hgl]; exact hg)
    obtain ⟨d, st1, fp2, S1, ob1, h2, hs1, hS1, hv, _⟩ := datK_inv h1 hs hA
    obtain ⟨l, st2, fp3, S2, ob2, h3, hs2, hS2, ht⟩ := yArgs_inv hgl xs _ _ _ _ _ h2 hs1 (hg.mono hS1)
    exact ⟨d :: l, st2, fp3, S2, ob2, h3, hs2, hS1.trans hS2, .cons (hv.mono hS2) ht⟩

section
variable {ts : List T} {J : List (denL ts) → (Nat → Prop) → Hp → World → Prop} {Jx : (Nat → Prop) → Hp → World → Prop} {l : Nat}

/-- from here on -/
theorem SimG.next {yv : Value} {b : Bool} {ys : List (denL ts)} {O : Nat → Prop} {Sh : Hp} (hJ : ∀ ys, Stable (J ys)) (hJx : Stable Jx) (hO : ∀ b, O b → b < w.heap.size) (hg : GlobOk E.glob S) (hsh : Sub Sh S) (hsep : ∀ b, S b ≠ none → Sh b ≠ none ∨ ¬ O b)
    (hj : JJ J Jx b ys O Sh w) (h : Sim ⟨w, S, fun b => ¬ O b, [(0, yv)]⟩ st a w') : SimG P E J Jx yv b ys st a w' := by
  obtain ⟨S2, ob2, h⟩ := h
  have hwf : WF w (fun b => ¬ O b) w' := h.frame
  have hsub : Sub Sh (hp w') := (hsh.trans h.mono).trans h.sub
  have hge : ∀ b, w.heap.size ≤ b → ¬ O b := fun b hb ho => absurd (hO b ho) (by omega)
  refine ⟨O, Sh, S2, ob2, h.shift (fun _ _ => rfl) (WF.refl _ _) (Sub.refl _) (fun i b hb => .inl ((h.fresh i b hb).elim id (hge b))) (fun b hb => .inl hb) (fun D hD _ => .inl (hD.elim id (hge D))) rfl rfl h.lent, fun b hb => Nat.lt_of_lt_of_le (hO b hb) hwf.size, hg.mono h.mono, hsh.trans h.mono, fun b hb => ?_, ?_⟩
  · rcases h.newS b hb with h1 | h1 | h1
    · exact hsep b h1
    · exact .inr h1
    · exact .inr (hge b h1)
  · exact ⟨fun e => hJ ys _ _ _ _ (hj.1 e) hwf hsub, fun e => ⟨(hj.2 e).1, hJx _ _ _ _ (hj.2 e).2 hwf hsub⟩⟩

theorem SimG.base {yv : Value} {O : Nat → Prop} (hE : EnvOk P E) (hl : E.lent = [0]) (hg : GlobOk E.glob S) : Base P E ⟨w, S, fun b => ¬ O b, [(0, yv)]⟩ := ⟨hE, hg, by rw [hl]; rfl⟩

/-- what yield's round does -/
def YieldOk (P : Program) (J : List (denL ts) → (Nat → Prop) → Hp → World → Prop) (Jx : (Nat → Prop) → Hp → World → Prop) (l : Nat) : Prop :=
  ∀ y ys (O : Nat → Prop) (Sh S1 : Hp) (W1 : World) (vals : Array Value), J (y :: ys) O Sh W1 → Sub Sh S1 → Sub S1 (hp W1) → (∀ b, S1 b ≠ none → Sh b ≠ none ∨ ¬ O b) → TupRel S1 (mkL ts y) vals.toList →
    YieldAt Fence.wide 0 P l vals W1 fun e W' => ∃ O' : Nat → Prop, (∀ b, O b → O' b) ∧ (∀ b, O' b → O b ∨ (W1.heap.size ≤ b ∧ b < W'.heap.size)) ∧ WF W1 O W' ∧ Sub S1 (hp W') ∧
      ((e = .returned (.bool true) ∧ J ys O' S1 W') ∨ (e = .returned (.bool false) ∧ Jx O' S1 W'))

theorem isYield_inv {xs : List Operand} {yv : Value} (h : isYield st o = some xs) (hs : SimD c st a w S ob) (hl : (0, yv) ∈ c.lent) : ∃ k fv, o.op = .call k ∧ k.callee = .value fv ∧ a.eval fv = yv ∧ k.args.toList = xs := by
  unfold isYield at h
  split at h
  case h_2 => cases h
  rename_i k hk
  split at h
  case h_2 => cases h
  rename_i t hc
  have h0 := hs.lent (0, yv) hl
  split at h
  · rename_i r hy
    split at h
    · rename_i hck
      obtain ⟨h1, h2⟩ := and'_true hck
      have := beq_nat h1
      subst this
      simp only [Option.some.injEq] at h
      have hA := hs.rel t _ (getD_at hy (by simp))
      exact ⟨k, _, hk, hc, by show tv a t = yv; rw [hA.1]; exact h0, h⟩
    · cases h
  · split at h
    · rename_i ht
      have := beq_nat ht
      subst this
      simp only [Option.some.injEq] at h
      exact ⟨k, _, hk, hc, h0, h⟩
    · cases h
  · cases h

theorem opY_sound {ys : List (denL ts)} {all : Array Oper} {K : List A → Option (List (denL ts))} {b : Bool} {N : Act → World → Prop} {Q : Exit → Act → World → Prop} (hE : EnvOk P E) (hlent : E.lent = [0]) (hJ : ∀ ys, Stable (J ys)) (hJx : Stable Jx) (hy : YieldOk P J Jx l)
    (h : opY E ts comb all o st K = some ys) (hs : SimG P E J Jx (.func (.yield l) #[] #[]) b ys st a w) (hn : ∀ b' ys' st' a' w', K st' = some ys' → SimG P E J Jx (.func (.yield l) #[] #[]) b' ys' st' a' w' → N a' w') :
    if Region.wanted o (yielded all a.tmps) then o.wpIn (FR none) 0 P a w N Q else N (a.put o.dst undef) w := by
  obtain ⟨O, Sh, S, ob, hs, hO, hg, hsh, hsep, hj⟩ := hs
  have hb : Base P E ⟨w, S, fun b => ¬ O b, [(0, .func (.yield l) #[] #[])]⟩ := SimG.base hE hlent hg
  unfold opY at h
  split at h
  · obtain ⟨_, st1, fp1, h1, h2⟩ := exec_of_cps h
    have hgd := guard_good h1 hb ⟨S, ob, hs⟩
    split
    · rename_i hw
      rw [if_pos hw] at hgd
      exact Oper.wpIn_mono (fun a' w' hs' => hn b ys st1 a' w' h2 (SimG.next hJ hJx hO hg hsh hsep hj hs')) (hgd none Q)
    · rename_i hw
      rw [if_neg hw] at hgd
      exact hn b ys st1 _ _ h2 (SimG.next hJ hJx hO hg hsh hsep hj hgd)
  · rename_i xs hyl
    obtain ⟨k, fv, ho, hc, hv, hxs⟩ := isYield_inv (yv := .func (.yield l) #[] #[]) hyl hs (by simp)
    -- the operation itself
    have hop : ∀ st0, st0 = st → ((yArgs E xs fun l => (.ret l : Cmd (List Dat))).cps E st0 fp0 fun l st1 _ => (unL ts l).bind fun y =>
      comb y ((lay o.dst (.v .bool true)).cps E st1 fp0 fun _ st2 _ => K st2) ((lay o.dst (.v .bool false)).cps E st1 fp0 fun _ st2 _ => K st2)) = some ys → o.wpIn (FR none) 0 P a w N Q := by
      intro st0 e0 hh
      subst e0
      obtain ⟨ld, st1, fp1, h1, h2⟩ := exec_of_cps hh
      obtain ⟨l', st2, fp2, S1, ob1, h3, hs1, hS1, ht⟩ := yArgs_inv (glob := E.glob) rfl _ _ _ _ _ _ h1 hs hg
      have h4 := exec_ret h3
      simp only [Prod.mk.injEq] at h4
      obtain ⟨rfl, rfl, _⟩ := h4
      cases hu : unL ts ld with
      | none => rw [hu] at h2; cases h2
      | some y =>
      rw [hu] at h2
      simp only [Option.bind_some, comb] at h2
      cases hkT : (lay o.dst (.v .bool true)).cps E st1 fp0 fun _ st2 _ => K st2 with
      | none => rw [hkT] at h2; cases h2
      | some lT =>
      rw [hkT] at h2
      simp only [Option.bind_some] at h2
      cases hkF : (lay o.dst (.v .bool false)).cps E st1 fp0 fun _ st2 _ => K st2 with
      | none => rw [hkF] at h2; cases h2
      | some lF =>
      rw [hkF] at h2
      simp only [Option.bind_some] at h2
      cases lF with
      | cons z zs => cases h2
      | nil =>
      simp only [Option.some.injEq] at h2
      subst h2
      cases b with
      | true => cases (hj.2 rfl).1
      | false =>
      have hj := hj.1 rfl
      rw [unL_mk hu] at ht
      have hsep1 : ∀ b, S1 b ≠ none → Sh b ≠ none ∨ ¬ O b := fun b hb => by
        rcases hs1.newS b hb with h1 | h1 | h1
        · exact hsep b h1
        · exact .inr h1
        · exact .inr (fun ho => absurd (hO b ho) (Nat.not_lt.2 h1))
      have hya := hy y lT O Sh S1 w (k.args.map a.eval) hj (hsh.trans hS1) hs1.sub hsep1 (by rw [Array.toList_map, hxs]; exact ht)
      obtain ⟨fn, tmps, assign, body, hrun, hround⟩ := hya
      refine ⟨fun _ _ => trivial, ?_⟩
      have hex : (execOp a.eval o).run P w = .ok (.round l fn tmps assign body) w := by
        simp [execOp, ho, resolve, hc, hv, Deferred.ofValue, invoke, hrun]
      show o.uponIn (FR none) 0 P a N Q ((o.semAt none a.eval).run P w)
      rw [Oper.semAt_none, hex, Oper.uponIn_round]
      refine ⟨fun hd => by simp [FR, Fence.wide] at hd, ?_⟩
      refine (show RoundIn (FR none) 0 P l fn tmps assign body w _ from hround).mono ?_
      rintro e W' ⟨O', hO1, hO2, hwf, hsub, hcase⟩
      -- the state, behind the round
      have hO2' : ∀ b, O' b → b < W'.heap.size := fun b hb => (hO2 b hb).elim (fun h => Nat.lt_of_lt_of_le (hO b h) hwf.size) (fun h => h.2)
      have hnO : ∀ b, ¬ O b → b < w.heap.size → ¬ O' b := fun b hb hlt h => (hO2 b h).elim hb (fun h => absurd hlt (Nat.not_lt.2 h.1))
      have hs2 : SimD ⟨W', S1, fun b => ¬ O' b, [(0, .func (.yield l) #[] #[])]⟩ st1 a W' S1 ob1 := by
        have hob : ∀ i b, b ∈ ob1 i → ¬ O b ∧ b < w.heap.size := fun i b hb => by
          obtain ⟨_, _, o, ho⟩ := hs1.ob_some hb
          have hlt := hp_lt ho
          exact ⟨(hs1.fresh i b hb).elim id (fun h => absurd hlt (Nat.not_lt.2 h)), hlt⟩
        have same : ∀ b, ¬ O b → b < w.heap.size → hp W' b = hp w b := fun b hb hlt => hwf.same b hlt hb
        refine hs1.shift (fun b hb => ?_) (WF.refl _ _) (Sub.refl _) (fun i b hb => .inl (hnO b (hob i b hb).1 (hob i b hb).2)) (fun b hb => .inl hb) (fun D hD hD2 => .inl ?_) rfl rfl hs1.lent
        · rcases hb with hb | ⟨i, hb⟩ | hb
          · cases hx : S1 b with
            | none => exact absurd hx hb
            | some o => rw [hsub b o hx, hs1.sub b o hx]
          · exact same b (hob i b hb).1 (hob i b hb).2
          · obtain ⟨Ds, e, hnd, hDs⟩ := hs1.defers
            rw [e] at hb
            obtain ⟨D2, hm2, e2⟩ := List.mem_map.1 hb
            have e3 : D2 = b := by simpa [markOf] using e2
            subst e3
            obtain ⟨k1, k2, k3, k4⟩ := hDs D2 hm2
            have hlt := hp_lt k1
            exact same D2 (k4.elim id (fun h => absurd hlt (Nat.not_lt.2 h))) hlt
        · cases hx : hp w D with
          | none => exact absurd hx hD2
          | some o =>
            have hlt := hp_lt hx
            exact hnO D (hD.elim id (fun h => absurd hlt (Nat.not_lt.2 h))) hlt
      have hg1 := hg.mono hS1
      have hb2 : Base P E ⟨W', S1, fun b => ¬ O' b, [(0, .func (.yield l) #[] #[])]⟩ := SimG.base hE hlent hg1
      rcases hcase with ⟨rfl, hj'⟩ | ⟨rfl, hj'⟩
      · dsimp only
        obtain ⟨_, st3, fp3, h5, h6⟩ := exec_of_cps hkT
        have := lay_sim h5 hb2 hs2 (o' := []) (v := .bool true) ⟨VR.bool, rfl⟩ (fun b hb => by cases hb)
        exact hn false lT st3 _ _ h6 (SimG.next hJ hJx hO2' hg1 (Sub.refl _) (fun b hb => .inl hb) ⟨fun _ => hj', fun e => by cases e⟩ this)
      · dsimp only
        obtain ⟨_, st3, fp3, h5, h6⟩ := exec_of_cps hkF
        have := lay_sim h5 hb2 hs2 (o' := []) (v := .bool false) ⟨VR.bool, rfl⟩ (fun b hb => by cases hb)
        exact hn true [] st3 _ _ h6 (SimG.next hJ hJx hO2' hg1 (Sub.refl _) (fun b hb => .inl hb) ⟨(fun e => by cases e), fun _ => ⟨rfl, hj'⟩⟩ this)
    have hskip : ∀ st0, st0 = st → ((skipCmd o).cps E st0 fp0 fun _ st' _ => K st') = some ys → N (a.put o.dst undef) w := by
      intro st0 e0 hh
      subst e0
      obtain ⟨_, st1, fp1, h1, h2⟩ := exec_of_cps hh
      exact hn b ys st1 _ _ h2 (SimG.next hJ hJx hO hg hsh hsep hj (skip_sim h1 hb hs))
    unfold guardY at h
    split at h
    · rename_i hgn
      rw [if_pos (by simp [Region.wanted, hgn])]
      exact hop st rfl h
    · rename_i j want hgn
      split at h
      · cases h
      · rename_i d hd
        have hlt : ∀ {y : A}, st.getD d .dead = y → y ≠ .dead → d < a.tmps.size := by
          intro y hy hne
          rw [hs.size]
          exact getD_lt hy hne
        split at h
        · rename_i bb hy'
          have hA := hs.rel d _ (getD_at hy' (by simp))
          have hvb : tv a d = .bool bb := hA.1.bool_inv
          have hyl' := yielded_eq (a := a) hd (hlt hy' (by simp))
          rw [hvb] at hyl'
          have hwant : Region.wanted o (yielded all a.tmps) = (bb == want) := by
            simp only [Region.wanted, hgn, hyl']
            cases bb <;> cases want <;> rfl
          rw [hwant]
          cases want <;> cases bb <;> simp only [cond] at h <;> rw [set_getD hy' (by simp)] at h
          · exact hop st rfl h
          · exact hskip st rfl h
          · exact hskip st rfl h
          · exact hop st rfl h
        · rename_i hy'
          have hA := hs.rel d _ (getD_at hy' (by simp))
          obtain ⟨_, vs, hvb, _⟩ := hA
          have hyl' := yielded_eq (a := a) hd (hlt hy' (by simp))
          rw [hvb] at hyl'
          have hwant : Region.wanted o (yielded all a.tmps) = false := by
            simp only [Region.wanted, hgn, hyl']; rfl
          rw [hwant]
          exact hskip st rfl h
        · cases h

theorem seqY_sound {all : Array Oper} {Q : Exit → Act → World → Prop} (hE : EnvOk P E) (hlent : E.lent = [0]) (hJ : ∀ ys, Stable (J ys)) (hJx : Stable Jx) (hy : YieldOk P J Jx l) : ∀ (os : List Oper) (st : List A) (K : List A → Option (List (denL ts))) (ys : List (denL ts)) (b : Bool) (a : Act) (w : World),
    seqY E ts comb all os st K = some ys → SimG P E J Jx (.func (.yield l) #[] #[]) b ys st a w → (∀ b' ys' st' a' w', K st' = some ys' → SimG P E J Jx (.func (.yield l) #[] #[]) b' ys' st' a' w' → Q .normal a' w') → wpListIn (FR none) 0 P all Q os a w
  | [], st, K, ys, b, a, w, h, hs, hn => hn b ys st a w h hs
  | o :: os, st, K, ys, b, a, w, h, hs, hn => by
    simp only [seqY] at h
    have := opY_sound (N := wpListIn (FR none) 0 P all Q os) (Q := Q) hE hlent hJ hJx hy h hs (fun b' ys' st' a' w' hk hs' => seqY_sound hE hlent hJ hJx hy os st' K ys' b' a' w' hk hs' hn)
    unfold wpListIn
    split
    · rename_i hw
      rw [if_pos hw] at this; exact this
    · rename_i hw
      rw [if_neg hw] at this
      exact ⟨fun _ _ => trivial, this⟩

theorem SimG.restr {yv : Value} {b : Bool} {ys : List (denL ts)} (h : SimG P E J Jx yv b ys st a w) (live : List Nat) : SimG P E J Jx yv b ys (restr live 0 st) a w := by
  obtain ⟨O, Sh, S, ob, hs, rest⟩ := h
  obtain ⟨ob', hs'⟩ := hs.restr live
  exact ⟨O, Sh, S, ob', hs', rest⟩

theorem SimG.rs {yv : Value} {b : Bool} {ys : List (denL ts)} (h : SimG P E J Jx yv b ys st a w) (L : List (List Nat × List Nat)) (p : List Nat) : SimG P E J Jx yv b ys (Lift.rs L p st) a w := by
  unfold Lift.rs
  split
  · exact h.restr _
  · exact h

theorem loopY_sound {G : GY ts} (hG : RestrOk G) {k : Code} {f : Hd (List (denL ts))} (hk : YOk G P k f) (live : List Nat) (Q : Exit → Act → World → Prop) : ∀ (n : Nat) (st : List A) (K : Ex → List A → Option (List (denL ts))) (ys : List (denL ts)) (b : Bool) (a : Act) (w : World), loopC live f n st K = some ys →
    G b ys st a w → (∀ e st' ys' b' a' w', K e st' = some ys' → G b' ys' st' a' w' → Q e.exit' a' w') → k.wp P (Exit.then (Inl P k Q) Q) a w
  | 0, st, K, ys, b, a, w, h, hs, hq => by simp [loopC] at h
  | n + 1, st, K, ys, b, a, w, h, hs, hq => by
    simp only [loopC] at h
    refine hk st _ ys b a w _ h hs fun e st' ys' b' a' w' hK hs' => ?_
    cases e with
    | normal => exact loop_inl (loopY_sound hG hk live Q n _ K ys' b' a' w' hK (hG _ _ _ _ _ hs' live) hq)
    | exit id => exact hq _ _ _ _ _ _ hK hs'
    | ret => exact hq _ _ _ _ _ _ hK hs'

theorem TabOkY.nil {G : GY ts} {body : Code} : TabOkY G P body [] := fun q h e => by cases e

theorem TabOkY.cons {G : GY ts} {body : Code} {q : List Nat} {k : Hd (List (denL ts))} {H : Tab (List (denL ts))} (h : YOk G P (nodeAt body q) k) (ht : TabOkY G P body H) : TabOkY G P body ((q, k) :: H) := by
  intro q' h' e
  simp only [look] at e
  split at e
  · rename_i hq
    cases e
    rw [← eqL_eq hq]; exact h
  · exact ht q' h' e

theorem viaY_ok {G : GY ts} {body k : Code} {H : Tab (List (denL ts))} {q : List Nat} {f : Hd (List (denL ts))} (hH : TabOkY G P body H) (hq : nodeAt body q = k) (hf : YOk G P k f) : YOk G P k (via (look H q) f) := by
  cases hl : look H q with
  | none => exact hf
  | some h => rw [← hq]; exact hH q h hl

theorem evY_sound (hE : EnvOk P E) (hlent : E.lent = [0]) (hJ : ∀ ys, Stable (J ys)) (hJx : Stable Jx) (hy : YieldOk P J Jx l) (N : Nat) (H : Tab (List (denL ts))) (L : List (List Nat × List Nat)) (body : Code) (hH : TabOkY (SimG P E J Jx (.func (.yield l) #[] #[])) P body H) (p : List Nat) :
    ∀ (k : Code), nodeAt body p = k → YOk (SimG P E J Jx (.func (.yield l) #[] #[])) P k (evY E ts comb N H L p k) := by
  intro k
  induction k generalizing p with
  | skip => exact fun _ st K ys b a w Q h hs hq => wp_skip (hq .normal _ _ _ _ _ h (hs.rs _ _))
  | region id ops draw =>
    intro _ st K ys b a w Q h hs hq
    cases draw with
    | false =>
      simp only [evY] at h
      refine (wpIn_wide (n := 0)).1 (wpIn_region_list (F := Fence.wide) ?_)
      exact seqY_sound hE hlent hJ hJx hy _ _ _ _ _ _ _ h hs (fun b' ys' st' a' w' hk hs' => hq .normal _ _ _ _ _ hk (hs'.rs _ _))
    | true =>
      simp only [evY] at h
      obtain ⟨O, Sh, S, ob, hs, hO, hg, hsh, hsep, hj⟩ := hs
      have hb : Base P E ⟨w, S, fun b => ¬ O b, [(0, .func (.yield l) #[] #[])]⟩ := SimG.base hE hlent hg
      obtain ⟨st', hK, hw⟩ := draw_sound (id := id) hb h
      refine (wpIn_wide (n := 0)).1 (hw none Q a w ⟨S, ob, hs⟩ fun a' w' hs' => ?_)
      exact hq .normal _ _ _ _ _ hK ((SimG.next hJ hJx hO hg hsh hsep hj hs').rs _ _)
  | seq x z ihx ihz =>
    intro hp st K ys b a w Q h hs hq
    have hx := viaY_ok hH (q := 0 :: p) (by simp only [nodeAt, hp, child]) (ihx (0 :: p) (by simp only [nodeAt, hp, child]))
    have hz := viaY_ok hH (q := 1 :: p) (by simp only [nodeAt, hp, child]) (ihz (1 :: p) (by simp only [nodeAt, hp, child]))
    simp only [evY] at h
    refine wp_seq (hx st _ ys b a w _ h hs fun e st' ys' b' a' w' hK hs' => ?_)
    cases e with
    | normal => exact hz st' K ys' b' a' w' Q hK hs' hq
    | exit id => exact hq _ _ _ _ _ _ hK hs'
    | ret => exact hq _ _ _ _ _ _ hK hs'
  | cond x t e iht ihe =>
    intro hp st K ys b a w Q h hs hq
    have ht := viaY_ok hH (q := 0 :: p) (by simp only [nodeAt, hp, child]) (iht (0 :: p) (by simp only [nodeAt, hp, child]))
    have he := viaY_ok hH (q := 1 :: p) (by simp only [nodeAt, hp, child]) (ihe (1 :: p) (by simp only [nodeAt, hp, child]))
    simp only [evY] at h
    obtain ⟨v, st1, fp1, h1, h2⟩ := exec_of_cps h
    have hq' : ∀ e st' ys' b' a' w', joinK L p K e st' = some ys' → SimG P E J Jx (.func (.yield l) #[] #[]) b' ys' st' a' w' → Q e.exit' a' w' := by
      intro e st' ys' b' a' w' hK hs'
      cases e with
      | normal => exact hq .normal _ _ _ _ _ hK (hs'.rs _ _)
      | exit id => exact hq (.exit id) _ _ _ _ _ hK hs'
      | ret => exact hq .ret _ _ _ _ _ hK hs'
    split at h2
    · rename_i bb
      have hev : a.eval x = .bool bb := by
        obtain ⟨O, Sh, S, ob, hs, hO, hg, hsh, hsep, hj⟩ := hs
        obtain ⟨A, fp', h3, hA, _⟩ := rdK_inv h1 hs hg
        have := exec_ret h3
        simp only [Prod.mk.injEq] at this
        rw [← this.1] at hA
        exact hA.1.bool_inv
      cases bb with
      | true =>
        simp only [cond] at h2
        exact wp_cond_true hev (ht st _ ys b a w Q h2 hs hq')
      | false =>
        simp only [cond] at h2
        exact wp_cond_false hev (he st _ ys b a w Q h2 hs hq')
    · cases h2
  | block id x ihx =>
    intro hp st K ys b a w Q h hs hq
    have hx := viaY_ok hH (q := 0 :: p) (by simp only [nodeAt, hp, child]) (ihx (0 :: p) (by simp only [nodeAt, hp, child]))
    simp only [evY] at h
    refine wp_block (hx st _ ys b a w _ h hs fun e st' ys' b' a' w' hK hs' => ?_)
    cases e with
    | normal => exact hq .normal _ _ _ _ _ hK (hs'.rs _ _)
    | exit j =>
      dsimp only at hK
      split at hK
      · rename_i hj
        have hj := beq_nat hj
        subst hj
        simp only [Ex.exit', Exit.inBlock, if_true]
        exact hq .normal _ _ _ _ _ hK (hs'.rs _ _)
      · rename_i hj
        have hj : j ≠ id := fun e => by subst e; simp [Nat.beq_refl] at hj
        simp only [Ex.exit', Exit.inBlock, if_neg hj]
        exact hq (.exit j) _ _ _ _ _ hK hs'
    | ret => exact hq .ret _ _ _ _ _ hK hs'
  | loop x ihx =>
    intro hp st K ys b a w Q h hs hq
    have hx := viaY_ok hH (q := 0 :: p) (by simp only [nodeAt, hp, child]) (ihx (0 :: p) (by simp only [nodeAt, hp, child]))
    simp only [evY] at h
    exact loop_wp (loopY_sound (fun _ _ _ _ _ h live => h.restr live) hx _ Q _ _ K ys b a w h (hs.restr _) hq)
  | exit id => exact fun _ st K ys b a w Q h hs hq => wp_exit (hq (.exit id) _ _ _ _ _ h (hs.rs _ _))
  | ret => exact fun _ st K ys b a w Q h hs hq => wp_ret (hq .ret _ _ _ _ _ h (hs.rs _ _))
  | _ => intro _ st K ys b a w Q h; simp [evY] at h

/-- a piece of an iterator, as a plain function of what the temporaries hold -/
theorem pieceY_ok {G : GY ts} (hG : RestrOk G) {k : Code} {f : Hd (List (denL ts))} {s : List (Nat × AS)} {m : Nat} {g : denS s → (Ex → List A → Option (List (denL ts))) → Option (List (denL ts))} (live : List Nat) (hf : YOk G P k f) (h : ∀ x K, f (mkS s m x) K = g x K) :
    YOk G P k (fun st K => (unS s m (Lift.restr live 0 st)).bind fun x => g x K) := by
  intro st K ys b a w Q hy hs hq
  dsimp only at hy
  cases hu : unS s m (Lift.restr live 0 st) with
  | none => simp only [hu] at hy; cases hy
  | some x =>
    simp only [hu, Option.bind_some] at hy
    rw [← h, ← unS_mk hu] at hy
    exact hf _ K ys b a w Q hy (hG _ _ _ _ _ hs live) hq

theorem loopY_ok {G : GY ts} (hG : RestrOk G) {ι σ : Type} {k : Code} {f : Hd (List (denL ts))} {s : List (Nat × AS)} {m : Nat} (g : ι → σ → (σ → Option (List (denL ts))) → (Ex → List A → Option (List (denL ts))) → Option (List (denL ts))) (live : List Nat) (N : Nat) (pi : denS s → ι) (pv : denS s → σ) (mk : ι → σ → denS s) (hmk : ∀ x, mk (pi x) (pv x) = x) (hf : YOk G P k f)
    (h : ∀ i v rec K, f (mkS s m (mk i v)) (brk live rec K) = g i v (fun v' => rec (mkS s m (mk i v'))) K) :
    YOk G P (.loop k) (fun st K => (unS s m (Lift.restr live 0 st)).bind fun x => iter (fun v r => g (pi x) v r K) N (pv x)) := by
  intro st K ys b a w Q hy hs hq
  dsimp only at hy
  cases hu : unS s m (Lift.restr live 0 st) with
  | none => simp only [hu] at hy; cases hy
  | some x =>
    simp only [hu, Option.bind_some] at hy
    rw [← loopC_iter (mk := fun i v => mkS s m (mk i v)) (live := live) (f := f) h, hmk] at hy
    refine loop_wp (loopY_sound hG hf live Q N _ K ys b a w hy ?_ hq)
    rw [← unS_mk hu]
    exact hG _ _ _ _ _ hs live

end

def evYX (E : Env) (ts : List T) (cb : denL ts → Option (List (denL ts)) → Option (List (denL ts)) → Option (List (denL ts))) (N : Nat) (H : Tab (List (denL ts))) (L : List (List Nat × List Nat)) (fn : Func) (args : List A) : Option (List (denL ts)) :=
  match fn.body with
  | none => none
  | some body => match and' (fn.results.isEmpty) (Nat.blt args.length fn.ntmps) with
    | true => evY E ts cb N H L [] body (.yld :: args.append (undefs (fn.ntmps - (args.length + 1)))) fun e st => match e with
      | .exit _ => none
      | _ => some []
    | false => none

/-- what an iterator over data of type t gives -/
def itv {ts : List T} (t : T) (F : t.den → Option (List (denL ts))) (d : Dat) : Option (List (denL ts)) := match cast d.1 t d.2 with
  | some x => F x
  | none => none

def itRes {ts : List T} (t : T) (F : t.den → Option (List (denL ts))) (d : Dat) : ItRes := ⟨ts, itv t F d⟩

theorem fnArgs_at : ∀ (t : T) (x : t.den) (l : List A) (cs : List Value), fnArgs t x = some l → Rd S t x cs → l.length = cs.length ∧ ∀ (i : Nat) (y : A), l[i]? = some y → ∃ t' z v, y = .v t' z ∧ cs[i]? = some v ∧ VR S t' z v
  | .unit, x, l, cs, h, hr => by
    simp [fnArgs] at h; subst h
    have : cs = [] := hr
    subst this
    exact ⟨rfl, fun i y hy => by simp at hy⟩
  | .pair (.ptr t) b, x, l, cs, h, hr => by
    simp only [fnArgs] at h
    split at h
    · rename_i l' hl'
      cases h
      obtain ⟨c1, c2, e, h1, h2⟩ := hr
      obtain ⟨bk, off, c3, e1, _⟩ := id h1
      subst e1
      subst e
      obtain ⟨k1, k2⟩ := fnArgs_at b x.2 l' c2 hl' h2
      refine ⟨by simp [k1], fun i y hy => ?_⟩
      cases i with
      | zero => simp at hy; subst hy; exact ⟨_, _, _, rfl, rfl, VR.of_one rfl h1⟩
      | succ i => simpa using k2 i y (by simpa using hy)
    · cases h
  | .int _, x, l, cs, h, hr => by simp [fnArgs] at h
  | .bool, x, l, cs, h, hr => by simp [fnArgs] at h
  | .str, x, l, cs, h, hr => by simp [fnArgs] at h
  | .opq, x, l, cs, h, hr => by simp [fnArgs] at h
  | .arr _ _, x, l, cs, h, hr => by simp [fnArgs] at h
  | .sl _, x, l, cs, h, hr => by simp [fnArgs] at h
  | .ptr _, x, l, cs, h, hr => by simp [fnArgs] at h
  | .own _, x, l, cs, h, hr => by simp [fnArgs] at h
  | .any, x, l, cs, h, hr => by simp [fnArgs] at h
  | .byt _, x, l, cs, h, hr => by simp [fnArgs] at h
  | .self _, x, l, cs, h, hr => by simp [fnArgs] at h
  | .fn _ _, x, l, cs, h, hr => by simp [fnArgs] at h
  | .pair (.int _) _, x, l, cs, h, hr => by simp [fnArgs] at h
  | .pair .bool _, x, l, cs, h, hr => by simp [fnArgs] at h
  | .pair .str _, x, l, cs, h, hr => by simp [fnArgs] at h
  | .pair .opq _, x, l, cs, h, hr => by simp [fnArgs] at h
  | .pair .unit _, x, l, cs, h, hr => by simp [fnArgs] at h
  | .pair (.pair _ _) _, x, l, cs, h, hr => by simp [fnArgs] at h
  | .pair (.arr _ _) _, x, l, cs, h, hr => by simp [fnArgs] at h
  | .pair (.sl _) _, x, l, cs, h, hr => by simp [fnArgs] at h
  | .pair (.own _) _, x, l, cs, h, hr => by simp [fnArgs] at h
  | .pair .any _, x, l, cs, h, hr => by simp [fnArgs] at h
  | .pair (.byt _) _, x, l, cs, h, hr => by simp [fnArgs] at h
  | .pair (.self _) _, x, l, cs, h, hr => by simp [fnArgs] at h
  | .pair (.fn _ _) _, x, l, cs, h, hr => by simp [fnArgs] at h

/-- THE CONTRACT OF AN ITERATOR -/
theorem ItOk.of {ts : List T} {f : FuncId} {fn : Func} {body : Code} {N : Nat} {H : Tab (List (denL ts))} {L : List (List Nat × List Nat)} {t : T} {F : t.den → Option (List (denL ts))} (hE : EnvOk P E) (hlent : E.lent = [0]) (hf : P.funcs[f]? = some fn) (hbody : fn.body = some body) (hname : fn.name ≠ "runtime.NumGoroutine")
    (hH : ∀ (G : GY ts), RestrOk G → EvOk G P E N L body → TabOkY G P body H)
    (hF : ∀ x y, F x = some y → ∃ l, fnArgs t x = some l ∧ evYX E ts comb N H L fn l = some y) : ItOk P E.glob f (itRes t F) := by
  refine ⟨⟨fn, hf, by rw [hbody]; rfl, hname⟩, ?_⟩
  intro W S d caps hrd hS hg xs hxs l J Jx hJ hJx hy hj
  dsimp only [itRes, itv] at hxs hy hj J
  cases hc : cast d.1 t d.2 with
  | none => rw [hc] at hxs; cases hxs
  | some x =>
  rw [hc] at hxs
  dsimp only at hxs
  obtain ⟨args, hargs, hev⟩ := hF x xs hxs
  obtain ⟨hlen, hat⟩ := fnArgs_at t x args caps.toList hargs (cast_Rd hc hrd)
  unfold evYX at hev
  rw [hbody] at hev
  dsimp only at hev
  split at hev
  case h_2 => cases hev
  rename_i hck
  obtain ⟨hres, hnt⟩ := and'_true hck
  have hnt : args.length < fn.ntmps := by simpa using hnt
  have hresE : fn.results = #[] := by simpa using hres
  have happ : args.append (undefs (fn.ntmps - (args.length + 1))) = args ++ undefs (fn.ntmps - (args.length + 1)) := rfl
  rw [happ] at hev
  let yv : Value := .func (.yield l) #[] #[]
  let O : Nat → Prop := fun b => b < W.heap.size
  let c : Ctx := ⟨W, S, fun b => ¬ O b, [(0, yv)]⟩
  have hlen' : args.length = caps.size := by simpa using hlen
  let a0 : Act := { tmps := (#[yv] ++ caps) ++ Array.replicate (fn.ntmps - (#[yv] ++ caps).size) undef, defers := [] }
  have htv : ∀ i, tv a0 i = (yv :: caps.toList).getD i undef := by
    intro i
    simp only [tv, a0, Array.getD_eq_getD_getElem?, List.getD_eq_getElem?_getD]
    by_cases hi : i < (#[yv] ++ caps).size
    · rw [Array.getElem?_append_left hi]
      congr 1
      rw [← Array.getElem?_toList]; simp
    · rw [Array.getElem?_append_right (by omega), List.getElem?_eq_none (by simp at hi ⊢; omega), Array.getElem?_replicate]
      split <;> rfl
  have hs0 : SimD c (.yld :: (args ++ undefs (fn.ntmps - (args.length + 1)))) a0 W S (fun _ => []) := by
    refine ⟨⟨[], rfl, .nil, fun D hD => by cases hD⟩, ?_, ?_, ?_, fun _ _ => rfl, fun i j b h => (by cases h), fun _ => .nil, fun i b h => (by cases h), hS, Sub.refl _, fun i b h => (by cases h), fun b h => .inl h, ?_, WF.refl _ _⟩
    · simp [a0, undefs_length]; omega
    · intro i y hy
      rw [htv]
      cases i with
      | zero => simp at hy; subst hy; exact ⟨rfl, rfl⟩
      | succ i =>
        simp only [List.getElem?_cons_succ] at hy
        by_cases hi : i < args.length
        · rw [List.getElem?_append_left hi] at hy
          obtain ⟨t', z, v, rfl, hv, hvr⟩ := hat i y hy
          refine ⟨?_, rfl⟩
          simp [List.getD, hv]; exact hvr
        · rw [List.getElem?_append_right (by omega), undefs_at] at hy
          split at hy
          · simp only [Option.some.injEq] at hy
            subst hy
            refine ⟨rfl, #[], ?_, .nil⟩
            have : (yv :: caps.toList)[i + 1]? = none := by rw [List.getElem?_eq_none]; simp; omega
            simp only [List.getD_eq_getElem?_getD, this]; rfl
          · cases hy
    · intro i y r hy hr
      cases i with
      | zero => simp at hy; subst hy; cases hr
      | succ i =>
        simp only [List.getElem?_cons_succ] at hy
        by_cases hi : i < args.length
        · rw [List.getElem?_append_left hi] at hy
          obtain ⟨t', z, v, rfl, _⟩ := hat i y hy
          cases hr
        · rw [List.getElem?_append_right (by omega), undefs_at] at hy
          split at hy
          · simp only [Option.some.injEq] at hy
            subst hy; cases hr
          · cases hy
    · intro p hp'
      have : p = (0, yv) := by simpa [c] using hp'
      subst this
      rw [htv]; rfl
  have hev1 := fun (H : Tab (List (denL ts))) hH p => evY_sound (P := P) (E := E) (J := J) (Jx := Jx) (l := l) hE hlent hJ hJx hy N H L body hH p (nodeAt body p) rfl
  have hev0 := evY_sound (P := P) (E := E) (J := J) (Jx := Jx) (l := l) hE hlent hJ hJx hy N H L body (hH _ (fun _ _ _ _ _ h live => h.restr live) hev1) [] body rfl
  refine callsIn_wide.1 (callsIn_of_wp_marks (n := 0) hf hbody trivial (wpIn_wide.2 (hev0 _ _ _ false a0 W _ hev ⟨O, S, S, _, hs0, fun b hb => hb, hg, Sub.refl _, fun b hb => .inl hb, ⟨fun _ => hj, fun e => by cases e⟩⟩ ?_)))
  rintro e st1 ys' b' a1 w1 hK ⟨O1, Sh1, S1, ob1, hs1, hO1, hg1, hsh1, hsep1, hj1⟩
  have hne : (e = .normal ∨ e = .ret) ∧ ys' = [] := by
    cases e with
    | exit id => cases hK
    | normal => exact ⟨.inl rfl, by simpa using hK.symm⟩
    | ret => exact ⟨.inr rfl, by simpa using hK.symm⟩
  obtain ⟨hee, rfl⟩ := hne
  have key : LeavesInM Fence.wide 0 P fn a1.tmps (fun e w' => (∃ v, e = .returned v) ∧ ∃ O Sh, J [] O Sh w' ∨ Jx O Sh w') a1.defers .returning w1 := by
    refine leaves_marks a1.defers a1 w1 rfl rfl hs1 ?_
    intro a' w' hta hs2
    refine ⟨.tuple #[], ?_, ⟨_, rfl⟩, O1, Sh1, ?_⟩
    · rw [results_eq, hresE]; simp
    · have hwf : WF w1 (fun b => ¬ O1 b) w' := hs2.frame
      have hsub : Sub Sh1 (hp w') := hsh1.trans hs2.sub
      cases b' with
      | false => exact .inl (hJ [] _ _ _ _ (hj1.1 rfl) hwf hsub)
      | true => exact .inr (hJx _ _ _ _ (hj1.2 rfl).2 hwf hsub)
  rcases hee with rfl | rfl <;> exact key
end
end Go.Lift

/- Tables: what types are, what callees do, out of lists; what results are. -/
set_option linter.all false
namespace Go.Lift

def lk.{u} {α : Type u} : List (Nat × α) → Nat → Option α
  | [], _ => none
  | e :: r, i => match Nat.beq e.1 i with
    | true => some e.2
    | false => lk r i

def noRes : Res := ⟨Unit, none, fun _ => (.dead, [])⟩

def fnOf (l : List (Nat × (List A → Res))) (f : FuncId) (args : List A) : Res := match lk l f with
  | some g => g args
  | none => noRes

def noIt : ItRes := ⟨[], none⟩

def itOf (l : List (Nat × (Dat → ItRes))) (f : FuncId) (d : Dat) : ItRes := match lk l f with
  | some g => g d
  | none => noIt

/-- what is known of a type -/
theorem TyOk.of {P : Program} {i : TypeId} {e : TyI} (h1 : P.underlying i = some e.desc) (h2 : (P.info? i).map (fun f => (f.size, f.bytes, f.zero)) = some (e.size, e.bytes, some (zv e.t e.zero)))
    (h3 : and' (and' (zOk e.t e.zero) (Nat.beq e.t.size e.size)) (aggDesc e.desc == e.t.isAgg) = true) (h6 : (match e.cmp with
      | true => and' (!(P.stoodInHeld i)) (!(P.eqGuardType P.depth i))
      | false => true) = true) : TyOk P i e := by
  obtain ⟨h3, h4⟩ := and'_true h3
  obtain ⟨h3, h5⟩ := and'_true h3
  have hz : ∃ inf, P.info? i = some inf ∧ inf.zero = some (zv e.t e.zero) := by
    cases hi : P.info? i with
    | none => rw [hi] at h2; cases h2
    | some f =>
      rw [hi] at h2
      simp only [Option.map_some, Option.some.injEq, Prod.mk.injEq] at h2
      exact ⟨f, rfl, h2.2.2⟩
  refine ⟨h1, ?_, beqN h5, by simpa using h4, (fun hc => by
    rw [hc] at h6
    obtain ⟨h7, h8⟩ := and'_true h6
    exact ⟨by simpa using h7, by simpa using h8⟩), hz, h3⟩
  cases hi : P.info? i with
  | none => rw [hi] at h2; cases h2
  | some f =>
    rw [hi] at h2
    simp only [Option.map_some, Option.some.injEq, Prod.mk.injEq] at h2
    exact ⟨f, rfl, h2.1, h2.2.1, _, h2.2.2, zv_vr h3⟩

inductive TysOk (P : Program) : List (Nat × TyI) → Prop
  | nil : TysOk P []
  | cons {i : Nat} {e : TyI} {l : List (Nat × TyI)} (h : TyOk P i e) (hs : TysOk P l) : TysOk P ((i, e) :: l)

theorem TysOk.lk {P : Program} {l : List (Nat × TyI)} (h : TysOk P l) : ∀ i e, Lift.lk l i = some e → TyOk P i e := by
  induction h with
  | nil => intro i e h; cases h
  | cons h _ ih =>
    intro i e he
    simp only [Lift.lk] at he
    split at he
    · rename_i hb
      cases he
      rw [← beqN hb]; exact h
    · exact ih i e he

inductive FnsOk (P : Program) (glob : Nat → Option Dat) : List (Nat × (List A → Res)) → Prop
  | nil : FnsOk P glob []
  | cons {f : FuncId} {g : List A → Res} {l : List (Nat × (List A → Res))} (h : Contract P glob f g) (hs : FnsOk P glob l) : FnsOk P glob ((f, g) :: l)

theorem FnsOk.fn {P : Program} {glob : Nat → Option Dat} {l : List (Nat × (List A → Res))} (h : FnsOk P glob l) : ∀ f, (∀ args, (fnOf l f args).val = none) ∨ Contract P glob f (fnOf l f) := by
  induction h with
  | nil => intro f; exact .inl fun args => rfl
  | @cons f g l h _ ih =>
    intro f'
    cases hb : Nat.beq f f' with
    | true =>
      have := beqN hb
      subst this
      refine .inr ?_
      have : fnOf ((f, g) :: l) f = g := by funext args; simp only [fnOf, lk, hb]
      rw [this]; exact h
    | false =>
      have : fnOf ((f, g) :: l) f' = fnOf l f' := by funext args; simp only [fnOf, lk, hb]
      rw [this]; exact ih f'

inductive ItsOk (P : Program) (glob : Nat → Option Dat) : List (Nat × (Dat → ItRes)) → Prop
  | nil : ItsOk P glob []
  | cons {f : FuncId} {g : Dat → ItRes} {l : List (Nat × (Dat → ItRes))} (h : ItOk P glob f g) (hs : ItsOk P glob l) : ItsOk P glob ((f, g) :: l)

theorem ItsOk.it {P : Program} {glob : Nat → Option Dat} {l : List (Nat × (Dat → ItRes))} (h : ItsOk P glob l) : ∀ f, (∀ d, (itOf l f d).val = none) ∨ ItOk P glob f (itOf l f) := by
  induction h with
  | nil => intro f; exact .inl fun args => rfl
  | @cons f g l h _ ih =>
    intro f'
    cases hb : Nat.beq f f' with
    | true =>
      have := beqN hb
      subst this
      refine .inr ?_
      have : itOf ((f, g) :: l) f = g := by funext args; simp only [itOf, lk, hb]
      rw [this]; exact h
    | false =>
      have : itOf ((f, g) :: l) f' = itOf l f' := by funext args; simp only [itOf, lk, hb]
      rw [this]; exact ih f'

/-- the surroundings of a function: the types, the callees, its own temporaries -/
def mkEnv (tys : List (Nat × TyI)) (glob : Nat → Option Dat) (fns : List (Nat × (List A → Res))) (keep : List (Nat × T)) (live lent : List Nat) (ownRes : Bool) (boxT : List (Nat × T)) (its : List (Nat × (Dat → ItRes))) (resO : List T := []) : Env :=
  ⟨lk tys, glob, fnOf fns, lk keep, live, lent, ownRes, lk boxT, itOf its, resO⟩

theorem mkEnv_ok {P : Program} {tys : List (Nat × TyI)} {glob : Nat → Option Dat} {fns : List (Nat × (List A → Res))} {keep : List (Nat × T)} {live lent : List Nat} {ownRes : Bool} {boxT : List (Nat × T)} {its : List (Nat × (Dat → ItRes))} {resO : List T}
    (hm : P.follows .mixedOrders = true) (ht : TysOk P tys) (hf : FnsOk P glob fns) (hi : ItsOk P glob its) :
    EnvOk P (mkEnv tys glob fns keep live lent ownRes boxT its resO) := ⟨ht.lk, hf.fn, hi.it, hm⟩

/-! ## results -/

/-- a result that is a datum, no box having been handed -/
def kRes (s : AS) (m : Nat) (r : A) (outs : List A) : Option s.den := match s.un r with
  | some x => (match unS [] m outs with
    | some _ => some x
    | none => none)
  | none => none

def oRes (s : AS) (m : Nat) (x : s.den) : A × List A := (s.mk x, mkS [] m ())

theorem kRes_ok {s : AS} {m : Nat} : ∀ (r : A) (outs : List A) (y : s.den), kRes s m r outs = some y → (r, outs) = oRes s m y := by
  intro r outs y h
  unfold kRes at h
  split at h
  · rename_i x hx
    split at h
    · rename_i z hz
      cases h
      rw [AS.un_mk hx, unS_mk hz]; rfl
    · cases h
  · cases h

/-- a result, and what the handed boxes hold then -/
def kResB (s : AS) (os : List (Nat × AS)) (m : Nat) (r : A) (outs : List A) : Option (s.den × denS os) := match s.un r with
  | some x => (match unS os m outs with
    | some z => some (x, z)
    | none => none)
  | none => none

def oResB (s : AS) (os : List (Nat × AS)) (m : Nat) (x : s.den × denS os) : A × List A := (s.mk x.1, mkS os m x.2)

theorem kResB_ok {s : AS} {os : List (Nat × AS)} {m : Nat} : ∀ (r : A) (outs : List A) (y : s.den × denS os), kResB s os m r outs = some y → (r, outs) = oResB s os m y := by
  intro r outs y h
  unfold kResB at h
  split at h
  · rename_i x hx
    split at h
    · rename_i z hz
      cases h
      rw [AS.un_mk hx, unS_mk hz]; rfl
    · cases h
  · cases h

def noGlob : Nat → Option Dat := fun _ => none
theorem noGlob_ok (S : Hp) : GlobOk noGlob S := fun g d h => by cases h
end Go.Lift

/- From a law's plain function to the law's call. -/
set_option linter.all false
namespace Go.Lift
open Go.RowKit

theorem law_calls {H : Type} {enc : TypeId × Value → H} {P : Program} {W : World} {base b0 : Nat} {r : Reach} {spare : Nat → Bool} {held : Bool} {glob : Nat → Option Dat} {f : FuncId} {us : List T} {ts : List TypeId} {m : Nat}
    {F : Nat → denS (argsS us) → Option Bool} {args : Array Value} {ds : List (DataW H)} {p : List MemPlace}
    (hm : mtAll P us ts = true) (hc : ∀ N, Contract P glob f (resOf (argsS us) (F N) (oRes (.v .bool) m))) (hF : ∀ x, WfS us x → ∃ N, F N x = some true) (hg : GlobOk glob (hp W))
    (hval : ∀ (j : Nat) t v, ts[j]? = some t → args[j]? = some v → Value.okWide P W r b0 t v) (hA : DataW.TrodAll enc P W base spare held ts args.toList ds p) :
    Calls P f args W fun e w' => e = .returned (.bool true) ∧ Below W.heap.size W w' := by
  obtain ⟨x, hx, hw⟩ := open_all (us := us) hm (fun j t v ht hv => hval j t v ht (by simpa using hv)) hA
  obtain ⟨N, hN⟩ := hF x hw
  exact law_of (hc N) (fun _ => rfl) hx hg hN unS_args
end Go.Lift

