import Derived.Test.YtlohplpnhopldaaLgW
set_option linter.all false
namespace Go.Proofs.YtlohplpnhopldaaPx
noncomputable section
open Go Go.Lift

theorem zbl {σ β : Type} {step : σ -> (σ -> Option β) -> Option β} (I : σ -> Prop) (m : σ -> Nat) (R : σ -> Option β)
    (h : ∀ v r, I v -> (∀ v', I v' -> m v' < m v -> r v' = R v') -> step v r = R v) : ∀ (n : Nat) (v : σ), I v -> m v < n -> iter step n v = R v
  | 0, v, _, hm => by omega
  | n + 1, v, hv, hm => h v (iter step n) hv fun v' hv' hlt => zbl I m R h n v' hv' (by omega)

theorem wrap64 (x : Int) : IntKind.wrap .i64 x = (x + 9223372036854775808) % 18446744073709551616 - 9223372036854775808 := by
  simp only [IntKind.wrap, IntKind.bits, IntKind.signed, Bool.true_and, decide_eq_true_eq, Nat.add_one_sub_one, Int.reducePow, ge_iff_le]
  split <;> omega

def I64 (x : Int) : Prop := -9223372036854775808 <= x /\ x <= 9223372036854775807

instance (x : Int) : Decidable (I64 x) := by unfold I64; infer_instance

theorem z6v {x : Int} (h : I64 x) : IntKind.wrap .i64 x = x := by
  rw [wrap64]; unfold I64 at h; omega

theorem wrap_i64 (x : Int) : I64 (IntKind.wrap .i64 x) := by
  rw [wrap64]; unfold I64; omega

theorem z1f {α : Type} {b : Bool} (h : b = true) (x y : α) : cond b x y = x := by rw [h]; rfl
theorem z1d {α : Type} {b : Bool} (h : b = false) (x y : α) : cond b x y = y := by rw [h]; rfl

theorem z5y {n len : Nat} (h : n < len) : inR (n : Int) len = true := by simp only [inR, decide_eq_true_eq]; omega

end
end Go.Proofs.YtlohplpnhopldaaPx

set_option linter.all false
namespace Go.Proofs.YtlohplpnhopldaaPx
noncomputable section
open Go Go.Lift

theorem z9j {i : Nat} (h : i < 9223372036854775807) : IntKind.wrap .i64 ((i : Int) + 1) = ((i + 1 : Nat) : Int) := by
  rw [z6v (by unfold I64; omega)]; omega

theorem zhg {α : Type} (l : List α) (d : α) (i : Nat) (h : i < l.length) : l.getD i d ∈ l := by
  rw [List.getD_eq_getElem?_getD, List.getElem?_eq_getElem h]; simp

theorem zdm {α : Type} (l : List α) (d : α) (i : Nat) (h : i < l.length) : l.drop i = l.getD i d :: l.drop (i + 1) := by
  rw [List.getD_eq_getElem?_getD, List.getElem?_eq_getElem h, Option.getD_some, List.drop_eq_getElem_cons h]

theorem zn1 {α : Type} (l : List α) {i : Nat} (h : l.length <= i) : l.drop i = [] := List.drop_of_length_le h

theorem zek {p : Prop} [Decidable p] (h : p) : decide p = true := decide_eq_true h
theorem zcc {p : Prop} [Decidable p] (h : ¬ p) : decide p = false := decide_eq_false h

end
end Go.Proofs.YtlohplpnhopldaaPx

set_option linter.all false
set_option maxRecDepth 100000
namespace Go.Lift
noncomputable section


def BSt (t : T) (w0 : World) (S0 : Hp) (ob0 : List Nat) (bf : Nat) (w : World) (x : t.den) (L : List (Nat × Array Value × Nat)) : Prop :=
 ∃ S o, WF w0 (fun k => k ∈ ob0) w /\ Sub S0 S /\ Sub S (hp w) /\ (∀ k, S k ≠ none -> S0 k ≠ none \/ k ∈ ob0 \/ w0.heap.size <= k) /\ ARel (hp w) S (fun _ => undef) (.box t x) (.pointer (some ⟨bf, 0, none⟩)) o /\ o.Nodup ∧
 (∀ k ∈ o, S k = none /\ (k ∈ ob0 \/ w0.heap.size <= k)) /\ ∀ p ∈ L, S p.1 = none /\ p.1 ∉ o /\ w0.heap.size <= p.1 /\ w.heap[p.1]? = some (.cells p.2.1 p.2.2 (0, 0))

variable {P : Program} {glob : Nat -> Option Dat} {t : T} {w0 w : World} {S0 : Hp} {ob0 : List Nat} {bf : Nat} {x : t.den} {L : List (Nat × Array Value × Nat)}

theorem BSt.lt (h : BSt t w0 S0 ob0 bf w x L) : ∀ p ∈ L, p.1 < w.heap.size := by
  obtain ⟨S, o, _, _, _, _, _, _, _, hL⟩ := h
  exact fun p hp => (Array.getElem?_eq_some_iff.1 (hL p hp).2.2.2).1

theorem BSt.drew (h : BSt t w0 S0 ob0 bf w x L) : BSt t w0 S0 ob0 bf w.drew x L := by
  obtain ⟨S, o, k1, k2⟩ := h
  exact ⟨S, o, ⟨k1.size, k1.same, k1.tape, k1.os, k1.output⟩, k2⟩

theorem BSt.swap {L' : List (Nat × Array Value × Nat)} (h : BSt t w0 S0 ob0 bf w x L) (hm : ∀ p ∈ L', p ∈ L) : BSt t w0 S0 ob0 bf w x L' := by
  obtain ⟨S, o, h1, h2, h3, h4, h5, h6, h7, hL⟩ := h
  exact ⟨S, o, h1, h2, h3, h4, h5, h6, h7, fun p hp => hL p (hm p hp)⟩

theorem BSt.cell (h : BSt t w0 S0 ob0 bf w x L) {p : Nat} {cs : Array Value} {E i : Nat} {v : Value} (hm : (p, cs, E) ∈ L) (hi : cs[i]? = some v) : w.cell? ⟨p, i, none⟩ = some v := by
  obtain ⟨S, o, _, _, _, _, _, _, _, hL⟩ := h
  have := (hL _ hm).2.2.2
  simp only at this
  simp [World.cell?, this, hi]

theorem BSt.free (h : BSt t w0 S0 ob0 bf w x L) {p : Nat} {cs : Array Value} {E i : Nat} (hm : (p, cs, E) ∈ L) : w.frozen? ⟨p, i, none⟩ = false := by
  obtain ⟨S, o, _, _, _, _, _, _, _, hL⟩ := h
  have := (hL _ hm).2.2.2
  simp only at this
  simp [World.frozen?, this]

theorem BSt.plain {f : FuncId} {g : List A -> Res} (ct : Contract P glob f g) (hg : ∀ S, GlobOk glob S) (h : BSt t w0 S0 ob0 bf w x L) {args : List A} {vals : List Value}
    (hrel : ∀ S, Sub S (hp w) -> ArgsRel (hp w) S args vals (fun _ => [])) {y : (g args).X} (hy : (g args).val = some y) :
    Calls P f vals.toArray w fun e w' => ∃ v S' o', e = .returned v /\ ARel (hp w') S' (fun _ => undef) ((g args).out y).1 v o' /\ BSt t w0 S0 ob0 bf w' x L := by
  have h' := h
  obtain ⟨S, o, h1, h2, h3, h4, h5, h6, h7, hL⟩ := h'
  refine ((ct.2 w S args vals _ (hrel S h3) h3 (hg S) y hy)).mono ?_
  rintro e w' ⟨v, S', q, ob', rfl, hwf, hSS, hSw, hnew, ⟨hr, _⟩, _⟩
  refine ⟨v, S', q, rfl, hr, ?_⟩
  have hwf' : WF w (fun _ => False) w' := ⟨hwf.size, fun k hk _ => hwf.same k hk (by rintro ⟨i, hi⟩; cases hi), hwf.tape, hwf.os, hwf.output⟩
  have hlt : ∀ k ∈ o, k < w.heap.size := fun k hk => by
    obtain ⟨ob, hob⟩ := h5.obj k hk
    exact (Array.getElem?_eq_some_iff.1 hob.1).1
  have hnw : ∀ k, k < w.heap.size -> S' k ≠ none -> S k ≠ none := fun k hk hs => by
    rcases hnew k hs with h | ⟨i, hi⟩ | h
    . exact h
    . cases hi
    . omega
  refine ⟨S', o, h1.trans hwf' (fun _ h => h.elim), h2.trans hSS, hSw, fun k hk => ?_, ?_, h6, fun k hk => ⟨?_, (h7 k hk).2⟩, fun p hp => ?_⟩
  . rcases hnew k hk with h | ⟨i, hi⟩ | h
    . exact h4 k h
    . cases hi
    . exact .inr (.inr (Nat.le_trans h1.size h))
  . obtain ⟨b, cs, E, fr, bs, rfl, e1, e2, e3, e4⟩ := h5
    refine ⟨b, cs, E, fr, bs, rfl, e1, ?_, e3, e4.mono hSS _ _ _ _ (fun k hk => hwf'.same k (hlt k (by simp [hk])) (fun h => h))⟩
    have := hwf'.same b (hlt b (by simp)) (fun h => h)
    simp only [hp] at e2 ⊢
    rw [this]; exact e2
  . cases hs : S' k with
    | none => rfl
    | some q => exact absurd (h7 k hk).1 (hnw k (hlt k hk) (by rw [hs]; simp))
  . obtain ⟨p1, p2, p3, p4⟩ := hL p hp
    have hl := (Array.getElem?_eq_some_iff.1 p4).1
    refine ⟨?_, p2, p3, ?_⟩
    . cases hs : S' p.1 with
      | none => rfl
      | some q => exact absurd p1 (hnw _ hl (by rw [hs]; simp))
    . rw [hwf'.same p.1 hl (fun h => h)]; exact p4

theorem BSt.alloc (h : BSt t w0 S0 ob0 bf w x L) (cs : Array Value) (E : Nat) : BSt t w0 S0 ob0 bf (w.alloc (.cells cs E)) x ((w.heap.size, cs, E) :: L) := by
  have hlt := h.lt
  obtain ⟨S, o, h1, h2, h3, h4, h5, h6, h7, hL⟩ := h
  have hh : (w.alloc (.cells cs E)).heap = w.heap.push (.cells cs E (0, 0)) := rfl
  have hk : ∀ k, k < w.heap.size -> (w.alloc (.cells cs E)).heap[k]? = w.heap[k]? := fun k hk => by
    rw [hh, Array.getElem?_push, if_neg (by omega)]
  have hol : ∀ k ∈ o, k < w.heap.size := fun k hk => by
    obtain ⟨ob, hob⟩ := h5.obj k hk
    exact (Array.getElem?_eq_some_iff.1 hob.1).1
  refine ⟨S, o, ⟨by rw [hh, Array.size_push]; have := h1.size; omega, fun k h1' h2' => by rw [hk k (by have := h1.size; omega)]; exact h1.same k h1' h2', h1.tape, h1.os, h1.output⟩, h2, fun k q ho => ?_, h4, ?_, h6, h7, fun p hpm => ?_⟩
  . have := h3 k q ho
    simp only [hp] at this ⊢
    rw [hk k (Array.getElem?_eq_some_iff.1 this).1]
    exact this
  . obtain ⟨b, c1, E', fr, bs, rfl, e1, e2, e3, e4⟩ := h5
    refine ⟨b, c1, E', fr, bs, rfl, e1, ?_, e3, e4.mono (Sub.refl _) _ _ _ _ (fun k hkm => hk k (hol k (by simp [hkm])))⟩
    simp only [hp] at e2 ⊢
    rw [hk b (hol b (by simp))]; exact e2
  . rcases List.mem_cons.1 hpm with rfl | hpm
    . refine ⟨?_, fun hm => absurd (hol _ hm) (by simp), h1.size, ?_⟩
      . cases hs : S w.heap.size with
        | none => rfl
        | some q =>
          have := h3 _ _ hs
          simp only [hp] at this
          have := (Array.getElem?_eq_some_iff.1 this).1
          omega
      . simp only
        rw [hh, Array.getElem?_push, if_pos rfl]
    . obtain ⟨p1, p2, p3, p4⟩ := hL p hpm
      exact ⟨p1, p2, p3, by rw [hk p.1 (hlt p hpm)]; exact p4⟩

theorem BSt.put {p : Nat} {cs : Array Value} {E : Nat} (h : BSt t w0 S0 ob0 bf w x ((p, cs, E) :: L)) (hd : ∀ q ∈ L, q.1 ≠ p) {w' : World} {cs' : Array Value} (hw : w' = z15 w p (.cells cs' E (0, 0))) : BSt t w0 S0 ob0 bf w' x ((p, cs', E) :: L) := by
  obtain ⟨S, o, h1, h2, h3, h4, h5, h6, h7, hL⟩ := h
  obtain ⟨q1, q2, q3, q4⟩ := hL (p, cs, E) (List.mem_cons_self ..)
  simp only at q1 q2 q3 q4
  have hne : ∀ k, k ≠ p -> w'.heap[k]? = w.heap[k]? := fun k hk => by
    have := zl (w := w) (o := .cells cs' E (0, 0)) hk
    rw [hw]; exact this
  have hsz : w'.heap.size = w.heap.size := by rw [hw]; simp [z15]
  refine ⟨S, o, ⟨by rw [hsz]; exact h1.size, fun k h1' h2' => by rw [hne k (by omega)]; exact h1.same k h1' h2', by rw [hw]; exact h1.tape, by rw [hw]; exact h1.os, by rw [hw]; exact h1.output⟩, h2, fun k q ho => ?_, h4, ?_, h6, h7, fun u hu => ?_⟩
  . have hk : k ≠ p := fun e => by rw [e, q1] at ho; cases ho
    have := h3 k q ho
    simp only [hp] at this ⊢
    rw [hne k hk]
    exact this
  . obtain ⟨b, c1, E', fr, bs, rfl, e1, e2, e3, e4⟩ := h5
    refine ⟨b, c1, E', fr, bs, rfl, e1, ?_, e3, e4.mono (Sub.refl _) _ _ _ _ (fun k hkm => hne k (fun e => q2 (by simp [<- e, hkm])))⟩
    simp only [hp] at e2 ⊢
    rw [hne b (fun e => q2 (by simp [<- e]))]; exact e2
  . rcases List.mem_cons.1 hu with rfl | hu
    . refine ⟨q1, q2, q3, ?_⟩
      rw [hw]
      exact z1n q4
    . obtain ⟨p1, p2, p3, p4⟩ := hL u (List.mem_cons_of_mem _ hu)
      exact ⟨p1, p2, p3, by rw [hne u.1 (hd u hu)]; exact p4⟩

theorem BSt.setCell {p : Nat} {cs : Array Value} {E : Nat} (h : BSt t w0 S0 ob0 bf w x ((p, cs, E) :: L)) (hd : ∀ q ∈ L, q.1 ≠ p) (i : Nat) (v : Value) :
    BSt t w0 S0 ob0 bf (w.setCell ⟨p, i, none⟩ v) x ((p, cs.setIfInBounds i v, E) :: L) := by
  have hb : hp w p = some (.cells cs E (0, 0)) := by
    obtain ⟨S, o, _, _, _, _, _, _, _, hL⟩ := h
    exact (hL _ (List.mem_cons_self ..)).2.2.2
  exact h.put hd (zhv v hb)

theorem BSt.start {args : List A} {vals : List Value} {ob : Nat -> List Nat} (har : ArgsRel (hp w) S0 (.box t x :: args) vals ob) (hS : Sub S0 (hp w)) :
    ∃ bf vs, vals = .pointer (some ⟨bf, 0, none⟩) :: vs /\ ob 0 ≠ [] /\ BSt t w S0 (ob 0) bf w x [] := by
  obtain ⟨⟨v, hv, hr⟩, _⟩ := har.rel 0 _ rfl
  have hr' := hr
  obtain ⟨b, cs, E, fr, bs, hob, rfl, _⟩ := hr'
  cases vals with
  | nil => cases hv
  | cons v vs =>
    cases hv
    exact ⟨b, vs, rfl, by rw [hob]; simp, S0, ob 0, WF.refl _ _, Sub.refl _, hS, fun _ h => .inl h, hr, har.nd 0, fun k hk => ⟨har.hid 0 k hk, .inl hk⟩, fun p hp => by cases hp⟩

theorem BSt.ends {args outs : List A} {vs : List Value} {ob : Nat -> List Nat} {x0 : t.den} {r : A} {v : Value} (h : BSt t w0 S0 (ob 0) bf w x L) (hob : ∀ i, ob (i + 1) = []) (hne : ob 0 ≠ []) (hargs : ∀ y ∈ args, z41 y = false)
    (hr : ∀ S', ARel (hp w) S' (fun _ => undef) r v []) (hrr : r.refs = []) : Ends w0 S0 (.box t x0 :: args) (.pointer (some ⟨bf, 0, none⟩) :: vs) ob r (.box t x :: outs) (.returned v) w := by
  obtain ⟨S, o, h1, h2, h3, h4, h5, h6, h7, hL⟩ := h
  have hz : ∀ k, (∃ i, k ∈ ob i) -> k ∈ ob 0 := by
    rintro k ⟨i, hi⟩
    cases i with
    | zero => exact hi
    | succ i => rw [hob i] at hi; cases hi
  refine ⟨v, S, [], fun i => if i = 0 then o else [], rfl, ⟨h1.size, fun k hk hn => h1.same k hk (fun hh => hn ⟨0, hh⟩), h1.tape, h1.os, h1.output⟩, h2, h3, fun k hk => ?_, ⟨hr S, hrr⟩, (fun k hk => by cases hk), .nil, ?_, ?_, ?_, ?_, ?_⟩
  . rcases h4 k hk with h | h | h
    . exact .inl h
    . exact .inr (.inl ⟨0, h⟩)
    . exact .inr (.inr h)
  . intro i y hy hbx
    cases i with
    | zero => exact ⟨_, _, rfl, rfl, rfl, by simpa using h5⟩
    | succ i =>
      have := hargs y (List.mem_of_getElem? (by simpa using hy))
      rw [hbx] at this; cases this
  . intro i k hk
    dsimp only at hk
    by_cases hi0 : i = 0
    . rw [if_pos hi0] at hk
      obtain ⟨g1, g2⟩ := h7 k hk
      refine ⟨?_, g1, by simp⟩
      rcases g2 with h | h
      . exact .inl ⟨0, h⟩
      . exact .inr h
    . rw [if_neg hi0] at hk; cases hk
  . intro i j k hi hj
    by_cases hi0 : i = 0 <;> by_cases hj0 : j = 0 <;> simp_all
  . intro i
    by_cases hi0 : i = 0 <;> simp [hi0, h6]
  . intro i hi
    by_cases hi0 : i = 0
    . subst hi0
      exact absurd hi hne
    . dsimp only; rw [if_neg hi0]

end
end Go.Lift
