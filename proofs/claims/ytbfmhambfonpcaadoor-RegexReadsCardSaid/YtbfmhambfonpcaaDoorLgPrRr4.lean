import Derived.Test.YtbfmhambfonpcaaDoorLgW
import Derived.LaidLaws
import Derived.Test.YtbfmhambfonpcaaDoorLgPrRr3
import Derived.KernelRfl
set_option linter.all false
namespace Go.Proofs.YtbfmhambfonpcaaDoorPx
open Go Go.Lift

theorem mapM_some {α β : Type} {f : α → Option β} : ∀ {l : List α} {ys : List β}, l.mapM f = some ys → ys.length = l.length ∧ ∀ i, (h : i < l.length) → ∃ y, ys[i]? = some y ∧ f l[i] = some y
  | [], ys, h => by simp at h; subst h; simp
  | a :: l, ys, h => by
    simp only [List.mapM_cons, Option.pure_def, Option.bind_eq_bind, Option.bind_eq_some_iff, Option.some.injEq] at h
    obtain ⟨y, hy, zs, hz, rfl⟩ := h
    obtain ⟨h1, h2⟩ := mapM_some hz
    refine ⟨by simp [h1], fun i hi => ?_⟩
    cases i with
    | zero => exact ⟨y, rfl, hy⟩
    | succ i =>
      obtain ⟨z, e1, e2⟩ := h2 i (by simpa using hi)
      exact ⟨z, by simpa using e1, by simpa using e2⟩

theorem int_of_trod {H : Type} {enc : TypeId × Value → H} {P : Program} {w : World} {base : Nat} {sp : Nat → Bool} {held : Bool} {fuel : Nat} {t : TypeId} {k : IntKind} {c : Value} {y : DataW H × List MemPlace}
    (ht : P.underlying t = some (.int k)) (h : DataW.trod enc P w base sp held fuel t [c] = some y) : ∃ n, c = .int k n ∧ y = (.lit (.int k n), []) := by
  cases fuel with
  | zero => simp [DataW.trod] at h
  | succ fuel =>
    cases c <;> simp [DataW.trod, ht] at h
    rename_i k' n
    obtain ⟨⟨rfl, _⟩, rfl⟩ := h
    exact ⟨n, rfl, rfl⟩

theorem ints_of_trod {P : Program} {w : World} {base : Nat} {sp : Nat → Bool} {held : Bool} {fuel : Nat} {t e : TypeId} {k : IntKind} {n : Nat} {cs : List Value} {ns : List Int} {p : List MemPlace}
    (ht : P.underlying t = some (.array n e)) (he : P.underlying e = some (.int k)) (hc : P.cellsOf e = 1) (hct : P.cellsOf t = n)
    (h : DataW.trod (fun _ => ()) P w base sp held fuel t cs = some (.agg (ns.map fun i => .lit (.int k i)), p)) : cs = ns.map (fun i => .int k i) ∧ ns.length = n := by
  cases fuel with
  | zero => simp [DataW.trod] at h
  | succ fuel =>
    simp only [DataW.trod, ht, hc, hct] at h
    split at h
    · rename_i hl
      simp only [Option.map_eq_some_iff] at h
      obtain ⟨xs, hm, hx⟩ := h
      obtain ⟨h1, h2⟩ := mapM_some hm
      simp only [Prod.mk.injEq, DataW.agg.injEq] at hx
      have hlen : ns.length = n := by
        have := congrArg List.length hx.1
        simp only [List.length_map, List.length_range] at this h1
        omega
      refine ⟨List.ext_getElem? fun i => ?_, hlen⟩
      by_cases hi : i < n
      · obtain ⟨y, e1, e2⟩ := h2 i (by simpa using hi)
        have hci : (cs.drop (i * 1)).take 1 = [cs[i]'(by omega)] := by
          rw [Nat.mul_one, List.drop_eq_getElem_cons (by omega : i < cs.length)]; rfl
        simp only [List.getElem_range] at e2
        rw [hci] at e2
        obtain ⟨m, hm1, hm2⟩ := int_of_trod he e2
        have hy : (xs.map (·.1))[i]? = some (.lit (.int k m)) := by rw [List.getElem?_map, e1, hm2]; rfl
        rw [hx.1, List.getElem?_map] at hy
        have hn : ns[i]? = some (ns[i]'(by omega)) := List.getElem?_eq_getElem (by omega)
        rw [hn] at hy
        simp only [Option.map_some, Option.some.injEq, DataW.lit.injEq, Lit.int.injEq, true_and] at hy
        rw [List.getElem?_eq_getElem (by omega : i < cs.length), hm1, List.getElem?_map, hn, Option.map_some, hy]
      · rw [List.getElem?_eq_none (by omega), List.getElem?_eq_none (by rw [List.length_map]; omega)]
    · cases h

theorem All_ints (S : Hp) (k : IntKind) : ∀ ns : List Int, All (Rd S (.int k)) ns (ns.map fun i => .int k i)
  | [] => rfl
  | x :: r => ⟨[.int k x], _, rfl, rfl, All_ints S k r⟩

theorem glob_ints {P : Program} {W : World} {name : String} {g : Nat} {t e : TypeId} {k : IntKind} {n : Nat} {ns : List Int} {r : List (String × DataW Unit)} {ps : List MemPlace}
    (hg : P.globalNamed name = some g) (hty : (P.globals[g]?).map (·.type) = some t) (ht : P.underlying t = some (.array n e)) (he : P.underlying e = some (.int k)) (hc : P.cellsOf e = 1) (hct : P.cellsOf t = n)
    (h : DataW.LaidVars P W ((name, .agg (ns.map fun i => .lit (.int k i))) :: r) ps) :
    VR (hp W) (.ptr (.arr n (.int k))) ns (.pointer (some ⟨g, 0, none⟩)) ∧ ∃ q, DataW.LaidVars P W r q := by
  obtain ⟨g', t', cs, fuel, p, q, e1, e2, e3, e4, e5, _⟩ := h
  obtain rfl := Option.some.inj (hg.symm.trans e1)
  obtain rfl := Option.some.inj (hty.symm.trans e2)
  obtain ⟨h1, h2⟩ := ints_of_trod ht he hc hct e4
  refine ⟨?_, q, e5⟩
  simp only [World.var?, hg, Option.bind_some] at e3
  split at e3
  · rename_i cs' t2 fr hh
    simp only [Option.some.injEq] at e3
    subst e3
    refine VR.of_one rfl ⟨g, 0, cs'.toList, rfl, ⟨cs', t2, fr, [], [], hh, by simp, rfl⟩, ?_⟩
    rw [h1]
    exact ⟨h2, All_ints _ _ _⟩
  · cases e3

end Go.Proofs.YtbfmhambfonpcaaDoorPx

set_option linter.all false
namespace Go.Proofs.YtbfmhambfonpcaaDoorPx
open Go Go.Lift

def U64 (x : Int) : Prop := 0 ≤ x ∧ x < 18446744073709551616

instance (x : Int) : Decidable (U64 x) := by unfold U64; infer_instance

def bit (w : Int) (i : Nat) : Bool := w.toNat.testBit i

def SetOk (s : List Int) : Prop := ∃ a b c d, s = [a, b, c, d] ∧ U64 a ∧ U64 b ∧ U64 c ∧ U64 d

theorem SetOk.length {s : List Int} (h : SetOk s) : s.length = 4 := by
  obtain ⟨a, b, c, d, rfl, _⟩ := h; rfl

theorem SetOk.set {s : List Int} (h : SetOk s) {i : Nat} (hi : i < 4) {x : Int} (hx : U64 x) : SetOk (s.set i x) := by
  obtain ⟨a, b, c, d, rfl, ha, hb, hc, hd⟩ := h
  match i, hi with
  | 0, _ => exact ⟨x, b, c, d, rfl, hx, hb, hc, hd⟩
  | 1, _ => exact ⟨a, x, c, d, rfl, ha, hx, hc, hd⟩
  | 2, _ => exact ⟨a, b, x, d, rfl, ha, hb, hx, hd⟩
  | 3, _ => exact ⟨a, b, c, x, rfl, ha, hb, hc, hx⟩

theorem SetOk.map {s : List Int} (f : Int → Int) (hf : ∀ x, U64 x → U64 (f x)) (hs : SetOk s) : SetOk (s.map f) := by
  obtain ⟨a, b, c, d, rfl, ha, hb, hc, hd⟩ := hs
  exact ⟨_, _, _, _, rfl, hf _ ha, hf _ hb, hf _ hc, hf _ hd⟩

end Go.Proofs.YtbfmhambfonpcaaDoorPx

set_option linter.all false
namespace Go.Proofs.YtbfmhambfonpcaaDoorPx
open Go Go.Lift

def maskF (k : Nat) : Nat → Nat
  | 0 => 0
  | n + 1 => (2 ^ k - 1) + 2 ^ (2 * k) * maskF k n

end Go.Proofs.YtbfmhambfonpcaaDoorPx

set_option linter.all false
namespace Go.Proofs.YtbfmhambfonpcaaDoorPx
open Go Go.Lift

theorem m1 : (6148914691236517205 : Nat) = maskF 1 32 := by decide

end Go.Proofs.YtbfmhambfonpcaaDoorPx

set_option linter.all false
set_option maxRecDepth 100000
namespace Go.Proofs.YtbfmhambfonpcaaDoorLg
open Go Go.Lift Go.Proofs.YtbfmhambfonpcaaDoorPx

inductive PR (α : Type) where
  | bad (e : Int) (a : Nat)
  | ok (x : α) (a : Nat)

def PR.next {α β : Type} (r : PR α) (f : α → Nat → PR β) : PR β := match r with
  | .bad e a => .bad e a
  | .ok x a => f x a

def z4 : List Int := [0, 0, 0, 0]

def Ahead {α : Type} (s : List UInt8) (a : Nat) (r : PR α) : Prop := match r with
  | .bad _ b => b ≤ s.length
  | .ok _ b => a ≤ b ∧ b ≤ s.length

theorem Ahead.bind {α β : Type} {s : List UInt8} {a c : Nat} {r : PR α} {f : α → Nat → PR β} (h : Ahead s a r) (hf : ∀ x b, r = .ok x b → a ≤ b → b ≤ s.length → Ahead s c (f x b)) : Ahead s c (r.next f) := by
  cases r with
  | bad e b => exact h
  | ok x b => exact hf x b rfl h.1 h.2

end Go.Proofs.YtbfmhambfonpcaaDoorLg

set_option linter.all false
set_option maxRecDepth 100000
namespace Go.Lift


def BSt (t : T) (w0 : World) (S0 : Hp) (ob0 : List Nat) (bf : Nat) (w : World) (x : t.den) (L : List (Nat × Array Value × Nat)) : Prop :=
 ∃ S o, WF w0 (fun k => k ∈ ob0) w ∧ Sub S0 S ∧ Sub S (hp w) ∧ (∀ k, S k ≠ none → S0 k ≠ none ∨ k ∈ ob0 ∨ w0.heap.size ≤ k) ∧ ARel (hp w) S (fun _ => undef) (.box t x) (.pointer (some ⟨bf, 0, none⟩)) o ∧ o.Nodup ∧
 (∀ k ∈ o, S k = none ∧ (k ∈ ob0 ∨ w0.heap.size ≤ k)) ∧ ∀ p ∈ L, S p.1 = none ∧ p.1 ∉ o ∧ w0.heap.size ≤ p.1 ∧ w.heap[p.1]? = some (.cells p.2.1 p.2.2 (0, 0))

variable {P : Program} {glob : Nat → Option Dat} {t : T} {w0 w : World} {S0 : Hp} {ob0 : List Nat} {bf : Nat} {x : t.den} {L : List (Nat × Array Value × Nat)}

theorem BSt.lt (h : BSt t w0 S0 ob0 bf w x L) : ∀ p ∈ L, p.1 < w.heap.size := by
  obtain ⟨S, o, _, _, _, _, _, _, _, hL⟩ := h
  exact fun p hp => (Array.getElem?_eq_some_iff.1 (hL p hp).2.2.2).1

theorem BSt.drew (h : BSt t w0 S0 ob0 bf w x L) : BSt t w0 S0 ob0 bf w.drew x L := by
  obtain ⟨S, o, k1, k2⟩ := h
  exact ⟨S, o, ⟨k1.size, k1.same, k1.tape, k1.os, k1.output⟩, k2⟩

theorem BSt.plain {f : FuncId} {g : List A → Res} (ct : Contract P glob f g) (hg : ∀ S, GlobOk glob S) (h : BSt t w0 S0 ob0 bf w x L) {args : List A} {vals : List Value}
    (hrel : ∀ S, Sub S (hp w) → ArgsRel (hp w) S args vals (fun _ => [])) {y : (g args).X} (hy : (g args).val = some y) :
    Calls P f vals.toArray w fun e w' => ∃ v S' o', e = .returned v ∧ ARel (hp w') S' (fun _ => undef) ((g args).out y).1 v o' ∧ BSt t w0 S0 ob0 bf w' x L := by
  have h' := h
  obtain ⟨S, o, h1, h2, h3, h4, h5, h6, h7, hL⟩ := h'
  refine ((ct.2 w S args vals _ (hrel S h3) h3 (hg S) y hy)).mono ?_
  rintro e w' ⟨v, S', q, ob', rfl, hwf, hSS, hSw, hnew, ⟨hr, _⟩, _⟩
  refine ⟨v, S', q, rfl, hr, ?_⟩
  have hwf' : WF w (fun _ => False) w' := ⟨hwf.size, fun k hk _ => hwf.same k hk (by rintro ⟨i, hi⟩; cases hi), hwf.tape, hwf.os, hwf.output⟩
  have hlt : ∀ k ∈ o, k < w.heap.size := fun k hk => by
    obtain ⟨ob, hob⟩ := h5.obj k hk
    exact (Array.getElem?_eq_some_iff.1 hob.1).1
  have hnw : ∀ k, k < w.heap.size → S' k ≠ none → S k ≠ none := fun k hk hs => by
    rcases hnew k hs with h | ⟨i, hi⟩ | h
    · exact h
    · cases hi
    · omega
  refine ⟨S', o, h1.trans hwf' (fun _ h => h.elim), h2.trans hSS, hSw, fun k hk => ?_, ?_, h6, fun k hk => ⟨?_, (h7 k hk).2⟩, fun p hp => ?_⟩
  · rcases hnew k hk with h | ⟨i, hi⟩ | h
    · exact h4 k h
    · cases hi
    · exact .inr (.inr (Nat.le_trans h1.size h))
  · obtain ⟨b, cs, E, fr, bs, rfl, e1, e2, e3, e4⟩ := h5
    refine ⟨b, cs, E, fr, bs, rfl, e1, ?_, e3, e4.mono hSS _ _ _ _ (fun k hk => hwf'.same k (hlt k (by simp [hk])) (fun h => h))⟩
    have := hwf'.same b (hlt b (by simp)) (fun h => h)
    simp only [hp] at e2 ⊢
    rw [this]; exact e2
  · cases hs : S' k with
    | none => rfl
    | some q => exact absurd (h7 k hk).1 (hnw k (hlt k hk) (by rw [hs]; simp))
  · obtain ⟨p1, p2, p3, p4⟩ := hL p hp
    have hl := (Array.getElem?_eq_some_iff.1 p4).1
    refine ⟨?_, p2, p3, ?_⟩
    · cases hs : S' p.1 with
      | none => rfl
      | some q => exact absurd p1 (hnw _ hl (by rw [hs]; simp))
    · rw [hwf'.same p.1 hl (fun h => h)]; exact p4

theorem args_box {S : Hp} {v : Value} {o : List Nat} {args : List A} {vals : List Value} (h5 : ARel (hp w) S (fun _ => undef) (.box t x) v o) (h6 : o.Nodup) (h7 : ∀ k ∈ o, S k = none) (hr0 : ArgsRel (hp w) S args vals (fun _ => [])) :
    ArgsRel (hp w) S (.box t x :: args) (v :: vals) (fun i => if i = 0 then o else []) := by
  refine ⟨by simp [hr0.len], fun i q hq => ?_, fun i hi => ?_, fun i j b hi hj => ?_, fun i => ?_, fun i b hb => ?_⟩
  · cases i with
    | zero =>
      simp at hq; subst hq
      exact ⟨⟨_, rfl, by simpa using h5⟩, rfl⟩
    | succ i =>
      obtain ⟨⟨v, hv, ha⟩, hrf⟩ := hr0.rel i q (by simpa using hq)
      exact ⟨⟨v, by simpa using hv, by simpa using ha⟩, hrf⟩
  · rw [if_neg (by intro e; subst e; simp at hi)]
  · by_cases hi0 : i = 0 <;> by_cases hj0 : j = 0 <;> simp_all
  · by_cases hi0 : i = 0 <;> simp [hi0, h6]
  · by_cases hi0 : i = 0
    · rw [if_pos hi0] at hb; exact h7 b hb
    · rw [if_neg hi0] at hb; cases hb

theorem BSt.alloc (h : BSt t w0 S0 ob0 bf w x L) (cs : Array Value) (E : Nat) : BSt t w0 S0 ob0 bf (w.alloc (.cells cs E)) x ((w.heap.size, cs, E) :: L) := by
  have hlt := h.lt
  obtain ⟨S, o, h1, h2, h3, h4, h5, h6, h7, hL⟩ := h
  have hh : (w.alloc (.cells cs E)).heap = w.heap.push (.cells cs E (0, 0)) := rfl
  have hk : ∀ k, k < w.heap.size → (w.alloc (.cells cs E)).heap[k]? = w.heap[k]? := fun k hk => by
    rw [hh, Array.getElem?_push, if_neg (by omega)]
  have hol : ∀ k ∈ o, k < w.heap.size := fun k hk => by
    obtain ⟨ob, hob⟩ := h5.obj k hk
    exact (Array.getElem?_eq_some_iff.1 hob.1).1
  refine ⟨S, o, ⟨by rw [hh, Array.size_push]; have := h1.size; omega, fun k h1' h2' => by rw [hk k (by have := h1.size; omega)]; exact h1.same k h1' h2', h1.tape, h1.os, h1.output⟩, h2, fun k q ho => ?_, h4, ?_, h6, h7, fun p hpm => ?_⟩
  · have := h3 k q ho
    simp only [hp] at this ⊢
    rw [hk k (Array.getElem?_eq_some_iff.1 this).1]
    exact this
  · obtain ⟨b, c1, E', fr, bs, rfl, e1, e2, e3, e4⟩ := h5
    refine ⟨b, c1, E', fr, bs, rfl, e1, ?_, e3, e4.mono (Sub.refl _) _ _ _ _ (fun k hkm => hk k (hol k (by simp [hkm])))⟩
    simp only [hp] at e2 ⊢
    rw [hk b (hol b (by simp))]; exact e2
  · rcases List.mem_cons.1 hpm with rfl | hpm
    · refine ⟨?_, fun hm => absurd (hol _ hm) (by simp), h1.size, ?_⟩
      · cases hs : S w.heap.size with
        | none => rfl
        | some q =>
          have := h3 _ _ hs
          simp only [hp] at this
          have := (Array.getElem?_eq_some_iff.1 this).1
          omega
      · simp only
        rw [hh, Array.getElem?_push, if_pos rfl]
    · obtain ⟨p1, p2, p3, p4⟩ := hL p hpm
      exact ⟨p1, p2, p3, by rw [hk p.1 (hlt p hpm)]; exact p4⟩

theorem BSt.put {p : Nat} {cs : Array Value} {E : Nat} (h : BSt t w0 S0 ob0 bf w x ((p, cs, E) :: L)) (hd : ∀ q ∈ L, q.1 ≠ p) {w' : World} {cs' : Array Value} (hw : w' = setObj' w p (.cells cs' E (0, 0))) : BSt t w0 S0 ob0 bf w' x ((p, cs', E) :: L) := by
  obtain ⟨S, o, h1, h2, h3, h4, h5, h6, h7, hL⟩ := h
  obtain ⟨q1, q2, q3, q4⟩ := hL (p, cs, E) (List.mem_cons_self ..)
  simp only at q1 q2 q3 q4
  have hne : ∀ k, k ≠ p → w'.heap[k]? = w.heap[k]? := fun k hk => by
    have := hp_setObj_ne (w := w) (o := .cells cs' E (0, 0)) hk
    rw [hw]; exact this
  have hsz : w'.heap.size = w.heap.size := by rw [hw]; simp [setObj']
  refine ⟨S, o, ⟨by rw [hsz]; exact h1.size, fun k h1' h2' => by rw [hne k (by omega)]; exact h1.same k h1' h2', by rw [hw]; exact h1.tape, by rw [hw]; exact h1.os, by rw [hw]; exact h1.output⟩, h2, fun k q ho => ?_, h4, ?_, h6, h7, fun u hu => ?_⟩
  · have hk : k ≠ p := fun e => by rw [e, q1] at ho; cases ho
    have := h3 k q ho
    simp only [hp] at this ⊢
    rw [hne k hk]
    exact this
  · obtain ⟨b, c1, E', fr, bs, rfl, e1, e2, e3, e4⟩ := h5
    refine ⟨b, c1, E', fr, bs, rfl, e1, ?_, e3, e4.mono (Sub.refl _) _ _ _ _ (fun k hkm => hne k (fun e => q2 (by simp [← e, hkm])))⟩
    simp only [hp] at e2 ⊢
    rw [hne b (fun e => q2 (by simp [← e]))]; exact e2
  · rcases List.mem_cons.1 hu with rfl | hu
    · refine ⟨q1, q2, q3, ?_⟩
      rw [hw]
      exact hp_setObj q4
    · obtain ⟨p1, p2, p3, p4⟩ := hL u (List.mem_cons_of_mem _ hu)
      exact ⟨p1, p2, p3, by rw [hne u.1 (hd u hu)]; exact p4⟩

theorem BSt.setCell {p : Nat} {cs : Array Value} {E : Nat} (h : BSt t w0 S0 ob0 bf w x ((p, cs, E) :: L)) (hd : ∀ q ∈ L, q.1 ≠ p) (i : Nat) (v : Value) :
    BSt t w0 S0 ob0 bf (w.setCell ⟨p, i, none⟩ v) x ((p, cs.setIfInBounds i v, E) :: L) := by
  have hb : hp w p = some (.cells cs E (0, 0)) := by
    obtain ⟨S, o, _, _, _, _, _, _, _, hL⟩ := h
    exact (hL _ (List.mem_cons_self ..)).2.2.2
  exact h.put hd (setCell_eq v hb)

end Go.Lift
