import Derived.Test.YtbkackmlmccpjaaDoorLgPrlabelsback6
import Derived.Test.YtbkackmlmccpjaaDoorLgW
import Derived.LaidLaws
set_option linter.all false
namespace Go.Proofs.YtbkackmlmccpjaaDoorPx
open Go Go.Lift

theorem mapM_some {α β : Type} {f : α → Option β} : ∀ {l : List α} {ys : List β}, l.mapM f = some ys → ys.length = l.length ∧ ∀ i, (h : i < l.length) → ∃ y, ys[i]? = some y ∧ f l[i] = some y
  | [], ys, h => by simp at h; subst h; simp
  | a :: l, ys, h => by
    simp only [List.mapM_cons, Option.pure_def, Option.bind_eq_bind, Option.bind_eq_some_iff, Option.some.injEq] at h
    obtain ⟨y, hy, zs, hz, rfl⟩ := h
    obtain ⟨h1, h2⟩ := mapM_some hz
    refine ⟨by simp [h1], fun i hi => ?_⟩
    cases i with
    | zero => exact ⟨y, rfl, hy⟩
    | succ i =>
      obtain ⟨z, e1, e2⟩ := h2 i (by simpa using hi)
      exact ⟨z, by simpa using e1, by simpa using e2⟩

theorem int_of_trod {H : Type} {enc : TypeId × Value → H} {P : Program} {w : World} {base : Nat} {sp : Nat → Bool} {held : Bool} {fuel : Nat} {t : TypeId} {k : IntKind} {c : Value} {y : DataW H × List MemPlace}
    (ht : P.underlying t = some (.int k)) (h : DataW.trod enc P w base sp held fuel t [c] = some y) : ∃ n, c = .int k n ∧ y = (.lit (.int k n), []) := by
  cases fuel with
  | zero => simp [DataW.trod] at h
  | succ fuel =>
    cases c <;> simp [DataW.trod, ht] at h
    rename_i k' n
    obtain ⟨⟨rfl, _⟩, rfl⟩ := h
    exact ⟨n, rfl, rfl⟩

theorem ints_of_trod {P : Program} {w : World} {base : Nat} {sp : Nat → Bool} {held : Bool} {fuel : Nat} {t e : TypeId} {k : IntKind} {n : Nat} {cs : List Value} {ns : List Int} {p : List MemPlace}
    (ht : P.underlying t = some (.array n e)) (he : P.underlying e = some (.int k)) (hc : P.cellsOf e = 1) (hct : P.cellsOf t = n)
    (h : DataW.trod (fun _ => ()) P w base sp held fuel t cs = some (.agg (ns.map fun i => .lit (.int k i)), p)) : cs = ns.map (fun i => .int k i) ∧ ns.length = n := by
  cases fuel with
  | zero => simp [DataW.trod] at h
  | succ fuel =>
    simp only [DataW.trod, ht, hc, hct] at h
    split at h
    · rename_i hl
      simp only [Option.map_eq_some_iff] at h
      obtain ⟨xs, hm, hx⟩ := h
      obtain ⟨h1, h2⟩ := mapM_some hm
      simp only [Prod.mk.injEq, DataW.agg.injEq] at hx
      have hlen : ns.length = n := by
        have := congrArg List.length hx.1
        simp only [List.length_map, List.length_range] at this h1
        omega
      refine ⟨List.ext_getElem? fun i => ?_, hlen⟩
      by_cases hi : i < n
      · obtain ⟨y, e1, e2⟩ := h2 i (by simpa using hi)
        have hci : (cs.drop (i * 1)).take 1 = [cs[i]'(by omega)] := by
          rw [Nat.mul_one, List.drop_eq_getElem_cons (by omega : i < cs.length)]; rfl
        simp only [List.getElem_range] at e2
        rw [hci] at e2
        obtain ⟨m, hm1, hm2⟩ := int_of_trod he e2
        have hy : (xs.map (·.1))[i]? = some (.lit (.int k m)) := by rw [List.getElem?_map, e1, hm2]; rfl
        rw [hx.1, List.getElem?_map] at hy
        have hn : ns[i]? = some (ns[i]'(by omega)) := List.getElem?_eq_getElem (by omega)
        rw [hn] at hy
        simp only [Option.map_some, Option.some.injEq, DataW.lit.injEq, Lit.int.injEq, true_and] at hy
        rw [List.getElem?_eq_getElem (by omega : i < cs.length), hm1, List.getElem?_map, hn, Option.map_some, hy]
      · rw [List.getElem?_eq_none (by omega), List.getElem?_eq_none (by rw [List.length_map]; omega)]
    · cases h

theorem All_ints (S : Hp) (k : IntKind) : ∀ ns : List Int, All (Rd S (.int k)) ns (ns.map fun i => .int k i)
  | [] => rfl
  | x :: r => ⟨[.int k x], _, rfl, rfl, All_ints S k r⟩

theorem glob_ints {P : Program} {W : World} {name : String} {g : Nat} {t e : TypeId} {k : IntKind} {n : Nat} {ns : List Int} {r : List (String × DataW Unit)} {ps : List MemPlace}
    (hg : P.globalNamed name = some g) (hty : (P.globals[g]?).map (·.type) = some t) (ht : P.underlying t = some (.array n e)) (he : P.underlying e = some (.int k)) (hc : P.cellsOf e = 1) (hct : P.cellsOf t = n)
    (h : DataW.LaidVars P W ((name, .agg (ns.map fun i => .lit (.int k i))) :: r) ps) :
    VR (hp W) (.ptr (.arr n (.int k))) ns (.pointer (some ⟨g, 0, none⟩)) ∧ ∃ q, DataW.LaidVars P W r q := by
  obtain ⟨g', t', cs, fuel, p, q, e1, e2, e3, e4, e5, _⟩ := h
  obtain rfl := Option.some.inj (hg.symm.trans e1)
  obtain rfl := Option.some.inj (hty.symm.trans e2)
  obtain ⟨h1, h2⟩ := ints_of_trod ht he hc hct e4
  refine ⟨?_, q, e5⟩
  simp only [World.var?, hg, Option.bind_some] at e3
  split at e3
  · rename_i cs' t2 fr hh
    simp only [Option.some.injEq] at e3
    subst e3
    refine VR.of_one rfl ⟨g, 0, cs'.toList, rfl, ⟨cs', t2, fr, [], [], hh, by simp, rfl⟩, ?_⟩
    rw [h1]
    exact ⟨h2, All_ints _ _ _⟩
  · cases e3

end Go.Proofs.YtbkackmlmccpjaaDoorPx

set_option linter.all false
namespace Go.Proofs.YtbkackmlmccpjaaDoorPx
open Go Go.Lift

theorem pair_of_trod {P : Program} {w : World} {base : Nat} {sp : Nat → Bool} {held : Bool} {fuel : Nat} {e : TypeId} {f0 f1 : Field} {k : IntKind} {a b : Int} {cs : List Value} {p : List MemPlace}
    (he : P.underlying e = some (.struct #[f0, f1])) (h0 : P.underlying f0.type = some (.int k)) (h1 : P.underlying f1.type = some (.int k)) (o0 : f0.offset = 0) (o1 : f1.offset = 1) (c0 : P.cellsOf f0.type = 1) (c1 : P.cellsOf f1.type = 1) (ce : P.cellsOf e = 2)
    (h : DataW.trod (fun _ => ()) P w base sp held fuel e cs = some (.agg [.lit (.int k a), .lit (.int k b)], p)) : cs = [.int k a, .int k b] := by
  cases fuel with
  | zero => simp [DataW.trod] at h
  | succ fuel =>
    simp only [DataW.trod, he, ce] at h
    split at h
    · rename_i hl
      obtain ⟨x, y, rfl⟩ : ∃ x y, cs = [x, y] := by
        match cs, hl with
        | [x, y], _ => exact ⟨x, y, rfl⟩
      simp only [o0, o1, c0, c1, List.mapM_cons, List.mapM_nil, Option.map_eq_some_iff, Option.bind_eq_bind, Option.bind_eq_some_iff, Option.pure_def, Option.some.injEq, List.drop_zero, List.drop_succ_cons, List.take_succ_cons, List.take_zero] at h
      obtain ⟨xs, ⟨y0, g0, _, ⟨y1, g1, _, rfl, rfl⟩, rfl⟩, hx⟩ := h
      obtain ⟨n0, rfl, rfl⟩ := int_of_trod h0 g0
      obtain ⟨n1, rfl, rfl⟩ := int_of_trod h1 g1
      simp at hx
      obtain ⟨⟨rfl, rfl⟩, _⟩ := hx
      rfl
    · cases h

abbrev pairT (k : IntKind) : T := .pair (.int k) (.pair (.int k) .unit)

theorem All_pairs (S : Hp) (k : IntKind) : ∀ (l : List (Int × (Int × Unit))) (cs : List Value), cs.length = 2 * l.length → (∀ i, (h : i < l.length) → (cs.drop (i * 2)).take 2 = [.int k (l[i]).1, .int k (l[i]).2.1]) → All (Rd S (pairT k)) l cs
  | [], cs, hl, _ => List.length_eq_zero_iff.1 (by simpa using hl)
  | x :: r, cs, hl, h => by
    refine ⟨cs.take 2, cs.drop 2, (List.take_append_drop 2 cs).symm, ?_, All_pairs S k r (cs.drop 2) (by simp at hl ⊢; omega) fun i hi => ?_⟩
    · have := h 0 (by simp)
      simp only [Nat.zero_mul, List.drop_zero, List.getElem_cons_zero] at this
      rw [this]
      exact ⟨[_], [_], rfl, rfl, [_], [], rfl, rfl, rfl⟩
    · have := h (i + 1) (by simpa using hi)
      simp only [List.getElem_cons_succ] at this
      rw [List.drop_drop, show 2 + i * 2 = (i + 1) * 2 by omega]
      exact this

theorem glob_pairs {P : Program} {W : World} {name : String} {g : Nat} {t e : TypeId} {f0 f1 : Field} {k : IntKind} {n : Nat} {l : List (Int × (Int × Unit))} {r : List (String × DataW Unit)} {ps : List MemPlace}
    (hg : P.globalNamed name = some g) (hty : (P.globals[g]?).map (·.type) = some t) (ht : P.underlying t = some (.array n e)) (he : P.underlying e = some (.struct #[f0, f1])) (h0 : P.underlying f0.type = some (.int k)) (h1 : P.underlying f1.type = some (.int k)) (o0 : f0.offset = 0) (o1 : f1.offset = 1) (c0 : P.cellsOf f0.type = 1) (c1 : P.cellsOf f1.type = 1) (ce : P.cellsOf e = 2) (ct : P.cellsOf t = 2 * n)
    (h : DataW.LaidVars P W ((name, .agg (l.map fun x => .agg [.lit (.int k x.1), .lit (.int k x.2.1)])) :: r) ps) :
    VR (hp W) (.ptr (.arr n (pairT k))) l (.pointer (some ⟨g, 0, none⟩)) ∧ ∃ q, DataW.LaidVars P W r q := by
  obtain ⟨g', t', cs, fuel, p, q, e1, e2, e3, e4, e5, _⟩ := h
  obtain rfl := Option.some.inj (hg.symm.trans e1)
  obtain rfl := Option.some.inj (hty.symm.trans e2)
  refine ⟨?_, q, e5⟩
  simp only [World.var?, hg, Option.bind_some] at e3
  split at e3
  case h_2 => cases e3
  rename_i cs' t2 fr hh
  simp only [Option.some.injEq] at e3
  subst e3
  cases fuel with
  | zero => simp [DataW.trod] at e4
  | succ fuel =>
    simp only [DataW.trod, ht, ce, ct] at e4
    split at e4
    case isFalse => cases e4
    rename_i hlen
    simp only [Option.map_eq_some_iff] at e4
    obtain ⟨xs, hm, hx⟩ := e4
    obtain ⟨m1, m2⟩ := mapM_some hm
    simp only [Prod.mk.injEq, DataW.agg.injEq] at hx
    have hl : l.length = n := by
      have := congrArg List.length hx.1
      simp only [List.length_map, List.length_range] at this m1
      omega
    refine VR.of_one rfl ⟨g, 0, cs'.toList, rfl, ⟨cs', t2, fr, [], [], hh, by simp, rfl⟩, hl, All_pairs (hp W) k l cs'.toList (by omega) fun i hi => ?_⟩
    obtain ⟨y, y1, y2⟩ := m2 i (by simp; omega)
    simp only [List.getElem_range] at y2
    have hy : (xs.map (·.1))[i]? = some y.1 := by rw [List.getElem?_map, y1]; rfl
    rw [hx.1, List.getElem?_map, List.getElem?_eq_getElem hi, Option.map_some, Option.some.injEq] at hy
    obtain ⟨y0, yp⟩ := y
    dsimp only at hy
    subst hy
    exact pair_of_trod he h0 h1 o0 o1 c0 c1 ce y2

end Go.Proofs.YtbkackmlmccpjaaDoorPx
