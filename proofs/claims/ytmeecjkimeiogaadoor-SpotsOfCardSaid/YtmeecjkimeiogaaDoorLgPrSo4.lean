import Derived.Test.YtmeecjkimeiogaaDoorLgW
import GoSem.ClaimJoined
import Derived.Test.YtmeecjkimeiogaaDoorLgPrSo3
set_option linter.all false
namespace Go.Lift
noncomputable section
open Go.RowKit Go.WideShapes

mutual
def SmN (m : Nat) : Tree -> Prop
  | .mk _ _ ks _ _ => ks.length <= m /\ z184 m ks
def z184 (m : Nat) : List Tree -> Prop
  | [] => True
  | x :: xs => SmN m x /\ z184 m xs
end

theorem zkm (m : Nat) : ∀ (xs : List Tree), z184 m xs ↔ ∀ x ∈ xs, SmN m x
  | [] => by rw [z184]; simp
  | x :: xs => by rw [z184, zkm m xs]; simp

theorem zcl {H : Type} {P : Program} {q : Nat -> Bool} : ∀ {ts : List TypeId} {ds : List (DataW H)} {i : Nat} {t : TypeId} {d : DataW H}, ts[i]? = some t -> ds[i]? = some d -> (DataW.weightsEach P ts ds).all q = true -> (d.weights P t).all q = true
  | [], ds, i, t, d, h, _, _ => by simp at h
  | _ :: _, [], i, t, d, _, h, _ => by simp at h
  | t0 :: ts, d0 :: ds, 0, t, d, h, h', hq => by
    rw [DataW.weightsEach, List.all_append, Bool.and_eq_true] at hq
    obtain rfl := Option.some.inj h
    obtain rfl := Option.some.inj h'
    exact hq.1
  | t0 :: ts, d0 :: ds, i + 1, t, d, h, h', hq => by
    rw [DataW.weightsEach, List.all_append, Bool.and_eq_true] at hq
    exact zcl (ts := ts) (ds := ds) (i := i) (by simpa using h) (by simpa using h') hq.2

theorem zi6 {H : Type} {P : Program} {q : Nat -> Bool} {e : TypeId} : ∀ {ds : List (DataW H)} {d : DataW H}, d ∈ ds -> (DataW.weightsAll P e ds).all q = true -> (d.weights P e).all q = true
  | d0 :: ds, d, h, hq => by
    rw [DataW.weightsAll, List.all_append, Bool.and_eq_true] at hq
    rcases List.mem_cons.1 h with rfl | h
    . exact hq.1
    . exact zi6 h hq.2

theorem zsa {S : Hp} : ∀ {ks : List Tree} {c1 : List Value} {i : Nat}, RdNs S ks c1 -> (h : i < ks.length) -> RdN S ks[i] ((c1.drop (i * 8)).take 8) /\ i * 8 + 8 <= c1.length
  | x :: xs, c1, 0, hr, _ => by
    rw [RdNs] at hr
    obtain ⟨a, b, rfl, h1, h2⟩ := hr
    have hl := RdN.length x a h1
    refine ⟨?_, by rw [List.length_append]; omega⟩
    rw [Nat.zero_mul, List.drop_zero, List.take_append_of_le_length (by omega), List.take_of_length_le (by omega)]
    exact h1
  | x :: xs, c1, i + 1, hr, h => by
    rw [RdNs] at hr
    obtain ⟨a, b, rfl, h1, h2⟩ := hr
    have hl := RdN.length x a h1
    have ih := zsa (i := i) h2 (by simpa using h)
    refine ⟨?_, by rw [List.length_append, Nat.add_mul]; omega⟩
    rw [show (i + 1) * 8 = 8 + i * 8 by omega, <- List.drop_drop, show List.drop 8 (a ++ b) = b by rw [<- hl, List.drop_left]]
    exact ih.1

theorem zri {H : Type} {enc : TypeId × Value -> H} {P : Program} {w : World} {base : Nat} {spare : Nat -> Bool} {held : Bool} {t : TypeId} {fs : Array Field} (ht : P.underlying t = some (.struct fs)) {f : Field} (hf : fs[2]? = some f) (hfo : f.offset = 5) (hfc : P.cellsOf f.type = 1) (hk : P.underlying f.type = some (.slice t)) (hs : P.cellsOf t = 8) (hb : 0 < P.bytesOf t) (m : Nat) :
    ∀ (fuel : Nat) (y : Tree) (cs : List Value) (x : DataW H × List MemPlace), RdN (hp w) y cs -> DataW.trod enc P w base spare held fuel t cs = some x -> (x.1.weights P t).all (· <= m) = true -> SmN m y
  | 0, y, cs, x, hr, h, hq => by simp [DataW.trod] at h
  | fuel + 1, .mk k st ks lo hi, cs, x, hr, h, hq => by
    obtain ⟨xs, n, e, rfl, hl, hxl, heach⟩ := DataW.trod_struct ht h
    obtain rfl : fuel = n := by omega
    rw [RdN] at hr
    obtain ⟨a, cap, rfl, hst, hcap, hks⟩ := hr
    have h2 := heach 2 f hf
    rw [hfo, hfc] at h2
    have hsz : 2 < fs.size := by
      rcases Nat.lt_or_ge 2 fs.size with h | h
      . exact h
      . rw [Array.getElem?_eq_none h] at hf; cases hf
    have hcell : (List.drop 5 (Value.int .i64 k :: (st.map (Value.int .u64) ++ [.slice a ks.length cap, .int .i64 lo, .int .i64 hi]))).take 1 = [.slice a ks.length cap] := by
      obtain ⟨a1, a2, a3, a4, rfl⟩ : ∃ a1 a2 a3 a4, st = [a1, a2, a3, a4] := by
        match st, hst with
        | [a1, a2, a3, a4], _ => exact ⟨a1, a2, a3, a4, rfl⟩
      rfl
    rw [hcell, List.getElem?_eq_getElem (by omega)] at h2
    -- what the kids weigh
    have hq2 : ((xs[2]'(by omega)).1.weights P f.type).all (· <= m) = true := by
      rw [DataW.weights, ht] at hq
      exact zcl (i := 2) (by rw [List.getElem?_map, Array.getElem?_toList, hf]; rfl) (by rw [List.getElem?_map, List.getElem?_eq_getElem (by omega)]; rfl) hq
    rw [SmN]
    rcases DataW.trod_slice hk h2 with ⟨e1, _⟩ | ⟨a', len, cap', elems, rest, n', rfl, e1, e2, _, _, _, hel, he, _⟩
    . injection e1 with e1 _
      injection e1 with _ e1 _
      have : ks = [] := List.eq_nil_of_length_eq_zero e1
      subst this
      exact ⟨by simp, by rw [z184]; trivial⟩
    . injection e1 with e1 _
      injection e1 with ea el _
      subst el
      rw [e2] at hq2
      dsimp only at hq2
      rw [DataW.weights, hk] at hq2
      dsimp only at hq2
      rw [List.all_cons, List.all_append, Bool.and_eq_true, Bool.and_eq_true] at hq2
      obtain ⟨hw1, hw2, _⟩ := hq2
      have hw1 := of_decide_eq_true hw1
      rw [List.length_map, hel] at hw1
      have hle : ks.length <= (ks.length + (rest.map (·.1)).length) * P.bytesOf t := Nat.le_trans (Nat.le_add_right _ _) (Nat.le_mul_of_pos_right _ hb)
      refine ⟨by omega, (zkm m ks).2 ?_⟩
      intro y hy
      obtain ⟨i, hi, rfl⟩ := List.getElem_of_mem hy
      rcases hks with rfl | ⟨b, off, c1, e3, hlies, hrd⟩
      . simp at hi
      . have hki := zsa hrd hi
        have hi' := he i hi
        rw [List.getElem?_eq_getElem (by omega)] at hi'
        obtain ⟨cs, hcs, htr⟩ := Option.bind_eq_some_iff.1 hi'
        rw [hs] at hcs
        obtain ⟨_, hcl, hcc⟩ := World.cells?_some hcs
        obtain rfl : a' = ⟨b, off, none⟩ := by rw [ea] at e3; exact Option.some.inj e3
        have ec : cs = (c1.drop (i * 8)).take 8 := by
          apply List.ext_getElem?
          intro j
          rcases Nat.lt_or_ge j 8 with hj | hj
          . have h5 := hcc j hj
            rw [add_plain, add_plain] at h5
            rw [<- h5, List.getElem?_take_of_lt hj, List.getElem?_drop, List.getElem?_eq_getElem (show i * 8 + j < c1.length by omega), Nat.add_assoc]
            exact za9 hlies (List.getElem?_eq_getElem (by omega))
          . rw [List.getElem?_eq_none (by omega), List.getElem?_eq_none (by rw [List.length_take]; omega)]
        have hmem : (elems[i]'(by omega)).1 ∈ elems.map (·.1) := List.mem_map.2 ⟨_, List.getElem_mem _, rfl⟩
        exact zri ht hf hfo hfc hk hs hb m n' ks[i] cs _ (by rw [ec]; exact hki.1) htr (zi6 hmem hw2)

theorem zp4 {H : Type} {enc : TypeId × Value -> H} {P : Program} {W : World} {base b0 : Nat} {r : Reach} {spare : Nat -> Bool} {held : Bool} {glob : Nat -> Option Dat} {f : FuncId} {us : List T} {ts : List TypeId} {m : Nat}
    {F : Nat -> zz (z8l us) -> Option Bool} {args : Array Value} {ds : List (DataW H)} {p : List MemPlace} (Q : zz (z8l us) -> Prop)
    (hm : zx4 P us ts = true) (hc : ∀ N, Contract P glob f (zu (z8l us) (F N) (z75 (.v .bool) m))) (hF : ∀ x, WfS us x -> Q x -> ∃ N, F N x = some true) (hg : GlobOk glob (hp W))
    (hval : ∀ (j : Nat) t v, ts[j]? = some t -> args[j]? = some v -> Value.okWide P W r b0 t v) (hA : DataW.TrodAll enc P W base spare held ts args.toList ds p)
    (hQ : ∀ x, ArgsRel (hp W) (hp W) (mkS (z8l us) 0 x) args.toList (fun _ => []) -> Q x) :
    Calls P f args W fun e w' => e = .returned (.bool true) /\ Below W.heap.size W w' := by
  obtain ⟨x, hx, hw⟩ := zqt (us := us) hm (fun j t v ht hv => hval j t v ht (by simpa using hv)) hA
  obtain ⟨N, hN⟩ := hF x hw (hQ x hx)
  exact z12t (hc N) (fun _ => rfl) hx hg hN zqa

theorem zta {H : Type} {enc : TypeId × Value -> H} {P : Program} {w : World} {base : Nat} {spare : Nat -> Bool} {held : Bool} {t : TypeId} {fs : Array Field} (ht : P.underlying t = some (.struct fs)) {f : Field} (hf : fs[2]? = some f) (hfo : f.offset = 5) (hfc : P.cellsOf f.type = 1) (hk : P.underlying f.type = some (.slice t)) (hs : P.cellsOf t = 8) (hb : 0 < P.bytesOf t) (m : Nat)
    {us : List T} {x : zz (z8l (NodT :: us))} {v : Value} {vs : List Value} (hx : ArgsRel (hp w) (hp w) (mkS (z8l (NodT :: us)) 0 x) (v :: vs) (fun _ => [])) {d : DataW H} {ps : List MemPlace} (hd : DataW.Trod enc P w base spare held t v d ps) (hq : (d.weights P t).all (· <= m) = true) : SmN m (foN x.1) := by
  obtain ⟨⟨v', e1, hv⟩, _⟩ := hx.rel 0 (.v NodT x.1) rfl
  obtain rfl : v = v' := Option.some.inj e1
  obtain ⟨cs, rfl, hr⟩ : VR (hp w) NodT x.1 v := hv.1
  obtain ⟨fuel, hf'⟩ := hd
  exact zri ht hf hfo hfc hk hs hb m fuel (foN x.1) _ _ ((zt6 (foN x.1) _).2 (by rw [z13r]; exact hr)) hf' hq
def nodB (P : Program) (t : TypeId) : Bool := match P.underlying t with
  | some (.struct fs) => match fs[2]? with
    | some f => decide (f.offset = 5) && (decide (P.cellsOf f.type = 1) && (decide (P.cellsOf t = 8) && (decide (0 < P.bytesOf t) && match P.underlying f.type with
      | some (.slice e) => Nat.beq e t
      | _ => false)))
    | none => false
  | _ => false

theorem z14n {P : Program} {t : TypeId} (h : nodB P t = true) : ∃ fs f, P.underlying t = some (.struct fs) /\ fs[2]? = some f /\ f.offset = 5 /\ P.cellsOf f.type = 1 /\ P.underlying f.type = some (.slice t) /\ P.cellsOf t = 8 /\ 0 < P.bytesOf t := by
  unfold nodB at h
  split at h
  . rename_i fs hu
    split at h
    . rename_i f hf
      rw [Bool.and_eq_true, Bool.and_eq_true, Bool.and_eq_true, Bool.and_eq_true] at h
      obtain ⟨h1, h2, h3, h4, h5⟩ := h
      split at h5
      . rename_i e he
        have := Nat.eq_of_beq_eq_true h5
        subst this
        exact ⟨fs, f, hu, hf, of_decide_eq_true h1, of_decide_eq_true h2, he, of_decide_eq_true h3, of_decide_eq_true h4⟩
      . cases h5
    . cases h
  . cases h

theorem zrj {H : Type} {enc : TypeId × Value -> H} {P : Program} {w : World} {base : Nat} {spare : Nat -> Bool} {held : Bool} {t : TypeId} (h : nodB P t = true) (m : Nat)
    {us : List T} {x : zz (z8l (NodT :: us))} {args : List Value} (hx : ArgsRel (hp w) (hp w) (mkS (z8l (NodT :: us)) 0 x) args (fun _ => [])) {ts ts' : List TypeId} {ds gs : List (DataW H)} {ps : List MemPlace} (hd : DataW.TrodAll enc P w base spare held (t :: ts) args ds ps) (hq : (DataW.weightsEach P ((t :: ts) ++ ts') (ds ++ gs)).all (· <= m) = true) : SmN m (foN x.1) := by
  obtain ⟨fs, f, h1, h2, h3, h4, h5, h6, h7⟩ := z14n h
  obtain ⟨v0, vs0, d0, ds0, p0, q0, rfl, rfl, rfl, h0, r0⟩ := Go.ChangeShapes.trodAll_cons hd
  exact zta h1 h2 h3 h4 h5 h6 h7 m hx h0 (zcl (i := 0) rfl rfl hq)

end
end Go.Lift

set_option linter.all false
set_option maxRecDepth 100000
namespace Go.Proofs.YtmeecjkimeiogaaDoorLg
noncomputable section
open Go Go.Lift Go.Proofs.YtmeecjkimeiogaaDoorPx

theorem zgu : ∀ {l : List Tree} {y : Tree}, zbi l = true -> y ∈ l -> z24 y = true
  | z :: zs, y, hl, hy => by
    rw [zbi, Bool.and_eq_true] at hl
    rcases List.mem_cons.1 hy with rfl | hy
    . exact hl.1
    . exact zgu hl.2 hy

theorem kinds {k : Int} {st : List Int} {ks : List Tree} {lo hi : Int} (h : shT k st ks lo hi = true) : (k = 1 /\ ks = []) \/ k = 2 \/ k = 3 \/ (k = 4 /\ z9l lo hi = true /\ ∃ kid, ks = [kid]) := by
  unfold shT at h
  by_cases h1 : k = 1
  . rw [if_pos h1, Bool.and_eq_true] at h
    exact .inl ⟨h1, List.eq_nil_of_length_eq_zero (by simpa using h.1)⟩
  rw [if_neg h1] at h
  by_cases h2 : k = 2
  . exact .inr (.inl h2)
  rw [if_neg h2] at h
  by_cases h3 : k = 3
  . exact .inr (.inr (.inl h3))
  rw [if_neg h3] at h
  by_cases h4 : k = 4
  . rw [if_pos h4, Bool.and_eq_true, Bool.and_eq_true] at h
    refine .inr (.inr (.inr ⟨h4, h.2.2, ?_⟩))
    cases ks with
    | nil => exact absurd h.2.1 (by simp)
    | cons a az => cases az with
      | nil => exact ⟨a, rfl⟩
      | cons b bs => exact absurd h.2.1 (by simp)
  rw [if_neg h4] at h
  exact absurd h (by decide)

theorem z109 (n : Nat) : (if (513 : Int) < (n : Int) then (513 : Int) else (n : Int)) = ((min 513 n : Nat) : Int) := by
  split <;> omega

theorem zn9 : ∀ (N : Nat) (x : Tree), z3j x < N -> WfN x -> z24 x = true -> z4p N (unN x) = some ((zgc x : Nat) : Int)
  | 0, x, h, _, _ => by omega
  | N + 1, .mk k st ks lo hi, h, hw, hr => by
    rw [z3j] at h
    rw [WfN] at hw
    rw [z24, Bool.and_eq_true] at hr
    have hlen := z9j ks
    have hm := hw.2.2.1.1
    have hs : ∀ x ∈ ks, z4p N (unN x) = some ((zgc x : Nat) : Int) := fun x hx => by
      have h1 := z79 hx
      exact zn9 N x (by omega) ((zcg ks).1 hw.2.2.1.2 x hx) (zgu hr.2 hx)
    show zc7 (N + 1) (z4p N) (k, (st, (ks, (lo, (hi, ()))))) = _
    unfold zc7 ze4 zi8
    dsimp only
    unfold zgc
    rw [zj]
    have loop := fun K a (ha : a <= 513) => zn8 (N := N + 1) (n := (k, (st, (ks, (lo, (hi, ())))))) hm hs K ks.length (N + 1) 0 a (by omega) (by omega) ha
    rcases kinds hr.1 with ⟨rfl, rfl⟩ | rfl | rfl | ⟨rfl, ht, kid, rfl⟩
    . refine (loop _ 1 (by omega)).trans ?_
      rfl
    . refine (loop _ 0 (by omega)).trans ?_
      rw [Nat.zero_add, List.drop_zero, zfu ks, if_neg (by decide), if_neg (by decide)]
      show some _ = _
      rw [z109]
      congr 2
      omega
    . refine (loop _ 0 (by omega)).trans ?_
      rw [Nat.zero_add, List.drop_zero, zfu ks, if_neg (by decide), if_neg (by decide)]
      show some _ = _
      rw [z109]
      congr 2
      omega
    . refine (loop _ 0 (by omega)).trans ?_
      rw [Nat.zero_add, List.drop_zero, if_neg (by decide), if_pos rfl, zar]
      have hc := zsu ht
      have h0 : min 513 (zq3 [kid]) <= 513 := by omega
      unfold ze3
      have hmul : (min 513 (zq3 [kid])) * zft lo hi <= 513 * 17 := Nat.mul_le_mul h0 hc.2.1
      have e := zz7 (a := min 513 (zq3 [kid])) (b := (z5e [kid]).length) (c := zft lo hi) (by have := zfu [kid]; omega) hc.2.2
      rw [show ((4 : Int) == (4 : Int)) = true from rfl, cond_true, zo4 ht, Option.bind_some, <- Int.natCast_mul, z4c (by unfold I64; omega)]
      show some _ = _
      rw [z109, e, Nat.mul_comm]

theorem zkc : ∀ (N : Nat) (x : Tree), z3j x < N -> WfN x -> SmN 140737488351232 x -> z24 x = true -> z1r N (unN x) = some ((zgc x : Nat) : Int)
  | 0, x, h, _, _, _ => by omega
  | N + 1, .mk k st ks lo hi, h, hw, hsm, hr => by
    rw [z3j] at h
    rw [WfN] at hw
    rw [SmN] at hsm
    rw [z24, Bool.and_eq_true] at hr
    have hlen := z9j ks
    have hm := hw.2.2.1.1
    have hs : ∀ x ∈ ks, z1r N (unN x) = some ((zgc x : Nat) : Int) := fun x hx => by
      have h1 := z79 hx
      exact zkc N x (by omega) ((zcg ks).1 hw.2.2.1.2 x hx) ((zkm _ ks).1 hsm.2 x hx) (zgu hr.2 hx)
    show z5p (N + 1) (z1r N) (k, (st, (ks, (lo, (hi, ()))))) = _
    unfold z5p zc2
    dsimp only
    unfold zgc
    rw [zj]
    have hle := z105 ks
    have loop := fun K => zo2 (N := N + 1) (k := k) (st := st) (lo := lo) (hi := hi) hm (by omega) hs K ks.length (N + 1) 0 0 (by omega) (by omega) (by rw [List.drop_zero]; omega)
    have fin : ∀ n : Nat, cond (decide ((513 : Int) < (n : Int))) (some (513 : Int)) (some (n : Int)) = some ((min 513 n : Nat) : Int) := fun n => by
      by_cases h : (513 : Int) < (n : Int)
      . rw [decide_eq_true h, cond_true]; congr 1; omega
      . rw [decide_eq_false h, cond_false]; congr 1; omega
    rcases kinds hr.1 with ⟨rfl, rfl⟩ | rfl | rfl | ⟨rfl, ht, kid, rfl⟩
    . rfl
    . refine (loop _).trans ?_
      rw [Nat.zero_add, List.drop_zero, if_neg (by decide), if_neg (by decide), <- zfu ks]
      exact fin _
    . refine (loop _).trans ?_
      rw [Nat.zero_add, List.drop_zero, if_neg (by decide), if_neg (by decide), <- zfu ks]
      exact fin _
    . refine (loop _).trans ?_
      rw [Nat.zero_add, List.drop_zero, if_neg (by decide), if_pos rfl, zar]
      have hc := zsu ht
      have ht' := ht
      unfold z9l at ht'
      have ht' := of_decide_eq_true ht'
      have hmul : zq3 [kid] * zft lo hi <= 513 * 17 := Nat.mul_le_mul (by simpa using hle) hc.2.1
      have e := zz7 (a := zq3 [kid]) (b := (z5e [kid]).length) (c := zft lo hi) (zfu [kid]) hc.2.2
      rw [Nat.mul_comm, <- e]
      unfold z7s z7r
      dsimp only
      rw [show ((4 : Int) == (4 : Int)) = true from rfl, cond_true, cond_true]
      by_cases eh : hi = -1
      . have ec : zft lo hi = lo.toNat + 1 := by unfold zft; rw [if_pos eh]
        rw [beq_iff_eq.2 eh, cond_true, z4c (x := lo + 1) (by unfold I64; omega), show lo + 1 = ((zft lo hi : Nat) : Int) by omega, <- Int.natCast_mul, z4c (by unfold I64; omega)]
        exact fin _
      . have ec : zft lo hi = hi.toNat := by unfold zft; rw [if_neg eh]
        rw [beq_eq_false_iff_ne.2 eh, cond_false, show ((zq3 [kid] : Nat) : Int) * hi = ((zq3 [kid] * zft lo hi : Nat) : Int) by rw [Int.natCast_mul, ec, Int.toNat_of_nonneg (by omega)], z4c (by unfold I64; omega)]
        exact fin _

theorem zva : ∀ (N : Nat) (x : Tree), z3j x + 1400 < N -> WfN x -> SmN 140737488351232 x -> z24 x = true -> z182 (z15 N) x
  | 0, x, h, _, _, _ => by omega
  | N + 1, .mk k st ks lo hi, h, hw, hsm, hr => by
    intro S R p hR hb
    rw [z3j] at h
    rw [WfN] at hw
    rw [SmN] at hsm
    rw [z24, Bool.and_eq_true] at hr
    have hlen := z9j ks
    have hm := hw.2.2.1.1
    have kidOk : ∀ x ∈ ks, z182 (z15 N) x /\ z24 x = true := by
      intro x hx
      have h1 := z79 hx
      exact ⟨zva N x (by omega) ((zcg ks).1 hw.2.2.1.2 x hx) ((zkm _ ks).1 hsm.2 x hx) (zgu hr.2 hx), zgu hr.2 hx⟩
    show z5o (N + 1) (z15 N) (k, (st, (ks, (lo, (hi, ()))))) (wrD S R p) = _
    unfold z5o
    dsimp only
    rw [mT]
    rw [zj] at hb ⊢
    dsimp only
    rcases kinds hr.1 with ⟨rfl, rfl⟩ | rfl | rfl | ⟨rfl, ht, kid, rfl⟩
    . rw [if_pos rfl] at hb
      rw [if_pos rfl, if_pos rfl, show ((1 : Int) == (1 : Int)) = true from rfl, cond_true]
      have hS : S.length <= 600 := by simp at hb; omega
      unfold wrD
      dsimp only
      rw [List.nil_append, List.nil_append, decide_eq_true (show (0 + S.length) * 32 <= 70368744177664 by omega), decide_eq_true (show (S.length + 1) * 32 <= 70368744177664 by omega), decide_eq_true (show (0 + R.length) * 24 <= 70368744177664 by omega), decide_eq_true (show (R.length + 1) * 24 <= 70368744177664 by omega)]
      rfl
    . rw [if_neg (by decide), if_neg (by decide)] at hb
      rw [if_neg (by decide), if_pos rfl, if_neg (by decide), if_neg (by decide)]
      unfold z3r z3q z7p
      have := z12i (N := N + 1) (by omega) hm (self := z15 N) (st := st) (lo := lo) (hi := hi) (x4 := (([] : List (List Int)), (([] : List (List Int)), (([] : List Int), (([] : List Int), (false, ())))))) hR ks.length (N + 1) 0 0 [] ([], z9k) (by omega) (by omega) (Gd.zero _ true) rfl kidOk (by rw [List.drop_zero]; omega)
      rw [List.drop_zero, List.append_nil, List.append_nil] at this
      exact this
    . rw [if_neg (by decide), if_neg (by decide)] at hb
      rw [if_neg (by decide), if_neg (by decide), if_pos rfl, if_neg (by decide), if_neg (by decide)]
      unfold z3r z3q z7p
      have := z12j (N := N + 1) (by omega) hm (self := z15 N) (st := st) (lo := lo) (hi := hi) (x4 := (([] : List (List Int)), (([] : List (List Int)), (([] : List Int), (([] : List Int), (false, ())))))) hR ks.length (N + 1) 0 0 [] ([], z16w) (by omega) (by omega) (Gd.zero _ false) rfl kidOk (by rw [List.drop_zero]; omega)
      rw [List.drop_zero, List.append_nil, List.append_nil] at this
      exact this
    . rw [if_neg (by decide), if_pos rfl, z5e, z5e, List.append_nil, zar] at hb
      simp only [show ¬ ((4 : Int) = 1) by decide, show ¬ ((4 : Int) = 2) by decide, show ¬ ((4 : Int) = 3) by decide, if_false, if_true]
      rw [z5e, z5e, List.append_nil, zw8]
      obtain ⟨hk, hkr⟩ := kidOk kid (by simp)
      have hf := zdk kid hkr
      have hc := zsu ht
      have ht' := ht
      unfold z9l at ht'
      have ht' := of_decide_eq_true ht'
      have hkn : z3j kid <= zni [kid] := z79 (by simp)
      have hcnt := zkc (N + 1) kid (by omega) ((zcg _).1 hw.2.2.1.2 kid (by simp)) ((zkm _ _).1 hsm.2 kid (by simp)) hkr
      have ei : inR (0 : Int) [kid].length = true := zk8 (Int.le_refl _) (by simp)
      have ek : [kid].getD 0 (Tree.mk (0 : Int) ([] : List Int) ([] : List Tree) (0 : Int) (0 : Int)) = kid := rfl
      unfold z3r z3q
      dsimp only
      rw [show ((4 : Int) == (1 : Int)) = false from rfl, show ((4 : Int) == (4 : Int)) = true from rfl, cond_false, cond_true, ei, ek, cond_true, hcnt, Option.bind_some, (hf S.length).len]
      by_cases e0 : (zj kid).length = 0
      . have ez : zgc kid = 0 := by unfold zgc; omega
        rw [beq_iff_eq.2 (show ((zgc kid : Nat) : Int) = 0 by omega), cond_true, if_pos e0, List.eq_nil_of_length_eq_zero e0, List.flatten_replicate_nil]
        unfold wrD z9k
        simp
      . have ez : zgc kid ≠ 0 := by unfold zgc; omega
        rw [beq_eq_false_iff_ne.2 (show ¬ ((zgc kid : Nat) : Int) = 0 by omega), cond_false, if_neg e0, cond_true]
        unfold zby
        have hlo : lo = ((lo.toNat : Nat) : Int) := by omega
        generalize hll : lo.toNat = ll at hlo hc
        subst hlo
        have hle : ll * (zj kid).length <= zft ll hi * (zj kid).length := Nat.mul_le_mul_right _ hc.1
        have h3 := zy8 (N := N + 1) (by omega) (k := 4) (st := st) (hi := hi) (lo := ll) (by omega) hk hkr (x4 := (([] : List (List Int)), (([] : List (List Int)), (([] : List Int), (([] : List Int), (false, ())))))) hR (by omega) (fun out => cond (hi != (-(1 : Int)))
          (((z29 (N + 1) (z15 N) (unN kid) out (IntKind.wrap IntKind.i64 (hi - (ll : Int)))).bind fun y =>
              (z1l (N + 1) out y).bind fun y1 =>
              some y1))
          ((z15 N (unN kid) out).bind fun y2 =>
              (z3n (N + 1) y2.2.1 y2.2.2.2.1 y2.2.2.1).bind fun y3 =>
              (z1l (N + 1) out (y2.1, (y3, (y2.2.2.1, (y2.2.2.2.1, (true, y2.2.2.2.2.2)))))).bind fun y4 =>
              some y4)) ll (N + 1) 0 ([], z9k) (by omega) (by omega) (by rw [Nat.zero_mul]; exact Gd.zero _ true)
        have s0 : wrD (S ++ z3c (zj kid) 0) (R ++ ([] : List (List Int))) z9k = (S, (R, (([] : List Int), (([] : List Int), (true, ()))))) := by
          unfold z3c wrD z9k; simp
        dsimp only at h3
        rw [s0] at h3
        refine h3.trans ?_
        have hq : Gd S.length (ll * (zj kid).length) (zm4 (mT kid) S.length ll ([], z9k)) := by
          have hq := Gd.req hf S.length ll 0 (Gd.zero S.length true)
          rw [Nat.zero_add] at hq
          exact hq
        have hq2 : (zm4 (mT kid) S.length ll ([], z9k)).1.length = ll * (zj kid).length := hq.len
        have el : (S ++ z3c (zj kid) ll).length = S.length + ll * (zj kid).length := by
          rw [List.length_append]; unfold z3c; rw [zar]
        have er : (R ++ (zm4 (mT kid) S.length ll ([], z9k)).1).length = S.length + ll * (zj kid).length := by
          rw [List.length_append, hq2, hR]
        unfold z14h
        dsimp only
        rw [Int.toNat_natCast, hq2]
        by_cases eh : hi = -1
        . have ec : zft ll hi = ll + 1 := by unfold zft; rw [if_pos eh]; omega
          rw [ec, Nat.add_mul, Nat.one_mul] at hb
          rw [show (hi != (-(1 : Int))) = false by rw [eh]; rfl, cond_false, if_pos eh, ec]
          have e1 := hk (S ++ z3c (zj kid) ll) (R ++ (zm4 (mT kid) S.length ll ([], z9k)).1) (zm4 (mT kid) S.length ll ([], z9k)).2 (by rw [el, er]) (by rw [el]; omega)
          rw [el] at e1
          rw [e1, Option.bind_some]
          have hg := hf (S.length + ll * (zj kid).length)
          have e2 := zwe (N := N + 1) (R := R ++ (zm4 (mT kid) S.length ll ([], z9k)).1) (w := (mT kid (S.length + ll * (zj kid).length)).1) (A := (mT kid (S.length + ll * (zj kid).length)).2.2.2.1) (B := (mT kid (S.length + ll * (zj kid).length)).2.2.1) (by omega) er (by rw [hg.len]; omega) (by rw [hg.len]; exact hg.lst) (by rw [hg.len]; exact hg.fst) (by rw [hg.len]; exact hg.rows)
          unfold wrD at e2 ⊢
          dsimp only at e2 ⊢
          rw [e2, Option.bind_some]
          have hs := zf2 (N := N + 1) (S0 := S ++ z3c (zj kid) ll) (R0 := R ++ (zm4 (mT kid) S.length ll ([], z9k)).1) (S := S ++ z3c (zj kid) ll ++ zj kid) (R := R) (by omega) hR.symm (by rw [List.length_append, el]; omega) (by omega) hq (Gd.loop hf (S.length + ll * (zj kid).length))
          rw [<- List.append_assoc] at hs
          have hs2 := congrArg (fun z => z.bind fun (y4 : WdT) => some y4) hs
          refine hs2.trans ?_
          rw [show (List.replicate (ll + 1) (zj kid)).flatten = z3c (zj kid) ll ++ zj kid from zla _ _, List.append_assoc]
          rfl
        . have ec : zft ll hi = ll + (hi - (ll : Int)).toNat := by unfold zft; rw [if_neg eh]; omega
          have en : hi - (ll : Int) = (((hi - (ll : Int)).toNat : Nat) : Int) := by omega
          generalize hnn : (hi - (ll : Int)).toNat = n at ec en
          rw [ec, Nat.add_mul] at hb
          rw [show (hi != (-(1 : Int))) = true by rw [bne_iff_ne]; exact eh, cond_true, if_neg eh, ec, en, z4c (x := (n : Int)) (by unfold I64; omega)]
          have e1 := zyo hk hkr n (N + 1) (S ++ z3c (zj kid) ll) (R ++ (zm4 (mT kid) S.length ll ([], z9k)).1) (zm4 (mT kid) S.length ll ([], z9k)).2 (by omega) (by rw [el, er]) (by rw [el]; omega) (by omega)
          rw [el] at e1
          rw [e1, Option.bind_some]
          have hs := zf2 (N := N + 1) (S0 := S ++ z3c (zj kid) ll) (R0 := R ++ (zm4 (mT kid) S.length ll ([], z9k)).1) (S := S ++ z3c (zj kid) ll ++ z3c (zj kid) n) (R := R) (by omega) hR.symm (by rw [List.length_append, el]; unfold z3c; rw [zar]; omega) (by omega) hq (Gd.tail hf n (S.length + ll * (zj kid).length))
          rw [<- List.append_assoc] at hs
          rw [hs, Option.bind_some]
          have ef : (List.replicate (ll + n) (zj kid)).flatten = z3c (zj kid) ll ++ z3c (zj kid) n := by
            unfold z3c; rw [<- List.replicate_append_replicate, List.flatten_append]
          rw [ef, List.append_assoc]

def ofM (x : Tree) : SpT × Int × Unit :=
 if z24 x = false then (([], (false, ([], ([], ([], ()))))), (7, ()))
 else if 512 < zgc x then (([], (false, ([], ([], ([], ()))))), (16, ()))
 else ((zj x, ((mT x 0).2.1, ((mT x 0).2.2.1, ((mT x 0).2.2.2.1, ((mT x 0).1, ()))))), (0, ()))

theorem zwo {N : Nat} {x : Tree} (h : z3j x + 1400 < N) (hw : WfN x) : zhq N (unN x) = some (ofM x) := by
  unfold zhq ofM
  rw [zj2 N x (by omega) hw, Option.bind_some]
  cases hr : z24 x with
  | false => rfl
  | true =>
    rw [zn9 N x (by omega) hw hr]
    by_cases hc : 512 < zgc x
    . rw [Option.bind_some, decide_eq_true (show (512 : Int) < ((zgc x : Nat) : Int) by omega), if_neg (by decide), if_pos hc]; rfl
    . rw [Option.bind_some, decide_eq_false (show ¬ (512 : Int) < ((zgc x : Nat) : Int) by omega), if_neg (by decide), if_neg hc]
      have hl : (zj x).length <= 512 := by unfold zgc at hc; omega
      have e := zsk N x (by omega) hw hr [] [] rfl (by rw [List.length_nil]; omega)
      rw [show ((([] : List (List Int)), (([] : List (List Int)), ()))) = ([], ([], ())) from rfl, e]
      rfl

theorem z11c {N : Nat} {x : Tree} (h : z3j x + 1400 < N) (hw : WfN x) (hsm : SmN 140737488351232 x) : z8i N (unN x) = some (ofM x) := by
  unfold z8i ofM
  rw [zj3 N x (by omega) hw, Option.bind_some]
  cases hr : z24 x with
  | false => rfl
  | true =>
    rw [zkc N x (by omega) hw hsm hr]
    by_cases hc : 512 < zgc x
    . rw [Option.bind_some, decide_eq_true (show (512 : Int) < ((zgc x : Nat) : Int) by omega), if_neg (by decide), if_pos hc]; rfl
    . rw [Option.bind_some, decide_eq_false (show ¬ (512 : Int) < ((zgc x : Nat) : Int) by omega), if_neg (by decide), if_neg hc]
      have hl : (zj x).length <= 512 := by unfold zgc at hc; omega
      have e := zva N x (by omega) hw hsm hr [] [] (false, ([], ([], ()))) rfl (by rw [List.length_nil]; omega)
      have e2 : z15 N (unN x) (([] : List (List Int)), (([] : List (List Int)), (([] : List Int), (([] : List Int), (false, ()))))) = _ := e
      rw [e2]
      rfl

theorem zqf {N : Nat} {x : Tree} (h : z3j x < N) (hw : WfN x) : z6o N (unN x) = some (if z24 x = true then ((zgc x : Nat) : Int) else 0) := by
  unfold z6o
  rw [zj2 N x h hw, Option.bind_some]
  cases hr : z24 x with
  | false => rfl
  | true => rw [zn9 N x h hw hr]; rfl

theorem ztj {N : Nat} {x : Tree} (h : z3j x < N) (hw : WfN x) (hsm : SmN 140737488351232 x) : z41 N (unN x) = some (if z24 x = true then ((zgc x : Nat) : Int) else 0) := by
  unfold z41
  rw [zj3 N x h hw, Option.bind_some]
  cases hr : z24 x with
  | false => rfl
  | true => rw [zkc N x h hw hsm hr]; rfl

theorem ziv {N : Nat} (l : List Int) (hN : l.length < N) (hl : l.length <= 10000) : z3m N l l = some true := by
  unfold z3m zd9
  rw [show (((l.length : Nat) : Int) != ((l.length : Nat) : Int)) = false by simp, cond_false]
  refine zl8 (fun v => ∃ i : Nat, v = (i : Int) /\ i <= l.length) (fun v => l.length - v.toNat) (fun _ => some true) ?_ N 0 ⟨0, rfl, by omega⟩ (by simp; omega)
  rintro v r ⟨i, rfl, hi⟩ hr
  unfold z8n
  rcases Nat.lt_or_ge i l.length with h | h
  . rw [z72 (decide_eq_true (by omega)), z72 (z4d h), z72 (z4d h), z4c (x := (i : Int) + 1) (by unfold I64; omega)]
    rw [show (l.getD (Int.toNat (i : Int)) 0 != l.getD (Int.toNat (i : Int)) 0) = false by simp, cond_false]
    exact hr _ ⟨i + 1, rfl, by omega⟩ (by simp only [Int.toNat_natCast]; omega)
  . rw [zgb (decide_eq_false (by omega))]

theorem zjl {N : Nat} (p : SpT) (hN : 1000 < N) (h1 : p.1.length <= 900) (h2 : p.2.2.1.length <= 900) (h3 : p.2.2.2.1.length <= 900) (h4 : p.2.2.2.2.1.length <= 900) (h5 : ∀ r ∈ p.2.2.2.2.1, r.length <= 900) : z4h N p p = some true := by
  unfold z4h z8s z8r
  rw [show (!(p.2.1 == p.2.1)) = false by simp, show (((p.1.length : Nat) : Int) != ((p.1.length : Nat) : Int)) = false by simp, show (((p.2.2.2.2.1.length : Nat) : Int) != ((p.2.2.2.2.1.length : Nat) : Int)) = false by simp, ziv p.2.2.1 (by omega) (by omega), ziv p.2.2.2.1 (by omega) (by omega)]
  simp only [cond_false, Option.bind_some, Bool.not_true]
  unfold zde
  refine zl8 (fun v => ∃ i : Nat, v = (i : Int) /\ i <= p.1.length) (fun v => p.1.length - v.toNat) (fun _ => some true) ?_ N 0 ⟨0, rfl, by omega⟩ (by simp; omega)
  rintro v r ⟨i, rfl, hi⟩ hr
  unfold z8q
  rcases Nat.lt_or_ge i p.1.length with h | h
  . rw [z72 (decide_eq_true (by omega)), z72 (z4d h), z72 (z4d h), z4c (x := (i : Int) + 1) (by unfold I64; omega)]
    show cond (!(eqD (T.arr 4 (T.int Go.IntKind.u64)) (p.1.getD (Int.toNat (i : Int)) ([] : List Int)) (p.1.getD (Int.toNat (i : Int)) ([] : List Int)))) (some false) (r ((i : Int) + 1)) = some true
    rw [show eqD (T.arr 4 (T.int Go.IntKind.u64)) (p.1.getD (Int.toNat (i : Int)) ([] : List Int)) (p.1.getD (Int.toNat (i : Int)) ([] : List Int)) = true from z11v (t := T.arr 4 (T.int Go.IntKind.u64)) rfl _, Bool.not_true, cond_false]
    exact hr _ ⟨i + 1, rfl, by omega⟩ (by simp only [Int.toNat_natCast]; omega)
  . rw [zgb (decide_eq_false (by omega))]
    unfold zdd
    refine zl8 (fun v => ∃ i : Nat, v = (i : Int) /\ i <= p.2.2.2.2.1.length) (fun v => p.2.2.2.2.1.length - v.toNat) (fun _ => some true) ?_ N 0 ⟨0, rfl, by omega⟩ (by simp; omega)
    rintro v r ⟨i, rfl, hi⟩ hr
    unfold z8p
    rcases Nat.lt_or_ge i p.2.2.2.2.1.length with h | h
    . rw [z72 (decide_eq_true (by omega)), z72 (z4d h), z72 (z4d h), z4c (x := (i : Int) + 1) (by unfold I64; omega)]
      have hm : p.2.2.2.2.1.getD (Int.toNat (i : Int)) [] ∈ p.2.2.2.2.1 := by
        rw [Int.toNat_natCast, List.getD_eq_getElem?_getD, List.getElem?_eq_getElem h]; exact List.getElem_mem _
      have hrl := h5 _ hm
      rw [ziv _ (by omega) (by omega), Option.bind_some, Bool.not_true, cond_false]
      exact hr _ ⟨i + 1, rfl, by omega⟩ (by simp only [Int.toNat_natCast]; omega)
    . rw [zgb (decide_eq_false (by omega))]

theorem z11j {N : Nat} (hN : 1000 < N) (x : Tree) : z4h N (ofM x).1 (ofM x).1 = some true := by
  unfold ofM
  split
  . exact zjl _ hN (by simp) (by simp) (by simp) (by simp) (fun r hr => by cases hr)
  . next hr =>
    split
    . exact zjl _ hN (by simp) (by simp) (by simp) (by simp) (fun r hr => by cases hr)
    . next hc =>
      have hl : (zj x).length <= 512 := by unfold zgc at hc; omega
      have g := zdk x (by simpa using hr) 0
      refine zjl _ hN (by dsimp only; omega) (by have := z3b g.fst (by omega); dsimp only; omega) (by have := z3b g.lst (by omega); dsimp only; omega) (by have := g.len; dsimp only; omega) (fun r hr => by have := z3b (g.rows r hr) (by omega); omega)

end
end Go.Proofs.YtmeecjkimeiogaaDoorLg

set_option linter.all false
set_option maxRecDepth 100000
namespace Go.Lift
noncomputable section


def BSt (t : T) (w0 : World) (S0 : Hp) (ob0 : List Nat) (bf : Nat) (w : World) (x : t.den) (L : List (Nat × Array Value × Nat)) : Prop :=
 ∃ S o, WF w0 (fun k => k ∈ ob0) w /\ Sub S0 S /\ Sub S (hp w) /\ (∀ k, S k ≠ none -> S0 k ≠ none \/ k ∈ ob0 \/ w0.heap.size <= k) /\ ARel (hp w) S (fun _ => undef) (.box t x) (.pointer (some ⟨bf, 0, none⟩)) o /\ o.Nodup ∧
 (∀ k ∈ o, S k = none /\ (k ∈ ob0 \/ w0.heap.size <= k)) /\ ∀ p ∈ L, S p.1 = none /\ p.1 ∉ o /\ w0.heap.size <= p.1 /\ w.heap[p.1]? = some (.cells p.2.1 p.2.2 (0, 0))

variable {P : Program} {glob : Nat -> Option Dat} {t : T} {w0 w : World} {S0 : Hp} {ob0 : List Nat} {bf : Nat} {x : t.den} {L : List (Nat × Array Value × Nat)}

theorem BSt.lt (h : BSt t w0 S0 ob0 bf w x L) : ∀ p ∈ L, p.1 < w.heap.size := by
  obtain ⟨S, o, _, _, _, _, _, _, _, hL⟩ := h
  exact fun p hp => (Array.getElem?_eq_some_iff.1 (hL p hp).2.2.2).1

theorem BSt.drew (h : BSt t w0 S0 ob0 bf w x L) : BSt t w0 S0 ob0 bf w.drew x L := by
  obtain ⟨S, o, k1, k2⟩ := h
  exact ⟨S, o, ⟨k1.size, k1.same, k1.tape, k1.os, k1.output⟩, k2⟩

theorem BSt.plain {f : FuncId} {g : List A -> Res} (ct : Contract P glob f g) (hg : ∀ S, GlobOk glob S) (h : BSt t w0 S0 ob0 bf w x L) {args : List A} {vals : List Value}
    (hrel : ∀ S, Sub S (hp w) -> ArgsRel (hp w) S args vals (fun _ => [])) {y : (g args).X} (hy : (g args).val = some y) :
    Calls P f vals.toArray w fun e w' => ∃ v S' o', e = .returned v /\ ARel (hp w') S' (fun _ => undef) ((g args).out y).1 v o' /\ BSt t w0 S0 ob0 bf w' x L := by
  have h' := h
  obtain ⟨S, o, h1, h2, h3, h4, h5, h6, h7, hL⟩ := h'
  refine ((ct.2 w S args vals _ (hrel S h3) h3 (hg S) y hy)).mono ?_
  rintro e w' ⟨v, S', q, ob', rfl, hwf, hSS, hSw, hnew, ⟨hr, _⟩, _⟩
  refine ⟨v, S', q, rfl, hr, ?_⟩
  have hwf' : WF w (fun _ => False) w' := ⟨hwf.size, fun k hk _ => hwf.same k hk (by rintro ⟨i, hi⟩; cases hi), hwf.tape, hwf.os, hwf.output⟩
  have hlt : ∀ k ∈ o, k < w.heap.size := fun k hk => by
    obtain ⟨ob, hob⟩ := h5.obj k hk
    exact (Array.getElem?_eq_some_iff.1 hob.1).1
  have hnw : ∀ k, k < w.heap.size -> S' k ≠ none -> S k ≠ none := fun k hk hs => by
    rcases hnew k hs with h | ⟨i, hi⟩ | h
    . exact h
    . cases hi
    . omega
  refine ⟨S', o, h1.trans hwf' (fun _ h => h.elim), h2.trans hSS, hSw, fun k hk => ?_, ?_, h6, fun k hk => ⟨?_, (h7 k hk).2⟩, fun p hp => ?_⟩
  . rcases hnew k hk with h | ⟨i, hi⟩ | h
    . exact h4 k h
    . cases hi
    . exact .inr (.inr (Nat.le_trans h1.size h))
  . obtain ⟨b, cs, E, fr, bs, rfl, e1, e2, e3, e4⟩ := h5
    refine ⟨b, cs, E, fr, bs, rfl, e1, ?_, e3, e4.mono hSS _ _ _ _ (fun k hk => hwf'.same k (hlt k (by simp [hk])) (fun h => h))⟩
    have := hwf'.same b (hlt b (by simp)) (fun h => h)
    simp only [hp] at e2 ⊢
    rw [this]; exact e2
  . cases hs : S' k with
    | none => rfl
    | some q => exact absurd (h7 k hk).1 (hnw k (hlt k hk) (by rw [hs]; simp))
  . obtain ⟨p1, p2, p3, p4⟩ := hL p hp
    have hl := (Array.getElem?_eq_some_iff.1 p4).1
    refine ⟨?_, p2, p3, ?_⟩
    . cases hs : S' p.1 with
      | none => rfl
      | some q => exact absurd p1 (hnw _ hl (by rw [hs]; simp))
    . rw [hwf'.same p.1 hl (fun h => h)]; exact p4

theorem z125 {S : Hp} {v : Value} {o : List Nat} {args : List A} {vals : List Value} (h5 : ARel (hp w) S (fun _ => undef) (.box t x) v o) (h6 : o.Nodup) (h7 : ∀ k ∈ o, S k = none) (hr0 : ArgsRel (hp w) S args vals (fun _ => [])) :
    ArgsRel (hp w) S (.box t x :: args) (v :: vals) (fun i => if i = 0 then o else []) := by
  refine ⟨by simp [hr0.len], fun i q hq => ?_, fun i hi => ?_, fun i j b hi hj => ?_, fun i => ?_, fun i b hb => ?_⟩
  . cases i with
    | zero =>
      simp at hq; subst hq
      exact ⟨⟨_, rfl, by simpa using h5⟩, rfl⟩
    | succ i =>
      obtain ⟨⟨v, hv, ha⟩, hrf⟩ := hr0.rel i q (by simpa using hq)
      exact ⟨⟨v, by simpa using hv, by simpa using ha⟩, hrf⟩
  . rw [if_neg (by intro e; subst e; simp at hi)]
  . by_cases hi0 : i = 0 <;> by_cases hj0 : j = 0 <;> simp_all
  . by_cases hi0 : i = 0 <;> simp [hi0, h6]
  . by_cases hi0 : i = 0
    . rw [if_pos hi0] at hb; exact h7 b hb
    . rw [if_neg hi0] at hb; cases hb

theorem BSt.alloc (h : BSt t w0 S0 ob0 bf w x L) (cs : Array Value) (E : Nat) : BSt t w0 S0 ob0 bf (w.alloc (.cells cs E)) x ((w.heap.size, cs, E) :: L) := by
  have hlt := h.lt
  obtain ⟨S, o, h1, h2, h3, h4, h5, h6, h7, hL⟩ := h
  have hh : (w.alloc (.cells cs E)).heap = w.heap.push (.cells cs E (0, 0)) := rfl
  have hk : ∀ k, k < w.heap.size -> (w.alloc (.cells cs E)).heap[k]? = w.heap[k]? := fun k hk => by
    rw [hh, Array.getElem?_push, if_neg (by omega)]
  have hol : ∀ k ∈ o, k < w.heap.size := fun k hk => by
    obtain ⟨ob, hob⟩ := h5.obj k hk
    exact (Array.getElem?_eq_some_iff.1 hob.1).1
  refine ⟨S, o, ⟨by rw [hh, Array.size_push]; have := h1.size; omega, fun k h1' h2' => by rw [hk k (by have := h1.size; omega)]; exact h1.same k h1' h2', h1.tape, h1.os, h1.output⟩, h2, fun k q ho => ?_, h4, ?_, h6, h7, fun p hpm => ?_⟩
  . have := h3 k q ho
    simp only [hp] at this ⊢
    rw [hk k (Array.getElem?_eq_some_iff.1 this).1]
    exact this
  . obtain ⟨b, c1, E', fr, bs, rfl, e1, e2, e3, e4⟩ := h5
    refine ⟨b, c1, E', fr, bs, rfl, e1, ?_, e3, e4.mono (Sub.refl _) _ _ _ _ (fun k hkm => hk k (hol k (by simp [hkm])))⟩
    simp only [hp] at e2 ⊢
    rw [hk b (hol b (by simp))]; exact e2
  . rcases List.mem_cons.1 hpm with rfl | hpm
    . refine ⟨?_, fun hm => absurd (hol _ hm) (by simp), h1.size, ?_⟩
      . cases hs : S w.heap.size with
        | none => rfl
        | some q =>
          have := h3 _ _ hs
          simp only [hp] at this
          have := (Array.getElem?_eq_some_iff.1 this).1
          omega
      . simp only
        rw [hh, Array.getElem?_push, if_pos rfl]
    . obtain ⟨p1, p2, p3, p4⟩ := hL p hpm
      exact ⟨p1, p2, p3, by rw [hk p.1 (hlt p hpm)]; exact p4⟩

theorem BSt.put {p : Nat} {cs : Array Value} {E : Nat} (h : BSt t w0 S0 ob0 bf w x ((p, cs, E) :: L)) (hd : ∀ q ∈ L, q.1 ≠ p) {w' : World} {cs' : Array Value} (hw : w' = z1q w p (.cells cs' E (0, 0))) : BSt t w0 S0 ob0 bf w' x ((p, cs', E) :: L) := by
  obtain ⟨S, o, h1, h2, h3, h4, h5, h6, h7, hL⟩ := h
  obtain ⟨q1, q2, q3, q4⟩ := hL (p, cs, E) (List.mem_cons_self ..)
  simp only at q1 q2 q3 q4
  have hne : ∀ k, k ≠ p -> w'.heap[k]? = w.heap[k]? := fun k hk => by
    have := zr (w := w) (o := .cells cs' E (0, 0)) hk
    rw [hw]; exact this
  have hsz : w'.heap.size = w.heap.size := by rw [hw]; simp [z1q]
  refine ⟨S, o, ⟨by rw [hsz]; exact h1.size, fun k h1' h2' => by rw [hne k (by omega)]; exact h1.same k h1' h2', by rw [hw]; exact h1.tape, by rw [hw]; exact h1.os, by rw [hw]; exact h1.output⟩, h2, fun k q ho => ?_, h4, ?_, h6, h7, fun u hu => ?_⟩
  . have hk : k ≠ p := fun e => by rw [e, q1] at ho; cases ho
    have := h3 k q ho
    simp only [hp] at this ⊢
    rw [hne k hk]
    exact this
  . obtain ⟨b, c1, E', fr, bs, rfl, e1, e2, e3, e4⟩ := h5
    refine ⟨b, c1, E', fr, bs, rfl, e1, ?_, e3, e4.mono (Sub.refl _) _ _ _ _ (fun k hkm => hne k (fun e => q2 (by simp [<- e, hkm])))⟩
    simp only [hp] at e2 ⊢
    rw [hne b (fun e => q2 (by simp [<- e]))]; exact e2
  . rcases List.mem_cons.1 hu with rfl | hu
    . refine ⟨q1, q2, q3, ?_⟩
      rw [hw]
      exact z2s q4
    . obtain ⟨p1, p2, p3, p4⟩ := hL u (List.mem_cons_of_mem _ hu)
      exact ⟨p1, p2, p3, by rw [hne u.1 (hd u hu)]; exact p4⟩

theorem BSt.setCell {p : Nat} {cs : Array Value} {E : Nat} (h : BSt t w0 S0 ob0 bf w x ((p, cs, E) :: L)) (hd : ∀ q ∈ L, q.1 ≠ p) (i : Nat) (v : Value) :
    BSt t w0 S0 ob0 bf (w.setCell ⟨p, i, none⟩ v) x ((p, cs.setIfInBounds i v, E) :: L) := by
  have hb : hp w p = some (.cells cs E (0, 0)) := by
    obtain ⟨S, o, _, _, _, _, _, _, _, hL⟩ := h
    exact (hL _ (List.mem_cons_self ..)).2.2.2
  exact h.put hd (zpe v hb)

end
end Go.Lift
