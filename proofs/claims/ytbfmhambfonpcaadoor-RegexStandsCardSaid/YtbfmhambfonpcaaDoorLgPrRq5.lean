import Derived.Test.YtbfmhambfonpcaaDoorLgPrRq4
set_option linter.all false
set_option maxRecDepth 100000
namespace Go.Proofs.YtbfmhambfonpcaaDoorLg
noncomputable section
open Go Go.Lift Go.Proofs.YtbfmhambfonpcaaDoorPx

theorem z18p (pre s post : List UInt8) {a : Nat} (h : a < s.length) : gb ((pre ++ s) ++ post) (a + pre.length) = gb s a := by
  unfold gb
  congr 1
  simp only [List.getD_eq_getElem?_getD]
  rw [List.getElem?_append_left (by rw [List.length_append]; omega), List.getElem?_append_right (by omega), Nat.add_sub_cancel]

theorem zq4 (l post : List UInt8) (b : UInt8) : gb (l ++ b :: post) l.length = b.toNat := by
  unfold gb
  simp only [List.getD_eq_getElem?_getD]
  rw [List.getElem?_append_right (Nat.le_refl _), Nat.sub_self]
  rfl

theorem z12o (pre s post : List UInt8) (h : post = [] \/ ∃ b r, post = b :: r /\ (b = 41 \/ b = 124)) : Cx s ((pre ++ s) ++ post) pre.length where
  len := by simp only [List.length_append]; omega
  at_ a ha := z18p pre s post ha
  end_ hl := by
    rcases h with rfl | ⟨b, r, rfl, hb⟩
    . simp only [List.length_append, List.length_nil] at hl; omega
    . have q := zq4 (pre ++ s) r b
      rw [List.length_append, Nat.add_comm] at q
      rw [q]
      rcases hb with rfl | rfl
      . exact Or.inl rfl
      . exact Or.inr rfl

theorem zig {s : List UInt8} {t : Tree} {b : Nat} (h : z3y s = .ok t b) : s.length <= 256 /\ b = s.length /\ zax s 16 0 = .ok t s.length := by
  unfold z3y at h
  split at h
  . cases h
  . rename_i hl
    cases hq : zax s 16 0 with
    | bad e c => rw [hq] at h; cases h
    | ok x c =>
      rw [hq] at h
      simp only [PR.next] at h
      have hc := zw (z9i s 16 0 (by omega)) hq
      split at h
      . cases h
      . cases h
        obtain rfl : b = s.length := by omega
        exact ⟨by omega, rfl, rfl⟩

theorem zrs {s : List UInt8} (hs : s.length <= 256) {t : Tree} (h : zax s 16 0 = .ok t s.length) : z3y s = .ok t s.length := by
  unfold z3y
  rw [if_neg (by omega), h]
  simp only [PR.next]
  rw [if_neg (by omega)]

theorem zv0 {s : List UInt8} (hs : s.length <= 256) {c : Nat} (h : zax s 16 0 = .bad 3 c) : z3y s = .bad 3 c := by
  unfold z3y
  rw [if_neg (by omega), h]
  rfl

theorem znr {s : List UInt8} (hs : s.length <= 256) {e : Int} {b : Nat} (h : z3y s = .bad e b) : (e != 0) = true /\ b <= s.length := by
  unfold z3y at h
  rw [if_neg (by omega)] at h
  have z := z1b2 s 16 0 (by omega)
  have ha := z9i s 16 0 (by omega)
  cases hq : zax s 16 0 with
  | bad e' c =>
    rw [hq] at h z ha
    cases h
    exact ⟨z, ha⟩
  | ok x c =>
    rw [hq] at h
    simp only [PR.next] at h
    split at h
    . cases h; exact ⟨rfl, by omega⟩
    . cases h

theorem zj7 {s : List UInt8} {t : Tree} {b : Nat} (h : z3y s = .ok t b) : z1t t = true := zp4 s 16 0 t _ (zig h).2.2

theorem zuz {s : List UInt8} (hs : s.length <= 100) {t : Tree} {b : Nat} (h : z3y s = .ok t b) : (∃ c, z3y (([(40 : UInt8)] ++ s) ++ [(41 : UInt8)]) = .ok t c) \/ ∃ c, z3y (([(40 : UInt8)] ++ s) ++ [(41 : UInt8)]) = .bad 3 c := by
  obtain ⟨_, _, ha⟩ := zig h
  have hr := zj7 h
  have cx := z12o [(40 : UInt8)] s [(41 : UInt8)] (Or.inr ⟨41, [], rfl, Or.inl rfl⟩)
  have hlen : (([(40 : UInt8)] ++ s) ++ [(41 : UInt8)]).length = s.length + 2 := by simp
  have h0 : gb (([(40 : UInt8)] ++ s) ++ [(41 : UInt8)]) 0 = 40 := rfl
  have he : gb (([(40 : UInt8)] ++ s) ++ [(41 : UInt8)]) (s.length + 1) = 41 := by
    have q := zq4 ([(40 : UInt8)] ++ s) [] 41
    rw [List.length_append, Nat.add_comm] at q
    exact q
  generalize ([(40 : UInt8)] ++ s) ++ [(41 : UInt8)] = S at *
  have hb : isB S (s.length + 1) 124 = false := by simp [isB, he]
  have hst : zbl S 0 = false := by simp [zbl, h0, hlen]
  have hst2 : zbl S (s.length + 2) = true := by simp [zbl, hlen]
  have hb2 : isB S (s.length + 2) 124 = false := by simp [isB, hlen]
  have hk : ∀ (r : PR Tree), zax S 15 1 = r -> zax S 16 0 = (r.next fun t a1 => (zaq S a1 41).next fun _ a2 => .ok t a2).next fun t a1 => ((if a1 < S.length then
      if gb S a1 = 43 then .ok (zpf t 1 (-1)) (a1 + 1)
      else if gb S a1 = 42 then .ok (zpf t 0 (-1)) (a1 + 1)
      else if gb S a1 = 63 then .ok (zpf t 0 1) (a1 + 1)
      else if gb S a1 = 123 then (z8z S (a1 + 1)).next fun lh a2 => .ok (zpf t lh.1 lh.2) a2
      else .ok t a1
    else .ok t a1 : PR Tree).next fun t a1 => zcm (z9t S 16) S (s.length + 2) a1 ([] ++ [t])).next fun t a1 => zco (z9t S 16) S (S.length + 1) a1 [t] := by
    intro r e
    rw [ze7, hlen, zcm, hst, if_neg (by simp)]
    unfold zb4 zcn
    rw [if_pos h0]
    rw [show (0 + 1) = 1 from rfl]
    show ((((zax S 15 1).next _).next _).next _).next _ = _
    rw [e, hlen]
    simp only [znt]
  rcases cx.alt (D := True) 16 15 (Or.inr trivial) 0 (by omega) t s.length ha (Or.inr hb) with q | ⟨_, c, q⟩
  . left
    refine ⟨S.length, zrs (by omega) ?_⟩
    rw [hk _ q]
    simp only [PR.next, List.length_singleton]
    rw [zmi (by omega) he]
    simp only [PR.next]
    rw [if_neg (by omega)]
    simp only [PR.next]
    rw [zcm, hst2, if_pos rfl]
    simp only [PR.next, List.nil_append]
    rw [zo6 (Or.inl rfl) hr, zco, hb2, if_neg (by simp), zo6 (Or.inr rfl) hr, hlen]
  . right
    refine ⟨c, zv0 (by omega) ?_⟩
    rw [hk _ q]
    rfl

theorem Cx.sub {s S : List UInt8} {p : Nat} (h : Cx s S p) {D : Prop} {d d' : Nat} (hd : d <= d' \/ D) : z13g D s p (z9t s d) (z9t S d') := by
  intro f e
  cases d with
  | zero => cases e
  | succ d =>
    cases e
    cases d' with
    | zero =>
      refine Or.inl ⟨rfl, ?_⟩
      rcases hd with hd | hd
      . omega
      . exact hd
    | succ d' =>
      refine Or.inr ⟨_, rfl, fun a ha x b e hb => h.alt d d' ?_ a ha x b e (Or.inl hb)⟩
      rcases hd with hd | hd
      . exact Or.inl (by omega)
      . exact Or.inr hd

theorem zp5 {s : List UInt8} {t : Tree} {b : Nat} (h : zax s 16 0 = .ok t b) : ∃ t0 a1 L, zcm (z9t s 16) s (s.length + 1) 0 [] = .ok t0 a1 /\ a1 <= s.length /\ z8m (z9t s 16) s (s.length + 1) a1 [t0] = .ok L b /\ t = z57 3 L /\ L ≠ [] /\ ∀ x ∈ L, z1t x = true := by
  rw [ze7] at h
  cases hc : zcm (z9t s 16) s (s.length + 1) 0 [] with
  | bad e c => rw [hc] at h; cases h
  | ok t0 a1 =>
    rw [hc] at h
    simp only [PR.next] at h
    rw [ze6] at h
    cases hL : z8m (z9t s 16) s (s.length + 1) a1 [t0] with
    | bad e c => rw [hL] at h; cases h
    | ok L c =>
      rw [hL] at h
      cases h
      have q := zfq (zz1 s 16) _ _ [t0] L _ (fun p hp => by rw [List.mem_singleton.1 hp]; exact zgm (zz1 s 16) _ _ [] (fun p hp => by cases hp) t0 a1 hc) hL
      exact ⟨t0, a1, L, rfl, (zw (z3p (z58 s 16) _ 0 [] (by omega)) hc).2, hL, rfl, q.2 (by simp), q.1⟩

theorem z1au {s S : List UInt8} (h : Cx s S 0) : ∀ (k k' a : Nat) (ps L : List Tree), a <= s.length -> k <= k' -> z8m (z9t s 16) s k a ps = .ok L s.length -> ∃ j, k' + 1 <= j + k /\ z8m (z9t S 16) S k' a ps = z8m (z9t S 16) S j s.length L
  | 0, k', a, ps, L, ha, hk, e => by cases e
  | k + 1, k', a, ps, L, ha, hk, e => by
    obtain ⟨m, rfl⟩ : ∃ m, k' = m + 1 := ⟨k' - 1, by omega⟩
    have hl := h.len
    rw [z8m] at e
    cases hi : isB s a 124 with
    | true =>
      rw [hi, if_pos rfl] at e
      have hi2 : isB S a 124 = true := h.isb_t hi
      have hlt : a < s.length := by simp [isB] at hi; omega
      cases hc : zcm (z9t s 16) s (s.length + 1) (a + 1) [] with
      | bad x y => rw [hc] at e; cases e
      | ok t a1 =>
        rw [hc] at e
        have hp := zw (z3p (z58 s 16) _ (a + 1) [] (by omega)) hc
        rcases h.cat (z58 s 16) (h.sub (D := False) (d := 16) (d' := 16) (Or.inl (by omega))) (s.length + 1) (S.length + 1) (a + 1) [] (by omega) (by omega) t a1 hc with q | ⟨hD, _⟩
        . obtain ⟨j, hj, ej⟩ := z1au h k m a1 _ L hp.2 (by omega) e
          refine ⟨j, by omega, ?_⟩
          rw [<- ej]
          rw [z8m, hi2, if_pos rfl]
          rw [show zcm (z9t S 16) S (S.length + 1) (a + 1) [] = .ok t a1 from q]
          rfl
        . exact hD.elim
    | false =>
      rw [hi, if_neg (by simp)] at e
      cases e
      exact ⟨m + 1, by omega, rfl⟩

theorem zv1 {s t : List UInt8} (hs : s.length <= 100) (ht : t.length <= 100) {a c : Tree} {b1 b2 : Nat} (h1 : z3y s = .ok a b1) (h2 : z3y t = .ok c b2) :
    ∃ L M, a = z57 3 L /\ c = z57 3 M /\ L ≠ [] /\ M ≠ [] /\ (∀ x ∈ L, z1t x = true) /\ (∀ x ∈ M, z1t x = true) /\ ∃ b, z3y ((s ++ [(124 : UInt8)]) ++ t) = .ok (z57 3 (L ++ M)) b := by
  obtain ⟨_, _, e1⟩ := zig h1
  obtain ⟨_, _, e2⟩ := zig h2
  obtain ⟨t0, a1, L, k1, k2, k3, rfl, k5, k6⟩ := zp5 e1
  obtain ⟨u0, c1, M, m1, m2, m3, rfl, m5, m6⟩ := zp5 e2
  refine ⟨L, M, rfl, rfl, k5, m5, k6, m6, ?_⟩
  have cs : Cx s ((s ++ [(124 : UInt8)]) ++ t) 0 := by
    have := z12o [] s (124 :: t) (Or.inr ⟨124, t, rfl, Or.inr rfl⟩)
    simpa using this
  have ct : Cx t ((s ++ [(124 : UInt8)]) ++ t) (s.length + 1) := by
    have := z12o (s ++ [(124 : UInt8)]) t [] (Or.inl rfl)
    simpa using this
  have hlen : ((s ++ [(124 : UInt8)]) ++ t).length = s.length + 1 + t.length := by simp; omega
  have hbar : gb ((s ++ [(124 : UInt8)]) ++ t) s.length = 124 := by
    have := zq4 s t 124
    simpa using this
  generalize (s ++ [(124 : UInt8)]) ++ t = S at *
  refine ⟨_, zrs (by omega) ?_⟩
  rw [ze7]
  rcases cs.cat (z58 s 16) (cs.sub (D := False) (d := 16) (d' := 16) (Or.inl (by omega))) (s.length + 1) (S.length + 1) 0 [] (by omega) (by omega) t0 a1 k1 with q | ⟨hD, _⟩
  . rw [show zcm (z9t S 16) S (S.length + 1) 0 [] = .ok t0 a1 from q]
    simp only [PR.next]
    rw [ze6]
    obtain ⟨j, hj, ej⟩ := z1au cs (s.length + 1) (S.length + 1) a1 [t0] L k2 (by omega) k3
    rw [ej]
    obtain ⟨i, rfl⟩ : ∃ i, j = i + 1 := ⟨j - 1, by omega⟩
    have hi : isB S s.length 124 = true := by simp [isB, hbar]; omega
    rw [z8m, hi, if_pos rfl]
    rcases ct.cat (z58 t 16) (ct.sub (D := False) (d := 16) (d' := 16) (Or.inl (by omega))) (t.length + 1) (S.length + 1) 0 [] (by omega) (by omega) u0 c1 m1 with q | ⟨hD, _⟩
    . rw [Nat.zero_add] at q
      rw [q]
      simp only [PR.next]
      have hb2 : isB S (t.length + (s.length + 1)) 124 = false := by simp [isB]; omega
      rcases ct.altsL (z58 t 16) (ct.sub (D := False) (d := 16) (d' := 16) (Or.inl (by omega))) L (t.length + 1) i c1 [u0] M t.length m2 (by omega) m3 (Or.inr hb2) with q | ⟨hD, _⟩
      . rw [q]
        simp only [PR.next]
        rw [hlen, show t.length + (s.length + 1) = s.length + 1 + t.length by omega]
      . exact hD.elim
    . exact hD.elim
  . exact hD.elim

def brn (a : Tree) : Nat := if z7n a = 3 then (zhc a).length else 1

theorem zsf {L : List Tree} (hn : L ≠ []) (h : ∀ x ∈ L, z1t x = true) : (z52 3 L).length = brn (z57 3 L) := by
  have q := zhf (Or.inr rfl) h
  have hp := zgg hn h
  unfold z57 brn
  generalize z52 3 L = f at q hp
  match f, q, hp with
  | [x], q, _ => rw [if_neg (q x (List.mem_cons_self ..)).2]; rfl
  | x :: y :: zs, q, _ =>
    show (x :: y :: zs).length = if (3 : Int) = 3 then (x :: y :: zs).length else 1
    rw [if_pos rfl]

theorem zyg {L M : List Tree} (hn : L ≠ []) (hm : M ≠ []) (h : ∀ x ∈ L, z1t x = true) (h2 : ∀ x ∈ M, z1t x = true) : z7n (z57 3 (L ++ M)) = 3 /\ (zhc (z57 3 (L ++ M))).length = brn (z57 3 L) + brn (z57 3 M) := by
  have e1 := zsf hn h
  have e2 := zsf hm h2
  have p1 := zgg hn h
  have p2 := zgg hm h2
  have e : z52 3 (L ++ M) = z52 3 L ++ z52 3 M := by unfold z52; rw [List.flatMap_append]
  have hl : (z52 3 (L ++ M)).length = (z52 3 L).length + (z52 3 M).length := by rw [e, List.length_append]
  rw [<- e1, <- e2, <- hl]
  have h2l : 2 <= (z52 3 (L ++ M)).length := by omega
  unfold z57
  generalize z52 3 (L ++ M) = f at h2l
  match f, h2l with
  | x :: y :: zs, _ => exact ⟨rfl, rfl⟩

theorem zvs (a : Tree) : (zhc a).length <= z2s a := by
  obtain ⟨k, st, ks, lo, hi⟩ := a
  have := z4h ks
  show ks.length <= z2s _
  rw [z2s]; omega

theorem z1ay (a : Tree) : brn a <= z2s a + 1 := by
  unfold brn
  have := zvs a
  split <;> omega

theorem z1ax (N : Nat) (a : Tree) (c d : NodT.den) (i : Int × (Int × Unit)) (k0 : Int -> Option Bool) : z24 N (unN a) c d i k0 = k0 (brn a : Int) := by
  unfold z24 brn
  show cond (z7n a == 3) (k0 ((zhc a).length : Int)) (k0 1) = _
  by_cases h : z7n a = 3
  . rw [if_pos h, h]; rfl
  . rw [if_neg h, show (z7n a == 3) = false from beq_eq_false_iff_ne.2 h]; rfl

theorem z1aw (N : Nat) (c : Tree) (d : NodT.den) (i : Int × (Int × Unit)) (n : Nat) (hn : n <= 2000) (hc : z2s c <= 1000) (k0 : Int -> Option Bool) : z23 N (unN c) d i (n : Int) k0 = k0 ((n + brn c : Nat) : Int) := by
  have hk := zvs c
  unfold z23 brn
  show cond (z7n c == 3) (k0 (IntKind.wrap .i64 ((n : Int) + ((zhc c).length : Int)))) (k0 (IntKind.wrap .i64 ((n : Int) + 1))) = _
  by_cases h : z7n c = 3
  . rw [if_pos h, h, wrapK (zhc c).length (by omega)]; rfl
  . rw [if_neg h, show (z7n c == 3) = false from beq_eq_false_iff_ne.2 h, zen (by omega)]; rfl

theorem zxb (s t : List UInt8) : ∃ N, z21 N s t = some true := by
  refine ⟨3700 + 300, ?_⟩
  have w := zsr 3700
  unfold z21 z4g z4f
  rw [w]
  by_cases hs : 100 < s.length
  . rw [decide_eq_true (show (100 : Int) < (s.length : Int) by omega)]; rfl
  rw [decide_eq_false (show ¬ (100 : Int) < (s.length : Int) by omega)]
  by_cases ht : 100 < t.length
  . rw [decide_eq_true (show (100 : Int) < (t.length : Int) by omega)]; rfl
  rw [decide_eq_false (show ¬ (100 : Int) < (t.length : Int) by omega)]
  simp only [cond_false]
  rw [zmc (by omega) s, zmc (by omega) t, zmc (by omega) (([(40 : UInt8)] ++ s) ++ [(41 : UInt8)]), zmc (by omega) ((s ++ [(124 : UInt8)]) ++ t)]
  rw [decide_eq_true (show 1 + s.length <= 9223372036854775807 by omega), decide_eq_true (show ([(40 : UInt8)] ++ s).length + 1 <= 9223372036854775807 by simp; omega), decide_eq_true (show s.length + 1 <= 9223372036854775807 by omega), decide_eq_true (show (s ++ [(124 : UInt8)]).length + t.length <= 9223372036854775807 by simp; omega)]
  simp only [cond_true, Option.bind_some]
  obtain ⟨hw1, hn1⟩ := zl7 s
  obtain ⟨hw2, hn2⟩ := zl7 t
  cases h1 : z3y s with
  | bad e b =>
    obtain ⟨z, hb⟩ := znr (by omega) h1
    rw [show ((psF (.bad e b : PR Tree)).2.1.1 != (0 : Int)) = true from z]
    have q := zl3 (3700 + 300) (.mk 0 z4 [] 0 0) (.mk 0 z4 [] 0 0) (by simp [z2s, z27]) zu3
    rw [zgx] at q
    simp only [cond_true]
    rw [show z1y (3700 + 300) (psF (.bad e b : PR Tree)).1 ((0 : Int), (([(0 : Int), (0 : Int), (0 : Int), (0 : Int)] : List Int), (([] : List Go.Lift.Tree), ((0 : Int), ((0 : Int), ()))))) = some true from q]
    rw [show (psF (.bad e b : PR Tree)).2.1.2.1 = (b : Int) from rfl, decide_eq_true (show (0 : Int) <= (b : Int) by omega), decide_eq_true (show (b : Int) <= (s.length : Int) by omega)]
    rfl
  | ok a b =>
    rw [h1] at hw1 hn1
    have hw1' : WfN a := hw1
    have hn1' : z2s a <= 1000 := hn1
    have hr := zj7 h1
    rw [show ((psF (.ok a b : PR Tree)).2.1.1 != (0 : Int)) = false from rfl, show (psF (.ok a b : PR Tree)).1 = unN a from rfl]
    simp only [cond_false]
    unfold z4e z4d
    rw [zj4 (3700 + 300) a (by omega) hw1', hr]
    simp only [Option.bind_some, Bool.not_true, cond_false]
    have rest : (cond ((psF (z3y t)).2.1.1 != (0 : Int))
            (some true)
            ((z24 (3700 + 300) (unN a) (psF (z3y t)).1 (psF (z3y ((s ++ [(124 : UInt8)]) ++ t))).1 (psF (z3y ((s ++ [(124 : UInt8)]) ++ t))).2.1
                  (fun n => z23 (3700 + 300) (psF (z3y t)).1 (psF (z3y ((s ++ [(124 : UInt8)]) ++ t))).1 (psF (z3y ((s ++ [(124 : UInt8)]) ++ t))).2.1 n
                    (fun n1 => cond (Go.Lift.eqD (Go.Lift.T.pair (Go.Lift.T.int Go.IntKind.i64) (Go.Lift.T.pair (Go.Lift.T.int Go.IntKind.i64) Go.Lift.T.unit)) (psF (z3y ((s ++ [(124 : UInt8)]) ++ t))).2.1 ((0 : Int), ((0 : Int), ())))
                      (cond ((psF (z3y ((s ++ [(124 : UInt8)]) ++ t))).1.1 == (3 : Int))
                        (cond ((((List.length (psF (z3y ((s ++ [(124 : UInt8)]) ++ t))).1.2.2.1) : Nat) : Int) == n1)
                          (some true)
                          (some false))
                        (some false))
                      (some false)))))) = some true := by
      cases h2 : z3y t with
      | bad e b2 =>
        obtain ⟨z, hb⟩ := znr (by omega) h2
        rw [show ((psF (.bad e b2 : PR Tree)).2.1.1 != (0 : Int)) = true from z]
        rfl
      | ok c b2 =>
        rw [h2] at hw2 hn2
        have hn2' : z2s c <= 1000 := hn2
        obtain ⟨L, M, rfl, rfl, k1, k2, k3, k4, b3, e3⟩ := zv1 (by omega) (by omega) h1 h2
        obtain ⟨j1, j2⟩ := zyg k1 k2 k3 k4
        rw [e3, show ((psF (.ok (z57 3 M) b2 : PR Tree)).2.1.1 != (0 : Int)) = false from rfl, show (psF (.ok (z57 3 M) b2 : PR Tree)).1 = unN (z57 3 M) from rfl]
        simp only [cond_false]
        have hb := z1ay (z57 3 L)
        rw [z1ax, z1aw _ _ _ _ _ (by omega) hn2']
        rw [show Go.Lift.eqD (Go.Lift.T.pair (Go.Lift.T.int Go.IntKind.i64) (Go.Lift.T.pair (Go.Lift.T.int Go.IntKind.i64) Go.Lift.T.unit)) (psF (.ok (z57 3 (L ++ M)) b3 : PR Tree)).2.1 ((0 : Int), ((0 : Int), ())) = true from (zfm _ _ _ rfl).2 rfl]
        rw [show (psF (.ok (z57 3 (L ++ M)) b3 : PR Tree)).1.1 = z7n (z57 3 (L ++ M)) from rfl, show (psF (.ok (z57 3 (L ++ M)) b3 : PR Tree)).1.2.2.1 = zhc (z57 3 (L ++ M)) from rfl, j1, j2]
        simp
    rcases zuz (by omega) h1 with ⟨c, hp⟩ | ⟨c, hp⟩
    . rw [hp]
      rw [show ((psF (.ok a c : PR Tree)).2.1.1 == (0 : Int)) = true from rfl, show ((psF (.ok a c : PR Tree)).2.1.1 != (0 : Int)) = false from rfl, show (psF (.ok a c : PR Tree)).1 = unN a from rfl, zl2 (3700 + 300) a a (by omega) hw1', zgx]
      simp only [cond_true, cond_false, Option.bind_some, Bool.not_true]
      exact rest
    . rw [hp]
      rw [show ((psF (.bad 3 c : PR Tree)).2.1.1 == (0 : Int)) = false from rfl, show ((psF (.bad 3 c : PR Tree)).2.1.1 != (0 : Int)) = true from rfl, show ((psF (.bad 3 c : PR Tree)).2.1.1 != (3 : Int)) = false from rfl]
      simp only [cond_true, cond_false]
      exact rest

end
end Go.Proofs.YtbfmhambfonpcaaDoorLg
