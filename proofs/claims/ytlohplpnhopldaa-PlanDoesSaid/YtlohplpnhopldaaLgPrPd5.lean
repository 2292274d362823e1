import Derived.Test.YtlohplpnhopldaaLgPrPd2
import Derived.Test.YtlohplpnhopldaaLgPrPd4
import Derived.WalkKit
import Derived.Tactics
import Derived.Tactics2
import Derived.Defers
import Derived.Lib.Hide
import Derived.Below
import Derived.WalkSmall
import Derived.LoopN
import Derived.Deep.RegionHeld3
import Derived.Deep.Cut
import Derived.KernelRfl
import Derived.Laws.Rows
set_option linter.all false
set_option maxRecDepth 100000
namespace Go.Proofs.YtlohplpnhopldaaLg
noncomputable section
open Go Go.Lift Go.Proofs

abbrev KeyT : T := .pair (.int .i64) (.pair .str .unit)

abbrev TenT : T := .pair .str (.pair (.int .i64) (.pair (.int .i64) (.pair (.sl KeyT) .unit)))

abbrev StT : T := .pair (.sl TenT) (.pair (.int .i64) .unit)

def zr (ks : List KeyT.den) : List Value := ks.flatMap fun k => [.int .i64 k.1, .string ⟨⟨k.2.1⟩⟩]

def z9 (l : List (TenT.den × Value)) : List Value := l.flatMap fun p => [.string ⟨⟨p.1.1⟩⟩, .int .i64 p.1.2.1, .int .i64 p.1.2.2.1, p.2]

theorem z6q (ks : List KeyT.den) : (zr ks).length = ks.length * 2 := by
  induction ks with
  | nil => rfl
  | cons k ks ih => simp only [zr, List.flatMap_cons, List.length_append, List.length_cons] at ih ⊢; simp [zr] at ih ⊢; omega

theorem zch (l : List (TenT.den × Value)) : (z9 l).length = l.length * 4 := by
  induction l with
  | nil => rfl
  | cons k ks ih => simp [z9] at ih ⊢; omega

theorem z2w (l m : List (TenT.den × Value)) : z9 (l ++ m) = z9 l ++ z9 m := by simp [z9]

theorem z6r (l m : List KeyT.den) : zr (l ++ m) = zr l ++ zr m := by simp [zr]

theorem zv6 {S : Hp} : ∀ (ks : List KeyT.den) (cs : List Value), All (Rd S KeyT) ks cs -> cs = zr ks
  | [], cs, h => h
  | k :: ks, cs, h => by
    obtain ⟨c1, c2, rfl, h1, h2⟩ := h
    obtain ⟨d1, d2, e1, k1, d3, d4, e2, k2, k3⟩ := h1
    have i1 : d1 = [.int .i64 k.1] := k1
    have i3 : d3 = [.string ⟨⟨k.2.1⟩⟩] := k2
    have i4 : d4 = [] := k3
    rw [zv6 ks c2 h2, e1, e2, i1, i3, i4]
    rfl

theorem zyd {S : Hp} : ∀ (ks : List KeyT.den), All (Rd S KeyT) ks (zr ks)
  | [] => rfl
  | k :: ks => ⟨[.int .i64 k.1, .string ⟨⟨k.2.1⟩⟩], zr ks, rfl, ⟨[.int .i64 k.1], [.string ⟨⟨k.2.1⟩⟩], rfl, rfl, [.string ⟨⟨k.2.1⟩⟩], [], rfl, rfl, rfl⟩, zyd ks⟩

theorem zug {S : Hp} : ∀ (ts : List TenT.den) (cs : List Value), All (Rd S TenT) ts cs -> ∃ l : List (TenT.den × Value), l.map (·.1) = ts /\ cs = z9 l /\ ∀ p ∈ l, VR S (.sl KeyT) p.1.2.2.2.1 p.2
  | [], cs, h => ⟨[], rfl, h, fun p hp => by cases hp⟩
  | t :: ts, cs, h => by
    obtain ⟨c1, c2, rfl, h1, h2⟩ := h
    obtain ⟨l, e, e', hl⟩ := zug ts c2 h2
    obtain ⟨d1, d2, e1, k1, d3, d4, e2, k2, d5, d6, e3, k3, d7, d8, e4, ⟨a, cap, k4, hcap, hk⟩, k5⟩ := h1
    have i1 : d1 = [.string ⟨⟨t.1⟩⟩] := k1
    have i3 : d3 = [.int .i64 t.2.1] := k2
    have i5 : d5 = [.int .i64 t.2.2.1] := k3
    have i8 : d8 = [] := k5
    refine ⟨(t, .slice a t.2.2.2.1.length cap) :: l, by rw [List.map_cons, e], ?_, fun p hp => ?_⟩
    . rw [e', e1, e2, e3, e4, i1, i3, i5, k4, i8]
      rfl
    . rcases List.mem_cons.1 hp with rfl | hp
      . exact VR.of_one rfl ⟨a, cap, rfl, hcap, hk⟩
      . exact hl p hp

theorem zx0 {S : Hp} : ∀ (l : List (TenT.den × Value)), (∀ p ∈ l, VR S (.sl KeyT) p.1.2.2.2.1 p.2) -> All (Rd S TenT) (l.map (·.1)) (z9 l)
  | [], _ => rfl
  | p :: l, h => by
    refine ⟨[.string ⟨⟨p.1.1⟩⟩, .int .i64 p.1.2.1, .int .i64 p.1.2.2.1, p.2], z9 l, rfl, ?_, zx0 l (fun q hq => h q (List.mem_cons_of_mem _ hq))⟩
    have hk : Rd S (.sl KeyT) p.1.2.2.2.1 [p.2] := h p (List.mem_cons_self ..)
    exact ⟨[_], [_, _, _], rfl, rfl, [_], [_, _], rfl, rfl, [_], [_], rfl, rfl, [p.2], [], rfl, hk, rfl⟩

theorem zrs {S : Hp} {b off : Nat} {c1 : List Value} (hl : Lies S b off c1) {w : World} (hw : Lift.Sub S (hp w)) {j : Nat} {u : Value} (hu : c1[j]? = some u) : w.cell? ⟨b, off + j, none⟩ = some u := by
  obtain ⟨all, E, fr, c0, c2, q1, q2, q3⟩ := hl
  have hb : w.heap[b]? = some (.cells all E fr) := hw _ _ q1
  have : all[off + j]? = some u := by
    rw [<- Array.getElem?_toList, q2, List.getElem?_append_right (by omega), q3, show off + j - off = j by omega, List.getElem?_append_left (List.getElem?_eq_some_iff.1 hu).1]
    exact hu
  simp [World.cell?, hb, this]

theorem zrt {S : Hp} {ks : List KeyT.den} {v : Value} (h : VR S (.sl KeyT) ks v) : ∃ a cap, v = .slice a ks.length cap /\ (0 < ks.length -> ∃ ad, a = some ad /\ ∀ w, Lift.Sub S (hp w) -> ∀ j u, (zr ks)[j]? = some u -> w.cell? (ad.add j) = some u) := by
  have h' : Rd S (.sl KeyT) ks [v] := h
  obtain ⟨a, cap, e, hcap, h1⟩ := h'
  refine ⟨a, cap, by simpa using e, fun hn => ?_⟩
  rcases h1 with rfl | ⟨b, off, c1, rfl, hl, ha⟩
  . cases hn
  . refine ⟨⟨b, off, none⟩, rfl, fun w hw j u hu => ?_⟩
    rw [<- zv6 ks c1 ha] at hu
    have := zrs hl hw hu
    have hadd : (⟨b, off, none⟩ : Addr).add j = ⟨b, off + j, none⟩ := by unfold Addr.add; split <;> simp_all
    rw [hadd]; exact this

theorem z7q {S : Hp} {ts : List TenT.den} {v : Value} (h : VR S (.sl TenT) ts v) : ∃ a cap, ∃ l : List (TenT.den × Value), v = .slice a ts.length cap /\ l.map (·.1) = ts /\ (∀ p ∈ l, VR S (.sl KeyT) p.1.2.2.2.1 p.2) /\ (0 < ts.length -> ∃ b off, a = some ⟨b, off, none⟩ /\ ∀ w, Lift.Sub S (hp w) -> ∀ j u, (z9 l)[j]? = some u -> w.cell? ⟨b, off + j, none⟩ = some u) := by
  have h' : Rd S (.sl TenT) ts [v] := h
  obtain ⟨a, cap, e, hcap, h1⟩ := h'
  rcases h1 with rfl | ⟨b, off, c1, rfl, hl, ha⟩
  . exact ⟨a, cap, [], by simpa using e, rfl, (fun p hp => by cases hp), fun hn => by cases hn⟩
  . obtain ⟨l, e1, e2, e3⟩ := zug ts c1 ha
    exact ⟨some ⟨b, off, none⟩, cap, l, by simpa using e, e1, e3, fun _ => ⟨b, off, rfl, fun w hw j u hu => zrs hl hw (by rw [e2]; exact hu)⟩⟩

theorem zfi {S : Hp} {ts : List TenT.den} {ser : Int} {v : Value} (h : VR S StT (ts, (ser, ())) v) : ∃ sv, v = .agg #[sv, .int .i64 ser] /\ VR S (.sl TenT) ts sv := by
  have h' : ∃ cs, v = .agg cs /\ Rd S StT (ts, (ser, ())) cs.toList := h
  obtain ⟨cs, rfl, c1, c2, hc, ⟨a, cap, k1, hcap, hk⟩, c3, c4, hc', k2, k3⟩ := h'
  have i3 : c3 = [.int .i64 ser] := k2
  have i4 : c4 = [] := k3
  refine ⟨.slice a ts.length cap, ?_, VR.of_one rfl ⟨a, cap, rfl, hcap, hk⟩⟩
  congr 1
  apply Array.toList_inj.1
  rw [hc, hc', k1, i3, i4]
  rfl

structure Laid (w0 w : World) (b : Nat) (l : List (TenT.den × Value)) : Prop where
  low : w0.heap.size <= b
  row : RowAt w b (z9 l) 41
  keys : ∀ i, (h : i < l.length) -> ∃ kb, l[i].2 = .slice (some ⟨kb, 0, none⟩) l[i].1.2.2.2.1.length l[i].1.2.2.2.1.length /\ w0.heap.size <= kb /\ kb ≠ b /\ RowAt w kb (zr l[i].1.2.2.2.1) 43
  apart : ∀ i j, (hi : i < l.length) -> (hj : j < l.length) -> i ≠ j -> l[i].2 ≠ l[j].2

theorem zzp : ∃ zs : Nat -> List Value, (∀ n, (zs n).length = n * 4) /\ ∀ (n : Nat) (W : World), n <= 1000 -> (Instr.makeSlice 22 (.int .i64 (n : Int)) (.int .i64 (n : Int))).run Go.Proofs.Try.prog W = .ok (.slice (some ⟨W.heap.size, 0, none⟩) n n) (W.alloc (.cells (zs n).toArray 41)) := by
  obtain ⟨inf, h1, h2, h3, z, h4, h5⟩ := ty41_ok.info
  have h2' : inf.size = 4 := h2
  have h3' : inf.bytes = 56 := h3
  refine ⟨fun n => (madeCells z.cells (n * 4)).toList, fun n => by simp [size_madeCells], fun n W hn => ?_⟩
  have := run_make (P := Go.Proofs.Try.prog) W 22 41 inf z Go.Proofs.Try.underlying22 h1 h4 .i64 .i64 (n : Int) (n : Int) (by omega) (Int.le_refl _) (by rw [h3']; omega) (by omega)
  rw [Int.toNat_natCast, h2'] at this
  rw [this, Array.toArray_toList]

theorem z10b : ∃ zs : Nat -> List Value, (∀ n, (zs n).length = n * 2) /\ ∀ (n : Nat) (W : World), n <= 1000 -> (Instr.makeSlice 39 (.int .i64 (n : Int)) (.int .i64 (n : Int))).run Go.Proofs.Try.prog W = .ok (.slice (some ⟨W.heap.size, 0, none⟩) n n) (W.alloc (.cells (zs n).toArray 43)) := by
  obtain ⟨inf, h1, h2, h3, z, h4, h5⟩ := ty43_ok.info
  have h2' : inf.size = 2 := h2
  have h3' : inf.bytes = 24 := h3
  refine ⟨fun n => (madeCells z.cells (n * 2)).toList, fun n => by simp [size_madeCells], fun n W hn => ?_⟩
  have := run_make (P := Go.Proofs.Try.prog) W 39 43 inf z Go.Proofs.Try.underlying39 h1 h4 .i64 .i64 (n : Int) (n : Int) (by omega) (Int.le_refl _) (by rw [h3']; omega) (by omega)
  rw [Int.toNat_natCast, h2'] at this
  rw [this, Array.toArray_toList]

theorem zvf {dT elem : TypeId} {sz : Nat} (hsz : (Go.Proofs.Try.prog.info? elem).map (·.size) = some sz) (hu : Go.Proofs.Try.prog.underlying dT = some (.slice elem)) {W : World} {g n cap : Nat} {a : Option Addr} {cur cs : List Value} {e : TypeId} (hg : RowAt W g cur e) (hc : cur.length = n * sz) (hcs : cs.length = n * sz)
    (hsrc : 0 < n -> ∃ ad, a = some ad /\ ∀ j u, cs[j]? = some u -> W.cell? (ad.add j) = some u) (h1 : ∀ v ∈ cs, v.oneCell' = true) (ty : TypeId) :
    ∃ W', (Builtin.copy_ #[dT, dT] ty #[.slice (some ⟨g, 0, none⟩) n n, .slice a n cap]).run Go.Proofs.Try.prog W = .ok (goInt n) W' /\ RowAt W' g cs e /\ W.grownBy W' (some g) := by
  obtain ⟨i, hi, his⟩ := Option.map_eq_some_iff.1 hsz
  by_cases h0 : n = 0
  . subst h0
    have hcur : cur = cs := by rw [List.eq_nil_of_length_eq_zero (by omega : cur.length = 0), List.eq_nil_of_length_eq_zero (by omega : cs.length = 0)]
    exact ⟨W, zpo dT dT ty elem i _ _ 0 0 0 cap hu hi (by simp), by rw [<- hcur]; exact hg, ⟨rfl, rfl, rfl, Nat.le_refl _, fun _ _ _ => rfl⟩⟩
  . obtain ⟨ad, rfl, hs⟩ := hsrc (by omega)
    have := z53 (P := Go.Proofs.Try.prog) dT dT ty elem i g 0 n n ad n cap n cur e cs hu hi hg (by simp) (by rw [hcs, his]) hs (by omega) h1
    refine ⟨_, this, ?_, z3s (w0 := W) _⟩
    have hd : cur.take 0 ++ cs ++ cur.drop (0 + cs.length) = cs := by
      rw [List.take_zero, List.nil_append, Nat.zero_add, List.drop_of_length_le (by omega), List.append_nil]
    rw [hd]
    exact z7s hg

theorem zks (ks : List KeyT.den) : ∀ v ∈ zr ks, v.oneCell' = true := by
  intro v hv
  obtain ⟨k, _, hk⟩ := List.mem_flatMap.1 hv
  simp at hk
  rcases hk with rfl | rfl <;> rfl

theorem zqe {l : List (TenT.den × Value)} (hl : ∀ p ∈ l, p.2.oneCell' = true) : ∀ v ∈ z9 l, v.oneCell' = true := by
  intro v hv
  obtain ⟨k, hk, hv⟩ := List.mem_flatMap.1 hv
  simp at hv
  rcases hv with rfl | rfl | rfl | rfl
  . rfl
  . rfl
  . rfl
  . exact hl k hk

theorem _root_.Go.World.grownBy.trans38 {w w1 w2 : World} {row : Option Nat} (h : w.grownBy w1 row) (g : w1.grownBy w2 none) : w.grownBy w2 row :=
  ⟨g.os.trans h.os, g.tape.trans h.tape, g.output.trans h.output, Nat.le_trans h.size g.size, fun k hk hne => (g.block k (Nat.lt_of_lt_of_le hk h.size) (by simp)).trans (h.block k hk hne)⟩

theorem za {w w1 : World} {row : Option Nat} (h : w.grownBy w1 row) : w.grownBy w1.drew row := ⟨h.os, h.tape, h.output, h.size, h.block⟩

theorem z10 {w : World} {p : Addr} {v : Value} {o : Obj} (h : w.cell? p = some v) : (w.alloc o).cell? p = some v :=
  (World.grownBy_alloc w o none).cell h (by simp)

theorem z19 {w : World} {p q : Addr} {v u : Value} (h : w.cell? p = some v) (hn : p.block ≠ q.block) : (w.setCell q u).cell? p = some v := by
  rw [<- h]
  simp only [World.setCell, World.cell?]
  rw [Array.getElem?_modify, if_neg (Ne.symm hn)]

theorem z12b {S : Hp} {ks : List KeyT.den} {v : Value} (h : VR S (.sl KeyT) ks v) : v.oneCell' = true := by
  obtain ⟨a, cap, rfl, _⟩ := zrt h
  rfl

theorem z4c {w w' : World} {S : Hp} (hS : Lift.Sub S (hp w)) (h : w.grownBy w' none) : Lift.Sub S (hp w') := by
  intro k o hk
  have h3 := hS k o hk
  have hlt : k < w.heap.size := (Array.getElem?_eq_some_iff.1 (show w.heap[k]? = some o from h3)).1
  have := h.block k hlt (by simp)
  simp only [hp] at h3 ⊢
  rw [this]; exact h3

theorem z2k {w w1 w2 : World} {b : Nat} (h : w.grownBy w1 none) (g : w1.grownBy w2 (some b)) (hb : w.heap.size <= b) : w.grownBy w2 none :=
  ⟨g.os.trans h.os, g.tape.trans h.tape, g.output.trans h.output, Nat.le_trans h.size g.size, fun k hk _ => (g.block k (Nat.lt_of_lt_of_le hk h.size) (by simp; omega)).trans (h.block k hk (by simp))⟩

theorem z6f {l : List (TenT.den × Value)} {k : Nat} (hk : k < l.length) : (z9 l)[k * 4]? = some (.string ⟨⟨l[k].1.1⟩⟩) /\ (z9 l)[k * 4 + 1]? = some (.int .i64 l[k].1.2.1) /\ (z9 l)[k * 4 + 2]? = some (.int .i64 l[k].1.2.2.1) /\ (z9 l)[k * 4 + 3]? = some l[k].2 := by
  induction l generalizing k with
  | nil => cases hk
  | cons p l ih =>
    cases k with
    | zero => exact ⟨rfl, rfl, rfl, rfl⟩
    | succ k =>
      obtain ⟨h1, h2, h3, h4⟩ := ih (k := k) (by simpa using hk)
      have e : z9 (p :: l) = .string ⟨⟨p.1.1⟩⟩ :: .int .i64 p.1.2.1 :: .int .i64 p.1.2.2.1 :: p.2 :: z9 l := rfl
      rw [e]
      refine ⟨?_, ?_, ?_, ?_⟩
      . rw [show (k + 1) * 4 = k * 4 + 1 + 1 + 1 + 1 by omega]; simpa using h1
      . rw [show (k + 1) * 4 + 1 = k * 4 + 1 + 1 + 1 + 1 + 1 by omega]; simpa using h2
      . rw [show (k + 1) * 4 + 2 = k * 4 + 2 + 1 + 1 + 1 + 1 by omega]; simpa using h3
      . rw [show (k + 1) * 4 + 3 = k * 4 + 3 + 1 + 1 + 1 + 1 by omega]; simpa using h4

theorem zx2 {l : List (TenT.den × Value)} {k : Nat} (hk : k < l.length) (v : Value) : (z9 l).set (k * 4 + 3) v = z9 (l.take k ++ (l[k].1, v) :: l.drop (k + 1)) := by
  induction l generalizing k with
  | nil => cases hk
  | cons p l ih =>
    have e : ∀ (p : TenT.den × Value) l, z9 (p :: l) = .string ⟨⟨p.1.1⟩⟩ :: .int .i64 p.1.2.1 :: .int .i64 p.1.2.2.1 :: p.2 :: z9 l := fun _ _ => rfl
    cases k with
    | zero => rfl
    | succ k =>
      have h1 := ih (k := k) (by simpa using hk)
      rw [e, show (k + 1) * 4 + 3 = k * 4 + 3 + 1 + 1 + 1 + 1 by omega]
      simp only [List.set_cons_succ, List.take_succ_cons, List.cons_append, List.drop_succ_cons, List.getElem_cons_succ]
      rw [e, h1]

def z12r (w0 w : World) (b q : Nat) (l : List (TenT.den × Value)) : Prop :=
 (∀ i, (h : i < l.length) -> ∃ kb, l[i].2 = .slice (some ⟨kb, 0, none⟩) l[i].1.2.2.2.1.length l[i].1.2.2.2.1.length /\ w0.heap.size + 2 <= kb /\ kb ≠ b /\ kb ≠ q /\ RowAt w kb (zr l[i].1.2.2.2.1) 43) ∧
 ∀ i j, (hi : i < l.length) -> (hj : j < l.length) -> i ≠ j -> l[i].2 ≠ l[j].2

theorem zt2 {wr Y Y2 : World} {b nb kb : Nat} {cs : List Value} {e : TypeId} (h1 : wr.grownBy Y (some b)) (h2 : Y.grownBy Y2 (some nb)) (hnb : wr.heap.size <= nb) (hkb : kb ≠ b) (h : RowAt wr kb cs e) : RowAt Y2 kb cs e := by
  have hl := h.lt
  exact (h.grown h1 (by simpa using hkb)).grown h2 (by simp; omega)

theorem zw8 {w wr Y2 : World} {b q nb : Nat} {l1 : List (TenT.den × Value)} {p : TenT.den × Value} (h : z12r w wr b q l1) (hrow : ∀ kb cs e, kb ≠ b -> RowAt wr kb cs e -> RowAt Y2 kb cs e) (hnb : wr.heap.size <= nb) (hw : w.heap.size + 2 <= wr.heap.size) (hbn : nb ≠ b) (hqn : nb ≠ q)
    (hp : p.2 = .slice (some ⟨nb, 0, none⟩) p.1.2.2.2.1.length p.1.2.2.2.1.length) (hr : RowAt Y2 nb (zr p.1.2.2.2.1) 43) : z12r w Y2 b q (l1 ++ [p]) := by
  have far : ∀ i, (hi : i < l1.length) -> l1[i].2 ≠ p.2 := by
    intro i hi he
    obtain ⟨kb, e1, _, _, _, e5⟩ := h.1 i hi
    rw [e1, hp] at he
    injection he with q1 q2 q3
    injection q1 with q1
    injection q1 with q1
    have := e5.lt
    omega
  refine ⟨fun i hi => ?_, fun i j hi hj hij => ?_⟩
  . rcases Nat.lt_or_ge i l1.length with hlt | hge
    . obtain ⟨kb, e1, e2, e3, e4, e5⟩ := h.1 i hlt
      rw [List.getElem_append_left hlt]
      exact ⟨kb, e1, e2, e3, e4, hrow _ _ _ e3 e5⟩
    . have hi' : i = l1.length := by rw [List.length_append, List.length_singleton] at hi; omega
      subst hi'
      rw [List.getElem_append_right (Nat.le_refl _)]
      simp only [Nat.sub_self, List.getElem_cons_zero]
      exact ⟨nb, hp, by omega, hbn, hqn, hr⟩
  . rw [List.length_append, List.length_singleton] at hi hj
    rcases Nat.lt_or_ge i l1.length with h1 | h1 <;> rcases Nat.lt_or_ge j l1.length with h2 | h2
    . rw [List.getElem_append_left h1, List.getElem_append_left h2]
      exact h.2 i j h1 h2 hij
    . have hj' : j = l1.length := by omega
      subst hj'
      rw [List.getElem_append_left h1, List.getElem_append_right (Nat.le_refl _)]
      simp only [Nat.sub_self, List.getElem_cons_zero]
      exact far i h1
    . have hi' : i = l1.length := by omega
      subst hi'
      rw [List.getElem_append_left h2, List.getElem_append_right (Nat.le_refl _)]
      simp only [Nat.sub_self, List.getElem_cons_zero]
      exact fun e => far j h2 e.symm
    . omega

set_option maxHeartbeats 2000000 in
theorem zpe {w : World} {S : Hp} (hS : Lift.Sub S (hp w)) {ts : List TenT.den} {ser : Int} {sv : Value} (hv : VR S (.sl TenT) ts sv) (hn : ts.length <= 1000) (hk : ∀ t ∈ ts, t.2.2.2.1.length <= 1000) :
    Calls Go.Proofs.Try.prog 32 #[.agg #[sv, .int .i64 ser]] w fun r w' => ∃ b l, r = .returned (.agg #[.slice (some ⟨b, 0, none⟩) ts.length ts.length, .int .i64 ser]) /\ l.map (·.1) = ts /\ w.grownBy w' none /\ Laid w w' b l := by
  suffices HX : ∀ R : Ending -> World -> Prop, Go.RowKit.Hid (∀ b l w', l.map (·.1) = ts -> w.grownBy w' none -> Laid w w' b l -> R (.returned (.agg #[.slice (some ⟨b, 0, none⟩) ts.length ts.length, .int .i64 ser])) w') -> Calls Go.Proofs.Try.prog 32 #[.agg #[sv, .int .i64 ser]] w R from HX _ (Go.Lib.hid (fun b l w' h1 h2 h3 => ⟨b, l, rfl, h1, h2, h3⟩))
  intro R HR
  obtain ⟨a, cap, l, rfl, hlm, hlk, hcells⟩ := z7q hv
  obtain ⟨zt, hzt, hmt⟩ := zzp
  obtain ⟨zk, hzk, hmk⟩ := z10b
  obtain ⟨n, hnn⟩ : ∃ n, n = ts.length := ⟨_, rfl⟩
  have HN := Go.Lib.hid hnn
  rw [<- hnn] at hn ⊢
  have HL := Go.Lib.hid (And.intro hlm (And.intro hlk hcells))
  have HK := Go.Lib.hid hk
  have hmtn := fun W => hmt n W hn
  have HMK := Go.Lib.hid hmk
  have HSS := Go.Lib.hid hS
  have HZT := Go.Lib.hid (hzt n)
  clear hmt hmk hlm hlk hcells hk hv hS hnn hzt
  go_enter Go.Proofs.Try.func32, Go.Proofs.Try.ntmps32
  go_upto_region 1 with (fail)
  have k0 : ((w.alloc (Obj.cells #[Value.slice a n cap, Value.int IntKind.i64 ser] 24)).alloc (Obj.cells #[Value.slice none 0 0, Value.int IntKind.i64 0] 24)).cell? ⟨w.heap.size, 0, none⟩ = some (.slice a n cap) := z10 (by rw [World.cell?_alloc_at _ _ _ _ rfl]; rfl)
  have k1 : ((w.alloc (Obj.cells #[Value.slice a n cap, Value.int IntKind.i64 ser] 24)).alloc (Obj.cells #[Value.slice none 0 0, Value.int IntKind.i64 0] 24)).cell? ⟨w.heap.size, 1, none⟩ = some (.int .i64 ser) := z10 (by rw [World.cell?_alloc_at _ _ _ _ rfl]; rfl)
  have gB : w.grownBy ((w.alloc (Obj.cells #[Value.slice a n cap, Value.int IntKind.i64 ser] 24)).alloc (Obj.cells #[Value.slice none 0 0, Value.int IntKind.i64 0] 24)) none := (World.grownBy_alloc w _ none).trans38 (World.grownBy_alloc _ _ none)
  have kr : RowAt ((w.alloc (Obj.cells #[Value.slice a n cap, Value.int IntKind.i64 ser] 24)).alloc (Obj.cells #[Value.slice none 0 0, Value.int IntKind.i64 0] 24)) (w.heap.size + 1) [Value.slice none 0 0, Value.int IntKind.i64 0] 24 := by
    have := RowAt.new (w.alloc (Obj.cells #[Value.slice a n cap, Value.int IntKind.i64 ser] 24)) [Value.slice none 0 0, Value.int IntKind.i64 0] 24
    simpa using this
  have sz : ((w.alloc (Obj.cells #[Value.slice a n cap, Value.int IntKind.i64 ser] 24)).alloc (Obj.cells #[Value.slice none 0 0, Value.int IntKind.i64 0] 24)).heap.size = w.heap.size + 2 := by simp
  generalize ((w.alloc (Obj.cells #[Value.slice a n cap, Value.int IntKind.i64 ser] 24)).alloc (Obj.cells #[Value.slice none 0 0, Value.int IntKind.i64 0] 24)) = W at k0 k1 gB kr sz ⊢
  have GB := Go.Lib.hid gB
  have KR := Go.Lib.hid kr
  have SZ := Go.Lib.hid sz
  clear gB kr sz
  go_region_held3 (fun w' => World.cell? w' ⟨w.heap.size, 0, none⟩ = some (.slice a n cap) /\ World.cell? w' ⟨w.heap.size, 1, none⟩ = some (.int .i64 ser)) (first | assumption | exact ⟨k0, k1⟩ | exact ⟨z10 k0, z10 k1⟩ | exact ⟨z10 (z10 k0), z10 (z10 k1)⟩ | go_keep) (fail)
  all_goals (first
    | (have r1 : RowAt ((W.alloc (Obj.cells (zt n).toArray 41)).alloc (Obj.cells #[Value.slice (some ⟨W.heap.size, 0, none⟩) n n, Value.int IntKind.i64 ser] 24)).drew W.heap.size (zt n) 41 := RowAt.drew ((RowAt.new W (zt n) 41).alloc _)
       have r2 : RowAt ((W.alloc (Obj.cells (zt n).toArray 41)).alloc (Obj.cells #[Value.slice (some ⟨W.heap.size, 0, none⟩) n n, Value.int IntKind.i64 ser] 24)).drew (W.heap.size + 1) [Value.slice (some ⟨W.heap.size, 0, none⟩) n n, Value.int IntKind.i64 ser] 24 := by
         have := RowAt.new (W.alloc (Obj.cells (zt n).toArray 41)) [Value.slice (some ⟨W.heap.size, 0, none⟩) n n, Value.int IntKind.i64 ser] 24
         refine RowAt.drew ?_
         simpa using this
       have g2 : W.grownBy ((W.alloc (Obj.cells (zt n).toArray 41)).alloc (Obj.cells #[Value.slice (some ⟨W.heap.size, 0, none⟩) n n, Value.int IntKind.i64 ser] 24)).drew none := za ((World.grownBy_alloc W _ none).trans38 (World.grownBy_alloc _ _ none))
       obtain ⟨X, hX⟩ : ∃ X, X = ((W.alloc (Obj.cells (zt n).toArray 41)).alloc (Obj.cells #[Value.slice (some ⟨W.heap.size, 0, none⟩) n n, Value.int IntKind.i64 ser] 24)).drew := ⟨_, rfl⟩
       rw [<- hX] at r1 r2 g2 ⊢
       clear hX
       have hne : W.heap.size ≠ W.heap.size + 1 := by omega
       obtain ⟨b, hb⟩ : ∃ b, b = W.heap.size := ⟨_, rfl⟩
       obtain ⟨q, hq⟩ : ∃ q, q = W.heap.size + 1 := ⟨_, rfl⟩
       have hbl : w.heap.size + 2 <= b := by have := SZ.out; omega
       have hql : w.heap.size + 2 <= q := by have := SZ.out; omega
       rw [<- hq] at r2 hne ⊢
       rw [<- hb] at r1 r2 hne ⊢
       clear hb hq)
    | (have r1 : RowAt ((W.alloc (Obj.cells #[Value.slice (some ⟨W.heap.size + 1, 0, none⟩) n n, Value.int IntKind.i64 ser] 24)).alloc (Obj.cells (zt n).toArray 41)).drew (W.heap.size + 1) (zt n) 41 := by
         have := RowAt.new (W.alloc (Obj.cells #[Value.slice (some ⟨W.heap.size + 1, 0, none⟩) n n, Value.int IntKind.i64 ser] 24)) (zt n) 41
         refine RowAt.drew ?_
         simpa using this
       have r2 : RowAt ((W.alloc (Obj.cells #[Value.slice (some ⟨W.heap.size + 1, 0, none⟩) n n, Value.int IntKind.i64 ser] 24)).alloc (Obj.cells (zt n).toArray 41)).drew W.heap.size [Value.slice (some ⟨W.heap.size + 1, 0, none⟩) n n, Value.int IntKind.i64 ser] 24 := RowAt.drew ((RowAt.new W [Value.slice (some ⟨W.heap.size + 1, 0, none⟩) n n, Value.int IntKind.i64 ser] 24).alloc _)
       have g2 : W.grownBy ((W.alloc (Obj.cells #[Value.slice (some ⟨W.heap.size + 1, 0, none⟩) n n, Value.int IntKind.i64 ser] 24)).alloc (Obj.cells (zt n).toArray 41)).drew none := za ((World.grownBy_alloc W _ none).trans38 (World.grownBy_alloc _ _ none))
       obtain ⟨X, hX⟩ : ∃ X, X = ((W.alloc (Obj.cells #[Value.slice (some ⟨W.heap.size + 1, 0, none⟩) n n, Value.int IntKind.i64 ser] 24)).alloc (Obj.cells (zt n).toArray 41)).drew := ⟨_, rfl⟩
       rw [<- hX] at r1 r2 g2 ⊢
       clear hX
       have hne : W.heap.size + 1 ≠ W.heap.size := by omega
       obtain ⟨b, hb⟩ : ∃ b, b = W.heap.size + 1 := ⟨_, rfl⟩
       obtain ⟨q, hq⟩ : ∃ q, q = W.heap.size := ⟨_, rfl⟩
       have hbl : w.heap.size + 2 <= b := by have := SZ.out; omega
       have hql : w.heap.size + 2 <= q := by have := SZ.out; omega
       rw [<- hb] at r1 r2 hne ⊢
       rw [<- hq] at r2 hne ⊢
       clear hb hq))
  all_goals have gX : w.grownBy X none := GB.out.trans38 g2
  all_goals obtain ⟨hlm, hlk, hcells⟩ := HL.out
  all_goals have hll : l.length = n := by rw [HN.out, <- hlm, List.length_map]
  all_goals obtain ⟨X2, hcp, rX, g3⟩ := zvf (dT := 22) (elem := 41) (sz := 4) (n := n) (cap := cap) (a := a) (cur := zt n) (cs := z9 l) (by kernel_rfl) Go.Proofs.Try.underlying22 r1 HZT.out (by rw [zch, hll]) (fun h0 => by
    obtain ⟨bt, off, rfl, hc⟩ := hcells (by rw [<- HN.out]; exact h0)
    refine ⟨⟨bt, off, none⟩, rfl, fun j u hu => ?_⟩
    have hadd : (⟨bt, off, none⟩ : Addr).add j = ⟨bt, off + j, none⟩ := by unfold Addr.add; split <;> simp_all
    rw [hadd]
    exact hc X (z4c HSS.out gX) j u hu) (zqe fun p hp => z12b (hlk p hp)) 3
  all_goals have r2' := r2.grown g3 (by simp; exact fun e => hne e.symm)
  all_goals have s0 := r2.cell (i := 0) rfl
  all_goals have gX2 : w.grownBy X2 none := z2k gX g3 (by omega)
  all_goals have s1 := r2'.cell (i := 0) rfl
  all_goals have GX2 := Go.Lib.hid gX2
  all_goals have RX := Go.Lib.hid rX
  all_goals have R2 := Go.Lib.hid r2'
  all_goals have HLL := Go.Lib.hid hll
  all_goals have NE := Go.Lib.hid hne
  all_goals have LO := Go.Lib.hid (And.intro hbl hql)
  all_goals have kx0 := g2.cell k0 (by simp)
  all_goals have kx := g3.cell kx0 (by simp; omega)
  all_goals have krx := (KR.out.grown g2 (by simp)).grown g3 (by simp; omega)
  all_goals have KRX := Go.Lib.hid krx
  all_goals clear r1 r2 r2' g2 g3 gX gX2 rX hne hbl hql k0 k1 hlm hlk hcells hll hmtn KR krx
  all_goals go_wp2
  all_goals go_loopw [21] (fun i wr => ∃ (k : Nat) (l1 : List (TenT.den × Value)), i = .int .i64 (k : Int) /\ k <= n /\ l1.map (·.1) = ts.take k /\ w.grownBy wr none /\ RowAt wr q [Value.slice (some ⟨b, 0, none⟩) n n, Value.int IntKind.i64 ser] 24 /\ RowAt wr b (z9 (l1 ++ l.drop k)) 41 /\ z12r w wr b q l1 /\ RowAt wr (w.heap.size + 1) [Value.slice none 0 0, Value.int IntKind.i64 0] 24) (fun i _ => n - (Go.RowKit.intOf i).toNat)
  case' atStart => exact ⟨0, [], rfl, Nat.zero_le _, rfl, GX2.out, R2.out, RX.out, ⟨fun i h => absurd h (by simp), fun i j hi => absurd hi (by simp)⟩, KRX.out⟩
  case' atStart => exact ⟨0, [], rfl, Nat.zero_le _, rfl, GX2.out, R2.out, RX.out, ⟨fun i h => absurd h (by simp), fun i j hi => absurd hi (by simp)⟩, KRX.out⟩
  all_goals obtain ⟨k, l1, rfl, hk, hm1, hgr, hqr, hbr, hKr, hrr⟩ := hrel
  all_goals have HGR := Go.Lib.hid hgr
  all_goals have HQR := Go.Lib.hid hqr
  all_goals have HBR := Go.Lib.hid hbr
  all_goals have HKR := Go.Lib.hid hKr
  all_goals have HM1 := Go.Lib.hid hm1
  all_goals have HRR := Go.Lib.hid hrr
  all_goals clear hgr hqr hbr hKr hm1 hrr s0 s1 kx0 kx
  all_goals (
    rcases Nat.lt_or_ge k n with hlt | hge
    . have hb1 : (0 : Int) <= (k : Int) := by omega
      have hb2 : (k : Int) < (n : Int) := by omega
      have hd : decide ((k : Int) < (n : Int)) = true := decide_eq_true hb2
      obtain ⟨hlm, hlk, hcells⟩ := HL.out
      obtain ⟨bt, off, hab, hc⟩ := hcells (by rw [<- HN.out]; omega)
      subst hab
      have hkl : k < l.length := by rw [HLL.out]; exact hlt
      obtain ⟨z0, z1, z2, z3⟩ := z6f hkl
      have hSr := z4c HSS.out HGR.out
      have y0 := hc wr hSr _ _ z0
      have y1 := hc wr hSr _ _ z1
      have y2 := hc wr hSr _ _ z2
      have y3 := hc wr hSr _ _ z3
      rw [<- Nat.add_assoc] at y1 y2 y3
      obtain ⟨ka, kc, hkv, hksrc⟩ := zrt (hlk _ (List.getElem_mem hkl))
      have hkm : l[k].1.2.2.2.1.length <= 1000 := by
        refine HK.out l[k].1 ?_
        rw [<- hlm]
        exact List.mem_map_of_mem (List.getElem_mem hkl)
      have hbc : RowAt wr b (z9 (l1 ++ l.drop k)) 41 := HBR.out
      have hl1 : l1.length = k := by
        have := congrArg List.length HM1.out
        rw [List.length_map, List.length_take, <- HN.out] at this
        omega
      have hold : (z9 (l1 ++ l.drop k))[k * 4 + 3]? = some l[k].2 := by
        have hx : k < (l1 ++ l.drop k).length := by rw [List.length_append, hl1, List.length_drop]; omega
        have := (z6f hx).2.2.2
        rw [this]
        congr 1
        rw [List.getElem_append_right (by omega)]
        simp [hl1]
      have HP := Go.Lib.hid (And.intro hl1 (And.intro hksrc hkm))
      rw [hkv] at y3 hold
      have hmk : ∀ W, (Instr.makeSlice 39 (.int .i64 (l[k].1.2.2.2.1.length : Int)) (.int .i64 (l[k].1.2.2.2.1.length : Int))).run Go.Proofs.Try.prog W = .ok (.slice (some ⟨W.heap.size, 0, none⟩) l[k].1.2.2.2.1.length l[k].1.2.2.2.1.length) (W.alloc (.cells (zk l[k].1.2.2.2.1.length).toArray 43)) := fun W => HMK.out _ W hkm
      obtain ⟨tk, htk⟩ : ∃ tk, tk = l[k] := ⟨_, rfl⟩
      have HTK := Go.Lib.hid htk
      rw [<- htk] at y0 y1 y2 y3 hmk hold
      obtain ⟨m, hm⟩ : ∃ m, m = tk.1.2.2.2.1.length := ⟨_, rfl⟩
      have HMM := Go.Lib.hid hm
      rw [<- hm] at y3 hmk hold
      have KV := Go.Lib.hid hkv
      clear hlm hlk hcells hc z0 z1 z2 z3 hSr hkv hksrc hkm htk hm hl1
      go_upto_region 6 with (fail)
      have t3 : (wr.alloc (.cells #[.string ⟨⟨tk.1.1⟩⟩, .int .i64 tk.1.2.1, .int .i64 tk.1.2.2.1, .slice ka m kc] 41)).cell? ⟨wr.heap.size, 3, none⟩ = some (.slice ka m kc) := by rw [World.cell?_alloc_at _ _ _ _ rfl]; rfl
      have rq5 := HQR.out.alloc (.cells #[.string ⟨⟨tk.1.1⟩⟩, .int .i64 tk.1.2.1, .int .i64 tk.1.2.2.1, .slice ka m kc] 41)
      have rb5 := hbc.alloc (.cells #[.string ⟨⟨tk.1.1⟩⟩, .int .i64 tk.1.2.1, .int .i64 tk.1.2.2.1, .slice ka m kc] 41)
      have g5 := World.grownBy_alloc wr (.cells #[.string ⟨⟨tk.1.1⟩⟩, .int .i64 tk.1.2.1, .int .i64 tk.1.2.2.1, .slice ka m kc] 41) none
      have sz5 : wr.heap.size < (wr.alloc (.cells #[.string ⟨⟨tk.1.1⟩⟩, .int .i64 tk.1.2.1, .int .i64 tk.1.2.2.1, .slice ka m kc] 41)).heap.size := by simp
      generalize wr.alloc (.cells #[.string ⟨⟨tk.1.1⟩⟩, .int .i64 tk.1.2.1, .int .i64 tk.1.2.2.1, .slice ka m kc] 41) = W5 at t3 rq5 rb5 g5 sz5 ⊢
      have q5 := rq5.cell (i := 0) rfl
      have b5 := rb5.cell hold
      have f5 := rb5.free (i := k * 4 + 3)
      have f6 := (rb5.alloc (.cells (zk m).toArray 43)).free (i := k * 4 + 3)
      have b6 := (rb5.alloc (.cells (zk m).toArray 43)).cell hold
      have htb : wr.heap.size ≠ b := by have := hbc.lt; omega
      have hqb : q ≠ b := fun e => NE.out e.symm
      go_region_held3 (fun w' => World.cell? w' ⟨wr.heap.size, 3, none⟩ = some (.slice ka m kc) /\ World.cell? w' ⟨q, 0, none⟩ = some (.slice (some ⟨b, 0, none⟩) n n)) (first | assumption | exact ⟨t3, q5⟩ | exact ⟨z10 t3, z10 q5⟩ | exact ⟨z19 (z10 t3) htb, z19 (z10 q5) hqb⟩ | go_keep) (fail)
      rename_i hHd
      obtain ⟨hd3, hq0⟩ := hHd
      have yq := ((rq5.alloc (.cells (zk m).toArray 43)).set_other (fun e => hqb e.symm) (k * 4 + 3) (.slice (some ⟨W5.heap.size, 0, none⟩) m m)).drew
      have yb := ((rb5.alloc (.cells (zk m).toArray 43)).set (k * 4 + 3) (.slice (some ⟨W5.heap.size, 0, none⟩) m m)).drew
      have hbn5 : b ≠ W5.heap.size := by have := rb5.lt; omega
      have hqn5 : q ≠ W5.heap.size := by have := rq5.lt; omega
      have yn := ((RowAt.new W5 (zk m) 43).set_other hbn5 (k * 4 + 3) (.slice (some ⟨W5.heap.size, 0, none⟩) m m)).drew
      have yg : wr.grownBy ((W5.alloc (.cells (zk m).toArray 43)).setCell ⟨b, k * 4 + 3, none⟩ (.slice (some ⟨W5.heap.size, 0, none⟩) m m)).drew (some b) := by
        refine za ?_
        have h1 : wr.grownBy (W5.alloc (.cells (zk m).toArray 43)) none := g5.trans38 (World.grownBy_alloc W5 _ none)
        exact ⟨h1.os, h1.tape, h1.output, by simp only [World.setCell, Array.size_modify]; exact h1.size, fun k' hk' hne => ((z1y (w := W5.alloc (.cells (zk m).toArray 43)) (g := b) (i := k * 4 + 3) (.slice (some ⟨W5.heap.size, 0, none⟩) m m)).block k' (Nat.lt_of_lt_of_le hk' h1.size) hne).trans (h1.block k' hk' (by simp))⟩
      have hn5 : wr.heap.size <= W5.heap.size := Nat.le_of_lt sz5
      have sz5n := sz5
      obtain ⟨Y, hY⟩ : ∃ Y, Y = ((W5.alloc (.cells (zk m).toArray 43)).setCell ⟨b, k * 4 + 3, none⟩ (.slice (some ⟨W5.heap.size, 0, none⟩) m m)).drew := ⟨_, rfl⟩
      obtain ⟨nb, hnb⟩ : ∃ nb, nb = W5.heap.size := ⟨_, rfl⟩
      rw [<- hY] at yq yb yn yg hd3 hq0 ⊢
      rw [<- hnb] at yb yn hbn5 hqn5 hn5 sz5n ⊢
      clear hY hnb t3 rq5 rb5 g5 sz5 q5 b5 f5 f6 b6
      have hgY := z2k HGR.out yg (by have := LO.out; omega)
      have hSY := z4c HSS.out hgY
      have HPo := HP.out
      rw [<- HTK.out, <- HMM.out] at HPo
      obtain ⟨X7, hcp7, r7, g7⟩ := zvf (W := Y.drew) (dT := 39) (elem := 43) (sz := 2) (n := m) (cap := kc) (a := ka) (cur := zk m) (cs := zr tk.1.2.2.2.1) (by kernel_rfl) Go.Proofs.Try.underlying39 yn.drew (hzk m) (by rw [z6q, HMM.out]) (fun h0 => by
        obtain ⟨ad, e, hh⟩ := HPo.2.1 h0
        exact ⟨ad, e, fun j u hu => hh Y hSY j u hu⟩) (zks _) 3
      have q0 := yq.cell (i := 0) rfl
      have b0 := yb.cell (i := k * 4 + 3) (v := .slice (some ⟨nb, 0, none⟩) m m) (by rw [List.getElem?_set_self]; exact (List.getElem?_eq_some_iff.1 hold).1)
      have q7 := g7.cell (a := ⟨q, 0, none⟩) q0 (fun e => hqn5 (by simpa using e))
      have b7 := g7.cell (a := ⟨b, k * 4 + 3, none⟩) b0 (fun e => hbn5 (by simpa using e))
      have t7 := g7.cell (a := ⟨wr.heap.size, 3, none⟩) hd3 (fun e => by have hlt5 : wr.heap.size < nb := sz5n; simp at e; omega)
      have HH7 := Go.Lib.hid (And.intro r7 (And.intro g7 (And.intro yq (And.intro yb (And.intro yg (And.intro hbn5 (And.intro hqn5 (And.intro hn5 HPo))))))))
      clear r7 g7 yq yb yg hbn5 hqn5 hn5 hgY hSY HPo yn
      go_wp2
      go_region_held3 (fun w' => World.cell? w' ⟨wr.heap.size, 3, none⟩ = some (.slice ka m kc) /\ World.cell? w' ⟨q, 0, none⟩ = some (.slice (some ⟨b, 0, none⟩) n n) /\ World.cell? w' ⟨b, k * 4 + 3, none⟩ = some (.slice (some ⟨nb, 0, none⟩) m m)) (first | assumption | exact ⟨hd3, q0, b0⟩ | exact ⟨t7, q7, b7⟩ | go_keep) (fail)
      all_goals go_wp2
      all_goals (
        obtain ⟨r7, g7, yq, yb, yg, hbn5, hqn5, hn5, hl1, _, _⟩ := HH7.out
        have h7 : Y.grownBy X7 (some nb) := ⟨g7.os, g7.tape, g7.output, g7.size, g7.block⟩
        have hmp : (l1 ++ [(tk.1, Value.slice (some ⟨nb, 0, none⟩) m m)]).map (·.1) = ts.take (k + 1) := by
          have e1 : ts[k]? = some tk.1 := by
            rw [<- HL.out.1, List.getElem?_map, List.getElem?_eq_getElem hkl, <- HTK.out]
            rfl
          rw [List.map_append, HM1.out, List.take_add_one, e1]
          rfl
        have hg2 : w.grownBy X7 none := z2k (z2k HGR.out yg (by have := LO.out; omega)) h7 (by have := HGR.out.size; omega)
        have hstep : ∀ kb cs e, kb ≠ b -> RowAt wr kb cs e -> RowAt X7 kb cs e := fun kb cs e h1 h2 => zt2 yg h7 hn5 h1 h2
        refine ⟨⟨k + 1, l1 ++ [(tk.1, .slice (some ⟨nb, 0, none⟩) m m)], by simp, by omega, hmp, hg2, hstep _ _ _ (fun e => hqb (by simpa using e)) HQR.out, ?_, ?_, hstep _ _ _ (by have := LO.out; omega) HRR.out⟩, ?_⟩
        . have hx : k < (l1 ++ l.drop k).length := by rw [List.length_append, hl1, List.length_drop]; omega
          have := zx2 hx (.slice (some ⟨nb, 0, none⟩) m m)
          rw [this] at yb
          have e1 : (l1 ++ l.drop k).take k = l1 := by rw [<- hl1, List.take_left]
          have e2 : (l1 ++ l.drop k).drop (k + 1) = l.drop (k + 1) := by
            rw [<- hl1, List.drop_append]
            simp [hl1]
          have e3 : (l1 ++ l.drop k)[k] = tk := by
            rw [List.getElem_append_right (by omega), HTK.out]
            simp [hl1]
          rw [e1, e2, e3] at yb
          rw [List.append_assoc]
          exact (yb.drew).grown g7 (by simpa using hbn5)
        . exact zw8 HKR.out hstep hn5 (by have h1 := HBR.out.lt; have := LO.out; omega) (fun e => hbn5 e.symm) (fun e => hqn5 e.symm) (by rw [<- HMM.out]) r7
        . have h1 : (Go.RowKit.intOf (Value.int IntKind.i64 ((k : Int) + 1))).toNat = k + 1 := by simp [Go.RowKit.intOf]
          have h2 : (Go.RowKit.intOf (Value.int IntKind.i64 (k : Int))).toNat = k := by simp [Go.RowKit.intOf]
          rw [h1, h2]
          omega)
    . have hb1 : (0 : Int) <= (k : Int) := by omega
      have hd : decide ((k : Int) < (n : Int)) = false := decide_eq_false (by omega)
      have hkn : k = n := by omega
      subst hkn
      have q0 := HQR.out.cell (i := 0) rfl
      have q1 := HQR.out.cell (i := 1) rfl
      have r0 := HRR.out.cell (i := 0) rfl
      have r1 := HRR.out.cell (i := 1) rfl
      have f0 := HRR.out.free (i := 0)
      have f1 := HRR.out.free (i := 1)
      have rs := HRR.out.set 0 (.slice (some ⟨b, 0, none⟩) k k)
      have r1' := rs.cell (i := 1) rfl
      have f1' := rs.free (i := 1)
      go_wp2
      have rs2 := rs.set 1 (.int .i64 ser)
      refine bodyPost_ret (results_cell_row (g := w.heap.size + 1) rfl _ _ _ _ _ _ rfl rs2 Go.Proofs.Try.underlying24 rfl (by kernel_rfl)) rfl ?_
      . have hlr : w.heap.size + 1 ≠ b := by have := LO.out; omega
        have hgE : w.grownBy ((wr.setCell ⟨w.heap.size + 1, 0, none⟩ (.slice (some ⟨b, 0, none⟩) k k)).setCell ⟨w.heap.size + 1, 1, none⟩ (.int .i64 ser)) none := z2k (z2k HGR.out (z1y _) (by omega)) (z1y _) (by omega)
        have hml : l1.map (·.1) = ts := by rw [HM1.out, HN.out, List.take_length]
        have hl1 : l1.length = k := by rw [HN.out, <- hml, List.length_map]
        have hbr := HBR.out
        rw [List.drop_of_length_le (by rw [HLL.out]; exact Nat.le_refl _), List.append_nil] at hbr
        have := HR.out b l1 _ hml hgE ⟨by have := LO.out; omega, (hbr.set_other hlr _ _).set_other hlr _ _, fun i hi => ?_, HKR.out.2⟩
        . rw [<- HN.out] at this
          exact this
        . obtain ⟨kb, e1, e2, e3, e4, e5⟩ := HKR.out.1 i hi
          have e6 : w.heap.size + 1 ≠ kb := by omega
          exact ⟨kb, e1, by omega, e3, (e5.set_other e6 _ _).set_other e6 _ _⟩)

end
end Go.Proofs.YtlohplpnhopldaaLg

set_option linter.all false
set_option maxRecDepth 100000
namespace Go.Proofs.YtlohplpnhopldaaLg
noncomputable section
open Go Go.Lift Go.Proofs

set_option maxHeartbeats 2000000 in
theorem zfc {w : World} {g n i vb c : Nat} {cs vs : List Value} (hs : RowAt w g cs 41) (hc : cs.length = n * 4) (h1 : ∀ v ∈ cs, v.oneCell' = true) (hv : RowAt w vb vs 41) (hvl : vs.length = 4) (h2 : ∀ v ∈ vs, v.oneCell' = true) (hin : i <= n) (hn : n < 256) :
    Calls Go.Proofs.Try.prog 59 #[.slice (some ⟨g, 0, none⟩) n n, .int .i64 (i : Int), .slice (some ⟨vb, 0, none⟩) 1 c] w fun r w' => ∃ nb cap sp, r = .returned (.slice (some ⟨nb, 0, none⟩) (n + 1) cap) /\ n + 1 <= cap /\ w.heap.size <= nb /\ RowAt w' nb (cs.take (i * 4) ++ vs ++ cs.drop (i * 4) ++ sp) 41 /\ w.grownBy w' none := by
  suffices HX : ∀ R : Ending -> World -> Prop, Go.RowKit.Hid (∀ nb cap sp w', n + 1 <= cap -> w.heap.size <= nb -> RowAt w' nb (cs.take (i * 4) ++ vs ++ cs.drop (i * 4) ++ sp) 41 -> w.grownBy w' none -> R (.returned (.slice (some ⟨nb, 0, none⟩) (n + 1) cap)) w') -> Calls Go.Proofs.Try.prog 59 #[.slice (some ⟨g, 0, none⟩) n n, .int .i64 (i : Int), .slice (some ⟨vb, 0, none⟩) 1 c] w R from HX _ (Go.Lib.hid (fun nb cap sp w' q1 q2 q3 q4 => ⟨nb, cap, sp, rfl, q1, q2, q3, q4⟩))
  intro R HR
  obtain ⟨inf, i1, i2, i3, z, i4, i5⟩ := ty41_ok.info
  have i2' : inf.size = 4 := i2
  have i3' : inf.bytes = 56 := i3
  have hb0 : (0 : Int) <= (i : Int) := by omega
  have hb1 : (i : Int) <= (n : Int) := by omega
  have hb2 : (n : Int) <= 256 := by omega
  rcases Nat.lt_or_ge i n with hlt | hge
  . have hmm : ((n + 1 - i : Nat) : Int) = (n : Int) + 1 - (i : Int) := by omega
    have hzl : z.cells.size = inf.size := by
      have h := i5.cells.length
      rw [Array.length_toList] at h
      rw [i2', h]
      rfl
    obtain ⟨cap, zs, sp, W', ha, q1, q2, q3, q4⟩ := zv2 (P := Go.Proofs.Try.prog) (t := 22) (tx := 3) (ty := 22) Go.Proofs.Try.underlying22 Go.Proofs.Try.underlying3 i1 i4 hzl (by omega) (by omega) hs (by rw [hc, i2']) hin (m := n + 1 - i) (by omega) hn
    rw [hmm] at ha
    have HH := Go.Lib.hid (And.intro q1 (And.intro q2 (And.intro q3 q4)))
    clear q1 q2 q3 q4
    have hci : ¬ cap = i := by have := HH.out.1; omega
    have hci1 : ¬ cap = i + 1 := by have := HH.out.1; omega
    have hni : ¬ n = i := by omega
    have hgS : g ≠ w.heap.size := Nat.ne_of_lt hs.lt
    have hvS : vb ≠ w.heap.size := Nat.ne_of_lt hv.lt
    obtain ⟨o, ho⟩ : ∃ o, o = w.heap.size := ⟨_, rfl⟩
    have HO := Go.Lib.hid ho
    have hadd : ∀ b f j, (⟨b, f, none⟩ : Addr).add j = ⟨b, f + j, none⟩ := fun b f j => by unfold Addr.add; split <;> simp_all
    rw [<- ho] at ha HH hgS hvS
    obtain ⟨q1, q2, q3, q4⟩ := HH.out
    have hgW := hs.grown q4 (by simp)
    have hvW := hv.grown q4 (by simp)
    have hl1 : (cs.take (i * 4)).length = i * 4 := by rw [List.length_take, hc]; omega
    have q3' := q3
    rw [i2'] at q3' q2
    have hc1 := z53 (P := Go.Proofs.Try.prog) (w := W') 22 22 3 41 inf o (i * 4) (n + 1 - i) (cap - i) ⟨vb, 0, none⟩ 1 c 1 (cs.take (i * 4) ++ zs ++ sp) 41 vs Go.Proofs.Try.underlying22 i1 q3' (by simp only [Nat.min_def]; split <;> omega) (by rw [hvl, i2'])
      (fun j v hj => by rw [hadd, Nat.zero_add]; exact hvW.cell hj) (by simp only [List.length_append]; omega) h2
    have hw1 := z7s (ds := (cs.take (i * 4) ++ zs ++ sp).take (i * 4) ++ vs ++ (cs.take (i * 4) ++ zs ++ sp).drop (i * 4 + vs.length)) q3'
    have gw1 := z3s (w := W') (w0 := W') (g := o) ((cs.take (i * 4) ++ zs ++ sp).take (i * 4) ++ vs ++ (cs.take (i * 4) ++ zs ++ sp).drop (i * 4 + vs.length)).toArray
    obtain ⟨W1, hW1⟩ : ∃ W1, W1 = W'.setRow o ((cs.take (i * 4) ++ zs ++ sp).take (i * 4) ++ vs ++ (cs.take (i * 4) ++ zs ++ sp).drop (i * 4 + vs.length)).toArray := ⟨_, rfl⟩
    rw [<- hW1] at hc1 hw1 gw1
    clear hW1 ho
    have hD1 : (cs.take (i * 4) ++ zs ++ sp).take (i * 4) = cs.take (i * 4) := by rw [List.append_assoc, List.take_left' hl1]
    obtain ⟨D1, hD⟩ : ∃ D1, D1 = (cs.take (i * 4) ++ zs ++ sp).take (i * 4) ++ vs ++ (cs.take (i * 4) ++ zs ++ sp).drop (i * 4 + vs.length) := ⟨_, rfl⟩
    have hDl : D1.length = (n + 1) * 4 + sp.length := by
      rw [hD]
      simp only [List.length_append, List.length_take, List.length_drop, hc, q2, hvl]
      omega
    have hDt : D1.take ((i + 1) * 4) = cs.take (i * 4) ++ vs := by
      rw [hD, hD1, List.take_left' (by rw [List.length_append, hl1, hvl]; omega)]
    rw [<- hD] at hw1
    clear hD hD1
    have hgW1 := hgW.grown gw1 (by simpa using hgS)
    have hc2 := z53 (P := Go.Proofs.Try.prog) (w := W1.drew) 22 22 3 41 inf o ((i + 1) * 4) (n - i) (cap - (i + 1)) ⟨g, i * 4, none⟩ (n - i) (n - i) (n - i) D1 41 (cs.drop (i * 4)) Go.Proofs.Try.underlying22 i1 hw1.drew (by simp only [Nat.min_def]; split <;> omega) (by rw [List.length_drop, hc, i2']; omega)
      (fun j v hj => by rw [hadd]; exact hgW1.drew.cell (by rw [List.getElem?_drop] at hj; exact hj)) (by simp only [List.length_drop, hDl, hc]; omega) (fun v hv => h1 v (List.mem_of_mem_drop hv))
    have hw2 := z7s (ds := D1.take ((i + 1) * 4) ++ cs.drop (i * 4) ++ D1.drop ((i + 1) * 4 + (cs.drop (i * 4)).length)) hw1.drew
    have gw2 := z3s (w := W1.drew) (w0 := W1.drew) (g := o) (D1.take ((i + 1) * 4) ++ cs.drop (i * 4) ++ D1.drop ((i + 1) * 4 + (cs.drop (i * 4)).length)).toArray
    obtain ⟨W2, hW2⟩ : ∃ W2, W2 = W1.drew.setRow o (D1.take ((i + 1) * 4) ++ cs.drop (i * 4) ++ D1.drop ((i + 1) * 4 + (cs.drop (i * 4)).length)).toArray := ⟨_, rfl⟩
    rw [<- hW2] at hc2 hw2 gw2
    rw [hDt] at hw2
    have hK1 := Go.Lib.hid hw2
    have hg12 : w.grownBy W2 none := z2k (z2k q4 gw1 (by have := HO.out; omega)) (show W1.grownBy W2 (some o) from ⟨gw2.os, gw2.tape, gw2.output, gw2.size, gw2.block⟩) (by have := HO.out; omega)
    have hK2 := Go.Lib.hid hg12
    clear hW2 hDl hDt hgW1 hw1 hw2 gw2 hg12
    clear gw1 q1 q2 q3 q4 q3' hgW hvW
    have hd : decide ((i : Int) = (n : Int)) = false := decide_eq_false (by omega)
    have hne : ¬ ((i : Int) = (n : Int)) := by omega
    have hgt : decide ((n : Int) < (n : Int) + 1) = true := decide_eq_true (by omega)
    go_enter Go.Proofs.Try.func59, Go.Proofs.Try.ntmps59
    go_wp2_with (first | (at_builtin; refine z3u _ rfl _ _ _ rfl _ _ rfl rfl ha ?_) | go_in)
    have hz1 : (0 : Int) <= (i : Int) + 1 := by omega
    have hz2 : (i : Int) + 1 <= (n : Int) + 1 := by omega
    have ht1 : ((i : Int) + 1).toNat = i + 1 := by omega
    have hwr : IntKind.i64.wrap ((i : Int) + 1) = (i : Int) + 1 := by rw [IntKind.wrap_i64]; omega
    go_region_held3 (fun _ => True) (first | assumption | exact trivial | go_keep) (fail)
    all_goals go_wp2
    all_goals exact HR.out o cap _ W2 HH.out.1 (by have := HO.out; omega) hK1.out hK2.out
  . have hie : i = n := by omega
    subst hie
    obtain ⟨cap, sp, W', ha, q1, q2, q3⟩ := zna (P := Go.Proofs.Try.prog) (t := 22) (ty := 22) Go.Proofs.Try.underlying22 i1 i4 (by omega) hs (by rw [hc, i2']) hv (by rw [hvl, i2']) hn (c := c)
    have HH := Go.Lib.hid (And.intro q1 (And.intro q2 q3))
    clear q1 q2 q3
    go_enter Go.Proofs.Try.func59, Go.Proofs.Try.ntmps59
    go_wp2_with (first | (at_builtin; refine z3u _ rfl _ _ _ rfl _ _ rfl rfl ha ?_) | go_in)
    obtain ⟨q1, q2, q3⟩ := HH.out
    refine HR.out w.heap.size cap sp W' q1 (Nat.le_refl _) ?_ q3
    rw [List.take_of_length_le (by omega), List.drop_of_length_le (by omega), List.append_nil]
    exact q2

set_option maxHeartbeats 2000000 in
theorem zmr {w : World} {g n i vb c : Nat} {cs vs : List Value} (hs : RowAt w g cs 43) (hc : cs.length = n * 2) (h1 : ∀ v ∈ cs, v.oneCell' = true) (hv : RowAt w vb vs 43) (hvl : vs.length = 2) (h2 : ∀ v ∈ vs, v.oneCell' = true) (hin : i <= n) (hn : n < 256) :
    Calls Go.Proofs.Try.prog 60 #[.slice (some ⟨g, 0, none⟩) n n, .int .i64 (i : Int), .slice (some ⟨vb, 0, none⟩) 1 c] w fun r w' => ∃ nb cap sp, r = .returned (.slice (some ⟨nb, 0, none⟩) (n + 1) cap) /\ n + 1 <= cap /\ w.heap.size <= nb /\ RowAt w' nb (cs.take (i * 2) ++ vs ++ cs.drop (i * 2) ++ sp) 43 /\ w.grownBy w' none := by
  suffices HX : ∀ R : Ending -> World -> Prop, Go.RowKit.Hid (∀ nb cap sp w', n + 1 <= cap -> w.heap.size <= nb -> RowAt w' nb (cs.take (i * 2) ++ vs ++ cs.drop (i * 2) ++ sp) 43 -> w.grownBy w' none -> R (.returned (.slice (some ⟨nb, 0, none⟩) (n + 1) cap)) w') -> Calls Go.Proofs.Try.prog 60 #[.slice (some ⟨g, 0, none⟩) n n, .int .i64 (i : Int), .slice (some ⟨vb, 0, none⟩) 1 c] w R from HX _ (Go.Lib.hid (fun nb cap sp w' q1 q2 q3 q4 => ⟨nb, cap, sp, rfl, q1, q2, q3, q4⟩))
  intro R HR
  obtain ⟨inf, i1, i2, i3, z, i4, i5⟩ := ty43_ok.info
  have i2' : inf.size = 2 := i2
  have i3' : inf.bytes = 24 := i3
  have hb0 : (0 : Int) <= (i : Int) := by omega
  have hb1 : (i : Int) <= (n : Int) := by omega
  have hb2 : (n : Int) <= 256 := by omega
  rcases Nat.lt_or_ge i n with hlt | hge
  . have hmm : ((n + 1 - i : Nat) : Int) = (n : Int) + 1 - (i : Int) := by omega
    have hzl : z.cells.size = inf.size := by
      have h := i5.cells.length
      rw [Array.length_toList] at h
      rw [i2', h]
      rfl
    obtain ⟨cap, zs, sp, W', ha, q1, q2, q3, q4⟩ := zv2 (P := Go.Proofs.Try.prog) (t := 39) (tx := 3) (ty := 39) Go.Proofs.Try.underlying39 Go.Proofs.Try.underlying3 i1 i4 hzl (by omega) (by omega) hs (by rw [hc, i2']) hin (m := n + 1 - i) (by omega) hn
    rw [hmm] at ha
    have HH := Go.Lib.hid (And.intro q1 (And.intro q2 (And.intro q3 q4)))
    clear q1 q2 q3 q4
    have hci : ¬ cap = i := by have := HH.out.1; omega
    have hci1 : ¬ cap = i + 1 := by have := HH.out.1; omega
    have hni : ¬ n = i := by omega
    have hgS : g ≠ w.heap.size := Nat.ne_of_lt hs.lt
    have hvS : vb ≠ w.heap.size := Nat.ne_of_lt hv.lt
    obtain ⟨o, ho⟩ : ∃ o, o = w.heap.size := ⟨_, rfl⟩
    have HO := Go.Lib.hid ho
    have hadd : ∀ b f j, (⟨b, f, none⟩ : Addr).add j = ⟨b, f + j, none⟩ := fun b f j => by unfold Addr.add; split <;> simp_all
    rw [<- ho] at ha HH hgS hvS
    obtain ⟨q1, q2, q3, q4⟩ := HH.out
    have hgW := hs.grown q4 (by simp)
    have hvW := hv.grown q4 (by simp)
    have hl1 : (cs.take (i * 2)).length = i * 2 := by rw [List.length_take, hc]; omega
    have q3' := q3
    rw [i2'] at q3' q2
    have hc1 := z53 (P := Go.Proofs.Try.prog) (w := W') 39 39 3 43 inf o (i * 2) (n + 1 - i) (cap - i) ⟨vb, 0, none⟩ 1 c 1 (cs.take (i * 2) ++ zs ++ sp) 43 vs Go.Proofs.Try.underlying39 i1 q3' (by simp only [Nat.min_def]; split <;> omega) (by rw [hvl, i2'])
      (fun j v hj => by rw [hadd, Nat.zero_add]; exact hvW.cell hj) (by simp only [List.length_append]; omega) h2
    have hw1 := z7s (ds := (cs.take (i * 2) ++ zs ++ sp).take (i * 2) ++ vs ++ (cs.take (i * 2) ++ zs ++ sp).drop (i * 2 + vs.length)) q3'
    have gw1 := z3s (w := W') (w0 := W') (g := o) ((cs.take (i * 2) ++ zs ++ sp).take (i * 2) ++ vs ++ (cs.take (i * 2) ++ zs ++ sp).drop (i * 2 + vs.length)).toArray
    obtain ⟨W1, hW1⟩ : ∃ W1, W1 = W'.setRow o ((cs.take (i * 2) ++ zs ++ sp).take (i * 2) ++ vs ++ (cs.take (i * 2) ++ zs ++ sp).drop (i * 2 + vs.length)).toArray := ⟨_, rfl⟩
    rw [<- hW1] at hc1 hw1 gw1
    clear hW1 ho
    have hD1 : (cs.take (i * 2) ++ zs ++ sp).take (i * 2) = cs.take (i * 2) := by rw [List.append_assoc, List.take_left' hl1]
    obtain ⟨D1, hD⟩ : ∃ D1, D1 = (cs.take (i * 2) ++ zs ++ sp).take (i * 2) ++ vs ++ (cs.take (i * 2) ++ zs ++ sp).drop (i * 2 + vs.length) := ⟨_, rfl⟩
    have hDl : D1.length = (n + 1) * 2 + sp.length := by
      rw [hD]
      simp only [List.length_append, List.length_take, List.length_drop, hc, q2, hvl]
      omega
    have hDt : D1.take ((i + 1) * 2) = cs.take (i * 2) ++ vs := by
      rw [hD, hD1, List.take_left' (by rw [List.length_append, hl1, hvl]; omega)]
    rw [<- hD] at hw1
    clear hD hD1
    have hgW1 := hgW.grown gw1 (by simpa using hgS)
    have hc2 := z53 (P := Go.Proofs.Try.prog) (w := W1.drew) 39 39 3 43 inf o ((i + 1) * 2) (n - i) (cap - (i + 1)) ⟨g, i * 2, none⟩ (n - i) (n - i) (n - i) D1 43 (cs.drop (i * 2)) Go.Proofs.Try.underlying39 i1 hw1.drew (by simp only [Nat.min_def]; split <;> omega) (by rw [List.length_drop, hc, i2']; omega)
      (fun j v hj => by rw [hadd]; exact hgW1.drew.cell (by rw [List.getElem?_drop] at hj; exact hj)) (by simp only [List.length_drop, hDl, hc]; omega) (fun v hv => h1 v (List.mem_of_mem_drop hv))
    have hw2 := z7s (ds := D1.take ((i + 1) * 2) ++ cs.drop (i * 2) ++ D1.drop ((i + 1) * 2 + (cs.drop (i * 2)).length)) hw1.drew
    have gw2 := z3s (w := W1.drew) (w0 := W1.drew) (g := o) (D1.take ((i + 1) * 2) ++ cs.drop (i * 2) ++ D1.drop ((i + 1) * 2 + (cs.drop (i * 2)).length)).toArray
    obtain ⟨W2, hW2⟩ : ∃ W2, W2 = W1.drew.setRow o (D1.take ((i + 1) * 2) ++ cs.drop (i * 2) ++ D1.drop ((i + 1) * 2 + (cs.drop (i * 2)).length)).toArray := ⟨_, rfl⟩
    rw [<- hW2] at hc2 hw2 gw2
    rw [hDt] at hw2
    have hK1 := Go.Lib.hid hw2
    have hg12 : w.grownBy W2 none := z2k (z2k q4 gw1 (by have := HO.out; omega)) (show W1.grownBy W2 (some o) from ⟨gw2.os, gw2.tape, gw2.output, gw2.size, gw2.block⟩) (by have := HO.out; omega)
    have hK2 := Go.Lib.hid hg12
    clear hW2 hDl hDt hgW1 hw1 hw2 gw2 hg12
    clear gw1 q1 q2 q3 q4 q3' hgW hvW
    have hd : decide ((i : Int) = (n : Int)) = false := decide_eq_false (by omega)
    have hne : ¬ ((i : Int) = (n : Int)) := by omega
    have hgt : decide ((n : Int) < (n : Int) + 1) = true := decide_eq_true (by omega)
    go_enter Go.Proofs.Try.func60, Go.Proofs.Try.ntmps60
    go_wp2_with (first | (at_builtin; refine z3u _ rfl _ _ _ rfl _ _ rfl rfl ha ?_) | go_in)
    have hz1 : (0 : Int) <= (i : Int) + 1 := by omega
    have hz2 : (i : Int) + 1 <= (n : Int) + 1 := by omega
    have ht1 : ((i : Int) + 1).toNat = i + 1 := by omega
    have hwr : IntKind.i64.wrap ((i : Int) + 1) = (i : Int) + 1 := by rw [IntKind.wrap_i64]; omega
    go_region_held3 (fun _ => True) (first | assumption | exact trivial | go_keep) (fail)
    all_goals go_wp2
    all_goals exact HR.out o cap _ W2 HH.out.1 (by have := HO.out; omega) hK1.out hK2.out
  . have hie : i = n := by omega
    subst hie
    obtain ⟨cap, sp, W', ha, q1, q2, q3⟩ := zna (P := Go.Proofs.Try.prog) (t := 39) (ty := 39) Go.Proofs.Try.underlying39 i1 i4 (by omega) hs (by rw [hc, i2']) hv (by rw [hvl, i2']) hn (c := c)
    have HH := Go.Lib.hid (And.intro q1 (And.intro q2 q3))
    clear q1 q2 q3
    go_enter Go.Proofs.Try.func60, Go.Proofs.Try.ntmps60
    go_wp2_with (first | (at_builtin; refine z3u _ rfl _ _ _ rfl _ _ rfl rfl ha ?_) | go_in)
    obtain ⟨q1, q2, q3⟩ := HH.out
    refine HR.out w.heap.size cap sp W' q1 (Nat.le_refl _) ?_ q3
    rw [List.take_of_length_le (by omega), List.drop_of_length_le (by omega), List.append_nil]
    exact q2

set_option maxHeartbeats 2000000 in
theorem zts {w : World} {g k i : Nat} {cs : List Value} (hs : RowAt w g cs 43) (hc : cs.length = (k + 1) * 2) (h1 : ∀ v ∈ cs, v.oneCell' = true) (hi : i <= k) (hn : k < 256) :
    Calls Go.Proofs.Try.prog 61 #[.slice (some ⟨g, 0, none⟩) (k + 1) (k + 1), .int .i64 (i : Int), .int .i64 ((i : Int) + 1)] w fun r w' => ∃ zs, r = .returned (.slice (some ⟨g, 0, none⟩) k (k + 1)) /\ RowAt w' g (cs.take (i * 2) ++ cs.drop ((i + 1) * 2) ++ zs) 43 /\ w.grownBy w' (some g) := by
  suffices HX : ∀ R : Ending -> World -> Prop, Go.RowKit.Hid (∀ zs w', RowAt w' g (cs.take (i * 2) ++ cs.drop ((i + 1) * 2) ++ zs) 43 -> w.grownBy w' (some g) -> R (.returned (.slice (some ⟨g, 0, none⟩) k (k + 1))) w') -> Calls Go.Proofs.Try.prog 61 #[.slice (some ⟨g, 0, none⟩) (k + 1) (k + 1), .int .i64 (i : Int), .int .i64 ((i : Int) + 1)] w R from HX _ (Go.Lib.hid (fun zs w' q1 q2 => ⟨zs, rfl, q1, q2⟩))
  intro R HR
  obtain ⟨inf, i1, i2, i3, z, i4, i5⟩ := ty43_ok.info
  have i2' : inf.size = 2 := i2
  have hzl : z.cells.size = 2 := by
    have h := i5.cells.length
    rw [Array.length_toList] at h
    rw [h]
    rfl
  have hadd : ∀ b f j, (⟨b, f, none⟩ : Addr).add j = ⟨b, f + j, none⟩ := fun b f j => by unfold Addr.add; split <;> simp_all
  have hl1 : (cs.take (i * 2)).length = i * 2 := by rw [List.length_take, hc]; omega
  -- the append
  obtain ⟨D1, hD⟩ : ∃ D1, D1 = cs.take (i * 2) ++ cs.drop ((i + 1) * 2) ++ cs.drop (k * 2) := ⟨_, rfl⟩
  have happ : ∀ a cp, (i < k -> a = some ⟨g, (i + 1) * 2, none⟩) -> (∃ ad, a = some ad) -> (Builtin.append_ #[39, 39] 39 #[.slice (some ⟨g, 0, none⟩) i (k + 1), .slice a (k - i) cp]).run Go.Proofs.Try.prog w.drew = .ok (.slice (some ⟨g, 0, none⟩) k (k + 1)) (w.drew.setRow g D1.toArray) := by
    intro a cp ha ⟨ad, had⟩
    subst had
    have hlen : (cs.drop ((i + 1) * 2)).length = (k - i) * inf.size := by rw [List.length_drop, hc, i2']; omega
    have := run_append_room (P := Go.Proofs.Try.prog) w.drew 39 39 43 inf Go.Proofs.Try.underlying39 i1 g i (k + 1) cs.toArray hs.drew ad (k - i) cp (cs.drop ((i + 1) * 2)) hlen (fun j u hj => by
      have hik : i < k := by
        have h := (List.getElem?_eq_some_iff.1 hj).1
        rw [List.length_drop, hc] at h
        omega
      have e := ha hik
      injection e with e
      rw [e, hadd]
      exact hs.drew.cell (by rw [List.getElem?_drop] at hj; exact hj)) (fun u hu => h1 u (List.mem_of_mem_drop hu)) (by omega) (by simp only [List.size_toArray, hlen, hc, i2']; omega)
    rw [this, show i + (k - i) = k by omega, hlen, i2', show i * 2 + (k - i) * 2 = k * 2 by omega, hD]
  have hw1 : RowAt (w.drew.setRow g D1.toArray) g D1 43 := z7s hs.drew
  have gw1 : w.grownBy (w.drew.setRow g D1.toArray) (some g) := by
    have h := z3s (w := w.drew) (w0 := w.drew) (g := g) D1.toArray
    exact ⟨h.os, h.tape, h.output, h.size, h.block⟩
  have hDl : D1.length = (k + 1) * 2 := by
    rw [hD]
    simp only [List.length_append, List.length_take, List.length_drop, hc]
    omega
  have hDt : D1.take (k * 2) = cs.take (i * 2) ++ cs.drop ((i + 1) * 2) := by
    rw [hD, List.take_left' (by rw [List.length_append, hl1, List.length_drop, hc]; omega)]
  obtain ⟨W1, hW1⟩ : ∃ W1, W1 = w.drew.setRow g D1.toArray := ⟨_, rfl⟩
  simp only [<- hW1] at happ
  rw [<- hW1] at hw1 gw1
  clear hW1
  have hz1 : ∀ u ∈ z.cells.toList, u.oneCell' = true := i5.cells.ones
  have hclr := zpq (P := Go.Proofs.Try.prog) 39 43 0 inf z Go.Proofs.Try.underlying39 i1 i4 g (k * 2) 1 1 D1 43 hw1 (by omega) (by rw [hzl, hDl]; omega) hz1
  have hw2 := z7s (ds := D1.take (k * 2) ++ (Builtin.zeroCells z.cells 1).toList ++ D1.drop (k * 2 + (Builtin.zeroCells z.cells 1).toList.length)) hw1
  have gw2 := z3s (w := W1) (w0 := W1) (g := g) (D1.take (k * 2) ++ (Builtin.zeroCells z.cells 1).toList ++ D1.drop (k * 2 + (Builtin.zeroCells z.cells 1).toList.length)).toArray
  obtain ⟨W2, hW2⟩ : ∃ W2, W2 = W1.setRow g (D1.take (k * 2) ++ (Builtin.zeroCells z.cells 1).toList ++ D1.drop (k * 2 + (Builtin.zeroCells z.cells 1).toList.length)).toArray := ⟨_, rfl⟩
  rw [<- hW2] at hclr hw2 gw2
  rw [hDt, List.append_assoc] at hw2
  clear hW2 hD hDl hDt
  have HK := Go.Lib.hid hw2
  have hgg : w.grownBy W2 (some g) := ⟨gw2.os.trans gw1.os, gw2.tape.trans gw1.tape, gw2.output.trans gw1.output, Nat.le_trans gw1.size gw2.size, fun j hj hne => (gw2.block j (Nat.lt_of_lt_of_le hj gw1.size) hne).trans (gw1.block j hj hne)⟩
  have HG := Go.Lib.hid hgg
  clear hgg gw1 gw2 hw1 hw2 hz1 i5 hzl
  have hb0 : (0 : Int) <= (i : Int) := by omega
  have hb1 : (i : Int) <= (k : Int) := by omega
  have hb2 : (0 : Int) <= (i : Int) + 1 := by omega
  have hb3 : (i : Int) + 1 <= (k : Int) + 1 := by omega
  have hb4 : (i : Int) <= (k : Int) + 1 := by omega
  have hb5 : (i : Int) <= (i : Int) + 1 := by omega
  have ht1 : ((i : Int) + 1).toNat = i + 1 := by omega
  have ht2 : ((k : Int) + 1).toNat = k + 1 := by omega
  have hne : ¬ ((i : Int) = (i : Int) + 1) := by omega
  have hki : ¬ k + 1 = i := by omega
  rcases Nat.lt_or_ge i k with hlt | hge
  . have hci : ¬ k = i := by omega
    have ha := happ (some ⟨g, (i + 1) * 2, none⟩) (k - i) (fun _ => rfl) ⟨_, rfl⟩
    clear happ
    go_enter Go.Proofs.Try.func61, Go.Proofs.Try.ntmps61
    go_wp2
    go_region_held3 (fun _ => True) (first | assumption | exact trivial | go_keep) (first | (rw [if_pos (by rfl)]; refine zg6 _ _ _ rfl _ _ rfl rfl ha ?_))
    all_goals go_wp2
    all_goals exact HR.out _ W2 HK.out HG.out
  . have hie : i = k := by omega
    subst hie
    have ha := happ (some ⟨g, 0, none⟩) 0 (fun h => absurd h (by omega)) ⟨_, rfl⟩
    rw [Nat.sub_self] at ha
    clear happ
    go_enter Go.Proofs.Try.func61, Go.Proofs.Try.ntmps61
    go_wp2
    go_region_held3 (fun _ => True) (first | assumption | exact trivial | go_keep) (first | (rw [if_pos (by rfl)]; refine zg6 _ _ _ rfl _ _ rfl rfl ha ?_))
    all_goals go_wp2
    all_goals exact HR.out _ W2 HK.out HG.out

end
end Go.Proofs.YtlohplpnhopldaaLg

set_option linter.all false
set_option maxRecDepth 100000
namespace Go.Proofs.YtlohplpnhopldaaLg
noncomputable section
open Go Go.Lift Go.Proofs

theorem z6b (S : Hp) : GlobOk zm S := fun k d h => by cases h

theorem zhk {w w' : World} {S : Hp} {args : List A} {vals : List Value} {r : A} {outs : List A} {e : Ending}
    (h : Lift.Ends w S args vals (fun _ => []) r outs e w') : ∃ v o S', e = .returned v /\ ARel (hp w') S' (fun _ => undef) r v o /\ w.grownBy w' none := by
  obtain ⟨v, S', o, ob', rfl, hwf, hSS, hSw, hnew, ⟨hr, _⟩, _⟩ := h
  exact ⟨v, o, S', rfl, hr, ⟨hwf.os, hwf.tape, hwf.output, hwf.size, fun k hk _ => hwf.same k hk (by rintro ⟨i, hi⟩; cases hi)⟩⟩

theorem z2a {w : World} {S : Hp} (l : List (A × Value)) (hl : ∀ p ∈ l, ARel (hp w) S (fun _ => undef) p.1 p.2 [] /\ p.1.refs = []) :
    ArgsRel (hp w) S (l.map (·.1)) (l.map (·.2)) (fun _ => []) := by
  refine ⟨by simp, fun i y hy => ?_, fun _ _ => rfl, (fun i j b hb => by cases hb), fun _ => .nil, (fun i b hb => by cases hb)⟩
  simp only [List.getElem?_map] at hy ⊢
  cases hp : l[i]? with
  | none => rw [hp] at hy; cases hy
  | some p =>
    rw [hp] at hy
    cases hy
    have := hl p (List.mem_of_getElem? hp)
    exact ⟨⟨p.2, rfl, this.1⟩, this.2⟩

theorem zpa (N : Nat) {W : World} {S : Hp} (hS : Lift.Sub S (hp W)) {ks : List KeyT.den} {v : Value} {num y : Int} (hv : VR S (.sl KeyT) ks v) (hy : z4p N ks num = some y) :
    Calls Go.Proofs.Try.prog 36 #[v, .int .i64 num] W fun r w' => r = .returned (.int .i64 y) /\ W.grownBy w' none := by
  refine ((zgh N).2 W S _ _ _ (z2a [(.v (.sl KeyT) ks, v), (.v (.int .i64) num, .int .i64 num)] (fun p hp => by
    rcases List.mem_cons.1 hp with rfl | hp
    . exact ⟨⟨hv, rfl⟩, rfl⟩
    . rw [List.mem_singleton.1 hp]; exact ⟨⟨VR.int, rfl⟩, rfl⟩)) hS (z6b S) _ hy).mono ?_
  intro e w' he
  obtain ⟨v, o, S', rfl, hr, hc⟩ := zhk he
  exact ⟨by rw [VR.int_inv hr.1], hc⟩

theorem zyt (N : Nat) {W : World} {S : Hp} (hS : Lift.Sub S (hp W)) {s : StT.den} {v : Value} {nm : List UInt8} {y : Int} (hv : VR S StT s v) (hy : z3m N s nm = some y) :
    Calls Go.Proofs.Try.prog 16 #[v, .string ⟨⟨nm⟩⟩] W fun r w' => r = .returned (.int .i64 y) /\ W.grownBy w' none := by
  refine ((z6k N).2 W S _ _ _ (z2a [(.v StT s, v), (.v .str nm, .string ⟨⟨nm⟩⟩)] (fun p hp => by
    rcases List.mem_cons.1 hp with rfl | hp
    . exact ⟨⟨hv, rfl⟩, rfl⟩
    . rw [List.mem_singleton.1 hp]; exact ⟨⟨VR.str, rfl⟩, rfl⟩)) hS (z6b S) _ hy).mono ?_
  intro e w' he
  obtain ⟨v, o, S', rfl, hr, hc⟩ := zhk he
  exact ⟨by rw [VR.int_inv hr.1], hc⟩

theorem zmq {S : Hp} {w : World} {kb cap : Nat} {ks : List KeyT.den} {sp : List Value} (hS : S kb = w.heap[kb]?) (h : RowAt w kb (zr ks ++ sp) 43) (hcap : ks.length <= cap) :
    VR S (.sl KeyT) ks (.slice (some ⟨kb, 0, none⟩) ks.length cap) :=
  VR.of_one rfl ⟨_, cap, rfl, hcap, .inr ⟨kb, 0, zr ks, rfl, ⟨_, _, _, [], sp, hS.trans h, by simp, rfl⟩, zyd ks⟩⟩

theorem zqz {S : Hp} {w : World} {b cap : Nat} {l : List (TenT.den × Value)} {sp : List Value} (hS : S b = w.heap[b]?) (h : RowAt w b (z9 l ++ sp) 41) (hcap : l.length <= cap) (hl : ∀ p ∈ l, VR S (.sl KeyT) p.1.2.2.2.1 p.2) :
    VR S (.sl TenT) (l.map (·.1)) (.slice (some ⟨b, 0, none⟩) l.length cap) := by
  have := VR.of_one (S := S) (t := .sl TenT) (x := l.map (·.1)) rfl ⟨some ⟨b, 0, none⟩, cap, rfl, by rw [List.length_map]; exact hcap, .inr ⟨b, 0, z9 l, rfl, ⟨_, _, _, [], sp, hS.trans h, by simp, rfl⟩, zx0 l hl⟩⟩
  rwa [List.length_map] at this

def evV (kd : Int) (tn : List UInt8) (nu ep : Int) (tx : List UInt8) : Value := .agg #[.int .i64 kd, .string ⟨⟨tn⟩⟩, .int .i64 nu, .int .i64 ep, .string ⟨⟨tx⟩⟩]

theorem z10c {l : List KeyT.den} {k : Nat} (hk : k < l.length) : (zr l)[k * 2]? = some (.int .i64 l[k].1) /\ (zr l)[k * 2 + 1]? = some (.string ⟨⟨l[k].2.1⟩⟩) := by
  induction l generalizing k with
  | nil => cases hk
  | cons p l ih =>
    cases k with
    | zero => exact ⟨rfl, rfl⟩
    | succ k =>
      obtain ⟨h1, h2⟩ := ih (k := k) (by simpa using hk)
      have e : zr (p :: l) = .int .i64 p.1 :: .string ⟨⟨p.2.1⟩⟩ :: zr l := rfl
      rw [e]
      refine ⟨?_, ?_⟩
      . rw [show (k + 1) * 2 = k * 2 + 1 + 1 by omega]; simpa using h1
      . rw [show (k + 1) * 2 + 1 = k * 2 + 1 + 1 + 1 by omega]; simpa using h2

theorem zbj (ks : List KeyT.den) (j : Nat) : zr (ks.take j) = (zr ks).take (j * 2) := by
  induction ks generalizing j with
  | nil => simp [zr]
  | cons k ks ih =>
    cases j with
    | zero => rfl
    | succ j =>
      have e : ∀ k ks, zr (k :: ks) = .int .i64 k.1 :: .string ⟨⟨k.2.1⟩⟩ :: zr ks := fun _ _ => rfl
      rw [List.take_succ_cons, e, e, show (j + 1) * 2 = j * 2 + 1 + 1 by omega, List.take_succ_cons, List.take_succ_cons, ih]

theorem zbk (ks : List KeyT.den) (j : Nat) : zr (ks.drop j) = (zr ks).drop (j * 2) := by
  induction ks generalizing j with
  | nil => simp [zr]
  | cons k ks ih =>
    cases j with
    | zero => rfl
    | succ j =>
      have e : ∀ k ks, zr (k :: ks) = .int .i64 k.1 :: .string ⟨⟨k.2.1⟩⟩ :: zr ks := fun _ _ => rfl
      rw [List.drop_succ_cons, e, show (j + 1) * 2 = j * 2 + 1 + 1 by omega, List.drop_succ_cons, List.drop_succ_cons, ih]

theorem zkz {α : Type} {p : α -> Bool} : ∀ {l : List α} {j : Nat} (hj : j < l.length), j <= (l.takeWhile p).length -> p l[j] = true -> j + 1 <= (l.takeWhile p).length
  | [], j, hj, _, _ => by cases hj
  | x :: l, 0, _, _, hp => by
    rw [List.takeWhile_cons, if_pos (by simpa using hp)]
    simp
  | x :: l, j + 1, hj, h, hp => by
    by_cases hx : p x = true
    . rw [List.takeWhile_cons, if_pos hx] at h ⊢
      have := zkz (l := l) (j := j) (by simpa using hj) (by simpa using h) (by simpa using hp)
      simpa using this
    . rw [List.takeWhile_cons, if_neg hx] at h
      simp at h

theorem zpi {α : Type} {p : α -> Bool} : ∀ {l : List α} {j : Nat} (hj : j < l.length), j <= (l.takeWhile p).length -> p l[j] = false -> (l.takeWhile p).length = j
  | [], j, hj, _, _ => by cases hj
  | x :: l, 0, _, _, hp => by
    rw [List.takeWhile_cons, if_neg (by simpa using hp)]
    rfl
  | x :: l, j + 1, hj, h, hp => by
    by_cases hx : p x = true
    . rw [List.takeWhile_cons, if_pos hx] at h ⊢
      have := zpi (l := l) (j := j) (by simpa using hj) (by simpa using h) (by simpa using hp)
      simpa using this
    . rw [List.takeWhile_cons, if_neg hx] at h
      simp at h

theorem zu9 {α : Type} (p : α -> Bool) (l : List α) : (l.takeWhile p).length <= l.length := (List.takeWhile_sublist p).length_le

def zej (ks : List KeyT.den) (num : Int) : Nat := (ks.takeWhile fun k => decide (k.1 < num)).length

def znd (N : Nat) (t : TenT.den) (nu : Int) (tx : List UInt8) : Option (Int × List KeyT.den) :=
 if nu ≥ t.2.2.1 then some (7, t.2.2.2.1)
 else (z4p N t.2.2.2.1 nu).bind fun y =>
 if 0 <= y then some (5, t.2.2.2.1)
 else if t.2.2.2.1.length = 8 then some (3, t.2.2.2.1)
 else some (0, t.2.2.2.1.take (zej t.2.2.2.1 nu) ++ [(nu, (tx, ()))] ++ t.2.2.2.1.drop (zej t.2.2.2.1 nu))

def zj2 (lo : Nat) (w : World) (ks : List KeyT.den) (v : Value) : Prop := ∃ kb cap sp, v = .slice (some ⟨kb, 0, none⟩) ks.length cap /\ ks.length <= cap /\ lo <= kb /\ RowAt w kb (zr ks ++ sp) 43

end
end Go.Proofs.YtlohplpnhopldaaLg

set_option linter.all false
set_option maxRecDepth 100000
namespace Go.Proofs.YtlohplpnhopldaaLg
noncomputable section
open Go Go.Lift Go.Proofs

def zhi (N : Nat) (t : TenT.den) (nu : Int) : Option (Int × List KeyT.den) :=
 (z4p N t.2.2.2.1 nu).bind fun y =>
 if y < 0 then some (6, t.2.2.2.1)
 else if y.toNat < t.2.2.2.1.length then some (0, t.2.2.2.1.take y.toNat ++ t.2.2.2.1.drop (y.toNat + 1))
 else none

theorem z4m {w w' : World} {row : Option Nat} (h : w.grownBy w' row) {B : Nat -> Prop} (hB : ∀ j, row = some j -> B j) : WF w B w' :=
  ⟨h.size, fun j hj hn => h.block j hj (fun e => hn (hB j e.symm)), h.tape, h.os, h.output⟩

set_option maxHeartbeats 8000000 in
theorem zsa (N : Nat) {w : World} {b kb k lo : Nat} {l : List (TenT.den × Value)} {kd nu ep : Int} {tn tx : List UInt8} (hb : RowAt w b (z9 l) 41) (hk : k < l.length) (hkv : l[k].2 = .slice (some ⟨kb, 0, none⟩) l[k].1.2.2.2.1.length l[k].1.2.2.2.1.length)
    (hkr : RowAt w kb (zr l[k].1.2.2.2.1) 43) (hn : l[k].1.2.2.2.1.length < 256) (hlo : lo <= kb) (hkb : kb ≠ b) {y : Int × List KeyT.den} (hy : zhi N l[k].1 nu = some y) :
    Calls Go.Proofs.Try.prog 57 #[.pointer (some ⟨b, k * 4, none⟩), evV kd tn nu ep tx] w fun r w' => r = .returned (.int .i64 y.1) /\ WF w (fun j => j = b \/ j = kb) w' /\ (y.1 = 0 -> ∃ v, RowAt w' b ((z9 l).set (k * 4 + 3) v) 41 /\ zj2 lo w' y.2 v) := by
  obtain ⟨z0, z1, z2, z3⟩ := z6f hk
  have c3 := hb.cell z3
  rw [hkv] at c3
  have HB := Go.Lib.hid hb
  unfold evV
  obtain ⟨t, ht⟩ : ∃ t, t = l[k].1 := ⟨_, rfl⟩
  rw [<- ht] at hy c3 hn hkr
  have HR := Go.Lib.hid hkr
  have HT := Go.Lib.hid ht
  have HKV := Go.Lib.hid hkv
  clear hb hkr ht hkv z0 z1 z2 z3
  unfold zhi at hy
  obtain ⟨yk, hyk, hy⟩ := Option.bind_eq_some_iff.1 hy
  suffices HX : ∀ R : Ending -> World -> Prop, Go.RowKit.Hid (∀ w', y.1 ≠ 0 -> w.grownBy w' none -> R (.returned (.int .i64 y.1)) w') -> Go.RowKit.Hid (∀ w' v, WF w (fun j => j = b \/ j = kb) w' -> RowAt w' b ((z9 l).set (k * 4 + 3) v) 41 -> zj2 lo w' y.2 v -> R (.returned (.int .i64 y.1)) w') →
      Calls Go.Proofs.Try.prog 57 #[.pointer (some ⟨b, k * 4, none⟩), .agg #[.int .i64 kd, .string ⟨⟨tn⟩⟩, .int .i64 nu, .int .i64 ep, .string ⟨⟨tx⟩⟩]] w R from
    HX _ (Go.Lib.hid (fun w' h1 h2 => ⟨rfl, z4m h2 (by simp), fun h => absurd h h1⟩)) (Go.Lib.hid (fun w' v h1 h2 h3 => ⟨rfl, h1, fun _ => ⟨v, h2, h3⟩⟩))
  intro R H1 H2
  have hx3 := z10 (o := Obj.cells #[.int .i64 kd, .string ⟨⟨tn⟩⟩, .int .i64 nu, .int .i64 ep, .string ⟨⟨tx⟩⟩] 51) c3
  have xr := RowAt.new w [.int .i64 kd, .string ⟨⟨tn⟩⟩, .int .i64 nu, .int .i64 ep, .string ⟨⟨tx⟩⟩] 51
  have xg := World.grownBy_alloc w (Obj.cells #[.int .i64 kd, .string ⟨⟨tn⟩⟩, .int .i64 nu, .int .i64 ep, .string ⟨⟨tx⟩⟩] 51) none
  have hdat : ∀ W : World, RowAt W kb (zr t.2.2.2.1) 43 -> VR (hp W) (.sl KeyT) t.2.2.2.1 (.slice (some ⟨kb, 0, none⟩) t.2.2.2.1.length t.2.2.2.1.length) := fun W h => zmq (w := W) (sp := []) rfl (by rw [List.append_nil]; exact h) (Nat.le_refl _)
  go_enter Go.Proofs.Try.func57, Go.Proofs.Try.ntmps57
  go_upto_region 1 with (fail)
  simp only [List.toArray] at xr
  obtain ⟨X, hX⟩ : ∃ X, X = w.alloc (Obj.cells #[.int .i64 kd, .string ⟨⟨tn⟩⟩, .int .i64 nu, .int .i64 ep, .string ⟨⟨tx⟩⟩] 51) := ⟨_, rfl⟩
  rw [<- hX] at hx3 xr xg ⊢
  clear hX c3
  obtain ⟨E, hE⟩ : ∃ E, E = w.heap.size := ⟨_, rfl⟩
  rw [<- hE] at xr ⊢
  have HE := Go.Lib.hid hE
  clear hE
  have e2 := xr.cell (i := 2) rfl
  have hcall := zpa N (W := X.drew) (S := hp X.drew) (fun _ _ h => h) (hdat X.drew ((HR.out.grown xg (by simp)).drew)) hyk
  have HXG := Go.Lib.hid xg
  clear xr xg
  go_wp2
  go_region_held3 (fun w' => World.cell? w' ⟨b, k * 4 + 3, none⟩ = some (.slice (some ⟨kb, 0, none⟩) t.2.2.2.1.length t.2.2.2.1.length) /\ World.cell? w' ⟨E, 2, none⟩ = some (.int .i64 nu)) (first | assumption | exact ⟨hx3, e2⟩ | exact ⟨h3, h4⟩ | go_keep) (first | (go_at_call 36; refine hcall.mono ?_; rintro _ wf ⟨rfl, gf⟩; have h3 := gf.cell (a := ⟨b, k * 4 + 3, none⟩) hx3 (by simp); have h4 := gf.cell (a := ⟨E, 2, none⟩) e2 (by simp)))
  rename_i hH5
  have v3 := hH5.1
  clear hH5 h3 h4 hx3 e2 hcall hdat
  have hgf : w.grownBy wf none := (za HXG.out).trans38 gf
  have HGF := Go.Lib.hid hgf
  clear gf hgf
  by_cases g2 : yk < 0
  . rw [if_pos g2] at hy
    cases hy
    go_wp2
    exact H1.out _ (by decide) HGF.out
  rw [if_neg g2] at hy
  by_cases g3 : yk.toNat < t.2.2.2.1.length
  case neg => rw [if_neg g3] at hy; cases hy
  rw [if_pos g3] at hy
  cases hy
  obtain ⟨i, hi⟩ : ∃ i : Nat, yk = (i : Int) := ⟨yk.toNat, by omega⟩
  subst hi
  rw [Int.toNat_natCast] at g3 H2
  obtain ⟨m, hm⟩ : ∃ m, t.2.2.2.1.length = m + 1 := ⟨t.2.2.2.1.length - 1, by omega⟩
  rw [hm] at v3 hn
  have hrow : RowAt wf kb (zr t.2.2.2.1) 43 := HR.out.grown HGF.out (by simp)
  have hdel := zts (i := i) (k := m) hrow (by rw [z6q, hm]) (zks _) (by omega) (by omega)
  have HBF := Go.Lib.hid (HB.out.grown HGF.out (by simp))
  have HM := Go.Lib.hid hm
  have G3 := Go.Lib.hid g3
  have hb0 : ¬ ((i : Int) < 0) := by omega
  have hi1 : (i : Int) <= 256 := by omega
  clear hm g3 hrow g2
  go_wp2_with (first | (go_at_call 61; refine hdel.mono ?_; rintro _ w5 ⟨zs, rfl, q3, q4⟩; have q5 := HBF.out.grown q4 (by simp; exact fun e => hkb e.symm); have q6 := q5.free (i := k * 4 + 3); have q7 := q5.cell (i := k * 4 + 3) (v := .slice (some ⟨kb, 0, none⟩) t.2.2.2.1.length t.2.2.2.1.length) (by have h := z6f hk; rw [h.2.2.2, HKV.out, HT.out]); have Q5 := Go.Lib.hid q5; have Q3 := Go.Lib.hid q3; have Q4 := Go.Lib.hid q4; clear q3 q4 q5 hdel) | go_in)
  refine H2.out _ (.slice (some ⟨kb, 0, none⟩) m (m + 1)) ?_ (Q5.out.set _ _) ?_
  . have h1 := HGF.out
    have h2 := Q4.out
    have h3 := z1y (w := w5) (g := b) (i := k * 4 + 3) (.slice (some ⟨kb, 0, none⟩) m (m + 1))
    exact ⟨Nat.le_trans h1.size (Nat.le_trans h2.size h3.size), fun j hj hn => (h3.block j (Nat.lt_of_lt_of_le hj (Nat.le_trans h1.size h2.size)) (fun e => hn (.inl (by simpa using e)))).trans ((h2.block j (Nat.lt_of_lt_of_le hj h1.size) (fun e => hn (.inr (by simpa using e)))).trans (h1.block j hj (by simp))), (h3.tape.trans h2.tape).trans h1.tape, (h3.os.trans h2.os).trans h1.os, (h3.output.trans h2.output).trans h1.output⟩
  . have hm := HM.out
    have g3 := G3.out
    have hl3 : (t.2.2.2.1.take i ++ t.2.2.2.1.drop (i + 1)).length = m := by
      simp only [List.length_append, List.length_take, List.length_drop]
      omega
    refine ⟨kb, m + 1, zs, ?_, ?_, hlo, ?_⟩
    . show Value.slice _ _ _ = Value.slice _ (List.length (_ ++ _)) _
      rw [hl3]
    . show List.length (_ ++ _) <= _
      rw [hl3]
      omega
    . have h := (Q3.out).set_other (k := b) (fun e => hkb e.symm) (k * 4 + 3) (.slice (some ⟨kb, 0, none⟩) m (m + 1))
      show RowAt _ kb (zr (_ ++ _) ++ zs) _
      rw [z6r, zbj, zbk]
      exact h

def zr5 (l : List (TenT.den × Value)) (k : Nat) (ep nu : Int) : List (TenT.den × Value) := match l[k]? with
  | some p => l.take k ++ ((p.1.1, (ep, (nu, (p.1.2.2.2.1, ())))), p.2) :: l.drop (k + 1)
  | none => l

theorem zzo {l : List (TenT.den × Value)} {k : Nat} (hk : k < l.length) (ep nu : Int) : ((z9 l).set (k * 4 + 1) (.int .i64 ep)).set (k * 4 + 2) (.int .i64 nu) = z9 (zr5 l k ep nu) := by
  unfold zr5
  rw [List.getElem?_eq_getElem hk]
  dsimp only
  induction l generalizing k with
  | nil => cases hk
  | cons p l ih =>
    have e : ∀ (p : TenT.den × Value) l, z9 (p :: l) = .string ⟨⟨p.1.1⟩⟩ :: .int .i64 p.1.2.1 :: .int .i64 p.1.2.2.1 :: p.2 :: z9 l := fun _ _ => rfl
    cases k with
    | zero => rfl
    | succ k =>
      have h1 := ih (k := k) (by simpa using hk)
      rw [e, show (k + 1) * 4 + 1 = k * 4 + 1 + 1 + 1 + 1 + 1 by omega, show (k + 1) * 4 + 2 = k * 4 + 2 + 1 + 1 + 1 + 1 by omega]
      simp only [List.set_cons_succ, List.take_succ_cons, List.cons_append, List.drop_succ_cons, List.getElem_cons_succ]
      rw [e, h1]

theorem zuc {w Y : World} {b : Nat} (h : w.grownBy Y none) (i j : Nat) (u v : Value) : w.grownBy (((Y.setCell ⟨b, i, none⟩ u).setCell ⟨b, j, none⟩ v).drew) (some b) := by
  have h1 := z1y (w := Y) (g := b) (i := i) u
  have h2 := z1y (w := Y.setCell ⟨b, i, none⟩ u) (g := b) (i := j) v
  exact ⟨(h2.os.trans h1.os).trans h.os, (h2.tape.trans h1.tape).trans h.tape, (h2.output.trans h1.output).trans h.output, Nat.le_trans h.size (Nat.le_trans h1.size h2.size), fun k hk hne => (h2.block k (Nat.lt_of_lt_of_le hk (Nat.le_trans h.size h1.size)) hne).trans ((h1.block k (Nat.lt_of_lt_of_le hk h.size) hne).trans (h.block k hk (by simp)))⟩

set_option maxHeartbeats 30000000 in
theorem zsw {w : World} {q b k n : Nat} {ser : Int} {l : List (TenT.den × Value)} {kd nu ep : Int} {tn tx : List UInt8} (hq : RowAt w q [.slice (some ⟨b, 0, none⟩) n n, .int .i64 ser] 24) (hb : RowAt w b (z9 l) 41) (hln : l.length = n) (hk : k < l.length) (hn : n <= 1000) :
    Calls Go.Proofs.Try.prog 55 #[.pointer (some ⟨q, 0, none⟩), .int .i64 (k : Int), evV kd tn nu ep tx] w fun r w' =>
      (if ep < l[k].1.2.1 \/ nu < l[k].1.2.2.1 then r = .returned (.int .i64 7) /\ w.grownBy w' none else r = .returned (.int .i64 0) /\ w.grownBy w' (some b) /\ RowAt w' b (z9 (zr5 l k ep nu)) 41) := by
  obtain ⟨z0, z1, z2, z3⟩ := z6f hk
  have c1 := hb.cell z1
  have c2 := hb.cell z2
  have c0 := hq.cell (i := 0) rfl
  have HB := Go.Lib.hid hb
  unfold evV
  have HS2 := Go.Lib.hid (zzo hk ep nu)
  obtain ⟨t, ht⟩ : ∃ t, t = l[k].1 := ⟨_, rfl⟩
  rw [<- ht] at c1 c2 ⊢
  suffices HX : ∀ R : Ending -> World -> Prop, Go.RowKit.Hid (∀ w', (ep < t.2.1 \/ nu < t.2.2.1) -> w.grownBy w' none -> R (.returned (.int .i64 7)) w') -> Go.RowKit.Hid (∀ w', ¬ (ep < t.2.1 \/ nu < t.2.2.1) -> w.grownBy w' (some b) -> RowAt w' b (z9 (zr5 l k ep nu)) 41 -> R (.returned (.int .i64 0)) w') →
      Calls Go.Proofs.Try.prog 55 #[.pointer (some ⟨q, 0, none⟩), .int .i64 (k : Int), .agg #[.int .i64 kd, .string ⟨⟨tn⟩⟩, .int .i64 nu, .int .i64 ep, .string ⟨⟨tx⟩⟩]] w R from
    HX _ (Go.Lib.hid (fun w' h1 h2 => by rw [if_pos h1]; exact ⟨rfl, h2⟩)) (Go.Lib.hid (fun w' h1 h2 h3 => by rw [if_neg h1]; exact ⟨rfl, h2, h3⟩))
  intro R H1 H2
  have x0 := z10 (o := Obj.cells #[.int .i64 kd, .string ⟨⟨tn⟩⟩, .int .i64 nu, .int .i64 ep, .string ⟨⟨tx⟩⟩] 51) c0
  have x1 := z10 (o := Obj.cells #[.int .i64 kd, .string ⟨⟨tn⟩⟩, .int .i64 nu, .int .i64 ep, .string ⟨⟨tx⟩⟩] 51) c1
  have x2 := z10 (o := Obj.cells #[.int .i64 kd, .string ⟨⟨tn⟩⟩, .int .i64 nu, .int .i64 ep, .string ⟨⟨tx⟩⟩] 51) c2
  have xr := RowAt.new w [.int .i64 kd, .string ⟨⟨tn⟩⟩, .int .i64 nu, .int .i64 ep, .string ⟨⟨tx⟩⟩] 51
  have xg := World.grownBy_alloc w (Obj.cells #[.int .i64 kd, .string ⟨⟨tn⟩⟩, .int .i64 nu, .int .i64 ep, .string ⟨⟨tx⟩⟩] 51) none
  have ew : w.heap.size ≠ b := by have := hb.lt; omega
  have hb0 : (0 : Int) <= (k : Int) := by omega
  have hb1 : (k : Int) < (n : Int) := by omega
  clear hb hq ht z0 z1 z2 z3 c0 c1 c2
  go_enter Go.Proofs.Try.func55, Go.Proofs.Try.ntmps55
  go_upto_region 1 with (fail)
  simp only [List.toArray] at xr
  obtain ⟨X, hX⟩ : ∃ X, X = w.alloc (Obj.cells #[.int .i64 kd, .string ⟨⟨tn⟩⟩, .int .i64 nu, .int .i64 ep, .string ⟨⟨tx⟩⟩] 51) := ⟨_, rfl⟩
  rw [<- hX] at x0 x1 x2 xr xg ⊢
  clear hX
  obtain ⟨E, hE⟩ : ∃ E, E = w.heap.size := ⟨_, rfl⟩
  rw [<- hE] at xr ew ⊢
  clear hE
  have e2 := xr.cell (i := 2) rfl
  have e3 := xr.cell (i := 3) rfl
  have HXG := Go.Lib.hid xg
  have HXR := Go.Lib.hid xr
  clear xr xg
  go_wp2
  rcases Int.lt_or_le ep t.2.1 with g1 | g1
  . have hd1 : decide (ep < t.2.1) = true := decide_eq_true g1
    refine wp_region_held_drew (S := fun w' => World.cell? w' ⟨b, k * 4 + 1, none⟩ = some (.int .i64 t.2.1) /\ World.cell? w' ⟨b, k * 4 + 2, none⟩ = some (.int .i64 t.2.2.1) /\ World.cell? w' ⟨E, 2, none⟩ = some (.int .i64 nu) /\ World.cell? w' ⟨E, 3, none⟩ = some (.int .i64 ep)) (by kernel_rfl) (⟨x1, x2, e2, e3⟩) (fun hHd => ?_)
    refine wpAnyH_take (i := 0) (v := ?va0) rfl (by kernel_rfl) (by kernel_rfl) (by kernel_rfl) (fun _ _ _ h => h) (Or.inl ⟨by kernel_rfl, ?hya0⟩) hHd (show wpAnyH _ _ _ _ _ _ _ (Act.put _ (some 16) _) _ from ?resta0)
    case hya0 => (rintro wS ⟨s1, s2, s3, s4⟩; go_simp; try with_reducible rfl)
    try simp only [Act.put, List.setIfInBounds_toArray, List.set_cons_zero, List.set_cons_succ]
    refine wpAnyH_take (i := 1) (v := ?va1) rfl (by kernel_rfl) (by kernel_rfl) (by kernel_rfl) (fun _ _ _ h => h) (Or.inl ⟨by kernel_rfl, ?hya1⟩) hHd (show wpAnyH _ _ _ _ _ _ _ (Act.put _ (some 17) _) _ from ?resta1)
    case hya1 => (rintro wS ⟨s1, s2, s3, s4⟩; go_simp; try with_reducible rfl)
    try simp only [Act.put, List.setIfInBounds_toArray, List.set_cons_zero, List.set_cons_succ]
    refine wpAnyH_take (i := 2) (v := ?va2) rfl (by kernel_rfl) (by kernel_rfl) (by kernel_rfl) (fun _ _ _ h => h) (Or.inl ⟨by kernel_rfl, ?hya2⟩) hHd (show wpAnyH _ _ _ _ _ _ _ (Act.put _ (some 18) _) _ from ?resta2)
    case hya2 => (rintro wS ⟨s1, s2, s3, s4⟩; go_simp; try with_reducible rfl)
    try simp only [Act.put, List.setIfInBounds_toArray, List.set_cons_zero, List.set_cons_succ]
    refine wpAnyH_take (i := 3) (v := ?va3) rfl (by kernel_rfl) (by kernel_rfl) (by kernel_rfl) (fun _ _ _ h => h) (Or.inl ⟨by kernel_rfl, ?hya3⟩) hHd (show wpAnyH _ _ _ _ _ _ _ (Act.put _ (some 19) _) _ from ?resta3)
    case hya3 => (rintro wS ⟨s1, s2, s3, s4⟩; go_simp; try with_reducible rfl)
    try simp only [Act.put, List.setIfInBounds_toArray, List.set_cons_zero, List.set_cons_succ]
    refine wpAnyH_take (i := 4) (v := ?va4) rfl (by kernel_rfl) (by kernel_rfl) (by kernel_rfl) (fun _ _ _ h => h) (Or.inl ⟨by kernel_rfl, ?hya4⟩) hHd (show wpAnyH _ _ _ _ _ _ _ (Act.put _ (some 20) _) _ from ?resta4)
    case hya4 => (rintro wS ⟨s1, s2, s3, s4⟩; go_simp; try with_reducible rfl)
    try simp only [Act.put, List.setIfInBounds_toArray, List.set_cons_zero, List.set_cons_succ]
    refine wpAnyH_take (i := 5) (v := ?va5) rfl (by kernel_rfl) (by kernel_rfl) (by kernel_rfl) (fun _ _ _ h => h) (Or.inl ⟨by kernel_rfl, ?hya5⟩) hHd (show wpAnyH _ _ _ _ _ _ _ (Act.put _ (some 21) _) _ from ?resta5)
    case hya5 => (rintro wS ⟨s1, s2, s3, s4⟩; go_simp; try with_reducible rfl)
    try simp only [Act.put, List.setIfInBounds_toArray, List.set_cons_zero, List.set_cons_succ]
    refine wpAnyH_take (i := 6) (v := ?va6) rfl (by kernel_rfl) (by kernel_rfl) (by kernel_rfl) (fun _ _ _ h => h) (Or.inl ⟨by kernel_rfl, ?hya6⟩) hHd (show wpAnyH _ _ _ _ _ _ _ (Act.put _ (some 22) _) _ from ?resta6)
    case hya6 => (rintro wS ⟨s1, s2, s3, s4⟩; go_simp; try with_reducible rfl)
    try simp only [Act.put, List.setIfInBounds_toArray, List.set_cons_zero, List.set_cons_succ]
    refine wpAnyH_take (i := 7) (v := ?va7) rfl (by kernel_rfl) (by kernel_rfl) (by kernel_rfl) (fun _ _ _ h => h) (Or.inl ⟨by kernel_rfl, ?hya7⟩) hHd (show wpAnyH _ _ _ _ _ _ _ (Act.put _ (some 23) _) _ from ?resta7)
    case hya7 => (rintro wS ⟨s1, s2, s3, s4⟩; go_simp; try with_reducible rfl)
    try simp only [Act.put, List.setIfInBounds_toArray, List.set_cons_zero, List.set_cons_succ]
    refine wpAnyH_take (i := 8) (v := undef) rfl (by kernel_rfl) (by kernel_rfl) (by kernel_rfl) (fun _ _ _ h => h) (Or.inr ⟨by kernel_rfl, rfl⟩) hHd (show wpAnyH _ _ _ _ _ _ _ (Act.put _ (some 24) undef) _ from ?_)
    try simp only [Act.put, List.setIfInBounds_toArray, List.set_cons_zero, List.set_cons_succ]
    refine wpAnyH_take (i := 9) (v := undef) rfl (by kernel_rfl) (by kernel_rfl) (by kernel_rfl) (fun _ _ _ h => h) (Or.inr ⟨by kernel_rfl, rfl⟩) hHd (show wpAnyH _ _ _ _ _ _ _ (Act.put _ (some 25) undef) _ from ?_)
    try simp only [Act.put, List.setIfInBounds_toArray, List.set_cons_zero, List.set_cons_succ]
    refine wpAnyH_take (i := 10) (v := undef) rfl (by kernel_rfl) (by kernel_rfl) (by kernel_rfl) (fun _ _ _ h => h) (Or.inr ⟨by kernel_rfl, rfl⟩) hHd (show wpAnyH _ _ _ _ _ _ _ (Act.put _ (some 26) undef) _ from ?_)
    try simp only [Act.put, List.setIfInBounds_toArray, List.set_cons_zero, List.set_cons_succ]
    refine wpAnyH_take (i := 11) (v := undef) rfl (by kernel_rfl) (by kernel_rfl) (by kernel_rfl) (fun _ _ _ h => h) (Or.inr ⟨by kernel_rfl, rfl⟩) hHd (show wpAnyH _ _ _ _ _ _ _ (Act.put _ (some 27) undef) _ from ?_)
    try simp only [Act.put, List.setIfInBounds_toArray, List.set_cons_zero, List.set_cons_succ]
    refine wpAnyH_take (i := 12) (v := undef) rfl (by kernel_rfl) (by kernel_rfl) (by kernel_rfl) (fun _ _ _ h => h) (Or.inr ⟨by kernel_rfl, rfl⟩) hHd (show wpAnyH _ _ _ _ _ _ _ (Act.put _ (some 28) undef) _ from ?_)
    try simp only [Act.put, List.setIfInBounds_toArray, List.set_cons_zero, List.set_cons_succ]
    refine wpAnyH_take (i := 13) (v := undef) rfl (by kernel_rfl) (by kernel_rfl) (by kernel_rfl) (fun _ _ _ h => h) (Or.inr ⟨by kernel_rfl, rfl⟩) hHd (show wpAnyH _ _ _ _ _ _ _ (Act.put _ (some 29) undef) _ from ?_)
    try simp only [Act.put, List.setIfInBounds_toArray, List.set_cons_zero, List.set_cons_succ]
    refine wpAnyH_take (i := 14) (v := undef) rfl (by kernel_rfl) (by kernel_rfl) (by kernel_rfl) (fun _ _ _ h => h) (Or.inr ⟨by kernel_rfl, rfl⟩) hHd (show wpAnyH _ _ _ _ _ _ _ (Act.put _ (some 30) undef) _ from ?_)
    try simp only [Act.put, List.setIfInBounds_toArray, List.set_cons_zero, List.set_cons_succ]
    refine wpAnyH_take (i := 15) (v := ?va15) rfl (by kernel_rfl) (by kernel_rfl) (by kernel_rfl) (fun _ _ _ h => h) (Or.inl ⟨by kernel_rfl, ?hya15⟩) hHd (show wpAnyH _ _ _ _ _ _ _ (Act.put _ (some 31) _) _ from ?resta15)
    case hya15 => (rintro wS ⟨s1, s2, s3, s4⟩; go_simp; try with_reducible rfl)
    try simp only [Act.put, List.setIfInBounds_toArray, List.set_cons_zero, List.set_cons_succ]
    refine wpAnyH_done (by kernel_rfl) ?_ _
    go_wp2
    exact H1.out _ (.inl g1) (za HXG.out)
  have hd1 : decide (ep < t.2.1) = false := decide_eq_false (Int.not_lt.2 g1)
  rcases Int.lt_or_le nu t.2.2.1 with g2 | g2
  . have hd2 : decide (nu < t.2.2.1) = true := decide_eq_true g2
    refine wp_region_held_drew (S := fun w' => World.cell? w' ⟨b, k * 4 + 1, none⟩ = some (.int .i64 t.2.1) /\ World.cell? w' ⟨b, k * 4 + 2, none⟩ = some (.int .i64 t.2.2.1) /\ World.cell? w' ⟨E, 2, none⟩ = some (.int .i64 nu) /\ World.cell? w' ⟨E, 3, none⟩ = some (.int .i64 ep)) (by kernel_rfl) (⟨x1, x2, e2, e3⟩) (fun hHd => ?_)
    refine wpAnyH_take (i := 0) (v := ?vb0) rfl (by kernel_rfl) (by kernel_rfl) (by kernel_rfl) (fun _ _ _ h => h) (Or.inl ⟨by kernel_rfl, ?hyb0⟩) hHd (show wpAnyH _ _ _ _ _ _ _ (Act.put _ (some 16) _) _ from ?restb0)
    case hyb0 => (rintro wS ⟨s1, s2, s3, s4⟩; go_simp; try with_reducible rfl)
    try simp only [Act.put, List.setIfInBounds_toArray, List.set_cons_zero, List.set_cons_succ]
    refine wpAnyH_take (i := 1) (v := ?vb1) rfl (by kernel_rfl) (by kernel_rfl) (by kernel_rfl) (fun _ _ _ h => h) (Or.inl ⟨by kernel_rfl, ?hyb1⟩) hHd (show wpAnyH _ _ _ _ _ _ _ (Act.put _ (some 17) _) _ from ?restb1)
    case hyb1 => (rintro wS ⟨s1, s2, s3, s4⟩; go_simp; try with_reducible rfl)
    try simp only [Act.put, List.setIfInBounds_toArray, List.set_cons_zero, List.set_cons_succ]
    refine wpAnyH_take (i := 2) (v := ?vb2) rfl (by kernel_rfl) (by kernel_rfl) (by kernel_rfl) (fun _ _ _ h => h) (Or.inl ⟨by kernel_rfl, ?hyb2⟩) hHd (show wpAnyH _ _ _ _ _ _ _ (Act.put _ (some 18) _) _ from ?restb2)
    case hyb2 => (rintro wS ⟨s1, s2, s3, s4⟩; go_simp; try with_reducible rfl)
    try simp only [Act.put, List.setIfInBounds_toArray, List.set_cons_zero, List.set_cons_succ]
    refine wpAnyH_take (i := 3) (v := ?vb3) rfl (by kernel_rfl) (by kernel_rfl) (by kernel_rfl) (fun _ _ _ h => h) (Or.inl ⟨by kernel_rfl, ?hyb3⟩) hHd (show wpAnyH _ _ _ _ _ _ _ (Act.put _ (some 19) _) _ from ?restb3)
    case hyb3 => (rintro wS ⟨s1, s2, s3, s4⟩; go_simp; try with_reducible rfl)
    try simp only [Act.put, List.setIfInBounds_toArray, List.set_cons_zero, List.set_cons_succ]
    refine wpAnyH_take (i := 4) (v := ?vb4) rfl (by kernel_rfl) (by kernel_rfl) (by kernel_rfl) (fun _ _ _ h => h) (Or.inl ⟨by kernel_rfl, ?hyb4⟩) hHd (show wpAnyH _ _ _ _ _ _ _ (Act.put _ (some 20) _) _ from ?restb4)
    case hyb4 => (rintro wS ⟨s1, s2, s3, s4⟩; go_simp; try with_reducible rfl)
    try simp only [Act.put, List.setIfInBounds_toArray, List.set_cons_zero, List.set_cons_succ]
    refine wpAnyH_take (i := 5) (v := ?vb5) rfl (by kernel_rfl) (by kernel_rfl) (by kernel_rfl) (fun _ _ _ h => h) (Or.inl ⟨by kernel_rfl, ?hyb5⟩) hHd (show wpAnyH _ _ _ _ _ _ _ (Act.put _ (some 21) _) _ from ?restb5)
    case hyb5 => (rintro wS ⟨s1, s2, s3, s4⟩; go_simp; try with_reducible rfl)
    try simp only [Act.put, List.setIfInBounds_toArray, List.set_cons_zero, List.set_cons_succ]
    refine wpAnyH_take (i := 6) (v := ?vb6) rfl (by kernel_rfl) (by kernel_rfl) (by kernel_rfl) (fun _ _ _ h => h) (Or.inl ⟨by kernel_rfl, ?hyb6⟩) hHd (show wpAnyH _ _ _ _ _ _ _ (Act.put _ (some 22) _) _ from ?restb6)
    case hyb6 => (rintro wS ⟨s1, s2, s3, s4⟩; go_simp; try with_reducible rfl)
    try simp only [Act.put, List.setIfInBounds_toArray, List.set_cons_zero, List.set_cons_succ]
    refine wpAnyH_take (i := 7) (v := ?vb7) rfl (by kernel_rfl) (by kernel_rfl) (by kernel_rfl) (fun _ _ _ h => h) (Or.inl ⟨by kernel_rfl, ?hyb7⟩) hHd (show wpAnyH _ _ _ _ _ _ _ (Act.put _ (some 23) _) _ from ?restb7)
    case hyb7 => (rintro wS ⟨s1, s2, s3, s4⟩; go_simp; try with_reducible rfl)
    try simp only [Act.put, List.setIfInBounds_toArray, List.set_cons_zero, List.set_cons_succ]
    refine wpAnyH_take (i := 8) (v := ?vb8) rfl (by kernel_rfl) (by kernel_rfl) (by kernel_rfl) (fun _ _ _ h => h) (Or.inl ⟨by kernel_rfl, ?hyb8⟩) hHd (show wpAnyH _ _ _ _ _ _ _ (Act.put _ (some 24) _) _ from ?restb8)
    case hyb8 => (rintro wS ⟨s1, s2, s3, s4⟩; go_simp; try with_reducible rfl)
    try simp only [Act.put, List.setIfInBounds_toArray, List.set_cons_zero, List.set_cons_succ]
    refine wpAnyH_take (i := 9) (v := ?vb9) rfl (by kernel_rfl) (by kernel_rfl) (by kernel_rfl) (fun _ _ _ h => h) (Or.inl ⟨by kernel_rfl, ?hyb9⟩) hHd (show wpAnyH _ _ _ _ _ _ _ (Act.put _ (some 25) _) _ from ?restb9)
    case hyb9 => (rintro wS ⟨s1, s2, s3, s4⟩; go_simp; try with_reducible rfl)
    try simp only [Act.put, List.setIfInBounds_toArray, List.set_cons_zero, List.set_cons_succ]
    refine wpAnyH_take (i := 10) (v := ?vb10) rfl (by kernel_rfl) (by kernel_rfl) (by kernel_rfl) (fun _ _ _ h => h) (Or.inl ⟨by kernel_rfl, ?hyb10⟩) hHd (show wpAnyH _ _ _ _ _ _ _ (Act.put _ (some 26) _) _ from ?restb10)
    case hyb10 => (rintro wS ⟨s1, s2, s3, s4⟩; go_simp; try with_reducible rfl)
    try simp only [Act.put, List.setIfInBounds_toArray, List.set_cons_zero, List.set_cons_succ]
    refine wpAnyH_take (i := 11) (v := ?vb11) rfl (by kernel_rfl) (by kernel_rfl) (by kernel_rfl) (fun _ _ _ h => h) (Or.inl ⟨by kernel_rfl, ?hyb11⟩) hHd (show wpAnyH _ _ _ _ _ _ _ (Act.put _ (some 27) _) _ from ?restb11)
    case hyb11 => (rintro wS ⟨s1, s2, s3, s4⟩; go_simp; try with_reducible rfl)
    try simp only [Act.put, List.setIfInBounds_toArray, List.set_cons_zero, List.set_cons_succ]
    refine wpAnyH_take (i := 12) (v := ?vb12) rfl (by kernel_rfl) (by kernel_rfl) (by kernel_rfl) (fun _ _ _ h => h) (Or.inl ⟨by kernel_rfl, ?hyb12⟩) hHd (show wpAnyH _ _ _ _ _ _ _ (Act.put _ (some 28) _) _ from ?restb12)
    case hyb12 => (rintro wS ⟨s1, s2, s3, s4⟩; go_simp; try with_reducible rfl)
    try simp only [Act.put, List.setIfInBounds_toArray, List.set_cons_zero, List.set_cons_succ]
    refine wpAnyH_take (i := 13) (v := ?vb13) rfl (by kernel_rfl) (by kernel_rfl) (by kernel_rfl) (fun _ _ _ h => h) (Or.inl ⟨by kernel_rfl, ?hyb13⟩) hHd (show wpAnyH _ _ _ _ _ _ _ (Act.put _ (some 29) _) _ from ?restb13)
    case hyb13 => (rintro wS ⟨s1, s2, s3, s4⟩; go_simp; try with_reducible rfl)
    try simp only [Act.put, List.setIfInBounds_toArray, List.set_cons_zero, List.set_cons_succ]
    refine wpAnyH_take (i := 14) (v := ?vb14) rfl (by kernel_rfl) (by kernel_rfl) (by kernel_rfl) (fun _ _ _ h => h) (Or.inl ⟨by kernel_rfl, ?hyb14⟩) hHd (show wpAnyH _ _ _ _ _ _ _ (Act.put _ (some 30) _) _ from ?restb14)
    case hyb14 => (rintro wS ⟨s1, s2, s3, s4⟩; go_simp; try with_reducible rfl)
    try simp only [Act.put, List.setIfInBounds_toArray, List.set_cons_zero, List.set_cons_succ]
    refine wpAnyH_take (i := 15) (v := ?vb15) rfl (by kernel_rfl) (by kernel_rfl) (by kernel_rfl) (fun _ _ _ h => h) (Or.inl ⟨by kernel_rfl, ?hyb15⟩) hHd (show wpAnyH _ _ _ _ _ _ _ (Act.put _ (some 31) _) _ from ?restb15)
    case hyb15 => (rintro wS ⟨s1, s2, s3, s4⟩; go_simp; try with_reducible rfl)
    try simp only [Act.put, List.setIfInBounds_toArray, List.set_cons_zero, List.set_cons_succ]
    refine wpAnyH_done (by kernel_rfl) ?_ _
    go_wp2
    exact H1.out _ (.inr g2) (za HXG.out)
  have hd2 : decide (nu < t.2.2.1) = false := decide_eq_false (Int.not_lt.2 g2)
  refine wp_region_held_drew (S := fun w' => World.cell? w' ⟨b, k * 4 + 1, none⟩ = some (.int .i64 t.2.1) /\ World.cell? w' ⟨b, k * 4 + 2, none⟩ = some (.int .i64 t.2.2.1) /\ World.cell? w' ⟨E, 2, none⟩ = some (.int .i64 nu) /\ World.cell? w' ⟨E, 3, none⟩ = some (.int .i64 ep)) (by kernel_rfl) (⟨x1, x2, e2, e3⟩) (fun hHd => ?_)
  refine wpAnyH_take (i := 0) (v := ?vc0) rfl (by kernel_rfl) (by kernel_rfl) (by kernel_rfl) (fun _ _ _ h => h) (Or.inl ⟨by kernel_rfl, ?hyc0⟩) hHd (show wpAnyH _ _ _ _ _ _ _ (Act.put _ (some 16) _) _ from ?restc0)
  case hyc0 => (rintro wS ⟨s1, s2, s3, s4⟩; go_simp; try with_reducible rfl)
  try simp only [Act.put, List.setIfInBounds_toArray, List.set_cons_zero, List.set_cons_succ]
  refine wpAnyH_take (i := 1) (v := ?vc1) rfl (by kernel_rfl) (by kernel_rfl) (by kernel_rfl) (fun _ _ _ h => h) (Or.inl ⟨by kernel_rfl, ?hyc1⟩) hHd (show wpAnyH _ _ _ _ _ _ _ (Act.put _ (some 17) _) _ from ?restc1)
  case hyc1 => (rintro wS ⟨s1, s2, s3, s4⟩; go_simp; try with_reducible rfl)
  try simp only [Act.put, List.setIfInBounds_toArray, List.set_cons_zero, List.set_cons_succ]
  refine wpAnyH_take (i := 2) (v := ?vc2) rfl (by kernel_rfl) (by kernel_rfl) (by kernel_rfl) (fun _ _ _ h => h) (Or.inl ⟨by kernel_rfl, ?hyc2⟩) hHd (show wpAnyH _ _ _ _ _ _ _ (Act.put _ (some 18) _) _ from ?restc2)
  case hyc2 => (rintro wS ⟨s1, s2, s3, s4⟩; go_simp; try with_reducible rfl)
  try simp only [Act.put, List.setIfInBounds_toArray, List.set_cons_zero, List.set_cons_succ]
  refine wpAnyH_take (i := 3) (v := ?vc3) rfl (by kernel_rfl) (by kernel_rfl) (by kernel_rfl) (fun _ _ _ h => h) (Or.inl ⟨by kernel_rfl, ?hyc3⟩) hHd (show wpAnyH _ _ _ _ _ _ _ (Act.put _ (some 19) _) _ from ?restc3)
  case hyc3 => (rintro wS ⟨s1, s2, s3, s4⟩; go_simp; try with_reducible rfl)
  try simp only [Act.put, List.setIfInBounds_toArray, List.set_cons_zero, List.set_cons_succ]
  refine wpAnyH_take (i := 4) (v := ?vc4) rfl (by kernel_rfl) (by kernel_rfl) (by kernel_rfl) (fun _ _ _ h => h) (Or.inl ⟨by kernel_rfl, ?hyc4⟩) hHd (show wpAnyH _ _ _ _ _ _ _ (Act.put _ (some 20) _) _ from ?restc4)
  case hyc4 => (rintro wS ⟨s1, s2, s3, s4⟩; go_simp; try with_reducible rfl)
  try simp only [Act.put, List.setIfInBounds_toArray, List.set_cons_zero, List.set_cons_succ]
  refine wpAnyH_take (i := 5) (v := ?vc5) rfl (by kernel_rfl) (by kernel_rfl) (by kernel_rfl) (fun _ _ _ h => h) (Or.inl ⟨by kernel_rfl, ?hyc5⟩) hHd (show wpAnyH _ _ _ _ _ _ _ (Act.put _ (some 21) _) _ from ?restc5)
  case hyc5 => (rintro wS ⟨s1, s2, s3, s4⟩; go_simp; try with_reducible rfl)
  try simp only [Act.put, List.setIfInBounds_toArray, List.set_cons_zero, List.set_cons_succ]
  refine wpAnyH_take (i := 6) (v := ?vc6) rfl (by kernel_rfl) (by kernel_rfl) (by kernel_rfl) (fun _ _ _ h => h) (Or.inl ⟨by kernel_rfl, ?hyc6⟩) hHd (show wpAnyH _ _ _ _ _ _ _ (Act.put _ (some 22) _) _ from ?restc6)
  case hyc6 => (rintro wS ⟨s1, s2, s3, s4⟩; go_simp; try with_reducible rfl)
  try simp only [Act.put, List.setIfInBounds_toArray, List.set_cons_zero, List.set_cons_succ]
  refine wpAnyH_take (i := 7) (v := ?vc7) rfl (by kernel_rfl) (by kernel_rfl) (by kernel_rfl) (fun _ _ _ h => h) (Or.inl ⟨by kernel_rfl, ?hyc7⟩) hHd (show wpAnyH _ _ _ _ _ _ _ (Act.put _ (some 23) _) _ from ?restc7)
  case hyc7 => (rintro wS ⟨s1, s2, s3, s4⟩; go_simp; try with_reducible rfl)
  try simp only [Act.put, List.setIfInBounds_toArray, List.set_cons_zero, List.set_cons_succ]
  refine wpAnyH_take (i := 8) (v := ?vc8) rfl (by kernel_rfl) (by kernel_rfl) (by kernel_rfl) (fun _ _ _ h => h) (Or.inl ⟨by kernel_rfl, ?hyc8⟩) hHd (show wpAnyH _ _ _ _ _ _ _ (Act.put _ (some 24) _) _ from ?restc8)
  case hyc8 => (rintro wS ⟨s1, s2, s3, s4⟩; go_simp; try with_reducible rfl)
  try simp only [Act.put, List.setIfInBounds_toArray, List.set_cons_zero, List.set_cons_succ]
  refine wpAnyH_take (i := 9) (v := ?vc9) rfl (by kernel_rfl) (by kernel_rfl) (by kernel_rfl) (fun _ _ _ h => h) (Or.inl ⟨by kernel_rfl, ?hyc9⟩) hHd (show wpAnyH _ _ _ _ _ _ _ (Act.put _ (some 25) _) _ from ?restc9)
  case hyc9 => (rintro wS ⟨s1, s2, s3, s4⟩; go_simp; try with_reducible rfl)
  try simp only [Act.put, List.setIfInBounds_toArray, List.set_cons_zero, List.set_cons_succ]
  refine wpAnyH_take (i := 10) (v := ?vc10) rfl (by kernel_rfl) (by kernel_rfl) (by kernel_rfl) (fun _ _ _ h => h) (Or.inl ⟨by kernel_rfl, ?hyc10⟩) hHd (show wpAnyH _ _ _ _ _ _ _ (Act.put _ (some 26) _) _ from ?restc10)
  case hyc10 => (rintro wS ⟨s1, s2, s3, s4⟩; go_simp; try with_reducible rfl)
  try simp only [Act.put, List.setIfInBounds_toArray, List.set_cons_zero, List.set_cons_succ]
  refine wpAnyH_take (i := 11) (v := ?vc11) rfl (by kernel_rfl) (by kernel_rfl) (by kernel_rfl) (fun _ _ _ h => h) (Or.inl ⟨by kernel_rfl, ?hyc11⟩) hHd (show wpAnyH _ _ _ _ _ _ _ (Act.put _ (some 27) _) _ from ?restc11)
  case hyc11 => (rintro wS ⟨s1, s2, s3, s4⟩; go_simp; try with_reducible rfl)
  try simp only [Act.put, List.setIfInBounds_toArray, List.set_cons_zero, List.set_cons_succ]
  refine wpAnyH_take (i := 12) (v := ?vc12) rfl (by kernel_rfl) (by kernel_rfl) (by kernel_rfl) (fun _ _ _ h => h) (Or.inl ⟨by kernel_rfl, ?hyc12⟩) hHd (show wpAnyH _ _ _ _ _ _ _ (Act.put _ (some 28) _) _ from ?restc12)
  case hyc12 => (rintro wS ⟨s1, s2, s3, s4⟩; go_simp; try with_reducible rfl)
  try simp only [Act.put, List.setIfInBounds_toArray, List.set_cons_zero, List.set_cons_succ]
  refine wpAnyH_take (i := 13) (v := ?vc13) rfl (by kernel_rfl) (by kernel_rfl) (by kernel_rfl) (fun _ _ _ h => h) (Or.inl ⟨by kernel_rfl, ?hyc13⟩) hHd (show wpAnyH _ _ _ _ _ _ _ (Act.put _ (some 29) _) _ from ?restc13)
  case hyc13 => (rintro wS ⟨s1, s2, s3, s4⟩; go_simp; try with_reducible rfl)
  try simp only [Act.put, List.setIfInBounds_toArray, List.set_cons_zero, List.set_cons_succ]
  refine wpAnyH_take (i := 14) (v := ?vc14) rfl (by kernel_rfl) (by kernel_rfl) (by kernel_rfl) (fun _ _ _ h => h) (Or.inl ⟨by kernel_rfl, ?hyc14⟩) hHd (show wpAnyH _ _ _ _ _ _ _ (Act.put _ (some 30) _) _ from ?restc14)
  case hyc14 => (rintro wS ⟨s1, s2, s3, s4⟩; go_simp; try with_reducible rfl)
  try simp only [Act.put, List.setIfInBounds_toArray, List.set_cons_zero, List.set_cons_succ]
  refine wpAnyH_take (i := 15) (v := ?vc15) rfl (by kernel_rfl) (by kernel_rfl) (by kernel_rfl) (fun _ _ _ h => h) (Or.inl ⟨by kernel_rfl, ?hyc15⟩) hHd (show wpAnyH _ _ _ _ _ _ _ (Act.put _ (some 31) _) _ from ?restc15)
  case hyc15 => (rintro wS ⟨s1, s2, s3, s4⟩; go_simp; try with_reducible rfl)
  try simp only [Act.put, List.setIfInBounds_toArray, List.set_cons_zero, List.set_cons_succ]
  refine wpAnyH_done (by kernel_rfl) ?_ _
  have hbY : RowAt X.drew b (z9 l) 41 := (HB.out.grown HXG.out (by simp)).drew
  have hgY : w.grownBy X.drew none := za HXG.out
  have hEY := HXR.out.drew
  obtain ⟨Y, hY⟩ : ∃ Y, Y = X.drew := ⟨_, rfl⟩
  rw [<- hY] at hbY hgY hEY ⊢
  clear hY hHd x0 x1 x2 e2 e3
  have y2 := hEY.cell (i := 2) rfl
  have y3 := hEY.cell (i := 3) rfl
  have z := z6f hk
  have r1 := hbY.drew.cell z.2.1
  have r2 := hbY.drew.cell z.2.2.1
  have f1 := hbY.drew.free (i := k * 4 + 1)
  have f2 := hbY.drew.free (i := k * 4 + 2)
  have u1 := hbY.drew.set (k * 4 + 1) (.int .i64 ep)
  have u2 := hbY.drew.set (k * 4 + 2) (.int .i64 nu)
  have r12 := u1.cell (i := k * 4 + 2) (v := .int .i64 l[k].1.2.2.1) (by rw [List.getElem?_set_ne (by omega)]; exact z.2.2.1)
  have r21 := u2.cell (i := k * 4 + 1) (v := .int .i64 l[k].1.2.1) (by rw [List.getElem?_set_ne (by omega)]; exact z.2.1)
  have f12 := u1.free (i := k * 4 + 2)
  have f21 := u2.free (i := k * 4 + 1)
  have r12' : World.cell? (Y.setCell ⟨b, k * 4 + 1, none⟩ (.int .i64 ep)) ⟨b, k * 4 + 2, none⟩ = some (.int .i64 l[k].1.2.2.1) := r12
  have r21' : World.cell? (Y.setCell ⟨b, k * 4 + 2, none⟩ (.int .i64 nu)) ⟨b, k * 4 + 1, none⟩ = some (.int .i64 l[k].1.2.1) := r21
  have f12' : World.frozen? (Y.setCell ⟨b, k * 4 + 1, none⟩ (.int .i64 ep)) ⟨b, k * 4 + 2, none⟩ = false := f12
  have f21' : World.frozen? (Y.setCell ⟨b, k * 4 + 2, none⟩ (.int .i64 nu)) ⟨b, k * 4 + 1, none⟩ = false := f21
  have w1 := u1.set (k * 4 + 2) (.int .i64 nu)
  have w2 := u2.set (k * 4 + 1) (.int .i64 ep)
  rw [HS2.out] at w1
  rw [List.set_comm _ _ (by omega), HS2.out] at w2
  have W1 := Go.Lib.hid w1
  have W2 := Go.Lib.hid w2
  have HGY := Go.Lib.hid hgY
  have hg3 : ¬ (ep < t.2.1 \/ nu < t.2.2.1) := by omega
  have s0 : World.cell? Y.drew ⟨E, 2, none⟩ = some (.int .i64 nu) /\ World.cell? Y.drew ⟨E, 3, none⟩ = some (.int .i64 ep) := ⟨y2, y3⟩
  have s1 : World.cell? (Y.drew.setCell ⟨b, k * 4 + 1, none⟩ (.int .i64 ep)) ⟨E, 2, none⟩ = some (.int .i64 nu) /\ World.cell? (Y.drew.setCell ⟨b, k * 4 + 1, none⟩ (.int .i64 ep)) ⟨E, 3, none⟩ = some (.int .i64 ep) := ⟨z19 y2 ew, z19 y3 ew⟩
  have s2 : World.cell? (Y.drew.setCell ⟨b, k * 4 + 2, none⟩ (.int .i64 nu)) ⟨E, 2, none⟩ = some (.int .i64 nu) /\ World.cell? (Y.drew.setCell ⟨b, k * 4 + 2, none⟩ (.int .i64 nu)) ⟨E, 3, none⟩ = some (.int .i64 ep) := ⟨z19 y2 ew, z19 y3 ew⟩
  have s12 := And.intro (z19 (q := ⟨b, k * 4 + 2, none⟩) (u := .int .i64 nu) s1.1 ew) (z19 (q := ⟨b, k * 4 + 2, none⟩) (u := .int .i64 nu) s1.2 ew)
  have s21 := And.intro (z19 (q := ⟨b, k * 4 + 1, none⟩) (u := .int .i64 ep) s2.1 ew) (z19 (q := ⟨b, k * 4 + 1, none⟩) (u := .int .i64 ep) s2.2 ew)
  clear hbY hEY u1 u2 w1 w2 z hgY hd1 hd2 HXG HXR
  go_wp2
  go_region_held3 (fun w' => World.cell? w' ⟨E, 2, none⟩ = some (.int .i64 nu) /\ World.cell? w' ⟨E, 3, none⟩ = some (.int .i64 ep)) (first | assumption | exact s0 | exact s1 | exact s2 | exact s12 | exact s21 | go_keep) (fail)
  all_goals go_wp2
  all_goals first
    | exact H2.out _ hg3 (zuc HGY.out _ _ _ _) W1.out
    | exact H2.out _ hg3 (zuc HGY.out _ _ _ _) W2.out

def z64 (ts : List TenT.den) (nm : List UInt8) : Nat := (ts.takeWhile fun t => Op.bytesLess t.1 nm).length

theorem z7e (l : List (TenT.den × Value)) (j : Nat) : z9 (l.take j) = (z9 l).take (j * 4) := by
  induction l generalizing j with
  | nil => simp [z9]
  | cons k l ih =>
    cases j with
    | zero => rfl
    | succ j =>
      have e : ∀ (p : TenT.den × Value) l, z9 (p :: l) = .string ⟨⟨p.1.1⟩⟩ :: .int .i64 p.1.2.1 :: .int .i64 p.1.2.2.1 :: p.2 :: z9 l := fun _ _ => rfl
      rw [List.take_succ_cons, e, e, show (j + 1) * 4 = j * 4 + 1 + 1 + 1 + 1 by omega, List.take_succ_cons, List.take_succ_cons, List.take_succ_cons, List.take_succ_cons, ih]

theorem z7f (l : List (TenT.den × Value)) (j : Nat) : z9 (l.drop j) = (z9 l).drop (j * 4) := by
  induction l generalizing j with
  | nil => simp [z9]
  | cons k l ih =>
    cases j with
    | zero => rfl
    | succ j =>
      have e : ∀ (p : TenT.den × Value) l, z9 (p :: l) = .string ⟨⟨p.1.1⟩⟩ :: .int .i64 p.1.2.1 :: .int .i64 p.1.2.2.1 :: p.2 :: z9 l := fun _ _ => rfl
      rw [List.drop_succ_cons, e, show (j + 1) * 4 = j * 4 + 1 + 1 + 1 + 1 by omega, List.drop_succ_cons, List.drop_succ_cons, List.drop_succ_cons, List.drop_succ_cons, ih]

theorem zci {w w5 : World} {q : Nat} (h : w.grownBy w5 none) (i : Nat) (v : Value) : w.grownBy (w5.setCell ⟨q, i, none⟩ v) (some q) := by
  have h1 := z1y (w := w5) (g := q) (i := i) v
  exact ⟨h1.os.trans h.os, h1.tape.trans h.tape, h1.output.trans h.output, Nat.le_trans h.size h1.size, fun k hk hne => (h1.block k (Nat.lt_of_lt_of_le hk h.size) hne).trans (h.block k hk (by simp))⟩

set_option maxHeartbeats 30000000 in
theorem zsx {w : World} {q b n : Nat} {at' ser : Int} {l : List (TenT.den × Value)} {kd nu ep : Int} {tn tx : List UInt8} (hq : RowAt w q [.slice (some ⟨b, 0, none⟩) n n, .int .i64 ser] 24) (hb : RowAt w b (z9 l) 41) (hqb : q ≠ b) (hln : l.length = n) (hone : ∀ p ∈ l, p.2.oneCell' = true) (hn : n < 256) (hat : at' < 0) :
    Calls Go.Proofs.Try.prog 55 #[.pointer (some ⟨q, 0, none⟩), .int .i64 at', evV kd tn nu ep tx] w fun r w' =>
      (if n = 16 then r = .returned (.int .i64 3) /\ w.grownBy w' none else r = .returned (.int .i64 0) /\ w.grownBy w' (some q) /\ ∃ nb cap sp, n + 1 <= cap /\ w.heap.size <= nb /\ RowAt w' q [.slice (some ⟨nb, 0, none⟩) (n + 1) cap, .int .i64 ser] 24 /\ RowAt w' nb (z9 (l.take (z64 (l.map (·.1)) tn) ++ [((tn, (ep, (nu, ([], ())))), .slice none 0 0)] ++ l.drop (z64 (l.map (·.1)) tn)) ++ sp) 41) := by
  have c0 := hq.cell (i := 0) rfl
  have HB := Go.Lib.hid hb
  have HQ := Go.Lib.hid hq
  unfold evV
  suffices HX : ∀ R : Ending -> World -> Prop, Go.RowKit.Hid (∀ w', n = 16 -> w.grownBy w' none -> R (.returned (.int .i64 3)) w') -> Go.RowKit.Hid (∀ w', n ≠ 16 -> w.grownBy w' (some q) -> (∃ nb cap sp, n + 1 <= cap /\ w.heap.size <= nb /\ RowAt w' q [.slice (some ⟨nb, 0, none⟩) (n + 1) cap, .int .i64 ser] 24 /\ RowAt w' nb (z9 (l.take (z64 (l.map (·.1)) tn) ++ [((tn, (ep, (nu, ([], ())))), .slice none 0 0)] ++ l.drop (z64 (l.map (·.1)) tn)) ++ sp) 41) -> R (.returned (.int .i64 0)) w') →
      Calls Go.Proofs.Try.prog 55 #[.pointer (some ⟨q, 0, none⟩), .int .i64 at', .agg #[.int .i64 kd, .string ⟨⟨tn⟩⟩, .int .i64 nu, .int .i64 ep, .string ⟨⟨tx⟩⟩]] w R from
    HX _ (Go.Lib.hid (fun w' h1 h2 => by rw [if_pos h1]; exact ⟨rfl, h2⟩)) (Go.Lib.hid (fun w' h1 h2 h3 => by rw [if_neg h1]; exact ⟨rfl, h2, h3⟩))
  intro R H1 H2
  have x0 := z10 (o := Obj.cells #[.int .i64 kd, .string ⟨⟨tn⟩⟩, .int .i64 nu, .int .i64 ep, .string ⟨⟨tx⟩⟩] 51) c0
  have xr := RowAt.new w [.int .i64 kd, .string ⟨⟨tn⟩⟩, .int .i64 nu, .int .i64 ep, .string ⟨⟨tx⟩⟩] 51
  have xg := World.grownBy_alloc w (Obj.cells #[.int .i64 kd, .string ⟨⟨tn⟩⟩, .int .i64 nu, .int .i64 ep, .string ⟨⟨tx⟩⟩] 51) none
  have ew : w.heap.size ≠ q := by have := hq.lt; omega
  have hat1 : ¬ (0 : Int) <= at' := by omega
  clear hb hq c0
  go_enter Go.Proofs.Try.func55, Go.Proofs.Try.ntmps55
  go_upto_region 7 with (fail)
  simp only [List.toArray] at xr
  obtain ⟨X, hX⟩ : ∃ X, X = w.alloc (Obj.cells #[.int .i64 kd, .string ⟨⟨tn⟩⟩, .int .i64 nu, .int .i64 ep, .string ⟨⟨tx⟩⟩] 51) := ⟨_, rfl⟩
  rw [<- hX] at x0 xr xg ⊢
  clear hX
  obtain ⟨E, hE⟩ : ∃ E, E = w.heap.size := ⟨_, rfl⟩
  rw [<- hE] at xr ew ⊢
  have HE := Go.Lib.hid hE
  clear hE
  have e1 := xr.cell (i := 1) rfl
  have HXG := Go.Lib.hid xg
  have HXR := Go.Lib.hid xr
  clear xr xg
  by_cases g1 : n = 16
  . subst g1
    go_wp2
    exact H1.out _ (by simp) HXG.out
  have g1' : ¬ (n : Int) = 16 := by omega
  go_wp2
  go_loopw [1] (fun i W => ∃ j : Nat, i = .int .i64 (j : Int) /\ j <= n /\ j <= z64 (l.map (·.1)) tn /\ X.grownBy W none) (fun i _ => n - (Go.RowKit.intOf i).toNat)
  case' atStart => exact ⟨0, rfl, Nat.zero_le _, Nat.zero_le _, ⟨rfl, rfl, rfl, Nat.le_refl _, fun _ _ _ => rfl⟩⟩
  obtain ⟨j, rfl, hj, hja, hgr⟩ := hrel
  have HGR := Go.Lib.hid hgr
  have HJA := Go.Lib.hid hja
  have v0 := hgr.cell x0 (by simp)
  have v1 := hgr.cell e1 (by simp)
  clear hgr hja
  have hb0 : (0 : Int) <= (j : Int) := by omega
  have hml : (l.map (·.1)).length = n := by rw [List.length_map]; exact hln
  rcases Nat.lt_or_ge j n with hlt | hge
  . have hb1 : (j : Int) < (n : Int) := by omega
    have hd : decide ((j : Int) < (n : Int)) = true := decide_eq_true hb1
    have hjl : j < l.length := by omega
    have v2 : wr.cell? ⟨b, j * 4, none⟩ = some (.string ⟨⟨l[j].1.1⟩⟩) := HGR.out.cell (HXG.out.cell (HB.out.cell (z6f hjl).1) (by simp)) (by simp)
    have hjm : (l.map (·.1))[j]'(by rw [hml]; exact hlt) = l[j].1 := by rw [List.getElem_map]
    obtain ⟨nm, hnm⟩ : ∃ nm, nm = l[j].1.1 := ⟨_, rfl⟩
    rw [<- hnm] at v2
    have HNM := Go.Lib.hid hnm
    have HJM := Go.Lib.hid hjm
    clear hnm hjm
    go_wp2
    by_cases hkn : Op.bytesLess nm tn = true
    . have hd2 : Op.bytesLess (ByteArray.toList ⟨⟨nm⟩⟩) (ByteArray.toList ⟨⟨tn⟩⟩) = true := by rw [ByteArray.toList_eq, ByteArray.toList_eq]; exact hkn
      refine wp_region_held_drew (S := fun w' => World.cell? w' ⟨q, 0, none⟩ = some (.slice (some ⟨b, 0, none⟩) n n) /\ World.cell? w' ⟨E, 1, none⟩ = some (.string ⟨⟨tn⟩⟩) /\ World.cell? w' ⟨b, j * 4, none⟩ = some (.string ⟨⟨nm⟩⟩)) (by kernel_rfl) (⟨v0, v1, v2⟩) (fun hHd => ?_)
      refine wpAnyH_take (i := 0) (v := ?va0) rfl (by kernel_rfl) (by kernel_rfl) (by kernel_rfl) (fun _ _ _ h => h) (Or.inl ⟨by kernel_rfl, ?hya0⟩) hHd (show wpAnyH _ _ _ _ _ _ _ (Act.put _ (some 48) _) _ from ?resta0)
      case hya0 => (rintro wS ⟨s1, s2, s3⟩; go_simp; try with_reducible rfl)
      try simp only [Act.put, List.setIfInBounds_toArray, List.set_cons_zero, List.set_cons_succ]
      refine wpAnyH_take (i := 1) (v := ?va1) rfl (by kernel_rfl) (by kernel_rfl) (by kernel_rfl) (fun _ _ _ h => h) (Or.inl ⟨by kernel_rfl, ?hya1⟩) hHd (show wpAnyH _ _ _ _ _ _ _ (Act.put _ (some 49) _) _ from ?resta1)
      case hya1 => (rintro wS ⟨s1, s2, s3⟩; go_simp; try with_reducible rfl)
      try simp only [Act.put, List.setIfInBounds_toArray, List.set_cons_zero, List.set_cons_succ]
      refine wpAnyH_take (i := 2) (v := ?va2) rfl (by kernel_rfl) (by kernel_rfl) (by kernel_rfl) (fun _ _ _ h => h) (Or.inl ⟨by kernel_rfl, ?hya2⟩) hHd (show wpAnyH _ _ _ _ _ _ _ (Act.put _ (some 50) _) _ from ?resta2)
      case hya2 => (rintro wS ⟨s1, s2, s3⟩; go_simp; try with_reducible rfl)
      try simp only [Act.put, List.setIfInBounds_toArray, List.set_cons_zero, List.set_cons_succ]
      refine wpAnyH_take (i := 3) (v := ?va3) rfl (by kernel_rfl) (by kernel_rfl) (by kernel_rfl) (fun _ _ _ h => h) (Or.inl ⟨by kernel_rfl, ?hya3⟩) hHd (show wpAnyH _ _ _ _ _ _ _ (Act.put _ (some 51) _) _ from ?resta3)
      case hya3 => (rintro wS ⟨s1, s2, s3⟩; go_simp; try with_reducible rfl)
      try simp only [Act.put, List.setIfInBounds_toArray, List.set_cons_zero, List.set_cons_succ]
      refine wpAnyH_take (i := 4) (v := ?va4) rfl (by kernel_rfl) (by kernel_rfl) (by kernel_rfl) (fun _ _ _ h => h) (Or.inl ⟨by kernel_rfl, ?hya4⟩) hHd (show wpAnyH _ _ _ _ _ _ _ (Act.put _ (some 52) _) _ from ?resta4)
      case hya4 => (rintro wS ⟨s1, s2, s3⟩; go_simp; try with_reducible rfl)
      try simp only [Act.put, List.setIfInBounds_toArray, List.set_cons_zero, List.set_cons_succ]
      refine wpAnyH_take (i := 5) (v := ?va5) rfl (by kernel_rfl) (by kernel_rfl) (by kernel_rfl) (fun _ _ _ h => h) (Or.inl ⟨by kernel_rfl, ?hya5⟩) hHd (show wpAnyH _ _ _ _ _ _ _ (Act.put _ (some 53) _) _ from ?resta5)
      case hya5 => (rintro wS ⟨s1, s2, s3⟩; go_simp; try with_reducible rfl)
      try simp only [Act.put, List.setIfInBounds_toArray, List.set_cons_zero, List.set_cons_succ]
      refine wpAnyH_take (i := 6) (v := ?va6) rfl (by kernel_rfl) (by kernel_rfl) (by kernel_rfl) (fun _ _ _ h => h) (Or.inl ⟨by kernel_rfl, ?hya6⟩) hHd (show wpAnyH _ _ _ _ _ _ _ (Act.put _ (some 54) _) _ from ?resta6)
      case hya6 => (rintro wS ⟨s1, s2, s3⟩; go_simp; try with_reducible rfl)
      try simp only [Act.put, List.setIfInBounds_toArray, List.set_cons_zero, List.set_cons_succ]
      refine wpAnyH_take (i := 7) (v := ?va7) rfl (by kernel_rfl) (by kernel_rfl) (by kernel_rfl) (fun _ _ _ h => h) (Or.inl ⟨by kernel_rfl, ?hya7⟩) hHd (show wpAnyH _ _ _ _ _ _ _ (Act.put _ (some 55) _) _ from ?resta7)
      case hya7 => (rintro wS ⟨s1, s2, s3⟩; go_simp; try with_reducible rfl)
      try simp only [Act.put, List.setIfInBounds_toArray, List.set_cons_zero, List.set_cons_succ]
      refine wpAnyH_take (i := 8) (v := ?va8) rfl (by kernel_rfl) (by kernel_rfl) (by kernel_rfl) (fun _ _ _ h => h) (Or.inl ⟨by kernel_rfl, ?hya8⟩) hHd (show wpAnyH _ _ _ _ _ _ _ (Act.put _ (some 56) _) _ from ?resta8)
      case hya8 => (rintro wS ⟨s1, s2, s3⟩; go_simp; try with_reducible rfl)
      try simp only [Act.put, List.setIfInBounds_toArray, List.set_cons_zero, List.set_cons_succ]
      refine wpAnyH_take (i := 9) (v := ?va9) rfl (by kernel_rfl) (by kernel_rfl) (by kernel_rfl) (fun _ _ _ h => h) (Or.inl ⟨by kernel_rfl, ?hya9⟩) hHd (show wpAnyH _ _ _ _ _ _ _ (Act.put _ (some 57) _) _ from ?resta9)
      case hya9 => (rintro wS ⟨s1, s2, s3⟩; go_simp; try with_reducible rfl)
      try simp only [Act.put, List.setIfInBounds_toArray, List.set_cons_zero, List.set_cons_succ]
      refine wpAnyH_take (i := 10) (v := ?va10) rfl (by kernel_rfl) (by kernel_rfl) (by kernel_rfl) (fun _ _ _ h => h) (Or.inl ⟨by kernel_rfl, ?hya10⟩) hHd (show wpAnyH _ _ _ _ _ _ _ (Act.put _ (some 58) _) _ from ?resta10)
      case hya10 => (rintro wS ⟨s1, s2, s3⟩; go_simp; try with_reducible rfl)
      try simp only [Act.put, List.setIfInBounds_toArray, List.set_cons_zero, List.set_cons_succ]
      refine wpAnyH_take (i := 11) (v := ?va11) rfl (by kernel_rfl) (by kernel_rfl) (by kernel_rfl) (fun _ _ _ h => h) (Or.inl ⟨by kernel_rfl, ?hya11⟩) hHd (show wpAnyH _ _ _ _ _ _ _ (Act.put _ (some 59) _) _ from ?resta11)
      case hya11 => (rintro wS ⟨s1, s2, s3⟩; go_simp; try with_reducible rfl)
      try simp only [Act.put, List.setIfInBounds_toArray, List.set_cons_zero, List.set_cons_succ]
      refine wpAnyH_take (i := 12) (v := ?va12) rfl (by kernel_rfl) (by kernel_rfl) (by kernel_rfl) (fun _ _ _ h => h) (Or.inl ⟨by kernel_rfl, ?hya12⟩) hHd (show wpAnyH _ _ _ _ _ _ _ (Act.put _ (some 60) _) _ from ?resta12)
      case hya12 => (rintro wS ⟨s1, s2, s3⟩; go_simp; try with_reducible rfl)
      try simp only [Act.put, List.setIfInBounds_toArray, List.set_cons_zero, List.set_cons_succ]
      refine wpAnyH_take (i := 13) (v := ?va13) rfl (by kernel_rfl) (by kernel_rfl) (by kernel_rfl) (fun _ _ _ h => h) (Or.inl ⟨by kernel_rfl, ?hya13⟩) hHd (show wpAnyH _ _ _ _ _ _ _ (Act.put _ (some 61) _) _ from ?resta13)
      case hya13 => (rintro wS ⟨s1, s2, s3⟩; go_simp; try with_reducible rfl)
      try simp only [Act.put, List.setIfInBounds_toArray, List.set_cons_zero, List.set_cons_succ]
      refine wpAnyH_take (i := 14) (v := ?va14) rfl (by kernel_rfl) (by kernel_rfl) (by kernel_rfl) (fun _ _ _ h => h) (Or.inl ⟨by kernel_rfl, ?hya14⟩) hHd (show wpAnyH _ _ _ _ _ _ _ (Act.put _ (some 62) _) _ from ?resta14)
      case hya14 => (rintro wS ⟨s1, s2, s3⟩; go_simp; try with_reducible rfl)
      try simp only [Act.put, List.setIfInBounds_toArray, List.set_cons_zero, List.set_cons_succ]
      refine wpAnyH_take (i := 15) (v := ?va15) rfl (by kernel_rfl) (by kernel_rfl) (by kernel_rfl) (fun _ _ _ h => h) (Or.inl ⟨by kernel_rfl, ?hya15⟩) hHd (show wpAnyH _ _ _ _ _ _ _ (Act.put _ (some 63) _) _ from ?resta15)
      case hya15 => (rintro wS ⟨s1, s2, s3⟩; go_simp; try with_reducible rfl)
      try simp only [Act.put, List.setIfInBounds_toArray, List.set_cons_zero, List.set_cons_succ]
      refine wpAnyH_take (i := 16) (v := ?va16) rfl (by kernel_rfl) (by kernel_rfl) (by kernel_rfl) (fun _ _ _ h => h) (Or.inl ⟨by kernel_rfl, ?hya16⟩) hHd (show wpAnyH _ _ _ _ _ _ _ (Act.put _ (some 64) _) _ from ?resta16)
      case hya16 => (rintro wS ⟨s1, s2, s3⟩; go_simp; try with_reducible rfl)
      try simp only [Act.put, List.setIfInBounds_toArray, List.set_cons_zero, List.set_cons_succ]
      refine wpAnyH_take (i := 17) (v := ?va17) rfl (by kernel_rfl) (by kernel_rfl) (by kernel_rfl) (fun _ _ _ h => h) (Or.inl ⟨by kernel_rfl, ?hya17⟩) hHd (show wpAnyH _ _ _ _ _ _ _ (Act.put _ (some 65) _) _ from ?resta17)
      case hya17 => (rintro wS ⟨s1, s2, s3⟩; go_simp; try with_reducible rfl)
      try simp only [Act.put, List.setIfInBounds_toArray, List.set_cons_zero, List.set_cons_succ]
      refine wpAnyH_take (i := 18) (v := ?va18) rfl (by kernel_rfl) (by kernel_rfl) (by kernel_rfl) (fun _ _ _ h => h) (Or.inl ⟨by kernel_rfl, ?hya18⟩) hHd (show wpAnyH _ _ _ _ _ _ _ (Act.put _ (some 66) _) _ from ?resta18)
      case hya18 => (rintro wS ⟨s1, s2, s3⟩; go_simp; try with_reducible rfl)
      try simp only [Act.put, List.setIfInBounds_toArray, List.set_cons_zero, List.set_cons_succ]
      refine wpAnyH_take (i := 19) (v := ?va19) rfl (by kernel_rfl) (by kernel_rfl) (by kernel_rfl) (fun _ _ _ h => h) (Or.inl ⟨by kernel_rfl, ?hya19⟩) hHd (show wpAnyH _ _ _ _ _ _ _ (Act.put _ (some 67) _) _ from ?resta19)
      case hya19 => (rintro wS ⟨s1, s2, s3⟩; go_simp; try with_reducible rfl)
      try simp only [Act.put, List.setIfInBounds_toArray, List.set_cons_zero, List.set_cons_succ]
      refine wpAnyH_done (by kernel_rfl) ?_ _
      go_wp2
      refine ⟨⟨j + 1, by simp, by omega, ?_, za HGR.out⟩, ?_⟩
      . exact zkz (by rw [hml]; exact hlt) HJA.out (by rw [HJM.out, <- HNM.out]; exact hkn)
      . simp [Go.RowKit.intOf]
        omega
    . have hd2 : Op.bytesLess (ByteArray.toList ⟨⟨nm⟩⟩) (ByteArray.toList ⟨⟨tn⟩⟩) = false := by rw [ByteArray.toList_eq, ByteArray.toList_eq]; simpa using hkn
      have hat2 : z64 (l.map (·.1)) tn = j := zpi (by rw [hml]; exact hlt) HJA.out (by rw [HJM.out, <- HNM.out]; simpa using hkn)
      have HAT := Go.Lib.hid hat2
      clear hat2
      refine wp_region_held_drew (S := fun w' => World.cell? w' ⟨q, 0, none⟩ = some (.slice (some ⟨b, 0, none⟩) n n) /\ World.cell? w' ⟨E, 1, none⟩ = some (.string ⟨⟨tn⟩⟩) /\ World.cell? w' ⟨b, j * 4, none⟩ = some (.string ⟨⟨nm⟩⟩)) (by kernel_rfl) (⟨v0, v1, v2⟩) (fun hHd => ?_)
      refine wpAnyH_take (i := 0) (v := ?vb0) rfl (by kernel_rfl) (by kernel_rfl) (by kernel_rfl) (fun _ _ _ h => h) (Or.inl ⟨by kernel_rfl, ?hyb0⟩) hHd (show wpAnyH _ _ _ _ _ _ _ (Act.put _ (some 48) _) _ from ?restb0)
      case hyb0 => (rintro wS ⟨s1, s2, s3⟩; go_simp; try with_reducible rfl)
      try simp only [Act.put, List.setIfInBounds_toArray, List.set_cons_zero, List.set_cons_succ]
      refine wpAnyH_take (i := 1) (v := ?vb1) rfl (by kernel_rfl) (by kernel_rfl) (by kernel_rfl) (fun _ _ _ h => h) (Or.inl ⟨by kernel_rfl, ?hyb1⟩) hHd (show wpAnyH _ _ _ _ _ _ _ (Act.put _ (some 49) _) _ from ?restb1)
      case hyb1 => (rintro wS ⟨s1, s2, s3⟩; go_simp; try with_reducible rfl)
      try simp only [Act.put, List.setIfInBounds_toArray, List.set_cons_zero, List.set_cons_succ]
      refine wpAnyH_take (i := 2) (v := ?vb2) rfl (by kernel_rfl) (by kernel_rfl) (by kernel_rfl) (fun _ _ _ h => h) (Or.inl ⟨by kernel_rfl, ?hyb2⟩) hHd (show wpAnyH _ _ _ _ _ _ _ (Act.put _ (some 50) _) _ from ?restb2)
      case hyb2 => (rintro wS ⟨s1, s2, s3⟩; go_simp; try with_reducible rfl)
      try simp only [Act.put, List.setIfInBounds_toArray, List.set_cons_zero, List.set_cons_succ]
      refine wpAnyH_take (i := 3) (v := ?vb3) rfl (by kernel_rfl) (by kernel_rfl) (by kernel_rfl) (fun _ _ _ h => h) (Or.inl ⟨by kernel_rfl, ?hyb3⟩) hHd (show wpAnyH _ _ _ _ _ _ _ (Act.put _ (some 51) _) _ from ?restb3)
      case hyb3 => (rintro wS ⟨s1, s2, s3⟩; go_simp; try with_reducible rfl)
      try simp only [Act.put, List.setIfInBounds_toArray, List.set_cons_zero, List.set_cons_succ]
      refine wpAnyH_take (i := 4) (v := ?vb4) rfl (by kernel_rfl) (by kernel_rfl) (by kernel_rfl) (fun _ _ _ h => h) (Or.inl ⟨by kernel_rfl, ?hyb4⟩) hHd (show wpAnyH _ _ _ _ _ _ _ (Act.put _ (some 52) _) _ from ?restb4)
      case hyb4 => (rintro wS ⟨s1, s2, s3⟩; go_simp; try with_reducible rfl)
      try simp only [Act.put, List.setIfInBounds_toArray, List.set_cons_zero, List.set_cons_succ]
      refine wpAnyH_take (i := 5) (v := ?vb5) rfl (by kernel_rfl) (by kernel_rfl) (by kernel_rfl) (fun _ _ _ h => h) (Or.inl ⟨by kernel_rfl, ?hyb5⟩) hHd (show wpAnyH _ _ _ _ _ _ _ (Act.put _ (some 53) _) _ from ?restb5)
      case hyb5 => (rintro wS ⟨s1, s2, s3⟩; go_simp; try with_reducible rfl)
      try simp only [Act.put, List.setIfInBounds_toArray, List.set_cons_zero, List.set_cons_succ]
      refine wpAnyH_take (i := 6) (v := ?vb6) rfl (by kernel_rfl) (by kernel_rfl) (by kernel_rfl) (fun _ _ _ h => h) (Or.inl ⟨by kernel_rfl, ?hyb6⟩) hHd (show wpAnyH _ _ _ _ _ _ _ (Act.put _ (some 54) _) _ from ?restb6)
      case hyb6 => (rintro wS ⟨s1, s2, s3⟩; go_simp; try with_reducible rfl)
      try simp only [Act.put, List.setIfInBounds_toArray, List.set_cons_zero, List.set_cons_succ]
      refine wpAnyH_take (i := 7) (v := ?vb7) rfl (by kernel_rfl) (by kernel_rfl) (by kernel_rfl) (fun _ _ _ h => h) (Or.inl ⟨by kernel_rfl, ?hyb7⟩) hHd (show wpAnyH _ _ _ _ _ _ _ (Act.put _ (some 55) _) _ from ?restb7)
      case hyb7 => (rintro wS ⟨s1, s2, s3⟩; go_simp; try with_reducible rfl)
      try simp only [Act.put, List.setIfInBounds_toArray, List.set_cons_zero, List.set_cons_succ]
      refine wpAnyH_take (i := 8) (v := ?vb8) rfl (by kernel_rfl) (by kernel_rfl) (by kernel_rfl) (fun _ _ _ h => h) (Or.inl ⟨by kernel_rfl, ?hyb8⟩) hHd (show wpAnyH _ _ _ _ _ _ _ (Act.put _ (some 56) _) _ from ?restb8)
      case hyb8 => (rintro wS ⟨s1, s2, s3⟩; go_simp; try with_reducible rfl)
      try simp only [Act.put, List.setIfInBounds_toArray, List.set_cons_zero, List.set_cons_succ]
      refine wpAnyH_take (i := 9) (v := ?vb9) rfl (by kernel_rfl) (by kernel_rfl) (by kernel_rfl) (fun _ _ _ h => h) (Or.inl ⟨by kernel_rfl, ?hyb9⟩) hHd (show wpAnyH _ _ _ _ _ _ _ (Act.put _ (some 57) _) _ from ?restb9)
      case hyb9 => (rintro wS ⟨s1, s2, s3⟩; go_simp; try with_reducible rfl)
      try simp only [Act.put, List.setIfInBounds_toArray, List.set_cons_zero, List.set_cons_succ]
      refine wpAnyH_take (i := 10) (v := ?vb10) rfl (by kernel_rfl) (by kernel_rfl) (by kernel_rfl) (fun _ _ _ h => h) (Or.inl ⟨by kernel_rfl, ?hyb10⟩) hHd (show wpAnyH _ _ _ _ _ _ _ (Act.put _ (some 58) _) _ from ?restb10)
      case hyb10 => (rintro wS ⟨s1, s2, s3⟩; go_simp; try with_reducible rfl)
      try simp only [Act.put, List.setIfInBounds_toArray, List.set_cons_zero, List.set_cons_succ]
      refine wpAnyH_take (i := 11) (v := ?vb11) rfl (by kernel_rfl) (by kernel_rfl) (by kernel_rfl) (fun _ _ _ h => h) (Or.inl ⟨by kernel_rfl, ?hyb11⟩) hHd (show wpAnyH _ _ _ _ _ _ _ (Act.put _ (some 59) _) _ from ?restb11)
      case hyb11 => (rintro wS ⟨s1, s2, s3⟩; go_simp; try with_reducible rfl)
      try simp only [Act.put, List.setIfInBounds_toArray, List.set_cons_zero, List.set_cons_succ]
      refine wpAnyH_take (i := 12) (v := ?vb12) rfl (by kernel_rfl) (by kernel_rfl) (by kernel_rfl) (fun _ _ _ h => h) (Or.inl ⟨by kernel_rfl, ?hyb12⟩) hHd (show wpAnyH _ _ _ _ _ _ _ (Act.put _ (some 60) _) _ from ?restb12)
      case hyb12 => (rintro wS ⟨s1, s2, s3⟩; go_simp; try with_reducible rfl)
      try simp only [Act.put, List.setIfInBounds_toArray, List.set_cons_zero, List.set_cons_succ]
      refine wpAnyH_take (i := 13) (v := ?vb13) rfl (by kernel_rfl) (by kernel_rfl) (by kernel_rfl) (fun _ _ _ h => h) (Or.inl ⟨by kernel_rfl, ?hyb13⟩) hHd (show wpAnyH _ _ _ _ _ _ _ (Act.put _ (some 61) _) _ from ?restb13)
      case hyb13 => (rintro wS ⟨s1, s2, s3⟩; go_simp; try with_reducible rfl)
      try simp only [Act.put, List.setIfInBounds_toArray, List.set_cons_zero, List.set_cons_succ]
      refine wpAnyH_take (i := 14) (v := ?vb14) rfl (by kernel_rfl) (by kernel_rfl) (by kernel_rfl) (fun _ _ _ h => h) (Or.inl ⟨by kernel_rfl, ?hyb14⟩) hHd (show wpAnyH _ _ _ _ _ _ _ (Act.put _ (some 62) _) _ from ?restb14)
      case hyb14 => (rintro wS ⟨s1, s2, s3⟩; go_simp; try with_reducible rfl)
      try simp only [Act.put, List.setIfInBounds_toArray, List.set_cons_zero, List.set_cons_succ]
      refine wpAnyH_take (i := 15) (v := ?vb15) rfl (by kernel_rfl) (by kernel_rfl) (by kernel_rfl) (fun _ _ _ h => h) (Or.inl ⟨by kernel_rfl, ?hyb15⟩) hHd (show wpAnyH _ _ _ _ _ _ _ (Act.put _ (some 63) _) _ from ?restb15)
      case hyb15 => (rintro wS ⟨s1, s2, s3⟩; go_simp; try with_reducible rfl)
      try simp only [Act.put, List.setIfInBounds_toArray, List.set_cons_zero, List.set_cons_succ]
      refine wpAnyH_take (i := 16) (v := ?vb16) rfl (by kernel_rfl) (by kernel_rfl) (by kernel_rfl) (fun _ _ _ h => h) (Or.inl ⟨by kernel_rfl, ?hyb16⟩) hHd (show wpAnyH _ _ _ _ _ _ _ (Act.put _ (some 64) _) _ from ?restb16)
      case hyb16 => (rintro wS ⟨s1, s2, s3⟩; go_simp; try with_reducible rfl)
      try simp only [Act.put, List.setIfInBounds_toArray, List.set_cons_zero, List.set_cons_succ]
      refine wpAnyH_take (i := 17) (v := ?vb17) rfl (by kernel_rfl) (by kernel_rfl) (by kernel_rfl) (fun _ _ _ h => h) (Or.inl ⟨by kernel_rfl, ?hyb17⟩) hHd (show wpAnyH _ _ _ _ _ _ _ (Act.put _ (some 65) _) _ from ?restb17)
      case hyb17 => (rintro wS ⟨s1, s2, s3⟩; go_simp; try with_reducible rfl)
      try simp only [Act.put, List.setIfInBounds_toArray, List.set_cons_zero, List.set_cons_succ]
      refine wpAnyH_take (i := 18) (v := ?vb18) rfl (by kernel_rfl) (by kernel_rfl) (by kernel_rfl) (fun _ _ _ h => h) (Or.inl ⟨by kernel_rfl, ?hyb18⟩) hHd (show wpAnyH _ _ _ _ _ _ _ (Act.put _ (some 66) _) _ from ?restb18)
      case hyb18 => (rintro wS ⟨s1, s2, s3⟩; go_simp; try with_reducible rfl)
      try simp only [Act.put, List.setIfInBounds_toArray, List.set_cons_zero, List.set_cons_succ]
      refine wpAnyH_take (i := 19) (v := ?vb19) rfl (by kernel_rfl) (by kernel_rfl) (by kernel_rfl) (fun _ _ _ h => h) (Or.inl ⟨by kernel_rfl, ?hyb19⟩) hHd (show wpAnyH _ _ _ _ _ _ _ (Act.put _ (some 67) _) _ from ?restb19)
      case hyb19 => (rintro wS ⟨s1, s2, s3⟩; go_simp; try with_reducible rfl)
      try simp only [Act.put, List.setIfInBounds_toArray, List.set_cons_zero, List.set_cons_succ]
      refine wpAnyH_done (by kernel_rfl) ?_ _
      go_wp2
      have hgY : w.grownBy wr.drew none := za (HXG.out.trans38 HGR.out)
      have hbY : RowAt wr.drew b (z9 l) 41 := HB.out.grown hgY (by simp)
      have hqY : RowAt wr.drew q [.slice (some ⟨b, 0, none⟩) n n, .int .i64 ser] 24 := HQ.out.grown hgY (by simp)
      have hEY := (HXR.out.grown HGR.out (by simp)).drew
      obtain ⟨Y, hY⟩ : ∃ Y, Y = wr.drew := ⟨_, rfl⟩
      rw [<- hY] at hgY hbY hqY hEY ⊢
      clear hY hHd v0 v1
      have y1 := hEY.cell (i := 1) rfl
      have y2 := hEY.cell (i := 2) rfl
      have y3 := hEY.cell (i := 3) rfl
      have y0 := hqY.cell (i := 0) rfl
      have y0d : Y.drew.cell? ⟨q, 0, none⟩ = some (.slice (some ⟨b, 0, none⟩) n n) := y0
      have zq := hqY.drew.alloc (Obj.cells #[.string ⟨⟨tn⟩⟩, .int .i64 ep, .int .i64 nu, .slice none 0 0] 41)
      have zb := hbY.drew.alloc (Obj.cells #[.string ⟨⟨tn⟩⟩, .int .i64 ep, .int .i64 nu, .slice none 0 0] 41)
      have zn := RowAt.new Y.drew [.string ⟨⟨tn⟩⟩, .int .i64 ep, .int .i64 nu, .slice none 0 0] 41
      have zg : w.grownBy (Y.drew.alloc (Obj.cells #[.string ⟨⟨tn⟩⟩, .int .i64 ep, .int .i64 nu, .slice none 0 0] 41)) none := (za hgY).trans38 (World.grownBy_alloc _ _ none)
      have zE : World.cell? (Y.drew.alloc (Obj.cells #[.string ⟨⟨tn⟩⟩, .int .i64 ep, .int .i64 nu, .slice none 0 0] 41)) ⟨E, 1, none⟩ = some (.string ⟨⟨tn⟩⟩) /\ World.cell? (Y.drew.alloc (Obj.cells #[.string ⟨⟨tn⟩⟩, .int .i64 ep, .int .i64 nu, .slice none 0 0] 41)) ⟨E, 2, none⟩ = some (.int .i64 nu) /\ World.cell? (Y.drew.alloc (Obj.cells #[.string ⟨⟨tn⟩⟩, .int .i64 ep, .int .i64 nu, .slice none 0 0] 41)) ⟨E, 3, none⟩ = some (.int .i64 ep) := ⟨z10 y1, z10 y2, z10 y3⟩
      have z0 := zq.cell (i := 0) rfl
      have z0' : (Y.alloc (Obj.cells #[.string ⟨⟨tn⟩⟩, .int .i64 ep, .int .i64 nu, .slice none 0 0] 41)).cell? ⟨q, 0, none⟩ = some (.slice (some ⟨b, 0, none⟩) n n) := z0
      have hins := zfc (i := j) (c := 1) zb (by rw [zch, hln]) (zqe hone) zn rfl (by intro v hv; simp at hv; rcases hv with rfl | rfl | rfl | rfl <;> rfl) hj hn
      have ZQ := Go.Lib.hid zq
      have ZG := Go.Lib.hid zg
      simp only [List.toArray] at hins
      clear zq zb zn zg hbY hqY hEY hgY
      refine wp_region_held_drew (S := fun w' => World.cell? w' ⟨E, 1, none⟩ = some (.string ⟨⟨tn⟩⟩) /\ World.cell? w' ⟨E, 2, none⟩ = some (.int .i64 nu) /\ World.cell? w' ⟨E, 3, none⟩ = some (.int .i64 ep)) (by kernel_rfl) (⟨y1, y2, y3⟩) (fun hHd => ?_)
      refine wpAnyH_take (i := 0) (v := ?vd0) rfl (by kernel_rfl) (by kernel_rfl) (by kernel_rfl) (fun _ _ _ h => h) (Or.inl ⟨by kernel_rfl, ?hyd0⟩) hHd (show wpAnyH _ _ _ _ _ _ _ (Act.put _ (some 70) _) _ from ?restd0)
      case hyd0 => (rintro wS ⟨s1, s2, s3⟩; go_simp; try with_reducible rfl)
      try simp only [Act.put, List.setIfInBounds_toArray, List.set_cons_zero, List.set_cons_succ]
      refine wpAnyH_take (i := 1) (v := ?vd1) rfl (by kernel_rfl) (by kernel_rfl) (by kernel_rfl) (fun _ _ _ h => h) (Or.inl ⟨by kernel_rfl, ?hyd1⟩) hHd (show wpAnyH _ _ _ _ _ _ _ (Act.put _ (some 71) _) _ from ?restd1)
      case hyd1 => (rintro wS ⟨s1, s2, s3⟩; go_simp; try with_reducible rfl)
      try simp only [Act.put, List.setIfInBounds_toArray, List.set_cons_zero, List.set_cons_succ]
      refine wpAnyH_take (i := 2) (v := ?vd2) rfl (by kernel_rfl) (by kernel_rfl) (by kernel_rfl) (fun _ _ _ h => h) (Or.inl ⟨by kernel_rfl, ?hyd2⟩) hHd (show wpAnyH _ _ _ _ _ _ _ (Act.put _ (some 72) _) _ from ?restd2)
      case hyd2 => (rintro wS ⟨s1, s2, s3⟩; go_simp; try with_reducible rfl)
      try simp only [Act.put, List.setIfInBounds_toArray, List.set_cons_zero, List.set_cons_succ]
      refine wpAnyH_take (i := 3) (v := ?vd3) rfl (by kernel_rfl) (by kernel_rfl) (by kernel_rfl) (fun _ _ _ h => h) (Or.inl ⟨by kernel_rfl, ?hyd3⟩) hHd (show wpAnyH _ _ _ _ _ _ _ (Act.put _ (some 73) _) _ from ?restd3)
      case hyd3 => (rintro wS ⟨s1, s2, s3⟩; go_simp; try with_reducible rfl)
      try simp only [Act.put, List.setIfInBounds_toArray, List.set_cons_zero, List.set_cons_succ]
      refine wpAnyH_take (i := 5) (v := ?vd5) rfl (by kernel_rfl) (by kernel_rfl) (by kernel_rfl) (fun _ _ _ h => h) (Or.inl ⟨by kernel_rfl, ?hyd5⟩) hHd (show wpAnyH _ _ _ _ _ _ _ (Act.put _ (some 75) _) _ from ?restd5)
      case hyd5 => (rintro wS ⟨s1, s2, s3⟩; go_simp; try with_reducible rfl)
      try simp only [Act.put, List.setIfInBounds_toArray, List.set_cons_zero, List.set_cons_succ]
      refine wpAnyH_take (i := 6) (v := ?vd6) rfl (by kernel_rfl) (by kernel_rfl) (by kernel_rfl) (fun _ _ _ h => h) (Or.inl ⟨by kernel_rfl, ?hyd6⟩) hHd (show wpAnyH _ _ _ _ _ _ _ (Act.put _ (some 76) _) _ from ?restd6)
      case hyd6 => (rintro wS ⟨s1, s2, s3⟩; go_simp; try with_reducible rfl)
      try simp only [Act.put, List.setIfInBounds_toArray, List.set_cons_zero, List.set_cons_succ]
      refine wpAnyH_take (i := 7) (v := ?vd7) rfl (by kernel_rfl) (by kernel_rfl) (by kernel_rfl) (fun _ _ _ h => h) (Or.inl ⟨by kernel_rfl, ?hyd7⟩) hHd (show wpAnyH _ _ _ _ _ _ _ (Act.put _ (some 77) _) _ from ?restd7)
      case hyd7 => (rintro wS ⟨s1, s2, s3⟩; go_simp; try with_reducible rfl)
      try simp only [Act.put, List.setIfInBounds_toArray, List.set_cons_zero, List.set_cons_succ]
      refine wpAnyH_take (i := 8) (v := ?vd8) rfl (by kernel_rfl) (by kernel_rfl) (by kernel_rfl) (fun _ _ _ h => h) (Or.inl ⟨by kernel_rfl, ?hyd8⟩) hHd (show wpAnyH _ _ _ _ _ _ _ (Act.put _ (some 78) _) _ from ?restd8)
      case hyd8 => (rintro wS ⟨s1, s2, s3⟩; go_simp; try with_reducible rfl)
      try simp only [Act.put, List.setIfInBounds_toArray, List.set_cons_zero, List.set_cons_succ]
      refine wpAnyH_take (i := 9) (v := ?vd9) rfl (by kernel_rfl) (by kernel_rfl) (by kernel_rfl) (fun _ _ _ h => h) (Or.inl ⟨by kernel_rfl, ?hyd9⟩) hHd (show wpAnyH _ _ _ _ _ _ _ (Act.put _ (some 79) _) _ from ?restd9)
      case hyd9 => (rintro wS ⟨s1, s2, s3⟩; go_simp; try with_reducible rfl)
      try simp only [Act.put, List.setIfInBounds_toArray, List.set_cons_zero, List.set_cons_succ]
      refine wpAnyH_take (i := 10) (v := ?vd10) rfl (by kernel_rfl) (by kernel_rfl) (by kernel_rfl) (fun _ _ _ h => h) (Or.inl ⟨by kernel_rfl, ?hyd10⟩) hHd (show wpAnyH _ _ _ _ _ _ _ (Act.put _ (some 80) _) _ from ?restd10)
      case hyd10 => (rintro wS ⟨s1, s2, s3⟩; go_simp; try with_reducible rfl)
      try simp only [Act.put, List.setIfInBounds_toArray, List.set_cons_zero, List.set_cons_succ]
      refine wpAnyH_take (i := 11) (v := ?vd11) rfl (by kernel_rfl) (by kernel_rfl) (by kernel_rfl) (fun _ _ _ h => h) (Or.inl ⟨by kernel_rfl, ?hyd11⟩) hHd (show wpAnyH _ _ _ _ _ _ _ (Act.put _ (some 81) _) _ from ?restd11)
      case hyd11 => (rintro wS ⟨s1, s2, s3⟩; go_simp; try with_reducible rfl)
      try simp only [Act.put, List.setIfInBounds_toArray, List.set_cons_zero, List.set_cons_succ]
      refine wpAnyH_take (i := 12) (v := ?vd12) rfl (by kernel_rfl) (by kernel_rfl) (by kernel_rfl) (fun _ _ _ h => h) (Or.inl ⟨by kernel_rfl, ?hyd12⟩) hHd (show wpAnyH _ _ _ _ _ _ _ (Act.put _ (some 82) _) _ from ?restd12)
      case hyd12 => (rintro wS ⟨s1, s2, s3⟩; go_simp; try with_reducible rfl)
      try simp only [Act.put, List.setIfInBounds_toArray, List.set_cons_zero, List.set_cons_succ]
      refine wpAnyH_ready (rs := [4, 13]) (by kernel_rfl) (by simp) ?_
      refine AllReadyH.cons (o := _) rfl (fun K hK => ?_) (AllReadyH.cons (o := _) rfl (fun K hK => ?_) AllReadyH.nil)
      . rw [if_pos (by kernel_rfl)]
        change Oper.wp _ { dst := some 74, op := Op.load 22 (Operand.tmp 73), type := _, pos := _, after := _, guard := _ } _ _ _ _
        go_simp
        refine hK.out _ _ hHd (fun hHd3 => ?_)
        clear hK K
        try simp only [Act.put, List.setIfInBounds_toArray, List.set_cons_zero, List.set_cons_succ]
        refine wpAnyH_ready (rs := [13]) (by kernel_rfl) (by simp) ?_
        refine AllReadyH.cons (o := _) rfl (fun K hK => ?_) AllReadyH.nil
        rw [if_pos (by kernel_rfl)]
        change Oper.wp _ { dst := some 83, op := Op.buildSlice 22 1 #[(0, Operand.tmp 82)], type := _, pos := _, after := _, guard := _ } _ _ _ _
        go_simp
        refine hK.out _ _ zE (fun hHd4 => ?_)
        clear hK K
        try simp only [Act.put, List.setIfInBounds_toArray, List.set_cons_zero, List.set_cons_succ]
        refine wpAnyH_ready (rs := [14]) (by kernel_rfl) (by simp) ?_
        refine AllReadyH.cons (o := _) rfl (fun K hK => ?_) AllReadyH.nil
        rw [if_pos (by kernel_rfl)]
        change Oper.wp _ { dst := some 84, op := Op.call { callee := Callee.value (Operand.func 59), args := #[Operand.tmp 74, Operand.tmp 75, Operand.tmp 83], argTypes := #[22, 3, 22] }, type := _, pos := _, after := _, guard := _ } _ _ _ _
        go_simp
        refine hins.mono ?_
        rintro _ w5 ⟨nb, cap, sp, rfl, q1, q2, q3, q4⟩
        have hT5 : World.cell? w5 ⟨E, 1, none⟩ = some (.string ⟨⟨tn⟩⟩) /\ World.cell? w5 ⟨E, 2, none⟩ = some (.int .i64 nu) /\ World.cell? w5 ⟨E, 3, none⟩ = some (.int .i64 ep) := ⟨q4.cell zE.1 (by simp), q4.cell zE.2.1 (by simp), q4.cell zE.2.2 (by simp)⟩
        have q5 := ZQ.out.grown q4 (by simp)
        have q6 := q5.free (i := 0)
        have q7 := q5.cell (i := 0) rfl
        have Q5 := Go.Lib.hid q5
        have Q3 := Go.Lib.hid q3
        have Q4 := Go.Lib.hid q4
        clear q3 q4 q5
        refine hK.out _ _ hT5 (fun hHd5 => ?_)
        clear hK K
        try simp only [Act.put, List.setIfInBounds_toArray, List.set_cons_zero, List.set_cons_succ]
        refine wpAnyH_take (i := 15) (v := ?vdl15) rfl (by kernel_rfl) (by kernel_rfl) (by kernel_rfl) (fun _ _ _ h => h) (Or.inl ⟨by kernel_rfl, ?hydl15⟩) hHd5 (show wpAnyH _ _ _ _ _ _ _ (Act.put _ (some 85) _) _ from ?restdl15)
        case hydl15 => (rintro wS ⟨s1, s2, s3⟩; go_simp; try with_reducible rfl)
        try simp only [Act.put, List.setIfInBounds_toArray, List.set_cons_zero, List.set_cons_succ]
        refine wpAnyH_take (i := 16) (v := ?vdl16) rfl (by kernel_rfl) (by kernel_rfl) (by kernel_rfl) (fun _ _ _ h => h) (Or.inl ⟨by kernel_rfl, ?hydl16⟩) hHd5 (show wpAnyH _ _ _ _ _ _ _ (Act.put _ (some 86) _) _ from ?restdl16)
        case hydl16 => (rintro wS ⟨s1, s2, s3⟩; go_simp; try with_reducible rfl)
        try simp only [Act.put, List.setIfInBounds_toArray, List.set_cons_zero, List.set_cons_succ]
        refine wpAnyH_ready (rs := [17]) (by kernel_rfl) (by simp) ?_
        refine AllReadyH.cons (o := _) rfl (fun K hK => ?_) AllReadyH.nil
        rw [if_pos (by kernel_rfl)]
        change Oper.wp _ { dst := none, op := Op.store 22 (Operand.tmp 86) (Operand.tmp 84), type := _, pos := _, after := _, guard := _ } _ _ _ _
        go_simp
        refine hK.out _ _ ⟨z19 hT5.1 ew, z19 hT5.2.1 ew, z19 hT5.2.2 ew⟩ (fun hHd6 => ?_)
        clear hK K
        try simp only [Act.put, List.setIfInBounds_toArray, List.set_cons_zero, List.set_cons_succ]
        refine wpAnyH_done (by kernel_rfl) ?_ _
        go_wp2
        have hgE : w.grownBy w5 none := ZG.out.trans38 Q4.out
        have hnb : w.heap.size <= nb := Nat.le_trans ZG.out.size q2
        refine H2.out _ (by omega) (zci hgE _ _) ⟨nb, cap, sp, q1, hnb, Q5.out.set 0 _, ?_⟩
        have h := (Q3.out).set_other (k := q) (by have := HQ.out.lt; omega) 0 (.slice (some ⟨nb, 0, none⟩) (n + 1) cap)
        rw [HAT.out, z2w, z2w, z7e, z7f]
        exact h
      . rw [if_pos (by kernel_rfl)]
        change Oper.wp _ { dst := some 83, op := Op.buildSlice 22 1 #[(0, Operand.tmp 82)], type := _, pos := _, after := _, guard := _ } _ _ _ _
        go_simp
        refine hK.out _ _ zE (fun hHd3 => ?_)
        clear hK K
        try simp only [Act.put, List.setIfInBounds_toArray, List.set_cons_zero, List.set_cons_succ]
        refine wpAnyH_ready (rs := [4]) (by kernel_rfl) (by simp) ?_
        refine AllReadyH.cons (o := _) rfl (fun K hK => ?_) AllReadyH.nil
        rw [if_pos (by kernel_rfl)]
        change Oper.wp _ { dst := some 74, op := Op.load 22 (Operand.tmp 73), type := _, pos := _, after := _, guard := _ } _ _ _ _
        go_simp
        refine hK.out _ _ hHd3 (fun hHd4 => ?_)
        clear hK K
        try simp only [Act.put, List.setIfInBounds_toArray, List.set_cons_zero, List.set_cons_succ]
        refine wpAnyH_ready (rs := [14]) (by kernel_rfl) (by simp) ?_
        refine AllReadyH.cons (o := _) rfl (fun K hK => ?_) AllReadyH.nil
        rw [if_pos (by kernel_rfl)]
        change Oper.wp _ { dst := some 84, op := Op.call { callee := Callee.value (Operand.func 59), args := #[Operand.tmp 74, Operand.tmp 75, Operand.tmp 83], argTypes := #[22, 3, 22] }, type := _, pos := _, after := _, guard := _ } _ _ _ _
        go_simp
        refine hins.mono ?_
        rintro _ w5 ⟨nb, cap, sp, rfl, q1, q2, q3, q4⟩
        have hT5 : World.cell? w5 ⟨E, 1, none⟩ = some (.string ⟨⟨tn⟩⟩) /\ World.cell? w5 ⟨E, 2, none⟩ = some (.int .i64 nu) /\ World.cell? w5 ⟨E, 3, none⟩ = some (.int .i64 ep) := ⟨q4.cell zE.1 (by simp), q4.cell zE.2.1 (by simp), q4.cell zE.2.2 (by simp)⟩
        have q5 := ZQ.out.grown q4 (by simp)
        have q6 := q5.free (i := 0)
        have q7 := q5.cell (i := 0) rfl
        have Q5 := Go.Lib.hid q5
        have Q3 := Go.Lib.hid q3
        have Q4 := Go.Lib.hid q4
        clear q3 q4 q5
        refine hK.out _ _ hT5 (fun hHd5 => ?_)
        clear hK K
        try simp only [Act.put, List.setIfInBounds_toArray, List.set_cons_zero, List.set_cons_succ]
        refine wpAnyH_take (i := 15) (v := ?vdm15) rfl (by kernel_rfl) (by kernel_rfl) (by kernel_rfl) (fun _ _ _ h => h) (Or.inl ⟨by kernel_rfl, ?hydm15⟩) hHd5 (show wpAnyH _ _ _ _ _ _ _ (Act.put _ (some 85) _) _ from ?restdm15)
        case hydm15 => (rintro wS ⟨s1, s2, s3⟩; go_simp; try with_reducible rfl)
        try simp only [Act.put, List.setIfInBounds_toArray, List.set_cons_zero, List.set_cons_succ]
        refine wpAnyH_take (i := 16) (v := ?vdm16) rfl (by kernel_rfl) (by kernel_rfl) (by kernel_rfl) (fun _ _ _ h => h) (Or.inl ⟨by kernel_rfl, ?hydm16⟩) hHd5 (show wpAnyH _ _ _ _ _ _ _ (Act.put _ (some 86) _) _ from ?restdm16)
        case hydm16 => (rintro wS ⟨s1, s2, s3⟩; go_simp; try with_reducible rfl)
        try simp only [Act.put, List.setIfInBounds_toArray, List.set_cons_zero, List.set_cons_succ]
        refine wpAnyH_ready (rs := [17]) (by kernel_rfl) (by simp) ?_
        refine AllReadyH.cons (o := _) rfl (fun K hK => ?_) AllReadyH.nil
        rw [if_pos (by kernel_rfl)]
        change Oper.wp _ { dst := none, op := Op.store 22 (Operand.tmp 86) (Operand.tmp 84), type := _, pos := _, after := _, guard := _ } _ _ _ _
        go_simp
        refine hK.out _ _ ⟨z19 hT5.1 ew, z19 hT5.2.1 ew, z19 hT5.2.2 ew⟩ (fun hHd6 => ?_)
        clear hK K
        try simp only [Act.put, List.setIfInBounds_toArray, List.set_cons_zero, List.set_cons_succ]
        refine wpAnyH_done (by kernel_rfl) ?_ _
        go_wp2
        have hgE : w.grownBy w5 none := ZG.out.trans38 Q4.out
        have hnb : w.heap.size <= nb := Nat.le_trans ZG.out.size q2
        refine H2.out _ (by omega) (zci hgE _ _) ⟨nb, cap, sp, q1, hnb, Q5.out.set 0 _, ?_⟩
        have h := (Q3.out).set_other (k := q) (by have := HQ.out.lt; omega) 0 (.slice (some ⟨nb, 0, none⟩) (n + 1) cap)
        rw [HAT.out, z2w, z2w, z7e, z7f]
        exact h
  . have hje : j = n := by omega
    have hat2 : z64 (l.map (·.1)) tn = j := Nat.le_antisymm (Nat.le_trans (zu9 _ _) (by rw [hml]; omega)) HJA.out
    have HAT := Go.Lib.hid hat2
    clear hat2
    subst hje
    go_wp2
    refine wp_region_held_drew (S := fun w' => World.cell? w' ⟨q, 0, none⟩ = some (.slice (some ⟨b, 0, none⟩) j j)) (by kernel_rfl) (v0) (fun hHd => ?_)
    refine wpAnyH_take (i := 0) (v := ?vc0) rfl (by kernel_rfl) (by kernel_rfl) (by kernel_rfl) (fun _ _ _ h => h) (Or.inl ⟨by kernel_rfl, ?hyc0⟩) hHd (show wpAnyH _ _ _ _ _ _ _ (Act.put _ (some 48) _) _ from ?restc0)
    case hyc0 => (rintro wS s1; go_simp; try with_reducible rfl)
    try simp only [Act.put, List.setIfInBounds_toArray, List.set_cons_zero, List.set_cons_succ]
    refine wpAnyH_take (i := 1) (v := ?vc1) rfl (by kernel_rfl) (by kernel_rfl) (by kernel_rfl) (fun _ _ _ h => h) (Or.inl ⟨by kernel_rfl, ?hyc1⟩) hHd (show wpAnyH _ _ _ _ _ _ _ (Act.put _ (some 49) _) _ from ?restc1)
    case hyc1 => (rintro wS s1; go_simp; try with_reducible rfl)
    try simp only [Act.put, List.setIfInBounds_toArray, List.set_cons_zero, List.set_cons_succ]
    refine wpAnyH_take (i := 2) (v := ?vc2) rfl (by kernel_rfl) (by kernel_rfl) (by kernel_rfl) (fun _ _ _ h => h) (Or.inl ⟨by kernel_rfl, ?hyc2⟩) hHd (show wpAnyH _ _ _ _ _ _ _ (Act.put _ (some 50) _) _ from ?restc2)
    case hyc2 => (rintro wS s1; go_simp; try with_reducible rfl)
    try simp only [Act.put, List.setIfInBounds_toArray, List.set_cons_zero, List.set_cons_succ]
    refine wpAnyH_take (i := 3) (v := ?vc3) rfl (by kernel_rfl) (by kernel_rfl) (by kernel_rfl) (fun _ _ _ h => h) (Or.inl ⟨by kernel_rfl, ?hyc3⟩) hHd (show wpAnyH _ _ _ _ _ _ _ (Act.put _ (some 51) _) _ from ?restc3)
    case hyc3 => (rintro wS s1; go_simp; try with_reducible rfl)
    try simp only [Act.put, List.setIfInBounds_toArray, List.set_cons_zero, List.set_cons_succ]
    refine wpAnyH_take (i := 4) (v := ?vc4) rfl (by kernel_rfl) (by kernel_rfl) (by kernel_rfl) (fun _ _ _ h => h) (Or.inl ⟨by kernel_rfl, ?hyc4⟩) hHd (show wpAnyH _ _ _ _ _ _ _ (Act.put _ (some 52) _) _ from ?restc4)
    case hyc4 => (rintro wS s1; go_simp; try with_reducible rfl)
    try simp only [Act.put, List.setIfInBounds_toArray, List.set_cons_zero, List.set_cons_succ]
    refine wpAnyH_take (i := 5) (v := ?vc5) rfl (by kernel_rfl) (by kernel_rfl) (by kernel_rfl) (fun _ _ _ h => h) (Or.inl ⟨by kernel_rfl, ?hyc5⟩) hHd (show wpAnyH _ _ _ _ _ _ _ (Act.put _ (some 53) _) _ from ?restc5)
    case hyc5 => (rintro wS s1; go_simp; try with_reducible rfl)
    try simp only [Act.put, List.setIfInBounds_toArray, List.set_cons_zero, List.set_cons_succ]
    refine wpAnyH_take (i := 6) (v := ?vc6) rfl (by kernel_rfl) (by kernel_rfl) (by kernel_rfl) (fun _ _ _ h => h) (Or.inl ⟨by kernel_rfl, ?hyc6⟩) hHd (show wpAnyH _ _ _ _ _ _ _ (Act.put _ (some 54) _) _ from ?restc6)
    case hyc6 => (rintro wS s1; go_simp; try with_reducible rfl)
    try simp only [Act.put, List.setIfInBounds_toArray, List.set_cons_zero, List.set_cons_succ]
    refine wpAnyH_take (i := 7) (v := ?vc7) rfl (by kernel_rfl) (by kernel_rfl) (by kernel_rfl) (fun _ _ _ h => h) (Or.inl ⟨by kernel_rfl, ?hyc7⟩) hHd (show wpAnyH _ _ _ _ _ _ _ (Act.put _ (some 55) _) _ from ?restc7)
    case hyc7 => (rintro wS s1; go_simp; try with_reducible rfl)
    try simp only [Act.put, List.setIfInBounds_toArray, List.set_cons_zero, List.set_cons_succ]
    refine wpAnyH_take (i := 8) (v := undef) rfl (by kernel_rfl) (by kernel_rfl) (by kernel_rfl) (fun _ _ _ h => h) (Or.inr ⟨by kernel_rfl, rfl⟩) hHd (show wpAnyH _ _ _ _ _ _ _ (Act.put _ (some 56) undef) _ from ?_)
    try simp only [Act.put, List.setIfInBounds_toArray, List.set_cons_zero, List.set_cons_succ]
    refine wpAnyH_take (i := 9) (v := undef) rfl (by kernel_rfl) (by kernel_rfl) (by kernel_rfl) (fun _ _ _ h => h) (Or.inr ⟨by kernel_rfl, rfl⟩) hHd (show wpAnyH _ _ _ _ _ _ _ (Act.put _ (some 57) undef) _ from ?_)
    try simp only [Act.put, List.setIfInBounds_toArray, List.set_cons_zero, List.set_cons_succ]
    refine wpAnyH_take (i := 10) (v := undef) rfl (by kernel_rfl) (by kernel_rfl) (by kernel_rfl) (fun _ _ _ h => h) (Or.inr ⟨by kernel_rfl, rfl⟩) hHd (show wpAnyH _ _ _ _ _ _ _ (Act.put _ (some 58) undef) _ from ?_)
    try simp only [Act.put, List.setIfInBounds_toArray, List.set_cons_zero, List.set_cons_succ]
    refine wpAnyH_take (i := 11) (v := undef) rfl (by kernel_rfl) (by kernel_rfl) (by kernel_rfl) (fun _ _ _ h => h) (Or.inr ⟨by kernel_rfl, rfl⟩) hHd (show wpAnyH _ _ _ _ _ _ _ (Act.put _ (some 59) undef) _ from ?_)
    try simp only [Act.put, List.setIfInBounds_toArray, List.set_cons_zero, List.set_cons_succ]
    refine wpAnyH_take (i := 12) (v := undef) rfl (by kernel_rfl) (by kernel_rfl) (by kernel_rfl) (fun _ _ _ h => h) (Or.inr ⟨by kernel_rfl, rfl⟩) hHd (show wpAnyH _ _ _ _ _ _ _ (Act.put _ (some 60) undef) _ from ?_)
    try simp only [Act.put, List.setIfInBounds_toArray, List.set_cons_zero, List.set_cons_succ]
    refine wpAnyH_take (i := 13) (v := undef) rfl (by kernel_rfl) (by kernel_rfl) (by kernel_rfl) (fun _ _ _ h => h) (Or.inr ⟨by kernel_rfl, rfl⟩) hHd (show wpAnyH _ _ _ _ _ _ _ (Act.put _ (some 61) undef) _ from ?_)
    try simp only [Act.put, List.setIfInBounds_toArray, List.set_cons_zero, List.set_cons_succ]
    refine wpAnyH_take (i := 14) (v := undef) rfl (by kernel_rfl) (by kernel_rfl) (by kernel_rfl) (fun _ _ _ h => h) (Or.inr ⟨by kernel_rfl, rfl⟩) hHd (show wpAnyH _ _ _ _ _ _ _ (Act.put _ (some 62) undef) _ from ?_)
    try simp only [Act.put, List.setIfInBounds_toArray, List.set_cons_zero, List.set_cons_succ]
    refine wpAnyH_take (i := 15) (v := undef) rfl (by kernel_rfl) (by kernel_rfl) (by kernel_rfl) (fun _ _ _ h => h) (Or.inr ⟨by kernel_rfl, rfl⟩) hHd (show wpAnyH _ _ _ _ _ _ _ (Act.put _ (some 63) undef) _ from ?_)
    try simp only [Act.put, List.setIfInBounds_toArray, List.set_cons_zero, List.set_cons_succ]
    refine wpAnyH_take (i := 16) (v := undef) rfl (by kernel_rfl) (by kernel_rfl) (by kernel_rfl) (fun _ _ _ h => h) (Or.inr ⟨by kernel_rfl, rfl⟩) hHd (show wpAnyH _ _ _ _ _ _ _ (Act.put _ (some 64) undef) _ from ?_)
    try simp only [Act.put, List.setIfInBounds_toArray, List.set_cons_zero, List.set_cons_succ]
    refine wpAnyH_take (i := 17) (v := undef) rfl (by kernel_rfl) (by kernel_rfl) (by kernel_rfl) (fun _ _ _ h => h) (Or.inr ⟨by kernel_rfl, rfl⟩) hHd (show wpAnyH _ _ _ _ _ _ _ (Act.put _ (some 65) undef) _ from ?_)
    try simp only [Act.put, List.setIfInBounds_toArray, List.set_cons_zero, List.set_cons_succ]
    refine wpAnyH_take (i := 18) (v := undef) rfl (by kernel_rfl) (by kernel_rfl) (by kernel_rfl) (fun _ _ _ h => h) (Or.inr ⟨by kernel_rfl, rfl⟩) hHd (show wpAnyH _ _ _ _ _ _ _ (Act.put _ (some 66) undef) _ from ?_)
    try simp only [Act.put, List.setIfInBounds_toArray, List.set_cons_zero, List.set_cons_succ]
    refine wpAnyH_take (i := 19) (v := ?vc19) rfl (by kernel_rfl) (by kernel_rfl) (by kernel_rfl) (fun _ _ _ h => h) (Or.inl ⟨by kernel_rfl, ?hyc19⟩) hHd (show wpAnyH _ _ _ _ _ _ _ (Act.put _ (some 67) _) _ from ?restc19)
    case hyc19 => (rintro wS s1; go_simp; try with_reducible rfl)
    try simp only [Act.put, List.setIfInBounds_toArray, List.set_cons_zero, List.set_cons_succ]
    refine wpAnyH_done (by kernel_rfl) ?_ _
    go_wp2
    have hgY : w.grownBy wr.drew none := za (HXG.out.trans38 HGR.out)
    have hbY : RowAt wr.drew b (z9 l) 41 := HB.out.grown hgY (by simp)
    have hqY : RowAt wr.drew q [.slice (some ⟨b, 0, none⟩) j j, .int .i64 ser] 24 := HQ.out.grown hgY (by simp)
    have hEY := (HXR.out.grown HGR.out (by simp)).drew
    obtain ⟨Y, hY⟩ : ∃ Y, Y = wr.drew := ⟨_, rfl⟩
    rw [<- hY] at hgY hbY hqY hEY ⊢
    clear hY hHd v0 v1
    have y1 := hEY.cell (i := 1) rfl
    have y2 := hEY.cell (i := 2) rfl
    have y3 := hEY.cell (i := 3) rfl
    have y0 := hqY.cell (i := 0) rfl
    have y0d : Y.drew.cell? ⟨q, 0, none⟩ = some (.slice (some ⟨b, 0, none⟩) j j) := y0
    have zq := hqY.drew.alloc (Obj.cells #[.string ⟨⟨tn⟩⟩, .int .i64 ep, .int .i64 nu, .slice none 0 0] 41)
    have zb := hbY.drew.alloc (Obj.cells #[.string ⟨⟨tn⟩⟩, .int .i64 ep, .int .i64 nu, .slice none 0 0] 41)
    have zn := RowAt.new Y.drew [.string ⟨⟨tn⟩⟩, .int .i64 ep, .int .i64 nu, .slice none 0 0] 41
    have zg : w.grownBy (Y.drew.alloc (Obj.cells #[.string ⟨⟨tn⟩⟩, .int .i64 ep, .int .i64 nu, .slice none 0 0] 41)) none := (za hgY).trans38 (World.grownBy_alloc _ _ none)
    have zE : World.cell? (Y.drew.alloc (Obj.cells #[.string ⟨⟨tn⟩⟩, .int .i64 ep, .int .i64 nu, .slice none 0 0] 41)) ⟨E, 1, none⟩ = some (.string ⟨⟨tn⟩⟩) /\ World.cell? (Y.drew.alloc (Obj.cells #[.string ⟨⟨tn⟩⟩, .int .i64 ep, .int .i64 nu, .slice none 0 0] 41)) ⟨E, 2, none⟩ = some (.int .i64 nu) /\ World.cell? (Y.drew.alloc (Obj.cells #[.string ⟨⟨tn⟩⟩, .int .i64 ep, .int .i64 nu, .slice none 0 0] 41)) ⟨E, 3, none⟩ = some (.int .i64 ep) := ⟨z10 y1, z10 y2, z10 y3⟩
    have z0 := zq.cell (i := 0) rfl
    have z0' : (Y.alloc (Obj.cells #[.string ⟨⟨tn⟩⟩, .int .i64 ep, .int .i64 nu, .slice none 0 0] 41)).cell? ⟨q, 0, none⟩ = some (.slice (some ⟨b, 0, none⟩) j j) := z0
    have hins := zfc (i := j) (c := 1) zb (by rw [zch, hln]) (zqe hone) zn rfl (by intro v hv; simp at hv; rcases hv with rfl | rfl | rfl | rfl <;> rfl) hj hn
    have ZQ := Go.Lib.hid zq
    have ZG := Go.Lib.hid zg
    simp only [List.toArray] at hins
    clear zq zb zn zg hbY hqY hEY hgY
    refine wp_region_held_drew (S := fun w' => World.cell? w' ⟨E, 1, none⟩ = some (.string ⟨⟨tn⟩⟩) /\ World.cell? w' ⟨E, 2, none⟩ = some (.int .i64 nu) /\ World.cell? w' ⟨E, 3, none⟩ = some (.int .i64 ep)) (by kernel_rfl) (⟨y1, y2, y3⟩) (fun hHd => ?_)
    refine wpAnyH_take (i := 0) (v := ?ve0) rfl (by kernel_rfl) (by kernel_rfl) (by kernel_rfl) (fun _ _ _ h => h) (Or.inl ⟨by kernel_rfl, ?hye0⟩) hHd (show wpAnyH _ _ _ _ _ _ _ (Act.put _ (some 70) _) _ from ?reste0)
    case hye0 => (rintro wS ⟨s1, s2, s3⟩; go_simp; try with_reducible rfl)
    try simp only [Act.put, List.setIfInBounds_toArray, List.set_cons_zero, List.set_cons_succ]
    refine wpAnyH_take (i := 1) (v := ?ve1) rfl (by kernel_rfl) (by kernel_rfl) (by kernel_rfl) (fun _ _ _ h => h) (Or.inl ⟨by kernel_rfl, ?hye1⟩) hHd (show wpAnyH _ _ _ _ _ _ _ (Act.put _ (some 71) _) _ from ?reste1)
    case hye1 => (rintro wS ⟨s1, s2, s3⟩; go_simp; try with_reducible rfl)
    try simp only [Act.put, List.setIfInBounds_toArray, List.set_cons_zero, List.set_cons_succ]
    refine wpAnyH_take (i := 2) (v := ?ve2) rfl (by kernel_rfl) (by kernel_rfl) (by kernel_rfl) (fun _ _ _ h => h) (Or.inl ⟨by kernel_rfl, ?hye2⟩) hHd (show wpAnyH _ _ _ _ _ _ _ (Act.put _ (some 72) _) _ from ?reste2)
    case hye2 => (rintro wS ⟨s1, s2, s3⟩; go_simp; try with_reducible rfl)
    try simp only [Act.put, List.setIfInBounds_toArray, List.set_cons_zero, List.set_cons_succ]
    refine wpAnyH_take (i := 3) (v := ?ve3) rfl (by kernel_rfl) (by kernel_rfl) (by kernel_rfl) (fun _ _ _ h => h) (Or.inl ⟨by kernel_rfl, ?hye3⟩) hHd (show wpAnyH _ _ _ _ _ _ _ (Act.put _ (some 73) _) _ from ?reste3)
    case hye3 => (rintro wS ⟨s1, s2, s3⟩; go_simp; try with_reducible rfl)
    try simp only [Act.put, List.setIfInBounds_toArray, List.set_cons_zero, List.set_cons_succ]
    refine wpAnyH_take (i := 5) (v := ?ve5) rfl (by kernel_rfl) (by kernel_rfl) (by kernel_rfl) (fun _ _ _ h => h) (Or.inl ⟨by kernel_rfl, ?hye5⟩) hHd (show wpAnyH _ _ _ _ _ _ _ (Act.put _ (some 75) _) _ from ?reste5)
    case hye5 => (rintro wS ⟨s1, s2, s3⟩; go_simp; try with_reducible rfl)
    try simp only [Act.put, List.setIfInBounds_toArray, List.set_cons_zero, List.set_cons_succ]
    refine wpAnyH_take (i := 6) (v := ?ve6) rfl (by kernel_rfl) (by kernel_rfl) (by kernel_rfl) (fun _ _ _ h => h) (Or.inl ⟨by kernel_rfl, ?hye6⟩) hHd (show wpAnyH _ _ _ _ _ _ _ (Act.put _ (some 76) _) _ from ?reste6)
    case hye6 => (rintro wS ⟨s1, s2, s3⟩; go_simp; try with_reducible rfl)
    try simp only [Act.put, List.setIfInBounds_toArray, List.set_cons_zero, List.set_cons_succ]
    refine wpAnyH_take (i := 7) (v := ?ve7) rfl (by kernel_rfl) (by kernel_rfl) (by kernel_rfl) (fun _ _ _ h => h) (Or.inl ⟨by kernel_rfl, ?hye7⟩) hHd (show wpAnyH _ _ _ _ _ _ _ (Act.put _ (some 77) _) _ from ?reste7)
    case hye7 => (rintro wS ⟨s1, s2, s3⟩; go_simp; try with_reducible rfl)
    try simp only [Act.put, List.setIfInBounds_toArray, List.set_cons_zero, List.set_cons_succ]
    refine wpAnyH_take (i := 8) (v := ?ve8) rfl (by kernel_rfl) (by kernel_rfl) (by kernel_rfl) (fun _ _ _ h => h) (Or.inl ⟨by kernel_rfl, ?hye8⟩) hHd (show wpAnyH _ _ _ _ _ _ _ (Act.put _ (some 78) _) _ from ?reste8)
    case hye8 => (rintro wS ⟨s1, s2, s3⟩; go_simp; try with_reducible rfl)
    try simp only [Act.put, List.setIfInBounds_toArray, List.set_cons_zero, List.set_cons_succ]
    refine wpAnyH_take (i := 9) (v := ?ve9) rfl (by kernel_rfl) (by kernel_rfl) (by kernel_rfl) (fun _ _ _ h => h) (Or.inl ⟨by kernel_rfl, ?hye9⟩) hHd (show wpAnyH _ _ _ _ _ _ _ (Act.put _ (some 79) _) _ from ?reste9)
    case hye9 => (rintro wS ⟨s1, s2, s3⟩; go_simp; try with_reducible rfl)
    try simp only [Act.put, List.setIfInBounds_toArray, List.set_cons_zero, List.set_cons_succ]
    refine wpAnyH_take (i := 10) (v := ?ve10) rfl (by kernel_rfl) (by kernel_rfl) (by kernel_rfl) (fun _ _ _ h => h) (Or.inl ⟨by kernel_rfl, ?hye10⟩) hHd (show wpAnyH _ _ _ _ _ _ _ (Act.put _ (some 80) _) _ from ?reste10)
    case hye10 => (rintro wS ⟨s1, s2, s3⟩; go_simp; try with_reducible rfl)
    try simp only [Act.put, List.setIfInBounds_toArray, List.set_cons_zero, List.set_cons_succ]
    refine wpAnyH_take (i := 11) (v := ?ve11) rfl (by kernel_rfl) (by kernel_rfl) (by kernel_rfl) (fun _ _ _ h => h) (Or.inl ⟨by kernel_rfl, ?hye11⟩) hHd (show wpAnyH _ _ _ _ _ _ _ (Act.put _ (some 81) _) _ from ?reste11)
    case hye11 => (rintro wS ⟨s1, s2, s3⟩; go_simp; try with_reducible rfl)
    try simp only [Act.put, List.setIfInBounds_toArray, List.set_cons_zero, List.set_cons_succ]
    refine wpAnyH_take (i := 12) (v := ?ve12) rfl (by kernel_rfl) (by kernel_rfl) (by kernel_rfl) (fun _ _ _ h => h) (Or.inl ⟨by kernel_rfl, ?hye12⟩) hHd (show wpAnyH _ _ _ _ _ _ _ (Act.put _ (some 82) _) _ from ?reste12)
    case hye12 => (rintro wS ⟨s1, s2, s3⟩; go_simp; try with_reducible rfl)
    try simp only [Act.put, List.setIfInBounds_toArray, List.set_cons_zero, List.set_cons_succ]
    refine wpAnyH_ready (rs := [4, 13]) (by kernel_rfl) (by simp) ?_
    refine AllReadyH.cons (o := _) rfl (fun K hK => ?_) (AllReadyH.cons (o := _) rfl (fun K hK => ?_) AllReadyH.nil)
    . rw [if_pos (by kernel_rfl)]
      change Oper.wp _ { dst := some 74, op := Op.load 22 (Operand.tmp 73), type := _, pos := _, after := _, guard := _ } _ _ _ _
      go_simp
      refine hK.out _ _ hHd (fun hHd3 => ?_)
      clear hK K
      try simp only [Act.put, List.setIfInBounds_toArray, List.set_cons_zero, List.set_cons_succ]
      refine wpAnyH_ready (rs := [13]) (by kernel_rfl) (by simp) ?_
      refine AllReadyH.cons (o := _) rfl (fun K hK => ?_) AllReadyH.nil
      rw [if_pos (by kernel_rfl)]
      change Oper.wp _ { dst := some 83, op := Op.buildSlice 22 1 #[(0, Operand.tmp 82)], type := _, pos := _, after := _, guard := _ } _ _ _ _
      go_simp
      refine hK.out _ _ zE (fun hHd4 => ?_)
      clear hK K
      try simp only [Act.put, List.setIfInBounds_toArray, List.set_cons_zero, List.set_cons_succ]
      refine wpAnyH_ready (rs := [14]) (by kernel_rfl) (by simp) ?_
      refine AllReadyH.cons (o := _) rfl (fun K hK => ?_) AllReadyH.nil
      rw [if_pos (by kernel_rfl)]
      change Oper.wp _ { dst := some 84, op := Op.call { callee := Callee.value (Operand.func 59), args := #[Operand.tmp 74, Operand.tmp 75, Operand.tmp 83], argTypes := #[22, 3, 22] }, type := _, pos := _, after := _, guard := _ } _ _ _ _
      go_simp
      refine hins.mono ?_
      rintro _ w5 ⟨nb, cap, sp, rfl, q1, q2, q3, q4⟩
      have hT5 : World.cell? w5 ⟨E, 1, none⟩ = some (.string ⟨⟨tn⟩⟩) /\ World.cell? w5 ⟨E, 2, none⟩ = some (.int .i64 nu) /\ World.cell? w5 ⟨E, 3, none⟩ = some (.int .i64 ep) := ⟨q4.cell zE.1 (by simp), q4.cell zE.2.1 (by simp), q4.cell zE.2.2 (by simp)⟩
      have q5 := ZQ.out.grown q4 (by simp)
      have q6 := q5.free (i := 0)
      have q7 := q5.cell (i := 0) rfl
      have Q5 := Go.Lib.hid q5
      have Q3 := Go.Lib.hid q3
      have Q4 := Go.Lib.hid q4
      clear q3 q4 q5
      refine hK.out _ _ hT5 (fun hHd5 => ?_)
      clear hK K
      try simp only [Act.put, List.setIfInBounds_toArray, List.set_cons_zero, List.set_cons_succ]
      refine wpAnyH_take (i := 15) (v := ?vel15) rfl (by kernel_rfl) (by kernel_rfl) (by kernel_rfl) (fun _ _ _ h => h) (Or.inl ⟨by kernel_rfl, ?hyel15⟩) hHd5 (show wpAnyH _ _ _ _ _ _ _ (Act.put _ (some 85) _) _ from ?restel15)
      case hyel15 => (rintro wS ⟨s1, s2, s3⟩; go_simp; try with_reducible rfl)
      try simp only [Act.put, List.setIfInBounds_toArray, List.set_cons_zero, List.set_cons_succ]
      refine wpAnyH_take (i := 16) (v := ?vel16) rfl (by kernel_rfl) (by kernel_rfl) (by kernel_rfl) (fun _ _ _ h => h) (Or.inl ⟨by kernel_rfl, ?hyel16⟩) hHd5 (show wpAnyH _ _ _ _ _ _ _ (Act.put _ (some 86) _) _ from ?restel16)
      case hyel16 => (rintro wS ⟨s1, s2, s3⟩; go_simp; try with_reducible rfl)
      try simp only [Act.put, List.setIfInBounds_toArray, List.set_cons_zero, List.set_cons_succ]
      refine wpAnyH_ready (rs := [17]) (by kernel_rfl) (by simp) ?_
      refine AllReadyH.cons (o := _) rfl (fun K hK => ?_) AllReadyH.nil
      rw [if_pos (by kernel_rfl)]
      change Oper.wp _ { dst := none, op := Op.store 22 (Operand.tmp 86) (Operand.tmp 84), type := _, pos := _, after := _, guard := _ } _ _ _ _
      go_simp
      refine hK.out _ _ ⟨z19 hT5.1 ew, z19 hT5.2.1 ew, z19 hT5.2.2 ew⟩ (fun hHd6 => ?_)
      clear hK K
      try simp only [Act.put, List.setIfInBounds_toArray, List.set_cons_zero, List.set_cons_succ]
      refine wpAnyH_done (by kernel_rfl) ?_ _
      go_wp2
      have hgE : w.grownBy w5 none := ZG.out.trans38 Q4.out
      have hnb : w.heap.size <= nb := Nat.le_trans ZG.out.size q2
      refine H2.out _ (by omega) (zci hgE _ _) ⟨nb, cap, sp, q1, hnb, Q5.out.set 0 _, ?_⟩
      have h := (Q3.out).set_other (k := q) (by have := HQ.out.lt; omega) 0 (.slice (some ⟨nb, 0, none⟩) (j + 1) cap)
      rw [HAT.out, z2w, z2w, z7e, z7f]
      exact h
    . rw [if_pos (by kernel_rfl)]
      change Oper.wp _ { dst := some 83, op := Op.buildSlice 22 1 #[(0, Operand.tmp 82)], type := _, pos := _, after := _, guard := _ } _ _ _ _
      go_simp
      refine hK.out _ _ zE (fun hHd3 => ?_)
      clear hK K
      try simp only [Act.put, List.setIfInBounds_toArray, List.set_cons_zero, List.set_cons_succ]
      refine wpAnyH_ready (rs := [4]) (by kernel_rfl) (by simp) ?_
      refine AllReadyH.cons (o := _) rfl (fun K hK => ?_) AllReadyH.nil
      rw [if_pos (by kernel_rfl)]
      change Oper.wp _ { dst := some 74, op := Op.load 22 (Operand.tmp 73), type := _, pos := _, after := _, guard := _ } _ _ _ _
      go_simp
      refine hK.out _ _ hHd3 (fun hHd4 => ?_)
      clear hK K
      try simp only [Act.put, List.setIfInBounds_toArray, List.set_cons_zero, List.set_cons_succ]
      refine wpAnyH_ready (rs := [14]) (by kernel_rfl) (by simp) ?_
      refine AllReadyH.cons (o := _) rfl (fun K hK => ?_) AllReadyH.nil
      rw [if_pos (by kernel_rfl)]
      change Oper.wp _ { dst := some 84, op := Op.call { callee := Callee.value (Operand.func 59), args := #[Operand.tmp 74, Operand.tmp 75, Operand.tmp 83], argTypes := #[22, 3, 22] }, type := _, pos := _, after := _, guard := _ } _ _ _ _
      go_simp
      refine hins.mono ?_
      rintro _ w5 ⟨nb, cap, sp, rfl, q1, q2, q3, q4⟩
      have hT5 : World.cell? w5 ⟨E, 1, none⟩ = some (.string ⟨⟨tn⟩⟩) /\ World.cell? w5 ⟨E, 2, none⟩ = some (.int .i64 nu) /\ World.cell? w5 ⟨E, 3, none⟩ = some (.int .i64 ep) := ⟨q4.cell zE.1 (by simp), q4.cell zE.2.1 (by simp), q4.cell zE.2.2 (by simp)⟩
      have q5 := ZQ.out.grown q4 (by simp)
      have q6 := q5.free (i := 0)
      have q7 := q5.cell (i := 0) rfl
      have Q5 := Go.Lib.hid q5
      have Q3 := Go.Lib.hid q3
      have Q4 := Go.Lib.hid q4
      clear q3 q4 q5
      refine hK.out _ _ hT5 (fun hHd5 => ?_)
      clear hK K
      try simp only [Act.put, List.setIfInBounds_toArray, List.set_cons_zero, List.set_cons_succ]
      refine wpAnyH_take (i := 15) (v := ?vem15) rfl (by kernel_rfl) (by kernel_rfl) (by kernel_rfl) (fun _ _ _ h => h) (Or.inl ⟨by kernel_rfl, ?hyem15⟩) hHd5 (show wpAnyH _ _ _ _ _ _ _ (Act.put _ (some 85) _) _ from ?restem15)
      case hyem15 => (rintro wS ⟨s1, s2, s3⟩; go_simp; try with_reducible rfl)
      try simp only [Act.put, List.setIfInBounds_toArray, List.set_cons_zero, List.set_cons_succ]
      refine wpAnyH_take (i := 16) (v := ?vem16) rfl (by kernel_rfl) (by kernel_rfl) (by kernel_rfl) (fun _ _ _ h => h) (Or.inl ⟨by kernel_rfl, ?hyem16⟩) hHd5 (show wpAnyH _ _ _ _ _ _ _ (Act.put _ (some 86) _) _ from ?restem16)
      case hyem16 => (rintro wS ⟨s1, s2, s3⟩; go_simp; try with_reducible rfl)
      try simp only [Act.put, List.setIfInBounds_toArray, List.set_cons_zero, List.set_cons_succ]
      refine wpAnyH_ready (rs := [17]) (by kernel_rfl) (by simp) ?_
      refine AllReadyH.cons (o := _) rfl (fun K hK => ?_) AllReadyH.nil
      rw [if_pos (by kernel_rfl)]
      change Oper.wp _ { dst := none, op := Op.store 22 (Operand.tmp 86) (Operand.tmp 84), type := _, pos := _, after := _, guard := _ } _ _ _ _
      go_simp
      refine hK.out _ _ ⟨z19 hT5.1 ew, z19 hT5.2.1 ew, z19 hT5.2.2 ew⟩ (fun hHd6 => ?_)
      clear hK K
      try simp only [Act.put, List.setIfInBounds_toArray, List.set_cons_zero, List.set_cons_succ]
      refine wpAnyH_done (by kernel_rfl) ?_ _
      go_wp2
      have hgE : w.grownBy w5 none := ZG.out.trans38 Q4.out
      have hnb : w.heap.size <= nb := Nat.le_trans ZG.out.size q2
      refine H2.out _ (by omega) (zci hgE _ _) ⟨nb, cap, sp, q1, hnb, Q5.out.set 0 _, ?_⟩
      have h := (Q3.out).set_other (k := q) (by have := HQ.out.lt; omega) 0 (.slice (some ⟨nb, 0, none⟩) (j + 1) cap)
      rw [HAT.out, z2w, z2w, z7e, z7f]
      exact h

end
end Go.Proofs.YtlohplpnhopldaaLg

set_option linter.all false
set_option maxRecDepth 100000
namespace Go.Proofs.YtlohplpnhopldaaLg
noncomputable section
open Go Go.Lift Go.Proofs

set_option maxHeartbeats 30000000 in
theorem zu6 (N : Nat) {w : World} {b kb k lo : Nat} {l : List (TenT.den × Value)} {kd nu ep : Int} {tn tx : List UInt8} (hb : RowAt w b (z9 l) 41) (hk : k < l.length) (hkv : l[k].2 = .slice (some ⟨kb, 0, none⟩) l[k].1.2.2.2.1.length l[k].1.2.2.2.1.length)
    (hkr : RowAt w kb (zr l[k].1.2.2.2.1) 43) (hn : l[k].1.2.2.2.1.length < 256) (hlo : lo <= w.heap.size) (hkb : kb ≠ b) {y : Int × List KeyT.den} (hy : znd N l[k].1 nu tx = some y) :
    Calls Go.Proofs.Try.prog 56 #[.pointer (some ⟨b, k * 4, none⟩), evV kd tn nu ep tx] w fun r w' => r = .returned (.int .i64 y.1) /\ w.grownBy w' (some b) /\ (y.1 = 0 -> ∃ v, RowAt w' b ((z9 l).set (k * 4 + 3) v) 41 /\ zj2 lo w' y.2 v) := by
  obtain ⟨z0, z1, z2, z3⟩ := z6f hk
  have c2 := hb.cell z2
  have c3 := hb.cell z3
  rw [hkv] at c3
  have HB := Go.Lib.hid hb
  have HR := Go.Lib.hid hkr
  unfold evV
  obtain ⟨t, ht⟩ : ∃ t, t = l[k].1 := ⟨_, rfl⟩
  rw [<- ht] at hy c2 c3 hn hkr
  have HR := Go.Lib.hid hkr
  have HT := Go.Lib.hid ht
  have HKV := Go.Lib.hid hkv
  clear hb hkr ht hkv z0 z1 z2 z3
  unfold znd at hy
  suffices HX : ∀ R : Ending -> World -> Prop, Go.RowKit.Hid (∀ w', y.1 ≠ 0 -> w.grownBy w' none -> R (.returned (.int .i64 y.1)) w') -> Go.RowKit.Hid (∀ w' v, w.grownBy w' (some b) -> RowAt w' b ((z9 l).set (k * 4 + 3) v) 41 -> zj2 lo w' y.2 v -> R (.returned (.int .i64 y.1)) w') →
      Calls Go.Proofs.Try.prog 56 #[.pointer (some ⟨b, k * 4, none⟩), .agg #[.int .i64 kd, .string ⟨⟨tn⟩⟩, .int .i64 nu, .int .i64 ep, .string ⟨⟨tx⟩⟩]] w R from
    HX _ (Go.Lib.hid (fun w' h1 h2 => ⟨rfl, ⟨h2.os, h2.tape, h2.output, h2.size, fun j hj _ => h2.block j hj (by simp)⟩, fun h => absurd h h1⟩)) (Go.Lib.hid (fun w' v h1 h2 h3 => ⟨rfl, h1, fun _ => ⟨v, h2, h3⟩⟩))
  intro R H1 H2
  have hx2 := z10 (o := Obj.cells #[.int .i64 kd, .string ⟨⟨tn⟩⟩, .int .i64 nu, .int .i64 ep, .string ⟨⟨tx⟩⟩] 51) c2
  have hx3 := z10 (o := Obj.cells #[.int .i64 kd, .string ⟨⟨tn⟩⟩, .int .i64 nu, .int .i64 ep, .string ⟨⟨tx⟩⟩] 51) c3
  have xr := RowAt.new w [.int .i64 kd, .string ⟨⟨tn⟩⟩, .int .i64 nu, .int .i64 ep, .string ⟨⟨tx⟩⟩] 51
  have xg := World.grownBy_alloc w (Obj.cells #[.int .i64 kd, .string ⟨⟨tn⟩⟩, .int .i64 nu, .int .i64 ep, .string ⟨⟨tx⟩⟩] 51) none
  have ew := HB.out.lt
  by_cases g1 : t.2.2.1 <= nu
  . rw [if_pos g1] at hy
    cases hy
    go_enter Go.Proofs.Try.func56, Go.Proofs.Try.ntmps56
    go_upto_region 1 with (fail)
    simp only [List.toArray] at xr
    obtain ⟨X, hX⟩ : ∃ X, X = w.alloc (Obj.cells #[.int .i64 kd, .string ⟨⟨tn⟩⟩, .int .i64 nu, .int .i64 ep, .string ⟨⟨tx⟩⟩] 51) := ⟨_, rfl⟩
    rw [<- hX] at hx2 hx3 xr xg ⊢
    clear hX c2 c3
    obtain ⟨E, hE⟩ : ∃ E, E = w.heap.size := ⟨_, rfl⟩
    rw [<- hE] at xr hlo ew ⊢
    clear hE
    have e2 := xr.cell (i := 2) rfl
    have HXG := Go.Lib.hid xg
    clear xr xg
    go_wp2
    go_region_held3 (fun w' => World.cell? w' ⟨b, k * 4 + 2, none⟩ = some (.int .i64 t.2.2.1) /\ World.cell? w' ⟨E, 2, none⟩ = some (.int .i64 nu)) (first | assumption | exact ⟨hx2, e2⟩ | go_keep) (fail)
    all_goals go_wp2
    all_goals exact H1.out _ (by decide) (za HXG.out)
  rw [if_neg (by omega)] at hy
  obtain ⟨yk, hyk, hy⟩ := Option.bind_eq_some_iff.1 hy
  have hdat : ∀ W : World, RowAt W kb (zr t.2.2.2.1) 43 -> VR (hp W) (.sl KeyT) t.2.2.2.1 (.slice (some ⟨kb, 0, none⟩) t.2.2.2.1.length t.2.2.2.1.length) := fun W h => zmq (w := W) (sp := []) rfl (by rw [List.append_nil]; exact h) (Nat.le_refl _)
  go_enter Go.Proofs.Try.func56, Go.Proofs.Try.ntmps56
  go_upto_region 1 with (fail)
  simp only [List.toArray] at xr
  obtain ⟨X, hX⟩ : ∃ X, X = w.alloc (Obj.cells #[.int .i64 kd, .string ⟨⟨tn⟩⟩, .int .i64 nu, .int .i64 ep, .string ⟨⟨tx⟩⟩] 51) := ⟨_, rfl⟩
  rw [<- hX] at hx2 hx3 xr xg ⊢
  clear hX c2 c3
  obtain ⟨E, hE⟩ : ∃ E, E = w.heap.size := ⟨_, rfl⟩
  rw [<- hE] at xr hlo ew ⊢
  have HE := Go.Lib.hid hE
  clear hE
  have e2 := xr.cell (i := 2) rfl
  have HXG := Go.Lib.hid xg
  have HXR := Go.Lib.hid xr
  clear xr xg
  go_wp2
  go_region_held3 (fun w' => World.cell? w' ⟨b, k * 4 + 2, none⟩ = some (.int .i64 t.2.2.1) /\ World.cell? w' ⟨E, 2, none⟩ = some (.int .i64 nu)) (first | assumption | exact ⟨hx2, e2⟩ | go_keep) (fail)
  obtain ⟨X1, hX1⟩ : ∃ X1, X1 = X.drew := ⟨_, rfl⟩
  have y3 : X1.cell? ⟨b, k * 4 + 3, none⟩ = some (.slice (some ⟨kb, 0, none⟩) t.2.2.2.1.length t.2.2.2.1.length) := by rw [hX1]; exact hx3
  have f2 : X1.cell? ⟨E, 2, none⟩ = some (.int .i64 nu) := by rw [hX1]; exact e2
  have hgX : w.grownBy X1 none := by rw [hX1]; exact za HXG.out
  have hER : RowAt X1 E [.int .i64 kd, .string ⟨⟨tn⟩⟩, .int .i64 nu, .int .i64 ep, .string ⟨⟨tx⟩⟩] 51 := by rw [hX1]; exact HXR.out.drew
  rw [<- hX1]
  clear hX1 hx2 hx3 e2
  have hcall := zpa N (W := X1.drew) (S := hp X1.drew) (fun _ _ h => h) (hdat X1.drew (HR.out.grown (za hgX) (by simp))) hyk
  have HGX := Go.Lib.hid hgX
  have HER := Go.Lib.hid hER
  clear hgX hER
  go_wp2
  go_region_held3 (fun w' => World.cell? w' ⟨b, k * 4 + 3, none⟩ = some (.slice (some ⟨kb, 0, none⟩) t.2.2.2.1.length t.2.2.2.1.length) /\ World.cell? w' ⟨E, 2, none⟩ = some (.int .i64 nu)) (first | assumption | exact ⟨y3, f2⟩ | exact ⟨h3, h4⟩ | go_keep) (first | (go_at_call 36; refine hcall.mono ?_; rintro _ wf ⟨rfl, gf⟩; have h3 := gf.cell (a := ⟨b, k * 4 + 3, none⟩) y3 (by simp); have h4 := gf.cell (a := ⟨E, 2, none⟩) f2 (by simp)))
  rename_i hH5
  obtain ⟨h3, h4⟩ := hH5
  have HGF := Go.Lib.hid gf
  clear gf hcall hdat y3 f2
  by_cases g2 : 0 <= yk
  . rw [if_pos g2] at hy
    cases hy
    go_wp2
    exact H1.out _ (by decide) ((za HGX.out).trans38 HGF.out)
  rw [if_neg g2] at hy
  by_cases g3 : t.2.2.2.1.length = 8
  . rw [if_pos g3] at hy
    cases hy
    have g3' : (t.2.2.2.1.length : Int) = 8 := by omega
    go_wp2
    exact H1.out _ (by decide) ((za HGX.out).trans38 HGF.out)
  rw [if_neg g3] at hy
  cases hy
  have g3' : ¬ (t.2.2.2.1.length : Int) = 8 := by omega
  go_wp2
  have HCe := Go.Lib.hid (And.intro h3 h4)
  clear h3 h4
  go_loopw [5] (fun i W => ∃ j : Nat, i = .int .i64 (j : Int) /\ j <= t.2.2.2.1.length /\ j <= zej t.2.2.2.1 nu /\ wf.grownBy W none) (fun i _ => t.2.2.2.1.length - (Go.RowKit.intOf i).toNat)
  case' atStart => exact ⟨0, rfl, Nat.zero_le _, Nat.zero_le _, ⟨rfl, rfl, rfl, Nat.le_refl _, fun _ _ _ => rfl⟩⟩
  obtain ⟨j, rfl, hj, hja, hgr⟩ := hrel
  have HGR := Go.Lib.hid hgr
  have HJA := Go.Lib.hid hja
  have v3 := hgr.cell HCe.out.1 (by simp)
  have v4 := hgr.cell HCe.out.2 (by simp)
  clear hgr hja
  have hb0 : (0 : Int) <= (j : Int) := by omega
  rcases Nat.lt_or_ge j t.2.2.2.1.length with hlt | hge
  . have hb1 : (j : Int) < (t.2.2.2.1.length : Int) := by omega
    have hd : decide ((j : Int) < (t.2.2.2.1.length : Int)) = true := decide_eq_true hb1
    have v5 : wr.cell? ⟨kb, j * 2, none⟩ = some (.int .i64 t.2.2.2.1[j].1) := HGR.out.cell (HGF.out.cell ((za HGX.out).cell (HR.out.cell (z10c hlt).1) (by simp)) (by simp)) (by simp)
    obtain ⟨kj, hkj⟩ : ∃ kj, kj = t.2.2.2.1[j].1 := ⟨_, rfl⟩
    rw [<- hkj] at v5
    have HKJ := Go.Lib.hid hkj
    clear hkj
    go_wp2
    go_region_held3 (fun w' => World.cell? w' ⟨b, k * 4 + 3, none⟩ = some (.slice (some ⟨kb, 0, none⟩) t.2.2.2.1.length t.2.2.2.1.length) /\ World.cell? w' ⟨E, 2, none⟩ = some (.int .i64 nu) /\ World.cell? w' ⟨kb, j * 2, none⟩ = some (.int .i64 kj)) (first | assumption | exact ⟨v3, v4, v5⟩ | go_keep) (fail)
    rcases Int.lt_or_le kj nu with hkn | hkn
    . have hd2 : decide (kj < nu) = true := decide_eq_true hkn
      go_wp2
      refine ⟨⟨j + 1, by simp, by omega, ?_, za HGR.out⟩, ?_⟩
      . exact zkz hlt HJA.out (by rw [<- HKJ.out]; exact hd2)
      . simp [Go.RowKit.intOf]
        omega
    . have hd2 : decide (kj < nu) = false := decide_eq_false (Int.not_lt.2 hkn)
      have hat : zej t.2.2.2.1 nu = j := zpi hlt HJA.out (by rw [<- HKJ.out]; exact hd2)
      have HAT := Go.Lib.hid hat
      clear hat
      go_wp2
      have hbY : RowAt wr.drew b (z9 l) 41 := (((HB.out.grown (za HGX.out) (by simp)).grown HGF.out (by simp)).grown HGR.out (by simp)).drew
      have hkY : RowAt wr.drew kb (zr t.2.2.2.1) 43 := (((HR.out.grown (za HGX.out) (by simp)).grown HGF.out (by simp)).grown HGR.out (by simp)).drew
      have hEY : RowAt wr.drew E [.int .i64 kd, .string ⟨⟨tn⟩⟩, .int .i64 nu, .int .i64 ep, .string ⟨⟨tx⟩⟩] 51 := ((HER.out.drew.grown HGF.out (by simp)).grown HGR.out (by simp)).drew
      have hgY : w.grownBy wr.drew none := za (((za HGX.out).trans38 HGF.out).trans38 HGR.out)
      obtain ⟨Y, hY⟩ : ∃ Y, Y = wr.drew := ⟨_, rfl⟩
      have v3' : Y.cell? ⟨b, k * 4 + 3, none⟩ = some (.slice (some ⟨kb, 0, none⟩) t.2.2.2.1.length t.2.2.2.1.length) := by rw [hY]; exact v3
      rw [<- hY] at hbY hkY hEY hgY ⊢
      clear hY v3 v4
      have u2 := hEY.cell (i := 2) rfl
      have u4 := hEY.cell (i := 4) rfl
      have zb : ∀ o, RowAt (Y.drew.alloc o) b (z9 l) 41 := fun o => hbY.drew.alloc o
      have zk := hkY.drew.alloc (Obj.cells #[.int .i64 nu, .string ⟨⟨tx⟩⟩] 43)
      have zn := RowAt.new Y.drew [.int .i64 nu, .string ⟨⟨tx⟩⟩] 43
      have zg : w.grownBy (Y.drew.alloc (Obj.cells #[.int .i64 nu, .string ⟨⟨tx⟩⟩] 43)) none := (za hgY).trans38 (World.grownBy_alloc _ _ none)
      have v3d : Y.drew.cell? ⟨b, k * 4 + 3, none⟩ = some (.slice (some ⟨kb, 0, none⟩) t.2.2.2.1.length t.2.2.2.1.length) := v3'
      have u2d : Y.drew.cell? ⟨E, 2, none⟩ = some (.int .i64 nu) := u2
      have u4d : Y.drew.cell? ⟨E, 4, none⟩ = some (.string ⟨⟨tx⟩⟩) := u4
      have zc3 : (Y.drew.alloc (Obj.cells #[.int .i64 nu, .string ⟨⟨tx⟩⟩] 43)).cell? ⟨b, k * 4 + 3, none⟩ = some (.slice (some ⟨kb, 0, none⟩) t.2.2.2.1.length t.2.2.2.1.length) := z10 v3'
      have zc4 : (Y.alloc (Obj.cells #[.int .i64 nu, .string ⟨⟨tx⟩⟩] 43)).cell? ⟨b, k * 4 + 3, none⟩ = some (.slice (some ⟨kb, 0, none⟩) t.2.2.2.1.length t.2.2.2.1.length) := z10 v3'
      have hins := zmr (i := j) (c := 1) zk (z6q _) (zks _) zn rfl (by intro v hv; simp at hv; rcases hv with rfl | rfl <;> rfl) hj hn
      have HSY := Go.Lib.hid hgY.size
      have ZB := Go.Lib.hid zb
      have ZG := Go.Lib.hid zg
      clear zb zk zn zg hbY hkY hEY hgY
      simp only [List.toArray] at hins
      go_wp2
      go_region_with (first | (go_at_call 60; refine hins.mono ?_; rintro _ w5 ⟨nb, cap, sp, rfl, q1, q2, q3, q4⟩; have q5 := (ZB.out _).grown q4 (by simp); have q6 := q5.free (i := k * 4 + 3); have q7 := q5.cell (i := k * 4 + 3) (v := .slice (some ⟨kb, 0, none⟩) t.2.2.2.1.length t.2.2.2.1.length) (by have h := z6f hk; rw [h.2.2.2, HKV.out, HT.out]); have Q5 := Go.Lib.hid q5; have Q3 := Go.Lib.hid q3; have Q4 := Go.Lib.hid q4; clear q3 q4 q5 hins))
      all_goals go_wp2
      all_goals (
        have hwE : E = w.heap.size := HE.out
        have hsz := HSY.out
        have q2' : Y.heap.size <= nb := by
          have h := q2
          try simp at h
          omega
        have hgE : w.grownBy w5 none := ZG.out.trans38 Q4.out
        refine H2.out _ (.slice (some ⟨nb, 0, none⟩) (t.2.2.2.1.length + 1) cap) ?_ (Q5.out.set _ _) ?_
        . have h := z1y (w := w5) (g := b) (i := k * 4 + 3) (.slice (some ⟨nb, 0, none⟩) (t.2.2.2.1.length + 1) cap)
          exact ⟨h.os.trans hgE.os, h.tape.trans hgE.tape, h.output.trans hgE.output, Nat.le_trans hgE.size h.size, fun q hq hne => (h.block q (Nat.lt_of_lt_of_le hq hgE.size) hne).trans (hgE.block q hq (by simp))⟩
        . have hl3 : (t.2.2.2.1.take (zej t.2.2.2.1 nu) ++ [(nu, (tx, ()))] ++ t.2.2.2.1.drop (zej t.2.2.2.1 nu)).length = t.2.2.2.1.length + 1 := by
            simp only [List.length_append, List.length_take, List.length_drop, List.length_singleton, HAT.out]
            omega
          refine ⟨nb, cap, sp, ?_, ?_, by omega, ?_⟩
          . show Value.slice _ _ _ = Value.slice _ (List.length (_ ++ _ ++ _)) _
            rw [hl3]
          . show List.length (_ ++ _ ++ _) <= _
            rw [hl3]
            exact q1
          . have h := (Q3.out).set_other (k := b) (by have := HB.out.lt; omega) (k * 4 + 3) (.slice (some ⟨nb, 0, none⟩) (t.2.2.2.1.length + 1) cap)
            show RowAt _ nb (zr (_ ++ _ ++ _) ++ sp) _
            rw [HAT.out, z6r, z6r, zbj, zbk]
            exact h)
  . have hje : j = t.2.2.2.1.length := by omega
    have hat : zej t.2.2.2.1 nu = j := Nat.le_antisymm (Nat.le_trans (zu9 _ _) (by omega)) HJA.out
    have HAT := Go.Lib.hid hat
    clear hat
    subst hje
    go_wp2
    refine wp_region_held_drew (S := fun w' => World.cell? w' ⟨b, k * 4 + 3, none⟩ = some (.slice (some ⟨kb, 0, none⟩) t.2.2.2.1.length t.2.2.2.1.length)) (by kernel_rfl) (v3) (fun hHd => ?_)
    refine wpAnyH_take (i := 0) (v := ?v0) rfl (by kernel_rfl) (by kernel_rfl) (by kernel_rfl) (fun _ _ _ h => h) (Or.inl ⟨by kernel_rfl, ?hy0⟩) hHd (show wpAnyH _ _ _ _ _ _ _ (Act.put _ (some 27) _) _ from ?rest0)
    case hy0 => (intro wS hSw; (try dsimp only at hSw); go_simp; try with_reducible rfl)
    try simp only [Act.put, List.setIfInBounds_toArray, List.set_cons_zero, List.set_cons_succ]
    refine wpAnyH_take (i := 1) (v := ?v1) rfl (by kernel_rfl) (by kernel_rfl) (by kernel_rfl) (fun _ _ _ h => h) (Or.inl ⟨by kernel_rfl, ?hy1⟩) hHd (show wpAnyH _ _ _ _ _ _ _ (Act.put _ (some 28) _) _ from ?rest1)
    case hy1 => (intro wS hSw; (try dsimp only at hSw); go_simp; try with_reducible rfl)
    try simp only [Act.put, List.setIfInBounds_toArray, List.set_cons_zero, List.set_cons_succ]
    refine wpAnyH_take (i := 2) (v := ?v2) rfl (by kernel_rfl) (by kernel_rfl) (by kernel_rfl) (fun _ _ _ h => h) (Or.inl ⟨by kernel_rfl, ?hy2⟩) hHd (show wpAnyH _ _ _ _ _ _ _ (Act.put _ (some 29) _) _ from ?rest2)
    case hy2 => (intro wS hSw; (try dsimp only at hSw); go_simp; try with_reducible rfl)
    try simp only [Act.put, List.setIfInBounds_toArray, List.set_cons_zero, List.set_cons_succ]
    refine wpAnyH_take (i := 3) (v := ?v3) rfl (by kernel_rfl) (by kernel_rfl) (by kernel_rfl) (fun _ _ _ h => h) (Or.inl ⟨by kernel_rfl, ?hy3⟩) hHd (show wpAnyH _ _ _ _ _ _ _ (Act.put _ (some 30) _) _ from ?rest3)
    case hy3 => (intro wS hSw; (try dsimp only at hSw); go_simp; try with_reducible rfl)
    try simp only [Act.put, List.setIfInBounds_toArray, List.set_cons_zero, List.set_cons_succ]
    refine wpAnyH_take (i := 4) (v := ?v4) rfl (by kernel_rfl) (by kernel_rfl) (by kernel_rfl) (fun _ _ _ h => h) (Or.inl ⟨by kernel_rfl, ?hy4⟩) hHd (show wpAnyH _ _ _ _ _ _ _ (Act.put _ (some 31) _) _ from ?rest4)
    case hy4 => (intro wS hSw; (try dsimp only at hSw); go_simp; try with_reducible rfl)
    try simp only [Act.put, List.setIfInBounds_toArray, List.set_cons_zero, List.set_cons_succ]
    refine wpAnyH_take (i := 5) (v := ?v5) rfl (by kernel_rfl) (by kernel_rfl) (by kernel_rfl) (fun _ _ _ h => h) (Or.inl ⟨by kernel_rfl, ?hy5⟩) hHd (show wpAnyH _ _ _ _ _ _ _ (Act.put _ (some 32) _) _ from ?rest5)
    case hy5 => (intro wS hSw; (try dsimp only at hSw); go_simp; try with_reducible rfl)
    try simp only [Act.put, List.setIfInBounds_toArray, List.set_cons_zero, List.set_cons_succ]
    refine wpAnyH_take (i := 6) (v := ?v6) rfl (by kernel_rfl) (by kernel_rfl) (by kernel_rfl) (fun _ _ _ h => h) (Or.inl ⟨by kernel_rfl, ?hy6⟩) hHd (show wpAnyH _ _ _ _ _ _ _ (Act.put _ (some 33) _) _ from ?rest6)
    case hy6 => (intro wS hSw; (try dsimp only at hSw); go_simp; try with_reducible rfl)
    try simp only [Act.put, List.setIfInBounds_toArray, List.set_cons_zero, List.set_cons_succ]
    refine wpAnyH_take (i := 7) (v := ?v7) rfl (by kernel_rfl) (by kernel_rfl) (by kernel_rfl) (fun _ _ _ h => h) (Or.inl ⟨by kernel_rfl, ?hy7⟩) hHd (show wpAnyH _ _ _ _ _ _ _ (Act.put _ (some 34) _) _ from ?rest7)
    case hy7 => (intro wS hSw; (try dsimp only at hSw); go_simp; try with_reducible rfl)
    try simp only [Act.put, List.setIfInBounds_toArray, List.set_cons_zero, List.set_cons_succ]
    refine wpAnyH_take (i := 8) (v := undef) rfl (by kernel_rfl) (by kernel_rfl) (by kernel_rfl) (fun _ _ _ h => h) (Or.inr ⟨by kernel_rfl, rfl⟩) hHd (show wpAnyH _ _ _ _ _ _ _ (Act.put _ (some 35) undef) _ from ?_)
    try simp only [Act.put, List.setIfInBounds_toArray, List.set_cons_zero, List.set_cons_succ]
    refine wpAnyH_take (i := 9) (v := undef) rfl (by kernel_rfl) (by kernel_rfl) (by kernel_rfl) (fun _ _ _ h => h) (Or.inr ⟨by kernel_rfl, rfl⟩) hHd (show wpAnyH _ _ _ _ _ _ _ (Act.put _ (some 36) undef) _ from ?_)
    try simp only [Act.put, List.setIfInBounds_toArray, List.set_cons_zero, List.set_cons_succ]
    refine wpAnyH_take (i := 10) (v := undef) rfl (by kernel_rfl) (by kernel_rfl) (by kernel_rfl) (fun _ _ _ h => h) (Or.inr ⟨by kernel_rfl, rfl⟩) hHd (show wpAnyH _ _ _ _ _ _ _ (Act.put _ (some 37) undef) _ from ?_)
    try simp only [Act.put, List.setIfInBounds_toArray, List.set_cons_zero, List.set_cons_succ]
    refine wpAnyH_take (i := 11) (v := undef) rfl (by kernel_rfl) (by kernel_rfl) (by kernel_rfl) (fun _ _ _ h => h) (Or.inr ⟨by kernel_rfl, rfl⟩) hHd (show wpAnyH _ _ _ _ _ _ _ (Act.put _ (some 38) undef) _ from ?_)
    try simp only [Act.put, List.setIfInBounds_toArray, List.set_cons_zero, List.set_cons_succ]
    refine wpAnyH_take (i := 12) (v := undef) rfl (by kernel_rfl) (by kernel_rfl) (by kernel_rfl) (fun _ _ _ h => h) (Or.inr ⟨by kernel_rfl, rfl⟩) hHd (show wpAnyH _ _ _ _ _ _ _ (Act.put _ (some 39) undef) _ from ?_)
    try simp only [Act.put, List.setIfInBounds_toArray, List.set_cons_zero, List.set_cons_succ]
    refine wpAnyH_take (i := 13) (v := undef) rfl (by kernel_rfl) (by kernel_rfl) (by kernel_rfl) (fun _ _ _ h => h) (Or.inr ⟨by kernel_rfl, rfl⟩) hHd (show wpAnyH _ _ _ _ _ _ _ (Act.put _ (some 40) undef) _ from ?_)
    try simp only [Act.put, List.setIfInBounds_toArray, List.set_cons_zero, List.set_cons_succ]
    refine wpAnyH_take (i := 14) (v := undef) rfl (by kernel_rfl) (by kernel_rfl) (by kernel_rfl) (fun _ _ _ h => h) (Or.inr ⟨by kernel_rfl, rfl⟩) hHd (show wpAnyH _ _ _ _ _ _ _ (Act.put _ (some 41) undef) _ from ?_)
    try simp only [Act.put, List.setIfInBounds_toArray, List.set_cons_zero, List.set_cons_succ]
    refine wpAnyH_take (i := 15) (v := undef) rfl (by kernel_rfl) (by kernel_rfl) (by kernel_rfl) (fun _ _ _ h => h) (Or.inr ⟨by kernel_rfl, rfl⟩) hHd (show wpAnyH _ _ _ _ _ _ _ (Act.put _ (some 42) undef) _ from ?_)
    try simp only [Act.put, List.setIfInBounds_toArray, List.set_cons_zero, List.set_cons_succ]
    refine wpAnyH_take (i := 16) (v := undef) rfl (by kernel_rfl) (by kernel_rfl) (by kernel_rfl) (fun _ _ _ h => h) (Or.inr ⟨by kernel_rfl, rfl⟩) hHd (show wpAnyH _ _ _ _ _ _ _ (Act.put _ (some 43) undef) _ from ?_)
    try simp only [Act.put, List.setIfInBounds_toArray, List.set_cons_zero, List.set_cons_succ]
    refine wpAnyH_take (i := 17) (v := undef) rfl (by kernel_rfl) (by kernel_rfl) (by kernel_rfl) (fun _ _ _ h => h) (Or.inr ⟨by kernel_rfl, rfl⟩) hHd (show wpAnyH _ _ _ _ _ _ _ (Act.put _ (some 44) undef) _ from ?_)
    try simp only [Act.put, List.setIfInBounds_toArray, List.set_cons_zero, List.set_cons_succ]
    refine wpAnyH_take (i := 18) (v := undef) rfl (by kernel_rfl) (by kernel_rfl) (by kernel_rfl) (fun _ _ _ h => h) (Or.inr ⟨by kernel_rfl, rfl⟩) hHd (show wpAnyH _ _ _ _ _ _ _ (Act.put _ (some 45) undef) _ from ?_)
    try simp only [Act.put, List.setIfInBounds_toArray, List.set_cons_zero, List.set_cons_succ]
    refine wpAnyH_take (i := 19) (v := ?v19) rfl (by kernel_rfl) (by kernel_rfl) (by kernel_rfl) (fun _ _ _ h => h) (Or.inl ⟨by kernel_rfl, ?hy19⟩) hHd (show wpAnyH _ _ _ _ _ _ _ (Act.put _ (some 46) _) _ from ?rest19)
    case hy19 => (intro wS hSw; (try dsimp only at hSw); go_simp; try with_reducible rfl)
    try simp only [Act.put, List.setIfInBounds_toArray, List.set_cons_zero, List.set_cons_succ]
    refine wpAnyH_done (by kernel_rfl) ?_ _
    go_wp2
    have hbY : RowAt wr.drew b (z9 l) 41 := (((HB.out.grown (za HGX.out) (by simp)).grown HGF.out (by simp)).grown HGR.out (by simp)).drew
    have hkY : RowAt wr.drew kb (zr t.2.2.2.1) 43 := (((HR.out.grown (za HGX.out) (by simp)).grown HGF.out (by simp)).grown HGR.out (by simp)).drew
    have hEY : RowAt wr.drew E [.int .i64 kd, .string ⟨⟨tn⟩⟩, .int .i64 nu, .int .i64 ep, .string ⟨⟨tx⟩⟩] 51 := ((HER.out.drew.grown HGF.out (by simp)).grown HGR.out (by simp)).drew
    have hgY : w.grownBy wr.drew none := za (((za HGX.out).trans38 HGF.out).trans38 HGR.out)
    obtain ⟨Y, hY⟩ : ∃ Y, Y = wr.drew := ⟨_, rfl⟩
    have v3' : Y.cell? ⟨b, k * 4 + 3, none⟩ = some (.slice (some ⟨kb, 0, none⟩) t.2.2.2.1.length t.2.2.2.1.length) := by rw [hY]; exact v3
    rw [<- hY] at hbY hkY hEY hgY ⊢
    clear hY v3 v4
    have u2 := hEY.cell (i := 2) rfl
    have u4 := hEY.cell (i := 4) rfl
    have zb : ∀ o, RowAt (Y.drew.alloc o) b (z9 l) 41 := fun o => hbY.drew.alloc o
    have zk := hkY.drew.alloc (Obj.cells #[.int .i64 nu, .string ⟨⟨tx⟩⟩] 43)
    have zn := RowAt.new Y.drew [.int .i64 nu, .string ⟨⟨tx⟩⟩] 43
    have zg : w.grownBy (Y.drew.alloc (Obj.cells #[.int .i64 nu, .string ⟨⟨tx⟩⟩] 43)) none := (za hgY).trans38 (World.grownBy_alloc _ _ none)
    have v3d : Y.drew.cell? ⟨b, k * 4 + 3, none⟩ = some (.slice (some ⟨kb, 0, none⟩) t.2.2.2.1.length t.2.2.2.1.length) := v3'
    have u2d : Y.drew.cell? ⟨E, 2, none⟩ = some (.int .i64 nu) := u2
    have u4d : Y.drew.cell? ⟨E, 4, none⟩ = some (.string ⟨⟨tx⟩⟩) := u4
    have zc3 : (Y.drew.alloc (Obj.cells #[.int .i64 nu, .string ⟨⟨tx⟩⟩] 43)).cell? ⟨b, k * 4 + 3, none⟩ = some (.slice (some ⟨kb, 0, none⟩) t.2.2.2.1.length t.2.2.2.1.length) := z10 v3'
    have zc4 : (Y.alloc (Obj.cells #[.int .i64 nu, .string ⟨⟨tx⟩⟩] 43)).cell? ⟨b, k * 4 + 3, none⟩ = some (.slice (some ⟨kb, 0, none⟩) t.2.2.2.1.length t.2.2.2.1.length) := z10 v3'
    have hins := zmr (i := t.2.2.2.1.length) (c := 1) zk (z6q _) (zks _) zn rfl (by intro v hv; simp at hv; rcases hv with rfl | rfl <;> rfl) hj hn
    have HSY := Go.Lib.hid hgY.size
    have ZB := Go.Lib.hid zb
    have ZG := Go.Lib.hid zg
    clear zb zk zn zg hbY hkY hEY hgY
    simp only [List.toArray] at hins
    go_wp2
    go_region_with (first | (go_at_call 60; refine hins.mono ?_; rintro _ w5 ⟨nb, cap, sp, rfl, q1, q2, q3, q4⟩; have q5 := (ZB.out _).grown q4 (by simp); have q6 := q5.free (i := k * 4 + 3); have q7 := q5.cell (i := k * 4 + 3) (v := .slice (some ⟨kb, 0, none⟩) t.2.2.2.1.length t.2.2.2.1.length) (by have h := z6f hk; rw [h.2.2.2, HKV.out, HT.out]); have Q5 := Go.Lib.hid q5; have Q3 := Go.Lib.hid q3; have Q4 := Go.Lib.hid q4; clear q3 q4 q5 hins))
    all_goals go_wp2
    all_goals (
      have hwE : E = w.heap.size := HE.out
      have hsz := HSY.out
      have q2' : Y.heap.size <= nb := by
        have h := q2
        try simp at h
        omega
      have hgE : w.grownBy w5 none := ZG.out.trans38 Q4.out
      refine H2.out _ (.slice (some ⟨nb, 0, none⟩) (t.2.2.2.1.length + 1) cap) ?_ (Q5.out.set _ _) ?_
      . have h := z1y (w := w5) (g := b) (i := k * 4 + 3) (.slice (some ⟨nb, 0, none⟩) (t.2.2.2.1.length + 1) cap)
        exact ⟨h.os.trans hgE.os, h.tape.trans hgE.tape, h.output.trans hgE.output, Nat.le_trans hgE.size h.size, fun q hq hne => (h.block q (Nat.lt_of_lt_of_le hq hgE.size) hne).trans (hgE.block q hq (by simp))⟩
      . have hl3 : (t.2.2.2.1.take (zej t.2.2.2.1 nu) ++ [(nu, (tx, ()))] ++ t.2.2.2.1.drop (zej t.2.2.2.1 nu)).length = t.2.2.2.1.length + 1 := by
          simp only [List.length_append, List.length_take, List.length_drop, List.length_singleton, HAT.out]
          omega
        refine ⟨nb, cap, sp, ?_, ?_, by omega, ?_⟩
        . show Value.slice _ _ _ = Value.slice _ (List.length (_ ++ _ ++ _)) _
          rw [hl3]
        . show List.length (_ ++ _ ++ _) <= _
          rw [hl3]
          exact q1
        . have h := (Q3.out).set_other (k := b) (by have := HB.out.lt; omega) (k * 4 + 3) (.slice (some ⟨nb, 0, none⟩) (t.2.2.2.1.length + 1) cap)
          show RowAt _ nb (zr (_ ++ _ ++ _) ++ sp) _
          rw [HAT.out, z6r, z6r, zbj, zbk]
          exact h)

end
end Go.Proofs.YtlohplpnhopldaaLg

set_option linter.all false
set_option maxRecDepth 100000
namespace Go.Proofs.YtlohplpnhopldaaLg
noncomputable section
open Go Go.Lift Go.Proofs

def zn5 (N : Nat) (s : StT.den) (kd : Int) (tn : List UInt8) (nu ep : Int) (tx : List UInt8) : Option (Int × StT.den) :=
  if kd = 4 then (if nu < s.2.1 then some (7, s) else some (0, (s.1, (nu, ()))))
  else (z3m N s tn).bind fun at' =>
    if kd = 1 then
      if 0 <= at' then match s.1[at'.toNat]? with
        | none => none
        | some t => if ep < t.2.1 \/ nu < t.2.2.1 then some (7, s) else some (0, (s.1.take at'.toNat ++ (t.1, (ep, (nu, (t.2.2.2.1, ())))) :: s.1.drop (at'.toNat + 1), s.2))
      else if s.1.length = 16 then some (3, s) else some (0, (s.1.take (z64 s.1 tn) ++ [(tn, (ep, (nu, ([], ()))))] ++ s.1.drop (z64 s.1 tn), s.2))
    else if at' < 0 then some (6, s)
    else match s.1[at'.toNat]? with
      | none => none
      | some t => (if kd = 2 then znd N t nu tx else zhi N t nu).bind fun y =>
        some (y.1, (s.1.take at'.toNat ++ (t.1, (t.2.1, (t.2.2.1, (y.2, ())))) :: s.1.drop (at'.toNat + 1), s.2))

structure St38 (lo : Nat) (w : World) (q b n : Nat) (ser : Int) (l : List (TenT.den × Value)) : Prop where
  rq : RowAt w q [.slice (some ⟨b, 0, none⟩) n n, .int .i64 ser] 24
  rb : RowAt w b (z9 l) 41
  len : l.length = n
  qb : q ≠ b
  lob : lo <= b
  loq : lo <= q
  n16 : n <= 16
  k8 : ∀ i, (h : i < l.length) -> l[i].1.2.2.2.1.length < 256
  keys : ∀ i, (h : i < l.length) -> ∃ kb, l[i].2 = .slice (some ⟨kb, 0, none⟩) l[i].1.2.2.2.1.length l[i].1.2.2.2.1.length /\ lo <= kb /\ kb ≠ b /\ kb ≠ q /\ RowAt w kb (zr l[i].1.2.2.2.1) 43
  apart : ∀ i j, (hi : i < l.length) -> (hj : j < l.length) -> i ≠ j -> l[i].2 ≠ l[j].2

theorem St38.grown {lo : Nat} {w w' : World} {q b n : Nat} {ser : Int} {l : List (TenT.den × Value)} (h : St38 lo w q b n ser l) (g : w.grownBy w' none) : St38 lo w' q b n ser l :=
  ⟨h.rq.grown g (by simp), h.rb.grown g (by simp), h.len, h.qb, h.lob, h.loq, h.n16, h.k8, fun i hi => by
    obtain ⟨kb, e1, e2, e3, e4, e5⟩ := h.keys i hi
    exact ⟨kb, e1, e2, e3, e4, e5.grown g (by simp)⟩, h.apart⟩

theorem St38.serial {lo : Nat} {w : World} {q b n : Nat} {ser : Int} {l : List (TenT.den × Value)} (h : St38 lo w q b n ser l) (s2 : Int) : St38 lo (w.setCell ⟨q, 1, none⟩ (.int .i64 s2)) q b n s2 l :=
  ⟨h.rq.set 1 (.int .i64 s2), h.rb.set_other h.qb 1 _, h.len, h.qb, h.lob, h.loq, h.n16, h.k8, fun i hi => by
    obtain ⟨kb, e1, e2, e3, e4, e5⟩ := h.keys i hi
    exact ⟨kb, e1, e2, e3, e4, e5.set_other (fun e => e4 e.symm) 1 _⟩, h.apart⟩

theorem zl1 {S : Hp} {ts : List TenT.den} {ser : Int} {sv : Value} (h : VR S (.sl TenT) ts sv) : VR S StT (ts, (ser, ())) (.agg #[sv, .int .i64 ser]) := by
  have h' : Rd S (.sl TenT) ts [sv] := h
  exact ⟨#[sv, .int .i64 ser], rfl, [sv], [.int .i64 ser], rfl, h', [.int .i64 ser], [], rfl, rfl, rfl⟩

def zkn (lo : Nat) (w : World) (p : TenT.den × Value) : Prop := (p.2 = .slice none 0 0 /\ p.1.2.2.2.1 = []) \/ zj2 lo w p.1.2.2.2.1 p.2

theorem zp1 {lo : Nat} {w : World} {p : TenT.den × Value} (h : zkn lo w p) {S : Hp} (hS : ∀ j, lo <= j -> S j = w.heap[j]?) : VR S (.sl KeyT) p.1.2.2.2.1 p.2 := by
  rcases h with ⟨e1, e2⟩ | ⟨kb, cap, sp, e1, e2, e3, e4⟩
  . rw [e1, e2]
    exact VR.of_one rfl ⟨none, 0, rfl, Nat.zero_le _, .inl rfl⟩
  . rw [e1]
    exact zmq (w := w) (hS kb e3) e4 e2

theorem zzr {lo : Nat} {w : World} {q b n : Nat} {ser : Int} {l : List (TenT.den × Value)} (h : St38 lo w q b n ser l) {i : Nat} (hi : i < l.length) : zkn lo w l[i] := by
  obtain ⟨kb, e1, e2, e3, e4, e5⟩ := h.keys i hi
  exact .inr ⟨kb, _, [], e1, Nat.le_refl _, e2, by rw [List.append_nil]; exact e5⟩

theorem z133 {lo : Nat} {w : World} {q b n : Nat} {ser : Int} {l : List (TenT.den × Value)} (h : St38 lo w q b n ser l) {p : TenT.den × Value} (hp : p ∈ l) : zkn lo w p := by
  obtain ⟨i, hi, rfl⟩ := List.getElem_of_mem hp
  exact zzr h hi

theorem zx6 {lo : Nat} {w : World} {q b n : Nat} {ser : Int} {l : List (TenT.den × Value)} (h : St38 lo w q b n ser l) {S : Hp} (hS : ∀ j, lo <= j -> S j = w.heap[j]?) : VR S (.sl TenT) (l.map (·.1)) (.slice (some ⟨b, 0, none⟩) n n) := by
  have := zqz (S := S) (w := w) (b := b) (cap := n) (l := l) (sp := []) (hS b h.lob) (by rw [List.append_nil]; exact h.rb) (by rw [h.len]; exact Nat.le_refl _) (fun p hp => zp1 (z133 h hp) hS)
  rwa [h.len] at this

theorem ze4 {lo : Nat} {w : World} {nb cap : Nat} {l : List (TenT.den × Value)} {sp : List Value} (h : RowAt w nb (z9 l ++ sp) 41) (hlo : lo <= nb) (hc : l.length <= cap) (hk : ∀ p ∈ l, zkn lo w p) {S : Hp} (hS : ∀ j, lo <= j -> S j = w.heap[j]?) :
    VR S (.sl TenT) (l.map (·.1)) (.slice (some ⟨nb, 0, none⟩) l.length cap) := zqz (w := w) (hS nb hlo) h hc (fun p hp => zp1 (hk p hp) hS)

theorem zhb {lo : Nat} {w w' : World} {q b n : Nat} {ser : Int} {l : List (TenT.den × Value)} (h : St38 lo w q b n ser l) {i : Nat} (hi : i < l.length) (hrow : ∀ kb cs, kb ≠ b -> kb ≠ q -> l[i].2 = .slice (some ⟨kb, 0, none⟩) l[i].1.2.2.2.1.length l[i].1.2.2.2.1.length -> RowAt w kb cs 43 -> RowAt w' kb cs 43) : zkn lo w' l[i] := by
  obtain ⟨kb, e1, e2, e3, e4, e5⟩ := h.keys i hi
  exact .inr ⟨kb, _, [], e1, Nat.le_refl _, e2, by rw [List.append_nil]; exact hrow kb _ e3 e4 e1 e5⟩

theorem zyf {lo : Nat} {w w' : World} {q b n : Nat} {ser : Int} {l : List (TenT.den × Value)} (h : St38 lo w q b n ser l) (hrow : ∀ kb cs, kb ≠ b -> kb ≠ q -> RowAt w kb cs 43 -> RowAt w' kb cs 43) {p : TenT.den × Value} (hp : p ∈ l) : zkn lo w' p := by
  obtain ⟨i, hi, rfl⟩ := List.getElem_of_mem hp
  exact zhb h hi (fun kb cs h1 h2 _ h3 => hrow kb cs h1 h2 h3)

theorem z134 {lo : Nat} {w : World} {q b n : Nat} {ser : Int} {l : List (TenT.den × Value)} (h : St38 lo w q b n ser l) {i j kb : Nat} (hi : i < l.length) (hj : j < l.length) (hij : i ≠ j)
    (e1 : l[i].2 = .slice (some ⟨kb, 0, none⟩) l[i].1.2.2.2.1.length l[i].1.2.2.2.1.length) : l[j].2 ≠ .slice (some ⟨kb, 0, none⟩) l[j].1.2.2.2.1.length l[j].1.2.2.2.1.length := by
  intro e2
  obtain ⟨k1, a1, _, _, _, r1⟩ := h.keys i hi
  obtain ⟨k2, a2, _, _, _, r2⟩ := h.keys j hj
  rw [e1] at a1
  rw [e2] at a2
  injection a1 with a1
  injection a1 with a1
  injection a1 with a1
  injection a2 with a2
  injection a2 with a2
  injection a2 with a2
  subst a1
  subst a2
  unfold RowAt at r1 r2
  rw [r1] at r2
  injection r2 with r2
  injection r2 with r2
  have hl := congrArg Array.size r2
  simp only [List.size_toArray, z6q] at hl
  exact h.apart i j hi hj hij (by rw [e1, e2]; congr 1 <;> omega)

theorem zwn (l m : List (TenT.den × Value)) (t : TenT.den) (ks : List KeyT.den) (v : Value) : z9 (l ++ (t, v) :: m) = z9 (l ++ ((t.1, (t.2.1, (t.2.2.1, (ks, ())))), v) :: m) := by
  simp [z9]

theorem zv0 {lo : Nat} {w w' : World} {q b n : Nat} {ser : Int} {l : List (TenT.den × Value)} (h : St38 lo w q b n ser l) {k : Nat} (hk : k < l.length) {ks : List KeyT.den} {v : Value} (hb : RowAt w' b ((z9 l).set (k * 4 + 3) v) 41) (hv : zj2 lo w' ks v)
    (hrow : ∀ i, (hi : i < l.length) -> i ≠ k -> zkn lo w' l[i]) {S : Hp} (hS : ∀ j, lo <= j -> S j = w'.heap[j]?) :
    VR S (.sl TenT) ((l.map (·.1)).take k ++ (l[k].1.1, (l[k].1.2.1, (l[k].1.2.2.1, (ks, ())))) :: (l.map (·.1)).drop (k + 1)) (.slice (some ⟨b, 0, none⟩) n n) := by
  obtain ⟨l', hl'⟩ : ∃ l', l' = l.take k ++ (((l[k].1.1, (l[k].1.2.1, (l[k].1.2.2.1, (ks, ())))), v) : TenT.den × Value) :: l.drop (k + 1) := ⟨_, rfl⟩
  have hc : (z9 l).set (k * 4 + 3) v = z9 l' := by rw [zx2 hk, hl', zwn]
  have hlen : l'.length = n := by
    rw [hl', <- h.len]
    simp only [List.length_append, List.length_cons, List.length_take, List.length_drop]
    omega
  have hm : l'.map (·.1) = (l.map (·.1)).take k ++ (l[k].1.1, (l[k].1.2.1, (l[k].1.2.2.1, (ks, ())))) :: (l.map (·.1)).drop (k + 1) := by
    rw [hl', List.map_append, List.map_cons, List.map_take, List.map_drop]
  have hok : ∀ p ∈ l', zkn lo w' p := by
    intro p hp
    rw [hl'] at hp
    rcases List.mem_append.1 hp with hp | hp
    . obtain ⟨i, hi, rfl⟩ := List.getElem_of_mem hp
      rw [List.length_take] at hi
      rw [List.getElem_take]
      exact hrow i (by omega) (by omega)
    . rcases List.mem_cons.1 hp with rfl | hp
      . exact .inr hv
      . obtain ⟨i, hi, rfl⟩ := List.getElem_of_mem hp
        rw [List.length_drop] at hi
        rw [List.getElem_drop]
        exact hrow (k + 1 + i) (by omega) (by omega)
  have := ze4 (sp := []) (by rw [List.append_nil, <- hc]; exact hb) h.lob (Nat.le_of_eq hlen) hok hS
  rwa [hm, hlen] at this

theorem zxv {lo : Nat} {w w' : World} {q b n : Nat} {ser : Int} {l : List (TenT.den × Value)} (h : St38 lo w q b n ser l) {k : Nat} (hk : k < l.length) {ep nu : Int} (hb : RowAt w' b (z9 (zr5 l k ep nu)) 41)
    (hrow : ∀ i, (hi : i < l.length) -> zkn lo w' l[i]) {S : Hp} (hS : ∀ j, lo <= j -> S j = w'.heap[j]?) :
    VR S (.sl TenT) ((l.map (·.1)).take k ++ (l[k].1.1, (ep, (nu, (l[k].1.2.2.2.1, ())))) :: (l.map (·.1)).drop (k + 1)) (.slice (some ⟨b, 0, none⟩) n n) := by
  have e : zr5 l k ep nu = l.take k ++ ((l[k].1.1, (ep, (nu, (l[k].1.2.2.2.1, ())))), l[k].2) :: l.drop (k + 1) := by
    unfold zr5
    rw [List.getElem?_eq_getElem hk]
  obtain ⟨l', hl'⟩ : ∃ l', l' = zr5 l k ep nu := ⟨_, rfl⟩
  rw [<- hl'] at hb e
  have hlen : l'.length = n := by
    rw [e, <- h.len]
    simp only [List.length_append, List.length_cons, List.length_take, List.length_drop]
    omega
  have hm : l'.map (·.1) = (l.map (·.1)).take k ++ (l[k].1.1, (ep, (nu, (l[k].1.2.2.2.1, ())))) :: (l.map (·.1)).drop (k + 1) := by
    rw [e, List.map_append, List.map_cons, List.map_take, List.map_drop]
  have hok : ∀ p ∈ l', zkn lo w' p := by
    intro p hp
    rw [e] at hp
    rcases List.mem_append.1 hp with hp | hp
    . obtain ⟨i, hi, rfl⟩ := List.getElem_of_mem hp
      rw [List.length_take] at hi
      rw [List.getElem_take]
      exact hrow i (by omega)
    . rcases List.mem_cons.1 hp with rfl | hp
      . exact hrow k hk
      . obtain ⟨i, hi, rfl⟩ := List.getElem_of_mem hp
        rw [List.length_drop] at hi
        rw [List.getElem_drop]
        exact hrow (k + 1 + i) (by omega)
  have := ze4 (sp := []) (by rw [List.append_nil]; exact hb) h.lob (Nat.le_of_eq hlen) hok hS
  rwa [hm, hlen] at this

set_option maxHeartbeats 30000000 in
theorem ztw (N : Nat) {lo : Nat} {w : World} {q b n : Nat} {ser : Int} {l : List (TenT.den × Value)} (H : St38 lo w q b n ser l) {kd nu ep : Int} {tn tx : List UInt8} {y : Int × StT.den} (hy : zn5 N (l.map (·.1), (ser, ())) kd tn nu ep tx = some y) :
    Calls Go.Proofs.Try.prog 50 #[.pointer (some ⟨q, 0, none⟩), evV kd tn nu ep tx] w fun r w' => r = .returned (.int .i64 y.1) /\ WF w (fun j => lo <= j) w' /\ (y.1 = 0 -> ∃ v, RowAt w' q [v, .int .i64 y.2.2.1] 24 /\ ∀ S : Hp, (∀ j, lo <= j -> S j = w'.heap[j]?) -> VR S (.sl TenT) y.2.1 v) := by
  unfold evV
  suffices HX : ∀ R : Ending -> World -> Prop, Go.RowKit.Hid (∀ w', y.1 ≠ 0 -> WF w (fun j => lo <= j) w' -> R (.returned (.int .i64 y.1)) w') -> Go.RowKit.Hid (∀ w' v, WF w (fun j => lo <= j) w' -> RowAt w' q [v, .int .i64 y.2.2.1] 24 -> (∀ S : Hp, (∀ j, lo <= j -> S j = w'.heap[j]?) -> VR S (.sl TenT) y.2.1 v) -> R (.returned (.int .i64 y.1)) w') →
      Calls Go.Proofs.Try.prog 50 #[.pointer (some ⟨q, 0, none⟩), .agg #[.int .i64 kd, .string ⟨⟨tn⟩⟩, .int .i64 nu, .int .i64 ep, .string ⟨⟨tx⟩⟩]] w R from
    HX _ (Go.Lib.hid (fun w' h1 h2 => ⟨rfl, h2, fun h => absurd h h1⟩)) (Go.Lib.hid (fun w' v h1 h2 h3 => ⟨rfl, h1, fun _ => ⟨v, h2, h3⟩⟩))
  intro R H1 H2
  have HH := Go.Lib.hid H
  have c0 := H.rq.cell (i := 0) rfl
  have c1 := H.rq.cell (i := 1) rfl
  have x0 := z10 (o := Obj.cells #[.int .i64 kd, .string ⟨⟨tn⟩⟩, .int .i64 nu, .int .i64 ep, .string ⟨⟨tx⟩⟩] 51) c0
  have x1 := z10 (o := Obj.cells #[.int .i64 kd, .string ⟨⟨tn⟩⟩, .int .i64 nu, .int .i64 ep, .string ⟨⟨tx⟩⟩] 51) c1
  have xr := RowAt.new w [.int .i64 kd, .string ⟨⟨tn⟩⟩, .int .i64 nu, .int .i64 ep, .string ⟨⟨tx⟩⟩] 51
  have xg := World.grownBy_alloc w (Obj.cells #[.int .i64 kd, .string ⟨⟨tn⟩⟩, .int .i64 nu, .int .i64 ep, .string ⟨⟨tx⟩⟩] 51) none
  have ew : w.heap.size ≠ q := by have := H.rq.lt; omega
  clear H c0 c1
  unfold zn5 at hy
  go_enter Go.Proofs.Try.func50, Go.Proofs.Try.ntmps50
  go_upto_region 1 with (fail)
  simp only [List.toArray] at xr
  obtain ⟨X, hX⟩ : ∃ X, X = w.alloc (Obj.cells #[.int .i64 kd, .string ⟨⟨tn⟩⟩, .int .i64 nu, .int .i64 ep, .string ⟨⟨tx⟩⟩] 51) := ⟨_, rfl⟩
  rw [<- hX] at x0 x1 xr xg ⊢
  clear hX
  obtain ⟨E, hE⟩ : ∃ E, E = w.heap.size := ⟨_, rfl⟩
  rw [<- hE] at xr ew ⊢
  have HE := Go.Lib.hid hE
  clear hE
  have e0 := xr.cell (i := 0) rfl
  have e1 := xr.cell (i := 1) rfl
  have e2 := xr.cell (i := 2) rfl
  have HXG := Go.Lib.hid xg
  have HXR := Go.Lib.hid xr
  clear xr xg
  by_cases g4 : kd = 4
  . subst g4
    rw [if_pos rfl] at hy
    go_wp2
    go_region_held3 (fun w' => World.cell? w' ⟨q, 1, none⟩ = some (.int .i64 ser) /\ World.cell? w' ⟨E, 2, none⟩ = some (.int .i64 nu)) (first | assumption | exact ⟨x1, e2⟩ | go_keep) (fail)
    rename_i hHd
    rcases Int.lt_or_le nu ser with g | g
    . rw [if_pos g] at hy
      cases hy
      have hd : decide (nu < ser) = true := decide_eq_true g
      go_wp2
      exact H1.out _ (by decide) (z4m (za HXG.out) (by simp))
    . rw [if_neg (Int.not_lt.2 g)] at hy
      cases hy
      have hd : decide (nu < ser) = false := decide_eq_false (Int.not_lt.2 g)
      have HD := (HH.out.grown (za HXG.out))
      have hqY := HD.rq
      have HDD := Go.Lib.hid HD
      have r1 := hqY.cell (i := 1) rfl
      have f1 := hqY.free (i := 1)
      have e2d : X.drew.cell? ⟨E, 2, none⟩ = some (.int .i64 nu) := e2
      clear HD hqY
      go_wp2
      have HS := HDD.out.serial nu
      exact H2.out _ (.slice (some ⟨b, 0, none⟩) n n) (z4m (zci (za HXG.out) _ _) (fun j hj => by cases hj; exact HDD.out.loq)) HS.rq (fun S hS => zx6 HS hS)
  rw [if_neg g4] at hy
  obtain ⟨at', hat, hy⟩ := Option.bind_eq_some_iff.1 hy
  have hdat : VR (hp X.drew) StT (l.map (·.1), (ser, ())) (.agg #[.slice (some ⟨b, 0, none⟩) n n, .int .i64 ser]) := zl1 (zx6 (HH.out.grown (za HXG.out)) (fun _ _ => rfl))
  have hcall := zyt N (W := X.drew) (S := hp X.drew) (fun _ _ h => h) hdat hat
  go_wp2
  go_region_held3 (fun w' => World.cell? w' ⟨q, 0, none⟩ = some (.slice (some ⟨b, 0, none⟩) n n) /\ World.cell? w' ⟨q, 1, none⟩ = some (.int .i64 ser) /\ World.cell? w' ⟨E, 1, none⟩ = some (.string ⟨⟨tn⟩⟩)) (first | assumption | exact ⟨x0, x1, e1⟩ | exact ⟨h3, h4, h5⟩ | go_keep) (first | (go_at_call 16; refine hcall.mono ?_; rintro _ wf ⟨rfl, gf⟩; have h3 := gf.cell (a := ⟨q, 0, none⟩) x0 (by simp); have h4 := gf.cell (a := ⟨q, 1, none⟩) x1 (by simp); have h5 := gf.cell (a := ⟨E, 1, none⟩) e1 (by simp)))
  rename_i hH5
  have HD := HH.out.grown ((za HXG.out).trans38 gf)
  have hER := HXR.out.drew.grown gf (by simp)
  have HGF := Go.Lib.hid ((za HXG.out).trans38 gf)
  have HST := Go.Lib.hid HD
  clear hH5 h3 h4 h5 hcall hdat x0 x1 e0 e1 e2 gf HD HXG HXR
  have e0 := hER.cell (i := 0) rfl
  have e1 := hER.cell (i := 1) rfl
  have e2 := hER.cell (i := 2) rfl
  have e3 := hER.cell (i := 3) rfl
  have e4 := hER.cell (i := 4) rfl
  have HER := Go.Lib.hid hER
  clear hER
  by_cases g1 : kd = 1
  . subst g1
    rw [if_pos rfl] at hy
    by_cases ga : 0 <= at'
    . rw [if_pos ga] at hy
      obtain ⟨k, hkk⟩ : ∃ k : Nat, at' = (k : Int) := ⟨at'.toNat, by omega⟩
      subst hkk
      rw [Int.toNat_natCast] at hy
      rcases Nat.lt_or_ge k l.length with hk | hk
      case inr =>
        have hno : (l.map (·.1))[k]? = none := List.getElem?_eq_none (by rw [List.length_map]; exact hk)
        rw [hno] at hy
        cases hy
      have hso : (l.map (·.1))[k]? = some l[k].1 := by rw [List.getElem?_map, List.getElem?_eq_getElem hk]; rfl
      rw [hso] at hy
      dsimp only at hy
      have hold := zsw (kd := 1) (nu := nu) (ep := ep) (tn := tn) (tx := tx) HST.out.rq HST.out.rb HST.out.len hk (by have := HST.out.n16; omega)
      unfold evV at hold
      by_cases gc : ep < l[k].1.2.1 \/ nu < l[k].1.2.2.1
      . rw [if_pos gc] at hy
        cases hy
        simp only [if_pos gc] at hold
        go_wp2_with (first | (go_at_call 55; refine hold.mono ?_; rintro _ w6 ⟨rfl, g6⟩; have G6 := Go.Lib.hid g6; clear g6 hold) | go_in)
        exact H1.out _ (by decide) (z4m (HGF.out.trans38 G6.out) (by simp))
      . rw [if_neg gc] at hy
        cases hy
        simp only [if_neg gc] at hold
        go_wp2_with (first | (go_at_call 55; refine hold.mono ?_; rintro _ w6 ⟨rfl, g6, q1⟩; have G6 := Go.Lib.hid (And.intro g6 q1); clear g6 q1 hold) | go_in)
        obtain ⟨g6, q1⟩ := G6.out
        have h1 := HGF.out
        refine H2.out _ (.slice (some ⟨b, 0, none⟩) n n) ⟨Nat.le_trans h1.size g6.size, fun j hj hn => (g6.block j (Nat.lt_of_lt_of_le hj h1.size) (fun e => hn (by cases e; exact HST.out.lob))).trans (h1.block j hj (by simp)), g6.tape.trans h1.tape, g6.os.trans h1.os, g6.output.trans h1.output⟩ (HST.out.rq.grown g6 (fun e => HST.out.qb (by simpa using e))) (fun S hS => ?_)
        exact zxv HST.out hk q1 (fun i hi => zhb HST.out hi (fun kb cs h2 _ _ h3 => h3.grown g6 (by simpa using h2))) hS
    . rw [if_neg ga] at hy
      have hnew := zsx (at' := at') (kd := 1) (nu := nu) (ep := ep) (tn := tn) (tx := tx) HST.out.rq HST.out.rb HST.out.qb HST.out.len (fun p hp => by
        obtain ⟨i, hi, rfl⟩ := List.getElem_of_mem hp
        obtain ⟨kb, e1, _⟩ := HST.out.keys i hi
        rw [e1]; rfl) (by have := HST.out.n16; omega) (by omega)
      unfold evV at hnew
      by_cases g16 : n = 16
      . rw [if_pos (by rw [List.length_map, HST.out.len]; exact g16)] at hy
        cases hy
        simp only [if_pos g16] at hnew
        go_wp2_with (first | (go_at_call 55; refine hnew.mono ?_; rintro _ w6 ⟨rfl, g6⟩; have G6 := Go.Lib.hid g6; clear g6 hnew) | go_in)
        exact H1.out _ (by decide) (z4m (HGF.out.trans38 G6.out) (by simp))
      . rw [if_neg (by rw [List.length_map, HST.out.len]; exact g16)] at hy
        cases hy
        simp only [if_neg g16] at hnew
        go_wp2_with (first | (go_at_call 55; refine hnew.mono ?_; rintro _ w6 ⟨rfl, g6, nb, cap, sp, q1, q2, q3, q4⟩; have G6 := Go.Lib.hid (And.intro g6 (And.intro q1 (And.intro q2 (And.intro q3 q4)))); clear g6 q1 q2 q3 q4 hnew) | go_in)
        obtain ⟨g6, q1, q2, q3, q4⟩ := G6.out
        have hi16 := HST.out.len
        refine H2.out _ (.slice (some ⟨nb, 0, none⟩) (n + 1) cap) ?_ q3 (fun S hS => ?_)
        . have h1 := HGF.out
          exact ⟨Nat.le_trans h1.size g6.size, fun j hj hn => (g6.block j (Nat.lt_of_lt_of_le hj h1.size) (fun e => hn (by cases e; exact HST.out.loq))).trans (h1.block j hj (by simp)), g6.tape.trans h1.tape, g6.os.trans h1.os, g6.output.trans h1.output⟩
        . obtain ⟨l', hl'⟩ : ∃ l', l' = l.take (z64 (l.map (·.1)) tn) ++ [(((tn, (ep, (nu, ([], ())))), .slice none 0 0) : TenT.den × Value)] ++ l.drop (z64 (l.map (·.1)) tn) := ⟨_, rfl⟩
          rw [<- hl'] at q4
          have hlen : l'.length = n + 1 := by
            rw [hl', <- hi16]
            simp only [List.length_append, List.length_singleton, List.length_take, List.length_drop]
            omega
          have hm : l'.map (·.1) = (l.map (·.1)).take (z64 (l.map (·.1)) tn) ++ [(tn, (ep, (nu, ([], ()))))] ++ (l.map (·.1)).drop (z64 (l.map (·.1)) tn) := by
            rw [hl', List.map_append, List.map_append, List.map_take, List.map_drop]
            rfl
          have hold : ∀ p ∈ l, zkn lo w6 p := fun p hp => zyf HST.out (fun kb cs _ h2 h3 => h3.grown g6 (by simpa using h2)) hp
          have hok : ∀ p ∈ l', zkn lo w6 p := by
            intro p hp
            rw [hl'] at hp
            rcases List.mem_append.1 hp with hp | hp
            . rcases List.mem_append.1 hp with hp | hp
              . exact hold p (List.mem_of_mem_take hp)
              . rw [List.mem_singleton.1 hp]
                exact .inl ⟨rfl, rfl⟩
            . exact hold p (List.mem_of_mem_drop hp)
          have hnb : lo <= nb := by have h1 := HST.out.loq; have h2 := HST.out.rq.lt; omega
          have := ze4 q4 hnb (by rw [hlen]; exact q1) hok hS
          rw [hm, hlen] at this
          exact this
  rw [if_neg g1] at hy
  by_cases ga : at' < 0
  . rw [if_pos ga] at hy
    cases hy
    go_wp2
    exact H1.out _ (by decide) (z4m HGF.out (by simp))
  rw [if_neg ga] at hy
  obtain ⟨k, hkk⟩ : ∃ k : Nat, at' = (k : Int) := ⟨at'.toNat, by omega⟩
  subst hkk
  rw [Int.toNat_natCast] at hy
  rcases Nat.lt_or_ge k l.length with hk | hk
  case inr =>
    have hno : (l.map (·.1))[k]? = none := List.getElem?_eq_none (by rw [List.length_map]; exact hk)
    rw [hno] at hy
    cases hy
  have hso : (l.map (·.1))[k]? = some l[k].1 := by rw [List.getElem?_map, List.getElem?_eq_getElem hk]; rfl
  rw [hso] at hy
  dsimp only at hy
  obtain ⟨y1, hy1, hy⟩ := Option.bind_eq_some_iff.1 hy
  cases hy
  obtain ⟨kb, hkv, hlk, hkb, hkq, hkr⟩ := HST.out.keys k hk
  have hlw : lo <= wf.heap.size := by have h1 := HST.out.loq; have h2 := HST.out.rq.lt; omega
  have hb0 : (0 : Int) <= (k : Int) := by omega
  have hb1 : (k : Int) < (n : Int) := by have := HST.out.len; omega
  have c0 := HST.out.rq.cell (i := 0) rfl
  by_cases g2 : kd = 2
  . rw [if_pos g2] at hy1
    subst g2
    have hcl := zu6 N (lo := lo) (kd := 2) (nu := nu) (ep := ep) (tn := tn) (tx := tx) HST.out.rb.drew hk hkv hkr.drew (HST.out.k8 k hk) hlw hkb hy1
    unfold evV at hcl
    have hEb : E ≠ b := by have h1 := HE.out; have h2 := HH.out.rb.lt; omega
    have hqE := HST.out.qb
    have hs0 : World.cell? wf ⟨q, 0, none⟩ = some (.slice (some ⟨b, 0, none⟩) n n) /\ World.cell? wf ⟨E, 0, none⟩ = some (.int .i64 2) /\ World.cell? wf ⟨E, 1, none⟩ = some (.string ⟨⟨tn⟩⟩) /\ World.cell? wf ⟨E, 2, none⟩ = some (.int .i64 nu) /\ World.cell? wf ⟨E, 3, none⟩ = some (.int .i64 ep) /\ World.cell? wf ⟨E, 4, none⟩ = some (.string ⟨⟨tx⟩⟩) := ⟨c0, e0, e1, e2, e3, e4⟩
    go_wp2
    go_region_held3 (fun w' => World.cell? w' ⟨q, 0, none⟩ = some (.slice (some ⟨b, 0, none⟩) n n) /\ World.cell? w' ⟨E, 0, none⟩ = some (.int .i64 2) /\ World.cell? w' ⟨E, 1, none⟩ = some (.string ⟨⟨tn⟩⟩) /\ World.cell? w' ⟨E, 2, none⟩ = some (.int .i64 nu) /\ World.cell? w' ⟨E, 3, none⟩ = some (.int .i64 ep) /\ World.cell? w' ⟨E, 4, none⟩ = some (.string ⟨⟨tx⟩⟩)) (first | assumption | exact hs0 | exact hs6 | go_keep) (first | (go_at_call 56; refine hcl.mono ?_; rintro _ w6 ⟨rfl, g6, q1⟩; have hs6 : World.cell? w6 ⟨q, 0, none⟩ = some (.slice (some ⟨b, 0, none⟩) n n) /\ World.cell? w6 ⟨E, 0, none⟩ = some (.int .i64 2) /\ World.cell? w6 ⟨E, 1, none⟩ = some (.string ⟨⟨tn⟩⟩) /\ World.cell? w6 ⟨E, 2, none⟩ = some (.int .i64 nu) /\ World.cell? w6 ⟨E, 3, none⟩ = some (.int .i64 ep) /\ World.cell? w6 ⟨E, 4, none⟩ = some (.string ⟨⟨tx⟩⟩) := ⟨g6.cell (a := ⟨q, 0, none⟩) c0 (by simpa using hqE), g6.cell (a := ⟨E, 0, none⟩) e0 (by simpa using hEb), g6.cell (a := ⟨E, 1, none⟩) e1 (by simpa using hEb), g6.cell (a := ⟨E, 2, none⟩) e2 (by simpa using hEb), g6.cell (a := ⟨E, 3, none⟩) e3 (by simpa using hEb), g6.cell (a := ⟨E, 4, none⟩) e4 (by simpa using hEb)⟩; have G6 := Go.Lib.hid (And.intro g6 q1); clear g6 q1))
    go_wp2
    obtain ⟨g6, q1⟩ := G6.out
    have h1 := (za HGF.out)
    have hwf : WF w (fun j => lo <= j) w6 := ⟨Nat.le_trans h1.size g6.size, fun j hj hn => (g6.block j (Nat.lt_of_lt_of_le hj h1.size) (fun e => hn (by cases e; exact HST.out.lob))).trans (h1.block j hj (by simp)), g6.tape.trans h1.tape, g6.os.trans h1.os, g6.output.trans h1.output⟩
    by_cases gz : y1.1 = 0
    . obtain ⟨v, r1, r2⟩ := q1 gz
      exact H2.out _ (.slice (some ⟨b, 0, none⟩) n n) hwf (HST.out.rq.drew.grown g6 (by simpa using fun e => HST.out.qb e)) (fun S hS => zv0 HST.out hk r1 r2 (fun i hi _ => zhb HST.out hi (fun kb cs h2 _ _ h3 => h3.drew.grown g6 (by simpa using h2))) hS)
    . exact H1.out _ gz hwf
  . rw [if_neg g2] at hy1
    have hcl := zsa N (lo := lo) (kd := kd) (nu := nu) (ep := ep) (tn := tn) (tx := tx) HST.out.rb.drew hk hkv hkr.drew (HST.out.k8 k hk) hlk hkb hy1
    unfold evV at hcl
    have hEb : E ≠ b := by have h1 := HE.out; have h2 := HH.out.rb.lt; omega
    have hEk : E ≠ kb := by
      have h1 := HE.out
      obtain ⟨k2, a1, _, _, _, r⟩ := HH.out.keys k hk
      have h2 := r.lt
      rw [hkv] at a1
      injection a1 with a1
      injection a1 with a1
      injection a1 with a1
      omega
    have hqE := HST.out.qb
    have hqk : q ≠ kb := fun e => hkq e.symm
    have hs0 : World.cell? wf ⟨q, 0, none⟩ = some (.slice (some ⟨b, 0, none⟩) n n) /\ World.cell? wf ⟨E, 0, none⟩ = some (.int .i64 kd) /\ World.cell? wf ⟨E, 1, none⟩ = some (.string ⟨⟨tn⟩⟩) /\ World.cell? wf ⟨E, 2, none⟩ = some (.int .i64 nu) /\ World.cell? wf ⟨E, 3, none⟩ = some (.int .i64 ep) /\ World.cell? wf ⟨E, 4, none⟩ = some (.string ⟨⟨tx⟩⟩) := ⟨c0, e0, e1, e2, e3, e4⟩
    have hlE := HER.out.lt
    have hlq := HST.out.rq.lt
    have hkeep : ∀ w6 : World, WF wf.drew (fun j => j = b \/ j = kb) w6 -> ∀ (a : Addr) (u : Value), a.block ≠ b -> a.block ≠ kb -> wf.cell? a = some u -> w6.cell? a = some u := fun w6 g a u n1 n2 hc => by
      have hlt : a.block < wf.heap.size := by
        cases hh : wf.heap[a.block]? with
        | none => simp [World.cell?, hh] at hc
        | some o => exact (Array.getElem?_eq_some_iff.1 hh).1
      have : w6.heap[a.block]? = wf.heap[a.block]? := g.same a.block hlt (by rintro (e | e); exact n1 e; exact n2 e)
      simp only [World.cell?] at hc ⊢
      rw [this]
      exact hc
    go_wp2
    go_region_held3 (fun w' => World.cell? w' ⟨q, 0, none⟩ = some (.slice (some ⟨b, 0, none⟩) n n) /\ World.cell? w' ⟨E, 0, none⟩ = some (.int .i64 kd) /\ World.cell? w' ⟨E, 1, none⟩ = some (.string ⟨⟨tn⟩⟩) /\ World.cell? w' ⟨E, 2, none⟩ = some (.int .i64 nu) /\ World.cell? w' ⟨E, 3, none⟩ = some (.int .i64 ep) /\ World.cell? w' ⟨E, 4, none⟩ = some (.string ⟨⟨tx⟩⟩)) (first | assumption | exact hs0 | exact hs6 | go_keep) (first | (go_at_call 57; refine hcl.mono ?_; rintro _ w6 ⟨rfl, g6, q1⟩; have hs6 : World.cell? w6 ⟨q, 0, none⟩ = some (.slice (some ⟨b, 0, none⟩) n n) /\ World.cell? w6 ⟨E, 0, none⟩ = some (.int .i64 kd) /\ World.cell? w6 ⟨E, 1, none⟩ = some (.string ⟨⟨tn⟩⟩) /\ World.cell? w6 ⟨E, 2, none⟩ = some (.int .i64 nu) /\ World.cell? w6 ⟨E, 3, none⟩ = some (.int .i64 ep) /\ World.cell? w6 ⟨E, 4, none⟩ = some (.string ⟨⟨tx⟩⟩) := ⟨hkeep w6 g6 _ _ hqE hqk c0, hkeep w6 g6 _ _ hEb hEk e0, hkeep w6 g6 _ _ hEb hEk e1, hkeep w6 g6 _ _ hEb hEk e2, hkeep w6 g6 _ _ hEb hEk e3, hkeep w6 g6 _ _ hEb hEk e4⟩; have G6 := Go.Lib.hid (And.intro g6 q1); clear g6 q1))
    go_wp2
    obtain ⟨g6, q1⟩ := G6.out
    have h1 := (za HGF.out)
    have hwf : WF w (fun j => lo <= j) w6 := ⟨Nat.le_trans h1.size g6.size, fun j hj hn => (g6.same j (Nat.lt_of_lt_of_le hj h1.size) (by
      rintro (e | e)
      . exact hn (by rw [e]; exact HST.out.lob)
      . exact hn (by rw [e]; exact hlk))).trans (h1.block j hj (by simp)), g6.tape.trans h1.tape, g6.os.trans h1.os, g6.output.trans h1.output⟩
    have hrow : ∀ j cs e, j ≠ b -> j ≠ kb -> RowAt wf j cs e -> RowAt w6 j cs e := fun j cs e n1 n2 r => by
      have : w6.heap[j]? = wf.heap[j]? := g6.same j r.lt (by rintro (e | e); exact n1 e; exact n2 e)
      unfold RowAt at *
      rw [this]
      exact r
    by_cases gz : y1.1 = 0
    . obtain ⟨v, r1, r2⟩ := q1 gz
      exact H2.out _ (.slice (some ⟨b, 0, none⟩) n n) hwf (hrow _ _ _ hqE hqk HST.out.rq) (fun S hS => zv0 HST.out hk r1 r2 (fun i hi hne => zhb HST.out hi (fun kb' cs h2 _ h4 h3 => hrow _ _ _ h2 (fun e => z134 HST.out hk hi (Ne.symm hne) hkv (by rw [<- e]; exact h4)) h3)) hS)
    . exact H1.out _ gz hwf

end
end Go.Proofs.YtlohplpnhopldaaLg
