import Derived.Test.YtaackaafmidjkaaDoorLgPrBb3
import Derived.Test.YtaackaafmidjkaaDoorLgPrBb4
import Derived.WalkKit
import Derived.Tactics
import Derived.Tactics2
import Derived.Defers
import Derived.Lib.Hide
import Derived.Below
import Derived.WalkSmall
import Derived.LoopN
import Derived.Deep.Cut
import Derived.KernelRfl
import Derived.Laws.Rows
import Derived.Test.YtaackaafmidjkaaDoorChecked
import Derived.Test.YtaackaafmidjkaaDoorLgPrBb1
set_option linter.all false
set_option maxRecDepth 100000
namespace Go.Proofs.YtaackaafmidjkaaDoorLg
noncomputable section
open Go Go.Lift

abbrev Tok31 : T := .pair .str (.pair (.sl (.pair .str (.pair .str .unit))) (.pair .str .unit))

abbrev Bun31 : T := .pair Tok31 (.pair (.sl Tok31) .unit)

theorem ztq {S : Hp} {t : Tok31.den} {v : Value} (h : VR S Tok31 t v) : ∃ p n c, v = .agg #[.string ⟨⟨t.1⟩⟩, .slice p n c, .string ⟨⟨t.2.2.1⟩⟩] := by
  have h' : ∃ cs, v = .agg cs /\ Rd S Tok31 t cs.toList := h
  obtain ⟨cs, rfl, c1, c2, hc, k1, c3, c4, hc', ⟨p, cap, k2, _⟩, c5, c6, hc'', k3, k4⟩ := h'
  have e1 : c1 = [.string ⟨⟨t.1⟩⟩] := k1
  have e3 : c5 = [.string ⟨⟨t.2.2.1⟩⟩] := k3
  have e4 : c6 = [] := k4
  refine ⟨p, t.2.1.length, cap, ?_⟩
  congr 1
  apply Array.toList_inj.1
  rw [hc, hc', hc'', e1, k2, e3, e4]
  rfl

theorem zyx {S : Hp} : ∀ (ts : List Tok31.den) (cs : List Value), All (Rd S Tok31) ts cs -> ∀ i, i < ts.length -> ∃ p n c, Rd S Tok31 (ts.getD i ([], ([], ([], ())))) [.string ⟨⟨(ts.getD i ([], ([], ([], ())))).1⟩⟩, .slice p n c, .string ⟨⟨(ts.getD i ([], ([], ([], ())))).2.2.1⟩⟩] ∧
    cs[i * 3]? = some (.string ⟨⟨(ts.getD i ([], ([], ([], ())))).1⟩⟩) /\ cs[i * 3 + 1]? = some (.slice p n c) /\ cs[i * 3 + 2]? = some (.string ⟨⟨(ts.getD i ([], ([], ([], ())))).2.2.1⟩⟩)
  | [], _, _, i, hi => by cases hi
  | t :: ts, cs, h, i, hi => by
    obtain ⟨c1, c2, rfl, h1, h2⟩ := h
    obtain ⟨p, n, c, e⟩ := ztq (S := S) (t := t) (v := .agg c1.toArray) ⟨_, rfl, by simpa using h1⟩
    have e' : c1 = [.string ⟨⟨t.1⟩⟩, .slice p n c, .string ⟨⟨t.2.2.1⟩⟩] := by
      have := congrArg Array.toList (Value.agg.inj e)
      simpa using this
    subst e'
    cases i with
    | zero => exact ⟨p, n, c, by simpa using h1, by simp, by simp, by simp⟩
    | succ i =>
      obtain ⟨p', n', c', g1, g2, g3, g4⟩ := zyx ts c2 h2 i (by simpa using hi)
      refine ⟨p', n', c', by simpa using g1, ?_, ?_, ?_⟩
      . rw [show (i + 1) * 3 = i * 3 + 1 + 1 + 1 by omega]; simpa using g2
      . rw [show (i + 1) * 3 + 1 = i * 3 + 1 + 1 + 1 + 1 by omega]; simpa using g3
      . rw [show (i + 1) * 3 + 2 = i * 3 + 2 + 1 + 1 + 1 by omega]; simpa using g4

theorem zzs {S : Hp} {ts : List Tok31.den} {v : Value} (h : VR S (.sl Tok31) ts v) : ∃ a cap, v = .slice a ts.length cap /\ (0 < ts.length -> ∃ b off, a = some ⟨b, off, none⟩ /\ ∀ i, i < ts.length -> ∃ p n c, VR S Tok31 (ts.getD i ([], ([], ([], ())))) (.agg #[.string ⟨⟨(ts.getD i ([], ([], ([], ())))).1⟩⟩, .slice p n c, .string ⟨⟨(ts.getD i ([], ([], ([], ())))).2.2.1⟩⟩]) ∧
    ∀ w : World, Lift.Sub S (hp w) -> w.cell? ⟨b, off + i * 3, none⟩ = some (.string ⟨⟨(ts.getD i ([], ([], ([], ())))).1⟩⟩) /\ w.cell? ⟨b, off + i * 3 + 1, none⟩ = some (.slice p n c) /\ w.cell? ⟨b, off + i * 3 + 2, none⟩ = some (.string ⟨⟨(ts.getD i ([], ([], ([], ())))).2.2.1⟩⟩)) := by
  have h' : Rd S (.sl Tok31) ts [v] := h
  obtain ⟨a, cap, e, hcap, h1⟩ := h'
  refine ⟨a, cap, by simpa using e, fun hn => ?_⟩
  rcases h1 with rfl | ⟨b, off, c1, rfl, hl, ha⟩
  . cases hn
  . refine ⟨b, off, rfl, fun i hi => ?_⟩
    obtain ⟨p, n, c, g1, g2, g3, g4⟩ := zyx ts c1 ha i hi
    refine ⟨p, n, c, ⟨_, rfl, by simpa using g1⟩, fun w hw => ?_⟩
    have at' : ∀ j u, c1[j]? = some u -> w.cell? ⟨b, off + j, none⟩ = some u := fun j u hu => by
      obtain ⟨all, E, fr, c0, c2, q1, q2, q3⟩ := hl
      have q4 := hw _ _ q1
      have hb : w.heap[b]? = some (.cells all E fr) := q4
      have : all[off + j]? = some u := by
        rw [<- Array.getElem?_toList, q2, List.getElem?_append_right (by omega), q3, show off + j - off = j by omega, List.getElem?_append_left (List.getElem?_eq_some_iff.1 hu).1]
        exact hu
      simp [World.cell?, hb, this]
    exact ⟨at' _ _ g2, by rw [Nat.add_assoc]; exact at' _ _ g3, by rw [Nat.add_assoc]; exact at' _ _ g4⟩

theorem z13l {S : Hp} {t : Tok31.den} {ts : List Tok31.den} {v : Value} (h : VR S Bun31 (t, (ts, ())) v) : ∃ p n c a cap, v = .agg #[.string ⟨⟨t.1⟩⟩, .slice p n c, .string ⟨⟨t.2.2.1⟩⟩, .slice a ts.length cap] /\ VR S Tok31 t (.agg #[.string ⟨⟨t.1⟩⟩, .slice p n c, .string ⟨⟨t.2.2.1⟩⟩]) /\ VR S (.sl Tok31) ts (.slice a ts.length cap) := by
  have h' : ∃ cs, v = .agg cs /\ Rd S Bun31 (t, (ts, ())) cs.toList := h
  obtain ⟨cs, rfl, c1, c2, hc, k1, c3, c4, hc', k2, k3⟩ := h'
  obtain ⟨p, n, c, e1⟩ := ztq (S := S) (t := t) (v := .agg c1.toArray) ⟨_, rfl, by simpa using k1⟩
  have e1' : c1 = [.string ⟨⟨t.1⟩⟩, .slice p n c, .string ⟨⟨t.2.2.1⟩⟩] := by
    have := congrArg Array.toList (Value.agg.inj e1)
    simpa using this
  subst e1'
  have k2' := k2
  obtain ⟨a, cap, e3, hcap, hcc⟩ := k2'
  have e4 : c4 = [] := k3
  refine ⟨p, n, c, a, cap, ?_, ⟨_, rfl, by simpa using k1⟩, ?_⟩
  . congr 1
    apply Array.toList_inj.1
    rw [hc, hc', e3, e4]
    rfl
  . show Rd S (.sl Tok31) ts [.slice a ts.length cap]
    exact ⟨a, cap, rfl, hcap, hcc⟩

theorem zmb {w w' : World} {S : Hp} {args : List A} {vals : List Value} {r : A} {outs : List A} {e : Ending} (h : Lift.Ends w S args vals (fun _ => []) r outs e w') :
    ∃ v o S', e = .returned v /\ ARel (hp w') S' (fun _ => undef) r v o /\ w.grownBy w' none := by
  obtain ⟨v, S', o, ob', rfl, hwf, hSS, hSw, hnew, ⟨hr, _⟩, _⟩ := h
  exact ⟨v, o, S', rfl, hr, hwf.os, hwf.tape, hwf.output, hwf.size, fun k hk _ => hwf.same k hk (by rintro ⟨i, hi⟩; cases hi)⟩

theorem zi2 {w : World} {S : Hp} {a : A} {v : Value} (h : ARel (hp w) S (fun _ => undef) a v []) (hr : a.refs = []) : ArgsRel (hp w) S [a] [v] (fun _ => []) := by
  refine ⟨rfl, fun i y hy => ?_, fun _ _ => rfl, (fun i j b hb => by cases hb), fun _ => .nil, (fun i b hb => by cases hb)⟩
  cases i with
  | zero => simp at hy; subst hy; exact ⟨⟨v, rfl, h⟩, hr⟩
  | succ i => simp at hy

theorem zx1 {w : World} {S : Hp} : ArgsRel (hp w) S [] [] (fun _ => []) := ⟨rfl, (fun i y hy => by simp at hy), fun _ _ => rfl, (fun i j b hb => by cases hb), fun _ => .nil, (fun i b hb => by cases hb)⟩

theorem z122 (w : World) : Lift.Sub z143 (hp w) := fun b o h => by cases h

theorem z11y (N : Nat) {w : World} {n : Int} {s : List UInt8} (hy : z7n N n = some s) :
    Calls Go.Proofs.Tryd.prog 20 #[.int .u64 n] w fun r w' => r = .returned (.string ⟨⟨s⟩⟩) /\ w.grownBy w' none := by
  refine ((zc5 N).2 w z143 _ _ _ (zi2 (a := .v (.int .u64) n) ⟨VR.int, rfl⟩ rfl) (z122 w) (z8r _) _ hy).mono ?_
  intro e w' he
  obtain ⟨v, o, S', rfl, hr, hc⟩ := zmb he
  exact ⟨by rw [VR.str_inv hr.1], hc⟩

theorem zz2 (N : Nat) {w : World} {t s : List UInt8} (hy : z48 N t = some s) :
    Calls Go.Proofs.Tryd.prog 52 #[.string ⟨⟨t⟩⟩] w fun r w' => r = .returned (.string ⟨⟨s⟩⟩) /\ w.grownBy w' none := by
  refine ((zl7 N).2 w z143 _ _ _ (zi2 (a := .v .str t) ⟨VR.str, rfl⟩ rfl) (z122 w) (z8r _) _ hy).mono ?_
  intro e w' he
  obtain ⟨v, o, S', rfl, hr, hc⟩ := zmb he
  exact ⟨by rw [VR.str_inv hr.1], hc⟩

theorem z10y {h S : Hp} {x : List UInt8} {c : Int} {v : Value} {o : List Nat} (hr : ARel h S (fun _ => undef) (.tup [⟨.str, x⟩, ⟨.int .i64, c⟩]) v o) : v = .tuple #[.string ⟨⟨x⟩⟩, .int .i64 c] := by
  obtain ⟨_, vs, rfl, ht⟩ := hr
  generalize hvs : vs.toList = l at ht
  cases ht with
  | cons h1 ht =>
  cases ht with
  | cons h2 ht =>
  cases ht
  congr 1
  apply Array.toList_inj.1
  rw [hvs, VR.str_inv h1, VR.int_inv h2]

theorem z10z (N : Nat) {w : World} {S : Hp} (hS : Lift.Sub S (hp w)) (hg : GlobOk glob S) {t : Tok31.den} {v : Value} (hv : VR S Tok31 t v) {x : List UInt8} {c : Int} (hy : zd9 N t = some (x, (c, ()))) :
    Calls Go.Proofs.Tryd.prog 51 #[v] w fun r w' => r = .returned (.tuple #[.string ⟨⟨x⟩⟩, .int .i64 c]) /\ w.grownBy w' none := by
  refine ((ztm N).2 w S _ _ _ (zi2 (a := .v Tok31 t) ⟨hv, rfl⟩ rfl) hS hg _ hy).mono ?_
  intro e w' he
  obtain ⟨v, o, S', rfl, hr, hc⟩ := zmb he
  exact ⟨by rw [z10y hr], hc⟩

theorem zaj {w w' : World} {S : Hp} {row : Option Nat} (hS : Lift.Sub S (hp w)) (h : w.grownBy w' row) (hr : ∀ k, row = some k -> S k = none) : Lift.Sub S (hp w') := by
  intro k o hk
  have h3 := hS k o hk
  have hlt : k < w.heap.size := (Array.getElem?_eq_some_iff.1 (show w.heap[k]? = some o from h3)).1
  have := h.block k hlt (fun e => by rw [hr k e.symm] at hk; cases hk)
  simp only [hp] at h3 ⊢
  rw [this]; exact h3

theorem z79 {w w1 w2 : World} {row : Option Nat} (h : w.grownBy w1 row) (g : w1.grownBy w2 none) : w.grownBy w2 row :=
  ⟨g.os.trans h.os, g.tape.trans h.tape, g.output.trans h.output, Nat.le_trans h.size g.size, fun k hk hne => (g.block k (Nat.lt_of_lt_of_le hk h.size) (by simp)).trans (h.block k hk hne)⟩

theorem z8a {w w1 w2 : World} {row : Option Nat} (h : w.grownBy w1 none) (g : w1.grownBy w2 row) : w.grownBy w2 row :=
  ⟨g.os.trans h.os, g.tape.trans h.tape, g.output.trans h.output, Nat.le_trans h.size g.size, fun k hk hne => (g.block k (Nat.lt_of_lt_of_le hk h.size) hne).trans (h.block k hk (by simp))⟩

theorem z6m {w w1 : World} {c : Nat} {row : Option Nat} (h : w.grownBy w1 row) (hr : row = none \/ row = some c) (cap : Nat) (buf : Array Value) (cl : Bool) (s r : Nat) (tm : Bool) : w.grownBy (w1.setChan c cap buf cl s r tm) (some c) := by
  refine ⟨h.os, h.tape, h.output, by rw [Conc.size_setChan]; exact h.size, fun k hk hne => ?_⟩
  have hk' : w1.heap[k]? = w.heap[k]? := h.block k hk (by
    rcases hr with rfl | rfl
    . simp
    . exact hne)
  have hne' : c ≠ k := fun e => hne (by rw [e])
  rw [<- hk']
  simp only [World.setChan]
  rw [Array.getElem?_setIfInBounds_ne hne']

theorem zju {w w1 w2 : World} {row : Option Nat} (h : w.grownBy w1 row) (g : w1.grownBy w2 row) : w.grownBy w2 row :=
  ⟨g.os.trans h.os, g.tape.trans h.tape, g.output.trans h.output, Nat.le_trans h.size g.size, fun k hk hne => (g.block k (Nat.lt_of_lt_of_le hk h.size) hne).trans (h.block k hk hne)⟩

def zht (N : Nat) (t : Tok31.den) : Option (Int × List UInt8) := (zd9 N t).bind fun q => if q.2.1 = 0 then (z48 N q.1).bind fun y => some (0, y) else some (q.2.1, [])

set_option maxHeartbeats 1000000 in
theorem zj6 (N : Nat) {w : World} {S : Hp} (hS : Lift.Sub S (hp w)) (hg : GlobOk glob S) {c cap s r : Nat} {buf : Array Value} {tm : Bool} (hc : w.heap[c]? = some (.chan cap buf false s r tm)) (hroom : buf.size < cap)
    {t : Tok31.den} {p : Option Addr} {n k : Nat} (hv : VR S Tok31 t (.agg #[.string ⟨⟨t.1⟩⟩, .slice p n k, .string ⟨⟨t.2.2.1⟩⟩])) {e : Int} {y : List UInt8} (hy : zht N t = some (e, y)) :
    Calls Go.Proofs.Tryd.prog 30 #[.chan (some c), .agg #[.string ⟨⟨t.1⟩⟩, .slice p n k, .string ⟨⟨t.2.2.1⟩⟩]] w fun q w' => q = .returned (.int .i64 e) /\ w.grownBy w' (some c) /\ (¬ e = 0 -> w'.heap[c]? = some (.chan cap buf false s r tm)) /\ (e = 0 -> w'.heap[c]? = some (.chan cap (buf.push (.string ⟨⟨y⟩⟩)) false (s + 1) r tm)) := by
  obtain ⟨⟨x, e0, ⟨⟩⟩, hx, hy⟩ := Option.bind_eq_some_iff.1 hy
  dsimp only at hy
  suffices HX : ∀ R : Ending -> World -> Prop, Go.RowKit.Hid (∀ w', w.grownBy w' (some c) -> (¬ e = 0 -> w'.heap[c]? = some (.chan cap buf false s r tm)) -> (e = 0 -> w'.heap[c]? = some (.chan cap (buf.push (.string ⟨⟨y⟩⟩)) false (s + 1) r tm)) -> R (.returned (.int .i64 e)) w') -> Calls Go.Proofs.Tryd.prog 30 #[.chan (some c), .agg #[.string ⟨⟨t.1⟩⟩, .slice p n k, .string ⟨⟨t.2.2.1⟩⟩]] w R from HX _ (Go.Lib.hid (fun w' a b d => ⟨rfl, a, b, d⟩))
  intro R HR
  have hcl : c < w.heap.size := (Array.getElem?_eq_some_iff.1 hc).1
  have HC := Go.Lib.hid hc
  have hga : ∀ (cs : Array Value) (E : Nat), w.grownBy (w.alloc (.cells cs E)) none := fun cs E => World.grownBy_alloc w _ none
  have HG := Go.Lib.hid hga
  have HT := fun (cs : Array Value) (E : Nat) => z10z N (w := w.alloc (.cells cs E)) (zaj hS (hga cs E) (by simp)) hg hv hx
  have HY := Go.Lib.hid hy
  have HRm := Go.Lib.hid hroom
  clear hy hc hv hx hS hga hroom
  go_enter Go.Proofs.Tryd.func30, Go.Proofs.Tryd.ntmps30
  go_upto_region 4 with (go_at_call 51; refine (HT _ _).mono ?_; rintro q w1 ⟨rfl, hw1⟩; have HW := Go.Lib.hid hw1; clear HT hw1)
  . rename_i hb
    have he := HY.out
    rw [if_neg (bne_iff_ne.1 hb)] at he
    cases he
    have hw2 := z79 (HG.out _ _) HW.out
    exact HR.out _ ⟨hw2.os, hw2.tape, hw2.output, hw2.size, fun k hk _ => hw2.block k hk (by simp)⟩ (fun _ => (hw2.block c hcl (by simp)).trans HC.out) (fun h => absurd h (bne_iff_ne.1 hb))
  . rename_i hb K5 hK5
    have he := HY.out
    have hz : e0 = 0 := by simpa using hb
    subst hz
    rw [if_pos rfl] at he
    obtain ⟨y', hy', he⟩ := Option.bind_eq_some_iff.1 he
    cases he
    have HF := Go.Lib.hid (zz2 N (w := w1) hy')
    clear hy' HY
    refine z9w 3 (by decide) rfl (fun K hK => ?_)
    simp only [List.take_succ_cons, List.take_zero]
    go_wp2_with (go_at_call 52; refine HF.out.mono ?_; rintro q w2 ⟨rfl, hw2⟩; have HW2 := Go.Lib.hid hw2; clear HF hw2)
    have g1 : w.grownBy w1 none := z79 (HG.out _ _) HW.out
    have g2 : w.grownBy w2 none := z79 g1 HW2.out
    have hc2 : w2.heap[c]? = some (.chan cap buf false s r tm) := (g2.block c hcl (by simp)).trans HC.out
    have hc3 := Conc.heap_setChan w2 c cap (buf.push (.string ⟨⟨y⟩⟩)) false (s + 1) r tm (Array.getElem?_eq_some_iff.1 hc2).1
    refine RegWp.send (c := c) (cap := cap) (s := s) (r := r) (buf := buf) (tm := tm) (v := .string ⟨⟨y⟩⟩) (rest := []) rfl rfl rfl rfl rfl hc2 HRm.out (RegWp.nil ?_)
    have g3 := z6m (c := c) g2 (.inl rfl) cap (buf.push (.string ⟨⟨y⟩⟩)) false (s + 1) r tm
    generalize w2.setChan c cap (buf.push (.string ⟨⟨y⟩⟩)) false (s + 1) r tm = w3 at g3 hc3 ⊢
    have G3 := Go.Lib.hid g3
    have H3 := Go.Lib.hid hc3
    clear g1 g2 g3 hc2 hc3
    refine hK5 _ _ ?_
    go_wp2
    exact HR.out _ G3.out (fun h => absurd trivial h) (fun _ => H3.out)

def zh3 (N : Nat) : List Tok31.den -> Option (Int × List (List UInt8))
  | [] => some (0, [])
  | t :: ts => (zht N t).bind fun q => if q.1 = 0 then (zh3 N ts).bind fun r => some (r.1, q.2 :: r.2) else some (q.1, [])

def zvt (N : Nat) (t : Tok31.den) (ts : List Tok31.den) : Option (Int × List (List UInt8)) :=
 (zht N t).bind fun q => if q.1 = 0 then (z7n N (ts.length : Int)).bind fun m => (zh3 N ts).bind fun r => some (r.1, q.2 :: m :: r.2) else some (q.1, [])

def ztz (s : List UInt8) : Value := .string ⟨⟨s⟩⟩

theorem zzn (N : Nat) {ts : List Tok31.den} {k : Nat} (hk : k < ts.length) {e : Int} {l : List (List UInt8)} (h : zh3 N (ts.drop k) = some (e, l)) :
    ∃ e1 y, zht N (ts.getD k ([], ([], ([], ())))) = some (e1, y) /\ (¬ e1 = 0 -> e = e1) /\ (e1 = 0 -> ∃ l', zh3 N (ts.drop (k + 1)) = some (e, l') /\ l = y :: l') := by
  rw [List.drop_eq_getElem_cons hk, zh3] at h
  obtain ⟨⟨e1, y⟩, h1, h2⟩ := Option.bind_eq_some_iff.1 h
  refine ⟨e1, y, by rw [List.getD_eq_getElem?_getD, List.getElem?_eq_getElem hk]; exact h1, fun hn => ?_, fun hz => ?_⟩
  . dsimp only at h2; rw [if_neg hn] at h2; cases h2; rfl
  . dsimp only at h2; rw [if_pos hz] at h2
    obtain ⟨⟨e2, l2⟩, h3, h4⟩ := Option.bind_eq_some_iff.1 h2
    cases h4
    exact ⟨l2, h3, rfl⟩

theorem zha {P : Program} {w : World} {ats : Array TypeId} {ty : TypeId} {cn : Array Bool} {c cap s r : Nat} {buf : Array Value} {tm : Bool} (h : w.heap[c]? = some (.chan cap buf false s r tm)) :
    (invoke (.builtin .close ats ty cn) #[.chan (some c)]).run P w = .ok (.value (.tuple #[])) (w.setChan c cap buf true s r tm) := by
  have := run_close_open (P := P) ats ty h
  simp only [invoke, builtin, Sem.run_bind, this, Result.andThen_ok, Sem.run_pure]
  rfl

set_option maxHeartbeats 2000000 in
theorem z11e (N : Nat) {w : World} {S : Hp} (hS : Lift.Sub S (hp w)) (hg : GlobOk glob S) {c : Nat} (hc : w.heap[c]? = some (.chan 10 #[] false 0 0 false)) (hSc : S c = none)
    {t : Tok31.den} {ts : List Tok31.den} {p a : Option Addr} {n k cap : Nat} (hv : VR S Tok31 t (.agg #[.string ⟨⟨t.1⟩⟩, .slice p n k, .string ⟨⟨t.2.2.1⟩⟩])) (hm : VR S (.sl Tok31) ts (.slice a ts.length cap)) (h8 : ts.length <= 8) {e : Int} {l : List (List UInt8)} (hy : zvt N t ts = some (e, l)) :
    Calls Go.Proofs.Tryd.prog 16 #[.chan (some c), .agg #[.string ⟨⟨t.1⟩⟩, .slice p n k, .string ⟨⟨t.2.2.1⟩⟩, .slice a ts.length cap]] w fun q w' => q = .returned (.int .i64 e) /\ w.grownBy w' (some c) /\ (e = 0 -> ∃ s', w'.heap[c]? = some (.chan 10 (l.map ztz).toArray true s' 0 false)) := by
  obtain ⟨⟨e0, y0⟩, hx, hy⟩ := Option.bind_eq_some_iff.1 hy
  dsimp only at hy
  suffices HX : ∀ R : Ending -> World -> Prop, Go.RowKit.Hid (∀ w', w.grownBy w' (some c) -> (e = 0 -> ∃ s', w'.heap[c]? = some (.chan 10 (l.map ztz).toArray true s' 0 false)) -> R (.returned (.int .i64 e)) w') -> Calls Go.Proofs.Tryd.prog 16 #[.chan (some c), .agg #[.string ⟨⟨t.1⟩⟩, .slice p n k, .string ⟨⟨t.2.2.1⟩⟩, .slice a ts.length cap]] w R from HX _ (Go.Lib.hid (fun w' a b => ⟨rfl, a, b⟩))
  intro R HR
  obtain ⟨a', cap', hsl, hel⟩ := zzs hm
  cases hsl
  have hcl : c < w.heap.size := (Array.getElem?_eq_some_iff.1 hc).1
  have HC := Go.Lib.hid hc
  have hga : ∀ (cs : Array Value) (E : Nat), w.grownBy (w.alloc (.cells cs E)) none := fun cs E => World.grownBy_alloc w _ none
  have HG := Go.Lib.hid hga
  have HS := Go.Lib.hid hS
  have HGl := Go.Lib.hid hg
  have HSc := Go.Lib.hid hSc
  have HE := Go.Lib.hid hel
  have HT := Go.Lib.hid (fun (cs : Array Value) (E : Nat) => zj6 N (w := w.alloc (.cells cs E)) (zaj hS (hga cs E) (by simp)) hg (((hga cs E).block c hcl (by simp)).trans hc) (by decide) hv hx)
  have HY := Go.Lib.hid hy
  obtain ⟨m, hmm⟩ : ∃ m, m = ts.length := ⟨_, rfl⟩
  have HM := Go.Lib.hid hmm
  rw [<- hmm] at h8 ⊢
  clear hy hc hv hx hS hga hm hel hg hSc hmm
  refine zk4 Go.Proofs.Tryd.func16 rfl ?_
  simp only [Go.Proofs.Tryd.ntmps16, List.size_toArray, List.length_cons, List.length_nil, Nat.reduceAdd, Nat.reduceSub, Array.replicate_succ, Array.replicate_zero, List.push_toArray, List.append_toArray, List.nil_append, List.cons_append]
  go_upto_region 5 with (go_at_call 30; refine (HT.out _ _).mono ?_; rintro q w1 ⟨rfl, hw1, hw1a, hw1b⟩; have HW := Go.Lib.hid hw1; have HWa := Go.Lib.hid hw1a; have HWb := Go.Lib.hid hw1b; clear HT hw1 hw1a hw1b)
  . rename_i hb
    have hne : ¬ e0 = 0 := bne_iff_ne.1 hb
    have he := HY.out
    rw [if_neg hne] at he
    cases he
    have hc1 := HWa.out hne
    refine ⟨_, _, _, _, rfl, ⟨_, _, _, _, rfl⟩, zha hc1, ?_, HR.out _ (z6m (z8a (HG.out _ _) HW.out) (.inr rfl) ..) (fun h => absurd h hne)⟩
    simp [results, Go.Proofs.Tryd.results16, go_sem]
  . rename_i hb K5 hK5
    have hz : e0 = 0 := by simpa using hb
    subst hz
    have he := HY.out
    rw [if_pos rfl] at he
    obtain ⟨y1, hy1, he⟩ := Option.bind_eq_some_iff.1 he
    obtain ⟨⟨e2, l2⟩, hp, he⟩ := Option.bind_eq_some_iff.1 he
    cases he
    rw [<- HM.out] at hy1
    have HF := Go.Lib.hid (z11y N (w := w1) hy1)
    have hcell := HW.out.cell (a := ⟨w.heap.size, 3, none⟩) (v := .slice a m cap) (by rw [World.cell?_alloc_at _ _ _ _ rfl]; rfl) (by simp; omega)
    have HP := Go.Lib.hid hp
    have hc1 := HWb.out rfl
    have HC1 := Go.Lib.hid hc1
    clear HY hp hc1 HWa HWb hy1 
    refine z9w 6 (by decide) rfl (fun K hK => ?_)
    simp only [List.take_succ_cons, List.take_zero]
    go_wp2_with (go_at_call 20; refine HF.out.mono ?_; rintro q w2 ⟨rfl, hw2⟩; have HW2 := Go.Lib.hid hw2; clear HF hw2)
    have hc2 : w2.heap[c]? = some (.chan 10 (#[].push (.string ⟨⟨y0⟩⟩)) false (0 + 1) 0 false) := (HW2.out.block c (Array.getElem?_eq_some_iff.1 HC1.out).1 (by simp)).trans HC1.out
    have g2 : w.grownBy w2 (some c) := z79 (z8a (HG.out _ _) HW.out) HW2.out
    have hcell2 := HW2.out.cell hcell (by simp)
    have hc3 := Conc.heap_setChan w2 c 10 ((#[].push (.string ⟨⟨y0⟩⟩)).push (.string ⟨⟨y1⟩⟩)) false (0 + 1 + 1) 0 false (Array.getElem?_eq_some_iff.1 hc2).1
    refine RegWp.send (c := c) (cap := 10) (s := 0 + 1) (r := 0) (buf := #[].push (.string ⟨⟨y0⟩⟩)) (tm := false) (v := .string ⟨⟨y1⟩⟩) (rest := []) rfl rfl rfl rfl rfl hc2 (by simp) (RegWp.nil ?_)
    have g3 := z6m (c := c) g2 (.inr rfl) 10 ((#[].push (.string ⟨⟨y0⟩⟩)).push (.string ⟨⟨y1⟩⟩)) false (0 + 1 + 1) 0 false
    have hcell3 : (w2.setChan c 10 ((#[].push (.string ⟨⟨y0⟩⟩)).push (.string ⟨⟨y1⟩⟩)) false (0 + 1 + 1) 0 false).cell? ⟨w.heap.size, 3, none⟩ = some (.slice a m cap) := by
      rw [<- hcell2]
      apply World.cell?_of_block
      simp only [World.setChan]
      rw [Array.getElem?_setIfInBounds_ne (by omega)]
    generalize w2.setChan c 10 ((#[].push (.string ⟨⟨y0⟩⟩)).push (.string ⟨⟨y1⟩⟩)) false (0 + 1 + 1) 0 false = w3 at g3 hc3 hcell3 ⊢
    have G3 := Go.Lib.hid g3
    have H3 := Go.Lib.hid hc3
    clear g2 g3 hc2 hc3 hcell hcell2
    refine hK5 _ _ ?_
    go_wp2
    go_loopw [26] (fun i wr => ∃ j : Nat, i = .int .i64 (j : Int) /\ j <= m /\ w.grownBy wr (some c) /\ ∃ (buf : Array Value) (s : Nat), wr.heap[c]? = some (.chan 10 buf false s 0 false) /\ buf.size = 2 + j /\ ∃ l', zh3 N (ts.drop j) = some (e2, l') /\ (e2 = 0 -> buf.toList ++ l'.map ztz = (y0 :: y1 :: l2).map ztz)) (fun i _ => m - (Go.RowKit.intOf i).toNat)
    case atStart => exact ⟨0, rfl, Nat.zero_le _, G3.out, _, _, H3.out, rfl, l2, HP.out, fun _ => rfl⟩
    case round =>
      obtain ⟨j, rfl, hj, hgr, buf, s, hch, hbs, l', hpj, htot⟩ := hrel
      have HGR := Go.Lib.hid hgr
      have HCH := Go.Lib.hid hch
      have HBS := Go.Lib.hid hbs
      have HTOT := Go.Lib.hid htot
      have HPJ := Go.Lib.hid hpj
      have HJ := Go.Lib.hid hj
      clear hch hbs htot hpj
      have hclr : c < wr.heap.size := Nat.lt_of_lt_of_le hcl hgr.size
      rcases Nat.lt_or_ge j m with hlt | hge
      . have hd : decide ((j : Int) < (m : Int)) = true := decide_eq_true (by omega)
        have hb1 : (0 : Int) <= (j : Int) := by omega
        have hb2 : (j : Int) < (m : Int) := by omega
        have hjl : j < ts.length := by have := HM.out; omega
        obtain ⟨b, off, hab, hall⟩ := HE.out (by omega)
        subst hab
        obtain ⟨p', n', c', hv', hcc⟩ := hall j hjl
        have hSr := zaj HS.out hgr (fun q e => by cases e; exact HSc.out)
        obtain ⟨z1, z2, z3⟩ := hcc wr hSr
        obtain ⟨e1, y, htk, hne, hze⟩ := zzn N hjl HPJ.out
        generalize ts.getD j ([], ([], ([], ()))) = tj at hv' z1 z2 z3 htk
        have HTj := Go.Lib.hid (fun (cs : Array Value) (E : Nat) => zj6 N (w := wr.alloc (.cells cs E)) (zaj hSr (World.grownBy_alloc wr _ none) (by simp)) HGl.out (((World.grownBy_alloc wr (.cells cs E) none).block c hclr (by simp)).trans HCH.out) (by have := HBS.out; omega) hv' htk)
        have HNE := Go.Lib.hid hne
        have HZE := Go.Lib.hid hze
        have HGA := Go.Lib.hid (fun (cs : Array Value) (E : Nat) => World.grownBy_alloc wr (.cells cs E) none)
        have hj8 : (j : Int) + 1 <= 9 := by omega
        clear hne hze htk hv' hall hcc hSr hgr hjl hclr
        go_wp2_with (go_at_call 30; refine (HTj.out _ _).mono ?_; rintro q w5 ⟨rfl, hw5, hw5a, hw5b⟩; have HW5 := Go.Lib.hid hw5; have HWa5 := Go.Lib.hid hw5a; have HWb5 := Go.Lib.hid hw5b; clear HTj hw5 hw5a hw5b)
        . rename_i hb
          have hn1 : ¬ e1 = 0 := bne_iff_ne.1 hb
          have he := HNE.out hn1
          subst he
          have hc5 := HWa5.out hn1
          refine ⟨_, _, _, _, rfl, ⟨_, _, _, _, rfl⟩, zha hc5, ?_, HR.out _ (z6m (zju HGR.out (z8a (HGA.out _ _) HW5.out)) (.inr rfl) ..) (fun h => absurd h hn1)⟩
          simp [results, Go.Proofs.Tryd.results16, go_sem]
        . rename_i hb
          have hz : e1 = 0 := by simpa using hb
          obtain ⟨l'', hp1, hl1⟩ := HZE.out hz
          have hc5 := HWb5.out hz
          refine ⟨⟨j + 1, by rw [Int.natCast_add]; rfl, by omega, zju HGR.out (z8a (HGA.out _ _) HW5.out), _, _, hc5, by have := HBS.out; simp; omega, l'', hp1, fun h => ?_⟩, ?_⟩
          . have := HTOT.out h
            rw [<- this, hl1]
            simp [ztz]
          . show m - ((j : Int) + 1).toNat < m - (j : Int).toNat
            omega
      . have hjm : j = m := by omega
        subst hjm
        have hd : decide ((j : Int) < (j : Int)) = false := decide_eq_false (by omega)
        have hpj := HPJ.out
        rw [List.drop_of_length_le (by have := HM.out; omega)] at hpj
        cases hpj
        go_wp2
        refine ⟨_, _, _, _, rfl, ⟨_, _, _, _, rfl⟩, zha HCH.out, ?_, HR.out _ (z6m HGR.out (.inr rfl) ..) (fun _ => ⟨s, ?_⟩)⟩
        . simp [results, Go.Proofs.Tryd.results16, go_sem]
        . have hb : buf = ((y0 :: y1 :: l2).map ztz).toArray := by
            have := HTOT.out trivial
            apply Array.toList_inj.1
            simpa using this
          rw [<- hb]
          exact Conc.heap_setChan _ _ _ _ _ _ _ _ hclr

abbrev BlT : T := .pair (.self 68) (.pair (.own (.byt 5)) .unit)

def JSt (w0 w : World) (c B : Nat) (xs : List UInt8) : Prop :=
 ∃ S o, w0.grownBy w (some c) /\ Lift.Sub S (hp w) /\ (∀ k, S k ≠ none -> w0.heap.size <= k) /\ ARel (hp w) S (fun _ => undef) (.box BlT ((), (ofStr xs, ()))) (.pointer (some ⟨B, 0, none⟩)) o /\ o.Nodup /\ (∀ k ∈ o, S k = none /\ w0.heap.size <= k)

theorem z10i {h h' S : Hp} {t : T} {x : t.den} {v : Value} {o : List Nat} (hr : ARel h S (fun _ => undef) (.box t x) v o) (hs : ∀ k ∈ o, h' k = h k) : ARel h' S (fun _ => undef) (.box t x) v o := by
  obtain ⟨b, cs, E, fr, bs, rfl, rfl, hb, hf, hR⟩ := hr
  exact ⟨b, cs, E, fr, bs, rfl, rfl, by rw [hs b (by simp)]; exact hb, hf, hR.mono (Lift.Sub.refl S) _ _ _ _ (fun k hk => hs k (by simp [hk]))⟩

theorem JSt.chan {w0 w : World} {c B : Nat} {xs : List UInt8} (h : JSt w0 w c B xs) (hc : c < w0.heap.size) (cap : Nat) (buf : Array Value) (cl : Bool) (s r : Nat) (tm : Bool) : JSt w0 (w.setChan c cap buf cl s r tm) c B xs := by
  obtain ⟨S, o, h1, h2, h3, h4, h5, h6⟩ := h
  have hne : ∀ k, k ≠ c -> hp (w.setChan c cap buf cl s r tm) k = hp w k := fun k hk => by
    simp only [hp, World.setChan]
    rw [Array.getElem?_setIfInBounds_ne (Ne.symm hk)]
  refine ⟨S, o, z6m h1 (.inr rfl) .., fun k q hk => ?_, h3, z10i h4 (fun k hk => hne k (by have := (h6 k hk).2; omega)), h5, h6⟩
  rw [hne k (by have := h3 k (by rw [hk]; simp); omega)]
  exact h2 k q hk

theorem zpa (s : List UInt8) : (ofStr s).length = s.length := by simp [ofStr]

theorem z11w (a b : List UInt8) : ofStr (a ++ b) = ofStr a ++ ofStr b := by simp [ofStr]

theorem z10q (N : Nat) {w0 w : World} {c B : Nat} {xs s : List UInt8} (h : JSt w0 w c B xs) (hc : c < w0.heap.size) (hl : xs.length + s.length <= 70368744177664) :
    Calls Go.Proofs.Tryd.prog 31 #[.pointer (some ⟨B, 0, none⟩), .string ⟨⟨s⟩⟩] w fun q w' => (∃ v, q = .returned v) /\ JSt w0 w' c B (xs ++ s) /\ w'.heap[c]? = w.heap[c]? := by
  obtain ⟨S, o, h1, h2, h3, h4, h5, h6⟩ := h
  have hy : z9 N ((), (ofStr xs, ())) s = some (((((s.length : Nat) : Int)), (Go.Value.nilIface, ())), (((), (ofStr (xs ++ s), ())), ())) := by
    unfold z9
    rw [decide_eq_true (by rw [zpa, zpa]; simpa using hl), z11w]
    rfl
  have har := zyw h4 h5 (fun k hk => (h6 k hk).1) (zi2 (w := w) (a := .v .str s) (v := .string ⟨⟨s⟩⟩) ⟨VR.str, rfl⟩ rfl)
  refine ((z3k N).2 w S _ _ _ har h2 (z8r S) _ hy).mono ?_
  rintro e w' ⟨v, S', q, ob', rfl, hwf, hSS, hSw, hnew, ⟨hr, _⟩, hq, _, hbox, hob1, hob2, hob3, _⟩
  have hin : ∀ k, (∃ i, k ∈ (fun i => if i = 0 then o else []) i) -> k ∈ o := by
    rintro k ⟨i, hi⟩
    by_cases hi0 : i = 0
    . simpa [hi0] using hi
    . simp [hi0] at hi
  have hlo : ∀ k, k < w0.heap.size -> ¬ k ∈ o := fun k hk hm => by have := (h6 k hm).2; omega
  have hsz := h1.size
  have hcw : w'.heap[c]? = w.heap[c]? := hwf.same c (by omega) (fun hh => hlo c hc (hin c hh))
  obtain ⟨x2, v2, g1, g2, _, g4⟩ := hbox 0 _ rfl rfl
  have g1' : some (A.box BlT ((), (ofStr (xs ++ s), ()))) = some x2 := g1
  cases g1'
  simp at g2
  subst g2
  refine ⟨⟨v, rfl⟩, ⟨S', ob' 0, ⟨hwf.os.trans h1.os, hwf.tape.trans h1.tape, hwf.output.trans h1.output, Nat.le_trans hsz hwf.size, fun k hk hne => ?_⟩, hSw, fun k hk => ?_, g4, hob3 0, fun k hk => ⟨(hob1 0 k hk).2.1, ?_⟩⟩, hcw⟩
  . rw [hwf.same k (by omega) (fun hh => hlo k hk (hin k hh))]
    exact h1.block k hk hne
  . rcases hnew k hk with h | h | h
    . exact h3 k h
    . exact (h6 k (hin k h)).2
    . omega
  . rcases (hob1 0 k hk).1 with h | h
    . exact (h6 k (hin k h)).2
    . omega

theorem zzp (s : List UInt8) : zm3 (ofStr s) = true := by
  unfold zm3 ofStr
  rw [List.all_eq_true]
  intro n hn
  obtain ⟨b, _, rfl⟩ := List.mem_map.1 hn
  have := b.toNat_lt
  simp; omega

theorem zz1 (s : List UInt8) : toStr (ofStr s) = s := by
  unfold toStr ofStr
  rw [List.map_map]
  conv => rhs; rw [<- List.map_id s]
  apply List.map_congr_left
  intro b _
  simp

theorem zz5 (N : Nat) {w0 w : World} {c B : Nat} {xs : List UInt8} (h : JSt w0 w c B xs) (hl : xs.length <= 70368744177664) :
    Calls Go.Proofs.Tryd.prog 32 #[.pointer (some ⟨B, 0, none⟩)] w fun q w' => q = .returned (.string ⟨⟨xs⟩⟩) /\ w0.grownBy w' (some c) := by
  obtain ⟨S, o, h1, h2, h3, h4, h5, h6⟩ := h
  have hy : zvr (((), (ofStr xs, ())), ()) = some (xs, (((), ((), ())), ())) := by
    unfold zvr
    dsimp only
    rw [zzp, decide_eq_true (by rw [zpa]; omega), zz1]
    rfl
  have har := zyw h4 h5 (fun k hk => (h6 k hk).1) (zx1 (w := w) (S := S))
  refine ((z166 zi).2 w S _ _ _ har h2 (z8r S) _ hy).mono ?_
  rintro e w' ⟨v, S', q, ob', rfl, hwf, hSS, hSw, hnew, ⟨hr, _⟩, _⟩
  have hin : ∀ k, (∃ i, k ∈ (fun i => if i = 0 then o else []) i) -> k ∈ o := by
    rintro k ⟨i, hi⟩
    by_cases hi0 : i = 0
    . simpa [hi0] using hi
    . simp [hi0] at hi
  have hv : VR S' .str xs v := hr.1
  have hsz := h1.size
  exact ⟨by rw [VR.str_inv hv], hwf.os.trans h1.os, hwf.tape.trans h1.tape, hwf.output.trans h1.output, Nat.le_trans hsz hwf.size, fun k hk hne => (hwf.same k (by omega) (fun hh => by have := (h6 k (hin k hh)).2; omega)).trans (h1.block k hk hne)⟩

def zpu (w : World) (c : Nat) : Nat := match w.heap[c]? with | some (.chan _ buf _ _ _ _) => buf.size | _ => 0

theorem JSt.start (w : World) (c : Nat) : JSt w (w.alloc (.cells #[.pointer none, .slice none 0 0] 68)) c w.heap.size [] := by
  refine ⟨z143, [w.heap.size], ?_, z122 _, fun k hk => absurd rfl hk, ?_, by simp, fun k hk => ⟨rfl, by simp at hk; omega⟩⟩
  . exact World.grownBy_alloc w _ _
  . refine ⟨w.heap.size, #[.pointer none, .slice none 0 0], 68, (0, 0), [], rfl, rfl, ?_, ?_, ?_⟩
    . exact heap_alloc_new w _
    . exact ⟨Nat.le_refl _, fun i _ h => by omega⟩
    . exact ⟨[.pointer none], [.slice none 0 0], [], [], rfl, rfl, ⟨rfl, _, rfl, rfl, .inl rfl⟩, [.slice none 0 0], [], [], [], rfl, rfl, ⟨_, rfl, .inl ⟨rfl, ⟨none, rfl, fun _ _ => rfl⟩, rfl⟩⟩, rfl, rfl⟩

set_option maxHeartbeats 2000000 in
theorem z12k (N : Nat) {w : World} {c s r : Nat} {l : List (List UInt8)} (hc : w.heap[c]? = some (.chan 10 (l.map ztz).toArray true s r false)) (hlen : l.flatten.length <= 70368744177664) :
    Calls Go.Proofs.Tryd.prog 17 #[.chan (some c)] w fun q w' => q = .returned (.string ⟨⟨l.flatten⟩⟩) /\ w.grownBy w' (some c) := by
  suffices HX : ∀ R : Ending -> World -> Prop, Go.RowKit.Hid (∀ w', w.grownBy w' (some c) -> R (.returned (.string ⟨⟨l.flatten⟩⟩)) w') -> Calls Go.Proofs.Tryd.prog 17 #[.chan (some c)] w R from HX _ (Go.Lib.hid (fun w' a => ⟨rfl, a⟩))
  intro R HR
  have hcl : c < w.heap.size := (Array.getElem?_eq_some_iff.1 hc).1
  have HJ := Go.Lib.hid (JSt.start w c)
  have HC := Go.Lib.hid (((World.grownBy_alloc w (.cells #[.pointer none, .slice none 0 0] 68) none).block c hcl (by simp)).trans hc)
  have HCL := Go.Lib.hid hcl
  clear hc hcl
  go_enter Go.Proofs.Tryd.func17, Go.Proofs.Tryd.ntmps17
  go_wp2
  go_loopw [] (fun wr => ∃ l1 l2 : List (List UInt8), l = l1 ++ l2 /\ JSt w wr c w.heap.size l1.flatten /\ ∃ s r, wr.heap[c]? = some (.chan 10 (l2.map ztz).toArray true s r false)) (fun wr => zpu wr c)
  case atStart => exact ⟨[], l, rfl, HJ.out, s, r, HC.out⟩
  case round =>
    obtain ⟨l1, l2, hl, hj, s1, r1, hch⟩ := hrel
    have HJr := Go.Lib.hid hj
    have HCr := Go.Lib.hid hch
    have HL := Go.Lib.hid hl
    clear hj hch hl
    go_upto_region 3 with (fail)
    rename_i K3 hK3
    cases l2 with
    | nil =>
      refine z9w 0 (by decide) rfl (fun K hK => wpList_nil (hK _ _ ?_))
      refine RegWp.recv_shut (c := c) (cap := 10) (s := s1) (r := r1) (tm := false) (z := .string ⟨#[]⟩) (rest := [1]) rfl rfl (by simp [go_sem, Conc.rcase]) HCr.out ?_
      refine RegWp.behind 1 (by decide) rfl (fun K hK => ?_)
      simp only [List.drop_succ_cons, List.drop_zero]
      have hll : l = l1 := by rw [HL.out, List.append_nil]
      have HT := Go.Lib.hid (zz5 N (xs := l.flatten) (by rw [hll]; exact HJr.out) hlen)
      clear hll
      go_wp2_with (go_at_call 32; refine HT.out.mono ?_; rintro q w5 ⟨rfl, hw5⟩; have HW5 := Go.Lib.hid hw5; clear HT hw5)
      exact HR.out _ HW5.out
    | cons x l2 =>
      have hcs := Conc.heap_setChan wr c 10 ((x :: l2).map ztz).toArray true s1 (r1 + 1) false (Array.getElem?_eq_some_iff.1 HCr.out).1
      refine z9w 0 (by decide) rfl (fun K hK => wpList_nil (hK _ _ ?_))
      refine RegWp.recv_buf (c := c) (cap := 10) (s := s1) (r := r1) (tm := false) (closed := true) (z := .string ⟨#[]⟩) (rest := [1]) rfl rfl (by simp [go_sem, Conc.rcase]) HCr.out (by simp) ?_
      refine RegWp.behind 1 (by decide) rfl (fun K hK => ?_)
      simp only [List.drop_succ_cons, List.drop_zero]
      have e0 : (List.map ztz (x :: l2)).toArray.getD 0 undef = .string ⟨⟨x⟩⟩ := rfl
      have e1 : (List.map ztz (x :: l2)).toArray.extract 1 (List.map ztz (x :: l2)).toArray.size = (l2.map ztz).toArray := by simp [List.take_of_length_le]
      rw [e0, e1]
      have hcw := Conc.heap_setChan wr c 10 (l2.map ztz).toArray true s1 (r1 + 1) false (Array.getElem?_eq_some_iff.1 HCr.out).1
      have hjw := HJr.out.chan HCL.out 10 (l2.map ztz).toArray true s1 (r1 + 1) false
      have hb : l1.flatten.length + x.length <= 70368744177664 := by
        have := HL.out
        rw [this] at hlen
        simp at hlen ⊢
        omega
      have hlt : zpu (wr.setChan c 10 (l2.map ztz).toArray true s1 (r1 + 1) false) c < zpu wr c := by
        unfold zpu
        rw [hcw, HCr.out]
        simp
      generalize wr.setChan c 10 (l2.map ztz).toArray true s1 (r1 + 1) false = w4 at hcw hjw hlt ⊢
      have HT := Go.Lib.hid (z10q N hjw HCL.out hb)
      have HC4 := Go.Lib.hid hcw
      have HLT := Go.Lib.hid hlt
      clear hcw hjw hlt hb e0 e1 hcs
      go_wp2_with (go_at_call 31; refine HT.out.mono ?_; rintro q w5 ⟨⟨v5, rfl⟩, hw5, hw5c⟩; have HW5 := Go.Lib.hid hw5; have HW5c := Go.Lib.hid hw5c; clear HT hw5 hw5c)
      refine ⟨⟨l1 ++ [x], l2, by rw [HL.out]; simp, by rw [show (l1 ++ [x]).flatten = l1.flatten ++ x by simp]; exact HW5.out, s1, r1 + 1, HW5c.out.trans HC4.out⟩, ?_⟩
      have := HLT.out
      unfold zpu at this ⊢
      rw [HW5c.out]
      exact this

def z49 (N : Nat) (b : Bun31.den) : Option (List UInt8 × (Int × Unit)) :=
 if 8 < b.2.1.length then some ([], (3, ())) else (zvt N b.1 b.2.1).bind fun q => if q.1 = 0 then (if q.2.flatten.length <= 70368744177664 then (if 65536 < q.2.flatten.length then some ([], (3, ())) else some (q.2.flatten, (0, ()))) else none) else some ([], (q.1, ()))

def zd0 (N : Nat) : List A -> Res := z1t [(0, .v Bun31)] (fun x => z49 N x.1) (zev (.tup [.str, .int .i64]) 1)

theorem zvc : ∃ i, Go.Proofs.Tryd.prog.info? 9 = some i /\ i.bytes = 16 := by
  have h : (Go.Proofs.Tryd.prog.info? 9).map (·.bytes) = some 16 := by kernel_rfl
  obtain ⟨i, hi, hb⟩ := Option.map_eq_some_iff.1 h
  exact ⟨i, hi, hb⟩

theorem z127 (w : World) : (Instr.makeChan 40 (.int .i64 10)).run Go.Proofs.Tryd.prog w = .ok (.chan (some w.heap.size)) (w.alloc (.chan 10 #[] false 0 0 false)) := by
  obtain ⟨i, hi, hb⟩ := zvc
  simpa using Conc.run_makeChan (P := Go.Proofs.Tryd.prog) (w := w) Go.Proofs.Tryd.underlying40 hi .i64 10 (by omega) (by rw [hb]; omega)

set_option maxHeartbeats 2000000 in
theorem zzj (N : Nat) {w : World} {S : Hp} (hS : Lift.Sub S (hp w)) (hg : GlobOk glob S) {t : Tok31.den} {ts : List Tok31.den} {v : Value} (hv : VR S Bun31 (t, (ts, ())) v) {x : List UInt8} {e : Int} (hy : z49 N (t, (ts, ())) = some (x, (e, ()))) :
    Calls Go.Proofs.Tryd.prog 8 #[v] w fun q w' => q = .returned (.tuple #[.string ⟨⟨x⟩⟩, .int .i64 e]) /\ w.grownBy w' none := by
  suffices HX : ∀ R : Ending -> World -> Prop, Go.RowKit.Hid (∀ w', w.grownBy w' none -> R (.returned (.tuple #[.string ⟨⟨x⟩⟩, .int .i64 e])) w') -> Calls Go.Proofs.Tryd.prog 8 #[v] w R from HX _ (Go.Lib.hid (fun w' a => ⟨rfl, a⟩))
  intro R HR
  obtain ⟨p, n, c, a, cap, rfl, hvt, hvs⟩ := z13l hv
  clear hv
  unfold z49 at hy
  dsimp only at hy
  have hb : VR S Bun31 (t, (ts, ())) (.agg #[.string ⟨⟨t.1⟩⟩, .slice p n c, .string ⟨⟨t.2.2.1⟩⟩, .slice a ts.length cap]) \/ True := .inr trivial
  clear hb
  by_cases h8 : 8 < ts.length
  . rw [if_pos h8] at hy
    cases hy
    have h8' : (8 : Int) < (ts.length : Int) := by omega
    have hgr := Go.Lib.hid (fun (cs : Array Value) (E : Nat) => World.grownBy_alloc w (.cells cs E) none)
    clear hvt hvs
    go_enter Go.Proofs.Tryd.func8, Go.Proofs.Tryd.ntmps8
    go_wp2
    exact HR.out _ (hgr.out _ _)
  . rw [if_neg h8] at hy
    obtain ⟨⟨e1, l⟩, hs, hy⟩ := Option.bind_eq_some_iff.1 hy
    dsimp only at hy
    have h8' : ¬ (8 : Int) < (ts.length : Int) := by omega
    have hmk := z127
    have g1 : ∀ (cs : Array Value) (E : Nat), w.grownBy ((w.alloc (.cells cs E)).alloc (.chan 10 #[] false 0 0 false)) none := fun cs E =>
      z79 (World.grownBy_alloc w (.cells cs E) none) (World.grownBy_alloc _ _ none)
    have HG := Go.Lib.hid g1
    have hsc : S (w.heap.size + 1) = none := by
      cases hsx : S (w.heap.size + 1) with
      | none => rfl
      | some q =>
        have := (Array.getElem?_eq_some_iff.1 (show w.heap[w.heap.size + 1]? = some q from hS _ _ hsx)).1
        omega
    have hch : ∀ (cs : Array Value) (E : Nat), ((w.alloc (.cells cs E)).alloc (.chan 10 #[] false 0 0 false)).heap[w.heap.size + 1]? = some (.chan 10 #[] false 0 0 false) := fun cs E => by
      have := heap_alloc_new (w.alloc (.cells cs E)) (.chan 10 #[] false 0 0 false)
      simpa using this
    have HSe := Go.Lib.hid (fun (cs : Array Value) (E : Nat) => z11e N (w := (w.alloc (.cells cs E)).alloc (.chan 10 #[] false 0 0 false)) (zaj hS (g1 cs E) (by simp)) hg (hch cs E) hsc hvt hvs (by omega) hs)
    have HY := Go.Lib.hid hy
    have hle : ts.length <= 8 := by omega
    clear hvt hvs hs hy g1 hsc hch hS hg
    go_enter Go.Proofs.Tryd.func8, Go.Proofs.Tryd.ntmps8
    go_upto_region 7 with (go_at_call 16; refine (HSe.out _ _).mono ?_; rintro q w1 ⟨rfl, hw1, hw1c⟩; have HW1 := Go.Lib.hid hw1; have HW1c := Go.Lib.hid hw1c; clear HSe hw1 hw1c)
    . rename_i hb
      have hne : ¬ e1 = 0 := bne_iff_ne.1 hb
      have he := HY.out
      rw [if_neg hne] at he
      cases he
      have hw := z8a (HG.out _ _) HW1.out
      exact HR.out _ ⟨hw.os, hw.tape, hw.output, hw.size, fun k hk _ => hw.block k hk (by intro e; cases e; omega)⟩
    . rename_i hb K7 hK7
      have hz : e1 = 0 := by simpa using hb
      subst hz
      obtain ⟨s', hch1⟩ := HW1c.out rfl
      have he := HY.out
      rw [if_pos rfl] at he
      by_cases hfl : l.flatten.length <= 70368744177664
      . rw [if_pos hfl] at he
        have HT := Go.Lib.hid (z12k N hch1 hfl)
        have hw := z8a (HG.out _ _) HW1.out
        have HW := Go.Lib.hid hw
        have HF := Go.Lib.hid hfl
        have HEq := Go.Lib.hid he
        have fin : ∀ w2, w1.grownBy w2 (some (w.heap.size + 1)) -> w.grownBy w2 none := fun w2 h2 => by
          have := zju hw h2
          exact ⟨this.os, this.tape, this.output, this.size, fun k hk _ => this.block k hk (by intro e; cases e; omega)⟩
        have HFi := Go.Lib.hid fin
        clear hch1 he hfl hw fin HY HG HW1c
        go_wp2_with (go_at_call 17; refine HT.out.mono ?_; rintro q w2 ⟨rfl, hw2⟩; have HW2 := Go.Lib.hid hw2; clear HT hw2)
        . rename_i hb2
          have he := HEq.out
          rw [if_pos (by have : l.flatten.length = (List.map List.length l).sum := List.length_flatten; omega)] at he
          cases he
          exact HR.out _ (HFi.out _ HW2.out)
        . rename_i hb2
          have he := HEq.out
          rw [if_neg (by have : l.flatten.length = (List.map List.length l).sum := List.length_flatten; omega)] at he
          cases he
          exact HR.out _ (HFi.out _ HW2.out)
      . rw [if_neg hfl] at he
        cases he

theorem z10x (h S : Hp) (x : List UInt8) (c : Int) : ARel h S (fun _ => undef) (.tup [⟨.str, x⟩, ⟨.int .i64, c⟩]) (.tuple #[.string ⟨⟨x⟩⟩, .int .i64 c]) [] :=
  ⟨rfl, _, rfl, .cons VR.str (.cons VR.int .nil)⟩

theorem zlh (N : Nat) : Contract Go.Proofs.Tryd.prog glob 8 (zd0 N) := by
  refine Contract.hand ⟨_, Go.Proofs.Tryd.func8, by kernel_rfl, by decide⟩ ?_
  rintro w S vals ob ⟨⟨t, ts, ⟨⟩⟩, ⟨⟩⟩ y har hS hg hy
  obtain ⟨x, e, ⟨⟩⟩ := y
  have hy' : z49 N (t, (ts, ())) = some (x, (e, ())) := hy
  obtain ⟨⟨u1, e1, r1⟩, _⟩ := har.rel 0 _ rfl
  have hob : ∀ i, ob i = [] := by
    intro i
    match i with
    | 0 => exact r1.2
    | i + 1 => exact har.out _ (by simp [mkS, zbc])
  have hvals : vals = [u1] := by
    match vals, har.len, e1 with
    | [a], _, h1 => simp at h1; rw [h1]
  subst hvals
  have hbx : ∀ y ∈ (mkS [(0, .v Bun31)] 0 (((t, (ts, ())), ()) : z2d [(0, .v Bun31)])), z8q y = false := by
    intro y hy
    have hy : y ∈ [A.v Bun31 (t, (ts, ()))] := hy
    rw [List.mem_singleton.1 hy]; rfl
  refine (zzj N hS hg r1.1 hy').mono ?_
  rintro q w' ⟨rfl, hg1⟩
  exact zpv hS hbx hob ⟨hg1.size, fun k hk => hg1.block k hk (by simp), hg1.tape, hg1.os, hg1.output⟩ (fun S' => z10x _ _ x e) rfl

end
end Go.Proofs.YtaackaafmidjkaaDoorLg

set_option linter.all false
set_option maxRecDepth 100000
namespace Go.Proofs.YtaackaafmidjkaaDoorLg
noncomputable section
open Go Go.Lift

def zfn : Code := (Go.Proofs.Tryd.f7.body).getD .skip

def zao : List (List Nat × List Nat) := [([0], []), ([0, 1], [1]), ([0, 1, 1], [2, 3, 1]), ([0, 1, 1, 1], [2, 3, 1, 4, 5]), ([0, 1, 1, 1, 1], [0]), ([1, 1, 1, 1, 1], [0])]

def z64 (N : Nat) : Env := z3q tys glob [(8, zd0 N), (10, zbf N), (12, zd1 N), (14, z2y N)] [] [] [] false [] []

theorem zh2 (N : Nat) : EnvOk Go.Proofs.Tryd.prog (z64 N) := zq mixed z1z (FnsOk.cons (zlh N) (FnsOk.cons (zje N) (FnsOk.cons ((Contract.up (zlk N) glob)) (FnsOk.cons ((Contract.up (z6l N) glob)) (FnsOk.nil))))) (ItsOk.nil)

def z26 (N : Nat) : Option Bool :=
 (z49 N ((([(97 : UInt8)] : List UInt8), (([] : List ((List UInt8) × ((List UInt8) × Unit))), (([(48 : UInt8), (49 : UInt8), (50 : UInt8), (51 : UInt8), (52 : UInt8), (53 : UInt8), (54 : UInt8), (55 : UInt8), (56 : UInt8), (57 : UInt8), (97 : UInt8), (98 : UInt8), (99 : UInt8), (100 : UInt8), (101 : UInt8), (102 : UInt8), (48 : UInt8), (49 : UInt8), (50 : UInt8), (51 : UInt8), (52 : UInt8), (53 : UInt8), (54 : UInt8), (55 : UInt8), (56 : UInt8), (57 : UInt8), (97 : UInt8), (98 : UInt8), (99 : UInt8), (100 : UInt8), (101 : UInt8), (102 : UInt8)] : List UInt8), ()))), (([] : List ((List UInt8) × ((List ((List UInt8) × ((List UInt8) × Unit))) × ((List UInt8) × Unit)))), ()))).bind fun y =>
 (z6s N y.1).bind fun y1 =>
 cond ((((List.length y.1) : Nat) : Int) == (37 : Int))
 (cond (y.2.1 == (0 : Int))
 ((z1q N ((([(97 : UInt8)] : List UInt8), (([] : List ((List UInt8) × ((List UInt8) × Unit))), (([(48 : UInt8), (49 : UInt8), (50 : UInt8), (51 : UInt8), (52 : UInt8), (53 : UInt8), (54 : UInt8), (55 : UInt8), (56 : UInt8), (57 : UInt8), (97 : UInt8), (98 : UInt8), (99 : UInt8), (100 : UInt8), (101 : UInt8), (102 : UInt8), (48 : UInt8), (49 : UInt8), (50 : UInt8), (51 : UInt8), (52 : UInt8), (53 : UInt8), (54 : UInt8), (55 : UInt8), (56 : UInt8), (57 : UInt8), (97 : UInt8), (98 : UInt8), (99 : UInt8), (100 : UInt8), (101 : UInt8), (102 : UInt8)] : List UInt8), ()))), (([] : List ((List UInt8) × ((List ((List UInt8) × ((List UInt8) × Unit))) × ((List UInt8) × Unit)))), ())) y1.1).bind fun y2 =>
 cond y2
 (cond (y1.2.1 == (0 : Int))
 ((z8d N ((([(97 : UInt8)] : List UInt8), (([] : List ((List UInt8) × ((List UInt8) × Unit))), (([(48 : UInt8), (49 : UInt8), (50 : UInt8), (51 : UInt8), (52 : UInt8), (53 : UInt8), (54 : UInt8), (55 : UInt8), (56 : UInt8), (57 : UInt8), (97 : UInt8), (98 : UInt8), (99 : UInt8), (100 : UInt8), (101 : UInt8), (102 : UInt8), (48 : UInt8), (49 : UInt8), (50 : UInt8), (51 : UInt8), (52 : UInt8), (53 : UInt8), (54 : UInt8), (55 : UInt8), (56 : UInt8), (57 : UInt8), (97 : UInt8), (98 : UInt8), (99 : UInt8), (100 : UInt8), (101 : UInt8), (102 : UInt8)] : List UInt8), ()))), (([] : List ((List UInt8) × ((List ((List UInt8) × ((List UInt8) × Unit))) × ((List UInt8) × Unit)))), ()))).bind fun y3 =>
 some (y3 == (37 : Int)))
 (some false))
 (some false))
 (some false))
 (some false)

def zan (N : Nat) : Tab Bool := []

theorem zfm (N : Nat) (x : z2d []) : zc6 (z64 N) N (zan N) zao Go.Proofs.Tryd.f7 (mkS [] 0 x) (z6u (.v .bool) 0) = z26 N := by kernel_rfl

def z8p (N : Nat) : List A -> Res := z1t [] (fun x => z26 N) (zev (.v .bool) 0)

theorem zik (N : Nat) : Contract Go.Proofs.Tryd.prog glob 7 (z8p N) :=
  Contract.of (E := z64 N) (H := zan N) (L := zao) (N := N) (body := zfn) (K := (z6u (.v .bool) 0)) (zh2 N) Go.Proofs.Tryd.func7 (by kernel_rfl) (by decide) (fun _ hb => TabOk.nil) (fun x y h => by rw [zfm]; exact h) (z1v (s := (.v .bool)) (m := 0))

def zj : Code := (Go.Proofs.Tryd.f5.body).getD .skip

def z1a : List (List Nat × List Nat) := [([0], [2, 1]), ([0, 0, 1], [19, 2, 1]), ([1, 0, 1], [2, 1]), ([0, 0, 1, 0, 1], [4]), ([1, 0, 1, 0, 1], [4]), ([0, 1, 1], [6, 5, 2, 1]), ([0, 0, 1, 1, 1], [27, 5, 2, 1]), ([1, 0, 1, 1, 1], [1]), ([0, 0, 1, 0, 1, 1, 1], [8, 2, 7, 5, 1]), ([0, 1, 0, 1, 0, 1, 1, 1], [47, 1]), ([1, 1, 0, 1, 0, 1, 1, 1], [1]), ([0, 0, 1, 1, 0, 1, 0, 1, 1, 1], [4]), ([1, 0, 1, 1, 0, 1, 0, 1, 1, 1], [4]), ([0, 1, 1, 1, 1], [9, 10, 1]), ([0, 1, 1, 1, 1, 1], [10, 12, 11, 1]), ([0, 1, 1, 1, 1, 1, 1], [4]), ([1, 1, 1, 1, 1, 1, 1], [4])]

def z11 (N : Nat) : Env := z3q tys glob [(7, z8p N), (6, z8n N), (8, zd0 N), (10, zbf N), (12, zd1 N), (14, z2y N)] [] [] [] false [] []

theorem zbm (N : Nat) : EnvOk Go.Proofs.Tryd.prog (z11 N) := zq mixed z1z (FnsOk.cons (zik N) (FnsOk.cons ((Contract.up (zic N) glob)) (FnsOk.cons (zlh N) (FnsOk.cons (zje N) (FnsOk.cons ((Contract.up (zlk N) glob)) (FnsOk.cons ((Contract.up (z6l N) glob)) (FnsOk.nil))))))) (ItsOk.nil)

def z2w (N : Nat) (s : (List UInt8)) (b : (((List UInt8) × ((List ((List UInt8) × ((List UInt8) × Unit))) × ((List UInt8) × Unit))) × ((List ((List UInt8) × ((List ((List UInt8) × ((List UInt8) × Unit))) × ((List UInt8) × Unit)))) × Unit))) (k0 : Bool -> Option Bool) : Option Bool :=
 (z37 N b).bind fun y =>
 cond y
 (k0 true)
 (k0 (decide ((6000 : Int) < (((List.length s) : Nat) : Int))))

def z5w (N : Nat) (x : z2d [(1, .v .str), (0, .box (.pair (.pair .str (.pair (.sl (.pair .str (.pair .str .unit))) (.pair .str .unit))) (.pair (.sl (.pair .str (.pair (.sl (.pair .str (.pair .str .unit))) (.pair .str .unit)))) .unit)))]) (K : Ex -> List A -> Option Bool) : Option Bool :=
 z2w N x.1 x.2.1 (fun a2 => (K .normal (mkS [(1, .v .str), (0, .box (.pair (.pair .str (.pair (.sl (.pair .str (.pair .str .unit))) (.pair .str .unit))) (.pair (.sl (.pair .str (.pair (.sl (.pair .str (.pair .str .unit))) (.pair .str .unit)))) .unit))), (16, .v .bool)] 52 (x.1, x.2.1, a2, ()))))

def z5s (N : Nat) : Hd Bool := fun st K => (unS [(1, .v .str), (0, .box (.pair (.pair .str (.pair (.sl (.pair .str (.pair .str .unit))) (.pair .str .unit))) (.pair (.sl (.pair .str (.pair (.sl (.pair .str (.pair .str .unit))) (.pair .str .unit)))) .unit)))] 69 (restr [2, 1] 0 st)).bind fun x => z5w N x K

def zcj (N : Nat) : Tab Bool := []

theorem zbk {N : Nat} {c : Ctx} (hb : Base Go.Proofs.Tryd.prog (z11 N) c) : z16 Go.Proofs.Tryd.prog c (zl zj [0, 0, 1]) (z5s N) :=
  z1n (s := [(1, .v .str), (0, .box (.pair (.pair .str (.pair (.sl (.pair .str (.pair .str .unit))) (.pair .str .unit))) (.pair (.sl (.pair .str (.pair (.sl (.pair .str (.pair .str .unit))) (.pair .str .unit)))) .unit)))]) (m := 69) (g := z5w N) [2, 1] (zh hb N (zcj N) z1a zj TabOk.nil [0, 0, 1] _ rfl) (fun x K => by kernel_rfl)

def z2x (N : Nat) (s : (List UInt8)) (b : (((List UInt8) × ((List ((List UInt8) × ((List UInt8) × Unit))) × ((List UInt8) × Unit))) × ((List ((List UInt8) × ((List ((List UInt8) × ((List UInt8) × Unit))) × ((List UInt8) × Unit)))) × Unit))) (k0 : Bool -> Option Bool) (k1 : Option Bool) : Option Bool :=
 z2w N s b
 (fun x19 => cond x19
 ((z26 N).bind fun y =>
 k0 y)
 (k1))

def z5x (N : Nat) (x : z2d [(1, .v .str), (0, .box (.pair (.pair .str (.pair (.sl (.pair .str (.pair .str .unit))) (.pair .str .unit))) (.pair (.sl (.pair .str (.pair (.sl (.pair .str (.pair .str .unit))) (.pair .str .unit)))) .unit)))]) (K : Ex -> List A -> Option Bool) : Option Bool :=
 z2x N x.1 x.2.1 (fun a0 => (K .ret (mkS [(4, .v .bool)] 67 (a0, ())))) (K .normal (mkS [(1, .v .str), (0, .box (.pair (.pair .str (.pair (.sl (.pair .str (.pair .str .unit))) (.pair .str .unit))) (.pair (.sl (.pair .str (.pair (.sl (.pair .str (.pair .str .unit))) (.pair .str .unit)))) .unit)))] 69 (x.1, x.2.1, ())))

def z5t (N : Nat) : Hd Bool := fun st K => (unS [(1, .v .str), (0, .box (.pair (.pair .str (.pair (.sl (.pair .str (.pair .str .unit))) (.pair .str .unit))) (.pair (.sl (.pair .str (.pair (.sl (.pair .str (.pair .str .unit))) (.pair .str .unit)))) .unit)))] 69 (restr [2, 1] 0 st)).bind fun x => z5x N x K

def zck (N : Nat) : Tab Bool := [([0, 0, 1], z5s N)]

theorem zbl {N : Nat} {c : Ctx} (hb : Base Go.Proofs.Tryd.prog (z11 N) c) : z16 Go.Proofs.Tryd.prog c (zl zj [0, 1]) (z5t N) :=
  z1n (s := [(1, .v .str), (0, .box (.pair (.pair .str (.pair (.sl (.pair .str (.pair .str .unit))) (.pair .str .unit))) (.pair (.sl (.pair .str (.pair (.sl (.pair .str (.pair .str .unit))) (.pair .str .unit)))) .unit)))]) (m := 69) (g := z5x N) [2, 1] (zh hb N (zck N) z1a zj (TabOk.cons (zbk hb) TabOk.nil) [0, 1] _ rfl) (fun x K => by kernel_rfl)

def z2u (N : Nat) (s : (List UInt8)) (b : (((List UInt8) × ((List ((List UInt8) × ((List UInt8) × Unit))) × ((List UInt8) × Unit))) × ((List ((List UInt8) × ((List ((List UInt8) × ((List UInt8) × Unit))) × ((List UInt8) × Unit)))) × Unit))) (a : (List UInt8)) (c : (((List UInt8) × ((List ((List UInt8) × ((List UInt8) × Unit))) × ((List UInt8) × Unit))) × ((List ((List UInt8) × ((List ((List UInt8) × ((List UInt8) × Unit))) × ((List UInt8) × Unit)))) × Unit))) (f : Int) (k0 : Bool -> Option Bool) : Option Bool :=
 cond (f != (0 : Int))
 (k0 true)
 ((z1q N b c).bind fun y =>
 cond (!y)
 (k0 true)
 ((z8d N b).bind fun y1 =>
 k0 ((((List.length a) : Nat) : Int) != y1)))

def z5u (N : Nat) (x : z2d [(1, .v .str), (0, .box (.pair (.pair .str (.pair (.sl (.pair .str (.pair .str .unit))) (.pair .str .unit))) (.pair (.sl (.pair .str (.pair (.sl (.pair .str (.pair .str .unit))) (.pair .str .unit)))) .unit))), (2, .v .str), (1, .box (.pair (.pair .str (.pair (.sl (.pair .str (.pair .str .unit))) (.pair .str .unit))) (.pair (.sl (.pair .str (.pair (.sl (.pair .str (.pair .str .unit))) (.pair .str .unit)))) .unit))), (0, .v (.int .i64))]) (K : Ex -> List A -> Option Bool) : Option Bool :=
 z2u N x.1 x.2.1 x.2.2.1 x.2.2.2.1 x.2.2.2.2.1 (fun a1 => (K .normal (mkS [(1, .v .str), (45, .v .bool)] 24 (x.1, a1, ()))))

def z5q (N : Nat) : Hd Bool := fun st K => (unS [(1, .v .str), (0, .box (.pair (.pair .str (.pair (.sl (.pair .str (.pair .str .unit))) (.pair .str .unit))) (.pair (.sl (.pair .str (.pair (.sl (.pair .str (.pair .str .unit))) (.pair .str .unit)))) .unit))), (2, .v .str), (1, .box (.pair (.pair .str (.pair (.sl (.pair .str (.pair .str .unit))) (.pair .str .unit))) (.pair (.sl (.pair .str (.pair (.sl (.pair .str (.pair .str .unit))) (.pair .str .unit)))) .unit))), (0, .v (.int .i64))] 63 (restr [8, 2, 7, 5, 1] 0 st)).bind fun x => z5u N x K

def zch (N : Nat) : Tab Bool := []

theorem zbi {N : Nat} {c : Ctx} (hb : Base Go.Proofs.Tryd.prog (z11 N) c) : z16 Go.Proofs.Tryd.prog c (zl zj [0, 1, 0, 1, 0, 1, 1, 1]) (z5q N) :=
  z1n (s := [(1, .v .str), (0, .box (.pair (.pair .str (.pair (.sl (.pair .str (.pair .str .unit))) (.pair .str .unit))) (.pair (.sl (.pair .str (.pair (.sl (.pair .str (.pair .str .unit))) (.pair .str .unit)))) .unit))), (2, .v .str), (1, .box (.pair (.pair .str (.pair (.sl (.pair .str (.pair .str .unit))) (.pair .str .unit))) (.pair (.sl (.pair .str (.pair (.sl (.pair .str (.pair .str .unit))) (.pair .str .unit)))) .unit))), (0, .v (.int .i64))]) (m := 63) (g := z5u N) [8, 2, 7, 5, 1] (zh hb N (zch N) z1a zj TabOk.nil [0, 1, 0, 1, 0, 1, 1, 1] _ rfl) (fun x K => by kernel_rfl)

def z2v (N : Nat) (s : (List UInt8)) (b : (((List UInt8) × ((List ((List UInt8) × ((List UInt8) × Unit))) × ((List UInt8) × Unit))) × ((List ((List UInt8) × ((List ((List UInt8) × ((List UInt8) × Unit))) × ((List UInt8) × Unit)))) × Unit))) (a : (List UInt8)) (e : Int) (k0 : Bool -> Option Bool) (k1 : Option Bool) : Option Bool :=
 cond (e == (0 : Int))
 ((z6s N a).bind fun y =>
 z2u N s b a y.1 y.2.1
 (fun x47 => cond x47
 (k0 false)
 (k1)))
 (k1)

def z5v (N : Nat) (x : z2d [(1, .v .str), (0, .box (.pair (.pair .str (.pair (.sl (.pair .str (.pair .str .unit))) (.pair .str .unit))) (.pair (.sl (.pair .str (.pair (.sl (.pair .str (.pair .str .unit))) (.pair .str .unit)))) .unit))), (2, .v .str), (0, .v (.int .i64))]) (K : Ex -> List A -> Option Bool) : Option Bool :=
 z2v N x.1 x.2.1 x.2.2.1 x.2.2.2.1 (fun a0 => (K .ret (mkS [(4, .v .bool)] 67 (a0, ())))) (K .normal (mkS [(1, .v .str)] 70 (x.1, ())))

def z5r (N : Nat) : Hd Bool := fun st K => (unS [(1, .v .str), (0, .box (.pair (.pair .str (.pair (.sl (.pair .str (.pair .str .unit))) (.pair .str .unit))) (.pair (.sl (.pair .str (.pair (.sl (.pair .str (.pair .str .unit))) (.pair .str .unit)))) .unit))), (2, .v .str), (0, .v (.int .i64))] 65 (restr [6, 5, 2, 1] 0 st)).bind fun x => z5v N x K

def zci (N : Nat) : Tab Bool := [([0, 1, 0, 1, 0, 1, 1, 1], z5q N)]

theorem zbj {N : Nat} {c : Ctx} (hb : Base Go.Proofs.Tryd.prog (z11 N) c) : z16 Go.Proofs.Tryd.prog c (zl zj [0, 1, 1, 1]) (z5r N) :=
  z1n (s := [(1, .v .str), (0, .box (.pair (.pair .str (.pair (.sl (.pair .str (.pair .str .unit))) (.pair .str .unit))) (.pair (.sl (.pair .str (.pair (.sl (.pair .str (.pair .str .unit))) (.pair .str .unit)))) .unit))), (2, .v .str), (0, .v (.int .i64))]) (m := 65) (g := z5v N) [6, 5, 2, 1] (zh hb N (zci N) z1a zj (TabOk.cons (zbi hb) TabOk.nil) [0, 1, 1, 1] _ rfl) (fun x K => by kernel_rfl)

def z1h (N : Nat) (b : (((List UInt8) × ((List ((List UInt8) × ((List UInt8) × Unit))) × ((List UInt8) × Unit))) × ((List ((List UInt8) × ((List ((List UInt8) × ((List UInt8) × Unit))) × ((List UInt8) × Unit)))) × Unit))) (s : (List UInt8)) : Option Bool :=
 z2x N s b
 (fun x4 => some x4)
 ((z49 N b).bind fun y =>
 z2v N s b y.1 y.2.1
 (fun x41 => some x41)
 ((z6s N s).bind fun y1 =>
 (z49 N y1.1).bind fun y2 =>
 cond (y1.2.1 != (0 : Int))
 ((z26 N).bind fun y3 =>
 some y3)
 (cond (y2.2.1 == (0 : Int))
 (cond (y2.1 == s)
 ((z26 N).bind fun y4 =>
 some y4)
 (some false))
 (some false))))

def z6c (N : Nat) : Tab Bool := [([0, 1], z5t N), ([0, 1, 1, 1], z5r N)]

theorem zap (N : Nat) (x : z2d [(0, .v (.pair (.pair .str (.pair (.sl (.pair .str (.pair .str .unit))) (.pair .str .unit))) (.pair (.sl (.pair .str (.pair (.sl (.pair .str (.pair .str .unit))) (.pair .str .unit)))) .unit))), (0, .v .str)]) : zc6 (z11 N) N (z6c N) z1a Go.Proofs.Tryd.f5 (mkS [(0, .v (.pair (.pair .str (.pair (.sl (.pair .str (.pair .str .unit))) (.pair .str .unit))) (.pair (.sl (.pair .str (.pair (.sl (.pair .str (.pair .str .unit))) (.pair .str .unit)))) .unit))), (0, .v .str)] 0 x) (z6u (.v .bool) 2) = z1h N x.1 x.2.1 := by kernel_rfl

def zbh (N : Nat) : List A -> Res := z1t [(0, .v (.pair (.pair .str (.pair (.sl (.pair .str (.pair .str .unit))) (.pair .str .unit))) (.pair (.sl (.pair .str (.pair (.sl (.pair .str (.pair .str .unit))) (.pair .str .unit)))) .unit))), (0, .v .str)] (fun x => z1h N x.1 x.2.1) (zev (.v .bool) 2)

theorem zcl (N : Nat) : Contract Go.Proofs.Tryd.prog glob 5 (zbh N) :=
  Contract.of (E := z11 N) (H := z6c N) (L := z1a) (N := N) (body := zj) (K := (z6u (.v .bool) 2)) (zbm N) Go.Proofs.Tryd.func5 (by kernel_rfl) (by decide) (fun _ hb => (TabOk.cons (zbl hb) (TabOk.cons (zbj hb) TabOk.nil))) (fun x y h => by rw [zap]; exact h) (z1v (s := (.v .bool)) (m := 2))

end
end Go.Proofs.YtaackaafmidjkaaDoorLg

set_option linter.all false
namespace Go.Proofs.YtaackaafmidjkaaDoorLg
noncomputable section
open Go Go.Lift Go.Proofs.YtaackaafmidjkaaDoorPx

theorem shr7 (n : Nat) : shrI .u64 ((n : Nat) : Int) 7 = ((n / 128 : Nat) : Int) := by
  have : shrI .u64 ((n : Nat) : Int) 7 = ((n : Nat) : Int).fdiv 128 := rfl
  rw [this, Int.fdiv_eq_ediv_of_nonneg _ (by omega)]; rfl

theorem or128 : ∀ m, m < 256 -> bitsOp .or .u8 ((m : Nat) : Int) 128 = ((m % 128 + 128 : Nat) : Int) := by decide +kernel
theorem zq7 : ∀ m, m < 256 -> bitsOp .andNot .u8 ((m : Nat) : Int) 128 = ((m % 128 : Nat) : Int) := by decide +kernel

def szc (n : Nat) : Nat := if n = 0 then 0 else (z5p n).length

theorem z114 (n : Nat) : szc n <= 10 := by
  unfold szc; split
  . omega
  . exact (z6y n).2

theorem zkx {n : Nat} (h : n < 18446744073709551616) : (z5p n).length = 1 + szc (n / 128) := by
  rw [z11n h]
  unfold szc
  split
  . rw [if_pos (by omega)]; rfl
  . rw [if_neg (by omega), List.length_cons, Nat.add_comm]

theorem z17o (N : Nat) (hN : 10 < N) {n : Nat} (h : n < 18446744073709551616) : zab N (n : Int) = some (((z5p n).length : Nat) : Int) := by
  simp only [zab, zj0, shr7]
  rw [z78 (I := fun (v : Int × Int) => ∃ (m k : Nat), v = ((m : Int), (k : Int)) /\ m < 18446744073709551616 /\ k <= 100 - szc m) (m := fun (v : Int × Int) => szc v.1.toNat)
    (R := fun (v : Int × Int) => some (v.2 + ((szc v.1.toNat : Nat) : Int))) ?_ N (((n / 128 : Nat) : Int), 1) ⟨n / 128, 1, rfl, by omega, by have := z114 (n / 128); omega⟩ (by have := z114 (n / 128); dsimp only; rw [Int.toNat_natCast]; omega)]
  . dsimp only
    rw [Int.toNat_natCast, zkx h]; congr 1
  rintro v r ⟨m, k, rfl, hm, hk⟩ hr
  dsimp only at *
  simp only [zca, shr7, Int.toNat_natCast] at *
  have hs := z114 m
  by_cases h0 : m = 0
  . subst h0
    rw [z14 (by rfl)]
    simp [szc]
  . have e : szc m = 1 + szc (m / 128) := by
      rw [<- zkx hm]; unfold szc; rw [if_neg h0]
    rw [zb (by simp; omega), z3y (by omega), hr _ ⟨m / 128, k + 1, rfl, by omega, by omega⟩ (by rw [Int.toNat_natCast]; omega)]
    simp only [Int.toNat_natCast, e]
    congr 1; omega

def zyr : Nat -> Nat -> List Int
  | 0, _ => []
  | k + 1, m => ((m % 128 + 128 : Nat) : Int) :: zyr k (m / 128)

theorem zpq : ∀ k m, (zyr k m).length = k
  | 0, _ => rfl
  | k + 1, m => by simp [zyr, zpq k]

theorem zyq : ∀ (f n k : Nat), (zi8 f n).length = k + 1 -> n < 128 ^ (f + 1) -> toStr ((zyr (k + 1) n).set k (bitsOp .andNot .u8 ((zyr (k + 1) n).getD k 0) 128)) = zi8 f n
  | 0, n, k, h, hn => by
    have hk : k = 0 := by simpa [zi8] using h.symm
    subst hk
    have hn : n < 128 := by simpa using hn
    simp only [zyr, List.getD_cons_zero, List.set_cons_zero, zi8]
    rw [zq7 _ (by omega)]
    simp only [toStr, List.map_cons, List.map_nil, Int.toNat_natCast]
    congr 2; omega
  | f + 1, n, k, h, hn => by
    have hp : (128 : Nat) ^ (f + 2) = 128 * 128 ^ (f + 1) := by rw [Nat.pow_succ, Nat.mul_comm]
    simp only [zi8] at h ⊢
    by_cases h1 : n < 128
    . rw [if_pos h1] at h ⊢
      have hk : k = 0 := by simpa using h.symm
      subst hk
      simp only [zyr, List.getD_cons_zero, List.set_cons_zero]
      rw [zq7 _ (by omega)]
      simp only [toStr, List.map_cons, List.map_nil, Int.toNat_natCast]
      congr 2; omega
    . rw [if_neg h1] at h ⊢
      obtain ⟨j, rfl⟩ : ∃ j, k = j + 1 := ⟨k - 1, by have := (znt f (n / 128)).1; simp at h; omega⟩
      have ih := zyq f (n / 128) j (by simpa using h) (by omega)
      have e : zyr (j + 1 + 1) n = ((n % 128 + 128 : Nat) : Int) :: zyr (j + 1) (n / 128) := rfl
      rw [e, List.getD_cons_succ, List.set_cons_succ]
      have e2 : ∀ (x : Int) (l : List Int), toStr (x :: l) = UInt8.ofNat x.toNat :: toStr l := fun _ _ => rfl
      rw [e2, ih, Int.toNat_natCast]

theorem z16b (N : Nat) (hN : 20 < N) {n : Nat} (h : n < 18446744073709551616) : za5 N (n : Int) = some (z5p n) := by
  have hl := z6y n
  simp only [za5, z17o N (by omega) h, Option.bind_some]
  rw [zb (zps ⟨by omega, by omega, by omega, by omega⟩)]
  simp only [zkb, Int.toNat_natCast]
  generalize hL : (z5p n).length = L at *
  have hend : ∀ out : List Int, out = zyr L n -> (cond (inR (IntKind.wrap .i64 (((L : Nat) : Int) - 1)) out.length) (cond (decide ((IntKind.wrap .i64 (((L : Nat) : Int) - 1)).toNat < out.length)) (cond (inR (IntKind.wrap .i64 (((L : Nat) : Int) - 1)) out.length) (cond (decide ((IntKind.wrap .i64 (((L : Nat) : Int) - 1)).toNat < out.length)) (some (toStr (out.set (IntKind.wrap .i64 (((L : Nat) : Int) - 1)).toNat (bitsOp .andNot .u8 (out.getD (IntKind.wrap .i64 (((L : Nat) : Int) - 1)).toNat 0) 128)))) none) none) none) none) = some (z5p n) := by
    intro out ho
    subst ho
    have e : IntKind.wrap .i64 (((L : Nat) : Int) - 1) = ((L - 1 : Nat) : Int) := by rw [zfu (by unfold I64; omega)]; omega
    rw [e, Int.toNat_natCast, zpq, zb (z3r (by omega)), zb (zps (by omega)), zb (z3r (by omega)), zb (zps (by omega))]
    obtain ⟨k, rfl⟩ : ∃ k, L = k + 1 := ⟨L - 1, by omega⟩
    have := zyq 9 n k hL (by have : (128 : Nat) ^ 10 = 1180591620717411303424 := (by decide); omega)
    rw [Nat.add_sub_cancel, this]; rfl
  rw [z78 (I := fun (v : Int × List Int × Int) => ∃ (m i : Nat), v.1 = (m : Int) /\ v.2.2 = (i : Int) /\ m < 18446744073709551616 /\ i <= L /\ v.2.1.length = L /\ v.2.1.take i ++ zyr (L - i) m = zyr L n) (m := fun (v : Int × List Int × Int) => L - v.2.2.toNat)
    (R := fun _ => some (z5p n)) ?_ N _ ⟨n, 0, rfl, rfl, h, by omega, by simp, by simp⟩ (by simp; omega)]
  rintro ⟨x, out, y⟩ r ⟨m, i, h1, h2, hm, hi, ho, hd⟩ hr
  dsimp only at *
  subst h1; subst h2
  simp only [zed, Int.toNat_natCast] at *
  by_cases hlt : i < L
  . have hw : IntKind.wrap .u8 (m : Int) = ((m % 256 : Nat) : Int) := by rw [z16t]; omega
    rw [zb (zps (by omega)), zb (z3r (by omega)), zb (zps (by omega)), shr7, hw, or128 _ (by omega), z3y (by omega)]
    refine hr _ ⟨m / 128, i + 1, rfl, rfl, by omega, by omega, by simpa using ho, ?_⟩ (by dsimp only; rw [Int.toNat_natCast]; omega)
    rw [zsf _ _ _ (by omega), List.append_assoc, <- hd]
    congr 1
    obtain ⟨k, hk⟩ : ∃ k, L - i = k + 1 := ⟨L - i - 1, by omega⟩
    rw [hk, show L - (i + 1) = k by omega]
    simp only [zyr, List.cons_append, List.nil_append, show m % 256 % 128 = m % 128 by omega]
  . have : i = L := by omega
    subst this
    rw [z14 (z10a (by omega))]
    refine hend out ?_
    rw [Nat.sub_self, List.take_of_length_le (by omega)] at hd
    simpa [zyr] using hd

def z14q (t : Nat × Nat × Int) : Int × Int × Int × Unit := ((t.1 : Int), (t.2.1 : Int), t.2.2, ())

theorem z147 (N : Nat) (n : Int) (used last : Nat) : z8i N n (used : Int) (last : Int) = some (if (1 < used /\ last = 0) \/ (used = 10 /\ 1 < last) then (0, 0, 2, ()) else (n, (used : Int), 0, ())) := by
  simp only [z8i, zaa, za9]
  by_cases h1 : 1 < used
  . rw [zb (zps (by omega))]
    by_cases h2 : last = 0
    . rw [zb (by simp [h2]), if_pos (.inl ⟨h1, h2⟩)]; rfl
    . rw [z14 (by simp; omega)]
      by_cases h3 : used = 10
      . rw [zb (by simp; omega)]
        by_cases h4 : 1 < last
        . rw [zb (zps (by omega)), if_pos (.inr ⟨h3, h4⟩)]
        . rw [z14 (z10a (by omega)), if_neg (by omega)]
      . rw [z14 (by simp; omega), if_neg (by omega)]; rfl
  . rw [z14 (z10a (by omega)), z14 (by simp; omega), if_neg (by omega)]; rfl

theorem z2r {n : Nat} (h : n < 18446744073709551616) : IntKind.wrap .u64 ((n : Nat) : Int) = ((n : Nat) : Int) := by
  simp only [IntKind.wrap, IntKind.bits, IntKind.signed, Bool.false_and, Bool.false_eq_true, if_false]
  omega

theorem z18v {a b : Nat} (ha : a < 18446744073709551616) (hb : b < 18446744073709551616) : bitsOp .or .u64 ((a : Nat) : Int) ((b : Nat) : Int) = ((a ||| b : Nat) : Int) := by
  have e : bitsOp .or .u64 ((a : Nat) : Int) ((b : Nat) : Int) = IntKind.wrap .u64 ((BitVec.ofInt 64 ((a : Nat) : Int) ||| BitVec.ofInt 64 ((b : Nat) : Int)).toNat : Int) := rfl
  rw [e, BitVec.ofInt_natCast, BitVec.ofInt_natCast, BitVec.toNat_or, BitVec.toNat_ofNat, BitVec.toNat_ofNat, Nat.mod_eq_of_lt (by simpa using ha), Nat.mod_eq_of_lt (by simpa using hb)]
  exact z2r (Nat.or_lt_two_pow (n := 64) ha hb)

theorem pow7 (i : Nat) : (128 : Nat) ^ i = 2 ^ (7 * i) := by rw [Nat.pow_mul]

theorem zvk {n x i : Nat} (hn : n < 128 ^ i) (hx : x < 128) (hi : i <= 9) (hw : x * 128 ^ i < 18446744073709551616) :
    bitsOp .or .u64 ((n : Nat) : Int) (shlI .u64 (IntKind.wrap .u64 ((x : Nat) : Int)) (IntKind.wrap .i64 (7 * ((i : Nat) : Int)))) = ((n + 128 ^ i * x : Nat) : Int) := by
  have h1 : IntKind.wrap .i64 (7 * ((i : Nat) : Int)) = ((7 * i : Nat) : Int) := by rw [zfu (by unfold I64; omega)]; omega
  have hp : (128 : Nat) ^ i <= 128 ^ 9 := Nat.pow_le_pow_right (by omega) hi
  have e9 : (128 : Nat) ^ 9 = 9223372036854775808 := by decide
  have h2 : shlI .u64 ((x : Nat) : Int) ((7 * i : Nat) : Int) = ((x * 128 ^ i : Nat) : Int) := by
    unfold shlI
    rw [Int.toNat_natCast, Nat.min_eq_left (by show 7 * i <= 64; omega), pow7]
    have : ((x : Nat) : Int) * 2 ^ (7 * i) = ((x * 2 ^ (7 * i) : Nat) : Int) := by simp
    rw [this]
    exact z2r (by rw [<- pow7]; exact hw)
  rw [z2r (by omega), h1, h2, z18v (by omega) hw]
  congr 1
  rw [Nat.or_comm, pow7, Nat.mul_comm x]
  have := Nat.shiftLeft_add_eq_or_of_lt (b := n) (i := 7 * i) (by rw [<- pow7]; exact hn) x
  rw [Nat.shiftLeft_eq, Nat.mul_comm x] at this
  rw [<- this, Nat.add_comm]

theorem zx7 (N : Nat) (hN : 20 < N) (s : List UInt8) (hs : s.length <= 10000000000) : z2a N s = some (z14q (z4v s)) := by
  have hmin : (if (10 : Int) < ((s.length : Nat) : Int) then (10 : Int) else ((s.length : Nat) : Int)) = ((min 10 s.length : Nat) : Int) := by split <;> omega
  simp only [z2a, zix, hmin]
  have hle := zwg s
  rw [z78 (I := fun (v : Int × Int) => ∃ (i : Nat), v.2 = (i : Int) /\ i <= min 10 s.length /\ i <= z8g s /\ (i <= 9 -> v.1 = ((val (s.take i) : Nat) : Int))) (m := fun (v : Int × Int) => 10 - v.2.toNat)
    (R := fun _ => some (z14q (z4v s))) ?_ N (0, 0) ⟨0, rfl, by omega, by omega, fun _ => by simp [val]⟩ (by dsimp only; omega)]
  rintro ⟨x, y⟩ r ⟨i, hy, hi, hil, hx⟩ hr
  dsimp only at *
  subst hy
  simp only [zc9, Int.toNat_natCast] at *
  by_cases hlt : i < min 10 s.length
  . have his : i < s.length := by omega
    have hx := hx (by omega)
    subst hx
    have hb := z18l (s.getD i 0)
    have h7 : (0 : Int) <= IntKind.wrap .i64 (7 * (i : Int)) := by rw [zfu (by unfold I64; omega)]; omega
    rw [zb (zps (by omega)), zb (z3r his), zb (zps h7), zb (z3r his), zb (z3r his), z3y (by omega), zq7 _ hb]
    have hv := zx8 (s.take i)
    have hl : (s.take i).length = i := by rw [List.length_take]; omega
    rw [hl] at hv
    have hp : (128 : Nat) ^ i <= 128 ^ 9 := Nat.pow_le_pow_right (by omega) (by omega)
    have e9 : (128 : Nat) ^ 9 = 9223372036854775808 := by decide
    have hnext : val (s.take (i + 1)) = val (s.take i) + 128 ^ i * ((s.getD i 0).toNat % 128) := by
      rw [take_succ s 0 i his, zhr, hl]; simp [val]
    by_cases h128 : (s.getD i 0).toNat < 128
    . -- the last digit
      rw [zb (zps (by omega))]
      have hlead : i = z8g s := by
        rcases Nat.lt_or_ge i (z8g s) with h | h
        . have := z12g s i h; omega
        . omega
      have := z147 N (bitsOp .or .u64 ((val (s.take i) : Nat) : Int) (shlI .u64 (IntKind.wrap .u64 (((s.getD i 0).toNat % 128 : Nat) : Int)) (IntKind.wrap .i64 (7 * (i : Int))))) (i + 1) (s.getD i 0).toNat
      rw [this, Option.bind_some]
      unfold z4v
      rw [if_neg (show ¬ 10 <= z8g s by omega), if_neg (show ¬ z8g s = s.length by omega), <- hlead]
      have hiff : ((1 < i + 1 /\ (s.getD i 0).toNat = 0) \/ (i + 1 = 10 /\ 1 < (s.getD i 0).toNat)) ↔ ((0 < i /\ (s.getD i 0).toNat = 0) \/ (i = 9 /\ 1 < (s.getD 9 0).toNat)) := by
        constructor
        . rintro (⟨h1, h2⟩ | ⟨h1, h2⟩)
          . exact .inl ⟨by omega, h2⟩
          . have : i = 9 := by omega
            subst this; exact .inr ⟨rfl, h2⟩
        . rintro (⟨h1, h2⟩ | ⟨h1, h2⟩)
          . exact .inl ⟨by omega, h2⟩
          . subst h1; exact .inr ⟨rfl, h2⟩
      by_cases hbad : (0 < i /\ (s.getD i 0).toNat = 0) \/ (i = 9 /\ 1 < (s.getD 9 0).toNat)
      . rw [if_pos (hiff.2 hbad), if_pos hbad]; rfl
      . rw [if_neg (fun h => hbad (hiff.1 h)), if_neg hbad, zvk hv (by omega) (by omega), hnext]
        . rfl
        . by_cases h9 : i = 9
          . subst h9
            have : ¬ 1 < (s.getD 9 0).toNat := fun h => hbad (.inr ⟨rfl, h⟩)
            rw [e9]; omega
          . have : (128 : Nat) ^ i <= 128 ^ 8 := Nat.pow_le_pow_right (by omega) (by omega)
            have e8 : (128 : Nat) ^ 8 = 72057594037927936 := by decide
            have : (s.getD i 0).toNat % 128 * 128 ^ i <= 127 * 72057594037927936 := Nat.mul_le_mul (by omega) (by omega)
            omega
    . rw [z14 (z10a (by omega))]
      have hlead : i < z8g s := by
        rcases Nat.lt_or_ge i (z8g s) with h | h
        . exact h
        . have : i = z8g s := by omega
          have := zye s (by omega)
          rw [<- ‹i = z8g s›] at this; omega
      refine hr _ ⟨i + 1, rfl, by omega, by omega, fun h9 => ?_⟩ (by dsimp only; omega)
      dsimp only
      rw [zvk hv (by omega) (by omega), hnext]
      have : (128 : Nat) ^ i <= 128 ^ 8 := Nat.pow_le_pow_right (by omega) (by omega)
      have e8 : (128 : Nat) ^ 8 = 72057594037927936 := by decide
      have : (s.getD i 0).toNat % 128 * 128 ^ i <= 127 * 72057594037927936 := Nat.mul_le_mul (by omega) (by omega)
      omega
  . have hi2 : i = min 10 s.length := by omega
    rw [z14 (z10a (by omega))]
    unfold z4v
    by_cases h10 : 10 <= s.length
    . rw [zb (zps (by omega)), if_pos (by omega)]; rfl
    . rw [z14 (z10a (by omega)), if_neg (by omega), if_pos (by omega)]; rfl

end
end Go.Proofs.YtaackaafmidjkaaDoorLg

set_option linter.all false
set_option maxRecDepth 100000
namespace Go.Proofs.YtaackaafmidjkaaDoorLg
noncomputable section
open Go Go.Lift Go.Proofs.YtaackaafmidjkaaDoorPx

def rdr (s : List UInt8) (e : Int) : RdrT.den := (true, (s, (e, ())))
def z8e (s : List UInt8) (e : Int) : Prop := s.length <= 1000000 /\ (e ≠ 0 -> s = [])

theorem zjt (e : Int) : z8e [] e := ⟨by simp, fun _ => rfl⟩
theorem zsy {s : List UInt8} (h : s.length <= 1000000) (k : Nat) : z8e (s.drop k) 0 := ⟨by rw [List.length_drop]; omega, fun h => absurd rfl h⟩

theorem zvy (N : Nat) (s : List UInt8) (e : Int) : z1g N (rdr s e) = some (e == 0, (rdr s e, ())) := rfl

theorem z15b (N : Nat) (s : List UInt8) {e : Int} (he : e ≠ 0) (f : Int) : zk N (rdr s e) f = some ((), (rdr s e, ())) := by
  rw [zk, z1y, zvy, beq_eq_false_iff_ne.2 he]
  rfl

theorem z133 (N : Nat) (s : List UInt8) {f : Int} (hf : f ≠ 0) : zk N (rdr s 0) f = some ((), (rdr [] f, ())) := by
  rw [zk, z1y, zvy]
  simp only [Option.bind_some]
  rw [beq_self_eq_true, cond_true, bne_iff_ne.2 hf]
  rfl

theorem z132 (N : Nat) (s : List UInt8) (e : Int) : zk N (rdr s e) 0 = some ((), (rdr s e, ())) := by
  rw [zk, z1y, zvy]
  simp only [Option.bind_some]
  cases (e == 0) <;> rfl

theorem err_t (N : Nat) (s : List UInt8) (e : Int) : z61 N (rdr s e) = some (e, (rdr s e, ())) := rfl

theorem z15m (N : Nat) (s : List UInt8) {e : Int} (he : e ≠ 0) : z12 N (rdr s e) = some (0, (rdr s e, ())) := by
  rw [z12, show ((rdr s e).1 && ((rdr s e).2.2.1 == 0)) = (e == 0) from rfl, beq_eq_false_iff_ne.2 he]
  rfl

theorem zs4 {n : Nat} (h : n <= 1000000) : Go.IntKind.wrap .u64 (n : Int) = (n : Int) := z2r (by omega)

theorem z15j (N : Nat) (a : UInt8) (l : List UInt8) (hl : (a :: l).length <= 1000000) : z12 N (rdr (a :: l) 0) = some ((a.toNat : Int), (rdr l 0, ())) := by
  rw [z12, show ((rdr (a :: l) 0).1 && ((rdr (a :: l) 0).2.2.1 == 0)) = true from rfl, cond_true, show (rdr (a :: l) 0).2.1 = a :: l from rfl, zs4 hl,
    zb (decide_eq_true (by simp only [List.length_cons]; omega))]
  rfl

def zil (s : List UInt8) (e most : Int) : Int × List UInt8 × Int :=
 if e ≠ 0 then (0, s, e)
 else if (z4v s).2.2 ≠ 0 then (0, [], (z4v s).2.2)
 else if most < (z4v s).1 then (0, [], 3)
 else ((z4v s).1, s.drop (z4v s).2.1, 0)

theorem z112 {s : List UInt8} (h : (z4v s).2.2 = 0) : (z4v s).1 < 18446744073709551616 /\ (z4v s).2.1 <= s.length := by
  have := Go.Proofs.YtaackaafmidjkaaDoorPx.take_ok (s := s) (n := (z4v s).1) (k := (z4v s).2.1) (by rw [<- h])
  exact ⟨this.1, this.2.2.1⟩

theorem zsr {s : List UInt8} {e most : Int} (h : z8e s e) : z8e (zil s e most).2.1 (zil s e most).2.2 := by
  unfold zil
  split
  . exact h
  . split
    . exact zjt _
    . split
      . exact zjt 3
      . exact zsy h.1 _

theorem z16e (N : Nat) (hN : 20 < N) {s : List UInt8} {e : Int} (h : z8e s e) (most : Int) : z21 N (rdr s e) most = some ((zil s e most).1, (rdr (zil s e most).2.1 (zil s e most).2.2, ())) := by
  rw [z21, show ((rdr s e).1 && ((rdr s e).2.2.1 == 0)) = (e == 0) from rfl, show (rdr s e).2.1 = s from rfl]
  unfold zil
  by_cases he : e = 0
  . subst he
    rw [if_neg (by simp), zb (by rfl), zx7 N hN s (Nat.le_trans h.1 (by omega))]
    simp only [Option.bind_some, z14q]
    by_cases hf : (z4v s).2.2 = 0
    . obtain ⟨h1, h2⟩ := z112 hf
      rw [if_neg (by simpa using hf), zb (decide_eq_true hf)]
      by_cases hm : most < (z4v s).1
      . rw [if_pos hm, z14 (decide_eq_false (by omega))]
        rfl
      . rw [if_neg hm, zb (decide_eq_true (by omega)), zb (decide_eq_true ⟨by omega, by omega⟩), Int.toNat_natCast]
        rfl
    . rw [if_pos hf, z14 (decide_eq_false hf)]
      rfl
  . rw [if_pos he, z14 (beq_eq_false_iff_ne.2 he)]

def zse (y : Int × List UInt8 × Int) : List UInt8 × List UInt8 × Int :=
 if y.2.2 ≠ 0 then ([], y.2.1, y.2.2)
 else if (y.2.1.length : Int) < y.1 then ([], [], 1)
 else (y.2.1.take y.1.toNat, y.2.1.drop y.1.toNat, 0)

def z4a (s : List UInt8) (e most : Int) : List UInt8 × List UInt8 × Int := zse (zil s e (if most < 0 then 0 else most))

theorem z11z (s : List UInt8) (e most : Int) : 0 <= (zil s e most).1 := by
  unfold zil
  split
  . exact Int.le_refl _
  . split
    . exact Int.le_refl _
    . split
      . exact Int.le_refl _
      . exact Int.natCast_nonneg _

theorem zhv {s : List UInt8} {e most : Int} (h : z8e s e) : z8e (z4a s e most).2.1 (z4a s e most).2.2 := by
  have hn := zsr (most := if most < 0 then 0 else most) h
  unfold z4a zse
  generalize zil s e (if most < 0 then 0 else most) = y at *
  by_cases h1 : y.2.2 = 0
  . rw [if_neg (by simpa using h1)]
    by_cases h2 : (y.2.1.length : Int) < y.1
    . rw [if_pos h2]; exact zjt 1
    . rw [if_neg h2]; exact zsy hn.1 _
  . rw [if_pos h1]; exact hn

theorem zoh (N : Nat) (hN : 20 < N) {s : List UInt8} {e : Int} (h : z8e s e) {most : Int} (hm : most < 9223372036854775808) : zn N (rdr s e) most = some ((z4a s e most).1, (rdr (z4a s e most).2.1 (z4a s e most).2.2, ())) := by
  have wm : Go.IntKind.wrap .u64 (if most < 0 then 0 else most) = (if most < 0 then 0 else most) := by
    have e : ∀ x : Int, Go.IntKind.wrap .u64 x = x % 18446744073709551616 := fun _ => rfl
    rw [e]
    split <;> omega
  rw [zn, show ((rdr s e).1 && ((rdr s e).2.2.1 == 0)) = (e == 0) from rfl, show (rdr s e).2.1 = s from rfl, wm]
  unfold z4a
  generalize (if most < 0 then 0 else most) = m
  by_cases he : e = 0
  . subst he
    rw [zb (by rfl), zx7 N hN s (Nat.le_trans h.1 (by omega))]
    simp only [Option.bind_some, z14q]
    by_cases hf : (z4v s).2.2 = 0
    . obtain ⟨h1, h2⟩ := z112 hf
      rw [zb (decide_eq_true hf)]
      by_cases hm : m < (z4v s).1
      . have hy : zil s 0 m = (0, [], 3) := by
          unfold zil
          rw [if_neg (by simp), if_neg (by simpa using hf), if_pos hm]
        rw [z14 (decide_eq_false (by omega)), hy]
        rfl
      . have hy : zil s 0 m = (((z4v s).1 : Int), s.drop (z4v s).2.1, 0) := by
          unfold zil
          rw [if_neg (by simp), if_neg (by simpa using hf), if_neg hm]
        have hd : (s.drop (z4v s).2.1).length <= 1000000 := by rw [List.length_drop]; have := h.1; omega
        rw [zb (decide_eq_true (by omega)), zb (decide_eq_true ⟨by omega, by omega, by omega⟩), Int.toNat_natCast, hy, zs4 hd]
        unfold zse
        rw [if_neg (by simp)]
        by_cases hl : ((s.drop (z4v s).2.1).length : Int) < (z4v s).1
        . rw [if_pos hl, z14 (decide_eq_false (by omega))]
          rfl
        . rw [if_neg hl, zb (decide_eq_true (by omega))]
          rfl
    . have hy : zil s 0 m = (0, [], (z4v s).2.2) := by
        unfold zil
        rw [if_neg (by simp), if_pos hf]
      rw [z14 (decide_eq_false hf), hy]
      unfold zse
      rw [if_pos hf]
      rfl
  . have hy : zil s e m = (0, s, e) := by
      unfold zil
      rw [if_pos he]
    rw [z14 (beq_eq_false_iff_ne.2 he), hy]
    unfold zse
    rw [if_pos he]

theorem z14y (s : List UInt8) {e : Int} (he : e ≠ 0) (most : Int) : zil s e most = (0, s, e) := by
  unfold zil
  rw [if_pos he]

theorem ztt (s : List UInt8) {e : Int} (he : e ≠ 0) (most : Int) : z4a s e most = ([], s, e) := by
  unfold z4a zse
  rw [z14y s he, if_pos he]

theorem zl5 (N : Nat) (hN : 20 < N) {t : List UInt8} (ht : t.length <= 1000000) : z48 N t = some (z5p t.length ++ t) := by
  have := z6y t.length
  rw [z48, zs4 ht, z16b N hN (by omega)]
  simp only [Option.bind_some]
  rw [zb (decide_eq_true (by omega))]

theorem zt1 (N : Nat) (hN : 20 < N) {n : Nat} (hn : n < 18446744073709551616) : z7n N (n : Int) = some (z5p n) := by
  rw [z7n, z16b N hN hn]
  rfl

end
end Go.Proofs.YtaackaafmidjkaaDoorLg
