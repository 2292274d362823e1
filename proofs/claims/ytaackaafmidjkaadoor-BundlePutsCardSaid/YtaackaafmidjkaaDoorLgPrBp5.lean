import Derived.Test.YtaackaafmidjkaaDoorLgPrBp3
import Derived.Test.YtaackaafmidjkaaDoorLgPrBp4
import Derived.WalkKit
import Derived.Tactics
import Derived.Tactics2
import Derived.Defers
import Derived.Lib.Hide
import Derived.Below
import Derived.WalkSmall
import Derived.LoopN
import Derived.Deep.Cut
import Derived.KernelRfl
import Derived.Laws.Rows
import Derived.Test.YtaackaafmidjkaaDoorChecked
import Derived.Test.YtaackaafmidjkaaDoorLgPrBp1
set_option linter.all false
set_option maxRecDepth 100000
namespace Go.Proofs.YtaackaafmidjkaaDoorLg
noncomputable section
open Go Go.Lift

abbrev Tok31 : T := .pair .str (.pair (.sl (.pair .str (.pair .str .unit))) (.pair .str .unit))

abbrev Bun31 : T := .pair Tok31 (.pair (.sl Tok31) .unit)

theorem zwi {S : Hp} {t : Tok31.den} {v : Value} (h : VR S Tok31 t v) : ∃ p n c, v = .agg #[.string ⟨⟨t.1⟩⟩, .slice p n c, .string ⟨⟨t.2.2.1⟩⟩] := by
  have h' : ∃ cs, v = .agg cs /\ Rd S Tok31 t cs.toList := h
  obtain ⟨cs, rfl, c1, c2, hc, k1, c3, c4, hc', ⟨p, cap, k2, _⟩, c5, c6, hc'', k3, k4⟩ := h'
  have e1 : c1 = [.string ⟨⟨t.1⟩⟩] := k1
  have e3 : c5 = [.string ⟨⟨t.2.2.1⟩⟩] := k3
  have e4 : c6 = [] := k4
  refine ⟨p, t.2.1.length, cap, ?_⟩
  congr 1
  apply Array.toList_inj.1
  rw [hc, hc', hc'', e1, k2, e3, e4]
  rfl

theorem z11p {S : Hp} : ∀ (ts : List Tok31.den) (cs : List Value), All (Rd S Tok31) ts cs -> ∀ i, i < ts.length -> ∃ p n c, Rd S Tok31 (ts.getD i ([], ([], ([], ())))) [.string ⟨⟨(ts.getD i ([], ([], ([], ())))).1⟩⟩, .slice p n c, .string ⟨⟨(ts.getD i ([], ([], ([], ())))).2.2.1⟩⟩] ∧
    cs[i * 3]? = some (.string ⟨⟨(ts.getD i ([], ([], ([], ())))).1⟩⟩) /\ cs[i * 3 + 1]? = some (.slice p n c) /\ cs[i * 3 + 2]? = some (.string ⟨⟨(ts.getD i ([], ([], ([], ())))).2.2.1⟩⟩)
  | [], _, _, i, hi => by cases hi
  | t :: ts, cs, h, i, hi => by
    obtain ⟨c1, c2, rfl, h1, h2⟩ := h
    obtain ⟨p, n, c, e⟩ := zwi (S := S) (t := t) (v := .agg c1.toArray) ⟨_, rfl, by simpa using h1⟩
    have e' : c1 = [.string ⟨⟨t.1⟩⟩, .slice p n c, .string ⟨⟨t.2.2.1⟩⟩] := by
      have := congrArg Array.toList (Value.agg.inj e)
      simpa using this
    subst e'
    cases i with
    | zero => exact ⟨p, n, c, by simpa using h1, by simp, by simp, by simp⟩
    | succ i =>
      obtain ⟨p', n', c', g1, g2, g3, g4⟩ := z11p ts c2 h2 i (by simpa using hi)
      refine ⟨p', n', c', by simpa using g1, ?_, ?_, ?_⟩
      . rw [show (i + 1) * 3 = i * 3 + 1 + 1 + 1 by omega]; simpa using g2
      . rw [show (i + 1) * 3 + 1 = i * 3 + 1 + 1 + 1 + 1 by omega]; simpa using g3
      . rw [show (i + 1) * 3 + 2 = i * 3 + 2 + 1 + 1 + 1 by omega]; simpa using g4

theorem z12l {S : Hp} {ts : List Tok31.den} {v : Value} (h : VR S (.sl Tok31) ts v) : ∃ a cap, v = .slice a ts.length cap /\ (0 < ts.length -> ∃ b off, a = some ⟨b, off, none⟩ /\ ∀ i, i < ts.length -> ∃ p n c, VR S Tok31 (ts.getD i ([], ([], ([], ())))) (.agg #[.string ⟨⟨(ts.getD i ([], ([], ([], ())))).1⟩⟩, .slice p n c, .string ⟨⟨(ts.getD i ([], ([], ([], ())))).2.2.1⟩⟩]) ∧
    ∀ w : World, Lift.Sub S (hp w) -> w.cell? ⟨b, off + i * 3, none⟩ = some (.string ⟨⟨(ts.getD i ([], ([], ([], ())))).1⟩⟩) /\ w.cell? ⟨b, off + i * 3 + 1, none⟩ = some (.slice p n c) /\ w.cell? ⟨b, off + i * 3 + 2, none⟩ = some (.string ⟨⟨(ts.getD i ([], ([], ([], ())))).2.2.1⟩⟩)) := by
  have h' : Rd S (.sl Tok31) ts [v] := h
  obtain ⟨a, cap, e, hcap, h1⟩ := h'
  refine ⟨a, cap, by simpa using e, fun hn => ?_⟩
  rcases h1 with rfl | ⟨b, off, c1, rfl, hl, ha⟩
  . cases hn
  . refine ⟨b, off, rfl, fun i hi => ?_⟩
    obtain ⟨p, n, c, g1, g2, g3, g4⟩ := z11p ts c1 ha i hi
    refine ⟨p, n, c, ⟨_, rfl, by simpa using g1⟩, fun w hw => ?_⟩
    have at' : ∀ j u, c1[j]? = some u -> w.cell? ⟨b, off + j, none⟩ = some u := fun j u hu => by
      obtain ⟨all, E, fr, c0, c2, q1, q2, q3⟩ := hl
      have q4 := hw _ _ q1
      have hb : w.heap[b]? = some (.cells all E fr) := q4
      have : all[off + j]? = some u := by
        rw [<- Array.getElem?_toList, q2, List.getElem?_append_right (by omega), q3, show off + j - off = j by omega, List.getElem?_append_left (List.getElem?_eq_some_iff.1 hu).1]
        exact hu
      simp [World.cell?, hb, this]
    exact ⟨at' _ _ g2, by rw [Nat.add_assoc]; exact at' _ _ g3, by rw [Nat.add_assoc]; exact at' _ _ g4⟩

theorem z16d {S : Hp} {t : Tok31.den} {ts : List Tok31.den} {v : Value} (h : VR S Bun31 (t, (ts, ())) v) : ∃ p n c a cap, v = .agg #[.string ⟨⟨t.1⟩⟩, .slice p n c, .string ⟨⟨t.2.2.1⟩⟩, .slice a ts.length cap] /\ VR S Tok31 t (.agg #[.string ⟨⟨t.1⟩⟩, .slice p n c, .string ⟨⟨t.2.2.1⟩⟩]) /\ VR S (.sl Tok31) ts (.slice a ts.length cap) := by
  have h' : ∃ cs, v = .agg cs /\ Rd S Bun31 (t, (ts, ())) cs.toList := h
  obtain ⟨cs, rfl, c1, c2, hc, k1, c3, c4, hc', k2, k3⟩ := h'
  obtain ⟨p, n, c, e1⟩ := zwi (S := S) (t := t) (v := .agg c1.toArray) ⟨_, rfl, by simpa using k1⟩
  have e1' : c1 = [.string ⟨⟨t.1⟩⟩, .slice p n c, .string ⟨⟨t.2.2.1⟩⟩] := by
    have := congrArg Array.toList (Value.agg.inj e1)
    simpa using this
  subst e1'
  have k2' := k2
  obtain ⟨a, cap, e3, hcap, hcc⟩ := k2'
  have e4 : c4 = [] := k3
  refine ⟨p, n, c, a, cap, ?_, ⟨_, rfl, by simpa using k1⟩, ?_⟩
  . congr 1
    apply Array.toList_inj.1
    rw [hc, hc', e3, e4]
    rfl
  . show Rd S (.sl Tok31) ts [.slice a ts.length cap]
    exact ⟨a, cap, rfl, hcap, hcc⟩

theorem zpd {w w' : World} {S : Hp} {args : List A} {vals : List Value} {r : A} {outs : List A} {e : Ending} (h : Lift.Ends w S args vals (fun _ => []) r outs e w') :
    ∃ v o S', e = .returned v /\ ARel (hp w') S' (fun _ => undef) r v o /\ w.grownBy w' none := by
  obtain ⟨v, S', o, ob', rfl, hwf, hSS, hSw, hnew, ⟨hr, _⟩, _⟩ := h
  exact ⟨v, o, S', rfl, hr, hwf.os, hwf.tape, hwf.output, hwf.size, fun k hk _ => hwf.same k hk (by rintro ⟨i, hi⟩; cases hi)⟩

theorem zk2 {w : World} {S : Hp} {a : A} {v : Value} (h : ARel (hp w) S (fun _ => undef) a v []) (hr : a.refs = []) : ArgsRel (hp w) S [a] [v] (fun _ => []) := by
  refine ⟨rfl, fun i y hy => ?_, fun _ _ => rfl, (fun i j b hb => by cases hb), fun _ => .nil, (fun i b hb => by cases hb)⟩
  cases i with
  | zero => simp at hy; subst hy; exact ⟨⟨v, rfl, h⟩, hr⟩
  | succ i => simp at hy

theorem zzu {w : World} {S : Hp} : ArgsRel (hp w) S [] [] (fun _ => []) := ⟨rfl, (fun i y hy => by simp at hy), fun _ _ => rfl, (fun i j b hb => by cases hb), fun _ => .nil, (fun i b hb => by cases hb)⟩

theorem z14y (w : World) : Lift.Sub z16w (hp w) := fun b o h => by cases h

theorem z14u (N : Nat) {w : World} {n : Int} {s : List UInt8} (hy : z8b N n = some s) :
    Calls Go.Proofs.Tryd.prog 20 #[.int .u64 n] w fun r w' => r = .returned (.string ⟨⟨s⟩⟩) /\ w.grownBy w' none := by
  refine ((zdu N).2 w z16w _ _ _ (zk2 (a := .v (.int .u64) n) ⟨VR.int, rfl⟩ rfl) (z14y w) (z9h _) _ hy).mono ?_
  intro e w' he
  obtain ⟨v, o, S', rfl, hr, hc⟩ := zpd he
  exact ⟨by rw [VR.str_inv hr.1], hc⟩

theorem z11v (N : Nat) {w : World} {t s : List UInt8} (hy : z4d N t = some s) :
    Calls Go.Proofs.Tryd.prog 52 #[.string ⟨⟨t⟩⟩] w fun r w' => r = .returned (.string ⟨⟨s⟩⟩) /\ w.grownBy w' none := by
  refine ((zo3 N).2 w z16w _ _ _ (zk2 (a := .v .str t) ⟨VR.str, rfl⟩ rfl) (z14y w) (z9h _) _ hy).mono ?_
  intro e w' he
  obtain ⟨v, o, S', rfl, hr, hc⟩ := zpd he
  exact ⟨by rw [VR.str_inv hr.1], hc⟩

theorem z13q {h S : Hp} {x : List UInt8} {c : Int} {v : Value} {o : List Nat} (hr : ARel h S (fun _ => undef) (.tup [⟨.str, x⟩, ⟨.int .i64, c⟩]) v o) : v = .tuple #[.string ⟨⟨x⟩⟩, .int .i64 c] := by
  obtain ⟨_, vs, rfl, ht⟩ := hr
  generalize hvs : vs.toList = l at ht
  cases ht with
  | cons h1 ht =>
  cases ht with
  | cons h2 ht =>
  cases ht
  congr 1
  apply Array.toList_inj.1
  rw [hvs, VR.str_inv h1, VR.int_inv h2]

theorem z13r (N : Nat) {w : World} {S : Hp} (hS : Lift.Sub S (hp w)) (hg : GlobOk glob S) {t : Tok31.den} {v : Value} (hv : VR S Tok31 t v) {x : List UInt8} {c : Int} (hy : zev N t = some (x, (c, ()))) :
    Calls Go.Proofs.Tryd.prog 51 #[v] w fun r w' => r = .returned (.tuple #[.string ⟨⟨x⟩⟩, .int .i64 c]) /\ w.grownBy w' none := by
  refine ((zwe N).2 w S _ _ _ (zk2 (a := .v Tok31 t) ⟨hv, rfl⟩ rfl) hS hg _ hy).mono ?_
  intro e w' he
  obtain ⟨v, o, S', rfl, hr, hc⟩ := zpd he
  exact ⟨by rw [z13q hr], hc⟩

theorem zbi {w w' : World} {S : Hp} {row : Option Nat} (hS : Lift.Sub S (hp w)) (h : w.grownBy w' row) (hr : ∀ k, row = some k -> S k = none) : Lift.Sub S (hp w') := by
  intro k o hk
  have h3 := hS k o hk
  have hlt : k < w.heap.size := (Array.getElem?_eq_some_iff.1 (show w.heap[k]? = some o from h3)).1
  have := h.block k hlt (fun e => by rw [hr k e.symm] at hk; cases hk)
  simp only [hp] at h3 ⊢
  rw [this]; exact h3

theorem z7x {w w1 w2 : World} {row : Option Nat} (h : w.grownBy w1 row) (g : w1.grownBy w2 none) : w.grownBy w2 row :=
  ⟨g.os.trans h.os, g.tape.trans h.tape, g.output.trans h.output, Nat.le_trans h.size g.size, fun k hk hne => (g.block k (Nat.lt_of_lt_of_le hk h.size) (by simp)).trans (h.block k hk hne)⟩

theorem z8z {w w1 w2 : World} {row : Option Nat} (h : w.grownBy w1 none) (g : w1.grownBy w2 row) : w.grownBy w2 row :=
  ⟨g.os.trans h.os, g.tape.trans h.tape, g.output.trans h.output, Nat.le_trans h.size g.size, fun k hk hne => (g.block k (Nat.lt_of_lt_of_le hk h.size) hne).trans (h.block k hk (by simp))⟩

theorem z70 {w w1 : World} {c : Nat} {row : Option Nat} (h : w.grownBy w1 row) (hr : row = none \/ row = some c) (cap : Nat) (buf : Array Value) (cl : Bool) (s r : Nat) (tm : Bool) : w.grownBy (w1.setChan c cap buf cl s r tm) (some c) := by
  refine ⟨h.os, h.tape, h.output, by rw [Conc.size_setChan]; exact h.size, fun k hk hne => ?_⟩
  have hk' : w1.heap[k]? = w.heap[k]? := h.block k hk (by
    rcases hr with rfl | rfl
    . simp
    . exact hne)
  have hne' : c ≠ k := fun e => hne (by rw [e])
  rw [<- hk']
  simp only [World.setChan]
  rw [Array.getElem?_setIfInBounds_ne hne']

theorem zmf {w w1 w2 : World} {row : Option Nat} (h : w.grownBy w1 row) (g : w1.grownBy w2 row) : w.grownBy w2 row :=
  ⟨g.os.trans h.os, g.tape.trans h.tape, g.output.trans h.output, Nat.le_trans h.size g.size, fun k hk hne => (g.block k (Nat.lt_of_lt_of_le hk h.size) hne).trans (h.block k hk hne)⟩

def zjt (N : Nat) (t : Tok31.den) : Option (Int × List UInt8) := (zev N t).bind fun q => if q.2.1 = 0 then (z4d N q.1).bind fun y => some (0, y) else some (q.2.1, [])

set_option maxHeartbeats 1000000 in
theorem zlc (N : Nat) {w : World} {S : Hp} (hS : Lift.Sub S (hp w)) (hg : GlobOk glob S) {c cap s r : Nat} {buf : Array Value} {tm : Bool} (hc : w.heap[c]? = some (.chan cap buf false s r tm)) (hroom : buf.size < cap)
    {t : Tok31.den} {p : Option Addr} {n k : Nat} (hv : VR S Tok31 t (.agg #[.string ⟨⟨t.1⟩⟩, .slice p n k, .string ⟨⟨t.2.2.1⟩⟩])) {e : Int} {y : List UInt8} (hy : zjt N t = some (e, y)) :
    Calls Go.Proofs.Tryd.prog 30 #[.chan (some c), .agg #[.string ⟨⟨t.1⟩⟩, .slice p n k, .string ⟨⟨t.2.2.1⟩⟩]] w fun q w' => q = .returned (.int .i64 e) /\ w.grownBy w' (some c) /\ (¬ e = 0 -> w'.heap[c]? = some (.chan cap buf false s r tm)) /\ (e = 0 -> w'.heap[c]? = some (.chan cap (buf.push (.string ⟨⟨y⟩⟩)) false (s + 1) r tm)) := by
  obtain ⟨⟨x, e0, ⟨⟩⟩, hx, hy⟩ := Option.bind_eq_some_iff.1 hy
  dsimp only at hy
  suffices HX : ∀ R : Ending -> World -> Prop, Go.RowKit.Hid (∀ w', w.grownBy w' (some c) -> (¬ e = 0 -> w'.heap[c]? = some (.chan cap buf false s r tm)) -> (e = 0 -> w'.heap[c]? = some (.chan cap (buf.push (.string ⟨⟨y⟩⟩)) false (s + 1) r tm)) -> R (.returned (.int .i64 e)) w') -> Calls Go.Proofs.Tryd.prog 30 #[.chan (some c), .agg #[.string ⟨⟨t.1⟩⟩, .slice p n k, .string ⟨⟨t.2.2.1⟩⟩]] w R from HX _ (Go.Lib.hid (fun w' a b d => ⟨rfl, a, b, d⟩))
  intro R HR
  have hcl : c < w.heap.size := (Array.getElem?_eq_some_iff.1 hc).1
  have HC := Go.Lib.hid hc
  have hga : ∀ (cs : Array Value) (E : Nat), w.grownBy (w.alloc (.cells cs E)) none := fun cs E => World.grownBy_alloc w _ none
  have HG := Go.Lib.hid hga
  have HT := fun (cs : Array Value) (E : Nat) => z13r N (w := w.alloc (.cells cs E)) (zbi hS (hga cs E) (by simp)) hg hv hx
  have HY := Go.Lib.hid hy
  have HRm := Go.Lib.hid hroom
  clear hy hc hv hx hS hga hroom
  go_enter Go.Proofs.Tryd.func30, Go.Proofs.Tryd.ntmps30
  go_upto_region 4 with (go_at_call 51; refine (HT _ _).mono ?_; rintro q w1 ⟨rfl, hw1⟩; have HW := Go.Lib.hid hw1; clear HT hw1)
  . rename_i hb
    have he := HY.out
    rw [if_neg (bne_iff_ne.1 hb)] at he
    cases he
    have hw2 := z7x (HG.out _ _) HW.out
    exact HR.out _ ⟨hw2.os, hw2.tape, hw2.output, hw2.size, fun k hk _ => hw2.block k hk (by simp)⟩ (fun _ => (hw2.block c hcl (by simp)).trans HC.out) (fun h => absurd h (bne_iff_ne.1 hb))
  . rename_i hb K5 hK5
    have he := HY.out
    have hz : e0 = 0 := by simpa using hb
    subst hz
    rw [if_pos rfl] at he
    obtain ⟨y', hy', he⟩ := Option.bind_eq_some_iff.1 he
    cases he
    have HF := Go.Lib.hid (z11v N (w := w1) hy')
    clear hy' HY
    refine zat 3 (by decide) rfl (fun K hK => ?_)
    simp only [List.take_succ_cons, List.take_zero]
    go_wp2_with (go_at_call 52; refine HF.out.mono ?_; rintro q w2 ⟨rfl, hw2⟩; have HW2 := Go.Lib.hid hw2; clear HF hw2)
    have g1 : w.grownBy w1 none := z7x (HG.out _ _) HW.out
    have g2 : w.grownBy w2 none := z7x g1 HW2.out
    have hc2 : w2.heap[c]? = some (.chan cap buf false s r tm) := (g2.block c hcl (by simp)).trans HC.out
    have hc3 := Conc.heap_setChan w2 c cap (buf.push (.string ⟨⟨y⟩⟩)) false (s + 1) r tm (Array.getElem?_eq_some_iff.1 hc2).1
    refine RegWp.send (c := c) (cap := cap) (s := s) (r := r) (buf := buf) (tm := tm) (v := .string ⟨⟨y⟩⟩) (rest := []) rfl rfl rfl rfl rfl hc2 HRm.out (RegWp.nil ?_)
    have g3 := z70 (c := c) g2 (.inl rfl) cap (buf.push (.string ⟨⟨y⟩⟩)) false (s + 1) r tm
    generalize w2.setChan c cap (buf.push (.string ⟨⟨y⟩⟩)) false (s + 1) r tm = w3 at g3 hc3 ⊢
    have G3 := Go.Lib.hid g3
    have H3 := Go.Lib.hid hc3
    clear g1 g2 g3 hc2 hc3
    refine hK5 _ _ ?_
    go_wp2
    exact HR.out _ G3.out (fun h => absurd trivial h) (fun _ => H3.out)

def zj3 (N : Nat) : List Tok31.den -> Option (Int × List (List UInt8))
  | [] => some (0, [])
  | t :: ts => (zjt N t).bind fun q => if q.1 = 0 then (zj3 N ts).bind fun r => some (r.1, q.2 :: r.2) else some (q.1, [])

def zyk (N : Nat) (t : Tok31.den) (ts : List Tok31.den) : Option (Int × List (List UInt8)) :=
 (zjt N t).bind fun q => if q.1 = 0 then (z8b N (ts.length : Int)).bind fun m => (zj3 N ts).bind fun r => some (r.1, q.2 :: m :: r.2) else some (q.1, [])

def zwp (s : List UInt8) : Value := .string ⟨⟨s⟩⟩

theorem z12g (N : Nat) {ts : List Tok31.den} {k : Nat} (hk : k < ts.length) {e : Int} {l : List (List UInt8)} (h : zj3 N (ts.drop k) = some (e, l)) :
    ∃ e1 y, zjt N (ts.getD k ([], ([], ([], ())))) = some (e1, y) /\ (¬ e1 = 0 -> e = e1) /\ (e1 = 0 -> ∃ l', zj3 N (ts.drop (k + 1)) = some (e, l') /\ l = y :: l') := by
  rw [List.drop_eq_getElem_cons hk, zj3] at h
  obtain ⟨⟨e1, y⟩, h1, h2⟩ := Option.bind_eq_some_iff.1 h
  refine ⟨e1, y, by rw [List.getD_eq_getElem?_getD, List.getElem?_eq_getElem hk]; exact h1, fun hn => ?_, fun hz => ?_⟩
  . dsimp only at h2; rw [if_neg hn] at h2; cases h2; rfl
  . dsimp only at h2; rw [if_pos hz] at h2
    obtain ⟨⟨e2, l2⟩, h3, h4⟩ := Option.bind_eq_some_iff.1 h2
    cases h4
    exact ⟨l2, h3, rfl⟩

theorem zja {P : Program} {w : World} {ats : Array TypeId} {ty : TypeId} {cn : Array Bool} {c cap s r : Nat} {buf : Array Value} {tm : Bool} (h : w.heap[c]? = some (.chan cap buf false s r tm)) :
    (invoke (.builtin .close ats ty cn) #[.chan (some c)]).run P w = .ok (.value (.tuple #[])) (w.setChan c cap buf true s r tm) := by
  have := run_close_open (P := P) ats ty h
  simp only [invoke, builtin, Sem.run_bind, this, Result.andThen_ok, Sem.run_pure]
  rfl

set_option maxHeartbeats 2000000 in
theorem z146 (N : Nat) {w : World} {S : Hp} (hS : Lift.Sub S (hp w)) (hg : GlobOk glob S) {c : Nat} (hc : w.heap[c]? = some (.chan 10 #[] false 0 0 false)) (hSc : S c = none)
    {t : Tok31.den} {ts : List Tok31.den} {p a : Option Addr} {n k cap : Nat} (hv : VR S Tok31 t (.agg #[.string ⟨⟨t.1⟩⟩, .slice p n k, .string ⟨⟨t.2.2.1⟩⟩])) (hm : VR S (.sl Tok31) ts (.slice a ts.length cap)) (h8 : ts.length <= 8) {e : Int} {l : List (List UInt8)} (hy : zyk N t ts = some (e, l)) :
    Calls Go.Proofs.Tryd.prog 16 #[.chan (some c), .agg #[.string ⟨⟨t.1⟩⟩, .slice p n k, .string ⟨⟨t.2.2.1⟩⟩, .slice a ts.length cap]] w fun q w' => q = .returned (.int .i64 e) /\ w.grownBy w' (some c) /\ (e = 0 -> ∃ s', w'.heap[c]? = some (.chan 10 (l.map zwp).toArray true s' 0 false)) := by
  obtain ⟨⟨e0, y0⟩, hx, hy⟩ := Option.bind_eq_some_iff.1 hy
  dsimp only at hy
  suffices HX : ∀ R : Ending -> World -> Prop, Go.RowKit.Hid (∀ w', w.grownBy w' (some c) -> (e = 0 -> ∃ s', w'.heap[c]? = some (.chan 10 (l.map zwp).toArray true s' 0 false)) -> R (.returned (.int .i64 e)) w') -> Calls Go.Proofs.Tryd.prog 16 #[.chan (some c), .agg #[.string ⟨⟨t.1⟩⟩, .slice p n k, .string ⟨⟨t.2.2.1⟩⟩, .slice a ts.length cap]] w R from HX _ (Go.Lib.hid (fun w' a b => ⟨rfl, a, b⟩))
  intro R HR
  obtain ⟨a', cap', hsl, hel⟩ := z12l hm
  cases hsl
  have hcl : c < w.heap.size := (Array.getElem?_eq_some_iff.1 hc).1
  have HC := Go.Lib.hid hc
  have hga : ∀ (cs : Array Value) (E : Nat), w.grownBy (w.alloc (.cells cs E)) none := fun cs E => World.grownBy_alloc w _ none
  have HG := Go.Lib.hid hga
  have HS := Go.Lib.hid hS
  have HGl := Go.Lib.hid hg
  have HSc := Go.Lib.hid hSc
  have HE := Go.Lib.hid hel
  have HT := Go.Lib.hid (fun (cs : Array Value) (E : Nat) => zlc N (w := w.alloc (.cells cs E)) (zbi hS (hga cs E) (by simp)) hg (((hga cs E).block c hcl (by simp)).trans hc) (by decide) hv hx)
  have HY := Go.Lib.hid hy
  obtain ⟨m, hmm⟩ : ∃ m, m = ts.length := ⟨_, rfl⟩
  have HM := Go.Lib.hid hmm
  rw [<- hmm] at h8 ⊢
  clear hy hc hv hx hS hga hm hel hg hSc hmm
  refine zmp Go.Proofs.Tryd.func16 rfl ?_
  simp only [Go.Proofs.Tryd.ntmps16, List.size_toArray, List.length_cons, List.length_nil, Nat.reduceAdd, Nat.reduceSub, Array.replicate_succ, Array.replicate_zero, List.push_toArray, List.append_toArray, List.nil_append, List.cons_append]
  go_upto_region 5 with (go_at_call 30; refine (HT.out _ _).mono ?_; rintro q w1 ⟨rfl, hw1, hw1a, hw1b⟩; have HW := Go.Lib.hid hw1; have HWa := Go.Lib.hid hw1a; have HWb := Go.Lib.hid hw1b; clear HT hw1 hw1a hw1b)
  . rename_i hb
    have hne : ¬ e0 = 0 := bne_iff_ne.1 hb
    have he := HY.out
    rw [if_neg hne] at he
    cases he
    have hc1 := HWa.out hne
    refine ⟨_, _, _, _, rfl, ⟨_, _, _, _, rfl⟩, zja hc1, ?_, HR.out _ (z70 (z8z (HG.out _ _) HW.out) (.inr rfl) ..) (fun h => absurd h hne)⟩
    simp [results, Go.Proofs.Tryd.results16, go_sem]
  . rename_i hb K5 hK5
    have hz : e0 = 0 := by simpa using hb
    subst hz
    have he := HY.out
    rw [if_pos rfl] at he
    obtain ⟨y1, hy1, he⟩ := Option.bind_eq_some_iff.1 he
    obtain ⟨⟨e2, l2⟩, hp, he⟩ := Option.bind_eq_some_iff.1 he
    cases he
    rw [<- HM.out] at hy1
    have HF := Go.Lib.hid (z14u N (w := w1) hy1)
    have hcell := HW.out.cell (a := ⟨w.heap.size, 3, none⟩) (v := .slice a m cap) (by rw [World.cell?_alloc_at _ _ _ _ rfl]; rfl) (by simp; omega)
    have HP := Go.Lib.hid hp
    have hc1 := HWb.out rfl
    have HC1 := Go.Lib.hid hc1
    clear HY hp hc1 HWa HWb hy1 
    refine zat 6 (by decide) rfl (fun K hK => ?_)
    simp only [List.take_succ_cons, List.take_zero]
    go_wp2_with (go_at_call 20; refine HF.out.mono ?_; rintro q w2 ⟨rfl, hw2⟩; have HW2 := Go.Lib.hid hw2; clear HF hw2)
    have hc2 : w2.heap[c]? = some (.chan 10 (#[].push (.string ⟨⟨y0⟩⟩)) false (0 + 1) 0 false) := (HW2.out.block c (Array.getElem?_eq_some_iff.1 HC1.out).1 (by simp)).trans HC1.out
    have g2 : w.grownBy w2 (some c) := z7x (z8z (HG.out _ _) HW.out) HW2.out
    have hcell2 := HW2.out.cell hcell (by simp)
    have hc3 := Conc.heap_setChan w2 c 10 ((#[].push (.string ⟨⟨y0⟩⟩)).push (.string ⟨⟨y1⟩⟩)) false (0 + 1 + 1) 0 false (Array.getElem?_eq_some_iff.1 hc2).1
    refine RegWp.send (c := c) (cap := 10) (s := 0 + 1) (r := 0) (buf := #[].push (.string ⟨⟨y0⟩⟩)) (tm := false) (v := .string ⟨⟨y1⟩⟩) (rest := []) rfl rfl rfl rfl rfl hc2 (by simp) (RegWp.nil ?_)
    have g3 := z70 (c := c) g2 (.inr rfl) 10 ((#[].push (.string ⟨⟨y0⟩⟩)).push (.string ⟨⟨y1⟩⟩)) false (0 + 1 + 1) 0 false
    have hcell3 : (w2.setChan c 10 ((#[].push (.string ⟨⟨y0⟩⟩)).push (.string ⟨⟨y1⟩⟩)) false (0 + 1 + 1) 0 false).cell? ⟨w.heap.size, 3, none⟩ = some (.slice a m cap) := by
      rw [<- hcell2]
      apply World.cell?_of_block
      simp only [World.setChan]
      rw [Array.getElem?_setIfInBounds_ne (by omega)]
    generalize w2.setChan c 10 ((#[].push (.string ⟨⟨y0⟩⟩)).push (.string ⟨⟨y1⟩⟩)) false (0 + 1 + 1) 0 false = w3 at g3 hc3 hcell3 ⊢
    have G3 := Go.Lib.hid g3
    have H3 := Go.Lib.hid hc3
    clear g2 g3 hc2 hc3 hcell hcell2
    refine hK5 _ _ ?_
    go_wp2
    go_loopw [26] (fun i wr => ∃ j : Nat, i = .int .i64 (j : Int) /\ j <= m /\ w.grownBy wr (some c) /\ ∃ (buf : Array Value) (s : Nat), wr.heap[c]? = some (.chan 10 buf false s 0 false) /\ buf.size = 2 + j /\ ∃ l', zj3 N (ts.drop j) = some (e2, l') /\ (e2 = 0 -> buf.toList ++ l'.map zwp = (y0 :: y1 :: l2).map zwp)) (fun i _ => m - (Go.RowKit.intOf i).toNat)
    case atStart => exact ⟨0, rfl, Nat.zero_le _, G3.out, _, _, H3.out, rfl, l2, HP.out, fun _ => rfl⟩
    case round =>
      obtain ⟨j, rfl, hj, hgr, buf, s, hch, hbs, l', hpj, htot⟩ := hrel
      have HGR := Go.Lib.hid hgr
      have HCH := Go.Lib.hid hch
      have HBS := Go.Lib.hid hbs
      have HTOT := Go.Lib.hid htot
      have HPJ := Go.Lib.hid hpj
      have HJ := Go.Lib.hid hj
      clear hch hbs htot hpj
      have hclr : c < wr.heap.size := Nat.lt_of_lt_of_le hcl hgr.size
      rcases Nat.lt_or_ge j m with hlt | hge
      . have hd : decide ((j : Int) < (m : Int)) = true := decide_eq_true (by omega)
        have hb1 : (0 : Int) <= (j : Int) := by omega
        have hb2 : (j : Int) < (m : Int) := by omega
        have hjl : j < ts.length := by have := HM.out; omega
        obtain ⟨b, off, hab, hall⟩ := HE.out (by omega)
        subst hab
        obtain ⟨p', n', c', hv', hcc⟩ := hall j hjl
        have hSr := zbi HS.out hgr (fun q e => by cases e; exact HSc.out)
        obtain ⟨z1, z2, z3⟩ := hcc wr hSr
        obtain ⟨e1, y, htk, hne, hze⟩ := z12g N hjl HPJ.out
        generalize ts.getD j ([], ([], ([], ()))) = tj at hv' z1 z2 z3 htk
        have HTj := Go.Lib.hid (fun (cs : Array Value) (E : Nat) => zlc N (w := wr.alloc (.cells cs E)) (zbi hSr (World.grownBy_alloc wr _ none) (by simp)) HGl.out (((World.grownBy_alloc wr (.cells cs E) none).block c hclr (by simp)).trans HCH.out) (by have := HBS.out; omega) hv' htk)
        have HNE := Go.Lib.hid hne
        have HZE := Go.Lib.hid hze
        have HGA := Go.Lib.hid (fun (cs : Array Value) (E : Nat) => World.grownBy_alloc wr (.cells cs E) none)
        have hj8 : (j : Int) + 1 <= 9 := by omega
        clear hne hze htk hv' hall hcc hSr hgr hjl hclr
        go_wp2_with (go_at_call 30; refine (HTj.out _ _).mono ?_; rintro q w5 ⟨rfl, hw5, hw5a, hw5b⟩; have HW5 := Go.Lib.hid hw5; have HWa5 := Go.Lib.hid hw5a; have HWb5 := Go.Lib.hid hw5b; clear HTj hw5 hw5a hw5b)
        . rename_i hb
          have hn1 : ¬ e1 = 0 := bne_iff_ne.1 hb
          have he := HNE.out hn1
          subst he
          have hc5 := HWa5.out hn1
          refine ⟨_, _, _, _, rfl, ⟨_, _, _, _, rfl⟩, zja hc5, ?_, HR.out _ (z70 (zmf HGR.out (z8z (HGA.out _ _) HW5.out)) (.inr rfl) ..) (fun h => absurd h hn1)⟩
          simp [results, Go.Proofs.Tryd.results16, go_sem]
        . rename_i hb
          have hz : e1 = 0 := by simpa using hb
          obtain ⟨l'', hp1, hl1⟩ := HZE.out hz
          have hc5 := HWb5.out hz
          refine ⟨⟨j + 1, by rw [Int.natCast_add]; rfl, by omega, zmf HGR.out (z8z (HGA.out _ _) HW5.out), _, _, hc5, by have := HBS.out; simp; omega, l'', hp1, fun h => ?_⟩, ?_⟩
          . have := HTOT.out h
            rw [<- this, hl1]
            simp [zwp]
          . show m - ((j : Int) + 1).toNat < m - (j : Int).toNat
            omega
      . have hjm : j = m := by omega
        subst hjm
        have hd : decide ((j : Int) < (j : Int)) = false := decide_eq_false (by omega)
        have hpj := HPJ.out
        rw [List.drop_of_length_le (by have := HM.out; omega)] at hpj
        cases hpj
        go_wp2
        refine ⟨_, _, _, _, rfl, ⟨_, _, _, _, rfl⟩, zja HCH.out, ?_, HR.out _ (z70 HGR.out (.inr rfl) ..) (fun _ => ⟨s, ?_⟩)⟩
        . simp [results, Go.Proofs.Tryd.results16, go_sem]
        . have hb : buf = ((y0 :: y1 :: l2).map zwp).toArray := by
            have := HTOT.out trivial
            apply Array.toList_inj.1
            simpa using this
          rw [<- hb]
          exact Conc.heap_setChan _ _ _ _ _ _ _ _ hclr

abbrev BlT : T := .pair (.self 68) (.pair (.own (.byt 5)) .unit)

def JSt (w0 w : World) (c B : Nat) (xs : List UInt8) : Prop :=
 ∃ S o, w0.grownBy w (some c) /\ Lift.Sub S (hp w) /\ (∀ k, S k ≠ none -> w0.heap.size <= k) /\ ARel (hp w) S (fun _ => undef) (.box BlT ((), (ofStr xs, ()))) (.pointer (some ⟨B, 0, none⟩)) o /\ o.Nodup /\ (∀ k ∈ o, S k = none /\ w0.heap.size <= k)

theorem z13a {h h' S : Hp} {t : T} {x : t.den} {v : Value} {o : List Nat} (hr : ARel h S (fun _ => undef) (.box t x) v o) (hs : ∀ k ∈ o, h' k = h k) : ARel h' S (fun _ => undef) (.box t x) v o := by
  obtain ⟨b, cs, E, fr, bs, rfl, rfl, hb, hf, hR⟩ := hr
  exact ⟨b, cs, E, fr, bs, rfl, rfl, by rw [hs b (by simp)]; exact hb, hf, hR.mono (Lift.Sub.refl S) _ _ _ _ (fun k hk => hs k (by simp [hk]))⟩

theorem JSt.chan {w0 w : World} {c B : Nat} {xs : List UInt8} (h : JSt w0 w c B xs) (hc : c < w0.heap.size) (cap : Nat) (buf : Array Value) (cl : Bool) (s r : Nat) (tm : Bool) : JSt w0 (w.setChan c cap buf cl s r tm) c B xs := by
  obtain ⟨S, o, h1, h2, h3, h4, h5, h6⟩ := h
  have hne : ∀ k, k ≠ c -> hp (w.setChan c cap buf cl s r tm) k = hp w k := fun k hk => by
    simp only [hp, World.setChan]
    rw [Array.getElem?_setIfInBounds_ne (Ne.symm hk)]
  refine ⟨S, o, z70 h1 (.inr rfl) .., fun k q hk => ?_, h3, z13a h4 (fun k hk => hne k (by have := (h6 k hk).2; omega)), h5, h6⟩
  rw [hne k (by have := h3 k (by rw [hk]; simp); omega)]
  exact h2 k q hk

theorem zsd (s : List UInt8) : (ofStr s).length = s.length := by simp [ofStr]

theorem z14s (a b : List UInt8) : ofStr (a ++ b) = ofStr a ++ ofStr b := by simp [ofStr]

theorem z13h (N : Nat) {w0 w : World} {c B : Nat} {xs s : List UInt8} (h : JSt w0 w c B xs) (hc : c < w0.heap.size) (hl : xs.length + s.length <= 70368744177664) :
    Calls Go.Proofs.Tryd.prog 31 #[.pointer (some ⟨B, 0, none⟩), .string ⟨⟨s⟩⟩] w fun q w' => (∃ v, q = .returned v) /\ JSt w0 w' c B (xs ++ s) /\ w'.heap[c]? = w.heap[c]? := by
  obtain ⟨S, o, h1, h2, h3, h4, h5, h6⟩ := h
  have hy : zb N ((), (ofStr xs, ())) s = some (((((s.length : Nat) : Int)), (Go.Value.nilIface, ())), (((), (ofStr (xs ++ s), ())), ())) := by
    unfold zb
    rw [decide_eq_true (by rw [zsd, zsd]; simpa using hl), z14s]
    rfl
  have har := z11o h4 h5 (fun k hk => (h6 k hk).1) (zk2 (w := w) (a := .v .str s) (v := .string ⟨⟨s⟩⟩) ⟨VR.str, rfl⟩ rfl)
  refine ((z3o N).2 w S _ _ _ har h2 (z9h S) _ hy).mono ?_
  rintro e w' ⟨v, S', q, ob', rfl, hwf, hSS, hSw, hnew, ⟨hr, _⟩, hq, _, hbox, hob1, hob2, hob3, _⟩
  have hin : ∀ k, (∃ i, k ∈ (fun i => if i = 0 then o else []) i) -> k ∈ o := by
    rintro k ⟨i, hi⟩
    by_cases hi0 : i = 0
    . simpa [hi0] using hi
    . simp [hi0] at hi
  have hlo : ∀ k, k < w0.heap.size -> ¬ k ∈ o := fun k hk hm => by have := (h6 k hm).2; omega
  have hsz := h1.size
  have hcw : w'.heap[c]? = w.heap[c]? := hwf.same c (by omega) (fun hh => hlo c hc (hin c hh))
  obtain ⟨x2, v2, g1, g2, _, g4⟩ := hbox 0 _ rfl rfl
  have g1' : some (A.box BlT ((), (ofStr (xs ++ s), ()))) = some x2 := g1
  cases g1'
  simp at g2
  subst g2
  refine ⟨⟨v, rfl⟩, ⟨S', ob' 0, ⟨hwf.os.trans h1.os, hwf.tape.trans h1.tape, hwf.output.trans h1.output, Nat.le_trans hsz hwf.size, fun k hk hne => ?_⟩, hSw, fun k hk => ?_, g4, hob3 0, fun k hk => ⟨(hob1 0 k hk).2.1, ?_⟩⟩, hcw⟩
  . rw [hwf.same k (by omega) (fun hh => hlo k hk (hin k hh))]
    exact h1.block k hk hne
  . rcases hnew k hk with h | h | h
    . exact h3 k h
    . exact (h6 k (hin k h)).2
    . omega
  . rcases (hob1 0 k hk).1 with h | h
    . exact (h6 k (hin k h)).2
    . omega

theorem z12i (s : List UInt8) : zp3 (ofStr s) = true := by
  unfold zp3 ofStr
  rw [List.all_eq_true]
  intro n hn
  obtain ⟨b, _, rfl⟩ := List.mem_map.1 hn
  have := b.toNat_lt
  simp; omega

theorem z11u (s : List UInt8) : toStr (ofStr s) = s := by
  unfold toStr ofStr
  rw [List.map_map]
  conv => rhs; rw [<- List.map_id s]
  apply List.map_congr_left
  intro b _
  simp

theorem z11x (N : Nat) {w0 w : World} {c B : Nat} {xs : List UInt8} (h : JSt w0 w c B xs) (hl : xs.length <= 70368744177664) :
    Calls Go.Proofs.Tryd.prog 32 #[.pointer (some ⟨B, 0, none⟩)] w fun q w' => q = .returned (.string ⟨⟨xs⟩⟩) /\ w0.grownBy w' (some c) := by
  obtain ⟨S, o, h1, h2, h3, h4, h5, h6⟩ := h
  have hy : zyi (((), (ofStr xs, ())), ()) = some (xs, (((), ((), ())), ())) := by
    unfold zyi
    dsimp only
    rw [z12i, decide_eq_true (by rw [zsd]; omega), z11u]
    rfl
  have har := z11o h4 h5 (fun k hk => (h6 k hk).1) (zzu (w := w) (S := S))
  refine ((z194 za).2 w S _ _ _ har h2 (z9h S) _ hy).mono ?_
  rintro e w' ⟨v, S', q, ob', rfl, hwf, hSS, hSw, hnew, ⟨hr, _⟩, _⟩
  have hin : ∀ k, (∃ i, k ∈ (fun i => if i = 0 then o else []) i) -> k ∈ o := by
    rintro k ⟨i, hi⟩
    by_cases hi0 : i = 0
    . simpa [hi0] using hi
    . simp [hi0] at hi
  have hv : VR S' .str xs v := hr.1
  have hsz := h1.size
  exact ⟨by rw [VR.str_inv hv], hwf.os.trans h1.os, hwf.tape.trans h1.tape, hwf.output.trans h1.output, Nat.le_trans hsz hwf.size, fun k hk hne => (hwf.same k (by omega) (fun hh => by have := (h6 k (hin k hh)).2; omega)).trans (h1.block k hk hne)⟩

def zsv (w : World) (c : Nat) : Nat := match w.heap[c]? with | some (.chan _ buf _ _ _ _) => buf.size | _ => 0

theorem JSt.start (w : World) (c : Nat) : JSt w (w.alloc (.cells #[.pointer none, .slice none 0 0] 68)) c w.heap.size [] := by
  refine ⟨z16w, [w.heap.size], ?_, z14y _, fun k hk => absurd rfl hk, ?_, by simp, fun k hk => ⟨rfl, by simp at hk; omega⟩⟩
  . exact World.grownBy_alloc w _ _
  . refine ⟨w.heap.size, #[.pointer none, .slice none 0 0], 68, (0, 0), [], rfl, rfl, ?_, ?_, ?_⟩
    . exact heap_alloc_new w _
    . exact ⟨Nat.le_refl _, fun i _ h => by omega⟩
    . exact ⟨[.pointer none], [.slice none 0 0], [], [], rfl, rfl, ⟨rfl, _, rfl, rfl, .inl rfl⟩, [.slice none 0 0], [], [], [], rfl, rfl, ⟨_, rfl, .inl ⟨rfl, ⟨none, rfl, fun _ _ => rfl⟩, rfl⟩⟩, rfl, rfl⟩

set_option maxHeartbeats 2000000 in
theorem z15e (N : Nat) {w : World} {c s r : Nat} {l : List (List UInt8)} (hc : w.heap[c]? = some (.chan 10 (l.map zwp).toArray true s r false)) (hlen : l.flatten.length <= 70368744177664) :
    Calls Go.Proofs.Tryd.prog 17 #[.chan (some c)] w fun q w' => q = .returned (.string ⟨⟨l.flatten⟩⟩) /\ w.grownBy w' (some c) := by
  suffices HX : ∀ R : Ending -> World -> Prop, Go.RowKit.Hid (∀ w', w.grownBy w' (some c) -> R (.returned (.string ⟨⟨l.flatten⟩⟩)) w') -> Calls Go.Proofs.Tryd.prog 17 #[.chan (some c)] w R from HX _ (Go.Lib.hid (fun w' a => ⟨rfl, a⟩))
  intro R HR
  have hcl : c < w.heap.size := (Array.getElem?_eq_some_iff.1 hc).1
  have HJ := Go.Lib.hid (JSt.start w c)
  have HC := Go.Lib.hid (((World.grownBy_alloc w (.cells #[.pointer none, .slice none 0 0] 68) none).block c hcl (by simp)).trans hc)
  have HCL := Go.Lib.hid hcl
  clear hc hcl
  go_enter Go.Proofs.Tryd.func17, Go.Proofs.Tryd.ntmps17
  go_wp2
  go_loopw [] (fun wr => ∃ l1 l2 : List (List UInt8), l = l1 ++ l2 /\ JSt w wr c w.heap.size l1.flatten /\ ∃ s r, wr.heap[c]? = some (.chan 10 (l2.map zwp).toArray true s r false)) (fun wr => zsv wr c)
  case atStart => exact ⟨[], l, rfl, HJ.out, s, r, HC.out⟩
  case round =>
    obtain ⟨l1, l2, hl, hj, s1, r1, hch⟩ := hrel
    have HJr := Go.Lib.hid hj
    have HCr := Go.Lib.hid hch
    have HL := Go.Lib.hid hl
    clear hj hch hl
    go_upto_region 3 with (fail)
    rename_i K3 hK3
    cases l2 with
    | nil =>
      refine zat 0 (by decide) rfl (fun K hK => wpList_nil (hK _ _ ?_))
      refine RegWp.recv_shut (c := c) (cap := 10) (s := s1) (r := r1) (tm := false) (z := .string ⟨#[]⟩) (rest := [1]) rfl rfl (by simp [go_sem, Conc.rcase]) HCr.out ?_
      refine RegWp.behind 1 (by decide) rfl (fun K hK => ?_)
      simp only [List.drop_succ_cons, List.drop_zero]
      have hll : l = l1 := by rw [HL.out, List.append_nil]
      have HT := Go.Lib.hid (z11x N (xs := l.flatten) (by rw [hll]; exact HJr.out) hlen)
      clear hll
      go_wp2_with (go_at_call 32; refine HT.out.mono ?_; rintro q w5 ⟨rfl, hw5⟩; have HW5 := Go.Lib.hid hw5; clear HT hw5)
      exact HR.out _ HW5.out
    | cons x l2 =>
      have hcs := Conc.heap_setChan wr c 10 ((x :: l2).map zwp).toArray true s1 (r1 + 1) false (Array.getElem?_eq_some_iff.1 HCr.out).1
      refine zat 0 (by decide) rfl (fun K hK => wpList_nil (hK _ _ ?_))
      refine RegWp.recv_buf (c := c) (cap := 10) (s := s1) (r := r1) (tm := false) (closed := true) (z := .string ⟨#[]⟩) (rest := [1]) rfl rfl (by simp [go_sem, Conc.rcase]) HCr.out (by simp) ?_
      refine RegWp.behind 1 (by decide) rfl (fun K hK => ?_)
      simp only [List.drop_succ_cons, List.drop_zero]
      have e0 : (List.map zwp (x :: l2)).toArray.getD 0 undef = .string ⟨⟨x⟩⟩ := rfl
      have e1 : (List.map zwp (x :: l2)).toArray.extract 1 (List.map zwp (x :: l2)).toArray.size = (l2.map zwp).toArray := by simp [List.take_of_length_le]
      rw [e0, e1]
      have hcw := Conc.heap_setChan wr c 10 (l2.map zwp).toArray true s1 (r1 + 1) false (Array.getElem?_eq_some_iff.1 HCr.out).1
      have hjw := HJr.out.chan HCL.out 10 (l2.map zwp).toArray true s1 (r1 + 1) false
      have hb : l1.flatten.length + x.length <= 70368744177664 := by
        have := HL.out
        rw [this] at hlen
        simp at hlen ⊢
        omega
      have hlt : zsv (wr.setChan c 10 (l2.map zwp).toArray true s1 (r1 + 1) false) c < zsv wr c := by
        unfold zsv
        rw [hcw, HCr.out]
        simp
      generalize wr.setChan c 10 (l2.map zwp).toArray true s1 (r1 + 1) false = w4 at hcw hjw hlt ⊢
      have HT := Go.Lib.hid (z13h N hjw HCL.out hb)
      have HC4 := Go.Lib.hid hcw
      have HLT := Go.Lib.hid hlt
      clear hcw hjw hlt hb e0 e1 hcs
      go_wp2_with (go_at_call 31; refine HT.out.mono ?_; rintro q w5 ⟨⟨v5, rfl⟩, hw5, hw5c⟩; have HW5 := Go.Lib.hid hw5; have HW5c := Go.Lib.hid hw5c; clear HT hw5 hw5c)
      refine ⟨⟨l1 ++ [x], l2, by rw [HL.out]; simp, by rw [show (l1 ++ [x]).flatten = l1.flatten ++ x by simp]; exact HW5.out, s1, r1 + 1, HW5c.out.trans HC4.out⟩, ?_⟩
      have := HLT.out
      unfold zsv at this ⊢
      rw [HW5c.out]
      exact this

def z76 (N : Nat) (b : Bun31.den) : Option (List UInt8 × (Int × Unit)) :=
 if 8 < b.2.1.length then some ([], (3, ())) else (zyk N b.1 b.2.1).bind fun q => if q.1 = 0 then (if q.2.flatten.length <= 70368744177664 then (if 65536 < q.2.flatten.length then some ([], (3, ())) else some (q.2.flatten, (0, ()))) else none) else some ([], (q.1, ()))

def zel (N : Nat) : List A -> Res := z1f [(0, .v Bun31)] (fun x => z76 N x.1) (zaj (.tup [.str, .int .i64]) 1)

theorem zy1 : ∃ i, Go.Proofs.Tryd.prog.info? 9 = some i /\ i.bytes = 16 := by
  have h : (Go.Proofs.Tryd.prog.info? 9).map (·.bytes) = some 16 := by kernel_rfl
  obtain ⟨i, hi, hb⟩ := Option.map_eq_some_iff.1 h
  exact ⟨i, hi, hb⟩

theorem z153 (w : World) : (Instr.makeChan 40 (.int .i64 10)).run Go.Proofs.Tryd.prog w = .ok (.chan (some w.heap.size)) (w.alloc (.chan 10 #[] false 0 0 false)) := by
  obtain ⟨i, hi, hb⟩ := zy1
  simpa using Conc.run_makeChan (P := Go.Proofs.Tryd.prog) (w := w) Go.Proofs.Tryd.underlying40 hi .i64 10 (by omega) (by rw [hb]; omega)

set_option maxHeartbeats 2000000 in
theorem z12c (N : Nat) {w : World} {S : Hp} (hS : Lift.Sub S (hp w)) (hg : GlobOk glob S) {t : Tok31.den} {ts : List Tok31.den} {v : Value} (hv : VR S Bun31 (t, (ts, ())) v) {x : List UInt8} {e : Int} (hy : z76 N (t, (ts, ())) = some (x, (e, ()))) :
    Calls Go.Proofs.Tryd.prog 8 #[v] w fun q w' => q = .returned (.tuple #[.string ⟨⟨x⟩⟩, .int .i64 e]) /\ w.grownBy w' none := by
  suffices HX : ∀ R : Ending -> World -> Prop, Go.RowKit.Hid (∀ w', w.grownBy w' none -> R (.returned (.tuple #[.string ⟨⟨x⟩⟩, .int .i64 e])) w') -> Calls Go.Proofs.Tryd.prog 8 #[v] w R from HX _ (Go.Lib.hid (fun w' a => ⟨rfl, a⟩))
  intro R HR
  obtain ⟨p, n, c, a, cap, rfl, hvt, hvs⟩ := z16d hv
  clear hv
  unfold z76 at hy
  dsimp only at hy
  have hb : VR S Bun31 (t, (ts, ())) (.agg #[.string ⟨⟨t.1⟩⟩, .slice p n c, .string ⟨⟨t.2.2.1⟩⟩, .slice a ts.length cap]) \/ True := .inr trivial
  clear hb
  by_cases h8 : 8 < ts.length
  . rw [if_pos h8] at hy
    cases hy
    have h8' : (8 : Int) < (ts.length : Int) := by omega
    have hgr := Go.Lib.hid (fun (cs : Array Value) (E : Nat) => World.grownBy_alloc w (.cells cs E) none)
    clear hvt hvs
    go_enter Go.Proofs.Tryd.func8, Go.Proofs.Tryd.ntmps8
    go_wp2
    exact HR.out _ (hgr.out _ _)
  . rw [if_neg h8] at hy
    obtain ⟨⟨e1, l⟩, hs, hy⟩ := Option.bind_eq_some_iff.1 hy
    dsimp only at hy
    have h8' : ¬ (8 : Int) < (ts.length : Int) := by omega
    have hmk := z153
    have g1 : ∀ (cs : Array Value) (E : Nat), w.grownBy ((w.alloc (.cells cs E)).alloc (.chan 10 #[] false 0 0 false)) none := fun cs E =>
      z7x (World.grownBy_alloc w (.cells cs E) none) (World.grownBy_alloc _ _ none)
    have HG := Go.Lib.hid g1
    have hsc : S (w.heap.size + 1) = none := by
      cases hsx : S (w.heap.size + 1) with
      | none => rfl
      | some q =>
        have := (Array.getElem?_eq_some_iff.1 (show w.heap[w.heap.size + 1]? = some q from hS _ _ hsx)).1
        omega
    have hch : ∀ (cs : Array Value) (E : Nat), ((w.alloc (.cells cs E)).alloc (.chan 10 #[] false 0 0 false)).heap[w.heap.size + 1]? = some (.chan 10 #[] false 0 0 false) := fun cs E => by
      have := heap_alloc_new (w.alloc (.cells cs E)) (.chan 10 #[] false 0 0 false)
      simpa using this
    have HSe := Go.Lib.hid (fun (cs : Array Value) (E : Nat) => z146 N (w := (w.alloc (.cells cs E)).alloc (.chan 10 #[] false 0 0 false)) (zbi hS (g1 cs E) (by simp)) hg (hch cs E) hsc hvt hvs (by omega) hs)
    have HY := Go.Lib.hid hy
    have hle : ts.length <= 8 := by omega
    clear hvt hvs hs hy g1 hsc hch hS hg
    go_enter Go.Proofs.Tryd.func8, Go.Proofs.Tryd.ntmps8
    go_upto_region 7 with (go_at_call 16; refine (HSe.out _ _).mono ?_; rintro q w1 ⟨rfl, hw1, hw1c⟩; have HW1 := Go.Lib.hid hw1; have HW1c := Go.Lib.hid hw1c; clear HSe hw1 hw1c)
    . rename_i hb
      have hne : ¬ e1 = 0 := bne_iff_ne.1 hb
      have he := HY.out
      rw [if_neg hne] at he
      cases he
      have hw := z8z (HG.out _ _) HW1.out
      exact HR.out _ ⟨hw.os, hw.tape, hw.output, hw.size, fun k hk _ => hw.block k hk (by intro e; cases e; omega)⟩
    . rename_i hb K7 hK7
      have hz : e1 = 0 := by simpa using hb
      subst hz
      obtain ⟨s', hch1⟩ := HW1c.out rfl
      have he := HY.out
      rw [if_pos rfl] at he
      by_cases hfl : l.flatten.length <= 70368744177664
      . rw [if_pos hfl] at he
        have HT := Go.Lib.hid (z15e N hch1 hfl)
        have hw := z8z (HG.out _ _) HW1.out
        have HW := Go.Lib.hid hw
        have HF := Go.Lib.hid hfl
        have HEq := Go.Lib.hid he
        have fin : ∀ w2, w1.grownBy w2 (some (w.heap.size + 1)) -> w.grownBy w2 none := fun w2 h2 => by
          have := zmf hw h2
          exact ⟨this.os, this.tape, this.output, this.size, fun k hk _ => this.block k hk (by intro e; cases e; omega)⟩
        have HFi := Go.Lib.hid fin
        clear hch1 he hfl hw fin HY HG HW1c
        go_wp2_with (go_at_call 17; refine HT.out.mono ?_; rintro q w2 ⟨rfl, hw2⟩; have HW2 := Go.Lib.hid hw2; clear HT hw2)
        . rename_i hb2
          have he := HEq.out
          rw [if_pos (by have : l.flatten.length = (List.map List.length l).sum := List.length_flatten; omega)] at he
          cases he
          exact HR.out _ (HFi.out _ HW2.out)
        . rename_i hb2
          have he := HEq.out
          rw [if_neg (by have : l.flatten.length = (List.map List.length l).sum := List.length_flatten; omega)] at he
          cases he
          exact HR.out _ (HFi.out _ HW2.out)
      . rw [if_neg hfl] at he
        cases he

theorem z13p (h S : Hp) (x : List UInt8) (c : Int) : ARel h S (fun _ => undef) (.tup [⟨.str, x⟩, ⟨.int .i64, c⟩]) (.tuple #[.string ⟨⟨x⟩⟩, .int .i64 c]) [] :=
  ⟨rfl, _, rfl, .cons VR.str (.cons VR.int .nil)⟩

theorem zof (N : Nat) : Contract Go.Proofs.Tryd.prog glob 8 (zel N) := by
  refine Contract.hand ⟨_, Go.Proofs.Tryd.func8, by kernel_rfl, by decide⟩ ?_
  rintro w S vals ob ⟨⟨t, ts, ⟨⟩⟩, ⟨⟩⟩ y har hS hg hy
  obtain ⟨x, e, ⟨⟩⟩ := y
  have hy' : z76 N (t, (ts, ())) = some (x, (e, ())) := hy
  obtain ⟨⟨u1, e1, r1⟩, _⟩ := har.rel 0 _ rfl
  have hob : ∀ i, ob i = [] := by
    intro i
    match i with
    | 0 => exact r1.2
    | i + 1 => exact har.out _ (by simp [mkS, zch])
  have hvals : vals = [u1] := by
    match vals, har.len, e1 with
    | [a], _, h1 => simp at h1; rw [h1]
  subst hvals
  have hbx : ∀ y ∈ (mkS [(0, .v Bun31)] 0 (((t, (ts, ())), ()) : z26 [(0, .v Bun31)])), z9g y = false := by
    intro y hy
    have hy : y ∈ [A.v Bun31 (t, (ts, ()))] := hy
    rw [List.mem_singleton.1 hy]; rfl
  refine (z12c N hS hg r1.1 hy').mono ?_
  rintro q w' ⟨rfl, hg1⟩
  exact zsw hS hbx hob ⟨hg1.size, fun k hk => hg1.block k hk (by simp), hg1.tape, hg1.os, hg1.output⟩ (fun S' => z13p _ _ x e) rfl

end
end Go.Proofs.YtaackaafmidjkaaDoorLg

set_option linter.all false
set_option maxRecDepth 100000
namespace Go.Proofs.YtaackaafmidjkaaDoorLg
noncomputable section
open Go Go.Lift

def zhh : Code := (Go.Proofs.Tryd.f7.body).getD .skip

def zbt : List (List Nat × List Nat) := [([0], []), ([0, 1], [1]), ([0, 1, 1], [2, 3, 1]), ([0, 1, 1, 1], [2, 3, 1, 4, 5]), ([0, 1, 1, 1, 1], [0]), ([1, 1, 1, 1, 1], [0])]

def z6i (N : Nat) : Env := z2n tys glob [(8, zel N), (10, zck N), (12, zll N), (14, z67 N)] [] [] [] false [] []

theorem zj2 (N : Nat) : EnvOk Go.Proofs.Tryd.prog (z6i N) := zk mixed z1a (FnsOk.cons (zof N) (FnsOk.cons (zlk N) (FnsOk.cons ((Contract.up (zw3 N) glob)) (FnsOk.cons ((Contract.up (zfh N) glob)) (FnsOk.nil))))) (ItsOk.nil)

def z2l (N : Nat) : Option Bool :=
 (z76 N ((([(97 : UInt8)] : List UInt8), (([] : List ((List UInt8) × ((List UInt8) × Unit))), (([(48 : UInt8), (49 : UInt8), (50 : UInt8), (51 : UInt8), (52 : UInt8), (53 : UInt8), (54 : UInt8), (55 : UInt8), (56 : UInt8), (57 : UInt8), (97 : UInt8), (98 : UInt8), (99 : UInt8), (100 : UInt8), (101 : UInt8), (102 : UInt8), (48 : UInt8), (49 : UInt8), (50 : UInt8), (51 : UInt8), (52 : UInt8), (53 : UInt8), (54 : UInt8), (55 : UInt8), (56 : UInt8), (57 : UInt8), (97 : UInt8), (98 : UInt8), (99 : UInt8), (100 : UInt8), (101 : UInt8), (102 : UInt8)] : List UInt8), ()))), (([] : List ((List UInt8) × ((List ((List UInt8) × ((List UInt8) × Unit))) × ((List UInt8) × Unit)))), ()))).bind fun y =>
 (zg4 N y.1).bind fun y1 =>
 cond ((((List.length y.1) : Nat) : Int) == (37 : Int))
 (cond (y.2.1 == (0 : Int))
 ((z29 N ((([(97 : UInt8)] : List UInt8), (([] : List ((List UInt8) × ((List UInt8) × Unit))), (([(48 : UInt8), (49 : UInt8), (50 : UInt8), (51 : UInt8), (52 : UInt8), (53 : UInt8), (54 : UInt8), (55 : UInt8), (56 : UInt8), (57 : UInt8), (97 : UInt8), (98 : UInt8), (99 : UInt8), (100 : UInt8), (101 : UInt8), (102 : UInt8), (48 : UInt8), (49 : UInt8), (50 : UInt8), (51 : UInt8), (52 : UInt8), (53 : UInt8), (54 : UInt8), (55 : UInt8), (56 : UInt8), (57 : UInt8), (97 : UInt8), (98 : UInt8), (99 : UInt8), (100 : UInt8), (101 : UInt8), (102 : UInt8)] : List UInt8), ()))), (([] : List ((List UInt8) × ((List ((List UInt8) × ((List UInt8) × Unit))) × ((List UInt8) × Unit)))), ())) y1.1).bind fun y2 =>
 cond y2
 (cond (y1.2.1 == (0 : Int))
 ((z92 N ((([(97 : UInt8)] : List UInt8), (([] : List ((List UInt8) × ((List UInt8) × Unit))), (([(48 : UInt8), (49 : UInt8), (50 : UInt8), (51 : UInt8), (52 : UInt8), (53 : UInt8), (54 : UInt8), (55 : UInt8), (56 : UInt8), (57 : UInt8), (97 : UInt8), (98 : UInt8), (99 : UInt8), (100 : UInt8), (101 : UInt8), (102 : UInt8), (48 : UInt8), (49 : UInt8), (50 : UInt8), (51 : UInt8), (52 : UInt8), (53 : UInt8), (54 : UInt8), (55 : UInt8), (56 : UInt8), (57 : UInt8), (97 : UInt8), (98 : UInt8), (99 : UInt8), (100 : UInt8), (101 : UInt8), (102 : UInt8)] : List UInt8), ()))), (([] : List ((List UInt8) × ((List ((List UInt8) × ((List UInt8) × Unit))) × ((List UInt8) × Unit)))), ()))).bind fun y3 =>
 some (y3 == (37 : Int)))
 (some false))
 (some false))
 (some false))
 (some false)

def zbs (N : Nat) : Tab Bool := []

theorem zhg (N : Nat) (x : z26 []) : z9l (z6i N) N (zbs N) zbt Go.Proofs.Tryd.f7 (mkS [] 0 x) (z41 (.v .bool) 0) = z2l N := by kernel_rfl

def z9f (N : Nat) : List A -> Res := z1f [] (fun x => z2l N) (zaj (.v .bool) 0)

theorem zks (N : Nat) : Contract Go.Proofs.Tryd.prog glob 7 (z9f N) :=
  Contract.of (E := z6i N) (H := zbs N) (L := zbt) (N := N) (body := zhh) (K := (z41 (.v .bool) 0)) (zj2 N) Go.Proofs.Tryd.func7 (by kernel_rfl) (by decide) (fun _ hb => TabOk.nil) (fun x y h => by rw [zhg]; exact h) (z16 (s := (.v .bool)) (m := 0))

def zbv : Code := (Go.Proofs.Tryd.f3.body).getD .skip

def z6r : List (List Nat × List Nat) := [([0], [1]), ([0, 0, 1], [8, 1]), ([1, 0, 1], [1]), ([0, 0, 1, 0, 1], [2]), ([1, 0, 1, 0, 1], [2]), ([0, 1, 1], [1, 3, 4]), ([0, 1, 1, 1], [3, 5, 4, 6, 1]), ([0, 1, 1, 1, 1], [2]), ([1, 1, 1, 1, 1], [2])]

def z3b (N : Nat) : Env := z2n tys glob [(7, z9f N), (6, z9d N), (8, zel N), (9, zbm N), (10, zck N), (11, z9x N)] [] [] [] false [] []

theorem zcn (N : Nat) : EnvOk Go.Proofs.Tryd.prog (z3b N) := zk mixed z1a (FnsOk.cons (zks N) (FnsOk.cons ((Contract.up (zkf N) glob)) (FnsOk.cons (zof N) (FnsOk.cons ((Contract.up (znp N) glob)) (FnsOk.cons (zlk N) (FnsOk.cons ((Contract.up (zlz N) glob)) (FnsOk.nil))))))) (ItsOk.nil)

def z1l (N : Nat) (b : (((List UInt8) × ((List ((List UInt8) × ((List UInt8) × Unit))) × ((List UInt8) × Unit))) × ((List ((List UInt8) × ((List ((List UInt8) × ((List UInt8) × Unit))) × ((List UInt8) × Unit)))) × Unit))) : Option Bool :=
 (z39 N b).bind fun y =>
 cond y
 ((z2l N).bind fun y1 =>
 some y1)
 ((z76 N b).bind fun y2 =>
 (z4w N b).bind fun y3 =>
 cond (y2.1 == y3.1)
 (cond (y2.2.1 == y3.2.1)
 ((z92 N b).bind fun y4 =>
 (z45 N b).bind fun y5 =>
 cond (y4 == y5)
 ((z2l N).bind fun y6 =>
 some y6)
 (some false))
 (some false))
 (some false))

def z6q (N : Nat) : Tab Bool := []

theorem zbu (N : Nat) (x : z26 [(0, .v (.pair (.pair .str (.pair (.sl (.pair .str (.pair .str .unit))) (.pair .str .unit))) (.pair (.sl (.pair .str (.pair (.sl (.pair .str (.pair .str .unit))) (.pair .str .unit)))) .unit)))]) : z9l (z3b N) N (z6q N) z6r Go.Proofs.Tryd.f3 (mkS [(0, .v (.pair (.pair .str (.pair (.sl (.pair .str (.pair .str .unit))) (.pair .str .unit))) (.pair (.sl (.pair .str (.pair (.sl (.pair .str (.pair .str .unit))) (.pair .str .unit)))) .unit)))] 0 x) (z41 (.v .bool) 1) = z1l N x.1 := by kernel_rfl

def zcm (N : Nat) : List A -> Res := z1f [(0, .v (.pair (.pair .str (.pair (.sl (.pair .str (.pair .str .unit))) (.pair .str .unit))) (.pair (.sl (.pair .str (.pair (.sl (.pair .str (.pair .str .unit))) (.pair .str .unit)))) .unit)))] (fun x => z1l N x.1) (zaj (.v .bool) 1)

theorem ze5 (N : Nat) : Contract Go.Proofs.Tryd.prog glob 3 (zcm N) :=
  Contract.of (E := z3b N) (H := z6q N) (L := z6r) (N := N) (body := zbv) (K := (z41 (.v .bool) 1)) (zcn N) Go.Proofs.Tryd.func3 (by kernel_rfl) (by decide) (fun _ hb => TabOk.nil) (fun x y h => by rw [zbu]; exact h) (z16 (s := (.v .bool)) (m := 1))

end
end Go.Proofs.YtaackaafmidjkaaDoorLg

set_option linter.all false
namespace Go.Proofs.YtaackaafmidjkaaDoorLg
noncomputable section
open Go Go.Lift Go.Proofs.YtaackaafmidjkaaDoorPx

theorem shr7 (n : Nat) : shrI .u64 ((n : Nat) : Int) 7 = ((n / 128 : Nat) : Int) := by
  have : shrI .u64 ((n : Nat) : Int) 7 = ((n : Nat) : Int).fdiv 128 := rfl
  rw [this, Int.fdiv_eq_ediv_of_nonneg _ (by omega)]; rfl

theorem or128 : ∀ m, m < 256 -> bitsOp .or .u8 ((m : Nat) : Int) 128 = ((m % 128 + 128 : Nat) : Int) := by decide +kernel
theorem zt7 : ∀ m, m < 256 -> bitsOp .andNot .u8 ((m : Nat) : Int) 128 = ((m % 128 : Nat) : Int) := by decide +kernel

def szc (n : Nat) : Nat := if n = 0 then 0 else (z55 n).length

theorem z13w (n : Nat) : szc n <= 10 := by
  unfold szc; split
  . omega
  . exact (z4i n).2

theorem znk {n : Nat} (h : n < 18446744073709551616) : (z55 n).length = 1 + szc (n / 128) := by
  rw [z14i h]
  unfold szc
  split
  . rw [if_pos (by omega)]; rfl
  . rw [if_neg (by omega), List.length_cons, Nat.add_comm]

theorem z1aj (N : Nat) (hN : 10 < N) {n : Nat} (h : n < 18446744073709551616) : zba N (n : Int) = some (((z55 n).length : Nat) : Int) := by
  simp only [zba, zl6, shr7]
  rw [z4x (I := fun (v : Int × Int) => ∃ (m k : Nat), v = ((m : Int), (k : Int)) /\ m < 18446744073709551616 /\ k <= 100 - szc m) (m := fun (v : Int × Int) => szc v.1.toNat)
    (R := fun (v : Int × Int) => some (v.2 + ((szc v.1.toNat : Nat) : Int))) ?_ N (((n / 128 : Nat) : Int), 1) ⟨n / 128, 1, rfl, by omega, by have := z13w (n / 128); omega⟩ (by have := z13w (n / 128); dsimp only; rw [Int.toNat_natCast]; omega)]
  . dsimp only
    rw [Int.toNat_natCast, znk h]; congr 1
  rintro v r ⟨m, k, rfl, hm, hk⟩ hr
  dsimp only at *
  simp only [zdy, shr7, Int.toNat_natCast] at *
  have hs := z13w m
  by_cases h0 : m = 0
  . subst h0
    rw [zq (by rfl)]
    simp [szc]
  . have e : szc m = 1 + szc (m / 128) := by
      rw [<- znk hm]; unfold szc; rw [if_neg h0]
    rw [z8 (by simp; omega), z2f (by omega), hr _ ⟨m / 128, k + 1, rfl, by omega, by omega⟩ (by rw [Int.toNat_natCast]; omega)]
    simp only [Int.toNat_natCast, e]
    congr 1; omega

def z11h : Nat -> Nat -> List Int
  | 0, _ => []
  | k + 1, m => ((m % 128 + 128 : Nat) : Int) :: z11h k (m / 128)

theorem zss : ∀ k m, (z11h k m).length = k
  | 0, _ => rfl
  | k + 1, m => by simp [z11h, zss k]

theorem z11g : ∀ (f n k : Nat), (zhn f n).length = k + 1 -> n < 128 ^ (f + 1) -> toStr ((z11h (k + 1) n).set k (bitsOp .andNot .u8 ((z11h (k + 1) n).getD k 0) 128)) = zhn f n
  | 0, n, k, h, hn => by
    have hk : k = 0 := by simpa [zhn] using h.symm
    subst hk
    have hn : n < 128 := by simpa using hn
    simp only [z11h, List.getD_cons_zero, List.set_cons_zero, zhn]
    rw [zt7 _ (by omega)]
    simp only [toStr, List.map_cons, List.map_nil, Int.toNat_natCast]
    congr 2; omega
  | f + 1, n, k, h, hn => by
    have hp : (128 : Nat) ^ (f + 2) = 128 * 128 ^ (f + 1) := by rw [Nat.pow_succ, Nat.mul_comm]
    simp only [zhn] at h ⊢
    by_cases h1 : n < 128
    . rw [if_pos h1] at h ⊢
      have hk : k = 0 := by simpa using h.symm
      subst hk
      simp only [z11h, List.getD_cons_zero, List.set_cons_zero]
      rw [zt7 _ (by omega)]
      simp only [toStr, List.map_cons, List.map_nil, Int.toNat_natCast]
      congr 2; omega
    . rw [if_neg h1] at h ⊢
      obtain ⟨j, rfl⟩ : ∃ j, k = j + 1 := ⟨k - 1, by have := (znl f (n / 128)).1; simp at h; omega⟩
      have ih := z11g f (n / 128) j (by simpa using h) (by omega)
      have e : z11h (j + 1 + 1) n = ((n % 128 + 128 : Nat) : Int) :: z11h (j + 1) (n / 128) := rfl
      rw [e, List.getD_cons_succ, List.set_cons_succ]
      have e2 : ∀ (x : Int) (l : List Int), toStr (x :: l) = UInt8.ofNat x.toNat :: toStr l := fun _ _ => rfl
      rw [e2, ih, Int.toNat_natCast]

theorem z199 (N : Nat) (hN : 20 < N) {n : Nat} (h : n < 18446744073709551616) : zb3 N (n : Int) = some (z55 n) := by
  have hl := z4i n
  simp only [zb3, z1aj N (by omega) h, Option.bind_some]
  rw [z8 (zpj ⟨by omega, by omega, by omega, by omega⟩)]
  simp only [zmx, Int.toNat_natCast]
  generalize hL : (z55 n).length = L at *
  have hend : ∀ out : List Int, out = z11h L n -> (cond (inR (IntKind.wrap .i64 (((L : Nat) : Int) - 1)) out.length) (cond (decide ((IntKind.wrap .i64 (((L : Nat) : Int) - 1)).toNat < out.length)) (cond (inR (IntKind.wrap .i64 (((L : Nat) : Int) - 1)) out.length) (cond (decide ((IntKind.wrap .i64 (((L : Nat) : Int) - 1)).toNat < out.length)) (some (toStr (out.set (IntKind.wrap .i64 (((L : Nat) : Int) - 1)).toNat (bitsOp .andNot .u8 (out.getD (IntKind.wrap .i64 (((L : Nat) : Int) - 1)).toNat 0) 128)))) none) none) none) none) = some (z55 n) := by
    intro out ho
    subst ho
    have e : IntKind.wrap .i64 (((L : Nat) : Int) - 1) = ((L - 1 : Nat) : Int) := by rw [zb7 (by unfold I64; omega)]; omega
    rw [e, Int.toNat_natCast, zss, z8 (z2u (by omega)), z8 (zpj (by omega)), z8 (z2u (by omega)), z8 (zpj (by omega))]
    obtain ⟨k, rfl⟩ : ∃ k, L = k + 1 := ⟨L - 1, by omega⟩
    have := z11g 9 n k hL (by have : (128 : Nat) ^ 10 = 1180591620717411303424 := (by decide); omega)
    rw [Nat.add_sub_cancel, this]; rfl
  rw [z4x (I := fun (v : Int × List Int × Int) => ∃ (m i : Nat), v.1 = (m : Int) /\ v.2.2 = (i : Int) /\ m < 18446744073709551616 /\ i <= L /\ v.2.1.length = L /\ v.2.1.take i ++ z11h (L - i) m = z11h L n) (m := fun (v : Int × List Int × Int) => L - v.2.2.toNat)
    (R := fun _ => some (z55 n)) ?_ N _ ⟨n, 0, rfl, rfl, h, by omega, by simp, by simp⟩ (by simp; omega)]
  rintro ⟨x, out, y⟩ r ⟨m, i, h1, h2, hm, hi, ho, hd⟩ hr
  dsimp only at *
  subst h1; subst h2
  simp only [zg7, Int.toNat_natCast] at *
  by_cases hlt : i < L
  . have hw : IntKind.wrap .u8 (m : Int) = ((m % 256 : Nat) : Int) := by rw [z13i]; omega
    rw [z8 (zpj (by omega)), z8 (z2u (by omega)), z8 (zpj (by omega)), shr7, hw, or128 _ (by omega), z2f (by omega)]
    refine hr _ ⟨m / 128, i + 1, rfl, rfl, by omega, by omega, by simpa using ho, ?_⟩ (by dsimp only; rw [Int.toNat_natCast]; omega)
    rw [zv8 _ _ _ (by omega), List.append_assoc, <- hd]
    congr 1
    obtain ⟨k, hk⟩ : ∃ k, L - i = k + 1 := ⟨L - i - 1, by omega⟩
    rw [hk, show L - (i + 1) = k by omega]
    simp only [z11h, List.cons_append, List.nil_append, show m % 256 % 128 = m % 128 by omega]
  . have : i = L := by omega
    subst this
    rw [zq (zzj (by omega))]
    refine hend out ?_
    rw [Nat.sub_self, List.take_of_length_le (by omega)] at hd
    simpa [z11h] using hd

theorem zx3 : ∀ (f N n : Nat), f <= 9 -> f < N -> n < 128 ^ (f + 1) -> n < 18446744073709551616 -> z1c N (n : Int) = some (zhn f n)
  | f, 0, n, _, h, _, _ => by omega
  | f, N + 1, n, h9, h, hf, hn => by
    show z5b (N + 1) (z1c N) (n : Int) = _
    unfold z5b
    have one : ∀ k : Nat, k < 256 -> toStr [IntKind.wrap .u8 (k : Int)] = [UInt8.ofNat k] := by
      intro k hk
      rw [z11t (by omega) (by omega)]
      simp only [toStr, List.map_cons, List.map_nil, Int.toNat_natCast]
    by_cases h1 : n < 128
    . rw [z8 (zpj (by omega)), zb7 (x := (n : Int)) (by unfold I64; omega), one n (by omega)]
      cases f with
      | zero => rfl
      | succ f => simp only [zhn, if_pos h1]
    . rw [zq (zzj (by omega))]
      cases f with
      | zero => simp at hf; omega
      | succ f =>
        have hp : (128 : Nat) ^ (f + 2) = 128 * 128 ^ (f + 1) := by rw [Nat.pow_succ, Nat.mul_comm]
        have hq : ((n : Int)).tdiv 128 = ((n / 128 : Nat) : Int) := by rw [Int.tdiv_eq_ediv_of_nonneg (by omega)]; omega
        have hm : ((n : Int)).tmod 128 = ((n % 128 : Nat) : Int) := by rw [Int.tmod_eq_emod_of_nonneg (by omega)]; omega
        have hw : IntKind.wrap .u64 ((n / 128 : Nat) : Int) = ((n / 128 : Nat) : Int) := by
          simp only [IntKind.wrap, IntKind.bits, IntKind.signed, Bool.false_and, Bool.false_eq_true, if_false]
          omega
        have hw2 : IntKind.wrap .i64 (IntKind.wrap .i64 ((n % 128 : Nat) : Int) + 128) = ((n % 128 + 128 : Nat) : Int) := by
          rw [zb7 (x := ((n % 128 : Nat) : Int)) (by unfold I64; omega), zb7 (by unfold I64; omega)]; omega
        have hl := znl f (n / 128)
        rw [hq, hw, zx3 f N (n / 128) (by omega) (by omega) (by omega) (by omega), Option.bind_some, hm, hw2, one _ (by omega), z8 (zpj (by simp; omega))]
        simp only [zhn, if_neg h1]
        rfl

theorem zyq (N : Nat) (hN : 9 < N) {n : Nat} (h : n < 18446744073709551616) : z1c N (n : Int) = some (z55 n) := by
  have e10 : (128 : Nat) ^ (9 + 1) = 1180591620717411303424 := by decide
  exact zx3 9 N n (by omega) hN (by omega) h

def z17m (t : Nat × Nat × Int) : Int × Int × Int × Unit := ((t.1 : Int), (t.2.1 : Int), t.2.2, ())

theorem z16z (N : Nat) (n : Int) (used last : Nat) : z98 N n (used : Int) (last : Int) = some (if (1 < used /\ last = 0) \/ (used = 10 /\ 1 < last) then (0, 0, 2, ()) else (n, (used : Int), 0, ())) := by
  simp only [z98, zb9, zb8]
  by_cases h1 : 1 < used
  . rw [z8 (zpj (by omega))]
    by_cases h2 : last = 0
    . rw [z8 (by simp [h2]), if_pos (.inl ⟨h1, h2⟩)]; rfl
    . rw [zq (by simp; omega)]
      by_cases h3 : used = 10
      . rw [z8 (by simp; omega)]
        by_cases h4 : 1 < last
        . rw [z8 (zpj (by omega)), if_pos (.inr ⟨h3, h4⟩)]
        . rw [zq (zzj (by omega)), if_neg (by omega)]
      . rw [zq (by simp; omega), if_neg (by omega)]; rfl
  . rw [zq (zzj (by omega)), zq (by simp; omega), if_neg (by omega)]; rfl

theorem z28 {n : Nat} (h : n < 18446744073709551616) : IntKind.wrap .u64 ((n : Nat) : Int) = ((n : Nat) : Int) := by
  simp only [IntKind.wrap, IntKind.bits, IntKind.signed, Bool.false_and, Bool.false_eq_true, if_false]
  omega

theorem z1bx {a b : Nat} (ha : a < 18446744073709551616) (hb : b < 18446744073709551616) : bitsOp .or .u64 ((a : Nat) : Int) ((b : Nat) : Int) = ((a ||| b : Nat) : Int) := by
  have e : bitsOp .or .u64 ((a : Nat) : Int) ((b : Nat) : Int) = IntKind.wrap .u64 ((BitVec.ofInt 64 ((a : Nat) : Int) ||| BitVec.ofInt 64 ((b : Nat) : Int)).toNat : Int) := rfl
  rw [e, BitVec.ofInt_natCast, BitVec.ofInt_natCast, BitVec.toNat_or, BitVec.toNat_ofNat, BitVec.toNat_ofNat, Nat.mod_eq_of_lt (by simpa using ha), Nat.mod_eq_of_lt (by simpa using hb)]
  exact z28 (Nat.or_lt_two_pow (n := 64) ha hb)

theorem pow7 (i : Nat) : (128 : Nat) ^ i = 2 ^ (7 * i) := by rw [Nat.pow_mul]

theorem zy9 {n x i : Nat} (hn : n < 128 ^ i) (hx : x < 128) (hi : i <= 9) (hw : x * 128 ^ i < 18446744073709551616) :
    bitsOp .or .u64 ((n : Nat) : Int) (shlI .u64 (IntKind.wrap .u64 ((x : Nat) : Int)) (IntKind.wrap .i64 (7 * ((i : Nat) : Int)))) = ((n + 128 ^ i * x : Nat) : Int) := by
  have h1 : IntKind.wrap .i64 (7 * ((i : Nat) : Int)) = ((7 * i : Nat) : Int) := by rw [zb7 (by unfold I64; omega)]; omega
  have hp : (128 : Nat) ^ i <= 128 ^ 9 := Nat.pow_le_pow_right (by omega) hi
  have e9 : (128 : Nat) ^ 9 = 9223372036854775808 := by decide
  have h2 : shlI .u64 ((x : Nat) : Int) ((7 * i : Nat) : Int) = ((x * 128 ^ i : Nat) : Int) := by
    unfold shlI
    rw [Int.toNat_natCast, Nat.min_eq_left (by show 7 * i <= 64; omega), pow7]
    have : ((x : Nat) : Int) * 2 ^ (7 * i) = ((x * 2 ^ (7 * i) : Nat) : Int) := by simp
    rw [this]
    exact z28 (by rw [<- pow7]; exact hw)
  rw [z28 (by omega), h1, h2, z1bx (by omega) hw]
  congr 1
  rw [Nat.or_comm, pow7, Nat.mul_comm x]
  have := Nat.shiftLeft_add_eq_or_of_lt (b := n) (i := 7 * i) (by rw [<- pow7]; exact hn) x
  rw [Nat.shiftLeft_eq, Nat.mul_comm x] at this
  rw [<- this, Nat.add_comm]

theorem z100 (N : Nat) (hN : 20 < N) (s : List UInt8) (hs : s.length <= 10000000000) : z2c N s = some (z17m (z77 s)) := by
  have hmin : (if (10 : Int) < ((s.length : Nat) : Int) then (10 : Int) else ((s.length : Nat) : Int)) = ((min 10 s.length : Nat) : Int) := by split <;> omega
  simp only [z2c, zl3, hmin]
  have hle := zz9 s
  rw [z4x (I := fun (v : Int × Int) => ∃ (i : Nat), v.2 = (i : Int) /\ i <= min 10 s.length /\ i <= z96 s /\ (i <= 9 -> v.1 = ((val (s.take i) : Nat) : Int))) (m := fun (v : Int × Int) => 10 - v.2.toNat)
    (R := fun _ => some (z17m (z77 s))) ?_ N (0, 0) ⟨0, rfl, by omega, by omega, fun _ => by simp [val]⟩ (by dsimp only; omega)]
  rintro ⟨x, y⟩ r ⟨i, hy, hi, hil, hx⟩ hr
  dsimp only at *
  subst hy
  simp only [zdx, Int.toNat_natCast] at *
  by_cases hlt : i < min 10 s.length
  . have his : i < s.length := by omega
    have hx := hx (by omega)
    subst hx
    have hb := z1bl (s.getD i 0)
    have h7 : (0 : Int) <= IntKind.wrap .i64 (7 * (i : Int)) := by rw [zb7 (by unfold I64; omega)]; omega
    rw [z8 (zpj (by omega)), z8 (z2u his), z8 (zpj h7), z8 (z2u his), z8 (z2u his), z2f (by omega), zt7 _ hb]
    have hv := z101 (s.take i)
    have hl : (s.take i).length = i := by rw [List.length_take]; omega
    rw [hl] at hv
    have hp : (128 : Nat) ^ i <= 128 ^ 9 := Nat.pow_le_pow_right (by omega) (by omega)
    have e9 : (128 : Nat) ^ 9 = 9223372036854775808 := by decide
    have hnext : val (s.take (i + 1)) = val (s.take i) + 128 ^ i * ((s.getD i 0).toNat % 128) := by
      rw [take_succ s 0 i his, zjr, hl]; simp [val]
    by_cases h128 : (s.getD i 0).toNat < 128
    . -- the last digit
      rw [z8 (zpj (by omega))]
      have hlead : i = z96 s := by
        rcases Nat.lt_or_ge i (z96 s) with h | h
        . have := z15a s i h; omega
        . omega
      have := z16z N (bitsOp .or .u64 ((val (s.take i) : Nat) : Int) (shlI .u64 (IntKind.wrap .u64 (((s.getD i 0).toNat % 128 : Nat) : Int)) (IntKind.wrap .i64 (7 * (i : Int))))) (i + 1) (s.getD i 0).toNat
      rw [this, Option.bind_some]
      unfold z77
      rw [if_neg (show ¬ 10 <= z96 s by omega), if_neg (show ¬ z96 s = s.length by omega), <- hlead]
      have hiff : ((1 < i + 1 /\ (s.getD i 0).toNat = 0) \/ (i + 1 = 10 /\ 1 < (s.getD i 0).toNat)) ↔ ((0 < i /\ (s.getD i 0).toNat = 0) \/ (i = 9 /\ 1 < (s.getD 9 0).toNat)) := by
        constructor
        . rintro (⟨h1, h2⟩ | ⟨h1, h2⟩)
          . exact .inl ⟨by omega, h2⟩
          . have : i = 9 := by omega
            subst this; exact .inr ⟨rfl, h2⟩
        . rintro (⟨h1, h2⟩ | ⟨h1, h2⟩)
          . exact .inl ⟨by omega, h2⟩
          . subst h1; exact .inr ⟨rfl, h2⟩
      by_cases hbad : (0 < i /\ (s.getD i 0).toNat = 0) \/ (i = 9 /\ 1 < (s.getD 9 0).toNat)
      . rw [if_pos (hiff.2 hbad), if_pos hbad]; rfl
      . rw [if_neg (fun h => hbad (hiff.1 h)), if_neg hbad, zy9 hv (by omega) (by omega), hnext]
        . rfl
        . by_cases h9 : i = 9
          . subst h9
            have : ¬ 1 < (s.getD 9 0).toNat := fun h => hbad (.inr ⟨rfl, h⟩)
            rw [e9]; omega
          . have : (128 : Nat) ^ i <= 128 ^ 8 := Nat.pow_le_pow_right (by omega) (by omega)
            have e8 : (128 : Nat) ^ 8 = 72057594037927936 := by decide
            have : (s.getD i 0).toNat % 128 * 128 ^ i <= 127 * 72057594037927936 := Nat.mul_le_mul (by omega) (by omega)
            omega
    . rw [zq (zzj (by omega))]
      have hlead : i < z96 s := by
        rcases Nat.lt_or_ge i (z96 s) with h | h
        . exact h
        . have : i = z96 s := by omega
          have := z116 s (by omega)
          rw [<- ‹i = z96 s›] at this; omega
      refine hr _ ⟨i + 1, rfl, by omega, by omega, fun h9 => ?_⟩ (by dsimp only; omega)
      dsimp only
      rw [zy9 hv (by omega) (by omega), hnext]
      have : (128 : Nat) ^ i <= 128 ^ 8 := Nat.pow_le_pow_right (by omega) (by omega)
      have e8 : (128 : Nat) ^ 8 = 72057594037927936 := by decide
      have : (s.getD i 0).toNat % 128 * 128 ^ i <= 127 * 72057594037927936 := Nat.mul_le_mul (by omega) (by omega)
      omega
  . have hi2 : i = min 10 s.length := by omega
    rw [zq (zzj (by omega))]
    unfold z77
    by_cases h10 : 10 <= s.length
    . rw [z8 (zpj (by omega)), if_pos (by omega)]; rfl
    . rw [zq (zzj (by omega)), if_neg (by omega), if_pos (by omega)]; rfl

end
end Go.Proofs.YtaackaafmidjkaaDoorLg

set_option linter.all false
set_option maxRecDepth 100000
namespace Go.Proofs.YtaackaafmidjkaaDoorLg
noncomputable section
open Go Go.Lift Go.Proofs.YtaackaafmidjkaaDoorPx

def rdr (s : List UInt8) (e : Int) : RdrT.den := (true, (s, (e, ())))
def z93 (s : List UInt8) (e : Int) : Prop := s.length <= 1000000 /\ (e ≠ 0 -> s = [])

theorem zme (e : Int) : z93 [] e := ⟨by simp, fun _ => rfl⟩
theorem zvq {s : List UInt8} (h : s.length <= 1000000) (k : Nat) : z93 (s.drop k) 0 := ⟨by rw [List.length_drop]; omega, fun h => absurd rfl h⟩

theorem zyr (N : Nat) (s : List UInt8) (e : Int) : z1k N (rdr s e) = some (e == 0, (rdr s e, ())) := rfl

theorem z187 (N : Nat) (s : List UInt8) {e : Int} (he : e ≠ 0) (f : Int) : zl N (rdr s e) f = some ((), (rdr s e, ())) := by
  rw [zl, z1y, zyr, beq_eq_false_iff_ne.2 he]
  rfl

theorem z15v (N : Nat) (s : List UInt8) {f : Int} (hf : f ≠ 0) : zl N (rdr s 0) f = some ((), (rdr [] f, ())) := by
  rw [zl, z1y, zyr]
  simp only [Option.bind_some]
  rw [beq_self_eq_true, cond_true, bne_iff_ne.2 hf]
  rfl

theorem z15u (N : Nat) (s : List UInt8) (e : Int) : zl N (rdr s e) 0 = some ((), (rdr s e, ())) := by
  rw [zl, z1y, zyr]
  simp only [Option.bind_some]
  cases (e == 0) <;> rfl

theorem err_t (N : Nat) (s : List UInt8) (e : Int) : z6c N (rdr s e) = some (e, (rdr s e, ())) := rfl

theorem z18j (N : Nat) (s : List UInt8) {e : Int} (he : e ≠ 0) : z13 N (rdr s e) = some (0, (rdr s e, ())) := by
  rw [z13, show ((rdr s e).1 && ((rdr s e).2.2.1 == 0)) = (e == 0) from rfl, beq_eq_false_iff_ne.2 he]
  rfl

theorem zqs {n : Nat} (h : n <= 1000000) : Go.IntKind.wrap .u64 (n : Int) = (n : Int) := z28 (by omega)

theorem z18g (N : Nat) (a : UInt8) (l : List UInt8) (hl : (a :: l).length <= 1000000) : z13 N (rdr (a :: l) 0) = some ((a.toNat : Int), (rdr l 0, ())) := by
  rw [z13, show ((rdr (a :: l) 0).1 && ((rdr (a :: l) 0).2.2.1 == 0)) = true from rfl, cond_true, show (rdr (a :: l) 0).2.1 = a :: l from rfl, zqs hl,
    z8 (decide_eq_true (by simp only [List.length_cons]; omega))]
  rfl

def zp4 (s : List UInt8) (e most : Int) : Int × List UInt8 × Int :=
 if e ≠ 0 then (0, s, e)
 else if (z77 s).2.2 ≠ 0 then (0, [], (z77 s).2.2)
 else if most < (z77 s).1 then (0, [], 3)
 else ((z77 s).1, s.drop (z77 s).2.1, 0)

theorem z13u {s : List UInt8} (h : (z77 s).2.2 = 0) : (z77 s).1 < 18446744073709551616 /\ (z77 s).2.1 <= s.length := by
  have := Go.Proofs.YtaackaafmidjkaaDoorPx.take_ok (s := s) (n := (z77 s).1) (k := (z77 s).2.1) (by rw [<- h])
  exact ⟨this.1, this.2.2.1⟩

theorem zvk {s : List UInt8} {e most : Int} (h : z93 s e) : z93 (zp4 s e most).2.1 (zp4 s e most).2.2 := by
  unfold zp4
  split
  . exact h
  . split
    . exact zme _
    . split
      . exact zme 3
      . exact zvq h.1 _

theorem z19c (N : Nat) (hN : 20 < N) {s : List UInt8} {e : Int} (h : z93 s e) (most : Int) : z20 N (rdr s e) most = some ((zp4 s e most).1, (rdr (zp4 s e most).2.1 (zp4 s e most).2.2, ())) := by
  rw [z20, show ((rdr s e).1 && ((rdr s e).2.2.1 == 0)) = (e == 0) from rfl, show (rdr s e).2.1 = s from rfl]
  unfold zp4
  by_cases he : e = 0
  . subst he
    rw [if_neg (by simp), z8 (by rfl), z100 N hN s (Nat.le_trans h.1 (by omega))]
    simp only [Option.bind_some, z17m]
    by_cases hf : (z77 s).2.2 = 0
    . obtain ⟨h1, h2⟩ := z13u hf
      rw [if_neg (by simpa using hf), z8 (decide_eq_true hf)]
      by_cases hm : most < (z77 s).1
      . rw [if_pos hm, zq (decide_eq_false (by omega))]
        rfl
      . rw [if_neg hm, z8 (decide_eq_true (by omega)), z8 (decide_eq_true ⟨by omega, by omega⟩), Int.toNat_natCast]
        rfl
    . rw [if_pos hf, zq (decide_eq_false hf)]
      rfl
  . rw [if_pos he, zq (beq_eq_false_iff_ne.2 he)]

def zye (y : Int × List UInt8 × Int) : List UInt8 × List UInt8 × Int :=
 if y.2.2 ≠ 0 then ([], y.2.1, y.2.2)
 else if (y.2.1.length : Int) < y.1 then ([], [], 1)
 else (y.2.1.take y.1.toNat, y.2.1.drop y.1.toNat, 0)

def zew (s : List UInt8) (e most : Int) : List UInt8 × List UInt8 × Int := zye (zp4 s e (if most < 0 then 0 else most))

theorem z14v (s : List UInt8) (e most : Int) : 0 <= (zp4 s e most).1 := by
  unfold zp4
  split
  . exact Int.le_refl _
  . split
    . exact Int.le_refl _
    . split
      . exact Int.le_refl _
      . exact Int.natCast_nonneg _

theorem zjv {s : List UInt8} {e most : Int} (h : z93 s e) : z93 (zew s e most).2.1 (zew s e most).2.2 := by
  have hn := zvk (most := if most < 0 then 0 else most) h
  unfold zew zye
  generalize zp4 s e (if most < 0 then 0 else most) = y at *
  by_cases h1 : y.2.2 = 0
  . rw [if_neg (by simpa using h1)]
    by_cases h2 : (y.2.1.length : Int) < y.1
    . rw [if_pos h2]; exact zme 1
    . rw [if_neg h2]; exact zvq hn.1 _
  . rw [if_pos h1]; exact hn

theorem zrk (N : Nat) (hN : 20 < N) {s : List UInt8} {e : Int} (h : z93 s e) {most : Int} (hm : most < 9223372036854775808) : zn N (rdr s e) most = some ((zew s e most).1, (rdr (zew s e most).2.1 (zew s e most).2.2, ())) := by
  have wm : Go.IntKind.wrap .u64 (if most < 0 then 0 else most) = (if most < 0 then 0 else most) := by
    have e : ∀ x : Int, Go.IntKind.wrap .u64 x = x % 18446744073709551616 := fun _ => rfl
    rw [e]
    split <;> omega
  rw [zn, show ((rdr s e).1 && ((rdr s e).2.2.1 == 0)) = (e == 0) from rfl, show (rdr s e).2.1 = s from rfl, wm]
  unfold zew
  generalize (if most < 0 then 0 else most) = m
  by_cases he : e = 0
  . subst he
    rw [z8 (by rfl), z100 N hN s (Nat.le_trans h.1 (by omega))]
    simp only [Option.bind_some, z17m]
    by_cases hf : (z77 s).2.2 = 0
    . obtain ⟨h1, h2⟩ := z13u hf
      rw [z8 (decide_eq_true hf)]
      by_cases hm : m < (z77 s).1
      . have hy : zp4 s 0 m = (0, [], 3) := by
          unfold zp4
          rw [if_neg (by simp), if_neg (by simpa using hf), if_pos hm]
        rw [zq (decide_eq_false (by omega)), hy]
        rfl
      . have hy : zp4 s 0 m = (((z77 s).1 : Int), s.drop (z77 s).2.1, 0) := by
          unfold zp4
          rw [if_neg (by simp), if_neg (by simpa using hf), if_neg hm]
        have hd : (s.drop (z77 s).2.1).length <= 1000000 := by rw [List.length_drop]; have := h.1; omega
        rw [z8 (decide_eq_true (by omega)), z8 (decide_eq_true ⟨by omega, by omega, by omega⟩), Int.toNat_natCast, hy, zqs hd]
        unfold zye
        rw [if_neg (by simp)]
        by_cases hl : ((s.drop (z77 s).2.1).length : Int) < (z77 s).1
        . rw [if_pos hl, zq (decide_eq_false (by omega))]
          rfl
        . rw [if_neg hl, z8 (decide_eq_true (by omega))]
          rfl
    . have hy : zp4 s 0 m = (0, [], (z77 s).2.2) := by
        unfold zp4
        rw [if_neg (by simp), if_pos hf]
      rw [zq (decide_eq_false hf), hy]
      unfold zye
      rw [if_pos hf]
      rfl
  . have hy : zp4 s e m = (0, s, e) := by
      unfold zp4
      rw [if_pos he]
    rw [zq (beq_eq_false_iff_ne.2 he), hy]
    unfold zye
    rw [if_pos he]

theorem zo1 (N : Nat) (hN : 20 < N) {t : List UInt8} (ht : t.length <= 1000000) : z4d N t = some (z55 t.length ++ t) := by
  have := z4i t.length
  rw [z4d, zqs ht, z199 N hN (by omega)]
  simp only [Option.bind_some]
  rw [z8 (decide_eq_true (by omega))]

theorem zf1 (N : Nat) (hN : 20 < N) {t : List UInt8} (ht : t.length <= 1000000) : z1d N t = some (z55 t.length ++ t) := by
  have := z4i t.length
  rw [z1d, zqs ht, zyq N (by omega) (by omega)]
  simp only [Option.bind_some]
  rw [z8 (decide_eq_true (by omega))]

theorem zvs (N : Nat) (hN : 20 < N) {n : Nat} (hn : n < 18446744073709551616) : z8b N (n : Int) = some (z55 n) := by
  rw [z8b, z199 N hN hn]
  rfl

end
end Go.Proofs.YtaackaafmidjkaaDoorLg
