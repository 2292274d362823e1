import Derived.Test.YtobbmaplbpdniaaLgPrRr5
import Derived.Laws.ResultCell
import Derived.WalkKit
import Derived.Tactics
import Derived.Tactics2
import Derived.Defers
import Derived.Lib.Hide
import Derived.Below
import Derived.WalkSmall
import Derived.LoopN
import Derived.Deep.RegionHeld3
import Derived.Deep.Cut
import Derived.KernelRfl
import Derived.Laws.Rows
import Derived.Test.YtobbmaplbpdniaaChecked
import Derived.Test.YtobbmaplbpdniaaLgPrRr3
set_option linter.all false
set_option maxRecDepth 100000
namespace Go.Proofs.YtobbmaplbpdniaaLg
noncomputable section
open Go Go.Lift Go.Proofs

abbrev EvT : T := .pair (.int .i64) (.pair .str (.pair (.int .i64) (.pair (.int .i64) (.pair .str .unit))))

theorem zyx {S : Hp} {e : EvT.den} {v : Value} (h : VR S EvT e v) : v = evV e.1 e.2.1 e.2.2.1 e.2.2.2.1 e.2.2.2.2.1 := by
  obtain ⟨cs, rfl, d1, d2, q1, k1, d3, d4, q2, k2, d5, d6, q3, k3, d7, d8, q4, k4, d9, d10, q5, k5, k6⟩ := h
  have i1 : d1 = [.int .i64 e.1] := k1
  have i2 : d3 = [.string ⟨⟨e.2.1⟩⟩] := k2
  have i3 : d5 = [.int .i64 e.2.2.1] := k3
  have i4 : d7 = [.int .i64 e.2.2.2.1] := k4
  have i5 : d9 = [.string ⟨⟨e.2.2.2.2.1⟩⟩] := k5
  have i6 : d10 = [] := k6
  unfold evV
  congr 1
  apply Array.toList_inj.1
  rw [q1, q2, q3, q4, q5, i1, i2, i3, i4, i5, i6]
  rfl

theorem zrr (N : Nat) {W : World} {S : Hp} (hS : Lift.Sub S (hp W)) {s : StT.den} {v : Value} {y : Bool} (hv : VR S StT s v) (hy : z37 N s = some y) :
    Calls Go.Proofs.Try.prog 10 #[v] W fun r w' => r = .returned (.bool y) /\ W.grownBy w' none := by
  refine ((z6s N).2 W S _ _ _ (z80 [(.v StT s, v)] (fun p hp => by rw [List.mem_singleton.1 hp]; exact ⟨⟨hv, rfl⟩, rfl⟩)) hS (zap S) _ hy).mono ?_
  intro e w' he
  obtain ⟨v, o, S', rfl, hr, hc⟩ := zfd he
  exact ⟨by rw [VR.bool_inv hr.1], hc⟩

theorem zuo (N : Nat) {W : World} {S : Hp} (hS : Lift.Sub S (hp W)) {e : EvT.den} {v : Value} {y : Bool} (hv : VR S EvT e v) (hy : z8t N e = some y) :
    Calls Go.Proofs.Try.prog 12 #[v] W fun r w' => r = .returned (.bool y) /\ W.grownBy w' none := by
  refine ((znk N).2 W S _ _ _ (z80 [(.v EvT e, v)] (fun p hp => by rw [List.mem_singleton.1 hp]; exact ⟨⟨hv, rfl⟩, rfl⟩)) hS (zap S) _ hy).mono ?_
  intro e w' he
  obtain ⟨v, o, S', rfl, hr, hc⟩ := zfd he
  exact ⟨by rw [VR.bool_inv hr.1], hc⟩

def z6x (N : Nat) (s : StT.den) (e : EvT.den) : Option (StT.den × (Int × Unit)) :=
 (z37 N s).bind fun r =>
 if r = false then some (([], (0, ())), (7, ()))
 else (z8t N e).bind fun f =>
 if f = false then some (([], (0, ())), (2, ()))
 else if s.1.length <= 16 /\ (s.1.all fun t => decide (t.2.2.2.1.length < 256)) = true then
 (zju N s e.1 e.2.1 e.2.2.1 e.2.2.2.1 e.2.2.2.2.1).bind fun y => if y.1 = 0 then some (y.2, (0, ())) else some (([], (0, ())), (y.1, ()))
 else none

def z86 (N : Nat) : List A -> Res := z38 [(0, .v StT), (0, .v EvT)] (fun x => z6x N x.1 x.2.1) (zgv (.tup [StT, (.int .i64)]) 2)

theorem ztu {w w' : World} {S : Hp} {vals : List Value} {ob : Nat -> List Nat} {z : z2m [(0, .v StT), (0, .v EvT)]} {x : StT.den} {e : Int} {v : Value} (hS : Lift.Sub S (hp w)) (hob : ∀ i, ob i = []) (hwf : WF w (fun j => w.heap.size <= j) w')
    (hv : VR (fun k => if w.heap.size <= k then hp w' k else S k) StT x v) :
    Lift.Ends w S (mkS [(0, .v StT), (0, .v EvT)] 0 z) vals ob (zgv (.tup [StT, (.int .i64)]) 2 (x, (e, ()))).1 (zgv (.tup [StT, (.int .i64)]) 2 (x, (e, ()))).2 (.returned (.tuple #[v, .int .i64 e])) w' := by
  have hsome : ∀ k o, S k = some o -> k < w.heap.size := fun k o hk => (Array.getElem?_eq_some_iff.1 (show w.heap[k]? = some o from hS k o hk)).1
  have hSw : Lift.Sub S (hp w') := fun k o hk => by
    have h := hwf.same k (hsome k o hk) (by have := hsome k o hk; omega)
    simp only [hp]
    rw [h]
    exact hS k o hk
  refine ⟨_, fun k => if w.heap.size <= k then hp w' k else S k, [], ob, rfl, ⟨hwf.size, fun k hk _ => hwf.same k hk (by omega), hwf.tape, hwf.os, hwf.output⟩, fun k o hk => ?_, fun k o hk => ?_, fun k hk => ?_, ⟨⟨rfl, _, rfl, .cons hv (.cons VR.int .nil)⟩, rfl⟩, (fun k hk => by cases hk), .nil, ?_, ?_, ?_, ?_, fun i hi => hi⟩
  . dsimp only
    rw [if_neg (by have := hsome k o hk; omega)]
    exact hk
  . dsimp only at hk
    split at hk
    . exact hk
    . exact hSw k o hk
  . dsimp only at hk
    split at hk
    . exact .inr (.inr (by assumption))
    . exact .inl hk
  . intro i z hz hbx
    match i with
    | 0 => simp [mkS, zc6, AS.mk] at hz; subst hz; cases hbx
    | 1 => simp [mkS, zc6, AS.mk] at hz; subst hz; cases hbx
    | i + 2 => simp [mkS, zc6] at hz
  . intro i k hk
    rw [hob i] at hk; cases hk
  . intro i j k hi
    rw [hob i] at hi; cases hi
  . intro i
    rw [hob i]; exact .nil

theorem zot (S : Hp) : VR S StT ([], (0, ())) (.agg #[.slice none 0 0, .int .i64 0]) := zqj (VR.of_one rfl ⟨none, 0, rfl, Nat.le_refl _, .inl rfl⟩)

theorem zgg {w W : World} {B : Nat -> Prop} {q : Nat} (h : WF w B W) (hq : B q) (i : Nat) (v : Value) : WF w B (W.setCell ⟨q, i, none⟩ v) := by
  have g := z1w (w := W) (g := q) (i := i) v
  exact ⟨Nat.le_trans h.size g.size, fun k hk hn => (g.block k (Nat.lt_of_lt_of_le hk h.size) (fun e => hn (by cases e; exact hq))).trans (h.same k hk hn), g.tape.trans h.tape, g.os.trans h.os, g.output.trans h.output⟩

theorem zfh {W : World} {qr : Nat} {v : Value} {ser c : Int} {tmps : Array Value} (h4 : tmps.getD 4 undef = .pointer (some ⟨qr, 0, none⟩)) (h5 : tmps.getD 5 undef = .int .i64 c) (h : RowAt W qr [v, .int .i64 ser] 24) :
    (results Go.Proofs.Try.f8 tmps).run Go.Proofs.Try.prog W = .ok (.tuple #[.agg #[v, .int .i64 ser], .int .i64 c]) W := by
  have c0 := h.cell (i := 0) rfl
  have c1 := h.cell (i := 1) rfl
  rw [results_cell_tmp rfl, h4, h5]
  simp [asAddr, Go.loadVar, go_sem, c0, c1]

set_option maxHeartbeats 30000000 in
theorem zeu (N : Nat) : Contract Go.Proofs.Try.prog z1c 8 (z86 N) := by
  refine Contract.hand ⟨_, Go.Proofs.Try.func8, by kernel_rfl, by decide⟩ ?_
  intro w S vals ob x y har hS hg hy
  obtain ⟨s, e, u⟩ := x
  cases u
  dsimp only at hy
  obtain ⟨⟨v0, hv0, hA0, ho0⟩, _⟩ := har.rel 0 _ rfl
  obtain ⟨⟨v1, hv1, hA1, ho1⟩, _⟩ := har.rel 1 _ rfl
  have hvals : vals = [v0, v1] := by
    match vals, har.len, hv0, hv1 with
    | [a, b], _, h1, h2 => simp at h1 h2; rw [h1, h2]
  subst hvals
  have hob : ∀ i, ob i = [] := by
    intro i
    match i with
    | 0 => exact ho0
    | 1 => exact ho1
    | i + 2 => exact har.out _ (by simp [mkS, zc6])
  suffices HX : ∀ R : Ending -> World -> Prop, Go.RowKit.Hid (∀ (st : StT.den) (c : Int) (v : Value) (w' : World), y = (st, (c, ())) -> WF w (fun j => w.heap.size <= j) w' -> VR (fun k => if w.heap.size <= k then hp w' k else S k) StT st v -> R (.returned (.tuple #[v, .int .i64 c])) w') -> Calls Go.Proofs.Try.prog 8 #[v0, v1] w R from
    HX _ (Go.Lib.hid (fun st c v w' h1 h2 h3 => by rw [h1]; exact ztu hS hob h2 h3))
  intro R HR
  unfold z6x at hy
  obtain ⟨r, hr, hy⟩ := Option.bind_eq_some_iff.1 hy
  have he := zyx hA1
  obtain ⟨ts, ser, u⟩ := s
  cases u
  obtain ⟨sv, rfl, hsv⟩ := zt6 hA0
  have hev := hA1
  subst he
  unfold evV at hev ⊢
  have hcr := fun W (h : Lift.Sub S (hp W)) => zrr N (W := W) h hA0 hr
  have HC := Go.Lib.hid hcr
  clear har hv0 hv1 hcr
  go_enter Go.Proofs.Try.func8, Go.Proofs.Try.ntmps8
  go_upto_region 1 with (fail)
  have ha0 : RowAt (((w.alloc (Obj.cells #[sv, .int .i64 ser] 24)).alloc (Obj.cells #[.int .i64 e.1, .string ⟨⟨e.2.1⟩⟩, .int .i64 e.2.2.1, .int .i64 e.2.2.2.1, .string ⟨⟨e.2.2.2.2.1⟩⟩] 26)).alloc (Obj.cells #[.slice none 0 0, .int .i64 0] 24)) w.heap.size [sv, .int .i64 ser] 24 := ((RowAt.new w [sv, .int .i64 ser] 24).alloc _).alloc _
  have ha1 : RowAt (((w.alloc (Obj.cells #[sv, .int .i64 ser] 24)).alloc (Obj.cells #[.int .i64 e.1, .string ⟨⟨e.2.1⟩⟩, .int .i64 e.2.2.1, .int .i64 e.2.2.2.1, .string ⟨⟨e.2.2.2.2.1⟩⟩] 26)).alloc (Obj.cells #[.slice none 0 0, .int .i64 0] 24)) (w.heap.size + 1) [.int .i64 e.1, .string ⟨⟨e.2.1⟩⟩, .int .i64 e.2.2.1, .int .i64 e.2.2.2.1, .string ⟨⟨e.2.2.2.2.1⟩⟩] 26 := by
    have h := (RowAt.new (w.alloc (Obj.cells #[sv, .int .i64 ser] 24)) [.int .i64 e.1, .string ⟨⟨e.2.1⟩⟩, .int .i64 e.2.2.1, .int .i64 e.2.2.2.1, .string ⟨⟨e.2.2.2.2.1⟩⟩] 26).alloc (Obj.cells #[.slice none 0 0, .int .i64 0] 24)
    simpa using h
  have ha2 : RowAt (((w.alloc (Obj.cells #[sv, .int .i64 ser] 24)).alloc (Obj.cells #[.int .i64 e.1, .string ⟨⟨e.2.1⟩⟩, .int .i64 e.2.2.1, .int .i64 e.2.2.2.1, .string ⟨⟨e.2.2.2.2.1⟩⟩] 26)).alloc (Obj.cells #[.slice none 0 0, .int .i64 0] 24)) (w.heap.size + 1 + 1) [.slice none 0 0, .int .i64 0] 24 := by
    have h := RowAt.new ((w.alloc (Obj.cells #[sv, .int .i64 ser] 24)).alloc (Obj.cells #[.int .i64 e.1, .string ⟨⟨e.2.1⟩⟩, .int .i64 e.2.2.1, .int .i64 e.2.2.2.1, .string ⟨⟨e.2.2.2.2.1⟩⟩] 26)) [.slice none 0 0, .int .i64 0] 24
    simpa using h
  have hag : w.grownBy (((w.alloc (Obj.cells #[sv, .int .i64 ser] 24)).alloc (Obj.cells #[.int .i64 e.1, .string ⟨⟨e.2.1⟩⟩, .int .i64 e.2.2.1, .int .i64 e.2.2.2.1, .string ⟨⟨e.2.2.2.2.1⟩⟩] 26)).alloc (Obj.cells #[.slice none 0 0, .int .i64 0] 24)) none := ((World.grownBy_alloc w _ none).trans38 (World.grownBy_alloc _ _ none)).trans38 (World.grownBy_alloc _ _ none)
  obtain ⟨A3, hA3⟩ : ∃ A3, A3 = (((w.alloc (Obj.cells #[sv, .int .i64 ser] 24)).alloc (Obj.cells #[.int .i64 e.1, .string ⟨⟨e.2.1⟩⟩, .int .i64 e.2.2.1, .int .i64 e.2.2.2.1, .string ⟨⟨e.2.2.2.2.1⟩⟩] 26)).alloc (Obj.cells #[.slice none 0 0, .int .i64 0] 24)) := ⟨_, rfl⟩
  rw [<- hA3] at ha0 ha1 ha2 hag ⊢
  clear hA3
  obtain ⟨es, hes⟩ : ∃ es, es = w.heap.size + 1 := ⟨_, rfl⟩
  rw [<- hes] at ha1 ha2 ⊢
  obtain ⟨qr, hqr⟩ : ∃ qr, qr = es + 1 := ⟨_, rfl⟩
  rw [<- hqr] at ha2 ⊢
  obtain ⟨s0, hs0⟩ : ∃ s0, s0 = w.heap.size := ⟨_, rfl⟩
  rw [<- hs0] at ha0 ⊢
  have HSZ := Go.Lib.hid (And.intro hs0 (And.intro hes hqr))
  clear hs0 hes hqr
  have hcr := HC.out A3 (z3z hS hag)
  have k0 := ha0.cell (i := 0) rfl
  have k1 := ha0.cell (i := 1) rfl
  have HA0 := Go.Lib.hid ha0
  have HA1 := Go.Lib.hid ha1
  have HA2 := Go.Lib.hid ha2
  have HAG := Go.Lib.hid hag
  clear ha0 ha1 ha2 hag
  have hlr : w.heap.size <= qr := by have := HSZ.out; omega
  rcases r with _ | _
  . rw [if_pos rfl] at hy
    cases hy
    go_upto_region 2 with (go_at_call 10; refine hcr.mono ?_; rintro _ w1 ⟨rfl, g1⟩; have HG1 := Go.Lib.hid g1; clear g1 hcr)
    have hq1 := HA2.out.grown HG1.out (by simp)
    have r0 := hq1.cell (i := 0) rfl
    have r1 := hq1.cell (i := 1) rfl
    have f0 := hq1.free (i := 0)
    have f1 := hq1.free (i := 1)
    have hq2 := hq1.set 0 (.slice none 0 0)
    have r1' := hq2.cell (i := 1) rfl
    have f1' := hq2.free (i := 1)
    have hq3 := hq2.set 1 (.int .i64 0)
    have HQ3 := Go.Lib.hid hq3
    clear hq1 hq2 hq3
    go_wp2
    exact bodyPost_ret (zfh rfl rfl HQ3.out) rfl (HR.out _ _ _ _ rfl (zgg (zgg (z48 (HAG.out.trans38 HG1.out) (by simp)) hlr 0 _) hlr 1 _) (zot _))
  rw [if_neg (by decide)] at hy
  obtain ⟨f, hf, hy⟩ := Option.bind_eq_some_iff.1 hy
  go_upto_region 3 with (go_at_call 10; refine hcr.mono ?_; rintro _ w1 ⟨rfl, g1⟩; have HG1 := Go.Lib.hid g1; clear g1 hcr)
  have hk1 := HA1.out.grown HG1.out (by simp)
  have m0 := hk1.cell (i := 0) rfl
  have m1 := hk1.cell (i := 1) rfl
  have m2 := hk1.cell (i := 2) rfl
  have m3 := hk1.cell (i := 3) rfl
  have m4 := hk1.cell (i := 4) rfl
  have hcf := zuo N (W := w1) (z3z hS (HAG.out.trans38 HG1.out)) hev hf
  unfold evV at hcf
  have HK1 := Go.Lib.hid hk1
  clear hk1 k0 k1
  rcases f with _ | _
  . rw [if_pos rfl] at hy
    cases hy
    go_upto_region 4 with (go_at_call 12; refine hcf.mono ?_; rintro _ w2 ⟨rfl, g2⟩; have HG2 := Go.Lib.hid g2; clear g2 hcf)
    have hq1 := (HA2.out.grown HG1.out (by simp)).grown HG2.out (by simp)
    have r0 := hq1.cell (i := 0) rfl
    have r1 := hq1.cell (i := 1) rfl
    have f0 := hq1.free (i := 0)
    have f1 := hq1.free (i := 1)
    have hq2 := hq1.set 0 (.slice none 0 0)
    have r1' := hq2.cell (i := 1) rfl
    have f1' := hq2.free (i := 1)
    have hq3 := hq2.set 1 (.int .i64 0)
    have HQ3 := Go.Lib.hid hq3
    clear hq1 hq2 hq3
    go_wp2
    exact bodyPost_ret (zfh rfl rfl HQ3.out) rfl (HR.out _ _ _ _ rfl (zgg (zgg (z48 ((HAG.out.trans38 HG1.out).trans38 HG2.out) (by simp)) hlr 0 _) hlr 1 _) (zot _))
  rw [if_neg (by decide)] at hy
  by_cases hlim : ts.length <= 16 /\ (ts.all fun t => decide (t.2.2.2.1.length < 256)) = true
  case neg => rw [if_neg hlim] at hy; cases hy
  rw [if_pos hlim] at hy
  obtain ⟨z, hz, hy⟩ := Option.bind_eq_some_iff.1 hy
  have hk256 : ∀ t ∈ ts, t.2.2.2.1.length < 256 := fun t ht => by simpa using List.all_eq_true.1 hlim.2 t ht
  go_upto_region 5 with (go_at_call 12; refine hcf.mono ?_; rintro _ w2 ⟨rfl, g2⟩; have HG2 := Go.Lib.hid g2; clear g2 hcf)
  have hg2 : w.grownBy w2 none := (HAG.out.trans38 HG1.out).trans38 HG2.out
  have hcc := zls (w := w2) (ser := ser) (z3z hS hg2) hsv (by omega) (fun t ht => by have := hk256 t ht; omega)
  have k2 := (HA0.out.grown HG1.out (by simp)).grown HG2.out (by simp)
  have k0 := k2.cell (i := 0) rfl
  have k1 := k2.cell (i := 1) rfl
  have HG3 := Go.Lib.hid hg2
  clear k2 hg2 m0 m1 m2 m3 m4
  go_upto_region 6 with (go_at_call 23; refine hcc.mono ?_; rintro _ w3 ⟨b, l, rfl, hl1, hl2, hl3⟩; have HL := Go.Lib.hid (And.intro hl1 (And.intro hl2 hl3)); clear hl1 hl2 hl3 hcc)
  obtain ⟨hl1, hl2, hl3⟩ := HL.out
  have hw23 := hl2.size
  have hbw : b < w3.heap.size := hl3.row.lt
  have hin : ∀ i, (h : i < l.length) -> l[i].1.2.2.2.1.length < 256 := fun i h => hk256 _ (by rw [<- hl1]; exact List.mem_map_of_mem (List.getElem_mem h))
  have HSt : St38 w2.heap.size (w3.alloc (Obj.cells #[.slice (some ⟨b, 0, none⟩) ts.length ts.length, .int .i64 ser] 24)) w3.heap.size b ts.length ser l :=
    ⟨RowAt.new w3 [.slice (some ⟨b, 0, none⟩) ts.length ts.length, .int .i64 ser] 24, hl3.row.alloc _, by rw [<- hl1, List.length_map], by omega, hl3.low, hw23, hlim.1, hin, fun i hi => by
      obtain ⟨kb, e1, e2, e3, e4⟩ := hl3.keys i hi
      exact ⟨kb, e1, e2, e3, by have := e4.lt; omega, e4.alloc _⟩, hl3.apart⟩
  have hch := zpx N HSt (y := z) (by rw [hl1]; exact hz)
  unfold evV at hch
  have hg36 : w2.grownBy (w3.alloc (Obj.cells #[.slice (some ⟨b, 0, none⟩) ts.length ts.length, .int .i64 ser] 24)) none := hl2.trans38 (World.grownBy_alloc w3 _ none)
  have hk6 := (HK1.out.grown HG2.out (by simp)).grown hg36 (by simp)
  have hq6 := ((HA2.out.grown HG1.out (by simp)).grown HG2.out (by simp)).grown hg36 (by simp)
  have hqlt := ((HA2.out.grown HG1.out (by simp)).grown HG2.out (by simp)).lt
  obtain ⟨A6, hA6⟩ : ∃ A6, A6 = w3.alloc (Obj.cells #[.slice (some ⟨b, 0, none⟩) ts.length ts.length, .int .i64 ser] 24) := ⟨_, rfl⟩
  rw [<- hA6] at hch hg36 hk6 hq6 HSt ⊢
  clear hA6
  obtain ⟨qa, hqa⟩ : ∃ qa, qa = w3.heap.size := ⟨_, rfl⟩
  rw [<- hqa] at hch HSt ⊢
  clear hqa
  have m0 := hk6.cell (i := 0) rfl
  have m1 := hk6.cell (i := 1) rfl
  have m2 := hk6.cell (i := 2) rfl
  have m3 := hk6.cell (i := 3) rfl
  have m4 := hk6.cell (i := 4) rfl
  have HQ6 := Go.Lib.hid hq6
  have HG6 := Go.Lib.hid (HG3.out.trans38 hg36)
  clear hq6 hk6 hg36 HSt hl1 hl2 hl3 hin k0 k1
  have hwle : w.heap.size <= w2.heap.size := HG3.out.size
  go_upto_region 7 with (go_at_call 24; refine hch.mono ?_; rintro _ w4 ⟨rfl, g4, q4⟩; have H4 := Go.Lib.hid (And.intro g4 q4); clear g4 q4 hch)
  obtain ⟨g4, q4⟩ := H4.out
  have hw4 : WF w (fun j => w.heap.size <= j) w4 := ⟨Nat.le_trans HG6.out.size g4.size, fun j hj hn => (g4.same j (Nat.lt_of_lt_of_le hj HG6.out.size) (by omega)).trans (HG6.out.block j hj (by simp)), g4.tape.trans HG6.out.tape, g4.os.trans HG6.out.os, g4.output.trans HG6.out.output⟩
  have hq1 : RowAt w4 qr [.slice none 0 0, .int .i64 0] 24 := by
    have h := HQ6.out
    unfold RowAt at *
    rw [g4.same qr (Array.getElem?_eq_some_iff.1 h).1 (by omega)]
    exact h
  have HW4 := Go.Lib.hid hw4
  have HQ4 := Go.Lib.hid q4
  clear g4 q4 hw4
  by_cases gz : z.1 = 0
  . rw [if_pos gz] at hy
    cases hy
    obtain ⟨v, v1, v2⟩ := HQ4.out gz
    obtain ⟨va, vc, _, rfl, _⟩ := zn6 (v2 (hp w4) (fun _ _ => rfl))
    have n0 := v1.cell (i := 0) rfl
    have n1 := v1.cell (i := 1) rfl
    have r0 := hq1.cell (i := 0) rfl
    have r1 := hq1.cell (i := 1) rfl
    have f0 := hq1.free (i := 0)
    have f1 := hq1.free (i := 1)
    have hq2 := hq1.set 0 (.slice va z.2.1.length vc)
    have r1' := hq2.cell (i := 1) rfl
    have f1' := hq2.free (i := 1)
    have hq3 := hq2.set 1 (.int .i64 z.2.2.1)
    have HQ3 := Go.Lib.hid hq3
    have HV := Go.Lib.hid v2
    rw [gz] at *
    clear hq1 hq2 hq3 v1 v2 m0 m1 m2 m3 m4
    go_wp2
    refine bodyPost_ret (zfh rfl rfl HQ3.out) rfl (HR.out _ _ _ _ rfl (zgg (zgg HW4.out hlr 0 _) hlr 1 _) (zqj (HV.out _ (fun j hj => ?_))))
    rw [if_pos (by omega)]
    have hne : qr ≠ j := by omega
    simp only [hp]
    rw [heap_setCell_other _ ⟨qr, 1, none⟩ j _ (Ne.symm hne), heap_setCell_other _ ⟨qr, 0, none⟩ j _ (Ne.symm hne)]
  . rw [if_neg gz] at hy
    cases hy
    have r0 := hq1.cell (i := 0) rfl
    have r1 := hq1.cell (i := 1) rfl
    have f0 := hq1.free (i := 0)
    have f1 := hq1.free (i := 1)
    have hq2 := hq1.set 0 (.slice none 0 0)
    have r1' := hq2.cell (i := 1) rfl
    have f1' := hq2.free (i := 1)
    have hq3 := hq2.set 1 (.int .i64 0)
    have HQ3 := Go.Lib.hid hq3
    clear hq1 hq2 hq3 m0 m1 m2 m3 m4
    go_wp2
    exact bodyPost_ret (zfh rfl rfl HQ3.out) rfl (HR.out _ _ _ _ rfl (zgg (zgg HW4.out hlr 0 _) hlr 1 _) (zot _))

def zfn (N : Nat) (s : StT.den) : Option StT.den :=
 if s.1.length <= 1000 /\ (s.1.all fun t => decide (t.2.2.2.1.length <= 1000)) = true then some s else none

def zd5 (N : Nat) : List A -> Res := z38 [(0, .v StT)] (fun x => zfn N x.1) (zgv (.v StT) 1)

theorem zub {w w' : World} {b : Nat} {l : List (TenT.den × Value)} (h : Laid w w' b l) {S : Hp} (hS : ∀ j, w.heap.size <= j -> S j = w'.heap[j]?) : VR S (.sl TenT) (l.map (·.1)) (.slice (some ⟨b, 0, none⟩) l.length l.length) :=
  zcn (lo := w.heap.size) (w := w') (sp := []) (by rw [List.append_nil]; exact h.row) h.low (Nat.le_refl _) (fun p hp => by
    obtain ⟨i, hi, rfl⟩ := List.getElem_of_mem hp
    obtain ⟨kb, e1, e2, e3, e4⟩ := h.keys i hi
    exact .inr ⟨kb, _, [], e1, Nat.le_refl _, e2, by rw [List.append_nil]; exact e4⟩) hS

theorem zm6 (N : Nat) : Contract Go.Proofs.Try.prog z1c 23 (zd5 N) := by
  refine Contract.hand ⟨_, Go.Proofs.Try.func23, by kernel_rfl, by decide⟩ ?_
  intro w S vals ob x y har hS hg hy
  obtain ⟨s, u⟩ := x
  cases u
  dsimp only at hy
  obtain ⟨⟨v0, hv0, hA0, ho0⟩, _⟩ := har.rel 0 _ rfl
  have hvals : vals = [v0] := by
    match vals, har.len, hv0 with
    | [a], _, h1 => simp at h1; rw [h1]
  subst hvals
  have hob : ∀ i, ob i = [] := by
    intro i
    match i with
    | 0 => exact ho0
    | i + 1 => exact har.out _ (by simp [mkS, zc6])
  unfold zfn at hy
  by_cases hlim : s.1.length <= 1000 /\ (s.1.all fun t => decide (t.2.2.2.1.length <= 1000)) = true
  case neg => rw [if_neg hlim] at hy; cases hy
  rw [if_pos hlim] at hy
  obtain rfl : s = y := Option.some.inj hy
  obtain ⟨ts, ser, u⟩ := s
  cases u
  obtain ⟨sv, rfl, hsv⟩ := zt6 hA0
  have hk : ∀ t ∈ ts, t.2.2.2.1.length <= 1000 := fun t ht => by simpa using List.all_eq_true.1 hlim.2 t ht
  refine (zls (ser := ser) hS hsv hlim.1 hk).mono ?_
  rintro _ w' ⟨b, l, rfl, hl1, hl2, hl3⟩
  have hsome : ∀ k o, S k = some o -> k < w.heap.size := fun k o hk => (Array.getElem?_eq_some_iff.1 (show w.heap[k]? = some o from hS k o hk)).1
  have hSw := z3z hS hl2
  have hv : VR (fun k => if w.heap.size <= k then hp w' k else S k) StT (ts, (ser, ())) (.agg #[.slice (some ⟨b, 0, none⟩) ts.length ts.length, .int .i64 ser]) := by
    refine zqj ?_
    have h := zub hl3 (S := fun k => if w.heap.size <= k then hp w' k else S k) (fun j hj => if_pos hj)
    have e : l.length = ts.length := by rw [<- hl1, List.length_map]
    rw [hl1, e] at h
    exact h
  refine ⟨_, fun k => if w.heap.size <= k then hp w' k else S k, [], ob, rfl, ⟨hl2.size, fun k hk _ => hl2.block k hk (by simp), hl2.tape, hl2.os, hl2.output⟩, fun k o hk => ?_, fun k o hk => ?_, fun k hk => ?_, ⟨⟨hv, rfl⟩, rfl⟩, (fun k hk => by cases hk), .nil, ?_, ?_, ?_, ?_, fun i hi => hi⟩
  . dsimp only
    rw [if_neg (by have := hsome k o hk; omega)]
    exact hk
  . dsimp only at hk
    split at hk
    . exact hk
    . exact hSw k o hk
  . dsimp only at hk
    split at hk
    . exact .inr (.inr (by assumption))
    . exact .inl hk
  . intro i z hz hbx
    match i with
    | 0 => simp [mkS, zc6, AS.mk] at hz; subst hz; cases hbx
    | i + 1 => simp [mkS, zc6] at hz
  . intro i k hk
    rw [hob i] at hk; cases hk
  . intro i j k hi
    rw [hob i] at hi; cases hi
  . intro i
    rw [hob i]; exact .nil

end
end Go.Proofs.YtobbmaplbpdniaaLg

set_option linter.all false
set_option maxRecDepth 100000
namespace Go.Proofs.YtobbmaplbpdniaaLg
noncomputable section
open Go Go.Lift

def za1 : Code := (Go.Proofs.Try.f15.body).getD .skip

def zfo : List (List Nat × List Nat) := [([0], [2, 4, 1]), ([0, 0, 1], [12, 4, 2, 1]), ([1, 0, 1], [2, 1, 4]), ([0, 0, 1, 0, 1], [4, 5]), ([1, 0, 1, 0, 1], [4, 5]), ([0, 1, 1], [1, 6, 4]), ([0, 0, 1, 1, 1], [18, 17, 16, 6, 4]), ([0, 1, 0, 1, 1, 1], [18, 17, 16, 6, 4]), ([0, 0, 0, 1, 0, 1, 1, 1], [19, 16, 18, 6, 4, 17]), ([0, 1, 0, 0, 1, 0, 1, 1, 1], [16, 18, 6, 4, 17]), ([1, 0, 1, 0, 0, 1, 0, 1, 1, 1], [6, 4]), ([0, 0, 0, 1, 1, 0, 0, 1, 0, 1, 1, 1], [6, 8, 4, 18, 17, 16]), ([0, 1, 0, 0, 1, 1, 0, 0, 1, 0, 1, 1, 1], [6, 8, 4, 18, 17, 16]), ([0, 1, 1, 0, 0, 1, 1, 0, 0, 1, 0, 1, 1, 1], [9, 4, 18, 17, 16, 6]), ([0, 1, 1, 1, 0, 0, 1, 1, 0, 0, 1, 0, 1, 1, 1], [29, 9, 4, 18, 17, 16, 6]), ([1, 1, 1, 1, 0, 0, 1, 1, 0, 0, 1, 0, 1, 1, 1], [18, 17, 16, 6, 4]), ([0, 0, 1, 1, 1, 1, 0, 0, 1, 1, 0, 0, 1, 0, 1, 1, 1], [4, 5]), ([1, 0, 1, 1, 1, 1, 0, 0, 1, 1, 0, 0, 1, 0, 1, 1, 1], [4, 5]), ([0, 1, 1, 0, 0, 1, 0, 1, 1, 1], [18, 17, 16, 6, 4]), ([1, 1, 1, 0, 0, 1, 0, 1, 1, 1], [18, 17, 16, 6, 4]), ([1, 0, 1, 1, 1], [6, 4]), ([0, 1, 1, 1, 1], [4, 5]), ([1, 1, 1, 1, 1], [4, 5])]

def zcj (N : Nat) : Env := z7s tys z1c [(8, z86 N), (10, z5z N), (23, zd5 N)] [] [] [] false [] []

theorem znm (N : Nat) : EnvOk Go.Proofs.Try.prog (zcj N) := z1v mixed z3t (FnsOk.cons (zeu N) (FnsOk.cons (z6s N) (FnsOk.cons (zm6 N) (FnsOk.nil)))) (ItsOk.nil)

def zio (N : Nat) (x4 : ((List ((List UInt8) × (Int × (Int × ((List (Int × ((List UInt8) × Unit))) × Unit))))) × (Int × Unit))) (x16 : (List (Int × ((List UInt8) × (Int × (Int × ((List UInt8) × Unit))))))) (x17 : Int) (after : ((List ((List UInt8) × (Int × (Int × ((List (Int × ((List UInt8) × Unit))) × Unit))))) × (Int × Unit))) (x18 : Int) (rec : ((List ((List UInt8) × (Int × (Int × ((List (Int × ((List UInt8) × Unit))) × Unit))))) × (Int × Unit)) -> Int -> Option (((List ((List UInt8) × (Int × (Int × ((List (Int × ((List UInt8) × Unit))) × Unit))))) × (Int × Unit)) × Int × Unit)) (k0 : ((List ((List UInt8) × (Int × (Int × ((List (Int × ((List UInt8) × Unit))) × Unit))))) × (Int × Unit)) -> Int -> Option (((List ((List UInt8) × (Int × (Int × ((List (Int × ((List UInt8) × Unit))) × Unit))))) × (Int × Unit)) × Int × Unit)) (k1 : ((List ((List UInt8) × (Int × (Int × ((List (Int × ((List UInt8) × Unit))) × Unit))))) × (Int × Unit)) -> Option (((List ((List UInt8) × (Int × (Int × ((List (Int × ((List UInt8) × Unit))) × Unit))))) × (Int × Unit)) × Int × Unit)) : Option (((List ((List UInt8) × (Int × (Int × ((List (Int × ((List UInt8) × Unit))) × Unit))))) × (Int × Unit)) × Int × Unit) :=
 cond (decide (x18 < x17))
 (cond (Go.Lift.inR x18 (List.length x16))
 ((z6x N after (List.getD x16 (Int.toNat x18) ((0 : Int), (([] : List UInt8), ((0 : Int), ((0 : Int), (([] : List UInt8), ()))))))).bind fun y =>
 cond (y.2.1 != (0 : Int))
 (k0 (([] : List ((List UInt8) × (Int × (Int × ((List (Int × ((List UInt8) × Unit))) × Unit))))), ((0 : Int), ())) y.2.1)
 (rec y.1 (Go.IntKind.wrap Go.IntKind.i64 (x18 + (1 : Int)))))
 (none))
 (k1 after)

def zp6 (N : Nat) (x4 : ((List ((List UInt8) × (Int × (Int × ((List (Int × ((List UInt8) × Unit))) × Unit))))) × (Int × Unit))) (after : ((List ((List UInt8) × (Int × (Int × ((List (Int × ((List UInt8) × Unit))) × Unit))))) × (Int × Unit))) (x16 : (List (Int × ((List UInt8) × (Int × (Int × ((List UInt8) × Unit))))))) (x17 : Int) (x18 : Int) (k0 : ((List ((List UInt8) × (Int × (Int × ((List (Int × ((List UInt8) × Unit))) × Unit))))) × (Int × Unit)) -> Int -> Option (((List ((List UInt8) × (Int × (Int × ((List (Int × ((List UInt8) × Unit))) × Unit))))) × (Int × Unit)) × Int × Unit)) (k1 : ((List ((List UInt8) × (Int × (Int × ((List (Int × ((List UInt8) × Unit))) × Unit))))) × (Int × Unit)) -> Option (((List ((List UInt8) × (Int × (Int × ((List (Int × ((List UInt8) × Unit))) × Unit))))) × (Int × Unit)) × Int × Unit)) : Option (((List ((List UInt8) × (Int × (Int × ((List (Int × ((List UInt8) × Unit))) × Unit))))) × (Int × Unit)) × Int × Unit) :=
 iter (fun (v : (((List ((List UInt8) × (Int × (Int × ((List (Int × ((List UInt8) × Unit))) × Unit))))) × (Int × Unit)) × Int)) r => zio N x4 x16 x17 v.1 v.2 (fun after x18 => (r (after, x18))) k0 k1) N (after, x18)

def zir (N : Nat) (i : (((List ((List UInt8) × (Int × (Int × ((List (Int × ((List UInt8) × Unit))) × Unit))))) × (Int × Unit)) × (List (Int × ((List UInt8) × (Int × (Int × ((List UInt8) × Unit)))))) × Int)) (v : (((List ((List UInt8) × (Int × (Int × ((List (Int × ((List UInt8) × Unit))) × Unit))))) × (Int × Unit)) × Int)) (r : (((List ((List UInt8) × (Int × (Int × ((List (Int × ((List UInt8) × Unit))) × Unit))))) × (Int × Unit)) × Int) -> Option (((List ((List UInt8) × (Int × (Int × ((List (Int × ((List UInt8) × Unit))) × Unit))))) × (Int × Unit)) × Int × Unit)) (K : Ex -> List A -> Option (((List ((List UInt8) × (Int × (Int × ((List (Int × ((List UInt8) × Unit))) × Unit))))) × (Int × Unit)) × Int × Unit)) : Option (((List ((List UInt8) × (Int × (Int × ((List (Int × ((List UInt8) × Unit))) × Unit))))) × (Int × Unit)) × Int × Unit) :=
 zio N i.1 i.2.1 i.2.2 v.1 v.2 (fun after x18 => (r (after, x18))) (fun a0 a1 => (K .ret (mkS [(4, .box (.pair (.sl (.pair .str (.pair (.int .i64) (.pair (.int .i64) (.pair (.sl (.pair (.int .i64) (.pair .str .unit))) .unit))))) (.pair (.int .i64) .unit))), (0, .v (.int .i64))] 28 (a0, a1, ())))) (fun a1 => (K (.exit 0) (mkS [(4, .box (.pair (.sl (.pair .str (.pair (.int .i64) (.pair (.int .i64) (.pair (.sl (.pair (.int .i64) (.pair .str .unit))) .unit))))) (.pair (.int .i64) .unit))), (1, .box (.pair (.sl (.pair .str (.pair (.int .i64) (.pair (.int .i64) (.pair (.sl (.pair (.int .i64) (.pair .str .unit))) .unit))))) (.pair (.int .i64) .unit)))] 27 (i.1, a1, ()))))

def ziq (N : Nat) : Hd (((List ((List UInt8) × (Int × (Int × ((List (Int × ((List UInt8) × Unit))) × Unit))))) × (Int × Unit)) × Int × Unit) := fun st K => (unS [(4, .box (.pair (.sl (.pair .str (.pair (.int .i64) (.pair (.int .i64) (.pair (.sl (.pair (.int .i64) (.pair .str .unit))) .unit))))) (.pair (.int .i64) .unit))), (1, .box (.pair (.sl (.pair .str (.pair (.int .i64) (.pair (.int .i64) (.pair (.sl (.pair (.int .i64) (.pair .str .unit))) .unit))))) (.pair (.int .i64) .unit))), (9, .v (.sl (.pair (.int .i64) (.pair .str (.pair (.int .i64) (.pair (.int .i64) (.pair .str .unit))))))), (0, .v (.int .i64)), (0, .v (.int .i64))] 15 (restr [18, 17, 16, 6, 4] 0 st)).bind fun x => iter (fun v r => zir N ((fun x => (x.1, x.2.2.1, x.2.2.2.1)) x) v r K) N ((fun x => (x.2.1, x.2.2.2.2.1)) x)

def zp5 (N : Nat) : Tab (((List ((List UInt8) × (Int × (Int × ((List (Int × ((List UInt8) × Unit))) × Unit))))) × (Int × Unit)) × Int × Unit) := []

theorem znl {N : Nat} {c : Ctx} (hb : Base Go.Proofs.Try.prog (zcj N) c) : z1a Go.Proofs.Try.prog c (zp za1 [0, 1, 0, 1, 1, 1]) (ziq N) :=
  z8j (s := [(4, .box (.pair (.sl (.pair .str (.pair (.int .i64) (.pair (.int .i64) (.pair (.sl (.pair (.int .i64) (.pair .str .unit))) .unit))))) (.pair (.int .i64) .unit))), (1, .box (.pair (.sl (.pair .str (.pair (.int .i64) (.pair (.int .i64) (.pair (.sl (.pair (.int .i64) (.pair .str .unit))) .unit))))) (.pair (.int .i64) .unit))), (9, .v (.sl (.pair (.int .i64) (.pair .str (.pair (.int .i64) (.pair (.int .i64) (.pair .str .unit))))))), (0, .v (.int .i64)), (0, .v (.int .i64))]) (m := 15) (zir N) [18, 17, 16, 6, 4] N (fun x => (x.1, x.2.2.1, x.2.2.2.1)) (fun x => (x.2.1, x.2.2.2.2.1)) (fun i v => (i.1, v.1, i.2.1, i.2.2, v.2, ())) (fun _ => rfl) (zo hb N (zp5 N) zfo za1 TabOk.nil [0, 0, 1, 0, 1, 1, 1] _ rfl) (fun i v r K => by kernel_rfl)

def zmg (N : Nat) (s : ((List ((List UInt8) × (Int × (Int × ((List (Int × ((List UInt8) × Unit))) × Unit))))) × (Int × Unit))) (l : (List (Int × ((List UInt8) × (Int × (Int × ((List UInt8) × Unit))))))) : Option (((List ((List UInt8) × (Int × (Int × ((List (Int × ((List UInt8) × Unit))) × Unit))))) × (Int × Unit)) × Int × Unit) :=
 (z37 N s).bind fun y =>
 cond (!y)
 (some ((([] : List ((List UInt8) × (Int × (Int × ((List (Int × ((List UInt8) × Unit))) × Unit))))), ((0 : Int), ())), ((7 : Int), ())))
 ((zfn N s).bind fun y1 =>
 zp6 N (([] : List ((List UInt8) × (Int × (Int × ((List (Int × ((List UInt8) × Unit))) × Unit))))), ((0 : Int), ())) y1 l (((List.length l) : Nat) : Int) (0 : Int)
 (fun x4 x5 => some (x4, (x5, ())))
 (fun after => some (after, ((0 : Int), ()))))

def zl7 (N : Nat) : Tab (((List ((List UInt8) × (Int × (Int × ((List (Int × ((List UInt8) × Unit))) × Unit))))) × (Int × Unit)) × Int × Unit) := [([0, 1, 0, 1, 1, 1], ziq N)]

theorem zmf (N : Nat) (x : z2m [(0, .v (.pair (.sl (.pair .str (.pair (.int .i64) (.pair (.int .i64) (.pair (.sl (.pair (.int .i64) (.pair .str .unit))) .unit))))) (.pair (.int .i64) .unit))), (0, .v (.sl (.pair (.int .i64) (.pair .str (.pair (.int .i64) (.pair (.int .i64) (.pair .str .unit)))))))]) : zgb (zcj N) N (zl7 N) zfo Go.Proofs.Try.f15 (mkS [(0, .v (.pair (.sl (.pair .str (.pair (.int .i64) (.pair (.int .i64) (.pair (.sl (.pair (.int .i64) (.pair .str .unit))) .unit))))) (.pair (.int .i64) .unit))), (0, .v (.sl (.pair (.int .i64) (.pair .str (.pair (.int .i64) (.pair (.int .i64) (.pair .str .unit)))))))] 0 x) (z8o (.tup [(.pair (.sl (.pair .str (.pair (.int .i64) (.pair (.int .i64) (.pair (.sl (.pair (.int .i64) (.pair .str .unit))) .unit))))) (.pair (.int .i64) .unit)), (.int .i64)]) 2) = zmg N x.1 x.2.1 := by kernel_rfl

def zgr (N : Nat) : List A -> Res := z38 [(0, .v (.pair (.sl (.pair .str (.pair (.int .i64) (.pair (.int .i64) (.pair (.sl (.pair (.int .i64) (.pair .str .unit))) .unit))))) (.pair (.int .i64) .unit))), (0, .v (.sl (.pair (.int .i64) (.pair .str (.pair (.int .i64) (.pair (.int .i64) (.pair .str .unit)))))))] (fun x => zmg N x.1 x.2.1) (zgv (.tup [(.pair (.sl (.pair .str (.pair (.int .i64) (.pair (.int .i64) (.pair (.sl (.pair (.int .i64) (.pair .str .unit))) .unit))))) (.pair (.int .i64) .unit)), (.int .i64)]) 2)

theorem zp7 (N : Nat) : Contract Go.Proofs.Try.prog z1c 15 (zgr N) :=
  Contract.of (E := zcj N) (H := zl7 N) (L := zfo) (N := N) (body := za1) (K := (z8o (.tup [(.pair (.sl (.pair .str (.pair (.int .i64) (.pair (.int .i64) (.pair (.sl (.pair (.int .i64) (.pair .str .unit))) .unit))))) (.pair (.int .i64) .unit)), (.int .i64)]) 2)) (znm N) Go.Proofs.Try.func15 (by kernel_rfl) (by decide) (fun _ hb => (TabOk.cons (znl hb) TabOk.nil)) (fun x y h => by rw [zmf]; exact h) (z2l (s := (.tup [(.pair (.sl (.pair .str (.pair (.int .i64) (.pair (.int .i64) (.pair (.sl (.pair (.int .i64) (.pair .str .unit))) .unit))))) (.pair (.int .i64) .unit)), (.int .i64)])) (m := 2))

def zb4 : Code := (Go.Proofs.Try.f7.body).getD .skip

def z7f : List (List Nat × List Nat) := [([0], []), ([0, 1], [1, 2]), ([0, 1, 1], [2, 1, 4, 3]), ([0, 1, 1, 1], [0]), ([1, 1, 1, 1], [0])]

def z45 (N : Nat) : Env := z7s tys z1c [(15, zgr N), (10, z5z N), (19, zbi N)] [] [] [] false [] []

theorem zbu (N : Nat) : EnvOk Go.Proofs.Try.prog (z45 N) := z1v mixed z3t (FnsOk.cons (zp7 N) (FnsOk.cons (z6s N) (FnsOk.cons (zke N) (FnsOk.nil)))) (ItsOk.nil)

def z21 (N : Nat) : Option Bool :=
 (zmg N (([] : List ((List UInt8) × (Int × (Int × ((List (Int × ((List UInt8) × Unit))) × Unit))))), ((0 : Int), ())) ([((1 : Int), (([(97 : UInt8), (99 : UInt8), (109 : UInt8), (101 : UInt8)] : List UInt8), ((2 : Int), ((0 : Int), (([] : List UInt8), ()))))), ((2 : Int), (([(97 : UInt8), (99 : UInt8), (109 : UInt8), (101 : UInt8)] : List UInt8), ((1 : Int), ((0 : Int), (([(48 : UInt8), (49 : UInt8), (50 : UInt8), (51 : UInt8), (52 : UInt8), (53 : UInt8), (54 : UInt8), (55 : UInt8), (56 : UInt8), (57 : UInt8), (97 : UInt8), (98 : UInt8), (99 : UInt8), (100 : UInt8), (101 : UInt8), (102 : UInt8), (48 : UInt8), (49 : UInt8), (50 : UInt8), (51 : UInt8), (52 : UInt8), (53 : UInt8), (54 : UInt8), (55 : UInt8), (56 : UInt8), (57 : UInt8), (97 : UInt8), (98 : UInt8), (99 : UInt8), (100 : UInt8), (101 : UInt8), (102 : UInt8)] : List UInt8), ())))))] : List (Int × ((List UInt8) × (Int × (Int × ((List UInt8) × Unit))))))).bind fun y =>
 (zds N y.1 ([(97 : UInt8), (99 : UInt8), (109 : UInt8), (101 : UInt8)] : List UInt8)).bind fun y1 =>
 cond (y.2.1 == (0 : Int))
 (cond ((((List.length y.1.1) : Nat) : Int) == (1 : Int))
 (cond y1.2.1
 (cond (Go.Lift.eqD (Go.Lift.T.pair (Go.Lift.T.int Go.IntKind.i64) (Go.Lift.T.pair Go.Lift.T.str Go.Lift.T.unit)) y1.1 ((1 : Int), (([(48 : UInt8), (49 : UInt8), (50 : UInt8), (51 : UInt8), (52 : UInt8), (53 : UInt8), (54 : UInt8), (55 : UInt8), (56 : UInt8), (57 : UInt8), (97 : UInt8), (98 : UInt8), (99 : UInt8), (100 : UInt8), (101 : UInt8), (102 : UInt8), (48 : UInt8), (49 : UInt8), (50 : UInt8), (51 : UInt8), (52 : UInt8), (53 : UInt8), (54 : UInt8), (55 : UInt8), (56 : UInt8), (57 : UInt8), (97 : UInt8), (98 : UInt8), (99 : UInt8), (100 : UInt8), (101 : UInt8), (102 : UInt8)] : List UInt8), ())))
 ((z37 N y.1).bind fun y2 =>
 some y2)
 (some false))
 (some false))
 (some false))
 (some false)

def z7e (N : Nat) : Tab Bool := []

theorem zb3 (N : Nat) (x : z2m []) : zgb (z45 N) N (z7e N) z7f Go.Proofs.Try.f7 (mkS [] 0 x) (z8o (.v .bool) 0) = z21 N := by kernel_rfl

def z66 (N : Nat) : List A -> Res := z38 [] (fun x => z21 N) (zgv (.v .bool) 0)

theorem zd0 (N : Nat) : Contract Go.Proofs.Try.prog z1c 7 (z66 N) :=
  Contract.of (E := z45 N) (H := z7e N) (L := z7f) (N := N) (body := zb4) (K := (z8o (.v .bool) 0)) (zbu N) Go.Proofs.Try.func7 (by kernel_rfl) (by decide) (fun _ hb => TabOk.nil) (fun x y h => by rw [zb3]; exact h) (z2l (s := (.v .bool)) (m := 0))

def z7 : Code := (Go.Proofs.Try.f5.body).getD .skip

def zm : List (List Nat × List Nat) := [([0], [2, 3]), ([0, 0, 1], [16, 2, 3]), ([1, 0, 1], [2, 3]), ([0, 0, 1, 0, 1], [4]), ([1, 0, 1, 0, 1], [4]), ([0, 1, 1], [6, 5, 2, 3]), ([0, 0, 1, 1, 1], [25, 5, 2, 3]), ([1, 0, 1, 1, 1], [5, 2, 3]), ([0, 0, 1, 0, 1, 1, 1], [4]), ([1, 0, 1, 0, 1, 1, 1], [4]), ([0, 0, 1, 1, 1, 1], [56, 2, 5, 3]), ([1, 0, 1, 1, 1, 1], [2, 5, 3]), ([0, 0, 1, 0, 1, 1, 1, 1], [4]), ([1, 0, 1, 0, 1, 1, 1, 1], [4]), ([0, 0, 1, 1, 1, 1, 1], [7, 2, 5, 3]), ([0, 1, 0, 1, 1, 1, 1, 1], [7, 2, 5, 3]), ([0, 0, 0, 0, 1, 0, 1, 1, 1, 1, 1], [61, 5, 2, 7, 3]), ([1, 0, 0, 0, 1, 0, 1, 1, 1, 1, 1], [5, 2, 7, 3]), ([1, 1, 0, 0, 0, 1, 0, 1, 1, 1, 1, 1], []), ([0, 0, 0, 1, 0, 0, 1, 0, 1, 1, 1, 1, 1], [8, 5, 2, 7, 3]), ([0, 0, 1, 0, 0, 1, 0, 0, 1, 0, 1, 1, 1, 1, 1], [110, 2, 7, 3, 5, 8]), ([1, 0, 1, 0, 0, 1, 0, 0, 1, 0, 1, 1, 1, 1, 1], [2, 7, 3, 5, 8]), ([0, 0, 1, 0, 1, 0, 0, 1, 0, 0, 1, 0, 1, 1, 1, 1, 1], [4]), ([1, 0, 1, 0, 1, 0, 0, 1, 0, 0, 1, 0, 1, 1, 1, 1, 1], [4]), ([0, 1, 1, 0, 0, 1, 0, 0, 1, 0, 1, 1, 1, 1, 1], [2, 7, 3, 9, 5, 8]), ([0, 1, 1, 1, 0, 0, 1, 0, 0, 1, 0, 1, 1, 1, 1, 1], [138, 7, 2, 5, 3]), ([1, 1, 1, 1, 0, 0, 1, 0, 0, 1, 0, 1, 1, 1, 1, 1], [7, 2, 5, 3]), ([0, 0, 1, 1, 1, 1, 0, 0, 1, 0, 0, 1, 0, 1, 1, 1, 1, 1], [4]), ([1, 0, 1, 1, 1, 1, 0, 0, 1, 0, 0, 1, 0, 1, 1, 1, 1, 1], [4]), ([0, 1, 0, 0, 1, 0, 1, 1, 1, 1, 1], [7, 2, 5, 3]), ([1, 1, 0, 0, 1, 0, 1, 1, 1, 1, 1], [7, 2, 5, 3]), ([1, 0, 1, 1, 1, 1, 1], []), ([0, 1, 1, 1, 1, 1, 1], [4]), ([1, 1, 1, 1, 1, 1, 1], [4])]

def zi (N : Nat) : Env := z7s tys z1c [(7, z66 N), (6, z65 N), (8, z86 N), (10, z5z N), (14, z4w N), (21, za0 N)] [] [] [] false [] []

theorem z8h (N : Nat) : EnvOk Go.Proofs.Try.prog (zi N) := z1v mixed z3t (FnsOk.cons (zd0 N) (FnsOk.cons (zcz N) (FnsOk.cons (zeu N) (FnsOk.cons (z6s N) (FnsOk.cons (za9 N) (FnsOk.cons (zbk N) (FnsOk.nil))))))) (ItsOk.nil)

def z2i (N : Nat) (s : ((List ((List UInt8) × (Int × (Int × ((List (Int × ((List UInt8) × Unit))) × Unit))))) × (Int × Unit))) (e : (Int × ((List UInt8) × (Int × (Int × ((List UInt8) × Unit)))))) (k0 : Bool -> Option Bool) : Option Bool :=
 (z2a N s).bind fun y =>
 cond y
 (k0 true)
 ((z37 N s).bind fun y1 =>
 k0 (!y1))

def z4u (N : Nat) (x : z2m [(2, .box (.pair (.sl (.pair .str (.pair (.int .i64) (.pair (.int .i64) (.pair (.sl (.pair (.int .i64) (.pair .str .unit))) .unit))))) (.pair (.int .i64) .unit))), (0, .box (.pair (.int .i64) (.pair .str (.pair (.int .i64) (.pair (.int .i64) (.pair .str .unit))))))]) (K : Ex -> List A -> Option Bool) : Option Bool :=
 z2i N x.1 x.2.1 (fun a2 => (K .normal (mkS [(2, .box (.pair (.sl (.pair .str (.pair (.int .i64) (.pair (.int .i64) (.pair (.sl (.pair (.int .i64) (.pair .str .unit))) .unit))))) (.pair (.int .i64) .unit))), (0, .box (.pair (.int .i64) (.pair .str (.pair (.int .i64) (.pair (.int .i64) (.pair .str .unit)))))), (12, .v .bool)] 123 (x.1, x.2.1, a2, ()))))

def z4l (N : Nat) : Hd Bool := fun st K => (unS [(2, .box (.pair (.sl (.pair .str (.pair (.int .i64) (.pair (.int .i64) (.pair (.sl (.pair (.int .i64) (.pair .str .unit))) .unit))))) (.pair (.int .i64) .unit))), (0, .box (.pair (.int .i64) (.pair .str (.pair (.int .i64) (.pair (.int .i64) (.pair .str .unit))))))] 136 (restr [2, 3] 0 st)).bind fun x => z4u N x K

def z94 (N : Nat) : Tab Bool := []

theorem z8f {N : Nat} {c : Ctx} (hb : Base Go.Proofs.Try.prog (zi N) c) : z1a Go.Proofs.Try.prog c (zp z7 [0, 0, 1]) (z4l N) :=
  z1e (s := [(2, .box (.pair (.sl (.pair .str (.pair (.int .i64) (.pair (.int .i64) (.pair (.sl (.pair (.int .i64) (.pair .str .unit))) .unit))))) (.pair (.int .i64) .unit))), (0, .box (.pair (.int .i64) (.pair .str (.pair (.int .i64) (.pair (.int .i64) (.pair .str .unit))))))]) (m := 136) (g := z4u N) [2, 3] (zo hb N (z94 N) zm z7 TabOk.nil [0, 0, 1] _ rfl) (fun x K => by kernel_rfl)

def z2j (N : Nat) (s : ((List ((List UInt8) × (Int × (Int × ((List (Int × ((List UInt8) × Unit))) × Unit))))) × (Int × Unit))) (e : (Int × ((List UInt8) × (Int × (Int × ((List UInt8) × Unit)))))) (k0 : Bool -> Option Bool) (k1 : Option Bool) : Option Bool :=
 z2i N s e
 (fun x16 => cond x16
 ((z21 N).bind fun y =>
 k0 y)
 (k1))

def z4v (N : Nat) (x : z2m [(2, .box (.pair (.sl (.pair .str (.pair (.int .i64) (.pair (.int .i64) (.pair (.sl (.pair (.int .i64) (.pair .str .unit))) .unit))))) (.pair (.int .i64) .unit))), (0, .box (.pair (.int .i64) (.pair .str (.pair (.int .i64) (.pair (.int .i64) (.pair .str .unit))))))]) (K : Ex -> List A -> Option Bool) : Option Bool :=
 z2j N x.1 x.2.1 (fun a0 => (K .ret (mkS [(4, .v .bool)] 135 (a0, ())))) (K .normal (mkS [(2, .box (.pair (.sl (.pair .str (.pair (.int .i64) (.pair (.int .i64) (.pair (.sl (.pair (.int .i64) (.pair .str .unit))) .unit))))) (.pair (.int .i64) .unit))), (0, .box (.pair (.int .i64) (.pair .str (.pair (.int .i64) (.pair (.int .i64) (.pair .str .unit))))))] 136 (x.1, x.2.1, ())))

def z4m (N : Nat) : Hd Bool := fun st K => (unS [(2, .box (.pair (.sl (.pair .str (.pair (.int .i64) (.pair (.int .i64) (.pair (.sl (.pair (.int .i64) (.pair .str .unit))) .unit))))) (.pair (.int .i64) .unit))), (0, .box (.pair (.int .i64) (.pair .str (.pair (.int .i64) (.pair (.int .i64) (.pair .str .unit))))))] 136 (restr [2, 3] 0 st)).bind fun x => z4v N x K

def z95 (N : Nat) : Tab Bool := [([0, 0, 1], z4l N)]

theorem z8g {N : Nat} {c : Ctx} (hb : Base Go.Proofs.Try.prog (zi N) c) : z1a Go.Proofs.Try.prog c (zp z7 [0, 1]) (z4m N) :=
  z1e (s := [(2, .box (.pair (.sl (.pair .str (.pair (.int .i64) (.pair (.int .i64) (.pair (.sl (.pair (.int .i64) (.pair .str .unit))) .unit))))) (.pair (.int .i64) .unit))), (0, .box (.pair (.int .i64) (.pair .str (.pair (.int .i64) (.pair (.int .i64) (.pair .str .unit))))))]) (m := 136) (g := z4v N) [2, 3] (zo hb N (z95 N) zm z7 (TabOk.cons (z8f hb) TabOk.nil) [0, 1] _ rfl) (fun x K => by kernel_rfl)

def z2g (N : Nat) (s : ((List ((List UInt8) × (Int × (Int × ((List (Int × ((List UInt8) × Unit))) × Unit))))) × (Int × Unit))) (e : (Int × ((List UInt8) × (Int × (Int × ((List UInt8) × Unit)))))) (t : ((List ((List UInt8) × (Int × (Int × ((List (Int × ((List UInt8) × Unit))) × Unit))))) × (Int × Unit))) (k0 : Bool -> Option Bool) : Option Bool :=
 (z37 N t).bind fun y =>
 cond (!y)
 (k0 true)
 (cond (decide (t.2.1 < s.2.1))
 (k0 true)
 (k0 (decide ((((List.length t.1) : Nat) : Int) < (((List.length s.1) : Nat) : Int)))))

def z4s (N : Nat) (x : z2m [(2, .box (.pair (.sl (.pair .str (.pair (.int .i64) (.pair (.int .i64) (.pair (.sl (.pair (.int .i64) (.pair .str .unit))) .unit))))) (.pair (.int .i64) .unit))), (0, .box (.pair (.int .i64) (.pair .str (.pair (.int .i64) (.pair (.int .i64) (.pair .str .unit)))))), (1, .box (.pair (.sl (.pair .str (.pair (.int .i64) (.pair (.int .i64) (.pair (.sl (.pair (.int .i64) (.pair .str .unit))) .unit))))) (.pair (.int .i64) .unit)))]) (K : Ex -> List A -> Option Bool) : Option Bool :=
 z2g N x.1 x.2.1 x.2.2.1 (fun a3 => (K .normal (mkS [(2, .box (.pair (.sl (.pair .str (.pair (.int .i64) (.pair (.int .i64) (.pair (.sl (.pair (.int .i64) (.pair .str .unit))) .unit))))) (.pair (.int .i64) .unit))), (0, .box (.pair (.int .i64) (.pair .str (.pair (.int .i64) (.pair (.int .i64) (.pair .str .unit)))))), (1, .box (.pair (.sl (.pair .str (.pair (.int .i64) (.pair (.int .i64) (.pair (.sl (.pair (.int .i64) (.pair .str .unit))) .unit))))) (.pair (.int .i64) .unit))), (50, .v .bool)] 83 (x.1, x.2.1, x.2.2.1, a3, ()))))

def z4j (N : Nat) : Hd Bool := fun st K => (unS [(2, .box (.pair (.sl (.pair .str (.pair (.int .i64) (.pair (.int .i64) (.pair (.sl (.pair (.int .i64) (.pair .str .unit))) .unit))))) (.pair (.int .i64) .unit))), (0, .box (.pair (.int .i64) (.pair .str (.pair (.int .i64) (.pair (.int .i64) (.pair .str .unit)))))), (1, .box (.pair (.sl (.pair .str (.pair (.int .i64) (.pair (.int .i64) (.pair (.sl (.pair (.int .i64) (.pair .str .unit))) .unit))))) (.pair (.int .i64) .unit)))] 134 (restr [5, 2, 3] 0 st)).bind fun x => z4s N x K

def z92 (N : Nat) : Tab Bool := []

theorem z8d {N : Nat} {c : Ctx} (hb : Base Go.Proofs.Try.prog (zi N) c) : z1a Go.Proofs.Try.prog c (zp z7 [0, 0, 1, 1, 1, 1]) (z4j N) :=
  z1e (s := [(2, .box (.pair (.sl (.pair .str (.pair (.int .i64) (.pair (.int .i64) (.pair (.sl (.pair (.int .i64) (.pair .str .unit))) .unit))))) (.pair (.int .i64) .unit))), (0, .box (.pair (.int .i64) (.pair .str (.pair (.int .i64) (.pair (.int .i64) (.pair .str .unit)))))), (1, .box (.pair (.sl (.pair .str (.pair (.int .i64) (.pair (.int .i64) (.pair (.sl (.pair (.int .i64) (.pair .str .unit))) .unit))))) (.pair (.int .i64) .unit)))]) (m := 134) (g := z4s N) [5, 2, 3] (zo hb N (z92 N) zm z7 TabOk.nil [0, 0, 1, 1, 1, 1] _ rfl) (fun x K => by kernel_rfl)

def z2h (N : Nat) (s : ((List ((List UInt8) × (Int × (Int × ((List (Int × ((List UInt8) × Unit))) × Unit))))) × (Int × Unit))) (e : (Int × ((List UInt8) × (Int × (Int × ((List UInt8) × Unit)))))) (t : ((List ((List UInt8) × (Int × (Int × ((List (Int × ((List UInt8) × Unit))) × Unit))))) × (Int × Unit))) (k0 : Bool -> Option Bool) (k1 : Option Bool) : Option Bool :=
 z2g N s e t
 (fun x56 => cond x56
 (k0 false)
 (k1))

def z4t (N : Nat) (x : z2m [(2, .box (.pair (.sl (.pair .str (.pair (.int .i64) (.pair (.int .i64) (.pair (.sl (.pair (.int .i64) (.pair .str .unit))) .unit))))) (.pair (.int .i64) .unit))), (0, .box (.pair (.int .i64) (.pair .str (.pair (.int .i64) (.pair (.int .i64) (.pair .str .unit)))))), (1, .box (.pair (.sl (.pair .str (.pair (.int .i64) (.pair (.int .i64) (.pair (.sl (.pair (.int .i64) (.pair .str .unit))) .unit))))) (.pair (.int .i64) .unit)))]) (K : Ex -> List A -> Option Bool) : Option Bool :=
 z2h N x.1 x.2.1 x.2.2.1 (fun a0 => (K .ret (mkS [(4, .v .bool)] 135 (a0, ())))) (K .normal (mkS [(2, .box (.pair (.sl (.pair .str (.pair (.int .i64) (.pair (.int .i64) (.pair (.sl (.pair (.int .i64) (.pair .str .unit))) .unit))))) (.pair (.int .i64) .unit))), (0, .box (.pair (.int .i64) (.pair .str (.pair (.int .i64) (.pair (.int .i64) (.pair .str .unit)))))), (1, .box (.pair (.sl (.pair .str (.pair (.int .i64) (.pair (.int .i64) (.pair (.sl (.pair (.int .i64) (.pair .str .unit))) .unit))))) (.pair (.int .i64) .unit)))] 134 (x.1, x.2.1, x.2.2.1, ())))

def z4k (N : Nat) : Hd Bool := fun st K => (unS [(2, .box (.pair (.sl (.pair .str (.pair (.int .i64) (.pair (.int .i64) (.pair (.sl (.pair (.int .i64) (.pair .str .unit))) .unit))))) (.pair (.int .i64) .unit))), (0, .box (.pair (.int .i64) (.pair .str (.pair (.int .i64) (.pair (.int .i64) (.pair .str .unit)))))), (1, .box (.pair (.sl (.pair .str (.pair (.int .i64) (.pair (.int .i64) (.pair (.sl (.pair (.int .i64) (.pair .str .unit))) .unit))))) (.pair (.int .i64) .unit)))] 134 (restr [5, 2, 3] 0 st)).bind fun x => z4t N x K

def z93 (N : Nat) : Tab Bool := [([0, 0, 1, 1, 1, 1], z4j N)]

theorem z8e {N : Nat} {c : Ctx} (hb : Base Go.Proofs.Try.prog (zi N) c) : z1a Go.Proofs.Try.prog c (zp z7 [0, 1, 1, 1, 1]) (z4k N) :=
  z1e (s := [(2, .box (.pair (.sl (.pair .str (.pair (.int .i64) (.pair (.int .i64) (.pair (.sl (.pair (.int .i64) (.pair .str .unit))) .unit))))) (.pair (.int .i64) .unit))), (0, .box (.pair (.int .i64) (.pair .str (.pair (.int .i64) (.pair (.int .i64) (.pair .str .unit)))))), (1, .box (.pair (.sl (.pair .str (.pair (.int .i64) (.pair (.int .i64) (.pair (.sl (.pair (.int .i64) (.pair .str .unit))) .unit))))) (.pair (.int .i64) .unit)))]) (m := 134) (g := z4t N) [5, 2, 3] (zo hb N (z93 N) zm z7 (TabOk.cons (z8d hb) TabOk.nil) [0, 1, 1, 1, 1] _ rfl) (fun x K => by kernel_rfl)

def z2d (N : Nat) (s : ((List ((List UInt8) × (Int × (Int × ((List (Int × ((List UInt8) × Unit))) × Unit))))) × (Int × Unit))) (e : (Int × ((List UInt8) × (Int × (Int × ((List UInt8) × Unit)))))) (t : ((List ((List UInt8) × (Int × (Int × ((List (Int × ((List UInt8) × Unit))) × Unit))))) × (Int × Unit))) (i : Int) (k : Int) (k0 : Bool -> Option Bool) : Option Bool :=
 cond (decide (k < (0 : Int)))
 (k0 true)
 (cond (decide ((((List.length t.1) : Nat) : Int) <= k))
 (k0 true)
 (cond (Go.Lift.inR k (List.length t.1))
 (cond (Go.Lift.inR i (List.length s.1))
 (cond (decide ((List.getD t.1 (Int.toNat k) (([] : List UInt8), ((0 : Int), ((0 : Int), (([] : List (Int × ((List UInt8) × Unit))), ()))))).2.1 < (List.getD s.1 (Int.toNat i) (([] : List UInt8), ((0 : Int), ((0 : Int), (([] : List (Int × ((List UInt8) × Unit))), ()))))).2.1))
 (k0 true)
 (cond (Go.Lift.inR k (List.length t.1))
 (cond (Go.Lift.inR i (List.length s.1))
 (k0 (decide ((List.getD t.1 (Int.toNat k) (([] : List UInt8), ((0 : Int), ((0 : Int), (([] : List (Int × ((List UInt8) × Unit))), ()))))).2.2.1 < (List.getD s.1 (Int.toNat i) (([] : List UInt8), ((0 : Int), ((0 : Int), (([] : List (Int × ((List UInt8) × Unit))), ()))))).2.2.1)))
 (none))
 (none)))
 (none))
 (none)))

def z4o (N : Nat) (x : z2m [(2, .box (.pair (.sl (.pair .str (.pair (.int .i64) (.pair (.int .i64) (.pair (.sl (.pair (.int .i64) (.pair .str .unit))) .unit))))) (.pair (.int .i64) .unit))), (0, .box (.pair (.int .i64) (.pair .str (.pair (.int .i64) (.pair (.int .i64) (.pair .str .unit)))))), (1, .box (.pair (.sl (.pair .str (.pair (.int .i64) (.pair (.int .i64) (.pair (.sl (.pair (.int .i64) (.pair .str .unit))) .unit))))) (.pair (.int .i64) .unit))), (1, .v (.int .i64)), (0, .v (.int .i64))]) (K : Ex -> List A -> Option Bool) : Option Bool :=
 z2d N x.1 x.2.1 x.2.2.1 x.2.2.2.1 x.2.2.2.2.1 (fun a5 => (K .normal (mkS [(2, .box (.pair (.sl (.pair .str (.pair (.int .i64) (.pair (.int .i64) (.pair (.sl (.pair (.int .i64) (.pair .str .unit))) .unit))))) (.pair (.int .i64) .unit))), (0, .box (.pair (.int .i64) (.pair .str (.pair (.int .i64) (.pair (.int .i64) (.pair .str .unit)))))), (1, .box (.pair (.sl (.pair .str (.pair (.int .i64) (.pair (.int .i64) (.pair (.sl (.pair (.int .i64) (.pair .str .unit))) .unit))))) (.pair (.int .i64) .unit))), (1, .v (.int .i64)), (0, .v (.int .i64)), (101, .v .bool)] 29 (x.1, x.2.1, x.2.2.1, x.2.2.2.1, x.2.2.2.2.1, a5, ()))))

def z4f (N : Nat) : Hd Bool := fun st K => (unS [(2, .box (.pair (.sl (.pair .str (.pair (.int .i64) (.pair (.int .i64) (.pair (.sl (.pair (.int .i64) (.pair .str .unit))) .unit))))) (.pair (.int .i64) .unit))), (0, .box (.pair (.int .i64) (.pair .str (.pair (.int .i64) (.pair (.int .i64) (.pair .str .unit)))))), (1, .box (.pair (.sl (.pair .str (.pair (.int .i64) (.pair (.int .i64) (.pair (.sl (.pair (.int .i64) (.pair .str .unit))) .unit))))) (.pair (.int .i64) .unit))), (1, .v (.int .i64)), (0, .v (.int .i64))] 131 (restr [8, 5, 2, 7, 3] 0 st)).bind fun x => z4o N x K

def z8y (N : Nat) : Tab Bool := []

theorem z89 {N : Nat} {c : Ctx} (hb : Base Go.Proofs.Try.prog (zi N) c) : z1a Go.Proofs.Try.prog c (zp z7 [0, 0, 1, 0, 0, 1, 0, 0, 1, 0, 1, 1, 1, 1, 1]) (z4f N) :=
  z1e (s := [(2, .box (.pair (.sl (.pair .str (.pair (.int .i64) (.pair (.int .i64) (.pair (.sl (.pair (.int .i64) (.pair .str .unit))) .unit))))) (.pair (.int .i64) .unit))), (0, .box (.pair (.int .i64) (.pair .str (.pair (.int .i64) (.pair (.int .i64) (.pair .str .unit)))))), (1, .box (.pair (.sl (.pair .str (.pair (.int .i64) (.pair (.int .i64) (.pair (.sl (.pair (.int .i64) (.pair .str .unit))) .unit))))) (.pair (.int .i64) .unit))), (1, .v (.int .i64)), (0, .v (.int .i64))]) (m := 131) (g := z4o N) [8, 5, 2, 7, 3] (zo hb N (z8y N) zm z7 TabOk.nil [0, 0, 1, 0, 0, 1, 0, 0, 1, 0, 1, 1, 1, 1, 1] _ rfl) (fun x K => by kernel_rfl)

def z2e (N : Nat) (s : ((List ((List UInt8) × (Int × (Int × ((List (Int × ((List UInt8) × Unit))) × Unit))))) × (Int × Unit))) (e : (Int × ((List UInt8) × (Int × (Int × ((List UInt8) × Unit)))))) (t : ((List ((List UInt8) × (Int × (Int × ((List (Int × ((List UInt8) × Unit))) × Unit))))) × (Int × Unit))) (i : Int) (k : Int) (k0 : Bool -> Option Bool) (k1 : Option Bool) : Option Bool :=
 z2d N s e t i k
 (fun x110 => cond x110
 (k0 false)
 (k1))

def z4p (N : Nat) (x : z2m [(2, .box (.pair (.sl (.pair .str (.pair (.int .i64) (.pair (.int .i64) (.pair (.sl (.pair (.int .i64) (.pair .str .unit))) .unit))))) (.pair (.int .i64) .unit))), (0, .box (.pair (.int .i64) (.pair .str (.pair (.int .i64) (.pair (.int .i64) (.pair .str .unit)))))), (1, .box (.pair (.sl (.pair .str (.pair (.int .i64) (.pair (.int .i64) (.pair (.sl (.pair (.int .i64) (.pair .str .unit))) .unit))))) (.pair (.int .i64) .unit))), (1, .v (.int .i64)), (0, .v (.int .i64))]) (K : Ex -> List A -> Option Bool) : Option Bool :=
 z2e N x.1 x.2.1 x.2.2.1 x.2.2.2.1 x.2.2.2.2.1 (fun a0 => (K .ret (mkS [(4, .v .bool)] 135 (a0, ())))) (K .normal (mkS [(2, .box (.pair (.sl (.pair .str (.pair (.int .i64) (.pair (.int .i64) (.pair (.sl (.pair (.int .i64) (.pair .str .unit))) .unit))))) (.pair (.int .i64) .unit))), (0, .box (.pair (.int .i64) (.pair .str (.pair (.int .i64) (.pair (.int .i64) (.pair .str .unit)))))), (1, .box (.pair (.sl (.pair .str (.pair (.int .i64) (.pair (.int .i64) (.pair (.sl (.pair (.int .i64) (.pair .str .unit))) .unit))))) (.pair (.int .i64) .unit))), (1, .v (.int .i64)), (0, .v (.int .i64))] 131 (x.1, x.2.1, x.2.2.1, x.2.2.2.1, x.2.2.2.2.1, ())))

def z4g (N : Nat) : Hd Bool := fun st K => (unS [(2, .box (.pair (.sl (.pair .str (.pair (.int .i64) (.pair (.int .i64) (.pair (.sl (.pair (.int .i64) (.pair .str .unit))) .unit))))) (.pair (.int .i64) .unit))), (0, .box (.pair (.int .i64) (.pair .str (.pair (.int .i64) (.pair (.int .i64) (.pair .str .unit)))))), (1, .box (.pair (.sl (.pair .str (.pair (.int .i64) (.pair (.int .i64) (.pair (.sl (.pair (.int .i64) (.pair .str .unit))) .unit))))) (.pair (.int .i64) .unit))), (1, .v (.int .i64)), (0, .v (.int .i64))] 131 (restr [8, 5, 2, 7, 3] 0 st)).bind fun x => z4p N x K

def z8z (N : Nat) : Tab Bool := [([0, 0, 1, 0, 0, 1, 0, 0, 1, 0, 1, 1, 1, 1, 1], z4f N)]

theorem z8a {N : Nat} {c : Ctx} (hb : Base Go.Proofs.Try.prog (zi N) c) : z1a Go.Proofs.Try.prog c (zp z7 [0, 1, 0, 0, 1, 0, 0, 1, 0, 1, 1, 1, 1, 1]) (z4g N) :=
  z1e (s := [(2, .box (.pair (.sl (.pair .str (.pair (.int .i64) (.pair (.int .i64) (.pair (.sl (.pair (.int .i64) (.pair .str .unit))) .unit))))) (.pair (.int .i64) .unit))), (0, .box (.pair (.int .i64) (.pair .str (.pair (.int .i64) (.pair (.int .i64) (.pair .str .unit)))))), (1, .box (.pair (.sl (.pair .str (.pair (.int .i64) (.pair (.int .i64) (.pair (.sl (.pair (.int .i64) (.pair .str .unit))) .unit))))) (.pair (.int .i64) .unit))), (1, .v (.int .i64)), (0, .v (.int .i64))]) (m := 131) (g := z4p N) [8, 5, 2, 7, 3] (zo hb N (z8z N) zm z7 (TabOk.cons (z89 hb) TabOk.nil) [0, 1, 0, 0, 1, 0, 0, 1, 0, 1, 1, 1, 1, 1] _ rfl) (fun x K => by kernel_rfl)

def z2c (N : Nat) (s : ((List ((List UInt8) × (Int × (Int × ((List (Int × ((List UInt8) × Unit))) × Unit))))) × (Int × Unit))) (e : (Int × ((List UInt8) × (Int × (Int × ((List UInt8) × Unit)))))) (t : ((List ((List UInt8) × (Int × (Int × ((List (Int × ((List UInt8) × Unit))) × Unit))))) × (Int × Unit))) (i : Int) (k : Int) (one : ((List ((List UInt8) × (Int × (Int × ((List (Int × ((List UInt8) × Unit))) × Unit))))) × (Int × Unit))) (k0 : Bool -> Option Bool) : Option Bool :=
 cond (Go.Lift.inR i (List.length s.1))
 (cond (!((List.getD s.1 (Int.toNat i) (([] : List UInt8), ((0 : Int), ((0 : Int), (([] : List (Int × ((List UInt8) × Unit))), ()))))).1 == e.2.1))
 (cond (Go.Lift.inR k (List.length t.1))
 ((z1z N one (([(List.getD t.1 (Int.toNat k) (([] : List UInt8), ((0 : Int), ((0 : Int), (([] : List (Int × ((List UInt8) × Unit))), ())))))] : List ((List UInt8) × (Int × (Int × ((List (Int × ((List UInt8) × Unit))) × Unit))))), ((0 : Int), ()))).bind fun y =>
 k0 (!y))
 (none))
 (k0 false))
 (none)

def z4n (N : Nat) (x : z2m [(2, .box (.pair (.sl (.pair .str (.pair (.int .i64) (.pair (.int .i64) (.pair (.sl (.pair (.int .i64) (.pair .str .unit))) .unit))))) (.pair (.int .i64) .unit))), (0, .box (.pair (.int .i64) (.pair .str (.pair (.int .i64) (.pair (.int .i64) (.pair .str .unit)))))), (1, .box (.pair (.sl (.pair .str (.pair (.int .i64) (.pair (.int .i64) (.pair (.sl (.pair (.int .i64) (.pair .str .unit))) .unit))))) (.pair (.int .i64) .unit))), (1, .v (.int .i64)), (0, .v (.int .i64)), (0, .box (.pair (.sl (.pair .str (.pair (.int .i64) (.pair (.int .i64) (.pair (.sl (.pair (.int .i64) (.pair .str .unit))) .unit))))) (.pair (.int .i64) .unit)))]) (K : Ex -> List A -> Option Bool) : Option Bool :=
 z2c N x.1 x.2.1 x.2.2.1 x.2.2.2.1 x.2.2.2.2.1 x.2.2.2.2.2.1 (fun a4 => (K .normal (mkS [(2, .box (.pair (.sl (.pair .str (.pair (.int .i64) (.pair (.int .i64) (.pair (.sl (.pair (.int .i64) (.pair .str .unit))) .unit))))) (.pair (.int .i64) .unit))), (0, .box (.pair (.int .i64) (.pair .str (.pair (.int .i64) (.pair (.int .i64) (.pair .str .unit)))))), (1, .box (.pair (.sl (.pair .str (.pair (.int .i64) (.pair (.int .i64) (.pair (.sl (.pair (.int .i64) (.pair .str .unit))) .unit))))) (.pair (.int .i64) .unit))), (1, .v (.int .i64)), (130, .v .bool)] 1 (x.1, x.2.1, x.2.2.1, x.2.2.2.1, a4, ()))))

def z4e (N : Nat) : Hd Bool := fun st K => (unS [(2, .box (.pair (.sl (.pair .str (.pair (.int .i64) (.pair (.int .i64) (.pair (.sl (.pair (.int .i64) (.pair .str .unit))) .unit))))) (.pair (.int .i64) .unit))), (0, .box (.pair (.int .i64) (.pair .str (.pair (.int .i64) (.pair (.int .i64) (.pair .str .unit)))))), (1, .box (.pair (.sl (.pair .str (.pair (.int .i64) (.pair (.int .i64) (.pair (.sl (.pair (.int .i64) (.pair .str .unit))) .unit))))) (.pair (.int .i64) .unit))), (1, .v (.int .i64)), (0, .v (.int .i64)), (0, .box (.pair (.sl (.pair .str (.pair (.int .i64) (.pair (.int .i64) (.pair (.sl (.pair (.int .i64) (.pair .str .unit))) .unit))))) (.pair (.int .i64) .unit)))] 130 (restr [2, 7, 3, 9, 5, 8] 0 st)).bind fun x => z4n N x K

def z8x (N : Nat) : Tab Bool := []

theorem z88 {N : Nat} {c : Ctx} (hb : Base Go.Proofs.Try.prog (zi N) c) : z1a Go.Proofs.Try.prog c (zp z7 [0, 1, 1, 1, 0, 0, 1, 0, 0, 1, 0, 1, 1, 1, 1, 1]) (z4e N) :=
  z1e (s := [(2, .box (.pair (.sl (.pair .str (.pair (.int .i64) (.pair (.int .i64) (.pair (.sl (.pair (.int .i64) (.pair .str .unit))) .unit))))) (.pair (.int .i64) .unit))), (0, .box (.pair (.int .i64) (.pair .str (.pair (.int .i64) (.pair (.int .i64) (.pair .str .unit)))))), (1, .box (.pair (.sl (.pair .str (.pair (.int .i64) (.pair (.int .i64) (.pair (.sl (.pair (.int .i64) (.pair .str .unit))) .unit))))) (.pair (.int .i64) .unit))), (1, .v (.int .i64)), (0, .v (.int .i64)), (0, .box (.pair (.sl (.pair .str (.pair (.int .i64) (.pair (.int .i64) (.pair (.sl (.pair (.int .i64) (.pair .str .unit))) .unit))))) (.pair (.int .i64) .unit)))]) (m := 130) (g := z4n N) [2, 7, 3, 9, 5, 8] (zo hb N (z8x N) zm z7 TabOk.nil [0, 1, 1, 1, 0, 0, 1, 0, 0, 1, 0, 1, 1, 1, 1, 1] _ rfl) (fun x K => by kernel_rfl)

def z2f (N : Nat) (s : ((List ((List UInt8) × (Int × (Int × ((List (Int × ((List UInt8) × Unit))) × Unit))))) × (Int × Unit))) (e : (Int × ((List UInt8) × (Int × (Int × ((List UInt8) × Unit)))))) (t : ((List ((List UInt8) × (Int × (Int × ((List (Int × ((List UInt8) × Unit))) × Unit))))) × (Int × Unit))) (i : Int) (k0 : Bool -> Option Bool) (k1 : Option Bool) : Option Bool :=
 cond (Go.Lift.inR i (List.length s.1))
 ((z64 N t (List.getD s.1 (Int.toNat i) (([] : List UInt8), ((0 : Int), ((0 : Int), (([] : List (Int × ((List UInt8) × Unit))), ()))))).1).bind fun y =>
 z2e N s e t i y
 (fun x4 => k0 x4)
 (cond (Go.Lift.inR i (List.length s.1))
 (z2c N s e t i y (([(List.getD s.1 (Int.toNat i) (([] : List UInt8), ((0 : Int), ((0 : Int), (([] : List (Int × ((List UInt8) × Unit))), ())))))] : List ((List UInt8) × (Int × (Int × ((List (Int × ((List UInt8) × Unit))) × Unit))))), ((0 : Int), ()))
 (fun x138 => cond x138
 (k0 false)
 (k1)))
 (none)))
 (none)

def z4q (N : Nat) (x : z2m [(2, .box (.pair (.sl (.pair .str (.pair (.int .i64) (.pair (.int .i64) (.pair (.sl (.pair (.int .i64) (.pair .str .unit))) .unit))))) (.pair (.int .i64) .unit))), (0, .box (.pair (.int .i64) (.pair .str (.pair (.int .i64) (.pair (.int .i64) (.pair .str .unit)))))), (1, .box (.pair (.sl (.pair .str (.pair (.int .i64) (.pair (.int .i64) (.pair (.sl (.pair (.int .i64) (.pair .str .unit))) .unit))))) (.pair (.int .i64) .unit))), (1, .v (.int .i64))]) (K : Ex -> List A -> Option Bool) : Option Bool :=
 z2f N x.1 x.2.1 x.2.2.1 x.2.2.2.1 (fun a0 => (K .ret (mkS [(4, .v .bool)] 135 (a0, ())))) (K .normal (mkS [(2, .box (.pair (.sl (.pair .str (.pair (.int .i64) (.pair (.int .i64) (.pair (.sl (.pair (.int .i64) (.pair .str .unit))) .unit))))) (.pair (.int .i64) .unit))), (0, .box (.pair (.int .i64) (.pair .str (.pair (.int .i64) (.pair (.int .i64) (.pair .str .unit)))))), (1, .box (.pair (.sl (.pair .str (.pair (.int .i64) (.pair (.int .i64) (.pair (.sl (.pair (.int .i64) (.pair .str .unit))) .unit))))) (.pair (.int .i64) .unit))), (1, .v (.int .i64))] 132 (x.1, x.2.1, x.2.2.1, x.2.2.2.1, ())))

def z4h (N : Nat) : Hd Bool := fun st K => (unS [(2, .box (.pair (.sl (.pair .str (.pair (.int .i64) (.pair (.int .i64) (.pair (.sl (.pair (.int .i64) (.pair .str .unit))) .unit))))) (.pair (.int .i64) .unit))), (0, .box (.pair (.int .i64) (.pair .str (.pair (.int .i64) (.pair (.int .i64) (.pair .str .unit)))))), (1, .box (.pair (.sl (.pair .str (.pair (.int .i64) (.pair (.int .i64) (.pair (.sl (.pair (.int .i64) (.pair .str .unit))) .unit))))) (.pair (.int .i64) .unit))), (1, .v (.int .i64))] 132 (restr [5, 2, 7, 3] 0 st)).bind fun x => z4q N x K

def z90 (N : Nat) : Tab Bool := [([0, 1, 0, 0, 1, 0, 0, 1, 0, 1, 1, 1, 1, 1], z4g N), ([0, 1, 1, 1, 0, 0, 1, 0, 0, 1, 0, 1, 1, 1, 1, 1], z4e N)]

theorem z8b {N : Nat} {c : Ctx} (hb : Base Go.Proofs.Try.prog (zi N) c) : z1a Go.Proofs.Try.prog c (zp z7 [0, 1, 0, 0, 1, 0, 1, 1, 1, 1, 1]) (z4h N) :=
  z1e (s := [(2, .box (.pair (.sl (.pair .str (.pair (.int .i64) (.pair (.int .i64) (.pair (.sl (.pair (.int .i64) (.pair .str .unit))) .unit))))) (.pair (.int .i64) .unit))), (0, .box (.pair (.int .i64) (.pair .str (.pair (.int .i64) (.pair (.int .i64) (.pair .str .unit)))))), (1, .box (.pair (.sl (.pair .str (.pair (.int .i64) (.pair (.int .i64) (.pair (.sl (.pair (.int .i64) (.pair .str .unit))) .unit))))) (.pair (.int .i64) .unit))), (1, .v (.int .i64))]) (m := 132) (g := z4q N) [5, 2, 7, 3] (zo hb N (z90 N) zm z7 (TabOk.cons (z8a hb) (TabOk.cons (z88 hb) TabOk.nil)) [0, 1, 0, 0, 1, 0, 1, 1, 1, 1, 1] _ rfl) (fun x K => by kernel_rfl)

def z2b (N : Nat) (s : ((List ((List UInt8) × (Int × (Int × ((List (Int × ((List UInt8) × Unit))) × Unit))))) × (Int × Unit))) (e : (Int × ((List UInt8) × (Int × (Int × ((List UInt8) × Unit)))))) (t : ((List ((List UInt8) × (Int × (Int × ((List (Int × ((List UInt8) × Unit))) × Unit))))) × (Int × Unit))) (i : Int) (rec : Int -> Option Bool) (k0 : Bool -> Option Bool) (k1 : Option Bool) : Option Bool :=
 cond (decide (i < (((List.length s.1) : Nat) : Int)))
 (z2f N s e t i
 (fun x4 => k0 x4)
 (rec (Go.IntKind.wrap Go.IntKind.i64 (i + (1 : Int)))))
 (k1)

def z4d (N : Nat) (s : ((List ((List UInt8) × (Int × (Int × ((List (Int × ((List UInt8) × Unit))) × Unit))))) × (Int × Unit))) (e : (Int × ((List UInt8) × (Int × (Int × ((List UInt8) × Unit)))))) (t : ((List ((List UInt8) × (Int × (Int × ((List (Int × ((List UInt8) × Unit))) × Unit))))) × (Int × Unit))) (i : Int) (k0 : Bool -> Option Bool) (k1 : Option Bool) : Option Bool :=
 iter (fun (v : Int) r => z2b N s e t v (fun i => (r i)) k0 k1) N i

def z4r (N : Nat) (i : (((List ((List UInt8) × (Int × (Int × ((List (Int × ((List UInt8) × Unit))) × Unit))))) × (Int × Unit)) × (Int × ((List UInt8) × (Int × (Int × ((List UInt8) × Unit))))) × ((List ((List UInt8) × (Int × (Int × ((List (Int × ((List UInt8) × Unit))) × Unit))))) × (Int × Unit)))) (v : Int) (r : Int -> Option Bool) (K : Ex -> List A -> Option Bool) : Option Bool :=
 z2b N i.1 i.2.1 i.2.2 v (fun i => (r i)) (fun a0 => (K .ret (mkS [(4, .v .bool)] 135 (a0, ())))) (K (.exit 0) (mkS [] 140 ()))

def z4i (N : Nat) : Hd Bool := fun st K => (unS [(2, .box (.pair (.sl (.pair .str (.pair (.int .i64) (.pair (.int .i64) (.pair (.sl (.pair (.int .i64) (.pair .str .unit))) .unit))))) (.pair (.int .i64) .unit))), (0, .box (.pair (.int .i64) (.pair .str (.pair (.int .i64) (.pair (.int .i64) (.pair .str .unit)))))), (1, .box (.pair (.sl (.pair .str (.pair (.int .i64) (.pair (.int .i64) (.pair (.sl (.pair (.int .i64) (.pair .str .unit))) .unit))))) (.pair (.int .i64) .unit))), (1, .v (.int .i64))] 132 (restr [7, 2, 5, 3] 0 st)).bind fun x => iter (fun v r => z4r N ((fun x => (x.1, x.2.1, x.2.2.1)) x) v r K) N ((fun x => x.2.2.2.1) x)

def z91 (N : Nat) : Tab Bool := [([0, 1, 0, 0, 1, 0, 1, 1, 1, 1, 1], z4h N)]

theorem z8c {N : Nat} {c : Ctx} (hb : Base Go.Proofs.Try.prog (zi N) c) : z1a Go.Proofs.Try.prog c (zp z7 [0, 1, 0, 1, 1, 1, 1, 1]) (z4i N) :=
  z8j (s := [(2, .box (.pair (.sl (.pair .str (.pair (.int .i64) (.pair (.int .i64) (.pair (.sl (.pair (.int .i64) (.pair .str .unit))) .unit))))) (.pair (.int .i64) .unit))), (0, .box (.pair (.int .i64) (.pair .str (.pair (.int .i64) (.pair (.int .i64) (.pair .str .unit)))))), (1, .box (.pair (.sl (.pair .str (.pair (.int .i64) (.pair (.int .i64) (.pair (.sl (.pair (.int .i64) (.pair .str .unit))) .unit))))) (.pair (.int .i64) .unit))), (1, .v (.int .i64))]) (m := 132) (z4r N) [7, 2, 5, 3] N (fun x => (x.1, x.2.1, x.2.2.1)) (fun x => x.2.2.2.1) (fun i v => (i.1, i.2.1, i.2.2, v, ())) (fun _ => rfl) (zo hb N (z91 N) zm z7 (TabOk.cons (z8b hb) TabOk.nil) [0, 0, 1, 0, 1, 1, 1, 1, 1] _ rfl) (fun i v r K => by kernel_rfl)

def z1l (N : Nat) (s : ((List ((List UInt8) × (Int × (Int × ((List (Int × ((List UInt8) × Unit))) × Unit))))) × (Int × Unit))) (e : (Int × ((List UInt8) × (Int × (Int × ((List UInt8) × Unit)))))) : Option Bool :=
 z2j N s e
 (fun x4 => some x4)
 ((z6x N s e).bind fun y =>
 cond (y.2.1 != (0 : Int))
 (cond ((((List.length y.1.1) : Nat) : Int) == (0 : Int))
 (cond (y.1.2.1 == (0 : Int))
 ((z21 N).bind fun y1 =>
 some y1)
 (some false))
 (some false))
 (z2h N s e y.1
 (fun x41 => some x41)
 (z4d N s e y.1 (0 : Int)
 (fun x42 => some x42)
 ((z21 N).bind fun y2 =>
 some y2))))

def z50 (N : Nat) : Tab Bool := [([0, 1], z4m N), ([0, 1, 1, 1, 1], z4k N), ([0, 1, 0, 1, 1, 1, 1, 1], z4i N)]

theorem z7r (N : Nat) (x : z2m [(0, .v (.pair (.sl (.pair .str (.pair (.int .i64) (.pair (.int .i64) (.pair (.sl (.pair (.int .i64) (.pair .str .unit))) .unit))))) (.pair (.int .i64) .unit))), (0, .v (.pair (.int .i64) (.pair .str (.pair (.int .i64) (.pair (.int .i64) (.pair .str .unit))))))]) : zgb (zi N) N (z50 N) zm Go.Proofs.Try.f5 (mkS [(0, .v (.pair (.sl (.pair .str (.pair (.int .i64) (.pair (.int .i64) (.pair (.sl (.pair (.int .i64) (.pair .str .unit))) .unit))))) (.pair (.int .i64) .unit))), (0, .v (.pair (.int .i64) (.pair .str (.pair (.int .i64) (.pair (.int .i64) (.pair .str .unit))))))] 0 x) (z8o (.v .bool) 2) = z1l N x.1 x.2.1 := by kernel_rfl

def z87 (N : Nat) : List A -> Res := z38 [(0, .v (.pair (.sl (.pair .str (.pair (.int .i64) (.pair (.int .i64) (.pair (.sl (.pair (.int .i64) (.pair .str .unit))) .unit))))) (.pair (.int .i64) .unit))), (0, .v (.pair (.int .i64) (.pair .str (.pair (.int .i64) (.pair (.int .i64) (.pair .str .unit))))))] (fun x => z1l N x.1 x.2.1) (zgv (.v .bool) 2)

theorem z96 (N : Nat) : Contract Go.Proofs.Try.prog z1c 5 (z87 N) :=
  Contract.of (E := zi N) (H := z50 N) (L := zm) (N := N) (body := z7) (K := (z8o (.v .bool) 2)) (z8h N) Go.Proofs.Try.func5 (by kernel_rfl) (by decide) (fun _ hb => (TabOk.cons (z8g hb) (TabOk.cons (z8e hb) (TabOk.cons (z8c hb) TabOk.nil)))) (fun x y h => by rw [z7r]; exact h) (z2l (s := (.v .bool)) (m := 2))

end
end Go.Proofs.YtobbmaplbpdniaaLg

set_option linter.all false
set_option maxRecDepth 100000
namespace Go.Proofs.YtobbmaplbpdniaaLg
noncomputable section
open Go Go.Lift Go.Proofs.YtobbmaplbpdniaaPx

abbrev EvD := Int × (List UInt8 × (Int × (Int × (List UInt8 × Unit))))

def ze1 {α : Type} (p : α -> Bool) : List α -> Nat -> Int
  | [], _ => -1
  | x :: l, i => if p x then (i : Int) else ze1 p l (i + 1)

theorem z7n {α : Type} (p : α -> Bool) : ∀ (l : List α) (i : Nat), (ze1 p l i = -1 /\ ∀ x ∈ l, p x = false) \/ ∃ j : Nat, ze1 p l i = ((i + j : Nat) : Int) /\ ∃ h : j < l.length, p l[j] = true
  | [], i => .inl ⟨rfl, fun x hx => by cases hx⟩
  | x :: l, i => by
    rw [ze1]
    cases hp : p x with
    | true => exact .inr ⟨0, by simp, by simp, hp⟩
    | false =>
      simp only [Bool.false_eq_true, if_false]
      rcases z7n p l (i + 1) with ⟨h1, h2⟩ | ⟨j, h1, h2, h3⟩
      . refine .inl ⟨h1, fun y hy => ?_⟩
        rcases List.mem_cons.1 hy with rfl | hy
        . exact hp
        . exact h2 y hy
      . exact .inr ⟨j + 1, by rw [h1]; congr 1; omega, by simpa using h2, by simpa using h3⟩

theorem zrf : ∀ a b : List UInt8, Go.Op.bytesLess a b = decide (zhn a b < 0)
  | [], [] => rfl
  | [], _ :: _ => rfl
  | _ :: _, [] => rfl
  | x :: xs, y :: ys => by
    rw [zhn, Go.Op.bytesLess]
    by_cases h1 : x < y
    . rw [if_pos h1, decide_eq_true h1]; rfl
    . by_cases h2 : y < x
      . have h3 : (x == y) = false := by
          rw [beq_eq_false_iff_ne]
          intro e; rw [e, UInt8.lt_iff_toNat_lt] at h2; omega
        rw [if_neg h1, if_pos h2, decide_eq_false h1, h3]; rfl
      . have e : x = y := by
          rw [UInt8.lt_iff_toNat_lt] at h1 h2
          exact UInt8.toNat_inj.1 (by omega)
        subst e
        rw [if_neg h1, if_neg h1, zrf xs ys, decide_eq_false h1, beq_self_eq_true, Bool.false_or, Bool.true_and]

theorem zjt : ∀ a b c : List UInt8, zhn a b < 0 -> zhn b c < 0 -> zhn a c < 0
  | [], [], _, h, _ => by simp [zhn] at h
  | [], _ :: _, [], _, h => by simp [zhn] at h
  | [], _ :: _, _ :: _, _, _ => by simp [zhn]
  | _ :: _, [], _, h, _ => by simp [zhn] at h
  | _ :: _, _ :: _, [], _, h => by simp [zhn] at h
  | x :: xs, y :: ys, z :: zs, h, g => by
    rw [zhn] at h g ⊢
    simp only [UInt8.lt_iff_toNat_lt] at h g ⊢
    by_cases h1 : x.toNat < y.toNat
    . by_cases g1 : y.toNat < z.toNat
      . rw [if_pos (by omega)]; omega
      . by_cases g2 : z.toNat < y.toNat
        . rw [if_neg g1, if_pos g2] at g; omega
        . rw [if_pos (by omega)]; omega
    . by_cases h2 : y.toNat < x.toNat
      . rw [if_neg h1, if_pos h2] at h; omega
      . rw [if_neg h1, if_neg h2] at h
        by_cases g1 : y.toNat < z.toNat
        . rw [if_pos (by omega)]; omega
        . by_cases g2 : z.toNat < y.toNat
          . rw [if_neg g1, if_pos g2] at g; omega
          . rw [if_neg g1, if_neg g2] at g
            rw [if_neg (by omega), if_neg (by omega)]
            exact zjt xs ys zs h g

theorem zlr : ∀ a b : List UInt8, ¬ zhn a b < 0 -> a ≠ b -> zhn b a < 0
  | [], [], _, h => absurd rfl h
  | [], _ :: _, h, _ => by simp [zhn] at h
  | _ :: _, [], _, _ => by simp [zhn]
  | x :: xs, y :: ys, h, g => by
    rw [zhn] at h ⊢
    simp only [UInt8.lt_iff_toNat_lt] at h ⊢
    by_cases h1 : x.toNat < y.toNat
    . rw [if_pos h1] at h; omega
    . by_cases h2 : y.toNat < x.toNat
      . rw [if_pos h2]; omega
      . have e : x = y := UInt8.toNat_inj.1 (by omega)
        subst e
        rw [if_neg h1, if_neg h1] at h
        rw [if_neg h1, if_neg h1]
        exact zlr xs ys h (fun e => g (by rw [e]))

theorem zsy (p t : List UInt8) : upL (some p) t = decide (zhn p t < 0) := by
  rw [upL, <- zx3]
  by_cases h : zhn p t < 0
  . rw [decide_eq_true h, decide_eq_false (by omega)]; rfl
  . rw [decide_eq_false h, decide_eq_true (by omega)]; rfl

theorem z32 {p : Option (List UInt8)} {t : zh9} {l : List zh9} : z71 p (t :: l) = true ↔ upL p t.1 = true /\ zow t = true /\ z71 (some t.1) l = true := by
  rw [z71]; simp only [Bool.and_eq_true]

theorem zl0 : ∀ {l : List zh9} {p : List UInt8}, z71 (some p) l = true -> ∀ x ∈ l, zhn p x.1 < 0
  | [], _, _, x, hx => by cases hx
  | t :: l, p, h, x, hx => by
    obtain ⟨h1, h2, h3⟩ := z32.1 h
    rw [zsy, decide_eq_true_eq] at h1
    rcases List.mem_cons.1 hx with rfl | hx
    . exact h1
    . exact zjt _ _ _ h1 (zl0 h3 x hx)

theorem zce : ∀ {l : List zh9} {p : Option (List UInt8)}, z71 p l = true -> ∀ x ∈ l, zow x = true
  | [], _, _, x, hx => by cases hx
  | t :: l, p, h, x, hx => by
    obtain ⟨h1, h2, h3⟩ := z32.1 h
    rcases List.mem_cons.1 hx with rfl | hx
    . exact h2
    . exact zce h3 x hx

theorem zbb {t : zh9} (h : zow t = true) : zcp t.1 = true /\ ze6 t.2.1 0 = true /\ ze6 t.2.2.1 1 = true /\ t.2.2.2.1.length <= 8 /\ zai t.2.2.1 0 t.2.2.2.1 = true := by
  unfold zow at h
  simp only [Bool.and_eq_true, decide_eq_true_eq] at h
  exact ⟨h.1, h.2.1, h.2.2.1, h.2.2.2.1, h.2.2.2.2⟩

theorem zt3 {t : zh9} (h1 : zcp t.1 = true) (h2 : ze6 t.2.1 0 = true) (h3 : ze6 t.2.2.1 1 = true) (h4 : t.2.2.2.1.length <= 8) (h5 : zai t.2.2.1 0 t.2.2.2.1 = true) : zow t = true := by
  unfold zow
  rw [h1, h2, h3, h5, decide_eq_true h4]; rfl

theorem zyt {x low : Int} : ze6 x low = true ↔ low <= x /\ x <= 1099511627776 := by
  unfold ze6; simp only [Bool.and_eq_true, decide_eq_true_eq]

theorem z7x {s : zn2} : z8u s = true ↔ s.1.length <= 16 /\ ze6 s.2.1 0 = true /\ z71 none s.1 = true := by
  unfold z8u; simp only [Bool.and_eq_true, decide_eq_true_eq]

theorem zut : ∀ {l : List zh9} {p : Option (List UInt8)} {i : Nat}, z71 p l = true -> ∀ x ∈ l, ∃ j : Nat, ze1 (fun t => t.1 == x.1) l i = ((i + j : Nat) : Int) /\ j < l.length /\ l.getD j zb6 = x
  | [], _, _, _, x, hx => by cases hx
  | t :: l, p, i, h, x, hx => by
    obtain ⟨h1, h2, h3⟩ := z32.1 h
    rw [ze1]
    rcases List.mem_cons.1 hx with rfl | hx
    . exact ⟨0, by rw [if_pos (beq_self_eq_true _)]; rfl, by simp, rfl⟩
    . have hlt := zl0 h3 x hx
      have hne : (t.1 == x.1) = false := by
        rw [beq_eq_false_iff_ne]; intro e; rw [e, zoj] at hlt; omega
      obtain ⟨j, e1, e2, e3⟩ := zut (i := i + 1) h3 x hx
      refine ⟨j + 1, ?_, by simpa using e2, ?_⟩
      . rw [hne]
        simp only [Bool.false_eq_true, if_false]
        rw [e1]; congr 1; omega
      . simpa using e3

theorem zqd : ∀ {l : List zh9} {p : Option (List UInt8)} {t : zh9} (j : Nat) (hj : j < l.length), z71 p l = true -> t.1 = l[j].1 -> zow t = true -> z71 p (l.take j ++ t :: l.drop (j + 1)) = true
  | [], _, _, j, hj, _, _, _ => by cases hj
  | x :: l, p, t, 0, _, h, e, ht => by
    obtain ⟨h1, h2, h3⟩ := z32.1 h
    rw [List.take_zero, List.nil_append, List.drop_succ_cons, List.drop_zero]
    have e' : t.1 = x.1 := e
    rw [z32, e']
    exact ⟨h1, ht, h3⟩
  | x :: l, p, t, j + 1, hj, h, e, ht => by
    obtain ⟨h1, h2, h3⟩ := z32.1 h
    rw [List.take_succ_cons, List.cons_append, List.drop_succ_cons, z32]
    exact ⟨h1, h2, zqd j (by simpa using hj) h3 (by simpa using e) ht⟩

theorem zqe : ∀ {l : List zh9} {p : Option (List UInt8)} {t : zh9}, z71 p l = true -> upL p t.1 = true -> (∀ x ∈ l, x.1 ≠ t.1) -> zow t = true -> z71 p (l.take (z82 l t.1) ++ [t] ++ l.drop (z82 l t.1)) = true
  | [], p, t, _, hu, _, ht => by
    show z71 p [t] = true
    rw [z32]; exact ⟨hu, ht, rfl⟩
  | x :: l, p, t, h, hu, hn, ht => by
    obtain ⟨h1, h2, h3⟩ := z32.1 h
    unfold z82
    rw [List.takeWhile_cons]
    have hx : x.1 ≠ t.1 := hn x List.mem_cons_self
    rw [zrf]
    by_cases hlt : zhn x.1 t.1 < 0
    . rw [decide_eq_true hlt, if_pos rfl, List.length_cons, List.take_succ_cons, List.drop_succ_cons]
      show z71 p (x :: (l.take (z82 l t.1) ++ [t] ++ l.drop (z82 l t.1))) = true
      rw [z32]
      exact ⟨h1, h2, zqe h3 (by rw [zsy, decide_eq_true hlt]) (fun y hy => hn y (List.mem_cons_of_mem _ hy)) ht⟩
    . rw [decide_eq_false hlt, if_neg (by decide)]
      show z71 p (t :: x :: l) = true
      rw [z32, z32]
      exact ⟨hu, ht, by rw [zsy]; exact decide_eq_true (zlr _ _ hlt hx), h2, h3⟩

theorem z3v {nx last : Int} {k : zrj} {l : List zrj} : zai nx last (k :: l) = true ↔ last < k.1 /\ k.1 < nx /\ k.2.1.length = 32 /\ zai nx k.1 l = true := by
  rw [zai]; simp only [Bool.and_eq_true, decide_eq_true_eq]

theorem zje : ∀ {l : List zrj} {nx nx' a b : Int}, zai nx a l = true -> b <= a -> nx <= nx' -> zai nx' b l = true
  | [], _, _, _, _, _, _, _ => rfl
  | k :: l, nx, nx', a, b, h, h1, h2 => by
    obtain ⟨g1, g2, g3, g4⟩ := z3v.1 h
    exact z3v.2 ⟨by omega, by omega, g3, zje g4 (by omega) h2⟩

theorem znz : ∀ {l : List zrj} {nx a : Int} (j : Nat), zai nx a l = true -> zai nx a (l.take j ++ l.drop (j + 1)) = true
  | [], _, _, _, _ => by simp [zai]
  | k :: l, nx, a, 0, h => by
    obtain ⟨g1, g2, g3, g4⟩ := z3v.1 h
    exact zje g4 (by omega) (by omega)
  | k :: l, nx, a, j + 1, h => by
    obtain ⟨g1, g2, g3, g4⟩ := z3v.1 h
    rw [List.take_succ_cons, List.cons_append, List.drop_succ_cons]
    exact z3v.2 ⟨g1, g2, g3, znz j g4⟩

theorem zr5 : ∀ {l : List zrj} {nx a : Int} {k : zrj}, zai nx a l = true -> a < k.1 -> k.1 < nx -> k.2.1.length = 32 -> (∀ x ∈ l, x.1 ≠ k.1) -> zai nx a (l.take (zf4 l k.1) ++ [k] ++ l.drop (zf4 l k.1)) = true
  | [], nx, a, k, _, h1, h2, h3, _ => z3v.2 ⟨h1, h2, h3, rfl⟩
  | x :: l, nx, a, k, h, h1, h2, h3, hn => by
    obtain ⟨g1, g2, g3, g4⟩ := z3v.1 h
    have hx : x.1 ≠ k.1 := hn x List.mem_cons_self
    unfold zf4
    rw [List.takeWhile_cons]
    by_cases hlt : x.1 < k.1
    . rw [decide_eq_true hlt, if_pos rfl, List.length_cons, List.take_succ_cons, List.drop_succ_cons]
      exact z3v.2 ⟨g1, g2, g3, zr5 g4 hlt h2 h3 (fun y hy => hn y (List.mem_cons_of_mem _ hy))⟩
    . rw [decide_eq_false hlt, if_neg (by decide)]
      exact z3v.2 ⟨h1, h2, h3, z3v.2 ⟨by omega, g2, g3, g4⟩⟩

def zws (s : zn2) (i : Nat) (t : zh9) : zn2 := (s.1.take i ++ t :: s.1.drop (i + 1), s.2)

def z7k (t : zh9) (kd nu : Int) (tx : List UInt8) : Int × List zrj :=
 if kd = 2 then
 if t.2.2.1 <= nu then (7, t.2.2.2.1)
 else if 0 <= ze1 (fun k => k.1 == nu) t.2.2.2.1 0 then (5, t.2.2.2.1)
 else if t.2.2.2.1.length = 8 then (3, t.2.2.2.1)
 else (0, t.2.2.2.1.take (zf4 t.2.2.2.1 nu) ++ [(nu, (tx, ()))] ++ t.2.2.2.1.drop (zf4 t.2.2.2.1 nu))
 else if ze1 (fun k => k.1 == nu) t.2.2.2.1 0 < 0 then (6, t.2.2.2.1)
 else (0, t.2.2.2.1.take (ze1 (fun k => k.1 == nu) t.2.2.2.1 0).toNat ++ t.2.2.2.1.drop ((ze1 (fun k => k.1 == nu) t.2.2.2.1 0).toNat + 1))

def z5o (s : zn2) (e : EvD) : Int × zn2 :=
 if e.1 = 4 then (if e.2.2.1 < s.2.1 then (7, s) else (0, (s.1, (e.2.2.1, ()))))
 else if e.1 = 1 then
 if 0 <= ze1 (fun t => t.1 == e.2.1) s.1 0 then
 if e.2.2.2.1 < (s.1.getD (ze1 (fun t => t.1 == e.2.1) s.1 0).toNat zb6).2.1 \/ e.2.2.1 < (s.1.getD (ze1 (fun t => t.1 == e.2.1) s.1 0).toNat zb6).2.2.1 then (7, s)
 else (0, zws s (ze1 (fun t => t.1 == e.2.1) s.1 0).toNat ((s.1.getD (ze1 (fun t => t.1 == e.2.1) s.1 0).toNat zb6).1, (e.2.2.2.1, (e.2.2.1, ((s.1.getD (ze1 (fun t => t.1 == e.2.1) s.1 0).toNat zb6).2.2.2.1, ())))))
 else if s.1.length = 16 then (3, s)
 else (0, (s.1.take (z82 s.1 e.2.1) ++ [(e.2.1, (e.2.2.2.1, (e.2.2.1, ([], ()))))] ++ s.1.drop (z82 s.1 e.2.1), s.2))
 else if ze1 (fun t => t.1 == e.2.1) s.1 0 < 0 then (6, s)
 else ((z7k (s.1.getD (ze1 (fun t => t.1 == e.2.1) s.1 0).toNat zb6) e.1 e.2.2.1 e.2.2.2.2.1).1,
 zws s (ze1 (fun t => t.1 == e.2.1) s.1 0).toNat ((s.1.getD (ze1 (fun t => t.1 == e.2.1) s.1 0).toNat zb6).1, ((s.1.getD (ze1 (fun t => t.1 == e.2.1) s.1 0).toNat zb6).2.1, ((s.1.getD (ze1 (fun t => t.1 == e.2.1) s.1 0).toNat zb6).2.2.1,
 ((z7k (s.1.getD (ze1 (fun t => t.1 == e.2.1) s.1 0).toNat zb6) e.1 e.2.2.1 e.2.2.2.2.1).2, ())))))

def zkv (e : EvD) : Bool :=
 if e.1 = 1 then zcp e.2.1 && (ze6 e.2.2.1 1 && (ze6 e.2.2.2.1 0 && (e.2.2.2.2.1 == [])))
 else if e.1 = 2 then zcp e.2.1 && (ze6 e.2.2.1 1 && ((e.2.2.2.1 == 0) && decide (e.2.2.2.2.1.length = 32)))
 else if e.1 = 3 then zcp e.2.1 && (ze6 e.2.2.1 1 && ((e.2.2.2.1 == 0) && (e.2.2.2.2.1 == [])))
 else if e.1 = 4 then ze6 e.2.2.1 0 && ((e.2.1 == []) && ((e.2.2.2.1 == 0) && (e.2.2.2.2.1 == [])))
 else false

def errS (c : Int) : zn2 × (Int × Unit) := (([], (0, ())), (c, ()))

def zfi (s : zn2) (e : EvD) : zn2 × (Int × Unit) :=
 if z8u s = false then errS 7 else if zkv e = false then errS 2
 else if (z5o s e).1 = 0 then ((z5o s e).2, (0, ())) else errS (z5o s e).1

theorem zol {s : zn2} {e : EvD} (hr : z8u s = true) (hf : zkv e = true) (hc : (z5o s e).1 = 0) :
    z8u (z5o s e).2 = true /\ s.2.1 <= (z5o s e).2.2.1 /\ s.1.length <= (z5o s e).2.1.length ∧
    ∀ x ∈ s.1, ∃ y ∈ (z5o s e).2.1, y.1 = x.1 /\ x.2.1 <= y.2.1 /\ x.2.2.1 <= y.2.2.1 /\ (x.1 ≠ e.2.1 -> y = x) := by
  obtain ⟨r1, r2, r3⟩ := z7x.1 hr
  have hin := zyt.1 r2
  unfold z5o at hc ⊢
  by_cases k4 : e.1 = 4
  . rw [if_pos k4] at hc ⊢
    by_cases h : e.2.2.1 < s.2.1
    . rw [if_pos h] at hc; cases hc
    . rw [if_neg h]
      refine ⟨z7x.2 ⟨r1, ?_, r3⟩, by show s.2.1 <= e.2.2.1; omega, Nat.le_refl _, fun x hx => ⟨x, hx, rfl, by omega, by omega, fun _ => rfl⟩⟩
      unfold zkv at hf
      rw [k4] at hf
      simp only [Int.reduceEq, if_false, if_true, Bool.and_eq_true] at hf
      exact hf.1
  rw [if_neg k4] at hc ⊢
  have hset : ∀ (j : Nat) (hj : j < s.1.length) (t : zh9), s.1[j].1 = e.2.1 -> t.1 = s.1[j].1 -> s.1[j].2.1 <= t.2.1 -> s.1[j].2.2.1 <= t.2.2.1 -> zow t = true →
      z8u (zws s j t) = true /\ s.2.1 <= (zws s j t).2.1 /\ s.1.length <= (zws s j t).1.length /\ ∀ x ∈ s.1, ∃ y ∈ (zws s j t).1, y.1 = x.1 /\ x.2.1 <= y.2.1 /\ x.2.2.1 <= y.2.2.1 /\ (x.1 ≠ e.2.1 -> y = x) := by
    intro j hj t hn ht h1 h2 h3
    have hlen : (zws s j t).1.length = s.1.length := by
      unfold zws; simp only [List.length_append, List.length_cons, List.length_take, List.length_drop]; omega
    refine ⟨z7x.2 ⟨by rw [hlen]; exact r1, r2, zqd j hj r3 ht h3⟩, Int.le_refl _, by rw [hlen]; exact Nat.le_refl _, fun x hx => ?_⟩
    obtain ⟨i, hi, rfl⟩ := List.getElem_of_mem hx
    rcases Nat.lt_trichotomy i j with h | h | h
    . refine ⟨s.1[i], List.mem_append.2 (.inl ?_), rfl, by omega, by omega, fun _ => rfl⟩
      rw [List.mem_take_iff_getElem]
      exact ⟨i, by omega, rfl⟩
    . subst h
      refine ⟨t, List.mem_append.2 (.inr List.mem_cons_self), ht, h1, h2, fun h => absurd hn h⟩
    . refine ⟨s.1[i], List.mem_append.2 (.inr (List.mem_cons_of_mem _ ?_)), rfl, by omega, by omega, fun _ => rfl⟩
      rw [List.mem_drop_iff_getElem]
      exact ⟨i - (j + 1), by omega, by congr 1; omega⟩
  have hget : ∀ (j : Nat) (hj : j < s.1.length), s.1.getD j zb6 = s.1[j] := fun j hj => by simp [List.getD, List.getElem?_eq_getElem hj]
  by_cases k1 : e.1 = 1
  . have hf' : zcp e.2.1 = true /\ ze6 e.2.2.1 1 = true /\ ze6 e.2.2.2.1 0 = true := by
      unfold zkv at hf
      rw [if_pos k1] at hf
      simp only [Bool.and_eq_true] at hf
      exact ⟨hf.1, hf.2.1, hf.2.2.1⟩
    rw [if_pos k1] at hc ⊢
    rcases z7n (fun t : zh9 => t.1 == e.2.1) s.1 0 with ⟨h1, h2⟩ | ⟨j, h1, hj, h3⟩
    . rw [h1, if_neg (by decide)] at hc ⊢
      by_cases h16 : s.1.length = 16
      . rw [if_pos h16] at hc; cases hc
      rw [if_neg h16]
      have hne : ∀ x ∈ s.1, x.1 ≠ e.2.1 := fun x hx e' => by have := h2 x hx; rw [e', beq_self_eq_true] at this; cases this
      refine ⟨z7x.2 ⟨?_, r2, zqe (t := (e.2.1, (e.2.2.2.1, (e.2.2.1, ([], ()))))) r3 rfl hne (zt3 hf'.1 hf'.2.2 hf'.2.1 (by simp) rfl)⟩, Int.le_refl _, ?_, fun x hx => ⟨x, ?_, rfl, by omega, by omega, fun _ => rfl⟩⟩
      . simp only [List.length_append, List.length_cons, List.length_nil, List.length_take, List.length_drop]; omega
      . simp only [List.length_append, List.length_cons, List.length_nil, List.length_take, List.length_drop]; omega
      . dsimp only
        rw [List.append_assoc]
        have := List.take_append_drop (z82 s.1 e.2.1) s.1
        rw [<- this] at hx
        rcases List.mem_append.1 hx with hx | hx
        . exact List.mem_append.2 (.inl hx)
        . exact List.mem_append.2 (.inr (List.mem_append.2 (.inr hx)))
    . rw [Nat.zero_add] at h1
      rw [h1, if_pos (by omega), Int.toNat_natCast, hget j hj] at hc ⊢
      by_cases hlow : e.2.2.2.1 < s.1[j].2.1 \/ e.2.2.1 < s.1[j].2.2.1
      . rw [if_pos hlow] at hc; cases hc
      rw [if_neg hlow]
      have ht := zbb (zce r3 _ (List.getElem_mem hj))
      exact hset j hj _ (beq_iff_eq.1 h3) rfl (by dsimp only; omega) (by dsimp only; omega) (zt3 ht.1 hf'.2.2 hf'.2.1 ht.2.2.2.1 (zje ht.2.2.2.2 (by omega) (by dsimp only; omega)))
  . rw [if_neg k1] at hc ⊢
    rcases z7n (fun t : zh9 => t.1 == e.2.1) s.1 0 with ⟨h1, h2⟩ | ⟨j, h1, hj, h3⟩
    . rw [h1, if_pos (by decide)] at hc; cases hc
    rw [Nat.zero_add] at h1
    rw [h1, if_neg (by omega), Int.toNat_natCast, hget j hj] at hc ⊢
    dsimp only at hc ⊢
    have ht := zbb (zce r3 _ (List.getElem_mem hj))
    refine hset j hj _ (beq_iff_eq.1 h3) rfl (by dsimp only; omega) (by dsimp only; omega) ?_
    generalize s.1[j] = t at hc ht
    have hk : (z7k t e.1 e.2.2.1 e.2.2.2.2.1).2.length <= 8 /\ zai t.2.2.1 0 (z7k t e.1 e.2.2.1 e.2.2.2.2.1).2 = true := by
      unfold z7k at hc ⊢
      by_cases k2 : e.1 = 2
      . have hf' : ze6 e.2.2.1 1 = true /\ e.2.2.2.2.1.length = 32 := by
          unfold zkv at hf
          rw [if_neg k1, if_pos k2] at hf
          simp only [Bool.and_eq_true, decide_eq_true_eq] at hf
          exact ⟨hf.2.1, hf.2.2.2⟩
        rw [if_pos k2] at hc ⊢
        by_cases c1 : t.2.2.1 <= e.2.2.1
        . rw [if_pos c1] at hc; cases hc
        rw [if_neg c1] at hc ⊢
        rcases z7n (fun k : zrj => k.1 == e.2.2.1) t.2.2.2.1 0 with ⟨g1, g2⟩ | ⟨i, g1, g2, g3⟩
        . rw [g1, if_neg (by decide)] at hc ⊢
          by_cases c2 : t.2.2.2.1.length = 8
          . rw [if_pos c2] at hc; cases hc
          rw [if_neg c2]
          have hl := zyt.1 hf'.1
          refine ⟨?_, zr5 (k := (e.2.2.1, (e.2.2.2.2.1, ()))) ht.2.2.2.2 (by dsimp only; omega) (by dsimp only; omega) hf'.2 (fun x hx e' => by have := g2 x hx; rw [e', beq_self_eq_true] at this; cases this)⟩
          simp only [List.length_append, List.length_cons, List.length_nil, List.length_take, List.length_drop]; omega
        . rw [g1, if_pos (by omega)] at hc; cases hc
      . rw [if_neg k2] at hc ⊢
        rcases z7n (fun k : zrj => k.1 == e.2.2.1) t.2.2.2.1 0 with ⟨g1, g2⟩ | ⟨i, g1, g2, g3⟩
        . rw [g1, if_pos (by decide)] at hc; cases hc
        . rw [Nat.zero_add] at g1
          rw [g1, if_neg (by omega), Int.toNat_natCast]
          exact ⟨by simp only [List.length_append, List.length_take, List.length_drop]; omega, znz i ht.2.2.2.2⟩
    exact zt3 ht.1 ht.2.1 ht.2.2.1 hk.1 hk.2

theorem zwl {s : zn2} {e : EvD} : ((zfi s e).2.1 = 0 /\ z8u s = true /\ zkv e = true /\ (z5o s e).1 = 0 /\ (zfi s e).1 = (z5o s e).2) \/ ((zfi s e).2.1 ≠ 0 /\ zfi s e = errS (zfi s e).2.1) := by
  unfold zfi
  cases hr : z8u s with
  | false => exact .inr ⟨show (7 : Int) ≠ 0 by decide, rfl⟩
  | true =>
    cases hf : zkv e with
    | false => exact .inr ⟨show (2 : Int) ≠ 0 by decide, rfl⟩
    | true =>
      rw [if_neg (show ¬ (true = false) by decide), if_neg (show ¬ (true = false) by decide)]
      by_cases hc : (z5o s e).1 = 0
      . rw [if_pos hc]; exact .inl ⟨rfl, rfl, rfl, hc, rfl⟩
      . rw [if_neg hc]; exact .inr ⟨hc, rfl⟩

end
end Go.Proofs.YtobbmaplbpdniaaLg

set_option linter.all false
set_option maxRecDepth 100000
namespace Go.Proofs.YtobbmaplbpdniaaLg
noncomputable section
open Go Go.Lift Go.Proofs.YtobbmaplbpdniaaPx

theorem zo3 {α : Type} (p : α -> Bool) {s : List α} {i : Nat} (hi : i < s.length) : ze1 p (s.drop i) i = if p s[i] then (i : Int) else ze1 p (s.drop (i + 1)) (i + 1) := by
  rw [List.drop_eq_getElem_cons hi]
  rfl

theorem zpm (N : Nat) {s : List zrj} {f : Int × Unit} (hl : s.length <= 1000) (hN : s.length < N) : zf7 N s f = some (ze1 (fun k => k.1 == f.1) s 0) := by
  rw [zf7, zjj]
  refine (z8k (fun v => ∃ (i : Nat), v = (i : Int) /\ i <= s.length) (fun v => s.length - v.toNat) (fun v => some (ze1 (fun k => k.1 == f.1) (s.drop v.toNat) v.toNat)) ?_ N 0 ⟨0, rfl, Nat.zero_le _⟩ (by simpa using hN)).trans (by simp)
  rintro v r ⟨i, rfl, hi⟩ hr
  rw [ze0]
  simp only [Int.toNat_natCast]
  rcases Nat.lt_or_ge i s.length with hlt | hge
  . rw [z3b (zjr (by omega)), z3b (z7m hlt), zo3 _ hlt, z62 (by omega), hr _ ⟨i + 1, rfl, by omega⟩ (by simp; omega), Int.toNat_natCast]
    have hg : s.getD i ((0 : Int), (([] : List UInt8), ())) = s[i] := by simp [List.getD, List.getElem?_eq_getElem hlt]
    rw [hg]
    cases s[i].1 == f.1 <;> rfl
  . rw [z3c (ze4 (by omega)), List.drop_of_length_le hge]
    rfl

theorem zsg (N : Nat) {ks : List zrj} {num : Int} (hl : ks.length <= 1000) (hN : ks.length < N) : z5t N ks num = some (ze1 (fun k => k.1 == num) ks 0) := by
  rw [z5t, zpm N hl hN]
  rfl

theorem zks (N : Nat) {s : List zh9} {f : List UInt8 × Unit} (hl : s.length <= 1000) (hN : s.length < N) : z7l N s f = some (ze1 (fun k => k.1 == f.1) s 0) := by
  rw [z7l, zdf]
  refine (z8k (fun v => ∃ (i : Nat), v = (i : Int) /\ i <= s.length) (fun v => s.length - v.toNat) (fun v => some (ze1 (fun k => k.1 == f.1) (s.drop v.toNat) v.toNat)) ?_ N 0 ⟨0, rfl, Nat.zero_le _⟩ (by simpa using hN)).trans (by simp)
  rintro v r ⟨i, rfl, hi⟩ hr
  rw [z8l]
  simp only [Int.toNat_natCast]
  rcases Nat.lt_or_ge i s.length with hlt | hge
  . rw [z3b (zjr (by omega)), z3b (z7m hlt), zo3 _ hlt, z62 (by omega), hr _ ⟨i + 1, rfl, by omega⟩ (by simp; omega), Int.toNat_natCast]
    have hg : s.getD i (([] : List UInt8), ((0 : Int), ((0 : Int), (([] : List (Int × (List UInt8 × Unit))), ())))) = s[i] := by simp [List.getD, List.getElem?_eq_getElem hlt]
    rw [hg]
    cases s[i].1 == f.1 <;> rfl
  . rw [z3c (ze4 (by omega)), List.drop_of_length_le hge]
    rfl

theorem zo8 (N : Nat) {s : zn2} {nm : List UInt8} (hl : s.1.length <= 1000) (hN : s.1.length < N) : z64 N s nm = some (ze1 (fun t => t.1 == nm) s.1 0) := by
  rw [z64, zks N hl hN]
  rfl

theorem zun (N : Nat) (hN : 40 < N) (e : EvD) : z8t N e = some (zkv e) := by
  rw [z8t, zbj, zkv, zsx N hN, Option.bind_some]
  by_cases k1 : e.1 = 1
  . rw [if_pos k1]
    simp only [k1, z7t, Option.bind_some, beq_self_eq_true, cond_true]
    cases zcp e.2.1 <;> cases ze6 e.2.2.1 1 <;> cases ze6 e.2.2.2.1 0 <;> rfl
  have b1 : (e.1 == (1 : Int)) = false := beq_eq_false_iff_ne.2 k1
  rw [if_neg k1]
  by_cases k2 : e.1 = 2
  . rw [if_pos k2]
    have hl : ((((List.length e.2.2.2.2.1) : Nat) : Int) == (32 : Int)) = decide (e.2.2.2.2.1.length = 32) := by
      by_cases h : e.2.2.2.2.1.length = 32
      . rw [decide_eq_true h, h]; rfl
      . rw [decide_eq_false h, beq_eq_false_iff_ne]; omega
    simp only [b1, k2, z7t, Option.bind_some, beq_self_eq_true, cond_true, cond_false, hl]
    cases zcp e.2.1 <;> cases ze6 e.2.2.1 1 <;> cases (e.2.2.2.1 == (0 : Int)) <;> rfl
  have b2 : (e.1 == (2 : Int)) = false := beq_eq_false_iff_ne.2 k2
  rw [if_neg k2]
  by_cases k3 : e.1 = 3
  . rw [if_pos k3]
    simp only [b1, b2, k3, z7t, Option.bind_some, beq_self_eq_true, cond_true, cond_false]
    cases zcp e.2.1 <;> cases ze6 e.2.2.1 1 <;> cases (e.2.2.2.1 == (0 : Int)) <;> rfl
  have b3 : (e.1 == (3 : Int)) = false := beq_eq_false_iff_ne.2 k3
  rw [if_neg k3]
  by_cases k4 : e.1 = 4
  . rw [if_pos k4]
    simp only [b1, b2, b3, k4, z7t, Option.bind_some, beq_self_eq_true, cond_true, cond_false]
    cases zcp e.2.1 <;> cases ze6 e.2.2.1 1 <;> cases ze6 e.2.2.1 0 <;> cases (e.2.1 == ([] : List UInt8)) <;> cases (e.2.2.2.1 == (0 : Int)) <;> rfl
  have b4 : (e.1 == (4 : Int)) = false := beq_eq_false_iff_ne.2 k4
  rw [if_neg k4]
  simp only [b1, b2, b3, b4, z7t, Option.bind_some, cond_false]
  cases zcp e.2.1 <;> cases ze6 e.2.2.1 1 <;> rfl

theorem zpy (N : Nat) (hN : 40 < N) {s : zn2} (e : EvD) (hr : z8u s = true) : zju N s e.1 e.2.1 e.2.2.1 e.2.2.2.1 e.2.2.2.2.1 = some (z5o s e) := by
  obtain ⟨r1, r2, r3⟩ := z7x.1 hr
  unfold zju z5o
  by_cases k4 : e.1 = 4
  . rw [if_pos k4, if_pos k4]
    split <;> rfl
  rw [if_neg k4, if_neg k4, zo8 N (by omega) (by omega), Option.bind_some]
  rcases z7n (fun t : zh9 => t.1 == e.2.1) s.1 0 with ⟨h1, h2⟩ | ⟨j, h1, hj, h3⟩
  . rw [h1]
    by_cases k1 : e.1 = 1
    . rw [if_pos k1, if_pos k1, if_neg (show ¬ (0 : Int) <= -1 by decide), if_neg (show ¬ (0 : Int) <= -1 by decide)]
      split <;> rfl
    . rw [if_neg k1, if_neg k1, if_pos (show (-1 : Int) < 0 by decide), if_pos (show (-1 : Int) < 0 by decide)]
  . have hget : s.1.getD j zb6 = s.1[j] := by simp [List.getD, List.getElem?_eq_getElem hj]
    rw [Nat.zero_add] at h1
    rw [h1, Int.toNat_natCast, hget, List.getElem?_eq_getElem hj]
    by_cases k1 : e.1 = 1
    . rw [if_pos k1, if_pos k1, if_pos (by omega), if_pos (by omega)]
      dsimp only
      split <;> rfl
    . rw [if_neg k1, if_neg k1, if_neg (by omega), if_neg (by omega)]
      dsimp only
      have ht := zbb (zce r3 _ (List.getElem_mem hj))
      generalize s.1[j] = t at ht
      have hy : (if e.1 = 2 then zk2 N t e.2.2.1 e.2.2.2.2.1 else zfb N t e.2.2.1) = some (z7k t e.1 e.2.2.1 e.2.2.2.2.1) := by
        unfold z7k zk2 zfb
        rw [zsg N (by omega) (by omega), Option.bind_some, Option.bind_some]
        by_cases k2 : e.1 = 2
        . rw [if_pos k2, if_pos k2]
          by_cases c1 : t.2.2.1 <= e.2.2.1
          . rw [if_pos c1, if_pos c1]
          . rw [if_neg c1, if_neg c1]
            split
            . rfl
            . split <;> rfl
        . rw [if_neg k2, if_neg k2]
          rcases z7n (fun k : zrj => k.1 == e.2.2.1) t.2.2.2.1 0 with ⟨g1, g2⟩ | ⟨i, g1, g2, g3⟩
          . rw [g1, if_pos (show (-1 : Int) < 0 by decide), if_pos (show (-1 : Int) < 0 by decide)]
          . rw [Nat.zero_add] at g1
            rw [g1, Int.toNat_natCast, if_neg (show ¬ (i : Int) < 0 by omega), if_neg (show ¬ (i : Int) < 0 by omega), if_pos g2]
      rw [hy, Option.bind_some]
      rfl

theorem zsp (N : Nat) (hN : 40 < N) (s : zn2) (e : EvD) : z6x N s e = some (zfi s e) := by
  unfold z6x zfi
  rw [zmh N hN, Option.bind_some]
  cases hr : z8u s with
  | false => rfl
  | true =>
    rw [if_neg (show ¬ (true = false) by decide), if_neg (show ¬ (true = false) by decide), zun N hN, Option.bind_some]
    cases hf : zkv e with
    | false => rfl
    | true =>
      obtain ⟨r1, r2, r3⟩ := z7x.1 hr
      have hg : s.1.length <= 16 /\ (s.1.all fun t => decide (t.2.2.2.1.length < 256)) = true := by
        refine ⟨r1, List.all_eq_true.2 fun t ht => ?_⟩
        have := (zbb (zce r3 t ht)).2.2.2.1
        exact decide_eq_true (by omega)
      rw [if_neg (show ¬ (true = false) by decide), if_neg (show ¬ (true = false) by decide), if_pos hg, zpy N hN e hr, Option.bind_some]
      split <;> rfl

end
end Go.Proofs.YtobbmaplbpdniaaLg

set_option linter.all false
set_option maxRecDepth 100000
namespace Go.Proofs.YtobbmaplbpdniaaLg
noncomputable section
open Go Go.Lift Go.Proofs.YtobbmaplbpdniaaPx

theorem zcb (k : Nat) : z21 (k + 300) = some true := by kernel_rfl

def zyy (t : zh9) : Bool := decide (12 < t.2.2.2.1.length) || decide (100 < t.1.length)

theorem zw7 (N : Nat) (hN : 40 < N) (s : zn2) : z2a N s = some (decide (20 < s.1.length) || s.1.any zyy) := by
  rw [z2a]
  by_cases h : 20 < s.1.length
  . rw [z3b (zjr (by omega)), decide_eq_true h]; rfl
  rw [z3c (ze4 (by omega)), decide_eq_false h, Bool.false_or, z6j]
  refine (z8k (fun v => ∃ (i : Nat), v = (i : Int) /\ i <= s.1.length) (fun v => s.1.length - v.toNat) (fun v => some ((s.1.drop v.toNat).any zyy)) ?_ N 0 ⟨0, rfl, Nat.zero_le _⟩ (by simp; omega)).trans (by simp)
  rintro v r ⟨i, rfl, hi⟩ hr
  rw [z3q]
  simp only [Int.toNat_natCast]
  rcases Nat.lt_or_ge i s.1.length with hlt | hge
  . rw [z3b (zjr (by omega)), z3s, z3r, show (([] : List UInt8), ((0 : Int), ((0 : Int), (([] : List (Int × (List UInt8 × Unit))), ())))) = zb6 from rfl]
    simp only [z7m hlt, cond_true, z62 (show i < 9223372036854775807 by omega), Int.toNat_natCast]
    rw [show r ((i + 1 : Nat) : Int) = some ((s.1.drop (i + 1)).any zyy) from (hr _ ⟨i + 1, rfl, by omega⟩ (by simp; omega)).trans rfl, zfa s.1 zb6 i hlt, List.any_cons, zyy]
    by_cases c1 : 12 < (s.1.getD i zb6).2.2.2.1.length
    . rw [z3b (zjr (by omega)), decide_eq_true c1]; rfl
    . rw [z3c (ze4 (by omega)), decide_eq_false c1]
      by_cases c2 : 100 < (s.1.getD i zb6).1.length
      . rw [z3b (zjr (by omega)), decide_eq_true c2]; rfl
      . rw [z3c (ze4 (by omega)), decide_eq_false c2]; rfl
  . rw [z3c (ze4 (by omega)), List.drop_of_length_le hge]
    rfl

theorem ztc (N : Nat) {s : zn2} (hl : s.1.length < N) (hb : s.1.length <= 1000) (hk : ∀ x ∈ s.1, x.2.2.2.1.length < N /\ x.2.2.2.1.length <= 1000) : z1z N s s = some true := by
  rw [z1z, z2z, z2y]
  simp only [bne_self_eq_false, cond_false]
  rw [z52]
  refine (z8k (fun v => ∃ (i : Nat), v = (i : Int) /\ i <= s.1.length) (fun v => s.1.length - v.toNat) (fun v => some true) ?_ N 0 ⟨0, rfl, Nat.zero_le _⟩ (by simpa using hl))
  rintro v r ⟨i, rfl, hi⟩ hr
  rw [z2u]
  rcases Nat.lt_or_ge i s.1.length with hlt | hge
  . rw [z3b (zjr (by omega)), z2x]
    rw [show (([] : List UInt8), ((0 : Int), ((0 : Int), (([] : List (Int × (List UInt8 × Unit))), ())))) = zb6 from rfl]
    simp only [z7m hlt, cond_true, z62 (show i < 9223372036854775807 by omega), Int.toNat_natCast]
    have hm := hk _ (zr9 s.1 zb6 i hlt)
    generalize s.1.getD i zb6 = t at hm
    rw [z2w, z2v]
    simp only [bne_self_eq_false, beq_self_eq_true, Bool.not_true, cond_false]
    rw [z51]
    refine (z8k (fun v => ∃ (k : Nat), v = (k : Int) /\ k <= t.2.2.2.1.length) (fun v => t.2.2.2.1.length - v.toNat) (fun v => some true) ?_ N 0 ⟨0, rfl, Nat.zero_le _⟩ (by simpa using hm.1))
    rintro v r' ⟨k, rfl, hk'⟩ hr'
    rw [z2t]
    rcases Nat.lt_or_ge k t.2.2.2.1.length with hlt' | hge'
    . rw [z3b (zjr (by omega))]
      simp only [z7m hlt', cond_true, z62 (show k < 9223372036854775807 by omega), Int.toNat_natCast]
      refine (z3c (congrArg not (zwb (t := T.pair (T.int IntKind.i64) (T.pair T.str T.unit)) rfl (t.2.2.2.1.getD k ((0 : Int), (([] : List UInt8), ()))))) _ _).trans ?_
      exact hr' _ ⟨k + 1, rfl, by omega⟩ (by simp; omega)
    . rw [z3c (ze4 (by omega))]
      exact hr _ ⟨i + 1, rfl, by omega⟩ (by simp; omega)
  . rw [z3c (ze4 (by omega))]

theorem ztf (k : Nat) (s : zn2) (e : EvD) : z1l (k + 300) s e = some true := by
  rw [z1l, z2j, z2i, zw7 _ (by omega), Option.bind_some]
  cases hg : (decide (20 < s.1.length) || s.1.any zyy) with
  | true => rw [cond_true, cond_true, zcb, Option.bind_some]
  | false =>
    rw [cond_false, zmh _ (by omega), Option.bind_some]
    cases hr : z8u s with
    | false => rw [Bool.not_false, cond_true, zcb, Option.bind_some]
    | true =>
      rw [Bool.not_true, cond_false, zsp _ (by omega), Option.bind_some]
      rcases zwl (s := s) (e := e) with ⟨hz, _, hf, hc, hy⟩ | ⟨hz, hy⟩
      . obtain ⟨c1, c2, c3, c4⟩ := zol hr hf hc
        rw [<- hy] at c1 c2 c3 c4
        rw [hz, bne_self_eq_false, cond_false]
        generalize (zfi s e).1 = t at c1 c2 c3 c4
        obtain ⟨r1, r2, r3⟩ := z7x.1 hr
        obtain ⟨t1, t2, t3⟩ := z7x.1 c1
        rw [z2h, z2g, zmh _ (by omega), Option.bind_some, c1, Bool.not_true, cond_false, z3c (ze4 (by omega)), decide_eq_false (show ¬ ((t.1.length : Nat) : Int) < ((s.1.length : Nat) : Int) by omega), cond_false, z4d]
        rw [zcb, Option.bind_some]
        refine (z8k (fun v => ∃ (i : Nat), v = (i : Int) /\ i <= s.1.length) (fun v => s.1.length - v.toNat) (fun v => some true) ?_ (k + 300) 0 ⟨0, rfl, Nat.zero_le _⟩ (by simp; omega))
        rintro v r ⟨i, rfl, hi⟩ hrec
        rw [z2b]
        rcases Nat.lt_or_ge i s.1.length with hlt | hge
        . have hx := zr9 s.1 zb6 i hlt
          obtain ⟨y, y1, y2, y3, y4, y5⟩ := c4 _ hx
          obtain ⟨j, j1, j2, j3⟩ := zut (i := 0) t3 y y1
          rw [y2, Nat.zero_add] at j1
          have e1 := hrec _ ⟨i + 1, rfl, by omega⟩ (by simp; omega)
          rw [z3b (zjr (by omega)), z2f, show (([] : List UInt8), ((0 : Int), ((0 : Int), (([] : List (Int × (List UInt8 × Unit))), ())))) = zb6 from rfl, zo8 _ (by omega) (by omega), z62 (show i < 9223372036854775807 by omega), e1]
          simp only [z7m hlt, cond_true, Int.toNat_natCast]
          rw [j1, Option.bind_some, z2e, z2d, z2c, show (([] : List UInt8), ((0 : Int), ((0 : Int), (([] : List (Int × (List UInt8 × Unit))), ())))) = zb6 from rfl]
          simp only [z7m hlt, z7m j2, cond_true, Int.toNat_natCast, j3]
          rw [z3c (ze4 (by omega)), z3c (ze4 (by omega)), z3c (ze4 (by omega)), decide_eq_false (show ¬ y.2.2.1 < (s.1.getD i zb6).2.2.1 by omega), cond_false]
          by_cases hn : (s.1.getD i zb6).1 = e.2.1
          . rw [hn, beq_self_eq_true]; rfl
          . have hs := zbb (zce r3 _ hx)
            rw [beq_eq_false_iff_ne.2 hn, Bool.not_false, cond_true, y5 hn, ztc _ (by simp) (by simp) (fun x hx' => by rw [List.mem_singleton.1 hx']; omega)]
            rfl
        . rw [z3c (ze4 (by omega))]
      . rw [hy]
        rw [z3b (bne_iff_ne.2 (by rw [<- hy]; exact hz)), zcb]
        rfl

end
end Go.Proofs.YtobbmaplbpdniaaLg
