import Derived.Test.YtobbmaplbpdniaaLgPrRp6
import Derived.Laws.ResultCell
import Derived.WalkKit
import Derived.Tactics
import Derived.Tactics2
import Derived.Defers
import Derived.Lib.Hide
import Derived.Below
import Derived.WalkSmall
import Derived.LoopN
import Derived.Deep.RegionHeld3
import Derived.Deep.Cut
import Derived.KernelRfl
import Derived.Laws.Rows
import Derived.Test.YtobbmaplbpdniaaChecked
import Derived.Test.YtobbmaplbpdniaaLgPrRp4
set_option linter.all false
set_option maxRecDepth 100000
namespace Go.Proofs.YtobbmaplbpdniaaLg
noncomputable section
open Go Go.Lift Go.Proofs

abbrev EvT : T := .pair (.int .i64) (.pair .str (.pair (.int .i64) (.pair (.int .i64) (.pair .str .unit))))

theorem z17i {S : Hp} {e : EvT.den} {v : Value} (h : VR S EvT e v) : v = evV e.1 e.2.1 e.2.2.1 e.2.2.2.1 e.2.2.2.2.1 := by
  obtain ⟨cs, rfl, d1, d2, q1, k1, d3, d4, q2, k2, d5, d6, q3, k3, d7, d8, q4, k4, d9, d10, q5, k5, k6⟩ := h
  have i1 : d1 = [.int .i64 e.1] := k1
  have i2 : d3 = [.string ⟨⟨e.2.1⟩⟩] := k2
  have i3 : d5 = [.int .i64 e.2.2.1] := k3
  have i4 : d7 = [.int .i64 e.2.2.2.1] := k4
  have i5 : d9 = [.string ⟨⟨e.2.2.2.2.1⟩⟩] := k5
  have i6 : d10 = [] := k6
  unfold evV
  congr 1
  apply Array.toList_inj.1
  rw [q1, q2, q3, q4, q5, i1, i2, i3, i4, i5, i6]
  rfl

theorem z106 (N : Nat) {W : World} {S : Hp} (hS : Lift.Sub S (hp W)) {s : StT.den} {v : Value} {y : Bool} (hv : VR S StT s v) (hy : z6o N s = some y) :
    Calls Go.Proofs.Try.prog 10 #[v] W fun r w' => r = .returned (.bool y) /\ W.grownBy w' none := by
  refine ((zex N).2 W S _ _ _ (zd3 [(.v StT s, v)] (fun p hp => by rw [List.mem_singleton.1 hp]; exact ⟨⟨hv, rfl⟩, rfl⟩)) hS (zfs S) _ hy).mono ?_
  intro e w' he
  obtain ⟨v, o, S', rfl, hr, hc⟩ := zn8 he
  exact ⟨by rw [VR.bool_inv hr.1], hc⟩

theorem z137 (N : Nat) {W : World} {S : Hp} (hS : Lift.Sub S (hp W)) {e : EvT.den} {v : Value} {y : Bool} (hv : VR S EvT e v) (hy : zdp N e = some y) :
    Calls Go.Proofs.Try.prog 12 #[v] W fun r w' => r = .returned (.bool y) /\ W.grownBy w' none := by
  refine ((zvr N).2 W S _ _ _ (zd3 [(.v EvT e, v)] (fun p hp => by rw [List.mem_singleton.1 hp]; exact ⟨⟨hv, rfl⟩, rfl⟩)) hS (zfs S) _ hy).mono ?_
  intro e w' he
  obtain ⟨v, o, S', rfl, hr, hc⟩ := zn8 he
  exact ⟨by rw [VR.bool_inv hr.1], hc⟩

def zdq (N : Nat) (s : StT.den) (e : EvT.den) : Option (StT.den × (Int × Unit)) :=
 (z6o N s).bind fun r =>
 if r = false then some (([], (0, ())), (7, ()))
 else (zdp N e).bind fun f =>
 if f = false then some (([], (0, ())), (2, ()))
 else if s.1.length <= 16 /\ (s.1.all fun t => decide (t.2.2.2.1.length < 256)) = true then
 (zrq N s e.1 e.2.1 e.2.2.1 e.2.2.2.1 e.2.2.2.2.1).bind fun y => if y.1 = 0 then some (y.2, (0, ())) else some (([], (0, ())), (y.1, ()))
 else none

def zk3 (N : Nat) : List A -> Res := z2r [(0, .v StT), (0, .v EvT)] (fun x => zdq N x.1 x.2.1) (zfe (.tup [StT, (.int .i64)]) 2)

theorem z12d {w w' : World} {S : Hp} {vals : List Value} {ob : Nat -> List Nat} {z : z2b [(0, .v StT), (0, .v EvT)]} {x : StT.den} {e : Int} {v : Value} (hS : Lift.Sub S (hp w)) (hob : ∀ i, ob i = []) (hwf : WF w (fun j => w.heap.size <= j) w')
    (hv : VR (fun k => if w.heap.size <= k then hp w' k else S k) StT x v) :
    Lift.Ends w S (mkS [(0, .v StT), (0, .v EvT)] 0 z) vals ob (zfe (.tup [StT, (.int .i64)]) 2 (x, (e, ()))).1 (zfe (.tup [StT, (.int .i64)]) 2 (x, (e, ()))).2 (.returned (.tuple #[v, .int .i64 e])) w' := by
  have hsome : ∀ k o, S k = some o -> k < w.heap.size := fun k o hk => (Array.getElem?_eq_some_iff.1 (show w.heap[k]? = some o from hS k o hk)).1
  have hSw : Lift.Sub S (hp w') := fun k o hk => by
    have h := hwf.same k (hsome k o hk) (by have := hsome k o hk; omega)
    simp only [hp]
    rw [h]
    exact hS k o hk
  refine ⟨_, fun k => if w.heap.size <= k then hp w' k else S k, [], ob, rfl, ⟨hwf.size, fun k hk _ => hwf.same k hk (by omega), hwf.tape, hwf.os, hwf.output⟩, fun k o hk => ?_, fun k o hk => ?_, fun k hk => ?_, ⟨⟨rfl, _, rfl, .cons hv (.cons VR.int .nil)⟩, rfl⟩, (fun k hk => by cases hk), .nil, ?_, ?_, ?_, ?_, fun i hi => hi⟩
  . dsimp only
    rw [if_neg (by have := hsome k o hk; omega)]
    exact hk
  . dsimp only at hk
    split at hk
    . exact hk
    . exact hSw k o hk
  . dsimp only at hk
    split at hk
    . exact .inr (.inr (by assumption))
    . exact .inl hk
  . intro i z hz hbx
    match i with
    | 0 => simp [mkS, zhx, AS.mk] at hz; subst hz; cases hbx
    | 1 => simp [mkS, zhx, AS.mk] at hz; subst hz; cases hbx
    | i + 2 => simp [mkS, zhx] at hz
  . intro i k hk
    rw [hob i] at hk; cases hk
  . intro i j k hi
    rw [hob i] at hi; cases hi
  . intro i
    rw [hob i]; exact .nil

theorem zx2 (S : Hp) : VR S StT ([], (0, ())) (.agg #[.slice none 0 0, .int .i64 0]) := zys (VR.of_one rfl ⟨none, 0, rfl, Nat.le_refl _, .inl rfl⟩)

theorem zob {w W : World} {B : Nat -> Prop} {q : Nat} (h : WF w B W) (hq : B q) (i : Nat) (v : Value) : WF w B (W.setCell ⟨q, i, none⟩ v) := by
  have g := z2i (w := W) (g := q) (i := i) v
  exact ⟨Nat.le_trans h.size g.size, fun k hk hn => (g.block k (Nat.lt_of_lt_of_le hk h.size) (fun e => hn (by cases e; exact hq))).trans (h.same k hk hn), g.tape.trans h.tape, g.os.trans h.os, g.output.trans h.output⟩

theorem znc {W : World} {qr : Nat} {v : Value} {ser c : Int} {tmps : Array Value} (h4 : tmps.getD 4 undef = .pointer (some ⟨qr, 0, none⟩)) (h5 : tmps.getD 5 undef = .int .i64 c) (h : RowAt W qr [v, .int .i64 ser] 24) :
    (results Go.Proofs.Try.f8 tmps).run Go.Proofs.Try.prog W = .ok (.tuple #[.agg #[v, .int .i64 ser], .int .i64 c]) W := by
  have c0 := h.cell (i := 0) rfl
  have c1 := h.cell (i := 1) rfl
  rw [results_cell_tmp rfl, h4, h5]
  simp [asAddr, Go.loadVar, go_sem, c0, c1]

set_option maxHeartbeats 30000000 in
theorem zuh (N : Nat) : Contract Go.Proofs.Try.prog z10 8 (zk3 N) := by
  refine Contract.hand ⟨_, Go.Proofs.Try.func8, by kernel_rfl, by decide⟩ ?_
  intro w S vals ob x y har hS hg hy
  obtain ⟨s, e, u⟩ := x
  cases u
  dsimp only at hy
  obtain ⟨⟨v0, hv0, hA0, ho0⟩, _⟩ := har.rel 0 _ rfl
  obtain ⟨⟨v1, hv1, hA1, ho1⟩, _⟩ := har.rel 1 _ rfl
  have hvals : vals = [v0, v1] := by
    match vals, har.len, hv0, hv1 with
    | [a, b], _, h1, h2 => simp at h1 h2; rw [h1, h2]
  subst hvals
  have hob : ∀ i, ob i = [] := by
    intro i
    match i with
    | 0 => exact ho0
    | 1 => exact ho1
    | i + 2 => exact har.out _ (by simp [mkS, zhx])
  suffices HX : ∀ R : Ending -> World -> Prop, Go.RowKit.Hid (∀ (st : StT.den) (c : Int) (v : Value) (w' : World), y = (st, (c, ())) -> WF w (fun j => w.heap.size <= j) w' -> VR (fun k => if w.heap.size <= k then hp w' k else S k) StT st v -> R (.returned (.tuple #[v, .int .i64 c])) w') -> Calls Go.Proofs.Try.prog 8 #[v0, v1] w R from
    HX _ (Go.Lib.hid (fun st c v w' h1 h2 h3 => by rw [h1]; exact z12d hS hob h2 h3))
  intro R HR
  unfold zdq at hy
  obtain ⟨r, hr, hy⟩ := Option.bind_eq_some_iff.1 hy
  have he := z17i hA1
  obtain ⟨ts, ser, u⟩ := s
  cases u
  obtain ⟨sv, rfl, hsv⟩ := z11o hA0
  have hev := hA1
  subst he
  unfold evV at hev ⊢
  have hcr := fun W (h : Lift.Sub S (hp W)) => z106 N (W := W) h hA0 hr
  have HC := Go.Lib.hid hcr
  clear har hv0 hv1 hcr
  go_enter Go.Proofs.Try.func8, Go.Proofs.Try.ntmps8
  go_upto_region 1 with (fail)
  have ha0 : RowAt (((w.alloc (Obj.cells #[sv, .int .i64 ser] 24)).alloc (Obj.cells #[.int .i64 e.1, .string ⟨⟨e.2.1⟩⟩, .int .i64 e.2.2.1, .int .i64 e.2.2.2.1, .string ⟨⟨e.2.2.2.2.1⟩⟩] 26)).alloc (Obj.cells #[.slice none 0 0, .int .i64 0] 24)) w.heap.size [sv, .int .i64 ser] 24 := ((RowAt.new w [sv, .int .i64 ser] 24).alloc _).alloc _
  have ha1 : RowAt (((w.alloc (Obj.cells #[sv, .int .i64 ser] 24)).alloc (Obj.cells #[.int .i64 e.1, .string ⟨⟨e.2.1⟩⟩, .int .i64 e.2.2.1, .int .i64 e.2.2.2.1, .string ⟨⟨e.2.2.2.2.1⟩⟩] 26)).alloc (Obj.cells #[.slice none 0 0, .int .i64 0] 24)) (w.heap.size + 1) [.int .i64 e.1, .string ⟨⟨e.2.1⟩⟩, .int .i64 e.2.2.1, .int .i64 e.2.2.2.1, .string ⟨⟨e.2.2.2.2.1⟩⟩] 26 := by
    have h := (RowAt.new (w.alloc (Obj.cells #[sv, .int .i64 ser] 24)) [.int .i64 e.1, .string ⟨⟨e.2.1⟩⟩, .int .i64 e.2.2.1, .int .i64 e.2.2.2.1, .string ⟨⟨e.2.2.2.2.1⟩⟩] 26).alloc (Obj.cells #[.slice none 0 0, .int .i64 0] 24)
    simpa using h
  have ha2 : RowAt (((w.alloc (Obj.cells #[sv, .int .i64 ser] 24)).alloc (Obj.cells #[.int .i64 e.1, .string ⟨⟨e.2.1⟩⟩, .int .i64 e.2.2.1, .int .i64 e.2.2.2.1, .string ⟨⟨e.2.2.2.2.1⟩⟩] 26)).alloc (Obj.cells #[.slice none 0 0, .int .i64 0] 24)) (w.heap.size + 1 + 1) [.slice none 0 0, .int .i64 0] 24 := by
    have h := RowAt.new ((w.alloc (Obj.cells #[sv, .int .i64 ser] 24)).alloc (Obj.cells #[.int .i64 e.1, .string ⟨⟨e.2.1⟩⟩, .int .i64 e.2.2.1, .int .i64 e.2.2.2.1, .string ⟨⟨e.2.2.2.2.1⟩⟩] 26)) [.slice none 0 0, .int .i64 0] 24
    simpa using h
  have hag : w.grownBy (((w.alloc (Obj.cells #[sv, .int .i64 ser] 24)).alloc (Obj.cells #[.int .i64 e.1, .string ⟨⟨e.2.1⟩⟩, .int .i64 e.2.2.1, .int .i64 e.2.2.2.1, .string ⟨⟨e.2.2.2.2.1⟩⟩] 26)).alloc (Obj.cells #[.slice none 0 0, .int .i64 0] 24)) none := ((World.grownBy_alloc w _ none).trans38 (World.grownBy_alloc _ _ none)).trans38 (World.grownBy_alloc _ _ none)
  obtain ⟨A3, hA3⟩ : ∃ A3, A3 = (((w.alloc (Obj.cells #[sv, .int .i64 ser] 24)).alloc (Obj.cells #[.int .i64 e.1, .string ⟨⟨e.2.1⟩⟩, .int .i64 e.2.2.1, .int .i64 e.2.2.2.1, .string ⟨⟨e.2.2.2.2.1⟩⟩] 26)).alloc (Obj.cells #[.slice none 0 0, .int .i64 0] 24)) := ⟨_, rfl⟩
  rw [<- hA3] at ha0 ha1 ha2 hag ⊢
  clear hA3
  obtain ⟨es, hes⟩ : ∃ es, es = w.heap.size + 1 := ⟨_, rfl⟩
  rw [<- hes] at ha1 ha2 ⊢
  obtain ⟨qr, hqr⟩ : ∃ qr, qr = es + 1 := ⟨_, rfl⟩
  rw [<- hqr] at ha2 ⊢
  obtain ⟨s0, hs0⟩ : ∃ s0, s0 = w.heap.size := ⟨_, rfl⟩
  rw [<- hs0] at ha0 ⊢
  have HSZ := Go.Lib.hid (And.intro hs0 (And.intro hes hqr))
  clear hs0 hes hqr
  have hcr := HC.out A3 (z5w hS hag)
  have k0 := ha0.cell (i := 0) rfl
  have k1 := ha0.cell (i := 1) rfl
  have HA0 := Go.Lib.hid ha0
  have HA1 := Go.Lib.hid ha1
  have HA2 := Go.Lib.hid ha2
  have HAG := Go.Lib.hid hag
  clear ha0 ha1 ha2 hag
  have hlr : w.heap.size <= qr := by have := HSZ.out; omega
  rcases r with _ | _
  . rw [if_pos rfl] at hy
    cases hy
    go_upto_region 2 with (go_at_call 10; refine hcr.mono ?_; rintro _ w1 ⟨rfl, g1⟩; have HG1 := Go.Lib.hid g1; clear g1 hcr)
    have hq1 := HA2.out.grown HG1.out (by simp)
    have r0 := hq1.cell (i := 0) rfl
    have r1 := hq1.cell (i := 1) rfl
    have f0 := hq1.free (i := 0)
    have f1 := hq1.free (i := 1)
    have hq2 := hq1.set 0 (.slice none 0 0)
    have r1' := hq2.cell (i := 1) rfl
    have f1' := hq2.free (i := 1)
    have hq3 := hq2.set 1 (.int .i64 0)
    have HQ3 := Go.Lib.hid hq3
    clear hq1 hq2 hq3
    go_wp2
    exact bodyPost_ret (znc rfl rfl HQ3.out) rfl (HR.out _ _ _ _ rfl (zob (zob (z6j (HAG.out.trans38 HG1.out) (by simp)) hlr 0 _) hlr 1 _) (zx2 _))
  rw [if_neg (by decide)] at hy
  obtain ⟨f, hf, hy⟩ := Option.bind_eq_some_iff.1 hy
  go_upto_region 3 with (go_at_call 10; refine hcr.mono ?_; rintro _ w1 ⟨rfl, g1⟩; have HG1 := Go.Lib.hid g1; clear g1 hcr)
  have hk1 := HA1.out.grown HG1.out (by simp)
  have m0 := hk1.cell (i := 0) rfl
  have m1 := hk1.cell (i := 1) rfl
  have m2 := hk1.cell (i := 2) rfl
  have m3 := hk1.cell (i := 3) rfl
  have m4 := hk1.cell (i := 4) rfl
  have hcf := z137 N (W := w1) (z5w hS (HAG.out.trans38 HG1.out)) hev hf
  unfold evV at hcf
  have HK1 := Go.Lib.hid hk1
  clear hk1 k0 k1
  rcases f with _ | _
  . rw [if_pos rfl] at hy
    cases hy
    go_upto_region 4 with (go_at_call 12; refine hcf.mono ?_; rintro _ w2 ⟨rfl, g2⟩; have HG2 := Go.Lib.hid g2; clear g2 hcf)
    have hq1 := (HA2.out.grown HG1.out (by simp)).grown HG2.out (by simp)
    have r0 := hq1.cell (i := 0) rfl
    have r1 := hq1.cell (i := 1) rfl
    have f0 := hq1.free (i := 0)
    have f1 := hq1.free (i := 1)
    have hq2 := hq1.set 0 (.slice none 0 0)
    have r1' := hq2.cell (i := 1) rfl
    have f1' := hq2.free (i := 1)
    have hq3 := hq2.set 1 (.int .i64 0)
    have HQ3 := Go.Lib.hid hq3
    clear hq1 hq2 hq3
    go_wp2
    exact bodyPost_ret (znc rfl rfl HQ3.out) rfl (HR.out _ _ _ _ rfl (zob (zob (z6j ((HAG.out.trans38 HG1.out).trans38 HG2.out) (by simp)) hlr 0 _) hlr 1 _) (zx2 _))
  rw [if_neg (by decide)] at hy
  by_cases hlim : ts.length <= 16 /\ (ts.all fun t => decide (t.2.2.2.1.length < 256)) = true
  case neg => rw [if_neg hlim] at hy; cases hy
  rw [if_pos hlim] at hy
  obtain ⟨z, hz, hy⟩ := Option.bind_eq_some_iff.1 hy
  have hk256 : ∀ t ∈ ts, t.2.2.2.1.length < 256 := fun t ht => by simpa using List.all_eq_true.1 hlim.2 t ht
  go_upto_region 5 with (go_at_call 12; refine hcf.mono ?_; rintro _ w2 ⟨rfl, g2⟩; have HG2 := Go.Lib.hid g2; clear g2 hcf)
  have hg2 : w.grownBy w2 none := (HAG.out.trans38 HG1.out).trans38 HG2.out
  have hcc := ztt (w := w2) (ser := ser) (z5w hS hg2) hsv (by omega) (fun t ht => by have := hk256 t ht; omega)
  have k2 := (HA0.out.grown HG1.out (by simp)).grown HG2.out (by simp)
  have k0 := k2.cell (i := 0) rfl
  have k1 := k2.cell (i := 1) rfl
  have HG3 := Go.Lib.hid hg2
  clear k2 hg2 m0 m1 m2 m3 m4
  go_upto_region 6 with (go_at_call 23; refine hcc.mono ?_; rintro _ w3 ⟨b, l, rfl, hl1, hl2, hl3⟩; have HL := Go.Lib.hid (And.intro hl1 (And.intro hl2 hl3)); clear hl1 hl2 hl3 hcc)
  obtain ⟨hl1, hl2, hl3⟩ := HL.out
  have hw23 := hl2.size
  have hbw : b < w3.heap.size := hl3.row.lt
  have hin : ∀ i, (h : i < l.length) -> l[i].1.2.2.2.1.length < 256 := fun i h => hk256 _ (by rw [<- hl1]; exact List.mem_map_of_mem (List.getElem_mem h))
  have HSt : St38 w2.heap.size (w3.alloc (Obj.cells #[.slice (some ⟨b, 0, none⟩) ts.length ts.length, .int .i64 ser] 24)) w3.heap.size b ts.length ser l :=
    ⟨RowAt.new w3 [.slice (some ⟨b, 0, none⟩) ts.length ts.length, .int .i64 ser] 24, hl3.row.alloc _, by rw [<- hl1, List.length_map], by omega, hl3.low, hw23, hlim.1, hin, fun i hi => by
      obtain ⟨kb, e1, e2, e3, e4⟩ := hl3.keys i hi
      exact ⟨kb, e1, e2, e3, by have := e4.lt; omega, e4.alloc _⟩, hl3.apart⟩
  have hch := zy6 N HSt (y := z) (by rw [hl1]; exact hz)
  unfold evV at hch
  have hg36 : w2.grownBy (w3.alloc (Obj.cells #[.slice (some ⟨b, 0, none⟩) ts.length ts.length, .int .i64 ser] 24)) none := hl2.trans38 (World.grownBy_alloc w3 _ none)
  have hk6 := (HK1.out.grown HG2.out (by simp)).grown hg36 (by simp)
  have hq6 := ((HA2.out.grown HG1.out (by simp)).grown HG2.out (by simp)).grown hg36 (by simp)
  have hqlt := ((HA2.out.grown HG1.out (by simp)).grown HG2.out (by simp)).lt
  obtain ⟨A6, hA6⟩ : ∃ A6, A6 = w3.alloc (Obj.cells #[.slice (some ⟨b, 0, none⟩) ts.length ts.length, .int .i64 ser] 24) := ⟨_, rfl⟩
  rw [<- hA6] at hch hg36 hk6 hq6 HSt ⊢
  clear hA6
  obtain ⟨qa, hqa⟩ : ∃ qa, qa = w3.heap.size := ⟨_, rfl⟩
  rw [<- hqa] at hch HSt ⊢
  clear hqa
  have m0 := hk6.cell (i := 0) rfl
  have m1 := hk6.cell (i := 1) rfl
  have m2 := hk6.cell (i := 2) rfl
  have m3 := hk6.cell (i := 3) rfl
  have m4 := hk6.cell (i := 4) rfl
  have HQ6 := Go.Lib.hid hq6
  have HG6 := Go.Lib.hid (HG3.out.trans38 hg36)
  clear hq6 hk6 hg36 HSt hl1 hl2 hl3 hin k0 k1
  have hwle : w.heap.size <= w2.heap.size := HG3.out.size
  go_upto_region 7 with (go_at_call 24; refine hch.mono ?_; rintro _ w4 ⟨rfl, g4, q4⟩; have H4 := Go.Lib.hid (And.intro g4 q4); clear g4 q4 hch)
  obtain ⟨g4, q4⟩ := H4.out
  have hw4 : WF w (fun j => w.heap.size <= j) w4 := ⟨Nat.le_trans HG6.out.size g4.size, fun j hj hn => (g4.same j (Nat.lt_of_lt_of_le hj HG6.out.size) (by omega)).trans (HG6.out.block j hj (by simp)), g4.tape.trans HG6.out.tape, g4.os.trans HG6.out.os, g4.output.trans HG6.out.output⟩
  have hq1 : RowAt w4 qr [.slice none 0 0, .int .i64 0] 24 := by
    have h := HQ6.out
    unfold RowAt at *
    rw [g4.same qr (Array.getElem?_eq_some_iff.1 h).1 (by omega)]
    exact h
  have HW4 := Go.Lib.hid hw4
  have HQ4 := Go.Lib.hid q4
  clear g4 q4 hw4
  by_cases gz : z.1 = 0
  . rw [if_pos gz] at hy
    cases hy
    obtain ⟨v, v1, v2⟩ := HQ4.out gz
    obtain ⟨va, vc, _, rfl, _⟩ := zvb (v2 (hp w4) (fun _ _ => rfl))
    have n0 := v1.cell (i := 0) rfl
    have n1 := v1.cell (i := 1) rfl
    have r0 := hq1.cell (i := 0) rfl
    have r1 := hq1.cell (i := 1) rfl
    have f0 := hq1.free (i := 0)
    have f1 := hq1.free (i := 1)
    have hq2 := hq1.set 0 (.slice va z.2.1.length vc)
    have r1' := hq2.cell (i := 1) rfl
    have f1' := hq2.free (i := 1)
    have hq3 := hq2.set 1 (.int .i64 z.2.2.1)
    have HQ3 := Go.Lib.hid hq3
    have HV := Go.Lib.hid v2
    rw [gz] at *
    clear hq1 hq2 hq3 v1 v2 m0 m1 m2 m3 m4
    go_wp2
    refine bodyPost_ret (znc rfl rfl HQ3.out) rfl (HR.out _ _ _ _ rfl (zob (zob HW4.out hlr 0 _) hlr 1 _) (zys (HV.out _ (fun j hj => ?_))))
    rw [if_pos (by omega)]
    have hne : qr ≠ j := by omega
    simp only [hp]
    rw [heap_setCell_other _ ⟨qr, 1, none⟩ j _ (Ne.symm hne), heap_setCell_other _ ⟨qr, 0, none⟩ j _ (Ne.symm hne)]
  . rw [if_neg gz] at hy
    cases hy
    have r0 := hq1.cell (i := 0) rfl
    have r1 := hq1.cell (i := 1) rfl
    have f0 := hq1.free (i := 0)
    have f1 := hq1.free (i := 1)
    have hq2 := hq1.set 0 (.slice none 0 0)
    have r1' := hq2.cell (i := 1) rfl
    have f1' := hq2.free (i := 1)
    have hq3 := hq2.set 1 (.int .i64 0)
    have HQ3 := Go.Lib.hid hq3
    clear hq1 hq2 hq3 m0 m1 m2 m3 m4
    go_wp2
    exact bodyPost_ret (znc rfl rfl HQ3.out) rfl (HR.out _ _ _ _ rfl (zob (zob HW4.out hlr 0 _) hlr 1 _) (zx2 _))

def zdo (N : Nat) (s : StT.den) : Option StT.den :=
 if s.1.length <= 1000 /\ (s.1.all fun t => decide (t.2.2.2.1.length <= 1000)) = true then some s else none

def zjx (N : Nat) : List A -> Res := z2r [(0, .v StT)] (fun x => zdo N x.1) (zfe (.v StT) 1)

theorem z12u {w w' : World} {b : Nat} {l : List (TenT.den × Value)} (h : Laid w w' b l) {S : Hp} (hS : ∀ j, w.heap.size <= j -> S j = w'.heap[j]?) : VR S (.sl TenT) (l.map (·.1)) (.slice (some ⟨b, 0, none⟩) l.length l.length) :=
  zif (lo := w.heap.size) (w := w') (sp := []) (by rw [List.append_nil]; exact h.row) h.low (Nat.le_refl _) (fun p hp => by
    obtain ⟨i, hi, rfl⟩ := List.getElem_of_mem hp
    obtain ⟨kb, e1, e2, e3, e4⟩ := h.keys i hi
    exact .inr ⟨kb, _, [], e1, Nat.le_refl _, e2, by rw [List.append_nil]; exact e4⟩) hS

theorem zu6 (N : Nat) : Contract Go.Proofs.Try.prog z10 23 (zjx N) := by
  refine Contract.hand ⟨_, Go.Proofs.Try.func23, by kernel_rfl, by decide⟩ ?_
  intro w S vals ob x y har hS hg hy
  obtain ⟨s, u⟩ := x
  cases u
  dsimp only at hy
  obtain ⟨⟨v0, hv0, hA0, ho0⟩, _⟩ := har.rel 0 _ rfl
  have hvals : vals = [v0] := by
    match vals, har.len, hv0 with
    | [a], _, h1 => simp at h1; rw [h1]
  subst hvals
  have hob : ∀ i, ob i = [] := by
    intro i
    match i with
    | 0 => exact ho0
    | i + 1 => exact har.out _ (by simp [mkS, zhx])
  unfold zdo at hy
  by_cases hlim : s.1.length <= 1000 /\ (s.1.all fun t => decide (t.2.2.2.1.length <= 1000)) = true
  case neg => rw [if_neg hlim] at hy; cases hy
  rw [if_pos hlim] at hy
  obtain rfl : s = y := Option.some.inj hy
  obtain ⟨ts, ser, u⟩ := s
  cases u
  obtain ⟨sv, rfl, hsv⟩ := z11o hA0
  have hk : ∀ t ∈ ts, t.2.2.2.1.length <= 1000 := fun t ht => by simpa using List.all_eq_true.1 hlim.2 t ht
  refine (ztt (ser := ser) hS hsv hlim.1 hk).mono ?_
  rintro _ w' ⟨b, l, rfl, hl1, hl2, hl3⟩
  have hsome : ∀ k o, S k = some o -> k < w.heap.size := fun k o hk => (Array.getElem?_eq_some_iff.1 (show w.heap[k]? = some o from hS k o hk)).1
  have hSw := z5w hS hl2
  have hv : VR (fun k => if w.heap.size <= k then hp w' k else S k) StT (ts, (ser, ())) (.agg #[.slice (some ⟨b, 0, none⟩) ts.length ts.length, .int .i64 ser]) := by
    refine zys ?_
    have h := z12u hl3 (S := fun k => if w.heap.size <= k then hp w' k else S k) (fun j hj => if_pos hj)
    have e : l.length = ts.length := by rw [<- hl1, List.length_map]
    rw [hl1, e] at h
    exact h
  refine ⟨_, fun k => if w.heap.size <= k then hp w' k else S k, [], ob, rfl, ⟨hl2.size, fun k hk _ => hl2.block k hk (by simp), hl2.tape, hl2.os, hl2.output⟩, fun k o hk => ?_, fun k o hk => ?_, fun k hk => ?_, ⟨⟨hv, rfl⟩, rfl⟩, (fun k hk => by cases hk), .nil, ?_, ?_, ?_, ?_, fun i hi => hi⟩
  . dsimp only
    rw [if_neg (by have := hsome k o hk; omega)]
    exact hk
  . dsimp only at hk
    split at hk
    . exact hk
    . exact hSw k o hk
  . dsimp only at hk
    split at hk
    . exact .inr (.inr (by assumption))
    . exact .inl hk
  . intro i z hz hbx
    match i with
    | 0 => simp [mkS, zhx, AS.mk] at hz; subst hz; cases hbx
    | i + 1 => simp [mkS, zhx] at hz
  . intro i k hk
    rw [hob i] at hk; cases hk
  . intro i j k hi
    rw [hob i] at hi; cases hi
  . intro i
    rw [hob i]; exact .nil

end
end Go.Proofs.YtobbmaplbpdniaaLg

set_option linter.all false
set_option maxRecDepth 100000
namespace Go.Proofs.YtobbmaplbpdniaaLg
noncomputable section
open Go Go.Lift

def zez : Code := (Go.Proofs.Try.f15.body).getD .skip

def znk : List (List Nat × List Nat) := [([0], [2, 4, 1]), ([0, 0, 1], [12, 4, 2, 1]), ([1, 0, 1], [2, 1, 4]), ([0, 0, 1, 0, 1], [4, 5]), ([1, 0, 1, 0, 1], [4, 5]), ([0, 1, 1], [1, 6, 4]), ([0, 0, 1, 1, 1], [18, 17, 16, 6, 4]), ([0, 1, 0, 1, 1, 1], [18, 17, 16, 6, 4]), ([0, 0, 0, 1, 0, 1, 1, 1], [19, 16, 18, 6, 4, 17]), ([0, 1, 0, 0, 1, 0, 1, 1, 1], [16, 18, 6, 4, 17]), ([1, 0, 1, 0, 0, 1, 0, 1, 1, 1], [6, 4]), ([0, 0, 0, 1, 1, 0, 0, 1, 0, 1, 1, 1], [6, 8, 4, 18, 17, 16]), ([0, 1, 0, 0, 1, 1, 0, 0, 1, 0, 1, 1, 1], [6, 8, 4, 18, 17, 16]), ([0, 1, 1, 0, 0, 1, 1, 0, 0, 1, 0, 1, 1, 1], [9, 4, 18, 17, 16, 6]), ([0, 1, 1, 1, 0, 0, 1, 1, 0, 0, 1, 0, 1, 1, 1], [29, 9, 4, 18, 17, 16, 6]), ([1, 1, 1, 1, 0, 0, 1, 1, 0, 0, 1, 0, 1, 1, 1], [18, 17, 16, 6, 4]), ([0, 0, 1, 1, 1, 1, 0, 0, 1, 1, 0, 0, 1, 0, 1, 1, 1], [4, 5]), ([1, 0, 1, 1, 1, 1, 0, 0, 1, 1, 0, 0, 1, 0, 1, 1, 1], [4, 5]), ([0, 1, 1, 0, 0, 1, 0, 1, 1, 1], [18, 17, 16, 6, 4]), ([1, 1, 1, 0, 0, 1, 0, 1, 1, 1], [18, 17, 16, 6, 4]), ([1, 0, 1, 1, 1], [6, 4]), ([0, 1, 1, 1, 1], [4, 5]), ([1, 1, 1, 1, 1], [4, 5])]

def zia (N : Nat) : Env := z4w tys z10 [(8, zk3 N), (10, zd6 N), (23, zjx N)] [] [] [] false [] []

theorem zvt (N : Nat) : EnvOk Go.Proofs.Try.prog (zia N) := z1e mixed z2n (FnsOk.cons (zuh N) (FnsOk.cons (zex N) (FnsOk.cons (zu6 N) (FnsOk.nil)))) (ItsOk.nil)

def zkm (N : Nat) (x4 : ((List ((List UInt8) × (Int × (Int × ((List (Int × ((List UInt8) × Unit))) × Unit))))) × (Int × Unit))) (x16 : (List (Int × ((List UInt8) × (Int × (Int × ((List UInt8) × Unit))))))) (x17 : Int) (after : ((List ((List UInt8) × (Int × (Int × ((List (Int × ((List UInt8) × Unit))) × Unit))))) × (Int × Unit))) (x18 : Int) (rec : ((List ((List UInt8) × (Int × (Int × ((List (Int × ((List UInt8) × Unit))) × Unit))))) × (Int × Unit)) -> Int -> Option (((List ((List UInt8) × (Int × (Int × ((List (Int × ((List UInt8) × Unit))) × Unit))))) × (Int × Unit)) × Int × Unit)) (k0 : ((List ((List UInt8) × (Int × (Int × ((List (Int × ((List UInt8) × Unit))) × Unit))))) × (Int × Unit)) -> Int -> Option (((List ((List UInt8) × (Int × (Int × ((List (Int × ((List UInt8) × Unit))) × Unit))))) × (Int × Unit)) × Int × Unit)) (k1 : ((List ((List UInt8) × (Int × (Int × ((List (Int × ((List UInt8) × Unit))) × Unit))))) × (Int × Unit)) -> Option (((List ((List UInt8) × (Int × (Int × ((List (Int × ((List UInt8) × Unit))) × Unit))))) × (Int × Unit)) × Int × Unit)) : Option (((List ((List UInt8) × (Int × (Int × ((List (Int × ((List UInt8) × Unit))) × Unit))))) × (Int × Unit)) × Int × Unit) :=
 cond (decide (x18 < x17))
 (cond (Go.Lift.inR x18 (List.length x16))
 ((zdq N after (List.getD x16 (Int.toNat x18) ((0 : Int), (([] : List UInt8), ((0 : Int), ((0 : Int), (([] : List UInt8), ()))))))).bind fun y =>
 cond (y.2.1 != (0 : Int))
 (k0 (([] : List ((List UInt8) × (Int × (Int × ((List (Int × ((List UInt8) × Unit))) × Unit))))), ((0 : Int), ())) y.2.1)
 (rec y.1 (Go.IntKind.wrap Go.IntKind.i64 (x18 + (1 : Int)))))
 (none))
 (k1 after)

def zqi (N : Nat) (x4 : ((List ((List UInt8) × (Int × (Int × ((List (Int × ((List UInt8) × Unit))) × Unit))))) × (Int × Unit))) (after : ((List ((List UInt8) × (Int × (Int × ((List (Int × ((List UInt8) × Unit))) × Unit))))) × (Int × Unit))) (x16 : (List (Int × ((List UInt8) × (Int × (Int × ((List UInt8) × Unit))))))) (x17 : Int) (x18 : Int) (k0 : ((List ((List UInt8) × (Int × (Int × ((List (Int × ((List UInt8) × Unit))) × Unit))))) × (Int × Unit)) -> Int -> Option (((List ((List UInt8) × (Int × (Int × ((List (Int × ((List UInt8) × Unit))) × Unit))))) × (Int × Unit)) × Int × Unit)) (k1 : ((List ((List UInt8) × (Int × (Int × ((List (Int × ((List UInt8) × Unit))) × Unit))))) × (Int × Unit)) -> Option (((List ((List UInt8) × (Int × (Int × ((List (Int × ((List UInt8) × Unit))) × Unit))))) × (Int × Unit)) × Int × Unit)) : Option (((List ((List UInt8) × (Int × (Int × ((List (Int × ((List UInt8) × Unit))) × Unit))))) × (Int × Unit)) × Int × Unit) :=
 iter (fun (v : (((List ((List UInt8) × (Int × (Int × ((List (Int × ((List UInt8) × Unit))) × Unit))))) × (Int × Unit)) × Int)) r => zkm N x4 x16 x17 v.1 v.2 (fun after x18 => (r (after, x18))) k0 k1) N (after, x18)

def zqk (N : Nat) (i : (((List ((List UInt8) × (Int × (Int × ((List (Int × ((List UInt8) × Unit))) × Unit))))) × (Int × Unit)) × (List (Int × ((List UInt8) × (Int × (Int × ((List UInt8) × Unit)))))) × Int)) (v : (((List ((List UInt8) × (Int × (Int × ((List (Int × ((List UInt8) × Unit))) × Unit))))) × (Int × Unit)) × Int)) (r : (((List ((List UInt8) × (Int × (Int × ((List (Int × ((List UInt8) × Unit))) × Unit))))) × (Int × Unit)) × Int) -> Option (((List ((List UInt8) × (Int × (Int × ((List (Int × ((List UInt8) × Unit))) × Unit))))) × (Int × Unit)) × Int × Unit)) (K : Ex -> List A -> Option (((List ((List UInt8) × (Int × (Int × ((List (Int × ((List UInt8) × Unit))) × Unit))))) × (Int × Unit)) × Int × Unit)) : Option (((List ((List UInt8) × (Int × (Int × ((List (Int × ((List UInt8) × Unit))) × Unit))))) × (Int × Unit)) × Int × Unit) :=
 zkm N i.1 i.2.1 i.2.2 v.1 v.2 (fun after x18 => (r (after, x18))) (fun a0 a1 => (K .ret (mkS [(4, .box (.pair (.sl (.pair .str (.pair (.int .i64) (.pair (.int .i64) (.pair (.sl (.pair (.int .i64) (.pair .str .unit))) .unit))))) (.pair (.int .i64) .unit))), (0, .v (.int .i64))] 28 (a0, a1, ())))) (fun a1 => (K (.exit 0) (mkS [(4, .box (.pair (.sl (.pair .str (.pair (.int .i64) (.pair (.int .i64) (.pair (.sl (.pair (.int .i64) (.pair .str .unit))) .unit))))) (.pair (.int .i64) .unit))), (1, .box (.pair (.sl (.pair .str (.pair (.int .i64) (.pair (.int .i64) (.pair (.sl (.pair (.int .i64) (.pair .str .unit))) .unit))))) (.pair (.int .i64) .unit)))] 27 (i.1, a1, ()))))

def zqj (N : Nat) : Hd (((List ((List UInt8) × (Int × (Int × ((List (Int × ((List UInt8) × Unit))) × Unit))))) × (Int × Unit)) × Int × Unit) := fun st K => (unS [(4, .box (.pair (.sl (.pair .str (.pair (.int .i64) (.pair (.int .i64) (.pair (.sl (.pair (.int .i64) (.pair .str .unit))) .unit))))) (.pair (.int .i64) .unit))), (1, .box (.pair (.sl (.pair .str (.pair (.int .i64) (.pair (.int .i64) (.pair (.sl (.pair (.int .i64) (.pair .str .unit))) .unit))))) (.pair (.int .i64) .unit))), (9, .v (.sl (.pair (.int .i64) (.pair .str (.pair (.int .i64) (.pair (.int .i64) (.pair .str .unit))))))), (0, .v (.int .i64)), (0, .v (.int .i64))] 15 (restr [18, 17, 16, 6, 4] 0 st)).bind fun x => iter (fun v r => zqk N ((fun x => (x.1, x.2.2.1, x.2.2.2.1)) x) v r K) N ((fun x => (x.2.1, x.2.2.2.2.1)) x)

def zxe (N : Nat) : Tab (((List ((List UInt8) × (Int × (Int × ((List (Int × ((List UInt8) × Unit))) × Unit))))) × (Int × Unit)) × Int × Unit) := []

theorem zvs {N : Nat} {c : Ctx} (hb : Base Go.Proofs.Try.prog (zia N) c) : zu Go.Proofs.Try.prog c (zf zez [0, 1, 0, 1, 1, 1]) (zqj N) :=
  z4x (s := [(4, .box (.pair (.sl (.pair .str (.pair (.int .i64) (.pair (.int .i64) (.pair (.sl (.pair (.int .i64) (.pair .str .unit))) .unit))))) (.pair (.int .i64) .unit))), (1, .box (.pair (.sl (.pair .str (.pair (.int .i64) (.pair (.int .i64) (.pair (.sl (.pair (.int .i64) (.pair .str .unit))) .unit))))) (.pair (.int .i64) .unit))), (9, .v (.sl (.pair (.int .i64) (.pair .str (.pair (.int .i64) (.pair (.int .i64) (.pair .str .unit))))))), (0, .v (.int .i64)), (0, .v (.int .i64))]) (m := 15) (zqk N) [18, 17, 16, 6, 4] N (fun x => (x.1, x.2.2.1, x.2.2.2.1)) (fun x => (x.2.1, x.2.2.2.2.1)) (fun i v => (i.1, v.1, i.2.1, i.2.2, v.2, ())) (fun _ => rfl) (z7 hb N (zxe N) znk zez TabOk.nil [0, 0, 1, 0, 1, 1, 1] _ rfl) (fun i v r K => by kernel_rfl)

def zib (N : Nat) (s : ((List ((List UInt8) × (Int × (Int × ((List (Int × ((List UInt8) × Unit))) × Unit))))) × (Int × Unit))) (l : (List (Int × ((List UInt8) × (Int × (Int × ((List UInt8) × Unit))))))) : Option (((List ((List UInt8) × (Int × (Int × ((List (Int × ((List UInt8) × Unit))) × Unit))))) × (Int × Unit)) × Int × Unit) :=
 (z6o N s).bind fun y =>
 cond (!y)
 (some ((([] : List ((List UInt8) × (Int × (Int × ((List (Int × ((List UInt8) × Unit))) × Unit))))), ((0 : Int), ())), ((7 : Int), ())))
 ((zdo N s).bind fun y1 =>
 zqi N (([] : List ((List UInt8) × (Int × (Int × ((List (Int × ((List UInt8) × Unit))) × Unit))))), ((0 : Int), ())) y1 l (((List.length l) : Nat) : Int) (0 : Int)
 (fun x4 x5 => some (x4, (x5, ())))
 (fun after => some (after, ((0 : Int), ()))))

def zt6 (N : Nat) : Tab (((List ((List UInt8) × (Int × (Int × ((List (Int × ((List UInt8) × Unit))) × Unit))))) × (Int × Unit)) × Int × Unit) := [([0, 1, 0, 1, 1, 1], zqj N)]

theorem zui (N : Nat) (x : z2b [(0, .v (.pair (.sl (.pair .str (.pair (.int .i64) (.pair (.int .i64) (.pair (.sl (.pair (.int .i64) (.pair .str .unit))) .unit))))) (.pair (.int .i64) .unit))), (0, .v (.sl (.pair (.int .i64) (.pair .str (.pair (.int .i64) (.pair (.int .i64) (.pair .str .unit)))))))]) : zej (zia N) N (zt6 N) znk Go.Proofs.Try.f15 (mkS [(0, .v (.pair (.sl (.pair .str (.pair (.int .i64) (.pair (.int .i64) (.pair (.sl (.pair (.int .i64) (.pair .str .unit))) .unit))))) (.pair (.int .i64) .unit))), (0, .v (.sl (.pair (.int .i64) (.pair .str (.pair (.int .i64) (.pair (.int .i64) (.pair .str .unit)))))))] 0 x) (z5b (.tup [(.pair (.sl (.pair .str (.pair (.int .i64) (.pair (.int .i64) (.pair (.sl (.pair (.int .i64) (.pair .str .unit))) .unit))))) (.pair (.int .i64) .unit)), (.int .i64)]) 2) = zib N x.1 x.2.1 := by kernel_rfl

def zgu (N : Nat) : List A -> Res := z2r [(0, .v (.pair (.sl (.pair .str (.pair (.int .i64) (.pair (.int .i64) (.pair (.sl (.pair (.int .i64) (.pair .str .unit))) .unit))))) (.pair (.int .i64) .unit))), (0, .v (.sl (.pair (.int .i64) (.pair .str (.pair (.int .i64) (.pair (.int .i64) (.pair .str .unit)))))))] (fun x => zib N x.1 x.2.1) (zfe (.tup [(.pair (.sl (.pair .str (.pair (.int .i64) (.pair (.int .i64) (.pair (.sl (.pair (.int .i64) (.pair .str .unit))) .unit))))) (.pair (.int .i64) .unit)), (.int .i64)]) 2)

theorem zql (N : Nat) : Contract Go.Proofs.Try.prog z10 15 (zgu N) :=
  Contract.of (E := zia N) (H := zt6 N) (L := znk) (N := N) (body := zez) (K := (z5b (.tup [(.pair (.sl (.pair .str (.pair (.int .i64) (.pair (.int .i64) (.pair (.sl (.pair (.int .i64) (.pair .str .unit))) .unit))))) (.pair (.int .i64) .unit)), (.int .i64)]) 2)) (zvt N) Go.Proofs.Try.func15 (by kernel_rfl) (by decide) (fun _ hb => (TabOk.cons (zvs hb) TabOk.nil)) (fun x y h => by rw [zui]; exact h) (z1q (s := (.tup [(.pair (.sl (.pair .str (.pair (.int .i64) (.pair (.int .i64) (.pair (.sl (.pair (.int .i64) (.pair .str .unit))) .unit))))) (.pair (.int .i64) .unit)), (.int .i64)])) (m := 2))

def zgg : Code := (Go.Proofs.Try.f7.body).getD .skip

def zby : List (List Nat × List Nat) := [([0], []), ([0, 1], [1, 2]), ([0, 1, 1], [2, 1, 4, 3]), ([0, 1, 1, 1], [0]), ([1, 1, 1, 1], [0])]

def z6f (N : Nat) : Env := z4w tys z10 [(15, zgu N), (10, zd6 N), (19, zau N)] [] [] [] false [] []

theorem zhm (N : Nat) : EnvOk Go.Proofs.Try.prog (z6f N) := z1e mixed z2n (FnsOk.cons (zql N) (FnsOk.cons (zex N) (FnsOk.cons (zk2 N) (FnsOk.nil)))) (ItsOk.nil)

def z3j (N : Nat) : Option Bool :=
 (zib N (([] : List ((List UInt8) × (Int × (Int × ((List (Int × ((List UInt8) × Unit))) × Unit))))), ((0 : Int), ())) ([((1 : Int), (([(97 : UInt8), (99 : UInt8), (109 : UInt8), (101 : UInt8)] : List UInt8), ((2 : Int), ((0 : Int), (([] : List UInt8), ()))))), ((2 : Int), (([(97 : UInt8), (99 : UInt8), (109 : UInt8), (101 : UInt8)] : List UInt8), ((1 : Int), ((0 : Int), (([(48 : UInt8), (49 : UInt8), (50 : UInt8), (51 : UInt8), (52 : UInt8), (53 : UInt8), (54 : UInt8), (55 : UInt8), (56 : UInt8), (57 : UInt8), (97 : UInt8), (98 : UInt8), (99 : UInt8), (100 : UInt8), (101 : UInt8), (102 : UInt8), (48 : UInt8), (49 : UInt8), (50 : UInt8), (51 : UInt8), (52 : UInt8), (53 : UInt8), (54 : UInt8), (55 : UInt8), (56 : UInt8), (57 : UInt8), (97 : UInt8), (98 : UInt8), (99 : UInt8), (100 : UInt8), (101 : UInt8), (102 : UInt8)] : List UInt8), ())))))] : List (Int × ((List UInt8) × (Int × (Int × ((List UInt8) × Unit))))))).bind fun y =>
 (z8c N y.1 ([(97 : UInt8), (99 : UInt8), (109 : UInt8), (101 : UInt8)] : List UInt8)).bind fun y1 =>
 cond (y.2.1 == (0 : Int))
 (cond ((((List.length y.1.1) : Nat) : Int) == (1 : Int))
 (cond y1.2.1
 (cond (Go.Lift.eqD (Go.Lift.T.pair (Go.Lift.T.int Go.IntKind.i64) (Go.Lift.T.pair Go.Lift.T.str Go.Lift.T.unit)) y1.1 ((1 : Int), (([(48 : UInt8), (49 : UInt8), (50 : UInt8), (51 : UInt8), (52 : UInt8), (53 : UInt8), (54 : UInt8), (55 : UInt8), (56 : UInt8), (57 : UInt8), (97 : UInt8), (98 : UInt8), (99 : UInt8), (100 : UInt8), (101 : UInt8), (102 : UInt8), (48 : UInt8), (49 : UInt8), (50 : UInt8), (51 : UInt8), (52 : UInt8), (53 : UInt8), (54 : UInt8), (55 : UInt8), (56 : UInt8), (57 : UInt8), (97 : UInt8), (98 : UInt8), (99 : UInt8), (100 : UInt8), (101 : UInt8), (102 : UInt8)] : List UInt8), ())))
 ((z6o N y.1).bind fun y2 =>
 some y2)
 (some false))
 (some false))
 (some false))
 (some false)

def zbx (N : Nat) : Tab Bool := []

theorem zgf (N : Nat) (x : z2b []) : zej (z6f N) N (zbx N) zby Go.Proofs.Try.f7 (mkS [] 0 x) (z5b (.v .bool) 0) = z3j N := by kernel_rfl

def z8u (N : Nat) : List A -> Res := z2r [] (fun x => z3j N) (zfe (.v .bool) 0)

theorem zjq (N : Nat) : Contract Go.Proofs.Try.prog z10 7 (z8u N) :=
  Contract.of (E := z6f N) (H := zbx N) (L := zby) (N := N) (body := zgg) (K := (z5b (.v .bool) 0)) (zhm N) Go.Proofs.Try.func7 (by kernel_rfl) (by decide) (fun _ hb => TabOk.nil) (fun x y h => by rw [zgf]; exact h) (z1q (s := (.v .bool)) (m := 0))

def z1p : Code := (Go.Proofs.Try.f4.body).getD .skip

def z2v : List (List Nat × List Nat) := [([0], [0, 1, 2]), ([0, 0, 1], [21, 0, 1, 2]), ([1, 0, 1], [0, 1, 2]), ([0, 0, 1, 0, 1], [6]), ([1, 0, 1, 0, 1], [6]), ([0, 1, 1], [0, 8, 7, 1, 2]), ([0, 1, 1, 1], [8, 10, 7, 9, 1, 2]), ([0, 0, 1, 1, 1, 1], [43, 7, 1, 2]), ([1, 0, 1, 1, 1, 1], [7, 1, 2]), ([0, 0, 1, 0, 1, 1, 1, 1], [6]), ([1, 0, 1, 0, 1, 1, 1, 1], [6]), ([0, 1, 1, 1, 1, 1], [7, 1, 2, 11, 12]), ([0, 1, 1, 1, 1, 1, 1], [7, 1, 11, 13, 12, 14]), ([0, 1, 1, 1, 1, 1, 1, 1], [7, 1, 11, 13, 12, 14, 15, 16]), ([0, 1, 1, 1, 1, 1, 1, 1, 1], [7, 1, 11, 13, 12, 14, 15, 17, 16, 18]), ([0, 1, 1, 1, 1, 1, 1, 1, 1, 1], [6]), ([1, 1, 1, 1, 1, 1, 1, 1, 1, 1], [6])]

def z27 (N : Nat) : Env := z4w tys z10 [(7, z8u N), (15, zgu N), (14, z6u N), (16, zbg N), (17, zoi N), (18, zb7 N), (19, zau N), (20, z7y N), (21, zac N), (22, z2t N)] [] [] [] false [] []

theorem zde (N : Nat) : EnvOk Go.Proofs.Try.prog (z27 N) := z1e mixed z2n (FnsOk.cons (zjq N) (FnsOk.cons (zql N) (FnsOk.cons (zfc N) (FnsOk.cons (zmo N) (FnsOk.cons (zxd N) (FnsOk.cons (zmm N) (FnsOk.cons (zk2 N) (FnsOk.cons (zhc N) (FnsOk.cons (zce N) (FnsOk.cons (z3u N) (FnsOk.nil))))))))))) (ItsOk.nil)

def z3k (N : Nat) (tenant : (List UInt8)) (num : Int) (s : ((List ((List UInt8) × (Int × (Int × ((List (Int × ((List UInt8) × Unit))) × Unit))))) × (Int × Unit))) (e : Int) (t : ((List ((List UInt8) × (Int × (Int × ((List (Int × ((List UInt8) × Unit))) × Unit))))) × (Int × Unit))) (f : Int) (k0 : Bool -> Option Bool) : Option Bool :=
 cond (e != f)
 (k0 true)
 ((z2a N s t).bind fun y =>
 k0 (!y))

def z6s (N : Nat) (x : z2b [(1, .v .str), (0, .v (.int .i64)), (4, .box (.pair (.sl (.pair .str (.pair (.int .i64) (.pair (.int .i64) (.pair (.sl (.pair (.int .i64) (.pair .str .unit))) .unit))))) (.pair (.int .i64) .unit))), (0, .v (.int .i64)), (0, .box (.pair (.sl (.pair .str (.pair (.int .i64) (.pair (.int .i64) (.pair (.sl (.pair (.int .i64) (.pair .str .unit))) .unit))))) (.pair (.int .i64) .unit))), (0, .v (.int .i64))]) (K : Ex -> List A -> Option Bool) : Option Bool :=
 z3k N x.1 x.2.1 x.2.2.1 x.2.2.2.1 x.2.2.2.2.1 x.2.2.2.2.2.1 (fun a3 => (K .normal (mkS [(1, .v .str), (0, .v (.int .i64)), (4, .box (.pair (.sl (.pair .str (.pair (.int .i64) (.pair (.int .i64) (.pair (.sl (.pair (.int .i64) (.pair .str .unit))) .unit))))) (.pair (.int .i64) .unit))), (35, .v .bool)] 56 (x.1, x.2.1, x.2.2.1, a3, ()))))

def z6q (N : Nat) : Hd Bool := fun st K => (unS [(1, .v .str), (0, .v (.int .i64)), (4, .box (.pair (.sl (.pair .str (.pair (.int .i64) (.pair (.int .i64) (.pair (.sl (.pair (.int .i64) (.pair .str .unit))) .unit))))) (.pair (.int .i64) .unit))), (0, .v (.int .i64)), (0, .box (.pair (.sl (.pair .str (.pair (.int .i64) (.pair (.int .i64) (.pair (.sl (.pair (.int .i64) (.pair .str .unit))) .unit))))) (.pair (.int .i64) .unit))), (0, .v (.int .i64))] 89 (restr [8, 10, 7, 9, 1, 2] 0 st)).bind fun x => z6s N x K

def ze0 (N : Nat) : Tab Bool := []

theorem zdc {N : Nat} {c : Ctx} (hb : Base Go.Proofs.Try.prog (z27 N) c) : zu Go.Proofs.Try.prog c (zf z1p [0, 0, 1, 1, 1, 1]) (z6q N) :=
  zp (s := [(1, .v .str), (0, .v (.int .i64)), (4, .box (.pair (.sl (.pair .str (.pair (.int .i64) (.pair (.int .i64) (.pair (.sl (.pair (.int .i64) (.pair .str .unit))) .unit))))) (.pair (.int .i64) .unit))), (0, .v (.int .i64)), (0, .box (.pair (.sl (.pair .str (.pair (.int .i64) (.pair (.int .i64) (.pair (.sl (.pair (.int .i64) (.pair .str .unit))) .unit))))) (.pair (.int .i64) .unit))), (0, .v (.int .i64))]) (m := 89) (g := z6s N) [8, 10, 7, 9, 1, 2] (z7 hb N (ze0 N) z2v z1p TabOk.nil [0, 0, 1, 1, 1, 1] _ rfl) (fun x K => by kernel_rfl)

def z3l (N : Nat) (tenant : (List UInt8)) (num : Int) (s : ((List ((List UInt8) × (Int × (Int × ((List (Int × ((List UInt8) × Unit))) × Unit))))) × (Int × Unit))) (e : Int) (t : ((List ((List UInt8) × (Int × (Int × ((List (Int × ((List UInt8) × Unit))) × Unit))))) × (Int × Unit))) (f : Int) (k0 : Bool -> Option Bool) (k1 : Option Bool) : Option Bool :=
 z3k N tenant num s e t f
 (fun x43 => cond x43
 (k0 false)
 (k1))

def z6t (N : Nat) (x : z2b [(1, .v .str), (0, .v (.int .i64)), (4, .box (.pair (.sl (.pair .str (.pair (.int .i64) (.pair (.int .i64) (.pair (.sl (.pair (.int .i64) (.pair .str .unit))) .unit))))) (.pair (.int .i64) .unit))), (0, .v (.int .i64)), (0, .box (.pair (.sl (.pair .str (.pair (.int .i64) (.pair (.int .i64) (.pair (.sl (.pair (.int .i64) (.pair .str .unit))) .unit))))) (.pair (.int .i64) .unit))), (0, .v (.int .i64))]) (K : Ex -> List A -> Option Bool) : Option Bool :=
 z3l N x.1 x.2.1 x.2.2.1 x.2.2.2.1 x.2.2.2.2.1 x.2.2.2.2.2.1 (fun a0 => (K .ret (mkS [(6, .v .bool)] 93 (a0, ())))) (K .normal (mkS [(1, .v .str), (0, .v (.int .i64)), (4, .box (.pair (.sl (.pair .str (.pair (.int .i64) (.pair (.int .i64) (.pair (.sl (.pair (.int .i64) (.pair .str .unit))) .unit))))) (.pair (.int .i64) .unit)))] 92 (x.1, x.2.1, x.2.2.1, ())))

def z6r (N : Nat) : Hd Bool := fun st K => (unS [(1, .v .str), (0, .v (.int .i64)), (4, .box (.pair (.sl (.pair .str (.pair (.int .i64) (.pair (.int .i64) (.pair (.sl (.pair (.int .i64) (.pair .str .unit))) .unit))))) (.pair (.int .i64) .unit))), (0, .v (.int .i64)), (0, .box (.pair (.sl (.pair .str (.pair (.int .i64) (.pair (.int .i64) (.pair (.sl (.pair (.int .i64) (.pair .str .unit))) .unit))))) (.pair (.int .i64) .unit))), (0, .v (.int .i64))] 89 (restr [8, 10, 7, 9, 1, 2] 0 st)).bind fun x => z6t N x K

def ze1 (N : Nat) : Tab Bool := [([0, 0, 1, 1, 1, 1], z6q N)]

theorem zdd {N : Nat} {c : Ctx} (hb : Base Go.Proofs.Try.prog (z27 N) c) : zu Go.Proofs.Try.prog c (zf z1p [0, 1, 1, 1, 1]) (z6r N) :=
  zp (s := [(1, .v .str), (0, .v (.int .i64)), (4, .box (.pair (.sl (.pair .str (.pair (.int .i64) (.pair (.int .i64) (.pair (.sl (.pair (.int .i64) (.pair .str .unit))) .unit))))) (.pair (.int .i64) .unit))), (0, .v (.int .i64)), (0, .box (.pair (.sl (.pair .str (.pair (.int .i64) (.pair (.int .i64) (.pair (.sl (.pair (.int .i64) (.pair .str .unit))) .unit))))) (.pair (.int .i64) .unit))), (0, .v (.int .i64))]) (m := 89) (g := z6t N) [8, 10, 7, 9, 1, 2] (z7 hb N (ze1 N) z2v z1p (TabOk.cons (zdc hb) TabOk.nil) [0, 1, 1, 1, 1] _ rfl) (fun x K => by kernel_rfl)

def z20 (N : Nat) (l : (List (Int × ((List UInt8) × (Int × (Int × ((List UInt8) × Unit))))))) (tenant : (List UInt8)) (num : Int) : Option Bool :=
 cond (decide ((60 : Int) < (((List.length l) : Nat) : Int)))
 ((z3j N).bind fun y =>
 some y)
 ((zib N (([] : List ((List UInt8) × (Int × (Int × ((List (Int × ((List UInt8) × Unit))) × Unit))))), ((0 : Int), ())) l).bind fun y1 =>
 (z4u N (([] : List ((List UInt8) × (Int × (Int × ((List (Int × ((List UInt8) × Unit))) × Unit))))), ((0 : Int), ())) l).bind fun y2 =>
 z3l N tenant num y1.1 y1.2.1 y2.1 y2.2.1
 (fun x6 => some x6)
 ((zmb N y1.1 tenant num).bind fun y3 =>
 (z4s N y1.1 tenant num).bind fun y4 =>
 (z8c N y1.1 tenant).bind fun y5 =>
 (z33 N y1.1 tenant).bind fun y6 =>
 (z6z N y1.1 tenant).bind fun y7 =>
 (z2d N y1.1 tenant).bind fun y8 =>
 cond (y7 == y8)
 (cond (y3.1 == y4.1)
 (cond (y3.2.1 == y4.2.1)
 (cond (Go.Lift.eqD (Go.Lift.T.pair (Go.Lift.T.int Go.IntKind.i64) (Go.Lift.T.pair Go.Lift.T.str Go.Lift.T.unit)) y5.1 y6.1)
 (cond (y5.2.1 == y6.2.1)
 ((z3j N).bind fun y9 =>
 some y9)
 (some false))
 (some false))
 (some false))
 (some false))
 (some false)))

def z78 (N : Nat) : Tab Bool := [([0, 1, 1, 1, 1], z6r N)]

theorem zc9 (N : Nat) (x : z2b [(0, .v (.sl (.pair (.int .i64) (.pair .str (.pair (.int .i64) (.pair (.int .i64) (.pair .str .unit))))))), (0, .v .str), (0, .v (.int .i64))]) : zej (z27 N) N (z78 N) z2v Go.Proofs.Try.f4 (mkS [(0, .v (.sl (.pair (.int .i64) (.pair .str (.pair (.int .i64) (.pair (.int .i64) (.pair .str .unit))))))), (0, .v .str), (0, .v (.int .i64))] 0 x) (z5b (.v .bool) 3) = z20 N x.1 x.2.1 x.2.2.1 := by kernel_rfl

def zdb (N : Nat) : List A -> Res := z2r [(0, .v (.sl (.pair (.int .i64) (.pair .str (.pair (.int .i64) (.pair (.int .i64) (.pair .str .unit))))))), (0, .v .str), (0, .v (.int .i64))] (fun x => z20 N x.1 x.2.1 x.2.2.1) (zfe (.v .bool) 3)

theorem ze2 (N : Nat) : Contract Go.Proofs.Try.prog z10 4 (zdb N) :=
  Contract.of (E := z27 N) (H := z78 N) (L := z2v) (N := N) (body := z1p) (K := (z5b (.v .bool) 3)) (zde N) Go.Proofs.Try.func4 (by kernel_rfl) (by decide) (fun _ hb => (TabOk.cons (zdd hb) TabOk.nil)) (fun x y h => by rw [zc9]; exact h) (z1q (s := (.v .bool)) (m := 3))

end
end Go.Proofs.YtobbmaplbpdniaaLg

set_option linter.all false
set_option maxRecDepth 100000
namespace Go.Proofs.YtobbmaplbpdniaaLg
noncomputable section
open Go Go.Lift Go.Proofs.YtobbmaplbpdniaaPx

abbrev EvD := Int × (List UInt8 × (Int × (Int × (List UInt8 × Unit))))

def zjr {α : Type} (p : α -> Bool) : List α -> Nat -> Int
  | [], _ => -1
  | x :: l, i => if p x then (i : Int) else zjr p l (i + 1)

theorem z3n {α : Type} (p : α -> Bool) : ∀ (l : List α) (i : Nat), (zjr p l i = -1 /\ ∀ x ∈ l, p x = false) \/ ∃ j : Nat, zjr p l i = ((i + j : Nat) : Int) /\ ∃ h : j < l.length, p l[j] = true
  | [], i => .inl ⟨rfl, fun x hx => by cases hx⟩
  | x :: l, i => by
    rw [zjr]
    cases hp : p x with
    | true => exact .inr ⟨0, by simp, by simp, hp⟩
    | false =>
      simp only [Bool.false_eq_true, if_false]
      rcases z3n p l (i + 1) with ⟨h1, h2⟩ | ⟨j, h1, h2, h3⟩
      . refine .inl ⟨h1, fun y hy => ?_⟩
        rcases List.mem_cons.1 hy with rfl | hy
        . exact hp
        . exact h2 y hy
      . exact .inr ⟨j + 1, by rw [h1]; congr 1; omega, by simpa using h2, by simpa using h3⟩

theorem zv1 : ∀ a b : List UInt8, Go.Op.bytesLess a b = decide (zd2 a b < 0)
  | [], [] => rfl
  | [], _ :: _ => rfl
  | _ :: _, [] => rfl
  | x :: xs, y :: ys => by
    rw [zd2, Go.Op.bytesLess]
    by_cases h1 : x < y
    . rw [if_pos h1, decide_eq_true h1]; rfl
    . by_cases h2 : y < x
      . have h3 : (x == y) = false := by
          rw [beq_eq_false_iff_ne]
          intro e; rw [e, UInt8.lt_iff_toNat_lt] at h2; omega
        rw [if_neg h1, if_pos h2, decide_eq_false h1, h3]; rfl
      . have e : x = y := by
          rw [UInt8.lt_iff_toNat_lt] at h1 h2
          exact UInt8.toNat_inj.1 (by omega)
        subst e
        rw [if_neg h1, if_neg h1, zv1 xs ys, decide_eq_false h1, beq_self_eq_true, Bool.false_or, Bool.true_and]

theorem zro : ∀ a b c : List UInt8, zd2 a b < 0 -> zd2 b c < 0 -> zd2 a c < 0
  | [], [], _, h, _ => by simp [zd2] at h
  | [], _ :: _, [], _, h => by simp [zd2] at h
  | [], _ :: _, _ :: _, _, _ => by simp [zd2]
  | _ :: _, [], _, h, _ => by simp [zd2] at h
  | _ :: _, _ :: _, [], _, h => by simp [zd2] at h
  | x :: xs, y :: ys, z :: zs, h, g => by
    rw [zd2] at h g ⊢
    simp only [UInt8.lt_iff_toNat_lt] at h g ⊢
    by_cases h1 : x.toNat < y.toNat
    . by_cases g1 : y.toNat < z.toNat
      . rw [if_pos (by omega)]; omega
      . by_cases g2 : z.toNat < y.toNat
        . rw [if_neg g1, if_pos g2] at g; omega
        . rw [if_pos (by omega)]; omega
    . by_cases h2 : y.toNat < x.toNat
      . rw [if_neg h1, if_pos h2] at h; omega
      . rw [if_neg h1, if_neg h2] at h
        by_cases g1 : y.toNat < z.toNat
        . rw [if_pos (by omega)]; omega
        . by_cases g2 : z.toNat < y.toNat
          . rw [if_neg g1, if_pos g2] at g; omega
          . rw [if_neg g1, if_neg g2] at g
            rw [if_neg (by omega), if_neg (by omega)]
            exact zro xs ys zs h g

theorem zts : ∀ a b : List UInt8, ¬ zd2 a b < 0 -> a ≠ b -> zd2 b a < 0
  | [], [], _, h => absurd rfl h
  | [], _ :: _, h, _ => by simp [zd2] at h
  | _ :: _, [], _, _ => by simp [zd2]
  | x :: xs, y :: ys, h, g => by
    rw [zd2] at h ⊢
    simp only [UInt8.lt_iff_toNat_lt] at h ⊢
    by_cases h1 : x.toNat < y.toNat
    . rw [if_pos h1] at h; omega
    . by_cases h2 : y.toNat < x.toNat
      . rw [if_pos h2]; omega
      . have e : x = y := UInt8.toNat_inj.1 (by omega)
        subst e
        rw [if_neg h1, if_neg h1] at h
        rw [if_neg h1, if_neg h1]
        exact zts xs ys h (fun e => g (by rw [e]))

theorem z11g (p t : List UInt8) : upL (some p) t = decide (zd2 p t < 0) := by
  rw [upL, <- z13m]
  by_cases h : zd2 p t < 0
  . rw [decide_eq_true h, decide_eq_false (by omega)]; rfl
  . rw [decide_eq_false h, decide_eq_true (by omega)]; rfl

theorem z3f {p : Option (List UInt8)} {t : zdj} {l : List zdj} : z7x p (t :: l) = true ↔ upL p t.1 = true /\ zvd t = true /\ z7x (some t.1) l = true := by
  rw [z7x]; simp only [Bool.and_eq_true]

theorem znh : ∀ {l : List zdj} {p : List UInt8}, z7x (some p) l = true -> ∀ x ∈ l, zd2 p x.1 < 0
  | [], _, _, x, hx => by cases hx
  | t :: l, p, h, x, hx => by
    obtain ⟨h1, h2, h3⟩ := z3f.1 h
    rw [z11g, decide_eq_true_eq] at h1
    rcases List.mem_cons.1 hx with rfl | hx
    . exact h1
    . exact zro _ _ _ h1 (znh h3 x hx)

theorem z6v : ∀ {l : List zdj} {p : Option (List UInt8)}, z7x p l = true -> ∀ x ∈ l, zvd x = true
  | [], _, _, x, hx => by cases hx
  | t :: l, p, h, x, hx => by
    obtain ⟨h1, h2, h3⟩ := z3f.1 h
    rcases List.mem_cons.1 hx with rfl | hx
    . exact h2
    . exact z6v h3 x hx

theorem z5q {t : zdj} (h : zvd t = true) : z88 t.1 = true /\ zah t.2.1 0 = true /\ zah t.2.2.1 1 = true /\ t.2.2.2.1.length <= 8 /\ z8v t.2.2.1 0 t.2.2.2.1 = true := by
  unfold zvd at h
  simp only [Bool.and_eq_true, decide_eq_true_eq] at h
  exact ⟨h.1, h.2.1, h.2.2.1, h.2.2.2.1, h.2.2.2.2⟩

theorem z11l {t : zdj} (h1 : z88 t.1 = true) (h2 : zah t.2.1 0 = true) (h3 : zah t.2.2.1 1 = true) (h4 : t.2.2.2.1.length <= 8) (h5 : z8v t.2.2.1 0 t.2.2.2.1 = true) : zvd t = true := by
  unfold zvd
  rw [h1, h2, h3, h5, decide_eq_true h4]; rfl

theorem zzy {s : List UInt8} (h : z88 s = true) : s.length <= 32 := by
  unfold z88 at h
  simp only [Bool.and_eq_true, decide_eq_true_eq] at h
  exact h.1.2

theorem z14u {x low : Int} : zah x low = true ↔ low <= x /\ x <= 1099511627776 := by
  unfold zah; simp only [Bool.and_eq_true, decide_eq_true_eq]

theorem z53 {s : zi1} : z3g s = true ↔ s.1.length <= 16 /\ zah s.2.1 0 = true /\ z7x none s.1 = true := by
  unfold z3g; simp only [Bool.and_eq_true, decide_eq_true_eq]

theorem zym : ∀ {l : List zdj} {p : Option (List UInt8)} {t : zdj} (j : Nat) (hj : j < l.length), z7x p l = true -> t.1 = l[j].1 -> zvd t = true -> z7x p (l.take j ++ t :: l.drop (j + 1)) = true
  | [], _, _, j, hj, _, _, _ => by cases hj
  | x :: l, p, t, 0, _, h, e, ht => by
    obtain ⟨h1, h2, h3⟩ := z3f.1 h
    rw [List.take_zero, List.nil_append, List.drop_succ_cons, List.drop_zero]
    have e' : t.1 = x.1 := e
    rw [z3f, e']
    exact ⟨h1, ht, h3⟩
  | x :: l, p, t, j + 1, hj, h, e, ht => by
    obtain ⟨h1, h2, h3⟩ := z3f.1 h
    rw [List.take_succ_cons, List.cons_append, List.drop_succ_cons, z3f]
    exact ⟨h1, h2, zym j (by simpa using hj) h3 (by simpa using e) ht⟩

theorem zyn : ∀ {l : List zdj} {p : Option (List UInt8)} {t : zdj}, z7x p l = true -> upL p t.1 = true -> (∀ x ∈ l, x.1 ≠ t.1) -> zvd t = true -> z7x p (l.take (zaa l t.1) ++ [t] ++ l.drop (zaa l t.1)) = true
  | [], p, t, _, hu, _, ht => by
    show z7x p [t] = true
    rw [z3f]; exact ⟨hu, ht, rfl⟩
  | x :: l, p, t, h, hu, hn, ht => by
    obtain ⟨h1, h2, h3⟩ := z3f.1 h
    unfold zaa
    rw [List.takeWhile_cons]
    have hx : x.1 ≠ t.1 := hn x List.mem_cons_self
    rw [zv1]
    by_cases hlt : zd2 x.1 t.1 < 0
    . rw [decide_eq_true hlt, if_pos rfl, List.length_cons, List.take_succ_cons, List.drop_succ_cons]
      show z7x p (x :: (l.take (zaa l t.1) ++ [t] ++ l.drop (zaa l t.1))) = true
      rw [z3f]
      exact ⟨h1, h2, zyn h3 (by rw [z11g, decide_eq_true hlt]) (fun y hy => hn y (List.mem_cons_of_mem _ hy)) ht⟩
    . rw [decide_eq_false hlt, if_neg (by decide)]
      show z7x p (t :: x :: l) = true
      rw [z3f, z3f]
      exact ⟨hu, ht, by rw [z11g]; exact decide_eq_true (zts _ _ hlt hx), h2, h3⟩

theorem z5s {nx last : Int} {k : znd} {l : List znd} : z8v nx last (k :: l) = true ↔ last < k.1 /\ k.1 < nx /\ k.2.1.length = 32 /\ z8v nx k.1 l = true := by
  rw [z8v]; simp only [Bool.and_eq_true, decide_eq_true_eq]

theorem zrb : ∀ {l : List znd} {nx nx' a b : Int}, z8v nx a l = true -> b <= a -> nx <= nx' -> z8v nx' b l = true
  | [], _, _, _, _, _, _, _ => rfl
  | k :: l, nx, nx', a, b, h, h1, h2 => by
    obtain ⟨g1, g2, g3, g4⟩ := z5s.1 h
    exact z5s.2 ⟨by omega, by omega, g3, zrb g4 (by omega) h2⟩

theorem zwb : ∀ {l : List znd} {nx a : Int} (j : Nat), z8v nx a l = true -> z8v nx a (l.take j ++ l.drop (j + 1)) = true
  | [], _, _, _, _ => by simp [z8v]
  | k :: l, nx, a, 0, h => by
    obtain ⟨g1, g2, g3, g4⟩ := z5s.1 h
    exact zrb g4 (by omega) (by omega)
  | k :: l, nx, a, j + 1, h => by
    obtain ⟨g1, g2, g3, g4⟩ := z5s.1 h
    rw [List.take_succ_cons, List.cons_append, List.drop_succ_cons]
    exact z5s.2 ⟨g1, g2, g3, zwb j g4⟩

theorem zzi : ∀ {l : List znd} {nx a : Int} {k : znd}, z8v nx a l = true -> a < k.1 -> k.1 < nx -> k.2.1.length = 32 -> (∀ x ∈ l, x.1 ≠ k.1) -> z8v nx a (l.take (zht l k.1) ++ [k] ++ l.drop (zht l k.1)) = true
  | [], nx, a, k, _, h1, h2, h3, _ => z5s.2 ⟨h1, h2, h3, rfl⟩
  | x :: l, nx, a, k, h, h1, h2, h3, hn => by
    obtain ⟨g1, g2, g3, g4⟩ := z5s.1 h
    have hx : x.1 ≠ k.1 := hn x List.mem_cons_self
    unfold zht
    rw [List.takeWhile_cons]
    by_cases hlt : x.1 < k.1
    . rw [decide_eq_true hlt, if_pos rfl, List.length_cons, List.take_succ_cons, List.drop_succ_cons]
      exact z5s.2 ⟨g1, g2, g3, zzi g4 hlt h2 h3 (fun y hy => hn y (List.mem_cons_of_mem _ hy))⟩
    . rw [decide_eq_false hlt, if_neg (by decide)]
      exact z5s.2 ⟨h1, h2, h3, z5s.2 ⟨by omega, g2, g3, g4⟩⟩

def z145 (s : zi1) (i : Nat) (t : zdj) : zi1 := (s.1.take i ++ t :: s.1.drop (i + 1), s.2)

def z7t (t : zdj) (kd nu : Int) (tx : List UInt8) : Int × List znd :=
 if kd = 2 then
 if t.2.2.1 <= nu then (7, t.2.2.2.1)
 else if 0 <= zjr (fun k => k.1 == nu) t.2.2.2.1 0 then (5, t.2.2.2.1)
 else if t.2.2.2.1.length = 8 then (3, t.2.2.2.1)
 else (0, t.2.2.2.1.take (zht t.2.2.2.1 nu) ++ [(nu, (tx, ()))] ++ t.2.2.2.1.drop (zht t.2.2.2.1 nu))
 else if zjr (fun k => k.1 == nu) t.2.2.2.1 0 < 0 then (6, t.2.2.2.1)
 else (0, t.2.2.2.1.take (zjr (fun k => k.1 == nu) t.2.2.2.1 0).toNat ++ t.2.2.2.1.drop ((zjr (fun k => k.1 == nu) t.2.2.2.1 0).toNat + 1))

def z6h (s : zi1) (e : EvD) : Int × zi1 :=
 if e.1 = 4 then (if e.2.2.1 < s.2.1 then (7, s) else (0, (s.1, (e.2.2.1, ()))))
 else if e.1 = 1 then
 if 0 <= zjr (fun t => t.1 == e.2.1) s.1 0 then
 if e.2.2.2.1 < (s.1.getD (zjr (fun t => t.1 == e.2.1) s.1 0).toNat z92).2.1 \/ e.2.2.1 < (s.1.getD (zjr (fun t => t.1 == e.2.1) s.1 0).toNat z92).2.2.1 then (7, s)
 else (0, z145 s (zjr (fun t => t.1 == e.2.1) s.1 0).toNat ((s.1.getD (zjr (fun t => t.1 == e.2.1) s.1 0).toNat z92).1, (e.2.2.2.1, (e.2.2.1, ((s.1.getD (zjr (fun t => t.1 == e.2.1) s.1 0).toNat z92).2.2.2.1, ())))))
 else if s.1.length = 16 then (3, s)
 else (0, (s.1.take (zaa s.1 e.2.1) ++ [(e.2.1, (e.2.2.2.1, (e.2.2.1, ([], ()))))] ++ s.1.drop (zaa s.1 e.2.1), s.2))
 else if zjr (fun t => t.1 == e.2.1) s.1 0 < 0 then (6, s)
 else ((z7t (s.1.getD (zjr (fun t => t.1 == e.2.1) s.1 0).toNat z92) e.1 e.2.2.1 e.2.2.2.2.1).1,
 z145 s (zjr (fun t => t.1 == e.2.1) s.1 0).toNat ((s.1.getD (zjr (fun t => t.1 == e.2.1) s.1 0).toNat z92).1, ((s.1.getD (zjr (fun t => t.1 == e.2.1) s.1 0).toNat z92).2.1, ((s.1.getD (zjr (fun t => t.1 == e.2.1) s.1 0).toNat z92).2.2.1,
 ((z7t (s.1.getD (zjr (fun t => t.1 == e.2.1) s.1 0).toNat z92) e.1 e.2.2.1 e.2.2.2.2.1).2, ())))))

def zlm (e : EvD) : Bool :=
 if e.1 = 1 then z88 e.2.1 && (zah e.2.2.1 1 && (zah e.2.2.2.1 0 && (e.2.2.2.2.1 == [])))
 else if e.1 = 2 then z88 e.2.1 && (zah e.2.2.1 1 && ((e.2.2.2.1 == 0) && decide (e.2.2.2.2.1.length = 32)))
 else if e.1 = 3 then z88 e.2.1 && (zah e.2.2.1 1 && ((e.2.2.2.1 == 0) && (e.2.2.2.2.1 == [])))
 else if e.1 = 4 then zah e.2.2.1 0 && ((e.2.1 == []) && ((e.2.2.2.1 == 0) && (e.2.2.2.2.1 == [])))
 else false

def z17j (c : Int) : zi1 × (Int × Unit) := (([], (0, ())), (c, ()))

def za7 (s : zi1) (e : EvD) : zi1 × (Int × Unit) :=
 if z3g s = false then z17j 7 else if zlm e = false then z17j 2
 else if (z6h s e).1 = 0 then ((z6h s e).2, (0, ())) else z17j (z6h s e).1

theorem zwt {s : zi1} {e : EvD} (hr : z3g s = true) (hf : zlm e = true) (hc : (z6h s e).1 = 0) :
    z3g (z6h s e).2 = true /\ s.2.1 <= (z6h s e).2.2.1 /\ s.1.length <= (z6h s e).2.1.length ∧
    ∀ x ∈ s.1, ∃ y ∈ (z6h s e).2.1, y.1 = x.1 /\ x.2.1 <= y.2.1 /\ x.2.2.1 <= y.2.2.1 /\ (x.1 ≠ e.2.1 -> y = x) := by
  obtain ⟨r1, r2, r3⟩ := z53.1 hr
  have hin := z14u.1 r2
  unfold z6h at hc ⊢
  by_cases k4 : e.1 = 4
  . rw [if_pos k4] at hc ⊢
    by_cases h : e.2.2.1 < s.2.1
    . rw [if_pos h] at hc; cases hc
    . rw [if_neg h]
      refine ⟨z53.2 ⟨r1, ?_, r3⟩, by show s.2.1 <= e.2.2.1; omega, Nat.le_refl _, fun x hx => ⟨x, hx, rfl, by omega, by omega, fun _ => rfl⟩⟩
      unfold zlm at hf
      rw [k4] at hf
      simp only [Int.reduceEq, if_false, if_true, Bool.and_eq_true] at hf
      exact hf.1
  rw [if_neg k4] at hc ⊢
  have hset : ∀ (j : Nat) (hj : j < s.1.length) (t : zdj), s.1[j].1 = e.2.1 -> t.1 = s.1[j].1 -> s.1[j].2.1 <= t.2.1 -> s.1[j].2.2.1 <= t.2.2.1 -> zvd t = true →
      z3g (z145 s j t) = true /\ s.2.1 <= (z145 s j t).2.1 /\ s.1.length <= (z145 s j t).1.length /\ ∀ x ∈ s.1, ∃ y ∈ (z145 s j t).1, y.1 = x.1 /\ x.2.1 <= y.2.1 /\ x.2.2.1 <= y.2.2.1 /\ (x.1 ≠ e.2.1 -> y = x) := by
    intro j hj t hn ht h1 h2 h3
    have hlen : (z145 s j t).1.length = s.1.length := by
      unfold z145; simp only [List.length_append, List.length_cons, List.length_take, List.length_drop]; omega
    refine ⟨z53.2 ⟨by rw [hlen]; exact r1, r2, zym j hj r3 ht h3⟩, Int.le_refl _, by rw [hlen]; exact Nat.le_refl _, fun x hx => ?_⟩
    obtain ⟨i, hi, rfl⟩ := List.getElem_of_mem hx
    rcases Nat.lt_trichotomy i j with h | h | h
    . refine ⟨s.1[i], List.mem_append.2 (.inl ?_), rfl, by omega, by omega, fun _ => rfl⟩
      rw [List.mem_take_iff_getElem]
      exact ⟨i, by omega, rfl⟩
    . subst h
      refine ⟨t, List.mem_append.2 (.inr List.mem_cons_self), ht, h1, h2, fun h => absurd hn h⟩
    . refine ⟨s.1[i], List.mem_append.2 (.inr (List.mem_cons_of_mem _ ?_)), rfl, by omega, by omega, fun _ => rfl⟩
      rw [List.mem_drop_iff_getElem]
      exact ⟨i - (j + 1), by omega, by congr 1; omega⟩
  have hget : ∀ (j : Nat) (hj : j < s.1.length), s.1.getD j z92 = s.1[j] := fun j hj => by simp [List.getD, List.getElem?_eq_getElem hj]
  by_cases k1 : e.1 = 1
  . have hf' : z88 e.2.1 = true /\ zah e.2.2.1 1 = true /\ zah e.2.2.2.1 0 = true := by
      unfold zlm at hf
      rw [if_pos k1] at hf
      simp only [Bool.and_eq_true] at hf
      exact ⟨hf.1, hf.2.1, hf.2.2.1⟩
    rw [if_pos k1] at hc ⊢
    rcases z3n (fun t : zdj => t.1 == e.2.1) s.1 0 with ⟨h1, h2⟩ | ⟨j, h1, hj, h3⟩
    . rw [h1, if_neg (by decide)] at hc ⊢
      by_cases h16 : s.1.length = 16
      . rw [if_pos h16] at hc; cases hc
      rw [if_neg h16]
      have hne : ∀ x ∈ s.1, x.1 ≠ e.2.1 := fun x hx e' => by have := h2 x hx; rw [e', beq_self_eq_true] at this; cases this
      refine ⟨z53.2 ⟨?_, r2, zyn (t := (e.2.1, (e.2.2.2.1, (e.2.2.1, ([], ()))))) r3 rfl hne (z11l hf'.1 hf'.2.2 hf'.2.1 (by simp) rfl)⟩, Int.le_refl _, ?_, fun x hx => ⟨x, ?_, rfl, by omega, by omega, fun _ => rfl⟩⟩
      . simp only [List.length_append, List.length_cons, List.length_nil, List.length_take, List.length_drop]; omega
      . simp only [List.length_append, List.length_cons, List.length_nil, List.length_take, List.length_drop]; omega
      . dsimp only
        rw [List.append_assoc]
        have := List.take_append_drop (zaa s.1 e.2.1) s.1
        rw [<- this] at hx
        rcases List.mem_append.1 hx with hx | hx
        . exact List.mem_append.2 (.inl hx)
        . exact List.mem_append.2 (.inr (List.mem_append.2 (.inr hx)))
    . rw [Nat.zero_add] at h1
      rw [h1, if_pos (by omega), Int.toNat_natCast, hget j hj] at hc ⊢
      by_cases hlow : e.2.2.2.1 < s.1[j].2.1 \/ e.2.2.1 < s.1[j].2.2.1
      . rw [if_pos hlow] at hc; cases hc
      rw [if_neg hlow]
      have ht := z5q (z6v r3 _ (List.getElem_mem hj))
      exact hset j hj _ (beq_iff_eq.1 h3) rfl (by dsimp only; omega) (by dsimp only; omega) (z11l ht.1 hf'.2.2 hf'.2.1 ht.2.2.2.1 (zrb ht.2.2.2.2 (by omega) (by dsimp only; omega)))
  . rw [if_neg k1] at hc ⊢
    rcases z3n (fun t : zdj => t.1 == e.2.1) s.1 0 with ⟨h1, h2⟩ | ⟨j, h1, hj, h3⟩
    . rw [h1, if_pos (by decide)] at hc; cases hc
    rw [Nat.zero_add] at h1
    rw [h1, if_neg (by omega), Int.toNat_natCast, hget j hj] at hc ⊢
    dsimp only at hc ⊢
    have ht := z5q (z6v r3 _ (List.getElem_mem hj))
    refine hset j hj _ (beq_iff_eq.1 h3) rfl (by dsimp only; omega) (by dsimp only; omega) ?_
    generalize s.1[j] = t at hc ht
    have hk : (z7t t e.1 e.2.2.1 e.2.2.2.2.1).2.length <= 8 /\ z8v t.2.2.1 0 (z7t t e.1 e.2.2.1 e.2.2.2.2.1).2 = true := by
      unfold z7t at hc ⊢
      by_cases k2 : e.1 = 2
      . have hf' : zah e.2.2.1 1 = true /\ e.2.2.2.2.1.length = 32 := by
          unfold zlm at hf
          rw [if_neg k1, if_pos k2] at hf
          simp only [Bool.and_eq_true, decide_eq_true_eq] at hf
          exact ⟨hf.2.1, hf.2.2.2⟩
        rw [if_pos k2] at hc ⊢
        by_cases c1 : t.2.2.1 <= e.2.2.1
        . rw [if_pos c1] at hc; cases hc
        rw [if_neg c1] at hc ⊢
        rcases z3n (fun k : znd => k.1 == e.2.2.1) t.2.2.2.1 0 with ⟨g1, g2⟩ | ⟨i, g1, g2, g3⟩
        . rw [g1, if_neg (by decide)] at hc ⊢
          by_cases c2 : t.2.2.2.1.length = 8
          . rw [if_pos c2] at hc; cases hc
          rw [if_neg c2]
          have hl := z14u.1 hf'.1
          refine ⟨?_, zzi (k := (e.2.2.1, (e.2.2.2.2.1, ()))) ht.2.2.2.2 (by dsimp only; omega) (by dsimp only; omega) hf'.2 (fun x hx e' => by have := g2 x hx; rw [e', beq_self_eq_true] at this; cases this)⟩
          simp only [List.length_append, List.length_cons, List.length_nil, List.length_take, List.length_drop]; omega
        . rw [g1, if_pos (by omega)] at hc; cases hc
      . rw [if_neg k2] at hc ⊢
        rcases z3n (fun k : znd => k.1 == e.2.2.1) t.2.2.2.1 0 with ⟨g1, g2⟩ | ⟨i, g1, g2, g3⟩
        . rw [g1, if_pos (by decide)] at hc; cases hc
        . rw [Nat.zero_add] at g1
          rw [g1, if_neg (by omega), Int.toNat_natCast]
          exact ⟨by simp only [List.length_append, List.length_take, List.length_drop]; omega, zwb i ht.2.2.2.2⟩
    exact z11l ht.1 ht.2.1 ht.2.2.1 hk.1 hk.2

theorem z157 {s : zi1} {e : EvD} : ((za7 s e).2.1 = 0 /\ z3g s = true /\ zlm e = true /\ (z6h s e).1 = 0 /\ (za7 s e).1 = (z6h s e).2) \/ ((za7 s e).2.1 ≠ 0 /\ za7 s e = z17j (za7 s e).2.1) := by
  unfold za7
  cases hr : z3g s with
  | false => exact .inr ⟨show (7 : Int) ≠ 0 by decide, rfl⟩
  | true =>
    cases hf : zlm e with
    | false => exact .inr ⟨show (2 : Int) ≠ 0 by decide, rfl⟩
    | true =>
      rw [if_neg (show ¬ (true = false) by decide), if_neg (show ¬ (true = false) by decide)]
      by_cases hc : (z6h s e).1 = 0
      . rw [if_pos hc]; exact .inl ⟨rfl, rfl, rfl, hc, rfl⟩
      . rw [if_neg hc]; exact .inr ⟨hc, rfl⟩

theorem zrv (s : zi1) (e : EvD) : z3g (za7 s e).1 = true := by
  rcases z157 (s := s) (e := e) with ⟨_, hr, hf, hc, h⟩ | ⟨_, h⟩
  . rw [h]; exact (zwt hr hf hc).1
  . rw [h]; rfl

def z15a : zi1 -> List EvD -> zi1 × (Int × Unit)
  | s, [] => (s, (0, ()))
  | s, e :: l => if (za7 s e).2.1 = 0 then z15a (za7 s e).1 l else z17j (za7 s e).2.1

theorem zx1 : ∀ (l : List EvD) {s : zi1}, z3g s = true -> z3g (z15a s l).1 = true
  | [], _, h => h
  | e :: l, s, h => by
    rw [z15a]
    split
    . exact zx1 l (zrv s e)
    . rfl

end
end Go.Proofs.YtobbmaplbpdniaaLg

set_option linter.all false
set_option maxRecDepth 100000
namespace Go.Proofs.YtobbmaplbpdniaaLg
noncomputable section
open Go Go.Lift Go.Proofs.YtobbmaplbpdniaaPx

theorem zn0 {α : Type} (p : α -> Bool) {s : List α} {i : Nat} (hi : i < s.length) : zjr p (s.drop i) i = if p s[i] then (i : Int) else zjr p (s.drop (i + 1)) (i + 1) := by
  rw [List.drop_eq_getElem_cons hi]
  rfl

theorem zxv (N : Nat) {s : List znd} {f : Int × Unit} (hl : s.length <= 1000) (hN : s.length < N) : zmz N s f = some (zjr (fun k => k.1 == f.1) s 0) := by
  rw [zmz, zrg]
  refine (z4i (fun v => ∃ (i : Nat), v = (i : Int) /\ i <= s.length) (fun v => s.length - v.toNat) (fun v => some (zjr (fun k => k.1 == f.1) (s.drop v.toNat) v.toNat)) ?_ N 0 ⟨0, rfl, Nat.zero_le _⟩ (by simpa using hN)).trans (by simp)
  rintro v r ⟨i, rfl, hi⟩ hr
  rw [zlk]
  simp only [Int.toNat_natCast]
  rcases Nat.lt_or_ge i s.length with hlt | hge
  . rw [zl (z37 (by omega)), zl (z1y hlt), zn0 _ hlt, z2j (by omega), hr _ ⟨i + 1, rfl, by omega⟩ (by simp; omega), Int.toNat_natCast]
    have hg : s.getD i ((0 : Int), (([] : List UInt8), ())) = s[i] := by simp [List.getD, List.getElem?_eq_getElem hlt]
    rw [hg]
    cases s[i].1 == f.1 <;> rfl
  . rw [z19 (z4j (by omega)), List.drop_of_length_le hge]
    rfl

theorem zto (N : Nat) {ks : List znd} {num : Int} (hl : ks.length <= 1000) (hN : ks.length < N) : z6m N ks num = some (zjr (fun k => k.1 == num) ks 0) := by
  rw [z6m, zxv N hl hN]
  rfl

theorem zso (N : Nat) {s : List zdj} {f : List UInt8 × Unit} (hl : s.length <= 1000) (hN : s.length < N) : zc5 N s f = some (zjr (fun k => k.1 == f.1) s 0) := by
  rw [zc5, zk7]
  refine (z4i (fun v => ∃ (i : Nat), v = (i : Int) /\ i <= s.length) (fun v => s.length - v.toNat) (fun v => some (zjr (fun k => k.1 == f.1) (s.drop v.toNat) v.toNat)) ?_ N 0 ⟨0, rfl, Nat.zero_le _⟩ (by simpa using hN)).trans (by simp)
  rintro v r ⟨i, rfl, hi⟩ hr
  rw [zdg]
  simp only [Int.toNat_natCast]
  rcases Nat.lt_or_ge i s.length with hlt | hge
  . rw [zl (z37 (by omega)), zl (z1y hlt), zn0 _ hlt, z2j (by omega), hr _ ⟨i + 1, rfl, by omega⟩ (by simp; omega), Int.toNat_natCast]
    have hg : s.getD i (([] : List UInt8), ((0 : Int), ((0 : Int), (([] : List (Int × (List UInt8 × Unit))), ())))) = s[i] := by simp [List.getD, List.getElem?_eq_getElem hlt]
    rw [hg]
    cases s[i].1 == f.1 <;> rfl
  . rw [z19 (z4j (by omega)), List.drop_of_length_le hge]
    rfl

theorem zn3 (N : Nat) {s : zi1} {nm : List UInt8} (hl : s.1.length <= 1000) (hN : s.1.length < N) : z6z N s nm = some (zjr (fun t => t.1 == nm) s.1 0) := by
  rw [z6z, zso N hl hN]
  rfl

theorem z136 (N : Nat) (hN : 40 < N) (e : EvD) : zdp N e = some (zlm e) := by
  rw [zdp, zgs, zlm, z11e N hN, Option.bind_some]
  by_cases k1 : e.1 = 1
  . rw [if_pos k1]
    simp only [k1, zca, Option.bind_some, beq_self_eq_true, cond_true]
    cases z88 e.2.1 <;> cases zah e.2.2.1 1 <;> cases zah e.2.2.2.1 0 <;> rfl
  have b1 : (e.1 == (1 : Int)) = false := beq_eq_false_iff_ne.2 k1
  rw [if_neg k1]
  by_cases k2 : e.1 = 2
  . rw [if_pos k2]
    have hl : ((((List.length e.2.2.2.2.1) : Nat) : Int) == (32 : Int)) = decide (e.2.2.2.2.1.length = 32) := by
      by_cases h : e.2.2.2.2.1.length = 32
      . rw [decide_eq_true h, h]; rfl
      . rw [decide_eq_false h, beq_eq_false_iff_ne]; omega
    simp only [b1, k2, zca, Option.bind_some, beq_self_eq_true, cond_true, cond_false, hl]
    cases z88 e.2.1 <;> cases zah e.2.2.1 1 <;> cases (e.2.2.2.1 == (0 : Int)) <;> rfl
  have b2 : (e.1 == (2 : Int)) = false := beq_eq_false_iff_ne.2 k2
  rw [if_neg k2]
  by_cases k3 : e.1 = 3
  . rw [if_pos k3]
    simp only [b1, b2, k3, zca, Option.bind_some, beq_self_eq_true, cond_true, cond_false]
    cases z88 e.2.1 <;> cases zah e.2.2.1 1 <;> cases (e.2.2.2.1 == (0 : Int)) <;> rfl
  have b3 : (e.1 == (3 : Int)) = false := beq_eq_false_iff_ne.2 k3
  rw [if_neg k3]
  by_cases k4 : e.1 = 4
  . rw [if_pos k4]
    simp only [b1, b2, b3, k4, zca, Option.bind_some, beq_self_eq_true, cond_true, cond_false]
    cases z88 e.2.1 <;> cases zah e.2.2.1 1 <;> cases zah e.2.2.1 0 <;> cases (e.2.1 == ([] : List UInt8)) <;> cases (e.2.2.2.1 == (0 : Int)) <;> rfl
  have b4 : (e.1 == (4 : Int)) = false := beq_eq_false_iff_ne.2 k4
  rw [if_neg k4]
  simp only [b1, b2, b3, b4, zca, Option.bind_some, cond_false]
  cases z88 e.2.1 <;> cases zah e.2.2.1 1 <;> rfl

theorem zy7 (N : Nat) (hN : 40 < N) {s : zi1} (e : EvD) (hr : z3g s = true) : zrq N s e.1 e.2.1 e.2.2.1 e.2.2.2.1 e.2.2.2.2.1 = some (z6h s e) := by
  obtain ⟨r1, r2, r3⟩ := z53.1 hr
  unfold zrq z6h
  by_cases k4 : e.1 = 4
  . rw [if_pos k4, if_pos k4]
    split <;> rfl
  rw [if_neg k4, if_neg k4, zn3 N (by omega) (by omega), Option.bind_some]
  rcases z3n (fun t : zdj => t.1 == e.2.1) s.1 0 with ⟨h1, h2⟩ | ⟨j, h1, hj, h3⟩
  . rw [h1]
    by_cases k1 : e.1 = 1
    . rw [if_pos k1, if_pos k1, if_neg (show ¬ (0 : Int) <= -1 by decide), if_neg (show ¬ (0 : Int) <= -1 by decide)]
      split <;> rfl
    . rw [if_neg k1, if_neg k1, if_pos (show (-1 : Int) < 0 by decide), if_pos (show (-1 : Int) < 0 by decide)]
  . have hget : s.1.getD j z92 = s.1[j] := by simp [List.getD, List.getElem?_eq_getElem hj]
    rw [Nat.zero_add] at h1
    rw [h1, Int.toNat_natCast, hget, List.getElem?_eq_getElem hj]
    by_cases k1 : e.1 = 1
    . rw [if_pos k1, if_pos k1, if_pos (by omega), if_pos (by omega)]
      dsimp only
      split <;> rfl
    . rw [if_neg k1, if_neg k1, if_neg (by omega), if_neg (by omega)]
      dsimp only
      have ht := z5q (z6v r3 _ (List.getElem_mem hj))
      generalize s.1[j] = t at ht
      have hy : (if e.1 = 2 then zrz N t e.2.2.1 e.2.2.2.2.1 else zn5 N t e.2.2.1) = some (z7t t e.1 e.2.2.1 e.2.2.2.2.1) := by
        unfold z7t zrz zn5
        rw [zto N (by omega) (by omega), Option.bind_some, Option.bind_some]
        by_cases k2 : e.1 = 2
        . rw [if_pos k2, if_pos k2]
          by_cases c1 : t.2.2.1 <= e.2.2.1
          . rw [if_pos c1, if_pos c1]
          . rw [if_neg c1, if_neg c1]
            split
            . rfl
            . split <;> rfl
        . rw [if_neg k2, if_neg k2]
          rcases z3n (fun k : znd => k.1 == e.2.2.1) t.2.2.2.1 0 with ⟨g1, g2⟩ | ⟨i, g1, g2, g3⟩
          . rw [g1, if_pos (show (-1 : Int) < 0 by decide), if_pos (show (-1 : Int) < 0 by decide)]
          . rw [Nat.zero_add] at g1
            rw [g1, Int.toNat_natCast, if_neg (show ¬ (i : Int) < 0 by omega), if_neg (show ¬ (i : Int) < 0 by omega), if_pos g2]
      rw [hy, Option.bind_some]
      rfl

theorem z117 (N : Nat) (hN : 40 < N) (s : zi1) (e : EvD) : zdq N s e = some (za7 s e) := by
  unfold zdq za7
  rw [zz2 N hN, Option.bind_some]
  cases hr : z3g s with
  | false => rfl
  | true =>
    rw [if_neg (show ¬ (true = false) by decide), if_neg (show ¬ (true = false) by decide), z136 N hN, Option.bind_some]
    cases hf : zlm e with
    | false => rfl
    | true =>
      obtain ⟨r1, r2, r3⟩ := z53.1 hr
      have hg : s.1.length <= 16 /\ (s.1.all fun t => decide (t.2.2.2.1.length < 256)) = true := by
        refine ⟨r1, List.all_eq_true.2 fun t ht => ?_⟩
        have := (z5q (z6v r3 t ht)).2.2.2.1
        exact decide_eq_true (by omega)
      rw [if_neg (show ¬ (true = false) by decide), if_neg (show ¬ (true = false) by decide), if_pos hg, zy7 N hN e hr, Option.bind_some]
      split <;> rfl

theorem z111 (N : Nat) {s : zi1} (hr : z3g s = true) : zdo N s = some s := by
  obtain ⟨r1, r2, r3⟩ := z53.1 hr
  unfold zdo
  refine if_pos ⟨by omega, List.all_eq_true.2 fun t ht => ?_⟩
  have := (z5q (z6v r3 t ht)).2.2.2.1
  exact decide_eq_true (by omega)

def dEv : EvD := ((0 : Int), (([] : List UInt8), ((0 : Int), ((0 : Int), (([] : List UInt8), ())))))

theorem z158 (N : Nat) (hN : 40 < N) {s : zi1} {l : List EvD} (hr : z3g s = true) (hl : l.length < N) (hb : l.length <= 1000000) : zib N s l = some (z15a s l) := by
  rw [zib, zz2 N hN, Option.bind_some, hr, Bool.not_true, cond_false, z111 N hr, Option.bind_some, zqi]
  refine (z4i (fun v => ∃ (i : Nat), v.2 = (i : Int) /\ i <= l.length) (fun v => l.length - v.2.toNat) (fun v => some (z15a v.1 (l.drop v.2.toNat))) ?_ N (s, 0) ⟨0, rfl, Nat.zero_le _⟩ (by simpa using hl)).trans (by rfl)
  rintro ⟨a, v⟩ r ⟨i, hv, hi⟩ hr
  dsimp only at hv
  subst hv
  rw [zkm]
  simp only [Int.toNat_natCast]
  rcases Nat.lt_or_ge i l.length with hlt | hge
  . rw [zl (z37 (by omega)), zl (z1y hlt), z4b l dEv i hlt, z15a]
    rw [show ((0 : Int), (([] : List UInt8), ((0 : Int), ((0 : Int), (([] : List UInt8), ()))))) = dEv from rfl, z117 N hN, Option.bind_some, z2j (by omega), hr _ ⟨i + 1, rfl, by omega⟩ (by simp; omega)]
    simp only [Int.toNat_natCast]
    by_cases h : (za7 a (l.getD i dEv)).2.1 = 0
    . rw [if_pos h, h]; rfl
    . rw [if_neg h, zl (bne_iff_ne.2 h)]; rfl
  . rw [z19 (z4j (by omega)), List.drop_of_length_le hge]
    rfl

end
end Go.Proofs.YtobbmaplbpdniaaLg

set_option linter.all false
set_option maxRecDepth 100000
namespace Go.Proofs.YtobbmaplbpdniaaLg
noncomputable section
open Go Go.Lift Go.Proofs.YtobbmaplbpdniaaPx

theorem zqo (N : Nat) {s : List znd} {num : Int} (hl : s.length <= 1000) (hN : s.length < N) : z3h N s num = some (zjr (fun k => k.1 == num) s 0) := by
  rw [z3h, zcq]
  refine (z4i (fun v => ∃ (i : Nat), v = (i : Int) /\ i <= s.length) (fun v => s.length - v.toNat) (fun v => some (zjr (fun k => k.1 == num) (s.drop v.toNat) v.toNat)) ?_ N 0 ⟨0, rfl, Nat.zero_le _⟩ (by simpa using hN)).trans (by simp)
  rintro v r ⟨i, rfl, hi⟩ hr
  rw [z74]
  simp only [Int.toNat_natCast]
  rcases Nat.lt_or_ge i s.length with hlt | hge
  . rw [zl (z37 (by omega)), zl (z1y hlt), zn0 _ hlt, z2j (by omega), hr _ ⟨i + 1, rfl, by omega⟩ (by simp; omega), Int.toNat_natCast]
    have hg : s.getD i ((0 : Int), (([] : List UInt8), ())) = s[i] := by simp [List.getD, List.getElem?_eq_getElem hlt]
    rw [hg]
    cases s[i].1 == num <;> rfl
  . rw [z19 (z4j (by omega)), List.drop_of_length_le hge]
    rfl

theorem zcf (N : Nat) {s : zi1} {nm : List UInt8} (hl : s.1.length <= 1000) (hN : s.1.length < N) : z2d N s nm = some (zjr (fun t => t.1 == nm) s.1 0) := by
  rw [z2d, zbc]
  refine (z4i (fun v => ∃ (i : Nat), v = (i : Int) /\ i <= s.1.length) (fun v => s.1.length - v.toNat) (fun v => some (zjr (fun t => t.1 == nm) (s.1.drop v.toNat) v.toNat)) ?_ N 0 ⟨0, rfl, Nat.zero_le _⟩ (by simpa using hN)).trans (by simp)
  rintro v r ⟨i, rfl, hi⟩ hr
  rw [z69]
  simp only [Int.toNat_natCast]
  rcases Nat.lt_or_ge i s.1.length with hlt | hge
  . rw [zl (z37 (by omega)), zl (z1y hlt), zn0 _ hlt, z2j (by omega), hr _ ⟨i + 1, rfl, by omega⟩ (by simp; omega), Int.toNat_natCast]
    have hg : s.1.getD i (([] : List UInt8), ((0 : Int), ((0 : Int), (([] : List (Int × (List UInt8 × Unit))), ())))) = s.1[i] := by simp [List.getD, List.getElem?_eq_getElem hlt]
    rw [hg]
    cases s.1[i].1 == nm <;> rfl
  . rw [z19 (z4j (by omega)), List.drop_of_length_le hge]
    rfl

theorem zw0 (N : Nat) (hN : 101 < N) (e : EvD) : z49 N e = some (zlm e) := by
  rw [z49, z68, z67, zlm, zt7 N (by omega)]
  have hl : ((((List.length e.2.2.2.2.1) : Nat) : Int) != (32 : Int)) = !decide (e.2.2.2.2.1.length = 32) := by
    by_cases h : e.2.2.2.2.1.length = 32
    . rw [decide_eq_true h, h]; rfl
    . rw [decide_eq_false h, Bool.not_false, bne_iff_ne]; omega
  simp only [zuk, Option.bind_some, hl]
  by_cases k1 : e.1 = 1
  . rw [if_pos k1]
    simp only [k1, Int.reduceLT, decide_false, decide_true, cond_true, cond_false, Int.reduceBNe, Int.reduceBEq]
    cases z88 e.2.1 <;> cases zah e.2.2.1 1 <;> cases zah e.2.2.2.1 0 <;> cases (e.2.2.2.2.1 == ([] : List UInt8)) <;> rfl
  rw [if_neg k1]
  have h0 : zah 0 0 = true := by decide
  by_cases k2 : e.1 = 2
  . rw [if_pos k2]
    simp only [k2, Int.reduceLT, decide_false, decide_true, cond_true, cond_false, Int.reduceBNe, Int.reduceBEq]
    by_cases he : e.2.2.2.1 = 0
    . rw [he]
      simp only [Int.reduceBNe, h0, cond_false, Int.reduceBEq]
      cases z88 e.2.1 <;> cases zah e.2.2.1 1 <;> cases decide (e.2.2.2.2.1.length = 32) <;> rfl
    . rw [zl (bne_iff_ne.2 he), beq_eq_false_iff_ne.2 he]
      cases z88 e.2.1 <;> cases zah e.2.2.1 1 <;> rfl
  rw [if_neg k2]
  by_cases k3 : e.1 = 3
  . rw [if_pos k3]
    simp only [k3, Int.reduceLT, decide_false, decide_true, cond_true, cond_false, Int.reduceBNe, Int.reduceBEq]
    by_cases he : e.2.2.2.1 = 0
    . rw [he]
      simp only [Int.reduceBNe, h0, cond_false, Int.reduceBEq]
      cases z88 e.2.1 <;> cases zah e.2.2.1 1 <;> cases (e.2.2.2.2.1 == ([] : List UInt8)) <;> rfl
    . rw [zl (bne_iff_ne.2 he), beq_eq_false_iff_ne.2 he]
      cases z88 e.2.1 <;> cases zah e.2.2.1 1 <;> rfl
  rw [if_neg k3]
  by_cases k4 : e.1 = 4
  . rw [if_pos k4]
    simp only [k4, Int.reduceLT, decide_false, decide_true, cond_true, cond_false, Int.reduceBNe, Int.reduceBEq]
    by_cases he : e.2.2.2.1 = 0
    . rw [he]
      simp only [Int.reduceBNe, h0, cond_false, Int.reduceBEq]
      cases zah e.2.2.1 0 <;> cases (e.2.1 == ([] : List UInt8)) <;> cases (e.2.2.2.2.1 == ([] : List UInt8)) <;> rfl
    . rw [zl (bne_iff_ne.2 he), beq_eq_false_iff_ne.2 he]
      cases zah e.2.2.1 0 <;> cases (e.2.1 == ([] : List UInt8)) <;> rfl
  rw [if_neg k4]
  by_cases c1 : e.1 < 1
  . rw [zl (z37 c1)]; rfl
  . rw [z19 (z4j c1), zl (z37 (by omega))]; rfl

def zs0 (k : znd) : List znd -> Bool -> List znd
  | [], done => if done = true then [] else [k]
  | x :: l, done => (if done = false /\ k.1 < x.1 then [k] else []) ++ x :: zs0 k l (done || decide (k.1 < x.1))

theorem zsx (k : znd) : ∀ l : List znd, zs0 k l true = l
  | [] => rfl
  | x :: l => by rw [zs0, if_neg (by simp), Bool.true_or, zsx k l]; rfl

theorem zva (k : znd) : ∀ l : List znd, (∀ x ∈ l, x.1 ≠ k.1) -> zs0 k l false = l.take (zht l k.1) ++ [k] ++ l.drop (zht l k.1)
  | [], _ => rfl
  | x :: l, h => by
    have hx := h x List.mem_cons_self
    rw [zs0]
    unfold zht
    rw [List.takeWhile_cons]
    by_cases hlt : x.1 < k.1
    . rw [decide_eq_true hlt, if_pos rfl, if_neg (by omega), List.length_cons, List.take_succ_cons, List.drop_succ_cons, decide_eq_false (by omega), Bool.or_false, zva k l (fun y hy => h y (List.mem_cons_of_mem _ hy))]
      rfl
    . rw [decide_eq_false hlt, if_neg (show ¬ (false = true) by decide), if_pos ⟨rfl, by omega⟩, decide_eq_true (show k.1 < x.1 by omega), Bool.false_or, zsx]
      rfl

theorem z11f (N : Nat) {l : List znd} {k : znd} (hl : l.length <= 1000) (hN : l.length < N) : z48 N l k = some (zs0 k l false) := by
  rw [z48, zaw]
  refine (z4i (fun v => ∃ (i : Nat), v.2.2 = (i : Int) /\ i <= l.length /\ v.1.length <= 2 * i) (fun v => l.length - v.2.2.toNat) (fun v => some (v.1 ++ zs0 k (l.drop v.2.2.toNat) v.2.1)) ?_ N ([], false, 0) ⟨0, rfl, Nat.zero_le _, Nat.zero_le _⟩ (by simpa using hN)).trans (by simp)
  rintro ⟨o, d, v⟩ r ⟨i, hv, hi, ho⟩ hr
  dsimp only at hv ho
  subst hv
  rw [z62, z65, z64, z63]
  simp only [Int.toNat_natCast]
  rcases Nat.lt_or_ge i l.length with hlt | hge
  . rw [show ((0 : Int), (([] : List UInt8), ())) = zzs from rfl, zl (z37 (by omega))]
    simp only [z1y hlt, cond_true, z2j (show i < 9223372036854775807 by omega)]
    rw [z4b l zzs i hlt, zs0]
    have hrec : ∀ o' d', o'.length <= 2 * (i + 1) -> r (o', d', ((i + 1 : Nat) : Int)) = some (o' ++ zs0 k (l.drop (i + 1)) d') := fun o' d' h => by
      rw [hr _ ⟨i + 1, rfl, by omega, h⟩ (by simp; omega)]
      simp only [Int.toNat_natCast]
    rw [zl (z37 (show (o.length + 1) * 24 <= 70368744177664 by omega)), zl (z37 (show (o.length + 1) * 24 <= 70368744177664 by omega))]
    rw [zl (z37 (show ((o ++ [k]).length + 1) * 24 <= 70368744177664 by rw [List.length_append, List.length_singleton]; omega))]
    have e1 := hrec (o ++ [l.getD i zzs]) 
    have e2 := hrec (o ++ [k] ++ [l.getD i zzs]) true (by simp; omega)
    cases d with
    | true =>
      simp only [Bool.not_true, cond_false, Bool.true_eq_false, false_and, if_false, Bool.true_or, List.nil_append]
      rw [e1 true (by simp; omega)]; simp
    | false =>
      simp only [Bool.not_false, cond_true, true_and, Bool.false_or]
      by_cases hk : k.1 < (l.getD i zzs).1
      . rw [decide_eq_true hk, cond_true, if_pos hk, e2]; simp
      . rw [decide_eq_false hk, cond_false, if_neg hk, e1 false (by simp; omega)]; simp
  . rw [z19 (z4j (by omega)), List.drop_of_length_le hge, zs0, zl (z37 (show (o.length + 1) * 24 <= 70368744177664 by omega))]
    cases d with
    | true => simp
    | false => simp

def z10e (t : zdj) : List zdj -> Bool -> List zdj
  | [], done => if done = true then [] else [t]
  | x :: l, done => (if done = false /\ 0 <= zd2 x.1 t.1 then [t] else []) ++ ((if zd2 x.1 t.1 = 0 then [] else [x]) ++ z10e t l (done || decide (0 <= zd2 x.1 t.1)))

theorem zqq (t : zdj) : ∀ l : List zdj, (∀ x ∈ l, zd2 x.1 t.1 ≠ 0) -> z10e t l true = l
  | [], _ => rfl
  | x :: l, h => by
    rw [z10e, if_neg (by simp), if_neg (h x List.mem_cons_self), Bool.true_or, zqq t l (fun y hy => h y (List.mem_cons_of_mem _ hy))]; rfl

theorem zz9 (t : zdj) : ∀ l : List zdj, (∀ x ∈ l, x.1 ≠ t.1) -> z10e t l false = l.take (zaa l t.1) ++ [t] ++ l.drop (zaa l t.1)
  | [], _ => rfl
  | x :: l, h => by
    have hx : zd2 x.1 t.1 ≠ 0 := fun e => h x List.mem_cons_self (zn7 _ _ e)
    rw [z10e, if_neg hx]
    unfold zaa
    rw [List.takeWhile_cons, zv1]
    by_cases hlt : zd2 x.1 t.1 < 0
    . rw [decide_eq_true hlt, if_pos rfl, if_neg (by omega), List.length_cons, List.take_succ_cons, List.drop_succ_cons, decide_eq_false (by omega), Bool.or_false, zz9 t l (fun y hy => h y (List.mem_cons_of_mem _ hy))]
      rfl
    . rw [decide_eq_false hlt, if_neg (show ¬ (false = true) by decide), if_pos ⟨rfl, by omega⟩, decide_eq_true (show 0 <= zd2 x.1 t.1 by omega), Bool.false_or, zqq t l (fun y hy e => h y (List.mem_cons_of_mem _ hy) (zn7 _ _ e))]
      rfl

theorem z123 (t : zdj) : ∀ {l : List zdj} {p : Option (List UInt8)} (j : Nat) (hj : j < l.length), z7x p l = true -> l[j].1 = t.1 -> z10e t l false = l.take j ++ t :: l.drop (j + 1)
  | [], _, j, hj, _, _ => by cases hj
  | x :: l, p, 0, _, h, e => by
    obtain ⟨h1, h2, h3⟩ := z3f.1 h
    have e' : x.1 = t.1 := e
    have hz : zd2 x.1 t.1 = 0 := by rw [e', zrp]
    rw [z10e, hz, if_pos ⟨rfl, by omega⟩, if_pos rfl, decide_eq_true (by omega), Bool.false_or, zqq t l (fun y hy e2 => by
      have := znh h3 y hy
      rw [e', <- zn7 _ _ e2, zrp] at this
      omega)]
    rfl
  | x :: l, p, j + 1, hj, h, e => by
    obtain ⟨h1, h2, h3⟩ := z3f.1 h
    have hj' : j < l.length := by simpa using hj
    have hlt : zd2 x.1 t.1 < 0 := by
      have := znh h3 l[j] (List.getElem_mem hj')
      rwa [show l[j].1 = t.1 from e] at this
    rw [z10e, if_neg (by omega), if_neg (by omega), decide_eq_false (by omega), Bool.or_false, z123 t j (by simpa using hj) h3 e]
    rfl

theorem zz8 (N : Nat) {s : zi1} {t : zdj} (hl : s.1.length <= 1000) (hN : s.1.length < N) (h100 : 101 < N) (hs : ∀ x ∈ s.1, x.1.length <= 100) : z2k N s t = some (z10e t s.1 false, s.2) := by
  rw [z2k, zch]
  refine (z4i (fun v => ∃ (i : Nat), v.2.2 = (i : Int) /\ i <= s.1.length /\ v.1.1.length <= 2 * i /\ v.1.2 = s.2) (fun v => s.1.length - v.2.2.toNat) (fun v => some (v.1.1 ++ z10e t (s.1.drop v.2.2.toNat) v.2.1, s.2)) ?_ N (([], (s.2.1, ())), false, 0) ⟨0, rfl, Nat.zero_le _, Nat.zero_le _, rfl⟩ (by simpa using hN)).trans (by simp)
  rintro ⟨⟨o, o2⟩, d, v⟩ r ⟨i, hv, hi, ho, ho2⟩ hr
  dsimp only at hv ho ho2
  subst hv ho2
  rw [z70, z73]
  simp only [z72, z71, Int.toNat_natCast]
  rcases Nat.lt_or_ge i s.1.length with hlt | hge
  . rw [show (([] : List UInt8), ((0 : Int), ((0 : Int), (([] : List (Int × (List UInt8 × Unit))), ())))) = z92 from rfl, zl (z37 (by omega))]
    have hm := hs _ (zn1 s.1 z92 i hlt)
    simp only [z1y hlt, cond_true, z2j (show i < 9223372036854775807 by omega)]
    rw [zz5 N (by omega) (by omega), Option.bind_some, z4b s.1 z92 i hlt, z10e]
    have hrec : ∀ o' d', o'.length <= 2 * (i + 1) -> r ((o', s.2), d', ((i + 1 : Nat) : Int)) = some (o' ++ z10e t (s.1.drop (i + 1)) d', s.2) := fun o' d' h => by
      rw [hr _ ⟨i + 1, rfl, by omega, h, rfl⟩ (by simp; omega)]
      simp only [Int.toNat_natCast]
    have e1 : ∀ d', r ((o ++ [s.1.getD i z92], s.2), d', ((i + 1 : Nat) : Int)) = _ := fun d' => hrec (o ++ [s.1.getD i z92]) d' (by simp; omega)
    have e2 := hrec (o ++ [t] ++ [s.1.getD i z92]) true (by simp; omega)
    have e3 : ∀ d', r ((o, s.2), d', ((i + 1 : Nat) : Int)) = _ := fun d' => hrec o d' (by omega)
    have e4 := hrec (o ++ [t]) true (by simp; omega)
    have g1 : decide ((o.length + 1) * 56 <= 70368744177664) = true := z37 (by omega)
    have g2 : decide (((o ++ [t]).length + 1) * 56 <= 70368744177664) = true := z37 (by rw [List.length_append, List.length_singleton]; omega)
    simp only [g1, g2, cond_true]
    generalize zd2 (s.1.getD i z92).1 t.1 = c
    by_cases hz : c = 0
    . subst hz
      cases d with
      | true =>
        simp only [Bool.not_true, cond_false, bne_self_eq_false, e3]
        simp
      | false =>
        simp only [Bool.not_false, cond_true, show decide ((0 : Int) <= 0) = true from rfl, bne_self_eq_false, cond_false, e4]
        simp
    . have hb : (c != (0 : Int)) = true := bne_iff_ne.2 hz
      simp only [hb, cond_true, if_neg hz]
      cases d with
      | true =>
        simp only [Bool.not_true, cond_false, e1]
        simp
      | false =>
        by_cases hk : 0 <= c
        . simp only [Bool.not_false, cond_true, decide_eq_true hk, e2, true_and, if_pos hk, Bool.or_true]; simp
        . simp only [Bool.not_false, cond_true, decide_eq_false hk, cond_false, e1, true_and, if_neg hk, Bool.or_false]; simp
  . rw [z19 (z4j (by omega)), List.drop_of_length_le hge, z10e, zl (z37 (show (o.length + 1) * 56 <= 70368744177664 by omega))]
    cases d with
    | true => simp
    | false => simp

theorem zul (N : Nat) (hN : 101 < N) {s : zi1} (hs : ∀ x ∈ s.1, x.1.length <= 100) (e : EvD) : z3i N s e = some (za7 s e) := by
  unfold z3i za7
  rw [zme N hN hs, Option.bind_some]
  cases hr : z3g s with
  | false => rfl
  | true =>
    rw [Bool.not_true, cond_false, if_neg (show ¬ (true = false) by decide), zw0 N hN, Option.bind_some]
    cases hf : zlm e with
    | false => rfl
    | true =>
      obtain ⟨r1, r2, r3⟩ := z53.1 hr
      rw [Bool.not_true, cond_false, if_neg (show ¬ (true = false) by decide), z6h]
      by_cases k4 : e.1 = 4
      . rw [if_pos k4, k4, zl (by decide)]
        by_cases h : e.2.2.1 < s.2.1
        . rw [if_pos h, zl (z37 h)]; rfl
        . rw [if_neg h, z19 (z4j h)]; rfl
      rw [if_neg k4, z19 (beq_eq_false_iff_ne.2 k4), zcf N (by omega) (by omega), Option.bind_some, z5n]
      rcases z3n (fun t : zdj => t.1 == e.2.1) s.1 0 with ⟨h1, h2⟩ | ⟨j, h1, hj, h3⟩
      . have hne : ∀ x ∈ s.1, x.1 ≠ e.2.1 := fun x hx e' => by have := h2 x hx; rw [e', beq_self_eq_true] at this; cases this
        rw [h1, z19 (by decide)]
        by_cases k1 : e.1 = 1
        . have hf' : zah e.2.2.1 1 = true /\ zah e.2.2.2.1 0 = true := by
            unfold zlm at hf
            rw [if_pos k1] at hf
            simp only [Bool.and_eq_true] at hf
            exact ⟨hf.2.1, hf.2.2.1⟩
          have i1 := z14u.1 hf'.1
          have i2 := z14u.1 hf'.2
          rw [if_pos k1, if_neg (show ¬ (0 : Int) <= -1 by decide), k1, zl (by decide), z3e, z3d, zl (by decide)]
          by_cases h16 : s.1.length = 16
          . rw [if_pos h16, h16]; rfl
          . rw [if_neg h16, z19 (beq_eq_false_iff_ne.2 (by omega)), z3c, z3b, z19 (z4j (by dsimp only; omega)), z19 (z4j (by dsimp only; omega)), zz8 N (by omega) (by omega) hN hs, Option.bind_some, zz9 _ _ hne]
            rfl
        . rw [if_neg k1, if_pos (show (-1 : Int) < 0 by decide), z19 (beq_eq_false_iff_ne.2 k1), zl (by decide)]
          rfl
      . have hget : s.1.getD j z92 = s.1[j] := by simp [List.getD, List.getElem?_eq_getElem hj]
        rw [Nat.zero_add] at h1
        rw [h1, Int.toNat_natCast, zl (z37 (by omega)), zl (z1y hj), show (([] : List UInt8), ((0 : Int), ((0 : Int), (([] : List (Int × (List UInt8 × Unit))), ())))) = z92 from rfl, hget]
        have hput : ∀ r, z2k N s (s.1[j].1, r) = some (z145 s j (s.1[j].1, r)) := fun r => by
          rw [zz8 N (by omega) (by omega) hN hs, z123 (s.1[j].1, r) j hj r3 rfl]; rfl
        by_cases k1 : e.1 = 1
        . rw [if_pos k1, if_pos (show (0 : Int) <= (j : Int) by omega), k1, zl (by decide), z3e, z3d, z19 (z4j (by omega)), cond_false, z3c, z3b]
          by_cases c1 : e.2.2.2.1 < s.1[j].2.1
          . rw [zl (z37 c1), if_pos (show (e.2.2.2.1 < s.1[j].2.1 \/ e.2.2.1 < s.1[j].2.2.1) from .inl c1)]; rfl
          . rw [z19 (z4j c1)]
            by_cases c2 : e.2.2.1 < s.1[j].2.2.1
            . rw [decide_eq_true c2, if_pos (show (e.2.2.2.1 < s.1[j].2.1 \/ e.2.2.1 < s.1[j].2.2.1) from .inr c2)]; rfl
            . rw [decide_eq_false c2, if_neg (show ¬ (e.2.2.2.1 < s.1[j].2.1 \/ e.2.2.1 < s.1[j].2.2.1) by omega), cond_false, hput, Option.bind_some]
              rfl
        . have ht := z5q (z6v r3 _ (List.getElem_mem hj))
          rw [if_neg k1, if_neg (show ¬ (j : Int) < 0 by omega), z19 (beq_eq_false_iff_ne.2 k1), z19 (z4j (by omega))]
          generalize s.1[j] = t at ht hput
          rw [zqo N (by omega) (by omega), Option.bind_some]
          by_cases k3 : e.1 = 3
          . unfold z7t
            rw [k3, zl (by decide), if_neg (show ¬ (3 : Int) = 2 by decide)]
            rcases z3n (fun k : znd => k.1 == e.2.2.1) t.2.2.2.1 0 with ⟨g1, g2⟩ | ⟨i, g1, g2, g3⟩
            . rw [g1, zl (by decide), if_pos (show (-1 : Int) < 0 by decide)]; rfl
            . rw [Nat.zero_add] at g1
              have hw : IntKind.wrap .i64 ((i : Int) + 1) = ((i + 1 : Nat) : Int) := z2j (by omega)
              rw [g1, if_neg (show ¬ (i : Int) < 0 by omega), z19 (z4j (by omega)), zl (z37 (by omega)), hw]
              simp only [Int.toNat_natCast, z14x, z16o, List.nil_append]
              rw [zl (z37 (by rw [List.length_take]; omega)), zl (z37 (by omega)), zl (z37 (by rw [List.length_take, List.length_drop]; omega)), hput, Option.bind_some]
              rfl
          . have k2 : e.1 = 2 := by
              unfold zlm at hf
              by_cases k2 : e.1 = 2
              . exact k2
              . rw [if_neg k1, if_neg k2, if_neg k3, if_neg k4] at hf; cases hf
            unfold z7t
            rw [k2, z19 (by decide), if_pos rfl]
            by_cases c1 : t.2.2.1 <= e.2.2.1
            . rw [if_pos c1, zl (z37 c1)]; rfl
            . rw [if_neg c1, z19 (z4j c1)]
              rcases z3n (fun k : znd => k.1 == e.2.2.1) t.2.2.2.1 0 with ⟨g1, g2⟩ | ⟨i, g1, g2, g3⟩
              . rw [g1, if_neg (show ¬ (0 : Int) <= -1 by decide), z19 (by decide)]
                by_cases c2 : t.2.2.2.1.length = 8
                . rw [if_pos c2, c2]; rfl
                . have hne : ∀ x ∈ t.2.2.2.1, x.1 ≠ e.2.2.1 := fun x hx e' => by have := g2 x hx; rw [e', beq_self_eq_true] at this; cases this
                  rw [if_neg c2, z19 (beq_eq_false_iff_ne.2 (by omega)), z11f N (by omega) (by omega), Option.bind_some, hput, Option.bind_some, zva _ _ hne]
                  rfl
              . rw [Nat.zero_add] at g1
                rw [g1, if_pos (show (0 : Int) <= (i : Int) by omega), zl (z37 (by omega))]; rfl

theorem zr1 {s : zi1} (h : z3g s = true) : ∀ x ∈ s.1, x.1.length <= 100 := fun x hx => by
  have := zzy (z5q (z6v (z53.1 h).2.2 x hx)).1
  omega

theorem zxf (N : Nat) (hN : 101 < N) {s : zi1} {l : List EvD} (hr : z3g s = true) (hl : l.length < N) (hb : l.length <= 1000000) : z4u N s l = some (z15a s l) := by
  rw [z4u, zme N hN (zr1 hr), Option.bind_some, hr, Bool.not_true, cond_false, zcw]
  refine (z4i (fun v => z3g v.1 = true /\ ∃ (i : Nat), v.2 = (i : Int) /\ i <= l.length) (fun v => l.length - v.2.toNat) (fun v => some (z15a v.1 (l.drop v.2.toNat))) ?_ N (s, 0) ⟨hr, 0, rfl, Nat.zero_le _⟩ (by simpa using hl)).trans (by rfl)
  rintro ⟨a, v⟩ r ⟨ha, i, hv, hi⟩ hr
  dsimp only at hv ha
  subst hv
  rw [z77]
  simp only [Int.toNat_natCast]
  rcases Nat.lt_or_ge i l.length with hlt | hge
  . rw [zl (z37 (by omega)), zl (z1y hlt), z4b l dEv i hlt, z15a]
    rw [show ((0 : Int), (([] : List UInt8), ((0 : Int), ((0 : Int), (([] : List UInt8), ()))))) = dEv from rfl, zul N hN (zr1 ha), Option.bind_some, z2j (by omega), hr _ ⟨zrv _ _, i + 1, rfl, by omega⟩ (by simp; omega)]
    simp only [Int.toNat_natCast]
    by_cases h : (za7 a (l.getD i dEv)).2.1 = 0
    . rw [if_pos h, h]; rfl
    . rw [if_neg h, zl (bne_iff_ne.2 h)]; rfl
  . rw [z19 (z4j (by omega)), List.drop_of_length_le hge]
    rfl

end
end Go.Proofs.YtobbmaplbpdniaaLg

set_option linter.all false
set_option maxRecDepth 100000
namespace Go.Proofs.YtobbmaplbpdniaaLg
noncomputable section
open Go Go.Lift Go.Proofs.YtobbmaplbpdniaaPx

theorem zsw (k : Nat) : z3j (k + 300) = some true := by kernel_rfl

theorem z11u (N : Nat) {s : zi1} (hl : s.1.length < N) (hb : s.1.length <= 1000) (hk : ∀ x ∈ s.1, x.2.2.2.1.length < N /\ x.2.2.2.1.length <= 1000) : z2a N s s = some true := by
  rw [z2a, z44, z43]
  simp only [bne_self_eq_false, cond_false]
  rw [z7a]
  refine (z4i (fun v => ∃ (i : Nat), v = (i : Int) /\ i <= s.1.length) (fun v => s.1.length - v.toNat) (fun v => some true) ?_ N 0 ⟨0, rfl, Nat.zero_le _⟩ (by simpa using hl))
  rintro v r ⟨i, rfl, hi⟩ hr
  rw [z3z]
  rcases Nat.lt_or_ge i s.1.length with hlt | hge
  . rw [zl (z37 (by omega)), z42]
    rw [show (([] : List UInt8), ((0 : Int), ((0 : Int), (([] : List (Int × (List UInt8 × Unit))), ())))) = z92 from rfl]
    simp only [z1y hlt, cond_true, z2j (show i < 9223372036854775807 by omega), Int.toNat_natCast]
    have hm := hk _ (zn1 s.1 z92 i hlt)
    generalize s.1.getD i z92 = t at hm
    rw [z41, z40]
    simp only [bne_self_eq_false, beq_self_eq_true, Bool.not_true, cond_false]
    rw [z79]
    refine (z4i (fun v => ∃ (k : Nat), v = (k : Int) /\ k <= t.2.2.2.1.length) (fun v => t.2.2.2.1.length - v.toNat) (fun v => some true) ?_ N 0 ⟨0, rfl, Nat.zero_le _⟩ (by simpa using hm.1))
    rintro v r' ⟨k, rfl, hk'⟩ hr'
    rw [z3y]
    rcases Nat.lt_or_ge k t.2.2.2.1.length with hlt' | hge'
    . rw [zl (z37 (by omega))]
      simp only [z1y hlt', cond_true, z2j (show k < 9223372036854775807 by omega), Int.toNat_natCast]
      refine (z19 (congrArg not (zzq (t := T.pair (T.int IntKind.i64) (T.pair T.str T.unit)) rfl (t.2.2.2.1.getD k ((0 : Int), (([] : List UInt8), ()))))) _ _).trans ?_
      exact hr' _ ⟨k + 1, rfl, by omega⟩ (by simp; omega)
    . rw [z19 (z4j (by omega))]
      exact hr _ ⟨i + 1, rfl, by omega⟩ (by simp; omega)
  . rw [z19 (z4j (by omega))]

theorem z104 (N : Nat) (hN : 40 < N) {s : zi1} (h : z3g s = true) : z2a N s s = some true := by
  obtain ⟨h1, h2, h3⟩ := z53.1 h
  refine z11u N (by omega) (by omega) fun x hx => ?_
  have := (z5q (z6v h3 x hx)).2.2.2.1
  omega

theorem z14p (N : Nat) (hN : 40 < N) {s : zi1} (h : z3g s = true) (tn : List UInt8) (num : Int) : ∃ y, zmb N s tn num = some y /\ z4s N s tn num = some y := by
  obtain ⟨h1, h2, h3⟩ := z53.1 h
  rw [zmb, z4s, zn3 N (by omega) (by omega), zcf N (by omega) (by omega), Option.bind_some, Option.bind_some]
  rcases z3n (fun t : zdj => t.1 == tn) s.1 0 with ⟨g1, g2⟩ | ⟨j, g1, hj, g3⟩
  . rw [g1]; exact ⟨_, rfl, rfl⟩
  . rw [Nat.zero_add] at g1
    rw [g1, show (([] : List UInt8), ((0 : Int), ((0 : Int), (([] : List (Int × (List UInt8 × Unit))), ())))) = z92 from rfl]
    have hm := (z5q (z6v h3 _ (zn1 s.1 z92 j hj))).2.2.2.1
    simp only [z1y hj, cond_true, Int.toNat_natCast, z19 (z4j (show ¬ (j : Int) < 0 by omega))]
    generalize s.1.getD j z92 = t at hm
    rw [zto N (by omega) (by omega), zqo N (by omega) (by omega), Option.bind_some]
    rcases z3n (fun k : znd => k.1 == num) t.2.2.2.1 0 with ⟨f1, f2⟩ | ⟨i, f1, hi, f3⟩
    . rw [f1]; exact ⟨_, rfl, rfl⟩
    . rw [Nat.zero_add] at f1
      rw [f1]
      simp only [z1y hi, cond_true, z19 (z4j (show ¬ (i : Int) < 0 by omega))]
      exact ⟨_, rfl, rfl⟩

theorem zxm (N : Nat) (hN : 40 < N) {s : zi1} (h : z3g s = true) (tn : List UInt8) : ∃ y, z8c N s tn = some y /\ z33 N s tn = some y := by
  obtain ⟨h1, h2, h3⟩ := z53.1 h
  rw [z8c, z33, zn3 N (by omega) (by omega), zcf N (by omega) (by omega), Option.bind_some, Option.bind_some, zd8, zd7, z4r, z4q]
  rcases z3n (fun t : zdj => t.1 == tn) s.1 0 with ⟨g1, g2⟩ | ⟨j, g1, hj, g3⟩
  . rw [g1]; exact ⟨_, rfl, rfl⟩
  . rw [Nat.zero_add] at g1
    rw [g1, show (([] : List UInt8), ((0 : Int), ((0 : Int), (([] : List (Int × (List UInt8 × Unit))), ())))) = z92 from rfl]
    have hm := (z5q (z6v h3 _ (zn1 s.1 z92 j hj))).2.2.2.1
    simp only [z1y hj, cond_true, Int.toNat_natCast, z19 (z4j (show ¬ (j : Int) < 0 by omega))]
    generalize s.1.getD j z92 = t at hm
    by_cases h0 : t.2.2.2.1.length = 0
    . rw [zl (beq_iff_eq.2 (by omega))]; exact ⟨_, rfl, rfl⟩
    . rw [beq_eq_false_iff_ne.2 (show ((t.2.2.2.1.length : Nat) : Int) ≠ 0 by omega)]
      simp only [cond_false]
      rw [zpr (x := ((t.2.2.2.1.length : Nat) : Int) - 1) (by unfold I64; omega), show ((t.2.2.2.1.length : Nat) : Int) - 1 = ((t.2.2.2.1.length - 1 : Nat) : Int) by omega]
      have hin : inR ((t.2.2.2.1.length - 1 : Nat) : Int) t.2.2.2.1.length = true := z1y (by omega)
      simp only [hin, cond_true]
      exact ⟨_, rfl, rfl⟩

theorem z125 (k : Nat) (l : List EvD) (tn : List UInt8) (num : Int) : z20 (k + 300) l tn num = some true := by
  rw [z20]
  by_cases hl : 60 < l.length
  . rw [zl (z37 (by omega)), zsw, Option.bind_some]
  . have h0 : z3g (([] : List zdj), ((0 : Int), ())) = true := rfl
    have hr := zx1 l h0
    obtain ⟨y1, e1, e2⟩ := z14p (k + 300) (by omega) hr tn num
    obtain ⟨y2, e3, e4⟩ := zxm (k + 300) (by omega) hr tn
    obtain ⟨q1, q2, q3⟩ := z53.1 hr
    rw [z19 (z4j (by omega)), z158 _ (by omega) h0 (by omega) (by omega), Option.bind_some, zxf _ (by omega) h0 (by omega) (by omega), Option.bind_some, z3l, z3k, bne_self_eq_false, cond_false, z104 _ (by omega) hr, Option.bind_some, Bool.not_true, cond_false,
      e1, e2, e3, e4, zn3 _ (by omega) (by omega), zcf _ (by omega) (by omega)]
    simp only [Option.bind_some, beq_self_eq_true, cond_true]
    rw [zzq (t := T.pair (T.int IntKind.i64) (T.pair T.str T.unit)) rfl, cond_true, zsw, Option.bind_some]

end
end Go.Proofs.YtobbmaplbpdniaaLg
