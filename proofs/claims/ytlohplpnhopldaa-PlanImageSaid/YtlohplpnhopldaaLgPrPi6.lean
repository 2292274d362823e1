import Derived.Test.YtlohplpnhopldaaLgPrPi5
import Derived.Laws.ResultCell
import Derived.WalkKit
import Derived.Tactics
import Derived.Tactics2
import Derived.Defers
import Derived.Lib.Hide
import Derived.Below
import Derived.WalkSmall
import Derived.LoopN
import Derived.Deep.RegionHeld3
import Derived.Deep.Cut
import Derived.KernelRfl
import Derived.Laws.Rows
import Derived.Test.YtlohplpnhopldaaLgPrPi2
import Derived.Test.YtlohplpnhopldaaChecked
import Derived.Test.YtlohplpnhopldaaLgPrPi1
import Derived.Test.YtlohplpnhopldaaLgPrPi3
set_option linter.all false
set_option maxRecDepth 100000
namespace Go.Proofs.YtlohplpnhopldaaLg
noncomputable section
open Go Go.Lift Go.Proofs

abbrev EvT : T := .pair (.int .i64) (.pair .str (.pair (.int .i64) (.pair (.int .i64) (.pair .str .unit))))

theorem zx1 {S : Hp} {e : EvT.den} {v : Value} (h : VR S EvT e v) : v = evV e.1 e.2.1 e.2.2.1 e.2.2.2.1 e.2.2.2.2.1 := by
  obtain ⟨cs, rfl, d1, d2, q1, k1, d3, d4, q2, k2, d5, d6, q3, k3, d7, d8, q4, k4, d9, d10, q5, k5, k6⟩ := h
  have i1 : d1 = [.int .i64 e.1] := k1
  have i2 : d3 = [.string ⟨⟨e.2.1⟩⟩] := k2
  have i3 : d5 = [.int .i64 e.2.2.1] := k3
  have i4 : d7 = [.int .i64 e.2.2.2.1] := k4
  have i5 : d9 = [.string ⟨⟨e.2.2.2.2.1⟩⟩] := k5
  have i6 : d10 = [] := k6
  unfold evV
  congr 1
  apply Array.toList_inj.1
  rw [q1, q2, q3, q4, q5, i1, i2, i3, i4, i5, i6]
  rfl

theorem ztr (N : Nat) {W : World} {S : Hp} (hS : Lift.Sub S (hp W)) {s : StT.den} {v : Value} {y : Bool} (hv : VR S StT s v) (hy : z38 N s = some y) :
    Calls Go.Proofs.Try.prog 13 #[v] W fun r w' => r = .returned (.bool y) /\ W.grownBy w' none := by
  refine ((z4p N).2 W S _ _ _ (z2a [(.v StT s, v)] (fun p hp => by rw [List.mem_singleton.1 hp]; exact ⟨⟨hv, rfl⟩, rfl⟩)) hS (z5r S) _ hy).mono ?_
  intro e w' he
  obtain ⟨v, o, S', rfl, hr, hc⟩ := zg4 he
  exact ⟨by rw [VR.bool_inv hr.1], hc⟩

theorem zwt (N : Nat) {W : World} {S : Hp} (hS : Lift.Sub S (hp W)) {e : EvT.den} {v : Value} {y : Bool} (hv : VR S EvT e v) (hy : z8v N e = some y) :
    Calls Go.Proofs.Try.prog 49 #[v] W fun r w' => r = .returned (.bool y) /\ W.grownBy w' none := by
  refine ((zpc N).2 W S _ _ _ (z2a [(.v EvT e, v)] (fun p hp => by rw [List.mem_singleton.1 hp]; exact ⟨⟨hv, rfl⟩, rfl⟩)) hS (z5r S) _ hy).mono ?_
  intro e w' he
  obtain ⟨v, o, S', rfl, hr, hc⟩ := zg4 he
  exact ⟨by rw [VR.bool_inv hr.1], hc⟩

def z8w (N : Nat) (s : StT.den) (e : EvT.den) : Option (StT.den × (Int × Unit)) :=
 (z38 N s).bind fun r =>
 if r = false then some (([], (0, ())), (7, ()))
 else (z8v N e).bind fun f =>
 if f = false then some (([], (0, ())), (2, ()))
 else if s.1.length <= 16 /\ (s.1.all fun t => decide (t.2.2.2.1.length < 256)) = true then
 (zl4 N s e.1 e.2.1 e.2.2.1 e.2.2.2.1 e.2.2.2.2.1).bind fun y => if y.1 = 0 then some (y.2, (0, ())) else some (([], (0, ())), (y.1, ()))
 else none

def zdo (N : Nat) : List A -> Res := z28 [(0, .v StT), (0, .v EvT)] (fun x => z8w N x.1 x.2.1) (z7w (.tup [StT, (.int .i64)]) 2)

theorem zvw {w w' : World} {S : Hp} {vals : List Value} {ob : Nat -> List Nat} {z : z2g [(0, .v StT), (0, .v EvT)]} {x : StT.den} {e : Int} {v : Value} (hS : Lift.Sub S (hp w)) (hob : ∀ i, ob i = []) (hwf : WF w (fun j => w.heap.size <= j) w')
    (hv : VR (fun k => if w.heap.size <= k then hp w' k else S k) StT x v) :
    Lift.Ends w S (mkS [(0, .v StT), (0, .v EvT)] 0 z) vals ob (z7w (.tup [StT, (.int .i64)]) 2 (x, (e, ()))).1 (z7w (.tup [StT, (.int .i64)]) 2 (x, (e, ()))).2 (.returned (.tuple #[v, .int .i64 e])) w' := by
  have hsome : ∀ k o, S k = some o -> k < w.heap.size := fun k o hk => (Array.getElem?_eq_some_iff.1 (show w.heap[k]? = some o from hS k o hk)).1
  have hSw : Lift.Sub S (hp w') := fun k o hk => by
    have h := hwf.same k (hsome k o hk) (by have := hsome k o hk; omega)
    simp only [hp]
    rw [h]
    exact hS k o hk
  refine ⟨_, fun k => if w.heap.size <= k then hp w' k else S k, [], ob, rfl, ⟨hwf.size, fun k hk _ => hwf.same k hk (by omega), hwf.tape, hwf.os, hwf.output⟩, fun k o hk => ?_, fun k o hk => ?_, fun k hk => ?_, ⟨⟨rfl, _, rfl, .cons hv (.cons VR.int .nil)⟩, rfl⟩, (fun k hk => by cases hk), .nil, ?_, ?_, ?_, ?_, fun i hi => hi⟩
  . dsimp only
    rw [if_neg (by have := hsome k o hk; omega)]
    exact hk
  . dsimp only at hk
    split at hk
    . exact hk
    . exact hSw k o hk
  . dsimp only at hk
    split at hk
    . exact .inr (.inr (by assumption))
    . exact .inl hk
  . intro i z hz hbx
    match i with
    | 0 => simp [mkS, z8m, AS.mk] at hz; subst hz; cases hbx
    | 1 => simp [mkS, z8m, AS.mk] at hz; subst hz; cases hbx
    | i + 2 => simp [mkS, z8m] at hz
  . intro i k hk
    rw [hob i] at hk; cases hk
  . intro i j k hi
    rw [hob i] at hi; cases hi
  . intro i
    rw [hob i]; exact .nil

theorem zqn (S : Hp) : VR S StT ([], (0, ())) (.agg #[.slice none 0 0, .int .i64 0]) := zml (VR.of_one rfl ⟨none, 0, rfl, Nat.le_refl _, .inl rfl⟩)

theorem zhe {w W : World} {B : Nat -> Prop} {q : Nat} (h : WF w B W) (hq : B q) (i : Nat) (v : Value) : WF w B (W.setCell ⟨q, i, none⟩ v) := by
  have g := z1w (w := W) (g := q) (i := i) v
  exact ⟨Nat.le_trans h.size g.size, fun k hk hn => (g.block k (Nat.lt_of_lt_of_le hk h.size) (fun e => hn (by cases e; exact hq))).trans (h.same k hk hn), g.tape.trans h.tape, g.os.trans h.os, g.output.trans h.output⟩

theorem zg8 {W : World} {qr : Nat} {v : Value} {ser c : Int} {tmps : Array Value} (h4 : tmps.getD 4 undef = .pointer (some ⟨qr, 0, none⟩)) (h5 : tmps.getD 5 undef = .int .i64 c) (h : RowAt W qr [v, .int .i64 ser] 24) :
    (results Go.Proofs.Try.f33 tmps).run Go.Proofs.Try.prog W = .ok (.tuple #[.agg #[v, .int .i64 ser], .int .i64 c]) W := by
  have c0 := h.cell (i := 0) rfl
  have c1 := h.cell (i := 1) rfl
  rw [results_cell_tmp rfl, h4, h5]
  simp [asAddr, Go.loadVar, go_sem, c0, c1]

set_option maxHeartbeats 30000000 in
theorem zo1 (N : Nat) : Contract Go.Proofs.Try.prog zw 33 (zdo N) := by
  refine Contract.hand ⟨_, Go.Proofs.Try.func33, by kernel_rfl, by decide⟩ ?_
  intro w S vals ob x y har hS hg hy
  obtain ⟨s, e, u⟩ := x
  cases u
  dsimp only at hy
  obtain ⟨⟨v0, hv0, hA0, ho0⟩, _⟩ := har.rel 0 _ rfl
  obtain ⟨⟨v1, hv1, hA1, ho1⟩, _⟩ := har.rel 1 _ rfl
  have hvals : vals = [v0, v1] := by
    match vals, har.len, hv0, hv1 with
    | [a, b], _, h1, h2 => simp at h1 h2; rw [h1, h2]
  subst hvals
  have hob : ∀ i, ob i = [] := by
    intro i
    match i with
    | 0 => exact ho0
    | 1 => exact ho1
    | i + 2 => exact har.out _ (by simp [mkS, z8m])
  suffices HX : ∀ R : Ending -> World -> Prop, Go.RowKit.Hid (∀ (st : StT.den) (c : Int) (v : Value) (w' : World), y = (st, (c, ())) -> WF w (fun j => w.heap.size <= j) w' -> VR (fun k => if w.heap.size <= k then hp w' k else S k) StT st v -> R (.returned (.tuple #[v, .int .i64 c])) w') -> Calls Go.Proofs.Try.prog 33 #[v0, v1] w R from
    HX _ (Go.Lib.hid (fun st c v w' h1 h2 h3 => by rw [h1]; exact zvw hS hob h2 h3))
  intro R HR
  unfold z8w at hy
  obtain ⟨r, hr, hy⟩ := Option.bind_eq_some_iff.1 hy
  have he := zx1 hA1
  obtain ⟨ts, ser, u⟩ := s
  cases u
  obtain ⟨sv, rfl, hsv⟩ := zni hA0
  have hev := hA1
  subst he
  unfold evV at hev ⊢
  have hcr := fun W (h : Lift.Sub S (hp W)) => ztr N (W := W) h hA0 hr
  have HC := Go.Lib.hid hcr
  clear har hv0 hv1 hcr
  go_enter Go.Proofs.Try.func33, Go.Proofs.Try.ntmps33
  go_upto_region 1 with (fail)
  have ha0 : RowAt (((w.alloc (Obj.cells #[sv, .int .i64 ser] 24)).alloc (Obj.cells #[.int .i64 e.1, .string ⟨⟨e.2.1⟩⟩, .int .i64 e.2.2.1, .int .i64 e.2.2.2.1, .string ⟨⟨e.2.2.2.2.1⟩⟩] 51)).alloc (Obj.cells #[.slice none 0 0, .int .i64 0] 24)) w.heap.size [sv, .int .i64 ser] 24 := ((RowAt.new w [sv, .int .i64 ser] 24).alloc _).alloc _
  have ha1 : RowAt (((w.alloc (Obj.cells #[sv, .int .i64 ser] 24)).alloc (Obj.cells #[.int .i64 e.1, .string ⟨⟨e.2.1⟩⟩, .int .i64 e.2.2.1, .int .i64 e.2.2.2.1, .string ⟨⟨e.2.2.2.2.1⟩⟩] 51)).alloc (Obj.cells #[.slice none 0 0, .int .i64 0] 24)) (w.heap.size + 1) [.int .i64 e.1, .string ⟨⟨e.2.1⟩⟩, .int .i64 e.2.2.1, .int .i64 e.2.2.2.1, .string ⟨⟨e.2.2.2.2.1⟩⟩] 51 := by
    have h := (RowAt.new (w.alloc (Obj.cells #[sv, .int .i64 ser] 24)) [.int .i64 e.1, .string ⟨⟨e.2.1⟩⟩, .int .i64 e.2.2.1, .int .i64 e.2.2.2.1, .string ⟨⟨e.2.2.2.2.1⟩⟩] 51).alloc (Obj.cells #[.slice none 0 0, .int .i64 0] 24)
    simpa using h
  have ha2 : RowAt (((w.alloc (Obj.cells #[sv, .int .i64 ser] 24)).alloc (Obj.cells #[.int .i64 e.1, .string ⟨⟨e.2.1⟩⟩, .int .i64 e.2.2.1, .int .i64 e.2.2.2.1, .string ⟨⟨e.2.2.2.2.1⟩⟩] 51)).alloc (Obj.cells #[.slice none 0 0, .int .i64 0] 24)) (w.heap.size + 1 + 1) [.slice none 0 0, .int .i64 0] 24 := by
    have h := RowAt.new ((w.alloc (Obj.cells #[sv, .int .i64 ser] 24)).alloc (Obj.cells #[.int .i64 e.1, .string ⟨⟨e.2.1⟩⟩, .int .i64 e.2.2.1, .int .i64 e.2.2.2.1, .string ⟨⟨e.2.2.2.2.1⟩⟩] 51)) [.slice none 0 0, .int .i64 0] 24
    simpa using h
  have hag : w.grownBy (((w.alloc (Obj.cells #[sv, .int .i64 ser] 24)).alloc (Obj.cells #[.int .i64 e.1, .string ⟨⟨e.2.1⟩⟩, .int .i64 e.2.2.1, .int .i64 e.2.2.2.1, .string ⟨⟨e.2.2.2.2.1⟩⟩] 51)).alloc (Obj.cells #[.slice none 0 0, .int .i64 0] 24)) none := ((World.grownBy_alloc w _ none).trans38 (World.grownBy_alloc _ _ none)).trans38 (World.grownBy_alloc _ _ none)
  obtain ⟨A3, hA3⟩ : ∃ A3, A3 = (((w.alloc (Obj.cells #[sv, .int .i64 ser] 24)).alloc (Obj.cells #[.int .i64 e.1, .string ⟨⟨e.2.1⟩⟩, .int .i64 e.2.2.1, .int .i64 e.2.2.2.1, .string ⟨⟨e.2.2.2.2.1⟩⟩] 51)).alloc (Obj.cells #[.slice none 0 0, .int .i64 0] 24)) := ⟨_, rfl⟩
  rw [<- hA3] at ha0 ha1 ha2 hag ⊢
  clear hA3
  obtain ⟨es, hes⟩ : ∃ es, es = w.heap.size + 1 := ⟨_, rfl⟩
  rw [<- hes] at ha1 ha2 ⊢
  obtain ⟨qr, hqr⟩ : ∃ qr, qr = es + 1 := ⟨_, rfl⟩
  rw [<- hqr] at ha2 ⊢
  obtain ⟨s0, hs0⟩ : ∃ s0, s0 = w.heap.size := ⟨_, rfl⟩
  rw [<- hs0] at ha0 ⊢
  have HSZ := Go.Lib.hid (And.intro hs0 (And.intro hes hqr))
  clear hs0 hes hqr
  have hcr := HC.out A3 (z44 hS hag)
  have k0 := ha0.cell (i := 0) rfl
  have k1 := ha0.cell (i := 1) rfl
  have HA0 := Go.Lib.hid ha0
  have HA1 := Go.Lib.hid ha1
  have HA2 := Go.Lib.hid ha2
  have HAG := Go.Lib.hid hag
  clear ha0 ha1 ha2 hag
  have hlr : w.heap.size <= qr := by have := HSZ.out; omega
  rcases r with _ | _
  . rw [if_pos rfl] at hy
    cases hy
    go_upto_region 2 with (go_at_call 13; refine hcr.mono ?_; rintro _ w1 ⟨rfl, g1⟩; have HG1 := Go.Lib.hid g1; clear g1 hcr)
    have hq1 := HA2.out.grown HG1.out (by simp)
    have r0 := hq1.cell (i := 0) rfl
    have r1 := hq1.cell (i := 1) rfl
    have f0 := hq1.free (i := 0)
    have f1 := hq1.free (i := 1)
    have hq2 := hq1.set 0 (.slice none 0 0)
    have r1' := hq2.cell (i := 1) rfl
    have f1' := hq2.free (i := 1)
    have hq3 := hq2.set 1 (.int .i64 0)
    have HQ3 := Go.Lib.hid hq3
    clear hq1 hq2 hq3
    go_wp2
    exact bodyPost_ret (zg8 rfl rfl HQ3.out) rfl (HR.out _ _ _ _ rfl (zhe (zhe (z4d (HAG.out.trans38 HG1.out) (by simp)) hlr 0 _) hlr 1 _) (zqn _))
  rw [if_neg (by decide)] at hy
  obtain ⟨f, hf, hy⟩ := Option.bind_eq_some_iff.1 hy
  go_upto_region 3 with (go_at_call 13; refine hcr.mono ?_; rintro _ w1 ⟨rfl, g1⟩; have HG1 := Go.Lib.hid g1; clear g1 hcr)
  have hk1 := HA1.out.grown HG1.out (by simp)
  have m0 := hk1.cell (i := 0) rfl
  have m1 := hk1.cell (i := 1) rfl
  have m2 := hk1.cell (i := 2) rfl
  have m3 := hk1.cell (i := 3) rfl
  have m4 := hk1.cell (i := 4) rfl
  have hcf := zwt N (W := w1) (z44 hS (HAG.out.trans38 HG1.out)) hev hf
  unfold evV at hcf
  have HK1 := Go.Lib.hid hk1
  clear hk1 k0 k1
  rcases f with _ | _
  . rw [if_pos rfl] at hy
    cases hy
    go_upto_region 4 with (go_at_call 49; refine hcf.mono ?_; rintro _ w2 ⟨rfl, g2⟩; have HG2 := Go.Lib.hid g2; clear g2 hcf)
    have hq1 := (HA2.out.grown HG1.out (by simp)).grown HG2.out (by simp)
    have r0 := hq1.cell (i := 0) rfl
    have r1 := hq1.cell (i := 1) rfl
    have f0 := hq1.free (i := 0)
    have f1 := hq1.free (i := 1)
    have hq2 := hq1.set 0 (.slice none 0 0)
    have r1' := hq2.cell (i := 1) rfl
    have f1' := hq2.free (i := 1)
    have hq3 := hq2.set 1 (.int .i64 0)
    have HQ3 := Go.Lib.hid hq3
    clear hq1 hq2 hq3
    go_wp2
    exact bodyPost_ret (zg8 rfl rfl HQ3.out) rfl (HR.out _ _ _ _ rfl (zhe (zhe (z4d ((HAG.out.trans38 HG1.out).trans38 HG2.out) (by simp)) hlr 0 _) hlr 1 _) (zqn _))
  rw [if_neg (by decide)] at hy
  by_cases hlim : ts.length <= 16 /\ (ts.all fun t => decide (t.2.2.2.1.length < 256)) = true
  case neg => rw [if_neg hlim] at hy; cases hy
  rw [if_pos hlim] at hy
  obtain ⟨z, hz, hy⟩ := Option.bind_eq_some_iff.1 hy
  have hk256 : ∀ t ∈ ts, t.2.2.2.1.length < 256 := fun t ht => by simpa using List.all_eq_true.1 hlim.2 t ht
  go_upto_region 5 with (go_at_call 49; refine hcf.mono ?_; rintro _ w2 ⟨rfl, g2⟩; have HG2 := Go.Lib.hid g2; clear g2 hcf)
  have hg2 : w.grownBy w2 none := (HAG.out.trans38 HG1.out).trans38 HG2.out
  have hcc := znd (w := w2) (ser := ser) (z44 hS hg2) hsv (by omega) (fun t ht => by have := hk256 t ht; omega)
  have k2 := (HA0.out.grown HG1.out (by simp)).grown HG2.out (by simp)
  have k0 := k2.cell (i := 0) rfl
  have k1 := k2.cell (i := 1) rfl
  have HG3 := Go.Lib.hid hg2
  clear k2 hg2 m0 m1 m2 m3 m4
  go_upto_region 6 with (go_at_call 32; refine hcc.mono ?_; rintro _ w3 ⟨b, l, rfl, hl1, hl2, hl3⟩; have HL := Go.Lib.hid (And.intro hl1 (And.intro hl2 hl3)); clear hl1 hl2 hl3 hcc)
  obtain ⟨hl1, hl2, hl3⟩ := HL.out
  have hw23 := hl2.size
  have hbw : b < w3.heap.size := hl3.row.lt
  have hin : ∀ i, (h : i < l.length) -> l[i].1.2.2.2.1.length < 256 := fun i h => hk256 _ (by rw [<- hl1]; exact List.mem_map_of_mem (List.getElem_mem h))
  have HSt : St38 w2.heap.size (w3.alloc (Obj.cells #[.slice (some ⟨b, 0, none⟩) ts.length ts.length, .int .i64 ser] 24)) w3.heap.size b ts.length ser l :=
    ⟨RowAt.new w3 [.slice (some ⟨b, 0, none⟩) ts.length ts.length, .int .i64 ser] 24, hl3.row.alloc _, by rw [<- hl1, List.length_map], by omega, hl3.low, hw23, hlim.1, hin, fun i hi => by
      obtain ⟨kb, e1, e2, e3, e4⟩ := hl3.keys i hi
      exact ⟨kb, e1, e2, e3, by have := e4.lt; omega, e4.alloc _⟩, hl3.apart⟩
  have hch := zru N HSt (y := z) (by rw [hl1]; exact hz)
  unfold evV at hch
  have hg36 : w2.grownBy (w3.alloc (Obj.cells #[.slice (some ⟨b, 0, none⟩) ts.length ts.length, .int .i64 ser] 24)) none := hl2.trans38 (World.grownBy_alloc w3 _ none)
  have hk6 := (HK1.out.grown HG2.out (by simp)).grown hg36 (by simp)
  have hq6 := ((HA2.out.grown HG1.out (by simp)).grown HG2.out (by simp)).grown hg36 (by simp)
  have hqlt := ((HA2.out.grown HG1.out (by simp)).grown HG2.out (by simp)).lt
  obtain ⟨A6, hA6⟩ : ∃ A6, A6 = w3.alloc (Obj.cells #[.slice (some ⟨b, 0, none⟩) ts.length ts.length, .int .i64 ser] 24) := ⟨_, rfl⟩
  rw [<- hA6] at hch hg36 hk6 hq6 HSt ⊢
  clear hA6
  obtain ⟨qa, hqa⟩ : ∃ qa, qa = w3.heap.size := ⟨_, rfl⟩
  rw [<- hqa] at hch HSt ⊢
  clear hqa
  have m0 := hk6.cell (i := 0) rfl
  have m1 := hk6.cell (i := 1) rfl
  have m2 := hk6.cell (i := 2) rfl
  have m3 := hk6.cell (i := 3) rfl
  have m4 := hk6.cell (i := 4) rfl
  have HQ6 := Go.Lib.hid hq6
  have HG6 := Go.Lib.hid (HG3.out.trans38 hg36)
  clear hq6 hk6 hg36 HSt hl1 hl2 hl3 hin k0 k1
  have hwle : w.heap.size <= w2.heap.size := HG3.out.size
  go_upto_region 7 with (go_at_call 50; refine hch.mono ?_; rintro _ w4 ⟨rfl, g4, q4⟩; have H4 := Go.Lib.hid (And.intro g4 q4); clear g4 q4 hch)
  obtain ⟨g4, q4⟩ := H4.out
  have hw4 : WF w (fun j => w.heap.size <= j) w4 := ⟨Nat.le_trans HG6.out.size g4.size, fun j hj hn => (g4.same j (Nat.lt_of_lt_of_le hj HG6.out.size) (by omega)).trans (HG6.out.block j hj (by simp)), g4.tape.trans HG6.out.tape, g4.os.trans HG6.out.os, g4.output.trans HG6.out.output⟩
  have hq1 : RowAt w4 qr [.slice none 0 0, .int .i64 0] 24 := by
    have h := HQ6.out
    unfold RowAt at *
    rw [g4.same qr (Array.getElem?_eq_some_iff.1 h).1 (by omega)]
    exact h
  have HW4 := Go.Lib.hid hw4
  have HQ4 := Go.Lib.hid q4
  clear g4 q4 hw4
  by_cases gz : z.1 = 0
  . rw [if_pos gz] at hy
    cases hy
    obtain ⟨v, v1, v2⟩ := HQ4.out gz
    obtain ⟨va, vc, _, rfl, _⟩ := zet (v2 (hp w4) (fun _ _ => rfl))
    have n0 := v1.cell (i := 0) rfl
    have n1 := v1.cell (i := 1) rfl
    have r0 := hq1.cell (i := 0) rfl
    have r1 := hq1.cell (i := 1) rfl
    have f0 := hq1.free (i := 0)
    have f1 := hq1.free (i := 1)
    have hq2 := hq1.set 0 (.slice va z.2.1.length vc)
    have r1' := hq2.cell (i := 1) rfl
    have f1' := hq2.free (i := 1)
    have hq3 := hq2.set 1 (.int .i64 z.2.2.1)
    have HQ3 := Go.Lib.hid hq3
    have HV := Go.Lib.hid v2
    rw [gz] at *
    clear hq1 hq2 hq3 v1 v2 m0 m1 m2 m3 m4
    go_wp2
    refine bodyPost_ret (zg8 rfl rfl HQ3.out) rfl (HR.out _ _ _ _ rfl (zhe (zhe HW4.out hlr 0 _) hlr 1 _) (zml (HV.out _ (fun j hj => ?_))))
    rw [if_pos (by omega)]
    have hne : qr ≠ j := by omega
    simp only [hp]
    rw [heap_setCell_other _ ⟨qr, 1, none⟩ j _ (Ne.symm hne), heap_setCell_other _ ⟨qr, 0, none⟩ j _ (Ne.symm hne)]
  . rw [if_neg gz] at hy
    cases hy
    have r0 := hq1.cell (i := 0) rfl
    have r1 := hq1.cell (i := 1) rfl
    have f0 := hq1.free (i := 0)
    have f1 := hq1.free (i := 1)
    have hq2 := hq1.set 0 (.slice none 0 0)
    have r1' := hq2.cell (i := 1) rfl
    have f1' := hq2.free (i := 1)
    have hq3 := hq2.set 1 (.int .i64 0)
    have HQ3 := Go.Lib.hid hq3
    clear hq1 hq2 hq3 m0 m1 m2 m3 m4
    go_wp2
    exact bodyPost_ret (zg8 rfl rfl HQ3.out) rfl (HR.out _ _ _ _ rfl (zhe (zhe HW4.out hlr 0 _) hlr 1 _) (zqn _))

def z8u (N : Nat) (s : StT.den) : Option StT.den :=
 if s.1.length <= 1000 /\ (s.1.all fun t => decide (t.2.2.2.1.length <= 1000)) = true then some s else none

def zdh (N : Nat) : List A -> Res := z28 [(0, .v StT)] (fun x => z8u N x.1) (z7w (.v StT) 1)

theorem zwd {w w' : World} {b : Nat} {l : List (TenT.den × Value)} (h : Laid w w' b l) {S : Hp} (hS : ∀ j, w.heap.size <= j -> S j = w'.heap[j]?) : VR S (.sl TenT) (l.map (·.1)) (.slice (some ⟨b, 0, none⟩) l.length l.length) :=
  zcx (lo := w.heap.size) (w := w') (sp := []) (by rw [List.append_nil]; exact h.row) h.low (Nat.le_refl _) (fun p hp => by
    obtain ⟨i, hi, rfl⟩ := List.getElem_of_mem hp
    obtain ⟨kb, e1, e2, e3, e4⟩ := h.keys i hi
    exact .inr ⟨kb, _, [], e1, Nat.le_refl _, e2, by rw [List.append_nil]; exact e4⟩) hS

theorem zns (N : Nat) : Contract Go.Proofs.Try.prog zw 32 (zdh N) := by
  refine Contract.hand ⟨_, Go.Proofs.Try.func32, by kernel_rfl, by decide⟩ ?_
  intro w S vals ob x y har hS hg hy
  obtain ⟨s, u⟩ := x
  cases u
  dsimp only at hy
  obtain ⟨⟨v0, hv0, hA0, ho0⟩, _⟩ := har.rel 0 _ rfl
  have hvals : vals = [v0] := by
    match vals, har.len, hv0 with
    | [a], _, h1 => simp at h1; rw [h1]
  subst hvals
  have hob : ∀ i, ob i = [] := by
    intro i
    match i with
    | 0 => exact ho0
    | i + 1 => exact har.out _ (by simp [mkS, z8m])
  unfold z8u at hy
  by_cases hlim : s.1.length <= 1000 /\ (s.1.all fun t => decide (t.2.2.2.1.length <= 1000)) = true
  case neg => rw [if_neg hlim] at hy; cases hy
  rw [if_pos hlim] at hy
  obtain rfl : s = y := Option.some.inj hy
  obtain ⟨ts, ser, u⟩ := s
  cases u
  obtain ⟨sv, rfl, hsv⟩ := zni hA0
  have hk : ∀ t ∈ ts, t.2.2.2.1.length <= 1000 := fun t ht => by simpa using List.all_eq_true.1 hlim.2 t ht
  refine (znd (ser := ser) hS hsv hlim.1 hk).mono ?_
  rintro _ w' ⟨b, l, rfl, hl1, hl2, hl3⟩
  have hsome : ∀ k o, S k = some o -> k < w.heap.size := fun k o hk => (Array.getElem?_eq_some_iff.1 (show w.heap[k]? = some o from hS k o hk)).1
  have hSw := z44 hS hl2
  have hv : VR (fun k => if w.heap.size <= k then hp w' k else S k) StT (ts, (ser, ())) (.agg #[.slice (some ⟨b, 0, none⟩) ts.length ts.length, .int .i64 ser]) := by
    refine zml ?_
    have h := zwd hl3 (S := fun k => if w.heap.size <= k then hp w' k else S k) (fun j hj => if_pos hj)
    have e : l.length = ts.length := by rw [<- hl1, List.length_map]
    rw [hl1, e] at h
    exact h
  refine ⟨_, fun k => if w.heap.size <= k then hp w' k else S k, [], ob, rfl, ⟨hl2.size, fun k hk _ => hl2.block k hk (by simp), hl2.tape, hl2.os, hl2.output⟩, fun k o hk => ?_, fun k o hk => ?_, fun k hk => ?_, ⟨⟨hv, rfl⟩, rfl⟩, (fun k hk => by cases hk), .nil, ?_, ?_, ?_, ?_, fun i hi => hi⟩
  . dsimp only
    rw [if_neg (by have := hsome k o hk; omega)]
    exact hk
  . dsimp only at hk
    split at hk
    . exact hk
    . exact hSw k o hk
  . dsimp only at hk
    split at hk
    . exact .inr (.inr (by assumption))
    . exact .inl hk
  . intro i z hz hbx
    match i with
    | 0 => simp [mkS, z8m, AS.mk] at hz; subst hz; cases hbx
    | i + 1 => simp [mkS, z8m] at hz
  . intro i k hk
    rw [hob i] at hk; cases hk
  . intro i j k hi
    rw [hob i] at hi; cases hi
  . intro i
    rw [hob i]; exact .nil

end
end Go.Proofs.YtlohplpnhopldaaLg

set_option linter.all false
set_option maxRecDepth 100000
namespace Go.Proofs.YtlohplpnhopldaaLg
noncomputable section
open Go Go.Lift

def zgj : Code := (Go.Proofs.Try.f38.body).getD .skip

def zdr : List (List Nat × List Nat) := [([0], [3, 2, 1]), ([0, 0, 1], [10, 2, 1]), ([1, 0, 1], [2, 1]), ([0, 0, 1, 0, 1], [6, 7]), ([1, 0, 1, 0, 1], [6, 7]), ([0, 0, 1, 1], [12, 2, 1]), ([1, 0, 1, 1], [1]), ([0, 0, 1, 0, 1, 1], [6, 7]), ([1, 0, 1, 0, 1, 1], [6, 7]), ([0, 1, 1, 1], [6, 7]), ([1, 1, 1, 1], [6, 7])]

def z8h (N : Nat) : Env := z5d tys zw [(13, z3z N)] [] [] [] false [] []

theorem zie (N : Nat) : EnvOk Go.Proofs.Try.prog (z8h N) := z19 mixed z2e (FnsOk.cons (z4p N) (FnsOk.nil)) (ItsOk.nil)

def z2r (N : Nat) (s : ((List ((List UInt8) × (Int × (Int × ((List (Int × ((List UInt8) × Unit))) × Unit))))) × (Int × Unit))) (l : (List (Int × ((List UInt8) × (Int × (Int × ((List UInt8) × Unit))))))) (e : Int) : Option ((List (Int × ((List UInt8) × (Int × (Int × ((List UInt8) × Unit)))))) × Int × Unit) :=
 (z38 N s).bind fun y =>
 cond (!y)
 (some (([] : List (Int × ((List UInt8) × (Int × (Int × ((List UInt8) × Unit)))))), ((7 : Int), ())))
 (cond (e != (0 : Int))
 (some (([] : List (Int × ((List UInt8) × (Int × (Int × ((List UInt8) × Unit)))))), (e, ())))
 (some (l, ((0 : Int), ()))))

def zdq (N : Nat) : Tab ((List (Int × ((List UInt8) × (Int × (Int × ((List UInt8) × Unit)))))) × Int × Unit) := []

theorem zgi (N : Nat) (x : z2g [(0, .v (.pair (.sl (.pair .str (.pair (.int .i64) (.pair (.int .i64) (.pair (.sl (.pair (.int .i64) (.pair .str .unit))) .unit))))) (.pair (.int .i64) .unit))), (0, .v (.sl (.pair (.int .i64) (.pair .str (.pair (.int .i64) (.pair (.int .i64) (.pair .str .unit))))))), (0, .v (.int .i64))]) : zcy (z8h N) N (zdq N) zdr Go.Proofs.Try.f38 (mkS [(0, .v (.pair (.sl (.pair .str (.pair (.int .i64) (.pair (.int .i64) (.pair (.sl (.pair (.int .i64) (.pair .str .unit))) .unit))))) (.pair (.int .i64) .unit))), (0, .v (.sl (.pair (.int .i64) (.pair .str (.pair (.int .i64) (.pair (.int .i64) (.pair .str .unit))))))), (0, .v (.int .i64))] 0 x) (z68 (.tup [(.sl (.pair (.int .i64) (.pair .str (.pair (.int .i64) (.pair (.int .i64) (.pair .str .unit)))))), (.int .i64)]) 3) = z2r N x.1 x.2.1 x.2.2.1 := by kernel_rfl

def z6a (N : Nat) : List A -> Res := z28 [(0, .v (.pair (.sl (.pair .str (.pair (.int .i64) (.pair (.int .i64) (.pair (.sl (.pair (.int .i64) (.pair .str .unit))) .unit))))) (.pair (.int .i64) .unit))), (0, .v (.sl (.pair (.int .i64) (.pair .str (.pair (.int .i64) (.pair (.int .i64) (.pair .str .unit))))))), (0, .v (.int .i64))] (fun x => z2r N x.1 x.2.1 x.2.2.1) (z7w (.tup [(.sl (.pair (.int .i64) (.pair .str (.pair (.int .i64) (.pair (.int .i64) (.pair .str .unit)))))), (.int .i64)]) 3)

theorem zc0 (N : Nat) : Contract Go.Proofs.Try.prog zw 38 (z6a N) :=
  Contract.of (E := z8h N) (H := zdq N) (L := zdr) (N := N) (body := zgj) (K := (z68 (.tup [(.sl (.pair (.int .i64) (.pair .str (.pair (.int .i64) (.pair (.int .i64) (.pair .str .unit)))))), (.int .i64)]) 3)) (zie N) Go.Proofs.Try.func38 (by kernel_rfl) (by decide) (fun _ hb => TabOk.nil) (fun x y h => by rw [zgi]; exact h) (z20 (s := (.tup [(.sl (.pair (.int .i64) (.pair .str (.pair (.int .i64) (.pair (.int .i64) (.pair .str .unit)))))), (.int .i64)])) (m := 3))

def zlw : Code := (Go.Proofs.Try.f39.body).getD .skip

def zk1 : List (List Nat × List Nat) := [([0], [2, 1, 4]), ([0, 1], [6, 4, 2]), ([0, 0, 1, 1], [11, 4, 2, 6]), ([1, 0, 1, 1], [2, 6, 4]), ([0, 0, 1, 0, 1, 1], [4, 5]), ([1, 0, 1, 0, 1, 1], [4, 5]), ([0, 1, 1, 1], [4, 5]), ([1, 1, 1, 1], [4, 5])]

def zed (N : Nat) : Env := z5d tys zw [(16, z9y N)] [] [] [] false [] []

theorem zo5 (N : Nat) : EnvOk Go.Proofs.Try.prog (zed N) := z19 mixed z2e (FnsOk.cons (zbk N) (FnsOk.nil)) (ItsOk.nil)

def zfi (N : Nat) (s : ((List ((List UInt8) × (Int × (Int × ((List (Int × ((List UInt8) × Unit))) × Unit))))) × (Int × Unit))) (tenant : (List UInt8)) : Option (((List UInt8) × (Int × (Int × ((List (Int × ((List UInt8) × Unit))) × Unit)))) × Bool × Unit) :=
 (z5y N s tenant).bind fun y =>
 cond (decide (y < (0 : Int)))
 (some ((([] : List UInt8), ((0 : Int), ((0 : Int), (([] : List (Int × ((List UInt8) × Unit))), ())))), (false, ())))
 (cond (Go.Lift.inR y (List.length s.1))
 (some ((List.getD s.1 (Int.toNat y) (([] : List UInt8), ((0 : Int), ((0 : Int), (([] : List (Int × ((List UInt8) × Unit))), ()))))), (true, ())))
 (none))

def zk0 (N : Nat) : Tab (((List UInt8) × (Int × (Int × ((List (Int × ((List UInt8) × Unit))) × Unit)))) × Bool × Unit) := []

theorem zlv (N : Nat) (x : z2g [(0, .v (.pair (.sl (.pair .str (.pair (.int .i64) (.pair (.int .i64) (.pair (.sl (.pair (.int .i64) (.pair .str .unit))) .unit))))) (.pair (.int .i64) .unit))), (0, .v .str)]) : zcy (zed N) N (zk0 N) zk1 Go.Proofs.Try.f39 (mkS [(0, .v (.pair (.sl (.pair .str (.pair (.int .i64) (.pair (.int .i64) (.pair (.sl (.pair (.int .i64) (.pair .str .unit))) .unit))))) (.pair (.int .i64) .unit))), (0, .v .str)] 0 x) (z68 (.tup [(.pair .str (.pair (.int .i64) (.pair (.int .i64) (.pair (.sl (.pair (.int .i64) (.pair .str .unit))) .unit)))), .bool]) 2) = zfi N x.1 x.2.1 := by kernel_rfl

def zo4 (N : Nat) : List A -> Res := z28 [(0, .v (.pair (.sl (.pair .str (.pair (.int .i64) (.pair (.int .i64) (.pair (.sl (.pair (.int .i64) (.pair .str .unit))) .unit))))) (.pair (.int .i64) .unit))), (0, .v .str)] (fun x => zfi N x.1 x.2.1) (z7w (.tup [(.pair .str (.pair (.int .i64) (.pair (.int .i64) (.pair (.sl (.pair (.int .i64) (.pair .str .unit))) .unit)))), .bool]) 2)

theorem zpk (N : Nat) : Contract Go.Proofs.Try.prog zw 39 (zo4 N) :=
  Contract.of (E := zed N) (H := zk0 N) (L := zk1) (N := N) (body := zlw) (K := (z68 (.tup [(.pair .str (.pair (.int .i64) (.pair (.int .i64) (.pair (.sl (.pair (.int .i64) (.pair .str .unit))) .unit)))), .bool]) 2)) (zo5 N) Go.Proofs.Try.func39 (by kernel_rfl) (by decide) (fun _ hb => TabOk.nil) (fun x y h => by rw [zlv]; exact h) (z20 (s := (.tup [(.pair .str (.pair (.int .i64) (.pair (.int .i64) (.pair (.sl (.pair (.int .i64) (.pair .str .unit))) .unit)))), .bool])) (m := 2))

def zgl : Code := (Go.Proofs.Try.f37.body).getD .skip

def zdt : List (List Nat × List Nat) := [([], [0, 1, 2])]

def z8i (N : Nat) : Env := z5d tys zw [(38, z6a N)] [] [] [0, 1, 2] false [] []

theorem zif (N : Nat) : EnvOk Go.Proofs.Try.prog (z8i N) := z19 mixed z2e (FnsOk.cons (zc0 N) (FnsOk.nil)) (ItsOk.nil)

def z83 (N : Nat) (x0 : ((List ((List UInt8) × (Int × (Int × ((List (Int × ((List UInt8) × Unit))) × Unit))))) × (Int × Unit))) (x1 : (List (Int × ((List UInt8) × (Int × (Int × ((List UInt8) × Unit))))))) (x2 : Int) : Option ((Unit) × (((List ((List UInt8) × (Int × (Int × ((List (Int × ((List UInt8) × Unit))) × Unit))))) × (Int × Unit)) × (List (Int × ((List UInt8) × (Int × (Int × ((List UInt8) × Unit)))))) × Int × Unit)) :=
 (z2r N x0 x1 x2).bind fun y =>
 some ((), (x0, (y.1, (y.2.1, ()))))

def zds (N : Nat) : Tab ((Unit) × (((List ((List UInt8) × (Int × (Int × ((List (Int × ((List UInt8) × Unit))) × Unit))))) × (Int × Unit)) × (List (Int × ((List UInt8) × (Int × (Int × ((List UInt8) × Unit)))))) × Int × Unit)) := []

theorem zgk (N : Nat) (x : z2g [(0, .box (.pair (.sl (.pair .str (.pair (.int .i64) (.pair (.int .i64) (.pair (.sl (.pair (.int .i64) (.pair .str .unit))) .unit))))) (.pair (.int .i64) .unit))), (0, .box (.sl (.pair (.int .i64) (.pair .str (.pair (.int .i64) (.pair (.int .i64) (.pair .str .unit))))))), (0, .box (.int .i64))]) : zcy (z8i N) N (zds N) zdt Go.Proofs.Try.f37 (mkS [(0, .box (.pair (.sl (.pair .str (.pair (.int .i64) (.pair (.int .i64) (.pair (.sl (.pair (.int .i64) (.pair .str .unit))) .unit))))) (.pair (.int .i64) .unit))), (0, .box (.sl (.pair (.int .i64) (.pair .str (.pair (.int .i64) (.pair (.int .i64) (.pair .str .unit))))))), (0, .box (.int .i64))] 0 x) (zpv (.tup []) [(0, .box (.pair (.sl (.pair .str (.pair (.int .i64) (.pair (.int .i64) (.pair (.sl (.pair (.int .i64) (.pair .str .unit))) .unit))))) (.pair (.int .i64) .unit))), (0, .box (.sl (.pair (.int .i64) (.pair .str (.pair (.int .i64) (.pair (.int .i64) (.pair .str .unit))))))), (0, .box (.int .i64))] 0) = z83 N x.1 x.2.1 x.2.2.1 := by kernel_rfl

def z41 (N : Nat) : List A -> Res := z28 [(0, .box (.pair (.sl (.pair .str (.pair (.int .i64) (.pair (.int .i64) (.pair (.sl (.pair (.int .i64) (.pair .str .unit))) .unit))))) (.pair (.int .i64) .unit))), (0, .box (.sl (.pair (.int .i64) (.pair .str (.pair (.int .i64) (.pair (.int .i64) (.pair .str .unit))))))), (0, .box (.int .i64))] (fun x => z83 N x.1 x.2.1 x.2.2.1) (zy5 (.tup []) [(0, .box (.pair (.sl (.pair .str (.pair (.int .i64) (.pair (.int .i64) (.pair (.sl (.pair (.int .i64) (.pair .str .unit))) .unit))))) (.pair (.int .i64) .unit))), (0, .box (.sl (.pair (.int .i64) (.pair .str (.pair (.int .i64) (.pair (.int .i64) (.pair .str .unit))))))), (0, .box (.int .i64))] 0)

theorem z34 (N : Nat) : ContractD Go.Proofs.Try.prog zw 37 (z41 N) :=
  ContractD.of (E := z8i N) (H := zds N) (L := zdt) (N := N) (body := zgl) (K := (zpv (.tup []) [(0, .box (.pair (.sl (.pair .str (.pair (.int .i64) (.pair (.int .i64) (.pair (.sl (.pair (.int .i64) (.pair .str .unit))) .unit))))) (.pair (.int .i64) .unit))), (0, .box (.sl (.pair (.int .i64) (.pair .str (.pair (.int .i64) (.pair (.int .i64) (.pair .str .unit))))))), (0, .box (.int .i64))] 0)) (zif N) Go.Proofs.Try.func37 (by kernel_rfl) (by decide) (fun _ hb => TabOk.nil) (fun x y h => by rw [zgk]; exact h) (zoi (s := (.tup [])) (os := [(0, .box (.pair (.sl (.pair .str (.pair (.int .i64) (.pair (.int .i64) (.pair (.sl (.pair (.int .i64) (.pair .str .unit))) .unit))))) (.pair (.int .i64) .unit))), (0, .box (.sl (.pair (.int .i64) (.pair .str (.pair (.int .i64) (.pair (.int .i64) (.pair .str .unit))))))), (0, .box (.int .i64))]) (m := 0))

def zk3 : Code := (Go.Proofs.Try.f41.body).getD .skip

def zhu : List (List Nat × List Nat) := [([], [0, 1, 2])]

def zc2 (N : Nat) : Env := z5d tys zw [(38, z6a N)] [] [] [0, 1, 2] false [] []

theorem zlz (N : Nat) : EnvOk Go.Proofs.Try.prog (zc2 N) := z19 mixed z2e (FnsOk.cons (zc0 N) (FnsOk.nil)) (ItsOk.nil)

def zms (N : Nat) (x0 : ((List ((List UInt8) × (Int × (Int × ((List (Int × ((List UInt8) × Unit))) × Unit))))) × (Int × Unit))) (x1 : (List (Int × ((List UInt8) × (Int × (Int × ((List UInt8) × Unit))))))) (x2 : Int) : Option ((Unit) × (((List ((List UInt8) × (Int × (Int × ((List (Int × ((List UInt8) × Unit))) × Unit))))) × (Int × Unit)) × (List (Int × ((List UInt8) × (Int × (Int × ((List UInt8) × Unit)))))) × Int × Unit)) :=
 (z2r N x0 x1 x2).bind fun y =>
 some ((), (x0, (y.1, (y.2.1, ()))))

def zht (N : Nat) : Tab ((Unit) × (((List ((List UInt8) × (Int × (Int × ((List (Int × ((List UInt8) × Unit))) × Unit))))) × (Int × Unit)) × (List (Int × ((List UInt8) × (Int × (Int × ((List UInt8) × Unit)))))) × Int × Unit)) := []

theorem zk2 (N : Nat) (x : z2g [(0, .box (.pair (.sl (.pair .str (.pair (.int .i64) (.pair (.int .i64) (.pair (.sl (.pair (.int .i64) (.pair .str .unit))) .unit))))) (.pair (.int .i64) .unit))), (0, .box (.sl (.pair (.int .i64) (.pair .str (.pair (.int .i64) (.pair (.int .i64) (.pair .str .unit))))))), (0, .box (.int .i64))]) : zcy (zc2 N) N (zht N) zhu Go.Proofs.Try.f41 (mkS [(0, .box (.pair (.sl (.pair .str (.pair (.int .i64) (.pair (.int .i64) (.pair (.sl (.pair (.int .i64) (.pair .str .unit))) .unit))))) (.pair (.int .i64) .unit))), (0, .box (.sl (.pair (.int .i64) (.pair .str (.pair (.int .i64) (.pair (.int .i64) (.pair .str .unit))))))), (0, .box (.int .i64))] 0 x) (zpv (.tup []) [(0, .box (.pair (.sl (.pair .str (.pair (.int .i64) (.pair (.int .i64) (.pair (.sl (.pair (.int .i64) (.pair .str .unit))) .unit))))) (.pair (.int .i64) .unit))), (0, .box (.sl (.pair (.int .i64) (.pair .str (.pair (.int .i64) (.pair (.int .i64) (.pair .str .unit))))))), (0, .box (.int .i64))] 0) = zms N x.1 x.2.1 x.2.2.1 := by kernel_rfl

def zly (N : Nat) : List A -> Res := z28 [(0, .box (.pair (.sl (.pair .str (.pair (.int .i64) (.pair (.int .i64) (.pair (.sl (.pair (.int .i64) (.pair .str .unit))) .unit))))) (.pair (.int .i64) .unit))), (0, .box (.sl (.pair (.int .i64) (.pair .str (.pair (.int .i64) (.pair (.int .i64) (.pair .str .unit))))))), (0, .box (.int .i64))] (fun x => zms N x.1 x.2.1 x.2.2.1) (zy5 (.tup []) [(0, .box (.pair (.sl (.pair .str (.pair (.int .i64) (.pair (.int .i64) (.pair (.sl (.pair (.int .i64) (.pair .str .unit))) .unit))))) (.pair (.int .i64) .unit))), (0, .box (.sl (.pair (.int .i64) (.pair .str (.pair (.int .i64) (.pair (.int .i64) (.pair .str .unit))))))), (0, .box (.int .i64))] 0)

theorem z8j (N : Nat) : ContractD Go.Proofs.Try.prog zw 41 (zly N) :=
  ContractD.of (E := zc2 N) (H := zht N) (L := zhu) (N := N) (body := zk3) (K := (zpv (.tup []) [(0, .box (.pair (.sl (.pair .str (.pair (.int .i64) (.pair (.int .i64) (.pair (.sl (.pair (.int .i64) (.pair .str .unit))) .unit))))) (.pair (.int .i64) .unit))), (0, .box (.sl (.pair (.int .i64) (.pair .str (.pair (.int .i64) (.pair (.int .i64) (.pair .str .unit))))))), (0, .box (.int .i64))] 0)) (zlz N) Go.Proofs.Try.func41 (by kernel_rfl) (by decide) (fun _ hb => TabOk.nil) (fun x y h => by rw [zk2]; exact h) (zoi (s := (.tup [])) (os := [(0, .box (.pair (.sl (.pair .str (.pair (.int .i64) (.pair (.int .i64) (.pair (.sl (.pair (.int .i64) (.pair .str .unit))) .unit))))) (.pair (.int .i64) .unit))), (0, .box (.sl (.pair (.int .i64) (.pair .str (.pair (.int .i64) (.pair (.int .i64) (.pair .str .unit))))))), (0, .box (.int .i64))]) (m := 0))

def z3d : Code := (Go.Proofs.Try.f11.body).getD .skip

def z84 : List (List Nat × List Nat) := [([0], [1]), ([0, 0, 1], [10, 1]), ([1, 0, 1], [1]), ([0, 0, 1, 0, 1], [2]), ([1, 0, 1, 0, 1], [2]), ([0, 1, 1], [1, 3]), ([0, 0, 1, 1, 1], [14, 13, 12, 3, 1]), ([0, 1, 0, 1, 1, 1], [14, 13, 12, 3, 1]), ([0, 0, 0, 1, 0, 1, 1, 1], [15, 12, 14, 3, 13, 1]), ([0, 1, 0, 0, 1, 0, 1, 1, 1], [12, 14, 3, 13, 1]), ([1, 0, 1, 0, 0, 1, 0, 1, 1, 1], [3, 1]), ([0, 0, 0, 1, 1, 0, 0, 1, 0, 1, 1, 1], [3, 5, 14, 13, 12, 1]), ([0, 1, 0, 0, 1, 1, 0, 0, 1, 0, 1, 1, 1], [5, 3, 14, 13, 12, 1]), ([0, 1, 1, 0, 0, 1, 1, 0, 0, 1, 0, 1, 1, 1], [31, 30, 29, 3, 5, 14, 13, 12, 1]), ([0, 1, 1, 1, 0, 0, 1, 1, 0, 0, 1, 0, 1, 1, 1], [31, 30, 29, 3, 5, 14, 13, 12, 1]), ([0, 0, 0, 1, 1, 1, 0, 0, 1, 1, 0, 0, 1, 0, 1, 1, 1], [32, 29, 31, 3, 5, 30, 14, 13, 12, 1]), ([0, 1, 0, 0, 1, 1, 1, 0, 0, 1, 1, 0, 0, 1, 0, 1, 1, 1], [29, 31, 3, 5, 30, 14, 13, 12, 1]), ([1, 0, 1, 0, 0, 1, 1, 1, 0, 0, 1, 1, 0, 0, 1, 0, 1, 1, 1], [14, 13, 12, 3, 1]), ([0, 0, 0, 1, 1, 0, 0, 1, 1, 1, 0, 0, 1, 1, 0, 0, 1, 0, 1, 1, 1], [3, 5, 7, 31, 30, 29, 14, 13, 12, 1]), ([1, 0, 0, 1, 1, 0, 0, 1, 1, 1, 0, 0, 1, 1, 0, 0, 1, 0, 1, 1, 1], [31, 30, 29, 3, 5, 14, 13, 12, 1]), ([0, 1, 1, 0, 0, 1, 1, 1, 0, 0, 1, 1, 0, 0, 1, 0, 1, 1, 1], [31, 30, 29, 3, 5, 14, 13, 12, 1]), ([1, 1, 1, 0, 0, 1, 1, 1, 0, 0, 1, 1, 0, 0, 1, 0, 1, 1, 1], [31, 30, 29, 3, 5, 14, 13, 12, 1]), ([1, 1, 1, 0, 0, 1, 1, 0, 0, 1, 0, 1, 1, 1], [14, 13, 12, 3, 1]), ([0, 1, 1, 0, 0, 1, 0, 1, 1, 1], [14, 13, 12, 3, 1]), ([1, 1, 1, 0, 0, 1, 0, 1, 1, 1], [14, 13, 12, 3, 1]), ([1, 0, 1, 1, 1], [3, 1]), ([0, 1, 1, 1, 1], [2]), ([1, 1, 1, 1, 1], [2])]

def z61 (N : Nat) : Env := z5d tys zw [(13, z3z N), (28, z6q N), (29, z9a N)] [(3, (.pair (.int .i64) (.pair .str (.pair (.int .i64) (.pair (.int .i64) (.pair .str .unit)))))), (2, (.pair (.int .i64) (.pair .str (.pair (.int .i64) (.pair (.int .i64) (.pair .str .unit))))))] [] [] false [] []

theorem zm2 (N : Nat) : EnvOk Go.Proofs.Try.prog (z61 N) := z19 mixed z2e (FnsOk.cons (z4p N) (FnsOk.cons (z7g N) (FnsOk.cons (zas N) (FnsOk.nil)))) (ItsOk.nil)

def za8 (N : Nat) (s : ((List ((List UInt8) × (Int × (Int × ((List (Int × ((List UInt8) × Unit))) × Unit))))) × (Int × Unit))) (t : ((List UInt8) × (Int × (Int × ((List (Int × ((List UInt8) × Unit))) × Unit))))) (x12 : (List ((List UInt8) × (Int × (Int × ((List (Int × ((List UInt8) × Unit))) × Unit)))))) (x13 : Int) (x14 : Int) (x29 : (List (Int × ((List UInt8) × Unit)))) (x30 : Int) (l : (List (Int × ((List UInt8) × (Int × (Int × ((List UInt8) × Unit))))))) (x31 : Int) (rec : (List (Int × ((List UInt8) × (Int × (Int × ((List UInt8) × Unit)))))) -> Int -> Option (List (Int × ((List UInt8) × (Int × (Int × ((List UInt8) × Unit))))))) (k0 : (List (Int × ((List UInt8) × (Int × (Int × ((List UInt8) × Unit)))))) -> Option (List (Int × ((List UInt8) × (Int × (Int × ((List UInt8) × Unit))))))) : Option (List (Int × ((List UInt8) × (Int × (Int × ((List UInt8) × Unit)))))) :=
 cond (decide (x31 < x30))
 (cond (Go.Lift.inR x31 (List.length x29))
 (cond (decide ((((List.length l) + 1) * 56) <= 70368744177664))
 (rec (l ++ ([((2 : Int), (t.1, ((List.getD x29 (Int.toNat x31) ((0 : Int), (([] : List UInt8), ()))).1, ((0 : Int), ((List.getD x29 (Int.toNat x31) ((0 : Int), (([] : List UInt8), ()))).2.1, ())))))] : List (Int × ((List UInt8) × (Int × (Int × ((List UInt8) × Unit))))))) (Go.IntKind.wrap Go.IntKind.i64 (x31 + (1 : Int))))
 (none))
 (none))
 (k0 l)

def zaa (N : Nat) (s : ((List ((List UInt8) × (Int × (Int × ((List (Int × ((List UInt8) × Unit))) × Unit))))) × (Int × Unit))) (l : (List (Int × ((List UInt8) × (Int × (Int × ((List UInt8) × Unit))))))) (t : ((List UInt8) × (Int × (Int × ((List (Int × ((List UInt8) × Unit))) × Unit))))) (x12 : (List ((List UInt8) × (Int × (Int × ((List (Int × ((List UInt8) × Unit))) × Unit)))))) (x13 : Int) (x14 : Int) (x29 : (List (Int × ((List UInt8) × Unit)))) (x30 : Int) (x31 : Int) (k0 : (List (Int × ((List UInt8) × (Int × (Int × ((List UInt8) × Unit)))))) -> Option (List (Int × ((List UInt8) × (Int × (Int × ((List UInt8) × Unit))))))) : Option (List (Int × ((List UInt8) × (Int × (Int × ((List UInt8) × Unit)))))) :=
 iter (fun (v : ((List (Int × ((List UInt8) × (Int × (Int × ((List UInt8) × Unit)))))) × Int)) r => za8 N s t x12 x13 x14 x29 x30 v.1 v.2 (fun l x31 => (r (l, x31))) k0) N (l, x31)

def zfn (N : Nat) (i : (((List ((List UInt8) × (Int × (Int × ((List (Int × ((List UInt8) × Unit))) × Unit))))) × (Int × Unit)) × ((List UInt8) × (Int × (Int × ((List (Int × ((List UInt8) × Unit))) × Unit)))) × (List ((List UInt8) × (Int × (Int × ((List (Int × ((List UInt8) × Unit))) × Unit))))) × Int × Int × (List (Int × ((List UInt8) × Unit))) × Int)) (v : ((List (Int × ((List UInt8) × (Int × (Int × ((List UInt8) × Unit)))))) × Int)) (r : ((List (Int × ((List UInt8) × (Int × (Int × ((List UInt8) × Unit)))))) × Int) -> Option (List (Int × ((List UInt8) × (Int × (Int × ((List UInt8) × Unit))))))) (K : Ex -> List A -> Option (List (Int × ((List UInt8) × (Int × (Int × ((List UInt8) × Unit))))))) : Option (List (Int × ((List UInt8) × (Int × (Int × ((List UInt8) × Unit)))))) :=
 za8 N i.1 i.2.1 i.2.2.1 i.2.2.2.1 i.2.2.2.2.1 i.2.2.2.2.2.1 i.2.2.2.2.2.2 v.1 v.2 (fun l x31 => (r (l, x31))) (fun a1 => (K (.exit 2) (mkS [(1, .box (.pair (.sl (.pair .str (.pair (.int .i64) (.pair (.int .i64) (.pair (.sl (.pair (.int .i64) (.pair .str .unit))) .unit))))) (.pair (.int .i64) .unit))), (1, .row (.pair (.int .i64) (.pair .str (.pair (.int .i64) (.pair (.int .i64) (.pair .str .unit)))))), (8, .v (.sl (.pair .str (.pair (.int .i64) (.pair (.int .i64) (.pair (.sl (.pair (.int .i64) (.pair .str .unit))) .unit)))))), (0, .v (.int .i64)), (0, .v (.int .i64))] 38 (i.1, a1, i.2.2.1, i.2.2.2.1, i.2.2.2.2.1, ()))))

def zfl (N : Nat) : Hd (List (Int × ((List UInt8) × (Int × (Int × ((List UInt8) × Unit)))))) := fun st K => (unS [(1, .box (.pair (.sl (.pair .str (.pair (.int .i64) (.pair (.int .i64) (.pair (.sl (.pair (.int .i64) (.pair .str .unit))) .unit))))) (.pair (.int .i64) .unit))), (1, .row (.pair (.int .i64) (.pair .str (.pair (.int .i64) (.pair (.int .i64) (.pair .str .unit)))))), (1, .box (.pair .str (.pair (.int .i64) (.pair (.int .i64) (.pair (.sl (.pair (.int .i64) (.pair .str .unit))) .unit))))), (6, .v (.sl (.pair .str (.pair (.int .i64) (.pair (.int .i64) (.pair (.sl (.pair (.int .i64) (.pair .str .unit))) .unit)))))), (0, .v (.int .i64)), (0, .v (.int .i64)), (14, .v (.sl (.pair (.int .i64) (.pair .str .unit)))), (0, .v (.int .i64)), (0, .v (.int .i64))] 21 (restr [31, 30, 29, 3, 5, 14, 13, 12, 1] 0 st)).bind fun x => iter (fun v r => zfn N ((fun x => (x.1, x.2.2.1, x.2.2.2.1, x.2.2.2.2.1, x.2.2.2.2.2.1, x.2.2.2.2.2.2.1, x.2.2.2.2.2.2.2.1)) x) v r K) N ((fun x => (x.2.1, x.2.2.2.2.2.2.2.2.1)) x)

def zo6 (N : Nat) : Tab (List (Int × ((List UInt8) × (Int × (Int × ((List UInt8) × Unit)))))) := []

theorem zm0 {N : Nat} {c : Ctx} (hb : Base Go.Proofs.Try.prog (z61 N) c) : z1b Go.Proofs.Try.prog c (zm z3d [0, 1, 1, 1, 0, 0, 1, 1, 0, 0, 1, 0, 1, 1, 1]) (zfl N) :=
  z7l (s := [(1, .box (.pair (.sl (.pair .str (.pair (.int .i64) (.pair (.int .i64) (.pair (.sl (.pair (.int .i64) (.pair .str .unit))) .unit))))) (.pair (.int .i64) .unit))), (1, .row (.pair (.int .i64) (.pair .str (.pair (.int .i64) (.pair (.int .i64) (.pair .str .unit)))))), (1, .box (.pair .str (.pair (.int .i64) (.pair (.int .i64) (.pair (.sl (.pair (.int .i64) (.pair .str .unit))) .unit))))), (6, .v (.sl (.pair .str (.pair (.int .i64) (.pair (.int .i64) (.pair (.sl (.pair (.int .i64) (.pair .str .unit))) .unit)))))), (0, .v (.int .i64)), (0, .v (.int .i64)), (14, .v (.sl (.pair (.int .i64) (.pair .str .unit)))), (0, .v (.int .i64)), (0, .v (.int .i64))]) (m := 21) (zfn N) [31, 30, 29, 3, 5, 14, 13, 12, 1] N (fun x => (x.1, x.2.2.1, x.2.2.2.1, x.2.2.2.2.1, x.2.2.2.2.2.1, x.2.2.2.2.2.2.1, x.2.2.2.2.2.2.2.1)) (fun x => (x.2.1, x.2.2.2.2.2.2.2.2.1)) (fun i v => (i.1, v.1, i.2.1, i.2.2.1, i.2.2.2.1, i.2.2.2.2.1, i.2.2.2.2.2.1, i.2.2.2.2.2.2, v.2, ())) (fun _ => rfl) (zo hb N (zo6 N) z84 z3d TabOk.nil [0, 0, 1, 1, 1, 0, 0, 1, 1, 0, 0, 1, 0, 1, 1, 1] _ rfl) (fun i v r K => by kernel_rfl)

def za9 (N : Nat) (s : ((List ((List UInt8) × (Int × (Int × ((List (Int × ((List UInt8) × Unit))) × Unit))))) × (Int × Unit))) (x12 : (List ((List UInt8) × (Int × (Int × ((List (Int × ((List UInt8) × Unit))) × Unit)))))) (x13 : Int) (l : (List (Int × ((List UInt8) × (Int × (Int × ((List UInt8) × Unit))))))) (x14 : Int) (rec : (List (Int × ((List UInt8) × (Int × (Int × ((List UInt8) × Unit)))))) -> Int -> Option (List (Int × ((List UInt8) × (Int × (Int × ((List UInt8) × Unit))))))) (k0 : (List (Int × ((List UInt8) × (Int × (Int × ((List UInt8) × Unit)))))) -> Option (List (Int × ((List UInt8) × (Int × (Int × ((List UInt8) × Unit))))))) : Option (List (Int × ((List UInt8) × (Int × (Int × ((List UInt8) × Unit)))))) :=
 cond (decide (x14 < x13))
 (cond (Go.Lift.inR x14 (List.length x12))
 (cond (decide ((((List.length l) + 1) * 56) <= 70368744177664))
 (zaa N s (l ++ ([((1 : Int), ((List.getD x12 (Int.toNat x14) (([] : List UInt8), ((0 : Int), ((0 : Int), (([] : List (Int × ((List UInt8) × Unit))), ()))))).1, ((List.getD x12 (Int.toNat x14) (([] : List UInt8), ((0 : Int), ((0 : Int), (([] : List (Int × ((List UInt8) × Unit))), ()))))).2.2.1, ((List.getD x12 (Int.toNat x14) (([] : List UInt8), ((0 : Int), ((0 : Int), (([] : List (Int × ((List UInt8) × Unit))), ()))))).2.1, (([] : List UInt8), ())))))] : List (Int × ((List UInt8) × (Int × (Int × ((List UInt8) × Unit))))))) (List.getD x12 (Int.toNat x14) (([] : List UInt8), ((0 : Int), ((0 : Int), (([] : List (Int × ((List UInt8) × Unit))), ()))))) x12 x13 x14 (List.getD x12 (Int.toNat x14) (([] : List UInt8), ((0 : Int), ((0 : Int), (([] : List (Int × ((List UInt8) × Unit))), ()))))).2.2.2.1 (((List.length (List.getD x12 (Int.toNat x14) (([] : List UInt8), ((0 : Int), ((0 : Int), (([] : List (Int × ((List UInt8) × Unit))), ()))))).2.2.2.1) : Nat) : Int) (0 : Int)
 (fun l1 => rec l1 (Go.IntKind.wrap Go.IntKind.i64 (x14 + (1 : Int)))))
 (none))
 (none))
 (k0 l)

def zfk (N : Nat) (s : ((List ((List UInt8) × (Int × (Int × ((List (Int × ((List UInt8) × Unit))) × Unit))))) × (Int × Unit))) (l : (List (Int × ((List UInt8) × (Int × (Int × ((List UInt8) × Unit))))))) (x12 : (List ((List UInt8) × (Int × (Int × ((List (Int × ((List UInt8) × Unit))) × Unit)))))) (x13 : Int) (x14 : Int) (k0 : (List (Int × ((List UInt8) × (Int × (Int × ((List UInt8) × Unit)))))) -> Option (List (Int × ((List UInt8) × (Int × (Int × ((List UInt8) × Unit))))))) : Option (List (Int × ((List UInt8) × (Int × (Int × ((List UInt8) × Unit)))))) :=
 iter (fun (v : ((List (Int × ((List UInt8) × (Int × (Int × ((List UInt8) × Unit)))))) × Int)) r => za9 N s x12 x13 v.1 v.2 (fun l x14 => (r (l, x14))) k0) N (l, x14)

def zfo (N : Nat) (i : (((List ((List UInt8) × (Int × (Int × ((List (Int × ((List UInt8) × Unit))) × Unit))))) × (Int × Unit)) × (List ((List UInt8) × (Int × (Int × ((List (Int × ((List UInt8) × Unit))) × Unit))))) × Int)) (v : ((List (Int × ((List UInt8) × (Int × (Int × ((List UInt8) × Unit)))))) × Int)) (r : ((List (Int × ((List UInt8) × (Int × (Int × ((List UInt8) × Unit)))))) × Int) -> Option (List (Int × ((List UInt8) × (Int × (Int × ((List UInt8) × Unit))))))) (K : Ex -> List A -> Option (List (Int × ((List UInt8) × (Int × (Int × ((List UInt8) × Unit))))))) : Option (List (Int × ((List UInt8) × (Int × (Int × ((List UInt8) × Unit)))))) :=
 za9 N i.1 i.2.1 i.2.2 v.1 v.2 (fun l x14 => (r (l, x14))) (fun a1 => (K (.exit 0) (mkS [(1, .box (.pair (.sl (.pair .str (.pair (.int .i64) (.pair (.int .i64) (.pair (.sl (.pair (.int .i64) (.pair .str .unit))) .unit))))) (.pair (.int .i64) .unit))), (1, .row (.pair (.int .i64) (.pair .str (.pair (.int .i64) (.pair (.int .i64) (.pair .str .unit))))))] 49 (i.1, a1, ()))))

def zfm (N : Nat) : Hd (List (Int × ((List UInt8) × (Int × (Int × ((List UInt8) × Unit)))))) := fun st K => (unS [(1, .box (.pair (.sl (.pair .str (.pair (.int .i64) (.pair (.int .i64) (.pair (.sl (.pair (.int .i64) (.pair .str .unit))) .unit))))) (.pair (.int .i64) .unit))), (1, .row (.pair (.int .i64) (.pair .str (.pair (.int .i64) (.pair (.int .i64) (.pair .str .unit)))))), (8, .v (.sl (.pair .str (.pair (.int .i64) (.pair (.int .i64) (.pair (.sl (.pair (.int .i64) (.pair .str .unit))) .unit)))))), (0, .v (.int .i64)), (0, .v (.int .i64))] 38 (restr [14, 13, 12, 3, 1] 0 st)).bind fun x => iter (fun v r => zfo N ((fun x => (x.1, x.2.2.1, x.2.2.2.1)) x) v r K) N ((fun x => (x.2.1, x.2.2.2.2.1)) x)

def zo7 (N : Nat) : Tab (List (Int × ((List UInt8) × (Int × (Int × ((List UInt8) × Unit)))))) := [([0, 1, 1, 1, 0, 0, 1, 1, 0, 0, 1, 0, 1, 1, 1], zfl N)]

theorem zm1 {N : Nat} {c : Ctx} (hb : Base Go.Proofs.Try.prog (z61 N) c) : z1b Go.Proofs.Try.prog c (zm z3d [0, 1, 0, 1, 1, 1]) (zfm N) :=
  z7l (s := [(1, .box (.pair (.sl (.pair .str (.pair (.int .i64) (.pair (.int .i64) (.pair (.sl (.pair (.int .i64) (.pair .str .unit))) .unit))))) (.pair (.int .i64) .unit))), (1, .row (.pair (.int .i64) (.pair .str (.pair (.int .i64) (.pair (.int .i64) (.pair .str .unit)))))), (8, .v (.sl (.pair .str (.pair (.int .i64) (.pair (.int .i64) (.pair (.sl (.pair (.int .i64) (.pair .str .unit))) .unit)))))), (0, .v (.int .i64)), (0, .v (.int .i64))]) (m := 38) (zfo N) [14, 13, 12, 3, 1] N (fun x => (x.1, x.2.2.1, x.2.2.2.1)) (fun x => (x.2.1, x.2.2.2.2.1)) (fun i v => (i.1, v.1, i.2.1, i.2.2, v.2, ())) (fun _ => rfl) (zo hb N (zo7 N) z84 z3d (TabOk.cons (zm0 hb) TabOk.nil) [0, 0, 1, 0, 1, 1, 1] _ rfl) (fun i v r K => by kernel_rfl)

def z6x (N : Nat) (s : ((List ((List UInt8) × (Int × (Int × ((List (Int × ((List UInt8) × Unit))) × Unit))))) × (Int × Unit))) : Option (List (Int × ((List UInt8) × (Int × (Int × ((List UInt8) × Unit)))))) :=
 (z38 N s).bind fun y =>
 cond (!y)
 (some ([] : List (Int × ((List UInt8) × (Int × (Int × ((List UInt8) × Unit)))))))
 (zfk N s ([] : List (Int × ((List UInt8) × (Int × (Int × ((List UInt8) × Unit)))))) s.1 (((List.length s.1) : Nat) : Int) (0 : Int)
 (fun l => cond (decide ((((List.length l) + 1) * 56) <= 70368744177664))
 (some (l ++ ([((4 : Int), (([] : List UInt8), (s.2.1, ((0 : Int), (([] : List UInt8), ())))))] : List (Int × ((List UInt8) × (Int × (Int × ((List UInt8) × Unit))))))))
 (none)))

def zhv (N : Nat) : Tab (List (Int × ((List UInt8) × (Int × (Int × ((List UInt8) × Unit)))))) := [([0, 1, 0, 1, 1, 1], zfm N)]

theorem zk5 (N : Nat) (x : z2g [(0, .v (.pair (.sl (.pair .str (.pair (.int .i64) (.pair (.int .i64) (.pair (.sl (.pair (.int .i64) (.pair .str .unit))) .unit))))) (.pair (.int .i64) .unit)))]) : zcy (z61 N) N (zhv N) z84 Go.Proofs.Try.f11 (mkS [(0, .v (.pair (.sl (.pair .str (.pair (.int .i64) (.pair (.int .i64) (.pair (.sl (.pair (.int .i64) (.pair .str .unit))) .unit))))) (.pair (.int .i64) .unit)))] 0 x) (z68 (.v (.sl (.pair (.int .i64) (.pair .str (.pair (.int .i64) (.pair (.int .i64) (.pair .str .unit))))))) 1) = z6x N x.1 := by kernel_rfl

def z8k (N : Nat) : List A -> Res := z28 [(0, .v (.pair (.sl (.pair .str (.pair (.int .i64) (.pair (.int .i64) (.pair (.sl (.pair (.int .i64) (.pair .str .unit))) .unit))))) (.pair (.int .i64) .unit)))] (fun x => z6x N x.1) (z7w (.v (.sl (.pair (.int .i64) (.pair .str (.pair (.int .i64) (.pair (.int .i64) (.pair .str .unit))))))) 1)

theorem zfp (N : Nat) : Contract Go.Proofs.Try.prog zw 11 (z8k N) :=
  Contract.of (E := z61 N) (H := zhv N) (L := z84) (N := N) (body := z3d) (K := (z68 (.v (.sl (.pair (.int .i64) (.pair .str (.pair (.int .i64) (.pair (.int .i64) (.pair .str .unit))))))) 1)) (zm2 N) Go.Proofs.Try.func11 (by kernel_rfl) (by decide) (fun _ hb => (TabOk.cons (zm1 hb) TabOk.nil)) (fun x y h => by rw [zk5]; exact h) (z20 (s := (.v (.sl (.pair (.int .i64) (.pair .str (.pair (.int .i64) (.pair (.int .i64) (.pair .str .unit)))))))) (m := 1))

end
end Go.Proofs.YtlohplpnhopldaaLg

set_option linter.all false
set_option maxRecDepth 100000
namespace Go.Lift
noncomputable section

structure NSt (w0 : World) (S0 : Hp) (w : World) (S : Hp) (L : List (Nat × Array Value × Nat)) : Prop where
  wf : WF w0 (fun _ => False) w
  sub : Sub S0 S
  inw : Sub S (hp w)
  new : ∀ k, S k ≠ none -> S0 k ≠ none \/ w0.heap.size <= k
  own : ∀ p ∈ L, S p.1 = none /\ w0.heap.size <= p.1 /\ w.heap[p.1]? = some (.cells p.2.1 p.2.2 (0, 0))

variable {P : Program} {glob : Nat -> Option Dat} {w0 w : World} {S0 S : Hp} {L : List (Nat × Array Value × Nat)}

theorem NSt.start (hS : Sub S0 (hp w)) : NSt w S0 w S0 [] := ⟨WF.refl _ _, Sub.refl _, hS, fun _ h => .inl h, fun p hp => by cases hp⟩

theorem NSt.lt (h : NSt w0 S0 w S L) : ∀ p ∈ L, p.1 < w.heap.size := fun p hp => (Array.getElem?_eq_some_iff.1 (h.own p hp).2.2).1

theorem NSt.drew (h : NSt w0 S0 w S L) : NSt w0 S0 w.drew S L := ⟨⟨h.wf.size, h.wf.same, h.wf.tape, h.wf.os, h.wf.output⟩, h.sub, h.inw, h.new, h.own⟩

theorem NSt.swap {L' : List (Nat × Array Value × Nat)} (h : NSt w0 S0 w S L) (hm : ∀ p ∈ L', p ∈ L) : NSt w0 S0 w S L' := ⟨h.wf, h.sub, h.inw, h.new, fun p hp => h.own p (hm p hp)⟩

theorem NSt.cell (h : NSt w0 S0 w S L) {p : Nat} {cs : Array Value} {E i : Nat} {v : Value} (hm : (p, cs, E) ∈ L) (hi : cs[i]? = some v) : w.cell? ⟨p, i, none⟩ = some v := by
  have := (h.own _ hm).2.2
  simp only at this
  simp [World.cell?, this, hi]

theorem NSt.free (h : NSt w0 S0 w S L) {p : Nat} {cs : Array Value} {E i : Nat} (hm : (p, cs, E) ∈ L) : w.frozen? ⟨p, i, none⟩ = false := by
  have := (h.own _ hm).2.2
  simp only at this
  simp [World.frozen?, this]

theorem NSt.alloc (h : NSt w0 S0 w S L) (cs : Array Value) (E : Nat) : NSt w0 S0 (w.alloc (.cells cs E)) S ((w.heap.size, cs, E) :: L) := by
  have hlt := h.lt
  have hh : (w.alloc (.cells cs E)).heap = w.heap.push (.cells cs E (0, 0)) := rfl
  have hk : ∀ k, k < w.heap.size -> (w.alloc (.cells cs E)).heap[k]? = w.heap[k]? := fun k hk => by
    rw [hh, Array.getElem?_push, if_neg (by omega)]
  refine ⟨⟨by rw [hh, Array.size_push]; have := h.wf.size; omega, fun k h1' h2' => by rw [hk k (by have := h.wf.size; omega)]; exact h.wf.same k h1' h2', h.wf.tape, h.wf.os, h.wf.output⟩, h.sub, fun k q ho => ?_, h.new, fun p hpm => ?_⟩
  . have := h.inw k q ho
    simp only [hp] at this ⊢
    rw [hk k (Array.getElem?_eq_some_iff.1 this).1]
    exact this
  . rcases List.mem_cons.1 hpm with rfl | hpm
    . refine ⟨?_, h.wf.size, ?_⟩
      . cases hs : S w.heap.size with
        | none => rfl
        | some q =>
          have := h.inw _ _ hs
          simp only [hp] at this
          have := (Array.getElem?_eq_some_iff.1 this).1
          omega
      . simp only
        rw [hh, Array.getElem?_push, if_pos rfl]
    . obtain ⟨p1, p3, p4⟩ := h.own p hpm
      exact ⟨p1, p3, by rw [hk p.1 (hlt p hpm)]; exact p4⟩

theorem zqs (w : World) (o : Obj) : w.heap.size + 1 = (w.alloc o).heap.size := by
  show _ = (w.heap.push _).size
  rw [Array.size_push]

theorem NSt.new' (h : NSt w0 S0 w S L) {p : Nat} (hp : p = w.heap.size) (cs : Array Value) (E : Nat) : NSt w0 S0 (w.alloc (.cells cs E)) S ((p, cs, E) :: L) := by
  subst hp; exact h.alloc cs E

theorem NSt.set {p : Nat} {cs : Array Value} {E : Nat} (h : NSt w0 S0 w S ((p, cs, E) :: L)) (hd : ∀ q ∈ L, q.1 ≠ p) (i : Nat) (v : Value) :
    NSt w0 S0 (w.setCell ⟨p, i, none⟩ v) S ((p, cs.setIfInBounds i v, E) :: L) := by
  obtain ⟨q1, q3, q4⟩ := h.own (p, cs, E) (List.mem_cons_self ..)
  simp only at q1 q3 q4
  have hw := zge (off := i) v (show hp w p = some (.cells cs E (0, 0)) from q4)
  obtain ⟨w', hw'⟩ : ∃ w', w' = w.setCell ⟨p, i, none⟩ v := ⟨_, rfl⟩
  rw [<- hw'] at hw ⊢
  have hne : ∀ k, k ≠ p -> w'.heap[k]? = w.heap[k]? := fun k hk => by
    have := zi (w := w) (o := .cells (cs.setIfInBounds i v) E (0, 0)) hk
    rw [hw]; exact this
  have hsz : w'.heap.size = w.heap.size := by rw [hw]; simp [z14]
  refine ⟨⟨by rw [hsz]; exact h.wf.size, fun k h1' h2' => by rw [hne k (by omega)]; exact h.wf.same k h1' h2', by rw [hw]; exact h.wf.tape, by rw [hw]; exact h.wf.os, by rw [hw]; exact h.wf.output⟩, h.sub, fun k q ho => ?_, h.new, fun u hu => ?_⟩
  . have hk : k ≠ p := fun e => by rw [e, q1] at ho; cases ho
    have := h.inw k q ho
    simp only [hp] at this ⊢
    rw [hne k hk]
    exact this
  . rcases List.mem_cons.1 hu with rfl | hu
    . refine ⟨q1, q3, ?_⟩
      rw [hw]
      exact z1k q4
    . obtain ⟨p1, p3, p4⟩ := h.own u (List.mem_cons_of_mem _ hu)
      exact ⟨p1, p3, by rw [hne u.1 (hd u hu)]; exact p4⟩

theorem NSt.give {p : Nat} {cs : Array Value} {E : Nat} (h : NSt w0 S0 w S ((p, cs, E) :: L)) (hd : ∀ q ∈ L, q.1 ≠ p) :
    NSt w0 S0 w (fun k => if k = p then some (.cells cs E (0, 0)) else S k) L /\ Sub S (fun k => if k = p then some (.cells cs E (0, 0)) else S k) := by
  obtain ⟨q1, q3, q4⟩ := h.own (p, cs, E) (List.mem_cons_self ..)
  simp only at q1 q3 q4
  have hs : Sub S (fun k => if k = p then some (.cells cs E (0, 0)) else S k) := fun k o hk => by
    refine (if_neg (fun e => ?_)).trans hk
    rw [e, q1] at hk; cases hk
  refine ⟨⟨h.wf, h.sub.trans hs, fun k o hk => ?_, fun k hk => ?_, fun u hu => ?_⟩, hs⟩
  . split at hk
    . subst_vars
      simp only [hp]
      rw [q4]; exact hk
    . exact h.inw k o hk
  . split at hk
    . subst_vars; exact .inr q3
    . exact h.new k hk
  . obtain ⟨p1, p3, p4⟩ := h.own u (List.mem_cons_of_mem _ hu)
    exact ⟨by rw [if_neg (hd u hu)]; exact p1, p3, p4⟩

theorem NSt.plain {f : FuncId} {g : List A -> Res} (ct : Contract P glob f g) (hg : GlobOk glob S) (h : NSt w0 S0 w S L) {args : List A} {vals : List Value}
    (hrel : ArgsRel (hp w) S args vals (fun _ => [])) {y : (g args).X} (hy : (g args).val = some y) :
    Calls P f vals.toArray w fun e w' => ∃ v S' o', e = .returned v /\ ARel (hp w') S' (fun _ => undef) ((g args).out y).1 v o' /\ Sub S S' /\ NSt w0 S0 w' S' L := by
  refine ((ct.2 w S args vals _ hrel h.inw hg y hy)).mono ?_
  rintro e w' ⟨v, S', q, ob', rfl, hwf, hSS, hSw, hnew, ⟨hr, _⟩, _⟩
  refine ⟨v, S', q, rfl, hr, hSS, ?_⟩
  have hwf' : WF w (fun _ => False) w' := ⟨hwf.size, fun k hk _ => hwf.same k hk (by rintro ⟨i, hi⟩; cases hi), hwf.tape, hwf.os, hwf.output⟩
  have hnw : ∀ k, k < w.heap.size -> S' k ≠ none -> S k ≠ none := fun k hk hs => by
    rcases hnew k hs with h | ⟨i, hi⟩ | h
    . exact h
    . cases hi
    . omega
  refine ⟨h.wf.trans hwf' (fun _ h => h.elim), h.sub.trans hSS, hSw, fun k hk => ?_, fun p hp => ?_⟩
  . rcases hnew k hk with h' | ⟨i, hi⟩ | h'
    . exact h.new k h'
    . cases hi
    . exact .inr (Nat.le_trans h.wf.size h')
  . obtain ⟨p1, p3, p4⟩ := h.own p hp
    have hl := (Array.getElem?_eq_some_iff.1 p4).1
    refine ⟨?_, p3, ?_⟩
    . cases hs : S' p.1 with
      | none => rfl
      | some q => exact absurd p1 (hnw _ hl (by rw [hs]; simp))
    . rw [hwf'.same p.1 hl (fun h => h)]; exact p4

theorem NSt.ends {args outs : List A} {vals : List Value} {ob : Nat -> List Nat} {r : A} {v : Value} (h : NSt w0 S0 w S L) (hob : ∀ i, ob i = []) (hargs : ∀ y ∈ args, z5f y = false)
    (hr : ARel (hp w) S (fun _ => undef) r v []) (hrr : r.refs = []) : Ends w0 S0 args vals ob r outs (.returned v) w := by
  refine ⟨v, S, [], fun _ => [], rfl, ⟨h.wf.size, fun k hk _ => h.wf.same k hk (fun h => h), h.wf.tape, h.wf.os, h.wf.output⟩, h.sub, h.inw, fun k hk => ?_, ⟨hr, hrr⟩, (fun k hk => by cases hk), .nil, fun i y hy hbx => ?_, (fun i k hk => by cases hk), (fun i j k hi => by cases hi), fun i => .nil, fun i hi => rfl⟩
  . rcases h.new k hk with h | h
    . exact .inl h
    . exact .inr (.inr h)
  . have := hargs y (List.mem_of_getElem? hy)
    rw [hbx] at this; cases this

theorem NSt.lend3 {f : FuncId} {g : List A -> Res} (ct : ContractD P glob f g) (hg : GlobOk glob S) {t0 t1 t2 : T} {x0 : t0.den} {x1 : t1.den} {x2 : t2.den} {p0 p1 p2 E0 E1 E2 : Nat} {c0 c1 c2 : Array Value}
    (h : NSt w0 S0 w S ((p0, c0, E0) :: (p1, c1, E1) :: (p2, c2, E2) :: L)) (h01 : p0 ≠ p1) (h02 : p0 ≠ p2) (h12 : p1 ≠ p2) (r0 : Rd S t0 x0 c0.toList) (r1 : Rd S t1 x1 c1.toList) (r2 : Rd S t2 x2 c2.toList)
    (n0 : noOwn t0 = true) (n1 : noOwn t1 = true) (n2 : noOwn t2 = true) {y : (g [.box t0 x0, .box t1 x1, .box t2 x2]).X} (hy : (g [.box t0 x0, .box t1 x1, .box t2 x2]).val = some y) {y0 : t0.den} {y1 : t1.den} {y2 : t2.den}
    (ho : ((g [.box t0 x0, .box t1 x1, .box t2 x2]).out y).2 = [.box t0 y0, .box t1 y1, .box t2 y2]) :
    CallsD P f #[.pointer (some ⟨p0, 0, none⟩), .pointer (some ⟨p1, 0, none⟩), .pointer (some ⟨p2, 0, none⟩)] .returning w fun e u w' => (∃ v, e = .returned v) /\ u = .returning /\ ∃ S' d1 d2 F1 F2 q1 q2, Sub S S' /\ NSt w0 S0 w' S' [] ∧
      w'.heap[p1]? = some (.cells d1 F1 q1) /\ w'.heap[p2]? = some (.cells d2 F2 q2) /\ Rd S' t1 y1 d1.toList /\ Rd S' t2 y2 d2.toList := by
  obtain ⟨a1, a3, a4⟩ := h.own (p0, c0, E0) (by simp)
  obtain ⟨b1, b3, b4⟩ := h.own (p1, c1, E1) (by simp)
  obtain ⟨e1, e3, e4⟩ := h.own (p2, c2, E2) (by simp)
  simp only at a1 a3 a4 b1 b3 b4 e1 e3 e4
  have har : ArgsRel (hp w) S [.box t0 x0, .box t1 x1, .box t2 x2] [.pointer (some ⟨p0, 0, none⟩), .pointer (some ⟨p1, 0, none⟩), .pointer (some ⟨p2, 0, none⟩)] (fun i => match i with | 0 => [p0] | 1 => [p1] | 2 => [p2] | _ => []) := by
    refine ⟨rfl, fun i x hx => ?_, fun i hi => ?_, fun i j b hi hj => ?_, fun i => ?_, fun i b hb => ?_⟩
    . match i with
      | 0 => simp at hx; subst hx; exact ⟨⟨_, rfl, ⟨p0, c0, E0, (0, 0), [], rfl, rfl, a4, z7r _, RdO.of_rd t0 x0 _ r0⟩⟩, rfl⟩
      | 1 => simp at hx; subst hx; exact ⟨⟨_, rfl, ⟨p1, c1, E1, (0, 0), [], rfl, rfl, b4, z7r _, RdO.of_rd t1 x1 _ r1⟩⟩, rfl⟩
      | 2 => simp at hx; subst hx; exact ⟨⟨_, rfl, ⟨p2, c2, E2, (0, 0), [], rfl, rfl, e4, z7r _, RdO.of_rd t2 x2 _ r2⟩⟩, rfl⟩
      | i + 3 => simp at hx
    . match i with
      | 0 => simp at hi
      | 1 => simp at hi
      | 2 => simp at hi
      | i + 3 => rfl
    . match i, j with
      | 0, 0 => rfl
      | 1, 1 => rfl
      | 2, 2 => rfl
      | i + 3, _ => cases hi
      | 0, 1 => simp at hi hj; omega
      | 0, 2 => simp at hi hj; omega
      | 1, 0 => simp at hi hj; omega
      | 1, 2 => simp at hi hj; omega
      | 2, 0 => simp at hi hj; omega
      | 2, 1 => simp at hi hj; omega
      | 0, j + 3 => cases hj
      | 1, j + 3 => cases hj
      | 2, j + 3 => cases hj
    . match i with
      | 0 => simp
      | 1 => simp
      | 2 => simp
      | i + 3 => exact .nil
    . match i with
      | 0 => simp at hb; subst hb; exact a1
      | 1 => simp at hb; subst hb; exact b1
      | 2 => simp at hb; subst hb; exact e1
      | i + 3 => cases hb
  have hbl : ∀ b, (∃ i, b ∈ (fun i => match i with | 0 => [p0] | 1 => [p1] | 2 => [p2] | _ => [] : Nat -> List Nat) i) -> w0.heap.size <= b := by
    rintro b ⟨i, hi⟩
    match i with
    | 0 => simp at hi; omega
    | 1 => simp at hi; omega
    | 2 => simp at hi; omega
    | i + 3 => simp at hi
  refine CallsD.mono (ct w S _ _ _ har h.inw hg y hy) ?_
  rintro e u w' ⟨rfl, v, S', q, ob', rfl, hwf, hSS, hSw, hnew, _, _, _, houts, _⟩
  refine ⟨⟨v, rfl⟩, rfl, S', ?_⟩
  rw [ho] at houts
  obtain ⟨z1, v1, hz1, hv1, _, hA1⟩ := houts 1 _ rfl rfl
  obtain ⟨z2, v2, hz2, hv2, _, hA2⟩ := houts 2 _ rfl rfl
  simp at hz1 hv1 hz2 hv2
  subst hz1; subst hv1; subst hz2; subst hv2
  obtain ⟨b1', d1, F1, q1, bs1, _, g1, hb1, _, hr1⟩ := hA1
  obtain ⟨b2', d2, F2, q2, bs2, _, g2, hb2, _, hr2⟩ := hA2
  cases g1; cases g2
  refine ⟨d1, d2, F1, F2, q1, q2, hSS, ⟨⟨by have := h.wf.size; have := hwf.size; omega, fun k hk _ => ?_, hwf.tape.trans h.wf.tape, hwf.os.trans h.wf.os, hwf.output.trans h.wf.output⟩, h.sub.trans hSS, hSw, fun k hk => ?_, fun p hp => by cases hp⟩, hb1, hb2, (RdO.rd t1 y1 _ _ n1 hr1).2, (RdO.rd t2 y2 _ _ n2 hr2).2⟩
  . rw [hwf.same k (Nat.lt_of_lt_of_le hk h.wf.size) (fun hh => by have := hbl k hh; omega)]
    exact h.wf.same k hk (fun h => h)
  . rcases hnew k hk with h' | h' | h'
    . exact h.new k h'
    . exact .inr (hbl k h')
    . exact .inr (Nat.le_trans h.wf.size h')

end
end Go.Lift

set_option linter.all false
set_option maxRecDepth 100000
namespace Go.Proofs.YtlohplpnhopldaaLg
noncomputable section
open Go Go.Lift Go.Proofs

def zh7 (l : List EvT.den) : List Value := l.flatMap fun e => [.int .i64 e.1, .string ⟨⟨e.2.1⟩⟩, .int .i64 e.2.2.1, .int .i64 e.2.2.2.1, .string ⟨⟨e.2.2.2.2.1⟩⟩]

theorem zza {S : Hp} : ∀ (l : List EvT.den), All (Rd S EvT) l (zh7 l)
  | [] => rfl
  | e :: l => ⟨[.int .i64 e.1, .string ⟨⟨e.2.1⟩⟩, .int .i64 e.2.2.1, .int .i64 e.2.2.2.1, .string ⟨⟨e.2.2.2.2.1⟩⟩], zh7 l, rfl, ⟨[_], [_, _, _, _], rfl, rfl, [_], [_, _, _], rfl, rfl, [_], [_, _], rfl, rfl, [_], [_], rfl, rfl, [_], [], rfl, rfl, rfl⟩, zza l⟩

theorem zyi {S : Hp} {b n : Nat} {l : List EvT.den} {cs : Array Value} {E : Nat} {fr : Nat × Nat} (hS : S b = some (.cells cs E fr)) (hc : cs.toList = zh7 l) (hn : n = l.length) : VR S (.sl EvT) l (.slice (some ⟨b, 0, none⟩) n n) := by
  subst hn
  exact VR.of_one rfl ⟨_, l.length, rfl, Nat.le_refl _, .inr ⟨b, 0, zh7 l, rfl, ⟨_, _, _, [], [], hS, by simp [hc], rfl⟩, zza l⟩⟩

abbrev PlT : List T := [.sl EvT, .int .i64]

theorem zvo (N : Nat) {f : FuncId} (ct : ContractD Go.Proofs.Try.prog zw f (z41 N)) {w0 w : World} {S0 S : Hp} {L : List (Nat × Array Value × Nat)} {ts : List TenT.den} {sv : Value} {ser : Int} {l : List EvT.den} {lv : Value} {c : Int} {z : List EvT.den × (Int × Unit)} {p0 p1 p2 : Nat}
    (h : NSt w0 S0 w S ((p0, #[sv, .int .i64 ser], 24) :: (p1, #[lv], 28) :: (p2, #[.int .i64 c], 29) :: L)) (h01 : p0 ≠ p1) (h02 : p0 ≠ p2) (h12 : p1 ≠ p2)
    (hs : VR S (.sl TenT) ts sv) (hl : VR S (.sl EvT) l lv) (hz : z2r N (ts, (ser, ())) l c = some z) {vals : List Value} {ob : Nat -> List Nat} {args : List A} (hob : ∀ i, ob i = []) (hargs : ∀ y ∈ args, z5f y = false) :
    CallsD Go.Proofs.Try.prog f #[.pointer (some ⟨p0, 0, none⟩), .pointer (some ⟨p1, 0, none⟩), .pointer (some ⟨p2, 0, none⟩)] .returning w fun r u w7 => (∃ v, r = .returned v) /\ u = .returning /\ ∃ q : Value, w7.cell? ⟨p1, 0, none⟩ = some q /\ w7.cell? ⟨p2, 0, none⟩ = some (.int .i64 z.2.1) ∧
      Lift.Ends w0 S0 args vals ob (z7w (.tup PlT) 2 z).1 (z7w (.tup PlT) 2 z).2 (.returned (.tuple #[q, .int .i64 z.2.1])) w7 := by
  have r0 : Rd S StT (ts, (ser, ())) #[sv, .int .i64 ser].toList := ⟨[sv], [.int .i64 ser], rfl, hs, [.int .i64 ser], [], rfl, rfl, rfl⟩
  have hy : (z41 N [.box StT (ts, (ser, ())), .box (.sl EvT) l, .box (.int .i64) c]).val = some ((), ((ts, (ser, ())), (z.1, (z.2.1, ())))) := by
    show z83 N (ts, (ser, ())) l c = some _
    rw [z83, hz]; rfl
  have hb := NSt.lend3 ct (z5r S) (t0 := StT) (t1 := .sl EvT) (t2 := .int .i64) (x0 := (ts, (ser, ()))) (x1 := l) (x2 := c) (y0 := (ts, (ser, ()))) (y1 := z.1) (y2 := z.2.1) h h01 h02 h12 r0 hl rfl rfl rfl rfl hy rfl
  refine CallsD.mono hb ?_
  rintro r u w7 ⟨hr, rfl, S', d1, d2, F1, F2, q1, q2, hSS, hN, g1, g2, k1, k2⟩
  have k2' : d2.toList = [.int .i64 z.2.1] := k2
  have e2 : d2 = #[.int .i64 z.2.1] := by apply Array.toList_inj.1; rw [k2']
  subst e2
  have hlen := k1.length
  obtain ⟨q, hq⟩ := List.length_eq_one_iff.1 (hlen.trans rfl)
  have e1 : d1 = #[q] := by apply Array.toList_inj.1; rw [hq]
  subst e1
  refine ⟨hr, rfl, q, by simp [World.cell?, g1], by simp [World.cell?, g2], hN.ends hob hargs ⟨rfl, _, rfl, .cons k1 (.cons VR.int .nil)⟩ rfl⟩

structure PSt (w : World) (S0 : Hp) (W : World) (S : Hp) (p0 p1 p2 : Nat) (sv : Value) (ser : Int) (lv : Value) (c : Int) (L : List (Nat × Array Value × Nat)) : Prop where
  st : NSt w S0 W S ((p0, #[sv, .int .i64 ser], 24) :: (p1, #[lv], 28) :: (p2, #[.int .i64 c], 29) :: L)
  d01 : p0 ≠ p1
  d02 : p0 ≠ p2
  d12 : p1 ≠ p2
  far : ∀ q ∈ L, q.1 ≠ p0 /\ q.1 ≠ p1 /\ q.1 ≠ p2

section
variable {w W : World} {S0 S : Hp} {p0 p1 p2 : Nat} {sv lv : Value} {ser c : Int} {L : List (Nat × Array Value × Nat)}

theorem PSt.gser (h : PSt w S0 W S p0 p1 p2 sv ser lv c L) : W.cell? ⟨p0, 1, none⟩ = some (.int .i64 ser) := h.st.cell (.head _) rfl
theorem PSt.gsv (h : PSt w S0 W S p0 p1 p2 sv ser lv c L) : W.cell? ⟨p0, 0, none⟩ = some sv := h.st.cell (.head _) rfl
theorem PSt.glv (h : PSt w S0 W S p0 p1 p2 sv ser lv c L) : W.cell? ⟨p1, 0, none⟩ = some lv := h.st.cell (.tail _ (.head _)) rfl
theorem PSt.glf (h : PSt w S0 W S p0 p1 p2 sv ser lv c L) : W.frozen? ⟨p1, 0, none⟩ = false := h.st.free (.tail _ (.head _))
theorem PSt.gcv (h : PSt w S0 W S p0 p1 p2 sv ser lv c L) : W.cell? ⟨p2, 0, none⟩ = some (.int .i64 c) := h.st.cell (.tail _ (.tail _ (.head _))) rfl
theorem PSt.gcf (h : PSt w S0 W S p0 p1 p2 sv ser lv c L) : W.frozen? ⟨p2, 0, none⟩ = false := h.st.free (.tail _ (.tail _ (.head _)))

theorem PSt.start (hS : Lift.Sub S0 (hp w)) (sv : Value) (ser : Int) : PSt w S0 (((w.alloc (Obj.cells #[sv, .int .i64 ser] 24)).alloc (Obj.cells #[.slice none 0 0] 28)).alloc (Obj.cells #[.int .i64 0] 29)) S0 w.heap.size (w.heap.size + 1) (w.heap.size + 1 + 1) sv ser (.slice none 0 0) 0 [] :=
  ⟨((((NSt.start hS).new' (p := w.heap.size) rfl #[sv, .int .i64 ser] 24).new' (p := w.heap.size + 1) (zqs _ _) #[.slice none 0 0] 28).new' (p := w.heap.size + 1 + 1) ((congrArg (· + 1) (zqs _ _)).trans (zqs _ _)) #[.int .i64 0] 29).swap (by
    intro q hq
    simp only [List.mem_cons, List.not_mem_nil, or_false] at hq ⊢
    rcases hq with rfl | rfl | rfl <;> simp), by omega, by omega, by omega, fun q hq => by cases hq⟩

theorem PSt.alloc (h : PSt w S0 W S p0 p1 p2 sv ser lv c L) (cs : Array Value) (E : Nat) : PSt w S0 (W.alloc (.cells cs E)) S p0 p1 p2 sv ser lv c ((W.heap.size, cs, E) :: L) := by
  have hlt := h.st.lt
  refine ⟨(h.st.alloc cs E).swap (by intro q hq; simp only [List.mem_cons] at hq ⊢; rcases hq with h | h | h | h | h <;> simp [h]), h.d01, h.d02, h.d12, fun q hq => ?_⟩
  rcases List.mem_cons.1 hq with rfl | hq
  . have a := hlt _ (.head _)
    have b := hlt _ (.tail _ (.head _))
    have d := hlt _ (.tail _ (.tail _ (.head _)))
    dsimp only at a b d ⊢
    omega
  . exact h.far q hq

theorem PSt.putL (h : PSt w S0 W S p0 p1 p2 sv ser lv c L) (u : Value) : PSt w S0 (W.setCell ⟨p1, 0, none⟩ u) S p0 p1 p2 sv ser u c L := by
  have d1 := h.d01
  have d2 := h.d12
  refine ⟨((h.st.swap (L' := (p1, #[lv], 28) :: (p0, #[sv, .int .i64 ser], 24) :: (p2, #[.int .i64 c], 29) :: L) (by intro q hq; simp only [List.mem_cons] at hq ⊢; rcases hq with h | h | h | h <;> simp [h])).set (fun q hq => ?_) 0 u).swap (by intro q hq; simp only [List.mem_cons] at hq ⊢; rcases hq with h | h | h | h <;> simp [h]), h.d01, h.d02, h.d12, h.far⟩
  simp only [List.mem_cons] at hq
  rcases hq with rfl | rfl | hq
  . exact d1
  . exact Ne.symm d2
  . exact (h.far q hq).2.1

theorem PSt.putC (h : PSt w S0 W S p0 p1 p2 sv ser lv c L) (u : Int) : PSt w S0 (W.setCell ⟨p2, 0, none⟩ (.int .i64 u)) S p0 p1 p2 sv ser lv u L := by
  have d1 := h.d02
  have d2 := h.d12
  refine ⟨((h.st.swap (L' := (p2, #[.int .i64 c], 29) :: (p0, #[sv, .int .i64 ser], 24) :: (p1, #[lv], 28) :: L) (by intro q hq; simp only [List.mem_cons] at hq ⊢; rcases hq with h | h | h | h <;> simp [h])).set (fun q hq => ?_) 0 (.int .i64 u)).swap (by intro q hq; simp only [List.mem_cons] at hq ⊢; rcases hq with h | h | h | h <;> simp [h]), h.d01, h.d02, h.d12, h.far⟩
  simp only [List.mem_cons] at hq
  rcases hq with rfl | rfl | hq
  . exact d1
  . exact d2
  . exact (h.far q hq).2.2

theorem PSt.row {b E : Nat} {cs : Array Value} (h : PSt w S0 W S p0 p1 p2 sv ser lv c ((b, cs, E) :: L)) (hb : ∀ q ∈ L, q.1 ≠ b) {l : List EvT.den} {n : Nat} (hc : cs.toList = zh7 l) (hn : n = l.length) :
    ∃ S', Lift.Sub S S' /\ VR S' (.sl EvT) l (.slice (some ⟨b, 0, none⟩) n n) /\ PSt w S0 W S' p0 p1 p2 sv ser lv c L := by
  have hf := h.far _ (.head _)
  dsimp only at hf
  have hg := (h.st.swap (L' := (b, cs, E) :: (p0, #[sv, .int .i64 ser], 24) :: (p1, #[lv], 28) :: (p2, #[.int .i64 c], 29) :: L) (by intro q hq; simp only [List.mem_cons] at hq ⊢; rcases hq with h | h | h | h | h <;> simp [h])).give (fun q hq => by
    simp only [List.mem_cons] at hq
    rcases hq with rfl | rfl | rfl | hq
    . exact Ne.symm hf.1
    . exact Ne.symm hf.2.1
    . exact Ne.symm hf.2.2
    . exact hb q hq)
  exact ⟨_, hg.2, zyi (if_pos rfl) hc hn, hg.1, h.d01, h.d02, h.d12, fun q hq => h.far q (.tail _ hq)⟩

theorem PSt.build (h : PSt w S0 W S p0 p1 p2 sv ser lv c L) {cs : Array Value} {E n : Nat} {l : List EvT.den} (hc : cs.toList = zh7 l) (hn : n = l.length) :
    ∃ S', Lift.Sub S S' /\ VR S' (.sl EvT) l (.slice (some ⟨W.heap.size, 0, none⟩) n n) /\ PSt w S0 ((W.alloc (.cells cs E)).setCell ⟨p1, 0, none⟩ (.slice (some ⟨W.heap.size, 0, none⟩) n n)) S' p0 p1 p2 sv ser (.slice (some ⟨W.heap.size, 0, none⟩) n n) c L := by
  have hlt := h.st.lt
  obtain ⟨S', h1, h2, h3⟩ := (h.alloc cs E).row (fun q hq => by have := hlt q (.tail _ (.tail _ (.tail _ hq))); omega) hc hn
  exact ⟨S', h1, h2, h3.putL _⟩

theorem PSt.plain {f : FuncId} {g : List A -> Res} (ct : Contract Go.Proofs.Try.prog zw f g) (h : PSt w S0 W S p0 p1 p2 sv ser lv c L) {args : List A} {vals : List Value}
    (hrel : ArgsRel (hp W) S args vals (fun _ => [])) {y : (g args).X} (hy : (g args).val = some y) :
    Calls Go.Proofs.Try.prog f vals.toArray W fun e w' => ∃ v S' o', e = .returned v /\ ARel (hp w') S' (fun _ => undef) ((g args).out y).1 v o' /\ Lift.Sub S S' /\ PSt w S0 w' S' p0 p1 p2 sv ser lv c L := by
  refine (h.st.plain ct (z5r S) hrel hy).mono ?_
  rintro e w' ⟨v, S', o', h1, h2, h3, h4⟩
  exact ⟨v, S', o', h1, h2, h3, h4, h.d01, h.d02, h.d12, h.far⟩

theorem PSt.out (h : PSt w S0 W S p0 p1 p2 sv ser lv c L) (N : Nat) {f : FuncId} (ct : ContractD Go.Proofs.Try.prog zw f (z41 N)) {ts : List TenT.den} {l : List EvT.den} {z : List EvT.den × (Int × Unit)}
    (hs : VR S (.sl TenT) ts sv) (hl : VR S (.sl EvT) l lv) (hz : z2r N (ts, (ser, ())) l c = some z) {vals : List Value} {ob : Nat -> List Nat} {args : List A} (hob : ∀ i, ob i = []) (hargs : ∀ y ∈ args, z5f y = false) :
    CallsD Go.Proofs.Try.prog f #[.pointer (some ⟨p0, 0, none⟩), .pointer (some ⟨p1, 0, none⟩), .pointer (some ⟨p2, 0, none⟩)] .returning W fun r u w7 => (∃ v, r = .returned v) /\ u = .returning /\ ∃ q : Value, w7.cell? ⟨p1, 0, none⟩ = some q /\ w7.cell? ⟨p2, 0, none⟩ = some (.int .i64 z.2.1) ∧
      Lift.Ends w S0 args vals ob (z7w (.tup PlT) 2 z).1 (z7w (.tup PlT) 2 z).2 (.returned (.tuple #[q, .int .i64 z.2.1])) w7 := zvo N ct h.st h.d01 h.d02 h.d12 hs hl hz hob hargs

theorem PSt.putTop {b E : Nat} {cs : Array Value} (h : PSt w S0 W S p0 p1 p2 sv ser lv c ((b, cs, E) :: L)) (hb : ∀ q ∈ L, q.1 ≠ b) (i : Nat) (u : Value) : PSt w S0 (W.setCell ⟨b, i, none⟩ u) S p0 p1 p2 sv ser lv c ((b, cs.setIfInBounds i u, E) :: L) := by
  have hf := h.far _ (.head _)
  dsimp only at hf
  refine ⟨((h.st.swap (L' := (b, cs, E) :: (p0, #[sv, .int .i64 ser], 24) :: (p1, #[lv], 28) :: (p2, #[.int .i64 c], 29) :: L) (by intro q hq; simp only [List.mem_cons] at hq ⊢; rcases hq with h | h | h | h | h <;> simp [h])).set (fun q hq => ?_) i u).swap (by intro q hq; simp only [List.mem_cons] at hq ⊢; rcases hq with h | h | h | h | h <;> simp [h]), h.d01, h.d02, h.d12, fun q hq => ?_⟩
  . simp only [List.mem_cons] at hq
    rcases hq with rfl | rfl | rfl | hq
    . exact Ne.symm hf.1
    . exact Ne.symm hf.2.1
    . exact Ne.symm hf.2.2
    . exact hb q hq
  . rcases List.mem_cons.1 hq with rfl | hq
    . exact hf
    . exact h.far q (.tail _ hq)

theorem PSt.topLt (h : PSt w S0 W S p0 p1 p2 sv ser lv c L) : ∀ q ∈ L, q.1 ≠ W.heap.size := fun q hq => by
  have := h.st.lt q (.tail _ (.tail _ (.tail _ hq)))
  omega

theorem PSt.key (h : PSt w S0 W S p0 p1 p2 sv ser lv c []) (a b : Value) (cs : Array Value) (hcs : cs.size = 2) (E : Nat) : PSt w S0 (((W.alloc (.cells cs E)).setCell ⟨W.heap.size, 0, none⟩ a).setCell ⟨W.heap.size, 1, none⟩ b) S p0 p1 p2 sv ser lv c [(W.heap.size, #[a, b], E)] := by
  have h1 := ((h.alloc cs E).putTop h.topLt 0 a).putTop h.topLt 1 b
  have e : (cs.setIfInBounds 0 a).setIfInBounds 1 b = #[a, b] := by
    match cs, hcs with
    | ⟨[x, y]⟩, _ => rfl
  rwa [e] at h1

end

theorem z10b {S : Hp} {k : KeyT.den} {v : Value} (h : VR S KeyT k v) : v = .agg #[.int .i64 k.1, .string ⟨⟨k.2.1⟩⟩] := by
  obtain ⟨cs, rfl, d1, d2, q1, k1, d3, d4, q2, k2, k3⟩ := h
  have i1 : d1 = [.int .i64 k.1] := k1
  have i2 : d3 = [.string ⟨⟨k.2.1⟩⟩] := k2
  have i3 : d4 = [] := k3
  congr 1
  apply Array.toList_inj.1
  rw [q1, q2, i1, i2, i3]
  rfl

theorem zr8 (N : Nat) {w W : World} {S0 S : Hp} {p0 p1 p2 : Nat} {sv lv : Value} {ser c : Int} {L : List (Nat × Array Value × Nat)} (h : PSt w S0 W S p0 p1 p2 sv ser lv c L) {ts : List TenT.den} (hv : VR S (.sl TenT) ts sv) {tn : List UInt8} {y : KeyT.den × (Bool × Unit)} (hy : z9w N (ts, (ser, ())) tn = some y) :
    Calls Go.Proofs.Try.prog 17 #[.agg #[sv, .int .i64 ser], .string ⟨⟨tn⟩⟩] W fun e w' => ∃ S', e = .returned (.tuple #[.agg #[.int .i64 y.1.1, .string ⟨⟨y.1.2.1⟩⟩], .bool y.2.1]) /\ Lift.Sub S S' /\ PSt w S0 w' S' p0 p1 p2 sv ser lv c L := by
  refine (h.plain (zlp N) (z2a [(.v StT (ts, (ser, ())), .agg #[sv, .int .i64 ser]), (.v .str tn, .string ⟨⟨tn⟩⟩)] (fun p hp => by
    rcases List.mem_cons.1 hp with rfl | hp
    . exact ⟨⟨zml hv, rfl⟩, rfl⟩
    . rw [List.mem_singleton.1 hp]; exact ⟨⟨VR.str, rfl⟩, rfl⟩)) (y := y) hy).mono ?_
  rintro e w' ⟨v, S', o', rfl, hr, h2, h3⟩
  obtain ⟨_, ⟨vs⟩, rfl, hvs⟩ := hr
  dsimp only at hvs
  cases hvs with
  | cons a1 hvs =>
    cases hvs with
    | cons a2 hvs =>
      cases hvs
      exact ⟨S', by rw [z10b a1, VR.bool_inv a2], h2, h3⟩

theorem zzy {S : Hp} {t : TenT.den} {v : Value} (h : VR S TenT t v) : ∃ ka kc, v = .agg #[.string ⟨⟨t.1⟩⟩, .int .i64 t.2.1, .int .i64 t.2.2.1, .slice ka t.2.2.2.1.length kc] := by
  obtain ⟨cs, rfl, d1, d2, e1, k1, d3, d4, e2, k2, d5, d6, e3, k3, d7, d8, e4, ⟨a, cap, k4, hcap, hk⟩, k5⟩ := h
  have i1 : d1 = [.string ⟨⟨t.1⟩⟩] := k1
  have i3 : d3 = [.int .i64 t.2.1] := k2
  have i5 : d5 = [.int .i64 t.2.2.1] := k3
  have i8 : d8 = [] := k5
  refine ⟨a, cap, ?_⟩
  congr 1
  apply Array.toList_inj.1
  rw [e1, e2, e3, e4, i1, i3, i5, k4, i8]
  rfl

section
variable {w W : World} {S0 S : Hp} {p0 p1 p2 : Nat} {sv lv : Value} {ser c : Int} {L : List (Nat × Array Value × Nat)}

theorem zrl (N : Nat) (h : PSt w S0 W S p0 p1 p2 sv ser lv c L) {ts : List TenT.den} (hv : VR S (.sl TenT) ts sv) {tn : List UInt8} {y : TenT.den × (Bool × Unit)} (hy : zfi N (ts, (ser, ())) tn = some y) :
    Calls Go.Proofs.Try.prog 39 #[.agg #[sv, .int .i64 ser], .string ⟨⟨tn⟩⟩] W fun e w' => ∃ ka kc S', e = .returned (.tuple #[.agg #[.string ⟨⟨y.1.1⟩⟩, .int .i64 y.1.2.1, .int .i64 y.1.2.2.1, .slice ka y.1.2.2.2.1.length kc], .bool y.2.1]) /\ Lift.Sub S S' /\ PSt w S0 w' S' p0 p1 p2 sv ser lv c L := by
  refine (h.plain (zpk N) (z2a [(.v StT (ts, (ser, ())), .agg #[sv, .int .i64 ser]), (.v .str tn, .string ⟨⟨tn⟩⟩)] (fun p hp => by
    rcases List.mem_cons.1 hp with rfl | hp
    . exact ⟨⟨zml hv, rfl⟩, rfl⟩
    . rw [List.mem_singleton.1 hp]; exact ⟨⟨VR.str, rfl⟩, rfl⟩)) (y := y) hy).mono ?_
  rintro e w' ⟨v, S', o', rfl, hr, h2, h3⟩
  obtain ⟨_, ⟨vs⟩, rfl, hvs⟩ := hr
  dsimp only at hvs
  cases hvs with
  | cons a1 hvs =>
    cases hvs with
    | cons a2 hvs =>
      cases hvs
      obtain ⟨ka, kc, e1⟩ := zzy a1
      exact ⟨ka, kc, S', by rw [e1, VR.bool_inv a2], h2, h3⟩

theorem zqp (N : Nat) (h : PSt w S0 W S p0 p1 p2 sv ser lv c L) {tn : List UInt8} {y : Bool} (hy : z62 N tn = some y) :
    Calls Go.Proofs.Try.prog 40 #[.string ⟨⟨tn⟩⟩] W fun e w' => ∃ S', e = .returned (.bool y) /\ Lift.Sub S S' /\ PSt w S0 w' S' p0 p1 p2 sv ser lv c L := by
  refine (h.plain (zc9 N) (z2a [(.v .str tn, .string ⟨⟨tn⟩⟩)] (fun p hp => by
    rw [List.mem_singleton.1 hp]; exact ⟨⟨VR.str, rfl⟩, rfl⟩)) (y := y) hy).mono ?_
  rintro e w' ⟨v, S', o', rfl, hr, h2, h3⟩
  exact ⟨S', by rw [VR.bool_inv hr.1], h2, h3⟩

theorem ztk (N : Nat) (h : PSt w S0 W S p0 p1 p2 sv ser lv c L) (tn : List UInt8) (ep nx : Int) :
    Calls Go.Proofs.Try.prog 28 #[.string ⟨⟨tn⟩⟩, .int .i64 ep, .int .i64 nx] W fun e w' => ∃ S', e = .returned (evV 1 tn nx ep []) /\ Lift.Sub S S' /\ PSt w S0 w' S' p0 p1 p2 sv ser lv c L := by
  refine (h.plain (z7g N) (z2a [(.v .str tn, .string ⟨⟨tn⟩⟩), (.v (.int .i64) ep, .int .i64 ep), (.v (.int .i64) nx, .int .i64 nx)] (fun p hp => by
    rcases List.mem_cons.1 hp with rfl | hp
    . exact ⟨⟨VR.str, rfl⟩, rfl⟩
    . rcases List.mem_cons.1 hp with rfl | hp
      . exact ⟨⟨VR.int, rfl⟩, rfl⟩
      . rw [List.mem_singleton.1 hp]; exact ⟨⟨VR.int, rfl⟩, rfl⟩)) (y := ((1 : Int), (tn, (nx, (ep, (([] : List UInt8), ())))))) rfl).mono ?_
  rintro e w' ⟨v, S', o', rfl, hr, h2, h3⟩
  exact ⟨S', by rw [zx1 hr.1], h2, h3⟩

theorem zub (N : Nat) (h : PSt w S0 W S p0 p1 p2 sv ser lv c L) (tn : List UInt8) (nu : Int) (tx : List UInt8) :
    Calls Go.Proofs.Try.prog 29 #[.string ⟨⟨tn⟩⟩, .int .i64 nu, .string ⟨⟨tx⟩⟩] W fun e w' => ∃ S', e = .returned (evV 2 tn nu 0 tx) /\ Lift.Sub S S' /\ PSt w S0 w' S' p0 p1 p2 sv ser lv c L := by
  refine (h.plain (zas N) (z2a [(.v .str tn, .string ⟨⟨tn⟩⟩), (.v (.int .i64) nu, .int .i64 nu), (.v .str tx, .string ⟨⟨tx⟩⟩)] (fun p hp => by
    rcases List.mem_cons.1 hp with rfl | hp
    . exact ⟨⟨VR.str, rfl⟩, rfl⟩
    . rcases List.mem_cons.1 hp with rfl | hp
      . exact ⟨⟨VR.int, rfl⟩, rfl⟩
      . rw [List.mem_singleton.1 hp]; exact ⟨⟨VR.str, rfl⟩, rfl⟩)) (y := ((2 : Int), (tn, (nu, ((0 : Int), (tx, ())))))) rfl).mono ?_
  rintro e w' ⟨v, S', o', rfl, hr, h2, h3⟩
  exact ⟨S', by rw [zx1 hr.1], h2, h3⟩
end

end
end Go.Proofs.YtlohplpnhopldaaLg

set_option linter.all false
set_option maxRecDepth 100000
namespace Go.Proofs.YtlohplpnhopldaaLg
noncomputable section
open Go Go.Lift Go.Proofs

def zk4 (N : Nat) (s : StT.den) (tn : List UInt8) : Option (List EvT.den × (Int × Unit)) :=
 (z9w N s tn).bind fun f => z2r N s [((4 : Int), (([] : List UInt8), (Go.RowKit.wrap64 (s.2.1 + 1), ((0 : Int), (([] : List UInt8), ())))))] (if f.2.1 = false then 6 else if 1099511627776 <= s.2.1 then 3 else 0)

def zfj (N : Nat) : List A -> Res := z28 [(0, .v StT), (0, .v .str)] (fun x => zk4 N x.1 x.2.1) (z7w (.tup PlT) 2)

set_option maxHeartbeats 30000000 in
theorem zpl (N : Nat) : Contract Go.Proofs.Try.prog zw 20 (zfj N) := by
  refine Contract.hand ⟨_, Go.Proofs.Try.func20, by kernel_rfl, by decide⟩ ?_
  intro w S vals ob x y har hS hg hy
  obtain ⟨⟨ts, ser, u0⟩, tn, u⟩ := x
  cases u; cases u0
  dsimp only at hy
  obtain ⟨⟨v0, hv0, hA0, ho0⟩, _⟩ := har.rel 0 _ rfl
  obtain ⟨⟨v1, hv1, hA1, ho1⟩, _⟩ := har.rel 1 _ rfl
  have hvals : vals = [v0, v1] := by
    match vals, har.len, hv0, hv1 with
    | [a0, a1], _, h0, h1 => simp at h0 h1; rw [h0, h1]
  subst hvals
  have hob : ∀ i, ob i = [] := by
    intro i
    match i with
    | 0 => exact ho0
    | 1 => exact ho1
    | i + 2 => exact har.out _ (by simp [mkS, z8m])
  have hargs : ∀ y ∈ mkS [(0, .v StT), (0, .v .str)] 0 ((ts, (ser, ())), (tn, ())), z5f y = false := by
    intro y hy
    simp [mkS, z8m, AS.mk] at hy
    rcases hy with rfl | rfl <;> rfl
  have e1 := hA1.str_inv
  subst e1
  obtain ⟨sv, rfl, hsv⟩ := zni hA0
  obtain ⟨sa, scap, _, hsl, _, _, _⟩ := zet hsv
  unfold zk4 at hy
  try dsimp only at hy
  suffices HX : ∀ R : Ending -> World -> Prop, Go.RowKit.Hid (∀ q w', Lift.Ends w S (mkS [(0, .v StT), (0, .v .str)] 0 ((ts, (ser, ())), (tn, ()))) [.agg #[sv, .int .i64 ser], .string ⟨⟨tn⟩⟩] ob (z7w (.tup PlT) 2 y).1 (z7w (.tup PlT) 2 y).2 (.returned (.tuple #[q, .int .i64 y.2.1])) w' -> R (.returned (.tuple #[q, .int .i64 y.2.1])) w') -> Calls Go.Proofs.Try.prog 20 #[.agg #[sv, .int .i64 ser], .string ⟨⟨tn⟩⟩] w R from
    (HX (fun r w' => Lift.Ends w S (mkS [(0, .v StT), (0, .v .str)] 0 ((ts, (ser, ())), (tn, ()))) [.agg #[sv, .int .i64 ser], .string ⟨⟨tn⟩⟩] ob (z7w (.tup PlT) 2 y).1 (z7w (.tup PlT) 2 y).2 r w') (Go.Lib.hid (fun q w' h => h)))
  intro R HR
  have h3 := PSt.start hS sv ser
  subst hsl
  clear har hv0 hA0 hv1 hA1
  obtain ⟨sn, hsn⟩ : ∃ n, n = ts.length := ⟨_, rfl⟩
  rw [<- hsn] at h3 HR hsv ⊢
  have HSN := Go.Lib.hid hsn
  clear hsn
  go_enter_defers Go.Proofs.Try.func20, Go.Proofs.Try.ntmps20
  go_upto_region 2 with (fail)
  obtain ⟨A3, hA3⟩ : ∃ A3, A3 = (((w.alloc (Obj.cells #[.slice sa sn scap, .int .i64 ser] 24)).alloc (Obj.cells #[.slice none 0 0] 28)).alloc (Obj.cells #[.int .i64 0] 29)) := ⟨_, rfl⟩
  obtain ⟨p2, hp2⟩ : ∃ p, p = w.heap.size + 1 + 1 := ⟨_, rfl⟩
  obtain ⟨p1, hp1⟩ : ∃ p, p = w.heap.size + 1 := ⟨_, rfl⟩
  obtain ⟨p0, hp0⟩ : ∃ p, p = w.heap.size := ⟨_, rfl⟩
  rw [<- hA3, <- hp2, <- hp1, <- hp0] at h3 ⊢
  clear hA3 hp0 hp1 hp2
  obtain ⟨f, hf, hz⟩ := Option.bind_eq_some_iff.1 hy
  clear hy
  have k1 := h3.gser
  have f1 := fun cs E => (h3.alloc cs E).glf
  have c1 := fun cs E => (h3.alloc cs E).glv
  obtain ⟨S5, s5, v5, h5⟩ := h3.build (E := 51) (cs := #[.int .i64 4, .string ⟨#[]⟩, .int .i64 (Go.RowKit.wrap64 (ser + 1)), .int .i64 0, .string ⟨#[]⟩]) (n := 1) (l := [((4 : Int), (([] : List UInt8), (Go.RowKit.wrap64 (ser + 1), ((0 : Int), (([] : List UInt8), ())))))]) rfl rfl
  have H5 := Go.Lib.hid h5
  clear h3 h5
  go_upto_region 3 with (fail)
  have h5 := H5.out
  obtain ⟨A5, hA5⟩ : ∃ A5, A5 = (A3.alloc (Obj.cells #[.int .i64 4, .string ⟨#[]⟩, .int .i64 (Go.RowKit.wrap64 (ser + 1)), .int .i64 0, .string ⟨#[]⟩] 51)).setCell ⟨p1, 0, none⟩ (.slice (some ⟨A3.heap.size, 0, none⟩) 1 1) := ⟨_, rfl⟩
  obtain ⟨lb, hlb⟩ : ∃ lb, lb = A3.heap.size := ⟨_, rfl⟩
  rw [<- hA5] at h5 ⊢
  rw [<- hlb] at h5 v5 ⊢
  clear hA5 hlb H5 f1 c1
  clear k1
  have k0 := h5.gsv
  have k1 := h5.gser
  have hcn := zr8 N h5 (hsv.mono s5) hf
  obtain ⟨⟨fk, ft, u1⟩, fb, u2⟩ := f
  cases u1; cases u2
  clear h5
  go_upto_region 4 with (go_at_call 17; refine hcn.mono ?_; rintro _ w6 ⟨S6, rfl, s6, h6⟩; have H6 := Go.Lib.hid h6; have s6' := s6; clear h6 s6 hcn)
  have h7 := H6.out.alloc #[.int .i64 fk, .string ⟨⟨ft⟩⟩] 43
  obtain ⟨A7, hA7⟩ : ∃ A7, A7 = w6.alloc (Obj.cells #[.int .i64 fk, .string ⟨⟨ft⟩⟩] 43) := ⟨_, rfl⟩
  rw [<- hA7] at h7 ⊢
  clear hA7
  have l1 := h7.glv
  have l2 := h7.glf
  have l3 := (h7.putL (.slice (some ⟨lb, 0, none⟩) 1 1)).gcv
  have l4 := (h7.putL (.slice (some ⟨lb, 0, none⟩) 1 1)).gcf
  have k1 := h7.gser
  have H7 := Go.Lib.hid h7
  clear h7 k0
  rcases fb with _ | _
  . rw [if_pos rfl] at hz
    go_wp2
    refine leaves_cons (f := 41) (args := #[.pointer (some ⟨p0, 0, none⟩), .pointer (some ⟨p1, 0, none⟩), .pointer (some ⟨p2, 0, none⟩)]) (by simp) (by simp [go_sem]) ?_
    refine (((H7.out.putL (.slice (some ⟨lb, 0, none⟩) 1 1)).putC 6).out N (z8j N) (vals := [.agg #[.slice sa sn scap, .int .i64 ser], .string ⟨⟨tn⟩⟩]) (hsv.mono (s5.trans s6')) (v5.mono s6') hz hob hargs).mono ?_
    rintro r u w7 ⟨⟨v, rfl⟩, rfl, q, c1, c2, hend⟩
    refine ⟨_, ?_, HR.out _ _ hend⟩
    simp [results, Go.Proofs.Try.results20, go_sem, c1, c2]
  . rw [if_neg (by decide)] at hz
    by_cases hlim : 1099511627776 <= ser
    . rw [if_pos hlim] at hz
      go_wp2
      refine leaves_cons (f := 41) (args := #[.pointer (some ⟨p0, 0, none⟩), .pointer (some ⟨p1, 0, none⟩), .pointer (some ⟨p2, 0, none⟩)]) (by simp) (by simp [go_sem]) ?_
      refine (((H7.out.putL (.slice (some ⟨lb, 0, none⟩) 1 1)).putC 3).out N (z8j N) (vals := [.agg #[.slice sa sn scap, .int .i64 ser], .string ⟨⟨tn⟩⟩]) (hsv.mono (s5.trans s6')) (v5.mono s6') hz hob hargs).mono ?_
      rintro r u w7 ⟨⟨v, rfl⟩, rfl, q, c1, c2, hend⟩
      refine ⟨_, ?_, HR.out _ _ hend⟩
      simp [results, Go.Proofs.Try.results20, go_sem, c1, c2]
    . rw [if_neg hlim] at hz
      go_wp2
      refine leaves_cons (f := 41) (args := #[.pointer (some ⟨p0, 0, none⟩), .pointer (some ⟨p1, 0, none⟩), .pointer (some ⟨p2, 0, none⟩)]) (by simp) (by simp [go_sem]) ?_
      refine (((H7.out.putL (.slice (some ⟨lb, 0, none⟩) 1 1)).putC 0).out N (z8j N) (vals := [.agg #[.slice sa sn scap, .int .i64 ser], .string ⟨⟨tn⟩⟩]) (hsv.mono (s5.trans s6')) (v5.mono s6') hz hob hargs).mono ?_
      rintro r u w7 ⟨⟨v, rfl⟩, rfl, q, c1, c2, hend⟩
      refine ⟨_, ?_, HR.out _ _ hend⟩
      simp [results, Go.Proofs.Try.results20, go_sem, c1, c2]

end
end Go.Proofs.YtlohplpnhopldaaLg

set_option linter.all false
set_option maxRecDepth 100000
namespace Go.Proofs.YtlohplpnhopldaaLg
noncomputable section
open Go Go.Lift Go.Proofs

def zee (N : Nat) (s : StT.den) (tn : List UInt8) (key : List UInt8) : Option (List EvT.den × (Int × Unit)) :=
 (zfi N s tn).bind fun f => (z62 N tn).bind fun g => z2r N s [((1 : Int), (tn, ((2 : Int), ((0 : Int), (([] : List UInt8), ()))))), ((2 : Int), (tn, ((1 : Int), ((0 : Int), (key, ())))))] (if g = false then 4 else if key.length ≠ 32 then 7 else if f.2.1 = true then 5 else if 16 <= s.1.length then 3 else 0)

def zc1 (N : Nat) : List A -> Res := z28 [(0, .v StT), (0, .v .str), (0, .v .str)] (fun x => zee N x.1 x.2.1 x.2.2.1) (z7w (.tup PlT) 2)

set_option maxHeartbeats 30000000 in
theorem zlx (N : Nat) : Contract Go.Proofs.Try.prog zw 19 (zc1 N) := by
  refine Contract.hand ⟨_, Go.Proofs.Try.func19, by kernel_rfl, by decide⟩ ?_
  intro w S vals ob x y har hS hg hy
  obtain ⟨⟨ts, ser, u0⟩, tn, key, u⟩ := x
  cases u; cases u0
  dsimp only at hy
  obtain ⟨⟨v0, hv0, hA0, ho0⟩, _⟩ := har.rel 0 _ rfl
  obtain ⟨⟨v1, hv1, hA1, ho1⟩, _⟩ := har.rel 1 _ rfl
  obtain ⟨⟨v2, hv2, hA2, ho2⟩, _⟩ := har.rel 2 _ rfl
  have hvals : vals = [v0, v1, v2] := by
    match vals, har.len, hv0, hv1, hv2 with
    | [a0, a1, a2], _, h0, h1, h2 => simp at h0 h1 h2; rw [h0, h1, h2]
  subst hvals
  have hob : ∀ i, ob i = [] := by
    intro i
    match i with
    | 0 => exact ho0
    | 1 => exact ho1
    | 2 => exact ho2
    | i + 3 => exact har.out _ (by simp [mkS, z8m])
  have hargs : ∀ y ∈ mkS [(0, .v StT), (0, .v .str), (0, .v .str)] 0 ((ts, (ser, ())), (tn, (key, ()))), z5f y = false := by
    intro y hy
    simp [mkS, z8m, AS.mk] at hy
    rcases hy with rfl | rfl | rfl <;> rfl
  have e1 := hA1.str_inv
  subst e1
  have e2 := hA2.str_inv
  subst e2
  obtain ⟨sv, rfl, hsv⟩ := zni hA0
  obtain ⟨sa, scap, _, hsl, _, _, _⟩ := zet hsv
  unfold zee at hy
  try dsimp only at hy
  suffices HX : ∀ R : Ending -> World -> Prop, Go.RowKit.Hid (∀ q w', Lift.Ends w S (mkS [(0, .v StT), (0, .v .str), (0, .v .str)] 0 ((ts, (ser, ())), (tn, (key, ())))) [.agg #[sv, .int .i64 ser], .string ⟨⟨tn⟩⟩, .string ⟨⟨key⟩⟩] ob (z7w (.tup PlT) 2 y).1 (z7w (.tup PlT) 2 y).2 (.returned (.tuple #[q, .int .i64 y.2.1])) w' -> R (.returned (.tuple #[q, .int .i64 y.2.1])) w') -> Calls Go.Proofs.Try.prog 19 #[.agg #[sv, .int .i64 ser], .string ⟨⟨tn⟩⟩, .string ⟨⟨key⟩⟩] w R from
    (HX (fun r w' => Lift.Ends w S (mkS [(0, .v StT), (0, .v .str), (0, .v .str)] 0 ((ts, (ser, ())), (tn, (key, ())))) [.agg #[sv, .int .i64 ser], .string ⟨⟨tn⟩⟩, .string ⟨⟨key⟩⟩] ob (z7w (.tup PlT) 2 y).1 (z7w (.tup PlT) 2 y).2 r w') (Go.Lib.hid (fun q w' h => h)))
  intro R HR
  have h3 := PSt.start hS sv ser
  subst hsl
  clear har hv0 hA0 hv1 hA1 hv2 hA2
  obtain ⟨sn, hsn⟩ : ∃ n, n = ts.length := ⟨_, rfl⟩
  rw [<- hsn] at h3 HR hsv ⊢
  have HSN := Go.Lib.hid hsn
  clear hsn
  go_enter_defers Go.Proofs.Try.func19, Go.Proofs.Try.ntmps19
  go_upto_region 2 with (fail)
  obtain ⟨A3, hA3⟩ : ∃ A3, A3 = (((w.alloc (Obj.cells #[.slice sa sn scap, .int .i64 ser] 24)).alloc (Obj.cells #[.slice none 0 0] 28)).alloc (Obj.cells #[.int .i64 0] 29)) := ⟨_, rfl⟩
  obtain ⟨p2, hp2⟩ : ∃ p, p = w.heap.size + 1 + 1 := ⟨_, rfl⟩
  obtain ⟨p1, hp1⟩ : ∃ p, p = w.heap.size + 1 := ⟨_, rfl⟩
  obtain ⟨p0, hp0⟩ : ∃ p, p = w.heap.size := ⟨_, rfl⟩
  rw [<- hA3, <- hp2, <- hp1, <- hp0] at h3 ⊢
  clear hA3 hp0 hp1 hp2
  obtain ⟨f, hf, hy⟩ := Option.bind_eq_some_iff.1 hy
  obtain ⟨g, hgw, hz⟩ := Option.bind_eq_some_iff.1 hy
  clear hy
  have hce := ztk N h3 tn 0 2
  unfold evV at hce
  clear h3
  go_upto_region 3 with (first | (go_at_call 28; refine hce.mono ?_; rintro _ w4 ⟨S4, rfl, s4, h4⟩; have s4' := s4; have hck := zub N h4 tn 1 key; unfold evV at hck; clear h4 s4 hce) | (go_at_call 29; refine hck.mono ?_; rintro _ w5 ⟨S5, rfl, s5, h5⟩; have H5 := Go.Lib.hid h5; have s5' := s5; have f1 := fun cs E => (h5.alloc cs E).glf; have c1 := fun cs E => (h5.alloc cs E).glv; clear h5 s5 hck))
  obtain ⟨S6, s6, v6, h6⟩ := H5.out.build (E := 51) (cs := #[.int .i64 1, .string ⟨⟨tn⟩⟩, .int .i64 2, .int .i64 0, .string ⟨#[]⟩, .int .i64 2, .string ⟨⟨tn⟩⟩, .int .i64 1, .int .i64 0, .string ⟨⟨key⟩⟩]) (n := 2) (l := [((1 : Int), (tn, ((2 : Int), ((0 : Int), (([] : List UInt8), ()))))), ((2 : Int), (tn, ((1 : Int), ((0 : Int), (key, ())))))]) rfl rfl
  obtain ⟨A6, hA6⟩ : ∃ A6, A6 = (w5.alloc (Obj.cells #[.int .i64 1, .string ⟨⟨tn⟩⟩, .int .i64 2, .int .i64 0, .string ⟨#[]⟩, .int .i64 2, .string ⟨⟨tn⟩⟩, .int .i64 1, .int .i64 0, .string ⟨⟨key⟩⟩] 51)).setCell ⟨p1, 0, none⟩ (.slice (some ⟨w5.heap.size, 0, none⟩) 2 2) := ⟨_, rfl⟩
  obtain ⟨lb, hlb⟩ : ∃ lb, lb = w5.heap.size := ⟨_, rfl⟩
  rw [<- hA6] at h6 ⊢
  rw [<- hlb] at h6 v6 ⊢
  clear hA6 hlb H5 f1 c1
  have k0 := h6.gsv
  have k1 := h6.gser
  have s6' := s4'.trans (s5'.trans s6)
  have hcf := zrl N h6 (hsv.mono s6') hf
  obtain ⟨⟨fn, fe, fx, fks, u1⟩, fb, u2⟩ := f
  cases u1; cases u2
  try dsimp only at hz
  try dsimp only at hcf
  obtain ⟨fl, hfl⟩ : ∃ n, n = fks.length := ⟨_, rfl⟩
  rw [<- hfl] at hcf
  clear h6 hfl
  go_upto_region 4 with (go_at_call 39; refine hcf.mono ?_; rintro _ w7 ⟨ka, kc, S7, rfl, s7, h7⟩; have H7 := Go.Lib.hid h7; have s7' := s7; clear h7 s7 hcf)
  have h7 := H7.out.alloc #[.string ⟨⟨fn⟩⟩, .int .i64 fe, .int .i64 fx, .slice ka fl kc] 41
  obtain ⟨A7, hA7⟩ : ∃ A7, A7 = w7.alloc (Obj.cells #[.string ⟨⟨fn⟩⟩, .int .i64 fe, .int .i64 fx, .slice ka fl kc] 41) := ⟨_, rfl⟩
  obtain ⟨tb, htb⟩ : ∃ b, b = w7.heap.size := ⟨_, rfl⟩
  rw [<- hA7, <- htb] at h7 ⊢
  clear hA7 htb H7 k0 k1
  have hcw := zqp N h7 hgw
  clear h7
  rcases g with _ | _
  . rw [if_pos rfl] at hz
    go_upto_region 5 with (go_at_call 40; refine hcw.mono ?_; rintro _ w8 ⟨S8, rfl, s8, h8⟩; have H8 := Go.Lib.hid h8; have s8' := s8; clear h8 s8 hcw)
    have h8 := H8.out
    have l1 := h8.glv
    have l2 := h8.glf
    have l3 := (h8.putL (.slice (some ⟨lb, 0, none⟩) 2 2)).gcv
    have l4 := (h8.putL (.slice (some ⟨lb, 0, none⟩) 2 2)).gcf
    clear h8
    go_wp2
    refine leaves_cons (f := 37) (args := #[.pointer (some ⟨p0, 0, none⟩), .pointer (some ⟨p1, 0, none⟩), .pointer (some ⟨p2, 0, none⟩)]) (by simp) (by simp [go_sem]) ?_
    refine (((H8.out.putL (.slice (some ⟨lb, 0, none⟩) 2 2)).putC 4).out N (z34 N) (vals := [.agg #[.slice sa sn scap, .int .i64 ser], .string ⟨⟨tn⟩⟩, .string ⟨⟨key⟩⟩]) (hsv.mono (s6'.trans (s7'.trans s8'))) (v6.mono (s7'.trans s8')) hz hob hargs).mono ?_
    rintro r u w7 ⟨⟨v, rfl⟩, rfl, q, c1, c2, hend⟩
    refine ⟨_, ?_, HR.out _ _ hend⟩
    simp [results, Go.Proofs.Try.results19, go_sem, c1, c2]
  . rw [if_neg (show ¬ (true = false) by decide)] at hz
    go_upto_region 6 with (go_at_call 40; refine hcw.mono ?_; rintro _ w8 ⟨S8, rfl, s8, h8⟩; have H8 := Go.Lib.hid h8; have s8' := s8; clear h8 s8 hcw)
    have h8 := H8.out
    have l1 := h8.glv
    have l2 := h8.glf
    have l3 := (h8.putL (.slice (some ⟨lb, 0, none⟩) 2 2)).gcv
    have l4 := (h8.putL (.slice (some ⟨lb, 0, none⟩) 2 2)).gcf
    have k0 := h8.gsv
    clear h8
    by_cases hk : key.length = 32
    . rw [if_neg (by omega)] at hz
      rcases fb with _ | _
      . rw [if_neg (show ¬ (false = true) by decide)] at hz
        have hsn := HSN.out
        rw [<- hsn] at hz
        by_cases hlim : 16 <= sn
        . rw [if_pos hlim] at hz
          clear hsn
          go_wp2
          refine leaves_cons (f := 37) (args := #[.pointer (some ⟨p0, 0, none⟩), .pointer (some ⟨p1, 0, none⟩), .pointer (some ⟨p2, 0, none⟩)]) (by simp) (by simp [go_sem]) ?_
          refine (((H8.out.putL (.slice (some ⟨lb, 0, none⟩) 2 2)).putC 3).out N (z34 N) (vals := [.agg #[.slice sa sn scap, .int .i64 ser], .string ⟨⟨tn⟩⟩, .string ⟨⟨key⟩⟩]) (hsv.mono (s6'.trans (s7'.trans s8'))) (v6.mono (s7'.trans s8')) hz hob hargs).mono ?_
          rintro r u w7 ⟨⟨v, rfl⟩, rfl, q, c1, c2, hend⟩
          refine ⟨_, ?_, HR.out _ _ hend⟩
          simp [results, Go.Proofs.Try.results19, go_sem, c1, c2]
        . rw [if_neg hlim] at hz
          clear hsn
          go_wp2
          refine leaves_cons (f := 37) (args := #[.pointer (some ⟨p0, 0, none⟩), .pointer (some ⟨p1, 0, none⟩), .pointer (some ⟨p2, 0, none⟩)]) (by simp) (by simp [go_sem]) ?_
          refine (((H8.out.putL (.slice (some ⟨lb, 0, none⟩) 2 2)).putC 0).out N (z34 N) (vals := [.agg #[.slice sa sn scap, .int .i64 ser], .string ⟨⟨tn⟩⟩, .string ⟨⟨key⟩⟩]) (hsv.mono (s6'.trans (s7'.trans s8'))) (v6.mono (s7'.trans s8')) hz hob hargs).mono ?_
          rintro r u w7 ⟨⟨v, rfl⟩, rfl, q, c1, c2, hend⟩
          refine ⟨_, ?_, HR.out _ _ hend⟩
          simp [results, Go.Proofs.Try.results19, go_sem, c1, c2]
      . rw [if_pos rfl] at hz
        go_wp2
        refine leaves_cons (f := 37) (args := #[.pointer (some ⟨p0, 0, none⟩), .pointer (some ⟨p1, 0, none⟩), .pointer (some ⟨p2, 0, none⟩)]) (by simp) (by simp [go_sem]) ?_
        refine (((H8.out.putL (.slice (some ⟨lb, 0, none⟩) 2 2)).putC 5).out N (z34 N) (vals := [.agg #[.slice sa sn scap, .int .i64 ser], .string ⟨⟨tn⟩⟩, .string ⟨⟨key⟩⟩]) (hsv.mono (s6'.trans (s7'.trans s8'))) (v6.mono (s7'.trans s8')) hz hob hargs).mono ?_
        rintro r u w7 ⟨⟨v, rfl⟩, rfl, q, c1, c2, hend⟩
        refine ⟨_, ?_, HR.out _ _ hend⟩
        simp [results, Go.Proofs.Try.results19, go_sem, c1, c2]
    . rw [if_pos hk] at hz
      go_wp2
      refine leaves_cons (f := 37) (args := #[.pointer (some ⟨p0, 0, none⟩), .pointer (some ⟨p1, 0, none⟩), .pointer (some ⟨p2, 0, none⟩)]) (by simp) (by simp [go_sem]) ?_
      refine (((H8.out.putL (.slice (some ⟨lb, 0, none⟩) 2 2)).putC 7).out N (z34 N) (vals := [.agg #[.slice sa sn scap, .int .i64 ser], .string ⟨⟨tn⟩⟩, .string ⟨⟨key⟩⟩]) (hsv.mono (s6'.trans (s7'.trans s8'))) (v6.mono (s7'.trans s8')) hz hob hargs).mono ?_
      rintro r u w7 ⟨⟨v, rfl⟩, rfl, q, c1, c2, hend⟩
      refine ⟨_, ?_, HR.out _ _ hend⟩
      simp [results, Go.Proofs.Try.results19, go_sem, c1, c2]

end
end Go.Proofs.YtlohplpnhopldaaLg

set_option linter.all false
set_option maxRecDepth 100000
namespace Go.Proofs.YtlohplpnhopldaaLg
noncomputable section
open Go Go.Lift

def z9z : Code := (Go.Proofs.Try.f14.body).getD .skip

def zgf : List (List Nat × List Nat) := [([0], [2, 4, 1]), ([0, 0, 1], [12, 4, 2, 1]), ([1, 0, 1], [2, 1, 4]), ([0, 0, 1, 0, 1], [4, 5]), ([1, 0, 1, 0, 1], [4, 5]), ([0, 1, 1], [1, 6, 4]), ([0, 0, 1, 1, 1], [18, 17, 16, 6, 4]), ([0, 1, 0, 1, 1, 1], [18, 17, 16, 6, 4]), ([0, 0, 0, 1, 0, 1, 1, 1], [19, 16, 18, 6, 4, 17]), ([0, 1, 0, 0, 1, 0, 1, 1, 1], [16, 18, 6, 4, 17]), ([1, 0, 1, 0, 0, 1, 0, 1, 1, 1], [6, 4]), ([0, 0, 0, 1, 1, 0, 0, 1, 0, 1, 1, 1], [6, 8, 4, 18, 17, 16]), ([0, 1, 0, 0, 1, 1, 0, 0, 1, 0, 1, 1, 1], [6, 8, 4, 18, 17, 16]), ([0, 1, 1, 0, 0, 1, 1, 0, 0, 1, 0, 1, 1, 1], [9, 4, 18, 17, 16, 6]), ([0, 1, 1, 1, 0, 0, 1, 1, 0, 0, 1, 0, 1, 1, 1], [29, 9, 4, 18, 17, 16, 6]), ([1, 1, 1, 1, 0, 0, 1, 1, 0, 0, 1, 0, 1, 1, 1], [18, 17, 16, 6, 4]), ([0, 0, 1, 1, 1, 1, 0, 0, 1, 1, 0, 0, 1, 0, 1, 1, 1], [4, 5]), ([1, 0, 1, 1, 1, 1, 0, 0, 1, 1, 0, 0, 1, 0, 1, 1, 1], [4, 5]), ([0, 1, 1, 0, 0, 1, 0, 1, 1, 1], [18, 17, 16, 6, 4]), ([1, 1, 1, 0, 0, 1, 0, 1, 1, 1], [18, 17, 16, 6, 4]), ([1, 0, 1, 1, 1], [6, 4]), ([0, 1, 1, 1, 1], [4, 5]), ([1, 1, 1, 1, 1], [4, 5])]

def zcs (N : Nat) : Env := z5d tys zw [(13, z3z N), (32, zdh N), (33, zdo N)] [] [] [] false [] []

theorem zpe (N : Nat) : EnvOk Go.Proofs.Try.prog (zcs N) := z19 mixed z2e (FnsOk.cons (z4p N) (FnsOk.cons (zns N) (FnsOk.cons (zo1 N) (FnsOk.nil)))) (ItsOk.nil)

def zeb (N : Nat) (x4 : ((List ((List UInt8) × (Int × (Int × ((List (Int × ((List UInt8) × Unit))) × Unit))))) × (Int × Unit))) (x16 : (List (Int × ((List UInt8) × (Int × (Int × ((List UInt8) × Unit))))))) (x17 : Int) (after : ((List ((List UInt8) × (Int × (Int × ((List (Int × ((List UInt8) × Unit))) × Unit))))) × (Int × Unit))) (x18 : Int) (rec : ((List ((List UInt8) × (Int × (Int × ((List (Int × ((List UInt8) × Unit))) × Unit))))) × (Int × Unit)) -> Int -> Option (((List ((List UInt8) × (Int × (Int × ((List (Int × ((List UInt8) × Unit))) × Unit))))) × (Int × Unit)) × Int × Unit)) (k0 : ((List ((List UInt8) × (Int × (Int × ((List (Int × ((List UInt8) × Unit))) × Unit))))) × (Int × Unit)) -> Int -> Option (((List ((List UInt8) × (Int × (Int × ((List (Int × ((List UInt8) × Unit))) × Unit))))) × (Int × Unit)) × Int × Unit)) (k1 : ((List ((List UInt8) × (Int × (Int × ((List (Int × ((List UInt8) × Unit))) × Unit))))) × (Int × Unit)) -> Option (((List ((List UInt8) × (Int × (Int × ((List (Int × ((List UInt8) × Unit))) × Unit))))) × (Int × Unit)) × Int × Unit)) : Option (((List ((List UInt8) × (Int × (Int × ((List (Int × ((List UInt8) × Unit))) × Unit))))) × (Int × Unit)) × Int × Unit) :=
 cond (decide (x18 < x17))
 (cond (Go.Lift.inR x18 (List.length x16))
 ((z8w N after (List.getD x16 (Int.toNat x18) ((0 : Int), (([] : List UInt8), ((0 : Int), ((0 : Int), (([] : List UInt8), ()))))))).bind fun y =>
 cond (y.2.1 != (0 : Int))
 (k0 (([] : List ((List UInt8) × (Int × (Int × ((List (Int × ((List UInt8) × Unit))) × Unit))))), ((0 : Int), ())) y.2.1)
 (rec y.1 (Go.IntKind.wrap Go.IntKind.i64 (x18 + (1 : Int)))))
 (none))
 (k1 after)

def zjs (N : Nat) (x4 : ((List ((List UInt8) × (Int × (Int × ((List (Int × ((List UInt8) × Unit))) × Unit))))) × (Int × Unit))) (after : ((List ((List UInt8) × (Int × (Int × ((List (Int × ((List UInt8) × Unit))) × Unit))))) × (Int × Unit))) (x16 : (List (Int × ((List UInt8) × (Int × (Int × ((List UInt8) × Unit))))))) (x17 : Int) (x18 : Int) (k0 : ((List ((List UInt8) × (Int × (Int × ((List (Int × ((List UInt8) × Unit))) × Unit))))) × (Int × Unit)) -> Int -> Option (((List ((List UInt8) × (Int × (Int × ((List (Int × ((List UInt8) × Unit))) × Unit))))) × (Int × Unit)) × Int × Unit)) (k1 : ((List ((List UInt8) × (Int × (Int × ((List (Int × ((List UInt8) × Unit))) × Unit))))) × (Int × Unit)) -> Option (((List ((List UInt8) × (Int × (Int × ((List (Int × ((List UInt8) × Unit))) × Unit))))) × (Int × Unit)) × Int × Unit)) : Option (((List ((List UInt8) × (Int × (Int × ((List (Int × ((List UInt8) × Unit))) × Unit))))) × (Int × Unit)) × Int × Unit) :=
 iter (fun (v : (((List ((List UInt8) × (Int × (Int × ((List (Int × ((List UInt8) × Unit))) × Unit))))) × (Int × Unit)) × Int)) r => zeb N x4 x16 x17 v.1 v.2 (fun after x18 => (r (after, x18))) k0 k1) N (after, x18)

def zju (N : Nat) (i : (((List ((List UInt8) × (Int × (Int × ((List (Int × ((List UInt8) × Unit))) × Unit))))) × (Int × Unit)) × (List (Int × ((List UInt8) × (Int × (Int × ((List UInt8) × Unit)))))) × Int)) (v : (((List ((List UInt8) × (Int × (Int × ((List (Int × ((List UInt8) × Unit))) × Unit))))) × (Int × Unit)) × Int)) (r : (((List ((List UInt8) × (Int × (Int × ((List (Int × ((List UInt8) × Unit))) × Unit))))) × (Int × Unit)) × Int) -> Option (((List ((List UInt8) × (Int × (Int × ((List (Int × ((List UInt8) × Unit))) × Unit))))) × (Int × Unit)) × Int × Unit)) (K : Ex -> List A -> Option (((List ((List UInt8) × (Int × (Int × ((List (Int × ((List UInt8) × Unit))) × Unit))))) × (Int × Unit)) × Int × Unit)) : Option (((List ((List UInt8) × (Int × (Int × ((List (Int × ((List UInt8) × Unit))) × Unit))))) × (Int × Unit)) × Int × Unit) :=
 zeb N i.1 i.2.1 i.2.2 v.1 v.2 (fun after x18 => (r (after, x18))) (fun a0 a1 => (K .ret (mkS [(4, .box (.pair (.sl (.pair .str (.pair (.int .i64) (.pair (.int .i64) (.pair (.sl (.pair (.int .i64) (.pair .str .unit))) .unit))))) (.pair (.int .i64) .unit))), (0, .v (.int .i64))] 28 (a0, a1, ())))) (fun a1 => (K (.exit 0) (mkS [(4, .box (.pair (.sl (.pair .str (.pair (.int .i64) (.pair (.int .i64) (.pair (.sl (.pair (.int .i64) (.pair .str .unit))) .unit))))) (.pair (.int .i64) .unit))), (1, .box (.pair (.sl (.pair .str (.pair (.int .i64) (.pair (.int .i64) (.pair (.sl (.pair (.int .i64) (.pair .str .unit))) .unit))))) (.pair (.int .i64) .unit)))] 27 (i.1, a1, ()))))

def zjt (N : Nat) : Hd (((List ((List UInt8) × (Int × (Int × ((List (Int × ((List UInt8) × Unit))) × Unit))))) × (Int × Unit)) × Int × Unit) := fun st K => (unS [(4, .box (.pair (.sl (.pair .str (.pair (.int .i64) (.pair (.int .i64) (.pair (.sl (.pair (.int .i64) (.pair .str .unit))) .unit))))) (.pair (.int .i64) .unit))), (1, .box (.pair (.sl (.pair .str (.pair (.int .i64) (.pair (.int .i64) (.pair (.sl (.pair (.int .i64) (.pair .str .unit))) .unit))))) (.pair (.int .i64) .unit))), (9, .v (.sl (.pair (.int .i64) (.pair .str (.pair (.int .i64) (.pair (.int .i64) (.pair .str .unit))))))), (0, .v (.int .i64)), (0, .v (.int .i64))] 15 (restr [18, 17, 16, 6, 4] 0 st)).bind fun x => iter (fun v r => zju N ((fun x => (x.1, x.2.2.1, x.2.2.2.1)) x) v r K) N ((fun x => (x.2.1, x.2.2.2.2.1)) x)

def zr1 (N : Nat) : Tab (((List ((List UInt8) × (Int × (Int × ((List (Int × ((List UInt8) × Unit))) × Unit))))) × (Int × Unit)) × Int × Unit) := []

theorem zpd {N : Nat} {c : Ctx} (hb : Base Go.Proofs.Try.prog (zcs N) c) : z1b Go.Proofs.Try.prog c (zm z9z [0, 1, 0, 1, 1, 1]) (zjt N) :=
  z7l (s := [(4, .box (.pair (.sl (.pair .str (.pair (.int .i64) (.pair (.int .i64) (.pair (.sl (.pair (.int .i64) (.pair .str .unit))) .unit))))) (.pair (.int .i64) .unit))), (1, .box (.pair (.sl (.pair .str (.pair (.int .i64) (.pair (.int .i64) (.pair (.sl (.pair (.int .i64) (.pair .str .unit))) .unit))))) (.pair (.int .i64) .unit))), (9, .v (.sl (.pair (.int .i64) (.pair .str (.pair (.int .i64) (.pair (.int .i64) (.pair .str .unit))))))), (0, .v (.int .i64)), (0, .v (.int .i64))]) (m := 15) (zju N) [18, 17, 16, 6, 4] N (fun x => (x.1, x.2.2.1, x.2.2.2.1)) (fun x => (x.2.1, x.2.2.2.2.1)) (fun i v => (i.1, v.1, i.2.1, i.2.2, v.2, ())) (fun _ => rfl) (zo hb N (zr1 N) zgf z9z TabOk.nil [0, 0, 1, 0, 1, 1, 1] _ rfl) (fun i v r K => by kernel_rfl)

def zct (N : Nat) (s : ((List ((List UInt8) × (Int × (Int × ((List (Int × ((List UInt8) × Unit))) × Unit))))) × (Int × Unit))) (l : (List (Int × ((List UInt8) × (Int × (Int × ((List UInt8) × Unit))))))) : Option (((List ((List UInt8) × (Int × (Int × ((List (Int × ((List UInt8) × Unit))) × Unit))))) × (Int × Unit)) × Int × Unit) :=
 (z38 N s).bind fun y =>
 cond (!y)
 (some ((([] : List ((List UInt8) × (Int × (Int × ((List (Int × ((List UInt8) × Unit))) × Unit))))), ((0 : Int), ())), ((7 : Int), ())))
 ((z8u N s).bind fun y1 =>
 zjs N (([] : List ((List UInt8) × (Int × (Int × ((List (Int × ((List UInt8) × Unit))) × Unit))))), ((0 : Int), ())) y1 l (((List.length l) : Nat) : Int) (0 : Int)
 (fun x4 x5 => some (x4, (x5, ())))
 (fun after => some (after, ((0 : Int), ()))))

def zmq (N : Nat) : Tab (((List ((List UInt8) × (Int × (Int × ((List (Int × ((List UInt8) × Unit))) × Unit))))) × (Int × Unit)) × Int × Unit) := [([0, 1, 0, 1, 1, 1], zjt N)]

theorem zo2 (N : Nat) (x : z2g [(0, .v (.pair (.sl (.pair .str (.pair (.int .i64) (.pair (.int .i64) (.pair (.sl (.pair (.int .i64) (.pair .str .unit))) .unit))))) (.pair (.int .i64) .unit))), (0, .v (.sl (.pair (.int .i64) (.pair .str (.pair (.int .i64) (.pair (.int .i64) (.pair .str .unit)))))))]) : zcy (zcs N) N (zmq N) zgf Go.Proofs.Try.f14 (mkS [(0, .v (.pair (.sl (.pair .str (.pair (.int .i64) (.pair (.int .i64) (.pair (.sl (.pair (.int .i64) (.pair .str .unit))) .unit))))) (.pair (.int .i64) .unit))), (0, .v (.sl (.pair (.int .i64) (.pair .str (.pair (.int .i64) (.pair (.int .i64) (.pair .str .unit)))))))] 0 x) (z68 (.tup [(.pair (.sl (.pair .str (.pair (.int .i64) (.pair (.int .i64) (.pair (.sl (.pair (.int .i64) (.pair .str .unit))) .unit))))) (.pair (.int .i64) .unit)), (.int .i64)]) 2) = zct N x.1 x.2.1 := by kernel_rfl

def zbm (N : Nat) : List A -> Res := z28 [(0, .v (.pair (.sl (.pair .str (.pair (.int .i64) (.pair (.int .i64) (.pair (.sl (.pair (.int .i64) (.pair .str .unit))) .unit))))) (.pair (.int .i64) .unit))), (0, .v (.sl (.pair (.int .i64) (.pair .str (.pair (.int .i64) (.pair (.int .i64) (.pair .str .unit)))))))] (fun x => zct N x.1 x.2.1) (z7w (.tup [(.pair (.sl (.pair .str (.pair (.int .i64) (.pair (.int .i64) (.pair (.sl (.pair (.int .i64) (.pair .str .unit))) .unit))))) (.pair (.int .i64) .unit)), (.int .i64)]) 2)

theorem zjv (N : Nat) : Contract Go.Proofs.Try.prog zw 14 (zbm N) :=
  Contract.of (E := zcs N) (H := zmq N) (L := zgf) (N := N) (body := z9z) (K := (z68 (.tup [(.pair (.sl (.pair .str (.pair (.int .i64) (.pair (.int .i64) (.pair (.sl (.pair (.int .i64) (.pair .str .unit))) .unit))))) (.pair (.int .i64) .unit)), (.int .i64)]) 2)) (zpe N) Go.Proofs.Try.func14 (by kernel_rfl) (by decide) (fun _ hb => (TabOk.cons (zpd hb) TabOk.nil)) (fun x y h => by rw [zo2]; exact h) (z20 (s := (.tup [(.pair (.sl (.pair .str (.pair (.int .i64) (.pair (.int .i64) (.pair (.sl (.pair (.int .i64) (.pair .str .unit))) .unit))))) (.pair (.int .i64) .unit)), (.int .i64)])) (m := 2))

def zb6 : Code := (Go.Proofs.Try.f7.body).getD .skip

def z7f : List (List Nat × List Nat) := [([0], []), ([0, 1], [1, 2]), ([0, 1, 1], [3, 2, 4, 1]), ([0, 1, 1, 1], [2, 4, 1, 6, 5, 3]), ([0, 1, 1, 1, 1], [0]), ([1, 1, 1, 1, 1], [0])]

def z4a (N : Nat) : Env := z5d tys zw [(14, zbm N), (11, z8k N), (19, zc1 N), (20, zfj N)] [(1, (.pair (.int .i64) (.pair .str (.pair (.int .i64) (.pair (.int .i64) (.pair .str .unit)))))), (5, (.pair (.int .i64) (.pair .str (.pair (.int .i64) (.pair (.int .i64) (.pair .str .unit))))))] [] [] false [] []

theorem zbv (N : Nat) : EnvOk Go.Proofs.Try.prog (z4a N) := z19 mixed z2e (FnsOk.cons (zjv N) (FnsOk.cons (zfp N) (FnsOk.cons (zlx N) (FnsOk.cons (zpl N) (FnsOk.nil))))) (ItsOk.nil)

def z2i (N : Nat) : Option Bool :=
 (zee N (([] : List ((List UInt8) × (Int × (Int × ((List (Int × ((List UInt8) × Unit))) × Unit))))), ((6 : Int), ())) ([(97 : UInt8), (99 : UInt8), (109 : UInt8), (101 : UInt8)] : List UInt8) ([(48 : UInt8), (49 : UInt8), (50 : UInt8), (51 : UInt8), (52 : UInt8), (53 : UInt8), (54 : UInt8), (55 : UInt8), (56 : UInt8), (57 : UInt8), (97 : UInt8), (98 : UInt8), (99 : UInt8), (100 : UInt8), (101 : UInt8), (102 : UInt8), (48 : UInt8), (49 : UInt8), (50 : UInt8), (51 : UInt8), (52 : UInt8), (53 : UInt8), (54 : UInt8), (55 : UInt8), (56 : UInt8), (57 : UInt8), (97 : UInt8), (98 : UInt8), (99 : UInt8), (100 : UInt8), (101 : UInt8), (102 : UInt8)] : List UInt8)).bind fun y =>
 (zct N (([] : List ((List UInt8) × (Int × (Int × ((List (Int × ((List UInt8) × Unit))) × Unit))))), ((6 : Int), ())) y.1).bind fun y1 =>
 (zk4 N y1.1 ([(97 : UInt8), (99 : UInt8), (109 : UInt8), (101 : UInt8)] : List UInt8)).bind fun y2 =>
 cond (y.2.1 == (0 : Int))
 (cond (y1.2.1 == (0 : Int))
 (cond ((((List.length y.1) : Nat) : Int) == (2 : Int))
 (cond (y2.2.1 == (0 : Int))
 (cond ((((List.length y2.1) : Nat) : Int) == (1 : Int))
 (cond (Go.Lift.inR (0 : Int) (List.length y2.1))
 (cond (Go.Lift.eqD (Go.Lift.unT EvT) (List.getD y2.1 0 ((0 : Int), (([] : List UInt8), ((0 : Int), ((0 : Int), (([] : List UInt8), ())))))) ((4 : Int), (([] : List UInt8), ((7 : Int), ((0 : Int), (([] : List UInt8), ()))))))
 ((z6x N y1.1).bind fun y3 =>
 some ((((List.length y3) : Nat) : Int) == (3 : Int)))
 (some false))
 (none))
 (some false))
 (some false))
 (some false))
 (some false))
 (some false)

def z7e (N : Nat) : Tab Bool := []

theorem zb5 (N : Nat) (x : z2g []) : zcy (z4a N) N (z7e N) z7f Go.Proofs.Try.f7 (mkS [] 0 x) (z68 (.v .bool) 0) = z2i N := by kernel_rfl

def z60 (N : Nat) : List A -> Res := z28 [] (fun x => z2i N) (z7w (.v .bool) 0)

theorem zda (N : Nat) : Contract Go.Proofs.Try.prog zw 7 (z60 N) :=
  Contract.of (E := z4a N) (H := z7e N) (L := z7f) (N := N) (body := zb6) (K := (z68 (.v .bool) 0)) (zbv N) Go.Proofs.Try.func7 (by kernel_rfl) (by decide) (fun _ hb => TabOk.nil) (fun x y h => by rw [zb5]; exact h) (z20 (s := (.v .bool)) (m := 0))

def z1c : Code := (Go.Proofs.Try.f4.body).getD .skip

def z22 : List (List Nat × List Nat) := [([0], [1]), ([0, 0, 1], [12, 1]), ([1, 0, 1], [1]), ([0, 0, 1, 0, 1], [2]), ([1, 0, 1, 0, 1], [2]), ([0, 1, 1], [3, 1]), ([0, 1, 1, 1], [5, 1, 4, 3]), ([0, 1, 1, 1, 1], [2]), ([1, 1, 1, 1, 1], [2])]

def z1o (N : Nat) : Env := z5d tys zw [(7, z60 N), (14, zbm N), (6, z5z N), (11, z8k N), (13, z3z N), (15, z4m N)] [(3, (.pair (.int .i64) (.pair .str (.pair (.int .i64) (.pair (.int .i64) (.pair .str .unit))))))] [] [] false [] []

theorem z8f (N : Nat) : EnvOk Go.Proofs.Try.prog (z1o N) := z19 mixed z2e (FnsOk.cons (zda N) (FnsOk.cons (zjv N) (FnsOk.cons (zd9 N) (FnsOk.cons (zfp N) (FnsOk.cons (z4p N) (FnsOk.cons (za7 N) (FnsOk.nil))))))) (ItsOk.nil)

def z2j (N : Nat) (s : ((List ((List UInt8) × (Int × (Int × ((List (Int × ((List UInt8) × Unit))) × Unit))))) × (Int × Unit))) (k0 : Bool -> Option Bool) : Option Bool :=
 (z2h N s).bind fun y =>
 cond y
 (k0 true)
 ((z38 N s).bind fun y1 =>
 k0 (!y1))

def z4k (N : Nat) (x : z2g [(1, .box (.pair (.sl (.pair .str (.pair (.int .i64) (.pair (.int .i64) (.pair (.sl (.pair (.int .i64) (.pair .str .unit))) .unit))))) (.pair (.int .i64) .unit)))]) (K : Ex -> List A -> Option Bool) : Option Bool :=
 z2j N x.1 (fun a1 => (K .normal (mkS [(1, .box (.pair (.sl (.pair .str (.pair (.int .i64) (.pair (.int .i64) (.pair (.sl (.pair (.int .i64) (.pair .str .unit))) .unit))))) (.pair (.int .i64) .unit))), (10, .v .bool)] 24 (x.1, a1, ()))))

def z4i (N : Nat) : Hd Bool := fun st K => (unS [(1, .box (.pair (.sl (.pair .str (.pair (.int .i64) (.pair (.int .i64) (.pair (.sl (.pair (.int .i64) (.pair .str .unit))) .unit))))) (.pair (.int .i64) .unit)))] 35 (restr [1] 0 st)).bind fun x => z4k N x K

def z8z (N : Nat) : Tab Bool := []

theorem z8d {N : Nat} {c : Ctx} (hb : Base Go.Proofs.Try.prog (z1o N) c) : z1b Go.Proofs.Try.prog c (zm z1c [0, 0, 1]) (z4i N) :=
  z1v (s := [(1, .box (.pair (.sl (.pair .str (.pair (.int .i64) (.pair (.int .i64) (.pair (.sl (.pair (.int .i64) (.pair .str .unit))) .unit))))) (.pair (.int .i64) .unit)))]) (m := 35) (g := z4k N) [1] (zo hb N (z8z N) z22 z1c TabOk.nil [0, 0, 1] _ rfl) (fun x K => by kernel_rfl)

def z2k (N : Nat) (s : ((List ((List UInt8) × (Int × (Int × ((List (Int × ((List UInt8) × Unit))) × Unit))))) × (Int × Unit))) (k0 : Bool -> Option Bool) (k1 : Option Bool) : Option Bool :=
 z2j N s
 (fun x12 => cond x12
 ((z2i N).bind fun y =>
 k0 y)
 (k1))

def z4l (N : Nat) (x : z2g [(1, .box (.pair (.sl (.pair .str (.pair (.int .i64) (.pair (.int .i64) (.pair (.sl (.pair (.int .i64) (.pair .str .unit))) .unit))))) (.pair (.int .i64) .unit)))]) (K : Ex -> List A -> Option Bool) : Option Bool :=
 z2k N x.1 (fun a0 => (K .ret (mkS [(2, .v .bool)] 34 (a0, ())))) (K .normal (mkS [(1, .box (.pair (.sl (.pair .str (.pair (.int .i64) (.pair (.int .i64) (.pair (.sl (.pair (.int .i64) (.pair .str .unit))) .unit))))) (.pair (.int .i64) .unit)))] 35 (x.1, ())))

def z4j (N : Nat) : Hd Bool := fun st K => (unS [(1, .box (.pair (.sl (.pair .str (.pair (.int .i64) (.pair (.int .i64) (.pair (.sl (.pair (.int .i64) (.pair .str .unit))) .unit))))) (.pair (.int .i64) .unit)))] 35 (restr [1] 0 st)).bind fun x => z4l N x K

def z90 (N : Nat) : Tab Bool := [([0, 0, 1], z4i N)]

theorem z8e {N : Nat} {c : Ctx} (hb : Base Go.Proofs.Try.prog (z1o N) c) : z1b Go.Proofs.Try.prog c (zm z1c [0, 1]) (z4j N) :=
  z1v (s := [(1, .box (.pair (.sl (.pair .str (.pair (.int .i64) (.pair (.int .i64) (.pair (.sl (.pair (.int .i64) (.pair .str .unit))) .unit))))) (.pair (.int .i64) .unit)))]) (m := 35) (g := z4l N) [1] (zo hb N (z90 N) z22 z1c (TabOk.cons (z8d hb) TabOk.nil) [0, 1] _ rfl) (fun x K => by kernel_rfl)

def z1j (N : Nat) (s : ((List ((List UInt8) × (Int × (Int × ((List (Int × ((List UInt8) × Unit))) × Unit))))) × (Int × Unit))) : Option Bool :=
 z2k N s
 (fun x2 => some x2)
 ((z6x N s).bind fun y =>
 (zct N (([] : List ((List UInt8) × (Int × (Int × ((List (Int × ((List UInt8) × Unit))) × Unit))))), ((0 : Int), ())) y).bind fun y1 =>
 cond (y1.2.1 == (0 : Int))
 ((z1q N s y1.1).bind fun y2 =>
 cond y2
 (cond (decide ((((List.length y) : Nat) : Int) <= (145 : Int)))
 ((z2i N).bind fun y3 =>
 some y3)
 (some false))
 (some false))
 (some false))

def z4r (N : Nat) : Tab Bool := [([0, 1], z4j N)]

theorem z7v (N : Nat) (x : z2g [(0, .v (.pair (.sl (.pair .str (.pair (.int .i64) (.pair (.int .i64) (.pair (.sl (.pair (.int .i64) (.pair .str .unit))) .unit))))) (.pair (.int .i64) .unit)))]) : zcy (z1o N) N (z4r N) z22 Go.Proofs.Try.f4 (mkS [(0, .v (.pair (.sl (.pair .str (.pair (.int .i64) (.pair (.int .i64) (.pair (.sl (.pair (.int .i64) (.pair .str .unit))) .unit))))) (.pair (.int .i64) .unit)))] 0 x) (z68 (.v .bool) 1) = z1j N x.1 := by kernel_rfl

def z8c (N : Nat) : List A -> Res := z28 [(0, .v (.pair (.sl (.pair .str (.pair (.int .i64) (.pair (.int .i64) (.pair (.sl (.pair (.int .i64) (.pair .str .unit))) .unit))))) (.pair (.int .i64) .unit)))] (fun x => z1j N x.1) (z7w (.v .bool) 1)

theorem z91 (N : Nat) : Contract Go.Proofs.Try.prog zw 4 (z8c N) :=
  Contract.of (E := z1o N) (H := z4r N) (L := z22) (N := N) (body := z1c) (K := (z68 (.v .bool) 1)) (z8f N) Go.Proofs.Try.func4 (by kernel_rfl) (by decide) (fun _ hb => (TabOk.cons (z8e hb) TabOk.nil)) (fun x y h => by rw [z7v]; exact h) (z20 (s := (.v .bool)) (m := 1))

end
end Go.Proofs.YtlohplpnhopldaaLg

set_option linter.all false
set_option maxRecDepth 100000
namespace Go.Proofs.YtlohplpnhopldaaLg
noncomputable section
open Go Go.Lift Go.Proofs.YtlohplpnhopldaaPx

abbrev EvD := Int × (List UInt8 × (Int × (Int × (List UInt8 × Unit))))

def zb8 {α : Type} (p : α -> Bool) : List α -> Nat -> Int
  | [], _ => -1
  | x :: l, i => if p x then (i : Int) else zb8 p l (i + 1)

theorem z7p {α : Type} (p : α -> Bool) : ∀ (l : List α) (i : Nat), (zb8 p l i = -1 /\ ∀ x ∈ l, p x = false) \/ ∃ j : Nat, zb8 p l i = ((i + j : Nat) : Int) /\ ∃ h : j < l.length, p l[j] = true
  | [], i => .inl ⟨rfl, fun x hx => by cases hx⟩
  | x :: l, i => by
    rw [zb8]
    cases hp : p x with
    | true => exact .inr ⟨0, by simp, by simp, hp⟩
    | false =>
      simp only [Bool.false_eq_true, if_false]
      rcases z7p p l (i + 1) with ⟨h1, h2⟩ | ⟨j, h1, h2, h3⟩
      . refine .inl ⟨h1, fun y hy => ?_⟩
        rcases List.mem_cons.1 hy with rfl | hy
        . exact hp
        . exact h2 y hy
      . exact .inr ⟨j + 1, by rw [h1]; congr 1; omega, by simpa using h2, by simpa using h3⟩

theorem zor : ∀ a b : List UInt8, Go.Op.bytesLess a b = decide (zep a b < 0)
  | [], [] => rfl
  | [], _ :: _ => rfl
  | _ :: _, [] => rfl
  | x :: xs, y :: ys => by
    rw [zep, Go.Op.bytesLess]
    by_cases h1 : x < y
    . rw [if_pos h1, decide_eq_true h1]; rfl
    . by_cases h2 : y < x
      . have h3 : (x == y) = false := by
          rw [beq_eq_false_iff_ne]
          intro e; rw [e, UInt8.lt_iff_toNat_lt] at h2; omega
        rw [if_neg h1, if_pos h2, decide_eq_false h1, h3]; rfl
      . have e : x = y := by
          rw [UInt8.lt_iff_toNat_lt] at h1 h2
          exact UInt8.toNat_inj.1 (by omega)
        subst e
        rw [if_neg h1, if_neg h1, zor xs ys, decide_eq_false h1, beq_self_eq_true, Bool.false_or, Bool.true_and]

theorem zl2 : ∀ a b c : List UInt8, zep a b < 0 -> zep b c < 0 -> zep a c < 0
  | [], [], _, h, _ => by simp [zep] at h
  | [], _ :: _, [], _, h => by simp [zep] at h
  | [], _ :: _, _ :: _, _, _ => by simp [zep]
  | _ :: _, [], _, h, _ => by simp [zep] at h
  | _ :: _, _ :: _, [], _, h => by simp [zep] at h
  | x :: xs, y :: ys, z :: zs, h, g => by
    rw [zep] at h g ⊢
    simp only [UInt8.lt_iff_toNat_lt] at h g ⊢
    by_cases h1 : x.toNat < y.toNat
    . by_cases g1 : y.toNat < z.toNat
      . rw [if_pos (by omega)]; omega
      . by_cases g2 : z.toNat < y.toNat
        . rw [if_neg g1, if_pos g2] at g; omega
        . rw [if_pos (by omega)]; omega
    . by_cases h2 : y.toNat < x.toNat
      . rw [if_neg h1, if_pos h2] at h; omega
      . rw [if_neg h1, if_neg h2] at h
        by_cases g1 : y.toNat < z.toNat
        . rw [if_pos (by omega)]; omega
        . by_cases g2 : z.toNat < y.toNat
          . rw [if_neg g1, if_pos g2] at g; omega
          . rw [if_neg g1, if_neg g2] at g
            rw [if_neg (by omega), if_neg (by omega)]
            exact zl2 xs ys zs h g

theorem znc : ∀ a b : List UInt8, ¬ zep a b < 0 -> a ≠ b -> zep b a < 0
  | [], [], _, h => absurd rfl h
  | [], _ :: _, h, _ => by simp [zep] at h
  | _ :: _, [], _, _ => by simp [zep]
  | x :: xs, y :: ys, h, g => by
    rw [zep] at h ⊢
    simp only [UInt8.lt_iff_toNat_lt] at h ⊢
    by_cases h1 : x.toNat < y.toNat
    . rw [if_pos h1] at h; omega
    . by_cases h2 : y.toNat < x.toNat
      . rw [if_pos h2]; omega
      . have e : x = y := UInt8.toNat_inj.1 (by omega)
        subst e
        rw [if_neg h1, if_neg h1] at h
        rw [if_neg h1, if_neg h1]
        exact znc xs ys h (fun e => g (by rw [e]))

theorem zv0 (p t : List UInt8) : upL (some p) t = decide (zep p t < 0) := by
  rw [upL, <- zzc]
  by_cases h : zep p t < 0
  . rw [decide_eq_true h, decide_eq_false (by omega)]; rfl
  . rw [decide_eq_false h, decide_eq_true (by omega)]; rfl

theorem z32 {p : Option (List UInt8)} {t : z8p} {l : List z8p} : z71 p (t :: l) = true ↔ upL p t.1 = true /\ zqr t = true /\ z71 (some t.1) l = true := by
  rw [z71]; simp only [Bool.and_eq_true]

theorem zmj : ∀ {l : List z8p} {p : List UInt8}, z71 (some p) l = true -> ∀ x ∈ l, zep p x.1 < 0
  | [], _, _, x, hx => by cases hx
  | t :: l, p, h, x, hx => by
    obtain ⟨h1, h2, h3⟩ := z32.1 h
    rw [zv0, decide_eq_true_eq] at h1
    rcases List.mem_cons.1 hx with rfl | hx
    . exact h1
    . exact zl2 _ _ _ h1 (zmj h3 x hx)

theorem z5t : ∀ {l : List z8p} {p : Option (List UInt8)}, z71 p l = true -> ∀ x ∈ l, zqr x = true
  | [], _, _, x, hx => by cases hx
  | t :: l, p, h, x, hx => by
    obtain ⟨h1, h2, h3⟩ := z32.1 h
    rcases List.mem_cons.1 hx with rfl | hx
    . exact h2
    . exact z5t h3 x hx

theorem z3x {t : z8p} (h : zqr t = true) : z88 t.1 = true /\ z9e t.2.1 0 = true /\ z9e t.2.2.1 1 = true /\ t.2.2.2.1.length <= 8 /\ z9d t.2.2.1 0 t.2.2.2.1 = true := by
  unfold zqr at h
  simp only [Bool.and_eq_true, decide_eq_true_eq] at h
  exact ⟨h.1, h.2.1, h.2.2.1, h.2.2.2.1, h.2.2.2.2⟩

theorem zv5 {t : z8p} (h1 : z88 t.1 = true) (h2 : z9e t.2.1 0 = true) (h3 : z9e t.2.2.1 1 = true) (h4 : t.2.2.2.1.length <= 8) (h5 : z9d t.2.2.1 0 t.2.2.2.1 = true) : zqr t = true := by
  unfold zqr
  rw [h1, h2, h3, h5, decide_eq_true h4]; rfl

theorem zwn {x low : Int} : z9e x low = true ↔ low <= x /\ x <= 1099511627776 := by
  unfold z9e; simp only [Bool.and_eq_true, decide_eq_true_eq]

theorem z3m {s : z9j} : z25 s = true ↔ s.1.length <= 16 /\ z9e s.2.1 0 = true /\ z71 none s.1 = true := by
  unfold z25; simp only [Bool.and_eq_true, decide_eq_true_eq]

theorem zsa : ∀ {l : List z8p} {p : Option (List UInt8)} {t : z8p} (j : Nat) (hj : j < l.length), z71 p l = true -> t.1 = l[j].1 -> zqr t = true -> z71 p (l.take j ++ t :: l.drop (j + 1)) = true
  | [], _, _, j, hj, _, _, _ => by cases hj
  | x :: l, p, t, 0, _, h, e, ht => by
    obtain ⟨h1, h2, h3⟩ := z32.1 h
    rw [List.take_zero, List.nil_append, List.drop_succ_cons, List.drop_zero]
    have e' : t.1 = x.1 := e
    rw [z32, e']
    exact ⟨h1, ht, h3⟩
  | x :: l, p, t, j + 1, hj, h, e, ht => by
    obtain ⟨h1, h2, h3⟩ := z32.1 h
    rw [List.take_succ_cons, List.cons_append, List.drop_succ_cons, z32]
    exact ⟨h1, h2, zsa j (by simpa using hj) h3 (by simpa using e) ht⟩

theorem zsb : ∀ {l : List z8p} {p : Option (List UInt8)} {t : z8p}, z71 p l = true -> upL p t.1 = true -> (∀ x ∈ l, x.1 ≠ t.1) -> zqr t = true -> z71 p (l.take (z69 l t.1) ++ [t] ++ l.drop (z69 l t.1)) = true
  | [], p, t, _, hu, _, ht => by
    show z71 p [t] = true
    rw [z32]; exact ⟨hu, ht, rfl⟩
  | x :: l, p, t, h, hu, hn, ht => by
    obtain ⟨h1, h2, h3⟩ := z32.1 h
    unfold z69
    rw [List.takeWhile_cons]
    have hx : x.1 ≠ t.1 := hn x List.mem_cons_self
    rw [zor]
    by_cases hlt : zep x.1 t.1 < 0
    . rw [decide_eq_true hlt, if_pos rfl, List.length_cons, List.take_succ_cons, List.drop_succ_cons]
      show z71 p (x :: (l.take (z69 l t.1) ++ [t] ++ l.drop (z69 l t.1))) = true
      rw [z32]
      exact ⟨h1, h2, zsb h3 (by rw [zv0, decide_eq_true hlt]) (fun y hy => hn y (List.mem_cons_of_mem _ hy)) ht⟩
    . rw [decide_eq_false hlt, if_neg (by decide)]
      show z71 p (t :: x :: l) = true
      rw [z32, z32]
      exact ⟨hu, ht, by rw [zv0]; exact decide_eq_true (znc _ _ hlt hx), h2, h3⟩

theorem z3f {nx last : Int} {k : zmi} {l : List zmi} : z9d nx last (k :: l) = true ↔ last < k.1 /\ k.1 < nx /\ k.2.1.length = 32 /\ z9d nx k.1 l = true := by
  rw [z9d]; simp only [Bool.and_eq_true, decide_eq_true_eq]

theorem zko : ∀ {l : List zmi} {nx nx' a b : Int}, z9d nx a l = true -> b <= a -> nx <= nx' -> z9d nx' b l = true
  | [], _, _, _, _, _, _, _ => rfl
  | k :: l, nx, nx', a, b, h, h1, h2 => by
    obtain ⟨g1, g2, g3, g4⟩ := z3f.1 h
    exact z3f.2 ⟨by omega, by omega, g3, zko g4 (by omega) h2⟩

theorem zpu : ∀ {l : List zmi} {nx a : Int} (j : Nat), z9d nx a l = true -> z9d nx a (l.take j ++ l.drop (j + 1)) = true
  | [], _, _, _, _ => by simp [z9d]
  | k :: l, nx, a, 0, h => by
    obtain ⟨g1, g2, g3, g4⟩ := z3f.1 h
    exact zko g4 (by omega) (by omega)
  | k :: l, nx, a, j + 1, h => by
    obtain ⟨g1, g2, g3, g4⟩ := z3f.1 h
    rw [List.take_succ_cons, List.cons_append, List.drop_succ_cons]
    exact z3f.2 ⟨g1, g2, g3, zpu j g4⟩

theorem zt1 : ∀ {l : List zmi} {nx a : Int} {k : zmi}, z9d nx a l = true -> a < k.1 -> k.1 < nx -> k.2.1.length = 32 -> (∀ x ∈ l, x.1 ≠ k.1) -> z9d nx a (l.take (zdc l k.1) ++ [k] ++ l.drop (zdc l k.1)) = true
  | [], nx, a, k, _, h1, h2, h3, _ => z3f.2 ⟨h1, h2, h3, rfl⟩
  | x :: l, nx, a, k, h, h1, h2, h3, hn => by
    obtain ⟨g1, g2, g3, g4⟩ := z3f.1 h
    have hx : x.1 ≠ k.1 := hn x List.mem_cons_self
    unfold zdc
    rw [List.takeWhile_cons]
    by_cases hlt : x.1 < k.1
    . rw [decide_eq_true hlt, if_pos rfl, List.length_cons, List.take_succ_cons, List.drop_succ_cons]
      exact z3f.2 ⟨g1, g2, g3, zt1 g4 hlt h2 h3 (fun y hy => hn y (List.mem_cons_of_mem _ hy))⟩
    . rw [decide_eq_false hlt, if_neg (by decide)]
      exact z3f.2 ⟨h1, h2, h3, z3f.2 ⟨by omega, g2, g3, g4⟩⟩

def zvc (s : z9j) (i : Nat) (t : z8p) : z9j := (s.1.take i ++ t :: s.1.drop (i + 1), s.2)

def z3g (t : z8p) (kd nu : Int) (tx : List UInt8) : Int × List zmi :=
 if kd = 2 then
 if t.2.2.1 <= nu then (7, t.2.2.2.1)
 else if 0 <= zb8 (fun k => k.1 == nu) t.2.2.2.1 0 then (5, t.2.2.2.1)
 else if t.2.2.2.1.length = 8 then (3, t.2.2.2.1)
 else (0, t.2.2.2.1.take (zdc t.2.2.2.1 nu) ++ [(nu, (tx, ()))] ++ t.2.2.2.1.drop (zdc t.2.2.2.1 nu))
 else if zb8 (fun k => k.1 == nu) t.2.2.2.1 0 < 0 then (6, t.2.2.2.1)
 else (0, t.2.2.2.1.take (zb8 (fun k => k.1 == nu) t.2.2.2.1 0).toNat ++ t.2.2.2.1.drop ((zb8 (fun k => k.1 == nu) t.2.2.2.1 0).toNat + 1))

def z2d (s : z9j) (e : EvD) : Int × z9j :=
 if e.1 = 4 then (if e.2.2.1 < s.2.1 then (7, s) else (0, (s.1, (e.2.2.1, ()))))
 else if e.1 = 1 then
 if 0 <= zb8 (fun t => t.1 == e.2.1) s.1 0 then
 if e.2.2.2.1 < (s.1.getD (zb8 (fun t => t.1 == e.2.1) s.1 0).toNat zch).2.1 \/ e.2.2.1 < (s.1.getD (zb8 (fun t => t.1 == e.2.1) s.1 0).toNat zch).2.2.1 then (7, s)
 else (0, zvc s (zb8 (fun t => t.1 == e.2.1) s.1 0).toNat ((s.1.getD (zb8 (fun t => t.1 == e.2.1) s.1 0).toNat zch).1, (e.2.2.2.1, (e.2.2.1, ((s.1.getD (zb8 (fun t => t.1 == e.2.1) s.1 0).toNat zch).2.2.2.1, ())))))
 else if s.1.length = 16 then (3, s)
 else (0, (s.1.take (z69 s.1 e.2.1) ++ [(e.2.1, (e.2.2.2.1, (e.2.2.1, ([], ()))))] ++ s.1.drop (z69 s.1 e.2.1), s.2))
 else if zb8 (fun t => t.1 == e.2.1) s.1 0 < 0 then (6, s)
 else ((z3g (s.1.getD (zb8 (fun t => t.1 == e.2.1) s.1 0).toNat zch) e.1 e.2.2.1 e.2.2.2.2.1).1,
 zvc s (zb8 (fun t => t.1 == e.2.1) s.1 0).toNat ((s.1.getD (zb8 (fun t => t.1 == e.2.1) s.1 0).toNat zch).1, ((s.1.getD (zb8 (fun t => t.1 == e.2.1) s.1 0).toNat zch).2.1, ((s.1.getD (zb8 (fun t => t.1 == e.2.1) s.1 0).toNat zch).2.2.1,
 ((z3g (s.1.getD (zb8 (fun t => t.1 == e.2.1) s.1 0).toNat zch) e.1 e.2.2.1 e.2.2.2.2.1).2, ())))))

def zcf (e : EvD) : Bool :=
 if e.1 = 1 then z88 e.2.1 && (z9e e.2.2.1 1 && (z9e e.2.2.2.1 0 && (e.2.2.2.2.1 == [])))
 else if e.1 = 2 then z88 e.2.1 && (z9e e.2.2.1 1 && ((e.2.2.2.1 == 0) && decide (e.2.2.2.2.1.length = 32)))
 else if e.1 = 3 then z88 e.2.1 && (z9e e.2.2.1 1 && ((e.2.2.2.1 == 0) && (e.2.2.2.2.1 == [])))
 else if e.1 = 4 then z9e e.2.2.1 0 && ((e.2.1 == []) && ((e.2.2.2.1 == 0) && (e.2.2.2.2.1 == [])))
 else false

def z11e (c : Int) : z9j × (Int × Unit) := (([], (0, ())), (c, ()))

def z5i (s : z9j) (e : EvD) : z9j × (Int × Unit) :=
 if z25 s = false then z11e 7 else if zcf e = false then z11e 2
 else if (z2d s e).1 = 0 then ((z2d s e).2, (0, ())) else z11e (z2d s e).1

theorem zqe {s : z9j} {e : EvD} (hr : z25 s = true) (hf : zcf e = true) (hc : (z2d s e).1 = 0) :
    z25 (z2d s e).2 = true /\ s.2.1 <= (z2d s e).2.2.1 /\ s.1.length <= (z2d s e).2.1.length ∧
    ∀ x ∈ s.1, ∃ y ∈ (z2d s e).2.1, y.1 = x.1 /\ x.2.1 <= y.2.1 /\ x.2.2.1 <= y.2.2.1 /\ (x.1 ≠ e.2.1 -> y = x) := by
  obtain ⟨r1, r2, r3⟩ := z3m.1 hr
  have hin := zwn.1 r2
  unfold z2d at hc ⊢
  by_cases k4 : e.1 = 4
  . rw [if_pos k4] at hc ⊢
    by_cases h : e.2.2.1 < s.2.1
    . rw [if_pos h] at hc; cases hc
    . rw [if_neg h]
      refine ⟨z3m.2 ⟨r1, ?_, r3⟩, by show s.2.1 <= e.2.2.1; omega, Nat.le_refl _, fun x hx => ⟨x, hx, rfl, by omega, by omega, fun _ => rfl⟩⟩
      unfold zcf at hf
      rw [k4] at hf
      simp only [Int.reduceEq, if_false, if_true, Bool.and_eq_true] at hf
      exact hf.1
  rw [if_neg k4] at hc ⊢
  have hset : ∀ (j : Nat) (hj : j < s.1.length) (t : z8p), s.1[j].1 = e.2.1 -> t.1 = s.1[j].1 -> s.1[j].2.1 <= t.2.1 -> s.1[j].2.2.1 <= t.2.2.1 -> zqr t = true →
      z25 (zvc s j t) = true /\ s.2.1 <= (zvc s j t).2.1 /\ s.1.length <= (zvc s j t).1.length /\ ∀ x ∈ s.1, ∃ y ∈ (zvc s j t).1, y.1 = x.1 /\ x.2.1 <= y.2.1 /\ x.2.2.1 <= y.2.2.1 /\ (x.1 ≠ e.2.1 -> y = x) := by
    intro j hj t hn ht h1 h2 h3
    have hlen : (zvc s j t).1.length = s.1.length := by
      unfold zvc; simp only [List.length_append, List.length_cons, List.length_take, List.length_drop]; omega
    refine ⟨z3m.2 ⟨by rw [hlen]; exact r1, r2, zsa j hj r3 ht h3⟩, Int.le_refl _, by rw [hlen]; exact Nat.le_refl _, fun x hx => ?_⟩
    obtain ⟨i, hi, rfl⟩ := List.getElem_of_mem hx
    rcases Nat.lt_trichotomy i j with h | h | h
    . refine ⟨s.1[i], List.mem_append.2 (.inl ?_), rfl, by omega, by omega, fun _ => rfl⟩
      rw [List.mem_take_iff_getElem]
      exact ⟨i, by omega, rfl⟩
    . subst h
      refine ⟨t, List.mem_append.2 (.inr List.mem_cons_self), ht, h1, h2, fun h => absurd hn h⟩
    . refine ⟨s.1[i], List.mem_append.2 (.inr (List.mem_cons_of_mem _ ?_)), rfl, by omega, by omega, fun _ => rfl⟩
      rw [List.mem_drop_iff_getElem]
      exact ⟨i - (j + 1), by omega, by congr 1; omega⟩
  have hget : ∀ (j : Nat) (hj : j < s.1.length), s.1.getD j zch = s.1[j] := fun j hj => by simp [List.getD, List.getElem?_eq_getElem hj]
  by_cases k1 : e.1 = 1
  . have hf' : z88 e.2.1 = true /\ z9e e.2.2.1 1 = true /\ z9e e.2.2.2.1 0 = true := by
      unfold zcf at hf
      rw [if_pos k1] at hf
      simp only [Bool.and_eq_true] at hf
      exact ⟨hf.1, hf.2.1, hf.2.2.1⟩
    rw [if_pos k1] at hc ⊢
    rcases z7p (fun t : z8p => t.1 == e.2.1) s.1 0 with ⟨h1, h2⟩ | ⟨j, h1, hj, h3⟩
    . rw [h1, if_neg (by decide)] at hc ⊢
      by_cases h16 : s.1.length = 16
      . rw [if_pos h16] at hc; cases hc
      rw [if_neg h16]
      have hne : ∀ x ∈ s.1, x.1 ≠ e.2.1 := fun x hx e' => by have := h2 x hx; rw [e', beq_self_eq_true] at this; cases this
      refine ⟨z3m.2 ⟨?_, r2, zsb (t := (e.2.1, (e.2.2.2.1, (e.2.2.1, ([], ()))))) r3 rfl hne (zv5 hf'.1 hf'.2.2 hf'.2.1 (by simp) rfl)⟩, Int.le_refl _, ?_, fun x hx => ⟨x, ?_, rfl, by omega, by omega, fun _ => rfl⟩⟩
      . simp only [List.length_append, List.length_cons, List.length_nil, List.length_take, List.length_drop]; omega
      . simp only [List.length_append, List.length_cons, List.length_nil, List.length_take, List.length_drop]; omega
      . dsimp only
        rw [List.append_assoc]
        have := List.take_append_drop (z69 s.1 e.2.1) s.1
        rw [<- this] at hx
        rcases List.mem_append.1 hx with hx | hx
        . exact List.mem_append.2 (.inl hx)
        . exact List.mem_append.2 (.inr (List.mem_append.2 (.inr hx)))
    . rw [Nat.zero_add] at h1
      rw [h1, if_pos (by omega), Int.toNat_natCast, hget j hj] at hc ⊢
      by_cases hlow : e.2.2.2.1 < s.1[j].2.1 \/ e.2.2.1 < s.1[j].2.2.1
      . rw [if_pos hlow] at hc; cases hc
      rw [if_neg hlow]
      have ht := z3x (z5t r3 _ (List.getElem_mem hj))
      exact hset j hj _ (beq_iff_eq.1 h3) rfl (by dsimp only; omega) (by dsimp only; omega) (zv5 ht.1 hf'.2.2 hf'.2.1 ht.2.2.2.1 (zko ht.2.2.2.2 (by omega) (by dsimp only; omega)))
  . rw [if_neg k1] at hc ⊢
    rcases z7p (fun t : z8p => t.1 == e.2.1) s.1 0 with ⟨h1, h2⟩ | ⟨j, h1, hj, h3⟩
    . rw [h1, if_pos (by decide)] at hc; cases hc
    rw [Nat.zero_add] at h1
    rw [h1, if_neg (by omega), Int.toNat_natCast, hget j hj] at hc ⊢
    dsimp only at hc ⊢
    have ht := z3x (z5t r3 _ (List.getElem_mem hj))
    refine hset j hj _ (beq_iff_eq.1 h3) rfl (by dsimp only; omega) (by dsimp only; omega) ?_
    generalize s.1[j] = t at hc ht
    have hk : (z3g t e.1 e.2.2.1 e.2.2.2.2.1).2.length <= 8 /\ z9d t.2.2.1 0 (z3g t e.1 e.2.2.1 e.2.2.2.2.1).2 = true := by
      unfold z3g at hc ⊢
      by_cases k2 : e.1 = 2
      . have hf' : z9e e.2.2.1 1 = true /\ e.2.2.2.2.1.length = 32 := by
          unfold zcf at hf
          rw [if_neg k1, if_pos k2] at hf
          simp only [Bool.and_eq_true, decide_eq_true_eq] at hf
          exact ⟨hf.2.1, hf.2.2.2⟩
        rw [if_pos k2] at hc ⊢
        by_cases c1 : t.2.2.1 <= e.2.2.1
        . rw [if_pos c1] at hc; cases hc
        rw [if_neg c1] at hc ⊢
        rcases z7p (fun k : zmi => k.1 == e.2.2.1) t.2.2.2.1 0 with ⟨g1, g2⟩ | ⟨i, g1, g2, g3⟩
        . rw [g1, if_neg (by decide)] at hc ⊢
          by_cases c2 : t.2.2.2.1.length = 8
          . rw [if_pos c2] at hc; cases hc
          rw [if_neg c2]
          have hl := zwn.1 hf'.1
          refine ⟨?_, zt1 (k := (e.2.2.1, (e.2.2.2.2.1, ()))) ht.2.2.2.2 (by dsimp only; omega) (by dsimp only; omega) hf'.2 (fun x hx e' => by have := g2 x hx; rw [e', beq_self_eq_true] at this; cases this)⟩
          simp only [List.length_append, List.length_cons, List.length_nil, List.length_take, List.length_drop]; omega
        . rw [g1, if_pos (by omega)] at hc; cases hc
      . rw [if_neg k2] at hc ⊢
        rcases z7p (fun k : zmi => k.1 == e.2.2.1) t.2.2.2.1 0 with ⟨g1, g2⟩ | ⟨i, g1, g2, g3⟩
        . rw [g1, if_pos (by decide)] at hc; cases hc
        . rw [Nat.zero_add] at g1
          rw [g1, if_neg (by omega), Int.toNat_natCast]
          exact ⟨by simp only [List.length_append, List.length_take, List.length_drop]; omega, zpu i ht.2.2.2.2⟩
    exact zv5 ht.1 ht.2.1 ht.2.2.1 hk.1 hk.2

theorem zyt {s : z9j} {e : EvD} : ((z5i s e).2.1 = 0 /\ z25 s = true /\ zcf e = true /\ (z2d s e).1 = 0 /\ (z5i s e).1 = (z2d s e).2) \/ ((z5i s e).2.1 ≠ 0 /\ z5i s e = z11e (z5i s e).2.1) := by
  unfold z5i
  cases hr : z25 s with
  | false => exact .inr ⟨show (7 : Int) ≠ 0 by decide, rfl⟩
  | true =>
    cases hf : zcf e with
    | false => exact .inr ⟨show (2 : Int) ≠ 0 by decide, rfl⟩
    | true =>
      rw [if_neg (show ¬ (true = false) by decide), if_neg (show ¬ (true = false) by decide)]
      by_cases hc : (z2d s e).1 = 0
      . rw [if_pos hc]; exact .inl ⟨rfl, rfl, rfl, hc, rfl⟩
      . rw [if_neg hc]; exact .inr ⟨hc, rfl⟩

theorem zem (s : z9j) (e : EvD) : z25 (z5i s e).1 = true := by
  rcases zyt (s := s) (e := e) with ⟨_, hr, hf, hc, h⟩ | ⟨_, h⟩
  . rw [h]; exact (zqe hr hf hc).1
  . rw [h]; rfl

def zld : z9j -> List EvD -> z9j × (Int × Unit)
  | s, [] => (s, (0, ()))
  | s, e :: l => if (z5i s e).2.1 = 0 then zld (z5i s e).1 l else z11e (z5i s e).2.1

theorem zqm : ∀ (l : List EvD) {s : z9j}, z25 s = true -> z25 (zld s l).1 = true
  | [], _, h => h
  | e :: l, s, h => by
    rw [zld]
    split
    . exact zqm l (zem s e)
    . rfl

end
end Go.Proofs.YtlohplpnhopldaaLg

set_option linter.all false
set_option maxRecDepth 100000
namespace Go.Proofs.YtlohplpnhopldaaLg
noncomputable section
open Go Go.Lift Go.Proofs.YtlohplpnhopldaaPx

theorem zpz {α : Type} (p : α -> Bool) {s : List α} {i : Nat} (hi : i < s.length) : zb8 p (s.drop i) i = if p s[i] then (i : Int) else zb8 p (s.drop (i + 1)) (i + 1) := by
  rw [List.drop_eq_getElem_cons hi]
  rfl

theorem zrh (N : Nat) {s : List zmi} {f : Int × Unit} (hl : s.length <= 1000) (hN : s.length < N) : zg0 N s f = some (zb8 (fun k => k.1 == f.1) s 0) := by
  rw [zg0, zkt]
  refine (z6f (fun v => ∃ (i : Nat), v = (i : Int) /\ i <= s.length) (fun v => s.length - v.toNat) (fun v => some (zb8 (fun k => k.1 == f.1) (s.drop v.toNat) v.toNat)) ?_ N 0 ⟨0, rfl, Nat.zero_le _⟩ (by simpa using hN)).trans (by simp)
  rintro v r ⟨i, rfl, hi⟩ hr
  rw [zej]
  simp only [Int.toNat_natCast]
  rcases Nat.lt_or_ge i s.length with hlt | hge
  . rw [z1z (zcg (by omega)), z1z (z7o hlt), zpz _ hlt, z3w (by omega), hr _ ⟨i + 1, rfl, by omega⟩ (by simp; omega), Int.toNat_natCast]
    have hg : s.getD i ((0 : Int), (([] : List UInt8), ())) = s[i] := by simp [List.getD, List.getElem?_eq_getElem hlt]
    rw [hg]
    cases s[i].1 == f.1 <;> rfl
  . rw [z3s (zha (by omega)), List.drop_of_length_le hge]
    rfl

theorem zuh (N : Nat) {ks : List zmi} {num : Int} (hl : ks.length <= 1000) (hN : ks.length < N) : z5n N ks num = some (zb8 (fun k => k.1 == num) ks 0) := by
  rw [z5n, zrh N hl hN]
  rfl

theorem zmb (N : Nat) {s : List z8p} {f : List UInt8 × Unit} (hl : s.length <= 1000) (hN : s.length < N) : z7n N s f = some (zb8 (fun k => k.1 == f.1) s 0) := by
  rw [z7n, zdw]
  refine (z6f (fun v => ∃ (i : Nat), v = (i : Int) /\ i <= s.length) (fun v => s.length - v.toNat) (fun v => some (zb8 (fun k => k.1 == f.1) (s.drop v.toNat) v.toNat)) ?_ N 0 ⟨0, rfl, Nat.zero_le _⟩ (by simpa using hN)).trans (by simp)
  rintro v r ⟨i, rfl, hi⟩ hr
  rw [z8l]
  simp only [Int.toNat_natCast]
  rcases Nat.lt_or_ge i s.length with hlt | hge
  . rw [z1z (zcg (by omega)), z1z (z7o hlt), zpz _ hlt, z3w (by omega), hr _ ⟨i + 1, rfl, by omega⟩ (by simp; omega), Int.toNat_natCast]
    have hg : s.getD i (([] : List UInt8), ((0 : Int), ((0 : Int), (([] : List (Int × (List UInt8 × Unit))), ())))) = s[i] := by simp [List.getD, List.getElem?_eq_getElem hlt]
    rw [hg]
    cases s[i].1 == f.1 <;> rfl
  . rw [z3s (zha (by omega)), List.drop_of_length_le hge]
    rfl

theorem zwx (N : Nat) {s : z9j} {nm : List UInt8} (hl : s.1.length <= 1000) (hN : s.1.length < N) : z5y N s nm = some (zb8 (fun t => t.1 == nm) s.1 0) := by
  rw [z5y, zmb N hl hN]
  rfl

theorem zws (N : Nat) (hN : 40 < N) (e : EvD) : z8v N e = some (zcf e) := by
  rw [z8v, zbj, zcf, zuz N hN, Option.bind_some]
  by_cases k1 : e.1 = 1
  . rw [if_pos k1]
    simp only [k1, z7x, Option.bind_some, beq_self_eq_true, cond_true]
    cases z88 e.2.1 <;> cases z9e e.2.2.1 1 <;> cases z9e e.2.2.2.1 0 <;> rfl
  have b1 : (e.1 == (1 : Int)) = false := beq_eq_false_iff_ne.2 k1
  rw [if_neg k1]
  by_cases k2 : e.1 = 2
  . rw [if_pos k2]
    have hl : ((((List.length e.2.2.2.2.1) : Nat) : Int) == (32 : Int)) = decide (e.2.2.2.2.1.length = 32) := by
      by_cases h : e.2.2.2.2.1.length = 32
      . rw [decide_eq_true h, h]; rfl
      . rw [decide_eq_false h, beq_eq_false_iff_ne]; omega
    simp only [b1, k2, z7x, Option.bind_some, beq_self_eq_true, cond_true, cond_false, hl]
    cases z88 e.2.1 <;> cases z9e e.2.2.1 1 <;> cases (e.2.2.2.1 == (0 : Int)) <;> rfl
  have b2 : (e.1 == (2 : Int)) = false := beq_eq_false_iff_ne.2 k2
  rw [if_neg k2]
  by_cases k3 : e.1 = 3
  . rw [if_pos k3]
    simp only [b1, b2, k3, z7x, Option.bind_some, beq_self_eq_true, cond_true, cond_false]
    cases z88 e.2.1 <;> cases z9e e.2.2.1 1 <;> cases (e.2.2.2.1 == (0 : Int)) <;> rfl
  have b3 : (e.1 == (3 : Int)) = false := beq_eq_false_iff_ne.2 k3
  rw [if_neg k3]
  by_cases k4 : e.1 = 4
  . rw [if_pos k4]
    simp only [b1, b2, b3, k4, z7x, Option.bind_some, beq_self_eq_true, cond_true, cond_false]
    cases z88 e.2.1 <;> cases z9e e.2.2.1 1 <;> cases z9e e.2.2.1 0 <;> cases (e.2.1 == ([] : List UInt8)) <;> cases (e.2.2.2.1 == (0 : Int)) <;> rfl
  have b4 : (e.1 == (4 : Int)) = false := beq_eq_false_iff_ne.2 k4
  rw [if_neg k4]
  simp only [b1, b2, b3, b4, z7x, Option.bind_some, cond_false]
  cases z88 e.2.1 <;> cases z9e e.2.2.1 1 <;> rfl

theorem zrv (N : Nat) (hN : 40 < N) {s : z9j} (e : EvD) (hr : z25 s = true) : zl4 N s e.1 e.2.1 e.2.2.1 e.2.2.2.1 e.2.2.2.2.1 = some (z2d s e) := by
  obtain ⟨r1, r2, r3⟩ := z3m.1 hr
  unfold zl4 z2d
  by_cases k4 : e.1 = 4
  . rw [if_pos k4, if_pos k4]
    split <;> rfl
  rw [if_neg k4, if_neg k4, zwx N (by omega) (by omega), Option.bind_some]
  rcases z7p (fun t : z8p => t.1 == e.2.1) s.1 0 with ⟨h1, h2⟩ | ⟨j, h1, hj, h3⟩
  . rw [h1]
    by_cases k1 : e.1 = 1
    . rw [if_pos k1, if_pos k1, if_neg (show ¬ (0 : Int) <= -1 by decide), if_neg (show ¬ (0 : Int) <= -1 by decide)]
      split <;> rfl
    . rw [if_neg k1, if_neg k1, if_pos (show (-1 : Int) < 0 by decide), if_pos (show (-1 : Int) < 0 by decide)]
  . have hget : s.1.getD j zch = s.1[j] := by simp [List.getD, List.getElem?_eq_getElem hj]
    rw [Nat.zero_add] at h1
    rw [h1, Int.toNat_natCast, hget, List.getElem?_eq_getElem hj]
    by_cases k1 : e.1 = 1
    . rw [if_pos k1, if_pos k1, if_pos (by omega), if_pos (by omega)]
      dsimp only
      split <;> rfl
    . rw [if_neg k1, if_neg k1, if_neg (by omega), if_neg (by omega)]
      dsimp only
      have ht := z3x (z5t r3 _ (List.getElem_mem hj))
      generalize s.1[j] = t at ht
      have hy : (if e.1 = 2 then zlc N t e.2.2.1 e.2.2.2.2.1 else zg2 N t e.2.2.1) = some (z3g t e.1 e.2.2.1 e.2.2.2.2.1) := by
        unfold z3g zlc zg2
        rw [zuh N (by omega) (by omega), Option.bind_some, Option.bind_some]
        by_cases k2 : e.1 = 2
        . rw [if_pos k2, if_pos k2]
          by_cases c1 : t.2.2.1 <= e.2.2.1
          . rw [if_pos c1, if_pos c1]
          . rw [if_neg c1, if_neg c1]
            split
            . rfl
            . split <;> rfl
        . rw [if_neg k2, if_neg k2]
          rcases z7p (fun k : zmi => k.1 == e.2.2.1) t.2.2.2.1 0 with ⟨g1, g2⟩ | ⟨i, g1, g2, g3⟩
          . rw [g1, if_pos (show (-1 : Int) < 0 by decide), if_pos (show (-1 : Int) < 0 by decide)]
          . rw [Nat.zero_add] at g1
            rw [g1, Int.toNat_natCast, if_neg (show ¬ (i : Int) < 0 by omega), if_neg (show ¬ (i : Int) < 0 by omega), if_pos g2]
      rw [hy, Option.bind_some]
      rfl

theorem zur (N : Nat) (hN : 40 < N) (s : z9j) (e : EvD) : z8w N s e = some (z5i s e) := by
  unfold z8w z5i
  rw [zir N hN, Option.bind_some]
  cases hr : z25 s with
  | false => rfl
  | true =>
    rw [if_neg (show ¬ (true = false) by decide), if_neg (show ¬ (true = false) by decide), zws N hN, Option.bind_some]
    cases hf : zcf e with
    | false => rfl
    | true =>
      obtain ⟨r1, r2, r3⟩ := z3m.1 hr
      have hg : s.1.length <= 16 /\ (s.1.all fun t => decide (t.2.2.2.1.length < 256)) = true := by
        refine ⟨r1, List.all_eq_true.2 fun t ht => ?_⟩
        have := (z3x (z5t r3 t ht)).2.2.2.1
        exact decide_eq_true (by omega)
      rw [if_neg (show ¬ (true = false) by decide), if_neg (show ¬ (true = false) by decide), if_pos hg, zrv N hN e hr, Option.bind_some]
      split <;> rfl

theorem zul (N : Nat) {s : z9j} (hr : z25 s = true) : z8u N s = some s := by
  obtain ⟨r1, r2, r3⟩ := z3m.1 hr
  unfold z8u
  refine if_pos ⟨by omega, List.all_eq_true.2 fun t ht => ?_⟩
  have := (z3x (z5t r3 t ht)).2.2.2.1
  exact decide_eq_true (by omega)

def dEv : EvD := ((0 : Int), (([] : List UInt8), ((0 : Int), ((0 : Int), (([] : List UInt8), ())))))

theorem zyu (N : Nat) (hN : 40 < N) {s : z9j} {l : List EvD} (hr : z25 s = true) (hl : l.length < N) (hb : l.length <= 1000000) : zct N s l = some (zld s l) := by
  rw [zct, zir N hN, Option.bind_some, hr, Bool.not_true, cond_false, zul N hr, Option.bind_some, zjs]
  refine (z6f (fun v => ∃ (i : Nat), v.2 = (i : Int) /\ i <= l.length) (fun v => l.length - v.2.toNat) (fun v => some (zld v.1 (l.drop v.2.toNat))) ?_ N (s, 0) ⟨0, rfl, Nat.zero_le _⟩ (by simpa using hl)).trans (by rfl)
  rintro ⟨a, v⟩ r ⟨i, hv, hi⟩ hr
  dsimp only at hv
  subst hv
  rw [zeb]
  simp only [Int.toNat_natCast]
  rcases Nat.lt_or_ge i l.length with hlt | hge
  . rw [z1z (zcg (by omega)), z1z (z7o hlt), z7u l dEv i hlt, zld]
    rw [show ((0 : Int), (([] : List UInt8), ((0 : Int), ((0 : Int), (([] : List UInt8), ()))))) = dEv from rfl, zur N hN, Option.bind_some, z3w (by omega), hr _ ⟨i + 1, rfl, by omega⟩ (by simp; omega)]
    simp only [Int.toNat_natCast]
    by_cases h : (z5i a (l.getD i dEv)).2.1 = 0
    . rw [if_pos h, h]; rfl
    . rw [if_neg h, z1z (bne_iff_ne.2 h)]; rfl
  . rw [z3s (zha (by omega)), List.drop_of_length_le hge]
    rfl

end
end Go.Proofs.YtlohplpnhopldaaLg

set_option linter.all false
set_option maxRecDepth 100000
namespace Go.Proofs.YtlohplpnhopldaaLg
noncomputable section
open Go Go.Lift Go.Proofs.YtlohplpnhopldaaPx

def atL (s : z9j) (tn : List UInt8) : Int := zb8 (fun t => t.1 == tn) s.1 0

def zj2 (s : z9j) (tn : List UInt8) : z8p := s.1.getD (atL s tn).toNat zch

def evT (tn : List UInt8) (ep nx : Int) : EvD := ((1 : Int), (tn, (nx, (ep, (([] : List UInt8), ())))))
def evK (tn : List UInt8) (nu : Int) (tx : List UInt8) : EvD := ((2 : Int), (tn, (nu, ((0 : Int), (tx, ())))))
def evS (nu : Int) : EvD := ((4 : Int), (([] : List UInt8), (nu, ((0 : Int), (([] : List UInt8), ())))))

theorem z10k (s : z9j) (tn : List UInt8) (nu : Int) (tx : List UInt8) : z2d s (evK tn nu tx) = if atL s tn < 0 then (6, s) else ((z3g (zj2 s tn) 2 nu tx).1, zvc s (atL s tn).toNat ((zj2 s tn).1, ((zj2 s tn).2.1, ((zj2 s tn).2.2.1, ((z3g (zj2 s tn) 2 nu tx).2, ()))))) := by
  have h4 : ¬ (evK tn nu tx).1 = 4 := (by decide : ¬ (2 : Int) = 4)
  have h1 : ¬ (evK tn nu tx).1 = 1 := (by decide : ¬ (2 : Int) = 1)
  unfold z2d
  rw [if_neg h4, if_neg h1]
  rfl

theorem z10i (s : z9j) (tn : List UInt8) (ep nx : Int) : z2d s (evT tn ep nx) = if 0 <= atL s tn then (if ep < (zj2 s tn).2.1 \/ nx < (zj2 s tn).2.2.1 then (7, s) else (0, zvc s (atL s tn).toNat ((zj2 s tn).1, (ep, (nx, ((zj2 s tn).2.2.2.1, ()))))))
    else if s.1.length = 16 then (3, s) else (0, (s.1.take (z69 s.1 tn) ++ [(tn, (ep, (nx, ([], ()))))] ++ s.1.drop (z69 s.1 tn), s.2)) := by
  have h4 : ¬ (evT tn ep nx).1 = 4 := (by decide : ¬ (1 : Int) = 4)
  have h1 : (evT tn ep nx).1 = 1 := rfl
  unfold z2d
  rw [if_neg h4, if_pos h1]
  rfl

theorem z10j (s : z9j) (nu : Int) : z2d s (evS nu) = if nu < s.2.1 then (7, s) else (0, (s.1, (nu, ()))) := by
  have h4 : (evS nu).1 = 4 := rfl
  unfold z2d
  rw [if_pos h4]
  rfl

theorem z119 {tn : List UInt8} {ep nx : Int} (hw : z88 tn = true) (h1 : z9e ep 0 = true) (h2 : z9e nx 1 = true) : zcf (evT tn ep nx) = true := by
  unfold zcf
  rw [if_pos (show (evT tn ep nx).1 = 1 from rfl)]
  show (z88 tn && (z9e nx 1 && (z9e ep 0 && true))) = true
  rw [hw, h1, h2]; rfl

theorem z11b {tn tx : List UInt8} {nu : Int} (hw : z88 tn = true) (h1 : z9e nu 1 = true) (h2 : tx.length = 32) : zcf (evK tn nu tx) = true := by
  unfold zcf
  rw [if_neg (show ¬ (evK tn nu tx).1 = 1 from (by decide : ¬ (2 : Int) = 1)), if_pos (show (evK tn nu tx).1 = 2 from rfl)]
  show (z88 tn && (z9e nu 1 && (true && decide (tx.length = 32)))) = true
  rw [hw, h1, decide_eq_true h2]; rfl

theorem z11a {nu : Int} (h1 : z9e nu 0 = true) : zcf (evS nu) = true := by
  unfold zcf
  rw [if_neg (show ¬ (evS nu).1 = 1 from (by decide : ¬ (4 : Int) = 1)), if_neg (show ¬ (evS nu).1 = 2 from (by decide : ¬ (4 : Int) = 2)), if_neg (show ¬ (evS nu).1 = 3 from (by decide : ¬ (4 : Int) = 3)), if_pos (show (evS nu).1 = 4 from rfl)]
  show (z9e nu 0 && (true && (true && true))) = true
  rw [h1]; rfl

theorem zhc {s s1 : z9j} {e : EvD} (hr : z25 s = true) (hf : zcf e = true) (hc : z2d s e = (0, s1)) : z5i s e = (s1, (0, ())) := by
  unfold z5i
  rw [hr, hf, if_neg (by decide), if_neg (by decide), hc, if_pos rfl]

theorem z10m {ts : List z8p} {ser : Int} {t : z8p} (hlt : ∀ x ∈ ts, x.1 ≠ t.1) : atL (ts ++ [t], (ser, ())) t.1 = (ts.length : Int) /\ zj2 (ts ++ [t], (ser, ())) t.1 = t := by
  have h : atL (ts ++ [t], (ser, ())) t.1 = (ts.length : Int) := by
    have : ∀ (l : List z8p) (i : Nat), (∀ x ∈ l, x.1 ≠ t.1) -> zb8 (fun x : z8p => x.1 == t.1) (l ++ [t]) i = ((i + l.length : Nat) : Int) := by
      intro l
      induction l with
      | nil => intro i _; rw [List.nil_append, zb8, if_pos (beq_self_eq_true _)]; simp
      | cons y l ih =>
        intro i h
        rw [List.cons_append, zb8, beq_eq_false_iff_ne.2 (h y List.mem_cons_self), if_neg (by decide), ih (i + 1) (fun z hz => h z (List.mem_cons_of_mem _ hz)), List.length_cons]
        congr 1; omega
    have h2 := this ts 0 hlt
    rw [Nat.zero_add] at h2
    exact h2
  refine ⟨h, ?_⟩
  unfold zj2
  rw [h, Int.toNat_natCast]
  simp [List.getD]

end
end Go.Proofs.YtlohplpnhopldaaLg

set_option linter.all false
set_option maxRecDepth 100000
namespace Go.Proofs.YtlohplpnhopldaaLg
noncomputable section
open Go Go.Lift Go.Proofs.YtlohplpnhopldaaPx

def zb3 (tn : List UInt8) (ks : List zmi) : List EvD := ks.map fun k => evK tn k.1 k.2.1
def zhf (t : z8p) : List EvD := evT t.1 t.2.1 t.2.2.1 :: zb3 t.1 t.2.2.2.1
def zn5 (s : z9j) : List EvD := if z25 s = false then [] else s.1.flatMap zhf ++ [evS s.2.1]

theorem ztj (t : z8p) : (zhf t).length = 1 + t.2.2.2.1.length := by simp [zhf, zb3]; omega

theorem zt7 : ∀ (l : List z8p), (∀ t ∈ l, t.2.2.2.1.length <= 8) -> (l.flatMap zhf).length <= 9 * l.length
  | [], _ => by simp
  | t :: l, h => by
    have := zt7 l (fun x hx => h x (List.mem_cons_of_mem _ hx))
    have h8 := h t List.mem_cons_self
    rw [List.flatMap_cons, List.length_append, ztj, List.length_cons]
    omega

theorem zo8 (N : Nat) {s : z9j} {t : z8p} {x12 : List z8p} {x13 x14 : Int} {o : List EvD} (h8 : t.2.2.2.1.length <= 8) (hN : 40 < N) (ho : o.length <= 1000) (K : List EvD -> Option (List EvD)) :
    zaa N s o t x12 x13 x14 t.2.2.2.1 ((t.2.2.2.1.length : Nat) : Int) 0 K = K (o ++ zb3 t.1 t.2.2.2.1) := by
  rw [zaa]
  refine (z6f (fun v => ∃ (i : Nat), v.2 = (i : Int) /\ i <= t.2.2.2.1.length /\ v.1.length = o.length + i) (fun v => t.2.2.2.1.length - v.2.toNat) (fun v => K (v.1 ++ zb3 t.1 (t.2.2.2.1.drop v.2.toNat))) ?_ N (o, 0) ⟨0, rfl, Nat.zero_le _, rfl⟩ (by simp; omega)).trans (by simp)
  rintro ⟨a, v⟩ r ⟨i, hv, hi, ha⟩ hr
  dsimp only at hv ha
  subst hv
  rw [za8]
  simp only [Int.toNat_natCast]
  rcases Nat.lt_or_ge i t.2.2.2.1.length with hlt | hge
  . rw [z1z (zcg (by omega)), z1z (z7o hlt), z1z (zcg (by omega)), show ((0 : Int), (([] : List UInt8), ())) = dKey from rfl, z3w (by omega), hr _ ⟨i + 1, rfl, by omega, by simp; omega⟩ (by simp; omega)]
    simp only [Int.toNat_natCast]
    rw [z7u t.2.2.2.1 dKey i hlt, zb3, zb3, List.map_cons, List.append_assoc]
    rfl
  . rw [z3s (zha (by omega)), List.drop_of_length_le hge]
    simp [zb3]

theorem zpm (N : Nat) (hN : 40 < N) (s : z9j) : z6x N s = some (zn5 s) := by
  rw [z6x, zir N hN, Option.bind_some, zn5]
  cases hr : z25 s with
  | false => rfl
  | true =>
    obtain ⟨r1, r2, r3⟩ := z3m.1 hr
    have h8 : ∀ t ∈ s.1, t.2.2.2.1.length <= 8 := fun t ht => (z3x (z5t r3 t ht)).2.2.2.1
    rw [Bool.not_true, cond_false, if_neg (show ¬ (true = false) by decide), zfk]
    refine (z6f (fun v => ∃ (i : Nat), v.2 = (i : Int) /\ i <= s.1.length /\ v.1.length <= 9 * i) (fun v => s.1.length - v.2.toNat) (fun v => some (v.1 ++ ((s.1.drop v.2.toNat).flatMap zhf ++ [evS s.2.1]))) ?_ N ([], 0) ⟨0, rfl, Nat.zero_le _, Nat.zero_le _⟩ (by simp; omega)).trans (by simp)
    rintro ⟨a, v⟩ r ⟨i, hv, hi, ha⟩ hrec
    dsimp only at hv ha
    subst hv
    rw [za9]
    simp only [Int.toNat_natCast]
    rcases Nat.lt_or_ge i s.1.length with hlt | hge
    . have hm := h8 _ (zt5 s.1 zch i hlt)
      rw [z1z (zcg (by omega)), z1z (z7o hlt), z1z (zcg (by omega)), show (([] : List UInt8), ((0 : Int), ((0 : Int), (([] : List (Int × (List UInt8 × Unit))), ())))) = zch from rfl, z3w (by omega), zo8 N hm hN (by simp; omega), hrec _ ⟨i + 1, rfl, by omega, by
        simp only [List.length_append, List.length_cons, List.length_nil, zb3, List.length_map]; omega⟩ (by simp; omega)]
      simp only [Int.toNat_natCast]
      rw [z7u s.1 zch i hlt, List.flatMap_cons, zhf]
      simp only [List.append_assoc, List.cons_append, List.nil_append]
      rfl
    . rw [z3s (zha (by omega)), List.drop_of_length_le hge, z1z (zcg (by omega))]
      rfl

theorem zen : ∀ (l1 : List EvD) {s : z9j} {s1 : z9j} (l2 : List EvD), zld s l1 = (s1, (0, ())) -> zld s (l1 ++ l2) = zld s1 l2
  | [], s, s1, l2, h => by
    rw [zld] at h
    rw [List.nil_append, (Prod.mk.inj h).1]
  | e :: l1, s, s1, l2, h => by
    rw [zld] at h
    rw [List.cons_append, zld]
    by_cases hz : (z5i s e).2.1 = 0
    . rw [if_pos hz] at h ⊢
      exact zen l1 l2 h
    . rw [if_neg hz] at h
      exact absurd (congrArg (fun x => x.2.1) h) hz

theorem zyw {s s1 : z9j} {e : EvD} (h : z5i s e = (s1, (0, ()))) : zld s [e] = (s1, (0, ())) := by
  rw [zld, h, if_pos rfl, zld]

theorem zom {α : Type} (p : α -> Bool) : ∀ (l : List α) (i : Nat), (∀ y ∈ l, p y = false) -> zb8 p l i = -1
  | [], _, _ => rfl
  | y :: l, i, h => by rw [zb8, h y List.mem_cons_self, if_neg (by decide), zom p l (i + 1) (fun z hz => h z (List.mem_cons_of_mem _ hz))]

theorem zj0 {α : Type} (p : α -> Bool) : ∀ (l : List α), (∀ y ∈ l, p y = true) -> (l.takeWhile p).length = l.length
  | [], _ => rfl
  | y :: l, h => by rw [List.takeWhile_cons, h y List.mem_cons_self, if_pos rfl, List.length_cons, List.length_cons, zj0 p l (fun z hz => h z (List.mem_cons_of_mem _ hz))]

theorem zxi {ts : List z8p} {ser : Int} {tn : List UInt8} {ep nx : Int} (hr : z25 (ts, (ser, ())) = true) (h16 : ts.length < 16) (hlt : ∀ x ∈ ts, zep x.1 tn < 0) (hw : z88 tn = true) (h1 : z9e ep 0 = true) (h2 : z9e nx 1 = true) :
    z5i (ts, (ser, ())) (evT tn ep nx) = ((ts ++ [(tn, (ep, (nx, ([], ()))))], (ser, ())), (0, ())) := by
  refine zhc hr (z119 hw h1 h2) ?_
  have hn : zb8 (fun t : z8p => t.1 == tn) ts 0 = -1 := zom _ ts 0 (fun y hy => by
    rw [beq_eq_false_iff_ne]; intro e
    have := hlt y hy
    rw [e, zl3] at this; omega)
  have ha : z69 ts tn = ts.length := by
    unfold z69
    exact zj0 _ ts (fun y hy => by rw [zor, decide_eq_true (hlt y hy)])
  rw [z10i, show atL (ts, (ser, ())) tn = -1 from hn, if_neg (by decide)]
  dsimp only
  rw [if_neg (by omega), ha, List.take_length, List.drop_length, List.append_nil]

theorem zxj {ts : List z8p} {ser : Int} {tn : List UInt8} {ep nx : Int} {ks : List zmi} {k : zmi} (hr : z25 (ts ++ [(tn, (ep, (nx, (ks, ()))))], (ser, ())) = true) (hlt : ∀ x ∈ ts, zep x.1 tn < 0) (hk : ∀ x ∈ ks, x.1 < k.1) (h8 : ks.length < 8) (h1 : 1 <= k.1) (h2 : k.1 < nx) (h32 : k.2.1.length = 32) :
    z5i (ts ++ [(tn, (ep, (nx, (ks, ()))))], (ser, ())) (evK tn k.1 k.2.1) = ((ts ++ [(tn, (ep, (nx, (ks ++ [k], ()))))], (ser, ())), (0, ())) := by
  obtain ⟨r1, r2, r3⟩ := z3m.1 hr
  have ht := z3x (z5t r3 (tn, (ep, (nx, (ks, ())))) (by simp))
  have hx : 1 <= nx /\ nx <= 1099511627776 := zwn.1 ht.2.2.1
  refine zhc hr (z11b ht.1 (zwn.2 ⟨h1, by omega⟩) h32) ?_
  obtain ⟨hn, hg⟩ := z10m (ser := ser) (ts := ts) (t := (tn, (ep, (nx, (ks, ()))))) (fun y hy e => by
    have := hlt y hy
    rw [e, zl3] at this; omega)
  dsimp only at hn hg
  have hkn : zb8 (fun x : zmi => x.1 == k.1) ks 0 = -1 := zom _ ks 0 (fun y hy => by
    rw [beq_eq_false_iff_ne]; have := hk y hy; omega)
  have ha : zdc ks k.1 = ks.length := by
    unfold zdc
    exact zj0 _ ks (fun y hy => decide_eq_true (hk y hy))
  have hka : z3g (tn, (ep, (nx, (ks, ())))) 2 k.1 k.2.1 = (0, ks ++ [k]) := by
    unfold z3g
    dsimp only
    rw [if_pos rfl, if_neg (by omega), hkn, if_neg (by decide), if_neg (by omega), ha, List.take_length, List.drop_length, List.append_nil]
  rw [z10k, hn, hg, if_neg (by omega), Int.toNat_natCast, hka]
  unfold zvc
  dsimp only
  rw [List.take_left', List.drop_of_length_le (by simp)]
  rfl

theorem zte : ∀ (l : List zmi) {ts : List z8p} {ser : Int} {tn : List UInt8} {ep nx last : Int} {ks : List zmi}, z25 (ts ++ [(tn, (ep, (nx, (ks, ()))))], (ser, ())) = true -> (∀ x ∈ ts, zep x.1 tn < 0) -> z9d nx last l = true -> (∀ x ∈ ks, x.1 <= last) -> 0 <= last -> ks.length + l.length <= 8 →
    zld (ts ++ [(tn, (ep, (nx, (ks, ()))))], (ser, ())) (zb3 tn l) = ((ts ++ [(tn, (ep, (nx, (ks ++ l, ()))))], (ser, ())), (0, ()))
  | [], ts, ser, tn, ep, nx, last, ks, _, _, _, _, _, _ => by rw [List.append_nil]; rfl
  | k :: l, ts, ser, tn, ep, nx, last, ks, hr, hlt, hk, hks, h0, hl => by
    obtain ⟨g1, g2, g3, g4⟩ := z3f.1 hk
    rw [List.length_cons] at hl
    have ha := zxj hr hlt (k := k) (fun x hx => by have := hks x hx; omega) (by omega) (by omega) g2 g3
    have hr' := zem (ts ++ [(tn, (ep, (nx, (ks, ()))))], (ser, ())) (evK tn k.1 k.2.1)
    rw [ha] at hr'
    rw [zb3, List.map_cons, zld, ha, if_pos rfl]
    have := zte l hr' hlt g4 (fun x hx => by
      rcases List.mem_append.1 hx with h | h
      . have := hks x h; omega
      . rw [List.mem_singleton.1 h]; omega) (by omega) (by rw [List.length_append, List.length_singleton]; omega)
    rw [List.append_assoc] at this
    exact this

theorem ztd : ∀ (l : List z8p) {ts : List z8p} {ser : Int} {p : Option (List UInt8)}, z25 (ts, (ser, ())) = true -> z71 p l = true -> (∀ x ∈ ts, ∀ y ∈ l, zep x.1 y.1 < 0) -> ts.length + l.length <= 16 →
    zld (ts, (ser, ())) (l.flatMap zhf) = ((ts ++ l, (ser, ())), (0, ()))
  | [], ts, ser, p, _, _, _, _ => by rw [List.append_nil]; rfl
  | t :: l, ts, ser, p, hr, ht, hlt, hl => by
    obtain ⟨g1, g2, g3⟩ := z32.1 ht
    rw [List.length_cons] at hl
    have tp := z3x g2
    obtain ⟨tn, ep, nx, ks, u⟩ := t
    cases u
    dsimp only at tp g3 g1
    have hltt : ∀ x ∈ ts, zep x.1 tn < 0 := fun x hx => hlt x hx _ List.mem_cons_self
    have ha := zxi hr (by omega) hltt tp.1 tp.2.1 tp.2.2.1
    have hr' := zem (ts, (ser, ())) (evT tn ep nx)
    rw [ha] at hr'
    have hk := zte ks (last := 0) (ks := []) hr' hltt tp.2.2.2.2 (fun x hx => by cases hx) (by omega) (by simpa using tp.2.2.2.1)
    have hr2 : z25 (ts ++ [(tn, (ep, (nx, (ks, ()))))], (ser, ())) = true := by
      have := zqm (zb3 tn ks) hr'
      rw [hk] at this
      exact this
    have h1 : zld (ts, (ser, ())) (zhf (tn, (ep, (nx, (ks, ()))))) = ((ts ++ [(tn, (ep, (nx, (ks, ()))))], (ser, ())), (0, ())) := by
      show zld (ts, (ser, ())) (evT tn ep nx :: zb3 tn ks) = _
      rw [zld, ha, if_pos rfl]
      exact hk
    rw [List.flatMap_cons, zen _ _ h1, ztd l hr2 g3 (fun x hx y hy => ?_) (by rw [List.length_append, List.length_singleton]; omega), List.append_assoc]
    . rfl
    . rcases List.mem_append.1 hx with h | h
      . exact hlt x h y (List.mem_cons_of_mem _ hy)
      . rw [List.mem_singleton.1 h]; exact zmj g3 y hy

theorem zrj {s : z9j} (hr : z25 s = true) : zld ([], (0, ())) (zn5 s) = (s, (0, ())) := by
  obtain ⟨r1, r2, r3⟩ := z3m.1 hr
  obtain ⟨ts, ser, u⟩ := s
  cases u
  have r2' : 0 <= ser /\ ser <= 1099511627776 := zwn.1 r2
  have h1 := ztd ts (ts := []) (ser := 0) (p := none) rfl r3 (fun x hx => by cases hx) (by simpa using r1)
  rw [List.nil_append] at h1
  unfold zn5
  rw [hr, if_neg (by decide), zen _ _ h1]
  have hr' : z25 (ts, ((0 : Int), ())) = true := z3m.2 ⟨r1, (by decide : z9e 0 0 = true), r3⟩
  refine zyw (zhc hr' (z11a r2) ?_)
  rw [z10j]
  exact if_neg (by dsimp only; omega)

theorem zwo {s : z9j} (hr : z25 s = true) : (zn5 s).length <= 145 := by
  obtain ⟨r1, r2, r3⟩ := z3m.1 hr
  have := zt7 s.1 (fun t ht => (z3x (z5t r3 t ht)).2.2.2.1)
  unfold zn5
  rw [hr, if_neg (by decide), List.length_append, List.length_singleton]
  omega

end
end Go.Proofs.YtlohplpnhopldaaLg

set_option linter.all false
set_option maxRecDepth 100000
namespace Go.Proofs.YtlohplpnhopldaaLg
noncomputable section
open Go Go.Lift Go.Proofs.YtlohplpnhopldaaPx

def z11f (t : z8p) : Bool := decide (12 < t.2.2.2.1.length) || decide (100 < t.1.length)

theorem zye (N : Nat) (hN : 40 < N) (s : z9j) : z2h N s = some (decide (20 < s.1.length) || s.1.any z11f) := by
  rw [z2h]
  by_cases h : 20 < s.1.length
  . rw [z1z (zcg (by omega)), decide_eq_true h]; rfl
  rw [z3s (zha (by omega)), decide_eq_false h, Bool.false_or, z6j]
  refine (z6f (fun v => ∃ (i : Nat), v = (i : Int) /\ i <= s.1.length) (fun v => s.1.length - v.toNat) (fun v => some ((s.1.drop v.toNat).any z11f)) ?_ N 0 ⟨0, rfl, Nat.zero_le _⟩ (by simp; omega)).trans (by simp)
  rintro v r ⟨i, rfl, hi⟩ hr
  rw [z3t]
  simp only [Int.toNat_natCast]
  rcases Nat.lt_or_ge i s.1.length with hlt | hge
  . rw [z1z (zcg (by omega)), z3v, z3u, show (([] : List UInt8), ((0 : Int), ((0 : Int), (([] : List (Int × (List UInt8 × Unit))), ())))) = zch from rfl]
    simp only [z7o hlt, cond_true, z3w (show i < 9223372036854775807 by omega), Int.toNat_natCast]
    rw [show r ((i + 1 : Nat) : Int) = some ((s.1.drop (i + 1)).any z11f) from (hr _ ⟨i + 1, rfl, by omega⟩ (by simp; omega)).trans rfl, z7u s.1 zch i hlt, List.any_cons, z11f]
    by_cases c1 : 12 < (s.1.getD i zch).2.2.2.1.length
    . rw [z1z (zcg (by omega)), decide_eq_true c1]; rfl
    . rw [z3s (zha (by omega)), decide_eq_false c1]
      by_cases c2 : 100 < (s.1.getD i zch).1.length
      . rw [z1z (zcg (by omega)), decide_eq_true c2]; rfl
      . rw [z3s (zha (by omega)), decide_eq_false c2]; rfl
  . rw [z3s (zha (by omega)), List.drop_of_length_le hge]
    rfl

theorem zve (N : Nat) {s : z9j} (hl : s.1.length < N) (hb : s.1.length <= 1000) (hk : ∀ x ∈ s.1, x.2.2.2.1.length < N /\ x.2.2.2.1.length <= 1000) : z1q N s s = some true := by
  rw [z1q, z2z, z2y]
  simp only [bne_self_eq_false, cond_false]
  rw [z4t]
  refine (z6f (fun v => ∃ (i : Nat), v = (i : Int) /\ i <= s.1.length) (fun v => s.1.length - v.toNat) (fun v => some true) ?_ N 0 ⟨0, rfl, Nat.zero_le _⟩ (by simpa using hl))
  rintro v r ⟨i, rfl, hi⟩ hr
  rw [z2u]
  rcases Nat.lt_or_ge i s.1.length with hlt | hge
  . rw [z1z (zcg (by omega)), z2x]
    rw [show (([] : List UInt8), ((0 : Int), ((0 : Int), (([] : List (Int × (List UInt8 × Unit))), ())))) = zch from rfl]
    simp only [z7o hlt, cond_true, z3w (show i < 9223372036854775807 by omega), Int.toNat_natCast]
    have hm := hk _ (zt5 s.1 zch i hlt)
    generalize s.1.getD i zch = t at hm
    rw [z2w, z2v]
    simp only [bne_self_eq_false, beq_self_eq_true, Bool.not_true, cond_false]
    rw [z4s]
    refine (z6f (fun v => ∃ (k : Nat), v = (k : Int) /\ k <= t.2.2.2.1.length) (fun v => t.2.2.2.1.length - v.toNat) (fun v => some true) ?_ N 0 ⟨0, rfl, Nat.zero_le _⟩ (by simpa using hm.1))
    rintro v r' ⟨k, rfl, hk'⟩ hr'
    rw [z2t]
    rcases Nat.lt_or_ge k t.2.2.2.1.length with hlt' | hge'
    . rw [z1z (zcg (by omega))]
      simp only [z7o hlt', cond_true, z3w (show k < 9223372036854775807 by omega), Int.toNat_natCast]
      refine (z3s (congrArg not (zyj (t := T.pair (T.int IntKind.i64) (T.pair T.str T.unit)) rfl (t.2.2.2.1.getD k ((0 : Int), (([] : List UInt8), ()))))) _ _).trans ?_
      exact hr' _ ⟨k + 1, rfl, by omega⟩ (by simp; omega)
    . rw [z3s (zha (by omega))]
      exact hr _ ⟨i + 1, rfl, by omega⟩ (by simp; omega)
  . rw [z3s (zha (by omega))]

theorem ztp (N : Nat) (hN : 40 < N) {s : z9j} (h : z25 s = true) : z1q N s s = some true := by
  obtain ⟨h1, h2, h3⟩ := z3m.1 h
  refine zve N (by omega) (by omega) fun x hx => ?_
  have := (z3x (z5t h3 x hx)).2.2.2.1
  omega

end
end Go.Proofs.YtlohplpnhopldaaLg

set_option linter.all false
set_option maxRecDepth 100000
namespace Go.Proofs.YtlohplpnhopldaaLg
noncomputable section
open Go Go.Lift Go.Proofs.YtlohplpnhopldaaPx

theorem zga (k : Nat) : z2i (k + 300) = some true := by kernel_rfl

theorem zwp (k : Nat) (s : z9j) : z1j (k + 300) s = some true := by
  rw [z1j, z2k, z2j, zye _ (by omega), Option.bind_some]
  cases hg : (decide (20 < s.1.length) || s.1.any z11f) with
  | true => rw [cond_true, cond_true, zga, Option.bind_some]
  | false =>
    rw [cond_false, zir _ (by omega), Option.bind_some]
    cases hr : z25 s with
    | false => rw [Bool.not_false, cond_true, zga, Option.bind_some]
    | true =>
      have h145 := zwo hr
      rw [Bool.not_true, cond_false, zpm _ (by omega), Option.bind_some, zyu _ (by omega) (show z25 (([] : List z8p), ((0 : Int), ())) = true from rfl) (by omega) (by omega), Option.bind_some, zrj hr]
      dsimp only
      rw [ztp _ (by omega) hr, Option.bind_some, zga, Option.bind_some]
      rw [z1z (beq_self_eq_true _), cond_true, z1z (zcg (by omega))]

end
end Go.Proofs.YtlohplpnhopldaaLg
